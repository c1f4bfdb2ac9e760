/- Several texts in one; each begins with a remark that says what it shows and on which conditions. -/
import Derived.WalkKit
import Derived.Laws.AppendOwnNone
import Derived.Laws.CopyOwn
import Derived.Lib.Hide
import Derived.Deep.Draws
import Derived.Lib.BitFns
import Derived.Lib.ItoaNum
import Derived.Test.YtekgoceainibaaaProg
import Derived.BigQuiet
import Derived.Deep.QuietTactic
import Derived.Outline
import Derived.BigRegion
import Derived.RegionTactic
import Derived.Deep.LoopGhost
import Derived.WalkLawsBesides
import Derived.Shelf.Small.Bits
import Derived.Shelf.Small.Wraps
import Derived.Shelf.Strconv.Itoa0
import Derived.Shelf.Bits.Mul64
import Derived.Ground.Names2Prog
import Derived.Shelf.Slices.SearchI
import Derived.RangeFuncNested
import Derived.RangeFuncBound
import Derived.RangeFuncCalls
import Derived.RangeFuncLeaves
import Derived.RangeFuncBox
import Derived.Shelf.Abstract
import Derived.Shelf.RegionOpen
import Derived.OwnWalkIn
import Derived.TacticsInMore
import Derived.LoopNIn
import Derived.LoopIn
import Derived.Maps.AppendAt
import Derived.Shelf.Spec.BitsCarry
import Derived.IntWalk
/- Words for memory and numbers, over any program: a slice that reads as a list of numbers (nil and empty let in), and what appending such a slice does. No condition but those typed. -/
namespace Go.Proofs.Ytekgoceainibaaa
open Go.RowKit
/-- Number j of a list, 0 behind its end. -/
def nth (l : List Nat) (j : Nat) : Nat := l.getD j 0
/-- Numbers as cells of an integer kind. -/
def ints (k : IntKind) (l : List Nat) : List Value := l.map fun n : Nat => .int k (n : Int)
theorem nth_eq (l : List Nat) (j : Nat) (h : j < l.length) : nth l j = l[j] := by simp [nth, h]
theorem nth_mem (l : List Nat) (j : Nat) (h : j < l.length) : nth l j ∈ l := by rw [nth_eq l j h]; exact List.getElem_mem h
theorem length_ints (k : IntKind) (l : List Nat) : (ints k l).length = l.length := by simp [ints]
theorem ints_append (k : IntKind) (l m : List Nat) : ints k (l ++ m) = ints k l ++ ints k m := by simp [ints]
theorem ints_get (k : IntKind) (l : List Nat) (j : Nat) (h : j < l.length) : (ints k l)[j]? = some (.int k (nth l j : Int)) := by
  simp [ints, nth, h]
theorem ints_one (k : IntKind) (l : List Nat) : ∀ u ∈ ints k l, u.oneCell' = true := by
  intro u hu
  obtain ⟨_, _, rfl⟩ := List.mem_map.1 hu
  rfl
/-- Two endings with one number. -/
theorem ret_num {k : IntKind} {a b : Int} (h : a = b) : Ending.returned (.int k a) = .returned (.int k b) := by rw [h]
/-- The slice at A reads as the numbers l, in blocks below B. -/
def Rd (k : IntKind) (w : World) (B : Nat) (A : Option Addr) (l : List Nat) : Prop :=
  0 < l.length → ∃ b off, A = some ⟨b, off, none⟩ ∧ b < B ∧ ∀ j, j < l.length → w.cell? ⟨b, off + j, none⟩ = some (.int k (nth l j : Int))
section
variable {k : IntKind} {w w' : World} {B B' : Nat} {A : Option Addr} {l : List Nat}
theorem Rd.nil : Rd k w B A [] := fun h => absurd h (by simp)
theorem Rd.keep (h : Rd k w B A l) (hk : ∀ b o, b < B → w'.cell? ⟨b, o, none⟩ = w.cell? ⟨b, o, none⟩) : Rd k w' B A l := fun hl => by
  obtain ⟨b, off, e, hb, hc⟩ := h hl
  exact ⟨b, off, e, hb, fun j hj => (hk b (off + j) hb).trans (hc j hj)⟩
theorem Rd.below (h : Rd k w B A l) (hb : Below B w w') : Rd k w' B A l := h.keep fun b o hlt => hb.cell (p := ⟨b, o, none⟩) hlt
theorem Rd.more (h : Rd k w B A l) (hB : B ≤ B') : Rd k w B' A l := fun hl => by
  obtain ⟨b, off, e, hb, hc⟩ := h hl
  exact ⟨b, off, e, by omega, hc⟩
theorem Rd.grown {row : Option Nat} (h : Rd k w B A l) (hg : w.grownBy w' row) (hB : B ≤ w.heap.size) (hr : ∀ g, row = some g → B ≤ g) : Rd k w' B A l :=
  h.below ((Below.refl B w).grown hg hB hr)
/-- A row of the call's own reads as what it owns. -/
theorem Rd.own {base : Nat} {e : TypeId} {n c : Nat} (h : w.ownsRow base e 1 (.slice A n c) n (ints k l)) : Rd k w w.heap.size A l := fun hl => by
  have hn : l.length = n := by have := h.1; rw [length_ints] at this; omega
  rcases h.2 with ⟨_, h0⟩ | ⟨g, cap, cur, hv, _, hh, _⟩
  · omega
  · injection hv with hA hn' hc
    subst hA
    subst hc
    have hlt : g < w.heap.size := by
      rcases Nat.lt_or_ge g w.heap.size with h1 | h1
      · exact h1
      · rw [Array.getElem?_eq_none h1] at hh; cases hh
    refine ⟨g, 0, rfl, hlt, fun j hj => ?_⟩
    rw [Nat.zero_add, h.cellAt j (by omega), ints_get k l j hj]
/-- The value of a row of the call's own, written out. -/
theorem own_form {base : Nat} {e : TypeId} {n : Nat} {v : Value} {xs : List Value} (h : w.ownsRow base e 1 v n xs) : ∃ A c, v = .slice A n c ∧ n ≤ c ∧ c ≤ maxLen := by
  rcases h.2 with ⟨rfl, rfl⟩ | ⟨g, cap, cur, rfl, _, _, hn, hm, _⟩
  · exact ⟨none, 0, rfl, Nat.le_refl _, Nat.zero_le _⟩
  · exact ⟨_, cap, rfl, hn, hm⟩
/-- A block that is known whole is owned. -/
theorem own_of_heap {base e g n cap : Nat} {cur xs : List Value} (hh : w.heap[g]? = some (.cells cur.toArray e (0, 0))) (hb : base ≤ g) (hn : n ≤ cap) (hm : cap ≤ maxLen) (hc : cur.length = cap) (hx : cur.take n = xs) :
    w.ownsRow base e 1 (.slice (some ⟨g, 0, none⟩) n cap) n xs :=
  ⟨by subst hx; simp; omega, .inr ⟨g, cap, cur.toArray, rfl, hb, hh, hn, hm, by simpa using hc, by simpa using hx⟩⟩
/-- A store turns its own block alone. -/
theorem grown_setCell (w : World) (p : Addr) (u : Value) : w.grownBy (w.setCell p u) (some p.block) :=
  ⟨rfl, rfl, rfl, by simp [World.setCell], fun i _ hne => Below.heap_setCell _ _ _ _ (fun e => hne (by rw [e]))⟩
/-- s[k:] -/
theorem Rd.drop (h : Rd k w B A l) {i cap : Nat} (hc : l.length ≤ cap) : Rd k w B (if cap = i then A else A.map (·.add i)) (l.drop i) := fun hl => by
  have hlt : i < l.length := by rw [List.length_drop] at hl; omega
  obtain ⟨b, off, rfl, hb, hcell⟩ := h (by omega)
  refine ⟨b, off + i, ?_, hb, fun j hj => ?_⟩
  · rw [if_neg (by omega)]
    by_cases h0 : i = 0 <;> simp [Addr.add, h0]
  · have := hcell (i + j) (by simp at hj; omega)
    rw [Nat.add_assoc, this]
    simp [nth, List.getElem?_drop]
/-- s[:k] -/
theorem Rd.take (h : Rd k w B A l) (i : Nat) : Rd k w B A (l.take i) := fun hl => by
  have hlt : 0 < l.length := by simp at hl; omega
  obtain ⟨b, off, rfl, hb, hcell⟩ := h hlt
  refine ⟨b, off, rfl, hb, fun j hj => ?_⟩
  have hj' : j < i ∧ j < l.length := by simp at hj; omega
  rw [hcell j hj'.2]
  simp [nth, hj'.1]
end
section
variable {P : Program} (w : World)
theorem run_append_nothing (base : Nat) (t ty e : TypeId) (i : TypeInfo) (ht : P.underlying t = some (.slice e)) (hi : P.info? e = some i)
    (v : Value) (n : Nat) (xs : List Value) (hown : w.ownsRow base e 1 v n xs) (c : Nat) : (Builtin.append_ #[t, t] ty #[v, .slice none 0 c]).run P w = .ok v w := by
  rcases hown.2 with ⟨rfl, rfl⟩ | ⟨g, cap, cur, rfl, _, _, hnc, _⟩
  · simp [Builtin.append_, run_underlying ht, sizeOf, typeInfo, hi, Builtin.lenOf, Builtin.firstCells]
  · simp [Builtin.append_, run_underlying ht, sizeOf, typeInfo, hi, Builtin.lenOf, Builtin.firstCells, hnc, storeCells]
/-- 'out = append(out, src...)', out a row of the call's own, src any slice that reads as numbers. -/
theorem wpList_append_rd {ops : Array Oper} {rest : List Oper} {o : Oper} {a : Act} {Q : Exit → Act → World → Prop} (hgd : o.guard = none) (s x : Operand) (t : TypeId)
    (ho : o.op = .call { callee := .builtin .append, args := #[s, x], argTypes := #[t, t] })
    (base : Nat) (e : TypeId) (i : TypeInfo) (z : Value) (bytes : Nat) (ht : P.underlying t = some (.slice e)) (hi : P.info? e = some i) (hz : i.zero = some z)
    (hsize : i.size = 1) (hby : i.bytes = bytes) (hzs : z.cells.size = 1)
    (v : Value) (n : Nat) (xs : List Value) (hs : a.eval s = v) (hown : w.ownsRow base e 1 v n xs)
    (k : IntKind) (B : Nat) (A : Option Addr) (m c : Nat) (l : List Nat) (hx : a.eval x = .slice A m c) (hm : l.length = m) (hr : Rd k w B A l)
    (h63 : n + m ≤ maxLen) (hbytes : (n + m) * bytes ≤ 140737488355328) (hbase : base ≤ w.heap.size)
    (h : ∀ v' w', w'.ownsRow base e 1 v' (n + m) (xs ++ ints k l) → w.grownBy w' v.ownBlock → wpList P ops Q rest (a.put o.dst v') w') : wpList P ops Q (o :: rest) a w := by
  rcases A with _ | ad
  · have h0 : l = [] := by
      rcases Nat.eq_zero_or_pos l.length with h0 | h0
      · exact List.eq_nil_of_length_eq_zero h0
      · obtain ⟨_, _, he, _⟩ := hr h0
        cases he
    subst h0
    obtain rfl : m = 0 := by simpa using hm.symm
    refine wpList_plain hgd fun K hK => ?_
    have hrun := run_append_nothing (P := P) w base t o.type e i ht hi v n xs hown c
    unfold Oper.wp
    simp [execOp, ho, resolve, invoke, builtin, hs, hx, hrun, Result.andThen]
    exact hK _ _ (h v w (by simpa [ints] using hown) (World.grownBy.refl w _))
  · have hcells : ∀ j u, (ints k l)[j]? = some u → w.cell? (ad.add j) = some u := by
      intro j u hu
      have hj : j < l.length := by have := (List.getElem?_eq_some_iff.1 hu).1; rwa [length_ints] at this
      obtain ⟨b, off, he, _, hc⟩ := hr (by omega)
      injection he with he
      subst he
      rw [ints_get k l j hj] at hu
      rw [Addr.add_lit, hc j hj, hu]
    exact wpList_append_own w hgd s x t ho base e i z 1 bytes ht hi hz hsize hby hzs (by omega) v n xs hs hown ad m c (ints k l) hx (by rw [length_ints]; omega) hcells (ints_one k l) h63 hbytes hbase
      fun v' w' h1 h2 _ => h v' w' h1 h2
theorem below_of_grown {base : Nat} {e : TypeId} {v : Value} {n : Nat} {xs : List Value} {w' : World} (hown : w.ownsRow base e 1 v n xs) (hg : w.grownBy w' v.ownBlock) (hbase : base ≤ w.heap.size) : Below base w w' :=
  (Below.refl _ _).grown hg hbase fun g hg' => (hown.lt g hg').1
/-- 'out = append(out, x)', out a row of the call's own: x stands in a new block first. -/
theorem wpList_append_one {ops : Array Oper} {rest : List Oper} {o : Oper} {a : Act} {Q : Exit → Act → World → Prop} (hgd : o.guard = none) (s x : Operand) (t : TypeId)
    (ho : o.op = .call { callee := .builtin .append, args := #[s, x], argTypes := #[t, t] })
    (base : Nat) (e : TypeId) (i : TypeInfo) (z : Value) (bytes : Nat) (ht : P.underlying t = some (.slice e)) (hi : P.info? e = some i) (hz : i.zero = some z)
    (hsize : i.size = 1) (hby : i.bytes = bytes) (hzs : z.cells.size = 1)
    (v : Value) (n : Nat) (k : IntKind) (ys : List Nat) (hs : a.eval s = v) (hown : w.ownsRow base e 1 v n (ints k ys)) (X : Int) (y : Nat) (hX : X = (y : Int))
    (hx : a.eval x = .slice (some ⟨w.heap.size, 0, none⟩) 1 1)
    (h63 : n + 1 ≤ maxLen) (hbytes : (n + 1) * bytes ≤ 140737488355328) (hbase : base ≤ w.heap.size)
    (h : ∀ v' w', w'.ownsRow base e 1 v' (n + 1) (ints k (ys ++ [y])) → w.grownBy w' v.ownBlock → Below base w w' → wpList P ops Q rest (a.put o.dst v') w') : wpList P ops Q (o :: rest) a (w.alloc (.cells #[.int k X] e)) := by
  subst hX
  have hown2 := hown.alloc (.cells #[.int k (y : Int)] e)
  refine wpList_append_rd _ hgd s x t ho base e i z bytes ht hi hz hsize hby hzs v n (ints k ys) hs hown2 k (w.heap.size + 1) (some ⟨w.heap.size, 0, none⟩) 1 1 [y] hx rfl (fun _ => ⟨_, _, rfl, Nat.lt_succ_self _, fun j hj => ?_⟩) h63 hbytes (by simp; omega) fun v' w' h1 h2 => ?_
  · obtain rfl : j = 0 := by simpa using hj
    simp [nth]
  · have hg : w.grownBy w' v.ownBlock := ⟨h2.os, h2.tape, h2.output, Nat.le_trans (by simp) h2.size, fun q hq hne => (h2.block q (by simp; omega) hne).trans (Below.heap_alloc _ _ _ hq)⟩
    exact h v' w' (by rw [ints_append]; exact h1) hg (below_of_grown w hown hg hbase)
end
/-- What is owned from a block on is owned from an earlier one on. -/
theorem own_base {w : World} {b b' : Nat} {e : TypeId} {v : Value} {n : Nat} {xs : List Value} (h : w.ownsRow b e 1 v n xs) (hb : b' ≤ b) : w.ownsRow b' e 1 v n xs := by
  refine ⟨h.1, ?_⟩
  rcases h.2 with h2 | ⟨g, cap, cur, e1, e2, e3⟩
  · exact .inl h2
  · exact .inr ⟨g, cap, cur, e1, Nat.le_trans hb e2, e3⟩
/-- What is owned is owned behind a call that leaves alone what lay. -/
theorem own_step {w w' : World} {base : Nat} {e : TypeId} {v : Value} {n : Nat} {xs : List Value} (h : w.ownsRow base e 1 v n xs) (b : Below w.heap.size w w') : w'.ownsRow base e 1 v n xs := by
  refine h.kept (row := none) ⟨b.os, b.tape, b.output, b.size, fun i hi _ => b.block i hi⟩ ?_
  rcases hv : v.ownBlock with _ | x
  · exact .inl rfl
  · exact .inr (by simp)
/-- Nothing has turned but the count of draws. -/
def Drawn (w w' : World) : Prop := ∃ n, w' = w.drewN n
theorem Drawn.refl (w : World) : Drawn w w := ⟨0, rfl⟩
theorem Drawn.more {w : World} (n : Nat) : Drawn w (w.drewN n) := ⟨n, rfl⟩
theorem Drawn.draws {w w' : World} (h : Drawn w w') (n : Nat) : Drawn w (w'.drewN n) := by
  obtain ⟨m, rfl⟩ := h
  exact ⟨m + n, by rw [World.drewN_drewN]⟩
theorem Drawn.trans {a b c : World} (h : Drawn a b) (k : Drawn b c) : Drawn a c := by
  obtain ⟨n, rfl⟩ := k
  exact h.draws n
theorem Drawn.below {w w' : World} (h : Drawn w w') (B : Nat) : Below B w w' := by
  obtain ⟨n, rfl⟩ := h
  exact ⟨rfl, rfl, rfl, Nat.le_refl _, fun _ _ => rfl⟩
theorem Drawn.rd {w w' : World} (h : Drawn w w') {k : IntKind} {B : Nat} {A : Option Addr} {l : List Nat} (hr : Rd k w B A l) : Rd k w' B A l := hr.below (h.below B)
theorem Drawn.own {w w' : World} (h : Drawn w w') {base : Nat} {e : TypeId} {n : Nat} {v : Value} {xs : List Value} (ho : w.ownsRow base e 1 v n xs) : w'.ownsRow base e 1 v n xs := by
  obtain ⟨m, rfl⟩ := h
  exact ho
theorem Drawn.size {w w' : World} (h : Drawn w w') : w'.heap.size = w.heap.size := by
  obtain ⟨m, rfl⟩ := h
  rfl
/-- A slice that is written out. -/
theorem Rd.lit (w : World) (k : IntKind) (e : TypeId) (l : List Nat) : Rd k (w.alloc (.cells (ints k l).toArray e)) (w.heap.size + 1) (some ⟨w.heap.size, 0, none⟩) l := fun _ =>
  ⟨_, _, rfl, Nat.lt_succ_self _, fun j hj => by
    have h := cell_of_row _ w.heap.size (0 + j) _ e (0, 0) (heap_alloc_new w (.cells (ints k l).toArray e))
    rw [h, Nat.zero_add]
    simpa using ints_get k l j hj⟩
end Go.Proofs.Ytekgoceainibaaa
/- Plain facts on numbers to the bases 256 and 2^64: digits, how many bytes a number needs, words. No condition but those typed; no program is named. -/
namespace Go.Proofs.Ytekgoceainibaaa
/-- The number of words of 64 bits, the lowest first. -/
def natOf : List Nat → Nat
  | [] => 0
  | a :: r => a + 18446744073709551616 * natOf r
/-- The number whose digits to the base 256 these are, the highest first. -/
def val : List Nat → Nat
  | [] => 0
  | x :: r => x * 256 ^ r.length + val r
/-- The lowest k words of a number, the lowest first. -/
def words : Nat → Nat → List Nat
  | 0, _ => []
  | k + 1, n => n % 18446744073709551616 :: words k (n / 18446744073709551616)
def Bytes (l : List Nat) : Prop := ∀ x ∈ l, x < 256
def Words (l : List Nat) : Prop := ∀ x ∈ l, x < 18446744073709551616
theorem natOf_lt (l : List Nat) (h : Words l) : natOf l < 18446744073709551616 ^ l.length := by
  induction l with
  | nil => simp [natOf]
  | cons x r ih =>
    have hx : x < 18446744073709551616 := h x (by simp)
    have hr := ih fun y hy => h y (by simp [hy])
    simp only [natOf, List.length_cons, Nat.pow_succ]
    generalize 18446744073709551616 ^ r.length = p at *
    omega
theorem nth_natOf (l : List Nat) (h : Words l) (j : Nat) : nth l j = natOf l / 18446744073709551616 ^ j % 18446744073709551616 := by
  induction l generalizing j with
  | nil => simp [nth, natOf]
  | cons x r ih =>
    have hx : x < 18446744073709551616 := h x (by simp)
    have hr := ih fun y hy => h y (by simp [hy])
    cases j with
    | zero => simp [nth, natOf]; omega
    | succ j =>
      have := hr j
      simp only [natOf, Nat.pow_succ]
      rw [Nat.mul_comm (18446744073709551616 ^ j), ← Nat.div_div_eq_div_mul, show (x + 18446744073709551616 * natOf r) / 18446744073709551616 = natOf r by omega, ← this]
      simp [nth]
theorem length_words (k n : Nat) : (words k n).length = k := by
  induction k generalizing n with
  | zero => rfl
  | succ k ih => simp [words, ih]
theorem words_words (k n : Nat) : Words (words k n) := by
  induction k generalizing n with
  | zero => intro x hx; simp [words] at hx
  | succ k ih =>
    intro x hx
    simp only [words, List.mem_cons] at hx
    rcases hx with rfl | hx
    · exact Nat.mod_lt _ (by omega)
    · exact ih _ x hx
theorem natOf_words (k n : Nat) : natOf (words k n) = n % 18446744073709551616 ^ k := by
  induction k generalizing n with
  | zero => simp [words, natOf, Nat.mod_one]
  | succ k ih => rw [words, natOf, ih, Nat.pow_succ, Nat.mul_comm (18446744073709551616 ^ k), Nat.mod_mul]
theorem nth_words (k n j : Nat) (h : j < k) : nth (words k n) j = n / 18446744073709551616 ^ j % 18446744073709551616 := by
  induction k generalizing n j with
  | zero => omega
  | succ k ih =>
    cases j with
    | zero => simp [words, nth]
    | succ j =>
      have := ih (n / 18446744073709551616) j (by omega)
      rw [Nat.pow_succ, Nat.mul_comm, ← Nat.div_div_eq_div_mul, ← this]
      simp [words, nth]
theorem ext_nth (l m : List Nat) (h : l.length = m.length) (h' : ∀ j, j < l.length → nth l j = nth m j) : l = m := by
  refine List.ext_getElem h fun j h1 h2 => ?_
  have := h' j h1
  rwa [nth_eq l j h1, nth_eq m j h2] at this
/-- Words that may be are those of their number. -/
theorem words_natOf (l : List Nat) (h : Words l) : words l.length (natOf l) = l :=
  ext_nth _ _ (length_words _ _) fun j hj => by
    rw [length_words] at hj
    rw [nth_words _ _ _ hj, nth_natOf l h]
theorem natOf_none (l : List Nat) (h : ∀ j, nth l j = 0) : natOf l = 0 := by
  induction l with
  | nil => rfl
  | cons x r ih =>
    have h0 : x = 0 := h 0
    have := ih fun j => h (j + 1)
    simp [natOf, h0, this]
theorem natOf_append (l m : List Nat) : natOf (l ++ m) = natOf l + 18446744073709551616 ^ l.length * natOf m := by
  induction l with
  | nil => simp [natOf]
  | cons x r ih =>
    simp only [List.cons_append, natOf, ih, List.length_cons, Nat.pow_succ, Nat.mul_add]
    rw [Nat.mul_right_comm, Nat.mul_comm 18446744073709551616 (18446744073709551616 ^ r.length * natOf m), Nat.add_assoc]
theorem nth_drop (l : List Nat) (k j : Nat) : nth (l.drop k) j = nth l (k + j) := by simp [nth, List.getElem?_drop]
theorem natOf_top (l : List Nat) (m : Nat) (hm : m < l.length) (hz : ∀ j, m + 1 ≤ j → nth l j = 0) :
    natOf l = natOf (l.take m) + 18446744073709551616 ^ m * nth l m := by
  have h1 : l = l.take m ++ (nth l m :: l.drop (m + 1)) := by
    rw [nth_eq l m hm, List.getElem_cons_drop, List.take_append_drop]
  have h2 : natOf (l.drop (m + 1)) = 0 := natOf_none _ fun j => by rw [nth_drop]; exact hz _ (by omega)
  have h3 : (l.take m).length = m := by simp; omega
  conv => lhs; rw [h1]
  rw [natOf_append, natOf, h2, h3]
  simp
theorem Words.take {l : List Nat} (h : Words l) (k : Nat) : Words (l.take k) := fun x hx => h x (List.mem_of_mem_take hx)
theorem Bytes.drop {l : List Nat} (h : Bytes l) (k : Nat) : Bytes (l.drop k) := fun x hx => h x (List.mem_of_mem_drop hx)
theorem Bytes.take {l : List Nat} (h : Bytes l) (k : Nat) : Bytes (l.take k) := fun x hx => h x (List.mem_of_mem_take hx)
theorem bitLen_le64 (x : Nat) (h : x < 18446744073709551616) : Lib.bitLen x ≤ 64 := Lib.bitLen_le x 64 (by omega) h
theorem words_none (k : Nat) : words k 0 = List.replicate k 0 := by
  induction k with
  | zero => rfl
  | succ k ih => simp [words, ih, List.replicate_succ]
theorem nth_set (l : List Nat) (j y q : Nat) (h : j < l.length) : nth (l.set j y) q = if q = j then y else nth l q := by
  unfold nth
  by_cases e : q = j
  · subst e; simp [h]
  · rw [if_neg e, List.getD_eq_getElem?_getD, List.getD_eq_getElem?_getD, List.getElem?_set_ne (fun h => e h.symm)]
theorem natOf_set (l : List Nat) (j d : Nat) (h : j < l.length) : natOf (l.set j (nth l j + d)) = natOf l + 18446744073709551616 ^ j * d := by
  induction l generalizing j with
  | nil => simp at h
  | cons x r ih =>
    cases j with
    | zero => simp [natOf, nth]; omega
    | succ j =>
      have := ih j (by simpa using h)
      have e : nth (x :: r) (j + 1) = nth r j := by simp [nth]
      rw [e, List.set_cons_succ, natOf, this, natOf, Nat.pow_succ, Nat.mul_add, Nat.mul_comm (18446744073709551616 ^ j) 18446744073709551616, Nat.mul_assoc]
      omega
theorem mem_set {l : List Nat} {j y x : Nat} (h : x ∈ l.set j y) : x = y ∨ x ∈ l := by
  rcases List.mem_or_eq_of_mem_set h with h | h
  · exact .inr h
  · exact .inl h
theorem ints_set (k : IntKind) (l : List Nat) (j y : Nat) : (ints k l).set j (.int k (y : Int)) = ints k (l.set j y) := by simp [ints, List.map_set]
theorem natOf_replicate (k : Nat) : natOf (List.replicate k 0) = 0 := by rw [← words_none, natOf_words]; simp
theorem natOf_ext (a b : List Nat) (h : ∀ j, nth a j = nth b j) : natOf a = natOf b := by
  induction a generalizing b with
  | nil => rw [natOf_none b fun j => (h j).symm]; rfl
  | cons x r ih =>
    cases b with
    | nil => rw [natOf_none (x :: r) h]; rfl
    | cons y s =>
      have h0 : x = y := h 0
      have := ih s fun j => h (j + 1)
      simp [natOf, h0, this]
theorem natOf_parts (l : List Nat) (k : Nat) : natOf l = natOf (l.take k) + 18446744073709551616 ^ k * natOf (l.drop k) := by
  rcases Nat.lt_or_ge l.length k with h | h
  · rw [List.take_of_length_le (by omega), List.drop_eq_nil_of_le (by omega)]
    simp [natOf]
  · have := natOf_append (l.take k) (l.drop k)
    rwa [List.take_append_drop, List.length_take, Nat.min_eq_left h] at this
theorem natOf_take_lt (l : List Nat) (h : Words l) (k : Nat) : natOf (l.take k) < 18446744073709551616 ^ k :=
  Nat.lt_of_lt_of_le (natOf_lt _ (h.take k)) (Nat.pow_le_pow_right (by omega) (by simp; omega))
theorem natOf_take_succ (l : List Nat) (k : Nat) : natOf (l.take (k + 1)) = natOf (l.take k) + 18446744073709551616 ^ k * nth l k := by
  rcases Nat.lt_or_ge k l.length with h | h
  · rw [List.take_succ_eq_append_getElem h, natOf_append, ← nth_eq l k h, List.length_take, Nat.min_eq_left (by omega)]
    simp [natOf]
  · rw [List.take_of_length_le (by omega), List.take_of_length_le (by omega), show nth l k = 0 by simp [nth, h]]
    simp
/-- The highest word that differs decides. -/
theorem natOf_less (a b : List Nat) (ha : Words a) (m : Nat) (h : ∀ j, m + 1 ≤ j → nth a j = nth b j) (hlt : nth a m < nth b m) : natOf a < natOf b := by
  have e : natOf (a.drop (m + 1)) = natOf (b.drop (m + 1)) := natOf_ext _ _ fun j => by rw [nth_drop, nth_drop]; exact h _ (by omega)
  have h1 := natOf_take_lt a ha m
  rw [natOf_parts a (m + 1), natOf_parts b (m + 1), e, natOf_take_succ, natOf_take_succ]
  have h2 : 18446744073709551616 ^ m * (nth a m + 1) ≤ 18446744073709551616 ^ m * nth b m := Nat.mul_le_mul_left _ hlt
  rw [Nat.mul_add, Nat.mul_one] at h2
  omega
end Go.Proofs.Ytekgoceainibaaa
/- Plain facts on numbers to the base 2, the lowest digit first: how many digits, digits of sums and shifts. No condition but those typed; no program is named. -/
namespace Go.Proofs.Ytekgoceainibaaa
/-- The number of digits to the base 2, the lowest first. -/
def bv : List Nat → Nat
  | [] => 0
  | b :: r => b + 2 * bv r
/-- The lowest k digits of a number. -/
def bw : Nat → Nat → List Nat
  | 0, _ => []
  | k + 1, n => n % 2 :: bw k (n / 2)
/-- How many digits a number needs. -/
def nbits (n : Nat) : Nat := if n = 0 then 0 else n.log2 + 1
/-- A number's digits. -/
def dg (n : Nat) : List Nat := bw (nbits n) n
/-- A number's words. -/
def wd (n : Nat) : List Nat := words ((nbits n + 63) / 64) n
/-- Digit i of a number. -/
def bit (n i : Nat) : Nat := n / 2 ^ i % 2
def Bits01 (l : List Nat) : Prop := ∀ x ∈ l, x < 2
theorem length_bw (k n : Nat) : (bw k n).length = k := by
  induction k generalizing n with
  | zero => rfl
  | succ k ih => simp [bw, ih]
theorem length_dg (n : Nat) : (dg n).length = nbits n := length_bw _ _
theorem length_wd (n : Nat) : (wd n).length = (nbits n + 63) / 64 := length_words _ _
theorem bw_01 (k n : Nat) : Bits01 (bw k n) := by
  induction k generalizing n with
  | zero => intro x hx; simp [bw] at hx
  | succ k ih =>
    intro x hx
    simp only [bw, List.mem_cons] at hx
    rcases hx with rfl | hx
    · exact Nat.mod_lt _ (by omega)
    · exact ih _ x hx
theorem nth_bw (k n j : Nat) (h : j < k) : nth (bw k n) j = n / 2 ^ j % 2 := by
  induction k generalizing n j with
  | zero => omega
  | succ k ih =>
    cases j with
    | zero => simp [bw, nth]
    | succ j =>
      have := ih (n / 2) j (by omega)
      rw [Nat.pow_succ, Nat.mul_comm, ← Nat.div_div_eq_div_mul, ← this]
      simp [bw, nth]
theorem bv_bw (k n : Nat) : bv (bw k n) = n % 2 ^ k := by
  induction k generalizing n with
  | zero => simp [bw, bv, Nat.mod_one]
  | succ k ih => rw [bw, bv, ih, Nat.pow_succ, Nat.mul_comm (2 ^ k), Nat.mod_mul]
theorem bv_lt (l : List Nat) (h : Bits01 l) : bv l < 2 ^ l.length := by
  induction l with
  | nil => simp [bv]
  | cons x r ih =>
    have hx : x < 2 := h x (by simp)
    have hr := ih fun y hy => h y (by simp [hy])
    simp only [bv, List.length_cons, Nat.pow_succ]
    omega
theorem nth_bv (l : List Nat) (h : Bits01 l) (j : Nat) : nth l j = bv l / 2 ^ j % 2 := by
  induction l generalizing j with
  | nil => simp [nth, bv]
  | cons x r ih =>
    have hx : x < 2 := h x (by simp)
    have hr := ih fun y hy => h y (by simp [hy])
    cases j with
    | zero => simp [nth, bv]; omega
    | succ j =>
      have := hr j
      simp only [bv, Nat.pow_succ]
      rw [Nat.mul_comm (2 ^ j), ← Nat.div_div_eq_div_mul, show (x + 2 * bv r) / 2 = bv r by omega, ← this]
      simp [nth]
theorem bw_bv (l : List Nat) (h : Bits01 l) : bw l.length (bv l) = l :=
  ext_nth _ _ (length_bw _ _) fun j hj => by
    rw [length_bw] at hj
    rw [nth_bw _ _ _ hj, nth_bv l h]
theorem bw_take (k n j : Nat) (h : j ≤ k) : (bw k n).take j = bw j n := by
  refine ext_nth _ _ (by simp [length_bw]; omega) fun i hi => ?_
  have hi' : i < j := by simp [length_bw] at hi; omega
  rw [nth_bw _ _ _ hi', ← nth_bw k n i (by omega)]
  simp [nth, hi']
theorem bw_snoc (k n : Nat) : bw (k + 1) n = bw k n ++ [n / 2 ^ k % 2] := by
  refine ext_nth _ _ (by simp [length_bw]) fun j hj => ?_
  rw [length_bw] at hj
  rw [nth_bw _ _ _ hj]
  rcases Nat.lt_or_ge j k with h | h
  · have : nth (bw k n ++ [n / 2 ^ k % 2]) j = nth (bw k n) j := by simp [nth, List.getElem?_append_left (show j < (bw k n).length by rw [length_bw]; exact h)]
    rw [this, nth_bw _ _ _ h]
  · obtain rfl : j = k := by omega
    simp [nth, length_bw]
theorem nbits_lt (n : Nat) : n < 2 ^ nbits n := by
  unfold nbits
  by_cases h : n = 0
  · simp [h]
  · rw [if_neg h]
    exact (Nat.log2_lt h).1 (by omega)
theorem nbits_le (n : Nat) (h : n ≠ 0) : 2 ^ (nbits n - 1) ≤ n := by
  unfold nbits
  rw [if_neg h]
  exact (Nat.le_log2 h).1 (by omega)
theorem nbits_zero : nbits 0 = 0 := by simp [nbits]
theorem nbits_eq (n k : Nat) (h : n < 2 ^ k) (h' : k ≠ 0 → 2 ^ (k - 1) ≤ n) : nbits n = k := by
  by_cases hn : n = 0
  · by_cases hk : k = 0
    · simp [nbits, hn, hk]
    · have := h' hk
      have hp : 0 < 2 ^ (k - 1) := Nat.pow_pos (by omega)
      omega
  · have h1 := nbits_lt n
    have h2 := nbits_le n hn
    rcases Nat.lt_trichotomy (nbits n) k with hlt | he | hgt
    · have h3 := h' (by omega)
      have h4 : 2 ^ nbits n ≤ 2 ^ (k - 1) := Nat.pow_le_pow_right (by omega) (by omega)
      omega
    · exact he
    · have h4 : 2 ^ k ≤ 2 ^ (nbits n - 1) := Nat.pow_le_pow_right (by omega) (by omega)
      omega
theorem nbits_of_lt (n k : Nat) (h : n < 2 ^ k) : nbits n ≤ k := by
  rcases Nat.lt_or_ge k (nbits n) with h1 | h1
  · have hn : n ≠ 0 := fun e => by rw [e, nbits_zero] at h1; omega
    have h2 := nbits_le n hn
    have h4 : 2 ^ k ≤ 2 ^ (nbits n - 1) := Nat.pow_le_pow_right (by omega) (by omega)
    omega
  · exact h1
theorem nbits_mono {a b : Nat} (h : a ≤ b) : nbits a ≤ nbits b := nbits_of_lt a _ (Nat.lt_of_le_of_lt h (nbits_lt b))
theorem dg_01 (n : Nat) : Bits01 (dg n) := bw_01 _ _
theorem bv_dg (n : Nat) : bv (dg n) = n := by rw [dg, bv_bw, Nat.mod_eq_of_lt (nbits_lt n)]
theorem nth_dg (n j : Nat) : nth (dg n) j = n / 2 ^ j % 2 := by
  have := nth_bv (dg n) (dg_01 n) j
  rwa [bv_dg] at this
theorem bit_lt (n i : Nat) : bit n i < 2 := Nat.mod_lt _ (by omega)
theorem nth_dg_bit (n j : Nat) : nth (dg n) j = bit n j := nth_dg n j
theorem dg_of (k n : Nat) (h : nbits n ≤ k) : (bw k n).take (nbits n) = dg n := bw_take k n _ h
theorem take_dg (l : List Nat) (h : Bits01 l) : l.take (nbits (bv l)) = dg (bv l) := by
  have h1 := nbits_of_lt _ _ (bv_lt l h)
  have h2 := dg_of l.length (bv l) h1
  rwa [bw_bv l h] at h2
theorem nbits_bv_le (l : List Nat) (h : Bits01 l) : nbits (bv l) ≤ l.length := nbits_of_lt _ _ (bv_lt l h)
theorem bv_append (l m : List Nat) : bv (l ++ m) = bv l + 2 ^ l.length * bv m := by
  induction l with
  | nil => simp [bv]
  | cons x r ih =>
    simp only [List.cons_append, bv, ih, List.length_cons, Nat.pow_succ, Nat.mul_add]
    rw [Nat.mul_right_comm, Nat.mul_comm 2 (2 ^ r.length * bv m), Nat.add_assoc]
/-- Behind the last digit all are 0; the last one is 1. -/
theorem nth_over_bits (l : List Nat) (h : Bits01 l) (m : Nat) (hm : nbits (bv l) ≤ m) : nth l m = 0 := by
  rw [nth_bv l h, Nat.div_eq_of_lt (Nat.lt_of_lt_of_le (nbits_lt _) (Nat.pow_le_pow_right (by omega) hm))]
theorem nth_last_bit (l : List Nat) (h : Bits01 l) (hp : 0 < nbits (bv l)) : nth l (nbits (bv l) - 1) = 1 := by
  have hne : bv l ≠ 0 := fun e0 => by rw [e0, nbits_zero] at hp; omega
  have h2 := nbits_le (bv l) hne
  have h3 := nbits_lt (bv l)
  rw [nth_bv l h]
  have h4 : bv l / 2 ^ (nbits (bv l) - 1) = 1 := by
    rw [show nbits (bv l) = nbits (bv l) - 1 + 1 by omega, Nat.pow_succ] at h3
    exact Nat.div_eq_of_lt_le (by omega) (by omega)
  rw [h4]
theorem pow_64_2 (k : Nat) : (18446744073709551616 : Nat) ^ k = 2 ^ (64 * k) := by rw [Nat.pow_mul]
/-- A bit of a word is a bit of the number. -/
theorem bit_of_word (a : List Nat) (h : Words a) (i k : Nat) (hk : k < 64) : nth a i / 2 ^ k % 2 = natOf a / 2 ^ (64 * i + k) % 2 := by
  rw [nth_natOf a h, pow_64_2, Nat.pow_add, ← Nat.div_div_eq_div_mul]
  generalize natOf a / 2 ^ (64 * i) = y
  obtain ⟨d, hd⟩ : ∃ d, 64 = k + (1 + d) := ⟨63 - k, by omega⟩
  have e : (18446744073709551616 : Nat) = 2 ^ k * (2 * 2 ^ d) := by
    rw [show (18446744073709551616 : Nat) = 2 ^ 64 from rfl]
    conv => lhs; rw [hd, Nat.pow_add, Nat.pow_add, Nat.pow_one]
  rw [e, Nat.mod_mul_right_div_self, Nat.mod_mul_right_mod]
theorem natOf_lt2 (a : List Nat) (h : Words a) : natOf a < 2 ^ (64 * a.length) := by rw [← pow_64_2]; exact natOf_lt a h
theorem nbits_natOf (a : List Nat) (h : Words a) : nbits (natOf a) ≤ 64 * a.length := nbits_of_lt _ _ (natOf_lt2 a h)
theorem natOf_wd (n : Nat) : natOf (wd n) = n := by
  rw [wd, natOf_words, Nat.mod_eq_of_lt]
  rw [pow_64_2]
  exact Nat.lt_of_lt_of_le (nbits_lt n) (Nat.pow_le_pow_right (by omega) (by omega))
theorem wd_words (n : Nat) : Words (wd n) := words_words _ _
theorem wd_inj (a b : Nat) : wd a = wd b ↔ a = b := ⟨fun h => by rw [← natOf_wd a, h, natOf_wd], fun h => by rw [h]⟩
end Go.Proofs.Ytekgoceainibaaa
/- The contracts of the document's numbers to the base 2: trim, Digits. Conditions: as typed (lengths that fit a machine). -/
namespace Go.Proofs.Ytekgoceainibaaa
open Go.RowKit
set_option maxRecDepth 20000
theorem num_info_u8 : (Try.prog.info? 5).map (fun i => (i.zero, i.size, i.bytes)) = some (some (.int .u8 0), 1, 1) := by kernel_rfl
theorem num_info_u64 : (Try.prog.info? 40).map (fun i => (i.zero, i.size, i.bytes)) = some (some (.int .u64 0), 1, 8) := by kernel_rfl
/-- The digits of a number are answered. -/
def OutNum (N : Nat) (w : World) (e : Ending) (w' : World) : Prop := ∃ X d, e = .returned (.slice X (nbits N) d) ∧ nbits N ≤ d ∧ Rd .u8 w' w'.heap.size X (dg N) ∧ Below w.heap.size w w'
/-- The digits of a number are answered, in new memory. -/
def OutNumO (N : Nat) (w : World) (e : Ending) (w' : World) : Prop := ∃ v, e = .returned v ∧ w'.ownsRow w.heap.size 5 1 v (nbits N) (ints .u8 (dg N)) ∧ Below w.heap.size w w'
theorem OutNumO.num {N : Nat} {w w' : World} {e : Ending} (h : OutNumO N w e w') : OutNum N w e w' := by
  obtain ⟨v, he, own, b⟩ := h
  obtain ⟨X, d, rfl, hd, _⟩ := own_form own
  exact ⟨X, d, he, hd, Rd.own own, b⟩
set_option maxHeartbeats 400000 in
theorem numTrimO_any (A : Option Addr) (c : Nat) (l : List Nat) (w : World) (hr : Rd .u8 w w.heap.size A l) (hb : Bits01 l) (hl : l.length ≤ 1099511627776) (hc : l.length ≤ c) :
    Calls Try.prog 36 #[.slice A l.length c] w (OutNumO (bv l) w) := by
  obtain ⟨i0, hi, hz0, hz1, hz2⟩ := info_parts num_info_u8
  have hnb := nbits_bv_le l hb
  go_enter Try.func36, Try.ntmps36
  go_wp2_with fail
  go_loop [3] (fun i => ∃ k : Nat, k ≤ l.length ∧ nbits (bv l) ≤ k ∧ i = .int .i64 k) (fun i => (intOf i).toNat)
  case atStart => exact ⟨l.length, Nat.le_refl _, hnb, rfl⟩
  case round =>
    obtain ⟨k, hk, hnk, rfl⟩ := hrel
    by_cases hend : k = nbits (bv l)
    · obtain rfl := hend
      by_cases hp : 0 < nbits (bv l)
      · have hl1 := nth_last_bit l hb hp
        have hs : (((nth l (nbits (bv l) - 1) : Nat) : Int) == 0) = false := by rw [hl1]; rfl
        obtain ⟨b, off, rfl, hbB, hcell⟩ := hr (by omega)
        have hx := hcell (nbits (bv l) - 1) (by omega)
        have hR := hr.take (nbits (bv l))
        rw [take_dg l hb] at hR
        have HR := Lib.hid hR
        clear hcell hl1 hR
        go_wp2_with (at_builtin; refine wpList_append_rd _ rfl (.tmp 18) (.tmp 21) _ rfl w.heap.size 5 i0 _ 1 Try.underlying31 hi hz0 hz1 hz2 rfl (.slice (some ⟨w.heap.size, 0, none⟩) 0 0) 0 [] rfl ?c1 .u8 w.heap.size (some ⟨b, off, none⟩) (nbits (bv l)) c (dg (bv l)) rfl ?c2 ?c3 ?c4 ?c5 ?c6 ?_)
        case c1 => exact own_of_heap (cur := []) (heap_alloc_new w (.cells #[] 5)) (Nat.le_refl _) (Nat.le_refl _) (Nat.zero_le _) rfl rfl
        case c2 => exact length_dg _
        case c3 => exact HR.out.below ((Below.refl _ _).alloc (Nat.le_refl _) _)
        case c4 => unfold maxLen; omega
        case c5 => omega
        intro v1 w1 own1 hg1
        have b1 : Below w.heap.size w w1 := ((Below.refl _ _).alloc (Nat.le_refl _) _).grown hg1 (by simp) (by simp [Value.ownBlock])
        have own1' : w1.ownsRow w.heap.size 5 1 v1 (nbits (bv l)) (ints .u8 (dg (bv l))) := by simpa using own1
        obtain ⟨X, d, rfl, hd, _⟩ := own_form own1'
        have HO := Lib.hid own1'
        clear own1 own1' hg1
        go_wp2_with fail
        go_ret
        exact ⟨_, rfl, HO.out, b1⟩
      · have h0 : nbits (bv l) = 0 := by omega
        have hR := hr.take (nbits (bv l))
        rw [take_dg l hb] at hR
        have HR := Lib.hid hR
        clear hR
        have hnp : ¬ (0 : Int) < (nbits (bv l) : Int) := by omega
        clear h0
        go_wp2_with (at_builtin; refine wpList_append_rd _ rfl (.tmp 18) (.tmp 21) _ rfl w.heap.size 5 i0 _ 1 Try.underlying31 hi hz0 hz1 hz2 rfl (.slice (some ⟨w.heap.size, 0, none⟩) 0 0) 0 [] rfl ?c1 .u8 w.heap.size A (nbits (bv l)) c (dg (bv l)) rfl ?c2 ?c3 ?c4 ?c5 ?c6 ?_)
        case c1 => exact own_of_heap (cur := []) (heap_alloc_new w (.cells #[] 5)) (Nat.le_refl _) (Nat.le_refl _) (Nat.zero_le _) rfl rfl
        case c2 => exact length_dg _
        case c3 => exact HR.out.below ((Below.refl _ _).alloc (Nat.le_refl _) _)
        case c4 => unfold maxLen; omega
        case c5 => omega
        intro v1 w1 own1 hg1
        have b1 : Below w.heap.size w w1 := ((Below.refl _ _).alloc (Nat.le_refl _) _).grown hg1 (by simp) (by simp [Value.ownBlock])
        have own1' : w1.ownsRow w.heap.size 5 1 v1 (nbits (bv l)) (ints .u8 (dg (bv l))) := by simpa using own1
        obtain ⟨X, d, rfl, hd, _⟩ := own_form own1'
        have HO := Lib.hid own1'
        clear own1 own1' hg1
        go_wp2_with fail
        go_ret
        exact ⟨_, rfl, HO.out, b1⟩
    · obtain ⟨m, rfl⟩ : ∃ m, k = m + 1 := ⟨k - 1, by omega⟩
      have hx0 := nth_over_bits l hb m (by omega)
      obtain ⟨b, off, rfl, hbB, hcell⟩ := hr (by omega)
      have hx := hcell m (by omega)
      rw [hx0] at hx
      clear hcell hx0
      go_wp2_with fail
      go_round
      case rel => exact ⟨m, by omega, by omega, by go_num⟩
      case measure => simp [intOf] <;> omega
theorem numTrim_any (A : Option Addr) (c : Nat) (l : List Nat) (w : World) (hr : Rd .u8 w w.heap.size A l) (hb : Bits01 l) (hl : l.length ≤ 1099511627776) (hc : l.length ≤ c) :
    Calls Try.prog 36 #[.slice A l.length c] w (OutNum (bv l) w) := Calls.mono (numTrimO_any A c l w hr hb hl hc) fun _ _ h => h.num
theorem bit_int (x k : Nat) (hx : x < 18446744073709551616) : bits .and .u64 ((x : Int) / 2 ^ k) 1 % 256 = ((x / 2 ^ k % 2 : Nat) : Int) := by
  have e : ((x : Int) / 2 ^ k) = ((x / 2 ^ k : Nat) : Int) := by simp
  have h := u64_and_nat (x / 2 ^ k) 1 (Nat.lt_of_le_of_lt (Nat.div_le_self _ _) hx) (by omega)
  rw [show ((1 : Nat) : Int) = 1 from rfl] at h
  rw [e, h, Nat.and_one_is_mod]
  omega
set_option maxHeartbeats 400000 in
theorem digits_any (A : Option Addr) (c : Nat) (a : List Nat) (w : World) (hr : Rd .u64 w w.heap.size A a) (hw : Words a) (hl : a.length ≤ 1000000) :
    Calls Try.prog 14 #[.slice A a.length c] w (OutNum (natOf a) w) := by
  obtain ⟨i0, hi, hz0, hz1, hz2⟩ := info_parts num_info_u8
  go_enter Try.func14, Try.ntmps14
  go_wp2_with fail
  go_loopw [3, 4] (fun v i wr => ∃ k : Nat, k ≤ a.length ∧ i = .int .i64 k ∧ wr.ownsRow w.heap.size 5 1 v (64 * k) (ints .u8 (bw (64 * k) (natOf a))) ∧ Below w.heap.size w wr) (fun _ i _ => a.length - (intOf i).toNat)
  case atStart => exact ⟨0, Nat.zero_le _, rfl, World.ownsRow_nil _ _ _ _, Below.refl _ _⟩
  case round =>
    obtain ⟨k, hk, rfl, hown, hb⟩ := hrel
    by_cases hlt : k < a.length
    · obtain ⟨wo, hwo⟩ : ∃ wo : World, wo = wr := ⟨_, rfl⟩
      subst hwo
      obtain ⟨b, off, rfl, hbB, hcell⟩ := hr (by omega)
      have hx := hcell k hlt
      have hxw := hw _ (nth_mem a k hlt)
      have Hx := Lib.hid hx
      clear hcell hx
      go_wp2_with fail
      go_loopw [3, 5] (fun v i wr => ∃ j : Nat, j ≤ 64 ∧ i = .int .i64 j ∧ wr.ownsRow w.heap.size 5 1 v (64 * k + j) (ints .u8 (bw (64 * k + j) (natOf a))) ∧ Below w.heap.size w wr) (fun _ i _ => 64 - (intOf i).toNat)
      case atStart => exact ⟨0, by omega, rfl, hown, hb⟩
      case round =>
        obtain ⟨j, hj, rfl, hown1, hb1⟩ := hrel
        by_cases hj64 : j < 64
        · have hx1 : wr.cell? ⟨b, off + k, none⟩ = some (.int .u64 (nth a k : Int)) := (hb1.cell (p := ⟨b, off + k, none⟩) hbB).trans Hx.out
          go_wp2_with (at_builtin; refine wpList_append_one _ rfl _ _ 31 rfl w.heap.size 5 i0 (.int .u8 0) 1 Try.underlying31 hi hz0 hz1 hz2 rfl _ _ .u8 (bw (64 * k + j) (natOf a)) rfl hown1 _ (natOf a / 2 ^ (64 * k + j) % 2) ?c1 rfl ?c2 ?c3 ?c4 ?_)
          case c1 => rw [bit_int _ _ hxw, bit_of_word a hw k j hj64]
          case c2 => unfold maxLen; omega
          case c3 => omega
          case c4 => exact hb1.size
          intro v2 w2 own2 _ b2
          rw [← bw_snoc] at own2
          go_wp2_with fail
          go_roundw
          case rel => exact ⟨j + 1, by omega, by go_num, own2, hb1.trans b2⟩
          case measure => simp [intOf]; omega
        · obtain rfl : j = 64 := by omega
          rw [show 64 * k + 64 = 64 * (k + 1) by omega] at hown1
          go_wp2_with fail
          go_roundw
          case rel => exact ⟨k + 1, by omega, by go_num, hown1, hb1⟩
          case measure => simp [intOf]; omega
    · obtain rfl : k = a.length := by omega
      obtain ⟨X, d, rfl, hd, _⟩ := own_form hown
      have R1 := Rd.own hown
      have T := numTrim_any X d (bw (64 * a.length) (natOf a)) wr R1 (bw_01 _ _) (by rw [length_bw]; omega) (by rw [length_bw]; exact hd)
      rw [length_bw, bv_bw, Nat.mod_eq_of_lt (natOf_lt2 a hw)] at T
      have HT := Lib.hid T
      clear T R1 hown
      go_wp2_with fail
      refine (HT.out).mono ?_
      rintro e w1 ⟨Y, f, rfl, hf, R, b1⟩
      go_wp2_with fail
      go_ret
      exact ⟨Y, f, rfl, hf, R, hb.trans (b1.mono hb.size)⟩
end Go.Proofs.Ytekgoceainibaaa
/- The contracts of the document's Words, Is, Same, Copy, Of, Small. Conditions: as typed. -/
namespace Go.Proofs.Ytekgoceainibaaa
open Go.RowKit
set_option maxRecDepth 20000
theorem own_pos2 {w : World} {base : Nat} {e : TypeId} {n : Nat} {v : Value} {xs : List Value} (h : w.ownsRow base e 1 v n xs) (hn : 0 < n) : ∃ g c, v = .slice (some ⟨g, 0, none⟩) n c ∧ base ≤ g ∧ g < w.heap.size ∧ n ≤ c := by
  rcases h.2 with ⟨_, h0⟩ | ⟨g, cap, cur, rfl, hb, hh, hc, _⟩
  · omega
  · refine ⟨g, cap, rfl, hb, ?_, hc⟩
    rcases Nat.lt_or_ge g w.heap.size with h1 | h1
    · exact h1
    · rw [Array.getElem?_eq_none h1] at hh; cases hh
theorem low_lt2 (N i K : Nat) (h : i ≤ 64 * K) : N % 2 ^ i < 18446744073709551616 ^ K := by
  rw [pow_64_2]
  exact Nat.lt_of_lt_of_le (Nat.mod_lt _ (Nat.pow_pos (by omega))) (Nat.pow_le_pow_right (by omega) h)
theorem words_more2 (K V : Nat) (h : V < 18446744073709551616 ^ K) : words K V ++ [0] = words (K + 1) V := by
  refine ext_nth _ _ (by simp [length_words]) fun j hj => ?_
  have hj' : j < K + 1 := by simpa [length_words] using hj
  rw [nth_words _ _ _ hj']
  by_cases e : j < K
  · have h1 : nth (words K V ++ [0]) j = nth (words K V) j := by simp [nth, List.getElem?_append_left (show j < (words K V).length by rw [length_words]; exact e)]
    rw [h1, nth_words _ _ _ e]
  · obtain rfl : j = K := by omega
    have h1 : nth (words j V ++ [0]) j = 0 := by simp [nth, length_words]
    rw [h1, Nat.div_eq_of_lt h]
/-- a | x << r -/
theorem shl_or_bit (a x r : Nat) (ha : a < 18446744073709551616) (hx : x < 2) (hr : r < 64) :
    bits .or .u64 (a : Int) (IntKind.u64.wrap ((x : Int) * 2 ^ r)) = ((a ||| x * 2 ^ r : Nat) : Int) := by
  have h1 : x * 2 ^ r < 18446744073709551616 := by
    have h2 : x * 2 ^ r ≤ 1 * 2 ^ r := Nat.mul_le_mul_right _ (by omega)
    have h3 : 1 * 2 ^ r ≤ 1 * 2 ^ 63 := Nat.mul_le_mul_left _ (Nat.pow_le_pow_right (by omega) (by omega))
    omega
  have e : ((x : Int) * 2 ^ r) = ((x * 2 ^ r : Nat) : Int) := by simp
  rw [e, IntKind.wrap_u64]
  generalize x * 2 ^ r = y at *
  rw [show ((y : Int) % 18446744073709551616) = (y : Int) by omega, u64_or_nat _ _ ha h1]
/-- A digit more, from below. -/
theorem words_low2 (N i : Nat) : (words (i / 64 + 1) (N % 2 ^ i)).set (i / 64) (nth (words (i / 64 + 1) (N % 2 ^ i)) (i / 64) ||| bit N i * 2 ^ (i % 64)) = words (i / 64 + 1) (N % 2 ^ (i + 1)) := by
  have hd := bit_lt N i
  have hV := low_lt2 N i (i / 64 + 1) (by omega)
  have ew := nth_words (i / 64 + 1) (N % 2 ^ i) (i / 64) (by omega)
  have h1 : nth (words (i / 64 + 1) (N % 2 ^ i)) (i / 64) < 2 ^ (i % 64) := by
    rw [ew]
    refine Nat.lt_of_le_of_lt (Nat.mod_le _ _) ?_
    rw [Nat.div_lt_iff_lt_mul (Nat.pow_pos (by omega)), pow_64_2, ← Nat.pow_add, show i % 64 + 64 * (i / 64) = i by omega]
    exact Nat.mod_lt _ (Nat.pow_pos (by omega))
  have h2 : nth (words (i / 64 + 1) (N % 2 ^ i)) (i / 64) ||| bit N i * 2 ^ (i % 64) < 18446744073709551616 := by
    refine Nat.or_lt_two_pow (n := 64) (Nat.lt_of_lt_of_le h1 (Nat.pow_le_pow_right (by omega) (by omega))) ?_
    have h3 : bit N i * 2 ^ (i % 64) ≤ 1 * 2 ^ (i % 64) := Nat.mul_le_mul_right _ (by omega)
    have h4 : 1 * 2 ^ (i % 64) ≤ 1 * 2 ^ 63 := Nat.mul_le_mul_left _ (Nat.pow_le_pow_right (by omega) (by omega))
    omega
  have ha : nth (words (i / 64 + 1) (N % 2 ^ i)) (i / 64) ||| bit N i * 2 ^ (i % 64) = nth (words (i / 64 + 1) (N % 2 ^ i)) (i / 64) + bit N i * 2 ^ (i % 64) := by
    rw [Nat.or_comm, nat_join (i % 64) _ _ (by simp) h1, Nat.add_comm]
  rw [ha] at h2 ⊢
  have hw : Words ((words (i / 64 + 1) (N % 2 ^ i)).set (i / 64) (nth (words (i / 64 + 1) (N % 2 ^ i)) (i / 64) + bit N i * 2 ^ (i % 64))) := fun y hy => by
    rcases mem_set hy with rfl | h
    · exact h2
    · exact words_words _ _ y h
  have hf := words_natOf _ hw
  rw [List.length_set, length_words, natOf_set _ _ _ (by rw [length_words]; omega), natOf_words, Nat.mod_eq_of_lt hV] at hf
  rw [← hf, Nat.mod_pow_succ, show N / 2 ^ i % 2 = bit N i from rfl]
  congr 2
  rw [pow_64_2, Nat.mul_left_comm, ← Nat.pow_add, show 64 * (i / 64) + i % 64 = i by omega, Nat.mul_comm]
/-- The words of a number are answered, in new memory. -/
def OutNat (N : Nat) (w : World) (e : Ending) (w' : World) : Prop := ∃ v, e = .returned v ∧ w'.ownsRow w.heap.size 40 1 v ((nbits N + 63) / 64) (ints .u64 (wd N)) ∧ Below w.heap.size w w'
set_option maxHeartbeats 1000000 in
theorem words_any (A : Option Addr) (c : Nat) (l : List Nat) (w : World) (hr : Rd .u8 w w.heap.size A l) (h01 : Bits01 l) (hl : l.length ≤ 100000000) (hc : l.length ≤ c) :
    Calls Try.prog 33 #[.slice A l.length c] w (OutNat (bv l) w) := by
  obtain ⟨i0, hi0, hz0, hz1, hz2⟩ := info_parts num_info_u64
  have hnb := nbits_bv_le l h01
  go_enter Try.func33, Try.ntmps33
  go_wp2_with fail
  refine (numTrim_any A c l w hr h01 (by omega) hc).mono ?_
  rintro e w1 ⟨X, d, rfl, hd, R1, b1⟩
  go_wp2_with fail
  go_loopw [3, 4] (fun v j wr => ∃ i : Nat, i ≤ nbits (bv l) ∧ j = .int .i64 i ∧ wr.ownsRow w1.heap.size 40 1 v ((i + 63) / 64) (ints .u64 (words ((i + 63) / 64) (bv l % 2 ^ i))) ∧ Below w1.heap.size w1 wr) (fun _ j _ => nbits (bv l) - (intOf j).toNat)
  case atStart => exact ⟨0, Nat.zero_le _, rfl, World.ownsRow_nil _ _ _ _, Below.refl _ _⟩
  case round =>
    obtain ⟨i, hi, rfl, hown, hbr⟩ := hrel
    by_cases hlt : i < nbits (bv l)
    · obtain ⟨b, off, rfl, hbB, hcell⟩ := R1 (by rw [length_dg]; omega)
      by_cases h8 : i % 64 = 0
      · have hb8 : (((i : Int) % 64) == 0) = true := by rw [beq_iff_eq]; omega
        have H8 := Lib.hid h8
        clear h8
        go_wp2_with (at_builtin; refine wpList_append_one _ rfl _ _ 23 rfl w1.heap.size 40 i0 (.int .u64 0) 8 Try.underlying23 hi0 hz0 hz1 hz2 rfl _ _ .u64 (words ((i + 63) / 64) (bv l % 2 ^ i)) rfl hown _ 0 ?c1 rfl ?c2 ?c3 ?c4 ?_)
        case c1 => rfl
        case c2 => unfold maxLen; omega
        case c3 => omega
        case c4 => exact hbr.size
        intro v4 w4 own4 _ b4
        have e8 : (i + 63) / 64 = i / 64 := by have := H8.out; omega
        rw [e8, words_more2 _ _ (low_lt2 _ _ _ (by have := H8.out; omega))] at own4
        have hb4 := hbr.trans b4
        clear e8 b4
        obtain ⟨g, cp, rfl, hg1, hg2, _⟩ := own_pos2 own4 (by omega)
        have hc4 : w4.cell? ⟨g, i / 64, none⟩ = some (.int .u64 (nth (words (i / 64 + 1) (bv l % 2 ^ i)) (i / 64) : Int)) := by
          rw [own4.cellAt _ (by omega), ints_get _ _ _ (by rw [length_words]; omega)]
        have hf4 : w4.frozen? ⟨g, i / 64, none⟩ = false := own4.frozenAt _
        have hw4 := words_words (i / 64 + 1) (bv l % 2 ^ i) _ (nth_mem _ (i / 64) (by rw [length_words]; omega))
        have hx4 : w4.cell? ⟨b, off + i, none⟩ = some (.int .u8 (bit (bv l) i : Int)) := by
          rw [hb4.cell (p := ⟨b, off + i, none⟩) hbB, hcell i (by rw [length_dg]; exact hlt), nth_dg_bit]
        have hdl := bit_lt (bv l) i
        have Ho := Lib.hid own4
        clear own4 hcell hown
        go_wp2_with fail
        go_region
        go_wp2_with fail
        go_roundw
        case rel =>
          rw [shl_or_bit _ _ _ hw4 hdl (Nat.mod_lt _ (by omega))]
          have hst := Ho.out.stored (i / 64) (.int .u64 ((nth (words (i / 64 + 1) (bv l % 2 ^ i)) (i / 64) ||| bit (bv l) i * 2 ^ (i % 64) : Nat) : Int))
          rw [ints_set, words_low2] at hst
          refine ⟨i + 1, by omega, by go_num, ?_, (hb4.setCell hg1 _).drew⟩
          rw [show (i + 1 + 63) / 64 = i / 64 + 1 by omega]
          exact hst.1.drew
        case measure => simp [intOf]; omega
      · have hb8 : (((i : Int) % 64) == 0) = false := by rw [beq_eq_false_iff_ne]; omega
        have e8 : (i + 63) / 64 = i / 64 + 1 := by omega
        have own4 := hown
        rw [e8] at own4
        obtain ⟨g, cp, rfl, hg1, hg2, _⟩ := own_pos2 own4 (by omega)
        clear e8 h8
        have hc4 : wr.cell? ⟨g, i / 64, none⟩ = some (.int .u64 (nth (words (i / 64 + 1) (bv l % 2 ^ i)) (i / 64) : Int)) := by
          rw [own4.cellAt _ (by omega), ints_get _ _ _ (by rw [length_words]; omega)]
        have hf4 : wr.frozen? ⟨g, i / 64, none⟩ = false := own4.frozenAt _
        have hw4 := words_words (i / 64 + 1) (bv l % 2 ^ i) _ (nth_mem _ (i / 64) (by rw [length_words]; omega))
        have hx4 : wr.cell? ⟨b, off + i, none⟩ = some (.int .u8 (bit (bv l) i : Int)) := by
          rw [hbr.cell (p := ⟨b, off + i, none⟩) hbB, hcell i (by rw [length_dg]; exact hlt), nth_dg_bit]
        have hdl := bit_lt (bv l) i
        have Ho := Lib.hid own4
        clear own4 hcell hown
        go_wp2_with fail
        go_region
        go_wp2_with fail
        go_roundw
        case rel =>
          rw [shl_or_bit _ _ _ hw4 hdl (Nat.mod_lt _ (by omega))]
          have hst := Ho.out.stored (i / 64) (.int .u64 ((nth (words (i / 64 + 1) (bv l % 2 ^ i)) (i / 64) ||| bit (bv l) i * 2 ^ (i % 64) : Nat) : Int))
          rw [ints_set, words_low2] at hst
          refine ⟨i + 1, by omega, by go_num, ?_, (hbr.setCell hg1 _).drew⟩
          rw [show (i + 1 + 63) / 64 = i / 64 + 1 by omega]
          exact hst.1.drew
        case measure => simp [intOf]; omega
    · obtain rfl : i = nbits (bv l) := by omega
      rw [Nat.mod_eq_of_lt (nbits_lt (bv l))] at hown
      go_wp2_with fail
      go_ret
      refine ⟨_, rfl, ?_, b1.trans (hbr.mono b1.size)⟩
      obtain ⟨h1, h2⟩ := hown
      refine ⟨h1, ?_⟩
      rcases h2 with h2 | ⟨g, cap, cur, e1, e2, e3⟩
      · exact .inl h2
      · exact .inr ⟨g, cap, cur, e1, Nat.le_trans b1.size e2, e3⟩
end Go.Proofs.Ytekgoceainibaaa
/- The contracts of the document's Same, Copy, Is, Of, Small, Less, digit. Conditions: as typed. -/
namespace Go.Proofs.Ytekgoceainibaaa
open Go.RowKit
set_option maxRecDepth 20000
theorem ret_bool2 {a b : Bool} (h : a = b) : Ending.returned (.bool a) = .returned (.bool b) := by rw [h]
set_option maxHeartbeats 400000 in
theorem same02_any (A A2 : Option Addr) (c c2 : Nat) (l m : List Nat) (w : World) (B : Nat) (h1 : Rd .u64 w B A l) (h2 : Rd .u64 w B A2 m) (hl : l.length ≤ 1099511627776) (_hm : m.length ≤ 1099511627776) :
    Calls Try.prog 12 #[.slice A l.length c, .slice A2 m.length c2] w fun e w' => e = .returned (.bool (decide (l = m))) ∧ Drawn w w' := by
  by_cases hne : l.length = m.length
  · have hb : ((l.length : Int) != (m.length : Int)) = false := by simp [hne]
    have Hne := Lib.hid hne
    clear hne
    go_enter Try.func12, Try.ntmps12
    go_wp2_with fail
    go_loopw [5] (fun i wr => ∃ k : Nat, k ≤ l.length ∧ i = .int .i64 k ∧ (∀ j, j < k → nth l j = nth m j) ∧ Drawn w wr) (fun i _ => l.length - (intOf i).toNat)
    case atStart => exact ⟨0, Nat.zero_le _, rfl, fun j hj => absurd hj (by omega), Drawn.refl w⟩
    case round =>
      obtain ⟨k, hk, rfl, hsame, nq, rfl⟩ := hrel
      have Hs := Lib.hid hsame
      clear hsame
      by_cases hlt : k < l.length
      · obtain ⟨b, off, rfl, _, hc⟩ := h1 (by omega)
        obtain ⟨b2, off2, rfl, _, hc2⟩ := h2 (by have := Hne.out; omega)
        have e1 := hc k hlt
        have e2 := hc2 k (by have := Hne.out; omega)
        have hkm : k < m.length := by have := Hne.out; omega
        clear hc hc2
        by_cases hx : nth l k = nth m k
        · have hxb : (((nth l k : Nat) : Int) != ((nth m k : Nat) : Int)) = false := by simp [hx]
          have Hx := Lib.hid hx
          clear hx
          go_wp2_with fail
          go_quiet (fail)
          go_wp2_with fail
          go_roundw
          case rel => exact ⟨k + 1, by omega, by go_num, fun j hj => by (rcases Nat.lt_succ_iff_lt_or_eq.1 hj with h | rfl); exact Hs.out j h; exact Hx.out, Drawn.more _⟩
          case measure => simp [intOf]; omega
        · have hxb : (((nth l k : Nat) : Int) != ((nth m k : Nat) : Int)) = true := by simp; omega
          have Hx := Lib.hid hx
          clear hx
          go_wp2_with fail
          go_quiet (fail)
          go_wp2_with fail
          go_ret
          refine ⟨?_, (Drawn.more _).draws _⟩
          have : l ≠ m := fun e => Hx.out (by rw [e])
          simp [this]
      · go_wp2_with fail
        go_ret
        refine ⟨?_, Drawn.more _⟩
        have : l = m := ext_nth _ _ Hne.out fun j hj => Hs.out j (by omega)
        simp [this]
  · have hb : ((l.length : Int) != (m.length : Int)) = true := by simp; omega
    have Hne := Lib.hid hne
    clear hne
    go_enter Try.func12, Try.ntmps12
    go_wp2_with fail
    go_ret
    refine ⟨?_, Drawn.refl _⟩
    have : l ≠ m := fun e => Hne.out (by rw [e])
    simp [this]
/-- Words are answered, in new memory. -/
def OutRow (l : List Nat) (w : World) (e : Ending) (w' : World) : Prop := ∃ v, e = .returned v ∧ w'.ownsRow w.heap.size 40 1 v l.length (ints .u64 l) ∧ Below w.heap.size w w'
theorem copy02_any (A : Option Addr) (c : Nat) (l : List Nat) (w : World) (hr : Rd .u64 w w.heap.size A l) (hl : l.length ≤ 1000000) :
    Calls Try.prog 8 #[.slice A l.length c] w (OutRow l w) := by
  obtain ⟨i0, hi, hz0, hz1, hz2⟩ := info_parts num_info_u64
  go_enter Try.func8, Try.ntmps8
  go_wp2_with (at_builtin; refine wpList_append_rd _ rfl (.tmp 3) (.tmp 4) _ rfl w.heap.size 40 i0 _ 8 Try.underlying23 hi hz0 hz1 hz2 rfl (.slice (some ⟨w.heap.size, 0, none⟩) 0 0) 0 [] rfl ?c1 .u64 w.heap.size A l.length c l rfl rfl ?c3 ?c4 ?c5 ?c6 ?_)
  case c1 => exact own_of_heap (cur := []) (heap_alloc_new w (.cells #[] 40)) (Nat.le_refl _) (Nat.le_refl _) (Nat.zero_le _) rfl rfl
  case c3 => exact hr.below ((Below.refl _ _).alloc (Nat.le_refl _) _)
  case c4 => unfold maxLen; omega
  case c5 => omega
  case c6 => simp
  intro v1 w1 own1 hg1
  have b1 : Below w.heap.size w w1 := ((Below.refl _ _).alloc (Nat.le_refl _) _).grown hg1 (by simp) (by simp [Value.ownBlock])
  have own1' : w1.ownsRow w.heap.size 40 1 v1 l.length (ints .u64 l) := by simpa using own1
  have Ho := Lib.hid own1'
  clear own1 own1' hg1
  go_wp2_with fail
  go_ret
  exact ⟨v1, rfl, Ho.out, b1⟩
set_option maxHeartbeats 400000 in
theorem is02_any (A A2 : Option Addr) (c c2 : Nat) (l m : List Nat) (w : World) (hr : Rd .u64 w w.heap.size A l) (hm : Rd .u8 w w.heap.size A2 m) (h01 : Bits01 m) (hl : l.length ≤ 1000000) (hml : m.length ≤ 100000000) (hc2 : m.length ≤ c2) :
    Calls Try.prog 15 #[.slice A l.length c, .slice A2 m.length c2] w fun e w' => e = .returned (.bool (decide (l = wd (bv m)))) ∧ Below w.heap.size w w' := by
  have hwl : (wd (bv m)).length = (nbits (bv m) + 63) / 64 := length_wd _
  have hnb := nbits_bv_le m h01
  by_cases hne : l.length = (nbits (bv m) + 63) / 64
  · have hq : ((l.length : Int) != (((nbits (bv m) + 63) / 64 : Nat) : Int)) = false := by rw [bne_eq_false_iff_eq]; omega
    have Hne := Lib.hid hne
    have Hwl := Lib.hid hwl
    obtain ⟨q, hqe⟩ : ∃ q, q = (nbits (bv m) + 63) / 64 := ⟨_, rfl⟩
    have hWq := words_any A2 c2 m w hm h01 hml hc2
    unfold OutNat at hWq
    rw [← hqe] at hWq hq
    have Hqe := Lib.hid hqe
    have HWq := Lib.hid hWq
    clear hne hwl hqe hWq
    go_enter Try.func15, Try.ntmps15
    go_wp2_with fail
    refine (HWq.out).mono ?_
    rintro e w1 ⟨v, rfl, own, b1⟩
    obtain ⟨X, d, rfl, _⟩ := own_form own
    have RX := Rd.own own
    have RA := hr.below b1
    clear own HWq
    go_wp2_with fail
    go_loopw [6] (fun i wr => ∃ k : Nat, k ≤ q ∧ i = .int .i64 k ∧ (∀ j, j < k → nth l j = nth (wd (bv m)) j) ∧ Drawn w1 wr) (fun i _ => q - (intOf i).toNat)
    case atStart => exact ⟨0, Nat.zero_le _, rfl, fun j hj => absurd hj (by omega), Drawn.refl _⟩
    case round =>
      obtain ⟨k, hk, rfl, hsame, hdr⟩ := hrel
      have Hs := Lib.hid hsame
      clear hsame
      by_cases hlt : k < q
      · have hlq : l.length = q := by have h1 := Hne.out; have h2 := Hqe.out; omega
        have hwq : (wd (bv m)).length = q := by have h1 := Hwl.out; have h2 := Hqe.out; omega
        obtain ⟨b, off, rfl, _, hc⟩ := (hdr.rd RA) (by omega)
        obtain ⟨b2, off2, rfl, _, hc3⟩ := (hdr.rd RX) (by omega)
        have e1 := hc k (by omega)
        have e2 := hc3 k (by omega)
        have hkl : k < l.length := by omega
        clear hc hc3 hlq hwq
        by_cases hx : nth l k = nth (wd (bv m)) k
        · have hxb : (((nth l k : Nat) : Int) != ((nth (wd (bv m)) k : Nat) : Int)) = false := by simp [hx]
          have Hx := Lib.hid hx
          clear hx
          go_wp2_with fail
          go_quiet (fail)
          go_wp2_with fail
          go_roundw
          case rel => exact ⟨k + 1, by omega, by go_num, fun j hj => by (rcases Nat.lt_succ_iff_lt_or_eq.1 hj with h | rfl); exact Hs.out j h; exact Hx.out, hdr.draws _⟩
          case measure => simp [intOf]; omega
        · have hxb : (((nth l k : Nat) : Int) != ((nth (wd (bv m)) k : Nat) : Int)) = true := by simp; omega
          have Hx := Lib.hid hx
          clear hx
          go_wp2_with fail
          go_quiet (fail)
          go_wp2_with fail
          go_ret
          refine ⟨ret_bool2 ?_, b1.trans ((hdr.draws _).below _)⟩
          have : l ≠ wd (bv m) := fun e => Hx.out (by rw [e])
          simp [this]
      · go_wp2_with fail
        go_ret
        refine ⟨ret_bool2 ?_, b1.trans (hdr.below _)⟩
        have : l = wd (bv m) := ext_nth _ _ (by rw [Hwl.out]; exact Hne.out) fun j hj => Hs.out j (by have h1 := Hne.out; have h2 := Hqe.out; omega)
        simp [this]
  · have hq : ((l.length : Int) != (((nbits (bv m) + 63) / 64 : Nat) : Int)) = true := by rw [bne_iff_ne]; omega
    have Hne := Lib.hid hne
    have Hwl := Lib.hid hwl
    obtain ⟨q, hqe⟩ : ∃ q, q = (nbits (bv m) + 63) / 64 := ⟨_, rfl⟩
    have hWq := words_any A2 c2 m w hm h01 hml hc2
    unfold OutNat at hWq
    rw [← hqe] at hWq hq
    have HWq := Lib.hid hWq
    clear hne hwl hqe hWq
    go_enter Try.func15, Try.ntmps15
    go_wp2_with fail
    refine (HWq.out).mono ?_
    rintro e w1 ⟨v, rfl, own, b1⟩
    obtain ⟨X, d, rfl, _⟩ := own_form own
    clear own HWq
    go_wp2_with fail
    go_ret
    refine ⟨ret_bool2 ?_, b1⟩
    have : l ≠ wd (bv m) := fun e => Hne.out (by rw [e, Hwl.out])
    simp [this]
end Go.Proofs.Ytekgoceainibaaa
/- Plain facts on adding, taking away and shifting digits to the base 2. No condition but those typed; no program is named. -/
namespace Go.Proofs.Ytekgoceainibaaa
/-- What is carried to digit i of a sum. -/
def carry (A B i : Nat) : Nat := (A % 2 ^ i + B % 2 ^ i) / 2 ^ i
theorem low_bit (A i : Nat) : A % 2 ^ (i + 1) = A % 2 ^ i + 2 ^ i * bit A i := by rw [Nat.mod_pow_succ, bit]
/-- Fewer digits, a lesser number. -/
theorem less_of_nbits {a b : Nat} (h : nbits a < nbits b) : a < b := by
  have h1 := nbits_lt a
  have hb : b ≠ 0 := fun e => by rw [e, nbits_zero] at h; omega
  have h2 := nbits_le b hb
  have h3 : 2 ^ nbits a ≤ 2 ^ (nbits b - 1) := Nat.pow_le_pow_right (by omega) (by omega)
  omega
theorem eq_of_bits (a b k : Nat) (ha : a < 2 ^ k) (hb : b < 2 ^ k) (h : ∀ j, j < k → bit a j = bit b j) : a = b := by
  have e : bw k a = bw k b := ext_nth _ _ (by rw [length_bw, length_bw]) fun j hj => by
    rw [length_bw] at hj
    rw [nth_bw _ _ _ hj, nth_bw _ _ _ hj]
    exact h j hj
  have := congrArg bv e
  rwa [bv_bw, bv_bw, Nat.mod_eq_of_lt ha, Nat.mod_eq_of_lt hb] at this
/-- The highest digit that differs decides. -/
theorem less_of_bit (a b m : Nat) (h : ∀ j, m < j → bit a j = bit b j) (hlt : bit a m < bit b m) : a < b := by
  have h1 : a / 2 ^ (m + 1) = b / 2 ^ (m + 1) := by
    refine eq_of_bits _ _ (a + b) ?_ ?_ fun j _ => ?_
    · exact Nat.lt_of_le_of_lt (Nat.div_le_self _ _) (Nat.lt_of_lt_of_le Nat.lt_two_pow_self (Nat.pow_le_pow_right (by omega) (by omega)))
    · exact Nat.lt_of_le_of_lt (Nat.div_le_self _ _) (Nat.lt_of_lt_of_le Nat.lt_two_pow_self (Nat.pow_le_pow_right (by omega) (by omega)))
    · have := h (m + 1 + j) (by omega)
      unfold bit at *
      rwa [Nat.pow_add, ← Nat.div_div_eq_div_mul, ← Nat.div_div_eq_div_mul] at this
  have ha := Nat.div_add_mod a (2 ^ (m + 1))
  have hb := Nat.div_add_mod b (2 ^ (m + 1))
  rw [low_bit] at ha hb
  rw [h1] at ha
  have la := Nat.mod_lt a (Nat.pow_pos (n := m) (show 0 < 2 by omega))
  have hx := bit_lt b m
  have e1 : bit a m = 0 := by omega
  have e2 : bit b m = 1 := by omega
  rw [e1, Nat.mul_zero] at ha
  rw [e2, Nat.mul_one] at hb
  omega
end Go.Proofs.Ytekgoceainibaaa
/- The contracts of the document's Of, Small, Less, digit, Sum, Rest, Shifted. Conditions: as typed. -/
namespace Go.Proofs.Ytekgoceainibaaa
open Go.RowKit
set_option maxRecDepth 20000
theorem isN_any (A A2 : Option Addr) (c c2 : Nat) (l : List Nat) (N : Nat) (w : World) (hr : Rd .u64 w w.heap.size A l) (hm : Rd .u8 w w.heap.size A2 (dg N)) (hl : l.length ≤ 1000000) (hml : nbits N ≤ 100000000) (hc2 : nbits N ≤ c2) :
    Calls Try.prog 15 #[.slice A l.length c, .slice A2 (nbits N) c2] w fun e w' => e = .returned (.bool (decide (l = wd N))) ∧ Below w.heap.size w w' := by
  have h := is02_any A A2 c c2 l (dg N) w hr hm (dg_01 N) hl (by rw [length_dg]; exact hml) (by rw [length_dg]; exact hc2)
  rwa [length_dg, bv_dg] at h
set_option maxHeartbeats 400000 in
theorem less02_any (A A2 : Option Addr) (c c2 M N : Nat) (w : World) (B : Nat) (h1 : Rd .u8 w B A (dg M)) (h2 : Rd .u8 w B A2 (dg N)) (hm : nbits M ≤ 100000000) (hn : nbits N ≤ 100000000) :
    Calls Try.prog 34 #[.slice A (nbits M) c, .slice A2 (nbits N) c2] w fun e w' => e = .returned (.bool (decide (M < N))) ∧ Drawn w w' := by
  by_cases hne : nbits M = nbits N
  · have hb : ((nbits M : Int) != (nbits N : Int)) = false := by simp [hne]
    have Hne := Lib.hid hne
    have hle : nbits M ≤ nbits N := by omega
    clear hne
    go_enter Try.func34, Try.ntmps34
    go_wp2_with fail
    go_loopw [5] (fun i wr => ∃ k : Nat, k ≤ nbits M ∧ i = .int .i64 ((k : Int) - 1) ∧ (∀ j, k ≤ j → bit M j = bit N j) ∧ Drawn w wr) (fun i _ => (intOf i + 1).toNat)
    case atStart =>
      refine ⟨nbits M, Nat.le_refl _, rfl, fun j hj => ?_, Drawn.refl _⟩
      rw [← nth_dg_bit, ← nth_dg_bit]
      have := Hne.out
      simp [nth, length_dg, hj, show nbits N ≤ j by omega]
    case round =>
      obtain ⟨k, hk, rfl, hz, hdr⟩ := hrel
      have Hz := Lib.hid hz
      clear hz
      by_cases h0 : k = 0
      · subst h0
        go_wp2_with fail
        go_ret
        refine ⟨ret_bool2 ?_, hdr⟩
        have e : M = N := eq_of_bits M N (nbits M) (nbits_lt M) (by rw [Hne.out]; exact nbits_lt N) fun j _ => Hz.out j (Nat.zero_le _)
        rw [e]
        simp
      · obtain ⟨m, rfl⟩ : ∃ m, k = m + 1 := ⟨k - 1, by omega⟩
        obtain ⟨b, off, rfl, _, hc⟩ := (hdr.rd h1) (by rw [length_dg]; omega)
        obtain ⟨b2, off2, rfl, _, hc2⟩ := (hdr.rd h2) (by rw [length_dg]; omega)
        have e1 := hc m (by rw [length_dg]; omega)
        have e2 := hc2 m (by rw [length_dg]; omega)
        rw [nth_dg_bit] at e1 e2
        have hmN : m < nbits N := by omega
        clear hc hc2
        by_cases hx : bit M m = bit N m
        · have hxb : (((bit M m : Nat) : Int) != ((bit N m : Nat) : Int)) = false := by simp [hx]
          have Hx := Lib.hid hx
          clear hx
          go_wp2_with fail
          go_quiet (fail)
          go_wp2_with fail
          go_roundw
          case rel => exact ⟨m, by omega, rfl, fun j hj => by (rcases Nat.eq_or_lt_of_le hj with rfl | h); exact Hx.out; exact Hz.out j h, hdr.draws _⟩
          case measure => simp [intOf] <;> omega
        · have hxb : (((bit M m : Nat) : Int) != ((bit N m : Nat) : Int)) = true := by simp; omega
          have hiff : M < N ↔ bit M m < bit N m := by
            refine ⟨fun h => ?_, less_of_bit M N m fun j hj => Hz.out j hj⟩
            rcases Nat.lt_trichotomy (bit M m) (bit N m) with h' | h' | h'
            · exact h'
            · exact absurd h' hx
            · have := less_of_bit N M m (fun j hj => (Hz.out j hj).symm) h'
              omega
          have Hi := Lib.hid hiff
          clear hx hiff
          go_wp2_with fail
          go_quiet (fail)
          go_wp2_with fail
          go_quiet (fail)
          go_wp2_with fail
          go_ret
          refine ⟨ret_bool2 ?_, ?_⟩
          · rw [Bool.eq_iff_iff, decide_eq_true_eq, decide_eq_true_eq, Hi.out] <;> omega
          · first | exact hdr.draws _ | exact (hdr.draws _).draws _
  · have hb : ((nbits M : Int) != (nbits N : Int)) = true := by simp; omega
    have hiff : M < N ↔ nbits M < nbits N := by
      refine ⟨fun h => ?_, less_of_nbits⟩
      have := nbits_mono (Nat.le_of_lt h)
      omega
    have Hi := Lib.hid hiff
    clear hne hiff
    go_enter Try.func34, Try.ntmps34
    go_wp2_with fail
    go_ret
    refine ⟨ret_bool2 ?_, Drawn.refl _⟩
    rw [Bool.eq_iff_iff, decide_eq_true_eq, decide_eq_true_eq, Hi.out] <;> omega
end Go.Proofs.Ytekgoceainibaaa
/- The contracts of the document's Sum and Rest. Conditions: as typed. -/
namespace Go.Proofs.Ytekgoceainibaaa
open Go.RowKit
set_option maxRecDepth 20000
end Go.Proofs.Ytekgoceainibaaa
/- The contracts of the document's Shifted, FromBytes, Bytes, Small. Conditions: as typed. -/
namespace Go.Proofs.Ytekgoceainibaaa
open Go.RowKit
set_option maxRecDepth 20000
end Go.Proofs.Ytekgoceainibaaa
/- The contract of the document's Small. Conditions: as typed. -/
namespace Go.Proofs.Ytekgoceainibaaa
open Go.RowKit
set_option maxRecDepth 20000
/-- What Small answers. -/
def smallV (N : Nat) : Int := if N < 18446744073709551616 then (N : Int) else 0
def smallB (N : Nat) : Bool := decide (N < 18446744073709551616)
theorem same_true (A A2 : Option Addr) (n c c2 : Nat) (l : List Nat) (w : World) (hn : l.length = n) (h1 : Rd .u64 w w.heap.size A l) (h2 : Rd .u64 w w.heap.size A2 l) (hl : n ≤ 1099511627776) :
    Calls Try.prog 12 #[.slice A n c, .slice A2 n c2] w fun e w' => e = .returned (.bool true) ∧ Below w.heap.size w w' := by
  subst hn
  exact Calls.mono (same02_any A A2 c c2 l l w w.heap.size h1 h2 hl hl) fun e w' ⟨he, hd⟩ => ⟨by rw [he]; simp, hd.below _⟩
theorem is_true (A A2 : Option Addr) (n c c2 N : Nat) (w : World) (hn : (wd N).length = n) (h1 : Rd .u64 w w.heap.size A (wd N)) (h2 : Rd .u8 w w.heap.size A2 (dg N)) (hl : nbits N ≤ 10000000) (hc2 : nbits N ≤ c2) :
    Calls Try.prog 15 #[.slice A n c, .slice A2 (nbits N) c2] w fun e w' => e = .returned (.bool true) ∧ Below w.heap.size w w' := by
  subst hn
  exact Calls.mono (isN_any A A2 c c2 (wd N) N w h1 h2 (by rw [length_wd]; omega) (by omega) hc2) fun e w' ⟨he, hb⟩ => ⟨by rw [he]; simp, hb⟩
end Go.Proofs.Ytekgoceainibaaa
/- Plain facts on words: how many a number needs, carries and borrows from word to word, shifts of words. No condition but those typed; no program is named. -/
namespace Go.Proofs.Ytekgoceainibaaa
/-- How many words the number of words needs. -/
def tl (a : List Nat) : Nat := (nbits (natOf a) + 63) / 64
theorem natOf_lt_tl (a : List Nat) : natOf a < 18446744073709551616 ^ tl a := by
  rw [pow_64_2]
  exact Nat.lt_of_lt_of_le (nbits_lt _) (Nat.pow_le_pow_right (by omega) (by unfold tl; omega))
theorem tl_le (a : List Nat) (h : Words a) : tl a ≤ a.length := by
  have := nbits_natOf a h
  unfold tl
  omega
theorem nth_over_words (a : List Nat) (h : Words a) (m : Nat) (hm : tl a ≤ m) : nth a m = 0 := by
  rw [nth_natOf a h, Nat.div_eq_of_lt (Nat.lt_of_lt_of_le (natOf_lt_tl a) (Nat.pow_le_pow_right (by omega) hm))]
theorem tl_le_of_lt (a : List Nat) (m : Nat) (h : natOf a < 18446744073709551616 ^ m) : tl a ≤ m := by
  rw [pow_64_2] at h
  have := nbits_of_lt _ _ h
  unfold tl
  omega
theorem nth_last_word (a : List Nat) (h : Words a) (hp : 0 < tl a) : nth a (tl a - 1) ≠ 0 := by
  intro h0
  obtain ⟨m, hm⟩ : ∃ m, tl a = m + 1 := ⟨tl a - 1, by omega⟩
  have h1 := natOf_lt_tl a
  rw [hm] at h0 h1
  rw [Nat.add_sub_cancel, nth_natOf a h] at h0
  have hp' : 0 < 18446744073709551616 ^ m := Nat.pow_pos (by omega)
  have h2 : natOf a / 18446744073709551616 ^ m < 18446744073709551616 := by
    rw [Nat.div_lt_iff_lt_mul hp', Nat.mul_comm]
    rwa [Nat.pow_succ] at h1
  rw [Nat.mod_eq_of_lt h2, Nat.div_eq_zero_iff] at h0
  have h3 : natOf a < 18446744073709551616 ^ m := by omega
  have := tl_le_of_lt a m h3
  omega
theorem nth_take (a : List Nat) (k j : Nat) (h : j < k) : nth (a.take k) j = nth a j := by simp [nth, h]
theorem take_wd (a : List Nat) (h : Words a) : a.take (tl a) = wd (natOf a) := by
  have hl := tl_le a h
  refine ext_nth _ _ (by rw [List.length_take, length_wd]; unfold tl at *; omega) fun j hj => ?_
  rw [List.length_take] at hj
  rw [nth_take _ _ _ (by omega), nth_natOf a h, wd, nth_words _ _ _ (by unfold tl at hj; omega)]
theorem tl_eq_length (a : List Nat) (h : Words a) : tl a = a.length ↔ a = wd (natOf a) := by
  constructor
  · intro e
    have := take_wd a h
    rwa [e, List.take_length] at this
  · intro e
    have := congrArg List.length e
    rw [length_wd] at this
    unfold tl
    omega
theorem tl_words (k n : Nat) (h : n < 18446744073709551616 ^ k) : tl (words k n) = (nbits n + 63) / 64 := by
  rw [tl, natOf_words, Nat.mod_eq_of_lt h]
theorem tl_zero (a : List Nat) (h : tl a = 0) : natOf a = 0 := by
  have := natOf_lt_tl a
  rw [h] at this
  simpa using this
theorem small_iff (a : List Nat) : tl a ≤ 1 ↔ natOf a < 18446744073709551616 := by
  constructor
  · intro h
    have h1 := natOf_lt_tl a
    have h2 : (18446744073709551616 : Nat) ^ tl a ≤ 18446744073709551616 ^ 1 := Nat.pow_le_pow_right (by omega) h
    omega
  · intro h
    exact tl_le_of_lt a 1 (by omega)
theorem nth_zero (a : List Nat) (h : Words a) : nth a 0 = natOf a % 18446744073709551616 := by rw [nth_natOf a h]; simp
theorem nbits_hit_word (a : List Nat) (h : Words a) (hp : 0 < tl a) : nbits (natOf a) = (tl a - 1) * 64 + Lib.bitLen (nth a (tl a - 1)) := by
  have hx := nth_last_word a h hp
  have hl := tl_le a h
  obtain ⟨m, hm⟩ : ∃ m, tl a = m + 1 := ⟨tl a - 1, by omega⟩
  have hz : ∀ j, m + 1 ≤ j → nth a j = 0 := fun j hj => nth_over_words a h j (by omega)
  rw [hm, Nat.add_sub_cancel] at hx ⊢
  have hl' : m + 1 ≤ a.length := by omega
  have hlt := h _ (nth_mem a m (by omega))
  obtain ⟨b1, b2, b3⟩ := Lib.bitLenAux_bounds 64 (nth a m) hlt hx
  have hlow : natOf (a.take m) < 18446744073709551616 ^ m := natOf_take_lt a h m
  rw [natOf_top a m (by omega) hz]
  have e : Lib.bitLen (nth a m) = Lib.bitLenAux 64 (nth a m) := rfl
  rw [e]
  generalize nth a m = x at *
  generalize Lib.bitLenAux 64 x = bl at *
  have ep : (18446744073709551616 : Nat) ^ m = 2 ^ (m * 64) := by rw [pow_64_2, Nat.mul_comm]
  refine nbits_eq _ _ ?_ fun _ => ?_
  · rw [Nat.pow_add, ← ep]
    have : 18446744073709551616 ^ m * (x + 1) ≤ 18446744073709551616 ^ m * 2 ^ bl := Nat.mul_le_mul_left _ b3
    rw [Nat.mul_add, Nat.mul_one] at this
    omega
  · rw [show m * 64 + bl - 1 = m * 64 + (bl - 1) by omega, Nat.pow_add, ← ep]
    have : 18446744073709551616 ^ m * 2 ^ (bl - 1) ≤ 18446744073709551616 ^ m * x := Nat.mul_le_mul_left _ b2
    omega
/-! Sums -/
theorem words_snoc (k n : Nat) : words (k + 1) n = words k n ++ [n / 18446744073709551616 ^ k % 18446744073709551616] := by
  refine ext_nth _ _ (by simp [length_words]) fun j hj => ?_
  rw [length_words] at hj
  rw [nth_words _ _ _ hj]
  rcases Nat.lt_or_ge j k with h | h
  · have := nth_words k n j h
    rw [← this]
    simp [nth, List.getElem?_append, length_words, h]
  · obtain rfl : j = k := by omega
    simp [nth, length_words]
/-! What is left -/
/-! Shifts -/
/-- Word i, 0 below the first and behind the last. -/
def wordS (a : List Nat) (i : Int) : Nat := if i < 0 then 0 else nth a i.toNat
theorem wordS_nat (a : List Nat) (i : Nat) : wordS a (i : Int) = nth a i := by
  unfold wordS
  rw [if_neg (by omega), Int.toNat_natCast]
theorem wordS_neg (a : List Nat) (i : Int) (h : i < 0) : wordS a i = 0 := by simp [wordS, h]
theorem nth_lt (a : List Nat) (h : Words a) (j : Nat) : nth a j < 18446744073709551616 := by
  rw [nth_natOf a h]
  exact Nat.mod_lt _ (by omega)
theorem wordS_lt (a : List Nat) (h : Words a) (i : Int) : wordS a i < 18446744073709551616 := by
  unfold wordS
  split
  · omega
  · exact nth_lt a h _
theorem or_low (q t r : Nat) (hr : r < 64) (ht : t < 2 ^ r) : (q * 2 ^ r % 18446744073709551616) ||| t = (q * 2 ^ r + t) % 18446744073709551616 := by
  have e : (18446744073709551616 : Nat) = 2 ^ r * 2 ^ (64 - r) := by rw [← Nat.pow_add, show r + (64 - r) = 64 by omega]
  rw [e, Nat.mul_comm q, Nat.mul_mod_mul_left, ← Nat.two_pow_add_eq_or_of_lt ht]
  have hp : 0 < 2 ^ r := Nat.pow_pos (by omega)
  have h1 := Nat.mod_lt q (Nat.pow_pos (n := 64 - r) (show 0 < 2 by omega))
  have hq := Nat.div_add_mod q (2 ^ (64 - r))
  generalize 2 ^ (64 - r) = s at *
  generalize 2 ^ r = p at *
  have h2 : p * (q % s + 1) ≤ p * s := Nat.mul_le_mul_left _ h1
  rw [Nat.mul_add, Nat.mul_one] at h2
  conv => rhs; rw [← hq, Nat.mul_add, ← Nat.mul_assoc, Nat.add_assoc, Nat.mul_add_mod, Nat.mod_eq_of_lt (by omega)]
theorem shl_word (a : List Nat) (h : Words a) (j r : Nat) (hr : r < 64) :
    ((nth a j * 2 ^ r) % 18446744073709551616) ||| (wordS a ((j : Int) - 1) / 2 ^ (64 - r)) = natOf a * 2 ^ r / 18446744073709551616 ^ j % 18446744073709551616 := by
  have hp : 0 < 2 ^ r := Nat.pow_pos (by omega)
  have eB : (18446744073709551616 : Nat) = 2 ^ r * 2 ^ (64 - r) := by rw [← Nat.pow_add, show r + (64 - r) = 64 by omega]
  have hw := wordS_lt a h ((j : Int) - 1)
  have ht : wordS a ((j : Int) - 1) / 2 ^ (64 - r) < 2 ^ r := by
    rw [Nat.div_lt_iff_lt_mul (Nat.pow_pos (by omega)), ← eB]
    exact hw
  rw [or_low _ _ r hr ht, nth_natOf a h]
  have e1 : natOf a * 2 ^ r / 18446744073709551616 ^ j = natOf a / 18446744073709551616 ^ j * 2 ^ r + wordS a ((j : Int) - 1) / 2 ^ (64 - r) := by
    rcases j with _ | i
    · rw [wordS_neg a _ (by omega)]
      simp
    · rw [show ((i + 1 : Nat) : Int) - 1 = (i : Int) by omega, wordS_nat, nth_natOf a h]
      have hP : 0 < 18446744073709551616 ^ i := Nat.pow_pos (by omega)
      have hN := Nat.div_add_mod (natOf a) (18446744073709551616 ^ i)
      have hM := Nat.div_add_mod (natOf a / 18446744073709551616 ^ i) 18446744073709551616
      have hlow := Nat.mod_lt (natOf a) hP
      rw [Nat.pow_succ, ← Nat.div_div_eq_div_mul, ← Nat.div_div_eq_div_mul]
      generalize natOf a % 18446744073709551616 ^ i = p0 at *
      generalize hq : natOf a / 18446744073709551616 ^ i = q at *
      generalize hPP : 18446744073709551616 ^ i = P at *
      rw [← hN, Nat.add_mul, Nat.mul_assoc, Nat.mul_add_div hP]
      have he : p0 * 2 ^ r / P < 2 ^ r := by
        rw [Nat.div_lt_iff_lt_mul hP, Nat.mul_comm (2 ^ r)]
        exact Nat.mul_lt_mul_of_pos_right hlow hp
      generalize p0 * 2 ^ r / P = e at *
      conv => lhs; rw [eB, ← Nat.div_div_eq_div_mul, Nat.mul_comm q, Nat.mul_add_div hp, Nat.div_eq_of_lt he, Nat.add_zero]
      have hM' : q = 2 ^ (64 - r) * (q / 18446744073709551616 * 2 ^ r) + q % 18446744073709551616 := by
        have e3 : 18446744073709551616 * (q / 18446744073709551616) = 2 ^ (64 - r) * (q / 18446744073709551616 * 2 ^ r) := by
          generalize q / 18446744073709551616 = t
          rw [Nat.mul_comm t, ← Nat.mul_assoc, Nat.mul_comm (2 ^ (64 - r)), ← eB]
        rw [← e3, hM]
      conv => lhs; rw [hM']
      rw [Nat.mul_add_div (Nat.pow_pos (by omega))]
  rw [e1]
  have := Nat.mod_add_div (natOf a / 18446744073709551616 ^ j) 18446744073709551616
  generalize natOf a / 18446744073709551616 ^ j = q at *
  generalize wordS a ((j : Int) - 1) / 2 ^ (64 - r) = t at *
  conv => rhs; rw [← this, Nat.add_mul, Nat.mul_assoc, Nat.add_right_comm, Nat.add_mul_mod_self_left]
end Go.Proofs.Ytekgoceainibaaa
/- The contracts of nat's small functions: trimmed, word, May, Trim, Small, Of. Conditions: as typed (lengths that fit a machine). -/
namespace Go.Proofs.Ytekgoceainibaaa
open Go.RowKit
set_option maxRecDepth 20000
set_option maxHeartbeats 400000 in
theorem trimmed_any (A : Option Addr) (c : Nat) (a : List Nat) (w : World) (B : Nat) (hr : Rd .u64 w B A a) (hw : Words a) (hl : a.length ≤ 1000000) (hc : a.length ≤ c) :
    Calls Try.prog 37 #[.slice A a.length c] w fun e w' => e = .returned (.slice A (tl a) c) ∧ w = w' := by
  have htl := tl_le a hw
  go_enter Try.func37, Try.ntmps37
  go_wp2_with fail
  go_loop [3] (fun i => ∃ k : Nat, k ≤ a.length ∧ tl a ≤ k ∧ i = .int .i64 k) (fun i => (intOf i).toNat)
  case atStart => exact ⟨a.length, Nat.le_refl _, htl, rfl⟩
  case round =>
    obtain ⟨k, hk, hnk, rfl⟩ := hrel
    by_cases hend : k = tl a
    · obtain rfl := hend
      by_cases hp : 0 < tl a
      · have hl1 := nth_last_word a hw hp
        have hs : (((nth a (tl a - 1) : Nat) : Int) == 0) = false := by simpa using hl1
        obtain ⟨b, off, rfl, hbB, hcell⟩ := hr (by omega)
        have hx := hcell (tl a - 1) (by omega)
        clear hcell hl1
        go_wp2_with fail
        go_ret
        exact ⟨rfl, rfl⟩
      · have hnp : ¬ (0 : Int) < (tl a : Int) := by omega
        go_wp2_with fail
        go_ret
        exact ⟨rfl, rfl⟩
    · obtain ⟨m, rfl⟩ : ∃ m, k = m + 1 := ⟨k - 1, by omega⟩
      have hx0 := nth_over_words a hw m (by omega)
      obtain ⟨b, off, rfl, hbB, hcell⟩ := hr (by omega)
      have hx := hcell m (by omega)
      rw [hx0] at hx
      clear hcell hx0
      go_wp2_with fail
      go_round
      case rel => exact ⟨m, by omega, by omega, by go_num⟩
      case measure => simp [intOf] <;> omega
set_option maxHeartbeats 400000 in
theorem word_any (A : Option Addr) (c : Nat) (a : List Nat) (i : Int) (w : World) (B : Nat) (hr : Rd .u64 w B A a) (hl : a.length ≤ 1000000) :
    Calls Try.prog 55 #[.slice A a.length c, .int .i64 i] w fun e w' => e = .returned (.int .u64 (wordS a i : Nat)) ∧ w = w' := by
  by_cases h0 : i < 0
  · have hv := Lib.hid (wordS_neg a i h0)
    go_enter Try.func55, Try.ntmps55
    go_wp2_with fail
    go_ret
    exact ⟨ret_num (by rw [hv.out]; rfl), rfl⟩
  · obtain ⟨j, rfl⟩ := Int.eq_ofNat_of_zero_le (by omega : 0 ≤ i)
    have hv := Lib.hid (wordS_nat a j)
    by_cases h1 : j < a.length
    · obtain ⟨b, off, rfl, hbB, hcell⟩ := hr (by omega)
      have hx := hcell j h1
      clear hcell
      go_enter Try.func55, Try.ntmps55
      go_wp2_with fail
      go_ret
      exact ⟨ret_num (by rw [hv.out]), rfl⟩
    · have hn := Lib.hid (show nth a j = 0 by simp [nth, List.getElem?_eq_none (by omega : a.length ≤ j)])
      go_enter Try.func55, Try.ntmps55
      go_wp2_with fail
      go_ret
      exact ⟨ret_num (by rw [hv.out, hn.out]; rfl), rfl⟩
section
variable (A : Option Addr) (c : Nat) (a : List Nat) (w : World) (hr : Rd .u64 w w.heap.size A a) (hw : Words a) (hl : a.length ≤ 100000) (hc : a.length ≤ c)
include hr hw hl hc
theorem may_pf : Calls Try.prog 20 #[.slice A a.length c] w fun e w' => e = .returned (.bool (decide (a = wd (natOf a)))) ∧ Below w.heap.size w w' := by
  have T := Lib.hid (trimmed_any A c a w w.heap.size hr hw (by omega) hc)
  have E := Lib.hid (tl_eq_length a hw)
  have htl := tl_le a hw
  go_enter Try.func20, Try.ntmps20
  go_wp2_with fail
  refine (T.out).mono ?_
  rintro e w' ⟨rfl, rfl⟩
  by_cases h : tl a = a.length
  · have hb : ((tl a : Int) == (a.length : Int)) = true := by simp; omega
    have Hh := Lib.hid h
    clear h
    go_wp2_with fail
    go_ret
    exact ⟨ret_bool2 (decide_eq_true (E.out.1 Hh.out)).symm, Below.refl _ _⟩
  · have hb : ((tl a : Int) == (a.length : Int)) = false := by simp; omega
    have Hh := Lib.hid h
    clear h
    go_wp2_with fail
    go_ret
    exact ⟨ret_bool2 (decide_eq_false fun e => Hh.out (E.out.2 e)).symm, Below.refl _ _⟩
set_option maxHeartbeats 400000 in
theorem trim_pf : Calls Try.prog 16 #[.slice A a.length c] w (OutNat (natOf a) w) := by
  obtain ⟨i0, hi, hz0, hz1, hz2⟩ := info_parts num_info_u64
  have T := Lib.hid (trimmed_any A c a w w.heap.size hr hw (by omega) hc)
  have E := Lib.hid (take_wd a hw)
  have htl := tl_le a hw
  have hR := hr.take (tl a)
  rw [E.out] at hR
  have HR := Lib.hid hR
  clear hR
  have hlen := Lib.hid (show (wd (natOf a)).length = tl a from length_wd _)
  go_enter Try.func16, Try.ntmps16
  go_wp2_with fail
  refine (T.out).mono ?_
  rintro e w' ⟨rfl, rfl⟩
  go_wp2_with (at_builtin; refine wpList_append_rd _ rfl (.const (.slice none 0 0)) (.tmp 4) _ rfl w.heap.size 40 i0 _ 8 Try.underlying23 hi hz0 hz1 hz2 rfl (.slice none 0 0) 0 [] rfl ?c1 .u64 w.heap.size A (tl a) c (wd (natOf a)) rfl ?c2 ?c3 ?c4 ?c5 ?c6 ?_)
  case c1 => exact World.ownsRow_nil _ _ _ _
  case c2 => exact hlen.out
  case c3 => exact HR.out
  case c4 => unfold maxLen; omega
  case c5 => omega
  case c6 => exact Nat.le_refl _
  intro v1 w1 own1 hg1
  have b1 : Below w.heap.size w w1 := (Below.refl _ _).grown hg1 (Nat.le_refl _) (by simp [Value.ownBlock])
  have own1' : w1.ownsRow w.heap.size 40 1 v1 (tl a) (ints .u64 (wd (natOf a))) := by simpa using own1
  obtain ⟨X, d, rfl, hd, _⟩ := own_form own1'
  clear own1 hg1
  go_wp2_with fail
  go_ret
  exact ⟨_, rfl, own1', b1⟩
set_option maxHeartbeats 400000 in
theorem small_pf : Calls Try.prog 48 #[.slice A a.length c] w fun e w' =>
      e = .returned (.tuple #[.int .u64 (smallV (natOf a)), .bool (smallB (natOf a))]) ∧ Below w.heap.size w w' := by
  have T := Lib.hid (trimmed_any A c a w w.heap.size hr hw (by omega) hc)
  have W0 := Lib.hid (word_any A c a 0 w w.heap.size hr (by omega))
  have htl := tl_le a hw
  by_cases h : tl a ≤ 1
  · have hs := (small_iff a).1 h
    have hv := Lib.hid (show ((wordS a 0 : Nat) : Int) = smallV (natOf a) by
      unfold smallV
      rw [if_pos hs, show (0 : Int) = ((0 : Nat) : Int) from rfl, wordS_nat, nth_zero a hw, Nat.mod_eq_of_lt hs])
    have hb := Lib.hid (show true = smallB (natOf a) by simp [smallB, hs])
    clear hs
    have hn : ¬ (1 : Int) < (tl a : Int) := by omega
    go_enter Try.func48, Try.ntmps48
    go_wp2_with fail
    refine (T.out).mono ?_
    rintro e w' ⟨rfl, rfl⟩
    go_wp2_with fail
    refine (W0.out).mono ?_
    rintro e w' ⟨rfl, rfl⟩
    go_wp2_with fail
    go_ret2
    exact ⟨by rw [hv.out, ← hb.out]; rfl, Below.refl _ _⟩
  · have hs : ¬ natOf a < 18446744073709551616 := fun h' => h ((small_iff a).2 h')
    have hv := Lib.hid (show (0 : Int) = smallV (natOf a) by unfold smallV; rw [if_neg hs])
    have hb := Lib.hid (show false = smallB (natOf a) by simp [smallB]; omega)
    clear hs
    have hn : (1 : Int) < (tl a : Int) := by omega
    go_enter Try.func48, Try.ntmps48
    go_wp2_with fail
    refine (T.out).mono ?_
    rintro e w' ⟨rfl, rfl⟩
    go_wp2_with fail
    go_ret2
    exact ⟨by rw [← hv.out, ← hb.out]; rfl, Below.refl _ _⟩
end
theorem wd_one (n : Nat) (hn : n < 18446744073709551616) (h0 : n ≠ 0) : wd n = [n] ∧ (nbits n + 63) / 64 = 1 := by
  have h1 := nbits_of_lt n 64 hn
  have h2 : nbits n ≠ 0 := by intro h; have := nbits_lt n; rw [h] at this; simp at this; omega
  have h3 : (nbits n + 63) / 64 = 1 := by omega
  refine ⟨?_, h3⟩
  rw [wd, h3]
  simp [words, Nat.mod_eq_of_lt hn]
set_option maxHeartbeats 400000 in
theorem of_pf (n : Nat) (w : World) (hn : n < 18446744073709551616) : Calls Try.prog 47 #[.int .u64 n] w (OutNat n w) := by
  by_cases h0 : n = 0
  · subst h0
    go_enter Try.func47, Try.ntmps47
    go_wp2_with fail
    go_ret
    refine ⟨_, rfl, ?_, Below.refl _ _⟩
    have e : wd 0 = [] := by simp [wd, nbits_zero, words]
    rw [nbits_zero, e]
    exact World.ownsRow_nil _ _ _ _
  · obtain ⟨e1, e2⟩ := wd_one n hn h0
    have E1 := Lib.hid e1
    have E2 := Lib.hid e2
    clear e1 e2
    have hb : ((n : Int) == 0) = false := by simpa using h0
    clear h0
    go_enter Try.func47, Try.ntmps47
    go_wp2_with fail
    go_ret
    refine ⟨_, rfl, ?_, (Below.refl _ _).alloc (Nat.le_refl _) _⟩
    rw [E2.out, E1.out]
    exact own_of_heap (cur := [.int .u64 n]) (heap_alloc_new w (.cells #[.int .u64 n] 40)) (Nat.le_refl _) (Nat.le_refl _) (by unfold maxLen; omega) rfl rfl
end Go.Proofs.Ytekgoceainibaaa
/-
  DERIVED: THE SHELF's CONTRACTS AT THIS DUMP, IN PLAIN WORDS (tools/lay-plain.mjs out of 'TryShelf.lean', which tools/lay-shelf.mjs wrote): THE SAME DECLARATIONS UNDER THE SAME NAMES: 'import', 'namespace', 'open', 'def', 'theorem' AND NOTHING ELSE: no command of the shelf's: FOR A HAND-IN. Each laying: the table of numbers ('.._ren') and one theorem, a field a fact of the dump's own or the kernel's comparison; each contract: ONE APPLICATION.
-/
namespace Go.Proofs
open Go.Shelf
def Try.lays134_ren : Go.Shelf.Ren := ⟨fun | 134 => 70 | 129 => 64 | n => n, fun | 53 => 40 | 3 => 3 | 4 => 4 | 46 => 51 | 5 => 5 | 9 => 9 | n => n, fun | n => n⟩
theorem Try.lays134 : Go.Proofs.Lays.n134 Try.prog Try.lays134_ren := {
  mixed := by kernel_rfl
  f129 := Try.func64.trans (congrArg some (by kernel_rfl))
  f134 := Try.func70.trans (congrArg some (by kernel_rfl))
  t3 := Try.underlying3
  a3 := Try.isAgg3
  z3 := Try.sizeOf3
  v3 := Try.zeroValue3
  t4 := Try.underlying4
  a4 := Try.isAgg4
  z4 := Try.sizeOf4
  v4 := Try.zeroValue4
  t5 := Try.underlying5
  a5 := Try.isAgg5
  z5 := Try.sizeOf5
  v5 := Try.zeroValue5
  t9 := Try.underlying9
  a9 := Try.isAgg9
  z9 := Try.sizeOf9
  v9 := Try.zeroValue9
  t46 := Try.underlying51
  a46 := Try.isAgg51
  z46 := Try.sizeOf51
  v46 := Try.zeroValue51
  t53 := Try.underlying40
  a53 := Try.isAgg40
  z53 := Try.sizeOf40
  v53 := Try.zeroValue40 }
/-- bits.LeadingZeros64: "LeadingZeros64 returns the number of leading zero bits in x; the result is 64 for x == 0.": IT RETURNS '64 - Lib.bitLen x'; the world is as it was. ITS CALLEE bits.Len64 IS MET BY ITS OWN CONTRACT OFF THE SHELF (lay that first): entered in place it sends the kernel out of memory. (LAID: no walk: one application.) -/
theorem Try.bits_LeadingZeros64 (x : Int) (w : World) (h0 : 0 ≤ x) (h1 : x ≤ 18446744073709551615) :
    Calls Try.prog 70 #[.int .u64 x] w fun e w' => e = .returned (.int .i64 (64 - (Lib.bitLen x.toNat : Int))) ∧ w' = w := Any.bits_LeadingZeros64 Try.lays134 x w h0 h1
def Try.lays129_ren : Go.Shelf.Ren := ⟨fun | 129 => 64 | n => n, fun | 53 => 40 | 3 => 3 | 4 => 4 | 46 => 51 | 5 => 5 | 9 => 9 | n => n, fun | n => n⟩
theorem Try.lays129 : Go.Proofs.Lays.n129 Try.prog Try.lays129_ren := {
  mixed := by kernel_rfl
  f129 := Try.func64.trans (congrArg some (by kernel_rfl))
  t3 := Try.underlying3
  a3 := Try.isAgg3
  z3 := Try.sizeOf3
  v3 := Try.zeroValue3
  t4 := Try.underlying4
  a4 := Try.isAgg4
  z4 := Try.sizeOf4
  v4 := Try.zeroValue4
  t5 := Try.underlying5
  a5 := Try.isAgg5
  z5 := Try.sizeOf5
  v5 := Try.zeroValue5
  t9 := Try.underlying9
  a9 := Try.isAgg9
  z9 := Try.sizeOf9
  v9 := Try.zeroValue9
  t46 := Try.underlying51
  a46 := Try.isAgg51
  z46 := Try.sizeOf51
  v46 := Try.zeroValue51
  t53 := Try.underlying40
  a53 := Try.isAgg40
  z53 := Try.sizeOf40
  v53 := Try.zeroValue40 }
/-- bits.Len64: "Len64 returns the minimum number of bits required to represent x; the result is 0 for x == 0.": IT RETURNS 'Lib.bitLen x'; the world is as it was. ('h0', 'h1': x is a uint64.) (LAID: no walk: one application.) -/
theorem Try.bits_Len64 (x : Int) (w : World) (h0 : 0 ≤ x) (h1 : x ≤ 18446744073709551615) :
    Calls Try.prog 64 #[.int .u64 x] w fun e w' => e = .returned (.int .i64 (Lib.bitLen x.toNat)) ∧ w' = w := Any.bits_Len64 Try.lays129 x w h0 h1
def Try.lays264_ren : Go.Shelf.Ren := ⟨fun | 264 => 71 | n => n, fun | 53 => 40 | 46 => 51 | n => n, fun | n => n⟩
theorem Try.lays264 : Go.Proofs.Lays.n264 Try.prog Try.lays264_ren := {
  mixed := by kernel_rfl
  f264 := Try.func71.trans (congrArg some (by kernel_rfl))
  t46 := Try.underlying51
  a46 := Try.isAgg51
  z46 := Try.sizeOf51
  v46 := Try.zeroValue51
  t53 := Try.underlying40
  a53 := Try.isAgg40
  z53 := Try.sizeOf40
  v53 := Try.zeroValue40 }
open Go.RowKit Go.Lib in
theorem Try.bits_Mul64 (x y : Nat) (hx : x < 18446744073709551616) (hy : y < 18446744073709551616) (w : World) :
    Calls Try.prog 71 #[.int .u64 x, .int .u64 y] w fun e w' => e = .returned (.tuple #[.int .u64 ((x * y / 18446744073709551616 : Nat) : Int), .int .u64 ((x * y % 18446744073709551616 : Nat) : Int)]) ∧ w' = w := Any.bits_Mul64 Try.lays264 x y hx hy w
end Go.Proofs
/- The contracts of nat's Bits, Bit, mayShift, parts, and of cmp.Compare at int and uint64. Conditions: as typed (lengths that fit a machine). -/
namespace Go.Proofs.Ytekgoceainibaaa
open Go.RowKit
set_option maxRecDepth 20000
def cmpS (A B : Nat) : Int := if A < B then -1 else if B < A then 1 else 0
def shlS (A : Nat) (k : Int) : Nat := if 0 ≤ k ∧ k ≤ 65536 then 2 ^ k.toNat * A else 0
def shrS (A : Nat) (k : Int) : Nat := if 0 ≤ k ∧ k ≤ 65536 then A / 2 ^ k.toNat else 0
/-- A difference, or nothing. -/
def OutSub (A B : Nat) (w : World) (e : Ending) (w' : World) : Prop :=
  (B ≤ A → ∃ v, e = .returned (.tuple #[v, .bool true]) ∧ w'.ownsRow w.heap.size 40 1 v ((nbits (A - B) + 63) / 64) (ints .u64 (wd (A - B)))) ∧
  (A < B → ∃ X d, e = .returned (.tuple #[.slice X 0 d, .bool false])) ∧ Below w.heap.size w w'
set_option maxHeartbeats 400000 in
theorem bits_q (A : Option Addr) (c : Nat) (a : List Nat) (w : World) (B : Nat) (hr : Rd .u64 w B A a) (hw : Words a) (hl : a.length ≤ 1000000) (hc : a.length ≤ c) :
    Calls Try.prog 46 #[.slice A a.length c] w fun e w' => e = .returned (.int .i64 (nbits (natOf a))) ∧ w = w' := by
  have T := trimmed_any A c a w B hr hw hl hc
  have htl := tl_le a hw
  by_cases h0 : tl a = 0
  · have hn := Lib.hid (tl_zero a h0)
    rw [h0] at T
    have HT := Lib.hid T
    clear T h0
    go_enter Try.func46, Try.ntmps46
    go_wp2_with fail
    refine (HT.out).mono ?_
    rintro e w' ⟨rfl, rfl⟩
    go_wp2_with fail
    go_ret
    exact ⟨ret_num (by rw [hn.out, nbits_zero]; rfl), rfl⟩
  · obtain ⟨m, hm⟩ : ∃ m, tl a = m + 1 := ⟨tl a - 1, by omega⟩
    have hN := nbits_hit_word a hw (by omega)
    rw [hm, Nat.add_sub_cancel] at hN
    rw [hm] at T htl
    obtain ⟨b, off, rfl, hbB, hcell⟩ := hr (by omega)
    have hx := hcell m (by omega)
    have hxl := hw _ (nth_mem a m (by omega))
    have hbl := bitLen_le64 _ hxl
    have HN := Lib.hid hN
    have HT := Lib.hid T
    clear T h0 hm hN hcell
    have hb : ((m : Int) + 1 == 0) = false := by simp; omega
    go_enter Try.func46, Try.ntmps46
    go_wp2_with fail
    refine (HT.out).mono ?_
    rintro e w' ⟨rfl, rfl⟩
    go_wp2_with fail
    refine (Try.bits_Len64 _ _ (by omega) (by omega)).mono ?_
    rintro e w' ⟨rfl, rfl⟩
    rw [Int.toNat_natCast]
    go_wp2_with fail
    go_ret
    exact ⟨ret_num (by rw [HN.out]; omega), rfl⟩
theorem mayShift_yes (k : Int) (w : World) (h0 : 0 ≤ k) (h1 : k ≤ 65536) : Calls Try.prog 50 #[.int .i64 k] w fun e w' => e = .returned (.bool true) ∧ w = w' := by
  go_enter Try.func50, Try.ntmps50
  go_wp2
  go_ret
  exact ⟨rfl, rfl⟩
theorem mayShift_no (k : Int) (w : World) (h : k < 0 ∨ 65536 < k) : Calls Try.prog 50 #[.int .i64 k] w fun e w' => e = .returned (.bool false) ∧ w = w' := by
  rcases h with h | h
  · go_enter Try.func50, Try.ntmps50
    go_wp2
    go_ret
    exact ⟨rfl, rfl⟩
  · have h0 : 0 ≤ k := by omega
    have h1 : ¬ k ≤ 65536 := by omega
    go_enter Try.func50, Try.ntmps50
    go_wp2
    go_ret
    exact ⟨rfl, rfl⟩
theorem parts_any (n s : Nat) (w : World) (hn : n ≤ 1000000000) (hs : 0 < s) (hs2 : s ≤ 1000) : Calls Try.prog 68 #[.int .i64 n, .int .i64 s] w fun e w' => e = .returned (.int .i64 ((n + s - 1) / s : Nat)) ∧ w = w' := by
  have hb : ((s : Int) == 0) = false := by simp; omega
  go_enter Try.func68, Try.ntmps68
  go_wp2
  go_ret
  exact ⟨ret_num (by rw [Int.natCast_ediv, Int.natCast_sub (by omega)]; rfl), rfl⟩
section
variable (A : Option Addr) (c : Nat) (a : List Nat) (w : World) (hr : Rd .u64 w w.heap.size A a) (hw : Words a) (hl : a.length ≤ 100000) (hc : a.length ≤ c)
include hr hw hl
end
theorem isNaN_int (x : Int) (w : World) : Calls Try.prog 56 #[.int .i64 x] w fun e w' => e = .returned (.bool false) ∧ w = w' := by
  go_enter Try.func56, Try.ntmps56
  go_wp2
  go_ret
  exact ⟨by simp, rfl⟩
theorem isNaN_u64 (x : Int) (w : World) : Calls Try.prog 58 #[.int .u64 x] w fun e w' => e = .returned (.bool false) ∧ w = w' := by
  go_enter Try.func58, Try.ntmps58
  go_wp2
  go_ret
  exact ⟨by simp, rfl⟩
theorem compare_int (x y : Nat) (w : World) : Calls Try.prog 40 #[.int .i64 x, .int .i64 y] w fun e w' => e = .returned (.int .i64 (cmpS x y)) ∧ w = w' := by
  rcases Nat.lt_trichotomy x y with h | h | h
  · have hv := Lib.hid (show cmpS x y = -1 by unfold cmpS; rw [if_pos h])
    go_enter Try.func40, Try.ntmps40
    go_wp2_with (go_at_call 56; refine (isNaN_int _ _).mono ?_; rintro e w' ⟨rfl, rfl⟩)
    go_ret
    exact ⟨ret_num (by rw [hv.out]), rfl⟩
  · subst h
    have hv := Lib.hid (show cmpS x x = 0 by simp [cmpS])
    go_enter Try.func40, Try.ntmps40
    go_wp2_with (go_at_call 56; refine (isNaN_int _ _).mono ?_; rintro e w' ⟨rfl, rfl⟩)
    go_ret
    exact ⟨ret_num (by rw [hv.out]), rfl⟩
  · have hv := Lib.hid (show cmpS x y = 1 by unfold cmpS; rw [if_neg (by omega), if_pos h])
    have h' : ¬ x < y := by omega
    go_enter Try.func40, Try.ntmps40
    go_wp2_with (go_at_call 56; refine (isNaN_int _ _).mono ?_; rintro e w' ⟨rfl, rfl⟩)
    go_ret
    exact ⟨ret_num (by rw [hv.out]), rfl⟩
theorem compare_u64 (x y : Nat) (w : World) : Calls Try.prog 42 #[.int .u64 x, .int .u64 y] w fun e w' => e = .returned (.int .i64 (cmpS x y)) ∧ w = w' := by
  rcases Nat.lt_trichotomy x y with h | h | h
  · have hv := Lib.hid (show cmpS x y = -1 by unfold cmpS; rw [if_pos h])
    go_enter Try.func42, Try.ntmps42
    go_wp2_with (go_at_call 58; refine (isNaN_u64 _ _).mono ?_; rintro e w' ⟨rfl, rfl⟩)
    go_ret
    exact ⟨ret_num (by rw [hv.out]), rfl⟩
  · subst h
    have hv := Lib.hid (show cmpS x x = 0 by simp [cmpS])
    go_enter Try.func42, Try.ntmps42
    go_wp2_with (go_at_call 58; refine (isNaN_u64 _ _).mono ?_; rintro e w' ⟨rfl, rfl⟩)
    go_ret
    exact ⟨ret_num (by rw [hv.out]), rfl⟩
  · have hv := Lib.hid (show cmpS x y = 1 by unfold cmpS; rw [if_neg (by omega), if_pos h])
    have h' : ¬ x < y := by omega
    go_enter Try.func42, Try.ntmps42
    go_wp2_with (go_at_call 58; refine (isNaN_u64 _ _).mono ?_; rintro e w' ⟨rfl, rfl⟩)
    go_ret
    exact ⟨ret_num (by rw [hv.out]), rfl⟩
end Go.Proofs.Ytekgoceainibaaa
/- nat.pairs: the iterator over two numbers' words, as what a loop over it may rely on. Conditions: as typed. -/
namespace Go.Proofs.Ytekgoceainibaaa
open Go.RowKit Go.Shelf
set_option maxRecDepth 20000
attribute [local go_sem] Oper.semAt_some
/-- Two words. -/
abbrev WP := { p : Nat × Nat // p.1 < 18446744073709551616 ∧ p.2 < 18446744073709551616 }
def pairAt (a b : List Nat) (ha : Words a) (hb : Words b) (j : Nat) : WP := ⟨(nth a j, nth b j), nth_lt a ha j, nth_lt b hb j⟩
/-- What has come when k rounds are over. -/
def upto {α : Type} (f : Nat → α) (k : Nat) : List α := (List.range k).map f
theorem upto_succ {α : Type} (f : Nat → α) (k : Nat) : upto f (k + 1) = upto f k ++ [f k] := by simp [upto, List.range_succ]
theorem upto_length {α : Type} (f : Nat → α) (k : Nat) : (upto f k).length = k := by simp [upto]
theorem upto_map {α β : Type} (f : Nat → α) (g : α → β) (k : Nat) : (upto f k).map g = (List.range k).map fun j => g (f j) := by simp [upto]
/-- What a round keeps: all that lay below n₀, and the two boxes of the iterator. -/
def KpP (n₀ p : Nat) (W W' : World) : Prop := Below n₀ W W' ∧ W'.heap[p]? = W.heap[p]? ∧ W'.heap[p + 1]? = W.heap[p + 1]?
theorem KpP.t {n₀ p : Nat} {A B C : World} (h : KpP n₀ p A B) (k : KpP n₀ p B C) : KpP n₀ p A C := ⟨h.1.trans k.1, k.2.1.trans h.2.1, k.2.2.trans h.2.2⟩
theorem KpP.b {n₀ p : Nat} {w : World} (hn : n₀ ≤ w.heap.size) (hp : p + 2 ≤ w.heap.size) (W : World) (l : Nat) (o o' : Obj) (hl : w.heap.size ≤ l) (h : W.heap[l]? = some o) (h1 : o.isCells = false) (h2 : o.isWalk = false) : KpP n₀ p W (W.putObj l o') := by
  have hg := grownBy_putObj' W l o'
  have hlt := (Array.getElem?_eq_some_iff.1 h).1
  exact ⟨belowK_b hn W l o o' hl h h1 h2, hg.block p (by omega) (by simp; omega), hg.block (p + 1) (by omega) (by simp; omega)⟩
/-- What a round has said, by one word. -/
structure Said (bb : Bool) (Y N : Prop) : Prop where
  yes : bb = true → Y
  no : bb = false → N
theorem yieldSays {e : Ending} {Y1 Y2 N : Prop} (h : (e = .returned (.bool true) ∧ Y1 ∧ Y2) ∨ (e = .returned (.bool false) ∧ N)) : ∃ bb, e = .returned (.bool bb) ∧ Said bb (Y1 ∧ Y2) N := by
  rcases h with ⟨he, h1, h2⟩ | ⟨he, h3⟩
  · exact ⟨true, he, ⟨fun _ => ⟨h1, h2⟩, (fun h => by cases h)⟩⟩
  · exact ⟨false, he, ⟨(fun h => by cases h), fun _ => h3⟩⟩
theorem kpP_drew (n₀ p : Nat) (w : World) : KpP n₀ p w w.drew := ⟨(Drawn.more 1).below n₀, rfl, rfl⟩
theorem Drawn.grown (w : World) (n : Nat) : w.grownBy (w.drewN n) none := ⟨rfl, rfl, rfl, Nat.le_refl _, fun _ _ _ => rfl⟩
set_option maxRecDepth 100000 in
set_option maxHeartbeats 2000000 in
theorem pairs1_in (n : Nat) (hn : 1 ≤ n) (l p n₀ : Nat) (A A2 : Option Addr) (a b : List Nat) (ha : Words a) (hb : Words b) (c c2 m : Nat) (hla : a.length ≤ 1000000) (hlb : b.length ≤ 1000000) (hm : Hid (m = max a.length b.length)) (J Jx : List WP → World → Prop) (W : World) (hJ : AbidesFrom W.heap.size J)
    (hY : ∀ pre x W, J pre W → pre.length < m → YieldAt Fence.wide (n - 1) Try.prog l #[.int .u64 (x.1.1 : Int), .int .u64 (x.1.2 : Int)] W fun e W' =>
      (e = .returned (.bool true) ∧ J (pre ++ [x]) W' ∧ KpP n₀ p W W') ∨ (e = .returned (.bool false) ∧ Jx (pre ++ [x]) W'))
    (hp : Boxed W p 23 (.slice A a.length c)) (hq : Boxed W (p + 1) 23 (.slice A2 b.length c2)) (hra : Rd .u64 W n₀ A a) (hrb : Rd .u64 W n₀ A2 b) (h0 : J [] W) :
    CallsIn Fence.wide n Try.prog 54 #[.func (.yield l) #[] #[], .pointer (some ⟨p, 0, none⟩), .pointer (some ⟨p + 1, 0, none⟩)] W fun e W' => (∃ v, e = .returned v) ∧
      ((∃ ys, ys = upto (pairAt a b ha hb) m ∧ J ys W') ∨ (∃ pre, (∃ k, k ≤ m ∧ pre = upto (pairAt a b ha hb) k) ∧ Jx pre W')) := by
  have hpc := hp.cell
  have hqc := hq.cell
  refine callsIn_of_wp Try.func54 rfl trivial ?_ rfl
  simp only [Try.ntmps54, List.size_toArray, List.length_cons, List.length_nil, Nat.reduceAdd, Nat.reduceSub, Array.replicate_succ, Array.replicate_zero, List.push_toArray, List.append_toArray, List.nil_append, List.cons_append]
  gi_wp2
  have HM := hm.out
  rw [show max (a.length : Int) (b.length : Int) = (m : Int) by omega]
  clear HM
  gi_loopw [10] (fun i wr => ∃ k : Nat, k ≤ m ∧ i = .int .i64 k ∧ J (upto (pairAt a b ha hb) k) wr ∧ KpP n₀ p W wr) (fun i _ => m - (intOf i).toNat)
  case atStart => exact ⟨0, Nat.zero_le _, rfl, h0, Below.refl _ _, rfl, rfl⟩
  case round =>
    obtain ⟨k, hk, rfl, hJs, hkp⟩ := hrel
    by_cases hlt : k < m
    · have hm2 : m ≤ 1000000 := by have := hm.out; omega
      have hp1 : Boxed wr p 23 (.slice A a.length c) := hkp.2.1.trans hp
      have hq1 : Boxed wr (p + 1) 23 (.slice A2 b.length c2) := hkp.2.2.trans hq
      have hpc1 := hp1.cell
      have hqc1 := hq1.cell
      have hra1 := hra.below hkp.1
      have hrb1 := hrb.below hkp.1
      have hY1 := hY (upto (pairAt a b ha hb) k) (pairAt a b ha hb k)
      rw [show (pairAt a b ha hb k).1.1 = wordS a (k : Int) from (wordS_nat a k).symm, show (pairAt a b ha hb k).1.2 = wordS b (k : Int) from (wordS_nat b k).symm] at hY1
      obtain ⟨fn, tmps, assign, body, hy, hR⟩ := hY1 wr.drew (hJ _ _ _ none hJs (Drawn.grown wr 1) (fun r e => by cases e)) (by rw [upto_length]; exact hlt)
      have hmx : Try.prog.follows .mixedOrders = true := by kernel_rfl
      clear hpc hqc
      gi_wp2
      gi_region_with_o (first
        | (refine ⟨trivial, ?_⟩; gi_at_call 55; refine (callsIn_wide.2 (word_any _ _ _ _ _ n₀ (by first | exact hra1 | exact hrb1) (by omega))).mono ?_; rintro e w' ⟨rfl, rfl⟩)
        | (refine hR.mono ?_; rintro e W3 hpost; obtain ⟨bb, rfl, hbb⟩ := yieldSays hpost; clear hpost))
      all_goals
        cases bb
        · have hJ3 := hbb.no rfl
          clear hbb
          gi_wp2
          refine bodyPost_ret (results_none rfl _ _ _) rfl ?_
          exact ⟨⟨_, rfl⟩, .inr ⟨_, ⟨k + 1, by omega, (upto_succ _ _).symm⟩, hJ3⟩⟩
        · have hJ3 := (hbb.yes rfl).1
          have hk3 := (hbb.yes rfl).2
          clear hbb
          gi_wp2
          go_roundw
          case rel => exact ⟨k + 1, by omega, by go_num, by rw [upto_succ]; exact hJ3, hkp.t (KpP.t (kpP_drew n₀ p wr) hk3)⟩
          case measure => simp [intOf]; omega
    · obtain rfl : k = m := by omega
      gi_wp2
      go_end0
      exact ⟨⟨_, rfl⟩, .inl ⟨_, rfl, hJs⟩⟩
set_option maxHeartbeats 1000000 in
theorem pairs_in (n : Nat) (A A2 : Option Addr) (na nb c c2 : Nat) (w : World) :
    CallsIn Fence.wide n Try.prog 38 #[.slice A na c, .slice A2 nb c2] w fun e w' =>
      e = .returned (.func (.func 54) #[] #[.pointer (some ⟨w.heap.size, 0, none⟩), .pointer (some ⟨w.heap.size + 1, 0, none⟩)]) ∧ (w.alloc (.cells #[.slice A na c] 23)).alloc (.cells #[.slice A2 nb c2] 23) = w' := by
  refine callsIn_of_wp Try.func38 rfl trivial ?_ rfl
  simp only [Try.ntmps38, List.size_toArray, List.length_cons, List.length_nil, Nat.reduceAdd, Nat.reduceSub, Array.replicate_succ, Array.replicate_zero, List.push_toArray, List.append_toArray, List.nil_append, List.cons_append]
  gi_wp2
  go_ret
  exact ⟨rfl, rfl⟩
/-- The two numbers' words, one after another, as far as the longer one goes; or a part of them. -/
theorem pairs_stops (n : Nat) (hn : 1 ≤ n) (p n₀ : Nat) (A A2 : Option Addr) (a b : List Nat) (ha : Words a) (hb : Words b) (c c2 m : Nat) (hla : a.length ≤ 1000000) (hlb : b.length ≤ 1000000) (hm : m = max a.length b.length)
    (w : World) (hp : Boxed w p 23 (.slice A a.length c)) (hq : Boxed w (p + 1) 23 (.slice A2 b.length c2)) (hn₀ : n₀ ≤ w.heap.size) (hra : Rd .u64 w n₀ A a) (hrb : Rd .u64 w n₀ A2 b) :
    SeqStopsK Fence.wide n Try.prog 54 #[.pointer (some ⟨p, 0, none⟩), .pointer (some ⟨p + 1, 0, none⟩)] (fun x : WP => #[Value.int .u64 (x.1.1 : Int), Value.int .u64 (x.1.2 : Int)]) (KpP n₀ p)
      (fun ys => ys = upto (pairAt a b ha hb) m) (fun pre => ∃ k, k ≤ m ∧ pre = upto (pairAt a b ha hb) k) m w := fun l J Jx W hW hJ _ hY h0 =>
  pairs1_in n hn l p n₀ A A2 a b ha hb c c2 m hla hlb (Lib.hid hm) J Jx W hJ hY ((hW.block p hp.lt).trans hp) ((hW.block (p + 1) hq.lt).trans hq) (hra.below (hW.mono hn₀)) (hrb.below (hW.mono hn₀)) h0
end Go.Proofs.Ytekgoceainibaaa
/- nat.Add: the sum, in new memory. Conditions: as typed (lengths that fit a machine). -/
namespace Go.Proofs.Ytekgoceainibaaa
open Go.RowKit Go.Shelf
set_option maxRecDepth 20000
attribute [local go_sem] Oper.semAt_some
def sF (pre : List WP) : Nat := natOf (pre.map fun x => x.1.1)
def sG (pre : List WP) : Nat := natOf (pre.map fun x => x.1.2)
theorem natOf_snoc (l : List Nat) (x : Nat) : natOf (l ++ [x]) = natOf l + 18446744073709551616 ^ l.length * x := by
  rw [natOf_append]
  simp [natOf]
theorem sF_snoc (pre : List WP) (x : WP) : sF (pre ++ [x]) = sF pre + 18446744073709551616 ^ pre.length * x.1.1 := by
  unfold sF
  rw [List.map_append, List.map_singleton, natOf_snoc, List.length_map]
theorem sG_snoc (pre : List WP) (x : WP) : sG (pre ++ [x]) = sG pre + 18446744073709551616 ^ pre.length * x.1.2 := by
  unfold sG
  rw [List.map_append, List.map_singleton, natOf_snoc, List.length_map]
theorem sF_lt (pre : List WP) : sF pre < 18446744073709551616 ^ pre.length := by
  have := natOf_lt (pre.map fun x => x.1.1) (fun y hy => by obtain ⟨x, _, rfl⟩ := List.mem_map.1 hy; exact x.2.1)
  rwa [List.length_map] at this
theorem sG_lt (pre : List WP) : sG pre < 18446744073709551616 ^ pre.length := by
  have := natOf_lt (pre.map fun x => x.1.2) (fun y hy => by obtain ⟨x, _, rfl⟩ := List.mem_map.1 hy; exact x.2.2)
  rwa [List.length_map] at this
theorem nth_range (f : Nat → Nat) (m j : Nat) : nth ((List.range m).map f) j = if j < m then f j else 0 := by
  unfold nth
  rw [List.getD_eq_getElem?_getD, List.getElem?_map]
  by_cases h : j < m
  · rw [if_pos h, List.getElem?_range h]; rfl
  · rw [if_neg h, List.getElem?_eq_none (by simp; omega)]; rfl
theorem nth_past (a : List Nat) (j : Nat) (h : a.length ≤ j) : nth a j = 0 := by simp [nth, List.getElem?_eq_none h]
theorem natOf_range (a : List Nat) (m : Nat) (h : a.length ≤ m) : natOf ((List.range m).map (nth a)) = natOf a := by
  refine natOf_ext _ _ fun j => ?_
  rw [nth_range]
  split
  · rfl
  · exact (nth_past a j (by omega)).symm
theorem sF_upto (a b : List Nat) (ha : Words a) (hb : Words b) (m : Nat) (h : a.length ≤ m) : sF (upto (pairAt a b ha hb) m) = natOf a := by
  unfold sF
  rw [upto_map]
  exact natOf_range a m h
theorem sG_upto (a b : List Nat) (ha : Words a) (hb : Words b) (m : Nat) (h : b.length ≤ m) : sG (upto (pairAt a b ha hb) m) = natOf b := by
  unfold sG
  rw [upto_map]
  exact natOf_range b m h
/-- The carry behind so many words. -/
def cF (pre : List WP) : Nat := (sF pre + sG pre) / 18446744073709551616 ^ pre.length
theorem cF_le (pre : List WP) : cF pre ≤ 1 := by
  have h1 := sF_lt pre
  have h2 := sG_lt pre
  have : cF pre < 2 := by unfold cF; rw [Nat.div_lt_iff_lt_mul (by omega)]; omega
  omega
theorem words_low (k S t : Nat) : words k (S + 18446744073709551616 ^ k * t) = words k S := by
  refine ext_nth _ _ (by simp [length_words]) fun j hj => ?_
  rw [length_words] at hj
  rw [nth_words _ _ _ hj, nth_words _ _ _ hj]
  obtain ⟨d, rfl⟩ : ∃ d, k = j + 1 + d := ⟨k - (j + 1), by omega⟩
  rw [Nat.pow_add, Nat.pow_succ, Nat.mul_assoc, Nat.mul_assoc, Nat.add_mul_div_left _ _ (Nat.pow_pos (by omega)), Nat.add_mul_mod_self_left]
theorem sum_snoc (pre : List WP) (x : WP) : sF (pre ++ [x]) + sG (pre ++ [x]) = (sF pre + sG pre) + 18446744073709551616 ^ pre.length * (x.1.1 + x.1.2) := by
  rw [sF_snoc, sG_snoc, Nat.mul_add]
  omega
theorem cF_snoc (pre : List WP) (x : WP) : cF (pre ++ [x]) = (x.1.1 + x.1.2 + cF pre) / 18446744073709551616 := by
  unfold cF
  rw [sum_snoc, List.length_append, List.length_singleton, Nat.pow_succ, ← Nat.div_div_eq_div_mul, Nat.add_mul_div_left _ _ (Nat.pow_pos (by omega))]
  congr 1
  omega
theorem words_sum_snoc (pre : List WP) (x : WP) : words (pre.length + 1) (sF (pre ++ [x]) + sG (pre ++ [x])) = words pre.length (sF pre + sG pre) ++ [(x.1.1 + x.1.2 + cF pre) % 18446744073709551616] := by
  rw [words_snoc, sum_snoc, words_low, Nat.add_mul_div_left _ _ (Nat.pow_pos (by omega))]
  congr 3
  unfold cF
  omega
theorem words_sum_end (pre : List WP) : words pre.length (sF pre + sG pre) ++ [cF pre] = words (pre.length + 1) (sF pre + sG pre) := by
  have := cF_le pre
  rw [words_snoc, show (sF pre + sG pre) / 18446744073709551616 ^ pre.length = cF pre from rfl, Nat.mod_eq_of_lt (by omega)]
theorem cF_nil : cF [] = 0 := by simp [cF, sF, sG, natOf]
theorem add64_run (x y c : Nat) (hc : c ≤ 1) (w : World) :
    (callFunc 39 #[.int .u64 x, .int .u64 y, .int .u64 c]).run Try.prog w =
      .ok (.value (.tuple #[.int .u64 (((x + y + c) % 18446744073709551616 : Nat) : Int), .int .u64 (((x + y + c) / 18446744073709551616 : Nat) : Int)])) w := by
  rw [run_callFunc_extern Try.func39 (by kernel_rfl) (by kernel_rfl) (by kernel_rfl) (e := add64Entry) (by kernel_rfl), run_add64 x y c (by omega) (by omega) (by omega) (by omega)]
  simp only [Result.andThen]
  congr 5 <;> omega
theorem make_words (m : Nat) (u : World) (hm : m ≤ 1000000) : (Instr.makeSlice 23 (.int .i64 0) (.int .i64 (m : Int))).run Try.prog u =
      .ok (.slice (some ⟨u.heap.size, 0, none⟩) 0 m) (u.alloc (.cells (List.replicate m (Value.int .u64 0)).toArray 40)) := by
  obtain ⟨i0, hi, hz0, hz1, hz2⟩ := info_parts num_info_u64
  have h := run_make (P := Try.prog) u 23 40 i0 (.int .u64 0) Try.underlying23 hi hz0 .i64 .i64 (0 : Int) (m : Int) (by omega) (by omega) (by rw [hz2]; omega) (by omega)
  rw [Int.toNat_natCast, hz1, Nat.mul_one] at h
  rw [h, ← toList_madeCells_one]
  rfl
/-- The memory in which the loop begins: a row with room, three boxes more, and the iterator's two. -/
def startW (w : World) (m : Nat) (va vb : Value) : World :=
  ((((w.alloc (.cells (Array.replicate m (.int .u64 0)) 40)).alloc (.cells #[.slice (some ⟨w.heap.size, 0, none⟩) 0 m] 23)).alloc (.cells #[.int .u64 0] 40)).alloc (.cells #[va] 23)).alloc (.cells #[vb] 23)
structure Starts (w E : World) (m : Nat) (va vb : Value) : Prop where
  size : E.heap.size = w.heap.size + 5
  row : E.ownsRow w.heap.size 40 1 (.slice (some ⟨w.heap.size, 0, none⟩) 0 m) 0 []
  out : Boxed E (w.heap.size + 1) 23 (.slice (some ⟨w.heap.size, 0, none⟩) 0 m)
  carry : Boxed E (w.heap.size + 1 + 1) 40 (.int .u64 0)
  va : Boxed E (w.heap.size + 1 + 1 + 1) 23 va
  vb : Boxed E (w.heap.size + 1 + 1 + 1 + 1) 23 vb
  below : Below w.heap.size w E
theorem starts (w : World) (m : Nat) (va vb : Value) (hm : m ≤ maxLen) : Starts w (startW w m va vb) m va vb where
  size := by simp [startW]
  row := by
    have h := own_of_heap (w := w.alloc (.cells (Array.replicate m (.int .u64 0)) 40)) (base := w.heap.size) (n := 0) (cap := m) (cur := List.replicate m (.int .u64 0)) (xs := []) (by have h := heap_alloc_new w (.cells (Array.replicate m (.int .u64 0)) 40); simpa using h) (Nat.le_refl _) (Nat.zero_le _) hm (by simp) (by simp)
    exact (((h.alloc _).alloc _).alloc _).alloc _
  out := by
    have h := Boxed.new (w.alloc (.cells (Array.replicate m (.int .u64 0)) 40)) 23 (.slice (some ⟨w.heap.size, 0, none⟩) 0 m)
    rw [World.size_alloc] at h
    exact ((h.alloc _).alloc _).alloc _
  carry := by
    have h := Boxed.new ((w.alloc (.cells (Array.replicate m (.int .u64 0)) 40)).alloc (.cells #[.slice (some ⟨w.heap.size, 0, none⟩) 0 m] 23)) 40 (.int .u64 0)
    rw [World.size_alloc, World.size_alloc] at h
    exact (h.alloc _).alloc _
  va := by
    have h := Boxed.new (((w.alloc (.cells (Array.replicate m (.int .u64 0)) 40)).alloc (.cells #[.slice (some ⟨w.heap.size, 0, none⟩) 0 m] 23)).alloc (.cells #[.int .u64 0] 40)) 23 va
    rw [World.size_alloc, World.size_alloc, World.size_alloc] at h
    exact h.alloc _
  vb := by
    have h := Boxed.new ((((w.alloc (.cells (Array.replicate m (.int .u64 0)) 40)).alloc (.cells #[.slice (some ⟨w.heap.size, 0, none⟩) 0 m] 23)).alloc (.cells #[.int .u64 0] 40)).alloc (.cells #[va] 23)) 23 vb
    rw [World.size_alloc, World.size_alloc, World.size_alloc, World.size_alloc] at h
    exact h
  below := (((((Below.refl _ _).alloc (Nat.le_refl _) _).alloc (by simp) _).alloc (by simp; omega) _).alloc (by simp; omega) _).alloc (by simp; omega) _
theorem one_new (W : World) (p : Addr) (v u0 : Value) (t : TypeId) : ∀ j u, [u0][j]? = some u → ((W.setCell p v).alloc (.cells #[u0] t)).cell? ((⟨W.heap.size, 0, none⟩ : Addr).add j) = some u := by
  have h := cell_one_new (W.setCell p v) u0 t
  rw [show (W.setCell p v).heap.size = W.heap.size by simp [World.setCell]] at h
  exact h
/-- The first of what a row owns. -/
theorem own_take {w : World} {base e m n c : Nat} {A : Option Addr} {xs : List Value} (h : w.ownsRow base e 1 (.slice A n c) n xs) (hm : m ≤ n) : w.ownsRow base e 1 (.slice A m c) m (xs.take m) := by
  have hl := h.1
  refine ⟨by rw [List.length_take]; omega, ?_⟩
  rcases h.2 with ⟨hv, h0⟩ | ⟨g, cap, cur, hv, h1, h2, h3, h4, h5, h6⟩
  · injection hv with hA _ hc
    subst hA
    subst hc
    exact .inl ⟨by rw [show m = 0 by omega], by omega⟩
  · injection hv with hA _ hc
    subst hA
    subst hc
    refine .inr ⟨g, c, cur, rfl, h1, h2, by omega, h4, h5, ?_⟩
    rw [← h6, List.take_take, Nat.min_eq_left (by omega), Nat.mul_one]
/-- What trimmed answers of a row of the call's own. -/
theorem own_trim {w : World} {base c k N : Nat} {A : Option Addr} (h : w.ownsRow base 40 1 (.slice A k c) k (ints .u64 (words k N))) (hN : N < 18446744073709551616 ^ k) :
    w.ownsRow base 40 1 (.slice A ((nbits N + 63) / 64) c) ((nbits N + 63) / 64) (ints .u64 (wd N)) := by
  have e := tl_words k N hN
  have h1 := tl_le (words k N) (words_words _ _)
  rw [length_words, e] at h1
  have h2 := own_take h h1
  have e2 : (ints .u64 (words k N)).take ((nbits N + 63) / 64) = ints .u64 (wd N) := by
    rw [ints, ← List.map_take, ← e, take_wd _ (words_words _ _), natOf_words, Nat.mod_eq_of_lt hN]
    rfl
  rwa [e2] at h2
theorem trim_own (w : World) (base c k N : Nat) (A : Option Addr) (h : w.ownsRow base 40 1 (.slice A k c) k (ints .u64 (words k N))) (hN : N < 18446744073709551616 ^ k) (hk : k ≤ 1000000) (hc : k ≤ c) :
    Calls Try.prog 37 #[.slice A k c] w fun e w' => e = .returned (.slice A ((nbits N + 63) / 64) c) ∧ w = w' := by
  have T := trimmed_any A c (words k N) w w.heap.size (Rd.own h) (words_words _ _) (by rw [length_words]; exact hk) (by rw [length_words]; exact hc)
  rwa [length_words, tl_words k N hN] at T
/-- Between two rounds: so many words are made, and what is carried. -/
structure Mid (w : World) (m k : Nat) (ws : List Nat) (cy : Nat) (W : World) : Prop where
  row : W.ownsRow w.heap.size 40 1 (.slice (some ⟨w.heap.size, 0, none⟩) k m) k (ints .u64 ws)
  out : Boxed W (w.heap.size + 1) 23 (.slice (some ⟨w.heap.size, 0, none⟩) k m)
  carry : Boxed W (w.heap.size + 1 + 1) 40 (.int .u64 (cy : Int))
  below : Below w.heap.size w W
  size : w.heap.size + 5 ≤ W.heap.size
theorem Mid.kept {w W W' : World} {m k cy : Nat} {ws : List Nat} {row : Option Nat} (h : Mid w m k ws cy W) (hg : W.grownBy W' row) (hr : ∀ r, row = some r → w.heap.size + 5 ≤ r) : Mid w m k ws cy W' where
  row := h.row.kept hg (.inr (by intro e; have := hr _ e.symm; dsimp only at this; omega))
  out := h.out.kept hg (by intro e; have := hr _ e.symm; omega)
  carry := h.carry.kept hg (by intro e; have := hr _ e.symm; omega)
  below := h.below.grown hg h.below.size (fun k e => by have := hr k e; omega)
  size := Nat.le_trans h.size hg.size
/-- The carry is stored, and one word is appended. -/
theorem Mid.step {w W w1 : World} {m k cy cy' x : Nat} {ws : List Nat} {tmp : Obj} (h : Mid w m k ws cy W)
    (hown : w1.ownsRow w.heap.size 40 1 (.slice (some ⟨w.heap.size, 0, none⟩) (k + 1) m) (k + 1) (ints .u64 ws ++ [.int .u64 (x : Int)]))
    (hg : ((W.setCell ⟨w.heap.size + 1 + 1, 0, none⟩ (.int .u64 (cy' : Int))).alloc tmp).grownBy w1 (some w.heap.size)) :
    Boxed w1 (w.heap.size + 1) 23 (.slice (some ⟨w.heap.size, 0, none⟩) k m) ∧
    Mid w m (k + 1) (ws ++ [x]) cy' (w1.setCell ⟨w.heap.size + 1, 0, none⟩ (.slice (some ⟨w.heap.size, 0, none⟩) (k + 1) m)) ∧
    KeepsOthers W (w1.setCell ⟨w.heap.size + 1, 0, none⟩ (.slice (some ⟨w.heap.size, 0, none⟩) (k + 1) m)) ∧
    (∀ p, p < W.heap.size → w.heap.size + 3 ≤ p → (w1.setCell ⟨w.heap.size + 1, 0, none⟩ (.slice (some ⟨w.heap.size, 0, none⟩) (k + 1) m)).heap[p]? = W.heap[p]?) ∧
    Below w.heap.size W (w1.setCell ⟨w.heap.size + 1, 0, none⟩ (.slice (some ⟨w.heap.size, 0, none⟩) (k + 1) m)) := by
  have g1 := grownBy_setCell' W (w.heap.size + 1 + 1) (.int .u64 (cy' : Int))
  have g2 := grownBy_setCell' w1 (w.heap.size + 1) (.slice (some ⟨w.heap.size, 0, none⟩) (k + 1) m)
  have o1 := ((h.out.kept g1 (by simp)).alloc tmp).kept hg (by simp)
  have c1 := ((h.carry.set (.int .u64 (cy' : Int))).alloc tmp).kept hg (by simp; omega)
  have hW := h.below.size
  have hs1 : W.heap.size = (W.setCell ⟨w.heap.size + 1 + 1, 0, none⟩ (.int .u64 (cy' : Int))).heap.size := by simp [World.setCell]
  have hrow1 := (h.row.kept g1 (.inr (by simp [Value.ownBlock]; omega))).alloc tmp
  have hb : Below w.heap.size W (w1.setCell ⟨w.heap.size + 1, 0, none⟩ (.slice (some ⟨w.heap.size, 0, none⟩) (k + 1) m)) :=
    (((((Below.refl _ W).setCell (p := ⟨w.heap.size + 1 + 1, 0, none⟩) (by simp; omega) _).alloc (by rw [← hs1]; exact hW) tmp).grown hg (by rw [World.size_alloc, ← hs1]; omega) (fun q e => by cases e; exact Nat.le_refl _))).setCell (p := ⟨w.heap.size + 1, 0, none⟩) (by simp) _
  refine ⟨o1, ⟨?_, o1.set _, c1.kept g2 (by simp), h.below.trans hb, Nat.le_trans h.size hb.size⟩, ?_, ?_, hb⟩
  · rw [ints_append]
    exact hown.kept g2 (.inr (by simp [Value.ownBlock]))
  · refine ((KeepsOthers.setCell W _ _).trans ((KeepsOthers.alloc _ tmp).trans (KeepsOthers.of_grownBy hg fun j o ej hj => ?_))).trans (KeepsOthers.setCell _ _ _)
    obtain rfl : w.heap.size = j := by simpa using ej
    rcases hrow1.2 with ⟨hv, _⟩ | ⟨g, cap, cur, hv, _, hgb, _⟩
    · cases hv
    · injection hv with hv _ _
      injection hv with hv
      injection hv with hv _ _
      subst hv
      rw [hgb] at hj
      cases hj
      rfl
  · intro p hp hp3
    rw [g2.block p (by have := hg.size; rw [World.size_alloc, ← hs1] at this; omega) (by simp; omega), hg.block p (by rw [World.size_alloc, ← hs1]; omega) (by simp; omega), Below.heap_alloc _ _ _ (by rw [← hs1]; exact hp)]
    exact g1.block p hp (by simp; omega)
set_option maxRecDepth 100000 in
set_option maxHeartbeats 2000000 in
theorem add_core (A A2 : Option Addr) (n0 n1 c c2 : Nat) (a b : List Nat) (ha : Words a) (hb : Words b) (hla : a.length ≤ 100000) (hlb : b.length ≤ 100000) (w : World) (hra : Rd .u64 w w.heap.size A a) (hrb : Rd .u64 w w.heap.size A2 b)
    (T1 : Hid (Calls Try.prog 37 #[.slice A n0 c] w fun e w' => e = .returned (.slice A a.length c) ∧ w = w'))
    (T2 : Hid (Calls Try.prog 37 #[.slice A2 n1 c2] w fun e w' => e = .returned (.slice A2 b.length c2) ∧ w = w')) :
    Calls Try.prog 18 #[.slice A n0 c, .slice A2 n1 c2] w (OutNat (natOf a + natOf b) w) := by
  obtain ⟨m, hm⟩ : ∃ m, m = max a.length b.length := ⟨_, rfl⟩
  have hm2 : m ≤ 100000 := by omega
  have HM := Lib.hid (show max (a.length : Int) (b.length : Int) + 1 = ((m + 1 : Nat) : Int) by omega)
  have Hm := Lib.hid hm
  clear hm
  refine (callsIn_wide (n := 9)).1 ?_
  refine callsIn_of_wp_marks Try.func18 rfl trivial ?_ rfl
  simp only [Try.ntmps18, List.size_toArray, List.length_cons, List.length_nil, Nat.reduceAdd, Nat.reduceSub, Array.replicate_succ, Array.replicate_zero, List.push_toArray, List.append_toArray, List.nil_append, List.cons_append]
  have hmk : ∀ u : World, (Instr.makeSlice 23 (.int .i64 0) (.int .i64 (max (a.length : Int) (b.length : Int) + 1))).run Try.prog u =
      .ok (.slice (some ⟨u.heap.size, 0, none⟩) 0 (m + 1)) (u.alloc (.cells (List.replicate (m + 1) (Value.int .u64 0)).toArray 40)) := fun u => by
    rw [HM.out]
    exact make_words (m + 1) u (by omega)
  have hx0 : 0 ≤ max (a.length : Int) (b.length : Int) := by omega
  have hx1 : max (a.length : Int) (b.length : Int) ≤ 100000 := by omega
  gi_wp2
  refine ⟨trivial, ?_⟩
  refine (callsIn_wide.2 T1.out).mono ?_
  rintro e w' ⟨rfl, rfl⟩
  gi_wp2
  refine ⟨trivial, ?_⟩
  refine (callsIn_wide.2 T2.out).mono ?_
  rintro e w' ⟨rfl, rfl⟩
  gi_wp2
  refine ⟨trivial, ?_⟩
  refine (pairs_in _ _ _ _ _ _ _ _).mono ?_
  rintro e w' ⟨rfl, rfl⟩
  have F := starts w (m + 1) (.slice A a.length c) (.slice A2 b.length c2) (by unfold maxLen; omega)
  obtain ⟨E, hE⟩ : ∃ E, startW w (m + 1) (.slice A a.length c) (.slice A2 b.length c2) = E := ⟨_, rfl⟩
  rw [hE] at F
  unfold startW at hE
  clear hmk
  gi_wp2
  clear hE
  obtain ⟨i0, hi, hz0, hz1, hz2⟩ := info_parts num_info_u64
  have hEs := F.size
  have HEs := Lib.hid hEs
  refine wpIn_rangeFunc_ownG rfl (by omega) (gf := 54) (lb := #[.pointer (some ⟨w.heap.size + 1 + 1 + 1, 0, none⟩), .pointer (some ⟨w.heap.size + 1 + 1 + 1 + 1, 0, none⟩)]) rfl trivial (enters_of Try.func54 (by kernel_rfl) rfl)
    (pairs_stops 8 (by omega) (w.heap.size + 1 + 1 + 1) w.heap.size A A2 a b ha hb c c2 m (by omega) (by omega) Hm.out E F.va F.vb (by omega) (hra.below F.below) (hrb.below F.below))
    KpP.t (KpP.b (by omega) (by omega)) (Below.refl _ _) (fun _ => rfl)
    (fun pre W => Mid w (m + 1) pre.length (words pre.length (sF pre + sG pre)) (cF pre) W)
    (fun _ _ _ => False)
    (fun s X Y row hs hg hr => hs.kept hg (fun r e => by have := (hr r e).1; omega))
    (fun _ _ _ _ _ hs _ _ => hs)
    ⟨by simpa [words, ints] using F.row, F.out, by rw [cF_nil]; exact F.carry, F.below, by omega⟩
    (fun x => { tmps := #[.slice A a.length c, .slice A2 b.length c2, undef, undef, .slice none 0 0, .pointer (some ⟨w.heap.size + 1, 0, none⟩), .pointer (some ⟨w.heap.size + 1 + 1, 0, none⟩), .int .u64 (x.1.1 : Int), .int .u64 (x.1.2 : Int), .slice A n0 c,
      .slice A a.length c, .slice A2 n1 c2, .slice A2 b.length c2, .slice A a.length c, .int .i64 (a.length : Int), .slice A2 b.length c2, .int .i64 (b.length : Int), .int .i64 (max (a.length : Int) (b.length : Int)), .int .i64 (max (a.length : Int) (b.length : Int) + 1),
      .slice (some ⟨w.heap.size, 0, none⟩) 0 (m + 1), .slice A a.length c, .slice A2 b.length c2, .func (.func 54) #[] #[.pointer (some ⟨w.heap.size + 1 + 1 + 1, 0, none⟩), .pointer (some ⟨w.heap.size + 1 + 1 + 1 + 1, 0, none⟩)],
      .int .u64 (x.1.1 : Int), .int .u64 (x.1.2 : Int), undef, undef, undef, undef, undef, undef, undef, undef, undef, undef, undef, undef, undef, undef, undef, undef], defers := [] }) ?assign ?body ?done ?stop
  case assign =>
    intro l x W K hK
    gi_wp2
    exact hK
  case body =>
    rintro l pre x W hMid hlt
    have hoc := hMid.out.cell
    have hof := hMid.out.frozen
    have hcc := hMid.carry.cell
    have hcf := hMid.carry.frozen
    have hadd := add64_run x.1.1 x.1.2 (cF pre) (cF_le pre)
    obtain ⟨sw, hsw⟩ : ∃ sw, sw = (x.1.1 + x.1.2 + cF pre) % 18446744073709551616 := ⟨_, rfl⟩
    obtain ⟨cy, hcy⟩ : ∃ cy, cy = (x.1.1 + x.1.2 + cF pre) / 18446744073709551616 := ⟨_, rfl⟩
    rw [← hsw, ← hcy] at hadd
    have HI := Lib.hid (show words (pre ++ [x]).length (sF (pre ++ [x]) + sG (pre ++ [x])) = words pre.length (sF pre + sG pre) ++ [sw] by rw [List.length_append, List.length_singleton, words_sum_snoc, hsw])
    have HC := Lib.hid (show cF (pre ++ [x]) = cy by rw [cF_snoc, hcy])
    have HL := Lib.hid (show (pre ++ [x]).length = pre.length + 1 by simp)
    clear hsw hcy hEs
    have hWs := hMid.below.size
    gi_wp2
    refine ⟨trivial, ?_⟩
    clear hadd
    gi_wp2_with (gi_at_builtin; refine wpListIn_append_fits _ rfl _ _ 23 rfl w.heap.size 40 i0 1 Try.underlying23 hi hz1 w.heap.size pre.length (m + 1) _ rfl ((hMid.row.kept (grownBy_setCell' W (w.heap.size + 1 + 1) (.int .u64 (cy : Int))) (.inr (by simp [Value.ownBlock]; omega))).alloc _) ⟨W.heap.size, 0, none⟩ 1 1 [.int .u64 (sw : Int)] rfl rfl ?c1 ?c2 ?c3 ?_)
    case c1 => exact one_new W _ _ _ _
    case c2 => simp [Value.oneCell']
    case c3 => omega
    intro w1 hown hgrow
    obtain ⟨ho1, hM2, hk2, hp2, hb2⟩ := hMid.step hown hgrow
    have hoc1 := ho1.cell
    have hof1 := ho1.frozen
    have hsz := hMid.size
    have HF := Lib.hid (show KeepsFrom E.heap.size W (w1.setCell ⟨w.heap.size + 1, 0, none⟩ (.slice (some ⟨w.heap.size, 0, none⟩) (pre.length + 1) (m + 1))) ∧ KpP w.heap.size (w.heap.size + 1 + 1 + 1) W (w1.setCell ⟨w.heap.size + 1, 0, none⟩ (.slice (some ⟨w.heap.size, 0, none⟩) (pre.length + 1) (m + 1))) ∧ Mid w (m + 1) (pre ++ [x]).length (words (pre ++ [x]).length (sF (pre ++ [x]) + sG (pre ++ [x]))) (cF (pre ++ [x])) (w1.setCell ⟨w.heap.size + 1, 0, none⟩ (.slice (some ⟨w.heap.size, 0, none⟩) (pre.length + 1) (m + 1))) from
      ⟨hk2.from _, ⟨hb2, hp2 _ (by omega) (by omega), hp2 _ (by omega) (by omega)⟩, by rw [HI.out, HL.out, HC.out]; exact hM2⟩)
    clear hown hgrow hM2 hk2 hp2 hb2 ho1 hoc hof hcc hcf hMid
    gi_wp2
    exact HF.out
  case done =>
    rintro D ys W hD hys hMid hK
    have HK := Lib.hid hK
    have hys2 := Lib.hid hys
    have hlen : ys.length = m := by rw [hys, upto_length]
    have hS : sF ys + sG ys = natOf a + natOf b := by have := Hm.out; rw [hys, sF_upto a b ha hb m (by omega), sG_upto a b ha hb m (by omega)]
    clear hys hK
    have hoc := hMid.out.cell
    have hcc := hMid.carry.cell
    have hrow := hMid.row
    rw [hlen] at hoc hrow
    have HM3 := Lib.hid hMid
    have Hlen := Lib.hid hlen
    have HS := Lib.hid hS
    clear hEs hMid hlen hS
    gi_wp2_with (gi_at_builtin; refine wpListIn_append_fits _ rfl _ _ 23 rfl w.heap.size 40 i0 1 Try.underlying23 hi hz1 w.heap.size m (m + 1) _ rfl (hrow.alloc _) ⟨W.heap.size, 0, none⟩ 1 1 [.int .u64 (cF ys : Int)] rfl rfl ?c1 ?c2 ?c3 ?_)
    case c1 => exact cell_one_new _ _ _
    case c2 => simp [Value.oneCell']
    case c3 => omega
    intro w1 hown hgrow
    have e1 : ints .u64 (words m (sF ys + sG ys)) ++ [.int .u64 (cF ys : Int)] = ints .u64 (words (m + 1) (natOf a + natOf b)) := by
      have := words_sum_end ys
      rw [Hlen.out] at this
      rw [← HS.out, ← this, ints_append]
      rfl
    rw [e1] at hown
    have hN : natOf a + natOf b < 18446744073709551616 ^ (m + 1) := by
      have h1 := sF_lt ys
      have h2 := sG_lt ys
      rw [← HS.out, Nat.pow_succ]
      rw [Hlen.out] at h1 h2
      omega
    have HT := Lib.hid (trim_own w1 w.heap.size (m + 1) (m + 1) _ _ hown hN (by omega) (Nat.le_refl _))
    have hD2 : w.heap.size + 5 ≤ D := by have := HEs.out; omega
    have hDW := (Array.getElem?_eq_some_iff.1 HK.out).1
    have hK1 : w1.heap[D]? = some (.deferred (some [])) := (hgrow.block D (by simp; omega) (by simp; omega)).trans ((Below.heap_alloc W _ D hDW).trans HK.out)
    have hb1 : Below w.heap.size w w1 := HM3.out.below.trans (((Below.refl _ W).alloc (by have := HM3.out.size; omega) _).grown hgrow (by simp; have := HM3.out.size; omega) (fun q e => by cases e; exact Nat.le_refl _))
    have HP := Lib.hid (show (w1.putObj D (.deferred none)).ownsRow w.heap.size 40 1 (.slice (some ⟨w.heap.size, 0, none⟩) ((nbits (natOf a + natOf b) + 63) / 64) (m + 1)) ((nbits (natOf a + natOf b) + 63) / 64) (ints .u64 (wd (natOf a + natOf b))) ∧ Below w.heap.size w (w1.putObj D (.deferred none)) from
      ⟨ownsRow_putObj (own_trim hown hN) _ hK1 rfl, hb1.trans (belowK_b (w := w) (Nat.le_refl _) w1 D _ _ (by omega) hK1 rfl rfl)⟩)
    have HK1 := Lib.hid hK1
    clear e1 hN hown hgrow hb1 hrow hoc hcc hK1
    gi_wp2
    refine ⟨trivial, ?_⟩
    refine (callsIn_wide.2 HT.out).mono ?_
    rintro e w' ⟨rfl, rfl⟩
    gi_wp2
    refine ⟨by simp, .inl ⟨_, _, rfl, run_takeDeferred HK1.out, ?_⟩⟩
    exact ⟨_, results_tmp (t := 4) rfl _ _ _, _, rfl, HP.out.1, HP.out.2⟩
  case stop =>
    rintro D c pre W _ _ h _
    exact h.elim
/-- trimmed, in the words of the number. -/
theorem trimmed_wd (A : Option Addr) (c : Nat) (a : List Nat) (w : World) (hr : Rd .u64 w w.heap.size A a) (hw : Words a) (hl : a.length ≤ 100000) (hc : a.length ≤ c) :
    (Calls Try.prog 37 #[.slice A a.length c] w fun e w' => e = .returned (.slice A (wd (natOf a)).length c) ∧ w = w') ∧ Rd .u64 w w.heap.size A (wd (natOf a)) ∧ (wd (natOf a)).length ≤ 100000 ∧ (wd (natOf a)).length ≤ c := by
  have h1 := tl_le a hw
  have e : (wd (natOf a)).length = tl a := length_wd _
  refine ⟨?_, ?_, by omega, by omega⟩
  · rw [e]
    exact trimmed_any A c a w w.heap.size hr hw (by omega) hc
  · have := hr.take (tl a)
    rwa [take_wd a hw] at this
theorem add_pf (A A2 : Option Addr) (c c2 : Nat) (a b : List Nat) (w : World) (hr : Rd .u64 w w.heap.size A a) (hw : Words a) (hl : a.length ≤ 100000) (hc : a.length ≤ c) (hr2 : Rd .u64 w w.heap.size A2 b) (hw2 : Words b) (hl2 : b.length ≤ 100000) (hc2 : b.length ≤ c2) :
    Calls Try.prog 18 #[.slice A a.length c, .slice A2 b.length c2] w (OutNat (natOf a + natOf b) w) := by
  obtain ⟨t1, r1, l1, _⟩ := trimmed_wd A c a w hr hw hl hc
  obtain ⟨t2, r2, l2, _⟩ := trimmed_wd A2 c2 b w hr2 hw2 hl2 hc2
  have h := add_core A A2 a.length b.length c c2 (wd (natOf a)) (wd (natOf b)) (wd_words _) (wd_words _) l1 l2 w r1 r2 (Lib.hid t1) (Lib.hid t2)
  rwa [natOf_wd, natOf_wd] at h
end Go.Proofs.Ytekgoceainibaaa
/- nat.Sub: what is left, in new memory, or nothing. Conditions: as typed (lengths that fit a machine). -/
namespace Go.Proofs.Ytekgoceainibaaa
open Go.RowKit Go.Shelf
set_option maxRecDepth 20000
attribute [local go_sem] Oper.semAt_some
/-- What is left of so many words, one in front being lent. -/
def dF (pre : List WP) : Nat := sF pre + 18446744073709551616 ^ pre.length - sG pre
def bF (pre : List WP) : Nat := if sF pre < sG pre then 1 else 0
theorem bF_le (pre : List WP) : bF pre ≤ 1 := by unfold bF; split <;> omega
theorem bF_nil : bF [] = 0 := by simp [bF, sF, sG, natOf]
theorem dF_div (pre : List WP) : dF pre / 18446744073709551616 ^ pre.length = 1 - bF pre := by
  have h1 := sF_lt pre
  have h2 := sG_lt pre
  unfold dF bF
  generalize 18446744073709551616 ^ pre.length = p at *
  by_cases h : sF pre < sG pre
  · rw [if_pos h, Nat.div_eq_of_lt (by omega)]
  · rw [if_neg h, show sF pre + p - sG pre = (sF pre - sG pre) + p * 1 by omega, Nat.add_mul_div_left _ _ (by omega), Nat.div_eq_of_lt (by omega)]
theorem dF_snoc (pre : List WP) (x : WP) : dF (pre ++ [x]) = dF pre + 18446744073709551616 ^ pre.length * (x.1.1 + 18446744073709551616 - x.1.2 - 1) := by
  have h2 := sG_lt pre
  obtain ⟨hx, hy⟩ := x.2
  unfold dF
  rw [sF_snoc, sG_snoc, List.length_append, List.length_singleton, Nat.pow_succ]
  generalize 18446744073709551616 ^ pre.length = p at *
  obtain ⟨t, ht⟩ : ∃ t, x.1.1 + 18446744073709551616 = x.1.2 + 1 + t := ⟨x.1.1 + 18446744073709551616 - (x.1.2 + 1), by omega⟩
  have h3 : p * (x.1.1 + 18446744073709551616) = p * (x.1.2 + 1 + t) := by rw [ht]
  rw [show x.1.1 + 18446744073709551616 - x.1.2 - 1 = t by omega]
  simp only [Nat.mul_add, Nat.mul_one] at h3
  omega
theorem words_rest_snoc (pre : List WP) (x : WP) : words (pre.length + 1) (dF (pre ++ [x])) = words pre.length (dF pre) ++ [(x.1.1 + 18446744073709551616 - x.1.2 - bF pre) % 18446744073709551616] := by
  obtain ⟨hx, hy⟩ := x.2
  have := bF_le pre
  rw [words_snoc, dF_snoc, words_low, Nat.add_mul_div_left _ _ (Nat.pow_pos (by omega)), dF_div]
  congr 3
  omega
theorem bF_snoc (pre : List WP) (x : WP) : bF (pre ++ [x]) = if x.1.1 < x.1.2 + bF pre then 1 else 0 := by
  have h1 := sF_lt pre
  have h2 := sG_lt pre
  unfold bF
  rw [sF_snoc, sG_snoc]
  generalize 18446744073709551616 ^ pre.length = p at *
  generalize sF pre = u at *
  generalize sG pre = v at *
  generalize x.1.1 = x1 at *
  generalize x.1.2 = y1 at *
  rcases Nat.lt_trichotomy x1 y1 with h | h | h
  · have h3 : p * (x1 + 1) ≤ p * y1 := Nat.mul_le_mul_left _ h
    rw [Nat.mul_add, Nat.mul_one] at h3
    rw [if_pos (by omega), if_pos (by omega)]
  · subst h
    by_cases huv : u < v
    · rw [if_pos (by omega), if_pos huv, if_pos (by omega)]
    · rw [if_neg (by omega), if_neg huv, if_neg (by omega)]
  · have h3 : p * (y1 + 1) ≤ p * x1 := Nat.mul_le_mul_left _ h
    rw [Nat.mul_add, Nat.mul_one] at h3
    rw [if_neg (by omega)]
    by_cases huv : u < v
    · rw [if_pos huv, if_neg (by omega)]
    · rw [if_neg huv, if_neg (by omega)]
theorem words_rest_end (pre : List WP) (h : sG pre ≤ sF pre) : words pre.length (dF pre) = words pre.length (sF pre - sG pre) := by
  have := words_low pre.length (sF pre - sG pre) 1
  rw [← this]
  unfold dF
  congr 1
  omega
/-- The model's own entry for math/bits.Sub64. -/
theorem sub64_run (x y b : Nat) (hb : b ≤ 1) (w : World) :
    (callFunc 45 #[.int .u64 x, .int .u64 y, .int .u64 b]).run Try.prog w =
      .ok (.value (.tuple #[.int .u64 (((x + 18446744073709551616 - y - b) % 18446744073709551616 : Nat) : Int), .int .u64 ((if x < y + b then 1 else 0 : Nat) : Int)])) w := by
  rw [run_callFunc_extern Try.func45 (by kernel_rfl) (by kernel_rfl) (by kernel_rfl) (e := sub64Entry) (by kernel_rfl), run_sub64 x y b hb]
  rfl
set_option maxRecDepth 100000 in
set_option maxHeartbeats 2000000 in
theorem sub_core (A A2 : Option Addr) (n0 n1 c c2 : Nat) (a b : List Nat) (ha : Words a) (hb : Words b) (hla : a.length ≤ 100000) (hlb : b.length ≤ 100000) (w : World) (hra : Rd .u64 w w.heap.size A a) (hrb : Rd .u64 w w.heap.size A2 b)
    (T1 : Hid (Calls Try.prog 37 #[.slice A n0 c] w fun e w' => e = .returned (.slice A a.length c) ∧ w = w'))
    (T2 : Hid (Calls Try.prog 37 #[.slice A2 n1 c2] w fun e w' => e = .returned (.slice A2 b.length c2) ∧ w = w')) :
    Calls Try.prog 24 #[.slice A n0 c, .slice A2 n1 c2] w (OutSub (natOf a) (natOf b) w) := by
  obtain ⟨m, hm⟩ : ∃ m, m = max a.length b.length := ⟨_, rfl⟩
  have hm2 : m ≤ 100000 := by omega
  have HM := Lib.hid (show max (a.length : Int) (b.length : Int) = (m : Int) by omega)
  have Hm := Lib.hid hm
  clear hm
  refine (callsIn_wide (n := 9)).1 ?_
  refine callsIn_of_wp_marks Try.func24 rfl trivial ?_ rfl
  simp only [Try.ntmps24, List.size_toArray, List.length_cons, List.length_nil, Nat.reduceAdd, Nat.reduceSub, Array.replicate_succ, Array.replicate_zero, List.push_toArray, List.append_toArray, List.nil_append, List.cons_append]
  have hmk : ∀ u : World, (Instr.makeSlice 23 (.int .i64 0) (.int .i64 (max (a.length : Int) (b.length : Int)))).run Try.prog u =
      .ok (.slice (some ⟨u.heap.size, 0, none⟩) 0 m) (u.alloc (.cells (List.replicate m (Value.int .u64 0)).toArray 40)) := fun u => by
    rw [HM.out]
    exact make_words m u (by omega)
  have hx0 : 0 ≤ max (a.length : Int) (b.length : Int) := by omega
  have hx1 : max (a.length : Int) (b.length : Int) ≤ 100000 := by omega
  gi_wp2
  refine ⟨trivial, ?_⟩
  refine (callsIn_wide.2 T1.out).mono ?_
  rintro e w' ⟨rfl, rfl⟩
  gi_wp2
  refine ⟨trivial, ?_⟩
  refine (callsIn_wide.2 T2.out).mono ?_
  rintro e w' ⟨rfl, rfl⟩
  gi_wp2
  refine ⟨trivial, ?_⟩
  refine (pairs_in _ _ _ _ _ _ _ _).mono ?_
  rintro e w' ⟨rfl, rfl⟩
  have F := starts w m (.slice A a.length c) (.slice A2 b.length c2) (by unfold maxLen; omega)
  obtain ⟨E, hE⟩ : ∃ E, startW w m (.slice A a.length c) (.slice A2 b.length c2) = E := ⟨_, rfl⟩
  rw [hE] at F
  unfold startW at hE
  clear hmk
  gi_wp2
  clear hE
  obtain ⟨i0, hi, hz0, hz1, hz2⟩ := info_parts num_info_u64
  have hEs := F.size
  have HEs := Lib.hid hEs
  refine wpIn_rangeFunc_ownG rfl (by omega) (gf := 54) (lb := #[.pointer (some ⟨w.heap.size + 1 + 1 + 1, 0, none⟩), .pointer (some ⟨w.heap.size + 1 + 1 + 1 + 1, 0, none⟩)]) rfl trivial (enters_of Try.func54 (by kernel_rfl) rfl)
    (pairs_stops 8 (by omega) (w.heap.size + 1 + 1 + 1) w.heap.size A A2 a b ha hb c c2 m (by omega) (by omega) Hm.out E F.va F.vb (by omega) (hra.below F.below) (hrb.below F.below))
    KpP.t (KpP.b (by omega) (by omega)) (Below.refl _ _) (fun _ => rfl)
    (fun pre W => Mid w m pre.length (words pre.length (dF pre)) (bF pre) W)
    (fun _ _ _ => False)
    (fun s X Y row hs hg hr => hs.kept hg (fun r e => by have := (hr r e).1; omega))
    (fun _ _ _ _ _ hs _ _ => hs)
    ⟨by simpa [words, ints] using F.row, F.out, by rw [bF_nil]; exact F.carry, F.below, by omega⟩
    (fun x => { tmps := #[.slice A a.length c, .slice A2 b.length c2, undef, undef, .slice none 0 0, .bool false, .pointer (some ⟨w.heap.size + 1, 0, none⟩), .pointer (some ⟨w.heap.size + 1 + 1, 0, none⟩), .int .u64 (x.1.1 : Int), .int .u64 (x.1.2 : Int), .slice A n0 c,
      .slice A a.length c, .slice A2 n1 c2, .slice A2 b.length c2, .slice A a.length c, .int .i64 (a.length : Int), .slice A2 b.length c2, .int .i64 (b.length : Int), .int .i64 (max (a.length : Int) (b.length : Int)),
      .slice (some ⟨w.heap.size, 0, none⟩) 0 m, .slice A a.length c, .slice A2 b.length c2, .func (.func 54) #[] #[.pointer (some ⟨w.heap.size + 1 + 1 + 1, 0, none⟩), .pointer (some ⟨w.heap.size + 1 + 1 + 1 + 1, 0, none⟩)],
      .int .u64 (x.1.1 : Int), .int .u64 (x.1.2 : Int), undef, undef, undef, undef, undef, undef, undef, undef, undef, undef, undef, undef, undef, undef, undef], defers := [] }) ?assign ?body ?done ?stop
  case assign =>
    intro l x W K hK
    gi_wp2
    exact hK
  case body =>
    rintro l pre x W hMid hlt
    have hoc := hMid.out.cell
    have hof := hMid.out.frozen
    have hcc := hMid.carry.cell
    have hcf := hMid.carry.frozen
    have hadd := sub64_run x.1.1 x.1.2 (bF pre) (bF_le pre)
    obtain ⟨sw, hsw⟩ : ∃ sw, sw = (x.1.1 + 18446744073709551616 - x.1.2 - bF pre) % 18446744073709551616 := ⟨_, rfl⟩
    obtain ⟨cy, hcy⟩ : ∃ cy, cy = (if x.1.1 < x.1.2 + bF pre then 1 else 0 : Nat) := ⟨_, rfl⟩
    rw [← hsw, ← hcy] at hadd
    have HI := Lib.hid (show words (pre ++ [x]).length (dF (pre ++ [x])) = words pre.length (dF pre) ++ [sw] by rw [List.length_append, List.length_singleton, words_rest_snoc, hsw])
    have HC := Lib.hid (show bF (pre ++ [x]) = cy by rw [bF_snoc, hcy])
    have HL := Lib.hid (show (pre ++ [x]).length = pre.length + 1 by simp)
    clear hsw hcy hEs
    have hWs := hMid.below.size
    gi_wp2
    refine ⟨trivial, ?_⟩
    clear hadd
    gi_wp2_with (gi_at_builtin; refine wpListIn_append_fits _ rfl _ _ 23 rfl w.heap.size 40 i0 1 Try.underlying23 hi hz1 w.heap.size pre.length m _ rfl ((hMid.row.kept (grownBy_setCell' W (w.heap.size + 1 + 1) (.int .u64 (cy : Int))) (.inr (by simp [Value.ownBlock]; omega))).alloc _) ⟨W.heap.size, 0, none⟩ 1 1 [.int .u64 (sw : Int)] rfl rfl ?c1 ?c2 ?c3 ?_)
    case c1 => exact one_new W _ _ _ _
    case c2 => simp [Value.oneCell']
    case c3 => omega
    intro w1 hown hgrow
    obtain ⟨ho1, hM2, hk2, hp2, hb2⟩ := hMid.step hown hgrow
    have hoc1 := ho1.cell
    have hof1 := ho1.frozen
    have hsz := hMid.size
    have HF := Lib.hid (show KeepsFrom E.heap.size W (w1.setCell ⟨w.heap.size + 1, 0, none⟩ (.slice (some ⟨w.heap.size, 0, none⟩) (pre.length + 1) m)) ∧ KpP w.heap.size (w.heap.size + 1 + 1 + 1) W (w1.setCell ⟨w.heap.size + 1, 0, none⟩ (.slice (some ⟨w.heap.size, 0, none⟩) (pre.length + 1) m)) ∧ Mid w m (pre ++ [x]).length (words (pre ++ [x]).length (dF (pre ++ [x]))) (bF (pre ++ [x])) (w1.setCell ⟨w.heap.size + 1, 0, none⟩ (.slice (some ⟨w.heap.size, 0, none⟩) (pre.length + 1) m)) from
      ⟨hk2.from _, ⟨hb2, hp2 _ (by omega) (by omega), hp2 _ (by omega) (by omega)⟩, by rw [HI.out, HL.out, HC.out]; exact hM2⟩)
    clear hown hgrow hM2 hk2 hp2 hb2 ho1 hoc hof hcc hcf hMid
    gi_wp2
    exact HF.out
  case done =>
    rintro D ys W hD hys hMid hK
    have HK := Lib.hid hK
    have hlen : ys.length = m := by rw [hys, upto_length]
    have hA : sF ys = natOf a := by have := Hm.out; rw [hys, sF_upto a b ha hb m (by omega)]
    have hB : sG ys = natOf b := by have := Hm.out; rw [hys, sG_upto a b ha hb m (by omega)]
    clear hys hK
    have hoc := hMid.out.cell
    have hcc := hMid.carry.cell
    have hrow := hMid.row
    have hD2 : w.heap.size + 5 ≤ D := by have := HEs.out; omega
    have hDW := (Array.getElem?_eq_some_iff.1 HK.out).1
    have HB := Lib.hid (show Below w.heap.size w (W.putObj D (.deferred none)) from hMid.below.trans (belowK_b (w := w) (Nat.le_refl _) W D _ _ (by omega) HK.out rfl rfl))
    rw [hlen] at hoc hrow
    by_cases hlt : natOf a < natOf b
    · have hb1 : bF ys = 1 := by unfold bF; rw [hA, hB, if_pos hlt]
      rw [hb1] at hcc
      clear hEs hMid hlen hA hB hb1 hrow
      gi_wp2
      refine ⟨by simp, .inl ⟨_, _, rfl, run_takeDeferred HK.out, ?_⟩⟩
      exact ⟨_, results_tmp2 (t := 4) (u := 5) rfl _ _ _, (fun h => absurd h (by omega)), (fun _ => ⟨none, 0, rfl⟩), HB.out⟩
    · have hb1 : bF ys = 0 := by unfold bF; rw [hA, hB, if_neg hlt]
      rw [hb1] at hcc
      have e1 := words_rest_end ys (by omega)
      rw [hlen, hA, hB] at e1
      have hN : natOf a - natOf b < 18446744073709551616 ^ m := by
        have h1 := sF_lt ys
        rw [hlen, hA] at h1
        omega
      rw [e1] at hrow
      have HT := Lib.hid (trim_own W w.heap.size m m _ _ hrow hN (by omega) (Nat.le_refl _))
      have HP := Lib.hid (ownsRow_putObj (own_trim hrow hN) (.deferred none) HK.out rfl)
      clear hEs hMid hlen hA hB hb1 hrow e1 hN
      gi_wp2
      refine ⟨trivial, ?_⟩
      refine (callsIn_wide.2 HT.out).mono ?_
      rintro e w' ⟨rfl, rfl⟩
      gi_wp2
      refine ⟨by simp, .inl ⟨_, _, rfl, run_takeDeferred HK.out, ?_⟩⟩
      exact ⟨_, results_tmp2 (t := 4) (u := 5) rfl _ _ _, (fun _ => ⟨_, rfl, HP.out⟩), (fun h => absurd h hlt), HB.out⟩
  case stop =>
    rintro D c pre W _ _ h _
    exact h.elim
theorem sub_pf (A A2 : Option Addr) (c c2 : Nat) (a b : List Nat) (w : World) (hr : Rd .u64 w w.heap.size A a) (hw : Words a) (hl : a.length ≤ 100000) (hc : a.length ≤ c) (hr2 : Rd .u64 w w.heap.size A2 b) (hw2 : Words b) (hl2 : b.length ≤ 100000) (hc2 : b.length ≤ c2) :
    Calls Try.prog 24 #[.slice A a.length c, .slice A2 b.length c2] w (OutSub (natOf a) (natOf b) w) := by
  obtain ⟨t1, r1, l1, _⟩ := trimmed_wd A c a w hr hw hl hc
  obtain ⟨t2, r2, l2, _⟩ := trimmed_wd A2 c2 b w hr2 hw2 hl2 hc2
  have h := sub_core A A2 a.length b.length c c2 (wd (natOf a)) (wd (natOf b)) (wd_words _) (wd_words _) l1 l2 w r1 r2 (Lib.hid t1) (Lib.hid t2)
  rwa [natOf_wd, natOf_wd] at h
end Go.Proofs.Ytekgoceainibaaa
/- nat.Cmp: which is the lesser number. Conditions: as typed (lengths that fit a machine). -/
namespace Go.Proofs.Ytekgoceainibaaa
open Go.RowKit Go.Shelf
set_option maxRecDepth 20000
attribute [local go_sem] Oper.semAt_some
/-- A place and a word. -/
abbrev WI (n : Nat) := { p : Nat × Nat // p.1 < n ∧ p.2 < 18446744073709551616 }
/-- What comes in round k: the words from the last on. -/
def backAt (a : List Nat) (ha : Words a) (n k : Nat) (h : k < n) : WI n := ⟨(n - 1 - k, nth a (n - 1 - k)), by omega, nth_lt a ha _⟩
def backs (a : List Nat) (ha : Words a) (n : Nat) : Nat → List (WI n)
  | 0 => []
  | k + 1 => if h : k < n then backs a ha n k ++ [backAt a ha n k h] else backs a ha n k
theorem backs_succ (a : List Nat) (ha : Words a) (n k : Nat) (h : k < n) : backs a ha n (k + 1) = backs a ha n k ++ [backAt a ha n k h] := by rw [backs, dif_pos h]
theorem backs_length (a : List Nat) (ha : Words a) (n k : Nat) (h : k ≤ n) : (backs a ha n k).length = k := by
  induction k with
  | zero => rfl
  | succ k ih => rw [backs_succ a ha n k (by omega)]; simp [ih (by omega)]
theorem mem_backs (a : List Nat) (ha : Words a) (n k j : Nat) (hk : k ≤ n) (hj : j < k) : backAt a ha n j (by omega) ∈ backs a ha n k := by
  induction k with
  | zero => omega
  | succ k ih =>
    rw [backs_succ a ha n k (by omega)]
    rcases Nat.lt_or_ge j k with h | h
    · exact List.mem_append.2 (.inl (ih (by omega) h))
    · obtain rfl : j = k := by omega
      simp
set_option maxRecDepth 100000 in
set_option maxHeartbeats 2000000 in
theorem back1_in (n : Nat) (hn : 1 ≤ n) (l p n₀ : Nat) (A : Option Addr) (a : List Nat) (ha : Words a) (c : Nat) (hla : a.length ≤ 1000000) (J Jx : List (WI a.length) → World → Prop) (W : World)
    (hY : ∀ pre x W, J pre W → pre.length < a.length → YieldAt Fence.wide (n - 1) Try.prog l #[.int .i64 (x.1.1 : Int), .int .u64 (x.1.2 : Int)] W fun e W' =>
      (e = .returned (.bool true) ∧ J (pre ++ [x]) W' ∧ Below n₀ W W') ∨ (e = .returned (.bool false) ∧ Jx (pre ++ [x]) W'))
    (hp : Boxed W p 23 (.slice A a.length c)) (hpn : p < n₀) (hra : Rd .u64 W n₀ A a) (h0 : J [] W) :
    CallsIn Fence.wide n Try.prog 57 #[.func (.yield l) #[] #[], .pointer (some ⟨p, 0, none⟩)] W fun e W' => (∃ v, e = .returned v) ∧
      ((∃ ys, ys = backs a ha a.length a.length ∧ J ys W') ∨ (∃ pre, (∃ k, k ≤ a.length ∧ pre = backs a ha a.length k) ∧ Jx pre W')) := by
  have hpc := hp.cell
  refine callsIn_of_wp Try.func57 rfl trivial ?_ rfl
  simp only [Try.ntmps57, List.size_toArray, List.length_cons, List.length_nil, Nat.reduceAdd, Nat.reduceSub, Array.replicate_succ, Array.replicate_zero, List.push_toArray, List.append_toArray, List.nil_append, List.cons_append]
  gi_wp2
  gi_loopw [3] (fun i wr => ∃ k : Nat, k ≤ a.length ∧ i = .int .i64 ((k : Int) - 1) ∧ J (backs a ha a.length (a.length - k)) wr ∧ Below n₀ W wr) (fun i _ => (intOf i + 1).toNat)
  case atStart => exact ⟨a.length, Nat.le_refl _, rfl, by simpa [backs] using h0, Below.refl _ _⟩
  case round =>
    obtain ⟨k, hk, rfl, hJs, hkp⟩ := hrel
    by_cases hlt : 0 < k
    · obtain ⟨i, rfl⟩ : ∃ i, k = i + 1 := ⟨k - 1, by omega⟩
      have hpc1 : wr.cell? ⟨p, 0, none⟩ = some (.slice A a.length c) := (hkp.cell (p := ⟨p, 0, none⟩) hpn).trans hpc
      obtain ⟨b, off, rfl, hb, hcell⟩ := hra.below hkp (by omega)
      have hx := hcell i (by omega)
      clear hcell
      have hY1 := hY (backs a ha a.length (a.length - (i + 1))) (backAt a ha a.length (a.length - (i + 1)) (by omega)) wr hJs (by rw [backs_length _ _ _ _ (by omega)]; omega)
      have e0 : a.length - 1 - (a.length - (i + 1)) = i := by omega
      have hY2 : YieldAt Fence.wide (n - 1) Try.prog l #[.int .i64 (i : Int), .int .u64 (nth a i : Int)] wr fun e W' =>
          (e = .returned (.bool true) ∧ J (backs a ha a.length (a.length - i)) W' ∧ Below n₀ wr W') ∨ (e = .returned (.bool false) ∧ Jx (backs a ha a.length (a.length - i)) W') := by
        have e1 : backs a ha a.length (a.length - i) = backs a ha a.length (a.length - (i + 1)) ++ [backAt a ha a.length (a.length - (i + 1)) (by omega)] := by
          rw [← backs_succ]
          congr 1
          omega
        rw [e1]
        unfold backAt at hY1 ⊢
        simp only [e0] at hY1 ⊢
        exact hY1
      obtain ⟨fn, tmps, assign, body, hy, hR⟩ := hY2
      clear hY1 e0 hpc
      rw [show ((i + 1 : Nat) : Int) - 1 = (i : Int) by omega]
      gi_wp2
      refine hR.mono ?_
      rintro e W3 (⟨rfl, hJ3, hk3⟩ | ⟨rfl, hJx3⟩)
      · gi_wp2
        go_roundw
        case rel => exact ⟨i, by omega, rfl, hJ3, hkp.trans hk3⟩
        case measure => simp [intOf] <;> omega
      · gi_wp2
        refine bodyPost_ret (results_none rfl _ _ _) rfl ?_
        exact ⟨⟨_, rfl⟩, .inr ⟨_, ⟨a.length - i, by omega, rfl⟩, hJx3⟩⟩
    · obtain rfl : k = 0 := by omega
      gi_wp2
      go_end0
      exact ⟨⟨_, rfl⟩, .inl ⟨_, rfl, hJs⟩⟩
set_option maxHeartbeats 1000000 in
theorem back_in (n : Nat) (A : Option Addr) (na c : Nat) (w : World) :
    CallsIn Fence.wide n Try.prog 41 #[.slice A na c] w fun e w' =>
      e = .returned (.func (.func 57) #[] #[.pointer (some ⟨w.heap.size, 0, none⟩)]) ∧ w.alloc (.cells #[.slice A na c] 23) = w' := by
  refine callsIn_of_wp Try.func41 rfl trivial ?_ rfl
  simp only [Try.ntmps41, List.size_toArray, List.length_cons, List.length_nil, Nat.reduceAdd, Nat.reduceSub, Array.replicate_succ, Array.replicate_zero, List.push_toArray, List.append_toArray, List.nil_append, List.cons_append]
  gi_wp2
  go_ret
  exact ⟨rfl, rfl⟩
theorem back_stops (n : Nat) (hn : 1 ≤ n) (p n₀ : Nat) (A : Option Addr) (a : List Nat) (ha : Words a) (c : Nat) (hla : a.length ≤ 1000000)
    (w : World) (hp : Boxed w p 23 (.slice A a.length c)) (hpn : p < n₀) (hn₀ : n₀ ≤ w.heap.size) (hra : Rd .u64 w n₀ A a) :
    SeqStopsK Fence.wide n Try.prog 57 #[.pointer (some ⟨p, 0, none⟩)] (fun x : WI a.length => #[Value.int .i64 (x.1.1 : Int), Value.int .u64 (x.1.2 : Int)]) (Below n₀)
      (fun ys => ys = backs a ha a.length a.length) (fun pre => ∃ k, k ≤ a.length ∧ pre = backs a ha a.length k) a.length w := fun l J Jx W hW _ _ hY h0 =>
  back1_in n hn l p n₀ A a ha c hla J Jx W hY ((hW.block p hp.lt).trans hp) hpn (hra.below (hW.mono hn₀)) h0
/-! which is the lesser one -/
theorem cmpS_swap {x y X Y : Nat} (h1 : x < y → X < Y) (h2 : y < x → Y < X) (h3 : x = y → X = Y) : cmpS x y = cmpS X Y := by
  unfold cmpS
  rcases Nat.lt_trichotomy x y with h | h | h
  · rw [if_pos h, if_pos (h1 h)]
  · have := h3 h
    rw [if_neg (by omega), if_neg (by omega), if_neg (by omega), if_neg (by omega)]
  · have := h2 h
    rw [if_neg (by omega), if_pos h, if_neg (by omega), if_pos this]
theorem cmp_len (M N : Nat) (h : (wd M).length ≠ (wd N).length) : cmpS (wd M).length (wd N).length = cmpS M N := by
  rw [length_wd, length_wd] at *
  exact cmpS_swap (fun h1 => less_of_nbits (by omega)) (fun h1 => less_of_nbits (by omega)) (fun h1 => absurd h1 h)
theorem cmp_at (a b : List Nat) (ha : Words a) (hb : Words b) (m : Nat) (h : ∀ j, m + 1 ≤ j → nth a j = nth b j) (hne : nth a m ≠ nth b m) : cmpS (nth a m) (nth b m) = cmpS (natOf a) (natOf b) :=
  cmpS_swap (fun h1 => natOf_less a b ha m h h1) (fun h1 => natOf_less b a hb m (fun j hj => (h j hj).symm) h1) (fun h1 => absurd h1 hne)
end Go.Proofs.Ytekgoceainibaaa
/- nat.Cmp: which is the lesser number. Conditions: as typed (lengths that fit a machine). -/
namespace Go.Proofs.Ytekgoceainibaaa
open Go.RowKit Go.Shelf
set_option maxRecDepth 20000
attribute [local go_sem] Oper.semAt_some
/-- A piece that is left by its end alone. -/
theorem only_end {F : Fence} {n : Nat} {P : Program} {c : Code} {K : Act → World → Prop} {Q : Exit → Act → World → Prop} {a : Act} {w : World} (h : c.wpIn F n P (Exit.then K (fun _ _ _ => False)) a w) : c.wpIn F n P (Exit.then K Q) a w :=
  Go.wpIn_mono h fun e _ _ h => by cases e <;> first | exact h | exact h.elim
/-- Between two rounds: all words that came are the same. -/
structure SameSo {n : Nat} (w : World) (b : List Nat) (vb : Value) (pre : List (WI n)) (W : World) : Prop where
  all : ∀ p ∈ pre, p.1.2 = nth b p.1.1
  box : Boxed W w.heap.size 23 vb
  res : Boxed W (w.heap.size + 1) 3 (.int .i64 0)
  below : Below w.heap.size w W
/-- A round has found two words that differ. -/
structure Differs {n : Nat} (w : World) (b : List Nat) (cd : Code) (pre : List (WI n)) (W : World) : Prop where
  ret : cd = .ret
  at_ : ∃ ini last, pre = ini ++ [last] ∧ (∀ p ∈ ini, p.1.2 = nth b p.1.1) ∧ last.1.2 ≠ nth b last.1.1 ∧ Boxed W (w.heap.size + 1) 3 (.int .i64 (cmpS last.1.2 (nth b last.1.1)))
  below : Below w.heap.size w W
theorem SameSo.kept {n : Nat} {w W W' : World} {b : List Nat} {vb : Value} {pre : List (WI n)} {row : Option Nat} (h : SameSo w b vb pre W) (hg : W.grownBy W' row) (hr : ∀ r, row = some r → w.heap.size + 3 ≤ r) : SameSo w b vb pre W' :=
  ⟨h.all, h.box.kept hg (by intro e; have := hr _ e.symm; omega), h.res.kept hg (by intro e; have := hr _ e.symm; omega), h.below.grown hg h.below.size (fun k e => by have := hr k e; omega)⟩
theorem Differs.kept {n : Nat} {w W W' : World} {b : List Nat} {cd : Code} {pre : List (WI n)} {row : Option Nat} (h : Differs w b cd pre W) (hg : W.grownBy W' row) (hr : ∀ r, row = some r → w.heap.size + 3 ≤ r) : Differs w b cd pre W' := by
  obtain ⟨h1, ⟨ini, last, e1, e2, e3, e4⟩, h3⟩ := h
  exact ⟨h1, ⟨ini, last, e1, e2, e3, e4.kept hg (by intro e; have := hr _ e.symm; omega)⟩, h3.grown hg h3.size (fun k e => by have := hr k e; omega)⟩
theorem same_all (a b : List Nat) (ha : Words a) (hl : a.length = b.length) (h : ∀ p ∈ backs a ha a.length a.length, p.1.2 = nth b p.1.1) : natOf a = natOf b := by
  refine natOf_ext _ _ fun j => ?_
  rcases Nat.lt_or_ge j a.length with hj | hj
  · have := h _ (mem_backs a ha a.length a.length (a.length - 1 - j) (Nat.le_refl _) (by omega))
    simp only [backAt, show a.length - 1 - (a.length - 1 - j) = j by omega] at this
    exact this
  · rw [nth_past a j hj, nth_past b j (by omega)]
theorem differ_at (a b : List Nat) (ha : Words a) (hb : Words b) (hl : a.length = b.length) (k : Nat) (hk : k ≤ a.length) (ini : List (WI a.length)) (last : WI a.length) (e1 : backs a ha a.length k = ini ++ [last]) (e2 : ∀ p ∈ ini, p.1.2 = nth b p.1.1) (e3 : last.1.2 ≠ nth b last.1.1) :
    cmpS last.1.2 (nth b last.1.1) = cmpS (natOf a) (natOf b) := by
  rcases k with _ | k
  · simp [backs] at e1
  · have hk' : k < a.length := hk
    rw [backs_succ a ha a.length k hk'] at e1
    obtain ⟨rfl, e5⟩ := List.append_inj' e1 rfl
    obtain rfl : backAt a ha a.length k hk' = last := by simpa using e5
    refine cmp_at a b ha hb (a.length - 1 - k) (fun j hj => ?_) e3
    rcases Nat.lt_or_ge j a.length with hja | hja
    · have := e2 _ (mem_backs a ha a.length k (a.length - 1 - j) (by omega) (by omega))
      simp only [backAt, show a.length - 1 - (a.length - 1 - j) = j by omega] at this
      exact this
    · rw [nth_past a j hja, nth_past b j (by omega)]
set_option maxRecDepth 100000 in
set_option maxHeartbeats 2000000 in
theorem cmp_core (A A2 : Option Addr) (n0 n1 c c2 M N : Nat) (a b : List Nat) (hM : Hid (a = wd M)) (hN : Hid (b = wd N)) (ha : Words a) (hb : Words b) (hla : a.length ≤ 100000) (hlb : b.length ≤ 100000) (w : World) (hra : Rd .u64 w w.heap.size A a) (hrb : Rd .u64 w w.heap.size A2 b)
    (T1 : ∀ u, Below w.heap.size w u → Calls Try.prog 37 #[.slice A n0 c] u fun e w' => e = .returned (.slice A a.length c) ∧ u = w')
    (T2 : ∀ u, Below w.heap.size w u → Calls Try.prog 37 #[.slice A2 n1 c2] u fun e w' => e = .returned (.slice A2 b.length c2) ∧ u = w') :
    Calls Try.prog 21 #[.slice A n0 c, .slice A2 n1 c2] w fun e w' => e = .returned (.int .i64 (cmpS M N)) ∧ Below w.heap.size w w' := by
  have hB2 : Below w.heap.size w ((w.alloc (.cells #[.slice A2 n1 c2] 23)).alloc (.cells #[.int .i64 0] 3)) := ((Below.refl _ w).alloc (Nat.le_refl _) _).alloc (by simp) _
  have T1' := Lib.hid (T1 ((w.alloc (.cells #[.slice A2 n1 c2] 23)).alloc (.cells #[.int .i64 0] 3)).drew (hB2.trans ((Drawn.more 1).below _)))
  have T2' := Lib.hid (T2 ((w.alloc (.cells #[.slice A2 n1 c2] 23)).alloc (.cells #[.int .i64 0] 3)).drew (hB2.trans ((Drawn.more 1).below _)))
  have HB2 := Lib.hid hB2
  clear T1 T2 hB2
  refine (callsIn_wide (n := 9)).1 ?_
  refine callsIn_of_wp_marks Try.func21 rfl trivial ?_ rfl
  simp only [Try.ntmps21, List.size_toArray, List.length_cons, List.length_nil, Nat.reduceAdd, Nat.reduceSub, Array.replicate_succ, Array.replicate_zero, List.push_toArray, List.append_toArray, List.nil_append, List.cons_append]
  have hmx : Try.prog.follows .mixedOrders = true := by kernel_rfl
  gi_wp2
  refine only_end ?_
  gi_region_with_o (first
    | (refine ⟨trivial, ?_⟩; gi_at_call 37; (with_reducible refine (callsIn_wide.2 T1'.out).mono ?_); rintro e w' ⟨rfl, rfl⟩)
    | (refine ⟨trivial, ?_⟩; gi_at_call 37; (with_reducible refine (callsIn_wide.2 T2'.out).mono ?_); rintro e w' ⟨rfl, rfl⟩))
  all_goals
    obtain ⟨E, hE⟩ : ∃ E, ((w.alloc (.cells #[.slice A2 b.length c2] 23)).alloc (.cells #[.int .i64 0] 3)).drew = E := ⟨_, rfl⟩
    have bB : Boxed E w.heap.size 23 (.slice A2 b.length c2) := by rw [← hE]; exact (Boxed.new w 23 (.slice A2 b.length c2)).alloc _
    have bR : Boxed E (w.heap.size + 1) 3 (.int .i64 0) := by
      rw [← hE]
      have h := Boxed.new (w.alloc (.cells #[.slice A2 b.length c2] 23)) 3 (.int .i64 0)
      rw [World.size_alloc] at h
      exact h
    have hEB : Below w.heap.size w E := by rw [← hE]; exact (((Below.refl _ w).alloc (Nat.le_refl _) _).alloc (by simp) _).trans ((Drawn.more 1).below _)
    have hEs : E.heap.size = w.heap.size + 2 := by rw [← hE]; simp
    rw [hE]
    clear hE T1' T2' HB2
    have hbc := bB.cell
    have hbf := bB.frozen
    have hrc := bR.cell
    have hrf := bR.frozen
    have HEs := Lib.hid hEs
    clear hEs
    by_cases hlen : a.length = b.length
    · have hne : ((a.length : Int) != (b.length : Int)) = false := by simp; omega
      have HL := Lib.hid hlen
      clear hlen
      gi_wp2
      refine ⟨trivial, ?_⟩
      refine (back_in _ _ _ _ _).mono ?_
      rintro e w' ⟨rfl, rfl⟩
      have bA := Boxed.new E 23 (.slice A a.length c)
      rw [HEs.out] at bA
      obtain ⟨E2, hE2⟩ : ∃ E2, E.alloc (.cells #[.slice A a.length c] 23) = E2 := ⟨_, rfl⟩
      have bB2 := bB.alloc (.cells #[.slice A a.length c] 23)
      have bR2 := bR.alloc (.cells #[.slice A a.length c] 23)
      have hEB2 : Below w.heap.size w (E.alloc (.cells #[.slice A a.length c] 23)) := hEB.alloc hEB.size _
      have hs2 : (E.alloc (.cells #[.slice A a.length c] 23)).heap.size = w.heap.size + 3 := by rw [World.size_alloc, HEs.out]
      rw [hE2] at bA bB2 bR2 hEB2 hs2
      have HS2 := Lib.hid hs2
      clear hs2 hbc hbf hrc hrf bB bR hEB
      rw [HEs.out]
      gi_wp2
      clear hE2
      refine wpIn_rangeFunc_ownG rfl (by omega) (gf := 57) (lb := #[.pointer (some ⟨w.heap.size + 2, 0, none⟩)]) rfl trivial (enters_of Try.func57 (by kernel_rfl) rfl)
        (back_stops 8 (by omega) (w.heap.size + 2) (w.heap.size + 3) A a ha c (by omega) E2 bA (by omega) (by rw [HS2.out]; omega) ((hra.below hEB2).more (by omega)))
        belowK_t (belowK_b (by rw [HS2.out]; omega)) (Below.refl _ _) (fun _ => rfl)
        (fun pre W => SameSo w b (.slice A2 b.length c2) pre W)
        (fun cd pre W => Differs w b cd pre W)
        (fun s X Y row hs hg hr => hs.kept hg (fun r e => by have := (hr r e).1; rw [HS2.out] at this; omega))
        (fun cd s X Y row hs hg hr => hs.kept hg (fun r e => by have := (hr r e).1; rw [HS2.out] at this; omega))
        ⟨by simp, bB2, bR2, hEB2⟩
        (fun x => { tmps := #[.slice A a.length c, .slice A2 n1 c2, undef, .pointer (some ⟨w.heap.size, 0, none⟩), .pointer (some ⟨w.heap.size + 1, 0, none⟩), .int .i64 (x.1.1 : Int), .int .u64 (x.1.2 : Int), .slice A n0 c,
          .slice A a.length c, .slice A2 n1 c2, .slice A2 b.length c2, .slice A a.length c, .int .i64 (a.length : Int), .slice A2 b.length c2, .int .i64 (b.length : Int), .bool false, undef, undef, undef, undef, undef, .slice A a.length c,
          .func (.func 57) #[] #[.pointer (some ⟨w.heap.size + 2, 0, none⟩)], .int .i64 (x.1.1 : Int), .int .u64 (x.1.2 : Int), undef, undef, undef, undef, undef, undef, undef, undef, undef, undef, undef, undef], defers := [] }) ?assign ?body ?done ?stop
      case assign =>
        intro l x W K hK
        gi_wp2
        exact hK
      case body =>
        rintro l pre x W hI hlt
        have hi2 : x.1.1 < b.length := by rw [← HL.out]; exact x.2.1
        have hoc := hI.box.cell
        have hrc := hI.res.cell
        have hrf := hI.res.frozen
        obtain ⟨bb, off, rfl, hbb, hcell⟩ := hrb.below hI.below (by omega)
        have hx := hcell x.1.1 hi2
        clear hcell hlt
        by_cases heq : x.1.2 = nth b x.1.1
        · have hne2 : ((x.1.2 : Int) != (nth b x.1.1 : Int)) = false := by simp; omega
          have HQ := Lib.hid heq
          clear heq
          gi_wp2
          exact ⟨KeepsFrom.refl _ _, Below.refl _ _, fun p hp => (List.mem_append.1 hp).elim (hI.all p) (fun e => by simp at e; subst e; exact HQ.out), hI.box, hI.res, hI.below⟩
        · have hne2 : ((x.1.2 : Int) != (nth b x.1.1 : Int)) = true := by simp; omega
          have HQ := Lib.hid heq
          clear heq
          gi_wp2
          refine ⟨trivial, ?_⟩
          refine (CallsIn.inRound l (callsIn_wide.2 (compare_u64 _ _ _))).mono ?_
          rintro e w' ⟨rfl, rfl⟩
          gi_wp2
          exact ⟨(KeepsOthers.setCell _ _ _).from _, rfl, ⟨pre, x, rfl, hI.all, HQ.out, hI.res.set _⟩, hI.below.setCell (p := ⟨w.heap.size + 1, 0, none⟩) (by simp) _⟩
      case done =>
        rintro D ys W hD hys hI hK
        have hval := Lib.hid (show (0 : Int) = cmpS M N by
          have h := hI.all
          rw [hys] at h
          have h2 := same_all a b ha HL.out h
          rw [hM.out, hN.out, natOf_wd, natOf_wd] at h2
          rw [h2]
          simp [cmpS])
        have hrc := hI.res.cell
        have hrf := hI.res.frozen
        have HK := Lib.hid hK
        have HI := Lib.hid hI
        clear hys hK hI
        gi_wp2
        have hc1 := HI.out.res.set (.int .i64 0)
        have hK' := (KeepsOthers.setCell W ⟨w.heap.size + 1, 0, none⟩ (.int .i64 0)).same D _ HK.out rfl
        refine ⟨by simp, .inl ⟨_, _, rfl, run_takeDeferred hK', ?_⟩⟩
        have hc5 := cell_kept hc1.cell (grownBy_putObj' _ D (.deferred none)) (fun r e => by cases e; exact ⟨_, hK', rfl⟩)
        have hDs : w.heap.size ≤ D := by have := HS2.out; omega
        exact ⟨.int .i64 0, by simp [results, Try.f21, go_sem, hc5], by rw [← hval.out], (HI.out.below.setCell (p := ⟨w.heap.size + 1, 0, none⟩) (by simp) _).trans (belowK_b (w := w) (Nat.le_refl _) _ D _ _ hDs hK' rfl rfl)⟩
      case stop =>
        rintro D cd pre W hD ⟨k, hk, rfl⟩ hI hK
        obtain ⟨rfl, ⟨ini, last, e1, e2, e3, e4⟩, hB⟩ := hI
        have hval := Lib.hid (show cmpS last.1.2 (nth b last.1.1) = cmpS M N by
          rw [differ_at a b ha hb HL.out k hk ini last e1 e2 e3, hM.out, hN.out, natOf_wd, natOf_wd])
        have E4 := Lib.hid e4
        have HK := Lib.hid hK
        clear e1 e2 e3 e4 hK
        gi_wp2
        refine ⟨by simp, .inl ⟨_, _, rfl, run_takeDeferred HK.out, ?_⟩⟩
        have hc5 := cell_kept E4.out.cell (grownBy_putObj' _ D (.deferred none)) (fun r e => by cases e; exact ⟨_, HK.out, rfl⟩)
        have hDs : w.heap.size ≤ D := by have := HS2.out; omega
        exact ⟨_, by simp [results, Try.f21, go_sem, hc5]; rfl, by rw [← hval.out], hB.trans (belowK_b (w := w) (Nat.le_refl _) W D _ _ hDs HK.out rfl rfl)⟩
    · have hne : ((a.length : Int) != (b.length : Int)) = true := by simp; omega
      have hcm := Lib.hid (show cmpS a.length b.length = cmpS M N by have h := hlen; rw [hM.out, hN.out] at h ⊢; exact cmp_len M N h)
      clear hlen
      gi_wp2
      refine ⟨trivial, ?_⟩
      refine (callsIn_wide.2 (compare_int _ _ _)).mono ?_
      rintro e w' ⟨rfl, rfl⟩
      gi_wp2
      have hc5 := (bR.set (.int .i64 (cmpS a.length b.length))).cell
      exact ⟨.int .i64 (cmpS a.length b.length), by simp [results, Try.f21, go_sem, hc5], by rw [hcm.out], hEB.setCell (p := ⟨w.heap.size + 1, 0, none⟩) (by simp) _⟩
theorem cmp_pf (A A2 : Option Addr) (c c2 : Nat) (a b : List Nat) (w : World) (hr : Rd .u64 w w.heap.size A a) (hw : Words a) (hl : a.length ≤ 100000) (hc : a.length ≤ c) (hr2 : Rd .u64 w w.heap.size A2 b) (hw2 : Words b) (hl2 : b.length ≤ 100000) (hc2 : b.length ≤ c2) :
    Calls Try.prog 21 #[.slice A a.length c, .slice A2 b.length c2] w fun e w' => e = .returned (.int .i64 (cmpS (natOf a) (natOf b))) ∧ Below w.heap.size w w' := by
  obtain ⟨_, r1, l1, _⟩ := trimmed_wd A c a w hr hw hl hc
  obtain ⟨_, r2, l2, _⟩ := trimmed_wd A2 c2 b w hr2 hw2 hl2 hc2
  exact cmp_core A A2 a.length b.length c c2 (natOf a) (natOf b) (wd (natOf a)) (wd (natOf b)) (Lib.hid rfl) (Lib.hid rfl) (wd_words _) (wd_words _) l1 l2 w r1 r2
    (fun u hu => (trimmed_wd A c a u ((hr.below hu).more hu.size) hw hl hc).1) (fun u hu => (trimmed_wd A2 c2 b u ((hr2.below hu).more hu.size) hw2 hl2 hc2).1)
end Go.Proofs.Ytekgoceainibaaa
/- nat.shifted, nat.shift: numbers that are shifted, in new memory. Conditions: as typed (lengths that fit a machine). -/
namespace Go.Proofs.Ytekgoceainibaaa
open Go.RowKit
set_option maxRecDepth 20000
/-- What Go's quotients come to at a shift. -/
theorem shift_nums (k : Int) : ∃ (t q : Int) (r : Nat), r < 64 ∧ k = 64 * q + r ∧ k.tmod 64 = t ∧ -63 ≤ t ∧ t ≤ 63 ∧ (t + 64) % 64 = (r : Int) ∧ (k - r).tdiv 64 = q := by
  have h1 := Int.tmod_add_mul_tdiv k 64
  have h0 : -63 ≤ k.tmod 64 ∧ k.tmod 64 ≤ 63 := by
    rcases Int.le_total 0 k with h | h
    · rw [Int.tmod_eq_emod_of_nonneg h]; omega
    · have e : k.tmod 64 = -((-k).tmod 64) := by rw [Int.neg_tmod]; omega
      rw [e, Int.tmod_eq_emod_of_nonneg (by omega)]; omega
  refine ⟨k.tmod 64, k / 64, (k % 64).toNat, by omega, by omega, rfl, h0.1, h0.2, ?_, ?_⟩
  · omega
  · rw [show k - ((k % 64).toNat : Int) = 64 * (k / 64) by omega, Int.mul_tdiv_cancel_left _ (by omega)]
set_option maxHeartbeats 400000 in
theorem shifted_any (A : Option Addr) (na c : Nat) (k q : Int) (r : Nat) (w : World) (hk0 : -1000000 ≤ k) (hk1 : k ≤ 1000000) (t : Int) (_hr : r < 64) (h1 : k.tmod 64 = t) (h2 : -63 ≤ t) (h3 : t ≤ 63) (h4 : (t + 64) % 64 = (r : Int)) (h5 : (k - r).tdiv 64 = q) (hq0 : -20000 ≤ q) (hq1 : q ≤ 20000) :
    Calls Try.prog 69 #[.slice A na c, .int .i64 k] w fun e w' =>
      e = .returned (.func (.func 72) #[] #[.pointer (some ⟨w.heap.size + 2, 0, none⟩), .pointer (some ⟨w.heap.size, 0, none⟩), .pointer (some ⟨w.heap.size + 1, 0, none⟩)]) ∧
      ((w.alloc (.cells #[.slice A na c] 23)).alloc (.cells #[.int .i64 r] 3)).alloc (.cells #[.int .i64 q] 3) = w' := by
  go_enter Try.func69, Try.ntmps69
  go_wp2
  go_ret
  exact ⟨rfl, rfl⟩
theorem wrap_u64 (x : Int) : IntKind.u64.wrap x = x % 18446744073709551616 := by simp [IntKind.wrap, IntKind.signed, IntKind.bits]
/-- The word at a place after a shift. -/
def shS (a : List Nat) (j : Int) (r : Nat) : Nat := (wordS a j * 2 ^ r % 18446744073709551616) ||| (wordS a (j - 1) / 2 ^ (64 - r))
theorem shS_int (a : List Nat) (ha : Words a) (j : Int) (r : Nat) (_ : r < 64) : bits .or .u64 ((wordS a j : Int) * 2 ^ r % 18446744073709551616) ((wordS a (j - 1) : Int) / 2 ^ (64 - r)) = ((shS a j r : Nat) : Int) := by
  have h1 := wordS_lt a ha (j - 1)
  have e1 : (wordS a j : Int) * 2 ^ r % 18446744073709551616 = ((wordS a j * 2 ^ r % 18446744073709551616 : Nat) : Int) := by simp
  have e2 : (wordS a (j - 1) : Int) / 2 ^ (64 - r) = ((wordS a (j - 1) / 2 ^ (64 - r) : Nat) : Int) := by simp
  rw [e1, e2]
  exact u64_or_nat _ _ (Nat.mod_lt _ (by omega)) (Nat.lt_of_le_of_lt (Nat.div_le_self _ _) h1)
set_option maxHeartbeats 1000000 in
theorem shifted1_any (A : Option Addr) (a : List Nat) (ha : Words a) (c pw pa pr i r : Nat) (q j : Int) (w : World) (B : Nat) (hrd : Rd .u64 w B A a) (hl : a.length ≤ 1000000) (hr : r < 64) (hi : i ≤ 1000000) (hq0 : -20000 ≤ q) (hq1 : q ≤ 20000) (hj : (i : Int) - q = j)
    (cw : w.cell? ⟨pw, 0, none⟩ = some (.int .i64 q)) (ca : w.cell? ⟨pa, 0, none⟩ = some (.slice A a.length c)) (cr : w.cell? ⟨pr, 0, none⟩ = some (.int .i64 (r : Int))) :
    Calls Try.prog 72 #[.int .i64 (i : Int), .pointer (some ⟨pw, 0, none⟩), .pointer (some ⟨pa, 0, none⟩), .pointer (some ⟨pr, 0, none⟩)] w fun e w' => e = .returned (.int .u64 (shS a j r : Nat)) ∧ Drawn w w' := by
  have hj0 : -2000000 ≤ j := by omega
  have hj1 : j ≤ 2000000 := by omega
  have s1 : IntKind.i64.wrap (j - 1) = j - 1 := IntWalk.i64_in _ (by omega)
  have s2 : IntKind.i64.wrap (64 - (r : Int)) = 64 - (r : Int) := IntWalk.i64_in _ (by omega)
  have s3 : 0 ≤ 64 - (r : Int) := by omega
  have hv := Lib.hid (shS_int a ha j r hr)
  go_enter Try.func72, Try.ntmps72
  go_wp2
  go_quiet ((go_at_call 55; exact Calls.quiet_of_same (Calls.mono (word_any _ _ _ _ _ B hrd hl) fun _ _ ⟨he, hw⟩ => ⟨he, hw.symm⟩)))
  go_wp2
  go_ret
  exact ⟨ret_num (by rw [← hv.out, wrap_u64]), Drawn.more _⟩
/-- The lowest i words, and noughts behind them. -/
def wsAt (N K i : Nat) : List Nat := words i N ++ List.replicate (K - i) 0
theorem length_wsAt (N K i : Nat) (h : i ≤ K) : (wsAt N K i).length = K := by simp [wsAt, length_words]; omega
theorem wsAt_zero (N K : Nat) : wsAt N K 0 = List.replicate K 0 := by simp [wsAt, words]
theorem wsAt_end (N K : Nat) : wsAt N K K = words K N := by simp [wsAt]
theorem wsAt_set (N K i : Nat) (h : i < K) : (wsAt N K i).set i (N / 18446744073709551616 ^ i % 18446744073709551616) = wsAt N K (i + 1) := by
  unfold wsAt
  rw [List.set_append_right _ _ (by rw [length_words]; exact Nat.le_refl _), length_words, Nat.sub_self, words_snoc, List.append_assoc]
  congr 1
  obtain ⟨d, hd⟩ : ∃ d, K - i = d + 1 := ⟨K - i - 1, by omega⟩
  rw [hd, show K - (i + 1) = d by omega, List.replicate_succ]
  rfl
theorem make_row (m : Nat) (u : World) (hm : m ≤ 1000000) : (Instr.makeSlice 23 (.int .i64 (m : Int)) (.int .i64 (m : Int))).run Try.prog u =
      .ok (.slice (some ⟨u.heap.size, 0, none⟩) m m) (u.alloc (.cells (List.replicate m (Value.int .u64 0)).toArray 40)) := by
  obtain ⟨i0, hi, hz0, hz1, hz2⟩ := info_parts num_info_u64
  have h := run_make (P := Try.prog) u 23 40 i0 (.int .u64 0) Try.underlying23 hi hz0 .i64 .i64 (m : Int) (m : Int) (by omega) (by omega) (by rw [hz2]; omega) (by omega)
  rw [Int.toNat_natCast, hz1, Nat.mul_one] at h
  rw [h, ← toList_madeCells_one]
  rfl
theorem row_new (w : World) (m : Nat) (hm : m ≤ 1000000) (N : Nat) : (w.alloc (.cells (Array.replicate m (Value.int .u64 0)) 40)).ownsRow w.heap.size 40 1 (.slice (some ⟨w.heap.size, 0, none⟩) m m) m (ints .u64 (wsAt N m 0)) := by
  rw [wsAt_zero]
  exact own_of_heap (cur := List.replicate m (Value.int .u64 0)) (by have h := heap_alloc_new w (.cells (Array.replicate m (Value.int .u64 0)) 40); simpa using h) (Nat.le_refl _) (Nat.le_refl _) (by unfold maxLen; omega) (by simp) (by simp [ints])
set_option maxHeartbeats 1000000 in
theorem shift_core (A : Option Addr) (a : List Nat) (ha : Words a) (c : Nat) (k q t : Int) (r nb N K : Nat) (w : World) (hrd : Rd .u64 w w.heap.size A a) (hl : a.length ≤ 100000) (hc : a.length ≤ c) (hk0 : -100000 ≤ k) (hk1 : k ≤ 100000)
    (hr : r < 64) (h1 : k.tmod 64 = t) (h2 : -63 ≤ t) (h3 : t ≤ 63) (h4 : (t + 64) % 64 = (r : Int)) (h5 : (k - r).tdiv 64 = q) (hq0 : -20000 ≤ q) (hq1 : q ≤ 20000)
    (hz : natOf a ≠ 0) (hnb : (nbits (natOf a) : Int) + k = (nb : Int)) (hnb0 : 0 < nb) (hN : nbits N = nb) (hK : (nb + 64 - 1) / 64 = K) (hw : ∀ i : Nat, shS a ((i : Int) - q) r = N / 18446744073709551616 ^ i % 18446744073709551616) :
    Calls Try.prog 51 #[.slice A a.length c, .int .i64 k] w (OutNat N w) := by
  have hsz := nbits_natOf a ha
  have hz2 : 0 < nbits (natOf a) := by
    rcases Nat.eq_zero_or_pos (nbits (natOf a)) with h | h
    · have := nbits_lt (natOf a); rw [h] at this; simp at this; omega
    · exact h
  have hK2 : K ≤ 200000 := by omega
  have Q := Lib.hid (bits_q A c a w w.heap.size hrd ha (by omega) hc)
  have P := parts_any nb 64 w (by omega) (by omega) (by omega)
  rw [hK] at P
  have HP := Lib.hid P
  have hmk := fun u => make_row K u (by omega)
  have SH := fun u => shifted_any A a.length c k q r u (by omega) (by omega) t hr h1 h2 h3 h4 h5 hq0 hq1
  have HSH := Lib.hid SH
  have HN := Lib.hid hN
  have HK := Lib.hid hK
  have HW := Lib.hid hw
  have hb0 : ((nbits (natOf a) : Int) == 0) = false := by simp; omega
  have hb1 : ¬ (nb : Int) ≤ 0 := by omega
  have hb2 : decide (nb = 0) = false := by simp; omega
  clear P SH hw h1 h4 h5 hN hK
  go_enter Try.func51, Try.ntmps51
  go_wp2_with fail
  refine (Q.out).mono ?_
  rintro e w' ⟨rfl, rfl⟩
  go_wp2_with fail
  refine (HP.out).mono ?_
  rintro e w' ⟨rfl, rfl⟩
  go_wp2_with fail
  refine (HSH.out _).mono ?_
  rintro e w' ⟨rfl, rfl⟩
  have hown0 := row_new w K (by omega) N
  obtain ⟨E, hE⟩ : ∃ E, (((w.alloc (.cells (Array.replicate K (Value.int .u64 0)) 40)).alloc (.cells #[.slice A a.length c] 23)).alloc (.cells #[.int .i64 (r : Int)] 3)).alloc (.cells #[.int .i64 q] 3) = E := ⟨_, rfl⟩
  have hbE : Below w.heap.size w E := by rw [← hE]; exact ((((Below.refl _ w).alloc (Nat.le_refl _) _).alloc (by simp) _).alloc (by simp; omega) _).alloc (by simp; omega) _
  have hownE : E.ownsRow w.heap.size 40 1 (.slice (some ⟨w.heap.size, 0, none⟩) K K) K (ints .u64 (wsAt N K 0)) := by rw [← hE]; exact ((hown0.alloc _).alloc _).alloc _
  have hEs : E.heap.size = w.heap.size + 4 := by rw [← hE]; simp
  have bxA : Boxed E (w.heap.size + 1) 23 (.slice A a.length c) := by
    rw [← hE]
    have h := Boxed.new (w.alloc (.cells (Array.replicate K (Value.int .u64 0)) 40)) 23 (.slice A a.length c)
    rw [World.size_alloc] at h
    exact (h.alloc _).alloc _
  have bxR : Boxed E (w.heap.size + 1 + 1) 3 (.int .i64 (r : Int)) := by
    rw [← hE]
    have h := Boxed.new ((w.alloc (.cells (Array.replicate K (Value.int .u64 0)) 40)).alloc (.cells #[.slice A a.length c] 23)) 3 (.int .i64 (r : Int))
    rw [World.size_alloc, World.size_alloc] at h
    exact h.alloc _
  have bxQ : Boxed E (w.heap.size + 1 + 2) 3 (.int .i64 q) := by
    rw [← hE]
    have h := Boxed.new (((w.alloc (.cells (Array.replicate K (Value.int .u64 0)) 40)).alloc (.cells #[.slice A a.length c] 23)).alloc (.cells #[.int .i64 (r : Int)] 3)) 3 (.int .i64 q)
    rw [World.size_alloc, World.size_alloc, World.size_alloc] at h
    exact h
  have HS := Lib.hid hEs
  clear hown0 hmk hEs
  go_wp2_with fail
  clear hE
  go_loopw [29] (fun j wr => ∃ i : Nat, i ≤ K ∧ j = .int .i64 i ∧ wr.ownsRow w.heap.size 40 1 (.slice (some ⟨w.heap.size, 0, none⟩) K K) K (ints .u64 (wsAt N K i)) ∧ Boxed wr (w.heap.size + 1) 23 (.slice A a.length c) ∧ Boxed wr (w.heap.size + 1 + 1) 3 (.int .i64 (r : Int)) ∧ Boxed wr (w.heap.size + 1 + 2) 3 (.int .i64 q) ∧ Below w.heap.size w wr) (fun j _ => K - (intOf j).toNat)
  case atStart => exact ⟨0, Nat.zero_le _, rfl, hownE, bxA, bxR, bxQ, hbE⟩
  case round =>
    obtain ⟨i, hi, rfl, hown, bA, bR, bQ, hb⟩ := hrel
    by_cases hlt : i < K
    · obtain ⟨jj, hjj⟩ : ∃ jj : Int, (i : Int) - q = jj := ⟨_, rfl⟩
      have S1 := shifted1_any A a ha c (w.heap.size + 1 + 2) (w.heap.size + 1) (w.heap.size + 1 + 1) i r q jj wr w.heap.size (hrd.below hb) (by omega) hr (by omega) hq0 hq1 hjj bQ.cell bA.cell bR.cell
      have hv := HW.out i
      rw [hjj] at hv
      rw [hv] at S1
      have HS1 := Lib.hid S1
      have hst := hown.stored i (.int .u64 ((N / 18446744073709551616 ^ i % 18446744073709551616 : Nat) : Int))
      rw [ints_set, wsAt_set N K i hlt] at hst
      have g1 := hst.2
      have hcell : wr.cell? ⟨w.heap.size, i, none⟩ = some (.int .u64 (nth (wsAt N K i) i : Int)) := by rw [hown.cellAt _ (by omega), ints_get _ _ _ (by rw [length_wsAt _ _ _ (by omega)]; exact hlt)]
      have hfz : wr.frozen? ⟨w.heap.size, i, none⟩ = false := hown.frozenAt _
      have HR := Lib.hid (show (wr.setCell ⟨w.heap.size, i, none⟩ (.int .u64 ((N / 18446744073709551616 ^ i % 18446744073709551616 : Nat) : Int))).ownsRow w.heap.size 40 1 (.slice (some ⟨w.heap.size, 0, none⟩) K K) K (ints .u64 (wsAt N K (i + 1))) ∧
        Boxed (wr.setCell ⟨w.heap.size, i, none⟩ (.int .u64 ((N / 18446744073709551616 ^ i % 18446744073709551616 : Nat) : Int))) (w.heap.size + 1) 23 (.slice A a.length c) ∧ Boxed (wr.setCell ⟨w.heap.size, i, none⟩ (.int .u64 ((N / 18446744073709551616 ^ i % 18446744073709551616 : Nat) : Int))) (w.heap.size + 1 + 1) 3 (.int .i64 (r : Int)) ∧
        Boxed (wr.setCell ⟨w.heap.size, i, none⟩ (.int .u64 ((N / 18446744073709551616 ^ i % 18446744073709551616 : Nat) : Int))) (w.heap.size + 1 + 2) 3 (.int .i64 q) ∧ Below w.heap.size w (wr.setCell ⟨w.heap.size, i, none⟩ (.int .u64 ((N / 18446744073709551616 ^ i % 18446744073709551616 : Nat) : Int))) from
        ⟨hst.1, bA.kept g1 (by simp), bR.kept g1 (by simp; omega), bQ.kept g1 (by simp; omega), hb.setCell (p := ⟨w.heap.size, i, none⟩) (by simp) _⟩)
      obtain ⟨v, hvv⟩ : ∃ v : Nat, N / 18446744073709551616 ^ i % 18446744073709551616 = v := ⟨_, rfl⟩
      rw [hvv] at HR HS1
      clear S1 hjj hv hst g1 hown bA bR bQ hb hvv
      go_wp2_with fail
      refine (HS1.out).mono ?_
      rintro e w' ⟨rfl, n2, rfl⟩
      go_wp2_with fail
      rw [show (wr.drewN n2).setCell ⟨w.heap.size, i, none⟩ (.int .u64 (v : Int)) = (wr.setCell ⟨w.heap.size, i, none⟩ (.int .u64 (v : Int))).drewN n2 from rfl]
      go_roundw
      case rel => exact ⟨i + 1, by omega, by go_num, (Drawn.more n2).own HR.out.1, HR.out.2.1, HR.out.2.2.1, HR.out.2.2.2.1, HR.out.2.2.2.2.trans ((Drawn.more n2).below _)⟩
      case measure => simp [intOf]; omega
    · obtain rfl : i = K := by omega
      rw [wsAt_end] at hown
      have e2 : (nbits N + 63) / 64 = i := by rw [HN.out, ← HK.out]; omega
      have HO := Lib.hid (show wr.ownsRow w.heap.size 40 1 (.slice (some ⟨w.heap.size, 0, none⟩) i i) ((nbits N + 63) / 64) (ints .u64 (wd N)) by rw [wd, e2]; exact hown)
      clear e2 hown
      go_wp2_with fail
      go_ret
      exact ⟨_, rfl, HO.out, hb⟩
end Go.Proofs.Ytekgoceainibaaa
/- nat.Shl, nat.Shr: so often twice, so often the half. Conditions: as typed (lengths that fit a machine). -/
namespace Go.Proofs.Ytekgoceainibaaa
open Go.RowKit
set_option maxRecDepth 20000
theorem nbits_up_eq (n k : Nat) (h : n ≠ 0) : nbits (2 ^ k * n) = nbits n + k := by
  have hp : 0 < 2 ^ k := Nat.pow_pos (by omega)
  have h1 := nbits_lt n
  have h2 := nbits_le n h
  refine nbits_eq _ _ ?_ fun _ => ?_
  · rw [Nat.pow_add, Nat.mul_comm (2 ^ k)]
    exact Nat.mul_lt_mul_of_pos_right h1 hp
  · have h0 : 0 < nbits n := by
      rcases Nat.eq_zero_or_pos (nbits n) with h' | h'
      · rw [h'] at h1; simp at h1; omega
      · exact h'
    rw [show nbits n + k - 1 = k + (nbits n - 1) by omega, Nat.pow_add]
    exact Nat.mul_le_mul_left _ h2
theorem nbits_down_eq (n k : Nat) (h : k < nbits n) : nbits (n / 2 ^ k) = nbits n - k := by
  have hn : n ≠ 0 := by intro h'; rw [h', nbits_zero] at h; omega
  have hp : 0 < 2 ^ k := Nat.pow_pos (by omega)
  have h1 := nbits_lt n
  have h2 := nbits_le n hn
  refine nbits_eq _ _ ?_ fun _ => ?_
  · rw [Nat.div_lt_iff_lt_mul hp, ← Nat.pow_add, show nbits n - k + k = nbits n by omega]
    exact h1
  · rw [Nat.le_div_iff_mul_le hp, ← Nat.pow_add, show nbits n - k - 1 + k = nbits n - 1 by omega]
    exact h2
theorem down_none (n k : Nat) (h : nbits n ≤ k) : n / 2 ^ k = 0 := Nat.div_eq_of_lt (Nat.lt_of_lt_of_le (nbits_lt n) (Nat.pow_le_pow_right (by omega) h))
theorem shS_nat (a : List Nat) (ha : Words a) (j r : Nat) (hr : r < 64) : shS a (j : Int) r = natOf a * 2 ^ r / 18446744073709551616 ^ j % 18446744073709551616 := by
  unfold shS
  rw [wordS_nat]
  exact shl_word a ha j r hr
theorem shS_up (a : List Nat) (ha : Words a) (Q r : Nat) (hr : r < 64) (i : Nat) : shS a ((i : Int) - (Q : Int)) r = 2 ^ (64 * Q + r) * natOf a / 18446744073709551616 ^ i % 18446744073709551616 := by
  rcases Nat.lt_or_ge i Q with h | h
  · unfold shS
    rw [wordS_neg a _ (by omega), wordS_neg a _ (by omega)]
    obtain ⟨d, rfl⟩ : ∃ d, Q = i + 1 + d := ⟨Q - (i + 1), by omega⟩
    have e : 2 ^ (64 * (i + 1 + d) + r) * natOf a = 18446744073709551616 ^ i * (18446744073709551616 * (2 ^ (64 * d + r) * natOf a)) := by
      rw [pow_64_2, show 64 * (i + 1 + d) + r = 64 * i + (64 + (64 * d + r)) by omega, Nat.pow_add, Nat.pow_add 2 64]
      simp only [Nat.mul_assoc]
    rw [e, Nat.mul_div_cancel_left _ (Nat.pow_pos (by omega)), Nat.mul_mod_right]
    simp
  · obtain ⟨j, rfl⟩ : ∃ j, i = Q + j := ⟨i - Q, by omega⟩
    rw [show ((Q + j : Nat) : Int) - (Q : Int) = (j : Int) by omega, shS_nat a ha j r hr]
    rw [Nat.pow_add 18446744073709551616 Q j, Nat.pow_add 2 (64 * Q) r, ← pow_64_2, Nat.mul_assoc, Nat.mul_div_mul_left _ _ (Nat.pow_pos (by omega)), Nat.mul_comm (2 ^ r)]
theorem shS_down (a : List Nat) (ha : Words a) (V s r : Nat) (hr : r < 64) (hs : s + r = 64 * V) (i : Nat) : shS a ((i : Int) + (V : Int)) r = natOf a / 2 ^ s / 18446744073709551616 ^ i % 18446744073709551616 := by
  rw [show (i : Int) + (V : Int) = ((i + V : Nat) : Int) by omega, shS_nat a ha _ r hr]
  have e : (18446744073709551616 : Nat) ^ (i + V) = 2 ^ s * 18446744073709551616 ^ i * 2 ^ r := by
    rw [Nat.pow_add, pow_64_2 V, ← hs, Nat.pow_add]
    simp only [Nat.mul_assoc, Nat.mul_comm, Nat.mul_left_comm]
  rw [e, Nat.mul_div_mul_right _ _ (Nat.pow_pos (by omega)), ← Nat.div_div_eq_div_mul]
theorem out_none (w : World) : OutNat 0 w (.returned (.slice none 0 0)) w := by
  refine ⟨_, rfl, ?_, Below.refl _ _⟩
  have e : wd 0 = [] := by simp [wd, nbits_zero, words]
  rw [nbits_zero, e]
  exact World.ownsRow_nil _ _ _ _
section
variable (A : Option Addr) (a : List Nat) (ha : Words a) (c : Nat) (w : World) (hrd : Rd .u64 w w.heap.size A a) (hl : a.length ≤ 100000) (hc : a.length ≤ c)
include ha hrd hl hc
set_option maxHeartbeats 400000 in
theorem shift_none (k : Int) (hk0 : -100000 ≤ k) (hk1 : k ≤ 100000) (h : natOf a = 0 ∨ (nbits (natOf a) : Int) + k ≤ 0) : Calls Try.prog 51 #[.slice A a.length c, .int .i64 k] w (OutNat 0 w) := by
  have hsz := nbits_natOf a ha
  have Q := bits_q A c a w w.heap.size hrd ha (by omega) hc
  have HO := Lib.hid (out_none w)
  by_cases h0 : nbits (natOf a) = 0
  · rw [h0] at Q
    have HQ := Lib.hid Q
    clear Q h h0
    go_enter Try.func51, Try.ntmps51
    go_wp2_with fail
    refine (HQ.out).mono ?_
    rintro e w' ⟨rfl, rfl⟩
    go_wp2_with fail
    go_ret
    exact HO.out
  · have h2 : (nbits (natOf a) : Int) + k ≤ 0 := by
      rcases h with h | h
      · rw [h, nbits_zero] at h0; omega
      · exact h
    have hb0 : ((nbits (natOf a) : Int) == 0) = false := by simp; omega
    have HQ := Lib.hid Q
    clear Q h h0
    go_enter Try.func51, Try.ntmps51
    go_wp2_with fail
    refine (HQ.out).mono ?_
    rintro e w' ⟨rfl, rfl⟩
    go_wp2_with fail
    go_ret
    exact HO.out
theorem shift_up (k : Nat) (hk : k ≤ 65536) : Calls Try.prog 51 #[.slice A a.length c, .int .i64 (k : Int)] w (OutNat (2 ^ k * natOf a) w) := by
  by_cases h0 : natOf a = 0
  · have := shift_none A a ha c w hrd hl hc (k : Int) (by omega) (by omega) (.inl h0)
    rwa [h0, Nat.mul_zero]
  · obtain ⟨t, q, r, hr, hk2, h1, h2, h3, h4, h5⟩ := shift_nums (k : Int)
    obtain ⟨Q, rfl⟩ := Int.eq_ofNat_of_zero_le (show 0 ≤ q by omega)
    have hb := nbits_up_eq (natOf a) k h0
    exact shift_core A a ha c (k : Int) (Q : Int) t r (nbits (natOf a) + k) (2 ^ k * natOf a) _ w hrd hl hc (by omega) (by omega) hr h1 h2 h3 h4 h5 (by omega) (by omega) h0 (by omega)
      (by have h1 := nbits_lt (natOf a); rcases Nat.eq_zero_or_pos (nbits (natOf a)) with h | h; rw [h] at h1; simp at h1; omega; omega) hb rfl
      (fun i => by rw [show k = 64 * Q + r by omega]; exact shS_up a ha Q r hr i)
theorem shift_down (k : Nat) (hk : k ≤ 65536) : Calls Try.prog 51 #[.slice A a.length c, .int .i64 (-(k : Int))] w (OutNat (natOf a / 2 ^ k) w) := by
  by_cases h0 : natOf a = 0
  · have := shift_none A a ha c w hrd hl hc (-(k : Int)) (by omega) (by omega) (.inl h0)
    rwa [h0, Nat.zero_div]
  · by_cases h6 : nbits (natOf a) ≤ k
    · have := shift_none A a ha c w hrd hl hc (-(k : Int)) (by omega) (by omega) (.inr (by omega))
      rwa [down_none _ _ h6]
    · obtain ⟨t, q, r, hr, hk2, h1, h2, h3, h4, h5⟩ := shift_nums (-(k : Int))
      obtain ⟨V, hV⟩ := Int.eq_ofNat_of_zero_le (show 0 ≤ -q by omega)
      have hb := nbits_down_eq (natOf a) k (by omega)
      exact shift_core A a ha c (-(k : Int)) q t r (nbits (natOf a) - k) (natOf a / 2 ^ k) _ w hrd hl hc (by omega) (by omega) hr h1 h2 h3 h4 h5 (by omega) (by omega) h0 (by omega) (by omega) hb rfl
        (fun i => by rw [show (i : Int) - q = (i : Int) + (V : Int) by omega]; exact shS_down a ha V k r hr (by omega) i)
set_option maxHeartbeats 400000 in
theorem shl_pf (k : Int) : Calls Try.prog 32 #[.slice A a.length c, .int .i64 k] w (OutNat (shlS (natOf a) k) w) := by
  by_cases h : 0 ≤ k ∧ k ≤ 65536
  · obtain ⟨j, rfl⟩ := Int.eq_ofNat_of_zero_le h.1
    have S := Lib.hid (shift_up A a ha c w hrd hl hc j (by omega))
    have e : shlS (natOf a) (j : Int) = 2 ^ j * natOf a := by unfold shlS; rw [if_pos h, Int.toNat_natCast]
    rw [e]
    have M := Lib.hid (mayShift_yes (j : Int) w h.1 h.2)
    clear h e
    go_enter Try.func32, Try.ntmps32
    go_wp2_with fail
    refine (M.out).mono ?_
    rintro e w' ⟨rfl, rfl⟩
    go_wp2_with fail
    refine (S.out).mono ?_
    rintro e w1 ⟨v, rfl, own, hb⟩
    obtain ⟨X, d, rfl, _⟩ := own_form own
    have HO := Lib.hid own
    clear own
    go_wp2_with fail
    go_ret
    exact ⟨_, rfl, HO.out, hb⟩
  · have e : shlS (natOf a) k = 0 := by unfold shlS; rw [if_neg h]
    rw [e]
    have M := Lib.hid (mayShift_no k w (by omega))
    have HO := Lib.hid (out_none w)
    clear h e
    go_enter Try.func32, Try.ntmps32
    go_wp2_with fail
    refine (M.out).mono ?_
    rintro e w' ⟨rfl, rfl⟩
    go_wp2_with fail
    go_ret
    exact HO.out
set_option maxHeartbeats 400000 in
theorem shr_pf (k : Int) : Calls Try.prog 29 #[.slice A a.length c, .int .i64 k] w (OutNat (shrS (natOf a) k) w) := by
  by_cases h : 0 ≤ k ∧ k ≤ 65536
  · obtain ⟨j, rfl⟩ := Int.eq_ofNat_of_zero_le h.1
    have S := Lib.hid (shift_down A a ha c w hrd hl hc j (by omega))
    have e : shrS (natOf a) (j : Int) = natOf a / 2 ^ j := by unfold shrS; rw [if_pos h, Int.toNat_natCast]
    rw [e]
    have M := Lib.hid (mayShift_yes (j : Int) w h.1 h.2)
    have hj : j ≤ 65536 := by omega
    clear h e
    go_enter Try.func29, Try.ntmps29
    go_wp2_with fail
    refine (M.out).mono ?_
    rintro e w' ⟨rfl, rfl⟩
    go_wp2_with fail
    refine (S.out).mono ?_
    rintro e w1 ⟨v, rfl, own, hb⟩
    obtain ⟨X, d, rfl, _⟩ := own_form own
    have HO := Lib.hid own
    clear own
    go_wp2_with fail
    go_ret
    exact ⟨_, rfl, HO.out, hb⟩
  · have e : shrS (natOf a) k = 0 := by unfold shrS; rw [if_neg h]
    rw [e]
    have M := Lib.hid (mayShift_no k w (by omega))
    have HO := Lib.hid (out_none w)
    clear h e
    go_enter Try.func29, Try.ntmps29
    go_wp2_with fail
    refine (M.out).mono ?_
    rintro e w' ⟨rfl, rfl⟩
    go_wp2_with fail
    go_ret
    exact HO.out
end
end Go.Proofs.Ytekgoceainibaaa
/- nat.Bytes, nat.FromBytes: digits to the base 256. Conditions: as typed (lengths that fit a machine). -/
namespace Go.Proofs.Ytekgoceainibaaa
open Go.RowKit
set_option maxRecDepth 20000
end Go.Proofs.Ytekgoceainibaaa
/- nat's contracts, as laws use them. Conditions: as typed (lengths that fit a machine, a capacity that is not below its length). -/
namespace Go.Proofs.Ytekgoceainibaaa
open Go.RowKit
set_option maxRecDepth 20000
section
variable (A A2 : Option Addr) (c c2 : Nat) (a b : List Nat) (w : World) (hr : Rd .u64 w w.heap.size A a) (hw : Words a) (hl : a.length ≤ 100000) (hc : a.length ≤ c) (hr2 : Rd .u64 w w.heap.size A2 b) (hw2 : Words b) (hl2 : b.length ≤ 100000) (hc2 : b.length ≤ c2)
include hr hw hl hc
theorem natMay_any : Calls Try.prog 20 #[.slice A a.length c] w fun e w' => e = .returned (.bool (decide (a = wd (natOf a)))) ∧ Below w.heap.size w w' := may_pf A c a w hr hw hl hc
theorem natTrim_any : Calls Try.prog 16 #[.slice A a.length c] w (OutNat (natOf a) w) := trim_pf A c a w hr hw hl hc
theorem natSmall_any : Calls Try.prog 48 #[.slice A a.length c] w fun e w' =>
      e = .returned (.tuple #[.int .u64 (smallV (natOf a)), .bool (smallB (natOf a))]) ∧ Below w.heap.size w w' := small_pf A c a w hr hw hl hc
theorem natShl_any (k : Int) : Calls Try.prog 32 #[.slice A a.length c, .int .i64 k] w (OutNat (shlS (natOf a) k) w) := shl_pf A a hw c w hr hl hc k
theorem natShr_any (k : Int) : Calls Try.prog 29 #[.slice A a.length c, .int .i64 k] w (OutNat (shrS (natOf a) k) w) := shr_pf A a hw c w hr hl hc k
theorem natBits_any : Calls Try.prog 46 #[.slice A a.length c] w fun e w' => e = .returned (.int .i64 (nbits (natOf a))) ∧ Below w.heap.size w w' := Calls.mono (bits_q A c a w w.heap.size hr hw (by omega) hc) fun _ _ ⟨he, hq⟩ => ⟨he, hq ▸ Below.refl _ _⟩
include hr2 hw2 hl2 hc2
theorem natCmp_any : Calls Try.prog 21 #[.slice A a.length c, .slice A2 b.length c2] w fun e w' => e = .returned (.int .i64 (cmpS (natOf a) (natOf b))) ∧ Below w.heap.size w w' := cmp_pf A A2 c c2 a b w hr hw hl hc hr2 hw2 hl2 hc2
theorem natAdd_any : Calls Try.prog 18 #[.slice A a.length c, .slice A2 b.length c2] w (OutNat (natOf a + natOf b) w) := add_pf A A2 c c2 a b w hr hw hl hc hr2 hw2 hl2 hc2
theorem natSub_any : Calls Try.prog 24 #[.slice A a.length c, .slice A2 b.length c2] w (OutSub (natOf a) (natOf b) w) := sub_pf A A2 c c2 a b w hr hw hl hc hr2 hw2 hl2 hc2
end
theorem natOf_any (n : Nat) (w : World) (hn : n < 18446744073709551616) : Calls Try.prog 47 #[.int .u64 n] w (OutNat n w) := of_pf n w hn
end Go.Proofs.Ytekgoceainibaaa
/- Plain facts on products of words: a word more, with what is carried; the product of halves. No condition but those typed; no program is named. -/
namespace Go.Proofs.Ytekgoceainibaaa
theorem natOf_put (l : List Nat) (j y : Nat) (h : j < l.length) : natOf (l.set j y) + 18446744073709551616 ^ j * nth l j = natOf l + 18446744073709551616 ^ j * y := by
  induction l generalizing j with
  | nil => simp at h
  | cons x r ih =>
    cases j with
    | zero => simp [natOf, nth]; omega
    | succ j =>
      have := ih j (by simpa using h)
      have e : nth (x :: r) (j + 1) = nth r j := by simp [nth]
      rw [e, List.set_cons_succ, natOf, natOf, Nat.pow_succ, Nat.mul_comm (18446744073709551616 ^ j) 18446744073709551616, Nat.mul_assoc, Nat.mul_assoc]
      omega
theorem words_put (l : List Nat) (h : Words l) (j y : Nat) (hy : y < 18446744073709551616) : Words (l.set j y) := fun x hx => by
  rcases mem_set hx with rfl | hx
  · exact hy
  · exact h x hx
theorem words_of (l : List Nat) (h : Words l) (K V : Nat) (hl : l.length = K) (hv : natOf l = V) : l = words K V := by
  subst hl
  subst hv
  exact (words_natOf l h).symm
/-- Words whose number, with c more from place p on, is V; noughts from q on. -/
structure Sums (K q p c V : Nat) (L : List Nat) : Prop where
  len : L.length = K
  words : Words L
  val : natOf L + 18446744073709551616 ^ p * c = V
  far : ∀ j, q ≤ j → nth L j = 0
theorem Sums.step {K q p c V : Nat} {L : List Nat} (h : Sums K q p c V L) (hp : p < q) (hq : q ≤ K) (z s : Nat) (hs : nth L p + z + c = s) :
    Sums K q (p + 1) (s / 18446744073709551616) (V + 18446744073709551616 ^ p * z) (L.set p (s % 18446744073709551616)) where
  len := by rw [List.length_set, h.len]
  words := words_put _ h.words _ _ (Nat.mod_lt _ (by omega))
  val := by
    have h1 := natOf_put L p (s % 18446744073709551616) (by rw [h.len]; omega)
    have h2 := h.val
    have h3 : 18446744073709551616 ^ (p + 1) * (s / 18446744073709551616) = 18446744073709551616 ^ p * (18446744073709551616 * (s / 18446744073709551616)) := by rw [Nat.pow_succ, Nat.mul_assoc]
    have h4 : 18446744073709551616 ^ p * (18446744073709551616 * (s / 18446744073709551616)) + 18446744073709551616 ^ p * (s % 18446744073709551616) = 18446744073709551616 ^ p * s := by rw [← Nat.mul_add, Nat.div_add_mod]
    have h5 : 18446744073709551616 ^ p * s = 18446744073709551616 ^ p * nth L p + 18446744073709551616 ^ p * z + 18446744073709551616 ^ p * c := by rw [← hs, Nat.mul_add, Nat.mul_add]
    omega
  far := fun j hj => by
    rw [nth_set _ _ _ _ (by rw [h.len]; omega), if_neg (by omega)]
    exact h.far j hj
theorem Sums.start (K q V : Nat) (hV : V < 18446744073709551616 ^ q) (hq : q ≤ K) (p : Nat) : Sums K q p 0 V (Go.Proofs.Ytekgoceainibaaa.words K V) where
  len := length_words _ _
  words := words_words _ _
  val := by rw [natOf_words, Nat.mod_eq_of_lt (Nat.lt_of_lt_of_le hV (Nat.pow_le_pow_right (by omega) hq)), Nat.mul_zero, Nat.add_zero]
  far := fun j hj => by
    rw [nth_natOf _ (words_words _ _), natOf_words, Nat.mod_eq_of_lt (Nat.lt_of_lt_of_le hV (Nat.pow_le_pow_right (by omega) hq)), Nat.div_eq_of_lt (Nat.lt_of_lt_of_le hV (Nat.pow_le_pow_right (by omega) hj))]
theorem Sums.all {K q p V : Nat} {L : List Nat} (h : Sums K q p 0 V L) : L = Go.Proofs.Ytekgoceainibaaa.words K V := words_of L h.words K V h.len (by have := h.val; omega)
theorem Sums.last {K q c V : Nat} {L : List Nat} (h : Sums K q q c V L) (hq : q < K) (hc : c < 18446744073709551616) : L.set q c = Go.Proofs.Ytekgoceainibaaa.words K V := by
  refine words_of _ (words_put _ h.words _ _ hc) K V (by rw [List.length_set, h.len]) ?_
  have h1 := natOf_put L q c (by rw [h.len]; exact hq)
  have h2 := h.val
  rw [h.far q (Nat.le_refl _)] at h1
  omega
/-- There is room as long as anything is carried. -/
theorem Sums.room {K q p c V : Nat} {L : List Nat} (h : Sums K q p c V L) (hV : V < 18446744073709551616 ^ K) (hc : c ≠ 0) : p < K := by
  rcases Nat.lt_or_ge p K with h1 | h1
  · exact h1
  · have h2 := h.val
    have h3 : 18446744073709551616 ^ K ≤ 18446744073709551616 ^ p := Nat.pow_le_pow_right (by omega) h1
    have h4 : 18446744073709551616 ^ p * 1 ≤ 18446744073709551616 ^ p * c := Nat.mul_le_mul_left _ (by omega)
    omega
/-- A word by a word, with what is carried and what lies there. -/
theorem word_step (x y o r : Nat) (hx : x < 18446744073709551616) (hy : y < 18446744073709551616) (ho : o < 18446744073709551616) (hr : r < 18446744073709551616) :
    (r + (x * y % 18446744073709551616 + o) % 18446744073709551616) % 18446744073709551616 = (r + x * y + o) % 18446744073709551616 ∧
    x * y / 18446744073709551616 + (x * y % 18446744073709551616 + o) / 18446744073709551616 < 18446744073709551616 ∧
    x * y / 18446744073709551616 + (x * y % 18446744073709551616 + o) / 18446744073709551616 + (r + (x * y % 18446744073709551616 + o) % 18446744073709551616) / 18446744073709551616 = (r + x * y + o) / 18446744073709551616 ∧
    (r + x * y + o) / 18446744073709551616 < 18446744073709551616 := by
  have h : x * y ≤ 18446744073709551615 * 18446744073709551615 := Nat.mul_le_mul (by omega) (by omega)
  generalize x * y = P at *
  omega
theorem take_full (a : List Nat) : natOf (a.take a.length) = natOf a := by rw [List.take_length]
theorem row_lt (a b : List Nat) (ha : Words a) (hb : Words b) (i : Nat) : natOf (a.take i) * natOf b < 18446744073709551616 ^ (i + b.length) := by
  rw [Nat.pow_add]
  exact Nat.mul_lt_mul'' (natOf_take_lt a ha i) (natOf_lt b hb)
theorem mul_lt (a b : List Nat) (ha : Words a) (hb : Words b) : natOf a * natOf b < 18446744073709551616 ^ (a.length + b.length) := by
  rw [Nat.pow_add]
  exact Nat.mul_lt_mul'' (natOf_lt a ha) (natOf_lt b hb)
/-- A row: k words of b by word i of a are there. -/
theorem row_step (a b : List Nat) (i k : Nat) : natOf (a.take i) * natOf b + 18446744073709551616 ^ i * nth a i * natOf (b.take k) + 18446744073709551616 ^ (i + k) * (nth a i * nth b k) = natOf (a.take i) * natOf b + 18446744073709551616 ^ i * nth a i * natOf (b.take (k + 1)) := by
  rw [natOf_take_succ, Nat.mul_add, Nat.pow_add, Nat.add_assoc]
  congr 2
  simp only [Nat.mul_assoc, Nat.mul_left_comm]
theorem row_end (a b : List Nat) (i : Nat) : natOf (a.take i) * natOf b + 18446744073709551616 ^ i * nth a i * natOf (b.take b.length) = natOf (a.take (i + 1)) * natOf b := by
  rw [natOf_take_succ, take_full, Nat.add_mul]
theorem row_none (a b : List Nat) (i : Nat) (h : nth a i = 0) : natOf (a.take i) * natOf b = natOf (a.take (i + 1)) * natOf b := by rw [natOf_take_succ, h]; simp
/-! Halves -/
theorem half_two (A L H P : Nat) : A * (L + P * H) = A * L + P * (A * H) := by rw [Nat.mul_add, Nat.mul_left_comm]
theorem half_three (a b c d P : Nat) : (a + P * b) * (c + P * d) = a * c + P * ((a + b) * (c + d) - a * c - b * d) + P * P * (b * d) := by
  have h : (a + b) * (c + d) - a * c - b * d = a * d + b * c := by
    rw [Nat.add_mul, Nat.mul_add, Nat.mul_add]
    omega
  rw [h]
  simp only [Nat.mul_add, Nat.mul_left_comm, Nat.mul_comm]
  simp only [Nat.add_assoc, Nat.add_comm]
theorem sub_two (a b c d : Nat) : a * c + b * d ≤ (a + b) * (c + d) := by
  rw [Nat.add_mul, Nat.mul_add, Nat.mul_add]
  omega
end Go.Proofs.Ytekgoceainibaaa
/- mul's small functions: trimmed, shorterFirst, without, addAt. Conditions: as typed (lengths that fit a machine; what is added lies apart from the row it is added to, and there is room for the sum). -/
namespace Go.Proofs.Ytekgoceainibaaa
open Go.RowKit
set_option maxRecDepth 20000
theorem cell_lt {w : World} {b o : Nat} {v : Value} (h : w.cell? ⟨b, o, none⟩ = some v) : b < w.heap.size := by
  rcases Nat.lt_or_ge b w.heap.size with h1 | h1
  · exact h1
  · simp [World.cell?, Array.getElem?_eq_none h1] at h
/-- The slice at A reads as the numbers l, in a block other than g. -/
def Rdx (k : IntKind) (w : World) (g : Nat) (A : Option Addr) (l : List Nat) : Prop :=
  0 < l.length → ∃ b off, A = some ⟨b, off, none⟩ ∧ b ≠ g ∧ ∀ j, j < l.length → w.cell? ⟨b, off + j, none⟩ = some (.int k (nth l j : Int))
theorem Rdx.grown {k : IntKind} {w w' : World} {g : Nat} {A : Option Addr} {l : List Nat} (h : Rdx k w g A l) (hg : w.grownBy w' (some g)) : Rdx k w' g A l := fun hl => by
  obtain ⟨b, off, e, hb, hc⟩ := h hl
  refine ⟨b, off, e, hb, fun j hj => ?_⟩
  have h1 := hc j hj
  have hlt : b < w.heap.size := cell_lt h1
  rw [← h1]
  exact World.cell?_of_block (hg.block b hlt (by intro e; exact hb (by injection e with e)))
/-- A row that is owned from above g on lies apart from g. -/
theorem Rdx.own {k : IntKind} {w : World} {base g : Nat} {e : TypeId} {n c : Nat} {A : Option Addr} {l : List Nat} (h : w.ownsRow base e 1 (.slice A n c) n (ints k l)) (hg : g < base) : Rdx k w g A l := fun hl => by
  obtain ⟨b, off, rfl, _, hc⟩ := Rd.own h hl
  exact ⟨b, off, rfl, by have := (h.lt b rfl).1; omega, hc⟩
theorem mtrim_any (A : Option Addr) (c : Nat) (a : List Nat) (w : World) (B : Nat) (hr : Rd .u64 w B A a) (hw : Words a) (hl : a.length ≤ 1000000) (hc : a.length ≤ c) :
    Calls Try.prog 43 #[.slice A a.length c] w fun e w' => e = .returned (.slice A (tl a) c) ∧ w = w' := by
  have Q := Lib.hid (bits_q A c a w B hr hw hl hc)
  have hle := tl_le a hw
  have hb := nbits_natOf a hw
  have ht : ((nbits (natOf a) : Int) + 64 - 1) / 64 = (tl a : Int) := by unfold tl; omega
  have ht2 : ((nbits (natOf a) : Int) + 63) / 64 = (tl a : Int) := by unfold tl; omega
  clear hr
  go_enter Try.func43, Try.ntmps43
  go_wp2_with fail
  refine (Q.out).mono ?_
  rintro e w' ⟨rfl, rfl⟩
  go_wp2_with fail
  go_ret
  exact ⟨rfl, rfl⟩
theorem shorter_yes (A A2 : Option Addr) (n m c c2 : Nat) (w : World) (h : m < n) :
    Calls Try.prog 60 #[.slice A n c, .slice A2 m c2] w fun e w' => e = .returned (.tuple #[.slice A2 m c2, .slice A n c]) ∧ w = w' := by
  go_enter Try.func60, Try.ntmps60
  go_wp2_with fail
  go_ret2
  exact ⟨rfl, rfl⟩
theorem shorter_no (A A2 : Option Addr) (n m c c2 : Nat) (w : World) (h : ¬ m < n) :
    Calls Try.prog 60 #[.slice A n c, .slice A2 m c2] w fun e w' => e = .returned (.tuple #[.slice A n c, .slice A2 m c2]) ∧ w = w' := by
  go_enter Try.func60, Try.ntmps60
  go_wp2_with fail
  go_ret2
  exact ⟨rfl, rfl⟩
/-- What is left of a number behind two others. -/
theorem without_any (A A2 A3 : Option Addr) (n m q c c2 c3 : Nat) (a b d : List Nat) (w : World) (hn : a.length = n) (hm : b.length = m) (hq : d.length = q) (hr : Rd .u64 w w.heap.size A a) (hw : Words a) (hl : a.length ≤ 50000) (hc : a.length ≤ c)
    (hr2 : Rd .u64 w w.heap.size A2 b) (hw2 : Words b) (hl2 : b.length ≤ 50000) (hc2 : b.length ≤ c2) (hr3 : Rd .u64 w w.heap.size A3 d) (hw3 : Words d) (hl3 : d.length ≤ 50000) (hc3 : d.length ≤ c3) (hle : natOf b + natOf d ≤ natOf a) :
    Calls Try.prog 63 #[.slice A n c, .slice A2 m c2, .slice A3 q c3] w (OutNat (natOf a - natOf b - natOf d) w) := by
  subst hn
  subst hm
  subst hq
  have S := natSub_any A A2 c c2 a b w hr hw (by omega) hc hr2 hw2 (by omega) hc2
  have HS := Lib.hid S
  clear S
  go_enter Try.func63, Try.ntmps63
  go_wp2_with fail
  refine (HS.out).mono ?_
  rintro e w1 ⟨hyes, _, hb1⟩
  obtain ⟨v, rfl, hown⟩ := hyes (by omega)
  obtain ⟨X, k, rfl, hk, _⟩ := own_form hown
  have hsz : nbits (natOf a - natOf b) ≤ 64 * a.length := Nat.le_trans (nbits_mono (Nat.sub_le _ _)) (nbits_natOf a hw)
  have hlen := length_wd (natOf a - natOf b)
  have S2 := natSub_any X A3 k c3 (wd (natOf a - natOf b)) d w1 (Rd.own hown) (wd_words _) (by omega) (by omega) ((hr3.below hb1).more hb1.size) hw3 (by omega) hc3
  rw [hlen, natOf_wd] at S2
  have HS2 := Lib.hid S2
  clear S2 hlen
  go_wp2_with fail
  refine (HS2.out).mono ?_
  rintro e w2 ⟨hyes2, _, hb2⟩
  obtain ⟨v2, rfl, hown2⟩ := hyes2 (by omega)
  go_wp2_with fail
  go_ret
  exact ⟨_, rfl, own_base hown2 hb1.size, hb1.trans (hb2.mono hb1.size)⟩
set_option maxHeartbeats 1000000 in
/-- x is added to a row from a place on. -/
theorem addAt_any (base g K p V m c2 : Nat) (L xs : List Nat) (A2 : Option Addr) (w : World) (hown : w.ownsRow base 40 1 (.slice (some ⟨g, 0, none⟩) K K) K (ints .u64 L)) (hS : Sums K K p 0 V L) (hx : Rdx .u64 w g A2 xs) (hwx : Words xs) (hm : xs.length = m)
    (hp : p + m ≤ K) (hK : K ≤ 1000000) (hV : V + 18446744073709551616 ^ p * natOf xs < 18446744073709551616 ^ K) :
    Calls Try.prog 62 #[.slice (some ⟨g, 0, none⟩) K K, .slice A2 m c2, .int .i64 (p : Int)] w fun e w' => e = .returned (.tuple #[]) ∧
      w'.ownsRow base 40 1 (.slice (some ⟨g, 0, none⟩) K K) K (ints .u64 (words K (V + 18446744073709551616 ^ p * natOf xs))) ∧ w.grownBy w' (some g) := by
  subst hm
  have HV := Lib.hid hV
  clear hV
  go_enter Try.func62, Try.ntmps62
  go_wp2_with fail
  go_loopw [12, 6] (fun j cy wr => ∃ (i C : Nat) (L' : List Nat), i ≤ xs.length ∧ j = .int .i64 i ∧ cy = .int .u64 C ∧ C ≤ 1 ∧ Sums K K (p + i) C (V + 18446744073709551616 ^ p * natOf (xs.take i)) L' ∧ wr.ownsRow base 40 1 (.slice (some ⟨g, 0, none⟩) K K) K (ints .u64 L') ∧ w.grownBy wr (some g)) (fun j _ _ => xs.length - (intOf j).toNat)
  case atStart => exact ⟨0, 0, L, Nat.zero_le _, rfl, rfl, by omega, by simpa [natOf] using hS, hown, World.grownBy.refl w _⟩
  case round =>
    obtain ⟨i, C, L', hi, rfl, rfl, hC, hS', hown', hg⟩ := hrel
    by_cases hlt : i < xs.length
    · obtain ⟨b, off, rfl, _, hcell⟩ := hx.grown hg (by omega)
      have hx1 := hcell i hlt
      have hxl := nth_lt xs hwx i
      have hll := hS'.len
      have hLl := nth_lt L' hS'.words (p + i)
      have hco : wr.cell? ⟨g, p + i, none⟩ = some (.int .u64 (nth L' (p + i) : Int)) := by rw [hown'.cellAt _ (by omega), ints_get _ _ _ (by omega)]
      have hfo : wr.frozen? ⟨g, p + i, none⟩ = false := hown'.frozenAt _
      obtain ⟨s, hs⟩ : ∃ s, nth L' (p + i) + nth xs i + C = s := ⟨_, rfl⟩
      have hadd := add64_run (nth L' (p + i)) (nth xs i) C hC
      rw [hs] at hadd
      have hst := hown'.stored (p + i) (.int .u64 ((s % 18446744073709551616 : Nat) : Int))
      rw [ints_set] at hst
      have hSS := hS'.step (by omega) (Nat.le_refl _) (nth xs i) s hs
      have e : V + 18446744073709551616 ^ p * natOf (xs.take i) + 18446744073709551616 ^ (p + i) * nth xs i = V + 18446744073709551616 ^ p * natOf (xs.take (i + 1)) := by rw [natOf_take_succ, Nat.mul_add, Nat.pow_add, Nat.mul_assoc, Nat.add_assoc]
      rw [e] at hSS
      have hc1 : s / 18446744073709551616 ≤ 1 := by omega
      obtain ⟨s0, hs0⟩ : ∃ s0, s % 18446744073709551616 = s0 := ⟨_, rfl⟩
      obtain ⟨s1, hs1⟩ : ∃ s1, s / 18446744073709551616 = s1 := ⟨_, rfl⟩
      rw [hs0] at hadd hst hSS
      rw [hs1] at hadd hSS hc1
      have HO := Lib.hid hst.1
      have HG := Lib.hid (hg.trans (grown_setCell wr ⟨g, p + i, none⟩ (.int .u64 (s0 : Int))))
      have HS := Lib.hid hSS
      clear hst hSS hs hs0 hs1 e hcell hown' hS' hll hown hS hx
      go_wp2_with fail
      go_roundw
      case rel => exact ⟨i + 1, s1, L'.set (p + i) s0, by omega, by go_num, rfl, hc1, HS.out, HO.out, HG.out⟩
      case measure => simp [intOf]; omega
    · obtain rfl : i = xs.length := by omega
      rw [List.take_length] at hS'
      clear hlt hown hS
      obtain ⟨wo, hwo⟩ : ∃ wo : World, wo = wr := ⟨_, rfl⟩
      subst hwo
      go_wp2_with fail
      go_loopw [9, 6] (fun j cy wr => ∃ (i C : Nat) (L' : List Nat), i ≤ K ∧ j = .int .i64 i ∧ cy = .int .u64 C ∧ C ≤ 1 ∧ Sums K K i C (V + 18446744073709551616 ^ p * natOf xs) L' ∧ wr.ownsRow base 40 1 (.slice (some ⟨g, 0, none⟩) K K) K (ints .u64 L') ∧ w.grownBy wr (some g)) (fun j _ _ => K - (intOf j).toNat)
      case atStart => exact ⟨p + xs.length, C, L', hp, by go_num, rfl, hC, hS', hown', hg⟩
      case round =>
        obtain ⟨i, C, L', hi, rfl, rfl, hC, hS', hown', hg⟩ := hrel
        by_cases hc0 : C = 0
        · subst hc0
          have e := hS'.all
          subst e
          have HO := Lib.hid hown'
          clear hown' hS'
          go_wp2_with fail
          go_end0
          exact ⟨rfl, HO.out, hg⟩
        · have hiK := hS'.room HV.out hc0
          have hll := hS'.len
          have hLl := nth_lt L' hS'.words i
          have hco : wr.cell? ⟨g, i, none⟩ = some (.int .u64 (nth L' i : Int)) := by rw [hown'.cellAt _ (by omega), ints_get _ _ _ (by omega)]
          have hfo : wr.frozen? ⟨g, i, none⟩ = false := hown'.frozenAt _
          obtain ⟨s, hs⟩ : ∃ s, nth L' i + 0 + C = s := ⟨_, rfl⟩
          have hadd : ∀ w : World, (callFunc 39 #[.int .u64 (nth L' i : Int), .int .u64 0, .int .u64 C]).run Try.prog w = .ok (.value (.tuple #[.int .u64 ((s % 18446744073709551616 : Nat) : Int), .int .u64 ((s / 18446744073709551616 : Nat) : Int)])) w := by
            rw [← hs]
            exact add64_run (nth L' i) 0 C hC
          have hst := hown'.stored i (.int .u64 ((s % 18446744073709551616 : Nat) : Int))
          rw [ints_set] at hst
          have hSS := hS'.step hiK (Nat.le_refl _) 0 s hs
          rw [Nat.mul_zero, Nat.add_zero] at hSS
          have hc1 : s / 18446744073709551616 ≤ 1 := by omega
          obtain ⟨s0, hs0⟩ : ∃ s0, s % 18446744073709551616 = s0 := ⟨_, rfl⟩
          obtain ⟨s1, hs1⟩ : ∃ s1, s / 18446744073709551616 = s1 := ⟨_, rfl⟩
          rw [hs0] at hadd hst hSS
          rw [hs1] at hadd hSS hc1
          have hne : ((C : Int) != 0) = true := by simp; omega
          have HO := Lib.hid hst.1
          have HG := Lib.hid (hg.trans (grown_setCell wr ⟨g, i, none⟩ (.int .u64 (s0 : Int))))
          have HS := Lib.hid hSS
          clear hst hSS hs hs0 hs1 hown' hS' hll
          go_wp2_with fail
          go_roundw
          case rel => exact ⟨i + 1, s1, L'.set i s0, by omega, by go_num, rfl, hc1, HS.out, HO.out, HG.out⟩
          case measure => simp [intOf]; omega
end Go.Proofs.Ytekgoceainibaaa
/- Plain facts on quotients guessed by the upper words (Knuth): a guess is not too small, and not much too great. No condition but those typed; no program is named. -/
namespace Go.Proofs.Ytekgoceainibaaa
/-- What is guessed by upper parts is not too small. -/
theorem guess_ge (u v P : Nat) (hP : 0 < P) (hv : 0 < v / P) : u / v ≤ (u / P) / (v / P) := by
  rw [Nat.le_div_iff_mul_le hv, Nat.le_div_iff_mul_le hP]
  have h1 : v / P * P ≤ v := Nat.div_mul_le_self v P
  have h2 : u / v * v ≤ u := Nat.div_mul_le_self u v
  have h3 : u / v * (v / P) * P = u / v * (v / P * P) := Nat.mul_assoc _ _ _
  have h4 : u / v * (v / P * P) ≤ u / v * v := Nat.mul_le_mul_left _ h1
  omega
/-- A guess that is at most the upper parts' quotient, and below B, is too great by so much at most as makes B not more than the divisor's upper part. -/
theorem guess_le (u v P q B c : Nat) (hP : 0 < P) (hq : q ≤ (u / P) / (v / P)) (hB : q < B) (hv : B ≤ c * (v / P)) (h0 : 0 < v / P) : q * v ≤ u + c * v := by
  have h1 : q * (v / P) ≤ u / P := (Nat.le_div_iff_mul_le h0).1 hq
  have h2 : q * (v / P) * P ≤ u := (Nat.le_div_iff_mul_le hP).1 h1
  have h3 : v < (v / P + 1) * P := by have := Nat.div_add_mod v P; have := Nat.mod_lt v hP; rw [Nat.add_mul, Nat.one_mul, Nat.mul_comm (v / P)]; omega
  have h4 : q * v ≤ q * ((v / P + 1) * P) := Nat.mul_le_mul_left _ (Nat.le_of_lt h3)
  have h5 : q * ((v / P + 1) * P) = q * (v / P) * P + q * P := by rw [Nat.add_mul, Nat.one_mul, Nat.mul_add, Nat.mul_assoc]
  have h6 : q * P ≤ c * (v / P) * P := Nat.mul_le_mul_right _ (by omega)
  have h7 : c * (v / P) * P ≤ c * v := by rw [Nat.mul_assoc]; exact Nat.mul_le_mul_left _ (Nat.div_mul_le_self v P)
  omega
/-- So it is put right in so many steps. -/
theorem guess_steps (u v q c : Nat) (h0 : 0 < v) (h : q * v ≤ u + c * v) : q ≤ u / v + c := by
  rcases Nat.lt_or_ge (u / v + c) q with h1 | h1
  · exfalso
    have h2 : (u / v + c + 1) * v ≤ q * v := Nat.mul_le_mul_right _ h1
    have h3 : u < (u / v + 1) * v := by have := Nat.div_add_mod u v; have := Nat.mod_lt u h0; rw [Nat.add_mul, Nat.one_mul, Nat.mul_comm (u / v)]; omega
    have h4 : (u / v + c + 1) * v = (u / v + 1) * v + c * v := by rw [← Nat.add_mul]; congr 1; omega
    omega
  · exact h1
/-- A place more: what is left so far, and the next word. -/
theorem place_step (r v B x : Nat) (h0 : 0 < v) (hr : r < v) (hx : x < B) : (r * B + x) / v < B ∧ (r * B + x) % v < v := by
  refine ⟨?_, Nat.mod_lt _ h0⟩
  rw [Nat.div_lt_iff_lt_mul h0]
  have h1 : (r + 1) * B ≤ v * B := Nat.mul_le_mul_right _ hr
  rw [Nat.add_mul, Nat.one_mul] at h1
  rw [Nat.mul_comm B v]
  omega
/-- Long division, a place at a time: what was found, and what comes. -/
theorem long_div (a v B x : Nat) (h0 : 0 < v) : (a * B + x) / v = a / v * B + (a % v * B + x) / v ∧ (a * B + x) % v = (a % v * B + x) % v := by
  have h1 := Nat.div_add_mod a v
  have e : a * B + x = v * (a / v * B) + (a % v * B + x) := by
    have : a * B = (v * (a / v) + a % v) * B := by rw [h1]
    rw [this, Nat.add_mul, Nat.mul_assoc]
    omega
  constructor
  · rw [e, Nat.mul_add_div h0]
  · rw [e, Nat.mul_add_mod]
end Go.Proofs.Ytekgoceainibaaa
/- Plain facts on long division: bits.Div64's two half words; a place that is guessed, taken away and given back. No condition but those typed; no program is named. -/
namespace Go.Proofs.Ytekgoceainibaaa
set_option maxRecDepth 20000
/-- A half word's place of a quotient, guessed as q, with r left of the upper words: never too small. -/
structure Dig (u x y1 y0 q r : Nat) : Prop where
  eq : q * y1 + r = u
  low : r < 4294967296
  ge : (u * 4294967296 + x) / (y1 * 4294967296 + y0) ≤ q
  le : q ≤ 4294967297
theorem Dig.start {u x y1 y0 : Nat} (h1 : 2147483648 ≤ y1) (h2 : y1 < 4294967296) (h0 : y0 < 4294967296) (hx : x < 4294967296) (hu : u < y1 * 4294967296 + y0) : Dig u x y1 y0 (u / y1) (u % y1) where
  eq := by have := Nat.div_add_mod u y1; rw [Nat.mul_comm] at this; exact this
  low := by have := Nat.mod_lt u (show 0 < y1 by omega); omega
  ge := by
    have e1 : (u * 4294967296 + x) / 4294967296 = u := by omega
    have e2 : (y1 * 4294967296 + y0) / 4294967296 = y1 := by clear hu h1 h2 e1; omega
    have := guess_ge (u * 4294967296 + x) (y1 * 4294967296 + y0) 4294967296 (by omega) (by omega)
    rwa [e1, e2] at this
  le := by
    have : u / y1 < 4294967298 := by rw [Nat.div_lt_iff_lt_mul (by omega)]; omega
    omega
theorem Dig.lt {u x y1 y0 q r : Nat} (h1 : 2147483648 ≤ y1) (hx : x < 4294967296) (hu : u < y1 * 4294967296 + y0) (h : Dig u x y1 y0 q r) (hc : 4294967296 ≤ q ∨ 4294967296 * r + x < q * y0) : (u * 4294967296 + x) / (y1 * 4294967296 + y0) < q := by
  have _ := h1
  rw [Nat.div_lt_iff_lt_mul (by omega)]
  rcases hc with hc | hc
  · have : 4294967296 * (y1 * 4294967296 + y0) ≤ q * (y1 * 4294967296 + y0) := Nat.mul_le_mul_right _ hc
    omega
  · have e := h.eq
    rw [Nat.mul_add, ← Nat.mul_assoc]
    omega
/-- It is put right by one. -/
theorem Dig.step {u x y1 y0 q r : Nat} (h1 : 2147483648 ≤ y1) (hx : x < 4294967296) (hu : u < y1 * 4294967296 + y0) (h : Dig u x y1 y0 q r) (hc : 4294967296 ≤ q ∨ 4294967296 * r + x < q * y0) (hr : r + y1 < 4294967296) : 0 < q ∧ Dig u x y1 y0 (q - 1) (r + y1) := by
  have h2 := h.lt h1 hx hu hc
  have hq := Nat.lt_of_le_of_lt (Nat.zero_le _) h2
  refine ⟨hq, ?_, hr, Nat.le_sub_one_of_lt h2, by have := h.le; omega⟩
  have e := h.eq
  obtain ⟨p, rfl⟩ : ∃ p, q = p + 1 := ⟨q - 1, by omega⟩
  rw [Nat.add_mul, Nat.one_mul] at e
  rw [Nat.add_sub_cancel]
  omega
/-- It is right where the upper words leave too much for one more. -/
theorem Dig.out {u x y1 y0 q r : Nat} (h1 : 2147483648 ≤ y1) (h0 : y0 < 4294967296) (hx : x < 4294967296) (hu : u < y1 * 4294967296 + y0) (h : Dig u x y1 y0 q r) (hc : 4294967296 ≤ q ∨ 4294967296 * r + x < q * y0) (hr : ¬ r + y1 < 4294967296) : q - 1 = (u * 4294967296 + x) / (y1 * 4294967296 + y0) ∧ 0 < q := by
  have h2 := h.lt h1 hx hu hc
  have hq := Nat.lt_of_le_of_lt (Nat.zero_le _) h2
  obtain ⟨p, rfl⟩ : ∃ p, q = p + 1 := ⟨q - 1, by omega⟩
  refine ⟨Nat.le_antisymm ?_ (Nat.le_sub_one_of_lt h2), hq⟩
  rw [Nat.add_sub_cancel, Nat.le_div_iff_mul_le (by omega), Nat.mul_add, ← Nat.mul_assoc]
  have e := h.eq
  have hl := h.le
  rw [Nat.add_mul, Nat.one_mul] at e
  have h3 : p * y0 ≤ 4294967296 * y0 := Nat.mul_le_mul_right _ (by omega)
  omega
/-- It is right where nothing says otherwise. -/
theorem Dig.done {u x y1 y0 q r : Nat} (h1 : 2147483648 ≤ y1) (h : Dig u x y1 y0 q r) (hc : ¬ 4294967296 ≤ q) (hc2 : ¬ 4294967296 * r + x < q * y0) : q = (u * 4294967296 + x) / (y1 * 4294967296 + y0) := by
  have _ := hc
  refine Nat.le_antisymm ?_ h.ge
  rw [Nat.le_div_iff_mul_le (by omega), Nat.mul_add, ← Nat.mul_assoc]
  have e := h.eq
  omega
/-- What is left behind a place, as words that go round tell it. -/
theorem left_of (u x y q : Nat) (hq : q = (u * 4294967296 + x) / y) (_hy : 0 < y) : q * y ≤ u * 4294967296 + x ∧ u * 4294967296 + x - q * y = (u * 4294967296 + x) % y := by
  subst hq
  have := Nat.div_add_mod (u * 4294967296 + x) y
  rw [Nat.mul_comm] at this
  omega
/-- Two half words' places are one word's. -/
theorem two_digs (u x1 x0 y q1 q0 r1 : Nat) (hy : 0 < y) (hu : u < y) (h1 : x1 < 4294967296) (h0 : x0 < 4294967296) (hq1 : q1 = (u * 4294967296 + x1) / y) (hr1 : r1 = (u * 4294967296 + x1) % y) (hq0 : q0 = (r1 * 4294967296 + x0) / y) :
    q1 < 4294967296 ∧ q0 < 4294967296 ∧ q0 + q1 * 4294967296 = (u * 18446744073709551616 + (x1 * 4294967296 + x0)) / y ∧ (r1 * 4294967296 + x0) % y = (u * 18446744073709551616 + (x1 * 4294967296 + x0)) % y := by
  have e : u * 18446744073709551616 + (x1 * 4294967296 + x0) = y * (q1 * 4294967296) + (r1 * 4294967296 + x0) := by
    have := Nat.div_add_mod (u * 4294967296 + x1) y
    rw [← hq1, ← hr1] at this
    have h : (y * q1 + r1) * 4294967296 = (u * 4294967296 + x1) * 4294967296 := by rw [this]
    rw [Nat.add_mul, Nat.mul_assoc] at h
    omega
  have hr : r1 < y := by rw [hr1]; exact Nat.mod_lt _ hy
  refine ⟨?_, ?_, ?_, ?_⟩
  · rw [hq1, Nat.div_lt_iff_lt_mul hy]; omega
  · rw [hq0, Nat.div_lt_iff_lt_mul hy]; omega
  · rw [e, Nat.mul_add_div hy, ← hq0]; omega
  · rw [e, Nat.mul_add_mod]
/-- A number of two words, shifted so that the divisor's highest bit is set. -/
theorem norm_words (hi lo y s : Nat) (hs : s < 64) (hy : hi < y) (hyB : y * 2 ^ s < 18446744073709551616) (hlo : lo < 18446744073709551616) :
    ∃ u, (hi * 2 ^ s % 18446744073709551616) ||| (lo / 2 ^ (64 - s)) = u ∧ u < y * 2 ^ s ∧ u * 18446744073709551616 + lo * 2 ^ s % 18446744073709551616 = (hi * 18446744073709551616 + lo) * 2 ^ s := by
  have eB : (18446744073709551616 : Nat) = 2 ^ (64 - s) * 2 ^ s := by rw [← Nat.pow_add, show 64 - s + s = 64 by omega]
  have hp : 0 < 2 ^ s := Nat.pow_pos (by omega)
  have ht : lo / 2 ^ (64 - s) < 2 ^ s := by
    rw [Nat.div_lt_iff_lt_mul (Nat.pow_pos (by omega)), Nat.mul_comm, ← eB]
    exact hlo
  have hd : lo * 2 ^ s / 18446744073709551616 = lo / 2 ^ (64 - s) := by rw [eB, Nat.mul_div_mul_right _ _ hp]
  have hm := Nat.div_add_mod (lo * 2 ^ s) 18446744073709551616
  rw [hd] at hm
  have h1 : (hi + 1) * 2 ^ s ≤ y * 2 ^ s := Nat.mul_le_mul_right _ hy
  rw [Nat.add_mul, Nat.one_mul] at h1
  have hlt : hi * 2 ^ s + lo / 2 ^ (64 - s) < y * 2 ^ s := by omega
  refine ⟨hi * 2 ^ s + lo / 2 ^ (64 - s), ?_, hlt, ?_⟩
  · rw [or_low _ _ s hs ht, Nat.mod_eq_of_lt (by omega)]
  · clear eB
    have e : hi * 18446744073709551616 * 2 ^ s = hi * 2 ^ s * 18446744073709551616 := by rw [Nat.mul_assoc, Nat.mul_comm 18446744073709551616, ← Nat.mul_assoc]
    rw [Nat.add_mul, Nat.add_mul, e]
    omega
theorem norm_back (N y s : Nat) : N * 2 ^ s / (y * 2 ^ s) = N / y ∧ N * 2 ^ s % (y * 2 ^ s) / 2 ^ s = N % y := by
  have hp : 0 < 2 ^ s := Nat.pow_pos (by omega)
  refine ⟨Nat.mul_div_mul_right _ _ hp, ?_⟩
  rw [Nat.mul_mod_mul_right, Nat.mul_div_cancel _ hp]
/-- Noughts from place k on: below so many words. -/
theorem natOf_far (l : List Nat) (h : Words l) (k : Nat) (hz : ∀ j, k ≤ j → nth l j = 0) : natOf l < 18446744073709551616 ^ k := by
  have e : natOf l = natOf (l.take k) := natOf_ext _ _ fun j => by
    by_cases hj : j < k
    · simp [nth, hj]
    · rw [hz j (by omega)]
      simp [nth, List.getElem?_take, hj]
  rw [e]
  exact natOf_take_lt l h k
theorem far_of (l : List Nat) (h : Words l) (k : Nat) (hl : natOf l < 18446744073709551616 ^ k) (j : Nat) (hj : k ≤ j) : nth l j = 0 := by
  rw [nth_natOf l h, Nat.div_eq_of_lt (Nat.lt_of_lt_of_le hl (Nat.pow_le_pow_right (by omega) hj))]
/-- A row from whose places p on x times a number is taken, i words of it so far: o is owed. -/
structure Takes (K p x V i o : Nat) (T : Nat) (L0 L : List Nat) : Prop where
  len : L.length = K
  words : Words L
  val : natOf L + 18446744073709551616 ^ p * (x * V) = T + 18446744073709551616 ^ (p + i) * o
  same : ∀ j, p + i ≤ j → nth L j = nth L0 j
theorem Takes.step {K p x V i o T y : Nat} {L0 L : List Nat} (h : Takes K p x V i o T L0 L) (hp : p + i < K) (s c o2 : Nat) (hs : s < 18446744073709551616) (he : s + x * y + o = nth L (p + i) + 18446744073709551616 * o2) (hc : c = V + 18446744073709551616 ^ i * y) :
    Takes K p x c (i + 1) o2 T L0 (L.set (p + i) s) where
  len := by rw [List.length_set, h.len]
  words := words_put _ h.words _ _ hs
  val := by
    have h1 := natOf_put L (p + i) s (by rw [h.len]; exact hp)
    have h2 := h.val
    have h3 : 18446744073709551616 ^ p * (x * (18446744073709551616 ^ i * y)) = 18446744073709551616 ^ (p + i) * (x * y) := by rw [Nat.pow_add, Nat.mul_left_comm x, Nat.mul_assoc]
    have h4 : 18446744073709551616 ^ (p + (i + 1)) * o2 = 18446744073709551616 ^ (p + i) * (18446744073709551616 * o2) := by rw [← Nat.add_assoc, Nat.pow_succ, Nat.mul_assoc]
    have h5 : 18446744073709551616 ^ (p + i) * (s + x * y + o) = 18446744073709551616 ^ (p + i) * (nth L (p + i) + 18446744073709551616 * o2) := by rw [he]
    rw [Nat.mul_add, Nat.mul_add, Nat.mul_add] at h5
    rw [hc, Nat.mul_add, Nat.mul_add, h3, h4]
    omega
  same := fun j hj => by
    rw [nth_set _ _ _ _ (by rw [h.len]; omega), if_neg (by omega)]
    exact h.same j (by omega)
theorem Takes.start (K p x : Nat) (L : List Nat) (hl : L.length = K) (hw : Words L) : Takes K p x 0 0 0 (natOf L) L L :=
  ⟨hl, hw, by simp, fun _ _ => rfl⟩
/-- Words that take away: a product's, and what was owed. -/
theorem take_step (x y v r b : Nat) (hx : x < 18446744073709551616) (hy : y < 18446744073709551616) (hv : v < 18446744073709551616) (hr : r < 18446744073709551616) (hb : b ≤ 1) :
    x * y / 18446744073709551616 + (x * y % 18446744073709551616 + v) / 18446744073709551616 < 18446744073709551616 ∧
    (r + 18446744073709551616 - (x * y % 18446744073709551616 + v) % 18446744073709551616 - b) % 18446744073709551616 + x * y + (v + b) =
      r + 18446744073709551616 * (x * y / 18446744073709551616 + (x * y % 18446744073709551616 + v) / 18446744073709551616 + (if r < (x * y % 18446744073709551616 + v) % 18446744073709551616 + b then 1 else 0)) := by
  have h : x * y ≤ 18446744073709551615 * 18446744073709551615 := Nat.mul_le_mul (by omega) (by omega)
  generalize x * y = P at *
  split <;> omega
theorem last_step (v r b : Nat) (hv : v < 18446744073709551616) (hr : r < 18446744073709551616) (hb : b ≤ 1) :
    (r + 18446744073709551616 - v - b) % 18446744073709551616 + (v + b) = r + 18446744073709551616 * (if r < v + b then 1 else 0) := by
  split <;> omega
/-- A row to whose places from p on a number is added, i words of it so far: c is carried. -/
structure Gives (K p V i c : Nat) (T : Nat) (L0 L : List Nat) : Prop where
  len : L.length = K
  words : Words L
  val : natOf L + 18446744073709551616 ^ (p + i) * c = T + 18446744073709551616 ^ p * V
  same : ∀ j, p + i ≤ j → nth L j = nth L0 j
theorem Gives.step {K p V i c T y : Nat} {L0 L : List Nat} (h : Gives K p V i c T L0 L) (hp : p + i < K) (s d : Nat) (hs : nth L (p + i) + y + c = s) (hd : d = V + 18446744073709551616 ^ i * y) :
    Gives K p d (i + 1) (s / 18446744073709551616) T L0 (L.set (p + i) (s % 18446744073709551616)) where
  len := by rw [List.length_set, h.len]
  words := words_put _ h.words _ _ (Nat.mod_lt _ (by omega))
  val := by
    have h1 := natOf_put L (p + i) (s % 18446744073709551616) (by rw [h.len]; exact hp)
    have h2 := h.val
    have h3 : 18446744073709551616 ^ p * (18446744073709551616 ^ i * y) = 18446744073709551616 ^ (p + i) * y := by rw [Nat.pow_add, Nat.mul_assoc]
    have h4 : 18446744073709551616 ^ (p + (i + 1)) * (s / 18446744073709551616) = 18446744073709551616 ^ (p + i) * (18446744073709551616 * (s / 18446744073709551616)) := by rw [← Nat.add_assoc, Nat.pow_succ, Nat.mul_assoc]
    have h5 : 18446744073709551616 ^ (p + i) * (18446744073709551616 * (s / 18446744073709551616)) + 18446744073709551616 ^ (p + i) * (s % 18446744073709551616) = 18446744073709551616 ^ (p + i) * s := by rw [← Nat.mul_add, Nat.div_add_mod]
    have h6 : 18446744073709551616 ^ (p + i) * s = 18446744073709551616 ^ (p + i) * nth L (p + i) + 18446744073709551616 ^ (p + i) * y + 18446744073709551616 ^ (p + i) * c := by rw [← hs, Nat.mul_add, Nat.mul_add]
    rw [hd, Nat.mul_add, h3, h4]
    omega
  same := fun j hj => by
    rw [nth_set _ _ _ _ (by rw [h.len]; omega), if_neg (by omega)]
    exact h.same j (by omega)
theorem Gives.start (K p : Nat) (L : List Nat) (hl : L.length = K) (hw : Words L) : Gives K p 0 0 0 (natOf L) L L :=
  ⟨hl, hw, by simp, fun _ _ => rfl⟩
/-- At place p: x times is taken of T, and o is owed (0 or 1). D is the divisor at that place; E the first place's worth behind it. -/
structure Place (K k D E T x o : Nat) (L : List Nat) : Prop where
  len : L.length = K
  words : Words L
  val : natOf L + x * D = T + E * o
  far : ∀ j, k ≤ j → nth L j = 0
  one : o ≤ 1
  ge : T / D ≤ x
theorem Place.more {K k D T x o : Nat} {L : List Nat} (h : Place K k D (18446744073709551616 ^ k) T x o L) (hD : 0 < D) (ho : o ≠ 0) : T / D < x := by
  have h1 := natOf_far L h.words k h.far
  have h2 := h.val
  obtain rfl : o = 1 := by have := h.one; omega
  rw [Nat.div_lt_iff_lt_mul hD]
  omega
theorem Place.done {K k D E T x : Nat} {L : List Nat} (h : Place K k D E T x 0 L) (hD : 0 < D) : x = T / D ∧ natOf L = T % D := by
  have h2 := h.val
  rw [Nat.mul_zero, Nat.add_zero] at h2
  have h3 : x ≤ T / D := by rw [Nat.le_div_iff_mul_le hD]; omega
  have h4 : x = T / D := Nat.le_antisymm h3 h.ge
  refine ⟨h4, ?_⟩
  have h5 := Nat.div_add_mod T D
  rw [← h4, Nat.mul_comm] at h5
  omega
/-- By one less. -/
theorem Place.back {K k D T x o c : Nat} {L L' : List Nat} (h : Place K k D (18446744073709551616 ^ k) T x o L) (hD : 0 < D) (ho : o ≠ 0) (h1 : L'.length = K) (h2 : Words L') (h3 : natOf L' + 18446744073709551616 ^ k * c = natOf L + D) (h4 : ∀ j, k ≤ j → nth L' j = nth L j) (hc : c ≤ 1) :
    0 < x ∧ Place K k D (18446744073709551616 ^ k) T (x - 1) (o - c) L' := by
  have hm := h.more hD ho
  have hx := Nat.lt_of_le_of_lt (Nat.zero_le _) hm
  refine ⟨hx, h1, h2, ?_, fun j hj => by rw [h4 j hj, h.far j hj], by have := h.one; omega, Nat.le_sub_one_of_lt hm⟩
  obtain rfl : o = 1 := by have := h.one; omega
  obtain ⟨z, rfl⟩ : ∃ z, x = z + 1 := ⟨x - 1, by omega⟩
  have h5 := h.val
  rw [Nat.add_mul, Nat.one_mul] at h5
  rw [Nat.add_sub_cancel]
  rcases (show c = 0 ∨ c = 1 by omega) with rfl | rfl
  · simp only [Nat.mul_zero, Nat.add_zero, Nat.sub_zero, Nat.mul_one] at *
    omega
  · simp only [Nat.mul_zero, Nat.add_zero, Nat.sub_self, Nat.mul_one] at *
    omega
/-- A guess by two words and one: not too small, and too great by two at most. -/
theorem guess_two (T V p n g : Nat) (L by_ : List Nat) (hL : Words L) (hT : natOf L = T) (hb : Words by_) (hV : natOf by_ = V) (hn : by_.length = n + 1) (htop : 9223372036854775808 ≤ nth by_ n) (hlt : T < 18446744073709551616 ^ (p + 1) * V)
    (hg : (nth by_ n ≤ nth L (p + n + 1) ∧ g = 18446744073709551615) ∨ (nth L (p + n + 1) < nth by_ n ∧ g = (nth L (p + n + 1) * 18446744073709551616 + nth L (p + n)) / nth by_ n)) :
    g < 18446744073709551616 ∧ T / (18446744073709551616 ^ p * V) ≤ g ∧ g ≤ T / (18446744073709551616 ^ p * V) + 2 := by
  have hP : 0 < 18446744073709551616 ^ (p + n) := Nat.pow_pos (by omega)
  have hB := natOf_lt by_ hb
  rw [hV, hn] at hB
  have e1 : 18446744073709551616 ^ p * V / 18446744073709551616 ^ (p + n) = nth by_ n := by
    rw [Nat.pow_add, Nat.mul_div_mul_left _ _ (Nat.pow_pos (by omega)), nth_natOf by_ hb, hV, Nat.mod_eq_of_lt]
    rw [Nat.div_lt_iff_lt_mul (Nat.pow_pos (by omega)), Nat.mul_comm, ← Nat.pow_succ]
    exact hB
  have hT2 : T < 18446744073709551616 ^ (p + n) * (18446744073709551616 * 18446744073709551616) := by
    refine Nat.lt_trans hlt ?_
    have : 18446744073709551616 ^ (p + 1) * V < 18446744073709551616 ^ (p + 1) * 18446744073709551616 ^ (n + 1) := Nat.mul_lt_mul_of_pos_left hB (Nat.pow_pos (by omega))
    have e : (18446744073709551616 : Nat) ^ (p + 1) * 18446744073709551616 ^ (n + 1) = 18446744073709551616 ^ (p + n) * (18446744073709551616 * 18446744073709551616) := by
      rw [← Nat.pow_add, show p + 1 + (n + 1) = p + n + 1 + 1 by omega, Nat.pow_succ, Nat.pow_succ, Nat.mul_assoc]
    rwa [e] at this
  have e2 : T / 18446744073709551616 ^ (p + n) = nth L (p + n + 1) * 18446744073709551616 + nth L (p + n) := by
    rw [nth_natOf L hL, nth_natOf L hL, hT, Nat.pow_succ, ← Nat.div_div_eq_div_mul]
    have h1 : T / 18446744073709551616 ^ (p + n) < 18446744073709551616 * 18446744073709551616 := by
      rw [Nat.div_lt_iff_lt_mul hP, Nat.mul_comm]
      exact hT2
    generalize T / 18446744073709551616 ^ (p + n) = u at *
    omega
  have hD : 0 < 18446744073709551616 ^ p * V := by
    rcases Nat.eq_zero_or_pos (18446744073709551616 ^ p * V) with h | h
    · rw [h, Nat.zero_div] at e1; omega
    · exact h
  have hge := guess_ge T (18446744073709551616 ^ p * V) (18446744073709551616 ^ (p + n)) hP (by rw [e1]; omega)
  have hq : T / (18446744073709551616 ^ p * V) < 18446744073709551616 := by
    rw [Nat.div_lt_iff_lt_mul hD, ← Nat.mul_assoc, Nat.mul_comm 18446744073709551616, ← Nat.pow_succ]
    exact hlt
  have hle : ∀ g, g ≤ (T / 18446744073709551616 ^ (p + n)) / (18446744073709551616 ^ p * V / 18446744073709551616 ^ (p + n)) → g < 18446744073709551616 → g ≤ T / (18446744073709551616 ^ p * V) + 2 := fun g h1 h2 =>
    guess_steps _ _ _ _ hD (guess_le T (18446744073709551616 ^ p * V) (18446744073709551616 ^ (p + n)) g 18446744073709551616 2 hP h1 h2 (by rw [e1]; omega) (by rw [e1]; omega))
  rw [e1, e2] at hge hle
  rcases hg with ⟨h1, rfl⟩ | ⟨h1, rfl⟩
  · refine ⟨by omega, by omega, hle _ ?_ (by omega)⟩
    rw [Nat.le_div_iff_mul_le (by omega)]
    have : 18446744073709551615 * nth by_ n ≤ 18446744073709551615 * nth L (p + n + 1) := Nat.mul_le_mul_left _ h1
    omega
  · have h2 : (nth L (p + n + 1) * 18446744073709551616 + nth L (p + n)) / nth by_ n < 18446744073709551616 := by
      rw [Nat.div_lt_iff_lt_mul (by omega)]
      have h3 : nth L (p + n) < 18446744073709551616 := by rw [nth_natOf L hL]; exact Nat.mod_lt _ (by omega)
      have h4 : 18446744073709551616 * (nth L (p + n + 1) + 1) ≤ 18446744073709551616 * nth by_ n := Nat.mul_le_mul_left _ h1
      omega
    exact ⟨h2, hge, hle _ (Nat.le_refl _) h2⟩
end Go.Proofs.Ytekgoceainibaaa

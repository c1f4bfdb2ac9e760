/- Several texts in one; each begins with a remark that says what it shows and on which conditions. -/
import Derived.WalkKit
import Derived.Laws.AppendOwnNone
import Derived.Laws.CopyOwn
import Derived.Lib.Hide
import Derived.Deep.Draws
import Derived.Lib.BitFns
import Derived.Lib.ItoaNum
import Derived.Test.YtgmolbiicclcaaaProg
import Derived.BigQuiet
import Derived.Deep.QuietTactic
import Derived.Outline
import Derived.BigRegion
import Derived.RegionTactic
import Derived.Deep.LoopGhost
import Derived.WalkLawsBesides
/- Words for memory and numbers, over any program: a slice that reads as a list of numbers (nil and empty let in), and what appending such a slice does. No condition but those typed. -/
namespace Go.Proofs.Ytgmolbiicclcaaa
open Go.RowKit
/-- Number j of a list, 0 behind its end. -/
def nth (l : List Nat) (j : Nat) : Nat := l.getD j 0
/-- Numbers as cells of an integer kind. -/
def ints (k : IntKind) (l : List Nat) : List Value := l.map fun n : Nat => .int k (n : Int)
theorem nth_eq (l : List Nat) (j : Nat) (h : j < l.length) : nth l j = l[j] := by simp [nth, h]
theorem nth_mem (l : List Nat) (j : Nat) (h : j < l.length) : nth l j ∈ l := by rw [nth_eq l j h]; exact List.getElem_mem h
theorem length_ints (k : IntKind) (l : List Nat) : (ints k l).length = l.length := by simp [ints]
theorem ints_append (k : IntKind) (l m : List Nat) : ints k (l ++ m) = ints k l ++ ints k m := by simp [ints]
theorem ints_get (k : IntKind) (l : List Nat) (j : Nat) (h : j < l.length) : (ints k l)[j]? = some (.int k (nth l j : Int)) := by
  simp [ints, nth, h]
theorem ints_one (k : IntKind) (l : List Nat) : ∀ u ∈ ints k l, u.oneCell' = true := by
  intro u hu
  obtain ⟨_, _, rfl⟩ := List.mem_map.1 hu
  rfl
/-- Two endings with one number. -/
theorem ret_num {k : IntKind} {a b : Int} (h : a = b) : Ending.returned (.int k a) = .returned (.int k b) := by rw [h]
/-- The slice at A reads as the numbers l, in blocks below B. -/
def Rd (k : IntKind) (w : World) (B : Nat) (A : Option Addr) (l : List Nat) : Prop :=
  0 < l.length → ∃ b off, A = some ⟨b, off, none⟩ ∧ b < B ∧ ∀ j, j < l.length → w.cell? ⟨b, off + j, none⟩ = some (.int k (nth l j : Int))
section
variable {k : IntKind} {w w' : World} {B B' : Nat} {A : Option Addr} {l : List Nat}
theorem Rd.nil : Rd k w B A [] := fun h => absurd h (by simp)
theorem Rd.keep (h : Rd k w B A l) (hk : ∀ b o, b < B → w'.cell? ⟨b, o, none⟩ = w.cell? ⟨b, o, none⟩) : Rd k w' B A l := fun hl => by
  obtain ⟨b, off, e, hb, hc⟩ := h hl
  exact ⟨b, off, e, hb, fun j hj => (hk b (off + j) hb).trans (hc j hj)⟩
theorem Rd.below (h : Rd k w B A l) (hb : Below B w w') : Rd k w' B A l := h.keep fun b o hlt => hb.cell (p := ⟨b, o, none⟩) hlt
theorem Rd.more (h : Rd k w B A l) (hB : B ≤ B') : Rd k w B' A l := fun hl => by
  obtain ⟨b, off, e, hb, hc⟩ := h hl
  exact ⟨b, off, e, by omega, hc⟩
theorem Rd.grown {row : Option Nat} (h : Rd k w B A l) (hg : w.grownBy w' row) (hB : B ≤ w.heap.size) (hr : ∀ g, row = some g → B ≤ g) : Rd k w' B A l :=
  h.below ((Below.refl B w).grown hg hB hr)
/-- A row of the call's own reads as what it owns. -/
theorem Rd.own {base : Nat} {e : TypeId} {n c : Nat} (h : w.ownsRow base e 1 (.slice A n c) n (ints k l)) : Rd k w w.heap.size A l := fun hl => by
  have hn : l.length = n := by have := h.1; rw [length_ints] at this; omega
  rcases h.2 with ⟨_, h0⟩ | ⟨g, cap, cur, hv, _, hh, _⟩
  · omega
  · injection hv with hA hn' hc
    subst hA
    subst hc
    have hlt : g < w.heap.size := by
      rcases Nat.lt_or_ge g w.heap.size with h1 | h1
      · exact h1
      · rw [Array.getElem?_eq_none h1] at hh; cases hh
    refine ⟨g, 0, rfl, hlt, fun j hj => ?_⟩
    rw [Nat.zero_add, h.cellAt j (by omega), ints_get k l j hj]
/-- The value of a row of the call's own, written out. -/
theorem own_form {base : Nat} {e : TypeId} {n : Nat} {v : Value} {xs : List Value} (h : w.ownsRow base e 1 v n xs) : ∃ A c, v = .slice A n c ∧ n ≤ c ∧ c ≤ maxLen := by
  rcases h.2 with ⟨rfl, rfl⟩ | ⟨g, cap, cur, rfl, _, _, hn, hm, _⟩
  · exact ⟨none, 0, rfl, Nat.le_refl _, Nat.zero_le _⟩
  · exact ⟨_, cap, rfl, hn, hm⟩
/-- The cells behind an address, for the laws on append and copy. -/
theorem Rd.src (h : Rd k w B A l) : 0 < (ints k l).length → ∃ ad, A = some ad ∧ ∀ j v, (ints k l)[j]? = some v → w.cell? (ad.add j) = some v := fun hl => by
  rw [length_ints] at hl
  obtain ⟨b, off, rfl, _, hc⟩ := h hl
  refine ⟨_, rfl, fun j v hv => ?_⟩
  have hj : j < l.length := by have := (List.getElem?_eq_some_iff.1 hv).1; rwa [length_ints] at this
  rw [ints_get k l j hj] at hv
  rw [Addr.add_lit, hc j hj, hv]
/-- A block that is known whole is owned. -/
theorem own_of_heap {base e g n cap : Nat} {cur xs : List Value} (hh : w.heap[g]? = some (.cells cur.toArray e (0, 0))) (hb : base ≤ g) (hn : n ≤ cap) (hm : cap ≤ maxLen) (hc : cur.length = cap) (hx : cur.take n = xs) :
    w.ownsRow base e 1 (.slice (some ⟨g, 0, none⟩) n cap) n xs :=
  ⟨by subst hx; simp; omega, .inr ⟨g, cap, cur.toArray, rfl, hb, hh, hn, hm, by simpa using hc, by simpa using hx⟩⟩
/-- A store turns its own block alone. -/
theorem grown_setCell (w : World) (p : Addr) (u : Value) : w.grownBy (w.setCell p u) (some p.block) :=
  ⟨rfl, rfl, rfl, by simp [World.setCell], fun i _ hne => Below.heap_setCell _ _ _ _ (fun e => hne (by rw [e]))⟩
/-- s[k:] -/
theorem Rd.drop (h : Rd k w B A l) {i cap : Nat} (hc : l.length ≤ cap) : Rd k w B (if cap = i then A else A.map (·.add i)) (l.drop i) := fun hl => by
  have hlt : i < l.length := by rw [List.length_drop] at hl; omega
  obtain ⟨b, off, rfl, hb, hcell⟩ := h (by omega)
  refine ⟨b, off + i, ?_, hb, fun j hj => ?_⟩
  · rw [if_neg (by omega)]
    by_cases h0 : i = 0 <;> simp [Addr.add, h0]
  · have := hcell (i + j) (by simp at hj; omega)
    rw [Nat.add_assoc, this]
    simp [nth, List.getElem?_drop]
/-- s[:k] -/
theorem Rd.take (h : Rd k w B A l) (i : Nat) : Rd k w B A (l.take i) := fun hl => by
  have hlt : 0 < l.length := by simp at hl; omega
  obtain ⟨b, off, rfl, hb, hcell⟩ := h hlt
  refine ⟨b, off, rfl, hb, fun j hj => ?_⟩
  have hj' : j < i ∧ j < l.length := by simp at hj; omega
  rw [hcell j hj'.2]
  simp [nth, hj'.1]
end
section
variable {P : Program} (w : World)
theorem run_append_nothing (base : Nat) (t ty e : TypeId) (i : TypeInfo) (ht : P.underlying t = some (.slice e)) (hi : P.info? e = some i)
    (v : Value) (n : Nat) (xs : List Value) (hown : w.ownsRow base e 1 v n xs) (c : Nat) : (Builtin.append_ #[t, t] ty #[v, .slice none 0 c]).run P w = .ok v w := by
  rcases hown.2 with ⟨rfl, rfl⟩ | ⟨g, cap, cur, rfl, _, _, hnc, _⟩
  · simp [Builtin.append_, run_underlying ht, sizeOf, typeInfo, hi, Builtin.lenOf, Builtin.firstCells]
  · simp [Builtin.append_, run_underlying ht, sizeOf, typeInfo, hi, Builtin.lenOf, Builtin.firstCells, hnc, storeCells]
/-- 'out = append(out, src...)', out a row of the call's own, src any slice that reads as numbers. -/
theorem wpList_append_rd {ops : Array Oper} {rest : List Oper} {o : Oper} {a : Act} {Q : Exit → Act → World → Prop} (hgd : o.guard = none) (s x : Operand) (t : TypeId)
    (ho : o.op = .call { callee := .builtin .append, args := #[s, x], argTypes := #[t, t] })
    (base : Nat) (e : TypeId) (i : TypeInfo) (z : Value) (bytes : Nat) (ht : P.underlying t = some (.slice e)) (hi : P.info? e = some i) (hz : i.zero = some z)
    (hsize : i.size = 1) (hby : i.bytes = bytes) (hzs : z.cells.size = 1)
    (v : Value) (n : Nat) (xs : List Value) (hs : a.eval s = v) (hown : w.ownsRow base e 1 v n xs)
    (k : IntKind) (B : Nat) (A : Option Addr) (m c : Nat) (l : List Nat) (hx : a.eval x = .slice A m c) (hm : l.length = m) (hr : Rd k w B A l)
    (h63 : n + m ≤ maxLen) (hbytes : (n + m) * bytes ≤ 140737488355328) (hbase : base ≤ w.heap.size)
    (h : ∀ v' w', w'.ownsRow base e 1 v' (n + m) (xs ++ ints k l) → w.grownBy w' v.ownBlock → wpList P ops Q rest (a.put o.dst v') w') : wpList P ops Q (o :: rest) a w := by
  rcases A with _ | ad
  · have h0 : l = [] := by
      rcases Nat.eq_zero_or_pos l.length with h0 | h0
      · exact List.eq_nil_of_length_eq_zero h0
      · obtain ⟨_, _, he, _⟩ := hr h0
        cases he
    subst h0
    obtain rfl : m = 0 := by simpa using hm.symm
    refine wpList_plain hgd fun K hK => ?_
    have hrun := run_append_nothing (P := P) w base t o.type e i ht hi v n xs hown c
    unfold Oper.wp
    simp [execOp, ho, resolve, invoke, builtin, hs, hx, hrun, Result.andThen]
    exact hK _ _ (h v w (by simpa [ints] using hown) (World.grownBy.refl w _))
  · have hcells : ∀ j u, (ints k l)[j]? = some u → w.cell? (ad.add j) = some u := by
      intro j u hu
      have hj : j < l.length := by have := (List.getElem?_eq_some_iff.1 hu).1; rwa [length_ints] at this
      obtain ⟨b, off, he, _, hc⟩ := hr (by omega)
      injection he with he
      subst he
      rw [ints_get k l j hj] at hu
      rw [Addr.add_lit, hc j hj, hu]
    exact wpList_append_own w hgd s x t ho base e i z 1 bytes ht hi hz hsize hby hzs (by omega) v n xs hs hown ad m c (ints k l) hx (by rw [length_ints]; omega) hcells (ints_one k l) h63 hbytes hbase
      fun v' w' h1 h2 _ => h v' w' h1 h2
theorem below_of_grown {base : Nat} {e : TypeId} {v : Value} {n : Nat} {xs : List Value} {w' : World} (hown : w.ownsRow base e 1 v n xs) (hg : w.grownBy w' v.ownBlock) (hbase : base ≤ w.heap.size) : Below base w w' :=
  (Below.refl _ _).grown hg hbase fun g hg' => (hown.lt g hg').1
/-- 'out = append(out, x)', out a row of the call's own: x stands in a new block first. -/
theorem wpList_append_one {ops : Array Oper} {rest : List Oper} {o : Oper} {a : Act} {Q : Exit → Act → World → Prop} (hgd : o.guard = none) (s x : Operand) (t : TypeId)
    (ho : o.op = .call { callee := .builtin .append, args := #[s, x], argTypes := #[t, t] })
    (base : Nat) (e : TypeId) (i : TypeInfo) (z : Value) (bytes : Nat) (ht : P.underlying t = some (.slice e)) (hi : P.info? e = some i) (hz : i.zero = some z)
    (hsize : i.size = 1) (hby : i.bytes = bytes) (hzs : z.cells.size = 1)
    (v : Value) (n : Nat) (k : IntKind) (ys : List Nat) (hs : a.eval s = v) (hown : w.ownsRow base e 1 v n (ints k ys)) (X : Int) (y : Nat) (hX : X = (y : Int))
    (hx : a.eval x = .slice (some ⟨w.heap.size, 0, none⟩) 1 1)
    (h63 : n + 1 ≤ maxLen) (hbytes : (n + 1) * bytes ≤ 140737488355328) (hbase : base ≤ w.heap.size)
    (h : ∀ v' w', w'.ownsRow base e 1 v' (n + 1) (ints k (ys ++ [y])) → w.grownBy w' v.ownBlock → Below base w w' → wpList P ops Q rest (a.put o.dst v') w') : wpList P ops Q (o :: rest) a (w.alloc (.cells #[.int k X] e)) := by
  subst hX
  have hown2 := hown.alloc (.cells #[.int k (y : Int)] e)
  refine wpList_append_rd _ hgd s x t ho base e i z bytes ht hi hz hsize hby hzs v n (ints k ys) hs hown2 k (w.heap.size + 1) (some ⟨w.heap.size, 0, none⟩) 1 1 [y] hx rfl (fun _ => ⟨_, _, rfl, Nat.lt_succ_self _, fun j hj => ?_⟩) h63 hbytes (by simp; omega) fun v' w' h1 h2 => ?_
  · obtain rfl : j = 0 := by simpa using hj
    simp [nth]
  · have hg : w.grownBy w' v.ownBlock := ⟨h2.os, h2.tape, h2.output, Nat.le_trans (by simp) h2.size, fun q hq hne => (h2.block q (by simp; omega) hne).trans (Below.heap_alloc _ _ _ hq)⟩
    exact h v' w' (by rw [ints_append]; exact h1) hg (below_of_grown w hown hg hbase)
end
/-- What is owned from a block on is owned from an earlier one on. -/
theorem own_base {w : World} {b b' : Nat} {e : TypeId} {v : Value} {n : Nat} {xs : List Value} (h : w.ownsRow b e 1 v n xs) (hb : b' ≤ b) : w.ownsRow b' e 1 v n xs := by
  refine ⟨h.1, ?_⟩
  rcases h.2 with h2 | ⟨g, cap, cur, e1, e2, e3⟩
  · exact .inl h2
  · exact .inr ⟨g, cap, cur, e1, Nat.le_trans hb e2, e3⟩
/-- What is owned is owned behind a call that leaves alone what lay. -/
theorem own_step {w w' : World} {base : Nat} {e : TypeId} {v : Value} {n : Nat} {xs : List Value} (h : w.ownsRow base e 1 v n xs) (b : Below w.heap.size w w') : w'.ownsRow base e 1 v n xs := by
  refine h.kept (row := none) ⟨b.os, b.tape, b.output, b.size, fun i hi _ => b.block i hi⟩ ?_
  rcases hv : v.ownBlock with _ | x
  · exact .inl rfl
  · exact .inr (by simp)
/-- Nothing has turned but the count of draws. -/
def Drawn (w w' : World) : Prop := ∃ n, w' = w.drewN n
theorem Drawn.refl (w : World) : Drawn w w := ⟨0, rfl⟩
theorem Drawn.more {w : World} (n : Nat) : Drawn w (w.drewN n) := ⟨n, rfl⟩
theorem Drawn.draws {w w' : World} (h : Drawn w w') (n : Nat) : Drawn w (w'.drewN n) := by
  obtain ⟨m, rfl⟩ := h
  exact ⟨m + n, by rw [World.drewN_drewN]⟩
theorem Drawn.trans {a b c : World} (h : Drawn a b) (k : Drawn b c) : Drawn a c := by
  obtain ⟨n, rfl⟩ := k
  exact h.draws n
theorem Drawn.below {w w' : World} (h : Drawn w w') (B : Nat) : Below B w w' := by
  obtain ⟨n, rfl⟩ := h
  exact ⟨rfl, rfl, rfl, Nat.le_refl _, fun _ _ => rfl⟩
theorem Drawn.rd {w w' : World} (h : Drawn w w') {k : IntKind} {B : Nat} {A : Option Addr} {l : List Nat} (hr : Rd k w B A l) : Rd k w' B A l := hr.below (h.below B)
theorem Drawn.own {w w' : World} (h : Drawn w w') {base : Nat} {e : TypeId} {n : Nat} {v : Value} {xs : List Value} (ho : w.ownsRow base e 1 v n xs) : w'.ownsRow base e 1 v n xs := by
  obtain ⟨m, rfl⟩ := h
  exact ho
theorem Drawn.size {w w' : World} (h : Drawn w w') : w'.heap.size = w.heap.size := by
  obtain ⟨m, rfl⟩ := h
  rfl
/-- A slice that is written out. -/
theorem Rd.lit (w : World) (k : IntKind) (e : TypeId) (l : List Nat) : Rd k (w.alloc (.cells (ints k l).toArray e)) (w.heap.size + 1) (some ⟨w.heap.size, 0, none⟩) l := fun _ =>
  ⟨_, _, rfl, Nat.lt_succ_self _, fun j hj => by
    have h := cell_of_row _ w.heap.size (0 + j) _ e (0, 0) (heap_alloc_new w (.cells (ints k l).toArray e))
    rw [h, Nat.zero_add]
    simpa using ints_get k l j hj⟩
end Go.Proofs.Ytgmolbiicclcaaa
/- Plain facts on numbers to the bases 256 and 2^64: digits, how many bytes a number needs, words. No condition but those typed; no program is named. -/
namespace Go.Proofs.Ytgmolbiicclcaaa
/-- The number of words of 64 bits, the lowest first. -/
def natOf : List Nat → Nat
  | [] => 0
  | a :: r => a + 18446744073709551616 * natOf r
/-- Digit i to the base 256. -/
def dig (n i : Nat) : Nat := n / 256 ^ i % 256
/-- The lowest k digits to the base 256, the highest first. -/
def be : Nat → Nat → List Nat
  | 0, _ => []
  | k + 1, n => dig n k :: be k n
/-- The number whose digits to the base 256 these are, the highest first. -/
def val : List Nat → Nat
  | [] => 0
  | x :: r => x * 256 ^ r.length + val r
/-- The lowest k words of a number, the lowest first. -/
def words : Nat → Nat → List Nat
  | 0, _ => []
  | k + 1, n => n % 18446744073709551616 :: words k (n / 18446744073709551616)
def Bytes (l : List Nat) : Prop := ∀ x ∈ l, x < 256
def Words (l : List Nat) : Prop := ∀ x ∈ l, x < 18446744073709551616
theorem natOf_lt (l : List Nat) (h : Words l) : natOf l < 18446744073709551616 ^ l.length := by
  induction l with
  | nil => simp [natOf]
  | cons x r ih =>
    have hx : x < 18446744073709551616 := h x (by simp)
    have hr := ih fun y hy => h y (by simp [hy])
    simp only [natOf, List.length_cons, Nat.pow_succ]
    generalize 18446744073709551616 ^ r.length = p at *
    omega
theorem nth_natOf (l : List Nat) (h : Words l) (j : Nat) : nth l j = natOf l / 18446744073709551616 ^ j % 18446744073709551616 := by
  induction l generalizing j with
  | nil => simp [nth, natOf]
  | cons x r ih =>
    have hx : x < 18446744073709551616 := h x (by simp)
    have hr := ih fun y hy => h y (by simp [hy])
    cases j with
    | zero => simp [nth, natOf]; omega
    | succ j =>
      have := hr j
      simp only [natOf, Nat.pow_succ]
      rw [Nat.mul_comm (18446744073709551616 ^ j), ← Nat.div_div_eq_div_mul, show (x + 18446744073709551616 * natOf r) / 18446744073709551616 = natOf r by omega, ← this]
      simp [nth]
theorem length_words (k n : Nat) : (words k n).length = k := by
  induction k generalizing n with
  | zero => rfl
  | succ k ih => simp [words, ih]
theorem words_words (k n : Nat) : Words (words k n) := by
  induction k generalizing n with
  | zero => intro x hx; simp [words] at hx
  | succ k ih =>
    intro x hx
    simp only [words, List.mem_cons] at hx
    rcases hx with rfl | hx
    · exact Nat.mod_lt _ (by omega)
    · exact ih _ x hx
theorem natOf_words (k n : Nat) : natOf (words k n) = n % 18446744073709551616 ^ k := by
  induction k generalizing n with
  | zero => simp [words, natOf, Nat.mod_one]
  | succ k ih => rw [words, natOf, ih, Nat.pow_succ, Nat.mul_comm (18446744073709551616 ^ k), Nat.mod_mul]
theorem nth_words (k n j : Nat) (h : j < k) : nth (words k n) j = n / 18446744073709551616 ^ j % 18446744073709551616 := by
  induction k generalizing n j with
  | zero => omega
  | succ k ih =>
    cases j with
    | zero => simp [words, nth]
    | succ j =>
      have := ih (n / 18446744073709551616) j (by omega)
      rw [Nat.pow_succ, Nat.mul_comm, ← Nat.div_div_eq_div_mul, ← this]
      simp [words, nth]
theorem ext_nth (l m : List Nat) (h : l.length = m.length) (h' : ∀ j, j < l.length → nth l j = nth m j) : l = m := by
  refine List.ext_getElem h fun j h1 h2 => ?_
  have := h' j h1
  rwa [nth_eq l j h1, nth_eq m j h2] at this
/-- Words that may be are those of their number. -/
theorem words_natOf (l : List Nat) (h : Words l) : words l.length (natOf l) = l :=
  ext_nth _ _ (length_words _ _) fun j hj => by
    rw [length_words] at hj
    rw [nth_words _ _ _ hj, nth_natOf l h]
theorem natOf_none (l : List Nat) (h : ∀ j, nth l j = 0) : natOf l = 0 := by
  induction l with
  | nil => rfl
  | cons x r ih =>
    have h0 : x = 0 := h 0
    have := ih fun j => h (j + 1)
    simp [natOf, h0, this]
theorem natOf_append (l m : List Nat) : natOf (l ++ m) = natOf l + 18446744073709551616 ^ l.length * natOf m := by
  induction l with
  | nil => simp [natOf]
  | cons x r ih =>
    simp only [List.cons_append, natOf, ih, List.length_cons, Nat.pow_succ, Nat.mul_add]
    rw [Nat.mul_right_comm, Nat.mul_comm 18446744073709551616 (18446744073709551616 ^ r.length * natOf m), Nat.add_assoc]
theorem nth_drop (l : List Nat) (k j : Nat) : nth (l.drop k) j = nth l (k + j) := by simp [nth, List.getElem?_drop]
theorem natOf_top (l : List Nat) (m : Nat) (hm : m < l.length) (hz : ∀ j, m + 1 ≤ j → nth l j = 0) :
    natOf l = natOf (l.take m) + 18446744073709551616 ^ m * nth l m := by
  have h1 : l = l.take m ++ (nth l m :: l.drop (m + 1)) := by
    rw [nth_eq l m hm, List.getElem_cons_drop, List.take_append_drop]
  have h2 : natOf (l.drop (m + 1)) = 0 := natOf_none _ fun j => by rw [nth_drop]; exact hz _ (by omega)
  have h3 : (l.take m).length = m := by simp; omega
  conv => lhs; rw [h1]
  rw [natOf_append, natOf, h2, h3]
  simp
theorem Words.take {l : List Nat} (h : Words l) (k : Nat) : Words (l.take k) := fun x hx => h x (List.mem_of_mem_take hx)
theorem Bytes.drop {l : List Nat} (h : Bytes l) (k : Nat) : Bytes (l.drop k) := fun x hx => h x (List.mem_of_mem_drop hx)
theorem Bytes.take {l : List Nat} (h : Bytes l) (k : Nat) : Bytes (l.take k) := fun x hx => h x (List.mem_of_mem_take hx)
theorem bitLen_le64 (x : Nat) (h : x < 18446744073709551616) : Lib.bitLen x ≤ 64 := Lib.bitLen_le x 64 (by omega) h
theorem words_none (k : Nat) : words k 0 = List.replicate k 0 := by
  induction k with
  | zero => rfl
  | succ k ih => simp [words, ih, List.replicate_succ]
theorem nth_set (l : List Nat) (j y q : Nat) (h : j < l.length) : nth (l.set j y) q = if q = j then y else nth l q := by
  unfold nth
  by_cases e : q = j
  · subst e; simp [h]
  · rw [if_neg e, List.getD_eq_getElem?_getD, List.getD_eq_getElem?_getD, List.getElem?_set_ne (fun h => e h.symm)]
theorem mem_set {l : List Nat} {j y x : Nat} (h : x ∈ l.set j y) : x = y ∨ x ∈ l := by
  rcases List.mem_or_eq_of_mem_set h with h | h
  · exact .inr h
  · exact .inl h
theorem ints_set (k : IntKind) (l : List Nat) (j y : Nat) : (ints k l).set j (.int k (y : Int)) = ints k (l.set j y) := by simp [ints, List.map_set]
theorem natOf_ext (a b : List Nat) (h : ∀ j, nth a j = nth b j) : natOf a = natOf b := by
  induction a generalizing b with
  | nil => rw [natOf_none b fun j => (h j).symm]; rfl
  | cons x r ih =>
    cases b with
    | nil => rw [natOf_none (x :: r) h]; rfl
    | cons y s =>
      have h0 : x = y := h 0
      have := ih s fun j => h (j + 1)
      simp [natOf, h0, this]
theorem natOf_parts (l : List Nat) (k : Nat) : natOf l = natOf (l.take k) + 18446744073709551616 ^ k * natOf (l.drop k) := by
  rcases Nat.lt_or_ge l.length k with h | h
  · rw [List.take_of_length_le (by omega), List.drop_eq_nil_of_le (by omega)]
    simp [natOf]
  · have := natOf_append (l.take k) (l.drop k)
    rwa [List.take_append_drop, List.length_take, Nat.min_eq_left h] at this
theorem natOf_take_lt (l : List Nat) (h : Words l) (k : Nat) : natOf (l.take k) < 18446744073709551616 ^ k :=
  Nat.lt_of_lt_of_le (natOf_lt _ (h.take k)) (Nat.pow_le_pow_right (by omega) (by simp; omega))
theorem natOf_take_succ (l : List Nat) (k : Nat) : natOf (l.take (k + 1)) = natOf (l.take k) + 18446744073709551616 ^ k * nth l k := by
  rcases Nat.lt_or_ge k l.length with h | h
  · rw [List.take_succ_eq_append_getElem h, natOf_append, ← nth_eq l k h, List.length_take, Nat.min_eq_left (by omega)]
    simp [natOf]
  · rw [List.take_of_length_le (by omega), List.take_of_length_le (by omega), show nth l k = 0 by simp [nth, h]]
    simp
/-- The highest word that differs decides. -/
theorem natOf_less (a b : List Nat) (ha : Words a) (m : Nat) (h : ∀ j, m + 1 ≤ j → nth a j = nth b j) (hlt : nth a m < nth b m) : natOf a < natOf b := by
  have e : natOf (a.drop (m + 1)) = natOf (b.drop (m + 1)) := natOf_ext _ _ fun j => by rw [nth_drop, nth_drop]; exact h _ (by omega)
  have h1 := natOf_take_lt a ha m
  rw [natOf_parts a (m + 1), natOf_parts b (m + 1), e, natOf_take_succ, natOf_take_succ]
  have h2 : 18446744073709551616 ^ m * (nth a m + 1) ≤ 18446744073709551616 ^ m * nth b m := Nat.mul_le_mul_left _ hlt
  rw [Nat.mul_add, Nat.mul_one] at h2
  omega
end Go.Proofs.Ytgmolbiicclcaaa
/- Plain facts on numbers to the base 2, the lowest digit first: how many digits, digits of sums and shifts. No condition but those typed; no program is named. -/
namespace Go.Proofs.Ytgmolbiicclcaaa
/-- The number of digits to the base 2, the lowest first. -/
def bv : List Nat → Nat
  | [] => 0
  | b :: r => b + 2 * bv r
/-- The lowest k digits of a number. -/
def bw : Nat → Nat → List Nat
  | 0, _ => []
  | k + 1, n => n % 2 :: bw k (n / 2)
/-- How many digits a number needs. -/
def nbits (n : Nat) : Nat := if n = 0 then 0 else n.log2 + 1
/-- A number's digits. -/
def dg (n : Nat) : List Nat := bw (nbits n) n
/-- A number's words. -/
def wd (n : Nat) : List Nat := words ((nbits n + 63) / 64) n
/-- Digit i of a number. -/
def bit (n i : Nat) : Nat := n / 2 ^ i % 2
theorem length_wd (n : Nat) : (wd n).length = (nbits n + 63) / 64 := length_words _ _
theorem nbits_lt (n : Nat) : n < 2 ^ nbits n := by
  unfold nbits
  by_cases h : n = 0
  · simp [h]
  · rw [if_neg h]
    exact (Nat.log2_lt h).1 (by omega)
theorem nbits_le (n : Nat) (h : n ≠ 0) : 2 ^ (nbits n - 1) ≤ n := by
  unfold nbits
  rw [if_neg h]
  exact (Nat.le_log2 h).1 (by omega)
theorem nbits_zero : nbits 0 = 0 := by simp [nbits]
theorem nbits_eq (n k : Nat) (h : n < 2 ^ k) (h' : k ≠ 0 → 2 ^ (k - 1) ≤ n) : nbits n = k := by
  by_cases hn : n = 0
  · by_cases hk : k = 0
    · simp [nbits, hn, hk]
    · have := h' hk
      have hp : 0 < 2 ^ (k - 1) := Nat.pow_pos (by omega)
      omega
  · have h1 := nbits_lt n
    have h2 := nbits_le n hn
    rcases Nat.lt_trichotomy (nbits n) k with hlt | he | hgt
    · have h3 := h' (by omega)
      have h4 : 2 ^ nbits n ≤ 2 ^ (k - 1) := Nat.pow_le_pow_right (by omega) (by omega)
      omega
    · exact he
    · have h4 : 2 ^ k ≤ 2 ^ (nbits n - 1) := Nat.pow_le_pow_right (by omega) (by omega)
      omega
theorem nbits_of_lt (n k : Nat) (h : n < 2 ^ k) : nbits n ≤ k := by
  rcases Nat.lt_or_ge k (nbits n) with h1 | h1
  · have hn : n ≠ 0 := fun e => by rw [e, nbits_zero] at h1; omega
    have h2 := nbits_le n hn
    have h4 : 2 ^ k ≤ 2 ^ (nbits n - 1) := Nat.pow_le_pow_right (by omega) (by omega)
    omega
  · exact h1
theorem nbits_mono {a b : Nat} (h : a ≤ b) : nbits a ≤ nbits b := nbits_of_lt a _ (Nat.lt_of_le_of_lt h (nbits_lt b))
theorem bit_lt (n i : Nat) : bit n i < 2 := Nat.mod_lt _ (by omega)
theorem pow_64_2 (k : Nat) : (18446744073709551616 : Nat) ^ k = 2 ^ (64 * k) := by rw [Nat.pow_mul]
theorem natOf_lt2 (a : List Nat) (h : Words a) : natOf a < 2 ^ (64 * a.length) := by rw [← pow_64_2]; exact natOf_lt a h
theorem nbits_natOf (a : List Nat) (h : Words a) : nbits (natOf a) ≤ 64 * a.length := nbits_of_lt _ _ (natOf_lt2 a h)
theorem natOf_wd (n : Nat) : natOf (wd n) = n := by
  rw [wd, natOf_words, Nat.mod_eq_of_lt]
  rw [pow_64_2]
  exact Nat.lt_of_lt_of_le (nbits_lt n) (Nat.pow_le_pow_right (by omega) (by omega))
theorem wd_words (n : Nat) : Words (wd n) := words_words _ _
theorem wd_inj (a b : Nat) : wd a = wd b ↔ a = b := ⟨fun h => by rw [← natOf_wd a, h, natOf_wd], fun h => by rw [h]⟩
end Go.Proofs.Ytgmolbiicclcaaa
/- The contracts of the document's numbers to the base 2: trim, Digits. Conditions: as typed (lengths that fit a machine). -/
namespace Go.Proofs.Ytgmolbiicclcaaa
open Go.RowKit
set_option maxRecDepth 20000
theorem num_info_u64 : (Try.prog.info? 24).map (fun i => (i.zero, i.size, i.bytes)) = some (some (.int .u64 0), 1, 8) := by kernel_rfl
/-- The digits of a number are answered. -/
def OutNum (N : Nat) (w : World) (e : Ending) (w' : World) : Prop := ∃ X d, e = .returned (.slice X (nbits N) d) ∧ nbits N ≤ d ∧ Rd .u8 w' w'.heap.size X (dg N) ∧ Below w.heap.size w w'
end Go.Proofs.Ytgmolbiicclcaaa

/- Several texts in one; each begins with a remark that says what it shows and on which conditions. -/
import Derived.WalkKit
import Derived.Laws.AppendOwnNone
import Derived.Laws.CopyOwn
import Derived.Lib.Hide
import Derived.Deep.Draws
import Derived.Lib.BitFns
import Derived.Lib.ItoaNum
import Derived.Test.YtjpfcdgaepdcdaaGreatProg
import Derived.BigQuiet
import Derived.Deep.QuietTactic
import Derived.Outline
import Derived.BigRegion
import Derived.RegionTactic
import Derived.Deep.LoopGhost
import Derived.WalkLawsBesides
/- Words for memory and numbers, over any program: a slice that reads as a list of numbers (nil and empty let in), and what appending such a slice does. No condition but those typed. -/
namespace Go.Proofs.YtjpfcdgaepdcdaaGreat
open Go.RowKit
/-- Number j of a list, 0 behind its end. -/
def nth (l : List Nat) (j : Nat) : Nat := l.getD j 0
/-- Numbers as cells of an integer kind. -/
def ints (k : IntKind) (l : List Nat) : List Value := l.map fun n : Nat => .int k (n : Int)
theorem nth_eq (l : List Nat) (j : Nat) (h : j < l.length) : nth l j = l[j] := by simp [nth, h]
theorem nth_mem (l : List Nat) (j : Nat) (h : j < l.length) : nth l j ∈ l := by rw [nth_eq l j h]; exact List.getElem_mem h
theorem length_ints (k : IntKind) (l : List Nat) : (ints k l).length = l.length := by simp [ints]
theorem ints_append (k : IntKind) (l m : List Nat) : ints k (l ++ m) = ints k l ++ ints k m := by simp [ints]
theorem ints_get (k : IntKind) (l : List Nat) (j : Nat) (h : j < l.length) : (ints k l)[j]? = some (.int k (nth l j : Int)) := by
  simp [ints, nth, h]
theorem ints_one (k : IntKind) (l : List Nat) : ∀ u ∈ ints k l, u.oneCell' = true := by
  intro u hu
  obtain ⟨_, _, rfl⟩ := List.mem_map.1 hu
  rfl
/-- Two endings with one number. -/
theorem ret_num {k : IntKind} {a b : Int} (h : a = b) : Ending.returned (.int k a) = .returned (.int k b) := by rw [h]
/-- The slice at A reads as the numbers l, in blocks below B. -/
def Rd (k : IntKind) (w : World) (B : Nat) (A : Option Addr) (l : List Nat) : Prop :=
  0 < l.length → ∃ b off, A = some ⟨b, off, none⟩ ∧ b < B ∧ ∀ j, j < l.length → w.cell? ⟨b, off + j, none⟩ = some (.int k (nth l j : Int))
section
variable {k : IntKind} {w w' : World} {B B' : Nat} {A : Option Addr} {l : List Nat}
theorem Rd.nil : Rd k w B A [] := fun h => absurd h (by simp)
theorem Rd.keep (h : Rd k w B A l) (hk : ∀ b o, b < B → w'.cell? ⟨b, o, none⟩ = w.cell? ⟨b, o, none⟩) : Rd k w' B A l := fun hl => by
  obtain ⟨b, off, e, hb, hc⟩ := h hl
  exact ⟨b, off, e, hb, fun j hj => (hk b (off + j) hb).trans (hc j hj)⟩
theorem Rd.below (h : Rd k w B A l) (hb : Below B w w') : Rd k w' B A l := h.keep fun b o hlt => hb.cell (p := ⟨b, o, none⟩) hlt
theorem Rd.more (h : Rd k w B A l) (hB : B ≤ B') : Rd k w B' A l := fun hl => by
  obtain ⟨b, off, e, hb, hc⟩ := h hl
  exact ⟨b, off, e, by omega, hc⟩
theorem Rd.grown {row : Option Nat} (h : Rd k w B A l) (hg : w.grownBy w' row) (hB : B ≤ w.heap.size) (hr : ∀ g, row = some g → B ≤ g) : Rd k w' B A l :=
  h.below ((Below.refl B w).grown hg hB hr)
/-- A row of the call's own reads as what it owns. -/
theorem Rd.own {base : Nat} {e : TypeId} {n c : Nat} (h : w.ownsRow base e 1 (.slice A n c) n (ints k l)) : Rd k w w.heap.size A l := fun hl => by
  have hn : l.length = n := by have := h.1; rw [length_ints] at this; omega
  rcases h.2 with ⟨_, h0⟩ | ⟨g, cap, cur, hv, _, hh, _⟩
  · omega
  · injection hv with hA hn' hc
    subst hA
    subst hc
    have hlt : g < w.heap.size := by
      rcases Nat.lt_or_ge g w.heap.size with h1 | h1
      · exact h1
      · rw [Array.getElem?_eq_none h1] at hh; cases hh
    refine ⟨g, 0, rfl, hlt, fun j hj => ?_⟩
    rw [Nat.zero_add, h.cellAt j (by omega), ints_get k l j hj]
/-- The value of a row of the call's own, written out. -/
theorem own_form {base : Nat} {e : TypeId} {n : Nat} {v : Value} {xs : List Value} (h : w.ownsRow base e 1 v n xs) : ∃ A c, v = .slice A n c ∧ n ≤ c ∧ c ≤ maxLen := by
  rcases h.2 with ⟨rfl, rfl⟩ | ⟨g, cap, cur, rfl, _, _, hn, hm, _⟩
  · exact ⟨none, 0, rfl, Nat.le_refl _, Nat.zero_le _⟩
  · exact ⟨_, cap, rfl, hn, hm⟩
/-- The cells behind an address, for the laws on append and copy. -/
theorem Rd.src (h : Rd k w B A l) : 0 < (ints k l).length → ∃ ad, A = some ad ∧ ∀ j v, (ints k l)[j]? = some v → w.cell? (ad.add j) = some v := fun hl => by
  rw [length_ints] at hl
  obtain ⟨b, off, rfl, _, hc⟩ := h hl
  refine ⟨_, rfl, fun j v hv => ?_⟩
  have hj : j < l.length := by have := (List.getElem?_eq_some_iff.1 hv).1; rwa [length_ints] at this
  rw [ints_get k l j hj] at hv
  rw [Addr.add_lit, hc j hj, hv]
/-- A block that is known whole is owned. -/
theorem own_of_heap {base e g n cap : Nat} {cur xs : List Value} (hh : w.heap[g]? = some (.cells cur.toArray e (0, 0))) (hb : base ≤ g) (hn : n ≤ cap) (hm : cap ≤ maxLen) (hc : cur.length = cap) (hx : cur.take n = xs) :
    w.ownsRow base e 1 (.slice (some ⟨g, 0, none⟩) n cap) n xs :=
  ⟨by subst hx; simp; omega, .inr ⟨g, cap, cur.toArray, rfl, hb, hh, hn, hm, by simpa using hc, by simpa using hx⟩⟩
/-- A store turns its own block alone. -/
theorem grown_setCell (w : World) (p : Addr) (u : Value) : w.grownBy (w.setCell p u) (some p.block) :=
  ⟨rfl, rfl, rfl, by simp [World.setCell], fun i _ hne => Below.heap_setCell _ _ _ _ (fun e => hne (by rw [e]))⟩
/-- s[k:] -/
theorem Rd.drop (h : Rd k w B A l) {i cap : Nat} (hc : l.length ≤ cap) : Rd k w B (if cap = i then A else A.map (·.add i)) (l.drop i) := fun hl => by
  have hlt : i < l.length := by rw [List.length_drop] at hl; omega
  obtain ⟨b, off, rfl, hb, hcell⟩ := h (by omega)
  refine ⟨b, off + i, ?_, hb, fun j hj => ?_⟩
  · rw [if_neg (by omega)]
    by_cases h0 : i = 0 <;> simp [Addr.add, h0]
  · have := hcell (i + j) (by simp at hj; omega)
    rw [Nat.add_assoc, this]
    simp [nth, List.getElem?_drop]
/-- s[:k] -/
theorem Rd.take (h : Rd k w B A l) (i : Nat) : Rd k w B A (l.take i) := fun hl => by
  have hlt : 0 < l.length := by simp at hl; omega
  obtain ⟨b, off, rfl, hb, hcell⟩ := h hlt
  refine ⟨b, off, rfl, hb, fun j hj => ?_⟩
  have hj' : j < i ∧ j < l.length := by simp at hj; omega
  rw [hcell j hj'.2]
  simp [nth, hj'.1]
end
section
variable {P : Program} (w : World)
theorem run_append_nothing (base : Nat) (t ty e : TypeId) (i : TypeInfo) (ht : P.underlying t = some (.slice e)) (hi : P.info? e = some i)
    (v : Value) (n : Nat) (xs : List Value) (hown : w.ownsRow base e 1 v n xs) (c : Nat) : (Builtin.append_ #[t, t] ty #[v, .slice none 0 c]).run P w = .ok v w := by
  rcases hown.2 with ⟨rfl, rfl⟩ | ⟨g, cap, cur, rfl, _, _, hnc, _⟩
  · simp [Builtin.append_, run_underlying ht, sizeOf, typeInfo, hi, Builtin.lenOf, Builtin.firstCells]
  · simp [Builtin.append_, run_underlying ht, sizeOf, typeInfo, hi, Builtin.lenOf, Builtin.firstCells, hnc, storeCells]
/-- 'out = append(out, src...)', out a row of the call's own, src any slice that reads as numbers. -/
theorem wpList_append_rd {ops : Array Oper} {rest : List Oper} {o : Oper} {a : Act} {Q : Exit → Act → World → Prop} (hgd : o.guard = none) (s x : Operand) (t : TypeId)
    (ho : o.op = .call { callee := .builtin .append, args := #[s, x], argTypes := #[t, t] })
    (base : Nat) (e : TypeId) (i : TypeInfo) (z : Value) (bytes : Nat) (ht : P.underlying t = some (.slice e)) (hi : P.info? e = some i) (hz : i.zero = some z)
    (hsize : i.size = 1) (hby : i.bytes = bytes) (hzs : z.cells.size = 1)
    (v : Value) (n : Nat) (xs : List Value) (hs : a.eval s = v) (hown : w.ownsRow base e 1 v n xs)
    (k : IntKind) (B : Nat) (A : Option Addr) (m c : Nat) (l : List Nat) (hx : a.eval x = .slice A m c) (hm : l.length = m) (hr : Rd k w B A l)
    (h63 : n + m ≤ maxLen) (hbytes : (n + m) * bytes ≤ 140737488355328) (hbase : base ≤ w.heap.size)
    (h : ∀ v' w', w'.ownsRow base e 1 v' (n + m) (xs ++ ints k l) → w.grownBy w' v.ownBlock → wpList P ops Q rest (a.put o.dst v') w') : wpList P ops Q (o :: rest) a w := by
  rcases A with _ | ad
  · have h0 : l = [] := by
      rcases Nat.eq_zero_or_pos l.length with h0 | h0
      · exact List.eq_nil_of_length_eq_zero h0
      · obtain ⟨_, _, he, _⟩ := hr h0
        cases he
    subst h0
    obtain rfl : m = 0 := by simpa using hm.symm
    refine wpList_plain hgd fun K hK => ?_
    have hrun := run_append_nothing (P := P) w base t o.type e i ht hi v n xs hown c
    unfold Oper.wp
    simp [execOp, ho, resolve, invoke, builtin, hs, hx, hrun, Result.andThen]
    exact hK _ _ (h v w (by simpa [ints] using hown) (World.grownBy.refl w _))
  · have hcells : ∀ j u, (ints k l)[j]? = some u → w.cell? (ad.add j) = some u := by
      intro j u hu
      have hj : j < l.length := by have := (List.getElem?_eq_some_iff.1 hu).1; rwa [length_ints] at this
      obtain ⟨b, off, he, _, hc⟩ := hr (by omega)
      injection he with he
      subst he
      rw [ints_get k l j hj] at hu
      rw [Addr.add_lit, hc j hj, hu]
    exact wpList_append_own w hgd s x t ho base e i z 1 bytes ht hi hz hsize hby hzs (by omega) v n xs hs hown ad m c (ints k l) hx (by rw [length_ints]; omega) hcells (ints_one k l) h63 hbytes hbase
      fun v' w' h1 h2 _ => h v' w' h1 h2
theorem below_of_grown {base : Nat} {e : TypeId} {v : Value} {n : Nat} {xs : List Value} {w' : World} (hown : w.ownsRow base e 1 v n xs) (hg : w.grownBy w' v.ownBlock) (hbase : base ≤ w.heap.size) : Below base w w' :=
  (Below.refl _ _).grown hg hbase fun g hg' => (hown.lt g hg').1
/-- 'out = append(out, x)', out a row of the call's own: x stands in a new block first. -/
theorem wpList_append_one {ops : Array Oper} {rest : List Oper} {o : Oper} {a : Act} {Q : Exit → Act → World → Prop} (hgd : o.guard = none) (s x : Operand) (t : TypeId)
    (ho : o.op = .call { callee := .builtin .append, args := #[s, x], argTypes := #[t, t] })
    (base : Nat) (e : TypeId) (i : TypeInfo) (z : Value) (bytes : Nat) (ht : P.underlying t = some (.slice e)) (hi : P.info? e = some i) (hz : i.zero = some z)
    (hsize : i.size = 1) (hby : i.bytes = bytes) (hzs : z.cells.size = 1)
    (v : Value) (n : Nat) (k : IntKind) (ys : List Nat) (hs : a.eval s = v) (hown : w.ownsRow base e 1 v n (ints k ys)) (X : Int) (y : Nat) (hX : X = (y : Int))
    (hx : a.eval x = .slice (some ⟨w.heap.size, 0, none⟩) 1 1)
    (h63 : n + 1 ≤ maxLen) (hbytes : (n + 1) * bytes ≤ 140737488355328) (hbase : base ≤ w.heap.size)
    (h : ∀ v' w', w'.ownsRow base e 1 v' (n + 1) (ints k (ys ++ [y])) → w.grownBy w' v.ownBlock → Below base w w' → wpList P ops Q rest (a.put o.dst v') w') : wpList P ops Q (o :: rest) a (w.alloc (.cells #[.int k X] e)) := by
  subst hX
  have hown2 := hown.alloc (.cells #[.int k (y : Int)] e)
  refine wpList_append_rd _ hgd s x t ho base e i z bytes ht hi hz hsize hby hzs v n (ints k ys) hs hown2 k (w.heap.size + 1) (some ⟨w.heap.size, 0, none⟩) 1 1 [y] hx rfl (fun _ => ⟨_, _, rfl, Nat.lt_succ_self _, fun j hj => ?_⟩) h63 hbytes (by simp; omega) fun v' w' h1 h2 => ?_
  · obtain rfl : j = 0 := by simpa using hj
    simp [nth]
  · have hg : w.grownBy w' v.ownBlock := ⟨h2.os, h2.tape, h2.output, Nat.le_trans (by simp) h2.size, fun q hq hne => (h2.block q (by simp; omega) hne).trans (Below.heap_alloc _ _ _ hq)⟩
    exact h v' w' (by rw [ints_append]; exact h1) hg (below_of_grown w hown hg hbase)
end
/-- What is owned from a block on is owned from an earlier one on. -/
theorem own_base {w : World} {b b' : Nat} {e : TypeId} {v : Value} {n : Nat} {xs : List Value} (h : w.ownsRow b e 1 v n xs) (hb : b' ≤ b) : w.ownsRow b' e 1 v n xs := by
  refine ⟨h.1, ?_⟩
  rcases h.2 with h2 | ⟨g, cap, cur, e1, e2, e3⟩
  · exact .inl h2
  · exact .inr ⟨g, cap, cur, e1, Nat.le_trans hb e2, e3⟩
/-- What is owned is owned behind a call that leaves alone what lay. -/
theorem own_step {w w' : World} {base : Nat} {e : TypeId} {v : Value} {n : Nat} {xs : List Value} (h : w.ownsRow base e 1 v n xs) (b : Below w.heap.size w w') : w'.ownsRow base e 1 v n xs := by
  refine h.kept (row := none) ⟨b.os, b.tape, b.output, b.size, fun i hi _ => b.block i hi⟩ ?_
  rcases hv : v.ownBlock with _ | x
  · exact .inl rfl
  · exact .inr (by simp)
/-- Nothing has turned but the count of draws. -/
def Drawn (w w' : World) : Prop := ∃ n, w' = w.drewN n
theorem Drawn.refl (w : World) : Drawn w w := ⟨0, rfl⟩
theorem Drawn.more {w : World} (n : Nat) : Drawn w (w.drewN n) := ⟨n, rfl⟩
theorem Drawn.draws {w w' : World} (h : Drawn w w') (n : Nat) : Drawn w (w'.drewN n) := by
  obtain ⟨m, rfl⟩ := h
  exact ⟨m + n, by rw [World.drewN_drewN]⟩
theorem Drawn.trans {a b c : World} (h : Drawn a b) (k : Drawn b c) : Drawn a c := by
  obtain ⟨n, rfl⟩ := k
  exact h.draws n
theorem Drawn.below {w w' : World} (h : Drawn w w') (B : Nat) : Below B w w' := by
  obtain ⟨n, rfl⟩ := h
  exact ⟨rfl, rfl, rfl, Nat.le_refl _, fun _ _ => rfl⟩
theorem Drawn.rd {w w' : World} (h : Drawn w w') {k : IntKind} {B : Nat} {A : Option Addr} {l : List Nat} (hr : Rd k w B A l) : Rd k w' B A l := hr.below (h.below B)
theorem Drawn.own {w w' : World} (h : Drawn w w') {base : Nat} {e : TypeId} {n : Nat} {v : Value} {xs : List Value} (ho : w.ownsRow base e 1 v n xs) : w'.ownsRow base e 1 v n xs := by
  obtain ⟨m, rfl⟩ := h
  exact ho
theorem Drawn.size {w w' : World} (h : Drawn w w') : w'.heap.size = w.heap.size := by
  obtain ⟨m, rfl⟩ := h
  rfl
/-- Bytes as a string. -/
def str (l : List Nat) : ByteArray := ⟨(l.map UInt8.ofNat).toArray⟩
theorem push_str (l : List Nat) (acc : ByteArray) : (l.map fun n : Nat => (n : Int)).foldl (fun r n => r.push (UInt8.ofNat n.toNat)) acc = ⟨acc.data ++ (l.map UInt8.ofNat).toArray⟩ := by
  induction l generalizing acc with
  | nil => simp
  | cons x r ih =>
    rw [List.map_cons, List.foldl_cons, ih]
    simp [ByteArray.push]
/-- string(b) -/
theorem run_str {P : Program} (w : World) (src dst e : TypeId) (hs : P.underlying src = some (.slice e)) (he : P.underlying e = some (.int .u8)) (hd : P.underlying dst = some .string)
    (B : Nat) (A : Option Addr) (l : List Nat) (c : Nat) (hr : Rd .u8 w B A l) : (convert src dst (.slice A l.length c)).run P w = .ok (.string (str l)) w := by
  rw [run_convert_bytes_string w src dst e A l.length c hs he hd]
  rcases A with _ | ad
  · have h0 : l = [] := by
      rcases Nat.eq_zero_or_pos l.length with h0 | h0
      · exact List.eq_nil_of_length_eq_zero h0
      · obtain ⟨_, _, he, _⟩ := hr h0
        cases he
    subst h0
    rfl
  · have hl : (loadCells ad l.length).run P w = .ok ((l.map fun n : Nat => (n : Int)).map (Value.int .u8)).toArray w := by
      have e : (l.map fun n : Nat => (n : Int)).map (Value.int .u8) = ints .u8 l := by simp [ints]
      rw [e]
      have := run_loadCells_list (P := P) (w := w) ad (ints .u8 l) (fun j v hv => by
        have hj : j < l.length := by have := (List.getElem?_eq_some_iff.1 hv).1; rwa [length_ints] at this
        obtain ⟨ad', h1, h2⟩ := hr.src (by rw [length_ints]; omega)
        injection h1 with h1
        subst h1
        exact h2 j v hv)
      rw [length_ints] at this
      exact this
    rw [run_bytesToString w ad l.length c _ hl, push_str, show ByteArray.empty.data = #[] from rfl, Array.empty_append]
    rfl
/-- A slice that is written out. -/
theorem Rd.lit (w : World) (k : IntKind) (e : TypeId) (l : List Nat) : Rd k (w.alloc (.cells (ints k l).toArray e)) (w.heap.size + 1) (some ⟨w.heap.size, 0, none⟩) l := fun _ =>
  ⟨_, _, rfl, Nat.lt_succ_self _, fun j hj => by
    have h := cell_of_row _ w.heap.size (0 + j) _ e (0, 0) (heap_alloc_new w (.cells (ints k l).toArray e))
    rw [h, Nat.zero_add]
    simpa using ints_get k l j hj⟩
end Go.Proofs.YtjpfcdgaepdcdaaGreat
/- Plain facts on numbers to the bases 256 and 2^64: digits, how many bytes a number needs, words. No condition but those typed; no program is named. -/
namespace Go.Proofs.YtjpfcdgaepdcdaaGreat
/-- The number of words of 64 bits, the lowest first. -/
def natOf : List Nat → Nat
  | [] => 0
  | a :: r => a + 18446744073709551616 * natOf r
/-- Digit i to the base 256. -/
def dig (n i : Nat) : Nat := n / 256 ^ i % 256
/-- The lowest k digits to the base 256, the highest first. -/
def be : Nat → Nat → List Nat
  | 0, _ => []
  | k + 1, n => dig n k :: be k n
/-- The number whose digits to the base 256 these are, the highest first. -/
def val : List Nat → Nat
  | [] => 0
  | x :: r => x * 256 ^ r.length + val r
/-- How many bytes a number needs. -/
def blen (n : Nat) : Nat := if n = 0 then 0 else n.log2 / 8 + 1
/-- The lowest k words of a number, the lowest first. -/
def words : Nat → Nat → List Nat
  | 0, _ => []
  | k + 1, n => n % 18446744073709551616 :: words k (n / 18446744073709551616)
def Bytes (l : List Nat) : Prop := ∀ x ∈ l, x < 256
def Words (l : List Nat) : Prop := ∀ x ∈ l, x < 18446744073709551616
theorem dig_lt (n i : Nat) : dig n i < 256 := Nat.mod_lt _ (by omega)
theorem length_be (k n : Nat) : (be k n).length = k := by induction k with
  | zero => rfl
  | succ k ih => simp [be, ih]
theorem be_bytes (k n : Nat) : Bytes (be k n) := by
  induction k with
  | zero => intro x hx; simp [be] at hx
  | succ k ih =>
    intro x hx
    simp only [be, List.mem_cons] at hx
    rcases hx with rfl | hx
    · exact dig_lt n k
    · exact ih x hx
theorem val_be (k n : Nat) : val (be k n) = n % 256 ^ k := by
  induction k with
  | zero => simp [be, val, Nat.mod_one]
  | succ k ih => rw [be, val, length_be, ih, Nat.mod_pow_succ, dig, Nat.mul_comm]; omega
theorem pow_256 (k : Nat) : (256 : Nat) ^ k = 2 ^ (8 * k) := by rw [Nat.pow_mul]
theorem pow_64 (k : Nat) : (18446744073709551616 : Nat) ^ k = 256 ^ (8 * k) := by rw [Nat.pow_mul]
theorem blen_lt (n : Nat) : n < 256 ^ blen n := by
  unfold blen
  by_cases h : n = 0
  · simp [h]
  · rw [if_neg h, pow_256]
    exact (Nat.log2_lt h).1 (by omega)
theorem blen_le (n : Nat) (h : n ≠ 0) : 256 ^ (blen n - 1) ≤ n := by
  unfold blen
  rw [if_neg h, pow_256]
  exact (Nat.le_log2 h).1 (by omega)
theorem blen_zero : blen 0 = 0 := by simp [blen]
theorem natOf_lt (l : List Nat) (h : Words l) : natOf l < 18446744073709551616 ^ l.length := by
  induction l with
  | nil => simp [natOf]
  | cons x r ih =>
    have hx : x < 18446744073709551616 := h x (by simp)
    have hr := ih fun y hy => h y (by simp [hy])
    simp only [natOf, List.length_cons, Nat.pow_succ]
    generalize 18446744073709551616 ^ r.length = p at *
    omega
theorem nth_natOf (l : List Nat) (h : Words l) (j : Nat) : nth l j = natOf l / 18446744073709551616 ^ j % 18446744073709551616 := by
  induction l generalizing j with
  | nil => simp [nth, natOf]
  | cons x r ih =>
    have hx : x < 18446744073709551616 := h x (by simp)
    have hr := ih fun y hy => h y (by simp [hy])
    cases j with
    | zero => simp [nth, natOf]; omega
    | succ j =>
      have := hr j
      simp only [natOf, Nat.pow_succ]
      rw [Nat.mul_comm (18446744073709551616 ^ j), ← Nat.div_div_eq_div_mul, show (x + 18446744073709551616 * natOf r) / 18446744073709551616 = natOf r by omega, ← this]
      simp [nth]
theorem length_words (k n : Nat) : (words k n).length = k := by
  induction k generalizing n with
  | zero => rfl
  | succ k ih => simp [words, ih]
theorem words_words (k n : Nat) : Words (words k n) := by
  induction k generalizing n with
  | zero => intro x hx; simp [words] at hx
  | succ k ih =>
    intro x hx
    simp only [words, List.mem_cons] at hx
    rcases hx with rfl | hx
    · exact Nat.mod_lt _ (by omega)
    · exact ih _ x hx
theorem natOf_words (k n : Nat) : natOf (words k n) = n % 18446744073709551616 ^ k := by
  induction k generalizing n with
  | zero => simp [words, natOf, Nat.mod_one]
  | succ k ih => rw [words, natOf, ih, Nat.pow_succ, Nat.mul_comm (18446744073709551616 ^ k), Nat.mod_mul]
theorem nth_words (k n j : Nat) (h : j < k) : nth (words k n) j = n / 18446744073709551616 ^ j % 18446744073709551616 := by
  induction k generalizing n j with
  | zero => omega
  | succ k ih =>
    cases j with
    | zero => simp [words, nth]
    | succ j =>
      have := ih (n / 18446744073709551616) j (by omega)
      rw [Nat.pow_succ, Nat.mul_comm, ← Nat.div_div_eq_div_mul, ← this]
      simp [words, nth]
theorem ext_nth (l m : List Nat) (h : l.length = m.length) (h' : ∀ j, j < l.length → nth l j = nth m j) : l = m := by
  refine List.ext_getElem h fun j h1 h2 => ?_
  have := h' j h1
  rwa [nth_eq l j h1, nth_eq m j h2] at this
/-- Words that may be are those of their number. -/
theorem words_natOf (l : List Nat) (h : Words l) : words l.length (natOf l) = l :=
  ext_nth _ _ (length_words _ _) fun j hj => by
    rw [length_words] at hj
    rw [nth_words _ _ _ hj, nth_natOf l h]
/-- A byte of a word is a byte of the number. -/
theorem byte_of_word (n i : Nat) : n / 18446744073709551616 ^ (i / 8) % 18446744073709551616 / 256 ^ (i % 8) % 256 = dig n i := by
  have h8 : i % 8 < 8 := Nat.mod_lt _ (by omega)
  obtain ⟨d, hd⟩ : ∃ d, 8 = i % 8 + (1 + d) := ⟨7 - i % 8, by omega⟩
  have e : (18446744073709551616 : Nat) = 256 ^ (i % 8) * (256 * 256 ^ d) := by
    rw [show (18446744073709551616 : Nat) = 256 ^ 8 from rfl]
    conv => lhs; rw [hd, Nat.pow_add, Nat.pow_add, Nat.pow_one]
  have e2 : n / 18446744073709551616 ^ (i / 8) % 18446744073709551616 / 256 ^ (i % 8) = n / 18446744073709551616 ^ (i / 8) / 256 ^ (i % 8) % (256 * 256 ^ d) := by
    conv => lhs; arg 1; arg 2; rw [e]
    rw [Nat.mod_mul_right_div_self]
  rw [e2, Nat.mod_mul_right_mod, Nat.div_div_eq_div_mul, pow_64, ← Nat.pow_add, dig]
  congr 3
  omega
theorem natOf_none (l : List Nat) (h : ∀ j, nth l j = 0) : natOf l = 0 := by
  induction l with
  | nil => rfl
  | cons x r ih =>
    have h0 : x = 0 := h 0
    have := ih fun j => h (j + 1)
    simp [natOf, h0, this]
theorem natOf_append (l m : List Nat) : natOf (l ++ m) = natOf l + 18446744073709551616 ^ l.length * natOf m := by
  induction l with
  | nil => simp [natOf]
  | cons x r ih =>
    simp only [List.cons_append, natOf, ih, List.length_cons, Nat.pow_succ, Nat.mul_add]
    rw [Nat.mul_right_comm, Nat.mul_comm 18446744073709551616 (18446744073709551616 ^ r.length * natOf m), Nat.add_assoc]
theorem nth_drop (l : List Nat) (k j : Nat) : nth (l.drop k) j = nth l (k + j) := by simp [nth, List.getElem?_drop]
theorem natOf_top (l : List Nat) (m : Nat) (hm : m < l.length) (hz : ∀ j, m + 1 ≤ j → nth l j = 0) :
    natOf l = natOf (l.take m) + 18446744073709551616 ^ m * nth l m := by
  have h1 : l = l.take m ++ (nth l m :: l.drop (m + 1)) := by
    rw [nth_eq l m hm, List.getElem_cons_drop, List.take_append_drop]
  have h2 : natOf (l.drop (m + 1)) = 0 := natOf_none _ fun j => by rw [nth_drop]; exact hz _ (by omega)
  have h3 : (l.take m).length = m := by simp; omega
  conv => lhs; rw [h1]
  rw [natOf_append, natOf, h2, h3]
  simp
theorem Words.take {l : List Nat} (h : Words l) (k : Nat) : Words (l.take k) := fun x hx => h x (List.mem_of_mem_take hx)
theorem dig_int (n m : Nat) : (n : Int) / 2 ^ (8 * m) % 256 = (dig n m : Int) := by
  unfold dig
  rw [pow_256]
  simp
theorem Bytes.drop {l : List Nat} (h : Bytes l) (k : Nat) : Bytes (l.drop k) := fun x hx => h x (List.mem_of_mem_drop hx)
theorem Bytes.take {l : List Nat} (h : Bytes l) (k : Nat) : Bytes (l.take k) := fun x hx => h x (List.mem_of_mem_take hx)
theorem bitLen_le64 (x : Nat) (h : x < 18446744073709551616) : Lib.bitLen x ≤ 64 := Lib.bitLen_le x 64 (by omega) h
theorem word_byte (l : List Nat) (h : Words l) (i : Nat) : nth l (i / 8) / 256 ^ (i % 8) % 256 = dig (natOf l) i := by rw [nth_natOf l h, byte_of_word]
theorem word_byte_int (l : List Nat) (h : Words l) (i : Nat) : (nth l (i / 8) : Int) / 2 ^ (8 * (i % 8)) % 256 = (dig (natOf l) i : Int) := by
  rw [dig_int, dig, word_byte l h]
theorem blen_natOf (l : List Nat) (h : Words l) : blen (natOf l) ≤ 8 * l.length := by
  rcases Nat.lt_or_ge (8 * l.length) (blen (natOf l)) with h1 | h1
  · have h2 := natOf_lt l h
    rw [pow_64] at h2
    have hn : natOf l ≠ 0 := fun e => by rw [e, blen_zero] at h1; omega
    have h3 := blen_le (natOf l) hn
    have h4 : 256 ^ (8 * l.length) ≤ 256 ^ (blen (natOf l) - 1) := Nat.pow_le_pow_right (by omega) (by omega)
    omega
  · exact h1
theorem words_none (k : Nat) : words k 0 = List.replicate k 0 := by
  induction k with
  | zero => rfl
  | succ k ih => simp [words, ih, List.replicate_succ]
theorem nth_set (l : List Nat) (j y q : Nat) (h : j < l.length) : nth (l.set j y) q = if q = j then y else nth l q := by
  unfold nth
  by_cases e : q = j
  · subst e; simp [h]
  · rw [if_neg e, List.getD_eq_getElem?_getD, List.getD_eq_getElem?_getD, List.getElem?_set_ne (fun h => e h.symm)]
theorem natOf_set (l : List Nat) (j d : Nat) (h : j < l.length) : natOf (l.set j (nth l j + d)) = natOf l + 18446744073709551616 ^ j * d := by
  induction l generalizing j with
  | nil => simp at h
  | cons x r ih =>
    cases j with
    | zero => simp [natOf, nth]; omega
    | succ j =>
      have := ih j (by simpa using h)
      have e : nth (x :: r) (j + 1) = nth r j := by simp [nth]
      rw [e, List.set_cons_succ, natOf, this, natOf, Nat.pow_succ, Nat.mul_add, Nat.mul_comm (18446744073709551616 ^ j) 18446744073709551616, Nat.mul_assoc]
      omega
theorem mem_set {l : List Nat} {j y x : Nat} (h : x ∈ l.set j y) : x = y ∨ x ∈ l := by
  rcases List.mem_or_eq_of_mem_set h with h | h
  · exact .inr h
  · exact .inl h
theorem ints_set (k : IntKind) (l : List Nat) (j y : Nat) : (ints k l).set j (.int k (y : Int)) = ints k (l.set j y) := by simp [ints, List.map_set]
theorem natOf_ext (a b : List Nat) (h : ∀ j, nth a j = nth b j) : natOf a = natOf b := by
  induction a generalizing b with
  | nil => rw [natOf_none b fun j => (h j).symm]; rfl
  | cons x r ih =>
    cases b with
    | nil => rw [natOf_none (x :: r) h]; rfl
    | cons y s =>
      have h0 : x = y := h 0
      have := ih s fun j => h (j + 1)
      simp [natOf, h0, this]
theorem natOf_parts (l : List Nat) (k : Nat) : natOf l = natOf (l.take k) + 18446744073709551616 ^ k * natOf (l.drop k) := by
  rcases Nat.lt_or_ge l.length k with h | h
  · rw [List.take_of_length_le (by omega), List.drop_eq_nil_of_le (by omega)]
    simp [natOf]
  · have := natOf_append (l.take k) (l.drop k)
    rwa [List.take_append_drop, List.length_take, Nat.min_eq_left h] at this
theorem natOf_take_lt (l : List Nat) (h : Words l) (k : Nat) : natOf (l.take k) < 18446744073709551616 ^ k :=
  Nat.lt_of_lt_of_le (natOf_lt _ (h.take k)) (Nat.pow_le_pow_right (by omega) (by simp; omega))
theorem natOf_take_succ (l : List Nat) (k : Nat) : natOf (l.take (k + 1)) = natOf (l.take k) + 18446744073709551616 ^ k * nth l k := by
  rcases Nat.lt_or_ge k l.length with h | h
  · rw [List.take_succ_eq_append_getElem h, natOf_append, ← nth_eq l k h, List.length_take, Nat.min_eq_left (by omega)]
    simp [natOf]
  · rw [List.take_of_length_le (by omega), List.take_of_length_le (by omega), show nth l k = 0 by simp [nth, h]]
    simp
/-- The highest word that differs decides. -/
theorem natOf_less (a b : List Nat) (ha : Words a) (m : Nat) (h : ∀ j, m + 1 ≤ j → nth a j = nth b j) (hlt : nth a m < nth b m) : natOf a < natOf b := by
  have e : natOf (a.drop (m + 1)) = natOf (b.drop (m + 1)) := natOf_ext _ _ fun j => by rw [nth_drop, nth_drop]; exact h _ (by omega)
  have h1 := natOf_take_lt a ha m
  rw [natOf_parts a (m + 1), natOf_parts b (m + 1), e, natOf_take_succ, natOf_take_succ]
  have h2 : 18446744073709551616 ^ m * (nth a m + 1) ≤ 18446744073709551616 ^ m * nth b m := Nat.mul_le_mul_left _ hlt
  rw [Nat.mul_add, Nat.mul_one] at h2
  omega
end Go.Proofs.YtjpfcdgaepdcdaaGreat
/- Plain facts on numbers to the base 2, the lowest digit first: how many digits, digits of sums and shifts. No condition but those typed; no program is named. -/
namespace Go.Proofs.YtjpfcdgaepdcdaaGreat
/-- The number of digits to the base 2, the lowest first. -/
def bv : List Nat → Nat
  | [] => 0
  | b :: r => b + 2 * bv r
/-- The lowest k digits of a number. -/
def bw : Nat → Nat → List Nat
  | 0, _ => []
  | k + 1, n => n % 2 :: bw k (n / 2)
/-- How many digits a number needs. -/
def nbits (n : Nat) : Nat := if n = 0 then 0 else n.log2 + 1
/-- A number's digits. -/
def dg (n : Nat) : List Nat := bw (nbits n) n
/-- A number's words. -/
def wd (n : Nat) : List Nat := words ((nbits n + 63) / 64) n
/-- Digit i of a number. -/
def bit (n i : Nat) : Nat := n / 2 ^ i % 2
def Bits01 (l : List Nat) : Prop := ∀ x ∈ l, x < 2
theorem length_bw (k n : Nat) : (bw k n).length = k := by
  induction k generalizing n with
  | zero => rfl
  | succ k ih => simp [bw, ih]
theorem length_dg (n : Nat) : (dg n).length = nbits n := length_bw _ _
theorem length_wd (n : Nat) : (wd n).length = (nbits n + 63) / 64 := length_words _ _
theorem bw_01 (k n : Nat) : Bits01 (bw k n) := by
  induction k generalizing n with
  | zero => intro x hx; simp [bw] at hx
  | succ k ih =>
    intro x hx
    simp only [bw, List.mem_cons] at hx
    rcases hx with rfl | hx
    · exact Nat.mod_lt _ (by omega)
    · exact ih _ x hx
theorem nth_bw (k n j : Nat) (h : j < k) : nth (bw k n) j = n / 2 ^ j % 2 := by
  induction k generalizing n j with
  | zero => omega
  | succ k ih =>
    cases j with
    | zero => simp [bw, nth]
    | succ j =>
      have := ih (n / 2) j (by omega)
      rw [Nat.pow_succ, Nat.mul_comm, ← Nat.div_div_eq_div_mul, ← this]
      simp [bw, nth]
theorem bv_bw (k n : Nat) : bv (bw k n) = n % 2 ^ k := by
  induction k generalizing n with
  | zero => simp [bw, bv, Nat.mod_one]
  | succ k ih => rw [bw, bv, ih, Nat.pow_succ, Nat.mul_comm (2 ^ k), Nat.mod_mul]
theorem bv_lt (l : List Nat) (h : Bits01 l) : bv l < 2 ^ l.length := by
  induction l with
  | nil => simp [bv]
  | cons x r ih =>
    have hx : x < 2 := h x (by simp)
    have hr := ih fun y hy => h y (by simp [hy])
    simp only [bv, List.length_cons, Nat.pow_succ]
    omega
theorem nth_bv (l : List Nat) (h : Bits01 l) (j : Nat) : nth l j = bv l / 2 ^ j % 2 := by
  induction l generalizing j with
  | nil => simp [nth, bv]
  | cons x r ih =>
    have hx : x < 2 := h x (by simp)
    have hr := ih fun y hy => h y (by simp [hy])
    cases j with
    | zero => simp [nth, bv]; omega
    | succ j =>
      have := hr j
      simp only [bv, Nat.pow_succ]
      rw [Nat.mul_comm (2 ^ j), ← Nat.div_div_eq_div_mul, show (x + 2 * bv r) / 2 = bv r by omega, ← this]
      simp [nth]
theorem bw_bv (l : List Nat) (h : Bits01 l) : bw l.length (bv l) = l :=
  ext_nth _ _ (length_bw _ _) fun j hj => by
    rw [length_bw] at hj
    rw [nth_bw _ _ _ hj, nth_bv l h]
theorem bw_take (k n j : Nat) (h : j ≤ k) : (bw k n).take j = bw j n := by
  refine ext_nth _ _ (by simp [length_bw]; omega) fun i hi => ?_
  have hi' : i < j := by simp [length_bw] at hi; omega
  rw [nth_bw _ _ _ hi', ← nth_bw k n i (by omega)]
  simp [nth, hi']
theorem bw_snoc (k n : Nat) : bw (k + 1) n = bw k n ++ [n / 2 ^ k % 2] := by
  refine ext_nth _ _ (by simp [length_bw]) fun j hj => ?_
  rw [length_bw] at hj
  rw [nth_bw _ _ _ hj]
  rcases Nat.lt_or_ge j k with h | h
  · have : nth (bw k n ++ [n / 2 ^ k % 2]) j = nth (bw k n) j := by simp [nth, List.getElem?_append_left (show j < (bw k n).length by rw [length_bw]; exact h)]
    rw [this, nth_bw _ _ _ h]
  · obtain rfl : j = k := by omega
    simp [nth, length_bw]
theorem nbits_lt (n : Nat) : n < 2 ^ nbits n := by
  unfold nbits
  by_cases h : n = 0
  · simp [h]
  · rw [if_neg h]
    exact (Nat.log2_lt h).1 (by omega)
theorem nbits_le (n : Nat) (h : n ≠ 0) : 2 ^ (nbits n - 1) ≤ n := by
  unfold nbits
  rw [if_neg h]
  exact (Nat.le_log2 h).1 (by omega)
theorem nbits_zero : nbits 0 = 0 := by simp [nbits]
theorem nbits_eq (n k : Nat) (h : n < 2 ^ k) (h' : k ≠ 0 → 2 ^ (k - 1) ≤ n) : nbits n = k := by
  by_cases hn : n = 0
  · by_cases hk : k = 0
    · simp [nbits, hn, hk]
    · have := h' hk
      have hp : 0 < 2 ^ (k - 1) := Nat.pow_pos (by omega)
      omega
  · have h1 := nbits_lt n
    have h2 := nbits_le n hn
    rcases Nat.lt_trichotomy (nbits n) k with hlt | he | hgt
    · have h3 := h' (by omega)
      have h4 : 2 ^ nbits n ≤ 2 ^ (k - 1) := Nat.pow_le_pow_right (by omega) (by omega)
      omega
    · exact he
    · have h4 : 2 ^ k ≤ 2 ^ (nbits n - 1) := Nat.pow_le_pow_right (by omega) (by omega)
      omega
theorem nbits_of_lt (n k : Nat) (h : n < 2 ^ k) : nbits n ≤ k := by
  rcases Nat.lt_or_ge k (nbits n) with h1 | h1
  · have hn : n ≠ 0 := fun e => by rw [e, nbits_zero] at h1; omega
    have h2 := nbits_le n hn
    have h4 : 2 ^ k ≤ 2 ^ (nbits n - 1) := Nat.pow_le_pow_right (by omega) (by omega)
    omega
  · exact h1
theorem nbits_mono {a b : Nat} (h : a ≤ b) : nbits a ≤ nbits b := nbits_of_lt a _ (Nat.lt_of_le_of_lt h (nbits_lt b))
theorem dg_01 (n : Nat) : Bits01 (dg n) := bw_01 _ _
theorem bv_dg (n : Nat) : bv (dg n) = n := by rw [dg, bv_bw, Nat.mod_eq_of_lt (nbits_lt n)]
theorem nth_dg (n j : Nat) : nth (dg n) j = n / 2 ^ j % 2 := by
  have := nth_bv (dg n) (dg_01 n) j
  rwa [bv_dg] at this
theorem bit_lt (n i : Nat) : bit n i < 2 := Nat.mod_lt _ (by omega)
theorem nth_dg_bit (n j : Nat) : nth (dg n) j = bit n j := nth_dg n j
theorem dg_of (k n : Nat) (h : nbits n ≤ k) : (bw k n).take (nbits n) = dg n := bw_take k n _ h
theorem take_dg (l : List Nat) (h : Bits01 l) : l.take (nbits (bv l)) = dg (bv l) := by
  have h1 := nbits_of_lt _ _ (bv_lt l h)
  have h2 := dg_of l.length (bv l) h1
  rwa [bw_bv l h] at h2
theorem nbits_bv_le (l : List Nat) (h : Bits01 l) : nbits (bv l) ≤ l.length := nbits_of_lt _ _ (bv_lt l h)
/-- Behind the last digit all are 0; the last one is 1. -/
theorem nth_over_bits (l : List Nat) (h : Bits01 l) (m : Nat) (hm : nbits (bv l) ≤ m) : nth l m = 0 := by
  rw [nth_bv l h, Nat.div_eq_of_lt (Nat.lt_of_lt_of_le (nbits_lt _) (Nat.pow_le_pow_right (by omega) hm))]
theorem nth_last_bit (l : List Nat) (h : Bits01 l) (hp : 0 < nbits (bv l)) : nth l (nbits (bv l) - 1) = 1 := by
  have hne : bv l ≠ 0 := fun e0 => by rw [e0, nbits_zero] at hp; omega
  have h2 := nbits_le (bv l) hne
  have h3 := nbits_lt (bv l)
  rw [nth_bv l h]
  have h4 : bv l / 2 ^ (nbits (bv l) - 1) = 1 := by
    rw [show nbits (bv l) = nbits (bv l) - 1 + 1 by omega, Nat.pow_succ] at h3
    exact Nat.div_eq_of_lt_le (by omega) (by omega)
  rw [h4]
theorem pow_64_2 (k : Nat) : (18446744073709551616 : Nat) ^ k = 2 ^ (64 * k) := by rw [Nat.pow_mul]
/-- A bit of a word is a bit of the number. -/
theorem bit_of_word (a : List Nat) (h : Words a) (i k : Nat) (hk : k < 64) : nth a i / 2 ^ k % 2 = natOf a / 2 ^ (64 * i + k) % 2 := by
  rw [nth_natOf a h, pow_64_2, Nat.pow_add, ← Nat.div_div_eq_div_mul]
  generalize natOf a / 2 ^ (64 * i) = y
  obtain ⟨d, hd⟩ : ∃ d, 64 = k + (1 + d) := ⟨63 - k, by omega⟩
  have e : (18446744073709551616 : Nat) = 2 ^ k * (2 * 2 ^ d) := by
    rw [show (18446744073709551616 : Nat) = 2 ^ 64 from rfl]
    conv => lhs; rw [hd, Nat.pow_add, Nat.pow_add, Nat.pow_one]
  rw [e, Nat.mod_mul_right_div_self, Nat.mod_mul_right_mod]
theorem natOf_lt2 (a : List Nat) (h : Words a) : natOf a < 2 ^ (64 * a.length) := by rw [← pow_64_2]; exact natOf_lt a h
theorem nbits_natOf (a : List Nat) (h : Words a) : nbits (natOf a) ≤ 64 * a.length := nbits_of_lt _ _ (natOf_lt2 a h)
theorem natOf_wd (n : Nat) : natOf (wd n) = n := by
  rw [wd, natOf_words, Nat.mod_eq_of_lt]
  rw [pow_64_2]
  exact Nat.lt_of_lt_of_le (nbits_lt n) (Nat.pow_le_pow_right (by omega) (by omega))
theorem wd_words (n : Nat) : Words (wd n) := words_words _ _
end Go.Proofs.YtjpfcdgaepdcdaaGreat
/- The contracts of the document's numbers to the base 2: trim, Digits. Conditions: as typed (lengths that fit a machine). -/
namespace Go.Proofs.YtjpfcdgaepdcdaaGreat
open Go.RowKit
set_option maxRecDepth 20000
theorem num_info_u8 : (Tryz.prog.info? 5).map (fun i => (i.zero, i.size, i.bytes)) = some (some (.int .u8 0), 1, 1) := by kernel_rfl
theorem num_info_u64 : (Tryz.prog.info? 27).map (fun i => (i.zero, i.size, i.bytes)) = some (some (.int .u64 0), 1, 8) := by kernel_rfl
/-- The digits of a number are answered. -/
def OutNum (N : Nat) (w : World) (e : Ending) (w' : World) : Prop := ∃ X d, e = .returned (.slice X (nbits N) d) ∧ nbits N ≤ d ∧ Rd .u8 w' w'.heap.size X (dg N) ∧ Below w.heap.size w w'
/-- The digits of a number are answered, in new memory. -/
def OutNumO (N : Nat) (w : World) (e : Ending) (w' : World) : Prop := ∃ v, e = .returned v ∧ w'.ownsRow w.heap.size 5 1 v (nbits N) (ints .u8 (dg N)) ∧ Below w.heap.size w w'
theorem OutNumO.num {N : Nat} {w w' : World} {e : Ending} (h : OutNumO N w e w') : OutNum N w e w' := by
  obtain ⟨v, he, own, b⟩ := h
  obtain ⟨X, d, rfl, hd, _⟩ := own_form own
  exact ⟨X, d, he, hd, Rd.own own, b⟩
set_option maxHeartbeats 400000 in
theorem numTrimO_any (A : Option Addr) (c : Nat) (l : List Nat) (w : World) (hr : Rd .u8 w w.heap.size A l) (hb : Bits01 l) (hl : l.length ≤ 1099511627776) (hc : l.length ≤ c) :
    Calls Tryz.prog 50 #[.slice A l.length c] w (OutNumO (bv l) w) := by
  obtain ⟨i0, hi, hz0, hz1, hz2⟩ := info_parts num_info_u8
  have hnb := nbits_bv_le l hb
  go_enter Tryz.func50, Tryz.ntmps50
  go_wp2_with fail
  go_loop [3] (fun i => ∃ k : Nat, k ≤ l.length ∧ nbits (bv l) ≤ k ∧ i = .int .i64 k) (fun i => (intOf i).toNat)
  case atStart => exact ⟨l.length, Nat.le_refl _, hnb, rfl⟩
  case round =>
    obtain ⟨k, hk, hnk, rfl⟩ := hrel
    by_cases hend : k = nbits (bv l)
    · obtain rfl := hend
      by_cases hp : 0 < nbits (bv l)
      · have hl1 := nth_last_bit l hb hp
        have hs : (((nth l (nbits (bv l) - 1) : Nat) : Int) == 0) = false := by rw [hl1]; rfl
        obtain ⟨b, off, rfl, hbB, hcell⟩ := hr (by omega)
        have hx := hcell (nbits (bv l) - 1) (by omega)
        have hR := hr.take (nbits (bv l))
        rw [take_dg l hb] at hR
        have HR := Lib.hid hR
        clear hcell hl1 hR
        go_wp2_with (at_builtin; refine wpList_append_rd _ rfl (.tmp 18) (.tmp 21) _ rfl w.heap.size 5 i0 _ 1 Tryz.underlying57 hi hz0 hz1 hz2 rfl (.slice (some ⟨w.heap.size, 0, none⟩) 0 0) 0 [] rfl ?c1 .u8 w.heap.size (some ⟨b, off, none⟩) (nbits (bv l)) c (dg (bv l)) rfl ?c2 ?c3 ?c4 ?c5 ?c6 ?_)
        case c1 => exact own_of_heap (cur := []) (heap_alloc_new w (.cells #[] 5)) (Nat.le_refl _) (Nat.le_refl _) (Nat.zero_le _) rfl rfl
        case c2 => exact length_dg _
        case c3 => exact HR.out.below ((Below.refl _ _).alloc (Nat.le_refl _) _)
        case c4 => unfold maxLen; omega
        case c5 => omega
        intro v1 w1 own1 hg1
        have b1 : Below w.heap.size w w1 := ((Below.refl _ _).alloc (Nat.le_refl _) _).grown hg1 (by simp) (by simp [Value.ownBlock])
        have own1' : w1.ownsRow w.heap.size 5 1 v1 (nbits (bv l)) (ints .u8 (dg (bv l))) := by simpa using own1
        obtain ⟨X, d, rfl, hd, _⟩ := own_form own1'
        have HO := Lib.hid own1'
        clear own1 own1' hg1
        go_wp2_with fail
        go_ret
        exact ⟨_, rfl, HO.out, b1⟩
      · have h0 : nbits (bv l) = 0 := by omega
        have hR := hr.take (nbits (bv l))
        rw [take_dg l hb] at hR
        have HR := Lib.hid hR
        clear hR
        have hnp : ¬ (0 : Int) < (nbits (bv l) : Int) := by omega
        clear h0
        go_wp2_with (at_builtin; refine wpList_append_rd _ rfl (.tmp 18) (.tmp 21) _ rfl w.heap.size 5 i0 _ 1 Tryz.underlying57 hi hz0 hz1 hz2 rfl (.slice (some ⟨w.heap.size, 0, none⟩) 0 0) 0 [] rfl ?c1 .u8 w.heap.size A (nbits (bv l)) c (dg (bv l)) rfl ?c2 ?c3 ?c4 ?c5 ?c6 ?_)
        case c1 => exact own_of_heap (cur := []) (heap_alloc_new w (.cells #[] 5)) (Nat.le_refl _) (Nat.le_refl _) (Nat.zero_le _) rfl rfl
        case c2 => exact length_dg _
        case c3 => exact HR.out.below ((Below.refl _ _).alloc (Nat.le_refl _) _)
        case c4 => unfold maxLen; omega
        case c5 => omega
        intro v1 w1 own1 hg1
        have b1 : Below w.heap.size w w1 := ((Below.refl _ _).alloc (Nat.le_refl _) _).grown hg1 (by simp) (by simp [Value.ownBlock])
        have own1' : w1.ownsRow w.heap.size 5 1 v1 (nbits (bv l)) (ints .u8 (dg (bv l))) := by simpa using own1
        obtain ⟨X, d, rfl, hd, _⟩ := own_form own1'
        have HO := Lib.hid own1'
        clear own1 own1' hg1
        go_wp2_with fail
        go_ret
        exact ⟨_, rfl, HO.out, b1⟩
    · obtain ⟨m, rfl⟩ : ∃ m, k = m + 1 := ⟨k - 1, by omega⟩
      have hx0 := nth_over_bits l hb m (by omega)
      obtain ⟨b, off, rfl, hbB, hcell⟩ := hr (by omega)
      have hx := hcell m (by omega)
      rw [hx0] at hx
      clear hcell hx0
      go_wp2_with fail
      go_round
      case rel => exact ⟨m, by omega, by omega, by go_num⟩
      case measure => simp [intOf] <;> omega
theorem numTrim_any (A : Option Addr) (c : Nat) (l : List Nat) (w : World) (hr : Rd .u8 w w.heap.size A l) (hb : Bits01 l) (hl : l.length ≤ 1099511627776) (hc : l.length ≤ c) :
    Calls Tryz.prog 50 #[.slice A l.length c] w (OutNum (bv l) w) := Calls.mono (numTrimO_any A c l w hr hb hl hc) fun _ _ h => h.num
theorem bit_int (x k : Nat) (hx : x < 18446744073709551616) : bits .and .u64 ((x : Int) / 2 ^ k) 1 % 256 = ((x / 2 ^ k % 2 : Nat) : Int) := by
  have e : ((x : Int) / 2 ^ k) = ((x / 2 ^ k : Nat) : Int) := by simp
  have h := u64_and_nat (x / 2 ^ k) 1 (Nat.lt_of_le_of_lt (Nat.div_le_self _ _) hx) (by omega)
  rw [show ((1 : Nat) : Int) = 1 from rfl] at h
  rw [e, h, Nat.and_one_is_mod]
  omega
set_option maxHeartbeats 400000 in
theorem digits_any (A : Option Addr) (c : Nat) (a : List Nat) (w : World) (hr : Rd .u64 w w.heap.size A a) (hw : Words a) (hl : a.length ≤ 1000000) :
    Calls Tryz.prog 28 #[.slice A a.length c] w (OutNum (natOf a) w) := by
  obtain ⟨i0, hi, hz0, hz1, hz2⟩ := info_parts num_info_u8
  go_enter Tryz.func28, Tryz.ntmps28
  go_wp2_with fail
  go_loopw [3, 4] (fun v i wr => ∃ k : Nat, k ≤ a.length ∧ i = .int .i64 k ∧ wr.ownsRow w.heap.size 5 1 v (64 * k) (ints .u8 (bw (64 * k) (natOf a))) ∧ Below w.heap.size w wr) (fun _ i _ => a.length - (intOf i).toNat)
  case atStart => exact ⟨0, Nat.zero_le _, rfl, World.ownsRow_nil _ _ _ _, Below.refl _ _⟩
  case round =>
    obtain ⟨k, hk, rfl, hown, hb⟩ := hrel
    by_cases hlt : k < a.length
    · obtain ⟨wo, hwo⟩ : ∃ wo : World, wo = wr := ⟨_, rfl⟩
      subst hwo
      obtain ⟨b, off, rfl, hbB, hcell⟩ := hr (by omega)
      have hx := hcell k hlt
      have hxw := hw _ (nth_mem a k hlt)
      have Hx := Lib.hid hx
      clear hcell hx
      go_wp2_with fail
      go_loopw [3, 5] (fun v i wr => ∃ j : Nat, j ≤ 64 ∧ i = .int .i64 j ∧ wr.ownsRow w.heap.size 5 1 v (64 * k + j) (ints .u8 (bw (64 * k + j) (natOf a))) ∧ Below w.heap.size w wr) (fun _ i _ => 64 - (intOf i).toNat)
      case atStart => exact ⟨0, by omega, rfl, hown, hb⟩
      case round =>
        obtain ⟨j, hj, rfl, hown1, hb1⟩ := hrel
        by_cases hj64 : j < 64
        · have hx1 : wr.cell? ⟨b, off + k, none⟩ = some (.int .u64 (nth a k : Int)) := (hb1.cell (p := ⟨b, off + k, none⟩) hbB).trans Hx.out
          go_wp2_with (at_builtin; refine wpList_append_one _ rfl _ _ 57 rfl w.heap.size 5 i0 (.int .u8 0) 1 Tryz.underlying57 hi hz0 hz1 hz2 rfl _ _ .u8 (bw (64 * k + j) (natOf a)) rfl hown1 _ (natOf a / 2 ^ (64 * k + j) % 2) ?c1 rfl ?c2 ?c3 ?c4 ?_)
          case c1 => rw [bit_int _ _ hxw, bit_of_word a hw k j hj64]
          case c2 => unfold maxLen; omega
          case c3 => omega
          case c4 => exact hb1.size
          intro v2 w2 own2 _ b2
          rw [← bw_snoc] at own2
          go_wp2_with fail
          go_roundw
          case rel => exact ⟨j + 1, by omega, by go_num, own2, hb1.trans b2⟩
          case measure => simp [intOf]; omega
        · obtain rfl : j = 64 := by omega
          rw [show 64 * k + 64 = 64 * (k + 1) by omega] at hown1
          go_wp2_with fail
          go_roundw
          case rel => exact ⟨k + 1, by omega, by go_num, hown1, hb1⟩
          case measure => simp [intOf]; omega
    · obtain rfl : k = a.length := by omega
      obtain ⟨X, d, rfl, hd, _⟩ := own_form hown
      have R1 := Rd.own hown
      have T := numTrim_any X d (bw (64 * a.length) (natOf a)) wr R1 (bw_01 _ _) (by rw [length_bw]; omega) (by rw [length_bw]; exact hd)
      rw [length_bw, bv_bw, Nat.mod_eq_of_lt (natOf_lt2 a hw)] at T
      have HT := Lib.hid T
      clear T R1 hown
      go_wp2_with fail
      refine (HT.out).mono ?_
      rintro e w1 ⟨Y, f, rfl, hf, R, b1⟩
      go_wp2_with fail
      go_ret
      exact ⟨Y, f, rfl, hf, R, hb.trans (b1.mono hb.size)⟩
end Go.Proofs.YtjpfcdgaepdcdaaGreat
/- The contracts of the document's Words, Is, Same, Copy, Of, Small. Conditions: as typed. -/
namespace Go.Proofs.YtjpfcdgaepdcdaaGreat
open Go.RowKit
set_option maxRecDepth 20000
theorem own_pos2 {w : World} {base : Nat} {e : TypeId} {n : Nat} {v : Value} {xs : List Value} (h : w.ownsRow base e 1 v n xs) (hn : 0 < n) : ∃ g c, v = .slice (some ⟨g, 0, none⟩) n c ∧ base ≤ g ∧ g < w.heap.size ∧ n ≤ c := by
  rcases h.2 with ⟨_, h0⟩ | ⟨g, cap, cur, rfl, hb, hh, hc, _⟩
  · omega
  · refine ⟨g, cap, rfl, hb, ?_, hc⟩
    rcases Nat.lt_or_ge g w.heap.size with h1 | h1
    · exact h1
    · rw [Array.getElem?_eq_none h1] at hh; cases hh
theorem low_lt2 (N i K : Nat) (h : i ≤ 64 * K) : N % 2 ^ i < 18446744073709551616 ^ K := by
  rw [pow_64_2]
  exact Nat.lt_of_lt_of_le (Nat.mod_lt _ (Nat.pow_pos (by omega))) (Nat.pow_le_pow_right (by omega) h)
theorem words_more2 (K V : Nat) (h : V < 18446744073709551616 ^ K) : words K V ++ [0] = words (K + 1) V := by
  refine ext_nth _ _ (by simp [length_words]) fun j hj => ?_
  have hj' : j < K + 1 := by simpa [length_words] using hj
  rw [nth_words _ _ _ hj']
  by_cases e : j < K
  · have h1 : nth (words K V ++ [0]) j = nth (words K V) j := by simp [nth, List.getElem?_append_left (show j < (words K V).length by rw [length_words]; exact e)]
    rw [h1, nth_words _ _ _ e]
  · obtain rfl : j = K := by omega
    have h1 : nth (words j V ++ [0]) j = 0 := by simp [nth, length_words]
    rw [h1, Nat.div_eq_of_lt h]
/-- a | x << r -/
theorem shl_or_bit (a x r : Nat) (ha : a < 18446744073709551616) (hx : x < 2) (hr : r < 64) :
    bits .or .u64 (a : Int) (IntKind.u64.wrap ((x : Int) * 2 ^ r)) = ((a ||| x * 2 ^ r : Nat) : Int) := by
  have h1 : x * 2 ^ r < 18446744073709551616 := by
    have h2 : x * 2 ^ r ≤ 1 * 2 ^ r := Nat.mul_le_mul_right _ (by omega)
    have h3 : 1 * 2 ^ r ≤ 1 * 2 ^ 63 := Nat.mul_le_mul_left _ (Nat.pow_le_pow_right (by omega) (by omega))
    omega
  have e : ((x : Int) * 2 ^ r) = ((x * 2 ^ r : Nat) : Int) := by simp
  rw [e, IntKind.wrap_u64]
  generalize x * 2 ^ r = y at *
  rw [show ((y : Int) % 18446744073709551616) = (y : Int) by omega, u64_or_nat _ _ ha h1]
/-- A digit more, from below. -/
theorem words_low2 (N i : Nat) : (words (i / 64 + 1) (N % 2 ^ i)).set (i / 64) (nth (words (i / 64 + 1) (N % 2 ^ i)) (i / 64) ||| bit N i * 2 ^ (i % 64)) = words (i / 64 + 1) (N % 2 ^ (i + 1)) := by
  have hd := bit_lt N i
  have hV := low_lt2 N i (i / 64 + 1) (by omega)
  have ew := nth_words (i / 64 + 1) (N % 2 ^ i) (i / 64) (by omega)
  have h1 : nth (words (i / 64 + 1) (N % 2 ^ i)) (i / 64) < 2 ^ (i % 64) := by
    rw [ew]
    refine Nat.lt_of_le_of_lt (Nat.mod_le _ _) ?_
    rw [Nat.div_lt_iff_lt_mul (Nat.pow_pos (by omega)), pow_64_2, ← Nat.pow_add, show i % 64 + 64 * (i / 64) = i by omega]
    exact Nat.mod_lt _ (Nat.pow_pos (by omega))
  have h2 : nth (words (i / 64 + 1) (N % 2 ^ i)) (i / 64) ||| bit N i * 2 ^ (i % 64) < 18446744073709551616 := by
    refine Nat.or_lt_two_pow (n := 64) (Nat.lt_of_lt_of_le h1 (Nat.pow_le_pow_right (by omega) (by omega))) ?_
    have h3 : bit N i * 2 ^ (i % 64) ≤ 1 * 2 ^ (i % 64) := Nat.mul_le_mul_right _ (by omega)
    have h4 : 1 * 2 ^ (i % 64) ≤ 1 * 2 ^ 63 := Nat.mul_le_mul_left _ (Nat.pow_le_pow_right (by omega) (by omega))
    omega
  have ha : nth (words (i / 64 + 1) (N % 2 ^ i)) (i / 64) ||| bit N i * 2 ^ (i % 64) = nth (words (i / 64 + 1) (N % 2 ^ i)) (i / 64) + bit N i * 2 ^ (i % 64) := by
    rw [Nat.or_comm, nat_join (i % 64) _ _ (by simp) h1, Nat.add_comm]
  rw [ha] at h2 ⊢
  have hw : Words ((words (i / 64 + 1) (N % 2 ^ i)).set (i / 64) (nth (words (i / 64 + 1) (N % 2 ^ i)) (i / 64) + bit N i * 2 ^ (i % 64))) := fun y hy => by
    rcases mem_set hy with rfl | h
    · exact h2
    · exact words_words _ _ y h
  have hf := words_natOf _ hw
  rw [List.length_set, length_words, natOf_set _ _ _ (by rw [length_words]; omega), natOf_words, Nat.mod_eq_of_lt hV] at hf
  rw [← hf, Nat.mod_pow_succ, show N / 2 ^ i % 2 = bit N i from rfl]
  congr 2
  rw [pow_64_2, Nat.mul_left_comm, ← Nat.pow_add, show 64 * (i / 64) + i % 64 = i by omega, Nat.mul_comm]
/-- The words of a number are answered, in new memory. -/
def OutNat (N : Nat) (w : World) (e : Ending) (w' : World) : Prop := ∃ v, e = .returned v ∧ w'.ownsRow w.heap.size 27 1 v ((nbits N + 63) / 64) (ints .u64 (wd N)) ∧ Below w.heap.size w w'
set_option maxHeartbeats 1000000 in
theorem words_any (A : Option Addr) (c : Nat) (l : List Nat) (w : World) (hr : Rd .u8 w w.heap.size A l) (h01 : Bits01 l) (hl : l.length ≤ 100000000) (hc : l.length ≤ c) :
    Calls Tryz.prog 27 #[.slice A l.length c] w (OutNat (bv l) w) := by
  obtain ⟨i0, hi0, hz0, hz1, hz2⟩ := info_parts num_info_u64
  have hnb := nbits_bv_le l h01
  go_enter Tryz.func27, Tryz.ntmps27
  go_wp2_with fail
  refine (numTrim_any A c l w hr h01 (by omega) hc).mono ?_
  rintro e w1 ⟨X, d, rfl, hd, R1, b1⟩
  go_wp2_with fail
  go_loopw [3, 4] (fun v j wr => ∃ i : Nat, i ≤ nbits (bv l) ∧ j = .int .i64 i ∧ wr.ownsRow w1.heap.size 27 1 v ((i + 63) / 64) (ints .u64 (words ((i + 63) / 64) (bv l % 2 ^ i))) ∧ Below w1.heap.size w1 wr) (fun _ j _ => nbits (bv l) - (intOf j).toNat)
  case atStart => exact ⟨0, Nat.zero_le _, rfl, World.ownsRow_nil _ _ _ _, Below.refl _ _⟩
  case round =>
    obtain ⟨i, hi, rfl, hown, hbr⟩ := hrel
    by_cases hlt : i < nbits (bv l)
    · obtain ⟨b, off, rfl, hbB, hcell⟩ := R1 (by rw [length_dg]; omega)
      by_cases h8 : i % 64 = 0
      · have hb8 : (((i : Int) % 64) == 0) = true := by rw [beq_iff_eq]; omega
        have H8 := Lib.hid h8
        clear h8
        go_wp2_with (at_builtin; refine wpList_append_one _ rfl _ _ 33 rfl w1.heap.size 27 i0 (.int .u64 0) 8 Tryz.underlying33 hi0 hz0 hz1 hz2 rfl _ _ .u64 (words ((i + 63) / 64) (bv l % 2 ^ i)) rfl hown _ 0 ?c1 rfl ?c2 ?c3 ?c4 ?_)
        case c1 => rfl
        case c2 => unfold maxLen; omega
        case c3 => omega
        case c4 => exact hbr.size
        intro v4 w4 own4 _ b4
        have e8 : (i + 63) / 64 = i / 64 := by have := H8.out; omega
        rw [e8, words_more2 _ _ (low_lt2 _ _ _ (by have := H8.out; omega))] at own4
        have hb4 := hbr.trans b4
        clear e8 b4
        obtain ⟨g, cp, rfl, hg1, hg2, _⟩ := own_pos2 own4 (by omega)
        have hc4 : w4.cell? ⟨g, i / 64, none⟩ = some (.int .u64 (nth (words (i / 64 + 1) (bv l % 2 ^ i)) (i / 64) : Int)) := by
          rw [own4.cellAt _ (by omega), ints_get _ _ _ (by rw [length_words]; omega)]
        have hf4 : w4.frozen? ⟨g, i / 64, none⟩ = false := own4.frozenAt _
        have hw4 := words_words (i / 64 + 1) (bv l % 2 ^ i) _ (nth_mem _ (i / 64) (by rw [length_words]; omega))
        have hx4 : w4.cell? ⟨b, off + i, none⟩ = some (.int .u8 (bit (bv l) i : Int)) := by
          rw [hb4.cell (p := ⟨b, off + i, none⟩) hbB, hcell i (by rw [length_dg]; exact hlt), nth_dg_bit]
        have hdl := bit_lt (bv l) i
        have Ho := Lib.hid own4
        clear own4 hcell hown
        go_wp2_with fail
        go_region
        go_wp2_with fail
        go_roundw
        case rel =>
          rw [shl_or_bit _ _ _ hw4 hdl (Nat.mod_lt _ (by omega))]
          have hst := Ho.out.stored (i / 64) (.int .u64 ((nth (words (i / 64 + 1) (bv l % 2 ^ i)) (i / 64) ||| bit (bv l) i * 2 ^ (i % 64) : Nat) : Int))
          rw [ints_set, words_low2] at hst
          refine ⟨i + 1, by omega, by go_num, ?_, (hb4.setCell hg1 _).drew⟩
          rw [show (i + 1 + 63) / 64 = i / 64 + 1 by omega]
          exact hst.1.drew
        case measure => simp [intOf]; omega
      · have hb8 : (((i : Int) % 64) == 0) = false := by rw [beq_eq_false_iff_ne]; omega
        have e8 : (i + 63) / 64 = i / 64 + 1 := by omega
        have own4 := hown
        rw [e8] at own4
        obtain ⟨g, cp, rfl, hg1, hg2, _⟩ := own_pos2 own4 (by omega)
        clear e8 h8
        have hc4 : wr.cell? ⟨g, i / 64, none⟩ = some (.int .u64 (nth (words (i / 64 + 1) (bv l % 2 ^ i)) (i / 64) : Int)) := by
          rw [own4.cellAt _ (by omega), ints_get _ _ _ (by rw [length_words]; omega)]
        have hf4 : wr.frozen? ⟨g, i / 64, none⟩ = false := own4.frozenAt _
        have hw4 := words_words (i / 64 + 1) (bv l % 2 ^ i) _ (nth_mem _ (i / 64) (by rw [length_words]; omega))
        have hx4 : wr.cell? ⟨b, off + i, none⟩ = some (.int .u8 (bit (bv l) i : Int)) := by
          rw [hbr.cell (p := ⟨b, off + i, none⟩) hbB, hcell i (by rw [length_dg]; exact hlt), nth_dg_bit]
        have hdl := bit_lt (bv l) i
        have Ho := Lib.hid own4
        clear own4 hcell hown
        go_wp2_with fail
        go_region
        go_wp2_with fail
        go_roundw
        case rel =>
          rw [shl_or_bit _ _ _ hw4 hdl (Nat.mod_lt _ (by omega))]
          have hst := Ho.out.stored (i / 64) (.int .u64 ((nth (words (i / 64 + 1) (bv l % 2 ^ i)) (i / 64) ||| bit (bv l) i * 2 ^ (i % 64) : Nat) : Int))
          rw [ints_set, words_low2] at hst
          refine ⟨i + 1, by omega, by go_num, ?_, (hbr.setCell hg1 _).drew⟩
          rw [show (i + 1 + 63) / 64 = i / 64 + 1 by omega]
          exact hst.1.drew
        case measure => simp [intOf]; omega
    · obtain rfl : i = nbits (bv l) := by omega
      rw [Nat.mod_eq_of_lt (nbits_lt (bv l))] at hown
      go_wp2_with fail
      go_ret
      refine ⟨_, rfl, ?_, b1.trans (hbr.mono b1.size)⟩
      obtain ⟨h1, h2⟩ := hown
      refine ⟨h1, ?_⟩
      rcases h2 with h2 | ⟨g, cap, cur, e1, e2, e3⟩
      · exact .inl h2
      · exact .inr ⟨g, cap, cur, e1, Nat.le_trans b1.size e2, e3⟩
end Go.Proofs.YtjpfcdgaepdcdaaGreat
/- The contracts of the document's Same, Copy, Is, Of, Small, Less, digit. Conditions: as typed. -/
namespace Go.Proofs.YtjpfcdgaepdcdaaGreat
open Go.RowKit
set_option maxRecDepth 20000
theorem ret_bool2 {a b : Bool} (h : a = b) : Ending.returned (.bool a) = .returned (.bool b) := by rw [h]
set_option maxHeartbeats 400000 in
theorem same02_any (A A2 : Option Addr) (c c2 : Nat) (l m : List Nat) (w : World) (B : Nat) (h1 : Rd .u64 w B A l) (h2 : Rd .u64 w B A2 m) (hl : l.length ≤ 1099511627776) (_hm : m.length ≤ 1099511627776) :
    Calls Tryz.prog 13 #[.slice A l.length c, .slice A2 m.length c2] w fun e w' => e = .returned (.bool (decide (l = m))) ∧ Drawn w w' := by
  by_cases hne : l.length = m.length
  · have hb : ((l.length : Int) != (m.length : Int)) = false := by simp [hne]
    have Hne := Lib.hid hne
    clear hne
    go_enter Tryz.func13, Tryz.ntmps13
    go_wp2_with fail
    go_loopw [5] (fun i wr => ∃ k : Nat, k ≤ l.length ∧ i = .int .i64 k ∧ (∀ j, j < k → nth l j = nth m j) ∧ Drawn w wr) (fun i _ => l.length - (intOf i).toNat)
    case atStart => exact ⟨0, Nat.zero_le _, rfl, fun j hj => absurd hj (by omega), Drawn.refl w⟩
    case round =>
      obtain ⟨k, hk, rfl, hsame, nq, rfl⟩ := hrel
      have Hs := Lib.hid hsame
      clear hsame
      by_cases hlt : k < l.length
      · obtain ⟨b, off, rfl, _, hc⟩ := h1 (by omega)
        obtain ⟨b2, off2, rfl, _, hc2⟩ := h2 (by have := Hne.out; omega)
        have e1 := hc k hlt
        have e2 := hc2 k (by have := Hne.out; omega)
        have hkm : k < m.length := by have := Hne.out; omega
        clear hc hc2
        by_cases hx : nth l k = nth m k
        · have hxb : (((nth l k : Nat) : Int) != ((nth m k : Nat) : Int)) = false := by simp [hx]
          have Hx := Lib.hid hx
          clear hx
          go_wp2_with fail
          go_quiet (fail)
          go_wp2_with fail
          go_roundw
          case rel => exact ⟨k + 1, by omega, by go_num, fun j hj => by (rcases Nat.lt_succ_iff_lt_or_eq.1 hj with h | rfl); exact Hs.out j h; exact Hx.out, Drawn.more _⟩
          case measure => simp [intOf]; omega
        · have hxb : (((nth l k : Nat) : Int) != ((nth m k : Nat) : Int)) = true := by simp; omega
          have Hx := Lib.hid hx
          clear hx
          go_wp2_with fail
          go_quiet (fail)
          go_wp2_with fail
          go_ret
          refine ⟨?_, (Drawn.more _).draws _⟩
          have : l ≠ m := fun e => Hx.out (by rw [e])
          simp [this]
      · go_wp2_with fail
        go_ret
        refine ⟨?_, Drawn.more _⟩
        have : l = m := ext_nth _ _ Hne.out fun j hj => Hs.out j (by omega)
        simp [this]
  · have hb : ((l.length : Int) != (m.length : Int)) = true := by simp; omega
    have Hne := Lib.hid hne
    clear hne
    go_enter Tryz.func13, Tryz.ntmps13
    go_wp2_with fail
    go_ret
    refine ⟨?_, Drawn.refl _⟩
    have : l ≠ m := fun e => Hne.out (by rw [e])
    simp [this]
end Go.Proofs.YtjpfcdgaepdcdaaGreat
/- Plain facts on adding, taking away and shifting digits to the base 2. No condition but those typed; no program is named. -/
namespace Go.Proofs.YtjpfcdgaepdcdaaGreat
/-- What is carried to digit i of a sum. -/
def carry (A B i : Nat) : Nat := (A % 2 ^ i + B % 2 ^ i) / 2 ^ i
theorem low_bit (A i : Nat) : A % 2 ^ (i + 1) = A % 2 ^ i + 2 ^ i * bit A i := by rw [Nat.mod_pow_succ, bit]
/-- Fewer digits, a lesser number. -/
theorem less_of_nbits {a b : Nat} (h : nbits a < nbits b) : a < b := by
  have h1 := nbits_lt a
  have hb : b ≠ 0 := fun e => by rw [e, nbits_zero] at h; omega
  have h2 := nbits_le b hb
  have h3 : 2 ^ nbits a ≤ 2 ^ (nbits b - 1) := Nat.pow_le_pow_right (by omega) (by omega)
  omega
end Go.Proofs.YtjpfcdgaepdcdaaGreat
/- The contracts of the document's Of, Small, Less, digit, Sum, Rest, Shifted. Conditions: as typed. -/
namespace Go.Proofs.YtjpfcdgaepdcdaaGreat
open Go.RowKit
set_option maxRecDepth 20000
theorem wordsN_any (A : Option Addr) (c N : Nat) (w : World) (hr : Rd .u8 w w.heap.size A (dg N)) (hl : nbits N ≤ 100000000) (hc : nbits N ≤ c) :
    Calls Tryz.prog 27 #[.slice A (nbits N) c] w (OutNat N w) := by
  have h := words_any A c (dg N) w hr (dg_01 N) (by rw [length_dg]; exact hl) (by rw [length_dg]; exact hc)
  rwa [length_dg, bv_dg] at h
theorem of02_any (n : Nat) (w : World) (hn : n < 18446744073709551616) : Calls Tryz.prog 12 #[.int .u64 n] w (OutNat n w) := by
  have hN : natOf [n] = n := by simp [natOf]
  have hW : Words [n] := by intro x hx; simp at hx; omega
  have hb := nbits_natOf [n] hW
  rw [hN] at hb
  have hD := fun u : World => digits_any (some ⟨u.heap.size, 0, none⟩) 1 [n] (u.alloc (.cells #[.int .u64 n] 27)) ((Rd.lit u .u64 27 [n]).more (by simp)) hW (by simp)
  rw [hN] at hD
  have HD := Lib.hid hD
  clear hD hN hW
  have hb64 : nbits n ≤ 64 := hb
  clear hb
  go_enter Tryz.func12, Tryz.ntmps12
  go_wp2_with fail
  refine (HD.out w).mono ?_
  rintro e w1 ⟨X, d, rfl, hd, R, b1⟩
  have b01 : Below w.heap.size w w1 := ((Below.refl _ _).alloc (Nat.le_refl _) _).trans (b1.mono (by simp))
  go_wp2_with fail
  refine (wordsN_any X d n w1 R (by omega) hd).mono ?_
  rintro e w2 ⟨v, rfl, own, b2⟩
  go_wp2_with fail
  go_ret
  refine ⟨v, rfl, ?_, b01.trans (b2.mono b01.size)⟩
  obtain ⟨h1, h2⟩ := own
  refine ⟨h1, ?_⟩
  rcases h2 with h2 | ⟨g, cap, cur, e1, e2, e3⟩
  · exact .inl h2
  · exact .inr ⟨g, cap, cur, e1, Nat.le_trans b01.size e2, e3⟩
end Go.Proofs.YtjpfcdgaepdcdaaGreat
/- The contracts of the document's Sum and Rest. Conditions: as typed. -/
namespace Go.Proofs.YtjpfcdgaepdcdaaGreat
open Go.RowKit
set_option maxRecDepth 20000
end Go.Proofs.YtjpfcdgaepdcdaaGreat
/- The contracts of the document's Shifted, FromBytes, Bytes, Small. Conditions: as typed. -/
namespace Go.Proofs.YtjpfcdgaepdcdaaGreat
open Go.RowKit
set_option maxRecDepth 20000
theorem nbits_blen (N : Nat) : (nbits N + 7) / 8 = blen N := by
  unfold nbits blen
  by_cases h : N = 0
  · simp [h]
  · rw [if_neg h, if_neg h]; omega
end Go.Proofs.YtjpfcdgaepdcdaaGreat
/- The contract of the document's Small. Conditions: as typed. -/
namespace Go.Proofs.YtjpfcdgaepdcdaaGreat
open Go.RowKit
set_option maxRecDepth 20000
/-- What Small answers. -/
def smallV (N : Nat) : Int := if N < 18446744073709551616 then (N : Int) else 0
def smallB (N : Nat) : Bool := decide (N < 18446744073709551616)
theorem same_true (A A2 : Option Addr) (n c c2 : Nat) (l : List Nat) (w : World) (hn : l.length = n) (h1 : Rd .u64 w w.heap.size A l) (h2 : Rd .u64 w w.heap.size A2 l) (hl : n ≤ 1099511627776) :
    Calls Tryz.prog 13 #[.slice A n c, .slice A2 n c2] w fun e w' => e = .returned (.bool true) ∧ Below w.heap.size w w' := by
  subst hn
  exact Calls.mono (same02_any A A2 c c2 l l w w.heap.size h1 h2 hl hl) fun e w' ⟨he, hd⟩ => ⟨by rw [he]; simp, hd.below _⟩
end Go.Proofs.YtjpfcdgaepdcdaaGreat

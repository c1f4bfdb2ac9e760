/- Words for memory and numbers, over any program: a slice that reads as a list of numbers (nil and empty let in), and what appending such a slice does. No condition but those typed. -/
import Derived.WalkKit
import Derived.Laws.AppendOwnNone
import Derived.Laws.CopyOwn
import Derived.Lib.Hide
import Derived.Deep.Draws
namespace Go.Proofs.Ytjimnepjheppgaa
open Go.RowKit

/-- Number j of a list, 0 behind its end. -/
def nth (l : List Nat) (j : Nat) : Nat := l.getD j 0
/-- Numbers as cells of an integer kind. -/
def ints (k : IntKind) (l : List Nat) : List Value := l.map fun n : Nat => .int k (n : Int)

theorem nth_eq (l : List Nat) (j : Nat) (h : j < l.length) : nth l j = l[j] := by simp [nth, h]
theorem nth_mem (l : List Nat) (j : Nat) (h : j < l.length) : nth l j ∈ l := by rw [nth_eq l j h]; exact List.getElem_mem h
theorem length_ints (k : IntKind) (l : List Nat) : (ints k l).length = l.length := by simp [ints]
theorem ints_append (k : IntKind) (l m : List Nat) : ints k (l ++ m) = ints k l ++ ints k m := by simp [ints]
theorem ints_get (k : IntKind) (l : List Nat) (j : Nat) (h : j < l.length) : (ints k l)[j]? = some (.int k (nth l j : Int)) := by
  simp [ints, nth, h]
theorem ints_one (k : IntKind) (l : List Nat) : ∀ u ∈ ints k l, u.oneCell' = true := by
  intro u hu
  obtain ⟨_, _, rfl⟩ := List.mem_map.1 hu
  rfl

/-- Two endings with one number. -/
theorem ret_num {k : IntKind} {a b : Int} (h : a = b) : Ending.returned (.int k a) = .returned (.int k b) := by rw [h]

/-- The slice at A reads as the numbers l, in blocks below B. -/
def Rd (k : IntKind) (w : World) (B : Nat) (A : Option Addr) (l : List Nat) : Prop :=
  0 < l.length → ∃ b off, A = some ⟨b, off, none⟩ ∧ b < B ∧ ∀ j, j < l.length → w.cell? ⟨b, off + j, none⟩ = some (.int k (nth l j : Int))

section
variable {k : IntKind} {w w' : World} {B B' : Nat} {A : Option Addr} {l : List Nat}
theorem Rd.nil : Rd k w B A [] := fun h => absurd h (by simp)
theorem Rd.keep (h : Rd k w B A l) (hk : ∀ b o, b < B → w'.cell? ⟨b, o, none⟩ = w.cell? ⟨b, o, none⟩) : Rd k w' B A l := fun hl => by
  obtain ⟨b, off, e, hb, hc⟩ := h hl
  exact ⟨b, off, e, hb, fun j hj => (hk b (off + j) hb).trans (hc j hj)⟩
theorem Rd.below (h : Rd k w B A l) (hb : Below B w w') : Rd k w' B A l := h.keep fun b o hlt => hb.cell (p := ⟨b, o, none⟩) hlt
theorem Rd.more (h : Rd k w B A l) (hB : B ≤ B') : Rd k w B' A l := fun hl => by
  obtain ⟨b, off, e, hb, hc⟩ := h hl
  exact ⟨b, off, e, by omega, hc⟩
theorem Rd.grown {row : Option Nat} (h : Rd k w B A l) (hg : w.grownBy w' row) (hB : B ≤ w.heap.size) (hr : ∀ g, row = some g → B ≤ g) : Rd k w' B A l :=
  h.below ((Below.refl B w).grown hg hB hr)
/-- A row of the call's own reads as what it owns. -/
theorem Rd.own {base : Nat} {e : TypeId} {n c : Nat} (h : w.ownsRow base e 1 (.slice A n c) n (ints k l)) : Rd k w w.heap.size A l := fun hl => by
  have hn : l.length = n := by have := h.1; rw [length_ints] at this; omega
  rcases h.2 with ⟨_, h0⟩ | ⟨g, cap, cur, hv, _, hh, _⟩
  · omega
  · injection hv with hA hn' hc
    subst hA
    subst hc
    have hlt : g < w.heap.size := by
      rcases Nat.lt_or_ge g w.heap.size with h1 | h1
      · exact h1
      · rw [Array.getElem?_eq_none h1] at hh; cases hh
    refine ⟨g, 0, rfl, hlt, fun j hj => ?_⟩
    rw [Nat.zero_add, h.cellAt j (by omega), ints_get k l j hj]
/-- The value of a row of the call's own, written out. -/
theorem own_form {base : Nat} {e : TypeId} {n : Nat} {v : Value} {xs : List Value} (h : w.ownsRow base e 1 v n xs) : ∃ A c, v = .slice A n c ∧ n ≤ c ∧ c ≤ maxLen := by
  rcases h.2 with ⟨rfl, rfl⟩ | ⟨g, cap, cur, rfl, _, _, hn, hm, _⟩
  · exact ⟨none, 0, rfl, Nat.le_refl _, Nat.zero_le _⟩
  · exact ⟨_, cap, rfl, hn, hm⟩
/-- The cells behind an address, for the laws on append and copy. -/
theorem Rd.src (h : Rd k w B A l) : 0 < (ints k l).length → ∃ ad, A = some ad ∧ ∀ j v, (ints k l)[j]? = some v → w.cell? (ad.add j) = some v := fun hl => by
  rw [length_ints] at hl
  obtain ⟨b, off, rfl, _, hc⟩ := h hl
  refine ⟨_, rfl, fun j v hv => ?_⟩
  have hj : j < l.length := by have := (List.getElem?_eq_some_iff.1 hv).1; rwa [length_ints] at this
  rw [ints_get k l j hj] at hv
  rw [Addr.add_lit, hc j hj, hv]
/-- A block that is known whole is owned. -/
theorem own_of_heap {base e g n cap : Nat} {cur xs : List Value} (hh : w.heap[g]? = some (.cells cur.toArray e (0, 0))) (hb : base ≤ g) (hn : n ≤ cap) (hm : cap ≤ maxLen) (hc : cur.length = cap) (hx : cur.take n = xs) :
    w.ownsRow base e 1 (.slice (some ⟨g, 0, none⟩) n cap) n xs :=
  ⟨by subst hx; simp; omega, .inr ⟨g, cap, cur.toArray, rfl, hb, hh, hn, hm, by simpa using hc, by simpa using hx⟩⟩
/-- A store turns its own block alone. -/
theorem grown_setCell (w : World) (p : Addr) (u : Value) : w.grownBy (w.setCell p u) (some p.block) :=
  ⟨rfl, rfl, rfl, by simp [World.setCell], fun i _ hne => Below.heap_setCell _ _ _ _ (fun e => hne (by rw [e]))⟩
/-- s[k:] -/
theorem Rd.drop (h : Rd k w B A l) {i cap : Nat} (hc : l.length ≤ cap) : Rd k w B (if cap = i then A else A.map (·.add i)) (l.drop i) := fun hl => by
  have hlt : i < l.length := by rw [List.length_drop] at hl; omega
  obtain ⟨b, off, rfl, hb, hcell⟩ := h (by omega)
  refine ⟨b, off + i, ?_, hb, fun j hj => ?_⟩
  · rw [if_neg (by omega)]
    by_cases h0 : i = 0 <;> simp [Addr.add, h0]
  · have := hcell (i + j) (by simp at hj; omega)
    rw [Nat.add_assoc, this]
    simp [nth, List.getElem?_drop]
/-- s[:k] -/
theorem Rd.take (h : Rd k w B A l) (i : Nat) : Rd k w B A (l.take i) := fun hl => by
  have hlt : 0 < l.length := by simp at hl; omega
  obtain ⟨b, off, rfl, hb, hcell⟩ := h hlt
  refine ⟨b, off, rfl, hb, fun j hj => ?_⟩
  have hj' : j < i ∧ j < l.length := by simp at hj; omega
  rw [hcell j hj'.2]
  simp [nth, hj'.1]
end

section
variable {P : Program} (w : World)
theorem run_append_nothing (base : Nat) (t ty e : TypeId) (i : TypeInfo) (ht : P.underlying t = some (.slice e)) (hi : P.info? e = some i)
    (v : Value) (n : Nat) (xs : List Value) (hown : w.ownsRow base e 1 v n xs) (c : Nat) : (Builtin.append_ #[t, t] ty #[v, .slice none 0 c]).run P w = .ok v w := by
  rcases hown.2 with ⟨rfl, rfl⟩ | ⟨g, cap, cur, rfl, _, _, hnc, _⟩
  · simp [Builtin.append_, run_underlying ht, sizeOf, typeInfo, hi, Builtin.lenOf, Builtin.firstCells]
  · simp [Builtin.append_, run_underlying ht, sizeOf, typeInfo, hi, Builtin.lenOf, Builtin.firstCells, hnc, storeCells]

/-- 'out = append(out, src...)', out a row of the call's own, src any slice that reads as numbers. -/
theorem wpList_append_rd {ops : Array Oper} {rest : List Oper} {o : Oper} {a : Act} {Q : Exit → Act → World → Prop} (hgd : o.guard = none) (s x : Operand) (t : TypeId)
    (ho : o.op = .call { callee := .builtin .append, args := #[s, x], argTypes := #[t, t] })
    (base : Nat) (e : TypeId) (i : TypeInfo) (z : Value) (bytes : Nat) (ht : P.underlying t = some (.slice e)) (hi : P.info? e = some i) (hz : i.zero = some z)
    (hsize : i.size = 1) (hby : i.bytes = bytes) (hzs : z.cells.size = 1)
    (v : Value) (n : Nat) (xs : List Value) (hs : a.eval s = v) (hown : w.ownsRow base e 1 v n xs)
    (k : IntKind) (B : Nat) (A : Option Addr) (m c : Nat) (l : List Nat) (hx : a.eval x = .slice A m c) (hm : l.length = m) (hr : Rd k w B A l)
    (h63 : n + m ≤ maxLen) (hbytes : (n + m) * bytes ≤ 140737488355328) (hbase : base ≤ w.heap.size)
    (h : ∀ v' w', w'.ownsRow base e 1 v' (n + m) (xs ++ ints k l) → w.grownBy w' v.ownBlock → wpList P ops Q rest (a.put o.dst v') w') : wpList P ops Q (o :: rest) a w := by
  rcases A with _ | ad
  · have h0 : l = [] := by
      rcases Nat.eq_zero_or_pos l.length with h0 | h0
      · exact List.eq_nil_of_length_eq_zero h0
      · obtain ⟨_, _, he, _⟩ := hr h0
        cases he
    subst h0
    obtain rfl : m = 0 := by simpa using hm.symm
    refine wpList_plain hgd fun K hK => ?_
    have hrun := run_append_nothing (P := P) w base t o.type e i ht hi v n xs hown c
    unfold Oper.wp
    simp [execOp, ho, resolve, invoke, builtin, hs, hx, hrun, Result.andThen]
    exact hK _ _ (h v w (by simpa [ints] using hown) (World.grownBy.refl w _))
  · have hcells : ∀ j u, (ints k l)[j]? = some u → w.cell? (ad.add j) = some u := by
      intro j u hu
      have hj : j < l.length := by have := (List.getElem?_eq_some_iff.1 hu).1; rwa [length_ints] at this
      obtain ⟨b, off, he, _, hc⟩ := hr (by omega)
      injection he with he
      subst he
      rw [ints_get k l j hj] at hu
      rw [Addr.add_lit, hc j hj, hu]
    exact wpList_append_own w hgd s x t ho base e i z 1 bytes ht hi hz hsize hby hzs (by omega) v n xs hs hown ad m c (ints k l) hx (by rw [length_ints]; omega) hcells (ints_one k l) h63 hbytes hbase
      fun v' w' h1 h2 _ => h v' w' h1 h2

theorem below_of_grown {base : Nat} {e : TypeId} {v : Value} {n : Nat} {xs : List Value} {w' : World} (hown : w.ownsRow base e 1 v n xs) (hg : w.grownBy w' v.ownBlock) (hbase : base ≤ w.heap.size) : Below base w w' :=
  (Below.refl _ _).grown hg hbase fun g hg' => (hown.lt g hg').1

/-- 'out = append(out, x)', out a row of the call's own: x stands in a new block first. -/
theorem wpList_append_one {ops : Array Oper} {rest : List Oper} {o : Oper} {a : Act} {Q : Exit → Act → World → Prop} (hgd : o.guard = none) (s x : Operand) (t : TypeId)
    (ho : o.op = .call { callee := .builtin .append, args := #[s, x], argTypes := #[t, t] })
    (base : Nat) (e : TypeId) (i : TypeInfo) (z : Value) (bytes : Nat) (ht : P.underlying t = some (.slice e)) (hi : P.info? e = some i) (hz : i.zero = some z)
    (hsize : i.size = 1) (hby : i.bytes = bytes) (hzs : z.cells.size = 1)
    (v : Value) (n : Nat) (k : IntKind) (ys : List Nat) (hs : a.eval s = v) (hown : w.ownsRow base e 1 v n (ints k ys)) (X : Int) (y : Nat) (hX : X = (y : Int))
    (hx : a.eval x = .slice (some ⟨w.heap.size, 0, none⟩) 1 1)
    (h63 : n + 1 ≤ maxLen) (hbytes : (n + 1) * bytes ≤ 140737488355328) (hbase : base ≤ w.heap.size)
    (h : ∀ v' w', w'.ownsRow base e 1 v' (n + 1) (ints k (ys ++ [y])) → w.grownBy w' v.ownBlock → Below base w w' → wpList P ops Q rest (a.put o.dst v') w') : wpList P ops Q (o :: rest) a (w.alloc (.cells #[.int k X] e)) := by
  subst hX
  have hown2 := hown.alloc (.cells #[.int k (y : Int)] e)
  refine wpList_append_rd _ hgd s x t ho base e i z bytes ht hi hz hsize hby hzs v n (ints k ys) hs hown2 k (w.heap.size + 1) (some ⟨w.heap.size, 0, none⟩) 1 1 [y] hx rfl (fun _ => ⟨_, _, rfl, Nat.lt_succ_self _, fun j hj => ?_⟩) h63 hbytes (by simp; omega) fun v' w' h1 h2 => ?_
  · obtain rfl : j = 0 := by simpa using hj
    simp [nth]
  · have hg : w.grownBy w' v.ownBlock := ⟨h2.os, h2.tape, h2.output, Nat.le_trans (by simp) h2.size, fun q hq hne => (h2.block q (by simp; omega) hne).trans (Below.heap_alloc _ _ _ hq)⟩
    exact h v' w' (by rw [ints_append]; exact h1) hg (below_of_grown w hown hg hbase)
end

/-- What is owned from a block on is owned from an earlier one on. -/
theorem own_base {w : World} {b b' : Nat} {e : TypeId} {v : Value} {n : Nat} {xs : List Value} (h : w.ownsRow b e 1 v n xs) (hb : b' ≤ b) : w.ownsRow b' e 1 v n xs := by
  refine ⟨h.1, ?_⟩
  rcases h.2 with h2 | ⟨g, cap, cur, e1, e2, e3⟩
  · exact .inl h2
  · exact .inr ⟨g, cap, cur, e1, Nat.le_trans hb e2, e3⟩
/-- What is owned is owned behind a call that leaves alone what lay. -/
theorem own_step {w w' : World} {base : Nat} {e : TypeId} {v : Value} {n : Nat} {xs : List Value} (h : w.ownsRow base e 1 v n xs) (b : Below w.heap.size w w') : w'.ownsRow base e 1 v n xs := by
  refine h.kept (row := none) ⟨b.os, b.tape, b.output, b.size, fun i hi _ => b.block i hi⟩ ?_
  rcases hv : v.ownBlock with _ | x
  · exact .inl rfl
  · exact .inr (by simp)

/-- Nothing has turned but the count of draws. -/
def Drawn (w w' : World) : Prop := ∃ n, w' = w.drewN n
theorem Drawn.refl (w : World) : Drawn w w := ⟨0, rfl⟩
theorem Drawn.more {w : World} (n : Nat) : Drawn w (w.drewN n) := ⟨n, rfl⟩
theorem Drawn.draws {w w' : World} (h : Drawn w w') (n : Nat) : Drawn w (w'.drewN n) := by
  obtain ⟨m, rfl⟩ := h
  exact ⟨m + n, by rw [World.drewN_drewN]⟩
theorem Drawn.trans {a b c : World} (h : Drawn a b) (k : Drawn b c) : Drawn a c := by
  obtain ⟨n, rfl⟩ := k
  exact h.draws n
theorem Drawn.below {w w' : World} (h : Drawn w w') (B : Nat) : Below B w w' := by
  obtain ⟨n, rfl⟩ := h
  exact ⟨rfl, rfl, rfl, Nat.le_refl _, fun _ _ => rfl⟩
theorem Drawn.rd {w w' : World} (h : Drawn w w') {k : IntKind} {B : Nat} {A : Option Addr} {l : List Nat} (hr : Rd k w B A l) : Rd k w' B A l := hr.below (h.below B)
theorem Drawn.own {w w' : World} (h : Drawn w w') {base : Nat} {e : TypeId} {n : Nat} {v : Value} {xs : List Value} (ho : w.ownsRow base e 1 v n xs) : w'.ownsRow base e 1 v n xs := by
  obtain ⟨m, rfl⟩ := h
  exact ho
theorem Drawn.size {w w' : World} (h : Drawn w w') : w'.heap.size = w.heap.size := by
  obtain ⟨m, rfl⟩ := h
  rfl
/-- Bytes as a string. -/
def str (l : List Nat) : ByteArray := ⟨(l.map UInt8.ofNat).toArray⟩
theorem push_str (l : List Nat) (acc : ByteArray) : (l.map fun n : Nat => (n : Int)).foldl (fun r n => r.push (UInt8.ofNat n.toNat)) acc = ⟨acc.data ++ (l.map UInt8.ofNat).toArray⟩ := by
  induction l generalizing acc with
  | nil => simp
  | cons x r ih =>
    rw [List.map_cons, List.foldl_cons, ih]
    simp [ByteArray.push]
/-- string(b) -/
theorem run_str {P : Program} (w : World) (src dst e : TypeId) (hs : P.underlying src = some (.slice e)) (he : P.underlying e = some (.int .u8)) (hd : P.underlying dst = some .string)
    (B : Nat) (A : Option Addr) (l : List Nat) (c : Nat) (hr : Rd .u8 w B A l) : (convert src dst (.slice A l.length c)).run P w = .ok (.string (str l)) w := by
  rw [run_convert_bytes_string w src dst e A l.length c hs he hd]
  rcases A with _ | ad
  · have h0 : l = [] := by
      rcases Nat.eq_zero_or_pos l.length with h0 | h0
      · exact List.eq_nil_of_length_eq_zero h0
      · obtain ⟨_, _, he, _⟩ := hr h0
        cases he
    subst h0
    rfl
  · have hl : (loadCells ad l.length).run P w = .ok ((l.map fun n : Nat => (n : Int)).map (Value.int .u8)).toArray w := by
      have e : (l.map fun n : Nat => (n : Int)).map (Value.int .u8) = ints .u8 l := by simp [ints]
      rw [e]
      have := run_loadCells_list (P := P) (w := w) ad (ints .u8 l) (fun j v hv => by
        have hj : j < l.length := by have := (List.getElem?_eq_some_iff.1 hv).1; rwa [length_ints] at this
        obtain ⟨ad', h1, h2⟩ := hr.src (by rw [length_ints]; omega)
        injection h1 with h1
        subst h1
        exact h2 j v hv)
      rw [length_ints] at this
      exact this
    rw [run_bytesToString w ad l.length c _ hl, push_str, show ByteArray.empty.data = #[] from rfl, Array.empty_append]
    rfl
/-- A slice that is written out. -/
theorem Rd.lit (w : World) (k : IntKind) (e : TypeId) (l : List Nat) : Rd k (w.alloc (.cells (ints k l).toArray e)) (w.heap.size + 1) (some ⟨w.heap.size, 0, none⟩) l := fun _ =>
  ⟨_, _, rfl, Nat.lt_succ_self _, fun j hj => by
    have h := cell_of_row _ w.heap.size (0 + j) _ e (0, 0) (heap_alloc_new w (.cells (ints k l).toArray e))
    rw [h, Nat.zero_add]
    simpa using ints_get k l j hj⟩
end Go.Proofs.Ytjimnepjheppgaa

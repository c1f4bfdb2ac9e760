/- The contracts of the law's own roomy and kept: bytes with 600 noughts of room behind them; they are as they were. Conditions: as typed. -/
import Derived.Test.YticgcjfgonejpaaRef1
import Derived.Test.YticgcjfgonejpaaStr
namespace Go.Proofs.Yticgcjfgonejpaa
open Go.RowKit

/-- 'append' onto a block that is known whole, within its room. -/
theorem wpList_append_whole {P : Program} (w : World) {ops : Array Oper} {rest : List Oper} {o : Oper} {a : Act} {Q : Exit → Act → World → Prop} (hgd : o.guard = none) (s x : Operand) (t : TypeId)
    (ho : o.op = .call { callee := .builtin .append, args := #[s, x], argTypes := #[t, t] }) (e : TypeId) (i : TypeInfo) (ht : P.underlying t = some (.slice e)) (hi : P.info? e = some i) (hsize : i.size = 1)
    (g n cap : Nat) (cur : List Value) (hs : a.eval s = .slice (some ⟨g, 0, none⟩) n cap) (hg : w.heap[g]? = some (.cells cur.toArray e (0, 0))) (hcap : cur.length = cap) (hm : cap ≤ maxLen)
    (k : IntKind) (B : Nat) (A : Option Addr) (m c : Nat) (l : List Nat) (hx : a.eval x = .slice A m c) (hl : l.length = m) (hr : Rd k w B A l) (hroom : n + m ≤ cap)
    (h : ∀ w', w'.heap[g]? = some (.cells (cur.take n ++ ints k l ++ cur.drop (n + m)).toArray e (0, 0)) → w.grownBy w' (some g) → wpList P ops Q rest (a.put o.dst (.slice (some ⟨g, 0, none⟩) (n + m) cap)) w') : wpList P ops Q (o :: rest) a w := by
  refine wpList_plain hgd fun K hK => ?_
  rcases A with _ | ad
  · have h0 : l = [] := by
      rcases Nat.eq_zero_or_pos l.length with h0 | h0
      · exact List.eq_nil_of_length_eq_zero h0
      · obtain ⟨_, _, he, _⟩ := hr h0
        cases he
    subst h0
    obtain rfl : m = 0 := by simpa using hl.symm
    have hown : w.ownsRow 0 e 1 (.slice (some ⟨g, 0, none⟩) n cap) n (cur.take n) := own_of_heap hg (Nat.zero_le _) (by omega) hm hcap rfl
    have hrun := run_append_nothing (P := P) w 0 t o.type e i ht hi _ n _ hown c
    unfold Oper.wp
    simp [execOp, ho, resolve, invoke, builtin, hs, hx, hrun, Result.andThen]
    exact hK _ _ (h w (by simpa [ints] using hg) (World.grownBy.refl w _))
  · have hcells : ∀ j u, (ints k l)[j]? = some u → w.cell? (ad.add j) = some u := fun j u hu => by
      obtain ⟨ad', h1, h2⟩ := hr.src (by have := (List.getElem?_eq_some_iff.1 hu).1; omega)
      injection h1 with h1
      subst h1
      exact h2 j u hu
    have hrun := run_append_room (P := P) w t o.type e i ht hi g n cap cur.toArray hg ad m c (ints k l) (by rw [length_ints, hsize]; omega) hcells (ints_one k l) hroom (by rw [hsize, length_ints]; simp; omega)
    rw [hsize, Nat.mul_one, length_ints, hl] at hrun
    unfold Oper.wp
    simp [execOp, ho, resolve, invoke, builtin, hs, hx, hrun, Result.andThen]
    refine hK _ _ (h _ ?_ ⟨rfl, rfl, rfl, by simp, fun q _ hq => setRow_other w g q _ (fun e => hq (by simp [e]))⟩)
    have := setRow_heap w g cur.toArray (cur.take n ++ (ints k l ++ cur.drop (n + m))).toArray e _ hg
    simpa using this

/-- The room. -/
def noughts (n : Nat) : List Nat := List.replicate n 0
theorem length_noughts (n : Nat) : (noughts n).length = n := by simp [noughts]
/-- A block that holds l, and 600 noughts behind. -/
def Roomy (w : World) (g : Nat) (l : List Nat) : Prop := w.heap[g]? = some (.cells (ints .u8 (l ++ noughts 600)).toArray 5 (0, 0))
theorem Roomy.keep {w w' : World} {g B : Nat} {l : List Nat} (h : Roomy w g l) (hb : Below B w w') (hg : g < B) : Roomy w' g l := (hb.block g hg).trans h
theorem Roomy.cell {w : World} {g : Nat} {l : List Nat} (h : Roomy w g l) (j : Nat) (hj : j < l.length + 600) : w.cell? ⟨g, j, none⟩ = some (.int .u8 (nth (l ++ noughts 600) j : Int)) := by
  have := cell_of_row w g j _ _ _ h
  rw [this]
  simpa using ints_get .u8 (l ++ noughts 600) j (by rw [List.length_append, length_noughts]; exact hj)
theorem Roomy.lt {w : World} {g : Nat} {l : List Nat} (h : Roomy w g l) : g < w.heap.size := by
  rcases Nat.lt_or_ge g w.heap.size with h1 | h1
  · exact h1
  · unfold Roomy at h; rw [Array.getElem?_eq_none h1] at h; cases h
theorem nth_left (l m : List Nat) (j : Nat) (h : j < l.length) : nth (l ++ m) j = nth l j := by simp [nth, List.getElem?_append_left h]
theorem nth_noughts (l : List Nat) (j n : Nat) (h : l.length ≤ j) : nth (l ++ noughts n) j = 0 := by
  simp only [noughts, nth, List.getD_eq_getElem?_getD, List.getElem?_append_right h, List.getElem?_replicate]
  split <;> rfl
theorem Roomy.rd {w : World} {g : Nat} {l : List Nat} (h : Roomy w g l) : Rd .u8 w w.heap.size (some ⟨g, 0, none⟩) l := fun _ =>
  ⟨g, 0, rfl, h.lt, fun j hj => by rw [Nat.zero_add, h.cell j (by omega), nth_left l _ j hj]⟩

theorem roomy_any (A : Option Addr) (c : Nat) (l : List Nat) (w : World) (hr : Rd .u8 w w.heap.size A l) (hl : l.length ≤ 1099511627776) :
    Calls Try.prog 8 #[.slice A l.length c] w fun e w' => e = .returned (.slice (some ⟨w.heap.size, 0, none⟩) l.length (l.length + 600)) ∧ Roomy w' w.heap.size l ∧ Below w.heap.size w w' := by
  obtain ⟨i0, hi, hz0, hz1, hz2⟩ := info_parts info_u8
  obtain ⟨q, hq⟩ : ∃ q, q = l.length + 600 := ⟨_, rfl⟩
  have hmk : ∀ u : World, (Instr.makeSlice 22 (.int .i64 0) (.int .i64 ((l.length : Int) + 600))).run Try.prog u =
      .ok (.slice (some ⟨u.heap.size, 0, none⟩) 0 q) (u.alloc (.cells (ints .u8 (noughts q)).toArray 5)) := fun u => by
    have h := run_make (P := Try.prog) u 22 5 i0 (.int .u8 0) Try.underlying22 hi hz0 .i64 .i64 0 ((l.length : Int) + 600) (by omega) (by omega) (by rw [hz2]; omega) (by omega)
    rw [show ((l.length : Int) + 600).toNat = q by omega, show (0 : Int).toNat = 0 from rfl, hz1, Nat.mul_one] at h
    have e : madeCells (Value.int .u8 0).cells q = (ints .u8 (noughts q)).toArray := by
      rw [show ints .u8 (noughts q) = List.replicate q (Value.int .u8 0) by simp [ints, noughts], ← toList_madeCells_one]
      simp [Value.cells]
    rw [h, e]
  have hlq : l.length ≤ q := by omega
  have hq2 : q ≤ 1099511628376 := by omega
  have Hq := Lib.hid hq
  clear hq
  have hin : (ints .u8 (noughts q)).length = q := by rw [length_ints, length_noughts]
  have Hin := Lib.hid hin
  clear hin
  go_enter Try.func8, Try.ntmps8
  go_wp2_with (at_builtin; refine wpList_append_whole _ rfl (.tmp 6) (.tmp 7) _ rfl 5 i0 Try.underlying22 hi hz1 w.heap.size 0 q (ints .u8 (noughts q)) rfl ?c1 ?c2 ?c3 .u8 w.heap.size A l.length c l rfl rfl ?c4 ?c5 ?_)
  case c1 => exact heap_alloc_new w (.cells (ints .u8 (noughts q)).toArray 5)
  case c2 => exact Hin.out
  case c3 => unfold maxLen; omega
  case c4 => exact hr.below ((Below.refl _ _).alloc (Nat.le_refl _) _)
  case c5 => omega
  intro w2 hh hg
  have Hh := Lib.hid hh
  clear hh
  go_wp2_with fail
  go_ret
  refine ⟨by rw [← Hq.out]; rfl, ?_, ((Below.refl _ _).alloc (Nat.le_refl _) _).grown hg (by simp) (by simp)⟩
  unfold Roomy
  rw [Hh.out]
  congr 2
  have e : (ints .u8 (noughts q)).drop l.length = ints .u8 (noughts 600) := by
    rw [Hq.out]; simp only [ints, noughts, ← List.map_drop, List.drop_replicate]
    congr 2; omega
  rw [e, ints_append]

set_option maxRecDepth 100000 in
theorem kept_any (A : Option Addr) (c g : Nat) (l : List Nat) (w : World) (hr : Rd .u8 w w.heap.size A l) (hg : Roomy w g l) (hl : l.length ≤ 1099511627776) :
    Calls Try.prog 11 #[.slice (some ⟨g, 0, none⟩) l.length (l.length + 600), .slice A l.length c] w fun e w' => e = .returned (.bool true) ∧ w = w' := by
  have s1 := run_str (P := Try.prog) w 22 9 5 Try.underlying22 Try.underlying5 Try.underlying9 _ _ l (l.length + 600) hg.rd
  have s2 := run_str (P := Try.prog) w 22 9 5 Try.underlying22 Try.underlying5 Try.underlying9 _ _ l c hr
  have hq := str_same l
  have Hg := Lib.hid hg
  clear hg
  go_enter Try.func11, Try.ntmps11
  go_wp2_with fail
  go_loop [6] (fun i => ∃ k : Nat, l.length ≤ k ∧ k ≤ l.length + 600 ∧ i = .int .i64 k) (fun i => l.length + 600 - (intOf i).toNat)
  case atStart => exact ⟨l.length, Nat.le_refl _, by omega, rfl⟩
  case round =>
    obtain ⟨k, hk1, hk2, rfl⟩ := hrel
    by_cases hlt : k < l.length + 600
    · have hc := Hg.out.cell k hlt
      rw [nth_noughts l k 600 hk1] at hc
      go_wp2_with fail
      go_round
      case rel => exact ⟨k + 1, by omega, by omega, by go_num⟩
      case measure => simp [intOf]; omega
    · go_wp2_with fail
      go_ret
      exact ⟨rfl, rfl⟩
end Go.Proofs.Yticgcjfgonejpaa

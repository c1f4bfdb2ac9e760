/- Several texts in one; each begins with a remark that says what it shows and on which conditions. -/
import Derived.Test.YtjeliomjnalpcaaDoorKap
/- New, Reset and Sum of a hash, and of no hash. Conditions: as typed. -/
namespace Go.Proofs.YtjeliomjnalpcaaDoor
open Go.RowKit
set_option maxRecDepth 20000
theorem Laid.firstAt {w : World} (h : Laid w) (i : Nat) (hi : i < 8) : w.cell? ⟨0, i, none⟩ = some (.int .u32 (nth firstS i : Int)) := by
  obtain ⟨⟨_, h⟩, _⟩ := h
  unfold World.cell?
  rw [show w.heap[0]? = _ from h]
  have := ints_get .u32 firstS i hi
  simpa using this
def newCells : List Value := hcells firstS (List.replicate 64 0) 0
theorem new_array : ((((((((Tryd.zeroCells78.setIfInBounds 0 (Value.int IntKind.u32 1779033703)).setIfInBounds 1 (Value.int IntKind.u32 3144134277)).setIfInBounds 2 (Value.int IntKind.u32 1013904242)).setIfInBounds 3 (Value.int IntKind.u32 2773480762)).setIfInBounds 4 (Value.int IntKind.u32 1359893119)).setIfInBounds 5 (Value.int IntKind.u32 2600822924)).setIfInBounds 6 (Value.int IntKind.u32 528734635)).setIfInBounds 7 (Value.int IntKind.u32 1541459225)) = newCells.toArray := by kernel_rfl
theorem new_list : ((((((((Tryd.zeroCells78.toList.set 0 (Value.int IntKind.u32 1779033703)).set 1 (Value.int IntKind.u32 3144134277)).set 2 (Value.int IntKind.u32 1013904242)).set 3 (Value.int IntKind.u32 2773480762)).set 4 (Value.int IntKind.u32 1359893119)).set 5 (Value.int IntKind.u32 2600822924)).set 6 (Value.int IntKind.u32 528734635)).set 7 (Value.int IntKind.u32 1541459225)) = newCells := by kernel_rfl
theorem hashIs_none {w : World} {g : Nat} (h : w.heap[g]? = some (.cells newCells.toArray 78 (0, 0))) : HashIs w g [] :=
  ⟨List.replicate 64 0, ⟨rfl, by simp, h⟩, fun x hx => by have := (List.mem_replicate.1 hx).2; omega, by simp⟩
theorem new_pf (w : World) (hL : Laid w) : Calls Tryd.prog 19 #[] w fun e w' => e = .returned (.pointer (some ⟨w.heap.size, 0, none⟩)) ∧ HashIs w' w.heap.size [] ∧ Below w.heap.size w w' := by
  have d0 : w.cell? ⟨0, 0, none⟩ = some (.int .u32 1779033703) := hL.firstAt 0 (by omega)
  have d1 : w.cell? ⟨0, 1, none⟩ = some (.int .u32 3144134277) := hL.firstAt 1 (by omega)
  have d2 : w.cell? ⟨0, 2, none⟩ = some (.int .u32 1013904242) := hL.firstAt 2 (by omega)
  have d3 : w.cell? ⟨0, 3, none⟩ = some (.int .u32 2773480762) := hL.firstAt 3 (by omega)
  have d4 : w.cell? ⟨0, 4, none⟩ = some (.int .u32 1359893119) := hL.firstAt 4 (by omega)
  have d5 : w.cell? ⟨0, 5, none⟩ = some (.int .u32 2600822924) := hL.firstAt 5 (by omega)
  have d6 : w.cell? ⟨0, 6, none⟩ = some (.int .u32 528734635) := hL.firstAt 6 (by omega)
  have d7 : w.cell? ⟨0, 7, none⟩ = some (.int .u32 1541459225) := hL.firstAt 7 (by omega)
  go_enter Tryd.func19, Tryd.ntmps19
  go_wp2_with fail
  go_ret
  rw [new_array]
  exact ⟨rfl, hashIs_none (heap_alloc_new w _), (Below.refl _ w).alloc (Nat.le_refl _) _⟩
theorem reset_pf (g : Nat) (m : List Nat) (w : World) (hH : HashIs w g m) (hL : Laid w) : Calls Tryd.prog 21 #[.pointer (some ⟨g, 0, none⟩)] w fun e w' => e = .returned (.tuple #[]) ∧ Beside (fun k => k = g) w w' ∧ HashIs w' g [] := by
  have d0 : w.cell? ⟨0, 0, none⟩ = some (.int .u32 1779033703) := hL.firstAt 0 (by omega)
  have d1 : w.cell? ⟨0, 1, none⟩ = some (.int .u32 3144134277) := hL.firstAt 1 (by omega)
  have d2 : w.cell? ⟨0, 2, none⟩ = some (.int .u32 1013904242) := hL.firstAt 2 (by omega)
  have d3 : w.cell? ⟨0, 3, none⟩ = some (.int .u32 2773480762) := hL.firstAt 3 (by omega)
  have d4 : w.cell? ⟨0, 4, none⟩ = some (.int .u32 1359893119) := hL.firstAt 4 (by omega)
  have d5 : w.cell? ⟨0, 5, none⟩ = some (.int .u32 2600822924) := hL.firstAt 5 (by omega)
  have d6 : w.cell? ⟨0, 6, none⟩ = some (.int .u32 528734635) := hL.firstAt 6 (by omega)
  have d7 : w.cell? ⟨0, 7, none⟩ = some (.int .u32 1541459225) := hL.firstAt 7 (by omega)
  obtain ⟨rest, hrow, _, _⟩ := hH
  have hst : (storeCells ⟨g, 0, none⟩ ((((((((Tryd.zeroCells78.toList.set 0 (Value.int IntKind.u32 1779033703)).set 1 (Value.int IntKind.u32 3144134277)).set 2 (Value.int IntKind.u32 1013904242)).set 3 (Value.int IntKind.u32 2773480762)).set 4 (Value.int IntKind.u32 1359893119)).set 5 (Value.int IntKind.u32 2600822924)).set 6 (Value.int IntKind.u32 528734635)).set 7 (Value.int IntKind.u32 1541459225))).run Tryd.prog w = .ok () (w.setRow g newCells.toArray) := by
    rw [new_list]
    have := run_storeCells_from (P := Tryd.prog) g _ newCells 0 _ w hrow.row (by rw [Nat.zero_add, List.size_toArray, length_hcells _ _ _ hrow.lw hrow.lr]; exact length_hcells _ _ _ rfl (by simp)) (hcells_one _ _ _)
    simpa using this
  have hs := setRow_heap w g _ newCells.toArray _ (0, 0) hrow.row
  go_enter Tryd.func21, Tryd.ntmps21
  go_wp2_with fail
  refine bodyPost_end (results_none rfl _ _ _) rfl ⟨rfl, Beside.setRow w g _ rfl, hashIs_none hs⟩
theorem noReset_pf (w : World) : Calls Tryd.prog 21 #[.pointer none] w fun e w' => e = .returned (.tuple #[]) ∧ Below w.heap.size w w' := by
  go_enter Tryd.func21, Tryd.ntmps21
  go_wp2_with fail
  exact bodyPost_end (results_none rfl _ _ _) rfl ⟨rfl, Below.refl _ w⟩
theorem noWrite_pf (w : World) (A : Option Addr) (n c : Nat) : Calls Tryd.prog 22 #[.pointer none, .slice A n c] w fun e w' => e = .returned (.int .i64 2) ∧ Below w.heap.size w w' := by
  go_enter Tryd.func22, Tryd.ntmps22
  go_wp2_with fail
  go_ret
  exact ⟨rfl, Below.refl _ w⟩
/-- Two rows of noughts, of which one is copied into the other. -/
theorem two32 (w : World) : ArrK .u8 ((w.alloc (.cells #[.int .u8 0, .int .u8 0, .int .u8 0, .int .u8 0, .int .u8 0, .int .u8 0, .int .u8 0, .int .u8 0, .int .u8 0, .int .u8 0, .int .u8 0, .int .u8 0, .int .u8 0, .int .u8 0, .int .u8 0, .int .u8 0, .int .u8 0, .int .u8 0, .int .u8 0, .int .u8 0, .int .u8 0, .int .u8 0, .int .u8 0, .int .u8 0, .int .u8 0, .int .u8 0, .int .u8 0, .int .u8 0, .int .u8 0, .int .u8 0, .int .u8 0, .int .u8 0] 35)).alloc (.cells #[.int .u8 0, .int .u8 0, .int .u8 0, .int .u8 0, .int .u8 0, .int .u8 0, .int .u8 0, .int .u8 0, .int .u8 0, .int .u8 0, .int .u8 0, .int .u8 0, .int .u8 0, .int .u8 0, .int .u8 0, .int .u8 0, .int .u8 0, .int .u8 0, .int .u8 0, .int .u8 0, .int .u8 0, .int .u8 0, .int .u8 0, .int .u8 0, .int .u8 0, .int .u8 0, .int .u8 0, .int .u8 0, .int .u8 0, .int .u8 0, .int .u8 0, .int .u8 0] 35)) w.heap.size 35 (List.replicate 32 0) ∧ ArrK .u8 ((w.alloc (.cells #[.int .u8 0, .int .u8 0, .int .u8 0, .int .u8 0, .int .u8 0, .int .u8 0, .int .u8 0, .int .u8 0, .int .u8 0, .int .u8 0, .int .u8 0, .int .u8 0, .int .u8 0, .int .u8 0, .int .u8 0, .int .u8 0, .int .u8 0, .int .u8 0, .int .u8 0, .int .u8 0, .int .u8 0, .int .u8 0, .int .u8 0, .int .u8 0, .int .u8 0, .int .u8 0, .int .u8 0, .int .u8 0, .int .u8 0, .int .u8 0, .int .u8 0, .int .u8 0] 35)).alloc (.cells #[.int .u8 0, .int .u8 0, .int .u8 0, .int .u8 0, .int .u8 0, .int .u8 0, .int .u8 0, .int .u8 0, .int .u8 0, .int .u8 0, .int .u8 0, .int .u8 0, .int .u8 0, .int .u8 0, .int .u8 0, .int .u8 0, .int .u8 0, .int .u8 0, .int .u8 0, .int .u8 0, .int .u8 0, .int .u8 0, .int .u8 0, .int .u8 0, .int .u8 0, .int .u8 0, .int .u8 0, .int .u8 0, .int .u8 0, .int .u8 0, .int .u8 0, .int .u8 0] 35)) (w.heap.size + 1) 35 (List.replicate 32 0) ∧ Below w.heap.size w ((w.alloc (.cells #[.int .u8 0, .int .u8 0, .int .u8 0, .int .u8 0, .int .u8 0, .int .u8 0, .int .u8 0, .int .u8 0, .int .u8 0, .int .u8 0, .int .u8 0, .int .u8 0, .int .u8 0, .int .u8 0, .int .u8 0, .int .u8 0, .int .u8 0, .int .u8 0, .int .u8 0, .int .u8 0, .int .u8 0, .int .u8 0, .int .u8 0, .int .u8 0, .int .u8 0, .int .u8 0, .int .u8 0, .int .u8 0, .int .u8 0, .int .u8 0, .int .u8 0, .int .u8 0] 35)).alloc (.cells #[.int .u8 0, .int .u8 0, .int .u8 0, .int .u8 0, .int .u8 0, .int .u8 0, .int .u8 0, .int .u8 0, .int .u8 0, .int .u8 0, .int .u8 0, .int .u8 0, .int .u8 0, .int .u8 0, .int .u8 0, .int .u8 0, .int .u8 0, .int .u8 0, .int .u8 0, .int .u8 0, .int .u8 0, .int .u8 0, .int .u8 0, .int .u8 0, .int .u8 0, .int .u8 0, .int .u8 0, .int .u8 0, .int .u8 0, .int .u8 0, .int .u8 0, .int .u8 0] 35)) := by
  have h1 : ArrK .u8 (w.alloc (.cells (ints .u8 (List.replicate 32 0)).toArray 35)) w.heap.size 35 (List.replicate 32 0) := ArrK.new w _ _
  have h2 := ArrK.new (k := .u8) (w.alloc (.cells (ints .u8 (List.replicate 32 0)).toArray 35)) 35 (List.replicate 32 0)
  rw [World.size_alloc] at h2
  exact ⟨heap_kept7 h1 _, h2, ((Below.refl _ w).alloc (Nat.le_refl _) _).alloc (by simp) _⟩
/-- What a result's array holds is copied out of another one, and returned. -/
theorem noSum_pf (w : World) : Calls Tryd.prog 20 #[.pointer none] w fun e w' => e = .returned (.agg (ints .u8 (List.replicate 32 0)).toArray) ∧ Below w.heap.size w w' := by
  obtain ⟨A1, A2, bE⟩ := two32 w
  obtain ⟨E, hE⟩ : ∃ E, (w.alloc (.cells #[.int .u8 0, .int .u8 0, .int .u8 0, .int .u8 0, .int .u8 0, .int .u8 0, .int .u8 0, .int .u8 0, .int .u8 0, .int .u8 0, .int .u8 0, .int .u8 0, .int .u8 0, .int .u8 0, .int .u8 0, .int .u8 0, .int .u8 0, .int .u8 0, .int .u8 0, .int .u8 0, .int .u8 0, .int .u8 0, .int .u8 0, .int .u8 0, .int .u8 0, .int .u8 0, .int .u8 0, .int .u8 0, .int .u8 0, .int .u8 0, .int .u8 0, .int .u8 0] 35)).alloc (.cells #[.int .u8 0, .int .u8 0, .int .u8 0, .int .u8 0, .int .u8 0, .int .u8 0, .int .u8 0, .int .u8 0, .int .u8 0, .int .u8 0, .int .u8 0, .int .u8 0, .int .u8 0, .int .u8 0, .int .u8 0, .int .u8 0, .int .u8 0, .int .u8 0, .int .u8 0, .int .u8 0, .int .u8 0, .int .u8 0, .int .u8 0, .int .u8 0, .int .u8 0, .int .u8 0, .int .u8 0, .int .u8 0, .int .u8 0, .int .u8 0, .int .u8 0, .int .u8 0] 35) = E := ⟨_, rfl⟩
  rw [hE] at A1 A2 bE
  obtain ⟨cs, hcs⟩ : ∃ cs, (ints .u8 (List.replicate 32 0)).toArray = cs := ⟨_, rfl⟩
  have hB2 : E.heap[w.heap.size + 1]? = some (.cells cs 35 (0, 0)) := by rw [← hcs]; exact A2
  have hR2 : E.heap[w.heap.size]? = some (.cells cs 35 (0, 0)) := by rw [← hcs]; exact A1
  have R1 := setRow_heap E w.heap.size cs cs 35 (0, 0) hR2
  have B1 := Go.Proofs.YtjeliomjnalpcaaDoor.below_setRow bE (Nat.le_refl _) cs
  have hcsz : cs.size = 32 := by rw [← hcs]; simp [length_ints]
  have hone : cs.all (·.oneCell') = true := by
    rw [← hcs]
    exact Array.all_eq_true_iff_forall_mem.2 fun v hv => ints_one _ _ v (by simpa using hv)
  have hinf : (Tryd.prog.info? 35).map (·.size) = some cs.size := by rw [hcsz]; kernel_rfl
  have HC := Lib.hid hcs
  have HX := Lib.hid (And.intro R1 B1)
  have HB2 := Lib.hid (And.intro hB2 hR2)
  have HI := Lib.hid (And.intro hinf hone)
  clear R1 B1 hB2 hR2 hinf hone hcsz hcs A1 A2 bE
  go_enter Tryd.func20, Tryd.ntmps20
  go_upto_region 3 with fail
  (try rw [hE])
  refine wp_row_copy 35 _ 3 2 9 _ _ _ _ (w.heap.size + 1) w.heap.size cs cs ?hx ?hy ?hd (by decide) HB2.out.1 HB2.out.2 Tryd.underlying35 HI.out.1 rfl HI.out.2 ?hq
  case hx => rfl
  case hy => rfl
  case hd => exact (by decide : 9 < 32)
  case hq =>
    have hput : ∀ a : Act, a.put none undef = a := fun _ => rfl
    rw [hput]
    go_wp2_with fail
    refine bodyPost_ret (v := .agg cs) ?_ rfl ?_
    · exact results_cell_row (p := 2) rfl _ _ w.heap.size 35 cs (0, 0) _ rfl HX.out.1 Tryd.underlying35 rfl HI.out.1
    · exact ⟨by rw [HC.out], HX.out.2⟩
theorem outS_put (h : List Nat) (hlt : W32 h) (i : Nat) (hi : i < 8) : put4 (outS h (4 * i)) (4 * i) (nth h i) = outS h (4 * (i + 1)) := by
  have e0 := outS_set h (4 * i) (by omega)
  have e1 := outS_set h (4 * i + 1) (by omega)
  have e2 := outS_set h (4 * i + 2) (by omega)
  have e3 := outS_set h (4 * i + 3) (by omega)
  rw [show 4 * i / 4 = i by omega, show 4 * i % 4 = 0 by omega] at e0
  rw [show (4 * i + 1) / 4 = i by omega, show (4 * i + 1) % 4 = 1 by omega] at e1
  rw [show (4 * i + 2) / 4 = i by omega, show (4 * i + 2) % 4 = 2 by omega] at e2
  rw [show (4 * i + 3) / 4 = i by omega, show (4 * i + 3) % 4 = 3 by omega] at e3
  have hx := nth_word7 h hlt i
  simp only [Nat.reducePow, Nat.reduceSub, Nat.sub_zero, Nat.div_one] at e0 e1 e2 e3
  rw [Nat.mod_eq_of_lt (show nth h i / 16777216 < 256 by omega)] at e0
  unfold put4
  rw [e0, e1, e2, e3]
  rfl
theorem HashIs.keep {w w' : World} {g : Nat} {m : List Nat} (h : HashIs w g m) (e : w'.heap[g]? = w.heap[g]?) : HashIs w' g m := by
  obtain ⟨rest, h1, h2, h3⟩ := h
  exact ⟨rest, h1.keep e, h2, h3⟩
theorem HashIs.lt {w : World} {g : Nat} {m : List Nat} (h : HashIs w g m) : g < w.heap.size := by
  obtain ⟨rest, h1, _, _⟩ := h
  exact h1.lt
set_option maxHeartbeats 4000000 in
theorem sum_pf (g : Nat) (m : List Nat) (w : World) (hH : HashIs w g m) (hL : Laid w) (hm : Bytes m) (hbig : m.length ≤ 800000) : Calls Tryd.prog 20 #[.pointer (some ⟨g, 0, none⟩)] w fun e w' => e = .returned (.agg (ints .u8 (shaS m)).toArray) ∧ Below w.heap.size w w' := by
  obtain ⟨A1, A2, bE⟩ := two32 w
  obtain ⟨E, hE⟩ : ∃ E, (w.alloc (.cells #[.int .u8 0, .int .u8 0, .int .u8 0, .int .u8 0, .int .u8 0, .int .u8 0, .int .u8 0, .int .u8 0, .int .u8 0, .int .u8 0, .int .u8 0, .int .u8 0, .int .u8 0, .int .u8 0, .int .u8 0, .int .u8 0, .int .u8 0, .int .u8 0, .int .u8 0, .int .u8 0, .int .u8 0, .int .u8 0, .int .u8 0, .int .u8 0, .int .u8 0, .int .u8 0, .int .u8 0, .int .u8 0, .int .u8 0, .int .u8 0, .int .u8 0, .int .u8 0] 35)).alloc (.cells #[.int .u8 0, .int .u8 0, .int .u8 0, .int .u8 0, .int .u8 0, .int .u8 0, .int .u8 0, .int .u8 0, .int .u8 0, .int .u8 0, .int .u8 0, .int .u8 0, .int .u8 0, .int .u8 0, .int .u8 0, .int .u8 0, .int .u8 0, .int .u8 0, .int .u8 0, .int .u8 0, .int .u8 0, .int .u8 0, .int .u8 0, .int .u8 0, .int .u8 0, .int .u8 0, .int .u8 0, .int .u8 0, .int .u8 0, .int .u8 0, .int .u8 0, .int .u8 0] 35) = E := ⟨_, rfl⟩
  have hEs : E.heap.size = w.heap.size + 2 := by rw [← hE]; simp
  rw [hE] at A1 A2 bE
  obtain ⟨rest, hrow, hrb, hpre⟩ := hH
  have hgw := hrow.lt
  have hrow1 := hrow.below bE
  obtain ⟨cs, hcs⟩ : ∃ cs, (hcells (foldS m (m.length / 64)) rest m.length).toArray = cs := ⟨_, rfl⟩
  have hg2 : E.heap[g]? = some (.cells cs 78 (0, 0)) := by rw [← hcs]; exact hrow1.row
  have hcz : cs.size = 73 := by rw [← hcs, List.size_toArray]; exact length_hcells _ _ _ hrow.lw hrow.lr
  have hst : (storeCells ⟨E.heap.size, 0, none⟩ cs.toList).run Tryd.prog (E.alloc (.cells Tryd.zeroCells78 78)) = .ok () (E.alloc (.cells cs 78)) :=
    run_storeCells_new E _ _ cs (by rw [hcz]; kernel_rfl) (by rw [hcz]; kernel_rfl) (by
      rw [← hcs]
      exact Array.all_eq_true_iff_forall_mem.2 fun v hv => hcells_one _ _ _ v (by simpa using hv))
  have b2 := bE.alloc bE.size (.cells cs 78)
  have hlen := (hrow1.below ((Below.refl _ E).alloc (Nat.le_refl _) (.cells cs 78))).len
  have hnew : HashIs (E.alloc (.cells cs 78)) E.heap.size m := ⟨rest, ⟨hrow.lw, hrow.lr, by rw [hcs]; exact heap_alloc_new E _⟩, hrb, hpre⟩
  have hL2 := hL.below b2
  have A1 := A1.below ((Below.refl _ E).alloc (Nat.le_refl _) (.cells cs 78))
  have A2 := A2.below ((Below.refl _ E).alloc (Nat.le_refl _) (.cells cs 78))
  obtain ⟨ml, hml⟩ : ∃ ml, m.length = ml := ⟨_, rfl⟩
  rw [hml] at hlen hbig
  have HA := Lib.hid (And.intro A1 (And.intro A2 (And.intro b2 (And.intro hnew hL2))))
  have HS := Lib.hid (And.intro hEs (And.intro hL.size hm))
  have HML := Lib.hid hml
  have HW := Lib.hid (And.intro hg2 (show (Tryd.prog.info? 78).map (·.size) = some cs.size by rw [hcz]; kernel_rfl))
  clear hg2 hcs A1 A2 b2 hnew hL2 hEs hL hm hml hrow hrow1 hpre bE hgw
  go_enter Tryd.func20, Tryd.ntmps20
  go_upto_region 4 with fail
  (try rw [hE])
  clear hE
  go_wp2_with (with_reducible refine wpList_load_row rfl 78 (.tmp 11) rfl g rfl 78 cs (0, 0) _ HW.out.1 Tryd.underlying78 rfl HW.out.2 ?_)
  obtain ⟨W1, hW1⟩ : ∃ W1, E.alloc (.cells cs 78) = W1 := ⟨_, rfl⟩
  rw [hW1] at HA ⊢
  clear hW1 hst HW hlen
  obtain ⟨G, hG⟩ : ∃ G, E.heap.size = G := ⟨_, rfl⟩
  rw [hG] at HA HS ⊢
  clear hG
  have hz64 : zerosS ml < 64 := Nat.mod_lt _ (by omega)
  refine (ending_pf ml (by omega) W1).mono ?_
  rintro e w3 ⟨ge, ce, rfl, hce, hge, hR, b3⟩
  have b23 := HA.out.2.2.1.trans (b3.mono HA.out.2.2.1.size)
  have hGl := HA.out.2.2.2.1.lt
  have hWr := write_pf G m (endS ml) (some ⟨ge, 0, none⟩) (9 + zerosS ml) ce w3 (HA.out.2.2.2.1.keep (b3.block G hGl)) (by have := HS.out.1; omega) (HA.out.2.2.2.2.below b3) HS.out.2.2 hR (endS_bytes ml) (length_endS ml) hce (by rw [HML.out]; omega) (fun _ k o e => by cases e; omega)
  have A1 := HA.out.1.below b3
  have A2 := HA.out.2.1.below b3
  have HWr := Lib.hid hWr
  have HB := Lib.hid (And.intro A1 (And.intro A2 b23))
  clear hWr A1 A2 b23 HA hR b3
  go_wp2_with fail
  refine (HWr.out).mono ?_
  rintro e w4 ⟨rfl, B4, H4⟩
  have b4 := B4.below HB.out.2.2 HB.out.2.2.size (fun g hg => by have h : g = G := hg; have := HS.out.1; omega)
  have A1 : ArrK .u8 w4 w.heap.size 35 (List.replicate 32 0) := (B4.block _ HB.out.1.lt (fun hg => by have h : w.heap.size = G := hg; have := HS.out.1; omega)).trans HB.out.1
  have A2 : ArrK .u8 w4 (w.heap.size + 1) 35 (List.replicate 32 0) := (B4.block _ HB.out.2.1.lt (fun hg => by have h : w.heap.size + 1 = G := hg; have := HS.out.1; omega)).trans HB.out.2.1
  obtain ⟨rest4, hrow4, _, _⟩ := H4
  have eB : m ++ endS ml = blocksS m := by rw [blocksS_end, HML.out]
  rw [eB] at hrow4
  have hsha : bytesS (foldS (blocksS m) ((blocksS m).length / 64)) = shaS m := by rw [shaS]
  have hHl := length_foldS (blocksS m) ((blocksS m).length / 64)
  have hHlt := foldS_lt (blocksS m) ((blocksS m).length / 64)
  obtain ⟨H, hH⟩ : ∃ H, foldS (blocksS m) ((blocksS m).length / 64) = H := ⟨_, rfl⟩
  rw [hH] at hrow4 hsha hHl hHlt
  obtain ⟨v0, v1, v2, v3, v4, v5, v6, v7, rfl⟩ := list8 H hHl
  have d0 : w4.cell? ⟨G, 0, none⟩ = some (.int .u32 (v0 : Int)) := hrow4.word 0 (by omega)
  have d1 : w4.cell? ⟨G, 1, none⟩ = some (.int .u32 (v1 : Int)) := hrow4.word 1 (by omega)
  have d2 : w4.cell? ⟨G, 2, none⟩ = some (.int .u32 (v2 : Int)) := hrow4.word 2 (by omega)
  have d3 : w4.cell? ⟨G, 3, none⟩ = some (.int .u32 (v3 : Int)) := hrow4.word 3 (by omega)
  have d4 : w4.cell? ⟨G, 4, none⟩ = some (.int .u32 (v4 : Int)) := hrow4.word 4 (by omega)
  have d5 : w4.cell? ⟨G, 5, none⟩ = some (.int .u32 (v5 : Int)) := hrow4.word 5 (by omega)
  have d6 : w4.cell? ⟨G, 6, none⟩ = some (.int .u32 (v6 : Int)) := hrow4.word 6 (by omega)
  have d7 : w4.cell? ⟨G, 7, none⟩ = some (.int .u32 (v7 : Int)) := hrow4.word 7 (by omega)
  have hix := fun (u : World) (j : Nat) (hj : j < 8) => run_index_ints (P := Tryd.prog) u 54 23 8 .u32 Tryd.underlying54 Tryd.underlying23 (fun w => by rfl) [v0, v1, v2, v3, v4, v5, v6, v7] rfl j hj
  change ∀ (u : World) (j : Nat), j < 8 → (Instr.index 54 (.agg #[.int .u32 (v0 : Int), .int .u32 (v1 : Int), .int .u32 (v2 : Int), .int .u32 (v3 : Int), .int .u32 (v4 : Int), .int .u32 (v5 : Int), .int .u32 (v6 : Int), .int .u32 (v7 : Int)]) (.int .i64 (j : Int))).run Tryd.prog u = .ok (.int .u32 (nth [v0, v1, v2, v3, v4, v5, v6, v7] j : Int)) u at hix
  have HIX := Lib.hid hix
  have HSH := Lib.hid hsha
  have HLT := Lib.hid hHlt
  clear hix hsha hHlt hHl hH eB hrow4 B4 HB HWr
  go_wp2_with fail
  clear d0 d1 d2 d3 d4 d5 d6 d7
  go_loopw [21] (fun v wr => ∃ i : Nat, i ≤ 8 ∧ v = .int .i64 (i : Int) ∧ ArrK .u8 wr (w.heap.size + 1) 35 (outS [v0, v1, v2, v3, v4, v5, v6, v7] (4 * i)) ∧ ArrK .u8 wr w.heap.size 35 (List.replicate 32 0) ∧ Below w.heap.size w wr) (fun v _ => 8 - (intOf v).toNat)
  case atStart => exact ⟨0, by omega, rfl, by rw [Nat.mul_zero, outS_none]; exact A2, A1, b4⟩
  case round =>
    clear A1 A2 b4
    obtain ⟨i, hi, rfl, A2, A1, hB⟩ := hrel
    by_cases hi8 : i < 8
    · have hix1 := fun u => HIX.out u i hi8
      have hsl := fun u => slice_out (w.heap.size + 1) i hi8 u
      have hx := nth_word7 _ HLT.out i
      have hP := put_row (w.heap.size + 1) (4 * i) (32 - 4 * i) (32 - 4 * i) (nth [v0, v1, v2, v3, v4, v5, v6, v7] i) _ 35 _ wr rfl hx (by omega) A2 (by rw [length_outS _ _ (by omega)]; omega)
      rw [outS_put _ HLT.out i hi8] at hP
      obtain ⟨x, hx2⟩ : ∃ x, nth [v0, v1, v2, v3, v4, v5, v6, v7] i = x := ⟨_, rfl⟩
      rw [hx2] at hP hix1
      have HP := Lib.hid hP
      have HB := Lib.hid (And.intro A1 hB)
      have hi7 : (i : Int) < 8 := by omega
      clear hP hx2 hx A1 A2 hB
      go_wp2_with fail
      refine (HP.out).mono ?_
      rintro e w6 ⟨rfl, A6, g6⟩
      have HF := Lib.hid (And.intro A6 (And.intro (HB.out.1.kept g6 (by simp)) (HB.out.2.grown g6 HB.out.2.size (fun q e => by cases e; omega))))
      clear A6 g6 HP HB hix1 hsl
      go_wp2_with fail
      go_roundw
      case rel => exact ⟨i + 1, by omega, by go_num, HF.out.1, HF.out.2.1, HF.out.2.2⟩
      case measure => simp [intOf]; omega
    · obtain rfl : i = 8 := by omega
      rw [show 4 * 8 = 32 from rfl, outS_all, HSH.out] at A2
      have hlsh : (shaS m).length = 32 := length_bytesS _
      obtain ⟨cs, hcs⟩ : ∃ cs, (ints .u8 (shaS m)).toArray = cs := ⟨_, rfl⟩
      obtain ⟨zs, hzs⟩ : ∃ zs, (ints .u8 (List.replicate 32 0)).toArray = zs := ⟨_, rfl⟩
      have Q2 : wr.heap[w.heap.size + 1]? = some (.cells cs 35 (0, 0)) := by rw [← hcs]; exact A2
      have O2 : wr.heap[w.heap.size]? = some (.cells zs 35 (0, 0)) := by rw [← hzs]; exact A1
      have R1 : (wr.setRow w.heap.size cs).heap[w.heap.size]? = some (.cells cs 35 (0, 0)) := by rw [← hcs]; exact A1.stored (shaS m)
      have B1 := Go.Proofs.YtjeliomjnalpcaaDoor.below_setRow hB (Nat.le_refl _) cs
      have hcsz : cs.size = 32 := by rw [← hcs]; simp [length_ints, hlsh]
      have hzsz : zs.size = cs.size := by rw [hcsz, ← hzs]; simp [length_ints]
      have hone : cs.all (·.oneCell') = true := by
        rw [← hcs]
        exact Array.all_eq_true_iff_forall_mem.2 fun v hv => ints_one _ _ v (by simpa using hv)
      have hinf : (Tryd.prog.info? 35).map (·.size) = some cs.size := by rw [hcsz]; kernel_rfl
      have HC := Lib.hid hcs
      have HX := Lib.hid (And.intro R1 B1)
      have HQ2 := Lib.hid (And.intro Q2 O2)
      have HI := Lib.hid (And.intro hinf (And.intro hzsz hone))
      clear R1 B1 Q2 O2 hinf hzsz hone hcsz hcs hzs hlsh hB A1 A2
      go_upto_region 11 with fail
      refine wp_row_copy 35 _ 3 2 31 _ _ _ _ (w.heap.size + 1) w.heap.size cs zs ?hx ?hy ?hd (by decide) HQ2.out.1 HQ2.out.2 Tryd.underlying35 HI.out.1 HI.out.2.1 HI.out.2.2 ?hq
      case hx => rfl
      case hy => rfl
      case hd => exact (by decide : 31 < 32)
      case hq =>
        have hput : ∀ a : Act, a.put none undef = a := fun _ => rfl
        rw [hput]
        go_wp2_with fail
        refine bodyPost_ret (v := .agg cs) ?_ rfl ?_
        · exact results_cell_row (p := 2) rfl _ _ w.heap.size 35 cs (0, 0) _ rfl HX.out.1 Tryd.underlying35 rfl HI.out.1
        · exact ⟨by rw [HC.out], HX.out.2⟩
end Go.Proofs.YtjeliomjnalpcaaDoor

/- Several texts in one; each begins with a remark that says what it shows and on which conditions. -/
import Derived.Test.YtjeliomjnalpcaaDoorKbo
import Derived.Test.YtjeliomjnalpcaaDoorKar
import Derived.Test.YtjeliomjnalpcaaDoorKbp
import Derived.Test.YtjeliomjnalpcaaDoorKaa
import Derived.OwnWalkIn
import Derived.TacticsInMore
import Derived.RangeFuncCalls
import Derived.WalkKit
import Derived.ProofKit
import Derived.OpenShut
import Derived.ShutString
import Derived.ChangeOld
import Derived.Below
/- The chapter's examples of SHA-256. Condition: the tables of constants are laid. -/
namespace Go.Proofs.YtjeliomjnalpcaaDoor
open Go.RowKit
set_option maxRecDepth 20000
theorem frac_two : IsFrac 2 false 1779033703 := ⟨6074000999, by unfold IsRoot; decide +kernel, by decide⟩
theorem frac_three : IsFrac 3 true 1899447441 := ⟨6194414737, by unfold IsRoot; decide +kernel, by decide⟩
theorem setRow_under (w : World) (c c' : Array Value) (t : TypeId) (o : Obj) : ((w.alloc (.cells c t)).alloc o).setRow w.heap.size c' = (w.alloc (.cells c' t)).alloc o := by
  simp only [World.setRow, World.alloc]
  congr 1
  apply Array.ext_getElem?
  intro i
  rw [Array.getElem?_modify]
  by_cases h : w.heap.size = i
  · subst h
    simp [Array.getElem?_push]
  · have h' : ¬ i = w.heap.size := fun e => h e.symm
    simp [h, h', Array.getElem?_push]
theorem store_under (w : World) (l : List Nat) (h : l.length = 8) (o : Obj) (z : Array Value) (hz : z.size = 8) : (storeCells ⟨w.heap.size, 0, none⟩ (ints .u32 l).toArray.toList).run Tryd.prog ((w.alloc (.cells z 54)).alloc o) = .ok () ((w.alloc (.cells (ints .u32 l).toArray 54)).alloc o) := by
  have hb : ((w.alloc (.cells z 54)).alloc o).heap[w.heap.size]? = some (.cells z 54 (0, 0)) := (((Below.refl _ _).alloc (Nat.le_refl _) o).block w.heap.size (by simp)).trans (heap_alloc_last w _)
  have := run_storeCells_from (P := Tryd.prog) w.heap.size 54 (ints .u32 l) 0 _ _ hb (by simp [length_ints, h, hz]) (ints_one _ _)
  rw [setRow_under] at this
  simpa using this
theorem sum_lit (w : World) (hL : Laid w) (m : List Nat) (hm : Bytes m) (A : Option Addr) (n c : Nat) (hn : m.length = n) (hr : Rd .u8 w w.heap.size A m) (hl : n ≤ 100000) (hc : n ≤ c) (l : List Nat) (e : shaS m = l) : Calls Tryd.prog 17 #[.slice A n c] w (OutAgg .u8 l w) := by
  subst e
  subst hn
  exact shaSum_any A c m w hr hm hl hc hL
theorem heap_kept {W : World} {g : Nat} {x : Obj} (h : W.heap[g]? = some x) (o : Obj) : (W.alloc o).heap[g]? = some x := (((Below.refl _ _).alloc (Nat.le_refl _) o).block g (Array.getElem?_eq_some_iff.1 h).1).trans h
theorem rd_block {k : IntKind} {W : World} {g : Nat} {t : TypeId} {fr : Nat × Nat} {l : List Nat} (h : W.heap[g]? = some (.cells (ints k l).toArray t fr)) : Rd k W (g + 1) (some ⟨g, 0, none⟩) l := fun _ => by
  refine ⟨g, 0, rfl, by omega, fun j hj => ?_⟩
  rw [Nat.zero_add]
  unfold World.cell?
  rw [show W.heap[g]? = _ from h]
  have := ints_get k l j hj
  simpa using this
theorem freeze_new (w : World) (cs : Array Value) (t : TypeId) (n : Nat) : (w.alloc (.cells cs t)).freeze ⟨w.heap.size, n, none⟩ 1 = w.alloc (.cells cs t (n, n + 1)) := by
  simp only [World.freeze, World.alloc]
  rw [if_neg (by omega)]
  congr 1
  apply Array.ext_getElem?
  intro i
  rw [Array.getElem?_modify]
  by_cases h : w.heap.size = i
  · subst h
    simp
  · have h' : ¬ i = w.heap.size := fun e => h e.symm
    simp [h, h', Array.getElem?_push]
/-- '[]byte' of a literal text: its bytes are marked as a text's. -/
theorem conv_lit (w : World) (l : List Nat) : (convert 34 34 (.slice (some ⟨w.heap.size, 0, none⟩) l.length l.length)).run Tryd.prog (w.alloc (.cells (ints .u8 l).toArray 5)) = .ok (.slice (some ⟨w.heap.size, 0, none⟩) l.length l.length) (w.alloc (.cells (ints .u8 l).toArray 5 (l.length, l.length + 1))) := by
  have hs : (w.alloc (.cells (ints .u8 l).toArray 5)).shape? w.heap.size = some (5, l.length) := by
    unfold World.shape?
    rw [show (w.alloc (.cells (ints .u8 l).toArray 5)).heap[w.heap.size]? = _ from heap_alloc_last w _]
    simp [length_ints]
  simp [convert, run_underlying Tryd.underlying34, run_underlying Tryd.underlying5, markStringish, hs, freeze_new]
def noneL : List Nat := [227, 176, 196, 66, 152, 252, 28, 20, 154, 251, 244, 200, 153, 111, 185, 36, 39, 174, 65, 228, 100, 155, 147, 76, 164, 149, 153, 27, 120, 82, 184, 85]
def abcL : List Nat := [186, 120, 22, 191, 143, 1, 207, 234, 65, 65, 64, 222, 93, 174, 34, 35, 176, 3, 97, 163, 150, 23, 122, 156, 180, 16, 255, 97, 242, 0, 21, 173]
theorem hex_none (w : World) : Calls Tryd.prog 33 #[.agg (ints .u8 noneL).toArray] w fun e w' => e = .returned (.string (str (hexS noneL))) ∧ Below w.heap.size w w' := hex07 noneL rfl (by unfold noneL Bytes; decide) w
theorem hex_abc (w : World) : Calls Tryd.prog 33 #[.agg (ints .u8 abcL).toArray] w fun e w' => e = .returned (.string (str (hexS abcL))) ∧ Below w.heap.size w w' := hex07 abcL rfl (by unfold abcL Bytes; decide) w
set_option maxHeartbeats 4000000 in
theorem shaWorks_any (w : World) (hL : Laid w) : Calls Tryd.prog 10 #[] w fun e w' => e = .returned (.bool true) ∧ Below w.heap.size w w' := by
  obtain ⟨cf, hcf⟩ : ∃ cs, (ints .u32 firstS).toArray = cs := ⟨_, rfl⟩
  obtain ⟨cst, hcst⟩ : ∃ cs, (ints .u32 stepsS).toArray = cs := ⟨_, rfl⟩
  have K := shaConst_any w hL
  have HG := Lib.hid hL
  clear hL
  have F := fun w => first07 w
  have S := fun w => steps07 w
  unfold OutConst at K
  unfold OutAgg at F S
  have E8 : ∀ u, (Op.equalIn 10000 54 (.agg (ints .u32 firstS).toArray) (.agg (ints .u32 firstS).toArray)).run Tryd.prog u = .ok true u := fun u => by
    rw [run_equalIn_ints u 9998 54 23 8 .u32 Tryd.underlying54 Tryd.underlying23 (fun w => by rfl) firstS firstS rfl rfl]; simp
  have E64 : ∀ u, (Op.equalIn 10000 55 (.agg (ints .u32 stepsS).toArray) (.agg (ints .u32 stepsS).toArray)).run Tryd.prog u = .ok true u := fun u => by
    rw [run_equalIn_ints u 9998 55 23 64 .u32 Tryd.underlying55 Tryd.underlying23 (fun w => by rfl) stepsS stepsS rfl rfl]; simp
  have z8 := (lay8 w firstS rfl).1
  have L64 := fun (u : World) => (lay64 u stepsS rfl).2
  have z64 := (lay64 w stepsS rfl).1
  have i8 : (Tryd.prog.info? 54).map (·.size) = some (ints .u32 firstS).toArray.size := by rw [z8]; kernel_rfl
  have i64 : (Tryd.prog.info? 55).map (·.size) = some (ints .u32 stepsS).toArray.size := by rw [z64]; kernel_rfl
  have LU : ∀ (u : World), (storeCells ⟨u.heap.size, 0, none⟩ cf.toList).run Tryd.prog ((u.alloc (.cells #[.int .u32 0, .int .u32 0, .int .u32 0, .int .u32 0, .int .u32 0, .int .u32 0, .int .u32 0, .int .u32 0] 54)).alloc (.cells #[.int .u32 0, .int .u32 0, .int .u32 0, .int .u32 0, .int .u32 0, .int .u32 0, .int .u32 0, .int .u32 0, .int .u32 0, .int .u32 0, .int .u32 0, .int .u32 0, .int .u32 0, .int .u32 0, .int .u32 0, .int .u32 0, .int .u32 0, .int .u32 0, .int .u32 0, .int .u32 0, .int .u32 0, .int .u32 0, .int .u32 0, .int .u32 0, .int .u32 0, .int .u32 0, .int .u32 0, .int .u32 0, .int .u32 0, .int .u32 0, .int .u32 0, .int .u32 0, .int .u32 0, .int .u32 0, .int .u32 0, .int .u32 0, .int .u32 0, .int .u32 0, .int .u32 0, .int .u32 0, .int .u32 0, .int .u32 0, .int .u32 0, .int .u32 0, .int .u32 0, .int .u32 0, .int .u32 0, .int .u32 0, .int .u32 0, .int .u32 0, .int .u32 0, .int .u32 0, .int .u32 0, .int .u32 0, .int .u32 0, .int .u32 0, .int .u32 0, .int .u32 0, .int .u32 0, .int .u32 0, .int .u32 0, .int .u32 0, .int .u32 0, .int .u32 0] 55)) = .ok () ((u.alloc (.cells cf 54)).alloc (.cells #[.int .u32 0, .int .u32 0, .int .u32 0, .int .u32 0, .int .u32 0, .int .u32 0, .int .u32 0, .int .u32 0, .int .u32 0, .int .u32 0, .int .u32 0, .int .u32 0, .int .u32 0, .int .u32 0, .int .u32 0, .int .u32 0, .int .u32 0, .int .u32 0, .int .u32 0, .int .u32 0, .int .u32 0, .int .u32 0, .int .u32 0, .int .u32 0, .int .u32 0, .int .u32 0, .int .u32 0, .int .u32 0, .int .u32 0, .int .u32 0, .int .u32 0, .int .u32 0, .int .u32 0, .int .u32 0, .int .u32 0, .int .u32 0, .int .u32 0, .int .u32 0, .int .u32 0, .int .u32 0, .int .u32 0, .int .u32 0, .int .u32 0, .int .u32 0, .int .u32 0, .int .u32 0, .int .u32 0, .int .u32 0, .int .u32 0, .int .u32 0, .int .u32 0, .int .u32 0, .int .u32 0, .int .u32 0, .int .u32 0, .int .u32 0, .int .u32 0, .int .u32 0, .int .u32 0, .int .u32 0, .int .u32 0, .int .u32 0, .int .u32 0, .int .u32 0] 55)) := fun u => by
    rw [← hcf]
    exact store_under u firstS rfl (.cells #[.int .u32 0, .int .u32 0, .int .u32 0, .int .u32 0, .int .u32 0, .int .u32 0, .int .u32 0, .int .u32 0, .int .u32 0, .int .u32 0, .int .u32 0, .int .u32 0, .int .u32 0, .int .u32 0, .int .u32 0, .int .u32 0, .int .u32 0, .int .u32 0, .int .u32 0, .int .u32 0, .int .u32 0, .int .u32 0, .int .u32 0, .int .u32 0, .int .u32 0, .int .u32 0, .int .u32 0, .int .u32 0, .int .u32 0, .int .u32 0, .int .u32 0, .int .u32 0, .int .u32 0, .int .u32 0, .int .u32 0, .int .u32 0, .int .u32 0, .int .u32 0, .int .u32 0, .int .u32 0, .int .u32 0, .int .u32 0, .int .u32 0, .int .u32 0, .int .u32 0, .int .u32 0, .int .u32 0, .int .u32 0, .int .u32 0, .int .u32 0, .int .u32 0, .int .u32 0, .int .u32 0, .int .u32 0, .int .u32 0, .int .u32 0, .int .u32 0, .int .u32 0, .int .u32 0, .int .u32 0, .int .u32 0, .int .u32 0, .int .u32 0, .int .u32 0] 55) #[.int .u32 0, .int .u32 0, .int .u32 0, .int .u32 0, .int .u32 0, .int .u32 0, .int .u32 0, .int .u32 0] rfl
  rw [hcf] at F K E8 z8 i8
  rw [hcst] at S K E64 L64 z64 i64
  have K := Lib.hid K
  have F := Lib.hid F
  have S := Lib.hid S
  have HI := Lib.hid (And.intro i8 i64)
  have hmx : Tryd.prog.follows .mixedOrders = true := by kernel_rfl
  clear hcf hcst i8 i64
  refine (callsIn_wide (n := 9)).1 ?_
  refine callsIn_of_wp Tryd.func10 rfl trivial ?_
  simp only [Tryd.ntmps10, List.size_toArray, List.length_nil, Nat.reduceSub, Array.replicate_succ, Array.replicate_zero, List.push_toArray, List.append_toArray, List.nil_append, List.cons_append]
  gi_wp2
  refine ⟨trivial, ?_⟩
  refine (callsIn_wide.2 (K.out)).mono ?_
  rintro e w1 ⟨rfl, b1⟩
  have LA := LU w1
  have LB := L64 (w1.alloc (.cells cf 54))
  simp only [World.size_alloc] at LB
  gi_wp2
  have R1 : ((w1.alloc (.cells cf 54)).alloc (.cells cst 55)).heap[w1.heap.size]? = some (.cells cf 54 (0, 0)) := (((Below.refl _ _).alloc (Nat.le_refl _) (.cells cst 55)).block w1.heap.size (by simp)).trans (heap_alloc_last w1 _)
  have R2 : ((w1.alloc (.cells cf 54)).alloc (.cells cst 55)).heap[w1.heap.size + 1]? = some (.cells cst 55 (0, 0)) := by
    have h := heap_alloc_last (w1.alloc (.cells cf 54)) (.cells cst 55)
    rwa [World.size_alloc] at h
  have b2 : Below w1.heap.size w1 ((w1.alloc (.cells cf 54)).alloc (.cells cst 55)) := ((Below.refl _ w1).alloc (Nat.le_refl _) _).alloc (by simp) _
  obtain ⟨g1, hg1⟩ : ∃ g, w1.heap.size = g := ⟨_, rfl⟩
  have B2 := below_step b1 b2
  obtain ⟨W, hW⟩ : ∃ W, (w1.alloc (.cells cf 54)).alloc (.cells cst 55) = W := ⟨_, rfl⟩
  rw [hW, hg1] at R1 R2
  rw [hW] at B2
  have hsW : g1 + 2 ≤ W.heap.size := by rw [← hW, ← hg1]; simp
  rw [hW, hg1]
  clear hW hg1 b1 b2 LA LB LU L64
  have R1 : W.drew.heap[g1]? = some (.cells cf 54 (0, 0)) := R1
  have R2 : W.drew.heap[g1 + 1]? = some (.cells cst 55 (0, 0)) := R2
  have B2 : Below w.heap.size w W.drew := B2.trans (((Drawn.more 1).below _).mono B2.size)
  have hsW : g1 + 2 ≤ W.drew.heap.size := hsW
  refine norm_only7 ?_
  refine wpIn_region_any hmx ?_
  change wpAnyIn _ _ _ _ _ _ _ _ _ (World.drew _)
  obtain ⟨V, hV⟩ : ∃ V, W.drew = V := ⟨_, rfl⟩
  rw [hV] at R1 R2 B2 hsW ⊢
  clear hV
  refine anyI.toAny (l := [(2, fun W' => W'.heap[g1]? = some (.cells cf 54 (0, 0))), (6, fun W' => W'.heap[g1 + 1]? = some (.cells cst 55 (0, 0)))]) ?_
  refine anyI_take (i := 0) (s := 2) (v := .agg cf) (List.mem_cons_self) (by simp) rfl (by kernel_rfl) (by kernel_rfl) (by kernel_rfl) (by kernel_rfl) (by kernel_rfl) (by kernel_rfl) (fun _ _ _ h => h) (held_row 54 (.tmp 1) rfl g1 cf rfl (by rfl) Tryd.underlying54 HI.out.1 (fun _ => rfl)) ?_
  refine anyI_one (i := 1) (by kernel_rfl) rfl (till2 (fun _ => R1) (fun _ => R2)) (fun K hK => ?_)
  go_simp
  refine ⟨trivial, ?_⟩
  refine (callsIn_wide.2 (F.out _)).mono ?_
  rintro e x1 ⟨rfl, y1⟩
  refine hK _ _ ?_
  clear hK K
  have R1 : x1.heap[g1]? = some (.cells cf 54 (0, 0)) := (y1.block g1 (by have := hsW; omega)).trans R1
  have R2 : x1.heap[g1 + 1]? = some (.cells cst 55 (0, 0)) := (y1.block (g1 + 1) (by have := hsW; omega)).trans R2
  have hsW : g1 + 2 ≤ x1.heap.size := Nat.le_trans hsW y1.size
  have B2 := below_step B2 y1
  refine anyI_one (i := 2) (by kernel_rfl) rfl (till2 (fun _ => R1) (fun _ => R2)) (fun K hK => ?_)
  go_simp
  refine hK _ _ ?_
  clear hK K
  refine anyI_one (i := 3) (by kernel_rfl) rfl (till2 (fun _ => R1) (fun _ => R2)) (fun K hK => ?_)
  go_simp
  refine hK _ _ ?_
  clear hK K
  refine anyI_take (i := 4) (s := 6) (v := .agg cst) (List.mem_cons_of_mem _ List.mem_cons_self) (by simp) rfl (by kernel_rfl) (by kernel_rfl) (by kernel_rfl) (by kernel_rfl) (by kernel_rfl) (by kernel_rfl) (fun _ _ _ h => h) (held_row 55 (.tmp 2) rfl (g1 + 1) cst rfl (by rfl) Tryd.underlying55 HI.out.2 (fun _ => rfl)) ?_
  refine anyI_one (i := 5) (by kernel_rfl) rfl (till2 (fun _ => R1) (fun _ => R2)) (fun K hK => ?_)
  go_simp
  refine ⟨trivial, ?_⟩
  refine (callsIn_wide.2 (S.out _)).mono ?_
  rintro e x2 ⟨rfl, y2⟩
  refine hK _ _ ?_
  clear hK K
  have R1 : x2.heap[g1]? = some (.cells cf 54 (0, 0)) := (y2.block g1 (by have := hsW; omega)).trans R1
  have R2 : x2.heap[g1 + 1]? = some (.cells cst 55 (0, 0)) := (y2.block (g1 + 1) (by have := hsW; omega)).trans R2
  have hsW : g1 + 2 ≤ x2.heap.size := Nat.le_trans hsW y2.size
  have B2 := below_step B2 y2
  refine anyI_one (i := 6) (by kernel_rfl) rfl (till2 (fun _ => R1) (fun _ => R2)) (fun K hK => ?_)
  go_simp
  refine hK _ _ ?_
  clear hK K
  refine anyI_one (i := 7) (by kernel_rfl) rfl (till2 (fun _ => R1) (fun _ => R2)) (fun K hK => ?_)
  go_simp
  refine hK _ _ ?_
  clear hK K
  refine anyI_one (i := 8) (by kernel_rfl) rfl (till2 (fun _ => R1) (fun _ => R2)) (fun K hK => ?_)
  go_simp
  refine hK _ _ ?_
  clear hK K
  refine anyI_one (i := 9) (by kernel_rfl) rfl (till2 (fun _ => R1) (fun _ => R2)) (fun K hK => ?_)
  go_simp
  refine ⟨trivial, ?_⟩
  refine (callsIn_wide.2 (shaFrac_any 2 _ (by omega) false frac_two _)).mono ?_
  rintro e x3 ⟨rfl, y3⟩
  refine hK _ _ ?_
  clear hK K
  have R1 : x3.heap[g1]? = some (.cells cf 54 (0, 0)) := (y3.block g1 (by have := hsW; omega)).trans R1
  have R2 : x3.heap[g1 + 1]? = some (.cells cst 55 (0, 0)) := (y3.block (g1 + 1) (by have := hsW; omega)).trans R2
  have hsW : g1 + 2 ≤ x3.heap.size := Nat.le_trans hsW y3.size
  have B2 := below_step B2 y3
  refine anyI_one (i := 10) (by kernel_rfl) rfl (till2 (fun _ => R1) (fun _ => R2)) (fun K hK => ?_)
  go_simp
  refine hK _ _ ?_
  clear hK K
  refine anyI_one (i := 11) (by kernel_rfl) rfl (till2 (fun _ => R1) (fun _ => R2)) (fun K hK => ?_)
  go_simp
  refine hK _ _ ?_
  clear hK K
  refine anyI_one (i := 12) (by kernel_rfl) rfl (till2 (fun _ => R1) (fun _ => R2)) (fun K hK => ?_)
  go_simp
  refine hK _ _ ?_
  clear hK K
  refine anyI_one (i := 13) (by kernel_rfl) rfl (till2 (fun _ => R1) (fun _ => R2)) (fun K hK => ?_)
  go_simp
  refine ⟨trivial, ?_⟩
  refine (callsIn_wide.2 (shaFrac_any 3 _ (by omega) true frac_three _)).mono ?_
  rintro e x4 ⟨rfl, y4⟩
  refine hK _ _ ?_
  clear hK K
  have R1 : x4.heap[g1]? = some (.cells cf 54 (0, 0)) := (y4.block g1 (by have := hsW; omega)).trans R1
  have R2 : x4.heap[g1 + 1]? = some (.cells cst 55 (0, 0)) := (y4.block (g1 + 1) (by have := hsW; omega)).trans R2
  have hsW : g1 + 2 ≤ x4.heap.size := Nat.le_trans hsW y4.size
  have B2 := below_step B2 y4
  refine anyI_one (i := 14) (by kernel_rfl) rfl (till2 (fun _ => R1) (fun _ => R2)) (fun K hK => ?_)
  go_simp
  refine hK _ _ ?_
  clear hK K
  refine anyI_one (i := 15) (by kernel_rfl) rfl (till2 (fun _ => R1) (fun _ => R2)) (fun K hK => ?_)
  go_simp
  refine hK _ _ ?_
  clear hK K
  refine anyI_one (i := 16) (by kernel_rfl) rfl (till2 (fun _ => R1) (fun _ => R2)) (fun K hK => ?_)
  go_simp
  refine hK _ _ ?_
  clear hK K
  clear E8 E64 K F S HI z8 z64
  refine anyI_one (i := 17) (by kernel_rfl) rfl (till2 (fun _ => R1) (fun _ => R2)) (fun K hK => ?_)
  go_simp
  refine ⟨trivial, ?_⟩
  refine (callsIn_wide.2 (sum_lit _ (HG.out.below B2) [] (by intro x hx; cases hx) none 0 0 rfl Rd.nil (by omega) (by omega) _ sha_none)).mono ?_
  rintro e x5 ⟨rfl, y5⟩
  refine hK _ _ ?_
  clear hK K
  have R1 : x5.heap[g1]? = some (.cells cf 54 (0, 0)) := (y5.block g1 (by have := hsW; omega)).trans R1
  have R2 : x5.heap[g1 + 1]? = some (.cells cst 55 (0, 0)) := (y5.block (g1 + 1) (by have := hsW; omega)).trans R2
  have hsW : g1 + 2 ≤ x5.heap.size := Nat.le_trans hsW y5.size
  have B2 := below_step B2 y5
  refine anyI_one (i := 18) (by kernel_rfl) rfl (till2 (fun _ => R1) (fun _ => R2)) (fun K hK => ?_)
  go_simp
  refine ⟨trivial, ?_⟩
  refine (callsIn_wide.2 (hex_none _)).mono ?_
  rintro e x6 ⟨rfl, y6⟩
  refine hK _ _ ?_
  clear hK K
  have R1 : x6.heap[g1]? = some (.cells cf 54 (0, 0)) := (y6.block g1 (by have := hsW; omega)).trans R1
  have R2 : x6.heap[g1 + 1]? = some (.cells cst 55 (0, 0)) := (y6.block (g1 + 1) (by have := hsW; omega)).trans R2
  have hsW : g1 + 2 ≤ x6.heap.size := Nat.le_trans hsW y6.size
  have B2 := below_step B2 y6
  have q1 : (str (hexS noneL)).toList = [101, 51, 98, 48, 99, 52, 52, 50, 57, 56, 102, 99, 49, 99, 49, 52, 57, 97, 102, 98, 102, 52, 99, 56, 57, 57, 54, 102, 98, 57, 50, 52, 50, 55, 97, 101, 52, 49, 101, 52, 54, 52, 57, 98, 57, 51, 52, 99, 97, 52, 57, 53, 57, 57, 49, 98, 55, 56, 53, 50, 98, 56, 53, 53] := by rw [str_list]; decide +kernel
  obtain ⟨s1, hs1⟩ : ∃ s, str (hexS noneL) = s := ⟨_, rfl⟩
  rw [hs1] at q1 ⊢
  clear hs1
  refine anyI_one (i := 19) (by kernel_rfl) rfl (till2 (fun _ => R1) (fun _ => R2)) (fun K hK => ?_)
  go_simp
  refine hK _ _ ?_
  clear hK K
  refine anyI_one (i := 20) (by kernel_rfl) rfl (till2 (fun _ => R1) (fun _ => R2)) (fun K hK => ?_)
  go_simp
  refine hK _ _ ?_
  clear hK K
  refine anyI_one (i := 21) (by kernel_rfl) rfl (till2 (fun _ => R1) (fun _ => R2)) (fun K hK => ?_)
  go_simp
  refine hK _ _ ?_
  clear hK K
  refine anyI_one (i := 22) (by kernel_rfl) rfl (till2 (fun _ => R1) (fun _ => R2)) (fun K hK => ?_)
  go_simp
  refine hK _ _ ?_
  clear hK K
  have hcv := conv_lit x6 [97, 98, 99]
  have hcv : (convert 34 34 (.slice (some ⟨x6.heap.size, 0, none⟩) 3 3)).run Tryd.prog (x6.alloc (.cells #[.int .u8 97, .int .u8 98, .int .u8 99] 5)) = .ok (.slice (some ⟨x6.heap.size, 0, none⟩) 3 3) (x6.alloc (.cells #[.int .u8 97, .int .u8 98, .int .u8 99] 5 (3, 4))) := hcv
  refine anyI_one (i := 23) (by kernel_rfl) rfl (till2 (fun _ => heap_kept R1 _) (fun _ => heap_kept R2 _)) (fun K hK => ?_)
  go_simp
  refine hK _ _ ?_
  clear hK K
  have y7 : Below x6.heap.size x6 (x6.alloc (.cells #[.int .u8 97, .int .u8 98, .int .u8 99] 5 (3, 4))) := (Below.refl _ x6).alloc (Nat.le_refl _) _
  have D : Rd .u8 (x6.alloc (.cells #[.int .u8 97, .int .u8 98, .int .u8 99] 5 (3, 4))) (x6.heap.size + 1) (some ⟨x6.heap.size, 0, none⟩) [97, 98, 99] := rd_block (fr := (3, 4)) (t := 5) (heap_alloc_last x6 _)
  obtain ⟨x7, hx7⟩ : ∃ x, x6.alloc (.cells #[.int .u8 97, .int .u8 98, .int .u8 99] 5 (3, 4)) = x := ⟨_, rfl⟩
  have hs7 : x7.heap.size = x6.heap.size + 1 := by rw [← hx7]; simp
  rw [hx7] at y7 D ⊢
  have R1 : x7.heap[g1]? = some (.cells cf 54 (0, 0)) := (y7.block g1 (by have := hsW; omega)).trans R1
  have R2 : x7.heap[g1 + 1]? = some (.cells cst 55 (0, 0)) := (y7.block (g1 + 1) (by have := hsW; omega)).trans R2
  have hsW : g1 + 2 ≤ x7.heap.size := Nat.le_trans hsW y7.size
  have B2 := below_step B2 y7
  refine anyI_one (i := 24) (by kernel_rfl) rfl (till2 (fun _ => R1) (fun _ => R2)) (fun K hK => ?_)
  go_simp
  refine ⟨trivial, ?_⟩
  refine (callsIn_wide.2 (sum_lit _ (HG.out.below B2) [97, 98, 99] (by intro x hx; simp at hx; omega) (some ⟨x6.heap.size, 0, none⟩) 3 3 rfl (D.more (by omega)) (by omega) (by omega) _ sha_abc)).mono ?_
  rintro e x8 ⟨rfl, y8⟩
  refine hK _ _ ?_
  clear hK K
  have R1 : x8.heap[g1]? = some (.cells cf 54 (0, 0)) := (y8.block g1 (by have := hsW; omega)).trans R1
  have R2 : x8.heap[g1 + 1]? = some (.cells cst 55 (0, 0)) := (y8.block (g1 + 1) (by have := hsW; omega)).trans R2
  have hsW : g1 + 2 ≤ x8.heap.size := Nat.le_trans hsW y8.size
  have B2 := below_step B2 y8
  refine anyI_one (i := 25) (by kernel_rfl) rfl (till2 (fun _ => R1) (fun _ => R2)) (fun K hK => ?_)
  go_simp
  refine ⟨trivial, ?_⟩
  refine (callsIn_wide.2 (hex_abc _)).mono ?_
  rintro e x9 ⟨rfl, y9⟩
  refine hK _ _ ?_
  clear hK K
  have R1 : x9.heap[g1]? = some (.cells cf 54 (0, 0)) := (y9.block g1 (by have := hsW; omega)).trans R1
  have R2 : x9.heap[g1 + 1]? = some (.cells cst 55 (0, 0)) := (y9.block (g1 + 1) (by have := hsW; omega)).trans R2
  have hsW : g1 + 2 ≤ x9.heap.size := Nat.le_trans hsW y9.size
  have B2 := below_step B2 y9
  have q2 : (str (hexS abcL)).toList = [98, 97, 55, 56, 49, 54, 98, 102, 56, 102, 48, 49, 99, 102, 101, 97, 52, 49, 52, 49, 52, 48, 100, 101, 53, 100, 97, 101, 50, 50, 50, 51, 98, 48, 48, 51, 54, 49, 97, 51, 57, 54, 49, 55, 55, 97, 57, 99, 98, 52, 49, 48, 102, 102, 54, 49, 102, 50, 48, 48, 49, 53, 97, 100] := by rw [str_list]; decide +kernel
  obtain ⟨s2, hs2⟩ : ∃ s, str (hexS abcL) = s := ⟨_, rfl⟩
  rw [hs2] at q2 ⊢
  clear hs2
  refine anyI_one (i := 26) (by kernel_rfl) rfl (till2 (fun _ => R1) (fun _ => R2)) (fun K hK => ?_)
  go_simp
  refine hK _ _ ?_
  clear hK K
  refine anyI_one (i := 27) (by kernel_rfl) rfl (till2 (fun _ => R1) (fun _ => R2)) (fun K hK => ?_)
  go_simp
  refine hK _ _ ?_
  clear hK K
  refine anyI_one (i := 28) (by kernel_rfl) rfl (till2 (fun _ => R1) (fun _ => R2)) (fun K hK => ?_)
  go_simp
  refine hK _ _ ?_
  clear hK K
  refine anyI_done (by kernel_rfl) (till2 (fun _ => R1) (fun _ => R2)) ?_
  have HB := Lib.hid B2
  simp only [Exit.then]
  gi_wp2
  go_ret
  exact ⟨rfl, HB.out⟩
end Go.Proofs.YtjeliomjnalpcaaDoor
/- ShaFractions' walk: it answers true, and writes nothing that was there. Conditions: what the arguments' types give; the tables of constants are laid. -/
namespace Go.Proofs.YtjeliomjnalpcaaDoor
open Go.RowKit
set_option maxRecDepth 20000
set_option maxHeartbeats 1000000 in
theorem shaFractions_walk (a0 : Int) (a1 : Bool) (w : World) (w0 : (Lit.int .u64 a0).wf = true) (hL : Laid w) : Calls Tryd.prog 3 #[.int .u64 a0, .bool a1] w fun e w' => e = .returned (.bool true) ∧ Below w.heap.size w w' := by
  have h0 : 0 ≤ a0 ∧ a0 ≤ 18446744073709551615 := by simpa [Lit.wf, IntKind.min, IntKind.max, IntKind.signed, IntKind.bits] using w0
  obtain ⟨p, rfl⟩ : ∃ p : Nat, a0 = (p : Int) := ⟨a0.toNat, by omega⟩
  have hp : p < 18446744073709551616 := by omega
  obtain ⟨F, hF⟩ := frac_some p a1
  have HF := Lib.hid hF
  have HG := Lib.hid hL
  clear w0 hF hL
  go_enter Tryd.func3, Tryd.ntmps3
  go_wp2_with fail
  refine (shaFrac_any p F hp a1 HF.out w).mono ?_
  rintro e w1 ⟨rfl, b1⟩
  go_wp2_with fail
  refine (frac07 p F hp a1 HF.out w1).mono ?_
  rintro e w2 ⟨rfl, b2⟩
  have B2 := below_step b1 b2
  go_wp2_with fail
  refine (shaWorks_any w2 (HG.out.below B2)).mono ?_
  rintro e w3 ⟨rfl, b3⟩
  have B3 := below_step B2 b3
  go_wp2_with fail
  go_ret
  exact ⟨rfl, B3⟩
end Go.Proofs.YtjeliomjnalpcaaDoor
/- For the frame of each law's proof: a slice of bytes or of words that came in reads as a list of numbers. No condition but those typed. -/
namespace Go.Proofs.YtjeliomjnalpcaaDoor
open Go.RowKit
theorem fcell_lt {w : World} {p : Addr} {v : Value} (h : w.cell? p = some v) : p.block < w.heap.size := by
  rcases Nat.lt_or_ge p.block w.heap.size with h1 | h1
  · exact h1
  · simp [World.cell?, Array.getElem?_eq_none h1] at h
theorem row_nat {k : IntKind} {w : World} {x : Addr} {len cap : Nat} {zs : List Int} (M : Nat) (hl : len ≤ cap) (hz : zs.length = cap) (hcell : ∀ i, i < zs.length → w.cell? (x.add i) = some (.int k (zs.getD i 0)))
    (hw : ∀ n ∈ zs, 0 ≤ n ∧ n < M) : ∃ l : List Nat, l.length = len ∧ Rd k w w.heap.size (some x) l ∧ ∀ y ∈ l, y < M := by
  refine ⟨(zs.take len).map Int.toNat, by simp; omega, fun hlt => ?_, fun y hy => ?_⟩
  · have hlen : 0 < len := by simp at hlt; omega
    have h0 := hcell 0 (by omega)
    obtain ⟨b, off, spot⟩ := x
    have hs : spot = none := by simpa [Addr.add] using World.cell?_spot h0
    subst hs
    refine ⟨b, off, rfl, by simpa [Addr.add] using fcell_lt h0, fun j hj => ?_⟩
    have hj' : j < len ∧ j < zs.length := by simp at hj; omega
    have h1 := hcell j hj'.2
    rw [Addr.add_lit] at h1
    rw [h1]
    have h2 := hw zs[j] (List.getElem_mem hj'.2)
    simp only [nth, List.getD_eq_getElem?_getD, List.getElem?_map, List.getElem?_take, hj'.1, if_true, List.getElem?_eq_getElem hj'.2, Option.map_some, Option.getD_some]
    rw [Int.toNat_of_nonneg h2.1]
  · simp only [List.mem_map] at hy
    obtain ⟨z, hz1, rfl⟩ := hy
    have := hw z (List.mem_of_mem_take hz1)
    omega
theorem row_u8 {w : World} {x : Addr} {len cap : Nat} {zs : List Int} (hl : len ≤ cap) (hz : zs.length = cap) (hcell : ∀ i, i < zs.length → w.cell? (x.add i) = some (.int .u8 (zs.getD i 0)))
    (hw : ∀ n ∈ zs, (Lit.int .u8 n).wf = true) : ∃ l : List Nat, l.length = len ∧ Rd .u8 w w.heap.size (some x) l ∧ Bytes l :=
  row_nat 256 hl hz hcell fun n hn => by
    have h : 0 ≤ n ∧ n ≤ 255 := by simpa [Lit.wf, IntKind.min, IntKind.max, IntKind.signed, IntKind.bits] using hw n hn
    omega
end Go.Proofs.YtjeliomjnalpcaaDoor

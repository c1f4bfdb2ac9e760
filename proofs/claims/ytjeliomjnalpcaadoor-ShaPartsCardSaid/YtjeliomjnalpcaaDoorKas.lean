/- Several texts in one; each begins with a remark that says what it shows and on which conditions. -/
import Derived.Test.YtjeliomjnalpcaaDoorKaq
import Derived.Test.YtjeliomjnalpcaaDoorKar
import Derived.OwnWalkIn
import Derived.TacticsInMore
import Derived.RangeFuncCalls
/- Constants, and the sum of bytes. Conditions: as typed (the tables are laid). -/
namespace Go.Proofs.YtjeliomjnalpcaaDoor
open Go.RowKit
set_option maxRecDepth 20000
/-- A whole array is read. -/
theorem held_row {P : Program} {ops : Array Oper} {o : Oper} {a : Act} (t : TypeId) (x : Operand) (ho : o.op = .load t x) (g : Nat) (cs : Array Value) (hx : a.eval x = .pointer (some ⟨g, 0, none⟩)) (hw : Region.wanted o (yielded ops a.tmps) = true)
    {n : Nat} {e : TypeId} (hu : P.underlying t = some (.array n e)) (hi : (P.info? t).map (·.size) = some cs.size) (hab : ∀ w, o.about P w a.eval = none) : Held P ops (fun w => w.heap[g]? = some (.cells cs t (0, 0))) o (.agg cs) a := by
  refine ⟨hw, fun w hg => ⟨?_, hab w⟩⟩
  have h := run_loadVar_row w g t t cs (0, 0) _ hg hu rfl hi
  simp only [execOp, ho, hx]
  simp [Instr.loadAt, Instr.sureAddr, h, Result.andThen]
theorem norm_only7 {F : Fence} {n : Nat} {P : Program} {c : Code} {K : Act → World → Prop} {Q : Exit → Act → World → Prop} {a : Act} {w : World} (h : c.wpIn F n P (Exit.then K (fun _ _ _ => False)) a w) : c.wpIn F n P (Exit.then K Q) a w :=
  Go.wpIn_mono h fun e _ _ h => by cases e <;> first | exact h | exact h.elim
theorem till2 {i j : Nat} {p q : World → Prop} {listed : Array Bool} {w : World} (h1 : listed.getD i true = false → p w) (h2 : listed.getD j true = false → q w) : TillI [(i, p), (j, q)] listed w := by
  intro e he
  rcases List.mem_cons.1 he with rfl | he
  · exact h1
  rcases List.mem_cons.1 he with rfl | he
  · exact h2
  cases he
/-- A whole array is read, whatever its block is marked as. -/
theorem held_row2 {P : Program} {ops : Array Oper} {o : Oper} {a : Act} (t tb : TypeId) (x : Operand) (ho : o.op = .load t x) (g : Nat) (cs : Array Value) (hx : a.eval x = .pointer (some ⟨g, 0, none⟩)) (hw : Region.wanted o (yielded ops a.tmps) = true)
    {n : Nat} {e : TypeId} (hu : P.underlying t = some (.array n e)) (hi : (P.info? t).map (·.size) = some cs.size) (hab : ∀ w, o.about P w a.eval = none) : Held P ops (fun w => w.heap[g]? = some (.cells cs tb (0, 0))) o (.agg cs) a := by
  refine ⟨hw, fun w hg => ⟨?_, hab w⟩⟩
  have h := run_loadVar_row w g tb t cs (0, 0) _ hg hu rfl hi
  simp only [execOp, ho, hx]
  simp [Instr.loadAt, Instr.sureAddr, h, Result.andThen]
theorem store_whole {P : Program} (W : World) (g : Nat) (t : TypeId) (old cs : Array Value) (hg : W.heap[g]? = some (.cells old t (0, 0))) (ho : old.size = cs.size) (h1 : cs.all (·.oneCell') = true) : (storeCells ⟨g, 0, none⟩ cs.toList).run P W = .ok () (W.setRow g cs) := by
  have := run_storeCells_from (P := P) g t cs.toList 0 old W hg (by simp [ho]) (fun v hv => Array.all_eq_true_iff_forall_mem.1 h1 v (by simpa using hv))
  simpa using this
def OutConst (w : World) (e : Ending) (w' : World) : Prop := e = .returned (.tuple #[.agg (ints .u32 firstS).toArray, .agg (ints .u32 stepsS).toArray]) ∧ Below w.heap.size w w'
set_option maxHeartbeats 4000000 in
theorem const_pf (w : World) (hL : Laid w) : Calls Tryd.prog 30 #[] w (OutConst w) := by
  unfold OutConst
  have hs2 := hL.size
  obtain ⟨⟨t0, h0⟩, t1, h1⟩ := hL
  have z8 : (ints .u32 firstS).toArray.size = 8 := rfl
  have z64 : (ints .u32 stepsS).toArray.size = 64 := rfl
  have o8 : (ints .u32 firstS).toArray.all (·.oneCell') = true := Array.all_eq_true_iff_forall_mem.2 fun v hv => ints_one _ _ v (by simpa using hv)
  have o64 : (ints .u32 stepsS).toArray.all (·.oneCell') = true := Array.all_eq_true_iff_forall_mem.2 fun v hv => ints_one _ _ v (by simpa using hv)
  obtain ⟨cf, hcf⟩ : ∃ cs, (ints .u32 firstS).toArray = cs := ⟨_, rfl⟩
  obtain ⟨cst, hcst⟩ : ∃ cs, (ints .u32 stepsS).toArray = cs := ⟨_, rfl⟩
  rw [hcf] at h0 z8 o8 ⊢
  rw [hcst] at h1 z64 o64 ⊢
  have i8 : (Tryd.prog.info? 54).map (·.size) = some cf.size := by rw [z8]; kernel_rfl
  have i64 : (Tryd.prog.info? 55).map (·.size) = some cst.size := by rw [z64]; kernel_rfl
  have k0 : ((w.alloc (.cells #[.int .u32 0, .int .u32 0, .int .u32 0, .int .u32 0, .int .u32 0, .int .u32 0, .int .u32 0, .int .u32 0] 54)).alloc (.cells #[.int .u32 0, .int .u32 0, .int .u32 0, .int .u32 0, .int .u32 0, .int .u32 0, .int .u32 0, .int .u32 0, .int .u32 0, .int .u32 0, .int .u32 0, .int .u32 0, .int .u32 0, .int .u32 0, .int .u32 0, .int .u32 0, .int .u32 0, .int .u32 0, .int .u32 0, .int .u32 0, .int .u32 0, .int .u32 0, .int .u32 0, .int .u32 0, .int .u32 0, .int .u32 0, .int .u32 0, .int .u32 0, .int .u32 0, .int .u32 0, .int .u32 0, .int .u32 0, .int .u32 0, .int .u32 0, .int .u32 0, .int .u32 0, .int .u32 0, .int .u32 0, .int .u32 0, .int .u32 0, .int .u32 0, .int .u32 0, .int .u32 0, .int .u32 0, .int .u32 0, .int .u32 0, .int .u32 0, .int .u32 0, .int .u32 0, .int .u32 0, .int .u32 0, .int .u32 0, .int .u32 0, .int .u32 0, .int .u32 0, .int .u32 0, .int .u32 0, .int .u32 0, .int .u32 0, .int .u32 0, .int .u32 0, .int .u32 0, .int .u32 0, .int .u32 0] 55)).heap[0]? = some (.cells cf t0 (0, 0)) := heap_kept7 (heap_kept7 h0 _) _
  have k1 : ((w.alloc (.cells #[.int .u32 0, .int .u32 0, .int .u32 0, .int .u32 0, .int .u32 0, .int .u32 0, .int .u32 0, .int .u32 0] 54)).alloc (.cells #[.int .u32 0, .int .u32 0, .int .u32 0, .int .u32 0, .int .u32 0, .int .u32 0, .int .u32 0, .int .u32 0, .int .u32 0, .int .u32 0, .int .u32 0, .int .u32 0, .int .u32 0, .int .u32 0, .int .u32 0, .int .u32 0, .int .u32 0, .int .u32 0, .int .u32 0, .int .u32 0, .int .u32 0, .int .u32 0, .int .u32 0, .int .u32 0, .int .u32 0, .int .u32 0, .int .u32 0, .int .u32 0, .int .u32 0, .int .u32 0, .int .u32 0, .int .u32 0, .int .u32 0, .int .u32 0, .int .u32 0, .int .u32 0, .int .u32 0, .int .u32 0, .int .u32 0, .int .u32 0, .int .u32 0, .int .u32 0, .int .u32 0, .int .u32 0, .int .u32 0, .int .u32 0, .int .u32 0, .int .u32 0, .int .u32 0, .int .u32 0, .int .u32 0, .int .u32 0, .int .u32 0, .int .u32 0, .int .u32 0, .int .u32 0, .int .u32 0, .int .u32 0, .int .u32 0, .int .u32 0, .int .u32 0, .int .u32 0, .int .u32 0, .int .u32 0] 55)).heap[1]? = some (.cells cst t1 (0, 0)) := heap_kept7 (heap_kept7 h1 _) _
  have k2 : ((w.alloc (.cells #[.int .u32 0, .int .u32 0, .int .u32 0, .int .u32 0, .int .u32 0, .int .u32 0, .int .u32 0, .int .u32 0] 54)).alloc (.cells #[.int .u32 0, .int .u32 0, .int .u32 0, .int .u32 0, .int .u32 0, .int .u32 0, .int .u32 0, .int .u32 0, .int .u32 0, .int .u32 0, .int .u32 0, .int .u32 0, .int .u32 0, .int .u32 0, .int .u32 0, .int .u32 0, .int .u32 0, .int .u32 0, .int .u32 0, .int .u32 0, .int .u32 0, .int .u32 0, .int .u32 0, .int .u32 0, .int .u32 0, .int .u32 0, .int .u32 0, .int .u32 0, .int .u32 0, .int .u32 0, .int .u32 0, .int .u32 0, .int .u32 0, .int .u32 0, .int .u32 0, .int .u32 0, .int .u32 0, .int .u32 0, .int .u32 0, .int .u32 0, .int .u32 0, .int .u32 0, .int .u32 0, .int .u32 0, .int .u32 0, .int .u32 0, .int .u32 0, .int .u32 0, .int .u32 0, .int .u32 0, .int .u32 0, .int .u32 0, .int .u32 0, .int .u32 0, .int .u32 0, .int .u32 0, .int .u32 0, .int .u32 0, .int .u32 0, .int .u32 0, .int .u32 0, .int .u32 0, .int .u32 0, .int .u32 0] 55)).heap[w.heap.size]? = some (.cells #[.int .u32 0, .int .u32 0, .int .u32 0, .int .u32 0, .int .u32 0, .int .u32 0, .int .u32 0, .int .u32 0] 54 (0, 0)) := heap_alloc2_old w _ _
  have k3 : ((w.alloc (.cells #[.int .u32 0, .int .u32 0, .int .u32 0, .int .u32 0, .int .u32 0, .int .u32 0, .int .u32 0, .int .u32 0] 54)).alloc (.cells #[.int .u32 0, .int .u32 0, .int .u32 0, .int .u32 0, .int .u32 0, .int .u32 0, .int .u32 0, .int .u32 0, .int .u32 0, .int .u32 0, .int .u32 0, .int .u32 0, .int .u32 0, .int .u32 0, .int .u32 0, .int .u32 0, .int .u32 0, .int .u32 0, .int .u32 0, .int .u32 0, .int .u32 0, .int .u32 0, .int .u32 0, .int .u32 0, .int .u32 0, .int .u32 0, .int .u32 0, .int .u32 0, .int .u32 0, .int .u32 0, .int .u32 0, .int .u32 0, .int .u32 0, .int .u32 0, .int .u32 0, .int .u32 0, .int .u32 0, .int .u32 0, .int .u32 0, .int .u32 0, .int .u32 0, .int .u32 0, .int .u32 0, .int .u32 0, .int .u32 0, .int .u32 0, .int .u32 0, .int .u32 0, .int .u32 0, .int .u32 0, .int .u32 0, .int .u32 0, .int .u32 0, .int .u32 0, .int .u32 0, .int .u32 0, .int .u32 0, .int .u32 0, .int .u32 0, .int .u32 0, .int .u32 0, .int .u32 0, .int .u32 0, .int .u32 0] 55)).heap[w.heap.size + 1]? = some (.cells #[.int .u32 0, .int .u32 0, .int .u32 0, .int .u32 0, .int .u32 0, .int .u32 0, .int .u32 0, .int .u32 0, .int .u32 0, .int .u32 0, .int .u32 0, .int .u32 0, .int .u32 0, .int .u32 0, .int .u32 0, .int .u32 0, .int .u32 0, .int .u32 0, .int .u32 0, .int .u32 0, .int .u32 0, .int .u32 0, .int .u32 0, .int .u32 0, .int .u32 0, .int .u32 0, .int .u32 0, .int .u32 0, .int .u32 0, .int .u32 0, .int .u32 0, .int .u32 0, .int .u32 0, .int .u32 0, .int .u32 0, .int .u32 0, .int .u32 0, .int .u32 0, .int .u32 0, .int .u32 0, .int .u32 0, .int .u32 0, .int .u32 0, .int .u32 0, .int .u32 0, .int .u32 0, .int .u32 0, .int .u32 0, .int .u32 0, .int .u32 0, .int .u32 0, .int .u32 0, .int .u32 0, .int .u32 0, .int .u32 0, .int .u32 0, .int .u32 0, .int .u32 0, .int .u32 0, .int .u32 0, .int .u32 0, .int .u32 0, .int .u32 0, .int .u32 0] 55 (0, 0)) := heap_alloc2_new w _ _
  have bE : Below w.heap.size w ((w.alloc (.cells #[.int .u32 0, .int .u32 0, .int .u32 0, .int .u32 0, .int .u32 0, .int .u32 0, .int .u32 0, .int .u32 0] 54)).alloc (.cells #[.int .u32 0, .int .u32 0, .int .u32 0, .int .u32 0, .int .u32 0, .int .u32 0, .int .u32 0, .int .u32 0, .int .u32 0, .int .u32 0, .int .u32 0, .int .u32 0, .int .u32 0, .int .u32 0, .int .u32 0, .int .u32 0, .int .u32 0, .int .u32 0, .int .u32 0, .int .u32 0, .int .u32 0, .int .u32 0, .int .u32 0, .int .u32 0, .int .u32 0, .int .u32 0, .int .u32 0, .int .u32 0, .int .u32 0, .int .u32 0, .int .u32 0, .int .u32 0, .int .u32 0, .int .u32 0, .int .u32 0, .int .u32 0, .int .u32 0, .int .u32 0, .int .u32 0, .int .u32 0, .int .u32 0, .int .u32 0, .int .u32 0, .int .u32 0, .int .u32 0, .int .u32 0, .int .u32 0, .int .u32 0, .int .u32 0, .int .u32 0, .int .u32 0, .int .u32 0, .int .u32 0, .int .u32 0, .int .u32 0, .int .u32 0, .int .u32 0, .int .u32 0, .int .u32 0, .int .u32 0, .int .u32 0, .int .u32 0, .int .u32 0, .int .u32 0] 55)) := ((Below.refl _ w).alloc (Nat.le_refl _) _).alloc (by simp) _
  obtain ⟨E, hE⟩ : ∃ E, (w.alloc (.cells #[.int .u32 0, .int .u32 0, .int .u32 0, .int .u32 0, .int .u32 0, .int .u32 0, .int .u32 0, .int .u32 0] 54)).alloc (.cells #[.int .u32 0, .int .u32 0, .int .u32 0, .int .u32 0, .int .u32 0, .int .u32 0, .int .u32 0, .int .u32 0, .int .u32 0, .int .u32 0, .int .u32 0, .int .u32 0, .int .u32 0, .int .u32 0, .int .u32 0, .int .u32 0, .int .u32 0, .int .u32 0, .int .u32 0, .int .u32 0, .int .u32 0, .int .u32 0, .int .u32 0, .int .u32 0, .int .u32 0, .int .u32 0, .int .u32 0, .int .u32 0, .int .u32 0, .int .u32 0, .int .u32 0, .int .u32 0, .int .u32 0, .int .u32 0, .int .u32 0, .int .u32 0, .int .u32 0, .int .u32 0, .int .u32 0, .int .u32 0, .int .u32 0, .int .u32 0, .int .u32 0, .int .u32 0, .int .u32 0, .int .u32 0, .int .u32 0, .int .u32 0, .int .u32 0, .int .u32 0, .int .u32 0, .int .u32 0, .int .u32 0, .int .u32 0, .int .u32 0, .int .u32 0, .int .u32 0, .int .u32 0, .int .u32 0, .int .u32 0, .int .u32 0, .int .u32 0, .int .u32 0, .int .u32 0] 55) = E := ⟨_, rfl⟩
  rw [hE] at k0 k1 k2 k3 bE
  obtain ⟨Y8, hY8⟩ : ∃ Y : Array Value, #[.int .u32 0, .int .u32 0, .int .u32 0, .int .u32 0, .int .u32 0, .int .u32 0, .int .u32 0, .int .u32 0] = Y := ⟨_, rfl⟩
  obtain ⟨Y64, hY64⟩ : ∃ Y : Array Value, #[.int .u32 0, .int .u32 0, .int .u32 0, .int .u32 0, .int .u32 0, .int .u32 0, .int .u32 0, .int .u32 0, .int .u32 0, .int .u32 0, .int .u32 0, .int .u32 0, .int .u32 0, .int .u32 0, .int .u32 0, .int .u32 0, .int .u32 0, .int .u32 0, .int .u32 0, .int .u32 0, .int .u32 0, .int .u32 0, .int .u32 0, .int .u32 0, .int .u32 0, .int .u32 0, .int .u32 0, .int .u32 0, .int .u32 0, .int .u32 0, .int .u32 0, .int .u32 0, .int .u32 0, .int .u32 0, .int .u32 0, .int .u32 0, .int .u32 0, .int .u32 0, .int .u32 0, .int .u32 0, .int .u32 0, .int .u32 0, .int .u32 0, .int .u32 0, .int .u32 0, .int .u32 0, .int .u32 0, .int .u32 0, .int .u32 0, .int .u32 0, .int .u32 0, .int .u32 0, .int .u32 0, .int .u32 0, .int .u32 0, .int .u32 0, .int .u32 0, .int .u32 0, .int .u32 0, .int .u32 0, .int .u32 0, .int .u32 0, .int .u32 0, .int .u32 0] = Y := ⟨_, rfl⟩
  have y8 : Y8.size = cf.size := by rw [← hY8, z8]; rfl
  have y64 : Y64.size = cst.size := by rw [← hY64, z64]; rfl
  rw [hY8] at k2
  rw [hY64] at k3
  have K := Lib.hid (And.intro k0 (And.intro k1 (And.intro k2 (And.intro k3 bE))))
  have HI := Lib.hid (And.intro i8 (And.intro i64 (And.intro o8 (And.intro o64 (And.intro y8 (And.intro y64 hs2))))))
  have HC := Lib.hid (And.intro hcf hcst)
  have hmx : Tryd.prog.follows .mixedOrders = true := by kernel_rfl
  clear hY8 hY64 k0 k1 k2 k3 bE h0 h1 i8 i64 o8 o64 y8 y64 hcf hcst hs2
  refine (callsIn_wide (n := 9)).1 ?_
  refine callsIn_of_wp Tryd.func30 rfl trivial ?_
  simp only [Tryd.ntmps30, List.size_toArray, List.length_nil, Nat.reduceSub, Array.replicate_succ, Array.replicate_zero, List.push_toArray, List.append_toArray, List.nil_append, List.cons_append]
  gi_wp2
  refine norm_only7 ?_
  refine wpIn_region_any hmx ?_
  change wpAnyIn _ _ _ _ _ _ _ _ _ (World.drew _)
  have R0 : E.drew.heap[0]? = some (.cells cf t0 (0, 0)) := K.out.1
  have R1 : E.drew.heap[1]? = some (.cells cst t1 (0, 0)) := K.out.2.1
  have R2 : E.drew.heap[w.heap.size]? = some (.cells Y8 54 (0, 0)) := K.out.2.2.1
  have R3 : E.drew.heap[w.heap.size + 1]? = some (.cells Y64 55 (0, 0)) := K.out.2.2.2.1
  have bV : Below w.heap.size w E.drew := K.out.2.2.2.2.trans (((Drawn.more 1).below _).mono K.out.2.2.2.2.size)
  obtain ⟨V, hV⟩ : ∃ V, E.drew = V := ⟨_, rfl⟩
  rw [hV] at R0 R1 R2 R3 bV ⊢
  clear hV K hE
  have st0 := store_whole (P := Tryd.prog) V w.heap.size _ Y8 cf R2 HI.out.2.2.2.2.1 HI.out.2.2.1
  have Q0 : (V.setRow w.heap.size cf).heap[0]? = some (.cells cf t0 (0, 0)) := (setRow_other V _ 0 cf (by have := HI.out.2.2.2.2.2.2; omega)).trans R0
  have Q1 : (V.setRow w.heap.size cf).heap[1]? = some (.cells cst t1 (0, 0)) := (setRow_other V _ 1 cf (by have := HI.out.2.2.2.2.2.2; omega)).trans R1
  have Q2 : (V.setRow w.heap.size cf).heap[w.heap.size]? = some (.cells cf 54 (0, 0)) := setRow_heap V _ _ cf _ (0, 0) R2
  have Q3 : (V.setRow w.heap.size cf).heap[w.heap.size + 1]? = some (.cells Y64 55 (0, 0)) := (setRow_other V _ _ cf (by omega)).trans R3
  have bQ := Go.Proofs.YtjeliomjnalpcaaDoor.below_setRow bV (Nat.le_refl _) cf
  have st1 := store_whole (P := Tryd.prog) (V.setRow w.heap.size cf) (w.heap.size + 1) _ Y64 cst Q3 HI.out.2.2.2.2.2.1 HI.out.2.2.2.1
  have S0 := (setRow_other (V.setRow w.heap.size cf) (w.heap.size + 1) 0 cst (by omega)).trans Q0
  have S1 := (setRow_other (V.setRow w.heap.size cf) (w.heap.size + 1) 1 cst (by have := HI.out.2.2.2.2.2.2; omega)).trans Q1
  have S2 := (setRow_other (V.setRow w.heap.size cf) (w.heap.size + 1) w.heap.size cst (by omega)).trans Q2
  have S3 := setRow_heap (V.setRow w.heap.size cf) _ _ cst _ (0, 0) Q3
  have bS := Go.Proofs.YtjeliomjnalpcaaDoor.below_setRow bQ (Nat.le_succ _) cst
  refine anyI.toAny (l := [(2, fun W' => W'.heap[0]? = some (.cells cf t0 (0, 0))), (3, fun W' => W'.heap[1]? = some (.cells cst t1 (0, 0)))]) ?_
  refine anyI_take (i := 0) (s := 2) (v := .agg cf) (List.mem_cons_self) (by simp) rfl (by kernel_rfl) (by kernel_rfl) (by kernel_rfl) (by kernel_rfl) (by kernel_rfl) (by kernel_rfl) (fun _ _ _ h => h) (held_row2 54 t0 (.global 0) rfl 0 cf rfl (by rfl) Tryd.underlying54 HI.out.1 (fun _ => rfl)) ?_
  refine anyI_take (i := 1) (s := 3) (v := .agg cst) (List.mem_cons_of_mem _ List.mem_cons_self) (by simp) rfl (by kernel_rfl) (by kernel_rfl) (by kernel_rfl) (by kernel_rfl) (by kernel_rfl) (by kernel_rfl) (fun _ _ _ h => h) (held_row2 55 t1 (.global 1) rfl 1 cst rfl (by rfl) Tryd.underlying55 HI.out.2.1 (fun _ => rfl)) ?_
  refine anyI_one (i := 2) (by kernel_rfl) rfl (till2 (fun _ => R0) (fun _ => R1)) (fun K hK => ?_)
  go_simp
  refine hK _ _ ?_
  clear hK K
  refine anyI_one (i := 3) (by kernel_rfl) rfl (till2 (fun _ => Q0) (fun _ => Q1)) (fun K hK => ?_)
  go_simp
  refine hK _ _ ?_
  clear hK K
  refine anyI_done (by kernel_rfl) (till2 (fun _ => S0) (fun _ => S1)) ?_
  have HS := Lib.hid (And.intro S2 (And.intro S3 bS))
  clear st0 st1
  simp only [Exit.then]
  gi_wp2
  refine bodyPost_ret (v := .tuple #[.agg cf, .agg cst]) ?_ rfl ⟨rfl, HS.out.2.2⟩
  have l1 := run_loadVar_row (P := Tryd.prog) _ w.heap.size _ 54 cf (0, 0) _ HS.out.1 Tryd.underlying54 rfl HI.out.1
  have l2 := run_loadVar_row (P := Tryd.prog) _ (w.heap.size + 1) _ 55 cst (0, 0) _ HS.out.2.1 Tryd.underlying55 rfl HI.out.2.1
  simp [results, asAddr, l1, l2]
set_option maxHeartbeats 1000000 in
theorem shaSum_pf (A : Option Addr) (c : Nat) (m : List Nat) (w : World) (hr : Rd .u8 w w.heap.size A m) (hm : Bytes m) (hl : m.length ≤ 100000) (hc : m.length ≤ c) (hL : Laid w) : Calls Tryd.prog 17 #[.slice A m.length c] w (OutAgg .u8 (shaS m) w) := by
  unfold OutAgg
  obtain ⟨n, hn⟩ : ∃ n, m.length = n := ⟨_, rfl⟩
  rw [hn] at hl hc ⊢
  have A1 : ArrK .u8 (w.alloc (.cells #[.int .u8 0, .int .u8 0, .int .u8 0, .int .u8 0, .int .u8 0, .int .u8 0, .int .u8 0, .int .u8 0, .int .u8 0, .int .u8 0, .int .u8 0, .int .u8 0, .int .u8 0, .int .u8 0, .int .u8 0, .int .u8 0, .int .u8 0, .int .u8 0, .int .u8 0, .int .u8 0, .int .u8 0, .int .u8 0, .int .u8 0, .int .u8 0, .int .u8 0, .int .u8 0, .int .u8 0, .int .u8 0, .int .u8 0, .int .u8 0, .int .u8 0, .int .u8 0] 35)) w.heap.size 35 (List.replicate 32 0) := ArrK.new (k := .u8) w 35 (List.replicate 32 0)
  have bE : Below w.heap.size w (w.alloc (.cells #[.int .u8 0, .int .u8 0, .int .u8 0, .int .u8 0, .int .u8 0, .int .u8 0, .int .u8 0, .int .u8 0, .int .u8 0, .int .u8 0, .int .u8 0, .int .u8 0, .int .u8 0, .int .u8 0, .int .u8 0, .int .u8 0, .int .u8 0, .int .u8 0, .int .u8 0, .int .u8 0, .int .u8 0, .int .u8 0, .int .u8 0, .int .u8 0, .int .u8 0, .int .u8 0, .int .u8 0, .int .u8 0, .int .u8 0, .int .u8 0, .int .u8 0, .int .u8 0] 35)) := (Below.refl _ w).alloc (Nat.le_refl _) _
  obtain ⟨E, hE⟩ : ∃ E, w.alloc (.cells #[.int .u8 0, .int .u8 0, .int .u8 0, .int .u8 0, .int .u8 0, .int .u8 0, .int .u8 0, .int .u8 0, .int .u8 0, .int .u8 0, .int .u8 0, .int .u8 0, .int .u8 0, .int .u8 0, .int .u8 0, .int .u8 0, .int .u8 0, .int .u8 0, .int .u8 0, .int .u8 0, .int .u8 0, .int .u8 0, .int .u8 0, .int .u8 0, .int .u8 0, .int .u8 0, .int .u8 0, .int .u8 0, .int .u8 0, .int .u8 0, .int .u8 0, .int .u8 0] 35) = E := ⟨_, rfl⟩
  rw [hE] at A1 bE
  have hLE := hL.below bE
  have hrE := (hr.below bE).more bE.size
  obtain ⟨cs, hcs⟩ : ∃ cs, (ints .u8 (shaS m)).toArray = cs := ⟨_, rfl⟩
  have hcsz : cs.size = 32 := by rw [← hcs, List.size_toArray, length_ints]; exact length_bytesS _
  have hone : cs.all (·.oneCell') = true := by
    rw [← hcs]
    exact Array.all_eq_true_iff_forall_mem.2 fun v hv => ints_one _ _ v (by simpa using hv)
  have hinf : (Tryd.prog.info? 35).map (·.size) = some cs.size := by rw [hcsz]; kernel_rfl
  have HI := Lib.hid (And.intro hinf hone)
  have HN := Lib.hid (new_pf E hLE)
  have HA := Lib.hid (And.intro A1 (And.intro bE (And.intro hLE hrE)))
  have Hm := Lib.hid (And.intro hm hn)
  have HL := Lib.hid hL
  have HC := Lib.hid hcs
  clear hinf hone A1 bE hLE hrE hr hm hn hL hcs
  go_enter Tryd.func17, Tryd.ntmps17
  go_wp2_with fail
  (try rw [hE])
  clear hE
  refine (HN.out).mono ?_
  rintro e w1 ⟨rfl, hH, b1⟩
  obtain ⟨g, hg⟩ : ∃ g, E.heap.size = g := ⟨_, rfl⟩
  rw [hg] at hH b1 ⊢
  have hg2 : 2 ≤ g := by rw [← hg]; exact HA.out.2.2.1.size
  have hgw : w.heap.size < g := by rw [← hg]; exact HA.out.1.lt
  have b1' : Below E.heap.size E w1 := by rw [hg]; exact b1
  have hWr := write_pf g [] m A n c w1 hH hg2 (HA.out.2.2.1.below b1') (fun x hx => by cases hx) ((HA.out.2.2.2.below b1').more b1'.size) Hm.out.1 Hm.out.2 hc (by simp; omega) (fun h0 k o e hk => by
    obtain ⟨b, off, e2, hb, _⟩ := HA.out.2.2.2 (by rw [Hm.out.2]; exact h0)
    rw [e2] at e
    cases e
    omega)
  have HWr := Lib.hid hWr
  have A1 := HA.out.1.below b1'
  have B1 := HA.out.2.1.trans (b1'.mono HA.out.2.1.size)
  have HB := Lib.hid (And.intro A1 B1)
  clear hWr A1 B1 b1 b1' hH
  go_wp2_with fail
  refine (HWr.out).mono ?_
  rintro e w2 ⟨rfl, B2, hH2⟩
  have b2 := B2.below HB.out.2 HB.out.2.size (fun k hk => by have h : k = g := hk; omega)
  have A2 : ArrK .u8 w2 w.heap.size 35 (List.replicate 32 0) := (B2.block _ HB.out.1.lt (fun hk => by have h : w.heap.size = g := hk; omega)).trans HB.out.1
  rw [List.nil_append] at hH2
  have HS := Lib.hid (sum_pf g m w2 hH2 (HL.out.below b2) Hm.out.1 (by rw [Hm.out.2]; omega))
  have HB := Lib.hid (And.intro A2 b2)
  clear hH2 A2 b2 B2
  go_wp2_with fail
  refine (HS.out).mono ?_
  rintro e w3 ⟨rfl, b3⟩
  rw [HC.out]
  have A3 := HB.out.1.below b3
  have st := store_whole (P := Tryd.prog) w3 w.heap.size _ _ cs A3 (by rw [hcsz]; simp [length_ints]) HI.out.2
  have R3 := setRow_heap w3 _ _ cs _ (0, 0) A3
  have B3 := Go.Proofs.YtjeliomjnalpcaaDoor.below_setRow (HB.out.2.trans (b3.mono HB.out.2.size)) (Nat.le_refl _) cs
  have HX := Lib.hid (And.intro R3 B3)
  clear A3 R3 B3 b3
  go_wp2_with fail
  refine bodyPost_ret (v := .agg cs) ?_ rfl ?_
  · exact results_cell_row (p := 2) rfl _ _ w.heap.size 35 cs (0, 0) _ rfl HX.out.1 Tryd.underlying35 rfl HI.out.1
  · exact ⟨by rw [HC.out], HX.out.2⟩
end Go.Proofs.YtjeliomjnalpcaaDoor

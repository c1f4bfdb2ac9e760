/- Several texts in one; each begins with a remark that says what it shows and on which conditions. -/
import Derived.Test.YtjeliomjnalpcaaDoorKal
import Derived.Test.YtjeliomjnalpcaaDoorKaj
import Derived.Deep.DeepCutAuto
/- The code's schedule of a block. Conditions: as typed (64 bytes or more). -/
namespace Go.Proofs.YtjeliomjnalpcaaDoor
open Go.RowKit
set_option maxRecDepth 20000
/-- So many words, and noughts. -/
def schC (b : List Nat) (i : Nat) : List Nat := (List.range i).map (wordS4 b) ++ List.replicate (64 - i) 0
theorem length_schC (b : List Nat) (i : Nat) (h : i ≤ 64) : (schC b i).length = 64 := by simp [schC]; omega
theorem schC_all (b : List Nat) : schC b 16 = schB b 0 := rfl
theorem schC_set (b : List Nat) (i : Nat) (h : i < 64) : (schC b i).set i (wordS4 b i) = schC b (i + 1) := by
  unfold schC
  rw [List.set_append_right _ _ (by simp), List.length_map, List.length_range, Nat.sub_self, show 64 - i = (64 - (i + 1)) + 1 by omega, List.replicate_succ, List.set_cons_zero, List.range_succ, List.map_append, List.append_assoc]
  rfl
set_option maxHeartbeats 4000000 in
theorem schedule_pf (A : Option Addr) (n c : Nat) (b : List Nat) (w : World) (hn : b.length = n) (hr : Rd .u8 w w.heap.size A b) (hb : Bytes b) (hl : 64 ≤ n) (hc : n ≤ c) (hbig : n ≤ 1000000) : Calls Tryd.prog 74 #[.slice A n c] w (OutAgg .u32 (schedS b 48) w) := by
  obtain ⟨ba, bo, rfl, hba, hcell⟩ := hr (by omega)
  have hA1 : Arr (w.alloc (.cells (ints .u32 (List.replicate 64 0)).toArray 55)) w.heap.size 55 (List.replicate 64 0) := World.alloc_heap_new w _
  have bE : Below w.heap.size w (w.alloc (.cells (ints .u32 (List.replicate 64 0)).toArray 55)) := (Below.refl _ w).alloc (Nat.le_refl _) _
  rw [zeros64] at hA1 bE
  obtain ⟨E, hE⟩ : ∃ E, w.alloc (.cells #[.int .u32 0, .int .u32 0, .int .u32 0, .int .u32 0, .int .u32 0, .int .u32 0, .int .u32 0, .int .u32 0, .int .u32 0, .int .u32 0, .int .u32 0, .int .u32 0, .int .u32 0, .int .u32 0, .int .u32 0, .int .u32 0, .int .u32 0, .int .u32 0, .int .u32 0, .int .u32 0, .int .u32 0, .int .u32 0, .int .u32 0, .int .u32 0, .int .u32 0, .int .u32 0, .int .u32 0, .int .u32 0, .int .u32 0, .int .u32 0, .int .u32 0, .int .u32 0, .int .u32 0, .int .u32 0, .int .u32 0, .int .u32 0, .int .u32 0, .int .u32 0, .int .u32 0, .int .u32 0, .int .u32 0, .int .u32 0, .int .u32 0, .int .u32 0, .int .u32 0, .int .u32 0, .int .u32 0, .int .u32 0, .int .u32 0, .int .u32 0, .int .u32 0, .int .u32 0, .int .u32 0, .int .u32 0, .int .u32 0, .int .u32 0, .int .u32 0, .int .u32 0, .int .u32 0, .int .u32 0, .int .u32 0, .int .u32 0, .int .u32 0, .int .u32 0] 55) = E := ⟨_, rfl⟩
  rw [hE] at hA1 bE
  have H1 := Lib.hid hA1
  clear hA1
  go_enter Tryd.func74, Tryd.ntmps74
  go_wp2_with fail
  (try rw [hE])
  clear hE
  go_loopw [7] (fun v wr => ∃ i : Nat, i ≤ 16 ∧ v = .int .i64 i ∧ Arr wr w.heap.size 55 (schC b i) ∧ Below w.heap.size w wr) (fun v _ => 16 - (intOf v).toNat)
  case atStart => exact ⟨0, by omega, rfl, H1.out, bE⟩
  case round =>
    obtain ⟨i, hi, rfl, hB, hb'⟩ := hrel
    by_cases hlt : i < 16
    · have hf := hB.frozen i
      have hco := hB.cell i (by rw [length_schC _ _ (by omega)]; omega)
      have k0 := (hb'.cell (p := ⟨ba, bo + 4 * i, none⟩) hba).trans (hcell (4 * i) (by omega))
      have k1 := (hb'.cell (p := ⟨ba, bo + 4 * i + 1, none⟩) hba).trans (hcell (4 * i + 1) (by omega))
      have k2 := (hb'.cell (p := ⟨ba, bo + 4 * i + 2, none⟩) hba).trans (hcell (4 * i + 2) (by omega))
      have k3 := (hb'.cell (p := ⟨ba, bo + 4 * i + 3, none⟩) hba).trans (hcell (4 * i + 3) (by omega))
      have T := fun m d => take_pf ba (bo + 4 * i) m d (nth b (4 * i)) (nth b (4 * i + 1)) (nth b (4 * i + 2)) (nth b (4 * i + 3)) wr (nth_byte7 b hb _) (nth_byte7 b hb _) (nth_byte7 b hb _) (nth_byte7 b hb _) k0 k1 k2 k3
      have hset := fun (u : World) (hu : Arr u w.heap.size 55 (schC b i)) => schC_set b i (by omega) ▸ hu.set i (wordS4 b i)
      obtain ⟨x, hx⟩ : ∃ x, wordS4 b i = x := ⟨_, rfl⟩
      rw [show nth b (4 * i) * 16777216 + nth b (4 * i + 1) * 65536 + nth b (4 * i + 2) * 256 + nth b (4 * i + 3) = x from hx] at T
      rw [hx] at hset
      have HT := Lib.hid T
      have HS := Lib.hid hset
      have hi2 : (i : Int) < 64 := by omega
      have h4 : ¬ n = 4 * i := by omega
      clear T hset hx k0 k1 k2 k3 hcell
      go_wp2_with fail
      refine (HT.out _ _ (by omega)).mono ?_
      rintro e w2 ⟨rfl, b2⟩
      have hB2 : Arr w2 w.heap.size 55 (schC b i) := hB.below b2
      have hf2 := hB2.frozen i
      have hco2 := hB2.cell i (by rw [length_schC _ _ (by omega)]; omega)
      have bb := (hb'.trans (b2.mono hb'.size)).setCell (p := ⟨w.heap.size, i, none⟩) (Nat.le_refl _) (.int .u32 (x : Int))
      have HF := Lib.hid (And.intro (HS.out w2 hB2) bb)
      clear hB hf hco hB2 b2 bb
      go_wp2_with fail
      go_roundw
      case rel => exact ⟨i + 1, by omega, by go_num, HF.out.1, HF.out.2⟩
      case measure => simp [intOf]; omega
    · obtain rfl : i = 16 := by omega
      rw [schC_all] at hB
      clear hlt H1 bE
      rw [show ((16 : Nat) : Int) = 16 from rfl]
      go_wp2_with fail
      go_loopw [4] (fun v wr => ∃ m : Nat, 16 ≤ m ∧ m ≤ 64 ∧ v = .int .i64 (m : Int) ∧ Arr wr w.heap.size 55 (schB b (m - 16)) ∧ Below w.heap.size w wr) (fun v _ => 64 - (intOf v).toNat)
      case atStart => exact ⟨16, by omega, by omega, rfl, hB, hb'⟩
      case round =>
        obtain ⟨m, hm1, hm2, rfl, hB, hb'⟩ := hrel
        by_cases hlt : m < 64
        · have hlen := length_schB b (m - 16) (by omega)
          have k1 := hB.cell (m - 15) (by omega)
          have k2 := hB.cell (m - 2) (by omega)
          have k3 := hB.cell (m - 16) (by omega)
          have k4 := hB.cell (m - 7) (by omega)
          have hf := hB.frozen m
          have hco := hB.cell m (by omega)
          have g1 := nth_schB b (m - 16) (m - 15) (by omega)
          have g2 := nth_schB b (m - 16) (m - 2) (by omega)
          have g3 := nth_schB b (m - 16) (m - 16) (by omega)
          have g4 := nth_schB b (m - 16) (m - 7) (by omega)
          have hlS := length_schedS b (m - 16)
          have hall := nth_word7 _ (schedS_lt b hb (m - 16))
          have eN : nextS (schedS b (m - 16)) = (nth (schedS b (m - 16)) (m - 16) + nth (schedS b (m - 16)) (m - 7) + sig0 (nth (schedS b (m - 16)) (m - 15)) + sig1 (nth (schedS b (m - 16)) (m - 2))) % 4294967296 := by
            unfold nextS
            rw [hlS, show 16 + (m - 16) - 16 = m - 16 by omega, show 16 + (m - 16) - 7 = m - 7 by omega, show 16 + (m - 16) - 15 = m - 15 by omega, show 16 + (m - 16) - 2 = m - 2 by omega]
          have hst := schB_step b (m - 16) (by omega)
          rw [show 16 + (m - 16) = m by omega, show m - 16 + 1 = m + 1 - 16 by omega] at hst
          have hBd : Arr wr.drew.drew (w.heap.size) 55 (schB b (m - 16)) := hB
          have hset := hBd.set m (nextS (schedS b (m - 16)))
          rw [hst] at hset
          rw [g1] at k1
          rw [g2] at k2
          rw [g3] at k3
          rw [g4] at k4
          have w1 := hall (m - 15)
          have w2 := hall (m - 2)
          have w3 := hall (m - 16)
          have w4 := hall (m - 7)
          obtain ⟨a1, ha1⟩ : ∃ a, nth (schedS b (m - 16)) (m - 15) = a := ⟨_, rfl⟩
          obtain ⟨a2, ha2⟩ : ∃ a, nth (schedS b (m - 16)) (m - 2) = a := ⟨_, rfl⟩
          obtain ⟨a3, ha3⟩ : ∃ a, nth (schedS b (m - 16)) (m - 16) = a := ⟨_, rfl⟩
          obtain ⟨a4, ha4⟩ : ∃ a, nth (schedS b (m - 16)) (m - 7) = a := ⟨_, rfl⟩
          rw [ha1] at k1 w1 eN
          rw [ha2] at k2 w2 eN
          rw [ha3] at k3 w3 eN
          rw [ha4] at k4 w4 eN
          have T0 := right_q a1 7 7 w1 (by omega) (by omega) rfl
          have xT0 := rot32_lt a1 7 w1
          obtain ⟨rT0, hrT0⟩ : ∃ r, rot32 a1 7 = r := ⟨_, rfl⟩
          rw [hrT0] at T0 xT0
          have T1 := right_q a1 18 18 w1 (by omega) (by omega) rfl
          have xT1 := rot32_lt a1 18 w1
          obtain ⟨rT1, hrT1⟩ : ∃ r, rot32 a1 18 = r := ⟨_, rfl⟩
          rw [hrT1] at T1 xT1
          have U0 := right_q a2 17 17 w2 (by omega) (by omega) rfl
          have xU0 := rot32_lt a2 17 w2
          obtain ⟨rU0, hrU0⟩ : ∃ r, rot32 a2 17 = r := ⟨_, rfl⟩
          rw [hrU0] at U0 xU0
          have U1 := right_q a2 19 19 w2 (by omega) (by omega) rfl
          have xU1 := rot32_lt a2 19 w2
          obtain ⟨rU1, hrU1⟩ : ∃ r, rot32 a2 19 = r := ⟨_, rfl⟩
          rw [hrU1] at U1 xU1
          have d1 : a1 / 2 ^ 3 < 4294967296 := Nat.lt_of_le_of_lt (Nat.div_le_self _ _) w1
          have d2 : a2 / 2 ^ 10 < 4294967296 := Nat.lt_of_le_of_lt (Nat.div_le_self _ _) w2
          have i1 : (a1 : Int) / 2 ^ 3 = ((a1 / 2 ^ 3 : Nat) : Int) := by simp
          have i2 : (a2 : Int) / 2 ^ 10 = ((a2 / 2 ^ 10 : Nat) : Int) := by simp
          obtain ⟨b1, hb1⟩ : ∃ z, a1 / 2 ^ 3 = z := ⟨_, rfl⟩
          obtain ⟨b2, hb2⟩ : ∃ z, a2 / 2 ^ 10 = z := ⟨_, rfl⟩
          rw [hb1] at d1 i1
          rw [hb2] at d2 i2
          have i1' : (a1 : Int) / 8 = (b1 : Int) := i1
          have i2' : (a2 : Int) / 1024 = (b2 : Int) := i2
          have yp1 := xor32 rT0 rT1 xT0 xT1
          have lp1 := xor_lt32 xT0 xT1
          obtain ⟨p1, ep1⟩ : ∃ z, rT0 ^^^ rT1 = z := ⟨_, rfl⟩
          rw [ep1] at yp1 lp1
          have yp2 := xor32 p1 b1 lp1 d1
          have lp2 := xor_lt32 lp1 d1
          obtain ⟨p2, ep2⟩ : ∃ z, p1 ^^^ b1 = z := ⟨_, rfl⟩
          rw [ep2] at yp2 lp2
          have yq1 := xor32 rU0 rU1 xU0 xU1
          have lq1 := xor_lt32 xU0 xU1
          obtain ⟨q1, eq1⟩ : ∃ z, rU0 ^^^ rU1 = z := ⟨_, rfl⟩
          rw [eq1] at yq1 lq1
          have yq2 := xor32 q1 b2 lq1 d2
          have lq2 := xor_lt32 lq1 d2
          obtain ⟨q2, eq2⟩ : ∃ z, q1 ^^^ b2 = z := ⟨_, rfl⟩
          rw [eq2] at yq2 lq2
          have eV : nextS (schedS b (m - 16)) = (a3 + a4 + p2 + q2) % 4294967296 := by
            rw [eN]
            unfold sig0 sig1
            rw [hrT0, hrT1, hrU0, hrU1, hb1, hb2, ep1, ep2, eq1, eq2]
          rw [eV] at hset
          have HS := Lib.hid hset
          have HB := Lib.hid (hb'.drew.drew.setCell (p := ⟨w.heap.size, m, none⟩) (Nat.le_refl _) (.int .u32 (((a3 + a4 + p2 + q2) % 4294967296 : Nat) : Int)))
          have T0 := Lib.hid T0
          have T1 := Lib.hid T1
          have U0 := Lib.hid U0
          have U1 := Lib.hid U1
          clear g1 g2 g3 g4 hall eN hst hset ha1 ha2 ha3 ha4 hrT0 hrT1 hrU0 hrU1 hb1 hb2 ep1 ep2 eq1 eq2 eV hB hBd i1 i2
          have j3 : IntKind.i64.wrap ((m : Int) - 16) = ((m - 16 : Nat) : Int) := by rw [IntKind.wrap_i64]; omega
          have j4 : IntKind.i64.wrap ((m : Int) - 7) = ((m - 7 : Nat) : Int) := by rw [IntKind.wrap_i64]; omega
          have j5 : ((m - 16 : Nat) : Int) < 64 := by omega
          have j6 : ((m - 7 : Nat) : Int) < 64 := by omega
          have j7 : (m : Int) < 64 := by omega
          have j8 : IntKind.u32.wrap (IntKind.u32.wrap (IntKind.u32.wrap ((a3 : Int) + (a4 : Int)) + (p2 : Int)) + (q2 : Int)) = (((a3 + a4 + p2 + q2) % 4294967296 : Nat) : Int) := by simp only [IntKind.wrap_u32]; omega
          go_wp2_with fail
          go_region
          have k3 : wr.drew.cell? ⟨w.heap.size, m - 16, none⟩ = some (.int .u32 (a3 : Int)) := k3
          have k4 : wr.drew.cell? ⟨w.heap.size, m - 7, none⟩ = some (.int .u32 (a4 : Int)) := k4
          have hco : wr.drew.cell? ⟨w.heap.size, m, none⟩ = some (.int .u32 (nth (schB b (m - 16)) m : Int)) := hco
          have hf : wr.drew.frozen? ⟨w.heap.size, m, none⟩ = false := hf
          obtain ⟨wq, hwq⟩ : ∃ wq, wr.drew = wq := ⟨_, rfl⟩
          rw [hwq] at k3 k4 hco hf HS HB ⊢
          clear hwq k1 k2
          go_wp2_with fail
          refine wp_region_still_tail 29 (by kernel_rfl) (by kernel_rfl) ?_
          simp only [List.take_succ_cons, List.take_zero, List.drop_succ_cons, List.drop_zero]
          repeat still_step
          still_call (T0.out _)
          repeat still_step
          still_call (T1.out _)
          repeat still_step
          still_call (U0.out _)
          repeat still_step
          still_call (U1.out _)
          repeat still_step
          (try refine wpStill_nil ?_)
          change wpList _ _ _ _ _ wq.drew
          have hcd : wq.drew.cell? ⟨w.heap.size, m, none⟩ = some (.int .u32 (nth (schB b (m - 16)) m : Int)) := hco
          have hfd : wq.drew.frozen? ⟨w.heap.size, m, none⟩ = false := hf
          obtain ⟨wd, hwd⟩ : ∃ wd, wq.drew = wd := ⟨_, rfl⟩
          rw [hwd] at hcd hfd HS HB ⊢
          clear hwd hco hf k3 k4
          go_wp2_with fail
          go_roundw
          case rel => exact ⟨m + 1, by omega, by omega, by go_num, HS.out, HB.out⟩
          case measure => simp [intOf]; omega
        · obtain rfl : m = 64 := by omega
          have hlen := length_schB b 48 (by omega)
          have e48 : schB b 48 = schedS b 48 := by unfold schB; simp
          rw [show 64 - 16 = 48 from rfl, e48] at hB
          rw [e48] at hlen
          obtain ⟨cs, hcs⟩ : ∃ cs, (ints .u32 (schedS b 48)).toArray = cs := ⟨_, rfl⟩
          have hB2 : wr.heap[w.heap.size]? = some (.cells cs 55 (0, 0)) := by rw [← hcs]; exact hB
          have R1 : (wr.setRow w.heap.size cs).heap[w.heap.size]? = some (.cells cs 55 (0, 0)) := by rw [← hcs]; exact hB.stored (schedS b 48)
          have B1 := below_setRow hb' (Nat.le_refl _) cs
          have hcsz : cs.size = 64 := by rw [← hcs]; simp [length_ints, hlen]
          have hone : cs.all (·.oneCell') = true := by
            rw [← hcs]
            exact Array.all_eq_true_iff_forall_mem.2 fun v hv => ints_one _ _ v (by simpa using hv)
          have hinf : (Tryd.prog.info? 55).map (·.size) = some cs.size := by rw [hcsz]; kernel_rfl
          have HC := Lib.hid hcs
          have HX := Lib.hid (And.intro R1 B1)
          have HB2 := Lib.hid hB2
          have HI := Lib.hid (And.intro hinf hone)
          clear R1 B1 hB hB2 hinf hone hcsz hcs hlen e48 hb' hb
          go_upto_region 11 with fail
          refine wp_row_copy 55 _ 2 2 59 _ _ _ _ w.heap.size w.heap.size cs cs ?hx ?hy ?hd (by decide) HB2.out HB2.out Tryd.underlying55 HI.out.1 rfl HI.out.2 ?hq
          case hx => rfl
          case hy => rfl
          case hd => exact (by decide : 59 < 60)
          case hq =>
            have hput : ∀ a : Act, a.put none undef = a := fun _ => rfl
            rw [hput]
            go_wp2_with fail
            refine bodyPost_ret (v := .agg cs) ?_ rfl ?_
            · exact results_cell_row (p := 2) rfl _ _ w.heap.size 55 cs (0, 0) _ rfl HX.out.1 Tryd.underlying55 rfl HI.out.1
            · exact ⟨by rw [HC.out], HX.out.2⟩
end Go.Proofs.YtjeliomjnalpcaaDoor

/- Several texts in one; each begins with a remark that says what it shows and on which conditions. -/
import Derived.Test.YtabcmdhjbjioiaaDoorKav
import Derived.Deep.RegionWith
import Derived.Deep.DeepCutAuto
/- PowerEuler's walk: it answers true, and writes nothing that was there. No condition but what the arguments' types give. -/
namespace Go.Proofs.YtabcmdhjbjioiaaDoor
open Go.RowKit
set_option maxRecDepth 20000
theorem cell_lit8 (w : World) (cs : Array Value) (t : TypeId) (i : Nat) (v : Value) (h : cs[i]? = some v) : (w.alloc (.cells cs t)).cell? ⟨w.heap.size, i, none⟩ = some v := by
  have h1 : (w.alloc (.cells cs t)).heap[w.heap.size]? = some (.cells cs t (0, 0)) := World.alloc_heap_new w _
  unfold World.cell?
  rw [h1]
  exact h
theorem shr8 (M : Nat) : shrS M 1 = M / 2 := by unfold shrS; simp
set_option maxHeartbeats 4000000 in
theorem euler_core (k i : Nat) (A0 : Option Addr) (c0 : Nat) (l0 : List Nat) (w : World) (P0 : RowIs w A0 l0.length c0 l0) (hL : Laid8 w) (hv : ¬ 6 < l0.length) (a1 : Int) (hm : a1 % 5 = (i : Int)) (h0 : 0 ≤ a1 ∧ a1 ≤ 255)
    (_hi : i < 5) (hk : 2 ≤ k ∧ k ≤ 521) (hP : Prm (2 ^ k - 1))
    (hc : (w.alloc (.cells #[.int .i64 61, .int .i64 89, .int .i64 107, .int .i64 127, .int .i64 521] 3)).cell? ⟨w.heap.size, i, none⟩ = some (.int .i64 (k : Int))) :
    Calls Tryd.prog 7 #[.slice A0 l0.length c0, .int .u8 a1] w fun e w' => e = .returned (.bool true) ∧ Below w.heap.size w w' := by
  have HLd := Lib.hid hL
  clear hL
  have hvd0 : decide (6 < (l0.length : Int)) = false := by simp; omega
  have n0 := P0.in_.bits
  have hp1 : 4 ≤ 2 ^ k := Nat.le_trans (by decide) (Nat.pow_le_pow_right (show 0 < 2 by omega) hk.1)
  have hev : (2 ^ k - 1) % 2 = 1 := by
    obtain ⟨j, rfl⟩ : ∃ j, k = j + 1 := ⟨k - 1, by omega⟩
    rw [Nat.pow_succ] at hp1 ⊢
    omega
  have hkb : nbits (2 ^ k) ≤ 523 := by have := nbits_shl 1 k; rw [nbits_one, Nat.mul_one] at this; omega
  have HR := Lib.hid (euler_rest (a := natOf l0) hP hev)
  obtain ⟨M, hM⟩ : ∃ M, 2 ^ k - 1 = M := ⟨_, rfl⟩
  have hMb : nbits M ≤ 523 := by rw [← hM]; exact Nat.le_trans (nbits_mono (Nat.sub_le _ _)) hkb
  have hM2 : M / 2 ≤ M := Nat.div_le_self _ _
  have HMM := Lib.hid hM
  rw [hM] at HR hev
  have HO := Lib.hid hev
  have hM3 : 3 ≤ M := by omega
  obtain ⟨wo, hwo⟩ : ∃ wo, w.alloc (.cells #[.int .i64 61, .int .i64 89, .int .i64 107, .int .i64 127, .int .i64 521] 3) = wo := ⟨_, rfl⟩
  have bo : Below w.heap.size w wo := hwo ▸ (Below.refl _ w).alloc (Nat.le_refl _) _
  have hso : w.heap.size < wo.heap.size := by rw [← hwo]; simp
  obtain ⟨g, hg⟩ : ∃ g, w.heap.size = g := ⟨_, rfl⟩
  rw [hwo, hg] at hc
  have HG := Lib.hid hg
  have P0 := P0.step bo
  have hgo : g < wo.heap.size := by omega
  have HP1 := Lib.hid hp1
  have hm2 : a1.tmod 5 = (i : Int) := by rw [Int.tmod_eq_emod_of_nonneg h0.1]; exact hm
  have hi2 : (i : Int) < 5 := by omega
  have hm3 : IntKind.i64.wrap a1 = a1 := by rw [IntKind.wrap_i64]; omega
  clear hP hM hev hp1
  go_enter Tryd.func7, Tryd.ntmps7
  go_wp2_with fail
  clear hwo hg
  go_upto_region 4 with fail
  have B0 : Below wo.heap.size wo wo.drew := (Drawn.more 1).below _
  have P0 := P0.step B0
  have hc := (B0.cell (p := ⟨g, i, none⟩) hgo).trans hc
  replace hgo := Nat.lt_of_lt_of_le hgo B0.size
  go_cut [6, 7] (fun s1 s2 wx => ∃ X q d, s1 = .slice X q d ∧ s2 = .bool true ∧ NatIs wx X q d M ∧ RowIs wx A0 l0.length c0 l0 ∧ Below wo.heap.size wo wx)
  case first =>
    go_region_with (first
      | (go_at_call 21; refine (hN8 _ 1 _ rfl (by omega)).mono ?_; rintro e wa ⟨Xa, qa, da, rfl, Sn, _, ba⟩; (try replace Ss := Ss.step ba); replace B0 := below_step B0 ba; replace P0 := P0.step ba; replace hc := (ba.cell (p := ⟨g, i, none⟩) hgo).trans hc; replace hgo := Nat.lt_of_lt_of_le hgo ba.size)
      | (go_at_call 25; refine (bShl Sn.in_ (k : Int) (by have := natIs_small8 Sn (by omega); omega)).mono ?_; rintro e wb ⟨Xb, qb, db, rfl, Ss, _, bb⟩; replace Ss := natIs_eq Ss (shl3 1 k (by omega)); replace B0 := below_step B0 bb; replace P0 := P0.step bb; replace hc := (bb.cell (p := ⟨g, i, none⟩) hgo).trans hc; replace hgo := Nat.lt_of_lt_of_le hgo bb.size)
      | (go_at_call 26; refine (sub_is Ss.in_ Sn.in_ (by have := HP1.out; omega)).mono ?_; rintro e wd ⟨Xd, qd, dd, rfl, Sd, bd⟩; replace B0 := below_step B0 bd; replace P0 := P0.step bd))
    all_goals (go_wp2_with fail; go_meet; exact ⟨_, _, _, rfl, rfl, natIs_eq Sd (by rw [Nat.mul_one]; exact HMM.out), P0, B0⟩)
  case rest =>
    obtain ⟨X, q, d, rfl, rfl, S, P0, B1⟩ := hcut
    have B1 := below_step bo B1
    have n1 := P0.in_.bits
    have hq : q ≤ 10 := by have h := S.1; rw [length_wd] at h; omega
    clear hc hgo HG hm hm2 hm3 hi2 h0
    go_wp2_with fail
    refine (bShr S.in_ 1).mono ?_
    rintro e w2 ⟨X2, q2, d2, rfl, S2, _, b2⟩
    have S2 := natIs_eq S2 (shr8 M)
    have B2 := below_step B1 b2
    have P0 := P0.step b2
    have S := S.step b2
    have hq2 : q2 ≤ 10 := by have h := S2.1; rw [length_wd] at h; have := nbits_mono hM2; omega
    obtain ⟨y, hy⟩ : ∃ y, jac (natOf l0) M = y := ⟨_, rfl⟩
    rw [hy] at HR
    have HY := Lib.hid hy
    have hy3 := jac_cases (natOf l0) M
    rw [hy] at hy3
    clear hy
    go_wp2_with fail
    refine (bExp_is _ P0.in_ S2.in_ S.in_ HR.out (by omega) (by have := nbits_mono hM2; omega) (by omega) (by omega) (by omega) (by omega)).mono ?_
    rintro e w3 ⟨X3, q3, d3, rfl, S3, b3⟩
    have B3 := below_step B2 b3
    have P0 := P0.step b3
    have S := S.step b3
    clear S2
    go_wp2_with fail
    refine (bJac y P0.in_ S.in_ HY.out HO.out (by omega) (by omega) (HLd.out.below B3)).mono ?_
    rintro e w4 ⟨rfl, b4⟩
    have B4 := below_step B3 b4
    have S := S.step b4
    have S3 := S3.step b4
    rcases hy3 with rfl | rfl | rfl
    · have S3 := natIs_eq S3 (if_pos rfl)
      go_wp2_with fail
      refine (hN8 w4 0 _ rfl (by omega)).mono ?_
      rintro e w5 ⟨X5, q5, d5, rfl, S5, _, b5⟩
      have B5 := below_step B4 b5
      have S3 := S3.step b5
      go_wp2_with fail
      refine (bSame S3 S5).mono ?_
      rintro e w6 ⟨rfl, b6⟩
      have B6 := below_step B5 b6
      go_wp2_with fail
      refine (powWorks_any _ (HLd.out.below B6)).mono ?_
      rintro e w7 ⟨rfl, b7⟩
      have B7 := below_step B6 b7
      go_wp2_with fail
      go_ret
      exact ⟨rfl, B7⟩
    · have S3 := natIs_eq S3 (show _ = 1 from rfl)
      go_wp2_with fail
      refine (hN8 w4 1 _ rfl (by omega)).mono ?_
      rintro e w5 ⟨X5, q5, d5, rfl, S5, _, b5⟩
      have B5 := below_step B4 b5
      have S3 := S3.step b5
      go_wp2_with fail
      refine (bSame S3 S5).mono ?_
      rintro e w6 ⟨rfl, b6⟩
      have B6 := below_step B5 b6
      go_wp2_with fail
      refine (powWorks_any _ (HLd.out.below B6)).mono ?_
      rintro e w7 ⟨rfl, b7⟩
      have B7 := below_step B6 b7
      go_wp2_with fail
      go_ret
      exact ⟨rfl, B7⟩
    · have S3 := natIs_eq S3 (show _ = M - 1 from rfl)
      go_wp2_with fail
      refine (hN8 w4 0 _ rfl (by omega)).mono ?_
      rintro e w5 ⟨X5, q5, d5, rfl, S5, _, b5⟩
      have B5 := below_step B4 b5
      have S3 := S3.step b5
      have S := S.step b5
      clear S5
      go_wp2_with fail
      refine (hN8 w5 1 _ rfl (by omega)).mono ?_
      rintro e w6 ⟨X6, q6, d6, rfl, S6, _, b6⟩
      have B6 := below_step B5 b6
      have S3 := S3.step b6
      have S := S.step b6
      go_wp2_with fail
      refine (sub_is S.in_ S6.in_ (by omega)).mono ?_
      rintro e w7 ⟨X7, q7, d7, rfl, S7, b7⟩
      have B7 := below_step B6 b7
      have S3 := S3.step b7
      clear S S6
      go_wp2_with fail
      refine (bSame S3 S7).mono ?_
      rintro e w8 ⟨rfl, b8⟩
      have B8 := below_step B7 b8
      go_wp2_with fail
      refine (powWorks_any _ (HLd.out.below B8)).mono ?_
      rintro e w9 ⟨rfl, b9⟩
      have B9 := below_step B8 b9
      go_wp2_with fail
      go_ret
      exact ⟨rfl, B9⟩
theorem powerEuler_walk (A0 : Option Addr) (c0 : Nat) (l0 : List Nat) (a1 : Int) (w : World) (r0 : Rd .u64 w w.heap.size A0 l0) (y0 : Words l0) (_z0 : l0.length * 8 ≤ 140737488351232) (u0 : l0.length ≤ c0) (w1 : (Lit.int .u8 a1).wf = true) (hL : Laid8 w) :
    Calls Tryd.prog 7 #[.slice A0 l0.length c0, .int .u8 a1] w fun e w' => e = .returned (.bool true) ∧ Below w.heap.size w w' := by
  have ha : 0 ≤ a1 ∧ a1 ≤ 255 := by simpa [Lit.wf, IntKind.min, IntKind.max, IntKind.signed, IntKind.bits] using w1
  clear w1
  by_cases hv : 6 < l0.length
  · have hvd0 : decide (6 < (l0.length : Int)) = true := by simp; omega
    go_enter Tryd.func7, Tryd.ntmps7
    go_wp2_with fail
    refine (powWorks_any _ hL).mono ?_
    rintro e w1 ⟨rfl, b1⟩
    go_wp2_with fail
    go_ret
    exact ⟨rfl, b1⟩
  · have P0 : RowIs w A0 l0.length c0 l0 := ⟨rfl, y0, by omega, r0, u0⟩
    have h5 : a1 % 5 = 0 ∨ a1 % 5 = 1 ∨ a1 % 5 = 2 ∨ a1 % 5 = 3 ∨ a1 % 5 = 4 := by omega
    rcases h5 with h | h | h | h | h
    · exact euler_core 61 0 A0 c0 l0 w P0 hL hv a1 h ha (by omega) (by omega) prime61 (cell_lit8 _ _ _ _ _ rfl)
    · exact euler_core 89 1 A0 c0 l0 w P0 hL hv a1 h ha (by omega) (by omega) prime89 (cell_lit8 _ _ _ _ _ rfl)
    · exact euler_core 107 2 A0 c0 l0 w P0 hL hv a1 h ha (by omega) (by omega) prime107 (cell_lit8 _ _ _ _ _ rfl)
    · exact euler_core 127 3 A0 c0 l0 w P0 hL hv a1 h ha (by omega) (by omega) prime127 (cell_lit8 _ _ _ _ _ rfl)
    · exact euler_core 521 4 A0 c0 l0 w P0 hL hv a1 h ha (by omega) (by omega) prime521 (cell_lit8 _ _ _ _ _ rfl)
end Go.Proofs.YtabcmdhjbjioiaaDoor
/- PowerTower' walk: it answers true, and writes nothing that was there. No condition but what the arguments' types give. -/
namespace Go.Proofs.YtabcmdhjbjioiaaDoor
open Go.RowKit
set_option maxHeartbeats 8000000 in
set_option maxRecDepth 100000 in
theorem powerTower_walk (A0 : Option Addr) (c0 : Nat) (l0 : List Nat) (A1 : Option Addr) (c1 : Nat) (l1 : List Nat) (A2 : Option Addr) (c2 : Nat) (l2 : List Nat) (A3 : Option Addr) (c3 : Nat) (l3 : List Nat) (A4 : Option Addr) (c4 : Nat) (l4 : List Nat) (w : World) (r0 : Rd .u64 w w.heap.size A0 l0) (y0 : Words l0) (_z0 : l0.length * 8 ≤ 140737488351232) (u0 : l0.length ≤ c0) (r1 : Rd .u64 w w.heap.size A1 l1) (y1 : Words l1) (_z1 : l1.length * 8 ≤ 140737488351232) (u1 : l1.length ≤ c1) (r2 : Rd .u64 w w.heap.size A2 l2) (y2 : Words l2) (_z2 : l2.length * 8 ≤ 140737488351232) (u2 : l2.length ≤ c2) (r3 : Rd .u64 w w.heap.size A3 l3) (y3 : Words l3) (_z3 : l3.length * 8 ≤ 140737488351232) (u3 : l3.length ≤ c3) (r4 : Rd .u64 w w.heap.size A4 l4) (y4 : Words l4) (_z4 : l4.length * 8 ≤ 140737488351232) (u4 : l4.length ≤ c4) (hL : Laid8 w) :
    Calls Tryd.prog 8 #[.slice A0 l0.length c0, .slice A1 l1.length c1, .slice A2 l2.length c2, .slice A3 l3.length c3, .slice A4 l4.length c4] w fun e w' => e = .returned (.bool true) ∧ Below w.heap.size w w' := by
  have HLd := Lib.hid hL
  clear hL
  by_cases hv0 : 6 < l0.length
  · have hvd0 : decide (6 < (l0.length : Int)) = true := by simp; omega
    go_enter Tryd.func8, Tryd.ntmps8
    go_wp2_with fail
    refine (powWorks_any _ HLd.out).mono ?_
    rintro e w1 ⟨rfl, b1⟩
    have B1 := b1
    go_wp2_with fail
    go_ret
    exact ⟨rfl, B1⟩
  · by_cases hv1 : 6 < l1.length
    · have hvd1 : decide (6 < (l1.length : Int)) = true := by simp; omega
      have hvd0 : decide (6 < (l0.length : Int)) = false := by simp; omega
      go_enter Tryd.func8, Tryd.ntmps8
      go_wp2_with fail
      refine (powWorks_any _ HLd.out).mono ?_
      rintro e w1 ⟨rfl, b1⟩
      have B1 := b1
      go_wp2_with fail
      go_ret
      exact ⟨rfl, B1⟩
    · by_cases hv2 : 3 < l2.length
      · have hvd2 : decide (3 < (l2.length : Int)) = true := by simp; omega
        have hvd0 : decide (6 < (l0.length : Int)) = false := by simp; omega
        have hvd1 : decide (6 < (l1.length : Int)) = false := by simp; omega
        go_enter Tryd.func8, Tryd.ntmps8
        go_wp2_with fail
        refine (powWorks_any _ HLd.out).mono ?_
        rintro e w1 ⟨rfl, b1⟩
        have B1 := b1
        go_wp2_with fail
        go_ret
        exact ⟨rfl, B1⟩
      · by_cases hv3 : 3 < l3.length
        · have hvd3 : decide (3 < (l3.length : Int)) = true := by simp; omega
          have hvd0 : decide (6 < (l0.length : Int)) = false := by simp; omega
          have hvd1 : decide (6 < (l1.length : Int)) = false := by simp; omega
          have hvd2 : decide (3 < (l2.length : Int)) = false := by simp; omega
          go_enter Tryd.func8, Tryd.ntmps8
          go_wp2_with fail
          refine (powWorks_any _ HLd.out).mono ?_
          rintro e w1 ⟨rfl, b1⟩
          have B1 := b1
          go_wp2_with fail
          go_ret
          exact ⟨rfl, B1⟩
        · by_cases hv4 : 6 < l4.length
          · have hvd4 : decide (6 < (l4.length : Int)) = true := by simp; omega
            have hvd0 : decide (6 < (l0.length : Int)) = false := by simp; omega
            have hvd1 : decide (6 < (l1.length : Int)) = false := by simp; omega
            have hvd2 : decide (3 < (l2.length : Int)) = false := by simp; omega
            have hvd3 : decide (3 < (l3.length : Int)) = false := by simp; omega
            go_enter Tryd.func8, Tryd.ntmps8
            go_wp2_with fail
            refine (powWorks_any _ HLd.out).mono ?_
            rintro e w1 ⟨rfl, b1⟩
            have B1 := b1
            go_wp2_with fail
            go_ret
            exact ⟨rfl, B1⟩
          · skip
            have hvd0 : decide (6 < (l0.length : Int)) = false := by simp; omega
            have hvd1 : decide (6 < (l1.length : Int)) = false := by simp; omega
            have hvd2 : decide (3 < (l2.length : Int)) = false := by simp; omega
            have hvd3 : decide (3 < (l3.length : Int)) = false := by simp; omega
            have hvd4 : decide (6 < (l4.length : Int)) = false := by simp; omega
            have P0 : RowIs w A0 l0.length c0 l0 := ⟨rfl, y0, by omega, r0, u0⟩
            have P1 : RowIs w A1 l1.length c1 l1 := ⟨rfl, y1, by omega, r1, u1⟩
            have P2 : RowIs w A2 l2.length c2 l2 := ⟨rfl, y2, by omega, r2, u2⟩
            have P3 : RowIs w A3 l3.length c3 l3 := ⟨rfl, y3, by omega, r3, u3⟩
            have P4 : RowIs w A4 l4.length c4 l4 := ⟨rfl, y4, by omega, r4, u4⟩
            have n0 := P0.in_.bits
            have n1 := P1.in_.bits
            have n2 := P2.in_.bits
            have n3 := P3.in_.bits
            have n4 := P4.in_.bits
            clear r0 y0 r1 y1 r2 y2 r3 y3 r4 y4
            by_cases hm : natOf l4 = 0
            · have HM := Lib.hid hm
              clear hm
              go_enter Tryd.func8, Tryd.ntmps8
              go_wp2_with fail
              refine (bExp_zero P0.in_ P2.in_ P4.in_ HM.out (by omega) (by omega) (by omega)).mono ?_
              rintro e w1 ⟨X1, d1, rfl, b1⟩
              have B1 := b1
              have P0 := P0.step b1
              have P1 := P1.step b1
              have P2 := P2.step b1
              have P3 := P3.step b1
              have P4 := P4.step b1
              go_wp2_with fail
              refine (bExp_zero (natIn_empty w1 X1 d1) P3.in_ P4.in_ HM.out (by omega) (by omega) (by omega)).mono ?_
              rintro e w2 ⟨X2, d2, rfl, b2⟩
              have B2 := below_step B1 b2
              have P0 := P0.step b2
              have P1 := P1.step b2
              have P2 := P2.step b2
              have P3 := P3.step b2
              have P4 := P4.step b2
              go_wp2_with fail
              refine (bMul P2.in_ P3.in_ (by omega) (by omega)).mono ?_
              rintro e w3 ⟨X3, q3, d3, rfl, S3, _, b3⟩
              have B3 := below_step B2 b3
              have P0 := P0.step b3
              have P1 := P1.step b3
              have P2 := P2.step b3
              have P3 := P3.step b3
              have P4 := P4.step b3
              have hq3 : q3 ≤ 3900 := by have h := S3.1; rw [length_wd] at h; have i1 := nbits_mul (natOf l2) (natOf l3); omega
              go_wp2_with fail
              refine (bExp_zero P0.in_ S3.in_ P4.in_ HM.out (by omega) (by omega) (by omega)).mono ?_
              rintro e w4 ⟨X4, d4, rfl, b4⟩
              have B4 := below_step B3 b4
              have P0 := P0.step b4
              have P1 := P1.step b4
              have P2 := P2.step b4
              have P3 := P3.step b4
              have P4 := P4.step b4
              have S3 := S3.step b4
              go_wp2_with fail
              refine (powWorks_any _ (HLd.out.below B4)).mono ?_
              rintro e w5 ⟨rfl, b5⟩
              have B5 := below_step B4 b5
              go_wp2_with fail
              go_ret
              exact ⟨rfl, B5⟩
            · have HM := Lib.hid hm
              clear hm
              go_enter Tryd.func8, Tryd.ntmps8
              go_wp2_with fail
              refine (bExp_ok P0.in_ P2.in_ P4.in_ HM.out (by omega) (by omega) (by omega) (by omega) (by omega)).mono ?_
              rintro e w1 ⟨X1, q1, d1, rfl, S1, b1⟩
              have B1 := b1
              have P0 := P0.step b1
              have P1 := P1.step b1
              have P2 := P2.step b1
              have P3 := P3.step b1
              have P4 := P4.step b1
              have hq1 : q1 ≤ 3900 := by have h := S1.1; rw [length_wd] at h; have i1 := nbits_mono (Nat.le_of_lt (Nat.mod_lt (natOf l0 ^ natOf l2) (Nat.pos_of_ne_zero HM.out))); omega
              go_wp2_with fail
              refine (bExp_is (natOf l0 ^ (natOf l2 * natOf l3) % natOf l4) S1.in_ P3.in_ P4.in_ (pow_tower _ _ _ _) HM.out (by omega) (by omega) (by omega) (by omega) (by omega)).mono ?_
              rintro e w2 ⟨X2, q2, d2, rfl, S2, b2⟩
              have B2 := below_step B1 b2
              have P0 := P0.step b2
              have P1 := P1.step b2
              have P2 := P2.step b2
              have P3 := P3.step b2
              have P4 := P4.step b2
              have S1 := S1.step b2
              go_wp2_with fail
              refine (bMul P2.in_ P3.in_ (by omega) (by omega)).mono ?_
              rintro e w3 ⟨X3, q3, d3, rfl, S3, _, b3⟩
              have B3 := below_step B2 b3
              have P0 := P0.step b3
              have P1 := P1.step b3
              have P2 := P2.step b3
              have P3 := P3.step b3
              have P4 := P4.step b3
              have S1 := S1.step b3
              have S2 := S2.step b3
              have hq3 : q3 ≤ 3900 := by have h := S3.1; rw [length_wd] at h; have i1 := nbits_mul (natOf l2) (natOf l3); omega
              go_wp2_with fail
              refine (bExp_ok P0.in_ S3.in_ P4.in_ HM.out (by have i1 := nbits_mul (natOf l2) (natOf l3); omega) (by omega) (by omega) (by omega) (by omega)).mono ?_
              rintro e w4 ⟨X4, q4, d4, rfl, S4, b4⟩
              have B4 := below_step B3 b4
              have P0 := P0.step b4
              have P1 := P1.step b4
              have P2 := P2.step b4
              have P3 := P3.step b4
              have P4 := P4.step b4
              have S1 := S1.step b4
              have S2 := S2.step b4
              have S3 := S3.step b4
              clear S3
              go_wp2_with fail
              refine (bExp_ok P1.in_ P2.in_ P4.in_ HM.out (by omega) (by omega) (by omega) (by omega) (by omega)).mono ?_
              rintro e w5 ⟨X5, q5, d5, rfl, S5, b5⟩
              have B5 := below_step B4 b5
              have P0 := P0.step b5
              have P1 := P1.step b5
              have P2 := P2.step b5
              have P3 := P3.step b5
              have P4 := P4.step b5
              have S1 := S1.step b5
              have S2 := S2.step b5
              have S4 := S4.step b5
              have hq5 : q5 ≤ 3900 := by have h := S5.1; rw [length_wd] at h; have i1 := nbits_mono (Nat.le_of_lt (Nat.mod_lt (natOf l1 ^ natOf l2) (Nat.pos_of_ne_zero HM.out))); omega
              go_wp2_with fail
              refine (bMul P0.in_ P1.in_ (by omega) (by omega)).mono ?_
              rintro e w6 ⟨X6, q6, d6, rfl, S6, _, b6⟩
              have B6 := below_step B5 b6
              have P0 := P0.step b6
              have P1 := P1.step b6
              have P2 := P2.step b6
              have P3 := P3.step b6
              have P4 := P4.step b6
              have S1 := S1.step b6
              have S2 := S2.step b6
              have S4 := S4.step b6
              have S5 := S5.step b6
              have hq6 : q6 ≤ 3900 := by have h := S6.1; rw [length_wd] at h; have i1 := nbits_mul (natOf l0) (natOf l1); omega
              go_wp2_with fail
              refine (bExp_ok S6.in_ P2.in_ P4.in_ HM.out (by omega) (by omega) (by omega) (by omega) (by omega)).mono ?_
              rintro e w7 ⟨X7, q7, d7, rfl, S7, b7⟩
              have B7 := below_step B6 b7
              have P0 := P0.step b7
              have P1 := P1.step b7
              have P2 := P2.step b7
              have P3 := P3.step b7
              have P4 := P4.step b7
              have S1 := S1.step b7
              have S2 := S2.step b7
              have S4 := S4.step b7
              have S5 := S5.step b7
              have S6 := S6.step b7
              clear S6
              go_wp2_with fail
              refine (bMul S1.in_ S5.in_ (by omega) (by omega)).mono ?_
              rintro e w8 ⟨X8, q8, d8, rfl, S8, _, b8⟩
              have B8 := below_step B7 b8
              have P0 := P0.step b8
              have P1 := P1.step b8
              have P2 := P2.step b8
              have P3 := P3.step b8
              have P4 := P4.step b8
              have S1 := S1.step b8
              have S2 := S2.step b8
              have S4 := S4.step b8
              have S5 := S5.step b8
              have S7 := S7.step b8
              have hq8 : q8 ≤ 3900 := by have h := S8.1; rw [length_wd] at h; have i1 := nbits_mono (Nat.le_of_lt (Nat.mod_lt (natOf l0 ^ natOf l2) (Nat.pos_of_ne_zero HM.out))); have i2 := nbits_mono (Nat.le_of_lt (Nat.mod_lt (natOf l1 ^ natOf l2) (Nat.pos_of_ne_zero HM.out))); have i3 := nbits_mul (natOf l0 ^ natOf l2 % natOf l4) (natOf l1 ^ natOf l2 % natOf l4); omega
              clear S1 S5
              go_wp2_with fail
              refine (bMod_is ((natOf l0 * natOf l1) ^ natOf l2 % natOf l4) S8.in_ P4.in_ (pow_prod _ _ _ _) HM.out (by omega) (by omega)).mono ?_
              rintro e w9 ⟨X9, q9, d9, rfl, S9, b9⟩
              have B9 := below_step B8 b9
              have P0 := P0.step b9
              have P1 := P1.step b9
              have P2 := P2.step b9
              have P3 := P3.step b9
              have P4 := P4.step b9
              have S2 := S2.step b9
              have S4 := S4.step b9
              have S7 := S7.step b9
              have S8 := S8.step b9
              clear S8
              go_wp2_with fail
              refine (cmp_same S2.in_ S4.in_ rfl).mono ?_
              rintro e w31 ⟨rfl, b31⟩
              have B31 := below_step B9 b31
              have P0 := P0.step b31
              have P1 := P1.step b31
              have P2 := P2.step b31
              have P3 := P3.step b31
              have P4 := P4.step b31
              have S2 := S2.step b31
              have S4 := S4.step b31
              have S7 := S7.step b31
              have S9 := S9.step b31
              clear S2 S4
              go_wp2_with fail
              refine (cmp_same S7.in_ S9.in_ rfl).mono ?_
              rintro e w32 ⟨rfl, b32⟩
              have B32 := below_step B31 b32
              have P0 := P0.step b32
              have P1 := P1.step b32
              have P2 := P2.step b32
              have P3 := P3.step b32
              have P4 := P4.step b32
              have S7 := S7.step b32
              have S9 := S9.step b32
              go_wp2_with fail
              refine (powWorks_any _ (HLd.out.below B32)).mono ?_
              rintro e w33 ⟨rfl, b33⟩
              have B33 := below_step B32 b33
              go_wp2_with fail
              go_ret
              exact ⟨rfl, B33⟩
end Go.Proofs.YtabcmdhjbjioiaaDoor
/- PowerRests' walk: it answers true, and writes nothing that was there. No condition but what the arguments' types give. -/
namespace Go.Proofs.YtabcmdhjbjioiaaDoor
open Go.RowKit
set_option maxHeartbeats 8000000 in
set_option maxRecDepth 100000 in
theorem powerRests_walk (A0 : Option Addr) (c0 : Nat) (l0 : List Nat) (A1 : Option Addr) (c1 : Nat) (l1 : List Nat) (A2 : Option Addr) (c2 : Nat) (l2 : List Nat) (A3 : Option Addr) (c3 : Nat) (l3 : List Nat) (w : World) (r0 : Rd .u64 w w.heap.size A0 l0) (y0 : Words l0) (_z0 : l0.length * 8 ≤ 140737488351232) (u0 : l0.length ≤ c0) (r1 : Rd .u64 w w.heap.size A1 l1) (y1 : Words l1) (_z1 : l1.length * 8 ≤ 140737488351232) (u1 : l1.length ≤ c1) (r2 : Rd .u64 w w.heap.size A2 l2) (y2 : Words l2) (_z2 : l2.length * 8 ≤ 140737488351232) (u2 : l2.length ≤ c2) (r3 : Rd .u64 w w.heap.size A3 l3) (y3 : Words l3) (_z3 : l3.length * 8 ≤ 140737488351232) (u3 : l3.length ≤ c3) (hL : Laid8 w) :
    Calls Tryd.prog 9 #[.slice A0 l0.length c0, .slice A1 l1.length c1, .slice A2 l2.length c2, .slice A3 l3.length c3] w fun e w' => e = .returned (.bool true) ∧ Below w.heap.size w w' := by
  have HLd := Lib.hid hL
  clear hL
  by_cases hv0 : 6 < l0.length
  · have hvd0 : decide (6 < (l0.length : Int)) = true := by simp; omega
    go_enter Tryd.func9, Tryd.ntmps9
    go_wp2_with fail
    refine (powWorks_any _ HLd.out).mono ?_
    rintro e w1 ⟨rfl, b1⟩
    have B1 := b1
    go_wp2_with fail
    go_ret
    exact ⟨rfl, B1⟩
  · by_cases hv1 : 3 < l1.length
    · have hvd1 : decide (3 < (l1.length : Int)) = true := by simp; omega
      have hvd0 : decide (6 < (l0.length : Int)) = false := by simp; omega
      go_enter Tryd.func9, Tryd.ntmps9
      go_wp2_with fail
      refine (powWorks_any _ HLd.out).mono ?_
      rintro e w1 ⟨rfl, b1⟩
      have B1 := b1
      go_wp2_with fail
      go_ret
      exact ⟨rfl, B1⟩
    · by_cases hv2 : 3 < l2.length
      · have hvd2 : decide (3 < (l2.length : Int)) = true := by simp; omega
        have hvd0 : decide (6 < (l0.length : Int)) = false := by simp; omega
        have hvd1 : decide (3 < (l1.length : Int)) = false := by simp; omega
        go_enter Tryd.func9, Tryd.ntmps9
        go_wp2_with fail
        refine (powWorks_any _ HLd.out).mono ?_
        rintro e w1 ⟨rfl, b1⟩
        have B1 := b1
        go_wp2_with fail
        go_ret
        exact ⟨rfl, B1⟩
      · by_cases hv3 : 3 < l3.length
        · have hvd3 : decide (3 < (l3.length : Int)) = true := by simp; omega
          have hvd0 : decide (6 < (l0.length : Int)) = false := by simp; omega
          have hvd1 : decide (3 < (l1.length : Int)) = false := by simp; omega
          have hvd2 : decide (3 < (l2.length : Int)) = false := by simp; omega
          go_enter Tryd.func9, Tryd.ntmps9
          go_wp2_with fail
          refine (powWorks_any _ HLd.out).mono ?_
          rintro e w1 ⟨rfl, b1⟩
          have B1 := b1
          go_wp2_with fail
          go_ret
          exact ⟨rfl, B1⟩
        · skip
          have hvd0 : decide (6 < (l0.length : Int)) = false := by simp; omega
          have hvd1 : decide (3 < (l1.length : Int)) = false := by simp; omega
          have hvd2 : decide (3 < (l2.length : Int)) = false := by simp; omega
          have hvd3 : decide (3 < (l3.length : Int)) = false := by simp; omega
          have P0 : RowIs w A0 l0.length c0 l0 := ⟨rfl, y0, by omega, r0, u0⟩
          have P1 : RowIs w A1 l1.length c1 l1 := ⟨rfl, y1, by omega, r1, u1⟩
          have P2 : RowIs w A2 l2.length c2 l2 := ⟨rfl, y2, by omega, r2, u2⟩
          have P3 : RowIs w A3 l3.length c3 l3 := ⟨rfl, y3, by omega, r3, u3⟩
          have n0 := P0.in_.bits
          have n1 := P1.in_.bits
          have n2 := P2.in_.bits
          have n3 := P3.in_.bits
          clear r0 y0 r1 y1 r2 y2 r3 y3
          by_cases hm : natOf l2 = 0
          · have HM := Lib.hid hm
            clear hm
            go_enter Tryd.func9, Tryd.ntmps9
            go_wp2_with fail
            refine (bMul P2.in_ P3.in_ (by omega) (by omega)).mono ?_
            rintro e w1 ⟨X1, q1, d1, rfl, S1, _, b1⟩
            have B1 := b1
            have P0 := P0.step b1
            have P1 := P1.step b1
            have P2 := P2.step b1
            have P3 := P3.step b1
            have hq1 : q1 ≤ 3900 := by have h := S1.1; rw [length_wd] at h; have i0 := nbits_mul (natOf l2) (natOf l3); omega
            go_wp2_with fail
            refine (bExp_zero P0.in_ P1.in_ S1.in_ (by rw [HM.out, Nat.zero_mul]) (by omega) (by omega) (by omega)).mono ?_
            rintro e w2 ⟨X2, d2, rfl, b2⟩
            have B2 := below_step B1 b2
            have P0 := P0.step b2
            have P1 := P1.step b2
            have P2 := P2.step b2
            have P3 := P3.step b2
            have S1 := S1.step b2
            clear S1
            go_wp2_with fail
            refine (bExp_zero P0.in_ P1.in_ P2.in_ HM.out (by omega) (by omega) (by omega)).mono ?_
            rintro e w3 ⟨X3, d3, rfl, b3⟩
            have B3 := below_step B2 b3
            have P0 := P0.step b3
            have P1 := P1.step b3
            have P2 := P2.step b3
            have P3 := P3.step b3
            go_wp2_with fail
            refine (bMul P2.in_ P3.in_ (by omega) (by omega)).mono ?_
            rintro e w4 ⟨X4, q4, d4, rfl, S4, _, b4⟩
            have B4 := below_step B3 b4
            have P0 := P0.step b4
            have P1 := P1.step b4
            have P2 := P2.step b4
            have P3 := P3.step b4
            have hq4 : q4 ≤ 3900 := by have h := S4.1; rw [length_wd] at h; have i0 := nbits_mul (natOf l2) (natOf l3); omega
            go_wp2_with fail
            refine (bAdd P0.in_ S4.in_ (by omega)).mono ?_
            rintro e w5 ⟨X5, q5, d5, rfl, S5, _, b5⟩
            have B5 := below_step B4 b5
            have P0 := P0.step b5
            have P1 := P1.step b5
            have P2 := P2.step b5
            have P3 := P3.step b5
            have S4 := S4.step b5
            have hq5 : q5 ≤ 3900 := by have h := S5.1; rw [length_wd] at h; have i0 := nbits_mul (natOf l2) (natOf l3); have i9 := nbits_add (natOf l0) (natOf l2 * natOf l3); omega
            clear S4
            go_wp2_with fail
            refine (bExp_zero S5.in_ P1.in_ P2.in_ HM.out (by omega) (by omega) (by omega)).mono ?_
            rintro e w21 ⟨X6, d6, rfl, b21⟩
            have B21 := below_step B5 b21
            have P0 := P0.step b21
            have P1 := P1.step b21
            have P2 := P2.step b21
            have P3 := P3.step b21
            have S5 := S5.step b21
            go_wp2_with fail
            refine (powWorks_any _ (HLd.out.below B21)).mono ?_
            rintro e w22 ⟨rfl, b22⟩
            have B22 := below_step B21 b22
            go_wp2_with fail
            go_ret
            exact ⟨rfl, B22⟩
          · have HM := Lib.hid hm
            clear hm
            by_cases hk : natOf l3 = 0
            · have HK := Lib.hid hk
              clear hk
              go_enter Tryd.func9, Tryd.ntmps9
              go_wp2_with fail
              refine (bMul P2.in_ P3.in_ (by omega) (by omega)).mono ?_
              rintro e w1 ⟨X1, q1, d1, rfl, S1, _, b1⟩
              have B1 := b1
              have P0 := P0.step b1
              have P1 := P1.step b1
              have P2 := P2.step b1
              have P3 := P3.step b1
              have hq1 : q1 ≤ 3900 := by have h := S1.1; rw [length_wd] at h; have i0 := nbits_mul (natOf l2) (natOf l3); omega
              go_wp2_with fail
              refine (bExp_zero P0.in_ P1.in_ S1.in_ (by rw [HK.out, Nat.mul_zero]) (by omega) (by omega) (by omega)).mono ?_
              rintro e w2 ⟨X2, d2, rfl, b2⟩
              have B2 := below_step B1 b2
              have P0 := P0.step b2
              have P1 := P1.step b2
              have P2 := P2.step b2
              have P3 := P3.step b2
              have S1 := S1.step b2
              clear S1
              go_wp2_with fail
              refine (bExp_ok P0.in_ P1.in_ P2.in_ HM.out (by omega) (by omega) (by omega) (by omega) (by omega)).mono ?_
              rintro e w3 ⟨X3, q3, d3, rfl, S3, b3⟩
              have B3 := below_step B2 b3
              have P0 := P0.step b3
              have P1 := P1.step b3
              have P2 := P2.step b3
              have P3 := P3.step b3
              go_wp2_with fail
              refine (bMul P2.in_ P3.in_ (by omega) (by omega)).mono ?_
              rintro e w4 ⟨X4, q4, d4, rfl, S4, _, b4⟩
              have B4 := below_step B3 b4
              have P0 := P0.step b4
              have P1 := P1.step b4
              have P2 := P2.step b4
              have P3 := P3.step b4
              have S3 := S3.step b4
              have hq4 : q4 ≤ 3900 := by have h := S4.1; rw [length_wd] at h; have i0 := nbits_mul (natOf l2) (natOf l3); omega
              go_wp2_with fail
              refine (bAdd P0.in_ S4.in_ (by omega)).mono ?_
              rintro e w5 ⟨X5, q5, d5, rfl, S5, _, b5⟩
              have B5 := below_step B4 b5
              have P0 := P0.step b5
              have P1 := P1.step b5
              have P2 := P2.step b5
              have P3 := P3.step b5
              have S3 := S3.step b5
              have S4 := S4.step b5
              have hq5 : q5 ≤ 3900 := by have h := S5.1; rw [length_wd] at h; have i0 := nbits_mul (natOf l2) (natOf l3); have i9 := nbits_add (natOf l0) (natOf l2 * natOf l3); omega
              clear S4
              go_wp2_with fail
              refine (bExp_is (natOf l0 ^ natOf l1 % natOf l2) S5.in_ P1.in_ P2.in_ (pow_more _ _ _ _) HM.out (by omega) (by omega) (by omega) (by omega) (by omega)).mono ?_
              rintro e w21 ⟨X6, q6, d6, rfl, S6, b21⟩
              have B21 := below_step B5 b21
              have P0 := P0.step b21
              have P1 := P1.step b21
              have P2 := P2.step b21
              have P3 := P3.step b21
              have S3 := S3.step b21
              have S5 := S5.step b21
              clear S5
              go_wp2_with fail
              refine (powWorks_any _ (HLd.out.below B21)).mono ?_
              rintro e w22 ⟨rfl, b22⟩
              have B22 := below_step B21 b22
              go_wp2_with fail
              go_ret
              exact ⟨rfl, B22⟩
            · have HK := Lib.hid hk
              clear hk
              go_enter Tryd.func9, Tryd.ntmps9
              go_wp2_with fail
              refine (bMul P2.in_ P3.in_ (by omega) (by omega)).mono ?_
              rintro e w1 ⟨X1, q1, d1, rfl, S1, _, b1⟩
              have B1 := b1
              have P0 := P0.step b1
              have P1 := P1.step b1
              have P2 := P2.step b1
              have P3 := P3.step b1
              have hq1 : q1 ≤ 3900 := by have h := S1.1; rw [length_wd] at h; have i0 := nbits_mul (natOf l2) (natOf l3); omega
              go_wp2_with fail
              refine (bExp_ok P0.in_ P1.in_ S1.in_ (Nat.mul_ne_zero HM.out HK.out) (by omega) (by have i0 := nbits_mul (natOf l2) (natOf l3); omega) (by omega) (by omega) (by omega)).mono ?_
              rintro e w2 ⟨X2, q2, d2, rfl, S2, b2⟩
              have B2 := below_step B1 b2
              have P0 := P0.step b2
              have P1 := P1.step b2
              have P2 := P2.step b2
              have P3 := P3.step b2
              have S1 := S1.step b2
              have hq2 : q2 ≤ 3900 := by have h := S2.1; rw [length_wd] at h; have i1 := nbits_mono (Nat.le_of_lt (Nat.mod_lt (natOf l0 ^ natOf l1) (Nat.pos_of_ne_zero (Nat.mul_ne_zero HM.out HK.out)))); have i0 := nbits_mul (natOf l2) (natOf l3); omega
              clear S1
              go_wp2_with fail
              refine (bExp_ok P0.in_ P1.in_ P2.in_ HM.out (by omega) (by omega) (by omega) (by omega) (by omega)).mono ?_
              rintro e w3 ⟨X3, q3, d3, rfl, S3, b3⟩
              have B3 := below_step B2 b3
              have P0 := P0.step b3
              have P1 := P1.step b3
              have P2 := P2.step b3
              have P3 := P3.step b3
              have S2 := S2.step b3
              go_wp2_with fail
              refine (bMul P2.in_ P3.in_ (by omega) (by omega)).mono ?_
              rintro e w4 ⟨X4, q4, d4, rfl, S4, _, b4⟩
              have B4 := below_step B3 b4
              have P0 := P0.step b4
              have P1 := P1.step b4
              have P2 := P2.step b4
              have P3 := P3.step b4
              have S2 := S2.step b4
              have S3 := S3.step b4
              have hq4 : q4 ≤ 3900 := by have h := S4.1; rw [length_wd] at h; have i0 := nbits_mul (natOf l2) (natOf l3); omega
              go_wp2_with fail
              refine (bAdd P0.in_ S4.in_ (by omega)).mono ?_
              rintro e w5 ⟨X5, q5, d5, rfl, S5, _, b5⟩
              have B5 := below_step B4 b5
              have P0 := P0.step b5
              have P1 := P1.step b5
              have P2 := P2.step b5
              have P3 := P3.step b5
              have S2 := S2.step b5
              have S3 := S3.step b5
              have S4 := S4.step b5
              have hq5 : q5 ≤ 3900 := by have h := S5.1; rw [length_wd] at h; have i0 := nbits_mul (natOf l2) (natOf l3); have i9 := nbits_add (natOf l0) (natOf l2 * natOf l3); omega
              clear S4
              go_wp2_with fail
              refine (bExp_is (natOf l0 ^ natOf l1 % natOf l2) S5.in_ P1.in_ P2.in_ (pow_more _ _ _ _) HM.out (by omega) (by omega) (by omega) (by omega) (by omega)).mono ?_
              rintro e w21 ⟨X6, q6, d6, rfl, S6, b21⟩
              have B21 := below_step B5 b21
              have P0 := P0.step b21
              have P1 := P1.step b21
              have P2 := P2.step b21
              have P3 := P3.step b21
              have S2 := S2.step b21
              have S3 := S3.step b21
              have S5 := S5.step b21
              clear S5
              go_wp2_with fail
              refine (bMod_is (natOf l0 ^ natOf l1 % natOf l2) S2.in_ P2.in_ (pow_part _ _ _ _) HM.out (by omega) (by omega)).mono ?_
              rintro e w22 ⟨X7, q7, d7, rfl, S7, b22⟩
              have B22 := below_step B21 b22
              have P0 := P0.step b22
              have P1 := P1.step b22
              have P2 := P2.step b22
              have P3 := P3.step b22
              have S2 := S2.step b22
              have S3 := S3.step b22
              have S6 := S6.step b22
              clear S2
              go_wp2_with fail
              refine (cmp_same S7.in_ S3.in_ rfl).mono ?_
              rintro e w23 ⟨rfl, b23⟩
              have B23 := below_step B22 b23
              have P0 := P0.step b23
              have P1 := P1.step b23
              have P2 := P2.step b23
              have P3 := P3.step b23
              have S3 := S3.step b23
              have S6 := S6.step b23
              have S7 := S7.step b23
              clear S7
              go_wp2_with fail
              refine (cmp_same S6.in_ S3.in_ rfl).mono ?_
              rintro e w24 ⟨rfl, b24⟩
              have B24 := below_step B23 b24
              have P0 := P0.step b24
              have P1 := P1.step b24
              have P2 := P2.step b24
              have P3 := P3.step b24
              have S3 := S3.step b24
              have S6 := S6.step b24
              go_wp2_with fail
              refine (powWorks_any _ (HLd.out.below B24)).mono ?_
              rintro e w25 ⟨rfl, b25⟩
              have B25 := below_step B24 b25
              go_wp2_with fail
              go_ret
              exact ⟨rfl, B25⟩
end Go.Proofs.YtabcmdhjbjioiaaDoor

/- Several texts in one; each begins with a remark that says what it shows and on which conditions. -/
import Derived.Test.YtbgaboboakkimaaKc
import Derived.WalkKit
import Derived.ProofKit
import Derived.OpenShut
import Derived.ShutString
import Derived.ChangeOld
import Derived.Below
/- GcdHolds' walk: it answers true, and writes nothing that was there. No condition but what the arguments' types give. -/
namespace Go.Proofs.Ytbgaboboakkimaa
open Go.RowKit
set_option maxHeartbeats 2000000 in
set_option maxRecDepth 100000 in
theorem gcdHolds_walk (A0 : Option Addr) (c0 : Nat) (l0 : List Nat) (A1 : Option Addr) (c1 : Nat) (l1 : List Nat) (A2 : Option Addr) (c2 : Nat) (l2 : List Nat) (w : World) (r0 : Rd .u64 w w.heap.size A0 l0) (y0 : Words l0) (_z0 : l0.length * 8 ≤ 140737488351232) (u0 : l0.length ≤ c0) (r1 : Rd .u64 w w.heap.size A1 l1) (y1 : Words l1) (_z1 : l1.length * 8 ≤ 140737488351232) (u1 : l1.length ≤ c1) (r2 : Rd .u64 w w.heap.size A2 l2) (y2 : Words l2) (_z2 : l2.length * 8 ≤ 140737488351232) (u2 : l2.length ≤ c2) :
    Calls Try.prog 5 #[.slice A0 l0.length c0, .slice A1 l1.length c1, .slice A2 l2.length c2] w fun e w' => e = .returned (.bool true) ∧ Below w.heap.size w w' := by
  by_cases hv0 : 40 < l0.length
  · have hvd0 : decide (40 < (l0.length : Int)) = true := by simp; omega
    go_enter Try.func5, Try.ntmps5
    go_wp2_with fail
    refine (gcdWorks_any _).mono ?_
    rintro e w1 ⟨rfl, b1⟩
    have B1 := b1
    go_wp2_with fail
    go_ret
    exact ⟨rfl, B1⟩
  · by_cases hv1 : 40 < l1.length
    · have hvd1 : decide (40 < (l1.length : Int)) = true := by simp; omega
      have hvd0 : decide (40 < (l0.length : Int)) = false := by simp; omega
      go_enter Try.func5, Try.ntmps5
      go_wp2_with fail
      refine (gcdWorks_any _).mono ?_
      rintro e w1 ⟨rfl, b1⟩
      have B1 := b1
      go_wp2_with fail
      go_ret
      exact ⟨rfl, B1⟩
    · by_cases hv2 : 10 < l2.length
      · have hvd2 : decide (10 < (l2.length : Int)) = true := by simp; omega
        have hvd0 : decide (40 < (l0.length : Int)) = false := by simp; omega
        have hvd1 : decide (40 < (l1.length : Int)) = false := by simp; omega
        go_enter Try.func5, Try.ntmps5
        go_wp2_with fail
        refine (gcdWorks_any _).mono ?_
        rintro e w1 ⟨rfl, b1⟩
        have B1 := b1
        go_wp2_with fail
        go_ret
        exact ⟨rfl, B1⟩
      · skip
        have hvd0 : decide (40 < (l0.length : Int)) = false := by simp; omega
        have hvd1 : decide (40 < (l1.length : Int)) = false := by simp; omega
        have hvd2 : decide (10 < (l2.length : Int)) = false := by simp; omega
        have P0 : RowIs w A0 l0.length c0 l0 := ⟨rfl, y0, by omega, r0, u0⟩
        have P1 : RowIs w A1 l1.length c1 l1 := ⟨rfl, y1, by omega, r1, u1⟩
        have P2 : RowIs w A2 l2.length c2 l2 := ⟨rfl, y2, by omega, r2, u2⟩
        clear r0 y0 r1 y1 r2 y2
        go_enter Try.func5, Try.ntmps5
        go_wp2_with fail
        refine (bMul P0.in_ P2.in_ (by omega) (by omega)).mono ?_
        rintro e w1 ⟨X1, q1, d1, rfl, S1, _, b1⟩
        have B1 := b1
        have P0 := P0.step b1
        have P1 := P1.step b1
        have P2 := P2.step b1
        have hq1 : q1 ≤ 4000 := by have h := S1.1; rw [length_wd] at h; have n0 := P0.in_.bits; have n1 := P1.in_.bits; have n2 := P2.in_.bits; have n3 := nbits_mul (natOf l0) (natOf l2); have n4 := nbits_mul (natOf l1) (natOf l2); omega
        go_wp2_with fail
        refine (bMul P1.in_ P2.in_ (by omega) (by omega)).mono ?_
        rintro e w2 ⟨X2, q2, d2, rfl, S2, _, b2⟩
        have B2 := below_step B1 b2
        have P0 := P0.step b2
        have P1 := P1.step b2
        have P2 := P2.step b2
        have S1 := S1.step b2
        have hq2 : q2 ≤ 4000 := by have h := S2.1; rw [length_wd] at h; have n0 := P0.in_.bits; have n1 := P1.in_.bits; have n2 := P2.in_.bits; have n3 := nbits_mul (natOf l0) (natOf l2); have n4 := nbits_mul (natOf l1) (natOf l2); omega
        go_wp2_with fail
        refine (bExt S1.in_ S2.in_ (by omega) (by omega)).mono ?_
        rintro e w3 ⟨X3, q3, d3, Y3, r3, f3, Z3, s3, t3, x, y, rfl, S3, U3, V3, hext, b3⟩
        have B3 := below_step B2 b3
        have P0 := P0.step b3
        have P1 := P1.step b3
        have P2 := P2.step b3
        have S1 := S1.step b3
        have S2 := S2.step b3
        have hE := Lib.hid hext
        clear hext
        have hq3 : q3 ≤ 4000 := by have h := S3.1; rw [length_wd] at h; have n0 := P0.in_.bits; have n1 := P1.in_.bits; have n2 := P2.in_.bits; have n3 := nbits_mul (natOf l0) (natOf l2); have n4 := nbits_mul (natOf l1) (natOf l2); have := nbits_gcd ((natOf l0 * natOf l2)) ((natOf l1 * natOf l2)); omega
        go_wp2_with fail
        refine (bGcd S1.in_ S2.in_ (by omega) (by omega)).mono ?_
        rintro e w4 ⟨X4, q4, d4, rfl, S4, _, b4⟩
        have B4 := below_step B3 b4
        have P0 := P0.step b4
        have P1 := P1.step b4
        have P2 := P2.step b4
        have S1 := S1.step b4
        have S2 := S2.step b4
        have S3 := S3.step b4
        have U3 := U3.step b4
        have V3 := V3.step b4
        go_wp2_with fail
        refine (bSame S3 S4).mono ?_
        rintro e w5 ⟨rfl, b5⟩
        have B5 := below_step B4 b5
        have P0 := P0.step b5
        have P1 := P1.step b5
        have P2 := P2.step b5
        have S1 := S1.step b5
        have S2 := S2.step b5
        have S3 := S3.step b5
        have U3 := U3.step b5
        have V3 := V3.step b5
        have S4 := S4.step b5
        clear S4
        go_wp2_with fail
        refine (hGoes S3.in_ S1.in_ (Nat.gcd_dvd_left _ _) (by omega) (by omega)).mono ?_
        rintro e w6 ⟨rfl, b6⟩
        have B6 := below_step B5 b6
        have P0 := P0.step b6
        have P1 := P1.step b6
        have P2 := P2.step b6
        have S1 := S1.step b6
        have S2 := S2.step b6
        have S3 := S3.step b6
        have U3 := U3.step b6
        have V3 := V3.step b6
        go_wp2_with fail
        refine (hGoes S3.in_ S2.in_ (Nat.gcd_dvd_right _ _) (by omega) (by omega)).mono ?_
        rintro e w7 ⟨rfl, b7⟩
        have B7 := below_step B6 b7
        have P0 := P0.step b7
        have P1 := P1.step b7
        have P2 := P2.step b7
        have S1 := S1.step b7
        have S2 := S2.step b7
        have S3 := S3.step b7
        have U3 := U3.step b7
        have V3 := V3.step b7
        go_wp2_with fail
        refine (bTrim P2.in_).mono ?_
        rintro e w8 ⟨X8, q8, d8, rfl, S8, _, b8⟩
        have B8 := below_step B7 b8
        have P0 := P0.step b8
        have P1 := P1.step b8
        have P2 := P2.step b8
        have S1 := S1.step b8
        have S2 := S2.step b8
        have S3 := S3.step b8
        have U3 := U3.step b8
        have V3 := V3.step b8
        have hq8 : q8 ≤ 4000 := by have h := S8.1; rw [length_wd] at h; have n0 := P0.in_.bits; have n1 := P1.in_.bits; have n2 := P2.in_.bits; omega
        go_wp2_with fail
        refine (hGoes S8.in_ S3.in_ (Nat.dvd_gcd (Nat.dvd_mul_left _ _) (Nat.dvd_mul_left _ _)) (by omega) (by omega)).mono ?_
        rintro e w9 ⟨rfl, b9⟩
        have B9 := below_step B8 b9
        have P0 := P0.step b9
        have P1 := P1.step b9
        have P2 := P2.step b9
        have S1 := S1.step b9
        have S2 := S2.step b9
        have S3 := S3.step b9
        have U3 := U3.step b9
        have V3 := V3.step b9
        have S8 := S8.step b9
        clear S8
        go_wp2_with fail
        refine (bMay U3).mono ?_
        rintro e w10 ⟨rfl, b10⟩
        have B10 := below_step B9 b10
        have P0 := P0.step b10
        have P1 := P1.step b10
        have P2 := P2.step b10
        have S1 := S1.step b10
        have S2 := S2.step b10
        have S3 := S3.step b10
        have U3 := U3.step b10
        have V3 := V3.step b10
        go_wp2_with fail
        refine (bMay V3).mono ?_
        rintro e w11 ⟨rfl, b11⟩
        have B11 := below_step B10 b11
        have P0 := P0.step b11
        have P1 := P1.step b11
        have P2 := P2.step b11
        have S1 := S1.step b11
        have S2 := S2.step b11
        have S3 := S3.step b11
        have U3 := U3.step b11
        have V3 := V3.step b11
        by_cases hm : (natOf l0 * natOf l2) = 0
        · have hM := Lib.hid hm
          clear hm
          obtain ⟨hx0, hy0⟩ := hE.out.zero hM.out
          obtain rfl : r3 = 0 := natIs_zero (natIs_eq U3 hx0)
          obtain rfl : s3 = 0 := natIs_zero (natIs_eq V3 hy0)
          clear hx0 hy0
          go_wp2_with fail
          refine (hNone_yes S1.in_ hM.out).mono ?_
          rintro e w12 ⟨rfl, b12⟩
          have B12 := below_step B11 b12
          have P0 := P0.step b12
          have P1 := P1.step b12
          have P2 := P2.step b12
          have S1 := S1.step b12
          have S2 := S2.step b12
          have S3 := S3.step b12
          have U3 := U3.step b12
          have V3 := V3.step b12
          go_wp2_with fail
          refine (gcdWorks_any _).mono ?_
          rintro e w13 ⟨rfl, b13⟩
          have B13 := below_step B12 b13
          go_wp2_with fail
          go_ret
          exact ⟨rfl, B13⟩
        · have hM := Lib.hid hm
          clear hm
          by_cases hn : (natOf l1 * natOf l2) = 0
          · have hN0 := Lib.hid hn
            clear hn
            obtain ⟨hx0, hy0⟩ := hE.out.one hM.out hN0.out
            obtain rfl : s3 = 0 := natIs_zero (natIs_eq V3 hy0)
            have U3 := natIs_eq U3 hx0
            clear hx0 hy0
            go_wp2_with fail
            refine (hNone_no S1.in_ hM.out).mono ?_
            rintro e w12 ⟨rfl, b12⟩
            have B12 := below_step B11 b12
            have P0 := P0.step b12
            have P1 := P1.step b12
            have P2 := P2.step b12
            have S1 := S1.step b12
            have S2 := S2.step b12
            have S3 := S3.step b12
            have U3 := U3.step b12
            have V3 := V3.step b12
            go_wp2_with fail
            refine (hNone_yes S2.in_ hN0.out).mono ?_
            rintro e w13 ⟨rfl, b13⟩
            have B13 := below_step B12 b13
            have P0 := P0.step b13
            have P1 := P1.step b13
            have P2 := P2.step b13
            have S1 := S1.step b13
            have S2 := S2.step b13
            have S3 := S3.step b13
            have U3 := U3.step b13
            have V3 := V3.step b13
            go_wp2_with fail
            refine (hIs_yes U3 1 _ rfl rfl (by omega)).mono ?_
            rintro e w14 ⟨rfl, b14⟩
            have B14 := below_step B13 b14
            have P0 := P0.step b14
            have P1 := P1.step b14
            have P2 := P2.step b14
            have S1 := S1.step b14
            have S2 := S2.step b14
            have S3 := S3.step b14
            have U3 := U3.step b14
            have V3 := V3.step b14
            go_wp2_with fail
            refine (gcdWorks_any _).mono ?_
            rintro e w15 ⟨rfl, b15⟩
            have B15 := below_step B14 b15
            go_wp2_with fail
            go_ret
            exact ⟨rfl, B15⟩
          · have hN0 := Lib.hid hn
            clear hn
            have hr3 : r3 ≤ 4000 := by have h := U3.1; rw [length_wd] at h; have n0 := P0.in_.bits; have n1 := P1.in_.bits; have n2 := P2.in_.bits; have n3 := nbits_mul (natOf l0) (natOf l2); have n4 := nbits_mul (natOf l1) (natOf l2); have e1 := nbits_mono (Nat.le_trans (hE.out.le hM.out hN0.out) (Nat.div_le_self _ _)); omega
            have hs3 : s3 ≤ 4000 := by have h := V3.1; rw [length_wd] at h; have n0 := P0.in_.bits; have n1 := P1.in_.bits; have n2 := P2.in_.bits; have n3 := nbits_mul (natOf l0) (natOf l2); have n4 := nbits_mul (natOf l1) (natOf l2); have e1 := nbits_mono (Nat.le_trans (hE.out.le hM.out hN0.out) (Nat.div_le_self _ _)); have e2 := nbits_mono (ext_low hE.out hM.out hN0.out); have e3 := nbits_mul (natOf l0 * natOf l2) x; omega
            go_wp2_with fail
            refine (hNone_no S1.in_ hM.out).mono ?_
            rintro e w12 ⟨rfl, b12⟩
            have B12 := below_step B11 b12
            have P0 := P0.step b12
            have P1 := P1.step b12
            have P2 := P2.step b12
            have S1 := S1.step b12
            have S2 := S2.step b12
            have S3 := S3.step b12
            have U3 := U3.step b12
            have V3 := V3.step b12
            go_wp2_with fail
            refine (hNone_no S2.in_ hN0.out).mono ?_
            rintro e w13 ⟨rfl, b13⟩
            have B13 := below_step B12 b13
            have P0 := P0.step b13
            have P1 := P1.step b13
            have P2 := P2.step b13
            have S1 := S1.step b13
            have S2 := S2.step b13
            have S3 := S3.step b13
            have U3 := U3.step b13
            have V3 := V3.step b13
            go_wp2_with fail
            refine (bMul S1.in_ U3.in_ (by omega) (by omega)).mono ?_
            rintro e w14 ⟨X14, q14, d14, rfl, S14, _, b14⟩
            have B14 := below_step B13 b14
            have P0 := P0.step b14
            have P1 := P1.step b14
            have P2 := P2.step b14
            have S1 := S1.step b14
            have S2 := S2.step b14
            have S3 := S3.step b14
            have U3 := U3.step b14
            have V3 := V3.step b14
            have S14 := natIs_eq S14 (hE.out.eq hM.out)
            go_wp2_with fail
            refine (bMul S2.in_ V3.in_ (by omega) (by omega)).mono ?_
            rintro e w15 ⟨X15, q15, d15, rfl, S15, _, b15⟩
            have B15 := below_step B14 b15
            have P0 := P0.step b15
            have P1 := P1.step b15
            have P2 := P2.step b15
            have S1 := S1.step b15
            have S2 := S2.step b15
            have S3 := S3.step b15
            have U3 := U3.step b15
            have V3 := V3.step b15
            have S14 := S14.step b15
            have hq15 : q15 ≤ 4000 := by have h := S15.1; rw [length_wd] at h; have n0 := P0.in_.bits; have n1 := P1.in_.bits; have n2 := P2.in_.bits; have n3 := nbits_mul (natOf l0) (natOf l2); have n4 := nbits_mul (natOf l1) (natOf l2); have e1 := nbits_mono (Nat.le_trans (hE.out.le hM.out hN0.out) (Nat.div_le_self _ _)); have e2 := nbits_mono (ext_low hE.out hM.out hN0.out); have e3 := nbits_mul (natOf l0 * natOf l2) x; have e4 := nbits_mul (natOf l1 * natOf l2) y; omega
            clear V3
            go_wp2_with fail
            refine (bAdd S3.in_ S15.in_ (by omega)).mono ?_
            rintro e w16 ⟨X16, q16, d16, rfl, S16, _, b16⟩
            have B16 := below_step B15 b16
            have P0 := P0.step b16
            have P1 := P1.step b16
            have P2 := P2.step b16
            have S1 := S1.step b16
            have S2 := S2.step b16
            have S3 := S3.step b16
            have U3 := U3.step b16
            have S14 := S14.step b16
            have S15 := S15.step b16
            clear S15
            go_wp2_with fail
            refine (bSame S14 S16).mono ?_
            rintro e w21 ⟨rfl, b21⟩
            have B21 := below_step B16 b21
            have P0 := P0.step b21
            have P1 := P1.step b21
            have P2 := P2.step b21
            have S1 := S1.step b21
            have S2 := S2.step b21
            have S3 := S3.step b21
            have U3 := U3.step b21
            have S14 := S14.step b21
            have S16 := S16.step b21
            clear S14 S16
            go_wp2_with fail
            refine (hQuot S2.in_ S3.in_ (Nat.ne_of_gt (Nat.gcd_pos_of_pos_left _ (Nat.pos_of_ne_zero hM.out))) (by omega) (by omega)).mono ?_
            rintro e w22 ⟨X22, q22, d22, rfl, S22, b22⟩
            have B22 := below_step B21 b22
            have P0 := P0.step b22
            have P1 := P1.step b22
            have P2 := P2.step b22
            have S1 := S1.step b22
            have S2 := S2.step b22
            have S3 := S3.step b22
            have U3 := U3.step b22
            have hq22 : q22 ≤ 4000 := by have h := S22.1; rw [length_wd] at h; have n0 := P0.in_.bits; have n1 := P1.in_.bits; have n2 := P2.in_.bits; have n3 := nbits_mul (natOf l0) (natOf l2); have n4 := nbits_mul (natOf l1) (natOf l2); have := nbits_mono (Nat.div_le_self (natOf l1 * natOf l2) (Nat.gcd (natOf l0 * natOf l2) (natOf l1 * natOf l2))); omega
            go_wp2_with fail
            refine (hN w22 1 _ rfl (by omega)).mono ?_
            rintro e w23 ⟨X23, q23, d23, rfl, S23, _, b23⟩
            have B23 := below_step B22 b23
            have P0 := P0.step b23
            have P1 := P1.step b23
            have P2 := P2.step b23
            have S1 := S1.step b23
            have S2 := S2.step b23
            have S3 := S3.step b23
            have U3 := U3.step b23
            have S22 := S22.step b23
            go_wp2_with fail
            refine (cmp_ge U3.in_ S23.in_ (hE.out.pos hM.out)).mono ?_
            rintro e w24 ⟨t, rfl, ht, b24⟩
            have B24 := below_step B23 b24
            have P0 := P0.step b24
            have P1 := P1.step b24
            have P2 := P2.step b24
            have S1 := S1.step b24
            have S2 := S2.step b24
            have S3 := S3.step b24
            have U3 := U3.step b24
            have S22 := S22.step b24
            have S23 := S23.step b24
            clear S23
            rcases hE.out.below hM.out hN0.out with hlt | hone
            · have hL := Lib.hid hlt
              clear hlt
              go_wp2_with fail
              refine (cmp_less U3.in_ S22.in_ hL.out).mono ?_
              rintro e w41 ⟨rfl, b41⟩
              have B41 := below_step B24 b41
              have P0 := P0.step b41
              have P1 := P1.step b41
              have P2 := P2.step b41
              have S1 := S1.step b41
              have S2 := S2.step b41
              have S3 := S3.step b41
              have U3 := U3.step b41
              have S22 := S22.step b41
              go_wp2_with fail
              refine (cmp_less U3.in_ S22.in_ hL.out).mono ?_
              rintro e w42 ⟨rfl, b42⟩
              have B42 := below_step B41 b42
              have P0 := P0.step b42
              have P1 := P1.step b42
              have P2 := P2.step b42
              have S1 := S1.step b42
              have S2 := S2.step b42
              have S3 := S3.step b42
              have U3 := U3.step b42
              have S22 := S22.step b42
              go_wp2_with fail
              refine (hQuot S1.in_ S3.in_ (Nat.ne_of_gt (Nat.gcd_pos_of_pos_left _ (Nat.pos_of_ne_zero hM.out))) (by omega) (by omega)).mono ?_
              rintro e w43 ⟨X30, q30, d30, rfl, S30, b43⟩
              have B43 := below_step B42 b43
              have P0 := P0.step b43
              have P1 := P1.step b43
              have P2 := P2.step b43
              have S1 := S1.step b43
              have S2 := S2.step b43
              have S3 := S3.step b43
              have U3 := U3.step b43
              have S22 := S22.step b43
              have hq30 : q30 ≤ 4000 := by have h := S30.1; rw [length_wd] at h; have n0 := P0.in_.bits; have n1 := P1.in_.bits; have n2 := P2.in_.bits; have n3 := nbits_mul (natOf l0) (natOf l2); have n4 := nbits_mul (natOf l1) (natOf l2); have := nbits_mono (Nat.div_le_self (natOf l0 * natOf l2) (Nat.gcd (natOf l0 * natOf l2) (natOf l1 * natOf l2))); omega
              go_wp2_with fail
              refine (bGcd S30.in_ S22.in_ (by omega) (by omega)).mono ?_
              rintro e w44 ⟨X31, q31, d31, rfl, S31, _, b44⟩
              have B44 := below_step B43 b44
              have P0 := P0.step b44
              have P1 := P1.step b44
              have P2 := P2.step b44
              have S1 := S1.step b44
              have S2 := S2.step b44
              have S3 := S3.step b44
              have U3 := U3.step b44
              have S22 := S22.step b44
              have S30 := S30.step b44
              go_wp2_with fail
              refine (hIs_yes S31 1 _ rfl (gcd_parts _ _ hM.out) (by omega)).mono ?_
              rintro e w45 ⟨rfl, b45⟩
              have B45 := below_step B44 b45
              have P0 := P0.step b45
              have P1 := P1.step b45
              have P2 := P2.step b45
              have S1 := S1.step b45
              have S2 := S2.step b45
              have S3 := S3.step b45
              have U3 := U3.step b45
              have S22 := S22.step b45
              have S30 := S30.step b45
              have S31 := S31.step b45
              go_wp2_with fail
              refine (gcdWorks_any _).mono ?_
              rintro e w46 ⟨rfl, b46⟩
              have B46 := below_step B45 b46
              go_wp2_with fail
              go_ret
              exact ⟨rfl, B46⟩
            · have hL := Lib.hid hone
              clear hone
              go_wp2_with fail
              refine (cmp_same U3.in_ S22.in_ (by have h1 := hE.out.pos hM.out; have h2 := hE.out.le hM.out hN0.out; have h3 := hL.out; omega)).mono ?_
              rintro e w41 ⟨rfl, b41⟩
              have B41 := below_step B24 b41
              have P0 := P0.step b41
              have P1 := P1.step b41
              have P2 := P2.step b41
              have S1 := S1.step b41
              have S2 := S2.step b41
              have S3 := S3.step b41
              have U3 := U3.step b41
              have S22 := S22.step b41
              go_wp2_with fail
              refine (cmp_same U3.in_ S22.in_ (by have h1 := hE.out.pos hM.out; have h2 := hE.out.le hM.out hN0.out; have h3 := hL.out; omega)).mono ?_
              rintro e w42 ⟨rfl, b42⟩
              have B42 := below_step B41 b42
              have P0 := P0.step b42
              have P1 := P1.step b42
              have P2 := P2.step b42
              have S1 := S1.step b42
              have S2 := S2.step b42
              have S3 := S3.step b42
              have U3 := U3.step b42
              have S22 := S22.step b42
              go_wp2_with fail
              refine (hIs_yes S22 1 _ rfl hL.out (by omega)).mono ?_
              rintro e w43 ⟨rfl, b43⟩
              have B43 := below_step B42 b43
              have P0 := P0.step b43
              have P1 := P1.step b43
              have P2 := P2.step b43
              have S1 := S1.step b43
              have S2 := S2.step b43
              have S3 := S3.step b43
              have U3 := U3.step b43
              have S22 := S22.step b43
              go_wp2_with fail
              refine (hQuot S1.in_ S3.in_ (Nat.ne_of_gt (Nat.gcd_pos_of_pos_left _ (Nat.pos_of_ne_zero hM.out))) (by omega) (by omega)).mono ?_
              rintro e w44 ⟨X30, q30, d30, rfl, S30, b44⟩
              have B44 := below_step B43 b44
              have P0 := P0.step b44
              have P1 := P1.step b44
              have P2 := P2.step b44
              have S1 := S1.step b44
              have S2 := S2.step b44
              have S3 := S3.step b44
              have U3 := U3.step b44
              have S22 := S22.step b44
              have hq30 : q30 ≤ 4000 := by have h := S30.1; rw [length_wd] at h; have n0 := P0.in_.bits; have n1 := P1.in_.bits; have n2 := P2.in_.bits; have n3 := nbits_mul (natOf l0) (natOf l2); have n4 := nbits_mul (natOf l1) (natOf l2); have := nbits_mono (Nat.div_le_self (natOf l0 * natOf l2) (Nat.gcd (natOf l0 * natOf l2) (natOf l1 * natOf l2))); omega
              go_wp2_with fail
              refine (bGcd S30.in_ S22.in_ (by omega) (by omega)).mono ?_
              rintro e w45 ⟨X31, q31, d31, rfl, S31, _, b45⟩
              have B45 := below_step B44 b45
              have P0 := P0.step b45
              have P1 := P1.step b45
              have P2 := P2.step b45
              have S1 := S1.step b45
              have S2 := S2.step b45
              have S3 := S3.step b45
              have U3 := U3.step b45
              have S22 := S22.step b45
              have S30 := S30.step b45
              go_wp2_with fail
              refine (hIs_yes S31 1 _ rfl (gcd_parts _ _ hM.out) (by omega)).mono ?_
              rintro e w46 ⟨rfl, b46⟩
              have B46 := below_step B45 b46
              have P0 := P0.step b46
              have P1 := P1.step b46
              have P2 := P2.step b46
              have S1 := S1.step b46
              have S2 := S2.step b46
              have S3 := S3.step b46
              have U3 := U3.step b46
              have S22 := S22.step b46
              have S30 := S30.step b46
              have S31 := S31.step b46
              go_wp2_with fail
              refine (gcdWorks_any _).mono ?_
              rintro e w47 ⟨rfl, b47⟩
              have B47 := below_step B46 b47
              go_wp2_with fail
              go_ret
              exact ⟨rfl, B47⟩
end Go.Proofs.Ytbgaboboakkimaa
/- For the frame of each law's proof: a slice of bytes or of words that came in reads as a list of numbers. No condition but those typed. -/
namespace Go.Proofs.Ytbgaboboakkimaa
open Go.RowKit
theorem fcell_lt {w : World} {p : Addr} {v : Value} (h : w.cell? p = some v) : p.block < w.heap.size := by
  rcases Nat.lt_or_ge p.block w.heap.size with h1 | h1
  · exact h1
  · simp [World.cell?, Array.getElem?_eq_none h1] at h
theorem row_nat {k : IntKind} {w : World} {x : Addr} {len cap : Nat} {zs : List Int} (M : Nat) (hl : len ≤ cap) (hz : zs.length = cap) (hcell : ∀ i, i < zs.length → w.cell? (x.add i) = some (.int k (zs.getD i 0)))
    (hw : ∀ n ∈ zs, 0 ≤ n ∧ n < M) : ∃ l : List Nat, l.length = len ∧ Rd k w w.heap.size (some x) l ∧ ∀ y ∈ l, y < M := by
  refine ⟨(zs.take len).map Int.toNat, by simp; omega, fun hlt => ?_, fun y hy => ?_⟩
  · have hlen : 0 < len := by simp at hlt; omega
    have h0 := hcell 0 (by omega)
    obtain ⟨b, off, spot⟩ := x
    have hs : spot = none := by simpa [Addr.add] using World.cell?_spot h0
    subst hs
    refine ⟨b, off, rfl, by simpa [Addr.add] using fcell_lt h0, fun j hj => ?_⟩
    have hj' : j < len ∧ j < zs.length := by simp at hj; omega
    have h1 := hcell j hj'.2
    rw [Addr.add_lit] at h1
    rw [h1]
    have h2 := hw zs[j] (List.getElem_mem hj'.2)
    simp only [nth, List.getD_eq_getElem?_getD, List.getElem?_map, List.getElem?_take, hj'.1, if_true, List.getElem?_eq_getElem hj'.2, Option.map_some, Option.getD_some]
    rw [Int.toNat_of_nonneg h2.1]
  · simp only [List.mem_map] at hy
    obtain ⟨z, hz1, rfl⟩ := hy
    have := hw z (List.mem_of_mem_take hz1)
    omega
theorem row_u64 {w : World} {x : Addr} {len cap : Nat} {zs : List Int} (hl : len ≤ cap) (hz : zs.length = cap) (hcell : ∀ i, i < zs.length → w.cell? (x.add i) = some (.int .u64 (zs.getD i 0)))
    (hw : ∀ n ∈ zs, (Lit.int .u64 n).wf = true) : ∃ l : List Nat, l.length = len ∧ Rd .u64 w w.heap.size (some x) l ∧ Words l :=
  row_nat 18446744073709551616 hl hz hcell fun n hn => by
    have h : 0 ≤ n ∧ n ≤ 18446744073709551615 := by simpa [Lit.wf, IntKind.min, IntKind.max, IntKind.signed, IntKind.bits] using hw n hn
    omega
end Go.Proofs.Ytbgaboboakkimaa
/- GcdPlays' walk: it answers true, and writes nothing that was there. No condition but what the arguments' types give. -/
namespace Go.Proofs.Ytbgaboboakkimaa
open Go.RowKit
set_option maxHeartbeats 2000000 in
set_option maxRecDepth 100000 in
theorem gcdPlays_walk (A0 : Option Addr) (c0 : Nat) (l0 : List Nat) (A1 : Option Addr) (c1 : Nat) (l1 : List Nat) (w : World) (r0 : Rd .u64 w w.heap.size A0 l0) (y0 : Words l0) (_z0 : l0.length * 8 ≤ 140737488351232) (u0 : l0.length ≤ c0) (r1 : Rd .u64 w w.heap.size A1 l1) (y1 : Words l1) (_z1 : l1.length * 8 ≤ 140737488351232) (u1 : l1.length ≤ c1) :
    Calls Try.prog 3 #[.slice A0 l0.length c0, .slice A1 l1.length c1] w fun e w' => e = .returned (.bool true) ∧ Below w.heap.size w w' := by
  by_cases hv0 : 8 < l0.length
  · have hvd0 : decide (8 < (l0.length : Int)) = true := by simp; omega
    go_enter Try.func3, Try.ntmps3
    go_wp2_with fail
    refine (gcdWorks_any _).mono ?_
    rintro e w1 ⟨rfl, b1⟩
    have B1 := b1
    go_wp2_with fail
    go_ret
    exact ⟨rfl, B1⟩
  · by_cases hv1 : 8 < l1.length
    · have hvd1 : decide (8 < (l1.length : Int)) = true := by simp; omega
      have hvd0 : decide (8 < (l0.length : Int)) = false := by simp; omega
      go_enter Try.func3, Try.ntmps3
      go_wp2_with fail
      refine (gcdWorks_any _).mono ?_
      rintro e w1 ⟨rfl, b1⟩
      have B1 := b1
      go_wp2_with fail
      go_ret
      exact ⟨rfl, B1⟩
    · skip
      have hvd0 : decide (8 < (l0.length : Int)) = false := by simp; omega
      have hvd1 : decide (8 < (l1.length : Int)) = false := by simp; omega
      have P0 : RowIs w A0 l0.length c0 l0 := ⟨rfl, y0, by omega, r0, u0⟩
      have P1 : RowIs w A1 l1.length c1 l1 := ⟨rfl, y1, by omega, r1, u1⟩
      clear r0 y0 r1 y1
      go_enter Try.func3, Try.ntmps3
      go_wp2_with fail
      refine (bCopy (c := c0) P0).mono ?_
      rintro e w1 ⟨X1, d1, rfl, P3, b1⟩
      have B1 := b1
      have P0 := P0.step b1
      have P1 := P1.step b1
      go_wp2_with fail
      refine (bCopy (c := c1) P1).mono ?_
      rintro e w2 ⟨X2, d2, rfl, P4, b2⟩
      have B2 := below_step B1 b2
      have P0 := P0.step b2
      have P1 := P1.step b2
      have P3 := P3.step b2
      go_wp2_with fail
      refine (bGcd P3.in_ P4.in_ (by omega) (by omega)).mono ?_
      rintro e w3 ⟨X3, q3, d3, rfl, S3, _, b3⟩
      have B3 := below_step B2 b3
      have P0 := P0.step b3
      have P1 := P1.step b3
      have P3 := P3.step b3
      have P4 := P4.step b3
      go_wp2_with fail
      refine (bExt P3.in_ P4.in_ (by omega) (by omega)).mono ?_
      rintro e w4 ⟨X4, q4, d4, Y4, r4, f4, Z4, s4, t4, x4, y4, rfl, S4, _, _, _, b4⟩
      have B4 := below_step B3 b4
      have P0 := P0.step b4
      have P1 := P1.step b4
      have P3 := P3.step b4
      have P4 := P4.step b4
      have S3 := S3.step b4
      go_wp2_with fail
      refine (bInv_any P3.in_ P4.in_ (by omega) (by omega)).mono ?_
      rintro e w5 ⟨X5, q5, d5, b5, rfl, b5⟩
      have B5 := below_step B4 b5
      have P0 := P0.step b5
      have P1 := P1.step b5
      have P3 := P3.step b5
      have P4 := P4.step b5
      have S3 := S3.step b5
      have S4 := S4.step b5
      go_wp2_with fail
      refine (bGcd5 P0.in_ P1.in_ (by omega) (by omega)).mono ?_
      rintro e w6 ⟨X6, q6, d6, rfl, S6, _, b6⟩
      have B6 := below_step B5 b6
      have P0 := P0.step b6
      have P1 := P1.step b6
      have P3 := P3.step b6
      have P4 := P4.step b6
      have S3 := S3.step b6
      have S4 := S4.step b6
      go_wp2_with fail
      refine (bSame S3 S6).mono ?_
      rintro e w21 ⟨rfl, b21⟩
      have B21 := below_step B6 b21
      have P0 := P0.step b21
      have P1 := P1.step b21
      have P3 := P3.step b21
      have P4 := P4.step b21
      have S3 := S3.step b21
      have S4 := S4.step b21
      have S6 := S6.step b21
      clear S3
      go_wp2_with fail
      refine (bSame S4 S6).mono ?_
      rintro e w22 ⟨rfl, b22⟩
      have B22 := below_step B21 b22
      have P0 := P0.step b22
      have P1 := P1.step b22
      have P3 := P3.step b22
      have P4 := P4.step b22
      have S4 := S4.step b22
      have S6 := S6.step b22
      clear S4 S6
      go_wp2_with fail
      refine (bSameRow (c := d1) (c2 := c0) P3 P0).mono ?_
      rintro e w23 ⟨rfl, b23⟩
      have B23 := below_step B22 b23
      have P0 := P0.step b23
      have P1 := P1.step b23
      have P3 := P3.step b23
      have P4 := P4.step b23
      go_wp2_with fail
      refine (bSameRow (c := d2) (c2 := c1) P4 P1).mono ?_
      rintro e w24 ⟨rfl, b24⟩
      have B24 := below_step B23 b24
      have P0 := P0.step b24
      have P1 := P1.step b24
      have P3 := P3.step b24
      have P4 := P4.step b24
      go_wp2_with fail
      refine (gcdWorks_any _).mono ?_
      rintro e w25 ⟨rfl, b25⟩
      have B25 := below_step B24 b25
      go_wp2_with fail
      go_ret
      exact ⟨rfl, B25⟩
end Go.Proofs.Ytbgaboboakkimaa
/- The document's answers for small numbers: all divisors, all x, all inverses. Conditions: below 1500, which the law's own remainders give. -/
namespace Go.Proofs.Ytbgaboboakkimaa
open Go.RowKit
set_option maxRecDepth 20000
theorem gcd_of_both {a b k : Nat} (ha : 0 < a) (h1 : a % k = 0) (h2 : b % k = 0) : k ≤ Nat.gcd a b :=
  Nat.le_of_dvd (Nat.gcd_pos_of_pos_left b ha) (Nat.dvd_gcd (Nat.dvd_of_mod_eq_zero h1) (Nat.dvd_of_mod_eq_zero h2))
theorem mod_gcd_l (a b : Nat) : a % Nat.gcd a b = 0 := Nat.mod_eq_zero_of_dvd (Nat.gcd_dvd_left a b)
theorem mod_gcd_r (a b : Nat) : b % Nat.gcd a b = 0 := Nat.mod_eq_zero_of_dvd (Nat.gcd_dvd_right a b)
theorem mod_form (a k : Nat) (b : Bool) (h : decide (a % k = 0) = b) : (((a : Int) % (k : Int)) == 0) = b := by
  rw [← h, Bool.eq_iff_iff, beq_iff_eq, decide_eq_true_eq]; omega
set_option maxHeartbeats 400000 in
theorem small05 (a b : Nat) (ha : a < 1500) (hb : b < 1500) (w : World) : Calls Try.prog 19 #[.int .u64 a, .int .u64 b] w fun e w' => e = .returned (.int .u64 (Nat.gcd a b)) ∧ w = w' := by
  by_cases ha0 : a = 0
  · subst ha0
    go_enter Try.func19, Try.ntmps19
    go_wp2_with fail
    go_ret
    refine ⟨ret_num (by rw [Nat.gcd_zero_left]), rfl⟩
  · have ha1 : ((a : Int) == 0) = false := by simp; omega
    by_cases hb0 : b = 0
    · subst hb0
      go_enter Try.func19, Try.ntmps19
      go_wp2_with fail
      go_ret
      refine ⟨ret_num (by rw [Nat.gcd_zero_right]), rfl⟩
    · have hb1 : ((b : Int) == 0) = false := by simp; omega
      obtain ⟨g, hg⟩ : ∃ g, g = Nat.gcd a b := ⟨_, rfl⟩
      have hga : g ≤ a := by rw [hg]; exact Nat.gcd_le_left b (by omega)
      have hgb : g ≤ b := by rw [hg]; exact Nat.gcd_le_right a (by omega)
      have hg0 : 0 < g := by rw [hg]; exact Nat.gcd_pos_of_pos_left b (by omega)
      have HG := Lib.hid hg
      rw [← hg]
      clear hg
      go_enter Try.func19, Try.ntmps19
      go_wp2_with fail
      go_loop [5] (fun i => ∃ k : Nat, g ≤ k ∧ k ≤ a ∧ k ≤ b ∧ i = .int .u64 k) (fun i => (intOf i).toNat)
      case atStart => exact ⟨min a b, by omega, by omega, by omega, by congr 1; omega⟩
      case round =>
        obtain ⟨k, hk, hka, hkb, rfl⟩ := hrel
        have hk0 : ((k : Int) == 0) = false := by simp; omega
        by_cases e : k = g
        · subst e
          have h1 := mod_form a k true (by rw [HG.out, mod_gcd_l]; rfl)
          have h2 := mod_form b k true (by rw [HG.out, mod_gcd_r]; rfl)
          go_wp2_with fail
          go_ret
          exact ⟨rfl, rfl⟩
        · by_cases m1 : a % k = 0
          · have m2 : ¬ b % k = 0 := fun m2 => by have := gcd_of_both (by omega) m1 m2; rw [← HG.out] at this; omega
            have h1 := mod_form a k true (decide_eq_true m1)
            have h2 := mod_form b k false (decide_eq_false m2)
            clear m1 m2
            go_wp2_with fail
            go_round
            case rel => exact ⟨k - 1, by omega, by omega, by omega, by congr 1; omega⟩
            case measure => simp [intOf]; omega
          · have h1 := mod_form a k false (decide_eq_false m1)
            clear m1
            go_wp2_with fail
            go_round
            case rel => exact ⟨k - 1, by omega, by omega, by omega, by congr 1; omega⟩
            case measure => simp [intOf]; omega
end Go.Proofs.Ytbgaboboakkimaa
/- The document's Ext and Inv of small numbers. Conditions: below 1500, which the law's own remainders give. -/
namespace Go.Proofs.Ytbgaboboakkimaa
open Go.RowKit
set_option maxRecDepth 20000
def OutTwo (g x y : Nat) (w : World) (e : Ending) (w' : World) : Prop := e = .returned (.tuple #[.int .u64 g, .int .u64 x, .int .u64 y]) ∧ Below w.heap.size w w'
set_option maxHeartbeats 1000000 in
theorem ext05 (a b x y : Nat) (ha : a < 1500) (hb : b < 1500) (h : ExtIs a b x y) (w : World) : Calls Try.prog 16 #[.int .u64 a, .int .u64 b] w (OutTwo (Nat.gcd a b) x y w) := by
  have S := Lib.hid (small05 a b ha hb w)
  obtain ⟨g, hg⟩ : ∃ g, Nat.gcd a b = g := ⟨_, rfl⟩
  rw [hg] at S ⊢
  by_cases ha0 : a = 0
  · by_cases hb0 : b = 0
    · subst ha0
      subst hb0
      obtain rfl : g = 0 := by rw [← hg]; rfl
      obtain ⟨rfl, rfl⟩ := h.zero rfl
      go_enter Try.func16, Try.ntmps16
      go_wp2_with fail
      refine (S.out).mono ?_
      rintro e w' ⟨rfl, rfl⟩
      go_wp2_with fail
      go_loop [8] (fun i => i = .int .u64 0) (fun _ => 0)
      case atStart => rfl
      case round =>
        subst hrel
        go_wp2_with fail
        go_ret3
        exact ⟨rfl, Below.refl _ _⟩
    · subst ha0
      obtain rfl : g = b := by rw [← hg, Nat.gcd_zero_left]
      obtain ⟨rfl, rfl⟩ := h.zero rfl
      have hg0 : ¬ (g : Int) ≤ 0 := by omega
      have hb1 : ((g : Int) == 0) = false := by simp; omega
      clear hg h
      go_enter Try.func16, Try.ntmps16
      go_wp2_with fail
      refine (S.out).mono ?_
      rintro e w' ⟨rfl, rfl⟩
      go_wp2_with fail
      go_loop [8] (fun i => ∃ k : Nat, k ≤ g + 2 ∧ i = .int .u64 k) (fun i => g + 2 - (intOf i).toNat)
      case atStart => exact ⟨0, Nat.zero_le _, rfl⟩
      case round =>
        obtain ⟨k, hk, rfl⟩ := hrel
        by_cases hk2 : k ≤ g + 1
        · go_wp2_with fail
          go_round
          case rel => exact ⟨k + 1, by omega, by go_num⟩
          case measure => simp [intOf]; omega
        · go_wp2_with fail
          go_ret3
          exact ⟨rfl, Below.refl _ _⟩
  · by_cases hb0 : b = 0
    · subst hb0
      obtain rfl : g = a := by rw [← hg, Nat.gcd_zero_right]
      obtain ⟨rfl, rfl⟩ := h.one ha0 rfl
      have hg0 : ¬ (g : Int) ≤ 0 := by omega
      clear hg h
      go_enter Try.func16, Try.ntmps16
      go_wp2_with fail
      refine (S.out).mono ?_
      rintro e w' ⟨rfl, rfl⟩
      go_wp2_with fail
      go_loop [8] (fun i => i = .int .u64 0 ∨ i = .int .u64 1) (fun i => 1 - (intOf i).toNat)
      case atStart => exact .inl rfl
      case round =>
        rcases hrel with rfl | rfl
        · go_wp2_with fail
          go_round
          case rel => exact .inr rfl
          case measure => simp [intOf]
        · go_wp2_with fail
          go_ret3
          exact ⟨rfl, Below.refl _ _⟩
    · have hx1 := h.eq ha0
      have hx2 := h.least ha0
      have hx3 := h.le ha0 hb0
      rw [hg] at hx1 hx2 hx3
      have hxb : x ≤ b := Nat.le_trans hx3 (Nat.div_le_self _ _)
      have hb1 : ((b : Int) == 0) = false := by simp; omega
      have hb2 : (0 : Int) < (b : Int) := by omega
      have H1 := Lib.hid hx1
      have H2 := Lib.hid hx2
      clear hg h hx1 hx2 hx3
      go_enter Try.func16, Try.ntmps16
      go_wp2_with fail
      refine (S.out).mono ?_
      rintro e w' ⟨rfl, rfl⟩
      go_wp2_with fail
      go_loop [8] (fun i => ∃ k : Nat, k ≤ x ∧ i = .int .u64 k) (fun i => x - (intOf i).toNat)
      case atStart => exact ⟨0, Nat.zero_le _, rfl⟩
      case round =>
        obtain ⟨k, hk, rfl⟩ := hrel
        obtain ⟨P, hP⟩ : ∃ P, a * k = P := ⟨_, rfl⟩
        have hPi : (a : Int) * (k : Int) = (P : Int) := by rw [← hP, Int.natCast_mul]
        have hPl : P < 4000000 := by
          have : a * k ≤ 1500 * 1500 := Nat.mul_le_mul (by omega) (by omega)
          omega
        have hkb : (k : Int) ≤ (b : Int) + 1 := by omega
        have HP := Lib.hid hP
        clear hP
        by_cases hPg : g ≤ P
        · have hPg2 : (g : Int) ≤ (P : Int) := by omega
          by_cases hm : (P - g) % b = 0
          · have hkx : k = x := by
              have h1 := H2.out k ((P - g) / b) (by rw [HP.out]; have := Nat.div_add_mod (P - g) b; omega)
              omega
            subst hkx
            have hm1 : (((P : Int) - (g : Int)) % (b : Int) == 0) = true := by rw [← Int.natCast_sub hPg]; exact mod_form _ _ true (decide_eq_true hm)
            have hm2 : ((P : Int) - (g : Int)) / (b : Int) = (y : Int) := by
              have h1 := H1.out
              rw [HP.out] at h1
              have h2 : (P : Int) - (g : Int) = (b : Int) * (y : Int) := by rw [← Int.natCast_mul]; omega
              rw [h2, Int.mul_ediv_cancel_left _ (by omega)]
            clear hm hPg
            go_wp2_with fail
            go_region
            go_wp2_with fail
            go_ret3
            exact ⟨by rw [← hm2]; rfl, (Drawn.more 1).below _⟩
          · have hm1 : (((P : Int) - (g : Int)) % (b : Int) == 0) = false := by rw [← Int.natCast_sub hPg]; exact mod_form _ _ false (decide_eq_false hm)
            have hkx : k < x := by
              rcases Nat.lt_or_ge k x with h1 | h1
              · exact h1
              · exfalso
                obtain rfl : k = x := by omega
                have h1 := H1.out
                rw [HP.out] at h1
                exact hm (by rw [h1, Nat.add_sub_cancel_left, Nat.mul_mod_right])
            clear hm hPg
            go_wp2_with fail
            go_round
            case rel => exact ⟨k + 1, by omega, by go_num⟩
            case measure => simp [intOf]; omega
        · have hPg2 : ¬ (g : Int) ≤ (P : Int) := by omega
          have hkx : k < x := by
            rcases Nat.lt_or_ge k x with h1 | h1
            · exact h1
            · exfalso
              obtain rfl : k = x := by omega
              have h1 := H1.out
              rw [HP.out] at h1
              omega
          clear hPg
          go_wp2_with fail
          go_round
          case rel => exact ⟨k + 1, by omega, by go_num⟩
          case measure => simp [intOf]; omega
def OutTwoB (x : Nat) (b : Bool) (w : World) (e : Ending) (w' : World) : Prop := e = .returned (.tuple #[.int .u64 x, .bool b]) ∧ Below w.heap.size w w'
theorem inv05_test (a m k : Nat) (b : Bool) (h : decide (k * a % m = 1 % m) = b) : (((a : Int) % (m : Int) * (k : Int) % (m : Int)) == 1 % (m : Int)) = b := by
  rw [← h, Bool.eq_iff_iff, beq_iff_eq, decide_eq_true_eq]
  have e1 : (a : Int) % (m : Int) * (k : Int) % (m : Int) = ((k * a % m : Nat) : Int) := by
    rw [← Int.natCast_emod, ← Int.natCast_mul, ← Int.natCast_emod, Nat.mod_mul_mod, Nat.mul_comm]
  have e2 : (1 : Int) % (m : Int) = ((1 % m : Nat) : Int) := by rw [Int.natCast_emod]; rfl
  rw [e1, e2]
  omega
set_option maxHeartbeats 1000000 in
theorem inv05_yes (a m v : Nat) (ha : a < 1500) (hm : m < 1500) (hv : v < m) (h : v * a % m = 1 % m) (w : World) : Calls Try.prog 17 #[.int .u64 a, .int .u64 m] w (OutTwoB v true w) := by
  have hm1 : ((m : Int) == 0) = false := by simp; omega
  have H := Lib.hid h
  clear h
  go_enter Try.func17, Try.ntmps17
  go_wp2_with fail
  go_loopw [6] (fun i wr => ∃ k : Nat, k ≤ v ∧ i = .int .u64 k ∧ Drawn w wr) (fun i _ => v - (intOf i).toNat)
  case atStart => exact ⟨0, Nat.zero_le _, rfl, Drawn.more 0⟩
  case round =>
    obtain ⟨k, hk, rfl, nq, rfl⟩ := hrel
    obtain ⟨r, hr⟩ : ∃ r, a % m = r := ⟨_, rfl⟩
    have hrm : r < m := by rw [← hr]; exact Nat.mod_lt _ (by omega)
    have hri : (a : Int) % (m : Int) = (r : Int) := by rw [← hr]; simp
    have hPl : r * k < 4000000 := by
      have : r * k ≤ 1500 * 1500 := Nat.mul_le_mul (by omega) (by omega)
      omega
    clear hr
    by_cases ht : k * a % m = 1 % m
    · have hb := inv05_test a m k true (decide_eq_true ht)
      rw [hri] at hb
      obtain rfl : k = v := inv_uniq a m k v (by omega) hv ht H.out
      clear ht
      go_wp2_with fail
      go_quiet (fail)
      go_wp2_with fail
      go_ret2
      exact ⟨rfl, ((Drawn.more _).draws _).below _⟩
    · have hb := inv05_test a m k false (decide_eq_false ht)
      rw [hri] at hb
      have hkv : k < v := by
        rcases Nat.lt_or_ge k v with h1 | h1
        · exact h1
        · exfalso
          obtain rfl : k = v := by omega
          exact ht H.out
      clear ht
      go_wp2_with fail
      go_quiet (fail)
      go_wp2_with fail
      go_roundw
      case rel => exact ⟨k + 1, by omega, by go_num, Drawn.more _⟩
      case measure => simp [intOf]; omega
set_option maxHeartbeats 1000000 in
theorem inv05_no (a m : Nat) (ha : a < 1500) (hm : m < 1500) (h : ∀ v, v < m → v * a % m ≠ 1 % m) (w : World) : Calls Try.prog 17 #[.int .u64 a, .int .u64 m] w (OutTwoB 0 false w) := by
  have H := Lib.hid h
  clear h
  go_enter Try.func17, Try.ntmps17
  go_wp2_with fail
  go_loopw [6] (fun i wr => ∃ k : Nat, k ≤ m ∧ i = .int .u64 k ∧ Drawn w wr) (fun i _ => m - (intOf i).toNat)
  case atStart => exact ⟨0, Nat.zero_le _, rfl, Drawn.more 0⟩
  case round =>
    obtain ⟨k, hk, rfl, nq, rfl⟩ := hrel
    by_cases hkm : k < m
    · have hm1 : ((m : Int) == 0) = false := by simp; omega
      obtain ⟨r, hr⟩ : ∃ r, a % m = r := ⟨_, rfl⟩
      have hrm : r < m := by rw [← hr]; exact Nat.mod_lt _ (by omega)
      have hri : (a : Int) % (m : Int) = (r : Int) := by rw [← hr]; simp
      have hPl : r * k < 4000000 := by
        have : r * k ≤ 1500 * 1500 := Nat.mul_le_mul (by omega) (by omega)
        omega
      clear hr
      have hb := inv05_test a m k false (decide_eq_false (H.out k hkm))
      rw [hri] at hb
      go_wp2_with fail
      go_quiet (fail)
      go_wp2_with fail
      go_roundw
      case rel => exact ⟨k + 1, by omega, by go_num, Drawn.more _⟩
      case measure => simp [intOf]; omega
    · go_wp2_with fail
      go_ret2
      exact ⟨rfl, (Drawn.more _).below _⟩
/-! The same, of numbers that are written otherwise -/
theorem small05_i (xi yi : Int) (a b : Nat) (e1 : xi = (a : Int)) (e2 : yi = (b : Int)) (ha : a < 1500) (hb : b < 1500) (w : World) : Calls Try.prog 19 #[.int .u64 xi, .int .u64 yi] w fun e w' => e = .returned (.int .u64 (Nat.gcd a b)) ∧ w = w' := by
  subst e1; subst e2; exact small05 a b ha hb w
theorem ext05_i (xi yi : Int) (a b x y : Nat) (e1 : xi = (a : Int)) (e2 : yi = (b : Int)) (ha : a < 1500) (hb : b < 1500) (h : ExtIs a b x y) (w : World) : Calls Try.prog 16 #[.int .u64 xi, .int .u64 yi] w (OutTwo (Nat.gcd a b) x y w) := by
  subst e1; subst e2; exact ext05 a b x y ha hb h w
theorem inv05_yes_i (xi yi : Int) (a m v : Nat) (e1 : xi = (a : Int)) (e2 : yi = (m : Int)) (ha : a < 1500) (hm : m < 1500) (hv : v < m) (h : v * a % m = 1 % m) (w : World) : Calls Try.prog 17 #[.int .u64 xi, .int .u64 yi] w (OutTwoB v true w) := by
  subst e1; subst e2; exact inv05_yes a m v ha hm hv h w
theorem inv05_no_i (xi yi : Int) (a m : Nat) (e1 : xi = (a : Int)) (e2 : yi = (m : Int)) (ha : a < 1500) (hm : m < 1500) (h : ∀ v, v < m → v * a % m ≠ 1 % m) (w : World) : Calls Try.prog 17 #[.int .u64 xi, .int .u64 yi] w (OutTwoB 0 false w) := by
  subst e1; subst e2; exact inv05_no a m ha hm h w
end Go.Proofs.Ytbgaboboakkimaa
/- GcdSmall's walk: it answers true, and writes nothing that was there. No condition but what the arguments' types give. -/
namespace Go.Proofs.Ytbgaboboakkimaa
open Go.RowKit
theorem ext_u {x y u v : Nat} (h : ExtIs x y u v) (_ : x < 1500) (hy : y < 1500) : u < 18446744073709551616 := by
  by_cases h0 : x = 0
  · have := h.zero h0; omega
  · by_cases h1 : y = 0
    · have := h.one h0 h1; omega
    · have h2 := h.le h0 h1
      have h3 := Nat.div_le_self y (Nat.gcd x y)
      omega
theorem ext_v {x y u v : Nat} (h : ExtIs x y u v) (hx : x < 1500) (hy : y < 1500) : v < 18446744073709551616 := by
  by_cases h0 : x = 0
  · have := h.zero h0; omega
  · by_cases h1 : y = 0
    · have := h.one h0 h1; omega
    · have h2 := h.le h0 h1
      have h3 := Nat.div_le_self y (Nat.gcd x y)
      have h4 := ext_low h h0 h1
      have h5 : x * u ≤ 1500 * 1500 := Nat.mul_le_mul (by omega) (by omega)
      omega
theorem natIs_none {w : World} (X : Option Addr) (d : Nat) : NatIs w X 0 d 0 := ⟨by rw [length_wd, nbits_zero], Nat.zero_le _, by rw [show wd 0 = [] from List.eq_nil_of_length_eq_zero (by rw [length_wd, nbits_zero])]; exact Rd.nil, Nat.zero_le _⟩
theorem gcd_small {x y : Nat} (hx : x < 1500) (hy : y < 1500) : Nat.gcd x y < 1500 := by
  by_cases h0 : x = 0
  · rw [h0, Nat.gcd_zero_left]; exact hy
  · have := Nat.gcd_le_left y (Nat.pos_of_ne_zero h0); omega
set_option maxHeartbeats 2000000 in
set_option maxRecDepth 100000 in
theorem gcdSmall_walk (a b : Int) (w : World) (w0 : (Lit.int .u16 a).wf = true) (w1 : (Lit.int .u16 b).wf = true) :
    Calls Try.prog 4 #[.int .u16 a, .int .u16 b] w fun e w' => e = .returned (.bool true) ∧ Below w.heap.size w w' := by
  have ha : 0 ≤ a ∧ a ≤ 65535 := by simpa [Lit.wf, IntKind.min, IntKind.max, IntKind.signed, IntKind.bits] using w0
  have hb : 0 ≤ b ∧ b ≤ 65535 := by simpa [Lit.wf, IntKind.min, IntKind.max, IntKind.signed, IntKind.bits] using w1
  obtain ⟨x, hx⟩ : ∃ x : Nat, a % 1500 = (x : Int) := ⟨(a % 1500).toNat, by omega⟩
  obtain ⟨y, hy⟩ : ∃ y : Nat, b % 1500 = (y : Int) := ⟨(b % 1500).toNat, by omega⟩
  have HX := Lib.hid hx
  have HY := Lib.hid hy
  have HX1 := Lib.hid (show x < 1500 by omega)
  have HY1 := Lib.hid (show y < 1500 by omega)
  have hGl := Lib.hid (gcd_small HX1.out HY1.out)
  clear w0 w1 hx hy
  by_cases hg : y ≠ 0 ∧ Nat.gcd x y = 1
  · have hY0 := Lib.hid hg.1
    have hG := Lib.hid hg.2
    clear hg
    go_enter Try.func4, Try.ntmps4
    go_wp2_with fail
    refine (hN w x _ HX.out (by have := HX1.out; omega)).mono ?_
    rintro e w1 ⟨X1a, q1a, d1a, rfl, S1a, _, b1⟩
    have B1 := b1
    go_wp2_with fail
    refine (hN w1 y _ HY.out (by have := HY1.out; omega)).mono ?_
    rintro e w2 ⟨X1b, q1b, d1b, rfl, S1b, _, b2⟩
    have B2 := below_step B1 b2
    have S1a := S1a.step b2
    go_wp2_with fail
    refine (bExt S1a.in_ S1b.in_ (by have h := S1a.1; rw [length_wd] at h; have := nbits_of_lt x 16 (by have := HX1.out; omega); omega) (by have h := S1b.1; rw [length_wd] at h; have := nbits_of_lt y 16 (by have := HY1.out; omega); omega)).mono ?_
    rintro e w3 ⟨X1, q1, d1, Y1, r1, f1, Z1, s1, t1, u, v, rfl, G1, U1, V1, hext, b3⟩
    have B3 := below_step B2 b3
    have S1a := S1a.step b3
    have S1b := S1b.step b3
    clear S1a S1b
    have hE := Lib.hid hext
    clear hext
    go_wp2_with fail
    refine ((ext05_i _ _ x y u v HX.out HY.out HX1.out HY1.out hE.out w3)).mono ?_
    rintro e w4 ⟨rfl, b4⟩
    have B4 := below_step B3 b4
    have G1 := G1.step b4
    have U1 := U1.step b4
    have V1 := V1.step b4
    go_wp2_with fail
    refine (hN w4 x _ HX.out (by have := HX1.out; omega)).mono ?_
    rintro e w5 ⟨X2a, q2a, d2a, rfl, S2a, _, b5⟩
    have B5 := below_step B4 b5
    have G1 := G1.step b5
    have U1 := U1.step b5
    have V1 := V1.step b5
    go_wp2_with fail
    refine (hN w5 y _ HY.out (by have := HY1.out; omega)).mono ?_
    rintro e w6 ⟨X2b, q2b, d2b, rfl, S2b, _, b6⟩
    have B6 := below_step B5 b6
    have G1 := G1.step b6
    have U1 := U1.step b6
    have V1 := V1.step b6
    have S2a := S2a.step b6
    go_wp2_with fail
    refine (bInv_ok S2a.in_ S2b.in_ hY0.out hG.out (by have h := S2a.1; rw [length_wd] at h; have := nbits_of_lt x 16 (by have := HX1.out; omega); omega) (by have h := S2b.1; rw [length_wd] at h; have := nbits_of_lt y 16 (by have := HY1.out; omega); omega)).mono ?_
    rintro e w7 ⟨X2, q2, d2, v2, rfl, S2, hv2, he2, b7⟩
    have B7 := below_step B6 b7
    have G1 := G1.step b7
    have U1 := U1.step b7
    have V1 := V1.step b7
    have S2a := S2a.step b7
    have S2b := S2b.step b7
    clear S2a S2b
    have hV := Lib.hid hv2
    have hI := Lib.hid he2
    clear hv2 he2
    go_wp2_with fail
    refine ((inv05_yes_i _ _ x y v2 HX.out HY.out HX1.out HY1.out hV.out hI.out w7)).mono ?_
    rintro e w8 ⟨rfl, b8⟩
    have B8 := below_step B7 b8
    have G1 := G1.step b8
    have U1 := U1.step b8
    have V1 := V1.step b8
    have S2 := S2.step b8
    go_wp2_with fail
    refine (hN w8 x _ HX.out (by have := HX1.out; omega)).mono ?_
    rintro e w9 ⟨X3a, q3a, d3a, rfl, S3a, _, b9⟩
    have B9 := below_step B8 b9
    have G1 := G1.step b9
    have U1 := U1.step b9
    have V1 := V1.step b9
    have S2 := S2.step b9
    go_wp2_with fail
    refine (hN w9 y _ HY.out (by have := HY1.out; omega)).mono ?_
    rintro e w10 ⟨X3b, q3b, d3b, rfl, S3b, _, b10⟩
    have B10 := below_step B9 b10
    have G1 := G1.step b10
    have U1 := U1.step b10
    have V1 := V1.step b10
    have S2 := S2.step b10
    have S3a := S3a.step b10
    go_wp2_with fail
    refine (bGcd S3a.in_ S3b.in_ (by have h := S3a.1; rw [length_wd] at h; have := nbits_of_lt x 16 (by have := HX1.out; omega); omega) (by have h := S3b.1; rw [length_wd] at h; have := nbits_of_lt y 16 (by have := HY1.out; omega); omega)).mono ?_
    rintro e w11 ⟨X3, q3, d3, rfl, S3, _, b11⟩
    have B11 := below_step B10 b11
    have G1 := G1.step b11
    have U1 := U1.step b11
    have V1 := V1.step b11
    have S2 := S2.step b11
    have S3a := S3a.step b11
    have S3b := S3b.step b11
    clear S3a S3b
    go_wp2_with fail
    refine ((small05_i _ _ x y HX.out HY.out HX1.out HY1.out w11)).mono ?_
    rintro e w12 ⟨rfl, rfl⟩
    go_wp2_with fail
    refine (hIs_yes S3 (Nat.gcd x y) _ rfl rfl (by have := hGl.out; omega)).mono ?_
    rintro e w13 ⟨rfl, b13⟩
    have B13 := below_step B11 b13
    have G1 := G1.step b13
    have U1 := U1.step b13
    have V1 := V1.step b13
    have S2 := S2.step b13
    have S3 := S3.step b13
    clear S3
    go_wp2_with fail
    refine (hIs_yes G1 (Nat.gcd x y) _ rfl rfl (by have := hGl.out; omega)).mono ?_
    rintro e w14 ⟨rfl, b14⟩
    have B14 := below_step B13 b14
    have G1 := G1.step b14
    have U1 := U1.step b14
    have V1 := V1.step b14
    have S2 := S2.step b14
    clear G1
    go_wp2_with fail
    refine (hIs_yes U1 u _ rfl rfl (ext_u hE.out HX1.out HY1.out)).mono ?_
    rintro e w15 ⟨rfl, b15⟩
    have B15 := below_step B14 b15
    have U1 := U1.step b15
    have V1 := V1.step b15
    have S2 := S2.step b15
    clear U1
    go_wp2_with fail
    refine (hIs_yes V1 v _ rfl rfl (ext_v hE.out HX1.out HY1.out)).mono ?_
    rintro e w16 ⟨rfl, b16⟩
    have B16 := below_step B15 b16
    have V1 := V1.step b16
    have S2 := S2.step b16
    clear V1
    go_wp2_with fail
    refine (hIs_yes S2 v2 _ rfl rfl (by have := hV.out; have := HY1.out; omega)).mono ?_
    rintro e w17 ⟨rfl, b17⟩
    have B17 := below_step B16 b17
    have S2 := S2.step b17
    clear S2
    go_wp2_with fail
    refine (gcdWorks_any _).mono ?_
    rintro e w18 ⟨rfl, b18⟩
    have B18 := below_step B17 b18
    go_wp2_with fail
    go_ret
    exact ⟨rfl, B18⟩
  · have hNo := Lib.hid (show y = 0 ∨ Nat.gcd x y ≠ 1 by omega)
    have hNi := Lib.hid (show ∀ v, v < y → v * x % y ≠ 1 % y from fun v hv e => hg ⟨by omega, inv_gcd2 _ _ _ e⟩)
    clear hg
    go_enter Try.func4, Try.ntmps4
    go_wp2_with fail
    refine (hN w x _ HX.out (by have := HX1.out; omega)).mono ?_
    rintro e w1 ⟨X1a, q1a, d1a, rfl, S1a, _, b1⟩
    have B1 := b1
    go_wp2_with fail
    refine (hN w1 y _ HY.out (by have := HY1.out; omega)).mono ?_
    rintro e w2 ⟨X1b, q1b, d1b, rfl, S1b, _, b2⟩
    have B2 := below_step B1 b2
    have S1a := S1a.step b2
    go_wp2_with fail
    refine (bExt S1a.in_ S1b.in_ (by have h := S1a.1; rw [length_wd] at h; have := nbits_of_lt x 16 (by have := HX1.out; omega); omega) (by have h := S1b.1; rw [length_wd] at h; have := nbits_of_lt y 16 (by have := HY1.out; omega); omega)).mono ?_
    rintro e w3 ⟨X1, q1, d1, Y1, r1, f1, Z1, s1, t1, u, v, rfl, G1, U1, V1, hext, b3⟩
    have B3 := below_step B2 b3
    have S1a := S1a.step b3
    have S1b := S1b.step b3
    clear S1a S1b
    have hE := Lib.hid hext
    clear hext
    go_wp2_with fail
    refine ((ext05_i _ _ x y u v HX.out HY.out HX1.out HY1.out hE.out w3)).mono ?_
    rintro e w4 ⟨rfl, b4⟩
    have B4 := below_step B3 b4
    have G1 := G1.step b4
    have U1 := U1.step b4
    have V1 := V1.step b4
    go_wp2_with fail
    refine (hN w4 x _ HX.out (by have := HX1.out; omega)).mono ?_
    rintro e w5 ⟨X2a, q2a, d2a, rfl, S2a, _, b5⟩
    have B5 := below_step B4 b5
    have G1 := G1.step b5
    have U1 := U1.step b5
    have V1 := V1.step b5
    go_wp2_with fail
    refine (hN w5 y _ HY.out (by have := HY1.out; omega)).mono ?_
    rintro e w6 ⟨X2b, q2b, d2b, rfl, S2b, _, b6⟩
    have B6 := below_step B5 b6
    have G1 := G1.step b6
    have U1 := U1.step b6
    have V1 := V1.step b6
    have S2a := S2a.step b6
    go_wp2_with fail
    refine (bInv_no S2a.in_ S2b.in_ hNo.out (by have h := S2a.1; rw [length_wd] at h; have := nbits_of_lt x 16 (by have := HX1.out; omega); omega) (by have h := S2b.1; rw [length_wd] at h; have := nbits_of_lt y 16 (by have := HY1.out; omega); omega)).mono ?_
    rintro e w7 ⟨X2, d2, rfl, b7⟩
    have B7 := below_step B6 b7
    have G1 := G1.step b7
    have U1 := U1.step b7
    have V1 := V1.step b7
    have S2a := S2a.step b7
    have S2b := S2b.step b7
    clear S2a S2b
    go_wp2_with fail
    refine ((inv05_no_i _ _ x y HX.out HY.out HX1.out HY1.out hNi.out w7)).mono ?_
    rintro e w8 ⟨rfl, b8⟩
    have B8 := below_step B7 b8
    have G1 := G1.step b8
    have U1 := U1.step b8
    have V1 := V1.step b8
    go_wp2_with fail
    refine (hN w8 x _ HX.out (by have := HX1.out; omega)).mono ?_
    rintro e w9 ⟨X3a, q3a, d3a, rfl, S3a, _, b9⟩
    have B9 := below_step B8 b9
    have G1 := G1.step b9
    have U1 := U1.step b9
    have V1 := V1.step b9
    go_wp2_with fail
    refine (hN w9 y _ HY.out (by have := HY1.out; omega)).mono ?_
    rintro e w10 ⟨X3b, q3b, d3b, rfl, S3b, _, b10⟩
    have B10 := below_step B9 b10
    have G1 := G1.step b10
    have U1 := U1.step b10
    have V1 := V1.step b10
    have S3a := S3a.step b10
    go_wp2_with fail
    refine (bGcd S3a.in_ S3b.in_ (by have h := S3a.1; rw [length_wd] at h; have := nbits_of_lt x 16 (by have := HX1.out; omega); omega) (by have h := S3b.1; rw [length_wd] at h; have := nbits_of_lt y 16 (by have := HY1.out; omega); omega)).mono ?_
    rintro e w11 ⟨X3, q3, d3, rfl, S3, _, b11⟩
    have B11 := below_step B10 b11
    have G1 := G1.step b11
    have U1 := U1.step b11
    have V1 := V1.step b11
    have S3a := S3a.step b11
    have S3b := S3b.step b11
    clear S3a S3b
    go_wp2_with fail
    refine ((small05_i _ _ x y HX.out HY.out HX1.out HY1.out w11)).mono ?_
    rintro e w12 ⟨rfl, rfl⟩
    go_wp2_with fail
    refine (hIs_yes S3 (Nat.gcd x y) _ rfl rfl (by have := hGl.out; omega)).mono ?_
    rintro e w13 ⟨rfl, b13⟩
    have B13 := below_step B11 b13
    have G1 := G1.step b13
    have U1 := U1.step b13
    have V1 := V1.step b13
    have S3 := S3.step b13
    clear S3
    go_wp2_with fail
    refine (hIs_yes G1 (Nat.gcd x y) _ rfl rfl (by have := hGl.out; omega)).mono ?_
    rintro e w14 ⟨rfl, b14⟩
    have B14 := below_step B13 b14
    have G1 := G1.step b14
    have U1 := U1.step b14
    have V1 := V1.step b14
    clear G1
    go_wp2_with fail
    refine (hIs_yes U1 u _ rfl rfl (ext_u hE.out HX1.out HY1.out)).mono ?_
    rintro e w15 ⟨rfl, b15⟩
    have B15 := below_step B14 b15
    have U1 := U1.step b15
    have V1 := V1.step b15
    clear U1
    go_wp2_with fail
    refine (hIs_yes V1 v _ rfl rfl (ext_v hE.out HX1.out HY1.out)).mono ?_
    rintro e w16 ⟨rfl, b16⟩
    have B16 := below_step B15 b16
    have V1 := V1.step b16
    clear V1
    go_wp2_with fail
    refine (hIs_yes (natIs_none (w := w16) X2 d2) 0 _ rfl rfl (by omega)).mono ?_
    rintro e w17 ⟨rfl, b17⟩
    have B17 := below_step B16 b17
    go_wp2_with fail
    refine (gcdWorks_any _).mono ?_
    rintro e w18 ⟨rfl, b18⟩
    have B18 := below_step B17 b18
    go_wp2_with fail
    go_ret
    exact ⟨rfl, B18⟩
end Go.Proofs.Ytbgaboboakkimaa
/- GcdInverse' walk: it answers true, and writes nothing that was there. No condition but what the arguments' types give. -/
namespace Go.Proofs.Ytbgaboboakkimaa
open Go.RowKit
set_option maxHeartbeats 2000000 in
set_option maxRecDepth 100000 in
theorem gcdInverse_walk (A0 : Option Addr) (c0 : Nat) (l0 : List Nat) (A1 : Option Addr) (c1 : Nat) (l1 : List Nat) (w : World) (r0 : Rd .u64 w w.heap.size A0 l0) (y0 : Words l0) (_z0 : l0.length * 8 ≤ 140737488351232) (u0 : l0.length ≤ c0) (r1 : Rd .u64 w w.heap.size A1 l1) (y1 : Words l1) (_z1 : l1.length * 8 ≤ 140737488351232) (u1 : l1.length ≤ c1) :
    Calls Try.prog 6 #[.slice A0 l0.length c0, .slice A1 l1.length c1] w fun e w' => e = .returned (.bool true) ∧ Below w.heap.size w w' := by
  by_cases hv0 : 40 < l0.length
  · have hvd0 : decide (40 < (l0.length : Int)) = true := by simp; omega
    go_enter Try.func6, Try.ntmps6
    go_wp2_with fail
    refine (gcdWorks_any _).mono ?_
    rintro e w1 ⟨rfl, b1⟩
    have B1 := b1
    go_wp2_with fail
    go_ret
    exact ⟨rfl, B1⟩
  · by_cases hv1 : 40 < l1.length
    · have hvd1 : decide (40 < (l1.length : Int)) = true := by simp; omega
      have hvd0 : decide (40 < (l0.length : Int)) = false := by simp; omega
      go_enter Try.func6, Try.ntmps6
      go_wp2_with fail
      refine (gcdWorks_any _).mono ?_
      rintro e w1 ⟨rfl, b1⟩
      have B1 := b1
      go_wp2_with fail
      go_ret
      exact ⟨rfl, B1⟩
    · skip
      have hvd0 : decide (40 < (l0.length : Int)) = false := by simp; omega
      have hvd1 : decide (40 < (l1.length : Int)) = false := by simp; omega
      have P0 : RowIs w A0 l0.length c0 l0 := ⟨rfl, y0, by omega, r0, u0⟩
      have P1 : RowIs w A1 l1.length c1 l1 := ⟨rfl, y1, by omega, r1, u1⟩
      clear r0 y0 r1 y1
      by_cases hb0 : natOf l1 = 0
      · have hB0 := Lib.hid hb0
        clear hb0
        go_enter Try.func6, Try.ntmps6
        go_wp2_with fail
        refine (bInv_no P0.in_ P1.in_ (.inl hB0.out) (by omega) (by omega)).mono ?_
        rintro e w1 ⟨X1, d1, rfl, b1⟩
        have B1 := b1
        have P0 := P0.step b1
        have P1 := P1.step b1
        go_wp2_with fail
        refine (hNone_yes P1.in_ hB0.out).mono ?_
        rintro e w2 ⟨rfl, b2⟩
        have B2 := below_step B1 b2
        have P0 := P0.step b2
        have P1 := P1.step b2
        go_wp2_with fail
        refine (gcdWorks_any _).mono ?_
        rintro e w3 ⟨rfl, b3⟩
        have B3 := below_step B2 b3
        go_wp2_with fail
        go_ret
        exact ⟨rfl, B3⟩
      · have hB0 := Lib.hid hb0
        clear hb0
        by_cases hg : Nat.gcd (natOf l0) (natOf l1) = 1
        · have hG := Lib.hid hg
          clear hg
          go_enter Try.func6, Try.ntmps6
          go_wp2_with fail
          refine (bInv_ok P0.in_ P1.in_ hB0.out hG.out (by omega) (by omega)).mono ?_
          rintro e w1 ⟨X1, q1, d1, v, rfl, S1, hv1, he1, b1⟩
          have B1 := b1
          have P0 := P0.step b1
          have P1 := P1.step b1
          have hV := Lib.hid hv1
          have hE := Lib.hid he1
          clear hv1 he1
          have hq1 : q1 ≤ 4000 := by have h := S1.1; rw [length_wd] at h; have n0 := P0.in_.bits; have n1 := P1.in_.bits; have := nbits_mono (Nat.le_of_lt hV.out); omega
          go_wp2_with fail
          refine (hNone_no P1.in_ hB0.out).mono ?_
          rintro e w2 ⟨rfl, b2⟩
          have B2 := below_step B1 b2
          have P0 := P0.step b2
          have P1 := P1.step b2
          have S1 := S1.step b2
          go_wp2_with fail
          refine (bGcd P0.in_ P1.in_ (by omega) (by omega)).mono ?_
          rintro e w3 ⟨X3, q3, d3, rfl, S3, _, b3⟩
          have B3 := below_step B2 b3
          have P0 := P0.step b3
          have P1 := P1.step b3
          have S1 := S1.step b3
          go_wp2_with fail
          refine (hIs_yes S3 1 _ rfl hG.out (by omega)).mono ?_
          rintro e w4 ⟨rfl, b4⟩
          have B4 := below_step B3 b4
          have P0 := P0.step b4
          have P1 := P1.step b4
          have S1 := S1.step b4
          have S3 := S3.step b4
          clear S3
          go_wp2_with fail
          refine (bInv_ok S1.in_ P1.in_ hB0.out (inv_gcd _ _ _ hE.out) (by omega) (by omega)).mono ?_
          rintro e w5 ⟨X5, q5, d5, u, rfl, S5, hu1, hf1, b5⟩
          have B5 := below_step B4 b5
          have P0 := P0.step b5
          have P1 := P1.step b5
          have S1 := S1.step b5
          have S5 := natIs_eq S5 (inv_inv (natOf l0) (natOf l1) v u hu1 hE.out hf1)
          clear hu1 hf1
          go_wp2_with fail
          refine (cmp_less S1.in_ P1.in_ hV.out).mono ?_
          rintro e w6 ⟨rfl, b6⟩
          have B6 := below_step B5 b6
          have P0 := P0.step b6
          have P1 := P1.step b6
          have S1 := S1.step b6
          have S5 := S5.step b6
          go_wp2_with fail
          refine (bMul S1.in_ P0.in_ (by omega) (by omega)).mono ?_
          rintro e w7 ⟨X7, q7, d7, rfl, S7, _, b7⟩
          have B7 := below_step B6 b7
          have P0 := P0.step b7
          have P1 := P1.step b7
          have S1 := S1.step b7
          have S5 := S5.step b7
          have hq7 : q7 ≤ 4000 := by have h := S7.1; rw [length_wd] at h; have n0 := P0.in_.bits; have n1 := P1.in_.bits; have := nbits_mono (Nat.le_of_lt hV.out); have := nbits_mul v (natOf l0); omega
          go_wp2_with fail
          refine (hLeft S7.in_ P1.in_ hB0.out (by omega) (by omega)).mono ?_
          rintro e w8 ⟨X8, q8, d8, rfl, S8, b8⟩
          have B8 := below_step B7 b8
          have P0 := P0.step b8
          have P1 := P1.step b8
          have S1 := S1.step b8
          have S5 := S5.step b8
          have S7 := S7.step b8
          have S8 := natIs_eq S8 (hE.out)
          clear S7 S1
          go_wp2_with fail
          refine (hN w8 1 _ rfl (by omega)).mono ?_
          rintro e w9 ⟨X9, q9, d9, rfl, S9, _, b9⟩
          have B9 := below_step B8 b9
          have P0 := P0.step b9
          have P1 := P1.step b9
          have S5 := S5.step b9
          have S8 := S8.step b9
          have hq9 : q9 ≤ 4000 := by have h := S9.1; rw [length_wd] at h; have := nbits_of_lt 1 8 (by omega); omega
          go_wp2_with fail
          refine (hLeft S9.in_ P1.in_ hB0.out (by omega) (by omega)).mono ?_
          rintro e w10 ⟨X10, q10, d10, rfl, S10, b10⟩
          have B10 := below_step B9 b10
          have P0 := P0.step b10
          have P1 := P1.step b10
          have S5 := S5.step b10
          have S8 := S8.step b10
          have S9 := S9.step b10
          clear S9
          go_wp2_with fail
          refine (bSame S8 S10).mono ?_
          rintro e w11 ⟨rfl, b11⟩
          have B11 := below_step B10 b11
          have P0 := P0.step b11
          have P1 := P1.step b11
          have S5 := S5.step b11
          have S8 := S8.step b11
          have S10 := S10.step b11
          clear S8 S10
          go_wp2_with fail
          refine (hLeft P0.in_ P1.in_ hB0.out (by omega) (by omega)).mono ?_
          rintro e w12 ⟨X12, q12, d12, rfl, S12, b12⟩
          have B12 := below_step B11 b12
          have P0 := P0.step b12
          have P1 := P1.step b12
          have S5 := S5.step b12
          go_wp2_with fail
          refine (bSame S5 S12).mono ?_
          rintro e w13 ⟨rfl, b13⟩
          have B13 := below_step B12 b13
          have P0 := P0.step b13
          have P1 := P1.step b13
          have S5 := S5.step b13
          have S12 := S12.step b13
          go_wp2_with fail
          refine (gcdWorks_any _).mono ?_
          rintro e w14 ⟨rfl, b14⟩
          have B14 := below_step B13 b14
          go_wp2_with fail
          go_ret
          exact ⟨rfl, B14⟩
        · have hG := Lib.hid hg
          clear hg
          go_enter Try.func6, Try.ntmps6
          go_wp2_with fail
          refine (bInv_no P0.in_ P1.in_ (.inr hG.out) (by omega) (by omega)).mono ?_
          rintro e w1 ⟨X1, d1, rfl, b1⟩
          have B1 := b1
          have P0 := P0.step b1
          have P1 := P1.step b1
          go_wp2_with fail
          refine (hNone_no P1.in_ hB0.out).mono ?_
          rintro e w2 ⟨rfl, b2⟩
          have B2 := below_step B1 b2
          have P0 := P0.step b2
          have P1 := P1.step b2
          go_wp2_with fail
          refine (bGcd P0.in_ P1.in_ (by omega) (by omega)).mono ?_
          rintro e w3 ⟨X3, q3, d3, rfl, S3, _, b3⟩
          have B3 := below_step B2 b3
          have P0 := P0.step b3
          have P1 := P1.step b3
          go_wp2_with fail
          refine (hIs_no S3 1 _ rfl hG.out (by omega)).mono ?_
          rintro e w4 ⟨rfl, b4⟩
          have B4 := below_step B3 b4
          have P0 := P0.step b4
          have P1 := P1.step b4
          have S3 := S3.step b4
          go_wp2_with fail
          refine (gcdWorks_any _).mono ?_
          rintro e w5 ⟨rfl, b5⟩
          have B5 := below_step B4 b5
          go_wp2_with fail
          go_ret
          exact ⟨rfl, B5⟩
end Go.Proofs.Ytbgaboboakkimaa
/- GcdScales' walk: it answers true, and writes nothing that was there. No condition but what the arguments' types give. -/
namespace Go.Proofs.Ytbgaboboakkimaa
open Go.RowKit
set_option maxHeartbeats 2000000 in
set_option maxRecDepth 100000 in
theorem gcdScales_walk (A0 : Option Addr) (c0 : Nat) (l0 : List Nat) (A1 : Option Addr) (c1 : Nat) (l1 : List Nat) (A2 : Option Addr) (c2 : Nat) (l2 : List Nat) (w : World) (r0 : Rd .u64 w w.heap.size A0 l0) (y0 : Words l0) (_z0 : l0.length * 8 ≤ 140737488351232) (u0 : l0.length ≤ c0) (r1 : Rd .u64 w w.heap.size A1 l1) (y1 : Words l1) (_z1 : l1.length * 8 ≤ 140737488351232) (u1 : l1.length ≤ c1) (r2 : Rd .u64 w w.heap.size A2 l2) (y2 : Words l2) (_z2 : l2.length * 8 ≤ 140737488351232) (u2 : l2.length ≤ c2) :
    Calls Try.prog 7 #[.slice A0 l0.length c0, .slice A1 l1.length c1, .slice A2 l2.length c2] w fun e w' => e = .returned (.bool true) ∧ Below w.heap.size w w' := by
  by_cases hv0 : 20 < l0.length
  · have hvd0 : decide (20 < (l0.length : Int)) = true := by simp; omega
    go_enter Try.func7, Try.ntmps7
    go_wp2_with fail
    refine (gcdWorks_any _).mono ?_
    rintro e w1 ⟨rfl, b1⟩
    have B1 := b1
    go_wp2_with fail
    go_ret
    exact ⟨rfl, B1⟩
  · by_cases hv1 : 20 < l1.length
    · have hvd1 : decide (20 < (l1.length : Int)) = true := by simp; omega
      have hvd0 : decide (20 < (l0.length : Int)) = false := by simp; omega
      go_enter Try.func7, Try.ntmps7
      go_wp2_with fail
      refine (gcdWorks_any _).mono ?_
      rintro e w1 ⟨rfl, b1⟩
      have B1 := b1
      go_wp2_with fail
      go_ret
      exact ⟨rfl, B1⟩
    · by_cases hv2 : 20 < l2.length
      · have hvd2 : decide (20 < (l2.length : Int)) = true := by simp; omega
        have hvd0 : decide (20 < (l0.length : Int)) = false := by simp; omega
        have hvd1 : decide (20 < (l1.length : Int)) = false := by simp; omega
        go_enter Try.func7, Try.ntmps7
        go_wp2_with fail
        refine (gcdWorks_any _).mono ?_
        rintro e w1 ⟨rfl, b1⟩
        have B1 := b1
        go_wp2_with fail
        go_ret
        exact ⟨rfl, B1⟩
      · skip
        have hvd0 : decide (20 < (l0.length : Int)) = false := by simp; omega
        have hvd1 : decide (20 < (l1.length : Int)) = false := by simp; omega
        have hvd2 : decide (20 < (l2.length : Int)) = false := by simp; omega
        have P0 : RowIs w A0 l0.length c0 l0 := ⟨rfl, y0, by omega, r0, u0⟩
        have P1 : RowIs w A1 l1.length c1 l1 := ⟨rfl, y1, by omega, r1, u1⟩
        have P2 : RowIs w A2 l2.length c2 l2 := ⟨rfl, y2, by omega, r2, u2⟩
        clear r0 y0 r1 y1 r2 y2
        go_enter Try.func7, Try.ntmps7
        go_wp2_with fail
        refine (bGcd P0.in_ P1.in_ (by omega) (by omega)).mono ?_
        rintro e w1 ⟨X1, q1, d1, rfl, S1, _, b1⟩
        have B1 := b1
        have P0 := P0.step b1
        have P1 := P1.step b1
        have P2 := P2.step b1
        have hq1 : q1 ≤ 4000 := by have h := S1.1; rw [length_wd] at h; have n0 := P0.in_.bits; have n1 := P1.in_.bits; have n2 := P2.in_.bits; have := nbits_gcd (natOf l0) (natOf l1); omega
        go_wp2_with fail
        refine (bGcd P1.in_ P0.in_ (by omega) (by omega)).mono ?_
        rintro e w2 ⟨X2, q2, d2, rfl, S2, _, b2⟩
        have B2 := below_step B1 b2
        have P0 := P0.step b2
        have P1 := P1.step b2
        have P2 := P2.step b2
        have S1 := S1.step b2
        go_wp2_with fail
        refine (cmp_same S1.in_ S2.in_ (Nat.gcd_comm _ _)).mono ?_
        rintro e w3 ⟨rfl, b3⟩
        have B3 := below_step B2 b3
        have P0 := P0.step b3
        have P1 := P1.step b3
        have P2 := P2.step b3
        have S1 := S1.step b3
        have S2 := S2.step b3
        clear S2
        go_wp2_with fail
        refine (bMul P0.in_ P2.in_ (by omega) (by omega)).mono ?_
        rintro e w4 ⟨X4, q4, d4, rfl, S4, _, b4⟩
        have B4 := below_step B3 b4
        have P0 := P0.step b4
        have P1 := P1.step b4
        have P2 := P2.step b4
        have S1 := S1.step b4
        have hq4 : q4 ≤ 4000 := by have h := S4.1; rw [length_wd] at h; have n0 := P0.in_.bits; have n1 := P1.in_.bits; have n2 := P2.in_.bits; have := nbits_mul (natOf l0) (natOf l2); omega
        go_wp2_with fail
        refine (bMul P1.in_ P2.in_ (by omega) (by omega)).mono ?_
        rintro e w5 ⟨X5, q5, d5, rfl, S5, _, b5⟩
        have B5 := below_step B4 b5
        have P0 := P0.step b5
        have P1 := P1.step b5
        have P2 := P2.step b5
        have S1 := S1.step b5
        have S4 := S4.step b5
        have hq5 : q5 ≤ 4000 := by have h := S5.1; rw [length_wd] at h; have n0 := P0.in_.bits; have n1 := P1.in_.bits; have n2 := P2.in_.bits; have := nbits_mul (natOf l1) (natOf l2); omega
        go_wp2_with fail
        refine (bGcd S4.in_ S5.in_ (by omega) (by omega)).mono ?_
        rintro e w6 ⟨X6, q6, d6, rfl, S6, _, b6⟩
        have B6 := below_step B5 b6
        have P0 := P0.step b6
        have P1 := P1.step b6
        have P2 := P2.step b6
        have S1 := S1.step b6
        have S4 := S4.step b6
        have S5 := S5.step b6
        clear S4 S5
        go_wp2_with fail
        refine (bMul S1.in_ P2.in_ (by omega) (by omega)).mono ?_
        rintro e w7 ⟨X7, q7, d7, rfl, S7, _, b7⟩
        have B7 := below_step B6 b7
        have P0 := P0.step b7
        have P1 := P1.step b7
        have P2 := P2.step b7
        have S1 := S1.step b7
        have S6 := S6.step b7
        go_wp2_with fail
        refine (cmp_same S6.in_ S7.in_ (Nat.gcd_mul_right _ _ _)).mono ?_
        rintro e w8 ⟨rfl, b8⟩
        have B8 := below_step B7 b8
        have P0 := P0.step b8
        have P1 := P1.step b8
        have P2 := P2.step b8
        have S1 := S1.step b8
        have S6 := S6.step b8
        have S7 := S7.step b8
        clear S6 S7
        go_wp2_with fail
        refine (bMul P1.in_ P2.in_ (by omega) (by omega)).mono ?_
        rintro e w9 ⟨X9, q9, d9, rfl, S9, _, b9⟩
        have B9 := below_step B8 b9
        have P0 := P0.step b9
        have P1 := P1.step b9
        have P2 := P2.step b9
        have S1 := S1.step b9
        have hq9 : q9 ≤ 4000 := by have h := S9.1; rw [length_wd] at h; have n0 := P0.in_.bits; have n1 := P1.in_.bits; have n2 := P2.in_.bits; have := nbits_mul (natOf l1) (natOf l2); omega
        go_wp2_with fail
        refine (bAdd P0.in_ S9.in_ (by omega)).mono ?_
        rintro e w10 ⟨X10, q10, d10, rfl, S10, _, b10⟩
        have B10 := below_step B9 b10
        have P0 := P0.step b10
        have P1 := P1.step b10
        have P2 := P2.step b10
        have S1 := S1.step b10
        have S9 := S9.step b10
        have hq10 : q10 ≤ 4000 := by have h := S10.1; rw [length_wd] at h; have n0 := P0.in_.bits; have n1 := P1.in_.bits; have n2 := P2.in_.bits; have := nbits_mul (natOf l1) (natOf l2); have := nbits_add (natOf l0) (natOf l1 * natOf l2); omega
        clear S9
        go_wp2_with fail
        refine (bGcd S10.in_ P1.in_ (by omega) (by omega)).mono ?_
        rintro e w11 ⟨X11, q11, d11, rfl, S11, _, b11⟩
        have B11 := below_step B10 b11
        have P0 := P0.step b11
        have P1 := P1.step b11
        have P2 := P2.step b11
        have S1 := S1.step b11
        have S10 := S10.step b11
        clear S10
        go_wp2_with fail
        refine (cmp_same S11.in_ S1.in_ (gcd_three _ _ _)).mono ?_
        rintro e w12 ⟨rfl, b12⟩
        have B12 := below_step B11 b12
        have P0 := P0.step b12
        have P1 := P1.step b12
        have P2 := P2.step b12
        have S1 := S1.step b12
        have S11 := S11.step b12
        clear S11
        go_wp2_with fail
        refine (bGcd S1.in_ P2.in_ (by omega) (by omega)).mono ?_
        rintro e w13 ⟨X13, q13, d13, rfl, S13, _, b13⟩
        have B13 := below_step B12 b13
        have P0 := P0.step b13
        have P1 := P1.step b13
        have P2 := P2.step b13
        have S1 := S1.step b13
        clear S1
        go_wp2_with fail
        refine (bGcd P1.in_ P2.in_ (by omega) (by omega)).mono ?_
        rintro e w14 ⟨X14, q14, d14, rfl, S14, _, b14⟩
        have B14 := below_step B13 b14
        have P0 := P0.step b14
        have P1 := P1.step b14
        have P2 := P2.step b14
        have S13 := S13.step b14
        have hq14 : q14 ≤ 4000 := by have h := S14.1; rw [length_wd] at h; have n0 := P0.in_.bits; have n1 := P1.in_.bits; have n2 := P2.in_.bits; have := nbits_gcd (natOf l1) (natOf l2); omega
        go_wp2_with fail
        refine (bGcd P0.in_ S14.in_ (by omega) (by omega)).mono ?_
        rintro e w15 ⟨X15, q15, d15, rfl, S15, _, b15⟩
        have B15 := below_step B14 b15
        have P0 := P0.step b15
        have P1 := P1.step b15
        have P2 := P2.step b15
        have S13 := S13.step b15
        have S14 := S14.step b15
        clear S14
        go_wp2_with fail
        refine (cmp_same S13.in_ S15.in_ (Nat.gcd_assoc _ _ _)).mono ?_
        rintro e w16 ⟨rfl, b16⟩
        have B16 := below_step B15 b16
        have P0 := P0.step b16
        have P1 := P1.step b16
        have P2 := P2.step b16
        have S13 := S13.step b16
        have S15 := S15.step b16
        clear S13 S15
        go_wp2_with fail
        refine (bMul P0.in_ P2.in_ (by omega) (by omega)).mono ?_
        rintro e w17 ⟨X17, q17, d17, rfl, S17, _, b17⟩
        have B17 := below_step B16 b17
        have P0 := P0.step b17
        have P1 := P1.step b17
        have P2 := P2.step b17
        have hq17 : q17 ≤ 4000 := by have h := S17.1; rw [length_wd] at h; have n0 := P0.in_.bits; have n1 := P1.in_.bits; have n2 := P2.in_.bits; have := nbits_mul (natOf l0) (natOf l2); omega
        go_wp2_with fail
        refine (bGcd P0.in_ S17.in_ (by omega) (by omega)).mono ?_
        rintro e w18 ⟨X18, q18, d18, rfl, S18, _, b18⟩
        have B18 := below_step B17 b18
        have P0 := P0.step b18
        have P1 := P1.step b18
        have P2 := P2.step b18
        have S17 := S17.step b18
        clear S17
        go_wp2_with fail
        refine (bTrim P0.in_).mono ?_
        rintro e w19 ⟨X19, q19, d19, rfl, S19, _, b19⟩
        have B19 := below_step B18 b19
        have P0 := P0.step b19
        have P1 := P1.step b19
        have P2 := P2.step b19
        have S18 := S18.step b19
        go_wp2_with fail
        refine (cmp_same S18.in_ S19.in_ (gcd_self_mul _ _)).mono ?_
        rintro e w20 ⟨rfl, b20⟩
        have B20 := below_step B19 b20
        have P0 := P0.step b20
        have P1 := P1.step b20
        have P2 := P2.step b20
        have S18 := S18.step b20
        have S19 := S19.step b20
        go_wp2_with fail
        refine (gcdWorks_any _).mono ?_
        rintro e w21 ⟨rfl, b21⟩
        have B21 := below_step B20 b21
        go_wp2_with fail
        go_ret
        exact ⟨rfl, B21⟩
end Go.Proofs.Ytbgaboboakkimaa

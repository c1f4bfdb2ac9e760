/- MulSquares' walk: it answers true, and writes nothing that was there. No condition but what the arguments' types give. -/
import Derived.Test.YtjdjklejchginaaMulB
namespace Go.Proofs.Ytjdjklejchginaa
open Go.RowKit


set_option maxHeartbeats 2000000 in
set_option maxRecDepth 100000 in
theorem mulSquares_walk (A0 : Option Addr) (c0 : Nat) (l0 : List Nat) (A1 : Option Addr) (c1 : Nat) (l1 : List Nat) (w : World) (r0 : Rd .u64 w w.heap.size A0 l0) (y0 : Words l0) (_z0 : l0.length * 8 ≤ 140737488351232) (u0 : l0.length ≤ c0) (r1 : Rd .u64 w w.heap.size A1 l1) (y1 : Words l1) (_z1 : l1.length * 8 ≤ 140737488351232) (u1 : l1.length ≤ c1) :
    Calls Try.prog 7 #[.slice A0 l0.length c0, .slice A1 l1.length c1] w fun e w' => e = .returned (.bool true) ∧ Below w.heap.size w w' := by
  by_cases hv : 40 < l0.length
  · skip
    go_enter Try.func7, Try.ntmps7
    go_wp2_with fail
    refine (vast3_yes _ _ _ _ hv).mono ?_
    rintro e w1 ⟨rfl, rfl⟩
    go_wp2_with fail
    refine (mulWorks_any _).mono ?_
    rintro e w1 ⟨rfl, b1⟩
    have B1 := b1
    go_wp2_with fail
    go_ret
    exact ⟨rfl, B1⟩
  · by_cases hv1 : 40 < l1.length
    · skip
      go_enter Try.func7, Try.ntmps7
      go_wp2_with fail
      refine (vast3_no _ _ _ _ (by omega)).mono ?_
      rintro e w1 ⟨rfl, rfl⟩
      go_wp2_with fail
      refine (vast3_yes _ _ _ _ hv1).mono ?_
      rintro e w2 ⟨rfl, rfl⟩
      go_wp2_with fail
      refine (mulWorks_any _).mono ?_
      rintro e w1 ⟨rfl, b1⟩
      have B1 := b1
      go_wp2_with fail
      go_ret
      exact ⟨rfl, B1⟩
    · have P0 : RowIs w A0 l0.length c0 l0 := ⟨rfl, y0, by omega, r0, u0⟩
      have P1 : RowIs w A1 l1.length c1 l1 := ⟨rfl, y1, by omega, r1, u1⟩
      clear r0 y0 r1 y1
      rcases Nat.lt_or_ge (natOf l0) (natOf l1) with h | h
      · skip
        go_enter Try.func7, Try.ntmps7
        go_wp2_with fail
        refine (vast3_no _ _ _ _ (by omega)).mono ?_
        rintro e w1 ⟨rfl, rfl⟩
        go_wp2_with fail
        refine (vast3_no _ _ _ _ (by omega)).mono ?_
        rintro e w2 ⟨rfl, rfl⟩
        go_wp2_with fail
        refine (bSquare P0.in_ (by omega)).mono ?_
        rintro e w1 ⟨X1, q1, d1, rfl, S1, _, b1⟩
        have B1 := b1
        have P0 := P0.step b1
        have P1 := P1.step b1
        have hq1 : q1 ≤ 9000 := by have h := S1.1; rw [length_wd] at h; have n0 := P0.in_.bits; have n1 := P1.in_.bits; have s00 := nbits_mul (natOf l0) (natOf l0); have s11 := nbits_mul (natOf l1) (natOf l1); have s01 := nbits_mul (natOf l0) (natOf l1); have a01 := nbits_add (natOf l0) (natOf l1); omega
        go_wp2_with fail
        refine (bSquare P1.in_ (by omega)).mono ?_
        rintro e w2 ⟨X2, q2, d2, rfl, S2, _, b2⟩
        have B2 := below_step B1 b2
        have P0 := P0.step b2
        have P1 := P1.step b2
        have S1 := S1.step b2
        have hq2 : q2 ≤ 9000 := by have h := S2.1; rw [length_wd] at h; have n0 := P0.in_.bits; have n1 := P1.in_.bits; have s00 := nbits_mul (natOf l0) (natOf l0); have s11 := nbits_mul (natOf l1) (natOf l1); have s01 := nbits_mul (natOf l0) (natOf l1); have a01 := nbits_add (natOf l0) (natOf l1); omega
        go_wp2_with fail
        refine (bAdd P0.in_ P1.in_ (by omega)).mono ?_
        rintro e w3 ⟨X3, q3, d3, rfl, S3, _, b3⟩
        have B3 := below_step B2 b3
        have P0 := P0.step b3
        have P1 := P1.step b3
        have S1 := S1.step b3
        have S2 := S2.step b3
        have hq3 : q3 ≤ 9000 := by have h := S3.1; rw [length_wd] at h; have n0 := P0.in_.bits; have n1 := P1.in_.bits; have s00 := nbits_mul (natOf l0) (natOf l0); have s11 := nbits_mul (natOf l1) (natOf l1); have s01 := nbits_mul (natOf l0) (natOf l1); have a01 := nbits_add (natOf l0) (natOf l1); omega
        go_wp2_with fail
        refine (bMul P0.in_ P1.in_ (by omega) (by omega)).mono ?_
        rintro e w4 ⟨X4, q4, d4, rfl, S4, _, b4⟩
        have B4 := below_step B3 b4
        have P0 := P0.step b4
        have P1 := P1.step b4
        have S1 := S1.step b4
        have S2 := S2.step b4
        have S3 := S3.step b4
        have hq4 : q4 ≤ 9000 := by have h := S4.1; rw [length_wd] at h; have n0 := P0.in_.bits; have n1 := P1.in_.bits; have s00 := nbits_mul (natOf l0) (natOf l0); have s11 := nbits_mul (natOf l1) (natOf l1); have s01 := nbits_mul (natOf l0) (natOf l1); have a01 := nbits_add (natOf l0) (natOf l1); omega
        go_wp2_with fail
        refine (bShl S4.in_ 1 (by omega)).mono ?_
        rintro e w5 ⟨X5, q5, d5, rfl, S5, _, b5⟩
        have B5 := below_step B4 b5
        have P0 := P0.step b5
        have P1 := P1.step b5
        have S1 := S1.step b5
        have S2 := S2.step b5
        have S3 := S3.step b5
        have S4 := S4.step b5
        have S5 := natIs_eq S5 (shl3 (natOf l0 * natOf l1) 1 (by omega))
        have hq5 : q5 ≤ 9000 := by have h := S5.1; rw [length_wd] at h; have n0 := P0.in_.bits; have n1 := P1.in_.bits; have s00 := nbits_mul (natOf l0) (natOf l0); have s11 := nbits_mul (natOf l1) (natOf l1); have s01 := nbits_mul (natOf l0) (natOf l1); have a01 := nbits_add (natOf l0) (natOf l1); have := nbits_shl (natOf l0 * natOf l1) 1; omega
        clear S4
        go_wp2_with fail
        refine (bSquare S3.in_ (by omega)).mono ?_
        rintro e w6 ⟨X6, q6, d6, rfl, S6, _, b6⟩
        have B6 := below_step B5 b6
        have P0 := P0.step b6
        have P1 := P1.step b6
        have S1 := S1.step b6
        have S2 := S2.step b6
        have S3 := S3.step b6
        have S5 := S5.step b6
        go_wp2_with fail
        refine (bAdd S1.in_ S2.in_ (by omega)).mono ?_
        rintro e w7 ⟨X7, q7, d7, rfl, S7, _, b7⟩
        have B7 := below_step B6 b7
        have P0 := P0.step b7
        have P1 := P1.step b7
        have S1 := S1.step b7
        have S2 := S2.step b7
        have S3 := S3.step b7
        have S5 := S5.step b7
        have S6 := S6.step b7
        have hq7 : q7 ≤ 9000 := by have h := S7.1; rw [length_wd] at h; have n0 := P0.in_.bits; have n1 := P1.in_.bits; have s00 := nbits_mul (natOf l0) (natOf l0); have s11 := nbits_mul (natOf l1) (natOf l1); have s01 := nbits_mul (natOf l0) (natOf l1); have a01 := nbits_add (natOf l0) (natOf l1); have := nbits_add (natOf l0 * natOf l0) (natOf l1 * natOf l1); omega
        go_wp2_with fail
        refine (bAdd S7.in_ S5.in_ (by omega)).mono ?_
        rintro e w8 ⟨X8, q8, d8, rfl, S8, _, b8⟩
        have B8 := below_step B7 b8
        have P0 := P0.step b8
        have P1 := P1.step b8
        have S1 := S1.step b8
        have S2 := S2.step b8
        have S3 := S3.step b8
        have S5 := S5.step b8
        have S6 := S6.step b8
        have S7 := S7.step b8
        clear S7 S5
        go_wp2_with fail
        refine (cmp_same S6.in_ S8.in_ (show (natOf l0 + natOf l1) * (natOf l0 + natOf l1) = natOf l0 * natOf l0 + natOf l1 * natOf l1 + 2 ^ 1 * (natOf l0 * natOf l1) by rw [sq_sum]; omega)).mono ?_
        rintro e w9 ⟨rfl, b9⟩
        have B9 := below_step B8 b9
        have P0 := P0.step b9
        have P1 := P1.step b9
        have S1 := S1.step b9
        have S2 := S2.step b9
        have S3 := S3.step b9
        have S6 := S6.step b9
        have S8 := S8.step b9
        clear S6 S8
        go_wp2_with fail
        refine (bMul P0.in_ P0.in_ (by omega) (by omega)).mono ?_
        rintro e w10 ⟨X10, q10, d10, rfl, S10, _, b10⟩
        have B10 := below_step B9 b10
        have P0 := P0.step b10
        have P1 := P1.step b10
        have S1 := S1.step b10
        have S2 := S2.step b10
        have S3 := S3.step b10
        go_wp2_with fail
        refine (cmp_same S1.in_ S10.in_ rfl).mono ?_
        rintro e w11 ⟨rfl, b11⟩
        have B11 := below_step B10 b11
        have P0 := P0.step b11
        have P1 := P1.step b11
        have S1 := S1.step b11
        have S2 := S2.step b11
        have S3 := S3.step b11
        have S10 := S10.step b11
        clear S10
        go_wp2_with fail
        refine (bSub_no P0.in_ P1.in_ h).mono ?_
        rintro e w12 ⟨X11, d11, rfl, b12⟩
        have B12 := below_step B11 b12
        have P0 := P0.step b12
        have P1 := P1.step b12
        have S1 := S1.step b12
        have S2 := S2.step b12
        have S3 := S3.step b12
        go_wp2_with fail
        refine (sub_is P1.in_ P0.in_ (by omega)).mono ?_
        rintro e w13 ⟨X12, q12, d12, rfl, S12, b13⟩
        have B13 := below_step B12 b13
        have P0 := P0.step b13
        have P1 := P1.step b13
        have S1 := S1.step b13
        have S2 := S2.step b13
        have S3 := S3.step b13
        have hq12 : q12 ≤ 9000 := by have h := S12.1; rw [length_wd] at h; have n0 := P0.in_.bits; have n1 := P1.in_.bits; have s00 := nbits_mul (natOf l0) (natOf l0); have s11 := nbits_mul (natOf l1) (natOf l1); have s01 := nbits_mul (natOf l0) (natOf l1); have a01 := nbits_add (natOf l0) (natOf l1); have := nbits_mono (Nat.sub_le (natOf l1) (natOf l0)); omega
        go_wp2_with fail
        refine (sub_is S2.in_ S1.in_ (Nat.mul_le_mul (Nat.le_of_lt h) (Nat.le_of_lt h))).mono ?_
        rintro e w14 ⟨X13, q13, d13, rfl, S13, b14⟩
        have B14 := below_step B13 b14
        have P0 := P0.step b14
        have P1 := P1.step b14
        have S1 := S1.step b14
        have S2 := S2.step b14
        have S3 := S3.step b14
        have S12 := S12.step b14
        clear S1 S2
        go_wp2_with fail
        refine (bMul S3.in_ S12.in_ (by omega) (by omega)).mono ?_
        rintro e w15 ⟨X14, q14, d14, rfl, S14, _, b15⟩
        have B15 := below_step B14 b15
        have P0 := P0.step b15
        have P1 := P1.step b15
        have S3 := S3.step b15
        have S12 := S12.step b15
        have S13 := S13.step b15
        have S14 := natIs_eq S14 (show (natOf l0 + natOf l1) * (natOf l1 - natOf l0) = natOf l1 * natOf l1 - natOf l0 * natOf l0 by rw [Nat.add_comm]; exact sq_rest (natOf l1) (natOf l0) (Nat.le_of_lt h))
        clear S3 S12
        go_wp2_with fail
        refine (cmp_same S14.in_ S13.in_ rfl).mono ?_
        rintro e w16 ⟨rfl, b16⟩
        have B16 := below_step B15 b16
        have P0 := P0.step b16
        have P1 := P1.step b16
        have S13 := S13.step b16
        have S14 := S14.step b16
        clear S14 S13
        go_wp2_with fail
        refine (mulWorks_any _).mono ?_
        rintro e w17 ⟨rfl, b17⟩
        have B17 := below_step B16 b17
        go_wp2_with fail
        go_ret
        exact ⟨rfl, B17⟩

      · skip
        go_enter Try.func7, Try.ntmps7
        go_wp2_with fail
        refine (vast3_no _ _ _ _ (by omega)).mono ?_
        rintro e w1 ⟨rfl, rfl⟩
        go_wp2_with fail
        refine (vast3_no _ _ _ _ (by omega)).mono ?_
        rintro e w2 ⟨rfl, rfl⟩
        go_wp2_with fail
        refine (bSquare P0.in_ (by omega)).mono ?_
        rintro e w1 ⟨X1, q1, d1, rfl, S1, _, b1⟩
        have B1 := b1
        have P0 := P0.step b1
        have P1 := P1.step b1
        have hq1 : q1 ≤ 9000 := by have h := S1.1; rw [length_wd] at h; have n0 := P0.in_.bits; have n1 := P1.in_.bits; have s00 := nbits_mul (natOf l0) (natOf l0); have s11 := nbits_mul (natOf l1) (natOf l1); have s01 := nbits_mul (natOf l0) (natOf l1); have a01 := nbits_add (natOf l0) (natOf l1); omega
        go_wp2_with fail
        refine (bSquare P1.in_ (by omega)).mono ?_
        rintro e w2 ⟨X2, q2, d2, rfl, S2, _, b2⟩
        have B2 := below_step B1 b2
        have P0 := P0.step b2
        have P1 := P1.step b2
        have S1 := S1.step b2
        have hq2 : q2 ≤ 9000 := by have h := S2.1; rw [length_wd] at h; have n0 := P0.in_.bits; have n1 := P1.in_.bits; have s00 := nbits_mul (natOf l0) (natOf l0); have s11 := nbits_mul (natOf l1) (natOf l1); have s01 := nbits_mul (natOf l0) (natOf l1); have a01 := nbits_add (natOf l0) (natOf l1); omega
        go_wp2_with fail
        refine (bAdd P0.in_ P1.in_ (by omega)).mono ?_
        rintro e w3 ⟨X3, q3, d3, rfl, S3, _, b3⟩
        have B3 := below_step B2 b3
        have P0 := P0.step b3
        have P1 := P1.step b3
        have S1 := S1.step b3
        have S2 := S2.step b3
        have hq3 : q3 ≤ 9000 := by have h := S3.1; rw [length_wd] at h; have n0 := P0.in_.bits; have n1 := P1.in_.bits; have s00 := nbits_mul (natOf l0) (natOf l0); have s11 := nbits_mul (natOf l1) (natOf l1); have s01 := nbits_mul (natOf l0) (natOf l1); have a01 := nbits_add (natOf l0) (natOf l1); omega
        go_wp2_with fail
        refine (bMul P0.in_ P1.in_ (by omega) (by omega)).mono ?_
        rintro e w4 ⟨X4, q4, d4, rfl, S4, _, b4⟩
        have B4 := below_step B3 b4
        have P0 := P0.step b4
        have P1 := P1.step b4
        have S1 := S1.step b4
        have S2 := S2.step b4
        have S3 := S3.step b4
        have hq4 : q4 ≤ 9000 := by have h := S4.1; rw [length_wd] at h; have n0 := P0.in_.bits; have n1 := P1.in_.bits; have s00 := nbits_mul (natOf l0) (natOf l0); have s11 := nbits_mul (natOf l1) (natOf l1); have s01 := nbits_mul (natOf l0) (natOf l1); have a01 := nbits_add (natOf l0) (natOf l1); omega
        go_wp2_with fail
        refine (bShl S4.in_ 1 (by omega)).mono ?_
        rintro e w5 ⟨X5, q5, d5, rfl, S5, _, b5⟩
        have B5 := below_step B4 b5
        have P0 := P0.step b5
        have P1 := P1.step b5
        have S1 := S1.step b5
        have S2 := S2.step b5
        have S3 := S3.step b5
        have S4 := S4.step b5
        have S5 := natIs_eq S5 (shl3 (natOf l0 * natOf l1) 1 (by omega))
        have hq5 : q5 ≤ 9000 := by have h := S5.1; rw [length_wd] at h; have n0 := P0.in_.bits; have n1 := P1.in_.bits; have s00 := nbits_mul (natOf l0) (natOf l0); have s11 := nbits_mul (natOf l1) (natOf l1); have s01 := nbits_mul (natOf l0) (natOf l1); have a01 := nbits_add (natOf l0) (natOf l1); have := nbits_shl (natOf l0 * natOf l1) 1; omega
        clear S4
        go_wp2_with fail
        refine (bSquare S3.in_ (by omega)).mono ?_
        rintro e w6 ⟨X6, q6, d6, rfl, S6, _, b6⟩
        have B6 := below_step B5 b6
        have P0 := P0.step b6
        have P1 := P1.step b6
        have S1 := S1.step b6
        have S2 := S2.step b6
        have S3 := S3.step b6
        have S5 := S5.step b6
        go_wp2_with fail
        refine (bAdd S1.in_ S2.in_ (by omega)).mono ?_
        rintro e w7 ⟨X7, q7, d7, rfl, S7, _, b7⟩
        have B7 := below_step B6 b7
        have P0 := P0.step b7
        have P1 := P1.step b7
        have S1 := S1.step b7
        have S2 := S2.step b7
        have S3 := S3.step b7
        have S5 := S5.step b7
        have S6 := S6.step b7
        have hq7 : q7 ≤ 9000 := by have h := S7.1; rw [length_wd] at h; have n0 := P0.in_.bits; have n1 := P1.in_.bits; have s00 := nbits_mul (natOf l0) (natOf l0); have s11 := nbits_mul (natOf l1) (natOf l1); have s01 := nbits_mul (natOf l0) (natOf l1); have a01 := nbits_add (natOf l0) (natOf l1); have := nbits_add (natOf l0 * natOf l0) (natOf l1 * natOf l1); omega
        go_wp2_with fail
        refine (bAdd S7.in_ S5.in_ (by omega)).mono ?_
        rintro e w8 ⟨X8, q8, d8, rfl, S8, _, b8⟩
        have B8 := below_step B7 b8
        have P0 := P0.step b8
        have P1 := P1.step b8
        have S1 := S1.step b8
        have S2 := S2.step b8
        have S3 := S3.step b8
        have S5 := S5.step b8
        have S6 := S6.step b8
        have S7 := S7.step b8
        clear S7 S5
        go_wp2_with fail
        refine (cmp_same S6.in_ S8.in_ (show (natOf l0 + natOf l1) * (natOf l0 + natOf l1) = natOf l0 * natOf l0 + natOf l1 * natOf l1 + 2 ^ 1 * (natOf l0 * natOf l1) by rw [sq_sum]; omega)).mono ?_
        rintro e w9 ⟨rfl, b9⟩
        have B9 := below_step B8 b9
        have P0 := P0.step b9
        have P1 := P1.step b9
        have S1 := S1.step b9
        have S2 := S2.step b9
        have S3 := S3.step b9
        have S6 := S6.step b9
        have S8 := S8.step b9
        clear S6 S8
        go_wp2_with fail
        refine (bMul P0.in_ P0.in_ (by omega) (by omega)).mono ?_
        rintro e w10 ⟨X10, q10, d10, rfl, S10, _, b10⟩
        have B10 := below_step B9 b10
        have P0 := P0.step b10
        have P1 := P1.step b10
        have S1 := S1.step b10
        have S2 := S2.step b10
        have S3 := S3.step b10
        go_wp2_with fail
        refine (cmp_same S1.in_ S10.in_ rfl).mono ?_
        rintro e w11 ⟨rfl, b11⟩
        have B11 := below_step B10 b11
        have P0 := P0.step b11
        have P1 := P1.step b11
        have S1 := S1.step b11
        have S2 := S2.step b11
        have S3 := S3.step b11
        have S10 := S10.step b11
        clear S10
        go_wp2_with fail
        refine (sub_is P0.in_ P1.in_ h).mono ?_
        rintro e w12 ⟨X12, q12, d12, rfl, S12, b12⟩
        have B12 := below_step B11 b12
        have P0 := P0.step b12
        have P1 := P1.step b12
        have S1 := S1.step b12
        have S2 := S2.step b12
        have S3 := S3.step b12
        have hq12 : q12 ≤ 9000 := by have h := S12.1; rw [length_wd] at h; have n0 := P0.in_.bits; have n1 := P1.in_.bits; have s00 := nbits_mul (natOf l0) (natOf l0); have s11 := nbits_mul (natOf l1) (natOf l1); have s01 := nbits_mul (natOf l0) (natOf l1); have a01 := nbits_add (natOf l0) (natOf l1); have := nbits_mono (Nat.sub_le (natOf l0) (natOf l1)); omega
        go_wp2_with fail
        refine (sub_is S1.in_ S2.in_ (Nat.mul_le_mul h h)).mono ?_
        rintro e w13 ⟨X13, q13, d13, rfl, S13, b13⟩
        have B13 := below_step B12 b13
        have P0 := P0.step b13
        have P1 := P1.step b13
        have S1 := S1.step b13
        have S2 := S2.step b13
        have S3 := S3.step b13
        have S12 := S12.step b13
        clear S1 S2
        go_wp2_with fail
        refine (bMul S3.in_ S12.in_ (by omega) (by omega)).mono ?_
        rintro e w14 ⟨X14, q14, d14, rfl, S14, _, b14⟩
        have B14 := below_step B13 b14
        have P0 := P0.step b14
        have P1 := P1.step b14
        have S3 := S3.step b14
        have S12 := S12.step b14
        have S13 := S13.step b14
        have S14 := natIs_eq S14 (sq_rest (natOf l0) (natOf l1) h)
        clear S3 S12
        go_wp2_with fail
        refine (cmp_same S14.in_ S13.in_ rfl).mono ?_
        rintro e w15 ⟨rfl, b15⟩
        have B15 := below_step B14 b15
        have P0 := P0.step b15
        have P1 := P1.step b15
        have S13 := S13.step b15
        have S14 := S14.step b15
        clear S14 S13
        go_wp2_with fail
        refine (mulWorks_any _).mono ?_
        rintro e w16 ⟨rfl, b16⟩
        have B16 := below_step B15 b16
        go_wp2_with fail
        go_ret
        exact ⟨rfl, B16⟩

end Go.Proofs.Ytjdjklejchginaa

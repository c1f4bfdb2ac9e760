/- MulLaws' walk: it answers true, and writes nothing that was there. No condition but what the arguments' types give. -/
import Derived.Test.YtjdjklejchginaaMulB
namespace Go.Proofs.Ytjdjklejchginaa
open Go.RowKit


set_option maxHeartbeats 2000000 in
set_option maxRecDepth 100000 in
theorem mulLaws_walk (A0 : Option Addr) (c0 : Nat) (l0 : List Nat) (A1 : Option Addr) (c1 : Nat) (l1 : List Nat) (A2 : Option Addr) (c2 : Nat) (l2 : List Nat) (w : World) (r0 : Rd .u64 w w.heap.size A0 l0) (y0 : Words l0) (_z0 : l0.length * 8 ≤ 140737488351232) (u0 : l0.length ≤ c0) (r1 : Rd .u64 w w.heap.size A1 l1) (y1 : Words l1) (_z1 : l1.length * 8 ≤ 140737488351232) (u1 : l1.length ≤ c1) (r2 : Rd .u64 w w.heap.size A2 l2) (y2 : Words l2) (_z2 : l2.length * 8 ≤ 140737488351232) (u2 : l2.length ≤ c2) :
    Calls Try.prog 4 #[.slice A0 l0.length c0, .slice A1 l1.length c1, .slice A2 l2.length c2] w fun e w' => e = .returned (.bool true) ∧ Below w.heap.size w w' := by
  by_cases hv : 130 < l0.length
  · have hvd : decide (130 < (l0.length : Int)) = true := by simp; omega
    go_enter Try.func4, Try.ntmps4
    go_wp2_with fail
    refine (mulWorks_any _).mono ?_
    rintro e w1 ⟨rfl, b1⟩
    have B1 := b1
    go_wp2_with fail
    go_ret
    exact ⟨rfl, B1⟩
  · by_cases hv1 : 130 < l1.length
    · have hvd : decide (130 < (l0.length : Int)) = false := by simp; omega
      have hvd1 : decide (130 < (l1.length : Int)) = true := by simp; omega
      go_enter Try.func4, Try.ntmps4
      go_wp2_with fail
      refine (mulWorks_any _).mono ?_
      rintro e w1 ⟨rfl, b1⟩
      have B1 := b1
      go_wp2_with fail
      go_ret
      exact ⟨rfl, B1⟩
    · by_cases hv2 : 130 < l2.length
      · have hvd : decide (130 < (l0.length : Int)) = false := by simp; omega
        have hvd1 : decide (130 < (l1.length : Int)) = false := by simp; omega
        have hvd2 : decide (130 < (l2.length : Int)) = true := by simp; omega
        go_enter Try.func4, Try.ntmps4
        go_wp2_with fail
        refine (mulWorks_any _).mono ?_
        rintro e w1 ⟨rfl, b1⟩
        have B1 := b1
        go_wp2_with fail
        go_ret
        exact ⟨rfl, B1⟩
      · have P0 : RowIs w A0 l0.length c0 l0 := ⟨rfl, y0, by omega, r0, u0⟩
        have P1 : RowIs w A1 l1.length c1 l1 := ⟨rfl, y1, by omega, r1, u1⟩
        have P2 : RowIs w A2 l2.length c2 l2 := ⟨rfl, y2, by omega, r2, u2⟩
        have hvd : decide (130 < (l0.length : Int)) = false := by simp; omega
        have hvd1 : decide (130 < (l1.length : Int)) = false := by simp; omega
        have hvd2 : decide (130 < (l2.length : Int)) = false := by simp; omega
        clear r0 y0 r1 y1 r2 y2
        go_enter Try.func4, Try.ntmps4
        go_wp2_with fail
        refine (bMul P0.in_ P1.in_ (by omega) (by omega)).mono ?_
        rintro e w1 ⟨X1, q1, d1, rfl, S1, _, b1⟩
        have B1 := b1
        have P0 := P0.step b1
        have P1 := P1.step b1
        have P2 := P2.step b1
        have hq1 : q1 ≤ 9000 := by have h := S1.1; rw [length_wd] at h; have n0 := P0.in_.bits; have n1 := P1.in_.bits; have n2 := P2.in_.bits; have m01 := nbits_mul (natOf l0) (natOf l1); have m02 := nbits_mul (natOf l0) (natOf l2); omega
        go_wp2_with fail
        refine (bMul P0.in_ P2.in_ (by omega) (by omega)).mono ?_
        rintro e w2 ⟨X2, q2, d2, rfl, S2, _, b2⟩
        have B2 := below_step B1 b2
        have P0 := P0.step b2
        have P1 := P1.step b2
        have P2 := P2.step b2
        have S1 := S1.step b2
        have hq2 : q2 ≤ 9000 := by have h := S2.1; rw [length_wd] at h; have n0 := P0.in_.bits; have n1 := P1.in_.bits; have n2 := P2.in_.bits; have m01 := nbits_mul (natOf l0) (natOf l1); have m02 := nbits_mul (natOf l0) (natOf l2); omega
        go_wp2_with fail
        refine (bMay S1).mono ?_
        rintro e w3 ⟨rfl, b3⟩
        have B3 := below_step B2 b3
        have P0 := P0.step b3
        have P1 := P1.step b3
        have P2 := P2.step b3
        have S1 := S1.step b3
        have S2 := S2.step b3
        go_wp2_with fail
        refine (bMul P1.in_ P0.in_ (by omega) (by omega)).mono ?_
        rintro e w4 ⟨X4, q4, d4, rfl, S4, _, b4⟩
        have B4 := below_step B3 b4
        have P0 := P0.step b4
        have P1 := P1.step b4
        have P2 := P2.step b4
        have S1 := S1.step b4
        have S2 := S2.step b4
        have S4 := natIs_eq S4 (Nat.mul_comm (natOf l1) (natOf l0))
        go_wp2_with fail
        refine (bSame S1 S4).mono ?_
        rintro e w5 ⟨rfl, b5⟩
        have B5 := below_step B4 b5
        have P0 := P0.step b5
        have P1 := P1.step b5
        have P2 := P2.step b5
        have S1 := S1.step b5
        have S2 := S2.step b5
        have S4 := S4.step b5
        clear S4
        go_wp2_with fail
        refine (bAdd P1.in_ P2.in_ (by omega)).mono ?_
        rintro e w6 ⟨X6, q6, d6, rfl, S6, _, b6⟩
        have B6 := below_step B5 b6
        have P0 := P0.step b6
        have P1 := P1.step b6
        have P2 := P2.step b6
        have S1 := S1.step b6
        have S2 := S2.step b6
        have hq6 : q6 ≤ 9000 := by have h := S6.1; rw [length_wd] at h; have n0 := P0.in_.bits; have n1 := P1.in_.bits; have n2 := P2.in_.bits; have m01 := nbits_mul (natOf l0) (natOf l1); have m02 := nbits_mul (natOf l0) (natOf l2); have := nbits_add (natOf l1) (natOf l2); omega
        go_wp2_with fail
        refine (bMul P0.in_ S6.in_ (by omega) (by omega)).mono ?_
        rintro e w7 ⟨X7, q7, d7, rfl, S7, _, b7⟩
        have B7 := below_step B6 b7
        have P0 := P0.step b7
        have P1 := P1.step b7
        have P2 := P2.step b7
        have S1 := S1.step b7
        have S2 := S2.step b7
        have S6 := S6.step b7
        have S7 := natIs_eq S7 (Nat.mul_add (natOf l0) (natOf l1) (natOf l2))
        clear S6
        go_wp2_with fail
        refine (bAdd S1.in_ S2.in_ (by omega)).mono ?_
        rintro e w8 ⟨X8, q8, d8, rfl, S8, _, b8⟩
        have B8 := below_step B7 b8
        have P0 := P0.step b8
        have P1 := P1.step b8
        have P2 := P2.step b8
        have S1 := S1.step b8
        have S2 := S2.step b8
        have S7 := S7.step b8
        go_wp2_with fail
        refine (bSame S7 S8).mono ?_
        rintro e w9 ⟨rfl, b9⟩
        have B9 := below_step B8 b9
        have P0 := P0.step b9
        have P1 := P1.step b9
        have P2 := P2.step b9
        have S1 := S1.step b9
        have S2 := S2.step b9
        have S7 := S7.step b9
        have S8 := S8.step b9
        clear S7 S8
        go_wp2_with fail
        refine (bMul S1.in_ P2.in_ (by omega) (by omega)).mono ?_
        rintro e w10 ⟨X10, q10, d10, rfl, S10, _, b10⟩
        have B10 := below_step B9 b10
        have P0 := P0.step b10
        have P1 := P1.step b10
        have P2 := P2.step b10
        have S1 := S1.step b10
        have S2 := S2.step b10
        go_wp2_with fail
        refine (bMul P1.in_ S2.in_ (by omega) (by omega)).mono ?_
        rintro e w11 ⟨X11, q11, d11, rfl, S11, _, b11⟩
        have B11 := below_step B10 b11
        have P0 := P0.step b11
        have P1 := P1.step b11
        have P2 := P2.step b11
        have S1 := S1.step b11
        have S2 := S2.step b11
        have S10 := S10.step b11
        have S11 := natIs_eq S11 (show natOf l1 * (natOf l0 * natOf l2) = natOf l0 * natOf l1 * natOf l2 by rw [Nat.mul_left_comm, Nat.mul_assoc])
        clear S2
        go_wp2_with fail
        refine (bSame S10 S11).mono ?_
        rintro e w12 ⟨rfl, b12⟩
        have B12 := below_step B11 b12
        have P0 := P0.step b12
        have P1 := P1.step b12
        have P2 := P2.step b12
        have S1 := S1.step b12
        have S10 := S10.step b12
        have S11 := S11.step b12
        clear S10 S11
        go_wp2_with fail
        refine (bSquare P0.in_ (by omega)).mono ?_
        rintro e w13 ⟨X13, q13, d13, rfl, S13, _, b13⟩
        have B13 := below_step B12 b13
        have P0 := P0.step b13
        have P1 := P1.step b13
        have P2 := P2.step b13
        have S1 := S1.step b13
        have hq13 : q13 ≤ 9000 := by have h := S13.1; rw [length_wd] at h; have n0 := P0.in_.bits; have n1 := P1.in_.bits; have n2 := P2.in_.bits; have m01 := nbits_mul (natOf l0) (natOf l1); have m02 := nbits_mul (natOf l0) (natOf l2); have s00 := nbits_mul (natOf l0) (natOf l0); have s11 := nbits_mul (natOf l1) (natOf l1); omega
        go_wp2_with fail
        refine (bAdd S1.in_ S1.in_ (by omega)).mono ?_
        rintro e w14 ⟨X14, q14, d14, rfl, S14, _, b14⟩
        have B14 := below_step B13 b14
        have P0 := P0.step b14
        have P1 := P1.step b14
        have P2 := P2.step b14
        have S1 := S1.step b14
        have S13 := S13.step b14
        have hq14 : q14 ≤ 9000 := by have h := S14.1; rw [length_wd] at h; have n0 := P0.in_.bits; have n1 := P1.in_.bits; have n2 := P2.in_.bits; have m01 := nbits_mul (natOf l0) (natOf l1); have m02 := nbits_mul (natOf l0) (natOf l2); have := nbits_add (natOf l0 * natOf l1) (natOf l0 * natOf l1); omega
        clear S1
        go_wp2_with fail
        refine (bSquare P1.in_ (by omega)).mono ?_
        rintro e w15 ⟨X15, q15, d15, rfl, S15, _, b15⟩
        have B15 := below_step B14 b15
        have P0 := P0.step b15
        have P1 := P1.step b15
        have P2 := P2.step b15
        have S13 := S13.step b15
        have S14 := S14.step b15
        have hq15 : q15 ≤ 9000 := by have h := S15.1; rw [length_wd] at h; have n0 := P0.in_.bits; have n1 := P1.in_.bits; have n2 := P2.in_.bits; have m01 := nbits_mul (natOf l0) (natOf l1); have m02 := nbits_mul (natOf l0) (natOf l2); have s00 := nbits_mul (natOf l0) (natOf l0); have s11 := nbits_mul (natOf l1) (natOf l1); omega
        go_wp2_with fail
        refine (bAdd S14.in_ S15.in_ (by omega)).mono ?_
        rintro e w16 ⟨X16, q16, d16, rfl, S16, _, b16⟩
        have B16 := below_step B15 b16
        have P0 := P0.step b16
        have P1 := P1.step b16
        have P2 := P2.step b16
        have S13 := S13.step b16
        have S14 := S14.step b16
        have S15 := S15.step b16
        have hq16 : q16 ≤ 9000 := by have h := S16.1; rw [length_wd] at h; have n0 := P0.in_.bits; have n1 := P1.in_.bits; have n2 := P2.in_.bits; have m01 := nbits_mul (natOf l0) (natOf l1); have m02 := nbits_mul (natOf l0) (natOf l2); have s00 := nbits_mul (natOf l0) (natOf l0); have s11 := nbits_mul (natOf l1) (natOf l1); have a1 := nbits_add (natOf l0 * natOf l1) (natOf l0 * natOf l1); have a2 := nbits_add (natOf l0 * natOf l1 + natOf l0 * natOf l1) (natOf l1 * natOf l1); omega
        clear S14 S15
        go_wp2_with fail
        refine (bAdd S13.in_ S16.in_ (by omega)).mono ?_
        rintro e w17 ⟨X17, q17, d17, rfl, S17, _, b17⟩
        have B17 := below_step B16 b17
        have P0 := P0.step b17
        have P1 := P1.step b17
        have P2 := P2.step b17
        have S13 := S13.step b17
        have S16 := S16.step b17
        clear S13 S16
        go_wp2_with fail
        refine (bAdd P0.in_ P1.in_ (by omega)).mono ?_
        rintro e w18 ⟨X18, q18, d18, rfl, S18, _, b18⟩
        have B18 := below_step B17 b18
        have P0 := P0.step b18
        have P1 := P1.step b18
        have P2 := P2.step b18
        have S17 := S17.step b18
        have hq18 : q18 ≤ 9000 := by have h := S18.1; rw [length_wd] at h; have n0 := P0.in_.bits; have n1 := P1.in_.bits; have n2 := P2.in_.bits; have m01 := nbits_mul (natOf l0) (natOf l1); have m02 := nbits_mul (natOf l0) (natOf l2); have := nbits_add (natOf l0) (natOf l1); omega
        go_wp2_with fail
        refine (bSquare S18.in_ (by omega)).mono ?_
        rintro e w19 ⟨X19, q19, d19, rfl, S19, _, b19⟩
        have B19 := below_step B18 b19
        have P0 := P0.step b19
        have P1 := P1.step b19
        have P2 := P2.step b19
        have S17 := S17.step b19
        have S18 := S18.step b19
        have S19 := natIs_eq S19 (sq_sum (natOf l0) (natOf l1))
        clear S18
        go_wp2_with fail
        refine (bSame S19 S17).mono ?_
        rintro e w20 ⟨rfl, b20⟩
        have B20 := below_step B19 b20
        have P0 := P0.step b20
        have P1 := P1.step b20
        have P2 := P2.step b20
        have S17 := S17.step b20
        have S19 := S19.step b20
        clear S19 S17
        go_wp2_with fail
        refine (bMul P0.in_ (natIn_nil w20) (by omega) (by omega)).mono ?_
        rintro e w21 ⟨X21, q21, d21, rfl, S21, _, b21⟩
        have B21 := below_step B20 b21
        have P0 := P0.step b21
        have P1 := P1.step b21
        have P2 := P2.step b21
        have hq21 : q21 = 0 := by have h := S21.1; rw [length_wd, Nat.mul_zero, nbits_zero] at h; omega
        subst hq21
        clear S21
        go_wp2_with fail
        refine (OutN_made (bMul (P0.in_.made _) (natIn_one w21) (by omega) (by omega))).mono ?_
        rintro e w22 ⟨X22, q22, d22, rfl, S22, _, b22⟩
        have B22 := below_step B21 b22
        have P0 := P0.step b22
        have P1 := P1.step b22
        have P2 := P2.step b22
        have S22 := natIs_eq S22 (Nat.mul_one (natOf l0))
        go_wp2_with fail
        refine (bTrim P0.in_).mono ?_
        rintro e w23 ⟨X23, q23, d23, rfl, S23, _, b23⟩
        have B23 := below_step B22 b23
        have P0 := P0.step b23
        have P1 := P1.step b23
        have P2 := P2.step b23
        have S22 := S22.step b23
        go_wp2_with fail
        refine (bSame S22 S23).mono ?_
        rintro e w24 ⟨rfl, b24⟩
        have B24 := below_step B23 b24
        have P0 := P0.step b24
        have P1 := P1.step b24
        have P2 := P2.step b24
        have S22 := S22.step b24
        have S23 := S23.step b24
        clear S22 S23
        go_wp2_with fail
        refine (mulWorks_any _).mono ?_
        rintro e w25 ⟨rfl, b25⟩
        have B25 := below_step B24 b25
        go_wp2_with fail
        go_ret
        exact ⟨rfl, B25⟩

end Go.Proofs.Ytjdjklejchginaa

/- DivTower' walk: it answers true, and writes nothing that was there. No condition but what the arguments' types give. -/
import Derived.Test.YtjimnepjheppgaaDivB
namespace Go.Proofs.Ytjimnepjheppgaa
open Go.RowKit


set_option maxHeartbeats 2000000 in
set_option maxRecDepth 100000 in
theorem divTower_walk (A0 : Option Addr) (c0 : Nat) (l0 : List Nat) (A1 : Option Addr) (c1 : Nat) (l1 : List Nat) (A2 : Option Addr) (c2 : Nat) (l2 : List Nat) (w : World) (r0 : Rd .u64 w w.heap.size A0 l0) (y0 : Words l0) (_z0 : l0.length * 8 ≤ 140737488351232) (u0 : l0.length ≤ c0) (r1 : Rd .u64 w w.heap.size A1 l1) (y1 : Words l1) (_z1 : l1.length * 8 ≤ 140737488351232) (u1 : l1.length ≤ c1) (r2 : Rd .u64 w w.heap.size A2 l2) (y2 : Words l2) (_z2 : l2.length * 8 ≤ 140737488351232) (u2 : l2.length ≤ c2) :
    Calls Try.prog 7 #[.slice A0 l0.length c0, .slice A1 l1.length c1, .slice A2 l2.length c2] w fun e w' => e = .returned (.bool true) ∧ Below w.heap.size w w' := by
  by_cases hv0 : 40 < l0.length
  · have hvd0 : decide (40 < (l0.length : Int)) = true := by simp; omega
    go_enter Try.func7, Try.ntmps7
    go_wp2_with fail
    refine (divWorks_any _).mono ?_
    rintro e w1 ⟨rfl, b1⟩
    have B1 := b1
    go_wp2_with fail
    go_ret
    exact ⟨rfl, B1⟩
  · by_cases hv1 : 20 < l1.length
    · have hvd1 : decide (20 < (l1.length : Int)) = true := by simp; omega
      have hvd0 : decide (40 < (l0.length : Int)) = false := by simp; omega
      go_enter Try.func7, Try.ntmps7
      go_wp2_with fail
      refine (divWorks_any _).mono ?_
      rintro e w1 ⟨rfl, b1⟩
      have B1 := b1
      go_wp2_with fail
      go_ret
      exact ⟨rfl, B1⟩
    · by_cases hv2 : 20 < l2.length
      · have hvd2 : decide (20 < (l2.length : Int)) = true := by simp; omega
        have hvd0 : decide (40 < (l0.length : Int)) = false := by simp; omega
        have hvd1 : decide (20 < (l1.length : Int)) = false := by simp; omega
        go_enter Try.func7, Try.ntmps7
        go_wp2_with fail
        refine (divWorks_any _).mono ?_
        rintro e w1 ⟨rfl, b1⟩
        have B1 := b1
        go_wp2_with fail
        go_ret
        exact ⟨rfl, B1⟩
      · skip
        have hvd0 : decide (40 < (l0.length : Int)) = false := by simp; omega
        have hvd1 : decide (20 < (l1.length : Int)) = false := by simp; omega
        have hvd2 : decide (20 < (l2.length : Int)) = false := by simp; omega
        have P0 : RowIs w A0 l0.length c0 l0 := ⟨rfl, y0, by omega, r0, u0⟩
        have P1 : RowIs w A1 l1.length c1 l1 := ⟨rfl, y1, by omega, r1, u1⟩
        have P2 : RowIs w A2 l2.length c2 l2 := ⟨rfl, y2, by omega, r2, u2⟩
        clear r0 y0 r1 y1 r2 y2
        by_cases hB0 : natOf l1 = 0
        · skip
          by_cases hC0 : natOf l2 = 0
          · skip
            go_enter Try.func7, Try.ntmps7
            go_wp2_with fail
            refine (bDiv_zero P0.in_ P1.in_ hB0 (by omega) (by omega)).mono ?_
            rintro e w1 ⟨X1, d1, Y1, f1, rfl, b1⟩
            have B1 := b1
            have P0 := P0.step b1
            have P1 := P1.step b1
            have P2 := P2.step b1
            go_wp2_with fail
            refine (bDiv_zero (natIn_empty w1 X1 d1) P2.in_ hC0 (by omega) (by omega)).mono ?_
            rintro e w2 ⟨X2, d2, Y2, f2, rfl, b2⟩
            have B2 := below_step B1 b2
            have P0 := P0.step b2
            have P1 := P1.step b2
            have P2 := P2.step b2
            go_wp2_with fail
            refine (bMul P1.in_ P2.in_ (by omega) (by omega)).mono ?_
            rintro e w3 ⟨X5, q5, d5, rfl, S5, _, b3⟩
            have B3 := below_step B2 b3
            have P0 := P0.step b3
            have P1 := P1.step b3
            have P2 := P2.step b3
            have hq5 : q5 ≤ 9000 := by have h := S5.1; rw [length_wd] at h; have n0 := P0.in_.bits; have n1 := P1.in_.bits; have n2 := P2.in_.bits; have := nbits_mul (natOf l1) (natOf l2); omega
            go_wp2_with fail
            refine (bDiv_zero P0.in_ S5.in_ (by first | rw [hB0, Nat.zero_mul] | rw [hC0, Nat.mul_zero]) (by omega) (by omega)).mono ?_
            rintro e w4 ⟨X6, d6, Y6, f6, rfl, b4⟩
            have B4 := below_step B3 b4
            have P0 := P0.step b4
            have P1 := P1.step b4
            have P2 := P2.step b4
            have S5 := S5.step b4
            go_wp2_with fail
            refine (divWorks_any _).mono ?_
            rintro e w5 ⟨rfl, b5⟩
            have B5 := below_step B4 b5
            go_wp2_with fail
            go_ret
            exact ⟨rfl, B5⟩
          · skip
            go_enter Try.func7, Try.ntmps7
            go_wp2_with fail
            refine (bDiv_zero P0.in_ P1.in_ hB0 (by omega) (by omega)).mono ?_
            rintro e w1 ⟨X1, d1, Y1, f1, rfl, b1⟩
            have B1 := b1
            have P0 := P0.step b1
            have P1 := P1.step b1
            have P2 := P2.step b1
            go_wp2_with fail
            refine (bDiv_ok (natIn_empty w1 X1 d1) P2.in_ hC0 (by omega) (by omega)).mono ?_
            rintro e w2 ⟨X2, q2, d2, Y2, r2, f2, rfl, _, _, b2⟩
            have B2 := below_step B1 b2
            have P0 := P0.step b2
            have P1 := P1.step b2
            have P2 := P2.step b2
            go_wp2_with fail
            refine (bMul P1.in_ P2.in_ (by omega) (by omega)).mono ?_
            rintro e w3 ⟨X5, q5, d5, rfl, S5, _, b3⟩
            have B3 := below_step B2 b3
            have P0 := P0.step b3
            have P1 := P1.step b3
            have P2 := P2.step b3
            have hq5 : q5 ≤ 9000 := by have h := S5.1; rw [length_wd] at h; have n0 := P0.in_.bits; have n1 := P1.in_.bits; have n2 := P2.in_.bits; have := nbits_mul (natOf l1) (natOf l2); omega
            go_wp2_with fail
            refine (bDiv_zero P0.in_ S5.in_ (by first | rw [hB0, Nat.zero_mul] | rw [hC0, Nat.mul_zero]) (by omega) (by omega)).mono ?_
            rintro e w4 ⟨X6, d6, Y6, f6, rfl, b4⟩
            have B4 := below_step B3 b4
            have P0 := P0.step b4
            have P1 := P1.step b4
            have P2 := P2.step b4
            have S5 := S5.step b4
            go_wp2_with fail
            refine (divWorks_any _).mono ?_
            rintro e w5 ⟨rfl, b5⟩
            have B5 := below_step B4 b5
            go_wp2_with fail
            go_ret
            exact ⟨rfl, B5⟩
        · skip
          by_cases hC0 : natOf l2 = 0
          · skip
            go_enter Try.func7, Try.ntmps7
            go_wp2_with fail
            refine (bDiv_ok P0.in_ P1.in_ hB0 (by omega) (by omega)).mono ?_
            rintro e w1 ⟨X1, q1, d1, Y1, r1, f1, rfl, S1, T1, b1⟩
            have B1 := b1
            have P0 := P0.step b1
            have P1 := P1.step b1
            have P2 := P2.step b1
            have hq1 : q1 ≤ 9000 := by have h := S1.1; rw [length_wd] at h; have n0 := P0.in_.bits; have n1 := P1.in_.bits; have n2 := P2.in_.bits; have dq := nbits_mono (Nat.div_le_self (natOf l0) (natOf l1)); have dr := nbits_mono (Nat.mod_le (natOf l0) (natOf l1)); omega
            have hr1 : r1 ≤ 9000 := by have h := T1.1; rw [length_wd] at h; have n0 := P0.in_.bits; have n1 := P1.in_.bits; have n2 := P2.in_.bits; have dq := nbits_mono (Nat.div_le_self (natOf l0) (natOf l1)); have dr := nbits_mono (Nat.mod_le (natOf l0) (natOf l1)); omega
            go_wp2_with fail
            refine (bDiv_zero S1.in_ P2.in_ hC0 (by omega) (by omega)).mono ?_
            rintro e w2 ⟨X2, d2, Y2, f2, rfl, b2⟩
            have B2 := below_step B1 b2
            have P0 := P0.step b2
            have P1 := P1.step b2
            have P2 := P2.step b2
            have S1 := S1.step b2
            have T1 := T1.step b2
            clear S1 T1
            go_wp2_with fail
            refine (bMul P1.in_ P2.in_ (by omega) (by omega)).mono ?_
            rintro e w3 ⟨X5, q5, d5, rfl, S5, _, b3⟩
            have B3 := below_step B2 b3
            have P0 := P0.step b3
            have P1 := P1.step b3
            have P2 := P2.step b3
            have hq5 : q5 ≤ 9000 := by have h := S5.1; rw [length_wd] at h; have n0 := P0.in_.bits; have n1 := P1.in_.bits; have n2 := P2.in_.bits; have := nbits_mul (natOf l1) (natOf l2); omega
            go_wp2_with fail
            refine (bDiv_zero P0.in_ S5.in_ (by first | rw [hB0, Nat.zero_mul] | rw [hC0, Nat.mul_zero]) (by omega) (by omega)).mono ?_
            rintro e w4 ⟨X6, d6, Y6, f6, rfl, b4⟩
            have B4 := below_step B3 b4
            have P0 := P0.step b4
            have P1 := P1.step b4
            have P2 := P2.step b4
            have S5 := S5.step b4
            go_wp2_with fail
            refine (divWorks_any _).mono ?_
            rintro e w5 ⟨rfl, b5⟩
            have B5 := below_step B4 b5
            go_wp2_with fail
            go_ret
            exact ⟨rfl, B5⟩
          · skip
            go_enter Try.func7, Try.ntmps7
            go_wp2_with fail
            refine (bDiv_ok P0.in_ P1.in_ hB0 (by omega) (by omega)).mono ?_
            rintro e w1 ⟨X1, q1, d1, Y1, r1, f1, rfl, S1, T1, b1⟩
            have B1 := b1
            have P0 := P0.step b1
            have P1 := P1.step b1
            have P2 := P2.step b1
            have hq1 : q1 ≤ 9000 := by have h := S1.1; rw [length_wd] at h; have n0 := P0.in_.bits; have n1 := P1.in_.bits; have n2 := P2.in_.bits; have dq := nbits_mono (Nat.div_le_self (natOf l0) (natOf l1)); have dr := nbits_mono (Nat.mod_le (natOf l0) (natOf l1)); omega
            have hr1 : r1 ≤ 9000 := by have h := T1.1; rw [length_wd] at h; have n0 := P0.in_.bits; have n1 := P1.in_.bits; have n2 := P2.in_.bits; have dq := nbits_mono (Nat.div_le_self (natOf l0) (natOf l1)); have dr := nbits_mono (Nat.mod_le (natOf l0) (natOf l1)); omega
            go_wp2_with fail
            refine (bDiv_ok S1.in_ P2.in_ hC0 (by omega) (by omega)).mono ?_
            rintro e w2 ⟨X2, q2, d2, Y2, r2, f2, rfl, S2, T2, b2⟩
            have B2 := below_step B1 b2
            have P0 := P0.step b2
            have P1 := P1.step b2
            have P2 := P2.step b2
            have S1 := S1.step b2
            have T1 := T1.step b2
            have hq2 : q2 ≤ 9000 := by have h := S2.1; rw [length_wd] at h; have n0 := P0.in_.bits; have n1 := P1.in_.bits; have n2 := P2.in_.bits; have dq := nbits_mono (Nat.div_le_self (natOf l0) (natOf l1)); have dr := nbits_mono (Nat.mod_le (natOf l0) (natOf l1)); have dq2 := nbits_mono (Nat.div_le_self (natOf l0 / natOf l1) (natOf l2)); have dr2 := nbits_mono (Nat.mod_le (natOf l0 / natOf l1) (natOf l2)); omega
            have hr2 : r2 ≤ 9000 := by have h := T2.1; rw [length_wd] at h; have n0 := P0.in_.bits; have n1 := P1.in_.bits; have n2 := P2.in_.bits; have dq := nbits_mono (Nat.div_le_self (natOf l0) (natOf l1)); have dr := nbits_mono (Nat.mod_le (natOf l0) (natOf l1)); have dq2 := nbits_mono (Nat.div_le_self (natOf l0 / natOf l1) (natOf l2)); have dr2 := nbits_mono (Nat.mod_le (natOf l0 / natOf l1) (natOf l2)); omega
            clear S1
            go_wp2_with fail
            refine (bMul P1.in_ P2.in_ (by omega) (by omega)).mono ?_
            rintro e w3 ⟨X5, q5, d5, rfl, S5, _, b3⟩
            have B3 := below_step B2 b3
            have P0 := P0.step b3
            have P1 := P1.step b3
            have P2 := P2.step b3
            have T1 := T1.step b3
            have S2 := S2.step b3
            have T2 := T2.step b3
            have hq5 : q5 ≤ 9000 := by have h := S5.1; rw [length_wd] at h; have n0 := P0.in_.bits; have n1 := P1.in_.bits; have n2 := P2.in_.bits; have := nbits_mul (natOf l1) (natOf l2); omega
            go_wp2_with fail
            refine (bDiv_ok P0.in_ S5.in_ (Nat.mul_ne_zero hB0 hC0) (by omega) (by omega)).mono ?_
            rintro e w4 ⟨X6, q6, d6, Y6, r6, f6, rfl, S6, T6, b4⟩
            have B4 := below_step B3 b4
            have P0 := P0.step b4
            have P1 := P1.step b4
            have P2 := P2.step b4
            have T1 := T1.step b4
            have S2 := S2.step b4
            have T2 := T2.step b4
            have S5 := S5.step b4
            have hq6 : q6 ≤ 9000 := by have h := S6.1; rw [length_wd] at h; have n0 := P0.in_.bits; have n1 := P1.in_.bits; have n2 := P2.in_.bits; have dq3 := nbits_mono (Nat.div_le_self (natOf l0) (natOf l1 * natOf l2)); have dr3 := nbits_mono (Nat.mod_le (natOf l0) (natOf l1 * natOf l2)); omega
            have hr6 : r6 ≤ 9000 := by have h := T6.1; rw [length_wd] at h; have n0 := P0.in_.bits; have n1 := P1.in_.bits; have n2 := P2.in_.bits; have dq3 := nbits_mono (Nat.div_le_self (natOf l0) (natOf l1 * natOf l2)); have dr3 := nbits_mono (Nat.mod_le (natOf l0) (natOf l1 * natOf l2)); omega
            clear S5
            go_wp2_with fail
            refine (cmp_same S2.in_ S6.in_ (Nat.div_div_eq_div_mul (natOf l0) (natOf l1) (natOf l2))).mono ?_
            rintro e w5 ⟨rfl, b5⟩
            have B5 := below_step B4 b5
            have P0 := P0.step b5
            have P1 := P1.step b5
            have P2 := P2.step b5
            have T1 := T1.step b5
            have S2 := S2.step b5
            have T2 := T2.step b5
            have S6 := S6.step b5
            have T6 := T6.step b5
            clear S2 S6
            go_wp2_with fail
            refine (bMul P1.in_ T2.in_ (by omega) (by omega)).mono ?_
            rintro e w6 ⟨X8, q8, d8, rfl, S8, _, b6⟩
            have B6 := below_step B5 b6
            have P0 := P0.step b6
            have P1 := P1.step b6
            have P2 := P2.step b6
            have T1 := T1.step b6
            have T2 := T2.step b6
            have T6 := T6.step b6
            have hq8 : q8 ≤ 9000 := by have h := S8.1; rw [length_wd] at h; have n0 := P0.in_.bits; have n1 := P1.in_.bits; have n2 := P2.in_.bits; have dq := nbits_mono (Nat.div_le_self (natOf l0) (natOf l1)); have dr := nbits_mono (Nat.mod_le (natOf l0) (natOf l1)); have dq2 := nbits_mono (Nat.div_le_self (natOf l0 / natOf l1) (natOf l2)); have dr2 := nbits_mono (Nat.mod_le (natOf l0 / natOf l1) (natOf l2)); have := nbits_mul (natOf l1) (natOf l0 / natOf l1 % natOf l2); omega
            clear T2
            go_wp2_with fail
            refine (bAdd T1.in_ S8.in_ (by omega)).mono ?_
            rintro e w7 ⟨X9, q9, d9, rfl, S9, _, b7⟩
            have B7 := below_step B6 b7
            have P0 := P0.step b7
            have P1 := P1.step b7
            have P2 := P2.step b7
            have T1 := T1.step b7
            have T6 := T6.step b7
            have S8 := S8.step b7
            clear T1 S8
            go_wp2_with fail
            refine (cmp_same T6.in_ S9.in_ Nat.mod_mul).mono ?_
            rintro e w8 ⟨rfl, b8⟩
            have B8 := below_step B7 b8
            have P0 := P0.step b8
            have P1 := P1.step b8
            have P2 := P2.step b8
            have T6 := T6.step b8
            have S9 := S9.step b8
            go_wp2_with fail
            refine (divWorks_any _).mono ?_
            rintro e w9 ⟨rfl, b9⟩
            have B9 := below_step B8 b9
            go_wp2_with fail
            go_ret
            exact ⟨rfl, B9⟩

end Go.Proofs.Ytjimnepjheppgaa

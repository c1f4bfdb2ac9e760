/- DivMakes' walk: it answers true, and writes nothing that was there. No condition but what the arguments' types give. -/
import Derived.Test.YtjimnepjheppgaaDivB
namespace Go.Proofs.Ytjimnepjheppgaa
open Go.RowKit


set_option maxHeartbeats 2000000 in
set_option maxRecDepth 100000 in
theorem divMakes_walk (A0 : Option Addr) (c0 : Nat) (l0 : List Nat) (A1 : Option Addr) (c1 : Nat) (l1 : List Nat) (w : World) (r0 : Rd .u64 w w.heap.size A0 l0) (y0 : Words l0) (_z0 : l0.length * 8 ≤ 140737488351232) (u0 : l0.length ≤ c0) (r1 : Rd .u64 w w.heap.size A1 l1) (y1 : Words l1) (_z1 : l1.length * 8 ≤ 140737488351232) (u1 : l1.length ≤ c1) :
    Calls Try.prog 4 #[.slice A0 l0.length c0, .slice A1 l1.length c1] w fun e w' => e = .returned (.bool true) ∧ Below w.heap.size w w' := by
  by_cases hv0 : 130 < l0.length
  · have hvd0 : decide (130 < (l0.length : Int)) = true := by simp; omega
    go_enter Try.func4, Try.ntmps4
    go_wp2_with fail
    refine (divWorks_any _).mono ?_
    rintro e w1 ⟨rfl, b1⟩
    have B1 := b1
    go_wp2_with fail
    go_ret
    exact ⟨rfl, B1⟩
  · by_cases hv1 : 130 < l1.length
    · have hvd1 : decide (130 < (l1.length : Int)) = true := by simp; omega
      have hvd0 : decide (130 < (l0.length : Int)) = false := by simp; omega
      go_enter Try.func4, Try.ntmps4
      go_wp2_with fail
      refine (divWorks_any _).mono ?_
      rintro e w1 ⟨rfl, b1⟩
      have B1 := b1
      go_wp2_with fail
      go_ret
      exact ⟨rfl, B1⟩
    · skip
      have hvd0 : decide (130 < (l0.length : Int)) = false := by simp; omega
      have hvd1 : decide (130 < (l1.length : Int)) = false := by simp; omega
      have P0 : RowIs w A0 l0.length c0 l0 := ⟨rfl, y0, by omega, r0, u0⟩
      have P1 : RowIs w A1 l1.length c1 l1 := ⟨rfl, y1, by omega, r1, u1⟩
      clear r0 y0 r1 y1
      by_cases hB0 : natOf l1 = 0
      · skip
        go_enter Try.func4, Try.ntmps4
        go_wp2_with fail
        refine (bDiv_zero P0.in_ P1.in_ hB0 (by omega) (by omega)).mono ?_
        rintro e w1 ⟨X1, d1, Y1, f1, rfl, b1⟩
        have B1 := b1
        have P0 := P0.step b1
        have P1 := P1.step b1
        go_wp2_with fail
        refine (bTrim P1.in_).mono ?_
        rintro e w2 ⟨X2, q2, d2, rfl, S2, _, b2⟩
        have B2 := below_step B1 b2
        have P0 := P0.step b2
        have P1 := P1.step b2
        obtain rfl : q2 = 0 := by have h := S2.1; rw [length_wd, hB0, nbits_zero] at h; omega
        clear S2
        go_wp2_with fail
        refine (divWorks_any _).mono ?_
        rintro e w3 ⟨rfl, b3⟩
        have B3 := below_step B2 b3
        go_wp2_with fail
        go_ret
        exact ⟨rfl, B3⟩
      · skip
        have hB1 : 0 < natOf l1 := Nat.pos_of_ne_zero hB0
        go_enter Try.func4, Try.ntmps4
        go_wp2_with fail
        refine (bDiv_ok P0.in_ P1.in_ hB0 (by omega) (by omega)).mono ?_
        rintro e w1 ⟨X1, q1, d1, Y1, r1, f1, rfl, S1, T1, b1⟩
        have B1 := b1
        have P0 := P0.step b1
        have P1 := P1.step b1
        have hq1 : q1 ≤ 9000 := by have h := S1.1; rw [length_wd] at h; have n0 := P0.in_.bits; have n1 := P1.in_.bits; have dq := nbits_mono (Nat.div_le_self (natOf l0) (natOf l1)); have dr := nbits_mono (Nat.mod_le (natOf l0) (natOf l1)); omega
        have hr1 : r1 ≤ 9000 := by have h := T1.1; rw [length_wd] at h; have n0 := P0.in_.bits; have n1 := P1.in_.bits; have dq := nbits_mono (Nat.div_le_self (natOf l0) (natOf l1)); have dr := nbits_mono (Nat.mod_le (natOf l0) (natOf l1)); omega
        go_wp2_with fail
        refine (bTrim P1.in_).mono ?_
        rintro e w2 ⟨X2, q2, d2, rfl, S2, _, b2⟩
        have B2 := below_step B1 b2
        have P0 := P0.step b2
        have P1 := P1.step b2
        have S1 := S1.step b2
        have T1 := T1.step b2
        have hqz2 : ((q2 : Int) == 0) = false := by have h := S2.1; rw [length_wd] at h; have := (nbits_iff (natOf l1)).2 hB0; simp; omega
        clear S2
        go_wp2_with fail
        refine (bMay S1).mono ?_
        rintro e w3 ⟨rfl, b3⟩
        have B3 := below_step B2 b3
        have P0 := P0.step b3
        have P1 := P1.step b3
        have S1 := S1.step b3
        have T1 := T1.step b3
        go_wp2_with fail
        refine (bMay T1).mono ?_
        rintro e w4 ⟨rfl, b4⟩
        have B4 := below_step B3 b4
        have P0 := P0.step b4
        have P1 := P1.step b4
        have S1 := S1.step b4
        have T1 := T1.step b4
        go_wp2_with fail
        refine (cmp_less T1.in_ P1.in_ (Nat.mod_lt _ hB1)).mono ?_
        rintro e w5 ⟨rfl, b5⟩
        have B5 := below_step B4 b5
        have P0 := P0.step b5
        have P1 := P1.step b5
        have S1 := S1.step b5
        have T1 := T1.step b5
        go_wp2_with fail
        refine (bMul S1.in_ P1.in_ (by omega) (by omega)).mono ?_
        rintro e w6 ⟨X6, q6, d6, rfl, S6, _, b6⟩
        have B6 := below_step B5 b6
        have P0 := P0.step b6
        have P1 := P1.step b6
        have S1 := S1.step b6
        have T1 := T1.step b6
        have hq6 : q6 ≤ 9000 := by have h := S6.1; rw [length_wd] at h; have n0 := P0.in_.bits; have n1 := P1.in_.bits; have dq := nbits_mono (Nat.div_le_self (natOf l0) (natOf l1)); have dr := nbits_mono (Nat.mod_le (natOf l0) (natOf l1)); have := nbits_mul (natOf l0 / natOf l1) (natOf l1); omega
        go_wp2_with fail
        refine (bAdd S6.in_ T1.in_ (by omega)).mono ?_
        rintro e w7 ⟨X7, q7, d7, rfl, S7, _, b7⟩
        have B7 := below_step B6 b7
        have P0 := P0.step b7
        have P1 := P1.step b7
        have S1 := S1.step b7
        have T1 := T1.step b7
        have S6 := S6.step b7
        have S7 := natIs_eq S7 (Nat.div_add_mod' (natOf l0) (natOf l1))
        go_wp2_with fail
        refine (bTrim P0.in_).mono ?_
        rintro e w8 ⟨X8, q8, d8, rfl, S8, _, b8⟩
        have B8 := below_step B7 b8
        have P0 := P0.step b8
        have P1 := P1.step b8
        have S1 := S1.step b8
        have T1 := T1.step b8
        have S6 := S6.step b8
        have S7 := S7.step b8
        go_wp2_with fail
        refine (bSame S7 S8).mono ?_
        rintro e w9 ⟨rfl, b9⟩
        have B9 := below_step B8 b9
        have P0 := P0.step b9
        have P1 := P1.step b9
        have S1 := S1.step b9
        have T1 := T1.step b9
        have S6 := S6.step b9
        have S7 := S7.step b9
        have S8 := S8.step b9
        go_wp2_with fail
        refine (divWorks_any _).mono ?_
        rintro e w10 ⟨rfl, b10⟩
        have B10 := below_step B9 b10
        go_wp2_with fail
        go_ret
        exact ⟨rfl, B10⟩

end Go.Proofs.Ytjimnepjheppgaa

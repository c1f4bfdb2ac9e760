/- DivBack' walk: it answers true, and writes nothing that was there. No condition but what the arguments' types give. -/
import Derived.Test.YtjimnepjheppgaaDivB
namespace Go.Proofs.Ytjimnepjheppgaa
open Go.RowKit


set_option maxHeartbeats 2000000 in
set_option maxRecDepth 100000 in
theorem divBack_walk (A0 : Option Addr) (c0 : Nat) (l0 : List Nat) (A1 : Option Addr) (c1 : Nat) (l1 : List Nat) (A2 : Option Addr) (c2 : Nat) (l2 : List Nat) (w : World) (r0 : Rd .u64 w w.heap.size A0 l0) (y0 : Words l0) (_z0 : l0.length * 8 ≤ 140737488351232) (u0 : l0.length ≤ c0) (r1 : Rd .u64 w w.heap.size A1 l1) (y1 : Words l1) (_z1 : l1.length * 8 ≤ 140737488351232) (u1 : l1.length ≤ c1) (r2 : Rd .u64 w w.heap.size A2 l2) (y2 : Words l2) (_z2 : l2.length * 8 ≤ 140737488351232) (u2 : l2.length ≤ c2) :
    Calls Try.prog 5 #[.slice A0 l0.length c0, .slice A1 l1.length c1, .slice A2 l2.length c2] w fun e w' => e = .returned (.bool true) ∧ Below w.heap.size w w' := by
  by_cases hv0 : 60 < l0.length
  · have hvd0 : decide (60 < (l0.length : Int)) = true := by simp; omega
    go_enter Try.func5, Try.ntmps5
    go_wp2_with fail
    refine (divWorks_any _).mono ?_
    rintro e w1 ⟨rfl, b1⟩
    have B1 := b1
    go_wp2_with fail
    go_ret
    exact ⟨rfl, B1⟩
  · by_cases hv1 : 60 < l1.length
    · have hvd1 : decide (60 < (l1.length : Int)) = true := by simp; omega
      have hvd0 : decide (60 < (l0.length : Int)) = false := by simp; omega
      go_enter Try.func5, Try.ntmps5
      go_wp2_with fail
      refine (divWorks_any _).mono ?_
      rintro e w1 ⟨rfl, b1⟩
      have B1 := b1
      go_wp2_with fail
      go_ret
      exact ⟨rfl, B1⟩
    · by_cases hv2 : 60 < l2.length
      · have hvd2 : decide (60 < (l2.length : Int)) = true := by simp; omega
        have hvd0 : decide (60 < (l0.length : Int)) = false := by simp; omega
        have hvd1 : decide (60 < (l1.length : Int)) = false := by simp; omega
        go_enter Try.func5, Try.ntmps5
        go_wp2_with fail
        refine (divWorks_any _).mono ?_
        rintro e w1 ⟨rfl, b1⟩
        have B1 := b1
        go_wp2_with fail
        go_ret
        exact ⟨rfl, B1⟩
      · skip
        have hvd0 : decide (60 < (l0.length : Int)) = false := by simp; omega
        have hvd1 : decide (60 < (l1.length : Int)) = false := by simp; omega
        have hvd2 : decide (60 < (l2.length : Int)) = false := by simp; omega
        have P0 : RowIs w A0 l0.length c0 l0 := ⟨rfl, y0, by omega, r0, u0⟩
        have P1 : RowIs w A1 l1.length c1 l1 := ⟨rfl, y1, by omega, r1, u1⟩
        have P2 : RowIs w A2 l2.length c2 l2 := ⟨rfl, y2, by omega, r2, u2⟩
        clear r0 y0 r1 y1 r2 y2
        by_cases hB0 : natOf l1 = 0
        · skip
          go_enter Try.func5, Try.ntmps5
          go_wp2_with fail
          refine (bTrim P1.in_).mono ?_
          rintro e w1 ⟨X1, q1, d1, rfl, S1, _, b1⟩
          have B1 := b1
          have P0 := P0.step b1
          have P1 := P1.step b1
          have P2 := P2.step b1
          obtain rfl : q1 = 0 := by have h := S1.1; rw [length_wd, hB0, nbits_zero] at h; omega
          clear S1
          go_wp2_with fail
          refine (divWorks_any _).mono ?_
          rintro e w2 ⟨rfl, b2⟩
          have B2 := below_step B1 b2
          go_wp2_with fail
          go_ret
          exact ⟨rfl, B2⟩
        · skip
          have hB1 : 0 < natOf l1 := Nat.pos_of_ne_zero hB0
          go_enter Try.func5, Try.ntmps5
          go_wp2_with fail
          refine (bTrim P1.in_).mono ?_
          rintro e w1 ⟨X1, q1, d1, rfl, S1, _, b1⟩
          have B1 := b1
          have P0 := P0.step b1
          have P1 := P1.step b1
          have P2 := P2.step b1
          have hqz1 : ((q1 : Int) == 0) = false := by have h := S1.1; rw [length_wd] at h; have := (nbits_iff (natOf l1)).2 hB0; simp; omega
          clear S1
          go_wp2_with fail
          refine (bMod_ok P2.in_ P1.in_ hB0 (by omega) (by omega)).mono ?_
          rintro e w2 ⟨Y2, r2, f2, rfl, T2, b2⟩
          have B2 := below_step B1 b2
          have P0 := P0.step b2
          have P1 := P1.step b2
          have P2 := P2.step b2
          have hr2 : r2 ≤ 9000 := by have h := T2.1; rw [length_wd] at h; have n0 := P0.in_.bits; have n1 := P1.in_.bits; have n2 := P2.in_.bits; have mc := nbits_mono (Nat.mod_le (natOf l2) (natOf l1)); have ma := nbits_mono (Nat.mod_le (natOf l0) (natOf l1)); omega
          go_wp2_with fail
          refine (bMul P0.in_ P1.in_ (by omega) (by omega)).mono ?_
          rintro e w3 ⟨X3, q3, d3, rfl, S3, _, b3⟩
          have B3 := below_step B2 b3
          have P0 := P0.step b3
          have P1 := P1.step b3
          have P2 := P2.step b3
          have T2 := T2.step b3
          have hq3 : q3 ≤ 9000 := by have h := S3.1; rw [length_wd] at h; have n0 := P0.in_.bits; have n1 := P1.in_.bits; have n2 := P2.in_.bits; have := nbits_mul (natOf l0) (natOf l1); omega
          go_wp2_with fail
          refine (bAdd S3.in_ T2.in_ (by omega)).mono ?_
          rintro e w4 ⟨X4, q4, d4, rfl, S4, _, b4⟩
          have B4 := below_step B3 b4
          have P0 := P0.step b4
          have P1 := P1.step b4
          have P2 := P2.step b4
          have T2 := T2.step b4
          have S3 := S3.step b4
          have hq4 : q4 ≤ 9000 := by have h := S4.1; rw [length_wd] at h; have n0 := P0.in_.bits; have n1 := P1.in_.bits; have n2 := P2.in_.bits; have mc := nbits_mono (Nat.mod_le (natOf l2) (natOf l1)); have ma := nbits_mono (Nat.mod_le (natOf l0) (natOf l1)); have := nbits_mul (natOf l0) (natOf l1); have := nbits_add (natOf l0 * natOf l1) (natOf l2 % natOf l1); omega
          clear S3
          go_wp2_with fail
          refine (bDiv_ok S4.in_ P1.in_ hB0 (by omega) (by omega)).mono ?_
          rintro e w5 ⟨X5, q5, d5, Y5, r5, f5, rfl, S5, T5, b5⟩
          have B5 := below_step B4 b5
          have P0 := P0.step b5
          have P1 := P1.step b5
          have P2 := P2.step b5
          have T2 := T2.step b5
          have S4 := S4.step b5
          clear S4
          have S5 := natIs_eq S5 (back_q (natOf l0) (natOf l1) (natOf l2) hB1)
          have T5 := natIs_eq T5 (back_r (natOf l0) (natOf l1) (natOf l2))
          go_wp2_with fail
          refine (bTrim P0.in_).mono ?_
          rintro e w6 ⟨X6, q6, d6, rfl, S6, _, b6⟩
          have B6 := below_step B5 b6
          have P0 := P0.step b6
          have P1 := P1.step b6
          have P2 := P2.step b6
          have T2 := T2.step b6
          have S5 := S5.step b6
          have T5 := T5.step b6
          go_wp2_with fail
          refine (bSame S5 S6).mono ?_
          rintro e w7 ⟨rfl, b7⟩
          have B7 := below_step B6 b7
          have P0 := P0.step b7
          have P1 := P1.step b7
          have P2 := P2.step b7
          have T2 := T2.step b7
          have S5 := S5.step b7
          have T5 := T5.step b7
          have S6 := S6.step b7
          clear S5 S6
          go_wp2_with fail
          refine (bSame T5 T2).mono ?_
          rintro e w8 ⟨rfl, b8⟩
          have B8 := below_step B7 b8
          have P0 := P0.step b8
          have P1 := P1.step b8
          have P2 := P2.step b8
          have T2 := T2.step b8
          have T5 := T5.step b8
          clear T5
          go_wp2_with fail
          refine (bMod_ok P0.in_ P1.in_ hB0 (by omega) (by omega)).mono ?_
          rintro e w9 ⟨Y9, r9, f9, rfl, T9, b9⟩
          have B9 := below_step B8 b9
          have P0 := P0.step b9
          have P1 := P1.step b9
          have P2 := P2.step b9
          have T2 := T2.step b9
          have hr9 : r9 ≤ 9000 := by have h := T9.1; rw [length_wd] at h; have n0 := P0.in_.bits; have n1 := P1.in_.bits; have n2 := P2.in_.bits; have mc := nbits_mono (Nat.mod_le (natOf l2) (natOf l1)); have ma := nbits_mono (Nat.mod_le (natOf l0) (natOf l1)); omega
          go_wp2_with fail
          refine (bAdd P0.in_ P2.in_ (by omega)).mono ?_
          rintro e w10 ⟨X10, q10, d10, rfl, S10, _, b10⟩
          have B10 := below_step B9 b10
          have P0 := P0.step b10
          have P1 := P1.step b10
          have P2 := P2.step b10
          have T2 := T2.step b10
          have T9 := T9.step b10
          have hq10 : q10 ≤ 9000 := by have h := S10.1; rw [length_wd] at h; have n0 := P0.in_.bits; have n1 := P1.in_.bits; have n2 := P2.in_.bits; have := nbits_add (natOf l0) (natOf l2); omega
          go_wp2_with fail
          refine (bMod_ok S10.in_ P1.in_ hB0 (by omega) (by omega)).mono ?_
          rintro e w11 ⟨Y11, r11, f11, rfl, T11, b11⟩
          have B11 := below_step B10 b11
          have P0 := P0.step b11
          have P1 := P1.step b11
          have P2 := P2.step b11
          have T2 := T2.step b11
          have T9 := T9.step b11
          have S10 := S10.step b11
          clear S10
          go_wp2_with fail
          refine (bAdd T9.in_ T2.in_ (by omega)).mono ?_
          rintro e w12 ⟨X12, q12, d12, rfl, S12, _, b12⟩
          have B12 := below_step B11 b12
          have P0 := P0.step b12
          have P1 := P1.step b12
          have P2 := P2.step b12
          have T2 := T2.step b12
          have T9 := T9.step b12
          have T11 := T11.step b12
          have hq12 : q12 ≤ 9000 := by have h := S12.1; rw [length_wd] at h; have n0 := P0.in_.bits; have n1 := P1.in_.bits; have n2 := P2.in_.bits; have mc := nbits_mono (Nat.mod_le (natOf l2) (natOf l1)); have ma := nbits_mono (Nat.mod_le (natOf l0) (natOf l1)); have := nbits_add (natOf l0 % natOf l1) (natOf l2 % natOf l1); omega
          clear T9 T2
          go_wp2_with fail
          refine (bMod_ok S12.in_ P1.in_ hB0 (by omega) (by omega)).mono ?_
          rintro e w13 ⟨Y13, r13, f13, rfl, T13, b13⟩
          have B13 := below_step B12 b13
          have P0 := P0.step b13
          have P1 := P1.step b13
          have P2 := P2.step b13
          have T11 := T11.step b13
          have S12 := S12.step b13
          clear S12
          have T13 := natIs_eq T13 (Nat.add_mod (natOf l0) (natOf l2) (natOf l1)).symm
          go_wp2_with fail
          refine (bSame T11 T13).mono ?_
          rintro e w14 ⟨rfl, b14⟩
          have B14 := below_step B13 b14
          have P0 := P0.step b14
          have P1 := P1.step b14
          have P2 := P2.step b14
          have T11 := T11.step b14
          have T13 := T13.step b14
          go_wp2_with fail
          refine (divWorks_any _).mono ?_
          rintro e w15 ⟨rfl, b15⟩
          have B15 := below_step B14 b15
          go_wp2_with fail
          go_ret
          exact ⟨rfl, B15⟩

end Go.Proofs.Ytjimnepjheppgaa

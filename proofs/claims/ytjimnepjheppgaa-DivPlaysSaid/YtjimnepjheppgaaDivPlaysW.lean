/- DivPlays' walk: it answers true, and writes nothing that was there. No condition but what the arguments' types give. -/
import Derived.Test.YtjimnepjheppgaaDivB
namespace Go.Proofs.Ytjimnepjheppgaa
open Go.RowKit


set_option maxHeartbeats 2000000 in
set_option maxRecDepth 100000 in
theorem divPlays_walk (A0 : Option Addr) (c0 : Nat) (l0 : List Nat) (A1 : Option Addr) (c1 : Nat) (l1 : List Nat) (a2 : Int) (w : World) (r0 : Rd .u64 w w.heap.size A0 l0) (y0 : Words l0) (_z0 : l0.length * 8 ≤ 140737488351232) (u0 : l0.length ≤ c0) (r1 : Rd .u64 w w.heap.size A1 l1) (y1 : Words l1) (_z1 : l1.length * 8 ≤ 140737488351232) (u1 : l1.length ≤ c1) (w2 : (Lit.int .u64 a2).wf = true) :
    Calls Try.prog 3 #[.slice A0 l0.length c0, .slice A1 l1.length c1, .int .u64 a2] w fun e w' => e = .returned (.bool true) ∧ Below w.heap.size w w' := by
  have hx2 : 0 ≤ a2 ∧ a2 ≤ 18446744073709551615 := by simpa [Lit.wf, IntKind.min, IntKind.max, IntKind.signed, IntKind.bits] using w2
  obtain ⟨x, rfl⟩ := Int.eq_ofNat_of_zero_le hx2.1
  have hx : x < 18446744073709551616 := by omega
  obtain ⟨v, hv⟩ : ∃ v, v = natOf l0 % x := ⟨_, rfl⟩
  have HV := Lib.hid hv
  clear hx2 w2 hv
  by_cases hv0 : 24 < l0.length
  · have hvd0 : decide (24 < (l0.length : Int)) = true := by simp; omega
    go_enter Try.func3, Try.ntmps3
    go_wp2_with fail
    refine (divWorks_any _).mono ?_
    rintro e w1 ⟨rfl, b1⟩
    have B1 := b1
    go_wp2_with fail
    go_ret
    exact ⟨rfl, B1⟩
  · by_cases hv1 : 24 < l1.length
    · have hvd1 : decide (24 < (l1.length : Int)) = true := by simp; omega
      have hvd0 : decide (24 < (l0.length : Int)) = false := by simp; omega
      go_enter Try.func3, Try.ntmps3
      go_wp2_with fail
      refine (divWorks_any _).mono ?_
      rintro e w1 ⟨rfl, b1⟩
      have B1 := b1
      go_wp2_with fail
      go_ret
      exact ⟨rfl, B1⟩
    · skip
      have hvd0 : decide (24 < (l0.length : Int)) = false := by simp; omega
      have hvd1 : decide (24 < (l1.length : Int)) = false := by simp; omega
      have P0 : RowIs w A0 l0.length c0 l0 := ⟨rfl, y0, by omega, r0, u0⟩
      have P1 : RowIs w A1 l1.length c1 l1 := ⟨rfl, y1, by omega, r1, u1⟩
      clear r0 y0 r1 y1
      by_cases hB0 : natOf l1 = 0
      · skip
        by_cases hx0 : x = 0
        · subst hx0
          go_enter Try.func3, Try.ntmps3
          go_wp2_with fail
          refine (bCopy (c := c0) P0).mono ?_
          rintro e w1 ⟨X1, d1, rfl, P3, b1⟩
          have B1 := b1
          have P0 := P0.step b1
          have P1 := P1.step b1
          go_wp2_with fail
          refine (bCopy (c := c1) P1).mono ?_
          rintro e w2 ⟨X2, d2, rfl, P4, b2⟩
          have B2 := below_step B1 b2
          have P0 := P0.step b2
          have P1 := P1.step b2
          have P3 := P3.step b2
          go_wp2_with fail
          refine (bDiv_zero P3.in_ P4.in_ hB0 (by omega) (by omega)).mono ?_
          rintro e w3 ⟨X3, d3, Y3, f3, rfl, b3⟩
          have B3 := below_step B2 b3
          have P0 := P0.step b3
          have P1 := P1.step b3
          have P3 := P3.step b3
          have P4 := P4.step b3
          go_wp2_with fail
          refine (bDiv4_zero P1.in_ hB0 (by omega)).mono ?_
          rintro e w4 ⟨X4, d4, Y4, f4, rfl, b4⟩
          have B4 := below_step B3 b4
          have P0 := P0.step b4
          have P1 := P1.step b4
          have P3 := P3.step b4
          have P4 := P4.step b4
          go_wp2_with fail
          refine (bMod_zero P3.in_ P4.in_ hB0 (by omega) (by omega)).mono ?_
          rintro e w5 ⟨Y5, f5, rfl, b5⟩
          have B5 := below_step B4 b5
          have P0 := P0.step b5
          have P1 := P1.step b5
          have P3 := P3.step b5
          have P4 := P4.step b5
          go_wp2_with fail
          refine (same_none _ _ _ _ _).mono ?_
          rintro e w6 ⟨rfl, b6⟩
          have B6 := below_step B5 b6
          have P0 := P0.step b6
          have P1 := P1.step b6
          have P3 := P3.step b6
          have P4 := P4.step b6
          go_wp2_with fail
          refine (same_none _ _ _ _ _).mono ?_
          rintro e w7 ⟨rfl, b7⟩
          have B7 := below_step B6 b7
          have P0 := P0.step b7
          have P1 := P1.step b7
          have P3 := P3.step b7
          have P4 := P4.step b7
          go_wp2_with fail
          refine (same_none _ _ _ _ _).mono ?_
          rintro e w8 ⟨rfl, b8⟩
          have B8 := below_step B7 b8
          have P0 := P0.step b8
          have P1 := P1.step b8
          have P3 := P3.step b8
          have P4 := P4.step b8
          go_wp2_with fail
          refine (bSameRow (c := d1) (c2 := c0) P3 P0).mono ?_
          rintro e w9 ⟨rfl, b9⟩
          have B9 := below_step B8 b9
          have P0 := P0.step b9
          have P1 := P1.step b9
          have P3 := P3.step b9
          have P4 := P4.step b9
          go_wp2_with fail
          refine (bSameRow (c := d2) (c2 := c1) P4 P1).mono ?_
          rintro e w10 ⟨rfl, b10⟩
          have B10 := below_step B9 b10
          have P0 := P0.step b10
          have P1 := P1.step b10
          have P3 := P3.step b10
          have P4 := P4.step b10
          clear P4 P1
          go_wp2_with fail
          refine (bWord_zero P3.in_ (by omega)).mono ?_
          rintro e w21 ⟨X6, d6, rfl, b21⟩
          have B21 := below_step B10 b21
          have P0 := P0.step b21
          have P3 := P3.step b21
          go_wp2_with fail
          refine (div4_word_zero).mono ?_
          rintro e w22 ⟨X7, d7, Y7, f7, rfl, b22⟩
          have B22 := below_step B21 b22
          have P0 := P0.step b22
          have P3 := P3.step b22
          go_wp2_with fail
          refine (bSmall2_0 _ _ _).mono ?_
          rintro e w23 ⟨rfl, b23⟩
          have B23 := below_step B22 b23
          have P0 := P0.step b23
          have P3 := P3.step b23
          go_wp2_with fail
          refine (same_none _ _ _ _ _).mono ?_
          rintro e w24 ⟨rfl, b24⟩
          have B24 := below_step B23 b24
          have P0 := P0.step b24
          have P3 := P3.step b24
          go_wp2_with fail
          refine (divWorks_any _).mono ?_
          rintro e w25 ⟨rfl, b25⟩
          have B25 := below_step B24 b25
          go_wp2_with fail
          go_ret
          exact ⟨rfl, B25⟩
        · have hvl : v < 18446744073709551616 := by rw [HV.out]; exact Nat.lt_trans (Nat.mod_lt _ (by omega)) hx
          go_enter Try.func3, Try.ntmps3
          go_wp2_with fail
          refine (bCopy (c := c0) P0).mono ?_
          rintro e w1 ⟨X1, d1, rfl, P3, b1⟩
          have B1 := b1
          have P0 := P0.step b1
          have P1 := P1.step b1
          go_wp2_with fail
          refine (bCopy (c := c1) P1).mono ?_
          rintro e w2 ⟨X2, d2, rfl, P4, b2⟩
          have B2 := below_step B1 b2
          have P0 := P0.step b2
          have P1 := P1.step b2
          have P3 := P3.step b2
          go_wp2_with fail
          refine (bDiv_zero P3.in_ P4.in_ hB0 (by omega) (by omega)).mono ?_
          rintro e w3 ⟨X3, d3, Y3, f3, rfl, b3⟩
          have B3 := below_step B2 b3
          have P0 := P0.step b3
          have P1 := P1.step b3
          have P3 := P3.step b3
          have P4 := P4.step b3
          go_wp2_with fail
          refine (bDiv4_zero P1.in_ hB0 (by omega)).mono ?_
          rintro e w4 ⟨X4, d4, Y4, f4, rfl, b4⟩
          have B4 := below_step B3 b4
          have P0 := P0.step b4
          have P1 := P1.step b4
          have P3 := P3.step b4
          have P4 := P4.step b4
          go_wp2_with fail
          refine (bMod_zero P3.in_ P4.in_ hB0 (by omega) (by omega)).mono ?_
          rintro e w5 ⟨Y5, f5, rfl, b5⟩
          have B5 := below_step B4 b5
          have P0 := P0.step b5
          have P1 := P1.step b5
          have P3 := P3.step b5
          have P4 := P4.step b5
          go_wp2_with fail
          refine (same_none _ _ _ _ _).mono ?_
          rintro e w6 ⟨rfl, b6⟩
          have B6 := below_step B5 b6
          have P0 := P0.step b6
          have P1 := P1.step b6
          have P3 := P3.step b6
          have P4 := P4.step b6
          go_wp2_with fail
          refine (same_none _ _ _ _ _).mono ?_
          rintro e w7 ⟨rfl, b7⟩
          have B7 := below_step B6 b7
          have P0 := P0.step b7
          have P1 := P1.step b7
          have P3 := P3.step b7
          have P4 := P4.step b7
          go_wp2_with fail
          refine (same_none _ _ _ _ _).mono ?_
          rintro e w8 ⟨rfl, b8⟩
          have B8 := below_step B7 b8
          have P0 := P0.step b8
          have P1 := P1.step b8
          have P3 := P3.step b8
          have P4 := P4.step b8
          go_wp2_with fail
          refine (bSameRow (c := d1) (c2 := c0) P3 P0).mono ?_
          rintro e w9 ⟨rfl, b9⟩
          have B9 := below_step B8 b9
          have P0 := P0.step b9
          have P1 := P1.step b9
          have P3 := P3.step b9
          have P4 := P4.step b9
          go_wp2_with fail
          refine (bSameRow (c := d2) (c2 := c1) P4 P1).mono ?_
          rintro e w10 ⟨rfl, b10⟩
          have B10 := below_step B9 b10
          have P0 := P0.step b10
          have P1 := P1.step b10
          have P3 := P3.step b10
          have P4 := P4.step b10
          clear P4 P1
          go_wp2_with fail
          refine (bWord_v P3.in_ (by omega) x v (by omega) (by omega) HV.out).mono ?_
          rintro e w21 ⟨X6, q6, d6, rfl, S6, b21⟩
          have B21 := below_step B10 b21
          have P0 := P0.step b21
          have P3 := P3.step b21
          go_wp2_with fail
          refine (div4_word_ok (x := x) P0.in_ (by omega) (by omega) (by omega)).mono ?_
          rintro e w22 ⟨X7, q7, d7, Y7, r7, f7, rfl, S7, T7, b22⟩
          have B22 := below_step B21 b22
          have P0 := P0.step b22
          have P3 := P3.step b22
          have S6 := S6.step b22
          go_wp2_with fail
          refine (bSmall2_v T7.in_ v HV.out hvl).mono ?_
          rintro e w23 ⟨rfl, b23⟩
          have B23 := below_step B22 b23
          have P0 := P0.step b23
          have P3 := P3.step b23
          have S6 := S6.step b23
          have S7 := S7.step b23
          have T7 := T7.step b23
          clear T7
          go_wp2_with fail
          refine (bSame S6 S7).mono ?_
          rintro e w24 ⟨rfl, b24⟩
          have B24 := below_step B23 b24
          have P0 := P0.step b24
          have P3 := P3.step b24
          have S6 := S6.step b24
          have S7 := S7.step b24
          go_wp2_with fail
          refine (divWorks_any _).mono ?_
          rintro e w25 ⟨rfl, b25⟩
          have B25 := below_step B24 b25
          go_wp2_with fail
          go_ret
          exact ⟨rfl, B25⟩
      · skip
        by_cases hx0 : x = 0
        · subst hx0
          go_enter Try.func3, Try.ntmps3
          go_wp2_with fail
          refine (bCopy (c := c0) P0).mono ?_
          rintro e w1 ⟨X1, d1, rfl, P3, b1⟩
          have B1 := b1
          have P0 := P0.step b1
          have P1 := P1.step b1
          go_wp2_with fail
          refine (bCopy (c := c1) P1).mono ?_
          rintro e w2 ⟨X2, d2, rfl, P4, b2⟩
          have B2 := below_step B1 b2
          have P0 := P0.step b2
          have P1 := P1.step b2
          have P3 := P3.step b2
          go_wp2_with fail
          refine (bDiv_ok P3.in_ P4.in_ hB0 (by omega) (by omega)).mono ?_
          rintro e w3 ⟨X3, q3, d3, Y3, r3, f3, rfl, S3, T3, b3⟩
          have B3 := below_step B2 b3
          have P0 := P0.step b3
          have P1 := P1.step b3
          have P3 := P3.step b3
          have P4 := P4.step b3
          go_wp2_with fail
          refine (bDiv4_ok P0.in_ P1.in_ hB0 (by omega) (by omega)).mono ?_
          rintro e w4 ⟨X4, q4, d4, Y4, r4, f4, rfl, S4, T4, b4⟩
          have B4 := below_step B3 b4
          have P0 := P0.step b4
          have P1 := P1.step b4
          have P3 := P3.step b4
          have P4 := P4.step b4
          have S3 := S3.step b4
          have T3 := T3.step b4
          go_wp2_with fail
          refine (bMod_ok P3.in_ P4.in_ hB0 (by omega) (by omega)).mono ?_
          rintro e w5 ⟨Y5, r5, f5, rfl, T5, b5⟩
          have B5 := below_step B4 b5
          have P0 := P0.step b5
          have P1 := P1.step b5
          have P3 := P3.step b5
          have P4 := P4.step b5
          have S3 := S3.step b5
          have T3 := T3.step b5
          have S4 := S4.step b5
          have T4 := T4.step b5
          go_wp2_with fail
          refine (bSame S3 S4).mono ?_
          rintro e w6 ⟨rfl, b6⟩
          have B6 := below_step B5 b6
          have P0 := P0.step b6
          have P1 := P1.step b6
          have P3 := P3.step b6
          have P4 := P4.step b6
          have S3 := S3.step b6
          have T3 := T3.step b6
          have S4 := S4.step b6
          have T4 := T4.step b6
          have T5 := T5.step b6
          clear S3 S4
          go_wp2_with fail
          refine (bSame T3 T4).mono ?_
          rintro e w7 ⟨rfl, b7⟩
          have B7 := below_step B6 b7
          have P0 := P0.step b7
          have P1 := P1.step b7
          have P3 := P3.step b7
          have P4 := P4.step b7
          have T3 := T3.step b7
          have T4 := T4.step b7
          have T5 := T5.step b7
          clear T3
          go_wp2_with fail
          refine (bSame T5 T4).mono ?_
          rintro e w8 ⟨rfl, b8⟩
          have B8 := below_step B7 b8
          have P0 := P0.step b8
          have P1 := P1.step b8
          have P3 := P3.step b8
          have P4 := P4.step b8
          have T4 := T4.step b8
          have T5 := T5.step b8
          clear T5 T4
          go_wp2_with fail
          refine (bSameRow (c := d1) (c2 := c0) P3 P0).mono ?_
          rintro e w9 ⟨rfl, b9⟩
          have B9 := below_step B8 b9
          have P0 := P0.step b9
          have P1 := P1.step b9
          have P3 := P3.step b9
          have P4 := P4.step b9
          go_wp2_with fail
          refine (bSameRow (c := d2) (c2 := c1) P4 P1).mono ?_
          rintro e w10 ⟨rfl, b10⟩
          have B10 := below_step B9 b10
          have P0 := P0.step b10
          have P1 := P1.step b10
          have P3 := P3.step b10
          have P4 := P4.step b10
          clear P4 P1
          go_wp2_with fail
          refine (bWord_zero P3.in_ (by omega)).mono ?_
          rintro e w21 ⟨X6, d6, rfl, b21⟩
          have B21 := below_step B10 b21
          have P0 := P0.step b21
          have P3 := P3.step b21
          go_wp2_with fail
          refine (div4_word_zero).mono ?_
          rintro e w22 ⟨X7, d7, Y7, f7, rfl, b22⟩
          have B22 := below_step B21 b22
          have P0 := P0.step b22
          have P3 := P3.step b22
          go_wp2_with fail
          refine (bSmall2_0 _ _ _).mono ?_
          rintro e w23 ⟨rfl, b23⟩
          have B23 := below_step B22 b23
          have P0 := P0.step b23
          have P3 := P3.step b23
          go_wp2_with fail
          refine (same_none _ _ _ _ _).mono ?_
          rintro e w24 ⟨rfl, b24⟩
          have B24 := below_step B23 b24
          have P0 := P0.step b24
          have P3 := P3.step b24
          go_wp2_with fail
          refine (divWorks_any _).mono ?_
          rintro e w25 ⟨rfl, b25⟩
          have B25 := below_step B24 b25
          go_wp2_with fail
          go_ret
          exact ⟨rfl, B25⟩
        · have hvl : v < 18446744073709551616 := by rw [HV.out]; exact Nat.lt_trans (Nat.mod_lt _ (by omega)) hx
          go_enter Try.func3, Try.ntmps3
          go_wp2_with fail
          refine (bCopy (c := c0) P0).mono ?_
          rintro e w1 ⟨X1, d1, rfl, P3, b1⟩
          have B1 := b1
          have P0 := P0.step b1
          have P1 := P1.step b1
          go_wp2_with fail
          refine (bCopy (c := c1) P1).mono ?_
          rintro e w2 ⟨X2, d2, rfl, P4, b2⟩
          have B2 := below_step B1 b2
          have P0 := P0.step b2
          have P1 := P1.step b2
          have P3 := P3.step b2
          go_wp2_with fail
          refine (bDiv_ok P3.in_ P4.in_ hB0 (by omega) (by omega)).mono ?_
          rintro e w3 ⟨X3, q3, d3, Y3, r3, f3, rfl, S3, T3, b3⟩
          have B3 := below_step B2 b3
          have P0 := P0.step b3
          have P1 := P1.step b3
          have P3 := P3.step b3
          have P4 := P4.step b3
          go_wp2_with fail
          refine (bDiv4_ok P0.in_ P1.in_ hB0 (by omega) (by omega)).mono ?_
          rintro e w4 ⟨X4, q4, d4, Y4, r4, f4, rfl, S4, T4, b4⟩
          have B4 := below_step B3 b4
          have P0 := P0.step b4
          have P1 := P1.step b4
          have P3 := P3.step b4
          have P4 := P4.step b4
          have S3 := S3.step b4
          have T3 := T3.step b4
          go_wp2_with fail
          refine (bMod_ok P3.in_ P4.in_ hB0 (by omega) (by omega)).mono ?_
          rintro e w5 ⟨Y5, r5, f5, rfl, T5, b5⟩
          have B5 := below_step B4 b5
          have P0 := P0.step b5
          have P1 := P1.step b5
          have P3 := P3.step b5
          have P4 := P4.step b5
          have S3 := S3.step b5
          have T3 := T3.step b5
          have S4 := S4.step b5
          have T4 := T4.step b5
          go_wp2_with fail
          refine (bSame S3 S4).mono ?_
          rintro e w6 ⟨rfl, b6⟩
          have B6 := below_step B5 b6
          have P0 := P0.step b6
          have P1 := P1.step b6
          have P3 := P3.step b6
          have P4 := P4.step b6
          have S3 := S3.step b6
          have T3 := T3.step b6
          have S4 := S4.step b6
          have T4 := T4.step b6
          have T5 := T5.step b6
          clear S3 S4
          go_wp2_with fail
          refine (bSame T3 T4).mono ?_
          rintro e w7 ⟨rfl, b7⟩
          have B7 := below_step B6 b7
          have P0 := P0.step b7
          have P1 := P1.step b7
          have P3 := P3.step b7
          have P4 := P4.step b7
          have T3 := T3.step b7
          have T4 := T4.step b7
          have T5 := T5.step b7
          clear T3
          go_wp2_with fail
          refine (bSame T5 T4).mono ?_
          rintro e w8 ⟨rfl, b8⟩
          have B8 := below_step B7 b8
          have P0 := P0.step b8
          have P1 := P1.step b8
          have P3 := P3.step b8
          have P4 := P4.step b8
          have T4 := T4.step b8
          have T5 := T5.step b8
          clear T5 T4
          go_wp2_with fail
          refine (bSameRow (c := d1) (c2 := c0) P3 P0).mono ?_
          rintro e w9 ⟨rfl, b9⟩
          have B9 := below_step B8 b9
          have P0 := P0.step b9
          have P1 := P1.step b9
          have P3 := P3.step b9
          have P4 := P4.step b9
          go_wp2_with fail
          refine (bSameRow (c := d2) (c2 := c1) P4 P1).mono ?_
          rintro e w10 ⟨rfl, b10⟩
          have B10 := below_step B9 b10
          have P0 := P0.step b10
          have P1 := P1.step b10
          have P3 := P3.step b10
          have P4 := P4.step b10
          clear P4 P1
          go_wp2_with fail
          refine (bWord_v P3.in_ (by omega) x v (by omega) (by omega) HV.out).mono ?_
          rintro e w21 ⟨X6, q6, d6, rfl, S6, b21⟩
          have B21 := below_step B10 b21
          have P0 := P0.step b21
          have P3 := P3.step b21
          go_wp2_with fail
          refine (div4_word_ok (x := x) P0.in_ (by omega) (by omega) (by omega)).mono ?_
          rintro e w22 ⟨X7, q7, d7, Y7, r7, f7, rfl, S7, T7, b22⟩
          have B22 := below_step B21 b22
          have P0 := P0.step b22
          have P3 := P3.step b22
          have S6 := S6.step b22
          go_wp2_with fail
          refine (bSmall2_v T7.in_ v HV.out hvl).mono ?_
          rintro e w23 ⟨rfl, b23⟩
          have B23 := below_step B22 b23
          have P0 := P0.step b23
          have P3 := P3.step b23
          have S6 := S6.step b23
          have S7 := S7.step b23
          have T7 := T7.step b23
          clear T7
          go_wp2_with fail
          refine (bSame S6 S7).mono ?_
          rintro e w24 ⟨rfl, b24⟩
          have B24 := below_step B23 b24
          have P0 := P0.step b24
          have P3 := P3.step b24
          have S6 := S6.step b24
          have S7 := S7.step b24
          go_wp2_with fail
          refine (divWorks_any _).mono ?_
          rintro e w25 ⟨rfl, b25⟩
          have B25 := below_step B24 b25
          go_wp2_with fail
          go_ret
          exact ⟨rfl, B25⟩

end Go.Proofs.Ytjimnepjheppgaa

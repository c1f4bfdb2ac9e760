/- DivNear' walk: it answers true, and writes nothing that was there. No condition but what the arguments' types give. -/
import Derived.Test.YtjimnepjheppgaaDivB
namespace Go.Proofs.Ytjimnepjheppgaa
open Go.RowKit


set_option maxHeartbeats 2000000 in
set_option maxRecDepth 100000 in
theorem divNear_walk (A0 : Option Addr) (c0 : Nat) (l0 : List Nat) (A1 : Option Addr) (c1 : Nat) (l1 : List Nat) (a2 : Int) (w : World) (r0 : Rd .u64 w w.heap.size A0 l0) (y0 : Words l0) (_z0 : l0.length * 8 ≤ 140737488351232) (u0 : l0.length ≤ c0) (r1 : Rd .u64 w w.heap.size A1 l1) (y1 : Words l1) (_z1 : l1.length * 8 ≤ 140737488351232) (u1 : l1.length ≤ c1) (w2 : (Lit.int .i8 a2).wf = true) :
    Calls Try.prog 6 #[.slice A0 l0.length c0, .slice A1 l1.length c1, .int .i8 a2] w fun e w' => e = .returned (.bool true) ∧ Below w.heap.size w w' := by
  have hx2 : -128 ≤ a2 ∧ a2 ≤ 127 := by simpa [Lit.wf, IntKind.min, IntKind.max, IntKind.signed, IntKind.bits] using w2
  clear w2
  by_cases hv0 : 40 < l0.length
  · have hvd0 : decide (40 < (l0.length : Int)) = true := by simp; omega
    go_enter Try.func6, Try.ntmps6
    go_wp2_with fail
    refine (divWorks_any _).mono ?_
    rintro e w1 ⟨rfl, b1⟩
    have B1 := b1
    go_wp2_with fail
    go_ret
    exact ⟨rfl, B1⟩
  · by_cases hv1 : 40 < l1.length
    · have hvd1 : decide (40 < (l1.length : Int)) = true := by simp; omega
      have hvd0 : decide (40 < (l0.length : Int)) = false := by simp; omega
      go_enter Try.func6, Try.ntmps6
      go_wp2_with fail
      refine (divWorks_any _).mono ?_
      rintro e w1 ⟨rfl, b1⟩
      have B1 := b1
      go_wp2_with fail
      go_ret
      exact ⟨rfl, B1⟩
    · skip
      have hvd0 : decide (40 < (l0.length : Int)) = false := by simp; omega
      have hvd1 : decide (40 < (l1.length : Int)) = false := by simp; omega
      have P0 : RowIs w A0 l0.length c0 l0 := ⟨rfl, y0, by omega, r0, u0⟩
      have P1 : RowIs w A1 l1.length c1 l1 := ⟨rfl, y1, by omega, r1, u1⟩
      clear r0 y0 r1 y1
      by_cases hB0 : natOf l1 = 0
      · skip
        go_enter Try.func6, Try.ntmps6
        go_wp2_with fail
        refine (bTrim P1.in_).mono ?_
        rintro e w1 ⟨X1, q1, d1, rfl, S1, _, b1⟩
        have B1 := b1
        have P0 := P0.step b1
        have P1 := P1.step b1
        obtain rfl : q1 = 0 := by have h := S1.1; rw [length_wd, hB0, nbits_zero] at h; omega
        clear S1
        go_wp2_with fail
        refine (divWorks_any _).mono ?_
        rintro e w2 ⟨rfl, b2⟩
        have B2 := below_step B1 b2
        go_wp2_with fail
        go_ret
        exact ⟨rfl, B2⟩
      · skip
        have hB1 : 0 < natOf l1 := Nat.pos_of_ne_zero hB0
        by_cases hneg : a2 < 0
        · obtain ⟨t, ht⟩ := Int.eq_ofNat_of_zero_le (show 0 ≤ -a2 by omega)
          obtain rfl : a2 = -(t : Int) := by omega
          have ht2 : t ≤ 128 := by omega
          have hmx : max (-(t : Int)) (t : Int) = (t : Int) := by omega
          have ht0 : 0 < t := by omega
          clear ht hx2
          by_cases hlt : natOf l0 * natOf l1 < t
          · skip
            go_enter Try.func6, Try.ntmps6
            go_wp2_with fail
            refine (bTrim P1.in_).mono ?_
            rintro e w1 ⟨X1, q1, d1, rfl, S1, _, b1⟩
            have B1 := b1
            have P0 := P0.step b1
            have P1 := P1.step b1
            have hqz1 : ((q1 : Int) == 0) = false := by have h := S1.1; rw [length_wd] at h; have := (nbits_iff (natOf l1)).2 hB0; simp; omega
            clear S1
            go_wp2_with fail
            refine (bMul P0.in_ P1.in_ (by omega) (by omega)).mono ?_
            rintro e w2 ⟨X2, q2, d2, rfl, S2, _, b2⟩
            have B2 := below_step B1 b2
            have P0 := P0.step b2
            have P1 := P1.step b2
            have hq2 : q2 ≤ 9000 := by have h := S2.1; rw [length_wd] at h; have n0 := P0.in_.bits; have n1 := P1.in_.bits; have mp := nbits_mul (natOf l0) (natOf l1); omega
            go_wp2_with fail
            refine (bOf w2 t (by omega)).mono ?_
            rintro e w3 ⟨X3, q3, d3, rfl, S3, _, b3⟩
            have B3 := below_step B2 b3
            have P0 := P0.step b3
            have P1 := P1.step b3
            have S2 := S2.step b3
            have hq3 : q3 ≤ 9000 := by have h := S3.1; rw [length_wd] at h; have := nbits_of_lt t 8 (by omega); omega
            go_wp2_with fail
            refine (bAdd S2.in_ S3.in_ (by omega)).mono ?_
            rintro e w4 ⟨X4, q4, d4, rfl, S4, _, b4⟩
            have B4 := below_step B3 b4
            have P0 := P0.step b4
            have P1 := P1.step b4
            have S2 := S2.step b4
            have S3 := S3.step b4
            have hq4 : q4 ≤ 9000 := by have h := S4.1; rw [length_wd] at h; have n0 := P0.in_.bits; have n1 := P1.in_.bits; have mp := nbits_mul (natOf l0) (natOf l1); have := nbits_of_lt t 8 (by omega); have := nbits_add (natOf l0 * natOf l1) t; omega
            go_wp2_with fail
            refine (bSub_no S2.in_ S3.in_ hlt).mono ?_
            rintro e w5 ⟨X5, d5, rfl, b5⟩
            have B5 := below_step B4 b5
            have P0 := P0.step b5
            have P1 := P1.step b5
            have S2 := S2.step b5
            have S3 := S3.step b5
            have S4 := S4.step b5
            go_wp2_with fail
            refine (divWorks_any _).mono ?_
            rintro e w6 ⟨rfl, b6⟩
            have B6 := below_step B5 b6
            go_wp2_with fail
            go_ret
            exact ⟨rfl, B6⟩
          · skip
            go_enter Try.func6, Try.ntmps6
            go_wp2_with fail
            refine (bTrim P1.in_).mono ?_
            rintro e w1 ⟨X1, q1, d1, rfl, S1, _, b1⟩
            have B1 := b1
            have P0 := P0.step b1
            have P1 := P1.step b1
            have hqz1 : ((q1 : Int) == 0) = false := by have h := S1.1; rw [length_wd] at h; have := (nbits_iff (natOf l1)).2 hB0; simp; omega
            clear S1
            go_wp2_with fail
            refine (bMul P0.in_ P1.in_ (by omega) (by omega)).mono ?_
            rintro e w2 ⟨X2, q2, d2, rfl, S2, _, b2⟩
            have B2 := below_step B1 b2
            have P0 := P0.step b2
            have P1 := P1.step b2
            have hq2 : q2 ≤ 9000 := by have h := S2.1; rw [length_wd] at h; have n0 := P0.in_.bits; have n1 := P1.in_.bits; have mp := nbits_mul (natOf l0) (natOf l1); omega
            go_wp2_with fail
            refine (bOf w2 t (by omega)).mono ?_
            rintro e w3 ⟨X3, q3, d3, rfl, S3, _, b3⟩
            have B3 := below_step B2 b3
            have P0 := P0.step b3
            have P1 := P1.step b3
            have S2 := S2.step b3
            have hq3 : q3 ≤ 9000 := by have h := S3.1; rw [length_wd] at h; have := nbits_of_lt t 8 (by omega); omega
            go_wp2_with fail
            refine (bAdd S2.in_ S3.in_ (by omega)).mono ?_
            rintro e w4 ⟨X4, q4, d4, rfl, S4, _, b4⟩
            have B4 := below_step B3 b4
            have P0 := P0.step b4
            have P1 := P1.step b4
            have S2 := S2.step b4
            have S3 := S3.step b4
            have hq4 : q4 ≤ 9000 := by have h := S4.1; rw [length_wd] at h; have n0 := P0.in_.bits; have n1 := P1.in_.bits; have mp := nbits_mul (natOf l0) (natOf l1); have := nbits_of_lt t 8 (by omega); have := nbits_add (natOf l0 * natOf l1) t; omega
            go_wp2_with fail
            refine (sub_is S2.in_ S3.in_ (Nat.not_lt.1 hlt)).mono ?_
            rintro e w5 ⟨X5, q5, d5, rfl, S5, b5⟩
            have B5 := below_step B4 b5
            have P0 := P0.step b5
            have P1 := P1.step b5
            have S2 := S2.step b5
            have S3 := S3.step b5
            have S4 := S4.step b5
            have hq5 : q5 ≤ 9000 := by have h := S5.1; rw [length_wd] at h; have n0 := P0.in_.bits; have n1 := P1.in_.bits; have mp := nbits_mul (natOf l0) (natOf l1); have := nbits_mono (Nat.sub_le (natOf l0 * natOf l1) t); omega
            clear S4
            clear S2 S3
            go_wp2_with fail
            refine (bDiv_ok S5.in_ P1.in_ hB0 (by omega) (by omega)).mono ?_
            rintro e w6 ⟨X6, q6, d6, Y6, r6, f6, rfl, S6, T6, b6⟩
            have B6 := below_step B5 b6
            have P0 := P0.step b6
            have P1 := P1.step b6
            have S5 := S5.step b6
            have hq6 : q6 ≤ 9000 := by have h := S6.1; rw [length_wd] at h; have n0 := P0.in_.bits; have n1 := P1.in_.bits; have mp := nbits_mul (natOf l0) (natOf l1); have := nbits_mono (Nat.sub_le (natOf l0 * natOf l1) t); have dq := nbits_mono (Nat.div_le_self ((natOf l0 * natOf l1 - t)) (natOf l1)); have dr := nbits_mono (Nat.mod_le ((natOf l0 * natOf l1 - t)) (natOf l1)); omega
            have hr6 : r6 ≤ 9000 := by have h := T6.1; rw [length_wd] at h; have n0 := P0.in_.bits; have n1 := P1.in_.bits; have mp := nbits_mul (natOf l0) (natOf l1); have := nbits_mono (Nat.sub_le (natOf l0 * natOf l1) t); have dq := nbits_mono (Nat.div_le_self ((natOf l0 * natOf l1 - t)) (natOf l1)); have dr := nbits_mono (Nat.mod_le ((natOf l0 * natOf l1 - t)) (natOf l1)); omega
            go_wp2_with fail
            refine (cmp_less T6.in_ P1.in_ (Nat.mod_lt _ hB1)).mono ?_
            rintro e w7 ⟨rfl, b7⟩
            have B7 := below_step B6 b7
            have P0 := P0.step b7
            have P1 := P1.step b7
            have S5 := S5.step b7
            have S6 := S6.step b7
            have T6 := T6.step b7
            go_wp2_with fail
            refine (bMul S6.in_ P1.in_ (by omega) (by omega)).mono ?_
            rintro e w8 ⟨X8, q8, d8, rfl, S8, _, b8⟩
            have B8 := below_step B7 b8
            have P0 := P0.step b8
            have P1 := P1.step b8
            have S5 := S5.step b8
            have S6 := S6.step b8
            have T6 := T6.step b8
            have hq8 : q8 ≤ 9000 := by have h := S8.1; rw [length_wd] at h; have n0 := P0.in_.bits; have n1 := P1.in_.bits; have mp := nbits_mul (natOf l0) (natOf l1); have := nbits_mono (Nat.sub_le (natOf l0 * natOf l1) t); have dq := nbits_mono (Nat.div_le_self ((natOf l0 * natOf l1 - t)) (natOf l1)); have dr := nbits_mono (Nat.mod_le ((natOf l0 * natOf l1 - t)) (natOf l1)); have := nbits_mul (((natOf l0 * natOf l1 - t)) / natOf l1) (natOf l1); omega
            go_wp2_with fail
            refine (bAdd S8.in_ T6.in_ (by omega)).mono ?_
            rintro e w9 ⟨X9, q9, d9, rfl, S9, _, b9⟩
            have B9 := below_step B8 b9
            have P0 := P0.step b9
            have P1 := P1.step b9
            have S5 := S5.step b9
            have S6 := S6.step b9
            have T6 := T6.step b9
            have S8 := S8.step b9
            have S9 := natIs_eq S9 (Nat.div_add_mod' ((natOf l0 * natOf l1 - t)) (natOf l1))
            go_wp2_with fail
            refine (bSame S9 S5).mono ?_
            rintro e w10 ⟨rfl, b10⟩
            have B10 := below_step B9 b10
            have P0 := P0.step b10
            have P1 := P1.step b10
            have S5 := S5.step b10
            have S6 := S6.step b10
            have T6 := T6.step b10
            have S8 := S8.step b10
            have S9 := S9.step b10
            go_wp2_with fail
            refine (divWorks_any _).mono ?_
            rintro e w11 ⟨rfl, b11⟩
            have B11 := below_step B10 b11
            go_wp2_with fail
            go_ret
            exact ⟨rfl, B11⟩
        · obtain ⟨t, rfl⟩ := Int.eq_ofNat_of_zero_le (show 0 ≤ a2 by omega)
          have ht2 : t ≤ 128 := by omega
          have hmx : max (t : Int) (-(t : Int)) = (t : Int) := by omega
          have hnd : decide ((t : Int) < 0) = false := by simp
          clear hx2 hneg
          go_enter Try.func6, Try.ntmps6
          go_wp2_with fail
          refine (bTrim P1.in_).mono ?_
          rintro e w1 ⟨X1, q1, d1, rfl, S1, _, b1⟩
          have B1 := b1
          have P0 := P0.step b1
          have P1 := P1.step b1
          have hqz1 : ((q1 : Int) == 0) = false := by have h := S1.1; rw [length_wd] at h; have := (nbits_iff (natOf l1)).2 hB0; simp; omega
          clear S1
          go_wp2_with fail
          refine (bMul P0.in_ P1.in_ (by omega) (by omega)).mono ?_
          rintro e w2 ⟨X2, q2, d2, rfl, S2, _, b2⟩
          have B2 := below_step B1 b2
          have P0 := P0.step b2
          have P1 := P1.step b2
          have hq2 : q2 ≤ 9000 := by have h := S2.1; rw [length_wd] at h; have n0 := P0.in_.bits; have n1 := P1.in_.bits; have mp := nbits_mul (natOf l0) (natOf l1); omega
          go_wp2_with fail
          refine (bOf w2 t (by omega)).mono ?_
          rintro e w3 ⟨X3, q3, d3, rfl, S3, _, b3⟩
          have B3 := below_step B2 b3
          have P0 := P0.step b3
          have P1 := P1.step b3
          have S2 := S2.step b3
          have hq3 : q3 ≤ 9000 := by have h := S3.1; rw [length_wd] at h; have := nbits_of_lt t 8 (by omega); omega
          go_wp2_with fail
          refine (bAdd S2.in_ S3.in_ (by omega)).mono ?_
          rintro e w4 ⟨X4, q4, d4, rfl, S4, _, b4⟩
          have B4 := below_step B3 b4
          have P0 := P0.step b4
          have P1 := P1.step b4
          have S2 := S2.step b4
          have S3 := S3.step b4
          have hq4 : q4 ≤ 9000 := by have h := S4.1; rw [length_wd] at h; have n0 := P0.in_.bits; have n1 := P1.in_.bits; have mp := nbits_mul (natOf l0) (natOf l1); have := nbits_of_lt t 8 (by omega); have := nbits_add (natOf l0 * natOf l1) t; omega
          clear S2 S3
          go_wp2_with fail
          refine (bDiv_ok S4.in_ P1.in_ hB0 (by omega) (by omega)).mono ?_
          rintro e w5 ⟨X6, q6, d6, Y6, r6, f6, rfl, S6, T6, b5⟩
          have B5 := below_step B4 b5
          have P0 := P0.step b5
          have P1 := P1.step b5
          have S4 := S4.step b5
          have hq6 : q6 ≤ 9000 := by have h := S6.1; rw [length_wd] at h; have n0 := P0.in_.bits; have n1 := P1.in_.bits; have mp := nbits_mul (natOf l0) (natOf l1); have := nbits_of_lt t 8 (by omega); have := nbits_add (natOf l0 * natOf l1) t; have dq := nbits_mono (Nat.div_le_self (natOf l0 * natOf l1 + t) (natOf l1)); have dr := nbits_mono (Nat.mod_le (natOf l0 * natOf l1 + t) (natOf l1)); omega
          have hr6 : r6 ≤ 9000 := by have h := T6.1; rw [length_wd] at h; have n0 := P0.in_.bits; have n1 := P1.in_.bits; have mp := nbits_mul (natOf l0) (natOf l1); have := nbits_of_lt t 8 (by omega); have := nbits_add (natOf l0 * natOf l1) t; have dq := nbits_mono (Nat.div_le_self (natOf l0 * natOf l1 + t) (natOf l1)); have dr := nbits_mono (Nat.mod_le (natOf l0 * natOf l1 + t) (natOf l1)); omega
          go_wp2_with fail
          refine (cmp_less T6.in_ P1.in_ (Nat.mod_lt _ hB1)).mono ?_
          rintro e w6 ⟨rfl, b6⟩
          have B6 := below_step B5 b6
          have P0 := P0.step b6
          have P1 := P1.step b6
          have S4 := S4.step b6
          have S6 := S6.step b6
          have T6 := T6.step b6
          go_wp2_with fail
          refine (bMul S6.in_ P1.in_ (by omega) (by omega)).mono ?_
          rintro e w7 ⟨X8, q8, d8, rfl, S8, _, b7⟩
          have B7 := below_step B6 b7
          have P0 := P0.step b7
          have P1 := P1.step b7
          have S4 := S4.step b7
          have S6 := S6.step b7
          have T6 := T6.step b7
          have hq8 : q8 ≤ 9000 := by have h := S8.1; rw [length_wd] at h; have n0 := P0.in_.bits; have n1 := P1.in_.bits; have mp := nbits_mul (natOf l0) (natOf l1); have := nbits_of_lt t 8 (by omega); have := nbits_add (natOf l0 * natOf l1) t; have dq := nbits_mono (Nat.div_le_self (natOf l0 * natOf l1 + t) (natOf l1)); have dr := nbits_mono (Nat.mod_le (natOf l0 * natOf l1 + t) (natOf l1)); have := nbits_mul ((natOf l0 * natOf l1 + t) / natOf l1) (natOf l1); omega
          go_wp2_with fail
          refine (bAdd S8.in_ T6.in_ (by omega)).mono ?_
          rintro e w8 ⟨X9, q9, d9, rfl, S9, _, b8⟩
          have B8 := below_step B7 b8
          have P0 := P0.step b8
          have P1 := P1.step b8
          have S4 := S4.step b8
          have S6 := S6.step b8
          have T6 := T6.step b8
          have S8 := S8.step b8
          have S9 := natIs_eq S9 (Nat.div_add_mod' (natOf l0 * natOf l1 + t) (natOf l1))
          go_wp2_with fail
          refine (bSame S9 S4).mono ?_
          rintro e w9 ⟨rfl, b9⟩
          have B9 := below_step B8 b9
          have P0 := P0.step b9
          have P1 := P1.step b9
          have S4 := S4.step b9
          have S6 := S6.step b9
          have T6 := T6.step b9
          have S8 := S8.step b9
          have S9 := S9.step b9
          go_wp2_with fail
          refine (divWorks_any _).mono ?_
          rintro e w10 ⟨rfl, b10⟩
          have B10 := below_step B9 b10
          go_wp2_with fail
          go_ret
          exact ⟨rfl, B10⟩

end Go.Proofs.Ytjimnepjheppgaa

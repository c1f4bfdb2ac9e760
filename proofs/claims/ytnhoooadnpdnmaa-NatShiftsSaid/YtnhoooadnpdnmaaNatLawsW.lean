/- NatLaws' walk: it answers true, and writes nothing that was there. No condition but what the arguments' types give. -/
import Derived.Test.YtnhoooadnpdnmaaNatB
namespace Go.Proofs.Ytnhoooadnpdnmaa
open Go.RowKit

theorem shlS_nat (M k : Nat) (h : k ≤ 65536) : shlS M (k : Int) = 2 ^ k * M := by unfold shlS; rw [if_pos (by omega), Int.toNat_natCast]
theorem shrS_nat (M k : Nat) (h : k ≤ 65536) : shrS M (k : Int) = M / 2 ^ k := by unfold shrS; rw [if_pos (by omega), Int.toNat_natCast]
theorem shlS_one (M : Nat) : shlS M 1 = M + M := by
  have := shlS_nat M 1 (by omega)
  rw [show ((1 : Nat) : Int) = 1 from rfl] at this
  rw [this]; omega
theorem nbits_pos (M : Nat) (h : M ≠ 0) : 0 < nbits M := by unfold nbits; rw [if_neg h]; omega
theorem nbits_up (M k : Nat) (h : M ≠ 0) : nbits (2 ^ k * M) = nbits M + k := by
  have hp := nbits_pos M h
  refine nbits_eq _ _ ?_ fun _ => ?_
  · rw [Nat.pow_add, Nat.mul_comm]
    exact Nat.mul_lt_mul_of_pos_right (nbits_lt M) (Nat.pow_pos (by omega))
  · rw [show nbits M + k - 1 = k + (nbits M - 1) by omega, Nat.pow_add]
    exact Nat.mul_le_mul_left _ (nbits_le M h)
theorem cmpS_add (a b c : Nat) : cmpS (a + c) (b + c) = cmpS a b := by
  unfold cmpS
  rcases Nat.lt_trichotomy a b with h | h | h
  · rw [if_pos h, if_pos (by omega)]
  · subst h; simp
  · rw [if_neg (by omega), if_pos (by omega), if_neg (by omega), if_pos h]
theorem cmpS_neg (a b : Nat) : cmpS b a = - cmpS a b := by
  unfold cmpS
  rcases Nat.lt_trichotomy a b with h | h | h
  · rw [if_neg (by omega), if_pos h, if_pos h]; rfl
  · subst h; simp
  · rw [if_pos h, if_neg (by omega), if_pos h]
theorem cmpS_bound (a b : Nat) : -1 ≤ cmpS a b ∧ cmpS a b ≤ 1 := by unfold cmpS; split; omega; split <;> omega

set_option maxHeartbeats 1000000 in
set_option maxRecDepth 100000 in
theorem natLaws_walk (A0 : Option Addr) (c0 : Nat) (l0 : List Nat) (A1 : Option Addr) (c1 : Nat) (l1 : List Nat) (A2 : Option Addr) (c2 : Nat) (l2 : List Nat) (a3 : Int) (w : World) (r0 : Rd .u64 w w.heap.size A0 l0) (y0 : Words l0) (_z0 : l0.length * 8 ≤ 140737488351232) (u0 : l0.length ≤ c0)
    (r1 : Rd .u64 w w.heap.size A1 l1) (y1 : Words l1) (_z1 : l1.length * 8 ≤ 140737488351232) (u1 : l1.length ≤ c1) (r2 : Rd .u64 w w.heap.size A2 l2) (y2 : Words l2) (_z2 : l2.length * 8 ≤ 140737488351232) (u2 : l2.length ≤ c2) (w3 : (Lit.int .u8 a3).wf = true) :
    Calls Try.prog 7 #[.slice A0 l0.length c0, .slice A1 l1.length c1, .slice A2 l2.length c2, .int .u8 a3] w fun e w' => e = .returned (.bool true) ∧ Below w.heap.size w w' := by
  have hx : 0 ≤ a3 ∧ a3 ≤ 255 := by simpa [Lit.wf, IntKind.min, IntKind.max, IntKind.signed, IntKind.bits] using w3
  obtain ⟨k, rfl⟩ := Int.eq_ofNat_of_zero_le hx.1
  obtain ⟨_, hk⟩ := hx
  clear w3
  by_cases hv0 : 40 < l0.length
  · skip
    go_enter Try.func7, Try.ntmps7
    go_wp2_with fail
    refine (vast_yes _ _ _ _ hv0).mono ?_
    rintro e w1 ⟨rfl, rfl⟩
    go_wp2_with fail
    refine (natWorks_any _).mono ?_
    rintro e w1 ⟨rfl, b1⟩
    go_wp2_with fail
    go_ret
    exact ⟨rfl, b1⟩
  · by_cases hv1 : 40 < l1.length
    · skip
      go_enter Try.func7, Try.ntmps7
      go_wp2_with fail
      refine (vast_no _ _ _ _ (by omega)).mono ?_
      rintro e w1 ⟨rfl, rfl⟩
      go_wp2_with fail
      refine (vast_yes _ _ _ _ hv1).mono ?_
      rintro e w1 ⟨rfl, rfl⟩
      go_wp2_with fail
      refine (natWorks_any _).mono ?_
      rintro e w1 ⟨rfl, b1⟩
      go_wp2_with fail
      go_ret
      exact ⟨rfl, b1⟩
    · by_cases hv2 : 40 < l2.length
      · skip
        go_enter Try.func7, Try.ntmps7
        go_wp2_with fail
        refine (vast_no _ _ _ _ (by omega)).mono ?_
        rintro e w1 ⟨rfl, rfl⟩
        go_wp2_with fail
        refine (vast_no _ _ _ _ (by omega)).mono ?_
        rintro e w1 ⟨rfl, rfl⟩
        go_wp2_with fail
        refine (vast_yes _ _ _ _ hv2).mono ?_
        rintro e w1 ⟨rfl, rfl⟩
        go_wp2_with fail
        refine (natWorks_any _).mono ?_
        rintro e w1 ⟨rfl, b1⟩
        go_wp2_with fail
        go_ret
        exact ⟨rfl, b1⟩
      · have P0 : RowIs w A0 l0.length c0 l0 := ⟨rfl, y0, by omega, r0, u0⟩
        have P1 : RowIs w A1 l1.length c1 l1 := ⟨rfl, y1, by omega, r1, u1⟩
        have P2 : RowIs w A2 l2.length c2 l2 := ⟨rfl, y2, by omega, r2, u2⟩
        obtain ⟨z, hz⟩ : ∃ z, cmpS (natOf l0) (natOf l1) = z := ⟨_, rfl⟩
        have hzb := cmpS_bound (natOf l0) (natOf l1)
        rw [hz] at hzb
        obtain ⟨hz1, hz2⟩ := hzb
        have HZ := Lib.hid hz
        clear r0 y0 r1 y1 r2 y2 hz
        by_cases hA0 : natOf l0 = 0
        · have HA0 := Lib.hid hA0
          clear hA0
          go_enter Try.func7, Try.ntmps7
          go_wp2_with fail
          refine (vast_no _ _ _ _ (by omega)).mono ?_
          rintro e w1 ⟨rfl, rfl⟩
          go_wp2_with fail
          refine (vast_no _ _ _ _ (by omega)).mono ?_
          rintro e w2 ⟨rfl, rfl⟩
          go_wp2_with fail
          refine (vast_no _ _ _ _ (by omega)).mono ?_
          rintro e w3 ⟨rfl, rfl⟩
          go_wp2_with fail
          refine (bAdd P0.in_ P1.in_ (by omega)).mono ?_
          rintro e w1 ⟨X1, q1, d1, rfl, S1, _, b1⟩
          have B1 := b1
          have P0 := P0.step b1
          have P1 := P1.step b1
          have P2 := P2.step b1
          have hq1 : q1 ≤ 400 := by have h := S1.1; rw [length_wd] at h; have n0 := P0.in_.bits; have n1 := P1.in_.bits; have n2 := P2.in_.bits; have := nbits_add (natOf l0) (natOf l1); omega
          go_wp2_with fail
          refine (bAdd P1.in_ P0.in_ (by omega)).mono ?_
          rintro e w2 ⟨X2, q2, d2, rfl, S2, _, b2⟩
          have B2 := below_step B1 b2
          have P0 := P0.step b2
          have P1 := P1.step b2
          have P2 := P2.step b2
          have S1 := S1.step b2
          rw [Nat.add_comm] at S2
          have hq2 : q2 ≤ 400 := by have h := S2.1; rw [length_wd] at h; have n0 := P0.in_.bits; have n1 := P1.in_.bits; have n2 := P2.in_.bits; have := nbits_add (natOf l0) (natOf l1); omega
          go_wp2_with fail
          refine (bSame S1 S2).mono ?_
          rintro e w3 ⟨rfl, b3⟩
          have B3 := below_step B2 b3
          have P0 := P0.step b3
          have P1 := P1.step b3
          have P2 := P2.step b3
          have S1 := S1.step b3
          have S2 := S2.step b3
          clear S2
          go_wp2_with fail
          refine (bAdd S1.in_ P2.in_ (by omega)).mono ?_
          rintro e w4 ⟨X3, q3, d3, rfl, S3, _, b4⟩
          have B4 := below_step B3 b4
          have P0 := P0.step b4
          have P1 := P1.step b4
          have P2 := P2.step b4
          have S1 := S1.step b4
          have hq3 : q3 ≤ 400 := by have h := S3.1; rw [length_wd] at h; have n0 := P0.in_.bits; have n1 := P1.in_.bits; have n2 := P2.in_.bits; have := nbits_add (natOf l0) (natOf l1); have := nbits_add (natOf l0 + natOf l1) (natOf l2); omega
          go_wp2_with fail
          refine (bAdd P1.in_ P2.in_ (by omega)).mono ?_
          rintro e w5 ⟨X4, q4, d4, rfl, S4, _, b5⟩
          have B5 := below_step B4 b5
          have P0 := P0.step b5
          have P1 := P1.step b5
          have P2 := P2.step b5
          have S1 := S1.step b5
          have S3 := S3.step b5
          have hq4 : q4 ≤ 400 := by have h := S4.1; rw [length_wd] at h; have n0 := P0.in_.bits; have n1 := P1.in_.bits; have n2 := P2.in_.bits; have := nbits_add (natOf l1) (natOf l2); omega
          go_wp2_with fail
          refine (bAdd P0.in_ S4.in_ (by omega)).mono ?_
          rintro e w6 ⟨X5, q5, d5, rfl, S5, _, b6⟩
          have B6 := below_step B5 b6
          have P0 := P0.step b6
          have P1 := P1.step b6
          have P2 := P2.step b6
          have S1 := S1.step b6
          have S3 := S3.step b6
          have S4 := S4.step b6
          rw [← Nat.add_assoc] at S5
          have hq5 : q5 ≤ 400 := by have h := S5.1; rw [length_wd] at h; have n0 := P0.in_.bits; have n1 := P1.in_.bits; have n2 := P2.in_.bits; have := nbits_add (natOf l0) (natOf l1); have := nbits_add (natOf l0 + natOf l1) (natOf l2); omega
          go_wp2_with fail
          refine (bSame S3 S5).mono ?_
          rintro e w7 ⟨rfl, b7⟩
          have B7 := below_step B6 b7
          have P0 := P0.step b7
          have P1 := P1.step b7
          have P2 := P2.step b7
          have S1 := S1.step b7
          have S3 := S3.step b7
          have S4 := S4.step b7
          have S5 := S5.step b7
          clear S3 S4 S5
          go_wp2_with fail
          refine (bMay S1).mono ?_
          rintro e w8 ⟨rfl, b8⟩
          have B8 := below_step B7 b8
          have P0 := P0.step b8
          have P1 := P1.step b8
          have P2 := P2.step b8
          have S1 := S1.step b8
          go_wp2_with fail
          refine (bSub_yes S1.in_ P1.in_ (Nat.le_add_left _ _)).mono ?_
          rintro e w9 ⟨X6, q6, d6, rfl, S6, _, b9⟩
          have B9 := below_step B8 b9
          have P0 := P0.step b9
          have P1 := P1.step b9
          have P2 := P2.step b9
          have S1 := S1.step b9
          rw [Nat.add_sub_cancel] at S6
          clear S1
          go_wp2_with fail
          refine (bTrim P0.in_).mono ?_
          rintro e w10 ⟨X7, q7, d7, rfl, S7, _, b10⟩
          have B10 := below_step B9 b10
          have P0 := P0.step b10
          have P1 := P1.step b10
          have P2 := P2.step b10
          have S6 := S6.step b10
          go_wp2_with fail
          refine (bSame S6 S7).mono ?_
          rintro e w11 ⟨rfl, b11⟩
          have B11 := below_step B10 b11
          have P0 := P0.step b11
          have P1 := P1.step b11
          have P2 := P2.step b11
          have S6 := S6.step b11
          have S7 := S7.step b11
          clear S6 S7
          go_wp2_with fail
          refine (bShl P0.in_ (k : Int) (by omega)).mono ?_
          rintro e w12 ⟨X8, q8, d8, rfl, S8, _, b12⟩
          have B12 := below_step B11 b12
          have P0 := P0.step b12
          have P1 := P1.step b12
          have P2 := P2.step b12
          rw [shlS_nat _ k (by omega)] at S8
          go_wp2_with fail
          refine (bShr S8.in_ (k : Int)).mono ?_
          rintro e w13 ⟨X9, q9, d9, rfl, S9, _, b13⟩
          have B13 := below_step B12 b13
          have P0 := P0.step b13
          have P1 := P1.step b13
          have P2 := P2.step b13
          have S8 := S8.step b13
          rw [shrS_nat _ k (by omega), Nat.mul_div_cancel_left _ (Nat.pow_pos (by omega))] at S9
          go_wp2_with fail
          refine (bTrim P0.in_).mono ?_
          rintro e w14 ⟨X10, q10, d10, rfl, S10, _, b14⟩
          have B14 := below_step B13 b14
          have P0 := P0.step b14
          have P1 := P1.step b14
          have P2 := P2.step b14
          have S8 := S8.step b14
          have S9 := S9.step b14
          go_wp2_with fail
          refine (bSame S9 S10).mono ?_
          rintro e w15 ⟨rfl, b15⟩
          have B15 := below_step B14 b15
          have P0 := P0.step b15
          have P1 := P1.step b15
          have P2 := P2.step b15
          have S8 := S8.step b15
          have S9 := S9.step b15
          have S10 := S10.step b15
          clear S9 S10
          go_wp2_with fail
          refine (bTrim P0.in_).mono ?_
          rintro e w16 ⟨X11, q11, d11, rfl, S11, _, b16⟩
          have B16 := below_step B15 b16
          have P0 := P0.step b16
          have P1 := P1.step b16
          have P2 := P2.step b16
          have S8 := S8.step b16
          have hq11 := S11.1
          rw [length_wd] at hq11
          have hq0 : q11 = 0 := by rw [HA0.out, nbits_zero] at hq11; omega
          subst hq0
          clear S11
          clear hq11
          clear S8
          go_wp2_with fail
          refine (bAdd P0.in_ P0.in_ (by omega)).mono ?_
          rintro e w17 ⟨X12, q12, d12, rfl, S12, _, b17⟩
          have B17 := below_step B16 b17
          have P0 := P0.step b17
          have P1 := P1.step b17
          have P2 := P2.step b17
          have hq12 : q12 ≤ 400 := by have h := S12.1; rw [length_wd] at h; have n0 := P0.in_.bits; have n1 := P1.in_.bits; have n2 := P2.in_.bits; have := nbits_add (natOf l0) (natOf l0); omega
          go_wp2_with fail
          refine (bShl P0.in_ 1 (by omega)).mono ?_
          rintro e w18 ⟨X13, q13, d13, rfl, S13, _, b18⟩
          have B18 := below_step B17 b18
          have P0 := P0.step b18
          have P1 := P1.step b18
          have P2 := P2.step b18
          have S12 := S12.step b18
          rw [shlS_one] at S13
          go_wp2_with fail
          refine (bSame S12 S13).mono ?_
          rintro e w19 ⟨rfl, b19⟩
          have B19 := below_step B18 b19
          have P0 := P0.step b19
          have P1 := P1.step b19
          have P2 := P2.step b19
          have S12 := S12.step b19
          have S13 := S13.step b19
          clear S12 S13
          go_wp2_with fail
          refine (bAdd P0.in_ P2.in_ (by omega)).mono ?_
          rintro e w20 ⟨X14, q14, d14, rfl, S14, _, b20⟩
          have B20 := below_step B19 b20
          have P0 := P0.step b20
          have P1 := P1.step b20
          have P2 := P2.step b20
          have hq14 : q14 ≤ 400 := by have h := S14.1; rw [length_wd] at h; have n0 := P0.in_.bits; have n1 := P1.in_.bits; have n2 := P2.in_.bits; have := nbits_add (natOf l0) (natOf l2); omega
          go_wp2_with fail
          refine (bAdd P1.in_ P2.in_ (by omega)).mono ?_
          rintro e w21 ⟨X15, q15, d15, rfl, S15, _, b21⟩
          have B21 := below_step B20 b21
          have P0 := P0.step b21
          have P1 := P1.step b21
          have P2 := P2.step b21
          have S14 := S14.step b21
          have hq15 : q15 ≤ 400 := by have h := S15.1; rw [length_wd] at h; have n0 := P0.in_.bits; have n1 := P1.in_.bits; have n2 := P2.in_.bits; have := nbits_add (natOf l1) (natOf l2); omega
          have hC := bCmp (c := d14) (c2 := d15) S14.in_ S15.in_
          rw [cmpS_add, HZ.out] at hC
          have HC := Lib.hid hC
          clear hC
          go_wp2_with fail
          refine (HC.out).mono ?_
          rintro e w22 ⟨rfl, b22⟩
          have B22 := below_step B21 b22
          have P0 := P0.step b22
          have P1 := P1.step b22
          have P2 := P2.step b22
          have S14 := S14.step b22
          have S15 := S15.step b22
          clear HC
          clear S14 S15
          have hC := bCmp (c := c0) (c2 := c1) P0.in_ P1.in_
          rw [HZ.out] at hC
          have HC := Lib.hid hC
          clear hC
          go_wp2_with fail
          refine (HC.out).mono ?_
          rintro e w23 ⟨rfl, b23⟩
          have B23 := below_step B22 b23
          have P0 := P0.step b23
          have P1 := P1.step b23
          have P2 := P2.step b23
          clear HC
          have hC := bCmp (c := c1) (c2 := c0) P1.in_ P0.in_
          rw [cmpS_neg, HZ.out] at hC
          have HC := Lib.hid hC
          clear hC
          go_wp2_with fail
          refine (HC.out).mono ?_
          rintro e w24 ⟨rfl, b24⟩
          have B24 := below_step B23 b24
          have P0 := P0.step b24
          have P1 := P1.step b24
          have P2 := P2.step b24
          clear HC
          have hC := bCmp (c := c0) (c2 := c1) P0.in_ P1.in_
          rw [HZ.out] at hC
          have HC := Lib.hid hC
          clear hC
          go_wp2_with fail
          refine (HC.out).mono ?_
          rintro e w25 ⟨rfl, b25⟩
          have B25 := below_step B24 b25
          have P0 := P0.step b25
          have P1 := P1.step b25
          have P2 := P2.step b25
          clear HC
          go_wp2_with fail
          refine (natWorks_any _).mono ?_
          rintro e w26 ⟨rfl, b26⟩
          have B26 := below_step B25 b26
          go_wp2_with fail
          go_ret
          exact ⟨rfl, B26⟩
        · skip
          go_enter Try.func7, Try.ntmps7
          go_wp2_with fail
          refine (vast_no _ _ _ _ (by omega)).mono ?_
          rintro e w1 ⟨rfl, rfl⟩
          go_wp2_with fail
          refine (vast_no _ _ _ _ (by omega)).mono ?_
          rintro e w2 ⟨rfl, rfl⟩
          go_wp2_with fail
          refine (vast_no _ _ _ _ (by omega)).mono ?_
          rintro e w3 ⟨rfl, rfl⟩
          go_wp2_with fail
          refine (bAdd P0.in_ P1.in_ (by omega)).mono ?_
          rintro e w1 ⟨X1, q1, d1, rfl, S1, _, b1⟩
          have B1 := b1
          have P0 := P0.step b1
          have P1 := P1.step b1
          have P2 := P2.step b1
          have hq1 : q1 ≤ 400 := by have h := S1.1; rw [length_wd] at h; have n0 := P0.in_.bits; have n1 := P1.in_.bits; have n2 := P2.in_.bits; have := nbits_add (natOf l0) (natOf l1); omega
          go_wp2_with fail
          refine (bAdd P1.in_ P0.in_ (by omega)).mono ?_
          rintro e w2 ⟨X2, q2, d2, rfl, S2, _, b2⟩
          have B2 := below_step B1 b2
          have P0 := P0.step b2
          have P1 := P1.step b2
          have P2 := P2.step b2
          have S1 := S1.step b2
          rw [Nat.add_comm] at S2
          have hq2 : q2 ≤ 400 := by have h := S2.1; rw [length_wd] at h; have n0 := P0.in_.bits; have n1 := P1.in_.bits; have n2 := P2.in_.bits; have := nbits_add (natOf l0) (natOf l1); omega
          go_wp2_with fail
          refine (bSame S1 S2).mono ?_
          rintro e w3 ⟨rfl, b3⟩
          have B3 := below_step B2 b3
          have P0 := P0.step b3
          have P1 := P1.step b3
          have P2 := P2.step b3
          have S1 := S1.step b3
          have S2 := S2.step b3
          clear S2
          go_wp2_with fail
          refine (bAdd S1.in_ P2.in_ (by omega)).mono ?_
          rintro e w4 ⟨X3, q3, d3, rfl, S3, _, b4⟩
          have B4 := below_step B3 b4
          have P0 := P0.step b4
          have P1 := P1.step b4
          have P2 := P2.step b4
          have S1 := S1.step b4
          have hq3 : q3 ≤ 400 := by have h := S3.1; rw [length_wd] at h; have n0 := P0.in_.bits; have n1 := P1.in_.bits; have n2 := P2.in_.bits; have := nbits_add (natOf l0) (natOf l1); have := nbits_add (natOf l0 + natOf l1) (natOf l2); omega
          go_wp2_with fail
          refine (bAdd P1.in_ P2.in_ (by omega)).mono ?_
          rintro e w5 ⟨X4, q4, d4, rfl, S4, _, b5⟩
          have B5 := below_step B4 b5
          have P0 := P0.step b5
          have P1 := P1.step b5
          have P2 := P2.step b5
          have S1 := S1.step b5
          have S3 := S3.step b5
          have hq4 : q4 ≤ 400 := by have h := S4.1; rw [length_wd] at h; have n0 := P0.in_.bits; have n1 := P1.in_.bits; have n2 := P2.in_.bits; have := nbits_add (natOf l1) (natOf l2); omega
          go_wp2_with fail
          refine (bAdd P0.in_ S4.in_ (by omega)).mono ?_
          rintro e w6 ⟨X5, q5, d5, rfl, S5, _, b6⟩
          have B6 := below_step B5 b6
          have P0 := P0.step b6
          have P1 := P1.step b6
          have P2 := P2.step b6
          have S1 := S1.step b6
          have S3 := S3.step b6
          have S4 := S4.step b6
          rw [← Nat.add_assoc] at S5
          have hq5 : q5 ≤ 400 := by have h := S5.1; rw [length_wd] at h; have n0 := P0.in_.bits; have n1 := P1.in_.bits; have n2 := P2.in_.bits; have := nbits_add (natOf l0) (natOf l1); have := nbits_add (natOf l0 + natOf l1) (natOf l2); omega
          go_wp2_with fail
          refine (bSame S3 S5).mono ?_
          rintro e w7 ⟨rfl, b7⟩
          have B7 := below_step B6 b7
          have P0 := P0.step b7
          have P1 := P1.step b7
          have P2 := P2.step b7
          have S1 := S1.step b7
          have S3 := S3.step b7
          have S4 := S4.step b7
          have S5 := S5.step b7
          clear S3 S4 S5
          go_wp2_with fail
          refine (bMay S1).mono ?_
          rintro e w8 ⟨rfl, b8⟩
          have B8 := below_step B7 b8
          have P0 := P0.step b8
          have P1 := P1.step b8
          have P2 := P2.step b8
          have S1 := S1.step b8
          go_wp2_with fail
          refine (bSub_yes S1.in_ P1.in_ (Nat.le_add_left _ _)).mono ?_
          rintro e w9 ⟨X6, q6, d6, rfl, S6, _, b9⟩
          have B9 := below_step B8 b9
          have P0 := P0.step b9
          have P1 := P1.step b9
          have P2 := P2.step b9
          have S1 := S1.step b9
          rw [Nat.add_sub_cancel] at S6
          clear S1
          go_wp2_with fail
          refine (bTrim P0.in_).mono ?_
          rintro e w10 ⟨X7, q7, d7, rfl, S7, _, b10⟩
          have B10 := below_step B9 b10
          have P0 := P0.step b10
          have P1 := P1.step b10
          have P2 := P2.step b10
          have S6 := S6.step b10
          go_wp2_with fail
          refine (bSame S6 S7).mono ?_
          rintro e w11 ⟨rfl, b11⟩
          have B11 := below_step B10 b11
          have P0 := P0.step b11
          have P1 := P1.step b11
          have P2 := P2.step b11
          have S6 := S6.step b11
          have S7 := S7.step b11
          clear S6 S7
          go_wp2_with fail
          refine (bShl P0.in_ (k : Int) (by omega)).mono ?_
          rintro e w12 ⟨X8, q8, d8, rfl, S8, _, b12⟩
          have B12 := below_step B11 b12
          have P0 := P0.step b12
          have P1 := P1.step b12
          have P2 := P2.step b12
          rw [shlS_nat _ k (by omega)] at S8
          go_wp2_with fail
          refine (bShr S8.in_ (k : Int)).mono ?_
          rintro e w13 ⟨X9, q9, d9, rfl, S9, _, b13⟩
          have B13 := below_step B12 b13
          have P0 := P0.step b13
          have P1 := P1.step b13
          have P2 := P2.step b13
          have S8 := S8.step b13
          rw [shrS_nat _ k (by omega), Nat.mul_div_cancel_left _ (Nat.pow_pos (by omega))] at S9
          go_wp2_with fail
          refine (bTrim P0.in_).mono ?_
          rintro e w14 ⟨X10, q10, d10, rfl, S10, _, b14⟩
          have B14 := below_step B13 b14
          have P0 := P0.step b14
          have P1 := P1.step b14
          have P2 := P2.step b14
          have S8 := S8.step b14
          have S9 := S9.step b14
          go_wp2_with fail
          refine (bSame S9 S10).mono ?_
          rintro e w15 ⟨rfl, b15⟩
          have B15 := below_step B14 b15
          have P0 := P0.step b15
          have P1 := P1.step b15
          have P2 := P2.step b15
          have S8 := S8.step b15
          have S9 := S9.step b15
          have S10 := S10.step b15
          clear S9 S10
          go_wp2_with fail
          refine (bTrim P0.in_).mono ?_
          rintro e w16 ⟨X11, q11, d11, rfl, S11, _, b16⟩
          have B16 := below_step B15 b16
          have P0 := P0.step b16
          have P1 := P1.step b16
          have P2 := P2.step b16
          have S8 := S8.step b16
          have hq11 := S11.1
          rw [length_wd] at hq11
          have hq0 : 0 < q11 := by have := nbits_pos _ hA0; omega
          clear S11
          clear hq11
          have hBU := bBits (c := d8) S8.in_
          rw [nbits_up _ k hA0] at hBU
          have HBU := Lib.hid hBU
          clear hBU
          have n0 := P0.in_.bits
          go_wp2_with fail
          refine (HBU.out).mono ?_
          rintro e w17 ⟨rfl, b17⟩
          have B17 := below_step B16 b17
          have P0 := P0.step b17
          have P1 := P1.step b17
          have P2 := P2.step b17
          have S8 := S8.step b17
          clear HBU
          go_wp2_with fail
          refine (bBits P0.in_).mono ?_
          rintro e w18 ⟨rfl, b18⟩
          have B18 := below_step B17 b18
          have P0 := P0.step b18
          have P1 := P1.step b18
          have P2 := P2.step b18
          have S8 := S8.step b18
          have hbb : (((nbits (natOf l0) + k : Nat) : Int) != (nbits (natOf l0) : Int) + (k : Int)) = false := by rw [bne_eq_false_iff_eq]; omega
          have n0b : nbits (natOf l0) ≤ 2560 := by omega
          clear n0
          clear S8
          go_wp2_with fail
          refine (bAdd P0.in_ P0.in_ (by omega)).mono ?_
          rintro e w19 ⟨X12, q12, d12, rfl, S12, _, b19⟩
          have B19 := below_step B18 b19
          have P0 := P0.step b19
          have P1 := P1.step b19
          have P2 := P2.step b19
          have hq12 : q12 ≤ 400 := by have h := S12.1; rw [length_wd] at h; have n0 := P0.in_.bits; have n1 := P1.in_.bits; have n2 := P2.in_.bits; have := nbits_add (natOf l0) (natOf l0); omega
          go_wp2_with fail
          refine (bShl P0.in_ 1 (by omega)).mono ?_
          rintro e w20 ⟨X13, q13, d13, rfl, S13, _, b20⟩
          have B20 := below_step B19 b20
          have P0 := P0.step b20
          have P1 := P1.step b20
          have P2 := P2.step b20
          have S12 := S12.step b20
          rw [shlS_one] at S13
          go_wp2_with fail
          refine (bSame S12 S13).mono ?_
          rintro e w21 ⟨rfl, b21⟩
          have B21 := below_step B20 b21
          have P0 := P0.step b21
          have P1 := P1.step b21
          have P2 := P2.step b21
          have S12 := S12.step b21
          have S13 := S13.step b21
          clear S12 S13
          go_wp2_with fail
          refine (bAdd P0.in_ P2.in_ (by omega)).mono ?_
          rintro e w22 ⟨X14, q14, d14, rfl, S14, _, b22⟩
          have B22 := below_step B21 b22
          have P0 := P0.step b22
          have P1 := P1.step b22
          have P2 := P2.step b22
          have hq14 : q14 ≤ 400 := by have h := S14.1; rw [length_wd] at h; have n0 := P0.in_.bits; have n1 := P1.in_.bits; have n2 := P2.in_.bits; have := nbits_add (natOf l0) (natOf l2); omega
          go_wp2_with fail
          refine (bAdd P1.in_ P2.in_ (by omega)).mono ?_
          rintro e w23 ⟨X15, q15, d15, rfl, S15, _, b23⟩
          have B23 := below_step B22 b23
          have P0 := P0.step b23
          have P1 := P1.step b23
          have P2 := P2.step b23
          have S14 := S14.step b23
          have hq15 : q15 ≤ 400 := by have h := S15.1; rw [length_wd] at h; have n0 := P0.in_.bits; have n1 := P1.in_.bits; have n2 := P2.in_.bits; have := nbits_add (natOf l1) (natOf l2); omega
          have hC := bCmp (c := d14) (c2 := d15) S14.in_ S15.in_
          rw [cmpS_add, HZ.out] at hC
          have HC := Lib.hid hC
          clear hC
          go_wp2_with fail
          refine (HC.out).mono ?_
          rintro e w24 ⟨rfl, b24⟩
          have B24 := below_step B23 b24
          have P0 := P0.step b24
          have P1 := P1.step b24
          have P2 := P2.step b24
          have S14 := S14.step b24
          have S15 := S15.step b24
          clear HC
          clear S14 S15
          have hC := bCmp (c := c0) (c2 := c1) P0.in_ P1.in_
          rw [HZ.out] at hC
          have HC := Lib.hid hC
          clear hC
          go_wp2_with fail
          refine (HC.out).mono ?_
          rintro e w25 ⟨rfl, b25⟩
          have B25 := below_step B24 b25
          have P0 := P0.step b25
          have P1 := P1.step b25
          have P2 := P2.step b25
          clear HC
          have hC := bCmp (c := c1) (c2 := c0) P1.in_ P0.in_
          rw [cmpS_neg, HZ.out] at hC
          have HC := Lib.hid hC
          clear hC
          go_wp2_with fail
          refine (HC.out).mono ?_
          rintro e w26 ⟨rfl, b26⟩
          have B26 := below_step B25 b26
          have P0 := P0.step b26
          have P1 := P1.step b26
          have P2 := P2.step b26
          clear HC
          have hC := bCmp (c := c0) (c2 := c1) P0.in_ P1.in_
          rw [HZ.out] at hC
          have HC := Lib.hid hC
          clear hC
          go_wp2_with fail
          refine (HC.out).mono ?_
          rintro e w27 ⟨rfl, b27⟩
          have B27 := below_step B26 b27
          have P0 := P0.step b27
          have P1 := P1.step b27
          have P2 := P2.step b27
          clear HC
          go_wp2_with fail
          refine (natWorks_any _).mono ?_
          rintro e w28 ⟨rfl, b28⟩
          have B28 := below_step B27 b28
          go_wp2_with fail
          go_ret
          exact ⟨rfl, B28⟩
end Go.Proofs.Ytnhoooadnpdnmaa

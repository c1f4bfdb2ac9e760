/- NatOrder's walk: it answers true, and writes nothing that was there. No condition but what the arguments' types give. -/
import Derived.Test.YtnhoooadnpdnmaaNatLawsW
namespace Go.Proofs.Ytnhoooadnpdnmaa
open Go.RowKit

theorem cmpS_self (a : Nat) : cmpS a a = 0 := by simp [cmpS]
theorem cmpS_le (a b : Nat) (h : a ≤ b) : cmpS a b ≤ 0 := by unfold cmpS; split; omega; rw [if_neg (by omega)]; omega
theorem cmpS_lt (a b : Nat) (h : a < b) : cmpS a b = -1 := by unfold cmpS; rw [if_pos h]
theorem cmpS_gt (a b : Nat) (h : b < a) : cmpS a b = 1 := by unfold cmpS; rw [if_neg (by omega), if_pos h]
theorem nbits_sum (a b : Nat) : max (nbits a) (nbits b) ≤ nbits (a + b) ∧ nbits (a + b) ≤ max (nbits a) (nbits b) + 1 := by
  have h1 := nbits_mono (show a ≤ a + b by omega)
  have h2 := nbits_mono (show b ≤ a + b by omega)
  refine ⟨by omega, nbits_of_lt _ _ ?_⟩
  have h3 : 2 ^ nbits a ≤ 2 ^ max (nbits a) (nbits b) := Nat.pow_le_pow_right (by omega) (by omega)
  have h4 : 2 ^ nbits b ≤ 2 ^ max (nbits a) (nbits b) := Nat.pow_le_pow_right (by omega) (by omega)
  have h5 := nbits_lt a
  have h6 := nbits_lt b
  rw [Nat.pow_succ]
  omega

set_option maxHeartbeats 1000000 in
set_option maxRecDepth 100000 in
theorem natOrder_a (A0 : Option Addr) (c0 : Nat) (l0 : List Nat) (A1 : Option Addr) (c1 : Nat) (l1 : List Nat) (A2 : Option Addr) (c2 : Nat) (l2 : List Nat) (w : World) (y z : Int) (L : Nat) (P0 : RowIs w A0 l0.length c0 l0) (P1 : RowIs w A1 l1.length c1 l1) (P2 : RowIs w A2 l2.length c2 l2) (hv0 : ¬ 40 < l0.length) (hv1 : ¬ 40 < l1.length) (hv2 : ¬ 40 < l2.length)
    (hL1 : L ≤ nbits (natOf l0 + natOf l2)) (hL2 : nbits (natOf l0 + natOf l2) ≤ L + 1) (hL3 : L ≤ 5000) (hL4 : L = max (nbits (natOf l0)) (nbits (natOf l2)))
    (ex : cmpS (natOf l0) (natOf l1) = 1) (en : cmpS (natOf l1) (natOf l0) = -1) (ey : cmpS (natOf l1) (natOf l2) = y) (ez : cmpS (natOf l0) (natOf l2) = z) (hy1 : -1 ≤ y) (hy2 : y ≤ 1) (hz1 : -1 ≤ z) (hz2 : z ≤ 1) (hless : nbits (natOf l1) ≤ nbits (natOf l0)) (el : natOf l1 ≤ natOf l0) :
    Calls Try.prog 8 #[.slice A0 l0.length c0, .slice A1 l1.length c1, .slice A2 l2.length c2] w fun e w' => e = .returned (.bool true) ∧ Below w.heap.size w w' := by
  have EX := Lib.hid ex
  have EN := Lib.hid en
  have EY := Lib.hid ey
  have EZ := Lib.hid ez
  have EL := Lib.hid el
  clear ex en ey ez el
  have hmx : (nbits (natOf l0) < nbits (natOf l2) ∧ nbits (natOf l2) ≤ nbits (natOf l0 + natOf l2) ∧ nbits (natOf l0 + natOf l2) ≤ nbits (natOf l2) + 1 ∧ nbits (natOf l2) ≤ 5000) ∨ (¬ nbits (natOf l0) < nbits (natOf l2) ∧ nbits (natOf l0) ≤ nbits (natOf l0 + natOf l2) ∧ nbits (natOf l0 + natOf l2) ≤ nbits (natOf l0) + 1 ∧ nbits (natOf l0) ≤ 5000) := by omega
  clear hL1 hL2 hL3 hL4 L
  rcases hmx with ⟨mx, mx1, mx2, mx3⟩ | ⟨mx, mx1, mx2, mx3⟩
  all_goals
    go_enter Try.func8, Try.ntmps8
    go_wp2_with fail
    refine (vast_no _ _ _ _ (by omega)).mono ?_
    rintro e w1 ⟨rfl, rfl⟩
    go_wp2_with fail
    refine (vast_no _ _ _ _ (by omega)).mono ?_
    rintro e w2 ⟨rfl, rfl⟩
    go_wp2_with fail
    refine (vast_no _ _ _ _ (by omega)).mono ?_
    rintro e w3 ⟨rfl, rfl⟩
    have hC := bCmp (c := c0) (c2 := c1) P0.in_ P1.in_
    rw [EX.out] at hC
    have HC := Lib.hid hC
    clear hC
    go_wp2_with fail
    refine (HC.out).mono ?_
    rintro e w1 ⟨rfl, b1⟩
    have B1 := b1
    have P0 := P0.step b1
    have P1 := P1.step b1
    have P2 := P2.step b1
    clear HC
    have hC := bCmp (c := c1) (c2 := c2) P1.in_ P2.in_
    rw [EY.out] at hC
    have HC := Lib.hid hC
    clear hC
    go_wp2_with fail
    refine (HC.out).mono ?_
    rintro e w2 ⟨rfl, b2⟩
    have B2 := below_step B1 b2
    have P0 := P0.step b2
    have P1 := P1.step b2
    have P2 := P2.step b2
    clear HC
    have hC := bCmp (c := c0) (c2 := c2) P0.in_ P2.in_
    rw [EZ.out] at hC
    have HC := Lib.hid hC
    clear hC
    go_wp2_with fail
    refine (HC.out).mono ?_
    rintro e w3 ⟨rfl, b3⟩
    have B3 := below_step B2 b3
    have P0 := P0.step b3
    have P1 := P1.step b3
    have P2 := P2.step b3
    clear HC
    have hC := bCmp (c := c1) (c2 := c0) P1.in_ P0.in_
    rw [EN.out] at hC
    have HC := Lib.hid hC
    clear hC
    go_wp2_with fail
    refine (HC.out).mono ?_
    rintro e w4 ⟨rfl, b4⟩
    have B4 := below_step B3 b4
    have P0 := P0.step b4
    have P1 := P1.step b4
    have P2 := P2.step b4
    clear HC
    have hC := bCmp (c := c0) (c2 := c0) P0.in_ P0.in_
    rw [cmpS_self] at hC
    have HC := Lib.hid hC
    clear hC
    go_wp2_with fail
    refine (HC.out).mono ?_
    rintro e w5 ⟨rfl, b5⟩
    have B5 := below_step B4 b5
    have P0 := P0.step b5
    have P1 := P1.step b5
    have P2 := P2.step b5
    clear HC
    go_wp2_with fail
    refine (bAdd P0.in_ P2.in_ (by omega)).mono ?_
    rintro e w6 ⟨X1, q1, d1, rfl, S1, _, b6⟩
    have B6 := below_step B5 b6
    have P0 := P0.step b6
    have P1 := P1.step b6
    have P2 := P2.step b6
    have hq1 : q1 ≤ 400 := by have h := S1.1; rw [length_wd] at h; have n0 := P0.in_.bits; have n1 := P1.in_.bits; have n2 := P2.in_.bits; have := nbits_add (natOf l0) (natOf l2); omega
    go_wp2_with fail
    refine (bAdd P1.in_ P2.in_ (by omega)).mono ?_
    rintro e w7 ⟨X2, q2, d2, rfl, S2, _, b7⟩
    have B7 := below_step B6 b7
    have P0 := P0.step b7
    have P1 := P1.step b7
    have P2 := P2.step b7
    have S1 := S1.step b7
    have hq2 : q2 ≤ 400 := by have h := S2.1; rw [length_wd] at h; have n0 := P0.in_.bits; have n1 := P1.in_.bits; have n2 := P2.in_.bits; have := nbits_add (natOf l1) (natOf l2); omega
    go_wp2_with fail
    refine (bBits P0.in_).mono ?_
    rintro e w8 ⟨rfl, b8⟩
    have B8 := below_step B7 b8
    have P0 := P0.step b8
    have P1 := P1.step b8
    have P2 := P2.step b8
    have S1 := S1.step b8
    have S2 := S2.step b8
    go_wp2_with fail
    refine (bBits P2.in_).mono ?_
    rintro e w9 ⟨rfl, b9⟩
    have B9 := below_step B8 b9
    have P0 := P0.step b9
    have P1 := P1.step b9
    have P2 := P2.step b9
    have S1 := S1.step b9
    have S2 := S2.step b9
    have hC := bCmp (c := d1) (c2 := d2) S1.in_ S2.in_
    rw [cmpS_add, EX.out] at hC
    have HC := Lib.hid hC
    clear hC
    go_wp2_with fail
    refine (HC.out).mono ?_
    rintro e w10 ⟨rfl, b10⟩
    have B10 := below_step B9 b10
    have P0 := P0.step b10
    have P1 := P1.step b10
    have P2 := P2.step b10
    have S1 := S1.step b10
    have S2 := S2.step b10
    clear HC
    clear S2
    go_wp2_with fail
    refine (bBits S1.in_).mono ?_
    rintro e w11 ⟨rfl, b11⟩
    have B11 := below_step B10 b11
    have P0 := P0.step b11
    have P1 := P1.step b11
    have P2 := P2.step b11
    have S1 := S1.step b11
    go_wp2_with fail
    refine (bBits S1.in_).mono ?_
    rintro e w12 ⟨rfl, b12⟩
    have B12 := below_step B11 b12
    have P0 := P0.step b12
    have P1 := P1.step b12
    have P2 := P2.step b12
    have S1 := S1.step b12
    clear S1
    go_wp2_with fail
    refine (bBits P0.in_).mono ?_
    rintro e w13 ⟨rfl, b13⟩
    have B13 := below_step B12 b13
    have P0 := P0.step b13
    have P1 := P1.step b13
    have P2 := P2.step b13
    go_wp2_with fail
    refine (bBits P1.in_).mono ?_
    rintro e w14 ⟨rfl, b14⟩
    have B14 := below_step B13 b14
    have P0 := P0.step b14
    have P1 := P1.step b14
    have P2 := P2.step b14
    go_wp2_with fail
    refine (bSub_yes P0.in_ P1.in_ EL.out).mono ?_
    rintro e w15 ⟨X3, q3, d3, rfl, S3, _, b15⟩
    have B15 := below_step B14 b15
    have P0 := P0.step b15
    have P1 := P1.step b15
    have P2 := P2.step b15
    obtain ⟨v, hv⟩ : ∃ v, cmpS (natOf l0 - natOf l1) (natOf l0) = v := ⟨_, rfl⟩
    have hvb : v ≤ 0 := by rw [← hv]; exact cmpS_le _ _ (Nat.sub_le _ _)
    have HV := Lib.hid hv
    clear hv
    have hC := bCmp (c := d3) (c2 := c0) S3.in_ P0.in_
    rw [HV.out] at hC
    have HC := Lib.hid hC
    clear hC
    go_wp2_with fail
    refine (HC.out).mono ?_
    rintro e w16 ⟨rfl, b16⟩
    have B16 := below_step B15 b16
    have P0 := P0.step b16
    have P1 := P1.step b16
    have P2 := P2.step b16
    have S3 := S3.step b16
    clear HC
    have hq3 : q3 ≤ 400 := by have h := S3.1; rw [length_wd] at h; have n0 := P0.in_.bits; have n1 := P1.in_.bits; have n2 := P2.in_.bits; have := nbits_mono (Nat.sub_le (natOf l0) (natOf l1)); omega
    go_wp2_with fail
    refine (bAdd S3.in_ P1.in_ (by omega)).mono ?_
    rintro e w17 ⟨X4, q4, d4, rfl, S4, _, b17⟩
    have B17 := below_step B16 b17
    have P0 := P0.step b17
    have P1 := P1.step b17
    have P2 := P2.step b17
    have S3 := S3.step b17
    rw [Nat.sub_add_cancel EL.out] at S4
    have hC := bCmp (c := d4) (c2 := c0) S4.in_ P0.in_
    rw [cmpS_self] at hC
    have HC := Lib.hid hC
    clear hC
    go_wp2_with fail
    refine (HC.out).mono ?_
    rintro e w18 ⟨rfl, b18⟩
    have B18 := below_step B17 b18
    have P0 := P0.step b18
    have P1 := P1.step b18
    have P2 := P2.step b18
    have S3 := S3.step b18
    have S4 := S4.step b18
    clear HC
    go_wp2_with fail
    refine (natWorks_any _).mono ?_
    rintro e w19 ⟨rfl, b19⟩
    have B19 := below_step B18 b19
    go_wp2_with fail
    go_ret
    exact ⟨rfl, B19⟩

set_option maxHeartbeats 1000000 in
set_option maxRecDepth 100000 in
theorem natOrder_b (A0 : Option Addr) (c0 : Nat) (l0 : List Nat) (A1 : Option Addr) (c1 : Nat) (l1 : List Nat) (A2 : Option Addr) (c2 : Nat) (l2 : List Nat) (w : World) (y z : Int) (L : Nat) (P0 : RowIs w A0 l0.length c0 l0) (P1 : RowIs w A1 l1.length c1 l1) (P2 : RowIs w A2 l2.length c2 l2) (hv0 : ¬ 40 < l0.length) (hv1 : ¬ 40 < l1.length) (hv2 : ¬ 40 < l2.length)
    (hL1 : L ≤ nbits (natOf l0 + natOf l2)) (hL2 : nbits (natOf l0 + natOf l2) ≤ L + 1) (hL3 : L ≤ 5000) (hL4 : L = max (nbits (natOf l0)) (nbits (natOf l2)))
    (ex : cmpS (natOf l0) (natOf l1) = 0) (en : cmpS (natOf l1) (natOf l0) = 0) (ey : cmpS (natOf l1) (natOf l2) = 1) (ez : cmpS (natOf l0) (natOf l2) = z) (hz1 : -1 ≤ z) (hz2 : z ≤ 1) (hless : nbits (natOf l1) ≤ nbits (natOf l0)) (el : natOf l1 ≤ natOf l0) :
    Calls Try.prog 8 #[.slice A0 l0.length c0, .slice A1 l1.length c1, .slice A2 l2.length c2] w fun e w' => e = .returned (.bool true) ∧ Below w.heap.size w w' := by
  have EX := Lib.hid ex
  have EN := Lib.hid en
  have EY := Lib.hid ey
  have EZ := Lib.hid ez
  have EL := Lib.hid el
  clear ex en ey ez el
  have hmx : (nbits (natOf l0) < nbits (natOf l2) ∧ nbits (natOf l2) ≤ nbits (natOf l0 + natOf l2) ∧ nbits (natOf l0 + natOf l2) ≤ nbits (natOf l2) + 1 ∧ nbits (natOf l2) ≤ 5000) ∨ (¬ nbits (natOf l0) < nbits (natOf l2) ∧ nbits (natOf l0) ≤ nbits (natOf l0 + natOf l2) ∧ nbits (natOf l0 + natOf l2) ≤ nbits (natOf l0) + 1 ∧ nbits (natOf l0) ≤ 5000) := by omega
  clear hL1 hL2 hL3 hL4 L
  rcases hmx with ⟨mx, mx1, mx2, mx3⟩ | ⟨mx, mx1, mx2, mx3⟩
  all_goals
    go_enter Try.func8, Try.ntmps8
    go_wp2_with fail
    refine (vast_no _ _ _ _ (by omega)).mono ?_
    rintro e w1 ⟨rfl, rfl⟩
    go_wp2_with fail
    refine (vast_no _ _ _ _ (by omega)).mono ?_
    rintro e w2 ⟨rfl, rfl⟩
    go_wp2_with fail
    refine (vast_no _ _ _ _ (by omega)).mono ?_
    rintro e w3 ⟨rfl, rfl⟩
    have hC := bCmp (c := c0) (c2 := c1) P0.in_ P1.in_
    rw [EX.out] at hC
    have HC := Lib.hid hC
    clear hC
    go_wp2_with fail
    refine (HC.out).mono ?_
    rintro e w1 ⟨rfl, b1⟩
    have B1 := b1
    have P0 := P0.step b1
    have P1 := P1.step b1
    have P2 := P2.step b1
    clear HC
    have hC := bCmp (c := c1) (c2 := c2) P1.in_ P2.in_
    rw [EY.out] at hC
    have HC := Lib.hid hC
    clear hC
    go_wp2_with fail
    refine (HC.out).mono ?_
    rintro e w2 ⟨rfl, b2⟩
    have B2 := below_step B1 b2
    have P0 := P0.step b2
    have P1 := P1.step b2
    have P2 := P2.step b2
    clear HC
    have hC := bCmp (c := c0) (c2 := c2) P0.in_ P2.in_
    rw [EZ.out] at hC
    have HC := Lib.hid hC
    clear hC
    go_wp2_with fail
    refine (HC.out).mono ?_
    rintro e w3 ⟨rfl, b3⟩
    have B3 := below_step B2 b3
    have P0 := P0.step b3
    have P1 := P1.step b3
    have P2 := P2.step b3
    clear HC
    have hC := bCmp (c := c1) (c2 := c0) P1.in_ P0.in_
    rw [EN.out] at hC
    have HC := Lib.hid hC
    clear hC
    go_wp2_with fail
    refine (HC.out).mono ?_
    rintro e w4 ⟨rfl, b4⟩
    have B4 := below_step B3 b4
    have P0 := P0.step b4
    have P1 := P1.step b4
    have P2 := P2.step b4
    clear HC
    have hC := bCmp (c := c0) (c2 := c0) P0.in_ P0.in_
    rw [cmpS_self] at hC
    have HC := Lib.hid hC
    clear hC
    go_wp2_with fail
    refine (HC.out).mono ?_
    rintro e w5 ⟨rfl, b5⟩
    have B5 := below_step B4 b5
    have P0 := P0.step b5
    have P1 := P1.step b5
    have P2 := P2.step b5
    clear HC
    go_wp2_with fail
    refine (bAdd P0.in_ P2.in_ (by omega)).mono ?_
    rintro e w6 ⟨X1, q1, d1, rfl, S1, _, b6⟩
    have B6 := below_step B5 b6
    have P0 := P0.step b6
    have P1 := P1.step b6
    have P2 := P2.step b6
    have hq1 : q1 ≤ 400 := by have h := S1.1; rw [length_wd] at h; have n0 := P0.in_.bits; have n1 := P1.in_.bits; have n2 := P2.in_.bits; have := nbits_add (natOf l0) (natOf l2); omega
    go_wp2_with fail
    refine (bAdd P1.in_ P2.in_ (by omega)).mono ?_
    rintro e w7 ⟨X2, q2, d2, rfl, S2, _, b7⟩
    have B7 := below_step B6 b7
    have P0 := P0.step b7
    have P1 := P1.step b7
    have P2 := P2.step b7
    have S1 := S1.step b7
    have hq2 : q2 ≤ 400 := by have h := S2.1; rw [length_wd] at h; have n0 := P0.in_.bits; have n1 := P1.in_.bits; have n2 := P2.in_.bits; have := nbits_add (natOf l1) (natOf l2); omega
    go_wp2_with fail
    refine (bBits P0.in_).mono ?_
    rintro e w8 ⟨rfl, b8⟩
    have B8 := below_step B7 b8
    have P0 := P0.step b8
    have P1 := P1.step b8
    have P2 := P2.step b8
    have S1 := S1.step b8
    have S2 := S2.step b8
    go_wp2_with fail
    refine (bBits P2.in_).mono ?_
    rintro e w9 ⟨rfl, b9⟩
    have B9 := below_step B8 b9
    have P0 := P0.step b9
    have P1 := P1.step b9
    have P2 := P2.step b9
    have S1 := S1.step b9
    have S2 := S2.step b9
    have hC := bCmp (c := d1) (c2 := d2) S1.in_ S2.in_
    rw [cmpS_add, EX.out] at hC
    have HC := Lib.hid hC
    clear hC
    go_wp2_with fail
    refine (HC.out).mono ?_
    rintro e w10 ⟨rfl, b10⟩
    have B10 := below_step B9 b10
    have P0 := P0.step b10
    have P1 := P1.step b10
    have P2 := P2.step b10
    have S1 := S1.step b10
    have S2 := S2.step b10
    clear HC
    clear S2
    go_wp2_with fail
    refine (bBits S1.in_).mono ?_
    rintro e w11 ⟨rfl, b11⟩
    have B11 := below_step B10 b11
    have P0 := P0.step b11
    have P1 := P1.step b11
    have P2 := P2.step b11
    have S1 := S1.step b11
    go_wp2_with fail
    refine (bBits S1.in_).mono ?_
    rintro e w12 ⟨rfl, b12⟩
    have B12 := below_step B11 b12
    have P0 := P0.step b12
    have P1 := P1.step b12
    have P2 := P2.step b12
    have S1 := S1.step b12
    clear S1
    go_wp2_with fail
    refine (bBits P0.in_).mono ?_
    rintro e w13 ⟨rfl, b13⟩
    have B13 := below_step B12 b13
    have P0 := P0.step b13
    have P1 := P1.step b13
    have P2 := P2.step b13
    go_wp2_with fail
    refine (bBits P1.in_).mono ?_
    rintro e w14 ⟨rfl, b14⟩
    have B14 := below_step B13 b14
    have P0 := P0.step b14
    have P1 := P1.step b14
    have P2 := P2.step b14
    go_wp2_with fail
    refine (bSub_yes P0.in_ P1.in_ EL.out).mono ?_
    rintro e w15 ⟨X3, q3, d3, rfl, S3, _, b15⟩
    have B15 := below_step B14 b15
    have P0 := P0.step b15
    have P1 := P1.step b15
    have P2 := P2.step b15
    obtain ⟨v, hv⟩ : ∃ v, cmpS (natOf l0 - natOf l1) (natOf l0) = v := ⟨_, rfl⟩
    have hvb : v ≤ 0 := by rw [← hv]; exact cmpS_le _ _ (Nat.sub_le _ _)
    have HV := Lib.hid hv
    clear hv
    have hC := bCmp (c := d3) (c2 := c0) S3.in_ P0.in_
    rw [HV.out] at hC
    have HC := Lib.hid hC
    clear hC
    go_wp2_with fail
    refine (HC.out).mono ?_
    rintro e w16 ⟨rfl, b16⟩
    have B16 := below_step B15 b16
    have P0 := P0.step b16
    have P1 := P1.step b16
    have P2 := P2.step b16
    have S3 := S3.step b16
    clear HC
    have hq3 : q3 ≤ 400 := by have h := S3.1; rw [length_wd] at h; have n0 := P0.in_.bits; have n1 := P1.in_.bits; have n2 := P2.in_.bits; have := nbits_mono (Nat.sub_le (natOf l0) (natOf l1)); omega
    go_wp2_with fail
    refine (bAdd S3.in_ P1.in_ (by omega)).mono ?_
    rintro e w17 ⟨X4, q4, d4, rfl, S4, _, b17⟩
    have B17 := below_step B16 b17
    have P0 := P0.step b17
    have P1 := P1.step b17
    have P2 := P2.step b17
    have S3 := S3.step b17
    rw [Nat.sub_add_cancel EL.out] at S4
    have hC := bCmp (c := d4) (c2 := c0) S4.in_ P0.in_
    rw [cmpS_self] at hC
    have HC := Lib.hid hC
    clear hC
    go_wp2_with fail
    refine (HC.out).mono ?_
    rintro e w18 ⟨rfl, b18⟩
    have B18 := below_step B17 b18
    have P0 := P0.step b18
    have P1 := P1.step b18
    have P2 := P2.step b18
    have S3 := S3.step b18
    have S4 := S4.step b18
    clear HC
    go_wp2_with fail
    refine (natWorks_any _).mono ?_
    rintro e w19 ⟨rfl, b19⟩
    have B19 := below_step B18 b19
    go_wp2_with fail
    go_ret
    exact ⟨rfl, B19⟩

set_option maxHeartbeats 1000000 in
set_option maxRecDepth 100000 in
theorem natOrder_c (A0 : Option Addr) (c0 : Nat) (l0 : List Nat) (A1 : Option Addr) (c1 : Nat) (l1 : List Nat) (A2 : Option Addr) (c2 : Nat) (l2 : List Nat) (w : World) (y z : Int) (L : Nat) (P0 : RowIs w A0 l0.length c0 l0) (P1 : RowIs w A1 l1.length c1 l1) (P2 : RowIs w A2 l2.length c2 l2) (hv0 : ¬ 40 < l0.length) (hv1 : ¬ 40 < l1.length) (hv2 : ¬ 40 < l2.length)
    (hL1 : L ≤ nbits (natOf l0 + natOf l2)) (hL2 : nbits (natOf l0 + natOf l2) ≤ L + 1) (hL3 : L ≤ 5000) (hL4 : L = max (nbits (natOf l0)) (nbits (natOf l2)))
    (ex : cmpS (natOf l0) (natOf l1) = -1) (en : cmpS (natOf l1) (natOf l0) = 1) (ey : cmpS (natOf l1) (natOf l2) = 1) (ez : cmpS (natOf l0) (natOf l2) = z) (hz1 : -1 ≤ z) (hz2 : z ≤ 1) (hless : nbits (natOf l1) ≤ nbits (natOf l0)) (el : natOf l0 < natOf l1) :
    Calls Try.prog 8 #[.slice A0 l0.length c0, .slice A1 l1.length c1, .slice A2 l2.length c2] w fun e w' => e = .returned (.bool true) ∧ Below w.heap.size w w' := by
  have EX := Lib.hid ex
  have EN := Lib.hid en
  have EY := Lib.hid ey
  have EZ := Lib.hid ez
  have EL := Lib.hid el
  clear ex en ey ez el
  have hmx : (nbits (natOf l0) < nbits (natOf l2) ∧ nbits (natOf l2) ≤ nbits (natOf l0 + natOf l2) ∧ nbits (natOf l0 + natOf l2) ≤ nbits (natOf l2) + 1 ∧ nbits (natOf l2) ≤ 5000) ∨ (¬ nbits (natOf l0) < nbits (natOf l2) ∧ nbits (natOf l0) ≤ nbits (natOf l0 + natOf l2) ∧ nbits (natOf l0 + natOf l2) ≤ nbits (natOf l0) + 1 ∧ nbits (natOf l0) ≤ 5000) := by omega
  clear hL1 hL2 hL3 hL4 L
  rcases hmx with ⟨mx, mx1, mx2, mx3⟩ | ⟨mx, mx1, mx2, mx3⟩
  all_goals
    go_enter Try.func8, Try.ntmps8
    go_wp2_with fail
    refine (vast_no _ _ _ _ (by omega)).mono ?_
    rintro e w1 ⟨rfl, rfl⟩
    go_wp2_with fail
    refine (vast_no _ _ _ _ (by omega)).mono ?_
    rintro e w2 ⟨rfl, rfl⟩
    go_wp2_with fail
    refine (vast_no _ _ _ _ (by omega)).mono ?_
    rintro e w3 ⟨rfl, rfl⟩
    have hC := bCmp (c := c0) (c2 := c1) P0.in_ P1.in_
    rw [EX.out] at hC
    have HC := Lib.hid hC
    clear hC
    go_wp2_with fail
    refine (HC.out).mono ?_
    rintro e w1 ⟨rfl, b1⟩
    have B1 := b1
    have P0 := P0.step b1
    have P1 := P1.step b1
    have P2 := P2.step b1
    clear HC
    have hC := bCmp (c := c1) (c2 := c2) P1.in_ P2.in_
    rw [EY.out] at hC
    have HC := Lib.hid hC
    clear hC
    go_wp2_with fail
    refine (HC.out).mono ?_
    rintro e w2 ⟨rfl, b2⟩
    have B2 := below_step B1 b2
    have P0 := P0.step b2
    have P1 := P1.step b2
    have P2 := P2.step b2
    clear HC
    have hC := bCmp (c := c0) (c2 := c2) P0.in_ P2.in_
    rw [EZ.out] at hC
    have HC := Lib.hid hC
    clear hC
    go_wp2_with fail
    refine (HC.out).mono ?_
    rintro e w3 ⟨rfl, b3⟩
    have B3 := below_step B2 b3
    have P0 := P0.step b3
    have P1 := P1.step b3
    have P2 := P2.step b3
    clear HC
    have hC := bCmp (c := c1) (c2 := c0) P1.in_ P0.in_
    rw [EN.out] at hC
    have HC := Lib.hid hC
    clear hC
    go_wp2_with fail
    refine (HC.out).mono ?_
    rintro e w4 ⟨rfl, b4⟩
    have B4 := below_step B3 b4
    have P0 := P0.step b4
    have P1 := P1.step b4
    have P2 := P2.step b4
    clear HC
    have hC := bCmp (c := c0) (c2 := c0) P0.in_ P0.in_
    rw [cmpS_self] at hC
    have HC := Lib.hid hC
    clear hC
    go_wp2_with fail
    refine (HC.out).mono ?_
    rintro e w5 ⟨rfl, b5⟩
    have B5 := below_step B4 b5
    have P0 := P0.step b5
    have P1 := P1.step b5
    have P2 := P2.step b5
    clear HC
    go_wp2_with fail
    refine (bAdd P0.in_ P2.in_ (by omega)).mono ?_
    rintro e w6 ⟨X1, q1, d1, rfl, S1, _, b6⟩
    have B6 := below_step B5 b6
    have P0 := P0.step b6
    have P1 := P1.step b6
    have P2 := P2.step b6
    have hq1 : q1 ≤ 400 := by have h := S1.1; rw [length_wd] at h; have n0 := P0.in_.bits; have n1 := P1.in_.bits; have n2 := P2.in_.bits; have := nbits_add (natOf l0) (natOf l2); omega
    go_wp2_with fail
    refine (bAdd P1.in_ P2.in_ (by omega)).mono ?_
    rintro e w7 ⟨X2, q2, d2, rfl, S2, _, b7⟩
    have B7 := below_step B6 b7
    have P0 := P0.step b7
    have P1 := P1.step b7
    have P2 := P2.step b7
    have S1 := S1.step b7
    have hq2 : q2 ≤ 400 := by have h := S2.1; rw [length_wd] at h; have n0 := P0.in_.bits; have n1 := P1.in_.bits; have n2 := P2.in_.bits; have := nbits_add (natOf l1) (natOf l2); omega
    go_wp2_with fail
    refine (bBits P0.in_).mono ?_
    rintro e w8 ⟨rfl, b8⟩
    have B8 := below_step B7 b8
    have P0 := P0.step b8
    have P1 := P1.step b8
    have P2 := P2.step b8
    have S1 := S1.step b8
    have S2 := S2.step b8
    go_wp2_with fail
    refine (bBits P2.in_).mono ?_
    rintro e w9 ⟨rfl, b9⟩
    have B9 := below_step B8 b9
    have P0 := P0.step b9
    have P1 := P1.step b9
    have P2 := P2.step b9
    have S1 := S1.step b9
    have S2 := S2.step b9
    have hC := bCmp (c := d1) (c2 := d2) S1.in_ S2.in_
    rw [cmpS_add, EX.out] at hC
    have HC := Lib.hid hC
    clear hC
    go_wp2_with fail
    refine (HC.out).mono ?_
    rintro e w10 ⟨rfl, b10⟩
    have B10 := below_step B9 b10
    have P0 := P0.step b10
    have P1 := P1.step b10
    have P2 := P2.step b10
    have S1 := S1.step b10
    have S2 := S2.step b10
    clear HC
    clear S2
    go_wp2_with fail
    refine (bBits S1.in_).mono ?_
    rintro e w11 ⟨rfl, b11⟩
    have B11 := below_step B10 b11
    have P0 := P0.step b11
    have P1 := P1.step b11
    have P2 := P2.step b11
    have S1 := S1.step b11
    go_wp2_with fail
    refine (bBits S1.in_).mono ?_
    rintro e w12 ⟨rfl, b12⟩
    have B12 := below_step B11 b12
    have P0 := P0.step b12
    have P1 := P1.step b12
    have P2 := P2.step b12
    have S1 := S1.step b12
    clear S1
    go_wp2_with fail
    refine (bBits P0.in_).mono ?_
    rintro e w13 ⟨rfl, b13⟩
    have B13 := below_step B12 b13
    have P0 := P0.step b13
    have P1 := P1.step b13
    have P2 := P2.step b13
    go_wp2_with fail
    refine (bBits P1.in_).mono ?_
    rintro e w14 ⟨rfl, b14⟩
    have B14 := below_step B13 b14
    have P0 := P0.step b14
    have P1 := P1.step b14
    have P2 := P2.step b14
    go_wp2_with fail
    refine (bSub_no P0.in_ P1.in_ EL.out).mono ?_
    rintro e w15 ⟨X3, d3, rfl, b15⟩
    have B15 := below_step B14 b15
    have P0 := P0.step b15
    have P1 := P1.step b15
    have P2 := P2.step b15
    go_wp2_with fail
    refine (natWorks_any _).mono ?_
    rintro e w16 ⟨rfl, b16⟩
    have B16 := below_step B15 b16
    go_wp2_with fail
    go_ret
    exact ⟨rfl, B16⟩

set_option maxHeartbeats 1000000 in
set_option maxRecDepth 100000 in
theorem natOrder_d (A0 : Option Addr) (c0 : Nat) (l0 : List Nat) (A1 : Option Addr) (c1 : Nat) (l1 : List Nat) (A2 : Option Addr) (c2 : Nat) (l2 : List Nat) (w : World) (y z : Int) (L : Nat) (P0 : RowIs w A0 l0.length c0 l0) (P1 : RowIs w A1 l1.length c1 l1) (P2 : RowIs w A2 l2.length c2 l2) (hv0 : ¬ 40 < l0.length) (hv1 : ¬ 40 < l1.length) (hv2 : ¬ 40 < l2.length)
    (hL1 : L ≤ nbits (natOf l0 + natOf l2)) (hL2 : nbits (natOf l0 + natOf l2) ≤ L + 1) (hL3 : L ≤ 5000) (hL4 : L = max (nbits (natOf l0)) (nbits (natOf l2)))
    (ex : cmpS (natOf l0) (natOf l1) = -1) (en : cmpS (natOf l1) (natOf l0) = 1) (ey : cmpS (natOf l1) (natOf l2) = 1) (ez : cmpS (natOf l0) (natOf l2) = z) (hz1 : -1 ≤ z) (hz2 : z ≤ 1) (hless : nbits (natOf l0) < nbits (natOf l1)) (el : natOf l0 < natOf l1) :
    Calls Try.prog 8 #[.slice A0 l0.length c0, .slice A1 l1.length c1, .slice A2 l2.length c2] w fun e w' => e = .returned (.bool true) ∧ Below w.heap.size w w' := by
  have EX := Lib.hid ex
  have EN := Lib.hid en
  have EY := Lib.hid ey
  have EZ := Lib.hid ez
  have EL := Lib.hid el
  clear ex en ey ez el
  have hmx : (nbits (natOf l0) < nbits (natOf l2) ∧ nbits (natOf l2) ≤ nbits (natOf l0 + natOf l2) ∧ nbits (natOf l0 + natOf l2) ≤ nbits (natOf l2) + 1 ∧ nbits (natOf l2) ≤ 5000) ∨ (¬ nbits (natOf l0) < nbits (natOf l2) ∧ nbits (natOf l0) ≤ nbits (natOf l0 + natOf l2) ∧ nbits (natOf l0 + natOf l2) ≤ nbits (natOf l0) + 1 ∧ nbits (natOf l0) ≤ 5000) := by omega
  clear hL1 hL2 hL3 hL4 L
  rcases hmx with ⟨mx, mx1, mx2, mx3⟩ | ⟨mx, mx1, mx2, mx3⟩
  all_goals
    go_enter Try.func8, Try.ntmps8
    go_wp2_with fail
    refine (vast_no _ _ _ _ (by omega)).mono ?_
    rintro e w1 ⟨rfl, rfl⟩
    go_wp2_with fail
    refine (vast_no _ _ _ _ (by omega)).mono ?_
    rintro e w2 ⟨rfl, rfl⟩
    go_wp2_with fail
    refine (vast_no _ _ _ _ (by omega)).mono ?_
    rintro e w3 ⟨rfl, rfl⟩
    have hC := bCmp (c := c0) (c2 := c1) P0.in_ P1.in_
    rw [EX.out] at hC
    have HC := Lib.hid hC
    clear hC
    go_wp2_with fail
    refine (HC.out).mono ?_
    rintro e w1 ⟨rfl, b1⟩
    have B1 := b1
    have P0 := P0.step b1
    have P1 := P1.step b1
    have P2 := P2.step b1
    clear HC
    have hC := bCmp (c := c1) (c2 := c2) P1.in_ P2.in_
    rw [EY.out] at hC
    have HC := Lib.hid hC
    clear hC
    go_wp2_with fail
    refine (HC.out).mono ?_
    rintro e w2 ⟨rfl, b2⟩
    have B2 := below_step B1 b2
    have P0 := P0.step b2
    have P1 := P1.step b2
    have P2 := P2.step b2
    clear HC
    have hC := bCmp (c := c0) (c2 := c2) P0.in_ P2.in_
    rw [EZ.out] at hC
    have HC := Lib.hid hC
    clear hC
    go_wp2_with fail
    refine (HC.out).mono ?_
    rintro e w3 ⟨rfl, b3⟩
    have B3 := below_step B2 b3
    have P0 := P0.step b3
    have P1 := P1.step b3
    have P2 := P2.step b3
    clear HC
    have hC := bCmp (c := c1) (c2 := c0) P1.in_ P0.in_
    rw [EN.out] at hC
    have HC := Lib.hid hC
    clear hC
    go_wp2_with fail
    refine (HC.out).mono ?_
    rintro e w4 ⟨rfl, b4⟩
    have B4 := below_step B3 b4
    have P0 := P0.step b4
    have P1 := P1.step b4
    have P2 := P2.step b4
    clear HC
    have hC := bCmp (c := c0) (c2 := c0) P0.in_ P0.in_
    rw [cmpS_self] at hC
    have HC := Lib.hid hC
    clear hC
    go_wp2_with fail
    refine (HC.out).mono ?_
    rintro e w5 ⟨rfl, b5⟩
    have B5 := below_step B4 b5
    have P0 := P0.step b5
    have P1 := P1.step b5
    have P2 := P2.step b5
    clear HC
    go_wp2_with fail
    refine (bAdd P0.in_ P2.in_ (by omega)).mono ?_
    rintro e w6 ⟨X1, q1, d1, rfl, S1, _, b6⟩
    have B6 := below_step B5 b6
    have P0 := P0.step b6
    have P1 := P1.step b6
    have P2 := P2.step b6
    have hq1 : q1 ≤ 400 := by have h := S1.1; rw [length_wd] at h; have n0 := P0.in_.bits; have n1 := P1.in_.bits; have n2 := P2.in_.bits; have := nbits_add (natOf l0) (natOf l2); omega
    go_wp2_with fail
    refine (bAdd P1.in_ P2.in_ (by omega)).mono ?_
    rintro e w7 ⟨X2, q2, d2, rfl, S2, _, b7⟩
    have B7 := below_step B6 b7
    have P0 := P0.step b7
    have P1 := P1.step b7
    have P2 := P2.step b7
    have S1 := S1.step b7
    have hq2 : q2 ≤ 400 := by have h := S2.1; rw [length_wd] at h; have n0 := P0.in_.bits; have n1 := P1.in_.bits; have n2 := P2.in_.bits; have := nbits_add (natOf l1) (natOf l2); omega
    go_wp2_with fail
    refine (bBits P0.in_).mono ?_
    rintro e w8 ⟨rfl, b8⟩
    have B8 := below_step B7 b8
    have P0 := P0.step b8
    have P1 := P1.step b8
    have P2 := P2.step b8
    have S1 := S1.step b8
    have S2 := S2.step b8
    go_wp2_with fail
    refine (bBits P2.in_).mono ?_
    rintro e w9 ⟨rfl, b9⟩
    have B9 := below_step B8 b9
    have P0 := P0.step b9
    have P1 := P1.step b9
    have P2 := P2.step b9
    have S1 := S1.step b9
    have S2 := S2.step b9
    have hC := bCmp (c := d1) (c2 := d2) S1.in_ S2.in_
    rw [cmpS_add, EX.out] at hC
    have HC := Lib.hid hC
    clear hC
    go_wp2_with fail
    refine (HC.out).mono ?_
    rintro e w10 ⟨rfl, b10⟩
    have B10 := below_step B9 b10
    have P0 := P0.step b10
    have P1 := P1.step b10
    have P2 := P2.step b10
    have S1 := S1.step b10
    have S2 := S2.step b10
    clear HC
    clear S2
    go_wp2_with fail
    refine (bBits S1.in_).mono ?_
    rintro e w11 ⟨rfl, b11⟩
    have B11 := below_step B10 b11
    have P0 := P0.step b11
    have P1 := P1.step b11
    have P2 := P2.step b11
    have S1 := S1.step b11
    go_wp2_with fail
    refine (bBits S1.in_).mono ?_
    rintro e w12 ⟨rfl, b12⟩
    have B12 := below_step B11 b12
    have P0 := P0.step b12
    have P1 := P1.step b12
    have P2 := P2.step b12
    have S1 := S1.step b12
    clear S1
    go_wp2_with fail
    refine (bBits P0.in_).mono ?_
    rintro e w13 ⟨rfl, b13⟩
    have B13 := below_step B12 b13
    have P0 := P0.step b13
    have P1 := P1.step b13
    have P2 := P2.step b13
    go_wp2_with fail
    refine (bBits P1.in_).mono ?_
    rintro e w14 ⟨rfl, b14⟩
    have B14 := below_step B13 b14
    have P0 := P0.step b14
    have P1 := P1.step b14
    have P2 := P2.step b14
    go_wp2_with fail
    refine (bSub_no P0.in_ P1.in_ EL.out).mono ?_
    rintro e w15 ⟨X3, d3, rfl, b15⟩
    have B15 := below_step B14 b15
    have P0 := P0.step b15
    have P1 := P1.step b15
    have P2 := P2.step b15
    go_wp2_with fail
    refine (natWorks_any _).mono ?_
    rintro e w16 ⟨rfl, b16⟩
    have B16 := below_step B15 b16
    go_wp2_with fail
    go_ret
    exact ⟨rfl, B16⟩

set_option maxHeartbeats 1000000 in
set_option maxRecDepth 100000 in
theorem natOrder_e (A0 : Option Addr) (c0 : Nat) (l0 : List Nat) (A1 : Option Addr) (c1 : Nat) (l1 : List Nat) (A2 : Option Addr) (c2 : Nat) (l2 : List Nat) (w : World) (y z : Int) (L : Nat) (P0 : RowIs w A0 l0.length c0 l0) (P1 : RowIs w A1 l1.length c1 l1) (P2 : RowIs w A2 l2.length c2 l2) (hv0 : ¬ 40 < l0.length) (hv1 : ¬ 40 < l1.length) (hv2 : ¬ 40 < l2.length)
    (hL1 : L ≤ nbits (natOf l0 + natOf l2)) (hL2 : nbits (natOf l0 + natOf l2) ≤ L + 1) (hL3 : L ≤ 5000) (hL4 : L = max (nbits (natOf l0)) (nbits (natOf l2)))
    (ex : cmpS (natOf l0) (natOf l1) = 0) (en : cmpS (natOf l1) (natOf l0) = 0) (ey : cmpS (natOf l1) (natOf l2) = y) (ez : cmpS (natOf l0) (natOf l2) = z) (hy1 : -1 ≤ y) (hy2 : y ≤ 0) (hz1 : -1 ≤ z) (hz2 : z ≤ 0) (hless : nbits (natOf l1) ≤ nbits (natOf l0)) (el : natOf l1 ≤ natOf l0) :
    Calls Try.prog 8 #[.slice A0 l0.length c0, .slice A1 l1.length c1, .slice A2 l2.length c2] w fun e w' => e = .returned (.bool true) ∧ Below w.heap.size w w' := by
  have EX := Lib.hid ex
  have EN := Lib.hid en
  have EY := Lib.hid ey
  have EZ := Lib.hid ez
  have EL := Lib.hid el
  clear ex en ey ez el
  have hmx : (nbits (natOf l0) < nbits (natOf l2) ∧ nbits (natOf l2) ≤ nbits (natOf l0 + natOf l2) ∧ nbits (natOf l0 + natOf l2) ≤ nbits (natOf l2) + 1 ∧ nbits (natOf l2) ≤ 5000) ∨ (¬ nbits (natOf l0) < nbits (natOf l2) ∧ nbits (natOf l0) ≤ nbits (natOf l0 + natOf l2) ∧ nbits (natOf l0 + natOf l2) ≤ nbits (natOf l0) + 1 ∧ nbits (natOf l0) ≤ 5000) := by omega
  clear hL1 hL2 hL3 hL4 L
  rcases hmx with ⟨mx, mx1, mx2, mx3⟩ | ⟨mx, mx1, mx2, mx3⟩
  all_goals
    go_enter Try.func8, Try.ntmps8
    go_wp2_with fail
    refine (vast_no _ _ _ _ (by omega)).mono ?_
    rintro e w1 ⟨rfl, rfl⟩
    go_wp2_with fail
    refine (vast_no _ _ _ _ (by omega)).mono ?_
    rintro e w2 ⟨rfl, rfl⟩
    go_wp2_with fail
    refine (vast_no _ _ _ _ (by omega)).mono ?_
    rintro e w3 ⟨rfl, rfl⟩
    have hC := bCmp (c := c0) (c2 := c1) P0.in_ P1.in_
    rw [EX.out] at hC
    have HC := Lib.hid hC
    clear hC
    go_wp2_with fail
    refine (HC.out).mono ?_
    rintro e w1 ⟨rfl, b1⟩
    have B1 := b1
    have P0 := P0.step b1
    have P1 := P1.step b1
    have P2 := P2.step b1
    clear HC
    have hC := bCmp (c := c1) (c2 := c2) P1.in_ P2.in_
    rw [EY.out] at hC
    have HC := Lib.hid hC
    clear hC
    go_wp2_with fail
    refine (HC.out).mono ?_
    rintro e w2 ⟨rfl, b2⟩
    have B2 := below_step B1 b2
    have P0 := P0.step b2
    have P1 := P1.step b2
    have P2 := P2.step b2
    clear HC
    have hC := bCmp (c := c0) (c2 := c2) P0.in_ P2.in_
    rw [EZ.out] at hC
    have HC := Lib.hid hC
    clear hC
    go_wp2_with fail
    refine (HC.out).mono ?_
    rintro e w3 ⟨rfl, b3⟩
    have B3 := below_step B2 b3
    have P0 := P0.step b3
    have P1 := P1.step b3
    have P2 := P2.step b3
    clear HC
    have hC := bCmp (c := c1) (c2 := c0) P1.in_ P0.in_
    rw [EN.out] at hC
    have HC := Lib.hid hC
    clear hC
    go_wp2_with fail
    refine (HC.out).mono ?_
    rintro e w4 ⟨rfl, b4⟩
    have B4 := below_step B3 b4
    have P0 := P0.step b4
    have P1 := P1.step b4
    have P2 := P2.step b4
    clear HC
    have hC := bCmp (c := c0) (c2 := c0) P0.in_ P0.in_
    rw [cmpS_self] at hC
    have HC := Lib.hid hC
    clear hC
    go_wp2_with fail
    refine (HC.out).mono ?_
    rintro e w5 ⟨rfl, b5⟩
    have B5 := below_step B4 b5
    have P0 := P0.step b5
    have P1 := P1.step b5
    have P2 := P2.step b5
    clear HC
    go_wp2_with fail
    refine (bAdd P0.in_ P2.in_ (by omega)).mono ?_
    rintro e w6 ⟨X1, q1, d1, rfl, S1, _, b6⟩
    have B6 := below_step B5 b6
    have P0 := P0.step b6
    have P1 := P1.step b6
    have P2 := P2.step b6
    have hq1 : q1 ≤ 400 := by have h := S1.1; rw [length_wd] at h; have n0 := P0.in_.bits; have n1 := P1.in_.bits; have n2 := P2.in_.bits; have := nbits_add (natOf l0) (natOf l2); omega
    go_wp2_with fail
    refine (bAdd P1.in_ P2.in_ (by omega)).mono ?_
    rintro e w7 ⟨X2, q2, d2, rfl, S2, _, b7⟩
    have B7 := below_step B6 b7
    have P0 := P0.step b7
    have P1 := P1.step b7
    have P2 := P2.step b7
    have S1 := S1.step b7
    have hq2 : q2 ≤ 400 := by have h := S2.1; rw [length_wd] at h; have n0 := P0.in_.bits; have n1 := P1.in_.bits; have n2 := P2.in_.bits; have := nbits_add (natOf l1) (natOf l2); omega
    go_wp2_with fail
    refine (bBits P0.in_).mono ?_
    rintro e w8 ⟨rfl, b8⟩
    have B8 := below_step B7 b8
    have P0 := P0.step b8
    have P1 := P1.step b8
    have P2 := P2.step b8
    have S1 := S1.step b8
    have S2 := S2.step b8
    go_wp2_with fail
    refine (bBits P2.in_).mono ?_
    rintro e w9 ⟨rfl, b9⟩
    have B9 := below_step B8 b9
    have P0 := P0.step b9
    have P1 := P1.step b9
    have P2 := P2.step b9
    have S1 := S1.step b9
    have S2 := S2.step b9
    have hC := bCmp (c := d1) (c2 := d2) S1.in_ S2.in_
    rw [cmpS_add, EX.out] at hC
    have HC := Lib.hid hC
    clear hC
    go_wp2_with fail
    refine (HC.out).mono ?_
    rintro e w10 ⟨rfl, b10⟩
    have B10 := below_step B9 b10
    have P0 := P0.step b10
    have P1 := P1.step b10
    have P2 := P2.step b10
    have S1 := S1.step b10
    have S2 := S2.step b10
    clear HC
    clear S2
    go_wp2_with fail
    refine (bBits S1.in_).mono ?_
    rintro e w11 ⟨rfl, b11⟩
    have B11 := below_step B10 b11
    have P0 := P0.step b11
    have P1 := P1.step b11
    have P2 := P2.step b11
    have S1 := S1.step b11
    go_wp2_with fail
    refine (bBits S1.in_).mono ?_
    rintro e w12 ⟨rfl, b12⟩
    have B12 := below_step B11 b12
    have P0 := P0.step b12
    have P1 := P1.step b12
    have P2 := P2.step b12
    have S1 := S1.step b12
    clear S1
    go_wp2_with fail
    refine (bBits P0.in_).mono ?_
    rintro e w13 ⟨rfl, b13⟩
    have B13 := below_step B12 b13
    have P0 := P0.step b13
    have P1 := P1.step b13
    have P2 := P2.step b13
    go_wp2_with fail
    refine (bBits P1.in_).mono ?_
    rintro e w14 ⟨rfl, b14⟩
    have B14 := below_step B13 b14
    have P0 := P0.step b14
    have P1 := P1.step b14
    have P2 := P2.step b14
    go_wp2_with fail
    refine (bSub_yes P0.in_ P1.in_ EL.out).mono ?_
    rintro e w15 ⟨X3, q3, d3, rfl, S3, _, b15⟩
    have B15 := below_step B14 b15
    have P0 := P0.step b15
    have P1 := P1.step b15
    have P2 := P2.step b15
    obtain ⟨v, hv⟩ : ∃ v, cmpS (natOf l0 - natOf l1) (natOf l0) = v := ⟨_, rfl⟩
    have hvb : v ≤ 0 := by rw [← hv]; exact cmpS_le _ _ (Nat.sub_le _ _)
    have HV := Lib.hid hv
    clear hv
    have hC := bCmp (c := d3) (c2 := c0) S3.in_ P0.in_
    rw [HV.out] at hC
    have HC := Lib.hid hC
    clear hC
    go_wp2_with fail
    refine (HC.out).mono ?_
    rintro e w16 ⟨rfl, b16⟩
    have B16 := below_step B15 b16
    have P0 := P0.step b16
    have P1 := P1.step b16
    have P2 := P2.step b16
    have S3 := S3.step b16
    clear HC
    have hq3 : q3 ≤ 400 := by have h := S3.1; rw [length_wd] at h; have n0 := P0.in_.bits; have n1 := P1.in_.bits; have n2 := P2.in_.bits; have := nbits_mono (Nat.sub_le (natOf l0) (natOf l1)); omega
    go_wp2_with fail
    refine (bAdd S3.in_ P1.in_ (by omega)).mono ?_
    rintro e w17 ⟨X4, q4, d4, rfl, S4, _, b17⟩
    have B17 := below_step B16 b17
    have P0 := P0.step b17
    have P1 := P1.step b17
    have P2 := P2.step b17
    have S3 := S3.step b17
    rw [Nat.sub_add_cancel EL.out] at S4
    have hC := bCmp (c := d4) (c2 := c0) S4.in_ P0.in_
    rw [cmpS_self] at hC
    have HC := Lib.hid hC
    clear hC
    go_wp2_with fail
    refine (HC.out).mono ?_
    rintro e w18 ⟨rfl, b18⟩
    have B18 := below_step B17 b18
    have P0 := P0.step b18
    have P1 := P1.step b18
    have P2 := P2.step b18
    have S3 := S3.step b18
    have S4 := S4.step b18
    clear HC
    go_wp2_with fail
    refine (natWorks_any _).mono ?_
    rintro e w19 ⟨rfl, b19⟩
    have B19 := below_step B18 b19
    go_wp2_with fail
    go_ret
    exact ⟨rfl, B19⟩

set_option maxHeartbeats 1000000 in
set_option maxRecDepth 100000 in
theorem natOrder_f (A0 : Option Addr) (c0 : Nat) (l0 : List Nat) (A1 : Option Addr) (c1 : Nat) (l1 : List Nat) (A2 : Option Addr) (c2 : Nat) (l2 : List Nat) (w : World) (y z : Int) (L : Nat) (P0 : RowIs w A0 l0.length c0 l0) (P1 : RowIs w A1 l1.length c1 l1) (P2 : RowIs w A2 l2.length c2 l2) (hv0 : ¬ 40 < l0.length) (hv1 : ¬ 40 < l1.length) (hv2 : ¬ 40 < l2.length)
    (hL1 : L ≤ nbits (natOf l0 + natOf l2)) (hL2 : nbits (natOf l0 + natOf l2) ≤ L + 1) (hL3 : L ≤ 5000) (hL4 : L = max (nbits (natOf l0)) (nbits (natOf l2)))
    (ex : cmpS (natOf l0) (natOf l1) = -1) (en : cmpS (natOf l1) (natOf l0) = 1) (ey : cmpS (natOf l1) (natOf l2) = y) (ez : cmpS (natOf l0) (natOf l2) = -1) (hy1 : -1 ≤ y) (hy2 : y ≤ 0) (hless : nbits (natOf l1) ≤ nbits (natOf l0)) (el : natOf l0 < natOf l1) :
    Calls Try.prog 8 #[.slice A0 l0.length c0, .slice A1 l1.length c1, .slice A2 l2.length c2] w fun e w' => e = .returned (.bool true) ∧ Below w.heap.size w w' := by
  have EX := Lib.hid ex
  have EN := Lib.hid en
  have EY := Lib.hid ey
  have EZ := Lib.hid ez
  have EL := Lib.hid el
  clear ex en ey ez el
  have hmx : (nbits (natOf l0) < nbits (natOf l2) ∧ nbits (natOf l2) ≤ nbits (natOf l0 + natOf l2) ∧ nbits (natOf l0 + natOf l2) ≤ nbits (natOf l2) + 1 ∧ nbits (natOf l2) ≤ 5000) ∨ (¬ nbits (natOf l0) < nbits (natOf l2) ∧ nbits (natOf l0) ≤ nbits (natOf l0 + natOf l2) ∧ nbits (natOf l0 + natOf l2) ≤ nbits (natOf l0) + 1 ∧ nbits (natOf l0) ≤ 5000) := by omega
  clear hL1 hL2 hL3 hL4 L
  rcases hmx with ⟨mx, mx1, mx2, mx3⟩ | ⟨mx, mx1, mx2, mx3⟩
  all_goals
    go_enter Try.func8, Try.ntmps8
    go_wp2_with fail
    refine (vast_no _ _ _ _ (by omega)).mono ?_
    rintro e w1 ⟨rfl, rfl⟩
    go_wp2_with fail
    refine (vast_no _ _ _ _ (by omega)).mono ?_
    rintro e w2 ⟨rfl, rfl⟩
    go_wp2_with fail
    refine (vast_no _ _ _ _ (by omega)).mono ?_
    rintro e w3 ⟨rfl, rfl⟩
    have hC := bCmp (c := c0) (c2 := c1) P0.in_ P1.in_
    rw [EX.out] at hC
    have HC := Lib.hid hC
    clear hC
    go_wp2_with fail
    refine (HC.out).mono ?_
    rintro e w1 ⟨rfl, b1⟩
    have B1 := b1
    have P0 := P0.step b1
    have P1 := P1.step b1
    have P2 := P2.step b1
    clear HC
    have hC := bCmp (c := c1) (c2 := c2) P1.in_ P2.in_
    rw [EY.out] at hC
    have HC := Lib.hid hC
    clear hC
    go_wp2_with fail
    refine (HC.out).mono ?_
    rintro e w2 ⟨rfl, b2⟩
    have B2 := below_step B1 b2
    have P0 := P0.step b2
    have P1 := P1.step b2
    have P2 := P2.step b2
    clear HC
    have hC := bCmp (c := c0) (c2 := c2) P0.in_ P2.in_
    rw [EZ.out] at hC
    have HC := Lib.hid hC
    clear hC
    go_wp2_with fail
    refine (HC.out).mono ?_
    rintro e w3 ⟨rfl, b3⟩
    have B3 := below_step B2 b3
    have P0 := P0.step b3
    have P1 := P1.step b3
    have P2 := P2.step b3
    clear HC
    have hC := bCmp (c := c1) (c2 := c0) P1.in_ P0.in_
    rw [EN.out] at hC
    have HC := Lib.hid hC
    clear hC
    go_wp2_with fail
    refine (HC.out).mono ?_
    rintro e w4 ⟨rfl, b4⟩
    have B4 := below_step B3 b4
    have P0 := P0.step b4
    have P1 := P1.step b4
    have P2 := P2.step b4
    clear HC
    have hC := bCmp (c := c0) (c2 := c0) P0.in_ P0.in_
    rw [cmpS_self] at hC
    have HC := Lib.hid hC
    clear hC
    go_wp2_with fail
    refine (HC.out).mono ?_
    rintro e w5 ⟨rfl, b5⟩
    have B5 := below_step B4 b5
    have P0 := P0.step b5
    have P1 := P1.step b5
    have P2 := P2.step b5
    clear HC
    go_wp2_with fail
    refine (bAdd P0.in_ P2.in_ (by omega)).mono ?_
    rintro e w6 ⟨X1, q1, d1, rfl, S1, _, b6⟩
    have B6 := below_step B5 b6
    have P0 := P0.step b6
    have P1 := P1.step b6
    have P2 := P2.step b6
    have hq1 : q1 ≤ 400 := by have h := S1.1; rw [length_wd] at h; have n0 := P0.in_.bits; have n1 := P1.in_.bits; have n2 := P2.in_.bits; have := nbits_add (natOf l0) (natOf l2); omega
    go_wp2_with fail
    refine (bAdd P1.in_ P2.in_ (by omega)).mono ?_
    rintro e w7 ⟨X2, q2, d2, rfl, S2, _, b7⟩
    have B7 := below_step B6 b7
    have P0 := P0.step b7
    have P1 := P1.step b7
    have P2 := P2.step b7
    have S1 := S1.step b7
    have hq2 : q2 ≤ 400 := by have h := S2.1; rw [length_wd] at h; have n0 := P0.in_.bits; have n1 := P1.in_.bits; have n2 := P2.in_.bits; have := nbits_add (natOf l1) (natOf l2); omega
    go_wp2_with fail
    refine (bBits P0.in_).mono ?_
    rintro e w8 ⟨rfl, b8⟩
    have B8 := below_step B7 b8
    have P0 := P0.step b8
    have P1 := P1.step b8
    have P2 := P2.step b8
    have S1 := S1.step b8
    have S2 := S2.step b8
    go_wp2_with fail
    refine (bBits P2.in_).mono ?_
    rintro e w9 ⟨rfl, b9⟩
    have B9 := below_step B8 b9
    have P0 := P0.step b9
    have P1 := P1.step b9
    have P2 := P2.step b9
    have S1 := S1.step b9
    have S2 := S2.step b9
    have hC := bCmp (c := d1) (c2 := d2) S1.in_ S2.in_
    rw [cmpS_add, EX.out] at hC
    have HC := Lib.hid hC
    clear hC
    go_wp2_with fail
    refine (HC.out).mono ?_
    rintro e w10 ⟨rfl, b10⟩
    have B10 := below_step B9 b10
    have P0 := P0.step b10
    have P1 := P1.step b10
    have P2 := P2.step b10
    have S1 := S1.step b10
    have S2 := S2.step b10
    clear HC
    clear S2
    go_wp2_with fail
    refine (bBits S1.in_).mono ?_
    rintro e w11 ⟨rfl, b11⟩
    have B11 := below_step B10 b11
    have P0 := P0.step b11
    have P1 := P1.step b11
    have P2 := P2.step b11
    have S1 := S1.step b11
    go_wp2_with fail
    refine (bBits S1.in_).mono ?_
    rintro e w12 ⟨rfl, b12⟩
    have B12 := below_step B11 b12
    have P0 := P0.step b12
    have P1 := P1.step b12
    have P2 := P2.step b12
    have S1 := S1.step b12
    clear S1
    go_wp2_with fail
    refine (bBits P0.in_).mono ?_
    rintro e w13 ⟨rfl, b13⟩
    have B13 := below_step B12 b13
    have P0 := P0.step b13
    have P1 := P1.step b13
    have P2 := P2.step b13
    go_wp2_with fail
    refine (bBits P1.in_).mono ?_
    rintro e w14 ⟨rfl, b14⟩
    have B14 := below_step B13 b14
    have P0 := P0.step b14
    have P1 := P1.step b14
    have P2 := P2.step b14
    go_wp2_with fail
    refine (bSub_no P0.in_ P1.in_ EL.out).mono ?_
    rintro e w15 ⟨X3, d3, rfl, b15⟩
    have B15 := below_step B14 b15
    have P0 := P0.step b15
    have P1 := P1.step b15
    have P2 := P2.step b15
    go_wp2_with fail
    refine (natWorks_any _).mono ?_
    rintro e w16 ⟨rfl, b16⟩
    have B16 := below_step B15 b16
    go_wp2_with fail
    go_ret
    exact ⟨rfl, B16⟩

set_option maxHeartbeats 1000000 in
set_option maxRecDepth 100000 in
theorem natOrder_g (A0 : Option Addr) (c0 : Nat) (l0 : List Nat) (A1 : Option Addr) (c1 : Nat) (l1 : List Nat) (A2 : Option Addr) (c2 : Nat) (l2 : List Nat) (w : World) (y z : Int) (L : Nat) (P0 : RowIs w A0 l0.length c0 l0) (P1 : RowIs w A1 l1.length c1 l1) (P2 : RowIs w A2 l2.length c2 l2) (hv0 : ¬ 40 < l0.length) (hv1 : ¬ 40 < l1.length) (hv2 : ¬ 40 < l2.length)
    (hL1 : L ≤ nbits (natOf l0 + natOf l2)) (hL2 : nbits (natOf l0 + natOf l2) ≤ L + 1) (hL3 : L ≤ 5000) (hL4 : L = max (nbits (natOf l0)) (nbits (natOf l2)))
    (ex : cmpS (natOf l0) (natOf l1) = -1) (en : cmpS (natOf l1) (natOf l0) = 1) (ey : cmpS (natOf l1) (natOf l2) = y) (ez : cmpS (natOf l0) (natOf l2) = -1) (hy1 : -1 ≤ y) (hy2 : y ≤ 0) (hless : nbits (natOf l0) < nbits (natOf l1)) (el : natOf l0 < natOf l1) :
    Calls Try.prog 8 #[.slice A0 l0.length c0, .slice A1 l1.length c1, .slice A2 l2.length c2] w fun e w' => e = .returned (.bool true) ∧ Below w.heap.size w w' := by
  have EX := Lib.hid ex
  have EN := Lib.hid en
  have EY := Lib.hid ey
  have EZ := Lib.hid ez
  have EL := Lib.hid el
  clear ex en ey ez el
  have hmx : (nbits (natOf l0) < nbits (natOf l2) ∧ nbits (natOf l2) ≤ nbits (natOf l0 + natOf l2) ∧ nbits (natOf l0 + natOf l2) ≤ nbits (natOf l2) + 1 ∧ nbits (natOf l2) ≤ 5000) ∨ (¬ nbits (natOf l0) < nbits (natOf l2) ∧ nbits (natOf l0) ≤ nbits (natOf l0 + natOf l2) ∧ nbits (natOf l0 + natOf l2) ≤ nbits (natOf l0) + 1 ∧ nbits (natOf l0) ≤ 5000) := by omega
  clear hL1 hL2 hL3 hL4 L
  rcases hmx with ⟨mx, mx1, mx2, mx3⟩ | ⟨mx, mx1, mx2, mx3⟩
  all_goals
    go_enter Try.func8, Try.ntmps8
    go_wp2_with fail
    refine (vast_no _ _ _ _ (by omega)).mono ?_
    rintro e w1 ⟨rfl, rfl⟩
    go_wp2_with fail
    refine (vast_no _ _ _ _ (by omega)).mono ?_
    rintro e w2 ⟨rfl, rfl⟩
    go_wp2_with fail
    refine (vast_no _ _ _ _ (by omega)).mono ?_
    rintro e w3 ⟨rfl, rfl⟩
    have hC := bCmp (c := c0) (c2 := c1) P0.in_ P1.in_
    rw [EX.out] at hC
    have HC := Lib.hid hC
    clear hC
    go_wp2_with fail
    refine (HC.out).mono ?_
    rintro e w1 ⟨rfl, b1⟩
    have B1 := b1
    have P0 := P0.step b1
    have P1 := P1.step b1
    have P2 := P2.step b1
    clear HC
    have hC := bCmp (c := c1) (c2 := c2) P1.in_ P2.in_
    rw [EY.out] at hC
    have HC := Lib.hid hC
    clear hC
    go_wp2_with fail
    refine (HC.out).mono ?_
    rintro e w2 ⟨rfl, b2⟩
    have B2 := below_step B1 b2
    have P0 := P0.step b2
    have P1 := P1.step b2
    have P2 := P2.step b2
    clear HC
    have hC := bCmp (c := c0) (c2 := c2) P0.in_ P2.in_
    rw [EZ.out] at hC
    have HC := Lib.hid hC
    clear hC
    go_wp2_with fail
    refine (HC.out).mono ?_
    rintro e w3 ⟨rfl, b3⟩
    have B3 := below_step B2 b3
    have P0 := P0.step b3
    have P1 := P1.step b3
    have P2 := P2.step b3
    clear HC
    have hC := bCmp (c := c1) (c2 := c0) P1.in_ P0.in_
    rw [EN.out] at hC
    have HC := Lib.hid hC
    clear hC
    go_wp2_with fail
    refine (HC.out).mono ?_
    rintro e w4 ⟨rfl, b4⟩
    have B4 := below_step B3 b4
    have P0 := P0.step b4
    have P1 := P1.step b4
    have P2 := P2.step b4
    clear HC
    have hC := bCmp (c := c0) (c2 := c0) P0.in_ P0.in_
    rw [cmpS_self] at hC
    have HC := Lib.hid hC
    clear hC
    go_wp2_with fail
    refine (HC.out).mono ?_
    rintro e w5 ⟨rfl, b5⟩
    have B5 := below_step B4 b5
    have P0 := P0.step b5
    have P1 := P1.step b5
    have P2 := P2.step b5
    clear HC
    go_wp2_with fail
    refine (bAdd P0.in_ P2.in_ (by omega)).mono ?_
    rintro e w6 ⟨X1, q1, d1, rfl, S1, _, b6⟩
    have B6 := below_step B5 b6
    have P0 := P0.step b6
    have P1 := P1.step b6
    have P2 := P2.step b6
    have hq1 : q1 ≤ 400 := by have h := S1.1; rw [length_wd] at h; have n0 := P0.in_.bits; have n1 := P1.in_.bits; have n2 := P2.in_.bits; have := nbits_add (natOf l0) (natOf l2); omega
    go_wp2_with fail
    refine (bAdd P1.in_ P2.in_ (by omega)).mono ?_
    rintro e w7 ⟨X2, q2, d2, rfl, S2, _, b7⟩
    have B7 := below_step B6 b7
    have P0 := P0.step b7
    have P1 := P1.step b7
    have P2 := P2.step b7
    have S1 := S1.step b7
    have hq2 : q2 ≤ 400 := by have h := S2.1; rw [length_wd] at h; have n0 := P0.in_.bits; have n1 := P1.in_.bits; have n2 := P2.in_.bits; have := nbits_add (natOf l1) (natOf l2); omega
    go_wp2_with fail
    refine (bBits P0.in_).mono ?_
    rintro e w8 ⟨rfl, b8⟩
    have B8 := below_step B7 b8
    have P0 := P0.step b8
    have P1 := P1.step b8
    have P2 := P2.step b8
    have S1 := S1.step b8
    have S2 := S2.step b8
    go_wp2_with fail
    refine (bBits P2.in_).mono ?_
    rintro e w9 ⟨rfl, b9⟩
    have B9 := below_step B8 b9
    have P0 := P0.step b9
    have P1 := P1.step b9
    have P2 := P2.step b9
    have S1 := S1.step b9
    have S2 := S2.step b9
    have hC := bCmp (c := d1) (c2 := d2) S1.in_ S2.in_
    rw [cmpS_add, EX.out] at hC
    have HC := Lib.hid hC
    clear hC
    go_wp2_with fail
    refine (HC.out).mono ?_
    rintro e w10 ⟨rfl, b10⟩
    have B10 := below_step B9 b10
    have P0 := P0.step b10
    have P1 := P1.step b10
    have P2 := P2.step b10
    have S1 := S1.step b10
    have S2 := S2.step b10
    clear HC
    clear S2
    go_wp2_with fail
    refine (bBits S1.in_).mono ?_
    rintro e w11 ⟨rfl, b11⟩
    have B11 := below_step B10 b11
    have P0 := P0.step b11
    have P1 := P1.step b11
    have P2 := P2.step b11
    have S1 := S1.step b11
    go_wp2_with fail
    refine (bBits S1.in_).mono ?_
    rintro e w12 ⟨rfl, b12⟩
    have B12 := below_step B11 b12
    have P0 := P0.step b12
    have P1 := P1.step b12
    have P2 := P2.step b12
    have S1 := S1.step b12
    clear S1
    go_wp2_with fail
    refine (bBits P0.in_).mono ?_
    rintro e w13 ⟨rfl, b13⟩
    have B13 := below_step B12 b13
    have P0 := P0.step b13
    have P1 := P1.step b13
    have P2 := P2.step b13
    go_wp2_with fail
    refine (bBits P1.in_).mono ?_
    rintro e w14 ⟨rfl, b14⟩
    have B14 := below_step B13 b14
    have P0 := P0.step b14
    have P1 := P1.step b14
    have P2 := P2.step b14
    go_wp2_with fail
    refine (bSub_no P0.in_ P1.in_ EL.out).mono ?_
    rintro e w15 ⟨X3, d3, rfl, b15⟩
    have B15 := below_step B14 b15
    have P0 := P0.step b15
    have P1 := P1.step b15
    have P2 := P2.step b15
    go_wp2_with fail
    refine (natWorks_any _).mono ?_
    rintro e w16 ⟨rfl, b16⟩
    have B16 := below_step B15 b16
    go_wp2_with fail
    go_ret
    exact ⟨rfl, B16⟩

theorem natOrder_walk (A0 : Option Addr) (c0 : Nat) (l0 : List Nat) (A1 : Option Addr) (c1 : Nat) (l1 : List Nat) (A2 : Option Addr) (c2 : Nat) (l2 : List Nat) (w : World) (r0 : Rd .u64 w w.heap.size A0 l0) (y0 : Words l0) (_z0 : l0.length * 8 ≤ 140737488351232) (u0 : l0.length ≤ c0)
    (r1 : Rd .u64 w w.heap.size A1 l1) (y1 : Words l1) (_z1 : l1.length * 8 ≤ 140737488351232) (u1 : l1.length ≤ c1) (r2 : Rd .u64 w w.heap.size A2 l2) (y2 : Words l2) (_z2 : l2.length * 8 ≤ 140737488351232) (u2 : l2.length ≤ c2) :
    Calls Try.prog 8 #[.slice A0 l0.length c0, .slice A1 l1.length c1, .slice A2 l2.length c2] w fun e w' => e = .returned (.bool true) ∧ Below w.heap.size w w' := by
  by_cases hv0 : 40 < l0.length
  · skip
    go_enter Try.func8, Try.ntmps8
    go_wp2_with fail
    refine (vast_yes _ _ _ _ hv0).mono ?_
    rintro e w1 ⟨rfl, rfl⟩
    go_wp2_with fail
    refine (natWorks_any _).mono ?_
    rintro e w1 ⟨rfl, b1⟩
    go_wp2_with fail
    go_ret
    exact ⟨rfl, b1⟩
  · by_cases hv1 : 40 < l1.length
    · skip
      go_enter Try.func8, Try.ntmps8
      go_wp2_with fail
      refine (vast_no _ _ _ _ (by omega)).mono ?_
      rintro e w1 ⟨rfl, rfl⟩
      go_wp2_with fail
      refine (vast_yes _ _ _ _ hv1).mono ?_
      rintro e w1 ⟨rfl, rfl⟩
      go_wp2_with fail
      refine (natWorks_any _).mono ?_
      rintro e w1 ⟨rfl, b1⟩
      go_wp2_with fail
      go_ret
      exact ⟨rfl, b1⟩
    · by_cases hv2 : 40 < l2.length
      · skip
        go_enter Try.func8, Try.ntmps8
        go_wp2_with fail
        refine (vast_no _ _ _ _ (by omega)).mono ?_
        rintro e w1 ⟨rfl, rfl⟩
        go_wp2_with fail
        refine (vast_no _ _ _ _ (by omega)).mono ?_
        rintro e w1 ⟨rfl, rfl⟩
        go_wp2_with fail
        refine (vast_yes _ _ _ _ hv2).mono ?_
        rintro e w1 ⟨rfl, rfl⟩
        go_wp2_with fail
        refine (natWorks_any _).mono ?_
        rintro e w1 ⟨rfl, b1⟩
        go_wp2_with fail
        go_ret
        exact ⟨rfl, b1⟩
      · have P0 : RowIs w A0 l0.length c0 l0 := ⟨rfl, y0, by omega, r0, u0⟩
        have P1 : RowIs w A1 l1.length c1 l1 := ⟨rfl, y1, by omega, r1, u1⟩
        have P2 : RowIs w A2 l2.length c2 l2 := ⟨rfl, y2, by omega, r2, u2⟩
        have n0 := P0.in_.bits
        have n2 := P2.in_.bits
        obtain ⟨s1, s2⟩ := nbits_sum (natOf l0) (natOf l2)
        have hL3 : max (nbits (natOf l0)) (nbits (natOf l2)) ≤ 5000 := by omega
        have by_ := cmpS_bound (natOf l1) (natOf l2)
        have bz := cmpS_bound (natOf l0) (natOf l2)
        rcases Nat.lt_trichotomy (natOf l0) (natOf l1) with h | h | h
        · have ex := cmpS_lt _ _ h
          have en := cmpS_gt _ _ h
          rcases Nat.lt_or_ge (natOf l2) (natOf l1) with h' | h'
          · have ey := cmpS_gt _ _ h'
            rcases Nat.lt_or_ge (nbits (natOf l0)) (nbits (natOf l1)) with hl | hl
            · exact natOrder_d A0 c0 l0 A1 c1 l1 A2 c2 l2 w 0 _ _ P0 P1 P2 hv0 hv1 hv2 s1 s2 hL3 rfl ex en ey rfl bz.1 bz.2 hl h
            · exact natOrder_c A0 c0 l0 A1 c1 l1 A2 c2 l2 w 0 _ _ P0 P1 P2 hv0 hv1 hv2 s1 s2 hL3 rfl ex en ey rfl bz.1 bz.2 hl h
          · have ez := cmpS_lt (natOf l0) (natOf l2) (by omega)
            rcases Nat.lt_or_ge (nbits (natOf l0)) (nbits (natOf l1)) with hl | hl
            · exact natOrder_g A0 c0 l0 A1 c1 l1 A2 c2 l2 w _ 0 _ P0 P1 P2 hv0 hv1 hv2 s1 s2 hL3 rfl ex en rfl ez by_.1 (cmpS_le _ _ h') hl h
            · exact natOrder_f A0 c0 l0 A1 c1 l1 A2 c2 l2 w _ 0 _ P0 P1 P2 hv0 hv1 hv2 s1 s2 hL3 rfl ex en rfl ez by_.1 (cmpS_le _ _ h') hl h
        · have ex : cmpS (natOf l0) (natOf l1) = 0 := by rw [h]; exact cmpS_self _
          have en : cmpS (natOf l1) (natOf l0) = 0 := by rw [h]; exact cmpS_self _
          have hl : nbits (natOf l1) ≤ nbits (natOf l0) := by rw [h]; exact Nat.le_refl _
          rcases Nat.lt_or_ge (natOf l2) (natOf l1) with h' | h'
          · exact natOrder_b A0 c0 l0 A1 c1 l1 A2 c2 l2 w 0 _ _ P0 P1 P2 hv0 hv1 hv2 s1 s2 hL3 rfl ex en (cmpS_gt _ _ h') rfl bz.1 bz.2 hl (by omega)
          · exact natOrder_e A0 c0 l0 A1 c1 l1 A2 c2 l2 w _ _ _ P0 P1 P2 hv0 hv1 hv2 s1 s2 hL3 rfl ex en rfl rfl by_.1 (cmpS_le _ _ h') bz.1 (cmpS_le _ _ (by omega)) hl (by omega)
        · exact natOrder_a A0 c0 l0 A1 c1 l1 A2 c2 l2 w _ _ _ P0 P1 P2 hv0 hv1 hv2 s1 s2 hL3 rfl (cmpS_gt _ _ h) (cmpS_lt _ _ h) rfl rfl by_.1 by_.2 bz.1 bz.2 (nbits_mono (by omega)) (by omega)
end Go.Proofs.Ytnhoooadnpdnmaa

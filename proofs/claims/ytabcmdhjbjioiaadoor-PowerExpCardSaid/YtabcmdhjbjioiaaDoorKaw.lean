/- Several texts in one; each begins with a remark that says what it shows and on which conditions. -/
import Derived.Test.YtabcmdhjbjioiaaDoorKav
/- PowerExp' walk: it answers true, and writes nothing that was there. No condition but what the arguments' types give. -/
namespace Go.Proofs.YtabcmdhjbjioiaaDoor
open Go.RowKit
set_option maxHeartbeats 4000000 in
theorem exp_slo_slo (A0 : Option Addr) (c0 : Nat) (l0 : List Nat) (A1 : Option Addr) (c1 : Nat) (l1 : List Nat) (A2 : Option Addr) (c2 : Nat) (l2 : List Nat) (w : World) (P0 : RowIs w A0 l0.length c0 l0) (P1 : RowIs w A1 l1.length c1 l1) (P2 : RowIs w A2 l2.length c2 l2) (h0 : l0.length ≤ 6) (he : l1.length ≤ 2) (hm : l2.length ≤ 4) (ke : nbits (natOf l1) ≤ 256) (km : nbits (natOf l2) ≤ 256) (hL : Laid8 w) :
    Calls Tryd.prog 3 #[.slice A0 l0.length c0, .slice A1 l1.length c1, .slice A2 l2.length c2] w fun e w' => e = .returned (.bool true) ∧ Below w.heap.size w w' := by
  have HLd := Lib.hid hL
  clear hL
  have g0 : decide (6 < (l0.length : Int)) = false := by simp; omega
  have ge1 : decide (2 < (l1.length : Int)) = false := by simp; omega
  have ge3 : decide (70 < (l1.length : Int)) = false := by simp; omega
  have gm1 : decide (4 < (l2.length : Int)) = false := by simp; omega
  have gm3 : decide (70 < (l2.length : Int)) = false := by simp; omega
  have n0 := P0.in_.bits
  by_cases hm : natOf l2 = 0
  · have HM := Lib.hid hm
    clear hm
    go_enter Tryd.func3, Tryd.ntmps3
    go_wp2_with fail
    refine (bCopy (c := c0) P0).mono ?_
    rintro e w1 ⟨X1, d1, rfl, Q1, b1⟩
    have B1 := b1
    have P0 := P0.step b1
    have P1 := P1.step b1
    have P2 := P2.step b1
    go_wp2_with fail
    refine (bCopy (c := c1) P1).mono ?_
    rintro e w2 ⟨X2, d2, rfl, Q2, b2⟩
    have B2 := below_step B1 b2
    have P0 := P0.step b2
    have P1 := P1.step b2
    have P2 := P2.step b2
    have Q1 := Q1.step b2
    go_wp2_with fail
    refine (bCopy (c := c2) P2).mono ?_
    rintro e w3 ⟨X3, d3, rfl, Q3, b3⟩
    have B3 := below_step B2 b3
    have P0 := P0.step b3
    have P1 := P1.step b3
    have P2 := P2.step b3
    have Q1 := Q1.step b3
    have Q2 := Q2.step b3
    go_wp2_with fail
    refine (bExp_zero Q1.in_ Q2.in_ Q3.in_ HM.out (by omega) (by omega) (by omega)).mono ?_
    rintro e w4 ⟨X4, d4, rfl, b4⟩
    have B4 := below_step B3 b4
    have P0 := P0.step b4
    have P1 := P1.step b4
    have P2 := P2.step b4
    have Q1 := Q1.step b4
    have Q2 := Q2.step b4
    have Q3 := Q3.step b4
    go_wp2_with fail
    refine (bSameRow (c := d1) (c2 := c0) Q1 P0).mono ?_
    rintro e w5 ⟨rfl, b5⟩
    have B5 := below_step B4 b5
    have P0 := P0.step b5
    have P1 := P1.step b5
    have P2 := P2.step b5
    have Q1 := Q1.step b5
    have Q2 := Q2.step b5
    have Q3 := Q3.step b5
    go_wp2_with fail
    refine (bSameRow (c := d2) (c2 := c1) Q2 P1).mono ?_
    rintro e w6 ⟨rfl, b6⟩
    have B6 := below_step B5 b6
    have P0 := P0.step b6
    have P1 := P1.step b6
    have P2 := P2.step b6
    have Q1 := Q1.step b6
    have Q2 := Q2.step b6
    have Q3 := Q3.step b6
    go_wp2_with fail
    refine (bSameRow (c := d3) (c2 := c2) Q3 P2).mono ?_
    rintro e w7 ⟨rfl, b7⟩
    have B7 := below_step B6 b7
    have P0 := P0.step b7
    have P1 := P1.step b7
    have P2 := P2.step b7
    have Q1 := Q1.step b7
    have Q2 := Q2.step b7
    have Q3 := Q3.step b7
    clear Q1 Q2 Q3
    go_wp2_with fail
    refine (bTrim P1.in_).mono ?_
    rintro e w21 ⟨X21, q21, d21, rfl, S21, _, b21⟩
    have B21 := below_step B7 b21
    have P0 := P0.step b21
    have P1 := P1.step b21
    have P2 := P2.step b21
    have hd21a : decide (4 < (q21 : Int)) = false := by have h := S21.1; rw [length_wd] at h; simp; omega
    clear S21
    go_wp2_with fail
    refine (bTrim P2.in_).mono ?_
    rintro e w31 ⟨X31, q31, d31, rfl, S31, _, b31⟩
    have B31 := below_step B21 b31
    have P0 := P0.step b31
    have P1 := P1.step b31
    have P2 := P2.step b31
    have hd31a : decide (4 < (q31 : Int)) = false := by have h := S31.1; rw [length_wd] at h; simp; omega
    clear S31
    go_wp2_with fail
    refine (bExp8_zero P1.in_ P2.in_ P0.in_ HM.out (by omega) (by omega)).mono ?_
    rintro e w41 ⟨X5, d5, rfl, b41⟩
    have B41 := below_step B31 b41
    have P0 := P0.step b41
    have P1 := P1.step b41
    have P2 := P2.step b41
    go_wp2_with fail
    refine (same_none _ _ _ _ _).mono ?_
    rintro e w42 ⟨rfl, b42⟩
    have B42 := below_step B41 b42
    have P0 := P0.step b42
    have P1 := P1.step b42
    have P2 := P2.step b42
    go_wp2_with fail
    refine (powWorks_any _ (HLd.out.below B42)).mono ?_
    rintro e w43 ⟨rfl, b43⟩
    have B43 := below_step B42 b43
    go_wp2_with fail
    go_ret
    exact ⟨rfl, B43⟩
  · have HM := Lib.hid hm
    clear hm
    go_enter Tryd.func3, Tryd.ntmps3
    go_wp2_with fail
    refine (bCopy (c := c0) P0).mono ?_
    rintro e w1 ⟨X1, d1, rfl, Q1, b1⟩
    have B1 := b1
    have P0 := P0.step b1
    have P1 := P1.step b1
    have P2 := P2.step b1
    go_wp2_with fail
    refine (bCopy (c := c1) P1).mono ?_
    rintro e w2 ⟨X2, d2, rfl, Q2, b2⟩
    have B2 := below_step B1 b2
    have P0 := P0.step b2
    have P1 := P1.step b2
    have P2 := P2.step b2
    have Q1 := Q1.step b2
    go_wp2_with fail
    refine (bCopy (c := c2) P2).mono ?_
    rintro e w3 ⟨X3, d3, rfl, Q3, b3⟩
    have B3 := below_step B2 b3
    have P0 := P0.step b3
    have P1 := P1.step b3
    have P2 := P2.step b3
    have Q1 := Q1.step b3
    have Q2 := Q2.step b3
    go_wp2_with fail
    refine (bExp_ok Q1.in_ Q2.in_ Q3.in_ HM.out (by omega) (by omega) (by omega) (by omega) (by omega)).mono ?_
    rintro e w4 ⟨X4, q4, d4, rfl, S4, b4⟩
    have B4 := below_step B3 b4
    have P0 := P0.step b4
    have P1 := P1.step b4
    have P2 := P2.step b4
    have Q1 := Q1.step b4
    have Q2 := Q2.step b4
    have Q3 := Q3.step b4
    go_wp2_with fail
    refine (bSameRow (c := d1) (c2 := c0) Q1 P0).mono ?_
    rintro e w5 ⟨rfl, b5⟩
    have B5 := below_step B4 b5
    have P0 := P0.step b5
    have P1 := P1.step b5
    have P2 := P2.step b5
    have Q1 := Q1.step b5
    have Q2 := Q2.step b5
    have Q3 := Q3.step b5
    have S4 := S4.step b5
    go_wp2_with fail
    refine (bSameRow (c := d2) (c2 := c1) Q2 P1).mono ?_
    rintro e w6 ⟨rfl, b6⟩
    have B6 := below_step B5 b6
    have P0 := P0.step b6
    have P1 := P1.step b6
    have P2 := P2.step b6
    have Q1 := Q1.step b6
    have Q2 := Q2.step b6
    have Q3 := Q3.step b6
    have S4 := S4.step b6
    go_wp2_with fail
    refine (bSameRow (c := d3) (c2 := c2) Q3 P2).mono ?_
    rintro e w7 ⟨rfl, b7⟩
    have B7 := below_step B6 b7
    have P0 := P0.step b7
    have P1 := P1.step b7
    have P2 := P2.step b7
    have Q1 := Q1.step b7
    have Q2 := Q2.step b7
    have Q3 := Q3.step b7
    have S4 := S4.step b7
    clear Q1 Q2 Q3
    go_wp2_with fail
    refine (bTrim P1.in_).mono ?_
    rintro e w21 ⟨X21, q21, d21, rfl, S21, _, b21⟩
    have B21 := below_step B7 b21
    have P0 := P0.step b21
    have P1 := P1.step b21
    have P2 := P2.step b21
    have S4 := S4.step b21
    have hd21a : decide (4 < (q21 : Int)) = false := by have h := S21.1; rw [length_wd] at h; simp; omega
    clear S21
    go_wp2_with fail
    refine (bTrim P2.in_).mono ?_
    rintro e w31 ⟨X31, q31, d31, rfl, S31, _, b31⟩
    have B31 := below_step B21 b31
    have P0 := P0.step b31
    have P1 := P1.step b31
    have P2 := P2.step b31
    have S4 := S4.step b31
    have hd31a : decide (4 < (q31 : Int)) = false := by have h := S31.1; rw [length_wd] at h; simp; omega
    clear S31
    go_wp2_with fail
    refine (bExp8_ok P1.in_ P2.in_ P0.in_ HM.out (by omega) (by omega) (by omega) (by omega) (by omega)).mono ?_
    rintro e w41 ⟨X5, q5, d5, rfl, S5, b41⟩
    have B41 := below_step B31 b41
    have P0 := P0.step b41
    have P1 := P1.step b41
    have P2 := P2.step b41
    have S4 := S4.step b41
    go_wp2_with fail
    refine (bSame S4 S5).mono ?_
    rintro e w42 ⟨rfl, b42⟩
    have B42 := below_step B41 b42
    have P0 := P0.step b42
    have P1 := P1.step b42
    have P2 := P2.step b42
    have S4 := S4.step b42
    have S5 := S5.step b42
    go_wp2_with fail
    refine (powWorks_any _ (HLd.out.below B42)).mono ?_
    rintro e w43 ⟨rfl, b43⟩
    have B43 := below_step B42 b43
    go_wp2_with fail
    go_ret
    exact ⟨rfl, B43⟩
set_option maxHeartbeats 4000000 in
theorem exp_slo_blo (A0 : Option Addr) (c0 : Nat) (l0 : List Nat) (A1 : Option Addr) (c1 : Nat) (l1 : List Nat) (A2 : Option Addr) (c2 : Nat) (l2 : List Nat) (w : World) (P0 : RowIs w A0 l0.length c0 l0) (P1 : RowIs w A1 l1.length c1 l1) (P2 : RowIs w A2 l2.length c2 l2) (h0 : l0.length ≤ 6) (he : l1.length ≤ 2) (hm : 65 ≤ l2.length ∧ l2.length ≤ 70) (ke : nbits (natOf l1) ≤ 256) (km : nbits (natOf l2) ≤ 256) (hL : Laid8 w) :
    Calls Tryd.prog 3 #[.slice A0 l0.length c0, .slice A1 l1.length c1, .slice A2 l2.length c2] w fun e w' => e = .returned (.bool true) ∧ Below w.heap.size w w' := by
  have HLd := Lib.hid hL
  clear hL
  have g0 : decide (6 < (l0.length : Int)) = false := by simp; omega
  have ge1 : decide (2 < (l1.length : Int)) = false := by simp; omega
  have ge3 : decide (70 < (l1.length : Int)) = false := by simp; omega
  have gm1 : decide (4 < (l2.length : Int)) = true := by simp; omega
  have gm2 : decide ((l2.length : Int) < 65) = false := by simp; omega
  have gm3 : decide (70 < (l2.length : Int)) = false := by simp; omega
  have n0 := P0.in_.bits
  by_cases hm : natOf l2 = 0
  · have HM := Lib.hid hm
    clear hm
    go_enter Tryd.func3, Tryd.ntmps3
    go_wp2_with fail
    refine (bCopy (c := c0) P0).mono ?_
    rintro e w1 ⟨X1, d1, rfl, Q1, b1⟩
    have B1 := b1
    have P0 := P0.step b1
    have P1 := P1.step b1
    have P2 := P2.step b1
    go_wp2_with fail
    refine (bCopy (c := c1) P1).mono ?_
    rintro e w2 ⟨X2, d2, rfl, Q2, b2⟩
    have B2 := below_step B1 b2
    have P0 := P0.step b2
    have P1 := P1.step b2
    have P2 := P2.step b2
    have Q1 := Q1.step b2
    go_wp2_with fail
    refine (bCopy (c := c2) P2).mono ?_
    rintro e w3 ⟨X3, d3, rfl, Q3, b3⟩
    have B3 := below_step B2 b3
    have P0 := P0.step b3
    have P1 := P1.step b3
    have P2 := P2.step b3
    have Q1 := Q1.step b3
    have Q2 := Q2.step b3
    go_wp2_with fail
    refine (bExp_zero Q1.in_ Q2.in_ Q3.in_ HM.out (by omega) (by omega) (by omega)).mono ?_
    rintro e w4 ⟨X4, d4, rfl, b4⟩
    have B4 := below_step B3 b4
    have P0 := P0.step b4
    have P1 := P1.step b4
    have P2 := P2.step b4
    have Q1 := Q1.step b4
    have Q2 := Q2.step b4
    have Q3 := Q3.step b4
    go_wp2_with fail
    refine (bSameRow (c := d1) (c2 := c0) Q1 P0).mono ?_
    rintro e w5 ⟨rfl, b5⟩
    have B5 := below_step B4 b5
    have P0 := P0.step b5
    have P1 := P1.step b5
    have P2 := P2.step b5
    have Q1 := Q1.step b5
    have Q2 := Q2.step b5
    have Q3 := Q3.step b5
    go_wp2_with fail
    refine (bSameRow (c := d2) (c2 := c1) Q2 P1).mono ?_
    rintro e w6 ⟨rfl, b6⟩
    have B6 := below_step B5 b6
    have P0 := P0.step b6
    have P1 := P1.step b6
    have P2 := P2.step b6
    have Q1 := Q1.step b6
    have Q2 := Q2.step b6
    have Q3 := Q3.step b6
    go_wp2_with fail
    refine (bSameRow (c := d3) (c2 := c2) Q3 P2).mono ?_
    rintro e w7 ⟨rfl, b7⟩
    have B7 := below_step B6 b7
    have P0 := P0.step b7
    have P1 := P1.step b7
    have P2 := P2.step b7
    have Q1 := Q1.step b7
    have Q2 := Q2.step b7
    have Q3 := Q3.step b7
    clear Q1 Q2 Q3
    go_wp2_with fail
    refine (bTrim P1.in_).mono ?_
    rintro e w21 ⟨X21, q21, d21, rfl, S21, _, b21⟩
    have B21 := below_step B7 b21
    have P0 := P0.step b21
    have P1 := P1.step b21
    have P2 := P2.step b21
    have hd21a : decide (4 < (q21 : Int)) = false := by have h := S21.1; rw [length_wd] at h; simp; omega
    clear S21
    go_wp2_with fail
    refine (bTrim P2.in_).mono ?_
    rintro e w31 ⟨X31, q31, d31, rfl, S31, _, b31⟩
    have B31 := below_step B21 b31
    have P0 := P0.step b31
    have P1 := P1.step b31
    have P2 := P2.step b31
    have hd31a : decide (4 < (q31 : Int)) = false := by have h := S31.1; rw [length_wd] at h; simp; omega
    clear S31
    go_wp2_with fail
    refine (bExp8_zero P1.in_ P2.in_ P0.in_ HM.out (by omega) (by omega)).mono ?_
    rintro e w41 ⟨X5, d5, rfl, b41⟩
    have B41 := below_step B31 b41
    have P0 := P0.step b41
    have P1 := P1.step b41
    have P2 := P2.step b41
    go_wp2_with fail
    refine (same_none _ _ _ _ _).mono ?_
    rintro e w42 ⟨rfl, b42⟩
    have B42 := below_step B41 b42
    have P0 := P0.step b42
    have P1 := P1.step b42
    have P2 := P2.step b42
    go_wp2_with fail
    refine (powWorks_any _ (HLd.out.below B42)).mono ?_
    rintro e w43 ⟨rfl, b43⟩
    have B43 := below_step B42 b43
    go_wp2_with fail
    go_ret
    exact ⟨rfl, B43⟩
  · have HM := Lib.hid hm
    clear hm
    go_enter Tryd.func3, Tryd.ntmps3
    go_wp2_with fail
    refine (bCopy (c := c0) P0).mono ?_
    rintro e w1 ⟨X1, d1, rfl, Q1, b1⟩
    have B1 := b1
    have P0 := P0.step b1
    have P1 := P1.step b1
    have P2 := P2.step b1
    go_wp2_with fail
    refine (bCopy (c := c1) P1).mono ?_
    rintro e w2 ⟨X2, d2, rfl, Q2, b2⟩
    have B2 := below_step B1 b2
    have P0 := P0.step b2
    have P1 := P1.step b2
    have P2 := P2.step b2
    have Q1 := Q1.step b2
    go_wp2_with fail
    refine (bCopy (c := c2) P2).mono ?_
    rintro e w3 ⟨X3, d3, rfl, Q3, b3⟩
    have B3 := below_step B2 b3
    have P0 := P0.step b3
    have P1 := P1.step b3
    have P2 := P2.step b3
    have Q1 := Q1.step b3
    have Q2 := Q2.step b3
    go_wp2_with fail
    refine (bExp_ok Q1.in_ Q2.in_ Q3.in_ HM.out (by omega) (by omega) (by omega) (by omega) (by omega)).mono ?_
    rintro e w4 ⟨X4, q4, d4, rfl, S4, b4⟩
    have B4 := below_step B3 b4
    have P0 := P0.step b4
    have P1 := P1.step b4
    have P2 := P2.step b4
    have Q1 := Q1.step b4
    have Q2 := Q2.step b4
    have Q3 := Q3.step b4
    go_wp2_with fail
    refine (bSameRow (c := d1) (c2 := c0) Q1 P0).mono ?_
    rintro e w5 ⟨rfl, b5⟩
    have B5 := below_step B4 b5
    have P0 := P0.step b5
    have P1 := P1.step b5
    have P2 := P2.step b5
    have Q1 := Q1.step b5
    have Q2 := Q2.step b5
    have Q3 := Q3.step b5
    have S4 := S4.step b5
    go_wp2_with fail
    refine (bSameRow (c := d2) (c2 := c1) Q2 P1).mono ?_
    rintro e w6 ⟨rfl, b6⟩
    have B6 := below_step B5 b6
    have P0 := P0.step b6
    have P1 := P1.step b6
    have P2 := P2.step b6
    have Q1 := Q1.step b6
    have Q2 := Q2.step b6
    have Q3 := Q3.step b6
    have S4 := S4.step b6
    go_wp2_with fail
    refine (bSameRow (c := d3) (c2 := c2) Q3 P2).mono ?_
    rintro e w7 ⟨rfl, b7⟩
    have B7 := below_step B6 b7
    have P0 := P0.step b7
    have P1 := P1.step b7
    have P2 := P2.step b7
    have Q1 := Q1.step b7
    have Q2 := Q2.step b7
    have Q3 := Q3.step b7
    have S4 := S4.step b7
    clear Q1 Q2 Q3
    go_wp2_with fail
    refine (bTrim P1.in_).mono ?_
    rintro e w21 ⟨X21, q21, d21, rfl, S21, _, b21⟩
    have B21 := below_step B7 b21
    have P0 := P0.step b21
    have P1 := P1.step b21
    have P2 := P2.step b21
    have S4 := S4.step b21
    have hd21a : decide (4 < (q21 : Int)) = false := by have h := S21.1; rw [length_wd] at h; simp; omega
    clear S21
    go_wp2_with fail
    refine (bTrim P2.in_).mono ?_
    rintro e w31 ⟨X31, q31, d31, rfl, S31, _, b31⟩
    have B31 := below_step B21 b31
    have P0 := P0.step b31
    have P1 := P1.step b31
    have P2 := P2.step b31
    have S4 := S4.step b31
    have hd31a : decide (4 < (q31 : Int)) = false := by have h := S31.1; rw [length_wd] at h; simp; omega
    clear S31
    go_wp2_with fail
    refine (bExp8_ok P1.in_ P2.in_ P0.in_ HM.out (by omega) (by omega) (by omega) (by omega) (by omega)).mono ?_
    rintro e w41 ⟨X5, q5, d5, rfl, S5, b41⟩
    have B41 := below_step B31 b41
    have P0 := P0.step b41
    have P1 := P1.step b41
    have P2 := P2.step b41
    have S4 := S4.step b41
    go_wp2_with fail
    refine (bSame S4 S5).mono ?_
    rintro e w42 ⟨rfl, b42⟩
    have B42 := below_step B41 b42
    have P0 := P0.step b42
    have P1 := P1.step b42
    have P2 := P2.step b42
    have S4 := S4.step b42
    have S5 := S5.step b42
    go_wp2_with fail
    refine (powWorks_any _ (HLd.out.below B42)).mono ?_
    rintro e w43 ⟨rfl, b43⟩
    have B43 := below_step B42 b43
    go_wp2_with fail
    go_ret
    exact ⟨rfl, B43⟩
set_option maxHeartbeats 4000000 in
theorem exp_slo_bmid (A0 : Option Addr) (c0 : Nat) (l0 : List Nat) (A1 : Option Addr) (c1 : Nat) (l1 : List Nat) (A2 : Option Addr) (c2 : Nat) (l2 : List Nat) (w : World) (P0 : RowIs w A0 l0.length c0 l0) (P1 : RowIs w A1 l1.length c1 l1) (P2 : RowIs w A2 l2.length c2 l2) (h0 : l0.length ≤ 6) (he : l1.length ≤ 2) (hm : 65 ≤ l2.length ∧ l2.length ≤ 70) (ke : nbits (natOf l1) ≤ 256) (km : 256 < nbits (natOf l2) ∧ nbits (natOf l2) ≤ 4096) (hL : Laid8 w) :
    Calls Tryd.prog 3 #[.slice A0 l0.length c0, .slice A1 l1.length c1, .slice A2 l2.length c2] w fun e w' => e = .returned (.bool true) ∧ Below w.heap.size w w' := by
  have HLd := Lib.hid hL
  clear hL
  have g0 : decide (6 < (l0.length : Int)) = false := by simp; omega
  have ge1 : decide (2 < (l1.length : Int)) = false := by simp; omega
  have ge3 : decide (70 < (l1.length : Int)) = false := by simp; omega
  have gm1 : decide (4 < (l2.length : Int)) = true := by simp; omega
  have gm2 : decide ((l2.length : Int) < 65) = false := by simp; omega
  have gm3 : decide (70 < (l2.length : Int)) = false := by simp; omega
  have n0 := P0.in_.bits
  have HM := Lib.hid (show natOf l2 ≠ 0 from fun h0 => by rw [h0, nbits_zero] at km; omega)
  go_enter Tryd.func3, Tryd.ntmps3
  go_wp2_with fail
  refine (bCopy (c := c0) P0).mono ?_
  rintro e w1 ⟨X1, d1, rfl, Q1, b1⟩
  have B1 := b1
  have P0 := P0.step b1
  have P1 := P1.step b1
  have P2 := P2.step b1
  go_wp2_with fail
  refine (bCopy (c := c1) P1).mono ?_
  rintro e w2 ⟨X2, d2, rfl, Q2, b2⟩
  have B2 := below_step B1 b2
  have P0 := P0.step b2
  have P1 := P1.step b2
  have P2 := P2.step b2
  have Q1 := Q1.step b2
  go_wp2_with fail
  refine (bCopy (c := c2) P2).mono ?_
  rintro e w3 ⟨X3, d3, rfl, Q3, b3⟩
  have B3 := below_step B2 b3
  have P0 := P0.step b3
  have P1 := P1.step b3
  have P2 := P2.step b3
  have Q1 := Q1.step b3
  have Q2 := Q2.step b3
  go_wp2_with fail
  refine (bExp_ok Q1.in_ Q2.in_ Q3.in_ HM.out (by omega) (by omega) (by omega) (by omega) (by omega)).mono ?_
  rintro e w4 ⟨X4, q4, d4, rfl, S4, b4⟩
  have B4 := below_step B3 b4
  have P0 := P0.step b4
  have P1 := P1.step b4
  have P2 := P2.step b4
  have Q1 := Q1.step b4
  have Q2 := Q2.step b4
  have Q3 := Q3.step b4
  go_wp2_with fail
  refine (bSameRow (c := d1) (c2 := c0) Q1 P0).mono ?_
  rintro e w5 ⟨rfl, b5⟩
  have B5 := below_step B4 b5
  have P0 := P0.step b5
  have P1 := P1.step b5
  have P2 := P2.step b5
  have Q1 := Q1.step b5
  have Q2 := Q2.step b5
  have Q3 := Q3.step b5
  have S4 := S4.step b5
  go_wp2_with fail
  refine (bSameRow (c := d2) (c2 := c1) Q2 P1).mono ?_
  rintro e w6 ⟨rfl, b6⟩
  have B6 := below_step B5 b6
  have P0 := P0.step b6
  have P1 := P1.step b6
  have P2 := P2.step b6
  have Q1 := Q1.step b6
  have Q2 := Q2.step b6
  have Q3 := Q3.step b6
  have S4 := S4.step b6
  go_wp2_with fail
  refine (bSameRow (c := d3) (c2 := c2) Q3 P2).mono ?_
  rintro e w7 ⟨rfl, b7⟩
  have B7 := below_step B6 b7
  have P0 := P0.step b7
  have P1 := P1.step b7
  have P2 := P2.step b7
  have Q1 := Q1.step b7
  have Q2 := Q2.step b7
  have Q3 := Q3.step b7
  have S4 := S4.step b7
  clear Q1 Q2 Q3
  go_wp2_with fail
  refine (bTrim P1.in_).mono ?_
  rintro e w21 ⟨X21, q21, d21, rfl, S21, _, b21⟩
  have B21 := below_step B7 b21
  have P0 := P0.step b21
  have P1 := P1.step b21
  have P2 := P2.step b21
  have S4 := S4.step b21
  have hd21a : decide (4 < (q21 : Int)) = false := by have h := S21.1; rw [length_wd] at h; simp; omega
  clear S21
  go_wp2_with fail
  refine (bTrim P2.in_).mono ?_
  rintro e w31 ⟨X31, q31, d31, rfl, S31, _, b31⟩
  have B31 := below_step B21 b31
  have P0 := P0.step b31
  have P1 := P1.step b31
  have P2 := P2.step b31
  have S4 := S4.step b31
  have hd31a : decide (4 < (q31 : Int)) = true := by have h := S31.1; rw [length_wd] at h; simp; omega
  clear S31
  go_wp2_with fail
  refine (bTrim P2.in_).mono ?_
  rintro e w32 ⟨X32, q32, d32, rfl, S32, _, b32⟩
  have B32 := below_step B31 b32
  have P0 := P0.step b32
  have P1 := P1.step b32
  have P2 := P2.step b32
  have S4 := S4.step b32
  have hd31b : decide ((q32 : Int) < 65) = true := by have h := S32.1; rw [length_wd] at h; simp; omega
  clear S32
  go_wp2_with fail
  refine (powWorks_any _ (HLd.out.below B32)).mono ?_
  rintro e w41 ⟨rfl, b41⟩
  have B41 := below_step B32 b41
  go_wp2_with fail
  go_ret
  exact ⟨rfl, B41⟩
set_option maxHeartbeats 4000000 in
theorem exp_slo_bhi (A0 : Option Addr) (c0 : Nat) (l0 : List Nat) (A1 : Option Addr) (c1 : Nat) (l1 : List Nat) (A2 : Option Addr) (c2 : Nat) (l2 : List Nat) (w : World) (P0 : RowIs w A0 l0.length c0 l0) (P1 : RowIs w A1 l1.length c1 l1) (P2 : RowIs w A2 l2.length c2 l2) (h0 : l0.length ≤ 6) (he : l1.length ≤ 2) (hm : 65 ≤ l2.length ∧ l2.length ≤ 70) (ke : nbits (natOf l1) ≤ 256) (km : 4096 < nbits (natOf l2)) (hL : Laid8 w) :
    Calls Tryd.prog 3 #[.slice A0 l0.length c0, .slice A1 l1.length c1, .slice A2 l2.length c2] w fun e w' => e = .returned (.bool true) ∧ Below w.heap.size w w' := by
  have HLd := Lib.hid hL
  clear hL
  have g0 : decide (6 < (l0.length : Int)) = false := by simp; omega
  have ge1 : decide (2 < (l1.length : Int)) = false := by simp; omega
  have ge3 : decide (70 < (l1.length : Int)) = false := by simp; omega
  have gm1 : decide (4 < (l2.length : Int)) = true := by simp; omega
  have gm2 : decide ((l2.length : Int) < 65) = false := by simp; omega
  have gm3 : decide (70 < (l2.length : Int)) = false := by simp; omega
  have n0 := P0.in_.bits
  have HM := Lib.hid (show natOf l2 ≠ 0 from fun h0 => by rw [h0, nbits_zero] at km; omega)
  go_enter Tryd.func3, Tryd.ntmps3
  go_wp2_with fail
  refine (bCopy (c := c0) P0).mono ?_
  rintro e w1 ⟨X1, d1, rfl, Q1, b1⟩
  have B1 := b1
  have P0 := P0.step b1
  have P1 := P1.step b1
  have P2 := P2.step b1
  go_wp2_with fail
  refine (bCopy (c := c1) P1).mono ?_
  rintro e w2 ⟨X2, d2, rfl, Q2, b2⟩
  have B2 := below_step B1 b2
  have P0 := P0.step b2
  have P1 := P1.step b2
  have P2 := P2.step b2
  have Q1 := Q1.step b2
  go_wp2_with fail
  refine (bCopy (c := c2) P2).mono ?_
  rintro e w3 ⟨X3, d3, rfl, Q3, b3⟩
  have B3 := below_step B2 b3
  have P0 := P0.step b3
  have P1 := P1.step b3
  have P2 := P2.step b3
  have Q1 := Q1.step b3
  have Q2 := Q2.step b3
  go_wp2_with fail
  refine (bExp_many Q1.in_ Q2.in_ Q3.in_ HM.out (by omega) (by omega) (by omega) (by omega)).mono ?_
  rintro e w4 ⟨X4, d4, rfl, b4⟩
  have B4 := below_step B3 b4
  have P0 := P0.step b4
  have P1 := P1.step b4
  have P2 := P2.step b4
  have Q1 := Q1.step b4
  have Q2 := Q2.step b4
  have Q3 := Q3.step b4
  go_wp2_with fail
  refine (bSameRow (c := d1) (c2 := c0) Q1 P0).mono ?_
  rintro e w5 ⟨rfl, b5⟩
  have B5 := below_step B4 b5
  have P0 := P0.step b5
  have P1 := P1.step b5
  have P2 := P2.step b5
  have Q1 := Q1.step b5
  have Q2 := Q2.step b5
  have Q3 := Q3.step b5
  go_wp2_with fail
  refine (bSameRow (c := d2) (c2 := c1) Q2 P1).mono ?_
  rintro e w6 ⟨rfl, b6⟩
  have B6 := below_step B5 b6
  have P0 := P0.step b6
  have P1 := P1.step b6
  have P2 := P2.step b6
  have Q1 := Q1.step b6
  have Q2 := Q2.step b6
  have Q3 := Q3.step b6
  go_wp2_with fail
  refine (bSameRow (c := d3) (c2 := c2) Q3 P2).mono ?_
  rintro e w7 ⟨rfl, b7⟩
  have B7 := below_step B6 b7
  have P0 := P0.step b7
  have P1 := P1.step b7
  have P2 := P2.step b7
  have Q1 := Q1.step b7
  have Q2 := Q2.step b7
  have Q3 := Q3.step b7
  clear Q1 Q2 Q3
  go_wp2_with fail
  refine (bTrim P1.in_).mono ?_
  rintro e w21 ⟨X21, q21, d21, rfl, S21, _, b21⟩
  have B21 := below_step B7 b21
  have P0 := P0.step b21
  have P1 := P1.step b21
  have P2 := P2.step b21
  have hd21a : decide (4 < (q21 : Int)) = false := by have h := S21.1; rw [length_wd] at h; simp; omega
  clear S21
  go_wp2_with fail
  refine (bTrim P2.in_).mono ?_
  rintro e w31 ⟨X31, q31, d31, rfl, S31, _, b31⟩
  have B31 := below_step B21 b31
  have P0 := P0.step b31
  have P1 := P1.step b31
  have P2 := P2.step b31
  have hd31a : decide (4 < (q31 : Int)) = true := by have h := S31.1; rw [length_wd] at h; simp; omega
  clear S31
  go_wp2_with fail
  refine (bTrim P2.in_).mono ?_
  rintro e w32 ⟨X32, q32, d32, rfl, S32, _, b32⟩
  have B32 := below_step B31 b32
  have P0 := P0.step b32
  have P1 := P1.step b32
  have P2 := P2.step b32
  have hd31b : decide ((q32 : Int) < 65) = false := by have h := S32.1; rw [length_wd] at h; simp; omega
  clear S32
  go_wp2_with fail
  refine (bExp8_many P1.in_ P2.in_ P0.in_ HM.out (by omega) (by omega) (by omega)).mono ?_
  rintro e w41 ⟨X5, d5, rfl, b41⟩
  have B41 := below_step B32 b41
  have P0 := P0.step b41
  have P1 := P1.step b41
  have P2 := P2.step b41
  go_wp2_with fail
  refine (same_none _ _ _ _ _).mono ?_
  rintro e w42 ⟨rfl, b42⟩
  have B42 := below_step B41 b42
  have P0 := P0.step b42
  have P1 := P1.step b42
  have P2 := P2.step b42
  go_wp2_with fail
  refine (powWorks_any _ (HLd.out.below B42)).mono ?_
  rintro e w43 ⟨rfl, b43⟩
  have B43 := below_step B42 b43
  go_wp2_with fail
  go_ret
  exact ⟨rfl, B43⟩
set_option maxHeartbeats 4000000 in
theorem exp_blo_slo (A0 : Option Addr) (c0 : Nat) (l0 : List Nat) (A1 : Option Addr) (c1 : Nat) (l1 : List Nat) (A2 : Option Addr) (c2 : Nat) (l2 : List Nat) (w : World) (P0 : RowIs w A0 l0.length c0 l0) (P1 : RowIs w A1 l1.length c1 l1) (P2 : RowIs w A2 l2.length c2 l2) (h0 : l0.length ≤ 6) (he : 65 ≤ l1.length ∧ l1.length ≤ 70) (hm : l2.length ≤ 4) (ke : nbits (natOf l1) ≤ 256) (km : nbits (natOf l2) ≤ 256) (hL : Laid8 w) :
    Calls Tryd.prog 3 #[.slice A0 l0.length c0, .slice A1 l1.length c1, .slice A2 l2.length c2] w fun e w' => e = .returned (.bool true) ∧ Below w.heap.size w w' := by
  have HLd := Lib.hid hL
  clear hL
  have g0 : decide (6 < (l0.length : Int)) = false := by simp; omega
  have ge1 : decide (2 < (l1.length : Int)) = true := by simp; omega
  have ge2 : decide ((l1.length : Int) < 65) = false := by simp; omega
  have ge3 : decide (70 < (l1.length : Int)) = false := by simp; omega
  have gm1 : decide (4 < (l2.length : Int)) = false := by simp; omega
  have gm3 : decide (70 < (l2.length : Int)) = false := by simp; omega
  have n0 := P0.in_.bits
  by_cases hm : natOf l2 = 0
  · have HM := Lib.hid hm
    clear hm
    go_enter Tryd.func3, Tryd.ntmps3
    go_wp2_with fail
    refine (bCopy (c := c0) P0).mono ?_
    rintro e w1 ⟨X1, d1, rfl, Q1, b1⟩
    have B1 := b1
    have P0 := P0.step b1
    have P1 := P1.step b1
    have P2 := P2.step b1
    go_wp2_with fail
    refine (bCopy (c := c1) P1).mono ?_
    rintro e w2 ⟨X2, d2, rfl, Q2, b2⟩
    have B2 := below_step B1 b2
    have P0 := P0.step b2
    have P1 := P1.step b2
    have P2 := P2.step b2
    have Q1 := Q1.step b2
    go_wp2_with fail
    refine (bCopy (c := c2) P2).mono ?_
    rintro e w3 ⟨X3, d3, rfl, Q3, b3⟩
    have B3 := below_step B2 b3
    have P0 := P0.step b3
    have P1 := P1.step b3
    have P2 := P2.step b3
    have Q1 := Q1.step b3
    have Q2 := Q2.step b3
    go_wp2_with fail
    refine (bExp_zero Q1.in_ Q2.in_ Q3.in_ HM.out (by omega) (by omega) (by omega)).mono ?_
    rintro e w4 ⟨X4, d4, rfl, b4⟩
    have B4 := below_step B3 b4
    have P0 := P0.step b4
    have P1 := P1.step b4
    have P2 := P2.step b4
    have Q1 := Q1.step b4
    have Q2 := Q2.step b4
    have Q3 := Q3.step b4
    go_wp2_with fail
    refine (bSameRow (c := d1) (c2 := c0) Q1 P0).mono ?_
    rintro e w5 ⟨rfl, b5⟩
    have B5 := below_step B4 b5
    have P0 := P0.step b5
    have P1 := P1.step b5
    have P2 := P2.step b5
    have Q1 := Q1.step b5
    have Q2 := Q2.step b5
    have Q3 := Q3.step b5
    go_wp2_with fail
    refine (bSameRow (c := d2) (c2 := c1) Q2 P1).mono ?_
    rintro e w6 ⟨rfl, b6⟩
    have B6 := below_step B5 b6
    have P0 := P0.step b6
    have P1 := P1.step b6
    have P2 := P2.step b6
    have Q1 := Q1.step b6
    have Q2 := Q2.step b6
    have Q3 := Q3.step b6
    go_wp2_with fail
    refine (bSameRow (c := d3) (c2 := c2) Q3 P2).mono ?_
    rintro e w7 ⟨rfl, b7⟩
    have B7 := below_step B6 b7
    have P0 := P0.step b7
    have P1 := P1.step b7
    have P2 := P2.step b7
    have Q1 := Q1.step b7
    have Q2 := Q2.step b7
    have Q3 := Q3.step b7
    clear Q1 Q2 Q3
    go_wp2_with fail
    refine (bTrim P1.in_).mono ?_
    rintro e w21 ⟨X21, q21, d21, rfl, S21, _, b21⟩
    have B21 := below_step B7 b21
    have P0 := P0.step b21
    have P1 := P1.step b21
    have P2 := P2.step b21
    have hd21a : decide (4 < (q21 : Int)) = false := by have h := S21.1; rw [length_wd] at h; simp; omega
    clear S21
    go_wp2_with fail
    refine (bTrim P2.in_).mono ?_
    rintro e w31 ⟨X31, q31, d31, rfl, S31, _, b31⟩
    have B31 := below_step B21 b31
    have P0 := P0.step b31
    have P1 := P1.step b31
    have P2 := P2.step b31
    have hd31a : decide (4 < (q31 : Int)) = false := by have h := S31.1; rw [length_wd] at h; simp; omega
    clear S31
    go_wp2_with fail
    refine (bExp8_zero P1.in_ P2.in_ P0.in_ HM.out (by omega) (by omega)).mono ?_
    rintro e w41 ⟨X5, d5, rfl, b41⟩
    have B41 := below_step B31 b41
    have P0 := P0.step b41
    have P1 := P1.step b41
    have P2 := P2.step b41
    go_wp2_with fail
    refine (same_none _ _ _ _ _).mono ?_
    rintro e w42 ⟨rfl, b42⟩
    have B42 := below_step B41 b42
    have P0 := P0.step b42
    have P1 := P1.step b42
    have P2 := P2.step b42
    go_wp2_with fail
    refine (powWorks_any _ (HLd.out.below B42)).mono ?_
    rintro e w43 ⟨rfl, b43⟩
    have B43 := below_step B42 b43
    go_wp2_with fail
    go_ret
    exact ⟨rfl, B43⟩
  · have HM := Lib.hid hm
    clear hm
    go_enter Tryd.func3, Tryd.ntmps3
    go_wp2_with fail
    refine (bCopy (c := c0) P0).mono ?_
    rintro e w1 ⟨X1, d1, rfl, Q1, b1⟩
    have B1 := b1
    have P0 := P0.step b1
    have P1 := P1.step b1
    have P2 := P2.step b1
    go_wp2_with fail
    refine (bCopy (c := c1) P1).mono ?_
    rintro e w2 ⟨X2, d2, rfl, Q2, b2⟩
    have B2 := below_step B1 b2
    have P0 := P0.step b2
    have P1 := P1.step b2
    have P2 := P2.step b2
    have Q1 := Q1.step b2
    go_wp2_with fail
    refine (bCopy (c := c2) P2).mono ?_
    rintro e w3 ⟨X3, d3, rfl, Q3, b3⟩
    have B3 := below_step B2 b3
    have P0 := P0.step b3
    have P1 := P1.step b3
    have P2 := P2.step b3
    have Q1 := Q1.step b3
    have Q2 := Q2.step b3
    go_wp2_with fail
    refine (bExp_ok Q1.in_ Q2.in_ Q3.in_ HM.out (by omega) (by omega) (by omega) (by omega) (by omega)).mono ?_
    rintro e w4 ⟨X4, q4, d4, rfl, S4, b4⟩
    have B4 := below_step B3 b4
    have P0 := P0.step b4
    have P1 := P1.step b4
    have P2 := P2.step b4
    have Q1 := Q1.step b4
    have Q2 := Q2.step b4
    have Q3 := Q3.step b4
    go_wp2_with fail
    refine (bSameRow (c := d1) (c2 := c0) Q1 P0).mono ?_
    rintro e w5 ⟨rfl, b5⟩
    have B5 := below_step B4 b5
    have P0 := P0.step b5
    have P1 := P1.step b5
    have P2 := P2.step b5
    have Q1 := Q1.step b5
    have Q2 := Q2.step b5
    have Q3 := Q3.step b5
    have S4 := S4.step b5
    go_wp2_with fail
    refine (bSameRow (c := d2) (c2 := c1) Q2 P1).mono ?_
    rintro e w6 ⟨rfl, b6⟩
    have B6 := below_step B5 b6
    have P0 := P0.step b6
    have P1 := P1.step b6
    have P2 := P2.step b6
    have Q1 := Q1.step b6
    have Q2 := Q2.step b6
    have Q3 := Q3.step b6
    have S4 := S4.step b6
    go_wp2_with fail
    refine (bSameRow (c := d3) (c2 := c2) Q3 P2).mono ?_
    rintro e w7 ⟨rfl, b7⟩
    have B7 := below_step B6 b7
    have P0 := P0.step b7
    have P1 := P1.step b7
    have P2 := P2.step b7
    have Q1 := Q1.step b7
    have Q2 := Q2.step b7
    have Q3 := Q3.step b7
    have S4 := S4.step b7
    clear Q1 Q2 Q3
    go_wp2_with fail
    refine (bTrim P1.in_).mono ?_
    rintro e w21 ⟨X21, q21, d21, rfl, S21, _, b21⟩
    have B21 := below_step B7 b21
    have P0 := P0.step b21
    have P1 := P1.step b21
    have P2 := P2.step b21
    have S4 := S4.step b21
    have hd21a : decide (4 < (q21 : Int)) = false := by have h := S21.1; rw [length_wd] at h; simp; omega
    clear S21
    go_wp2_with fail
    refine (bTrim P2.in_).mono ?_
    rintro e w31 ⟨X31, q31, d31, rfl, S31, _, b31⟩
    have B31 := below_step B21 b31
    have P0 := P0.step b31
    have P1 := P1.step b31
    have P2 := P2.step b31
    have S4 := S4.step b31
    have hd31a : decide (4 < (q31 : Int)) = false := by have h := S31.1; rw [length_wd] at h; simp; omega
    clear S31
    go_wp2_with fail
    refine (bExp8_ok P1.in_ P2.in_ P0.in_ HM.out (by omega) (by omega) (by omega) (by omega) (by omega)).mono ?_
    rintro e w41 ⟨X5, q5, d5, rfl, S5, b41⟩
    have B41 := below_step B31 b41
    have P0 := P0.step b41
    have P1 := P1.step b41
    have P2 := P2.step b41
    have S4 := S4.step b41
    go_wp2_with fail
    refine (bSame S4 S5).mono ?_
    rintro e w42 ⟨rfl, b42⟩
    have B42 := below_step B41 b42
    have P0 := P0.step b42
    have P1 := P1.step b42
    have P2 := P2.step b42
    have S4 := S4.step b42
    have S5 := S5.step b42
    go_wp2_with fail
    refine (powWorks_any _ (HLd.out.below B42)).mono ?_
    rintro e w43 ⟨rfl, b43⟩
    have B43 := below_step B42 b43
    go_wp2_with fail
    go_ret
    exact ⟨rfl, B43⟩
set_option maxHeartbeats 4000000 in
theorem exp_blo_blo (A0 : Option Addr) (c0 : Nat) (l0 : List Nat) (A1 : Option Addr) (c1 : Nat) (l1 : List Nat) (A2 : Option Addr) (c2 : Nat) (l2 : List Nat) (w : World) (P0 : RowIs w A0 l0.length c0 l0) (P1 : RowIs w A1 l1.length c1 l1) (P2 : RowIs w A2 l2.length c2 l2) (h0 : l0.length ≤ 6) (he : 65 ≤ l1.length ∧ l1.length ≤ 70) (hm : 65 ≤ l2.length ∧ l2.length ≤ 70) (ke : nbits (natOf l1) ≤ 256) (km : nbits (natOf l2) ≤ 256) (hL : Laid8 w) :
    Calls Tryd.prog 3 #[.slice A0 l0.length c0, .slice A1 l1.length c1, .slice A2 l2.length c2] w fun e w' => e = .returned (.bool true) ∧ Below w.heap.size w w' := by
  have HLd := Lib.hid hL
  clear hL
  have g0 : decide (6 < (l0.length : Int)) = false := by simp; omega
  have ge1 : decide (2 < (l1.length : Int)) = true := by simp; omega
  have ge2 : decide ((l1.length : Int) < 65) = false := by simp; omega
  have ge3 : decide (70 < (l1.length : Int)) = false := by simp; omega
  have gm1 : decide (4 < (l2.length : Int)) = true := by simp; omega
  have gm2 : decide ((l2.length : Int) < 65) = false := by simp; omega
  have gm3 : decide (70 < (l2.length : Int)) = false := by simp; omega
  have n0 := P0.in_.bits
  by_cases hm : natOf l2 = 0
  · have HM := Lib.hid hm
    clear hm
    go_enter Tryd.func3, Tryd.ntmps3
    go_wp2_with fail
    refine (bCopy (c := c0) P0).mono ?_
    rintro e w1 ⟨X1, d1, rfl, Q1, b1⟩
    have B1 := b1
    have P0 := P0.step b1
    have P1 := P1.step b1
    have P2 := P2.step b1
    go_wp2_with fail
    refine (bCopy (c := c1) P1).mono ?_
    rintro e w2 ⟨X2, d2, rfl, Q2, b2⟩
    have B2 := below_step B1 b2
    have P0 := P0.step b2
    have P1 := P1.step b2
    have P2 := P2.step b2
    have Q1 := Q1.step b2
    go_wp2_with fail
    refine (bCopy (c := c2) P2).mono ?_
    rintro e w3 ⟨X3, d3, rfl, Q3, b3⟩
    have B3 := below_step B2 b3
    have P0 := P0.step b3
    have P1 := P1.step b3
    have P2 := P2.step b3
    have Q1 := Q1.step b3
    have Q2 := Q2.step b3
    go_wp2_with fail
    refine (bExp_zero Q1.in_ Q2.in_ Q3.in_ HM.out (by omega) (by omega) (by omega)).mono ?_
    rintro e w4 ⟨X4, d4, rfl, b4⟩
    have B4 := below_step B3 b4
    have P0 := P0.step b4
    have P1 := P1.step b4
    have P2 := P2.step b4
    have Q1 := Q1.step b4
    have Q2 := Q2.step b4
    have Q3 := Q3.step b4
    go_wp2_with fail
    refine (bSameRow (c := d1) (c2 := c0) Q1 P0).mono ?_
    rintro e w5 ⟨rfl, b5⟩
    have B5 := below_step B4 b5
    have P0 := P0.step b5
    have P1 := P1.step b5
    have P2 := P2.step b5
    have Q1 := Q1.step b5
    have Q2 := Q2.step b5
    have Q3 := Q3.step b5
    go_wp2_with fail
    refine (bSameRow (c := d2) (c2 := c1) Q2 P1).mono ?_
    rintro e w6 ⟨rfl, b6⟩
    have B6 := below_step B5 b6
    have P0 := P0.step b6
    have P1 := P1.step b6
    have P2 := P2.step b6
    have Q1 := Q1.step b6
    have Q2 := Q2.step b6
    have Q3 := Q3.step b6
    go_wp2_with fail
    refine (bSameRow (c := d3) (c2 := c2) Q3 P2).mono ?_
    rintro e w7 ⟨rfl, b7⟩
    have B7 := below_step B6 b7
    have P0 := P0.step b7
    have P1 := P1.step b7
    have P2 := P2.step b7
    have Q1 := Q1.step b7
    have Q2 := Q2.step b7
    have Q3 := Q3.step b7
    clear Q1 Q2 Q3
    go_wp2_with fail
    refine (bTrim P1.in_).mono ?_
    rintro e w21 ⟨X21, q21, d21, rfl, S21, _, b21⟩
    have B21 := below_step B7 b21
    have P0 := P0.step b21
    have P1 := P1.step b21
    have P2 := P2.step b21
    have hd21a : decide (4 < (q21 : Int)) = false := by have h := S21.1; rw [length_wd] at h; simp; omega
    clear S21
    go_wp2_with fail
    refine (bTrim P2.in_).mono ?_
    rintro e w31 ⟨X31, q31, d31, rfl, S31, _, b31⟩
    have B31 := below_step B21 b31
    have P0 := P0.step b31
    have P1 := P1.step b31
    have P2 := P2.step b31
    have hd31a : decide (4 < (q31 : Int)) = false := by have h := S31.1; rw [length_wd] at h; simp; omega
    clear S31
    go_wp2_with fail
    refine (bExp8_zero P1.in_ P2.in_ P0.in_ HM.out (by omega) (by omega)).mono ?_
    rintro e w41 ⟨X5, d5, rfl, b41⟩
    have B41 := below_step B31 b41
    have P0 := P0.step b41
    have P1 := P1.step b41
    have P2 := P2.step b41
    go_wp2_with fail
    refine (same_none _ _ _ _ _).mono ?_
    rintro e w42 ⟨rfl, b42⟩
    have B42 := below_step B41 b42
    have P0 := P0.step b42
    have P1 := P1.step b42
    have P2 := P2.step b42
    go_wp2_with fail
    refine (powWorks_any _ (HLd.out.below B42)).mono ?_
    rintro e w43 ⟨rfl, b43⟩
    have B43 := below_step B42 b43
    go_wp2_with fail
    go_ret
    exact ⟨rfl, B43⟩
  · have HM := Lib.hid hm
    clear hm
    go_enter Tryd.func3, Tryd.ntmps3
    go_wp2_with fail
    refine (bCopy (c := c0) P0).mono ?_
    rintro e w1 ⟨X1, d1, rfl, Q1, b1⟩
    have B1 := b1
    have P0 := P0.step b1
    have P1 := P1.step b1
    have P2 := P2.step b1
    go_wp2_with fail
    refine (bCopy (c := c1) P1).mono ?_
    rintro e w2 ⟨X2, d2, rfl, Q2, b2⟩
    have B2 := below_step B1 b2
    have P0 := P0.step b2
    have P1 := P1.step b2
    have P2 := P2.step b2
    have Q1 := Q1.step b2
    go_wp2_with fail
    refine (bCopy (c := c2) P2).mono ?_
    rintro e w3 ⟨X3, d3, rfl, Q3, b3⟩
    have B3 := below_step B2 b3
    have P0 := P0.step b3
    have P1 := P1.step b3
    have P2 := P2.step b3
    have Q1 := Q1.step b3
    have Q2 := Q2.step b3
    go_wp2_with fail
    refine (bExp_ok Q1.in_ Q2.in_ Q3.in_ HM.out (by omega) (by omega) (by omega) (by omega) (by omega)).mono ?_
    rintro e w4 ⟨X4, q4, d4, rfl, S4, b4⟩
    have B4 := below_step B3 b4
    have P0 := P0.step b4
    have P1 := P1.step b4
    have P2 := P2.step b4
    have Q1 := Q1.step b4
    have Q2 := Q2.step b4
    have Q3 := Q3.step b4
    go_wp2_with fail
    refine (bSameRow (c := d1) (c2 := c0) Q1 P0).mono ?_
    rintro e w5 ⟨rfl, b5⟩
    have B5 := below_step B4 b5
    have P0 := P0.step b5
    have P1 := P1.step b5
    have P2 := P2.step b5
    have Q1 := Q1.step b5
    have Q2 := Q2.step b5
    have Q3 := Q3.step b5
    have S4 := S4.step b5
    go_wp2_with fail
    refine (bSameRow (c := d2) (c2 := c1) Q2 P1).mono ?_
    rintro e w6 ⟨rfl, b6⟩
    have B6 := below_step B5 b6
    have P0 := P0.step b6
    have P1 := P1.step b6
    have P2 := P2.step b6
    have Q1 := Q1.step b6
    have Q2 := Q2.step b6
    have Q3 := Q3.step b6
    have S4 := S4.step b6
    go_wp2_with fail
    refine (bSameRow (c := d3) (c2 := c2) Q3 P2).mono ?_
    rintro e w7 ⟨rfl, b7⟩
    have B7 := below_step B6 b7
    have P0 := P0.step b7
    have P1 := P1.step b7
    have P2 := P2.step b7
    have Q1 := Q1.step b7
    have Q2 := Q2.step b7
    have Q3 := Q3.step b7
    have S4 := S4.step b7
    clear Q1 Q2 Q3
    go_wp2_with fail
    refine (bTrim P1.in_).mono ?_
    rintro e w21 ⟨X21, q21, d21, rfl, S21, _, b21⟩
    have B21 := below_step B7 b21
    have P0 := P0.step b21
    have P1 := P1.step b21
    have P2 := P2.step b21
    have S4 := S4.step b21
    have hd21a : decide (4 < (q21 : Int)) = false := by have h := S21.1; rw [length_wd] at h; simp; omega
    clear S21
    go_wp2_with fail
    refine (bTrim P2.in_).mono ?_
    rintro e w31 ⟨X31, q31, d31, rfl, S31, _, b31⟩
    have B31 := below_step B21 b31
    have P0 := P0.step b31
    have P1 := P1.step b31
    have P2 := P2.step b31
    have S4 := S4.step b31
    have hd31a : decide (4 < (q31 : Int)) = false := by have h := S31.1; rw [length_wd] at h; simp; omega
    clear S31
    go_wp2_with fail
    refine (bExp8_ok P1.in_ P2.in_ P0.in_ HM.out (by omega) (by omega) (by omega) (by omega) (by omega)).mono ?_
    rintro e w41 ⟨X5, q5, d5, rfl, S5, b41⟩
    have B41 := below_step B31 b41
    have P0 := P0.step b41
    have P1 := P1.step b41
    have P2 := P2.step b41
    have S4 := S4.step b41
    go_wp2_with fail
    refine (bSame S4 S5).mono ?_
    rintro e w42 ⟨rfl, b42⟩
    have B42 := below_step B41 b42
    have P0 := P0.step b42
    have P1 := P1.step b42
    have P2 := P2.step b42
    have S4 := S4.step b42
    have S5 := S5.step b42
    go_wp2_with fail
    refine (powWorks_any _ (HLd.out.below B42)).mono ?_
    rintro e w43 ⟨rfl, b43⟩
    have B43 := below_step B42 b43
    go_wp2_with fail
    go_ret
    exact ⟨rfl, B43⟩
set_option maxHeartbeats 4000000 in
theorem exp_blo_bmid (A0 : Option Addr) (c0 : Nat) (l0 : List Nat) (A1 : Option Addr) (c1 : Nat) (l1 : List Nat) (A2 : Option Addr) (c2 : Nat) (l2 : List Nat) (w : World) (P0 : RowIs w A0 l0.length c0 l0) (P1 : RowIs w A1 l1.length c1 l1) (P2 : RowIs w A2 l2.length c2 l2) (h0 : l0.length ≤ 6) (he : 65 ≤ l1.length ∧ l1.length ≤ 70) (hm : 65 ≤ l2.length ∧ l2.length ≤ 70) (ke : nbits (natOf l1) ≤ 256) (km : 256 < nbits (natOf l2) ∧ nbits (natOf l2) ≤ 4096) (hL : Laid8 w) :
    Calls Tryd.prog 3 #[.slice A0 l0.length c0, .slice A1 l1.length c1, .slice A2 l2.length c2] w fun e w' => e = .returned (.bool true) ∧ Below w.heap.size w w' := by
  have HLd := Lib.hid hL
  clear hL
  have g0 : decide (6 < (l0.length : Int)) = false := by simp; omega
  have ge1 : decide (2 < (l1.length : Int)) = true := by simp; omega
  have ge2 : decide ((l1.length : Int) < 65) = false := by simp; omega
  have ge3 : decide (70 < (l1.length : Int)) = false := by simp; omega
  have gm1 : decide (4 < (l2.length : Int)) = true := by simp; omega
  have gm2 : decide ((l2.length : Int) < 65) = false := by simp; omega
  have gm3 : decide (70 < (l2.length : Int)) = false := by simp; omega
  have n0 := P0.in_.bits
  have HM := Lib.hid (show natOf l2 ≠ 0 from fun h0 => by rw [h0, nbits_zero] at km; omega)
  go_enter Tryd.func3, Tryd.ntmps3
  go_wp2_with fail
  refine (bCopy (c := c0) P0).mono ?_
  rintro e w1 ⟨X1, d1, rfl, Q1, b1⟩
  have B1 := b1
  have P0 := P0.step b1
  have P1 := P1.step b1
  have P2 := P2.step b1
  go_wp2_with fail
  refine (bCopy (c := c1) P1).mono ?_
  rintro e w2 ⟨X2, d2, rfl, Q2, b2⟩
  have B2 := below_step B1 b2
  have P0 := P0.step b2
  have P1 := P1.step b2
  have P2 := P2.step b2
  have Q1 := Q1.step b2
  go_wp2_with fail
  refine (bCopy (c := c2) P2).mono ?_
  rintro e w3 ⟨X3, d3, rfl, Q3, b3⟩
  have B3 := below_step B2 b3
  have P0 := P0.step b3
  have P1 := P1.step b3
  have P2 := P2.step b3
  have Q1 := Q1.step b3
  have Q2 := Q2.step b3
  go_wp2_with fail
  refine (bExp_ok Q1.in_ Q2.in_ Q3.in_ HM.out (by omega) (by omega) (by omega) (by omega) (by omega)).mono ?_
  rintro e w4 ⟨X4, q4, d4, rfl, S4, b4⟩
  have B4 := below_step B3 b4
  have P0 := P0.step b4
  have P1 := P1.step b4
  have P2 := P2.step b4
  have Q1 := Q1.step b4
  have Q2 := Q2.step b4
  have Q3 := Q3.step b4
  go_wp2_with fail
  refine (bSameRow (c := d1) (c2 := c0) Q1 P0).mono ?_
  rintro e w5 ⟨rfl, b5⟩
  have B5 := below_step B4 b5
  have P0 := P0.step b5
  have P1 := P1.step b5
  have P2 := P2.step b5
  have Q1 := Q1.step b5
  have Q2 := Q2.step b5
  have Q3 := Q3.step b5
  have S4 := S4.step b5
  go_wp2_with fail
  refine (bSameRow (c := d2) (c2 := c1) Q2 P1).mono ?_
  rintro e w6 ⟨rfl, b6⟩
  have B6 := below_step B5 b6
  have P0 := P0.step b6
  have P1 := P1.step b6
  have P2 := P2.step b6
  have Q1 := Q1.step b6
  have Q2 := Q2.step b6
  have Q3 := Q3.step b6
  have S4 := S4.step b6
  go_wp2_with fail
  refine (bSameRow (c := d3) (c2 := c2) Q3 P2).mono ?_
  rintro e w7 ⟨rfl, b7⟩
  have B7 := below_step B6 b7
  have P0 := P0.step b7
  have P1 := P1.step b7
  have P2 := P2.step b7
  have Q1 := Q1.step b7
  have Q2 := Q2.step b7
  have Q3 := Q3.step b7
  have S4 := S4.step b7
  clear Q1 Q2 Q3
  go_wp2_with fail
  refine (bTrim P1.in_).mono ?_
  rintro e w21 ⟨X21, q21, d21, rfl, S21, _, b21⟩
  have B21 := below_step B7 b21
  have P0 := P0.step b21
  have P1 := P1.step b21
  have P2 := P2.step b21
  have S4 := S4.step b21
  have hd21a : decide (4 < (q21 : Int)) = false := by have h := S21.1; rw [length_wd] at h; simp; omega
  clear S21
  go_wp2_with fail
  refine (bTrim P2.in_).mono ?_
  rintro e w31 ⟨X31, q31, d31, rfl, S31, _, b31⟩
  have B31 := below_step B21 b31
  have P0 := P0.step b31
  have P1 := P1.step b31
  have P2 := P2.step b31
  have S4 := S4.step b31
  have hd31a : decide (4 < (q31 : Int)) = true := by have h := S31.1; rw [length_wd] at h; simp; omega
  clear S31
  go_wp2_with fail
  refine (bTrim P2.in_).mono ?_
  rintro e w32 ⟨X32, q32, d32, rfl, S32, _, b32⟩
  have B32 := below_step B31 b32
  have P0 := P0.step b32
  have P1 := P1.step b32
  have P2 := P2.step b32
  have S4 := S4.step b32
  have hd31b : decide ((q32 : Int) < 65) = true := by have h := S32.1; rw [length_wd] at h; simp; omega
  clear S32
  go_wp2_with fail
  refine (powWorks_any _ (HLd.out.below B32)).mono ?_
  rintro e w41 ⟨rfl, b41⟩
  have B41 := below_step B32 b41
  go_wp2_with fail
  go_ret
  exact ⟨rfl, B41⟩
set_option maxHeartbeats 4000000 in
theorem exp_blo_bhi (A0 : Option Addr) (c0 : Nat) (l0 : List Nat) (A1 : Option Addr) (c1 : Nat) (l1 : List Nat) (A2 : Option Addr) (c2 : Nat) (l2 : List Nat) (w : World) (P0 : RowIs w A0 l0.length c0 l0) (P1 : RowIs w A1 l1.length c1 l1) (P2 : RowIs w A2 l2.length c2 l2) (h0 : l0.length ≤ 6) (he : 65 ≤ l1.length ∧ l1.length ≤ 70) (hm : 65 ≤ l2.length ∧ l2.length ≤ 70) (ke : nbits (natOf l1) ≤ 256) (km : 4096 < nbits (natOf l2)) (hL : Laid8 w) :
    Calls Tryd.prog 3 #[.slice A0 l0.length c0, .slice A1 l1.length c1, .slice A2 l2.length c2] w fun e w' => e = .returned (.bool true) ∧ Below w.heap.size w w' := by
  have HLd := Lib.hid hL
  clear hL
  have g0 : decide (6 < (l0.length : Int)) = false := by simp; omega
  have ge1 : decide (2 < (l1.length : Int)) = true := by simp; omega
  have ge2 : decide ((l1.length : Int) < 65) = false := by simp; omega
  have ge3 : decide (70 < (l1.length : Int)) = false := by simp; omega
  have gm1 : decide (4 < (l2.length : Int)) = true := by simp; omega
  have gm2 : decide ((l2.length : Int) < 65) = false := by simp; omega
  have gm3 : decide (70 < (l2.length : Int)) = false := by simp; omega
  have n0 := P0.in_.bits
  have HM := Lib.hid (show natOf l2 ≠ 0 from fun h0 => by rw [h0, nbits_zero] at km; omega)
  go_enter Tryd.func3, Tryd.ntmps3
  go_wp2_with fail
  refine (bCopy (c := c0) P0).mono ?_
  rintro e w1 ⟨X1, d1, rfl, Q1, b1⟩
  have B1 := b1
  have P0 := P0.step b1
  have P1 := P1.step b1
  have P2 := P2.step b1
  go_wp2_with fail
  refine (bCopy (c := c1) P1).mono ?_
  rintro e w2 ⟨X2, d2, rfl, Q2, b2⟩
  have B2 := below_step B1 b2
  have P0 := P0.step b2
  have P1 := P1.step b2
  have P2 := P2.step b2
  have Q1 := Q1.step b2
  go_wp2_with fail
  refine (bCopy (c := c2) P2).mono ?_
  rintro e w3 ⟨X3, d3, rfl, Q3, b3⟩
  have B3 := below_step B2 b3
  have P0 := P0.step b3
  have P1 := P1.step b3
  have P2 := P2.step b3
  have Q1 := Q1.step b3
  have Q2 := Q2.step b3
  go_wp2_with fail
  refine (bExp_many Q1.in_ Q2.in_ Q3.in_ HM.out (by omega) (by omega) (by omega) (by omega)).mono ?_
  rintro e w4 ⟨X4, d4, rfl, b4⟩
  have B4 := below_step B3 b4
  have P0 := P0.step b4
  have P1 := P1.step b4
  have P2 := P2.step b4
  have Q1 := Q1.step b4
  have Q2 := Q2.step b4
  have Q3 := Q3.step b4
  go_wp2_with fail
  refine (bSameRow (c := d1) (c2 := c0) Q1 P0).mono ?_
  rintro e w5 ⟨rfl, b5⟩
  have B5 := below_step B4 b5
  have P0 := P0.step b5
  have P1 := P1.step b5
  have P2 := P2.step b5
  have Q1 := Q1.step b5
  have Q2 := Q2.step b5
  have Q3 := Q3.step b5
  go_wp2_with fail
  refine (bSameRow (c := d2) (c2 := c1) Q2 P1).mono ?_
  rintro e w6 ⟨rfl, b6⟩
  have B6 := below_step B5 b6
  have P0 := P0.step b6
  have P1 := P1.step b6
  have P2 := P2.step b6
  have Q1 := Q1.step b6
  have Q2 := Q2.step b6
  have Q3 := Q3.step b6
  go_wp2_with fail
  refine (bSameRow (c := d3) (c2 := c2) Q3 P2).mono ?_
  rintro e w7 ⟨rfl, b7⟩
  have B7 := below_step B6 b7
  have P0 := P0.step b7
  have P1 := P1.step b7
  have P2 := P2.step b7
  have Q1 := Q1.step b7
  have Q2 := Q2.step b7
  have Q3 := Q3.step b7
  clear Q1 Q2 Q3
  go_wp2_with fail
  refine (bTrim P1.in_).mono ?_
  rintro e w21 ⟨X21, q21, d21, rfl, S21, _, b21⟩
  have B21 := below_step B7 b21
  have P0 := P0.step b21
  have P1 := P1.step b21
  have P2 := P2.step b21
  have hd21a : decide (4 < (q21 : Int)) = false := by have h := S21.1; rw [length_wd] at h; simp; omega
  clear S21
  go_wp2_with fail
  refine (bTrim P2.in_).mono ?_
  rintro e w31 ⟨X31, q31, d31, rfl, S31, _, b31⟩
  have B31 := below_step B21 b31
  have P0 := P0.step b31
  have P1 := P1.step b31
  have P2 := P2.step b31
  have hd31a : decide (4 < (q31 : Int)) = true := by have h := S31.1; rw [length_wd] at h; simp; omega
  clear S31
  go_wp2_with fail
  refine (bTrim P2.in_).mono ?_
  rintro e w32 ⟨X32, q32, d32, rfl, S32, _, b32⟩
  have B32 := below_step B31 b32
  have P0 := P0.step b32
  have P1 := P1.step b32
  have P2 := P2.step b32
  have hd31b : decide ((q32 : Int) < 65) = false := by have h := S32.1; rw [length_wd] at h; simp; omega
  clear S32
  go_wp2_with fail
  refine (bExp8_many P1.in_ P2.in_ P0.in_ HM.out (by omega) (by omega) (by omega)).mono ?_
  rintro e w41 ⟨X5, d5, rfl, b41⟩
  have B41 := below_step B32 b41
  have P0 := P0.step b41
  have P1 := P1.step b41
  have P2 := P2.step b41
  go_wp2_with fail
  refine (same_none _ _ _ _ _).mono ?_
  rintro e w42 ⟨rfl, b42⟩
  have B42 := below_step B41 b42
  have P0 := P0.step b42
  have P1 := P1.step b42
  have P2 := P2.step b42
  go_wp2_with fail
  refine (powWorks_any _ (HLd.out.below B42)).mono ?_
  rintro e w43 ⟨rfl, b43⟩
  have B43 := below_step B42 b43
  go_wp2_with fail
  go_ret
  exact ⟨rfl, B43⟩
set_option maxHeartbeats 4000000 in
theorem exp_bmid_slo (A0 : Option Addr) (c0 : Nat) (l0 : List Nat) (A1 : Option Addr) (c1 : Nat) (l1 : List Nat) (A2 : Option Addr) (c2 : Nat) (l2 : List Nat) (w : World) (P0 : RowIs w A0 l0.length c0 l0) (P1 : RowIs w A1 l1.length c1 l1) (P2 : RowIs w A2 l2.length c2 l2) (h0 : l0.length ≤ 6) (he : 65 ≤ l1.length ∧ l1.length ≤ 70) (hm : l2.length ≤ 4) (ke : 256 < nbits (natOf l1) ∧ nbits (natOf l1) ≤ 4096) (km : nbits (natOf l2) ≤ 256) (hL : Laid8 w) :
    Calls Tryd.prog 3 #[.slice A0 l0.length c0, .slice A1 l1.length c1, .slice A2 l2.length c2] w fun e w' => e = .returned (.bool true) ∧ Below w.heap.size w w' := by
  have HLd := Lib.hid hL
  clear hL
  have g0 : decide (6 < (l0.length : Int)) = false := by simp; omega
  have ge1 : decide (2 < (l1.length : Int)) = true := by simp; omega
  have ge2 : decide ((l1.length : Int) < 65) = false := by simp; omega
  have ge3 : decide (70 < (l1.length : Int)) = false := by simp; omega
  have gm1 : decide (4 < (l2.length : Int)) = false := by simp; omega
  have gm3 : decide (70 < (l2.length : Int)) = false := by simp; omega
  have n0 := P0.in_.bits
  by_cases hm : natOf l2 = 0
  · have HM := Lib.hid hm
    clear hm
    go_enter Tryd.func3, Tryd.ntmps3
    go_wp2_with fail
    refine (bCopy (c := c0) P0).mono ?_
    rintro e w1 ⟨X1, d1, rfl, Q1, b1⟩
    have B1 := b1
    have P0 := P0.step b1
    have P1 := P1.step b1
    have P2 := P2.step b1
    go_wp2_with fail
    refine (bCopy (c := c1) P1).mono ?_
    rintro e w2 ⟨X2, d2, rfl, Q2, b2⟩
    have B2 := below_step B1 b2
    have P0 := P0.step b2
    have P1 := P1.step b2
    have P2 := P2.step b2
    have Q1 := Q1.step b2
    go_wp2_with fail
    refine (bCopy (c := c2) P2).mono ?_
    rintro e w3 ⟨X3, d3, rfl, Q3, b3⟩
    have B3 := below_step B2 b3
    have P0 := P0.step b3
    have P1 := P1.step b3
    have P2 := P2.step b3
    have Q1 := Q1.step b3
    have Q2 := Q2.step b3
    go_wp2_with fail
    refine (bExp_zero Q1.in_ Q2.in_ Q3.in_ HM.out (by omega) (by omega) (by omega)).mono ?_
    rintro e w4 ⟨X4, d4, rfl, b4⟩
    have B4 := below_step B3 b4
    have P0 := P0.step b4
    have P1 := P1.step b4
    have P2 := P2.step b4
    have Q1 := Q1.step b4
    have Q2 := Q2.step b4
    have Q3 := Q3.step b4
    go_wp2_with fail
    refine (bSameRow (c := d1) (c2 := c0) Q1 P0).mono ?_
    rintro e w5 ⟨rfl, b5⟩
    have B5 := below_step B4 b5
    have P0 := P0.step b5
    have P1 := P1.step b5
    have P2 := P2.step b5
    have Q1 := Q1.step b5
    have Q2 := Q2.step b5
    have Q3 := Q3.step b5
    go_wp2_with fail
    refine (bSameRow (c := d2) (c2 := c1) Q2 P1).mono ?_
    rintro e w6 ⟨rfl, b6⟩
    have B6 := below_step B5 b6
    have P0 := P0.step b6
    have P1 := P1.step b6
    have P2 := P2.step b6
    have Q1 := Q1.step b6
    have Q2 := Q2.step b6
    have Q3 := Q3.step b6
    go_wp2_with fail
    refine (bSameRow (c := d3) (c2 := c2) Q3 P2).mono ?_
    rintro e w7 ⟨rfl, b7⟩
    have B7 := below_step B6 b7
    have P0 := P0.step b7
    have P1 := P1.step b7
    have P2 := P2.step b7
    have Q1 := Q1.step b7
    have Q2 := Q2.step b7
    have Q3 := Q3.step b7
    clear Q1 Q2 Q3
    go_wp2_with fail
    refine (bTrim P1.in_).mono ?_
    rintro e w21 ⟨X21, q21, d21, rfl, S21, _, b21⟩
    have B21 := below_step B7 b21
    have P0 := P0.step b21
    have P1 := P1.step b21
    have P2 := P2.step b21
    have hd21a : decide (4 < (q21 : Int)) = true := by have h := S21.1; rw [length_wd] at h; simp; omega
    clear S21
    go_wp2_with fail
    refine (bTrim P1.in_).mono ?_
    rintro e w22 ⟨X22, q22, d22, rfl, S22, _, b22⟩
    have B22 := below_step B21 b22
    have P0 := P0.step b22
    have P1 := P1.step b22
    have P2 := P2.step b22
    have hd21b : decide ((q22 : Int) < 65) = true := by have h := S22.1; rw [length_wd] at h; simp; omega
    clear S22
    go_wp2_with fail
    refine (powWorks_any _ (HLd.out.below B22)).mono ?_
    rintro e w31 ⟨rfl, b31⟩
    have B31 := below_step B22 b31
    go_wp2_with fail
    go_ret
    exact ⟨rfl, B31⟩
  · have HM := Lib.hid hm
    clear hm
    go_enter Tryd.func3, Tryd.ntmps3
    go_wp2_with fail
    refine (bCopy (c := c0) P0).mono ?_
    rintro e w1 ⟨X1, d1, rfl, Q1, b1⟩
    have B1 := b1
    have P0 := P0.step b1
    have P1 := P1.step b1
    have P2 := P2.step b1
    go_wp2_with fail
    refine (bCopy (c := c1) P1).mono ?_
    rintro e w2 ⟨X2, d2, rfl, Q2, b2⟩
    have B2 := below_step B1 b2
    have P0 := P0.step b2
    have P1 := P1.step b2
    have P2 := P2.step b2
    have Q1 := Q1.step b2
    go_wp2_with fail
    refine (bCopy (c := c2) P2).mono ?_
    rintro e w3 ⟨X3, d3, rfl, Q3, b3⟩
    have B3 := below_step B2 b3
    have P0 := P0.step b3
    have P1 := P1.step b3
    have P2 := P2.step b3
    have Q1 := Q1.step b3
    have Q2 := Q2.step b3
    go_wp2_with fail
    refine (bExp_ok Q1.in_ Q2.in_ Q3.in_ HM.out (by omega) (by omega) (by omega) (by omega) (by omega)).mono ?_
    rintro e w4 ⟨X4, q4, d4, rfl, S4, b4⟩
    have B4 := below_step B3 b4
    have P0 := P0.step b4
    have P1 := P1.step b4
    have P2 := P2.step b4
    have Q1 := Q1.step b4
    have Q2 := Q2.step b4
    have Q3 := Q3.step b4
    go_wp2_with fail
    refine (bSameRow (c := d1) (c2 := c0) Q1 P0).mono ?_
    rintro e w5 ⟨rfl, b5⟩
    have B5 := below_step B4 b5
    have P0 := P0.step b5
    have P1 := P1.step b5
    have P2 := P2.step b5
    have Q1 := Q1.step b5
    have Q2 := Q2.step b5
    have Q3 := Q3.step b5
    have S4 := S4.step b5
    go_wp2_with fail
    refine (bSameRow (c := d2) (c2 := c1) Q2 P1).mono ?_
    rintro e w6 ⟨rfl, b6⟩
    have B6 := below_step B5 b6
    have P0 := P0.step b6
    have P1 := P1.step b6
    have P2 := P2.step b6
    have Q1 := Q1.step b6
    have Q2 := Q2.step b6
    have Q3 := Q3.step b6
    have S4 := S4.step b6
    go_wp2_with fail
    refine (bSameRow (c := d3) (c2 := c2) Q3 P2).mono ?_
    rintro e w7 ⟨rfl, b7⟩
    have B7 := below_step B6 b7
    have P0 := P0.step b7
    have P1 := P1.step b7
    have P2 := P2.step b7
    have Q1 := Q1.step b7
    have Q2 := Q2.step b7
    have Q3 := Q3.step b7
    have S4 := S4.step b7
    clear Q1 Q2 Q3
    go_wp2_with fail
    refine (bTrim P1.in_).mono ?_
    rintro e w21 ⟨X21, q21, d21, rfl, S21, _, b21⟩
    have B21 := below_step B7 b21
    have P0 := P0.step b21
    have P1 := P1.step b21
    have P2 := P2.step b21
    have S4 := S4.step b21
    have hd21a : decide (4 < (q21 : Int)) = true := by have h := S21.1; rw [length_wd] at h; simp; omega
    clear S21
    go_wp2_with fail
    refine (bTrim P1.in_).mono ?_
    rintro e w22 ⟨X22, q22, d22, rfl, S22, _, b22⟩
    have B22 := below_step B21 b22
    have P0 := P0.step b22
    have P1 := P1.step b22
    have P2 := P2.step b22
    have S4 := S4.step b22
    have hd21b : decide ((q22 : Int) < 65) = true := by have h := S22.1; rw [length_wd] at h; simp; omega
    clear S22
    go_wp2_with fail
    refine (powWorks_any _ (HLd.out.below B22)).mono ?_
    rintro e w31 ⟨rfl, b31⟩
    have B31 := below_step B22 b31
    go_wp2_with fail
    go_ret
    exact ⟨rfl, B31⟩
set_option maxHeartbeats 4000000 in
theorem exp_bmid_blo (A0 : Option Addr) (c0 : Nat) (l0 : List Nat) (A1 : Option Addr) (c1 : Nat) (l1 : List Nat) (A2 : Option Addr) (c2 : Nat) (l2 : List Nat) (w : World) (P0 : RowIs w A0 l0.length c0 l0) (P1 : RowIs w A1 l1.length c1 l1) (P2 : RowIs w A2 l2.length c2 l2) (h0 : l0.length ≤ 6) (he : 65 ≤ l1.length ∧ l1.length ≤ 70) (hm : 65 ≤ l2.length ∧ l2.length ≤ 70) (ke : 256 < nbits (natOf l1) ∧ nbits (natOf l1) ≤ 4096) (km : nbits (natOf l2) ≤ 256) (hL : Laid8 w) :
    Calls Tryd.prog 3 #[.slice A0 l0.length c0, .slice A1 l1.length c1, .slice A2 l2.length c2] w fun e w' => e = .returned (.bool true) ∧ Below w.heap.size w w' := by
  have HLd := Lib.hid hL
  clear hL
  have g0 : decide (6 < (l0.length : Int)) = false := by simp; omega
  have ge1 : decide (2 < (l1.length : Int)) = true := by simp; omega
  have ge2 : decide ((l1.length : Int) < 65) = false := by simp; omega
  have ge3 : decide (70 < (l1.length : Int)) = false := by simp; omega
  have gm1 : decide (4 < (l2.length : Int)) = true := by simp; omega
  have gm2 : decide ((l2.length : Int) < 65) = false := by simp; omega
  have gm3 : decide (70 < (l2.length : Int)) = false := by simp; omega
  have n0 := P0.in_.bits
  by_cases hm : natOf l2 = 0
  · have HM := Lib.hid hm
    clear hm
    go_enter Tryd.func3, Tryd.ntmps3
    go_wp2_with fail
    refine (bCopy (c := c0) P0).mono ?_
    rintro e w1 ⟨X1, d1, rfl, Q1, b1⟩
    have B1 := b1
    have P0 := P0.step b1
    have P1 := P1.step b1
    have P2 := P2.step b1
    go_wp2_with fail
    refine (bCopy (c := c1) P1).mono ?_
    rintro e w2 ⟨X2, d2, rfl, Q2, b2⟩
    have B2 := below_step B1 b2
    have P0 := P0.step b2
    have P1 := P1.step b2
    have P2 := P2.step b2
    have Q1 := Q1.step b2
    go_wp2_with fail
    refine (bCopy (c := c2) P2).mono ?_
    rintro e w3 ⟨X3, d3, rfl, Q3, b3⟩
    have B3 := below_step B2 b3
    have P0 := P0.step b3
    have P1 := P1.step b3
    have P2 := P2.step b3
    have Q1 := Q1.step b3
    have Q2 := Q2.step b3
    go_wp2_with fail
    refine (bExp_zero Q1.in_ Q2.in_ Q3.in_ HM.out (by omega) (by omega) (by omega)).mono ?_
    rintro e w4 ⟨X4, d4, rfl, b4⟩
    have B4 := below_step B3 b4
    have P0 := P0.step b4
    have P1 := P1.step b4
    have P2 := P2.step b4
    have Q1 := Q1.step b4
    have Q2 := Q2.step b4
    have Q3 := Q3.step b4
    go_wp2_with fail
    refine (bSameRow (c := d1) (c2 := c0) Q1 P0).mono ?_
    rintro e w5 ⟨rfl, b5⟩
    have B5 := below_step B4 b5
    have P0 := P0.step b5
    have P1 := P1.step b5
    have P2 := P2.step b5
    have Q1 := Q1.step b5
    have Q2 := Q2.step b5
    have Q3 := Q3.step b5
    go_wp2_with fail
    refine (bSameRow (c := d2) (c2 := c1) Q2 P1).mono ?_
    rintro e w6 ⟨rfl, b6⟩
    have B6 := below_step B5 b6
    have P0 := P0.step b6
    have P1 := P1.step b6
    have P2 := P2.step b6
    have Q1 := Q1.step b6
    have Q2 := Q2.step b6
    have Q3 := Q3.step b6
    go_wp2_with fail
    refine (bSameRow (c := d3) (c2 := c2) Q3 P2).mono ?_
    rintro e w7 ⟨rfl, b7⟩
    have B7 := below_step B6 b7
    have P0 := P0.step b7
    have P1 := P1.step b7
    have P2 := P2.step b7
    have Q1 := Q1.step b7
    have Q2 := Q2.step b7
    have Q3 := Q3.step b7
    clear Q1 Q2 Q3
    go_wp2_with fail
    refine (bTrim P1.in_).mono ?_
    rintro e w21 ⟨X21, q21, d21, rfl, S21, _, b21⟩
    have B21 := below_step B7 b21
    have P0 := P0.step b21
    have P1 := P1.step b21
    have P2 := P2.step b21
    have hd21a : decide (4 < (q21 : Int)) = true := by have h := S21.1; rw [length_wd] at h; simp; omega
    clear S21
    go_wp2_with fail
    refine (bTrim P1.in_).mono ?_
    rintro e w22 ⟨X22, q22, d22, rfl, S22, _, b22⟩
    have B22 := below_step B21 b22
    have P0 := P0.step b22
    have P1 := P1.step b22
    have P2 := P2.step b22
    have hd21b : decide ((q22 : Int) < 65) = true := by have h := S22.1; rw [length_wd] at h; simp; omega
    clear S22
    go_wp2_with fail
    refine (powWorks_any _ (HLd.out.below B22)).mono ?_
    rintro e w31 ⟨rfl, b31⟩
    have B31 := below_step B22 b31
    go_wp2_with fail
    go_ret
    exact ⟨rfl, B31⟩
  · have HM := Lib.hid hm
    clear hm
    go_enter Tryd.func3, Tryd.ntmps3
    go_wp2_with fail
    refine (bCopy (c := c0) P0).mono ?_
    rintro e w1 ⟨X1, d1, rfl, Q1, b1⟩
    have B1 := b1
    have P0 := P0.step b1
    have P1 := P1.step b1
    have P2 := P2.step b1
    go_wp2_with fail
    refine (bCopy (c := c1) P1).mono ?_
    rintro e w2 ⟨X2, d2, rfl, Q2, b2⟩
    have B2 := below_step B1 b2
    have P0 := P0.step b2
    have P1 := P1.step b2
    have P2 := P2.step b2
    have Q1 := Q1.step b2
    go_wp2_with fail
    refine (bCopy (c := c2) P2).mono ?_
    rintro e w3 ⟨X3, d3, rfl, Q3, b3⟩
    have B3 := below_step B2 b3
    have P0 := P0.step b3
    have P1 := P1.step b3
    have P2 := P2.step b3
    have Q1 := Q1.step b3
    have Q2 := Q2.step b3
    go_wp2_with fail
    refine (bExp_ok Q1.in_ Q2.in_ Q3.in_ HM.out (by omega) (by omega) (by omega) (by omega) (by omega)).mono ?_
    rintro e w4 ⟨X4, q4, d4, rfl, S4, b4⟩
    have B4 := below_step B3 b4
    have P0 := P0.step b4
    have P1 := P1.step b4
    have P2 := P2.step b4
    have Q1 := Q1.step b4
    have Q2 := Q2.step b4
    have Q3 := Q3.step b4
    go_wp2_with fail
    refine (bSameRow (c := d1) (c2 := c0) Q1 P0).mono ?_
    rintro e w5 ⟨rfl, b5⟩
    have B5 := below_step B4 b5
    have P0 := P0.step b5
    have P1 := P1.step b5
    have P2 := P2.step b5
    have Q1 := Q1.step b5
    have Q2 := Q2.step b5
    have Q3 := Q3.step b5
    have S4 := S4.step b5
    go_wp2_with fail
    refine (bSameRow (c := d2) (c2 := c1) Q2 P1).mono ?_
    rintro e w6 ⟨rfl, b6⟩
    have B6 := below_step B5 b6
    have P0 := P0.step b6
    have P1 := P1.step b6
    have P2 := P2.step b6
    have Q1 := Q1.step b6
    have Q2 := Q2.step b6
    have Q3 := Q3.step b6
    have S4 := S4.step b6
    go_wp2_with fail
    refine (bSameRow (c := d3) (c2 := c2) Q3 P2).mono ?_
    rintro e w7 ⟨rfl, b7⟩
    have B7 := below_step B6 b7
    have P0 := P0.step b7
    have P1 := P1.step b7
    have P2 := P2.step b7
    have Q1 := Q1.step b7
    have Q2 := Q2.step b7
    have Q3 := Q3.step b7
    have S4 := S4.step b7
    clear Q1 Q2 Q3
    go_wp2_with fail
    refine (bTrim P1.in_).mono ?_
    rintro e w21 ⟨X21, q21, d21, rfl, S21, _, b21⟩
    have B21 := below_step B7 b21
    have P0 := P0.step b21
    have P1 := P1.step b21
    have P2 := P2.step b21
    have S4 := S4.step b21
    have hd21a : decide (4 < (q21 : Int)) = true := by have h := S21.1; rw [length_wd] at h; simp; omega
    clear S21
    go_wp2_with fail
    refine (bTrim P1.in_).mono ?_
    rintro e w22 ⟨X22, q22, d22, rfl, S22, _, b22⟩
    have B22 := below_step B21 b22
    have P0 := P0.step b22
    have P1 := P1.step b22
    have P2 := P2.step b22
    have S4 := S4.step b22
    have hd21b : decide ((q22 : Int) < 65) = true := by have h := S22.1; rw [length_wd] at h; simp; omega
    clear S22
    go_wp2_with fail
    refine (powWorks_any _ (HLd.out.below B22)).mono ?_
    rintro e w31 ⟨rfl, b31⟩
    have B31 := below_step B22 b31
    go_wp2_with fail
    go_ret
    exact ⟨rfl, B31⟩
set_option maxHeartbeats 4000000 in
theorem exp_bmid_bmid (A0 : Option Addr) (c0 : Nat) (l0 : List Nat) (A1 : Option Addr) (c1 : Nat) (l1 : List Nat) (A2 : Option Addr) (c2 : Nat) (l2 : List Nat) (w : World) (P0 : RowIs w A0 l0.length c0 l0) (P1 : RowIs w A1 l1.length c1 l1) (P2 : RowIs w A2 l2.length c2 l2) (h0 : l0.length ≤ 6) (he : 65 ≤ l1.length ∧ l1.length ≤ 70) (hm : 65 ≤ l2.length ∧ l2.length ≤ 70) (ke : 256 < nbits (natOf l1) ∧ nbits (natOf l1) ≤ 4096) (km : 256 < nbits (natOf l2) ∧ nbits (natOf l2) ≤ 4096) (hL : Laid8 w) :
    Calls Tryd.prog 3 #[.slice A0 l0.length c0, .slice A1 l1.length c1, .slice A2 l2.length c2] w fun e w' => e = .returned (.bool true) ∧ Below w.heap.size w w' := by
  have HLd := Lib.hid hL
  clear hL
  have g0 : decide (6 < (l0.length : Int)) = false := by simp; omega
  have ge1 : decide (2 < (l1.length : Int)) = true := by simp; omega
  have ge2 : decide ((l1.length : Int) < 65) = false := by simp; omega
  have ge3 : decide (70 < (l1.length : Int)) = false := by simp; omega
  have gm1 : decide (4 < (l2.length : Int)) = true := by simp; omega
  have gm2 : decide ((l2.length : Int) < 65) = false := by simp; omega
  have gm3 : decide (70 < (l2.length : Int)) = false := by simp; omega
  have n0 := P0.in_.bits
  have HM := Lib.hid (show natOf l2 ≠ 0 from fun h0 => by rw [h0, nbits_zero] at km; omega)
  go_enter Tryd.func3, Tryd.ntmps3
  go_wp2_with fail
  refine (bCopy (c := c0) P0).mono ?_
  rintro e w1 ⟨X1, d1, rfl, Q1, b1⟩
  have B1 := b1
  have P0 := P0.step b1
  have P1 := P1.step b1
  have P2 := P2.step b1
  go_wp2_with fail
  refine (bCopy (c := c1) P1).mono ?_
  rintro e w2 ⟨X2, d2, rfl, Q2, b2⟩
  have B2 := below_step B1 b2
  have P0 := P0.step b2
  have P1 := P1.step b2
  have P2 := P2.step b2
  have Q1 := Q1.step b2
  go_wp2_with fail
  refine (bCopy (c := c2) P2).mono ?_
  rintro e w3 ⟨X3, d3, rfl, Q3, b3⟩
  have B3 := below_step B2 b3
  have P0 := P0.step b3
  have P1 := P1.step b3
  have P2 := P2.step b3
  have Q1 := Q1.step b3
  have Q2 := Q2.step b3
  go_wp2_with fail
  refine (bExp_ok Q1.in_ Q2.in_ Q3.in_ HM.out (by omega) (by omega) (by omega) (by omega) (by omega)).mono ?_
  rintro e w4 ⟨X4, q4, d4, rfl, S4, b4⟩
  have B4 := below_step B3 b4
  have P0 := P0.step b4
  have P1 := P1.step b4
  have P2 := P2.step b4
  have Q1 := Q1.step b4
  have Q2 := Q2.step b4
  have Q3 := Q3.step b4
  go_wp2_with fail
  refine (bSameRow (c := d1) (c2 := c0) Q1 P0).mono ?_
  rintro e w5 ⟨rfl, b5⟩
  have B5 := below_step B4 b5
  have P0 := P0.step b5
  have P1 := P1.step b5
  have P2 := P2.step b5
  have Q1 := Q1.step b5
  have Q2 := Q2.step b5
  have Q3 := Q3.step b5
  have S4 := S4.step b5
  go_wp2_with fail
  refine (bSameRow (c := d2) (c2 := c1) Q2 P1).mono ?_
  rintro e w6 ⟨rfl, b6⟩
  have B6 := below_step B5 b6
  have P0 := P0.step b6
  have P1 := P1.step b6
  have P2 := P2.step b6
  have Q1 := Q1.step b6
  have Q2 := Q2.step b6
  have Q3 := Q3.step b6
  have S4 := S4.step b6
  go_wp2_with fail
  refine (bSameRow (c := d3) (c2 := c2) Q3 P2).mono ?_
  rintro e w7 ⟨rfl, b7⟩
  have B7 := below_step B6 b7
  have P0 := P0.step b7
  have P1 := P1.step b7
  have P2 := P2.step b7
  have Q1 := Q1.step b7
  have Q2 := Q2.step b7
  have Q3 := Q3.step b7
  have S4 := S4.step b7
  clear Q1 Q2 Q3
  go_wp2_with fail
  refine (bTrim P1.in_).mono ?_
  rintro e w21 ⟨X21, q21, d21, rfl, S21, _, b21⟩
  have B21 := below_step B7 b21
  have P0 := P0.step b21
  have P1 := P1.step b21
  have P2 := P2.step b21
  have S4 := S4.step b21
  have hd21a : decide (4 < (q21 : Int)) = true := by have h := S21.1; rw [length_wd] at h; simp; omega
  clear S21
  go_wp2_with fail
  refine (bTrim P1.in_).mono ?_
  rintro e w22 ⟨X22, q22, d22, rfl, S22, _, b22⟩
  have B22 := below_step B21 b22
  have P0 := P0.step b22
  have P1 := P1.step b22
  have P2 := P2.step b22
  have S4 := S4.step b22
  have hd21b : decide ((q22 : Int) < 65) = true := by have h := S22.1; rw [length_wd] at h; simp; omega
  clear S22
  go_wp2_with fail
  refine (powWorks_any _ (HLd.out.below B22)).mono ?_
  rintro e w31 ⟨rfl, b31⟩
  have B31 := below_step B22 b31
  go_wp2_with fail
  go_ret
  exact ⟨rfl, B31⟩
set_option maxHeartbeats 4000000 in
theorem exp_bmid_bhi (A0 : Option Addr) (c0 : Nat) (l0 : List Nat) (A1 : Option Addr) (c1 : Nat) (l1 : List Nat) (A2 : Option Addr) (c2 : Nat) (l2 : List Nat) (w : World) (P0 : RowIs w A0 l0.length c0 l0) (P1 : RowIs w A1 l1.length c1 l1) (P2 : RowIs w A2 l2.length c2 l2) (h0 : l0.length ≤ 6) (he : 65 ≤ l1.length ∧ l1.length ≤ 70) (hm : 65 ≤ l2.length ∧ l2.length ≤ 70) (ke : 256 < nbits (natOf l1) ∧ nbits (natOf l1) ≤ 4096) (km : 4096 < nbits (natOf l2)) (hL : Laid8 w) :
    Calls Tryd.prog 3 #[.slice A0 l0.length c0, .slice A1 l1.length c1, .slice A2 l2.length c2] w fun e w' => e = .returned (.bool true) ∧ Below w.heap.size w w' := by
  have HLd := Lib.hid hL
  clear hL
  have g0 : decide (6 < (l0.length : Int)) = false := by simp; omega
  have ge1 : decide (2 < (l1.length : Int)) = true := by simp; omega
  have ge2 : decide ((l1.length : Int) < 65) = false := by simp; omega
  have ge3 : decide (70 < (l1.length : Int)) = false := by simp; omega
  have gm1 : decide (4 < (l2.length : Int)) = true := by simp; omega
  have gm2 : decide ((l2.length : Int) < 65) = false := by simp; omega
  have gm3 : decide (70 < (l2.length : Int)) = false := by simp; omega
  have n0 := P0.in_.bits
  have HM := Lib.hid (show natOf l2 ≠ 0 from fun h0 => by rw [h0, nbits_zero] at km; omega)
  go_enter Tryd.func3, Tryd.ntmps3
  go_wp2_with fail
  refine (bCopy (c := c0) P0).mono ?_
  rintro e w1 ⟨X1, d1, rfl, Q1, b1⟩
  have B1 := b1
  have P0 := P0.step b1
  have P1 := P1.step b1
  have P2 := P2.step b1
  go_wp2_with fail
  refine (bCopy (c := c1) P1).mono ?_
  rintro e w2 ⟨X2, d2, rfl, Q2, b2⟩
  have B2 := below_step B1 b2
  have P0 := P0.step b2
  have P1 := P1.step b2
  have P2 := P2.step b2
  have Q1 := Q1.step b2
  go_wp2_with fail
  refine (bCopy (c := c2) P2).mono ?_
  rintro e w3 ⟨X3, d3, rfl, Q3, b3⟩
  have B3 := below_step B2 b3
  have P0 := P0.step b3
  have P1 := P1.step b3
  have P2 := P2.step b3
  have Q1 := Q1.step b3
  have Q2 := Q2.step b3
  go_wp2_with fail
  refine (bExp_many Q1.in_ Q2.in_ Q3.in_ HM.out (by omega) (by omega) (by omega) (by omega)).mono ?_
  rintro e w4 ⟨X4, d4, rfl, b4⟩
  have B4 := below_step B3 b4
  have P0 := P0.step b4
  have P1 := P1.step b4
  have P2 := P2.step b4
  have Q1 := Q1.step b4
  have Q2 := Q2.step b4
  have Q3 := Q3.step b4
  go_wp2_with fail
  refine (bSameRow (c := d1) (c2 := c0) Q1 P0).mono ?_
  rintro e w5 ⟨rfl, b5⟩
  have B5 := below_step B4 b5
  have P0 := P0.step b5
  have P1 := P1.step b5
  have P2 := P2.step b5
  have Q1 := Q1.step b5
  have Q2 := Q2.step b5
  have Q3 := Q3.step b5
  go_wp2_with fail
  refine (bSameRow (c := d2) (c2 := c1) Q2 P1).mono ?_
  rintro e w6 ⟨rfl, b6⟩
  have B6 := below_step B5 b6
  have P0 := P0.step b6
  have P1 := P1.step b6
  have P2 := P2.step b6
  have Q1 := Q1.step b6
  have Q2 := Q2.step b6
  have Q3 := Q3.step b6
  go_wp2_with fail
  refine (bSameRow (c := d3) (c2 := c2) Q3 P2).mono ?_
  rintro e w7 ⟨rfl, b7⟩
  have B7 := below_step B6 b7
  have P0 := P0.step b7
  have P1 := P1.step b7
  have P2 := P2.step b7
  have Q1 := Q1.step b7
  have Q2 := Q2.step b7
  have Q3 := Q3.step b7
  clear Q1 Q2 Q3
  go_wp2_with fail
  refine (bTrim P1.in_).mono ?_
  rintro e w21 ⟨X21, q21, d21, rfl, S21, _, b21⟩
  have B21 := below_step B7 b21
  have P0 := P0.step b21
  have P1 := P1.step b21
  have P2 := P2.step b21
  have hd21a : decide (4 < (q21 : Int)) = true := by have h := S21.1; rw [length_wd] at h; simp; omega
  clear S21
  go_wp2_with fail
  refine (bTrim P1.in_).mono ?_
  rintro e w22 ⟨X22, q22, d22, rfl, S22, _, b22⟩
  have B22 := below_step B21 b22
  have P0 := P0.step b22
  have P1 := P1.step b22
  have P2 := P2.step b22
  have hd21b : decide ((q22 : Int) < 65) = true := by have h := S22.1; rw [length_wd] at h; simp; omega
  clear S22
  go_wp2_with fail
  refine (powWorks_any _ (HLd.out.below B22)).mono ?_
  rintro e w31 ⟨rfl, b31⟩
  have B31 := below_step B22 b31
  go_wp2_with fail
  go_ret
  exact ⟨rfl, B31⟩
set_option maxHeartbeats 4000000 in
theorem exp_bhi_slo (A0 : Option Addr) (c0 : Nat) (l0 : List Nat) (A1 : Option Addr) (c1 : Nat) (l1 : List Nat) (A2 : Option Addr) (c2 : Nat) (l2 : List Nat) (w : World) (P0 : RowIs w A0 l0.length c0 l0) (P1 : RowIs w A1 l1.length c1 l1) (P2 : RowIs w A2 l2.length c2 l2) (h0 : l0.length ≤ 6) (he : 65 ≤ l1.length ∧ l1.length ≤ 70) (hm : l2.length ≤ 4) (ke : 4096 < nbits (natOf l1)) (km : nbits (natOf l2) ≤ 256) (hL : Laid8 w) :
    Calls Tryd.prog 3 #[.slice A0 l0.length c0, .slice A1 l1.length c1, .slice A2 l2.length c2] w fun e w' => e = .returned (.bool true) ∧ Below w.heap.size w w' := by
  have HLd := Lib.hid hL
  clear hL
  have g0 : decide (6 < (l0.length : Int)) = false := by simp; omega
  have ge1 : decide (2 < (l1.length : Int)) = true := by simp; omega
  have ge2 : decide ((l1.length : Int) < 65) = false := by simp; omega
  have ge3 : decide (70 < (l1.length : Int)) = false := by simp; omega
  have gm1 : decide (4 < (l2.length : Int)) = false := by simp; omega
  have gm3 : decide (70 < (l2.length : Int)) = false := by simp; omega
  have n0 := P0.in_.bits
  by_cases hm : natOf l2 = 0
  · have HM := Lib.hid hm
    clear hm
    go_enter Tryd.func3, Tryd.ntmps3
    go_wp2_with fail
    refine (bCopy (c := c0) P0).mono ?_
    rintro e w1 ⟨X1, d1, rfl, Q1, b1⟩
    have B1 := b1
    have P0 := P0.step b1
    have P1 := P1.step b1
    have P2 := P2.step b1
    go_wp2_with fail
    refine (bCopy (c := c1) P1).mono ?_
    rintro e w2 ⟨X2, d2, rfl, Q2, b2⟩
    have B2 := below_step B1 b2
    have P0 := P0.step b2
    have P1 := P1.step b2
    have P2 := P2.step b2
    have Q1 := Q1.step b2
    go_wp2_with fail
    refine (bCopy (c := c2) P2).mono ?_
    rintro e w3 ⟨X3, d3, rfl, Q3, b3⟩
    have B3 := below_step B2 b3
    have P0 := P0.step b3
    have P1 := P1.step b3
    have P2 := P2.step b3
    have Q1 := Q1.step b3
    have Q2 := Q2.step b3
    go_wp2_with fail
    refine (bExp_zero Q1.in_ Q2.in_ Q3.in_ HM.out (by omega) (by omega) (by omega)).mono ?_
    rintro e w4 ⟨X4, d4, rfl, b4⟩
    have B4 := below_step B3 b4
    have P0 := P0.step b4
    have P1 := P1.step b4
    have P2 := P2.step b4
    have Q1 := Q1.step b4
    have Q2 := Q2.step b4
    have Q3 := Q3.step b4
    go_wp2_with fail
    refine (bSameRow (c := d1) (c2 := c0) Q1 P0).mono ?_
    rintro e w5 ⟨rfl, b5⟩
    have B5 := below_step B4 b5
    have P0 := P0.step b5
    have P1 := P1.step b5
    have P2 := P2.step b5
    have Q1 := Q1.step b5
    have Q2 := Q2.step b5
    have Q3 := Q3.step b5
    go_wp2_with fail
    refine (bSameRow (c := d2) (c2 := c1) Q2 P1).mono ?_
    rintro e w6 ⟨rfl, b6⟩
    have B6 := below_step B5 b6
    have P0 := P0.step b6
    have P1 := P1.step b6
    have P2 := P2.step b6
    have Q1 := Q1.step b6
    have Q2 := Q2.step b6
    have Q3 := Q3.step b6
    go_wp2_with fail
    refine (bSameRow (c := d3) (c2 := c2) Q3 P2).mono ?_
    rintro e w7 ⟨rfl, b7⟩
    have B7 := below_step B6 b7
    have P0 := P0.step b7
    have P1 := P1.step b7
    have P2 := P2.step b7
    have Q1 := Q1.step b7
    have Q2 := Q2.step b7
    have Q3 := Q3.step b7
    clear Q1 Q2 Q3
    go_wp2_with fail
    refine (bTrim P1.in_).mono ?_
    rintro e w21 ⟨X21, q21, d21, rfl, S21, _, b21⟩
    have B21 := below_step B7 b21
    have P0 := P0.step b21
    have P1 := P1.step b21
    have P2 := P2.step b21
    have hd21a : decide (4 < (q21 : Int)) = true := by have h := S21.1; rw [length_wd] at h; simp; omega
    clear S21
    go_wp2_with fail
    refine (bTrim P1.in_).mono ?_
    rintro e w22 ⟨X22, q22, d22, rfl, S22, _, b22⟩
    have B22 := below_step B21 b22
    have P0 := P0.step b22
    have P1 := P1.step b22
    have P2 := P2.step b22
    have hd21b : decide ((q22 : Int) < 65) = false := by have h := S22.1; rw [length_wd] at h; simp; omega
    clear S22
    go_wp2_with fail
    refine (bTrim P2.in_).mono ?_
    rintro e w31 ⟨X31, q31, d31, rfl, S31, _, b31⟩
    have B31 := below_step B22 b31
    have P0 := P0.step b31
    have P1 := P1.step b31
    have P2 := P2.step b31
    have hd31a : decide (4 < (q31 : Int)) = false := by have h := S31.1; rw [length_wd] at h; simp; omega
    clear S31
    go_wp2_with fail
    refine (bExp8_zero P1.in_ P2.in_ P0.in_ HM.out (by omega) (by omega)).mono ?_
    rintro e w41 ⟨X5, d5, rfl, b41⟩
    have B41 := below_step B31 b41
    have P0 := P0.step b41
    have P1 := P1.step b41
    have P2 := P2.step b41
    go_wp2_with fail
    refine (same_none _ _ _ _ _).mono ?_
    rintro e w42 ⟨rfl, b42⟩
    have B42 := below_step B41 b42
    have P0 := P0.step b42
    have P1 := P1.step b42
    have P2 := P2.step b42
    go_wp2_with fail
    refine (powWorks_any _ (HLd.out.below B42)).mono ?_
    rintro e w43 ⟨rfl, b43⟩
    have B43 := below_step B42 b43
    go_wp2_with fail
    go_ret
    exact ⟨rfl, B43⟩
  · have HM := Lib.hid hm
    clear hm
    go_enter Tryd.func3, Tryd.ntmps3
    go_wp2_with fail
    refine (bCopy (c := c0) P0).mono ?_
    rintro e w1 ⟨X1, d1, rfl, Q1, b1⟩
    have B1 := b1
    have P0 := P0.step b1
    have P1 := P1.step b1
    have P2 := P2.step b1
    go_wp2_with fail
    refine (bCopy (c := c1) P1).mono ?_
    rintro e w2 ⟨X2, d2, rfl, Q2, b2⟩
    have B2 := below_step B1 b2
    have P0 := P0.step b2
    have P1 := P1.step b2
    have P2 := P2.step b2
    have Q1 := Q1.step b2
    go_wp2_with fail
    refine (bCopy (c := c2) P2).mono ?_
    rintro e w3 ⟨X3, d3, rfl, Q3, b3⟩
    have B3 := below_step B2 b3
    have P0 := P0.step b3
    have P1 := P1.step b3
    have P2 := P2.step b3
    have Q1 := Q1.step b3
    have Q2 := Q2.step b3
    go_wp2_with fail
    refine (bExp_many Q1.in_ Q2.in_ Q3.in_ HM.out (by omega) (by omega) (by omega) (by omega)).mono ?_
    rintro e w4 ⟨X4, d4, rfl, b4⟩
    have B4 := below_step B3 b4
    have P0 := P0.step b4
    have P1 := P1.step b4
    have P2 := P2.step b4
    have Q1 := Q1.step b4
    have Q2 := Q2.step b4
    have Q3 := Q3.step b4
    go_wp2_with fail
    refine (bSameRow (c := d1) (c2 := c0) Q1 P0).mono ?_
    rintro e w5 ⟨rfl, b5⟩
    have B5 := below_step B4 b5
    have P0 := P0.step b5
    have P1 := P1.step b5
    have P2 := P2.step b5
    have Q1 := Q1.step b5
    have Q2 := Q2.step b5
    have Q3 := Q3.step b5
    go_wp2_with fail
    refine (bSameRow (c := d2) (c2 := c1) Q2 P1).mono ?_
    rintro e w6 ⟨rfl, b6⟩
    have B6 := below_step B5 b6
    have P0 := P0.step b6
    have P1 := P1.step b6
    have P2 := P2.step b6
    have Q1 := Q1.step b6
    have Q2 := Q2.step b6
    have Q3 := Q3.step b6
    go_wp2_with fail
    refine (bSameRow (c := d3) (c2 := c2) Q3 P2).mono ?_
    rintro e w7 ⟨rfl, b7⟩
    have B7 := below_step B6 b7
    have P0 := P0.step b7
    have P1 := P1.step b7
    have P2 := P2.step b7
    have Q1 := Q1.step b7
    have Q2 := Q2.step b7
    have Q3 := Q3.step b7
    clear Q1 Q2 Q3
    go_wp2_with fail
    refine (bTrim P1.in_).mono ?_
    rintro e w21 ⟨X21, q21, d21, rfl, S21, _, b21⟩
    have B21 := below_step B7 b21
    have P0 := P0.step b21
    have P1 := P1.step b21
    have P2 := P2.step b21
    have hd21a : decide (4 < (q21 : Int)) = true := by have h := S21.1; rw [length_wd] at h; simp; omega
    clear S21
    go_wp2_with fail
    refine (bTrim P1.in_).mono ?_
    rintro e w22 ⟨X22, q22, d22, rfl, S22, _, b22⟩
    have B22 := below_step B21 b22
    have P0 := P0.step b22
    have P1 := P1.step b22
    have P2 := P2.step b22
    have hd21b : decide ((q22 : Int) < 65) = false := by have h := S22.1; rw [length_wd] at h; simp; omega
    clear S22
    go_wp2_with fail
    refine (bTrim P2.in_).mono ?_
    rintro e w31 ⟨X31, q31, d31, rfl, S31, _, b31⟩
    have B31 := below_step B22 b31
    have P0 := P0.step b31
    have P1 := P1.step b31
    have P2 := P2.step b31
    have hd31a : decide (4 < (q31 : Int)) = false := by have h := S31.1; rw [length_wd] at h; simp; omega
    clear S31
    go_wp2_with fail
    refine (bExp8_many P1.in_ P2.in_ P0.in_ HM.out (by omega) (by omega) (by omega)).mono ?_
    rintro e w41 ⟨X5, d5, rfl, b41⟩
    have B41 := below_step B31 b41
    have P0 := P0.step b41
    have P1 := P1.step b41
    have P2 := P2.step b41
    go_wp2_with fail
    refine (same_none _ _ _ _ _).mono ?_
    rintro e w42 ⟨rfl, b42⟩
    have B42 := below_step B41 b42
    have P0 := P0.step b42
    have P1 := P1.step b42
    have P2 := P2.step b42
    go_wp2_with fail
    refine (powWorks_any _ (HLd.out.below B42)).mono ?_
    rintro e w43 ⟨rfl, b43⟩
    have B43 := below_step B42 b43
    go_wp2_with fail
    go_ret
    exact ⟨rfl, B43⟩
set_option maxHeartbeats 4000000 in
theorem exp_bhi_blo (A0 : Option Addr) (c0 : Nat) (l0 : List Nat) (A1 : Option Addr) (c1 : Nat) (l1 : List Nat) (A2 : Option Addr) (c2 : Nat) (l2 : List Nat) (w : World) (P0 : RowIs w A0 l0.length c0 l0) (P1 : RowIs w A1 l1.length c1 l1) (P2 : RowIs w A2 l2.length c2 l2) (h0 : l0.length ≤ 6) (he : 65 ≤ l1.length ∧ l1.length ≤ 70) (hm : 65 ≤ l2.length ∧ l2.length ≤ 70) (ke : 4096 < nbits (natOf l1)) (km : nbits (natOf l2) ≤ 256) (hL : Laid8 w) :
    Calls Tryd.prog 3 #[.slice A0 l0.length c0, .slice A1 l1.length c1, .slice A2 l2.length c2] w fun e w' => e = .returned (.bool true) ∧ Below w.heap.size w w' := by
  have HLd := Lib.hid hL
  clear hL
  have g0 : decide (6 < (l0.length : Int)) = false := by simp; omega
  have ge1 : decide (2 < (l1.length : Int)) = true := by simp; omega
  have ge2 : decide ((l1.length : Int) < 65) = false := by simp; omega
  have ge3 : decide (70 < (l1.length : Int)) = false := by simp; omega
  have gm1 : decide (4 < (l2.length : Int)) = true := by simp; omega
  have gm2 : decide ((l2.length : Int) < 65) = false := by simp; omega
  have gm3 : decide (70 < (l2.length : Int)) = false := by simp; omega
  have n0 := P0.in_.bits
  by_cases hm : natOf l2 = 0
  · have HM := Lib.hid hm
    clear hm
    go_enter Tryd.func3, Tryd.ntmps3
    go_wp2_with fail
    refine (bCopy (c := c0) P0).mono ?_
    rintro e w1 ⟨X1, d1, rfl, Q1, b1⟩
    have B1 := b1
    have P0 := P0.step b1
    have P1 := P1.step b1
    have P2 := P2.step b1
    go_wp2_with fail
    refine (bCopy (c := c1) P1).mono ?_
    rintro e w2 ⟨X2, d2, rfl, Q2, b2⟩
    have B2 := below_step B1 b2
    have P0 := P0.step b2
    have P1 := P1.step b2
    have P2 := P2.step b2
    have Q1 := Q1.step b2
    go_wp2_with fail
    refine (bCopy (c := c2) P2).mono ?_
    rintro e w3 ⟨X3, d3, rfl, Q3, b3⟩
    have B3 := below_step B2 b3
    have P0 := P0.step b3
    have P1 := P1.step b3
    have P2 := P2.step b3
    have Q1 := Q1.step b3
    have Q2 := Q2.step b3
    go_wp2_with fail
    refine (bExp_zero Q1.in_ Q2.in_ Q3.in_ HM.out (by omega) (by omega) (by omega)).mono ?_
    rintro e w4 ⟨X4, d4, rfl, b4⟩
    have B4 := below_step B3 b4
    have P0 := P0.step b4
    have P1 := P1.step b4
    have P2 := P2.step b4
    have Q1 := Q1.step b4
    have Q2 := Q2.step b4
    have Q3 := Q3.step b4
    go_wp2_with fail
    refine (bSameRow (c := d1) (c2 := c0) Q1 P0).mono ?_
    rintro e w5 ⟨rfl, b5⟩
    have B5 := below_step B4 b5
    have P0 := P0.step b5
    have P1 := P1.step b5
    have P2 := P2.step b5
    have Q1 := Q1.step b5
    have Q2 := Q2.step b5
    have Q3 := Q3.step b5
    go_wp2_with fail
    refine (bSameRow (c := d2) (c2 := c1) Q2 P1).mono ?_
    rintro e w6 ⟨rfl, b6⟩
    have B6 := below_step B5 b6
    have P0 := P0.step b6
    have P1 := P1.step b6
    have P2 := P2.step b6
    have Q1 := Q1.step b6
    have Q2 := Q2.step b6
    have Q3 := Q3.step b6
    go_wp2_with fail
    refine (bSameRow (c := d3) (c2 := c2) Q3 P2).mono ?_
    rintro e w7 ⟨rfl, b7⟩
    have B7 := below_step B6 b7
    have P0 := P0.step b7
    have P1 := P1.step b7
    have P2 := P2.step b7
    have Q1 := Q1.step b7
    have Q2 := Q2.step b7
    have Q3 := Q3.step b7
    clear Q1 Q2 Q3
    go_wp2_with fail
    refine (bTrim P1.in_).mono ?_
    rintro e w21 ⟨X21, q21, d21, rfl, S21, _, b21⟩
    have B21 := below_step B7 b21
    have P0 := P0.step b21
    have P1 := P1.step b21
    have P2 := P2.step b21
    have hd21a : decide (4 < (q21 : Int)) = true := by have h := S21.1; rw [length_wd] at h; simp; omega
    clear S21
    go_wp2_with fail
    refine (bTrim P1.in_).mono ?_
    rintro e w22 ⟨X22, q22, d22, rfl, S22, _, b22⟩
    have B22 := below_step B21 b22
    have P0 := P0.step b22
    have P1 := P1.step b22
    have P2 := P2.step b22
    have hd21b : decide ((q22 : Int) < 65) = false := by have h := S22.1; rw [length_wd] at h; simp; omega
    clear S22
    go_wp2_with fail
    refine (bTrim P2.in_).mono ?_
    rintro e w31 ⟨X31, q31, d31, rfl, S31, _, b31⟩
    have B31 := below_step B22 b31
    have P0 := P0.step b31
    have P1 := P1.step b31
    have P2 := P2.step b31
    have hd31a : decide (4 < (q31 : Int)) = false := by have h := S31.1; rw [length_wd] at h; simp; omega
    clear S31
    go_wp2_with fail
    refine (bExp8_zero P1.in_ P2.in_ P0.in_ HM.out (by omega) (by omega)).mono ?_
    rintro e w41 ⟨X5, d5, rfl, b41⟩
    have B41 := below_step B31 b41
    have P0 := P0.step b41
    have P1 := P1.step b41
    have P2 := P2.step b41
    go_wp2_with fail
    refine (same_none _ _ _ _ _).mono ?_
    rintro e w42 ⟨rfl, b42⟩
    have B42 := below_step B41 b42
    have P0 := P0.step b42
    have P1 := P1.step b42
    have P2 := P2.step b42
    go_wp2_with fail
    refine (powWorks_any _ (HLd.out.below B42)).mono ?_
    rintro e w43 ⟨rfl, b43⟩
    have B43 := below_step B42 b43
    go_wp2_with fail
    go_ret
    exact ⟨rfl, B43⟩
  · have HM := Lib.hid hm
    clear hm
    go_enter Tryd.func3, Tryd.ntmps3
    go_wp2_with fail
    refine (bCopy (c := c0) P0).mono ?_
    rintro e w1 ⟨X1, d1, rfl, Q1, b1⟩
    have B1 := b1
    have P0 := P0.step b1
    have P1 := P1.step b1
    have P2 := P2.step b1
    go_wp2_with fail
    refine (bCopy (c := c1) P1).mono ?_
    rintro e w2 ⟨X2, d2, rfl, Q2, b2⟩
    have B2 := below_step B1 b2
    have P0 := P0.step b2
    have P1 := P1.step b2
    have P2 := P2.step b2
    have Q1 := Q1.step b2
    go_wp2_with fail
    refine (bCopy (c := c2) P2).mono ?_
    rintro e w3 ⟨X3, d3, rfl, Q3, b3⟩
    have B3 := below_step B2 b3
    have P0 := P0.step b3
    have P1 := P1.step b3
    have P2 := P2.step b3
    have Q1 := Q1.step b3
    have Q2 := Q2.step b3
    go_wp2_with fail
    refine (bExp_many Q1.in_ Q2.in_ Q3.in_ HM.out (by omega) (by omega) (by omega) (by omega)).mono ?_
    rintro e w4 ⟨X4, d4, rfl, b4⟩
    have B4 := below_step B3 b4
    have P0 := P0.step b4
    have P1 := P1.step b4
    have P2 := P2.step b4
    have Q1 := Q1.step b4
    have Q2 := Q2.step b4
    have Q3 := Q3.step b4
    go_wp2_with fail
    refine (bSameRow (c := d1) (c2 := c0) Q1 P0).mono ?_
    rintro e w5 ⟨rfl, b5⟩
    have B5 := below_step B4 b5
    have P0 := P0.step b5
    have P1 := P1.step b5
    have P2 := P2.step b5
    have Q1 := Q1.step b5
    have Q2 := Q2.step b5
    have Q3 := Q3.step b5
    go_wp2_with fail
    refine (bSameRow (c := d2) (c2 := c1) Q2 P1).mono ?_
    rintro e w6 ⟨rfl, b6⟩
    have B6 := below_step B5 b6
    have P0 := P0.step b6
    have P1 := P1.step b6
    have P2 := P2.step b6
    have Q1 := Q1.step b6
    have Q2 := Q2.step b6
    have Q3 := Q3.step b6
    go_wp2_with fail
    refine (bSameRow (c := d3) (c2 := c2) Q3 P2).mono ?_
    rintro e w7 ⟨rfl, b7⟩
    have B7 := below_step B6 b7
    have P0 := P0.step b7
    have P1 := P1.step b7
    have P2 := P2.step b7
    have Q1 := Q1.step b7
    have Q2 := Q2.step b7
    have Q3 := Q3.step b7
    clear Q1 Q2 Q3
    go_wp2_with fail
    refine (bTrim P1.in_).mono ?_
    rintro e w21 ⟨X21, q21, d21, rfl, S21, _, b21⟩
    have B21 := below_step B7 b21
    have P0 := P0.step b21
    have P1 := P1.step b21
    have P2 := P2.step b21
    have hd21a : decide (4 < (q21 : Int)) = true := by have h := S21.1; rw [length_wd] at h; simp; omega
    clear S21
    go_wp2_with fail
    refine (bTrim P1.in_).mono ?_
    rintro e w22 ⟨X22, q22, d22, rfl, S22, _, b22⟩
    have B22 := below_step B21 b22
    have P0 := P0.step b22
    have P1 := P1.step b22
    have P2 := P2.step b22
    have hd21b : decide ((q22 : Int) < 65) = false := by have h := S22.1; rw [length_wd] at h; simp; omega
    clear S22
    go_wp2_with fail
    refine (bTrim P2.in_).mono ?_
    rintro e w31 ⟨X31, q31, d31, rfl, S31, _, b31⟩
    have B31 := below_step B22 b31
    have P0 := P0.step b31
    have P1 := P1.step b31
    have P2 := P2.step b31
    have hd31a : decide (4 < (q31 : Int)) = false := by have h := S31.1; rw [length_wd] at h; simp; omega
    clear S31
    go_wp2_with fail
    refine (bExp8_many P1.in_ P2.in_ P0.in_ HM.out (by omega) (by omega) (by omega)).mono ?_
    rintro e w41 ⟨X5, d5, rfl, b41⟩
    have B41 := below_step B31 b41
    have P0 := P0.step b41
    have P1 := P1.step b41
    have P2 := P2.step b41
    go_wp2_with fail
    refine (same_none _ _ _ _ _).mono ?_
    rintro e w42 ⟨rfl, b42⟩
    have B42 := below_step B41 b42
    have P0 := P0.step b42
    have P1 := P1.step b42
    have P2 := P2.step b42
    go_wp2_with fail
    refine (powWorks_any _ (HLd.out.below B42)).mono ?_
    rintro e w43 ⟨rfl, b43⟩
    have B43 := below_step B42 b43
    go_wp2_with fail
    go_ret
    exact ⟨rfl, B43⟩
set_option maxHeartbeats 4000000 in
theorem exp_bhi_bmid (A0 : Option Addr) (c0 : Nat) (l0 : List Nat) (A1 : Option Addr) (c1 : Nat) (l1 : List Nat) (A2 : Option Addr) (c2 : Nat) (l2 : List Nat) (w : World) (P0 : RowIs w A0 l0.length c0 l0) (P1 : RowIs w A1 l1.length c1 l1) (P2 : RowIs w A2 l2.length c2 l2) (h0 : l0.length ≤ 6) (he : 65 ≤ l1.length ∧ l1.length ≤ 70) (hm : 65 ≤ l2.length ∧ l2.length ≤ 70) (ke : 4096 < nbits (natOf l1)) (km : 256 < nbits (natOf l2) ∧ nbits (natOf l2) ≤ 4096) (hL : Laid8 w) :
    Calls Tryd.prog 3 #[.slice A0 l0.length c0, .slice A1 l1.length c1, .slice A2 l2.length c2] w fun e w' => e = .returned (.bool true) ∧ Below w.heap.size w w' := by
  have HLd := Lib.hid hL
  clear hL
  have g0 : decide (6 < (l0.length : Int)) = false := by simp; omega
  have ge1 : decide (2 < (l1.length : Int)) = true := by simp; omega
  have ge2 : decide ((l1.length : Int) < 65) = false := by simp; omega
  have ge3 : decide (70 < (l1.length : Int)) = false := by simp; omega
  have gm1 : decide (4 < (l2.length : Int)) = true := by simp; omega
  have gm2 : decide ((l2.length : Int) < 65) = false := by simp; omega
  have gm3 : decide (70 < (l2.length : Int)) = false := by simp; omega
  have n0 := P0.in_.bits
  have HM := Lib.hid (show natOf l2 ≠ 0 from fun h0 => by rw [h0, nbits_zero] at km; omega)
  go_enter Tryd.func3, Tryd.ntmps3
  go_wp2_with fail
  refine (bCopy (c := c0) P0).mono ?_
  rintro e w1 ⟨X1, d1, rfl, Q1, b1⟩
  have B1 := b1
  have P0 := P0.step b1
  have P1 := P1.step b1
  have P2 := P2.step b1
  go_wp2_with fail
  refine (bCopy (c := c1) P1).mono ?_
  rintro e w2 ⟨X2, d2, rfl, Q2, b2⟩
  have B2 := below_step B1 b2
  have P0 := P0.step b2
  have P1 := P1.step b2
  have P2 := P2.step b2
  have Q1 := Q1.step b2
  go_wp2_with fail
  refine (bCopy (c := c2) P2).mono ?_
  rintro e w3 ⟨X3, d3, rfl, Q3, b3⟩
  have B3 := below_step B2 b3
  have P0 := P0.step b3
  have P1 := P1.step b3
  have P2 := P2.step b3
  have Q1 := Q1.step b3
  have Q2 := Q2.step b3
  go_wp2_with fail
  refine (bExp_many Q1.in_ Q2.in_ Q3.in_ HM.out (by omega) (by omega) (by omega) (by omega)).mono ?_
  rintro e w4 ⟨X4, d4, rfl, b4⟩
  have B4 := below_step B3 b4
  have P0 := P0.step b4
  have P1 := P1.step b4
  have P2 := P2.step b4
  have Q1 := Q1.step b4
  have Q2 := Q2.step b4
  have Q3 := Q3.step b4
  go_wp2_with fail
  refine (bSameRow (c := d1) (c2 := c0) Q1 P0).mono ?_
  rintro e w5 ⟨rfl, b5⟩
  have B5 := below_step B4 b5
  have P0 := P0.step b5
  have P1 := P1.step b5
  have P2 := P2.step b5
  have Q1 := Q1.step b5
  have Q2 := Q2.step b5
  have Q3 := Q3.step b5
  go_wp2_with fail
  refine (bSameRow (c := d2) (c2 := c1) Q2 P1).mono ?_
  rintro e w6 ⟨rfl, b6⟩
  have B6 := below_step B5 b6
  have P0 := P0.step b6
  have P1 := P1.step b6
  have P2 := P2.step b6
  have Q1 := Q1.step b6
  have Q2 := Q2.step b6
  have Q3 := Q3.step b6
  go_wp2_with fail
  refine (bSameRow (c := d3) (c2 := c2) Q3 P2).mono ?_
  rintro e w7 ⟨rfl, b7⟩
  have B7 := below_step B6 b7
  have P0 := P0.step b7
  have P1 := P1.step b7
  have P2 := P2.step b7
  have Q1 := Q1.step b7
  have Q2 := Q2.step b7
  have Q3 := Q3.step b7
  clear Q1 Q2 Q3
  go_wp2_with fail
  refine (bTrim P1.in_).mono ?_
  rintro e w21 ⟨X21, q21, d21, rfl, S21, _, b21⟩
  have B21 := below_step B7 b21
  have P0 := P0.step b21
  have P1 := P1.step b21
  have P2 := P2.step b21
  have hd21a : decide (4 < (q21 : Int)) = true := by have h := S21.1; rw [length_wd] at h; simp; omega
  clear S21
  go_wp2_with fail
  refine (bTrim P1.in_).mono ?_
  rintro e w22 ⟨X22, q22, d22, rfl, S22, _, b22⟩
  have B22 := below_step B21 b22
  have P0 := P0.step b22
  have P1 := P1.step b22
  have P2 := P2.step b22
  have hd21b : decide ((q22 : Int) < 65) = false := by have h := S22.1; rw [length_wd] at h; simp; omega
  clear S22
  go_wp2_with fail
  refine (bTrim P2.in_).mono ?_
  rintro e w31 ⟨X31, q31, d31, rfl, S31, _, b31⟩
  have B31 := below_step B22 b31
  have P0 := P0.step b31
  have P1 := P1.step b31
  have P2 := P2.step b31
  have hd31a : decide (4 < (q31 : Int)) = true := by have h := S31.1; rw [length_wd] at h; simp; omega
  clear S31
  go_wp2_with fail
  refine (bTrim P2.in_).mono ?_
  rintro e w32 ⟨X32, q32, d32, rfl, S32, _, b32⟩
  have B32 := below_step B31 b32
  have P0 := P0.step b32
  have P1 := P1.step b32
  have P2 := P2.step b32
  have hd31b : decide ((q32 : Int) < 65) = true := by have h := S32.1; rw [length_wd] at h; simp; omega
  clear S32
  go_wp2_with fail
  refine (powWorks_any _ (HLd.out.below B32)).mono ?_
  rintro e w41 ⟨rfl, b41⟩
  have B41 := below_step B32 b41
  go_wp2_with fail
  go_ret
  exact ⟨rfl, B41⟩
set_option maxHeartbeats 4000000 in
theorem exp_bhi_bhi (A0 : Option Addr) (c0 : Nat) (l0 : List Nat) (A1 : Option Addr) (c1 : Nat) (l1 : List Nat) (A2 : Option Addr) (c2 : Nat) (l2 : List Nat) (w : World) (P0 : RowIs w A0 l0.length c0 l0) (P1 : RowIs w A1 l1.length c1 l1) (P2 : RowIs w A2 l2.length c2 l2) (h0 : l0.length ≤ 6) (he : 65 ≤ l1.length ∧ l1.length ≤ 70) (hm : 65 ≤ l2.length ∧ l2.length ≤ 70) (ke : 4096 < nbits (natOf l1)) (km : 4096 < nbits (natOf l2)) (hL : Laid8 w) :
    Calls Tryd.prog 3 #[.slice A0 l0.length c0, .slice A1 l1.length c1, .slice A2 l2.length c2] w fun e w' => e = .returned (.bool true) ∧ Below w.heap.size w w' := by
  have HLd := Lib.hid hL
  clear hL
  have g0 : decide (6 < (l0.length : Int)) = false := by simp; omega
  have ge1 : decide (2 < (l1.length : Int)) = true := by simp; omega
  have ge2 : decide ((l1.length : Int) < 65) = false := by simp; omega
  have ge3 : decide (70 < (l1.length : Int)) = false := by simp; omega
  have gm1 : decide (4 < (l2.length : Int)) = true := by simp; omega
  have gm2 : decide ((l2.length : Int) < 65) = false := by simp; omega
  have gm3 : decide (70 < (l2.length : Int)) = false := by simp; omega
  have n0 := P0.in_.bits
  have HM := Lib.hid (show natOf l2 ≠ 0 from fun h0 => by rw [h0, nbits_zero] at km; omega)
  go_enter Tryd.func3, Tryd.ntmps3
  go_wp2_with fail
  refine (bCopy (c := c0) P0).mono ?_
  rintro e w1 ⟨X1, d1, rfl, Q1, b1⟩
  have B1 := b1
  have P0 := P0.step b1
  have P1 := P1.step b1
  have P2 := P2.step b1
  go_wp2_with fail
  refine (bCopy (c := c1) P1).mono ?_
  rintro e w2 ⟨X2, d2, rfl, Q2, b2⟩
  have B2 := below_step B1 b2
  have P0 := P0.step b2
  have P1 := P1.step b2
  have P2 := P2.step b2
  have Q1 := Q1.step b2
  go_wp2_with fail
  refine (bCopy (c := c2) P2).mono ?_
  rintro e w3 ⟨X3, d3, rfl, Q3, b3⟩
  have B3 := below_step B2 b3
  have P0 := P0.step b3
  have P1 := P1.step b3
  have P2 := P2.step b3
  have Q1 := Q1.step b3
  have Q2 := Q2.step b3
  go_wp2_with fail
  refine (bExp_many Q1.in_ Q2.in_ Q3.in_ HM.out (by omega) (by omega) (by omega) (by omega)).mono ?_
  rintro e w4 ⟨X4, d4, rfl, b4⟩
  have B4 := below_step B3 b4
  have P0 := P0.step b4
  have P1 := P1.step b4
  have P2 := P2.step b4
  have Q1 := Q1.step b4
  have Q2 := Q2.step b4
  have Q3 := Q3.step b4
  go_wp2_with fail
  refine (bSameRow (c := d1) (c2 := c0) Q1 P0).mono ?_
  rintro e w5 ⟨rfl, b5⟩
  have B5 := below_step B4 b5
  have P0 := P0.step b5
  have P1 := P1.step b5
  have P2 := P2.step b5
  have Q1 := Q1.step b5
  have Q2 := Q2.step b5
  have Q3 := Q3.step b5
  go_wp2_with fail
  refine (bSameRow (c := d2) (c2 := c1) Q2 P1).mono ?_
  rintro e w6 ⟨rfl, b6⟩
  have B6 := below_step B5 b6
  have P0 := P0.step b6
  have P1 := P1.step b6
  have P2 := P2.step b6
  have Q1 := Q1.step b6
  have Q2 := Q2.step b6
  have Q3 := Q3.step b6
  go_wp2_with fail
  refine (bSameRow (c := d3) (c2 := c2) Q3 P2).mono ?_
  rintro e w7 ⟨rfl, b7⟩
  have B7 := below_step B6 b7
  have P0 := P0.step b7
  have P1 := P1.step b7
  have P2 := P2.step b7
  have Q1 := Q1.step b7
  have Q2 := Q2.step b7
  have Q3 := Q3.step b7
  clear Q1 Q2 Q3
  go_wp2_with fail
  refine (bTrim P1.in_).mono ?_
  rintro e w21 ⟨X21, q21, d21, rfl, S21, _, b21⟩
  have B21 := below_step B7 b21
  have P0 := P0.step b21
  have P1 := P1.step b21
  have P2 := P2.step b21
  have hd21a : decide (4 < (q21 : Int)) = true := by have h := S21.1; rw [length_wd] at h; simp; omega
  clear S21
  go_wp2_with fail
  refine (bTrim P1.in_).mono ?_
  rintro e w22 ⟨X22, q22, d22, rfl, S22, _, b22⟩
  have B22 := below_step B21 b22
  have P0 := P0.step b22
  have P1 := P1.step b22
  have P2 := P2.step b22
  have hd21b : decide ((q22 : Int) < 65) = false := by have h := S22.1; rw [length_wd] at h; simp; omega
  clear S22
  go_wp2_with fail
  refine (bTrim P2.in_).mono ?_
  rintro e w31 ⟨X31, q31, d31, rfl, S31, _, b31⟩
  have B31 := below_step B22 b31
  have P0 := P0.step b31
  have P1 := P1.step b31
  have P2 := P2.step b31
  have hd31a : decide (4 < (q31 : Int)) = true := by have h := S31.1; rw [length_wd] at h; simp; omega
  clear S31
  go_wp2_with fail
  refine (bTrim P2.in_).mono ?_
  rintro e w32 ⟨X32, q32, d32, rfl, S32, _, b32⟩
  have B32 := below_step B31 b32
  have P0 := P0.step b32
  have P1 := P1.step b32
  have P2 := P2.step b32
  have hd31b : decide ((q32 : Int) < 65) = false := by have h := S32.1; rw [length_wd] at h; simp; omega
  clear S32
  go_wp2_with fail
  refine (bExp8_many P1.in_ P2.in_ P0.in_ HM.out (by omega) (by omega) (by omega)).mono ?_
  rintro e w41 ⟨X5, d5, rfl, b41⟩
  have B41 := below_step B32 b41
  have P0 := P0.step b41
  have P1 := P1.step b41
  have P2 := P2.step b41
  go_wp2_with fail
  refine (same_none _ _ _ _ _).mono ?_
  rintro e w42 ⟨rfl, b42⟩
  have B42 := below_step B41 b42
  have P0 := P0.step b42
  have P1 := P1.step b42
  have P2 := P2.step b42
  go_wp2_with fail
  refine (powWorks_any _ (HLd.out.below B42)).mono ?_
  rintro e w43 ⟨rfl, b43⟩
  have B43 := below_step B42 b43
  go_wp2_with fail
  go_ret
  exact ⟨rfl, B43⟩
set_option maxHeartbeats 4000000 in
theorem powerExp_walk (A0 : Option Addr) (c0 : Nat) (l0 : List Nat) (A1 : Option Addr) (c1 : Nat) (l1 : List Nat) (A2 : Option Addr) (c2 : Nat) (l2 : List Nat) (w : World) (r0 : Rd .u64 w w.heap.size A0 l0) (y0 : Words l0) (_z0 : l0.length * 8 ≤ 140737488351232) (u0 : l0.length ≤ c0) (r1 : Rd .u64 w w.heap.size A1 l1) (y1 : Words l1) (_z1 : l1.length * 8 ≤ 140737488351232) (u1 : l1.length ≤ c1) (r2 : Rd .u64 w w.heap.size A2 l2) (y2 : Words l2) (_z2 : l2.length * 8 ≤ 140737488351232) (u2 : l2.length ≤ c2) (hL : Laid8 w) :
    Calls Tryd.prog 3 #[.slice A0 l0.length c0, .slice A1 l1.length c1, .slice A2 l2.length c2] w fun e w' => e = .returned (.bool true) ∧ Below w.heap.size w w' := by
  have HLd := Lib.hid hL
  clear hL
  by_cases v0 : 6 < l0.length
  · have g0 : decide (6 < (l0.length : Int)) = true := by simp; omega
    go_enter Tryd.func3, Tryd.ntmps3
    go_wp2_with fail
    refine (powWorks_any _ HLd.out).mono ?_
    rintro e w1 ⟨rfl, b1⟩
    have B1 := b1
    go_wp2_with fail
    go_ret
    exact ⟨rfl, B1⟩
  · by_cases v1 : 4 < l2.length ∧ l2.length < 65
    · have g0 : decide (6 < (l0.length : Int)) = false := by simp; omega
      have gm1 : decide (4 < (l2.length : Int)) = true := by simp; omega
      have gm2 : decide ((l2.length : Int) < 65) = true := by simp; omega
      go_enter Tryd.func3, Tryd.ntmps3
      go_wp2_with fail
      refine (powWorks_any _ HLd.out).mono ?_
      rintro e w1 ⟨rfl, b1⟩
      have B1 := b1
      go_wp2_with fail
      go_ret
      exact ⟨rfl, B1⟩
    · by_cases v2 : 2 < l1.length ∧ l1.length < 65
      · by_cases v3 : 4 < l2.length
        · have g0 : decide (6 < (l0.length : Int)) = false := by simp; omega
          have gm1 : decide (4 < (l2.length : Int)) = true := by simp; omega
          have gm2 : decide ((l2.length : Int) < 65) = false := by simp; omega
          have ge1 : decide (2 < (l1.length : Int)) = true := by simp; omega
          have ge2 : decide ((l1.length : Int) < 65) = true := by simp; omega
          go_enter Tryd.func3, Tryd.ntmps3
          go_wp2_with fail
          refine (powWorks_any _ HLd.out).mono ?_
          rintro e w1 ⟨rfl, b1⟩
          have B1 := b1
          go_wp2_with fail
          go_ret
          exact ⟨rfl, B1⟩
        · have g0 : decide (6 < (l0.length : Int)) = false := by simp; omega
          have gm1 : decide (4 < (l2.length : Int)) = false := by simp; omega
          have ge1 : decide (2 < (l1.length : Int)) = true := by simp; omega
          have ge2 : decide ((l1.length : Int) < 65) = true := by simp; omega
          go_enter Tryd.func3, Tryd.ntmps3
          go_wp2_with fail
          refine (powWorks_any _ HLd.out).mono ?_
          rintro e w1 ⟨rfl, b1⟩
          have B1 := b1
          go_wp2_with fail
          go_ret
          exact ⟨rfl, B1⟩
      · by_cases v4 : 70 < l2.length
        · by_cases v5 : 2 < l1.length
          · have g0 : decide (6 < (l0.length : Int)) = false := by simp; omega
            have gm1 : decide (4 < (l2.length : Int)) = true := by simp; omega
            have gm2 : decide ((l2.length : Int) < 65) = false := by simp; omega
            have ge1 : decide (2 < (l1.length : Int)) = true := by simp; omega
            have ge2 : decide ((l1.length : Int) < 65) = false := by simp; omega
            have gm3 : decide (70 < (l2.length : Int)) = true := by simp; omega
            go_enter Tryd.func3, Tryd.ntmps3
            go_wp2_with fail
            refine (powWorks_any _ HLd.out).mono ?_
            rintro e w1 ⟨rfl, b1⟩
            have B1 := b1
            go_wp2_with fail
            go_ret
            exact ⟨rfl, B1⟩
          · have g0 : decide (6 < (l0.length : Int)) = false := by simp; omega
            have gm1 : decide (4 < (l2.length : Int)) = true := by simp; omega
            have gm2 : decide ((l2.length : Int) < 65) = false := by simp; omega
            have ge1 : decide (2 < (l1.length : Int)) = false := by simp; omega
            have gm3 : decide (70 < (l2.length : Int)) = true := by simp; omega
            go_enter Tryd.func3, Tryd.ntmps3
            go_wp2_with fail
            refine (powWorks_any _ HLd.out).mono ?_
            rintro e w1 ⟨rfl, b1⟩
            have B1 := b1
            go_wp2_with fail
            go_ret
            exact ⟨rfl, B1⟩
        · by_cases v6 : 70 < l1.length
          · by_cases v7 : 4 < l2.length
            · have g0 : decide (6 < (l0.length : Int)) = false := by simp; omega
              have gm1 : decide (4 < (l2.length : Int)) = true := by simp; omega
              have gm2 : decide ((l2.length : Int) < 65) = false := by simp; omega
              have ge1 : decide (2 < (l1.length : Int)) = true := by simp; omega
              have ge2 : decide ((l1.length : Int) < 65) = false := by simp; omega
              have gm3 : decide (70 < (l2.length : Int)) = false := by simp; omega
              have ge3 : decide (70 < (l1.length : Int)) = true := by simp; omega
              go_enter Tryd.func3, Tryd.ntmps3
              go_wp2_with fail
              refine (powWorks_any _ HLd.out).mono ?_
              rintro e w1 ⟨rfl, b1⟩
              have B1 := b1
              go_wp2_with fail
              go_ret
              exact ⟨rfl, B1⟩
            · have g0 : decide (6 < (l0.length : Int)) = false := by simp; omega
              have gm1 : decide (4 < (l2.length : Int)) = false := by simp; omega
              have ge1 : decide (2 < (l1.length : Int)) = true := by simp; omega
              have ge2 : decide ((l1.length : Int) < 65) = false := by simp; omega
              have gm3 : decide (70 < (l2.length : Int)) = false := by simp; omega
              have ge3 : decide (70 < (l1.length : Int)) = true := by simp; omega
              go_enter Tryd.func3, Tryd.ntmps3
              go_wp2_with fail
              refine (powWorks_any _ HLd.out).mono ?_
              rintro e w1 ⟨rfl, b1⟩
              have B1 := b1
              go_wp2_with fail
              go_ret
              exact ⟨rfl, B1⟩
          · have P0 : RowIs w A0 l0.length c0 l0 := ⟨rfl, y0, by omega, r0, u0⟩
            have P1 : RowIs w A1 l1.length c1 l1 := ⟨rfl, y1, by omega, r1, u1⟩
            have P2 : RowIs w A2 l2.length c2 l2 := ⟨rfl, y2, by omega, r2, u2⟩
            have n1 := P1.in_.bits
            have n2 := P2.in_.bits
            have e3 : l1.length ≤ 2 ∨ 65 ≤ l1.length := by omega
            have m3 : l2.length ≤ 4 ∨ 65 ≤ l2.length := by omega
            have ek : nbits (natOf l1) ≤ 256 ∨ (256 < nbits (natOf l1) ∧ nbits (natOf l1) ≤ 4096) ∨ 4096 < nbits (natOf l1) := by omega
            have mk : nbits (natOf l2) ≤ 256 ∨ (256 < nbits (natOf l2) ∧ nbits (natOf l2) ≤ 4096) ∨ 4096 < nbits (natOf l2) := by omega
            rcases e3 with e3 | e3 <;> rcases ek with ek | ek | ek <;> rcases m3 with m3 | m3 <;> rcases mk with mk | mk | mk <;> first
              | exact exp_slo_slo A0 c0 l0 A1 c1 l1 A2 c2 l2 w P0 P1 P2 (by omega) (by omega) (by omega) ek mk HLd.out
              | exact exp_slo_blo A0 c0 l0 A1 c1 l1 A2 c2 l2 w P0 P1 P2 (by omega) (by omega) (by omega) ek mk HLd.out
              | exact exp_slo_bmid A0 c0 l0 A1 c1 l1 A2 c2 l2 w P0 P1 P2 (by omega) (by omega) (by omega) ek mk HLd.out
              | exact exp_slo_bhi A0 c0 l0 A1 c1 l1 A2 c2 l2 w P0 P1 P2 (by omega) (by omega) (by omega) ek mk HLd.out
              | exact exp_blo_slo A0 c0 l0 A1 c1 l1 A2 c2 l2 w P0 P1 P2 (by omega) (by omega) (by omega) ek mk HLd.out
              | exact exp_blo_blo A0 c0 l0 A1 c1 l1 A2 c2 l2 w P0 P1 P2 (by omega) (by omega) (by omega) ek mk HLd.out
              | exact exp_blo_bmid A0 c0 l0 A1 c1 l1 A2 c2 l2 w P0 P1 P2 (by omega) (by omega) (by omega) ek mk HLd.out
              | exact exp_blo_bhi A0 c0 l0 A1 c1 l1 A2 c2 l2 w P0 P1 P2 (by omega) (by omega) (by omega) ek mk HLd.out
              | exact exp_bmid_slo A0 c0 l0 A1 c1 l1 A2 c2 l2 w P0 P1 P2 (by omega) (by omega) (by omega) ek mk HLd.out
              | exact exp_bmid_blo A0 c0 l0 A1 c1 l1 A2 c2 l2 w P0 P1 P2 (by omega) (by omega) (by omega) ek mk HLd.out
              | exact exp_bmid_bmid A0 c0 l0 A1 c1 l1 A2 c2 l2 w P0 P1 P2 (by omega) (by omega) (by omega) ek mk HLd.out
              | exact exp_bmid_bhi A0 c0 l0 A1 c1 l1 A2 c2 l2 w P0 P1 P2 (by omega) (by omega) (by omega) ek mk HLd.out
              | exact exp_bhi_slo A0 c0 l0 A1 c1 l1 A2 c2 l2 w P0 P1 P2 (by omega) (by omega) (by omega) ek mk HLd.out
              | exact exp_bhi_blo A0 c0 l0 A1 c1 l1 A2 c2 l2 w P0 P1 P2 (by omega) (by omega) (by omega) ek mk HLd.out
              | exact exp_bhi_bmid A0 c0 l0 A1 c1 l1 A2 c2 l2 w P0 P1 P2 (by omega) (by omega) (by omega) ek mk HLd.out
              | exact exp_bhi_bhi A0 c0 l0 A1 c1 l1 A2 c2 l2 w P0 P1 P2 (by omega) (by omega) (by omega) ek mk HLd.out
              | (exfalso; omega)
end Go.Proofs.YtabcmdhjbjioiaaDoor

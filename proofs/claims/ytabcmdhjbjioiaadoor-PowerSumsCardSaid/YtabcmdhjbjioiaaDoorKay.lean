/- Several texts in one; each begins with a remark that says what it shows and on which conditions. -/
import Derived.Test.YtabcmdhjbjioiaaDoorKav
import Derived.Test.YtabcmdhjbjioiaaDoorKab
import Derived.Test.YtabcmdhjbjioiaaDoorKat
/- PowerSums' walk: it answers true, and writes nothing that was there. No condition but what the arguments' types give. -/
namespace Go.Proofs.YtabcmdhjbjioiaaDoor
open Go.RowKit
set_option maxHeartbeats 8000000 in
set_option maxRecDepth 100000 in
theorem powerSums_walk (A0 : Option Addr) (c0 : Nat) (l0 : List Nat) (A1 : Option Addr) (c1 : Nat) (l1 : List Nat) (A2 : Option Addr) (c2 : Nat) (l2 : List Nat) (A3 : Option Addr) (c3 : Nat) (l3 : List Nat) (A4 : Option Addr) (c4 : Nat) (l4 : List Nat) (w : World) (r0 : Rd .u64 w w.heap.size A0 l0) (y0 : Words l0) (_z0 : l0.length * 8 ≤ 140737488351232) (u0 : l0.length ≤ c0) (r1 : Rd .u64 w w.heap.size A1 l1) (y1 : Words l1) (_z1 : l1.length * 8 ≤ 140737488351232) (u1 : l1.length ≤ c1) (r2 : Rd .u64 w w.heap.size A2 l2) (y2 : Words l2) (_z2 : l2.length * 8 ≤ 140737488351232) (u2 : l2.length ≤ c2) (r3 : Rd .u64 w w.heap.size A3 l3) (y3 : Words l3) (_z3 : l3.length * 8 ≤ 140737488351232) (u3 : l3.length ≤ c3) (r4 : Rd .u64 w w.heap.size A4 l4) (y4 : Words l4) (_z4 : l4.length * 8 ≤ 140737488351232) (u4 : l4.length ≤ c4) (hL : Laid8 w) :
    Calls Tryd.prog 4 #[.slice A0 l0.length c0, .slice A1 l1.length c1, .slice A2 l2.length c2, .slice A3 l3.length c3, .slice A4 l4.length c4] w fun e w' => e = .returned (.bool true) ∧ Below w.heap.size w w' := by
  have HLd := Lib.hid hL
  clear hL
  by_cases hv0 : 16 < l0.length
  · have hvd0 : decide (16 < (l0.length : Int)) = true := by simp; omega
    go_enter Tryd.func4, Tryd.ntmps4
    go_wp2_with fail
    refine (powWorks_any _ HLd.out).mono ?_
    rintro e w1 ⟨rfl, b1⟩
    have B1 := b1
    go_wp2_with fail
    go_ret
    exact ⟨rfl, B1⟩
  · by_cases hv1 : 16 < l1.length
    · have hvd1 : decide (16 < (l1.length : Int)) = true := by simp; omega
      have hvd0 : decide (16 < (l0.length : Int)) = false := by simp; omega
      go_enter Tryd.func4, Tryd.ntmps4
      go_wp2_with fail
      refine (powWorks_any _ HLd.out).mono ?_
      rintro e w1 ⟨rfl, b1⟩
      have B1 := b1
      go_wp2_with fail
      go_ret
      exact ⟨rfl, B1⟩
    · by_cases hv2 : 4 < l2.length
      · have hvd2 : decide (4 < (l2.length : Int)) = true := by simp; omega
        have hvd0 : decide (16 < (l0.length : Int)) = false := by simp; omega
        have hvd1 : decide (16 < (l1.length : Int)) = false := by simp; omega
        go_enter Tryd.func4, Tryd.ntmps4
        go_wp2_with fail
        refine (powWorks_any _ HLd.out).mono ?_
        rintro e w1 ⟨rfl, b1⟩
        have B1 := b1
        go_wp2_with fail
        go_ret
        exact ⟨rfl, B1⟩
      · by_cases hv3 : 4 < l3.length
        · have hvd3 : decide (4 < (l3.length : Int)) = true := by simp; omega
          have hvd0 : decide (16 < (l0.length : Int)) = false := by simp; omega
          have hvd1 : decide (16 < (l1.length : Int)) = false := by simp; omega
          have hvd2 : decide (4 < (l2.length : Int)) = false := by simp; omega
          go_enter Tryd.func4, Tryd.ntmps4
          go_wp2_with fail
          refine (powWorks_any _ HLd.out).mono ?_
          rintro e w1 ⟨rfl, b1⟩
          have B1 := b1
          go_wp2_with fail
          go_ret
          exact ⟨rfl, B1⟩
        · by_cases hv4 : 16 < l4.length
          · have hvd4 : decide (16 < (l4.length : Int)) = true := by simp; omega
            have hvd0 : decide (16 < (l0.length : Int)) = false := by simp; omega
            have hvd1 : decide (16 < (l1.length : Int)) = false := by simp; omega
            have hvd2 : decide (4 < (l2.length : Int)) = false := by simp; omega
            have hvd3 : decide (4 < (l3.length : Int)) = false := by simp; omega
            go_enter Tryd.func4, Tryd.ntmps4
            go_wp2_with fail
            refine (powWorks_any _ HLd.out).mono ?_
            rintro e w1 ⟨rfl, b1⟩
            have B1 := b1
            go_wp2_with fail
            go_ret
            exact ⟨rfl, B1⟩
          · skip
            have hvd0 : decide (16 < (l0.length : Int)) = false := by simp; omega
            have hvd1 : decide (16 < (l1.length : Int)) = false := by simp; omega
            have hvd2 : decide (4 < (l2.length : Int)) = false := by simp; omega
            have hvd3 : decide (4 < (l3.length : Int)) = false := by simp; omega
            have hvd4 : decide (16 < (l4.length : Int)) = false := by simp; omega
            have P0 : RowIs w A0 l0.length c0 l0 := ⟨rfl, y0, by omega, r0, u0⟩
            have P1 : RowIs w A1 l1.length c1 l1 := ⟨rfl, y1, by omega, r1, u1⟩
            have P2 : RowIs w A2 l2.length c2 l2 := ⟨rfl, y2, by omega, r2, u2⟩
            have P3 : RowIs w A3 l3.length c3 l3 := ⟨rfl, y3, by omega, r3, u3⟩
            have P4 : RowIs w A4 l4.length c4 l4 := ⟨rfl, y4, by omega, r4, u4⟩
            have n0 := P0.in_.bits
            have n1 := P1.in_.bits
            have n2 := P2.in_.bits
            have n3 := P3.in_.bits
            have n4 := P4.in_.bits
            clear r0 y0 r1 y1 r2 y2 r3 y3 r4 y4
            by_cases hm : natOf l4 = 0
            · have HM := Lib.hid hm
              clear hm
              go_enter Tryd.func4, Tryd.ntmps4
              go_wp2_with fail
              refine (bTrim P4.in_).mono ?_
              rintro e w1 ⟨X0, q0, d0, rfl, S0, _, b1⟩
              have B1 := b1
              have P0 := P0.step b1
              have P1 := P1.step b1
              have P2 := P2.step b1
              have P3 := P3.step b1
              have P4 := P4.step b1
              obtain rfl := natIs_none8 (natIs_eq S0 HM.out)
              go_wp2_with fail
              refine (powWorks_any _ (HLd.out.below B1)).mono ?_
              rintro e w2 ⟨rfl, b2⟩
              have B2 := below_step B1 b2
              go_wp2_with fail
              go_ret
              exact ⟨rfl, B2⟩
            · have HM := Lib.hid hm
              clear hm
              go_enter Tryd.func4, Tryd.ntmps4
              go_wp2_with fail
              refine (bTrim P4.in_).mono ?_
              rintro e w1 ⟨X0, q0, d0, rfl, S0, _, b1⟩
              have B1 := b1
              have P0 := P0.step b1
              have P1 := P1.step b1
              have P2 := P2.step b1
              have P3 := P3.step b1
              have P4 := P4.step b1
              have hq0 := natIs_some8 S0 (Nat.pos_of_ne_zero HM.out)
              clear S0
              go_wp2_with fail
              refine (bExp_ok P0.in_ P2.in_ P4.in_ HM.out (by omega) (by omega) (by omega) (by omega) (by omega)).mono ?_
              rintro e w2 ⟨X1, q1, d1, rfl, S1, b2⟩
              have B2 := below_step B1 b2
              have P0 := P0.step b2
              have P1 := P1.step b2
              have P2 := P2.step b2
              have P3 := P3.step b2
              have P4 := P4.step b2
              have hq1 : q1 ≤ 3900 := by have h := S1.1; rw [length_wd] at h; have i1 := nbits_mono (Nat.le_of_lt (Nat.mod_lt (natOf l0 ^ natOf l2) (Nat.pos_of_ne_zero HM.out))); omega
              go_wp2_with fail
              refine (bExp_ok P0.in_ P3.in_ P4.in_ HM.out (by omega) (by omega) (by omega) (by omega) (by omega)).mono ?_
              rintro e w3 ⟨X2, q2, d2, rfl, S2, b3⟩
              have B3 := below_step B2 b3
              have P0 := P0.step b3
              have P1 := P1.step b3
              have P2 := P2.step b3
              have P3 := P3.step b3
              have P4 := P4.step b3
              have S1 := S1.step b3
              have hq2 : q2 ≤ 3900 := by have h := S2.1; rw [length_wd] at h; have i1 := nbits_mono (Nat.le_of_lt (Nat.mod_lt (natOf l0 ^ natOf l3) (Nat.pos_of_ne_zero HM.out))); omega
              go_wp2_with fail
              refine (bAdd P2.in_ P3.in_ (by omega)).mono ?_
              rintro e w4 ⟨X3, q3, d3, rfl, S3, _, b4⟩
              have B4 := below_step B3 b4
              have P0 := P0.step b4
              have P1 := P1.step b4
              have P2 := P2.step b4
              have P3 := P3.step b4
              have P4 := P4.step b4
              have S1 := S1.step b4
              have S2 := S2.step b4
              have hq3 : q3 ≤ 3900 := by have h := S3.1; rw [length_wd] at h; have i1 := nbits_add (natOf l2) (natOf l3); omega
              go_wp2_with fail
              refine (bExp_ok P0.in_ S3.in_ P4.in_ HM.out (by have i1 := nbits_add (natOf l2) (natOf l3); omega) (by omega) (by omega) (by omega) (by omega)).mono ?_
              rintro e w5 ⟨X4, q4, d4, rfl, S4, b5⟩
              have B5 := below_step B4 b5
              have P0 := P0.step b5
              have P1 := P1.step b5
              have P2 := P2.step b5
              have P3 := P3.step b5
              have P4 := P4.step b5
              have S1 := S1.step b5
              have S2 := S2.step b5
              have S3 := S3.step b5
              clear S3
              go_wp2_with fail
              refine (bExp_is (natOf l0 ^ (natOf l2 * natOf l3) % natOf l4) S1.in_ P3.in_ P4.in_ (pow_tower _ _ _ _) HM.out (by omega) (by omega) (by omega) (by omega) (by omega)).mono ?_
              rintro e w6 ⟨X5, q5, d5, rfl, S5, b6⟩
              have B6 := below_step B5 b6
              have P0 := P0.step b6
              have P1 := P1.step b6
              have P2 := P2.step b6
              have P3 := P3.step b6
              have P4 := P4.step b6
              have S1 := S1.step b6
              have S2 := S2.step b6
              have S4 := S4.step b6
              go_wp2_with fail
              refine (bMul P2.in_ P3.in_ (by omega) (by omega)).mono ?_
              rintro e w7 ⟨X6, q6, d6, rfl, S6, _, b7⟩
              have B7 := below_step B6 b7
              have P0 := P0.step b7
              have P1 := P1.step b7
              have P2 := P2.step b7
              have P3 := P3.step b7
              have P4 := P4.step b7
              have S1 := S1.step b7
              have S2 := S2.step b7
              have S4 := S4.step b7
              have S5 := S5.step b7
              have hq6 : q6 ≤ 3900 := by have h := S6.1; rw [length_wd] at h; have i1 := nbits_mul (natOf l2) (natOf l3); omega
              go_wp2_with fail
              refine (bExp_ok P0.in_ S6.in_ P4.in_ HM.out (by have i1 := nbits_mul (natOf l2) (natOf l3); omega) (by omega) (by omega) (by omega) (by omega)).mono ?_
              rintro e w8 ⟨X7, q7, d7, rfl, S7, b8⟩
              have B8 := below_step B7 b8
              have P0 := P0.step b8
              have P1 := P1.step b8
              have P2 := P2.step b8
              have P3 := P3.step b8
              have P4 := P4.step b8
              have S1 := S1.step b8
              have S2 := S2.step b8
              have S4 := S4.step b8
              have S5 := S5.step b8
              have S6 := S6.step b8
              clear S6
              go_wp2_with fail
              refine (bExp_ok P1.in_ P2.in_ P4.in_ HM.out (by omega) (by omega) (by omega) (by omega) (by omega)).mono ?_
              rintro e w9 ⟨X8, q8, d8, rfl, S8, b9⟩
              have B9 := below_step B8 b9
              have P0 := P0.step b9
              have P1 := P1.step b9
              have P2 := P2.step b9
              have P3 := P3.step b9
              have P4 := P4.step b9
              have S1 := S1.step b9
              have S2 := S2.step b9
              have S4 := S4.step b9
              have S5 := S5.step b9
              have S7 := S7.step b9
              have hq8 : q8 ≤ 3900 := by have h := S8.1; rw [length_wd] at h; have i1 := nbits_mono (Nat.le_of_lt (Nat.mod_lt (natOf l1 ^ natOf l2) (Nat.pos_of_ne_zero HM.out))); omega
              go_wp2_with fail
              refine (bMul P0.in_ P1.in_ (by omega) (by omega)).mono ?_
              rintro e w10 ⟨X9, q9, d9, rfl, S9, _, b10⟩
              have B10 := below_step B9 b10
              have P0 := P0.step b10
              have P1 := P1.step b10
              have P2 := P2.step b10
              have P3 := P3.step b10
              have P4 := P4.step b10
              have S1 := S1.step b10
              have S2 := S2.step b10
              have S4 := S4.step b10
              have S5 := S5.step b10
              have S7 := S7.step b10
              have S8 := S8.step b10
              have hq9 : q9 ≤ 3900 := by have h := S9.1; rw [length_wd] at h; have i1 := nbits_mul (natOf l0) (natOf l1); omega
              go_wp2_with fail
              refine (bExp_ok S9.in_ P2.in_ P4.in_ HM.out (by omega) (by omega) (by omega) (by omega) (by omega)).mono ?_
              rintro e w11 ⟨X10, q10, d10, rfl, S10, b11⟩
              have B11 := below_step B10 b11
              have P0 := P0.step b11
              have P1 := P1.step b11
              have P2 := P2.step b11
              have P3 := P3.step b11
              have P4 := P4.step b11
              have S1 := S1.step b11
              have S2 := S2.step b11
              have S4 := S4.step b11
              have S5 := S5.step b11
              have S7 := S7.step b11
              have S8 := S8.step b11
              have S9 := S9.step b11
              clear S9
              go_wp2_with fail
              refine (bMul S1.in_ S2.in_ (by omega) (by omega)).mono ?_
              rintro e w31 ⟨X11, q11, d11, rfl, S11, _, b31⟩
              have B31 := below_step B11 b31
              have P0 := P0.step b31
              have P1 := P1.step b31
              have P2 := P2.step b31
              have P3 := P3.step b31
              have P4 := P4.step b31
              have S1 := S1.step b31
              have S2 := S2.step b31
              have S4 := S4.step b31
              have S5 := S5.step b31
              have S7 := S7.step b31
              have S8 := S8.step b31
              have S10 := S10.step b31
              have hq11 : q11 ≤ 3900 := by have h := S11.1; rw [length_wd] at h; have i1 := nbits_mono (Nat.le_of_lt (Nat.mod_lt (natOf l0 ^ natOf l2) (Nat.pos_of_ne_zero HM.out))); have i2 := nbits_mono (Nat.le_of_lt (Nat.mod_lt (natOf l0 ^ natOf l3) (Nat.pos_of_ne_zero HM.out))); have i3 := nbits_mul (natOf l0 ^ natOf l2 % natOf l4) (natOf l0 ^ natOf l3 % natOf l4); omega
              clear S2
              go_wp2_with fail
              refine (bMod_is (natOf l0 ^ (natOf l2 + natOf l3) % natOf l4) S11.in_ P4.in_ (pow_sum_mod _ _ _ _) HM.out (by omega) (by omega)).mono ?_
              rintro e w32 ⟨X12, q12, d12, rfl, S12, b32⟩
              have B32 := below_step B31 b32
              have P0 := P0.step b32
              have P1 := P1.step b32
              have P2 := P2.step b32
              have P3 := P3.step b32
              have P4 := P4.step b32
              have S1 := S1.step b32
              have S4 := S4.step b32
              have S5 := S5.step b32
              have S7 := S7.step b32
              have S8 := S8.step b32
              have S10 := S10.step b32
              have S11 := S11.step b32
              clear S11
              go_wp2_with fail
              refine (bMul S1.in_ S8.in_ (by omega) (by omega)).mono ?_
              rintro e w33 ⟨X13, q13, d13, rfl, S13, _, b33⟩
              have B33 := below_step B32 b33
              have P0 := P0.step b33
              have P1 := P1.step b33
              have P2 := P2.step b33
              have P3 := P3.step b33
              have P4 := P4.step b33
              have S1 := S1.step b33
              have S4 := S4.step b33
              have S5 := S5.step b33
              have S7 := S7.step b33
              have S8 := S8.step b33
              have S10 := S10.step b33
              have S12 := S12.step b33
              have hq13 : q13 ≤ 3900 := by have h := S13.1; rw [length_wd] at h; have i1 := nbits_mono (Nat.le_of_lt (Nat.mod_lt (natOf l0 ^ natOf l2) (Nat.pos_of_ne_zero HM.out))); have i2 := nbits_mono (Nat.le_of_lt (Nat.mod_lt (natOf l1 ^ natOf l2) (Nat.pos_of_ne_zero HM.out))); have i3 := nbits_mul (natOf l0 ^ natOf l2 % natOf l4) (natOf l1 ^ natOf l2 % natOf l4); omega
              clear S8
              go_wp2_with fail
              refine (bMod_is ((natOf l0 * natOf l1) ^ natOf l2 % natOf l4) S13.in_ P4.in_ (pow_prod _ _ _ _) HM.out (by omega) (by omega)).mono ?_
              rintro e w34 ⟨X14, q14, d14, rfl, S14, b34⟩
              have B34 := below_step B33 b34
              have P0 := P0.step b34
              have P1 := P1.step b34
              have P2 := P2.step b34
              have P3 := P3.step b34
              have P4 := P4.step b34
              have S1 := S1.step b34
              have S4 := S4.step b34
              have S5 := S5.step b34
              have S7 := S7.step b34
              have S10 := S10.step b34
              have S12 := S12.step b34
              have S13 := S13.step b34
              clear S13
              go_wp2_with fail
              refine (bSame S12 S4).mono ?_
              rintro e w51 ⟨rfl, b51⟩
              have B51 := below_step B34 b51
              have P0 := P0.step b51
              have P1 := P1.step b51
              have P2 := P2.step b51
              have P3 := P3.step b51
              have P4 := P4.step b51
              have S1 := S1.step b51
              have S4 := S4.step b51
              have S5 := S5.step b51
              have S7 := S7.step b51
              have S10 := S10.step b51
              have S12 := S12.step b51
              have S14 := S14.step b51
              clear S12 S4
              go_wp2_with fail
              refine (bSame S5 S7).mono ?_
              rintro e w52 ⟨rfl, b52⟩
              have B52 := below_step B51 b52
              have P0 := P0.step b52
              have P1 := P1.step b52
              have P2 := P2.step b52
              have P3 := P3.step b52
              have P4 := P4.step b52
              have S1 := S1.step b52
              have S5 := S5.step b52
              have S7 := S7.step b52
              have S10 := S10.step b52
              have S14 := S14.step b52
              clear S5 S7
              go_wp2_with fail
              refine (bSame S14 S10).mono ?_
              rintro e w53 ⟨rfl, b53⟩
              have B53 := below_step B52 b53
              have P0 := P0.step b53
              have P1 := P1.step b53
              have P2 := P2.step b53
              have P3 := P3.step b53
              have P4 := P4.step b53
              have S1 := S1.step b53
              have S10 := S10.step b53
              have S14 := S14.step b53
              clear S14 S10
              go_wp2_with fail
              refine (cmp_less S1.in_ P4.in_ (Nat.mod_lt _ (Nat.pos_of_ne_zero HM.out))).mono ?_
              rintro e w54 ⟨rfl, b54⟩
              have B54 := below_step B53 b54
              have P0 := P0.step b54
              have P1 := P1.step b54
              have P2 := P2.step b54
              have P3 := P3.step b54
              have P4 := P4.step b54
              have S1 := S1.step b54
              go_wp2_with fail
              refine (powWorks_any _ (HLd.out.below B54)).mono ?_
              rintro e w55 ⟨rfl, b55⟩
              have B55 := below_step B54 b55
              go_wp2_with fail
              go_ret
              exact ⟨rfl, B55⟩
end Go.Proofs.YtabcmdhjbjioiaaDoor
/- The document's symbols of chapter 8, of small numbers. Conditions: below 2^16. -/
namespace Go.Proofs.YtabcmdhjbjioiaaDoor
open Go.RowKit
set_option maxRecDepth 20000
theorem sq_form (x a p : Nat) (b : Bool) (h : decide (x * x % p = a % p) = b) : ((x : Int) * (x : Int) % (p : Int) == (a : Int) % (p : Int)) = b := by
  rw [← h, Bool.eq_iff_iff, beq_iff_eq, decide_eq_true_eq, ← Int.natCast_mul, ← Int.natCast_emod, ← Int.natCast_emod]
  omega
theorem mod_form8 (a k : Nat) (b : Bool) (h : decide (a % k = 0) = b) : (((a : Int) % (k : Int)) == 0) = b := by
  rw [← h, Bool.eq_iff_iff, beq_iff_eq, decide_eq_true_eq]; omega
set_option maxHeartbeats 1000000 in
theorem legendre08 (a p : Nat) (ha : a < 65536) (hp : p < 65536) (hP : Prm p) (ho : p % 2 = 1) (w : World) : Calls Tryd.prog 56 #[.int .u64 a, .int .u64 p] w fun e w' => e = .returned (.int .i64 (jac a p)) ∧ Drawn w w' := by
  have h2 := hP.1
  have hp0 : ((p : Int) == 0) = false := by simp; omega
  by_cases h0 : a % p = 0
  · have hm := mod_form8 a p true (decide_eq_true h0)
    have hj := Lib.hid (legendre_zero hP h0)
    clear h0
    go_enter Tryd.func56, Tryd.ntmps56
    go_wp2_with fail
    go_ret
    exact ⟨ret_num hj.out.symm, Drawn.more 0⟩
  · have hm := mod_form8 a p false (decide_eq_false h0)
    have HP := Lib.hid hP
    have H0 := Lib.hid h0
    clear h0 hP
    go_enter Tryd.func56, Tryd.ntmps56
    go_wp2_with fail
    go_loopw [5] (fun i wr => ∃ k : Nat, 1 ≤ k ∧ k ≤ p ∧ i = .int .u64 k ∧ (∀ y, 1 ≤ y → y < k → y * y % p ≠ a % p) ∧ Drawn w wr) (fun i _ => p - (intOf i).toNat)
    case atStart => exact ⟨1, Nat.le_refl _, by omega, rfl, fun y h1 h2 => by omega, Drawn.more 0⟩
    case round =>
      obtain ⟨k, hk1, hk, rfl, hno, nq, rfl⟩ := hrel
      have HN := Lib.hid hno
      clear hno
      by_cases hkp : k < p
      · have hPl : k * k < 4294967296 := by
          have : k * k ≤ 65535 * 65535 := Nat.mul_le_mul (by omega) (by omega)
          omega
        by_cases ht : k * k % p = a % p
        · have hb := sq_form k a p true (decide_eq_true ht)
          have hj := Lib.hid (legendre_yes HP.out ho hk1 hkp ht)
          clear ht
          go_wp2_with fail
          go_quiet (fail)
          go_wp2_with fail
          go_ret
          exact ⟨ret_num hj.out.symm, (Drawn.more _).draws _⟩
        · have hb := sq_form k a p false (decide_eq_false ht)
          have HT := Lib.hid ht
          clear ht
          go_wp2_with fail
          go_quiet (fail)
          go_wp2_with fail
          go_roundw
          case rel => exact ⟨k + 1, by omega, by omega, by go_num, fun y h1 h2 => by (rcases Nat.lt_succ_iff_lt_or_eq.1 h2 with h | rfl); exact HN.out y h1 h; exact HT.out, Drawn.more _⟩
          case measure => simp [intOf]; omega
      · have hj := Lib.hid (legendre_no HP.out ho H0.out fun x h1 h2 => HN.out x h1 (by omega))
        go_wp2_with fail
        go_ret
        exact ⟨ret_num hj.out.symm, Drawn.more _⟩
/-- Between two rounds: what is left of n, the symbol so far, the number that is tried. -/
structure Sym (a : Nat) (J : Int) (q N : Nat) (o : Int) : Prop where
  odd : N % 2 = 1
  low : N < 65536
  three : 3 ≤ q
  qodd : q % 2 = 1
  least : ∀ d, 2 ≤ d → d ∣ N → q ≤ d
  is : o * jac a N = J
  sign : -1 ≤ o ∧ o ≤ 1
theorem sign_mul {x y : Int} (hx : -1 ≤ x ∧ x ≤ 1) (hy : -1 ≤ y ∧ y ≤ 1) : -1 ≤ x * y ∧ x * y ≤ 1 := by
  have h1 : x = -1 ∨ x = 0 ∨ x = 1 := by omega
  rcases h1 with rfl | rfl | rfl <;> omega
theorem Sym.step {a q N : Nat} {J o : Int} (h : Sym a J q N o) (hd : N % q = 0) : Prm q ∧ Sym a J q (N / q) (o * jac a q) ∧ N / q < N := by
  have hq := Nat.dvd_of_mod_eq_zero hd
  have hp := least_prime (by have := h.three; omega) hq h.least
  obtain ⟨h1, h2, _⟩ := jac_part (a := a) h.odd hq
  have h3 := h.three
  have h4 := h.odd
  have h5 : N / q < N := Nat.div_lt_self (by omega) (by omega)
  refine ⟨hp, ⟨h2, by have := h.low; omega, h.three, h.qodd, fun d h6 h7 => h.least d h6 (Nat.dvd_trans h7 (Nat.div_dvd_of_dvd hq)), ?_, sign_mul h.sign ?_⟩, h5⟩
  · rw [Int.mul_assoc, ← h1]; exact h.is
  · have := jac_cases a q; omega
theorem Sym.next {a q N : Nat} {J o : Int} (h : Sym a J q N o) (hd : N % q ≠ 0) : Sym a J (q + 2) N o where
  odd := h.odd
  low := h.low
  three := by have := h.three; omega
  qodd := by have := h.qodd; omega
  least := fun d h1 h2 => by
    have h3 := h.least d h1 h2
    have h4 := h.odd
    have h5 := h.qodd
    rcases Nat.lt_or_ge d (q + 2) with h6 | h6
    · exfalso
      have h7 : d = q ∨ d = q + 1 := by omega
      rcases h7 with rfl | rfl
      · exact hd (Nat.mod_eq_zero_of_dvd h2)
      · have := (jac_part (a := a) h.odd h2).2.2; omega
    · exact h6
  is := h.is
  sign := h.sign
set_option maxHeartbeats 2000000 in
theorem symbol08 (a n : Nat) (ha : a < 65536) (hn : n < 65536) (ho : n % 2 = 1) (w : World) : Calls Tryd.prog 24 #[.int .u64 a, .int .u64 n] w fun e w' => e = .returned (.int .i64 (jac a n)) ∧ Below w.heap.size w w' := by
  obtain ⟨J, hJ⟩ : ∃ J, jac a n = J := ⟨_, rfl⟩
  have hS : Sym a J 3 n 1 := ⟨ho, hn, by omega, by omega, fun d h1 h2 => by have := (jac_part (a := a) ho h2).2.2; omega, by rw [Int.one_mul]; exact hJ, by omega⟩
  have HS0 := Lib.hid hS
  rw [hJ]
  clear hS hJ
  go_enter Tryd.func24, Tryd.ntmps24
  go_wp2_with fail
  go_loopw [1, 5, 6] (fun nv ov pv wr => ∃ (N q : Nat) (o : Int), nv = .int .u64 N ∧ ov = .int .i64 o ∧ pv = .int .u64 q ∧ Sym a J q N o ∧ q ≤ 65538 ∧ Drawn w wr) (fun _ _ pv _ => 70000 - (intOf pv).toNat)
  case atStart => exact ⟨n, 3, 1, rfl, rfl, rfl, HS0.out, by omega, Drawn.more 0⟩
  case round =>
    obtain ⟨N, q, o, rfl, rfl, rfl, hS, hq, nq, rfl⟩ := hrel
    have hN := hS.low
    have HS := Lib.hid hS
    by_cases h1 : 1 < N
    · have hqN : q ≤ N := hS.least N (by omega) (Nat.dvd_refl N)
      have h3 := hS.three
      have hq0 : ((q : Int) == 0) = false := by simp; omega
      have h1d : decide ((1 : Int) < (N : Int)) = true := by simp; omega
      clear hS h1
      go_wp2_with fail
      go_loopw [1, 5] (fun nv ov wr => ∃ (N : Nat) (o : Int), nv = .int .u64 N ∧ ov = .int .i64 o ∧ Sym a J q N o ∧ Drawn w wr) (fun nv _ _ => (intOf nv).toNat)
      case atStart => exact ⟨N, o, rfl, rfl, HS.out, Drawn.more _⟩
      case round =>
        obtain ⟨N, o, rfl, rfl, hS, nq2, rfl⟩ := hrel
        have hN := hS.low
        by_cases hd : N % q = 0
        · have hm := mod_form8 N q true (decide_eq_true hd)
          obtain ⟨hP, hS2, hlt⟩ := hS.step hd
          have hdiv : (N : Int) / (q : Int) = ((N / q : Nat) : Int) := by simp
          obtain ⟨M, hM⟩ : ∃ M, N / q = M := ⟨_, rfl⟩
          obtain ⟨j, hj⟩ : ∃ j, jac a q = j := ⟨_, rfl⟩
          have L := legendre08 a q ha (by omega) hP hS.qodd
          have hjb : -1 ≤ j ∧ j ≤ 1 := by have := jac_cases a q; omega
          have hob := hS2.sign
          rw [hM] at hdiv hS2 hlt
          rw [hj] at hS2 L hob
          obtain ⟨t, ht⟩ : ∃ t, o * j = t := ⟨_, rfl⟩
          rw [ht] at hS2 hob
          have HS2 := Lib.hid hS2
          have HL := Lib.hid L
          have hob2 := hS.sign
          clear hS hS2 hP hd hM hj L
          go_wp2_with fail
          refine (HL.out _).mono ?_
          rintro e w' ⟨rfl, nq3, rfl⟩
          go_wp2_with fail
          go_roundw
          case rel => exact ⟨M, t, rfl, rfl, HS2.out, Drawn.more _⟩
          case measure => simp [intOf]; omega
        · have hm := mod_form8 N q false (decide_eq_false hd)
          have HS3 := Lib.hid (hS.next hd)
          clear hS hd
          go_wp2_with fail
          go_roundw
          case rel => exact ⟨N, q + 2, o, rfl, rfl, by go_num, HS3.out, by omega, Drawn.more _⟩
          case measure => simp [intOf]; omega
    · have h2 := hS.odd
      obtain rfl : N = 1 := by omega
      have h3 := hS.is
      rw [jac_one, Int.mul_one] at h3
      subst h3
      clear hS HS
      go_wp2_with fail
      go_ret
      exact ⟨rfl, (Drawn.more _).below _⟩
theorem symbol08_is (a n : Nat) (y : Int) (ha : a < 65536) (hn : n < 65536) (ho : n % 2 = 1) (e : jac a n = y) (w : World) : Calls Tryd.prog 24 #[.int .u64 a, .int .u64 n] w fun e w' => e = .returned (.int .i64 y) ∧ Below w.heap.size w w' := e ▸ symbol08 a n ha hn ho w
end Go.Proofs.YtabcmdhjbjioiaaDoor
/- PowerSmall' walk: it answers true, and writes nothing that was there. No condition but what the arguments' types give. -/
namespace Go.Proofs.YtabcmdhjbjioiaaDoor
open Go.RowKit
set_option maxHeartbeats 8000000 in
set_option maxRecDepth 100000 in
theorem powerSmall_walk (A0 : Option Addr) (c0 : Nat) (l0 : List Nat) (a1 : Int) (w : World) (r0 : Rd .u64 w w.heap.size A0 l0) (y0 : Words l0) (_z0 : l0.length * 8 ≤ 140737488351232) (u0 : l0.length ≤ c0) (w1 : (Lit.int .u16 a1).wf = true) (hL : Laid8 w) :
    Calls Tryd.prog 5 #[.slice A0 l0.length c0, .int .u16 a1] w fun e w' => e = .returned (.bool true) ∧ Below w.heap.size w w' := by
  have HLd := Lib.hid hL
  clear hL
  have ha : 0 ≤ a1 ∧ a1 ≤ 65535 := by simpa [Lit.wf, IntKind.min, IntKind.max, IntKind.signed, IntKind.bits] using w1
  obtain ⟨x, rfl⟩ : ∃ x : Nat, a1 = (x : Int) := ⟨a1.toNat, by omega⟩
  have hx : x < 65536 := by omega
  clear w1
  by_cases hv0 : 8 < l0.length
  · have hvd0 : decide (8 < (l0.length : Int)) = true := by simp; omega
    go_enter Tryd.func5, Tryd.ntmps5
    go_wp2_with fail
    refine (powWorks_any _ HLd.out).mono ?_
    rintro e w1 ⟨rfl, b1⟩
    have B1 := b1
    go_wp2_with fail
    go_ret
    exact ⟨rfl, B1⟩
  · skip
    have hvd0 : decide (8 < (l0.length : Int)) = false := by simp; omega
    have P0 : RowIs w A0 l0.length c0 l0 := ⟨rfl, y0, by omega, r0, u0⟩
    have n0 := P0.in_.bits
    clear r0 y0
    rcases Nat.mod_two_eq_zero_or_one x with ho | ho
    · have HO := Lib.hid ho
      have hm2 := mod_form8 x 2 true (decide_eq_true ho)
      clear ho
      go_enter Tryd.func5, Tryd.ntmps5
      go_wp2_with fail
      refine (hN8 w x _ rfl (by omega)).mono ?_
      rintro e w1 ⟨X1, q1, d1, rfl, S1, _, b1⟩
      have B1 := b1
      have P0 := P0.step b1
      have hq1 := natIs_small8 S1 (by omega)
      go_wp2_with fail
      refine (bJac_even P0.in_ S1.in_ HO.out (by omega) (by omega)).mono ?_
      rintro e w2 ⟨rfl, b2⟩
      have B2 := below_step B1 b2
      have P0 := P0.step b2
      have S1 := S1.step b2
      go_wp2_with fail
      refine (powWorks_any _ (HLd.out.below B2)).mono ?_
      rintro e w3 ⟨rfl, b3⟩
      have B3 := below_step B2 b3
      go_wp2_with fail
      go_ret
      exact ⟨rfl, B3⟩
    · have HO := Lib.hid ho
      have hm2 := mod_form8 x 2 false (decide_eq_false (by omega))
      obtain ⟨y, hy⟩ : ∃ y, jac (natOf l0) x = y := ⟨_, rfl⟩
      obtain ⟨v, hv⟩ : ∃ v, natOf l0 % x = v := ⟨_, rfl⟩
      have HV := Lib.hid hv
      have HV1 := Lib.hid (show v < x from hv ▸ Nat.mod_lt _ (by omega))
      have HY := Lib.hid hy
      have HS := Lib.hid (show jac v x = y by rw [← hv, jac_left]; exact hy)
      clear ho hv hy
      go_enter Tryd.func5, Tryd.ntmps5
      go_wp2_with fail
      refine (hN8 w x _ rfl (by omega)).mono ?_
      rintro e w1 ⟨X1, q1, d1, rfl, S1, _, b1⟩
      have B1 := b1
      have P0 := P0.step b1
      have hq1 := natIs_small8 S1 (by omega)
      go_wp2_with fail
      refine (bJac y P0.in_ S1.in_ HY.out HO.out (by omega) (by omega) (HLd.out.below B1)).mono ?_
      rintro e w2 ⟨rfl, b2⟩
      have B2 := below_step B1 b2
      have P0 := P0.step b2
      have S1 := S1.step b2
      clear S1
      go_wp2_with fail
      refine (hN8 w2 x _ rfl (by omega)).mono ?_
      rintro e w3 ⟨X2, q2, d2, rfl, S2, _, b3⟩
      have B3 := below_step B2 b3
      have P0 := P0.step b3
      have hq2 := natIs_small8 S2 (by omega)
      go_wp2_with fail
      refine (bDiv4_ok P0.in_ S2.in_ (by have := HO.out; omega) (by omega) (by omega)).mono ?_
      rintro e w4 ⟨X3, q3, d3, Y3, r3, f3, rfl, S3, R3, b4⟩
      have B4 := below_step B3 b4
      have P0 := P0.step b4
      have S2 := S2.step b4
      clear S2
      go_wp2_with fail
      refine (bSmall2_v R3.in_ v HV.out.symm (by have := HV1.out; omega)).mono ?_
      rintro e w5 ⟨rfl, b5⟩
      have B5 := below_step B4 b5
      have P0 := P0.step b5
      have R3 := R3.step b5
      clear R3
      go_wp2_with fail
      refine ((symbol08_is v x y (by have := HV1.out; omega) hx HO.out HS.out w5)).mono ?_
      rintro e w6 ⟨rfl, b6⟩
      have B6 := below_step B5 b6
      have P0 := P0.step b6
      go_wp2_with fail
      refine (powWorks_any _ (HLd.out.below B6)).mono ?_
      rintro e w7 ⟨rfl, b7⟩
      have B7 := below_step B6 b7
      go_wp2_with fail
      go_ret
      exact ⟨rfl, B7⟩
end Go.Proofs.YtabcmdhjbjioiaaDoor
/- PowerSymbols' walk: it answers true, and writes nothing that was there. No condition but what the arguments' types give. -/
namespace Go.Proofs.YtabcmdhjbjioiaaDoor
open Go.RowKit
set_option maxHeartbeats 8000000 in
set_option maxRecDepth 100000 in
theorem powerSymbols_walk (A0 : Option Addr) (c0 : Nat) (l0 : List Nat) (A1 : Option Addr) (c1 : Nat) (l1 : List Nat) (A2 : Option Addr) (c2 : Nat) (l2 : List Nat) (A3 : Option Addr) (c3 : Nat) (l3 : List Nat) (w : World) (r0 : Rd .u64 w w.heap.size A0 l0) (y0 : Words l0) (_z0 : l0.length * 8 ≤ 140737488351232) (u0 : l0.length ≤ c0) (r1 : Rd .u64 w w.heap.size A1 l1) (y1 : Words l1) (_z1 : l1.length * 8 ≤ 140737488351232) (u1 : l1.length ≤ c1) (r2 : Rd .u64 w w.heap.size A2 l2) (y2 : Words l2) (_z2 : l2.length * 8 ≤ 140737488351232) (u2 : l2.length ≤ c2) (r3 : Rd .u64 w w.heap.size A3 l3) (y3 : Words l3) (_z3 : l3.length * 8 ≤ 140737488351232) (u3 : l3.length ≤ c3) (hL : Laid8 w) :
    Calls Tryd.prog 6 #[.slice A0 l0.length c0, .slice A1 l1.length c1, .slice A2 l2.length c2, .slice A3 l3.length c3] w fun e w' => e = .returned (.bool true) ∧ Below w.heap.size w w' := by
  have HLd := Lib.hid hL
  clear hL
  by_cases hv0 : 12 < l0.length
  · have hvd0 : decide (12 < (l0.length : Int)) = true := by simp; omega
    go_enter Tryd.func6, Tryd.ntmps6
    go_wp2_with fail
    refine (powWorks_any _ HLd.out).mono ?_
    rintro e w1 ⟨rfl, b1⟩
    have B1 := b1
    go_wp2_with fail
    go_ret
    exact ⟨rfl, B1⟩
  · by_cases hv1 : 12 < l1.length
    · have hvd1 : decide (12 < (l1.length : Int)) = true := by simp; omega
      have hvd0 : decide (12 < (l0.length : Int)) = false := by simp; omega
      go_enter Tryd.func6, Tryd.ntmps6
      go_wp2_with fail
      refine (powWorks_any _ HLd.out).mono ?_
      rintro e w1 ⟨rfl, b1⟩
      have B1 := b1
      go_wp2_with fail
      go_ret
      exact ⟨rfl, B1⟩
    · by_cases hv2 : 12 < l2.length
      · have hvd2 : decide (12 < (l2.length : Int)) = true := by simp; omega
        have hvd0 : decide (12 < (l0.length : Int)) = false := by simp; omega
        have hvd1 : decide (12 < (l1.length : Int)) = false := by simp; omega
        go_enter Tryd.func6, Tryd.ntmps6
        go_wp2_with fail
        refine (powWorks_any _ HLd.out).mono ?_
        rintro e w1 ⟨rfl, b1⟩
        have B1 := b1
        go_wp2_with fail
        go_ret
        exact ⟨rfl, B1⟩
      · by_cases hv3 : 12 < l3.length
        · have hvd3 : decide (12 < (l3.length : Int)) = true := by simp; omega
          have hvd0 : decide (12 < (l0.length : Int)) = false := by simp; omega
          have hvd1 : decide (12 < (l1.length : Int)) = false := by simp; omega
          have hvd2 : decide (12 < (l2.length : Int)) = false := by simp; omega
          go_enter Tryd.func6, Tryd.ntmps6
          go_wp2_with fail
          refine (powWorks_any _ HLd.out).mono ?_
          rintro e w1 ⟨rfl, b1⟩
          have B1 := b1
          go_wp2_with fail
          go_ret
          exact ⟨rfl, B1⟩
        · skip
          have hvd0 : decide (12 < (l0.length : Int)) = false := by simp; omega
          have hvd1 : decide (12 < (l1.length : Int)) = false := by simp; omega
          have hvd2 : decide (12 < (l2.length : Int)) = false := by simp; omega
          have hvd3 : decide (12 < (l3.length : Int)) = false := by simp; omega
          have P0 : RowIs w A0 l0.length c0 l0 := ⟨rfl, y0, by omega, r0, u0⟩
          have P1 : RowIs w A1 l1.length c1 l1 := ⟨rfl, y1, by omega, r1, u1⟩
          have P2 : RowIs w A2 l2.length c2 l2 := ⟨rfl, y2, by omega, r2, u2⟩
          have P3 : RowIs w A3 l3.length c3 l3 := ⟨rfl, y3, by omega, r3, u3⟩
          have n0 := P0.in_.bits
          have n1 := P1.in_.bits
          have n2 := P2.in_.bits
          have n3 := P3.in_.bits
          clear r0 y0 r1 y1 r2 y2 r3 y3
          obtain ⟨M, hM⟩ : ∃ M, 2 ^ 1 * natOf l2 + 1 = M := ⟨_, rfl⟩
          obtain ⟨O, hO⟩ : ∃ O, 2 ^ 1 * natOf l3 + 1 = O := ⟨_, rfl⟩
          have HM := Lib.hid (show M % 2 = 1 by omega)
          have HO := Lib.hid (show O % 2 = 1 by omega)
          have HML := Lib.hid (show M < 2 ^ 769 from odd_lt8 (nbits_lt (natOf l2)) n2 (by omega) hM)
          have HOL := Lib.hid (show O < 2 ^ 769 from odd_lt8 (nbits_lt (natOf l3)) n3 (by omega) hO)
          have HQ1 := Lib.hid hM
          have HQ5 := Lib.hid hO
          clear hM hO
          obtain ⟨x1, hx1⟩ : ∃ x, jac (natOf l0) M = x := ⟨_, rfl⟩
          have bx1 : -1 ≤ x1 ∧ x1 ≤ 1 := by have := jac_cases (natOf l0) M; omega
          obtain ⟨x2, hx2⟩ : ∃ x, jac (natOf l1) M = x := ⟨_, rfl⟩
          have bx2 : -1 ≤ x2 ∧ x2 ≤ 1 := by have := jac_cases (natOf l1) M; omega
          obtain ⟨x4, hx4⟩ : ∃ x, jac (natOf l0) O = x := ⟨_, rfl⟩
          have bx4 : -1 ≤ x4 ∧ x4 ≤ 1 := by have := jac_cases (natOf l0) O; omega
          obtain ⟨y1, hy1⟩ : ∃ x, jac O M = x := ⟨_, rfl⟩
          have by1 : -1 ≤ y1 ∧ y1 ≤ 1 := by have := jac_cases O M; omega
          obtain ⟨y2, hy2⟩ : ∃ x, jac M O = x := ⟨_, rfl⟩
          have by2 : -1 ≤ y2 ∧ y2 ≤ 1 := by have := jac_cases M O; omega
          have p3 := jac_mul (natOf l0) (natOf l1) M HM.out
          rw [hx1, hx2] at p3
          have p5 := jac_mul_right (natOf l0) M O HM.out HO.out
          rw [hx1, hx4] at p5
          obtain ⟨x3, hx3⟩ : ∃ x, jac (natOf l0 * natOf l1) M = x := ⟨_, rfl⟩
          have bx3 : -1 ≤ x3 ∧ x3 ≤ 1 := by have := jac_cases (natOf l0 * natOf l1) M; omega
          obtain ⟨x5, hx5⟩ : ∃ x, jac (natOf l0) (M * O) = x := ⟨_, rfl⟩
          have bx5 : -1 ≤ x5 ∧ x5 ≤ 1 := by have := jac_cases (natOf l0) (M * O); omega
          rw [hx3] at p3
          rw [hx5] at p5
          replace p3 := p3.symm
          replace p5 := p5.symm
          have qz : (y1 == 0) = (y2 == 0) := by rw [← hy1, ← hy2]; exact jac_zero_same O M
          have qs : y1 = if M % 4 = 3 ∧ O % 4 = 3 then - y2 else y2 := by rw [← hy1, ← hy2, jac_swap O M HO.out HM.out]; by_cases hh : O % 4 = 3 ∧ M % 4 = 3 <;> (first | rw [if_pos hh, if_pos (by omega)] | rw [if_neg hh, if_neg (by omega)])
          have HJ1 := Lib.hid hx1
          have HJ2 := Lib.hid hx2
          have HJ3 := Lib.hid hx3
          have HJ4 := Lib.hid hx4
          have HJ5 := Lib.hid hx5
          have HK1 := Lib.hid hy1
          have HK2 := Lib.hid hy2
          clear hx1 hx2 hx3 hx4 hx5 hy1 hy2
          by_cases hm4 : M % 4 = 3
          · have HM4 := Lib.hid (show decide (M % 4 = 3) = true by simpa using hm4)
            by_cases ho4 : O % 4 = 3
            · have HO4 := Lib.hid (show decide (O % 4 = 3) = true by simpa using ho4)
              rw [if_pos ⟨hm4, ho4⟩] at qs
              rw [qs] at qz
              clear hm4 ho4
              go_enter Tryd.func6, Tryd.ntmps6
              go_wp2_with fail
              refine (bShl P2.in_ 1 (by omega)).mono ?_
              rintro e w1 ⟨X1, q1, d1, rfl, S1, _, b1⟩
              have B1 := b1
              have P0 := P0.step b1
              have P1 := P1.step b1
              have P2 := P2.step b1
              have P3 := P3.step b1
              have S1 := natIs_eq S1 (shl3 (natOf l2) 1 (by omega))
              have hq1 : q1 ≤ 3900 := by have h := S1.1; rw [length_wd] at h; have i1 := nbits_shl (natOf l2) 1; omega
              go_wp2_with fail
              refine (hN8 w1 1 _ rfl (by omega)).mono ?_
              rintro e w2 ⟨X2, q2, d2, rfl, S2, _, b2⟩
              have B2 := below_step B1 b2
              have P0 := P0.step b2
              have P1 := P1.step b2
              have P2 := P2.step b2
              have P3 := P3.step b2
              have S1 := S1.step b2
              have hq2 := natIs_small8 S2 (by omega)
              go_wp2_with fail
              refine (bAdd S1.in_ S2.in_ (by omega)).mono ?_
              rintro e w3 ⟨X3, q3, d3, rfl, S3, _, b3⟩
              have B3 := below_step B2 b3
              have P0 := P0.step b3
              have P1 := P1.step b3
              have P2 := P2.step b3
              have P3 := P3.step b3
              have S1 := S1.step b3
              have S2 := S2.step b3
              have S3 := natIs_eq S3 (HQ1.out)
              have hq3 : q3 ≤ 3900 := by have h := S3.1; rw [length_wd] at h; have i1 := nbits_shl (natOf l2) 1; have i2 := nbits_add (2 ^ 1 * natOf l2) 1; rw [nbits_one, HQ1.out] at i2; omega
              clear S1 S2
              go_wp2_with fail
              refine (bShl P3.in_ 1 (by omega)).mono ?_
              rintro e w11 ⟨X5, q5, d5, rfl, S5, _, b11⟩
              have B11 := below_step B3 b11
              have P0 := P0.step b11
              have P1 := P1.step b11
              have P2 := P2.step b11
              have P3 := P3.step b11
              have S3 := S3.step b11
              have S5 := natIs_eq S5 (shl3 (natOf l3) 1 (by omega))
              have hq5 : q5 ≤ 3900 := by have h := S5.1; rw [length_wd] at h; have i1 := nbits_shl (natOf l3) 1; omega
              go_wp2_with fail
              refine (hN8 w11 1 _ rfl (by omega)).mono ?_
              rintro e w12 ⟨X6, q6, d6, rfl, S6, _, b12⟩
              have B12 := below_step B11 b12
              have P0 := P0.step b12
              have P1 := P1.step b12
              have P2 := P2.step b12
              have P3 := P3.step b12
              have S3 := S3.step b12
              have S5 := S5.step b12
              have hq6 := natIs_small8 S6 (by omega)
              go_wp2_with fail
              refine (bAdd S5.in_ S6.in_ (by omega)).mono ?_
              rintro e w13 ⟨X7, q7, d7, rfl, S7, _, b13⟩
              have B13 := below_step B12 b13
              have P0 := P0.step b13
              have P1 := P1.step b13
              have P2 := P2.step b13
              have P3 := P3.step b13
              have S3 := S3.step b13
              have S5 := S5.step b13
              have S6 := S6.step b13
              have S7 := natIs_eq S7 (HQ5.out)
              have hq7 : q7 ≤ 3900 := by have h := S7.1; rw [length_wd] at h; have i1 := nbits_shl (natOf l3) 1; have i2 := nbits_add (2 ^ 1 * natOf l3) 1; rw [nbits_one, HQ5.out] at i2; omega
              clear S5 S6
              go_wp2_with fail
              refine (bJac x1 P0.in_ S3.in_ HJ1.out HM.out (by omega) (by omega) (HLd.out.below B13)).mono ?_
              rintro e w21 ⟨rfl, b21⟩
              have B21 := below_step B13 b21
              have P0 := P0.step b21
              have P1 := P1.step b21
              have P2 := P2.step b21
              have P3 := P3.step b21
              have S3 := S3.step b21
              have S7 := S7.step b21
              go_wp2_with fail
              refine (bJac x2 P1.in_ S3.in_ HJ2.out HM.out (by omega) (by omega) (HLd.out.below B21)).mono ?_
              rintro e w22 ⟨rfl, b22⟩
              have B22 := below_step B21 b22
              have P0 := P0.step b22
              have P1 := P1.step b22
              have P2 := P2.step b22
              have P3 := P3.step b22
              have S3 := S3.step b22
              have S7 := S7.step b22
              go_wp2_with fail
              refine (bMul P0.in_ P1.in_ (by omega) (by omega)).mono ?_
              rintro e w23 ⟨X11, q11, d11, rfl, S11, _, b23⟩
              have B23 := below_step B22 b23
              have P0 := P0.step b23
              have P1 := P1.step b23
              have P2 := P2.step b23
              have P3 := P3.step b23
              have S3 := S3.step b23
              have S7 := S7.step b23
              have hq11 : q11 ≤ 3900 := by have h := S11.1; rw [length_wd] at h; have i1 := nbits_mul (natOf l0) (natOf l1); omega
              go_wp2_with fail
              refine (bJac x3 S11.in_ S3.in_ HJ3.out HM.out (by omega) (by omega) (HLd.out.below B23)).mono ?_
              rintro e w31 ⟨rfl, b31⟩
              have B31 := below_step B23 b31
              have P0 := P0.step b31
              have P1 := P1.step b31
              have P2 := P2.step b31
              have P3 := P3.step b31
              have S3 := S3.step b31
              have S7 := S7.step b31
              have S11 := S11.step b31
              clear S11
              go_wp2_with fail
              refine (bJac x4 P0.in_ S7.in_ HJ4.out HO.out (by omega) (by omega) (HLd.out.below B31)).mono ?_
              rintro e w32 ⟨rfl, b32⟩
              have B32 := below_step B31 b32
              have P0 := P0.step b32
              have P1 := P1.step b32
              have P2 := P2.step b32
              have P3 := P3.step b32
              have S3 := S3.step b32
              have S7 := S7.step b32
              go_wp2_with fail
              refine (bMul S3.in_ S7.in_ (by omega) (by omega)).mono ?_
              rintro e w33 ⟨X12, q12, d12, rfl, S12, _, b33⟩
              have B33 := below_step B32 b33
              have P0 := P0.step b33
              have P1 := P1.step b33
              have P2 := P2.step b33
              have P3 := P3.step b33
              have S3 := S3.step b33
              have S7 := S7.step b33
              have hq12 : q12 ≤ 3900 := by have h := S12.1; rw [length_wd] at h; have i7 := HM.out; have i8 := HO.out; have i9 := nbits_of_lt M 769 HML.out; have i10 := nbits_of_lt O 769 HOL.out; have i1 := nbits_mul M O; omega
              go_wp2_with fail
              refine (bJac x5 P0.in_ S12.in_ HJ5.out (by rw [Nat.mul_mod, HM.out, HO.out]) (by omega) (by omega) (HLd.out.below B33)).mono ?_
              rintro e w41 ⟨rfl, b41⟩
              have B41 := below_step B33 b41
              have P0 := P0.step b41
              have P1 := P1.step b41
              have P2 := P2.step b41
              have P3 := P3.step b41
              have S3 := S3.step b41
              have S7 := S7.step b41
              have S12 := S12.step b41
              clear S12
              go_wp2_with fail
              refine (bMod_is (natOf l0 % M) P0.in_ S3.in_ rfl (by have := HM.out; omega) (by omega) (by omega)).mono ?_
              rintro e w42 ⟨X13, q13, d13, rfl, S13, b42⟩
              have B42 := below_step B41 b42
              have P0 := P0.step b42
              have P1 := P1.step b42
              have P2 := P2.step b42
              have P3 := P3.step b42
              have S3 := S3.step b42
              have S7 := S7.step b42
              have hq13 : q13 ≤ 3900 := by have h := S13.1; rw [length_wd] at h; have i7 := HM.out; have i8 := HO.out; have i9 := nbits_of_lt M 769 HML.out; have i10 := nbits_of_lt O 769 HOL.out; have i1 := nbits_mono (Nat.mod_le (natOf l0) M); omega
              go_wp2_with fail
              refine (bJac x1 S13.in_ S3.in_ ((jac_left _ _).trans HJ1.out) HM.out (by omega) (by omega) (HLd.out.below B42)).mono ?_
              rintro e w43 ⟨rfl, b43⟩
              have B43 := below_step B42 b43
              have P0 := P0.step b43
              have P1 := P1.step b43
              have P2 := P2.step b43
              have P3 := P3.step b43
              have S3 := S3.step b43
              have S7 := S7.step b43
              have S13 := S13.step b43
              clear S13
              go_wp2_with fail
              refine (bJac y1 S7.in_ S3.in_ HK1.out HM.out (by omega) (by omega) (HLd.out.below B43)).mono ?_
              rintro e w44 ⟨rfl, b44⟩
              have B44 := below_step B43 b44
              have P0 := P0.step b44
              have P1 := P1.step b44
              have P2 := P2.step b44
              have P3 := P3.step b44
              have S3 := S3.step b44
              have S7 := S7.step b44
              go_wp2_with fail
              refine (bJac y2 S3.in_ S7.in_ HK2.out HO.out (by omega) (by omega) (HLd.out.below B44)).mono ?_
              rintro e w45 ⟨rfl, b45⟩
              have B45 := below_step B44 b45
              have P0 := P0.step b45
              have P1 := P1.step b45
              have P2 := P2.step b45
              have P3 := P3.step b45
              have S3 := S3.step b45
              have S7 := S7.step b45
              have hzm := natIs_pos8 S3 (by have := HM.out; omega)
              have hzo := natIs_pos8 S7 (by have := HO.out; omega)
              have hqm := natIs_some8 S3 (by have := HM.out; omega)
              have hqo := natIs_some8 S7 (by have := HO.out; omega)
              obtain ⟨g1, o1, rfl, hc1⟩ := natIs_cell8 S3 (by have := HM.out; omega)
              obtain ⟨g2, o2, rfl, hc2⟩ := natIs_cell8 S7 (by have := HO.out; omega)
              have hw1 := word_four8 M true HM4.out
              have hw2 := word_four8 O true HO4.out
              have hl1 := word_lt8 M
              have hl2 := word_lt8 O
              generalize M % 18446744073709551616 = z1 at hc1 hw1 hl1
              generalize O % 18446744073709551616 = z2 at hc2 hw2 hl2
              go_wp2_with fail
              refine (powWorks_any _ (HLd.out.below B45)).mono ?_
              rintro e w46 ⟨rfl, b46⟩
              have B46 := below_step B45 b46
              go_wp2_with fail
              go_ret
              exact ⟨rfl, B46⟩
            · have HO4 := Lib.hid (show decide (O % 4 = 3) = false by simpa using ho4)
              rw [if_neg (by omega)] at qs
              rw [qs] at qz
              clear hm4 ho4
              go_enter Tryd.func6, Tryd.ntmps6
              go_wp2_with fail
              refine (bShl P2.in_ 1 (by omega)).mono ?_
              rintro e w1 ⟨X1, q1, d1, rfl, S1, _, b1⟩
              have B1 := b1
              have P0 := P0.step b1
              have P1 := P1.step b1
              have P2 := P2.step b1
              have P3 := P3.step b1
              have S1 := natIs_eq S1 (shl3 (natOf l2) 1 (by omega))
              have hq1 : q1 ≤ 3900 := by have h := S1.1; rw [length_wd] at h; have i1 := nbits_shl (natOf l2) 1; omega
              go_wp2_with fail
              refine (hN8 w1 1 _ rfl (by omega)).mono ?_
              rintro e w2 ⟨X2, q2, d2, rfl, S2, _, b2⟩
              have B2 := below_step B1 b2
              have P0 := P0.step b2
              have P1 := P1.step b2
              have P2 := P2.step b2
              have P3 := P3.step b2
              have S1 := S1.step b2
              have hq2 := natIs_small8 S2 (by omega)
              go_wp2_with fail
              refine (bAdd S1.in_ S2.in_ (by omega)).mono ?_
              rintro e w3 ⟨X3, q3, d3, rfl, S3, _, b3⟩
              have B3 := below_step B2 b3
              have P0 := P0.step b3
              have P1 := P1.step b3
              have P2 := P2.step b3
              have P3 := P3.step b3
              have S1 := S1.step b3
              have S2 := S2.step b3
              have S3 := natIs_eq S3 (HQ1.out)
              have hq3 : q3 ≤ 3900 := by have h := S3.1; rw [length_wd] at h; have i1 := nbits_shl (natOf l2) 1; have i2 := nbits_add (2 ^ 1 * natOf l2) 1; rw [nbits_one, HQ1.out] at i2; omega
              clear S1 S2
              go_wp2_with fail
              refine (bShl P3.in_ 1 (by omega)).mono ?_
              rintro e w11 ⟨X5, q5, d5, rfl, S5, _, b11⟩
              have B11 := below_step B3 b11
              have P0 := P0.step b11
              have P1 := P1.step b11
              have P2 := P2.step b11
              have P3 := P3.step b11
              have S3 := S3.step b11
              have S5 := natIs_eq S5 (shl3 (natOf l3) 1 (by omega))
              have hq5 : q5 ≤ 3900 := by have h := S5.1; rw [length_wd] at h; have i1 := nbits_shl (natOf l3) 1; omega
              go_wp2_with fail
              refine (hN8 w11 1 _ rfl (by omega)).mono ?_
              rintro e w12 ⟨X6, q6, d6, rfl, S6, _, b12⟩
              have B12 := below_step B11 b12
              have P0 := P0.step b12
              have P1 := P1.step b12
              have P2 := P2.step b12
              have P3 := P3.step b12
              have S3 := S3.step b12
              have S5 := S5.step b12
              have hq6 := natIs_small8 S6 (by omega)
              go_wp2_with fail
              refine (bAdd S5.in_ S6.in_ (by omega)).mono ?_
              rintro e w13 ⟨X7, q7, d7, rfl, S7, _, b13⟩
              have B13 := below_step B12 b13
              have P0 := P0.step b13
              have P1 := P1.step b13
              have P2 := P2.step b13
              have P3 := P3.step b13
              have S3 := S3.step b13
              have S5 := S5.step b13
              have S6 := S6.step b13
              have S7 := natIs_eq S7 (HQ5.out)
              have hq7 : q7 ≤ 3900 := by have h := S7.1; rw [length_wd] at h; have i1 := nbits_shl (natOf l3) 1; have i2 := nbits_add (2 ^ 1 * natOf l3) 1; rw [nbits_one, HQ5.out] at i2; omega
              clear S5 S6
              go_wp2_with fail
              refine (bJac x1 P0.in_ S3.in_ HJ1.out HM.out (by omega) (by omega) (HLd.out.below B13)).mono ?_
              rintro e w21 ⟨rfl, b21⟩
              have B21 := below_step B13 b21
              have P0 := P0.step b21
              have P1 := P1.step b21
              have P2 := P2.step b21
              have P3 := P3.step b21
              have S3 := S3.step b21
              have S7 := S7.step b21
              go_wp2_with fail
              refine (bJac x2 P1.in_ S3.in_ HJ2.out HM.out (by omega) (by omega) (HLd.out.below B21)).mono ?_
              rintro e w22 ⟨rfl, b22⟩
              have B22 := below_step B21 b22
              have P0 := P0.step b22
              have P1 := P1.step b22
              have P2 := P2.step b22
              have P3 := P3.step b22
              have S3 := S3.step b22
              have S7 := S7.step b22
              go_wp2_with fail
              refine (bMul P0.in_ P1.in_ (by omega) (by omega)).mono ?_
              rintro e w23 ⟨X11, q11, d11, rfl, S11, _, b23⟩
              have B23 := below_step B22 b23
              have P0 := P0.step b23
              have P1 := P1.step b23
              have P2 := P2.step b23
              have P3 := P3.step b23
              have S3 := S3.step b23
              have S7 := S7.step b23
              have hq11 : q11 ≤ 3900 := by have h := S11.1; rw [length_wd] at h; have i1 := nbits_mul (natOf l0) (natOf l1); omega
              go_wp2_with fail
              refine (bJac x3 S11.in_ S3.in_ HJ3.out HM.out (by omega) (by omega) (HLd.out.below B23)).mono ?_
              rintro e w31 ⟨rfl, b31⟩
              have B31 := below_step B23 b31
              have P0 := P0.step b31
              have P1 := P1.step b31
              have P2 := P2.step b31
              have P3 := P3.step b31
              have S3 := S3.step b31
              have S7 := S7.step b31
              have S11 := S11.step b31
              clear S11
              go_wp2_with fail
              refine (bJac x4 P0.in_ S7.in_ HJ4.out HO.out (by omega) (by omega) (HLd.out.below B31)).mono ?_
              rintro e w32 ⟨rfl, b32⟩
              have B32 := below_step B31 b32
              have P0 := P0.step b32
              have P1 := P1.step b32
              have P2 := P2.step b32
              have P3 := P3.step b32
              have S3 := S3.step b32
              have S7 := S7.step b32
              go_wp2_with fail
              refine (bMul S3.in_ S7.in_ (by omega) (by omega)).mono ?_
              rintro e w33 ⟨X12, q12, d12, rfl, S12, _, b33⟩
              have B33 := below_step B32 b33
              have P0 := P0.step b33
              have P1 := P1.step b33
              have P2 := P2.step b33
              have P3 := P3.step b33
              have S3 := S3.step b33
              have S7 := S7.step b33
              have hq12 : q12 ≤ 3900 := by have h := S12.1; rw [length_wd] at h; have i7 := HM.out; have i8 := HO.out; have i9 := nbits_of_lt M 769 HML.out; have i10 := nbits_of_lt O 769 HOL.out; have i1 := nbits_mul M O; omega
              go_wp2_with fail
              refine (bJac x5 P0.in_ S12.in_ HJ5.out (by rw [Nat.mul_mod, HM.out, HO.out]) (by omega) (by omega) (HLd.out.below B33)).mono ?_
              rintro e w41 ⟨rfl, b41⟩
              have B41 := below_step B33 b41
              have P0 := P0.step b41
              have P1 := P1.step b41
              have P2 := P2.step b41
              have P3 := P3.step b41
              have S3 := S3.step b41
              have S7 := S7.step b41
              have S12 := S12.step b41
              clear S12
              go_wp2_with fail
              refine (bMod_is (natOf l0 % M) P0.in_ S3.in_ rfl (by have := HM.out; omega) (by omega) (by omega)).mono ?_
              rintro e w42 ⟨X13, q13, d13, rfl, S13, b42⟩
              have B42 := below_step B41 b42
              have P0 := P0.step b42
              have P1 := P1.step b42
              have P2 := P2.step b42
              have P3 := P3.step b42
              have S3 := S3.step b42
              have S7 := S7.step b42
              have hq13 : q13 ≤ 3900 := by have h := S13.1; rw [length_wd] at h; have i7 := HM.out; have i8 := HO.out; have i9 := nbits_of_lt M 769 HML.out; have i10 := nbits_of_lt O 769 HOL.out; have i1 := nbits_mono (Nat.mod_le (natOf l0) M); omega
              go_wp2_with fail
              refine (bJac x1 S13.in_ S3.in_ ((jac_left _ _).trans HJ1.out) HM.out (by omega) (by omega) (HLd.out.below B42)).mono ?_
              rintro e w43 ⟨rfl, b43⟩
              have B43 := below_step B42 b43
              have P0 := P0.step b43
              have P1 := P1.step b43
              have P2 := P2.step b43
              have P3 := P3.step b43
              have S3 := S3.step b43
              have S7 := S7.step b43
              have S13 := S13.step b43
              clear S13
              go_wp2_with fail
              refine (bJac y1 S7.in_ S3.in_ HK1.out HM.out (by omega) (by omega) (HLd.out.below B43)).mono ?_
              rintro e w44 ⟨rfl, b44⟩
              have B44 := below_step B43 b44
              have P0 := P0.step b44
              have P1 := P1.step b44
              have P2 := P2.step b44
              have P3 := P3.step b44
              have S3 := S3.step b44
              have S7 := S7.step b44
              go_wp2_with fail
              refine (bJac y2 S3.in_ S7.in_ HK2.out HO.out (by omega) (by omega) (HLd.out.below B44)).mono ?_
              rintro e w45 ⟨rfl, b45⟩
              have B45 := below_step B44 b45
              have P0 := P0.step b45
              have P1 := P1.step b45
              have P2 := P2.step b45
              have P3 := P3.step b45
              have S3 := S3.step b45
              have S7 := S7.step b45
              have hzm := natIs_pos8 S3 (by have := HM.out; omega)
              have hzo := natIs_pos8 S7 (by have := HO.out; omega)
              have hqm := natIs_some8 S3 (by have := HM.out; omega)
              have hqo := natIs_some8 S7 (by have := HO.out; omega)
              obtain ⟨g1, o1, rfl, hc1⟩ := natIs_cell8 S3 (by have := HM.out; omega)
              obtain ⟨g2, o2, rfl, hc2⟩ := natIs_cell8 S7 (by have := HO.out; omega)
              have hw1 := word_four8 M true HM4.out
              have hw2 := word_four8 O false HO4.out
              have hl1 := word_lt8 M
              have hl2 := word_lt8 O
              generalize M % 18446744073709551616 = z1 at hc1 hw1 hl1
              generalize O % 18446744073709551616 = z2 at hc2 hw2 hl2
              go_wp2_with fail
              refine (powWorks_any _ (HLd.out.below B45)).mono ?_
              rintro e w46 ⟨rfl, b46⟩
              have B46 := below_step B45 b46
              go_wp2_with fail
              go_ret
              exact ⟨rfl, B46⟩
          · have HM4 := Lib.hid (show decide (M % 4 = 3) = false by simpa using hm4)
            by_cases ho4 : O % 4 = 3
            · have HO4 := Lib.hid (show decide (O % 4 = 3) = true by simpa using ho4)
              rw [if_neg (by omega)] at qs
              rw [qs] at qz
              clear hm4 ho4
              go_enter Tryd.func6, Tryd.ntmps6
              go_wp2_with fail
              refine (bShl P2.in_ 1 (by omega)).mono ?_
              rintro e w1 ⟨X1, q1, d1, rfl, S1, _, b1⟩
              have B1 := b1
              have P0 := P0.step b1
              have P1 := P1.step b1
              have P2 := P2.step b1
              have P3 := P3.step b1
              have S1 := natIs_eq S1 (shl3 (natOf l2) 1 (by omega))
              have hq1 : q1 ≤ 3900 := by have h := S1.1; rw [length_wd] at h; have i1 := nbits_shl (natOf l2) 1; omega
              go_wp2_with fail
              refine (hN8 w1 1 _ rfl (by omega)).mono ?_
              rintro e w2 ⟨X2, q2, d2, rfl, S2, _, b2⟩
              have B2 := below_step B1 b2
              have P0 := P0.step b2
              have P1 := P1.step b2
              have P2 := P2.step b2
              have P3 := P3.step b2
              have S1 := S1.step b2
              have hq2 := natIs_small8 S2 (by omega)
              go_wp2_with fail
              refine (bAdd S1.in_ S2.in_ (by omega)).mono ?_
              rintro e w3 ⟨X3, q3, d3, rfl, S3, _, b3⟩
              have B3 := below_step B2 b3
              have P0 := P0.step b3
              have P1 := P1.step b3
              have P2 := P2.step b3
              have P3 := P3.step b3
              have S1 := S1.step b3
              have S2 := S2.step b3
              have S3 := natIs_eq S3 (HQ1.out)
              have hq3 : q3 ≤ 3900 := by have h := S3.1; rw [length_wd] at h; have i1 := nbits_shl (natOf l2) 1; have i2 := nbits_add (2 ^ 1 * natOf l2) 1; rw [nbits_one, HQ1.out] at i2; omega
              clear S1 S2
              go_wp2_with fail
              refine (bShl P3.in_ 1 (by omega)).mono ?_
              rintro e w11 ⟨X5, q5, d5, rfl, S5, _, b11⟩
              have B11 := below_step B3 b11
              have P0 := P0.step b11
              have P1 := P1.step b11
              have P2 := P2.step b11
              have P3 := P3.step b11
              have S3 := S3.step b11
              have S5 := natIs_eq S5 (shl3 (natOf l3) 1 (by omega))
              have hq5 : q5 ≤ 3900 := by have h := S5.1; rw [length_wd] at h; have i1 := nbits_shl (natOf l3) 1; omega
              go_wp2_with fail
              refine (hN8 w11 1 _ rfl (by omega)).mono ?_
              rintro e w12 ⟨X6, q6, d6, rfl, S6, _, b12⟩
              have B12 := below_step B11 b12
              have P0 := P0.step b12
              have P1 := P1.step b12
              have P2 := P2.step b12
              have P3 := P3.step b12
              have S3 := S3.step b12
              have S5 := S5.step b12
              have hq6 := natIs_small8 S6 (by omega)
              go_wp2_with fail
              refine (bAdd S5.in_ S6.in_ (by omega)).mono ?_
              rintro e w13 ⟨X7, q7, d7, rfl, S7, _, b13⟩
              have B13 := below_step B12 b13
              have P0 := P0.step b13
              have P1 := P1.step b13
              have P2 := P2.step b13
              have P3 := P3.step b13
              have S3 := S3.step b13
              have S5 := S5.step b13
              have S6 := S6.step b13
              have S7 := natIs_eq S7 (HQ5.out)
              have hq7 : q7 ≤ 3900 := by have h := S7.1; rw [length_wd] at h; have i1 := nbits_shl (natOf l3) 1; have i2 := nbits_add (2 ^ 1 * natOf l3) 1; rw [nbits_one, HQ5.out] at i2; omega
              clear S5 S6
              go_wp2_with fail
              refine (bJac x1 P0.in_ S3.in_ HJ1.out HM.out (by omega) (by omega) (HLd.out.below B13)).mono ?_
              rintro e w21 ⟨rfl, b21⟩
              have B21 := below_step B13 b21
              have P0 := P0.step b21
              have P1 := P1.step b21
              have P2 := P2.step b21
              have P3 := P3.step b21
              have S3 := S3.step b21
              have S7 := S7.step b21
              go_wp2_with fail
              refine (bJac x2 P1.in_ S3.in_ HJ2.out HM.out (by omega) (by omega) (HLd.out.below B21)).mono ?_
              rintro e w22 ⟨rfl, b22⟩
              have B22 := below_step B21 b22
              have P0 := P0.step b22
              have P1 := P1.step b22
              have P2 := P2.step b22
              have P3 := P3.step b22
              have S3 := S3.step b22
              have S7 := S7.step b22
              go_wp2_with fail
              refine (bMul P0.in_ P1.in_ (by omega) (by omega)).mono ?_
              rintro e w23 ⟨X11, q11, d11, rfl, S11, _, b23⟩
              have B23 := below_step B22 b23
              have P0 := P0.step b23
              have P1 := P1.step b23
              have P2 := P2.step b23
              have P3 := P3.step b23
              have S3 := S3.step b23
              have S7 := S7.step b23
              have hq11 : q11 ≤ 3900 := by have h := S11.1; rw [length_wd] at h; have i1 := nbits_mul (natOf l0) (natOf l1); omega
              go_wp2_with fail
              refine (bJac x3 S11.in_ S3.in_ HJ3.out HM.out (by omega) (by omega) (HLd.out.below B23)).mono ?_
              rintro e w31 ⟨rfl, b31⟩
              have B31 := below_step B23 b31
              have P0 := P0.step b31
              have P1 := P1.step b31
              have P2 := P2.step b31
              have P3 := P3.step b31
              have S3 := S3.step b31
              have S7 := S7.step b31
              have S11 := S11.step b31
              clear S11
              go_wp2_with fail
              refine (bJac x4 P0.in_ S7.in_ HJ4.out HO.out (by omega) (by omega) (HLd.out.below B31)).mono ?_
              rintro e w32 ⟨rfl, b32⟩
              have B32 := below_step B31 b32
              have P0 := P0.step b32
              have P1 := P1.step b32
              have P2 := P2.step b32
              have P3 := P3.step b32
              have S3 := S3.step b32
              have S7 := S7.step b32
              go_wp2_with fail
              refine (bMul S3.in_ S7.in_ (by omega) (by omega)).mono ?_
              rintro e w33 ⟨X12, q12, d12, rfl, S12, _, b33⟩
              have B33 := below_step B32 b33
              have P0 := P0.step b33
              have P1 := P1.step b33
              have P2 := P2.step b33
              have P3 := P3.step b33
              have S3 := S3.step b33
              have S7 := S7.step b33
              have hq12 : q12 ≤ 3900 := by have h := S12.1; rw [length_wd] at h; have i7 := HM.out; have i8 := HO.out; have i9 := nbits_of_lt M 769 HML.out; have i10 := nbits_of_lt O 769 HOL.out; have i1 := nbits_mul M O; omega
              go_wp2_with fail
              refine (bJac x5 P0.in_ S12.in_ HJ5.out (by rw [Nat.mul_mod, HM.out, HO.out]) (by omega) (by omega) (HLd.out.below B33)).mono ?_
              rintro e w41 ⟨rfl, b41⟩
              have B41 := below_step B33 b41
              have P0 := P0.step b41
              have P1 := P1.step b41
              have P2 := P2.step b41
              have P3 := P3.step b41
              have S3 := S3.step b41
              have S7 := S7.step b41
              have S12 := S12.step b41
              clear S12
              go_wp2_with fail
              refine (bMod_is (natOf l0 % M) P0.in_ S3.in_ rfl (by have := HM.out; omega) (by omega) (by omega)).mono ?_
              rintro e w42 ⟨X13, q13, d13, rfl, S13, b42⟩
              have B42 := below_step B41 b42
              have P0 := P0.step b42
              have P1 := P1.step b42
              have P2 := P2.step b42
              have P3 := P3.step b42
              have S3 := S3.step b42
              have S7 := S7.step b42
              have hq13 : q13 ≤ 3900 := by have h := S13.1; rw [length_wd] at h; have i7 := HM.out; have i8 := HO.out; have i9 := nbits_of_lt M 769 HML.out; have i10 := nbits_of_lt O 769 HOL.out; have i1 := nbits_mono (Nat.mod_le (natOf l0) M); omega
              go_wp2_with fail
              refine (bJac x1 S13.in_ S3.in_ ((jac_left _ _).trans HJ1.out) HM.out (by omega) (by omega) (HLd.out.below B42)).mono ?_
              rintro e w43 ⟨rfl, b43⟩
              have B43 := below_step B42 b43
              have P0 := P0.step b43
              have P1 := P1.step b43
              have P2 := P2.step b43
              have P3 := P3.step b43
              have S3 := S3.step b43
              have S7 := S7.step b43
              have S13 := S13.step b43
              clear S13
              go_wp2_with fail
              refine (bJac y1 S7.in_ S3.in_ HK1.out HM.out (by omega) (by omega) (HLd.out.below B43)).mono ?_
              rintro e w44 ⟨rfl, b44⟩
              have B44 := below_step B43 b44
              have P0 := P0.step b44
              have P1 := P1.step b44
              have P2 := P2.step b44
              have P3 := P3.step b44
              have S3 := S3.step b44
              have S7 := S7.step b44
              go_wp2_with fail
              refine (bJac y2 S3.in_ S7.in_ HK2.out HO.out (by omega) (by omega) (HLd.out.below B44)).mono ?_
              rintro e w45 ⟨rfl, b45⟩
              have B45 := below_step B44 b45
              have P0 := P0.step b45
              have P1 := P1.step b45
              have P2 := P2.step b45
              have P3 := P3.step b45
              have S3 := S3.step b45
              have S7 := S7.step b45
              have hzm := natIs_pos8 S3 (by have := HM.out; omega)
              have hzo := natIs_pos8 S7 (by have := HO.out; omega)
              have hqm := natIs_some8 S3 (by have := HM.out; omega)
              have hqo := natIs_some8 S7 (by have := HO.out; omega)
              obtain ⟨g1, o1, rfl, hc1⟩ := natIs_cell8 S3 (by have := HM.out; omega)
              obtain ⟨g2, o2, rfl, hc2⟩ := natIs_cell8 S7 (by have := HO.out; omega)
              have hw1 := word_four8 M false HM4.out
              have hw2 := word_four8 O true HO4.out
              have hl1 := word_lt8 M
              have hl2 := word_lt8 O
              generalize M % 18446744073709551616 = z1 at hc1 hw1 hl1
              generalize O % 18446744073709551616 = z2 at hc2 hw2 hl2
              go_wp2_with fail
              refine (powWorks_any _ (HLd.out.below B45)).mono ?_
              rintro e w46 ⟨rfl, b46⟩
              have B46 := below_step B45 b46
              go_wp2_with fail
              go_ret
              exact ⟨rfl, B46⟩
            · have HO4 := Lib.hid (show decide (O % 4 = 3) = false by simpa using ho4)
              rw [if_neg (by omega)] at qs
              rw [qs] at qz
              clear hm4 ho4
              go_enter Tryd.func6, Tryd.ntmps6
              go_wp2_with fail
              refine (bShl P2.in_ 1 (by omega)).mono ?_
              rintro e w1 ⟨X1, q1, d1, rfl, S1, _, b1⟩
              have B1 := b1
              have P0 := P0.step b1
              have P1 := P1.step b1
              have P2 := P2.step b1
              have P3 := P3.step b1
              have S1 := natIs_eq S1 (shl3 (natOf l2) 1 (by omega))
              have hq1 : q1 ≤ 3900 := by have h := S1.1; rw [length_wd] at h; have i1 := nbits_shl (natOf l2) 1; omega
              go_wp2_with fail
              refine (hN8 w1 1 _ rfl (by omega)).mono ?_
              rintro e w2 ⟨X2, q2, d2, rfl, S2, _, b2⟩
              have B2 := below_step B1 b2
              have P0 := P0.step b2
              have P1 := P1.step b2
              have P2 := P2.step b2
              have P3 := P3.step b2
              have S1 := S1.step b2
              have hq2 := natIs_small8 S2 (by omega)
              go_wp2_with fail
              refine (bAdd S1.in_ S2.in_ (by omega)).mono ?_
              rintro e w3 ⟨X3, q3, d3, rfl, S3, _, b3⟩
              have B3 := below_step B2 b3
              have P0 := P0.step b3
              have P1 := P1.step b3
              have P2 := P2.step b3
              have P3 := P3.step b3
              have S1 := S1.step b3
              have S2 := S2.step b3
              have S3 := natIs_eq S3 (HQ1.out)
              have hq3 : q3 ≤ 3900 := by have h := S3.1; rw [length_wd] at h; have i1 := nbits_shl (natOf l2) 1; have i2 := nbits_add (2 ^ 1 * natOf l2) 1; rw [nbits_one, HQ1.out] at i2; omega
              clear S1 S2
              go_wp2_with fail
              refine (bShl P3.in_ 1 (by omega)).mono ?_
              rintro e w11 ⟨X5, q5, d5, rfl, S5, _, b11⟩
              have B11 := below_step B3 b11
              have P0 := P0.step b11
              have P1 := P1.step b11
              have P2 := P2.step b11
              have P3 := P3.step b11
              have S3 := S3.step b11
              have S5 := natIs_eq S5 (shl3 (natOf l3) 1 (by omega))
              have hq5 : q5 ≤ 3900 := by have h := S5.1; rw [length_wd] at h; have i1 := nbits_shl (natOf l3) 1; omega
              go_wp2_with fail
              refine (hN8 w11 1 _ rfl (by omega)).mono ?_
              rintro e w12 ⟨X6, q6, d6, rfl, S6, _, b12⟩
              have B12 := below_step B11 b12
              have P0 := P0.step b12
              have P1 := P1.step b12
              have P2 := P2.step b12
              have P3 := P3.step b12
              have S3 := S3.step b12
              have S5 := S5.step b12
              have hq6 := natIs_small8 S6 (by omega)
              go_wp2_with fail
              refine (bAdd S5.in_ S6.in_ (by omega)).mono ?_
              rintro e w13 ⟨X7, q7, d7, rfl, S7, _, b13⟩
              have B13 := below_step B12 b13
              have P0 := P0.step b13
              have P1 := P1.step b13
              have P2 := P2.step b13
              have P3 := P3.step b13
              have S3 := S3.step b13
              have S5 := S5.step b13
              have S6 := S6.step b13
              have S7 := natIs_eq S7 (HQ5.out)
              have hq7 : q7 ≤ 3900 := by have h := S7.1; rw [length_wd] at h; have i1 := nbits_shl (natOf l3) 1; have i2 := nbits_add (2 ^ 1 * natOf l3) 1; rw [nbits_one, HQ5.out] at i2; omega
              clear S5 S6
              go_wp2_with fail
              refine (bJac x1 P0.in_ S3.in_ HJ1.out HM.out (by omega) (by omega) (HLd.out.below B13)).mono ?_
              rintro e w21 ⟨rfl, b21⟩
              have B21 := below_step B13 b21
              have P0 := P0.step b21
              have P1 := P1.step b21
              have P2 := P2.step b21
              have P3 := P3.step b21
              have S3 := S3.step b21
              have S7 := S7.step b21
              go_wp2_with fail
              refine (bJac x2 P1.in_ S3.in_ HJ2.out HM.out (by omega) (by omega) (HLd.out.below B21)).mono ?_
              rintro e w22 ⟨rfl, b22⟩
              have B22 := below_step B21 b22
              have P0 := P0.step b22
              have P1 := P1.step b22
              have P2 := P2.step b22
              have P3 := P3.step b22
              have S3 := S3.step b22
              have S7 := S7.step b22
              go_wp2_with fail
              refine (bMul P0.in_ P1.in_ (by omega) (by omega)).mono ?_
              rintro e w23 ⟨X11, q11, d11, rfl, S11, _, b23⟩
              have B23 := below_step B22 b23
              have P0 := P0.step b23
              have P1 := P1.step b23
              have P2 := P2.step b23
              have P3 := P3.step b23
              have S3 := S3.step b23
              have S7 := S7.step b23
              have hq11 : q11 ≤ 3900 := by have h := S11.1; rw [length_wd] at h; have i1 := nbits_mul (natOf l0) (natOf l1); omega
              go_wp2_with fail
              refine (bJac x3 S11.in_ S3.in_ HJ3.out HM.out (by omega) (by omega) (HLd.out.below B23)).mono ?_
              rintro e w31 ⟨rfl, b31⟩
              have B31 := below_step B23 b31
              have P0 := P0.step b31
              have P1 := P1.step b31
              have P2 := P2.step b31
              have P3 := P3.step b31
              have S3 := S3.step b31
              have S7 := S7.step b31
              have S11 := S11.step b31
              clear S11
              go_wp2_with fail
              refine (bJac x4 P0.in_ S7.in_ HJ4.out HO.out (by omega) (by omega) (HLd.out.below B31)).mono ?_
              rintro e w32 ⟨rfl, b32⟩
              have B32 := below_step B31 b32
              have P0 := P0.step b32
              have P1 := P1.step b32
              have P2 := P2.step b32
              have P3 := P3.step b32
              have S3 := S3.step b32
              have S7 := S7.step b32
              go_wp2_with fail
              refine (bMul S3.in_ S7.in_ (by omega) (by omega)).mono ?_
              rintro e w33 ⟨X12, q12, d12, rfl, S12, _, b33⟩
              have B33 := below_step B32 b33
              have P0 := P0.step b33
              have P1 := P1.step b33
              have P2 := P2.step b33
              have P3 := P3.step b33
              have S3 := S3.step b33
              have S7 := S7.step b33
              have hq12 : q12 ≤ 3900 := by have h := S12.1; rw [length_wd] at h; have i7 := HM.out; have i8 := HO.out; have i9 := nbits_of_lt M 769 HML.out; have i10 := nbits_of_lt O 769 HOL.out; have i1 := nbits_mul M O; omega
              go_wp2_with fail
              refine (bJac x5 P0.in_ S12.in_ HJ5.out (by rw [Nat.mul_mod, HM.out, HO.out]) (by omega) (by omega) (HLd.out.below B33)).mono ?_
              rintro e w41 ⟨rfl, b41⟩
              have B41 := below_step B33 b41
              have P0 := P0.step b41
              have P1 := P1.step b41
              have P2 := P2.step b41
              have P3 := P3.step b41
              have S3 := S3.step b41
              have S7 := S7.step b41
              have S12 := S12.step b41
              clear S12
              go_wp2_with fail
              refine (bMod_is (natOf l0 % M) P0.in_ S3.in_ rfl (by have := HM.out; omega) (by omega) (by omega)).mono ?_
              rintro e w42 ⟨X13, q13, d13, rfl, S13, b42⟩
              have B42 := below_step B41 b42
              have P0 := P0.step b42
              have P1 := P1.step b42
              have P2 := P2.step b42
              have P3 := P3.step b42
              have S3 := S3.step b42
              have S7 := S7.step b42
              have hq13 : q13 ≤ 3900 := by have h := S13.1; rw [length_wd] at h; have i7 := HM.out; have i8 := HO.out; have i9 := nbits_of_lt M 769 HML.out; have i10 := nbits_of_lt O 769 HOL.out; have i1 := nbits_mono (Nat.mod_le (natOf l0) M); omega
              go_wp2_with fail
              refine (bJac x1 S13.in_ S3.in_ ((jac_left _ _).trans HJ1.out) HM.out (by omega) (by omega) (HLd.out.below B42)).mono ?_
              rintro e w43 ⟨rfl, b43⟩
              have B43 := below_step B42 b43
              have P0 := P0.step b43
              have P1 := P1.step b43
              have P2 := P2.step b43
              have P3 := P3.step b43
              have S3 := S3.step b43
              have S7 := S7.step b43
              have S13 := S13.step b43
              clear S13
              go_wp2_with fail
              refine (bJac y1 S7.in_ S3.in_ HK1.out HM.out (by omega) (by omega) (HLd.out.below B43)).mono ?_
              rintro e w44 ⟨rfl, b44⟩
              have B44 := below_step B43 b44
              have P0 := P0.step b44
              have P1 := P1.step b44
              have P2 := P2.step b44
              have P3 := P3.step b44
              have S3 := S3.step b44
              have S7 := S7.step b44
              go_wp2_with fail
              refine (bJac y2 S3.in_ S7.in_ HK2.out HO.out (by omega) (by omega) (HLd.out.below B44)).mono ?_
              rintro e w45 ⟨rfl, b45⟩
              have B45 := below_step B44 b45
              have P0 := P0.step b45
              have P1 := P1.step b45
              have P2 := P2.step b45
              have P3 := P3.step b45
              have S3 := S3.step b45
              have S7 := S7.step b45
              have hzm := natIs_pos8 S3 (by have := HM.out; omega)
              have hzo := natIs_pos8 S7 (by have := HO.out; omega)
              have hqm := natIs_some8 S3 (by have := HM.out; omega)
              have hqo := natIs_some8 S7 (by have := HO.out; omega)
              obtain ⟨g1, o1, rfl, hc1⟩ := natIs_cell8 S3 (by have := HM.out; omega)
              obtain ⟨g2, o2, rfl, hc2⟩ := natIs_cell8 S7 (by have := HO.out; omega)
              have hw1 := word_four8 M false HM4.out
              have hw2 := word_four8 O false HO4.out
              have hl1 := word_lt8 M
              have hl2 := word_lt8 O
              generalize M % 18446744073709551616 = z1 at hc1 hw1 hl1
              generalize O % 18446744073709551616 = z2 at hc2 hw2 hl2
              go_wp2_with fail
              refine (powWorks_any _ (HLd.out.below B45)).mono ?_
              rintro e w46 ⟨rfl, b46⟩
              have B46 := below_step B45 b46
              go_wp2_with fail
              go_ret
              exact ⟨rfl, B46⟩
end Go.Proofs.YtabcmdhjbjioiaaDoor

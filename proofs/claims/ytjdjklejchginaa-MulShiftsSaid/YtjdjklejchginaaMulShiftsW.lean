/- MulShifts' walk: it answers true, and writes nothing that was there. No condition but what the arguments' types give. -/
import Derived.Test.YtjdjklejchginaaMulB
namespace Go.Proofs.Ytjdjklejchginaa
open Go.RowKit


set_option maxHeartbeats 1000000 in
set_option maxRecDepth 100000 in
theorem mulShifts_walk (A0 : Option Addr) (c0 : Nat) (l0 : List Nat) (a1 : Int) (w : World) (r0 : Rd .u64 w w.heap.size A0 l0) (y0 : Words l0) (_z0 : l0.length * 8 ≤ 140737488351232) (u0 : l0.length ≤ c0) (w1 : (Lit.int .u16 a1).wf = true) :
    Calls Try.prog 5 #[.slice A0 l0.length c0, .int .u16 a1] w fun e w' => e = .returned (.bool true) ∧ Below w.heap.size w w' := by
  have hx : 0 ≤ a1 ∧ a1 ≤ 65535 := by simpa [Lit.wf, IntKind.min, IntKind.max, IntKind.signed, IntKind.bits] using w1
  obtain ⟨k, rfl⟩ := Int.eq_ofNat_of_zero_le hx.1
  have hk : k ≤ 65535 := by omega
  clear hx w1
  by_cases hv : 130 < l0.length
  · have hvd : decide (130 < (l0.length : Int)) = true := by simp; omega
    go_enter Try.func5, Try.ntmps5
    go_wp2_with fail
    refine (mulWorks_any _).mono ?_
    rintro e w1 ⟨rfl, b1⟩
    have B1 := b1
    go_wp2_with fail
    go_ret
    exact ⟨rfl, B1⟩
  · have P0 : RowIs w A0 l0.length c0 l0 := ⟨rfl, y0, by omega, r0, u0⟩
    have hvd : decide (130 < (l0.length : Int)) = false := by simp; omega
    obtain ⟨j, hj⟩ : ∃ j : Nat, (k : Int) % 9000 = (j : Int) := ⟨k % 9000, by omega⟩
    have hj2 : j < 9000 := by omega
    clear r0 y0
    go_enter Try.func5, Try.ntmps5
    go_wp2_with fail
    refine (OutN_made (bShl (natIn_one w) (j : Int) (by omega))).mono ?_
    rintro e w1 ⟨X1, q1, d1, rfl, S1, _, b1⟩
    have B1 := b1
    have P0 := P0.step b1
    have S1 := natIs_eq S1 (shl3 1 j (by omega))
    have hq1 : q1 ≤ 9000 := by have h := S1.1; rw [length_wd] at h; have n0 := P0.in_.bits; have u1 := nbits_shl 1 j; rw [nbits_one] at u1; have u0 := nbits_shl (natOf l0) j; omega
    go_wp2_with fail
    refine (sub_made S1.in_ (by have := Nat.pow_pos (n := j) (show 0 < 2 by omega); omega)).mono ?_
    rintro e w2 ⟨X2, q2, d2, rfl, S2, b2⟩
    have B2 := below_step B1 b2
    have P0 := P0.step b2
    have S1 := S1.step b2
    have hq2 : q2 ≤ 9000 := by have h := S2.1; rw [length_wd] at h; have n0 := P0.in_.bits; have u1 := nbits_shl 1 j; rw [nbits_one] at u1; have u0 := nbits_shl (natOf l0) j; have := nbits_mono (Nat.sub_le (2 ^ j * 1) 1); omega
    go_wp2_with fail
    refine (bShl P0.in_ (j : Int) (by omega)).mono ?_
    rintro e w3 ⟨X3, q3, d3, rfl, S3, _, b3⟩
    have B3 := below_step B2 b3
    have P0 := P0.step b3
    have S1 := S1.step b3
    have S2 := S2.step b3
    have S3 := natIs_eq S3 (shl3 (natOf l0) j (by omega))
    have hq3 : q3 ≤ 9000 := by have h := S3.1; rw [length_wd] at h; have n0 := P0.in_.bits; have u1 := nbits_shl 1 j; rw [nbits_one] at u1; have u0 := nbits_shl (natOf l0) j; omega
    go_wp2_with fail
    refine (sub_is S3.in_ P0.in_ (Nat.le_mul_of_pos_left _ (Nat.pow_pos (by omega)))).mono ?_
    rintro e w4 ⟨X4, q4, d4, rfl, S4, b4⟩
    have B4 := below_step B3 b4
    have P0 := P0.step b4
    have S1 := S1.step b4
    have S2 := S2.step b4
    have S3 := S3.step b4
    go_wp2_with fail
    refine (bMul S1.in_ P0.in_ (by omega) (by omega)).mono ?_
    rintro e w5 ⟨X5, q5, d5, rfl, S5, _, b5⟩
    have B5 := below_step B4 b5
    have P0 := P0.step b5
    have S1 := S1.step b5
    have S2 := S2.step b5
    have S3 := S3.step b5
    have S4 := S4.step b5
    have S5 := natIs_eq S5 (by rw [Nat.mul_one])
    go_wp2_with fail
    refine (bSame S5 S3).mono ?_
    rintro e w6 ⟨rfl, b6⟩
    have B6 := below_step B5 b6
    have P0 := P0.step b6
    have S1 := S1.step b6
    have S2 := S2.step b6
    have S3 := S3.step b6
    have S4 := S4.step b6
    have S5 := S5.step b6
    clear S5 S3 S1
    go_wp2_with fail
    refine (bMul P0.in_ S2.in_ (by omega) (by omega)).mono ?_
    rintro e w7 ⟨X6, q6, d6, rfl, S6, _, b7⟩
    have B7 := below_step B6 b7
    have P0 := P0.step b7
    have S2 := S2.step b7
    have S4 := S4.step b7
    have S6 := natIs_eq S6 (show natOf l0 * (2 ^ j * 1 - 1) = 2 ^ j * natOf l0 - natOf l0 by rw [Nat.mul_one, Nat.mul_sub, Nat.mul_one, Nat.mul_comm])
    go_wp2_with fail
    refine (bSame S6 S4).mono ?_
    rintro e w8 ⟨rfl, b8⟩
    have B8 := below_step B7 b8
    have P0 := P0.step b8
    have S2 := S2.step b8
    have S4 := S4.step b8
    have S6 := S6.step b8
    clear S6 S4 S2
    go_wp2_with fail
    refine (mulWorks_any _).mono ?_
    rintro e w9 ⟨rfl, b9⟩
    have B9 := below_step B8 b9
    go_wp2_with fail
    go_ret
    exact ⟨rfl, B9⟩

end Go.Proofs.Ytjdjklejchginaa

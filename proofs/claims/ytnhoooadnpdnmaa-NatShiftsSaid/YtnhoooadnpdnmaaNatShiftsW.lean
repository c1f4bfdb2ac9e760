/- NatShifts' walk: it answers true, and writes nothing that was there. No condition but what the arguments' types give. -/
import Derived.Test.YtnhoooadnpdnmaaNatLawsW
namespace Go.Proofs.Ytnhoooadnpdnmaa
open Go.RowKit

theorem shlS_out (M : Nat) (k : Int) (h : k < 0 ∨ 65536 < k) : shlS M k = 0 := by unfold shlS; rw [if_neg (by omega)]
theorem shrS_out (M : Nat) (k : Int) (h : k < 0 ∨ 65536 < k) : shrS M k = 0 := by unfold shrS; rw [if_neg (by omega)]
theorem shlS_zero (M : Nat) : shlS M 0 = M := by
  have := shlS_nat M 0 (by omega)
  rw [show ((0 : Nat) : Int) = 0 from rfl, Nat.pow_zero, Nat.one_mul] at this
  exact this
theorem shrS_zero (M : Nat) : shrS M 0 = M := by
  have := shrS_nat M 0 (by omega)
  rw [show ((0 : Nat) : Int) = 0 from rfl, Nat.pow_zero, Nat.div_one] at this
  exact this
section
variable {w : World} {A : Option Addr} {n d M : Nat}
theorem bShiftUp (h : NumIs w A n d M) (k : Nat) (hn : n ≤ 5000) (hk : k ≤ 65536) : Calls Try.prog 29 #[.slice A n d, .int .i64 k] w (OutD (2 ^ k * M) w) := by
  obtain ⟨rfl, h2, h3, h4⟩ := h
  have := nbits_shl M k
  exact Calls.mono (shiftUp_any A d M k w h4 (by omega) (by omega)) fun _ _ h => h.out (by omega)
theorem bShift0 (h : NumIs w A n d M) (hn : n ≤ 5000) : Calls Try.prog 29 #[.slice A n d, .int .i64 0] w (OutD M w) := by
  have h' := bShiftUp h 0 hn (by omega)
  rw [Nat.pow_zero, Nat.one_mul] at h'
  exact h'
theorem bShiftDown (h : NumIs w A n d M) (k : Nat) (hn : n ≤ 5000) (hk : k ≤ 65536) (h0 : 0 < k) : Calls Try.prog 29 #[.slice A n d, .int .i64 (-(k : Int))] w (OutD (M / 2 ^ k) w) := by
  obtain ⟨rfl, h2, h3, h4⟩ := h
  have := nbits_mono (Nat.div_le_self M (2 ^ k))
  exact Calls.mono (shiftDown_any A d M k w h4 (by omega) (by omega) h0 h2) fun _ _ h => h.out (by omega)
theorem NumIs.cell (h : NumIs w A n d M) {j : Nat} (hj : j < n) : ∃ b o, A = some ⟨b, o, none⟩ ∧ w.cell? ⟨b, o + j, none⟩ = some (.int .u8 (bit M j : Int)) := by
  obtain ⟨rfl, _, _, h4⟩ := h
  obtain ⟨b, o, rfl, _, hc⟩ := h4 (by rw [length_dg]; omega)
  exact ⟨b, o, rfl, by rw [hc j (by rw [length_dg]; exact hj), nth_dg_bit]⟩
end
theorem bitS_in (M j : Nat) : bitS M (j : Int) = bit M j := by unfold bitS; rw [if_neg (by omega), Int.toNat_natCast]
theorem bitS_over (M j : Nat) (h : nbits M ≤ j) : bitS M (j : Int) = 0 := by
  rw [bitS_in]
  have := nth_over_bits (dg M) (dg_01 M) j (by rw [bv_dg]; exact h)
  rwa [nth_dg_bit] at this
theorem bitS_neg (M : Nat) (i : Int) (h : i < 0) : bitS M i = 0 := by unfold bitS; rw [if_pos h]

set_option maxHeartbeats 1000000 in
set_option maxRecDepth 100000 in
theorem natShifts_neg_in (A0 : Option Addr) (c0 : Nat) (l0 : List Nat) (w : World) (P0 : RowIs w A0 l0.length c0 l0) (hv : ¬ 40 < l0.length) (k : Int) (hk : k < 0) (j : Nat) (hj : j < nbits (natOf l0)) (hub : MaxI (j : Int)) :
    Calls Try.prog 5 #[.slice A0 l0.length c0, .int .i64 k, .int .i64 (j : Int)] w fun e w' => e = .returned (.bool true) ∧ Below w.heap.size w w' := by
  have HK := Lib.hid (show k < 0 ∨ 65536 < k from .inl hk)
  have HJ := Lib.hid hj
  have HBS := Lib.hid (bitS_in (natOf l0) j)
  clear hj
  go_enter Try.func5, Try.ntmps5
  go_wp2_with fail
  refine (vast_no _ _ _ _ (by omega)).mono ?_
  rintro e w1 ⟨rfl, rfl⟩
  go_wp2_with fail
  refine (bDigits (c := c0) P0.in_).mono ?_
  rintro e w1 ⟨X1, n1, d1, rfl, D1, b1⟩
  have B1 := b1
  have P0 := P0.step b1
  have hn1 : n1 = nbits (natOf l0) := D1.1
  have hn1b : n1 ≤ 5000 := by have := P0.in_.bits; omega
  have HN1 := Lib.hid hn1
  clear hn1
  go_wp2_with fail
  refine (bCopy (c := c0) P0).mono ?_
  rintro e w2 ⟨X2, d2, rfl, P2, b2⟩
  have B2 := below_step B1 b2
  have P0 := P0.step b2
  have D1 := D1.step b2
  have P02 := P2
  have P00 := P0
  have B02 := B2
  go_wp2_with fail
  refine (bShl (c := d2) P2.in_ k (by omega)).mono ?_
  rintro e w3 ⟨X3, q3, d3, rfl, S3, T3, b3⟩
  have B3 := below_step B2 b3
  have C3 := b3
  have P0 := P0.step b3
  have D1 := D1.step b3
  have P2 := P2.step b3
  have T03 := T3
  have hq3 := S3.2.1
  go_wp2_with fail
  refine (bShr (c := d2) P2.in_ k).mono ?_
  rintro e w4 ⟨X4, q4, d4, rfl, S4, T4, b4⟩
  have B4 := below_step B3 b4
  have C4 := below_step C3 b4
  have P0 := P0.step b4
  have D1 := D1.step b4
  have P2 := P2.step b4
  have S3 := S3.step b4
  have T3 := T3.step b4
  have hq4 := S4.2.1
  have e3 : q3 = 0 := by have h := S3.1; rw [shlS_out _ _ HK.out, wd_zero] at h; exact h.symm
  have e4 : q4 = 0 := by have h := S4.1; rw [shrS_out _ _ HK.out, wd_zero] at h; exact h.symm
  clear S3 S4
  subst e3
  subst e4
  clear hq3 hq4
  have hjn : j < n1 := by rw [HN1.out]; exact HJ.out
  obtain ⟨xb, xo, hX1, hxc⟩ := D1.cell hjn
  subst hX1
  have hbl := bit_lt (natOf l0) j
  clear D1
  clear P0 P2
  go_wp2_with fail
  go_loopw [12] (fun j wr => j = .int .i64 0 ∧ w4 = wr) (fun _ _ => 0)
  case atStart => exact ⟨rfl, rfl⟩
  case round =>
    obtain ⟨rfl, rfl⟩ := hrel
    have Bw2 := B4
    have B6w := C4
    go_wp2_with fail
    go_loopw [13] (fun j wr => j = .int .i64 0 ∧ w4 = wr) (fun _ _ => 0)
    case atStart => exact ⟨rfl, rfl⟩
    case round =>
      obtain ⟨rfl, rfl⟩ := hrel
      have Q2 := P02.step B6w
      have Q0 := P00.step B6w
      have hBt := bBits (c := d2) Q2.in_
      rw [← HN1.out] at hBt
      have HBt := Lib.hid hBt
      clear hBt
      go_wp2_with fail
      refine (HBt.out).mono ?_
      rintro e w21 ⟨rfl, b21⟩
      have B21 := below_step Bw2 b21
      have Q2 := Q2.step b21
      have Q0 := Q0.step b21
      clear HBt
      have hBi := bBit (c := d2) Q2.in_ (j : Int) hub
      rw [HBS.out] at hBi
      have HBi := Lib.hid hBi
      clear hBi
      go_wp2_with fail
      refine (HBi.out).mono ?_
      rintro e w22 ⟨rfl, b22⟩
      have B22 := below_step B21 b22
      have Q2 := Q2.step b22
      have Q0 := Q0.step b22
      clear HBi
      go_wp2_with fail
      refine (bSameRow (c := d2) (c2 := c0) Q2 Q0).mono ?_
      rintro e w23 ⟨rfl, b23⟩
      have B23 := below_step B22 b23
      have Q2 := Q2.step b23
      have Q0 := Q0.step b23
      go_wp2_with fail
      refine (natWorks_any _).mono ?_
      rintro e w24 ⟨rfl, b24⟩
      have B24 := below_step B23 b24
      go_wp2_with fail
      go_ret
      exact ⟨rfl, B24⟩

set_option maxHeartbeats 1000000 in
set_option maxRecDepth 100000 in
theorem natShifts_neg_over (A0 : Option Addr) (c0 : Nat) (l0 : List Nat) (w : World) (P0 : RowIs w A0 l0.length c0 l0) (hv : ¬ 40 < l0.length) (k : Int) (hk : k < 0) (j : Nat) (hj : nbits (natOf l0) ≤ j) (hub : MaxI (j : Int)) :
    Calls Try.prog 5 #[.slice A0 l0.length c0, .int .i64 k, .int .i64 (j : Int)] w fun e w' => e = .returned (.bool true) ∧ Below w.heap.size w w' := by
  have HK := Lib.hid (show k < 0 ∨ 65536 < k from .inl hk)
  have HJ := Lib.hid hj
  have HBS := Lib.hid (bitS_over (natOf l0) j hj)
  clear hj
  go_enter Try.func5, Try.ntmps5
  go_wp2_with fail
  refine (vast_no _ _ _ _ (by omega)).mono ?_
  rintro e w1 ⟨rfl, rfl⟩
  go_wp2_with fail
  refine (bDigits (c := c0) P0.in_).mono ?_
  rintro e w1 ⟨X1, n1, d1, rfl, D1, b1⟩
  have B1 := b1
  have P0 := P0.step b1
  have hn1 : n1 = nbits (natOf l0) := D1.1
  have hn1b : n1 ≤ 5000 := by have := P0.in_.bits; omega
  have HN1 := Lib.hid hn1
  clear hn1
  go_wp2_with fail
  refine (bCopy (c := c0) P0).mono ?_
  rintro e w2 ⟨X2, d2, rfl, P2, b2⟩
  have B2 := below_step B1 b2
  have P0 := P0.step b2
  have D1 := D1.step b2
  have P02 := P2
  have P00 := P0
  have B02 := B2
  go_wp2_with fail
  refine (bShl (c := d2) P2.in_ k (by omega)).mono ?_
  rintro e w3 ⟨X3, q3, d3, rfl, S3, T3, b3⟩
  have B3 := below_step B2 b3
  have C3 := b3
  have P0 := P0.step b3
  have D1 := D1.step b3
  have P2 := P2.step b3
  have T03 := T3
  have hq3 := S3.2.1
  go_wp2_with fail
  refine (bShr (c := d2) P2.in_ k).mono ?_
  rintro e w4 ⟨X4, q4, d4, rfl, S4, T4, b4⟩
  have B4 := below_step B3 b4
  have C4 := below_step C3 b4
  have P0 := P0.step b4
  have D1 := D1.step b4
  have P2 := P2.step b4
  have S3 := S3.step b4
  have T3 := T3.step b4
  have hq4 := S4.2.1
  have e3 : q3 = 0 := by have h := S3.1; rw [shlS_out _ _ HK.out, wd_zero] at h; exact h.symm
  have e4 : q4 = 0 := by have h := S4.1; rw [shrS_out _ _ HK.out, wd_zero] at h; exact h.symm
  clear S3 S4
  subst e3
  subst e4
  clear hq3 hq4
  have hjn : n1 ≤ j := by rw [HN1.out]; exact HJ.out
  clear D1
  clear P0 P2
  go_wp2_with fail
  go_loopw [12] (fun j wr => j = .int .i64 0 ∧ w4 = wr) (fun _ _ => 0)
  case atStart => exact ⟨rfl, rfl⟩
  case round =>
    obtain ⟨rfl, rfl⟩ := hrel
    have Bw2 := B4
    have B6w := C4
    go_wp2_with fail
    go_loopw [13] (fun j wr => j = .int .i64 0 ∧ w4 = wr) (fun _ _ => 0)
    case atStart => exact ⟨rfl, rfl⟩
    case round =>
      obtain ⟨rfl, rfl⟩ := hrel
      have Q2 := P02.step B6w
      have Q0 := P00.step B6w
      have hBt := bBits (c := d2) Q2.in_
      rw [← HN1.out] at hBt
      have HBt := Lib.hid hBt
      clear hBt
      go_wp2_with fail
      refine (HBt.out).mono ?_
      rintro e w21 ⟨rfl, b21⟩
      have B21 := below_step Bw2 b21
      have Q2 := Q2.step b21
      have Q0 := Q0.step b21
      clear HBt
      have hBi := bBit (c := d2) Q2.in_ (j : Int) hub
      rw [HBS.out] at hBi
      have HBi := Lib.hid hBi
      clear hBi
      go_wp2_with fail
      refine (HBi.out).mono ?_
      rintro e w22 ⟨rfl, b22⟩
      have B22 := below_step B21 b22
      have Q2 := Q2.step b22
      have Q0 := Q0.step b22
      clear HBi
      go_wp2_with fail
      refine (bSameRow (c := d2) (c2 := c0) Q2 Q0).mono ?_
      rintro e w23 ⟨rfl, b23⟩
      have B23 := below_step B22 b23
      have Q2 := Q2.step b23
      have Q0 := Q0.step b23
      go_wp2_with fail
      refine (natWorks_any _).mono ?_
      rintro e w24 ⟨rfl, b24⟩
      have B24 := below_step B23 b24
      go_wp2_with fail
      go_ret
      exact ⟨rfl, B24⟩

set_option maxHeartbeats 1000000 in
set_option maxRecDepth 100000 in
theorem natShifts_neg_neg (A0 : Option Addr) (c0 : Nat) (l0 : List Nat) (w : World) (P0 : RowIs w A0 l0.length c0 l0) (hv : ¬ 40 < l0.length) (k : Int) (hk : k < 0) (ix : Int) (hi : ix < 0) (hub : MaxI ix) :
    Calls Try.prog 5 #[.slice A0 l0.length c0, .int .i64 k, .int .i64 ix] w fun e w' => e = .returned (.bool true) ∧ Below w.heap.size w w' := by
  have HK := Lib.hid (show k < 0 ∨ 65536 < k from .inl hk)
  have HBS := Lib.hid (bitS_neg (natOf l0) ix hi)
  go_enter Try.func5, Try.ntmps5
  go_wp2_with fail
  refine (vast_no _ _ _ _ (by omega)).mono ?_
  rintro e w1 ⟨rfl, rfl⟩
  go_wp2_with fail
  refine (bDigits (c := c0) P0.in_).mono ?_
  rintro e w1 ⟨X1, n1, d1, rfl, D1, b1⟩
  have B1 := b1
  have P0 := P0.step b1
  have hn1 : n1 = nbits (natOf l0) := D1.1
  have hn1b : n1 ≤ 5000 := by have := P0.in_.bits; omega
  have HN1 := Lib.hid hn1
  clear hn1
  go_wp2_with fail
  refine (bCopy (c := c0) P0).mono ?_
  rintro e w2 ⟨X2, d2, rfl, P2, b2⟩
  have B2 := below_step B1 b2
  have P0 := P0.step b2
  have D1 := D1.step b2
  have P02 := P2
  have P00 := P0
  have B02 := B2
  go_wp2_with fail
  refine (bShl (c := d2) P2.in_ k (by omega)).mono ?_
  rintro e w3 ⟨X3, q3, d3, rfl, S3, T3, b3⟩
  have B3 := below_step B2 b3
  have C3 := b3
  have P0 := P0.step b3
  have D1 := D1.step b3
  have P2 := P2.step b3
  have T03 := T3
  have hq3 := S3.2.1
  go_wp2_with fail
  refine (bShr (c := d2) P2.in_ k).mono ?_
  rintro e w4 ⟨X4, q4, d4, rfl, S4, T4, b4⟩
  have B4 := below_step B3 b4
  have C4 := below_step C3 b4
  have P0 := P0.step b4
  have D1 := D1.step b4
  have P2 := P2.step b4
  have S3 := S3.step b4
  have T3 := T3.step b4
  have hq4 := S4.2.1
  have e3 : q3 = 0 := by have h := S3.1; rw [shlS_out _ _ HK.out, wd_zero] at h; exact h.symm
  have e4 : q4 = 0 := by have h := S4.1; rw [shrS_out _ _ HK.out, wd_zero] at h; exact h.symm
  clear S3 S4
  subst e3
  subst e4
  clear hq3 hq4
  clear D1
  clear P0 P2
  go_wp2_with fail
  go_loopw [12] (fun j wr => j = .int .i64 0 ∧ w4 = wr) (fun _ _ => 0)
  case atStart => exact ⟨rfl, rfl⟩
  case round =>
    obtain ⟨rfl, rfl⟩ := hrel
    have Bw2 := B4
    have B6w := C4
    go_wp2_with fail
    go_loopw [13] (fun j wr => j = .int .i64 0 ∧ w4 = wr) (fun _ _ => 0)
    case atStart => exact ⟨rfl, rfl⟩
    case round =>
      obtain ⟨rfl, rfl⟩ := hrel
      have Q2 := P02.step B6w
      have Q0 := P00.step B6w
      have hBt := bBits (c := d2) Q2.in_
      rw [← HN1.out] at hBt
      have HBt := Lib.hid hBt
      clear hBt
      go_wp2_with fail
      refine (HBt.out).mono ?_
      rintro e w21 ⟨rfl, b21⟩
      have B21 := below_step Bw2 b21
      have Q2 := Q2.step b21
      have Q0 := Q0.step b21
      clear HBt
      have hBi := bBit (c := d2) Q2.in_ ix hub
      rw [HBS.out] at hBi
      have HBi := Lib.hid hBi
      clear hBi
      go_wp2_with fail
      refine (HBi.out).mono ?_
      rintro e w22 ⟨rfl, b22⟩
      have B22 := below_step B21 b22
      have Q2 := Q2.step b22
      have Q0 := Q0.step b22
      clear HBi
      go_wp2_with fail
      refine (bSameRow (c := d2) (c2 := c0) Q2 Q0).mono ?_
      rintro e w23 ⟨rfl, b23⟩
      have B23 := below_step B22 b23
      have Q2 := Q2.step b23
      have Q0 := Q0.step b23
      go_wp2_with fail
      refine (natWorks_any _).mono ?_
      rintro e w24 ⟨rfl, b24⟩
      have B24 := below_step B23 b24
      go_wp2_with fail
      go_ret
      exact ⟨rfl, B24⟩

set_option maxHeartbeats 1000000 in
set_option maxRecDepth 100000 in
theorem natShifts_big_in (A0 : Option Addr) (c0 : Nat) (l0 : List Nat) (w : World) (P0 : RowIs w A0 l0.length c0 l0) (hv : ¬ 40 < l0.length) (k : Int) (hk : 65536 < k) (j : Nat) (hj : j < nbits (natOf l0)) (hub : MaxI (j : Int)) :
    Calls Try.prog 5 #[.slice A0 l0.length c0, .int .i64 k, .int .i64 (j : Int)] w fun e w' => e = .returned (.bool true) ∧ Below w.heap.size w w' := by
  have HK := Lib.hid (show k < 0 ∨ 65536 < k from .inr hk)
  have hkd : decide (k < 0) = false := by simp; omega
  have HJ := Lib.hid hj
  have HBS := Lib.hid (bitS_in (natOf l0) j)
  clear hj
  go_enter Try.func5, Try.ntmps5
  go_wp2_with fail
  refine (vast_no _ _ _ _ (by omega)).mono ?_
  rintro e w1 ⟨rfl, rfl⟩
  go_wp2_with fail
  refine (bDigits (c := c0) P0.in_).mono ?_
  rintro e w1 ⟨X1, n1, d1, rfl, D1, b1⟩
  have B1 := b1
  have P0 := P0.step b1
  have hn1 : n1 = nbits (natOf l0) := D1.1
  have hn1b : n1 ≤ 5000 := by have := P0.in_.bits; omega
  have HN1 := Lib.hid hn1
  clear hn1
  go_wp2_with fail
  refine (bCopy (c := c0) P0).mono ?_
  rintro e w2 ⟨X2, d2, rfl, P2, b2⟩
  have B2 := below_step B1 b2
  have P0 := P0.step b2
  have D1 := D1.step b2
  have P02 := P2
  have P00 := P0
  have B02 := B2
  go_wp2_with fail
  refine (bShl (c := d2) P2.in_ k (by omega)).mono ?_
  rintro e w3 ⟨X3, q3, d3, rfl, S3, T3, b3⟩
  have B3 := below_step B2 b3
  have C3 := b3
  have P0 := P0.step b3
  have D1 := D1.step b3
  have P2 := P2.step b3
  have T03 := T3
  have hq3 := S3.2.1
  go_wp2_with fail
  refine (bShr (c := d2) P2.in_ k).mono ?_
  rintro e w4 ⟨X4, q4, d4, rfl, S4, T4, b4⟩
  have B4 := below_step B3 b4
  have C4 := below_step C3 b4
  have P0 := P0.step b4
  have D1 := D1.step b4
  have P2 := P2.step b4
  have S3 := S3.step b4
  have T3 := T3.step b4
  have hq4 := S4.2.1
  have e3 : q3 = 0 := by have h := S3.1; rw [shlS_out _ _ HK.out, wd_zero] at h; exact h.symm
  have e4 : q4 = 0 := by have h := S4.1; rw [shrS_out _ _ HK.out, wd_zero] at h; exact h.symm
  clear S3 S4
  subst e3
  subst e4
  clear hq3 hq4
  have hjn : j < n1 := by rw [HN1.out]; exact HJ.out
  obtain ⟨xb, xo, hX1, hxc⟩ := D1.cell hjn
  subst hX1
  have hbl := bit_lt (natOf l0) j
  clear D1
  clear P0 P2
  go_wp2_with fail
  go_loopw [12] (fun j wr => j = .int .i64 0 ∧ w4 = wr) (fun _ _ => 0)
  case atStart => exact ⟨rfl, rfl⟩
  case round =>
    obtain ⟨rfl, rfl⟩ := hrel
    have Bw2 := B4
    have B6w := C4
    go_wp2_with fail
    go_loopw [13] (fun j wr => j = .int .i64 0 ∧ w4 = wr) (fun _ _ => 0)
    case atStart => exact ⟨rfl, rfl⟩
    case round =>
      obtain ⟨rfl, rfl⟩ := hrel
      have Q2 := P02.step B6w
      have Q0 := P00.step B6w
      have hBt := bBits (c := d2) Q2.in_
      rw [← HN1.out] at hBt
      have HBt := Lib.hid hBt
      clear hBt
      go_wp2_with fail
      refine (HBt.out).mono ?_
      rintro e w21 ⟨rfl, b21⟩
      have B21 := below_step Bw2 b21
      have Q2 := Q2.step b21
      have Q0 := Q0.step b21
      clear HBt
      have hBi := bBit (c := d2) Q2.in_ (j : Int) hub
      rw [HBS.out] at hBi
      have HBi := Lib.hid hBi
      clear hBi
      go_wp2_with fail
      refine (HBi.out).mono ?_
      rintro e w22 ⟨rfl, b22⟩
      have B22 := below_step B21 b22
      have Q2 := Q2.step b22
      have Q0 := Q0.step b22
      clear HBi
      go_wp2_with fail
      refine (bSameRow (c := d2) (c2 := c0) Q2 Q0).mono ?_
      rintro e w23 ⟨rfl, b23⟩
      have B23 := below_step B22 b23
      have Q2 := Q2.step b23
      have Q0 := Q0.step b23
      go_wp2_with fail
      refine (natWorks_any _).mono ?_
      rintro e w24 ⟨rfl, b24⟩
      have B24 := below_step B23 b24
      go_wp2_with fail
      go_ret
      exact ⟨rfl, B24⟩

set_option maxHeartbeats 1000000 in
set_option maxRecDepth 100000 in
theorem natShifts_big_over (A0 : Option Addr) (c0 : Nat) (l0 : List Nat) (w : World) (P0 : RowIs w A0 l0.length c0 l0) (hv : ¬ 40 < l0.length) (k : Int) (hk : 65536 < k) (j : Nat) (hj : nbits (natOf l0) ≤ j) (hub : MaxI (j : Int)) :
    Calls Try.prog 5 #[.slice A0 l0.length c0, .int .i64 k, .int .i64 (j : Int)] w fun e w' => e = .returned (.bool true) ∧ Below w.heap.size w w' := by
  have HK := Lib.hid (show k < 0 ∨ 65536 < k from .inr hk)
  have hkd : decide (k < 0) = false := by simp; omega
  have HJ := Lib.hid hj
  have HBS := Lib.hid (bitS_over (natOf l0) j hj)
  clear hj
  go_enter Try.func5, Try.ntmps5
  go_wp2_with fail
  refine (vast_no _ _ _ _ (by omega)).mono ?_
  rintro e w1 ⟨rfl, rfl⟩
  go_wp2_with fail
  refine (bDigits (c := c0) P0.in_).mono ?_
  rintro e w1 ⟨X1, n1, d1, rfl, D1, b1⟩
  have B1 := b1
  have P0 := P0.step b1
  have hn1 : n1 = nbits (natOf l0) := D1.1
  have hn1b : n1 ≤ 5000 := by have := P0.in_.bits; omega
  have HN1 := Lib.hid hn1
  clear hn1
  go_wp2_with fail
  refine (bCopy (c := c0) P0).mono ?_
  rintro e w2 ⟨X2, d2, rfl, P2, b2⟩
  have B2 := below_step B1 b2
  have P0 := P0.step b2
  have D1 := D1.step b2
  have P02 := P2
  have P00 := P0
  have B02 := B2
  go_wp2_with fail
  refine (bShl (c := d2) P2.in_ k (by omega)).mono ?_
  rintro e w3 ⟨X3, q3, d3, rfl, S3, T3, b3⟩
  have B3 := below_step B2 b3
  have C3 := b3
  have P0 := P0.step b3
  have D1 := D1.step b3
  have P2 := P2.step b3
  have T03 := T3
  have hq3 := S3.2.1
  go_wp2_with fail
  refine (bShr (c := d2) P2.in_ k).mono ?_
  rintro e w4 ⟨X4, q4, d4, rfl, S4, T4, b4⟩
  have B4 := below_step B3 b4
  have C4 := below_step C3 b4
  have P0 := P0.step b4
  have D1 := D1.step b4
  have P2 := P2.step b4
  have S3 := S3.step b4
  have T3 := T3.step b4
  have hq4 := S4.2.1
  have e3 : q3 = 0 := by have h := S3.1; rw [shlS_out _ _ HK.out, wd_zero] at h; exact h.symm
  have e4 : q4 = 0 := by have h := S4.1; rw [shrS_out _ _ HK.out, wd_zero] at h; exact h.symm
  clear S3 S4
  subst e3
  subst e4
  clear hq3 hq4
  have hjn : n1 ≤ j := by rw [HN1.out]; exact HJ.out
  clear D1
  clear P0 P2
  go_wp2_with fail
  go_loopw [12] (fun j wr => j = .int .i64 0 ∧ w4 = wr) (fun _ _ => 0)
  case atStart => exact ⟨rfl, rfl⟩
  case round =>
    obtain ⟨rfl, rfl⟩ := hrel
    have Bw2 := B4
    have B6w := C4
    go_wp2_with fail
    go_loopw [13] (fun j wr => j = .int .i64 0 ∧ w4 = wr) (fun _ _ => 0)
    case atStart => exact ⟨rfl, rfl⟩
    case round =>
      obtain ⟨rfl, rfl⟩ := hrel
      have Q2 := P02.step B6w
      have Q0 := P00.step B6w
      have hBt := bBits (c := d2) Q2.in_
      rw [← HN1.out] at hBt
      have HBt := Lib.hid hBt
      clear hBt
      go_wp2_with fail
      refine (HBt.out).mono ?_
      rintro e w21 ⟨rfl, b21⟩
      have B21 := below_step Bw2 b21
      have Q2 := Q2.step b21
      have Q0 := Q0.step b21
      clear HBt
      have hBi := bBit (c := d2) Q2.in_ (j : Int) hub
      rw [HBS.out] at hBi
      have HBi := Lib.hid hBi
      clear hBi
      go_wp2_with fail
      refine (HBi.out).mono ?_
      rintro e w22 ⟨rfl, b22⟩
      have B22 := below_step B21 b22
      have Q2 := Q2.step b22
      have Q0 := Q0.step b22
      clear HBi
      go_wp2_with fail
      refine (bSameRow (c := d2) (c2 := c0) Q2 Q0).mono ?_
      rintro e w23 ⟨rfl, b23⟩
      have B23 := below_step B22 b23
      have Q2 := Q2.step b23
      have Q0 := Q0.step b23
      go_wp2_with fail
      refine (natWorks_any _).mono ?_
      rintro e w24 ⟨rfl, b24⟩
      have B24 := below_step B23 b24
      go_wp2_with fail
      go_ret
      exact ⟨rfl, B24⟩

set_option maxHeartbeats 1000000 in
set_option maxRecDepth 100000 in
theorem natShifts_big_neg (A0 : Option Addr) (c0 : Nat) (l0 : List Nat) (w : World) (P0 : RowIs w A0 l0.length c0 l0) (hv : ¬ 40 < l0.length) (k : Int) (hk : 65536 < k) (ix : Int) (hi : ix < 0) (hub : MaxI ix) :
    Calls Try.prog 5 #[.slice A0 l0.length c0, .int .i64 k, .int .i64 ix] w fun e w' => e = .returned (.bool true) ∧ Below w.heap.size w w' := by
  have HK := Lib.hid (show k < 0 ∨ 65536 < k from .inr hk)
  have hkd : decide (k < 0) = false := by simp; omega
  have HBS := Lib.hid (bitS_neg (natOf l0) ix hi)
  go_enter Try.func5, Try.ntmps5
  go_wp2_with fail
  refine (vast_no _ _ _ _ (by omega)).mono ?_
  rintro e w1 ⟨rfl, rfl⟩
  go_wp2_with fail
  refine (bDigits (c := c0) P0.in_).mono ?_
  rintro e w1 ⟨X1, n1, d1, rfl, D1, b1⟩
  have B1 := b1
  have P0 := P0.step b1
  have hn1 : n1 = nbits (natOf l0) := D1.1
  have hn1b : n1 ≤ 5000 := by have := P0.in_.bits; omega
  have HN1 := Lib.hid hn1
  clear hn1
  go_wp2_with fail
  refine (bCopy (c := c0) P0).mono ?_
  rintro e w2 ⟨X2, d2, rfl, P2, b2⟩
  have B2 := below_step B1 b2
  have P0 := P0.step b2
  have D1 := D1.step b2
  have P02 := P2
  have P00 := P0
  have B02 := B2
  go_wp2_with fail
  refine (bShl (c := d2) P2.in_ k (by omega)).mono ?_
  rintro e w3 ⟨X3, q3, d3, rfl, S3, T3, b3⟩
  have B3 := below_step B2 b3
  have C3 := b3
  have P0 := P0.step b3
  have D1 := D1.step b3
  have P2 := P2.step b3
  have T03 := T3
  have hq3 := S3.2.1
  go_wp2_with fail
  refine (bShr (c := d2) P2.in_ k).mono ?_
  rintro e w4 ⟨X4, q4, d4, rfl, S4, T4, b4⟩
  have B4 := below_step B3 b4
  have C4 := below_step C3 b4
  have P0 := P0.step b4
  have D1 := D1.step b4
  have P2 := P2.step b4
  have S3 := S3.step b4
  have T3 := T3.step b4
  have hq4 := S4.2.1
  have e3 : q3 = 0 := by have h := S3.1; rw [shlS_out _ _ HK.out, wd_zero] at h; exact h.symm
  have e4 : q4 = 0 := by have h := S4.1; rw [shrS_out _ _ HK.out, wd_zero] at h; exact h.symm
  clear S3 S4
  subst e3
  subst e4
  clear hq3 hq4
  clear D1
  clear P0 P2
  go_wp2_with fail
  go_loopw [12] (fun j wr => j = .int .i64 0 ∧ w4 = wr) (fun _ _ => 0)
  case atStart => exact ⟨rfl, rfl⟩
  case round =>
    obtain ⟨rfl, rfl⟩ := hrel
    have Bw2 := B4
    have B6w := C4
    go_wp2_with fail
    go_loopw [13] (fun j wr => j = .int .i64 0 ∧ w4 = wr) (fun _ _ => 0)
    case atStart => exact ⟨rfl, rfl⟩
    case round =>
      obtain ⟨rfl, rfl⟩ := hrel
      have Q2 := P02.step B6w
      have Q0 := P00.step B6w
      have hBt := bBits (c := d2) Q2.in_
      rw [← HN1.out] at hBt
      have HBt := Lib.hid hBt
      clear hBt
      go_wp2_with fail
      refine (HBt.out).mono ?_
      rintro e w21 ⟨rfl, b21⟩
      have B21 := below_step Bw2 b21
      have Q2 := Q2.step b21
      have Q0 := Q0.step b21
      clear HBt
      have hBi := bBit (c := d2) Q2.in_ ix hub
      rw [HBS.out] at hBi
      have HBi := Lib.hid hBi
      clear hBi
      go_wp2_with fail
      refine (HBi.out).mono ?_
      rintro e w22 ⟨rfl, b22⟩
      have B22 := below_step B21 b22
      have Q2 := Q2.step b22
      have Q0 := Q0.step b22
      clear HBi
      go_wp2_with fail
      refine (bSameRow (c := d2) (c2 := c0) Q2 Q0).mono ?_
      rintro e w23 ⟨rfl, b23⟩
      have B23 := below_step B22 b23
      have Q2 := Q2.step b23
      have Q0 := Q0.step b23
      go_wp2_with fail
      refine (natWorks_any _).mono ?_
      rintro e w24 ⟨rfl, b24⟩
      have B24 := below_step B23 b24
      go_wp2_with fail
      go_ret
      exact ⟨rfl, B24⟩

set_option maxHeartbeats 1000000 in
set_option maxRecDepth 100000 in
theorem natShifts_zero_in (A0 : Option Addr) (c0 : Nat) (l0 : List Nat) (w : World) (P0 : RowIs w A0 l0.length c0 l0) (hv : ¬ 40 < l0.length)  (j : Nat) (hj : j < nbits (natOf l0)) (hub : MaxI (j : Int)) :
    Calls Try.prog 5 #[.slice A0 l0.length c0, .int .i64 0, .int .i64 (j : Int)] w fun e w' => e = .returned (.bool true) ∧ Below w.heap.size w w' := by
  skip
  have HJ := Lib.hid hj
  have HBS := Lib.hid (bitS_in (natOf l0) j)
  clear hj
  go_enter Try.func5, Try.ntmps5
  go_wp2_with fail
  refine (vast_no _ _ _ _ (by omega)).mono ?_
  rintro e w1 ⟨rfl, rfl⟩
  go_wp2_with fail
  refine (bDigits (c := c0) P0.in_).mono ?_
  rintro e w1 ⟨X1, n1, d1, rfl, D1, b1⟩
  have B1 := b1
  have P0 := P0.step b1
  have hn1 : n1 = nbits (natOf l0) := D1.1
  have hn1b : n1 ≤ 5000 := by have := P0.in_.bits; omega
  have HN1 := Lib.hid hn1
  clear hn1
  go_wp2_with fail
  refine (bCopy (c := c0) P0).mono ?_
  rintro e w2 ⟨X2, d2, rfl, P2, b2⟩
  have B2 := below_step B1 b2
  have P0 := P0.step b2
  have D1 := D1.step b2
  have P02 := P2
  have P00 := P0
  have B02 := B2
  go_wp2_with fail
  refine (bShl (c := d2) P2.in_ 0 (by omega)).mono ?_
  rintro e w3 ⟨X3, q3, d3, rfl, S3, T3, b3⟩
  have B3 := below_step B2 b3
  have C3 := b3
  have P0 := P0.step b3
  have D1 := D1.step b3
  have P2 := P2.step b3
  have T03 := T3
  have hq3 := S3.2.1
  go_wp2_with fail
  refine (bShr (c := d2) P2.in_ 0).mono ?_
  rintro e w4 ⟨X4, q4, d4, rfl, S4, T4, b4⟩
  have B4 := below_step B3 b4
  have C4 := below_step C3 b4
  have P0 := P0.step b4
  have D1 := D1.step b4
  have P2 := P2.step b4
  have S3 := S3.step b4
  have T3 := T3.step b4
  have hq4 := S4.2.1
  rw [shlS_zero] at S3
  rw [shrS_zero] at S4
  go_wp2_with fail
  refine (bShift0 D1 hn1b).mono ?_
  rintro e w5 ⟨X5, n5, d5, rfl, D5, b5⟩
  have B5 := below_step B4 b5
  have C5 := below_step C4 b5
  have P0 := P0.step b5
  have D1 := D1.step b5
  have P2 := P2.step b5
  have S3 := S3.step b5
  have T3 := T3.step b5
  have S4 := S4.step b5
  have T4 := T4.step b5
  go_wp2_with fail
  refine (bIs (c := d3) S3 D5).mono ?_
  rintro e w6 ⟨rfl, b6⟩
  have B6 := below_step B5 b6
  have C6 := below_step C5 b6
  have P0 := P0.step b6
  have D1 := D1.step b6
  have P2 := P2.step b6
  have S3 := S3.step b6
  have T3 := T3.step b6
  have S4 := S4.step b6
  have T4 := T4.step b6
  have D5 := D5.step b6
  clear S3 D5
  go_wp2_with fail
  refine (bShift0 D1 hn1b).mono ?_
  rintro e w7 ⟨X6, n6, d6, rfl, D6, b7⟩
  have B7 := below_step B6 b7
  have C7 := below_step C6 b7
  have P0 := P0.step b7
  have D1 := D1.step b7
  have P2 := P2.step b7
  have T3 := T3.step b7
  have S4 := S4.step b7
  have T4 := T4.step b7
  go_wp2_with fail
  refine (bIs (c := d4) S4 D6).mono ?_
  rintro e w8 ⟨rfl, b8⟩
  have B8 := below_step B7 b8
  have C8 := below_step C7 b8
  have P0 := P0.step b8
  have D1 := D1.step b8
  have P2 := P2.step b8
  have T3 := T3.step b8
  have S4 := S4.step b8
  have T4 := T4.step b8
  have D6 := D6.step b8
  clear S4 D6
  have hjn : j < n1 := by rw [HN1.out]; exact HJ.out
  obtain ⟨xb, xo, hX1, hxc⟩ := D1.cell hjn
  subst hX1
  have hbl := bit_lt (natOf l0) j
  clear D1
  clear P0 P2
  go_wp2_with fail
  have HT := Lib.hid T3
  go_loopw [12] (fun j wr => ∃ i : Nat, i ≤ q3 ∧ j = .int .i64 i ∧ Turned wr _ (.slice X3 q3 d3) q3 ∧ w8.grownBy wr (Value.slice X3 q3 d3).ownBlock) (fun j _ => q3 - (intOf j).toNat)
  case atStart => exact ⟨0, Nat.zero_le _, rfl, HT.out, World.grownBy.refl _ _⟩
  case round =>
    obtain ⟨i, hi, rfl, hT, hgr⟩ := hrel
    by_cases hlt : i < q3
    · obtain ⟨g, cc, x, hv3, hg, hxl, hcell, hfz, hnew⟩ := hT.at_ hlt
      injection hv3 with hX _ hd
      subst hX
      subst hd
      have hnew2 := hnew (x ^^^ 5) (xor5_lt x hxl)
      rw [← xor5 x hxl] at hnew2
      have Hn := Lib.hid hnew2
      clear hnew hnew2 hT HT
      go_wp2_with fail
      go_roundw
      case rel => exact ⟨i + 1, by omega, by go_num, Hn.out, grown_set hgr rfl _ _⟩
      case measure => simp [intOf]; omega
    · clear hT HT
      clear hxc
      have Bw := grown_below (w0 := w) T3 hgr B8 B02.size
      have T4 := T4.beside hgr fun g hg => (T03.lt g hg).2
      have hgr1 := hgr
      clear hgr
      obtain ⟨wm, hwm⟩ : ∃ wm : World, wm = wr := ⟨_, rfl⟩
      subst hwm
      go_wp2_with fail
      have HT := Lib.hid T4
      go_loopw [13] (fun j wr => ∃ i : Nat, i ≤ q4 ∧ j = .int .i64 i ∧ Turned wr _ (.slice X4 q4 d4) q4 ∧ wm.grownBy wr (Value.slice X4 q4 d4).ownBlock) (fun j _ => q4 - (intOf j).toNat)
      case atStart => exact ⟨0, Nat.zero_le _, rfl, HT.out, World.grownBy.refl _ _⟩
      case round =>
        obtain ⟨i, hi, rfl, hT, hgr⟩ := hrel
        by_cases hlt : i < q4
        · obtain ⟨g, cc, x, hv3, hg, hxl, hcell, hfz, hnew⟩ := hT.at_ hlt
          injection hv3 with hX _ hd
          subst hX
          subst hd
          have hnew2 := hnew (x ^^^ 5) (xor5_lt x hxl)
          rw [← xor5 x hxl] at hnew2
          have Hn := Lib.hid hnew2
          clear hnew hnew2 hT HT
          go_wp2_with fail
          go_roundw
          case rel => exact ⟨i + 1, by omega, by go_num, Hn.out, grown_set hgr rfl _ _⟩
          case measure => simp [intOf]; omega
        · clear hT HT
          have Bw2 := grown_below (w0 := w) T4 hgr Bw (Nat.le_trans B02.size C3.size)
          have B6w : Below w2.heap.size w2 wr := grown_below (w0 := w2) T4 hgr (grown_below (w0 := w2) T3 hgr1 C8 (Nat.le_refl _)) C3.size
          have Q2 := P02.step B6w
          have Q0 := P00.step B6w
          have hBt := bBits (c := d2) Q2.in_
          rw [← HN1.out] at hBt
          have HBt := Lib.hid hBt
          clear hBt
          go_wp2_with fail
          refine (HBt.out).mono ?_
          rintro e w21 ⟨rfl, b21⟩
          have B21 := below_step Bw2 b21
          have Q2 := Q2.step b21
          have Q0 := Q0.step b21
          clear HBt
          have hBi := bBit (c := d2) Q2.in_ (j : Int) hub
          rw [HBS.out] at hBi
          have HBi := Lib.hid hBi
          clear hBi
          go_wp2_with fail
          refine (HBi.out).mono ?_
          rintro e w22 ⟨rfl, b22⟩
          have B22 := below_step B21 b22
          have Q2 := Q2.step b22
          have Q0 := Q0.step b22
          clear HBi
          go_wp2_with fail
          refine (bSameRow (c := d2) (c2 := c0) Q2 Q0).mono ?_
          rintro e w23 ⟨rfl, b23⟩
          have B23 := below_step B22 b23
          have Q2 := Q2.step b23
          have Q0 := Q0.step b23
          go_wp2_with fail
          refine (natWorks_any _).mono ?_
          rintro e w24 ⟨rfl, b24⟩
          have B24 := below_step B23 b24
          go_wp2_with fail
          go_ret
          exact ⟨rfl, B24⟩

set_option maxHeartbeats 1000000 in
set_option maxRecDepth 100000 in
theorem natShifts_zero_over (A0 : Option Addr) (c0 : Nat) (l0 : List Nat) (w : World) (P0 : RowIs w A0 l0.length c0 l0) (hv : ¬ 40 < l0.length)  (j : Nat) (hj : nbits (natOf l0) ≤ j) (hub : MaxI (j : Int)) :
    Calls Try.prog 5 #[.slice A0 l0.length c0, .int .i64 0, .int .i64 (j : Int)] w fun e w' => e = .returned (.bool true) ∧ Below w.heap.size w w' := by
  skip
  have HJ := Lib.hid hj
  have HBS := Lib.hid (bitS_over (natOf l0) j hj)
  clear hj
  go_enter Try.func5, Try.ntmps5
  go_wp2_with fail
  refine (vast_no _ _ _ _ (by omega)).mono ?_
  rintro e w1 ⟨rfl, rfl⟩
  go_wp2_with fail
  refine (bDigits (c := c0) P0.in_).mono ?_
  rintro e w1 ⟨X1, n1, d1, rfl, D1, b1⟩
  have B1 := b1
  have P0 := P0.step b1
  have hn1 : n1 = nbits (natOf l0) := D1.1
  have hn1b : n1 ≤ 5000 := by have := P0.in_.bits; omega
  have HN1 := Lib.hid hn1
  clear hn1
  go_wp2_with fail
  refine (bCopy (c := c0) P0).mono ?_
  rintro e w2 ⟨X2, d2, rfl, P2, b2⟩
  have B2 := below_step B1 b2
  have P0 := P0.step b2
  have D1 := D1.step b2
  have P02 := P2
  have P00 := P0
  have B02 := B2
  go_wp2_with fail
  refine (bShl (c := d2) P2.in_ 0 (by omega)).mono ?_
  rintro e w3 ⟨X3, q3, d3, rfl, S3, T3, b3⟩
  have B3 := below_step B2 b3
  have C3 := b3
  have P0 := P0.step b3
  have D1 := D1.step b3
  have P2 := P2.step b3
  have T03 := T3
  have hq3 := S3.2.1
  go_wp2_with fail
  refine (bShr (c := d2) P2.in_ 0).mono ?_
  rintro e w4 ⟨X4, q4, d4, rfl, S4, T4, b4⟩
  have B4 := below_step B3 b4
  have C4 := below_step C3 b4
  have P0 := P0.step b4
  have D1 := D1.step b4
  have P2 := P2.step b4
  have S3 := S3.step b4
  have T3 := T3.step b4
  have hq4 := S4.2.1
  rw [shlS_zero] at S3
  rw [shrS_zero] at S4
  go_wp2_with fail
  refine (bShift0 D1 hn1b).mono ?_
  rintro e w5 ⟨X5, n5, d5, rfl, D5, b5⟩
  have B5 := below_step B4 b5
  have C5 := below_step C4 b5
  have P0 := P0.step b5
  have D1 := D1.step b5
  have P2 := P2.step b5
  have S3 := S3.step b5
  have T3 := T3.step b5
  have S4 := S4.step b5
  have T4 := T4.step b5
  go_wp2_with fail
  refine (bIs (c := d3) S3 D5).mono ?_
  rintro e w6 ⟨rfl, b6⟩
  have B6 := below_step B5 b6
  have C6 := below_step C5 b6
  have P0 := P0.step b6
  have D1 := D1.step b6
  have P2 := P2.step b6
  have S3 := S3.step b6
  have T3 := T3.step b6
  have S4 := S4.step b6
  have T4 := T4.step b6
  have D5 := D5.step b6
  clear S3 D5
  go_wp2_with fail
  refine (bShift0 D1 hn1b).mono ?_
  rintro e w7 ⟨X6, n6, d6, rfl, D6, b7⟩
  have B7 := below_step B6 b7
  have C7 := below_step C6 b7
  have P0 := P0.step b7
  have D1 := D1.step b7
  have P2 := P2.step b7
  have T3 := T3.step b7
  have S4 := S4.step b7
  have T4 := T4.step b7
  go_wp2_with fail
  refine (bIs (c := d4) S4 D6).mono ?_
  rintro e w8 ⟨rfl, b8⟩
  have B8 := below_step B7 b8
  have C8 := below_step C7 b8
  have P0 := P0.step b8
  have D1 := D1.step b8
  have P2 := P2.step b8
  have T3 := T3.step b8
  have S4 := S4.step b8
  have T4 := T4.step b8
  have D6 := D6.step b8
  clear S4 D6
  have hjn : n1 ≤ j := by rw [HN1.out]; exact HJ.out
  clear D1
  clear P0 P2
  go_wp2_with fail
  have HT := Lib.hid T3
  go_loopw [12] (fun j wr => ∃ i : Nat, i ≤ q3 ∧ j = .int .i64 i ∧ Turned wr _ (.slice X3 q3 d3) q3 ∧ w8.grownBy wr (Value.slice X3 q3 d3).ownBlock) (fun j _ => q3 - (intOf j).toNat)
  case atStart => exact ⟨0, Nat.zero_le _, rfl, HT.out, World.grownBy.refl _ _⟩
  case round =>
    obtain ⟨i, hi, rfl, hT, hgr⟩ := hrel
    by_cases hlt : i < q3
    · obtain ⟨g, cc, x, hv3, hg, hxl, hcell, hfz, hnew⟩ := hT.at_ hlt
      injection hv3 with hX _ hd
      subst hX
      subst hd
      have hnew2 := hnew (x ^^^ 5) (xor5_lt x hxl)
      rw [← xor5 x hxl] at hnew2
      have Hn := Lib.hid hnew2
      clear hnew hnew2 hT HT
      go_wp2_with fail
      go_roundw
      case rel => exact ⟨i + 1, by omega, by go_num, Hn.out, grown_set hgr rfl _ _⟩
      case measure => simp [intOf]; omega
    · clear hT HT
      have Bw := grown_below (w0 := w) T3 hgr B8 B02.size
      have T4 := T4.beside hgr fun g hg => (T03.lt g hg).2
      have hgr1 := hgr
      clear hgr
      obtain ⟨wm, hwm⟩ : ∃ wm : World, wm = wr := ⟨_, rfl⟩
      subst hwm
      go_wp2_with fail
      have HT := Lib.hid T4
      go_loopw [13] (fun j wr => ∃ i : Nat, i ≤ q4 ∧ j = .int .i64 i ∧ Turned wr _ (.slice X4 q4 d4) q4 ∧ wm.grownBy wr (Value.slice X4 q4 d4).ownBlock) (fun j _ => q4 - (intOf j).toNat)
      case atStart => exact ⟨0, Nat.zero_le _, rfl, HT.out, World.grownBy.refl _ _⟩
      case round =>
        obtain ⟨i, hi, rfl, hT, hgr⟩ := hrel
        by_cases hlt : i < q4
        · obtain ⟨g, cc, x, hv3, hg, hxl, hcell, hfz, hnew⟩ := hT.at_ hlt
          injection hv3 with hX _ hd
          subst hX
          subst hd
          have hnew2 := hnew (x ^^^ 5) (xor5_lt x hxl)
          rw [← xor5 x hxl] at hnew2
          have Hn := Lib.hid hnew2
          clear hnew hnew2 hT HT
          go_wp2_with fail
          go_roundw
          case rel => exact ⟨i + 1, by omega, by go_num, Hn.out, grown_set hgr rfl _ _⟩
          case measure => simp [intOf]; omega
        · clear hT HT
          have Bw2 := grown_below (w0 := w) T4 hgr Bw (Nat.le_trans B02.size C3.size)
          have B6w : Below w2.heap.size w2 wr := grown_below (w0 := w2) T4 hgr (grown_below (w0 := w2) T3 hgr1 C8 (Nat.le_refl _)) C3.size
          have Q2 := P02.step B6w
          have Q0 := P00.step B6w
          have hBt := bBits (c := d2) Q2.in_
          rw [← HN1.out] at hBt
          have HBt := Lib.hid hBt
          clear hBt
          go_wp2_with fail
          refine (HBt.out).mono ?_
          rintro e w21 ⟨rfl, b21⟩
          have B21 := below_step Bw2 b21
          have Q2 := Q2.step b21
          have Q0 := Q0.step b21
          clear HBt
          have hBi := bBit (c := d2) Q2.in_ (j : Int) hub
          rw [HBS.out] at hBi
          have HBi := Lib.hid hBi
          clear hBi
          go_wp2_with fail
          refine (HBi.out).mono ?_
          rintro e w22 ⟨rfl, b22⟩
          have B22 := below_step B21 b22
          have Q2 := Q2.step b22
          have Q0 := Q0.step b22
          clear HBi
          go_wp2_with fail
          refine (bSameRow (c := d2) (c2 := c0) Q2 Q0).mono ?_
          rintro e w23 ⟨rfl, b23⟩
          have B23 := below_step B22 b23
          have Q2 := Q2.step b23
          have Q0 := Q0.step b23
          go_wp2_with fail
          refine (natWorks_any _).mono ?_
          rintro e w24 ⟨rfl, b24⟩
          have B24 := below_step B23 b24
          go_wp2_with fail
          go_ret
          exact ⟨rfl, B24⟩

set_option maxHeartbeats 1000000 in
set_option maxRecDepth 100000 in
theorem natShifts_zero_neg (A0 : Option Addr) (c0 : Nat) (l0 : List Nat) (w : World) (P0 : RowIs w A0 l0.length c0 l0) (hv : ¬ 40 < l0.length)  (ix : Int) (hi : ix < 0) (hub : MaxI ix) :
    Calls Try.prog 5 #[.slice A0 l0.length c0, .int .i64 0, .int .i64 ix] w fun e w' => e = .returned (.bool true) ∧ Below w.heap.size w w' := by
  skip
  have HBS := Lib.hid (bitS_neg (natOf l0) ix hi)
  go_enter Try.func5, Try.ntmps5
  go_wp2_with fail
  refine (vast_no _ _ _ _ (by omega)).mono ?_
  rintro e w1 ⟨rfl, rfl⟩
  go_wp2_with fail
  refine (bDigits (c := c0) P0.in_).mono ?_
  rintro e w1 ⟨X1, n1, d1, rfl, D1, b1⟩
  have B1 := b1
  have P0 := P0.step b1
  have hn1 : n1 = nbits (natOf l0) := D1.1
  have hn1b : n1 ≤ 5000 := by have := P0.in_.bits; omega
  have HN1 := Lib.hid hn1
  clear hn1
  go_wp2_with fail
  refine (bCopy (c := c0) P0).mono ?_
  rintro e w2 ⟨X2, d2, rfl, P2, b2⟩
  have B2 := below_step B1 b2
  have P0 := P0.step b2
  have D1 := D1.step b2
  have P02 := P2
  have P00 := P0
  have B02 := B2
  go_wp2_with fail
  refine (bShl (c := d2) P2.in_ 0 (by omega)).mono ?_
  rintro e w3 ⟨X3, q3, d3, rfl, S3, T3, b3⟩
  have B3 := below_step B2 b3
  have C3 := b3
  have P0 := P0.step b3
  have D1 := D1.step b3
  have P2 := P2.step b3
  have T03 := T3
  have hq3 := S3.2.1
  go_wp2_with fail
  refine (bShr (c := d2) P2.in_ 0).mono ?_
  rintro e w4 ⟨X4, q4, d4, rfl, S4, T4, b4⟩
  have B4 := below_step B3 b4
  have C4 := below_step C3 b4
  have P0 := P0.step b4
  have D1 := D1.step b4
  have P2 := P2.step b4
  have S3 := S3.step b4
  have T3 := T3.step b4
  have hq4 := S4.2.1
  rw [shlS_zero] at S3
  rw [shrS_zero] at S4
  go_wp2_with fail
  refine (bShift0 D1 hn1b).mono ?_
  rintro e w5 ⟨X5, n5, d5, rfl, D5, b5⟩
  have B5 := below_step B4 b5
  have C5 := below_step C4 b5
  have P0 := P0.step b5
  have D1 := D1.step b5
  have P2 := P2.step b5
  have S3 := S3.step b5
  have T3 := T3.step b5
  have S4 := S4.step b5
  have T4 := T4.step b5
  go_wp2_with fail
  refine (bIs (c := d3) S3 D5).mono ?_
  rintro e w6 ⟨rfl, b6⟩
  have B6 := below_step B5 b6
  have C6 := below_step C5 b6
  have P0 := P0.step b6
  have D1 := D1.step b6
  have P2 := P2.step b6
  have S3 := S3.step b6
  have T3 := T3.step b6
  have S4 := S4.step b6
  have T4 := T4.step b6
  have D5 := D5.step b6
  clear S3 D5
  go_wp2_with fail
  refine (bShift0 D1 hn1b).mono ?_
  rintro e w7 ⟨X6, n6, d6, rfl, D6, b7⟩
  have B7 := below_step B6 b7
  have C7 := below_step C6 b7
  have P0 := P0.step b7
  have D1 := D1.step b7
  have P2 := P2.step b7
  have T3 := T3.step b7
  have S4 := S4.step b7
  have T4 := T4.step b7
  go_wp2_with fail
  refine (bIs (c := d4) S4 D6).mono ?_
  rintro e w8 ⟨rfl, b8⟩
  have B8 := below_step B7 b8
  have C8 := below_step C7 b8
  have P0 := P0.step b8
  have D1 := D1.step b8
  have P2 := P2.step b8
  have T3 := T3.step b8
  have S4 := S4.step b8
  have T4 := T4.step b8
  have D6 := D6.step b8
  clear S4 D6
  clear D1
  clear P0 P2
  go_wp2_with fail
  have HT := Lib.hid T3
  go_loopw [12] (fun j wr => ∃ i : Nat, i ≤ q3 ∧ j = .int .i64 i ∧ Turned wr _ (.slice X3 q3 d3) q3 ∧ w8.grownBy wr (Value.slice X3 q3 d3).ownBlock) (fun j _ => q3 - (intOf j).toNat)
  case atStart => exact ⟨0, Nat.zero_le _, rfl, HT.out, World.grownBy.refl _ _⟩
  case round =>
    obtain ⟨i, hi, rfl, hT, hgr⟩ := hrel
    by_cases hlt : i < q3
    · obtain ⟨g, cc, x, hv3, hg, hxl, hcell, hfz, hnew⟩ := hT.at_ hlt
      injection hv3 with hX _ hd
      subst hX
      subst hd
      have hnew2 := hnew (x ^^^ 5) (xor5_lt x hxl)
      rw [← xor5 x hxl] at hnew2
      have Hn := Lib.hid hnew2
      clear hnew hnew2 hT HT
      go_wp2_with fail
      go_roundw
      case rel => exact ⟨i + 1, by omega, by go_num, Hn.out, grown_set hgr rfl _ _⟩
      case measure => simp [intOf]; omega
    · clear hT HT
      have Bw := grown_below (w0 := w) T3 hgr B8 B02.size
      have T4 := T4.beside hgr fun g hg => (T03.lt g hg).2
      have hgr1 := hgr
      clear hgr
      obtain ⟨wm, hwm⟩ : ∃ wm : World, wm = wr := ⟨_, rfl⟩
      subst hwm
      go_wp2_with fail
      have HT := Lib.hid T4
      go_loopw [13] (fun j wr => ∃ i : Nat, i ≤ q4 ∧ j = .int .i64 i ∧ Turned wr _ (.slice X4 q4 d4) q4 ∧ wm.grownBy wr (Value.slice X4 q4 d4).ownBlock) (fun j _ => q4 - (intOf j).toNat)
      case atStart => exact ⟨0, Nat.zero_le _, rfl, HT.out, World.grownBy.refl _ _⟩
      case round =>
        obtain ⟨i, hi, rfl, hT, hgr⟩ := hrel
        by_cases hlt : i < q4
        · obtain ⟨g, cc, x, hv3, hg, hxl, hcell, hfz, hnew⟩ := hT.at_ hlt
          injection hv3 with hX _ hd
          subst hX
          subst hd
          have hnew2 := hnew (x ^^^ 5) (xor5_lt x hxl)
          rw [← xor5 x hxl] at hnew2
          have Hn := Lib.hid hnew2
          clear hnew hnew2 hT HT
          go_wp2_with fail
          go_roundw
          case rel => exact ⟨i + 1, by omega, by go_num, Hn.out, grown_set hgr rfl _ _⟩
          case measure => simp [intOf]; omega
        · clear hT HT
          have Bw2 := grown_below (w0 := w) T4 hgr Bw (Nat.le_trans B02.size C3.size)
          have B6w : Below w2.heap.size w2 wr := grown_below (w0 := w2) T4 hgr (grown_below (w0 := w2) T3 hgr1 C8 (Nat.le_refl _)) C3.size
          have Q2 := P02.step B6w
          have Q0 := P00.step B6w
          have hBt := bBits (c := d2) Q2.in_
          rw [← HN1.out] at hBt
          have HBt := Lib.hid hBt
          clear hBt
          go_wp2_with fail
          refine (HBt.out).mono ?_
          rintro e w21 ⟨rfl, b21⟩
          have B21 := below_step Bw2 b21
          have Q2 := Q2.step b21
          have Q0 := Q0.step b21
          clear HBt
          have hBi := bBit (c := d2) Q2.in_ ix hub
          rw [HBS.out] at hBi
          have HBi := Lib.hid hBi
          clear hBi
          go_wp2_with fail
          refine (HBi.out).mono ?_
          rintro e w22 ⟨rfl, b22⟩
          have B22 := below_step B21 b22
          have Q2 := Q2.step b22
          have Q0 := Q0.step b22
          clear HBi
          go_wp2_with fail
          refine (bSameRow (c := d2) (c2 := c0) Q2 Q0).mono ?_
          rintro e w23 ⟨rfl, b23⟩
          have B23 := below_step B22 b23
          have Q2 := Q2.step b23
          have Q0 := Q0.step b23
          go_wp2_with fail
          refine (natWorks_any _).mono ?_
          rintro e w24 ⟨rfl, b24⟩
          have B24 := below_step B23 b24
          go_wp2_with fail
          go_ret
          exact ⟨rfl, B24⟩

set_option maxHeartbeats 1000000 in
set_option maxRecDepth 100000 in
theorem natShifts_pos_in (A0 : Option Addr) (c0 : Nat) (l0 : List Nat) (w : World) (P0 : RowIs w A0 l0.length c0 l0) (hv : ¬ 40 < l0.length) (k : Nat) (hk0 : 0 < k) (hk : k ≤ 65536) (j : Nat) (hj : j < nbits (natOf l0)) (hub : MaxI (j : Int)) :
    Calls Try.prog 5 #[.slice A0 l0.length c0, .int .i64 (k : Int), .int .i64 (j : Int)] w fun e w' => e = .returned (.bool true) ∧ Below w.heap.size w w' := by
  have hkd : decide ((k : Int) < 0) = false := by simp
  have HJ := Lib.hid hj
  have HBS := Lib.hid (bitS_in (natOf l0) j)
  clear hj
  go_enter Try.func5, Try.ntmps5
  go_wp2_with fail
  refine (vast_no _ _ _ _ (by omega)).mono ?_
  rintro e w1 ⟨rfl, rfl⟩
  go_wp2_with fail
  refine (bDigits (c := c0) P0.in_).mono ?_
  rintro e w1 ⟨X1, n1, d1, rfl, D1, b1⟩
  have B1 := b1
  have P0 := P0.step b1
  have hn1 : n1 = nbits (natOf l0) := D1.1
  have hn1b : n1 ≤ 5000 := by have := P0.in_.bits; omega
  have HN1 := Lib.hid hn1
  clear hn1
  go_wp2_with fail
  refine (bCopy (c := c0) P0).mono ?_
  rintro e w2 ⟨X2, d2, rfl, P2, b2⟩
  have B2 := below_step B1 b2
  have P0 := P0.step b2
  have D1 := D1.step b2
  have P02 := P2
  have P00 := P0
  have B02 := B2
  go_wp2_with fail
  refine (bShl (c := d2) P2.in_ (k : Int) (by omega)).mono ?_
  rintro e w3 ⟨X3, q3, d3, rfl, S3, T3, b3⟩
  have B3 := below_step B2 b3
  have C3 := b3
  have P0 := P0.step b3
  have D1 := D1.step b3
  have P2 := P2.step b3
  have T03 := T3
  have hq3 := S3.2.1
  go_wp2_with fail
  refine (bShr (c := d2) P2.in_ (k : Int)).mono ?_
  rintro e w4 ⟨X4, q4, d4, rfl, S4, T4, b4⟩
  have B4 := below_step B3 b4
  have C4 := below_step C3 b4
  have P0 := P0.step b4
  have D1 := D1.step b4
  have P2 := P2.step b4
  have S3 := S3.step b4
  have T3 := T3.step b4
  have hq4 := S4.2.1
  rw [shlS_nat _ k (by omega)] at S3
  rw [shrS_nat _ k (by omega)] at S4
  go_wp2_with fail
  refine (bShiftUp D1 k (by omega) (by omega)).mono ?_
  rintro e w5 ⟨X5, n5, d5, rfl, D5, b5⟩
  have B5 := below_step B4 b5
  have C5 := below_step C4 b5
  have P0 := P0.step b5
  have D1 := D1.step b5
  have P2 := P2.step b5
  have S3 := S3.step b5
  have T3 := T3.step b5
  have S4 := S4.step b5
  have T4 := T4.step b5
  go_wp2_with fail
  refine (bIs (c := d3) S3 D5).mono ?_
  rintro e w6 ⟨rfl, b6⟩
  have B6 := below_step B5 b6
  have C6 := below_step C5 b6
  have P0 := P0.step b6
  have D1 := D1.step b6
  have P2 := P2.step b6
  have S3 := S3.step b6
  have T3 := T3.step b6
  have S4 := S4.step b6
  have T4 := T4.step b6
  have D5 := D5.step b6
  clear S3 D5
  go_wp2_with fail
  refine (bShiftDown D1 k (by omega) (by omega) (by omega)).mono ?_
  rintro e w7 ⟨X6, n6, d6, rfl, D6, b7⟩
  have B7 := below_step B6 b7
  have C7 := below_step C6 b7
  have P0 := P0.step b7
  have D1 := D1.step b7
  have P2 := P2.step b7
  have T3 := T3.step b7
  have S4 := S4.step b7
  have T4 := T4.step b7
  go_wp2_with fail
  refine (bIs (c := d4) S4 D6).mono ?_
  rintro e w8 ⟨rfl, b8⟩
  have B8 := below_step B7 b8
  have C8 := below_step C7 b8
  have P0 := P0.step b8
  have D1 := D1.step b8
  have P2 := P2.step b8
  have T3 := T3.step b8
  have S4 := S4.step b8
  have T4 := T4.step b8
  have D6 := D6.step b8
  clear S4 D6
  have hjn : j < n1 := by rw [HN1.out]; exact HJ.out
  obtain ⟨xb, xo, hX1, hxc⟩ := D1.cell hjn
  subst hX1
  have hbl := bit_lt (natOf l0) j
  clear D1
  clear P0 P2
  go_wp2_with fail
  have HT := Lib.hid T3
  go_loopw [12] (fun j wr => ∃ i : Nat, i ≤ q3 ∧ j = .int .i64 i ∧ Turned wr _ (.slice X3 q3 d3) q3 ∧ w8.grownBy wr (Value.slice X3 q3 d3).ownBlock) (fun j _ => q3 - (intOf j).toNat)
  case atStart => exact ⟨0, Nat.zero_le _, rfl, HT.out, World.grownBy.refl _ _⟩
  case round =>
    obtain ⟨i, hi, rfl, hT, hgr⟩ := hrel
    by_cases hlt : i < q3
    · obtain ⟨g, cc, x, hv3, hg, hxl, hcell, hfz, hnew⟩ := hT.at_ hlt
      injection hv3 with hX _ hd
      subst hX
      subst hd
      have hnew2 := hnew (x ^^^ 5) (xor5_lt x hxl)
      rw [← xor5 x hxl] at hnew2
      have Hn := Lib.hid hnew2
      clear hnew hnew2 hT HT
      go_wp2_with fail
      go_roundw
      case rel => exact ⟨i + 1, by omega, by go_num, Hn.out, grown_set hgr rfl _ _⟩
      case measure => simp [intOf]; omega
    · clear hT HT
      clear hxc
      have Bw := grown_below (w0 := w) T3 hgr B8 B02.size
      have T4 := T4.beside hgr fun g hg => (T03.lt g hg).2
      have hgr1 := hgr
      clear hgr
      obtain ⟨wm, hwm⟩ : ∃ wm : World, wm = wr := ⟨_, rfl⟩
      subst hwm
      go_wp2_with fail
      have HT := Lib.hid T4
      go_loopw [13] (fun j wr => ∃ i : Nat, i ≤ q4 ∧ j = .int .i64 i ∧ Turned wr _ (.slice X4 q4 d4) q4 ∧ wm.grownBy wr (Value.slice X4 q4 d4).ownBlock) (fun j _ => q4 - (intOf j).toNat)
      case atStart => exact ⟨0, Nat.zero_le _, rfl, HT.out, World.grownBy.refl _ _⟩
      case round =>
        obtain ⟨i, hi, rfl, hT, hgr⟩ := hrel
        by_cases hlt : i < q4
        · obtain ⟨g, cc, x, hv3, hg, hxl, hcell, hfz, hnew⟩ := hT.at_ hlt
          injection hv3 with hX _ hd
          subst hX
          subst hd
          have hnew2 := hnew (x ^^^ 5) (xor5_lt x hxl)
          rw [← xor5 x hxl] at hnew2
          have Hn := Lib.hid hnew2
          clear hnew hnew2 hT HT
          go_wp2_with fail
          go_roundw
          case rel => exact ⟨i + 1, by omega, by go_num, Hn.out, grown_set hgr rfl _ _⟩
          case measure => simp [intOf]; omega
        · clear hT HT
          have Bw2 := grown_below (w0 := w) T4 hgr Bw (Nat.le_trans B02.size C3.size)
          have B6w : Below w2.heap.size w2 wr := grown_below (w0 := w2) T4 hgr (grown_below (w0 := w2) T3 hgr1 C8 (Nat.le_refl _)) C3.size
          have Q2 := P02.step B6w
          have Q0 := P00.step B6w
          have hBt := bBits (c := d2) Q2.in_
          rw [← HN1.out] at hBt
          have HBt := Lib.hid hBt
          clear hBt
          go_wp2_with fail
          refine (HBt.out).mono ?_
          rintro e w21 ⟨rfl, b21⟩
          have B21 := below_step Bw2 b21
          have Q2 := Q2.step b21
          have Q0 := Q0.step b21
          clear HBt
          have hBi := bBit (c := d2) Q2.in_ (j : Int) hub
          rw [HBS.out] at hBi
          have HBi := Lib.hid hBi
          clear hBi
          go_wp2_with fail
          refine (HBi.out).mono ?_
          rintro e w22 ⟨rfl, b22⟩
          have B22 := below_step B21 b22
          have Q2 := Q2.step b22
          have Q0 := Q0.step b22
          clear HBi
          go_wp2_with fail
          refine (bSameRow (c := d2) (c2 := c0) Q2 Q0).mono ?_
          rintro e w23 ⟨rfl, b23⟩
          have B23 := below_step B22 b23
          have Q2 := Q2.step b23
          have Q0 := Q0.step b23
          go_wp2_with fail
          refine (natWorks_any _).mono ?_
          rintro e w24 ⟨rfl, b24⟩
          have B24 := below_step B23 b24
          go_wp2_with fail
          go_ret
          exact ⟨rfl, B24⟩

set_option maxHeartbeats 1000000 in
set_option maxRecDepth 100000 in
theorem natShifts_pos_over (A0 : Option Addr) (c0 : Nat) (l0 : List Nat) (w : World) (P0 : RowIs w A0 l0.length c0 l0) (hv : ¬ 40 < l0.length) (k : Nat) (hk0 : 0 < k) (hk : k ≤ 65536) (j : Nat) (hj : nbits (natOf l0) ≤ j) (hub : MaxI (j : Int)) :
    Calls Try.prog 5 #[.slice A0 l0.length c0, .int .i64 (k : Int), .int .i64 (j : Int)] w fun e w' => e = .returned (.bool true) ∧ Below w.heap.size w w' := by
  have hkd : decide ((k : Int) < 0) = false := by simp
  have HJ := Lib.hid hj
  have HBS := Lib.hid (bitS_over (natOf l0) j hj)
  clear hj
  go_enter Try.func5, Try.ntmps5
  go_wp2_with fail
  refine (vast_no _ _ _ _ (by omega)).mono ?_
  rintro e w1 ⟨rfl, rfl⟩
  go_wp2_with fail
  refine (bDigits (c := c0) P0.in_).mono ?_
  rintro e w1 ⟨X1, n1, d1, rfl, D1, b1⟩
  have B1 := b1
  have P0 := P0.step b1
  have hn1 : n1 = nbits (natOf l0) := D1.1
  have hn1b : n1 ≤ 5000 := by have := P0.in_.bits; omega
  have HN1 := Lib.hid hn1
  clear hn1
  go_wp2_with fail
  refine (bCopy (c := c0) P0).mono ?_
  rintro e w2 ⟨X2, d2, rfl, P2, b2⟩
  have B2 := below_step B1 b2
  have P0 := P0.step b2
  have D1 := D1.step b2
  have P02 := P2
  have P00 := P0
  have B02 := B2
  go_wp2_with fail
  refine (bShl (c := d2) P2.in_ (k : Int) (by omega)).mono ?_
  rintro e w3 ⟨X3, q3, d3, rfl, S3, T3, b3⟩
  have B3 := below_step B2 b3
  have C3 := b3
  have P0 := P0.step b3
  have D1 := D1.step b3
  have P2 := P2.step b3
  have T03 := T3
  have hq3 := S3.2.1
  go_wp2_with fail
  refine (bShr (c := d2) P2.in_ (k : Int)).mono ?_
  rintro e w4 ⟨X4, q4, d4, rfl, S4, T4, b4⟩
  have B4 := below_step B3 b4
  have C4 := below_step C3 b4
  have P0 := P0.step b4
  have D1 := D1.step b4
  have P2 := P2.step b4
  have S3 := S3.step b4
  have T3 := T3.step b4
  have hq4 := S4.2.1
  rw [shlS_nat _ k (by omega)] at S3
  rw [shrS_nat _ k (by omega)] at S4
  go_wp2_with fail
  refine (bShiftUp D1 k (by omega) (by omega)).mono ?_
  rintro e w5 ⟨X5, n5, d5, rfl, D5, b5⟩
  have B5 := below_step B4 b5
  have C5 := below_step C4 b5
  have P0 := P0.step b5
  have D1 := D1.step b5
  have P2 := P2.step b5
  have S3 := S3.step b5
  have T3 := T3.step b5
  have S4 := S4.step b5
  have T4 := T4.step b5
  go_wp2_with fail
  refine (bIs (c := d3) S3 D5).mono ?_
  rintro e w6 ⟨rfl, b6⟩
  have B6 := below_step B5 b6
  have C6 := below_step C5 b6
  have P0 := P0.step b6
  have D1 := D1.step b6
  have P2 := P2.step b6
  have S3 := S3.step b6
  have T3 := T3.step b6
  have S4 := S4.step b6
  have T4 := T4.step b6
  have D5 := D5.step b6
  clear S3 D5
  go_wp2_with fail
  refine (bShiftDown D1 k (by omega) (by omega) (by omega)).mono ?_
  rintro e w7 ⟨X6, n6, d6, rfl, D6, b7⟩
  have B7 := below_step B6 b7
  have C7 := below_step C6 b7
  have P0 := P0.step b7
  have D1 := D1.step b7
  have P2 := P2.step b7
  have T3 := T3.step b7
  have S4 := S4.step b7
  have T4 := T4.step b7
  go_wp2_with fail
  refine (bIs (c := d4) S4 D6).mono ?_
  rintro e w8 ⟨rfl, b8⟩
  have B8 := below_step B7 b8
  have C8 := below_step C7 b8
  have P0 := P0.step b8
  have D1 := D1.step b8
  have P2 := P2.step b8
  have T3 := T3.step b8
  have S4 := S4.step b8
  have T4 := T4.step b8
  have D6 := D6.step b8
  clear S4 D6
  have hjn : n1 ≤ j := by rw [HN1.out]; exact HJ.out
  clear D1
  clear P0 P2
  go_wp2_with fail
  have HT := Lib.hid T3
  go_loopw [12] (fun j wr => ∃ i : Nat, i ≤ q3 ∧ j = .int .i64 i ∧ Turned wr _ (.slice X3 q3 d3) q3 ∧ w8.grownBy wr (Value.slice X3 q3 d3).ownBlock) (fun j _ => q3 - (intOf j).toNat)
  case atStart => exact ⟨0, Nat.zero_le _, rfl, HT.out, World.grownBy.refl _ _⟩
  case round =>
    obtain ⟨i, hi, rfl, hT, hgr⟩ := hrel
    by_cases hlt : i < q3
    · obtain ⟨g, cc, x, hv3, hg, hxl, hcell, hfz, hnew⟩ := hT.at_ hlt
      injection hv3 with hX _ hd
      subst hX
      subst hd
      have hnew2 := hnew (x ^^^ 5) (xor5_lt x hxl)
      rw [← xor5 x hxl] at hnew2
      have Hn := Lib.hid hnew2
      clear hnew hnew2 hT HT
      go_wp2_with fail
      go_roundw
      case rel => exact ⟨i + 1, by omega, by go_num, Hn.out, grown_set hgr rfl _ _⟩
      case measure => simp [intOf]; omega
    · clear hT HT
      have Bw := grown_below (w0 := w) T3 hgr B8 B02.size
      have T4 := T4.beside hgr fun g hg => (T03.lt g hg).2
      have hgr1 := hgr
      clear hgr
      obtain ⟨wm, hwm⟩ : ∃ wm : World, wm = wr := ⟨_, rfl⟩
      subst hwm
      go_wp2_with fail
      have HT := Lib.hid T4
      go_loopw [13] (fun j wr => ∃ i : Nat, i ≤ q4 ∧ j = .int .i64 i ∧ Turned wr _ (.slice X4 q4 d4) q4 ∧ wm.grownBy wr (Value.slice X4 q4 d4).ownBlock) (fun j _ => q4 - (intOf j).toNat)
      case atStart => exact ⟨0, Nat.zero_le _, rfl, HT.out, World.grownBy.refl _ _⟩
      case round =>
        obtain ⟨i, hi, rfl, hT, hgr⟩ := hrel
        by_cases hlt : i < q4
        · obtain ⟨g, cc, x, hv3, hg, hxl, hcell, hfz, hnew⟩ := hT.at_ hlt
          injection hv3 with hX _ hd
          subst hX
          subst hd
          have hnew2 := hnew (x ^^^ 5) (xor5_lt x hxl)
          rw [← xor5 x hxl] at hnew2
          have Hn := Lib.hid hnew2
          clear hnew hnew2 hT HT
          go_wp2_with fail
          go_roundw
          case rel => exact ⟨i + 1, by omega, by go_num, Hn.out, grown_set hgr rfl _ _⟩
          case measure => simp [intOf]; omega
        · clear hT HT
          have Bw2 := grown_below (w0 := w) T4 hgr Bw (Nat.le_trans B02.size C3.size)
          have B6w : Below w2.heap.size w2 wr := grown_below (w0 := w2) T4 hgr (grown_below (w0 := w2) T3 hgr1 C8 (Nat.le_refl _)) C3.size
          have Q2 := P02.step B6w
          have Q0 := P00.step B6w
          have hBt := bBits (c := d2) Q2.in_
          rw [← HN1.out] at hBt
          have HBt := Lib.hid hBt
          clear hBt
          go_wp2_with fail
          refine (HBt.out).mono ?_
          rintro e w21 ⟨rfl, b21⟩
          have B21 := below_step Bw2 b21
          have Q2 := Q2.step b21
          have Q0 := Q0.step b21
          clear HBt
          have hBi := bBit (c := d2) Q2.in_ (j : Int) hub
          rw [HBS.out] at hBi
          have HBi := Lib.hid hBi
          clear hBi
          go_wp2_with fail
          refine (HBi.out).mono ?_
          rintro e w22 ⟨rfl, b22⟩
          have B22 := below_step B21 b22
          have Q2 := Q2.step b22
          have Q0 := Q0.step b22
          clear HBi
          go_wp2_with fail
          refine (bSameRow (c := d2) (c2 := c0) Q2 Q0).mono ?_
          rintro e w23 ⟨rfl, b23⟩
          have B23 := below_step B22 b23
          have Q2 := Q2.step b23
          have Q0 := Q0.step b23
          go_wp2_with fail
          refine (natWorks_any _).mono ?_
          rintro e w24 ⟨rfl, b24⟩
          have B24 := below_step B23 b24
          go_wp2_with fail
          go_ret
          exact ⟨rfl, B24⟩

set_option maxHeartbeats 1000000 in
set_option maxRecDepth 100000 in
theorem natShifts_pos_neg (A0 : Option Addr) (c0 : Nat) (l0 : List Nat) (w : World) (P0 : RowIs w A0 l0.length c0 l0) (hv : ¬ 40 < l0.length) (k : Nat) (hk0 : 0 < k) (hk : k ≤ 65536) (ix : Int) (hi : ix < 0) (hub : MaxI ix) :
    Calls Try.prog 5 #[.slice A0 l0.length c0, .int .i64 (k : Int), .int .i64 ix] w fun e w' => e = .returned (.bool true) ∧ Below w.heap.size w w' := by
  have hkd : decide ((k : Int) < 0) = false := by simp
  have HBS := Lib.hid (bitS_neg (natOf l0) ix hi)
  go_enter Try.func5, Try.ntmps5
  go_wp2_with fail
  refine (vast_no _ _ _ _ (by omega)).mono ?_
  rintro e w1 ⟨rfl, rfl⟩
  go_wp2_with fail
  refine (bDigits (c := c0) P0.in_).mono ?_
  rintro e w1 ⟨X1, n1, d1, rfl, D1, b1⟩
  have B1 := b1
  have P0 := P0.step b1
  have hn1 : n1 = nbits (natOf l0) := D1.1
  have hn1b : n1 ≤ 5000 := by have := P0.in_.bits; omega
  have HN1 := Lib.hid hn1
  clear hn1
  go_wp2_with fail
  refine (bCopy (c := c0) P0).mono ?_
  rintro e w2 ⟨X2, d2, rfl, P2, b2⟩
  have B2 := below_step B1 b2
  have P0 := P0.step b2
  have D1 := D1.step b2
  have P02 := P2
  have P00 := P0
  have B02 := B2
  go_wp2_with fail
  refine (bShl (c := d2) P2.in_ (k : Int) (by omega)).mono ?_
  rintro e w3 ⟨X3, q3, d3, rfl, S3, T3, b3⟩
  have B3 := below_step B2 b3
  have C3 := b3
  have P0 := P0.step b3
  have D1 := D1.step b3
  have P2 := P2.step b3
  have T03 := T3
  have hq3 := S3.2.1
  go_wp2_with fail
  refine (bShr (c := d2) P2.in_ (k : Int)).mono ?_
  rintro e w4 ⟨X4, q4, d4, rfl, S4, T4, b4⟩
  have B4 := below_step B3 b4
  have C4 := below_step C3 b4
  have P0 := P0.step b4
  have D1 := D1.step b4
  have P2 := P2.step b4
  have S3 := S3.step b4
  have T3 := T3.step b4
  have hq4 := S4.2.1
  rw [shlS_nat _ k (by omega)] at S3
  rw [shrS_nat _ k (by omega)] at S4
  go_wp2_with fail
  refine (bShiftUp D1 k (by omega) (by omega)).mono ?_
  rintro e w5 ⟨X5, n5, d5, rfl, D5, b5⟩
  have B5 := below_step B4 b5
  have C5 := below_step C4 b5
  have P0 := P0.step b5
  have D1 := D1.step b5
  have P2 := P2.step b5
  have S3 := S3.step b5
  have T3 := T3.step b5
  have S4 := S4.step b5
  have T4 := T4.step b5
  go_wp2_with fail
  refine (bIs (c := d3) S3 D5).mono ?_
  rintro e w6 ⟨rfl, b6⟩
  have B6 := below_step B5 b6
  have C6 := below_step C5 b6
  have P0 := P0.step b6
  have D1 := D1.step b6
  have P2 := P2.step b6
  have S3 := S3.step b6
  have T3 := T3.step b6
  have S4 := S4.step b6
  have T4 := T4.step b6
  have D5 := D5.step b6
  clear S3 D5
  go_wp2_with fail
  refine (bShiftDown D1 k (by omega) (by omega) (by omega)).mono ?_
  rintro e w7 ⟨X6, n6, d6, rfl, D6, b7⟩
  have B7 := below_step B6 b7
  have C7 := below_step C6 b7
  have P0 := P0.step b7
  have D1 := D1.step b7
  have P2 := P2.step b7
  have T3 := T3.step b7
  have S4 := S4.step b7
  have T4 := T4.step b7
  go_wp2_with fail
  refine (bIs (c := d4) S4 D6).mono ?_
  rintro e w8 ⟨rfl, b8⟩
  have B8 := below_step B7 b8
  have C8 := below_step C7 b8
  have P0 := P0.step b8
  have D1 := D1.step b8
  have P2 := P2.step b8
  have T3 := T3.step b8
  have S4 := S4.step b8
  have T4 := T4.step b8
  have D6 := D6.step b8
  clear S4 D6
  clear D1
  clear P0 P2
  go_wp2_with fail
  have HT := Lib.hid T3
  go_loopw [12] (fun j wr => ∃ i : Nat, i ≤ q3 ∧ j = .int .i64 i ∧ Turned wr _ (.slice X3 q3 d3) q3 ∧ w8.grownBy wr (Value.slice X3 q3 d3).ownBlock) (fun j _ => q3 - (intOf j).toNat)
  case atStart => exact ⟨0, Nat.zero_le _, rfl, HT.out, World.grownBy.refl _ _⟩
  case round =>
    obtain ⟨i, hi, rfl, hT, hgr⟩ := hrel
    by_cases hlt : i < q3
    · obtain ⟨g, cc, x, hv3, hg, hxl, hcell, hfz, hnew⟩ := hT.at_ hlt
      injection hv3 with hX _ hd
      subst hX
      subst hd
      have hnew2 := hnew (x ^^^ 5) (xor5_lt x hxl)
      rw [← xor5 x hxl] at hnew2
      have Hn := Lib.hid hnew2
      clear hnew hnew2 hT HT
      go_wp2_with fail
      go_roundw
      case rel => exact ⟨i + 1, by omega, by go_num, Hn.out, grown_set hgr rfl _ _⟩
      case measure => simp [intOf]; omega
    · clear hT HT
      have Bw := grown_below (w0 := w) T3 hgr B8 B02.size
      have T4 := T4.beside hgr fun g hg => (T03.lt g hg).2
      have hgr1 := hgr
      clear hgr
      obtain ⟨wm, hwm⟩ : ∃ wm : World, wm = wr := ⟨_, rfl⟩
      subst hwm
      go_wp2_with fail
      have HT := Lib.hid T4
      go_loopw [13] (fun j wr => ∃ i : Nat, i ≤ q4 ∧ j = .int .i64 i ∧ Turned wr _ (.slice X4 q4 d4) q4 ∧ wm.grownBy wr (Value.slice X4 q4 d4).ownBlock) (fun j _ => q4 - (intOf j).toNat)
      case atStart => exact ⟨0, Nat.zero_le _, rfl, HT.out, World.grownBy.refl _ _⟩
      case round =>
        obtain ⟨i, hi, rfl, hT, hgr⟩ := hrel
        by_cases hlt : i < q4
        · obtain ⟨g, cc, x, hv3, hg, hxl, hcell, hfz, hnew⟩ := hT.at_ hlt
          injection hv3 with hX _ hd
          subst hX
          subst hd
          have hnew2 := hnew (x ^^^ 5) (xor5_lt x hxl)
          rw [← xor5 x hxl] at hnew2
          have Hn := Lib.hid hnew2
          clear hnew hnew2 hT HT
          go_wp2_with fail
          go_roundw
          case rel => exact ⟨i + 1, by omega, by go_num, Hn.out, grown_set hgr rfl _ _⟩
          case measure => simp [intOf]; omega
        · clear hT HT
          have Bw2 := grown_below (w0 := w) T4 hgr Bw (Nat.le_trans B02.size C3.size)
          have B6w : Below w2.heap.size w2 wr := grown_below (w0 := w2) T4 hgr (grown_below (w0 := w2) T3 hgr1 C8 (Nat.le_refl _)) C3.size
          have Q2 := P02.step B6w
          have Q0 := P00.step B6w
          have hBt := bBits (c := d2) Q2.in_
          rw [← HN1.out] at hBt
          have HBt := Lib.hid hBt
          clear hBt
          go_wp2_with fail
          refine (HBt.out).mono ?_
          rintro e w21 ⟨rfl, b21⟩
          have B21 := below_step Bw2 b21
          have Q2 := Q2.step b21
          have Q0 := Q0.step b21
          clear HBt
          have hBi := bBit (c := d2) Q2.in_ ix hub
          rw [HBS.out] at hBi
          have HBi := Lib.hid hBi
          clear hBi
          go_wp2_with fail
          refine (HBi.out).mono ?_
          rintro e w22 ⟨rfl, b22⟩
          have B22 := below_step B21 b22
          have Q2 := Q2.step b22
          have Q0 := Q0.step b22
          clear HBi
          go_wp2_with fail
          refine (bSameRow (c := d2) (c2 := c0) Q2 Q0).mono ?_
          rintro e w23 ⟨rfl, b23⟩
          have B23 := below_step B22 b23
          have Q2 := Q2.step b23
          have Q0 := Q0.step b23
          go_wp2_with fail
          refine (natWorks_any _).mono ?_
          rintro e w24 ⟨rfl, b24⟩
          have B24 := below_step B23 b24
          go_wp2_with fail
          go_ret
          exact ⟨rfl, B24⟩

theorem natShifts_walk (A0 : Option Addr) (c0 : Nat) (l0 : List Nat) (a1 a2 : Int) (w : World) (r0 : Rd .u64 w w.heap.size A0 l0) (y0 : Words l0) (_z0 : l0.length * 8 ≤ 140737488351232) (u0 : l0.length ≤ c0) (_w1 : (Lit.int .i64 a1).wf = true) (w2 : (Lit.int .i64 a2).wf = true) :
    Calls Try.prog 5 #[.slice A0 l0.length c0, .int .i64 a1, .int .i64 a2] w fun e w' => e = .returned (.bool true) ∧ Below w.heap.size w w' := by
  by_cases hv : 40 < l0.length
  · go_enter Try.func5, Try.ntmps5
    go_wp2_with fail
    refine (vast_yes _ _ _ _ hv).mono ?_
    rintro e w1 ⟨rfl, rfl⟩
    go_wp2_with fail
    refine (natWorks_any _).mono ?_
    rintro e w1 ⟨rfl, b1⟩
    go_wp2_with fail
    go_ret
    exact ⟨rfl, b1⟩
  · have P0 : RowIs w A0 l0.length c0 l0 := ⟨rfl, y0, by omega, r0, u0⟩
    have hub : MaxI a2 := maxI_wf w2
    have hi : a2 < 0 ∨ (∃ j : Nat, a2 = (j : Int) ∧ j < nbits (natOf l0)) ∨ (∃ j : Nat, a2 = (j : Int) ∧ nbits (natOf l0) ≤ j) := by
      rcases Int.lt_or_le a2 0 with h | h
      · exact .inl h
      · obtain ⟨j, rfl⟩ := Int.eq_ofNat_of_zero_le h
        rcases Nat.lt_or_ge j (nbits (natOf l0)) with h' | h'
        · exact .inr (.inl ⟨j, rfl, h'⟩)
        · exact .inr (.inr ⟨j, rfl, h'⟩)
    have hk : a1 < 0 ∨ 65536 < a1 ∨ a1 = 0 ∨ (∃ k : Nat, a1 = (k : Int) ∧ 0 < k ∧ k ≤ 65536) := by
      rcases Int.lt_or_le a1 0 with h | h
      · exact .inl h
      · obtain ⟨k, rfl⟩ := Int.eq_ofNat_of_zero_le h
        rcases Nat.lt_or_ge 65536 k with h' | h'
        · exact .inr (.inl (by omega))
        · rcases Nat.eq_zero_or_pos k with h0 | h0
          · exact .inr (.inr (.inl (by omega)))
          · exact .inr (.inr (.inr ⟨k, rfl, h0, h'⟩))
    rcases hk with hk | hk | rfl | ⟨k, rfl, hk0, hk⟩
    · rcases hi with hi | ⟨j, rfl, hj⟩ | ⟨j, rfl, hj⟩
      · exact natShifts_neg_neg A0 c0 l0 w P0 hv a1 hk a2 hi hub
      · exact natShifts_neg_in A0 c0 l0 w P0 hv a1 hk j hj hub
      · exact natShifts_neg_over A0 c0 l0 w P0 hv a1 hk j hj hub
    · rcases hi with hi | ⟨j, rfl, hj⟩ | ⟨j, rfl, hj⟩
      · exact natShifts_big_neg A0 c0 l0 w P0 hv a1 hk a2 hi hub
      · exact natShifts_big_in A0 c0 l0 w P0 hv a1 hk j hj hub
      · exact natShifts_big_over A0 c0 l0 w P0 hv a1 hk j hj hub
    · rcases hi with hi | ⟨j, rfl, hj⟩ | ⟨j, rfl, hj⟩
      · exact natShifts_zero_neg A0 c0 l0 w P0 hv a2 hi hub
      · exact natShifts_zero_in A0 c0 l0 w P0 hv j hj hub
      · exact natShifts_zero_over A0 c0 l0 w P0 hv j hj hub
    · rcases hi with hi | ⟨j, rfl, hj⟩ | ⟨j, rfl, hj⟩
      · exact natShifts_pos_neg A0 c0 l0 w P0 hv k hk0 hk a2 hi hub
      · exact natShifts_pos_in A0 c0 l0 w P0 hv k hk0 hk j hj hub
      · exact natShifts_pos_over A0 c0 l0 w P0 hv k hk0 hk j hj hub
end Go.Proofs.Ytnhoooadnpdnmaa

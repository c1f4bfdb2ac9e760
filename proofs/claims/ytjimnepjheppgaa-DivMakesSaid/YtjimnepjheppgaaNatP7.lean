/- nat.Shl, nat.Shr: so often twice, so often the half. Conditions: as typed (lengths that fit a machine). -/
import Derived.Test.YtjimnepjheppgaaNatP6
namespace Go.Proofs.Ytjimnepjheppgaa
open Go.RowKit
set_option maxRecDepth 20000

theorem nbits_up_eq (n k : Nat) (h : n ≠ 0) : nbits (2 ^ k * n) = nbits n + k := by
  have hp : 0 < 2 ^ k := Nat.pow_pos (by omega)
  have h1 := nbits_lt n
  have h2 := nbits_le n h
  refine nbits_eq _ _ ?_ fun _ => ?_
  · rw [Nat.pow_add, Nat.mul_comm (2 ^ k)]
    exact Nat.mul_lt_mul_of_pos_right h1 hp
  · have h0 : 0 < nbits n := by
      rcases Nat.eq_zero_or_pos (nbits n) with h' | h'
      · rw [h'] at h1; simp at h1; omega
      · exact h'
    rw [show nbits n + k - 1 = k + (nbits n - 1) by omega, Nat.pow_add]
    exact Nat.mul_le_mul_left _ h2
theorem nbits_down_eq (n k : Nat) (h : k < nbits n) : nbits (n / 2 ^ k) = nbits n - k := by
  have hn : n ≠ 0 := by intro h'; rw [h', nbits_zero] at h; omega
  have hp : 0 < 2 ^ k := Nat.pow_pos (by omega)
  have h1 := nbits_lt n
  have h2 := nbits_le n hn
  refine nbits_eq _ _ ?_ fun _ => ?_
  · rw [Nat.div_lt_iff_lt_mul hp, ← Nat.pow_add, show nbits n - k + k = nbits n by omega]
    exact h1
  · rw [Nat.le_div_iff_mul_le hp, ← Nat.pow_add, show nbits n - k - 1 + k = nbits n - 1 by omega]
    exact h2
theorem down_none (n k : Nat) (h : nbits n ≤ k) : n / 2 ^ k = 0 := Nat.div_eq_of_lt (Nat.lt_of_lt_of_le (nbits_lt n) (Nat.pow_le_pow_right (by omega) h))

theorem shS_nat (a : List Nat) (ha : Words a) (j r : Nat) (hr : r < 64) : shS a (j : Int) r = natOf a * 2 ^ r / 18446744073709551616 ^ j % 18446744073709551616 := by
  unfold shS
  rw [wordS_nat]
  exact shl_word a ha j r hr
theorem shS_up (a : List Nat) (ha : Words a) (Q r : Nat) (hr : r < 64) (i : Nat) : shS a ((i : Int) - (Q : Int)) r = 2 ^ (64 * Q + r) * natOf a / 18446744073709551616 ^ i % 18446744073709551616 := by
  rcases Nat.lt_or_ge i Q with h | h
  · unfold shS
    rw [wordS_neg a _ (by omega), wordS_neg a _ (by omega)]
    obtain ⟨d, rfl⟩ : ∃ d, Q = i + 1 + d := ⟨Q - (i + 1), by omega⟩
    have e : 2 ^ (64 * (i + 1 + d) + r) * natOf a = 18446744073709551616 ^ i * (18446744073709551616 * (2 ^ (64 * d + r) * natOf a)) := by
      rw [pow_64_2, show 64 * (i + 1 + d) + r = 64 * i + (64 + (64 * d + r)) by omega, Nat.pow_add, Nat.pow_add 2 64]
      simp only [Nat.mul_assoc]
    rw [e, Nat.mul_div_cancel_left _ (Nat.pow_pos (by omega)), Nat.mul_mod_right]
    simp
  · obtain ⟨j, rfl⟩ : ∃ j, i = Q + j := ⟨i - Q, by omega⟩
    rw [show ((Q + j : Nat) : Int) - (Q : Int) = (j : Int) by omega, shS_nat a ha j r hr]
    rw [Nat.pow_add 18446744073709551616 Q j, Nat.pow_add 2 (64 * Q) r, ← pow_64_2, Nat.mul_assoc, Nat.mul_div_mul_left _ _ (Nat.pow_pos (by omega)), Nat.mul_comm (2 ^ r)]
theorem shS_down (a : List Nat) (ha : Words a) (V s r : Nat) (hr : r < 64) (hs : s + r = 64 * V) (i : Nat) : shS a ((i : Int) + (V : Int)) r = natOf a / 2 ^ s / 18446744073709551616 ^ i % 18446744073709551616 := by
  rw [show (i : Int) + (V : Int) = ((i + V : Nat) : Int) by omega, shS_nat a ha _ r hr]
  have e : (18446744073709551616 : Nat) ^ (i + V) = 2 ^ s * 18446744073709551616 ^ i * 2 ^ r := by
    rw [Nat.pow_add, pow_64_2 V, ← hs, Nat.pow_add]
    simp only [Nat.mul_assoc, Nat.mul_comm, Nat.mul_left_comm]
  rw [e, Nat.mul_div_mul_right _ _ (Nat.pow_pos (by omega)), ← Nat.div_div_eq_div_mul]

theorem out_none (w : World) : OutNat 0 w (.returned (.slice none 0 0)) w := by
  refine ⟨_, rfl, ?_, Below.refl _ _⟩
  have e : wd 0 = [] := by simp [wd, nbits_zero, words]
  rw [nbits_zero, e]
  exact World.ownsRow_nil _ _ _ _

section
variable (A : Option Addr) (a : List Nat) (ha : Words a) (c : Nat) (w : World) (hrd : Rd .u64 w w.heap.size A a) (hl : a.length ≤ 100000) (hc : a.length ≤ c)
include ha hrd hl hc
set_option maxHeartbeats 400000 in
theorem shift_none (k : Int) (hk0 : -100000 ≤ k) (hk1 : k ≤ 100000) (h : natOf a = 0 ∨ (nbits (natOf a) : Int) + k ≤ 0) : Calls Try.prog 61 #[.slice A a.length c, .int .i64 k] w (OutNat 0 w) := by
  have hsz := nbits_natOf a ha
  have Q := bits_q A c a w w.heap.size hrd ha (by omega) hc
  have HO := Lib.hid (out_none w)
  by_cases h0 : nbits (natOf a) = 0
  · rw [h0] at Q
    have HQ := Lib.hid Q
    clear Q h h0
    go_enter Try.func61, Try.ntmps61
    go_wp2_with fail
    refine (HQ.out).mono ?_
    rintro e w' ⟨rfl, rfl⟩
    go_wp2_with fail
    go_ret
    exact HO.out
  · have h2 : (nbits (natOf a) : Int) + k ≤ 0 := by
      rcases h with h | h
      · rw [h, nbits_zero] at h0; omega
      · exact h
    have hb0 : ((nbits (natOf a) : Int) == 0) = false := by simp; omega
    have HQ := Lib.hid Q
    clear Q h h0
    go_enter Try.func61, Try.ntmps61
    go_wp2_with fail
    refine (HQ.out).mono ?_
    rintro e w' ⟨rfl, rfl⟩
    go_wp2_with fail
    go_ret
    exact HO.out

theorem shift_up (k : Nat) (hk : k ≤ 65536) : Calls Try.prog 61 #[.slice A a.length c, .int .i64 (k : Int)] w (OutNat (2 ^ k * natOf a) w) := by
  by_cases h0 : natOf a = 0
  · have := shift_none A a ha c w hrd hl hc (k : Int) (by omega) (by omega) (.inl h0)
    rwa [h0, Nat.mul_zero]
  · obtain ⟨t, q, r, hr, hk2, h1, h2, h3, h4, h5⟩ := shift_nums (k : Int)
    obtain ⟨Q, rfl⟩ := Int.eq_ofNat_of_zero_le (show 0 ≤ q by omega)
    have hb := nbits_up_eq (natOf a) k h0
    exact shift_core A a ha c (k : Int) (Q : Int) t r (nbits (natOf a) + k) (2 ^ k * natOf a) _ w hrd hl hc (by omega) (by omega) hr h1 h2 h3 h4 h5 (by omega) (by omega) h0 (by omega)
      (by have h1 := nbits_lt (natOf a); rcases Nat.eq_zero_or_pos (nbits (natOf a)) with h | h; rw [h] at h1; simp at h1; omega; omega) hb rfl
      (fun i => by rw [show k = 64 * Q + r by omega]; exact shS_up a ha Q r hr i)

theorem shift_down (k : Nat) (hk : k ≤ 65536) : Calls Try.prog 61 #[.slice A a.length c, .int .i64 (-(k : Int))] w (OutNat (natOf a / 2 ^ k) w) := by
  by_cases h0 : natOf a = 0
  · have := shift_none A a ha c w hrd hl hc (-(k : Int)) (by omega) (by omega) (.inl h0)
    rwa [h0, Nat.zero_div]
  · by_cases h6 : nbits (natOf a) ≤ k
    · have := shift_none A a ha c w hrd hl hc (-(k : Int)) (by omega) (by omega) (.inr (by omega))
      rwa [down_none _ _ h6]
    · obtain ⟨t, q, r, hr, hk2, h1, h2, h3, h4, h5⟩ := shift_nums (-(k : Int))
      obtain ⟨V, hV⟩ := Int.eq_ofNat_of_zero_le (show 0 ≤ -q by omega)
      have hb := nbits_down_eq (natOf a) k (by omega)
      exact shift_core A a ha c (-(k : Int)) q t r (nbits (natOf a) - k) (natOf a / 2 ^ k) _ w hrd hl hc (by omega) (by omega) hr h1 h2 h3 h4 h5 (by omega) (by omega) h0 (by omega) (by omega) hb rfl
        (fun i => by rw [show (i : Int) - q = (i : Int) + (V : Int) by omega]; exact shS_down a ha V k r hr (by omega) i)

set_option maxHeartbeats 400000 in
theorem shl_pf (k : Int) : Calls Try.prog 41 #[.slice A a.length c, .int .i64 k] w (OutNat (shlS (natOf a) k) w) := by
  by_cases h : 0 ≤ k ∧ k ≤ 65536
  · obtain ⟨j, rfl⟩ := Int.eq_ofNat_of_zero_le h.1
    have S := Lib.hid (shift_up A a ha c w hrd hl hc j (by omega))
    have e : shlS (natOf a) (j : Int) = 2 ^ j * natOf a := by unfold shlS; rw [if_pos h, Int.toNat_natCast]
    rw [e]
    have M := Lib.hid (mayShift_yes (j : Int) w h.1 h.2)
    clear h e
    go_enter Try.func41, Try.ntmps41
    go_wp2_with fail
    refine (M.out).mono ?_
    rintro e w' ⟨rfl, rfl⟩
    go_wp2_with fail
    refine (S.out).mono ?_
    rintro e w1 ⟨v, rfl, own, hb⟩
    obtain ⟨X, d, rfl, _⟩ := own_form own
    have HO := Lib.hid own
    clear own
    go_wp2_with fail
    go_ret
    exact ⟨_, rfl, HO.out, hb⟩
  · have e : shlS (natOf a) k = 0 := by unfold shlS; rw [if_neg h]
    rw [e]
    have M := Lib.hid (mayShift_no k w (by omega))
    have HO := Lib.hid (out_none w)
    clear h e
    go_enter Try.func41, Try.ntmps41
    go_wp2_with fail
    refine (M.out).mono ?_
    rintro e w' ⟨rfl, rfl⟩
    go_wp2_with fail
    go_ret
    exact HO.out

set_option maxHeartbeats 400000 in
theorem shr_pf (k : Int) : Calls Try.prog 45 #[.slice A a.length c, .int .i64 k] w (OutNat (shrS (natOf a) k) w) := by
  by_cases h : 0 ≤ k ∧ k ≤ 65536
  · obtain ⟨j, rfl⟩ := Int.eq_ofNat_of_zero_le h.1
    have S := Lib.hid (shift_down A a ha c w hrd hl hc j (by omega))
    have e : shrS (natOf a) (j : Int) = natOf a / 2 ^ j := by unfold shrS; rw [if_pos h, Int.toNat_natCast]
    rw [e]
    have M := Lib.hid (mayShift_yes (j : Int) w h.1 h.2)
    have hj : j ≤ 65536 := by omega
    clear h e
    go_enter Try.func45, Try.ntmps45
    go_wp2_with fail
    refine (M.out).mono ?_
    rintro e w' ⟨rfl, rfl⟩
    go_wp2_with fail
    refine (S.out).mono ?_
    rintro e w1 ⟨v, rfl, own, hb⟩
    obtain ⟨X, d, rfl, _⟩ := own_form own
    have HO := Lib.hid own
    clear own
    go_wp2_with fail
    go_ret
    exact ⟨_, rfl, HO.out, hb⟩
  · have e : shrS (natOf a) k = 0 := by unfold shrS; rw [if_neg h]
    rw [e]
    have M := Lib.hid (mayShift_no k w (by omega))
    have HO := Lib.hid (out_none w)
    clear h e
    go_enter Try.func45, Try.ntmps45
    go_wp2_with fail
    refine (M.out).mono ?_
    rintro e w' ⟨rfl, rfl⟩
    go_wp2_with fail
    go_ret
    exact HO.out
end
end Go.Proofs.Ytjimnepjheppgaa

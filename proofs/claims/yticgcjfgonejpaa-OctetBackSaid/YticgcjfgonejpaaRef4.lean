/- The contracts of the document's Take and TakeNat: they come to the same numbers. Conditions: as typed. -/
import Derived.Test.YticgcjfgonejpaaRef3
namespace Go.Proofs.Yticgcjfgonejpaa
open Go.RowKit

theorem nth_be_any (k n j : Nat) (h : j < k) : nth (be k n) j = dig n (k - 1 - j) := by
  induction k generalizing j with
  | zero => omega
  | succ k ih =>
    cases j with
    | zero => simp [be, nth]
    | succ j =>
      have := ih j (by omega)
      rw [show k + 1 - 1 - (j + 1) = k - 1 - j by omega, ← this]
      simp [be, nth]
theorem dig_val (m : List Nat) (h : Bytes m) (i : Nat) (hi : i < m.length) : dig (val m) i = nth m (m.length - 1 - i) := by
  have := nth_be_any m.length (val m) (m.length - 1 - i) (by omega)
  rw [be_val m h, show m.length - 1 - (m.length - 1 - i) = i by omega] at this
  exact this.symm
/-- Digit i of a number that stands among bytes. -/
theorem dig_part (l : List Nat) (h : Bytes l) (f n i : Nat) (hn : f + n ≤ l.length) (hi : i < n) : dig (val ((l.drop f).take n)) i = nth l (f + n - 1 - i) := by
  have hlen : ((l.drop f).take n).length = n := by simp; omega
  rw [dig_val _ ((h.drop f).take n) i (by rw [hlen]; exact hi), hlen]
  simp only [nth, List.getD_eq_getElem?_getD]
  rw [List.getElem?_take_of_lt (by omega), List.getElem?_drop, show f + (n - 1 - i) = f + n - 1 - i by omega]
theorem low_succ (N i : Nat) : N % 256 ^ (i + 1) = N % 256 ^ i + 256 ^ i * dig N i := by rw [Nat.mod_pow_succ, dig]
theorem low_lt (N i K : Nat) (h : i ≤ 8 * K) : N % 256 ^ i < 18446744073709551616 ^ K := by
  rw [pow_64]
  exact Nat.lt_of_lt_of_le (Nat.mod_lt _ (Nat.pow_pos (by omega))) (Nat.pow_le_pow_right (by omega) h)
/-- One word more, that is 0. -/
theorem words_more (K V : Nat) (h : V < 18446744073709551616 ^ K) : words K V ++ [0] = words (K + 1) V := by
  refine ext_nth _ _ (by simp [length_words]) fun j hj => ?_
  have hj' : j < K + 1 := by simpa [length_words] using hj
  rw [nth_words _ _ _ hj']
  by_cases e : j < K
  · have h1 : nth (words K V ++ [0]) j = nth (words K V) j := by simp [nth, List.getElem?_append_left (show j < (words K V).length by rw [length_words]; exact e)]
    rw [h1, nth_words _ _ _ e]
  · obtain rfl : j = K := by omega
    have h1 : nth (words j V ++ [0]) j = 0 := by simp [nth, length_words]
    rw [h1, Nat.div_eq_of_lt h]
/-- A byte more, from below. -/
theorem words_low (N i : Nat) : (words (i / 8 + 1) (N % 256 ^ i)).set (i / 8) (nth (words (i / 8 + 1) (N % 256 ^ i)) (i / 8) ||| dig N i * 2 ^ (8 * (i % 8))) = words (i / 8 + 1) (N % 256 ^ (i + 1)) := by
  have hd := dig_lt N i
  have hV := low_lt N i (i / 8 + 1) (by omega)
  have ew := nth_words (i / 8 + 1) (N % 256 ^ i) (i / 8) (by omega)
  have h1 : nth (words (i / 8 + 1) (N % 256 ^ i)) (i / 8) < 2 ^ (8 * (i % 8)) := by
    rw [ew, ← pow_256]
    refine Nat.lt_of_le_of_lt (Nat.mod_le _ _) ?_
    rw [Nat.div_lt_iff_lt_mul (Nat.pow_pos (by omega)), pow_64, ← Nat.pow_add, show i % 8 + 8 * (i / 8) = i by omega]
    exact Nat.mod_lt _ (Nat.pow_pos (by omega))
  have h2 : nth (words (i / 8 + 1) (N % 256 ^ i)) (i / 8) ||| dig N i * 2 ^ (8 * (i % 8)) < 18446744073709551616 := by
    refine Nat.or_lt_two_pow (n := 64) (Nat.lt_of_lt_of_le h1 (Nat.pow_le_pow_right (by omega) (by omega))) ?_
    have h3 : dig N i * 2 ^ (8 * (i % 8)) ≤ 255 * 2 ^ (8 * (i % 8)) := Nat.mul_le_mul_right _ (by omega)
    have h4 : 255 * 2 ^ (8 * (i % 8)) ≤ 255 * 2 ^ 56 := Nat.mul_le_mul_left _ (Nat.pow_le_pow_right (by omega) (by omega))
    omega
  have ha : nth (words (i / 8 + 1) (N % 256 ^ i)) (i / 8) ||| dig N i * 2 ^ (8 * (i % 8)) = nth (words (i / 8 + 1) (N % 256 ^ i)) (i / 8) + dig N i * 2 ^ (8 * (i % 8)) := by
    rw [Nat.or_comm, nat_join (8 * (i % 8)) _ _ (by simp) h1, Nat.add_comm]
  rw [ha] at h2 ⊢
  have hw : Words ((words (i / 8 + 1) (N % 256 ^ i)).set (i / 8) (nth (words (i / 8 + 1) (N % 256 ^ i)) (i / 8) + dig N i * 2 ^ (8 * (i % 8)))) := fun y hy => by
    rcases mem_set hy with rfl | h
    · exact h2
    · exact words_words _ _ y h
  have hf := words_natOf _ hw
  rw [List.length_set, length_words, natOf_set _ _ _ (by rw [length_words]; omega), natOf_words, Nat.mod_eq_of_lt hV] at hf
  rw [← hf, low_succ]
  congr 2
  rw [← pow_256, pow_64, Nat.mul_left_comm, ← Nat.pow_add, show 8 * (i / 8) + i % 8 = i by omega, Nat.mul_comm]

theorem refTake_arg (A : Option Addr) (n c : Nat) (i : Int) (w : World) (h : i < 0 ∨ (n : Int) < i) :
    Calls Try.prog 25 #[.slice A n c, .int .i64 i, .int .i64 2] w fun e w' => e = .returned (.tuple #[.int .u64 0, .int .i64 0, .int .i64 1]) ∧ w = w' := by
  by_cases h1 : i < 0
  · go_enter Try.func25, Try.ntmps25
    go_wp2_with fail
    go_ret3
    exact ⟨rfl, rfl⟩
  · have h2 : (n : Int) < i := by omega
    go_enter Try.func25, Try.ntmps25
    go_wp2_with fail
    go_ret3
    exact ⟨rfl, rfl⟩

set_option maxHeartbeats 400000 in
theorem refTake_in (A : Option Addr) (c : Nat) (l : List Nat) (i : Nat) (w : World) (hr : Rd .u8 w w.heap.size A l) (hby : Bytes l) (hl : l.length ≤ 1099511627776) (hi : i ≤ l.length) :
    Calls Try.prog 25 #[.slice A l.length c, .int .i64 i, .int .i64 2] w (TakeOut l i 2 w) := by
  have hd : decide ((i : Int) < 0) = false := by simp
  have hd2 : decide ((l.length : Int) < (i : Int)) = false := by simp; omega
  by_cases hs : l.length < i + 2
  · go_enter Try.func25, Try.ntmps25
    go_wp2_with fail
    go_ret3
    exact ⟨fun h => by omega, fun _ => rfl, Below.refl _ _⟩
  · have hd3 : decide ((l.length : Int) - (i : Int) < 2) = false := by simp; omega
    go_enter Try.func25, Try.ntmps25
    go_wp2_with fail
    go_loop [9, 10] (fun n j => ∃ k : Nat, k ≤ 2 ∧ j = .int .i64 k ∧ n = .int .u64 (val ((l.drop i).take k))) (fun _ j => 2 - (intOf j).toNat)
    case atStart => exact ⟨0, by omega, rfl, rfl⟩
    case round =>
      obtain ⟨k, hk, rfl, rfl⟩ := hrel
      by_cases hk2 : k < 2
      · obtain ⟨b, off, rfl, _, hcell⟩ := hr (by omega)
        have hx := hcell (i + k) (by omega)
        have hxb := hby _ (nth_mem l (i + k) (by omega))
        have hV : val ((l.drop i).take k) < 256 := Nat.lt_of_lt_of_le (val_part_lt l hby i k) (Nat.le_trans (Nat.pow_le_pow_right (by omega) (show k ≤ 1 by omega)) (by decide))
        have Hv := Lib.hid (show (val ((l.drop i).take k) * 256 + nth l (i + k)) = val ((l.drop i).take (k + 1)) by rw [take_drop_succ l i k (by omega), val_snoc])
        clear hcell
        go_wp2_with fail
        go_round
        case rel => exact ⟨k + 1, by omega, by go_num, by rw [← Hv.out]; congr 1; omega⟩
        case measure => simp [intOf]; omega
      · go_wp2_with fail
        go_ret3
        obtain rfl : k = 2 := by omega
        exact ⟨fun _ => rfl, fun h => by omega, Below.refl _ _⟩
end Go.Proofs.Yticgcjfgonejpaa

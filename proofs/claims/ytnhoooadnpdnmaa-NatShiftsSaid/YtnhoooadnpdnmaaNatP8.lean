/- nat.Bytes, nat.FromBytes: digits to the base 256. Conditions: as typed (lengths that fit a machine). -/
import Derived.Test.YtnhoooadnpdnmaaNatP7
namespace Go.Proofs.Ytnhoooadnpdnmaa
open Go.RowKit

/-- Noughts, and the lowest i digits behind them. -/
def bsAt (N S i : Nat) : List Nat := List.replicate (S - i) 0 ++ be i N
theorem length_bsAt (N S i : Nat) (h : i ≤ S) : (bsAt N S i).length = S := by simp [bsAt, length_be]; omega
theorem bsAt_zero (N S : Nat) : bsAt N S 0 = List.replicate S 0 := by simp [bsAt, be]
theorem bsAt_end (N S : Nat) : bsAt N S S = be S N := by simp [bsAt]
theorem bsAt_set (N i d : Nat) : (bsAt N (i + 1 + d) i).set d (dig N i) = bsAt N (i + 1 + d) (i + 1) := by
  unfold bsAt
  rw [show i + 1 + d - i = d + 1 by omega, show i + 1 + d - (i + 1) = d by omega, List.replicate_succ', List.append_assoc, List.set_append_right _ _ (by simp), List.length_replicate, Nat.sub_self, be]
  rfl
theorem make_bytes (m : Nat) (u : World) (hm : m ≤ 10000000) : (Instr.makeSlice 27 (.int .i64 (m : Int)) (.int .i64 (m : Int))).run Try.prog u =
      .ok (.slice (some ⟨u.heap.size, 0, none⟩) m m) (u.alloc (.cells (List.replicate m (Value.int .u8 0)).toArray 5)) := by
  obtain ⟨i0, hi, hz0, hz1, hz2⟩ := info_parts num_info_u8
  have h := run_make (P := Try.prog) u 27 5 i0 (.int .u8 0) Try.underlying27 hi hz0 .i64 .i64 (m : Int) (m : Int) (by omega) (by omega) (by rw [hz2]; omega) (by omega)
  rw [Int.toNat_natCast, hz1, Nat.mul_one] at h
  rw [h, ← toList_madeCells_one]
  rfl
theorem brow_new (w : World) (m : Nat) (hm : m ≤ 10000000) (N : Nat) : (w.alloc (.cells (Array.replicate m (Value.int .u8 0)) 5)).ownsRow w.heap.size 5 1 (.slice (some ⟨w.heap.size, 0, none⟩) m m) m (ints .u8 (bsAt N m 0)) := by
  rw [bsAt_zero]
  exact own_of_heap (cur := List.replicate m (Value.int .u8 0)) (by have h := heap_alloc_new w (.cells (Array.replicate m (Value.int .u8 0)) 5); simpa using h) (Nat.le_refl _) (Nat.le_refl _) (by unfold maxLen; omega) (by simp) (by simp [ints])

set_option maxHeartbeats 1000000 in
theorem bytes_pf (A : Option Addr) (c : Nat) (a : List Nat) (w : World) (hr : Rd .u64 w w.heap.size A a) (hw : Words a) (hl : a.length ≤ 100000) (hc : a.length ≤ c) :
    Calls Try.prog 34 #[.slice A a.length c] w (OutBytes (natOf a) w) := by
  have hsz := nbits_natOf a hw
  have hbl := blen_natOf a hw
  have Q := Lib.hid (bits_q A c a w w.heap.size hr hw (by omega) hc)
  have P := parts_any (nbits (natOf a)) 8 w (by omega) (by omega) (by omega)
  rw [show (nbits (natOf a) + 8 - 1) / 8 = blen (natOf a) from nbits_blen _] at P
  have HP := Lib.hid P
  obtain ⟨S, hS⟩ : ∃ S, blen (natOf a) = S := ⟨_, rfl⟩
  rw [hS] at HP hbl
  have HS := Lib.hid hS
  have hmk := fun u => make_bytes S u (by omega)
  clear P hS
  go_enter Try.func34, Try.ntmps34
  go_wp2_with fail
  refine (Q.out).mono ?_
  rintro e w' ⟨rfl, rfl⟩
  go_wp2_with fail
  refine (HP.out).mono ?_
  rintro e w' ⟨rfl, rfl⟩
  go_wp2_with fail
  have hown0 := brow_new w S (by omega) (natOf a)
  obtain ⟨E, hE⟩ : ∃ E, w.alloc (.cells (Array.replicate S (Value.int .u8 0)) 5) = E := ⟨_, rfl⟩
  have hbE : Below w.heap.size w E := by rw [← hE]; exact (Below.refl _ w).alloc (Nat.le_refl _) _
  rw [hE] at hown0 ⊢
  clear hmk hE
  go_loopw [12] (fun j wr => ∃ i : Nat, i ≤ S ∧ j = .int .i64 i ∧ wr.ownsRow w.heap.size 5 1 (.slice (some ⟨w.heap.size, 0, none⟩) S S) S (ints .u8 (bsAt (natOf a) S i)) ∧ Below w.heap.size w wr) (fun j _ => S - (intOf j).toNat)
  case atStart => exact ⟨0, Nat.zero_le _, rfl, hown0, hbE⟩
  case round =>
    obtain ⟨i, hi, rfl, hown, hb⟩ := hrel
    by_cases hlt : i < S
    · obtain ⟨d, hd⟩ : ∃ d, S = i + 1 + d := ⟨S - (i + 1), by omega⟩
      obtain ⟨b, off, rfl, hbB, hcell⟩ := hr.below hb (by omega)
      have hx := hcell (i / 8) (by omega)
      have hxl := nth_lt a hw (i / 8)
      have hst := hown.stored d (.int .u8 ((dig (natOf a) i : Nat) : Int))
      rw [ints_set, hd, bsAt_set, ← hd] at hst
      have hc4 : wr.cell? ⟨w.heap.size, d, none⟩ = some (.int .u8 (nth (bsAt (natOf a) S i) d : Int)) := by rw [hown.cellAt _ (by omega), ints_get _ _ _ (by rw [length_bsAt _ _ _ (by omega)]; omega)]
      have hf4 : wr.frozen? ⟨w.heap.size, d, none⟩ = false := hown.frozenAt _
      have HO := Lib.hid hst.1
      have hidx : (S : Int) - 1 - (i : Int) = (d : Int) := by omega
      have hdS : d < S := by omega
      have HV := Lib.hid (word_byte_int a hw i)
      have hi8 : i / 8 < a.length := by omega
      clear hst hown hcell hd
      go_wp2_with fail
      rw [HV.out]
      go_roundw
      case rel => exact ⟨i + 1, by omega, by go_num, HO.out, hb.setCell (p := ⟨w.heap.size, d, none⟩) (by simp) _⟩
      case measure => simp [intOf]; omega
    · obtain rfl : i = S := by omega
      rw [bsAt_end] at hown
      have HO := Lib.hid (show wr.ownsRow w.heap.size 5 1 (.slice (some ⟨w.heap.size, 0, none⟩) i i) (blen (natOf a)) (ints .u8 (be (blen (natOf a)) (natOf a))) by rw [HS.out]; exact hown)
      clear hown
      go_wp2_with fail
      go_ret
      exact ⟨_, rfl, HO.out, hb⟩

theorem wrow_new (w : World) (m : Nat) (hm : m ≤ 1000000) : (w.alloc (.cells (Array.replicate m (Value.int .u64 0)) 24)).ownsRow w.heap.size 24 1 (.slice (some ⟨w.heap.size, 0, none⟩) m m) m (ints .u64 (words m 0)) := by
  have h := row_new w m hm 0
  rwa [wsAt_zero, ← words_none] at h
theorem take_nth (l : List Nat) (i : Nat) (h : i < l.length) : l.take (i + 1) = l.take i ++ [nth l i] := by
  rw [List.take_succ_eq_append_getElem h, nth_eq l i h]
theorem val_room (l : List Nat) (hb : Bytes l) : val l < 18446744073709551616 ^ ((l.length + 8 - 1) / 8) := by
  rw [pow_64]
  exact Nat.lt_of_lt_of_le (val_lt l hb) (Nat.pow_le_pow_right (by omega) (by omega))
theorem val_take_room (l : List Nat) (hb : Bytes l) (i : Nat) (h : i ≤ l.length) : val (l.take i) * 256 ^ (l.length - i) < 18446744073709551616 ^ ((l.length + 8 - 1) / 8) := by
  have h1 := val_lt (l.take i) (hb.take i)
  rw [List.length_take, Nat.min_eq_left h] at h1
  have h2 : val (l.take i) * 256 ^ (l.length - i) < 256 ^ i * 256 ^ (l.length - i) := Nat.mul_lt_mul_of_pos_right h1 (Nat.pow_pos (by omega))
  rw [← Nat.pow_add, show i + (l.length - i) = l.length by omega] at h2
  rw [pow_64]
  exact Nat.lt_of_lt_of_le h2 (Nat.pow_le_pow_right (by omega) (by omega))

set_option maxHeartbeats 1000000 in
theorem fromBytes_pf (A : Option Addr) (c : Nat) (l : List Nat) (w : World) (hr : Rd .u8 w w.heap.size A l) (hby : Bytes l) (hl : l.length ≤ 100000) : Calls Try.prog 33 #[.slice A l.length c] w (OutNat (val l) w) := by
  have P := parts_any l.length 8 w (by omega) (by omega) (by omega)
  obtain ⟨K, hK⟩ : ∃ K, (l.length + 8 - 1) / 8 = K := ⟨_, rfl⟩
  rw [hK] at P
  have hK2 : K ≤ 100000 := by omega
  have HP := Lib.hid P
  have HK := Lib.hid hK
  have hmk := fun u => make_row K u (by omega)
  clear P hK
  go_enter Try.func33, Try.ntmps33
  go_wp2_with fail
  refine (HP.out).mono ?_
  rintro e w' ⟨rfl, rfl⟩
  go_wp2_with fail
  have hown0 := wrow_new w K (by omega)
  obtain ⟨E, hE⟩ : ∃ E, w.alloc (.cells (Array.replicate K (Value.int .u64 0)) 24) = E := ⟨_, rfl⟩
  have hbE : Below w.heap.size w E := by rw [← hE]; exact (Below.refl _ w).alloc (Nat.le_refl _) _
  rw [hE] at hown0 ⊢
  clear hmk hE
  go_loopw [13] (fun j wr => ∃ i : Nat, i ≤ l.length ∧ j = .int .i64 i ∧ wr.ownsRow w.heap.size 24 1 (.slice (some ⟨w.heap.size, 0, none⟩) K K) K (ints .u64 (words K (val (l.take i) * 256 ^ (l.length - i)))) ∧ Below w.heap.size w wr) (fun j _ => l.length - (intOf j).toNat)
  case atStart => exact ⟨0, Nat.zero_le _, rfl, by simpa [val] using hown0, hbE⟩
  case round =>
    obtain ⟨i, hi, rfl, hown, hb⟩ := hrel
    by_cases hlt : i < l.length
    · obtain ⟨m, hm⟩ : ∃ m, l.length = i + 1 + m := ⟨l.length - (i + 1), by omega⟩
      obtain ⟨b, off, rfl, hbB, hcell⟩ := hr.below hb (by omega)
      have hx := hcell i hlt
      have hx8 : nth l i < 256 := hby _ (nth_mem l i hlt)
      have hroom := val_take_room l hby (i + 1) (by omega)
      rw [take_nth l i hlt, val_snoc, HK.out, show l.length - (i + 1) = m by omega] at hroom
      rw [show l.length - i = m + 1 by omega] at hown
      have hm8 : m / 8 < K := by have := HK.out; omega
      have hor := words_or K (val (l.take i)) m (nth l i) hx8 hm8 (by rw [Nat.add_mul, Nat.mul_assoc, ← Nat.pow_succ'] at hroom; exact hroom)
      obtain ⟨Wd, hWd⟩ : ∃ Wd, words K (val (l.take i) * 256 ^ (m + 1)) = Wd := ⟨_, rfl⟩
      have hWl : Wd.length = K := by rw [← hWd, length_words]
      have hWw : Words Wd := by rw [← hWd]; exact words_words _ _
      rw [hWd] at hor hown
      have hst := hown.stored (m / 8) (.int .u64 ((nth Wd (m / 8) ||| nth l i * 2 ^ (8 * (m % 8)) : Nat) : Int))
      rw [ints_set, hor] at hst
      have hc4 : wr.cell? ⟨w.heap.size, m / 8, none⟩ = some (.int .u64 (nth Wd (m / 8) : Int)) := by rw [hown.cellAt _ (by omega), ints_get _ _ _ (by omega)]
      have hf4 : wr.frozen? ⟨w.heap.size, m / 8, none⟩ = false := hown.frozenAt _
      have hwl := nth_lt Wd hWw (m / 8)
      have HO := Lib.hid (show (wr.setCell ⟨w.heap.size, m / 8, none⟩ (.int .u64 ((nth Wd (m / 8) ||| nth l i * 2 ^ (8 * (m % 8)) : Nat) : Int))).ownsRow w.heap.size 24 1 (.slice (some ⟨w.heap.size, 0, none⟩) K K) K (ints .u64 (words K (val (l.take (i + 1)) * 256 ^ (l.length - (i + 1))))) by
        rw [take_nth l i hlt, val_snoc, show l.length - (i + 1) = m by omega]; exact hst.1)
      have HV := Lib.hid (shl_or_word (nth Wd (m / 8)) (nth l i) (m % 8) hwl hx8 (Nat.mod_lt _ (by omega)))
      have hidx : (l.length : Int) - 1 - (i : Int) = (m : Int) := by omega
      clear hst hown hcell hroom hor hm hWd hWl hWw
      go_wp2_with fail
      go_region
      go_wp2_with fail
      rw [HV.out]
      go_roundw
      case rel => exact ⟨i + 1, by omega, by go_num, HO.out.drew, (hb.setCell (p := ⟨w.heap.size, m / 8, none⟩) (by simp) _).drew⟩
      case measure => simp [intOf]; omega
    · obtain rfl : i = l.length := by omega
      rw [List.take_length, Nat.sub_self, Nat.pow_zero, Nat.mul_one] at hown
      have hV := val_room l hby
      rw [HK.out] at hV
      have HT := Lib.hid (trim_own wr w.heap.size K K _ _ hown hV (by omega) (Nat.le_refl _))
      have HO := Lib.hid (own_trim hown hV)
      clear hown hV
      go_wp2_with fail
      refine (HT.out).mono ?_
      rintro e w' ⟨rfl, rfl⟩
      go_wp2_with fail
      go_ret
      exact ⟨_, rfl, HO.out, hb⟩
end Go.Proofs.Ytnhoooadnpdnmaa

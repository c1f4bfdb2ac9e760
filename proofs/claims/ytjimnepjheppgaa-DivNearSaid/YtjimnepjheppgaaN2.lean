/- The contracts of the document's Words, Is, Same, Copy, Of, Small. Conditions: as typed. -/
import Derived.Test.YtjimnepjheppgaaN1
namespace Go.Proofs.Ytjimnepjheppgaa
open Go.RowKit
set_option maxRecDepth 20000

theorem own_pos2 {w : World} {base : Nat} {e : TypeId} {n : Nat} {v : Value} {xs : List Value} (h : w.ownsRow base e 1 v n xs) (hn : 0 < n) : ∃ g c, v = .slice (some ⟨g, 0, none⟩) n c ∧ base ≤ g ∧ g < w.heap.size ∧ n ≤ c := by
  rcases h.2 with ⟨_, h0⟩ | ⟨g, cap, cur, rfl, hb, hh, hc, _⟩
  · omega
  · refine ⟨g, cap, rfl, hb, ?_, hc⟩
    rcases Nat.lt_or_ge g w.heap.size with h1 | h1
    · exact h1
    · rw [Array.getElem?_eq_none h1] at hh; cases hh
theorem low_lt2 (N i K : Nat) (h : i ≤ 64 * K) : N % 2 ^ i < 18446744073709551616 ^ K := by
  rw [pow_64_2]
  exact Nat.lt_of_lt_of_le (Nat.mod_lt _ (Nat.pow_pos (by omega))) (Nat.pow_le_pow_right (by omega) h)
theorem words_more2 (K V : Nat) (h : V < 18446744073709551616 ^ K) : words K V ++ [0] = words (K + 1) V := by
  refine ext_nth _ _ (by simp [length_words]) fun j hj => ?_
  have hj' : j < K + 1 := by simpa [length_words] using hj
  rw [nth_words _ _ _ hj']
  by_cases e : j < K
  · have h1 : nth (words K V ++ [0]) j = nth (words K V) j := by simp [nth, List.getElem?_append_left (show j < (words K V).length by rw [length_words]; exact e)]
    rw [h1, nth_words _ _ _ e]
  · obtain rfl : j = K := by omega
    have h1 : nth (words j V ++ [0]) j = 0 := by simp [nth, length_words]
    rw [h1, Nat.div_eq_of_lt h]
/-- a | x << r -/
theorem shl_or_bit (a x r : Nat) (ha : a < 18446744073709551616) (hx : x < 2) (hr : r < 64) :
    bits .or .u64 (a : Int) (IntKind.u64.wrap ((x : Int) * 2 ^ r)) = ((a ||| x * 2 ^ r : Nat) : Int) := by
  have h1 : x * 2 ^ r < 18446744073709551616 := by
    have h2 : x * 2 ^ r ≤ 1 * 2 ^ r := Nat.mul_le_mul_right _ (by omega)
    have h3 : 1 * 2 ^ r ≤ 1 * 2 ^ 63 := Nat.mul_le_mul_left _ (Nat.pow_le_pow_right (by omega) (by omega))
    omega
  have e : ((x : Int) * 2 ^ r) = ((x * 2 ^ r : Nat) : Int) := by simp
  rw [e, IntKind.wrap_u64]
  generalize x * 2 ^ r = y at *
  rw [show ((y : Int) % 18446744073709551616) = (y : Int) by omega, u64_or_nat _ _ ha h1]
/-- A digit more, from below. -/
theorem words_low2 (N i : Nat) : (words (i / 64 + 1) (N % 2 ^ i)).set (i / 64) (nth (words (i / 64 + 1) (N % 2 ^ i)) (i / 64) ||| bit N i * 2 ^ (i % 64)) = words (i / 64 + 1) (N % 2 ^ (i + 1)) := by
  have hd := bit_lt N i
  have hV := low_lt2 N i (i / 64 + 1) (by omega)
  have ew := nth_words (i / 64 + 1) (N % 2 ^ i) (i / 64) (by omega)
  have h1 : nth (words (i / 64 + 1) (N % 2 ^ i)) (i / 64) < 2 ^ (i % 64) := by
    rw [ew]
    refine Nat.lt_of_le_of_lt (Nat.mod_le _ _) ?_
    rw [Nat.div_lt_iff_lt_mul (Nat.pow_pos (by omega)), pow_64_2, ← Nat.pow_add, show i % 64 + 64 * (i / 64) = i by omega]
    exact Nat.mod_lt _ (Nat.pow_pos (by omega))
  have h2 : nth (words (i / 64 + 1) (N % 2 ^ i)) (i / 64) ||| bit N i * 2 ^ (i % 64) < 18446744073709551616 := by
    refine Nat.or_lt_two_pow (n := 64) (Nat.lt_of_lt_of_le h1 (Nat.pow_le_pow_right (by omega) (by omega))) ?_
    have h3 : bit N i * 2 ^ (i % 64) ≤ 1 * 2 ^ (i % 64) := Nat.mul_le_mul_right _ (by omega)
    have h4 : 1 * 2 ^ (i % 64) ≤ 1 * 2 ^ 63 := Nat.mul_le_mul_left _ (Nat.pow_le_pow_right (by omega) (by omega))
    omega
  have ha : nth (words (i / 64 + 1) (N % 2 ^ i)) (i / 64) ||| bit N i * 2 ^ (i % 64) = nth (words (i / 64 + 1) (N % 2 ^ i)) (i / 64) + bit N i * 2 ^ (i % 64) := by
    rw [Nat.or_comm, nat_join (i % 64) _ _ (by simp) h1, Nat.add_comm]
  rw [ha] at h2 ⊢
  have hw : Words ((words (i / 64 + 1) (N % 2 ^ i)).set (i / 64) (nth (words (i / 64 + 1) (N % 2 ^ i)) (i / 64) + bit N i * 2 ^ (i % 64))) := fun y hy => by
    rcases mem_set hy with rfl | h
    · exact h2
    · exact words_words _ _ y h
  have hf := words_natOf _ hw
  rw [List.length_set, length_words, natOf_set _ _ _ (by rw [length_words]; omega), natOf_words, Nat.mod_eq_of_lt hV] at hf
  rw [← hf, Nat.mod_pow_succ, show N / 2 ^ i % 2 = bit N i from rfl]
  congr 2
  rw [pow_64_2, Nat.mul_left_comm, ← Nat.pow_add, show 64 * (i / 64) + i % 64 = i by omega, Nat.mul_comm]

/-- The words of a number are answered, in new memory. -/
def OutNat (N : Nat) (w : World) (e : Ending) (w' : World) : Prop := ∃ v, e = .returned v ∧ w'.ownsRow w.heap.size 24 1 v ((nbits N + 63) / 64) (ints .u64 (wd N)) ∧ Below w.heap.size w w'

set_option maxHeartbeats 1000000 in
theorem words_any (A : Option Addr) (c : Nat) (l : List Nat) (w : World) (hr : Rd .u8 w w.heap.size A l) (h01 : Bits01 l) (hl : l.length ≤ 100000000) (hc : l.length ≤ c) :
    Calls Try.prog 27 #[.slice A l.length c] w (OutNat (bv l) w) := by
  obtain ⟨i0, hi0, hz0, hz1, hz2⟩ := info_parts num_info_u64
  have hnb := nbits_bv_le l h01
  go_enter Try.func27, Try.ntmps27
  go_wp2_with fail
  refine (numTrim_any A c l w hr h01 (by omega) hc).mono ?_
  rintro e w1 ⟨X, d, rfl, hd, R1, b1⟩
  go_wp2_with fail
  go_loopw [3, 4] (fun v j wr => ∃ i : Nat, i ≤ nbits (bv l) ∧ j = .int .i64 i ∧ wr.ownsRow w1.heap.size 24 1 v ((i + 63) / 64) (ints .u64 (words ((i + 63) / 64) (bv l % 2 ^ i))) ∧ Below w1.heap.size w1 wr) (fun _ j _ => nbits (bv l) - (intOf j).toNat)
  case atStart => exact ⟨0, Nat.zero_le _, rfl, World.ownsRow_nil _ _ _ _, Below.refl _ _⟩
  case round =>
    obtain ⟨i, hi, rfl, hown, hbr⟩ := hrel
    by_cases hlt : i < nbits (bv l)
    · obtain ⟨b, off, rfl, hbB, hcell⟩ := R1 (by rw [length_dg]; omega)
      by_cases h8 : i % 64 = 0
      · have hb8 : (((i : Int) % 64) == 0) = true := by rw [beq_iff_eq]; omega
        have H8 := Lib.hid h8
        clear h8
        go_wp2_with (at_builtin; refine wpList_append_one _ rfl _ _ 23 rfl w1.heap.size 24 i0 (.int .u64 0) 8 Try.underlying23 hi0 hz0 hz1 hz2 rfl _ _ .u64 (words ((i + 63) / 64) (bv l % 2 ^ i)) rfl hown _ 0 ?c1 rfl ?c2 ?c3 ?c4 ?_)
        case c1 => rfl
        case c2 => unfold maxLen; omega
        case c3 => omega
        case c4 => exact hbr.size
        intro v4 w4 own4 _ b4
        have e8 : (i + 63) / 64 = i / 64 := by have := H8.out; omega
        rw [e8, words_more2 _ _ (low_lt2 _ _ _ (by have := H8.out; omega))] at own4
        have hb4 := hbr.trans b4
        clear e8 b4
        obtain ⟨g, cp, rfl, hg1, hg2, _⟩ := own_pos2 own4 (by omega)
        have hc4 : w4.cell? ⟨g, i / 64, none⟩ = some (.int .u64 (nth (words (i / 64 + 1) (bv l % 2 ^ i)) (i / 64) : Int)) := by
          rw [own4.cellAt _ (by omega), ints_get _ _ _ (by rw [length_words]; omega)]
        have hf4 : w4.frozen? ⟨g, i / 64, none⟩ = false := own4.frozenAt _
        have hw4 := words_words (i / 64 + 1) (bv l % 2 ^ i) _ (nth_mem _ (i / 64) (by rw [length_words]; omega))
        have hx4 : w4.cell? ⟨b, off + i, none⟩ = some (.int .u8 (bit (bv l) i : Int)) := by
          rw [hb4.cell (p := ⟨b, off + i, none⟩) hbB, hcell i (by rw [length_dg]; exact hlt), nth_dg_bit]
        have hdl := bit_lt (bv l) i
        have Ho := Lib.hid own4
        clear own4 hcell hown
        go_wp2_with fail
        go_region
        go_wp2_with fail
        go_roundw
        case rel =>
          rw [shl_or_bit _ _ _ hw4 hdl (Nat.mod_lt _ (by omega))]
          have hst := Ho.out.stored (i / 64) (.int .u64 ((nth (words (i / 64 + 1) (bv l % 2 ^ i)) (i / 64) ||| bit (bv l) i * 2 ^ (i % 64) : Nat) : Int))
          rw [ints_set, words_low2] at hst
          refine ⟨i + 1, by omega, by go_num, ?_, (hb4.setCell hg1 _).drew⟩
          rw [show (i + 1 + 63) / 64 = i / 64 + 1 by omega]
          exact hst.1.drew
        case measure => simp [intOf]; omega
      · have hb8 : (((i : Int) % 64) == 0) = false := by rw [beq_eq_false_iff_ne]; omega
        have e8 : (i + 63) / 64 = i / 64 + 1 := by omega
        have own4 := hown
        rw [e8] at own4
        obtain ⟨g, cp, rfl, hg1, hg2, _⟩ := own_pos2 own4 (by omega)
        clear e8 h8
        have hc4 : wr.cell? ⟨g, i / 64, none⟩ = some (.int .u64 (nth (words (i / 64 + 1) (bv l % 2 ^ i)) (i / 64) : Int)) := by
          rw [own4.cellAt _ (by omega), ints_get _ _ _ (by rw [length_words]; omega)]
        have hf4 : wr.frozen? ⟨g, i / 64, none⟩ = false := own4.frozenAt _
        have hw4 := words_words (i / 64 + 1) (bv l % 2 ^ i) _ (nth_mem _ (i / 64) (by rw [length_words]; omega))
        have hx4 : wr.cell? ⟨b, off + i, none⟩ = some (.int .u8 (bit (bv l) i : Int)) := by
          rw [hbr.cell (p := ⟨b, off + i, none⟩) hbB, hcell i (by rw [length_dg]; exact hlt), nth_dg_bit]
        have hdl := bit_lt (bv l) i
        have Ho := Lib.hid own4
        clear own4 hcell hown
        go_wp2_with fail
        go_region
        go_wp2_with fail
        go_roundw
        case rel =>
          rw [shl_or_bit _ _ _ hw4 hdl (Nat.mod_lt _ (by omega))]
          have hst := Ho.out.stored (i / 64) (.int .u64 ((nth (words (i / 64 + 1) (bv l % 2 ^ i)) (i / 64) ||| bit (bv l) i * 2 ^ (i % 64) : Nat) : Int))
          rw [ints_set, words_low2] at hst
          refine ⟨i + 1, by omega, by go_num, ?_, (hbr.setCell hg1 _).drew⟩
          rw [show (i + 1 + 63) / 64 = i / 64 + 1 by omega]
          exact hst.1.drew
        case measure => simp [intOf]; omega
    · obtain rfl : i = nbits (bv l) := by omega
      rw [Nat.mod_eq_of_lt (nbits_lt (bv l))] at hown
      go_wp2_with fail
      go_ret
      refine ⟨_, rfl, ?_, b1.trans (hbr.mono b1.size)⟩
      obtain ⟨h1, h2⟩ := hown
      refine ⟨h1, ?_⟩
      rcases h2 with h2 | ⟨g, cap, cur, e1, e2, e3⟩
      · exact .inl h2
      · exact .inr ⟨g, cap, cur, e1, Nat.le_trans b1.size e2, e3⟩
end Go.Proofs.Ytjimnepjheppgaa

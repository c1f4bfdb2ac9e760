/- The contract of the document's TakeNat: it comes to the same numbers as the program's. Conditions: as typed. -/
import Derived.Test.YticgcjfgonejpaaRef4
namespace Go.Proofs.Yticgcjfgonejpaa
open Go.RowKit

theorem own_pos {w : World} {base : Nat} {e : TypeId} {n : Nat} {v : Value} {xs : List Value} (h : w.ownsRow base e 1 v n xs) (hn : 0 < n) : ∃ g c, v = .slice (some ⟨g, 0, none⟩) n c ∧ base ≤ g ∧ g < w.heap.size ∧ n ≤ c := by
  rcases h.2 with ⟨_, h0⟩ | ⟨g, cap, cur, rfl, hb, hh, hc, _⟩
  · omega
  · refine ⟨g, cap, rfl, hb, ?_, hc⟩
    rcases Nat.lt_or_ge g w.heap.size with h1 | h1
    · exact h1
    · rw [Array.getElem?_eq_none h1] at hh; cases hh

theorem refTakeNat_arg (A : Option Addr) (n c : Nat) (i most : Int) (w : World) (h : i < 0 ∨ (n : Int) < i) :
    Calls Try.prog 14 #[.slice A n c, .int .i64 i, .int .i64 most] w fun e w' => e = .returned (.tuple #[.slice none 0 0, .int .i64 0, .int .i64 1]) ∧ w = w' := by
  go_enter Try.func14, Try.ntmps14
  go_wp2_with fail
  refine (refTake_arg A n c i w h).mono ?_
  rintro e w1 ⟨rfl, rfl⟩
  go_wp2_with fail
  go_ret3
  exact ⟨rfl, rfl⟩

theorem refTakeNat_short (A : Option Addr) (c : Nat) (l : List Nat) (i : Nat) (most : Int) (w : World) (hr : Rd .u8 w w.heap.size A l) (hby : Bytes l) (hl : l.length ≤ 1099511627776) (hi : i ≤ l.length) (h : l.length < i + 2) :
    Calls Try.prog 14 #[.slice A l.length c, .int .i64 i, .int .i64 most] w fun e w' => e = .returned (.tuple #[.slice none 0 0, .int .i64 0, .int .i64 3]) ∧ Below w.heap.size w w' := by
  go_enter Try.func14, Try.ntmps14
  go_wp2_with fail
  refine (refTake_in A c l i w hr hby hl hi).mono ?_
  rintro e w1 ⟨_, h2, hb⟩
  obtain rfl := h2 h
  go_wp2_with fail
  go_ret3
  exact ⟨rfl, hb⟩

theorem refTakeNat_many (A : Option Addr) (c : Nat) (l : List Nat) (i : Nat) (most : Int) (w : World) (hr : Rd .u8 w w.heap.size A l) (hby : Bytes l) (hl : l.length ≤ 1099511627776) (h : i + 2 ≤ l.length) (hm : most < (cnt l i : Int)) :
    Calls Try.prog 14 #[.slice A l.length c, .int .i64 i, .int .i64 most] w fun e w' => e = .returned (.tuple #[.slice none 0 0, .int .i64 0, .int .i64 4]) ∧ Below w.heap.size w w' := by
  have hc := cnt_lt l hby i
  go_enter Try.func14, Try.ntmps14
  go_wp2_with fail
  refine (refTake_in A c l i w hr hby hl (by omega)).mono ?_
  rintro e w1 ⟨h2, _, hb⟩
  obtain rfl := h2 h
  rw [show val ((l.drop i).take 2) = cnt l i from rfl]
  go_wp2_with fail
  go_ret3
  exact ⟨rfl, hb⟩

theorem refTakeNat_bad (A : Option Addr) (c : Nat) (l : List Nat) (i : Nat) (most : Int) (w : World) (hr : Rd .u8 w w.heap.size A l) (hby : Bytes l) (hl : l.length ≤ 1099511627776) (h : i + 2 ≤ l.length) (hm : (cnt l i : Int) ≤ most) (hs : stands l i = false) :
    Calls Try.prog 14 #[.slice A l.length c, .int .i64 i, .int .i64 most] w fun e w' => e = .returned (.tuple #[.slice none 0 0, .int .i64 0, .int .i64 3]) ∧ Below w.heap.size w w' := by
  have hc := cnt_lt l hby i
  simp only [stands, decide_eq_false_iff_not] at hs
  by_cases hlen : i + 2 + cnt l i ≤ l.length
  · have h1 : 0 < cnt l i ∧ nth l (i + 2) = 0 := by
      refine ⟨Nat.pos_of_ne_zero fun e => hs ⟨hlen, .inl e⟩, ?_⟩
      rcases Nat.eq_zero_or_pos (nth l (i + 2)) with e | e
      · exact e
      · exact absurd ⟨hlen, .inr (by omega)⟩ hs
    obtain ⟨hp, h0⟩ := h1
    obtain ⟨b, off, rfl, hbB, hcell⟩ := hr (by omega)
    have hx := hcell (i + 2) (by omega)
    rw [h0] at hx
    clear hs hcell h0
    go_enter Try.func14, Try.ntmps14
    go_wp2_with fail
    refine (refTake_in _ c l i w hr hby hl (by omega)).mono ?_
    rintro e w1 ⟨h2, _, hb⟩
    obtain rfl := h2 h
    rw [show val ((l.drop i).take 2) = cnt l i from rfl]
    have hx1 : w1.cell? ⟨b, off + (i + 2), none⟩ = some (.int .u8 0) := (hb.cell (p := ⟨b, off + (i + 2), none⟩) hbB).trans hx
    clear hx h2
    go_wp2_with fail
    go_ret3
    exact ⟨rfl, hb⟩
  · clear hs
    go_enter Try.func14, Try.ntmps14
    go_wp2_with fail
    refine (refTake_in A c l i w hr hby hl (by omega)).mono ?_
    rintro e w1 ⟨h2, _, hb⟩
    obtain rfl := h2 h
    rw [show val ((l.drop i).take 2) = cnt l i from rfl]
    clear h2
    go_wp2_with fail
    go_ret3
    exact ⟨rfl, hb⟩

/-- What is answered where a long number stands. -/
def TakeNatIs (l : List Nat) (i : Nat) (w : World) (e : Ending) (w' : World) : Prop :=
  ∃ v, e = .returned (.tuple #[v, .int .i64 (i + 2 + cnt l i : Nat), .int .i64 0]) ∧ w'.ownsRow w.heap.size 35 1 v ((cnt l i + 7) / 8) (ints .u64 (words ((cnt l i + 7) / 8) (val ((l.drop (i + 2)).take (cnt l i))))) ∧ Below w.heap.size w w'

set_option maxHeartbeats 1000000 in
theorem refTakeNat_ok (A : Option Addr) (c : Nat) (l : List Nat) (i : Nat) (most : Int) (w : World) (hr : Rd .u8 w w.heap.size A l) (hby : Bytes l) (hl : l.length ≤ 1099511627776) (h : i + 2 ≤ l.length) (hm : (cnt l i : Int) ≤ most) (hs : stands l i = true) :
    Calls Try.prog 14 #[.slice A l.length c, .int .i64 i, .int .i64 most] w (TakeNatIs l i w) := by
  have hc := cnt_lt l hby i
  obtain ⟨i0, hi0, hz0, hz1, hz2⟩ := info_parts info_u64
  simp only [stands, decide_eq_true_eq] at hs
  obtain ⟨hlen, hfst⟩ := hs
  obtain ⟨b, off, rfl, hbB, hcell⟩ := hr (by omega)
  have Hc := Lib.hid hcell
  have hx := hcell (i + 2)
  have hmd : decide (most < (cnt l i : Int)) = false := by simp; omega
  have hg1 : decide ((l.length : Int) - ((i : Int) + 2) < (cnt l i : Int)) = false := by simp; omega
  clear hcell
  by_cases h0 : cnt l i = 0
  · have hp : decide (0 < cnt l i) = false := by simp; omega
    clear hfst hx
    go_enter Try.func14, Try.ntmps14
    go_wp2_with fail
    refine (refTake_in _ c l i w hr hby hl (by omega)).mono ?_
    rintro e w1 ⟨h2, _, hb⟩
    obtain rfl := h2 h
    rw [show val ((l.drop i).take 2) = cnt l i from rfl]
    have H0 := Lib.hid h0
    clear h2 h0
    go_wp2_with fail
    go_loopw [12, 13] (fun v j wr => ∃ i2 : Nat, i2 ≤ cnt l i ∧ j = .int .i64 i2 ∧ wr.ownsRow w.heap.size 35 1 v ((i2 + 7) / 8) (ints .u64 (words ((i2 + 7) / 8) (val ((l.drop (i + 2)).take (cnt l i)) % 256 ^ i2))) ∧ Below w.heap.size w wr) (fun _ j _ => cnt l i - (intOf j).toNat)
    case atStart => exact ⟨0, Nat.zero_le _, rfl, World.ownsRow_nil _ _ _ _, hb⟩
    case round =>
      obtain ⟨i2, hi2, rfl, hown, hbr⟩ := hrel
      obtain rfl : i2 = cnt l i := by have := H0.out; omega
      rw [Nat.mod_eq_of_lt (val_part_lt l hby (i + 2) (cnt l i))] at hown
      go_wp2_with fail
      go_ret3
      exact ⟨_, rfl, hown, hbr⟩
  · have hne : nth l (i + 2) ≠ 0 := hfst.resolve_left h0
    have hx2 := hx (by omega)
    have hp : decide ((0 : Int) < (cnt l i : Int)) = true := by simp; omega
    have hnb : (((nth l (i + 2) : Nat) : Int) == 0) = false := by simpa using hne
    clear hfst hx hne
    go_enter Try.func14, Try.ntmps14
    go_wp2_with fail
    refine (refTake_in _ c l i w hr hby hl (by omega)).mono ?_
    rintro e w1 ⟨h2, _, hb⟩
    obtain rfl := h2 h
    rw [show val ((l.drop i).take 2) = cnt l i from rfl]
    have hx1 : w1.cell? ⟨b, off + (i + 2), none⟩ = some (.int .u8 (nth l (i + 2) : Int)) := (hb.cell (p := ⟨b, off + (i + 2), none⟩) hbB).trans hx2
    clear hx2 h2
    go_wp2_with fail
    go_loopw [12, 13] (fun v j wr => ∃ i2 : Nat, i2 ≤ cnt l i ∧ j = .int .i64 i2 ∧ wr.ownsRow w.heap.size 35 1 v ((i2 + 7) / 8) (ints .u64 (words ((i2 + 7) / 8) (val ((l.drop (i + 2)).take (cnt l i)) % 256 ^ i2))) ∧ Below w.heap.size w wr) (fun _ j _ => cnt l i - (intOf j).toNat)
    case atStart => exact ⟨0, Nat.zero_le _, rfl, World.ownsRow_nil _ _ _ _, hb⟩
    case round =>
      obtain ⟨i2, hi2, rfl, hown, hbr⟩ := hrel
      by_cases hlt : i2 < cnt l i
      · have hcell := Hc.out
        by_cases h8 : i2 % 8 = 0
        · have hb8 : (((i2 : Int) % 8) == 0) = true := by rw [beq_iff_eq]; omega
          have H8 := Lib.hid h8
          clear h8
          go_wp2_with (at_builtin; refine wpList_append_one _ rfl _ _ 24 rfl w.heap.size 35 i0 (.int .u64 0) 8 Try.underlying24 hi0 hz0 hz1 hz2 rfl _ _ .u64 (words ((i2 + 7) / 8) (val ((l.drop (i + 2)).take (cnt l i)) % 256 ^ i2)) rfl hown _ 0 ?c1 rfl ?c2 ?c3 ?c4 ?_)
          case c1 => rfl
          case c2 => unfold maxLen; omega
          case c3 => omega
          case c4 => exact hbr.size
          intro v4 w4 own4 _ b4
          have e8 : (i2 + 7) / 8 = i2 / 8 := by have := H8.out; omega
          rw [e8, words_more _ _ (low_lt _ _ _ (by have := H8.out; omega))] at own4
          have hb4 := hbr.trans b4
          clear e8 b4
          obtain ⟨g, cp, rfl, hg1, hg2, _⟩ := own_pos own4 (by omega)
          have hc4 : w4.cell? ⟨g, i2 / 8, none⟩ = some (.int .u64 (nth (words (i2 / 8 + 1) (val ((l.drop (i + 2)).take (cnt l i)) % 256 ^ i2)) (i2 / 8) : Int)) := by
            rw [own4.cellAt _ (by omega), ints_get _ _ _ (by rw [length_words]; omega)]
          have hf4 : w4.frozen? ⟨g, i2 / 8, none⟩ = false := own4.frozenAt _
          have hw4 := words_words (i2 / 8 + 1) (val ((l.drop (i + 2)).take (cnt l i)) % 256 ^ i2) _ (nth_mem _ (i2 / 8) (by rw [length_words]; omega))
          have hx4 : w4.cell? ⟨b, off + (i + 1 + cnt l i - i2), none⟩ = some (.int .u8 (dig (val ((l.drop (i + 2)).take (cnt l i))) i2 : Int)) := by
            rw [hb4.cell (p := ⟨b, off + (i + 1 + cnt l i - i2), none⟩) hbB, show i + 1 + cnt l i - i2 = i + 2 + cnt l i - 1 - i2 by omega, hcell _ (by omega), dig_part l hby (i + 2) (cnt l i) i2 (by omega) hlt]
          have hdl := dig_lt (val ((l.drop (i + 2)).take (cnt l i))) i2
          have Ho := Lib.hid own4
          have Hc := Lib.hid hcell
          clear own4 hcell hown
          go_wp2_with fail
          go_region
          go_wp2_with fail
          go_roundw
          case rel =>
            rw [shl_or_word _ _ _ hw4 hdl (Nat.mod_lt _ (by omega))]
            have hst := Ho.out.stored (i2 / 8) (.int .u64 ((nth (words (i2 / 8 + 1) (val ((l.drop (i + 2)).take (cnt l i)) % 256 ^ i2)) (i2 / 8) ||| dig (val ((l.drop (i + 2)).take (cnt l i))) i2 * 2 ^ (8 * (i2 % 8)) : Nat) : Int))
            rw [ints_set, words_low] at hst
            refine ⟨i2 + 1, by omega, by go_num, ?_, (hb4.setCell hg1 _).drew⟩
            rw [show (i2 + 1 + 7) / 8 = i2 / 8 + 1 by omega]
            exact hst.1.drew
          case measure => simp [intOf]; omega
        · have hb8 : (((i2 : Int) % 8) == 0) = false := by rw [beq_eq_false_iff_ne]; omega
          have e8 : (i2 + 7) / 8 = i2 / 8 + 1 := by omega
          have own4 := hown
          rw [e8] at own4
          obtain ⟨g, cp, rfl, hg1, hg2, _⟩ := own_pos own4 (by omega)
          clear e8 h8
          have hc4 : wr.cell? ⟨g, i2 / 8, none⟩ = some (.int .u64 (nth (words (i2 / 8 + 1) (val ((l.drop (i + 2)).take (cnt l i)) % 256 ^ i2)) (i2 / 8) : Int)) := by
            rw [own4.cellAt _ (by omega), ints_get _ _ _ (by rw [length_words]; omega)]
          have hf4 : wr.frozen? ⟨g, i2 / 8, none⟩ = false := own4.frozenAt _
          have hw4 := words_words (i2 / 8 + 1) (val ((l.drop (i + 2)).take (cnt l i)) % 256 ^ i2) _ (nth_mem _ (i2 / 8) (by rw [length_words]; omega))
          have hx4 : wr.cell? ⟨b, off + (i + 1 + cnt l i - i2), none⟩ = some (.int .u8 (dig (val ((l.drop (i + 2)).take (cnt l i))) i2 : Int)) := by
            rw [hbr.cell (p := ⟨b, off + (i + 1 + cnt l i - i2), none⟩) hbB, show i + 1 + cnt l i - i2 = i + 2 + cnt l i - 1 - i2 by omega, hcell _ (by omega), dig_part l hby (i + 2) (cnt l i) i2 (by omega) hlt]
          have hdl := dig_lt (val ((l.drop (i + 2)).take (cnt l i))) i2
          have Ho := Lib.hid own4
          have Hc := Lib.hid hcell
          clear own4 hcell hown
          go_wp2_with fail
          go_region
          go_wp2_with fail
          go_roundw
          case rel =>
            rw [shl_or_word _ _ _ hw4 hdl (Nat.mod_lt _ (by omega))]
            have hst := Ho.out.stored (i2 / 8) (.int .u64 ((nth (words (i2 / 8 + 1) (val ((l.drop (i + 2)).take (cnt l i)) % 256 ^ i2)) (i2 / 8) ||| dig (val ((l.drop (i + 2)).take (cnt l i))) i2 * 2 ^ (8 * (i2 % 8)) : Nat) : Int))
            rw [ints_set, words_low] at hst
            refine ⟨i2 + 1, by omega, by go_num, ?_, (hbr.setCell hg1 _).drew⟩
            rw [show (i2 + 1 + 7) / 8 = i2 / 8 + 1 by omega]
            exact hst.1.drew
          case measure => simp [intOf]; omega
      · obtain rfl : i2 = cnt l i := by omega
        rw [Nat.mod_eq_of_lt (val_part_lt l hby (i + 2) (cnt l i))] at hown
        go_wp2_with fail
        go_ret3
        exact ⟨_, rfl, hown, hbr⟩
end Go.Proofs.Yticgcjfgonejpaa

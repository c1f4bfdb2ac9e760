/- The contract of octet's TakeNat. Conditions: as typed (lengths that fit a machine). -/
import Derived.Test.YticgcjfgonejpaaOct3
import Derived.BigRegion
import Derived.RegionTactic
namespace Go.Proofs.Yticgcjfgonejpaa
open Go.RowKit

/-- How many bytes a long number at place i says that it has. -/
def cnt (l : List Nat) (i : Nat) : Nat := val ((l.drop i).take 2)
theorem cnt_lt (l : List Nat) (h : Bytes l) (i : Nat) : cnt l i < 65536 := val_part_lt l h i 2
/-- Does a long number stand there, its count being there? -/
def stands (l : List Nat) (i : Nat) : Bool := decide (i + 2 + cnt l i ≤ l.length ∧ (cnt l i = 0 ∨ nth l (i + 2) ≠ 0))

theorem takeNat_arg (A : Option Addr) (n c : Nat) (i most : Int) (w : World) (h : i < 0 ∨ (n : Int) < i) :
    Calls Try.prog 13 #[.slice A n c, .int .i64 i, .int .i64 most] w fun e w' => e = .returned (.tuple #[.slice none 0 0, .int .i64 0, .int .i64 1]) ∧ w = w' := by
  go_enter Try.func13, Try.ntmps13
  go_wp2_with fail
  go_step3
  go_wp2_with fail
  refine (take_arg A n c i 2 w (.inr h)).mono ?_
  rintro e w1 ⟨rfl, rfl⟩
  go_wp2_with fail
  go_step3
  go_wp2_with fail
  rw [Exit.noGoto_ret]
  go_ret3
  exact ⟨rfl, rfl⟩

theorem takeNat_short (A : Option Addr) (c : Nat) (l : List Nat) (i : Nat) (most : Int) (w : World) (hr : Rd .u8 w w.heap.size A l) (hby : Bytes l) (hl : l.length ≤ 1099511627776) (hi : i ≤ l.length) (h : l.length < i + 2) :
    Calls Try.prog 13 #[.slice A l.length c, .int .i64 i, .int .i64 most] w fun e w' => e = .returned (.tuple #[.slice none 0 0, .int .i64 0, .int .i64 3]) ∧ Below w.heap.size w w' := by
  go_enter Try.func13, Try.ntmps13
  go_wp2_with fail
  go_step3
  go_wp2_with fail
  refine (take_in A c l i 2 w hr hby hl (by omega) (by omega) hi).mono ?_
  rintro e w1 ⟨_, h2, hb⟩
  obtain rfl := h2 h
  go_wp2_with fail
  go_step3
  go_wp2_with fail
  rw [Exit.noGoto_ret]
  go_ret3
  exact ⟨rfl, hb⟩

theorem takeNat_many (A : Option Addr) (c : Nat) (l : List Nat) (i : Nat) (most : Int) (w : World) (hr : Rd .u8 w w.heap.size A l) (hby : Bytes l) (hl : l.length ≤ 1099511627776) (h : i + 2 ≤ l.length) (hm : most < (cnt l i : Int)) :
    Calls Try.prog 13 #[.slice A l.length c, .int .i64 i, .int .i64 most] w fun e w' => e = .returned (.tuple #[.slice none 0 0, .int .i64 0, .int .i64 4]) ∧ Below w.heap.size w w' := by
  have hc := cnt_lt l hby i
  go_enter Try.func13, Try.ntmps13
  go_wp2_with fail
  go_step3
  go_wp2_with fail
  refine (take_in A c l i 2 w hr hby hl (by omega) (by omega) (by omega)).mono ?_
  rintro e w1 ⟨h2, _, hb⟩
  obtain rfl := h2 h
  rw [show val ((l.drop i).take 2) = cnt l i from rfl]
  go_wp2_with fail
  go_step3
  go_wp2_with fail
  rw [Exit.noGoto_ret]
  go_ret3
  exact ⟨rfl, hb⟩

/-- What TakeNat leaves where the count is there, and not too great. -/
def TakeNatOut (l : List Nat) (i : Nat) (w : World) (e : Ending) (w' : World) : Prop :=
  (stands l i = true → ∃ v, e = .returned (.tuple #[v, .int .i64 (i + 2 + cnt l i : Nat), .int .i64 0]) ∧ w'.ownsRow w.heap.size 35 1 v ((cnt l i + 7) / 8) (ints .u64 (words ((cnt l i + 7) / 8) (val ((l.drop (i + 2)).take (cnt l i)))))) ∧
  (stands l i = false → e = .returned (.tuple #[.slice none 0 0, .int .i64 0, .int .i64 3])) ∧ Below w.heap.size w w'

set_option maxHeartbeats 800000 in
theorem takeNat_in (A : Option Addr) (c : Nat) (l : List Nat) (i : Nat) (most : Int) (w : World) (hr : Rd .u8 w w.heap.size A l) (hby : Bytes l) (hl : l.length ≤ 1099511627776) (h : i + 2 ≤ l.length) (hm : (cnt l i : Int) ≤ most) :
    Calls Try.prog 13 #[.slice A l.length c, .int .i64 i, .int .i64 most] w (TakeNatOut l i w) := by
  have hc := cnt_lt l hby i
  have hmd : decide (most < (cnt l i : Int)) = false := by simp; omega
  obtain ⟨i0, hi0, hz0, hz1, hz2⟩ := info_parts info_u64
  go_enter Try.func13, Try.ntmps13
  go_wp2_with fail
  go_step3
  go_wp2_with fail
  refine (take_in A c l i 2 w hr hby hl (by omega) (by omega) (by omega)).mono ?_
  rintro e w1 ⟨h2, _, hb⟩
  obtain rfl := h2 h
  clear h2
  rw [show val ((l.drop i).take 2) = cnt l i from rfl]
  go_wp2_with fail
  go_step3
  go_wp2_with (at_make; refine wpList_make_full _ rfl _ _ 24 rfl w.heap.size 35 i0 (.int .u64 0) 1 Try.underlying24 hi0 hz0 hz1 _ _ _ _ ((cnt l i + 7) / 8) rfl rfl ?c1 ?c2 ?c3 ?c4 ?c5 ?_)
  case c1 => omega
  case c2 => omega
  case c3 => rw [hz2]; omega
  case c4 => unfold maxLen; omega
  case c5 => exact hb.size
  intro w2 hown hg
  have hgq : w1.heap.size < w2.heap.size := (hown.lt w1.heap.size rfl).2
  have hb2 : Below w.heap.size w w2 := hb.grown hg hb.size (by simp)
  have hown0 : w2.ownsRow w.heap.size 35 1 (.slice (some ⟨w1.heap.size, 0, none⟩) ((cnt l i + 7) / 8) ((cnt l i + 7) / 8)) ((cnt l i + 7) / 8) (ints .u64 (words ((cnt l i + 7) / 8) 0)) := by
    rw [words_none]
    have e : (madeCells #[Value.int .u64 0] ((cnt l i + 7) / 8)).toList = ints .u64 (List.replicate ((cnt l i + 7) / 8) 0) := by
      exact (toList_madeCells_one _ _).trans (by simp [ints])
    rw [← e]
    exact hown
  clear hown
  go_wp2_with fail
  refine (taker_any _ _ _ _ _).mono ?_
  rintro e w3 ⟨rfl, rfl⟩
  go_wp2_with fail
  go_loopw [13] (fun j wr => ∃ k : Nat, k ≤ cnt l i ∧ j = .int .i64 ((k : Int) - 1) ∧ i + 2 + (cnt l i - k) ≤ l.length ∧ (k < cnt l i → nth l (i + 2) ≠ 0) ∧
      wr.cell? ⟨w2.heap.size + 1, 0, none⟩ = some (.int .i64 (i + 2 + (cnt l i - k) : Nat)) ∧ wr.frozen? ⟨w2.heap.size + 1, 0, none⟩ = false ∧ wr.cell? ⟨w2.heap.size, 0, none⟩ = some (.slice A l.length c) ∧
      wr.ownsRow w.heap.size 35 1 (.slice (some ⟨w1.heap.size, 0, none⟩) ((cnt l i + 7) / 8) ((cnt l i + 7) / 8)) ((cnt l i + 7) / 8) (ints .u64 (words ((cnt l i + 7) / 8) (val ((l.drop (i + 2)).take (cnt l i - k)) * 256 ^ k))) ∧ Below w.heap.size w wr)
    (fun j _ => (intOf j + 1).toNat)
  case atStart =>
    refine ⟨cnt l i, Nat.le_refl _, rfl, by omega, fun h => absurd h (by omega), by simp, by simp, by simp, ?_, (hb2.alloc (by have := hb2.size; omega) _).alloc (by have := hb2.size; simp; omega) _⟩
    rw [Nat.sub_self, List.take_zero, show val [] * 256 ^ cnt l i = 0 by simp [val]]
    exact (hown0.alloc _).alloc _
  case round =>
    obtain ⟨k, hk, rfl, hik, hfst, hp, hpf, hq, hown, hbr⟩ := hrel
    have Hf := Lib.hid hfst
    clear hfst hown0
    by_cases hk0 : k = 0
    · subst hk0
      go_wp2_with fail
      rw [Exit.noGoto_ret]
      go_ret3
      rw [Nat.sub_zero, Nat.pow_zero, Nat.mul_one] at hown
      refine ⟨fun _ => ⟨_, rfl, hown⟩, fun hs => ?_, hbr⟩
      simp only [stands, decide_eq_false_iff_not] at hs
      exfalso
      refine hs ⟨by omega, ?_⟩
      rcases Nat.eq_zero_or_pos (cnt l i) with h0 | h0
      · exact .inl h0
      · exact .inr (Hf.out h0)
    · obtain ⟨m, rfl⟩ : ∃ m, k = m + 1 := ⟨k - 1, by omega⟩
      by_cases hlt : i + 2 + (cnt l i - (m + 1)) < l.length
      · have hr1 := hr.below hbr
        obtain ⟨b, off, rfl, hbB, hcell⟩ := hr1 (by omega)
        have hx := hcell (i + 2 + (cnt l i - (m + 1))) (by omega)
        have hxb := hby _ (nth_mem l (i + 2 + (cnt l i - (m + 1))) (by omega))
        clear hcell hr1
        by_cases hbad : nth l (i + 2 + (cnt l i - (m + 1))) = 0 ∧ m + 1 = cnt l i
        · obtain ⟨hx0, hm0⟩ := hbad
          have hx1 : (((nth l (i + 2 + (cnt l i - (m + 1))) : Nat) : Int) == 0) = true := by simpa using hx0
          have hm1 : ((m : Int) == (cnt l i : Int) - 1) = true := by rw [beq_iff_eq]; omega
          have hx0' := Lib.hid hx0
          have hm0' := Lib.hid hm0
          clear hx0 hm0
          go_wp2_with fail
          refine (take_yes _ _ _ _ _ _ _ _ _ hp hpf hq hl hlt hx).mono ?_
          rintro e w4 ⟨rfl, rfl⟩
          go_wp2_with fail
          rw [Exit.noGoto_ret]
          go_ret3
          refine ⟨fun h => ?_, fun _ => rfl, hbr.setCell (by have := hb2.size; simp; omega) _⟩
          simp only [stands, decide_eq_true_eq] at h
          have h1 := hx0'.out
          rw [← hm0'.out, Nat.sub_self, Nat.add_zero] at h1
          have := hm0'.out
          omega
        · by_cases hx0 : nth l (i + 2 + (cnt l i - (m + 1))) = 0
          · have hx1 : (((nth l (i + 2 + (cnt l i - (m + 1))) : Nat) : Int) == 0) = true := by simpa using hx0
            have hm1 : ((m : Int) == (cnt l i : Int) - 1) = false := by
              rw [beq_eq_false_iff_ne]
              intro e
              exact hbad ⟨hx0, by omega⟩
            have hbad' := Lib.hid hbad
            have hx0' := Lib.hid hx0
            clear hbad hx0
            go_wp2_with fail
            refine (take_yes _ _ _ _ _ _ _ _ _ hp hpf hq hl hlt hx).mono ?_
            rintro e w4 ⟨rfl, h4⟩
            have H4 := Lib.hid h4
            clear h4
            have hmK : m / 8 < (cnt l i + 7) / 8 := by omega
            have own4 : w4.ownsRow w.heap.size 35 1 (.slice (some ⟨w1.heap.size, 0, none⟩) ((cnt l i + 7) / 8) ((cnt l i + 7) / 8)) ((cnt l i + 7) / 8) (ints .u64 (words ((cnt l i + 7) / 8) (val ((l.drop (i + 2)).take (cnt l i - (m + 1))) * 256 ^ (m + 1)))) := by
              rw [← H4.out]
              exact hown.kept (grown_setCell _ _ _) (.inr (by simp [Value.ownBlock]; omega))
            have hb4 : Below w.heap.size w w4 := by rw [← H4.out]; exact hbr.setCell (by have := hb2.size; simp; omega) _
            have hp4 : w4.cell? ⟨w2.heap.size + 1, 0, none⟩ = some (.int .i64 (i + 2 + (cnt l i - (m + 1)) + 1 : Nat)) := by rw [← H4.out, World.cell?_setCell_same _ _ _ hp]
            have hpf4 : w4.frozen? ⟨w2.heap.size + 1, 0, none⟩ = false := by rw [← H4.out, World.frozen?_setCell]; exact hpf
            have hq4 : w4.cell? ⟨w2.heap.size, 0, none⟩ = some (.slice (some ⟨b, off, none⟩) l.length c) := by rw [← H4.out, World.cell?_setCell_other _ _ _ _ (by simp)]; exact hq
            have hc4 : w4.cell? ⟨w1.heap.size, m / 8, none⟩ = some (.int .u64 (nth (words ((cnt l i + 7) / 8) (val ((l.drop (i + 2)).take (cnt l i - (m + 1))) * 256 ^ (m + 1))) (m / 8) : Int)) := by
              rw [own4.cellAt _ (by omega), ints_get _ _ _ (by rw [length_words]; omega)]
            have hf4 : w4.frozen? ⟨w1.heap.size, m / 8, none⟩ = false := own4.frozenAt _
            have hw4 := words_words ((cnt l i + 7) / 8) (val ((l.drop (i + 2)).take (cnt l i - (m + 1))) * 256 ^ (m + 1)) _ (nth_mem _ (m / 8) (by rw [length_words]; omega))
            have Ho := Lib.hid own4
            have Hp := Lib.hid hp4
            have Hpf := Lib.hid hpf4
            have Hq := Lib.hid hq4
            clear own4 hp4 hpf4 hq4 hown hp hpf hq
            go_wp2_with fail
            go_region
            go_wp2_with fail
            go_roundw
            case rel =>
              rw [shl_or_word _ _ _ hw4 hxb (Nat.mod_lt _ (by omega))]
              have hst := Ho.out.stored (m / 8) (.int .u64 ((nth (words ((cnt l i + 7) / 8) (val ((l.drop (i + 2)).take (cnt l i - (m + 1))) * 256 ^ (m + 1))) (m / 8) ||| nth l (i + 2 + (cnt l i - (m + 1))) * 2 ^ (8 * (m % 8)) : Nat) : Int))
              rw [ints_set, words_step l (i + 2) (cnt l i) m hby (by omega) (by omega)] at hst
              refine ⟨m, by omega, rfl, by omega, fun _ => ?_, ?_, ?_, ?_, hst.1.drew, (hb4.setCell (by have := hb.size; simpa using this) _).drew⟩
              · by_cases e : m + 1 = cnt l i
                · exact absurd ⟨hx0'.out, e⟩ hbad'.out
                · exact Hf.out (by omega)
              · show (w4.setCell _ _).cell? _ = _
                rw [World.cell?_setCell_other _ _ _ _ (by simp), Hp.out, show i + 2 + (cnt l i - (m + 1)) + 1 = i + 2 + (cnt l i - m) by omega]
              · show (w4.setCell _ _).frozen? _ = _
                rw [World.frozen?_setCell]; exact Hpf.out
              · show (w4.setCell _ _).cell? _ = _
                rw [World.cell?_setCell_other _ _ _ _ (by simp)]; exact Hq.out
            case measure => simp [intOf] <;> omega
          · have hx1 : (((nth l (i + 2 + (cnt l i - (m + 1))) : Nat) : Int) == 0) = false := by simpa using hx0
            have hbad' := Lib.hid hbad
            have hx0' := Lib.hid hx0
            clear hbad hx0
            go_wp2_with fail
            refine (take_yes _ _ _ _ _ _ _ _ _ hp hpf hq hl hlt hx).mono ?_
            rintro e w4 ⟨rfl, h4⟩
            have H4 := Lib.hid h4
            clear h4
            have hmK : m / 8 < (cnt l i + 7) / 8 := by omega
            have own4 : w4.ownsRow w.heap.size 35 1 (.slice (some ⟨w1.heap.size, 0, none⟩) ((cnt l i + 7) / 8) ((cnt l i + 7) / 8)) ((cnt l i + 7) / 8) (ints .u64 (words ((cnt l i + 7) / 8) (val ((l.drop (i + 2)).take (cnt l i - (m + 1))) * 256 ^ (m + 1)))) := by
              rw [← H4.out]
              exact hown.kept (grown_setCell _ _ _) (.inr (by simp [Value.ownBlock]; omega))
            have hb4 : Below w.heap.size w w4 := by rw [← H4.out]; exact hbr.setCell (by have := hb2.size; simp; omega) _
            have hp4 : w4.cell? ⟨w2.heap.size + 1, 0, none⟩ = some (.int .i64 (i + 2 + (cnt l i - (m + 1)) + 1 : Nat)) := by rw [← H4.out, World.cell?_setCell_same _ _ _ hp]
            have hpf4 : w4.frozen? ⟨w2.heap.size + 1, 0, none⟩ = false := by rw [← H4.out, World.frozen?_setCell]; exact hpf
            have hq4 : w4.cell? ⟨w2.heap.size, 0, none⟩ = some (.slice (some ⟨b, off, none⟩) l.length c) := by rw [← H4.out, World.cell?_setCell_other _ _ _ _ (by simp)]; exact hq
            have hc4 : w4.cell? ⟨w1.heap.size, m / 8, none⟩ = some (.int .u64 (nth (words ((cnt l i + 7) / 8) (val ((l.drop (i + 2)).take (cnt l i - (m + 1))) * 256 ^ (m + 1))) (m / 8) : Int)) := by
              rw [own4.cellAt _ (by omega), ints_get _ _ _ (by rw [length_words]; omega)]
            have hf4 : w4.frozen? ⟨w1.heap.size, m / 8, none⟩ = false := own4.frozenAt _
            have hw4 := words_words ((cnt l i + 7) / 8) (val ((l.drop (i + 2)).take (cnt l i - (m + 1))) * 256 ^ (m + 1)) _ (nth_mem _ (m / 8) (by rw [length_words]; omega))
            have Ho := Lib.hid own4
            have Hp := Lib.hid hp4
            have Hpf := Lib.hid hpf4
            have Hq := Lib.hid hq4
            clear own4 hp4 hpf4 hq4 hown hp hpf hq
            go_wp2_with fail
            go_region
            go_wp2_with fail
            go_roundw
            case rel =>
              rw [shl_or_word _ _ _ hw4 hxb (Nat.mod_lt _ (by omega))]
              have hst := Ho.out.stored (m / 8) (.int .u64 ((nth (words ((cnt l i + 7) / 8) (val ((l.drop (i + 2)).take (cnt l i - (m + 1))) * 256 ^ (m + 1))) (m / 8) ||| nth l (i + 2 + (cnt l i - (m + 1))) * 2 ^ (8 * (m % 8)) : Nat) : Int))
              rw [ints_set, words_step l (i + 2) (cnt l i) m hby (by omega) (by omega)] at hst
              refine ⟨m, by omega, rfl, by omega, fun _ => ?_, ?_, ?_, ?_, hst.1.drew, (hb4.setCell (by have := hb.size; simpa using this) _).drew⟩
              · by_cases e : m + 1 = cnt l i
                · rw [← e, Nat.sub_self, Nat.add_zero] at hx0'; exact hx0'.out
                · exact Hf.out (by omega)
              · show (w4.setCell _ _).cell? _ = _
                rw [World.cell?_setCell_other _ _ _ _ (by simp), Hp.out, show i + 2 + (cnt l i - (m + 1)) + 1 = i + 2 + (cnt l i - m) by omega]
              · show (w4.setCell _ _).frozen? _ = _
                rw [World.frozen?_setCell]; exact Hpf.out
              · show (w4.setCell _ _).cell? _ = _
                rw [World.cell?_setCell_other _ _ _ _ (by simp)]; exact Hq.out
            case measure => simp [intOf] <;> omega
      · have hn : (l.length : Int) ≤ (i + 2 + (cnt l i - (m + 1)) : Nat) := by omega
        go_wp2_with fail
        refine (take_no _ _ _ _ _ _ _ hp hq hn).mono ?_
        rintro e w4 ⟨rfl, rfl⟩
        go_wp2_with fail
        rw [Exit.noGoto_ret]
        go_ret3
        refine ⟨fun h => ?_, fun _ => rfl, hbr⟩
        simp only [stands, decide_eq_true_eq] at h
        omega
end Go.Proofs.Yticgcjfgonejpaa

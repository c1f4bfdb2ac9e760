/- Several texts in one; each begins with a remark that says what it shows and on which conditions. -/
import Derived.Test.YtabcmdhjbjioiaaDoorKad
/- The contracts of the document's Sum and Rest. Conditions: as typed. -/
namespace Go.Proofs.YtabcmdhjbjioiaaDoor
open Go.RowKit
set_option maxRecDepth 20000
set_option maxHeartbeats 400000 in
theorem rest02O_any (A A2 : Option Addr) (c c2 M N : Nat) (w : World) (h1 : Rd .u8 w w.heap.size A (dg M)) (h2 : Rd .u8 w w.heap.size A2 (dg N)) (hm : nbits M ≤ 10000000) (hn : nbits N ≤ 10000000) (hle : N ≤ M) :
    Calls Tryd.prog 67 #[.slice A (nbits M) c, .slice A2 (nbits N) c2] w (OutNumO (M - N) w) := by
  obtain ⟨i0, hi, hz0, hz1, hz2⟩ := info_parts num_info_u8
  have Hle := Lib.hid hle
  clear hle
  go_enter Tryd.func67, Tryd.ntmps67
  go_wp2_with fail
  go_loopw [5, 6, 7] (fun v cy j wr => ∃ i : Nat, i ≤ nbits M ∧ j = .int .i64 i ∧ cy = .int .u8 (borrow M N i) ∧ wr.ownsRow w.heap.size 5 1 v i (ints .u8 (bw i (M - N))) ∧ Below w.heap.size w wr) (fun _ _ j _ => nbits M - (intOf j).toNat)
  case atStart => exact ⟨0, by omega, rfl, by rw [borrow_zero]; rfl, World.ownsRow_nil _ _ _ _, Below.refl _ _⟩
  case round =>
    obtain ⟨i, hib, rfl, rfl, hown, hb⟩ := hrel
    have hcl := borrow_lt M N i
    by_cases hlt : i < nbits M
    · have hs1 := rest_bit M N i Hle.out
      have hs2 := borrow_succ M N i
      have hbM := bit_lt M i
      have hbN := bit_lt N i
      have Hs1 := Lib.hid hs1
      have Hs2 := Lib.hid hs2
      have D1 := Lib.hid (digit_any A c M i wr w.heap.size (h1.below hb) (by omega))
      have D2 := Lib.hid (digit_any A2 c2 N i wr w.heap.size (h2.below hb) (by omega))
      clear hs1 hs2
      go_wp2_with fail
      refine (D1.out).mono ?_
      rintro e w1 ⟨rfl, rfl⟩
      go_wp2_with fail
      refine (D2.out).mono ?_
      rintro e w1 ⟨rfl, rfl⟩
      go_wp2_with (at_builtin; refine wpList_append_one _ rfl _ _ 62 rfl w.heap.size 5 i0 (.int .u8 0) 1 Tryd.underlying62 hi hz0 hz1 hz2 rfl _ _ .u8 (bw i (M - N)) rfl hown _ (bit (M - N) i) (by rw [← Hs1.out]; omega) rfl (by unfold maxLen; omega) (by omega) hb.size ?_)
      intro v2 w2 own2 _ b2
      rw [show bit (M - N) i = (M - N) / 2 ^ i % 2 from rfl, ← bw_snoc] at own2
      go_wp2_with fail
      go_roundw
      case rel => exact ⟨i + 1, by omega, by go_num, by rw [Hs2.out]; congr 1 <;> omega, own2, hb.trans b2⟩
      case measure => simp [intOf]; omega
    · obtain rfl : i = nbits M := by omega
      have hend : M - N < 2 ^ nbits M := Nat.lt_of_le_of_lt (Nat.sub_le _ _) (nbits_lt M)
      obtain ⟨X, d, rfl, hd, _⟩ := own_form hown
      have R1 := Rd.own hown
      have T := numTrimO_any X d (bw (nbits M) (M - N)) wr R1 (bw_01 _ _) (by rw [length_bw]; omega) (by rw [length_bw]; exact hd)
      rw [length_bw, bv_bw, Nat.mod_eq_of_lt hend] at T
      have HT := Lib.hid T
      clear T R1 hown hend
      go_wp2_with fail
      refine (HT.out).mono ?_
      rintro e w1 ⟨v1, rfl, own1, b1⟩
      obtain ⟨Y, f, rfl, hf, _⟩ := own_form own1
      have HO := Lib.hid (own_base own1 hb.size)
      clear own1
      go_wp2_with fail
      go_ret
      exact ⟨_, rfl, HO.out, hb.trans (b1.mono hb.size)⟩
end Go.Proofs.YtabcmdhjbjioiaaDoor
/- The contracts of the document's Shifted, FromBytes, Bytes, Small. Conditions: as typed. -/
namespace Go.Proofs.YtabcmdhjbjioiaaDoor
open Go.RowKit
set_option maxRecDepth 20000
end Go.Proofs.YtabcmdhjbjioiaaDoor
/- The contract of the document's Small. Conditions: as typed. -/
namespace Go.Proofs.YtabcmdhjbjioiaaDoor
open Go.RowKit
set_option maxRecDepth 20000
/-- What Small answers. -/
def smallV (N : Nat) : Int := if N < 18446744073709551616 then (N : Int) else 0
def smallB (N : Nat) : Bool := decide (N < 18446744073709551616)
theorem same_true (A A2 : Option Addr) (n c c2 : Nat) (l : List Nat) (w : World) (hn : l.length = n) (h1 : Rd .u64 w w.heap.size A l) (h2 : Rd .u64 w w.heap.size A2 l) (hl : n ≤ 1099511627776) :
    Calls Tryd.prog 13 #[.slice A n c, .slice A2 n c2] w fun e w' => e = .returned (.bool true) ∧ Below w.heap.size w w' := by
  subst hn
  exact Calls.mono (same02_any A A2 c c2 l l w w.heap.size h1 h2 hl hl) fun e w' ⟨he, hd⟩ => ⟨by rw [he]; simp, hd.below _⟩
theorem small02_any (A : Option Addr) (c : Nat) (a : List Nat) (w : World) (hr : Rd .u64 w w.heap.size A a) (hw : Words a) (hl : a.length ≤ 1000000) :
    Calls Tryd.prog 23 #[.slice A a.length c] w fun e w' =>
      e = .returned (.tuple #[.int .u64 (smallV (natOf a)), .bool (smallB (natOf a))]) ∧ Below w.heap.size w w' := by
  have hnb := nbits_natOf a hw
  obtain ⟨N, hN⟩ : ∃ N, N = natOf a := ⟨_, rfl⟩
  have hD := digits_any A c a w hr hw hl
  rw [← hN] at hD hnb ⊢
  have HD := Lib.hid hD
  clear hD hN
  by_cases hs : N < 18446744073709551616
  · have hb64 : nbits N ≤ 64 := nbits_of_lt N 64 hs
    rw [show smallV N = (N : Int) from if_pos hs, show smallB N = true from decide_eq_true hs]
    by_cases h0 : N = 0
    · subst h0
      have hn0 : (nbits 0 + 63) / 64 = 0 := by rw [nbits_zero]
      have Hn0 := Lib.hid hn0
      clear hn0
      go_enter Tryd.func23, Tryd.ntmps23
      go_wp2_with fail
      refine (HD.out).mono ?_
      rintro e w1 ⟨X, d, rfl, hd, R, b1⟩
      go_wp2_with fail
      refine (wordsN_any X d 0 w1 R (by omega) hd).mono ?_
      rintro e w2 ⟨v, rfl, own, b2⟩
      rw [Hn0.out] at own
      obtain ⟨Y, f, rfl, _⟩ := own_form own
      clear own
      go_wp2_with fail
      go_ret2
      exact ⟨rfl, b1.trans (b2.mono b1.size)⟩
    · have hp : 0 < nbits N := by
        rcases Nat.eq_zero_or_pos (nbits N) with h | h
        · have := nbits_lt N
          rw [h, Nat.pow_zero] at this
          omega
        · exact h
      have hn1 : (nbits N + 63) / 64 = 1 := by omega
      have Hn1 := Lib.hid hn1
      have hw0 : nth (wd N) 0 = N := by
        have e := nth_words ((nbits N + 63) / 64) N 0 (by omega)
        rw [Nat.pow_zero, Nat.div_one, Nat.mod_eq_of_lt hs] at e
        exact e
      have Hw0 := Lib.hid hw0
      have Hs := Lib.hid hs
      clear hn1 hw0 hp hs h0
      go_enter Tryd.func23, Tryd.ntmps23
      go_wp2_with fail
      refine (HD.out).mono ?_
      rintro e w1 ⟨X, d, rfl, hd, R, b1⟩
      go_wp2_with fail
      refine (wordsN_any X d N w1 R (by omega) hd).mono ?_
      rintro e w2 ⟨v, rfl, own, b2⟩
      rw [Hn1.out] at own
      obtain ⟨Y, f, rfl, _⟩ := own_form own
      obtain ⟨b, off, rfl, _, hc⟩ := (Rd.own own) (by rw [length_wd, Hn1.out]; omega)
      have hx := hc 0 (by rw [length_wd, Hn1.out]; omega)
      rw [Hw0.out, Nat.add_zero] at hx
      clear own hc
      go_wp2_with fail
      go_ret2
      exact ⟨rfl, b1.trans (b2.mono b1.size)⟩
  · rw [show smallV N = 0 from if_neg hs, show smallB N = false from decide_eq_false hs]
    have hb64 : 64 < nbits N := by
      rcases Nat.lt_or_ge 64 (nbits N) with h | h
      · exact h
      · have h1 := nbits_lt N
        have h2 : 2 ^ nbits N ≤ 2 ^ 64 := Nat.pow_le_pow_right (by omega) h
        omega
    have hn1 : 1 < (nbits N + 63) / 64 := by omega
    obtain ⟨q, hq⟩ : ∃ q, q = (nbits N + 63) / 64 := ⟨_, rfl⟩
    rw [← hq] at hn1
    have Hq := Lib.hid hq
    clear hs hq
    go_enter Tryd.func23, Tryd.ntmps23
    go_wp2_with fail
    refine (HD.out).mono ?_
    rintro e w1 ⟨X, d, rfl, hd, R, b1⟩
    go_wp2_with fail
    refine (wordsN_any X d N w1 R (by omega) hd).mono ?_
    rintro e w2 ⟨v, rfl, own, b2⟩
    rw [← Hq.out] at own
    obtain ⟨Y, f, rfl, _⟩ := own_form own
    clear own
    go_wp2_with fail
    go_ret2
    exact ⟨rfl, b1.trans (b2.mono b1.size)⟩
end Go.Proofs.YtabcmdhjbjioiaaDoor

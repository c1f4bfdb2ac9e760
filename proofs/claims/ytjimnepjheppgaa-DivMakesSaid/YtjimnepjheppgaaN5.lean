/- The contracts of the document's Sum and Rest. Conditions: as typed. -/
import Derived.Test.YtjimnepjheppgaaN4
namespace Go.Proofs.Ytjimnepjheppgaa
open Go.RowKit
set_option maxRecDepth 20000

set_option maxHeartbeats 400000 in
theorem rest02O_any (A A2 : Option Addr) (c c2 M N : Nat) (w : World) (h1 : Rd .u8 w w.heap.size A (dg M)) (h2 : Rd .u8 w w.heap.size A2 (dg N)) (hm : nbits M ≤ 10000000) (hn : nbits N ≤ 10000000) (hle : N ≤ M) :
    Calls Try.prog 48 #[.slice A (nbits M) c, .slice A2 (nbits N) c2] w (OutNumO (M - N) w) := by
  obtain ⟨i0, hi, hz0, hz1, hz2⟩ := info_parts num_info_u8
  have Hle := Lib.hid hle
  clear hle
  go_enter Try.func48, Try.ntmps48
  go_wp2_with fail
  go_loopw [5, 6, 7] (fun v cy j wr => ∃ i : Nat, i ≤ nbits M ∧ j = .int .i64 i ∧ cy = .int .u8 (borrow M N i) ∧ wr.ownsRow w.heap.size 5 1 v i (ints .u8 (bw i (M - N))) ∧ Below w.heap.size w wr) (fun _ _ j _ => nbits M - (intOf j).toNat)
  case atStart => exact ⟨0, by omega, rfl, by rw [borrow_zero]; rfl, World.ownsRow_nil _ _ _ _, Below.refl _ _⟩
  case round =>
    obtain ⟨i, hib, rfl, rfl, hown, hb⟩ := hrel
    have hcl := borrow_lt M N i
    by_cases hlt : i < nbits M
    · have hs1 := rest_bit M N i Hle.out
      have hs2 := borrow_succ M N i
      have hbM := bit_lt M i
      have hbN := bit_lt N i
      have Hs1 := Lib.hid hs1
      have Hs2 := Lib.hid hs2
      have D1 := Lib.hid (digit_any A c M i wr w.heap.size (h1.below hb) (by omega))
      have D2 := Lib.hid (digit_any A2 c2 N i wr w.heap.size (h2.below hb) (by omega))
      clear hs1 hs2
      go_wp2_with fail
      refine (D1.out).mono ?_
      rintro e w1 ⟨rfl, rfl⟩
      go_wp2_with fail
      refine (D2.out).mono ?_
      rintro e w1 ⟨rfl, rfl⟩
      go_wp2_with (at_builtin; refine wpList_append_one _ rfl _ _ 50 rfl w.heap.size 5 i0 (.int .u8 0) 1 Try.underlying50 hi hz0 hz1 hz2 rfl _ _ .u8 (bw i (M - N)) rfl hown _ (bit (M - N) i) (by rw [← Hs1.out]; omega) rfl (by unfold maxLen; omega) (by omega) hb.size ?_)
      intro v2 w2 own2 _ b2
      rw [show bit (M - N) i = (M - N) / 2 ^ i % 2 from rfl, ← bw_snoc] at own2
      go_wp2_with fail
      go_roundw
      case rel => exact ⟨i + 1, by omega, by go_num, by rw [Hs2.out]; congr 1 <;> omega, own2, hb.trans b2⟩
      case measure => simp [intOf]; omega
    · obtain rfl : i = nbits M := by omega
      have hend : M - N < 2 ^ nbits M := Nat.lt_of_le_of_lt (Nat.sub_le _ _) (nbits_lt M)
      obtain ⟨X, d, rfl, hd, _⟩ := own_form hown
      have R1 := Rd.own hown
      have T := numTrimO_any X d (bw (nbits M) (M - N)) wr R1 (bw_01 _ _) (by rw [length_bw]; omega) (by rw [length_bw]; exact hd)
      rw [length_bw, bv_bw, Nat.mod_eq_of_lt hend] at T
      have HT := Lib.hid T
      clear T R1 hown hend
      go_wp2_with fail
      refine (HT.out).mono ?_
      rintro e w1 ⟨v1, rfl, own1, b1⟩
      obtain ⟨Y, f, rfl, hf, _⟩ := own_form own1
      have HO := Lib.hid (own_base own1 hb.size)
      clear own1
      go_wp2_with fail
      go_ret
      exact ⟨_, rfl, HO.out, hb.trans (b1.mono hb.size)⟩

theorem rest02_any (A A2 : Option Addr) (c c2 M N : Nat) (w : World) (h1 : Rd .u8 w w.heap.size A (dg M)) (h2 : Rd .u8 w w.heap.size A2 (dg N)) (hm : nbits M ≤ 10000000) (hn : nbits N ≤ 10000000) (hle : N ≤ M) :
    Calls Try.prog 48 #[.slice A (nbits M) c, .slice A2 (nbits N) c2] w (OutNum (M - N) w) := Calls.mono (rest02O_any A A2 c c2 M N w h1 h2 hm hn hle) fun _ _ h => h.num
end Go.Proofs.Ytjimnepjheppgaa

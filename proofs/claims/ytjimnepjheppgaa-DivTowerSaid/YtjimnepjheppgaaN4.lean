/- The contracts of the document's Of, Small, Less, digit, Sum, Rest, Shifted. Conditions: as typed. -/
import Derived.Test.YtjimnepjheppgaaN3
import Derived.Test.YtjimnepjheppgaaNum2
namespace Go.Proofs.Ytjimnepjheppgaa
open Go.RowKit
set_option maxRecDepth 20000

theorem wordsN_any (A : Option Addr) (c N : Nat) (w : World) (hr : Rd .u8 w w.heap.size A (dg N)) (hl : nbits N ≤ 100000000) (hc : nbits N ≤ c) :
    Calls Try.prog 27 #[.slice A (nbits N) c] w (OutNat N w) := by
  have h := words_any A c (dg N) w hr (dg_01 N) (by rw [length_dg]; exact hl) (by rw [length_dg]; exact hc)
  rwa [length_dg, bv_dg] at h

theorem digit_any (A : Option Addr) (c N : Nat) (i : Nat) (w : World) (B : Nat) (hr : Rd .u8 w B A (dg N)) (hl : nbits N ≤ 100000000) :
    Calls Try.prog 63 #[.slice A (nbits N) c, .int .i64 i] w fun e w' => e = .returned (.int .u8 (bit N i)) ∧ w = w' := by
  have hd : decide ((i : Int) < 0) = false := by simp
  by_cases h : i < nbits N
  · obtain ⟨b, off, rfl, _, hc⟩ := hr (by rw [length_dg]; omega)
    have hx := hc i (by rw [length_dg]; exact h)
    rw [nth_dg_bit] at hx
    clear hc
    go_enter Try.func63, Try.ntmps63
    go_wp2_with fail
    go_ret
    exact ⟨rfl, rfl⟩
  · have e : bit N i = 0 := by
      rw [← nth_dg_bit]
      simp [nth, length_dg, show nbits N ≤ i by omega]
    have He := Lib.hid e
    clear e
    go_enter Try.func63, Try.ntmps63
    go_wp2_with fail
    go_ret
    exact ⟨ret_num (by rw [He.out]; rfl), rfl⟩

set_option maxHeartbeats 400000 in
theorem less02_any (A A2 : Option Addr) (c c2 M N : Nat) (w : World) (B : Nat) (h1 : Rd .u8 w B A (dg M)) (h2 : Rd .u8 w B A2 (dg N)) (hm : nbits M ≤ 100000000) (hn : nbits N ≤ 100000000) :
    Calls Try.prog 47 #[.slice A (nbits M) c, .slice A2 (nbits N) c2] w fun e w' => e = .returned (.bool (decide (M < N))) ∧ Drawn w w' := by
  by_cases hne : nbits M = nbits N
  · have hb : ((nbits M : Int) != (nbits N : Int)) = false := by simp [hne]
    have Hne := Lib.hid hne
    have hle : nbits M ≤ nbits N := by omega
    clear hne
    go_enter Try.func47, Try.ntmps47
    go_wp2_with fail
    go_loopw [5] (fun i wr => ∃ k : Nat, k ≤ nbits M ∧ i = .int .i64 ((k : Int) - 1) ∧ (∀ j, k ≤ j → bit M j = bit N j) ∧ Drawn w wr) (fun i _ => (intOf i + 1).toNat)
    case atStart =>
      refine ⟨nbits M, Nat.le_refl _, rfl, fun j hj => ?_, Drawn.refl _⟩
      rw [← nth_dg_bit, ← nth_dg_bit]
      have := Hne.out
      simp [nth, length_dg, hj, show nbits N ≤ j by omega]
    case round =>
      obtain ⟨k, hk, rfl, hz, hdr⟩ := hrel
      have Hz := Lib.hid hz
      clear hz
      by_cases h0 : k = 0
      · subst h0
        go_wp2_with fail
        go_ret
        refine ⟨ret_bool2 ?_, hdr⟩
        have e : M = N := eq_of_bits M N (nbits M) (nbits_lt M) (by rw [Hne.out]; exact nbits_lt N) fun j _ => Hz.out j (Nat.zero_le _)
        rw [e]
        simp
      · obtain ⟨m, rfl⟩ : ∃ m, k = m + 1 := ⟨k - 1, by omega⟩
        obtain ⟨b, off, rfl, _, hc⟩ := (hdr.rd h1) (by rw [length_dg]; omega)
        obtain ⟨b2, off2, rfl, _, hc2⟩ := (hdr.rd h2) (by rw [length_dg]; omega)
        have e1 := hc m (by rw [length_dg]; omega)
        have e2 := hc2 m (by rw [length_dg]; omega)
        rw [nth_dg_bit] at e1 e2
        have hmN : m < nbits N := by omega
        clear hc hc2
        by_cases hx : bit M m = bit N m
        · have hxb : (((bit M m : Nat) : Int) != ((bit N m : Nat) : Int)) = false := by simp [hx]
          have Hx := Lib.hid hx
          clear hx
          go_wp2_with fail
          go_quiet (fail)
          go_wp2_with fail
          go_roundw
          case rel => exact ⟨m, by omega, rfl, fun j hj => by (rcases Nat.eq_or_lt_of_le hj with rfl | h); exact Hx.out; exact Hz.out j h, hdr.draws _⟩
          case measure => simp [intOf] <;> omega
        · have hxb : (((bit M m : Nat) : Int) != ((bit N m : Nat) : Int)) = true := by simp; omega
          have hiff : M < N ↔ bit M m < bit N m := by
            refine ⟨fun h => ?_, less_of_bit M N m fun j hj => Hz.out j hj⟩
            rcases Nat.lt_trichotomy (bit M m) (bit N m) with h' | h' | h'
            · exact h'
            · exact absurd h' hx
            · have := less_of_bit N M m (fun j hj => (Hz.out j hj).symm) h'
              omega
          have Hi := Lib.hid hiff
          clear hx hiff
          go_wp2_with fail
          go_quiet (fail)
          go_wp2_with fail
          go_quiet (fail)
          go_wp2_with fail
          go_ret
          refine ⟨ret_bool2 ?_, ?_⟩
          · rw [Bool.eq_iff_iff, decide_eq_true_eq, decide_eq_true_eq, Hi.out] <;> omega
          · first | exact hdr.draws _ | exact (hdr.draws _).draws _
  · have hb : ((nbits M : Int) != (nbits N : Int)) = true := by simp; omega
    have hiff : M < N ↔ nbits M < nbits N := by
      refine ⟨fun h => ?_, less_of_nbits⟩
      have := nbits_mono (Nat.le_of_lt h)
      omega
    have Hi := Lib.hid hiff
    clear hne hiff
    go_enter Try.func47, Try.ntmps47
    go_wp2_with fail
    go_ret
    refine ⟨ret_bool2 ?_, Drawn.refl _⟩
    rw [Bool.eq_iff_iff, decide_eq_true_eq, decide_eq_true_eq, Hi.out] <;> omega
end Go.Proofs.Ytjimnepjheppgaa

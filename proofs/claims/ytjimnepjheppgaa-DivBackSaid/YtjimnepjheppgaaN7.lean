/- The contract of the document's Small. Conditions: as typed. -/
import Derived.Test.YtjimnepjheppgaaN6
namespace Go.Proofs.Ytjimnepjheppgaa
open Go.RowKit
set_option maxRecDepth 20000

/-- What Small answers. -/
def smallV (N : Nat) : Int := if N < 18446744073709551616 then (N : Int) else 0
def smallB (N : Nat) : Bool := decide (N < 18446744073709551616)
theorem same_true (A A2 : Option Addr) (n c c2 : Nat) (l : List Nat) (w : World) (hn : l.length = n) (h1 : Rd .u64 w w.heap.size A l) (h2 : Rd .u64 w w.heap.size A2 l) (hl : n ≤ 1099511627776) :
    Calls Try.prog 13 #[.slice A n c, .slice A2 n c2] w fun e w' => e = .returned (.bool true) ∧ Below w.heap.size w w' := by
  subst hn
  exact Calls.mono (same02_any A A2 c c2 l l w w.heap.size h1 h2 hl hl) fun e w' ⟨he, hd⟩ => ⟨by rw [he]; simp, hd.below _⟩
theorem small02_any (A : Option Addr) (c : Nat) (a : List Nat) (w : World) (hr : Rd .u64 w w.heap.size A a) (hw : Words a) (hl : a.length ≤ 1000000) :
    Calls Try.prog 15 #[.slice A a.length c] w fun e w' =>
      e = .returned (.tuple #[.int .u64 (smallV (natOf a)), .bool (smallB (natOf a))]) ∧ Below w.heap.size w w' := by
  have hnb := nbits_natOf a hw
  obtain ⟨N, hN⟩ : ∃ N, N = natOf a := ⟨_, rfl⟩
  have hD := digits_any A c a w hr hw hl
  rw [← hN] at hD hnb ⊢
  have HD := Lib.hid hD
  clear hD hN
  by_cases hs : N < 18446744073709551616
  · have hb64 : nbits N ≤ 64 := nbits_of_lt N 64 hs
    rw [show smallV N = (N : Int) from if_pos hs, show smallB N = true from decide_eq_true hs]
    by_cases h0 : N = 0
    · subst h0
      have hn0 : (nbits 0 + 63) / 64 = 0 := by rw [nbits_zero]
      have Hn0 := Lib.hid hn0
      clear hn0
      go_enter Try.func15, Try.ntmps15
      go_wp2_with fail
      refine (HD.out).mono ?_
      rintro e w1 ⟨X, d, rfl, hd, R, b1⟩
      go_wp2_with fail
      refine (wordsN_any X d 0 w1 R (by omega) hd).mono ?_
      rintro e w2 ⟨v, rfl, own, b2⟩
      rw [Hn0.out] at own
      obtain ⟨Y, f, rfl, _⟩ := own_form own
      clear own
      go_wp2_with fail
      go_ret2
      exact ⟨rfl, b1.trans (b2.mono b1.size)⟩
    · have hp : 0 < nbits N := by
        rcases Nat.eq_zero_or_pos (nbits N) with h | h
        · have := nbits_lt N
          rw [h, Nat.pow_zero] at this
          omega
        · exact h
      have hn1 : (nbits N + 63) / 64 = 1 := by omega
      have Hn1 := Lib.hid hn1
      have hw0 : nth (wd N) 0 = N := by
        have e := nth_words ((nbits N + 63) / 64) N 0 (by omega)
        rw [Nat.pow_zero, Nat.div_one, Nat.mod_eq_of_lt hs] at e
        exact e
      have Hw0 := Lib.hid hw0
      have Hs := Lib.hid hs
      clear hn1 hw0 hp hs h0
      go_enter Try.func15, Try.ntmps15
      go_wp2_with fail
      refine (HD.out).mono ?_
      rintro e w1 ⟨X, d, rfl, hd, R, b1⟩
      go_wp2_with fail
      refine (wordsN_any X d N w1 R (by omega) hd).mono ?_
      rintro e w2 ⟨v, rfl, own, b2⟩
      rw [Hn1.out] at own
      obtain ⟨Y, f, rfl, _⟩ := own_form own
      obtain ⟨b, off, rfl, _, hc⟩ := (Rd.own own) (by rw [length_wd, Hn1.out]; omega)
      have hx := hc 0 (by rw [length_wd, Hn1.out]; omega)
      rw [Hw0.out, Nat.add_zero] at hx
      clear own hc
      go_wp2_with fail
      go_ret2
      exact ⟨rfl, b1.trans (b2.mono b1.size)⟩
  · rw [show smallV N = 0 from if_neg hs, show smallB N = false from decide_eq_false hs]
    have hb64 : 64 < nbits N := by
      rcases Nat.lt_or_ge 64 (nbits N) with h | h
      · exact h
      · have h1 := nbits_lt N
        have h2 : 2 ^ nbits N ≤ 2 ^ 64 := Nat.pow_le_pow_right (by omega) h
        omega
    have hn1 : 1 < (nbits N + 63) / 64 := by omega
    obtain ⟨q, hq⟩ : ∃ q, q = (nbits N + 63) / 64 := ⟨_, rfl⟩
    rw [← hq] at hn1
    have Hq := Lib.hid hq
    clear hs hq
    go_enter Try.func15, Try.ntmps15
    go_wp2_with fail
    refine (HD.out).mono ?_
    rintro e w1 ⟨X, d, rfl, hd, R, b1⟩
    go_wp2_with fail
    refine (wordsN_any X d N w1 R (by omega) hd).mono ?_
    rintro e w2 ⟨v, rfl, own, b2⟩
    rw [← Hq.out] at own
    obtain ⟨Y, f, rfl, _⟩ := own_form own
    clear own
    go_wp2_with fail
    go_ret2
    exact ⟨rfl, b1.trans (b2.mono b1.size)⟩
end Go.Proofs.Ytjimnepjheppgaa

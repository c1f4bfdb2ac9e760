/- The contracts of nat's small functions: trimmed, word, May, Trim, Small, Of. Conditions: as typed (lengths that fit a machine). -/
import Derived.Test.YtjimnepjheppgaaN7
import Derived.Test.YtjimnepjheppgaaNatM
namespace Go.Proofs.Ytjimnepjheppgaa
open Go.RowKit
set_option maxRecDepth 20000

set_option maxHeartbeats 400000 in
theorem trimmed_any (A : Option Addr) (c : Nat) (a : List Nat) (w : World) (B : Nat) (hr : Rd .u64 w B A a) (hw : Words a) (hl : a.length ≤ 1000000) (hc : a.length ≤ c) :
    Calls Try.prog 31 #[.slice A a.length c] w fun e w' => e = .returned (.slice A (tl a) c) ∧ w = w' := by
  have htl := tl_le a hw
  go_enter Try.func31, Try.ntmps31
  go_wp2_with fail
  go_loop [3] (fun i => ∃ k : Nat, k ≤ a.length ∧ tl a ≤ k ∧ i = .int .i64 k) (fun i => (intOf i).toNat)
  case atStart => exact ⟨a.length, Nat.le_refl _, htl, rfl⟩
  case round =>
    obtain ⟨k, hk, hnk, rfl⟩ := hrel
    by_cases hend : k = tl a
    · obtain rfl := hend
      by_cases hp : 0 < tl a
      · have hl1 := nth_last_word a hw hp
        have hs : (((nth a (tl a - 1) : Nat) : Int) == 0) = false := by simpa using hl1
        obtain ⟨b, off, rfl, hbB, hcell⟩ := hr (by omega)
        have hx := hcell (tl a - 1) (by omega)
        clear hcell hl1
        go_wp2_with fail
        go_ret
        exact ⟨rfl, rfl⟩
      · have hnp : ¬ (0 : Int) < (tl a : Int) := by omega
        go_wp2_with fail
        go_ret
        exact ⟨rfl, rfl⟩
    · obtain ⟨m, rfl⟩ : ∃ m, k = m + 1 := ⟨k - 1, by omega⟩
      have hx0 := nth_over_words a hw m (by omega)
      obtain ⟨b, off, rfl, hbB, hcell⟩ := hr (by omega)
      have hx := hcell m (by omega)
      rw [hx0] at hx
      clear hcell hx0
      go_wp2_with fail
      go_round
      case rel => exact ⟨m, by omega, by omega, by go_num⟩
      case measure => simp [intOf] <;> omega

set_option maxHeartbeats 400000 in
theorem word_any (A : Option Addr) (c : Nat) (a : List Nat) (i : Int) (w : World) (B : Nat) (hr : Rd .u64 w B A a) (hl : a.length ≤ 1000000) :
    Calls Try.prog 39 #[.slice A a.length c, .int .i64 i] w fun e w' => e = .returned (.int .u64 (wordS a i : Nat)) ∧ w = w' := by
  by_cases h0 : i < 0
  · have hv := Lib.hid (wordS_neg a i h0)
    go_enter Try.func39, Try.ntmps39
    go_wp2_with fail
    go_ret
    exact ⟨ret_num (by rw [hv.out]; rfl), rfl⟩
  · obtain ⟨j, rfl⟩ := Int.eq_ofNat_of_zero_le (by omega : 0 ≤ i)
    have hv := Lib.hid (wordS_nat a j)
    by_cases h1 : j < a.length
    · obtain ⟨b, off, rfl, hbB, hcell⟩ := hr (by omega)
      have hx := hcell j h1
      clear hcell
      go_enter Try.func39, Try.ntmps39
      go_wp2_with fail
      go_ret
      exact ⟨ret_num (by rw [hv.out]), rfl⟩
    · have hn := Lib.hid (show nth a j = 0 by simp [nth, List.getElem?_eq_none (by omega : a.length ≤ j)])
      go_enter Try.func39, Try.ntmps39
      go_wp2_with fail
      go_ret
      exact ⟨ret_num (by rw [hv.out, hn.out]; rfl), rfl⟩

section
variable (A : Option Addr) (c : Nat) (a : List Nat) (w : World) (hr : Rd .u64 w w.heap.size A a) (hw : Words a) (hl : a.length ≤ 100000) (hc : a.length ≤ c)
include hr hw hl hc

theorem may_pf : Calls Try.prog 17 #[.slice A a.length c] w fun e w' => e = .returned (.bool (decide (a = wd (natOf a)))) ∧ Below w.heap.size w w' := by
  have T := Lib.hid (trimmed_any A c a w w.heap.size hr hw (by omega) hc)
  have E := Lib.hid (tl_eq_length a hw)
  have htl := tl_le a hw
  go_enter Try.func17, Try.ntmps17
  go_wp2_with fail
  refine (T.out).mono ?_
  rintro e w' ⟨rfl, rfl⟩
  by_cases h : tl a = a.length
  · have hb : ((tl a : Int) == (a.length : Int)) = true := by simp; omega
    have Hh := Lib.hid h
    clear h
    go_wp2_with fail
    go_ret
    exact ⟨ret_bool2 (decide_eq_true (E.out.1 Hh.out)).symm, Below.refl _ _⟩
  · have hb : ((tl a : Int) == (a.length : Int)) = false := by simp; omega
    have Hh := Lib.hid h
    clear h
    go_wp2_with fail
    go_ret
    exact ⟨ret_bool2 (decide_eq_false fun e => Hh.out (E.out.2 e)).symm, Below.refl _ _⟩

set_option maxHeartbeats 400000 in
theorem trim_pf : Calls Try.prog 16 #[.slice A a.length c] w (OutNat (natOf a) w) := by
  obtain ⟨i0, hi, hz0, hz1, hz2⟩ := info_parts num_info_u64
  have T := Lib.hid (trimmed_any A c a w w.heap.size hr hw (by omega) hc)
  have E := Lib.hid (take_wd a hw)
  have htl := tl_le a hw
  have hR := hr.take (tl a)
  rw [E.out] at hR
  have HR := Lib.hid hR
  clear hR
  have hlen := Lib.hid (show (wd (natOf a)).length = tl a from length_wd _)
  go_enter Try.func16, Try.ntmps16
  go_wp2_with fail
  refine (T.out).mono ?_
  rintro e w' ⟨rfl, rfl⟩
  go_wp2_with (at_builtin; refine wpList_append_rd _ rfl (.const (.slice none 0 0)) (.tmp 4) _ rfl w.heap.size 24 i0 _ 8 Try.underlying23 hi hz0 hz1 hz2 rfl (.slice none 0 0) 0 [] rfl ?c1 .u64 w.heap.size A (tl a) c (wd (natOf a)) rfl ?c2 ?c3 ?c4 ?c5 ?c6 ?_)
  case c1 => exact World.ownsRow_nil _ _ _ _
  case c2 => exact hlen.out
  case c3 => exact HR.out
  case c4 => unfold maxLen; omega
  case c5 => omega
  case c6 => exact Nat.le_refl _
  intro v1 w1 own1 hg1
  have b1 : Below w.heap.size w w1 := (Below.refl _ _).grown hg1 (Nat.le_refl _) (by simp [Value.ownBlock])
  have own1' : w1.ownsRow w.heap.size 24 1 v1 (tl a) (ints .u64 (wd (natOf a))) := by simpa using own1
  obtain ⟨X, d, rfl, hd, _⟩ := own_form own1'
  clear own1 hg1
  go_wp2_with fail
  go_ret
  exact ⟨_, rfl, own1', b1⟩

set_option maxHeartbeats 400000 in
theorem small_pf : Calls Try.prog 23 #[.slice A a.length c] w fun e w' =>
      e = .returned (.tuple #[.int .u64 (smallV (natOf a)), .bool (smallB (natOf a))]) ∧ Below w.heap.size w w' := by
  have T := Lib.hid (trimmed_any A c a w w.heap.size hr hw (by omega) hc)
  have W0 := Lib.hid (word_any A c a 0 w w.heap.size hr (by omega))
  have htl := tl_le a hw
  by_cases h : tl a ≤ 1
  · have hs := (small_iff a).1 h
    have hv := Lib.hid (show ((wordS a 0 : Nat) : Int) = smallV (natOf a) by
      unfold smallV
      rw [if_pos hs, show (0 : Int) = ((0 : Nat) : Int) from rfl, wordS_nat, nth_zero a hw, Nat.mod_eq_of_lt hs])
    have hb := Lib.hid (show true = smallB (natOf a) by simp [smallB, hs])
    clear hs
    have hn : ¬ (1 : Int) < (tl a : Int) := by omega
    go_enter Try.func23, Try.ntmps23
    go_wp2_with fail
    refine (T.out).mono ?_
    rintro e w' ⟨rfl, rfl⟩
    go_wp2_with fail
    refine (W0.out).mono ?_
    rintro e w' ⟨rfl, rfl⟩
    go_wp2_with fail
    go_ret2
    exact ⟨by rw [hv.out, ← hb.out]; rfl, Below.refl _ _⟩
  · have hs : ¬ natOf a < 18446744073709551616 := fun h' => h ((small_iff a).2 h')
    have hv := Lib.hid (show (0 : Int) = smallV (natOf a) by unfold smallV; rw [if_neg hs])
    have hb := Lib.hid (show false = smallB (natOf a) by simp [smallB]; omega)
    clear hs
    have hn : (1 : Int) < (tl a : Int) := by omega
    go_enter Try.func23, Try.ntmps23
    go_wp2_with fail
    refine (T.out).mono ?_
    rintro e w' ⟨rfl, rfl⟩
    go_wp2_with fail
    go_ret2
    exact ⟨by rw [← hv.out, ← hb.out]; rfl, Below.refl _ _⟩
end

theorem wd_one (n : Nat) (hn : n < 18446744073709551616) (h0 : n ≠ 0) : wd n = [n] ∧ (nbits n + 63) / 64 = 1 := by
  have h1 := nbits_of_lt n 64 hn
  have h2 : nbits n ≠ 0 := by intro h; have := nbits_lt n; rw [h] at this; simp at this; omega
  have h3 : (nbits n + 63) / 64 = 1 := by omega
  refine ⟨?_, h3⟩
  rw [wd, h3]
  simp [words, Nat.mod_eq_of_lt hn]

set_option maxHeartbeats 400000 in
theorem of_pf (n : Nat) (w : World) (hn : n < 18446744073709551616) : Calls Try.prog 21 #[.int .u64 n] w (OutNat n w) := by
  by_cases h0 : n = 0
  · subst h0
    go_enter Try.func21, Try.ntmps21
    go_wp2_with fail
    go_ret
    refine ⟨_, rfl, ?_, Below.refl _ _⟩
    have e : wd 0 = [] := by simp [wd, nbits_zero, words]
    rw [nbits_zero, e]
    exact World.ownsRow_nil _ _ _ _
  · obtain ⟨e1, e2⟩ := wd_one n hn h0
    have E1 := Lib.hid e1
    have E2 := Lib.hid e2
    clear e1 e2
    have hb : ((n : Int) == 0) = false := by simpa using h0
    clear h0
    go_enter Try.func21, Try.ntmps21
    go_wp2_with fail
    go_ret
    refine ⟨_, rfl, ?_, (Below.refl _ _).alloc (Nat.le_refl _) _⟩
    rw [E2.out, E1.out]
    exact own_of_heap (cur := [.int .u64 n]) (heap_alloc_new w (.cells #[.int .u64 n] 24)) (Nat.le_refl _) (Nat.le_refl _) (by unfold maxLen; omega) rfl rfl
end Go.Proofs.Ytjimnepjheppgaa

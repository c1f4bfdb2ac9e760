/- Several texts in one; each begins with a remark that says what it shows and on which conditions. -/
import Derived.Test.YtgmolbiicclcaaaKab
import Derived.Test.YtgmolbiicclcaaaKac
import Derived.Shelf.Small.Bits
import Derived.Shelf.Small.Wraps
import Derived.Shelf.Strconv.Itoa0
import Derived.Shelf.Bits.Mul64
import Derived.Ground.Names2Prog
import Derived.Shelf.Slices.SearchI
import Derived.Test.YtgmolbiicclcaaaProg
/- Plain facts on words: how many a number needs, carries and borrows from word to word, shifts of words. No condition but those typed; no program is named. -/
namespace Go.Proofs.Ytgmolbiicclcaaa
/-- How many words the number of words needs. -/
def tl (a : List Nat) : Nat := (nbits (natOf a) + 63) / 64
theorem natOf_lt_tl (a : List Nat) : natOf a < 18446744073709551616 ^ tl a := by
  rw [pow_64_2]
  exact Nat.lt_of_lt_of_le (nbits_lt _) (Nat.pow_le_pow_right (by omega) (by unfold tl; omega))
theorem tl_le (a : List Nat) (h : Words a) : tl a ≤ a.length := by
  have := nbits_natOf a h
  unfold tl
  omega
theorem nth_over_words (a : List Nat) (h : Words a) (m : Nat) (hm : tl a ≤ m) : nth a m = 0 := by
  rw [nth_natOf a h, Nat.div_eq_of_lt (Nat.lt_of_lt_of_le (natOf_lt_tl a) (Nat.pow_le_pow_right (by omega) hm))]
theorem tl_le_of_lt (a : List Nat) (m : Nat) (h : natOf a < 18446744073709551616 ^ m) : tl a ≤ m := by
  rw [pow_64_2] at h
  have := nbits_of_lt _ _ h
  unfold tl
  omega
theorem nth_last_word (a : List Nat) (h : Words a) (hp : 0 < tl a) : nth a (tl a - 1) ≠ 0 := by
  intro h0
  obtain ⟨m, hm⟩ : ∃ m, tl a = m + 1 := ⟨tl a - 1, by omega⟩
  have h1 := natOf_lt_tl a
  rw [hm] at h0 h1
  rw [Nat.add_sub_cancel, nth_natOf a h] at h0
  have hp' : 0 < 18446744073709551616 ^ m := Nat.pow_pos (by omega)
  have h2 : natOf a / 18446744073709551616 ^ m < 18446744073709551616 := by
    rw [Nat.div_lt_iff_lt_mul hp', Nat.mul_comm]
    rwa [Nat.pow_succ] at h1
  rw [Nat.mod_eq_of_lt h2, Nat.div_eq_zero_iff] at h0
  have h3 : natOf a < 18446744073709551616 ^ m := by omega
  have := tl_le_of_lt a m h3
  omega
theorem nth_take (a : List Nat) (k j : Nat) (h : j < k) : nth (a.take k) j = nth a j := by simp [nth, h]
theorem take_wd (a : List Nat) (h : Words a) : a.take (tl a) = wd (natOf a) := by
  have hl := tl_le a h
  refine ext_nth _ _ (by rw [List.length_take, length_wd]; unfold tl at *; omega) fun j hj => ?_
  rw [List.length_take] at hj
  rw [nth_take _ _ _ (by omega), nth_natOf a h, wd, nth_words _ _ _ (by unfold tl at hj; omega)]
theorem tl_eq_length (a : List Nat) (h : Words a) : tl a = a.length ↔ a = wd (natOf a) := by
  constructor
  · intro e
    have := take_wd a h
    rwa [e, List.take_length] at this
  · intro e
    have := congrArg List.length e
    rw [length_wd] at this
    unfold tl
    omega
theorem tl_words (k n : Nat) (h : n < 18446744073709551616 ^ k) : tl (words k n) = (nbits n + 63) / 64 := by
  rw [tl, natOf_words, Nat.mod_eq_of_lt h]
theorem tl_zero (a : List Nat) (h : tl a = 0) : natOf a = 0 := by
  have := natOf_lt_tl a
  rw [h] at this
  simpa using this
theorem small_iff (a : List Nat) : tl a ≤ 1 ↔ natOf a < 18446744073709551616 := by
  constructor
  · intro h
    have h1 := natOf_lt_tl a
    have h2 : (18446744073709551616 : Nat) ^ tl a ≤ 18446744073709551616 ^ 1 := Nat.pow_le_pow_right (by omega) h
    omega
  · intro h
    exact tl_le_of_lt a 1 (by omega)
theorem nth_zero (a : List Nat) (h : Words a) : nth a 0 = natOf a % 18446744073709551616 := by rw [nth_natOf a h]; simp
theorem nbits_hit_word (a : List Nat) (h : Words a) (hp : 0 < tl a) : nbits (natOf a) = (tl a - 1) * 64 + Lib.bitLen (nth a (tl a - 1)) := by
  have hx := nth_last_word a h hp
  have hl := tl_le a h
  obtain ⟨m, hm⟩ : ∃ m, tl a = m + 1 := ⟨tl a - 1, by omega⟩
  have hz : ∀ j, m + 1 ≤ j → nth a j = 0 := fun j hj => nth_over_words a h j (by omega)
  rw [hm, Nat.add_sub_cancel] at hx ⊢
  have hl' : m + 1 ≤ a.length := by omega
  have hlt := h _ (nth_mem a m (by omega))
  obtain ⟨b1, b2, b3⟩ := Lib.bitLenAux_bounds 64 (nth a m) hlt hx
  have hlow : natOf (a.take m) < 18446744073709551616 ^ m := natOf_take_lt a h m
  rw [natOf_top a m (by omega) hz]
  have e : Lib.bitLen (nth a m) = Lib.bitLenAux 64 (nth a m) := rfl
  rw [e]
  generalize nth a m = x at *
  generalize Lib.bitLenAux 64 x = bl at *
  have ep : (18446744073709551616 : Nat) ^ m = 2 ^ (m * 64) := by rw [pow_64_2, Nat.mul_comm]
  refine nbits_eq _ _ ?_ fun _ => ?_
  · rw [Nat.pow_add, ← ep]
    have : 18446744073709551616 ^ m * (x + 1) ≤ 18446744073709551616 ^ m * 2 ^ bl := Nat.mul_le_mul_left _ b3
    rw [Nat.mul_add, Nat.mul_one] at this
    omega
  · rw [show m * 64 + bl - 1 = m * 64 + (bl - 1) by omega, Nat.pow_add, ← ep]
    have : 18446744073709551616 ^ m * 2 ^ (bl - 1) ≤ 18446744073709551616 ^ m * x := Nat.mul_le_mul_left _ b2
    omega
/-! Sums -/
theorem words_snoc (k n : Nat) : words (k + 1) n = words k n ++ [n / 18446744073709551616 ^ k % 18446744073709551616] := by
  refine ext_nth _ _ (by simp [length_words]) fun j hj => ?_
  rw [length_words] at hj
  rw [nth_words _ _ _ hj]
  rcases Nat.lt_or_ge j k with h | h
  · have := nth_words k n j h
    rw [← this]
    simp [nth, List.getElem?_append, length_words, h]
  · obtain rfl : j = k := by omega
    simp [nth, length_words]
/-! What is left -/
/-! Shifts -/
/-- Word i, 0 below the first and behind the last. -/
def wordS (a : List Nat) (i : Int) : Nat := if i < 0 then 0 else nth a i.toNat
theorem wordS_nat (a : List Nat) (i : Nat) : wordS a (i : Int) = nth a i := by
  unfold wordS
  rw [if_neg (by omega), Int.toNat_natCast]
theorem wordS_neg (a : List Nat) (i : Int) (h : i < 0) : wordS a i = 0 := by simp [wordS, h]
theorem nth_lt (a : List Nat) (h : Words a) (j : Nat) : nth a j < 18446744073709551616 := by
  rw [nth_natOf a h]
  exact Nat.mod_lt _ (by omega)
theorem wordS_lt (a : List Nat) (h : Words a) (i : Int) : wordS a i < 18446744073709551616 := by
  unfold wordS
  split
  · omega
  · exact nth_lt a h _
theorem or_low (q t r : Nat) (hr : r < 64) (ht : t < 2 ^ r) : (q * 2 ^ r % 18446744073709551616) ||| t = (q * 2 ^ r + t) % 18446744073709551616 := by
  have e : (18446744073709551616 : Nat) = 2 ^ r * 2 ^ (64 - r) := by rw [← Nat.pow_add, show r + (64 - r) = 64 by omega]
  rw [e, Nat.mul_comm q, Nat.mul_mod_mul_left, ← Nat.two_pow_add_eq_or_of_lt ht]
  have hp : 0 < 2 ^ r := Nat.pow_pos (by omega)
  have h1 := Nat.mod_lt q (Nat.pow_pos (n := 64 - r) (show 0 < 2 by omega))
  have hq := Nat.div_add_mod q (2 ^ (64 - r))
  generalize 2 ^ (64 - r) = s at *
  generalize 2 ^ r = p at *
  have h2 : p * (q % s + 1) ≤ p * s := Nat.mul_le_mul_left _ h1
  rw [Nat.mul_add, Nat.mul_one] at h2
  conv => rhs; rw [← hq, Nat.mul_add, ← Nat.mul_assoc, Nat.add_assoc, Nat.mul_add_mod, Nat.mod_eq_of_lt (by omega)]
theorem shl_word (a : List Nat) (h : Words a) (j r : Nat) (hr : r < 64) :
    ((nth a j * 2 ^ r) % 18446744073709551616) ||| (wordS a ((j : Int) - 1) / 2 ^ (64 - r)) = natOf a * 2 ^ r / 18446744073709551616 ^ j % 18446744073709551616 := by
  have hp : 0 < 2 ^ r := Nat.pow_pos (by omega)
  have eB : (18446744073709551616 : Nat) = 2 ^ r * 2 ^ (64 - r) := by rw [← Nat.pow_add, show r + (64 - r) = 64 by omega]
  have hw := wordS_lt a h ((j : Int) - 1)
  have ht : wordS a ((j : Int) - 1) / 2 ^ (64 - r) < 2 ^ r := by
    rw [Nat.div_lt_iff_lt_mul (Nat.pow_pos (by omega)), ← eB]
    exact hw
  rw [or_low _ _ r hr ht, nth_natOf a h]
  have e1 : natOf a * 2 ^ r / 18446744073709551616 ^ j = natOf a / 18446744073709551616 ^ j * 2 ^ r + wordS a ((j : Int) - 1) / 2 ^ (64 - r) := by
    rcases j with _ | i
    · rw [wordS_neg a _ (by omega)]
      simp
    · rw [show ((i + 1 : Nat) : Int) - 1 = (i : Int) by omega, wordS_nat, nth_natOf a h]
      have hP : 0 < 18446744073709551616 ^ i := Nat.pow_pos (by omega)
      have hN := Nat.div_add_mod (natOf a) (18446744073709551616 ^ i)
      have hM := Nat.div_add_mod (natOf a / 18446744073709551616 ^ i) 18446744073709551616
      have hlow := Nat.mod_lt (natOf a) hP
      rw [Nat.pow_succ, ← Nat.div_div_eq_div_mul, ← Nat.div_div_eq_div_mul]
      generalize natOf a % 18446744073709551616 ^ i = p0 at *
      generalize hq : natOf a / 18446744073709551616 ^ i = q at *
      generalize hPP : 18446744073709551616 ^ i = P at *
      rw [← hN, Nat.add_mul, Nat.mul_assoc, Nat.mul_add_div hP]
      have he : p0 * 2 ^ r / P < 2 ^ r := by
        rw [Nat.div_lt_iff_lt_mul hP, Nat.mul_comm (2 ^ r)]
        exact Nat.mul_lt_mul_of_pos_right hlow hp
      generalize p0 * 2 ^ r / P = e at *
      conv => lhs; rw [eB, ← Nat.div_div_eq_div_mul, Nat.mul_comm q, Nat.mul_add_div hp, Nat.div_eq_of_lt he, Nat.add_zero]
      have hM' : q = 2 ^ (64 - r) * (q / 18446744073709551616 * 2 ^ r) + q % 18446744073709551616 := by
        have e3 : 18446744073709551616 * (q / 18446744073709551616) = 2 ^ (64 - r) * (q / 18446744073709551616 * 2 ^ r) := by
          generalize q / 18446744073709551616 = t
          rw [Nat.mul_comm t, ← Nat.mul_assoc, Nat.mul_comm (2 ^ (64 - r)), ← eB]
        rw [← e3, hM]
      conv => lhs; rw [hM']
      rw [Nat.mul_add_div (Nat.pow_pos (by omega))]
  rw [e1]
  have := Nat.mod_add_div (natOf a / 18446744073709551616 ^ j) 18446744073709551616
  generalize natOf a / 18446744073709551616 ^ j = q at *
  generalize wordS a ((j : Int) - 1) / 2 ^ (64 - r) = t at *
  conv => rhs; rw [← this, Nat.add_mul, Nat.mul_assoc, Nat.add_right_comm, Nat.add_mul_mod_self_left]
end Go.Proofs.Ytgmolbiicclcaaa
/- The contracts of nat's small functions: trimmed, word, May, Trim, Small, Of. Conditions: as typed (lengths that fit a machine). -/
namespace Go.Proofs.Ytgmolbiicclcaaa
open Go.RowKit
set_option maxRecDepth 20000
set_option maxHeartbeats 400000 in
theorem trimmed_any (A : Option Addr) (c : Nat) (a : List Nat) (w : World) (B : Nat) (hr : Rd .u64 w B A a) (hw : Words a) (hl : a.length ≤ 1000000) (hc : a.length ≤ c) :
    Calls Try.prog 27 #[.slice A a.length c] w fun e w' => e = .returned (.slice A (tl a) c) ∧ w = w' := by
  have htl := tl_le a hw
  go_enter Try.func27, Try.ntmps27
  go_wp2_with fail
  go_loop [3] (fun i => ∃ k : Nat, k ≤ a.length ∧ tl a ≤ k ∧ i = .int .i64 k) (fun i => (intOf i).toNat)
  case atStart => exact ⟨a.length, Nat.le_refl _, htl, rfl⟩
  case round =>
    obtain ⟨k, hk, hnk, rfl⟩ := hrel
    by_cases hend : k = tl a
    · obtain rfl := hend
      by_cases hp : 0 < tl a
      · have hl1 := nth_last_word a hw hp
        have hs : (((nth a (tl a - 1) : Nat) : Int) == 0) = false := by simpa using hl1
        obtain ⟨b, off, rfl, hbB, hcell⟩ := hr (by omega)
        have hx := hcell (tl a - 1) (by omega)
        clear hcell hl1
        go_wp2_with fail
        go_ret
        exact ⟨rfl, rfl⟩
      · have hnp : ¬ (0 : Int) < (tl a : Int) := by omega
        go_wp2_with fail
        go_ret
        exact ⟨rfl, rfl⟩
    · obtain ⟨m, rfl⟩ : ∃ m, k = m + 1 := ⟨k - 1, by omega⟩
      have hx0 := nth_over_words a hw m (by omega)
      obtain ⟨b, off, rfl, hbB, hcell⟩ := hr (by omega)
      have hx := hcell m (by omega)
      rw [hx0] at hx
      clear hcell hx0
      go_wp2_with fail
      go_round
      case rel => exact ⟨m, by omega, by omega, by go_num⟩
      case measure => simp [intOf] <;> omega
set_option maxHeartbeats 400000 in
theorem word_any (A : Option Addr) (c : Nat) (a : List Nat) (i : Int) (w : World) (B : Nat) (hr : Rd .u64 w B A a) (hl : a.length ≤ 1000000) :
    Calls Try.prog 56 #[.slice A a.length c, .int .i64 i] w fun e w' => e = .returned (.int .u64 (wordS a i : Nat)) ∧ w = w' := by
  by_cases h0 : i < 0
  · have hv := Lib.hid (wordS_neg a i h0)
    go_enter Try.func56, Try.ntmps56
    go_wp2_with fail
    go_ret
    exact ⟨ret_num (by rw [hv.out]; rfl), rfl⟩
  · obtain ⟨j, rfl⟩ := Int.eq_ofNat_of_zero_le (by omega : 0 ≤ i)
    have hv := Lib.hid (wordS_nat a j)
    by_cases h1 : j < a.length
    · obtain ⟨b, off, rfl, hbB, hcell⟩ := hr (by omega)
      have hx := hcell j h1
      clear hcell
      go_enter Try.func56, Try.ntmps56
      go_wp2_with fail
      go_ret
      exact ⟨ret_num (by rw [hv.out]), rfl⟩
    · have hn := Lib.hid (show nth a j = 0 by simp [nth, List.getElem?_eq_none (by omega : a.length ≤ j)])
      go_enter Try.func56, Try.ntmps56
      go_wp2_with fail
      go_ret
      exact ⟨ret_num (by rw [hv.out, hn.out]; rfl), rfl⟩
section
variable (A : Option Addr) (c : Nat) (a : List Nat) (w : World) (hr : Rd .u64 w w.heap.size A a) (hw : Words a) (hl : a.length ≤ 100000) (hc : a.length ≤ c)
include hr hw hl hc
theorem may_pf : Calls Try.prog 19 #[.slice A a.length c] w fun e w' => e = .returned (.bool (decide (a = wd (natOf a)))) ∧ Below w.heap.size w w' := by
  have T := Lib.hid (trimmed_any A c a w w.heap.size hr hw (by omega) hc)
  have E := Lib.hid (tl_eq_length a hw)
  have htl := tl_le a hw
  go_enter Try.func19, Try.ntmps19
  go_wp2_with fail
  refine (T.out).mono ?_
  rintro e w' ⟨rfl, rfl⟩
  by_cases h : tl a = a.length
  · have hb : ((tl a : Int) == (a.length : Int)) = true := by simp; omega
    have Hh := Lib.hid h
    clear h
    go_wp2_with fail
    go_ret
    exact ⟨ret_bool2 (decide_eq_true (E.out.1 Hh.out)).symm, Below.refl _ _⟩
  · have hb : ((tl a : Int) == (a.length : Int)) = false := by simp; omega
    have Hh := Lib.hid h
    clear h
    go_wp2_with fail
    go_ret
    exact ⟨ret_bool2 (decide_eq_false fun e => Hh.out (E.out.2 e)).symm, Below.refl _ _⟩
set_option maxHeartbeats 400000 in
theorem trim_pf : Calls Try.prog 51 #[.slice A a.length c] w (OutNat (natOf a) w) := by
  obtain ⟨i0, hi, hz0, hz1, hz2⟩ := info_parts num_info_u64
  have T := Lib.hid (trimmed_any A c a w w.heap.size hr hw (by omega) hc)
  have E := Lib.hid (take_wd a hw)
  have htl := tl_le a hw
  have hR := hr.take (tl a)
  rw [E.out] at hR
  have HR := Lib.hid hR
  clear hR
  have hlen := Lib.hid (show (wd (natOf a)).length = tl a from length_wd _)
  go_enter Try.func51, Try.ntmps51
  go_wp2_with fail
  refine (T.out).mono ?_
  rintro e w' ⟨rfl, rfl⟩
  go_wp2_with (at_builtin; refine wpList_append_rd _ rfl (.const (.slice none 0 0)) (.tmp 4) _ rfl w.heap.size 24 i0 _ 8 Try.underlying28 hi hz0 hz1 hz2 rfl (.slice none 0 0) 0 [] rfl ?c1 .u64 w.heap.size A (tl a) c (wd (natOf a)) rfl ?c2 ?c3 ?c4 ?c5 ?c6 ?_)
  case c1 => exact World.ownsRow_nil _ _ _ _
  case c2 => exact hlen.out
  case c3 => exact HR.out
  case c4 => unfold maxLen; omega
  case c5 => omega
  case c6 => exact Nat.le_refl _
  intro v1 w1 own1 hg1
  have b1 : Below w.heap.size w w1 := (Below.refl _ _).grown hg1 (Nat.le_refl _) (by simp [Value.ownBlock])
  have own1' : w1.ownsRow w.heap.size 24 1 v1 (tl a) (ints .u64 (wd (natOf a))) := by simpa using own1
  obtain ⟨X, d, rfl, hd, _⟩ := own_form own1'
  clear own1 hg1
  go_wp2_with fail
  go_ret
  exact ⟨_, rfl, own1', b1⟩
set_option maxHeartbeats 400000 in
theorem small_pf : Calls Try.prog 52 #[.slice A a.length c] w fun e w' =>
      e = .returned (.tuple #[.int .u64 (smallV (natOf a)), .bool (smallB (natOf a))]) ∧ Below w.heap.size w w' := by
  have T := Lib.hid (trimmed_any A c a w w.heap.size hr hw (by omega) hc)
  have W0 := Lib.hid (word_any A c a 0 w w.heap.size hr (by omega))
  have htl := tl_le a hw
  by_cases h : tl a ≤ 1
  · have hs := (small_iff a).1 h
    have hv := Lib.hid (show ((wordS a 0 : Nat) : Int) = smallV (natOf a) by
      unfold smallV
      rw [if_pos hs, show (0 : Int) = ((0 : Nat) : Int) from rfl, wordS_nat, nth_zero a hw, Nat.mod_eq_of_lt hs])
    have hb := Lib.hid (show true = smallB (natOf a) by simp [smallB, hs])
    clear hs
    have hn : ¬ (1 : Int) < (tl a : Int) := by omega
    go_enter Try.func52, Try.ntmps52
    go_wp2_with fail
    refine (T.out).mono ?_
    rintro e w' ⟨rfl, rfl⟩
    go_wp2_with fail
    refine (W0.out).mono ?_
    rintro e w' ⟨rfl, rfl⟩
    go_wp2_with fail
    go_ret2
    exact ⟨by rw [hv.out, ← hb.out]; rfl, Below.refl _ _⟩
  · have hs : ¬ natOf a < 18446744073709551616 := fun h' => h ((small_iff a).2 h')
    have hv := Lib.hid (show (0 : Int) = smallV (natOf a) by unfold smallV; rw [if_neg hs])
    have hb := Lib.hid (show false = smallB (natOf a) by simp [smallB]; omega)
    clear hs
    have hn : (1 : Int) < (tl a : Int) := by omega
    go_enter Try.func52, Try.ntmps52
    go_wp2_with fail
    refine (T.out).mono ?_
    rintro e w' ⟨rfl, rfl⟩
    go_wp2_with fail
    go_ret2
    exact ⟨by rw [← hv.out, ← hb.out]; rfl, Below.refl _ _⟩
end
theorem wd_one (n : Nat) (hn : n < 18446744073709551616) (h0 : n ≠ 0) : wd n = [n] ∧ (nbits n + 63) / 64 = 1 := by
  have h1 := nbits_of_lt n 64 hn
  have h2 : nbits n ≠ 0 := by intro h; have := nbits_lt n; rw [h] at this; simp at this; omega
  have h3 : (nbits n + 63) / 64 = 1 := by omega
  refine ⟨?_, h3⟩
  rw [wd, h3]
  simp [words, Nat.mod_eq_of_lt hn]
set_option maxHeartbeats 400000 in
theorem of_pf (n : Nat) (w : World) (hn : n < 18446744073709551616) : Calls Try.prog 16 #[.int .u64 n] w (OutNat n w) := by
  by_cases h0 : n = 0
  · subst h0
    go_enter Try.func16, Try.ntmps16
    go_wp2_with fail
    go_ret
    refine ⟨_, rfl, ?_, Below.refl _ _⟩
    have e : wd 0 = [] := by simp [wd, nbits_zero, words]
    rw [nbits_zero, e]
    exact World.ownsRow_nil _ _ _ _
  · obtain ⟨e1, e2⟩ := wd_one n hn h0
    have E1 := Lib.hid e1
    have E2 := Lib.hid e2
    clear e1 e2
    have hb : ((n : Int) == 0) = false := by simpa using h0
    clear h0
    go_enter Try.func16, Try.ntmps16
    go_wp2_with fail
    go_ret
    refine ⟨_, rfl, ?_, (Below.refl _ _).alloc (Nat.le_refl _) _⟩
    rw [E2.out, E1.out]
    exact own_of_heap (cur := [.int .u64 n]) (heap_alloc_new w (.cells #[.int .u64 n] 24)) (Nat.le_refl _) (Nat.le_refl _) (by unfold maxLen; omega) rfl rfl
end Go.Proofs.Ytgmolbiicclcaaa
/-
  DERIVED: THE SHELF's CONTRACTS AT THIS DUMP, IN PLAIN WORDS (tools/lay-plain.mjs out of 'TryShelf.lean', which tools/lay-shelf.mjs wrote): THE SAME DECLARATIONS UNDER THE SAME NAMES: 'import', 'namespace', 'open', 'def', 'theorem' AND NOTHING ELSE: no command of the shelf's: FOR A HAND-IN. Each laying: the table of numbers ('.._ren') and one theorem, a field a fact of the dump's own or the kernel's comparison; each contract: ONE APPLICATION.
-/
namespace Go.Proofs
open Go.Shelf
def Try.lays134_ren : Go.Shelf.Ren := ⟨fun | 134 => 68 | 129 => 31 | n => n, fun | 53 => 24 | 3 => 3 | 4 => 4 | 46 => 77 | 5 => 5 | 9 => 9 | n => n, fun | n => n⟩
theorem Try.lays134 : Go.Proofs.Lays.n134 Try.prog Try.lays134_ren := {
  mixed := by kernel_rfl
  f129 := Try.func31.trans (congrArg some (by kernel_rfl))
  f134 := Try.func68.trans (congrArg some (by kernel_rfl))
  t3 := Try.underlying3
  a3 := Try.isAgg3
  z3 := Try.sizeOf3
  v3 := Try.zeroValue3
  t4 := Try.underlying4
  a4 := Try.isAgg4
  z4 := Try.sizeOf4
  v4 := Try.zeroValue4
  t5 := Try.underlying5
  a5 := Try.isAgg5
  z5 := Try.sizeOf5
  v5 := Try.zeroValue5
  t9 := Try.underlying9
  a9 := Try.isAgg9
  z9 := Try.sizeOf9
  v9 := Try.zeroValue9
  t46 := Try.underlying77
  a46 := Try.isAgg77
  z46 := Try.sizeOf77
  v46 := Try.zeroValue77
  t53 := Try.underlying24
  a53 := Try.isAgg24
  z53 := Try.sizeOf24
  v53 := Try.zeroValue24 }
/-- bits.LeadingZeros64: "LeadingZeros64 returns the number of leading zero bits in x; the result is 64 for x == 0.": IT RETURNS '64 - Lib.bitLen x'; the world is as it was. ITS CALLEE bits.Len64 IS MET BY ITS OWN CONTRACT OFF THE SHELF (lay that first): entered in place it sends the kernel out of memory. (LAID: no walk: one application.) -/
theorem Try.bits_LeadingZeros64 (x : Int) (w : World) (h0 : 0 ≤ x) (h1 : x ≤ 18446744073709551615) :
    Calls Try.prog 68 #[.int .u64 x] w fun e w' => e = .returned (.int .i64 (64 - (Lib.bitLen x.toNat : Int))) ∧ w' = w := Any.bits_LeadingZeros64 Try.lays134 x w h0 h1
def Try.lays129_ren : Go.Shelf.Ren := ⟨fun | 129 => 31 | n => n, fun | 53 => 24 | 3 => 3 | 4 => 4 | 46 => 77 | 5 => 5 | 9 => 9 | n => n, fun | n => n⟩
theorem Try.lays129 : Go.Proofs.Lays.n129 Try.prog Try.lays129_ren := {
  mixed := by kernel_rfl
  f129 := Try.func31.trans (congrArg some (by kernel_rfl))
  t3 := Try.underlying3
  a3 := Try.isAgg3
  z3 := Try.sizeOf3
  v3 := Try.zeroValue3
  t4 := Try.underlying4
  a4 := Try.isAgg4
  z4 := Try.sizeOf4
  v4 := Try.zeroValue4
  t5 := Try.underlying5
  a5 := Try.isAgg5
  z5 := Try.sizeOf5
  v5 := Try.zeroValue5
  t9 := Try.underlying9
  a9 := Try.isAgg9
  z9 := Try.sizeOf9
  v9 := Try.zeroValue9
  t46 := Try.underlying77
  a46 := Try.isAgg77
  z46 := Try.sizeOf77
  v46 := Try.zeroValue77
  t53 := Try.underlying24
  a53 := Try.isAgg24
  z53 := Try.sizeOf24
  v53 := Try.zeroValue24 }
/-- bits.Len64: "Len64 returns the minimum number of bits required to represent x; the result is 0 for x == 0.": IT RETURNS 'Lib.bitLen x'; the world is as it was. ('h0', 'h1': x is a uint64.) (LAID: no walk: one application.) -/
theorem Try.bits_Len64 (x : Int) (w : World) (h0 : 0 ≤ x) (h1 : x ≤ 18446744073709551615) :
    Calls Try.prog 31 #[.int .u64 x] w fun e w' => e = .returned (.int .i64 (Lib.bitLen x.toNat)) ∧ w' = w := Any.bits_Len64 Try.lays129 x w h0 h1
def Try.lays264_ren : Go.Shelf.Ren := ⟨fun | 264 => 57 | n => n, fun | 53 => 24 | 46 => 77 | n => n, fun | n => n⟩
theorem Try.lays264 : Go.Proofs.Lays.n264 Try.prog Try.lays264_ren := {
  mixed := by kernel_rfl
  f264 := Try.func57.trans (congrArg some (by kernel_rfl))
  t46 := Try.underlying77
  a46 := Try.isAgg77
  z46 := Try.sizeOf77
  v46 := Try.zeroValue77
  t53 := Try.underlying24
  a53 := Try.isAgg24
  z53 := Try.sizeOf24
  v53 := Try.zeroValue24 }
open Go.RowKit Go.Lib in
theorem Try.bits_Mul64 (x y : Nat) (hx : x < 18446744073709551616) (hy : y < 18446744073709551616) (w : World) :
    Calls Try.prog 57 #[.int .u64 x, .int .u64 y] w fun e w' => e = .returned (.tuple #[.int .u64 ((x * y / 18446744073709551616 : Nat) : Int), .int .u64 ((x * y % 18446744073709551616 : Nat) : Int)]) ∧ w' = w := Any.bits_Mul64 Try.lays264 x y hx hy w
end Go.Proofs
/- The contracts of nat's Bits, Bit, mayShift, parts, and of cmp.Compare at int and uint64. Conditions: as typed (lengths that fit a machine). -/
namespace Go.Proofs.Ytgmolbiicclcaaa
open Go.RowKit
set_option maxRecDepth 20000
def cmpS (A B : Nat) : Int := if A < B then -1 else if B < A then 1 else 0
def shlS (A : Nat) (k : Int) : Nat := if 0 ≤ k ∧ k ≤ 65536 then 2 ^ k.toNat * A else 0
def shrS (A : Nat) (k : Int) : Nat := if 0 ≤ k ∧ k ≤ 65536 then A / 2 ^ k.toNat else 0
/-- A difference, or nothing. -/
def OutSub (A B : Nat) (w : World) (e : Ending) (w' : World) : Prop :=
  (B ≤ A → ∃ v, e = .returned (.tuple #[v, .bool true]) ∧ w'.ownsRow w.heap.size 24 1 v ((nbits (A - B) + 63) / 64) (ints .u64 (wd (A - B)))) ∧
  (A < B → ∃ X d, e = .returned (.tuple #[.slice X 0 d, .bool false])) ∧ Below w.heap.size w w'
set_option maxHeartbeats 400000 in
theorem bits_q (A : Option Addr) (c : Nat) (a : List Nat) (w : World) (B : Nat) (hr : Rd .u64 w B A a) (hw : Words a) (hl : a.length ≤ 1000000) (hc : a.length ≤ c) :
    Calls Try.prog 21 #[.slice A a.length c] w fun e w' => e = .returned (.int .i64 (nbits (natOf a))) ∧ w = w' := by
  have T := trimmed_any A c a w B hr hw hl hc
  have htl := tl_le a hw
  by_cases h0 : tl a = 0
  · have hn := Lib.hid (tl_zero a h0)
    rw [h0] at T
    have HT := Lib.hid T
    clear T h0
    go_enter Try.func21, Try.ntmps21
    go_wp2_with fail
    refine (HT.out).mono ?_
    rintro e w' ⟨rfl, rfl⟩
    go_wp2_with fail
    go_ret
    exact ⟨ret_num (by rw [hn.out, nbits_zero]; rfl), rfl⟩
  · obtain ⟨m, hm⟩ : ∃ m, tl a = m + 1 := ⟨tl a - 1, by omega⟩
    have hN := nbits_hit_word a hw (by omega)
    rw [hm, Nat.add_sub_cancel] at hN
    rw [hm] at T htl
    obtain ⟨b, off, rfl, hbB, hcell⟩ := hr (by omega)
    have hx := hcell m (by omega)
    have hxl := hw _ (nth_mem a m (by omega))
    have hbl := bitLen_le64 _ hxl
    have HN := Lib.hid hN
    have HT := Lib.hid T
    clear T h0 hm hN hcell
    have hb : ((m : Int) + 1 == 0) = false := by simp; omega
    go_enter Try.func21, Try.ntmps21
    go_wp2_with fail
    refine (HT.out).mono ?_
    rintro e w' ⟨rfl, rfl⟩
    go_wp2_with fail
    refine (Try.bits_Len64 _ _ (by omega) (by omega)).mono ?_
    rintro e w' ⟨rfl, rfl⟩
    rw [Int.toNat_natCast]
    go_wp2_with fail
    go_ret
    exact ⟨ret_num (by rw [HN.out]; omega), rfl⟩
theorem mayShift_yes (k : Int) (w : World) (h0 : 0 ≤ k) (h1 : k ≤ 65536) : Calls Try.prog 69 #[.int .i64 k] w fun e w' => e = .returned (.bool true) ∧ w = w' := by
  go_enter Try.func69, Try.ntmps69
  go_wp2
  go_ret
  exact ⟨rfl, rfl⟩
theorem mayShift_no (k : Int) (w : World) (h : k < 0 ∨ 65536 < k) : Calls Try.prog 69 #[.int .i64 k] w fun e w' => e = .returned (.bool false) ∧ w = w' := by
  rcases h with h | h
  · go_enter Try.func69, Try.ntmps69
    go_wp2
    go_ret
    exact ⟨rfl, rfl⟩
  · have h0 : 0 ≤ k := by omega
    have h1 : ¬ k ≤ 65536 := by omega
    go_enter Try.func69, Try.ntmps69
    go_wp2
    go_ret
    exact ⟨rfl, rfl⟩
theorem parts_any (n s : Nat) (w : World) (hn : n ≤ 1000000000) (hs : 0 < s) (hs2 : s ≤ 1000) : Calls Try.prog 71 #[.int .i64 n, .int .i64 s] w fun e w' => e = .returned (.int .i64 ((n + s - 1) / s : Nat)) ∧ w = w' := by
  have hb : ((s : Int) == 0) = false := by simp; omega
  go_enter Try.func71, Try.ntmps71
  go_wp2
  go_ret
  exact ⟨ret_num (by rw [Int.natCast_ediv, Int.natCast_sub (by omega)]; rfl), rfl⟩
section
variable (A : Option Addr) (c : Nat) (a : List Nat) (w : World) (hr : Rd .u64 w w.heap.size A a) (hw : Words a) (hl : a.length ≤ 100000) (hc : a.length ≤ c)
include hr hw hl
end
theorem isNaN_int (x : Int) (w : World) : Calls Try.prog 39 #[.int .i64 x] w fun e w' => e = .returned (.bool false) ∧ w = w' := by
  go_enter Try.func39, Try.ntmps39
  go_wp2
  go_ret
  exact ⟨by simp, rfl⟩
theorem isNaN_u64 (x : Int) (w : World) : Calls Try.prog 41 #[.int .u64 x] w fun e w' => e = .returned (.bool false) ∧ w = w' := by
  go_enter Try.func41, Try.ntmps41
  go_wp2
  go_ret
  exact ⟨by simp, rfl⟩
theorem compare_int (x y : Nat) (w : World) : Calls Try.prog 28 #[.int .i64 x, .int .i64 y] w fun e w' => e = .returned (.int .i64 (cmpS x y)) ∧ w = w' := by
  rcases Nat.lt_trichotomy x y with h | h | h
  · have hv := Lib.hid (show cmpS x y = -1 by unfold cmpS; rw [if_pos h])
    go_enter Try.func28, Try.ntmps28
    go_wp2_with (go_at_call 39; refine (isNaN_int _ _).mono ?_; rintro e w' ⟨rfl, rfl⟩)
    go_ret
    exact ⟨ret_num (by rw [hv.out]), rfl⟩
  · subst h
    have hv := Lib.hid (show cmpS x x = 0 by simp [cmpS])
    go_enter Try.func28, Try.ntmps28
    go_wp2_with (go_at_call 39; refine (isNaN_int _ _).mono ?_; rintro e w' ⟨rfl, rfl⟩)
    go_ret
    exact ⟨ret_num (by rw [hv.out]), rfl⟩
  · have hv := Lib.hid (show cmpS x y = 1 by unfold cmpS; rw [if_neg (by omega), if_pos h])
    have h' : ¬ x < y := by omega
    go_enter Try.func28, Try.ntmps28
    go_wp2_with (go_at_call 39; refine (isNaN_int _ _).mono ?_; rintro e w' ⟨rfl, rfl⟩)
    go_ret
    exact ⟨ret_num (by rw [hv.out]), rfl⟩
theorem compare_u64 (x y : Nat) (w : World) : Calls Try.prog 30 #[.int .u64 x, .int .u64 y] w fun e w' => e = .returned (.int .i64 (cmpS x y)) ∧ w = w' := by
  rcases Nat.lt_trichotomy x y with h | h | h
  · have hv := Lib.hid (show cmpS x y = -1 by unfold cmpS; rw [if_pos h])
    go_enter Try.func30, Try.ntmps30
    go_wp2_with (go_at_call 41; refine (isNaN_u64 _ _).mono ?_; rintro e w' ⟨rfl, rfl⟩)
    go_ret
    exact ⟨ret_num (by rw [hv.out]), rfl⟩
  · subst h
    have hv := Lib.hid (show cmpS x x = 0 by simp [cmpS])
    go_enter Try.func30, Try.ntmps30
    go_wp2_with (go_at_call 41; refine (isNaN_u64 _ _).mono ?_; rintro e w' ⟨rfl, rfl⟩)
    go_ret
    exact ⟨ret_num (by rw [hv.out]), rfl⟩
  · have hv := Lib.hid (show cmpS x y = 1 by unfold cmpS; rw [if_neg (by omega), if_pos h])
    have h' : ¬ x < y := by omega
    go_enter Try.func30, Try.ntmps30
    go_wp2_with (go_at_call 41; refine (isNaN_u64 _ _).mono ?_; rintro e w' ⟨rfl, rfl⟩)
    go_ret
    exact ⟨ret_num (by rw [hv.out]), rfl⟩
end Go.Proofs.Ytgmolbiicclcaaa

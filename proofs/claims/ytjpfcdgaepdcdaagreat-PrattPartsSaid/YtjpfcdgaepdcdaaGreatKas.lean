/- Several texts in one; each begins with a remark that says what it shows and on which conditions. -/
import Derived.Test.YtjpfcdgaepdcdaaGreatKar
import Derived.Shelf.Small.Bits
import Derived.Shelf.Small.Wraps
import Derived.Shelf.Strconv.Itoa0
import Derived.Shelf.Bits.Mul64
import Derived.Ground.Names2Prog
import Derived.Shelf.Slices.SearchI
import Derived.Test.YtjpfcdgaepdcdaaGreatProg
import Derived.RangeFuncNested
import Derived.RangeFuncBound
import Derived.RangeFuncCalls
import Derived.RangeFuncLeaves
import Derived.RangeFuncBox
import Derived.Shelf.Abstract
import Derived.Shelf.RegionOpen
import Derived.OwnWalkIn
import Derived.TacticsInMore
import Derived.LoopNIn
import Derived.LoopIn
import Derived.Maps.AppendAt
import Derived.Shelf.Spec.BitsCarry
import Derived.IntWalk
/- Plain facts on words: how many a number needs, carries and borrows from word to word, shifts of words. No condition but those typed; no program is named. -/
namespace Go.Proofs.YtjpfcdgaepdcdaaGreat
/-- How many words the number of words needs. -/
def tl (a : List Nat) : Nat := (nbits (natOf a) + 63) / 64
theorem natOf_lt_tl (a : List Nat) : natOf a < 18446744073709551616 ^ tl a := by
  rw [pow_64_2]
  exact Nat.lt_of_lt_of_le (nbits_lt _) (Nat.pow_le_pow_right (by omega) (by unfold tl; omega))
theorem tl_le (a : List Nat) (h : Words a) : tl a ≤ a.length := by
  have := nbits_natOf a h
  unfold tl
  omega
theorem nth_over_words (a : List Nat) (h : Words a) (m : Nat) (hm : tl a ≤ m) : nth a m = 0 := by
  rw [nth_natOf a h, Nat.div_eq_of_lt (Nat.lt_of_lt_of_le (natOf_lt_tl a) (Nat.pow_le_pow_right (by omega) hm))]
theorem tl_le_of_lt (a : List Nat) (m : Nat) (h : natOf a < 18446744073709551616 ^ m) : tl a ≤ m := by
  rw [pow_64_2] at h
  have := nbits_of_lt _ _ h
  unfold tl
  omega
theorem nth_last_word (a : List Nat) (h : Words a) (hp : 0 < tl a) : nth a (tl a - 1) ≠ 0 := by
  intro h0
  obtain ⟨m, hm⟩ : ∃ m, tl a = m + 1 := ⟨tl a - 1, by omega⟩
  have h1 := natOf_lt_tl a
  rw [hm] at h0 h1
  rw [Nat.add_sub_cancel, nth_natOf a h] at h0
  have hp' : 0 < 18446744073709551616 ^ m := Nat.pow_pos (by omega)
  have h2 : natOf a / 18446744073709551616 ^ m < 18446744073709551616 := by
    rw [Nat.div_lt_iff_lt_mul hp', Nat.mul_comm]
    rwa [Nat.pow_succ] at h1
  rw [Nat.mod_eq_of_lt h2, Nat.div_eq_zero_iff] at h0
  have h3 : natOf a < 18446744073709551616 ^ m := by omega
  have := tl_le_of_lt a m h3
  omega
theorem nth_take (a : List Nat) (k j : Nat) (h : j < k) : nth (a.take k) j = nth a j := by simp [nth, h]
theorem take_wd (a : List Nat) (h : Words a) : a.take (tl a) = wd (natOf a) := by
  have hl := tl_le a h
  refine ext_nth _ _ (by rw [List.length_take, length_wd]; unfold tl at *; omega) fun j hj => ?_
  rw [List.length_take] at hj
  rw [nth_take _ _ _ (by omega), nth_natOf a h, wd, nth_words _ _ _ (by unfold tl at hj; omega)]
theorem tl_eq_length (a : List Nat) (h : Words a) : tl a = a.length ↔ a = wd (natOf a) := by
  constructor
  · intro e
    have := take_wd a h
    rwa [e, List.take_length] at this
  · intro e
    have := congrArg List.length e
    rw [length_wd] at this
    unfold tl
    omega
theorem tl_words (k n : Nat) (h : n < 18446744073709551616 ^ k) : tl (words k n) = (nbits n + 63) / 64 := by
  rw [tl, natOf_words, Nat.mod_eq_of_lt h]
theorem tl_zero (a : List Nat) (h : tl a = 0) : natOf a = 0 := by
  have := natOf_lt_tl a
  rw [h] at this
  simpa using this
theorem small_iff (a : List Nat) : tl a ≤ 1 ↔ natOf a < 18446744073709551616 := by
  constructor
  · intro h
    have h1 := natOf_lt_tl a
    have h2 : (18446744073709551616 : Nat) ^ tl a ≤ 18446744073709551616 ^ 1 := Nat.pow_le_pow_right (by omega) h
    omega
  · intro h
    exact tl_le_of_lt a 1 (by omega)
theorem nth_zero (a : List Nat) (h : Words a) : nth a 0 = natOf a % 18446744073709551616 := by rw [nth_natOf a h]; simp
theorem nbits_hit_word (a : List Nat) (h : Words a) (hp : 0 < tl a) : nbits (natOf a) = (tl a - 1) * 64 + Lib.bitLen (nth a (tl a - 1)) := by
  have hx := nth_last_word a h hp
  have hl := tl_le a h
  obtain ⟨m, hm⟩ : ∃ m, tl a = m + 1 := ⟨tl a - 1, by omega⟩
  have hz : ∀ j, m + 1 ≤ j → nth a j = 0 := fun j hj => nth_over_words a h j (by omega)
  rw [hm, Nat.add_sub_cancel] at hx ⊢
  have hl' : m + 1 ≤ a.length := by omega
  have hlt := h _ (nth_mem a m (by omega))
  obtain ⟨b1, b2, b3⟩ := Lib.bitLenAux_bounds 64 (nth a m) hlt hx
  have hlow : natOf (a.take m) < 18446744073709551616 ^ m := natOf_take_lt a h m
  rw [natOf_top a m (by omega) hz]
  have e : Lib.bitLen (nth a m) = Lib.bitLenAux 64 (nth a m) := rfl
  rw [e]
  generalize nth a m = x at *
  generalize Lib.bitLenAux 64 x = bl at *
  have ep : (18446744073709551616 : Nat) ^ m = 2 ^ (m * 64) := by rw [pow_64_2, Nat.mul_comm]
  refine nbits_eq _ _ ?_ fun _ => ?_
  · rw [Nat.pow_add, ← ep]
    have : 18446744073709551616 ^ m * (x + 1) ≤ 18446744073709551616 ^ m * 2 ^ bl := Nat.mul_le_mul_left _ b3
    rw [Nat.mul_add, Nat.mul_one] at this
    omega
  · rw [show m * 64 + bl - 1 = m * 64 + (bl - 1) by omega, Nat.pow_add, ← ep]
    have : 18446744073709551616 ^ m * 2 ^ (bl - 1) ≤ 18446744073709551616 ^ m * x := Nat.mul_le_mul_left _ b2
    omega
/-! Sums -/
theorem words_snoc (k n : Nat) : words (k + 1) n = words k n ++ [n / 18446744073709551616 ^ k % 18446744073709551616] := by
  refine ext_nth _ _ (by simp [length_words]) fun j hj => ?_
  rw [length_words] at hj
  rw [nth_words _ _ _ hj]
  rcases Nat.lt_or_ge j k with h | h
  · have := nth_words k n j h
    rw [← this]
    simp [nth, List.getElem?_append, length_words, h]
  · obtain rfl : j = k := by omega
    simp [nth, length_words]
/-! What is left -/
/-! Shifts -/
/-- Word i, 0 below the first and behind the last. -/
def wordS (a : List Nat) (i : Int) : Nat := if i < 0 then 0 else nth a i.toNat
theorem wordS_nat (a : List Nat) (i : Nat) : wordS a (i : Int) = nth a i := by
  unfold wordS
  rw [if_neg (by omega), Int.toNat_natCast]
theorem wordS_neg (a : List Nat) (i : Int) (h : i < 0) : wordS a i = 0 := by simp [wordS, h]
theorem nth_lt (a : List Nat) (h : Words a) (j : Nat) : nth a j < 18446744073709551616 := by
  rw [nth_natOf a h]
  exact Nat.mod_lt _ (by omega)
theorem wordS_lt (a : List Nat) (h : Words a) (i : Int) : wordS a i < 18446744073709551616 := by
  unfold wordS
  split
  · omega
  · exact nth_lt a h _
theorem or_low (q t r : Nat) (hr : r < 64) (ht : t < 2 ^ r) : (q * 2 ^ r % 18446744073709551616) ||| t = (q * 2 ^ r + t) % 18446744073709551616 := by
  have e : (18446744073709551616 : Nat) = 2 ^ r * 2 ^ (64 - r) := by rw [← Nat.pow_add, show r + (64 - r) = 64 by omega]
  rw [e, Nat.mul_comm q, Nat.mul_mod_mul_left, ← Nat.two_pow_add_eq_or_of_lt ht]
  have hp : 0 < 2 ^ r := Nat.pow_pos (by omega)
  have h1 := Nat.mod_lt q (Nat.pow_pos (n := 64 - r) (show 0 < 2 by omega))
  have hq := Nat.div_add_mod q (2 ^ (64 - r))
  generalize 2 ^ (64 - r) = s at *
  generalize 2 ^ r = p at *
  have h2 : p * (q % s + 1) ≤ p * s := Nat.mul_le_mul_left _ h1
  rw [Nat.mul_add, Nat.mul_one] at h2
  conv => rhs; rw [← hq, Nat.mul_add, ← Nat.mul_assoc, Nat.add_assoc, Nat.mul_add_mod, Nat.mod_eq_of_lt (by omega)]
theorem shl_word (a : List Nat) (h : Words a) (j r : Nat) (hr : r < 64) :
    ((nth a j * 2 ^ r) % 18446744073709551616) ||| (wordS a ((j : Int) - 1) / 2 ^ (64 - r)) = natOf a * 2 ^ r / 18446744073709551616 ^ j % 18446744073709551616 := by
  have hp : 0 < 2 ^ r := Nat.pow_pos (by omega)
  have eB : (18446744073709551616 : Nat) = 2 ^ r * 2 ^ (64 - r) := by rw [← Nat.pow_add, show r + (64 - r) = 64 by omega]
  have hw := wordS_lt a h ((j : Int) - 1)
  have ht : wordS a ((j : Int) - 1) / 2 ^ (64 - r) < 2 ^ r := by
    rw [Nat.div_lt_iff_lt_mul (Nat.pow_pos (by omega)), ← eB]
    exact hw
  rw [or_low _ _ r hr ht, nth_natOf a h]
  have e1 : natOf a * 2 ^ r / 18446744073709551616 ^ j = natOf a / 18446744073709551616 ^ j * 2 ^ r + wordS a ((j : Int) - 1) / 2 ^ (64 - r) := by
    rcases j with _ | i
    · rw [wordS_neg a _ (by omega)]
      simp
    · rw [show ((i + 1 : Nat) : Int) - 1 = (i : Int) by omega, wordS_nat, nth_natOf a h]
      have hP : 0 < 18446744073709551616 ^ i := Nat.pow_pos (by omega)
      have hN := Nat.div_add_mod (natOf a) (18446744073709551616 ^ i)
      have hM := Nat.div_add_mod (natOf a / 18446744073709551616 ^ i) 18446744073709551616
      have hlow := Nat.mod_lt (natOf a) hP
      rw [Nat.pow_succ, ← Nat.div_div_eq_div_mul, ← Nat.div_div_eq_div_mul]
      generalize natOf a % 18446744073709551616 ^ i = p0 at *
      generalize hq : natOf a / 18446744073709551616 ^ i = q at *
      generalize hPP : 18446744073709551616 ^ i = P at *
      rw [← hN, Nat.add_mul, Nat.mul_assoc, Nat.mul_add_div hP]
      have he : p0 * 2 ^ r / P < 2 ^ r := by
        rw [Nat.div_lt_iff_lt_mul hP, Nat.mul_comm (2 ^ r)]
        exact Nat.mul_lt_mul_of_pos_right hlow hp
      generalize p0 * 2 ^ r / P = e at *
      conv => lhs; rw [eB, ← Nat.div_div_eq_div_mul, Nat.mul_comm q, Nat.mul_add_div hp, Nat.div_eq_of_lt he, Nat.add_zero]
      have hM' : q = 2 ^ (64 - r) * (q / 18446744073709551616 * 2 ^ r) + q % 18446744073709551616 := by
        have e3 : 18446744073709551616 * (q / 18446744073709551616) = 2 ^ (64 - r) * (q / 18446744073709551616 * 2 ^ r) := by
          generalize q / 18446744073709551616 = t
          rw [Nat.mul_comm t, ← Nat.mul_assoc, Nat.mul_comm (2 ^ (64 - r)), ← eB]
        rw [← e3, hM]
      conv => lhs; rw [hM']
      rw [Nat.mul_add_div (Nat.pow_pos (by omega))]
  rw [e1]
  have := Nat.mod_add_div (natOf a / 18446744073709551616 ^ j) 18446744073709551616
  generalize natOf a / 18446744073709551616 ^ j = q at *
  generalize wordS a ((j : Int) - 1) / 2 ^ (64 - r) = t at *
  conv => rhs; rw [← this, Nat.add_mul, Nat.mul_assoc, Nat.add_right_comm, Nat.add_mul_mod_self_left]
end Go.Proofs.YtjpfcdgaepdcdaaGreat
/- The contracts of nat's small functions: trimmed, word, May, Trim, Small, Of. Conditions: as typed (lengths that fit a machine). -/
namespace Go.Proofs.YtjpfcdgaepdcdaaGreat
open Go.RowKit
set_option maxRecDepth 20000
set_option maxHeartbeats 400000 in
theorem trimmed_any (A : Option Addr) (c : Nat) (a : List Nat) (w : World) (B : Nat) (hr : Rd .u64 w B A a) (hw : Words a) (hl : a.length ≤ 1000000) (hc : a.length ≤ c) :
    Calls Tryz.prog 40 #[.slice A a.length c] w fun e w' => e = .returned (.slice A (tl a) c) ∧ w = w' := by
  have htl := tl_le a hw
  go_enter Tryz.func40, Tryz.ntmps40
  go_wp2_with fail
  go_loop [3] (fun i => ∃ k : Nat, k ≤ a.length ∧ tl a ≤ k ∧ i = .int .i64 k) (fun i => (intOf i).toNat)
  case atStart => exact ⟨a.length, Nat.le_refl _, htl, rfl⟩
  case round =>
    obtain ⟨k, hk, hnk, rfl⟩ := hrel
    by_cases hend : k = tl a
    · obtain rfl := hend
      by_cases hp : 0 < tl a
      · have hl1 := nth_last_word a hw hp
        have hs : (((nth a (tl a - 1) : Nat) : Int) == 0) = false := by simpa using hl1
        obtain ⟨b, off, rfl, hbB, hcell⟩ := hr (by omega)
        have hx := hcell (tl a - 1) (by omega)
        clear hcell hl1
        go_wp2_with fail
        go_ret
        exact ⟨rfl, rfl⟩
      · have hnp : ¬ (0 : Int) < (tl a : Int) := by omega
        go_wp2_with fail
        go_ret
        exact ⟨rfl, rfl⟩
    · obtain ⟨m, rfl⟩ : ∃ m, k = m + 1 := ⟨k - 1, by omega⟩
      have hx0 := nth_over_words a hw m (by omega)
      obtain ⟨b, off, rfl, hbB, hcell⟩ := hr (by omega)
      have hx := hcell m (by omega)
      rw [hx0] at hx
      clear hcell hx0
      go_wp2_with fail
      go_round
      case rel => exact ⟨m, by omega, by omega, by go_num⟩
      case measure => simp [intOf] <;> omega
set_option maxHeartbeats 400000 in
theorem word_any (A : Option Addr) (c : Nat) (a : List Nat) (i : Int) (w : World) (B : Nat) (hr : Rd .u64 w B A a) (hl : a.length ≤ 1000000) :
    Calls Tryz.prog 67 #[.slice A a.length c, .int .i64 i] w fun e w' => e = .returned (.int .u64 (wordS a i : Nat)) ∧ w = w' := by
  by_cases h0 : i < 0
  · have hv := Lib.hid (wordS_neg a i h0)
    go_enter Tryz.func67, Tryz.ntmps67
    go_wp2_with fail
    go_ret
    exact ⟨ret_num (by rw [hv.out]; rfl), rfl⟩
  · obtain ⟨j, rfl⟩ := Int.eq_ofNat_of_zero_le (by omega : 0 ≤ i)
    have hv := Lib.hid (wordS_nat a j)
    by_cases h1 : j < a.length
    · obtain ⟨b, off, rfl, hbB, hcell⟩ := hr (by omega)
      have hx := hcell j h1
      clear hcell
      go_enter Tryz.func67, Tryz.ntmps67
      go_wp2_with fail
      go_ret
      exact ⟨ret_num (by rw [hv.out]), rfl⟩
    · have hn := Lib.hid (show nth a j = 0 by simp [nth, List.getElem?_eq_none (by omega : a.length ≤ j)])
      go_enter Tryz.func67, Tryz.ntmps67
      go_wp2_with fail
      go_ret
      exact ⟨ret_num (by rw [hv.out, hn.out]; rfl), rfl⟩
section
variable (A : Option Addr) (c : Nat) (a : List Nat) (w : World) (hr : Rd .u64 w w.heap.size A a) (hw : Words a) (hl : a.length ≤ 100000) (hc : a.length ≤ c)
include hr hw hl hc
theorem may_pf : Calls Tryz.prog 44 #[.slice A a.length c] w fun e w' => e = .returned (.bool (decide (a = wd (natOf a)))) ∧ Below w.heap.size w w' := by
  have T := Lib.hid (trimmed_any A c a w w.heap.size hr hw (by omega) hc)
  have E := Lib.hid (tl_eq_length a hw)
  have htl := tl_le a hw
  go_enter Tryz.func44, Tryz.ntmps44
  go_wp2_with fail
  refine (T.out).mono ?_
  rintro e w' ⟨rfl, rfl⟩
  by_cases h : tl a = a.length
  · have hb : ((tl a : Int) == (a.length : Int)) = true := by simp; omega
    have Hh := Lib.hid h
    clear h
    go_wp2_with fail
    go_ret
    exact ⟨ret_bool2 (decide_eq_true (E.out.1 Hh.out)).symm, Below.refl _ _⟩
  · have hb : ((tl a : Int) == (a.length : Int)) = false := by simp; omega
    have Hh := Lib.hid h
    clear h
    go_wp2_with fail
    go_ret
    exact ⟨ret_bool2 (decide_eq_false fun e => Hh.out (E.out.2 e)).symm, Below.refl _ _⟩
set_option maxHeartbeats 400000 in
theorem trim_pf : Calls Tryz.prog 101 #[.slice A a.length c] w (OutNat (natOf a) w) := by
  obtain ⟨i0, hi, hz0, hz1, hz2⟩ := info_parts num_info_u64
  have T := Lib.hid (trimmed_any A c a w w.heap.size hr hw (by omega) hc)
  have E := Lib.hid (take_wd a hw)
  have htl := tl_le a hw
  have hR := hr.take (tl a)
  rw [E.out] at hR
  have HR := Lib.hid hR
  clear hR
  have hlen := Lib.hid (show (wd (natOf a)).length = tl a from length_wd _)
  go_enter Tryz.func101, Tryz.ntmps101
  go_wp2_with fail
  refine (T.out).mono ?_
  rintro e w' ⟨rfl, rfl⟩
  go_wp2_with (at_builtin; refine wpList_append_rd _ rfl (.const (.slice none 0 0)) (.tmp 4) _ rfl w.heap.size 27 i0 _ 8 Tryz.underlying33 hi hz0 hz1 hz2 rfl (.slice none 0 0) 0 [] rfl ?c1 .u64 w.heap.size A (tl a) c (wd (natOf a)) rfl ?c2 ?c3 ?c4 ?c5 ?c6 ?_)
  case c1 => exact World.ownsRow_nil _ _ _ _
  case c2 => exact hlen.out
  case c3 => exact HR.out
  case c4 => unfold maxLen; omega
  case c5 => omega
  case c6 => exact Nat.le_refl _
  intro v1 w1 own1 hg1
  have b1 : Below w.heap.size w w1 := (Below.refl _ _).grown hg1 (Nat.le_refl _) (by simp [Value.ownBlock])
  have own1' : w1.ownsRow w.heap.size 27 1 v1 (tl a) (ints .u64 (wd (natOf a))) := by simpa using own1
  obtain ⟨X, d, rfl, hd, _⟩ := own_form own1'
  clear own1 hg1
  go_wp2_with fail
  go_ret
  exact ⟨_, rfl, own1', b1⟩
set_option maxHeartbeats 400000 in
theorem small_pf : Calls Tryz.prog 39 #[.slice A a.length c] w fun e w' =>
      e = .returned (.tuple #[.int .u64 (smallV (natOf a)), .bool (smallB (natOf a))]) ∧ Below w.heap.size w w' := by
  have T := Lib.hid (trimmed_any A c a w w.heap.size hr hw (by omega) hc)
  have W0 := Lib.hid (word_any A c a 0 w w.heap.size hr (by omega))
  have htl := tl_le a hw
  by_cases h : tl a ≤ 1
  · have hs := (small_iff a).1 h
    have hv := Lib.hid (show ((wordS a 0 : Nat) : Int) = smallV (natOf a) by
      unfold smallV
      rw [if_pos hs, show (0 : Int) = ((0 : Nat) : Int) from rfl, wordS_nat, nth_zero a hw, Nat.mod_eq_of_lt hs])
    have hb := Lib.hid (show true = smallB (natOf a) by simp [smallB, hs])
    clear hs
    have hn : ¬ (1 : Int) < (tl a : Int) := by omega
    go_enter Tryz.func39, Tryz.ntmps39
    go_wp2_with fail
    refine (T.out).mono ?_
    rintro e w' ⟨rfl, rfl⟩
    go_wp2_with fail
    refine (W0.out).mono ?_
    rintro e w' ⟨rfl, rfl⟩
    go_wp2_with fail
    go_ret2
    exact ⟨by rw [hv.out, ← hb.out]; rfl, Below.refl _ _⟩
  · have hs : ¬ natOf a < 18446744073709551616 := fun h' => h ((small_iff a).2 h')
    have hv := Lib.hid (show (0 : Int) = smallV (natOf a) by unfold smallV; rw [if_neg hs])
    have hb := Lib.hid (show false = smallB (natOf a) by simp [smallB]; omega)
    clear hs
    have hn : (1 : Int) < (tl a : Int) := by omega
    go_enter Tryz.func39, Tryz.ntmps39
    go_wp2_with fail
    refine (T.out).mono ?_
    rintro e w' ⟨rfl, rfl⟩
    go_wp2_with fail
    go_ret2
    exact ⟨by rw [← hv.out, ← hb.out]; rfl, Below.refl _ _⟩
end
theorem wd_one (n : Nat) (hn : n < 18446744073709551616) (h0 : n ≠ 0) : wd n = [n] ∧ (nbits n + 63) / 64 = 1 := by
  have h1 := nbits_of_lt n 64 hn
  have h2 : nbits n ≠ 0 := by intro h; have := nbits_lt n; rw [h] at this; simp at this; omega
  have h3 : (nbits n + 63) / 64 = 1 := by omega
  refine ⟨?_, h3⟩
  rw [wd, h3]
  simp [words, Nat.mod_eq_of_lt hn]
set_option maxHeartbeats 400000 in
theorem of_pf (n : Nat) (w : World) (hn : n < 18446744073709551616) : Calls Tryz.prog 29 #[.int .u64 n] w (OutNat n w) := by
  by_cases h0 : n = 0
  · subst h0
    go_enter Tryz.func29, Tryz.ntmps29
    go_wp2_with fail
    go_ret
    refine ⟨_, rfl, ?_, Below.refl _ _⟩
    have e : wd 0 = [] := by simp [wd, nbits_zero, words]
    rw [nbits_zero, e]
    exact World.ownsRow_nil _ _ _ _
  · obtain ⟨e1, e2⟩ := wd_one n hn h0
    have E1 := Lib.hid e1
    have E2 := Lib.hid e2
    clear e1 e2
    have hb : ((n : Int) == 0) = false := by simpa using h0
    clear h0
    go_enter Tryz.func29, Tryz.ntmps29
    go_wp2_with fail
    go_ret
    refine ⟨_, rfl, ?_, (Below.refl _ _).alloc (Nat.le_refl _) _⟩
    rw [E2.out, E1.out]
    exact own_of_heap (cur := [.int .u64 n]) (heap_alloc_new w (.cells #[.int .u64 n] 27)) (Nat.le_refl _) (Nat.le_refl _) (by unfold maxLen; omega) rfl rfl
end Go.Proofs.YtjpfcdgaepdcdaaGreat
/-
  DERIVED: THE SHELF's CONTRACTS AT THIS DUMP, IN PLAIN WORDS (tools/lay-plain.mjs out of 'TryzShelf.lean', which tools/lay-shelf.mjs wrote): THE SAME DECLARATIONS UNDER THE SAME NAMES: 'import', 'namespace', 'open', 'def', 'theorem' AND NOTHING ELSE: no command of the shelf's: FOR A HAND-IN. Each laying: the table of numbers ('.._ren') and one theorem, a field a fact of the dump's own or the kernel's comparison; each contract: ONE APPLICATION.
-/
namespace Go.Proofs
open Go.Shelf
def Tryz.lays125_ren : Go.Shelf.Ren := ⟨fun | 125 => 61 | 128 => 94 | 129 => 71 | n => n, fun | 46 => 82 | 3 => 3 | 51 => 22 | 53 => 27 | 4 => 4 | 5 => 5 | 9 => 9 | n => n, fun | n => n⟩
theorem Tryz.lays125 : Go.Proofs.Lays.n125 Tryz.prog Tryz.lays125_ren := {
  mixed := by kernel_rfl
  f125 := Tryz.func61.trans (congrArg some (by kernel_rfl))
  f128 := Tryz.func94.trans (congrArg some (by kernel_rfl))
  f129 := Tryz.func71.trans (congrArg some (by kernel_rfl))
  t3 := Tryz.underlying3
  a3 := Tryz.isAgg3
  z3 := Tryz.sizeOf3
  v3 := Tryz.zeroValue3
  t4 := Tryz.underlying4
  a4 := Tryz.isAgg4
  z4 := Tryz.sizeOf4
  v4 := Tryz.zeroValue4
  t5 := Tryz.underlying5
  a5 := Tryz.isAgg5
  z5 := Tryz.sizeOf5
  v5 := Tryz.zeroValue5
  t9 := Tryz.underlying9
  a9 := Tryz.isAgg9
  z9 := Tryz.sizeOf9
  v9 := Tryz.zeroValue9
  t46 := Tryz.underlying82
  a46 := Tryz.isAgg82
  z46 := Tryz.sizeOf82
  v46 := Tryz.zeroValue82
  t51 := Tryz.underlying22
  a51 := Tryz.isAgg22
  z51 := Tryz.sizeOf22
  v51 := Tryz.zeroValue22
  t53 := Tryz.underlying27
  a53 := Tryz.isAgg27
  z53 := Tryz.sizeOf27
  v53 := Tryz.zeroValue27 }
/-- bits.Len: "Len returns the minimum number of bits required to represent x; the result is 0 for x == 0.": IT RETURNS 'Lib.bitLen x'; the world is as it was. (A uint has 64 bits in the model.) ITS CALLEE bits.Len64 IS MET BY ITS OWN CONTRACT OFF THE SHELF (lay that first). (LAID: no walk: one application.) -/
theorem Tryz.bits_Len (x : Int) (w : World) (h0 : 0 ≤ x) (h1 : x ≤ 18446744073709551615) :
    Calls Tryz.prog 61 #[.int .u64 x] w fun e w' => e = .returned (.int .i64 (Lib.bitLen x.toNat)) ∧ w' = w := Any.bits_Len Tryz.lays125 x w h0 h1
def Tryz.lays134_ren : Go.Shelf.Ren := ⟨fun | 134 => 126 | 129 => 71 | n => n, fun | 53 => 27 | 3 => 3 | 4 => 4 | 46 => 82 | 5 => 5 | 9 => 9 | n => n, fun | n => n⟩
theorem Tryz.lays134 : Go.Proofs.Lays.n134 Tryz.prog Tryz.lays134_ren := {
  mixed := by kernel_rfl
  f129 := Tryz.func71.trans (congrArg some (by kernel_rfl))
  f134 := Tryz.func126.trans (congrArg some (by kernel_rfl))
  t3 := Tryz.underlying3
  a3 := Tryz.isAgg3
  z3 := Tryz.sizeOf3
  v3 := Tryz.zeroValue3
  t4 := Tryz.underlying4
  a4 := Tryz.isAgg4
  z4 := Tryz.sizeOf4
  v4 := Tryz.zeroValue4
  t5 := Tryz.underlying5
  a5 := Tryz.isAgg5
  z5 := Tryz.sizeOf5
  v5 := Tryz.zeroValue5
  t9 := Tryz.underlying9
  a9 := Tryz.isAgg9
  z9 := Tryz.sizeOf9
  v9 := Tryz.zeroValue9
  t46 := Tryz.underlying82
  a46 := Tryz.isAgg82
  z46 := Tryz.sizeOf82
  v46 := Tryz.zeroValue82
  t53 := Tryz.underlying27
  a53 := Tryz.isAgg27
  z53 := Tryz.sizeOf27
  v53 := Tryz.zeroValue27 }
/-- bits.LeadingZeros64: "LeadingZeros64 returns the number of leading zero bits in x; the result is 64 for x == 0.": IT RETURNS '64 - Lib.bitLen x'; the world is as it was. ITS CALLEE bits.Len64 IS MET BY ITS OWN CONTRACT OFF THE SHELF (lay that first): entered in place it sends the kernel out of memory. (LAID: no walk: one application.) -/
theorem Tryz.bits_LeadingZeros64 (x : Int) (w : World) (h0 : 0 ≤ x) (h1 : x ≤ 18446744073709551615) :
    Calls Tryz.prog 126 #[.int .u64 x] w fun e w' => e = .returned (.int .i64 (64 - (Lib.bitLen x.toNat : Int))) ∧ w' = w := Any.bits_LeadingZeros64 Tryz.lays134 x w h0 h1
def Tryz.lays129_ren : Go.Shelf.Ren := ⟨fun | 129 => 71 | n => n, fun | 53 => 27 | 3 => 3 | 4 => 4 | 46 => 82 | 5 => 5 | 9 => 9 | n => n, fun | n => n⟩
theorem Tryz.lays129 : Go.Proofs.Lays.n129 Tryz.prog Tryz.lays129_ren := {
  mixed := by kernel_rfl
  f129 := Tryz.func71.trans (congrArg some (by kernel_rfl))
  t3 := Tryz.underlying3
  a3 := Tryz.isAgg3
  z3 := Tryz.sizeOf3
  v3 := Tryz.zeroValue3
  t4 := Tryz.underlying4
  a4 := Tryz.isAgg4
  z4 := Tryz.sizeOf4
  v4 := Tryz.zeroValue4
  t5 := Tryz.underlying5
  a5 := Tryz.isAgg5
  z5 := Tryz.sizeOf5
  v5 := Tryz.zeroValue5
  t9 := Tryz.underlying9
  a9 := Tryz.isAgg9
  z9 := Tryz.sizeOf9
  v9 := Tryz.zeroValue9
  t46 := Tryz.underlying82
  a46 := Tryz.isAgg82
  z46 := Tryz.sizeOf82
  v46 := Tryz.zeroValue82
  t53 := Tryz.underlying27
  a53 := Tryz.isAgg27
  z53 := Tryz.sizeOf27
  v53 := Tryz.zeroValue27 }
/-- bits.Len64: "Len64 returns the minimum number of bits required to represent x; the result is 0 for x == 0.": IT RETURNS 'Lib.bitLen x'; the world is as it was. ('h0', 'h1': x is a uint64.) (LAID: no walk: one application.) -/
theorem Tryz.bits_Len64 (x : Int) (w : World) (h0 : 0 ≤ x) (h1 : x ≤ 18446744073709551615) :
    Calls Tryz.prog 71 #[.int .u64 x] w fun e w' => e = .returned (.int .i64 (Lib.bitLen x.toNat)) ∧ w' = w := Any.bits_Len64 Tryz.lays129 x w h0 h1
def Tryz.lays264_ren : Go.Shelf.Ren := ⟨fun | 264 => 82 | n => n, fun | 53 => 27 | 46 => 82 | n => n, fun | n => n⟩
theorem Tryz.lays264 : Go.Proofs.Lays.n264 Tryz.prog Tryz.lays264_ren := {
  mixed := by kernel_rfl
  f264 := Tryz.func82.trans (congrArg some (by kernel_rfl))
  t46 := Tryz.underlying82
  a46 := Tryz.isAgg82
  z46 := Tryz.sizeOf82
  v46 := Tryz.zeroValue82
  t53 := Tryz.underlying27
  a53 := Tryz.isAgg27
  z53 := Tryz.sizeOf27
  v53 := Tryz.zeroValue27 }
open Go.RowKit Go.Lib in
theorem Tryz.bits_Mul64 (x y : Nat) (hx : x < 18446744073709551616) (hy : y < 18446744073709551616) (w : World) :
    Calls Tryz.prog 82 #[.int .u64 x, .int .u64 y] w fun e w' => e = .returned (.tuple #[.int .u64 ((x * y / 18446744073709551616 : Nat) : Int), .int .u64 ((x * y % 18446744073709551616 : Nat) : Int)]) ∧ w' = w := Any.bits_Mul64 Tryz.lays264 x y hx hy w
end Go.Proofs
/- The contracts of nat's Bits, Bit, mayShift, parts, and of cmp.Compare at int and uint64. Conditions: as typed (lengths that fit a machine). -/
namespace Go.Proofs.YtjpfcdgaepdcdaaGreat
open Go.RowKit
set_option maxRecDepth 20000
def cmpS (A B : Nat) : Int := if A < B then -1 else if B < A then 1 else 0
def shlS (A : Nat) (k : Int) : Nat := if 0 ≤ k ∧ k ≤ 65536 then 2 ^ k.toNat * A else 0
def shrS (A : Nat) (k : Int) : Nat := if 0 ≤ k ∧ k ≤ 65536 then A / 2 ^ k.toNat else 0
def bitS (A : Nat) (i : Int) : Nat := if i < 0 then 0 else bit A i.toNat
/-- A difference, or nothing. -/
def OutSub (A B : Nat) (w : World) (e : Ending) (w' : World) : Prop :=
  (B ≤ A → ∃ v, e = .returned (.tuple #[v, .bool true]) ∧ w'.ownsRow w.heap.size 27 1 v ((nbits (A - B) + 63) / 64) (ints .u64 (wd (A - B)))) ∧
  (A < B → ∃ X d, e = .returned (.tuple #[.slice X 0 d, .bool false])) ∧ Below w.heap.size w w'
/-- The bytes of a number are answered, in new memory. -/
def OutBytes (N : Nat) (w : World) (e : Ending) (w' : World) : Prop := ∃ v, e = .returned v ∧ w'.ownsRow w.heap.size 5 1 v (blen N) (ints .u8 (be (blen N) N)) ∧ Below w.heap.size w w'
/-- A number that an int may be, from above. -/
def MaxI (i : Int) : Prop := i ≤ 9223372036854775807
set_option maxHeartbeats 400000 in
theorem bits_q (A : Option Addr) (c : Nat) (a : List Nat) (w : World) (B : Nat) (hr : Rd .u64 w B A a) (hw : Words a) (hl : a.length ≤ 1000000) (hc : a.length ≤ c) :
    Calls Tryz.prog 45 #[.slice A a.length c] w fun e w' => e = .returned (.int .i64 (nbits (natOf a))) ∧ w = w' := by
  have T := trimmed_any A c a w B hr hw hl hc
  have htl := tl_le a hw
  by_cases h0 : tl a = 0
  · have hn := Lib.hid (tl_zero a h0)
    rw [h0] at T
    have HT := Lib.hid T
    clear T h0
    go_enter Tryz.func45, Tryz.ntmps45
    go_wp2_with fail
    refine (HT.out).mono ?_
    rintro e w' ⟨rfl, rfl⟩
    go_wp2_with fail
    go_ret
    exact ⟨ret_num (by rw [hn.out, nbits_zero]; rfl), rfl⟩
  · obtain ⟨m, hm⟩ : ∃ m, tl a = m + 1 := ⟨tl a - 1, by omega⟩
    have hN := nbits_hit_word a hw (by omega)
    rw [hm, Nat.add_sub_cancel] at hN
    rw [hm] at T htl
    obtain ⟨b, off, rfl, hbB, hcell⟩ := hr (by omega)
    have hx := hcell m (by omega)
    have hxl := hw _ (nth_mem a m (by omega))
    have hbl := bitLen_le64 _ hxl
    have HN := Lib.hid hN
    have HT := Lib.hid T
    clear T h0 hm hN hcell
    have hb : ((m : Int) + 1 == 0) = false := by simp; omega
    go_enter Tryz.func45, Tryz.ntmps45
    go_wp2_with fail
    refine (HT.out).mono ?_
    rintro e w' ⟨rfl, rfl⟩
    go_wp2_with fail
    refine (Tryz.bits_Len64 _ _ (by omega) (by omega)).mono ?_
    rintro e w' ⟨rfl, rfl⟩
    rw [Int.toNat_natCast]
    go_wp2_with fail
    go_ret
    exact ⟨ret_num (by rw [HN.out]; omega), rfl⟩
theorem mayShift_yes (k : Int) (w : World) (h0 : 0 ≤ k) (h1 : k ≤ 65536) : Calls Tryz.prog 106 #[.int .i64 k] w fun e w' => e = .returned (.bool true) ∧ w = w' := by
  go_enter Tryz.func106, Tryz.ntmps106
  go_wp2
  go_ret
  exact ⟨rfl, rfl⟩
theorem mayShift_no (k : Int) (w : World) (h : k < 0 ∨ 65536 < k) : Calls Tryz.prog 106 #[.int .i64 k] w fun e w' => e = .returned (.bool false) ∧ w = w' := by
  rcases h with h | h
  · go_enter Tryz.func106, Tryz.ntmps106
    go_wp2
    go_ret
    exact ⟨rfl, rfl⟩
  · have h0 : 0 ≤ k := by omega
    have h1 : ¬ k ≤ 65536 := by omega
    go_enter Tryz.func106, Tryz.ntmps106
    go_wp2
    go_ret
    exact ⟨rfl, rfl⟩
theorem parts_any (n s : Nat) (w : World) (hn : n ≤ 1000000000) (hs : 0 < s) (hs2 : s ≤ 1000) : Calls Tryz.prog 72 #[.int .i64 n, .int .i64 s] w fun e w' => e = .returned (.int .i64 ((n + s - 1) / s : Nat)) ∧ w = w' := by
  have hb : ((s : Int) == 0) = false := by simp; omega
  go_enter Tryz.func72, Tryz.ntmps72
  go_wp2
  go_ret
  exact ⟨ret_num (by rw [Int.natCast_ediv, Int.natCast_sub (by omega)]; rfl), rfl⟩
section
variable (A : Option Addr) (c : Nat) (a : List Nat) (w : World) (hr : Rd .u64 w w.heap.size A a) (hw : Words a) (hl : a.length ≤ 100000) (hc : a.length ≤ c)
include hr hw hl
omit hc in
set_option maxHeartbeats 400000 in
theorem bit_pf (i : Int) (hi : MaxI i) : Calls Tryz.prog 47 #[.slice A a.length c, .int .i64 i] w fun e w' => e = .returned (.int .u64 (bitS (natOf a) i)) ∧ Below w.heap.size w w' := by
  by_cases h0 : i < 0
  · have hv := Lib.hid (show bitS (natOf a) i = 0 by simp [bitS, h0])
    go_enter Tryz.func47, Tryz.ntmps47
    go_wp2_with fail
    go_ret
    exact ⟨ret_num (by rw [hv.out]; rfl), Below.refl _ _⟩
  · obtain ⟨j, rfl⟩ := Int.eq_ofNat_of_zero_le (by omega : 0 ≤ i)
    unfold MaxI at hi
    have W0 := word_any A c a ((j : Int) / 64) w w.heap.size hr (by omega)
    rw [show ((j : Int) / 64) = ((j / 64 : Nat) : Int) by omega, wordS_nat] at W0
    rw [show ((j / 64 : Nat) : Int) = ((j : Int) / 64) by omega] at W0
    have HW := Lib.hid W0
    have hlt := nth_lt a hw (j / 64)
    have hv := Lib.hid (show ((bitS (natOf a) (j : Int) : Nat) : Int) = bits .and .u64 ((nth a (j / 64) : Int) / 2 ^ (j % 64)) 1 by
      have e1 : bitS (natOf a) (j : Int) = bit (natOf a) j := by unfold bitS; rw [if_neg (by omega), Int.toNat_natCast]
      have e2 := bit_of_word a hw (j / 64) (j % 64) (Nat.mod_lt _ (by omega))
      rw [show 64 * (j / 64) + j % 64 = j by omega] at e2
      have e3 : ((nth a (j / 64) : Int) / 2 ^ (j % 64)) = ((nth a (j / 64) / 2 ^ (j % 64) : Nat) : Int) := by simp
      have h := u64_and_nat (nth a (j / 64) / 2 ^ (j % 64)) 1 (Nat.lt_of_le_of_lt (Nat.div_le_self _ _) hlt) (by omega)
      rw [show ((1 : Nat) : Int) = 1 from rfl] at h
      rw [e1, e3, h, Nat.and_one_is_mod, bit, e2])
    clear W0
    go_enter Tryz.func47, Tryz.ntmps47
    go_wp2_with fail
    refine (HW.out).mono ?_
    rintro e w' ⟨rfl, rfl⟩
    go_wp2_with fail
    go_ret
    exact ⟨ret_num (by rw [hv.out]), Below.refl _ _⟩
end
theorem isNaN_int (x : Int) (w : World) : Calls Tryz.prog 68 #[.int .i64 x] w fun e w' => e = .returned (.bool false) ∧ w = w' := by
  go_enter Tryz.func68, Tryz.ntmps68
  go_wp2
  go_ret
  exact ⟨by simp, rfl⟩
theorem isNaN_u64 (x : Int) (w : World) : Calls Tryz.prog 70 #[.int .u64 x] w fun e w' => e = .returned (.bool false) ∧ w = w' := by
  go_enter Tryz.func70, Tryz.ntmps70
  go_wp2
  go_ret
  exact ⟨by simp, rfl⟩
theorem compare_int (x y : Nat) (w : World) : Calls Tryz.prog 41 #[.int .i64 x, .int .i64 y] w fun e w' => e = .returned (.int .i64 (cmpS x y)) ∧ w = w' := by
  rcases Nat.lt_trichotomy x y with h | h | h
  · have hv := Lib.hid (show cmpS x y = -1 by unfold cmpS; rw [if_pos h])
    go_enter Tryz.func41, Tryz.ntmps41
    go_wp2_with (go_at_call 68; refine (isNaN_int _ _).mono ?_; rintro e w' ⟨rfl, rfl⟩)
    go_ret
    exact ⟨ret_num (by rw [hv.out]), rfl⟩
  · subst h
    have hv := Lib.hid (show cmpS x x = 0 by simp [cmpS])
    go_enter Tryz.func41, Tryz.ntmps41
    go_wp2_with (go_at_call 68; refine (isNaN_int _ _).mono ?_; rintro e w' ⟨rfl, rfl⟩)
    go_ret
    exact ⟨ret_num (by rw [hv.out]), rfl⟩
  · have hv := Lib.hid (show cmpS x y = 1 by unfold cmpS; rw [if_neg (by omega), if_pos h])
    have h' : ¬ x < y := by omega
    go_enter Tryz.func41, Tryz.ntmps41
    go_wp2_with (go_at_call 68; refine (isNaN_int _ _).mono ?_; rintro e w' ⟨rfl, rfl⟩)
    go_ret
    exact ⟨ret_num (by rw [hv.out]), rfl⟩
theorem compare_u64 (x y : Nat) (w : World) : Calls Tryz.prog 43 #[.int .u64 x, .int .u64 y] w fun e w' => e = .returned (.int .i64 (cmpS x y)) ∧ w = w' := by
  rcases Nat.lt_trichotomy x y with h | h | h
  · have hv := Lib.hid (show cmpS x y = -1 by unfold cmpS; rw [if_pos h])
    go_enter Tryz.func43, Tryz.ntmps43
    go_wp2_with (go_at_call 70; refine (isNaN_u64 _ _).mono ?_; rintro e w' ⟨rfl, rfl⟩)
    go_ret
    exact ⟨ret_num (by rw [hv.out]), rfl⟩
  · subst h
    have hv := Lib.hid (show cmpS x x = 0 by simp [cmpS])
    go_enter Tryz.func43, Tryz.ntmps43
    go_wp2_with (go_at_call 70; refine (isNaN_u64 _ _).mono ?_; rintro e w' ⟨rfl, rfl⟩)
    go_ret
    exact ⟨ret_num (by rw [hv.out]), rfl⟩
  · have hv := Lib.hid (show cmpS x y = 1 by unfold cmpS; rw [if_neg (by omega), if_pos h])
    have h' : ¬ x < y := by omega
    go_enter Tryz.func43, Tryz.ntmps43
    go_wp2_with (go_at_call 70; refine (isNaN_u64 _ _).mono ?_; rintro e w' ⟨rfl, rfl⟩)
    go_ret
    exact ⟨ret_num (by rw [hv.out]), rfl⟩
end Go.Proofs.YtjpfcdgaepdcdaaGreat
/- nat.pairs: the iterator over two numbers' words, as what a loop over it may rely on. Conditions: as typed. -/
namespace Go.Proofs.YtjpfcdgaepdcdaaGreat
open Go.RowKit Go.Shelf
set_option maxRecDepth 20000
attribute [local go_sem] Oper.semAt_some
/-- Two words. -/
abbrev WP := { p : Nat × Nat // p.1 < 18446744073709551616 ∧ p.2 < 18446744073709551616 }
def pairAt (a b : List Nat) (ha : Words a) (hb : Words b) (j : Nat) : WP := ⟨(nth a j, nth b j), nth_lt a ha j, nth_lt b hb j⟩
/-- What has come when k rounds are over. -/
def upto {α : Type} (f : Nat → α) (k : Nat) : List α := (List.range k).map f
theorem upto_succ {α : Type} (f : Nat → α) (k : Nat) : upto f (k + 1) = upto f k ++ [f k] := by simp [upto, List.range_succ]
theorem upto_length {α : Type} (f : Nat → α) (k : Nat) : (upto f k).length = k := by simp [upto]
theorem upto_map {α β : Type} (f : Nat → α) (g : α → β) (k : Nat) : (upto f k).map g = (List.range k).map fun j => g (f j) := by simp [upto]
/-- What a round keeps: all that lay below n₀, and the two boxes of the iterator. -/
def KpP (n₀ p : Nat) (W W' : World) : Prop := Below n₀ W W' ∧ W'.heap[p]? = W.heap[p]? ∧ W'.heap[p + 1]? = W.heap[p + 1]?
theorem KpP.t {n₀ p : Nat} {A B C : World} (h : KpP n₀ p A B) (k : KpP n₀ p B C) : KpP n₀ p A C := ⟨h.1.trans k.1, k.2.1.trans h.2.1, k.2.2.trans h.2.2⟩
theorem KpP.b {n₀ p : Nat} {w : World} (hn : n₀ ≤ w.heap.size) (hp : p + 2 ≤ w.heap.size) (W : World) (l : Nat) (o o' : Obj) (hl : w.heap.size ≤ l) (h : W.heap[l]? = some o) (h1 : o.isCells = false) (h2 : o.isWalk = false) : KpP n₀ p W (W.putObj l o') := by
  have hg := grownBy_putObj' W l o'
  have hlt := (Array.getElem?_eq_some_iff.1 h).1
  exact ⟨belowK_b hn W l o o' hl h h1 h2, hg.block p (by omega) (by simp; omega), hg.block (p + 1) (by omega) (by simp; omega)⟩
/-- What a round has said, by one word. -/
structure Said (bb : Bool) (Y N : Prop) : Prop where
  yes : bb = true → Y
  no : bb = false → N
theorem yieldSays {e : Ending} {Y1 Y2 N : Prop} (h : (e = .returned (.bool true) ∧ Y1 ∧ Y2) ∨ (e = .returned (.bool false) ∧ N)) : ∃ bb, e = .returned (.bool bb) ∧ Said bb (Y1 ∧ Y2) N := by
  rcases h with ⟨he, h1, h2⟩ | ⟨he, h3⟩
  · exact ⟨true, he, ⟨fun _ => ⟨h1, h2⟩, (fun h => by cases h)⟩⟩
  · exact ⟨false, he, ⟨(fun h => by cases h), fun _ => h3⟩⟩
theorem kpP_drew (n₀ p : Nat) (w : World) : KpP n₀ p w w.drew := ⟨(Drawn.more 1).below n₀, rfl, rfl⟩
theorem Drawn.grown (w : World) (n : Nat) : w.grownBy (w.drewN n) none := ⟨rfl, rfl, rfl, Nat.le_refl _, fun _ _ _ => rfl⟩
set_option maxRecDepth 100000 in
set_option maxHeartbeats 2000000 in
theorem pairs1_in (n : Nat) (hn : 1 ≤ n) (l p n₀ : Nat) (A A2 : Option Addr) (a b : List Nat) (ha : Words a) (hb : Words b) (c c2 m : Nat) (hla : a.length ≤ 1000000) (hlb : b.length ≤ 1000000) (hm : Hid (m = max a.length b.length)) (J Jx : List WP → World → Prop) (W : World) (hJ : AbidesFrom W.heap.size J)
    (hY : ∀ pre x W, J pre W → pre.length < m → YieldAt Fence.wide (n - 1) Tryz.prog l #[.int .u64 (x.1.1 : Int), .int .u64 (x.1.2 : Int)] W fun e W' =>
      (e = .returned (.bool true) ∧ J (pre ++ [x]) W' ∧ KpP n₀ p W W') ∨ (e = .returned (.bool false) ∧ Jx (pre ++ [x]) W'))
    (hp : Boxed W p 33 (.slice A a.length c)) (hq : Boxed W (p + 1) 33 (.slice A2 b.length c2)) (hra : Rd .u64 W n₀ A a) (hrb : Rd .u64 W n₀ A2 b) (h0 : J [] W) :
    CallsIn Fence.wide n Tryz.prog 103 #[.func (.yield l) #[] #[], .pointer (some ⟨p, 0, none⟩), .pointer (some ⟨p + 1, 0, none⟩)] W fun e W' => (∃ v, e = .returned v) ∧
      ((∃ ys, ys = upto (pairAt a b ha hb) m ∧ J ys W') ∨ (∃ pre, (∃ k, k ≤ m ∧ pre = upto (pairAt a b ha hb) k) ∧ Jx pre W')) := by
  have hpc := hp.cell
  have hqc := hq.cell
  refine callsIn_of_wp Tryz.func103 rfl trivial ?_ rfl
  simp only [Tryz.ntmps103, List.size_toArray, List.length_cons, List.length_nil, Nat.reduceAdd, Nat.reduceSub, Array.replicate_succ, Array.replicate_zero, List.push_toArray, List.append_toArray, List.nil_append, List.cons_append]
  gi_wp2
  have HM := hm.out
  rw [show max (a.length : Int) (b.length : Int) = (m : Int) by omega]
  clear HM
  gi_loopw [10] (fun i wr => ∃ k : Nat, k ≤ m ∧ i = .int .i64 k ∧ J (upto (pairAt a b ha hb) k) wr ∧ KpP n₀ p W wr) (fun i _ => m - (intOf i).toNat)
  case atStart => exact ⟨0, Nat.zero_le _, rfl, h0, Below.refl _ _, rfl, rfl⟩
  case round =>
    obtain ⟨k, hk, rfl, hJs, hkp⟩ := hrel
    by_cases hlt : k < m
    · have hm2 : m ≤ 1000000 := by have := hm.out; omega
      have hp1 : Boxed wr p 33 (.slice A a.length c) := hkp.2.1.trans hp
      have hq1 : Boxed wr (p + 1) 33 (.slice A2 b.length c2) := hkp.2.2.trans hq
      have hpc1 := hp1.cell
      have hqc1 := hq1.cell
      have hra1 := hra.below hkp.1
      have hrb1 := hrb.below hkp.1
      have hY1 := hY (upto (pairAt a b ha hb) k) (pairAt a b ha hb k)
      rw [show (pairAt a b ha hb k).1.1 = wordS a (k : Int) from (wordS_nat a k).symm, show (pairAt a b ha hb k).1.2 = wordS b (k : Int) from (wordS_nat b k).symm] at hY1
      obtain ⟨fn, tmps, assign, body, hy, hR⟩ := hY1 wr.drew (hJ _ _ _ none hJs (Drawn.grown wr 1) (fun r e => by cases e)) (by rw [upto_length]; exact hlt)
      have hmx : Tryz.prog.follows .mixedOrders = true := by kernel_rfl
      clear hpc hqc
      gi_wp2
      gi_region_with_o (first
        | (refine ⟨trivial, ?_⟩; gi_at_call 67; refine (callsIn_wide.2 (word_any _ _ _ _ _ n₀ (by first | exact hra1 | exact hrb1) (by omega))).mono ?_; rintro e w' ⟨rfl, rfl⟩)
        | (refine hR.mono ?_; rintro e W3 hpost; obtain ⟨bb, rfl, hbb⟩ := yieldSays hpost; clear hpost))
      all_goals
        cases bb
        · have hJ3 := hbb.no rfl
          clear hbb
          gi_wp2
          refine bodyPost_ret (results_none rfl _ _ _) rfl ?_
          exact ⟨⟨_, rfl⟩, .inr ⟨_, ⟨k + 1, by omega, (upto_succ _ _).symm⟩, hJ3⟩⟩
        · have hJ3 := (hbb.yes rfl).1
          have hk3 := (hbb.yes rfl).2
          clear hbb
          gi_wp2
          go_roundw
          case rel => exact ⟨k + 1, by omega, by go_num, by rw [upto_succ]; exact hJ3, hkp.t (KpP.t (kpP_drew n₀ p wr) hk3)⟩
          case measure => simp [intOf]; omega
    · obtain rfl : k = m := by omega
      gi_wp2
      go_end0
      exact ⟨⟨_, rfl⟩, .inl ⟨_, rfl, hJs⟩⟩
set_option maxHeartbeats 1000000 in
theorem pairs_in (n : Nat) (A A2 : Option Addr) (na nb c c2 : Nat) (w : World) :
    CallsIn Fence.wide n Tryz.prog 65 #[.slice A na c, .slice A2 nb c2] w fun e w' =>
      e = .returned (.func (.func 103) #[] #[.pointer (some ⟨w.heap.size, 0, none⟩), .pointer (some ⟨w.heap.size + 1, 0, none⟩)]) ∧ (w.alloc (.cells #[.slice A na c] 33)).alloc (.cells #[.slice A2 nb c2] 33) = w' := by
  refine callsIn_of_wp Tryz.func65 rfl trivial ?_ rfl
  simp only [Tryz.ntmps65, List.size_toArray, List.length_cons, List.length_nil, Nat.reduceAdd, Nat.reduceSub, Array.replicate_succ, Array.replicate_zero, List.push_toArray, List.append_toArray, List.nil_append, List.cons_append]
  gi_wp2
  go_ret
  exact ⟨rfl, rfl⟩
/-- The two numbers' words, one after another, as far as the longer one goes; or a part of them. -/
theorem pairs_stops (n : Nat) (hn : 1 ≤ n) (p n₀ : Nat) (A A2 : Option Addr) (a b : List Nat) (ha : Words a) (hb : Words b) (c c2 m : Nat) (hla : a.length ≤ 1000000) (hlb : b.length ≤ 1000000) (hm : m = max a.length b.length)
    (w : World) (hp : Boxed w p 33 (.slice A a.length c)) (hq : Boxed w (p + 1) 33 (.slice A2 b.length c2)) (hn₀ : n₀ ≤ w.heap.size) (hra : Rd .u64 w n₀ A a) (hrb : Rd .u64 w n₀ A2 b) :
    SeqStopsK Fence.wide n Tryz.prog 103 #[.pointer (some ⟨p, 0, none⟩), .pointer (some ⟨p + 1, 0, none⟩)] (fun x : WP => #[Value.int .u64 (x.1.1 : Int), Value.int .u64 (x.1.2 : Int)]) (KpP n₀ p)
      (fun ys => ys = upto (pairAt a b ha hb) m) (fun pre => ∃ k, k ≤ m ∧ pre = upto (pairAt a b ha hb) k) m w := fun l J Jx W hW hJ _ hY h0 =>
  pairs1_in n hn l p n₀ A A2 a b ha hb c c2 m hla hlb (Lib.hid hm) J Jx W hJ hY ((hW.block p hp.lt).trans hp) ((hW.block (p + 1) hq.lt).trans hq) (hra.below (hW.mono hn₀)) (hrb.below (hW.mono hn₀)) h0
end Go.Proofs.YtjpfcdgaepdcdaaGreat
/- nat.Add: the sum, in new memory. Conditions: as typed (lengths that fit a machine). -/
namespace Go.Proofs.YtjpfcdgaepdcdaaGreat
open Go.RowKit Go.Shelf
set_option maxRecDepth 20000
attribute [local go_sem] Oper.semAt_some
def sF (pre : List WP) : Nat := natOf (pre.map fun x => x.1.1)
def sG (pre : List WP) : Nat := natOf (pre.map fun x => x.1.2)
theorem natOf_snoc (l : List Nat) (x : Nat) : natOf (l ++ [x]) = natOf l + 18446744073709551616 ^ l.length * x := by
  rw [natOf_append]
  simp [natOf]
theorem sF_snoc (pre : List WP) (x : WP) : sF (pre ++ [x]) = sF pre + 18446744073709551616 ^ pre.length * x.1.1 := by
  unfold sF
  rw [List.map_append, List.map_singleton, natOf_snoc, List.length_map]
theorem sG_snoc (pre : List WP) (x : WP) : sG (pre ++ [x]) = sG pre + 18446744073709551616 ^ pre.length * x.1.2 := by
  unfold sG
  rw [List.map_append, List.map_singleton, natOf_snoc, List.length_map]
theorem sF_lt (pre : List WP) : sF pre < 18446744073709551616 ^ pre.length := by
  have := natOf_lt (pre.map fun x => x.1.1) (fun y hy => by obtain ⟨x, _, rfl⟩ := List.mem_map.1 hy; exact x.2.1)
  rwa [List.length_map] at this
theorem sG_lt (pre : List WP) : sG pre < 18446744073709551616 ^ pre.length := by
  have := natOf_lt (pre.map fun x => x.1.2) (fun y hy => by obtain ⟨x, _, rfl⟩ := List.mem_map.1 hy; exact x.2.2)
  rwa [List.length_map] at this
theorem nth_range (f : Nat → Nat) (m j : Nat) : nth ((List.range m).map f) j = if j < m then f j else 0 := by
  unfold nth
  rw [List.getD_eq_getElem?_getD, List.getElem?_map]
  by_cases h : j < m
  · rw [if_pos h, List.getElem?_range h]; rfl
  · rw [if_neg h, List.getElem?_eq_none (by simp; omega)]; rfl
theorem nth_past (a : List Nat) (j : Nat) (h : a.length ≤ j) : nth a j = 0 := by simp [nth, List.getElem?_eq_none h]
theorem natOf_range (a : List Nat) (m : Nat) (h : a.length ≤ m) : natOf ((List.range m).map (nth a)) = natOf a := by
  refine natOf_ext _ _ fun j => ?_
  rw [nth_range]
  split
  · rfl
  · exact (nth_past a j (by omega)).symm
theorem sF_upto (a b : List Nat) (ha : Words a) (hb : Words b) (m : Nat) (h : a.length ≤ m) : sF (upto (pairAt a b ha hb) m) = natOf a := by
  unfold sF
  rw [upto_map]
  exact natOf_range a m h
theorem sG_upto (a b : List Nat) (ha : Words a) (hb : Words b) (m : Nat) (h : b.length ≤ m) : sG (upto (pairAt a b ha hb) m) = natOf b := by
  unfold sG
  rw [upto_map]
  exact natOf_range b m h
/-- The carry behind so many words. -/
def cF (pre : List WP) : Nat := (sF pre + sG pre) / 18446744073709551616 ^ pre.length
theorem cF_le (pre : List WP) : cF pre ≤ 1 := by
  have h1 := sF_lt pre
  have h2 := sG_lt pre
  have : cF pre < 2 := by unfold cF; rw [Nat.div_lt_iff_lt_mul (by omega)]; omega
  omega
theorem words_low (k S t : Nat) : words k (S + 18446744073709551616 ^ k * t) = words k S := by
  refine ext_nth _ _ (by simp [length_words]) fun j hj => ?_
  rw [length_words] at hj
  rw [nth_words _ _ _ hj, nth_words _ _ _ hj]
  obtain ⟨d, rfl⟩ : ∃ d, k = j + 1 + d := ⟨k - (j + 1), by omega⟩
  rw [Nat.pow_add, Nat.pow_succ, Nat.mul_assoc, Nat.mul_assoc, Nat.add_mul_div_left _ _ (Nat.pow_pos (by omega)), Nat.add_mul_mod_self_left]
theorem sum_snoc (pre : List WP) (x : WP) : sF (pre ++ [x]) + sG (pre ++ [x]) = (sF pre + sG pre) + 18446744073709551616 ^ pre.length * (x.1.1 + x.1.2) := by
  rw [sF_snoc, sG_snoc, Nat.mul_add]
  omega
theorem cF_snoc (pre : List WP) (x : WP) : cF (pre ++ [x]) = (x.1.1 + x.1.2 + cF pre) / 18446744073709551616 := by
  unfold cF
  rw [sum_snoc, List.length_append, List.length_singleton, Nat.pow_succ, ← Nat.div_div_eq_div_mul, Nat.add_mul_div_left _ _ (Nat.pow_pos (by omega))]
  congr 1
  omega
theorem words_sum_snoc (pre : List WP) (x : WP) : words (pre.length + 1) (sF (pre ++ [x]) + sG (pre ++ [x])) = words pre.length (sF pre + sG pre) ++ [(x.1.1 + x.1.2 + cF pre) % 18446744073709551616] := by
  rw [words_snoc, sum_snoc, words_low, Nat.add_mul_div_left _ _ (Nat.pow_pos (by omega))]
  congr 3
  unfold cF
  omega
theorem words_sum_end (pre : List WP) : words pre.length (sF pre + sG pre) ++ [cF pre] = words (pre.length + 1) (sF pre + sG pre) := by
  have := cF_le pre
  rw [words_snoc, show (sF pre + sG pre) / 18446744073709551616 ^ pre.length = cF pre from rfl, Nat.mod_eq_of_lt (by omega)]
theorem cF_nil : cF [] = 0 := by simp [cF, sF, sG, natOf]
theorem add64_run (x y c : Nat) (hc : c ≤ 1) (w : World) :
    (callFunc 66 #[.int .u64 x, .int .u64 y, .int .u64 c]).run Tryz.prog w =
      .ok (.value (.tuple #[.int .u64 (((x + y + c) % 18446744073709551616 : Nat) : Int), .int .u64 (((x + y + c) / 18446744073709551616 : Nat) : Int)])) w := by
  rw [run_callFunc_extern Tryz.func66 (by kernel_rfl) (by kernel_rfl) (by kernel_rfl) (e := add64Entry) (by kernel_rfl), run_add64 x y c (by omega) (by omega) (by omega) (by omega)]
  simp only [Result.andThen]
  congr 5 <;> omega
theorem make_words (m : Nat) (u : World) (hm : m ≤ 1000000) : (Instr.makeSlice 33 (.int .i64 0) (.int .i64 (m : Int))).run Tryz.prog u =
      .ok (.slice (some ⟨u.heap.size, 0, none⟩) 0 m) (u.alloc (.cells (List.replicate m (Value.int .u64 0)).toArray 27)) := by
  obtain ⟨i0, hi, hz0, hz1, hz2⟩ := info_parts num_info_u64
  have h := run_make (P := Tryz.prog) u 33 27 i0 (.int .u64 0) Tryz.underlying33 hi hz0 .i64 .i64 (0 : Int) (m : Int) (by omega) (by omega) (by rw [hz2]; omega) (by omega)
  rw [Int.toNat_natCast, hz1, Nat.mul_one] at h
  rw [h, ← toList_madeCells_one]
  rfl
/-- The memory in which the loop begins: a row with room, three boxes more, and the iterator's two. -/
def startW (w : World) (m : Nat) (va vb : Value) : World :=
  ((((w.alloc (.cells (Array.replicate m (.int .u64 0)) 27)).alloc (.cells #[.slice (some ⟨w.heap.size, 0, none⟩) 0 m] 33)).alloc (.cells #[.int .u64 0] 27)).alloc (.cells #[va] 33)).alloc (.cells #[vb] 33)
structure Starts (w E : World) (m : Nat) (va vb : Value) : Prop where
  size : E.heap.size = w.heap.size + 5
  row : E.ownsRow w.heap.size 27 1 (.slice (some ⟨w.heap.size, 0, none⟩) 0 m) 0 []
  out : Boxed E (w.heap.size + 1) 33 (.slice (some ⟨w.heap.size, 0, none⟩) 0 m)
  carry : Boxed E (w.heap.size + 1 + 1) 27 (.int .u64 0)
  va : Boxed E (w.heap.size + 1 + 1 + 1) 33 va
  vb : Boxed E (w.heap.size + 1 + 1 + 1 + 1) 33 vb
  below : Below w.heap.size w E
theorem starts (w : World) (m : Nat) (va vb : Value) (hm : m ≤ maxLen) : Starts w (startW w m va vb) m va vb where
  size := by simp [startW]
  row := by
    have h := own_of_heap (w := w.alloc (.cells (Array.replicate m (.int .u64 0)) 27)) (base := w.heap.size) (n := 0) (cap := m) (cur := List.replicate m (.int .u64 0)) (xs := []) (by have h := heap_alloc_new w (.cells (Array.replicate m (.int .u64 0)) 27); simpa using h) (Nat.le_refl _) (Nat.zero_le _) hm (by simp) (by simp)
    exact (((h.alloc _).alloc _).alloc _).alloc _
  out := by
    have h := Boxed.new (w.alloc (.cells (Array.replicate m (.int .u64 0)) 27)) 33 (.slice (some ⟨w.heap.size, 0, none⟩) 0 m)
    rw [World.size_alloc] at h
    exact ((h.alloc _).alloc _).alloc _
  carry := by
    have h := Boxed.new ((w.alloc (.cells (Array.replicate m (.int .u64 0)) 27)).alloc (.cells #[.slice (some ⟨w.heap.size, 0, none⟩) 0 m] 33)) 27 (.int .u64 0)
    rw [World.size_alloc, World.size_alloc] at h
    exact (h.alloc _).alloc _
  va := by
    have h := Boxed.new (((w.alloc (.cells (Array.replicate m (.int .u64 0)) 27)).alloc (.cells #[.slice (some ⟨w.heap.size, 0, none⟩) 0 m] 33)).alloc (.cells #[.int .u64 0] 27)) 33 va
    rw [World.size_alloc, World.size_alloc, World.size_alloc] at h
    exact h.alloc _
  vb := by
    have h := Boxed.new ((((w.alloc (.cells (Array.replicate m (.int .u64 0)) 27)).alloc (.cells #[.slice (some ⟨w.heap.size, 0, none⟩) 0 m] 33)).alloc (.cells #[.int .u64 0] 27)).alloc (.cells #[va] 33)) 33 vb
    rw [World.size_alloc, World.size_alloc, World.size_alloc, World.size_alloc] at h
    exact h
  below := (((((Below.refl _ _).alloc (Nat.le_refl _) _).alloc (by simp) _).alloc (by simp; omega) _).alloc (by simp; omega) _).alloc (by simp; omega) _
theorem one_new (W : World) (p : Addr) (v u0 : Value) (t : TypeId) : ∀ j u, [u0][j]? = some u → ((W.setCell p v).alloc (.cells #[u0] t)).cell? ((⟨W.heap.size, 0, none⟩ : Addr).add j) = some u := by
  have h := cell_one_new (W.setCell p v) u0 t
  rw [show (W.setCell p v).heap.size = W.heap.size by simp [World.setCell]] at h
  exact h
/-- The first of what a row owns. -/
theorem own_take {w : World} {base e m n c : Nat} {A : Option Addr} {xs : List Value} (h : w.ownsRow base e 1 (.slice A n c) n xs) (hm : m ≤ n) : w.ownsRow base e 1 (.slice A m c) m (xs.take m) := by
  have hl := h.1
  refine ⟨by rw [List.length_take]; omega, ?_⟩
  rcases h.2 with ⟨hv, h0⟩ | ⟨g, cap, cur, hv, h1, h2, h3, h4, h5, h6⟩
  · injection hv with hA _ hc
    subst hA
    subst hc
    exact .inl ⟨by rw [show m = 0 by omega], by omega⟩
  · injection hv with hA _ hc
    subst hA
    subst hc
    refine .inr ⟨g, c, cur, rfl, h1, h2, by omega, h4, h5, ?_⟩
    rw [← h6, List.take_take, Nat.min_eq_left (by omega), Nat.mul_one]
/-- What trimmed answers of a row of the call's own. -/
theorem own_trim {w : World} {base c k N : Nat} {A : Option Addr} (h : w.ownsRow base 27 1 (.slice A k c) k (ints .u64 (words k N))) (hN : N < 18446744073709551616 ^ k) :
    w.ownsRow base 27 1 (.slice A ((nbits N + 63) / 64) c) ((nbits N + 63) / 64) (ints .u64 (wd N)) := by
  have e := tl_words k N hN
  have h1 := tl_le (words k N) (words_words _ _)
  rw [length_words, e] at h1
  have h2 := own_take h h1
  have e2 : (ints .u64 (words k N)).take ((nbits N + 63) / 64) = ints .u64 (wd N) := by
    rw [ints, ← List.map_take, ← e, take_wd _ (words_words _ _), natOf_words, Nat.mod_eq_of_lt hN]
    rfl
  rwa [e2] at h2
theorem trim_own (w : World) (base c k N : Nat) (A : Option Addr) (h : w.ownsRow base 27 1 (.slice A k c) k (ints .u64 (words k N))) (hN : N < 18446744073709551616 ^ k) (hk : k ≤ 1000000) (hc : k ≤ c) :
    Calls Tryz.prog 40 #[.slice A k c] w fun e w' => e = .returned (.slice A ((nbits N + 63) / 64) c) ∧ w = w' := by
  have T := trimmed_any A c (words k N) w w.heap.size (Rd.own h) (words_words _ _) (by rw [length_words]; exact hk) (by rw [length_words]; exact hc)
  rwa [length_words, tl_words k N hN] at T
/-- Between two rounds: so many words are made, and what is carried. -/
structure Mid (w : World) (m k : Nat) (ws : List Nat) (cy : Nat) (W : World) : Prop where
  row : W.ownsRow w.heap.size 27 1 (.slice (some ⟨w.heap.size, 0, none⟩) k m) k (ints .u64 ws)
  out : Boxed W (w.heap.size + 1) 33 (.slice (some ⟨w.heap.size, 0, none⟩) k m)
  carry : Boxed W (w.heap.size + 1 + 1) 27 (.int .u64 (cy : Int))
  below : Below w.heap.size w W
  size : w.heap.size + 5 ≤ W.heap.size
theorem Mid.kept {w W W' : World} {m k cy : Nat} {ws : List Nat} {row : Option Nat} (h : Mid w m k ws cy W) (hg : W.grownBy W' row) (hr : ∀ r, row = some r → w.heap.size + 5 ≤ r) : Mid w m k ws cy W' where
  row := h.row.kept hg (.inr (by intro e; have := hr _ e.symm; dsimp only at this; omega))
  out := h.out.kept hg (by intro e; have := hr _ e.symm; omega)
  carry := h.carry.kept hg (by intro e; have := hr _ e.symm; omega)
  below := h.below.grown hg h.below.size (fun k e => by have := hr k e; omega)
  size := Nat.le_trans h.size hg.size
/-- The carry is stored, and one word is appended. -/
theorem Mid.step {w W w1 : World} {m k cy cy' x : Nat} {ws : List Nat} {tmp : Obj} (h : Mid w m k ws cy W)
    (hown : w1.ownsRow w.heap.size 27 1 (.slice (some ⟨w.heap.size, 0, none⟩) (k + 1) m) (k + 1) (ints .u64 ws ++ [.int .u64 (x : Int)]))
    (hg : ((W.setCell ⟨w.heap.size + 1 + 1, 0, none⟩ (.int .u64 (cy' : Int))).alloc tmp).grownBy w1 (some w.heap.size)) :
    Boxed w1 (w.heap.size + 1) 33 (.slice (some ⟨w.heap.size, 0, none⟩) k m) ∧
    Mid w m (k + 1) (ws ++ [x]) cy' (w1.setCell ⟨w.heap.size + 1, 0, none⟩ (.slice (some ⟨w.heap.size, 0, none⟩) (k + 1) m)) ∧
    KeepsOthers W (w1.setCell ⟨w.heap.size + 1, 0, none⟩ (.slice (some ⟨w.heap.size, 0, none⟩) (k + 1) m)) ∧
    (∀ p, p < W.heap.size → w.heap.size + 3 ≤ p → (w1.setCell ⟨w.heap.size + 1, 0, none⟩ (.slice (some ⟨w.heap.size, 0, none⟩) (k + 1) m)).heap[p]? = W.heap[p]?) ∧
    Below w.heap.size W (w1.setCell ⟨w.heap.size + 1, 0, none⟩ (.slice (some ⟨w.heap.size, 0, none⟩) (k + 1) m)) := by
  have g1 := grownBy_setCell' W (w.heap.size + 1 + 1) (.int .u64 (cy' : Int))
  have g2 := grownBy_setCell' w1 (w.heap.size + 1) (.slice (some ⟨w.heap.size, 0, none⟩) (k + 1) m)
  have o1 := ((h.out.kept g1 (by simp)).alloc tmp).kept hg (by simp)
  have c1 := ((h.carry.set (.int .u64 (cy' : Int))).alloc tmp).kept hg (by simp; omega)
  have hW := h.below.size
  have hs1 : W.heap.size = (W.setCell ⟨w.heap.size + 1 + 1, 0, none⟩ (.int .u64 (cy' : Int))).heap.size := by simp [World.setCell]
  have hrow1 := (h.row.kept g1 (.inr (by simp [Value.ownBlock]; omega))).alloc tmp
  have hb : Below w.heap.size W (w1.setCell ⟨w.heap.size + 1, 0, none⟩ (.slice (some ⟨w.heap.size, 0, none⟩) (k + 1) m)) :=
    (((((Below.refl _ W).setCell (p := ⟨w.heap.size + 1 + 1, 0, none⟩) (by simp; omega) _).alloc (by rw [← hs1]; exact hW) tmp).grown hg (by rw [World.size_alloc, ← hs1]; omega) (fun q e => by cases e; exact Nat.le_refl _))).setCell (p := ⟨w.heap.size + 1, 0, none⟩) (by simp) _
  refine ⟨o1, ⟨?_, o1.set _, c1.kept g2 (by simp), h.below.trans hb, Nat.le_trans h.size hb.size⟩, ?_, ?_, hb⟩
  · rw [ints_append]
    exact hown.kept g2 (.inr (by simp [Value.ownBlock]))
  · refine ((KeepsOthers.setCell W _ _).trans ((KeepsOthers.alloc _ tmp).trans (KeepsOthers.of_grownBy hg fun j o ej hj => ?_))).trans (KeepsOthers.setCell _ _ _)
    obtain rfl : w.heap.size = j := by simpa using ej
    rcases hrow1.2 with ⟨hv, _⟩ | ⟨g, cap, cur, hv, _, hgb, _⟩
    · cases hv
    · injection hv with hv _ _
      injection hv with hv
      injection hv with hv _ _
      subst hv
      rw [hgb] at hj
      cases hj
      rfl
  · intro p hp hp3
    rw [g2.block p (by have := hg.size; rw [World.size_alloc, ← hs1] at this; omega) (by simp; omega), hg.block p (by rw [World.size_alloc, ← hs1]; omega) (by simp; omega), Below.heap_alloc _ _ _ (by rw [← hs1]; exact hp)]
    exact g1.block p hp (by simp; omega)
set_option maxRecDepth 100000 in
set_option maxHeartbeats 2000000 in
theorem add_core (A A2 : Option Addr) (n0 n1 c c2 : Nat) (a b : List Nat) (ha : Words a) (hb : Words b) (hla : a.length ≤ 100000) (hlb : b.length ≤ 100000) (w : World) (hra : Rd .u64 w w.heap.size A a) (hrb : Rd .u64 w w.heap.size A2 b)
    (T1 : Hid (Calls Tryz.prog 40 #[.slice A n0 c] w fun e w' => e = .returned (.slice A a.length c) ∧ w = w'))
    (T2 : Hid (Calls Tryz.prog 40 #[.slice A2 n1 c2] w fun e w' => e = .returned (.slice A2 b.length c2) ∧ w = w')) :
    Calls Tryz.prog 38 #[.slice A n0 c, .slice A2 n1 c2] w (OutNat (natOf a + natOf b) w) := by
  obtain ⟨m, hm⟩ : ∃ m, m = max a.length b.length := ⟨_, rfl⟩
  have hm2 : m ≤ 100000 := by omega
  have HM := Lib.hid (show max (a.length : Int) (b.length : Int) + 1 = ((m + 1 : Nat) : Int) by omega)
  have Hm := Lib.hid hm
  clear hm
  refine (callsIn_wide (n := 9)).1 ?_
  refine callsIn_of_wp_marks Tryz.func38 rfl trivial ?_ rfl
  simp only [Tryz.ntmps38, List.size_toArray, List.length_cons, List.length_nil, Nat.reduceAdd, Nat.reduceSub, Array.replicate_succ, Array.replicate_zero, List.push_toArray, List.append_toArray, List.nil_append, List.cons_append]
  have hmk : ∀ u : World, (Instr.makeSlice 33 (.int .i64 0) (.int .i64 (max (a.length : Int) (b.length : Int) + 1))).run Tryz.prog u =
      .ok (.slice (some ⟨u.heap.size, 0, none⟩) 0 (m + 1)) (u.alloc (.cells (List.replicate (m + 1) (Value.int .u64 0)).toArray 27)) := fun u => by
    rw [HM.out]
    exact make_words (m + 1) u (by omega)
  have hx0 : 0 ≤ max (a.length : Int) (b.length : Int) := by omega
  have hx1 : max (a.length : Int) (b.length : Int) ≤ 100000 := by omega
  gi_wp2
  refine ⟨trivial, ?_⟩
  refine (callsIn_wide.2 T1.out).mono ?_
  rintro e w' ⟨rfl, rfl⟩
  gi_wp2
  refine ⟨trivial, ?_⟩
  refine (callsIn_wide.2 T2.out).mono ?_
  rintro e w' ⟨rfl, rfl⟩
  gi_wp2
  refine ⟨trivial, ?_⟩
  refine (pairs_in _ _ _ _ _ _ _ _).mono ?_
  rintro e w' ⟨rfl, rfl⟩
  have F := starts w (m + 1) (.slice A a.length c) (.slice A2 b.length c2) (by unfold maxLen; omega)
  obtain ⟨E, hE⟩ : ∃ E, startW w (m + 1) (.slice A a.length c) (.slice A2 b.length c2) = E := ⟨_, rfl⟩
  rw [hE] at F
  unfold startW at hE
  clear hmk
  gi_wp2
  clear hE
  obtain ⟨i0, hi, hz0, hz1, hz2⟩ := info_parts num_info_u64
  have hEs := F.size
  have HEs := Lib.hid hEs
  refine wpIn_rangeFunc_ownG rfl (by omega) (gf := 103) (lb := #[.pointer (some ⟨w.heap.size + 1 + 1 + 1, 0, none⟩), .pointer (some ⟨w.heap.size + 1 + 1 + 1 + 1, 0, none⟩)]) rfl trivial (enters_of Tryz.func103 (by kernel_rfl) rfl)
    (pairs_stops 8 (by omega) (w.heap.size + 1 + 1 + 1) w.heap.size A A2 a b ha hb c c2 m (by omega) (by omega) Hm.out E F.va F.vb (by omega) (hra.below F.below) (hrb.below F.below))
    KpP.t (KpP.b (by omega) (by omega)) (Below.refl _ _) (fun _ => rfl)
    (fun pre W => Mid w (m + 1) pre.length (words pre.length (sF pre + sG pre)) (cF pre) W)
    (fun _ _ _ => False)
    (fun s X Y row hs hg hr => hs.kept hg (fun r e => by have := (hr r e).1; omega))
    (fun _ _ _ _ _ hs _ _ => hs)
    ⟨by simpa [words, ints] using F.row, F.out, by rw [cF_nil]; exact F.carry, F.below, by omega⟩
    (fun x => { tmps := #[.slice A a.length c, .slice A2 b.length c2, undef, undef, .slice none 0 0, .pointer (some ⟨w.heap.size + 1, 0, none⟩), .pointer (some ⟨w.heap.size + 1 + 1, 0, none⟩), .int .u64 (x.1.1 : Int), .int .u64 (x.1.2 : Int), .slice A n0 c,
      .slice A a.length c, .slice A2 n1 c2, .slice A2 b.length c2, .slice A a.length c, .int .i64 (a.length : Int), .slice A2 b.length c2, .int .i64 (b.length : Int), .int .i64 (max (a.length : Int) (b.length : Int)), .int .i64 (max (a.length : Int) (b.length : Int) + 1),
      .slice (some ⟨w.heap.size, 0, none⟩) 0 (m + 1), .slice A a.length c, .slice A2 b.length c2, .func (.func 103) #[] #[.pointer (some ⟨w.heap.size + 1 + 1 + 1, 0, none⟩), .pointer (some ⟨w.heap.size + 1 + 1 + 1 + 1, 0, none⟩)],
      .int .u64 (x.1.1 : Int), .int .u64 (x.1.2 : Int), undef, undef, undef, undef, undef, undef, undef, undef, undef, undef, undef, undef, undef, undef, undef, undef], defers := [] }) ?assign ?body ?done ?stop
  case assign =>
    intro l x W K hK
    gi_wp2
    exact hK
  case body =>
    rintro l pre x W hMid hlt
    have hoc := hMid.out.cell
    have hof := hMid.out.frozen
    have hcc := hMid.carry.cell
    have hcf := hMid.carry.frozen
    have hadd := add64_run x.1.1 x.1.2 (cF pre) (cF_le pre)
    obtain ⟨sw, hsw⟩ : ∃ sw, sw = (x.1.1 + x.1.2 + cF pre) % 18446744073709551616 := ⟨_, rfl⟩
    obtain ⟨cy, hcy⟩ : ∃ cy, cy = (x.1.1 + x.1.2 + cF pre) / 18446744073709551616 := ⟨_, rfl⟩
    rw [← hsw, ← hcy] at hadd
    have HI := Lib.hid (show words (pre ++ [x]).length (sF (pre ++ [x]) + sG (pre ++ [x])) = words pre.length (sF pre + sG pre) ++ [sw] by rw [List.length_append, List.length_singleton, words_sum_snoc, hsw])
    have HC := Lib.hid (show cF (pre ++ [x]) = cy by rw [cF_snoc, hcy])
    have HL := Lib.hid (show (pre ++ [x]).length = pre.length + 1 by simp)
    clear hsw hcy hEs
    have hWs := hMid.below.size
    gi_wp2
    refine ⟨trivial, ?_⟩
    clear hadd
    gi_wp2_with (gi_at_builtin; refine wpListIn_append_fits _ rfl _ _ 33 rfl w.heap.size 27 i0 1 Tryz.underlying33 hi hz1 w.heap.size pre.length (m + 1) _ rfl ((hMid.row.kept (grownBy_setCell' W (w.heap.size + 1 + 1) (.int .u64 (cy : Int))) (.inr (by simp [Value.ownBlock]; omega))).alloc _) ⟨W.heap.size, 0, none⟩ 1 1 [.int .u64 (sw : Int)] rfl rfl ?c1 ?c2 ?c3 ?_)
    case c1 => exact one_new W _ _ _ _
    case c2 => simp [Value.oneCell']
    case c3 => omega
    intro w1 hown hgrow
    obtain ⟨ho1, hM2, hk2, hp2, hb2⟩ := hMid.step hown hgrow
    have hoc1 := ho1.cell
    have hof1 := ho1.frozen
    have hsz := hMid.size
    have HF := Lib.hid (show KeepsFrom E.heap.size W (w1.setCell ⟨w.heap.size + 1, 0, none⟩ (.slice (some ⟨w.heap.size, 0, none⟩) (pre.length + 1) (m + 1))) ∧ KpP w.heap.size (w.heap.size + 1 + 1 + 1) W (w1.setCell ⟨w.heap.size + 1, 0, none⟩ (.slice (some ⟨w.heap.size, 0, none⟩) (pre.length + 1) (m + 1))) ∧ Mid w (m + 1) (pre ++ [x]).length (words (pre ++ [x]).length (sF (pre ++ [x]) + sG (pre ++ [x]))) (cF (pre ++ [x])) (w1.setCell ⟨w.heap.size + 1, 0, none⟩ (.slice (some ⟨w.heap.size, 0, none⟩) (pre.length + 1) (m + 1))) from
      ⟨hk2.from _, ⟨hb2, hp2 _ (by omega) (by omega), hp2 _ (by omega) (by omega)⟩, by rw [HI.out, HL.out, HC.out]; exact hM2⟩)
    clear hown hgrow hM2 hk2 hp2 hb2 ho1 hoc hof hcc hcf hMid
    gi_wp2
    exact HF.out
  case done =>
    rintro D ys W hD hys hMid hK
    have HK := Lib.hid hK
    have hys2 := Lib.hid hys
    have hlen : ys.length = m := by rw [hys, upto_length]
    have hS : sF ys + sG ys = natOf a + natOf b := by have := Hm.out; rw [hys, sF_upto a b ha hb m (by omega), sG_upto a b ha hb m (by omega)]
    clear hys hK
    have hoc := hMid.out.cell
    have hcc := hMid.carry.cell
    have hrow := hMid.row
    rw [hlen] at hoc hrow
    have HM3 := Lib.hid hMid
    have Hlen := Lib.hid hlen
    have HS := Lib.hid hS
    clear hEs hMid hlen hS
    gi_wp2_with (gi_at_builtin; refine wpListIn_append_fits _ rfl _ _ 33 rfl w.heap.size 27 i0 1 Tryz.underlying33 hi hz1 w.heap.size m (m + 1) _ rfl (hrow.alloc _) ⟨W.heap.size, 0, none⟩ 1 1 [.int .u64 (cF ys : Int)] rfl rfl ?c1 ?c2 ?c3 ?_)
    case c1 => exact cell_one_new _ _ _
    case c2 => simp [Value.oneCell']
    case c3 => omega
    intro w1 hown hgrow
    have e1 : ints .u64 (words m (sF ys + sG ys)) ++ [.int .u64 (cF ys : Int)] = ints .u64 (words (m + 1) (natOf a + natOf b)) := by
      have := words_sum_end ys
      rw [Hlen.out] at this
      rw [← HS.out, ← this, ints_append]
      rfl
    rw [e1] at hown
    have hN : natOf a + natOf b < 18446744073709551616 ^ (m + 1) := by
      have h1 := sF_lt ys
      have h2 := sG_lt ys
      rw [← HS.out, Nat.pow_succ]
      rw [Hlen.out] at h1 h2
      omega
    have HT := Lib.hid (trim_own w1 w.heap.size (m + 1) (m + 1) _ _ hown hN (by omega) (Nat.le_refl _))
    have hD2 : w.heap.size + 5 ≤ D := by have := HEs.out; omega
    have hDW := (Array.getElem?_eq_some_iff.1 HK.out).1
    have hK1 : w1.heap[D]? = some (.deferred (some [])) := (hgrow.block D (by simp; omega) (by simp; omega)).trans ((Below.heap_alloc W _ D hDW).trans HK.out)
    have hb1 : Below w.heap.size w w1 := HM3.out.below.trans (((Below.refl _ W).alloc (by have := HM3.out.size; omega) _).grown hgrow (by simp; have := HM3.out.size; omega) (fun q e => by cases e; exact Nat.le_refl _))
    have HP := Lib.hid (show (w1.putObj D (.deferred none)).ownsRow w.heap.size 27 1 (.slice (some ⟨w.heap.size, 0, none⟩) ((nbits (natOf a + natOf b) + 63) / 64) (m + 1)) ((nbits (natOf a + natOf b) + 63) / 64) (ints .u64 (wd (natOf a + natOf b))) ∧ Below w.heap.size w (w1.putObj D (.deferred none)) from
      ⟨ownsRow_putObj (own_trim hown hN) _ hK1 rfl, hb1.trans (belowK_b (w := w) (Nat.le_refl _) w1 D _ _ (by omega) hK1 rfl rfl)⟩)
    have HK1 := Lib.hid hK1
    clear e1 hN hown hgrow hb1 hrow hoc hcc hK1
    gi_wp2
    refine ⟨trivial, ?_⟩
    refine (callsIn_wide.2 HT.out).mono ?_
    rintro e w' ⟨rfl, rfl⟩
    gi_wp2
    refine ⟨by simp, .inl ⟨_, _, rfl, run_takeDeferred HK1.out, ?_⟩⟩
    exact ⟨_, results_tmp (t := 4) rfl _ _ _, _, rfl, HP.out.1, HP.out.2⟩
  case stop =>
    rintro D c pre W _ _ h _
    exact h.elim
/-- trimmed, in the words of the number. -/
theorem trimmed_wd (A : Option Addr) (c : Nat) (a : List Nat) (w : World) (hr : Rd .u64 w w.heap.size A a) (hw : Words a) (hl : a.length ≤ 100000) (hc : a.length ≤ c) :
    (Calls Tryz.prog 40 #[.slice A a.length c] w fun e w' => e = .returned (.slice A (wd (natOf a)).length c) ∧ w = w') ∧ Rd .u64 w w.heap.size A (wd (natOf a)) ∧ (wd (natOf a)).length ≤ 100000 ∧ (wd (natOf a)).length ≤ c := by
  have h1 := tl_le a hw
  have e : (wd (natOf a)).length = tl a := length_wd _
  refine ⟨?_, ?_, by omega, by omega⟩
  · rw [e]
    exact trimmed_any A c a w w.heap.size hr hw (by omega) hc
  · have := hr.take (tl a)
    rwa [take_wd a hw] at this
theorem add_pf (A A2 : Option Addr) (c c2 : Nat) (a b : List Nat) (w : World) (hr : Rd .u64 w w.heap.size A a) (hw : Words a) (hl : a.length ≤ 100000) (hc : a.length ≤ c) (hr2 : Rd .u64 w w.heap.size A2 b) (hw2 : Words b) (hl2 : b.length ≤ 100000) (hc2 : b.length ≤ c2) :
    Calls Tryz.prog 38 #[.slice A a.length c, .slice A2 b.length c2] w (OutNat (natOf a + natOf b) w) := by
  obtain ⟨t1, r1, l1, _⟩ := trimmed_wd A c a w hr hw hl hc
  obtain ⟨t2, r2, l2, _⟩ := trimmed_wd A2 c2 b w hr2 hw2 hl2 hc2
  have h := add_core A A2 a.length b.length c c2 (wd (natOf a)) (wd (natOf b)) (wd_words _) (wd_words _) l1 l2 w r1 r2 (Lib.hid t1) (Lib.hid t2)
  rwa [natOf_wd, natOf_wd] at h
end Go.Proofs.YtjpfcdgaepdcdaaGreat
/- nat.Sub: what is left, in new memory, or nothing. Conditions: as typed (lengths that fit a machine). -/
namespace Go.Proofs.YtjpfcdgaepdcdaaGreat
open Go.RowKit Go.Shelf
set_option maxRecDepth 20000
attribute [local go_sem] Oper.semAt_some
/-- What is left of so many words, one in front being lent. -/
def dF (pre : List WP) : Nat := sF pre + 18446744073709551616 ^ pre.length - sG pre
def bF (pre : List WP) : Nat := if sF pre < sG pre then 1 else 0
theorem bF_le (pre : List WP) : bF pre ≤ 1 := by unfold bF; split <;> omega
theorem bF_nil : bF [] = 0 := by simp [bF, sF, sG, natOf]
theorem dF_div (pre : List WP) : dF pre / 18446744073709551616 ^ pre.length = 1 - bF pre := by
  have h1 := sF_lt pre
  have h2 := sG_lt pre
  unfold dF bF
  generalize 18446744073709551616 ^ pre.length = p at *
  by_cases h : sF pre < sG pre
  · rw [if_pos h, Nat.div_eq_of_lt (by omega)]
  · rw [if_neg h, show sF pre + p - sG pre = (sF pre - sG pre) + p * 1 by omega, Nat.add_mul_div_left _ _ (by omega), Nat.div_eq_of_lt (by omega)]
theorem dF_snoc (pre : List WP) (x : WP) : dF (pre ++ [x]) = dF pre + 18446744073709551616 ^ pre.length * (x.1.1 + 18446744073709551616 - x.1.2 - 1) := by
  have h2 := sG_lt pre
  obtain ⟨hx, hy⟩ := x.2
  unfold dF
  rw [sF_snoc, sG_snoc, List.length_append, List.length_singleton, Nat.pow_succ]
  generalize 18446744073709551616 ^ pre.length = p at *
  obtain ⟨t, ht⟩ : ∃ t, x.1.1 + 18446744073709551616 = x.1.2 + 1 + t := ⟨x.1.1 + 18446744073709551616 - (x.1.2 + 1), by omega⟩
  have h3 : p * (x.1.1 + 18446744073709551616) = p * (x.1.2 + 1 + t) := by rw [ht]
  rw [show x.1.1 + 18446744073709551616 - x.1.2 - 1 = t by omega]
  simp only [Nat.mul_add, Nat.mul_one] at h3
  omega
theorem words_rest_snoc (pre : List WP) (x : WP) : words (pre.length + 1) (dF (pre ++ [x])) = words pre.length (dF pre) ++ [(x.1.1 + 18446744073709551616 - x.1.2 - bF pre) % 18446744073709551616] := by
  obtain ⟨hx, hy⟩ := x.2
  have := bF_le pre
  rw [words_snoc, dF_snoc, words_low, Nat.add_mul_div_left _ _ (Nat.pow_pos (by omega)), dF_div]
  congr 3
  omega
theorem bF_snoc (pre : List WP) (x : WP) : bF (pre ++ [x]) = if x.1.1 < x.1.2 + bF pre then 1 else 0 := by
  have h1 := sF_lt pre
  have h2 := sG_lt pre
  unfold bF
  rw [sF_snoc, sG_snoc]
  generalize 18446744073709551616 ^ pre.length = p at *
  generalize sF pre = u at *
  generalize sG pre = v at *
  generalize x.1.1 = x1 at *
  generalize x.1.2 = y1 at *
  rcases Nat.lt_trichotomy x1 y1 with h | h | h
  · have h3 : p * (x1 + 1) ≤ p * y1 := Nat.mul_le_mul_left _ h
    rw [Nat.mul_add, Nat.mul_one] at h3
    rw [if_pos (by omega), if_pos (by omega)]
  · subst h
    by_cases huv : u < v
    · rw [if_pos (by omega), if_pos huv, if_pos (by omega)]
    · rw [if_neg (by omega), if_neg huv, if_neg (by omega)]
  · have h3 : p * (y1 + 1) ≤ p * x1 := Nat.mul_le_mul_left _ h
    rw [Nat.mul_add, Nat.mul_one] at h3
    rw [if_neg (by omega)]
    by_cases huv : u < v
    · rw [if_pos huv, if_neg (by omega)]
    · rw [if_neg huv, if_neg (by omega)]
theorem words_rest_end (pre : List WP) (h : sG pre ≤ sF pre) : words pre.length (dF pre) = words pre.length (sF pre - sG pre) := by
  have := words_low pre.length (sF pre - sG pre) 1
  rw [← this]
  unfold dF
  congr 1
  omega
/-- The model's own entry for math/bits.Sub64. -/
theorem sub64_run (x y b : Nat) (hb : b ≤ 1) (w : World) :
    (callFunc 73 #[.int .u64 x, .int .u64 y, .int .u64 b]).run Tryz.prog w =
      .ok (.value (.tuple #[.int .u64 (((x + 18446744073709551616 - y - b) % 18446744073709551616 : Nat) : Int), .int .u64 ((if x < y + b then 1 else 0 : Nat) : Int)])) w := by
  rw [run_callFunc_extern Tryz.func73 (by kernel_rfl) (by kernel_rfl) (by kernel_rfl) (e := sub64Entry) (by kernel_rfl), run_sub64 x y b hb]
  rfl
set_option maxRecDepth 100000 in
set_option maxHeartbeats 2000000 in
theorem sub_core (A A2 : Option Addr) (n0 n1 c c2 : Nat) (a b : List Nat) (ha : Words a) (hb : Words b) (hla : a.length ≤ 100000) (hlb : b.length ≤ 100000) (w : World) (hra : Rd .u64 w w.heap.size A a) (hrb : Rd .u64 w w.heap.size A2 b)
    (T1 : Hid (Calls Tryz.prog 40 #[.slice A n0 c] w fun e w' => e = .returned (.slice A a.length c) ∧ w = w'))
    (T2 : Hid (Calls Tryz.prog 40 #[.slice A2 n1 c2] w fun e w' => e = .returned (.slice A2 b.length c2) ∧ w = w')) :
    Calls Tryz.prog 48 #[.slice A n0 c, .slice A2 n1 c2] w (OutSub (natOf a) (natOf b) w) := by
  obtain ⟨m, hm⟩ : ∃ m, m = max a.length b.length := ⟨_, rfl⟩
  have hm2 : m ≤ 100000 := by omega
  have HM := Lib.hid (show max (a.length : Int) (b.length : Int) = (m : Int) by omega)
  have Hm := Lib.hid hm
  clear hm
  refine (callsIn_wide (n := 9)).1 ?_
  refine callsIn_of_wp_marks Tryz.func48 rfl trivial ?_ rfl
  simp only [Tryz.ntmps48, List.size_toArray, List.length_cons, List.length_nil, Nat.reduceAdd, Nat.reduceSub, Array.replicate_succ, Array.replicate_zero, List.push_toArray, List.append_toArray, List.nil_append, List.cons_append]
  have hmk : ∀ u : World, (Instr.makeSlice 33 (.int .i64 0) (.int .i64 (max (a.length : Int) (b.length : Int)))).run Tryz.prog u =
      .ok (.slice (some ⟨u.heap.size, 0, none⟩) 0 m) (u.alloc (.cells (List.replicate m (Value.int .u64 0)).toArray 27)) := fun u => by
    rw [HM.out]
    exact make_words m u (by omega)
  have hx0 : 0 ≤ max (a.length : Int) (b.length : Int) := by omega
  have hx1 : max (a.length : Int) (b.length : Int) ≤ 100000 := by omega
  gi_wp2
  refine ⟨trivial, ?_⟩
  refine (callsIn_wide.2 T1.out).mono ?_
  rintro e w' ⟨rfl, rfl⟩
  gi_wp2
  refine ⟨trivial, ?_⟩
  refine (callsIn_wide.2 T2.out).mono ?_
  rintro e w' ⟨rfl, rfl⟩
  gi_wp2
  refine ⟨trivial, ?_⟩
  refine (pairs_in _ _ _ _ _ _ _ _).mono ?_
  rintro e w' ⟨rfl, rfl⟩
  have F := starts w m (.slice A a.length c) (.slice A2 b.length c2) (by unfold maxLen; omega)
  obtain ⟨E, hE⟩ : ∃ E, startW w m (.slice A a.length c) (.slice A2 b.length c2) = E := ⟨_, rfl⟩
  rw [hE] at F
  unfold startW at hE
  clear hmk
  gi_wp2
  clear hE
  obtain ⟨i0, hi, hz0, hz1, hz2⟩ := info_parts num_info_u64
  have hEs := F.size
  have HEs := Lib.hid hEs
  refine wpIn_rangeFunc_ownG rfl (by omega) (gf := 103) (lb := #[.pointer (some ⟨w.heap.size + 1 + 1 + 1, 0, none⟩), .pointer (some ⟨w.heap.size + 1 + 1 + 1 + 1, 0, none⟩)]) rfl trivial (enters_of Tryz.func103 (by kernel_rfl) rfl)
    (pairs_stops 8 (by omega) (w.heap.size + 1 + 1 + 1) w.heap.size A A2 a b ha hb c c2 m (by omega) (by omega) Hm.out E F.va F.vb (by omega) (hra.below F.below) (hrb.below F.below))
    KpP.t (KpP.b (by omega) (by omega)) (Below.refl _ _) (fun _ => rfl)
    (fun pre W => Mid w m pre.length (words pre.length (dF pre)) (bF pre) W)
    (fun _ _ _ => False)
    (fun s X Y row hs hg hr => hs.kept hg (fun r e => by have := (hr r e).1; omega))
    (fun _ _ _ _ _ hs _ _ => hs)
    ⟨by simpa [words, ints] using F.row, F.out, by rw [bF_nil]; exact F.carry, F.below, by omega⟩
    (fun x => { tmps := #[.slice A a.length c, .slice A2 b.length c2, undef, undef, .slice none 0 0, .bool false, .pointer (some ⟨w.heap.size + 1, 0, none⟩), .pointer (some ⟨w.heap.size + 1 + 1, 0, none⟩), .int .u64 (x.1.1 : Int), .int .u64 (x.1.2 : Int), .slice A n0 c,
      .slice A a.length c, .slice A2 n1 c2, .slice A2 b.length c2, .slice A a.length c, .int .i64 (a.length : Int), .slice A2 b.length c2, .int .i64 (b.length : Int), .int .i64 (max (a.length : Int) (b.length : Int)),
      .slice (some ⟨w.heap.size, 0, none⟩) 0 m, .slice A a.length c, .slice A2 b.length c2, .func (.func 103) #[] #[.pointer (some ⟨w.heap.size + 1 + 1 + 1, 0, none⟩), .pointer (some ⟨w.heap.size + 1 + 1 + 1 + 1, 0, none⟩)],
      .int .u64 (x.1.1 : Int), .int .u64 (x.1.2 : Int), undef, undef, undef, undef, undef, undef, undef, undef, undef, undef, undef, undef, undef, undef, undef], defers := [] }) ?assign ?body ?done ?stop
  case assign =>
    intro l x W K hK
    gi_wp2
    exact hK
  case body =>
    rintro l pre x W hMid hlt
    have hoc := hMid.out.cell
    have hof := hMid.out.frozen
    have hcc := hMid.carry.cell
    have hcf := hMid.carry.frozen
    have hadd := sub64_run x.1.1 x.1.2 (bF pre) (bF_le pre)
    obtain ⟨sw, hsw⟩ : ∃ sw, sw = (x.1.1 + 18446744073709551616 - x.1.2 - bF pre) % 18446744073709551616 := ⟨_, rfl⟩
    obtain ⟨cy, hcy⟩ : ∃ cy, cy = (if x.1.1 < x.1.2 + bF pre then 1 else 0 : Nat) := ⟨_, rfl⟩
    rw [← hsw, ← hcy] at hadd
    have HI := Lib.hid (show words (pre ++ [x]).length (dF (pre ++ [x])) = words pre.length (dF pre) ++ [sw] by rw [List.length_append, List.length_singleton, words_rest_snoc, hsw])
    have HC := Lib.hid (show bF (pre ++ [x]) = cy by rw [bF_snoc, hcy])
    have HL := Lib.hid (show (pre ++ [x]).length = pre.length + 1 by simp)
    clear hsw hcy hEs
    have hWs := hMid.below.size
    gi_wp2
    refine ⟨trivial, ?_⟩
    clear hadd
    gi_wp2_with (gi_at_builtin; refine wpListIn_append_fits _ rfl _ _ 33 rfl w.heap.size 27 i0 1 Tryz.underlying33 hi hz1 w.heap.size pre.length m _ rfl ((hMid.row.kept (grownBy_setCell' W (w.heap.size + 1 + 1) (.int .u64 (cy : Int))) (.inr (by simp [Value.ownBlock]; omega))).alloc _) ⟨W.heap.size, 0, none⟩ 1 1 [.int .u64 (sw : Int)] rfl rfl ?c1 ?c2 ?c3 ?_)
    case c1 => exact one_new W _ _ _ _
    case c2 => simp [Value.oneCell']
    case c3 => omega
    intro w1 hown hgrow
    obtain ⟨ho1, hM2, hk2, hp2, hb2⟩ := hMid.step hown hgrow
    have hoc1 := ho1.cell
    have hof1 := ho1.frozen
    have hsz := hMid.size
    have HF := Lib.hid (show KeepsFrom E.heap.size W (w1.setCell ⟨w.heap.size + 1, 0, none⟩ (.slice (some ⟨w.heap.size, 0, none⟩) (pre.length + 1) m)) ∧ KpP w.heap.size (w.heap.size + 1 + 1 + 1) W (w1.setCell ⟨w.heap.size + 1, 0, none⟩ (.slice (some ⟨w.heap.size, 0, none⟩) (pre.length + 1) m)) ∧ Mid w m (pre ++ [x]).length (words (pre ++ [x]).length (dF (pre ++ [x]))) (bF (pre ++ [x])) (w1.setCell ⟨w.heap.size + 1, 0, none⟩ (.slice (some ⟨w.heap.size, 0, none⟩) (pre.length + 1) m)) from
      ⟨hk2.from _, ⟨hb2, hp2 _ (by omega) (by omega), hp2 _ (by omega) (by omega)⟩, by rw [HI.out, HL.out, HC.out]; exact hM2⟩)
    clear hown hgrow hM2 hk2 hp2 hb2 ho1 hoc hof hcc hcf hMid
    gi_wp2
    exact HF.out
  case done =>
    rintro D ys W hD hys hMid hK
    have HK := Lib.hid hK
    have hlen : ys.length = m := by rw [hys, upto_length]
    have hA : sF ys = natOf a := by have := Hm.out; rw [hys, sF_upto a b ha hb m (by omega)]
    have hB : sG ys = natOf b := by have := Hm.out; rw [hys, sG_upto a b ha hb m (by omega)]
    clear hys hK
    have hoc := hMid.out.cell
    have hcc := hMid.carry.cell
    have hrow := hMid.row
    have hD2 : w.heap.size + 5 ≤ D := by have := HEs.out; omega
    have hDW := (Array.getElem?_eq_some_iff.1 HK.out).1
    have HB := Lib.hid (show Below w.heap.size w (W.putObj D (.deferred none)) from hMid.below.trans (belowK_b (w := w) (Nat.le_refl _) W D _ _ (by omega) HK.out rfl rfl))
    rw [hlen] at hoc hrow
    by_cases hlt : natOf a < natOf b
    · have hb1 : bF ys = 1 := by unfold bF; rw [hA, hB, if_pos hlt]
      rw [hb1] at hcc
      clear hEs hMid hlen hA hB hb1 hrow
      gi_wp2
      refine ⟨by simp, .inl ⟨_, _, rfl, run_takeDeferred HK.out, ?_⟩⟩
      exact ⟨_, results_tmp2 (t := 4) (u := 5) rfl _ _ _, (fun h => absurd h (by omega)), (fun _ => ⟨none, 0, rfl⟩), HB.out⟩
    · have hb1 : bF ys = 0 := by unfold bF; rw [hA, hB, if_neg hlt]
      rw [hb1] at hcc
      have e1 := words_rest_end ys (by omega)
      rw [hlen, hA, hB] at e1
      have hN : natOf a - natOf b < 18446744073709551616 ^ m := by
        have h1 := sF_lt ys
        rw [hlen, hA] at h1
        omega
      rw [e1] at hrow
      have HT := Lib.hid (trim_own W w.heap.size m m _ _ hrow hN (by omega) (Nat.le_refl _))
      have HP := Lib.hid (ownsRow_putObj (own_trim hrow hN) (.deferred none) HK.out rfl)
      clear hEs hMid hlen hA hB hb1 hrow e1 hN
      gi_wp2
      refine ⟨trivial, ?_⟩
      refine (callsIn_wide.2 HT.out).mono ?_
      rintro e w' ⟨rfl, rfl⟩
      gi_wp2
      refine ⟨by simp, .inl ⟨_, _, rfl, run_takeDeferred HK.out, ?_⟩⟩
      exact ⟨_, results_tmp2 (t := 4) (u := 5) rfl _ _ _, (fun _ => ⟨_, rfl, HP.out⟩), (fun h => absurd h hlt), HB.out⟩
  case stop =>
    rintro D c pre W _ _ h _
    exact h.elim
theorem sub_pf (A A2 : Option Addr) (c c2 : Nat) (a b : List Nat) (w : World) (hr : Rd .u64 w w.heap.size A a) (hw : Words a) (hl : a.length ≤ 100000) (hc : a.length ≤ c) (hr2 : Rd .u64 w w.heap.size A2 b) (hw2 : Words b) (hl2 : b.length ≤ 100000) (hc2 : b.length ≤ c2) :
    Calls Tryz.prog 48 #[.slice A a.length c, .slice A2 b.length c2] w (OutSub (natOf a) (natOf b) w) := by
  obtain ⟨t1, r1, l1, _⟩ := trimmed_wd A c a w hr hw hl hc
  obtain ⟨t2, r2, l2, _⟩ := trimmed_wd A2 c2 b w hr2 hw2 hl2 hc2
  have h := sub_core A A2 a.length b.length c c2 (wd (natOf a)) (wd (natOf b)) (wd_words _) (wd_words _) l1 l2 w r1 r2 (Lib.hid t1) (Lib.hid t2)
  rwa [natOf_wd, natOf_wd] at h
end Go.Proofs.YtjpfcdgaepdcdaaGreat
/- nat.Cmp: which is the lesser number. Conditions: as typed (lengths that fit a machine). -/
namespace Go.Proofs.YtjpfcdgaepdcdaaGreat
open Go.RowKit Go.Shelf
set_option maxRecDepth 20000
attribute [local go_sem] Oper.semAt_some
/-- A place and a word. -/
abbrev WI (n : Nat) := { p : Nat × Nat // p.1 < n ∧ p.2 < 18446744073709551616 }
/-- What comes in round k: the words from the last on. -/
def backAt (a : List Nat) (ha : Words a) (n k : Nat) (h : k < n) : WI n := ⟨(n - 1 - k, nth a (n - 1 - k)), by omega, nth_lt a ha _⟩
def backs (a : List Nat) (ha : Words a) (n : Nat) : Nat → List (WI n)
  | 0 => []
  | k + 1 => if h : k < n then backs a ha n k ++ [backAt a ha n k h] else backs a ha n k
theorem backs_succ (a : List Nat) (ha : Words a) (n k : Nat) (h : k < n) : backs a ha n (k + 1) = backs a ha n k ++ [backAt a ha n k h] := by rw [backs, dif_pos h]
theorem backs_length (a : List Nat) (ha : Words a) (n k : Nat) (h : k ≤ n) : (backs a ha n k).length = k := by
  induction k with
  | zero => rfl
  | succ k ih => rw [backs_succ a ha n k (by omega)]; simp [ih (by omega)]
theorem mem_backs (a : List Nat) (ha : Words a) (n k j : Nat) (hk : k ≤ n) (hj : j < k) : backAt a ha n j (by omega) ∈ backs a ha n k := by
  induction k with
  | zero => omega
  | succ k ih =>
    rw [backs_succ a ha n k (by omega)]
    rcases Nat.lt_or_ge j k with h | h
    · exact List.mem_append.2 (.inl (ih (by omega) h))
    · obtain rfl : j = k := by omega
      simp
set_option maxRecDepth 100000 in
set_option maxHeartbeats 2000000 in
theorem back1_in (n : Nat) (hn : 1 ≤ n) (l p n₀ : Nat) (A : Option Addr) (a : List Nat) (ha : Words a) (c : Nat) (hla : a.length ≤ 1000000) (J Jx : List (WI a.length) → World → Prop) (W : World)
    (hY : ∀ pre x W, J pre W → pre.length < a.length → YieldAt Fence.wide (n - 1) Tryz.prog l #[.int .i64 (x.1.1 : Int), .int .u64 (x.1.2 : Int)] W fun e W' =>
      (e = .returned (.bool true) ∧ J (pre ++ [x]) W' ∧ Below n₀ W W') ∨ (e = .returned (.bool false) ∧ Jx (pre ++ [x]) W'))
    (hp : Boxed W p 33 (.slice A a.length c)) (hpn : p < n₀) (hra : Rd .u64 W n₀ A a) (h0 : J [] W) :
    CallsIn Fence.wide n Tryz.prog 69 #[.func (.yield l) #[] #[], .pointer (some ⟨p, 0, none⟩)] W fun e W' => (∃ v, e = .returned v) ∧
      ((∃ ys, ys = backs a ha a.length a.length ∧ J ys W') ∨ (∃ pre, (∃ k, k ≤ a.length ∧ pre = backs a ha a.length k) ∧ Jx pre W')) := by
  have hpc := hp.cell
  refine callsIn_of_wp Tryz.func69 rfl trivial ?_ rfl
  simp only [Tryz.ntmps69, List.size_toArray, List.length_cons, List.length_nil, Nat.reduceAdd, Nat.reduceSub, Array.replicate_succ, Array.replicate_zero, List.push_toArray, List.append_toArray, List.nil_append, List.cons_append]
  gi_wp2
  gi_loopw [3] (fun i wr => ∃ k : Nat, k ≤ a.length ∧ i = .int .i64 ((k : Int) - 1) ∧ J (backs a ha a.length (a.length - k)) wr ∧ Below n₀ W wr) (fun i _ => (intOf i + 1).toNat)
  case atStart => exact ⟨a.length, Nat.le_refl _, rfl, by simpa [backs] using h0, Below.refl _ _⟩
  case round =>
    obtain ⟨k, hk, rfl, hJs, hkp⟩ := hrel
    by_cases hlt : 0 < k
    · obtain ⟨i, rfl⟩ : ∃ i, k = i + 1 := ⟨k - 1, by omega⟩
      have hpc1 : wr.cell? ⟨p, 0, none⟩ = some (.slice A a.length c) := (hkp.cell (p := ⟨p, 0, none⟩) hpn).trans hpc
      obtain ⟨b, off, rfl, hb, hcell⟩ := hra.below hkp (by omega)
      have hx := hcell i (by omega)
      clear hcell
      have hY1 := hY (backs a ha a.length (a.length - (i + 1))) (backAt a ha a.length (a.length - (i + 1)) (by omega)) wr hJs (by rw [backs_length _ _ _ _ (by omega)]; omega)
      have e0 : a.length - 1 - (a.length - (i + 1)) = i := by omega
      have hY2 : YieldAt Fence.wide (n - 1) Tryz.prog l #[.int .i64 (i : Int), .int .u64 (nth a i : Int)] wr fun e W' =>
          (e = .returned (.bool true) ∧ J (backs a ha a.length (a.length - i)) W' ∧ Below n₀ wr W') ∨ (e = .returned (.bool false) ∧ Jx (backs a ha a.length (a.length - i)) W') := by
        have e1 : backs a ha a.length (a.length - i) = backs a ha a.length (a.length - (i + 1)) ++ [backAt a ha a.length (a.length - (i + 1)) (by omega)] := by
          rw [← backs_succ]
          congr 1
          omega
        rw [e1]
        unfold backAt at hY1 ⊢
        simp only [e0] at hY1 ⊢
        exact hY1
      obtain ⟨fn, tmps, assign, body, hy, hR⟩ := hY2
      clear hY1 e0 hpc
      rw [show ((i + 1 : Nat) : Int) - 1 = (i : Int) by omega]
      gi_wp2
      refine hR.mono ?_
      rintro e W3 (⟨rfl, hJ3, hk3⟩ | ⟨rfl, hJx3⟩)
      · gi_wp2
        go_roundw
        case rel => exact ⟨i, by omega, rfl, hJ3, hkp.trans hk3⟩
        case measure => simp [intOf] <;> omega
      · gi_wp2
        refine bodyPost_ret (results_none rfl _ _ _) rfl ?_
        exact ⟨⟨_, rfl⟩, .inr ⟨_, ⟨a.length - i, by omega, rfl⟩, hJx3⟩⟩
    · obtain rfl : k = 0 := by omega
      gi_wp2
      go_end0
      exact ⟨⟨_, rfl⟩, .inl ⟨_, rfl, hJs⟩⟩
set_option maxHeartbeats 1000000 in
theorem back_in (n : Nat) (A : Option Addr) (na c : Nat) (w : World) :
    CallsIn Fence.wide n Tryz.prog 42 #[.slice A na c] w fun e w' =>
      e = .returned (.func (.func 69) #[] #[.pointer (some ⟨w.heap.size, 0, none⟩)]) ∧ w.alloc (.cells #[.slice A na c] 33) = w' := by
  refine callsIn_of_wp Tryz.func42 rfl trivial ?_ rfl
  simp only [Tryz.ntmps42, List.size_toArray, List.length_cons, List.length_nil, Nat.reduceAdd, Nat.reduceSub, Array.replicate_succ, Array.replicate_zero, List.push_toArray, List.append_toArray, List.nil_append, List.cons_append]
  gi_wp2
  go_ret
  exact ⟨rfl, rfl⟩
theorem back_stops (n : Nat) (hn : 1 ≤ n) (p n₀ : Nat) (A : Option Addr) (a : List Nat) (ha : Words a) (c : Nat) (hla : a.length ≤ 1000000)
    (w : World) (hp : Boxed w p 33 (.slice A a.length c)) (hpn : p < n₀) (hn₀ : n₀ ≤ w.heap.size) (hra : Rd .u64 w n₀ A a) :
    SeqStopsK Fence.wide n Tryz.prog 69 #[.pointer (some ⟨p, 0, none⟩)] (fun x : WI a.length => #[Value.int .i64 (x.1.1 : Int), Value.int .u64 (x.1.2 : Int)]) (Below n₀)
      (fun ys => ys = backs a ha a.length a.length) (fun pre => ∃ k, k ≤ a.length ∧ pre = backs a ha a.length k) a.length w := fun l J Jx W hW _ _ hY h0 =>
  back1_in n hn l p n₀ A a ha c hla J Jx W hY ((hW.block p hp.lt).trans hp) hpn (hra.below (hW.mono hn₀)) h0
/-! which is the lesser one -/
theorem cmpS_swap {x y X Y : Nat} (h1 : x < y → X < Y) (h2 : y < x → Y < X) (h3 : x = y → X = Y) : cmpS x y = cmpS X Y := by
  unfold cmpS
  rcases Nat.lt_trichotomy x y with h | h | h
  · rw [if_pos h, if_pos (h1 h)]
  · have := h3 h
    rw [if_neg (by omega), if_neg (by omega), if_neg (by omega), if_neg (by omega)]
  · have := h2 h
    rw [if_neg (by omega), if_pos h, if_neg (by omega), if_pos this]
theorem cmp_len (M N : Nat) (h : (wd M).length ≠ (wd N).length) : cmpS (wd M).length (wd N).length = cmpS M N := by
  rw [length_wd, length_wd] at *
  exact cmpS_swap (fun h1 => less_of_nbits (by omega)) (fun h1 => less_of_nbits (by omega)) (fun h1 => absurd h1 h)
theorem cmp_at (a b : List Nat) (ha : Words a) (hb : Words b) (m : Nat) (h : ∀ j, m + 1 ≤ j → nth a j = nth b j) (hne : nth a m ≠ nth b m) : cmpS (nth a m) (nth b m) = cmpS (natOf a) (natOf b) :=
  cmpS_swap (fun h1 => natOf_less a b ha m h h1) (fun h1 => natOf_less b a hb m (fun j hj => (h j hj).symm) h1) (fun h1 => absurd h1 hne)
end Go.Proofs.YtjpfcdgaepdcdaaGreat
/- nat.Cmp: which is the lesser number. Conditions: as typed (lengths that fit a machine). -/
namespace Go.Proofs.YtjpfcdgaepdcdaaGreat
open Go.RowKit Go.Shelf
set_option maxRecDepth 20000
attribute [local go_sem] Oper.semAt_some
/-- A piece that is left by its end alone. -/
theorem only_end {F : Fence} {n : Nat} {P : Program} {c : Code} {K : Act → World → Prop} {Q : Exit → Act → World → Prop} {a : Act} {w : World} (h : c.wpIn F n P (Exit.then K (fun _ _ _ => False)) a w) : c.wpIn F n P (Exit.then K Q) a w :=
  Go.wpIn_mono h fun e _ _ h => by cases e <;> first | exact h | exact h.elim
/-- Between two rounds: all words that came are the same. -/
structure SameSo {n : Nat} (w : World) (b : List Nat) (vb : Value) (pre : List (WI n)) (W : World) : Prop where
  all : ∀ p ∈ pre, p.1.2 = nth b p.1.1
  box : Boxed W w.heap.size 33 vb
  res : Boxed W (w.heap.size + 1) 3 (.int .i64 0)
  below : Below w.heap.size w W
/-- A round has found two words that differ. -/
structure Differs {n : Nat} (w : World) (b : List Nat) (cd : Code) (pre : List (WI n)) (W : World) : Prop where
  ret : cd = .ret
  at_ : ∃ ini last, pre = ini ++ [last] ∧ (∀ p ∈ ini, p.1.2 = nth b p.1.1) ∧ last.1.2 ≠ nth b last.1.1 ∧ Boxed W (w.heap.size + 1) 3 (.int .i64 (cmpS last.1.2 (nth b last.1.1)))
  below : Below w.heap.size w W
theorem SameSo.kept {n : Nat} {w W W' : World} {b : List Nat} {vb : Value} {pre : List (WI n)} {row : Option Nat} (h : SameSo w b vb pre W) (hg : W.grownBy W' row) (hr : ∀ r, row = some r → w.heap.size + 3 ≤ r) : SameSo w b vb pre W' :=
  ⟨h.all, h.box.kept hg (by intro e; have := hr _ e.symm; omega), h.res.kept hg (by intro e; have := hr _ e.symm; omega), h.below.grown hg h.below.size (fun k e => by have := hr k e; omega)⟩
theorem Differs.kept {n : Nat} {w W W' : World} {b : List Nat} {cd : Code} {pre : List (WI n)} {row : Option Nat} (h : Differs w b cd pre W) (hg : W.grownBy W' row) (hr : ∀ r, row = some r → w.heap.size + 3 ≤ r) : Differs w b cd pre W' := by
  obtain ⟨h1, ⟨ini, last, e1, e2, e3, e4⟩, h3⟩ := h
  exact ⟨h1, ⟨ini, last, e1, e2, e3, e4.kept hg (by intro e; have := hr _ e.symm; omega)⟩, h3.grown hg h3.size (fun k e => by have := hr k e; omega)⟩
theorem same_all (a b : List Nat) (ha : Words a) (hl : a.length = b.length) (h : ∀ p ∈ backs a ha a.length a.length, p.1.2 = nth b p.1.1) : natOf a = natOf b := by
  refine natOf_ext _ _ fun j => ?_
  rcases Nat.lt_or_ge j a.length with hj | hj
  · have := h _ (mem_backs a ha a.length a.length (a.length - 1 - j) (Nat.le_refl _) (by omega))
    simp only [backAt, show a.length - 1 - (a.length - 1 - j) = j by omega] at this
    exact this
  · rw [nth_past a j hj, nth_past b j (by omega)]
theorem differ_at (a b : List Nat) (ha : Words a) (hb : Words b) (hl : a.length = b.length) (k : Nat) (hk : k ≤ a.length) (ini : List (WI a.length)) (last : WI a.length) (e1 : backs a ha a.length k = ini ++ [last]) (e2 : ∀ p ∈ ini, p.1.2 = nth b p.1.1) (e3 : last.1.2 ≠ nth b last.1.1) :
    cmpS last.1.2 (nth b last.1.1) = cmpS (natOf a) (natOf b) := by
  rcases k with _ | k
  · simp [backs] at e1
  · have hk' : k < a.length := hk
    rw [backs_succ a ha a.length k hk'] at e1
    obtain ⟨rfl, e5⟩ := List.append_inj' e1 rfl
    obtain rfl : backAt a ha a.length k hk' = last := by simpa using e5
    refine cmp_at a b ha hb (a.length - 1 - k) (fun j hj => ?_) e3
    rcases Nat.lt_or_ge j a.length with hja | hja
    · have := e2 _ (mem_backs a ha a.length k (a.length - 1 - j) (by omega) (by omega))
      simp only [backAt, show a.length - 1 - (a.length - 1 - j) = j by omega] at this
      exact this
    · rw [nth_past a j hja, nth_past b j (by omega)]
set_option maxRecDepth 100000 in
set_option maxHeartbeats 2000000 in
theorem cmp_core (A A2 : Option Addr) (n0 n1 c c2 M N : Nat) (a b : List Nat) (hM : Hid (a = wd M)) (hN : Hid (b = wd N)) (ha : Words a) (hb : Words b) (hla : a.length ≤ 100000) (hlb : b.length ≤ 100000) (w : World) (hra : Rd .u64 w w.heap.size A a) (hrb : Rd .u64 w w.heap.size A2 b)
    (T1 : ∀ u, Below w.heap.size w u → Calls Tryz.prog 40 #[.slice A n0 c] u fun e w' => e = .returned (.slice A a.length c) ∧ u = w')
    (T2 : ∀ u, Below w.heap.size w u → Calls Tryz.prog 40 #[.slice A2 n1 c2] u fun e w' => e = .returned (.slice A2 b.length c2) ∧ u = w') :
    Calls Tryz.prog 21 #[.slice A n0 c, .slice A2 n1 c2] w fun e w' => e = .returned (.int .i64 (cmpS M N)) ∧ Below w.heap.size w w' := by
  have hB2 : Below w.heap.size w ((w.alloc (.cells #[.slice A2 n1 c2] 33)).alloc (.cells #[.int .i64 0] 3)) := ((Below.refl _ w).alloc (Nat.le_refl _) _).alloc (by simp) _
  have T1' := Lib.hid (T1 ((w.alloc (.cells #[.slice A2 n1 c2] 33)).alloc (.cells #[.int .i64 0] 3)).drew (hB2.trans ((Drawn.more 1).below _)))
  have T2' := Lib.hid (T2 ((w.alloc (.cells #[.slice A2 n1 c2] 33)).alloc (.cells #[.int .i64 0] 3)).drew (hB2.trans ((Drawn.more 1).below _)))
  have HB2 := Lib.hid hB2
  clear T1 T2 hB2
  refine (callsIn_wide (n := 9)).1 ?_
  refine callsIn_of_wp_marks Tryz.func21 rfl trivial ?_ rfl
  simp only [Tryz.ntmps21, List.size_toArray, List.length_cons, List.length_nil, Nat.reduceAdd, Nat.reduceSub, Array.replicate_succ, Array.replicate_zero, List.push_toArray, List.append_toArray, List.nil_append, List.cons_append]
  have hmx : Tryz.prog.follows .mixedOrders = true := by kernel_rfl
  gi_wp2
  refine only_end ?_
  gi_region_with_o (first
    | (refine ⟨trivial, ?_⟩; gi_at_call 40; (with_reducible refine (callsIn_wide.2 T1'.out).mono ?_); rintro e w' ⟨rfl, rfl⟩)
    | (refine ⟨trivial, ?_⟩; gi_at_call 40; (with_reducible refine (callsIn_wide.2 T2'.out).mono ?_); rintro e w' ⟨rfl, rfl⟩))
  all_goals
    obtain ⟨E, hE⟩ : ∃ E, ((w.alloc (.cells #[.slice A2 b.length c2] 33)).alloc (.cells #[.int .i64 0] 3)).drew = E := ⟨_, rfl⟩
    have bB : Boxed E w.heap.size 33 (.slice A2 b.length c2) := by rw [← hE]; exact (Boxed.new w 33 (.slice A2 b.length c2)).alloc _
    have bR : Boxed E (w.heap.size + 1) 3 (.int .i64 0) := by
      rw [← hE]
      have h := Boxed.new (w.alloc (.cells #[.slice A2 b.length c2] 33)) 3 (.int .i64 0)
      rw [World.size_alloc] at h
      exact h
    have hEB : Below w.heap.size w E := by rw [← hE]; exact (((Below.refl _ w).alloc (Nat.le_refl _) _).alloc (by simp) _).trans ((Drawn.more 1).below _)
    have hEs : E.heap.size = w.heap.size + 2 := by rw [← hE]; simp
    rw [hE]
    clear hE T1' T2' HB2
    have hbc := bB.cell
    have hbf := bB.frozen
    have hrc := bR.cell
    have hrf := bR.frozen
    have HEs := Lib.hid hEs
    clear hEs
    by_cases hlen : a.length = b.length
    · have hne : ((a.length : Int) != (b.length : Int)) = false := by simp; omega
      have HL := Lib.hid hlen
      clear hlen
      gi_wp2
      refine ⟨trivial, ?_⟩
      refine (back_in _ _ _ _ _).mono ?_
      rintro e w' ⟨rfl, rfl⟩
      have bA := Boxed.new E 33 (.slice A a.length c)
      rw [HEs.out] at bA
      obtain ⟨E2, hE2⟩ : ∃ E2, E.alloc (.cells #[.slice A a.length c] 33) = E2 := ⟨_, rfl⟩
      have bB2 := bB.alloc (.cells #[.slice A a.length c] 33)
      have bR2 := bR.alloc (.cells #[.slice A a.length c] 33)
      have hEB2 : Below w.heap.size w (E.alloc (.cells #[.slice A a.length c] 33)) := hEB.alloc hEB.size _
      have hs2 : (E.alloc (.cells #[.slice A a.length c] 33)).heap.size = w.heap.size + 3 := by rw [World.size_alloc, HEs.out]
      rw [hE2] at bA bB2 bR2 hEB2 hs2
      have HS2 := Lib.hid hs2
      clear hs2 hbc hbf hrc hrf bB bR hEB
      rw [HEs.out]
      gi_wp2
      clear hE2
      refine wpIn_rangeFunc_ownG rfl (by omega) (gf := 69) (lb := #[.pointer (some ⟨w.heap.size + 2, 0, none⟩)]) rfl trivial (enters_of Tryz.func69 (by kernel_rfl) rfl)
        (back_stops 8 (by omega) (w.heap.size + 2) (w.heap.size + 3) A a ha c (by omega) E2 bA (by omega) (by rw [HS2.out]; omega) ((hra.below hEB2).more (by omega)))
        belowK_t (belowK_b (by rw [HS2.out]; omega)) (Below.refl _ _) (fun _ => rfl)
        (fun pre W => SameSo w b (.slice A2 b.length c2) pre W)
        (fun cd pre W => Differs w b cd pre W)
        (fun s X Y row hs hg hr => hs.kept hg (fun r e => by have := (hr r e).1; rw [HS2.out] at this; omega))
        (fun cd s X Y row hs hg hr => hs.kept hg (fun r e => by have := (hr r e).1; rw [HS2.out] at this; omega))
        ⟨by simp, bB2, bR2, hEB2⟩
        (fun x => { tmps := #[.slice A a.length c, .slice A2 n1 c2, undef, .pointer (some ⟨w.heap.size, 0, none⟩), .pointer (some ⟨w.heap.size + 1, 0, none⟩), .int .i64 (x.1.1 : Int), .int .u64 (x.1.2 : Int), .slice A n0 c,
          .slice A a.length c, .slice A2 n1 c2, .slice A2 b.length c2, .slice A a.length c, .int .i64 (a.length : Int), .slice A2 b.length c2, .int .i64 (b.length : Int), .bool false, undef, undef, undef, undef, undef, .slice A a.length c,
          .func (.func 69) #[] #[.pointer (some ⟨w.heap.size + 2, 0, none⟩)], .int .i64 (x.1.1 : Int), .int .u64 (x.1.2 : Int), undef, undef, undef, undef, undef, undef, undef, undef, undef, undef, undef, undef], defers := [] }) ?assign ?body ?done ?stop
      case assign =>
        intro l x W K hK
        gi_wp2
        exact hK
      case body =>
        rintro l pre x W hI hlt
        have hi2 : x.1.1 < b.length := by rw [← HL.out]; exact x.2.1
        have hoc := hI.box.cell
        have hrc := hI.res.cell
        have hrf := hI.res.frozen
        obtain ⟨bb, off, rfl, hbb, hcell⟩ := hrb.below hI.below (by omega)
        have hx := hcell x.1.1 hi2
        clear hcell hlt
        by_cases heq : x.1.2 = nth b x.1.1
        · have hne2 : ((x.1.2 : Int) != (nth b x.1.1 : Int)) = false := by simp; omega
          have HQ := Lib.hid heq
          clear heq
          gi_wp2
          exact ⟨KeepsFrom.refl _ _, Below.refl _ _, fun p hp => (List.mem_append.1 hp).elim (hI.all p) (fun e => by simp at e; subst e; exact HQ.out), hI.box, hI.res, hI.below⟩
        · have hne2 : ((x.1.2 : Int) != (nth b x.1.1 : Int)) = true := by simp; omega
          have HQ := Lib.hid heq
          clear heq
          gi_wp2
          refine ⟨trivial, ?_⟩
          refine (CallsIn.inRound l (callsIn_wide.2 (compare_u64 _ _ _))).mono ?_
          rintro e w' ⟨rfl, rfl⟩
          gi_wp2
          exact ⟨(KeepsOthers.setCell _ _ _).from _, rfl, ⟨pre, x, rfl, hI.all, HQ.out, hI.res.set _⟩, hI.below.setCell (p := ⟨w.heap.size + 1, 0, none⟩) (by simp) _⟩
      case done =>
        rintro D ys W hD hys hI hK
        have hval := Lib.hid (show (0 : Int) = cmpS M N by
          have h := hI.all
          rw [hys] at h
          have h2 := same_all a b ha HL.out h
          rw [hM.out, hN.out, natOf_wd, natOf_wd] at h2
          rw [h2]
          simp [cmpS])
        have hrc := hI.res.cell
        have hrf := hI.res.frozen
        have HK := Lib.hid hK
        have HI := Lib.hid hI
        clear hys hK hI
        gi_wp2
        have hc1 := HI.out.res.set (.int .i64 0)
        have hK' := (KeepsOthers.setCell W ⟨w.heap.size + 1, 0, none⟩ (.int .i64 0)).same D _ HK.out rfl
        refine ⟨by simp, .inl ⟨_, _, rfl, run_takeDeferred hK', ?_⟩⟩
        have hc5 := cell_kept hc1.cell (grownBy_putObj' _ D (.deferred none)) (fun r e => by cases e; exact ⟨_, hK', rfl⟩)
        have hDs : w.heap.size ≤ D := by have := HS2.out; omega
        exact ⟨.int .i64 0, by simp [results, Tryz.f21, go_sem, hc5], by rw [← hval.out], (HI.out.below.setCell (p := ⟨w.heap.size + 1, 0, none⟩) (by simp) _).trans (belowK_b (w := w) (Nat.le_refl _) _ D _ _ hDs hK' rfl rfl)⟩
      case stop =>
        rintro D cd pre W hD ⟨k, hk, rfl⟩ hI hK
        obtain ⟨rfl, ⟨ini, last, e1, e2, e3, e4⟩, hB⟩ := hI
        have hval := Lib.hid (show cmpS last.1.2 (nth b last.1.1) = cmpS M N by
          rw [differ_at a b ha hb HL.out k hk ini last e1 e2 e3, hM.out, hN.out, natOf_wd, natOf_wd])
        have E4 := Lib.hid e4
        have HK := Lib.hid hK
        clear e1 e2 e3 e4 hK
        gi_wp2
        refine ⟨by simp, .inl ⟨_, _, rfl, run_takeDeferred HK.out, ?_⟩⟩
        have hc5 := cell_kept E4.out.cell (grownBy_putObj' _ D (.deferred none)) (fun r e => by cases e; exact ⟨_, HK.out, rfl⟩)
        have hDs : w.heap.size ≤ D := by have := HS2.out; omega
        exact ⟨_, by simp [results, Tryz.f21, go_sem, hc5]; rfl, by rw [← hval.out], hB.trans (belowK_b (w := w) (Nat.le_refl _) W D _ _ hDs HK.out rfl rfl)⟩
    · have hne : ((a.length : Int) != (b.length : Int)) = true := by simp; omega
      have hcm := Lib.hid (show cmpS a.length b.length = cmpS M N by have h := hlen; rw [hM.out, hN.out] at h ⊢; exact cmp_len M N h)
      clear hlen
      gi_wp2
      refine ⟨trivial, ?_⟩
      refine (callsIn_wide.2 (compare_int _ _ _)).mono ?_
      rintro e w' ⟨rfl, rfl⟩
      gi_wp2
      have hc5 := (bR.set (.int .i64 (cmpS a.length b.length))).cell
      exact ⟨.int .i64 (cmpS a.length b.length), by simp [results, Tryz.f21, go_sem, hc5], by rw [hcm.out], hEB.setCell (p := ⟨w.heap.size + 1, 0, none⟩) (by simp) _⟩
theorem cmp_pf (A A2 : Option Addr) (c c2 : Nat) (a b : List Nat) (w : World) (hr : Rd .u64 w w.heap.size A a) (hw : Words a) (hl : a.length ≤ 100000) (hc : a.length ≤ c) (hr2 : Rd .u64 w w.heap.size A2 b) (hw2 : Words b) (hl2 : b.length ≤ 100000) (hc2 : b.length ≤ c2) :
    Calls Tryz.prog 21 #[.slice A a.length c, .slice A2 b.length c2] w fun e w' => e = .returned (.int .i64 (cmpS (natOf a) (natOf b))) ∧ Below w.heap.size w w' := by
  obtain ⟨_, r1, l1, _⟩ := trimmed_wd A c a w hr hw hl hc
  obtain ⟨_, r2, l2, _⟩ := trimmed_wd A2 c2 b w hr2 hw2 hl2 hc2
  exact cmp_core A A2 a.length b.length c c2 (natOf a) (natOf b) (wd (natOf a)) (wd (natOf b)) (Lib.hid rfl) (Lib.hid rfl) (wd_words _) (wd_words _) l1 l2 w r1 r2
    (fun u hu => (trimmed_wd A c a u ((hr.below hu).more hu.size) hw hl hc).1) (fun u hu => (trimmed_wd A2 c2 b u ((hr2.below hu).more hu.size) hw2 hl2 hc2).1)
end Go.Proofs.YtjpfcdgaepdcdaaGreat
/- nat.shifted, nat.shift: numbers that are shifted, in new memory. Conditions: as typed (lengths that fit a machine). -/
namespace Go.Proofs.YtjpfcdgaepdcdaaGreat
open Go.RowKit
set_option maxRecDepth 20000
/-- What Go's quotients come to at a shift. -/
theorem shift_nums (k : Int) : ∃ (t q : Int) (r : Nat), r < 64 ∧ k = 64 * q + r ∧ k.tmod 64 = t ∧ -63 ≤ t ∧ t ≤ 63 ∧ (t + 64) % 64 = (r : Int) ∧ (k - r).tdiv 64 = q := by
  have h1 := Int.tmod_add_mul_tdiv k 64
  have h0 : -63 ≤ k.tmod 64 ∧ k.tmod 64 ≤ 63 := by
    rcases Int.le_total 0 k with h | h
    · rw [Int.tmod_eq_emod_of_nonneg h]; omega
    · have e : k.tmod 64 = -((-k).tmod 64) := by rw [Int.neg_tmod]; omega
      rw [e, Int.tmod_eq_emod_of_nonneg (by omega)]; omega
  refine ⟨k.tmod 64, k / 64, (k % 64).toNat, by omega, by omega, rfl, h0.1, h0.2, ?_, ?_⟩
  · omega
  · rw [show k - ((k % 64).toNat : Int) = 64 * (k / 64) by omega, Int.mul_tdiv_cancel_left _ (by omega)]
set_option maxHeartbeats 400000 in
theorem shifted_any (A : Option Addr) (na c : Nat) (k q : Int) (r : Nat) (w : World) (hk0 : -1000000 ≤ k) (hk1 : k ≤ 1000000) (t : Int) (_hr : r < 64) (h1 : k.tmod 64 = t) (h2 : -63 ≤ t) (h3 : t ≤ 63) (h4 : (t + 64) % 64 = (r : Int)) (h5 : (k - r).tdiv 64 = q) (hq0 : -20000 ≤ q) (hq1 : q ≤ 20000) :
    Calls Tryz.prog 127 #[.slice A na c, .int .i64 k] w fun e w' =>
      e = .returned (.func (.func 135) #[] #[.pointer (some ⟨w.heap.size + 2, 0, none⟩), .pointer (some ⟨w.heap.size, 0, none⟩), .pointer (some ⟨w.heap.size + 1, 0, none⟩)]) ∧
      ((w.alloc (.cells #[.slice A na c] 33)).alloc (.cells #[.int .i64 r] 3)).alloc (.cells #[.int .i64 q] 3) = w' := by
  go_enter Tryz.func127, Tryz.ntmps127
  go_wp2
  go_ret
  exact ⟨rfl, rfl⟩
theorem wrap_u64 (x : Int) : IntKind.u64.wrap x = x % 18446744073709551616 := by simp [IntKind.wrap, IntKind.signed, IntKind.bits]
/-- The word at a place after a shift. -/
def shS (a : List Nat) (j : Int) (r : Nat) : Nat := (wordS a j * 2 ^ r % 18446744073709551616) ||| (wordS a (j - 1) / 2 ^ (64 - r))
theorem shS_int (a : List Nat) (ha : Words a) (j : Int) (r : Nat) (_ : r < 64) : bits .or .u64 ((wordS a j : Int) * 2 ^ r % 18446744073709551616) ((wordS a (j - 1) : Int) / 2 ^ (64 - r)) = ((shS a j r : Nat) : Int) := by
  have h1 := wordS_lt a ha (j - 1)
  have e1 : (wordS a j : Int) * 2 ^ r % 18446744073709551616 = ((wordS a j * 2 ^ r % 18446744073709551616 : Nat) : Int) := by simp
  have e2 : (wordS a (j - 1) : Int) / 2 ^ (64 - r) = ((wordS a (j - 1) / 2 ^ (64 - r) : Nat) : Int) := by simp
  rw [e1, e2]
  exact u64_or_nat _ _ (Nat.mod_lt _ (by omega)) (Nat.lt_of_le_of_lt (Nat.div_le_self _ _) h1)
set_option maxHeartbeats 1000000 in
theorem shifted1_any (A : Option Addr) (a : List Nat) (ha : Words a) (c pw pa pr i r : Nat) (q j : Int) (w : World) (B : Nat) (hrd : Rd .u64 w B A a) (hl : a.length ≤ 1000000) (hr : r < 64) (hi : i ≤ 1000000) (hq0 : -20000 ≤ q) (hq1 : q ≤ 20000) (hj : (i : Int) - q = j)
    (cw : w.cell? ⟨pw, 0, none⟩ = some (.int .i64 q)) (ca : w.cell? ⟨pa, 0, none⟩ = some (.slice A a.length c)) (cr : w.cell? ⟨pr, 0, none⟩ = some (.int .i64 (r : Int))) :
    Calls Tryz.prog 135 #[.int .i64 (i : Int), .pointer (some ⟨pw, 0, none⟩), .pointer (some ⟨pa, 0, none⟩), .pointer (some ⟨pr, 0, none⟩)] w fun e w' => e = .returned (.int .u64 (shS a j r : Nat)) ∧ Drawn w w' := by
  have hj0 : -2000000 ≤ j := by omega
  have hj1 : j ≤ 2000000 := by omega
  have s1 : IntKind.i64.wrap (j - 1) = j - 1 := IntWalk.i64_in _ (by omega)
  have s2 : IntKind.i64.wrap (64 - (r : Int)) = 64 - (r : Int) := IntWalk.i64_in _ (by omega)
  have s3 : 0 ≤ 64 - (r : Int) := by omega
  have hv := Lib.hid (shS_int a ha j r hr)
  go_enter Tryz.func135, Tryz.ntmps135
  go_wp2
  go_quiet ((go_at_call 67; exact Calls.quiet_of_same (Calls.mono (word_any _ _ _ _ _ B hrd hl) fun _ _ ⟨he, hw⟩ => ⟨he, hw.symm⟩)))
  go_wp2
  go_ret
  exact ⟨ret_num (by rw [← hv.out, wrap_u64]), Drawn.more _⟩
/-- The lowest i words, and noughts behind them. -/
def wsAt (N K i : Nat) : List Nat := words i N ++ List.replicate (K - i) 0
theorem length_wsAt (N K i : Nat) (h : i ≤ K) : (wsAt N K i).length = K := by simp [wsAt, length_words]; omega
theorem wsAt_zero (N K : Nat) : wsAt N K 0 = List.replicate K 0 := by simp [wsAt, words]
theorem wsAt_end (N K : Nat) : wsAt N K K = words K N := by simp [wsAt]
theorem wsAt_set (N K i : Nat) (h : i < K) : (wsAt N K i).set i (N / 18446744073709551616 ^ i % 18446744073709551616) = wsAt N K (i + 1) := by
  unfold wsAt
  rw [List.set_append_right _ _ (by rw [length_words]; exact Nat.le_refl _), length_words, Nat.sub_self, words_snoc, List.append_assoc]
  congr 1
  obtain ⟨d, hd⟩ : ∃ d, K - i = d + 1 := ⟨K - i - 1, by omega⟩
  rw [hd, show K - (i + 1) = d by omega, List.replicate_succ]
  rfl
theorem make_row (m : Nat) (u : World) (hm : m ≤ 1000000) : (Instr.makeSlice 33 (.int .i64 (m : Int)) (.int .i64 (m : Int))).run Tryz.prog u =
      .ok (.slice (some ⟨u.heap.size, 0, none⟩) m m) (u.alloc (.cells (List.replicate m (Value.int .u64 0)).toArray 27)) := by
  obtain ⟨i0, hi, hz0, hz1, hz2⟩ := info_parts num_info_u64
  have h := run_make (P := Tryz.prog) u 33 27 i0 (.int .u64 0) Tryz.underlying33 hi hz0 .i64 .i64 (m : Int) (m : Int) (by omega) (by omega) (by rw [hz2]; omega) (by omega)
  rw [Int.toNat_natCast, hz1, Nat.mul_one] at h
  rw [h, ← toList_madeCells_one]
  rfl
theorem row_new (w : World) (m : Nat) (hm : m ≤ 1000000) (N : Nat) : (w.alloc (.cells (Array.replicate m (Value.int .u64 0)) 27)).ownsRow w.heap.size 27 1 (.slice (some ⟨w.heap.size, 0, none⟩) m m) m (ints .u64 (wsAt N m 0)) := by
  rw [wsAt_zero]
  exact own_of_heap (cur := List.replicate m (Value.int .u64 0)) (by have h := heap_alloc_new w (.cells (Array.replicate m (Value.int .u64 0)) 27); simpa using h) (Nat.le_refl _) (Nat.le_refl _) (by unfold maxLen; omega) (by simp) (by simp [ints])
set_option maxHeartbeats 1000000 in
theorem shift_core (A : Option Addr) (a : List Nat) (ha : Words a) (c : Nat) (k q t : Int) (r nb N K : Nat) (w : World) (hrd : Rd .u64 w w.heap.size A a) (hl : a.length ≤ 100000) (hc : a.length ≤ c) (hk0 : -100000 ≤ k) (hk1 : k ≤ 100000)
    (hr : r < 64) (h1 : k.tmod 64 = t) (h2 : -63 ≤ t) (h3 : t ≤ 63) (h4 : (t + 64) % 64 = (r : Int)) (h5 : (k - r).tdiv 64 = q) (hq0 : -20000 ≤ q) (hq1 : q ≤ 20000)
    (hz : natOf a ≠ 0) (hnb : (nbits (natOf a) : Int) + k = (nb : Int)) (hnb0 : 0 < nb) (hN : nbits N = nb) (hK : (nb + 64 - 1) / 64 = K) (hw : ∀ i : Nat, shS a ((i : Int) - q) r = N / 18446744073709551616 ^ i % 18446744073709551616) :
    Calls Tryz.prog 107 #[.slice A a.length c, .int .i64 k] w (OutNat N w) := by
  have hsz := nbits_natOf a ha
  have hz2 : 0 < nbits (natOf a) := by
    rcases Nat.eq_zero_or_pos (nbits (natOf a)) with h | h
    · have := nbits_lt (natOf a); rw [h] at this; simp at this; omega
    · exact h
  have hK2 : K ≤ 200000 := by omega
  have Q := Lib.hid (bits_q A c a w w.heap.size hrd ha (by omega) hc)
  have P := parts_any nb 64 w (by omega) (by omega) (by omega)
  rw [hK] at P
  have HP := Lib.hid P
  have hmk := fun u => make_row K u (by omega)
  have SH := fun u => shifted_any A a.length c k q r u (by omega) (by omega) t hr h1 h2 h3 h4 h5 hq0 hq1
  have HSH := Lib.hid SH
  have HN := Lib.hid hN
  have HK := Lib.hid hK
  have HW := Lib.hid hw
  have hb0 : ((nbits (natOf a) : Int) == 0) = false := by simp; omega
  have hb1 : ¬ (nb : Int) ≤ 0 := by omega
  have hb2 : decide (nb = 0) = false := by simp; omega
  clear P SH hw h1 h4 h5 hN hK
  go_enter Tryz.func107, Tryz.ntmps107
  go_wp2_with fail
  refine (Q.out).mono ?_
  rintro e w' ⟨rfl, rfl⟩
  go_wp2_with fail
  refine (HP.out).mono ?_
  rintro e w' ⟨rfl, rfl⟩
  go_wp2_with fail
  refine (HSH.out _).mono ?_
  rintro e w' ⟨rfl, rfl⟩
  have hown0 := row_new w K (by omega) N
  obtain ⟨E, hE⟩ : ∃ E, (((w.alloc (.cells (Array.replicate K (Value.int .u64 0)) 27)).alloc (.cells #[.slice A a.length c] 33)).alloc (.cells #[.int .i64 (r : Int)] 3)).alloc (.cells #[.int .i64 q] 3) = E := ⟨_, rfl⟩
  have hbE : Below w.heap.size w E := by rw [← hE]; exact ((((Below.refl _ w).alloc (Nat.le_refl _) _).alloc (by simp) _).alloc (by simp; omega) _).alloc (by simp; omega) _
  have hownE : E.ownsRow w.heap.size 27 1 (.slice (some ⟨w.heap.size, 0, none⟩) K K) K (ints .u64 (wsAt N K 0)) := by rw [← hE]; exact ((hown0.alloc _).alloc _).alloc _
  have hEs : E.heap.size = w.heap.size + 4 := by rw [← hE]; simp
  have bxA : Boxed E (w.heap.size + 1) 33 (.slice A a.length c) := by
    rw [← hE]
    have h := Boxed.new (w.alloc (.cells (Array.replicate K (Value.int .u64 0)) 27)) 33 (.slice A a.length c)
    rw [World.size_alloc] at h
    exact (h.alloc _).alloc _
  have bxR : Boxed E (w.heap.size + 1 + 1) 3 (.int .i64 (r : Int)) := by
    rw [← hE]
    have h := Boxed.new ((w.alloc (.cells (Array.replicate K (Value.int .u64 0)) 27)).alloc (.cells #[.slice A a.length c] 33)) 3 (.int .i64 (r : Int))
    rw [World.size_alloc, World.size_alloc] at h
    exact h.alloc _
  have bxQ : Boxed E (w.heap.size + 1 + 2) 3 (.int .i64 q) := by
    rw [← hE]
    have h := Boxed.new (((w.alloc (.cells (Array.replicate K (Value.int .u64 0)) 27)).alloc (.cells #[.slice A a.length c] 33)).alloc (.cells #[.int .i64 (r : Int)] 3)) 3 (.int .i64 q)
    rw [World.size_alloc, World.size_alloc, World.size_alloc] at h
    exact h
  have HS := Lib.hid hEs
  clear hown0 hmk hEs
  go_wp2_with fail
  clear hE
  go_loopw [29] (fun j wr => ∃ i : Nat, i ≤ K ∧ j = .int .i64 i ∧ wr.ownsRow w.heap.size 27 1 (.slice (some ⟨w.heap.size, 0, none⟩) K K) K (ints .u64 (wsAt N K i)) ∧ Boxed wr (w.heap.size + 1) 33 (.slice A a.length c) ∧ Boxed wr (w.heap.size + 1 + 1) 3 (.int .i64 (r : Int)) ∧ Boxed wr (w.heap.size + 1 + 2) 3 (.int .i64 q) ∧ Below w.heap.size w wr) (fun j _ => K - (intOf j).toNat)
  case atStart => exact ⟨0, Nat.zero_le _, rfl, hownE, bxA, bxR, bxQ, hbE⟩
  case round =>
    obtain ⟨i, hi, rfl, hown, bA, bR, bQ, hb⟩ := hrel
    by_cases hlt : i < K
    · obtain ⟨jj, hjj⟩ : ∃ jj : Int, (i : Int) - q = jj := ⟨_, rfl⟩
      have S1 := shifted1_any A a ha c (w.heap.size + 1 + 2) (w.heap.size + 1) (w.heap.size + 1 + 1) i r q jj wr w.heap.size (hrd.below hb) (by omega) hr (by omega) hq0 hq1 hjj bQ.cell bA.cell bR.cell
      have hv := HW.out i
      rw [hjj] at hv
      rw [hv] at S1
      have HS1 := Lib.hid S1
      have hst := hown.stored i (.int .u64 ((N / 18446744073709551616 ^ i % 18446744073709551616 : Nat) : Int))
      rw [ints_set, wsAt_set N K i hlt] at hst
      have g1 := hst.2
      have hcell : wr.cell? ⟨w.heap.size, i, none⟩ = some (.int .u64 (nth (wsAt N K i) i : Int)) := by rw [hown.cellAt _ (by omega), ints_get _ _ _ (by rw [length_wsAt _ _ _ (by omega)]; exact hlt)]
      have hfz : wr.frozen? ⟨w.heap.size, i, none⟩ = false := hown.frozenAt _
      have HR := Lib.hid (show (wr.setCell ⟨w.heap.size, i, none⟩ (.int .u64 ((N / 18446744073709551616 ^ i % 18446744073709551616 : Nat) : Int))).ownsRow w.heap.size 27 1 (.slice (some ⟨w.heap.size, 0, none⟩) K K) K (ints .u64 (wsAt N K (i + 1))) ∧
        Boxed (wr.setCell ⟨w.heap.size, i, none⟩ (.int .u64 ((N / 18446744073709551616 ^ i % 18446744073709551616 : Nat) : Int))) (w.heap.size + 1) 33 (.slice A a.length c) ∧ Boxed (wr.setCell ⟨w.heap.size, i, none⟩ (.int .u64 ((N / 18446744073709551616 ^ i % 18446744073709551616 : Nat) : Int))) (w.heap.size + 1 + 1) 3 (.int .i64 (r : Int)) ∧
        Boxed (wr.setCell ⟨w.heap.size, i, none⟩ (.int .u64 ((N / 18446744073709551616 ^ i % 18446744073709551616 : Nat) : Int))) (w.heap.size + 1 + 2) 3 (.int .i64 q) ∧ Below w.heap.size w (wr.setCell ⟨w.heap.size, i, none⟩ (.int .u64 ((N / 18446744073709551616 ^ i % 18446744073709551616 : Nat) : Int))) from
        ⟨hst.1, bA.kept g1 (by simp), bR.kept g1 (by simp; omega), bQ.kept g1 (by simp; omega), hb.setCell (p := ⟨w.heap.size, i, none⟩) (by simp) _⟩)
      obtain ⟨v, hvv⟩ : ∃ v : Nat, N / 18446744073709551616 ^ i % 18446744073709551616 = v := ⟨_, rfl⟩
      rw [hvv] at HR HS1
      clear S1 hjj hv hst g1 hown bA bR bQ hb hvv
      go_wp2_with fail
      refine (HS1.out).mono ?_
      rintro e w' ⟨rfl, n2, rfl⟩
      go_wp2_with fail
      rw [show (wr.drewN n2).setCell ⟨w.heap.size, i, none⟩ (.int .u64 (v : Int)) = (wr.setCell ⟨w.heap.size, i, none⟩ (.int .u64 (v : Int))).drewN n2 from rfl]
      go_roundw
      case rel => exact ⟨i + 1, by omega, by go_num, (Drawn.more n2).own HR.out.1, HR.out.2.1, HR.out.2.2.1, HR.out.2.2.2.1, HR.out.2.2.2.2.trans ((Drawn.more n2).below _)⟩
      case measure => simp [intOf]; omega
    · obtain rfl : i = K := by omega
      rw [wsAt_end] at hown
      have e2 : (nbits N + 63) / 64 = i := by rw [HN.out, ← HK.out]; omega
      have HO := Lib.hid (show wr.ownsRow w.heap.size 27 1 (.slice (some ⟨w.heap.size, 0, none⟩) i i) ((nbits N + 63) / 64) (ints .u64 (wd N)) by rw [wd, e2]; exact hown)
      clear e2 hown
      go_wp2_with fail
      go_ret
      exact ⟨_, rfl, HO.out, hb⟩
end Go.Proofs.YtjpfcdgaepdcdaaGreat
/- nat.Shl, nat.Shr: so often twice, so often the half. Conditions: as typed (lengths that fit a machine). -/
namespace Go.Proofs.YtjpfcdgaepdcdaaGreat
open Go.RowKit
set_option maxRecDepth 20000
theorem nbits_up_eq (n k : Nat) (h : n ≠ 0) : nbits (2 ^ k * n) = nbits n + k := by
  have hp : 0 < 2 ^ k := Nat.pow_pos (by omega)
  have h1 := nbits_lt n
  have h2 := nbits_le n h
  refine nbits_eq _ _ ?_ fun _ => ?_
  · rw [Nat.pow_add, Nat.mul_comm (2 ^ k)]
    exact Nat.mul_lt_mul_of_pos_right h1 hp
  · have h0 : 0 < nbits n := by
      rcases Nat.eq_zero_or_pos (nbits n) with h' | h'
      · rw [h'] at h1; simp at h1; omega
      · exact h'
    rw [show nbits n + k - 1 = k + (nbits n - 1) by omega, Nat.pow_add]
    exact Nat.mul_le_mul_left _ h2
theorem nbits_down_eq (n k : Nat) (h : k < nbits n) : nbits (n / 2 ^ k) = nbits n - k := by
  have hn : n ≠ 0 := by intro h'; rw [h', nbits_zero] at h; omega
  have hp : 0 < 2 ^ k := Nat.pow_pos (by omega)
  have h1 := nbits_lt n
  have h2 := nbits_le n hn
  refine nbits_eq _ _ ?_ fun _ => ?_
  · rw [Nat.div_lt_iff_lt_mul hp, ← Nat.pow_add, show nbits n - k + k = nbits n by omega]
    exact h1
  · rw [Nat.le_div_iff_mul_le hp, ← Nat.pow_add, show nbits n - k - 1 + k = nbits n - 1 by omega]
    exact h2
theorem down_none (n k : Nat) (h : nbits n ≤ k) : n / 2 ^ k = 0 := Nat.div_eq_of_lt (Nat.lt_of_lt_of_le (nbits_lt n) (Nat.pow_le_pow_right (by omega) h))
theorem shS_nat (a : List Nat) (ha : Words a) (j r : Nat) (hr : r < 64) : shS a (j : Int) r = natOf a * 2 ^ r / 18446744073709551616 ^ j % 18446744073709551616 := by
  unfold shS
  rw [wordS_nat]
  exact shl_word a ha j r hr
theorem shS_up (a : List Nat) (ha : Words a) (Q r : Nat) (hr : r < 64) (i : Nat) : shS a ((i : Int) - (Q : Int)) r = 2 ^ (64 * Q + r) * natOf a / 18446744073709551616 ^ i % 18446744073709551616 := by
  rcases Nat.lt_or_ge i Q with h | h
  · unfold shS
    rw [wordS_neg a _ (by omega), wordS_neg a _ (by omega)]
    obtain ⟨d, rfl⟩ : ∃ d, Q = i + 1 + d := ⟨Q - (i + 1), by omega⟩
    have e : 2 ^ (64 * (i + 1 + d) + r) * natOf a = 18446744073709551616 ^ i * (18446744073709551616 * (2 ^ (64 * d + r) * natOf a)) := by
      rw [pow_64_2, show 64 * (i + 1 + d) + r = 64 * i + (64 + (64 * d + r)) by omega, Nat.pow_add, Nat.pow_add 2 64]
      simp only [Nat.mul_assoc]
    rw [e, Nat.mul_div_cancel_left _ (Nat.pow_pos (by omega)), Nat.mul_mod_right]
    simp
  · obtain ⟨j, rfl⟩ : ∃ j, i = Q + j := ⟨i - Q, by omega⟩
    rw [show ((Q + j : Nat) : Int) - (Q : Int) = (j : Int) by omega, shS_nat a ha j r hr]
    rw [Nat.pow_add 18446744073709551616 Q j, Nat.pow_add 2 (64 * Q) r, ← pow_64_2, Nat.mul_assoc, Nat.mul_div_mul_left _ _ (Nat.pow_pos (by omega)), Nat.mul_comm (2 ^ r)]
theorem shS_down (a : List Nat) (ha : Words a) (V s r : Nat) (hr : r < 64) (hs : s + r = 64 * V) (i : Nat) : shS a ((i : Int) + (V : Int)) r = natOf a / 2 ^ s / 18446744073709551616 ^ i % 18446744073709551616 := by
  rw [show (i : Int) + (V : Int) = ((i + V : Nat) : Int) by omega, shS_nat a ha _ r hr]
  have e : (18446744073709551616 : Nat) ^ (i + V) = 2 ^ s * 18446744073709551616 ^ i * 2 ^ r := by
    rw [Nat.pow_add, pow_64_2 V, ← hs, Nat.pow_add]
    simp only [Nat.mul_assoc, Nat.mul_comm, Nat.mul_left_comm]
  rw [e, Nat.mul_div_mul_right _ _ (Nat.pow_pos (by omega)), ← Nat.div_div_eq_div_mul]
theorem out_none (w : World) : OutNat 0 w (.returned (.slice none 0 0)) w := by
  refine ⟨_, rfl, ?_, Below.refl _ _⟩
  have e : wd 0 = [] := by simp [wd, nbits_zero, words]
  rw [nbits_zero, e]
  exact World.ownsRow_nil _ _ _ _
section
variable (A : Option Addr) (a : List Nat) (ha : Words a) (c : Nat) (w : World) (hrd : Rd .u64 w w.heap.size A a) (hl : a.length ≤ 100000) (hc : a.length ≤ c)
include ha hrd hl hc
set_option maxHeartbeats 400000 in
theorem shift_none (k : Int) (hk0 : -100000 ≤ k) (hk1 : k ≤ 100000) (h : natOf a = 0 ∨ (nbits (natOf a) : Int) + k ≤ 0) : Calls Tryz.prog 107 #[.slice A a.length c, .int .i64 k] w (OutNat 0 w) := by
  have hsz := nbits_natOf a ha
  have Q := bits_q A c a w w.heap.size hrd ha (by omega) hc
  have HO := Lib.hid (out_none w)
  by_cases h0 : nbits (natOf a) = 0
  · rw [h0] at Q
    have HQ := Lib.hid Q
    clear Q h h0
    go_enter Tryz.func107, Tryz.ntmps107
    go_wp2_with fail
    refine (HQ.out).mono ?_
    rintro e w' ⟨rfl, rfl⟩
    go_wp2_with fail
    go_ret
    exact HO.out
  · have h2 : (nbits (natOf a) : Int) + k ≤ 0 := by
      rcases h with h | h
      · rw [h, nbits_zero] at h0; omega
      · exact h
    have hb0 : ((nbits (natOf a) : Int) == 0) = false := by simp; omega
    have HQ := Lib.hid Q
    clear Q h h0
    go_enter Tryz.func107, Tryz.ntmps107
    go_wp2_with fail
    refine (HQ.out).mono ?_
    rintro e w' ⟨rfl, rfl⟩
    go_wp2_with fail
    go_ret
    exact HO.out
theorem shift_up (k : Nat) (hk : k ≤ 65536) : Calls Tryz.prog 107 #[.slice A a.length c, .int .i64 (k : Int)] w (OutNat (2 ^ k * natOf a) w) := by
  by_cases h0 : natOf a = 0
  · have := shift_none A a ha c w hrd hl hc (k : Int) (by omega) (by omega) (.inl h0)
    rwa [h0, Nat.mul_zero]
  · obtain ⟨t, q, r, hr, hk2, h1, h2, h3, h4, h5⟩ := shift_nums (k : Int)
    obtain ⟨Q, rfl⟩ := Int.eq_ofNat_of_zero_le (show 0 ≤ q by omega)
    have hb := nbits_up_eq (natOf a) k h0
    exact shift_core A a ha c (k : Int) (Q : Int) t r (nbits (natOf a) + k) (2 ^ k * natOf a) _ w hrd hl hc (by omega) (by omega) hr h1 h2 h3 h4 h5 (by omega) (by omega) h0 (by omega)
      (by have h1 := nbits_lt (natOf a); rcases Nat.eq_zero_or_pos (nbits (natOf a)) with h | h; rw [h] at h1; simp at h1; omega; omega) hb rfl
      (fun i => by rw [show k = 64 * Q + r by omega]; exact shS_up a ha Q r hr i)
theorem shift_down (k : Nat) (hk : k ≤ 65536) : Calls Tryz.prog 107 #[.slice A a.length c, .int .i64 (-(k : Int))] w (OutNat (natOf a / 2 ^ k) w) := by
  by_cases h0 : natOf a = 0
  · have := shift_none A a ha c w hrd hl hc (-(k : Int)) (by omega) (by omega) (.inl h0)
    rwa [h0, Nat.zero_div]
  · by_cases h6 : nbits (natOf a) ≤ k
    · have := shift_none A a ha c w hrd hl hc (-(k : Int)) (by omega) (by omega) (.inr (by omega))
      rwa [down_none _ _ h6]
    · obtain ⟨t, q, r, hr, hk2, h1, h2, h3, h4, h5⟩ := shift_nums (-(k : Int))
      obtain ⟨V, hV⟩ := Int.eq_ofNat_of_zero_le (show 0 ≤ -q by omega)
      have hb := nbits_down_eq (natOf a) k (by omega)
      exact shift_core A a ha c (-(k : Int)) q t r (nbits (natOf a) - k) (natOf a / 2 ^ k) _ w hrd hl hc (by omega) (by omega) hr h1 h2 h3 h4 h5 (by omega) (by omega) h0 (by omega) (by omega) hb rfl
        (fun i => by rw [show (i : Int) - q = (i : Int) + (V : Int) by omega]; exact shS_down a ha V k r hr (by omega) i)
set_option maxHeartbeats 400000 in
theorem shl_pf (k : Int) : Calls Tryz.prog 122 #[.slice A a.length c, .int .i64 k] w (OutNat (shlS (natOf a) k) w) := by
  by_cases h : 0 ≤ k ∧ k ≤ 65536
  · obtain ⟨j, rfl⟩ := Int.eq_ofNat_of_zero_le h.1
    have S := Lib.hid (shift_up A a ha c w hrd hl hc j (by omega))
    have e : shlS (natOf a) (j : Int) = 2 ^ j * natOf a := by unfold shlS; rw [if_pos h, Int.toNat_natCast]
    rw [e]
    have M := Lib.hid (mayShift_yes (j : Int) w h.1 h.2)
    clear h e
    go_enter Tryz.func122, Tryz.ntmps122
    go_wp2_with fail
    refine (M.out).mono ?_
    rintro e w' ⟨rfl, rfl⟩
    go_wp2_with fail
    refine (S.out).mono ?_
    rintro e w1 ⟨v, rfl, own, hb⟩
    obtain ⟨X, d, rfl, _⟩ := own_form own
    have HO := Lib.hid own
    clear own
    go_wp2_with fail
    go_ret
    exact ⟨_, rfl, HO.out, hb⟩
  · have e : shlS (natOf a) k = 0 := by unfold shlS; rw [if_neg h]
    rw [e]
    have M := Lib.hid (mayShift_no k w (by omega))
    have HO := Lib.hid (out_none w)
    clear h e
    go_enter Tryz.func122, Tryz.ntmps122
    go_wp2_with fail
    refine (M.out).mono ?_
    rintro e w' ⟨rfl, rfl⟩
    go_wp2_with fail
    go_ret
    exact HO.out
set_option maxHeartbeats 400000 in
theorem shr_pf (k : Int) : Calls Tryz.prog 80 #[.slice A a.length c, .int .i64 k] w (OutNat (shrS (natOf a) k) w) := by
  by_cases h : 0 ≤ k ∧ k ≤ 65536
  · obtain ⟨j, rfl⟩ := Int.eq_ofNat_of_zero_le h.1
    have S := Lib.hid (shift_down A a ha c w hrd hl hc j (by omega))
    have e : shrS (natOf a) (j : Int) = natOf a / 2 ^ j := by unfold shrS; rw [if_pos h, Int.toNat_natCast]
    rw [e]
    have M := Lib.hid (mayShift_yes (j : Int) w h.1 h.2)
    have hj : j ≤ 65536 := by omega
    clear h e
    go_enter Tryz.func80, Tryz.ntmps80
    go_wp2_with fail
    refine (M.out).mono ?_
    rintro e w' ⟨rfl, rfl⟩
    go_wp2_with fail
    refine (S.out).mono ?_
    rintro e w1 ⟨v, rfl, own, hb⟩
    obtain ⟨X, d, rfl, _⟩ := own_form own
    have HO := Lib.hid own
    clear own
    go_wp2_with fail
    go_ret
    exact ⟨_, rfl, HO.out, hb⟩
  · have e : shrS (natOf a) k = 0 := by unfold shrS; rw [if_neg h]
    rw [e]
    have M := Lib.hid (mayShift_no k w (by omega))
    have HO := Lib.hid (out_none w)
    clear h e
    go_enter Tryz.func80, Tryz.ntmps80
    go_wp2_with fail
    refine (M.out).mono ?_
    rintro e w' ⟨rfl, rfl⟩
    go_wp2_with fail
    go_ret
    exact HO.out
end
end Go.Proofs.YtjpfcdgaepdcdaaGreat
/- nat.Bytes, nat.FromBytes: digits to the base 256. Conditions: as typed (lengths that fit a machine). -/
namespace Go.Proofs.YtjpfcdgaepdcdaaGreat
open Go.RowKit
set_option maxRecDepth 20000
/-- Noughts, and the lowest i digits behind them. -/
def bsAt (N S i : Nat) : List Nat := List.replicate (S - i) 0 ++ be i N
theorem length_bsAt (N S i : Nat) (h : i ≤ S) : (bsAt N S i).length = S := by simp [bsAt, length_be]; omega
theorem bsAt_zero (N S : Nat) : bsAt N S 0 = List.replicate S 0 := by simp [bsAt, be]
theorem bsAt_end (N S : Nat) : bsAt N S S = be S N := by simp [bsAt]
theorem bsAt_set (N i d : Nat) : (bsAt N (i + 1 + d) i).set d (dig N i) = bsAt N (i + 1 + d) (i + 1) := by
  unfold bsAt
  rw [show i + 1 + d - i = d + 1 by omega, show i + 1 + d - (i + 1) = d by omega, List.replicate_succ', List.append_assoc, List.set_append_right _ _ (by simp), List.length_replicate, Nat.sub_self, be]
  rfl
theorem make_bytes (m : Nat) (u : World) (hm : m ≤ 10000000) : (Instr.makeSlice 56 (.int .i64 (m : Int)) (.int .i64 (m : Int))).run Tryz.prog u =
      .ok (.slice (some ⟨u.heap.size, 0, none⟩) m m) (u.alloc (.cells (List.replicate m (Value.int .u8 0)).toArray 5)) := by
  obtain ⟨i0, hi, hz0, hz1, hz2⟩ := info_parts num_info_u8
  have h := run_make (P := Tryz.prog) u 56 5 i0 (.int .u8 0) Tryz.underlying56 hi hz0 .i64 .i64 (m : Int) (m : Int) (by omega) (by omega) (by rw [hz2]; omega) (by omega)
  rw [Int.toNat_natCast, hz1, Nat.mul_one] at h
  rw [h, ← toList_madeCells_one]
  rfl
theorem brow_new (w : World) (m : Nat) (hm : m ≤ 10000000) (N : Nat) : (w.alloc (.cells (Array.replicate m (Value.int .u8 0)) 5)).ownsRow w.heap.size 5 1 (.slice (some ⟨w.heap.size, 0, none⟩) m m) m (ints .u8 (bsAt N m 0)) := by
  rw [bsAt_zero]
  exact own_of_heap (cur := List.replicate m (Value.int .u8 0)) (by have h := heap_alloc_new w (.cells (Array.replicate m (Value.int .u8 0)) 5); simpa using h) (Nat.le_refl _) (Nat.le_refl _) (by unfold maxLen; omega) (by simp) (by simp [ints])
set_option maxHeartbeats 1000000 in
theorem bytes_pf (A : Option Addr) (c : Nat) (a : List Nat) (w : World) (hr : Rd .u64 w w.heap.size A a) (hw : Words a) (hl : a.length ≤ 100000) (hc : a.length ≤ c) :
    Calls Tryz.prog 46 #[.slice A a.length c] w (OutBytes (natOf a) w) := by
  have hsz := nbits_natOf a hw
  have hbl := blen_natOf a hw
  have Q := Lib.hid (bits_q A c a w w.heap.size hr hw (by omega) hc)
  have P := parts_any (nbits (natOf a)) 8 w (by omega) (by omega) (by omega)
  rw [show (nbits (natOf a) + 8 - 1) / 8 = blen (natOf a) from nbits_blen _] at P
  have HP := Lib.hid P
  obtain ⟨S, hS⟩ : ∃ S, blen (natOf a) = S := ⟨_, rfl⟩
  rw [hS] at HP hbl
  have HS := Lib.hid hS
  have hmk := fun u => make_bytes S u (by omega)
  clear P hS
  go_enter Tryz.func46, Tryz.ntmps46
  go_wp2_with fail
  refine (Q.out).mono ?_
  rintro e w' ⟨rfl, rfl⟩
  go_wp2_with fail
  refine (HP.out).mono ?_
  rintro e w' ⟨rfl, rfl⟩
  go_wp2_with fail
  have hown0 := brow_new w S (by omega) (natOf a)
  obtain ⟨E, hE⟩ : ∃ E, w.alloc (.cells (Array.replicate S (Value.int .u8 0)) 5) = E := ⟨_, rfl⟩
  have hbE : Below w.heap.size w E := by rw [← hE]; exact (Below.refl _ w).alloc (Nat.le_refl _) _
  rw [hE] at hown0 ⊢
  clear hmk hE
  go_loopw [12] (fun j wr => ∃ i : Nat, i ≤ S ∧ j = .int .i64 i ∧ wr.ownsRow w.heap.size 5 1 (.slice (some ⟨w.heap.size, 0, none⟩) S S) S (ints .u8 (bsAt (natOf a) S i)) ∧ Below w.heap.size w wr) (fun j _ => S - (intOf j).toNat)
  case atStart => exact ⟨0, Nat.zero_le _, rfl, hown0, hbE⟩
  case round =>
    obtain ⟨i, hi, rfl, hown, hb⟩ := hrel
    by_cases hlt : i < S
    · obtain ⟨d, hd⟩ : ∃ d, S = i + 1 + d := ⟨S - (i + 1), by omega⟩
      obtain ⟨b, off, rfl, hbB, hcell⟩ := hr.below hb (by omega)
      have hx := hcell (i / 8) (by omega)
      have hxl := nth_lt a hw (i / 8)
      have hst := hown.stored d (.int .u8 ((dig (natOf a) i : Nat) : Int))
      rw [ints_set, hd, bsAt_set, ← hd] at hst
      have hc4 : wr.cell? ⟨w.heap.size, d, none⟩ = some (.int .u8 (nth (bsAt (natOf a) S i) d : Int)) := by rw [hown.cellAt _ (by omega), ints_get _ _ _ (by rw [length_bsAt _ _ _ (by omega)]; omega)]
      have hf4 : wr.frozen? ⟨w.heap.size, d, none⟩ = false := hown.frozenAt _
      have HO := Lib.hid hst.1
      have hidx : (S : Int) - 1 - (i : Int) = (d : Int) := by omega
      have hdS : d < S := by omega
      have HV := Lib.hid (word_byte_int a hw i)
      have hi8 : i / 8 < a.length := by omega
      clear hst hown hcell hd
      go_wp2_with fail
      rw [HV.out]
      go_roundw
      case rel => exact ⟨i + 1, by omega, by go_num, HO.out, hb.setCell (p := ⟨w.heap.size, d, none⟩) (by simp) _⟩
      case measure => simp [intOf]; omega
    · obtain rfl : i = S := by omega
      rw [bsAt_end] at hown
      have HO := Lib.hid (show wr.ownsRow w.heap.size 5 1 (.slice (some ⟨w.heap.size, 0, none⟩) i i) (blen (natOf a)) (ints .u8 (be (blen (natOf a)) (natOf a))) by rw [HS.out]; exact hown)
      clear hown
      go_wp2_with fail
      go_ret
      exact ⟨_, rfl, HO.out, hb⟩
end Go.Proofs.YtjpfcdgaepdcdaaGreat
/- nat's contracts, as laws use them. Conditions: as typed (lengths that fit a machine, a capacity that is not below its length). -/
namespace Go.Proofs.YtjpfcdgaepdcdaaGreat
open Go.RowKit
set_option maxRecDepth 20000
section
variable (A A2 : Option Addr) (c c2 : Nat) (a b : List Nat) (w : World) (hr : Rd .u64 w w.heap.size A a) (hw : Words a) (hl : a.length ≤ 100000) (hc : a.length ≤ c) (hr2 : Rd .u64 w w.heap.size A2 b) (hw2 : Words b) (hl2 : b.length ≤ 100000) (hc2 : b.length ≤ c2)
include hr hw hl hc
theorem natMay_any : Calls Tryz.prog 44 #[.slice A a.length c] w fun e w' => e = .returned (.bool (decide (a = wd (natOf a)))) ∧ Below w.heap.size w w' := may_pf A c a w hr hw hl hc
theorem natTrim_any : Calls Tryz.prog 101 #[.slice A a.length c] w (OutNat (natOf a) w) := trim_pf A c a w hr hw hl hc
theorem natSmall_any : Calls Tryz.prog 39 #[.slice A a.length c] w fun e w' =>
      e = .returned (.tuple #[.int .u64 (smallV (natOf a)), .bool (smallB (natOf a))]) ∧ Below w.heap.size w w' := small_pf A c a w hr hw hl hc
theorem natShl_any (k : Int) : Calls Tryz.prog 122 #[.slice A a.length c, .int .i64 k] w (OutNat (shlS (natOf a) k) w) := shl_pf A a hw c w hr hl hc k
theorem natShr_any (k : Int) : Calls Tryz.prog 80 #[.slice A a.length c, .int .i64 k] w (OutNat (shrS (natOf a) k) w) := shr_pf A a hw c w hr hl hc k
theorem natBits_any : Calls Tryz.prog 45 #[.slice A a.length c] w fun e w' => e = .returned (.int .i64 (nbits (natOf a))) ∧ Below w.heap.size w w' := Calls.mono (bits_q A c a w w.heap.size hr hw (by omega) hc) fun _ _ ⟨he, hq⟩ => ⟨he, hq ▸ Below.refl _ _⟩
theorem natBit_any (i : Int) (hi : MaxI i) : Calls Tryz.prog 47 #[.slice A a.length c, .int .i64 i] w fun e w' => e = .returned (.int .u64 (bitS (natOf a) i)) ∧ Below w.heap.size w w' := (fun _ => bit_pf A c a w hr hw hl i hi) hc
theorem natBytes_any : Calls Tryz.prog 46 #[.slice A a.length c] w (OutBytes (natOf a) w) := bytes_pf A c a w hr hw hl hc
include hr2 hw2 hl2 hc2
theorem natCmp_any : Calls Tryz.prog 21 #[.slice A a.length c, .slice A2 b.length c2] w fun e w' => e = .returned (.int .i64 (cmpS (natOf a) (natOf b))) ∧ Below w.heap.size w w' := cmp_pf A A2 c c2 a b w hr hw hl hc hr2 hw2 hl2 hc2
theorem natAdd_any : Calls Tryz.prog 38 #[.slice A a.length c, .slice A2 b.length c2] w (OutNat (natOf a + natOf b) w) := add_pf A A2 c c2 a b w hr hw hl hc hr2 hw2 hl2 hc2
theorem natSub_any : Calls Tryz.prog 48 #[.slice A a.length c, .slice A2 b.length c2] w (OutSub (natOf a) (natOf b) w) := sub_pf A A2 c c2 a b w hr hw hl hc hr2 hw2 hl2 hc2
end
theorem natOf_any (n : Nat) (w : World) (hn : n < 18446744073709551616) : Calls Tryz.prog 29 #[.int .u64 n] w (OutNat n w) := of_pf n w hn
end Go.Proofs.YtjpfcdgaepdcdaaGreat
/- The examples of chapter 2 ('works') hold, in whatever memory. No condition. -/
namespace Go.Proofs.YtjpfcdgaepdcdaaGreat
open Go.RowKit
set_option maxRecDepth 20000
/-- What is answered, as words that are written out. -/
theorem OutNat.lit {N : Nat} {w w' : World} {e : Ending} (h : OutNat N w e w') (l : List Nat) (hl : wd N = l) : ∃ X d, e = .returned (.slice X l.length d) ∧ Rd .u64 w' w'.heap.size X l ∧ Below w.heap.size w w' ∧ l.length ≤ d := by
  obtain ⟨v, rfl, own, b⟩ := h
  obtain ⟨X, d, rfl, hd, _⟩ := own_form own
  have hn : (nbits N + 63) / 64 = l.length := by rw [← hl, length_wd]
  rw [hl] at own
  exact ⟨X, d, by rw [hn], Rd.own own, b, by omega⟩
section
variable (w : World)
end
theorem below_step {w0 w w' : World} (h : Below w0.heap.size w0 w) (k : Below w.heap.size w w') : Below w0.heap.size w0 w' := h.trans (k.mono h.size)
theorem rd_step {k : IntKind} {w w' : World} {A : Option Addr} {l : List Nat} (h : Rd k w w.heap.size A l) (b : Below w.heap.size w w') : Rd k w' w'.heap.size A l := (h.below b).more b.size
end Go.Proofs.YtjpfcdgaepdcdaaGreat
/- NatWords' walk: it answers true, and writes nothing that was there. No condition but what the arguments' types give. -/
namespace Go.Proofs.YtjpfcdgaepdcdaaGreat
open Go.RowKit
set_option maxRecDepth 20000
/-- Words of the call's own, whatever they are by now. -/
def Turned (w : World) (base : Nat) (v : Value) (n : Nat) : Prop := ∃ l : List Nat, l.length = n ∧ Words l ∧ w.ownsRow base 27 1 v n (ints .u64 l)
theorem Turned.at_ {w : World} {base n i : Nat} {v : Value} (h : Turned w base v n) (hi : i < n) : ∃ (g c x : Nat), v = .slice (some ⟨g, 0, none⟩) n c ∧ base ≤ g ∧ x < 18446744073709551616 ∧ w.cell? ⟨g, i, none⟩ = some (.int .u64 (x : Int)) ∧ w.frozen? ⟨g, i, none⟩ = false ∧
    ∀ y : Nat, y < 18446744073709551616 → Turned (w.setCell ⟨g, i, none⟩ (.int .u64 (y : Int))) base v n := by
  obtain ⟨l, hl, hw, own⟩ := h
  obtain ⟨g, c, rfl, hg, _⟩ := own_pos2 own (by omega)
  refine ⟨g, c, nth l i, rfl, hg, hw _ (nth_mem l i (by omega)), ?_, own.frozenAt _, fun y hy => ?_⟩
  · rw [own.cellAt _ (by omega), ints_get _ _ _ (by omega)]
  · have hst := own.stored i (.int .u64 (y : Int))
    rw [ints_set] at hst
    refine ⟨l.set i y, by simp [hl], fun x hx => ?_, hst.1⟩
    rcases mem_set hx with rfl | h
    · exact hy
    · exact hw x h
end Go.Proofs.YtjpfcdgaepdcdaaGreat
/- nat's contracts in the form that laws use: a slice of words stands for a number. Conditions: as typed. -/
namespace Go.Proofs.YtjpfcdgaepdcdaaGreat
open Go.RowKit
set_option maxRecDepth 20000
/-- The slice at A, of n words, stands for N: words that may be, or not. -/
def NatIn (w : World) (A : Option Addr) (n c N : Nat) : Prop := ∃ l : List Nat, l.length = n ∧ natOf l = N ∧ Words l ∧ n ≤ 50000 ∧ Rd .u64 w w.heap.size A l ∧ n ≤ c
/-- The slice at A, of n words, is N's words. -/
def NatIs (w : World) (A : Option Addr) (n c N : Nat) : Prop := (wd N).length = n ∧ n ≤ 50000 ∧ Rd .u64 w w.heap.size A (wd N) ∧ n ≤ c
/-- The slice at A is N's digits. -/
def NumIs (w : World) (A : Option Addr) (n d N : Nat) : Prop := n = nbits N ∧ n ≤ d ∧ n ≤ 5000000 ∧ Rd .u8 w w.heap.size A (dg N)
section
variable {w w' : World} {A : Option Addr} {n c N d : Nat}
theorem NatIn.step (h : NatIn w A n c N) (b : Below w.heap.size w w') : NatIn w' A n c N := by
  obtain ⟨l, h1, h2, h3, h4, h5, h6⟩ := h
  exact ⟨l, h1, h2, h3, h4, rd_step h5 b, h6⟩
theorem NatIs.step (h : NatIs w A n c N) (b : Below w.heap.size w w') : NatIs w' A n c N := ⟨h.1, h.2.1, rd_step h.2.2.1 b, h.2.2.2⟩
theorem NumIs.step (h : NumIs w A n d N) (b : Below w.heap.size w w') : NumIs w' A n d N := ⟨h.1, h.2.1, h.2.2.1, rd_step h.2.2.2 b⟩
theorem NatIs.in_ (h : NatIs w A n c N) : NatIn w A n c N := ⟨wd N, h.1, natOf_wd N, wd_words N, h.2.1, h.2.2.1, h.2.2.2⟩
theorem NatIn.bits (h : NatIn w A n c N) : nbits N ≤ 64 * n := by
  obtain ⟨l, rfl, rfl, h3, _⟩ := h
  exact nbits_natOf l h3
theorem Turned.step {base : Nat} {v : Value} (h : Turned w base v n) (b : Below w.heap.size w w') : Turned w' base v n := by
  obtain ⟨l, h1, h2, h3⟩ := h
  refine ⟨l, h1, h2, h3.kept (row := none) ⟨b.os, b.tape, b.output, b.size, fun i hi _ => b.block i hi⟩ ?_⟩
  rcases hv : v.ownBlock with _ | x
  · exact .inl rfl
  · exact .inr (by simp)
end
theorem Turned.lt {w : World} {base n : Nat} {v : Value} (h : Turned w base v n) : ∀ g, v.ownBlock = some g → base ≤ g ∧ g < w.heap.size := by
  obtain ⟨l, _, _, h3⟩ := h
  exact h3.lt
/-- A number is answered, in new memory. -/
def OutN (N : Nat) (w : World) (e : Ending) (w' : World) : Prop := ∃ X q d, e = .returned (.slice X q d) ∧ NatIs w' X q d N ∧ Turned w' w.heap.size (.slice X q d) q ∧ Below w.heap.size w w'
theorem OutNat.out {N : Nat} {w w' : World} {e : Ending} (h : OutNat N w e w') (hn : nbits N ≤ 3200000) : OutN N w e w' := by
  obtain ⟨v, rfl, own, b⟩ := h
  obtain ⟨X, d, rfl, hd, _⟩ := own_form own
  exact ⟨X, _, d, rfl, ⟨length_wd N, by omega, Rd.own own, hd⟩, ⟨wd N, length_wd N, wd_words N, own⟩, b⟩
/-- Digits are answered. -/
def OutD (N : Nat) (w : World) (e : Ending) (w' : World) : Prop := ∃ X n d, e = .returned (.slice X n d) ∧ NumIs w' X n d N ∧ Below w.heap.size w w'
theorem OutNum.out {N : Nat} {w w' : World} {e : Ending} (h : OutNum N w e w') (hn : nbits N ≤ 5000000) : OutD N w e w' := by
  obtain ⟨X, d, rfl, hd, hR, b⟩ := h
  exact ⟨X, _, d, rfl, ⟨rfl, hd, hn, hR⟩, b⟩
theorem nbits_add (a b : Nat) : nbits (a + b) ≤ nbits a + nbits b + 1 := by
  have ha := nbits_lt a
  have hb := nbits_lt b
  refine nbits_of_lt _ _ ?_
  have h1 : 2 ^ nbits a ≤ 2 ^ (nbits a + nbits b) := Nat.pow_le_pow_right (by omega) (by omega)
  have h2 : 2 ^ nbits b ≤ 2 ^ (nbits a + nbits b) := Nat.pow_le_pow_right (by omega) (by omega)
  rw [Nat.pow_succ]
  omega
section
variable {w : World} {A A2 : Option Addr} {n m c c2 M N d d2 : Nat}
theorem bTrim (h : NatIn w A n c M) : Calls Tryz.prog 101 #[.slice A n c] w (OutN M w) := by
  have hb := h.bits
  obtain ⟨l, rfl, rfl, h3, h4, h5, h6⟩ := h
  exact Calls.mono (natTrim_any A c l w h5 h3 (by omega) h6) fun _ _ h => h.out (by omega)
theorem bAdd (h : NatIn w A n c M) (k : NatIn w A2 m c2 N) (hs : n + m ≤ 40000) : Calls Tryz.prog 38 #[.slice A n c, .slice A2 m c2] w (OutN (M + N) w) := by
  have hb := h.bits
  have kb := k.bits
  have hk := nbits_add M N
  obtain ⟨l, rfl, rfl, h3, h4, h5, h6⟩ := h
  obtain ⟨l2, rfl, rfl, k3, k4, k5, k6⟩ := k
  exact Calls.mono (natAdd_any A A2 c c2 l l2 w h5 h3 (by omega) h6 k5 k3 (by omega) k6) fun _ _ h => h.out (by omega)
theorem bCmp (h : NatIn w A n c M) (k : NatIn w A2 m c2 N) : Calls Tryz.prog 21 #[.slice A n c, .slice A2 m c2] w fun e w' => e = .returned (.int .i64 (cmpS M N)) ∧ Below w.heap.size w w' := by
  obtain ⟨l, rfl, rfl, h3, h4, h5, h6⟩ := h
  obtain ⟨l2, rfl, rfl, k3, k4, k5, k6⟩ := k
  exact natCmp_any A A2 c c2 l l2 w h5 h3 (by omega) h6 k5 k3 (by omega) k6
theorem bSub_yes (h : NatIn w A n c M) (k : NatIn w A2 m c2 N) (hle : N ≤ M) : Calls Tryz.prog 48 #[.slice A n c, .slice A2 m c2] w fun e w' =>
    ∃ X q d, e = .returned (.tuple #[.slice X q d, .bool true]) ∧ NatIs w' X q d (M - N) ∧ Turned w' w.heap.size (.slice X q d) q ∧ Below w.heap.size w w' := by
  have hb := h.bits
  have hm := nbits_mono (Nat.sub_le M N)
  obtain ⟨l, rfl, rfl, h3, h4, h5, h6⟩ := h
  obtain ⟨l2, rfl, rfl, k3, k4, k5, k6⟩ := k
  refine Calls.mono (natSub_any A A2 c c2 l l2 w h5 h3 (by omega) h6 k5 k3 (by omega) k6) fun e w' h => ?_
  obtain ⟨v, he, own⟩ := h.1 hle
  obtain ⟨X, d, rfl, hd, _⟩ := own_form own
  exact ⟨X, _, d, he, ⟨length_wd _, by omega, Rd.own own, hd⟩, ⟨wd _, length_wd _, wd_words _, own⟩, h.2.2⟩
theorem bShr (h : NatIn w A n c M) (k : Int) : Calls Tryz.prog 80 #[.slice A n c, .int .i64 k] w (OutN (shrS M k) w) := by
  have hb := h.bits
  obtain ⟨l, rfl, rfl, h3, h4, h5, h6⟩ := h
  refine Calls.mono (natShr_any A c l w h5 h3 (by omega) h6 k) fun _ _ h => h.out ?_
  unfold shrS
  split
  · have := nbits_mono (Nat.div_le_self (natOf l) (2 ^ k.toNat))
    omega
  · rw [nbits_zero]; omega
theorem bBits (h : NatIn w A n c M) : Calls Tryz.prog 45 #[.slice A n c] w fun e w' => e = .returned (.int .i64 (nbits M)) ∧ Below w.heap.size w w' := by
  obtain ⟨l, rfl, rfl, h3, h4, h5, h6⟩ := h
  exact natBits_any A c l w h5 h3 (by omega) h6
theorem bBit (h : NatIn w A n c M) (i : Int) (hi : MaxI i) : Calls Tryz.prog 47 #[.slice A n c, .int .i64 i] w fun e w' => e = .returned (.int .u64 (bitS M i)) ∧ Below w.heap.size w w' := by
  obtain ⟨l, rfl, rfl, h3, h4, h5, h6⟩ := h
  exact natBit_any A c l w h5 h3 (by omega) h6 i hi
end
/-- The slice at A, of n words, is the words l, whether they may be or not. -/
def RowIs (w : World) (A : Option Addr) (n c : Nat) (l : List Nat) : Prop := l.length = n ∧ Words l ∧ n ≤ 50000 ∧ Rd .u64 w w.heap.size A l ∧ n ≤ c
section
variable {w w' : World} {A A2 : Option Addr} {n c c2 : Nat} {l : List Nat}
theorem RowIs.step (h : RowIs w A n c l) (b : Below w.heap.size w w') : RowIs w' A n c l := ⟨h.1, h.2.1, h.2.2.1, rd_step h.2.2.2.1 b, h.2.2.2.2⟩
theorem RowIs.in_ (h : RowIs w A n c l) : NatIn w A n c (natOf l) := ⟨l, h.1, rfl, h.2.1, h.2.2.1, h.2.2.2.1, h.2.2.2.2⟩
end
end Go.Proofs.YtjpfcdgaepdcdaaGreat

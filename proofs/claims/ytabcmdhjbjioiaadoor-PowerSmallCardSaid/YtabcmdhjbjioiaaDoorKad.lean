/- Several texts in one; each begins with a remark that says what it shows and on which conditions. -/
import Derived.Test.YtabcmdhjbjioiaaDoorKac
/- The contracts of the document's Words, Is, Same, Copy, Of, Small. Conditions: as typed. -/
namespace Go.Proofs.YtabcmdhjbjioiaaDoor
open Go.RowKit
set_option maxRecDepth 20000
theorem own_pos2 {w : World} {base : Nat} {e : TypeId} {n : Nat} {v : Value} {xs : List Value} (h : w.ownsRow base e 1 v n xs) (hn : 0 < n) : ∃ g c, v = .slice (some ⟨g, 0, none⟩) n c ∧ base ≤ g ∧ g < w.heap.size ∧ n ≤ c := by
  rcases h.2 with ⟨_, h0⟩ | ⟨g, cap, cur, rfl, hb, hh, hc, _⟩
  · omega
  · refine ⟨g, cap, rfl, hb, ?_, hc⟩
    rcases Nat.lt_or_ge g w.heap.size with h1 | h1
    · exact h1
    · rw [Array.getElem?_eq_none h1] at hh; cases hh
theorem low_lt2 (N i K : Nat) (h : i ≤ 64 * K) : N % 2 ^ i < 18446744073709551616 ^ K := by
  rw [pow_64_2]
  exact Nat.lt_of_lt_of_le (Nat.mod_lt _ (Nat.pow_pos (by omega))) (Nat.pow_le_pow_right (by omega) h)
theorem words_more2 (K V : Nat) (h : V < 18446744073709551616 ^ K) : words K V ++ [0] = words (K + 1) V := by
  refine ext_nth _ _ (by simp [length_words]) fun j hj => ?_
  have hj' : j < K + 1 := by simpa [length_words] using hj
  rw [nth_words _ _ _ hj']
  by_cases e : j < K
  · have h1 : nth (words K V ++ [0]) j = nth (words K V) j := by simp [nth, List.getElem?_append_left (show j < (words K V).length by rw [length_words]; exact e)]
    rw [h1, nth_words _ _ _ e]
  · obtain rfl : j = K := by omega
    have h1 : nth (words j V ++ [0]) j = 0 := by simp [nth, length_words]
    rw [h1, Nat.div_eq_of_lt h]
/-- a | x << r -/
theorem shl_or_bit (a x r : Nat) (ha : a < 18446744073709551616) (hx : x < 2) (hr : r < 64) :
    bits .or .u64 (a : Int) (IntKind.u64.wrap ((x : Int) * 2 ^ r)) = ((a ||| x * 2 ^ r : Nat) : Int) := by
  have h1 : x * 2 ^ r < 18446744073709551616 := by
    have h2 : x * 2 ^ r ≤ 1 * 2 ^ r := Nat.mul_le_mul_right _ (by omega)
    have h3 : 1 * 2 ^ r ≤ 1 * 2 ^ 63 := Nat.mul_le_mul_left _ (Nat.pow_le_pow_right (by omega) (by omega))
    omega
  have e : ((x : Int) * 2 ^ r) = ((x * 2 ^ r : Nat) : Int) := by simp
  rw [e, IntKind.wrap_u64]
  generalize x * 2 ^ r = y at *
  rw [show ((y : Int) % 18446744073709551616) = (y : Int) by omega, u64_or_nat _ _ ha h1]
/-- A digit more, from below. -/
theorem words_low2 (N i : Nat) : (words (i / 64 + 1) (N % 2 ^ i)).set (i / 64) (nth (words (i / 64 + 1) (N % 2 ^ i)) (i / 64) ||| bit N i * 2 ^ (i % 64)) = words (i / 64 + 1) (N % 2 ^ (i + 1)) := by
  have hd := bit_lt N i
  have hV := low_lt2 N i (i / 64 + 1) (by omega)
  have ew := nth_words (i / 64 + 1) (N % 2 ^ i) (i / 64) (by omega)
  have h1 : nth (words (i / 64 + 1) (N % 2 ^ i)) (i / 64) < 2 ^ (i % 64) := by
    rw [ew]
    refine Nat.lt_of_le_of_lt (Nat.mod_le _ _) ?_
    rw [Nat.div_lt_iff_lt_mul (Nat.pow_pos (by omega)), pow_64_2, ← Nat.pow_add, show i % 64 + 64 * (i / 64) = i by omega]
    exact Nat.mod_lt _ (Nat.pow_pos (by omega))
  have h2 : nth (words (i / 64 + 1) (N % 2 ^ i)) (i / 64) ||| bit N i * 2 ^ (i % 64) < 18446744073709551616 := by
    refine Nat.or_lt_two_pow (n := 64) (Nat.lt_of_lt_of_le h1 (Nat.pow_le_pow_right (by omega) (by omega))) ?_
    have h3 : bit N i * 2 ^ (i % 64) ≤ 1 * 2 ^ (i % 64) := Nat.mul_le_mul_right _ (by omega)
    have h4 : 1 * 2 ^ (i % 64) ≤ 1 * 2 ^ 63 := Nat.mul_le_mul_left _ (Nat.pow_le_pow_right (by omega) (by omega))
    omega
  have ha : nth (words (i / 64 + 1) (N % 2 ^ i)) (i / 64) ||| bit N i * 2 ^ (i % 64) = nth (words (i / 64 + 1) (N % 2 ^ i)) (i / 64) + bit N i * 2 ^ (i % 64) := by
    rw [Nat.or_comm, nat_join (i % 64) _ _ (by simp) h1, Nat.add_comm]
  rw [ha] at h2 ⊢
  have hw : Words ((words (i / 64 + 1) (N % 2 ^ i)).set (i / 64) (nth (words (i / 64 + 1) (N % 2 ^ i)) (i / 64) + bit N i * 2 ^ (i % 64))) := fun y hy => by
    rcases mem_set hy with rfl | h
    · exact h2
    · exact words_words _ _ y h
  have hf := words_natOf _ hw
  rw [List.length_set, length_words, natOf_set _ _ _ (by rw [length_words]; omega), natOf_words, Nat.mod_eq_of_lt hV] at hf
  rw [← hf, Nat.mod_pow_succ, show N / 2 ^ i % 2 = bit N i from rfl]
  congr 2
  rw [pow_64_2, Nat.mul_left_comm, ← Nat.pow_add, show 64 * (i / 64) + i % 64 = i by omega, Nat.mul_comm]
/-- The words of a number are answered, in new memory. -/
def OutNat (N : Nat) (w : World) (e : Ending) (w' : World) : Prop := ∃ v, e = .returned v ∧ w'.ownsRow w.heap.size 39 1 v ((nbits N + 63) / 64) (ints .u64 (wd N)) ∧ Below w.heap.size w w'
set_option maxHeartbeats 1000000 in
theorem words_any (A : Option Addr) (c : Nat) (l : List Nat) (w : World) (hr : Rd .u8 w w.heap.size A l) (h01 : Bits01 l) (hl : l.length ≤ 100000000) (hc : l.length ≤ c) :
    Calls Tryd.prog 42 #[.slice A l.length c] w (OutNat (bv l) w) := by
  obtain ⟨i0, hi0, hz0, hz1, hz2⟩ := info_parts num_info_u64
  have hnb := nbits_bv_le l h01
  go_enter Tryd.func42, Tryd.ntmps42
  go_wp2_with fail
  refine (numTrim_any A c l w hr h01 (by omega) hc).mono ?_
  rintro e w1 ⟨X, d, rfl, hd, R1, b1⟩
  go_wp2_with fail
  go_loopw [3, 4] (fun v j wr => ∃ i : Nat, i ≤ nbits (bv l) ∧ j = .int .i64 i ∧ wr.ownsRow w1.heap.size 39 1 v ((i + 63) / 64) (ints .u64 (words ((i + 63) / 64) (bv l % 2 ^ i))) ∧ Below w1.heap.size w1 wr) (fun _ j _ => nbits (bv l) - (intOf j).toNat)
  case atStart => exact ⟨0, Nat.zero_le _, rfl, World.ownsRow_nil _ _ _ _, Below.refl _ _⟩
  case round =>
    obtain ⟨i, hi, rfl, hown, hbr⟩ := hrel
    by_cases hlt : i < nbits (bv l)
    · obtain ⟨b, off, rfl, hbB, hcell⟩ := R1 (by rw [length_dg]; omega)
      by_cases h8 : i % 64 = 0
      · have hb8 : (((i : Int) % 64) == 0) = true := by rw [beq_iff_eq]; omega
        have H8 := Lib.hid h8
        clear h8
        go_wp2_with (at_builtin; refine wpList_append_one _ rfl _ _ 23 rfl w1.heap.size 39 i0 (.int .u64 0) 8 Tryd.underlying23 hi0 hz0 hz1 hz2 rfl _ _ .u64 (words ((i + 63) / 64) (bv l % 2 ^ i)) rfl hown _ 0 ?c1 rfl ?c2 ?c3 ?c4 ?_)
        case c1 => rfl
        case c2 => unfold maxLen; omega
        case c3 => omega
        case c4 => exact hbr.size
        intro v4 w4 own4 _ b4
        have e8 : (i + 63) / 64 = i / 64 := by have := H8.out; omega
        rw [e8, words_more2 _ _ (low_lt2 _ _ _ (by have := H8.out; omega))] at own4
        have hb4 := hbr.trans b4
        clear e8 b4
        obtain ⟨g, cp, rfl, hg1, hg2, _⟩ := own_pos2 own4 (by omega)
        have hc4 : w4.cell? ⟨g, i / 64, none⟩ = some (.int .u64 (nth (words (i / 64 + 1) (bv l % 2 ^ i)) (i / 64) : Int)) := by
          rw [own4.cellAt _ (by omega), ints_get _ _ _ (by rw [length_words]; omega)]
        have hf4 : w4.frozen? ⟨g, i / 64, none⟩ = false := own4.frozenAt _
        have hw4 := words_words (i / 64 + 1) (bv l % 2 ^ i) _ (nth_mem _ (i / 64) (by rw [length_words]; omega))
        have hx4 : w4.cell? ⟨b, off + i, none⟩ = some (.int .u8 (bit (bv l) i : Int)) := by
          rw [hb4.cell (p := ⟨b, off + i, none⟩) hbB, hcell i (by rw [length_dg]; exact hlt), nth_dg_bit]
        have hdl := bit_lt (bv l) i
        have Ho := Lib.hid own4
        clear own4 hcell hown
        go_wp2_with fail
        go_region
        go_wp2_with fail
        go_roundw
        case rel =>
          rw [shl_or_bit _ _ _ hw4 hdl (Nat.mod_lt _ (by omega))]
          have hst := Ho.out.stored (i / 64) (.int .u64 ((nth (words (i / 64 + 1) (bv l % 2 ^ i)) (i / 64) ||| bit (bv l) i * 2 ^ (i % 64) : Nat) : Int))
          rw [ints_set, words_low2] at hst
          refine ⟨i + 1, by omega, by go_num, ?_, (hb4.setCell hg1 _).drew⟩
          rw [show (i + 1 + 63) / 64 = i / 64 + 1 by omega]
          exact hst.1.drew
        case measure => simp [intOf]; omega
      · have hb8 : (((i : Int) % 64) == 0) = false := by rw [beq_eq_false_iff_ne]; omega
        have e8 : (i + 63) / 64 = i / 64 + 1 := by omega
        have own4 := hown
        rw [e8] at own4
        obtain ⟨g, cp, rfl, hg1, hg2, _⟩ := own_pos2 own4 (by omega)
        clear e8 h8
        have hc4 : wr.cell? ⟨g, i / 64, none⟩ = some (.int .u64 (nth (words (i / 64 + 1) (bv l % 2 ^ i)) (i / 64) : Int)) := by
          rw [own4.cellAt _ (by omega), ints_get _ _ _ (by rw [length_words]; omega)]
        have hf4 : wr.frozen? ⟨g, i / 64, none⟩ = false := own4.frozenAt _
        have hw4 := words_words (i / 64 + 1) (bv l % 2 ^ i) _ (nth_mem _ (i / 64) (by rw [length_words]; omega))
        have hx4 : wr.cell? ⟨b, off + i, none⟩ = some (.int .u8 (bit (bv l) i : Int)) := by
          rw [hbr.cell (p := ⟨b, off + i, none⟩) hbB, hcell i (by rw [length_dg]; exact hlt), nth_dg_bit]
        have hdl := bit_lt (bv l) i
        have Ho := Lib.hid own4
        clear own4 hcell hown
        go_wp2_with fail
        go_region
        go_wp2_with fail
        go_roundw
        case rel =>
          rw [shl_or_bit _ _ _ hw4 hdl (Nat.mod_lt _ (by omega))]
          have hst := Ho.out.stored (i / 64) (.int .u64 ((nth (words (i / 64 + 1) (bv l % 2 ^ i)) (i / 64) ||| bit (bv l) i * 2 ^ (i % 64) : Nat) : Int))
          rw [ints_set, words_low2] at hst
          refine ⟨i + 1, by omega, by go_num, ?_, (hbr.setCell hg1 _).drew⟩
          rw [show (i + 1 + 63) / 64 = i / 64 + 1 by omega]
          exact hst.1.drew
        case measure => simp [intOf]; omega
    · obtain rfl : i = nbits (bv l) := by omega
      rw [Nat.mod_eq_of_lt (nbits_lt (bv l))] at hown
      go_wp2_with fail
      go_ret
      refine ⟨_, rfl, ?_, b1.trans (hbr.mono b1.size)⟩
      obtain ⟨h1, h2⟩ := hown
      refine ⟨h1, ?_⟩
      rcases h2 with h2 | ⟨g, cap, cur, e1, e2, e3⟩
      · exact .inl h2
      · exact .inr ⟨g, cap, cur, e1, Nat.le_trans b1.size e2, e3⟩
end Go.Proofs.YtabcmdhjbjioiaaDoor
/- The contracts of the document's Same, Copy, Is, Of, Small, Less, digit. Conditions: as typed. -/
namespace Go.Proofs.YtabcmdhjbjioiaaDoor
open Go.RowKit
set_option maxRecDepth 20000
theorem ret_bool2 {a b : Bool} (h : a = b) : Ending.returned (.bool a) = .returned (.bool b) := by rw [h]
set_option maxHeartbeats 400000 in
theorem same02_any (A A2 : Option Addr) (c c2 : Nat) (l m : List Nat) (w : World) (B : Nat) (h1 : Rd .u64 w B A l) (h2 : Rd .u64 w B A2 m) (hl : l.length ≤ 1099511627776) (_hm : m.length ≤ 1099511627776) :
    Calls Tryd.prog 13 #[.slice A l.length c, .slice A2 m.length c2] w fun e w' => e = .returned (.bool (decide (l = m))) ∧ Drawn w w' := by
  by_cases hne : l.length = m.length
  · have hb : ((l.length : Int) != (m.length : Int)) = false := by simp [hne]
    have Hne := Lib.hid hne
    clear hne
    go_enter Tryd.func13, Tryd.ntmps13
    go_wp2_with fail
    go_loopw [5] (fun i wr => ∃ k : Nat, k ≤ l.length ∧ i = .int .i64 k ∧ (∀ j, j < k → nth l j = nth m j) ∧ Drawn w wr) (fun i _ => l.length - (intOf i).toNat)
    case atStart => exact ⟨0, Nat.zero_le _, rfl, fun j hj => absurd hj (by omega), Drawn.refl w⟩
    case round =>
      obtain ⟨k, hk, rfl, hsame, nq, rfl⟩ := hrel
      have Hs := Lib.hid hsame
      clear hsame
      by_cases hlt : k < l.length
      · obtain ⟨b, off, rfl, _, hc⟩ := h1 (by omega)
        obtain ⟨b2, off2, rfl, _, hc2⟩ := h2 (by have := Hne.out; omega)
        have e1 := hc k hlt
        have e2 := hc2 k (by have := Hne.out; omega)
        have hkm : k < m.length := by have := Hne.out; omega
        clear hc hc2
        by_cases hx : nth l k = nth m k
        · have hxb : (((nth l k : Nat) : Int) != ((nth m k : Nat) : Int)) = false := by simp [hx]
          have Hx := Lib.hid hx
          clear hx
          go_wp2_with fail
          go_quiet (fail)
          go_wp2_with fail
          go_roundw
          case rel => exact ⟨k + 1, by omega, by go_num, fun j hj => by (rcases Nat.lt_succ_iff_lt_or_eq.1 hj with h | rfl); exact Hs.out j h; exact Hx.out, Drawn.more _⟩
          case measure => simp [intOf]; omega
        · have hxb : (((nth l k : Nat) : Int) != ((nth m k : Nat) : Int)) = true := by simp; omega
          have Hx := Lib.hid hx
          clear hx
          go_wp2_with fail
          go_quiet (fail)
          go_wp2_with fail
          go_ret
          refine ⟨?_, (Drawn.more _).draws _⟩
          have : l ≠ m := fun e => Hx.out (by rw [e])
          simp [this]
      · go_wp2_with fail
        go_ret
        refine ⟨?_, Drawn.more _⟩
        have : l = m := ext_nth _ _ Hne.out fun j hj => Hs.out j (by omega)
        simp [this]
  · have hb : ((l.length : Int) != (m.length : Int)) = true := by simp; omega
    have Hne := Lib.hid hne
    clear hne
    go_enter Tryd.func13, Tryd.ntmps13
    go_wp2_with fail
    go_ret
    refine ⟨?_, Drawn.refl _⟩
    have : l ≠ m := fun e => Hne.out (by rw [e])
    simp [this]
/-- Words are answered, in new memory. -/
def OutRow (l : List Nat) (w : World) (e : Ending) (w' : World) : Prop := ∃ v, e = .returned v ∧ w'.ownsRow w.heap.size 39 1 v l.length (ints .u64 l) ∧ Below w.heap.size w w'
theorem copy02_any (A : Option Addr) (c : Nat) (l : List Nat) (w : World) (hr : Rd .u64 w w.heap.size A l) (hl : l.length ≤ 1000000) :
    Calls Tryd.prog 11 #[.slice A l.length c] w (OutRow l w) := by
  obtain ⟨i0, hi, hz0, hz1, hz2⟩ := info_parts num_info_u64
  go_enter Tryd.func11, Tryd.ntmps11
  go_wp2_with (at_builtin; refine wpList_append_rd _ rfl (.tmp 3) (.tmp 4) _ rfl w.heap.size 39 i0 _ 8 Tryd.underlying23 hi hz0 hz1 hz2 rfl (.slice (some ⟨w.heap.size, 0, none⟩) 0 0) 0 [] rfl ?c1 .u64 w.heap.size A l.length c l rfl rfl ?c3 ?c4 ?c5 ?c6 ?_)
  case c1 => exact own_of_heap (cur := []) (heap_alloc_new w (.cells #[] 39)) (Nat.le_refl _) (Nat.le_refl _) (Nat.zero_le _) rfl rfl
  case c3 => exact hr.below ((Below.refl _ _).alloc (Nat.le_refl _) _)
  case c4 => unfold maxLen; omega
  case c5 => omega
  case c6 => simp
  intro v1 w1 own1 hg1
  have b1 : Below w.heap.size w w1 := ((Below.refl _ _).alloc (Nat.le_refl _) _).grown hg1 (by simp) (by simp [Value.ownBlock])
  have own1' : w1.ownsRow w.heap.size 39 1 v1 l.length (ints .u64 l) := by simpa using own1
  have Ho := Lib.hid own1'
  clear own1 own1' hg1
  go_wp2_with fail
  go_ret
  exact ⟨v1, rfl, Ho.out, b1⟩
end Go.Proofs.YtabcmdhjbjioiaaDoor
/- Plain facts on adding, taking away and shifting digits to the base 2. No condition but those typed; no program is named. -/
namespace Go.Proofs.YtabcmdhjbjioiaaDoor
/-- What is carried to digit i of a sum. -/
def carry (A B i : Nat) : Nat := (A % 2 ^ i + B % 2 ^ i) / 2 ^ i
/-- What is borrowed from digit i. -/
def borrow (A B i : Nat) : Nat := if A % 2 ^ i < B % 2 ^ i then 1 else 0
theorem low_bit (A i : Nat) : A % 2 ^ (i + 1) = A % 2 ^ i + 2 ^ i * bit A i := by rw [Nat.mod_pow_succ, bit]
theorem borrow_zero (A B : Nat) : borrow A B 0 = 0 := by simp [borrow, Nat.mod_one]
theorem borrow_lt (A B i : Nat) : borrow A B i < 2 := by unfold borrow; split <;> omega
theorem rest_bit (A B i : Nat) (h : B ≤ A) : (bit A i + 2 - bit B i - borrow A B i) % 2 = bit (A - B) i := by
  unfold bit borrow
  have hp : 0 < 2 ^ i := Nat.pow_pos (by omega)
  generalize 2 ^ i = P at *
  have ha := Nat.div_add_mod A P
  have hb := Nat.div_add_mod B P
  have la := Nat.mod_lt A hp
  have lb := Nat.mod_lt B hp
  have hq : B / P ≤ A / P := Nat.div_le_div_right h
  have hm : P * (B / P) ≤ P * (A / P) := Nat.mul_le_mul_left _ hq
  split
  · rename_i hlt
    have hq2 : B / P < A / P := by
      rcases Nat.eq_or_lt_of_le hq with e | e
      · rw [e] at hb; omega
      · exact e
    have e : (A - B) / P = A / P - B / P - 1 := by
      have h3 : A - B = P * (A / P - B / P - 1) + (P + A % P - B % P) := by
        rw [Nat.mul_sub, Nat.mul_sub, Nat.mul_one]
        have h4 : P * (B / P + 1) ≤ P * (A / P) := Nat.mul_le_mul_left _ hq2
        rw [Nat.mul_add, Nat.mul_one] at h4
        omega
      have h5 : P + A % P - B % P < P := by omega
      rw [h3, Nat.mul_add_div hp, Nat.div_eq_of_lt h5, Nat.add_zero]
    rw [e]
    omega
  · have e : (A - B) / P = A / P - B / P := by
      have h3 : A - B = P * (A / P - B / P) + (A % P - B % P) := by
        rw [Nat.mul_sub]
        omega
      have h5 : A % P - B % P < P := by omega
      rw [h3, Nat.mul_add_div hp, Nat.div_eq_of_lt h5, Nat.add_zero]
    rw [e]
    omega
theorem borrow_succ (A B i : Nat) : borrow A B (i + 1) = 1 - (bit A i + 2 - bit B i - borrow A B i) / 2 := by
  have hp : 0 < 2 ^ i := Nat.pow_pos (by omega)
  have hx := bit_lt A i
  have hy := bit_lt B i
  unfold borrow
  rw [low_bit, low_bit]
  have la := Nat.mod_lt A hp
  have lb := Nat.mod_lt B hp
  generalize 2 ^ i = P at *
  generalize bit A i = x at *
  generalize bit B i = y at *
  have hx2 : x = 0 ∨ x = 1 := by omega
  have hy2 : y = 0 ∨ y = 1 := by omega
  rcases hx2 with rfl | rfl <;> rcases hy2 with rfl | rfl <;> simp only [Nat.mul_zero, Nat.mul_one, Nat.add_zero] <;> repeat' split
  all_goals omega
/-- Fewer digits, a lesser number. -/
theorem less_of_nbits {a b : Nat} (h : nbits a < nbits b) : a < b := by
  have h1 := nbits_lt a
  have hb : b ≠ 0 := fun e => by rw [e, nbits_zero] at h; omega
  have h2 := nbits_le b hb
  have h3 : 2 ^ nbits a ≤ 2 ^ (nbits b - 1) := Nat.pow_le_pow_right (by omega) (by omega)
  omega
theorem eq_of_bits (a b k : Nat) (ha : a < 2 ^ k) (hb : b < 2 ^ k) (h : ∀ j, j < k → bit a j = bit b j) : a = b := by
  have e : bw k a = bw k b := ext_nth _ _ (by rw [length_bw, length_bw]) fun j hj => by
    rw [length_bw] at hj
    rw [nth_bw _ _ _ hj, nth_bw _ _ _ hj]
    exact h j hj
  have := congrArg bv e
  rwa [bv_bw, bv_bw, Nat.mod_eq_of_lt ha, Nat.mod_eq_of_lt hb] at this
/-- The highest digit that differs decides. -/
theorem less_of_bit (a b m : Nat) (h : ∀ j, m < j → bit a j = bit b j) (hlt : bit a m < bit b m) : a < b := by
  have h1 : a / 2 ^ (m + 1) = b / 2 ^ (m + 1) := by
    refine eq_of_bits _ _ (a + b) ?_ ?_ fun j _ => ?_
    · exact Nat.lt_of_le_of_lt (Nat.div_le_self _ _) (Nat.lt_of_lt_of_le Nat.lt_two_pow_self (Nat.pow_le_pow_right (by omega) (by omega)))
    · exact Nat.lt_of_le_of_lt (Nat.div_le_self _ _) (Nat.lt_of_lt_of_le Nat.lt_two_pow_self (Nat.pow_le_pow_right (by omega) (by omega)))
    · have := h (m + 1 + j) (by omega)
      unfold bit at *
      rwa [Nat.pow_add, ← Nat.div_div_eq_div_mul, ← Nat.div_div_eq_div_mul] at this
  have ha := Nat.div_add_mod a (2 ^ (m + 1))
  have hb := Nat.div_add_mod b (2 ^ (m + 1))
  rw [low_bit] at ha hb
  rw [h1] at ha
  have la := Nat.mod_lt a (Nat.pow_pos (n := m) (show 0 < 2 by omega))
  have hx := bit_lt b m
  have e1 : bit a m = 0 := by omega
  have e2 : bit b m = 1 := by omega
  rw [e1, Nat.mul_zero] at ha
  rw [e2, Nat.mul_one] at hb
  omega
end Go.Proofs.YtabcmdhjbjioiaaDoor
/- The contracts of the document's Of, Small, Less, digit, Sum, Rest, Shifted. Conditions: as typed. -/
namespace Go.Proofs.YtabcmdhjbjioiaaDoor
open Go.RowKit
set_option maxRecDepth 20000
theorem wordsN_any (A : Option Addr) (c N : Nat) (w : World) (hr : Rd .u8 w w.heap.size A (dg N)) (hl : nbits N ≤ 100000000) (hc : nbits N ≤ c) :
    Calls Tryd.prog 42 #[.slice A (nbits N) c] w (OutNat N w) := by
  have h := words_any A c (dg N) w hr (dg_01 N) (by rw [length_dg]; exact hl) (by rw [length_dg]; exact hc)
  rwa [length_dg, bv_dg] at h
theorem of02_any (n : Nat) (w : World) (hn : n < 18446744073709551616) : Calls Tryd.prog 55 #[.int .u64 n] w (OutNat n w) := by
  have hN : natOf [n] = n := by simp [natOf]
  have hW : Words [n] := by intro x hx; simp at hx; omega
  have hb := nbits_natOf [n] hW
  rw [hN] at hb
  have hD := fun u : World => digits_any (some ⟨u.heap.size, 0, none⟩) 1 [n] (u.alloc (.cells #[.int .u64 n] 39)) ((Rd.lit u .u64 39 [n]).more (by simp)) hW (by simp)
  rw [hN] at hD
  have HD := Lib.hid hD
  clear hD hN hW
  have hb64 : nbits n ≤ 64 := hb
  clear hb
  go_enter Tryd.func55, Tryd.ntmps55
  go_wp2_with fail
  refine (HD.out w).mono ?_
  rintro e w1 ⟨X, d, rfl, hd, R, b1⟩
  have b01 : Below w.heap.size w w1 := ((Below.refl _ _).alloc (Nat.le_refl _) _).trans (b1.mono (by simp))
  go_wp2_with fail
  refine (wordsN_any X d n w1 R (by omega) hd).mono ?_
  rintro e w2 ⟨v, rfl, own, b2⟩
  go_wp2_with fail
  go_ret
  refine ⟨v, rfl, ?_, b01.trans (b2.mono b01.size)⟩
  obtain ⟨h1, h2⟩ := own
  refine ⟨h1, ?_⟩
  rcases h2 with h2 | ⟨g, cap, cur, e1, e2, e3⟩
  · exact .inl h2
  · exact .inr ⟨g, cap, cur, e1, Nat.le_trans b01.size e2, e3⟩
theorem digit_any (A : Option Addr) (c N : Nat) (i : Nat) (w : World) (B : Nat) (hr : Rd .u8 w B A (dg N)) (hl : nbits N ≤ 100000000) :
    Calls Tryd.prog 84 #[.slice A (nbits N) c, .int .i64 i] w fun e w' => e = .returned (.int .u8 (bit N i)) ∧ w = w' := by
  have hd : decide ((i : Int) < 0) = false := by simp
  by_cases h : i < nbits N
  · obtain ⟨b, off, rfl, _, hc⟩ := hr (by rw [length_dg]; omega)
    have hx := hc i (by rw [length_dg]; exact h)
    rw [nth_dg_bit] at hx
    clear hc
    go_enter Tryd.func84, Tryd.ntmps84
    go_wp2_with fail
    go_ret
    exact ⟨rfl, rfl⟩
  · have e : bit N i = 0 := by
      rw [← nth_dg_bit]
      simp [nth, length_dg, show nbits N ≤ i by omega]
    have He := Lib.hid e
    clear e
    go_enter Tryd.func84, Tryd.ntmps84
    go_wp2_with fail
    go_ret
    exact ⟨ret_num (by rw [He.out]; rfl), rfl⟩
set_option maxHeartbeats 400000 in
theorem less02_any (A A2 : Option Addr) (c c2 M N : Nat) (w : World) (B : Nat) (h1 : Rd .u8 w B A (dg M)) (h2 : Rd .u8 w B A2 (dg N)) (hm : nbits M ≤ 100000000) (hn : nbits N ≤ 100000000) :
    Calls Tryd.prog 66 #[.slice A (nbits M) c, .slice A2 (nbits N) c2] w fun e w' => e = .returned (.bool (decide (M < N))) ∧ Drawn w w' := by
  by_cases hne : nbits M = nbits N
  · have hb : ((nbits M : Int) != (nbits N : Int)) = false := by simp [hne]
    have Hne := Lib.hid hne
    have hle : nbits M ≤ nbits N := by omega
    clear hne
    go_enter Tryd.func66, Tryd.ntmps66
    go_wp2_with fail
    go_loopw [5] (fun i wr => ∃ k : Nat, k ≤ nbits M ∧ i = .int .i64 ((k : Int) - 1) ∧ (∀ j, k ≤ j → bit M j = bit N j) ∧ Drawn w wr) (fun i _ => (intOf i + 1).toNat)
    case atStart =>
      refine ⟨nbits M, Nat.le_refl _, rfl, fun j hj => ?_, Drawn.refl _⟩
      rw [← nth_dg_bit, ← nth_dg_bit]
      have := Hne.out
      simp [nth, length_dg, hj, show nbits N ≤ j by omega]
    case round =>
      obtain ⟨k, hk, rfl, hz, hdr⟩ := hrel
      have Hz := Lib.hid hz
      clear hz
      by_cases h0 : k = 0
      · subst h0
        go_wp2_with fail
        go_ret
        refine ⟨ret_bool2 ?_, hdr⟩
        have e : M = N := eq_of_bits M N (nbits M) (nbits_lt M) (by rw [Hne.out]; exact nbits_lt N) fun j _ => Hz.out j (Nat.zero_le _)
        rw [e]
        simp
      · obtain ⟨m, rfl⟩ : ∃ m, k = m + 1 := ⟨k - 1, by omega⟩
        obtain ⟨b, off, rfl, _, hc⟩ := (hdr.rd h1) (by rw [length_dg]; omega)
        obtain ⟨b2, off2, rfl, _, hc2⟩ := (hdr.rd h2) (by rw [length_dg]; omega)
        have e1 := hc m (by rw [length_dg]; omega)
        have e2 := hc2 m (by rw [length_dg]; omega)
        rw [nth_dg_bit] at e1 e2
        have hmN : m < nbits N := by omega
        clear hc hc2
        by_cases hx : bit M m = bit N m
        · have hxb : (((bit M m : Nat) : Int) != ((bit N m : Nat) : Int)) = false := by simp [hx]
          have Hx := Lib.hid hx
          clear hx
          go_wp2_with fail
          go_quiet (fail)
          go_wp2_with fail
          go_roundw
          case rel => exact ⟨m, by omega, rfl, fun j hj => by (rcases Nat.eq_or_lt_of_le hj with rfl | h); exact Hx.out; exact Hz.out j h, hdr.draws _⟩
          case measure => simp [intOf] <;> omega
        · have hxb : (((bit M m : Nat) : Int) != ((bit N m : Nat) : Int)) = true := by simp; omega
          have hiff : M < N ↔ bit M m < bit N m := by
            refine ⟨fun h => ?_, less_of_bit M N m fun j hj => Hz.out j hj⟩
            rcases Nat.lt_trichotomy (bit M m) (bit N m) with h' | h' | h'
            · exact h'
            · exact absurd h' hx
            · have := less_of_bit N M m (fun j hj => (Hz.out j hj).symm) h'
              omega
          have Hi := Lib.hid hiff
          clear hx hiff
          go_wp2_with fail
          go_quiet (fail)
          go_wp2_with fail
          go_quiet (fail)
          go_wp2_with fail
          go_ret
          refine ⟨ret_bool2 ?_, ?_⟩
          · rw [Bool.eq_iff_iff, decide_eq_true_eq, decide_eq_true_eq, Hi.out] <;> omega
          · first | exact hdr.draws _ | exact (hdr.draws _).draws _
  · have hb : ((nbits M : Int) != (nbits N : Int)) = true := by simp; omega
    have hiff : M < N ↔ nbits M < nbits N := by
      refine ⟨fun h => ?_, less_of_nbits⟩
      have := nbits_mono (Nat.le_of_lt h)
      omega
    have Hi := Lib.hid hiff
    clear hne hiff
    go_enter Tryd.func66, Tryd.ntmps66
    go_wp2_with fail
    go_ret
    refine ⟨ret_bool2 ?_, Drawn.refl _⟩
    rw [Bool.eq_iff_iff, decide_eq_true_eq, decide_eq_true_eq, Hi.out] <;> omega
end Go.Proofs.YtabcmdhjbjioiaaDoor

/- Several texts in one; each begins with a remark that says what it shows and on which conditions. -/
import Derived.Test.YtjeliomjnalpcaaDoorKaa
/- The contracts of the document's Words, Is, Same, Copy, Of, Small. Conditions: as typed. -/
namespace Go.Proofs.YtjeliomjnalpcaaDoor
open Go.RowKit
set_option maxRecDepth 20000
theorem own_pos2 {w : World} {base : Nat} {e : TypeId} {n : Nat} {v : Value} {xs : List Value} (h : w.ownsRow base e 1 v n xs) (hn : 0 < n) : ∃ g c, v = .slice (some ⟨g, 0, none⟩) n c ∧ base ≤ g ∧ g < w.heap.size ∧ n ≤ c := by
  rcases h.2 with ⟨_, h0⟩ | ⟨g, cap, cur, rfl, hb, hh, hc, _⟩
  · omega
  · refine ⟨g, cap, rfl, hb, ?_, hc⟩
    rcases Nat.lt_or_ge g w.heap.size with h1 | h1
    · exact h1
    · rw [Array.getElem?_eq_none h1] at hh; cases hh
theorem low_lt2 (N i K : Nat) (h : i ≤ 64 * K) : N % 2 ^ i < 18446744073709551616 ^ K := by
  rw [pow_64_2]
  exact Nat.lt_of_lt_of_le (Nat.mod_lt _ (Nat.pow_pos (by omega))) (Nat.pow_le_pow_right (by omega) h)
theorem words_more2 (K V : Nat) (h : V < 18446744073709551616 ^ K) : words K V ++ [0] = words (K + 1) V := by
  refine ext_nth _ _ (by simp [length_words]) fun j hj => ?_
  have hj' : j < K + 1 := by simpa [length_words] using hj
  rw [nth_words _ _ _ hj']
  by_cases e : j < K
  · have h1 : nth (words K V ++ [0]) j = nth (words K V) j := by simp [nth, List.getElem?_append_left (show j < (words K V).length by rw [length_words]; exact e)]
    rw [h1, nth_words _ _ _ e]
  · obtain rfl : j = K := by omega
    have h1 : nth (words j V ++ [0]) j = 0 := by simp [nth, length_words]
    rw [h1, Nat.div_eq_of_lt h]
/-- a | x << r -/
theorem shl_or_bit (a x r : Nat) (ha : a < 18446744073709551616) (hx : x < 2) (hr : r < 64) :
    bits .or .u64 (a : Int) (IntKind.u64.wrap ((x : Int) * 2 ^ r)) = ((a ||| x * 2 ^ r : Nat) : Int) := by
  have h1 : x * 2 ^ r < 18446744073709551616 := by
    have h2 : x * 2 ^ r ≤ 1 * 2 ^ r := Nat.mul_le_mul_right _ (by omega)
    have h3 : 1 * 2 ^ r ≤ 1 * 2 ^ 63 := Nat.mul_le_mul_left _ (Nat.pow_le_pow_right (by omega) (by omega))
    omega
  have e : ((x : Int) * 2 ^ r) = ((x * 2 ^ r : Nat) : Int) := by simp
  rw [e, IntKind.wrap_u64]
  generalize x * 2 ^ r = y at *
  rw [show ((y : Int) % 18446744073709551616) = (y : Int) by omega, u64_or_nat _ _ ha h1]
/-- A digit more, from below. -/
theorem words_low2 (N i : Nat) : (words (i / 64 + 1) (N % 2 ^ i)).set (i / 64) (nth (words (i / 64 + 1) (N % 2 ^ i)) (i / 64) ||| bit N i * 2 ^ (i % 64)) = words (i / 64 + 1) (N % 2 ^ (i + 1)) := by
  have hd := bit_lt N i
  have hV := low_lt2 N i (i / 64 + 1) (by omega)
  have ew := nth_words (i / 64 + 1) (N % 2 ^ i) (i / 64) (by omega)
  have h1 : nth (words (i / 64 + 1) (N % 2 ^ i)) (i / 64) < 2 ^ (i % 64) := by
    rw [ew]
    refine Nat.lt_of_le_of_lt (Nat.mod_le _ _) ?_
    rw [Nat.div_lt_iff_lt_mul (Nat.pow_pos (by omega)), pow_64_2, ← Nat.pow_add, show i % 64 + 64 * (i / 64) = i by omega]
    exact Nat.mod_lt _ (Nat.pow_pos (by omega))
  have h2 : nth (words (i / 64 + 1) (N % 2 ^ i)) (i / 64) ||| bit N i * 2 ^ (i % 64) < 18446744073709551616 := by
    refine Nat.or_lt_two_pow (n := 64) (Nat.lt_of_lt_of_le h1 (Nat.pow_le_pow_right (by omega) (by omega))) ?_
    have h3 : bit N i * 2 ^ (i % 64) ≤ 1 * 2 ^ (i % 64) := Nat.mul_le_mul_right _ (by omega)
    have h4 : 1 * 2 ^ (i % 64) ≤ 1 * 2 ^ 63 := Nat.mul_le_mul_left _ (Nat.pow_le_pow_right (by omega) (by omega))
    omega
  have ha : nth (words (i / 64 + 1) (N % 2 ^ i)) (i / 64) ||| bit N i * 2 ^ (i % 64) = nth (words (i / 64 + 1) (N % 2 ^ i)) (i / 64) + bit N i * 2 ^ (i % 64) := by
    rw [Nat.or_comm, nat_join (i % 64) _ _ (by simp) h1, Nat.add_comm]
  rw [ha] at h2 ⊢
  have hw : Words ((words (i / 64 + 1) (N % 2 ^ i)).set (i / 64) (nth (words (i / 64 + 1) (N % 2 ^ i)) (i / 64) + bit N i * 2 ^ (i % 64))) := fun y hy => by
    rcases mem_set hy with rfl | h
    · exact h2
    · exact words_words _ _ y h
  have hf := words_natOf _ hw
  rw [List.length_set, length_words, natOf_set _ _ _ (by rw [length_words]; omega), natOf_words, Nat.mod_eq_of_lt hV] at hf
  rw [← hf, Nat.mod_pow_succ, show N / 2 ^ i % 2 = bit N i from rfl]
  congr 2
  rw [pow_64_2, Nat.mul_left_comm, ← Nat.pow_add, show 64 * (i / 64) + i % 64 = i by omega, Nat.mul_comm]
/-- The words of a number are answered, in new memory. -/
def OutNat (N : Nat) (w : World) (e : Ending) (w' : World) : Prop := ∃ v, e = .returned v ∧ w'.ownsRow w.heap.size 22 1 v ((nbits N + 63) / 64) (ints .u64 (wd N)) ∧ Below w.heap.size w w'
set_option maxHeartbeats 1000000 in
theorem words_any (A : Option Addr) (c : Nat) (l : List Nat) (w : World) (hr : Rd .u8 w w.heap.size A l) (h01 : Bits01 l) (hl : l.length ≤ 100000000) (hc : l.length ≤ c) :
    Calls Tryd.prog 28 #[.slice A l.length c] w (OutNat (bv l) w) := by
  obtain ⟨i0, hi0, hz0, hz1, hz2⟩ := info_parts num_info_u64
  have hnb := nbits_bv_le l h01
  go_enter Tryd.func28, Tryd.ntmps28
  go_wp2_with fail
  refine (numTrim_any A c l w hr h01 (by omega) hc).mono ?_
  rintro e w1 ⟨X, d, rfl, hd, R1, b1⟩
  go_wp2_with fail
  go_loopw [3, 4] (fun v j wr => ∃ i : Nat, i ≤ nbits (bv l) ∧ j = .int .i64 i ∧ wr.ownsRow w1.heap.size 22 1 v ((i + 63) / 64) (ints .u64 (words ((i + 63) / 64) (bv l % 2 ^ i))) ∧ Below w1.heap.size w1 wr) (fun _ j _ => nbits (bv l) - (intOf j).toNat)
  case atStart => exact ⟨0, Nat.zero_le _, rfl, World.ownsRow_nil _ _ _ _, Below.refl _ _⟩
  case round =>
    obtain ⟨i, hi, rfl, hown, hbr⟩ := hrel
    by_cases hlt : i < nbits (bv l)
    · obtain ⟨b, off, rfl, hbB, hcell⟩ := R1 (by rw [length_dg]; omega)
      by_cases h8 : i % 64 = 0
      · have hb8 : (((i : Int) % 64) == 0) = true := by rw [beq_iff_eq]; omega
        have H8 := Lib.hid h8
        clear h8
        go_wp2_with (at_builtin; refine wpList_append_one _ rfl _ _ 28 rfl w1.heap.size 22 i0 (.int .u64 0) 8 Tryd.underlying28 hi0 hz0 hz1 hz2 rfl _ _ .u64 (words ((i + 63) / 64) (bv l % 2 ^ i)) rfl hown _ 0 ?c1 rfl ?c2 ?c3 ?c4 ?_)
        case c1 => rfl
        case c2 => unfold maxLen; omega
        case c3 => omega
        case c4 => exact hbr.size
        intro v4 w4 own4 _ b4
        have e8 : (i + 63) / 64 = i / 64 := by have := H8.out; omega
        rw [e8, words_more2 _ _ (low_lt2 _ _ _ (by have := H8.out; omega))] at own4
        have hb4 := hbr.trans b4
        clear e8 b4
        obtain ⟨g, cp, rfl, hg1, hg2, _⟩ := own_pos2 own4 (by omega)
        have hc4 : w4.cell? ⟨g, i / 64, none⟩ = some (.int .u64 (nth (words (i / 64 + 1) (bv l % 2 ^ i)) (i / 64) : Int)) := by
          rw [own4.cellAt _ (by omega), ints_get _ _ _ (by rw [length_words]; omega)]
        have hf4 : w4.frozen? ⟨g, i / 64, none⟩ = false := own4.frozenAt _
        have hw4 := words_words (i / 64 + 1) (bv l % 2 ^ i) _ (nth_mem _ (i / 64) (by rw [length_words]; omega))
        have hx4 : w4.cell? ⟨b, off + i, none⟩ = some (.int .u8 (bit (bv l) i : Int)) := by
          rw [hb4.cell (p := ⟨b, off + i, none⟩) hbB, hcell i (by rw [length_dg]; exact hlt), nth_dg_bit]
        have hdl := bit_lt (bv l) i
        have Ho := Lib.hid own4
        clear own4 hcell hown
        go_wp2_with fail
        go_region
        go_wp2_with fail
        go_roundw
        case rel =>
          rw [shl_or_bit _ _ _ hw4 hdl (Nat.mod_lt _ (by omega))]
          have hst := Ho.out.stored (i / 64) (.int .u64 ((nth (words (i / 64 + 1) (bv l % 2 ^ i)) (i / 64) ||| bit (bv l) i * 2 ^ (i % 64) : Nat) : Int))
          rw [ints_set, words_low2] at hst
          refine ⟨i + 1, by omega, by go_num, ?_, (hb4.setCell hg1 _).drew⟩
          rw [show (i + 1 + 63) / 64 = i / 64 + 1 by omega]
          exact hst.1.drew
        case measure => simp [intOf]; omega
      · have hb8 : (((i : Int) % 64) == 0) = false := by rw [beq_eq_false_iff_ne]; omega
        have e8 : (i + 63) / 64 = i / 64 + 1 := by omega
        have own4 := hown
        rw [e8] at own4
        obtain ⟨g, cp, rfl, hg1, hg2, _⟩ := own_pos2 own4 (by omega)
        clear e8 h8
        have hc4 : wr.cell? ⟨g, i / 64, none⟩ = some (.int .u64 (nth (words (i / 64 + 1) (bv l % 2 ^ i)) (i / 64) : Int)) := by
          rw [own4.cellAt _ (by omega), ints_get _ _ _ (by rw [length_words]; omega)]
        have hf4 : wr.frozen? ⟨g, i / 64, none⟩ = false := own4.frozenAt _
        have hw4 := words_words (i / 64 + 1) (bv l % 2 ^ i) _ (nth_mem _ (i / 64) (by rw [length_words]; omega))
        have hx4 : wr.cell? ⟨b, off + i, none⟩ = some (.int .u8 (bit (bv l) i : Int)) := by
          rw [hbr.cell (p := ⟨b, off + i, none⟩) hbB, hcell i (by rw [length_dg]; exact hlt), nth_dg_bit]
        have hdl := bit_lt (bv l) i
        have Ho := Lib.hid own4
        clear own4 hcell hown
        go_wp2_with fail
        go_region
        go_wp2_with fail
        go_roundw
        case rel =>
          rw [shl_or_bit _ _ _ hw4 hdl (Nat.mod_lt _ (by omega))]
          have hst := Ho.out.stored (i / 64) (.int .u64 ((nth (words (i / 64 + 1) (bv l % 2 ^ i)) (i / 64) ||| bit (bv l) i * 2 ^ (i % 64) : Nat) : Int))
          rw [ints_set, words_low2] at hst
          refine ⟨i + 1, by omega, by go_num, ?_, (hbr.setCell hg1 _).drew⟩
          rw [show (i + 1 + 63) / 64 = i / 64 + 1 by omega]
          exact hst.1.drew
        case measure => simp [intOf]; omega
    · obtain rfl : i = nbits (bv l) := by omega
      rw [Nat.mod_eq_of_lt (nbits_lt (bv l))] at hown
      go_wp2_with fail
      go_ret
      refine ⟨_, rfl, ?_, b1.trans (hbr.mono b1.size)⟩
      obtain ⟨h1, h2⟩ := hown
      refine ⟨h1, ?_⟩
      rcases h2 with h2 | ⟨g, cap, cur, e1, e2, e3⟩
      · exact .inl h2
      · exact .inr ⟨g, cap, cur, e1, Nat.le_trans b1.size e2, e3⟩
end Go.Proofs.YtjeliomjnalpcaaDoor
/- The contracts of the document's Same, Copy, Is, Of, Small, Less, digit. Conditions: as typed. -/
namespace Go.Proofs.YtjeliomjnalpcaaDoor
open Go.RowKit
set_option maxRecDepth 20000
theorem ret_bool2 {a b : Bool} (h : a = b) : Ending.returned (.bool a) = .returned (.bool b) := by rw [h]
end Go.Proofs.YtjeliomjnalpcaaDoor
/- Plain facts on adding, taking away and shifting digits to the base 2. No condition but those typed; no program is named. -/
namespace Go.Proofs.YtjeliomjnalpcaaDoor
/-- What is carried to digit i of a sum. -/
def carry (A B i : Nat) : Nat := (A % 2 ^ i + B % 2 ^ i) / 2 ^ i
theorem low_bit (A i : Nat) : A % 2 ^ (i + 1) = A % 2 ^ i + 2 ^ i * bit A i := by rw [Nat.mod_pow_succ, bit]
theorem bv_noughts (k : Nat) (l : List Nat) : bv (List.replicate k 0 ++ l) = 2 ^ k * bv l := by
  rw [bv_append, List.length_replicate, bv_none (List.replicate k 0) fun j => by simp [nth, List.getElem?_replicate]; split <;> rfl]
  omega
theorem bits_noughts (k n : Nat) : Bits01 (List.replicate k 0 ++ dg n) := fun x hx => by
  rcases List.mem_append.1 hx with h | h
  · rw [List.eq_of_mem_replicate h]; omega
  · exact dg_01 n x h
/-- Fewer digits, a lesser number. -/
theorem less_of_nbits {a b : Nat} (h : nbits a < nbits b) : a < b := by
  have h1 := nbits_lt a
  have hb : b ≠ 0 := fun e => by rw [e, nbits_zero] at h; omega
  have h2 := nbits_le b hb
  have h3 : 2 ^ nbits a ≤ 2 ^ (nbits b - 1) := Nat.pow_le_pow_right (by omega) (by omega)
  omega
theorem eq_of_bits (a b k : Nat) (ha : a < 2 ^ k) (hb : b < 2 ^ k) (h : ∀ j, j < k → bit a j = bit b j) : a = b := by
  have e : bw k a = bw k b := ext_nth _ _ (by rw [length_bw, length_bw]) fun j hj => by
    rw [length_bw] at hj
    rw [nth_bw _ _ _ hj, nth_bw _ _ _ hj]
    exact h j hj
  have := congrArg bv e
  rwa [bv_bw, bv_bw, Nat.mod_eq_of_lt ha, Nat.mod_eq_of_lt hb] at this
/-- The highest digit that differs decides. -/
theorem less_of_bit (a b m : Nat) (h : ∀ j, m < j → bit a j = bit b j) (hlt : bit a m < bit b m) : a < b := by
  have h1 : a / 2 ^ (m + 1) = b / 2 ^ (m + 1) := by
    refine eq_of_bits _ _ (a + b) ?_ ?_ fun j _ => ?_
    · exact Nat.lt_of_le_of_lt (Nat.div_le_self _ _) (Nat.lt_of_lt_of_le Nat.lt_two_pow_self (Nat.pow_le_pow_right (by omega) (by omega)))
    · exact Nat.lt_of_le_of_lt (Nat.div_le_self _ _) (Nat.lt_of_lt_of_le Nat.lt_two_pow_self (Nat.pow_le_pow_right (by omega) (by omega)))
    · have := h (m + 1 + j) (by omega)
      unfold bit at *
      rwa [Nat.pow_add, ← Nat.div_div_eq_div_mul, ← Nat.div_div_eq_div_mul] at this
  have ha := Nat.div_add_mod a (2 ^ (m + 1))
  have hb := Nat.div_add_mod b (2 ^ (m + 1))
  rw [low_bit] at ha hb
  rw [h1] at ha
  have la := Nat.mod_lt a (Nat.pow_pos (n := m) (show 0 < 2 by omega))
  have hx := bit_lt b m
  have e1 : bit a m = 0 := by omega
  have e2 : bit b m = 1 := by omega
  rw [e1, Nat.mul_zero] at ha
  rw [e2, Nat.mul_one] at hb
  omega
end Go.Proofs.YtjeliomjnalpcaaDoor
/- The contracts of the document's Of, Small, Less, digit, Sum, Rest, Shifted. Conditions: as typed. -/
namespace Go.Proofs.YtjeliomjnalpcaaDoor
open Go.RowKit
set_option maxRecDepth 20000
theorem wordsN_any (A : Option Addr) (c N : Nat) (w : World) (hr : Rd .u8 w w.heap.size A (dg N)) (hl : nbits N ≤ 100000000) (hc : nbits N ≤ c) :
    Calls Tryd.prog 28 #[.slice A (nbits N) c] w (OutNat N w) := by
  have h := words_any A c (dg N) w hr (dg_01 N) (by rw [length_dg]; exact hl) (by rw [length_dg]; exact hc)
  rwa [length_dg, bv_dg] at h
set_option maxHeartbeats 400000 in
theorem less02_any (A A2 : Option Addr) (c c2 M N : Nat) (w : World) (B : Nat) (h1 : Rd .u8 w B A (dg M)) (h2 : Rd .u8 w B A2 (dg N)) (hm : nbits M ≤ 100000000) (hn : nbits N ≤ 100000000) :
    Calls Tryd.prog 59 #[.slice A (nbits M) c, .slice A2 (nbits N) c2] w fun e w' => e = .returned (.bool (decide (M < N))) ∧ Drawn w w' := by
  by_cases hne : nbits M = nbits N
  · have hb : ((nbits M : Int) != (nbits N : Int)) = false := by simp [hne]
    have Hne := Lib.hid hne
    have hle : nbits M ≤ nbits N := by omega
    clear hne
    go_enter Tryd.func59, Tryd.ntmps59
    go_wp2_with fail
    go_loopw [5] (fun i wr => ∃ k : Nat, k ≤ nbits M ∧ i = .int .i64 ((k : Int) - 1) ∧ (∀ j, k ≤ j → bit M j = bit N j) ∧ Drawn w wr) (fun i _ => (intOf i + 1).toNat)
    case atStart =>
      refine ⟨nbits M, Nat.le_refl _, rfl, fun j hj => ?_, Drawn.refl _⟩
      rw [← nth_dg_bit, ← nth_dg_bit]
      have := Hne.out
      simp [nth, length_dg, hj, show nbits N ≤ j by omega]
    case round =>
      obtain ⟨k, hk, rfl, hz, hdr⟩ := hrel
      have Hz := Lib.hid hz
      clear hz
      by_cases h0 : k = 0
      · subst h0
        go_wp2_with fail
        go_ret
        refine ⟨ret_bool2 ?_, hdr⟩
        have e : M = N := eq_of_bits M N (nbits M) (nbits_lt M) (by rw [Hne.out]; exact nbits_lt N) fun j _ => Hz.out j (Nat.zero_le _)
        rw [e]
        simp
      · obtain ⟨m, rfl⟩ : ∃ m, k = m + 1 := ⟨k - 1, by omega⟩
        obtain ⟨b, off, rfl, _, hc⟩ := (hdr.rd h1) (by rw [length_dg]; omega)
        obtain ⟨b2, off2, rfl, _, hc2⟩ := (hdr.rd h2) (by rw [length_dg]; omega)
        have e1 := hc m (by rw [length_dg]; omega)
        have e2 := hc2 m (by rw [length_dg]; omega)
        rw [nth_dg_bit] at e1 e2
        have hmN : m < nbits N := by omega
        clear hc hc2
        by_cases hx : bit M m = bit N m
        · have hxb : (((bit M m : Nat) : Int) != ((bit N m : Nat) : Int)) = false := by simp [hx]
          have Hx := Lib.hid hx
          clear hx
          go_wp2_with fail
          go_quiet (fail)
          go_wp2_with fail
          go_roundw
          case rel => exact ⟨m, by omega, rfl, fun j hj => by (rcases Nat.eq_or_lt_of_le hj with rfl | h); exact Hx.out; exact Hz.out j h, hdr.draws _⟩
          case measure => simp [intOf] <;> omega
        · have hxb : (((bit M m : Nat) : Int) != ((bit N m : Nat) : Int)) = true := by simp; omega
          have hiff : M < N ↔ bit M m < bit N m := by
            refine ⟨fun h => ?_, less_of_bit M N m fun j hj => Hz.out j hj⟩
            rcases Nat.lt_trichotomy (bit M m) (bit N m) with h' | h' | h'
            · exact h'
            · exact absurd h' hx
            · have := less_of_bit N M m (fun j hj => (Hz.out j hj).symm) h'
              omega
          have Hi := Lib.hid hiff
          clear hx hiff
          go_wp2_with fail
          go_quiet (fail)
          go_wp2_with fail
          go_quiet (fail)
          go_wp2_with fail
          go_ret
          refine ⟨ret_bool2 ?_, ?_⟩
          · rw [Bool.eq_iff_iff, decide_eq_true_eq, decide_eq_true_eq, Hi.out] <;> omega
          · first | exact hdr.draws _ | exact (hdr.draws _).draws _
  · have hb : ((nbits M : Int) != (nbits N : Int)) = true := by simp; omega
    have hiff : M < N ↔ nbits M < nbits N := by
      refine ⟨fun h => ?_, less_of_nbits⟩
      have := nbits_mono (Nat.le_of_lt h)
      omega
    have Hi := Lib.hid hiff
    clear hne hiff
    go_enter Tryd.func59, Tryd.ntmps59
    go_wp2_with fail
    go_ret
    refine ⟨ret_bool2 ?_, Drawn.refl _⟩
    rw [Bool.eq_iff_iff, decide_eq_true_eq, decide_eq_true_eq, Hi.out] <;> omega
end Go.Proofs.YtjeliomjnalpcaaDoor
/- The contracts of the document's Sum and Rest. Conditions: as typed. -/
namespace Go.Proofs.YtjeliomjnalpcaaDoor
open Go.RowKit
set_option maxRecDepth 20000
end Go.Proofs.YtjeliomjnalpcaaDoor
/- The contracts of the document's Shifted, FromBytes, Bytes, Small. Conditions: as typed. -/
namespace Go.Proofs.YtjeliomjnalpcaaDoor
open Go.RowKit
set_option maxRecDepth 20000
theorem shiftUp_any (A : Option Addr) (c N k : Nat) (w : World) (hr : Rd .u8 w w.heap.size A (dg N)) (hn : nbits N ≤ 10000000) (hk : k ≤ 10000000) :
    Calls Tryd.prog 29 #[.slice A (nbits N) c, .int .i64 k] w (OutNum (2 ^ k * N) w) := by
  obtain ⟨i0, hi, hz0, hz1, hz2⟩ := info_parts num_info_u8
  go_enter Tryd.func29, Tryd.ntmps29
  go_wp2_with (at_make; refine wpList_make_full _ rfl _ _ 50 rfl w.heap.size 5 i0 (.int .u8 0) 1 Tryd.underlying50 hi hz0 hz1 _ _ _ _ k rfl rfl ?c1 ?c2 ?c3 ?c4 ?c5 ?_)
  case c1 => rfl
  case c2 => rfl
  case c3 => rw [hz2]; omega
  case c4 => unfold maxLen; omega
  case c5 => exact Nat.le_refl _
  intro w1 own hg
  have b1 : Below w.heap.size w w1 := (Below.refl _ _).grown hg (Nat.le_refl _) (by simp)
  have own0 : w1.ownsRow w.heap.size 5 1 (.slice (some ⟨w.heap.size, 0, none⟩) k k) k (ints .u8 (List.replicate k 0)) := by
    have e : (madeCells #[Value.int .u8 0] k).toList = ints .u8 (List.replicate k 0) := (toList_madeCells_one _ _).trans (by simp [ints])
    rw [← e]
    exact own
  have Ho := Lib.hid own0
  clear own own0 hg
  go_wp2_with (at_builtin; refine wpList_append_rd _ rfl (.tmp 18) (.tmp 19) _ rfl w.heap.size 5 i0 _ 1 Tryd.underlying50 hi hz0 hz1 hz2 rfl _ k _ rfl Ho.out .u8 w.heap.size A (nbits N) c (dg N) rfl ?d2 ?d3 ?d4 ?d5 ?d6 ?_)
  case d2 => exact length_dg _
  case d3 => exact hr.below b1
  case d4 => unfold maxLen; omega
  case d5 => omega
  case d6 => exact b1.size
  intro v2 w2 own2 hg2
  have b2 : Below w.heap.size w w2 := b1.trans (below_of_grown _ Ho.out hg2 b1.size)
  rw [← ints_append] at own2
  obtain ⟨X, d, rfl, hd, _⟩ := own_form own2
  have R2 := Rd.own own2
  have hlen : (List.replicate k 0 ++ dg N).length = k + nbits N := by simp [length_dg]
  have T := numTrim_any X d (List.replicate k 0 ++ dg N) w2 R2 (bits_noughts k N) (by rw [hlen]; omega) (by rw [hlen]; exact hd)
  rw [hlen, bv_noughts, bv_dg] at T
  have HT := Lib.hid T
  clear T R2 own2 hg2 Ho hlen
  go_wp2_with fail
  refine (HT.out).mono ?_
  rintro e w3 ⟨Y, f, rfl, hf, R, b3⟩
  go_wp2_with fail
  go_ret
  exact ⟨Y, f, rfl, hf, R, b2.trans (b3.mono b2.size)⟩
end Go.Proofs.YtjeliomjnalpcaaDoor
/- The contract of the document's Small. Conditions: as typed. -/
namespace Go.Proofs.YtjeliomjnalpcaaDoor
open Go.RowKit
set_option maxRecDepth 20000
/-- What Small answers. -/
def smallV (N : Nat) : Int := if N < 18446744073709551616 then (N : Int) else 0
def smallB (N : Nat) : Bool := decide (N < 18446744073709551616)
end Go.Proofs.YtjeliomjnalpcaaDoor

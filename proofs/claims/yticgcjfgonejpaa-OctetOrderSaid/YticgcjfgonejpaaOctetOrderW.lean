/- OctetOrder's walk: it answers true, and writes nothing that was there. No condition but what the arguments' types give. -/
import Derived.Test.YticgcjfgonejpaaWorks
import Derived.Test.YticgcjfgonejpaaStr
import Derived.WalkLawsBesides
namespace Go.Proofs.Yticgcjfgonejpaa
open Go.RowKit

theorem less_iff (a b : List Nat) (ha : Words a) (hb : Words b) (m : Nat) (h : ∀ j, m + 1 ≤ j → nth a j = nth b j) (hne : nth a m ≠ nth b m) : natOf a < natOf b ↔ nth a m < nth b m := by
  refine ⟨fun h1 => ?_, natOf_less a b ha m h⟩
  rcases Nat.lt_trichotomy (nth a m) (nth b m) with h2 | h2 | h2
  · exact h2
  · exact absurd h2 hne
  · have := natOf_less b a hb m (fun j hj => (h j hj).symm) h2
    omega
theorem nth_over (l : List Nat) (j : Nat) (h : l.length ≤ j) : nth l j = 0 := by simp [nth, h]
theorem ret_bool {a b : Bool} (h : a = b) : Ending.returned (.bool a) = .returned (.bool b) := by rw [h]

set_option maxHeartbeats 400000 in
theorem smaller_any (A A2 : Option Addr) (c c2 : Nat) (a b : List Nat) (w : World) (B : Nat) (h1 : Rd .u64 w B A a) (h2 : Rd .u64 w B A2 b) (ha : Words a) (hb : Words b) (hal : a.length ≤ 1099511627776) (hbl : b.length ≤ 1099511627776) :
    Calls Try.prog 18 #[.slice A a.length c, .slice A2 b.length c2] w fun e w' => e = .returned (.bool (decide (natOf a < natOf b))) ∧ w = w' := by
  go_enter Try.func18, Try.ntmps18
  go_wp2_with fail
  go_loop [5] (fun i => ∃ k : Nat, (k ≤ a.length ∨ k ≤ b.length) ∧ i = .int .i64 ((k : Int) - 1) ∧ ∀ j, k ≤ j → nth a j = nth b j) (fun i => (intOf i + 1).toNat)
  case atStart => exact ⟨max a.length b.length, by omega, by congr 1; omega, fun j hj => by rw [nth_over a j (by omega), nth_over b j (by omega)]⟩
  case round =>
    obtain ⟨k, hk, rfl, hz⟩ := hrel
    have Hz := Lib.hid hz
    clear hz
    by_cases h0 : k = 0
    · subst h0
      go_wp2_with fail
      go_ret
      have e := natOf_ext a b fun j => Hz.out j (Nat.zero_le _)
      exact ⟨ret_bool (by rw [e]; simp), rfl⟩
    · obtain ⟨m, rfl⟩ : ∃ m, k = m + 1 := ⟨k - 1, by omega⟩
      by_cases hA : m < a.length
      · obtain ⟨x, off, rfl, _, hc⟩ := h1 (by omega)
        have hx := hc m hA
        clear hc
        by_cases hB : m < b.length
        · obtain ⟨x2, off2, rfl, _, hc2⟩ := h2 (by omega)
          have hx2 := hc2 m hB
          clear hc2
          by_cases he : nth a m = nth b m
          · have hq : (((nth a m : Nat) : Int) != ((nth b m : Nat) : Int)) = false := by simp [he]
            have He := Lib.hid he
            clear he
            go_wp2_with fail
            go_round
            case rel => exact ⟨m, by omega, rfl, fun j hj => by (rcases Nat.eq_or_lt_of_le hj with rfl | h); exact He.out; exact Hz.out j h⟩
            case measure => simp [intOf] <;> omega
          · have hq : (((nth a m : Nat) : Int) != ((nth b m : Nat) : Int)) = true := by simp; omega
            have Hl := Lib.hid (less_iff a b ha hb m Hz.out he)
            have He := Lib.hid he
            clear he
            go_wp2_with fail
            go_ret
            exact ⟨ret_bool (by rw [Bool.eq_iff_iff, decide_eq_true_eq, decide_eq_true_eq, Hl.out] <;> omega), rfl⟩
        · have hov := nth_over b m (by omega)
          by_cases he : nth a m = 0
          · have hq : (((nth a m : Nat) : Int) != 0) = false := by simp [he]
            have He := Lib.hid (he.trans hov.symm)
            clear he hov
            go_wp2_with fail
            go_round
            case rel => exact ⟨m, by omega, rfl, fun j hj => by (rcases Nat.eq_or_lt_of_le hj with rfl | h); exact He.out; exact Hz.out j h⟩
            case measure => simp [intOf] <;> omega
          · have hq : (((nth a m : Nat) : Int) != 0) = true := by simp; omega
            have Hl := Lib.hid (less_iff a b ha hb m Hz.out (by omega))
            have Hov := Lib.hid hov
            clear he hov
            go_wp2_with fail
            go_ret
            exact ⟨ret_bool (by rw [Bool.eq_iff_iff, decide_eq_true_eq, decide_eq_true_eq, Hl.out, Hov.out] <;> omega), rfl⟩
      · have hB : m < b.length := by omega
        have hov := nth_over a m (by omega)
        obtain ⟨x2, off2, rfl, _, hc2⟩ := h2 (by omega)
        have hx2 := hc2 m hB
        clear hc2
        by_cases he : nth b m = 0
        · have hq : ((0 : Int) != ((nth b m : Nat) : Int)) = false := by simp [he]
          have He := Lib.hid (hov.trans he.symm)
          clear he hov
          go_wp2_with fail
          go_round
          case rel => exact ⟨m, by omega, rfl, fun j hj => by (rcases Nat.eq_or_lt_of_le hj with rfl | h); exact He.out; exact Hz.out j h⟩
          case measure => simp [intOf] <;> omega
        · have hq : ((0 : Int) != ((nth b m : Nat) : Int)) = true := by simp; omega
          have Hl := Lib.hid (less_iff a b ha hb m Hz.out (by omega))
          have Hov := Lib.hid hov
          clear he hov
          go_wp2_with fail
          go_ret
          exact ⟨ret_bool (by rw [Bool.eq_iff_iff, decide_eq_true_eq, decide_eq_true_eq, Hl.out, Hov.out] <;> omega), rfl⟩

theorem octetOrder_walk (A0 : Option Addr) (c0 : Nat) (l0 : List Nat) (A1 : Option Addr) (c1 : Nat) (l1 : List Nat) (A2 : Option Addr) (c2 : Nat) (l2 : List Nat) (w : World)
    (r0 : Rd .u64 w w.heap.size A0 l0) (y0 : Words l0) (r1 : Rd .u64 w w.heap.size A1 l1) (y1 : Words l1) (r2 : Rd .u8 w w.heap.size A2 l2) (_y2 : Bytes l2) :
    Calls Try.prog 6 #[.slice A0 l0.length c0, .slice A1 l1.length c1, .slice A2 l2.length c2] w fun e w' => e = .returned (.bool true) ∧ Below w.heap.size w w' := by
  by_cases h0 : 100 < l0.length
  · go_enter Try.func6, Try.ntmps6
    go_wp2_with fail
    refine (works_any _).mono ?_
    rintro e w1 ⟨rfl, b1⟩
    go_wp2_with fail
    go_ret
    exact ⟨rfl, b1⟩
  · by_cases h1 : 100 < l1.length
    · go_enter Try.func6, Try.ntmps6
      go_wp2_with fail
      refine (works_any _).mono ?_
      rintro e w1 ⟨rfl, b1⟩
      go_wp2_with fail
      go_ret
      exact ⟨rfl, b1⟩
    · by_cases h2 : 1024 < l2.length
      · go_enter Try.func6, Try.ntmps6
        go_wp2_with fail
        refine (works_any _).mono ?_
        rintro e w1 ⟨rfl, b1⟩
        go_wp2_with fail
        go_ret
        exact ⟨rfl, b1⟩
      · have n0 := blen_natOf l0 y0
        have n1 := blen_natOf l1 y1
        go_enter Try.func6, Try.ntmps6
        go_wp2_with fail
        refine (putNat_yes none A0 0 c0 [] l0 w Rd.nil (by decide) r0 y0 (by omega) (by omega)).mono ?_
        rintro e w1 ⟨v1, rfl, own1, b1⟩
        rw [List.nil_append] at own1
        obtain ⟨X1, d1, rfl, _⟩ := own_form own1
        go_wp2_with fail
        refine (putNat_yes none A1 0 c1 [] l1 w1 Rd.nil (by decide) ((r1.below b1).more b1.size) y1 (by omega) (by omega)).mono ?_
        rintro e w2 ⟨v2, rfl, own2, b2⟩
        rw [List.nil_append] at own2
        obtain ⟨X2, d2, rfl, _⟩ := own_form own2
        have b12 := b1.trans (b2.mono b1.size)
        go_wp2_with fail
        refine (putNat_yes A2 A0 c2 c0 l2 l0 w2 ((r2.below b12).more b12.size) (by omega) ((r0.below b12).more b12.size) y0 (by omega) (by omega)).mono ?_
        rintro e w3 ⟨v3, rfl, own3, b3⟩
        obtain ⟨X3, d3, rfl, _⟩ := own_form own3
        have b13 := b12.trans (b3.mono b12.size)
        have s3 := run_str (P := Try.prog) w3 22 9 5 Try.underlying22 Try.underlying5 Try.underlying9 _ X3 _ d3 (Rd.own own3)
        rw [List.length_append] at s3
        have s0 := run_str (P := Try.prog) w3 22 9 5 Try.underlying22 Try.underlying5 Try.underlying9 _ A2 _ c2 (r2.below b13)
        have s1 := run_str (P := Try.prog) w3 22 9 5 Try.underlying22 Try.underlying5 Try.underlying9 _ X1 _ d1 (((Rd.own own1).below b2).below (b3.mono b2.size))
        have s2 := run_str (P := Try.prog) w3 22 9 5 Try.underlying22 Try.underlying5 Try.underlying9 _ X2 _ d2 ((Rd.own own2).below b3)
        have z2 : (str l2).size ≤ 1024 := by rw [str_size]; omega
        have z1 : (str (long (natOf l0))).size ≤ 1024 := by rw [str_size, length_long]; omega
        have hne : ((str (l2 ++ long (natOf l0))).toList == (str l2 ++ str (long (natOf l0))).toList) = true := by rw [str_append]; exact str_same _
        have e1 := str_less (natOf l0) (natOf l1) (by omega) (by omega)
        have e2 := str_less (natOf l1) (natOf l0) (by omega) (by omega)
        have R0 := (r0.below b13)
        have R1 := (r1.below b13)
        clear own1 own2 own3 n0 n1 r0 r1 r2
        go_wp2_with fail
        refine (smaller_any _ _ _ _ l0 l1 _ _ R0 R1 y0 y1 (by omega) (by omega)).mono ?_
        rintro e w4 ⟨rfl, rfl⟩
        go_wp2_with fail
        refine (smaller_any _ _ _ _ l1 l0 _ _ R1 R0 y1 y0 (by omega) (by omega)).mono ?_
        rintro e w4 ⟨rfl, rfl⟩
        go_wp2_with fail
        refine (works_any _).mono ?_
        rintro e w5 ⟨rfl, b5⟩
        go_wp2_with fail
        go_ret
        exact ⟨rfl, b13.trans (b5.mono b13.size)⟩
end Go.Proofs.Yticgcjfgonejpaa

/- Several texts in one; each begins with a remark that says what it shows and on which conditions. -/
import Derived.Test.YtjghhdoklfpdfaaKba
import Derived.Test.YtjghhdoklfpdfaaKaj
import Derived.Test.YtjghhdoklfpdfaaKbd
/- The document's trying, powers and passing of chapter 9. Conditions: numbers below 2^32. -/
namespace Go.Proofs.Ytjghhdoklfpdfaa
open Go.RowKit
set_option maxRecDepth 20000
theorem mod_form9 (a k : Nat) (b : Bool) (h : decide (a % k = 0) = b) : (((a : Int) % (k : Int)) == 0) = b := by
  rw [← h, Bool.eq_iff_iff, beq_iff_eq, decide_eq_true_eq]; omega
set_option maxHeartbeats 1000000 in
theorem refTrial (n most r : Nat) (hn : n < 18446744073709551616) (hm : most < 18446744073709551616) (hr : IsTrial n most r) (b : Bool) (hb : b = true ↔ r ≠ 0) (w : World) :
    Calls Try.prog 11 #[.int .u64 n, .int .u64 most] w fun e w' => e = .returned (.tuple #[.int .u64 r, .bool b]) ∧ w = w' := by
  obtain ⟨t, ht⟩ : ∃ t, min most 65536 = t := ⟨_, rfl⟩
  have hmin : min (most : Int) 65536 = (t : Int) := by omega
  have hmin2 : (if (most : Int) ≤ 65536 then (most : Int) else 65536) = (t : Int) := by split <;> omega
  have htl : t ≤ 65536 := by omega
  have HT := Lib.hid ht
  have HR := Lib.hid hr
  have HB := Lib.hid hb
  clear hr hb ht
  go_enter Try.func11, Try.ntmps11
  go_wp2_with fail
  go_loopw [6] (fun dv wr => ∃ d : Nat, 2 ≤ d ∧ d ≤ 65537 ∧ dv = .int .u64 d ∧ (∀ e, 2 ≤ e → e < d → n % e ≠ 0) ∧ w = wr) (fun dv _ => 65537 - (intOf dv).toNat)
  case atStart => exact ⟨2, Nat.le_refl _, by omega, rfl, fun e h1 h2 => by omega, rfl⟩
  case round =>
    obtain ⟨d, h2, hd, rfl, hno, rfl⟩ := hrel
    have HN := Lib.hid hno
    clear hno
    have hd0 : ((d : Int) == 0) = false := by simp; omega
    by_cases h1 : d ≤ t
    · have g1 : decide ((d : Int) ≤ (t : Int)) = true := by simp; omega
      by_cases h3 : d < n
      · have g3 : decide ((d : Int) < (n : Int)) = true := by simp; omega
        by_cases h4 : n % d = 0
        · have g4 := mod_form9 n d true (decide_eq_true h4)
          have hv := Lib.hid (isTrial_uniq HR.out (.inr ⟨h2, by have := HT.out; omega, by omega, h3, h4, HN.out⟩))
          have hb := Lib.hid (show b = true from HB.out.2 (by have := hv.out; omega))
          clear h4
          go_wp2_with fail
          go_ret2
          exact ⟨by rw [hv.out, hb.out]; rfl, rfl⟩
        · have g4 := mod_form9 n d false (decide_eq_false h4)
          have HH := Lib.hid h4
          clear h4
          go_wp2_with fail
          go_roundw
          case rel => exact ⟨d + 1, by omega, by omega, by go_num, fun e h1 h2 => by (rcases Nat.lt_succ_iff_lt_or_eq.1 h2 with h | rfl); exact HN.out e h1 h; exact HH.out, trivial⟩
          case measure => simp [intOf]; omega
      · have g3 : decide ((d : Int) < (n : Int)) = false := by simp; omega
        have hv := Lib.hid (isTrial_uniq HR.out (.inl ⟨rfl, fun e h5 h6 h7 h8 => HN.out e h5 (by omega)⟩))
        have hb := Lib.hid (show b = false by cases hq : b with | false => rfl | true => exact absurd hv.out (HB.out.1 hq))
        go_wp2_with fail
        go_ret2
        exact ⟨by rw [hv.out, hb.out]; rfl, rfl⟩
    · have g1 : decide ((d : Int) ≤ (t : Int)) = false := by simp; omega
      have hv := Lib.hid (isTrial_uniq HR.out (.inl ⟨rfl, fun e h5 h6 h7 h8 => HN.out e h5 (by have := HT.out; omega)⟩))
      have hb := Lib.hid (show b = false by cases hq : b with | false => rfl | true => exact absurd hv.out (HB.out.1 hq))
      go_wp2_with fail
      go_ret2
      exact ⟨by rw [hv.out, hb.out]; rfl, rfl⟩
set_option maxHeartbeats 1000000 in
theorem refIs (n : Nat) (hn : n < 4294967296) (b : Bool) (hb : b = true ↔ Prm n) (w : World) :
    Calls Try.prog 15 #[.int .u64 n] w fun e w' => e = .returned (.bool b) ∧ w = w' := by
  rw [prm_iff_try] at hb
  have HB := Lib.hid hb
  clear hb
  by_cases h2 : n < 2
  · have hb := Lib.hid (show b = false by cases hq : b with | false => rfl | true => have := (HB.out.1 hq).1; omega)
    go_enter Try.func15, Try.ntmps15
    go_wp2_with fail
    go_ret
    exact ⟨by rw [hb.out]; rfl, rfl⟩
  · go_enter Try.func15, Try.ntmps15
    go_wp2_with fail
    go_loopw [3] (fun dv wr => ∃ d : Nat, 2 ≤ d ∧ d ≤ 65536 ∧ dv = .int .u64 d ∧ (∀ e, 2 ≤ e → e < d → n % e ≠ 0) ∧ w = wr) (fun dv _ => 65536 - (intOf dv).toNat)
    case atStart => exact ⟨2, Nat.le_refl _, by omega, rfl, fun e h1 h2 => by omega, rfl⟩
    case round =>
      obtain ⟨d, h3, hd, rfl, hno, rfl⟩ := hrel
      have HN := Lib.hid hno
      clear hno
      have hd0 : ((d : Int) == 0) = false := by simp; omega
      obtain ⟨q, hq⟩ : ∃ q, d * d = q := ⟨_, rfl⟩
      have hqI : (d : Int) * (d : Int) = (q : Int) := by rw [← hq]; simp
      have hql : q ≤ 4294967296 := by rw [← hq]; exact Nat.mul_le_mul hd hd
      have HQ := Lib.hid hq
      by_cases h1 : q ≤ n
      · have g1 : decide ((q : Int) ≤ (n : Int)) = true := by simp; omega
        by_cases h4 : n % d = 0
        · have g4 := mod_form9 n d true (decide_eq_true h4)
          have hb := Lib.hid (show b = false by cases hb : b with | false => rfl | true => exact absurd h4 ((HB.out.1 hb).2 d h3 (by omega)))
          clear h4 hq
          go_wp2_with fail
          go_ret
          exact ⟨by rw [hb.out]; rfl, rfl⟩
        · have g4 := mod_form9 n d false (decide_eq_false h4)
          have HH := Lib.hid h4
          have hd2 : d < 65536 := by
            rcases Nat.lt_or_ge d 65536 with h | h
            · exact h
            · have := Nat.mul_le_mul h h; omega
          clear h4 hq
          go_wp2_with fail
          go_roundw
          case rel => exact ⟨d + 1, by omega, by omega, by go_num, fun e h1 h2 => by (rcases Nat.lt_succ_iff_lt_or_eq.1 h2 with h | rfl); exact HN.out e h1 h; exact HH.out, trivial⟩
          case measure => simp [intOf]; omega
      · have g1 : decide ((q : Int) ≤ (n : Int)) = false := by simp; omega
        have hb := Lib.hid (show b = true from HB.out.2 ⟨by omega, fun e h5 h6 => HN.out e h5 (by
          rcases Nat.lt_or_ge e d with h | h
          · exact h
          · have := Nat.mul_le_mul h h; omega)⟩)
        clear hq
        go_wp2_with fail
        go_ret
        exact ⟨by rw [hb.out]; rfl, rfl⟩
theorem pw_odd (O B E n : Nat) (h : E % 2 = 1) : (O * B % n) * (B * B % n) ^ (E / 2) % n = O * B ^ E % n := by
  have e : O * B ^ E = O * B * (B * B) ^ (E / 2) := by
    have : B ^ E = B * (B * B) ^ (E / 2) := by
      rw [show B * B = B ^ 2 by rw [Nat.pow_succ, Nat.pow_one], ← Nat.pow_mul, ← Nat.pow_succ']
      congr 1; omega
    rw [this, Nat.mul_assoc]
  rw [e, Nat.mod_mul_mod, Nat.mul_mod, ← Nat.pow_mod, ← Nat.mul_mod]
theorem pw_even (O B E n : Nat) (h : E % 2 = 0) : O * (B * B % n) ^ (E / 2) % n = O * B ^ E % n := by
  have e : B ^ E = (B * B) ^ (E / 2) := by
    rw [show B * B = B ^ 2 by rw [Nat.pow_succ, Nat.pow_one], ← Nat.pow_mul]
    congr 1; omega
  rw [e, Nat.mul_mod, ← Nat.pow_mod, ← Nat.mul_mod]
theorem mul_lt9 {a b n : Nat} (ha : a < n) (hb : b < n) (hn : n < 4294967296) : a * b < 18446744073709551616 :=
  Nat.lt_of_le_of_lt (Nat.mul_le_mul (show a ≤ 4294967295 by omega) (show b ≤ 4294967295 by omega)) (by omega)
set_option maxHeartbeats 2000000 in
theorem refPower (b e n : Nat) (_ : b < 18446744073709551616) (he : e < 18446744073709551616) (hn0 : 0 < n) (hn : n < 4294967296) (w : World) :
    Calls Try.prog 32 #[.int .u64 b, .int .u64 e, .int .u64 n] w fun x w' => x = .returned (.int .u64 (b ^ e % n : Nat)) ∧ w = w' := by
  obtain ⟨V, hV⟩ : ∃ V, b ^ e % n = V := ⟨_, rfl⟩
  obtain ⟨o, ho⟩ : ∃ o, 1 % n = o := ⟨_, rfl⟩
  obtain ⟨b0, hb0⟩ : ∃ b0, b % n = b0 := ⟨_, rfl⟩
  have hoI : (1 : Int) % (n : Int) = (o : Int) := by rw [← ho]; simp
  have hbI : (b : Int) % (n : Int) = (b0 : Int) := by rw [← hb0]; simp
  have hz : ((n : Int) == 0) = false := by simp; omega
  have hol : o < n := by rw [← ho]; exact Nat.mod_lt _ hn0
  have hbl : b0 < n := by rw [← hb0]; exact Nat.mod_lt _ hn0
  have HI := Lib.hid (show o * b0 ^ e % n = V by rw [← ho, ← hb0, Nat.mod_mul_mod, Nat.one_mul, ← Nat.pow_mod, hV])
  rw [hV]
  clear hV ho hb0
  go_enter Try.func32, Try.ntmps32
  go_wp2_with fail
  go_loopw [0, 1, 7] (fun bv ev ov wr => ∃ B E O : Nat, bv = .int .u64 B ∧ ev = .int .u64 E ∧ ov = .int .u64 O ∧ B < n ∧ O < n ∧ E < 18446744073709551616 ∧ Hid (O * B ^ E % n = V) ∧ w = wr) (fun _ ev _ _ => (intOf ev).toNat)
  case atStart => exact ⟨b0, e, o, by first | rfl | rw [hbI], rfl, by first | rfl | rw [hoI], hbl, hol, he, HI, rfl⟩
  case round =>
    obtain ⟨B, E, O, rfl, rfl, rfl, hB, hO, hE, hI, rfl⟩ := hrel
    rcases Nat.eq_zero_or_pos E with h0 | h0
    · subst h0
      have hv := Lib.hid (show V = O by have := hI.out; rw [Nat.pow_zero, Nat.mul_one, Nat.mod_eq_of_lt hO] at this; exact this.symm)
      clear hI
      go_wp2_with fail
      go_ret
      exact ⟨by rw [hv.out]; rfl, rfl⟩
    · have g0 : decide ((0 : Int) < (E : Int)) = true := by simp; omega
      obtain ⟨q, hq⟩ : ∃ q, B * B = q := ⟨_, rfl⟩
      have hqI : (B : Int) * (B : Int) = (q : Int) := by rw [← hq]; simp
      have hql : q < 18446744073709551616 := by rw [← hq]; exact mul_lt9 hB hB hn
      obtain ⟨B', hB'⟩ : ∃ B', q % n = B' := ⟨_, rfl⟩
      have hBI : (q : Int) % (n : Int) = (B' : Int) := by rw [← hB']; simp
      have hBl : B' < n := by rw [← hB']; exact Nat.mod_lt _ hn0
      obtain ⟨E', hE'⟩ : ∃ E', E / 2 = E' := ⟨_, rfl⟩
      have hEI : (E : Int) / 2 = (E' : Int) := by omega
      rcases Nat.mod_two_eq_zero_or_one E with h1 | h1
      · have g1 : ((E : Int) % 2 == 1) = false := by simp; omega
        have HJ := Lib.hid (show O * B' ^ E' % n = V by rw [← hB', ← hq, ← hE', pw_even _ _ _ _ h1]; exact hI.out)
        have hEl : E' < E := by omega
        clear hI hq hB' hE' h1
        go_wp2_with fail
        go_roundw
        case rel => exact ⟨B', E', O, by first | rfl | rw [hBI], rfl, rfl, hBl, hO, by omega, HJ, trivial⟩
        case measure => simp [intOf]; omega
      · have g1 : ((E : Int) % 2 == 1) = true := by simp; omega
        obtain ⟨p, hp⟩ : ∃ p, O * B = p := ⟨_, rfl⟩
        have hpI : (O : Int) * (B : Int) = (p : Int) := by rw [← hp]; simp
        have hpl : p < 18446744073709551616 := by rw [← hp]; exact mul_lt9 hO hB hn
        obtain ⟨O', hO'⟩ : ∃ O', p % n = O' := ⟨_, rfl⟩
        have hOI : (p : Int) % (n : Int) = (O' : Int) := by rw [← hO']; simp
        have hOl : O' < n := by rw [← hO']; exact Nat.mod_lt _ hn0
        have HJ := Lib.hid (show O' * B' ^ E' % n = V by rw [← hO', ← hp, ← hB', ← hq, ← hE', pw_odd _ _ _ _ h1]; exact hI.out)
        have hEl : E' < E := by omega
        clear hI hq hB' hE' h1 hp hO'
        go_wp2_with fail
        go_roundw
        case rel => exact ⟨B', E', O', by first | rfl | rw [hBI], rfl, by first | rfl | rw [hOI], hBl, hOl, by omega, HJ, trivial⟩
        case measure => simp [intOf]; omega
set_option maxHeartbeats 4000000 in
theorem refStrong (n a : Nat) (hn : n < 4294967296) (ha : a < 18446744073709551616) (b : Bool) (hb : b = true ↔ PassD n a) (w : World) :
    Calls Try.prog 13 #[.int .u64 n, .int .u64 a] w fun x w' => x = .returned (.bool b) ∧ w = w' := by
  have HB := Lib.hid hb
  clear hb
  by_cases h3 : n < 3
  · have g3 : decide ((n : Int) < 3) = true := by simp; omega
    have hb := Lib.hid (show b = false by cases hq : b with | false => rfl | true => have := (HB.out.1 hq).1; omega)
    go_enter Try.func13, Try.ntmps13
    go_wp2_with fail
    go_ret
    exact ⟨by rw [hb.out]; rfl, rfl⟩
  · have g3 : decide ((n : Int) < 3) = false := by simp; omega
    rcases Nat.mod_two_eq_zero_or_one n with ho | ho
    · have g4 : ((n : Int) % 2 == 0) = true := by simp; omega
      have hb := Lib.hid (show b = false by cases hq : b with | false => rfl | true => have := (HB.out.1 hq).2.1; omega)
      clear ho
      go_enter Try.func13, Try.ntmps13
      go_wp2_with fail
      go_ret
      exact ⟨by rw [hb.out]; rfl, rfl⟩
    · have g4 : ((n : Int) % 2 == 0) = false := by simp; omega
      obtain ⟨m, hm⟩ : ∃ m, n = m + 1 := ⟨n - 1, by omega⟩
      have hmI : (n : Int) - 1 = (m : Int) := by omega
      have HO := Lib.hid ho
      have HM := Lib.hid hm
      clear ho hm
      have hml : m < 4294967296 := by have := HM.out; omega
      have hm0 : 0 < m := by have := HM.out; omega
      go_enter Try.func13, Try.ntmps13
      go_wp2_with fail
      go_loopw [5, 6] (fun dv sv wr => ∃ d s : Nat, dv = .int .u64 d ∧ sv = .int .i64 s ∧ 0 < d ∧ d ≤ m ∧ s ≤ 32 ∧ Hid (m = 2 ^ s * d) ∧ w = wr) (fun dv _ _ => (intOf dv).toNat)
      case atStart => exact ⟨m, 0, rfl, rfl, hm0, Nat.le_refl _, by omega, Lib.hid (by simp), rfl⟩
      case round =>
        obtain ⟨d, s, rfl, rfl, hd, hdm, hs, hI, rfl⟩ := hrel
        rcases Nat.mod_two_eq_zero_or_one d with h1 | h1
        · have g1 : ((d : Int) % 2 == 0) = true := by simp; omega
          obtain ⟨d', hd'⟩ : ∃ d', d / 2 = d' := ⟨_, rfl⟩
          have hdI : (d : Int) / 2 = (d' : Int) := by omega
          have hI2 : m = 2 ^ (s + 1) * d' := by
            rw [Nat.pow_succ, Nat.mul_assoc, show 2 * d' = d by omega]
            exact hI.out
          have hs2 : s + 1 ≤ 32 := by
            rcases Nat.lt_or_ge s 32 with h | h
            · omega
            · have h5 : 2 ^ 32 ≤ 2 ^ (s + 1) := Nat.pow_le_pow_right (by omega) (by omega)
              have h6 : 2 ^ (s + 1) ≤ 2 ^ (s + 1) * d' := Nat.le_mul_of_pos_right _ (by omega)
              have h7 : (2 : Nat) ^ 32 = 4294967296 := by decide
              omega
          have HI2 := Lib.hid hI2
          have hdl : d' < d := by omega
          have hd0' : 0 < d' := by omega
          clear hI hI2 hd' h1
          go_wp2_with fail
          go_roundw
          case rel => exact ⟨d', s + 1, rfl, by go_num, hd0', by omega, hs2, HI2, trivial⟩
          case measure => simp [intOf]; omega
        · have g1 : ((d : Int) % 2 == 0) = false := by simp; omega
          have hP := passD_iff (n := n) (a := a) (s := s) (d := d) (by omega) HO.out (by rw [HM.out, Nat.add_sub_cancel]; exact hI.out) h1
          have HP := Lib.hid hP
          have hRP := refPower a d n ha (by omega) (by omega) hn w
          obtain ⟨x0, hx0⟩ : ∃ x0, a ^ d % n = x0 := ⟨_, rfl⟩
          rw [hx0] at hRP
          have hxl : x0 < n := by rw [← hx0]; exact Nat.mod_lt _ (by omega)
          have HRP := Lib.hid hRP
          have HX := Lib.hid hx0
          clear hP hRP hx0 h1
          go_wp2_with fail
          refine (HRP.out).mono ?_
          rintro e w' ⟨rfl, rfl⟩
          by_cases h2 : x0 = 1
          · have g2 : ((x0 : Int) == 1) = true := by simp; omega
            have hb := Lib.hid (show b = true from HB.out.2 (HP.out.2 (.inl (HX.out.trans h2))))
            clear h2
            go_wp2_with fail
            go_ret
            exact ⟨by rw [hb.out]; rfl, rfl⟩
          · have g2 : ((x0 : Int) == 1) = false := by simp; omega
            have H2 := Lib.hid h2
            clear h2
            go_wp2_with fail
            go_loopw [7, 8] (fun xv iv wr => ∃ x i : Nat, xv = .int .u64 x ∧ iv = .int .i64 i ∧ i ≤ s ∧ x < n ∧ Hid (a ^ (2 ^ i * d) % n = x) ∧ Hid (∀ j, j < i → a ^ (2 ^ j * d) % n ≠ n - 1) ∧ w = wr) (fun _ iv _ => s - (intOf iv).toNat)
            case atStart => exact ⟨x0, 0, rfl, rfl, Nat.zero_le _, hxl, Lib.hid (by rw [Nat.pow_zero, Nat.one_mul]; exact HX.out), Lib.hid (fun j hj => by omega), rfl⟩
            case round =>
              obtain ⟨x, i, rfl, rfl, hi, hx, hX, hN, rfl⟩ := hrel
              by_cases h4 : i < s
              · have g5 : decide ((i : Int) < (s : Int)) = true := by simp; omega
                by_cases h5 : x = m
                · have g6 : ((x : Int) == (m : Int)) = true := by simp; omega
                  have hb := Lib.hid (show b = true from HB.out.2 (HP.out.2 (.inr ⟨i, h4, by rw [hX.out, h5, HM.out, Nat.add_sub_cancel]⟩)))
                  clear h5
                  go_wp2_with fail
                  go_ret
                  exact ⟨by rw [hb.out]; rfl, rfl⟩
                · have g6 : ((x : Int) == (m : Int)) = false := by simp; omega
                  obtain ⟨q, hq⟩ : ∃ q, x * x = q := ⟨_, rfl⟩
                  have hqI : (x : Int) * (x : Int) = (q : Int) := by rw [← hq]; simp
                  have hql : q < 18446744073709551616 := by rw [← hq]; exact mul_lt9 hx hx hn
                  obtain ⟨y, hy⟩ : ∃ y, q % n = y := ⟨_, rfl⟩
                  have hyI : (q : Int) % (n : Int) = (y : Int) := by rw [← hy]; simp
                  have hyl : y < n := by rw [← hy]; exact Nat.mod_lt _ (by omega)
                  have hz : ((n : Int) == 0) = false := by simp; omega
                  have HY := Lib.hid (show a ^ (2 ^ (i + 1) * d) % n = y by
                    rw [← hy, ← hq, ← hX.out, ← Nat.mul_mod, ← Nat.pow_add]
                    congr 2
                    rw [Nat.pow_succ, Nat.mul_comm (2 ^ i) 2, Nat.mul_assoc]; omega)
                  have HN2 := Lib.hid (show ∀ j, j < i + 1 → a ^ (2 ^ j * d) % n ≠ n - 1 from fun j hj => by
                    rcases Nat.lt_succ_iff_lt_or_eq.1 hj with h | rfl
                    · exact hN.out j h
                    · rw [hX.out]; have := HM.out; omega)
                  clear h5 hq hy hX hN
                  go_wp2_with fail
                  go_roundw
                  case rel => exact ⟨y, i + 1, by first | rfl | rw [hyI], by go_num, by omega, hyl, HY, HN2, trivial⟩
                  case measure => simp [intOf]; omega
              · have g5 : decide ((i : Int) < (s : Int)) = false := by simp; omega
                obtain rfl : i = s := by omega
                have hb := Lib.hid (show b = false by
                  cases hq : b with
                  | false => rfl
                  | true =>
                    exfalso
                    rcases HP.out.1 (HB.out.1 hq) with h | ⟨j, hj, h⟩
                    · exact H2.out (HX.out.symm.trans h)
                    · exact hN.out j hj h)
                go_wp2_with fail
                go_ret
                exact ⟨by rw [hb.out]; rfl, rfl⟩
theorem take_nth9 (l : List Nat) (k : Nat) (h : k < l.length) : l.take (k + 1) = l.take k ++ [nth l k] := by
  rw [List.take_add_one, List.getElem?_eq_getElem h]
  simp [nth, h]
/-- What has come of the bases so far. -/
structure SoFar (n : Nat) (l : List Nat) (k : Nat) (f : Bool) : Prop where
  some : f = true ↔ ∃ x ∈ l.take k, ¬ (0 < n ∧ x % n = 0)
  all : ∀ x ∈ l.take k, ¬ (0 < n ∧ x % n = 0) → PassD n x
theorem SoFar.nil (n : Nat) (l : List Nat) : SoFar n l 0 false := ⟨by simp, by simp⟩
theorem SoFar.skip {n : Nat} {l : List Nat} {k : Nat} {f : Bool} (h : SoFar n l k f) (hk : k < l.length) (hz : 0 < n ∧ nth l k % n = 0) : SoFar n l (k + 1) f where
  some := by
    rw [take_nth9 l k hk, h.some]
    constructor
    · rintro ⟨x, h1, h2⟩; exact ⟨x, List.mem_append_left _ h1, h2⟩
    · rintro ⟨x, h1, h2⟩
      rcases List.mem_append.1 h1 with h3 | h3
      · exact ⟨x, h3, h2⟩
      · simp at h3; subst h3; exact absurd hz h2
  all := by
    rw [take_nth9 l k hk]
    intro x h1 h2
    rcases List.mem_append.1 h1 with h3 | h3
    · exact h.all x h3 h2
    · simp at h3; subst h3; exact absurd hz h2
theorem SoFar.more {n : Nat} {l : List Nat} {k : Nat} {f : Bool} (h : SoFar n l k f) (hk : k < l.length) (hz : ¬ (0 < n ∧ nth l k % n = 0)) (hp : PassD n (nth l k)) : SoFar n l (k + 1) true where
  some := by
    rw [take_nth9 l k hk]
    exact ⟨fun _ => ⟨nth l k, List.mem_append_right _ (by simp), hz⟩, fun _ => rfl⟩
  all := by
    rw [take_nth9 l k hk]
    intro x h1 h2
    rcases List.mem_append.1 h1 with h3 | h3
    · exact h.all x h3 h2
    · simp at h3; subst h3; exact hp
theorem SoFar.done {n : Nat} {l : List Nat} {f : Bool} (h : SoFar n l l.length f) (h2 : n ≠ 2) : ProbD n l ↔ f = true := by
  have h3 := h.some
  have h4 := h.all
  rw [List.take_length] at h3 h4
  unfold ProbD
  constructor
  · rintro (e | ⟨e, _⟩)
    · exact absurd e h2
    · exact h3.2 e
  · intro e
    exact .inr ⟨h3.1 e, h4⟩
theorem probD_not {n : Nat} {l : List Nat} {k : Nat} (h2 : n ≠ 2) (hk : k < l.length) (hz : ¬ (0 < n ∧ nth l k % n = 0)) (hp : ¬ PassD n (nth l k)) : ¬ ProbD n l := by
  rintro (e | ⟨_, e⟩)
  · exact h2 e
  · exact hp (e _ (nth_mem l k hk) hz)
set_option maxHeartbeats 4000000 in
theorem refProbable (n : Nat) (A : Option Addr) (c : Nat) (l : List Nat) (w : World) (B : Nat) (hr : Rd .u64 w B A l) (hw : Words l) (hl : l.length ≤ 1000) (hn : n < 4294967296) (b : Bool) (hb : b = true ↔ ProbD n l) :
    Calls Try.prog 17 #[.int .u64 n, .slice A l.length c] w fun x w' => x = .returned (.bool b) ∧ w = w' := by
  have HB := Lib.hid hb
  clear hb
  by_cases h2 : n = 2
  · have g2 : ((n : Int) == 2) = true := by simp; omega
    have hb := Lib.hid (show b = true from HB.out.2 (.inl h2))
    clear h2
    go_enter Try.func17, Try.ntmps17
    go_wp2_with fail
    go_ret
    exact ⟨by rw [hb.out]; rfl, rfl⟩
  · have g2 : ((n : Int) == 2) = false := by simp; omega
    have H2 := Lib.hid h2
    have HR := Lib.hid hr
    have HW := Lib.hid hw
    clear h2 hr hw
    go_enter Try.func17, Try.ntmps17
    go_wp2_with fail
    go_loopw [5, 6] (fun sv iv wr => ∃ (k : Nat) (f : Bool), sv = .bool f ∧ iv = .int .i64 k ∧ k ≤ l.length ∧ Hid (SoFar n l k f) ∧ w = wr) (fun _ iv _ => l.length - (intOf iv).toNat)
    case atStart => exact ⟨0, false, rfl, rfl, Nat.zero_le _, Lib.hid (SoFar.nil n l), rfl⟩
    case round =>
      obtain ⟨k, f, rfl, rfl, hk, hS, rfl⟩ := hrel
      by_cases hlt : k < l.length
      · have g1 : decide ((k : Int) < (l.length : Int)) = true := by simp; omega
        obtain ⟨g, o, rfl, _, hcell⟩ := HR.out (by omega)
        have hc := hcell k hlt
        have hxw := nth_lt l HW.out k
        obtain ⟨x, hx⟩ : ∃ x, nth l k = x := ⟨_, rfl⟩
        rw [hx] at hc hxw
        have HX := Lib.hid hx
        clear hcell hx
        obtain ⟨y, hy⟩ : ∃ y : Bool, y = true ↔ PassD n x := by
          by_cases h : PassD n x
          · exact ⟨true, by simpa using h⟩
          · exact ⟨false, by simpa using h⟩
        have HY := Lib.hid hy
        have HSt := Lib.hid (refStrong n x hn hxw y hy w)
        clear hy
        rcases Nat.eq_zero_or_pos n with h0 | h0
        · subst h0
          have hz : ¬ ((0 : Nat) < 0 ∧ x % 0 = 0) := by omega
          have hb := Lib.hid (show b = false by
            cases hq : b with
            | false => rfl
            | true => exact absurd (HB.out.1 hq) (probD_not H2.out hlt (by rw [HX.out]; exact hz) (by rw [HX.out]; rintro ⟨h, _⟩; omega)))
          have hy0 : y = false := by
            cases hq : y with
            | false => rfl
            | true => have := (HY.out.1 hq).1; omega
          subst hy0
          clear hz
          go_wp2_with fail
          refine (HSt.out).mono ?_
          rintro e w' ⟨rfl, rfl⟩
          go_wp2_with fail
          go_ret
          exact ⟨by rw [hb.out]; rfl, rfl⟩
        · have g0 : decide ((0 : Int) < (n : Int)) = true := by simp; omega
          have hz : ((n : Int) == 0) = false := by simp; omega
          by_cases h4 : x % n = 0
          · have g4 := mod_form9 x n true (decide_eq_true h4)
            have HS2 := Lib.hid (hS.out.skip hlt ⟨h0, by rw [HX.out]; exact h4⟩)
            clear h4 hS
            go_wp2_with fail
            go_roundw
            case rel => exact ⟨k + 1, f, rfl, by go_num, by omega, HS2, trivial⟩
            case measure => simp [intOf]; omega
          · have g4 := mod_form9 x n false (decide_eq_false h4)
            have hz2 : ¬ (0 < n ∧ nth l k % n = 0) := by rw [HX.out]; omega
            cases y
            · have hb := Lib.hid (show b = false by
                cases hq : b with
                | false => rfl
                | true => exact absurd (HB.out.1 hq) (probD_not H2.out hlt hz2 (by rw [HX.out]; intro h; exact absurd (HY.out.2 h) (by simp))))
              clear h4 hS hz2
              go_wp2_with fail
              refine (HSt.out).mono ?_
              rintro e w' ⟨rfl, rfl⟩
              go_wp2_with fail
              go_ret
              exact ⟨by rw [hb.out]; rfl, rfl⟩
            · have HS2 := Lib.hid (hS.out.more hlt hz2 (by rw [HX.out]; exact HY.out.1 rfl))
              clear h4 hS hz2
              go_wp2_with fail
              refine (HSt.out).mono ?_
              rintro e w' ⟨rfl, rfl⟩
              go_wp2_with fail
              go_roundw
              case rel => exact ⟨k + 1, true, rfl, by go_num, by omega, HS2, trivial⟩
              case measure => simp [intOf]; omega
      · have g1 : decide ((k : Int) < (l.length : Int)) = false := by simp; omega
        obtain rfl : k = l.length := by omega
        have hb := Lib.hid (show b = f by
          have h5 := HB.out.trans (hS.out.done H2.out)
          rw [Bool.eq_iff_iff]; exact h5)
        go_wp2_with fail
        go_ret
        exact ⟨by rw [hb.out]; rfl, rfl⟩
end Go.Proofs.Ytjghhdoklfpdfaa
/- prime's contracts in the form that laws use. Conditions: as typed. -/
namespace Go.Proofs.Ytjghhdoklfpdfaa
open Go.RowKit
set_option maxRecDepth 20000
theorem some_bool (p : Prop) : ∃ b : Bool, b = true ↔ p := by
  by_cases h : p
  · exact ⟨true, by simpa using h⟩
  · exact ⟨false, by simpa using h⟩
section
variable {w : World} {A A2 : Option Addr} {n m c c2 N M : Nat}
theorem NatIs.row (S : NatIs w A n c N) : RowIs w A n c (wd N) := ⟨S.1, wd_words N, S.2.1, S.2.2.1, S.2.2.2⟩
theorem NatIs.few (S : NatIs w A n c N) (hN : N < 18446744073709551616) : n ≤ 1 := by
  have h := S.1
  rw [length_wd] at h
  have := nbits_of_lt N 64 hN
  omega
theorem bTrial (S : NatIs w A n c N) (hN : N < 18446744073709551616) (most r : Nat) (hm : most < 18446744073709551616) (hr : IsTrial N most r) (b : Bool) (hb : b = true ↔ r ≠ 0) (hL : LaidP w) :
    Calls Try.prog 9 #[.slice A n c, .int .u64 most] w fun e w' => e = .returned (.tuple #[.int .u64 r, .bool b]) ∧ Below w.heap.size w w' :=
  primeTrial_any S.row (by have := S.few hN; omega) most r hm (by rw [if_pos (by rw [natOf_wd]), natOf_wd]; exact hr) b hb hL
theorem bStrong (S : NatIs w A n c N) (T : NatIs w A2 m c2 M) (hN : N < 18446744073709551616) (hM : M < 18446744073709551616) (b : Bool) (hb : b = true ↔ PassD N M) (hL : LaidP w) :
    Calls Try.prog 12 #[.slice A n c, .slice A2 m c2] w fun e w' => e = .returned (.bool b) ∧ Below w.heap.size w w' :=
  primeStrong_any S.row T.row (by have := S.few hN; omega) (by have := T.few hM; omega) b (by
    rw [natOf_wd, natOf_wd, hb]
    have h1 := nbits_of_lt N 64 hN
    have h2 := nbits_of_lt M 64 hM
    exact ⟨fun h => ⟨rfl, rfl, by omega, by omega, h⟩, fun h => h.2.2.2.2⟩) hL
end
/-- A number's words. -/
theorem hN9 (w : World) (x : Nat) (xi : Int) (hx : xi = (x : Int)) (hl : x < 18446744073709551616) : Calls Try.prog 10 #[.int .u64 xi] w fun e w' => ∃ X q d, e = .returned (.slice X q d) ∧ NatIs w' X q d x ∧ Below w.heap.size w w' := by
  subst hx
  by_cases h0 : x = 0
  · subst h0
    have e : wd 0 = [] := List.eq_nil_of_length_eq_zero (by rw [length_wd, nbits_zero])
    have HS := Lib.hid (show NatIs w none 0 0 0 from ⟨by rw [e]; rfl, by omega, by rw [e]; exact Rd.nil, Nat.le_refl _⟩)
    go_enter Try.func10, Try.ntmps10
    go_wp2_with fail
    go_ret
    exact ⟨none, 0, 0, rfl, HS.out, Below.refl _ _⟩
  · obtain ⟨e1, _⟩ := wd_one x hl h0
    have hb : ((x : Int) == 0) = false := by simp; omega
    have HS := Lib.hid (show NatIs (w.alloc (.cells #[.int .u64 (x : Int)] 23)) (some ⟨w.heap.size, 0, none⟩) 1 1 x from by
      refine ⟨by rw [e1]; rfl, by omega, ?_, Nat.le_refl _⟩
      rw [e1]
      exact Rd.own (own_of_heap (base := w.heap.size) (e := 23) (n := 1) (cap := 1) (cur := [.int .u64 (x : Int)]) (xs := ints .u64 [x]) (World.alloc_heap_new w _) (Nat.le_refl _) (Nat.le_refl _) (by unfold maxLen; omega) rfl rfl))
    clear h0 e1
    go_enter Try.func10, Try.ntmps10
    go_wp2_with fail
    go_ret
    exact ⟨_, 1, 1, rfl, HS.out, (Below.refl _ w).alloc (Nat.le_refl _) _⟩
theorem not_prm {n d : Nat} (h1 : 2 ≤ d) (h2 : d * d ≤ n) (h3 : n % d = 0) : ¬ Prm n := fun h => (prm_iff_try.1 h).2 d h1 h2 h3
theorem nextP_13 : NextP 13 17 := ⟨prm_tried (f := 3) (by omega) (by decide) (by omega), by omega, fun q hq h => by
  rcases Nat.lt_or_ge q 17 with h1 | h1
  · have : q = 14 ∨ q = 15 ∨ q = 16 := by omega
    rcases this with rfl | rfl | rfl
    · exact absurd hq (not_prm (d := 2) (by omega) (by omega) (by omega))
    · exact absurd hq (not_prm (d := 3) (by omega) (by omega) (by omega))
    · exact absurd hq (not_prm (d := 2) (by omega) (by omega) (by omega))
  · exact h1⟩
theorem trial_91 : IsTrial 91 100 7 := .inr ⟨by omega, by omega, by omega, by omega, by omega, fun d h1 h2 => by
  have : d = 2 ∨ d = 3 ∨ d = 4 ∨ d = 5 ∨ d = 6 := by omega
  rcases this with rfl | rfl | rfl | rfl | rfl <;> omega⟩
theorem pass_98 : PassD 9 8 := (passD_iff (s := 3) (d := 1) (by omega) (by omega) (by omega) (by omega)).2 (.inr ⟨0, by omega, by decide⟩)
theorem pass_92 : ¬ PassD 9 2 := fun h => by
  rcases (passD_iff (s := 3) (d := 1) (by omega) (by omega) (by omega) (by omega)).1 h with h | ⟨i, hi, h⟩
  · exact absurd h (by decide)
  · have : i = 0 ∨ i = 1 ∨ i = 2 := by omega
    rcases this with rfl | rfl | rfl <;> exact absurd h (by decide)
theorem prm_2 : Prm 2 := prm_tried (f := 0) (by omega) rfl (by omega)
theorem prm_1 : ¬ Prm 1 := fun h => by have := h.1; omega
/-- What passes to 2, 3, 5 and 7, those that it divides left out, is a prime; each prime does. -/
theorem prob_four {K : Nat} (hK : K < 2147483648) : ProbD K [2, 3, 5, 7] ↔ Prm K := by
  constructor
  · rintro (rfl | ⟨⟨x, hx, hxz⟩, hall⟩)
    · exact prm_2
    · have hp := hall x hx hxz
      have h3 := hp.1
      have ho := hp.2.1
      by_cases h7 : K ≤ 7
      · have : K = 3 ∨ K = 5 ∨ K = 7 := by omega
        rcases this with rfl | rfl | rfl
        · exact prm_tried (f := 0) (by omega) rfl (by omega)
        · exact prm_tried (f := 1) (by omega) (by decide) (by omega)
        · exact prm_tried (f := 1) (by omega) (by decide) (by omega)
      · have hp2 := hall 2 (by simp) (by rw [Nat.mod_eq_of_lt (by omega)]; omega)
        have hp3 := hall 3 (by simp) (by rw [Nat.mod_eq_of_lt (by omega)]; omega)
        have hp5 := hall 5 (by simp) (by rw [Nat.mod_eq_of_lt (by omega)]; omega)
        have hp7 := hall 7 (by simp) (by rw [Nat.mod_eq_of_lt (by omega)]; omega)
        rcases four_bases (by omega) (by omega) hp2.2.2 hp3.2.2 hp5.2.2 hp7.2.2 with h | h
        · exact h
        · omega
  · intro h
    by_cases h2 : K = 2
    · exact .inl h2
    · have hK2 := h.1
      have ho : K % 2 = 1 := by
        rcases Nat.mod_two_eq_zero_or_one K with h0 | h0
        · exfalso
          rcases h.2 2 (Nat.dvd_of_mod_eq_zero h0) with e | e <;> omega
        · exact h0
      refine .inr ⟨⟨2, by simp, ?_⟩, fun x _ hz => ⟨by omega, ho, h.pass ho fun hd => hz ⟨by omega, Nat.mod_eq_zero_of_dvd hd⟩⟩⟩
      rw [Nat.mod_eq_of_lt (by omega)]
      omega
end Go.Proofs.Ytjghhdoklfpdfaa
/- Chapter 9's examples. No condition. -/
namespace Go.Proofs.Ytjghhdoklfpdfaa
open Go.RowKit
set_option maxRecDepth 20000
set_option maxHeartbeats 4000000 in
theorem priWorks_any (w : World) (hL : LaidP w) : Calls Try.prog 8 #[] w fun e w' => e = .returned (.bool true) ∧ Below w.heap.size w w' := by
  have HLd := Lib.hid hL
  clear hL
  go_enter Try.func8, Try.ntmps8
  go_wp2_with fail
  refine (hN9 w (91) _ rfl (by omega)).mono ?_
  rintro e w1 ⟨X1, q1, d1, rfl, S1, b1⟩
  have B1 := b1
  go_wp2_with fail
  refine (bTrial S1 (by omega) 100 7 (by omega) trial_91 true (by simp) (HLd.out.below B1)).mono ?_
  rintro e w2 ⟨rfl, b2⟩
  have B2 := below_step B1 b2
  have S1 := S1.step b2
  clear S1
  go_wp2_with fail
  refine (primeNext_any 13 17 nextP_13 (by omega) _ (HLd.out.below B2)).mono ?_
  rintro e w3 ⟨rfl, b3⟩
  have B3 := below_step B2 b3
  go_wp2_with fail
  refine (primeNext_max _ (HLd.out.below B3)).mono ?_
  rintro e w4 ⟨rfl, b4⟩
  have B4 := below_step B3 b4
  go_wp2_with fail
  refine (hN9 w4 (9) _ rfl (by omega)).mono ?_
  rintro e w5 ⟨X2, q2, d2, rfl, S2, b5⟩
  have B5 := below_step B4 b5
  go_wp2_with fail
  refine (hN9 w5 (8) _ rfl (by omega)).mono ?_
  rintro e w6 ⟨X3, q3, d3, rfl, S3, b6⟩
  have B6 := below_step B5 b6
  have S2 := S2.step b6
  go_wp2_with fail
  refine (bStrong S2 S3 (by omega) (by omega) true (by simpa using pass_98) (HLd.out.below B6)).mono ?_
  rintro e w7 ⟨rfl, b7⟩
  have B7 := below_step B6 b7
  have S2 := S2.step b7
  have S3 := S3.step b7
  clear S2 S3
  go_wp2_with fail
  refine (hN9 w7 (9) _ rfl (by omega)).mono ?_
  rintro e w8 ⟨X4, q4, d4, rfl, S4, b8⟩
  have B8 := below_step B7 b8
  go_wp2_with fail
  refine (hN9 w8 (2) _ rfl (by omega)).mono ?_
  rintro e w9 ⟨X5, q5, d5, rfl, S5, b9⟩
  have B9 := below_step B8 b9
  have S4 := S4.step b9
  go_wp2_with fail
  refine (bStrong S4 S5 (by omega) (by omega) false (by simpa using pass_92) (HLd.out.below B9)).mono ?_
  rintro e w10 ⟨rfl, b10⟩
  have B10 := below_step B9 b10
  have S4 := S4.step b10
  have S5 := S5.step b10
  clear S4 S5
  go_wp2_with fail
  refine (primeIs_any 2 (by omega) true (by simpa using prm_2) _ (HLd.out.below B10)).mono ?_
  rintro e w11 ⟨rfl, b11⟩
  have B11 := below_step B10 b11
  go_wp2_with fail
  refine (primeIs_any 1 (by omega) false (by simpa using prm_1) _ (HLd.out.below B11)).mono ?_
  rintro e w12 ⟨rfl, b12⟩
  have B12 := below_step B11 b12
  go_wp2_with fail
  go_ret
  exact ⟨rfl, B12⟩
end Go.Proofs.Ytjghhdoklfpdfaa

/- Several texts in one; each begins with a remark that says what it shows and on which conditions. -/
import Derived.Test.YtakcgamgnmmdlaaGreatKac
import Derived.Test.YtakcgamgnmmdlaaGreatKap
import Derived.Test.YtakcgamgnmmdlaaGreatKbm
/- The document's rows and trying of chapter 10. Conditions: numbers below 2^62 (rows), below 2^32 (trying). -/
namespace Go.Proofs.YtakcgamgnmmdlaaGreat
open Go.RowKit
set_option maxRecDepth 20000
theorem mod_form10 (a k : Nat) (b : Bool) (h : decide (a % k = 0) = b) : (((a : Int) % (k : Int)) == 0) = b := by
  rw [← h, Bool.eq_iff_iff, beq_iff_eq, decide_eq_true_eq]; omega
theorem ti_odd (O A B n : Nat) (h : B % 2 = 1) : ((O + A) % n + (A + A) % n * (B / 2)) % n = (O + A * B) % n := by
  obtain ⟨q, hq⟩ : ∃ q, B / 2 = q := ⟨_, rfl⟩
  have hB : B = 2 * q + 1 := by omega
  have e : O + A * B = (O + A) + (A + A) * q := by
    rw [hB, Nat.mul_add, Nat.mul_one, Nat.mul_left_comm, Nat.add_mul]; omega
  rw [hq, e, Nat.mod_add_mod, Nat.add_mod, Nat.mod_mul_mod, ← Nat.add_mod]
theorem ti_even (O A B n : Nat) (h : B % 2 = 0) : (O + (A + A) % n * (B / 2)) % n = (O + A * B) % n := by
  obtain ⟨q, hq⟩ : ∃ q, B / 2 = q := ⟨_, rfl⟩
  have hB : B = 2 * q := by omega
  have e : O + A * B = O + (A + A) * q := by
    rw [hB, Nat.mul_left_comm, Nat.add_mul]; omega
  rw [hq, e, Nat.add_mod, Nat.mod_mul_mod, ← Nat.add_mod]
set_option maxHeartbeats 2000000 in
theorem refTimes (a b n : Nat) (hb : b < 18446744073709551616) (hn0 : 0 < n) (hn : n < 4611686018427387904) (w : World) :
    Calls Tryz.prog 31 #[.int .u64 a, .int .u64 b, .int .u64 n] w fun x w' => x = .returned (.int .u64 (a * b % n : Nat)) ∧ w = w' := by
  obtain ⟨V, hV⟩ : ∃ V, a * b % n = V := ⟨_, rfl⟩
  obtain ⟨a0, ha0⟩ : ∃ a0, a % n = a0 := ⟨_, rfl⟩
  have haI : (a : Int) % (n : Int) = (a0 : Int) := by rw [← ha0]; simp
  have hz : ((n : Int) == 0) = false := by simp; omega
  have hal : a0 < n := by rw [← ha0]; exact Nat.mod_lt _ hn0
  have HI := Lib.hid (show (0 + a0 * b) % n = V by rw [← ha0, Nat.zero_add, Nat.mod_mul_mod, hV])
  rw [hV]
  clear hV ha0
  go_enter Tryz.func31, Tryz.ntmps31
  go_wp2_with fail
  go_loopw [0, 1, 7] (fun av bv ov wr => ∃ A B O : Nat, av = .int .u64 A ∧ bv = .int .u64 B ∧ ov = .int .u64 O ∧ A < n ∧ O < n ∧ B < 18446744073709551616 ∧ Hid ((O + A * B) % n = V) ∧ w = wr) (fun _ bv _ _ => (intOf bv).toNat)
  case atStart => exact ⟨a0, b, 0, by first | rfl | rw [haI], rfl, rfl, hal, hn0, hb, HI, rfl⟩
  case round =>
    obtain ⟨A, B, O, rfl, rfl, rfl, hA, hO, hB, hI, rfl⟩ := hrel
    rcases Nat.eq_zero_or_pos B with h0 | h0
    · subst h0
      have hv := Lib.hid (show V = O by have := hI.out; rw [Nat.mul_zero, Nat.add_zero, Nat.mod_eq_of_lt hO] at this; exact this.symm)
      clear hI
      go_wp2_with fail
      go_ret
      exact ⟨by rw [hv.out]; rfl, rfl⟩
    · have g0 : decide ((0 : Int) < (B : Int)) = true := by simp; omega
      obtain ⟨A', hA'⟩ : ∃ A', (A + A) % n = A' := ⟨_, rfl⟩
      have hAI : ((A : Int) + (A : Int)) % (n : Int) = (A' : Int) := by rw [← hA']; simp
      have hAl : A' < n := by rw [← hA']; exact Nat.mod_lt _ hn0
      obtain ⟨B', hB'⟩ : ∃ B', B / 2 = B' := ⟨_, rfl⟩
      have hBI : (B : Int) / 2 = (B' : Int) := by omega
      rcases Nat.mod_two_eq_zero_or_one B with h1 | h1
      · have g1 : ((B : Int) % 2 == 1) = false := by simp; omega
        have HJ := Lib.hid (show (O + A' * B') % n = V by rw [← hA', ← hB', ti_even _ _ _ _ h1]; exact hI.out)
        have hBl : B' < B := by omega
        clear hI hA' hB' h1
        go_wp2_with fail
        go_roundw
        case rel => exact ⟨A', B', O, by first | rfl | rw [hAI], rfl, rfl, hAl, hO, by omega, HJ, trivial⟩
        case measure => simp [intOf]; omega
      · have g1 : ((B : Int) % 2 == 1) = true := by simp; omega
        obtain ⟨O', hO'⟩ : ∃ O', (O + A) % n = O' := ⟨_, rfl⟩
        have hOI : ((O : Int) + (A : Int)) % (n : Int) = (O' : Int) := by rw [← hO']; simp
        have hOl : O' < n := by rw [← hO']; exact Nat.mod_lt _ hn0
        have HJ := Lib.hid (show (O' + A' * B') % n = V by rw [← hO', ← hA', ← hB', ti_odd _ _ _ _ h1]; exact hI.out)
        have hBl : B' < B := by omega
        clear hI hA' hB' h1 hO'
        go_wp2_with fail
        go_roundw
        case rel => exact ⟨A', B', O', by first | rfl | rw [hAI], rfl, by first | rfl | rw [hOI], hAl, hOl, by omega, HJ, trivial⟩
        case measure => simp [intOf]; omega
theorem tmod_nat10 {a b v : Nat} (h : a % b = v) : (a : Int).tmod (b : Int) = (v : Int) := by
  rw [Int.tmod_eq_emod_of_nonneg (by omega)]; omega
theorem emod_nat10 {a b v : Nat} (h : a % b = v) : (a : Int) % (b : Int) = (v : Int) := by omega
set_option maxHeartbeats 1000000 in
theorem refNext10 (x c n v : Nat) (hx : x < 18446744073709551616) (hn0 : 0 < n) (hn : n < 4611686018427387904) (hv : rowS n c x = v) (w : World) :
    Calls Tryz.prog 17 #[.int .u64 x, .int .u64 c, .int .u64 n] w fun e w' => e = .returned (.int .u64 v) ∧ Drawn w w' := by
  have hT := fun u => (refTimes x x n hx hn0 hn u).mono fun _ w' ⟨h1, h2⟩ => (⟨h1, h2.symm⟩ : _ ∧ w' = u)
  rw [rowS_eq] at hv
  obtain ⟨s, hs⟩ : ∃ s, x * x % n = s := ⟨_, rfl⟩
  obtain ⟨t, ht⟩ : ∃ t, c % n = t := ⟨_, rfl⟩
  rw [hs] at hT
  rw [hs, ht] at hv
  have HT := Lib.hid hT
  have hsl : s < n := by rw [← hs]; exact Nat.mod_lt _ hn0
  have htl : t < n := by rw [← ht]; exact Nat.mod_lt _ hn0
  have htI := emod_nat10 ht
  have htT := tmod_nat10 ht
  have hvI := emod_nat10 hv
  have hvT := tmod_nat10 hv
  rw [Int.natCast_add] at hvI hvT
  have hz : ((n : Int) == 0) = false := by simp; omega
  have hz0 : n ≠ 0 := by omega
  clear hs ht hv hT
  go_enter Tryz.func17, Tryz.ntmps17
  go_wp2_with fail
  go_quiet ((go_at_call 31; with_reducible exact Calls.quiet_of_same (HT.out _)))
  go_wp2_with fail
  go_ret
  exact ⟨rfl, Drawn.more _⟩
set_option maxHeartbeats 1000000 in
theorem refCommon (a b g : Nat) (hg : Nat.gcd a b = g) (w : World) :
    Calls Tryz.prog 18 #[.int .u64 a, .int .u64 b] w fun e w' => e = .returned (.int .u64 g) ∧ Drawn w w' := by
  have HG := Lib.hid hg
  clear hg
  go_enter Tryz.func18, Tryz.ntmps18
  go_wp2_with fail
  go_loopw [0, 1] (fun av bv wr => ∃ A B : Nat, av = .int .u64 A ∧ bv = .int .u64 B ∧ Hid (Nat.gcd A B = g) ∧ Drawn w wr) (fun _ bv _ => (intOf bv).toNat)
  case atStart => exact ⟨a, b, rfl, rfl, HG, Drawn.more 0⟩
  case round =>
    obtain ⟨A, B, rfl, rfl, hI, nq, rfl⟩ := hrel
    rcases Nat.eq_zero_or_pos B with h0 | h0
    · have g0 : ¬ 0 < B := by omega
      have hv := Lib.hid (show A = g by rw [← hI.out, h0, Nat.gcd_zero_right])
      clear hI h0
      go_wp2_with fail
      go_ret
      exact ⟨by rw [hv.out]; rfl, Drawn.more _⟩
    · have g0 : decide ((0 : Int) < (B : Int)) = true := by simp; omega
      have hz : ((B : Int) == 0) = false := by simp; omega
      have hz0 : B ≠ 0 := by omega
      obtain ⟨r, hr⟩ : ∃ r, A % B = r := ⟨_, rfl⟩
      have hrI := emod_nat10 hr
      have hrT := tmod_nat10 hr
      have hrl : r < B := by rw [← hr]; exact Nat.mod_lt _ h0
      have HJ := Lib.hid (show Nat.gcd B r = g by rw [← hI.out, ← hr, Nat.gcd_comm B (A % B), ← Nat.gcd_rec, Nat.gcd_comm])
      clear hI hr
      go_wp2_with fail
      go_quiet (fail)
      go_wp2_with fail
      go_roundw
      case rel => exact ⟨B, r, rfl, rfl, HJ, (Drawn.more _).draws _⟩
      case measure => simp [intOf]; omega
set_option maxHeartbeats 4000000 in
theorem refSplit (n c : Nat) (most : Int) (hn : n < 4611686018427387904) (R : Nat) (hR : splitD n c most = R) (b : Bool) (hb : b = true ↔ R ≠ 0) (w : World) :
    Calls Tryz.prog 8 #[.int .u64 n, .int .u64 c, .int .i64 most] w fun e w' => e = .returned (.tuple #[.int .u64 R, .bool b]) ∧ Drawn w w' := by
  have HB := Lib.hid hb
  unfold splitD at hR
  by_cases h4 : n < 4
  · rw [if_pos h4] at hR
    have g4 : decide ((n : Int) < 4) = true := by simp; omega
    have hv := Lib.hid hR.symm
    have hbv := Lib.hid (show b = false by cases hq : b with | false => rfl | true => exact absurd hR.symm (hb.1 hq))
    clear hb hR
    go_enter Tryz.func8, Tryz.ntmps8
    go_wp2_with fail
    go_ret2
    exact ⟨by rw [hv.out, hbv.out]; rfl, Drawn.refl _⟩
  · rw [if_neg h4] at hR
    have g4 : decide ((n : Int) < 4) = false := by simp; omega
    obtain ⟨K, hK⟩ : ∃ K, (min most 1048576).toNat = K := ⟨_, rfl⟩
    rw [hK] at hR
    have hKl : K ≤ 1048576 := by omega
    have HK := Lib.hid (show ∀ k : Nat, k < K ↔ ((k : Int) + 1 ≤ most ∧ (k : Int) + 1 ≤ 1048576) from fun k => by omega)
    have HR := Lib.hid hR
    clear hb hR hK
    go_enter Tryz.func8, Tryz.ntmps8
    go_wp2_with fail
    go_loopw [8, 9, 10] (fun xv yv iv wr => ∃ X Y k : Nat, xv = .int .u64 X ∧ yv = .int .u64 Y ∧ iv = .int .i64 ((k : Int) + 1) ∧ X < n ∧ Y < n ∧ k ≤ K ∧ Hid (splitS n c (K - k) X Y = R) ∧ Drawn w wr) (fun _ _ iv _ => K + 1 - (intOf iv).toNat)
    case atStart => exact ⟨2, 2, 0, rfl, rfl, rfl, by omega, by omega, Nat.zero_le _, HR, Drawn.more 0⟩
    case round =>
      obtain ⟨X, Y, k, rfl, rfl, rfl, hX, hY, hk, hI, nq, rfl⟩ := hrel
      by_cases hlt : k < K
      · obtain ⟨h5, h6⟩ := (HK.out k).1 hlt
        have g5 : decide ((k : Int) + 1 ≤ most) = true := by simp; omega
        have g6 : decide ((k : Int) + 1 ≤ 1048576) = true := by simp; omega
        obtain ⟨X', hX'⟩ : ∃ X', rowS n c X = X' := ⟨_, rfl⟩
        obtain ⟨Y1, hY1⟩ : ∃ Y1, rowS n c Y = Y1 := ⟨_, rfl⟩
        obtain ⟨Y', hY'⟩ : ∃ Y', rowS n c Y1 = Y' := ⟨_, rfl⟩
        have hXl : X' < n := by rw [← hX']; exact rowS_lt (by omega)
        have hY1l : Y1 < n := by rw [← hY1]; exact rowS_lt (by omega)
        have hYl : Y' < n := by rw [← hY']; exact rowS_lt (by omega)
        obtain ⟨mx, hmx⟩ : ∃ mx, max X' Y' = mx := ⟨_, rfl⟩
        obtain ⟨mn, hmn⟩ : ∃ mn, min X' Y' = mn := ⟨_, rfl⟩
        obtain ⟨D, hD⟩ : ∃ D, distS X' Y' = D := ⟨_, rfl⟩
        have hDm : mx - mn = D := by rw [← hD, ← hmx, ← hmn]; rfl
        have hmm : mn ≤ mx := by omega
        have hmxI : max (X' : Int) (Y' : Int) = (mx : Int) := by omega
        have hmnI : min (X' : Int) (Y' : Int) = (mn : Int) := by omega
        have hDI : (mx : Int) - (mn : Int) = (D : Int) := by omega
        obtain ⟨d, hd⟩ : ∃ d, Nat.gcd D n = d := ⟨_, rfl⟩
        have hstep := splitS_step (k := K - k - 1) hX' hY1 hY' (show Nat.gcd (distS X' Y') n = d by rw [hD]; exact hd)
        rw [show K - k - 1 + 1 = K - k by omega, hI.out] at hstep
        have C1 := Lib.hid (fun u => refNext10 X c n X' (by omega) (by omega) hn hX' u)
        have C2 := Lib.hid (fun u => refNext10 Y c n Y1 (by omega) (by omega) hn hY1 u)
        have C3 := Lib.hid (fun u => refNext10 Y1 c n Y' (by omega) (by omega) hn hY' u)
        have C4 := Lib.hid (fun u => refCommon D n d hd u)
        have hdp := gcd_pos10 (by omega) hd
        clear hX' hY1 hY' hd hI hD hDm h5 h6 hmx hmn
        by_cases h1 : 1 < d
        · rw [if_pos h1] at hstep
          have g7 : decide ((1 : Int) < (d : Int)) = true := by simp; omega
          rcases foundS_or n d with ⟨h8, h9⟩ | ⟨h8, h9⟩
          · have g8 : decide ((d : Int) < (n : Int)) = true := by simp; omega
            have hv := Lib.hid (hstep.trans h9)
            have hbv := Lib.hid (show b = true from HB.out.2 (by rw [hv.out]; omega))
            clear hstep h9
            go_wp2_with fail
            refine (C1.out _).mono ?_
            rintro e w' ⟨rfl, nq', rfl⟩
            go_wp2_with fail
            refine (C2.out _).mono ?_
            rintro e w' ⟨rfl, nq', rfl⟩
            go_wp2_with fail
            refine (C3.out _).mono ?_
            rintro e w' ⟨rfl, nq', rfl⟩
            go_wp2_with fail
            refine (C4.out _).mono ?_
            rintro e w' ⟨rfl, nq', rfl⟩
            go_wp2_with fail
            go_ret2
            exact ⟨by rw [hv.out, hbv.out]; rfl, Drawn.more _⟩
          · have g8 : decide ((d : Int) < (n : Int)) = false := by simp; omega
            have hv := Lib.hid (hstep.trans h9)
            have hbv := Lib.hid (show b = false by cases hq : b with | false => rfl | true => exact absurd hv.out (HB.out.1 hq))
            clear hstep h9
            go_wp2_with fail
            refine (C1.out _).mono ?_
            rintro e w' ⟨rfl, nq', rfl⟩
            go_wp2_with fail
            refine (C2.out _).mono ?_
            rintro e w' ⟨rfl, nq', rfl⟩
            go_wp2_with fail
            refine (C3.out _).mono ?_
            rintro e w' ⟨rfl, nq', rfl⟩
            go_wp2_with fail
            refine (C4.out _).mono ?_
            rintro e w' ⟨rfl, nq', rfl⟩
            go_wp2_with fail
            go_ret2
            exact ⟨by rw [hv.out, hbv.out]; rfl, Drawn.more _⟩
        · rw [if_neg h1] at hstep
          have g7 : decide ((1 : Int) < (d : Int)) = false := by simp; omega
          have HJ := Lib.hid (show splitS n c (K - (k + 1)) X' Y' = R by rw [show K - (k + 1) = K - k - 1 by omega]; exact hstep.symm)
          clear hstep
          go_wp2_with fail
          refine (C1.out _).mono ?_
          rintro e w' ⟨rfl, nq', rfl⟩
          go_wp2_with fail
          refine (C2.out _).mono ?_
          rintro e w' ⟨rfl, nq', rfl⟩
          go_wp2_with fail
          refine (C3.out _).mono ?_
          rintro e w' ⟨rfl, nq', rfl⟩
          go_wp2_with fail
          refine (C4.out _).mono ?_
          rintro e w' ⟨rfl, nq', rfl⟩
          go_wp2_with fail
          go_roundw
          case rel => exact ⟨X', Y', k + 1, rfl, rfl, by go_num, hXl, hYl, by omega, HJ, Drawn.more _⟩
          case measure => simp [intOf]; omega
      · obtain rfl : k = K := by omega
        have hv := Lib.hid (show R = 0 by rw [← hI.out, Nat.sub_self]; rfl)
        have hbv := Lib.hid (show b = false by cases hq : b with | false => rfl | true => exact absurd hv.out (HB.out.1 hq))
        have hno : ¬ ((k : Int) + 1 ≤ most ∧ (k : Int) + 1 ≤ 1048576) := fun h => hlt ((HK.out k).2 h)
        clear hI hlt
        by_cases h5 : (k : Int) + 1 ≤ most
        · have g5 : decide ((k : Int) + 1 ≤ most) = true := by simp; omega
          have g6 : decide ((k : Int) + 1 ≤ 1048576) = false := by simp; omega
          clear hno
          go_wp2_with fail
          go_ret2
          exact ⟨by rw [hv.out, hbv.out]; rfl, Drawn.more _⟩
        · have g5 : decide ((k : Int) + 1 ≤ most) = false := by simp; omega
          clear hno
          go_wp2_with fail
          go_ret2
          exact ⟨by rw [hv.out, hbv.out]; rfl, Drawn.more _⟩
set_option maxHeartbeats 4000000 in
theorem refFactors (n : Nat) (h0 : 0 < n) (hn : n < 4294967296) (l : List Nat) (hl : IsFac n l) (w : World) :
    Calls Tryz.prog 10 #[.int .u64 n] w fun e w' => ∃ X d, e = .returned (.slice X l.length d) ∧ RowIs w' X l.length d l ∧ Below w.heap.size w w' := by
  obtain ⟨i0, hi, hz0, hz1, hz2⟩ := info_parts num_info_u64
  have HL := Lib.hid hl
  have HT := Lib.hid (Trying.start h0)
  clear hl
  go_enter Tryz.func10, Tryz.ntmps10
  go_wp2_with fail
  go_loopw [0, 3, 4] (fun nv ov dv wr => ∃ (m d : Nat) (ys : List Nat), nv = .int .u64 m ∧ dv = .int .u64 d ∧ 2 ≤ d ∧ d ≤ 65536 ∧ m ≤ n ∧ Hid (Trying n ys m d) ∧ wr.ownsRow w.heap.size 22 1 ov ys.length (ints .u64 ys) ∧ Below w.heap.size w wr) (fun _ _ dv _ => 65537 - (intOf dv).toNat)
  case atStart => exact ⟨n, 2, [], rfl, rfl, Nat.le_refl _, by omega, Nat.le_refl _, HT, World.ownsRow_nil _ _ _ _, Below.refl _ _⟩
  case round =>
    clear HT
    obtain ⟨m, d, ys, rfl, rfl, h2, hd, hmn, hT, hown, hb⟩ := hrel
    obtain ⟨q, hq⟩ : ∃ q, d * d = q := ⟨_, rfl⟩
    have hqI : (d : Int) * (d : Int) = (q : Int) := by rw [← hq]; simp
    have hql : q ≤ 4294967296 := by rw [← hq]; exact Nat.mul_le_mul hd hd
    have HQ := Lib.hid hq
    by_cases hlt : q ≤ m
    · have g1 : decide ((q : Int) ≤ (m : Int)) = true := by simp; omega
      have hd2 : d < 65536 := by
        rcases Nat.lt_or_ge d 65536 with h | h
        · exact h
        · have := Nat.mul_le_mul h h; omega
      clear hq
      go_wp2_with fail
      go_loopw [0, 3] (fun nv ov wr => ∃ (m : Nat) (ys : List Nat), nv = .int .u64 m ∧ m ≤ n ∧ Hid (Trying n ys m d) ∧ wr.ownsRow w.heap.size 22 1 ov ys.length (ints .u64 ys) ∧ Below w.heap.size w wr) (fun nv _ _ => (intOf nv).toNat)
      case atStart => exact ⟨m, ys, rfl, hmn, hT, hown, hb⟩
      case round =>
        clear hT hown hb hlt g1 hmn
        obtain ⟨m, ys, rfl, hmn, hT, hown, hb⟩ := hrel
        have hd0 : ((d : Int) == 0) = false := by simp; omega
        by_cases h4 : m % d = 0
        · have g4 := mod_form10 m d true (decide_eq_true h4)
          have hmp := hT.out.pos
          have hyl := hT.out.few (k := 32) (by omega)
          obtain ⟨m', hm'⟩ : ∃ m', m / d = m' := ⟨_, rfl⟩
          have hmI : (m : Int) / (d : Int) = (m' : Int) := by rw [← hm']; simp
          have hml : m' < m := by rw [← hm']; exact Nat.div_lt_self hmp (by omega)
          have HT := Lib.hid (show Trying n (ys ++ [d]) m' d by rw [← hm']; exact hT.out.take h2 h4)
          have hle : (ys ++ [d]).length = ys.length + 1 := by simp
          clear hT h4 hm'
          go_wp2_with (at_builtin; refine wpList_append_one _ rfl _ _ 28 rfl w.heap.size 22 i0 (.int .u64 0) 8 Tryz.underlying28 hi hz0 hz1 hz2 rfl _ _ .u64 ys rfl hown _ d rfl rfl (by unfold maxLen; omega) (by omega) hb.size ?_)
          intro v2 w2 own2 _ b2
          rw [← hle] at own2
          have B2 := hb.trans b2
          go_wp2_with fail
          go_roundw
          case rel => exact ⟨m', ys ++ [d], by first | rfl | rw [hmI], by omega, HT, own2, B2⟩
          case measure => simp [intOf]; omega
        · have g4 := mod_form10 m d false (decide_eq_false h4)
          have HT := Lib.hid (hT.out.next h4)
          clear hT h4
          go_wp2_with fail
          go_roundw
          case rel => exact ⟨m, d + 1, ys, rfl, by go_num, by omega, by omega, hmn, HT, hown, hb⟩
          case measure => simp [intOf]; omega
    · have g1 : decide ((q : Int) ≤ (m : Int)) = false := by simp; omega
      have hmp := hT.out.pos
      have hyl := hT.out.few (k := 32) (by omega)
      have hmd : m < d * d := by rw [hq]; omega
      clear hq
      by_cases h1 : 1 < m
      · have g2 : decide ((1 : Int) < (m : Int)) = true := by simp; omega
        obtain rfl := fac_uniq _ _ n HL.out (hT.out.last h1 hmd)
        have hle : (ys ++ [m]).length = ys.length + 1 := by simp
        have hw : Words (ys ++ [m]) := fun x hx => by
          have := Nat.le_of_dvd h0 (Nat.dvd_trans (prodN_mem_dvd hx) (by rw [HL.out.1]; exact Nat.dvd_refl _))
          omega
        have HW := Lib.hid hw
        clear hT hmd hw
        go_wp2_with (at_builtin; refine wpList_append_one _ rfl _ _ 28 rfl w.heap.size 22 i0 (.int .u64 0) 8 Tryz.underlying28 hi hz0 hz1 hz2 rfl _ _ .u64 ys rfl hown _ m rfl rfl (by unfold maxLen; omega) (by omega) hb.size ?_)
        intro v2 w2 own2 _ b2
        rw [← hle] at own2
        obtain ⟨X, e, rfl, he, _⟩ := own_form own2
        have B2 := hb.trans b2
        have HP := Lib.hid (show RowIs w2 X (ys ++ [m]).length e (ys ++ [m]) from ⟨rfl, HW.out, by omega, Rd.own own2, he⟩)
        obtain ⟨k, hk⟩ : ∃ k, (ys ++ [m]).length = k := ⟨_, rfl⟩
        rw [hk] at HP
        rw [hk]
        clear own2
        go_wp2_with fail
        go_ret
        subst hk
        exact ⟨X, e, rfl, HP.out, B2⟩
      · have g2 : decide ((1 : Int) < (m : Int)) = false := by simp; omega
        obtain rfl : m = 1 := by omega
        obtain rfl := fac_uniq _ _ n HL.out hT.out.done
        obtain ⟨X, e, rfl, he, _⟩ := own_form hown
        have hw : Words l := fun x hx => by
          have := Nat.le_of_dvd h0 (Nat.dvd_trans (prodN_mem_dvd hx) (by rw [HL.out.1]; exact Nat.dvd_refl _))
          omega
        have HP := Lib.hid (show RowIs wr X l.length e l from ⟨rfl, hw, by omega, Rd.own hown, he⟩)
        obtain ⟨k, hk⟩ : ∃ k, l.length = k := ⟨_, rfl⟩
        rw [hk] at HP
        rw [hk]
        clear hT hown hmd hw
        go_wp2_with fail
        go_ret
        subst hk
        exact ⟨X, e, rfl, HP.out, hb⟩
end Go.Proofs.YtakcgamgnmmdlaaGreat
/- rho's contracts, as laws use them. Conditions: as typed (words; up to a thousand draws). -/
namespace Go.Proofs.YtakcgamgnmmdlaaGreat
open Go.RowKit
/-- What the row lists, as the contracts ask it: nothing, as long as no table is read. -/
def LaidR (_ : World) : Prop := True
theorem LaidR.below {w w' : World} (_ : LaidR w) (_ : Below w.heap.size w w') : LaidR w' := trivial
theorem rhoIsW_any (n : Nat) (hn : n < 18446744073709551616) (b : Bool) (hb : b = true ↔ IsW n) (w : World) (hL : LaidR w) : Calls Tryz.prog 11 #[.int .u64 n] w fun e w' => e = .returned (.bool b) ∧ Below w.heap.size w w' := (fun _ => is_word9 n hn b hb w) hL
theorem rhoSplit_any (n c : Nat) (most : Int) (hn : n < 18446744073709551616) (hc : c < 18446744073709551616) (hm : -9223372036854775808 ≤ most ∧ most ≤ 9223372036854775807) (R : Nat) (hR : splitD n c most = R) (b : Bool) (hb : b = true ↔ R ≠ 0) (w : World) (hL : LaidR w) :
    Calls Tryz.prog 7 #[.int .u64 n, .int .u64 c, .int .i64 most] w fun e w' => e = .returned (.tuple #[.int .u64 R, .bool b]) ∧ Below w.heap.size w w' := (fun _ => split10 n c most hn hc hm R hR b hb w) hL
theorem rhoFactors_any {w : World} {A : Option Addr} {n c : Nat} {l : List Nat} (P : RowIs w A n c l) (hn : n ≤ 1000) (N : Nat) (hN0 : 0 < N) (hN : N < 18446744073709551616) (hL : LaidR w) :
    Calls Tryz.prog 9 #[.int .u64 N, .slice A n c] w fun e w' => ∃ X q d ls rest er, e = .returned (.tuple #[.slice X q d, .int .u64 ((rest : Nat) : Int), .int .i64 ((er : Nat) : Int)]) ∧ Told10 IsW N ls rest er ∧ RowIs w' X q d ls ∧ Below w.heap.size w w' := (fun _ => factors10 P hn N hN0 hN) hL
theorem rhoFactors_zero {w : World} {A : Option Addr} {n c : Nat} {l : List Nat} (P : RowIs w A n c l) (hn : n ≤ 1000) (hL : LaidR w) :
    Calls Tryz.prog 9 #[.int .u64 0, .slice A n c] w fun e w' => ∃ X q d, e = .returned (.tuple #[.slice X q d, .int .u64 0, .int .i64 1]) ∧ Below w.heap.size w w' := (fun _ _ _ => factors_zero10 w A n c) P hn hL
end Go.Proofs.YtakcgamgnmmdlaaGreat
/- rho's contracts in the form that laws use. Conditions: as typed. -/
namespace Go.Proofs.YtakcgamgnmmdlaaGreat
open Go.RowKit
set_option maxRecDepth 20000
theorem some_bool10 (p : Prop) : ∃ b : Bool, b = true ↔ p := by
  by_cases h : p
  · exact ⟨true, by simpa using h⟩
  · exact ⟨false, by simpa using h⟩
/-- A flag tells whether a number is not 0. -/
def FlagIs (b : Bool) (R : Nat) : Prop := b = true ↔ R ≠ 0
theorem rowIs_nil10 (w : World) (A : Option Addr) (c : Nat) : RowIs w A 0 c [] := ⟨rfl, (by intro x hx; cases hx), by omega, Rd.nil, Nat.zero_le _⟩
theorem rowIs_at10 {w : World} {A : Option Addr} {n c : Nat} {l : List Nat} (P : RowIs w A n c l) (h : 0 < n) : ∃ g o, A = some ⟨g, o, none⟩ ∧ g < w.heap.size ∧ ∀ j, j < n → w.cell? ⟨g, o + j, none⟩ = some (.int .u64 (nth l j : Int)) := by
  obtain ⟨rfl, _, _, hr, _⟩ := P
  obtain ⟨g, o, e, hg, hc⟩ := hr h
  exact ⟨g, o, e, hg, hc⟩
/-- Of a number below 2^32 all is told, whatever is drawn. -/
theorem bFactors_small {w : World} {A : Option Addr} {n c : Nat} {l : List Nat} (P : RowIs w A n c l) (hn : n ≤ 1000) (N : Nat) (l0 : List Nat) (hl0 : IsFac N l0) (hN0 : 0 < N) (hN : N < 4294967296) (k : Nat) (hk : l0.length = k) (hL : LaidR w) :
    Calls Tryz.prog 9 #[.int .u64 N, .slice A n c] w fun e w' => ∃ X d, e = .returned (.tuple #[.slice X k d, .int .u64 1, .int .i64 0]) ∧ RowIs w' X k d l0 ∧ Below w.heap.size w w' :=
  (rhoFactors_any P hn N hN0 (by omega) hL).mono fun e w' ⟨X, q, d, ls, rest, er, he, hT, hP, hb⟩ => by
    obtain ⟨rfl, rfl, hf⟩ := hT.small isW_small hN0 hN
    obtain rfl := fac_uniq _ _ N hf hl0
    obtain rfl : q = k := by rw [← hk]; exact hP.1.symm
    exact ⟨X, d, he, hP, hb⟩
theorem prm_w10 {p f : Nat} (h2 : 2 ≤ p) (h : noneB p f 2 = true) (hf : p < (f + 2) * (f + 2)) : Prm p := prm_tried h2 h hf
theorem fac_360 : IsFac 360 [2, 2, 2, 3, 3, 5] := ⟨by decide, by
  intro p hp
  have : p = 2 ∨ p = 3 ∨ p = 5 := by simp at hp; omega
  rcases this with rfl | rfl | rfl
  · exact prm_w10 (f := 0) (by omega) rfl (by omega)
  · exact prm_w10 (f := 0) (by omega) rfl (by omega)
  · exact prm_w10 (f := 1) (by omega) (by decide) (by omega), by decide⟩
theorem fac_1 : IsFac 1 [] := ⟨rfl, by simp, List.Pairwise.nil⟩
theorem split_91 : splitD 91 1 100 = 7 := by
  unfold splitD
  rw [if_neg (by omega), show (min (100 : Int) 1048576).toNat = 99 + 1 by decide, splitS_step (x' := 5) (y1 := 5) (y' := 26) (d := 7) (by decide) (by decide) (by decide) (by decide)]
  decide
end Go.Proofs.YtakcgamgnmmdlaaGreat
/- Chapter 10's examples. No condition. -/
namespace Go.Proofs.YtakcgamgnmmdlaaGreat
open Go.RowKit
set_option maxRecDepth 20000
set_option maxHeartbeats 4000000 in
theorem rhoWorks_any (w : World) (hL : LaidR w) : Calls Tryz.prog 6 #[] w fun e w' => e = .returned (.bool true) ∧ Below w.heap.size w w' := by
  have HLd := Lib.hid hL
  clear hL
  go_enter Tryz.func6, Tryz.ntmps6
  go_wp2_with fail
  refine (bFactors_small (rowIs_nil10 w none 0) (by omega) 360 _ fac_360 (by omega) (by omega) 6 rfl HLd.out).mono ?_
  rintro e w1 ⟨X1, d1, rfl, P1, b1⟩
  have B1 := b1
  go_wp2_with fail
  refine (bFactors_small (rowIs_nil10 w1 none 0) (by omega) 1 _ fac_1 (by omega) (by omega) 0 rfl (HLd.out.below B1)).mono ?_
  rintro e w2 ⟨X2, d2, rfl, P2, b2⟩
  have B2 := below_step B1 b2
  have P1 := P1.step b2
  clear P2
  go_wp2_with fail
  refine (rhoSplit_any 91 1 100 (by omega) (by omega) (by omega) 7 split_91 true (by simp) _ (HLd.out.below B2)).mono ?_
  rintro e w3 ⟨rfl, b3⟩
  have B3 := below_step B2 b3
  have P1 := P1.step b3
  go_wp2_with fail
  refine (rhoFactors_zero (rowIs_nil10 w3 none 0) (by omega) (HLd.out.below B3)).mono ?_
  rintro e w4 ⟨X3, q3, d3, rfl, b4⟩
  have B4 := below_step B3 b4
  have P1 := P1.step b4
  obtain ⟨g, o, rfl, hg, hc⟩ := rowIs_at10 P1 (by omega)
  have c3 := hc 3 (by omega)
  have c5 := hc 5 (by omega)
  rw [show nth [2, 2, 2, 3, 3, 5] 3 = 3 from rfl] at c3
  rw [show nth [2, 2, 2, 3, 3, 5] 5 = 5 from rfl] at c5
  clear hc P1
  go_wp2_with fail
  go_ret
  exact ⟨rfl, B4⟩
end Go.Proofs.YtakcgamgnmmdlaaGreat
/- RhoSplits' walk: it answers true, and writes nothing that was there. No condition but what the arguments' types give. -/
namespace Go.Proofs.YtakcgamgnmmdlaaGreat
open Go.RowKit
set_option maxRecDepth 20000
theorem refSplitB (n c : Nat) (most : Int) (hn : n < 4611686018427387904) (R : Nat) (hR : splitD n c most = R) (b : Bool) (hb : b = true ↔ R ≠ 0) (w : World) :
    Calls Tryz.prog 8 #[.int .u64 n, .int .u64 c, .int .i64 most] w fun e w' => e = .returned (.tuple #[.int .u64 R, .bool b]) ∧ Below w.heap.size w w' :=
  (refSplit n c most hn R hR b hb w).mono fun _ _ ⟨h1, h2⟩ => ⟨h1, h2.below _⟩
set_option maxHeartbeats 4000000 in
theorem rhoSplits_walk (a0 a1 most : Int) (w : World) (w0 : (Lit.int .u64 a0).wf = true) (w1 : (Lit.int .u64 a1).wf = true) (w2 : (Lit.int .i64 most).wf = true) (hL : LaidR w) : Calls Tryz.prog 3 #[.int .u64 a0, .int .u64 a1, .int .i64 most] w fun e w' => e = .returned (.bool true) ∧ Below w.heap.size w w' := by
  have HLd := Lib.hid hL
  clear hL
  have ha0 : 0 ≤ a0 ∧ a0 ≤ 18446744073709551615 := by simpa [Lit.wf, IntKind.min, IntKind.max, IntKind.signed, IntKind.bits] using w0
  have ha1 : 0 ≤ a1 ∧ a1 ≤ 18446744073709551615 := by simpa [Lit.wf, IntKind.min, IntKind.max, IntKind.signed, IntKind.bits] using w1
  have hm : -9223372036854775808 ≤ most ∧ most ≤ 9223372036854775807 := by simpa [Lit.wf, IntKind.min, IntKind.max, IntKind.signed, IntKind.bits] using w2
  obtain ⟨n, rfl⟩ : ∃ x : Nat, a0 = (x : Int) := ⟨a0.toNat, by omega⟩
  obtain ⟨c, rfl⟩ : ∃ x : Nat, a1 = (x : Int) := ⟨a1.toNat, by omega⟩
  clear w0 w1 w2
  by_cases v0 : 4611686018427387904 ≤ n
  · skip
    have g0 : decide ((4611686018427387904 : Int) ≤ (n : Int)) = true := by simp; omega
    go_enter Tryz.func3, Tryz.ntmps3
    go_wp2_with fail
    refine (rhoWorks_any _ HLd.out).mono ?_
    rintro e w1 ⟨rfl, b1⟩
    have B1 := b1
    go_wp2_with fail
    go_ret
    exact ⟨rfl, B1⟩
  · have g0 : decide ((4611686018427387904 : Int) ≤ (n : Int)) = false := by simp; omega
    have hn : n < 4611686018427387904 := by omega
    by_cases v1 : 4611686018427387904 ≤ c
    · skip
      have g1 : decide ((4611686018427387904 : Int) ≤ (c : Int)) = true := by simp; omega
      go_enter Tryz.func3, Tryz.ntmps3
      go_wp2_with fail
      refine (rhoWorks_any _ HLd.out).mono ?_
      rintro e w1 ⟨rfl, b1⟩
      have B1 := b1
      go_wp2_with fail
      go_ret
      exact ⟨rfl, B1⟩
    · have g1 : decide ((4611686018427387904 : Int) ≤ (c : Int)) = false := by simp; omega
      by_cases v2 : 300 < most
      · skip
        have g2 : decide ((300 : Int) < most) = true := by simp; omega
        go_enter Tryz.func3, Tryz.ntmps3
        go_wp2_with fail
        refine (rhoWorks_any _ HLd.out).mono ?_
        rintro e w1 ⟨rfl, b1⟩
        have B1 := b1
        go_wp2_with fail
        go_ret
        exact ⟨rfl, B1⟩
      · have g2 : decide ((300 : Int) < most) = false := by simp; omega
        obtain ⟨R, hR⟩ : ∃ R, splitD n c most = R := ⟨_, rfl⟩
        obtain ⟨b, hb⟩ := some_bool10 (R ≠ 0)
        have HR := Lib.hid hR
        have HB := Lib.hid (show FlagIs b R from hb)
        clear hR hb
        cases b
        · skip
          go_enter Tryz.func3, Tryz.ntmps3
          go_wp2_with fail
          refine (rhoSplit_any n c most (by omega) (by omega) hm R HR.out false HB.out _ HLd.out).mono ?_
          rintro e w1 ⟨rfl, b1⟩
          have B1 := b1
          go_wp2_with fail
          refine (refSplitB n c most hn R HR.out false HB.out _).mono ?_
          rintro e w2 ⟨rfl, b2⟩
          have B2 := below_step B1 b2
          go_wp2_with fail
          refine (rhoWorks_any _ (HLd.out.below B2)).mono ?_
          rintro e w3 ⟨rfl, b3⟩
          have B3 := below_step B2 b3
          go_wp2_with fail
          go_ret
          exact ⟨rfl, B3⟩
        · skip
          go_enter Tryz.func3, Tryz.ntmps3
          go_wp2_with fail
          refine (rhoSplit_any n c most (by omega) (by omega) hm R HR.out true HB.out _ HLd.out).mono ?_
          rintro e w1 ⟨rfl, b1⟩
          have B1 := b1
          go_wp2_with fail
          refine (refSplitB n c most hn R HR.out true HB.out _).mono ?_
          rintro e w2 ⟨rfl, b2⟩
          have B2 := below_step B1 b2
          go_wp2_with fail
          refine (rhoWorks_any _ (HLd.out.below B2)).mono ?_
          rintro e w3 ⟨rfl, b3⟩
          have B3 := below_step B2 b3
          go_wp2_with fail
          go_ret
          exact ⟨rfl, B3⟩
end Go.Proofs.YtakcgamgnmmdlaaGreat

/- Several texts in one; each begins with a remark that says what it shows and on which conditions. -/
import Derived.Test.YtjghhdoklfpdfaaKbe
/- PrimeLoose' walk: it answers true, and writes nothing that was there. No condition but what the arguments' types give. -/
namespace Go.Proofs.Ytjghhdoklfpdfaa
open Go.RowKit
set_option maxRecDepth 20000
theorem rowIs_cell9 {w : World} {g o n c : Nat} {l : List Nat} (P : RowIs w (some ⟨g, o, none⟩) n c l) (j : Nat) (hj : j < n) : w.cell? ⟨g, o + j, none⟩ = some (.int .u64 (nth l j : Int)) := by
  obtain ⟨rfl, _, _, hr, _⟩ := P
  obtain ⟨g2, o2, e, _, hc⟩ := hr (by omega)
  injection e with e
  injection e with e1 e2 _
  subst e1 e2
  exact hc j hj
theorem last_not_zero9 {l : List Nat} (h : l = wd (natOf l)) (m : Nat) (hm : l.length = m + 1) : nth l m ≠ 0 := by
  have hw := wd_words (natOf l)
  have ht : tl l = m + 1 := by
    have : l.length = tl l := by
      conv => lhs; rw [h]
      rw [length_wd]; rfl
    omega
  have := nth_last_word l (by rw [h]; exact hw) (by omega)
  rwa [ht, Nat.add_sub_cancel] at this
theorem even_low9 {l : List Nat} (hw : Words l) (h : nth l 0 % 2 = 0) : natOf l % 2 = 0 := by
  rw [nth_natOf l hw] at h
  simp at h
  omega
def TrialIs9 (l : List Nat) (most r : Nat) : Prop := if l = wd (natOf l) then IsTrial (natOf l) most r else r = 0
def StrongIs9 (l l2 : List Nat) (b : Bool) : Prop := b = true ↔ (l = wd (natOf l) ∧ l2 = wd (natOf l2) ∧ nbits (natOf l) ≤ 1024 ∧ nbits (natOf l2) ≤ 1024 ∧ PassD (natOf l) (natOf l2))
set_option maxHeartbeats 4000000
theorem loose_ff_x (A0 A1 : Option Addr) (c0 n1 c1 : Nat) (l0 l1 : List Nat) (w : World) (most r : Nat) (hm : most < 18446744073709551616) (hL : LaidP w) (P0 : RowIs w A0 0 c0 l0) (P1 : RowIs w A1 n1 c1 l1) (h1 : n1 ≤ 40) (HR : Hid (TrialIs9 l0 most r)) (HT : Hid (false = true ↔ r ≠ 0)) (HS : Hid (StrongIs9 l0 l1 false)) :
    Calls Try.prog 6 #[.slice A0 0 c0, .slice A1 n1 c1, .int .u64 most] w fun e w' => e = .returned (.bool true) ∧ Below w.heap.size w w' := by
  have HLd := Lib.hid hL
  clear hL
  obtain rfl : r = 0 := by have h := HT.out; simp at h; omega
  have g1 : decide ((40 : Int) < (n1 : Int)) = false := by simp; omega
  go_enter Try.func6, Try.ntmps6
  go_wp2_with fail
  refine (primeTrial_any P0 (by omega) most 0 hm HR.out false (by simp) HLd.out).mono ?_
  rintro e w1 ⟨rfl, b1⟩
  have B1 := b1
  have P0 := P0.step b1
  have P1 := P1.step b1
  go_wp2_with fail
  refine (primeStrong_any P0 P1 (by omega) (by omega) false HS.out (HLd.out.below B1)).mono ?_
  rintro e w2 ⟨rfl, b2⟩
  have B2 := below_step B1 b2
  have P0 := P0.step b2
  have P1 := P1.step b2
  clear P0 P1
  go_wp2_with fail
  refine (priWorks_any _ (HLd.out.below B2)).mono ?_
  rintro e w3 ⟨rfl, b3⟩
  have B3 := below_step B2 b3
  go_wp2_with fail
  go_ret
  exact ⟨rfl, B3⟩
theorem loose_ff_ze (g o : Nat) (A1 : Option Addr) (m c0 n1 c1 y z : Nat) (l0 l1 : List Nat) (w : World) (most r : Nat) (hm : most < 18446744073709551616) (hL : LaidP w) (P0 : RowIs w (some ⟨g, o, none⟩) (m + 1) c0 l0) (P1 : RowIs w A1 n1 c1 l1) (h0 : m + 1 ≤ 40) (h1 : n1 ≤ 40) (HR : Hid (TrialIs9 l0 most r)) (HT : Hid (false = true ↔ r ≠ 0)) (HS : Hid (StrongIs9 l0 l1 false)) (HZ : Hid (nth l0 m = z)) (HY : Hid (nth l0 0 = y)) (hz : z = 0) (hy : y % 2 = 0) :
    Calls Try.prog 6 #[.slice (some ⟨g, o, none⟩) (m + 1) c0, .slice A1 n1 c1, .int .u64 most] w fun e w' => e = .returned (.bool true) ∧ Below w.heap.size w w' := by
  have HLd := Lib.hid hL
  clear hL
  obtain rfl : r = 0 := by have h := HT.out; simp at h; omega
  have g1 : decide ((40 : Int) < (n1 : Int)) = false := by simp; omega
  have g0 : decide ((40 : Int) < (m : Int) + 1) = false := by simp; omega
  have gz : ((z : Int) == 0) = true := by simp; omega
  have gy : ((y : Int) % 2 == 0) = true := by simp; omega
  clear hz hy
  go_enter Try.func6, Try.ntmps6
  go_wp2_with fail
  refine (primeTrial_any P0 (by omega) most 0 hm HR.out false (by simp) HLd.out).mono ?_
  rintro e w1 ⟨rfl, b1⟩
  have B1 := b1
  have P0 := P0.step b1
  have P1 := P1.step b1
  go_wp2_with fail
  refine (primeStrong_any P0 P1 (by omega) (by omega) false HS.out (HLd.out.below B1)).mono ?_
  rintro e w2 ⟨rfl, b2⟩
  have B2 := below_step B1 b2
  have P0 := P0.step b2
  have P1 := P1.step b2
  have hc1 := rowIs_cell9 P0 m (by omega)
  have hc0 := rowIs_cell9 P0 0 (by omega)
  rw [Nat.add_zero] at hc0
  rw [HZ.out] at hc1
  rw [HY.out] at hc0
  clear P0 P1
  go_wp2_with fail
  refine (priWorks_any _ (HLd.out.below B2)).mono ?_
  rintro e w3 ⟨rfl, b3⟩
  have B3 := below_step B2 b3
  go_wp2_with fail
  go_ret
  exact ⟨rfl, B3⟩
theorem loose_ff_zo (g o : Nat) (A1 : Option Addr) (m c0 n1 c1 y z : Nat) (l0 l1 : List Nat) (w : World) (most r : Nat) (hm : most < 18446744073709551616) (hL : LaidP w) (P0 : RowIs w (some ⟨g, o, none⟩) (m + 1) c0 l0) (P1 : RowIs w A1 n1 c1 l1) (h0 : m + 1 ≤ 40) (h1 : n1 ≤ 40) (HR : Hid (TrialIs9 l0 most r)) (HT : Hid (false = true ↔ r ≠ 0)) (HS : Hid (StrongIs9 l0 l1 false)) (HZ : Hid (nth l0 m = z)) (HY : Hid (nth l0 0 = y)) (hz : z = 0) (hy : y % 2 = 1) :
    Calls Try.prog 6 #[.slice (some ⟨g, o, none⟩) (m + 1) c0, .slice A1 n1 c1, .int .u64 most] w fun e w' => e = .returned (.bool true) ∧ Below w.heap.size w w' := by
  have HLd := Lib.hid hL
  clear hL
  obtain rfl : r = 0 := by have h := HT.out; simp at h; omega
  have g1 : decide ((40 : Int) < (n1 : Int)) = false := by simp; omega
  have g0 : decide ((40 : Int) < (m : Int) + 1) = false := by simp; omega
  have gz : ((z : Int) == 0) = true := by simp; omega
  have gy : ((y : Int) % 2 == 0) = false := by simp; omega
  clear hz hy
  go_enter Try.func6, Try.ntmps6
  go_wp2_with fail
  refine (primeTrial_any P0 (by omega) most 0 hm HR.out false (by simp) HLd.out).mono ?_
  rintro e w1 ⟨rfl, b1⟩
  have B1 := b1
  have P0 := P0.step b1
  have P1 := P1.step b1
  go_wp2_with fail
  refine (primeStrong_any P0 P1 (by omega) (by omega) false HS.out (HLd.out.below B1)).mono ?_
  rintro e w2 ⟨rfl, b2⟩
  have B2 := below_step B1 b2
  have P0 := P0.step b2
  have P1 := P1.step b2
  have hc1 := rowIs_cell9 P0 m (by omega)
  have hc0 := rowIs_cell9 P0 0 (by omega)
  rw [Nat.add_zero] at hc0
  rw [HZ.out] at hc1
  rw [HY.out] at hc0
  clear P0 P1
  go_wp2_with fail
  refine (priWorks_any _ (HLd.out.below B2)).mono ?_
  rintro e w3 ⟨rfl, b3⟩
  have B3 := below_step B2 b3
  go_wp2_with fail
  go_ret
  exact ⟨rfl, B3⟩
theorem loose_ff_ne (g o : Nat) (A1 : Option Addr) (m c0 n1 c1 y z : Nat) (l0 l1 : List Nat) (w : World) (most r : Nat) (hm : most < 18446744073709551616) (hL : LaidP w) (P0 : RowIs w (some ⟨g, o, none⟩) (m + 1) c0 l0) (P1 : RowIs w A1 n1 c1 l1) (h0 : m + 1 ≤ 40) (h1 : n1 ≤ 40) (HR : Hid (TrialIs9 l0 most r)) (HT : Hid (false = true ↔ r ≠ 0)) (HS : Hid (StrongIs9 l0 l1 false)) (HZ : Hid (nth l0 m = z)) (HY : Hid (nth l0 0 = y)) (hz : z ≠ 0) (hy : y % 2 = 0) :
    Calls Try.prog 6 #[.slice (some ⟨g, o, none⟩) (m + 1) c0, .slice A1 n1 c1, .int .u64 most] w fun e w' => e = .returned (.bool true) ∧ Below w.heap.size w w' := by
  have HLd := Lib.hid hL
  clear hL
  obtain rfl : r = 0 := by have h := HT.out; simp at h; omega
  have g1 : decide ((40 : Int) < (n1 : Int)) = false := by simp; omega
  have g0 : decide ((40 : Int) < (m : Int) + 1) = false := by simp; omega
  have gz : ((z : Int) == 0) = false := by simp; omega
  have gy : ((y : Int) % 2 == 0) = true := by simp; omega
  clear hz hy
  go_enter Try.func6, Try.ntmps6
  go_wp2_with fail
  refine (primeTrial_any P0 (by omega) most 0 hm HR.out false (by simp) HLd.out).mono ?_
  rintro e w1 ⟨rfl, b1⟩
  have B1 := b1
  have P0 := P0.step b1
  have P1 := P1.step b1
  go_wp2_with fail
  refine (primeStrong_any P0 P1 (by omega) (by omega) false HS.out (HLd.out.below B1)).mono ?_
  rintro e w2 ⟨rfl, b2⟩
  have B2 := below_step B1 b2
  have P0 := P0.step b2
  have P1 := P1.step b2
  have hc1 := rowIs_cell9 P0 m (by omega)
  have hc0 := rowIs_cell9 P0 0 (by omega)
  rw [Nat.add_zero] at hc0
  rw [HZ.out] at hc1
  rw [HY.out] at hc0
  clear P0 P1
  go_wp2_with fail
  refine (priWorks_any _ (HLd.out.below B2)).mono ?_
  rintro e w3 ⟨rfl, b3⟩
  have B3 := below_step B2 b3
  go_wp2_with fail
  go_ret
  exact ⟨rfl, B3⟩
theorem loose_ff_no (g o : Nat) (A1 : Option Addr) (m c0 n1 c1 y z : Nat) (l0 l1 : List Nat) (w : World) (most r : Nat) (hm : most < 18446744073709551616) (hL : LaidP w) (P0 : RowIs w (some ⟨g, o, none⟩) (m + 1) c0 l0) (P1 : RowIs w A1 n1 c1 l1) (h0 : m + 1 ≤ 40) (h1 : n1 ≤ 40) (HR : Hid (TrialIs9 l0 most r)) (HT : Hid (false = true ↔ r ≠ 0)) (HS : Hid (StrongIs9 l0 l1 false)) (HZ : Hid (nth l0 m = z)) (HY : Hid (nth l0 0 = y)) (hz : z ≠ 0) (hy : y % 2 = 1) :
    Calls Try.prog 6 #[.slice (some ⟨g, o, none⟩) (m + 1) c0, .slice A1 n1 c1, .int .u64 most] w fun e w' => e = .returned (.bool true) ∧ Below w.heap.size w w' := by
  have HLd := Lib.hid hL
  clear hL
  obtain rfl : r = 0 := by have h := HT.out; simp at h; omega
  have g1 : decide ((40 : Int) < (n1 : Int)) = false := by simp; omega
  have g0 : decide ((40 : Int) < (m : Int) + 1) = false := by simp; omega
  have gz : ((z : Int) == 0) = false := by simp; omega
  have gy : ((y : Int) % 2 == 0) = false := by simp; omega
  clear hz hy
  go_enter Try.func6, Try.ntmps6
  go_wp2_with fail
  refine (primeTrial_any P0 (by omega) most 0 hm HR.out false (by simp) HLd.out).mono ?_
  rintro e w1 ⟨rfl, b1⟩
  have B1 := b1
  have P0 := P0.step b1
  have P1 := P1.step b1
  go_wp2_with fail
  refine (primeStrong_any P0 P1 (by omega) (by omega) false HS.out (HLd.out.below B1)).mono ?_
  rintro e w2 ⟨rfl, b2⟩
  have B2 := below_step B1 b2
  have P0 := P0.step b2
  have P1 := P1.step b2
  have hc1 := rowIs_cell9 P0 m (by omega)
  have hc0 := rowIs_cell9 P0 0 (by omega)
  rw [Nat.add_zero] at hc0
  rw [HZ.out] at hc1
  rw [HY.out] at hc0
  clear P0 P1
  go_wp2_with fail
  refine (priWorks_any _ (HLd.out.below B2)).mono ?_
  rintro e w3 ⟨rfl, b3⟩
  have B3 := below_step B2 b3
  go_wp2_with fail
  go_ret
  exact ⟨rfl, B3⟩
theorem loose_ft_no (g o : Nat) (A1 : Option Addr) (m c0 n1 c1 y z : Nat) (l0 l1 : List Nat) (w : World) (most r : Nat) (hm : most < 18446744073709551616) (hL : LaidP w) (P0 : RowIs w (some ⟨g, o, none⟩) (m + 1) c0 l0) (P1 : RowIs w A1 n1 c1 l1) (h0 : m + 1 ≤ 40) (h1 : n1 ≤ 40) (HR : Hid (TrialIs9 l0 most r)) (HT : Hid (false = true ↔ r ≠ 0)) (HS : Hid (StrongIs9 l0 l1 true)) (HZ : Hid (nth l0 m = z)) (HY : Hid (nth l0 0 = y)) (hz : z ≠ 0) (hy : y % 2 = 1) :
    Calls Try.prog 6 #[.slice (some ⟨g, o, none⟩) (m + 1) c0, .slice A1 n1 c1, .int .u64 most] w fun e w' => e = .returned (.bool true) ∧ Below w.heap.size w w' := by
  have HLd := Lib.hid hL
  clear hL
  obtain rfl : r = 0 := by have h := HT.out; simp at h; omega
  have g1 : decide ((40 : Int) < (n1 : Int)) = false := by simp; omega
  have g0 : decide ((40 : Int) < (m : Int) + 1) = false := by simp; omega
  have gz : ((z : Int) == 0) = false := by simp; omega
  have gy : ((y : Int) % 2 == 0) = false := by simp; omega
  clear hz hy
  go_enter Try.func6, Try.ntmps6
  go_wp2_with fail
  refine (primeTrial_any P0 (by omega) most 0 hm HR.out false (by simp) HLd.out).mono ?_
  rintro e w1 ⟨rfl, b1⟩
  have B1 := b1
  have P0 := P0.step b1
  have P1 := P1.step b1
  go_wp2_with fail
  refine (primeStrong_any P0 P1 (by omega) (by omega) true HS.out (HLd.out.below B1)).mono ?_
  rintro e w2 ⟨rfl, b2⟩
  have B2 := below_step B1 b2
  have P0 := P0.step b2
  have P1 := P1.step b2
  have hc1 := rowIs_cell9 P0 m (by omega)
  have hc0 := rowIs_cell9 P0 0 (by omega)
  rw [Nat.add_zero] at hc0
  rw [HZ.out] at hc1
  rw [HY.out] at hc0
  clear P0 P1
  go_wp2_with fail
  refine (priWorks_any _ (HLd.out.below B2)).mono ?_
  rintro e w3 ⟨rfl, b3⟩
  have B3 := below_step B2 b3
  go_wp2_with fail
  go_ret
  exact ⟨rfl, B3⟩
theorem loose_tf_ne (g o : Nat) (A1 : Option Addr) (m c0 n1 c1 y z : Nat) (l0 l1 : List Nat) (w : World) (most r : Nat) (hm : most < 18446744073709551616) (hL : LaidP w) (P0 : RowIs w (some ⟨g, o, none⟩) (m + 1) c0 l0) (P1 : RowIs w A1 n1 c1 l1) (h0 : m + 1 ≤ 40) (h1 : n1 ≤ 40) (HR : Hid (TrialIs9 l0 most r)) (HT : Hid (true = true ↔ r ≠ 0)) (HS : Hid (StrongIs9 l0 l1 false)) (HZ : Hid (nth l0 m = z)) (HY : Hid (nth l0 0 = y)) (hz : z ≠ 0) (hy : y % 2 = 0) :
    Calls Try.prog 6 #[.slice (some ⟨g, o, none⟩) (m + 1) c0, .slice A1 n1 c1, .int .u64 most] w fun e w' => e = .returned (.bool true) ∧ Below w.heap.size w w' := by
  have HLd := Lib.hid hL
  clear hL
  have gr : ¬ r = 0 := by have h := HT.out; simp at h; omega
  have g1 : decide ((40 : Int) < (n1 : Int)) = false := by simp; omega
  have g0 : decide ((40 : Int) < (m : Int) + 1) = false := by simp; omega
  have gz : ((z : Int) == 0) = false := by simp; omega
  have gy : ((y : Int) % 2 == 0) = true := by simp; omega
  clear hz hy
  go_enter Try.func6, Try.ntmps6
  go_wp2_with fail
  refine (primeTrial_any P0 (by omega) most r hm HR.out true (by simpa using gr) HLd.out).mono ?_
  rintro e w1 ⟨rfl, b1⟩
  have B1 := b1
  have P0 := P0.step b1
  have P1 := P1.step b1
  go_wp2_with fail
  refine (primeStrong_any P0 P1 (by omega) (by omega) false HS.out (HLd.out.below B1)).mono ?_
  rintro e w2 ⟨rfl, b2⟩
  have B2 := below_step B1 b2
  have P0 := P0.step b2
  have P1 := P1.step b2
  have hc1 := rowIs_cell9 P0 m (by omega)
  have hc0 := rowIs_cell9 P0 0 (by omega)
  rw [Nat.add_zero] at hc0
  rw [HZ.out] at hc1
  rw [HY.out] at hc0
  clear P0 P1
  go_wp2_with fail
  refine (priWorks_any _ (HLd.out.below B2)).mono ?_
  rintro e w3 ⟨rfl, b3⟩
  have B3 := below_step B2 b3
  go_wp2_with fail
  go_ret
  exact ⟨rfl, B3⟩
theorem loose_tf_no (g o : Nat) (A1 : Option Addr) (m c0 n1 c1 y z : Nat) (l0 l1 : List Nat) (w : World) (most r : Nat) (hm : most < 18446744073709551616) (hL : LaidP w) (P0 : RowIs w (some ⟨g, o, none⟩) (m + 1) c0 l0) (P1 : RowIs w A1 n1 c1 l1) (h0 : m + 1 ≤ 40) (h1 : n1 ≤ 40) (HR : Hid (TrialIs9 l0 most r)) (HT : Hid (true = true ↔ r ≠ 0)) (HS : Hid (StrongIs9 l0 l1 false)) (HZ : Hid (nth l0 m = z)) (HY : Hid (nth l0 0 = y)) (hz : z ≠ 0) (hy : y % 2 = 1) :
    Calls Try.prog 6 #[.slice (some ⟨g, o, none⟩) (m + 1) c0, .slice A1 n1 c1, .int .u64 most] w fun e w' => e = .returned (.bool true) ∧ Below w.heap.size w w' := by
  have HLd := Lib.hid hL
  clear hL
  have gr : ¬ r = 0 := by have h := HT.out; simp at h; omega
  have g1 : decide ((40 : Int) < (n1 : Int)) = false := by simp; omega
  have g0 : decide ((40 : Int) < (m : Int) + 1) = false := by simp; omega
  have gz : ((z : Int) == 0) = false := by simp; omega
  have gy : ((y : Int) % 2 == 0) = false := by simp; omega
  clear hz hy
  go_enter Try.func6, Try.ntmps6
  go_wp2_with fail
  refine (primeTrial_any P0 (by omega) most r hm HR.out true (by simpa using gr) HLd.out).mono ?_
  rintro e w1 ⟨rfl, b1⟩
  have B1 := b1
  have P0 := P0.step b1
  have P1 := P1.step b1
  go_wp2_with fail
  refine (primeStrong_any P0 P1 (by omega) (by omega) false HS.out (HLd.out.below B1)).mono ?_
  rintro e w2 ⟨rfl, b2⟩
  have B2 := below_step B1 b2
  have P0 := P0.step b2
  have P1 := P1.step b2
  have hc1 := rowIs_cell9 P0 m (by omega)
  have hc0 := rowIs_cell9 P0 0 (by omega)
  rw [Nat.add_zero] at hc0
  rw [HZ.out] at hc1
  rw [HY.out] at hc0
  clear P0 P1
  go_wp2_with fail
  refine (priWorks_any _ (HLd.out.below B2)).mono ?_
  rintro e w3 ⟨rfl, b3⟩
  have B3 := below_step B2 b3
  go_wp2_with fail
  go_ret
  exact ⟨rfl, B3⟩
theorem loose_tt_no (g o : Nat) (A1 : Option Addr) (m c0 n1 c1 y z : Nat) (l0 l1 : List Nat) (w : World) (most r : Nat) (hm : most < 18446744073709551616) (hL : LaidP w) (P0 : RowIs w (some ⟨g, o, none⟩) (m + 1) c0 l0) (P1 : RowIs w A1 n1 c1 l1) (h0 : m + 1 ≤ 40) (h1 : n1 ≤ 40) (HR : Hid (TrialIs9 l0 most r)) (HT : Hid (true = true ↔ r ≠ 0)) (HS : Hid (StrongIs9 l0 l1 true)) (HZ : Hid (nth l0 m = z)) (HY : Hid (nth l0 0 = y)) (hz : z ≠ 0) (hy : y % 2 = 1) :
    Calls Try.prog 6 #[.slice (some ⟨g, o, none⟩) (m + 1) c0, .slice A1 n1 c1, .int .u64 most] w fun e w' => e = .returned (.bool true) ∧ Below w.heap.size w w' := by
  have HLd := Lib.hid hL
  clear hL
  have gr : ¬ r = 0 := by have h := HT.out; simp at h; omega
  have g1 : decide ((40 : Int) < (n1 : Int)) = false := by simp; omega
  have g0 : decide ((40 : Int) < (m : Int) + 1) = false := by simp; omega
  have gz : ((z : Int) == 0) = false := by simp; omega
  have gy : ((y : Int) % 2 == 0) = false := by simp; omega
  clear hz hy
  go_enter Try.func6, Try.ntmps6
  go_wp2_with fail
  refine (primeTrial_any P0 (by omega) most r hm HR.out true (by simpa using gr) HLd.out).mono ?_
  rintro e w1 ⟨rfl, b1⟩
  have B1 := b1
  have P0 := P0.step b1
  have P1 := P1.step b1
  go_wp2_with fail
  refine (primeStrong_any P0 P1 (by omega) (by omega) true HS.out (HLd.out.below B1)).mono ?_
  rintro e w2 ⟨rfl, b2⟩
  have B2 := below_step B1 b2
  have P0 := P0.step b2
  have P1 := P1.step b2
  have hc1 := rowIs_cell9 P0 m (by omega)
  have hc0 := rowIs_cell9 P0 0 (by omega)
  rw [Nat.add_zero] at hc0
  rw [HZ.out] at hc1
  rw [HY.out] at hc0
  clear P0 P1
  go_wp2_with fail
  refine (priWorks_any _ (HLd.out.below B2)).mono ?_
  rintro e w3 ⟨rfl, b3⟩
  have B3 := below_step B2 b3
  go_wp2_with fail
  go_ret
  exact ⟨rfl, B3⟩
theorem primeLoose_walk (A0 : Option Addr) (c0 : Nat) (l0 : List Nat) (A1 : Option Addr) (c1 : Nat) (l1 : List Nat) (a2 : Int) (w : World) (r0 : Rd .u64 w w.heap.size A0 l0) (y0 : Words l0) (_z0 : l0.length * 8 ≤ 140737488351232) (u0 : l0.length ≤ c0) (r1 : Rd .u64 w w.heap.size A1 l1) (y1 : Words l1) (_z1 : l1.length * 8 ≤ 140737488351232) (u1 : l1.length ≤ c1) (w2 : (Lit.int .u64 a2).wf = true) (hL : LaidP w) :
    Calls Try.prog 6 #[.slice A0 l0.length c0, .slice A1 l1.length c1, .int .u64 a2] w fun e w' => e = .returned (.bool true) ∧ Below w.heap.size w w' := by
  have ha : 0 ≤ a2 ∧ a2 ≤ 18446744073709551615 := by simpa [Lit.wf, IntKind.min, IntKind.max, IntKind.signed, IntKind.bits] using w2
  obtain ⟨most, rfl⟩ : ∃ x : Nat, a2 = (x : Int) := ⟨a2.toNat, by omega⟩
  have hm : most < 18446744073709551616 := by omega
  clear w2
  by_cases v0 : 40 < l0.length
  · have g0 : decide ((40 : Int) < (l0.length : Int)) = true := by simp; omega
    have HLd := Lib.hid hL
    clear hL
    go_enter Try.func6, Try.ntmps6
    go_wp2_with fail
    refine (priWorks_any _ HLd.out).mono ?_
    rintro e w1 ⟨rfl, b1⟩
    have B1 := b1
    go_wp2_with fail
    go_ret
    exact ⟨rfl, B1⟩
  · by_cases v1 : 40 < l1.length
    · have g0 : decide ((40 : Int) < (l0.length : Int)) = false := by simp; omega
      have g1 : decide ((40 : Int) < (l1.length : Int)) = true := by simp; omega
      have HLd := Lib.hid hL
      clear hL
      go_enter Try.func6, Try.ntmps6
      go_wp2_with fail
      refine (priWorks_any _ HLd.out).mono ?_
      rintro e w1 ⟨rfl, b1⟩
      have B1 := b1
      go_wp2_with fail
      go_ret
      exact ⟨rfl, B1⟩
    · have P0 : RowIs w A0 l0.length c0 l0 := ⟨rfl, y0, by omega, r0, u0⟩
      have P1 : RowIs w A1 l1.length c1 l1 := ⟨rfl, y1, by omega, r1, u1⟩
      obtain ⟨r, hr⟩ : ∃ r, if l0 = wd (natOf l0) then IsTrial (natOf l0) most r else r = 0 := by
        by_cases h : l0 = wd (natOf l0)
        · obtain ⟨r, hr⟩ := isTrial_some (natOf l0) most
          exact ⟨r, by rw [if_pos h]; exact hr⟩
        · exact ⟨0, by rw [if_neg h]⟩
      obtain ⟨bT, hT⟩ := some_bool (r ≠ 0)
      obtain ⟨bS, hS⟩ := some_bool (l0 = wd (natOf l0) ∧ l1 = wd (natOf l1) ∧ nbits (natOf l0) ≤ 1024 ∧ nbits (natOf l1) ≤ 1024 ∧ PassD (natOf l0) (natOf l1))
      rcases Nat.eq_zero_or_pos l0.length with h0 | h0
      · obtain rfl := List.length_eq_zero_iff.1 h0
        have e0 : natOf [] = 0 := rfl
        have hbT : bT = false := by
          cases bT with
          | false => rfl
          | true =>
            exfalso
            have h3 := hT.1 rfl
            split at hr
            · rcases hr with ⟨h4, _⟩ | ⟨_, _, _, h4, _⟩
              · exact h3 h4
              · rw [e0] at h4; omega
            · exact h3 hr
        have hbS : bS = false := by
          cases bS with
          | false => rfl
          | true => have := (hS.1 rfl).2.2.2.2.1; rw [e0] at this; omega
        subst hbT hbS
        exact loose_ff_x A0 A1 c0 _ c1 [] l1 w most r hm hL P0 P1 (by omega) (Lib.hid hr) (Lib.hid hT) (Lib.hid hS)
      · obtain ⟨m, hm1⟩ : ∃ m, l0.length = m + 1 := ⟨l0.length - 1, by omega⟩
        rw [hm1] at P0 ⊢
        obtain ⟨g, o, rfl, _, _⟩ := r0 h0
        obtain ⟨z, hz⟩ : ∃ z, nth l0 m = z := ⟨_, rfl⟩
        obtain ⟨y, hy⟩ : ∃ y, nth l0 0 = y := ⟨_, rfl⟩
        have hl : z = 0 → l0 ≠ wd (natOf l0) := fun h h2 => last_not_zero9 h2 m hm1 (hz.trans h)
        have hlT : z = 0 → bT = false := fun h => by
          cases bT with
          | false => rfl
          | true => rw [if_neg (hl h)] at hr; exact absurd hr (hT.1 rfl)
        have hlS : z = 0 → bS = false := fun h => by
          cases bS with
          | false => rfl
          | true => exact absurd (hS.1 rfl).1 (hl h)
        have hev : y % 2 = 0 → bS = false := fun h => by
          cases bS with
          | false => rfl
          | true => have h5 := (hS.1 rfl).2.2.2.2.2.1; have h6 := even_low9 y0 (by rw [hy]; exact h); omega
        have hyy : y % 2 = 0 ∨ y % 2 = 1 := by omega
        have hzz : z = 0 ∨ z ≠ 0 := by omega
        have X0 : m + 1 ≤ 40 := by omega
        have X1 : l1.length ≤ 40 := by omega
        have HR := Lib.hid hr
        have HZ := Lib.hid hz
        have HY := Lib.hid hy
        cases bT <;> cases bS <;> rcases hzz with hzz | hzz <;> rcases hyy with hyy | hyy <;> first
          | exact loose_ff_ze g o A1 m c0 _ c1 y z l0 l1 w most r hm hL P0 P1 X0 X1 HR (Lib.hid hT) (Lib.hid hS) HZ HY hzz hyy
          | exact loose_ff_zo g o A1 m c0 _ c1 y z l0 l1 w most r hm hL P0 P1 X0 X1 HR (Lib.hid hT) (Lib.hid hS) HZ HY hzz hyy
          | exact loose_ff_ne g o A1 m c0 _ c1 y z l0 l1 w most r hm hL P0 P1 X0 X1 HR (Lib.hid hT) (Lib.hid hS) HZ HY hzz hyy
          | exact loose_ff_no g o A1 m c0 _ c1 y z l0 l1 w most r hm hL P0 P1 X0 X1 HR (Lib.hid hT) (Lib.hid hS) HZ HY hzz hyy
          | exact loose_ft_no g o A1 m c0 _ c1 y z l0 l1 w most r hm hL P0 P1 X0 X1 HR (Lib.hid hT) (Lib.hid hS) HZ HY hzz hyy
          | exact loose_tf_ne g o A1 m c0 _ c1 y z l0 l1 w most r hm hL P0 P1 X0 X1 HR (Lib.hid hT) (Lib.hid hS) HZ HY hzz hyy
          | exact loose_tf_no g o A1 m c0 _ c1 y z l0 l1 w most r hm hL P0 P1 X0 X1 HR (Lib.hid hT) (Lib.hid hS) HZ HY hzz hyy
          | exact loose_tt_no g o A1 m c0 _ c1 y z l0 l1 w most r hm hL P0 P1 X0 X1 HR (Lib.hid hT) (Lib.hid hS) HZ HY hzz hyy
          | exact (Bool.false_ne_true (hlT hzz).symm).elim
          | exact (Bool.false_ne_true (hlS hzz).symm).elim
          | exact (Bool.false_ne_true (hev hyy).symm).elim
end Go.Proofs.Ytjghhdoklfpdfaa

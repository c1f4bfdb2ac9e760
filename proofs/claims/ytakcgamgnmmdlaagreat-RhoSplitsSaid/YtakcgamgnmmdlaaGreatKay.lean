/- Several texts in one; each begins with a remark that says what it shows and on which conditions. -/
import Derived.Test.YtakcgamgnmmdlaaGreatKau
import Derived.Test.YtakcgamgnmmdlaaGreatKac
import Derived.Test.YtakcgamgnmmdlaaGreatKax
import Derived.Test.YtakcgamgnmmdlaaGreatKad
import Derived.Deep.QuietTactic
import Derived.Deep.LoopGhost
import Derived.Deep.RegionWith
/- prime's small functions: ofWord, fits, halvings. Conditions: as typed (lengths that fit a machine). -/
namespace Go.Proofs.YtakcgamgnmmdlaaGreat
open Go.RowKit
set_option maxRecDepth 20000
/-- None from 2 on and below d divides. -/
def NoneTo (n d : Nat) : Prop := ∀ e, 2 ≤ e → e < d → n % e ≠ 0
theorem NoneTo.two (n : Nat) : NoneTo n 2 := fun e h1 h2 => by omega
theorem NoneTo.three {n : Nat} (h : n % 2 ≠ 0) : NoneTo n 3 := fun e h1 h2 => by
  obtain rfl : e = 2 := by omega
  exact h
theorem NoneTo.odd {n d : Nat} (h : NoneTo n d) (h3 : 3 ≤ d) (ho : d % 2 = 1) : NoneTo n (d + 2) ↔ n % d ≠ 0 := by
  refine ⟨fun k => k d (by omega) (by omega), fun hd e h1 h2 => ?_⟩
  rcases Nat.lt_or_ge e d with h4 | h4
  · exact h e h1 h4
  · rcases Nat.eq_or_lt_of_le h4 with rfl | h5
    · exact hd
    · obtain rfl : e = d + 1 := by omega
      intro h0
      have h6 : n % (d + 1) % 2 = n % 2 := Nat.mod_mod_of_dvd n (Nat.dvd_of_mod_eq_zero (by omega))
      rw [h0] at h6
      exact h 2 (by omega) (by omega) h6.symm
theorem NoneTo.next {n d : Nat} (h : NoneTo n d) (h2 : 2 ≤ d) (hd : n % d ≠ 0) (ho : d = 2 ∨ d % 2 = 1) : NoneTo n (d + (1 + d % 2)) := by
  rcases ho with rfl | ho
  · exact NoneTo.three hd
  · rw [ho]
    exact (h.odd (by omega) ho).2 hd
theorem trial_found {n most d : Nat} (h : NoneTo n d) (h2 : 2 ≤ d) (hm : d ≤ most) (hb : d ≤ 65536) (hn : d < n) (h0 : n % d = 0) : IsTrial n most d := .inr ⟨h2, hm, hb, hn, h0, h⟩
theorem trial_past {n most d : Nat} (h : NoneTo n d) (hm : most < d ∨ 65536 < d) : IsTrial n most 0 := .inl ⟨rfl, fun e h1 h2 h3 _ => h e h1 (by omega)⟩
theorem trial_root {n most d : Nat} (h : NoneTo n d) (hs : n < d * d) : IsTrial n most 0 := .inl ⟨rfl, fun e h1 _ _ h4 h0 => by
  rcases Nat.lt_or_ge e d with h5 | h5
  · exact h e h1 h5 h0
  · obtain ⟨f, rfl⟩ := Nat.dvd_of_mod_eq_zero h0
    have h6 : f < d := by
      rcases Nat.lt_or_ge f d with h7 | h7
      · exact h7
      · have := Nat.mul_le_mul h5 h7
        omega
    have h7 : 2 ≤ f := by
      rcases Nat.lt_or_ge f 2 with h8 | h8
      · have : e * f ≤ e * 1 := Nat.mul_le_mul_left e (by omega)
        omega
      · exact h8
    exact h f h7 h6 (Nat.mul_mod_left _ _)⟩
theorem trial_min {n most r : Nat} : IsTrial n (min most 65536) r ↔ IsTrial n most r := by
  unfold IsTrial
  constructor
  · rintro (⟨h1, h2⟩ | ⟨h1, h2, h3, h4⟩)
    · exact .inl ⟨h1, fun d h3 h4 h5 => h2 d h3 (by omega) h5⟩
    · exact .inr ⟨h1, by omega, h3, h4⟩
  · rintro (⟨h1, h2⟩ | ⟨h1, h2, h3, h4⟩)
    · exact .inl ⟨h1, fun d h3 h4 h5 => h2 d h3 (by omega) h5⟩
    · exact .inr ⟨h1, by omega, h3, h4⟩
set_option maxHeartbeats 1000000 in
theorem ofWord_any (n most r : Nat) (hn : n < 18446744073709551616) (hm : most ≤ 65536) (hr : IsTrial n most r) (b : Bool) (hb : b = true ↔ r ≠ 0) (w : World) :
    Calls Tryz.prog 35 #[.int .u64 n, .int .u64 most] w fun e w' => e = .returned (.tuple #[.int .u64 r, .bool b]) ∧ w = w' := by
  have HR := Lib.hid hr
  have HB := Lib.hid hb
  clear hr hb
  go_enter Tryz.func35, Tryz.ntmps35
  go_wp2_with fail
  go_loopw [6] (fun dv wr => ∃ d : Nat, dv = .int .u64 d ∧ 2 ≤ d ∧ d ≤ 65540 ∧ Hid (d = 2 ∨ d % 2 = 1) ∧ Hid (NoneTo n d) ∧ w = wr) (fun dv _ => 65542 - (intOf dv).toNat)
  case atStart => exact ⟨2, rfl, by omega, by omega, Lib.hid (.inl rfl), Lib.hid (NoneTo.two n), rfl⟩
  case round =>
    obtain ⟨d, rfl, h2, hd, ho, hN, rfl⟩ := hrel
    by_cases h1 : d ≤ most
    · obtain ⟨q, hq⟩ : ∃ q, d * d = q := ⟨_, rfl⟩
      have hql : q ≤ 65536 * 65536 := by rw [← hq]; exact Nat.mul_le_mul (by omega) (by omega)
      have hqi : (d : Int) * (d : Int) = (q : Int) := by rw [← hq]; simp
      have HQ := Lib.hid hq
      clear hq
      by_cases h3 : q ≤ n
      · obtain ⟨y, hy⟩ : ∃ y, n % d = y := ⟨_, rfl⟩
        have hyi : (n : Int) % (d : Int) = (y : Int) := by rw [← hy]; simp
        have HY := Lib.hid hy
        clear hy
        by_cases h4 : y = 0
        · subst h4
          have hdn : d < n := by
            have h5 := HQ.out
            have : d * 2 ≤ d * d := Nat.mul_le_mul_left d h2
            omega
          have hrd : r = d := isTrial_uniq HR.out (trial_found hN.out h2 h1 (by omega) hdn HY.out)
          have hbt : b = true := HB.out.2 (by omega)
          subst hrd
          subst hbt
          go_wp2_with fail
          go_ret2
          exact ⟨rfl, rfl⟩
        · have h4b : ((y : Int) == 0) = false := by simp; omega
          have HN := Lib.hid (hN.out.next h2 (by rw [HY.out]; exact h4) ho.out)
          have HO := Lib.hid (show d + (1 + d % 2) = 2 ∨ (d + (1 + d % 2)) % 2 = 1 by have := ho.out; omega)
          go_wp2_with fail
          go_roundw
          case rel => exact ⟨d + (1 + d % 2), by go_num, by omega, by omega, HO.out |> Lib.hid, HN, trivial⟩
          case measure => simp [intOf]; omega
      · have hr0 : r = 0 := isTrial_uniq HR.out (trial_root hN.out (by rw [HQ.out]; omega))
        have hbf : b = false := by
          rcases hb : b with _ | _
          · rfl
          · exact absurd hr0 (HB.out.1 hb)
        subst hr0
        subst hbf
        go_wp2_with fail
        go_ret2
        exact ⟨rfl, rfl⟩
    · have hr0 : r = 0 := isTrial_uniq HR.out (trial_past hN.out (by omega))
      have hbf : b = false := by
        rcases hb : b with _ | _
        · rfl
        · exact absurd hr0 (HB.out.1 hb)
      subst hr0
      subst hbf
      go_wp2_with fail
      go_ret2
      exact ⟨rfl, rfl⟩
/-! Which may be asked of by Strong -/
set_option maxHeartbeats 1000000 in
theorem fits_any {w : World} {A : Option Addr} {n c : Nat} {l : List Nat} (P : RowIs w A n c l) (b : Bool) (hb : b = true ↔ (l = wd (natOf l) ∧ nbits (natOf l) ≤ 1024)) :
    Calls Tryz.prog 70 #[.slice A n c] w fun e w' => e = .returned (.bool b) ∧ Below w.heap.size w w' := by
  have hN := P.in_
  have hbn := hN.bits
  have hnl := P.2.2.1
  have HB := Lib.hid fun (u : World) (e : Below w.heap.size w u) => bBits (hN.step e)
  have hM := natMay_any A c l w P.2.2.2.1 P.2.1 (by have := P.1; have := P.2.2.1; omega) (by have := P.1; have := P.2.2.2.2; omega)
  rw [P.1] at hM
  obtain ⟨s, hs⟩ : ∃ s, nbits (natOf l) = s := ⟨_, rfl⟩
  rw [hs] at hb HB hbn
  by_cases h1 : l = wd (natOf l)
  · rw [decide_eq_true h1] at hM
    have HM := Lib.hid hM
    have hb2 : decide (s ≤ 1024) = b := by
      rw [Bool.eq_iff_iff, decide_eq_true_eq, hb]
      exact ⟨fun h => ⟨h1, h⟩, fun h => h.2⟩
    have hb3 : decide ((s : Int) ≤ 1024) = b := by rw [← hb2]; exact decide_eq_decide.2 (by omega)
    clear hM hb h1 hN P hs
    go_enter Tryz.func70, Tryz.ntmps70
    go_wp2_with fail
    refine (HM.out).mono ?_
    rintro e w1 ⟨rfl, b1⟩
    go_wp2_with fail
    refine (HB.out _ b1).mono ?_
    rintro e w2 ⟨rfl, b2⟩
    go_wp2_with fail
    go_ret
    exact ⟨rfl, below_step b1 b2⟩
  · rw [decide_eq_false h1] at hM
    have HM := Lib.hid hM
    have hbf : b = false := by
      rcases h : b with _ | _
      · rfl
      · exact absurd (hb.1 h).1 h1
    subst hbf
    clear hM hb h1 hN P hs
    go_enter Tryz.func70, Tryz.ntmps70
    go_wp2_with fail
    refine (HM.out).mono ?_
    rintro e w1 ⟨rfl, b1⟩
    go_wp2_with fail
    go_ret
    exact ⟨rfl, b1⟩
/-! How often a number is even -/
theorem bit_twos (s d : Nat) (hd : d % 2 = 1) (k : Nat) (hk : k ≤ s) : bit (2 ^ s * d) k = if k = s then 1 else 0 := by
  unfold bit
  have e : 2 ^ s = 2 ^ k * 2 ^ (s - k) := by rw [← Nat.pow_add]; congr 1; omega
  rw [e, Nat.mul_assoc, Nat.mul_div_cancel_left _ (Nat.pow_pos (by omega))]
  split
  · rename_i h
    subst h
    rw [Nat.sub_self, Nat.pow_zero, Nat.one_mul]
    exact hd
  · rw [show s - k = (s - k - 1) + 1 by omega, Nat.pow_succ, Nat.mul_comm (2 ^ (s - k - 1)) 2, Nat.mul_assoc]
    omega
set_option maxHeartbeats 1000000 in
theorem halvings_any {w : World} {A : Option Addr} {n c M s d : Nat} (h : NatIn w A n c M) (e : M = 2 ^ s * d) (hd : d % 2 = 1) (hs : s ≤ 3200000) :
    Calls Tryz.prog 73 #[.slice A n c] w fun e w' => e = .returned (.int .i64 (s : Nat)) ∧ Below w.heap.size w w' := by
  have H := Lib.hid h
  have HE := Lib.hid e
  have HD := Lib.hid hd
  clear h e hd
  go_enter Tryz.func73, Tryz.ntmps73
  go_wp2_with fail
  go_loopw [3] (fun tv wr => ∃ k : Nat, tv = .int .i64 k ∧ k ≤ s ∧ Below w.heap.size w wr) (fun tv _ => s - (intOf tv).toNat)
  case atStart => exact ⟨0, rfl, Nat.zero_le _, Below.refl _ _⟩
  case round =>
    obtain ⟨k, rfl, hk, hb⟩ := hrel
    have B := bBit (H.out.step hb) (k : Int) (by unfold MaxI; omega)
    rw [HE.out, show bitS (2 ^ s * d) (k : Int) = ((if k = s then 1 else 0 : Nat)) by unfold bitS; rw [if_neg (by omega), Int.toNat_natCast, bit_twos s d HD.out k hk]] at B
    by_cases h1 : k = s
    · rw [if_pos h1] at B
      have HB := Lib.hid B
      clear B
      subst h1
      go_wp2_with fail
      refine (HB.out).mono ?_
      rintro e w1 ⟨rfl, b1⟩
      go_wp2_with fail
      go_ret
      exact ⟨rfl, below_step hb b1⟩
    · rw [if_neg h1] at B
      have HB := Lib.hid B
      clear B
      go_wp2_with fail
      refine (HB.out).mono ?_
      rintro e w1 ⟨rfl, b1⟩
      go_wp2_with fail
      go_roundw
      case rel => exact ⟨k + 1, by go_num, by omega, below_step hb b1⟩
      case measure => simp [intOf]; omega
end Go.Proofs.YtakcgamgnmmdlaaGreat
/- rho's small functions: modulo, times, common, and a row in memory: behind, step, distance. Conditions: as typed. -/
namespace Go.Proofs.YtakcgamgnmmdlaaGreat
open Go.RowKit
set_option maxRecDepth 20000
set_option maxHeartbeats 2000000 in
theorem mod10 (h l n v : Nat) (w : World) (hh : h < n) (hn : n < 18446744073709551616) (hl : l < 18446744073709551616) (hv : (h * 18446744073709551616 + l) % n = v) :
    Calls Tryz.prog 28 #[.int .u64 h, .int .u64 l, .int .u64 n] w fun e w' => e = .returned (.int .u64 v) ∧ Drawn w w' := by
  have HD := Lib.hid (div64_any h l n w hh hn hl)
  rw [hv] at HD
  obtain ⟨q, hq⟩ : ∃ q, (h * 18446744073709551616 + l) / n = q := ⟨_, rfl⟩
  rw [hq] at HD
  clear hv hq
  go_enter Tryz.func28, Tryz.ntmps28
  go_wp2_with fail
  refine (HD.out).mono ?_
  rintro e w1 ⟨rfl, hd⟩
  have HDr := Lib.hid hd
  clear hd
  go_wp2_with fail
  go_ret
  exact ⟨rfl, HDr.out⟩
set_option maxHeartbeats 2000000 in
theorem times10 (a b n v : Nat) (w : World) (ha : a < n) (hn : n < 18446744073709551616) (hb : b < 18446744073709551616) (hv : a * b % n = v) :
    Calls Tryz.prog 13 #[.int .u64 a, .int .u64 b, .int .u64 n] w fun e w' => e = .returned (.int .u64 v) ∧ Drawn w w' := by
  have HM := Lib.hid (Tryz.bits_Mul64 a b (by omega) hb w)
  obtain ⟨s, hs⟩ : ∃ s, a * b = s := ⟨_, rfl⟩
  rw [hs] at HM hv
  have hsl : s < n * 18446744073709551616 := by rw [← hs]; exact Nat.mul_lt_mul'' ha hb
  obtain ⟨hi, hhi⟩ : ∃ hi, s / 18446744073709551616 = hi := ⟨_, rfl⟩
  obtain ⟨lo, hlo⟩ : ∃ lo, s % 18446744073709551616 = lo := ⟨_, rfl⟩
  rw [hhi, hlo] at HM
  have HD := Lib.hid (mod10 hi lo n v w (by omega) hn (by omega) (by rw [← hv]; congr 1; omega))
  clear hs hsl hhi hlo hv
  go_enter Tryz.func13, Tryz.ntmps13
  go_wp2_with fail
  refine (HM.out).mono ?_
  rintro e w1 ⟨rfl, rfl⟩
  go_wp2_with fail
  refine (HD.out).mono ?_
  rintro e w2 ⟨rfl, hd⟩
  have HDr := Lib.hid hd
  clear hd
  go_wp2_with fail
  go_ret
  exact ⟨rfl, HDr.out⟩
/-! A row in memory -/
structure RowIn (g : Nat) (w : World) (n c x y : Nat) : Prop where
  c0 : w.cell? ⟨g, 0, none⟩ = some (.int .u64 (n : Int))
  c1 : w.cell? ⟨g, 1, none⟩ = some (.int .u64 (c : Int))
  c2 : w.cell? ⟨g, 2, none⟩ = some (.int .u64 (x : Int))
  c3 : w.cell? ⟨g, 3, none⟩ = some (.int .u64 (y : Int))
  f2 : w.frozen? ⟨g, 2, none⟩ = false
  f3 : w.frozen? ⟨g, 3, none⟩ = false
/-- Nothing but one block has turned. -/
structure Only (g : Nat) (w w' : World) : Prop where
  os : w'.os = w.os
  tape : w'.tape = w.tape
  output : w'.output = w.output
  size : w'.heap.size = w.heap.size
  block : ∀ k, k ≠ g → w'.heap[k]? = w.heap[k]?
theorem Only.refl (g : Nat) (w : World) : Only g w w := ⟨rfl, rfl, rfl, rfl, fun _ _ => rfl⟩
theorem Only.trans {g : Nat} {a b c : World} (h : Only g a b) (k : Only g b c) : Only g a c :=
  ⟨k.os.trans h.os, k.tape.trans h.tape, k.output.trans h.output, k.size.trans h.size, fun i hi => (k.block i hi).trans (h.block i hi)⟩
theorem Only.set (g : Nat) (w : World) (i : Nat) (v : Value) : Only g w (w.setCell ⟨g, i, none⟩ v) :=
  ⟨rfl, rfl, rfl, by simp [World.setCell], fun k hk => Below.heap_setCell _ _ _ _ hk⟩
theorem Only.drawn (g : Nat) {w w' : World} (h : Drawn w w') : Only g w w' := by
  obtain ⟨k, rfl⟩ := h
  exact ⟨rfl, rfl, rfl, rfl, fun _ _ => rfl⟩
theorem Only.below {g B : Nat} {w w' : World} (h : Only g w w') (hg : B ≤ g) : Below B w w' :=
  ⟨h.os, h.tape, h.output, Nat.le_of_eq h.size.symm, fun k hk => h.block k (by omega)⟩
theorem RowIn.drawn {g n c x y : Nat} {w w' : World} (h : RowIn g w n c x y) (hd : Drawn w w') : RowIn g w' n c x y := by
  obtain ⟨k, rfl⟩ := hd
  exact ⟨h.c0, h.c1, h.c2, h.c3, h.f2, h.f3⟩
theorem RowIn.only {g g2 n c x y : Nat} {w w' : World} (h : RowIn g w n c x y) (o : Only g2 w w') (hne : g ≠ g2) : RowIn g w' n c x y := by
  have hb := o.block g hne
  have e : ∀ i, w'.cell? ⟨g, i, none⟩ = w.cell? ⟨g, i, none⟩ := fun i => World.cell?_of_block (w := w) (a := ⟨g, i, none⟩) hb
  have f : ∀ i, w'.frozen? ⟨g, i, none⟩ = w.frozen? ⟨g, i, none⟩ := fun i => World.frozen?_of_block (w := w) (a := ⟨g, i, none⟩) hb
  exact ⟨(e 0).trans h.c0, (e 1).trans h.c1, (e 2).trans h.c2, (e 3).trans h.c3, (f 2).trans h.f2, (f 3).trans h.f3⟩
theorem RowIn.below {g B n c x y : Nat} {w w' : World} (h : RowIn g w n c x y) (o : Below B w w') (hg : g < B) : RowIn g w' n c x y := by
  have hb := o.block g hg
  have e : ∀ i, w'.cell? ⟨g, i, none⟩ = w.cell? ⟨g, i, none⟩ := fun i => World.cell?_of_block (w := w) (a := ⟨g, i, none⟩) hb
  have f : ∀ i, w'.frozen? ⟨g, i, none⟩ = w.frozen? ⟨g, i, none⟩ := fun i => World.frozen?_of_block (w := w) (a := ⟨g, i, none⟩) hb
  exact ⟨(e 0).trans h.c0, (e 1).trans h.c1, (e 2).trans h.c2, (e 3).trans h.c3, (f 2).trans h.f2, (f 3).trans h.f3⟩
theorem frozen_set10 (u : World) (g i : Nat) (b : Addr) (v : Value) : (u.setCell ⟨g, i, none⟩ v).frozen? b = u.frozen? b := by
  simp only [World.setCell, World.frozen?, Array.getElem?_modify]
  by_cases hk : g = b.block
  · subst hk
    simp only [if_true]
    cases u.heap[b.block]? with
    | none => rfl
    | some o => cases o <;> rfl
  · simp [hk]
theorem ne_off10 {g i j : Nat} (h : i ≠ j) : (⟨g, i, none⟩ : Addr) ≠ ⟨g, j, none⟩ := fun e => by injection e with _ e2; exact h e2
theorem RowIn.setX {g n c x y : Nat} {w : World} (h : RowIn g w n c x y) (v : Nat) : RowIn g (w.setCell ⟨g, 2, none⟩ (.int .u64 (v : Int))) n c v y :=
  ⟨by rw [World.cell?_setCell_other _ _ _ _ (ne_off10 (by omega))]; exact h.c0, by rw [World.cell?_setCell_other _ _ _ _ (ne_off10 (by omega))]; exact h.c1,
    World.cell?_setCell_same _ _ _ h.c2, by rw [World.cell?_setCell_other _ _ _ _ (ne_off10 (by omega))]; exact h.c3, by rw [frozen_set10]; exact h.f2, by rw [frozen_set10]; exact h.f3⟩
theorem RowIn.setY {g n c x y : Nat} {w : World} (h : RowIn g w n c x y) (v : Nat) : RowIn g (w.setCell ⟨g, 3, none⟩ (.int .u64 (v : Int))) n c x v :=
  ⟨by rw [World.cell?_setCell_other _ _ _ _ (ne_off10 (by omega))]; exact h.c0, by rw [World.cell?_setCell_other _ _ _ _ (ne_off10 (by omega))]; exact h.c1,
    by rw [World.cell?_setCell_other _ _ _ _ (ne_off10 (by omega))]; exact h.c2, World.cell?_setCell_same _ _ _ h.c3, by rw [frozen_set10]; exact h.f2, by rw [frozen_set10]; exact h.f3⟩
set_option maxHeartbeats 4000000 in
theorem behind10 (g n c x y u v : Nat) (w : World) (R : RowIn g w n c x y) (hu : u < n) (hn : n < 18446744073709551616) (hc : c < 18446744073709551616) (hv : rowS n c u = v) :
    Calls Tryz.prog 26 #[.pointer (some ⟨g, 0, none⟩), .int .u64 u] w fun e w' => e = .returned (.int .u64 v) ∧ Drawn w w' := by
  have HM := Lib.hid (Tryz.bits_Mul64 u u (by omega) (by omega) w)
  have h0 := R.c0
  have h1 := R.c1
  unfold rowS at hv
  obtain ⟨s, hs⟩ : ∃ s, u * u = s := ⟨_, rfl⟩
  rw [hs] at HM hv
  have hsl : s + c < n * 18446744073709551616 := by
    have : u * u ≤ (n - 1) * (n - 1) := Nat.mul_le_mul (by omega) (by omega)
    have h2 : (n - 1) * (n - 1) ≤ (n - 1) * 18446744073709551615 := Nat.mul_le_mul (Nat.le_refl _) (by omega)
    omega
  obtain ⟨hi, hhi⟩ : ∃ hi, s / 18446744073709551616 = hi := ⟨_, rfl⟩
  obtain ⟨lo, hlo⟩ : ∃ lo, s % 18446744073709551616 = lo := ⟨_, rfl⟩
  rw [hhi, hlo] at HM
  have hlol : lo < 18446744073709551616 := by omega
  have A1 : ∀ w : World, (callFunc 40 #[.int .u64 (lo : Int), .int .u64 (c : Int), .int .u64 0]).run Tryz.prog w = .ok (.value (.tuple #[.int .u64 (((lo + c) % 18446744073709551616 : Nat) : Int), .int .u64 (((lo + c) / 18446744073709551616 : Nat) : Int)])) w :=
    fun w => add64_run lo c 0 (by omega) w
  obtain ⟨t, ht⟩ : ∃ t, (lo + c) % 18446744073709551616 = t := ⟨_, rfl⟩
  obtain ⟨k, hk⟩ : ∃ k, (lo + c) / 18446744073709551616 = k := ⟨_, rfl⟩
  rw [ht, hk] at A1
  obtain ⟨m, hm⟩ : ∃ m, hi + k = m := ⟨_, rfl⟩
  have hmI : (hi : Int) + (k : Int) = (m : Int) := by omega
  have hml : m < 18446744073709551616 := by omega
  have HD := Lib.hid (fun w => mod10 m t n v w (by omega) hn (by omega) (by rw [← hv]; congr 1; omega))
  clear hs hsl hhi hlo hv ht hk hm R
  go_enter Tryz.func26, Tryz.ntmps26
  go_wp2_with fail
  refine (HM.out).mono ?_
  rintro e w1 ⟨rfl, rfl⟩
  go_wp2_with fail
  refine (HD.out _).mono ?_
  rintro e w2 ⟨rfl, hd⟩
  have HDr := Lib.hid hd
  clear hd
  go_wp2_with fail
  go_ret
  exact ⟨rfl, HDr.out⟩
set_option maxHeartbeats 4000000 in
theorem step10 (g n c x y x' y' : Nat) (w : World) (R : RowIn g w n c x y) (hx : x < n) (hy : y < n) (hn : n < 18446744073709551616) (hc : c < 18446744073709551616) (hx' : rowS n c x = x') (hy' : rowS n c (rowS n c y) = y') :
    Calls Tryz.prog 12 #[.pointer (some ⟨g, 0, none⟩)] w fun e w' => e = .returned (.tuple #[]) ∧ RowIn g w' n c x' y' ∧ Only g w w' := by
  obtain ⟨y1, hy1⟩ : ∃ y1, rowS n c y = y1 := ⟨_, rfl⟩
  rw [hy1] at hy'
  have hy1l : y1 < n := by rw [← hy1]; exact rowS_lt (by omega)
  have C1 := Lib.hid (behind10 g n c x y x x' w R hx hn hc hx')
  have C2 := Lib.hid (fun (u : World) (h : Hid (RowIn g u n c x' y)) => behind10 g n c x' y y y1 u h.out hy hn hc hy1)
  have C3 := Lib.hid (fun (u : World) (h : Hid (RowIn g u n c x' y)) => behind10 g n c x' y y1 y' u h.out hy1l hn hc hy')
  have HR := Lib.hid R
  have h2 := R.c2
  clear hx' hy' hy1 R
  go_enter Tryz.func12, Tryz.ntmps12
  go_wp2_with fail
  refine (C1.out).mono ?_
  rintro e w1 ⟨rfl, hd⟩
  have HR1 := Lib.hid (HR.out.drawn hd)
  have HO1 := Lib.hid (Only.drawn g hd)
  have k2 := HR1.out.c2
  have f2 := HR1.out.f2
  have k3 := HR1.out.c3
  have f3 := HR1.out.f3
  have HR2 := Lib.hid (HR1.out.setX x')
  have HO2 := Lib.hid (HO1.out.trans (Only.set g w1 2 (.int .u64 (x' : Int))))
  clear hd h2
  go_wp2_with fail
  refine (C2.out _ HR2).mono ?_
  rintro e w2 ⟨rfl, hd⟩
  have HR3 := Lib.hid (HR2.out.drawn hd)
  have HO3 := Lib.hid (HO2.out.trans (Only.drawn g hd))
  clear hd k2 f2 k3 f3
  go_wp2_with fail
  refine (C3.out _ HR3).mono ?_
  rintro e w3 ⟨rfl, hd⟩
  have HR4 := Lib.hid (HR3.out.drawn hd)
  have HO4 := Lib.hid (HO3.out.trans (Only.drawn g hd))
  have k3 := HR4.out.c3
  have f3 := HR4.out.f3
  clear hd
  go_wp2_with fail
  go_end0
  exact ⟨rfl, HR4.out.setY y', HO4.out.trans (Only.set g w3 3 _)⟩
theorem dist_lt10 {x y n : Nat} (hx : x < n) (hy : y < n) : distS x y < n := by unfold distS; omega
set_option maxHeartbeats 4000000 in
theorem distance10 (g n c x y v : Nat) (w : World) (R : RowIn g w n c x y) (hx : x < n) (hy : y < n) (hn : n < 18446744073709551616) (hv : distS x y = v) :
    Calls Tryz.prog 14 #[.pointer (some ⟨g, 0, none⟩)] w fun e w' => e = .returned (.int .u64 v) ∧ Drawn w w' := by
  have h2 := R.c2
  have h3 := R.c3
  obtain ⟨mx, hmx⟩ : ∃ mx, max x y = mx := ⟨_, rfl⟩
  obtain ⟨mn, hmn⟩ : ∃ mn, min x y = mn := ⟨_, rfl⟩
  have hDm : mx - mn = v := by rw [← hv, ← hmx, ← hmn]; rfl
  have hmm : mn ≤ mx := by omega
  have hmxI : max (x : Int) (y : Int) = (mx : Int) := by omega
  have hmnI : min (x : Int) (y : Int) = (mn : Int) := by omega
  have hDI : (mx : Int) - (mn : Int) = (v : Int) := by omega
  clear R hv hDm hmx hmn
  go_enter Tryz.func14, Tryz.ntmps14
  go_wp2_with fail
  go_quiet (fail)
  go_wp2_with fail
  go_ret
  exact ⟨rfl, Drawn.more _⟩
theorem NatIs.few10 {w : World} {A : Option Addr} {n c N : Nat} (S : NatIs w A n c N) (hN : N < 18446744073709551616) : n ≤ 1 := by
  have h := S.1
  rw [length_wd] at h
  have := nbits_of_lt N 64 hN
  omega
theorem bSmall10 {w : World} {A : Option Addr} {n c N : Nat} (S : NatIs w A n c N) (hN : N < 18446744073709551616) : Calls Tryz.prog 29 #[.slice A n c] w fun e w' => e = .returned (.tuple #[.int .u64 (N : Int), .bool true]) ∧ Below w.heap.size w w' := small_ok S.in_ hN
set_option maxHeartbeats 4000000 in
theorem common10 (a n v : Nat) (w : World) (ha : a < 18446744073709551616) (hn0 : 0 < n) (hn : n < 18446744073709551616) (hv : Nat.gcd a n = v) :
    Calls Tryz.prog 15 #[.int .u64 a, .int .u64 n] w fun e w' => e = .returned (.int .u64 v) ∧ Below w.heap.size w w' := by
  have hvl : v < 18446744073709551616 := by have := (gcd_pos10 hn0 hv).2; omega
  have HO1 := Lib.hid (bOf w a ha)
  have HO2 := Lib.hid (fun u : World => bOf u n hn)
  have HG := Lib.hid (fun (u : World) (X Y : Option Addr) (q d q2 d2 : Nat) (S : Hid (NatIs u X q d a)) (T : Hid (NatIs u Y q2 d2 n)) => bGcd (n := q) (c := d) (m := q2) (c2 := d2) (w := u) S.out.in_ T.out.in_ (by have := NatIs.few10 S.out ha; omega) (by have := NatIs.few10 T.out hn; omega))
  have HV := Lib.hid hv
  have HS := Lib.hid (fun (u : World) (X : Option Addr) (q d : Nat) (S : Hid (NatIs u X q d v)) => bSmall10 S.out hvl)
  clear hv hvl
  go_enter Tryz.func15, Tryz.ntmps15
  go_wp2_with fail
  refine (HO1.out).mono ?_
  rintro e w1 ⟨X, q, d, rfl, S1, _, b1⟩
  have HS1 := Lib.hid S1
  have B1 := Lib.hid b1
  clear S1 b1
  go_wp2_with fail
  refine (HO2.out w1).mono ?_
  rintro e w2 ⟨Y, q2, d2, rfl, S2, _, b2⟩
  have HS2 := Lib.hid S2
  have HS1 := Lib.hid (HS1.out.step b2)
  have B2 := Lib.hid (below_step B1.out b2)
  clear S2 b2
  go_wp2_with fail
  refine (HG.out w2 X Y q d q2 d2 HS1 HS2).mono ?_
  rintro e w3 ⟨Z, q3, d3, rfl, S3, _, b3⟩
  have HS3 := Lib.hid (show NatIs w3 Z q3 d3 v by rw [← HV.out]; exact S3)
  have B3 := Lib.hid (below_step B2.out b3)
  clear S3 b3
  go_wp2_with fail
  refine (HS.out w3 Z q3 d3 HS3).mono ?_
  rintro e w4 ⟨rfl, b4⟩
  have B4 := Lib.hid (below_step B3.out b4)
  clear b4
  go_wp2_with fail
  go_ret
  exact ⟨rfl, B4.out⟩
end Go.Proofs.YtakcgamgnmmdlaaGreat
/- rho's first and Split. Conditions: as typed (words). -/
namespace Go.Proofs.YtakcgamgnmmdlaaGreat
open Go.RowKit
set_option maxRecDepth 20000
/-- What stands in first's variable: nothing yet, with so many steps ahead of which one shows a factor; or what that has shown. -/
def FirstMid (n c k x y d R : Nat) : Prop := (d ≤ 1 ∧ ¬ ClearS n c k x y ∧ splitS n c k x y = R) ∨ (1 < d ∧ d ≤ n ∧ foundS n d = R)
theorem FirstMid.pos {n c k x y d R : Nat} (h : FirstMid n c k x y d R) (hd : d ≤ 1) : ∃ k', k = k' + 1 := by
  rcases h with ⟨_, h, _⟩ | ⟨h, _⟩
  · cases k with
    | zero => exact absurd (ClearS.zero _ _ _ _) h
    | succ k => exact ⟨k, rfl⟩
  · omega
theorem FirstMid.step {n c k x y d R x' y' d' : Nat} (hn : 0 < n) (h : FirstMid n c (k + 1) x y d R) (hd : d ≤ 1) (hx : rowS n c x = x') (hy : rowS n c (rowS n c y) = y') (hd' : Nat.gcd (distS x' y') n = d') : FirstMid n c k x' y' d' R := by
  rcases h with ⟨_, h1, h2⟩ | ⟨h, _⟩
  · rw [splitS_step hx rfl hy hd'] at h2
    obtain ⟨p1, p2⟩ := gcd_pos10 hn hd'
    by_cases h3 : 1 < d'
    · rw [if_pos h3] at h2
      exact .inr ⟨h3, p2, h2⟩
    · rw [if_neg h3] at h2
      refine .inl ⟨by omega, fun hc => h1 fun j hj => ?_, h2⟩
      cases j with
      | zero =>
        show Nat.gcd (distS (rowS n c x) (rowS n c (rowS n c y))) n = 1
        rw [hx, hy, hd']
        omega
      | succ j =>
        have := hc j (by omega)
        rw [← hx, ← hy] at this
        exact this
  · omega
set_option maxHeartbeats 8000000 in
theorem first10 (g n c x y R K : Nat) (w : World) (RI : RowIn g w n c x y) (hg : g < w.heap.size) (hx : x < n) (hy : y < n) (hn : n < 18446744073709551616) (hc : c < 18446744073709551616) (hK : ¬ ClearS n c K x y) (hR : splitS n c K x y = R) (b : Bool) (hb : b = true ↔ R ≠ 0) :
    Calls Tryz.prog 16 #[.pointer (some ⟨g, 0, none⟩)] w fun e w' => e = .returned (.tuple #[.int .u64 R, .bool b]) ∧ Below g w w' := by
  have HRI := Lib.hid RI
  have HB := Lib.hid hb
  have HF := Lib.hid (show FirstMid n c K x y 0 R from .inl ⟨by omega, hK, hR⟩)
  clear RI hb hK hR
  go_enter Tryz.func16, Tryz.ntmps16
  go_wp2_with fail
  go_loopg [2] K (fun k dv wr => ∃ d x y : Nat, dv = .int .u64 d ∧ x < n ∧ y < n ∧ d < 18446744073709551616 ∧ g < wr.heap.size ∧ Hid (RowIn g wr n c x y) ∧ Hid (Below g w wr) ∧ Hid (FirstMid n c k x y d R))
  case atStart => exact ⟨0, x, y, rfl, hx, hy, by omega, hg, HRI, Lib.hid (Below.refl _ _), HF⟩
  case round =>
    clear HRI HF hx hy hg
    obtain ⟨d, x, y, rfl, hx, hy, hdl, hg, HRI, HBe, HF⟩ := hrel
    by_cases hd : d ≤ 1
    · obtain ⟨k', hk'⟩ := HF.out.pos hd
      have HK := Lib.hid hk'
      have g1 : decide ((d : Int) ≤ 1) = true := by simp; omega
      obtain ⟨x', hx'⟩ : ∃ x', rowS n c x = x' := ⟨_, rfl⟩
      obtain ⟨y', hy'⟩ : ∃ y', rowS n c (rowS n c y) = y' := ⟨_, rfl⟩
      obtain ⟨D, hD⟩ : ∃ D, distS x' y' = D := ⟨_, rfl⟩
      obtain ⟨d', hd'⟩ : ∃ d', Nat.gcd D n = d' := ⟨_, rfl⟩
      have hn0 : 0 < n := by omega
      have hx'l : x' < n := by rw [← hx']; exact rowS_lt hn0
      have hy'l : y' < n := by rw [← hy']; exact rowS_lt hn0
      have hDl : D < n := by rw [← hD]; exact dist_lt10 hx'l hy'l
      have hd'l := (gcd_pos10 hn0 hd').2
      have HF' := Lib.hid (show FirstMid n c k' x' y' d' R from by
        have := HF.out
        rw [hk'] at this
        exact this.step hn0 hd hx' hy' (by rw [hD]; exact hd'))
      have C1 := Lib.hid (step10 g n c x y x' y' wr HRI.out hx hy hn hc hx' hy')
      have C2 := Lib.hid (fun (u : World) (h : Hid (RowIn g u n c x' y')) => distance10 g n c x' y' D u h.out hx'l hy'l hn hD)
      have C3 := Lib.hid (fun u : World => common10 D n d' u (by omega) hn0 hn hd')
      clear hk' hx' hy' hD hd' HF
      go_wp2_with fail
      refine (C1.out).mono ?_
      rintro e w1 ⟨rfl, hR1, hO1⟩
      have HR1 := Lib.hid hR1
      have HR1d := Lib.hid (hR1.drawn (w' := w1.drew) ⟨1, rfl⟩)
      have HB1 := Lib.hid (HBe.out.trans (hO1.below (Nat.le_refl _)))
      have hg1 : g < w1.heap.size := by rw [hO1.size]; exact hg
      have k0 := hR1.c0
      clear hR1 hO1 HBe HRI
      go_wp2_with fail
      go_region_with (first
        | (go_at_call 14; refine (C2.out w1.drew HR1d).mono ?_; rintro e wa ⟨rfl, hda⟩; have HRa := Lib.hid (HR1d.out.drawn hda); have HBa := Lib.hid (HB1.out.drew.trans ((Only.drawn g hda).below (Nat.le_refl _))); have hga := (show g < wa.heap.size from (by rw [(Only.drawn g hda).size]; exact hg1)); have ka := HRa.out.c0; clear hda)
        | (go_at_call 15; refine (C3.out wa).mono ?_; rintro e wb ⟨rfl, hbb⟩; have HRb := Lib.hid (HRa.out.below hbb hga); have HBb := Lib.hid (HBa.out.trans (hbb.mono (Nat.le_of_lt hga))); have hgb : g < wb.heap.size := Nat.lt_of_lt_of_le hga hbb.size; clear hbb))
      all_goals go_wp2_with fail
      all_goals go_roundg k'
      all_goals first
        | exact ⟨d', x', y', rfl, hx'l, hy'l, by omega, hgb, HRb, HBb, HF'⟩
        | (have := HK.out; omega)
    · have g1 : decide ((d : Int) ≤ 1) = false := by simp; omega
      have hv := (show d ≤ n ∧ foundS n d = R from by
        rcases HF.out with ⟨h, _⟩ | ⟨_, h, h2⟩
        · omega
        · exact ⟨h, h2⟩)
      obtain ⟨hdn, hv⟩ := hv
      have k0 := HRI.out.c0
      clear HF HRI
      by_cases hlt : d < n
      · have g2 : ((d : Int) == (n : Int)) = false := by simp; omega
        have hv2 := Lib.hid (show R = d by rw [← hv]; unfold foundS; rw [if_pos hlt])
        have hbv := Lib.hid (show b = true from HB.out.2 (by rw [hv2.out]; omega))
        clear hv
        go_wp2_with fail
        go_ret2
        exact ⟨by rw [hv2.out, hbv.out]; rfl, HBe.out⟩
      · have g2 : ((d : Int) == (n : Int)) = true := by simp; omega
        have hv2 := Lib.hid (show R = 0 by rw [← hv]; unfold foundS; rw [if_neg hlt])
        have hbv := Lib.hid (show b = false by cases hq : b with | false => rfl | true => exact absurd hv2.out (HB.out.1 hq))
        clear hv
        go_wp2_with fail
        go_ret2
        exact ⟨by rw [hv2.out, hbv.out]; rfl, HBe.out⟩
theorem RowIn.new (w : World) (n c x y : Nat) (t : TypeId) : RowIn w.heap.size (w.alloc (.cells #[.int .u64 (n : Int), .int .u64 (c : Int), .int .u64 (x : Int), .int .u64 (y : Int)] t)) n c x y :=
  ⟨World.cell?_alloc_at _ _ _ _ rfl, World.cell?_alloc_at _ _ _ _ rfl, World.cell?_alloc_at _ _ _ _ rfl, World.cell?_alloc_at _ _ _ _ rfl, World.frozen?_alloc_at _ _ _ _ rfl, World.frozen?_alloc_at _ _ _ _ rfl⟩
set_option maxHeartbeats 8000000 in
theorem split10 (n c : Nat) (most : Int) (hn : n < 18446744073709551616) (hc : c < 18446744073709551616) (hm : -9223372036854775808 ≤ most ∧ most ≤ 9223372036854775807) (R : Nat) (hR : splitD n c most = R) (b : Bool) (hb : b = true ↔ R ≠ 0) (w : World) :
    Calls Tryz.prog 7 #[.int .u64 n, .int .u64 c, .int .i64 most] w fun e w' => e = .returned (.tuple #[.int .u64 R, .bool b]) ∧ Below w.heap.size w w' := by
  have HB := Lib.hid hb
  unfold splitD at hR
  by_cases h4 : n < 4
  · rw [if_pos h4] at hR
    have g4 : decide ((n : Int) < 4) = true := by simp; omega
    have hv := Lib.hid hR.symm
    have hbv := Lib.hid (show b = false by cases hq : b with | false => rfl | true => exact absurd hR.symm (hb.1 hq))
    clear hb hR
    go_enter Tryz.func7, Tryz.ntmps7
    go_wp2_with fail
    go_ret2
    exact ⟨by rw [hv.out, hbv.out]; rfl, Below.refl _ _⟩
  · rw [if_neg h4] at hR
    have g4 : decide ((n : Int) < 4) = false := by simp; omega
    obtain ⟨s0, hs0⟩ : ∃ s0, min most 1048576 = s0 := ⟨_, rfl⟩
    rw [hs0] at hR
    have hs1 : s0 ≤ 1048576 := by omega
    have hs2 : -9223372036854775808 ≤ s0 := by omega
    have HR := Lib.hid hR
    clear hb hR
    go_enter Tryz.func7, Tryz.ntmps7
    go_wp2_with fail
    have HRI := Lib.hid (RowIn.new w n c 2 2 39)
    have HBe := Lib.hid ((Below.refl w.heap.size w).alloc (Nat.le_refl _) (.cells #[.int .u64 (n : Int), .int .u64 (c : Int), .int .u64 ((2 : Nat) : Int), .int .u64 ((2 : Nat) : Int)] 39))
    have hgs : w.heap.size < (w.alloc (.cells #[.int .u64 (n : Int), .int .u64 (c : Int), .int .u64 2, .int .u64 2] 39)).heap.size := by simp
    go_loopw [9] (fun sv wr => ∃ (s : Int) (X Y : Nat), sv = .int .i64 s ∧ s ≤ 1048576 ∧ -9223372036854775808 ≤ s ∧ X < n ∧ Y < n ∧ w.heap.size < wr.heap.size ∧ Hid (RowIn w.heap.size wr n c X Y) ∧ Hid (Below w.heap.size w wr) ∧ Hid (splitS n c s.toNat X Y = R)) (fun sv _ => (intOf sv).toNat)
    case atStart => exact ⟨s0, 2, 2, rfl, hs1, hs2, by omega, by omega, hgs, HRI, HBe, HR⟩
    case round =>
      clear HRI HBe HR hgs hs1 hs2
      obtain ⟨s, X, Y, rfl, hs1, hs2, hX, hY, hgs, HRI, HBe, HR⟩ := hrel
      by_cases hpos : 0 < s
      · have g5 : decide ((0 : Int) < s) = true := by simp; omega
        have k0 := HRI.out.c0
        have k1 := HRI.out.c1
        have k2 := HRI.out.c2
        have k3 := HRI.out.c3
        obtain ⟨m, hm⟩ : ∃ m : Nat, min s 64 = (m : Int) := ⟨(min s 64).toNat, by omega⟩
        have hm64 : m ≤ 64 := by omega
        have HS := Lib.hid (show s.toNat = m + (s - 64).toNat by omega)
        have hsl := Lib.hid (show (s - 64).toNat < s.toNat by omega)
        go_wp2_with fail
        obtain ⟨w1, hw1⟩ : ∃ w1, wr.alloc (.cells #[.int .u64 (n : Int), .int .u64 (c : Int), .int .u64 (X : Int), .int .u64 (Y : Int)] 39) = w1 := ⟨_, rfl⟩
        have HR1 := Lib.hid (show RowIn w.heap.size w1 n c X Y by rw [← hw1]; exact HRI.out.below ((Below.refl wr.heap.size wr).alloc (Nat.le_refl _) _) hgs)
        have HR2 := Lib.hid (show RowIn wr.heap.size w1 n c X Y by rw [← hw1]; exact RowIn.new wr n c X Y _)
        have HB1 := Lib.hid (show Below w.heap.size w w1 by rw [← hw1]; exact HBe.out.alloc (Nat.le_of_lt hgs) _)
        have hg2 : wr.heap.size < w1.heap.size := by rw [← hw1]; simp
        have HGS := Lib.hid hgs
        rw [hw1]
        clear hw1 HRI HBe k0 k1 k2 k3 hm
        obtain ⟨g2, hg2e⟩ : ∃ g2, wr.heap.size = g2 := ⟨_, rfl⟩
        rw [hg2e] at HR2 hg2 HGS
        rw [hg2e]
        clear hg2e hgs
        go_loopw [11, 26] (fun pv iv wr => ∃ P i X' Y' : Nat, pv = .int .u64 P ∧ iv = .int .i64 i ∧ i ≤ m ∧ P < n ∧ X' < n ∧ Y' < n ∧ g2 < wr.heap.size ∧ Hid (itX n c i X = X' ∧ itY n c i Y = Y') ∧ Hid (RowIn w.heap.size wr n c X' Y') ∧ Hid (RowIn g2 wr n c X Y) ∧ Hid (Below w.heap.size w wr) ∧ Hid (ProdS n c i X Y P)) (fun _ iv _ => m - (intOf iv).toNat)
        case atStart => exact ⟨1, 0, X, Y, rfl, rfl, Nat.zero_le _, by omega, hX, hY, hg2, Lib.hid ⟨rfl, rfl⟩, HR1, HR2, HB1, Lib.hid (ProdS.start n c X Y)⟩
        case round =>
          clear HR1 HR2 HB1 hg2
          obtain ⟨P, i, X', Y', rfl, rfl, him, hP, hX', hY', hg2, HIT, HR1, HR2, HB1, HPr⟩ := hrel
          by_cases hlt : i < m
          · have g6 : decide ((i : Int) < (m : Int)) = true := by simp; omega
            obtain ⟨X2, hX2⟩ : ∃ x, rowS n c X' = x := ⟨_, rfl⟩
            obtain ⟨Y2, hY2⟩ : ∃ y, rowS n c (rowS n c Y') = y := ⟨_, rfl⟩
            obtain ⟨D, hD⟩ : ∃ D, distS X2 Y2 = D := ⟨_, rfl⟩
            obtain ⟨P2, hP2⟩ : ∃ p, P * D % n = p := ⟨_, rfl⟩
            have hn0 : 0 < n := by omega
            have hX2l : X2 < n := by rw [← hX2]; exact rowS_lt hn0
            have hY2l : Y2 < n := by rw [← hY2]; exact rowS_lt hn0
            have hDl : D < n := by rw [← hD]; exact dist_lt10 hX2l hY2l
            have hP2l : P2 < n := by rw [← hP2]; exact Nat.mod_lt _ hn0
            have HIT2 := Lib.hid (show itX n c (i + 1) X = X2 ∧ itY n c (i + 1) Y = Y2 by
              rw [itX_last, itY_last, HIT.out.1, HIT.out.2]
              exact ⟨hX2, hY2⟩)
            have HPr2 := Lib.hid (show ProdS n c (i + 1) X Y P2 by
              have := HPr.out.step
              rw [HIT2.out.1, HIT2.out.2, hD, hP2] at this
              exact this)
            have C1 := Lib.hid (step10 w.heap.size n c X' Y' X2 Y2 wr HR1.out hX' hY' hn hc hX2 hY2)
            have C2 := Lib.hid (fun (u : World) (h : Hid (RowIn w.heap.size u n c X2 Y2)) => distance10 w.heap.size n c X2 Y2 D u h.out hX2l hY2l hn hD)
            have C3 := Lib.hid (fun u : World => times10 P D n P2 u hP hn (by omega) hP2)
            clear hX2 hY2 hD hP2 HPr HIT
            go_wp2_with fail
            refine (C1.out).mono ?_
            rintro e w2 ⟨rfl, hR3, hO3⟩
            have HR3 := Lib.hid hR3
            have HR4 := Lib.hid (HR2.out.only hO3 (by have := HGS.out; omega))
            have HB3 := Lib.hid (HB1.out.trans (hO3.below (Nat.le_refl _)))
            have hg3 : g2 < w2.heap.size := by rw [hO3.size]; exact hg2
            clear hR3 hO3 HR1 HR2 HB1 hg2
            go_wp2_with fail
            refine (C2.out w2 HR3).mono ?_
            rintro e w3 ⟨rfl, hd⟩
            have HR5 := Lib.hid (HR3.out.drawn hd)
            have HR6 := Lib.hid (HR4.out.drawn hd)
            have HB5 := Lib.hid (HB3.out.trans ((Only.drawn w.heap.size hd).below (Nat.le_refl _)))
            have hg5 : g2 < w3.heap.size := by rw [(Only.drawn g2 hd).size]; exact hg3
            clear hd HR3 HR4 HB3 hg3
            go_wp2_with fail
            refine (C3.out w3).mono ?_
            rintro e w4 ⟨rfl, hd⟩
            have HR7 := Lib.hid (HR5.out.drawn hd)
            have HR8 := Lib.hid (HR6.out.drawn hd)
            have HB7 := Lib.hid (HB5.out.trans ((Only.drawn w.heap.size hd).below (Nat.le_refl _)))
            have hg7 : g2 < w4.heap.size := by rw [(Only.drawn g2 hd).size]; exact hg5
            clear hd HR5 HR6 HB5 hg5
            go_wp2_with fail
            go_roundw
            case rel => exact ⟨P2, i + 1, X2, Y2, rfl, by go_num, by omega, hP2l, hX2l, hY2l, hg7, HIT2, HR7, HR8, HB7, HPr2⟩
            case measure => simp [intOf]; omega
          · have g6 : decide ((i : Int) < (m : Int)) = false := by simp; omega
            obtain rfl : i = m := by omega
            obtain ⟨d, hd⟩ : ∃ d, Nat.gcd P n = d := ⟨_, rfl⟩
            have hn0 : 0 < n := by omega
            have hdl := (gcd_pos10 hn0 hd)
            have C4 := Lib.hid (common10 P n d wr (by omega) hn0 hn hd)
            have HD := Lib.hid hd
            clear hd
            by_cases hd1 : 1 < d
            · have g7 : decide ((1 : Int) < (d : Int)) = true := by simp; omega
              have hcl : ¬ ClearS n c i X Y := fun h => by have := HPr.out.2 h; have := HD.out; omega
              have hRi : splitS n c i X Y = R := by rw [← HR.out, HS.out, splitS_hit hn0 _ _ _ _ hcl]
              have C5 := Lib.hid (fun (u : World) (h : Hid (RowIn g2 u n c X Y)) (hg : g2 < u.heap.size) => first10 g2 n c X Y R i u h.out hg hX hY hn hc hcl hRi b HB.out)
              clear hcl hRi HR HPr HIT
              go_wp2_with fail
              refine (C4.out).mono ?_
              rintro e w2 ⟨rfl, hb2⟩
              have HR3 := Lib.hid (HR2.out.below hb2 hg2)
              have HB3 := Lib.hid (HB1.out.trans (hb2.mono (by have := HB1.out.size; omega)))
              have hg3 : g2 < w2.heap.size := Nat.lt_of_lt_of_le hg2 hb2.size
              clear hb2
              go_wp2_with fail
              refine (C5.out w2 HR3 hg3).mono ?_
              rintro e w3 ⟨rfl, hb3⟩
              have HB4 := Lib.hid (HB3.out.trans (hb3.mono (by have := HGS.out; omega)))
              clear hb3
              go_wp2_with fail
              go_ret2
              exact ⟨rfl, HB4.out⟩
            · have g7 : decide ((1 : Int) < (d : Int)) = false := by simp; omega
              have hcl : ClearS n c i X Y := HPr.out.1 (by have := HD.out; omega)
              have HRi := Lib.hid (show splitS n c (s - 64).toNat X' Y' = R by
                rw [← HR.out, HS.out, splitS_clear _ _ _ _ hcl, HIT.out.1, HIT.out.2])
              clear hcl HR HPr HIT
              go_wp2_with fail
              refine (C4.out).mono ?_
              rintro e w2 ⟨rfl, hb2⟩
              have HR3 := Lib.hid (HR1.out.below hb2 (by have := HGS.out; omega))
              have HB3 := Lib.hid (HB1.out.trans (hb2.mono (by have := HB1.out.size; omega)))
              have hg3 : w.heap.size < w2.heap.size := Nat.lt_of_lt_of_le (by have := HGS.out; omega) hb2.size
              clear hb2
              go_wp2_with fail
              go_roundw
              case rel => exact ⟨s - 64, X', Y', rfl, by omega, by omega, hX', hY', hg3, HR3, HB3, HRi⟩
              case measure => exact hsl.out
      · have g5 : decide ((0 : Int) < s) = false := by simp; omega
        have hv := Lib.hid (show R = 0 by rw [← HR.out, show s.toNat = 0 by omega]; rfl)
        have hbv := Lib.hid (show b = false by cases hq : b with | false => rfl | true => exact absurd hv.out (HB.out.1 hq))
        clear HR
        go_wp2_with fail
        go_ret2
        exact ⟨by rw [hv.out, hbv.out]; rfl, HBe.out⟩
end Go.Proofs.YtakcgamgnmmdlaaGreat
/- Appending one number to a row of the call's own: the row stands where it stood, or in a new block. Conditions: as typed. -/
namespace Go.Proofs.YtakcgamgnmmdlaaGreat
open Go.RowKit
section
variable {P : Program} (w : World)
theorem run_append_sep10 (base : Nat) (t ty e : TypeId) (i : TypeInfo) (z : Value) (bytes : Nat) (ht : P.underlying t = some (.slice e)) (hi : P.info? e = some i) (hz : i.zero = some z)
    (hsize : i.size = 1) (hby : i.bytes = bytes) (hzs : z.cells.size = 1)
    (v : Value) (n : Nat) (xs : List Value) (hown : w.ownsRow base e 1 v n xs)
    (a : Addr) (u : Value) (hu : w.cell? (a.add 0) = some u) (h1 : u.oneCell' = true)
    (h63 : n + 1 ≤ maxLen) (hbytes : (n + 1) * bytes ≤ 140737488355328) (hbase : base ≤ w.heap.size) :
    ∃ v' w', (Builtin.append_ #[t, t] ty #[v, .slice (some a) 1 1]).run P w = .ok v' w' ∧ w'.ownsRow base e 1 v' (n + 1) (xs ++ [u]) ∧ w.grownBy w' v.ownBlock ∧
      (v'.ownBlock = v.ownBlock ∨ ∃ g, v'.ownBlock = some g ∧ w.heap.size ≤ g) := by
  have hnews : ∀ j y, [u][j]? = some y → w.cell? (a.add j) = some y := fun j y hy => by
    cases j with
    | zero => simp at hy; subst hy; exact hu
    | succ j => simp at hy
  have hone : ∀ y ∈ [u], y.oneCell' = true := fun y hy => by rw [List.mem_singleton.1 hy]; exact h1
  obtain ⟨v', w', hr, ho, hg, _⟩ := run_append_own (P := P) w base t ty e i z 1 bytes ht hi hz hsize hby hzs (by omega) v n xs hown a 1 1 [u] rfl hnews hone h63 hbytes hbase
  refine ⟨v', w', hr, ho, hg, ?_⟩
  rcases hown.2 with ⟨rfl, rfl⟩ | ⟨g, cap, cur, rfl, hbg, hgg, hnc, hcm, hcs, htake⟩
  · have hx : xs = [] := List.eq_nil_of_length_eq_zero (by simpa using hown.1)
    subst hx
    obtain ⟨v2, w2, hr2, ho2, _, _⟩ := run_append_own (P := P) w w.heap.size t ty e i z 1 bytes ht hi hz hsize hby hzs (by omega) (.slice none 0 0) 0 [] (World.ownsRow_nil _ _ _ _) a 1 1 [u] rfl hnews hone h63 hbytes (Nat.le_refl _)
    rw [hr] at hr2
    injection hr2 with e1 e2
    subst e1
    rcases ho2.2 with ⟨_, h0⟩ | ⟨g, cap, cur, rfl, hbg, _⟩
    · omega
    · exact .inr ⟨g, rfl, hbg⟩
  · by_cases hroom : n + 1 ≤ cap
    · have hr2 := run_append_room (P := P) w t ty e i ht hi g n cap cur hgg a 1 1 [u] (by rw [hsize]; rfl) hnews hone hroom (by rw [hsize, hcs]; simp; omega)
      rw [hr] at hr2
      injection hr2 with e1 e2
      subst e1
      exact .inl rfl
    · have hr2 := run_append_grow (P := P) w t ty e i z ht hi hz ⟨g, 0, none⟩ n cap xs (by rw [hsize]; exact hown.1) (hown.cells (g := g) rfl) a 1 1 [u] (by rw [hsize]; rfl) hnews (by omega) (by simp only [maxLen] at h63; omega) (growslice_fits (by omega) (by rw [hby]; exact hbytes))
      rw [hr] at hr2
      injection hr2 with e1 e2
      subst e1
      exact .inr ⟨_, rfl, Nat.le_refl _⟩
theorem wpList_append_sep10 {ops : Array Oper} {rest : List Oper} {o : Oper} {a : Act} {Q : Exit → Act → World → Prop} (hgd : o.guard = none) (s x : Operand) (t : TypeId)
    (ho : o.op = .call { callee := .builtin .append, args := #[s, x], argTypes := #[t, t] })
    (base : Nat) (e : TypeId) (i : TypeInfo) (z : Value) (bytes : Nat) (ht : P.underlying t = some (.slice e)) (hi : P.info? e = some i) (hz : i.zero = some z)
    (hsize : i.size = 1) (hby : i.bytes = bytes) (hzs : z.cells.size = 1)
    (v : Value) (n : Nat) (k : IntKind) (ys : List Nat) (hs : a.eval s = v) (hown : w.ownsRow base e 1 v n (ints k ys)) (X : Int) (y : Nat) (hX : X = (y : Int))
    (hx : a.eval x = .slice (some ⟨w.heap.size, 0, none⟩) 1 1)
    (h63 : n + 1 ≤ maxLen) (hbytes : (n + 1) * bytes ≤ 140737488355328) (hbase : base ≤ w.heap.size)
    (h : ∀ v' w', w'.ownsRow base e 1 v' (n + 1) (ints k (ys ++ [y])) → w.grownBy w' v.ownBlock → (v'.ownBlock = v.ownBlock ∨ ∃ g, v'.ownBlock = some g ∧ w.heap.size ≤ g) → wpList P ops Q rest (a.put o.dst v') w') : wpList P ops Q (o :: rest) a (w.alloc (.cells #[.int k X] e)) := by
  subst hX
  refine wpList_plain hgd fun K hK => ?_
  obtain ⟨v', w', hr, h2, h3, h4⟩ := run_append_sep10 (P := P) (w.alloc (.cells #[.int k (y : Int)] e)) base t o.type e i z bytes ht hi hz hsize hby hzs v n (ints k ys) (hown.alloc _) ⟨w.heap.size, 0, none⟩ (.int k (y : Int)) (by simp [Addr.add_lit]) rfl h63 hbytes (by simp; omega)
  unfold Oper.wp execOp
  simp only [ho, resolve, invoke, builtin, Sem.run_bind, Sem.run_pure, Result.andThen_ok, List.map_toArray, List.map_cons, List.map_nil, hs, hx, hr]
  refine hK _ _ (h v' w' (by rw [ints_append]; exact h2) ⟨h3.os, h3.tape, h3.output, Nat.le_trans (by simp) h3.size, fun q hq hne => (h3.block q (by simp; omega) hne).trans (Below.heap_alloc _ _ _ hq)⟩ ?_)
  rcases h4 with h4 | ⟨g, hg, hl⟩
  · exact .inl h4
  · exact .inr ⟨g, hg, by simp at hl; omega⟩
end
end Go.Proofs.YtakcgamgnmmdlaaGreat

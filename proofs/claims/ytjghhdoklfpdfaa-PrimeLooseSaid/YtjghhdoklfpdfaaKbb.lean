/- Several texts in one; each begins with a remark that says what it shows and on which conditions. -/
import Derived.Test.YtjghhdoklfpdfaaKba
import Derived.Test.YtjghhdoklfpdfaaKax
import Derived.Test.YtjghhdoklfpdfaaKay
import Derived.Test.YtjghhdoklfpdfaaKat
/- prime's Trial: numbers of one word, and of more. Conditions: as typed (lengths that fit a machine). -/
namespace Go.Proofs.Ytjghhdoklfpdfaa
open Go.RowKit
set_option maxRecDepth 20000
/-- Between two rounds of ofWords. -/
def TriMid (M most f : Nat) : Prop := (f ≤ most → NoneTo M f) ∧ (most < f → IsTrial M most 0)
theorem TriMid.three {M most : Nat} (h : M % 2 ≠ 0) : TriMid M most 3 := ⟨fun _ => NoneTo.three h, fun hm => trial_past (NoneTo.three h) (.inl hm)⟩
theorem TriMid.behind {M most f d : Nat} (h : NoneTo M d) (hd : d = f + 8 ∨ most < d) (hf : d ≤ f + 8) : TriMid M most (f + 8) := by
  rcases hd with rfl | hd
  · exact ⟨fun _ => h, fun hm => trial_past h (.inl hm)⟩
  · exact ⟨fun _ => by omega, fun _ => trial_past h (.inl hd)⟩
/-- The four odd numbers from f on, multiplied. -/
def four9 (f : Nat) : Nat := f * (f + 2) * (f + 4) * (f + 6)
theorem four9_dvd {f d : Nat} (h : d = f ∨ d = f + 2 ∨ d = f + 4 ∨ d = f + 6) : d ∣ four9 f := by
  unfold four9
  rcases h with rfl | rfl | rfl | rfl
  · rw [Nat.mul_assoc, Nat.mul_assoc]; exact Nat.dvd_mul_right _ _
  · rw [Nat.mul_assoc, Nat.mul_assoc, Nat.mul_left_comm]; exact Nat.dvd_mul_right _ _
  · exact Nat.dvd_trans (Nat.dvd_mul_left _ _) (Nat.dvd_mul_right _ _)
  · exact Nat.dvd_mul_left _ _
set_option maxRecDepth 100000 in
set_option maxHeartbeats 2000000 in
theorem ofWords_trial {w : World} {A : Option Addr} {n c M : Nat} (h : NatIn w A n c M) (hs : n ≤ 9500) (hM : 18446744073709551616 ≤ M) (most r : Nat) (hm : most ≤ 65536) (hr : IsTrial M most r) (b : Bool) (hb : b = true ↔ r ≠ 0) :
    Calls Try.prog 22 #[.slice A n c, .int .u64 most] w fun e w' => e = .returned (.tuple #[.int .u64 r, .bool b]) ∧ Below w.heap.size w w' := by
  have H := Lib.hid h
  have HR := Lib.hid hr
  have HM := Lib.hid hM
  have HBF := Lib.hid (show r = 0 → b = false from fun h => by
    rcases hb2 : b with _ | _
    · rfl
    · exact absurd h (hb.1 hb2))
  have HBT := Lib.hid (show r ≠ 0 → b = true from hb.2)
  clear h hr hb hM
  by_cases h2 : 2 ≤ most
  · have B := bBit H.out 0 (by unfold MaxI; omega)
    by_cases hp : M % 2 = 0
    · have hr2 : r = 2 := isTrial_uniq HR.out (trial_found (NoneTo.two M) (by omega) h2 (by omega) (by have := HM.out; omega) hp)
      have hbt := HBT.out (by omega)
      rw [show bitS M 0 = 0 by simp [bitS, bit, hp]] at B
      subst hr2
      subst hbt
      have HBB := Lib.hid B
      clear B hp
      go_enter Try.func22, Try.ntmps22
      go_wp2_with fail
      refine (HBB.out).mono ?_
      rintro e w1 ⟨rfl, b1⟩
      go_wp2_with fail
      go_ret2
      exact ⟨rfl, b1⟩
    · rw [show bitS M 0 = 1 by unfold bitS; rw [if_neg (by omega)]; show M / 1 % 2 = 1; rw [Nat.div_one]; omega] at B
      have HBB := Lib.hid B
      have H3 := Lib.hid (TriMid.three (most := most) hp)
      clear B hp
      go_enter Try.func22, Try.ntmps22
      go_wp2_with fail
      refine (HBB.out).mono ?_
      rintro e w1 ⟨rfl, b1⟩
      go_wp2_with fail
      go_loopw [6] (fun fv wr => ∃ f : Nat, fv = .int .u64 f ∧ f % 8 = 3 ∧ f ≤ 65547 ∧ Hid (TriMid M most f) ∧ Below w.heap.size w wr) (fun fv _ => 65548 - (intOf fv).toNat)
      case atStart => exact ⟨3, rfl, by omega, by omega, H3, b1⟩
      case round =>
        clear b1 HBB H3
        obtain ⟨f, rfl, hf, hfl, hT, hB⟩ := hrel
        by_cases h1 : f ≤ most
        · obtain ⟨p1, hp1⟩ : ∃ p, f * (f + 2) = p := ⟨_, rfl⟩
          have hp1l : p1 ≤ 65531 * 65533 := by rw [← hp1]; exact Nat.mul_le_mul (by omega) (by omega)
          obtain ⟨p2, hp2⟩ : ∃ p, p1 * (f + 4) = p := ⟨_, rfl⟩
          have hp2l : p2 ≤ 65531 * 65533 * 65535 := by rw [← hp2]; exact Nat.mul_le_mul hp1l (by omega)
          obtain ⟨p3, hp3⟩ : ∃ p, p2 * (f + 6) = p := ⟨_, rfl⟩
          have hp3l : p3 ≤ 65531 * 65533 * 65535 * 65537 := by rw [← hp3]; exact Nat.mul_le_mul hp2l (by omega)
          have h41 : four9 f = p3 := by unfold four9; rw [hp1, hp2, hp3]
          have hp3p : 0 < p3 := by
            rw [← hp3, ← hp2, ← hp1]
            exact Nat.mul_pos (Nat.mul_pos (Nat.mul_pos (by omega) (by omega)) (by omega)) (by omega)
          have i1 : (f : Int) * ((f : Int) + 2) = (p1 : Int) := by rw [← hp1]; simp
          have i2 : (p1 : Int) * ((f : Int) + 4) = (p2 : Int) := by rw [← hp2]; simp
          have i3 : (p2 : Int) * ((f : Int) + 6) = (p3 : Int) := by rw [← hp3]; simp
          obtain ⟨v, hv⟩ : ∃ v, v = M % p3 := ⟨_, rfl⟩
          have HV := Lib.hid (show ∀ d, (d = f ∨ d = f + 2 ∨ d = f + 4 ∨ d = f + 6) → v % d = M % d from fun d hd => by
            rw [hv, ← h41]; exact Nat.mod_mod_of_dvd M (four9_dvd hd))
          have hvl : v < 18446744073709551616 := by
            have : v < p3 := by rw [hv]; exact Nat.mod_lt _ hp3p
            omega
          have HW := Lib.hid (bWord_v (H.out.step hB) (by omega) p3 v hp3p (by omega) hv)
          have HT1 := Lib.hid (hT.out.1 h1)
          clear hp1 hp2 hp3 hv h41
          go_wp2_with fail
          refine (HW.out).mono ?_
          rintro e w2 hw
          obtain ⟨X, q, d0, rfl, S, b2⟩ := hw
          have B2 := below_step hB b2
          clear S
          go_wp2_with fail
          go_loopw [10] (fun dv wr => ∃ d : Nat, dv = .int .u64 d ∧ f ≤ d ∧ d ≤ f + 8 ∧ d % 2 = 1 ∧ Hid (NoneTo M d) ∧ w2 = wr) (fun dv _ => f + 9 - (intOf dv).toNat)
          case atStart => exact ⟨f, rfl, by omega, by omega, by omega, HT1, rfl⟩
          case round =>
            obtain ⟨d, rfl, h4, h5, h6, hN, rfl⟩ := hrel
            have hmin : min ((f : Int) + 6) (most : Int) = ((min (f + 6) most : Nat) : Int) := by omega
            obtain ⟨mn, hmn⟩ : ∃ mn, min (f + 6) most = mn := ⟨_, rfl⟩
            rw [hmn] at hmin
            by_cases h7 : d ≤ mn
            · obtain ⟨y, hy⟩ : ∃ y, v % d = y := ⟨_, rfl⟩
              have hyi : (v : Int) % (d : Int) = (y : Int) := by rw [← hy]; simp
              have HY := Lib.hid (show M % d = y by rw [← HV.out d (by omega), hy])
              have h8 : d ≤ most := by omega
              have h9 : d ≤ f + 6 := by omega
              have h10 : 0 < d := by omega
              clear hy hmn
              by_cases h11 : y = 0
              · subst h11
                have hrd : r = d := isTrial_uniq HR.out (trial_found hN.out (by omega) h8 (by omega) (by have := HM.out; omega) HY.out)
                have hbt : b = true := HBT.out (by omega)
                subst hrd
                subst hbt
                go_wp2_with fail
                go_ret2
                exact ⟨rfl, B2⟩
              · have h4b : ((y : Int) == 0) = false := by simp; omega
                have HN := Lib.hid ((hN.out.odd (by omega) h6).2 (by rw [HY.out]; exact h11))
                go_wp2_with fail
                go_roundw
                case rel => exact ⟨d + 2, by go_num, by omega, by omega, by omega, HN, trivial⟩
                case measure => simp [intOf]; omega
            · have HT2 := Lib.hid (TriMid.behind (most := most) (f := f) hN.out (by omega) h5)
              go_wp2_with fail
              go_roundw
              case rel => exact ⟨f + 8, by go_num, by omega, by omega, HT2, B2⟩
              case measure => simp [intOf]; omega
        · have hr0 : r = 0 := isTrial_uniq HR.out (hT.out.2 (by omega))
          have hbf : b = false := HBF.out hr0
          subst hr0
          subst hbf
          go_wp2_with fail
          go_ret2
          exact ⟨rfl, hB⟩
  · have hr0 : r = 0 := isTrial_uniq HR.out (trial_past (NoneTo.two M) (.inl (by omega)))
    have hbf : b = false := HBF.out hr0
    subst hr0
    subst hbf
    go_enter Try.func22, Try.ntmps22
    go_wp2_with fail
    go_loopw [6] (fun fv wr => fv = .int .u64 3 ∧ w = wr) (fun _ _ => 0)
    case atStart => exact ⟨rfl, rfl⟩
    case round =>
      obtain ⟨rfl, rfl⟩ := hrel
      go_wp2_with fail
      go_ret2
      exact ⟨rfl, Below.refl _ _⟩
/-! Trial -/
set_option maxHeartbeats 2000000 in
theorem trial_any {w : World} {A : Option Addr} {n c : Nat} {l : List Nat} (P : RowIs w A n c l) (hs : n ≤ 9500) (most r : Nat) (hm : most < 18446744073709551616) (hr : if l = wd (natOf l) then IsTrial (natOf l) most r else r = 0) (b : Bool) (hb : b = true ↔ r ≠ 0) :
    Calls Try.prog 9 #[.slice A n c, .int .u64 most] w fun e w' => e = .returned (.tuple #[.int .u64 r, .bool b]) ∧ Below w.heap.size w w' := by
  have hN := P.in_
  have hM := natMay_any A c l w P.2.2.2.1 P.2.1 (by have := P.1; omega) (by have := P.1; have := P.2.2.2.2; omega)
  rw [P.1] at hM
  by_cases h1 : l = wd (natOf l)
  · rw [if_pos h1, ← trial_min] at hr
    rw [decide_eq_true h1] at hM
    obtain ⟨mn, hmn⟩ : ∃ mn, min most 65536 = mn := ⟨_, rfl⟩
    have hmin : min (most : Int) 65536 = (mn : Int) := by omega
    have hmn2 : mn ≤ 65536 := by omega
    rw [hmn] at hr
    have HM := Lib.hid hM
    by_cases h2 : natOf l < 18446744073709551616
    · obtain ⟨V, hV⟩ : ∃ V, natOf l = V := ⟨_, rfl⟩
      have HS := Lib.hid fun (u : World) (e : Below w.heap.size w u) => small_ok8 (hN.step e) h2
      rw [hV] at HS hr h2
      have HO := Lib.hid (ofWord_any V mn r h2 hmn2 hr b hb)
      clear hM hr hb h1 hN P hV hmn
      go_enter Try.func9, Try.ntmps9
      go_wp2_with fail
      refine (HM.out).mono ?_
      rintro e w1 ⟨rfl, b1⟩
      go_wp2_with fail
      refine (HS.out _ b1).mono ?_
      rintro e w2 ⟨rfl, b2⟩
      go_wp2_with fail
      refine (HO.out _).mono ?_
      rintro e w3 ⟨rfl, rfl⟩
      go_wp2_with fail
      go_ret2
      exact ⟨rfl, below_step b1 b2⟩
    · have HS := Lib.hid fun (u : World) (e : Below w.heap.size w u) => small_no8 (hN.step e) h2
      have HO := Lib.hid fun (u : World) (e : Below w.heap.size w u) => ofWords_trial (hN.step e) hs (by omega) mn r hmn2 hr b hb
      clear hM hr hb h1 hN P hmn
      go_enter Try.func9, Try.ntmps9
      go_wp2_with fail
      refine (HM.out).mono ?_
      rintro e w1 ⟨rfl, b1⟩
      go_wp2_with fail
      refine (HS.out _ b1).mono ?_
      rintro e w2 ⟨rfl, b2⟩
      have B2 := below_step b1 b2
      go_wp2_with fail
      refine (HO.out _ B2).mono ?_
      rintro e w3 ⟨rfl, b3⟩
      go_wp2_with fail
      go_ret2
      exact ⟨rfl, below_step B2 b3⟩
  · rw [if_neg h1] at hr
    rw [decide_eq_false h1] at hM
    have HM := Lib.hid hM
    have hbf : b = false := by
      rcases h : b with _ | _
      · rfl
      · exact absurd hr (hb.1 h)
    subst hr
    subst hbf
    clear hM hb h1 hN P
    go_enter Try.func9, Try.ntmps9
    go_wp2_with fail
    refine (HM.out).mono ?_
    rintro e w1 ⟨rfl, b1⟩
    go_wp2_with fail
    go_ret2
    exact ⟨rfl, b1⟩
end Go.Proofs.Ytjghhdoklfpdfaa
/- power.Exp. Conditions: as typed (lengths that fit a machine). -/
namespace Go.Proofs.Ytjghhdoklfpdfaa
open Go.RowKit
set_option maxRecDepth 20000
theorem made_below8 (w : World) (o : Obj) : Below w.heap.size w (w.alloc o) := (Below.refl _ w).alloc (Nat.le_refl _) o
section
variable {w : World} {A A2 A3 : Option Addr} {n m k c c2 c3 B E M : Nat}
set_option maxHeartbeats 4000000 in
theorem exp_ok8 (h : NatIn w A n c B) (i : NatIn w A2 m c2 E) (j : NatIn w A3 k c3 M) (h0 : M ≠ 0) (hE : nbits E ≤ 4096) (hM : nbits M ≤ 4096) (hs : n ≤ 9000) (_ : m ≤ 9000) (hs3 : k ≤ 9000) :
    Calls Try.prog 29 #[.slice A n c, .slice A2 m c2, .slice A3 k c3] w (OutOk (B ^ E % M) w) := by
  have b0 := made_below8 w (.cells #[.slice A3 k c3] 28)
  have bm := Boxed.new w 28 (.slice A3 k c3)
  have hc := bm.cell
  obtain ⟨s, hsM⟩ : ∃ s, nbits M = s := ⟨_, rfl⟩
  obtain ⟨t, ht⟩ : ∃ t, nbits E = t := ⟨_, rfl⟩
  have hs0 : s ≠ 0 := by
    have := (nbits_iff M).2 (by omega)
    omega
  have HB := Lib.hid (bBits (j.step b0))
  have HI := Lib.hid fun (u : World) (e : Below w.heap.size w u) => bBits (i.step e)
  rw [hsM] at HB hM
  rw [ht] at HI hE
  have hsb : ((s : Int) == 0) = false := by simp; omega
  have h1d : decide ((4096 : Int) < (s : Int)) = false := by simp; omega
  have h2d : decide ((4096 : Int) < (t : Int)) = false := by simp; omega
  obtain ⟨v, hv⟩ : ∃ v, v = B % M := ⟨_, rfl⟩
  have hvM : v < M := by rw [hv]; exact Nat.mod_lt _ (by omega)
  have HV := Lib.hid (show v ^ E % M = B ^ E % M by rw [hv, pow_rest])
  have H := Lib.hid h
  have I := Lib.hid i
  have J := Lib.hid j
  have BM := Lib.hid bm
  by_cases hsm : M < 18446744073709551616
  · have HS := Lib.hid fun (u : World) (e : Below w.heap.size w u) => small_ok8 (j.step e) hsm
    have HW := Lib.hid fun (u : World) (e : Below w.heap.size w u) => bWord_v (h.step e) (by omega) M v (by omega) hsm hv
    obtain ⟨o1, ho1⟩ : ∃ o1, 1 % M = o1 := ⟨_, rfl⟩
    have hoI : (1 : Int) % (M : Int) = (o1 : Int) := by rw [← ho1]; simp
    have HR := Lib.hid fun (u : World) (g : Nat) (e : Below w.heap.size w u) (hg : Boxed u g 23 (.int .u64 (M : Int))) => raised1_pf v M g E A2 m c2 u (i.step e) (by omega) (by omega) hsm hg
    rw [ho1] at HR
    have hM0 : ((M : Int) == 0) = false := by simp; omega
    obtain ⟨z, hz⟩ : ∃ z, v ^ E % M = z := ⟨_, rfl⟩
    rw [hz] at HR HV
    have hzM : z < M := by rw [← hz]; exact Nat.mod_lt _ (by omega)
    clear h i j bm hsM ht hv ho1 hz
    go_enter Try.func29, Try.ntmps29
    go_wp2_with fail
    refine (HB.out).mono ?_
    rintro e w1 ⟨rfl, b1⟩
    have B1 := below_step b0 b1
    have hc1 := (BM.out.kept (grown_of_below b1) (by simp)).cell
    go_wp2_with fail
    refine (HI.out _ B1).mono ?_
    rintro e w2 ⟨rfl, b2⟩
    have B2 := below_step B1 b2
    have bm2 := (BM.out.kept (grown_of_below b1) (by simp)).kept (grown_of_below b2) (by simp)
    have hc2 := bm2.cell
    go_wp2_with fail
    refine (HS.out _ B2).mono ?_
    rintro e w3 ⟨rfl, b3⟩
    have B3 := below_step B2 b3
    go_wp2_with fail
    have bw := Boxed.new w3 23 (.int .u64 (M : Int))
    have B4 := below_step B3 (made_below8 w3 (.cells #[.int .u64 (M : Int)] 23))
    have hw4 := bw.cell
    refine (HW.out _ B4).mono ?_
    rintro e w5 hw
    obtain ⟨X, q, d, rfl, S, b5⟩ := hw
    have B5 := below_step B4 b5
    have bw5 := bw.kept (grown_of_below b5) (by simp)
    have hw5 := bw5.cell
    clear S
    go_wp2_with fail
    refine (HR.out w5 w3.heap.size B5 bw5).mono ?_
    rintro e w6 ⟨rfl, b6⟩
    have B6 := below_step B5 b6
    go_wp2_with fail
    refine (bOf w6 z (by omega)).mono ?_
    rintro e w7 ⟨Y, r, f, rfl, S7, _, b7⟩
    go_wp2_with fail
    go_ret2
    exact ⟨Y, r, f, rfl, by rw [← HV.out]; exact S7, below_step B6 b7⟩
  · have HS := Lib.hid fun (u : World) (e : Below w.heap.size w u) => small_no8 (j.step e) hsm
    have HW := Lib.hid fun (u : World) (e : Below w.heap.size w u) => bMod_is v (h.step e) (j.step e) hv.symm h0 (by omega) (by omega)
    have hvn := nbits_mono (Nat.le_of_lt hvM)
    have hM1 : 1 < M := by omega
    have hMn : nbits M ≤ 4096 := by omega
    have hvn2 : nbits v ≤ 4096 := by omega
    have HMn := Lib.hid hMn
    have HVn := Lib.hid hvn2
    clear h i j bm hsM ht hv hvn hvn2 hMn
    go_enter Try.func29, Try.ntmps29
    go_wp2_with fail
    refine (HB.out).mono ?_
    rintro e w1 ⟨rfl, b1⟩
    have B1 := below_step b0 b1
    have bm1 := BM.out.kept (grown_of_below b1) (by simp)
    have hc1 := bm1.cell
    go_wp2_with fail
    refine (HI.out _ B1).mono ?_
    rintro e w2 ⟨rfl, b2⟩
    have B2 := below_step B1 b2
    have bm2 := bm1.kept (grown_of_below b2) (by simp)
    have hc2 := bm2.cell
    go_wp2_with fail
    refine (HS.out _ B2).mono ?_
    rintro e w3 ⟨rfl, b3⟩
    have B3 := below_step B2 b3
    have bm3 := bm2.kept (grown_of_below b3) (by simp)
    have b4 := made_below8 w3 (.cells #[.int .u64 0] 23)
    have B4 := below_step B3 b4
    have bm4 := bm3.kept (grown_of_below b4) (by simp)
    have hc4 := bm4.cell
    go_wp2_with fail
    refine (HW.out _ B4).mono ?_
    rintro e w5 ⟨X, q, d, rfl, S, b5⟩
    have B5 := below_step B4 b5
    have bm5 := bm4.kept (grown_of_below b5) (by simp)
    have hc5 := bm5.cell
    have hq := natIs_len8 (K := 64) S (by have := HVn.out; omega)
    have HS5 := Lib.hid S
    clear S
    go_wp2_with fail
    refine (bOf w5 1 (by omega)).mono ?_
    rintro e w6 ⟨Y, r, f, rfl, S6, _, b6⟩
    have B6 := below_step B5 b6
    have bm6 := bm5.kept (grown_of_below b6) (by simp)
    have HR := Lib.hid (raised2_pf v M w.heap.size E X A3 Y A2 q d k c3 r f m c2 w6 (I.out.step B6) (HS5.out.step b6).in_ (J.out.step B6) S6 bm6 hM1 HMn.out (by omega) hs3)
    clear S6
    go_wp2_with fail
    refine (HR.out).mono ?_
    rintro e w7 ⟨Z, s', y, rfl, S7, b7⟩
    go_wp2_with fail
    go_ret2
    exact ⟨Z, s', y, rfl, by rw [← HV.out]; exact S7, below_step B6 b7⟩
end
end Go.Proofs.Ytjghhdoklfpdfaa

/- Several texts in one; each begins with a remark that says what it shows and on which conditions. -/
import Derived.Test.YtjpfcdgaepdcdaaKbe
/- The document's step of a certificate, chapter 11, walked. Conditions: numbers below 2^31; what was shown ahead are primes. -/
namespace Go.Proofs.Ytjpfcdgaepdcdaa
open Go.RowKit
set_option maxRecDepth 20000
/-- The flag that step answers. -/
def StepFlag (b : Bool) (s : CStep) (la : List Nat) : Prop := b = true ↔ StepOk s la
theorem small_lt11 {l : List Nat} (h : smallB11 l = true) : nth l 0 < 2147483648 := by
  unfold smallB11 at h
  rcases of_decide_eq_true h with h1 | h1
  · rw [List.eq_nil_of_length_eq_zero h1]; exact Nat.zero_lt_succ _
  · exact h1.2.2
set_option maxHeartbeats 8000000 in
set_option maxRecDepth 100000 in
theorem refStep11 {w : World} {vP vG : Value} {X : Option Addr} {dQ : Nat} {lP lG : List Nat} {lQ : List (List Nat)} (rP : RdNat w w.heap.size vP lP) (rG : RdNat w w.heap.size vG lG) (rQ : RdNats w w.heap.size X lQ) (_ : lQ.length ≤ dQ) (sP : smallB11 lP = true) (sG : smallB11 lG = true) (sQ : ∀ x ∈ lQ, smallB11 x = true)
    (s : CStep) (p g : Nat) (hP : nth lP 0 = p) (hG : nth lG 0 = g) (hsP : s.P = p) (hsG : s.G = g) (hQ : lQ.map (fun l => nth l 0) = s.Q) (hQl : lQ.length ≤ 1000)
    {A : Option Addr} {c : Nat} {la : List Nat} (ra : Rd .u64 w w.heap.size A la) (_ : la.length ≤ c) (hal : la.length ≤ 1000) (haw : Words la) (hla : ∀ a ∈ la, Prm a) (b : Bool) (hb : StepFlag b s la) :
    Calls Try.prog 18 #[.agg #[vP, vG, .slice X lQ.length dQ], .slice A la.length c] w fun e w' => ∃ x : Nat, e = .returned (.tuple #[.int .u64 x, .bool b]) ∧ (b = true → x = p) ∧ Below w.heap.size w w' := by
  have hp : p < 2147483648 := by rw [← hP]; exact small_lt11 sP
  have hg : g < 2147483648 := by rw [← hG]; exact small_lt11 sG
  have HB := Lib.hid hb
  obtain ⟨W0, hW0⟩ : ∃ W0, w.alloc (.cells #[vP, vG, .slice X lQ.length dQ] 35) = W0 := ⟨_, rfl⟩
  have hbE : Below w.heap.size w W0 := by rw [← hW0]; exact (Below.refl _ w).alloc (Nat.le_refl _) _
  have bE := Lib.hid hbE
  have hc0 : W0.cell? ⟨w.heap.size, 0, none⟩ = some vP := by subst hW0; go_simp
  have hc1 : W0.cell? ⟨w.heap.size, 1, none⟩ = some vG := by subst hW0; go_simp
  have hc2 : W0.cell? ⟨w.heap.size, 2, none⟩ = some (.slice X lQ.length dQ) := by subst hW0; go_simp
  have HS1 := Lib.hid fun u (d : Drawn W0 u) => refSmall ((rP.below hbE).drawn d) p hP true sP
  have HS2 := Lib.hid fun u (d : Drawn W0 u) => refSmall ((rG.below hbE).drawn d) g hG true sG
  have HQ := Lib.hid (rQ.below hbE)
  have HA := Lib.hid (ra.below hbE)
  clear hb rP rG sP sG hP hG hbE rQ ra
  by_cases c1 : p < 3
  · skip
    have g1 : decide ((p : Int) < 3) = true := by simp; omega
    have hb1 := Lib.hid (show b = false by cases hq : b with | false => rfl | true => exact absurd (HB.out.1 hq) (fun k => by have := k.three; omega))
    go_enter Try.func18, Try.ntmps18
    go_wp2_with fail
    refine (HS1.out _ (Drawn.refl _)).mono ?_
    rintro e w1 ⟨rfl, nq1, rfl⟩
    go_wp2_with fail
    refine (HS2.out _ (Drawn.more _)).mono ?_
    rintro e w1 ⟨rfl, nq2, rfl⟩
    go_wp2_with fail
    go_ret2
    exact ⟨0, by rw [hb1.out]; rfl, fun h => absurd (hb1.out.symm.trans h) (by simp), bE.out.trans ((Drawn.more _).below _)⟩
  by_cases c2 : p % 2 = 0
  · skip
    have g1 : decide ((p : Int) < 3) = false := by simp; omega
    have g2 : ((p : Int) % 2 == 0) = true := by simp; omega
    have hb1 := Lib.hid (show b = false by cases hq : b with | false => rfl | true => exact absurd (HB.out.1 hq) (fun k => by have := k.odd; omega))
    go_enter Try.func18, Try.ntmps18
    go_wp2_with fail
    refine (HS1.out _ (Drawn.refl _)).mono ?_
    rintro e w1 ⟨rfl, nq1, rfl⟩
    go_wp2_with fail
    refine (HS2.out _ (Drawn.more _)).mono ?_
    rintro e w1 ⟨rfl, nq2, rfl⟩
    go_wp2_with fail
    go_ret2
    exact ⟨0, by rw [hb1.out]; rfl, fun h => absurd (hb1.out.symm.trans h) (by simp), bE.out.trans ((Drawn.more _).below _)⟩
  by_cases c3 : g < 1
  · skip
    have g1 : decide ((p : Int) < 3) = false := by simp; omega
    have g2 : ((p : Int) % 2 == 0) = false := by simp; omega
    have g3 : decide ((g : Int) < 1) = true := by simp; omega
    have hb1 := Lib.hid (show b = false by cases hq : b with | false => rfl | true => exact absurd (HB.out.1 hq) (fun k => by have := k.one; omega))
    go_enter Try.func18, Try.ntmps18
    go_wp2_with fail
    refine (HS1.out _ (Drawn.refl _)).mono ?_
    rintro e w1 ⟨rfl, nq1, rfl⟩
    go_wp2_with fail
    refine (HS2.out _ (Drawn.more _)).mono ?_
    rintro e w1 ⟨rfl, nq2, rfl⟩
    go_wp2_with fail
    go_ret2
    exact ⟨0, by rw [hb1.out]; rfl, fun h => absurd (hb1.out.symm.trans h) (by simp), bE.out.trans ((Drawn.more _).below _)⟩
  by_cases c4 : p ≤ g
  · skip
    have g1 : decide ((p : Int) < 3) = false := by simp; omega
    have g2 : ((p : Int) % 2 == 0) = false := by simp; omega
    have g3 : decide ((g : Int) < 1) = false := by simp; omega
    have g4 : decide ((p : Int) ≤ (g : Int)) = true := by simp; omega
    have hb1 := Lib.hid (show b = false by cases hq : b with | false => rfl | true => exact absurd (HB.out.1 hq) (fun k => by have := k.less; omega))
    go_enter Try.func18, Try.ntmps18
    go_wp2_with fail
    refine (HS1.out _ (Drawn.refl _)).mono ?_
    rintro e w1 ⟨rfl, nq1, rfl⟩
    go_wp2_with fail
    refine (HS2.out _ (Drawn.more _)).mono ?_
    rintro e w1 ⟨rfl, nq2, rfl⟩
    go_wp2_with fail
    go_ret2
    exact ⟨0, by rw [hb1.out]; rfl, fun h => absurd (hb1.out.symm.trans h) (by simp), bE.out.trans ((Drawn.more _).below _)⟩
  · have g1 : decide ((p : Int) < 3) = false := by simp; omega
    have g2 : ((p : Int) % 2 == 0) = false := by simp; omega
    have g3 : decide ((g : Int) < 1) = false := by simp; omega
    have g4 : decide ((p : Int) ≤ (g : Int)) = false := by simp; omega
    have HC := Lib.hid (show ¬ p < 3 ∧ ¬ p % 2 = 0 ∧ ¬ g < 1 ∧ ¬ p ≤ g from ⟨c1, c2, c3, c4⟩)
    obtain ⟨n, hn⟩ : ∃ n, lQ.length = n := ⟨_, rfl⟩
    have hsn : s.Q.length = n := by rw [← hQ, List.length_map, hn]
    obtain ⟨m, hm⟩ : ∃ m, p - 1 = m := ⟨_, rfl⟩
    have hmI : (p : Int) - 1 = (m : Int) := by omega
    have hml : m < 2147483648 := by omega
    have HSM := Lib.hid (show s.P - 1 = m by rw [hsP, hm])
    have HSP := Lib.hid hsP
    have HSG := Lib.hid hsG
    have HQQ := Lib.hid hQ
    have HSN := Lib.hid hsn
    have HN := Lib.hid hn
    have HSQ := Lib.hid sQ
    have H0 := Lib.hid (show StepMid s la 0 m 0 by rw [← HSM.out]; exact StepMid.start (by rw [hsP]; omega))
    have hp0 : p ≠ 0 := by omega
    have HPP := Lib.hid (show 0 < p by omega)
    rw [hn] at hc2 hW0 hQl ⊢
    clear hn hsn hm hsP hsG hQ sQ
    go_enter Try.func18, Try.ntmps18
    go_wp2_with fail
    refine (HS1.out _ (Drawn.refl _)).mono ?_
    rintro e w1 ⟨rfl, nq1, rfl⟩
    go_wp2_with fail
    refine (HS2.out _ (Drawn.more _)).mono ?_
    rintro e w1 ⟨rfl, nq2, rfl⟩
    go_wp2_with fail
    go_loopw [10, 11, 12] (fun lv mv iv wr => ∃ j L M : Nat, lv = .int .u64 L ∧ mv = .int .u64 M ∧ iv = .int .i64 j ∧ j ≤ n ∧ L ≤ m ∧ M < 2147483648 ∧ Hid (StepMid s la j L M) ∧ Drawn W0 wr) (fun _ _ iv _ => n - (intOf iv).toNat)
    case atStart => exact ⟨0, m, 0, rfl, rfl, rfl, Nat.zero_le _, Nat.le_refl _, by omega, H0, Drawn.more _⟩
    case round =>
      clear H0 g1 g2 g3 g4 c1 c2 c3 c4
      obtain ⟨j, L, M, rfl, rfl, rfl, hj, hL, hM, hS, nq, rfl⟩ := hrel
      by_cases hlt : j < n
      · obtain ⟨gq, oq, rfl, hgq, hall⟩ := HQ.out (by rw [HN.out]; omega)
        obtain ⟨v, hv, rv⟩ := hall j (by rw [HN.out]; exact hlt)
        obtain ⟨q, hq⟩ : ∃ q, nth (lQ[j]'(by rw [HN.out]; exact hlt)) 0 = q := ⟨_, rfl⟩
        have HQS := Lib.hid (show nth s.Q j = q by rw [← HQQ.out, nth_eq _ _ (by rw [List.length_map, HN.out]; exact hlt), List.getElem_map]; exact hq)
        have HS3 := Lib.hid fun u (d : Drawn W0 u) => refSmall (rv.drawn d) q hq true (HSQ.out _ (List.getElem_mem _))
        have hql : q < 2147483648 := by rw [← hq]; exact small_lt11 (HSQ.out _ (List.getElem_mem _))
        have HQM := Lib.hid (show q ∈ s.Q by rw [← HQS.out]; exact nth_mem _ _ (by rw [HSN.out]; exact hlt))
        clear hall rv hq
        by_cases d1 : q ≤ M
        · have gA : decide ((q : Int) ≤ (M : Int)) = true := by simp; omega
          have hb1 := Lib.hid (show b = false by cases hq : b with | false => rfl | true => exact absurd (HB.out.1 hq) (hS.out.not_above hla (by rw [HSN.out]; exact hlt) HQS.out d1))
          go_wp2_with fail
          refine (HS3.out _ (Drawn.more _)).mono ?_
          rintro e w1 ⟨rfl, nq3, rfl⟩
          go_wp2_with fail
          go_ret2
          exact ⟨0, by rw [hb1.out]; rfl, fun h => absurd (hb1.out.symm.trans h) (by simp), bE.out.trans ((Drawn.more _).below _)⟩
        have gA : decide ((q : Int) ≤ (M : Int)) = false := by simp; omega
        by_cases d2 : q < 2
        · have gB : decide ((q : Int) < 2) = true := by simp; omega
          have hb1 := Lib.hid (show b = false by cases hq : b with | false => rfl | true => exact absurd (HB.out.1 hq) (fun k => by rcases k.shown q HQM.out with h1 | h1; (have := h1.2.1; omega); (have := (hla q h1).1; omega)))
          go_wp2_with fail
          refine (HS3.out _ (Drawn.more _)).mono ?_
          rintro e w1 ⟨rfl, nq3, rfl⟩
          go_wp2_with fail
          go_ret2
          exact ⟨0, by rw [hb1.out]; rfl, fun h => absurd (hb1.out.symm.trans h) (by simp), bE.out.trans ((Drawn.more _).below _)⟩
        have gB : decide ((q : Int) < 2) = false := by simp; omega
        have hq0 : q ≠ 0 := by omega
        have hqz : ((q : Int) == 0) = false := by simp; omega
        obtain ⟨r, hr⟩ : ∃ r, m % q = r := ⟨_, rfl⟩
        have hrI := emod_nat11 hr
        have hrT := tmod_nat11 hr
        have hrl : r < 2147483648 := by rw [← hr]; exact Nat.lt_of_le_of_lt (Nat.mod_le _ _) hml
        by_cases d3 : r = 0
        rotate_left
        · have gC : ((r : Int) != 0) = true := by rw [bne_iff_ne]; omega
          have hb1 := Lib.hid (show b = false by cases hq : b with | false => rfl | true => exact absurd (HB.out.1 hq) (fun k => by have h1 := k.parts q HQM.out; rw [HSM.out] at h1; exact d3 (by rw [← hr]; exact Nat.mod_eq_zero_of_dvd h1)))
          clear hr
          go_wp2_with fail
          refine (HS3.out _ (Drawn.more _)).mono ?_
          rintro e w1 ⟨rfl, nq3, rfl⟩
          go_wp2_with fail
          go_ret2
          exact ⟨0, by rw [hb1.out]; rfl, fun h => absurd (hb1.out.symm.trans h) (by simp), bE.out.trans ((Drawn.more _).below _)⟩
        have gC : ((r : Int) != 0) = false := by rw [d3]; rfl
        have HD := Lib.hid (show q ∣ s.P - 1 by rw [HSM.out]; exact Nat.dvd_of_mod_eq_zero (hr.trans d3))
        have hr0 : r < 1 := by omega
        clear hr d3
        have HNA := Lib.hid (show M < q by omega)
        skip
        obtain ⟨t, ht⟩ : ∃ t, m / q = t := ⟨_, rfl⟩
        have htI : (m : Int) / (q : Int) = (t : Int) := by rw [← ht]; simp
        have htl : t < 2147483648 := by rw [← ht]; exact Nat.lt_of_le_of_lt (Nat.div_le_self _ _) hml
        obtain ⟨y, hy⟩ : ∃ y, g ^ t % p = y := ⟨_, rfl⟩
        have HPW := Lib.hid fun u => (refPower11 g t p (by omega) (by omega) HPP.out (by omega) u)
        rw [hy] at HPW
        have hyl : y < 2147483648 := by rw [← hy]; exact Nat.lt_trans (Nat.mod_lt _ HPP.out) hp
        have HY := Lib.hid (show s.G ^ ((s.P - 1) / q) % s.P = y by rw [HSM.out, HSG.out, HSP.out, ht, hy])
        clear ht hy
        by_cases d5 : q < 65536
        · have gD : decide ((q : Int) < 65536) = true := by simp; omega
          obtain ⟨sh, hsh⟩ : ∃ sh : Bool, sh = true ↔ Prm q := by by_cases h : Prm q; exact ⟨true, by simpa using h⟩; exact ⟨false, by simpa using h⟩
          have HIS := Lib.hid fun u => refIs11 q (by omega) sh hsh u
          have HSH := Lib.hid (show ShMid sh q la 0 from ShMid.start (by rw [hsh]; exact ⟨fun h => ⟨d5, h⟩, fun h => h.2⟩))
          clear hsh d5
          go_wp2_with fail
          refine (HS3.out _ (Drawn.more _)).mono ?_
          rintro e w1 ⟨rfl, nq3, rfl⟩
          go_wp2_with fail
          refine (HIS.out _).mono ?_
          rintro e w1 ⟨rfl, rfl⟩
          go_wp2_with fail
          go_loopw [15, 16] (fun sv kv wr => ∃ (k : Nat) (f : Bool), sv = .bool f ∧ kv = .int .i64 k ∧ k ≤ la.length ∧ Hid (ShMid f q la k) ∧ Drawn W0 wr) (fun _ kv _ => la.length - (intOf kv).toNat)
          case atStart => exact ⟨0, sh, rfl, rfl, Nat.zero_le _, HSH, Drawn.more _⟩
          case round =>
            clear HSH
            obtain ⟨k, f, rfl, rfl, hk, hF, nq5, rfl⟩ := hrel
            by_cases hkl : k < la.length
            · cases f
              · obtain ⟨ga, oa, rfl, hga, hca⟩ := HA.out (by omega)
                obtain ⟨a, ha⟩ : ∃ a, nth la k = a := ⟨_, rfl⟩
                have e1 := hca k hkl
                rw [ha] at e1
                have hal2 : a < 18446744073709551616 := by rw [← ha, nth_eq la k hkl]; exact haw _ (List.getElem_mem _)
                by_cases haq : a = q
                · have gE : ((a : Int) == (q : Int)) = true := by simp; omega
                  have HF := Lib.hid (hF.out.hit hkl (ha.trans haq))
                  clear hca ha haq hF
                  go_wp2_with fail
                  go_roundw
                  case rel => exact ⟨k + 1, true, rfl, by go_num, by omega, HF, Drawn.more _⟩
                  case measure => simp [intOf]; omega
                · have gE : ((a : Int) == (q : Int)) = false := by simp; omega
                  have HF := Lib.hid (hF.out.miss hkl (by rw [ha]; exact haq))
                  clear hca ha haq hF
                  go_wp2_with fail
                  go_roundw
                  case rel => exact ⟨k + 1, false, rfl, by go_num, by omega, HF, Drawn.more _⟩
                  case measure => simp [intOf]; omega
              · have HF := Lib.hid (hF.out.more (k + 1) (by omega))
                clear hF
                go_wp2_with fail
                go_roundw
                case rel => exact ⟨k + 1, true, rfl, by go_num, by omega, HF, Drawn.more _⟩
                case measure => simp [intOf]; omega
            · obtain rfl : k = la.length := by omega
              cases f
              · skip
                have hb1 := Lib.hid (show b = false by cases hq : b with | false => rfl | true => exact absurd (HB.out.1 hq) (fun k => absurd (hF.out.all.2 (k.shown q HQM.out)) (by simp)))
                clear hF
                go_wp2_with fail
                go_ret2
                exact ⟨0, by rw [hb1.out]; rfl, fun h => absurd (hb1.out.symm.trans h) (by simp), bE.out.trans ((Drawn.more _).below _)⟩
              · have HSW := Lib.hid (hF.out.all.1 rfl)
                have HPQ := Lib.hid (show Prm q from HSW.out.elim (fun h => h.2) (hla q))
                clear hF hkl hk
                by_cases hy1 : y = 1
                · have gY : ((y : Int) == 1) = true := by simp; omega
                  have hb1 := Lib.hid (show b = false by cases hq : b with | false => rfl | true => exact absurd (HB.out.1 hq) (fun k => k.none q HQM.out (HY.out.trans hy1)))
                  go_wp2_with fail
                  refine (HPW.out _).mono ?_
                  rintro e w1 ⟨rfl, rfl⟩
                  go_wp2_with fail
                  go_ret2
                  exact ⟨0, by rw [hb1.out]; rfl, fun h => absurd (hb1.out.symm.trans h) (by simp), bE.out.trans ((Drawn.more _).below _)⟩
                · have gY : ((y : Int) == 1) = false := by simp; omega
                  have HY1 := Lib.hid hy1
                  have HST := Lib.hid (show Stripping m (s.Q.take j) q L by have h := hS.out.strip.next q; rw [HSM.out] at h; exact h)
                  clear hy1
                  go_wp2_with fail
                  refine (HPW.out _).mono ?_
                  rintro e w1 ⟨rfl, rfl⟩
                  go_wp2_with fail
                  go_loopw [10] (fun lv wr => ∃ L : Nat, lv = .int .u64 L ∧ L ≤ m ∧ Hid (Stripping m (s.Q.take j) q L) ∧ Drawn W0 wr) (fun lv _ => (intOf lv).toNat)
                  case atStart => exact ⟨L, rfl, hL, HST, Drawn.more _⟩
                  case round =>
                    obtain ⟨L2, rfl, hL2, hT, nq7, rfl⟩ := hrel
                    obtain ⟨r2, hr2⟩ : ∃ r2, L2 % q = r2 := ⟨_, rfl⟩
                    have hr2I := emod_nat11 hr2
                    have hr2T := tmod_nat11 hr2
                    have hr2l : r2 < 2147483648 := by rw [← hr2]; exact Nat.lt_of_le_of_lt (Nat.mod_le _ _) (by omega)
                    by_cases hz2 : r2 = 0
                    · have gZ : ((r2 : Int) == 0) = true := by rw [hz2]; rfl
                      obtain ⟨L3, hL3⟩ : ∃ L3, L2 / q = L3 := ⟨_, rfl⟩
                      have hL3I : (L2 : Int) / (q : Int) = (L3 : Int) := by rw [← hL3]; simp
                      have hL3l : L3 < L2 := by rw [← hL3]; exact Nat.div_lt_self hT.out.pos (by omega)
                      have HT2 := Lib.hid (show Stripping m (s.Q.take j) q L3 by rw [← hL3]; exact hT.out.take HPQ.out (hr2.trans hz2))
                      have hz3 : r2 < 1 := by omega
                      clear hr2 hL3 hT HST hz2
                      go_wp2_with fail
                      go_roundw
                      case rel => exact ⟨L3, by first | rfl | rw [hL3I], by omega, HT2, Drawn.more _⟩
                      case measure => simp [intOf]; omega
                    · have gZ : ((r2 : Int) == 0) = false := by simp; omega
                      have HM2 := Lib.hid (hS.out.next (by rw [HSN.out]; exact hlt) HQS.out HNA.out HSW.out HD.out (by rw [HY.out]; exact HY1.out) (show Stripped (s.P - 1) (s.Q.take j ++ [q]) L2 by rw [HSM.out]; exact hT.out.done (by rw [hr2]; exact hz2)))
                      have hz3 : 0 < r2 := by omega
                      clear hr2 hT HST hS hz2
                      go_wp2_with fail
                      go_roundw
                      case rel => exact ⟨j + 1, L2, q, rfl, rfl, by go_num, by omega, hL2, hql, HM2, Drawn.more _⟩
                      case measure => simp [intOf]; omega
        · have gD : decide ((q : Int) < 65536) = false := by simp; omega
          have HSH := Lib.hid (show ShMid false q la 0 from ShMid.start ⟨fun h => (by cases h), fun h => absurd h.1 d5⟩)
          clear d5
          go_wp2_with fail
          refine (HS3.out _ (Drawn.more _)).mono ?_
          rintro e w1 ⟨rfl, nq3, rfl⟩
          go_wp2_with fail
          go_loopw [15, 16] (fun sv kv wr => ∃ (k : Nat) (f : Bool), sv = .bool f ∧ kv = .int .i64 k ∧ k ≤ la.length ∧ Hid (ShMid f q la k) ∧ Drawn W0 wr) (fun _ kv _ => la.length - (intOf kv).toNat)
          case atStart => exact ⟨0, false, rfl, rfl, Nat.zero_le _, HSH, Drawn.more _⟩
          case round =>
            clear HSH
            obtain ⟨k, f, rfl, rfl, hk, hF, nq5, rfl⟩ := hrel
            by_cases hkl : k < la.length
            · cases f
              · obtain ⟨ga, oa, rfl, hga, hca⟩ := HA.out (by omega)
                obtain ⟨a, ha⟩ : ∃ a, nth la k = a := ⟨_, rfl⟩
                have e1 := hca k hkl
                rw [ha] at e1
                have hal2 : a < 18446744073709551616 := by rw [← ha, nth_eq la k hkl]; exact haw _ (List.getElem_mem _)
                by_cases haq : a = q
                · have gE : ((a : Int) == (q : Int)) = true := by simp; omega
                  have HF := Lib.hid (hF.out.hit hkl (ha.trans haq))
                  clear hca ha haq hF
                  go_wp2_with fail
                  go_roundw
                  case rel => exact ⟨k + 1, true, rfl, by go_num, by omega, HF, Drawn.more _⟩
                  case measure => simp [intOf]; omega
                · have gE : ((a : Int) == (q : Int)) = false := by simp; omega
                  have HF := Lib.hid (hF.out.miss hkl (by rw [ha]; exact haq))
                  clear hca ha haq hF
                  go_wp2_with fail
                  go_roundw
                  case rel => exact ⟨k + 1, false, rfl, by go_num, by omega, HF, Drawn.more _⟩
                  case measure => simp [intOf]; omega
              · have HF := Lib.hid (hF.out.more (k + 1) (by omega))
                clear hF
                go_wp2_with fail
                go_roundw
                case rel => exact ⟨k + 1, true, rfl, by go_num, by omega, HF, Drawn.more _⟩
                case measure => simp [intOf]; omega
            · obtain rfl : k = la.length := by omega
              cases f
              · skip
                have hb1 := Lib.hid (show b = false by cases hq : b with | false => rfl | true => exact absurd (HB.out.1 hq) (fun k => absurd (hF.out.all.2 (k.shown q HQM.out)) (by simp)))
                clear hF
                go_wp2_with fail
                go_ret2
                exact ⟨0, by rw [hb1.out]; rfl, fun h => absurd (hb1.out.symm.trans h) (by simp), bE.out.trans ((Drawn.more _).below _)⟩
              · have HSW := Lib.hid (hF.out.all.1 rfl)
                have HPQ := Lib.hid (show Prm q from HSW.out.elim (fun h => h.2) (hla q))
                clear hF hkl hk
                by_cases hy1 : y = 1
                · have gY : ((y : Int) == 1) = true := by simp; omega
                  have hb1 := Lib.hid (show b = false by cases hq : b with | false => rfl | true => exact absurd (HB.out.1 hq) (fun k => k.none q HQM.out (HY.out.trans hy1)))
                  go_wp2_with fail
                  refine (HPW.out _).mono ?_
                  rintro e w1 ⟨rfl, rfl⟩
                  go_wp2_with fail
                  go_ret2
                  exact ⟨0, by rw [hb1.out]; rfl, fun h => absurd (hb1.out.symm.trans h) (by simp), bE.out.trans ((Drawn.more _).below _)⟩
                · have gY : ((y : Int) == 1) = false := by simp; omega
                  have HY1 := Lib.hid hy1
                  have HST := Lib.hid (show Stripping m (s.Q.take j) q L by have h := hS.out.strip.next q; rw [HSM.out] at h; exact h)
                  clear hy1
                  go_wp2_with fail
                  refine (HPW.out _).mono ?_
                  rintro e w1 ⟨rfl, rfl⟩
                  go_wp2_with fail
                  go_loopw [10] (fun lv wr => ∃ L : Nat, lv = .int .u64 L ∧ L ≤ m ∧ Hid (Stripping m (s.Q.take j) q L) ∧ Drawn W0 wr) (fun lv _ => (intOf lv).toNat)
                  case atStart => exact ⟨L, rfl, hL, HST, Drawn.more _⟩
                  case round =>
                    obtain ⟨L2, rfl, hL2, hT, nq7, rfl⟩ := hrel
                    obtain ⟨r2, hr2⟩ : ∃ r2, L2 % q = r2 := ⟨_, rfl⟩
                    have hr2I := emod_nat11 hr2
                    have hr2T := tmod_nat11 hr2
                    have hr2l : r2 < 2147483648 := by rw [← hr2]; exact Nat.lt_of_le_of_lt (Nat.mod_le _ _) (by omega)
                    by_cases hz2 : r2 = 0
                    · have gZ : ((r2 : Int) == 0) = true := by rw [hz2]; rfl
                      obtain ⟨L3, hL3⟩ : ∃ L3, L2 / q = L3 := ⟨_, rfl⟩
                      have hL3I : (L2 : Int) / (q : Int) = (L3 : Int) := by rw [← hL3]; simp
                      have hL3l : L3 < L2 := by rw [← hL3]; exact Nat.div_lt_self hT.out.pos (by omega)
                      have HT2 := Lib.hid (show Stripping m (s.Q.take j) q L3 by rw [← hL3]; exact hT.out.take HPQ.out (hr2.trans hz2))
                      have hz3 : r2 < 1 := by omega
                      clear hr2 hL3 hT HST hz2
                      go_wp2_with fail
                      go_roundw
                      case rel => exact ⟨L3, by first | rfl | rw [hL3I], by omega, HT2, Drawn.more _⟩
                      case measure => simp [intOf]; omega
                    · have gZ : ((r2 : Int) == 0) = false := by simp; omega
                      have HM2 := Lib.hid (hS.out.next (by rw [HSN.out]; exact hlt) HQS.out HNA.out HSW.out HD.out (by rw [HY.out]; exact HY1.out) (show Stripped (s.P - 1) (s.Q.take j ++ [q]) L2 by rw [HSM.out]; exact hT.out.done (by rw [hr2]; exact hz2)))
                      have hz3 : 0 < r2 := by omega
                      clear hr2 hT HST hS hz2
                      go_wp2_with fail
                      go_roundw
                      case rel => exact ⟨j + 1, L2, q, rfl, rfl, by go_num, by omega, hL2, hql, HM2, Drawn.more _⟩
                      case measure => simp [intOf]; omega
      · obtain rfl : j = n := by omega
        have HF := Lib.hid (show StepOk s la ↔ (L = 1 ∧ g ^ m % p = 1) by
          have h1 := hS.out
          rw [← HSN.out] at h1
          have h2 := h1.done (by have := HC.out; rw [HSP.out]; omega) (by have := HC.out; rw [HSP.out]; omega) (by have := HC.out; rw [HSG.out]; omega) (by have := HC.out; rw [HSG.out, HSP.out]; omega)
          rw [HSM.out, HSG.out, HSP.out] at h2
          exact h2)
        obtain ⟨y, hy⟩ : ∃ y, g ^ m % p = y := ⟨_, rfl⟩
        have HPW := Lib.hid fun u => (refPower11 g m p (by omega) (by omega) HPP.out (by omega) u)
        rw [hy] at HPW HF
        have hyl : y < 2147483648 := by rw [← hy]; exact Nat.lt_trans (Nat.mod_lt _ HPP.out) hp
        clear hy hS
        by_cases hL1 : L = 1
        · have gL : ((L : Int) == 1) = true := by simp; omega
          by_cases hy1 : y = 1
          · have gY : ((y : Int) == 1) = true := by simp; omega
            have hb1 := Lib.hid (show b = true from HB.out.2 (HF.out.2 ⟨hL1, hy1⟩))
            clear hL1 hy1
            go_wp2_with fail
            refine (HPW.out _).mono ?_
            rintro e w1 ⟨rfl, rfl⟩
            go_wp2_with fail
            go_ret2
            exact ⟨p, by rw [hb1.out]; rfl, fun _ => rfl, bE.out.trans ((Drawn.more _).below _)⟩
          · have gY : ((y : Int) == 1) = false := by simp; omega
            have hb1 := Lib.hid (show b = false by cases hq : b with | false => rfl | true => exact absurd (HF.out.1 (HB.out.1 hq)).2 hy1)
            clear hL1 hy1
            go_wp2_with fail
            refine (HPW.out _).mono ?_
            rintro e w1 ⟨rfl, rfl⟩
            go_wp2_with fail
            go_ret2
            exact ⟨p, by rw [hb1.out]; rfl, fun _ => rfl, bE.out.trans ((Drawn.more _).below _)⟩
        · have gL : ((L : Int) == 1) = false := by simp; omega
          have hb1 := Lib.hid (show b = false by cases hq : b with | false => rfl | true => exact absurd (HF.out.1 (HB.out.1 hq)).1 hL1)
          clear hL1
          go_wp2_with fail
          go_ret2
          exact ⟨p, by rw [hb1.out]; rfl, fun _ => rfl, bE.out.trans ((Drawn.more _).below _)⟩
end Go.Proofs.Ytjpfcdgaepdcdaa

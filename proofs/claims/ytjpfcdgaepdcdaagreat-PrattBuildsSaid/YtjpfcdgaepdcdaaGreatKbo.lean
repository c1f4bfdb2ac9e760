/- Several texts in one; each begins with a remark that says what it shows and on which conditions. -/
import Derived.Test.YtjpfcdgaepdcdaaGreatKbn
import Derived.Test.YtjpfcdgaepdcdaaGreatKaa
import Derived.Test.YtjpfcdgaepdcdaaGreatKay
import Derived.Deep.LoopGhost
import Derived.Deep.RegionWith
import Derived.RangeFuncBox
/- rho's first and Split. Conditions: as typed (words). -/
namespace Go.Proofs.YtjpfcdgaepdcdaaGreat
open Go.RowKit
set_option maxRecDepth 20000
/-- What stands in first's variable: nothing yet, with so many steps ahead of which one shows a factor; or what that has shown. -/
def FirstMid (n c k x y d R : Nat) : Prop := (d ≤ 1 ∧ ¬ ClearS n c k x y ∧ splitS n c k x y = R) ∨ (1 < d ∧ d ≤ n ∧ foundS n d = R)
theorem FirstMid.pos {n c k x y d R : Nat} (h : FirstMid n c k x y d R) (hd : d ≤ 1) : ∃ k', k = k' + 1 := by
  rcases h with ⟨_, h, _⟩ | ⟨h, _⟩
  · cases k with
    | zero => exact absurd (ClearS.zero _ _ _ _) h
    | succ k => exact ⟨k, rfl⟩
  · omega
theorem FirstMid.step {n c k x y d R x' y' d' : Nat} (hn : 0 < n) (h : FirstMid n c (k + 1) x y d R) (hd : d ≤ 1) (hx : rowS n c x = x') (hy : rowS n c (rowS n c y) = y') (hd' : Nat.gcd (distS x' y') n = d') : FirstMid n c k x' y' d' R := by
  rcases h with ⟨_, h1, h2⟩ | ⟨h, _⟩
  · rw [splitS_step hx rfl hy hd'] at h2
    obtain ⟨p1, p2⟩ := gcd_pos10 hn hd'
    by_cases h3 : 1 < d'
    · rw [if_pos h3] at h2
      exact .inr ⟨h3, p2, h2⟩
    · rw [if_neg h3] at h2
      refine .inl ⟨by omega, fun hc => h1 fun j hj => ?_, h2⟩
      cases j with
      | zero =>
        show Nat.gcd (distS (rowS n c x) (rowS n c (rowS n c y))) n = 1
        rw [hx, hy, hd']
        omega
      | succ j =>
        have := hc j (by omega)
        rw [← hx, ← hy] at this
        exact this
  · omega
set_option maxHeartbeats 8000000 in
theorem first10 (g n c x y R K : Nat) (w : World) (RI : RowIn g w n c x y) (hg : g < w.heap.size) (hx : x < n) (hy : y < n) (hn : n < 18446744073709551616) (hc : c < 18446744073709551616) (hK : ¬ ClearS n c K x y) (hR : splitS n c K x y = R) (b : Bool) (hb : b = true ↔ R ≠ 0) :
    Calls Tryz.prog 59 #[.pointer (some ⟨g, 0, none⟩)] w fun e w' => e = .returned (.tuple #[.int .u64 R, .bool b]) ∧ Below g w w' := by
  have HRI := Lib.hid RI
  have HB := Lib.hid hb
  have HF := Lib.hid (show FirstMid n c K x y 0 R from .inl ⟨by omega, hK, hR⟩)
  clear RI hb hK hR
  go_enter Tryz.func59, Tryz.ntmps59
  go_wp2_with fail
  go_loopg [2] K (fun k dv wr => ∃ d x y : Nat, dv = .int .u64 d ∧ x < n ∧ y < n ∧ d < 18446744073709551616 ∧ g < wr.heap.size ∧ Hid (RowIn g wr n c x y) ∧ Hid (Below g w wr) ∧ Hid (FirstMid n c k x y d R))
  case atStart => exact ⟨0, x, y, rfl, hx, hy, by omega, hg, HRI, Lib.hid (Below.refl _ _), HF⟩
  case round =>
    clear HRI HF hx hy hg
    obtain ⟨d, x, y, rfl, hx, hy, hdl, hg, HRI, HBe, HF⟩ := hrel
    by_cases hd : d ≤ 1
    · obtain ⟨k', hk'⟩ := HF.out.pos hd
      have HK := Lib.hid hk'
      have g1 : decide ((d : Int) ≤ 1) = true := by simp; omega
      obtain ⟨x', hx'⟩ : ∃ x', rowS n c x = x' := ⟨_, rfl⟩
      obtain ⟨y', hy'⟩ : ∃ y', rowS n c (rowS n c y) = y' := ⟨_, rfl⟩
      obtain ⟨D, hD⟩ : ∃ D, distS x' y' = D := ⟨_, rfl⟩
      obtain ⟨d', hd'⟩ : ∃ d', Nat.gcd D n = d' := ⟨_, rfl⟩
      have hn0 : 0 < n := by omega
      have hx'l : x' < n := by rw [← hx']; exact rowS_lt hn0
      have hy'l : y' < n := by rw [← hy']; exact rowS_lt hn0
      have hDl : D < n := by rw [← hD]; exact dist_lt10 hx'l hy'l
      have hd'l := (gcd_pos10 hn0 hd').2
      have HF' := Lib.hid (show FirstMid n c k' x' y' d' R from by
        have := HF.out
        rw [hk'] at this
        exact this.step hn0 hd hx' hy' (by rw [hD]; exact hd'))
      have C1 := Lib.hid (step10 g n c x y x' y' wr HRI.out hx hy hn hc hx' hy')
      have C2 := Lib.hid (fun (u : World) (h : Hid (RowIn g u n c x' y')) => distance10 g n c x' y' D u h.out hx'l hy'l hn hD)
      have C3 := Lib.hid (fun u : World => common10 D n d' u (by omega) hn0 hn hd')
      clear hk' hx' hy' hD hd' HF
      go_wp2_with fail
      refine (C1.out).mono ?_
      rintro e w1 ⟨rfl, hR1, hO1⟩
      have HR1 := Lib.hid hR1
      have HR1d := Lib.hid (hR1.drawn (w' := w1.drew) ⟨1, rfl⟩)
      have HB1 := Lib.hid (HBe.out.trans (hO1.below (Nat.le_refl _)))
      have hg1 : g < w1.heap.size := by rw [hO1.size]; exact hg
      have k0 := hR1.c0
      clear hR1 hO1 HBe HRI
      go_wp2_with fail
      go_region_with (first
        | (go_at_call 57; refine (C2.out w1.drew HR1d).mono ?_; rintro e wa ⟨rfl, hda⟩; have HRa := Lib.hid (HR1d.out.drawn hda); have HBa := Lib.hid (HB1.out.drew.trans ((Only.drawn g hda).below (Nat.le_refl _))); have hga := (show g < wa.heap.size from (by rw [(Only.drawn g hda).size]; exact hg1)); have ka := HRa.out.c0; clear hda)
        | (go_at_call 58; refine (C3.out wa).mono ?_; rintro e wb ⟨rfl, hbb⟩; have HRb := Lib.hid (HRa.out.below hbb hga); have HBb := Lib.hid (HBa.out.trans (hbb.mono (Nat.le_of_lt hga))); have hgb : g < wb.heap.size := Nat.lt_of_lt_of_le hga hbb.size; clear hbb))
      all_goals go_wp2_with fail
      all_goals go_roundg k'
      all_goals first
        | exact ⟨d', x', y', rfl, hx'l, hy'l, by omega, hgb, HRb, HBb, HF'⟩
        | (have := HK.out; omega)
    · have g1 : decide ((d : Int) ≤ 1) = false := by simp; omega
      have hv := (show d ≤ n ∧ foundS n d = R from by
        rcases HF.out with ⟨h, _⟩ | ⟨_, h, h2⟩
        · omega
        · exact ⟨h, h2⟩)
      obtain ⟨hdn, hv⟩ := hv
      have k0 := HRI.out.c0
      clear HF HRI
      by_cases hlt : d < n
      · have g2 : ((d : Int) == (n : Int)) = false := by simp; omega
        have hv2 := Lib.hid (show R = d by rw [← hv]; unfold foundS; rw [if_pos hlt])
        have hbv := Lib.hid (show b = true from HB.out.2 (by rw [hv2.out]; omega))
        clear hv
        go_wp2_with fail
        go_ret2
        exact ⟨by rw [hv2.out, hbv.out]; rfl, HBe.out⟩
      · have g2 : ((d : Int) == (n : Int)) = true := by simp; omega
        have hv2 := Lib.hid (show R = 0 by rw [← hv]; unfold foundS; rw [if_neg hlt])
        have hbv := Lib.hid (show b = false by cases hq : b with | false => rfl | true => exact absurd hv2.out (HB.out.1 hq))
        clear hv
        go_wp2_with fail
        go_ret2
        exact ⟨by rw [hv2.out, hbv.out]; rfl, HBe.out⟩
theorem RowIn.new (w : World) (n c x y : Nat) (t : TypeId) : RowIn w.heap.size (w.alloc (.cells #[.int .u64 (n : Int), .int .u64 (c : Int), .int .u64 (x : Int), .int .u64 (y : Int)] t)) n c x y :=
  ⟨World.cell?_alloc_at _ _ _ _ rfl, World.cell?_alloc_at _ _ _ _ rfl, World.cell?_alloc_at _ _ _ _ rfl, World.cell?_alloc_at _ _ _ _ rfl, World.frozen?_alloc_at _ _ _ _ rfl, World.frozen?_alloc_at _ _ _ _ rfl⟩
set_option maxHeartbeats 8000000 in
theorem split10 (n c : Nat) (most : Int) (hn : n < 18446744073709551616) (hc : c < 18446744073709551616) (hm : -9223372036854775808 ≤ most ∧ most ≤ 9223372036854775807) (R : Nat) (hR : splitD n c most = R) (b : Bool) (hb : b = true ↔ R ≠ 0) (w : World) :
    Calls Tryz.prog 35 #[.int .u64 n, .int .u64 c, .int .i64 most] w fun e w' => e = .returned (.tuple #[.int .u64 R, .bool b]) ∧ Below w.heap.size w w' := by
  have HB := Lib.hid hb
  unfold splitD at hR
  by_cases h4 : n < 4
  · rw [if_pos h4] at hR
    have g4 : decide ((n : Int) < 4) = true := by simp; omega
    have hv := Lib.hid hR.symm
    have hbv := Lib.hid (show b = false by cases hq : b with | false => rfl | true => exact absurd hR.symm (hb.1 hq))
    clear hb hR
    go_enter Tryz.func35, Tryz.ntmps35
    go_wp2_with fail
    go_ret2
    exact ⟨by rw [hv.out, hbv.out]; rfl, Below.refl _ _⟩
  · rw [if_neg h4] at hR
    have g4 : decide ((n : Int) < 4) = false := by simp; omega
    obtain ⟨s0, hs0⟩ : ∃ s0, min most 1048576 = s0 := ⟨_, rfl⟩
    rw [hs0] at hR
    have hs1 : s0 ≤ 1048576 := by omega
    have hs2 : -9223372036854775808 ≤ s0 := by omega
    have HR := Lib.hid hR
    clear hb hR
    go_enter Tryz.func35, Tryz.ntmps35
    go_wp2_with fail
    have HRI := Lib.hid (RowIn.new w n c 2 2 88)
    have HBe := Lib.hid ((Below.refl w.heap.size w).alloc (Nat.le_refl _) (.cells #[.int .u64 (n : Int), .int .u64 (c : Int), .int .u64 ((2 : Nat) : Int), .int .u64 ((2 : Nat) : Int)] 88))
    have hgs : w.heap.size < (w.alloc (.cells #[.int .u64 (n : Int), .int .u64 (c : Int), .int .u64 2, .int .u64 2] 88)).heap.size := by simp
    go_loopw [9] (fun sv wr => ∃ (s : Int) (X Y : Nat), sv = .int .i64 s ∧ s ≤ 1048576 ∧ -9223372036854775808 ≤ s ∧ X < n ∧ Y < n ∧ w.heap.size < wr.heap.size ∧ Hid (RowIn w.heap.size wr n c X Y) ∧ Hid (Below w.heap.size w wr) ∧ Hid (splitS n c s.toNat X Y = R)) (fun sv _ => (intOf sv).toNat)
    case atStart => exact ⟨s0, 2, 2, rfl, hs1, hs2, by omega, by omega, hgs, HRI, HBe, HR⟩
    case round =>
      clear HRI HBe HR hgs hs1 hs2
      obtain ⟨s, X, Y, rfl, hs1, hs2, hX, hY, hgs, HRI, HBe, HR⟩ := hrel
      by_cases hpos : 0 < s
      · have g5 : decide ((0 : Int) < s) = true := by simp; omega
        have k0 := HRI.out.c0
        have k1 := HRI.out.c1
        have k2 := HRI.out.c2
        have k3 := HRI.out.c3
        obtain ⟨m, hm⟩ : ∃ m : Nat, min s 64 = (m : Int) := ⟨(min s 64).toNat, by omega⟩
        have hm64 : m ≤ 64 := by omega
        have HS := Lib.hid (show s.toNat = m + (s - 64).toNat by omega)
        have hsl := Lib.hid (show (s - 64).toNat < s.toNat by omega)
        go_wp2_with fail
        obtain ⟨w1, hw1⟩ : ∃ w1, wr.alloc (.cells #[.int .u64 (n : Int), .int .u64 (c : Int), .int .u64 (X : Int), .int .u64 (Y : Int)] 88) = w1 := ⟨_, rfl⟩
        have HR1 := Lib.hid (show RowIn w.heap.size w1 n c X Y by rw [← hw1]; exact HRI.out.below ((Below.refl wr.heap.size wr).alloc (Nat.le_refl _) _) hgs)
        have HR2 := Lib.hid (show RowIn wr.heap.size w1 n c X Y by rw [← hw1]; exact RowIn.new wr n c X Y _)
        have HB1 := Lib.hid (show Below w.heap.size w w1 by rw [← hw1]; exact HBe.out.alloc (Nat.le_of_lt hgs) _)
        have hg2 : wr.heap.size < w1.heap.size := by rw [← hw1]; simp
        have HGS := Lib.hid hgs
        rw [hw1]
        clear hw1 HRI HBe k0 k1 k2 k3 hm
        obtain ⟨g2, hg2e⟩ : ∃ g2, wr.heap.size = g2 := ⟨_, rfl⟩
        rw [hg2e] at HR2 hg2 HGS
        rw [hg2e]
        clear hg2e hgs
        go_loopw [11, 26] (fun pv iv wr => ∃ P i X' Y' : Nat, pv = .int .u64 P ∧ iv = .int .i64 i ∧ i ≤ m ∧ P < n ∧ X' < n ∧ Y' < n ∧ g2 < wr.heap.size ∧ Hid (itX n c i X = X' ∧ itY n c i Y = Y') ∧ Hid (RowIn w.heap.size wr n c X' Y') ∧ Hid (RowIn g2 wr n c X Y) ∧ Hid (Below w.heap.size w wr) ∧ Hid (ProdS n c i X Y P)) (fun _ iv _ => m - (intOf iv).toNat)
        case atStart => exact ⟨1, 0, X, Y, rfl, rfl, Nat.zero_le _, by omega, hX, hY, hg2, Lib.hid ⟨rfl, rfl⟩, HR1, HR2, HB1, Lib.hid (ProdS.start n c X Y)⟩
        case round =>
          clear HR1 HR2 HB1 hg2
          obtain ⟨P, i, X', Y', rfl, rfl, him, hP, hX', hY', hg2, HIT, HR1, HR2, HB1, HPr⟩ := hrel
          by_cases hlt : i < m
          · have g6 : decide ((i : Int) < (m : Int)) = true := by simp; omega
            obtain ⟨X2, hX2⟩ : ∃ x, rowS n c X' = x := ⟨_, rfl⟩
            obtain ⟨Y2, hY2⟩ : ∃ y, rowS n c (rowS n c Y') = y := ⟨_, rfl⟩
            obtain ⟨D, hD⟩ : ∃ D, distS X2 Y2 = D := ⟨_, rfl⟩
            obtain ⟨P2, hP2⟩ : ∃ p, P * D % n = p := ⟨_, rfl⟩
            have hn0 : 0 < n := by omega
            have hX2l : X2 < n := by rw [← hX2]; exact rowS_lt hn0
            have hY2l : Y2 < n := by rw [← hY2]; exact rowS_lt hn0
            have hDl : D < n := by rw [← hD]; exact dist_lt10 hX2l hY2l
            have hP2l : P2 < n := by rw [← hP2]; exact Nat.mod_lt _ hn0
            have HIT2 := Lib.hid (show itX n c (i + 1) X = X2 ∧ itY n c (i + 1) Y = Y2 by
              rw [itX_last, itY_last, HIT.out.1, HIT.out.2]
              exact ⟨hX2, hY2⟩)
            have HPr2 := Lib.hid (show ProdS n c (i + 1) X Y P2 by
              have := HPr.out.step
              rw [HIT2.out.1, HIT2.out.2, hD, hP2] at this
              exact this)
            have C1 := Lib.hid (step10 w.heap.size n c X' Y' X2 Y2 wr HR1.out hX' hY' hn hc hX2 hY2)
            have C2 := Lib.hid (fun (u : World) (h : Hid (RowIn w.heap.size u n c X2 Y2)) => distance10 w.heap.size n c X2 Y2 D u h.out hX2l hY2l hn hD)
            have C3 := Lib.hid (fun u : World => times10 P D n P2 u hP hn (by omega) hP2)
            clear hX2 hY2 hD hP2 HPr HIT
            go_wp2_with fail
            refine (C1.out).mono ?_
            rintro e w2 ⟨rfl, hR3, hO3⟩
            have HR3 := Lib.hid hR3
            have HR4 := Lib.hid (HR2.out.only hO3 (by have := HGS.out; omega))
            have HB3 := Lib.hid (HB1.out.trans (hO3.below (Nat.le_refl _)))
            have hg3 : g2 < w2.heap.size := by rw [hO3.size]; exact hg2
            clear hR3 hO3 HR1 HR2 HB1 hg2
            go_wp2_with fail
            refine (C2.out w2 HR3).mono ?_
            rintro e w3 ⟨rfl, hd⟩
            have HR5 := Lib.hid (HR3.out.drawn hd)
            have HR6 := Lib.hid (HR4.out.drawn hd)
            have HB5 := Lib.hid (HB3.out.trans ((Only.drawn w.heap.size hd).below (Nat.le_refl _)))
            have hg5 : g2 < w3.heap.size := by rw [(Only.drawn g2 hd).size]; exact hg3
            clear hd HR3 HR4 HB3 hg3
            go_wp2_with fail
            refine (C3.out w3).mono ?_
            rintro e w4 ⟨rfl, hd⟩
            have HR7 := Lib.hid (HR5.out.drawn hd)
            have HR8 := Lib.hid (HR6.out.drawn hd)
            have HB7 := Lib.hid (HB5.out.trans ((Only.drawn w.heap.size hd).below (Nat.le_refl _)))
            have hg7 : g2 < w4.heap.size := by rw [(Only.drawn g2 hd).size]; exact hg5
            clear hd HR5 HR6 HB5 hg5
            go_wp2_with fail
            go_roundw
            case rel => exact ⟨P2, i + 1, X2, Y2, rfl, by go_num, by omega, hP2l, hX2l, hY2l, hg7, HIT2, HR7, HR8, HB7, HPr2⟩
            case measure => simp [intOf]; omega
          · have g6 : decide ((i : Int) < (m : Int)) = false := by simp; omega
            obtain rfl : i = m := by omega
            obtain ⟨d, hd⟩ : ∃ d, Nat.gcd P n = d := ⟨_, rfl⟩
            have hn0 : 0 < n := by omega
            have hdl := (gcd_pos10 hn0 hd)
            have C4 := Lib.hid (common10 P n d wr (by omega) hn0 hn hd)
            have HD := Lib.hid hd
            clear hd
            by_cases hd1 : 1 < d
            · have g7 : decide ((1 : Int) < (d : Int)) = true := by simp; omega
              have hcl : ¬ ClearS n c i X Y := fun h => by have := HPr.out.2 h; have := HD.out; omega
              have hRi : splitS n c i X Y = R := by rw [← HR.out, HS.out, splitS_hit hn0 _ _ _ _ hcl]
              have C5 := Lib.hid (fun (u : World) (h : Hid (RowIn g2 u n c X Y)) (hg : g2 < u.heap.size) => first10 g2 n c X Y R i u h.out hg hX hY hn hc hcl hRi b HB.out)
              clear hcl hRi HR HPr HIT
              go_wp2_with fail
              refine (C4.out).mono ?_
              rintro e w2 ⟨rfl, hb2⟩
              have HR3 := Lib.hid (HR2.out.below hb2 hg2)
              have HB3 := Lib.hid (HB1.out.trans (hb2.mono (by have := HB1.out.size; omega)))
              have hg3 : g2 < w2.heap.size := Nat.lt_of_lt_of_le hg2 hb2.size
              clear hb2
              go_wp2_with fail
              refine (C5.out w2 HR3 hg3).mono ?_
              rintro e w3 ⟨rfl, hb3⟩
              have HB4 := Lib.hid (HB3.out.trans (hb3.mono (by have := HGS.out; omega)))
              clear hb3
              go_wp2_with fail
              go_ret2
              exact ⟨rfl, HB4.out⟩
            · have g7 : decide ((1 : Int) < (d : Int)) = false := by simp; omega
              have hcl : ClearS n c i X Y := HPr.out.1 (by have := HD.out; omega)
              have HRi := Lib.hid (show splitS n c (s - 64).toNat X' Y' = R by
                rw [← HR.out, HS.out, splitS_clear _ _ _ _ hcl, HIT.out.1, HIT.out.2])
              clear hcl HR HPr HIT
              go_wp2_with fail
              refine (C4.out).mono ?_
              rintro e w2 ⟨rfl, hb2⟩
              have HR3 := Lib.hid (HR1.out.below hb2 (by have := HGS.out; omega))
              have HB3 := Lib.hid (HB1.out.trans (hb2.mono (by have := HB1.out.size; omega)))
              have hg3 : w.heap.size < w2.heap.size := Nat.lt_of_lt_of_le (by have := HGS.out; omega) hb2.size
              clear hb2
              go_wp2_with fail
              go_roundw
              case rel => exact ⟨s - 64, X', Y', rfl, by omega, by omega, hX', hY', hg3, HR3, HB3, HRi⟩
              case measure => exact hsl.out
      · have g5 : decide ((0 : Int) < s) = false := by simp; omega
        have hv := Lib.hid (show R = 0 by rw [← HR.out, show s.toNat = 0 by omega]; rfl)
        have hbv := Lib.hid (show b = false by cases hq : b with | false => rfl | true => exact absurd hv.out (HB.out.1 hq))
        clear HR
        go_wp2_with fail
        go_ret2
        exact ⟨by rw [hv.out, hbv.out]; rfl, HBe.out⟩
end Go.Proofs.YtjpfcdgaepdcdaaGreat
/- Appending one number to a row of the call's own: the row stands where it stood, or in a new block. Conditions: as typed. -/
namespace Go.Proofs.YtjpfcdgaepdcdaaGreat
open Go.RowKit
section
variable {P : Program} (w : World)
theorem run_append_sep10 (base : Nat) (t ty e : TypeId) (i : TypeInfo) (z : Value) (bytes : Nat) (ht : P.underlying t = some (.slice e)) (hi : P.info? e = some i) (hz : i.zero = some z)
    (hsize : i.size = 1) (hby : i.bytes = bytes) (hzs : z.cells.size = 1)
    (v : Value) (n : Nat) (xs : List Value) (hown : w.ownsRow base e 1 v n xs)
    (a : Addr) (u : Value) (hu : w.cell? (a.add 0) = some u) (h1 : u.oneCell' = true)
    (h63 : n + 1 ≤ maxLen) (hbytes : (n + 1) * bytes ≤ 140737488355328) (hbase : base ≤ w.heap.size) :
    ∃ v' w', (Builtin.append_ #[t, t] ty #[v, .slice (some a) 1 1]).run P w = .ok v' w' ∧ w'.ownsRow base e 1 v' (n + 1) (xs ++ [u]) ∧ w.grownBy w' v.ownBlock ∧
      (v'.ownBlock = v.ownBlock ∨ ∃ g, v'.ownBlock = some g ∧ w.heap.size ≤ g) := by
  have hnews : ∀ j y, [u][j]? = some y → w.cell? (a.add j) = some y := fun j y hy => by
    cases j with
    | zero => simp at hy; subst hy; exact hu
    | succ j => simp at hy
  have hone : ∀ y ∈ [u], y.oneCell' = true := fun y hy => by rw [List.mem_singleton.1 hy]; exact h1
  obtain ⟨v', w', hr, ho, hg, _⟩ := run_append_own (P := P) w base t ty e i z 1 bytes ht hi hz hsize hby hzs (by omega) v n xs hown a 1 1 [u] rfl hnews hone h63 hbytes hbase
  refine ⟨v', w', hr, ho, hg, ?_⟩
  rcases hown.2 with ⟨rfl, rfl⟩ | ⟨g, cap, cur, rfl, hbg, hgg, hnc, hcm, hcs, htake⟩
  · have hx : xs = [] := List.eq_nil_of_length_eq_zero (by simpa using hown.1)
    subst hx
    obtain ⟨v2, w2, hr2, ho2, _, _⟩ := run_append_own (P := P) w w.heap.size t ty e i z 1 bytes ht hi hz hsize hby hzs (by omega) (.slice none 0 0) 0 [] (World.ownsRow_nil _ _ _ _) a 1 1 [u] rfl hnews hone h63 hbytes (Nat.le_refl _)
    rw [hr] at hr2
    injection hr2 with e1 e2
    subst e1
    rcases ho2.2 with ⟨_, h0⟩ | ⟨g, cap, cur, rfl, hbg, _⟩
    · omega
    · exact .inr ⟨g, rfl, hbg⟩
  · by_cases hroom : n + 1 ≤ cap
    · have hr2 := run_append_room (P := P) w t ty e i ht hi g n cap cur hgg a 1 1 [u] (by rw [hsize]; rfl) hnews hone hroom (by rw [hsize, hcs]; simp; omega)
      rw [hr] at hr2
      injection hr2 with e1 e2
      subst e1
      exact .inl rfl
    · have hr2 := run_append_grow (P := P) w t ty e i z ht hi hz ⟨g, 0, none⟩ n cap xs (by rw [hsize]; exact hown.1) (hown.cells (g := g) rfl) a 1 1 [u] (by rw [hsize]; rfl) hnews (by omega) (by simp only [maxLen] at h63; omega) (growslice_fits (by omega) (by rw [hby]; exact hbytes))
      rw [hr] at hr2
      injection hr2 with e1 e2
      subst e1
      exact .inr ⟨_, rfl, Nat.le_refl _⟩
theorem wpList_append_sep10 {ops : Array Oper} {rest : List Oper} {o : Oper} {a : Act} {Q : Exit → Act → World → Prop} (hgd : o.guard = none) (s x : Operand) (t : TypeId)
    (ho : o.op = .call { callee := .builtin .append, args := #[s, x], argTypes := #[t, t] })
    (base : Nat) (e : TypeId) (i : TypeInfo) (z : Value) (bytes : Nat) (ht : P.underlying t = some (.slice e)) (hi : P.info? e = some i) (hz : i.zero = some z)
    (hsize : i.size = 1) (hby : i.bytes = bytes) (hzs : z.cells.size = 1)
    (v : Value) (n : Nat) (k : IntKind) (ys : List Nat) (hs : a.eval s = v) (hown : w.ownsRow base e 1 v n (ints k ys)) (X : Int) (y : Nat) (hX : X = (y : Int))
    (hx : a.eval x = .slice (some ⟨w.heap.size, 0, none⟩) 1 1)
    (h63 : n + 1 ≤ maxLen) (hbytes : (n + 1) * bytes ≤ 140737488355328) (hbase : base ≤ w.heap.size)
    (h : ∀ v' w', w'.ownsRow base e 1 v' (n + 1) (ints k (ys ++ [y])) → w.grownBy w' v.ownBlock → (v'.ownBlock = v.ownBlock ∨ ∃ g, v'.ownBlock = some g ∧ w.heap.size ≤ g) → wpList P ops Q rest (a.put o.dst v') w') : wpList P ops Q (o :: rest) a (w.alloc (.cells #[.int k X] e)) := by
  subst hX
  refine wpList_plain hgd fun K hK => ?_
  obtain ⟨v', w', hr, h2, h3, h4⟩ := run_append_sep10 (P := P) (w.alloc (.cells #[.int k (y : Int)] e)) base t o.type e i z bytes ht hi hz hsize hby hzs v n (ints k ys) (hown.alloc _) ⟨w.heap.size, 0, none⟩ (.int k (y : Int)) (by simp [Addr.add_lit]) rfl h63 hbytes (by simp; omega)
  unfold Oper.wp execOp
  simp only [ho, resolve, invoke, builtin, Sem.run_bind, Sem.run_pure, Result.andThen_ok, List.map_toArray, List.map_cons, List.map_nil, hs, hx, hr]
  refine hK _ _ (h v' w' (by rw [ints_append]; exact h2) ⟨h3.os, h3.tape, h3.output, Nat.le_trans (by simp) h3.size, fun q hq hne => (h3.block q (by simp; omega) hne).trans (Below.heap_alloc _ _ _ hq)⟩ ?_)
  rcases h4 with h4 | ⟨g, hg, hl⟩
  · exact .inl h4
  · exact .inr ⟨g, hg, by simp at hl; omega⟩
end
end Go.Proofs.YtjpfcdgaepdcdaaGreat
/- prime.Is of each word: whatever it takes, it takes all primes, and below 2^32 no other number. No condition but those typed. -/
namespace Go.Proofs.YtjpfcdgaepdcdaaGreat
open Go.RowKit
set_option maxRecDepth 20000
/-- What prime.Is takes: no number from 2 to 64 divides it, and it passes to its bases. -/
def IsW (n : Nat) : Prop := IsTrial n 64 0 ∧ ProbD n (bases9 n)
theorem isW_none {n : Nat} (h : IsTrial n 64 0) : IsW n ↔ ProbD n (bases9 n) := ⟨fun k => k.2, fun k => ⟨h, k⟩⟩
theorem isTrial_prm {n : Nat} (h : Prm n) : IsTrial n 64 0 := by
  obtain ⟨r, hr⟩ := isTrial_some n 64
  rcases Nat.eq_zero_or_pos r with h0 | h0
  · rw [h0] at hr; exact hr
  · exact absurd h (not_prm_tried hr (by omega))
theorem isW_small : ∀ x, x < 4294967296 → (IsW x ↔ Prm x) := fun _ hx =>
  ⟨fun h => (prob_bases9 hx).1 h.2, fun h => ⟨isTrial_prm h, (prob_bases9 hx).2 h⟩⟩
theorem isW_prm {x : Nat} (h : Prm x) : IsW x := by
  refine ⟨isTrial_prm h, ?_⟩
  by_cases h2 : x = 2
  · exact .inl h2
  · have h3 : 3 ≤ x := by have := h.1; omega
    have ho := prm_odd9 h h3
    have m2 : 2 ∈ bases9 x := by unfold bases9; split <;> simp
    refine .inr ⟨⟨2, m2, by rw [Nat.mod_eq_of_lt (by omega)]; omega⟩, fun y _ hz => ⟨h3, ho, h.pass ho fun hd => hz ⟨by omega, Nat.mod_eq_zero_of_dvd hd⟩⟩⟩
set_option maxHeartbeats 1000000 in
theorem is_word9 (n : Nat) (hn : n < 18446744073709551616) (b : Bool) (hb : b = true ↔ IsW n) (w : World) : Calls Tryz.prog 15 #[.int .u64 n] w fun e w' => e = .returned (.bool b) ∧ Below w.heap.size w w' := by
  obtain ⟨r, hr⟩ := isTrial_some n 64
  have hrn : r < 18446744073709551616 := by
    rcases hr with ⟨h, _⟩ | ⟨_, _, _, h, _⟩ <;> omega
  have hT : ∀ (b' : Bool), (b' = true ↔ r ≠ 0) → ∀ (u : World) (X : Option Addr) (q d : Nat), NatIs u X q d n → Calls Tryz.prog 30 #[.slice X q d, .int .u64 64] u fun e w' => e = .returned (.tuple #[.int .u64 r, .bool b']) ∧ Below u.heap.size u w' := fun b' hb' u X q d S =>
    trial_any (natIs_row9 S) (by have := natIs_len8 (K := 1) S (by have := nbits_of_lt n 64 (by omega); omega); omega) 64 r (by omega) (by rw [natOf_wd, if_pos rfl]; exact hr) b' hb'
  have HO := Lib.hid (bOf w n (by omega))
  by_cases h0 : r = 0
  · subst h0
    have HT := Lib.hid (hT false ⟨fun h => (by cases h), fun h => absurd rfl h⟩)
    have HP := Lib.hid (show ∀ (u : World) (X A2 : Option Addr) (q d c2 : Nat), NatIs u X q d n → Rd .u64 u u.heap.size A2 (bases9 n) → (bases9 n).length ≤ c2 → Calls Tryz.prog 31 #[.slice X q d, .slice A2 (bases9 n).length c2] u fun e w' => e = .returned (.bool b) ∧ Below u.heap.size u w' from
      fun u X A2 q d c2 S hR hc => probable_any9 S (by have := nbits_of_lt n 64 (by omega); omega) hR (bases_words9 n) (by have := bases_length9 n; omega) hc b (hb.trans (isW_none hr)))
    clear hT hr hb
    go_enter Tryz.func15, Tryz.ntmps15
    go_wp2_with fail
    refine (HO.out).mono ?_
    rintro e w1 ⟨X, q, d, rfl, S1, _, b1⟩
    have HS1 := Lib.hid S1
    clear S1
    go_wp2_with fail
    refine (HT.out w1 X q d HS1.out).mono ?_
    rintro e w2 ⟨rfl, b2⟩
    have B2 := below_step b1 b2
    have HS2 := Lib.hid (HS1.out.step b2)
    go_wp2_with fail
    refine (deciding_any n w2).mono ?_
    rintro e w3 ⟨A2, c2, rfl, hR, hc, b3⟩
    have B3 := below_step B2 b3
    have HPP := Lib.hid (HP.out w3 X A2 q d c2 (HS2.out.step b3) hR hc)
    have hbl := bases_length9 n
    obtain ⟨k, hk⟩ : ∃ k, (bases9 n).length = k := ⟨_, rfl⟩
    rw [hk] at HPP hbl hc
    rw [hk]
    clear hR
    go_wp2_with fail
    refine (HPP.out).mono ?_
    rintro e w4 ⟨rfl, b4⟩
    go_wp2_with fail
    go_ret
    exact ⟨rfl, below_step B3 b4⟩
  · have HT := Lib.hid (hT true ⟨fun _ => h0, fun _ => rfl⟩)
    have hbf : b = false := by
      rcases h : b with _ | _
      · rfl
      · exact absurd (isTrial_uniq hr (hb.1 h).1) h0
    subst hbf
    clear hT hr hb
    go_enter Tryz.func15, Tryz.ntmps15
    go_wp2_with fail
    refine (HO.out).mono ?_
    rintro e w1 ⟨X, q, d, rfl, S1, _, b1⟩
    have HS1 := Lib.hid S1
    clear S1
    go_wp2_with fail
    refine (HT.out w1 X q d HS1.out).mono ?_
    rintro e w2 ⟨rfl, b2⟩
    go_wp2_with fail
    go_ret
    exact ⟨rfl, below_step b1 b2⟩
end Go.Proofs.YtjpfcdgaepdcdaaGreat
/- rho's tried; and the two lists that Factors fills, in memory: put. Conditions: as typed (words). -/
namespace Go.Proofs.YtjpfcdgaepdcdaaGreat
open Go.RowKit
set_option maxRecDepth 20000
/-! Trying -/
structure TriedMid (N : Nat) (ls : List Nat) (m : Nat) : Prop where
  all : prodN ls * m = N
  primes : ∀ p ∈ ls, Prm p
  pos : 0 < m
theorem TriedMid.few {N : Nat} {ls : List Nat} {m : Nat} (h : TriedMid N ls m) (hN : N < 18446744073709551616) : ls.length < 64 :=
  prodN_len (fun p hp => (h.primes p hp).1) (Nat.lt_of_le_of_lt (by rw [← h.all]; exact Nat.le_mul_of_pos_right _ h.pos) hN)
theorem TriedMid.le {N : Nat} {ls : List Nat} {m : Nat} (h : TriedMid N ls m) (h0 : 0 < N) : m ≤ N := Nat.le_of_dvd h0 (by rw [← h.all]; exact Nat.dvd_mul_left _ _)
theorem isTrial_prm10 {m most r : Nat} (h : IsTrial m most r) (h0 : r ≠ 0) : Prm r ∧ m % r = 0 ∧ 2 ≤ r ∧ r < m := by
  rcases h with ⟨h, _⟩ | ⟨h1, _, _, h4, h5, h6⟩
  · exact absurd h h0
  · exact ⟨NoneBelow.at_ (m := m) (fun e h7 h8 => h6 e h7 h8) h1 h5, h5, h1, h4⟩
theorem TriedMid.take {N : Nat} {ls : List Nat} {m r : Nat} (h : TriedMid N ls m) (hr : Prm r) (hz : m % r = 0) (hl : r ≤ m) : TriedMid N (ls ++ [r]) (m / r) where
  all := by rw [prodN_append, prodN_one, Nat.mul_assoc, Nat.mul_div_cancel' (Nat.dvd_of_mod_eq_zero hz)]; exact h.all
  primes := fun p hp => by
    rcases List.mem_append.1 hp with h1 | h1
    · exact h.primes p h1
    · rw [List.mem_singleton.1 h1]; exact hr
  pos := Nat.div_pos hl (by have := hr.1; omega)
/-- What the call owns stays so where nothing that is there turns. -/
theorem own_keep10 {w w' : World} {base n : Nat} {e : TypeId} {v : Value} {xs : List Value} (h : w.ownsRow base e 1 v n xs) (b : Below w.heap.size w w') : w'.ownsRow base e 1 v n xs :=
  h.kept (row := none) ⟨b.os, b.tape, b.output, b.size, fun k hk _ => b.block k hk⟩ (by cases v.ownBlock <;> simp)
set_option maxHeartbeats 8000000 in
theorem tried10 (N : Nat) (h0 : 0 < N) (hN : N < 18446744073709551616) (w : World) :
    Calls Tryz.prog 33 #[.int .u64 N] w fun e w' => ∃ ls m X d, e = .returned (.tuple #[.slice X ls.length d, .int .u64 ((m : Nat) : Int)]) ∧ TriedMid N ls m ∧ IsTrial m 65535 0 ∧ w'.ownsRow w.heap.size 27 1 (.slice X ls.length d) ls.length (ints .u64 ls) ∧ Below w.heap.size w w' := by
  obtain ⟨i0, hi, hz0, hz1, hz2⟩ := info_parts num_info_u64
  have HO := Lib.hid (fun (u : World) (m : Nat) (hm : m < 18446744073709551616) => bOf u m hm)
  have HT := Lib.hid (fun (m r : Nat) (b' : Bool) (u : World) (X : Option Addr) (q d : Nat) (hm : m < 18446744073709551616) (hr : Hid (IsTrial m 65535 r)) (hb' : Hid (b' = true ↔ r ≠ 0)) (S : Hid (NatIs u X q d m)) =>
    trial_any (natIs_row9 S.out) (by have := NatIs.few10 S.out hm; omega) 65535 r (by omega) (by rw [natOf_wd, if_pos rfl]; exact hr.out) b' hb'.out)
  obtain ⟨r0, hr0⟩ := isTrial_some N 65535
  have HR0 := Lib.hid hr0
  obtain ⟨b0, hb0⟩ : ∃ b : Bool, b = true ↔ r0 ≠ 0 := ⟨decide (r0 ≠ 0), by simp⟩
  have HB0 := Lib.hid hb0
  have HTr := Lib.hid (show TriedMid N [] N from ⟨by rw [prodN_nil, Nat.one_mul], by simp, h0⟩)
  clear hr0 hb0
  go_enter Tryz.func33, Tryz.ntmps33
  go_wp2_with fail
  refine (HO.out w N hN).mono ?_
  rintro e w1 ⟨X, q, d, rfl, S1, _, b1⟩
  have HS1 := Lib.hid S1
  have HB1 := Lib.hid b1
  clear S1 b1
  go_wp2_with fail
  refine (HT.out N r0 b0 w1 X q d hN HR0 HB0 HS1).mono ?_
  rintro e w2 ⟨rfl, b2⟩
  have HB2 := Lib.hid (below_step HB1.out b2)
  clear b2
  go_wp2_with fail
  go_loopw [0, 2, 4, 5] (fun nv fv dv bv wr => ∃ (m r : Nat) (b : Bool) (ys : List Nat), nv = .int .u64 m ∧ dv = .int .u64 r ∧ bv = .bool b ∧ m ≤ N ∧ Hid (IsTrial m 65535 r) ∧ Hid (b = true ↔ r ≠ 0) ∧ Hid (TriedMid N ys m) ∧ wr.ownsRow w.heap.size 27 1 fv ys.length (ints .u64 ys) ∧ Hid (Below w.heap.size w wr)) (fun nv _ _ _ _ => (intOf nv).toNat)
  case atStart => exact ⟨N, r0, b0, [], rfl, rfl, rfl, Nat.le_refl _, HR0, HB0, HTr, World.ownsRow_nil _ _ _ _, HB2⟩
  case round =>
    clear HR0 HB0 HTr HB1 HB2 HS1
    obtain ⟨m, r, b, ys, rfl, rfl, rfl, hmN, HR, HB, HTr, hown, HBe⟩ := hrel
    by_cases hr : r = 0
    · obtain rfl : b = false := by cases b with | false => rfl | true => exact absurd hr (HB.out.1 rfl)
      have HR2 := Lib.hid (show IsTrial m 65535 0 by rw [← hr]; exact HR.out)
      obtain ⟨X3, e3, rfl, _, _⟩ := own_form hown
      have HOwn := Lib.hid hown
      clear hr hown
      go_wp2_with fail
      go_ret2
      exact ⟨ys, m, X3, e3, rfl, HTr.out, HR2.out, HOwn.out, HBe.out⟩
    · obtain rfl : b = true := HB.out.2 hr
      obtain ⟨hp, hz, hr2, hrm⟩ := isTrial_prm10 HR.out hr
      obtain ⟨m', hm'⟩ : ∃ m', m / r = m' := ⟨_, rfl⟩
      have hmI : (m : Int) / (r : Int) = (m' : Int) := by rw [← hm']; simp
      have hrz : ((r : Int) == 0) = false := by simp; omega
      have hm'l : m' < m := by rw [← hm']; exact Nat.div_lt_self (by omega) (by omega)
      have HTr2 := Lib.hid (show TriedMid N (ys ++ [r]) m' by rw [← hm']; exact HTr.out.take hp hz (Nat.le_of_lt hrm))
      have hyl := HTr.out.few hN
      obtain ⟨r2, hr2'⟩ := isTrial_some m' 65535
      have HR2 := Lib.hid hr2'
      obtain ⟨b2, hb2⟩ : ∃ b : Bool, b = true ↔ r2 ≠ 0 := ⟨decide (r2 ≠ 0), by simp⟩
      have HB2 := Lib.hid hb2
      have hle : (ys ++ [r]).length = ys.length + 1 := by simp
      have hsz := HBe.out.size
      clear hr2' hb2 hm' hp hz HTr HR HB
      go_wp2_with (at_builtin; refine wpList_append_one _ rfl _ _ 24 rfl w.heap.size 27 i0 (.int .u64 0) 8 Tryz.underlying24 hi hz0 hz1 hz2 rfl _ _ .u64 ys rfl hown _ r rfl rfl (by unfold maxLen; omega) (by omega) hsz ?_)
      intro v3 w3 own3 _ b3
      rw [← hle] at own3
      have HB3 := Lib.hid (HBe.out.trans b3)
      have HOwn := Lib.hid own3
      clear own3 b3 hown HBe
      go_wp2_with fail
      refine (HO.out w3 m' (by omega)).mono ?_
      rintro e w4 ⟨X4, q4, d4, rfl, S4, _, b4⟩
      have HS4 := Lib.hid S4
      have HB4 := Lib.hid (below_step HB3.out b4)
      have HOwn4 := Lib.hid (own_keep10 HOwn.out b4)
      clear S4 b4
      go_wp2_with fail
      refine (HT.out m' r2 b2 w4 X4 q4 d4 (by omega) HR2 HB2 HS4).mono ?_
      rintro e w5 ⟨rfl, b5⟩
      have HB5 := Lib.hid (below_step HB4.out b5)
      have own5 := own_keep10 HOwn4.out b5
      clear b5
      go_wp2_with fail
      go_roundw
      case rel => exact ⟨m', r2, b2, ys ++ [r], rfl, rfl, rfl, by omega, HR2, HB2, HTr2, own5, HB5⟩
      case measure => simp [intOf]; omega
end Go.Proofs.YtjpfcdgaepdcdaaGreat
/- The two lists that rho's Factors fills, in memory, and its function put. Conditions: as typed (words; no more than a thousand numbers in a list). -/
namespace Go.Proofs.YtjpfcdgaepdcdaaGreat
open Go.RowKit
set_option maxRecDepth 20000
theorem boxed_set10 {w : World} {g t : Nat} {v : Value} (h : Boxed w g t v) (v' : Value) : Boxed (w.setCell ⟨g, 0, none⟩ v') g t v' := by
  show (w.heap.modify g _)[g]? = _
  rw [Array.getElem?_modify, if_pos rfl, show w.heap[g]? = _ from h]
  rfl
/-- A row of numbers is not a box of slices. -/
theorem own_box_ne10 {w : World} {base n g : Nat} {v u : Value} {xs : List Value} (h : w.ownsRow base 27 1 v n xs) (b : Boxed w g 24 u) : v.ownBlock ≠ some g := by
  rcases h.2 with ⟨rfl, _⟩ | ⟨k, cap, cur, rfl, _, hh, _⟩
  · simp [Value.ownBlock]
  · intro e
    simp only [Value.ownBlock, Option.some.injEq] at e
    subst e
    unfold Boxed at b
    rw [hh] at b
    injection b with b
    injection b with _ e2
    cases e2
theorem own_set10 {w : World} {base n g i : Nat} {v u : Value} {xs : List Value} (h : w.ownsRow base 27 1 v n xs) (hne : v.ownBlock ≠ some g) : (w.setCell ⟨g, i, none⟩ u).ownsRow base 27 1 v n xs :=
  h.kept (row := some g) ⟨rfl, rfl, rfl, by simp [World.setCell], fun k _ hk => Below.heap_setCell _ _ _ _ (fun e => hk (by rw [e]))⟩ (by
    cases hv : v.ownBlock with
    | none => exact .inl rfl
    | some k => exact .inr (by rw [← hv]; exact hne))
/-- The two lists: the boxes' blocks, what stands in them, the rows. -/
structure FacAt (w0 : World) (gL gU : Nat) (wr : World) (vL vU : Value) (ls us : List Nat) : Prop where
  bL : Boxed wr gL 24 vL
  bU : Boxed wr gU 24 vU
  oL : wr.ownsRow w0.heap.size 27 1 vL ls.length (ints .u64 ls)
  oU : wr.ownsRow w0.heap.size 27 1 vU us.length (ints .u64 us)
  apart : ∀ k, vL.ownBlock = some k → vU.ownBlock ≠ some k
  ne : gL ≠ gU
  lo : w0.heap.size ≤ gL ∧ w0.heap.size ≤ gU
  be : Below w0.heap.size w0 wr
section
variable {w0 wr w' : World} {gL gU : Nat} {vL vU : Value} {ls us : List Nat}
theorem FacAt.swap (P : FacAt w0 gL gU wr vL vU ls us) : FacAt w0 gU gL wr vU vL us ls :=
  ⟨P.bU, P.bL, P.oU, P.oL, fun k h1 h2 => P.apart k h2 h1, P.ne.symm, ⟨P.lo.2, P.lo.1⟩, P.be⟩
theorem FacAt.keep (P : FacAt w0 gL gU wr vL vU ls us) (b : Below wr.heap.size wr w') : FacAt w0 gL gU w' vL vU ls us :=
  ⟨(b.block gL P.bL.lt).trans P.bL, (b.block gU P.bU.lt).trans P.bU, own_keep10 P.oL b, own_keep10 P.oU b, P.apart, P.ne, P.lo, P.be.trans (b.mono P.be.size)⟩
/-- Behind an append to the first list, and its store. -/
theorem FacAt.put (P : FacAt w0 gL gU wr vL vU ls us) {w2 : World} {v' : Value} {ls' : List Nat} (o : w2.ownsRow w0.heap.size 27 1 v' ls'.length (ints .u64 ls')) (hg : wr.grownBy w2 vL.ownBlock) (hs : v'.ownBlock = vL.ownBlock ∨ ∃ g, v'.ownBlock = some g ∧ wr.heap.size ≤ g) :
    Boxed w2 gL 24 vL ∧ FacAt w0 gL gU (w2.setCell ⟨gL, 0, none⟩ v') v' vU ls' us := by
  have hL := own_box_ne10 P.oL P.bL
  have hU := own_box_ne10 P.oL P.bU
  have k1 : Boxed w2 gL 24 vL := (hg.block gL P.bL.lt (fun e => hL e.symm)).trans P.bL
  have k2 : Boxed w2 gU 24 vU := (hg.block gU P.bU.lt (fun e => hU e.symm)).trans P.bU
  have o2 : w2.ownsRow w0.heap.size 27 1 vU us.length (ints .u64 us) := P.oU.kept hg (by
    cases hv : vU.ownBlock with
    | none => exact .inl rfl
    | some k => exact .inr (fun e => P.apart k e.symm hv))
  refine ⟨k1, boxed_set10 k1 v', ?_, own_set10 o (own_box_ne10 o k1), own_set10 o2 (own_box_ne10 o2 k1), fun k h1 h2 => ?_, P.ne, P.lo, ?_⟩
  · exact (Below.heap_setCell _ _ _ _ (fun e => P.ne e.symm)).trans k2
  · rcases hs with h | ⟨g, h, hlt⟩
    · exact P.apart k (h ▸ h1) h2
    · rw [h1] at h
      injection h with h
      have := (P.oU.lt k h2).2
      omega
  · refine (P.be.grown hg P.be.size (fun k hk => (P.oL.lt k hk).1)).setCell P.lo.1 _
end
/-- What put makes of a number: nothing of 1; it goes to the first list if it passes, else to the other one. -/
def PutIs (part : Nat) (ls us ls' us' : List Nat) : Prop := (part = 1 ∧ ls' = ls ∧ us' = us) ∨ (part ≠ 1 ∧ IsW part ∧ ls' = ls ++ [part] ∧ us' = us) ∨ (part ≠ 1 ∧ ¬ IsW part ∧ ls' = ls ∧ us' = us ++ [part])
set_option maxHeartbeats 8000000 in
theorem put10 (w0 : World) (gL gU : Nat) (wr : World) (vL vU : Value) (ls us : List Nat) (P : FacAt w0 gL gU wr vL vU ls us) (part : Nat) (hp : part < 18446744073709551616) (hl : ls.length ≤ 1000) (hu : us.length ≤ 1000) :
    Calls Tryz.prog 34 #[.int .u64 part, .pointer (some ⟨gL, 0, none⟩), .pointer (some ⟨gU, 0, none⟩)] wr fun e w' => e = .returned (.tuple #[]) ∧ ∃ vL' vU' ls' us', FacAt w0 gL gU w' vL' vU' ls' us' ∧ PutIs part ls us ls' us' := by
  obtain ⟨i0, hi, hz0, hz1, hz2⟩ := info_parts num_info_u64
  have HP := Lib.hid P
  by_cases h1 : part = 1
  · have g1 : ((part : Int) == 1) = true := by simp; omega
    have H1 := Lib.hid h1
    clear h1 P
    go_enter Tryz.func34, Tryz.ntmps34
    go_wp2_with fail
    go_end0
    exact ⟨rfl, vL, vU, ls, us, HP.out, .inl ⟨H1.out, rfl, rfl⟩⟩
  · have g1 : ((part : Int) == 1) = false := by simp; omega
    have H1 := Lib.hid h1
    by_cases hW : IsW part
    · have HI := Lib.hid (is_word9 part hp true ⟨fun _ => hW, fun _ => rfl⟩ wr)
      have HW := Lib.hid hW
      clear h1 P hW
      go_enter Tryz.func34, Tryz.ntmps34
      go_wp2_with fail
      refine (HI.out).mono ?_
      rintro e w1 ⟨rfl, b1⟩
      have HP1 := Lib.hid (HP.out.keep b1)
      have k1 := HP1.out.bL.cell
      have own1 := HP1.out.oL
      have hsz := HP1.out.be.size
      have hle : (ls ++ [part]).length = ls.length + 1 := by simp
      clear b1
      go_wp2_with (at_builtin; refine wpList_append_sep10 _ rfl _ _ 24 rfl w0.heap.size 27 i0 (.int .u64 0) 8 Tryz.underlying24 hi hz0 hz1 hz2 rfl vL _ .u64 ls rfl own1 _ part rfl rfl (by unfold maxLen; omega) (by omega) hsz ?_)
      intro v2 w2 own2 hgr hsep
      rw [← hle] at own2
      obtain ⟨kb, hP2⟩ := HP1.out.put own2 hgr hsep
      obtain ⟨X2, c2, rfl, _, _⟩ := own_form own2
      have k2 := kb.cell
      have f2 := kb.frozen
      have HP2 := Lib.hid hP2
      clear own2 hgr hsep kb hP2 own1 k1
      go_wp2_with fail
      go_end0
      have HP3 := HP2.out
      rw [hle] at HP3
      exact ⟨rfl, _, vU, _, us, HP3, .inr (.inl ⟨H1.out, HW.out, rfl, rfl⟩)⟩
    · have HI := Lib.hid (is_word9 part hp false ⟨fun h => (Bool.false_ne_true h).elim, fun h => absurd h hW⟩ wr)
      have HW := Lib.hid hW
      clear h1 P hW
      go_enter Tryz.func34, Tryz.ntmps34
      go_wp2_with fail
      refine (HI.out).mono ?_
      rintro e w1 ⟨rfl, b1⟩
      have HP1 := Lib.hid (HP.out.keep b1).swap
      have k1 := HP1.out.bL.cell
      have own1 := HP1.out.oL
      have hsz := HP1.out.be.size
      have hle : (us ++ [part]).length = us.length + 1 := by simp
      clear b1
      go_wp2_with (at_builtin; refine wpList_append_sep10 _ rfl _ _ 24 rfl w0.heap.size 27 i0 (.int .u64 0) 8 Tryz.underlying24 hi hz0 hz1 hz2 rfl vU _ .u64 us rfl own1 _ part rfl rfl (by unfold maxLen; omega) (by omega) hsz ?_)
      intro v2 w2 own2 hgr hsep
      rw [← hle] at own2
      obtain ⟨kb, hP2⟩ := HP1.out.put own2 hgr hsep
      obtain ⟨X2, c2, rfl, _, _⟩ := own_form own2
      have k2 := kb.cell
      have f2 := kb.frozen
      have HP2 := Lib.hid hP2.swap
      clear own2 hgr hsep kb hP2 own1 k1
      go_wp2_with fail
      go_end0
      have HP3 := HP2.out
      rw [hle] at HP3
      exact ⟨rfl, vL, _, ls, _, HP3, .inr (.inr ⟨H1.out, HW.out, rfl, rfl⟩)⟩
end Go.Proofs.YtjpfcdgaepdcdaaGreat

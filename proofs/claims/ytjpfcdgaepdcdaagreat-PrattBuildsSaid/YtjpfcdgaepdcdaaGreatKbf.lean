/- Several texts in one; each begins with a remark that says what it shows and on which conditions. -/
import Derived.Test.YtjpfcdgaepdcdaaGreatKbe
/- slices.Sort's parts at []uint64: siftDownOrdered, heapSortOrdered, reverseRangeOrdered. Conditions: the row lies in a block that was there, and has fewer than 2^62 elements. -/
namespace Go.Proofs.YtjpfcdgaepdcdaaGreat
open Go.RowKit Go.Sort
set_option maxRecDepth 20000
section
variable {lt : Int → Int → Bool}
theorem siftDown_out7 {hi f r : Nat} {d : Array Int} (h : ¬ 2 * r + 1 < hi) : siftDown lt hi f r d = d := by rw [siftDown, dif_pos (by omega)]
theorem siftDown_in7 {hi f r c : Nat} {d : Array Int} (h : 2 * r + 1 < hi) (hc : (c = 2 * r + 2 ∧ 2 * r + 2 < hi ∧ lt d[f + (2 * r + 1)]! d[f + (2 * r + 1) + 1]! = true) ∨ (c = 2 * r + 1 ∧ (¬ 2 * r + 2 < hi ∨ lt d[f + (2 * r + 1)]! d[f + (2 * r + 1) + 1]! = false))) :
    siftDown lt hi f r d = if lt d[f + r]! d[f + c]! = true then siftDown lt hi f c (swp d (f + r) (f + c)) else d := by
  rw [siftDown, dif_neg (by omega)]
  rcases hc with ⟨rfl, h1, h2⟩ | ⟨rfl, h1⟩
  · rw [if_pos (by simp [h1, h2])]
    cases hl : lt d[f + r]! d[f + (2 * r + 2)]! with
    | true => rw [if_neg (by simp), dif_pos h1, if_pos rfl]
    | false => rw [if_pos (by simp), if_neg (by simp)]
  · rw [if_neg (by rcases h1 with h1 | h1 <;> simp [h1])]
    cases hl : lt d[f + r]! d[f + (2 * r + 1)]! with
    | true => rw [if_neg (by simp), if_pos rfl]
    | false => rw [if_pos (by simp), if_neg (by simp)]
theorem reverseLoop_go7 {i j : Nat} {d : Array Int} (h : i < j) : reverseLoop i j d = reverseLoop (i + 1) (j - 1) (swp d i j) := by rw [reverseLoop, if_pos h]
theorem reverseLoop_stop7 {i j : Nat} {d : Array Int} (h : ¬ i < j) : reverseLoop i j d = d := by rw [reverseLoop, if_neg h]
end
set_option maxHeartbeats 8000000 in
theorem reverseRange7 (blk off cap n a b : Nat) (d : Array Int) (w : World) (H : RowOf w blk off d) (hn : d.size = n) (hab : a < b) (hb : b ≤ n) :
    Calls Tryz.prog 89 #[.slice (some ⟨blk, off, none⟩) n cap, .int .i64 a, .int .i64 b] w fun e w' => e = .returned (.tuple #[]) ∧ RowG w blk off d w' (reverseRange d a b) := by
  subst hn
  have HH := Lib.hid H
  have hsz := H.fits
  clear H
  go_enter Tryz.func89, Tryz.ntmps89
  go_wp2_with fail
  go_loopw [6, 7] (fun vi vj wr => ∃ (i j : Nat) (dk : Array Int), vi = .int .i64 i ∧ vj = .int .i64 j ∧ a ≤ i ∧ j < b ∧ i ≤ j + 1 ∧ Hid (RowG w blk off d wr dk) ∧ Hid (reverseLoop i j dk = reverseLoop a (b - 1) d)) (fun _ vj _ => (intOf7 vj).toNat)
  case atStart => exact ⟨a, b - 1, d, rfl, by congr 1; omega, by omega, by omega, by omega, Lib.hid (RowG.self HH.out), Lib.hid rfl⟩
  case round =>
    obtain ⟨i, j, dk, rfl, rfl, hai, hjb, hij, HR, HO⟩ := hrel
    have hsk := HR.out.1
    obtain ⟨G, HG, hcw, hfw⟩ := (HR.out.of HH.out).cells
    rw [hsk] at hcw hfw
    by_cases hlt : i < j
    · have HO2 := Lib.hid ((reverseLoop_go7 hlt).symm.trans HO.out)
      clear HO
      go_wp2_with fail
      go_region
      all_goals go_wp2_with fail
      go_roundw
      case rel => exact ⟨i + 1, j - 1, swp dk i j, by go_num, by congr 1; omega, by omega, by omega, by omega, Lib.hid (HR.out.swap HH.out HG 1 i j (by omega) (by omega)), HO2⟩
      case measure => simp [intOf7]; omega
    · go_wp2_with fail
      go_end0
      exact ⟨rfl, by unfold reverseRange; rw [← HO.out, reverseLoop_stop7 hlt]; exact HR.out⟩
set_option maxHeartbeats 16000000 in
theorem siftDown7 (blk off cap n lo hi f : Nat) (d : Array Int) (w : World) (H : RowOf w blk off d) (hn : d.size = n) (hlo : lo ≤ n) (hb : f + hi ≤ n) :
    Calls Tryz.prog 114 #[.slice (some ⟨blk, off, none⟩) n cap, .int .i64 lo, .int .i64 hi, .int .i64 f] w fun e w' => e = .returned (.tuple #[]) ∧ RowG w blk off d w' (siftDown ltInt hi f lo d) := by
  subst hn
  have HH := Lib.hid H
  have hsz := H.fits
  clear H
  go_enter Tryz.func114, Tryz.ntmps114
  go_wp2_with fail
  go_loopw [8] (fun vi wr => ∃ (r : Nat) (dk : Array Int), vi = .int .i64 r ∧ r ≤ d.size ∧ Hid (RowG w blk off d wr dk) ∧ Hid (siftDown ltInt hi f r dk = siftDown ltInt hi f lo d)) (fun vi _ => hi - (intOf7 vi).toNat)
  case atStart => exact ⟨lo, d, rfl, hlo, Lib.hid (RowG.self HH.out), Lib.hid rfl⟩
  case round =>
    obtain ⟨r, dk, rfl, hr, HR, HO⟩ := hrel
    have hsk := HR.out.1
    obtain ⟨G, HG, hcw, hfw⟩ := (HR.out.of HH.out).cells
    rw [hsk] at hcw hfw
    obtain ⟨c1, hc1⟩ : ∃ c1, 2 * r + 1 = c1 := ⟨_, rfl⟩
    have hc1I : 2 * (r : Int) + 1 = (c1 : Int) := by omega
    by_cases hlt : c1 < hi
    · obtain ⟨c2, hc2⟩ : ∃ c2, c1 + 1 = c2 := ⟨_, rfl⟩
      have hc2I : (c1 : Int) + 1 = (c2 : Int) := by omega
      obtain ⟨x1, hx1⟩ : ∃ x, f + c1 = x := ⟨_, rfl⟩
      have hx1I : (f : Int) + (c1 : Int) = (x1 : Int) := by omega
      obtain ⟨x0, hx0⟩ : ∃ x, f + r = x := ⟨_, rfl⟩
      have hx0I : (f : Int) + (r : Int) = (x0 : Int) := by omega
      obtain ⟨x2, hx2⟩ : ∃ x, f + c2 = x := ⟨_, rfl⟩
      have hx2I : (f : Int) + (c2 : Int) = (x2 : Int) := by omega
      have hx3I : (x1 : Int) + 1 = (x2 : Int) := by omega
      have hx0l : x0 < d.size := by omega
      have hx1l : x1 < d.size := by omega
      have hw0 : IntKind.i64.wrap (x0 : Int) = (x0 : Int) := IntWalk.i64_in _ (by omega)
      have hw1 : IntKind.i64.wrap (x1 : Int) = (x1 : Int) := IntWalk.i64_in _ (by omega)
      have hw2 : IntKind.i64.wrap (x2 : Int) = (x2 : Int) := IntWalk.i64_in _ (by omega)
      by_cases hA1 : c2 < hi
      · have hx2l : x2 < d.size := by omega
        have g1 : decide ((c2 : Int) < (hi : Int)) = true := by simp; omega
        cases hA2 : ltInt (G x1) (G x2) with
        | true =>
          have hE := siftDown_in7 (lt := ltInt) (hi := hi) (r := r) (f := f) (d := dk) (c := c2) (by omega) (.inl ⟨by omega, by omega, by rw [hc1, hx1, ← HG.out, show x1 + 1 = x2 by omega, ← HG.out]; exact hA2⟩)
          rw [HO.out, hx0, hx2, ← HG.out, ← HG.out] at hE
          have HE := Lib.hid hE
          have hM : hi - c2 < hi - r := by omega
          clear hE HO hc1 hc2 hx0 hx1 hx2
          go_wp2_with fail
          go_quiet ((go_at_call 91; refine Calls.quiet_of_same (less7 _ _ _)))
          go_wp2_with fail
          have HR2 := Lib.hid (HR.out.drew nq)
          have hcw2 : ∀ t, t < d.size → (wr.drewN nq).cell? ⟨blk, off + t, none⟩ = some (.int .u64 (G t)) := hcw
          have hfw2 : ∀ t, t < d.size → (wr.drewN nq).frozen? ⟨blk, off + t, none⟩ = false := hfw
          clear hcw hfw
          generalize wr.drewN nq = wr2 at HR2 hcw2 hfw2 ⊢
          go_quiet ((go_at_call 91; refine Calls.quiet_of_same (less7 _ _ _)))
          go_wp2_with fail
          · have hl : ltInt (G x0) (G x2) = false := by
              have h : (!ltInt (G x0) (G x2)) = true := by assumption
              simpa using h
            refine bodyPost_ret (results_none rfl _ _ _) rfl ?_
            exact ⟨rfl, by rw [HE.out, if_neg (by rw [hl]; simp)]; exact HR2.out.drew _⟩
          · have hl : ltInt (G x0) (G x2) = true := by
              have h : (!ltInt (G x0) (G x2)) = false := by assumption
              simpa using h
            go_region
            all_goals go_wp2_with fail
            go_roundw
            case rel => exact ⟨c2, swp dk x0 x2, rfl, by omega, Lib.hid (HR2.out.swap HH.out HG _ x0 x2 (by omega) (by omega)), Lib.hid (by rw [HE.out, if_pos hl])⟩
            case measure => simp [intOf7]; omega
        | false =>
          have hE := siftDown_in7 (lt := ltInt) (hi := hi) (r := r) (f := f) (d := dk) (c := c1) (by omega) (.inr ⟨by omega, .inr (by rw [hc1, hx1, ← HG.out, show x1 + 1 = x2 by omega, ← HG.out]; exact hA2)⟩)
          rw [HO.out, hx0, hx1, ← HG.out, ← HG.out] at hE
          have HE := Lib.hid hE
          have hM : hi - c1 < hi - r := by omega
          clear hE HO hc1 hc2 hx0 hx1 hx2
          go_wp2_with fail
          go_quiet ((go_at_call 91; refine Calls.quiet_of_same (less7 _ _ _)))
          go_wp2_with fail
          have HR2 := Lib.hid (HR.out.drew nq)
          have hcw2 : ∀ t, t < d.size → (wr.drewN nq).cell? ⟨blk, off + t, none⟩ = some (.int .u64 (G t)) := hcw
          have hfw2 : ∀ t, t < d.size → (wr.drewN nq).frozen? ⟨blk, off + t, none⟩ = false := hfw
          clear hcw hfw
          generalize wr.drewN nq = wr2 at HR2 hcw2 hfw2 ⊢
          go_quiet ((go_at_call 91; refine Calls.quiet_of_same (less7 _ _ _)))
          go_wp2_with fail
          · have hl : ltInt (G x0) (G x1) = false := by
              have h : (!ltInt (G x0) (G x1)) = true := by assumption
              simpa using h
            refine bodyPost_ret (results_none rfl _ _ _) rfl ?_
            exact ⟨rfl, by rw [HE.out, if_neg (by rw [hl]; simp)]; exact HR2.out.drew _⟩
          · have hl : ltInt (G x0) (G x1) = true := by
              have h : (!ltInt (G x0) (G x1)) = false := by assumption
              simpa using h
            go_region
            all_goals go_wp2_with fail
            go_roundw
            case rel => exact ⟨c1, swp dk x0 x1, rfl, by omega, Lib.hid (HR2.out.swap HH.out HG _ x0 x1 (by omega) (by omega)), Lib.hid (by rw [HE.out, if_pos hl])⟩
            case measure => simp [intOf7]; omega
      · have g1 : decide ((c2 : Int) < (hi : Int)) = false := by simp; omega
        have hE := siftDown_in7 (lt := ltInt) (hi := hi) (r := r) (f := f) (d := dk) (c := c1) (by omega) (.inr ⟨by omega, .inl (by omega)⟩)
        rw [HO.out, hx0, hx1, ← HG.out, ← HG.out] at hE
        have HE := Lib.hid hE
        have hM : hi - c1 < hi - r := by omega
        clear hE HO hc1 hc2 hx0 hx1 hx2
        go_wp2_with fail
        go_quiet ((go_at_call 91; refine Calls.quiet_of_same (less7 _ _ _)))
        go_wp2_with fail
        have HR2 := Lib.hid (HR.out.drew nq)
        have hcw2 : ∀ t, t < d.size → (wr.drewN nq).cell? ⟨blk, off + t, none⟩ = some (.int .u64 (G t)) := hcw
        have hfw2 : ∀ t, t < d.size → (wr.drewN nq).frozen? ⟨blk, off + t, none⟩ = false := hfw
        clear hcw hfw
        generalize wr.drewN nq = wr2 at HR2 hcw2 hfw2 ⊢
        go_quiet ((go_at_call 91; refine Calls.quiet_of_same (less7 _ _ _)))
        go_wp2_with fail
        · have hl : ltInt (G x0) (G x1) = false := by
            have h : (!ltInt (G x0) (G x1)) = true := by assumption
            simpa using h
          refine bodyPost_ret (results_none rfl _ _ _) rfl ?_
          exact ⟨rfl, by rw [HE.out, if_neg (by rw [hl]; simp)]; exact HR2.out.drew _⟩
        · have hl : ltInt (G x0) (G x1) = true := by
            have h : (!ltInt (G x0) (G x1)) = false := by assumption
            simpa using h
          go_region
          all_goals go_wp2_with fail
          go_roundw
          case rel => exact ⟨c1, swp dk x0 x1, rfl, by omega, Lib.hid (HR2.out.swap HH.out HG _ x0 x1 (by omega) (by omega)), Lib.hid (by rw [HE.out, if_pos hl])⟩
          case measure => simp [intOf7]; omega
    · go_wp2_with fail
      go_end0
      exact ⟨rfl, by rw [← HO.out, siftDown_out7 (by omega)]; exact HR.out⟩
set_option maxHeartbeats 16000000 in
theorem heapSort7 (blk off cap n a b : Nat) (d : Array Int) (w : World) (H : RowOf w blk off d) (hn : d.size = n) (hab : a < b) (hb : b ≤ n) :
    Calls Tryz.prog 86 #[.slice (some ⟨blk, off, none⟩) n cap, .int .i64 a, .int .i64 b] w fun e w' => e = .returned (.tuple #[]) ∧ RowG w blk off d w' (heapSort ltInt d a b) := by
  have HN := Lib.hid hn
  have HH := Lib.hid H
  have hsz := H.fits
  rw [hn] at hsz
  clear H hn
  obtain ⟨h, hh⟩ : ∃ h, b - a = h + 1 := ⟨b - a - 1, by omega⟩
  have hhI : (b : Int) - (a : Int) = (h : Int) + 1 := by omega
  obtain ⟨k0, hk0⟩ : ∃ k, h / 2 = k := ⟨_, rfl⟩
  have hk0I : (h : Int) / 2 = (k0 : Int) := by omega
  have hk0T : (h : Int).tdiv 2 = (k0 : Int) := by rw [Int.tdiv_eq_ediv_of_nonneg (by omega)]; omega
  go_enter Tryz.func86, Tryz.ntmps86
  go_wp2_with fail
  go_loopw [9] (fun vi wr => ∃ (k : Nat) (dk : Array Int), vi = .int .i64 ((k : Int) - 1) ∧ k ≤ k0 + 1 ∧ Hid (RowG w blk off d wr dk) ∧ Hid (heapBuild ltInt (h + 1) a k dk = heapBuild ltInt (h + 1) a (k0 + 1) d)) (fun vi _ => (intOf7 vi + 1).toNat)
  case atStart => exact ⟨k0 + 1, d, by rw [show ((k0 + 1 : Nat) : Int) - 1 = (k0 : Int) by omega], Nat.le_refl _, Lib.hid (RowG.self HH.out), Lib.hid rfl⟩
  case round =>
    obtain ⟨k, dk, rfl, hk, HR, HO⟩ := hrel
    rcases k with _ | k
    · have e0 : ((0 : Nat) : Int) - 1 = -1 := rfl
      rw [e0]
      go_wp2_with fail
      go_loopw [10] (fun vi wr => ∃ (k : Nat) (dk : Array Int), vi = .int .i64 ((k : Int) - 1) ∧ k ≤ h + 1 ∧ Hid (RowG w blk off d wr dk) ∧ Hid (heapPop ltInt a k dk = heapSort ltInt d a b)) (fun vi _ => (intOf7 vi + 1).toNat)
      case atStart => exact ⟨h + 1, dk, by rw [show ((h + 1 : Nat) : Int) - 1 = (h : Int) by omega], Nat.le_refl _, HR, Lib.hid (by unfold heapSort; rw [hh, Nat.add_sub_cancel, hk0, ← HO.out]; rfl)⟩
      case round =>
        clear HO HR
        obtain ⟨k, dk, rfl, hk, HR, HO⟩ := hrel
        rcases k with _ | k
        · rw [e0]
          go_wp2_with fail
          go_end0
          exact ⟨rfl, by rw [← HO.out]; exact HR.out⟩
        · have e1 : ((k + 1 : Nat) : Int) - 1 = (k : Int) := by omega
          rw [e1]
          have hsk := HR.out.1.trans HN.out
          obtain ⟨G, HG, hcw, hfw⟩ := (HR.out.of HH.out).cells
          rw [hsk] at hcw hfw
          obtain ⟨x, hx⟩ : ∃ x, a + k = x := ⟨_, rfl⟩
          have hxI : (a : Int) + (k : Int) = (x : Int) := by omega
          have hw0 : IntKind.i64.wrap (x : Int) = (x : Int) := IntWalk.i64_in _ (by omega)
          have hxl : x < n := by omega
          have hal : a < n := by omega
          have HX := Lib.hid hx
          clear hx
          have HK := Lib.hid (show ∀ w2, Hid (RowG w blk off d w2 (swp dk a x)) → Calls Tryz.prog 114 #[.slice (some ⟨blk, off, none⟩) n cap, .int .i64 0, .int .i64 k, .int .i64 a] w2 fun e w' => e = .returned (.tuple #[]) ∧ Hid (RowG w blk off d w' (siftDown ltInt k a 0 (swp dk a (a + k)))) from fun w2 HR2 =>
            (siftDown7 blk off cap n 0 k a (swp dk a x) w2 (HR2.out.of HH.out) (HR2.out.1.trans HN.out) (by omega) (by omega)).mono fun e w' ⟨h1, h2⟩ => ⟨h1, Lib.hid (by rw [HX.out]; exact HR2.out.trans HH.out h2)⟩)
          have HJ := Lib.hid (show heapPop ltInt a k (siftDown ltInt k a 0 (swp dk a (a + k))) = heapSort ltInt d a b from by rw [← HO.out]; rfl)
          clear HO
          rcases Nat.eq_zero_or_pos k with h0 | h0
          · obtain rfl : a = x := by have := HX.out; omega
            have HK0 := Lib.hid (show ∀ w2, Hid (RowG w blk off d w2 (swp dk a a)) → Calls Tryz.prog 114 #[.slice (some ⟨blk, off, none⟩) n cap, .int .i64 0, .int .i64 0, .int .i64 a] w2 fun e w' => e = .returned (.tuple #[]) ∧ Hid (RowG w blk off d w' (siftDown ltInt k a 0 (swp dk a (a + k)))) from fun w2 h => by
              have h2 := HK.out w2 h
              rw [h0] at h2 ⊢
              exact h2)
            clear HK
            go_wp2_with fail
            go_region
            all_goals go_wp2_with fail
            have HR2 := Lib.hid (HR.out.swapD HH.out HG a a (by omega) (by omega))
            refine (HK0.out _ HR2).mono ?_
            rintro e w' ⟨rfl, HR3⟩
            clear HR2
            go_wp2_with fail
            go_roundw
            case rel => exact ⟨k, _, by rw [h0]; rfl, by omega, HR3, HJ⟩
            case measure => simp [intOf7] <;> omega
          · have hax : a < x := by have := HX.out; omega
            go_wp2_with fail
            go_region
            all_goals go_wp2_with fail
            have HR2 := Lib.hid (HR.out.swapD HH.out HG a x (by omega) (by omega))
            refine (HK.out _ HR2).mono ?_
            rintro e w' ⟨rfl, HR3⟩
            clear HR2
            go_wp2_with fail
            go_roundw
            case rel => exact ⟨k, _, rfl, by omega, HR3, HJ⟩
            case measure => simp [intOf7] <;> omega
    · have e1 : ((k + 1 : Nat) : Int) - 1 = (k : Int) := by omega
      rw [e1]
      go_wp2_with fail
      refine (siftDown7 blk off cap n k (h + 1) a dk wr (HR.out.of HH.out) (HR.out.1.trans HN.out) (by omega) (by omega)).mono ?_
      rintro e w' ⟨rfl, hR2⟩
      have HR2 := Lib.hid (HR.out.trans HH.out hR2)
      clear hR2
      go_wp2_with fail
      go_roundw
      case rel => exact ⟨k, _, rfl, by omega, HR2, HO⟩
      case measure => simp [intOf7] <;> omega
end Go.Proofs.YtjpfcdgaepdcdaaGreat

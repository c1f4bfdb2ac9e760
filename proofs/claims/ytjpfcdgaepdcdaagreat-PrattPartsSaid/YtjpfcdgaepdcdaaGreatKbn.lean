/- Several texts in one; each begins with a remark that says what it shows and on which conditions. -/
import Derived.Test.YtjpfcdgaepdcdaaGreatKbl
/- slices.Sort's parts at []uint64: partialInsertionSortOrdered. Conditions: the row lies in a block that was there, and has fewer than 2^62 elements. -/
namespace Go.Proofs.YtjpfcdgaepdcdaaGreat
open Go.RowKit Go.Sort
set_option maxRecDepth 20000
section
variable {lt : Int → Int → Bool}
theorem scanSorted_go7 {d : Array Int} {b i : Nat} (h : i < b) (hl : lt d[i]! d[i - 1]! = false) : scanSorted lt d b i = scanSorted lt d b (i + 1) := by rw [scanSorted, if_pos (by simp [h, hl])]
theorem scanSorted_stop7 {d : Array Int} {b i : Nat} (h : ¬ i < b ∨ lt d[i]! d[i - 1]! = true) : scanSorted lt d b i = i := by
  rw [scanSorted, if_neg]
  rcases h with h | h <;> simp [h]
theorem shiftDown_go7 {d : Array Int} {j : Nat} (h : 1 ≤ j) (hl : lt d[j]! d[j - 1]! = true) : shiftDown lt j d = shiftDown lt (j - 1) (swp d j (j - 1)) := by
  obtain ⟨k, rfl⟩ : ∃ k, j = k + 1 := ⟨j - 1, by omega⟩
  rw [Nat.add_sub_cancel] at hl ⊢
  rw [shiftDown, if_neg (by simp [hl])]
theorem shiftDown_stop7 {d : Array Int} {j : Nat} (h : j < 1 ∨ lt d[j]! d[j - 1]! = false) : shiftDown lt j d = d := by
  cases j with
  | zero => rfl
  | succ k =>
    rcases h with h | h
    · omega
    · rw [Nat.add_sub_cancel] at h
      rw [shiftDown, if_pos (by simp [h])]
theorem shiftUp_go7 {d : Array Int} {b j : Nat} (h : j < b) (hl : lt d[j]! d[j - 1]! = true) : shiftUp lt b j d = shiftUp lt b (j + 1) (swp d j (j - 1)) := by rw [shiftUp, if_pos h, if_neg (by simp [hl])]
theorem shiftUp_stop7 {d : Array Int} {b j : Nat} (h : ¬ j < b ∨ lt d[j]! d[j - 1]! = false) : shiftUp lt b j d = d := by
  rw [shiftUp]
  split
  · rcases h with h | h
    · contradiction
    · rw [if_pos (by simp [h])]
  · rfl
def downS (lt : Int → Int → Bool) (a k : Nat) (d : Array Int) : Array Int := if k - a ≥ 2 then shiftDown lt (k - 1) d else d
def upS (lt : Int → Int → Bool) (b k : Nat) (d : Array Int) : Array Int := if b - k ≥ 2 then shiftUp lt b (k + 1) d else d
theorem downS_yes {a k : Nat} {d : Array Int} (h : k - a ≥ 2) : downS lt a k d = shiftDown lt (k - 1) d := if_pos h
theorem downS_no {a k : Nat} {d : Array Int} (h : ¬ k - a ≥ 2) : downS lt a k d = d := if_neg h
theorem upS_yes {b k : Nat} {d : Array Int} (h : b - k ≥ 2) : upS lt b k d = shiftUp lt b (k + 1) d := if_pos h
theorem upS_no {b k : Nat} {d : Array Int} (h : ¬ b - k ≥ 2) : upS lt b k d = d := if_neg h
theorem pi_true7 {a b s i : Nat} {d : Array Int} (hs : s < 5) (h : scanSorted lt d b i = b) : partialIns lt a b (5 - s) i d = (d, true) := by
  obtain ⟨t, ht⟩ : ∃ t, 5 - s = t + 1 := ⟨4 - s, by omega⟩
  rw [ht, partialIns, h, if_pos rfl]
theorem pi_short7 {a b s i k : Nat} {d : Array Int} (hs : s < 5) (h : scanSorted lt d b i = k) (hk : k ≠ b) (h5 : b - a < 50) : partialIns lt a b (5 - s) i d = (d, false) := by
  obtain ⟨t, ht⟩ : ∃ t, 5 - s = t + 1 := ⟨4 - s, by omega⟩
  rw [ht, partialIns, h, if_neg hk, if_pos h5]
theorem pi_on7 {a b s i k : Nat} {d : Array Int} (hs : s < 5) (h : scanSorted lt d b i = k) (hk : k ≠ b) (h5 : ¬ b - a < 50) : partialIns lt a b (5 - s) i d = partialIns lt a b (5 - (s + 1)) k (upS lt b k (downS lt a k (swp d k (k - 1)))) := by
  obtain ⟨t, ht⟩ : ∃ t, 5 - s = t + 1 := ⟨4 - s, by omega⟩
  rw [ht, partialIns, h, if_neg hk, if_neg h5, show 5 - (s + 1) = t by omega]
  rfl
end
set_option maxHeartbeats 200000000 in
theorem partialInsertionSort7 (blk off cap n0 a b : Nat) (d : Array Int) (w : World) (H : RowOf w blk off d) (hn : d.size = n0) (hab : a < b) (hb : b ≤ n0) (PI : Array Int × Bool) (hPI : partialInsertionSort ltInt d a b = PI) :
    Calls Tryz.prog 90 #[.slice (some ⟨blk, off, none⟩) n0 cap, .int .i64 a, .int .i64 b] w fun e w' => e = .returned (.bool PI.2) ∧ RowG w blk off d w' PI.1 := by
  subst hn
  have HH := Lib.hid H
  have hsz := H.fits
  obtain ⟨n, hN⟩ : ∃ n, d.size = n := ⟨_, rfl⟩
  rw [hN] at hsz hb
  have HPI := Lib.hid (show partialIns ltInt a b (5 - 0) (a + 1) d = PI from hPI)
  have HR := Lib.hid (RowG.self H)
  rw [hN]
  clear hPI H
  go_enter Tryz.func90, Tryz.ntmps90
  go_wp2_with fail
  go_loopw [7, 8] (fun vi vs wr => ∃ (i s : Nat) (dk : Array Int), vi = .int .i64 i ∧ vs = .int .i64 s ∧ s ≤ 5 ∧ a < i ∧ i ≤ b ∧ Hid (RowG w blk off d wr dk) ∧ Hid (partialIns ltInt a b (5 - s) i dk = PI)) (fun _ vs _ => 5 - (intOf7 vs).toNat)
  case atStart => exact ⟨a + 1, 0, d, by go_num, rfl, by omega, by omega, by omega, HR, HPI⟩
  case round =>
    clear HR HPI
    obtain ⟨i, s, dk, rfl, rfl, hs5, hai, hib, HR, HPI⟩ := hrel
    have hsk : dk.size = n := HR.out.1.trans hN
    obtain ⟨G, HG⟩ := name_cells dk
    by_cases hs : s < 5
    · go_wp2_with fail
      go_loopw [7] (fun vi wr => ∃ k : Nat, vi = .int .i64 k ∧ i ≤ k ∧ k ≤ b ∧ Hid (RowG w blk off d wr dk) ∧ Hid (scanSorted ltInt dk b k = scanSorted ltInt dk b i)) (fun vi _ => b - (intOf7 vi).toNat)
      case atStart => exact ⟨i, rfl, Nat.le_refl _, hib, HR, Lib.hid rfl⟩
      case round =>
        clear HR
        obtain ⟨k, rfl, hik, hkb, HR, HS⟩ := hrel
        have hcw := (HR.out.of HH.out).cellAt HG
        rw [hsk] at hcw
        by_cases hlt : k < b
        · have hkl : k < n := by omega
          have hkl2 : k - 1 < n := by omega
          cases hl : ltInt (G k) (G (k - 1)) with
          | false =>
            have HS2 := Lib.hid ((scanSorted_go7 (lt := ltInt) hlt (by simp only [← HG.out]; simp [hl])).symm.trans HS.out)
            clear HS
            go_wp2_with fail
            go_quiet ((go_at_call 91; refine Calls.quiet_of_same (less7 _ _ _)))
            go_wp2_with fail
            go_roundw
            case rel => exact ⟨k + 1, by go_num, by omega, by omega, Lib.hid (HR.out.drew _), HS2⟩
            case measure => simp [intOf7]; omega
          | true =>
            have HS2 := HS.out
            rw [scanSorted_stop7 (lt := ltInt) (.inr (by simp only [← HG.out]; simp [hl]))] at HS2
            have HK := Lib.hid HS2.symm
            clear HS HS2
            have hkb3 : ((k : Int) == (b : Int)) = false := by simp; omega
            by_cases h50 : b - a < 50
            · have g2 : decide ((b : Int) - (a : Int) < 50) = true := by simp; omega
              have hv := Lib.hid (HPI.out.symm.trans (pi_short7 hs HK.out (by omega) h50))
              go_wp2_with fail
              go_quiet ((go_at_call 91; refine Calls.quiet_of_same (less7 _ _ _)))
              go_wp2_with fail
              go_ret
              exact ⟨by rw [hv.out]; rfl, by rw [hv.out]; exact HR.out.drew _⟩
            · have g2 : decide ((b : Int) - (a : Int) < 50) = false := by simp; omega
              have hv := Lib.hid ((pi_on7 hs HK.out (by omega) h50).symm.trans HPI.out)
              clear HPI
              have HPI := hv
              clear hv
              by_cases hka : k - a ≥ 2
              · have g1 : decide ((2 : Int) ≤ (k : Int) - (a : Int)) = true := by simp; omega
                have g1a : (2 : Int) ≤ (k : Int) - (a : Int) := by omega
                have g1b : ¬ (k : Int) - (a : Int) < 2 := by omega
                go_wp2_with fail
                go_quiet ((go_at_call 91; refine Calls.quiet_of_same (less7 _ _ _)))
                go_wp2_with fail
                have hfw : ∀ t, t < n → (wr.drewN nq).frozen? ⟨blk, off + t, none⟩ = false := by
                  have h := (HR.out.of HH.out).soft
                  rw [hsk] at h
                  exact h
                have hcw2 : ∀ t, t < n → (wr.drewN nq).cell? ⟨blk, off + t, none⟩ = some (.int .u64 (G t)) := hcw
                have HR2 := Lib.hid (HR.out.drew nq)
                clear hcw HR
                generalize wr.drewN nq = w2 at HR2 hcw2 hfw ⊢
                go_region
                all_goals go_wp2_with fail
                have HR3 := Lib.hid (HR2.out.swapD HH.out HG k (k - 1) (by omega) (by omega))
                obtain ⟨ds, hds⟩ : ∃ ds, swp dk k (k - 1) = ds := ⟨_, rfl⟩
                rw [hds] at HR3 HPI
                clear HR2 hcw2 hfw HK HG hds hl
                rename_i hsk0
                go_loopw [9] (fun vj wr => ∃ (j : Nat) (dj : Array Int), vj = .int .i64 j ∧ j ≤ k - 1 ∧ Hid (RowG w blk off d wr dj) ∧ Hid (shiftDown ltInt j dj = shiftDown ltInt (k - 1) ds)) (fun vj _ => (intOf7 vj).toNat)
                case atStart => exact ⟨k - 1, ds, by congr 1; omega, Nat.le_refl _, HR3, Lib.hid rfl⟩
                case round =>
                  clear HR3
                  obtain ⟨j, dj, rfl, hjk, HR, HD⟩ := hrel
                  have hsk : dj.size = n := HR.out.1.trans hN
                  obtain ⟨G, HG⟩ := name_cells dj
                  have hcw := (HR.out.of HH.out).cellAt HG
                  rw [hsk] at hcw
                  by_cases hj : 1 ≤ j
                  · have hjl : j < n := by omega
                    have hjl2 : j - 1 < n := by omega
                    cases hl : ltInt (G j) (G (j - 1)) with
                    | true =>
                      have HD2 := Lib.hid ((shiftDown_go7 (lt := ltInt) hj (by simp only [← HG.out]; simp [hl])).symm.trans HD.out)
                      clear HD
                      go_wp2_with fail
                      go_quiet ((go_at_call 91; refine Calls.quiet_of_same (less7 _ _ _)))
                      go_wp2_with fail
                      have hfw : ∀ t, t < n → (wr.drewN nq).frozen? ⟨blk, off + t, none⟩ = false := by
                        have h := (HR.out.of HH.out).soft
                        rw [hsk] at h
                        exact h
                      have hcw2 : ∀ t, t < n → (wr.drewN nq).cell? ⟨blk, off + t, none⟩ = some (.int .u64 (G t)) := hcw
                      have HR2 := Lib.hid (HR.out.drew nq)
                      clear hcw HR
                      generalize wr.drewN nq = w2 at HR2 hcw2 hfw ⊢
                      go_region
                      all_goals go_wp2_with fail
                      go_roundw
                      case rel => exact ⟨j - 1, swp dj j (j - 1), by congr 1; omega, by omega, Lib.hid (HR2.out.swapD HH.out HG j (j - 1) (by omega) (by omega)), HD2⟩
                      case measure => simp [intOf7]; omega
                    | false =>
                      have HD2 := HD.out
                      rw [shiftDown_stop7 (lt := ltInt) (.inr (by simp only [← HG.out]; simp [hl]))] at HD2
                      have HDN := Lib.hid (show downS ltInt a k ds = dj from (downS_yes hka).trans HD2.symm)
                      clear HD HD2
                      by_cases hkb2 : b - k ≥ 2
                      · have g3 : decide ((2 : Int) ≤ (b : Int) - (k : Int)) = true := by simp; omega
                        have g3a : (2 : Int) ≤ (b : Int) - (k : Int) := by omega
                        have g3b : ¬ (b : Int) - (k : Int) < 2 := by omega
                        go_wp2_with fail
                        go_quiet ((go_at_call 91; refine Calls.quiet_of_same (less7 _ _ _)))
                        go_wp2_with fail
                        have HR2 := Lib.hid (HR.out.drew nq)
                        clear hcw HR HG hl
                        generalize wr.drewN nq = w2 at HR2 ⊢
                        go_loopw [10] (fun vj wr => ∃ (j : Nat) (du : Array Int), vj = .int .i64 j ∧ k + 1 ≤ j ∧ j ≤ b ∧ Hid (RowG w blk off d wr du) ∧ Hid (shiftUp ltInt b j du = shiftUp ltInt b (k + 1) dj)) (fun vj _ => b - (intOf7 vj).toNat)
                        case atStart => exact ⟨k + 1, dj, by go_num, Nat.le_refl _, by omega, HR2, Lib.hid rfl⟩
                        case round =>
                          obtain ⟨j, du, rfl, hkj, hjb, HR, HU⟩ := hrel
                          have hsk : du.size = n := HR.out.1.trans hN
                          obtain ⟨G, HG⟩ := name_cells du
                          have hcw := (HR.out.of HH.out).cellAt HG
                          rw [hsk] at hcw
                          by_cases hj : j < b
                          · have hjl : j < n := by omega
                            have hjl2 : j - 1 < n := by omega
                            cases hl : ltInt (G j) (G (j - 1)) with
                            | true =>
                              have HU2 := Lib.hid ((shiftUp_go7 (lt := ltInt) hj (by simp only [← HG.out]; simp [hl])).symm.trans HU.out)
                              clear HU
                              go_wp2_with fail
                              go_quiet ((go_at_call 91; refine Calls.quiet_of_same (less7 _ _ _)))
                              go_wp2_with fail
                              have hfw : ∀ t, t < n → (wr.drewN nq).frozen? ⟨blk, off + t, none⟩ = false := by
                                have h := (HR.out.of HH.out).soft
                                rw [hsk] at h
                                exact h
                              have hcw2 : ∀ t, t < n → (wr.drewN nq).cell? ⟨blk, off + t, none⟩ = some (.int .u64 (G t)) := hcw
                              have HR2 := Lib.hid (HR.out.drew nq)
                              clear hcw HR
                              generalize wr.drewN nq = w2 at HR2 hcw2 hfw ⊢
                              go_region
                              all_goals go_wp2_with fail
                              go_roundw
                              case rel => exact ⟨j + 1, swp du j (j - 1), by go_num, by omega, by omega, Lib.hid (HR2.out.swapD HH.out HG j (j - 1) (by omega) (by omega)), HU2⟩
                              case measure => simp [intOf7]; omega
                            | false =>
                              have HU2 := HU.out
                              rw [shiftUp_stop7 (lt := ltInt) (.inr (by simp only [← HG.out]; simp [hl]))] at HU2
                              have HU3 := Lib.hid HU2.symm
                              clear HU HU2
                              go_wp2_with fail
                              go_quiet ((go_at_call 91; refine Calls.quiet_of_same (less7 _ _ _)))
                              go_wp2_with fail
                              go_roundw
                              case rel => exact ⟨k, s + 1, du, rfl, by go_num, by omega, by omega, by omega, Lib.hid (HR.out.drew _), Lib.hid (by rw [← HPI.out, HDN.out, upS_yes hkb2, HU3.out])⟩
                              case measure => simp [intOf7]; omega
                          · have HU2 := HU.out
                            rw [shiftUp_stop7 (lt := ltInt) (.inl hj)] at HU2
                            have HU3 := Lib.hid HU2.symm
                            clear HU HU2
                            go_wp2_with fail
                            go_roundw
                            case rel => exact ⟨k, s + 1, du, rfl, by go_num, by omega, by omega, by omega, HR, Lib.hid (by rw [← HPI.out, HDN.out, upS_yes hkb2, HU3.out])⟩
                            case measure => simp [intOf7]; omega
                      · have g3 : decide ((2 : Int) ≤ (b : Int) - (k : Int)) = false := by simp; omega
                        have g3a : ¬ (2 : Int) ≤ (b : Int) - (k : Int) := by omega
                        have HUP := Lib.hid (show ∀ x, upS ltInt b k x = x from fun x => upS_no hkb2)
                        clear hkb2
                        go_wp2_with fail
                        go_quiet ((go_at_call 91; refine Calls.quiet_of_same (less7 _ _ _)))
                        go_wp2_with fail
                        have HR2 := Lib.hid (HR.out.drew nq)
                        clear hcw HR HG hl
                        generalize wr.drewN nq = w2 at HR2 ⊢
                        go_roundw
                        case rel => exact ⟨k, s + 1, dj, rfl, by go_num, by omega, by omega, by omega, HR2, Lib.hid (by rw [← HPI.out, HDN.out, HUP.out])⟩
                        case measure => simp [intOf7]; omega
                  · have HD2 := HD.out
                    rw [shiftDown_stop7 (lt := ltInt) (.inl (by omega))] at HD2
                    have HDN := Lib.hid (show downS ltInt a k ds = dj from (downS_yes hka).trans HD2.symm)
                    clear HD HD2 hcw HG
                    by_cases hkb2 : b - k ≥ 2
                    · have g3 : decide ((2 : Int) ≤ (b : Int) - (k : Int)) = true := by simp; omega
                      have g3a : (2 : Int) ≤ (b : Int) - (k : Int) := by omega
                      have g3b : ¬ (b : Int) - (k : Int) < 2 := by omega
                      go_wp2_with fail
                      go_loopw [10] (fun vj wr => ∃ (j : Nat) (du : Array Int), vj = .int .i64 j ∧ k + 1 ≤ j ∧ j ≤ b ∧ Hid (RowG w blk off d wr du) ∧ Hid (shiftUp ltInt b j du = shiftUp ltInt b (k + 1) dj)) (fun vj _ => b - (intOf7 vj).toNat)
                      case atStart => exact ⟨k + 1, dj, by go_num, Nat.le_refl _, by omega, HR, Lib.hid rfl⟩
                      case round =>
                        obtain ⟨j, du, rfl, hkj, hjb, HR, HU⟩ := hrel
                        have hsk : du.size = n := HR.out.1.trans hN
                        obtain ⟨G, HG⟩ := name_cells du
                        have hcw := (HR.out.of HH.out).cellAt HG
                        rw [hsk] at hcw
                        by_cases hj : j < b
                        · have hjl : j < n := by omega
                          have hjl2 : j - 1 < n := by omega
                          cases hl : ltInt (G j) (G (j - 1)) with
                          | true =>
                            have HU2 := Lib.hid ((shiftUp_go7 (lt := ltInt) hj (by simp only [← HG.out]; simp [hl])).symm.trans HU.out)
                            clear HU
                            go_wp2_with fail
                            go_quiet ((go_at_call 91; refine Calls.quiet_of_same (less7 _ _ _)))
                            go_wp2_with fail
                            have hfw : ∀ t, t < n → (wr.drewN nq).frozen? ⟨blk, off + t, none⟩ = false := by
                              have h := (HR.out.of HH.out).soft
                              rw [hsk] at h
                              exact h
                            have hcw2 : ∀ t, t < n → (wr.drewN nq).cell? ⟨blk, off + t, none⟩ = some (.int .u64 (G t)) := hcw
                            have HR2 := Lib.hid (HR.out.drew nq)
                            clear hcw HR
                            generalize wr.drewN nq = w2 at HR2 hcw2 hfw ⊢
                            go_region
                            all_goals go_wp2_with fail
                            go_roundw
                            case rel => exact ⟨j + 1, swp du j (j - 1), by go_num, by omega, by omega, Lib.hid (HR2.out.swapD HH.out HG j (j - 1) (by omega) (by omega)), HU2⟩
                            case measure => simp [intOf7]; omega
                          | false =>
                            have HU2 := HU.out
                            rw [shiftUp_stop7 (lt := ltInt) (.inr (by simp only [← HG.out]; simp [hl]))] at HU2
                            have HU3 := Lib.hid HU2.symm
                            clear HU HU2
                            go_wp2_with fail
                            go_quiet ((go_at_call 91; refine Calls.quiet_of_same (less7 _ _ _)))
                            go_wp2_with fail
                            go_roundw
                            case rel => exact ⟨k, s + 1, du, rfl, by go_num, by omega, by omega, by omega, Lib.hid (HR.out.drew _), Lib.hid (by rw [← HPI.out, HDN.out, upS_yes hkb2, HU3.out])⟩
                            case measure => simp [intOf7]; omega
                        · have HU2 := HU.out
                          rw [shiftUp_stop7 (lt := ltInt) (.inl hj)] at HU2
                          have HU3 := Lib.hid HU2.symm
                          clear HU HU2
                          go_wp2_with fail
                          go_roundw
                          case rel => exact ⟨k, s + 1, du, rfl, by go_num, by omega, by omega, by omega, HR, Lib.hid (by rw [← HPI.out, HDN.out, upS_yes hkb2, HU3.out])⟩
                          case measure => simp [intOf7]; omega
                    · have g3 : decide ((2 : Int) ≤ (b : Int) - (k : Int)) = false := by simp; omega
                      have g3a : ¬ (2 : Int) ≤ (b : Int) - (k : Int) := by omega
                      have HUP := Lib.hid (show ∀ x, upS ltInt b k x = x from fun x => upS_no hkb2)
                      clear hkb2
                      go_wp2_with fail
                      go_roundw
                      case rel => exact ⟨k, s + 1, dj, rfl, by go_num, by omega, by omega, by omega, HR, Lib.hid (by rw [← HPI.out, HDN.out, HUP.out])⟩
                      case measure => simp [intOf7]; omega
              · have g1 : decide ((2 : Int) ≤ (k : Int) - (a : Int)) = false := by simp; omega
                have g1a : ¬ (2 : Int) ≤ (k : Int) - (a : Int) := by omega
                have g1b : (k : Int) - (a : Int) < 2 := by omega
                obtain ⟨ds, hds⟩ : ∃ ds, swp dk k (k - 1) = ds := ⟨_, rfl⟩
                have HPI2 := HPI
                rw [hds] at HPI2
                have HDN := Lib.hid (show downS ltInt a k ds = ds from downS_no hka)
                clear hka g1b
                by_cases hkb2 : b - k ≥ 2
                · have HB2 := Lib.hid hkb2
                  clear hkb2
                  go_wp2_with fail
                  go_quiet ((go_at_call 91; refine Calls.quiet_of_same (less7 _ _ _)))
                  go_wp2_with fail
                  have hfw : ∀ t, t < n → (wr.drewN nq).frozen? ⟨blk, off + t, none⟩ = false := by
                    have h := (HR.out.of HH.out).soft
                    rw [hsk] at h
                    exact h
                  have hcw2 : ∀ t, t < n → (wr.drewN nq).cell? ⟨blk, off + t, none⟩ = some (.int .u64 (G t)) := hcw
                  have HR2 := Lib.hid (HR.out.drew nq)
                  clear hcw HR
                  generalize wr.drewN nq = w2 at HR2 hcw2 hfw ⊢
                  go_region
                  have hkb2 := HB2.out
                  have g3 : decide ((2 : Int) ≤ (b : Int) - (k : Int)) = true := by simp; omega
                  have g3a : (2 : Int) ≤ (b : Int) - (k : Int) := by omega
                  have g3b : ¬ (b : Int) - (k : Int) < 2 := by omega
                  all_goals go_wp2_with fail
                  have HR3 := Lib.hid (HR2.out.swapD HH.out HG k (k - 1) (by omega) (by omega))
                  rw [hds] at HR3
                  clear HR2 hcw2 hfw HG hl
                  go_loopw [10] (fun vj wr => ∃ (j : Nat) (du : Array Int), vj = .int .i64 j ∧ k + 1 ≤ j ∧ j ≤ b ∧ Hid (RowG w blk off d wr du) ∧ Hid (shiftUp ltInt b j du = shiftUp ltInt b (k + 1) ds)) (fun vj _ => b - (intOf7 vj).toNat)
                  case atStart => exact ⟨k + 1, ds, by go_num, Nat.le_refl _, by omega, HR3, Lib.hid rfl⟩
                  case round =>
                    obtain ⟨j, du, rfl, hkj, hjb, HR, HU⟩ := hrel
                    have hsk : du.size = n := HR.out.1.trans hN
                    obtain ⟨G, HG⟩ := name_cells du
                    have hcw := (HR.out.of HH.out).cellAt HG
                    rw [hsk] at hcw
                    by_cases hj : j < b
                    · have hjl : j < n := by omega
                      have hjl2 : j - 1 < n := by omega
                      cases hl : ltInt (G j) (G (j - 1)) with
                      | true =>
                        have HU2 := Lib.hid ((shiftUp_go7 (lt := ltInt) hj (by simp only [← HG.out]; simp [hl])).symm.trans HU.out)
                        clear HU
                        go_wp2_with fail
                        go_quiet ((go_at_call 91; refine Calls.quiet_of_same (less7 _ _ _)))
                        go_wp2_with fail
                        have hfw : ∀ t, t < n → (wr.drewN nq).frozen? ⟨blk, off + t, none⟩ = false := by
                          have h := (HR.out.of HH.out).soft
                          rw [hsk] at h
                          exact h
                        have hcw2 : ∀ t, t < n → (wr.drewN nq).cell? ⟨blk, off + t, none⟩ = some (.int .u64 (G t)) := hcw
                        have HR2 := Lib.hid (HR.out.drew nq)
                        clear hcw HR
                        generalize wr.drewN nq = w2 at HR2 hcw2 hfw ⊢
                        go_region
                        all_goals go_wp2_with fail
                        go_roundw
                        case rel => exact ⟨j + 1, swp du j (j - 1), by go_num, by omega, by omega, Lib.hid (HR2.out.swapD HH.out HG j (j - 1) (by omega) (by omega)), HU2⟩
                        case measure => simp [intOf7]; omega
                      | false =>
                        have HU2 := HU.out
                        rw [shiftUp_stop7 (lt := ltInt) (.inr (by simp only [← HG.out]; simp [hl]))] at HU2
                        have HU3 := Lib.hid HU2.symm
                        clear HU HU2
                        go_wp2_with fail
                        go_quiet ((go_at_call 91; refine Calls.quiet_of_same (less7 _ _ _)))
                        go_wp2_with fail
                        go_roundw
                        case rel => exact ⟨k, s + 1, du, rfl, by go_num, by omega, by omega, by omega, Lib.hid (HR.out.drew _), Lib.hid (by rw [← HPI2.out, HDN.out, upS_yes hkb2, HU3.out])⟩
                        case measure => simp [intOf7]; omega
                    · have HU2 := HU.out
                      rw [shiftUp_stop7 (lt := ltInt) (.inl hj)] at HU2
                      have HU3 := Lib.hid HU2.symm
                      clear HU HU2
                      go_wp2_with fail
                      go_roundw
                      case rel => exact ⟨k, s + 1, du, rfl, by go_num, by omega, by omega, by omega, HR, Lib.hid (by rw [← HPI2.out, HDN.out, upS_yes hkb2, HU3.out])⟩
                      case measure => simp [intOf7]; omega
                · have HB2 := Lib.hid hkb2
                  clear hkb2
                  go_wp2_with fail
                  go_quiet ((go_at_call 91; refine Calls.quiet_of_same (less7 _ _ _)))
                  go_wp2_with fail
                  have hfw : ∀ t, t < n → (wr.drewN nq).frozen? ⟨blk, off + t, none⟩ = false := by
                    have h := (HR.out.of HH.out).soft
                    rw [hsk] at h
                    exact h
                  have hcw2 : ∀ t, t < n → (wr.drewN nq).cell? ⟨blk, off + t, none⟩ = some (.int .u64 (G t)) := hcw
                  have HR2 := Lib.hid (HR.out.drew nq)
                  clear hcw HR
                  generalize wr.drewN nq = w2 at HR2 hcw2 hfw ⊢
                  go_region
                  have hkb2 := HB2.out
                  have g3 : decide ((2 : Int) ≤ (b : Int) - (k : Int)) = false := by simp; omega
                  have g3a : ¬ (2 : Int) ≤ (b : Int) - (k : Int) := by omega
                  have HUP := Lib.hid (show ∀ x, upS ltInt b k x = x from fun x => upS_no hkb2)
                  clear hkb2
                  all_goals go_wp2_with fail
                  have HR3 := Lib.hid (HR2.out.swapD HH.out HG k (k - 1) (by omega) (by omega))
                  rw [hds] at HR3
                  clear HR2 hcw2 hfw HG hl
                  go_roundw
                  case rel => exact ⟨k, s + 1, ds, rfl, by go_num, by omega, by omega, by omega, HR3, Lib.hid (by rw [← HPI2.out, HDN.out, HUP.out])⟩
                  case measure => simp [intOf7]; omega
        · obtain rfl : k = b := by omega
          have HS2 := HS.out
          rw [scanSorted_stop7 (lt := ltInt) (.inl hlt)] at HS2
          have hv := Lib.hid (HPI.out.symm.trans (pi_true7 hs HS2.symm))
          clear HS HS2
          go_wp2_with fail
          go_quiet ((go_at_call 91; refine Calls.quiet_of_same (less7 _ _ _)))
          go_wp2_with fail
          go_ret
          exact ⟨by rw [hv.out]; rfl, by rw [hv.out]; exact HR.out.drew _⟩
    · obtain rfl : s = 5 := by omega
      have hv := Lib.hid (show PI = (dk, false) from HPI.out.symm)
      go_wp2_with fail
      go_ret
      exact ⟨by rw [hv.out]; rfl, by rw [hv.out]; exact HR.out⟩
end Go.Proofs.YtjpfcdgaepdcdaaGreat
/- slices.Sort's parts at []uint64: order2Ordered, medianOrdered, medianAdjacentOrdered, choosePivotOrdered: the pivot's place is one of the part's, and nothing turns but the count. Conditions: the row lies in a block that was there, and has fewer than 2^62 elements. -/
namespace Go.Proofs.YtjpfcdgaepdcdaaGreat
open Go.RowKit Go.Sort
set_option maxRecDepth 20000
/-- The row is as it was; the count of swaps stands in a block of the call's own. -/
structure PivAt (w : World) (blk off : Nat) (d : Array Int) (g : Nat) (wr : World) (s : Nat) : Prop where
  row : RowG w blk off d wr d
  far : w.heap.size ≤ g
  cnt : wr.cell? ⟨g, 0, none⟩ = some (.int .i64 (s : Int))
  soft : wr.frozen? ⟨g, 0, none⟩ = false
section
variable {w wr : World} {blk off g s : Nat} {d : Array Int}
theorem PivAt.drew (P : PivAt w blk off d g wr s) (q : Nat) : PivAt w blk off d g (wr.drewN q) s := ⟨P.row.drew q, P.far, P.cnt, P.soft⟩
theorem frozen_setCell7 (u : World) (a b : Addr) (v : Value) : (u.setCell a v).frozen? b = u.frozen? b := by
  rcases a with ⟨k, i, _ | s⟩
  · rw [setCell_eq]; exact frozen?_mapBlock _ _ _ _
  · simp
theorem PivAt.put (P : PivAt w blk off d g wr s) {v : Int} {k : Nat} (h : v = (k : Int)) : PivAt w blk off d g (wr.setCell ⟨g, 0, none⟩ (.int .i64 v)) k := by
  subst h
  exact ⟨P.row.fresh P.far 0 _, P.far, World.cell?_setCell_same _ _ _ P.cnt, by rw [frozen_setCell7]; exact P.soft⟩
theorem PivAt.start (H : RowOf w blk off d) (t : TypeId) : PivAt w blk off d w.heap.size (w.alloc (.cells #[.int .i64 0] t)) 0 :=
  ⟨(RowG.self H).alloc _, Nat.le_refl _, World.cell?_alloc_at _ _ _ _ rfl, World.frozen?_alloc_at _ _ _ _ rfl⟩
end
set_option maxHeartbeats 8000000 in
theorem order2_7 (blk off cap n g a b lo hi s : Nat) (d : Array Int) (w wr : World) (H : RowOf w blk off d) (hn : d.size = n) (P : PivAt w blk off d g wr s) (ha : lo ≤ a ∧ a < hi) (hb : lo ≤ b ∧ b < hi) (hh : hi ≤ n) (hs : s ≤ 100) :
    Calls Tryz.prog 128 #[.slice (some ⟨blk, off, none⟩) n cap, .int .i64 a, .int .i64 b, .pointer (some ⟨g, 0, none⟩)] wr fun e w' =>
      ∃ x y s' : Nat, e = .returned (.tuple #[.int .i64 (x : Int), .int .i64 (y : Int)]) ∧ (lo ≤ x ∧ x < hi) ∧ (lo ≤ y ∧ y < hi) ∧ s' ≤ s + 1 ∧ PivAt w blk off d g w' s' := by
  have hsz := H.fits
  rw [hn] at hsz
  obtain ⟨G, HG⟩ := name_cells d
  have hcw := (P.row.of H).cellAt HG
  rw [hn] at hcw
  have hcn := P.cnt
  have hso := P.soft
  have HP := Lib.hid P
  have HA := Lib.hid ha
  have HB := Lib.hid hb
  have hal : a < n := by omega
  have hbl : b < n := by omega
  clear H P ha hb
  go_enter Tryz.func128, Tryz.ntmps128
  go_wp2_with fail
  go_quiet ((go_at_call 91; refine Calls.quiet_of_same (less7 _ _ _)))
  go_wp2_with fail
  · go_ret2
    exact ⟨b, a, s + 1, rfl, HB.out, HA.out, Nat.le_refl _, (HP.out.drew nq).put (by omega)⟩
  · go_ret2
    exact ⟨a, b, s, rfl, HA.out, HB.out, by omega, HP.out.drew nq⟩
set_option maxHeartbeats 8000000 in
theorem median7 (blk off cap n g a b c lo hi s : Nat) (d : Array Int) (w wr : World) (H : RowOf w blk off d) (hn : d.size = n) (P : PivAt w blk off d g wr s) (ha : lo ≤ a ∧ a < hi) (hb : lo ≤ b ∧ b < hi) (hc : lo ≤ c ∧ c < hi) (hh : hi ≤ n) (hs : s ≤ 50) :
    Calls Tryz.prog 118 #[.slice (some ⟨blk, off, none⟩) n cap, .int .i64 a, .int .i64 b, .int .i64 c, .pointer (some ⟨g, 0, none⟩)] wr fun e w' =>
      ∃ x s' : Nat, e = .returned (.int .i64 (x : Int)) ∧ (lo ≤ x ∧ x < hi) ∧ s' ≤ s + 3 ∧ PivAt w blk off d g w' s' := by
  have HO := Lib.hid (fun (a b s : Nat) (wr : World) (P : Hid (PivAt w blk off d g wr s)) (ha : Hid (lo ≤ a ∧ a < hi)) (hb : Hid (lo ≤ b ∧ b < hi)) (hs : s ≤ 100) => order2_7 blk off cap n g a b lo hi s d w wr H hn P.out ha.out hb.out hh hs)
  have HP := Lib.hid P
  have HA := Lib.hid ha
  have HB := Lib.hid hb
  have HC := Lib.hid hc
  clear H P ha hb hc hn hh
  go_enter Tryz.func118, Tryz.ntmps118
  go_wp2_with fail
  refine (HO.out a b s wr HP HA HB (by omega)).mono ?_
  rintro e w1 ⟨x1, y1, s1, rfl, h1, h2, h3, P1⟩
  have HP1 := Lib.hid P1
  have HX1 := Lib.hid h1
  have HY1 := Lib.hid h2
  clear h1 h2 P1
  go_wp2_with fail
  refine (HO.out y1 c s1 w1 HP1 HY1 HC (by omega)).mono ?_
  rintro e w2 ⟨x2, y2, s2, rfl, h1, h2, h4, P2⟩
  have HP2 := Lib.hid P2
  have HX2 := Lib.hid h1
  clear h1 h2 P2
  go_wp2_with fail
  refine (HO.out x1 x2 s2 w2 HP2 HX1 HX2 (by omega)).mono ?_
  rintro e w3 ⟨x3, y3, s3, rfl, h1, h2, h5, P3⟩
  have HP3 := Lib.hid P3
  have HY3 := Lib.hid h2
  clear h1 h2 P3
  go_wp2_with fail
  go_ret
  exact ⟨y3, s3, rfl, HY3.out, by omega, HP3.out⟩
set_option maxHeartbeats 8000000 in
theorem medianAdjacent7 (blk off cap n g a lo hi s : Nat) (d : Array Int) (w wr : World) (H : RowOf w blk off d) (hn : d.size = n) (P : PivAt w blk off d g wr s) (ha : lo + 1 ≤ a ∧ a + 1 < hi) (hh : hi ≤ n) (hs : s ≤ 50) :
    Calls Tryz.prog 117 #[.slice (some ⟨blk, off, none⟩) n cap, .int .i64 a, .pointer (some ⟨g, 0, none⟩)] wr fun e w' =>
      ∃ x s' : Nat, e = .returned (.int .i64 (x : Int)) ∧ (lo ≤ x ∧ x < hi) ∧ s' ≤ s + 3 ∧ PivAt w blk off d g w' s' := by
  have hsz := H.fits
  rw [hn] at hsz
  obtain ⟨a1, ha1⟩ : ∃ k, a = k + 1 := ⟨a - 1, by omega⟩
  obtain ⟨a2, ha2⟩ : ∃ k, a + 1 = k := ⟨_, rfl⟩
  have h1I : (a : Int) - 1 = (a1 : Int) := by omega
  have h2I : (a : Int) + 1 = (a2 : Int) := by omega
  have HM := Lib.hid (median7 blk off cap n g a1 a a2 lo hi s d w wr H hn P (by omega) (by omega) (by omega) hh hs)
  have hal : a < n := by omega
  have hal0 : 0 < a := by omega
  clear H P ha1 ha2 hn
  go_enter Tryz.func117, Tryz.ntmps117
  go_wp2_with fail
  refine (HM.out).mono ?_
  rintro e w1 ⟨x1, s1, rfl, h1, h3, P1⟩
  have HP1 := Lib.hid P1
  have HX1 := Lib.hid h1
  clear h1 P1
  go_wp2_with fail
  go_ret
  exact ⟨x1, s1, rfl, HX1.out, h3, HP1.out⟩
theorem PivAt.told {w wr : World} {blk off g s a b x : Nat} {d : Array Int} (P : PivAt w blk off d g wr s) (hx : a ≤ x ∧ x < b) (h : Nat) (hh : h ≤ 2) :
    ∃ p h' : Nat, Ending.returned (.tuple #[.int .i64 (x : Int), .int .i64 ((h : Nat) : Int)]) = .returned (.tuple #[.int .i64 (p : Int), .int .i64 (h' : Int)]) ∧ a ≤ p ∧ p < b ∧ h' ≤ 2 ∧ RowG w blk off d wr d :=
  ⟨x, h, rfl, hx.1, hx.2, hh, P.row⟩
set_option maxHeartbeats 16000000 in
theorem choosePivot7 (blk off cap n a b : Nat) (d : Array Int) (w : World) (H : RowOf w blk off d) (hn : d.size = n) (hab : a < b) (hb : b ≤ n) :
    Calls Tryz.prog 88 #[.slice (some ⟨blk, off, none⟩) n cap, .int .i64 a, .int .i64 b] w fun e w' =>
      ∃ p h : Nat, e = .returned (.tuple #[.int .i64 (p : Int), .int .i64 (h : Int)]) ∧ a ≤ p ∧ p < b ∧ h ≤ 2 ∧ RowG w blk off d w' d := by
  have hsz := H.fits
  rw [hn] at hsz
  have HO := Lib.hid (fun (x y z s : Nat) (wr : World) (P : Hid (PivAt w blk off d w.heap.size wr s)) (hx : Hid (a ≤ x ∧ x < b)) (hy : Hid (a ≤ y ∧ y < b)) (hz : Hid (a ≤ z ∧ z < b)) (hs : s ≤ 50) => median7 blk off cap n w.heap.size x y z a b s d w wr H hn P.out hx.out hy.out hz.out hb hs)
  have HA := Lib.hid (fun (x s : Nat) (wr : World) (P : Hid (PivAt w blk off d w.heap.size wr s)) (hx : Hid (a + 1 ≤ x ∧ x + 1 < b)) (hs : s ≤ 50) => medianAdjacent7 blk off cap n w.heap.size x a b s d w wr H hn P.out hx.out hb hs)
  have HP := Lib.hid (PivAt.start H 3)
  obtain ⟨l, hl⟩ : ∃ l, b - a = l := ⟨_, rfl⟩
  have hlI : (b : Int) - (a : Int) = (l : Int) := by omega
  obtain ⟨q, hq⟩ : ∃ q, l / 4 = q := ⟨_, rfl⟩
  have hqI : (l : Int) / 4 = (q : Int) := by omega
  have hqT : (l : Int).tdiv 4 = (q : Int) := by rw [Int.tdiv_eq_ediv_of_nonneg (by omega)]; omega
  obtain ⟨i, hi⟩ : ∃ i, a + q = i := ⟨_, rfl⟩
  have hiI : (a : Int) + (q : Int) = (i : Int) := by omega
  obtain ⟨j, hj⟩ : ∃ j, a + q * 2 = j := ⟨_, rfl⟩
  have hjI : (a : Int) + (q : Int) * 2 = (j : Int) := by omega
  obtain ⟨k, hk⟩ : ∃ k, a + q * 3 = k := ⟨_, rfl⟩
  have hkI : (a : Int) + (q : Int) * 3 = (k : Int) := by omega
  have hql : q ≤ n := by omega
  have hll : l ≤ n := by omega
  have hjr := Lib.hid (show a ≤ j ∧ j < b by omega)
  obtain ⟨W0, hW0⟩ : ∃ W0, w.alloc (.cells #[.int .i64 0] 3) = W0 := ⟨_, rfl⟩
  rw [hW0] at HP
  by_cases h8 : 8 ≤ l
  · have g8 : decide ((8 : Int) ≤ (l : Int)) = true := by simp; omega
    have hir := Lib.hid (show a ≤ i ∧ i < b by omega)
    have hkr := Lib.hid (show a ≤ k ∧ k < b by omega)
    by_cases h50 : 50 ≤ l
    · have g50 : decide ((50 : Int) ≤ (l : Int)) = true := by simp; omega
      have hir2 := Lib.hid (show a + 1 ≤ i ∧ i + 1 < b by omega)
      have hjr2 := Lib.hid (show a + 1 ≤ j ∧ j + 1 < b by omega)
      have hkr2 := Lib.hid (show a + 1 ≤ k ∧ k + 1 < b by omega)
      clear H hl hq hi hj hk hn
      go_enter Tryz.func88, Tryz.ntmps88
      go_wp2_with fail
      refine (HA.out i 0 W0 HP hir2 (by omega)).mono ?_
      rintro e w1 ⟨x1, s1, rfl, h1, h3, P⟩
      have HP1 := Lib.hid P
      have HX1 := Lib.hid h1
      have hs1 : s1 ≤ 3 := by omega
      clear h1 h3 P
      go_wp2_with fail
      refine (HA.out j s1 w1 HP1 hjr2 (by omega)).mono ?_
      rintro e w2 ⟨x2, s2, rfl, h1, h3, P⟩
      have HP2 := Lib.hid P
      have HX2 := Lib.hid h1
      have hs2 : s2 ≤ 6 := by omega
      clear h1 h3 P
      go_wp2_with fail
      refine (HA.out k s2 w2 HP2 hkr2 (by omega)).mono ?_
      rintro e w3 ⟨x3, s3, rfl, h1, h3, P⟩
      have HP3 := Lib.hid P
      have HX3 := Lib.hid h1
      have hs3 : s3 ≤ 9 := by omega
      clear h1 h3 P
      go_wp2_with fail
      refine (HO.out x1 x2 x3 s3 w3 HP3 HX1 HX2 HX3 (by omega)).mono ?_
      rintro e w4 ⟨x4, s4, rfl, h1, h3, P⟩
      have HP4 := Lib.hid P
      have HX4 := Lib.hid h1
      have hs4 : s4 ≤ 12 := by omega
      clear h1 h3 P
      have hcn := HP4.out.cnt
      by_cases h0 : s4 = 0
      · have e0 : ((s4 : Int) == 0) = true := by simp; omega
        go_wp2_with fail
        go_ret2
        exact PivAt.told HP4.out HX4.out 1 (by omega)
      · have e0 : ((s4 : Int) == 0) = false := by simp; omega
        by_cases h12 : s4 = 12
        · have e1 : ((s4 : Int) == 12) = true := by simp; omega
          go_wp2_with fail
          go_ret2
          exact PivAt.told HP4.out HX4.out 2 (by omega)
        · have e1 : ((s4 : Int) == 12) = false := by simp; omega
          go_wp2_with fail
          go_ret2
          exact PivAt.told HP4.out HX4.out 0 (by omega)
    · have g50 : decide ((50 : Int) ≤ (l : Int)) = false := by simp; omega
      clear H hl hq hi hj hk hn
      go_enter Tryz.func88, Tryz.ntmps88
      go_wp2_with fail
      refine (HO.out i j k 0 W0 HP hir hjr hkr (by omega)).mono ?_
      rintro e w4 ⟨x4, s4, rfl, h1, h3, P⟩
      have HP4 := Lib.hid P
      have HX4 := Lib.hid h1
      have hs4 : s4 ≤ 12 := by omega
      clear h1 h3 P
      have hcn := HP4.out.cnt
      by_cases h0 : s4 = 0
      · have e0 : ((s4 : Int) == 0) = true := by simp; omega
        go_wp2_with fail
        go_ret2
        exact PivAt.told HP4.out HX4.out 1 (by omega)
      · have e0 : ((s4 : Int) == 0) = false := by simp; omega
        by_cases h12 : s4 = 12
        · have e1 : ((s4 : Int) == 12) = true := by simp; omega
          go_wp2_with fail
          go_ret2
          exact PivAt.told HP4.out HX4.out 2 (by omega)
        · have e1 : ((s4 : Int) == 12) = false := by simp; omega
          go_wp2_with fail
          go_ret2
          exact PivAt.told HP4.out HX4.out 0 (by omega)
  · have g8 : decide ((8 : Int) ≤ (l : Int)) = false := by simp; omega
    have hcn := HP.out.cnt
    clear H hl hq hi hj hk hn
    go_enter Tryz.func88, Tryz.ntmps88
    go_wp2_with fail
    go_ret2
    exact PivAt.told HP.out hjr.out 1 (by omega)
end Go.Proofs.YtjpfcdgaepdcdaaGreat

/- Several texts in one; each begins with a remark that says what it shows and on which conditions. -/
import Derived.Test.YtjpfcdgaepdcdaaGreatKbl
import Derived.Deep.DeepCutAuto
/- slices.Sort's parts at []uint64: partitionEqualOrdered, partitionOrdered. Conditions: the row lies in a block that was there, and has fewer than 2^62 elements; the pivot's place is one of the part's. -/
namespace Go.Proofs.YtjpfcdgaepdcdaaGreat
open Go.RowKit Go.Sort
set_option maxRecDepth 20000
set_option maxHeartbeats 16000000 in
theorem partitionEqual7 (blk off cap n0 a b pivot : Nat) (d : Array Int) (w : World) (H : RowOf w blk off d) (hn : d.size = n0) (hp1 : a ≤ pivot) (hp2 : pivot < b) (hb : b ≤ n0) (PL : Nat × Array Int) (hPL : partEqLoop ltInt a (a + 1) (b - 1) (swp d a pivot) = PL) :
    Calls Tryz.prog 92 #[.slice (some ⟨blk, off, none⟩) n0 cap, .int .i64 a, .int .i64 b, .int .i64 pivot] w fun e w' => e = .returned (.int .i64 (PL.1 : Int)) ∧ RowG w blk off d w' PL.2 := by
  subst hn
  have HH := Lib.hid H
  have hsz := H.fits
  obtain ⟨n, hN⟩ : ∃ n, d.size = n := ⟨_, rfl⟩
  rw [hN] at hsz hb
  have HPL := Lib.hid hPL
  have hal : a < n := by omega
  have hpl : pivot < n := by omega
  rw [hN]
  clear hPL
  go_enter Tryz.func92, Tryz.ntmps92
  go_upto_region 1 with fail
  go_cut [] from 11 to 24 (fun wx => Hid (RowG w blk off d wx (swp d a pivot)))
  case first =>
    obtain ⟨G, HG⟩ := name_cells d
    have hcw := H.cellAt HG
    have hfw := H.soft
    rw [hN] at hcw hfw
    have HR := Lib.hid (RowG.self H)
    clear H
    rcases Nat.eq_or_lt_of_le hp1 with h0 | h0
    · subst h0
      go_region
      all_goals go_wp2_with fail
      go_meet
      exact Lib.hid (HR.out.swapD HH.out HG a a (by omega) (by omega))
    · go_region
      all_goals go_wp2_with fail
      go_meet
      exact Lib.hid (HR.out.swapD HH.out HG a pivot (by omega) (by omega))
  case rest =>
    have HR0 := hcut
    clear hcut H
    go_wp2_with fail
    go_loopw [9, 10] (fun vi vj wr => ∃ (i j : Nat) (dk : Array Int), vi = .int .i64 i ∧ vj = .int .i64 j ∧ a < i ∧ i ≤ j + 1 ∧ j < b ∧ Hid (RowG w blk off d wr dk) ∧ Hid (partEqLoop ltInt a i j dk = PL)) (fun vi vj _ => (intOf7 vj + 1 - intOf7 vi).toNat)
    case atStart => exact ⟨a + 1, b - 1, swp d a pivot, by go_num, by congr 1; omega, by omega, by omega, by omega, HR0, HPL⟩
    case round =>
      clear HR0 HPL
      obtain ⟨i, j, dk, rfl, rfl, hai, hij, hjb, HR, HO⟩ := hrel
      have hsk : dk.size = n := HR.out.1.trans hN
      obtain ⟨G, HG⟩ := name_cells dk
      go_wp2_with fail
      go_loopw [9] (fun vi wr => ∃ k : Nat, vi = .int .i64 k ∧ i ≤ k ∧ k ≤ j + 1 ∧ Hid (RowG w blk off d wr dk) ∧ Hid (scanUp (fun x => !ltInt dk[a]! x) dk j k = scanUp (fun x => !ltInt dk[a]! x) dk j i)) (fun vi _ => (j + 1 - intOf7 vi).toNat)
      case atStart => exact ⟨i, rfl, Nat.le_refl _, hij, HR, Lib.hid rfl⟩
      case round =>
        clear HR
        obtain ⟨k, rfl, hik, hkj, HR, HS⟩ := hrel
        have hcw := (HR.out.of HH.out).cellAt HG
        rw [hsk] at hcw
        by_cases hkj2 : k ≤ j
        · have hkl : k < n := by omega
          cases hl : ltInt (G a) (G k) with
          | false =>
            have HS2 := Lib.hid ((scanUp_go7 (p := (fun x => !ltInt dk[a]! x)) hkj2 (by simp only [← HG.out]; simp [hl])).symm.trans HS.out)
            clear HS
            go_wp2_with fail
            go_quiet ((go_at_call 91; refine Calls.quiet_of_same (less7 _ _ _)))
            go_wp2_with fail
            go_roundw
            case rel => exact ⟨k + 1, by go_num, by omega, by omega, Lib.hid (HR.out.drew _), HS2⟩
            case measure => simp [intOf7]; omega
          | true =>
            have HU := HS.out
            rw [scanUp_stop7 (p := (fun x => !ltInt dk[a]! x)) (.inr (by simp only [← HG.out]; simp [hl]))] at HU
            replace HU := Lib.hid HU.symm
            clear HS
            go_wp2_with fail
            go_quiet ((go_at_call 91; refine Calls.quiet_of_same (less7 _ _ _)))
            go_wp2_with fail
            have HR2 := Lib.hid (HR.out.drew nq)
            clear hcw HR
            generalize wr.drewN nq = w2 at HR2 ⊢
            go_loopw [10] (fun vj wr => ∃ m : Nat, vj = .int .i64 m ∧ k ≤ m + 1 ∧ m ≤ j ∧ Hid (RowG w blk off d wr dk) ∧ Hid (scanDown (fun x => ltInt dk[a]! x) dk k m = scanDown (fun x => ltInt dk[a]! x) dk k j)) (fun vj _ => (intOf7 vj).toNat)
            case atStart => exact ⟨j, rfl, by omega, Nat.le_refl _, HR2, Lib.hid rfl⟩
            case round =>
              clear HR2
              obtain ⟨m, rfl, hkm, hmj, HR, HD⟩ := hrel
              have hcw := (HR.out.of HH.out).cellAt HG
              rw [hsk] at hcw
              have hml : m < n := by omega
              by_cases hkm2 : k ≤ m
              · have hm0 : 0 < m := by omega
                cases hl3 : ltInt (G a) (G m) with
                | true =>
                  have HD2 := Lib.hid ((scanDown_go7 (p := (fun x => ltInt dk[a]! x)) hkm2 hm0 (by simp only [← HG.out]; simp [hl3])).symm.trans HD.out)
                  clear HD
                  go_wp2_with fail
                  go_quiet ((go_at_call 91; refine Calls.quiet_of_same (less7 _ _ _)))
                  go_wp2_with fail
                  go_roundw
                  case rel => exact ⟨m - 1, by congr 1; omega, by omega, by omega, Lib.hid (HR.out.drew _), HD2⟩
                  case measure => simp [intOf7]; omega
                | false =>
                  have HD2 := HD.out
                  rw [scanDown_stop7 (p := (fun x => ltInt dk[a]! x)) (.inr (by simp only [← HG.out]; simp [hl3]))] at HD2
                  have hne : k ≠ m := fun h => by rw [h] at hl; rw [hl] at hl3; cases hl3
                  have hkl2 : k < m := by omega
                  have hnot : ¬ m < k := by omega
                  have HO2 := Lib.hid ((partEqLoop_on7 HU.out HD2.symm hnot).symm.trans HO.out)
                  clear HD HD2 hne
                  go_wp2_with fail
                  go_quiet ((go_at_call 91; refine Calls.quiet_of_same (less7 _ _ _)))
                  go_wp2_with fail
                  have hfw : ∀ t, t < n → (wr.drewN nq).frozen? ⟨blk, off + t, none⟩ = false := by
                    have h := (HR.out.of HH.out).soft
                    rw [hsk] at h
                    exact h
                  have hcw2 : ∀ t, t < n → (wr.drewN nq).cell? ⟨blk, off + t, none⟩ = some (.int .u64 (G t)) := hcw
                  have HR2 := Lib.hid (HR.out.drew nq)
                  clear hcw HR
                  generalize wr.drewN nq = w2 at HR2 hcw2 hfw ⊢
                  go_region
                  all_goals go_wp2_with fail
                  go_roundw
                  case rel => exact ⟨k + 1, m - 1, swp dk k m, by go_num, by congr 1; omega, by omega, by omega, by omega, Lib.hid (HR2.out.swapD HH.out HG k m (by omega) (by omega)), HO2⟩
                  case measure => simp [intOf7]; omega
              · have HD2 := HD.out
                rw [scanDown_stop7 (p := (fun x => ltInt dk[a]! x)) (.inl (by omega))] at HD2
                have hmk : m < k := by omega
                have HO2 := Lib.hid (HO.out.symm.trans (partEqLoop_end7 HU.out HD2.symm hmk))
                clear HD HD2
                go_wp2_with fail
                go_quiet ((go_at_call 91; refine Calls.quiet_of_same (less7 _ _ _)))
                go_wp2_with fail
                go_ret
                exact ⟨by rw [HO2.out]; rfl, by rw [HO2.out]; exact HR.out.drew _⟩
        · have HU := HS.out
          rw [scanUp_stop7 (p := (fun x => !ltInt dk[a]! x)) (.inl (by omega))] at HU
          replace HU := Lib.hid HU.symm
          clear HS
          go_wp2_with fail
          go_quiet ((go_at_call 91; refine Calls.quiet_of_same (less7 _ _ _)))
          go_wp2_with fail
          have HR2 := Lib.hid (HR.out.drew nq)
          clear hcw HR
          generalize wr.drewN nq = w2 at HR2 ⊢
          go_loopw [10] (fun vj wr => ∃ m : Nat, vj = .int .i64 m ∧ k ≤ m + 1 ∧ m ≤ j ∧ Hid (RowG w blk off d wr dk) ∧ Hid (scanDown (fun x => ltInt dk[a]! x) dk k m = scanDown (fun x => ltInt dk[a]! x) dk k j)) (fun vj _ => (intOf7 vj).toNat)
          case atStart => exact ⟨j, rfl, by omega, Nat.le_refl _, HR2, Lib.hid rfl⟩
          case round =>
            clear HR2
            obtain ⟨m, rfl, hkm, hmj, HR, HD⟩ := hrel
            have hcw := (HR.out.of HH.out).cellAt HG
            rw [hsk] at hcw
            have hml : m < n := by omega
            by_cases hkm2 : k ≤ m
            · exfalso
              omega
            · have HD2 := HD.out
              rw [scanDown_stop7 (p := (fun x => ltInt dk[a]! x)) (.inl (by omega))] at HD2
              have hmk : m < k := by omega
              have HO2 := Lib.hid (HO.out.symm.trans (partEqLoop_end7 HU.out HD2.symm hmk))
              clear HD HD2
              go_wp2_with fail
              go_quiet ((go_at_call 91; refine Calls.quiet_of_same (less7 _ _ _)))
              go_wp2_with fail
              go_ret
              exact ⟨by rw [HO2.out]; rfl, by rw [HO2.out]; exact HR.out.drew _⟩
set_option maxHeartbeats 32000000 in
theorem partition7 (blk off cap n0 a b pivot : Nat) (d : Array Int) (w : World) (H : RowOf w blk off d) (hn : d.size = n0) (hp1 : a ≤ pivot) (hp2 : pivot < b) (hb : b ≤ n0) (PL : Nat × Array Int) (hPL : partLoop ltInt a (a + 1) (b - 1) (swp d a pivot) = PL) :
    Calls Tryz.prog 93 #[.slice (some ⟨blk, off, none⟩) n0 cap, .int .i64 a, .int .i64 b, .int .i64 pivot] w fun e w' => ∃ ap : Bool, e = .returned (.tuple #[.int .i64 (PL.1 : Int), .bool ap]) ∧ RowG w blk off d w' (swp PL.2 PL.1 a) := by
  subst hn
  have HH := Lib.hid H
  have hsz := H.fits
  obtain ⟨n, hN⟩ : ∃ n, d.size = n := ⟨_, rfl⟩
  rw [hN] at hsz hb
  have HPL := Lib.hid hPL
  have hal : a < n := by omega
  have hpl : pivot < n := by omega
  rw [hN]
  clear hPL
  go_enter Tryz.func93, Tryz.ntmps93
  go_upto_region 1 with fail
  go_cut [] from 12 to 25 (fun wx => Hid (RowG w blk off d wx (swp d a pivot)))
  case first =>
    obtain ⟨G, HG⟩ := name_cells d
    have hcw := H.cellAt HG
    have hfw := H.soft
    rw [hN] at hcw hfw
    have HR := Lib.hid (RowG.self H)
    clear H
    rcases Nat.eq_or_lt_of_le hp1 with h0 | h0
    · subst h0
      go_region
      all_goals go_wp2_with fail
      go_meet
      exact Lib.hid (HR.out.swapD HH.out HG a a (by omega) (by omega))
    · go_region
      all_goals go_wp2_with fail
      go_meet
      exact Lib.hid (HR.out.swapD HH.out HG a pivot (by omega) (by omega))
  case rest =>
    have HR0 := hcut
    clear hcut H
    obtain ⟨i, hi⟩ : ∃ i, a + 1 = i := ⟨_, rfl⟩
    obtain ⟨j, hj⟩ : ∃ j, b - 1 = j := ⟨_, rfl⟩
    obtain ⟨dk, hdk⟩ : ∃ dk, swp d a pivot = dk := ⟨_, rfl⟩
    have hiI : (a : Int) + 1 = (i : Int) := by omega
    have hjI : (b : Int) - 1 = (j : Int) := by omega
    have hai : a < i := by omega
    have hij : i ≤ j + 1 := by omega
    have hjb : j < b := by omega
    rw [hdk] at HR0
    have HO := HPL
    rw [hi, hj, hdk] at HO
    have HR := HR0
    have hsk : dk.size = n := HR.out.1.trans hN
    obtain ⟨G, HG⟩ := name_cells dk
    clear hi hj hdk HPL HR0
    go_wp2_with fail
    clear hiI hjI
    go_loopw [10] (fun vi wr => ∃ k : Nat, vi = .int .i64 k ∧ i ≤ k ∧ k ≤ j + 1 ∧ Hid (RowG w blk off d wr dk) ∧ Hid (scanUp (fun x => ltInt x dk[a]!) dk j k = scanUp (fun x => ltInt x dk[a]!) dk j i)) (fun vi _ => (j + 1 - intOf7 vi).toNat)
    case atStart => exact ⟨i, rfl, Nat.le_refl _, hij, HR, Lib.hid rfl⟩
    case round =>
      clear HR
      obtain ⟨k, rfl, hik, hkj, HR, HS⟩ := hrel
      have hcw := (HR.out.of HH.out).cellAt HG
      rw [hsk] at hcw
      by_cases hkj2 : k ≤ j
      · have hkl : k < n := by omega
        cases hl : ltInt (G k) (G a) with
        | true =>
          have HS2 := Lib.hid ((scanUp_go7 (p := (fun x => ltInt x dk[a]!)) hkj2 (by simp only [← HG.out]; simp [hl])).symm.trans HS.out)
          clear HS
          go_wp2_with fail
          go_quiet ((go_at_call 91; refine Calls.quiet_of_same (less7 _ _ _)))
          go_wp2_with fail
          go_roundw
          case rel => exact ⟨k + 1, by go_num, by omega, by omega, Lib.hid (HR.out.drew _), HS2⟩
          case measure => simp [intOf7]; omega
        | false =>
          have HU := HS.out
          rw [scanUp_stop7 (p := (fun x => ltInt x dk[a]!)) (.inr (by simp only [← HG.out]; simp [hl]))] at HU
          replace HU := Lib.hid HU.symm
          clear HS
          go_wp2_with fail
          go_quiet ((go_at_call 91; refine Calls.quiet_of_same (less7 _ _ _)))
          go_wp2_with fail
          have HR2 := Lib.hid (HR.out.drew nq)
          clear hcw HR
          generalize wr.drewN nq = w2 at HR2 ⊢
          go_loopw [11] (fun vj wr => ∃ m : Nat, vj = .int .i64 m ∧ k ≤ m + 1 ∧ m ≤ j ∧ Hid (RowG w blk off d wr dk) ∧ Hid (scanDown (fun x => !ltInt x dk[a]!) dk k m = scanDown (fun x => !ltInt x dk[a]!) dk k j)) (fun vj _ => (intOf7 vj).toNat)
          case atStart => exact ⟨j, rfl, by omega, Nat.le_refl _, HR2, Lib.hid rfl⟩
          case round =>
            clear HR2
            obtain ⟨m, rfl, hkm, hmj, HR, HD⟩ := hrel
            have hcw := (HR.out.of HH.out).cellAt HG
            rw [hsk] at hcw
            have hml : m < n := by omega
            by_cases hkm2 : k ≤ m
            · have hm0 : 0 < m := by omega
              cases hl3 : ltInt (G m) (G a) with
              | false =>
                have HD2 := Lib.hid ((scanDown_go7 (p := (fun x => !ltInt x dk[a]!)) hkm2 hm0 (by simp only [← HG.out]; simp [hl3])).symm.trans HD.out)
                clear HD
                go_wp2_with fail
                go_quiet ((go_at_call 91; refine Calls.quiet_of_same (less7 _ _ _)))
                go_wp2_with fail
                go_roundw
                case rel => exact ⟨m - 1, by congr 1; omega, by omega, by omega, Lib.hid (HR.out.drew _), HD2⟩
                case measure => simp [intOf7]; omega
              | true =>
                have HD2 := HD.out
                rw [scanDown_stop7 (p := (fun x => !ltInt x dk[a]!)) (.inr (by simp only [← HG.out]; simp [hl3]))] at HD2
                have hne : k ≠ m := fun h => by rw [h] at hl; rw [hl] at hl3; cases hl3
                have hkl2 : k < m := by omega
                have hnot : ¬ m < k := by omega
                have HO2 := Lib.hid ((partLoop_on7 HU.out HD2.symm hnot).symm.trans HO.out)
                clear HD HD2 hne
                go_wp2_with fail
                go_quiet ((go_at_call 91; refine Calls.quiet_of_same (less7 _ _ _)))
                go_wp2_with fail
                have hfw : ∀ t, t < n → (wr.drewN nq).frozen? ⟨blk, off + t, none⟩ = false := by
                  have h := (HR.out.of HH.out).soft
                  rw [hsk] at h
                  exact h
                have hcw2 : ∀ t, t < n → (wr.drewN nq).cell? ⟨blk, off + t, none⟩ = some (.int .u64 (G t)) := hcw
                have HR2 := Lib.hid (HR.out.drew nq)
                clear hcw HR
                generalize wr.drewN nq = w2 at HR2 hcw2 hfw ⊢
                go_region
                all_goals go_wp2_with fail
                have HR3 := Lib.hid (HR2.out.swapD HH.out HG k m (by omega) (by omega))
                clear hcw2 hfw HR2 HU HG
                go_loopw [10, 11] (fun vi vj wr => ∃ (i j : Nat) (dk : Array Int), vi = .int .i64 i ∧ vj = .int .i64 j ∧ a < i ∧ i ≤ j + 1 ∧ j < b ∧ Hid (RowG w blk off d wr dk) ∧ Hid (partLoop ltInt a i j dk = PL)) (fun vi vj _ => (intOf7 vj + 1 - intOf7 vi).toNat)
                case atStart => exact ⟨k + 1, m - 1, swp dk k m, by go_num, by congr 1; omega, by omega, by omega, by omega, HR3, HO2⟩
                case round =>
                  clear HR3 HO2 hik hkj hkj2 hkl hl hij hjb hkm hmj hml hkm2 hm0 hl3 hkl2 hnot
                  rename_i i0 j0 dk0 hsk0
                  clear hai
                  obtain ⟨i, j, dk, rfl, rfl, hai, hij, hjb, HR, HO⟩ := hrel
                  have hsk : dk.size = n := HR.out.1.trans hN
                  obtain ⟨G, HG⟩ := name_cells dk
                  go_wp2_with fail
                  go_loopw [10] (fun vi wr => ∃ k : Nat, vi = .int .i64 k ∧ i ≤ k ∧ k ≤ j + 1 ∧ Hid (RowG w blk off d wr dk) ∧ Hid (scanUp (fun x => ltInt x dk[a]!) dk j k = scanUp (fun x => ltInt x dk[a]!) dk j i)) (fun vi _ => (j + 1 - intOf7 vi).toNat)
                  case atStart => exact ⟨i, rfl, Nat.le_refl _, hij, HR, Lib.hid rfl⟩
                  case round =>
                    clear HR
                    obtain ⟨k, rfl, hik, hkj, HR, HS⟩ := hrel
                    have hcw := (HR.out.of HH.out).cellAt HG
                    rw [hsk] at hcw
                    by_cases hkj2 : k ≤ j
                    · have hkl : k < n := by omega
                      cases hl : ltInt (G k) (G a) with
                      | true =>
                        have HS2 := Lib.hid ((scanUp_go7 (p := (fun x => ltInt x dk[a]!)) hkj2 (by simp only [← HG.out]; simp [hl])).symm.trans HS.out)
                        clear HS
                        go_wp2_with fail
                        go_quiet ((go_at_call 91; refine Calls.quiet_of_same (less7 _ _ _)))
                        go_wp2_with fail
                        go_roundw
                        case rel => exact ⟨k + 1, by go_num, by omega, by omega, Lib.hid (HR.out.drew _), HS2⟩
                        case measure => simp [intOf7]; omega
                      | false =>
                        have HU := HS.out
                        rw [scanUp_stop7 (p := (fun x => ltInt x dk[a]!)) (.inr (by simp only [← HG.out]; simp [hl]))] at HU
                        replace HU := Lib.hid HU.symm
                        clear HS
                        go_wp2_with fail
                        go_quiet ((go_at_call 91; refine Calls.quiet_of_same (less7 _ _ _)))
                        go_wp2_with fail
                        have HR2 := Lib.hid (HR.out.drew nq)
                        clear hcw HR
                        generalize wr.drewN nq = w2 at HR2 ⊢
                        go_loopw [11] (fun vj wr => ∃ m : Nat, vj = .int .i64 m ∧ k ≤ m + 1 ∧ m ≤ j ∧ Hid (RowG w blk off d wr dk) ∧ Hid (scanDown (fun x => !ltInt x dk[a]!) dk k m = scanDown (fun x => !ltInt x dk[a]!) dk k j)) (fun vj _ => (intOf7 vj).toNat)
                        case atStart => exact ⟨j, rfl, by omega, Nat.le_refl _, HR2, Lib.hid rfl⟩
                        case round =>
                          clear HR2
                          obtain ⟨m, rfl, hkm, hmj, HR, HD⟩ := hrel
                          have hcw := (HR.out.of HH.out).cellAt HG
                          rw [hsk] at hcw
                          have hml : m < n := by omega
                          by_cases hkm2 : k ≤ m
                          · have hm0 : 0 < m := by omega
                            cases hl3 : ltInt (G m) (G a) with
                            | false =>
                              have HD2 := Lib.hid ((scanDown_go7 (p := (fun x => !ltInt x dk[a]!)) hkm2 hm0 (by simp only [← HG.out]; simp [hl3])).symm.trans HD.out)
                              clear HD
                              go_wp2_with fail
                              go_quiet ((go_at_call 91; refine Calls.quiet_of_same (less7 _ _ _)))
                              go_wp2_with fail
                              go_roundw
                              case rel => exact ⟨m - 1, by congr 1; omega, by omega, by omega, Lib.hid (HR.out.drew _), HD2⟩
                              case measure => simp [intOf7]; omega
                            | true =>
                              have HD2 := HD.out
                              rw [scanDown_stop7 (p := (fun x => !ltInt x dk[a]!)) (.inr (by simp only [← HG.out]; simp [hl3]))] at HD2
                              have hne : k ≠ m := fun h => by rw [h] at hl; rw [hl] at hl3; cases hl3
                              have hkl2 : k < m := by omega
                              have hnot : ¬ m < k := by omega
                              have HO2 := Lib.hid ((partLoop_on7 HU.out HD2.symm hnot).symm.trans HO.out)
                              clear HD HD2 hne
                              go_wp2_with fail
                              go_quiet ((go_at_call 91; refine Calls.quiet_of_same (less7 _ _ _)))
                              go_wp2_with fail
                              have hfw : ∀ t, t < n → (wr.drewN nq).frozen? ⟨blk, off + t, none⟩ = false := by
                                have h := (HR.out.of HH.out).soft
                                rw [hsk] at h
                                exact h
                              have hcw2 : ∀ t, t < n → (wr.drewN nq).cell? ⟨blk, off + t, none⟩ = some (.int .u64 (G t)) := hcw
                              have HR2 := Lib.hid (HR.out.drew nq)
                              clear hcw HR
                              generalize wr.drewN nq = w2 at HR2 hcw2 hfw ⊢
                              go_region
                              all_goals go_wp2_with fail
                              go_roundw
                              case rel => exact ⟨k + 1, m - 1, swp dk k m, by go_num, by congr 1; omega, by omega, by omega, by omega, Lib.hid (HR2.out.swapD HH.out HG k m (by omega) (by omega)), HO2⟩
                              case measure => simp [intOf7]; omega
                          · have HD2 := HD.out
                            rw [scanDown_stop7 (p := (fun x => !ltInt x dk[a]!)) (.inl (by omega))] at HD2
                            have hmk : m < k := by omega
                            have HO2 := Lib.hid (HO.out.symm.trans (partLoop_end7 HU.out HD2.symm hmk))
                            clear HD HD2
                            go_wp2_with fail
                            go_quiet ((go_at_call 91; refine Calls.quiet_of_same (less7 _ _ _)))
                            go_wp2_with fail
                            have hfw : ∀ t, t < n → (wr.drewN nq).frozen? ⟨blk, off + t, none⟩ = false := by
                              have h := (HR.out.of HH.out).soft
                              rw [hsk] at h
                              exact h
                            have hcw2 : ∀ t, t < n → (wr.drewN nq).cell? ⟨blk, off + t, none⟩ = some (.int .u64 (G t)) := hcw
                            have HR2 := Lib.hid (HR.out.drew nq)
                            clear hcw HR
                            generalize wr.drewN nq = w2 at HR2 hcw2 hfw ⊢
                            rcases Nat.eq_or_lt_of_le (show a ≤ m by omega) with h0 | h0
                            · subst h0
                              go_region
                              all_goals go_wp2_with fail
                              go_ret2
                              exact ⟨false, by rw [HO2.out]; rfl, by rw [HO2.out]; exact HR2.out.swapD HH.out HG a a (by omega) (by omega)⟩
                            · go_region
                              all_goals go_wp2_with fail
                              go_ret2
                              exact ⟨false, by rw [HO2.out]; rfl, by rw [HO2.out]; exact HR2.out.swapD HH.out HG m a (by omega) (by omega)⟩
                    · have HU := HS.out
                      rw [scanUp_stop7 (p := (fun x => ltInt x dk[a]!)) (.inl (by omega))] at HU
                      replace HU := Lib.hid HU.symm
                      clear HS
                      go_wp2_with fail
                      go_quiet ((go_at_call 91; refine Calls.quiet_of_same (less7 _ _ _)))
                      go_wp2_with fail
                      have HR2 := Lib.hid (HR.out.drew nq)
                      clear hcw HR
                      generalize wr.drewN nq = w2 at HR2 ⊢
                      go_loopw [11] (fun vj wr => ∃ m : Nat, vj = .int .i64 m ∧ k ≤ m + 1 ∧ m ≤ j ∧ Hid (RowG w blk off d wr dk) ∧ Hid (scanDown (fun x => !ltInt x dk[a]!) dk k m = scanDown (fun x => !ltInt x dk[a]!) dk k j)) (fun vj _ => (intOf7 vj).toNat)
                      case atStart => exact ⟨j, rfl, by omega, Nat.le_refl _, HR2, Lib.hid rfl⟩
                      case round =>
                        clear HR2
                        obtain ⟨m, rfl, hkm, hmj, HR, HD⟩ := hrel
                        have hcw := (HR.out.of HH.out).cellAt HG
                        rw [hsk] at hcw
                        have hml : m < n := by omega
                        by_cases hkm2 : k ≤ m
                        · exfalso
                          omega
                        · have HD2 := HD.out
                          rw [scanDown_stop7 (p := (fun x => !ltInt x dk[a]!)) (.inl (by omega))] at HD2
                          have hmk : m < k := by omega
                          have HO2 := Lib.hid (HO.out.symm.trans (partLoop_end7 HU.out HD2.symm hmk))
                          clear HD HD2
                          go_wp2_with fail
                          go_quiet ((go_at_call 91; refine Calls.quiet_of_same (less7 _ _ _)))
                          go_wp2_with fail
                          have hfw : ∀ t, t < n → (wr.drewN nq).frozen? ⟨blk, off + t, none⟩ = false := by
                            have h := (HR.out.of HH.out).soft
                            rw [hsk] at h
                            exact h
                          have hcw2 : ∀ t, t < n → (wr.drewN nq).cell? ⟨blk, off + t, none⟩ = some (.int .u64 (G t)) := hcw
                          have HR2 := Lib.hid (HR.out.drew nq)
                          clear hcw HR
                          generalize wr.drewN nq = w2 at HR2 hcw2 hfw ⊢
                          rcases Nat.eq_or_lt_of_le (show a ≤ m by omega) with h0 | h0
                          · subst h0
                            go_region
                            all_goals go_wp2_with fail
                            go_ret2
                            exact ⟨false, by rw [HO2.out]; rfl, by rw [HO2.out]; exact HR2.out.swapD HH.out HG a a (by omega) (by omega)⟩
                          · go_region
                            all_goals go_wp2_with fail
                            go_ret2
                            exact ⟨false, by rw [HO2.out]; rfl, by rw [HO2.out]; exact HR2.out.swapD HH.out HG m a (by omega) (by omega)⟩
            · have HD2 := HD.out
              rw [scanDown_stop7 (p := (fun x => !ltInt x dk[a]!)) (.inl (by omega))] at HD2
              have hmk : m < k := by omega
              have HO2 := Lib.hid (HO.out.symm.trans (partLoop_end7 HU.out HD2.symm hmk))
              clear HD HD2
              go_wp2_with fail
              go_quiet ((go_at_call 91; refine Calls.quiet_of_same (less7 _ _ _)))
              go_wp2_with fail
              have hfw : ∀ t, t < n → (wr.drewN nq).frozen? ⟨blk, off + t, none⟩ = false := by
                have h := (HR.out.of HH.out).soft
                rw [hsk] at h
                exact h
              have hcw2 : ∀ t, t < n → (wr.drewN nq).cell? ⟨blk, off + t, none⟩ = some (.int .u64 (G t)) := hcw
              have HR2 := Lib.hid (HR.out.drew nq)
              clear hcw HR
              generalize wr.drewN nq = w2 at HR2 hcw2 hfw ⊢
              rcases Nat.eq_or_lt_of_le (show a ≤ m by omega) with h0 | h0
              · subst h0
                go_region
                all_goals go_wp2_with fail
                go_ret2
                exact ⟨true, by rw [HO2.out]; rfl, by rw [HO2.out]; exact HR2.out.swapD HH.out HG a a (by omega) (by omega)⟩
              · go_region
                all_goals go_wp2_with fail
                go_ret2
                exact ⟨true, by rw [HO2.out]; rfl, by rw [HO2.out]; exact HR2.out.swapD HH.out HG m a (by omega) (by omega)⟩
      · have HU := HS.out
        rw [scanUp_stop7 (p := (fun x => ltInt x dk[a]!)) (.inl (by omega))] at HU
        replace HU := Lib.hid HU.symm
        clear HS
        go_wp2_with fail
        go_quiet ((go_at_call 91; refine Calls.quiet_of_same (less7 _ _ _)))
        go_wp2_with fail
        have HR2 := Lib.hid (HR.out.drew nq)
        clear hcw HR
        generalize wr.drewN nq = w2 at HR2 ⊢
        go_loopw [11] (fun vj wr => ∃ m : Nat, vj = .int .i64 m ∧ k ≤ m + 1 ∧ m ≤ j ∧ Hid (RowG w blk off d wr dk) ∧ Hid (scanDown (fun x => !ltInt x dk[a]!) dk k m = scanDown (fun x => !ltInt x dk[a]!) dk k j)) (fun vj _ => (intOf7 vj).toNat)
        case atStart => exact ⟨j, rfl, by omega, Nat.le_refl _, HR2, Lib.hid rfl⟩
        case round =>
          clear HR2
          obtain ⟨m, rfl, hkm, hmj, HR, HD⟩ := hrel
          have hcw := (HR.out.of HH.out).cellAt HG
          rw [hsk] at hcw
          have hml : m < n := by omega
          by_cases hkm2 : k ≤ m
          · exfalso
            omega
          · have HD2 := HD.out
            rw [scanDown_stop7 (p := (fun x => !ltInt x dk[a]!)) (.inl (by omega))] at HD2
            have hmk : m < k := by omega
            have HO2 := Lib.hid (HO.out.symm.trans (partLoop_end7 HU.out HD2.symm hmk))
            clear HD HD2
            go_wp2_with fail
            go_quiet ((go_at_call 91; refine Calls.quiet_of_same (less7 _ _ _)))
            go_wp2_with fail
            have hfw : ∀ t, t < n → (wr.drewN nq).frozen? ⟨blk, off + t, none⟩ = false := by
              have h := (HR.out.of HH.out).soft
              rw [hsk] at h
              exact h
            have hcw2 : ∀ t, t < n → (wr.drewN nq).cell? ⟨blk, off + t, none⟩ = some (.int .u64 (G t)) := hcw
            have HR2 := Lib.hid (HR.out.drew nq)
            clear hcw HR
            generalize wr.drewN nq = w2 at HR2 hcw2 hfw ⊢
            rcases Nat.eq_or_lt_of_le (show a ≤ m by omega) with h0 | h0
            · subst h0
              go_region
              all_goals go_wp2_with fail
              go_ret2
              exact ⟨true, by rw [HO2.out]; rfl, by rw [HO2.out]; exact HR2.out.swapD HH.out HG a a (by omega) (by omega)⟩
            · go_region
              all_goals go_wp2_with fail
              go_ret2
              exact ⟨true, by rw [HO2.out]; rfl, by rw [HO2.out]; exact HR2.out.swapD HH.out HG m a (by omega) (by omega)⟩
end Go.Proofs.YtjpfcdgaepdcdaaGreat

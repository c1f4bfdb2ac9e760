/- Several texts in one; each begins with a remark that says what it shows and on which conditions. -/
import Derived.Test.YtjpfcdgaepdcdaaGreatKbl
import Derived.Test.YtjpfcdgaepdcdaaGreatKas
import Derived.Lib.ItoaNum
/- slices.Sort's parts at []uint64: xorshift.Next, nextPowerOfTwo, breakPatternsOrdered: some swaps within the part, whichever. Conditions: the row lies in a block that was there, and has fewer than 2^62 elements; the part has 8 at least. -/
namespace Go.Proofs.YtjpfcdgaepdcdaaGreat
open Go.RowKit Go.Sort
set_option maxRecDepth 20000
theorem xor_some7 (x y : Int) : ∃ A : Nat, A < 18446744073709551616 ∧ bits .xor .u64 x y = (A : Int) := by
  obtain ⟨z, hz⟩ : ∃ z : Nat, bits .xor .u64 x y = IntKind.u64.wrap (z : Int) := ⟨_, rfl⟩
  refine ⟨z % 18446744073709551616, Nat.mod_lt _ (by omega), ?_⟩
  rw [hz, IntKind.wrap_u64]
  omega
theorem setCell_twice7 (w : World) (g i : Nat) (v v' : Value) : (w.setCell ⟨g, i, none⟩ v).setCell ⟨g, i, none⟩ v' = w.setCell ⟨g, i, none⟩ v' := by
  rw [setCell_eq, setCell_eq, setCell_eq, mapBlock_mapBlock]
  exact mapBlock_congr _ _ _ _ fun c _ _ _ => by
    apply Array.ext_getElem?
    intro k
    simp only [Array.getElem?_setIfInBounds, Array.size_setIfInBounds]
    split <;> rfl
theorem frozen_set7 (u : World) (a b : Addr) (v : Value) : (u.setCell a v).frozen? b = u.frozen? b := by
  rcases a with ⟨k, i, _ | s⟩
  · rw [setCell_eq]; exact frozen?_mapBlock _ _ _ _
  · simp
set_option maxHeartbeats 4000000 in
theorem next7 (g X : Nat) (w : World) (hc : w.cell? ⟨g, 0, none⟩ = some (.int .u64 X)) (hf : w.frozen? ⟨g, 0, none⟩ = false) :
    Calls Tryz.prog 116 #[.pointer (some ⟨g, 0, none⟩)] w fun e w' => ∃ Y : Nat, Y < 18446744073709551616 ∧ e = .returned (.int .u64 (Y : Int)) ∧ w' = (w.setCell ⟨g, 0, none⟩ (.int .u64 (Y : Int))).drewN 3 := by
  obtain ⟨A, _, e1⟩ := xor_some7 (X : Int) (IntKind.u64.wrap ((X : Int) * 8192))
  obtain ⟨B, _, e2⟩ := xor_some7 (A : Int) ((A : Int) / 128)
  obtain ⟨C, lC, e3⟩ := xor_some7 (B : Int) (IntKind.u64.wrap ((B : Int) * 131072))
  have HL := Lib.hid lC
  have hss : ∀ v v', (w.setCell ⟨g, 0, none⟩ v).setCell ⟨g, 0, none⟩ v' = w.setCell ⟨g, 0, none⟩ v' := setCell_twice7 w g 0
  clear lC
  go_enter Tryz.func116, Tryz.ntmps116
  go_wp2_with fail
  go_region
  all_goals go_wp2_with fail
  all_goals go_region
  all_goals go_wp2_with fail
  all_goals go_region
  all_goals go_wp2_with fail
  go_ret
  exact ⟨C, HL.out, rfl, rfl⟩
set_option maxHeartbeats 4000000 in
theorem power7 (n : Nat) (h0 : 0 < n) (hn : n < 4611686018427387904) (w : World) :
    Calls Tryz.prog 115 #[.int .i64 n] w fun e w' => ∃ M : Nat, e = .returned (.int .u64 (M : Int)) ∧ 1 ≤ M ∧ M ≤ 2 * n ∧ w = w' := by
  have HLn := Lib.hid (Tryz.bits_Len (n : Int) w (by omega) (by omega))
  obtain ⟨b1, b2, b3⟩ := Lib.bitLenAux_bounds 64 n (by omega) (by omega)
  obtain ⟨L, hL⟩ : ∃ L, Lib.bitLen n = L := ⟨_, rfl⟩
  have hL2 : Lib.bitLenAux 64 n = L := hL
  rw [hL2] at b1 b2 b3
  rw [Int.toNat_natCast, hL] at HLn
  obtain ⟨K, rfl⟩ : ∃ K, L = K + 1 := ⟨L - 1, by omega⟩
  rw [Nat.add_sub_cancel] at b2
  have hK : K < 62 := by
    rcases Nat.lt_or_ge K 62 with h | h
    · exact h
    · have := Nat.pow_le_pow_right (n := 2) (by omega) h
      omega
  obtain ⟨M, hM⟩ : ∃ M, 2 ^ (K + 1) = M := ⟨_, rfl⟩
  have hM1 : M ≤ 2 * n := by rw [← hM, Nat.pow_succ]; omega
  have hM0 : 1 ≤ M := by rw [← hM]; exact Nat.one_le_two_pow
  have hMI : (2 : Int) ^ (K + 1) = (M : Int) := by rw [← hM]; push_cast; rfl
  have hw : IntKind.u64.wrap (M : Int) = (M : Int) := by rw [IntKind.wrap_u64]; omega
  clear hM hL hL2 b1 b2 b3
  go_enter Tryz.func115, Tryz.ntmps115
  go_wp2_with fail
  refine (HLn.out).mono ?_
  rintro e w1 ⟨rfl, rfl⟩
  go_wp2_with fail
  go_ret
  exact ⟨M, by first | rfl | (simp only [hMI, hw]), hM0, hM1, rfl⟩
/-- The row holds dk; what is drawn from stands in a block of the call's own. -/
structure XorAt (w : World) (blk off : Nat) (d : Array Int) (g : Nat) (wr : World) (dk : Array Int) : Prop where
  row : RowG w blk off d wr dk
  far : w.heap.size ≤ g
  cnt : ∃ X : Nat, wr.cell? ⟨g, 0, none⟩ = some (.int .u64 (X : Int))
  soft : wr.frozen? ⟨g, 0, none⟩ = false
section
variable {w wr : World} {blk off g : Nat} {d dk : Array Int}
theorem XorAt.put (P : XorAt w blk off d g wr dk) (Y q : Nat) : XorAt w blk off d g ((wr.setCell ⟨g, 0, none⟩ (.int .u64 (Y : Int))).drewN q) dk := by
  obtain ⟨X, hX⟩ := P.cnt
  exact ⟨(P.row.fresh P.far 0 _).drew q, P.far, ⟨Y, World.cell?_setCell_same _ _ _ hX⟩, (frozen_set7 _ _ _ _).trans P.soft⟩
theorem XorAt.swapD (H : RowOf w blk off d) (P : XorAt w blk off d g wr dk) {G : Nat → Int} (hG : Hid (∀ t, G t = dk[t]!)) (j k : Nat) (hj : j < dk.size) (hk : k < dk.size) :
    XorAt w blk off d g ((wr.setCell ⟨blk, off + j, none⟩ (.int .u64 (G k))).setCell ⟨blk, off + k, none⟩ (.int .u64 (G j))).drew (swp dk j k) := by
  obtain ⟨X, hX⟩ := P.cnt
  have hne : ∀ i, (⟨blk, i, none⟩ : Addr) ≠ ⟨g, 0, none⟩ := fun i e => by injection e with e1; have := H.old; have := P.far; omega
  refine ⟨P.row.swapD H hG j k hj hk, P.far, ⟨X, ?_⟩, ?_⟩
  · show ((wr.setCell ⟨blk, off + j, none⟩ (.int .u64 (G k))).setCell ⟨blk, off + k, none⟩ (.int .u64 (G j))).cell? ⟨g, 0, none⟩ = _
    rw [World.cell?_setCell_other _ _ _ _ (hne _), World.cell?_setCell_other _ _ _ _ (hne _)]
    exact hX
  · show ((wr.setCell ⟨blk, off + j, none⟩ (.int .u64 (G k))).setCell ⟨blk, off + k, none⟩ (.int .u64 (G j))).frozen? ⟨g, 0, none⟩ = _
    rw [frozen_set7, frozen_set7]
    exact P.soft
end
set_option maxHeartbeats 32000000 in
theorem breakPatterns7 (blk off cap n a b : Nat) (d : Array Int) (w : World) (H : RowOf w blk off d) (hn : d.size = n) (h8 : a + 8 ≤ b) (hb : b ≤ n) :
    Calls Tryz.prog 87 #[.slice (some ⟨blk, off, none⟩) n cap, .int .i64 a, .int .i64 b] w fun e w' => e = .returned (.tuple #[]) ∧ ∃ d', PermIn a b d d' ∧ RowG w blk off d w' d' := by
  have HN := Lib.hid hn
  have HH := Lib.hid H
  have hsz := H.fits
  rw [hn] at hsz
  obtain ⟨l, hl⟩ : ∃ l, b - a = l := ⟨_, rfl⟩
  have hlI : (b : Int) - (a : Int) = (l : Int) := by omega
  obtain ⟨q, hq⟩ : ∃ q, l / 4 = q := ⟨_, rfl⟩
  have hqI : (l : Int) / 4 = (q : Int) := by omega
  have hqT : (l : Int).tdiv 4 = (q : Int) := by rw [Int.tdiv_eq_ediv_of_nonneg (by omega)]; omega
  obtain ⟨m, hm⟩ : ∃ m, a + q * 2 = m + 1 := ⟨a + q * 2 - 1, by omega⟩
  have hmI : (a : Int) + (q : Int) * 2 = (m : Int) + 1 := by omega
  have hm1 : a ≤ m := by omega
  have hm2 : m + 2 < b := by omega
  have hl8 : 8 ≤ l := by omega
  have hln : l ≤ n := by omega
  have hqn : q ≤ n := by omega
  have hab : a ≤ b := by omega
  have HL := Lib.hid hl
  have HW := Lib.hid (fun w => power7 l (by omega) (by omega) w)
  clear H hn hl hq hm h8
  go_enter Tryz.func87, Tryz.ntmps87
  go_wp2_with fail
  refine (HW.out _).mono ?_
  rintro e w1 ⟨M, rfl, hM1, hM2, hw1⟩
  obtain ⟨M1, hM⟩ : ∃ k, M = k + 1 := ⟨M - 1, by omega⟩
  have hMI : (M : Int) - 1 = (M1 : Int) := by omega
  have hM1l : M1 < 9223372036854775808 := by omega
  have HM := Lib.hid (show M1 < 2 * l by omega)
  have HX := Lib.hid (show XorAt w blk off d w.heap.size w1 d from by
    rw [← hw1]
    exact ⟨(RowG.self HH.out).alloc _, Nat.le_refl _, ⟨l, World.cell?_alloc_at _ _ _ _ rfl⟩, World.frozen?_alloc_at _ _ _ _ rfl⟩)
  clear hw1 hM hM2
  go_wp2_with fail
  go_loopw [9] (fun vi wr => ∃ (t : Nat) (dk : Array Int), vi = .int .i64 ((m + t : Nat) : Int) ∧ t ≤ 3 ∧ Hid (PermIn a b d dk) ∧ Hid (XorAt w blk off d w.heap.size wr dk)) (fun vi _ => m + 3 - (intOf7 vi).toNat)
  case atStart => exact ⟨0, d, rfl, by omega, Lib.hid (permIn_refl _ _ _), HX⟩
  case round =>
    clear HX
    obtain ⟨t, dk, rfl, ht, HPm, HX⟩ := hrel
    obtain ⟨x, hx⟩ : ∃ x, m + t = x := ⟨_, rfl⟩
    have HXm := Lib.hid hx
    rw [hx]
    have hmI2 : (m : Int) + 1 + 1 = ((m + 2 : Nat) : Int) := by omega
    obtain ⟨m2, hm2e⟩ : ∃ k, m + 2 = k := ⟨_, rfl⟩
    rw [hm2e] at hmI2
    by_cases ht3 : t < 3
    · have g1 : decide ((x : Int) ≤ (m2 : Int)) = true := by simp; omega
      have hxm : x ≤ m2 := by omega
      obtain ⟨X, hX⟩ := HX.out.cnt
      have hso := HX.out.soft
      have hxa : a ≤ x := by omega
      have hxb : x < b := by omega
      clear hm2e
      go_wp2_with fail
      refine (next7 w.heap.size X wr hX hso).mono ?_
      rintro e w2 ⟨Y, hY, rfl, hw2⟩
      have HX2 := Lib.hid (show XorAt w blk off d w.heap.size w2 dk from by rw [hw2]; exact HX.out.put Y 3)
      obtain ⟨O, hO⟩ : ∃ O, Y &&& M1 = O := ⟨_, rfl⟩
      have hand : bits .and .u64 (Y : Int) (M1 : Int) = (O : Int) := by rw [u64_and_nat Y M1 hY (by omega), hO]
      have hOM : O ≤ M1 := by rw [← hO]; exact Nat.and_le_right
      obtain ⟨G, HG⟩ := name_cells dk
      have hsk := HX2.out.row.1.trans HN.out
      have hcw := (HX2.out.row.of HH.out).cellAt HG
      have hfw := (HX2.out.row.of HH.out).soft
      rw [hsk] at hcw hfw
      have hOl : O < 9223372036854775808 := by omega
      have HOM := Lib.hid hOM
      clear hw2 hX hso HX hO hY hOM hsk hx
      by_cases hol : O < l
      · have g2 : decide ((l : Int) ≤ (O : Int)) = false := by simp; omega
        obtain ⟨y, hy⟩ : ∃ y, a + O = y := ⟨_, rfl⟩
        have hyI : (a : Int) + (O : Int) = (y : Int) := by omega
        have hya : a ≤ y ∧ y < b := by have := HL.out; omega
        have hya1 := hya.1
        have hya2 := hya.2
        have hyn : y < n := by omega
        have hxn : x < n := by omega
        clear hy hya
        rcases Nat.lt_trichotomy x y with hxy | hxy | hxy
        · go_wp2_with fail
          go_region
          all_goals go_wp2_with fail
          go_roundw
          case rel => exact ⟨t + 1, swp dk x y, by have := HXm.out; congr 1; omega, by omega, Lib.hid (permIn_trans _ _ _ _ _ HPm.out (swp_permIn _ _ _ _ _ (by omega) (by omega) (by omega) (by omega) (by have := HX2.out.row.1.trans HN.out; omega))), Lib.hid (HX2.out.swapD HH.out HG x y (by have := HX2.out.row.1.trans HN.out; omega) (by have := HX2.out.row.1.trans HN.out; omega))⟩
          case measure => simp [intOf7]; omega
        · subst hxy
          go_wp2_with fail
          go_region
          all_goals go_wp2_with fail
          go_roundw
          case rel => exact ⟨t + 1, swp dk x x, by have := HXm.out; congr 1; omega, by omega, Lib.hid (permIn_trans _ _ _ _ _ HPm.out (swp_permIn _ _ _ _ _ (by omega) (by omega) (by omega) (by omega) (by have := HX2.out.row.1.trans HN.out; omega))), Lib.hid (HX2.out.swapD HH.out HG x x (by have := HX2.out.row.1.trans HN.out; omega) (by have := HX2.out.row.1.trans HN.out; omega))⟩
          case measure => simp [intOf7]; omega
        · go_wp2_with fail
          go_region
          all_goals go_wp2_with fail
          go_roundw
          case rel => exact ⟨t + 1, swp dk x y, by have := HXm.out; congr 1; omega, by omega, Lib.hid (permIn_trans _ _ _ _ _ HPm.out (swp_permIn _ _ _ _ _ (by omega) (by omega) (by omega) (by omega) (by have := HX2.out.row.1.trans HN.out; omega))), Lib.hid (HX2.out.swapD HH.out HG x y (by have := HX2.out.row.1.trans HN.out; omega) (by have := HX2.out.row.1.trans HN.out; omega))⟩
          case measure => simp [intOf7]; omega
      · have g2 : decide ((l : Int) ≤ (O : Int)) = true := by simp; omega
        obtain ⟨P, hP⟩ : ∃ P, O - l = P := ⟨_, rfl⟩
        have hPI : (O : Int) - (l : Int) = (P : Int) := by omega
        have hPl : P < l := by have := HOM.out; have := HM.out; omega
        clear hP
        obtain ⟨y, hy⟩ : ∃ y, a + P = y := ⟨_, rfl⟩
        have hyI : (a : Int) + (P : Int) = (y : Int) := by omega
        have hya : a ≤ y ∧ y < b := by have := HL.out; omega
        have hya1 := hya.1
        have hya2 := hya.2
        have hyn : y < n := by omega
        have hxn : x < n := by omega
        clear hy hya
        rcases Nat.lt_trichotomy x y with hxy | hxy | hxy
        · go_wp2_with fail
          go_region
          all_goals go_wp2_with fail
          go_roundw
          case rel => exact ⟨t + 1, swp dk x y, by have := HXm.out; congr 1; omega, by omega, Lib.hid (permIn_trans _ _ _ _ _ HPm.out (swp_permIn _ _ _ _ _ (by omega) (by omega) (by omega) (by omega) (by have := HX2.out.row.1.trans HN.out; omega))), Lib.hid (HX2.out.swapD HH.out HG x y (by have := HX2.out.row.1.trans HN.out; omega) (by have := HX2.out.row.1.trans HN.out; omega))⟩
          case measure => simp [intOf7]; omega
        · subst hxy
          go_wp2_with fail
          go_region
          all_goals go_wp2_with fail
          go_roundw
          case rel => exact ⟨t + 1, swp dk x x, by have := HXm.out; congr 1; omega, by omega, Lib.hid (permIn_trans _ _ _ _ _ HPm.out (swp_permIn _ _ _ _ _ (by omega) (by omega) (by omega) (by omega) (by have := HX2.out.row.1.trans HN.out; omega))), Lib.hid (HX2.out.swapD HH.out HG x x (by have := HX2.out.row.1.trans HN.out; omega) (by have := HX2.out.row.1.trans HN.out; omega))⟩
          case measure => simp [intOf7]; omega
        · go_wp2_with fail
          go_region
          all_goals go_wp2_with fail
          go_roundw
          case rel => exact ⟨t + 1, swp dk x y, by have := HXm.out; congr 1; omega, by omega, Lib.hid (permIn_trans _ _ _ _ _ HPm.out (swp_permIn _ _ _ _ _ (by omega) (by omega) (by omega) (by omega) (by have := HX2.out.row.1.trans HN.out; omega))), Lib.hid (HX2.out.swapD HH.out HG x y (by have := HX2.out.row.1.trans HN.out; omega) (by have := HX2.out.row.1.trans HN.out; omega))⟩
          case measure => simp [intOf7]; omega
    · obtain rfl : t = 3 := by omega
      have g1 : decide ((x : Int) ≤ (m2 : Int)) = false := by simp; omega
      have hxm : ¬ x ≤ m2 := by omega
      clear hx hm2e
      go_wp2_with fail
      go_end0
      exact ⟨rfl, dk, HPm.out, HX.out.row⟩
end Go.Proofs.YtjpfcdgaepdcdaaGreat

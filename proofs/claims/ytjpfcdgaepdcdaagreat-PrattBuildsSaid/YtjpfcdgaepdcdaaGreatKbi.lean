/- Several texts in one; each begins with a remark that says what it shows and on which conditions. -/
import Derived.Test.YtjpfcdgaepdcdaaGreatKbe
import Derived.Test.YtjpfcdgaepdcdaaGreatKac
import Derived.Lib.ItoaNum
/- slices.Sort's parts at []uint64: order2Ordered, medianOrdered, medianAdjacentOrdered, choosePivotOrdered: the pivot's place is one of the part's, and nothing turns but the count. Conditions: the row lies in a block that was there, and has fewer than 2^62 elements. -/
namespace Go.Proofs.YtjpfcdgaepdcdaaGreat
open Go.RowKit Go.Sort
set_option maxRecDepth 20000
/-- The row is as it was; the count of swaps stands in a block of the call's own. -/
structure PivAt (w : World) (blk off : Nat) (d : Array Int) (g : Nat) (wr : World) (s : Nat) : Prop where
  row : RowG w blk off d wr d
  far : w.heap.size ≤ g
  cnt : wr.cell? ⟨g, 0, none⟩ = some (.int .i64 (s : Int))
  soft : wr.frozen? ⟨g, 0, none⟩ = false
section
variable {w wr : World} {blk off g s : Nat} {d : Array Int}
theorem PivAt.drew (P : PivAt w blk off d g wr s) (q : Nat) : PivAt w blk off d g (wr.drewN q) s := ⟨P.row.drew q, P.far, P.cnt, P.soft⟩
theorem frozen_setCell7 (u : World) (a b : Addr) (v : Value) : (u.setCell a v).frozen? b = u.frozen? b := by
  rcases a with ⟨k, i, _ | s⟩
  · rw [setCell_eq]; exact frozen?_mapBlock _ _ _ _
  · simp
theorem PivAt.put (P : PivAt w blk off d g wr s) {v : Int} {k : Nat} (h : v = (k : Int)) : PivAt w blk off d g (wr.setCell ⟨g, 0, none⟩ (.int .i64 v)) k := by
  subst h
  exact ⟨P.row.fresh P.far 0 _, P.far, World.cell?_setCell_same _ _ _ P.cnt, by rw [frozen_setCell7]; exact P.soft⟩
theorem PivAt.start (H : RowOf w blk off d) (t : TypeId) : PivAt w blk off d w.heap.size (w.alloc (.cells #[.int .i64 0] t)) 0 :=
  ⟨(RowG.self H).alloc _, Nat.le_refl _, World.cell?_alloc_at _ _ _ _ rfl, World.frozen?_alloc_at _ _ _ _ rfl⟩
end
set_option maxHeartbeats 8000000 in
theorem order2_7 (blk off cap n g a b lo hi s : Nat) (d : Array Int) (w wr : World) (H : RowOf w blk off d) (hn : d.size = n) (P : PivAt w blk off d g wr s) (ha : lo ≤ a ∧ a < hi) (hb : lo ≤ b ∧ b < hi) (hh : hi ≤ n) (hs : s ≤ 100) :
    Calls Tryz.prog 128 #[.slice (some ⟨blk, off, none⟩) n cap, .int .i64 a, .int .i64 b, .pointer (some ⟨g, 0, none⟩)] wr fun e w' =>
      ∃ x y s' : Nat, e = .returned (.tuple #[.int .i64 (x : Int), .int .i64 (y : Int)]) ∧ (lo ≤ x ∧ x < hi) ∧ (lo ≤ y ∧ y < hi) ∧ s' ≤ s + 1 ∧ PivAt w blk off d g w' s' := by
  have hsz := H.fits
  rw [hn] at hsz
  obtain ⟨G, HG⟩ := name_cells d
  have hcw := (P.row.of H).cellAt HG
  rw [hn] at hcw
  have hcn := P.cnt
  have hso := P.soft
  have HP := Lib.hid P
  have HA := Lib.hid ha
  have HB := Lib.hid hb
  have hal : a < n := by omega
  have hbl : b < n := by omega
  clear H P ha hb
  go_enter Tryz.func128, Tryz.ntmps128
  go_wp2_with fail
  go_quiet ((go_at_call 91; refine Calls.quiet_of_same (less7 _ _ _)))
  go_wp2_with fail
  · go_ret2
    exact ⟨b, a, s + 1, rfl, HB.out, HA.out, Nat.le_refl _, (HP.out.drew nq).put (by omega)⟩
  · go_ret2
    exact ⟨a, b, s, rfl, HA.out, HB.out, by omega, HP.out.drew nq⟩
set_option maxHeartbeats 8000000 in
theorem median7 (blk off cap n g a b c lo hi s : Nat) (d : Array Int) (w wr : World) (H : RowOf w blk off d) (hn : d.size = n) (P : PivAt w blk off d g wr s) (ha : lo ≤ a ∧ a < hi) (hb : lo ≤ b ∧ b < hi) (hc : lo ≤ c ∧ c < hi) (hh : hi ≤ n) (hs : s ≤ 50) :
    Calls Tryz.prog 118 #[.slice (some ⟨blk, off, none⟩) n cap, .int .i64 a, .int .i64 b, .int .i64 c, .pointer (some ⟨g, 0, none⟩)] wr fun e w' =>
      ∃ x s' : Nat, e = .returned (.int .i64 (x : Int)) ∧ (lo ≤ x ∧ x < hi) ∧ s' ≤ s + 3 ∧ PivAt w blk off d g w' s' := by
  have HO := Lib.hid (fun (a b s : Nat) (wr : World) (P : Hid (PivAt w blk off d g wr s)) (ha : Hid (lo ≤ a ∧ a < hi)) (hb : Hid (lo ≤ b ∧ b < hi)) (hs : s ≤ 100) => order2_7 blk off cap n g a b lo hi s d w wr H hn P.out ha.out hb.out hh hs)
  have HP := Lib.hid P
  have HA := Lib.hid ha
  have HB := Lib.hid hb
  have HC := Lib.hid hc
  clear H P ha hb hc hn hh
  go_enter Tryz.func118, Tryz.ntmps118
  go_wp2_with fail
  refine (HO.out a b s wr HP HA HB (by omega)).mono ?_
  rintro e w1 ⟨x1, y1, s1, rfl, h1, h2, h3, P1⟩
  have HP1 := Lib.hid P1
  have HX1 := Lib.hid h1
  have HY1 := Lib.hid h2
  clear h1 h2 P1
  go_wp2_with fail
  refine (HO.out y1 c s1 w1 HP1 HY1 HC (by omega)).mono ?_
  rintro e w2 ⟨x2, y2, s2, rfl, h1, h2, h4, P2⟩
  have HP2 := Lib.hid P2
  have HX2 := Lib.hid h1
  clear h1 h2 P2
  go_wp2_with fail
  refine (HO.out x1 x2 s2 w2 HP2 HX1 HX2 (by omega)).mono ?_
  rintro e w3 ⟨x3, y3, s3, rfl, h1, h2, h5, P3⟩
  have HP3 := Lib.hid P3
  have HY3 := Lib.hid h2
  clear h1 h2 P3
  go_wp2_with fail
  go_ret
  exact ⟨y3, s3, rfl, HY3.out, by omega, HP3.out⟩
set_option maxHeartbeats 8000000 in
theorem medianAdjacent7 (blk off cap n g a lo hi s : Nat) (d : Array Int) (w wr : World) (H : RowOf w blk off d) (hn : d.size = n) (P : PivAt w blk off d g wr s) (ha : lo + 1 ≤ a ∧ a + 1 < hi) (hh : hi ≤ n) (hs : s ≤ 50) :
    Calls Tryz.prog 117 #[.slice (some ⟨blk, off, none⟩) n cap, .int .i64 a, .pointer (some ⟨g, 0, none⟩)] wr fun e w' =>
      ∃ x s' : Nat, e = .returned (.int .i64 (x : Int)) ∧ (lo ≤ x ∧ x < hi) ∧ s' ≤ s + 3 ∧ PivAt w blk off d g w' s' := by
  have hsz := H.fits
  rw [hn] at hsz
  obtain ⟨a1, ha1⟩ : ∃ k, a = k + 1 := ⟨a - 1, by omega⟩
  obtain ⟨a2, ha2⟩ : ∃ k, a + 1 = k := ⟨_, rfl⟩
  have h1I : (a : Int) - 1 = (a1 : Int) := by omega
  have h2I : (a : Int) + 1 = (a2 : Int) := by omega
  have HM := Lib.hid (median7 blk off cap n g a1 a a2 lo hi s d w wr H hn P (by omega) (by omega) (by omega) hh hs)
  have hal : a < n := by omega
  have hal0 : 0 < a := by omega
  clear H P ha1 ha2 hn
  go_enter Tryz.func117, Tryz.ntmps117
  go_wp2_with fail
  refine (HM.out).mono ?_
  rintro e w1 ⟨x1, s1, rfl, h1, h3, P1⟩
  have HP1 := Lib.hid P1
  have HX1 := Lib.hid h1
  clear h1 P1
  go_wp2_with fail
  go_ret
  exact ⟨x1, s1, rfl, HX1.out, h3, HP1.out⟩
theorem PivAt.told {w wr : World} {blk off g s a b x : Nat} {d : Array Int} (P : PivAt w blk off d g wr s) (hx : a ≤ x ∧ x < b) (h : Nat) (hh : h ≤ 2) :
    ∃ p h' : Nat, Ending.returned (.tuple #[.int .i64 (x : Int), .int .i64 ((h : Nat) : Int)]) = .returned (.tuple #[.int .i64 (p : Int), .int .i64 (h' : Int)]) ∧ a ≤ p ∧ p < b ∧ h' ≤ 2 ∧ RowG w blk off d wr d :=
  ⟨x, h, rfl, hx.1, hx.2, hh, P.row⟩
set_option maxHeartbeats 16000000 in
theorem choosePivot7 (blk off cap n a b : Nat) (d : Array Int) (w : World) (H : RowOf w blk off d) (hn : d.size = n) (hab : a < b) (hb : b ≤ n) :
    Calls Tryz.prog 88 #[.slice (some ⟨blk, off, none⟩) n cap, .int .i64 a, .int .i64 b] w fun e w' =>
      ∃ p h : Nat, e = .returned (.tuple #[.int .i64 (p : Int), .int .i64 (h : Int)]) ∧ a ≤ p ∧ p < b ∧ h ≤ 2 ∧ RowG w blk off d w' d := by
  have hsz := H.fits
  rw [hn] at hsz
  have HO := Lib.hid (fun (x y z s : Nat) (wr : World) (P : Hid (PivAt w blk off d w.heap.size wr s)) (hx : Hid (a ≤ x ∧ x < b)) (hy : Hid (a ≤ y ∧ y < b)) (hz : Hid (a ≤ z ∧ z < b)) (hs : s ≤ 50) => median7 blk off cap n w.heap.size x y z a b s d w wr H hn P.out hx.out hy.out hz.out hb hs)
  have HA := Lib.hid (fun (x s : Nat) (wr : World) (P : Hid (PivAt w blk off d w.heap.size wr s)) (hx : Hid (a + 1 ≤ x ∧ x + 1 < b)) (hs : s ≤ 50) => medianAdjacent7 blk off cap n w.heap.size x a b s d w wr H hn P.out hx.out hb hs)
  have HP := Lib.hid (PivAt.start H 3)
  obtain ⟨l, hl⟩ : ∃ l, b - a = l := ⟨_, rfl⟩
  have hlI : (b : Int) - (a : Int) = (l : Int) := by omega
  obtain ⟨q, hq⟩ : ∃ q, l / 4 = q := ⟨_, rfl⟩
  have hqI : (l : Int) / 4 = (q : Int) := by omega
  have hqT : (l : Int).tdiv 4 = (q : Int) := by rw [Int.tdiv_eq_ediv_of_nonneg (by omega)]; omega
  obtain ⟨i, hi⟩ : ∃ i, a + q = i := ⟨_, rfl⟩
  have hiI : (a : Int) + (q : Int) = (i : Int) := by omega
  obtain ⟨j, hj⟩ : ∃ j, a + q * 2 = j := ⟨_, rfl⟩
  have hjI : (a : Int) + (q : Int) * 2 = (j : Int) := by omega
  obtain ⟨k, hk⟩ : ∃ k, a + q * 3 = k := ⟨_, rfl⟩
  have hkI : (a : Int) + (q : Int) * 3 = (k : Int) := by omega
  have hql : q ≤ n := by omega
  have hll : l ≤ n := by omega
  have hjr := Lib.hid (show a ≤ j ∧ j < b by omega)
  obtain ⟨W0, hW0⟩ : ∃ W0, w.alloc (.cells #[.int .i64 0] 3) = W0 := ⟨_, rfl⟩
  rw [hW0] at HP
  by_cases h8 : 8 ≤ l
  · have g8 : decide ((8 : Int) ≤ (l : Int)) = true := by simp; omega
    have hir := Lib.hid (show a ≤ i ∧ i < b by omega)
    have hkr := Lib.hid (show a ≤ k ∧ k < b by omega)
    by_cases h50 : 50 ≤ l
    · have g50 : decide ((50 : Int) ≤ (l : Int)) = true := by simp; omega
      have hir2 := Lib.hid (show a + 1 ≤ i ∧ i + 1 < b by omega)
      have hjr2 := Lib.hid (show a + 1 ≤ j ∧ j + 1 < b by omega)
      have hkr2 := Lib.hid (show a + 1 ≤ k ∧ k + 1 < b by omega)
      clear H hl hq hi hj hk hn
      go_enter Tryz.func88, Tryz.ntmps88
      go_wp2_with fail
      refine (HA.out i 0 W0 HP hir2 (by omega)).mono ?_
      rintro e w1 ⟨x1, s1, rfl, h1, h3, P⟩
      have HP1 := Lib.hid P
      have HX1 := Lib.hid h1
      have hs1 : s1 ≤ 3 := by omega
      clear h1 h3 P
      go_wp2_with fail
      refine (HA.out j s1 w1 HP1 hjr2 (by omega)).mono ?_
      rintro e w2 ⟨x2, s2, rfl, h1, h3, P⟩
      have HP2 := Lib.hid P
      have HX2 := Lib.hid h1
      have hs2 : s2 ≤ 6 := by omega
      clear h1 h3 P
      go_wp2_with fail
      refine (HA.out k s2 w2 HP2 hkr2 (by omega)).mono ?_
      rintro e w3 ⟨x3, s3, rfl, h1, h3, P⟩
      have HP3 := Lib.hid P
      have HX3 := Lib.hid h1
      have hs3 : s3 ≤ 9 := by omega
      clear h1 h3 P
      go_wp2_with fail
      refine (HO.out x1 x2 x3 s3 w3 HP3 HX1 HX2 HX3 (by omega)).mono ?_
      rintro e w4 ⟨x4, s4, rfl, h1, h3, P⟩
      have HP4 := Lib.hid P
      have HX4 := Lib.hid h1
      have hs4 : s4 ≤ 12 := by omega
      clear h1 h3 P
      have hcn := HP4.out.cnt
      by_cases h0 : s4 = 0
      · have e0 : ((s4 : Int) == 0) = true := by simp; omega
        go_wp2_with fail
        go_ret2
        exact PivAt.told HP4.out HX4.out 1 (by omega)
      · have e0 : ((s4 : Int) == 0) = false := by simp; omega
        by_cases h12 : s4 = 12
        · have e1 : ((s4 : Int) == 12) = true := by simp; omega
          go_wp2_with fail
          go_ret2
          exact PivAt.told HP4.out HX4.out 2 (by omega)
        · have e1 : ((s4 : Int) == 12) = false := by simp; omega
          go_wp2_with fail
          go_ret2
          exact PivAt.told HP4.out HX4.out 0 (by omega)
    · have g50 : decide ((50 : Int) ≤ (l : Int)) = false := by simp; omega
      clear H hl hq hi hj hk hn
      go_enter Tryz.func88, Tryz.ntmps88
      go_wp2_with fail
      refine (HO.out i j k 0 W0 HP hir hjr hkr (by omega)).mono ?_
      rintro e w4 ⟨x4, s4, rfl, h1, h3, P⟩
      have HP4 := Lib.hid P
      have HX4 := Lib.hid h1
      have hs4 : s4 ≤ 12 := by omega
      clear h1 h3 P
      have hcn := HP4.out.cnt
      by_cases h0 : s4 = 0
      · have e0 : ((s4 : Int) == 0) = true := by simp; omega
        go_wp2_with fail
        go_ret2
        exact PivAt.told HP4.out HX4.out 1 (by omega)
      · have e0 : ((s4 : Int) == 0) = false := by simp; omega
        by_cases h12 : s4 = 12
        · have e1 : ((s4 : Int) == 12) = true := by simp; omega
          go_wp2_with fail
          go_ret2
          exact PivAt.told HP4.out HX4.out 2 (by omega)
        · have e1 : ((s4 : Int) == 12) = false := by simp; omega
          go_wp2_with fail
          go_ret2
          exact PivAt.told HP4.out HX4.out 0 (by omega)
  · have g8 : decide ((8 : Int) ≤ (l : Int)) = false := by simp; omega
    have hcn := HP.out.cnt
    clear H hl hq hi hj hk hn
    go_enter Tryz.func88, Tryz.ntmps88
    go_wp2_with fail
    go_ret2
    exact PivAt.told HP.out hjr.out 1 (by omega)
end Go.Proofs.YtjpfcdgaepdcdaaGreat
/- slices.Sort's parts at []uint64: xorshift.Next, nextPowerOfTwo, breakPatternsOrdered: some swaps within the part, whichever. Conditions: the row lies in a block that was there, and has fewer than 2^62 elements; the part has 8 at least. -/
namespace Go.Proofs.YtjpfcdgaepdcdaaGreat
open Go.RowKit Go.Sort
set_option maxRecDepth 20000
theorem xor_some7 (x y : Int) : ∃ A : Nat, A < 18446744073709551616 ∧ bits .xor .u64 x y = (A : Int) := by
  obtain ⟨z, hz⟩ : ∃ z : Nat, bits .xor .u64 x y = IntKind.u64.wrap (z : Int) := ⟨_, rfl⟩
  refine ⟨z % 18446744073709551616, Nat.mod_lt _ (by omega), ?_⟩
  rw [hz, IntKind.wrap_u64]
  omega
theorem setCell_twice7 (w : World) (g i : Nat) (v v' : Value) : (w.setCell ⟨g, i, none⟩ v).setCell ⟨g, i, none⟩ v' = w.setCell ⟨g, i, none⟩ v' := by
  rw [setCell_eq, setCell_eq, setCell_eq, mapBlock_mapBlock]
  exact mapBlock_congr _ _ _ _ fun c _ _ _ => by
    apply Array.ext_getElem?
    intro k
    simp only [Array.getElem?_setIfInBounds, Array.size_setIfInBounds]
    split <;> rfl
theorem frozen_set7 (u : World) (a b : Addr) (v : Value) : (u.setCell a v).frozen? b = u.frozen? b := by
  rcases a with ⟨k, i, _ | s⟩
  · rw [setCell_eq]; exact frozen?_mapBlock _ _ _ _
  · simp
set_option maxHeartbeats 4000000 in
theorem next7 (g X : Nat) (w : World) (hc : w.cell? ⟨g, 0, none⟩ = some (.int .u64 X)) (hf : w.frozen? ⟨g, 0, none⟩ = false) :
    Calls Tryz.prog 116 #[.pointer (some ⟨g, 0, none⟩)] w fun e w' => ∃ Y : Nat, Y < 18446744073709551616 ∧ e = .returned (.int .u64 (Y : Int)) ∧ w' = (w.setCell ⟨g, 0, none⟩ (.int .u64 (Y : Int))).drewN 3 := by
  obtain ⟨A, _, e1⟩ := xor_some7 (X : Int) (IntKind.u64.wrap ((X : Int) * 8192))
  obtain ⟨B, _, e2⟩ := xor_some7 (A : Int) ((A : Int) / 128)
  obtain ⟨C, lC, e3⟩ := xor_some7 (B : Int) (IntKind.u64.wrap ((B : Int) * 131072))
  have HL := Lib.hid lC
  have hss : ∀ v v', (w.setCell ⟨g, 0, none⟩ v).setCell ⟨g, 0, none⟩ v' = w.setCell ⟨g, 0, none⟩ v' := setCell_twice7 w g 0
  clear lC
  go_enter Tryz.func116, Tryz.ntmps116
  go_wp2_with fail
  go_region
  all_goals go_wp2_with fail
  all_goals go_region
  all_goals go_wp2_with fail
  all_goals go_region
  all_goals go_wp2_with fail
  go_ret
  exact ⟨C, HL.out, rfl, rfl⟩
set_option maxHeartbeats 4000000 in
theorem power7 (n : Nat) (h0 : 0 < n) (hn : n < 4611686018427387904) (w : World) :
    Calls Tryz.prog 115 #[.int .i64 n] w fun e w' => ∃ M : Nat, e = .returned (.int .u64 (M : Int)) ∧ 1 ≤ M ∧ M ≤ 2 * n ∧ w = w' := by
  have HLn := Lib.hid (Tryz.bits_Len (n : Int) w (by omega) (by omega))
  obtain ⟨b1, b2, b3⟩ := Lib.bitLenAux_bounds 64 n (by omega) (by omega)
  obtain ⟨L, hL⟩ : ∃ L, Lib.bitLen n = L := ⟨_, rfl⟩
  have hL2 : Lib.bitLenAux 64 n = L := hL
  rw [hL2] at b1 b2 b3
  rw [Int.toNat_natCast, hL] at HLn
  obtain ⟨K, rfl⟩ : ∃ K, L = K + 1 := ⟨L - 1, by omega⟩
  rw [Nat.add_sub_cancel] at b2
  have hK : K < 62 := by
    rcases Nat.lt_or_ge K 62 with h | h
    · exact h
    · have := Nat.pow_le_pow_right (n := 2) (by omega) h
      omega
  obtain ⟨M, hM⟩ : ∃ M, 2 ^ (K + 1) = M := ⟨_, rfl⟩
  have hM1 : M ≤ 2 * n := by rw [← hM, Nat.pow_succ]; omega
  have hM0 : 1 ≤ M := by rw [← hM]; exact Nat.one_le_two_pow
  have hMI : (2 : Int) ^ (K + 1) = (M : Int) := by rw [← hM]; push_cast; rfl
  have hw : IntKind.u64.wrap (M : Int) = (M : Int) := by rw [IntKind.wrap_u64]; omega
  clear hM hL hL2 b1 b2 b3
  go_enter Tryz.func115, Tryz.ntmps115
  go_wp2_with fail
  refine (HLn.out).mono ?_
  rintro e w1 ⟨rfl, rfl⟩
  go_wp2_with fail
  go_ret
  exact ⟨M, by first | rfl | (simp only [hMI, hw]), hM0, hM1, rfl⟩
/-- The row holds dk; what is drawn from stands in a block of the call's own. -/
structure XorAt (w : World) (blk off : Nat) (d : Array Int) (g : Nat) (wr : World) (dk : Array Int) : Prop where
  row : RowG w blk off d wr dk
  far : w.heap.size ≤ g
  cnt : ∃ X : Nat, wr.cell? ⟨g, 0, none⟩ = some (.int .u64 (X : Int))
  soft : wr.frozen? ⟨g, 0, none⟩ = false
section
variable {w wr : World} {blk off g : Nat} {d dk : Array Int}
theorem XorAt.put (P : XorAt w blk off d g wr dk) (Y q : Nat) : XorAt w blk off d g ((wr.setCell ⟨g, 0, none⟩ (.int .u64 (Y : Int))).drewN q) dk := by
  obtain ⟨X, hX⟩ := P.cnt
  exact ⟨(P.row.fresh P.far 0 _).drew q, P.far, ⟨Y, World.cell?_setCell_same _ _ _ hX⟩, (frozen_set7 _ _ _ _).trans P.soft⟩
theorem XorAt.swapD (H : RowOf w blk off d) (P : XorAt w blk off d g wr dk) {G : Nat → Int} (hG : Hid (∀ t, G t = dk[t]!)) (j k : Nat) (hj : j < dk.size) (hk : k < dk.size) :
    XorAt w blk off d g ((wr.setCell ⟨blk, off + j, none⟩ (.int .u64 (G k))).setCell ⟨blk, off + k, none⟩ (.int .u64 (G j))).drew (swp dk j k) := by
  obtain ⟨X, hX⟩ := P.cnt
  have hne : ∀ i, (⟨blk, i, none⟩ : Addr) ≠ ⟨g, 0, none⟩ := fun i e => by injection e with e1; have := H.old; have := P.far; omega
  refine ⟨P.row.swapD H hG j k hj hk, P.far, ⟨X, ?_⟩, ?_⟩
  · show ((wr.setCell ⟨blk, off + j, none⟩ (.int .u64 (G k))).setCell ⟨blk, off + k, none⟩ (.int .u64 (G j))).cell? ⟨g, 0, none⟩ = _
    rw [World.cell?_setCell_other _ _ _ _ (hne _), World.cell?_setCell_other _ _ _ _ (hne _)]
    exact hX
  · show ((wr.setCell ⟨blk, off + j, none⟩ (.int .u64 (G k))).setCell ⟨blk, off + k, none⟩ (.int .u64 (G j))).frozen? ⟨g, 0, none⟩ = _
    rw [frozen_set7, frozen_set7]
    exact P.soft
end
set_option maxHeartbeats 32000000 in
theorem breakPatterns7 (blk off cap n a b : Nat) (d : Array Int) (w : World) (H : RowOf w blk off d) (hn : d.size = n) (h8 : a + 8 ≤ b) (hb : b ≤ n) :
    Calls Tryz.prog 87 #[.slice (some ⟨blk, off, none⟩) n cap, .int .i64 a, .int .i64 b] w fun e w' => e = .returned (.tuple #[]) ∧ ∃ d', PermIn a b d d' ∧ RowG w blk off d w' d' := by
  have HN := Lib.hid hn
  have HH := Lib.hid H
  have hsz := H.fits
  rw [hn] at hsz
  obtain ⟨l, hl⟩ : ∃ l, b - a = l := ⟨_, rfl⟩
  have hlI : (b : Int) - (a : Int) = (l : Int) := by omega
  obtain ⟨q, hq⟩ : ∃ q, l / 4 = q := ⟨_, rfl⟩
  have hqI : (l : Int) / 4 = (q : Int) := by omega
  have hqT : (l : Int).tdiv 4 = (q : Int) := by rw [Int.tdiv_eq_ediv_of_nonneg (by omega)]; omega
  obtain ⟨m, hm⟩ : ∃ m, a + q * 2 = m + 1 := ⟨a + q * 2 - 1, by omega⟩
  have hmI : (a : Int) + (q : Int) * 2 = (m : Int) + 1 := by omega
  have hm1 : a ≤ m := by omega
  have hm2 : m + 2 < b := by omega
  have hl8 : 8 ≤ l := by omega
  have hln : l ≤ n := by omega
  have hqn : q ≤ n := by omega
  have hab : a ≤ b := by omega
  have HL := Lib.hid hl
  have HW := Lib.hid (fun w => power7 l (by omega) (by omega) w)
  clear H hn hl hq hm h8
  go_enter Tryz.func87, Tryz.ntmps87
  go_wp2_with fail
  refine (HW.out _).mono ?_
  rintro e w1 ⟨M, rfl, hM1, hM2, hw1⟩
  obtain ⟨M1, hM⟩ : ∃ k, M = k + 1 := ⟨M - 1, by omega⟩
  have hMI : (M : Int) - 1 = (M1 : Int) := by omega
  have hM1l : M1 < 9223372036854775808 := by omega
  have HM := Lib.hid (show M1 < 2 * l by omega)
  have HX := Lib.hid (show XorAt w blk off d w.heap.size w1 d from by
    rw [← hw1]
    exact ⟨(RowG.self HH.out).alloc _, Nat.le_refl _, ⟨l, World.cell?_alloc_at _ _ _ _ rfl⟩, World.frozen?_alloc_at _ _ _ _ rfl⟩)
  clear hw1 hM hM2
  go_wp2_with fail
  go_loopw [9] (fun vi wr => ∃ (t : Nat) (dk : Array Int), vi = .int .i64 ((m + t : Nat) : Int) ∧ t ≤ 3 ∧ Hid (PermIn a b d dk) ∧ Hid (XorAt w blk off d w.heap.size wr dk)) (fun vi _ => m + 3 - (intOf7 vi).toNat)
  case atStart => exact ⟨0, d, rfl, by omega, Lib.hid (permIn_refl _ _ _), HX⟩
  case round =>
    clear HX
    obtain ⟨t, dk, rfl, ht, HPm, HX⟩ := hrel
    obtain ⟨x, hx⟩ : ∃ x, m + t = x := ⟨_, rfl⟩
    have HXm := Lib.hid hx
    rw [hx]
    have hmI2 : (m : Int) + 1 + 1 = ((m + 2 : Nat) : Int) := by omega
    obtain ⟨m2, hm2e⟩ : ∃ k, m + 2 = k := ⟨_, rfl⟩
    rw [hm2e] at hmI2
    by_cases ht3 : t < 3
    · have g1 : decide ((x : Int) ≤ (m2 : Int)) = true := by simp; omega
      have hxm : x ≤ m2 := by omega
      obtain ⟨X, hX⟩ := HX.out.cnt
      have hso := HX.out.soft
      have hxa : a ≤ x := by omega
      have hxb : x < b := by omega
      clear hm2e
      go_wp2_with fail
      refine (next7 w.heap.size X wr hX hso).mono ?_
      rintro e w2 ⟨Y, hY, rfl, hw2⟩
      have HX2 := Lib.hid (show XorAt w blk off d w.heap.size w2 dk from by rw [hw2]; exact HX.out.put Y 3)
      obtain ⟨O, hO⟩ : ∃ O, Y &&& M1 = O := ⟨_, rfl⟩
      have hand : bits .and .u64 (Y : Int) (M1 : Int) = (O : Int) := by rw [u64_and_nat Y M1 hY (by omega), hO]
      have hOM : O ≤ M1 := by rw [← hO]; exact Nat.and_le_right
      obtain ⟨G, HG⟩ := name_cells dk
      have hsk := HX2.out.row.1.trans HN.out
      have hcw := (HX2.out.row.of HH.out).cellAt HG
      have hfw := (HX2.out.row.of HH.out).soft
      rw [hsk] at hcw hfw
      have hOl : O < 9223372036854775808 := by omega
      have HOM := Lib.hid hOM
      clear hw2 hX hso HX hO hY hOM hsk hx
      by_cases hol : O < l
      · have g2 : decide ((l : Int) ≤ (O : Int)) = false := by simp; omega
        obtain ⟨y, hy⟩ : ∃ y, a + O = y := ⟨_, rfl⟩
        have hyI : (a : Int) + (O : Int) = (y : Int) := by omega
        have hya : a ≤ y ∧ y < b := by have := HL.out; omega
        have hya1 := hya.1
        have hya2 := hya.2
        have hyn : y < n := by omega
        have hxn : x < n := by omega
        clear hy hya
        rcases Nat.lt_trichotomy x y with hxy | hxy | hxy
        · go_wp2_with fail
          go_region
          all_goals go_wp2_with fail
          go_roundw
          case rel => exact ⟨t + 1, swp dk x y, by have := HXm.out; congr 1; omega, by omega, Lib.hid (permIn_trans _ _ _ _ _ HPm.out (swp_permIn _ _ _ _ _ (by omega) (by omega) (by omega) (by omega) (by have := HX2.out.row.1.trans HN.out; omega))), Lib.hid (HX2.out.swapD HH.out HG x y (by have := HX2.out.row.1.trans HN.out; omega) (by have := HX2.out.row.1.trans HN.out; omega))⟩
          case measure => simp [intOf7]; omega
        · subst hxy
          go_wp2_with fail
          go_region
          all_goals go_wp2_with fail
          go_roundw
          case rel => exact ⟨t + 1, swp dk x x, by have := HXm.out; congr 1; omega, by omega, Lib.hid (permIn_trans _ _ _ _ _ HPm.out (swp_permIn _ _ _ _ _ (by omega) (by omega) (by omega) (by omega) (by have := HX2.out.row.1.trans HN.out; omega))), Lib.hid (HX2.out.swapD HH.out HG x x (by have := HX2.out.row.1.trans HN.out; omega) (by have := HX2.out.row.1.trans HN.out; omega))⟩
          case measure => simp [intOf7]; omega
        · go_wp2_with fail
          go_region
          all_goals go_wp2_with fail
          go_roundw
          case rel => exact ⟨t + 1, swp dk x y, by have := HXm.out; congr 1; omega, by omega, Lib.hid (permIn_trans _ _ _ _ _ HPm.out (swp_permIn _ _ _ _ _ (by omega) (by omega) (by omega) (by omega) (by have := HX2.out.row.1.trans HN.out; omega))), Lib.hid (HX2.out.swapD HH.out HG x y (by have := HX2.out.row.1.trans HN.out; omega) (by have := HX2.out.row.1.trans HN.out; omega))⟩
          case measure => simp [intOf7]; omega
      · have g2 : decide ((l : Int) ≤ (O : Int)) = true := by simp; omega
        obtain ⟨P, hP⟩ : ∃ P, O - l = P := ⟨_, rfl⟩
        have hPI : (O : Int) - (l : Int) = (P : Int) := by omega
        have hPl : P < l := by have := HOM.out; have := HM.out; omega
        clear hP
        obtain ⟨y, hy⟩ : ∃ y, a + P = y := ⟨_, rfl⟩
        have hyI : (a : Int) + (P : Int) = (y : Int) := by omega
        have hya : a ≤ y ∧ y < b := by have := HL.out; omega
        have hya1 := hya.1
        have hya2 := hya.2
        have hyn : y < n := by omega
        have hxn : x < n := by omega
        clear hy hya
        rcases Nat.lt_trichotomy x y with hxy | hxy | hxy
        · go_wp2_with fail
          go_region
          all_goals go_wp2_with fail
          go_roundw
          case rel => exact ⟨t + 1, swp dk x y, by have := HXm.out; congr 1; omega, by omega, Lib.hid (permIn_trans _ _ _ _ _ HPm.out (swp_permIn _ _ _ _ _ (by omega) (by omega) (by omega) (by omega) (by have := HX2.out.row.1.trans HN.out; omega))), Lib.hid (HX2.out.swapD HH.out HG x y (by have := HX2.out.row.1.trans HN.out; omega) (by have := HX2.out.row.1.trans HN.out; omega))⟩
          case measure => simp [intOf7]; omega
        · subst hxy
          go_wp2_with fail
          go_region
          all_goals go_wp2_with fail
          go_roundw
          case rel => exact ⟨t + 1, swp dk x x, by have := HXm.out; congr 1; omega, by omega, Lib.hid (permIn_trans _ _ _ _ _ HPm.out (swp_permIn _ _ _ _ _ (by omega) (by omega) (by omega) (by omega) (by have := HX2.out.row.1.trans HN.out; omega))), Lib.hid (HX2.out.swapD HH.out HG x x (by have := HX2.out.row.1.trans HN.out; omega) (by have := HX2.out.row.1.trans HN.out; omega))⟩
          case measure => simp [intOf7]; omega
        · go_wp2_with fail
          go_region
          all_goals go_wp2_with fail
          go_roundw
          case rel => exact ⟨t + 1, swp dk x y, by have := HXm.out; congr 1; omega, by omega, Lib.hid (permIn_trans _ _ _ _ _ HPm.out (swp_permIn _ _ _ _ _ (by omega) (by omega) (by omega) (by omega) (by have := HX2.out.row.1.trans HN.out; omega))), Lib.hid (HX2.out.swapD HH.out HG x y (by have := HX2.out.row.1.trans HN.out; omega) (by have := HX2.out.row.1.trans HN.out; omega))⟩
          case measure => simp [intOf7]; omega
    · obtain rfl : t = 3 := by omega
      have g1 : decide ((x : Int) ≤ (m2 : Int)) = false := by simp; omega
      have hxm : ¬ x ≤ m2 := by omega
      clear hx hm2e
      go_wp2_with fail
      go_end0
      exact ⟨rfl, dk, HPm.out, HX.out.row⟩
end Go.Proofs.YtjpfcdgaepdcdaaGreat

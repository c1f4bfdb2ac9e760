/- Several texts in one; each begins with a remark that says what it shows and on which conditions. -/
import Derived.Test.YtakcgamgnmmdlaaGreatKbe
/- slices.Sort's parts at []uint64: order2Ordered, medianOrdered, medianAdjacentOrdered, choosePivotOrdered: the pivot's place is one of the part's, and nothing turns but the count. Conditions: the row lies in a block that was there, and has fewer than 2^62 elements. -/
namespace Go.Proofs.YtakcgamgnmmdlaaGreat
open Go.RowKit Go.Sort
set_option maxRecDepth 20000
/-- The row is as it was; the count of swaps stands in a block of the call's own. -/
structure PivAt (w : World) (blk off : Nat) (d : Array Int) (g : Nat) (wr : World) (s : Nat) : Prop where
  row : RowG w blk off d wr d
  far : w.heap.size ≤ g
  cnt : wr.cell? ⟨g, 0, none⟩ = some (.int .i64 (s : Int))
  soft : wr.frozen? ⟨g, 0, none⟩ = false
section
variable {w wr : World} {blk off g s : Nat} {d : Array Int}
theorem PivAt.drew (P : PivAt w blk off d g wr s) (q : Nat) : PivAt w blk off d g (wr.drewN q) s := ⟨P.row.drew q, P.far, P.cnt, P.soft⟩
theorem frozen_setCell7 (u : World) (a b : Addr) (v : Value) : (u.setCell a v).frozen? b = u.frozen? b := by
  rcases a with ⟨k, i, _ | s⟩
  · rw [setCell_eq]; exact frozen?_mapBlock _ _ _ _
  · simp
theorem PivAt.put (P : PivAt w blk off d g wr s) {v : Int} {k : Nat} (h : v = (k : Int)) : PivAt w blk off d g (wr.setCell ⟨g, 0, none⟩ (.int .i64 v)) k := by
  subst h
  exact ⟨P.row.fresh P.far 0 _, P.far, World.cell?_setCell_same _ _ _ P.cnt, by rw [frozen_setCell7]; exact P.soft⟩
theorem PivAt.start (H : RowOf w blk off d) (t : TypeId) : PivAt w blk off d w.heap.size (w.alloc (.cells #[.int .i64 0] t)) 0 :=
  ⟨(RowG.self H).alloc _, Nat.le_refl _, World.cell?_alloc_at _ _ _ _ rfl, World.frozen?_alloc_at _ _ _ _ rfl⟩
end
set_option maxHeartbeats 8000000 in
theorem order2_7 (blk off cap n g a b lo hi s : Nat) (d : Array Int) (w wr : World) (H : RowOf w blk off d) (hn : d.size = n) (P : PivAt w blk off d g wr s) (ha : lo ≤ a ∧ a < hi) (hb : lo ≤ b ∧ b < hi) (hh : hi ≤ n) (hs : s ≤ 100) :
    Calls Tryz.prog 101 #[.slice (some ⟨blk, off, none⟩) n cap, .int .i64 a, .int .i64 b, .pointer (some ⟨g, 0, none⟩)] wr fun e w' =>
      ∃ x y s' : Nat, e = .returned (.tuple #[.int .i64 (x : Int), .int .i64 (y : Int)]) ∧ (lo ≤ x ∧ x < hi) ∧ (lo ≤ y ∧ y < hi) ∧ s' ≤ s + 1 ∧ PivAt w blk off d g w' s' := by
  have hsz := H.fits
  rw [hn] at hsz
  obtain ⟨G, HG⟩ := name_cells d
  have hcw := (P.row.of H).cellAt HG
  rw [hn] at hcw
  have hcn := P.cnt
  have hso := P.soft
  have HP := Lib.hid P
  have HA := Lib.hid ha
  have HB := Lib.hid hb
  have hal : a < n := by omega
  have hbl : b < n := by omega
  clear H P ha hb
  go_enter Tryz.func101, Tryz.ntmps101
  go_wp2_with fail
  go_quiet ((go_at_call 58; refine Calls.quiet_of_same (less7 _ _ _)))
  go_wp2_with fail
  · go_ret2
    exact ⟨b, a, s + 1, rfl, HB.out, HA.out, Nat.le_refl _, (HP.out.drew nq).put (by omega)⟩
  · go_ret2
    exact ⟨a, b, s, rfl, HA.out, HB.out, by omega, HP.out.drew nq⟩
set_option maxHeartbeats 8000000 in
theorem median7 (blk off cap n g a b c lo hi s : Nat) (d : Array Int) (w wr : World) (H : RowOf w blk off d) (hn : d.size = n) (P : PivAt w blk off d g wr s) (ha : lo ≤ a ∧ a < hi) (hb : lo ≤ b ∧ b < hi) (hc : lo ≤ c ∧ c < hi) (hh : hi ≤ n) (hs : s ≤ 50) :
    Calls Tryz.prog 82 #[.slice (some ⟨blk, off, none⟩) n cap, .int .i64 a, .int .i64 b, .int .i64 c, .pointer (some ⟨g, 0, none⟩)] wr fun e w' =>
      ∃ x s' : Nat, e = .returned (.int .i64 (x : Int)) ∧ (lo ≤ x ∧ x < hi) ∧ s' ≤ s + 3 ∧ PivAt w blk off d g w' s' := by
  have HO := Lib.hid (fun (a b s : Nat) (wr : World) (P : Hid (PivAt w blk off d g wr s)) (ha : Hid (lo ≤ a ∧ a < hi)) (hb : Hid (lo ≤ b ∧ b < hi)) (hs : s ≤ 100) => order2_7 blk off cap n g a b lo hi s d w wr H hn P.out ha.out hb.out hh hs)
  have HP := Lib.hid P
  have HA := Lib.hid ha
  have HB := Lib.hid hb
  have HC := Lib.hid hc
  clear H P ha hb hc hn hh
  go_enter Tryz.func82, Tryz.ntmps82
  go_wp2_with fail
  refine (HO.out a b s wr HP HA HB (by omega)).mono ?_
  rintro e w1 ⟨x1, y1, s1, rfl, h1, h2, h3, P1⟩
  have HP1 := Lib.hid P1
  have HX1 := Lib.hid h1
  have HY1 := Lib.hid h2
  clear h1 h2 P1
  go_wp2_with fail
  refine (HO.out y1 c s1 w1 HP1 HY1 HC (by omega)).mono ?_
  rintro e w2 ⟨x2, y2, s2, rfl, h1, h2, h4, P2⟩
  have HP2 := Lib.hid P2
  have HX2 := Lib.hid h1
  clear h1 h2 P2
  go_wp2_with fail
  refine (HO.out x1 x2 s2 w2 HP2 HX1 HX2 (by omega)).mono ?_
  rintro e w3 ⟨x3, y3, s3, rfl, h1, h2, h5, P3⟩
  have HP3 := Lib.hid P3
  have HY3 := Lib.hid h2
  clear h1 h2 P3
  go_wp2_with fail
  go_ret
  exact ⟨y3, s3, rfl, HY3.out, by omega, HP3.out⟩
set_option maxHeartbeats 8000000 in
theorem medianAdjacent7 (blk off cap n g a lo hi s : Nat) (d : Array Int) (w wr : World) (H : RowOf w blk off d) (hn : d.size = n) (P : PivAt w blk off d g wr s) (ha : lo + 1 ≤ a ∧ a + 1 < hi) (hh : hi ≤ n) (hs : s ≤ 50) :
    Calls Tryz.prog 81 #[.slice (some ⟨blk, off, none⟩) n cap, .int .i64 a, .pointer (some ⟨g, 0, none⟩)] wr fun e w' =>
      ∃ x s' : Nat, e = .returned (.int .i64 (x : Int)) ∧ (lo ≤ x ∧ x < hi) ∧ s' ≤ s + 3 ∧ PivAt w blk off d g w' s' := by
  have hsz := H.fits
  rw [hn] at hsz
  obtain ⟨a1, ha1⟩ : ∃ k, a = k + 1 := ⟨a - 1, by omega⟩
  obtain ⟨a2, ha2⟩ : ∃ k, a + 1 = k := ⟨_, rfl⟩
  have h1I : (a : Int) - 1 = (a1 : Int) := by omega
  have h2I : (a : Int) + 1 = (a2 : Int) := by omega
  have HM := Lib.hid (median7 blk off cap n g a1 a a2 lo hi s d w wr H hn P (by omega) (by omega) (by omega) hh hs)
  have hal : a < n := by omega
  have hal0 : 0 < a := by omega
  clear H P ha1 ha2 hn
  go_enter Tryz.func81, Tryz.ntmps81
  go_wp2_with fail
  refine (HM.out).mono ?_
  rintro e w1 ⟨x1, s1, rfl, h1, h3, P1⟩
  have HP1 := Lib.hid P1
  have HX1 := Lib.hid h1
  clear h1 P1
  go_wp2_with fail
  go_ret
  exact ⟨x1, s1, rfl, HX1.out, h3, HP1.out⟩
theorem PivAt.told {w wr : World} {blk off g s a b x : Nat} {d : Array Int} (P : PivAt w blk off d g wr s) (hx : a ≤ x ∧ x < b) (h : Nat) (hh : h ≤ 2) :
    ∃ p h' : Nat, Ending.returned (.tuple #[.int .i64 (x : Int), .int .i64 ((h : Nat) : Int)]) = .returned (.tuple #[.int .i64 (p : Int), .int .i64 (h' : Int)]) ∧ a ≤ p ∧ p < b ∧ h' ≤ 2 ∧ RowG w blk off d wr d :=
  ⟨x, h, rfl, hx.1, hx.2, hh, P.row⟩
set_option maxHeartbeats 16000000 in
theorem choosePivot7 (blk off cap n a b : Nat) (d : Array Int) (w : World) (H : RowOf w blk off d) (hn : d.size = n) (hab : a < b) (hb : b ≤ n) :
    Calls Tryz.prog 55 #[.slice (some ⟨blk, off, none⟩) n cap, .int .i64 a, .int .i64 b] w fun e w' =>
      ∃ p h : Nat, e = .returned (.tuple #[.int .i64 (p : Int), .int .i64 (h : Int)]) ∧ a ≤ p ∧ p < b ∧ h ≤ 2 ∧ RowG w blk off d w' d := by
  have hsz := H.fits
  rw [hn] at hsz
  have HO := Lib.hid (fun (x y z s : Nat) (wr : World) (P : Hid (PivAt w blk off d w.heap.size wr s)) (hx : Hid (a ≤ x ∧ x < b)) (hy : Hid (a ≤ y ∧ y < b)) (hz : Hid (a ≤ z ∧ z < b)) (hs : s ≤ 50) => median7 blk off cap n w.heap.size x y z a b s d w wr H hn P.out hx.out hy.out hz.out hb hs)
  have HA := Lib.hid (fun (x s : Nat) (wr : World) (P : Hid (PivAt w blk off d w.heap.size wr s)) (hx : Hid (a + 1 ≤ x ∧ x + 1 < b)) (hs : s ≤ 50) => medianAdjacent7 blk off cap n w.heap.size x a b s d w wr H hn P.out hx.out hb hs)
  have HP := Lib.hid (PivAt.start H 3)
  obtain ⟨l, hl⟩ : ∃ l, b - a = l := ⟨_, rfl⟩
  have hlI : (b : Int) - (a : Int) = (l : Int) := by omega
  obtain ⟨q, hq⟩ : ∃ q, l / 4 = q := ⟨_, rfl⟩
  have hqI : (l : Int) / 4 = (q : Int) := by omega
  have hqT : (l : Int).tdiv 4 = (q : Int) := by rw [Int.tdiv_eq_ediv_of_nonneg (by omega)]; omega
  obtain ⟨i, hi⟩ : ∃ i, a + q = i := ⟨_, rfl⟩
  have hiI : (a : Int) + (q : Int) = (i : Int) := by omega
  obtain ⟨j, hj⟩ : ∃ j, a + q * 2 = j := ⟨_, rfl⟩
  have hjI : (a : Int) + (q : Int) * 2 = (j : Int) := by omega
  obtain ⟨k, hk⟩ : ∃ k, a + q * 3 = k := ⟨_, rfl⟩
  have hkI : (a : Int) + (q : Int) * 3 = (k : Int) := by omega
  have hql : q ≤ n := by omega
  have hll : l ≤ n := by omega
  have hjr := Lib.hid (show a ≤ j ∧ j < b by omega)
  obtain ⟨W0, hW0⟩ : ∃ W0, w.alloc (.cells #[.int .i64 0] 3) = W0 := ⟨_, rfl⟩
  rw [hW0] at HP
  by_cases h8 : 8 ≤ l
  · have g8 : decide ((8 : Int) ≤ (l : Int)) = true := by simp; omega
    have hir := Lib.hid (show a ≤ i ∧ i < b by omega)
    have hkr := Lib.hid (show a ≤ k ∧ k < b by omega)
    by_cases h50 : 50 ≤ l
    · have g50 : decide ((50 : Int) ≤ (l : Int)) = true := by simp; omega
      have hir2 := Lib.hid (show a + 1 ≤ i ∧ i + 1 < b by omega)
      have hjr2 := Lib.hid (show a + 1 ≤ j ∧ j + 1 < b by omega)
      have hkr2 := Lib.hid (show a + 1 ≤ k ∧ k + 1 < b by omega)
      clear H hl hq hi hj hk hn
      go_enter Tryz.func55, Tryz.ntmps55
      go_wp2_with fail
      refine (HA.out i 0 W0 HP hir2 (by omega)).mono ?_
      rintro e w1 ⟨x1, s1, rfl, h1, h3, P⟩
      have HP1 := Lib.hid P
      have HX1 := Lib.hid h1
      have hs1 : s1 ≤ 3 := by omega
      clear h1 h3 P
      go_wp2_with fail
      refine (HA.out j s1 w1 HP1 hjr2 (by omega)).mono ?_
      rintro e w2 ⟨x2, s2, rfl, h1, h3, P⟩
      have HP2 := Lib.hid P
      have HX2 := Lib.hid h1
      have hs2 : s2 ≤ 6 := by omega
      clear h1 h3 P
      go_wp2_with fail
      refine (HA.out k s2 w2 HP2 hkr2 (by omega)).mono ?_
      rintro e w3 ⟨x3, s3, rfl, h1, h3, P⟩
      have HP3 := Lib.hid P
      have HX3 := Lib.hid h1
      have hs3 : s3 ≤ 9 := by omega
      clear h1 h3 P
      go_wp2_with fail
      refine (HO.out x1 x2 x3 s3 w3 HP3 HX1 HX2 HX3 (by omega)).mono ?_
      rintro e w4 ⟨x4, s4, rfl, h1, h3, P⟩
      have HP4 := Lib.hid P
      have HX4 := Lib.hid h1
      have hs4 : s4 ≤ 12 := by omega
      clear h1 h3 P
      have hcn := HP4.out.cnt
      by_cases h0 : s4 = 0
      · have e0 : ((s4 : Int) == 0) = true := by simp; omega
        go_wp2_with fail
        go_ret2
        exact PivAt.told HP4.out HX4.out 1 (by omega)
      · have e0 : ((s4 : Int) == 0) = false := by simp; omega
        by_cases h12 : s4 = 12
        · have e1 : ((s4 : Int) == 12) = true := by simp; omega
          go_wp2_with fail
          go_ret2
          exact PivAt.told HP4.out HX4.out 2 (by omega)
        · have e1 : ((s4 : Int) == 12) = false := by simp; omega
          go_wp2_with fail
          go_ret2
          exact PivAt.told HP4.out HX4.out 0 (by omega)
    · have g50 : decide ((50 : Int) ≤ (l : Int)) = false := by simp; omega
      clear H hl hq hi hj hk hn
      go_enter Tryz.func55, Tryz.ntmps55
      go_wp2_with fail
      refine (HO.out i j k 0 W0 HP hir hjr hkr (by omega)).mono ?_
      rintro e w4 ⟨x4, s4, rfl, h1, h3, P⟩
      have HP4 := Lib.hid P
      have HX4 := Lib.hid h1
      have hs4 : s4 ≤ 12 := by omega
      clear h1 h3 P
      have hcn := HP4.out.cnt
      by_cases h0 : s4 = 0
      · have e0 : ((s4 : Int) == 0) = true := by simp; omega
        go_wp2_with fail
        go_ret2
        exact PivAt.told HP4.out HX4.out 1 (by omega)
      · have e0 : ((s4 : Int) == 0) = false := by simp; omega
        by_cases h12 : s4 = 12
        · have e1 : ((s4 : Int) == 12) = true := by simp; omega
          go_wp2_with fail
          go_ret2
          exact PivAt.told HP4.out HX4.out 2 (by omega)
        · have e1 : ((s4 : Int) == 12) = false := by simp; omega
          go_wp2_with fail
          go_ret2
          exact PivAt.told HP4.out HX4.out 0 (by omega)
  · have g8 : decide ((8 : Int) ≤ (l : Int)) = false := by simp; omega
    have hcn := HP.out.cnt
    clear H hl hq hi hj hk hn
    go_enter Tryz.func55, Tryz.ntmps55
    go_wp2_with fail
    go_ret2
    exact PivAt.told HP.out hjr.out 1 (by omega)
end Go.Proofs.YtakcgamgnmmdlaaGreat

/- Several texts in one; each begins with a remark that says what it shows and on which conditions. -/
import Derived.Test.YtjpfcdgaepdcdaaGreatKbl
import Derived.Test.YtjpfcdgaepdcdaaGreatKbm
import Derived.Test.YtjpfcdgaepdcdaaGreatKbn
import Derived.Test.YtjpfcdgaepdcdaaGreatKbo
/- slices.Sort at []uint64: pdqsortOrdered, Sort: what stands there behind the call is what stood there, rising. Conditions: the row lies in a block that was there, and has fewer than 2^62 elements. -/
namespace Go.Proofs.YtjpfcdgaepdcdaaGreat
open Go.RowKit Go.Sort
set_option maxRecDepth 20000
/-- What is sorted is told of the whole part. -/
def PdqDone (w : World) (blk off : Nat) (d : Array Int) (a b : Nat) (w' : World) : Prop := ∃ R, PermIn a b d R ∧ SortedIn ltInt a b R ∧ RowG w blk off d w' R
/-- Still to be sorted: from a' up to b'. -/
structure PdqAt (w : World) (blk off : Nat) (d : Array Int) (a b : Nat) (wr : World) (a' b' : Nat) (dk : Array Int) : Prop where
  row : RowG w blk off d wr dk
  ok : a' ≤ b'
  top : b' ≤ d.size
  below : Go.Sort.Below ltInt a' b' dk
  cont : ∀ R, PermIn a' b' dk R → SortedIn ltInt a' b' R → PermIn a b d R ∧ SortedIn ltInt a b R
/-- Parted at mid. -/
structure PdqTwo (w : World) (blk off : Nat) (d : Array Int) (a b : Nat) (wr : World) (a' b' mid : Nat) (dk : Array Int) : Prop where
  row : RowG w blk off d wr dk
  top : b' ≤ d.size
  lo : a' ≤ mid
  hi : mid < b'
  left : Go.Sort.Below ltInt a' mid dk
  right : Go.Sort.Below ltInt (mid + 1) b' dk
  first : ∀ L, PermIn a' mid dk L → SortedIn ltInt a' mid L → Go.Sort.Below ltInt (mid + 1) b' L ∧ ∀ R, PermIn (mid + 1) b' L R → SortedIn ltInt (mid + 1) b' R → PermIn a b d R ∧ SortedIn ltInt a b R
  other : ∀ L, PermIn (mid + 1) b' dk L → SortedIn ltInt (mid + 1) b' L → Go.Sort.Below ltInt a' mid L ∧ ∀ R, PermIn a' mid L R → SortedIn ltInt a' mid R → PermIn a b d R ∧ SortedIn ltInt a b R
section
variable {w wr w2 : World} {blk off a b a' b' cap n : Nat} {d dk d2 : Array Int}
theorem PdqAt.start (H : RowOf w blk off d) (hab : a ≤ b) (hb : b ≤ d.size) (hB : Go.Sort.Below ltInt a b d) : PdqAt w blk off d a b w a b d :=
  ⟨RowG.self H, hab, hb, hB, fun _ h k => ⟨h, k⟩⟩
theorem PdqAt.topk (P : PdqAt w blk off d a b wr a' b' dk) : b' ≤ dk.size := by have := P.row.1; have := P.top; omega
theorem PdqAt.perm (H : RowOf w blk off d) (P : PdqAt w blk off d a b wr a' b' dk) (h : PermIn a' b' dk d2) (r : RowG wr blk off dk w2 d2) : PdqAt w blk off d a b w2 a' b' d2 :=
  ⟨P.row.trans H r, P.ok, P.top, P.below.perm P.topk h, fun R hR hs => P.cont R (permIn_trans _ _ _ _ _ h hR) hs⟩
theorem PdqAt.done (H : RowOf w blk off d) (P : PdqAt w blk off d a b wr a' b' dk) (h : PermIn a' b' dk d2) (hs : SortedIn ltInt a' b' d2) (r : RowG wr blk off dk w2 d2) : PdqDone w blk off d a b w2 :=
  ⟨d2, (P.cont d2 h hs).1, (P.cont d2 h hs).2, P.row.trans H r⟩
theorem PdqAt.drew (P : PdqAt w blk off d a b wr a' b' dk) (q : Nat) : PdqAt w blk off d a b (wr.drewN q) a' b' dk := ⟨P.row.drew q, P.ok, P.top, P.below, P.cont⟩
theorem pq_ins (H : RowOf w blk off d) (hn : d.size = n) (P : PdqAt w blk off d a b wr a' b' dk) :
    Calls Tryz.prog 85 #[.slice (some ⟨blk, off, none⟩) n cap, .int .i64 a', .int .i64 b'] wr fun e w' => e = .returned (.tuple #[]) ∧ PdqDone w blk off d a b w' :=
  (insertionSort7 blk off cap n a' b' dk wr (P.row.of H) (P.row.1.trans hn) P.ok (by have := P.top; omega)).mono fun e w' ⟨h1, h2⟩ =>
    ⟨h1, P.done H (insertionSort_holds swo_ltInt dk a' b' P.ok P.topk).1 (insertionSort_holds swo_ltInt dk a' b' P.ok P.topk).2 h2⟩
theorem pq_heap (H : RowOf w blk off d) (hn : d.size = n) (P : PdqAt w blk off d a b wr a' b' dk) (h : a' < b') :
    Calls Tryz.prog 86 #[.slice (some ⟨blk, off, none⟩) n cap, .int .i64 a', .int .i64 b'] wr fun e w' => e = .returned (.tuple #[]) ∧ PdqDone w blk off d a b w' :=
  (heapSort7 blk off cap n a' b' dk wr (P.row.of H) (P.row.1.trans hn) h (by have := P.top; omega)).mono fun e w' ⟨h1, h2⟩ =>
    ⟨h1, P.done H (heapSort_holds swo_ltInt dk a' b' P.ok P.topk).1 (heapSort_holds swo_ltInt dk a' b' P.ok P.topk).2 h2⟩
theorem pq_break (H : RowOf w blk off d) (hn : d.size = n) (P : PdqAt w blk off d a b wr a' b' dk) (h : a' + 8 ≤ b') :
    Calls Tryz.prog 87 #[.slice (some ⟨blk, off, none⟩) n cap, .int .i64 a', .int .i64 b'] wr fun e w' => e = .returned (.tuple #[]) ∧ ∃ d2, PdqAt w blk off d a b w' a' b' d2 :=
  (breakPatterns7 blk off cap n a' b' dk wr (P.row.of H) (P.row.1.trans hn) h (by have := P.top; omega)).mono fun e w' ⟨h1, d2, h2, h3⟩ => ⟨h1, d2, P.perm H h2 h3⟩
theorem pq_pivot (H : RowOf w blk off d) (hn : d.size = n) (P : PdqAt w blk off d a b wr a' b' dk) (h : a' < b') :
    Calls Tryz.prog 88 #[.slice (some ⟨blk, off, none⟩) n cap, .int .i64 a', .int .i64 b'] wr fun e w' => ∃ p h : Nat, e = .returned (.tuple #[.int .i64 (p : Int), .int .i64 (h : Int)]) ∧ a' ≤ p ∧ p < b' ∧ h ≤ 2 ∧ PdqAt w blk off d a b w' a' b' dk :=
  (choosePivot7 blk off cap n a' b' dk wr (P.row.of H) (P.row.1.trans hn) h (by have := P.top; omega)).mono fun e w' ⟨p, h, h1, h2, h3, h4, h5⟩ => ⟨p, h, h1, h2, h3, h4, P.perm H (permIn_refl _ _ _) h5⟩
theorem pq_rev (H : RowOf w blk off d) (hn : d.size = n) (P : PdqAt w blk off d a b wr a' b' dk) (h : a' < b') :
    Calls Tryz.prog 89 #[.slice (some ⟨blk, off, none⟩) n cap, .int .i64 a', .int .i64 b'] wr fun e w' => e = .returned (.tuple #[]) ∧ ∃ d2, PdqAt w blk off d a b w' a' b' d2 :=
  (reverseRange7 blk off cap n a' b' dk wr (P.row.of H) (P.row.1.trans hn) h (by have := P.top; omega)).mono fun e w' ⟨h1, h3⟩ => ⟨h1, _, P.perm H (reverseRange_holds dk a' b' P.ok P.topk) h3⟩
theorem pq_part (H : RowOf w blk off d) (hn : d.size = n) (P : PdqAt w blk off d a b wr a' b' dk) (h : a' < b') :
    Calls Tryz.prog 90 #[.slice (some ⟨blk, off, none⟩) n cap, .int .i64 a', .int .i64 b'] wr fun e w' => ∃ (r : Bool) (d2 : Array Int), e = .returned (.bool r) ∧ (r = true → PdqDone w blk off d a b w') ∧ PdqAt w blk off d a b w' a' b' d2 :=
  (partialInsertionSort7 blk off cap n a' b' dk wr (P.row.of H) (P.row.1.trans hn) h (by have := P.top; omega) _ rfl).mono fun e w' ⟨h1, h3⟩ => by
    obtain ⟨k1, k2⟩ := partialInsertionSort_holds swo_ltInt dk a' b' h P.topk P.below
    exact ⟨_, _, h1, fun hr => P.done H k1 (k2 hr) h3, P.perm H k1 h3⟩
theorem pq_equal (H : RowOf w blk off d) (hn : d.size = n) (P : PdqAt w blk off d a b wr a' b' dk) (p : Nat) (h0 : 0 < a') (h1 : a' ≤ p) (h2 : p < b') (hl : ltInt dk[a' - 1]! dk[p]! = false) :
    Calls Tryz.prog 92 #[.slice (some ⟨blk, off, none⟩) n cap, .int .i64 a', .int .i64 b', .int .i64 p] wr fun e w' => ∃ (mid : Nat) (d2 : Array Int), e = .returned (.int .i64 (mid : Int)) ∧ a' < mid ∧ mid ≤ b' ∧ PdqAt w blk off d a b w' mid b' d2 := by
  obtain ⟨mid, d4, hx⟩ : ∃ mid d4, partitionEqual ltInt dk a' b' p = (mid, d4) := ⟨_, _, rfl⟩
  obtain ⟨k1, k2, k3, k4, k5⟩ := round_eq swo_ltInt (partitionEqual_holds ltInt) h0 h1 h2 P.topk P.below hl hx
  refine (partitionEqual7 blk off cap n a' b' p dk wr (P.row.of H) (P.row.1.trans hn) h1 h2 (by have := P.top; omega) (mid, d4) hx).mono fun e w' ⟨m1, m2⟩ => ?_
  exact ⟨mid, d4, m1, k1, k2, P.row.trans H m2, k2, P.top, k4, fun R hR hs => P.cont R (k5 R hR hs).1 (k5 R hR hs).2⟩
theorem pq_two (H : RowOf w blk off d) (hn : d.size = n) (P : PdqAt w blk off d a b wr a' b' dk) (p : Nat) (h1 : a' ≤ p) (h2 : p < b') :
    Calls Tryz.prog 93 #[.slice (some ⟨blk, off, none⟩) n cap, .int .i64 a', .int .i64 b', .int .i64 p] wr fun e w' => ∃ (mid : Nat) (ap : Bool) (d2 : Array Int), e = .returned (.tuple #[.int .i64 (mid : Int), .bool ap]) ∧ a' ≤ mid ∧ mid < b' ∧ PdqTwo w blk off d a b w' a' b' mid d2 := by
  obtain ⟨mid, ap, d4, hx⟩ : ∃ mid ap d4, partition ltInt dk a' b' p = (mid, ap, d4) := ⟨_, _, _, rfl⟩
  obtain ⟨k1, k2, k3, k4, k5, k6, k7⟩ := round_part swo_ltInt (partition_holds ltInt) h1 h2 P.topk P.below hx
  have e1 := partition_fst (lt := ltInt) dk a' b' p
  have e2 := partition_arr (lt := ltInt) dk a' b' p
  rw [hx] at e1 e2
  refine (partition7 blk off cap n a' b' p dk wr (P.row.of H) (P.row.1.trans hn) h1 h2 (by have := P.top; omega) _ rfl).mono fun e w' ⟨ap2, m1, m2⟩ => ?_
  rw [← e2] at m2
  rw [← e1] at m1
  exact ⟨mid, ap2, d4, m1, k1, k2, P.row.trans H m2, P.top, k1, k2, k4, k5, fun L hL hs => ⟨(k6 L hL hs).1, fun R hR hs2 => P.cont R ((k6 L hL hs).2 R hR hs2).1 ((k6 L hL hs).2 R hR hs2).2⟩,
    fun L hL hs => ⟨(k7 L hL hs).1, fun R hR hs2 => P.cont R ((k7 L hL hs).2 R hR hs2).1 ((k7 L hL hs).2 R hR hs2).2⟩⟩
end
/-- The contract of the recursion, at parts of so many elements. -/
def PdqTo (K : Nat) : Prop := ∀ (blk off cap n a b limit : Nat) (d : Array Int) (w : World), b - a ≤ K → RowOf w blk off d → d.size = n → a ≤ b → b ≤ n → limit < 4611686018427387904 → Go.Sort.Below ltInt a b d →
  Calls Tryz.prog 60 #[.slice (some ⟨blk, off, none⟩) n cap, .int .i64 a, .int .i64 b, .int .i64 limit] w fun e w' => e = .returned (.tuple #[]) ∧ PdqDone w blk off d a b w'
section
variable {w wr w2 : World} {blk off a b a' b' cap n mid limit K : Nat} {d dk d2 : Array Int}
theorem pq_left (hK : ∀ k, k < K → PdqTo k) (H : RowOf w blk off d) (hn : d.size = n) (P : PdqTwo w blk off d a b wr a' b' mid dk) (hk : b' - a' ≤ K) (hl : limit < 4611686018427387904) :
    Calls Tryz.prog 60 #[.slice (some ⟨blk, off, none⟩) n cap, .int .i64 a', .int .i64 mid, .int .i64 limit] wr fun e w' => e = .returned (.tuple #[]) ∧ ∃ d2, PdqAt w blk off d a b w' (mid + 1) b' d2 :=
  (hK (mid - a') (by have := P.hi; have := P.lo; omega) blk off cap n a' mid limit dk wr (Nat.le_refl _) (P.row.of H) (P.row.1.trans hn) P.lo (by have := P.hi; have := P.top; omega) hl P.left).mono fun e w' ⟨h1, R, h2, h3, h4⟩ =>
    ⟨h1, R, P.row.trans H h4, by have := P.hi; omega, P.top, (P.first R h2 h3).1, (P.first R h2 h3).2⟩
theorem pq_right (hK : ∀ k, k < K → PdqTo k) (H : RowOf w blk off d) (hn : d.size = n) (P : PdqTwo w blk off d a b wr a' b' mid dk) (hk : b' - a' ≤ K) (hl : limit < 4611686018427387904) :
    Calls Tryz.prog 60 #[.slice (some ⟨blk, off, none⟩) n cap, .int .i64 ((mid + 1 : Nat) : Int), .int .i64 b', .int .i64 limit] wr fun e w' => e = .returned (.tuple #[]) ∧ ∃ d2, PdqAt w blk off d a b w' a' mid d2 :=
  (hK (b' - (mid + 1)) (by have := P.hi; have := P.lo; omega) blk off cap n (mid + 1) b' limit dk wr (Nat.le_refl _) (P.row.of H) (P.row.1.trans hn) (by have := P.hi; omega) (by have := P.top; omega) hl P.right).mono fun e w' ⟨h1, R, h2, h3, h4⟩ =>
    ⟨h1, R, P.row.trans H h4, P.lo, by have := P.hi; have := P.top; omega, (P.other R h2 h3).1, (P.other R h2 h3).2⟩
end
set_option maxHeartbeats 200000000 in
theorem pdq_step7 (K : Nat) (hK : ∀ k, k < K → PdqTo k) : PdqTo K := by
  intro blk off cap n a b limit d w hba H hn hab hb hlim hB
  have HN := Lib.hid hn
  have HH := Lib.hid H
  have hsz := H.fits
  rw [hn] at hsz
  have HP := Lib.hid (PdqAt.start H hab (by omega) hB)
  clear H hn hB
  go_enter Tryz.func60, Tryz.ntmps60
  go_wp2_with fail
  go_loopw [1, 2, 3, 8, 9] (fun va vb vl v8 v9 wr => ∃ (x y lim : Nat) (wb wp : Bool) (dk : Array Int), va = .int .i64 x ∧ vb = .int .i64 y ∧ vl = .int .i64 lim ∧ v8 = .bool wb ∧ v9 = .bool wp ∧ x ≤ y ∧ y ≤ n ∧ y - x ≤ K ∧ lim < 4611686018427387904 ∧ Hid (PdqAt w blk off d a b wr x y dk)) (fun va vb _ _ _ _ => (intOf7 vb - intOf7 va).toNat)
  case atStart => exact ⟨a, b, limit, true, true, d, rfl, rfl, rfl, rfl, rfl, hab, hb, hba, hlim, HP⟩
  case round =>
    clear HP hab hb hba hlim
    obtain ⟨x, y, lim, wb, wp, dk, rfl, rfl, rfl, rfl, rfl, hxy, hyn, hyx, hlim, HP⟩ := hrel
    obtain ⟨l, hl0⟩ : ∃ l, y - x = l := ⟨_, rfl⟩
    have hlI : (y : Int) - (x : Int) = (l : Int) := by omega
    have hln : l ≤ n := by omega
    by_cases h12 : l ≤ 12
    · have g1 : decide ((l : Int) ≤ 12) = true := by simp; omega
      clear hl0
      go_wp2_with fail
      refine (pq_ins HH.out HN.out HP.out).mono ?_
      rintro e w1 ⟨rfl, hD⟩
      have HD := Lib.hid hD
      clear hD
      go_wp2_with fail
      refine bodyPost_ret (results_none rfl _ _ _) rfl ?_
      exact ⟨rfl, HD.out⟩
    · have g1 : decide ((l : Int) ≤ 12) = false := by simp; omega
      have hxy12 : x < y := by omega
      have hxy8 : x + 8 ≤ y := by omega
      clear hl0
      by_cases hl00 : lim = 0
      · have g2 : ((lim : Int) == 0) = true := by simp; omega
        go_wp2_with fail
        refine (pq_heap HH.out HN.out HP.out hxy12).mono ?_
        rintro e w1 ⟨rfl, hD⟩
        have HD := Lib.hid hD
        clear hD
        go_wp2_with fail
        refine bodyPost_ret (results_none rfl _ _ _) rfl ?_
        exact ⟨rfl, HD.out⟩
      · have g2 : ((lim : Int) == 0) = false := by simp; omega
        cases wb with
        | true =>
          go_wp2_with fail
          refine (pq_pivot HH.out HN.out HP.out hxy12).mono ?_
          rintro e wv ⟨p, h, rfl, hpa, hpb, hh2, hP⟩
          have HP1 := Lib.hid hP
          clear hP
          obtain ⟨p2, hp2⟩ : ∃ k, y - 1 - (p - x) = k := ⟨_, rfl⟩
          have hp2I : (y : Int) - 1 - ((p : Int) - (x : Int)) = (p2 : Int) := by omega
          have hp2a : x ≤ p2 := by omega
          have hp2b : p2 < y := by omega
          clear hp2
          cases wp with
          | true =>
            by_cases h2 : h = 2
            · have e2 : ((h : Int) == 2) = true := by simp; omega
              go_wp2_with fail
              refine (pq_rev HH.out HN.out HP1.out hxy12).mono ?_
              rintro e wt ⟨rfl, d6, hP⟩
              have HP6 := Lib.hid hP
              clear hP
              have hpa := hp2a
              have hpb := hp2b
              go_wp2_with fail
              refine (pq_part HH.out HN.out HP6.out hxy12).mono ?_
              rintro e wu ⟨r, d5, rfl, hD, hP⟩
              have HP5 := Lib.hid hP
              have HD := Lib.hid hD
              clear hP hD
              cases r with
              | true =>
                go_wp2_with fail
                refine bodyPost_ret (results_none rfl _ _ _) rfl ?_
                exact ⟨rfl, HD.out (by first | rfl | trivial)⟩
              | false =>
                obtain ⟨dz, wz, hdz, HPz⟩ : ∃ dz wz, wz = wu ∧ Hid (PdqAt w blk off d a b wz x y dz) := ⟨_, _, rfl, HP5⟩
                obtain ⟨G, HG⟩ := name_cells dz
                have hcw := (HPz.out.row.of HH.out).cellAt HG
                rw [HPz.out.row.1.trans HN.out, hdz] at hcw
                rw [hdz] at HPz
                clear hdz
                have hpn : p2 < n := by omega
                have HPA := Lib.hid hpa
                have HPB := Lib.hid hpb
                have HYX := Lib.hid hyx
                have hlimx : lim < 4611686018427387904 := by assumption
                clear hpa hlI hp2I hp2a
                by_cases hx0 : x = 0
                · subst hx0
                  go_wp2_with fail
                  go_quiet ((go_at_call 91; refine Calls.quiet_of_same (less7 _ _ _)))
                  go_wp2_with fail
                  have HPq := Lib.hid (HPz.out.drew nq)
                  clear hcw HPz
                  refine (pq_two HH.out HN.out HPq.out p2 HPA.out HPB.out).mono ?_
                  rintro e w1 ⟨mid, ap, d4, rfl, hm1, hm2, hP⟩
                  have HP4 := Lib.hid hP
                  clear hP
                  obtain ⟨rr, hrr⟩ : ∃ k, y - mid = k := ⟨_, rfl⟩
                  obtain ⟨th, hth⟩ : ∃ k, l / 8 = k := ⟨_, rfl⟩
                  have hrrI : (y : Int) - (mid : Int) = (rr : Int) := by omega
                  have hthI : (l : Int) / 8 = (th : Int) := by omega
                  have hthT : (l : Int).tdiv 8 = (th : Int) := by rw [Int.tdiv_eq_ediv_of_nonneg (by omega)]; omega
                  obtain ⟨mid1, hmid1⟩ : ∃ k, mid + 1 = k := ⟨_, rfl⟩
                  have hm1I : (mid : Int) + 1 = (mid1 : Int) := by omega
                  have hmn : mid < n := by omega
                  have HM1 := Lib.hid hmid1
                  have HMM := Lib.hid (show 0 ≤ mid ∧ mid < y from ⟨by omega, hm2⟩)
                  have HCR := Lib.hid (pq_right (mid := mid) (cap := cap) hK HH.out HN.out HP4.out HYX.out hlimx)
                  have HCL := Lib.hid (pq_left (mid := mid) (cap := cap) hK HH.out HN.out HP4.out HYX.out hlimx)
                  rw [hmid1] at HCR HCL
                  clear hrr hth hmid1
                  by_cases hlr : mid < rr
                  · have g5 : decide ((mid : Int) < (rr : Int)) = true := by simp; omega
                    go_wp2_with fail
                    refine (HCL.out).mono ?_
                    rintro e w3 ⟨rfl, d5, hP5⟩
                    have HP5 := Lib.hid hP5
                    clear hP5
                    go_wp2_with fail
                    go_roundw
                    case rel => exact ⟨mid1, y, lim, _, _, d5, rfl, rfl, rfl, rfl, rfl, by have := HM1.out; have := HMM.out; omega, by omega, by have := HM1.out; have := HYX.out; omega, by omega, HP5⟩
                    case measure => have h1 := HM1.out; have h2 := HMM.out; simp [intOf7]; omega
                  · have g5 : decide ((mid : Int) < (rr : Int)) = false := by simp; omega
                    go_wp2_with fail
                    refine (HCR.out).mono ?_
                    rintro e w3 ⟨rfl, d5, hP5⟩
                    have HP5 := Lib.hid hP5
                    clear hP5
                    go_wp2_with fail
                    go_roundw
                    case rel => exact ⟨0, mid, lim, _, _, d5, rfl, rfl, rfl, rfl, rfl, by have := HMM.out; omega, by omega, by have := HYX.out; have := HMM.out; omega, by omega, HP5⟩
                    case measure => have h2 := HMM.out; simp [intOf7]; omega
                · have gx : decide ((0 : Int) < (x : Int)) = true := by simp; omega
                  have gx2 : 0 < x := by omega
                  have hx1n : x - 1 < n := by omega
                  cases hl : ltInt (G (x - 1)) (G p2) with
                  | true =>
                    go_wp2_with fail
                    go_quiet ((go_at_call 91; refine Calls.quiet_of_same (less7 _ _ _)))
                    go_wp2_with fail
                    have HPq := Lib.hid (HPz.out.drew nq)
                    clear hcw HPz
                    refine (pq_two HH.out HN.out HPq.out p2 HPA.out HPB.out).mono ?_
                    rintro e w1 ⟨mid, ap, d4, rfl, hm1, hm2, hP⟩
                    have HP4 := Lib.hid hP
                    clear hP
                    obtain ⟨ll, hll⟩ : ∃ k, mid - x = k := ⟨_, rfl⟩
                    have hllI : (mid : Int) - (x : Int) = (ll : Int) := by omega
                    clear hll
                    obtain ⟨rr, hrr⟩ : ∃ k, y - mid = k := ⟨_, rfl⟩
                    obtain ⟨th, hth⟩ : ∃ k, l / 8 = k := ⟨_, rfl⟩
                    have hrrI : (y : Int) - (mid : Int) = (rr : Int) := by omega
                    have hthI : (l : Int) / 8 = (th : Int) := by omega
                    have hthT : (l : Int).tdiv 8 = (th : Int) := by rw [Int.tdiv_eq_ediv_of_nonneg (by omega)]; omega
                    obtain ⟨mid1, hmid1⟩ : ∃ k, mid + 1 = k := ⟨_, rfl⟩
                    have hm1I : (mid : Int) + 1 = (mid1 : Int) := by omega
                    have hmn : mid < n := by omega
                    have HM1 := Lib.hid hmid1
                    have HMM := Lib.hid (show x ≤ mid ∧ mid < y from ⟨by omega, hm2⟩)
                    have HCR := Lib.hid (pq_right (mid := mid) (cap := cap) hK HH.out HN.out HP4.out HYX.out hlimx)
                    have HCL := Lib.hid (pq_left (mid := mid) (cap := cap) hK HH.out HN.out HP4.out HYX.out hlimx)
                    rw [hmid1] at HCR HCL
                    clear hrr hth hmid1
                    by_cases hlr : ll < rr
                    · have g5 : decide ((ll : Int) < (rr : Int)) = true := by simp; omega
                      go_wp2_with fail
                      refine (HCL.out).mono ?_
                      rintro e w3 ⟨rfl, d5, hP5⟩
                      have HP5 := Lib.hid hP5
                      clear hP5
                      go_wp2_with fail
                      go_roundw
                      case rel => exact ⟨mid1, y, lim, _, _, d5, rfl, rfl, rfl, rfl, rfl, by have := HM1.out; have := HMM.out; omega, by omega, by have := HM1.out; have := HYX.out; omega, by omega, HP5⟩
                      case measure => have h1 := HM1.out; have h2 := HMM.out; simp [intOf7]; omega
                    · have g5 : decide ((ll : Int) < (rr : Int)) = false := by simp; omega
                      go_wp2_with fail
                      refine (HCR.out).mono ?_
                      rintro e w3 ⟨rfl, d5, hP5⟩
                      have HP5 := Lib.hid hP5
                      clear hP5
                      go_wp2_with fail
                      go_roundw
                      case rel => exact ⟨x, mid, lim, _, _, d5, rfl, rfl, rfl, rfl, rfl, by have := HMM.out; omega, by omega, by have := HYX.out; have := HMM.out; omega, by omega, HP5⟩
                      case measure => have h2 := HMM.out; simp [intOf7]; omega
                  | false =>
                    go_wp2_with fail
                    go_quiet ((go_at_call 91; refine Calls.quiet_of_same (less7 _ _ _)))
                    go_wp2_with fail
                    have HPq := Lib.hid (HPz.out.drew nq)
                    clear hcw HPz
                    refine (pq_equal HH.out HN.out HPq.out p2 gx2 HPA.out HPB.out (by rw [← HG.out, ← HG.out]; exact hl)).mono ?_
                    rintro e w1 ⟨mid, d4, rfl, hm1, hm2, hP⟩
                    have HP4 := Lib.hid hP
                    clear hP
                    go_wp2_with fail
                    go_roundw
                    case rel => exact ⟨mid, y, lim, _, _, d4, rfl, rfl, rfl, rfl, rfl, by omega, by omega, by have := HYX.out; omega, by omega, HP4⟩
                    case measure => simp [intOf7]; omega
            · have e2 : ((h : Int) == 2) = false := by simp; omega
              by_cases h1 : h = 1
              · have e1 : ((h : Int) == 1) = true := by simp; omega
                go_wp2_with fail
                refine (pq_part HH.out HN.out HP1.out hxy12).mono ?_
                rintro e wu ⟨r, d5, rfl, hD, hP⟩
                have HP5 := Lib.hid hP
                have HD := Lib.hid hD
                clear hP hD
                cases r with
                | true =>
                  go_wp2_with fail
                  refine bodyPost_ret (results_none rfl _ _ _) rfl ?_
                  exact ⟨rfl, HD.out (by first | rfl | trivial)⟩
                | false =>
                  obtain ⟨dz, wz, hdz, HPz⟩ : ∃ dz wz, wz = wu ∧ Hid (PdqAt w blk off d a b wz x y dz) := ⟨_, _, rfl, HP5⟩
                  obtain ⟨G, HG⟩ := name_cells dz
                  have hcw := (HPz.out.row.of HH.out).cellAt HG
                  rw [HPz.out.row.1.trans HN.out, hdz] at hcw
                  rw [hdz] at HPz
                  clear hdz
                  have hpn : p < n := by omega
                  have HPA := Lib.hid hpa
                  have HPB := Lib.hid hpb
                  have HYX := Lib.hid hyx
                  have hlimx : lim < 4611686018427387904 := by assumption
                  clear hpa hlI hp2I hp2a
                  by_cases hx0 : x = 0
                  · subst hx0
                    go_wp2_with fail
                    go_quiet ((go_at_call 91; refine Calls.quiet_of_same (less7 _ _ _)))
                    go_wp2_with fail
                    have HPq := Lib.hid (HPz.out.drew nq)
                    clear hcw HPz
                    refine (pq_two HH.out HN.out HPq.out p HPA.out HPB.out).mono ?_
                    rintro e w1 ⟨mid, ap, d4, rfl, hm1, hm2, hP⟩
                    have HP4 := Lib.hid hP
                    clear hP
                    obtain ⟨rr, hrr⟩ : ∃ k, y - mid = k := ⟨_, rfl⟩
                    obtain ⟨th, hth⟩ : ∃ k, l / 8 = k := ⟨_, rfl⟩
                    have hrrI : (y : Int) - (mid : Int) = (rr : Int) := by omega
                    have hthI : (l : Int) / 8 = (th : Int) := by omega
                    have hthT : (l : Int).tdiv 8 = (th : Int) := by rw [Int.tdiv_eq_ediv_of_nonneg (by omega)]; omega
                    obtain ⟨mid1, hmid1⟩ : ∃ k, mid + 1 = k := ⟨_, rfl⟩
                    have hm1I : (mid : Int) + 1 = (mid1 : Int) := by omega
                    have hmn : mid < n := by omega
                    have HM1 := Lib.hid hmid1
                    have HMM := Lib.hid (show 0 ≤ mid ∧ mid < y from ⟨by omega, hm2⟩)
                    have HCR := Lib.hid (pq_right (mid := mid) (cap := cap) hK HH.out HN.out HP4.out HYX.out hlimx)
                    have HCL := Lib.hid (pq_left (mid := mid) (cap := cap) hK HH.out HN.out HP4.out HYX.out hlimx)
                    rw [hmid1] at HCR HCL
                    clear hrr hth hmid1
                    by_cases hlr : mid < rr
                    · have g5 : decide ((mid : Int) < (rr : Int)) = true := by simp; omega
                      go_wp2_with fail
                      refine (HCL.out).mono ?_
                      rintro e w3 ⟨rfl, d5, hP5⟩
                      have HP5 := Lib.hid hP5
                      clear hP5
                      go_wp2_with fail
                      go_roundw
                      case rel => exact ⟨mid1, y, lim, _, _, d5, rfl, rfl, rfl, rfl, rfl, by have := HM1.out; have := HMM.out; omega, by omega, by have := HM1.out; have := HYX.out; omega, by omega, HP5⟩
                      case measure => have h1 := HM1.out; have h2 := HMM.out; simp [intOf7]; omega
                    · have g5 : decide ((mid : Int) < (rr : Int)) = false := by simp; omega
                      go_wp2_with fail
                      refine (HCR.out).mono ?_
                      rintro e w3 ⟨rfl, d5, hP5⟩
                      have HP5 := Lib.hid hP5
                      clear hP5
                      go_wp2_with fail
                      go_roundw
                      case rel => exact ⟨0, mid, lim, _, _, d5, rfl, rfl, rfl, rfl, rfl, by have := HMM.out; omega, by omega, by have := HYX.out; have := HMM.out; omega, by omega, HP5⟩
                      case measure => have h2 := HMM.out; simp [intOf7]; omega
                  · have gx : decide ((0 : Int) < (x : Int)) = true := by simp; omega
                    have gx2 : 0 < x := by omega
                    have hx1n : x - 1 < n := by omega
                    cases hl : ltInt (G (x - 1)) (G p) with
                    | true =>
                      go_wp2_with fail
                      go_quiet ((go_at_call 91; refine Calls.quiet_of_same (less7 _ _ _)))
                      go_wp2_with fail
                      have HPq := Lib.hid (HPz.out.drew nq)
                      clear hcw HPz
                      refine (pq_two HH.out HN.out HPq.out p HPA.out HPB.out).mono ?_
                      rintro e w1 ⟨mid, ap, d4, rfl, hm1, hm2, hP⟩
                      have HP4 := Lib.hid hP
                      clear hP
                      obtain ⟨ll, hll⟩ : ∃ k, mid - x = k := ⟨_, rfl⟩
                      have hllI : (mid : Int) - (x : Int) = (ll : Int) := by omega
                      clear hll
                      obtain ⟨rr, hrr⟩ : ∃ k, y - mid = k := ⟨_, rfl⟩
                      obtain ⟨th, hth⟩ : ∃ k, l / 8 = k := ⟨_, rfl⟩
                      have hrrI : (y : Int) - (mid : Int) = (rr : Int) := by omega
                      have hthI : (l : Int) / 8 = (th : Int) := by omega
                      have hthT : (l : Int).tdiv 8 = (th : Int) := by rw [Int.tdiv_eq_ediv_of_nonneg (by omega)]; omega
                      obtain ⟨mid1, hmid1⟩ : ∃ k, mid + 1 = k := ⟨_, rfl⟩
                      have hm1I : (mid : Int) + 1 = (mid1 : Int) := by omega
                      have hmn : mid < n := by omega
                      have HM1 := Lib.hid hmid1
                      have HMM := Lib.hid (show x ≤ mid ∧ mid < y from ⟨by omega, hm2⟩)
                      have HCR := Lib.hid (pq_right (mid := mid) (cap := cap) hK HH.out HN.out HP4.out HYX.out hlimx)
                      have HCL := Lib.hid (pq_left (mid := mid) (cap := cap) hK HH.out HN.out HP4.out HYX.out hlimx)
                      rw [hmid1] at HCR HCL
                      clear hrr hth hmid1
                      by_cases hlr : ll < rr
                      · have g5 : decide ((ll : Int) < (rr : Int)) = true := by simp; omega
                        go_wp2_with fail
                        refine (HCL.out).mono ?_
                        rintro e w3 ⟨rfl, d5, hP5⟩
                        have HP5 := Lib.hid hP5
                        clear hP5
                        go_wp2_with fail
                        go_roundw
                        case rel => exact ⟨mid1, y, lim, _, _, d5, rfl, rfl, rfl, rfl, rfl, by have := HM1.out; have := HMM.out; omega, by omega, by have := HM1.out; have := HYX.out; omega, by omega, HP5⟩
                        case measure => have h1 := HM1.out; have h2 := HMM.out; simp [intOf7]; omega
                      · have g5 : decide ((ll : Int) < (rr : Int)) = false := by simp; omega
                        go_wp2_with fail
                        refine (HCR.out).mono ?_
                        rintro e w3 ⟨rfl, d5, hP5⟩
                        have HP5 := Lib.hid hP5
                        clear hP5
                        go_wp2_with fail
                        go_roundw
                        case rel => exact ⟨x, mid, lim, _, _, d5, rfl, rfl, rfl, rfl, rfl, by have := HMM.out; omega, by omega, by have := HYX.out; have := HMM.out; omega, by omega, HP5⟩
                        case measure => have h2 := HMM.out; simp [intOf7]; omega
                    | false =>
                      go_wp2_with fail
                      go_quiet ((go_at_call 91; refine Calls.quiet_of_same (less7 _ _ _)))
                      go_wp2_with fail
                      have HPq := Lib.hid (HPz.out.drew nq)
                      clear hcw HPz
                      refine (pq_equal HH.out HN.out HPq.out p gx2 HPA.out HPB.out (by rw [← HG.out, ← HG.out]; exact hl)).mono ?_
                      rintro e w1 ⟨mid, d4, rfl, hm1, hm2, hP⟩
                      have HP4 := Lib.hid hP
                      clear hP
                      go_wp2_with fail
                      go_roundw
                      case rel => exact ⟨mid, y, lim, _, _, d4, rfl, rfl, rfl, rfl, rfl, by omega, by omega, by have := HYX.out; omega, by omega, HP4⟩
                      case measure => simp [intOf7]; omega
              · have e1 : ((h : Int) == 1) = false := by simp; omega
                obtain ⟨dz, wz, hdz, HPz⟩ : ∃ dz wz, wz = wv ∧ Hid (PdqAt w blk off d a b wz x y dz) := ⟨_, _, rfl, HP1⟩
                obtain ⟨G, HG⟩ := name_cells dz
                have hcw := (HPz.out.row.of HH.out).cellAt HG
                rw [HPz.out.row.1.trans HN.out, hdz] at hcw
                rw [hdz] at HPz
                clear hdz
                have hpn : p < n := by omega
                have HPA := Lib.hid hpa
                have HPB := Lib.hid hpb
                have HYX := Lib.hid hyx
                have hlimx : lim < 4611686018427387904 := by assumption
                clear hpa hlI hp2I hp2a
                by_cases hx0 : x = 0
                · subst hx0
                  go_wp2_with fail
                  go_quiet ((go_at_call 91; refine Calls.quiet_of_same (less7 _ _ _)))
                  go_wp2_with fail
                  have HPq := Lib.hid (HPz.out.drew nq)
                  clear hcw HPz
                  refine (pq_two HH.out HN.out HPq.out p HPA.out HPB.out).mono ?_
                  rintro e w1 ⟨mid, ap, d4, rfl, hm1, hm2, hP⟩
                  have HP4 := Lib.hid hP
                  clear hP
                  obtain ⟨rr, hrr⟩ : ∃ k, y - mid = k := ⟨_, rfl⟩
                  obtain ⟨th, hth⟩ : ∃ k, l / 8 = k := ⟨_, rfl⟩
                  have hrrI : (y : Int) - (mid : Int) = (rr : Int) := by omega
                  have hthI : (l : Int) / 8 = (th : Int) := by omega
                  have hthT : (l : Int).tdiv 8 = (th : Int) := by rw [Int.tdiv_eq_ediv_of_nonneg (by omega)]; omega
                  obtain ⟨mid1, hmid1⟩ : ∃ k, mid + 1 = k := ⟨_, rfl⟩
                  have hm1I : (mid : Int) + 1 = (mid1 : Int) := by omega
                  have hmn : mid < n := by omega
                  have HM1 := Lib.hid hmid1
                  have HMM := Lib.hid (show 0 ≤ mid ∧ mid < y from ⟨by omega, hm2⟩)
                  have HCR := Lib.hid (pq_right (mid := mid) (cap := cap) hK HH.out HN.out HP4.out HYX.out hlimx)
                  have HCL := Lib.hid (pq_left (mid := mid) (cap := cap) hK HH.out HN.out HP4.out HYX.out hlimx)
                  rw [hmid1] at HCR HCL
                  clear hrr hth hmid1
                  by_cases hlr : mid < rr
                  · have g5 : decide ((mid : Int) < (rr : Int)) = true := by simp; omega
                    go_wp2_with fail
                    refine (HCL.out).mono ?_
                    rintro e w3 ⟨rfl, d5, hP5⟩
                    have HP5 := Lib.hid hP5
                    clear hP5
                    go_wp2_with fail
                    go_roundw
                    case rel => exact ⟨mid1, y, lim, _, _, d5, rfl, rfl, rfl, rfl, rfl, by have := HM1.out; have := HMM.out; omega, by omega, by have := HM1.out; have := HYX.out; omega, by omega, HP5⟩
                    case measure => have h1 := HM1.out; have h2 := HMM.out; simp [intOf7]; omega
                  · have g5 : decide ((mid : Int) < (rr : Int)) = false := by simp; omega
                    go_wp2_with fail
                    refine (HCR.out).mono ?_
                    rintro e w3 ⟨rfl, d5, hP5⟩
                    have HP5 := Lib.hid hP5
                    clear hP5
                    go_wp2_with fail
                    go_roundw
                    case rel => exact ⟨0, mid, lim, _, _, d5, rfl, rfl, rfl, rfl, rfl, by have := HMM.out; omega, by omega, by have := HYX.out; have := HMM.out; omega, by omega, HP5⟩
                    case measure => have h2 := HMM.out; simp [intOf7]; omega
                · have gx : decide ((0 : Int) < (x : Int)) = true := by simp; omega
                  have gx2 : 0 < x := by omega
                  have hx1n : x - 1 < n := by omega
                  cases hl : ltInt (G (x - 1)) (G p) with
                  | true =>
                    go_wp2_with fail
                    go_quiet ((go_at_call 91; refine Calls.quiet_of_same (less7 _ _ _)))
                    go_wp2_with fail
                    have HPq := Lib.hid (HPz.out.drew nq)
                    clear hcw HPz
                    refine (pq_two HH.out HN.out HPq.out p HPA.out HPB.out).mono ?_
                    rintro e w1 ⟨mid, ap, d4, rfl, hm1, hm2, hP⟩
                    have HP4 := Lib.hid hP
                    clear hP
                    obtain ⟨ll, hll⟩ : ∃ k, mid - x = k := ⟨_, rfl⟩
                    have hllI : (mid : Int) - (x : Int) = (ll : Int) := by omega
                    clear hll
                    obtain ⟨rr, hrr⟩ : ∃ k, y - mid = k := ⟨_, rfl⟩
                    obtain ⟨th, hth⟩ : ∃ k, l / 8 = k := ⟨_, rfl⟩
                    have hrrI : (y : Int) - (mid : Int) = (rr : Int) := by omega
                    have hthI : (l : Int) / 8 = (th : Int) := by omega
                    have hthT : (l : Int).tdiv 8 = (th : Int) := by rw [Int.tdiv_eq_ediv_of_nonneg (by omega)]; omega
                    obtain ⟨mid1, hmid1⟩ : ∃ k, mid + 1 = k := ⟨_, rfl⟩
                    have hm1I : (mid : Int) + 1 = (mid1 : Int) := by omega
                    have hmn : mid < n := by omega
                    have HM1 := Lib.hid hmid1
                    have HMM := Lib.hid (show x ≤ mid ∧ mid < y from ⟨by omega, hm2⟩)
                    have HCR := Lib.hid (pq_right (mid := mid) (cap := cap) hK HH.out HN.out HP4.out HYX.out hlimx)
                    have HCL := Lib.hid (pq_left (mid := mid) (cap := cap) hK HH.out HN.out HP4.out HYX.out hlimx)
                    rw [hmid1] at HCR HCL
                    clear hrr hth hmid1
                    by_cases hlr : ll < rr
                    · have g5 : decide ((ll : Int) < (rr : Int)) = true := by simp; omega
                      go_wp2_with fail
                      refine (HCL.out).mono ?_
                      rintro e w3 ⟨rfl, d5, hP5⟩
                      have HP5 := Lib.hid hP5
                      clear hP5
                      go_wp2_with fail
                      go_roundw
                      case rel => exact ⟨mid1, y, lim, _, _, d5, rfl, rfl, rfl, rfl, rfl, by have := HM1.out; have := HMM.out; omega, by omega, by have := HM1.out; have := HYX.out; omega, by omega, HP5⟩
                      case measure => have h1 := HM1.out; have h2 := HMM.out; simp [intOf7]; omega
                    · have g5 : decide ((ll : Int) < (rr : Int)) = false := by simp; omega
                      go_wp2_with fail
                      refine (HCR.out).mono ?_
                      rintro e w3 ⟨rfl, d5, hP5⟩
                      have HP5 := Lib.hid hP5
                      clear hP5
                      go_wp2_with fail
                      go_roundw
                      case rel => exact ⟨x, mid, lim, _, _, d5, rfl, rfl, rfl, rfl, rfl, by have := HMM.out; omega, by omega, by have := HYX.out; have := HMM.out; omega, by omega, HP5⟩
                      case measure => have h2 := HMM.out; simp [intOf7]; omega
                  | false =>
                    go_wp2_with fail
                    go_quiet ((go_at_call 91; refine Calls.quiet_of_same (less7 _ _ _)))
                    go_wp2_with fail
                    have HPq := Lib.hid (HPz.out.drew nq)
                    clear hcw HPz
                    refine (pq_equal HH.out HN.out HPq.out p gx2 HPA.out HPB.out (by rw [← HG.out, ← HG.out]; exact hl)).mono ?_
                    rintro e w1 ⟨mid, d4, rfl, hm1, hm2, hP⟩
                    have HP4 := Lib.hid hP
                    clear hP
                    go_wp2_with fail
                    go_roundw
                    case rel => exact ⟨mid, y, lim, _, _, d4, rfl, rfl, rfl, rfl, rfl, by omega, by omega, by have := HYX.out; omega, by omega, HP4⟩
                    case measure => simp [intOf7]; omega
          | false =>
            by_cases h2 : h = 2
            · have e2 : ((h : Int) == 2) = true := by simp; omega
              go_wp2_with fail
              refine (pq_rev HH.out HN.out HP1.out hxy12).mono ?_
              rintro e wt ⟨rfl, d6, hP⟩
              have HP6 := Lib.hid hP
              clear hP
              have hpa := hp2a
              have hpb := hp2b
              go_wp2_with fail
              obtain ⟨dz, wz, hdz, HPz⟩ : ∃ dz wz, wz = wt ∧ Hid (PdqAt w blk off d a b wz x y dz) := ⟨_, _, rfl, HP6⟩
              obtain ⟨G, HG⟩ := name_cells dz
              have hcw := (HPz.out.row.of HH.out).cellAt HG
              rw [HPz.out.row.1.trans HN.out, hdz] at hcw
              rw [hdz] at HPz
              clear hdz
              have hpn : p2 < n := by omega
              have HPA := Lib.hid hpa
              have HPB := Lib.hid hpb
              have HYX := Lib.hid hyx
              have hlimx : lim < 4611686018427387904 := by assumption
              clear hpa hlI hp2I hp2a
              by_cases hx0 : x = 0
              · subst hx0
                go_wp2_with fail
                go_quiet ((go_at_call 91; refine Calls.quiet_of_same (less7 _ _ _)))
                go_wp2_with fail
                have HPq := Lib.hid (HPz.out.drew nq)
                clear hcw HPz
                refine (pq_two HH.out HN.out HPq.out p2 HPA.out HPB.out).mono ?_
                rintro e w1 ⟨mid, ap, d4, rfl, hm1, hm2, hP⟩
                have HP4 := Lib.hid hP
                clear hP
                obtain ⟨rr, hrr⟩ : ∃ k, y - mid = k := ⟨_, rfl⟩
                obtain ⟨th, hth⟩ : ∃ k, l / 8 = k := ⟨_, rfl⟩
                have hrrI : (y : Int) - (mid : Int) = (rr : Int) := by omega
                have hthI : (l : Int) / 8 = (th : Int) := by omega
                have hthT : (l : Int).tdiv 8 = (th : Int) := by rw [Int.tdiv_eq_ediv_of_nonneg (by omega)]; omega
                obtain ⟨mid1, hmid1⟩ : ∃ k, mid + 1 = k := ⟨_, rfl⟩
                have hm1I : (mid : Int) + 1 = (mid1 : Int) := by omega
                have hmn : mid < n := by omega
                have HM1 := Lib.hid hmid1
                have HMM := Lib.hid (show 0 ≤ mid ∧ mid < y from ⟨by omega, hm2⟩)
                have HCR := Lib.hid (pq_right (mid := mid) (cap := cap) hK HH.out HN.out HP4.out HYX.out hlimx)
                have HCL := Lib.hid (pq_left (mid := mid) (cap := cap) hK HH.out HN.out HP4.out HYX.out hlimx)
                rw [hmid1] at HCR HCL
                clear hrr hth hmid1
                by_cases hlr : mid < rr
                · have g5 : decide ((mid : Int) < (rr : Int)) = true := by simp; omega
                  go_wp2_with fail
                  refine (HCL.out).mono ?_
                  rintro e w3 ⟨rfl, d5, hP5⟩
                  have HP5 := Lib.hid hP5
                  clear hP5
                  go_wp2_with fail
                  go_roundw
                  case rel => exact ⟨mid1, y, lim, _, _, d5, rfl, rfl, rfl, rfl, rfl, by have := HM1.out; have := HMM.out; omega, by omega, by have := HM1.out; have := HYX.out; omega, by omega, HP5⟩
                  case measure => have h1 := HM1.out; have h2 := HMM.out; simp [intOf7]; omega
                · have g5 : decide ((mid : Int) < (rr : Int)) = false := by simp; omega
                  go_wp2_with fail
                  refine (HCR.out).mono ?_
                  rintro e w3 ⟨rfl, d5, hP5⟩
                  have HP5 := Lib.hid hP5
                  clear hP5
                  go_wp2_with fail
                  go_roundw
                  case rel => exact ⟨0, mid, lim, _, _, d5, rfl, rfl, rfl, rfl, rfl, by have := HMM.out; omega, by omega, by have := HYX.out; have := HMM.out; omega, by omega, HP5⟩
                  case measure => have h2 := HMM.out; simp [intOf7]; omega
              · have gx : decide ((0 : Int) < (x : Int)) = true := by simp; omega
                have gx2 : 0 < x := by omega
                have hx1n : x - 1 < n := by omega
                cases hl : ltInt (G (x - 1)) (G p2) with
                | true =>
                  go_wp2_with fail
                  go_quiet ((go_at_call 91; refine Calls.quiet_of_same (less7 _ _ _)))
                  go_wp2_with fail
                  have HPq := Lib.hid (HPz.out.drew nq)
                  clear hcw HPz
                  refine (pq_two HH.out HN.out HPq.out p2 HPA.out HPB.out).mono ?_
                  rintro e w1 ⟨mid, ap, d4, rfl, hm1, hm2, hP⟩
                  have HP4 := Lib.hid hP
                  clear hP
                  obtain ⟨ll, hll⟩ : ∃ k, mid - x = k := ⟨_, rfl⟩
                  have hllI : (mid : Int) - (x : Int) = (ll : Int) := by omega
                  clear hll
                  obtain ⟨rr, hrr⟩ : ∃ k, y - mid = k := ⟨_, rfl⟩
                  obtain ⟨th, hth⟩ : ∃ k, l / 8 = k := ⟨_, rfl⟩
                  have hrrI : (y : Int) - (mid : Int) = (rr : Int) := by omega
                  have hthI : (l : Int) / 8 = (th : Int) := by omega
                  have hthT : (l : Int).tdiv 8 = (th : Int) := by rw [Int.tdiv_eq_ediv_of_nonneg (by omega)]; omega
                  obtain ⟨mid1, hmid1⟩ : ∃ k, mid + 1 = k := ⟨_, rfl⟩
                  have hm1I : (mid : Int) + 1 = (mid1 : Int) := by omega
                  have hmn : mid < n := by omega
                  have HM1 := Lib.hid hmid1
                  have HMM := Lib.hid (show x ≤ mid ∧ mid < y from ⟨by omega, hm2⟩)
                  have HCR := Lib.hid (pq_right (mid := mid) (cap := cap) hK HH.out HN.out HP4.out HYX.out hlimx)
                  have HCL := Lib.hid (pq_left (mid := mid) (cap := cap) hK HH.out HN.out HP4.out HYX.out hlimx)
                  rw [hmid1] at HCR HCL
                  clear hrr hth hmid1
                  by_cases hlr : ll < rr
                  · have g5 : decide ((ll : Int) < (rr : Int)) = true := by simp; omega
                    go_wp2_with fail
                    refine (HCL.out).mono ?_
                    rintro e w3 ⟨rfl, d5, hP5⟩
                    have HP5 := Lib.hid hP5
                    clear hP5
                    go_wp2_with fail
                    go_roundw
                    case rel => exact ⟨mid1, y, lim, _, _, d5, rfl, rfl, rfl, rfl, rfl, by have := HM1.out; have := HMM.out; omega, by omega, by have := HM1.out; have := HYX.out; omega, by omega, HP5⟩
                    case measure => have h1 := HM1.out; have h2 := HMM.out; simp [intOf7]; omega
                  · have g5 : decide ((ll : Int) < (rr : Int)) = false := by simp; omega
                    go_wp2_with fail
                    refine (HCR.out).mono ?_
                    rintro e w3 ⟨rfl, d5, hP5⟩
                    have HP5 := Lib.hid hP5
                    clear hP5
                    go_wp2_with fail
                    go_roundw
                    case rel => exact ⟨x, mid, lim, _, _, d5, rfl, rfl, rfl, rfl, rfl, by have := HMM.out; omega, by omega, by have := HYX.out; have := HMM.out; omega, by omega, HP5⟩
                    case measure => have h2 := HMM.out; simp [intOf7]; omega
                | false =>
                  go_wp2_with fail
                  go_quiet ((go_at_call 91; refine Calls.quiet_of_same (less7 _ _ _)))
                  go_wp2_with fail
                  have HPq := Lib.hid (HPz.out.drew nq)
                  clear hcw HPz
                  refine (pq_equal HH.out HN.out HPq.out p2 gx2 HPA.out HPB.out (by rw [← HG.out, ← HG.out]; exact hl)).mono ?_
                  rintro e w1 ⟨mid, d4, rfl, hm1, hm2, hP⟩
                  have HP4 := Lib.hid hP
                  clear hP
                  go_wp2_with fail
                  go_roundw
                  case rel => exact ⟨mid, y, lim, _, _, d4, rfl, rfl, rfl, rfl, rfl, by omega, by omega, by have := HYX.out; omega, by omega, HP4⟩
                  case measure => simp [intOf7]; omega
            · have e2 : ((h : Int) == 2) = false := by simp; omega
              obtain ⟨dz, wz, hdz, HPz⟩ : ∃ dz wz, wz = wv ∧ Hid (PdqAt w blk off d a b wz x y dz) := ⟨_, _, rfl, HP1⟩
              obtain ⟨G, HG⟩ := name_cells dz
              have hcw := (HPz.out.row.of HH.out).cellAt HG
              rw [HPz.out.row.1.trans HN.out, hdz] at hcw
              rw [hdz] at HPz
              clear hdz
              have hpn : p < n := by omega
              have HPA := Lib.hid hpa
              have HPB := Lib.hid hpb
              have HYX := Lib.hid hyx
              have hlimx : lim < 4611686018427387904 := by assumption
              clear hpa hlI hp2I hp2a
              by_cases hx0 : x = 0
              · subst hx0
                go_wp2_with fail
                go_quiet ((go_at_call 91; refine Calls.quiet_of_same (less7 _ _ _)))
                go_wp2_with fail
                have HPq := Lib.hid (HPz.out.drew nq)
                clear hcw HPz
                refine (pq_two HH.out HN.out HPq.out p HPA.out HPB.out).mono ?_
                rintro e w1 ⟨mid, ap, d4, rfl, hm1, hm2, hP⟩
                have HP4 := Lib.hid hP
                clear hP
                obtain ⟨rr, hrr⟩ : ∃ k, y - mid = k := ⟨_, rfl⟩
                obtain ⟨th, hth⟩ : ∃ k, l / 8 = k := ⟨_, rfl⟩
                have hrrI : (y : Int) - (mid : Int) = (rr : Int) := by omega
                have hthI : (l : Int) / 8 = (th : Int) := by omega
                have hthT : (l : Int).tdiv 8 = (th : Int) := by rw [Int.tdiv_eq_ediv_of_nonneg (by omega)]; omega
                obtain ⟨mid1, hmid1⟩ : ∃ k, mid + 1 = k := ⟨_, rfl⟩
                have hm1I : (mid : Int) + 1 = (mid1 : Int) := by omega
                have hmn : mid < n := by omega
                have HM1 := Lib.hid hmid1
                have HMM := Lib.hid (show 0 ≤ mid ∧ mid < y from ⟨by omega, hm2⟩)
                have HCR := Lib.hid (pq_right (mid := mid) (cap := cap) hK HH.out HN.out HP4.out HYX.out hlimx)
                have HCL := Lib.hid (pq_left (mid := mid) (cap := cap) hK HH.out HN.out HP4.out HYX.out hlimx)
                rw [hmid1] at HCR HCL
                clear hrr hth hmid1
                by_cases hlr : mid < rr
                · have g5 : decide ((mid : Int) < (rr : Int)) = true := by simp; omega
                  go_wp2_with fail
                  refine (HCL.out).mono ?_
                  rintro e w3 ⟨rfl, d5, hP5⟩
                  have HP5 := Lib.hid hP5
                  clear hP5
                  go_wp2_with fail
                  go_roundw
                  case rel => exact ⟨mid1, y, lim, _, _, d5, rfl, rfl, rfl, rfl, rfl, by have := HM1.out; have := HMM.out; omega, by omega, by have := HM1.out; have := HYX.out; omega, by omega, HP5⟩
                  case measure => have h1 := HM1.out; have h2 := HMM.out; simp [intOf7]; omega
                · have g5 : decide ((mid : Int) < (rr : Int)) = false := by simp; omega
                  go_wp2_with fail
                  refine (HCR.out).mono ?_
                  rintro e w3 ⟨rfl, d5, hP5⟩
                  have HP5 := Lib.hid hP5
                  clear hP5
                  go_wp2_with fail
                  go_roundw
                  case rel => exact ⟨0, mid, lim, _, _, d5, rfl, rfl, rfl, rfl, rfl, by have := HMM.out; omega, by omega, by have := HYX.out; have := HMM.out; omega, by omega, HP5⟩
                  case measure => have h2 := HMM.out; simp [intOf7]; omega
              · have gx : decide ((0 : Int) < (x : Int)) = true := by simp; omega
                have gx2 : 0 < x := by omega
                have hx1n : x - 1 < n := by omega
                cases hl : ltInt (G (x - 1)) (G p) with
                | true =>
                  go_wp2_with fail
                  go_quiet ((go_at_call 91; refine Calls.quiet_of_same (less7 _ _ _)))
                  go_wp2_with fail
                  have HPq := Lib.hid (HPz.out.drew nq)
                  clear hcw HPz
                  refine (pq_two HH.out HN.out HPq.out p HPA.out HPB.out).mono ?_
                  rintro e w1 ⟨mid, ap, d4, rfl, hm1, hm2, hP⟩
                  have HP4 := Lib.hid hP
                  clear hP
                  obtain ⟨ll, hll⟩ : ∃ k, mid - x = k := ⟨_, rfl⟩
                  have hllI : (mid : Int) - (x : Int) = (ll : Int) := by omega
                  clear hll
                  obtain ⟨rr, hrr⟩ : ∃ k, y - mid = k := ⟨_, rfl⟩
                  obtain ⟨th, hth⟩ : ∃ k, l / 8 = k := ⟨_, rfl⟩
                  have hrrI : (y : Int) - (mid : Int) = (rr : Int) := by omega
                  have hthI : (l : Int) / 8 = (th : Int) := by omega
                  have hthT : (l : Int).tdiv 8 = (th : Int) := by rw [Int.tdiv_eq_ediv_of_nonneg (by omega)]; omega
                  obtain ⟨mid1, hmid1⟩ : ∃ k, mid + 1 = k := ⟨_, rfl⟩
                  have hm1I : (mid : Int) + 1 = (mid1 : Int) := by omega
                  have hmn : mid < n := by omega
                  have HM1 := Lib.hid hmid1
                  have HMM := Lib.hid (show x ≤ mid ∧ mid < y from ⟨by omega, hm2⟩)
                  have HCR := Lib.hid (pq_right (mid := mid) (cap := cap) hK HH.out HN.out HP4.out HYX.out hlimx)
                  have HCL := Lib.hid (pq_left (mid := mid) (cap := cap) hK HH.out HN.out HP4.out HYX.out hlimx)
                  rw [hmid1] at HCR HCL
                  clear hrr hth hmid1
                  by_cases hlr : ll < rr
                  · have g5 : decide ((ll : Int) < (rr : Int)) = true := by simp; omega
                    go_wp2_with fail
                    refine (HCL.out).mono ?_
                    rintro e w3 ⟨rfl, d5, hP5⟩
                    have HP5 := Lib.hid hP5
                    clear hP5
                    go_wp2_with fail
                    go_roundw
                    case rel => exact ⟨mid1, y, lim, _, _, d5, rfl, rfl, rfl, rfl, rfl, by have := HM1.out; have := HMM.out; omega, by omega, by have := HM1.out; have := HYX.out; omega, by omega, HP5⟩
                    case measure => have h1 := HM1.out; have h2 := HMM.out; simp [intOf7]; omega
                  · have g5 : decide ((ll : Int) < (rr : Int)) = false := by simp; omega
                    go_wp2_with fail
                    refine (HCR.out).mono ?_
                    rintro e w3 ⟨rfl, d5, hP5⟩
                    have HP5 := Lib.hid hP5
                    clear hP5
                    go_wp2_with fail
                    go_roundw
                    case rel => exact ⟨x, mid, lim, _, _, d5, rfl, rfl, rfl, rfl, rfl, by have := HMM.out; omega, by omega, by have := HYX.out; have := HMM.out; omega, by omega, HP5⟩
                    case measure => have h2 := HMM.out; simp [intOf7]; omega
                | false =>
                  go_wp2_with fail
                  go_quiet ((go_at_call 91; refine Calls.quiet_of_same (less7 _ _ _)))
                  go_wp2_with fail
                  have HPq := Lib.hid (HPz.out.drew nq)
                  clear hcw HPz
                  refine (pq_equal HH.out HN.out HPq.out p gx2 HPA.out HPB.out (by rw [← HG.out, ← HG.out]; exact hl)).mono ?_
                  rintro e w1 ⟨mid, d4, rfl, hm1, hm2, hP⟩
                  have HP4 := Lib.hid hP
                  clear hP
                  go_wp2_with fail
                  go_roundw
                  case rel => exact ⟨mid, y, lim, _, _, d4, rfl, rfl, rfl, rfl, rfl, by omega, by omega, by have := HYX.out; omega, by omega, HP4⟩
                  case measure => simp [intOf7]; omega
        | false =>
          obtain ⟨lim1, hlim1⟩ : ∃ k, lim = k + 1 := ⟨lim - 1, by omega⟩
          have hlim1I : (lim : Int) - 1 = (lim1 : Int) := by omega
          have hlim1l : lim1 < 4611686018427387904 := by omega
          clear hlim1
          go_wp2_with fail
          refine (pq_break HH.out HN.out HP.out hxy8).mono ?_
          rintro e wb1 ⟨rfl, d0, hP⟩
          have HP0 := Lib.hid hP
          clear hP HP
          go_wp2_with fail
          refine (pq_pivot HH.out HN.out HP0.out hxy12).mono ?_
          rintro e wv ⟨p, h, rfl, hpa, hpb, hh2, hP⟩
          have HP1 := Lib.hid hP
          clear hP
          obtain ⟨p2, hp2⟩ : ∃ k, y - 1 - (p - x) = k := ⟨_, rfl⟩
          have hp2I : (y : Int) - 1 - ((p : Int) - (x : Int)) = (p2 : Int) := by omega
          have hp2a : x ≤ p2 := by omega
          have hp2b : p2 < y := by omega
          clear hp2
          by_cases h2 : h = 2
          · have e2 : ((h : Int) == 2) = true := by simp; omega
            go_wp2_with fail
            refine (pq_rev HH.out HN.out HP1.out hxy12).mono ?_
            rintro e wt ⟨rfl, d6, hP⟩
            have HP6 := Lib.hid hP
            clear hP
            have hpa := hp2a
            have hpb := hp2b
            go_wp2_with fail
            obtain ⟨dz, wz, hdz, HPz⟩ : ∃ dz wz, wz = wt ∧ Hid (PdqAt w blk off d a b wz x y dz) := ⟨_, _, rfl, HP6⟩
            obtain ⟨G, HG⟩ := name_cells dz
            have hcw := (HPz.out.row.of HH.out).cellAt HG
            rw [HPz.out.row.1.trans HN.out, hdz] at hcw
            rw [hdz] at HPz
            clear hdz
            have hpn : p2 < n := by omega
            have HPA := Lib.hid hpa
            have HPB := Lib.hid hpb
            have HYX := Lib.hid hyx
            have hlimx : lim1 < 4611686018427387904 := by assumption
            clear hpa hlI hp2I hp2a
            by_cases hx0 : x = 0
            · subst hx0
              go_wp2_with fail
              go_quiet ((go_at_call 91; refine Calls.quiet_of_same (less7 _ _ _)))
              go_wp2_with fail
              have HPq := Lib.hid (HPz.out.drew nq)
              clear hcw HPz
              refine (pq_two HH.out HN.out HPq.out p2 HPA.out HPB.out).mono ?_
              rintro e w1 ⟨mid, ap, d4, rfl, hm1, hm2, hP⟩
              have HP4 := Lib.hid hP
              clear hP
              obtain ⟨rr, hrr⟩ : ∃ k, y - mid = k := ⟨_, rfl⟩
              obtain ⟨th, hth⟩ : ∃ k, l / 8 = k := ⟨_, rfl⟩
              have hrrI : (y : Int) - (mid : Int) = (rr : Int) := by omega
              have hthI : (l : Int) / 8 = (th : Int) := by omega
              have hthT : (l : Int).tdiv 8 = (th : Int) := by rw [Int.tdiv_eq_ediv_of_nonneg (by omega)]; omega
              obtain ⟨mid1, hmid1⟩ : ∃ k, mid + 1 = k := ⟨_, rfl⟩
              have hm1I : (mid : Int) + 1 = (mid1 : Int) := by omega
              have hmn : mid < n := by omega
              have HM1 := Lib.hid hmid1
              have HMM := Lib.hid (show 0 ≤ mid ∧ mid < y from ⟨by omega, hm2⟩)
              have HCR := Lib.hid (pq_right (mid := mid) (cap := cap) hK HH.out HN.out HP4.out HYX.out hlimx)
              have HCL := Lib.hid (pq_left (mid := mid) (cap := cap) hK HH.out HN.out HP4.out HYX.out hlimx)
              rw [hmid1] at HCR HCL
              clear hrr hth hmid1
              by_cases hlr : mid < rr
              · have g5 : decide ((mid : Int) < (rr : Int)) = true := by simp; omega
                go_wp2_with fail
                refine (HCL.out).mono ?_
                rintro e w3 ⟨rfl, d5, hP5⟩
                have HP5 := Lib.hid hP5
                clear hP5
                go_wp2_with fail
                go_roundw
                case rel => exact ⟨mid1, y, lim1, _, _, d5, rfl, rfl, rfl, rfl, rfl, by have := HM1.out; have := HMM.out; omega, by omega, by have := HM1.out; have := HYX.out; omega, by omega, HP5⟩
                case measure => have h1 := HM1.out; have h2 := HMM.out; simp [intOf7]; omega
              · have g5 : decide ((mid : Int) < (rr : Int)) = false := by simp; omega
                go_wp2_with fail
                refine (HCR.out).mono ?_
                rintro e w3 ⟨rfl, d5, hP5⟩
                have HP5 := Lib.hid hP5
                clear hP5
                go_wp2_with fail
                go_roundw
                case rel => exact ⟨0, mid, lim1, _, _, d5, rfl, rfl, rfl, rfl, rfl, by have := HMM.out; omega, by omega, by have := HYX.out; have := HMM.out; omega, by omega, HP5⟩
                case measure => have h2 := HMM.out; simp [intOf7]; omega
            · have gx : decide ((0 : Int) < (x : Int)) = true := by simp; omega
              have gx2 : 0 < x := by omega
              have hx1n : x - 1 < n := by omega
              cases hl : ltInt (G (x - 1)) (G p2) with
              | true =>
                go_wp2_with fail
                go_quiet ((go_at_call 91; refine Calls.quiet_of_same (less7 _ _ _)))
                go_wp2_with fail
                have HPq := Lib.hid (HPz.out.drew nq)
                clear hcw HPz
                refine (pq_two HH.out HN.out HPq.out p2 HPA.out HPB.out).mono ?_
                rintro e w1 ⟨mid, ap, d4, rfl, hm1, hm2, hP⟩
                have HP4 := Lib.hid hP
                clear hP
                obtain ⟨ll, hll⟩ : ∃ k, mid - x = k := ⟨_, rfl⟩
                have hllI : (mid : Int) - (x : Int) = (ll : Int) := by omega
                clear hll
                obtain ⟨rr, hrr⟩ : ∃ k, y - mid = k := ⟨_, rfl⟩
                obtain ⟨th, hth⟩ : ∃ k, l / 8 = k := ⟨_, rfl⟩
                have hrrI : (y : Int) - (mid : Int) = (rr : Int) := by omega
                have hthI : (l : Int) / 8 = (th : Int) := by omega
                have hthT : (l : Int).tdiv 8 = (th : Int) := by rw [Int.tdiv_eq_ediv_of_nonneg (by omega)]; omega
                obtain ⟨mid1, hmid1⟩ : ∃ k, mid + 1 = k := ⟨_, rfl⟩
                have hm1I : (mid : Int) + 1 = (mid1 : Int) := by omega
                have hmn : mid < n := by omega
                have HM1 := Lib.hid hmid1
                have HMM := Lib.hid (show x ≤ mid ∧ mid < y from ⟨by omega, hm2⟩)
                have HCR := Lib.hid (pq_right (mid := mid) (cap := cap) hK HH.out HN.out HP4.out HYX.out hlimx)
                have HCL := Lib.hid (pq_left (mid := mid) (cap := cap) hK HH.out HN.out HP4.out HYX.out hlimx)
                rw [hmid1] at HCR HCL
                clear hrr hth hmid1
                by_cases hlr : ll < rr
                · have g5 : decide ((ll : Int) < (rr : Int)) = true := by simp; omega
                  go_wp2_with fail
                  refine (HCL.out).mono ?_
                  rintro e w3 ⟨rfl, d5, hP5⟩
                  have HP5 := Lib.hid hP5
                  clear hP5
                  go_wp2_with fail
                  go_roundw
                  case rel => exact ⟨mid1, y, lim1, _, _, d5, rfl, rfl, rfl, rfl, rfl, by have := HM1.out; have := HMM.out; omega, by omega, by have := HM1.out; have := HYX.out; omega, by omega, HP5⟩
                  case measure => have h1 := HM1.out; have h2 := HMM.out; simp [intOf7]; omega
                · have g5 : decide ((ll : Int) < (rr : Int)) = false := by simp; omega
                  go_wp2_with fail
                  refine (HCR.out).mono ?_
                  rintro e w3 ⟨rfl, d5, hP5⟩
                  have HP5 := Lib.hid hP5
                  clear hP5
                  go_wp2_with fail
                  go_roundw
                  case rel => exact ⟨x, mid, lim1, _, _, d5, rfl, rfl, rfl, rfl, rfl, by have := HMM.out; omega, by omega, by have := HYX.out; have := HMM.out; omega, by omega, HP5⟩
                  case measure => have h2 := HMM.out; simp [intOf7]; omega
              | false =>
                go_wp2_with fail
                go_quiet ((go_at_call 91; refine Calls.quiet_of_same (less7 _ _ _)))
                go_wp2_with fail
                have HPq := Lib.hid (HPz.out.drew nq)
                clear hcw HPz
                refine (pq_equal HH.out HN.out HPq.out p2 gx2 HPA.out HPB.out (by rw [← HG.out, ← HG.out]; exact hl)).mono ?_
                rintro e w1 ⟨mid, d4, rfl, hm1, hm2, hP⟩
                have HP4 := Lib.hid hP
                clear hP
                go_wp2_with fail
                go_roundw
                case rel => exact ⟨mid, y, lim1, _, _, d4, rfl, rfl, rfl, rfl, rfl, by omega, by omega, by have := HYX.out; omega, by omega, HP4⟩
                case measure => simp [intOf7]; omega
          · have e2 : ((h : Int) == 2) = false := by simp; omega
            obtain ⟨dz, wz, hdz, HPz⟩ : ∃ dz wz, wz = wv ∧ Hid (PdqAt w blk off d a b wz x y dz) := ⟨_, _, rfl, HP1⟩
            obtain ⟨G, HG⟩ := name_cells dz
            have hcw := (HPz.out.row.of HH.out).cellAt HG
            rw [HPz.out.row.1.trans HN.out, hdz] at hcw
            rw [hdz] at HPz
            clear hdz
            have hpn : p < n := by omega
            have HPA := Lib.hid hpa
            have HPB := Lib.hid hpb
            have HYX := Lib.hid hyx
            have hlimx : lim1 < 4611686018427387904 := by assumption
            clear hpa hlI hp2I hp2a
            by_cases hx0 : x = 0
            · subst hx0
              go_wp2_with fail
              go_quiet ((go_at_call 91; refine Calls.quiet_of_same (less7 _ _ _)))
              go_wp2_with fail
              have HPq := Lib.hid (HPz.out.drew nq)
              clear hcw HPz
              refine (pq_two HH.out HN.out HPq.out p HPA.out HPB.out).mono ?_
              rintro e w1 ⟨mid, ap, d4, rfl, hm1, hm2, hP⟩
              have HP4 := Lib.hid hP
              clear hP
              obtain ⟨rr, hrr⟩ : ∃ k, y - mid = k := ⟨_, rfl⟩
              obtain ⟨th, hth⟩ : ∃ k, l / 8 = k := ⟨_, rfl⟩
              have hrrI : (y : Int) - (mid : Int) = (rr : Int) := by omega
              have hthI : (l : Int) / 8 = (th : Int) := by omega
              have hthT : (l : Int).tdiv 8 = (th : Int) := by rw [Int.tdiv_eq_ediv_of_nonneg (by omega)]; omega
              obtain ⟨mid1, hmid1⟩ : ∃ k, mid + 1 = k := ⟨_, rfl⟩
              have hm1I : (mid : Int) + 1 = (mid1 : Int) := by omega
              have hmn : mid < n := by omega
              have HM1 := Lib.hid hmid1
              have HMM := Lib.hid (show 0 ≤ mid ∧ mid < y from ⟨by omega, hm2⟩)
              have HCR := Lib.hid (pq_right (mid := mid) (cap := cap) hK HH.out HN.out HP4.out HYX.out hlimx)
              have HCL := Lib.hid (pq_left (mid := mid) (cap := cap) hK HH.out HN.out HP4.out HYX.out hlimx)
              rw [hmid1] at HCR HCL
              clear hrr hth hmid1
              by_cases hlr : mid < rr
              · have g5 : decide ((mid : Int) < (rr : Int)) = true := by simp; omega
                go_wp2_with fail
                refine (HCL.out).mono ?_
                rintro e w3 ⟨rfl, d5, hP5⟩
                have HP5 := Lib.hid hP5
                clear hP5
                go_wp2_with fail
                go_roundw
                case rel => exact ⟨mid1, y, lim1, _, _, d5, rfl, rfl, rfl, rfl, rfl, by have := HM1.out; have := HMM.out; omega, by omega, by have := HM1.out; have := HYX.out; omega, by omega, HP5⟩
                case measure => have h1 := HM1.out; have h2 := HMM.out; simp [intOf7]; omega
              · have g5 : decide ((mid : Int) < (rr : Int)) = false := by simp; omega
                go_wp2_with fail
                refine (HCR.out).mono ?_
                rintro e w3 ⟨rfl, d5, hP5⟩
                have HP5 := Lib.hid hP5
                clear hP5
                go_wp2_with fail
                go_roundw
                case rel => exact ⟨0, mid, lim1, _, _, d5, rfl, rfl, rfl, rfl, rfl, by have := HMM.out; omega, by omega, by have := HYX.out; have := HMM.out; omega, by omega, HP5⟩
                case measure => have h2 := HMM.out; simp [intOf7]; omega
            · have gx : decide ((0 : Int) < (x : Int)) = true := by simp; omega
              have gx2 : 0 < x := by omega
              have hx1n : x - 1 < n := by omega
              cases hl : ltInt (G (x - 1)) (G p) with
              | true =>
                go_wp2_with fail
                go_quiet ((go_at_call 91; refine Calls.quiet_of_same (less7 _ _ _)))
                go_wp2_with fail
                have HPq := Lib.hid (HPz.out.drew nq)
                clear hcw HPz
                refine (pq_two HH.out HN.out HPq.out p HPA.out HPB.out).mono ?_
                rintro e w1 ⟨mid, ap, d4, rfl, hm1, hm2, hP⟩
                have HP4 := Lib.hid hP
                clear hP
                obtain ⟨ll, hll⟩ : ∃ k, mid - x = k := ⟨_, rfl⟩
                have hllI : (mid : Int) - (x : Int) = (ll : Int) := by omega
                clear hll
                obtain ⟨rr, hrr⟩ : ∃ k, y - mid = k := ⟨_, rfl⟩
                obtain ⟨th, hth⟩ : ∃ k, l / 8 = k := ⟨_, rfl⟩
                have hrrI : (y : Int) - (mid : Int) = (rr : Int) := by omega
                have hthI : (l : Int) / 8 = (th : Int) := by omega
                have hthT : (l : Int).tdiv 8 = (th : Int) := by rw [Int.tdiv_eq_ediv_of_nonneg (by omega)]; omega
                obtain ⟨mid1, hmid1⟩ : ∃ k, mid + 1 = k := ⟨_, rfl⟩
                have hm1I : (mid : Int) + 1 = (mid1 : Int) := by omega
                have hmn : mid < n := by omega
                have HM1 := Lib.hid hmid1
                have HMM := Lib.hid (show x ≤ mid ∧ mid < y from ⟨by omega, hm2⟩)
                have HCR := Lib.hid (pq_right (mid := mid) (cap := cap) hK HH.out HN.out HP4.out HYX.out hlimx)
                have HCL := Lib.hid (pq_left (mid := mid) (cap := cap) hK HH.out HN.out HP4.out HYX.out hlimx)
                rw [hmid1] at HCR HCL
                clear hrr hth hmid1
                by_cases hlr : ll < rr
                · have g5 : decide ((ll : Int) < (rr : Int)) = true := by simp; omega
                  go_wp2_with fail
                  refine (HCL.out).mono ?_
                  rintro e w3 ⟨rfl, d5, hP5⟩
                  have HP5 := Lib.hid hP5
                  clear hP5
                  go_wp2_with fail
                  go_roundw
                  case rel => exact ⟨mid1, y, lim1, _, _, d5, rfl, rfl, rfl, rfl, rfl, by have := HM1.out; have := HMM.out; omega, by omega, by have := HM1.out; have := HYX.out; omega, by omega, HP5⟩
                  case measure => have h1 := HM1.out; have h2 := HMM.out; simp [intOf7]; omega
                · have g5 : decide ((ll : Int) < (rr : Int)) = false := by simp; omega
                  go_wp2_with fail
                  refine (HCR.out).mono ?_
                  rintro e w3 ⟨rfl, d5, hP5⟩
                  have HP5 := Lib.hid hP5
                  clear hP5
                  go_wp2_with fail
                  go_roundw
                  case rel => exact ⟨x, mid, lim1, _, _, d5, rfl, rfl, rfl, rfl, rfl, by have := HMM.out; omega, by omega, by have := HYX.out; have := HMM.out; omega, by omega, HP5⟩
                  case measure => have h2 := HMM.out; simp [intOf7]; omega
              | false =>
                go_wp2_with fail
                go_quiet ((go_at_call 91; refine Calls.quiet_of_same (less7 _ _ _)))
                go_wp2_with fail
                have HPq := Lib.hid (HPz.out.drew nq)
                clear hcw HPz
                refine (pq_equal HH.out HN.out HPq.out p gx2 HPA.out HPB.out (by rw [← HG.out, ← HG.out]; exact hl)).mono ?_
                rintro e w1 ⟨mid, d4, rfl, hm1, hm2, hP⟩
                have HP4 := Lib.hid hP
                clear hP
                go_wp2_with fail
                go_roundw
                case rel => exact ⟨mid, y, lim1, _, _, d4, rfl, rfl, rfl, rfl, rfl, by omega, by omega, by have := HYX.out; omega, by omega, HP4⟩
                case measure => simp [intOf7]; omega
theorem pdq_all7 (K : Nat) : PdqTo K := by
  induction K using Nat.strongRecOn with
  | _ K ih => exact pdq_step7 K ih
end Go.Proofs.YtjpfcdgaepdcdaaGreat

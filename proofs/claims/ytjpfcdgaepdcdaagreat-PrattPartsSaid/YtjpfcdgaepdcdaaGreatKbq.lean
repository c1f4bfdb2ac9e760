/- Several texts in one; each begins with a remark that says what it shows and on which conditions. -/
import Derived.Test.YtjpfcdgaepdcdaaGreatKbp
import Derived.Test.YtjpfcdgaepdcdaaGreatKar
import Derived.Test.YtjpfcdgaepdcdaaGreatKbl
import Derived.Test.YtjpfcdgaepdcdaaGreatKbh
import Derived.Test.YtjpfcdgaepdcdaaGreatKas
import Derived.Lib.SlicesCompact
import Derived.Lib.SliceRun
import Derived.RangeFuncBox
import Derived.BigQuiet
import Derived.IntWalk
/- slices.Sort at []uint64, as callers use it: what stands there behind the call is what stood there, rising; no other block turns but new ones. Conditions: a row of the call's own, of fewer than 2^62 elements; or a slice of no elements. -/
namespace Go.Proofs.YtjpfcdgaepdcdaaGreat
open Go.RowKit Go.Sort
set_option maxRecDepth 20000
set_option maxHeartbeats 4000000 in
theorem sort7 (blk off cap n : Nat) (d : Array Int) (w : World) (H : RowOf w blk off d) (hn : d.size = n) :
    Calls Tryz.prog 36 #[.slice (some ⟨blk, off, none⟩) n cap] w fun e w' => e = .returned (.tuple #[]) ∧ PdqDone w blk off d 0 n w' := by
  have hsz := H.fits
  rw [hn] at hsz
  obtain ⟨L, hL⟩ : ∃ L, Lib.bitLen n = L := ⟨_, rfl⟩
  have hLl : L ≤ 64 := by rw [← hL]; exact Lib.bitLen_le n 64 (by omega) (by omega)
  have HLn := Lib.hid (Tryz.bits_Len (n : Int) w (by omega) (by omega))
  rw [Int.toNat_natCast, hL] at HLn
  have HP := Lib.hid (pdq_all7 n blk off cap n 0 n L d w (by omega) H hn (Nat.zero_le _) (Nat.le_refl _) (by omega) (.inl rfl))
  clear H hn hL
  go_enter Tryz.func36, Tryz.ntmps36
  go_wp2_with fail
  refine (HLn.out).mono ?_
  rintro e w1 ⟨rfl, rfl⟩
  go_wp2_with fail
  refine (HP.out).mono ?_
  rintro e w2 ⟨rfl, hD⟩
  have HD := Lib.hid hD
  clear hD
  go_wp2_with fail
  go_end0
  exact ⟨rfl, HD.out⟩
set_option maxHeartbeats 4000000 in
theorem ins_none7 (A : Option Addr) (cap : Nat) (w : World) : Calls Tryz.prog 85 #[.slice A 0 cap, .int .i64 0, .int .i64 0] w fun e w' => e = .returned (.tuple #[]) ∧ w = w' := by
  go_enter Tryz.func85, Tryz.ntmps85
  go_wp2_with fail
  go_loopw [6] (fun vi wr => vi = .int .i64 1 ∧ w = wr) (fun _ _ => 0)
  case atStart => exact ⟨rfl, rfl⟩
  case round =>
    obtain ⟨rfl, rfl⟩ := hrel
    go_wp2_with fail
    go_end0
    exact ⟨rfl, rfl⟩
set_option maxHeartbeats 4000000 in
theorem pdq_none7 (A : Option Addr) (cap limit : Nat) (w : World) : Calls Tryz.prog 60 #[.slice A 0 cap, .int .i64 0, .int .i64 0, .int .i64 limit] w fun e w' => e = .returned (.tuple #[]) ∧ w = w' := by
  have HI := Lib.hid (ins_none7 A cap w)
  go_enter Tryz.func60, Tryz.ntmps60
  go_wp2_with fail
  go_loopw [1, 2] (fun va vb wr => va = .int .i64 0 ∧ vb = .int .i64 0 ∧ w = wr) (fun _ _ _ => 0)
  case atStart => exact ⟨rfl, rfl, rfl⟩
  case round =>
    obtain ⟨rfl, rfl, rfl⟩ := hrel
    go_wp2_with fail
    refine (HI.out).mono ?_
    rintro e w1 ⟨rfl, rfl⟩
    go_wp2_with fail
    refine bodyPost_ret (results_none rfl _ _ _) rfl ?_
    exact ⟨rfl, rfl⟩
set_option maxHeartbeats 4000000 in
theorem sort_none7 (A : Option Addr) (cap : Nat) (w : World) : Calls Tryz.prog 36 #[.slice A 0 cap] w fun e w' => e = .returned (.tuple #[]) ∧ w = w' := by
  have HLn := Lib.hid (Tryz.bits_Len 0 w (by omega) (by omega))
  have h0 : Lib.bitLen (0 : Int).toNat = 0 := by decide
  rw [h0] at HLn
  have HP := Lib.hid (pdq_none7 A cap 0 w)
  go_enter Tryz.func36, Tryz.ntmps36
  go_wp2_with fail
  refine (HLn.out).mono ?_
  rintro e w1 ⟨rfl, rfl⟩
  go_wp2_with fail
  refine (HP.out).mono ?_
  rintro e w2 ⟨rfl, rfl⟩
  go_wp2_with fail
  go_end0
  exact ⟨rfl, rfl⟩
/-! In the words of rows of numbers -/
theorem RowG.below {w wr : World} {blk off B : Nat} {d dk : Array Int} (h : RowG w blk off d wr dk) (hB : B ≤ blk) (hw : B ≤ w.heap.size) : Below B w wr := by
  obtain ⟨_, n, os, rfl⟩ := h
  have e1 : Below B w (putRow (Value.int .u64) (Sort.ahead w n) blk off dk) := by
    refine ⟨rfl, rfl, rfl, by simp, fun k hk => ?_⟩
    unfold putRow mapBlock
    simp only [Array.getElem?_modify]
    rw [if_neg (by omega)]
    rfl
  refine e1.trans ⟨rfl, rfl, rfl, by simp, fun k hk => heap_grow_old _ _ (by simp; omega)⟩
theorem RowG.block {w wr : World} {blk off : Nat} {d dk : Array Int} (h : RowG w blk off d wr dk) {k : Nat} (hk : k < w.heap.size) (hne : k ≠ blk) : wr.heap[k]? = w.heap[k]? := by
  obtain ⟨_, n, os, rfl⟩ := h
  rw [heap_grow_old _ _ (by simp; omega)]
  unfold putRow mapBlock
  simp only [Array.getElem?_modify]
  rw [if_neg (by omega)]
  rfl
theorem sorted_list7 {R : Array Int} {n : Nat} (hn : R.size = n) (hs : SortedIn ltInt 0 n R) : R.toList.Pairwise (· ≤ ·) := by
  rw [List.pairwise_iff_getElem]
  intro i j hi hj hij
  have hi' : i < R.size := by simpa using hi
  have hj' : j < R.size := by simpa using hj
  have h := hs i j (Nat.zero_le _) hij (by omega)
  rw [getElem!_pos _ j hj', getElem!_pos _ i hi'] at h
  simp only [ltInt, decide_eq_false_iff_not] at h
  simp only [Array.getElem_toList]
  omega
/-- A row of the call's own, that no string shares: each cell may be written. -/
def OwnU (w : World) (base : Nat) (A : Option Addr) (n : Nat) (l : List Nat) : Prop :=
  l.length = n ∧ (0 < n → ∃ g, A = some ⟨g, 0, none⟩ ∧ base ≤ g ∧ g < w.heap.size ∧ ∀ j, j < n → w.cell? ⟨g, j, none⟩ = some (.int .u64 (nth l j : Int)) ∧ w.frozen? ⟨g, j, none⟩ = false)
/-- slices.Sort of a row of the call's own. -/
theorem sortRow8 {w : World} {base : Nat} {A : Option Addr} {n c : Nat} {l : List Nat} (own : w.ownsRow base 27 1 (.slice A n c) n (ints .u64 l)) (hn : n < 4611686018427387904) (hb : base ≤ w.heap.size) :
    Calls Tryz.prog 36 #[.slice A n c] w fun e w' => e = .returned (.tuple #[]) ∧ ∃ l2 : List Nat, l2.Perm l ∧ l2.Pairwise (· ≤ ·) ∧ Rd .u64 w' w'.heap.size A l2 ∧ (∀ B, B ≤ base → Below B w w') ∧ (∀ k, k < w.heap.size → (∀ o, A = some o → k ≠ o.block) → w'.heap[k]? = w.heap[k]?) ∧ OwnU w' base A n l2 := by
  have hl : l.length = n := by have := own.1; rw [length_ints] at this; omega
  rcases Nat.eq_zero_or_pos n with h0 | h0
  · subst h0
    obtain rfl : l = [] := List.eq_nil_of_length_eq_zero hl
    exact (sort_none7 A c w).mono fun e w' ⟨h1, h2⟩ => ⟨h1, [], List.Perm.refl _, List.Pairwise.nil, Rd.nil, fun B _ => by rw [← h2]; exact Below.refl _ _, fun k _ _ => by rw [← h2], rfl, fun h => absurd h (by omega)⟩
  · rcases own.2 with ⟨_, h1⟩ | ⟨g, cap, cur, hv, hbg, hh, hnc, hcm, hcs, htake⟩
    · omega
    · injection hv with hA _ _
      subst hA
      have hcell : ∀ j, j < n → w.cell? ⟨g, j, none⟩ = some (.int .u64 (nth l j : Int)) := fun j hj => by
        rw [own.cellAt j (by omega), ints_get .u64 l j (by omega)]
      have H : RowOf w g 0 (l.map Int.ofNat).toArray := by
        refine ⟨fun j hj => ?_, (Array.getElem?_eq_some_iff.1 hh).1, by simp; omega⟩
        have hj' : j < n := by simpa [hl] using hj
        refine ⟨?_, ?_⟩
        · rw [Nat.zero_add, hcell j hj', getElem!_pos _ j hj]
          simp [nth, List.getD_eq_getElem?_getD, hl, hj']
        · simp [World.frozen?, hh]
      refine (sort7 g 0 c n (l.map Int.ofNat).toArray w H (by simp [hl])).mono fun e w' ⟨h1, R, hp, hs, hR⟩ => ?_
      have hRs : R.size = n := by rw [hR.1]; simp [hl]
      have hperm : R.toList.Perm (l.map Int.ofNat) := by
        have h := hp.2.2
        have e1 : R.extract 0 n = R := by rw [← hRs]; simp
        have e2 : ((l.map Int.ofNat).toArray).extract 0 n = (l.map Int.ofNat).toArray := by rw [show n = ((l.map Int.ofNat).toArray).size by simp [hl]]; simp [List.take_of_length_le]
        rw [e1, e2] at h
        simpa using h
      have hnn : ∀ x ∈ R.toList, 0 ≤ x := fun x hx => by
        have := hperm.mem_iff.1 hx
        simp only [List.mem_map] at this
        obtain ⟨y, _, rfl⟩ := this
        exact Int.natCast_nonneg y
      have hl2 : (R.toList.map Int.toNat).Perm l := by
        have h := hperm.map Int.toNat
        rw [List.map_map] at h
        have e : (Int.toNat ∘ Int.ofNat) = id := by funext x; rfl
        rw [e, List.map_id] at h
        exact h
      have hall := hR.of H
      have hcells : ∀ j, j < R.size → w'.cell? ⟨g, j, none⟩ = some (.int .u64 (nth (R.toList.map Int.toNat) j : Int)) ∧ w'.frozen? ⟨g, j, none⟩ = false := fun j hj2 => by
        have h3 := hall.holds j hj2
        rw [Nat.zero_add] at h3
        rw [h3.1, getElem!_pos _ j hj2]
        have h0 := hnn R[j] (by simp)
        have e : nth (R.toList.map Int.toNat) j = (R[j]).toNat := by simp [nth, List.getD_eq_getElem?_getD, hj2]
        rw [e, Int.toNat_of_nonneg h0]
        exact ⟨rfl, h3.2⟩
      refine ⟨h1, R.toList.map Int.toNat, hl2, ?_, fun _ => ⟨g, 0, rfl, hall.old, fun j hj => ?_⟩, fun B hB => hR.below (by omega) (by omega), fun k hk hne => hR.block hk (hne _ rfl), by simpa using hRs, fun _ => ⟨g, rfl, hbg, hall.old, fun j hj => hcells j (by omega)⟩⟩
      · exact List.pairwise_map.2 ((sorted_list7 hRs hs).imp fun h => by omega)
      · rw [Nat.zero_add]
        exact (hcells j (by simpa using hj)).1
end Go.Proofs.YtjpfcdgaepdcdaaGreat
/- slices.Compact at []uint64, of a row of the call's own that rises: each number once. Conditions: as typed. -/
namespace Go.Proofs.YtjpfcdgaepdcdaaGreat
open Go.RowKit Go.Sort Go.Lib
set_option maxRecDepth 20000
/-- The row at g holds dk in wr, which is w but for that row and draws. -/
def RowP (w : World) (g : Nat) (d : Array Int) (wr : World) (dk : Array Int) : Prop := dk.size = d.size ∧ ∃ q, wr = putRow (Value.int .u64) (Sort.ahead w q) g 0 dk
section
variable {w wr : World} {g : Nat} {d dk : Array Int}
theorem RowP.rowG (h : RowP w g d wr dk) : RowG w g 0 d wr dk := by
  obtain ⟨hs, q, rfl⟩ := h
  exact ⟨hs, q, #[], by rw [grow_empty]⟩
theorem RowP.self (H : RowOf w g 0 d) (q : Nat) : RowP w g d (w.drewN q) d := ⟨rfl, q, (putRow_self _ _ _ _ _ (holds_ahead _ _ q _ _ _ H.holds)).symm⟩
theorem RowP.drew (h : RowP w g d wr dk) (n : Nat) : RowP w g d (wr.drewN n) dk := by
  obtain ⟨hs, q, rfl⟩ := h
  refine ⟨hs, q + n, ?_⟩
  rw [← ahead_ahead]
  rfl
theorem RowP.set (h : RowP w g d wr dk) (i : Nat) (x : Int) (hi : i < dk.size) : RowP w g d (wr.setCell ⟨g, i, none⟩ (.int .u64 x)) (dk.setIfInBounds i x) := by
  obtain ⟨hs, q, rfl⟩ := h
  refine ⟨by simpa using hs, q, ?_⟩
  have := putRow_set (Value.int .u64) (Sort.ahead w q) g 0 dk i x hi
  rwa [Nat.zero_add] at this
theorem RowP.lay (h : RowP w g d wr dk) (k m : Nat) (hk : k + m ≤ dk.size) : RowP w g d (wr.setCells g k (List.replicate m (.int .u64 0))) (Lib.lay dk k (List.replicate m 0)) := by
  obtain ⟨hs, q, rfl⟩ := h
  have := putRow_setCells (Value.int .u64) (Sort.ahead w q) g 0 (List.replicate m 0) dk k (by simpa using hk)
  rw [Nat.zero_add, List.map_replicate] at this
  refine ⟨?_, q, this⟩
  rw [← hs]
  have e : ∀ j, (Lib.lay dk k (List.replicate m 0))[j]? = if k ≤ j ∧ j < k + m then (List.replicate m (0 : Int))[j - k]? else dk[j]? := fun j => by
    have := lay_get? (List.replicate m (0 : Int)) dk k j (by simpa using hk)
    rw [this]
    simp
  have h1 : ∀ j, (Lib.lay dk k (List.replicate m 0))[j]? = none ↔ dk[j]? = none := fun j => by
    rw [e j]
    split
    · rename_i h2
      rw [List.getElem?_eq_none_iff, Array.getElem?_eq_none_iff, List.length_replicate]
      omega
    · exact Iff.rfl
  have h2 := (h1 dk.size).2 (by simp)
  have h3 := h1 (Lib.lay dk k (List.replicate m 0)).size
  rw [Array.getElem?_eq_none_iff] at h2
  have h4 := h3.1 (by simp)
  rw [Array.getElem?_eq_none_iff] at h4
  omega
end
theorem lay_low11 {dk : Array Int} {k m j : Nat} (hk : k + m ≤ dk.size) (hj : j < k) (hs : (Lib.lay dk k (List.replicate m 0)).size = dk.size) : (Lib.lay dk k (List.replicate m 0))[j]! = dk[j]! := by
  have := lay_get? (List.replicate m (0 : Int)) dk k j (by simpa using hk)
  rw [if_neg (by omega)] at this
  have hj2 : j < dk.size := by omega
  rw [getElem!_pos _ j (by omega), getElem!_pos _ j hj2]
  rw [Array.getElem?_eq_getElem (by omega), Array.getElem?_eq_getElem hj2] at this
  injection this
/-- What is kept of a list that rises: each number once. -/
theorem compact_set11 {d : Array Int} (hs : ∀ i j, i < j → j < d.size → d[i]! ≤ d[j]!) : ∀ m, m ≤ d.size → (compactUpTo d m).Pairwise (· < ·) ∧ (∀ x, x ∈ compactUpTo d m ↔ ∃ j, j < m ∧ d[j]! = x) ∧ ∀ x ∈ compactUpTo d m, 0 < m ∧ x ≤ d[m - 1]! := by
  intro m
  induction m with
  | zero => intro _; simp [compactUpTo]
  | succ m ih =>
    intro hm
    obtain ⟨h1, h2, h3⟩ := ih (by omega)
    rw [compactUpTo_succ]
    by_cases hk : keeps d m = true
    · rw [if_pos hk]
      have hlt : ∀ x ∈ compactUpTo d m, x < d[m]! := fun x hx => by
        obtain ⟨h4, h5⟩ := h3 x hx
        have h6 := hs (m - 1) m (by omega) (by omega)
        have h7 : d[m]! ≠ d[m - 1]! := by
          unfold keeps at hk
          rcases of_decide_eq_true hk with h | h
          · omega
          · exact h
        omega
      refine ⟨List.pairwise_append.2 ⟨h1, List.pairwise_singleton _ _, fun a ha b hb => by rw [List.mem_singleton.1 hb]; exact hlt a ha⟩, fun x => ?_, fun x hx => ⟨by omega, ?_⟩⟩
      · rw [List.mem_append, h2, List.mem_singleton]
        constructor
        · rintro (⟨j, hj, rfl⟩ | rfl)
          · exact ⟨j, by omega, rfl⟩
          · exact ⟨m, by omega, rfl⟩
        · rintro ⟨j, hj, rfl⟩
          rcases Nat.lt_or_ge j m with h | h
          · exact .inl ⟨j, h, rfl⟩
          · exact .inr (by rw [show j = m by omega])
      · rw [Nat.add_sub_cancel]
        rcases List.mem_append.1 hx with h | h
        · have := hlt x h; omega
        · rw [List.mem_singleton.1 h]; exact Int.le_refl _
    · rw [if_neg hk, List.append_nil]
      have h7 : 0 < m ∧ d[m]! = d[m - 1]! := by
        unfold keeps at hk
        simp only [decide_eq_true_eq, not_or, Decidable.not_not] at hk
        exact ⟨Nat.pos_of_ne_zero hk.1, hk.2⟩
      refine ⟨h1, fun x => ?_, fun x hx => ⟨by omega, ?_⟩⟩
      · rw [h2]
        constructor
        · rintro ⟨j, hj, rfl⟩; exact ⟨j, by omega, rfl⟩
        · rintro ⟨j, hj, rfl⟩
          rcases Nat.lt_or_ge j m with h | h
          · exact ⟨j, h, rfl⟩
          · exact ⟨m - 1, by omega, by rw [show j = m by omega]; exact h7.2.symm⟩
      · rw [Nat.add_sub_cancel, h7.2]; exact (h3 x hx).2
def intOf9 : Value → Int | .int _ q => q | _ => 0
/-- What the walk says: the row holds dk, of which the first so many are what is kept. -/
def CompOut (w : World) (g n c : Nat) (d : Array Int) (e : Ending) (w' : World) : Prop :=
  ∃ (m : Nat) (dk : Array Int), e = .returned (.slice (some ⟨g, 0, none⟩) m c) ∧ RowP w g d w' dk ∧ (compactUpTo d n).length = m ∧ m ≤ n ∧ ∀ j, j < m → (compactUpTo d n)[j]? = some dk[j]!
set_option maxHeartbeats 8000000 in
theorem compact_walk11 (g n c : Nat) (d : Array Int) (w : World) (H : RowOf w g 0 d) (hn : d.size = n) (hc : n ≤ c) :
    Calls Tryz.prog 18 #[.slice (some ⟨g, 0, none⟩) n c] w (CompOut w g n c d) := by
  have HH := Lib.hid H
  have HN := Lib.hid hn
  have hfit : n < 4611686018427387904 := by rw [← hn]; exact H.fits
  have HALL := Lib.hid (show ∀ q, (∀ j, j < n → keeps d j = true) → CompOut w g n c d (.returned (.slice (some ⟨g, 0, none⟩) n c)) (w.drewN q) from fun q hall => by
    have e : compactUpTo d n = d.toList := by rw [compactUpTo_all d _ hall, ← hn, range_map_get]
    refine ⟨n, d, rfl, RowP.self H q, by rw [e, Array.length_toList, hn], Nat.le_refl _, fun j hj => ?_⟩
    rw [e, getElem!_pos _ j (by omega), ← Array.getElem?_eq_getElem (by omega), Array.getElem?_toList])
  clear hn H
  by_cases h2 : n < 2
  · go_enter Tryz.func18, Tryz.ntmps18
    go_wp2_with fail
    go_ret
    exact HALL.out 0 fun j hj => keeps_lt_one d j (by omega)
  · go_enter Tryz.func18, Tryz.ntmps18
    go_wp2_with fail
    go_loopw [3] (fun kv wr => ∃ k q : Nat, kv = .int .i64 k ∧ 1 ≤ k ∧ k ≤ n ∧ wr = w.drewN q ∧ Hid (∀ j, j < k → keeps d j = true)) (fun kv _ => n - (intOf9 kv).toNat)
    case atStart => exact ⟨1, 0, rfl, Nat.le_refl _, by omega, rfl, Lib.hid (keeps_lt_one d)⟩
    case round =>
      obtain ⟨k, q, rfl, hk1, hk, rfl, HA⟩ := hrel
      by_cases hlt : k < n
      · have hx1 := HH.out.holds k (by rw [HN.out]; exact hlt)
        have hx0 := HH.out.holds (k - 1) (by rw [HN.out]; omega)
        rw [Nat.zero_add] at hx1 hx0
        obtain ⟨c1, _⟩ := hx1
        obtain ⟨c0, _⟩ := hx0
        obtain ⟨x, hx⟩ : ∃ x, d[k]! = x := ⟨_, rfl⟩
        obtain ⟨y, hy⟩ : ∃ y, d[k - 1]! = y := ⟨_, rfl⟩
        have HXY := Lib.hid (And.intro hx hy)
        rw [hx] at c1
        rw [hy] at c0
        clear hx hy
        by_cases hxy : x = y
        · have HD := Lib.hid (show CompInv d (k + 1) k d from CompInv.start HA.out (keeps_neg (by omega) (by rw [HXY.out.1, HXY.out.2, hxy])))
          subst hxy
          go_wp2_with fail
          go_quiet (fail)
          go_wp2_with fail
          go_loopw [3, 5] (fun kv jv wr => ∃ (kk j : Nat) (dk : Array Int), kv = .int .i64 kk ∧ jv = .int .i64 j ∧ 1 ≤ j ∧ k + j ≤ n ∧ Hid (RowP w g d wr dk) ∧ Hid (CompInv d (k + j) kk dk)) (fun _ jv _ => n - k - (intOf9 jv).toNat)
          case atStart => exact ⟨k, 1, d, rfl, rfl, Nat.le_refl _, by omega, Lib.hid (RowP.self HH.out _), HD⟩
          case round =>
            clear HD c0 c1
            obtain ⟨kk, j, dk, rfl, rfl, hj1, hkj, HR, HI⟩ := hrel
            have hkk := HI.out.lt
            have HK := Lib.hid (HR.out.rowG.of HH.out)
            have HS := Lib.hid (show dk.size = n by rw [HR.out.1, HN.out])
            by_cases hlt2 : k + j < n
            · have hu := (HK.out.holds (k + j) (by rw [HS.out]; exact hlt2)).1
              have hv := (HK.out.holds (k + j - 1) (by rw [HS.out]; omega)).1
              have ho := HK.out.holds kk (by rw [HS.out]; omega)
              rw [HI.out.high (k + j) (by omega)] at hu
              rw [HI.out.high (k + j - 1) (by omega)] at hv
              rw [show 0 + (k + j) = k + j by omega] at hu
              rw [show 0 + (k + j - 1) = k + (j - 1) by omega] at hv
              rw [show 0 + kk = kk by omega] at ho
              obtain ⟨ho1, ho2⟩ := ho
              obtain ⟨old, hold⟩ : ∃ z, dk[kk]! = z := ⟨_, rfl⟩
              rw [hold] at ho1
              obtain ⟨u, hu2⟩ : ∃ z, d[k + j]! = z := ⟨_, rfl⟩
              obtain ⟨v, hv2⟩ : ∃ z, d[k + j - 1]! = z := ⟨_, rfl⟩
              have HUV := Lib.hid (And.intro hu2 hv2)
              rw [hu2] at hu
              rw [hv2] at hv
              clear hu2 hv2 hold
              by_cases huv : u = v
              · have HI2 := Lib.hid (show CompInv d (k + (j + 1)) kk dk from HI.out.skip (keeps_neg (by omega) (by rw [HUV.out.1, HUV.out.2, huv])))
                subst huv
                clear ho1 ho2
                go_wp2_with fail
                go_quiet (fail)
                go_wp2_with fail
                go_roundw
                case rel => exact ⟨kk, j + 1, dk, rfl, by go_num, by omega, by omega, Lib.hid (HR.out.drew _), HI2⟩
                case measure => simp [intOf9]; omega
              · have HI2 := Lib.hid (show CompInv d (k + (j + 1)) (kk + 1) (dk.setIfInBounds kk u) from by
                  have := HI.out.keep (by rw [HN.out]; exact hlt2) (keeps_pos (by rw [HUV.out.1, HUV.out.2]; exact huv))
                  rw [HUV.out.1] at this
                  exact this)
                go_wp2_with fail
                go_quiet (fail)
                go_wp2_with fail
                go_roundw
                case rel => exact ⟨kk + 1, j + 1, _, by go_num, by go_num, by omega, by omega, Lib.hid ((HR.out.drew _).set kk u (by rw [HS.out]; omega)), HI2⟩
                case measure => simp [intOf9]; omega
            · obtain rfl : j = n - k := by omega
              have hend : k + (n - k) = n := by omega
              have HI2 := Lib.hid (show CompInv d d.size kk dk by rw [HN.out]; have := HI.out; rwa [hend] at this)
              have hcl : ∀ ty, (Builtin.clear_ #[24] ty #[.slice (some ⟨g, kk, none⟩) (n - kk) (c - kk)]).run Tryz.prog wr = .ok (.tuple #[]) (wr.setCells g kk (List.replicate (n - kk) (.int .u64 0))) :=
                fun ty => Lib.run_clear_slice wr _ 27 ty _ Tryz.underlying24 (fun _ => by kernel_rfl) rfl rfl g kk _ _ (by omega) (fun i hi => by
                  have := (HK.out.holds (kk + i) (by rw [HS.out]; omega)).1
                  rw [Nat.zero_add] at this
                  rw [this]; rfl) (fun i hi => by
                  have := (HK.out.holds (kk + i) (by rw [HS.out]; omega)).2
                  rw [Nat.zero_add] at this
                  exact this)
              have hkn : kk < n := by omega
              clear hend
              go_wp2_with fail
              go_ret
              have HL := (HR.out).lay kk (n - kk) (by rw [HS.out]; omega)
              refine ⟨kk, _, rfl, HL, ?_, by omega, fun i hi => ?_⟩
              · have := HI2.out.len
                rwa [HN.out] at this
              · have h3 := HI2.out.low i hi
                rw [HN.out] at h3
                rw [h3, lay_low11 (by rw [HS.out]; omega) hi (by rw [HL.1, HR.out.1])]
        · have HA2 := Lib.hid (show ∀ j, j < k + 1 → keeps d j = true from fun j hj => by
            rcases Nat.lt_or_ge j k with h | h
            · exact HA.out j h
            · rw [show j = k by omega]
              exact keeps_pos (by rw [HXY.out.1, HXY.out.2]; exact hxy))
          go_wp2_with fail
          go_quiet (fail)
          go_wp2_with fail
          go_roundw
          case rel => exact ⟨k + 1, _, by go_num, by omega, by omega, rfl, HA2⟩
          case measure => simp [intOf9]; omega
      · obtain rfl : k = n := by omega
        go_wp2_with fail
        go_ret
        exact HALL.out q HA.out
/-- slices.Compact of a row of the call's own that rises. -/
theorem compact11 {w : World} {base : Nat} {A : Option Addr} {n c : Nat} {l : List Nat} (own : OwnU w base A n l) (hn : n < 4611686018427387904) (hc : n ≤ c) (hs : l.Pairwise (· ≤ ·)) :
    Calls Tryz.prog 18 #[.slice A n c] w fun e w' => ∃ m l2, e = .returned (.slice A m c) ∧ l2.length = m ∧ m ≤ n ∧ l2.Pairwise (· < ·) ∧ (∀ x, x ∈ l2 ↔ x ∈ l) ∧
      (0 < m → ∃ g, A = some ⟨g, 0, none⟩ ∧ base ≤ g ∧ g < w'.heap.size ∧ ∀ j, j < m → w'.cell? ⟨g, j, none⟩ = some (.int .u64 (nth l2 j : Int))) ∧ w'.heap.size = w.heap.size ∧ ∀ B, B ≤ base → B ≤ w.heap.size → Below B w w' := by
  obtain ⟨hl, hown⟩ := own
  rcases Nat.eq_zero_or_pos n with h0 | h0
  · subst h0
    obtain rfl : l = [] := List.eq_nil_of_length_eq_zero hl
    have h2 : (0 : Nat) < 2 := by omega
    clear hown hn hs hl
    go_enter Tryz.func18, Tryz.ntmps18
    go_wp2_with fail
    go_ret
    exact ⟨0, [], rfl, rfl, Nat.le_refl _, List.Pairwise.nil, fun _ => Iff.rfl, fun h => absurd h (by omega), rfl, fun B _ _ => Below.refl _ _⟩
  · obtain ⟨g, rfl, hbg, hgs, hcell⟩ := hown h0
    obtain ⟨d, hd⟩ : ∃ d : Array Int, (l.map Int.ofNat).toArray = d := ⟨_, rfl⟩
    have hsz : d.size = n := by rw [← hd]; simp [hl]
    have hget : ∀ j, j < n → d[j]! = (nth l j : Int) := fun j hj => by
      rw [← hd, getElem!_pos _ j (by simp; omega)]
      simp [nth, List.getD_eq_getElem?_getD, hl, hj]
    have H : RowOf w g 0 d := ⟨fun j hj => by rw [Nat.zero_add, hget j (by omega)]; exact hcell j (by omega), hgs, by omega⟩
    have hsd : ∀ i j, i < j → j < d.size → d[i]! ≤ d[j]! := fun i j hij hj => by
      rw [hget i (by omega), hget j (by omega), nth_eq l i (by omega), nth_eq l j (by omega)]
      have := List.pairwise_iff_getElem.1 hs i j (by omega) (by omega) hij
      omega
    obtain ⟨k1, k2, _⟩ := compact_set11 hsd n (by omega)
    refine (compact_walk11 g n c d w H hsz hc).mono fun e w' ⟨m, dk, he, hR, hm, hmn, hlow⟩ => ?_
    have hnn : ∀ x ∈ compactUpTo d n, 0 ≤ x := fun x hx => by
      obtain ⟨j, hj, rfl⟩ := (k2 x).1 hx
      rw [hget j hj]
      exact Int.natCast_nonneg _
    have hof := hR.rowG.of H
    have hsz2 : w'.heap.size = w.heap.size := by
      obtain ⟨_, q, rfl⟩ := hR
      simp
    refine ⟨m, (compactUpTo d n).map Int.toNat, he, by simp [hm], hmn, ?_, fun x => ?_, fun h1 => ⟨g, rfl, hbg, by omega, fun j hj => ?_⟩, hsz2, fun B h1 h2 => hR.rowG.below (by omega) h2⟩
    · exact List.pairwise_map.2 (k1.imp_of_mem fun {a b} ha hb h => by
        have h3 := hnn a ha
        have h4 := hnn b hb
        omega)
    · rw [List.mem_map]
      constructor
      · rintro ⟨y, hy, rfl⟩
        obtain ⟨j, hj, rfl⟩ := (k2 y).1 hy
        rw [hget j hj, Int.toNat_natCast]
        exact nth_mem l j (by omega)
      · intro hx
        obtain ⟨j, hj, rfl⟩ := List.mem_iff_getElem.1 hx
        refine ⟨d[j]!, (k2 _).2 ⟨j, by omega, rfl⟩, ?_⟩
        rw [hget j (by omega), Int.toNat_natCast, nth_eq l j hj]
    · have h3 := hof.holds j (by rw [hR.1]; omega)
      rw [Nat.zero_add] at h3
      have h4 := hlow j hj
      obtain ⟨h5, h6⟩ := List.getElem?_eq_some_iff.1 h4
      have h7 := hnn _ (List.getElem_mem h5)
      rw [h3.1, ← h6]
      congr 2
      rw [nth_eq _ j (by simpa using h5), List.getElem_map, Int.toNat_of_nonneg h7]
end Go.Proofs.YtjpfcdgaepdcdaaGreat
/- Plain facts of a certificate that is built: products of unlike primes, how many steps there are. No condition but those typed; no program is named. -/
namespace Go.Proofs.YtjpfcdgaepdcdaaGreat
theorem prodN_snoc11 (l : List Nat) (q : Nat) : prodN (l ++ [q]) = prodN l * q := by rw [prodN_append, prodN_one]
/-- Unlike primes that each divide a number divide it together. -/
theorem prod_dvd11 : ∀ (l : List Nat) (n : Nat), 0 < n → (∀ q ∈ l, Prm q ∧ q ∣ n) → l.Pairwise (· < ·) → prodN l ∣ n := by
  intro l
  induction l with
  | nil => intro n _ _ _; rw [prodN_nil]; exact Nat.one_dvd n
  | cons q l ih =>
    intro n h0 h hr
    obtain ⟨h1, h2⟩ := List.pairwise_cons.1 hr
    have hd := ih n h0 (fun x hx => h x (List.mem_cons_of_mem _ hx)) h2
    obtain ⟨hq, hqd⟩ := h q List.mem_cons_self
    have hn : ¬ q ∣ prodN l := fun hd2 => by
      obtain ⟨x, hx, hqx⟩ := hq.prodN l hd2
      have := h1 x hx
      rcases (h x (List.mem_cons_of_mem _ hx)).1.2 q hqx with h3 | h3
      · have := hq.1; omega
      · omega
    have hg : Nat.Coprime q (prodN l) := by
      have h3 : Nat.gcd (prodN l) q = 1 := hq.gcd (prodN l) hn
      show Nat.gcd q (prodN l) = 1
      rw [Nat.gcd_comm]; exact h3
    rw [prodN_cons]
    exact hg.mul_dvd_of_dvd_of_dvd hqd hd
theorem prodN_pos11 {l : List Nat} (h : ∀ q ∈ l, 0 < q) : 0 < prodN l := by
  induction l with
  | nil => rw [prodN_nil]; omega
  | cons q l ih => rw [prodN_cons]; exact Nat.mul_pos (h q List.mem_cons_self) (ih fun x hx => h x (List.mem_cons_of_mem _ hx))
theorem prodN_take_le11 {l : List Nat} (h : ∀ q ∈ l, 0 < q) (j : Nat) : prodN (l.take j) ≤ prodN l := by
  have e : prodN l = prodN (l.take j) * prodN (l.drop j) := by rw [← prodN_append, List.take_append_drop]
  rw [e]
  exact Nat.le_mul_of_pos_right _ (prodN_pos11 fun q hq => h q (List.mem_of_mem_drop hq))
/-- How many steps were made for the first so many primes. -/
def FewNew (m : Nat) (qs : List Nat) (j : Nat) : Prop := m = 0 ∨ (1 ≤ j ∧ 2 ^ (m + 16) ≤ prodN (qs.take j))
theorem FewNew.next {m n : Nat} {qs : List Nat} {j q : Nat} (h : FewNew m qs j) (hj : j < qs.length) (hq : qs[j] = q) (hpos : ∀ x ∈ qs, 2 ≤ x) (h0 : j = 0 → q < 65536) (hn : n = 0 ∨ (0 < n ∧ 2 ^ (n + 15) ≤ q)) : FewNew (m + n) qs (j + 1) := by
  have e : prodN (qs.take (j + 1)) = prodN (qs.take j) * q := by rw [List.take_succ_eq_append_getElem hj, prodN_snoc11, hq]
  have hq2 : 2 ≤ q := by rw [← hq]; exact hpos _ (List.getElem_mem hj)
  rcases hn with rfl | ⟨hn0, hn⟩
  · rcases h with rfl | ⟨h1, h2⟩
    · exact .inl rfl
    · refine .inr ⟨by omega, ?_⟩
      rw [e, Nat.add_zero]
      exact Nat.le_trans h2 (Nat.le_mul_of_pos_right _ (by omega))
  · have hj1 : 1 ≤ j := by
      rcases Nat.eq_zero_or_pos j with h3 | h3
      · have h4 := h0 h3
        have h5 : 2 ^ 16 ≤ 2 ^ (n + 15) := Nat.pow_le_pow_right (by omega) (by omega)
        omega
      · exact h3
    refine .inr ⟨by omega, ?_⟩
    rw [e]
    rcases h with rfl | ⟨_, h2⟩
    · have h3 : 2 ≤ prodN (qs.take j) := by
        obtain ⟨i, rfl⟩ : ∃ i, j = i + 1 := ⟨j - 1, by omega⟩
        have hi : i < qs.length := by omega
        rw [List.take_succ_eq_append_getElem hi, prodN_snoc11]
        have h4 := hpos _ (List.getElem_mem hi)
        have h5 : 0 < prodN (qs.take i) := prodN_pos11 fun x hx => by have := hpos x (List.mem_of_mem_take hx); omega
        exact Nat.le_trans h4 (Nat.le_mul_of_pos_left _ h5)
      calc 2 ^ (0 + n + 16) = 2 * 2 ^ (n + 15) := by rw [Nat.zero_add, Nat.pow_succ, Nat.mul_comm]
        _ ≤ prodN (qs.take j) * q := Nat.mul_le_mul h3 hn
    · calc 2 ^ (m + n + 16) = 2 ^ (m + 16) * 2 ^ n := by rw [← Nat.pow_add]; congr 1; omega
        _ ≤ prodN (qs.take j) * q := Nat.mul_le_mul h2 (Nat.le_trans (Nat.pow_le_pow_right (by omega) (by omega)) hn)
theorem FewNew.count {m : Nat} {qs : List Nat} {j q p k : Nat} (h : FewNew m qs j) (hj : j < qs.length) (hq : qs[j] = q) (hpos : ∀ x ∈ qs, 2 ≤ x) (hp : prodN qs ≤ p) (hk : 2 ^ k * p ≤ 2 ^ 200) : 2 ^ (k + m) * q ≤ 2 ^ 200 := by
  have e : prodN (qs.take (j + 1)) = prodN (qs.take j) * q := by rw [List.take_succ_eq_append_getElem hj, prodN_snoc11, hq]
  have h1 : prodN (qs.take j) * q ≤ p := by rw [← e]; exact Nat.le_trans (prodN_take_le11 (fun x hx => by have := hpos x hx; omega) _) hp
  have h2 : 2 ^ m ≤ prodN (qs.take j) := by
    rcases h with rfl | ⟨_, h2⟩
    · exact prodN_pos11 fun x hx => by have := hpos x (List.mem_of_mem_take hx); omega
    · exact Nat.le_trans (Nat.pow_le_pow_right (by omega) (by omega)) h2
  calc 2 ^ (k + m) * q = 2 ^ k * (2 ^ m * q) := by rw [Nat.pow_add, Nat.mul_assoc]
    _ ≤ 2 ^ k * (prodN (qs.take j) * q) := Nat.mul_le_mul_left _ (Nat.mul_le_mul_right _ h2)
    _ ≤ 2 ^ k * p := Nat.mul_le_mul_left _ h1
    _ ≤ 2 ^ 200 := hk
theorem FewNew.last {m : Nat} {qs : List Nat} {p : Nat} (h : FewNew m qs qs.length) (hp : prodN qs ≤ p) (h16 : 65536 ≤ p) : 2 ^ (m + 1 + 15) ≤ p := by
  rcases h with rfl | ⟨_, h2⟩
  · exact h16
  · rw [List.take_length] at h2
    exact Nat.le_trans h2 hp
/-- Steps that show their numbers. -/
structure Good (ss : List SRaw) : Prop where
  ok : ∀ s ∈ ss, OkRaw s
  few : ∀ s ∈ ss, FewOne s
  cert : CertOk [] (ss.map toN)
theorem Good.none : Good [] := ⟨by simp, by simp, trivial⟩
theorem Good.append {ss : List SRaw} {s : SRaw} (h : Good ss) (ho : OkRaw s) (hf : FewOne s) (hs : StepOk (toN s) ((ss.map toN).map CStep.P)) : Good (ss ++ [s]) := by
  refine ⟨fun t ht => ?_, fun t ht => ?_, ?_⟩
  · rcases List.mem_append.1 ht with h1 | h1
    · exact h.ok t h1
    · rw [List.mem_singleton.1 h1]; exact ho
  · rcases List.mem_append.1 ht with h1 | h1
    · exact h.few t h1
    · rw [List.mem_singleton.1 h1]; exact hf
  · rw [List.map_append, certOk_append]
    exact ⟨h.cert, by rw [List.nil_append]; exact ⟨hs, trivial⟩⟩
/-- A number that is shown, or needs not be. -/
def ShownBy (ss : List SRaw) (q : Nat) : Prop := Known q ∨ ∃ s ∈ ss, natOf s.P = q
theorem ShownBy.more {ss new : List SRaw} {q : Nat} (h : ShownBy ss q) : ShownBy (ss ++ new) q := h.imp id fun ⟨s, hs, e⟩ => ⟨s, List.mem_append_left _ hs, e⟩
/-- The step of a prime, with the primes of one less. -/
def stepRaw (p x : Nat) (qs : List Nat) : SRaw := ⟨wd p, wd x, qs.map wd⟩
theorem toN_raw {p x : Nat} {qs : List Nat} (hq : ∀ q ∈ qs, q < 18446744073709551616) : toN (stepRaw p x qs) = ⟨p, x, qs⟩ := by
  have e : (qs.map wd).map natOf = qs := by
    rw [List.map_map]
    conv => rhs; rw [← List.map_id qs]
    exact List.map_congr_left fun q _ => natOf_wd q
  have _ := hq
  show (⟨natOf (wd p), natOf (wd x), (qs.map wd).map natOf⟩ : CStep) = _
  rw [natOf_wd, natOf_wd, e]
theorem okNat_word11 {n : Nat} (h : n < 18446744073709551616) : OkNat (wd n) ∧ (wd n).length ≤ 1 := by
  have hb := nbits_of_lt n 64 h
  have hl := length_wd n
  exact ⟨⟨by rw [natOf_wd], by rw [natOf_wd]; omega⟩, by omega⟩
theorem raw_ok11 {p x : Nat} {qs : List Nat} (hp : p < 18446744073709551616) (hx : x < p) (hq : ∀ q ∈ qs, q < 18446744073709551616) (hl : qs.length ≤ 40) : OkRaw (stepRaw p x qs) ∧ FewOne (stepRaw p x qs) := by
  refine ⟨⟨(okNat_word11 hp).1, (okNat_word11 (by omega)).1, fun l h => ?_⟩, by show (qs.map wd).length ≤ 40; rw [List.length_map]; exact hl, ?_, ?_, fun l h => ?_⟩
  · obtain ⟨q, h1, rfl⟩ := List.mem_map.1 h
    exact (okNat_word11 (hq q h1)).1
  · have := (okNat_word11 hp).2
    show (wd p).length ≤ 40
    omega
  · have := (okNat_word11 (show x < 18446744073709551616 by omega)).2
    show (wd x).length ≤ 40
    omega
  · obtain ⟨q, h1, rfl⟩ := List.mem_map.1 h
    have := (okNat_word11 (hq q h1)).2
    omega
theorem prm_2b : Prm 2 := prm_tried (f := 0) (by omega) rfl (by omega)
/-- What rho told of p - 1, each number once. -/
structure Parts (p : Nat) (qs : List Nat) : Prop where
  prm : ∀ q ∈ qs, Prm q ∧ q ∣ p - 1
  all : ∀ r, Prm r → r ∣ p - 1 → r ∈ qs
  rise : qs.Pairwise (· < ·)
theorem Parts.of_told {W : Nat → Prop} {p rest : Nat} {ls qs : List Nat} (hW : ∀ x, x < p → W x → Prm x) (hp : 2 ≤ p) (h : Told10 W (p - 1) ls rest 0) (hr : qs.Pairwise (· < ·)) (hm : ∀ x, x ∈ qs ↔ x ∈ ls) : Parts p qs := by
  have hrest : rest = 1 := by
    rcases h.ends with ⟨_, h1⟩ | ⟨h1, _⟩
    · exact h1
    · cases h1
  have hall : prodN ls = p - 1 := by have := h.all; rwa [hrest, Nat.mul_one] at this
  have hd : ∀ x ∈ ls, x ∣ p - 1 := fun x hx => by rw [← hall]; exact prodN_mem_dvd hx
  have hpr : ∀ x ∈ ls, Prm x := fun x hx => hW x (by have := Nat.le_of_dvd (by omega) (hd x hx); omega) (h.tested x hx)
  refine ⟨fun q hq => ⟨hpr q ((hm q).1 hq), hd q ((hm q).1 hq)⟩, fun r hrp hrd => ?_, hr⟩
  rw [← hall] at hrd
  obtain ⟨x, hx, hrx⟩ := hrp.prodN ls hrd
  rcases (hpr x hx).2 r hrx with h1 | h1
  · have := hrp.1; omega
  · rw [h1]; exact (hm x).2 hx
theorem Parts.two {p : Nat} {qs : List Nat} (h : Parts p qs) (hp : Prm p) (h3 : 3 ≤ p) : 2 ∈ qs := h.all 2 prm_2b (by
    rcases Nat.mod_two_eq_zero_or_one p with h1 | h1
    · exfalso
      rcases hp.2 2 (Nat.dvd_of_mod_eq_zero h1) with h2 | h2 <;> omega
    · exact Nat.dvd_of_mod_eq_zero (by omega))
theorem Parts.first {p : Nat} {qs : List Nat} (h : Parts p qs) (hp : Prm p) (h3 : 3 ≤ p) (h0 : 0 < qs.length) : qs[0] = 2 := by
  obtain ⟨j, hj, e⟩ := List.mem_iff_getElem.1 (h.two hp h3)
  rcases Nat.eq_zero_or_pos j with h1 | h1
  · subst h1; exact e
  · have h2 := List.pairwise_iff_getElem.1 h.rise 0 j h0 hj h1
    have := (h.prm _ (List.getElem_mem h0)).1.1
    omega
theorem Parts.prod {p : Nat} {qs : List Nat} (h : Parts p qs) (h3 : 3 ≤ p) : prodN qs ≤ p := by
  have := Nat.le_of_dvd (by omega) (prod_dvd11 qs (p - 1) (by omega) h.prm h.rise)
  omega
theorem Parts.ge {p : Nat} {qs : List Nat} (h : Parts p qs) : ∀ q ∈ qs, 2 ≤ q := fun q hq => (h.prm q hq).1.1
theorem Parts.lt {p : Nat} {qs : List Nat} (h : Parts p qs) (h3 : 3 ≤ p) : ∀ q ∈ qs, q < p := fun q hq => by
  have := Nat.le_of_dvd (by omega) (h.prm q hq).2
  omega
theorem stepOk_raw {p x : Nat} {qs : List Nat} {ss : List SRaw} (h : Parts p qs) (hp : Prm p) (h3 : 3 ≤ p) (hx : 2 ≤ x) (hxp : x < p) (ha : Around x p (p - 1) qs) (hs : ∀ q ∈ qs, ShownBy ss q) (hpl : p < 18446744073709551616) : StepOk (toN (stepRaw p x qs)) ((ss.map toN).map CStep.P) := by
  rw [toN_raw fun q hq => by have := h.lt h3 q hq; omega]
  refine ⟨?_, h3, show 1 ≤ x by omega, hxp, h.rise, fun q hq => ?_, fun q hq => (h.prm q hq).2, h.all, ha.1, ha.2⟩
  · show p % 2 = 1
    rcases Nat.mod_two_eq_zero_or_one p with h1 | h1
    · exfalso
      rcases hp.2 2 (Nat.dvd_of_mod_eq_zero h1) with h2 | h2 <;> omega
    · exact h1
  · rcases hs q hq with h1 | ⟨s, h1, rfl⟩
    · exact .inl h1
    · exact .inr (List.mem_map.2 ⟨toN s, List.mem_map.2 ⟨s, h1, rfl⟩, rfl⟩)
end Go.Proofs.YtjpfcdgaepdcdaaGreat
/- Plain facts on a row that is walked in parts: places ahead, products of distances. No condition but those typed; no program is named. -/
namespace Go.Proofs.YtjpfcdgaepdcdaaGreat
/-- So many steps ahead. -/
def itX (n c : Nat) : Nat → Nat → Nat
  | 0, x => x
  | k + 1, x => itX n c k (rowS n c x)
def itY (n c : Nat) : Nat → Nat → Nat
  | 0, y => y
  | k + 1, y => itY n c k (rowS n c (rowS n c y))
theorem itX_last (n c : Nat) : ∀ k x, itX n c (k + 1) x = rowS n c (itX n c k x)
  | 0, _ => rfl
  | k + 1, x => itX_last n c k (rowS n c x)
theorem itY_last (n c : Nat) : ∀ k y, itY n c (k + 1) y = rowS n c (rowS n c (itY n c k y))
  | 0, _ => rfl
  | k + 1, y => itY_last n c k (rowS n c (rowS n c y))
/-- What the distance at a place ahead has in common with n. -/
def gcdS (n c j x y : Nat) : Nat := Nat.gcd (distS (itX n c j x) (itY n c j y)) n
/-- None of the next k steps shows a factor. -/
def ClearS (n c k x y : Nat) : Prop := ∀ j, j < k → gcdS n c (j + 1) x y = 1
theorem ClearS.zero (n c x y : Nat) : ClearS n c 0 x y := fun j h => by omega
theorem ClearS.succ {n c k x y : Nat} : ClearS n c (k + 1) x y ↔ ClearS n c k x y ∧ gcdS n c (k + 1) x y = 1 :=
  ⟨fun h => ⟨fun j hj => h j (by omega), h k (by omega)⟩, fun h j hj => by
    rcases Nat.lt_succ_iff_lt_or_eq.1 hj with h1 | rfl
    · exact h.1 j h1
    · exact h.2⟩
theorem ClearS.first {n c k x y : Nat} (h : ClearS n c (k + 1) x y) : Nat.gcd (distS (rowS n c x) (rowS n c (rowS n c y))) n = 1 ∧ ClearS n c k (rowS n c x) (rowS n c (rowS n c y)) :=
  ⟨h 0 (by omega), fun j hj => h (j + 1) (by omega)⟩
theorem splitS_clear {n c : Nat} : ∀ k r x y, ClearS n c k x y → splitS n c (k + r) x y = splitS n c r (itX n c k x) (itY n c k y) := by
  intro k
  induction k with
  | zero => intro r x y _; rw [Nat.zero_add]; rfl
  | succ k ih =>
    intro r x y h
    obtain ⟨h1, h2⟩ := h.first
    rw [show k + 1 + r = (k + r) + 1 by omega, splitS_step rfl rfl rfl h1, if_neg (by omega), ih r _ _ h2]
    rfl
theorem splitS_hit {n c : Nat} (hn : 0 < n) : ∀ k r x y, ¬ ClearS n c k x y → splitS n c (k + r) x y = splitS n c k x y := by
  intro k
  induction k with
  | zero => intro r x y h; exact absurd (ClearS.zero _ _ _ _) h
  | succ k ih =>
    intro r x y h
    rw [show k + 1 + r = (k + r) + 1 by omega, splitS_step rfl rfl rfl rfl, splitS_step rfl rfl rfl rfl]
    split
    · rfl
    · rename_i h1
      refine ih r _ _ fun hc => h fun j hj => ?_
      cases j with
      | zero =>
        have := (gcd_pos10 (x := distS (rowS n c x) (rowS n c (rowS n c y))) hn rfl).1
        show Nat.gcd (distS (rowS n c x) (rowS n c (rowS n c y))) n = 1
        omega
      | succ j => exact hc j (by omega)
/-- The product of distances so far, modulo n. -/
def ProdS (n c k x y P : Nat) : Prop := Nat.gcd P n = 1 ↔ ClearS n c k x y
theorem ProdS.start (n c x y : Nat) : ProdS n c 0 x y 1 := ⟨fun _ => ClearS.zero _ _ _ _, fun _ => Nat.gcd_one_left n⟩
theorem gcd_mod10 (a n : Nat) : Nat.gcd (a % n) n = Nat.gcd a n := by
  rw [Nat.gcd_comm a n, Nat.gcd_rec n a]
theorem ProdS.step {n c k x y P : Nat} (h : ProdS n c k x y P) : ProdS n c (k + 1) x y (P * distS (itX n c (k + 1) x) (itY n c (k + 1) y) % n) := by
  unfold ProdS
  have h2 : Nat.gcd P n = 1 ↔ ClearS n c k x y := h
  rw [gcd_mod10, ClearS.succ, ← h2]
  exact Nat.coprime_mul_iff_left
end Go.Proofs.YtjpfcdgaepdcdaaGreat
/- Plain facts on common divisors: the least x for which a x is the greatest common divisor and so often b; inverses. No condition but those typed; no program is named. -/
namespace Go.Proofs.YtjpfcdgaepdcdaaGreat
/-- x and y are the least with M x = gcd + N y (0 and 0 where there may be none). -/
structure ExtIs (M N x y : Nat) : Prop where
  zero : M = 0 → x = 0 ∧ y = 0
  eq : M ≠ 0 → M * x = Nat.gcd M N + N * y
  least : M ≠ 0 → ∀ x' y', M * x' = Nat.gcd M N + N * y' → x ≤ x'
  low : N = 0 → y = 0
section
variable {M N x y : Nat}
theorem ExtIs.one (h : ExtIs M N x y) (hM : M ≠ 0) (hN : N = 0) : x = 1 ∧ y = 0 := by
  have h1 := h.eq hM
  have h2 := h.low hN
  subst hN
  rw [Nat.gcd_zero_right, Nat.zero_mul, Nat.add_zero] at h1
  exact ⟨Nat.eq_of_mul_eq_mul_left (Nat.pos_of_ne_zero hM) (by rw [h1, Nat.mul_one]), h2⟩
theorem ExtIs.pos (h : ExtIs M N x y) (hM : M ≠ 0) : 1 ≤ x := by
  have h1 := h.eq hM
  have h2 := Nat.gcd_pos_of_pos_left N (Nat.pos_of_ne_zero hM)
  rcases Nat.eq_zero_or_pos x with h3 | h3
  · rw [h3, Nat.mul_zero] at h1; omega
  · exact h3
theorem ExtIs.le (h : ExtIs M N x y) (hM : M ≠ 0) (hN : N ≠ 0) : x ≤ N / Nat.gcd M N := by
  have hg := Nat.gcd_pos_of_pos_left N (Nat.pos_of_ne_zero hM)
  obtain ⟨a, ha⟩ := Nat.gcd_dvd_left M N
  obtain ⟨b, hb⟩ := Nat.gcd_dvd_right M N
  have h1 := h.eq hM
  have h2 := h.least hM
  have ha0 : 0 < a := by
    rcases Nat.eq_zero_or_pos a with h3 | h3
    · rw [h3, Nat.mul_zero] at ha; exact absurd ha hM
    · exact h3
  generalize Nat.gcd M N = g at *
  have e : N / g = b := by rw [hb, Nat.mul_div_cancel_left _ hg]
  rw [e]
  rcases Nat.lt_or_ge b x with h3 | h3
  · exfalso
    obtain ⟨t, rfl⟩ : ∃ t, x = b + t := ⟨x - b, by omega⟩
    have ht : 1 ≤ t := by omega
    have e2 : M * b = N * a := by rw [ha, hb, Nat.mul_assoc, Nat.mul_assoc, Nat.mul_comm a b]
    have e3 : N * a + M * t = g + N * y := by rw [← e2, ← Nat.mul_add]; exact h1
    have h4 : g ≤ M * t := by
      rw [ha, Nat.mul_assoc]
      exact Nat.le_mul_of_pos_right g (Nat.mul_pos ha0 ht)
    have h5 : N * a ≤ N * y := by omega
    have h6 : a ≤ y := Nat.le_of_mul_le_mul_left h5 (Nat.pos_of_ne_zero hN)
    obtain ⟨s, rfl⟩ : ∃ s, y = a + s := ⟨y - a, by omega⟩
    have h7 := h2 t s (by rw [Nat.mul_add] at e3; omega)
    have hb0 : 0 < b := by
      rcases Nat.eq_zero_or_pos b with h8 | h8
      · rw [h8, Nat.mul_zero] at hb; exact absurd hb hN
      · exact h8
    omega
  · exact h3
theorem ExtIs.below (h : ExtIs M N x y) (hM : M ≠ 0) (hN : N ≠ 0) : x < N / Nat.gcd M N ∨ N / Nat.gcd M N = 1 := by
  have hle := h.le hM hN
  rcases Nat.lt_or_ge x (N / Nat.gcd M N) with h1 | h1
  · exact .inl h1
  · right
    have hx : x = N / Nat.gcd M N := by omega
    have hg := Nat.gcd_pos_of_pos_left N (Nat.pos_of_ne_zero hM)
    obtain ⟨a, ha⟩ := Nat.gcd_dvd_left M N
    obtain ⟨b, hb⟩ := Nat.gcd_dvd_right M N
    have h2 := h.eq hM
    generalize Nat.gcd M N = g at *
    have e : N / g = b := by rw [hb, Nat.mul_div_cancel_left _ hg]
    rw [e] at hx ⊢
    subst hx
    have e2 : M * x = N * a := by rw [ha, hb, Nat.mul_assoc, Nat.mul_assoc, Nat.mul_comm a x]
    have e3 : N * a = g + N * y := by rw [← e2]; exact h2
    have hya : y < a := by
      rcases Nat.lt_or_ge y a with h3 | h3
      · exact h3
      · have := Nat.mul_le_mul_left N h3; omega
    obtain ⟨t, rfl⟩ : ∃ t, a = y + 1 + t := ⟨a - (y + 1), by omega⟩
    have e4 : N * (1 + t) = g := by rw [Nat.add_assoc, Nat.mul_add] at e3; omega
    have h4 : N ≤ g := by rw [← e4]; exact Nat.le_mul_of_pos_right N (by omega)
    rw [hb] at h4
    have h5 : x ≤ 1 := Nat.le_of_mul_le_mul_left (by rw [Nat.mul_one]; exact h4) hg
    rcases Nat.eq_zero_or_pos x with h6 | h6
    · rw [h6, Nat.mul_zero] at hb; exact absurd hb hN
    · omega
end
end Go.Proofs.YtjpfcdgaepdcdaaGreat
/- The steps of divisions: what stands between two of them, and what they come to. No condition but those typed; no program is named. -/
namespace Go.Proofs.YtjpfcdgaepdcdaaGreat
/-- Between two steps of M and N. -/
structure GMid (M N a b last next : Nat) (less : Bool) : Prop where
  gcd : Nat.gcd a b = Nat.gcd M N
  sum : a * next + b * last = N
  lo : less = false → (∃ Y, M * last = a + N * Y) ∧ ∃ Z, M * next + b = N * Z
  hi : less = true → (∃ Y, M * last + a = N * Y) ∧ ∃ Z, M * next = b + N * Z
  ord : (last = 1 ∧ next = 0 ∧ less = false ∧ a = M ∧ b = N) ∨ (b < a ∧ 1 ≤ next ∧ (less = false → 1 ≤ last ∧ last ≤ next) ∧ (less = true → last < next))
theorem gcd_next (a b : Nat) : Nat.gcd b (a % b) = Nat.gcd a b := by rw [Nat.gcd_comm b, ← Nat.gcd_rec, Nat.gcd_comm]
theorem GMid.start (M N : Nat) : GMid M N M N 1 0 false := ⟨rfl, by omega, fun _ => ⟨⟨0, by omega⟩, 1, by omega⟩, fun h => (by cases h), .inl ⟨rfl, rfl, rfl, rfl, rfl⟩⟩
section
variable {M N a b last next : Nat} {less : Bool}
theorem GMid.step (h : GMid M N a b last next less) (hb : b ≠ 0) : GMid M N b (a % b) next (last + a / b * next) (!less) := by
  obtain ⟨h1, h2, h3, h4, h5⟩ := h
  have hq := Nat.div_add_mod a b
  have hr := Nat.mod_lt a (Nat.pos_of_ne_zero hb)
  have hg := gcd_next a b
  have hq1 : b < a → 1 ≤ a / b := fun h => Nat.div_pos (by omega) (by omega)
  generalize a / b = q at *
  generalize a % b = r at *
  refine ⟨by omega, ?_, fun h => ?_, fun h => ?_, .inr ⟨hr, ?_, fun h => ?_, fun h => ?_⟩⟩
  · rw [← h2, ← hq]; grind
  · obtain ⟨⟨Y, hY⟩, Z, hZ⟩ := h4 (by simpa using h)
    refine ⟨⟨Z, hZ⟩, Y + q * Z, ?_⟩
    have e : M * (q * next) = q * (b + N * Z) := by rw [← hZ]; grind
    grind
  · obtain ⟨⟨Y, hY⟩, Z, hZ⟩ := h3 (by simpa using h)
    refine ⟨⟨Z, hZ⟩, Y + q * Z, ?_⟩
    have e : M * (q * next) + q * b = q * (N * Z) := by rw [← hZ]; grind
    grind
  · rcases h5 with ⟨rfl, rfl, _⟩ | ⟨h, h6, _⟩
    · omega
    · have := Nat.mul_le_mul (hq1 h) h6; omega
  · rcases h5 with ⟨_, _, rfl, _⟩ | ⟨h6, h7, _, h8⟩
    · cases h
    · have := h8 (by simpa using h)
      have := Nat.mul_le_mul_right next (hq1 h6)
      omega
  · rcases h5 with ⟨rfl, rfl, _⟩ | ⟨h6, h7, h8, _⟩
    · omega
    · have := h8 (by simpa using h)
      have := Nat.mul_le_mul_right next (hq1 h6)
      omega
theorem GMid.next_le (h : GMid M N a b last next less) : next ≤ N := by
  rcases h.ord with ⟨_, rfl, _⟩ | ⟨h1, _⟩
  · omega
  · have h2 := Nat.le_mul_of_pos_left next (show 0 < a by omega)
    have := h.sum
    omega
theorem GMid.last_le (h : GMid M N a b last next less) : last ≤ N ∨ last ≤ 1 := by
  rcases h.ord with ⟨rfl, _⟩ | ⟨_, _, h1, h2⟩
  · omega
  · have := h.next_le
    cases less
    · have := h1 rfl; omega
    · have := h2 rfl; omega
/-- How often, behind the last step. -/
def timesOf (last next : Nat) (less : Bool) : Nat := if less then next - last else last
theorem GMid.sub (h : GMid M N a b last next true) : last ≤ next := by
  rcases h.ord with ⟨_, _, h, _⟩ | ⟨_, _, _, h1⟩
  · cases h
  · have := h1 rfl; omega
theorem GMid.times_le (h : GMid M N a b last next less) : timesOf last next less ≤ N ∨ timesOf last next less ≤ 1 := by
  have h1 := h.next_le
  have h2 := h.last_le
  unfold timesOf
  cases less
  · simpa using h2
  · simp; omega
theorem GMid.end_gcd (h : GMid M N a 0 last next less) : a = Nat.gcd M N := by rw [← h.gcd, Nat.gcd_zero_right]
theorem GMid.end_pos (h : GMid M N a 0 last next less) : 1 ≤ timesOf last next less := by
  unfold timesOf
  rcases h.ord with ⟨rfl, rfl, rfl, _⟩ | ⟨_, _, h1, h2⟩
  · simp
  · cases less
    · have := h1 rfl; simp; omega
    · have := h2 rfl; simp; omega
theorem GMid.end_eq (h : GMid M N a 0 last next less) (hM : M ≠ 0) : ∃ y, M * timesOf last next less = Nat.gcd M N + N * y := by
  have hg := h.end_gcd
  rw [← hg]
  cases less
  · obtain ⟨⟨Y, hY⟩, _⟩ := h.lo rfl
    exact ⟨Y, hY⟩
  · obtain ⟨⟨Y, hY⟩, Z, hZ⟩ := h.hi rfl
    have h1 := h.end_pos
    have h2 := h.sub
    obtain ⟨t, rfl⟩ : ∃ t, next = last + t := ⟨next - last, by omega⟩
    have e : timesOf last (last + t) true = t := by simp [timesOf]
    rw [e] at h1 ⊢
    rw [Nat.mul_add] at hZ
    have h3 : a ≤ M * t := by
      have := Nat.gcd_le_left N (Nat.pos_of_ne_zero hM)
      have := Nat.le_mul_of_pos_right M h1
      omega
    have h4 : N * Y ≤ N * Z := by omega
    rcases Nat.lt_or_ge Z Y with h5 | h5
    · rcases Nat.eq_zero_or_pos N with h0 | h0
      · subst h0; exact ⟨0, by omega⟩
      · have := Nat.mul_le_mul_left N h5; rw [Nat.mul_succ] at this; omega
    · obtain ⟨s, rfl⟩ : ∃ s, Z = Y + s := ⟨Z - Y, by omega⟩
      rw [Nat.mul_add] at hZ
      exact ⟨s, by omega⟩
theorem GMid.end_least (h : GMid M N a 0 last next less) (hM : M ≠ 0) (x' y' : Nat) (h' : M * x' = Nat.gcd M N + N * y') : timesOf last next less ≤ x' := by
  obtain ⟨y, hy⟩ := h.end_eq hM
  have hp := h.end_pos
  have hgp := Nat.gcd_pos_of_pos_left N (Nat.pos_of_ne_zero hM)
  have hx1 : 1 ≤ x' := by
    rcases Nat.eq_zero_or_pos x' with h0 | h0
    · rw [h0, Nat.mul_zero] at h'; omega
    · exact h0
  rcases h.ord with ⟨rfl, rfl, rfl, _⟩ | ⟨ha, hn, h1, h2⟩
  · simpa [timesOf] using hx1
  · have hle : timesOf last next less ≤ next := by
      unfold timesOf
      cases less
      · have := h1 rfl; simp; omega
      · simp
    have hs := h.sum
    rw [Nat.zero_mul, Nat.add_zero] at hs
    have hg := h.end_gcd
    obtain ⟨m, hm⟩ := Nat.gcd_dvd_left M N
    have hc : Nat.gcd m next = 1 := by
      have := Nat.gcd_mul_left a m next
      rw [hs, show a * m = M by rw [hg]; exact hm.symm, ← hg] at this
      exact Nat.eq_of_mul_eq_mul_left (show 0 < a by omega) (by omega)
    rw [← hg] at hm h' hy
    generalize timesOf last next less = x at *
    rcases Nat.lt_or_ge x' x with hlt | hge
    · exfalso
      obtain ⟨t, rfl⟩ : ∃ t, x = x' + t := ⟨x - x', by omega⟩
      have ha0 : 0 < a := by omega
      subst hs
      have e1 : m * x' = 1 + next * y' := by
        apply Nat.eq_of_mul_eq_mul_left ha0
        rw [Nat.mul_add, Nat.mul_one, ← Nat.mul_assoc, ← Nat.mul_assoc, ← hm]; exact h'
      have e2 : m * (x' + t) = 1 + next * y := by
        apply Nat.eq_of_mul_eq_mul_left ha0
        rw [Nat.mul_add a 1, Nat.mul_one, ← Nat.mul_assoc, ← Nat.mul_assoc, ← hm]; exact hy
      rw [Nat.mul_add] at e2
      have e3 : m * t + next * y' = next * y := by omega
      have hd : next ∣ m * t := (Nat.dvd_add_left (Nat.dvd_mul_right next y')).1 (by rw [e3]; exact Nat.dvd_mul_right next y)
      have hd2 : next ∣ t := Nat.Coprime.dvd_of_dvd_mul_left (by rw [Nat.coprime_iff_gcd_eq_one, Nat.gcd_comm]; exact hc) hd
      have := Nat.le_of_dvd (by omega) hd2
      omega
    · exact hge
end
/-- Gcd, and the least number from 1 on whose product leaves it. -/
structure LeastIs (M N x : Nat) : Prop where
  eq : M ≠ 0 → ∃ y, M * x = Nat.gcd M N + N * y
  least : M ≠ 0 → ∀ x' y', M * x' = Nat.gcd M N + N * y' → x ≤ x'
  le : x ≤ N ∨ x ≤ 1
theorem GMid.done {M N a last next : Nat} {less : Bool} (h : GMid M N a 0 last next less) : LeastIs M N (timesOf last next less) := ⟨h.end_eq, h.end_least, h.times_le⟩
/-- With the other number: Ext. -/
theorem LeastIs.ext {M N x : Nat} (h : LeastIs M N x) (hM : M ≠ 0) (y : Nat) (hy : y = if N = 0 then 0 else (M * x - Nat.gcd M N) / N) : ExtIs M N x y := by
  obtain ⟨y', e⟩ := h.eq hM
  refine ⟨fun h => absurd h hM, fun _ => ?_, h.least, fun h0 => by rw [hy, if_pos h0]⟩
  by_cases h0 : N = 0
  · rw [hy, if_pos h0]; rw [e, h0]; omega
  · rw [if_neg h0, show M * x - Nat.gcd M N = N * y' by omega, Nat.mul_div_cancel_left _ (Nat.pos_of_ne_zero h0)] at hy
    rw [hy, e]
end Go.Proofs.YtjpfcdgaepdcdaaGreat
/- gcd's steps of numbers of one word. Conditions: as typed. -/
namespace Go.Proofs.YtjpfcdgaepdcdaaGreat
open Go.RowKit
set_option maxRecDepth 20000
theorem divide_ok (a b : Nat) (w : World) (ha : a < 18446744073709551616) (h0 : b ≠ 0) : Calls Tryz.prog 110 #[.int .u64 a, .int .u64 b] w fun e w' => e = .returned (.tuple #[.int .u64 ((a / b : Nat) : Int), .int .u64 ((a % b : Nat) : Int), .int .i64 0]) ∧ Below w.heap.size w w' := by
  have hb0 : ((b : Int) == 0) = false := by simp; omega
  have hb1 : (b : Int) ≠ 0 := by omega
  have hql : a / b < 18446744073709551616 := Nat.lt_of_le_of_lt (Nat.div_le_self _ _) ha
  have hq : IntKind.u64.wrap ((a : Int) / (b : Int)) = ((a / b : Nat) : Int) := by rw [← Int.natCast_ediv]; generalize a / b = q at hql; rw [IntKind.wrap_u64]; omega
  go_enter Tryz.func110, Tryz.ntmps110
  go_wp2_with fail
  go_region
  go_wp2_with fail
  go_ret3
  exact ⟨by simp, (Drawn.more 1).below _⟩
theorem divide_no (a : Nat) (w : World) : Calls Tryz.prog 110 #[.int .u64 a, .int .u64 0] w fun e w' => e = .returned (.tuple #[.int .u64 0, .int .u64 0, .int .i64 5]) ∧ Below w.heap.size w w' := by
  go_enter Tryz.func110, Tryz.ntmps110
  go_wp2_with fail
  go_ret3
  exact ⟨rfl, Below.refl _ _⟩
theorem tell1 (q : Nat) (w : World) : Calls Tryz.prog 111 #[.int .u64 q] w fun e w' => e = .returned (.tuple #[]) ∧ w = w' := by
  go_enter Tryz.func111, Tryz.ntmps111
  go_wp2_with fail
  go_end0
  exact ⟨rfl, rfl⟩
set_option maxHeartbeats 1000000 in
theorem steps1_plain (M N : Nat) (w : World) (hM : M < 18446744073709551616) (hN : N < 18446744073709551616) : Calls Tryz.prog 109 #[.int .u64 M, .int .u64 N, .func (.func 110) #[] #[], .func (.func 111) #[] #[]] w fun e w' => e = .returned (.int .u64 (Nat.gcd M N : Nat)) ∧ Below w.heap.size w w' := by
  go_enter Tryz.func109, Tryz.ntmps109
  go_wp2_with fail
  go_step3
  go_wp2_with fail
  go_step3
  go_wp2_with fail
  go_loopw [0, 1] (fun av bv wr => ∃ a b : Nat, av = .int .u64 a ∧ bv = .int .u64 b ∧ a < 18446744073709551616 ∧ b < 18446744073709551616 ∧ Nat.gcd a b = Nat.gcd M N ∧ Below w.heap.size w wr) (fun _ bv _ => (intOf bv).toNat)
  case atStart => exact ⟨M, N, rfl, rfl, hM, hN, rfl, Below.refl _ _⟩
  case round =>
    obtain ⟨a, b, rfl, rfl, ha, hb, hg, hB⟩ := hrel
    by_cases h0 : b = 0
    · subst h0
      rw [Nat.gcd_zero_right] at hg
      have HG := Lib.hid hg
      clear hg
      go_wp2_with fail
      refine (divide_no a wr).mono ?_
      rintro e w1 ⟨rfl, b1⟩
      have B1 := hB.trans (b1.mono hB.size)
      go_wp2_with fail
      rw [Exit.noGoto_ret]
      go_ret
      exact ⟨by rw [← HG.out]; rfl, B1⟩
    · have D := Lib.hid (divide_ok a b wr ha h0)
      have hqb : a / b < 18446744073709551616 := Nat.lt_of_le_of_lt (Nat.div_le_self _ _) ha
      have hrb := Nat.mod_lt a (Nat.pos_of_ne_zero h0)
      have hn : Nat.gcd b (a % b) = Nat.gcd M N := by rw [gcd_next, hg]
      generalize a / b = q at *
      generalize a % b = r at *
      have HN := Lib.hid hn
      clear hn hg h0
      go_wp2_with fail
      refine (D.out).mono ?_
      rintro e w1 ⟨rfl, b1⟩
      have B1 := hB.trans (b1.mono hB.size)
      go_wp2_with fail
      refine (tell1 q w1).mono ?_
      rintro e w2 ⟨rfl, rfl⟩
      go_wp2_with fail
      go_roundw
      case rel => exact ⟨b, r, rfl, rfl, hb, by omega, HN.out, B1⟩
      case measure => simp [intOf]; omega
/-- The three variables that leastWord's steps are told to. -/
structure Box1 (u : World) (L N S : Nat) (last next : Nat) (less : Bool) : Prop where
  last : Boxed u L 27 (.int .u64 (last : Int))
  next : Boxed u N 27 (.int .u64 (next : Int))
  less : Boxed u S 4 (.bool less)
theorem Box1.kept {u u' : World} {L N S last next : Nat} {less : Bool} (h : Box1 u L N S last next less) (hb : Below u.heap.size u u') : Box1 u' L N S last next less :=
  have hg : u.grownBy u' none := ⟨hb.os, hb.tape, hb.output, hb.size, fun i hi _ => hb.block i hi⟩
  ⟨h.last.kept hg (by simp), h.next.kept hg (by simp), h.less.kept hg (by simp)⟩
end Go.Proofs.YtjpfcdgaepdcdaaGreat

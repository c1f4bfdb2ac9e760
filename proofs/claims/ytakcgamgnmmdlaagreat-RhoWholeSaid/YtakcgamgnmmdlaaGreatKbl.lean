/- Several texts in one; each begins with a remark that says what it shows and on which conditions. -/
import Derived.Test.YtakcgamgnmmdlaaGreatKbk
import Derived.Test.YtakcgamgnmmdlaaGreatKad
import Derived.Test.YtakcgamgnmmdlaaGreatKay
import Derived.Test.YtakcgamgnmmdlaaGreatKbe
/- slices.Sort at []uint64, as callers use it: what stands there behind the call is what stood there, rising; no other block turns but new ones. Conditions: a row of the call's own, of fewer than 2^62 elements; or a slice of no elements. -/
namespace Go.Proofs.YtakcgamgnmmdlaaGreat
open Go.RowKit Go.Sort
set_option maxRecDepth 20000
set_option maxHeartbeats 4000000 in
theorem sort7 (blk off cap n : Nat) (d : Array Int) (w : World) (H : RowOf w blk off d) (hn : d.size = n) :
    Calls Tryz.prog 21 #[.slice (some ⟨blk, off, none⟩) n cap] w fun e w' => e = .returned (.tuple #[]) ∧ PdqDone w blk off d 0 n w' := by
  have hsz := H.fits
  rw [hn] at hsz
  obtain ⟨L, hL⟩ : ∃ L, Lib.bitLen n = L := ⟨_, rfl⟩
  have hLl : L ≤ 64 := by rw [← hL]; exact Lib.bitLen_le n 64 (by omega) (by omega)
  have HLn := Lib.hid (Tryz.bits_Len (n : Int) w (by omega) (by omega))
  rw [Int.toNat_natCast, hL] at HLn
  have HP := Lib.hid (pdq_all7 n blk off cap n 0 n L d w (by omega) H hn (Nat.zero_le _) (Nat.le_refl _) (by omega) (.inl rfl))
  clear H hn hL
  go_enter Tryz.func21, Tryz.ntmps21
  go_wp2_with fail
  refine (HLn.out).mono ?_
  rintro e w1 ⟨rfl, rfl⟩
  go_wp2_with fail
  refine (HP.out).mono ?_
  rintro e w2 ⟨rfl, hD⟩
  have HD := Lib.hid hD
  clear hD
  go_wp2_with fail
  go_end0
  exact ⟨rfl, HD.out⟩
set_option maxHeartbeats 4000000 in
theorem ins_none7 (A : Option Addr) (cap : Nat) (w : World) : Calls Tryz.prog 52 #[.slice A 0 cap, .int .i64 0, .int .i64 0] w fun e w' => e = .returned (.tuple #[]) ∧ w = w' := by
  go_enter Tryz.func52, Tryz.ntmps52
  go_wp2_with fail
  go_loopw [6] (fun vi wr => vi = .int .i64 1 ∧ w = wr) (fun _ _ => 0)
  case atStart => exact ⟨rfl, rfl⟩
  case round =>
    obtain ⟨rfl, rfl⟩ := hrel
    go_wp2_with fail
    go_end0
    exact ⟨rfl, rfl⟩
set_option maxHeartbeats 4000000 in
theorem pdq_none7 (A : Option Addr) (cap limit : Nat) (w : World) : Calls Tryz.prog 32 #[.slice A 0 cap, .int .i64 0, .int .i64 0, .int .i64 limit] w fun e w' => e = .returned (.tuple #[]) ∧ w = w' := by
  have HI := Lib.hid (ins_none7 A cap w)
  go_enter Tryz.func32, Tryz.ntmps32
  go_wp2_with fail
  go_loopw [1, 2] (fun va vb wr => va = .int .i64 0 ∧ vb = .int .i64 0 ∧ w = wr) (fun _ _ _ => 0)
  case atStart => exact ⟨rfl, rfl, rfl⟩
  case round =>
    obtain ⟨rfl, rfl, rfl⟩ := hrel
    go_wp2_with fail
    refine (HI.out).mono ?_
    rintro e w1 ⟨rfl, rfl⟩
    go_wp2_with fail
    refine bodyPost_ret (results_none rfl _ _ _) rfl ?_
    exact ⟨rfl, rfl⟩
set_option maxHeartbeats 4000000 in
theorem sort_none7 (A : Option Addr) (cap : Nat) (w : World) : Calls Tryz.prog 21 #[.slice A 0 cap] w fun e w' => e = .returned (.tuple #[]) ∧ w = w' := by
  have HLn := Lib.hid (Tryz.bits_Len 0 w (by omega) (by omega))
  have h0 : Lib.bitLen (0 : Int).toNat = 0 := by decide
  rw [h0] at HLn
  have HP := Lib.hid (pdq_none7 A cap 0 w)
  go_enter Tryz.func21, Tryz.ntmps21
  go_wp2_with fail
  refine (HLn.out).mono ?_
  rintro e w1 ⟨rfl, rfl⟩
  go_wp2_with fail
  refine (HP.out).mono ?_
  rintro e w2 ⟨rfl, rfl⟩
  go_wp2_with fail
  go_end0
  exact ⟨rfl, rfl⟩
/-! In the words of rows of numbers -/
theorem RowG.below {w wr : World} {blk off B : Nat} {d dk : Array Int} (h : RowG w blk off d wr dk) (hB : B ≤ blk) (hw : B ≤ w.heap.size) : Below B w wr := by
  obtain ⟨_, n, os, rfl⟩ := h
  have e1 : Below B w (putRow (Value.int .u64) (Sort.ahead w n) blk off dk) := by
    refine ⟨rfl, rfl, rfl, by simp, fun k hk => ?_⟩
    unfold putRow mapBlock
    simp only [Array.getElem?_modify]
    rw [if_neg (by omega)]
    rfl
  refine e1.trans ⟨rfl, rfl, rfl, by simp, fun k hk => heap_grow_old _ _ (by simp; omega)⟩
theorem RowG.block {w wr : World} {blk off : Nat} {d dk : Array Int} (h : RowG w blk off d wr dk) {k : Nat} (hk : k < w.heap.size) (hne : k ≠ blk) : wr.heap[k]? = w.heap[k]? := by
  obtain ⟨_, n, os, rfl⟩ := h
  rw [heap_grow_old _ _ (by simp; omega)]
  unfold putRow mapBlock
  simp only [Array.getElem?_modify]
  rw [if_neg (by omega)]
  rfl
theorem sorted_list7 {R : Array Int} {n : Nat} (hn : R.size = n) (hs : SortedIn ltInt 0 n R) : R.toList.Pairwise (· ≤ ·) := by
  rw [List.pairwise_iff_getElem]
  intro i j hi hj hij
  have hi' : i < R.size := by simpa using hi
  have hj' : j < R.size := by simpa using hj
  have h := hs i j (Nat.zero_le _) hij (by omega)
  rw [getElem!_pos _ j hj', getElem!_pos _ i hi'] at h
  simp only [ltInt, decide_eq_false_iff_not] at h
  simp only [Array.getElem_toList]
  omega
/-- slices.Sort of a row of the call's own. -/
theorem sortRow7 {w : World} {base : Nat} {A : Option Addr} {n c : Nat} {l : List Nat} (own : w.ownsRow base 22 1 (.slice A n c) n (ints .u64 l)) (hn : n < 4611686018427387904) (hb : base ≤ w.heap.size) :
    Calls Tryz.prog 21 #[.slice A n c] w fun e w' => e = .returned (.tuple #[]) ∧ ∃ l2 : List Nat, l2.Perm l ∧ l2.Pairwise (· ≤ ·) ∧ Rd .u64 w' w'.heap.size A l2 ∧ (∀ B, B ≤ base → Below B w w') ∧ ∀ k, k < w.heap.size → (∀ o, A = some o → k ≠ o.block) → w'.heap[k]? = w.heap[k]? := by
  have hl : l.length = n := by have := own.1; rw [length_ints] at this; omega
  rcases Nat.eq_zero_or_pos n with h0 | h0
  · subst h0
    obtain rfl : l = [] := List.eq_nil_of_length_eq_zero hl
    exact (sort_none7 A c w).mono fun e w' ⟨h1, h2⟩ => ⟨h1, [], List.Perm.refl _, List.Pairwise.nil, Rd.nil, fun B _ => by rw [← h2]; exact Below.refl _ _, fun k _ _ => by rw [← h2]⟩
  · rcases own.2 with ⟨_, h1⟩ | ⟨g, cap, cur, hv, hbg, hh, hnc, hcm, hcs, htake⟩
    · omega
    · injection hv with hA _ _
      subst hA
      have hcell : ∀ j, j < n → w.cell? ⟨g, j, none⟩ = some (.int .u64 (nth l j : Int)) := fun j hj => by
        rw [own.cellAt j (by omega), ints_get .u64 l j (by omega)]
      have H : RowOf w g 0 (l.map Int.ofNat).toArray := by
        refine ⟨fun j hj => ?_, (Array.getElem?_eq_some_iff.1 hh).1, by simp; omega⟩
        have hj' : j < n := by simpa [hl] using hj
        refine ⟨?_, ?_⟩
        · rw [Nat.zero_add, hcell j hj', getElem!_pos _ j hj]
          simp [nth, List.getD_eq_getElem?_getD, hl, hj']
        · simp [World.frozen?, hh]
      refine (sort7 g 0 c n (l.map Int.ofNat).toArray w H (by simp [hl])).mono fun e w' ⟨h1, R, hp, hs, hR⟩ => ?_
      have hRs : R.size = n := by rw [hR.1]; simp [hl]
      have hperm : R.toList.Perm (l.map Int.ofNat) := by
        have h := hp.2.2
        have e1 : R.extract 0 n = R := by rw [← hRs]; simp
        have e2 : ((l.map Int.ofNat).toArray).extract 0 n = (l.map Int.ofNat).toArray := by rw [show n = ((l.map Int.ofNat).toArray).size by simp [hl]]; simp [List.take_of_length_le]
        rw [e1, e2] at h
        simpa using h
      have hnn : ∀ x ∈ R.toList, 0 ≤ x := fun x hx => by
        have := hperm.mem_iff.1 hx
        simp only [List.mem_map] at this
        obtain ⟨y, _, rfl⟩ := this
        exact Int.natCast_nonneg y
      have hl2 : (R.toList.map Int.toNat).Perm l := by
        have h := hperm.map Int.toNat
        rw [List.map_map] at h
        have e : (Int.toNat ∘ Int.ofNat) = id := by funext x; rfl
        rw [e, List.map_id] at h
        exact h
      have hall := hR.of H
      refine ⟨h1, R.toList.map Int.toNat, hl2, ?_, fun _ => ⟨g, 0, rfl, hall.old, fun j hj => ?_⟩, fun B hB => hR.below (by omega) (by omega), fun k hk hne => hR.block hk (hne _ rfl)⟩
      · exact List.pairwise_map.2 ((sorted_list7 hRs hs).imp fun h => by omega)
      · have hj2 : j < R.size := by simpa using hj
        rw [(hall.holds j hj2).1, getElem!_pos _ j hj2]
        have h0 := hnn R[j] (by simp)
        have e : nth (R.toList.map Int.toNat) j = (R[j]).toNat := by simp [nth, List.getD_eq_getElem?_getD, hj2]
        rw [e, Int.toNat_of_nonneg h0]
end Go.Proofs.YtakcgamgnmmdlaaGreat
/- rho's Factors. Conditions: as typed (words; up to a thousand draws). -/
namespace Go.Proofs.YtakcgamgnmmdlaaGreat
open Go.RowKit
set_option maxRecDepth 20000
/-! What stands in the two lists -/
/-- What has been told, what waits, and what is in hand, multiplied, is the number. -/
structure FacMid (N : Nat) (ls us : List Nat) (k : Nat) : Prop where
  all : prodN ls * prodN us * k = N
  told : ∀ p ∈ ls, IsW p ∧ 2 ≤ p
  wait : ∀ u ∈ us, 2 ≤ u ∧ ¬ IsW u ∧ NoneBelow u 65536
/-- What may be put. -/
def MayPut (part : Nat) : Prop := part ≠ 1 → 2 ≤ part ∧ (¬ IsW part → NoneBelow part 65536)
theorem FacMid.put {N part k : Nat} {ls us ls' us' : List Nat} (h : FacMid N ls us (part * k)) (hm : MayPut part) (hp : PutIs part ls us ls' us') : FacMid N ls' us' k := by
  rcases hp with ⟨rfl, rfl, rfl⟩ | ⟨h1, h2, rfl, rfl⟩ | ⟨h1, h2, rfl, rfl⟩
  · exact ⟨by rw [← h.all, Nat.one_mul], h.told, h.wait⟩
  · refine ⟨by rw [← h.all, prodN_append, prodN_one]; simp only [Nat.mul_assoc, Nat.mul_left_comm, Nat.mul_comm], fun p hp => ?_, h.wait⟩
    rcases List.mem_append.1 hp with h3 | h3
    · exact h.told p h3
    · rw [List.mem_singleton.1 h3]; exact ⟨h2, (hm h1).1⟩
  · refine ⟨by rw [← h.all, prodN_append, prodN_one]; simp only [Nat.mul_assoc], h.told, fun u hu => ?_⟩
    rcases List.mem_append.1 hu with h3 | h3
    · exact h.wait u h3
    · rw [List.mem_singleton.1 h3]; exact ⟨(hm h1).1, h2, (hm h1).2 h2⟩
theorem FacMid.pos {N k : Nat} {ls us : List Nat} (h : FacMid N ls us k) (h0 : 0 < N) : 0 < prodN ls ∧ 0 < prodN us ∧ 0 < k := by
  have e := h.all
  refine ⟨?_, ?_, ?_⟩ <;> (apply Nat.pos_of_ne_zero; intro hz; rw [hz] at e; simp at e; omega)
theorem FacMid.few {N k : Nat} {ls us : List Nat} (h : FacMid N ls us k) (h0 : 0 < N) (hN : N < 18446744073709551616) : ls.length < 64 := by
  obtain ⟨h1, h2, h3⟩ := h.pos h0
  refine prodN_len (fun p hp => (h.told p hp).2) (Nat.lt_of_le_of_lt ?_ hN)
  rw [← h.all, Nat.mul_assoc]
  exact Nat.le_mul_of_pos_right _ (Nat.mul_pos h2 h3)
theorem FacMid.one {N k : Nat} {ls us : List Nat} (h : FacMid N ls us k) (h0 : 0 < N) (hN : N < 18446744073709551616) : us = [] ∨ ∃ u, us = [u] := by
  cases us with
  | nil => exact .inl rfl
  | cons u t =>
    cases t with
    | nil => exact .inr ⟨u, rfl⟩
    | cons v t =>
      exfalso
      have hu := h.wait u List.mem_cons_self
      have hv := h.wait v (List.mem_cons_of_mem _ List.mem_cons_self)
      have hg := two_great hu.2.2 hu.1 (fun hp => hu.2.1 (isW_prm hp)) hv.2.2 hv.1 (fun hp => hv.2.1 (isW_prm hp))
      obtain ⟨h1, h2, h3⟩ := h.pos h0
      have e := h.all
      rw [prodN_cons, prodN_cons] at e h2
      have ht : 0 < prodN t := by
        apply Nat.pos_of_ne_zero; intro hz; rw [hz] at h2; simp at h2
      have h4 : u * v ≤ prodN (u :: v :: t) := by
        rw [prodN_cons, prodN_cons, ← Nat.mul_assoc]; exact Nat.le_mul_of_pos_right _ ht
      have h5 : prodN (u :: v :: t) ≤ N := by
        rw [← h.all, Nat.mul_comm (prodN ls), Nat.mul_assoc]
        exact Nat.le_mul_of_pos_right _ (Nat.mul_pos h1 h3)
      omega
theorem FacMid.part {N k : Nat} {ls us : List Nat} (h : FacMid N ls us k) (h0 : 0 < N) : k ≤ N := Nat.le_of_dvd h0 (by rw [← h.all]; exact Nat.dvd_mul_left _ _)
theorem mayPut_trial {m : Nat} (h : IsTrial m 65535 0) (h0 : 0 < m) : MayPut m := fun h1 => ⟨by omega, fun hw d h2 h3 hz => by
  rcases h with ⟨_, h⟩ | ⟨h, _⟩
  · rcases Nat.lt_trichotomy d m with h4 | h4 | h4
    · exact h d h2 (by omega) (by omega) h4 hz
    · subst h4
      refine hw (isW_prm ⟨by omega, fun e he => ?_⟩)
      by_cases e1 : e = 1
      · exact .inl e1
      · rcases Nat.lt_or_ge e d with h5 | h5
        · exact absurd (Nat.mod_eq_zero_of_dvd he) (h e (by have := Nat.pos_of_dvd_of_pos he h0; omega) (by omega) (by omega) h5)
        · exact .inr (Nat.le_antisymm (Nat.le_of_dvd h0 he) h5)
    · rw [Nat.mod_eq_of_lt h4] at hz; omega
  · omega⟩
theorem mayPut_part {u d : Nat} (h : NoneBelow u 65536) (hd : d ∣ u) (hu : 0 < u) : MayPut d := fun h1 => ⟨by have := Nat.pos_of_dvd_of_pos hd hu; omega, fun _ => h.less hd⟩
theorem PutIs.mem {part : Nat} {ls us ls' us' : List Nat} (h : PutIs part ls us ls' us') : ∀ x ∈ us', x ∈ us ∨ x = part := fun x hx => by
  rcases h with ⟨_, _, rfl⟩ | ⟨_, _, _, rfl⟩ | ⟨_, _, _, rfl⟩
  · exact .inl hx
  · exact .inl hx
  · rcases List.mem_append.1 hx with h | h
    · exact .inl h
    · exact .inr (List.mem_singleton.1 h)
/-- How great what waits is. -/
def waitN (us : List Nat) : Nat := us.foldr (· + ·) 0
theorem waitN_lt {us : List Nat} {u : Nat} (h : us = [] ∨ ∃ x, us = [x]) (hx : ∀ x ∈ us, x < u) (hu : 0 < u) : waitN us < u := by
  rcases h with rfl | ⟨x, rfl⟩
  · exact hu
  · have := hx x List.mem_cons_self
    simpa [waitN] using this
theorem prodN_perm {l m : List Nat} (h : l.Perm m) : prodN l = prodN m := by
  induction h with
  | nil => rfl
  | cons a _ ih => rw [prodN_cons, prodN_cons, ih]
  | swap a b l => rw [prodN_cons, prodN_cons, prodN_cons, prodN_cons, Nat.mul_left_comm]
  | trans _ _ ih1 ih2 => exact ih1.trans ih2
theorem FacMid.tell {N rest er : Nat} {ls l2 : List Nat} (h : FacMid N ls [] rest) (hp : l2.Perm ls) (hr : l2.Pairwise (· ≤ ·)) (he : (er = 0 ∧ rest = 1) ∨ (er = 11 ∧ 1 < rest ∧ ¬ IsW rest ∧ NoneBelow rest 65536)) : Told10 IsW N l2 rest er where
  all := by have := h.all; rw [prodN_nil, Nat.mul_one] at this; rw [prodN_perm hp]; exact this
  tested := fun p hp2 => (h.told p (hp.mem_iff.1 hp2)).1
  great := fun p hp2 => (h.told p (hp.mem_iff.1 hp2)).2
  rise := hr
  ends := he
end Go.Proofs.YtakcgamgnmmdlaaGreat

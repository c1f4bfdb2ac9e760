/- Several texts in one; each begins with a remark that says what it shows and on which conditions. -/
import Derived.Test.YtakcgamgnmmdlaaGreatKbd
import Derived.WalkKit
import Derived.Lib.Hide
import Derived.Deep.Draws
import Derived.Sort.Grow
import Derived.Sort.AssemblyPlain
import Derived.Test.YtakcgamgnmmdlaaGreatProg
import Derived.Deep.QuietTactic
import Derived.CellFam
import Derived.BigGuard
import Derived.BigCall
import Derived.BigQuiet
/- The two lists that rho's Factors fills, in memory, and its function put. Conditions: as typed (words; no more than a thousand numbers in a list). -/
namespace Go.Proofs.YtakcgamgnmmdlaaGreat
open Go.RowKit
set_option maxRecDepth 20000
theorem boxed_set10 {w : World} {g t : Nat} {v : Value} (h : Boxed w g t v) (v' : Value) : Boxed (w.setCell ⟨g, 0, none⟩ v') g t v' := by
  show (w.heap.modify g _)[g]? = _
  rw [Array.getElem?_modify, if_pos rfl, show w.heap[g]? = _ from h]
  rfl
/-- A row of numbers is not a box of slices. -/
theorem own_box_ne10 {w : World} {base n g : Nat} {v u : Value} {xs : List Value} (h : w.ownsRow base 22 1 v n xs) (b : Boxed w g 28 u) : v.ownBlock ≠ some g := by
  rcases h.2 with ⟨rfl, _⟩ | ⟨k, cap, cur, rfl, _, hh, _⟩
  · simp [Value.ownBlock]
  · intro e
    simp only [Value.ownBlock, Option.some.injEq] at e
    subst e
    unfold Boxed at b
    rw [hh] at b
    injection b with b
    injection b with _ e2
    cases e2
theorem own_set10 {w : World} {base n g i : Nat} {v u : Value} {xs : List Value} (h : w.ownsRow base 22 1 v n xs) (hne : v.ownBlock ≠ some g) : (w.setCell ⟨g, i, none⟩ u).ownsRow base 22 1 v n xs :=
  h.kept (row := some g) ⟨rfl, rfl, rfl, by simp [World.setCell], fun k _ hk => Below.heap_setCell _ _ _ _ (fun e => hk (by rw [e]))⟩ (by
    cases hv : v.ownBlock with
    | none => exact .inl rfl
    | some k => exact .inr (by rw [← hv]; exact hne))
/-- The two lists: the boxes' blocks, what stands in them, the rows. -/
structure FacAt (w0 : World) (gL gU : Nat) (wr : World) (vL vU : Value) (ls us : List Nat) : Prop where
  bL : Boxed wr gL 28 vL
  bU : Boxed wr gU 28 vU
  oL : wr.ownsRow w0.heap.size 22 1 vL ls.length (ints .u64 ls)
  oU : wr.ownsRow w0.heap.size 22 1 vU us.length (ints .u64 us)
  apart : ∀ k, vL.ownBlock = some k → vU.ownBlock ≠ some k
  ne : gL ≠ gU
  lo : w0.heap.size ≤ gL ∧ w0.heap.size ≤ gU
  be : Below w0.heap.size w0 wr
section
variable {w0 wr w' : World} {gL gU : Nat} {vL vU : Value} {ls us : List Nat}
theorem FacAt.swap (P : FacAt w0 gL gU wr vL vU ls us) : FacAt w0 gU gL wr vU vL us ls :=
  ⟨P.bU, P.bL, P.oU, P.oL, fun k h1 h2 => P.apart k h2 h1, P.ne.symm, ⟨P.lo.2, P.lo.1⟩, P.be⟩
theorem FacAt.keep (P : FacAt w0 gL gU wr vL vU ls us) (b : Below wr.heap.size wr w') : FacAt w0 gL gU w' vL vU ls us :=
  ⟨(b.block gL P.bL.lt).trans P.bL, (b.block gU P.bU.lt).trans P.bU, own_keep10 P.oL b, own_keep10 P.oU b, P.apart, P.ne, P.lo, P.be.trans (b.mono P.be.size)⟩
/-- Behind an append to the first list, and its store. -/
theorem FacAt.put (P : FacAt w0 gL gU wr vL vU ls us) {w2 : World} {v' : Value} {ls' : List Nat} (o : w2.ownsRow w0.heap.size 22 1 v' ls'.length (ints .u64 ls')) (hg : wr.grownBy w2 vL.ownBlock) (hs : v'.ownBlock = vL.ownBlock ∨ ∃ g, v'.ownBlock = some g ∧ wr.heap.size ≤ g) :
    Boxed w2 gL 28 vL ∧ FacAt w0 gL gU (w2.setCell ⟨gL, 0, none⟩ v') v' vU ls' us := by
  have hL := own_box_ne10 P.oL P.bL
  have hU := own_box_ne10 P.oL P.bU
  have k1 : Boxed w2 gL 28 vL := (hg.block gL P.bL.lt (fun e => hL e.symm)).trans P.bL
  have k2 : Boxed w2 gU 28 vU := (hg.block gU P.bU.lt (fun e => hU e.symm)).trans P.bU
  have o2 : w2.ownsRow w0.heap.size 22 1 vU us.length (ints .u64 us) := P.oU.kept hg (by
    cases hv : vU.ownBlock with
    | none => exact .inl rfl
    | some k => exact .inr (fun e => P.apart k e.symm hv))
  refine ⟨k1, boxed_set10 k1 v', ?_, own_set10 o (own_box_ne10 o k1), own_set10 o2 (own_box_ne10 o2 k1), fun k h1 h2 => ?_, P.ne, P.lo, ?_⟩
  · exact (Below.heap_setCell _ _ _ _ (fun e => P.ne e.symm)).trans k2
  · rcases hs with h | ⟨g, h, hlt⟩
    · exact P.apart k (h ▸ h1) h2
    · rw [h1] at h
      injection h with h
      have := (P.oU.lt k h2).2
      omega
  · refine (P.be.grown hg P.be.size (fun k hk => (P.oL.lt k hk).1)).setCell P.lo.1 _
end
/-- What put makes of a number: nothing of 1; it goes to the first list if it passes, else to the other one. -/
def PutIs (part : Nat) (ls us ls' us' : List Nat) : Prop := (part = 1 ∧ ls' = ls ∧ us' = us) ∨ (part ≠ 1 ∧ IsW part ∧ ls' = ls ++ [part] ∧ us' = us) ∨ (part ≠ 1 ∧ ¬ IsW part ∧ ls' = ls ∧ us' = us ++ [part])
set_option maxHeartbeats 8000000 in
theorem put10 (w0 : World) (gL gU : Nat) (wr : World) (vL vU : Value) (ls us : List Nat) (P : FacAt w0 gL gU wr vL vU ls us) (part : Nat) (hp : part < 18446744073709551616) (hl : ls.length ≤ 1000) (hu : us.length ≤ 1000) :
    Calls Tryz.prog 20 #[.int .u64 part, .pointer (some ⟨gL, 0, none⟩), .pointer (some ⟨gU, 0, none⟩)] wr fun e w' => e = .returned (.tuple #[]) ∧ ∃ vL' vU' ls' us', FacAt w0 gL gU w' vL' vU' ls' us' ∧ PutIs part ls us ls' us' := by
  obtain ⟨i0, hi, hz0, hz1, hz2⟩ := info_parts num_info_u64
  have HP := Lib.hid P
  by_cases h1 : part = 1
  · have g1 : ((part : Int) == 1) = true := by simp; omega
    have H1 := Lib.hid h1
    clear h1 P
    go_enter Tryz.func20, Tryz.ntmps20
    go_wp2_with fail
    go_end0
    exact ⟨rfl, vL, vU, ls, us, HP.out, .inl ⟨H1.out, rfl, rfl⟩⟩
  · have g1 : ((part : Int) == 1) = false := by simp; omega
    have H1 := Lib.hid h1
    by_cases hW : IsW part
    · have HI := Lib.hid (is_word9 part hp true ⟨fun _ => hW, fun _ => rfl⟩ wr)
      have HW := Lib.hid hW
      clear h1 P hW
      go_enter Tryz.func20, Tryz.ntmps20
      go_wp2_with fail
      refine (HI.out).mono ?_
      rintro e w1 ⟨rfl, b1⟩
      have HP1 := Lib.hid (HP.out.keep b1)
      have k1 := HP1.out.bL.cell
      have own1 := HP1.out.oL
      have hsz := HP1.out.be.size
      have hle : (ls ++ [part]).length = ls.length + 1 := by simp
      clear b1
      go_wp2_with (at_builtin; refine wpList_append_sep10 _ rfl _ _ 28 rfl w0.heap.size 22 i0 (.int .u64 0) 8 Tryz.underlying28 hi hz0 hz1 hz2 rfl vL _ .u64 ls rfl own1 _ part rfl rfl (by unfold maxLen; omega) (by omega) hsz ?_)
      intro v2 w2 own2 hgr hsep
      rw [← hle] at own2
      obtain ⟨kb, hP2⟩ := HP1.out.put own2 hgr hsep
      obtain ⟨X2, c2, rfl, _, _⟩ := own_form own2
      have k2 := kb.cell
      have f2 := kb.frozen
      have HP2 := Lib.hid hP2
      clear own2 hgr hsep kb hP2 own1 k1
      go_wp2_with fail
      go_end0
      have HP3 := HP2.out
      rw [hle] at HP3
      exact ⟨rfl, _, vU, _, us, HP3, .inr (.inl ⟨H1.out, HW.out, rfl, rfl⟩)⟩
    · have HI := Lib.hid (is_word9 part hp false ⟨fun h => (Bool.false_ne_true h).elim, fun h => absurd h hW⟩ wr)
      have HW := Lib.hid hW
      clear h1 P hW
      go_enter Tryz.func20, Tryz.ntmps20
      go_wp2_with fail
      refine (HI.out).mono ?_
      rintro e w1 ⟨rfl, b1⟩
      have HP1 := Lib.hid (HP.out.keep b1).swap
      have k1 := HP1.out.bL.cell
      have own1 := HP1.out.oL
      have hsz := HP1.out.be.size
      have hle : (us ++ [part]).length = us.length + 1 := by simp
      clear b1
      go_wp2_with (at_builtin; refine wpList_append_sep10 _ rfl _ _ 28 rfl w0.heap.size 22 i0 (.int .u64 0) 8 Tryz.underlying28 hi hz0 hz1 hz2 rfl vU _ .u64 us rfl own1 _ part rfl rfl (by unfold maxLen; omega) (by omega) hsz ?_)
      intro v2 w2 own2 hgr hsep
      rw [← hle] at own2
      obtain ⟨kb, hP2⟩ := HP1.out.put own2 hgr hsep
      obtain ⟨X2, c2, rfl, _, _⟩ := own_form own2
      have k2 := kb.cell
      have f2 := kb.frozen
      have HP2 := Lib.hid hP2.swap
      clear own2 hgr hsep kb hP2 own1 k1
      go_wp2_with fail
      go_end0
      have HP3 := HP2.out
      rw [hle] at HP3
      exact ⟨rfl, vL, _, ls, _, HP3, .inr (.inr ⟨H1.out, HW.out, rfl, rfl⟩)⟩
end Go.Proofs.YtakcgamgnmmdlaaGreat
/- A row of words that a call sorts in place: the world behind draws, swaps and new blocks; steps of the plain sorting loops. Conditions: the row lies in a block that was there. No program is named. -/
namespace Go.Proofs.YtakcgamgnmmdlaaGreat
open Go.RowKit Go.Sort
/-- The row at blk, off holds dk in wr, which is w but for that row, draws and new blocks. -/
def RowG (w : World) (blk off : Nat) (d : Array Int) (wr : World) (dk : Array Int) : Prop := dk.size = d.size ∧ ∃ n os, wr = grow (putRow (Value.int .u64) (Sort.ahead w n) blk off dk) os
/-- Which row: its cells, none frozen, in a block that was there. -/
structure RowOf (w : World) (blk off : Nat) (d : Array Int) : Prop where
  holds : Holds (Value.int .u64) w blk off d
  old : blk < w.heap.size
  fits : d.size < 4611686018427387904
section
variable {w wr : World} {blk off : Nat} {d dk : Array Int}
theorem RowG.self (H : RowOf w blk off d) : RowG w blk off d w d := ⟨rfl, 0, #[], by rw [grow_empty, ahead_zero]; exact (putRow_self _ _ _ _ _ H.holds).symm⟩
theorem RowG.of (H : RowOf w blk off d) (h : RowG w blk off d wr dk) : RowOf wr blk off dk := by
  obtain ⟨hs, n, os, rfl⟩ := h
  refine ⟨holds_grow _ _ _ _ _ _ (by simpa using H.old) (holds_putRow _ _ _ _ d dk (holds_ahead _ _ _ _ _ _ H.holds) hs), ?_, by rw [hs]; exact H.fits⟩
  have := H.old
  simp
  omega
theorem RowG.size (h : RowG w blk off d wr dk) : w.heap.size ≤ wr.heap.size := by
  obtain ⟨_, n, os, rfl⟩ := h
  simp
/-- The cells under a name of their own. -/
theorem RowOf.cells (H : RowOf w blk off d) : ∃ G : Nat → Int, Hid (∀ t, G t = d[t]!) ∧ (∀ t, t < d.size → w.cell? ⟨blk, off + t, none⟩ = some (.int .u64 (G t))) ∧ (∀ t, t < d.size → w.frozen? ⟨blk, off + t, none⟩ = false) :=
  ⟨fun t => d[t]!, fun _ => rfl, fun t ht => (H.holds t ht).1, fun t ht => (H.holds t ht).2⟩
theorem RowOf.cellAt (H : RowOf w blk off d) {G : Nat → Int} (hG : Hid (∀ t, G t = d[t]!)) : ∀ t, t < d.size → w.cell? ⟨blk, off + t, none⟩ = some (.int .u64 (G t)) := fun t ht => by rw [hG.out]; exact (H.holds t ht).1
theorem RowOf.soft (H : RowOf w blk off d) : ∀ t, t < d.size → w.frozen? ⟨blk, off + t, none⟩ = false := fun t ht => (H.holds t ht).2
theorem name_cells (d : Array Int) : ∃ G : Nat → Int, Hid (∀ t, G t = d[t]!) := ⟨fun t => d[t]!, fun _ => rfl⟩
theorem RowG.drew (h : RowG w blk off d wr dk) (q : Nat) : RowG w blk off d (wr.drewN q) dk := by
  obtain ⟨hs, n, os, rfl⟩ := h
  refine ⟨hs, n + q, os, ?_⟩
  rw [← ahead_ahead]
  rfl
theorem RowG.set (H : RowOf w blk off d) (h : RowG w blk off d wr dk) (i : Nat) (x : Int) (hi : i < dk.size) : RowG w blk off d (wr.setCell ⟨blk, off + i, none⟩ (.int .u64 x)) (dk.setIfInBounds i x) := by
  obtain ⟨hs, n, os, rfl⟩ := h
  refine ⟨by simpa using hs, n, os, ?_⟩
  rw [setCell_eq, mapBlock_grow _ _ _ _ (by simpa using H.old), ← setCell_eq]
  exact congrArg (grow · os) (putRow_set (Value.int .u64) _ blk off dk i x hi)
/-- data[j], data[k] = data[k], data[j] -/
theorem RowG.swap (H : RowOf w blk off d) (h : RowG w blk off d wr dk) {G : Nat → Int} (hG : Hid (∀ t, G t = dk[t]!)) (q j k : Nat) (hj : j < dk.size) (hk : k < dk.size) :
    RowG w blk off d (((wr.drewN q).setCell ⟨blk, off + j, none⟩ (.int .u64 (G k))).setCell ⟨blk, off + k, none⟩ (.int .u64 (G j))) (swp dk j k) := by
  rw [hG.out, hG.out]
  exact RowG.set H (RowG.set H (h.drew q) j _ hj) k _ (by simpa using hk)
/-- .. as a walk writes it behind one draw. -/
theorem RowG.swapD (H : RowOf w blk off d) (h : RowG w blk off d wr dk) {G : Nat → Int} (hG : Hid (∀ t, G t = dk[t]!)) (j k : Nat) (hj : j < dk.size) (hk : k < dk.size) :
    RowG w blk off d ((wr.setCell ⟨blk, off + j, none⟩ (.int .u64 (G k))).setCell ⟨blk, off + k, none⟩ (.int .u64 (G j))).drew (swp dk j k) := by
  have := RowG.drew (RowG.swap H h hG 0 j k hj hk) 1
  exact this
theorem RowG.trans (H : RowOf w blk off d) (h : RowG w blk off d wr dk) {w2 : World} {d2 : Array Int} (k : RowG wr blk off dk w2 d2) : RowG w blk off d w2 d2 := by
  obtain ⟨hs, n, os, rfl⟩ := h
  obtain ⟨ks, m, os2, rfl⟩ := k
  exact ⟨ks.trans hs, n + m, os ++ os2, grow_step_grow _ _ _ _ _ _ _ _ _ _ H.old ks⟩
theorem RowG.alloc (h : RowG w blk off d wr dk) (o : Obj) : RowG w blk off d (wr.alloc o) dk := by
  obtain ⟨hs, n, os, rfl⟩ := h
  exact ⟨hs, n, os ++ #[o], by rw [alloc_eq_grow, grow_grow]⟩
/-- A store into a block that was not there. -/
theorem RowG.fresh (h : RowG w blk off d wr dk) {g : Nat} (hg : w.heap.size ≤ g) (i : Nat) (v : Value) : RowG w blk off d (wr.setCell ⟨g, i, none⟩ v) dk := by
  obtain ⟨hs, n, os, rfl⟩ := h
  refine ⟨hs, n, os.modify (g - (putRow (Value.int .u64) (Sort.ahead w n) blk off dk).heap.size) (onCells (·.setIfInBounds i v)), ?_⟩
  rw [setCell_eq]
  exact mapBlock_grow_new _ _ _ _ (by simpa using hg)
end
def intOf7 : Value → Int | .int _ q => q | _ => 0
section
variable {lt : Int → Int → Bool}
theorem insInner_go7 {a j : Nat} {d : Array Int} (hj : a < j) (hl : lt d[j]! d[j - 1]! = true) : insInner lt a j d = insInner lt a (j - 1) (swp d j (j - 1)) := by
  obtain ⟨k, rfl⟩ : ∃ k, j = k + 1 := ⟨j - 1, by omega⟩
  simp only [Nat.add_sub_cancel] at hl ⊢
  rw [insInner, if_pos]
  simp [hj, hl]
theorem insInner_stop7 {a j : Nat} {d : Array Int} (h : j ≤ a ∨ lt d[j]! d[j - 1]! = false) : insInner lt a j d = d := by
  cases j with
  | zero => rfl
  | succ k =>
    rw [insInner, if_neg]
    simp only [Nat.add_sub_cancel] at h
    rcases h with h | h
    · simp [show ¬ k + 1 > a by omega]
    · simp [h]
theorem insOuter_go7 {a b i : Nat} {d : Array Int} (h : i < b) : insOuter lt a b i d = insOuter lt a b (i + 1) (insInner lt a i d) := by rw [insOuter, if_pos h]
theorem insOuter_stop7 {a b i : Nat} {d : Array Int} (h : ¬ i < b) : insOuter lt a b i d = d := by rw [insOuter, if_neg h]
theorem scanUp_go7 {p : Int → Bool} {d : Array Int} {j i : Nat} (h : i ≤ j) (hp : p d[i]! = true) : scanUp p d j i = scanUp p d j (i + 1) := by rw [scanUp, if_pos (by simp [h, hp])]
theorem scanUp_stop7 {p : Int → Bool} {d : Array Int} {j i : Nat} (h : j < i ∨ p d[i]! = false) : scanUp p d j i = i := by
  rw [scanUp, if_neg]
  rcases h with h | h
  · simp; intro h2; omega
  · simp [h]
theorem scanDown_go7 {p : Int → Bool} {d : Array Int} {i m : Nat} (h : i ≤ m) (h0 : 0 < m) (hp : p d[m]! = true) : scanDown p d i m = scanDown p d i (m - 1) := by
  obtain ⟨k, rfl⟩ : ∃ k, m = k + 1 := ⟨m - 1, by omega⟩
  rw [scanDown, if_pos (by simp [h, hp]), Nat.add_sub_cancel]
theorem scanDown_stop7 {p : Int → Bool} {d : Array Int} {i m : Nat} (h : m < i ∨ p d[m]! = false) : scanDown p d i m = m := by
  cases m with
  | zero => rfl
  | succ k =>
    rw [scanDown, if_neg]
    rcases h with h | h
    · simp; intro h2; omega
    · simp [h]
theorem partLoop_end7 {a i j k m : Nat} {d : Array Int} (hU : scanUp (fun x => lt x d[a]!) d j i = k) (hD : scanDown (fun x => !lt x d[a]!) d k j = m) (h : m < k) : partLoop lt a i j d = (m, d) := by
  rw [partLoop_eq, hU, hD, if_pos h]
theorem partLoop_on7 {a i j k m : Nat} {d : Array Int} (hU : scanUp (fun x => lt x d[a]!) d j i = k) (hD : scanDown (fun x => !lt x d[a]!) d k j = m) (h : ¬ m < k) : partLoop lt a i j d = partLoop lt a (k + 1) (m - 1) (swp d k m) := by
  rw [partLoop_eq, hU, hD, if_neg h]
theorem partEqLoop_end7 {a i j k m : Nat} {d : Array Int} (hU : scanUp (fun x => !lt d[a]! x) d j i = k) (hD : scanDown (fun x => lt d[a]! x) d k j = m) (h : m < k) : partEqLoop lt a i j d = (k, d) := by
  rw [partEqLoop_eq, hU, hD, if_pos h]
theorem partEqLoop_on7 {a i j k m : Nat} {d : Array Int} (hU : scanUp (fun x => !lt d[a]! x) d j i = k) (hD : scanDown (fun x => lt d[a]! x) d k j = m) (h : ¬ m < k) : partEqLoop lt a i j d = partEqLoop lt a (k + 1) (m - 1) (swp d k m) := by
  rw [partEqLoop_eq, hU, hD, if_neg h]
end
end Go.Proofs.YtakcgamgnmmdlaaGreat
/- slices.Sort's parts at []uint64: cmp.Less, insertionSortOrdered. Conditions: the row lies in a block that was there, and has fewer than 2^62 elements. -/
namespace Go.Proofs.YtakcgamgnmmdlaaGreat
open Go.RowKit Go.Sort
set_option maxRecDepth 20000
set_option maxHeartbeats 1000000 in
theorem isNaN7 (x : Int) (w : World) : Calls Tryz.prog 83 #[.int .u64 x] w fun e w' => e = .returned (.bool false) ∧ w' = w := by
  go_enter Tryz.func83, Tryz.ntmps83
  go_wp2_with fail
  go_ret
  exact ⟨by simp, rfl⟩
set_option maxHeartbeats 1000000 in
theorem less7 (x y : Int) (w : World) : Calls Tryz.prog 58 #[.int .u64 x, .int .u64 y] w fun e w' => e = .returned (.bool (ltInt x y)) ∧ w' = w := by
  go_enter Tryz.func58, Tryz.ntmps58
  go_wp2_with (go_at_call 83; refine (isNaN7 _ _).mono ?_; rintro e w' ⟨rfl, rfl⟩)
  go_ret
  exact ⟨rfl, rfl⟩
set_option maxHeartbeats 8000000 in
theorem insertionSort7 (blk off cap n a b : Nat) (d : Array Int) (w : World) (H : RowOf w blk off d) (hn : d.size = n) (hab : a ≤ b) (hb : b ≤ n) :
    Calls Tryz.prog 52 #[.slice (some ⟨blk, off, none⟩) n cap, .int .i64 a, .int .i64 b] w fun e w' => e = .returned (.tuple #[]) ∧ RowG w blk off d w' (insertionSort ltInt d a b) := by
  subst hn
  have HH := Lib.hid H
  have hsz := H.fits
  clear H
  go_enter Tryz.func52, Tryz.ntmps52
  go_wp2_with fail
  go_loopw [6] (fun vi wr => ∃ (i : Nat) (dk : Array Int), vi = .int .i64 i ∧ a < i ∧ i ≤ b + 1 ∧ Hid (RowG w blk off d wr dk) ∧ Hid (insOuter ltInt a b i dk = insOuter ltInt a b (a + 1) d)) (fun vi _ => b + 1 - (intOf7 vi).toNat)
  case atStart => exact ⟨a + 1, d, by go_num, by omega, by omega, Lib.hid (RowG.self HH.out), Lib.hid rfl⟩
  case round =>
    obtain ⟨i, dk, rfl, hai, hib, HR, HO⟩ := hrel
    by_cases hlt : i < b
    · have hsk := HR.out.1
      go_wp2_with fail
      go_loopw [7] (fun vj wr2 => ∃ (j : Nat) (dj : Array Int), vj = .int .i64 j ∧ a ≤ j ∧ j ≤ i ∧ Hid (RowG w blk off d wr2 dj) ∧ Hid (insInner ltInt a j dj = insInner ltInt a i dk)) (fun vj _ => (intOf7 vj).toNat)
      case atStart => exact ⟨i, dk, rfl, by omega, Nat.le_refl _, HR, Lib.hid rfl⟩
      case round =>
        obtain ⟨j, dj, rfl, haj, hji, HR2, HI⟩ := hrel
        have hsj := HR2.out.1
        obtain ⟨G, HG, hcw, hfw⟩ := (HR2.out.of HH.out).cells
        rw [hsj] at hcw hfw
        have OUT := Lib.hid (show (j ≤ a ∨ ltInt dj[j]! dj[j - 1]! = false) → insOuter ltInt a b (i + 1) dj = insOuter ltInt a b (a + 1) d from fun hs => by
          rw [← HO.out, insOuter_go7 hlt, ← HI.out, insInner_stop7 hs])
        have IN := Lib.hid (show a < j → ltInt dj[j]! dj[j - 1]! = true → insInner ltInt a (j - 1) (swp dj j (j - 1)) = insInner ltInt a i dk from fun h1 h2 => by
          rw [← HI.out, insInner_go7 h1 h2])
        clear HI
        by_cases hja : a < j
        · go_wp2_with fail
          go_quiet ((go_at_call 58; refine Calls.quiet_of_same (less7 _ _ _)))
          go_wp2_with fail
          · have hl : ltInt (G j) (G (j - 1)) = true := by assumption
            go_region
            all_goals go_wp2_with fail
            go_roundw
            case rel => exact ⟨j - 1, swp dj j (j - 1), by congr 1; omega, by omega, by omega, Lib.hid (HR2.out.swap HH.out HG (nq + 1) j (j - 1) (by omega) (by omega)), Lib.hid (IN.out hja (by rw [← HG.out, ← HG.out]; exact hl))⟩
            case measure => simp [intOf7]; omega
          · have hl : ltInt (G j) (G (j - 1)) = false := by assumption
            go_roundw
            case rel => exact ⟨i + 1, dj, by go_num, by omega, by omega, Lib.hid (HR2.out.drew _), Lib.hid (OUT.out (Or.inr (by rw [← HG.out, ← HG.out]; exact hl)))⟩
            case measure => simp [intOf7]; omega
        · go_wp2_with fail
          go_quiet ((go_at_call 58; refine Calls.quiet_of_same (less7 _ _ _)))
          go_wp2_with fail
          go_roundw
          case rel => exact ⟨i + 1, dj, by go_num, by omega, by omega, Lib.hid (HR2.out.drew _), Lib.hid (OUT.out (Or.inl (by omega)))⟩
          case measure => simp [intOf7]; omega
    · go_wp2_with fail
      go_end0
      exact ⟨rfl, by unfold insertionSort; rw [← HO.out, insOuter_stop7 hlt]; exact HR.out⟩
end Go.Proofs.YtakcgamgnmmdlaaGreat

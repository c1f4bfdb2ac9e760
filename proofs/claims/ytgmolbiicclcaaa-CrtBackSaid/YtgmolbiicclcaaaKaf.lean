/- Several texts in one; each begins with a remark that says what it shows and on which conditions. -/
import Derived.Test.YtgmolbiicclcaaaKae
import Derived.IntWalk
/- nat.Cmp: which is the lesser number. Conditions: as typed (lengths that fit a machine). -/
namespace Go.Proofs.Ytgmolbiicclcaaa
open Go.RowKit Go.Shelf
set_option maxRecDepth 20000
attribute [local go_sem] Oper.semAt_some
/-- A piece that is left by its end alone. -/
theorem only_end {F : Fence} {n : Nat} {P : Program} {c : Code} {K : Act → World → Prop} {Q : Exit → Act → World → Prop} {a : Act} {w : World} (h : c.wpIn F n P (Exit.then K (fun _ _ _ => False)) a w) : c.wpIn F n P (Exit.then K Q) a w :=
  Go.wpIn_mono h fun e _ _ h => by cases e <;> first | exact h | exact h.elim
/-- Between two rounds: all words that came are the same. -/
structure SameSo {n : Nat} (w : World) (b : List Nat) (vb : Value) (pre : List (WI n)) (W : World) : Prop where
  all : ∀ p ∈ pre, p.1.2 = nth b p.1.1
  box : Boxed W w.heap.size 28 vb
  res : Boxed W (w.heap.size + 1) 3 (.int .i64 0)
  below : Below w.heap.size w W
/-- A round has found two words that differ. -/
structure Differs {n : Nat} (w : World) (b : List Nat) (cd : Code) (pre : List (WI n)) (W : World) : Prop where
  ret : cd = .ret
  at_ : ∃ ini last, pre = ini ++ [last] ∧ (∀ p ∈ ini, p.1.2 = nth b p.1.1) ∧ last.1.2 ≠ nth b last.1.1 ∧ Boxed W (w.heap.size + 1) 3 (.int .i64 (cmpS last.1.2 (nth b last.1.1)))
  below : Below w.heap.size w W
theorem SameSo.kept {n : Nat} {w W W' : World} {b : List Nat} {vb : Value} {pre : List (WI n)} {row : Option Nat} (h : SameSo w b vb pre W) (hg : W.grownBy W' row) (hr : ∀ r, row = some r → w.heap.size + 3 ≤ r) : SameSo w b vb pre W' :=
  ⟨h.all, h.box.kept hg (by intro e; have := hr _ e.symm; omega), h.res.kept hg (by intro e; have := hr _ e.symm; omega), h.below.grown hg h.below.size (fun k e => by have := hr k e; omega)⟩
theorem Differs.kept {n : Nat} {w W W' : World} {b : List Nat} {cd : Code} {pre : List (WI n)} {row : Option Nat} (h : Differs w b cd pre W) (hg : W.grownBy W' row) (hr : ∀ r, row = some r → w.heap.size + 3 ≤ r) : Differs w b cd pre W' := by
  obtain ⟨h1, ⟨ini, last, e1, e2, e3, e4⟩, h3⟩ := h
  exact ⟨h1, ⟨ini, last, e1, e2, e3, e4.kept hg (by intro e; have := hr _ e.symm; omega)⟩, h3.grown hg h3.size (fun k e => by have := hr k e; omega)⟩
theorem same_all (a b : List Nat) (ha : Words a) (hl : a.length = b.length) (h : ∀ p ∈ backs a ha a.length a.length, p.1.2 = nth b p.1.1) : natOf a = natOf b := by
  refine natOf_ext _ _ fun j => ?_
  rcases Nat.lt_or_ge j a.length with hj | hj
  · have := h _ (mem_backs a ha a.length a.length (a.length - 1 - j) (Nat.le_refl _) (by omega))
    simp only [backAt, show a.length - 1 - (a.length - 1 - j) = j by omega] at this
    exact this
  · rw [nth_past a j hj, nth_past b j (by omega)]
theorem differ_at (a b : List Nat) (ha : Words a) (hb : Words b) (hl : a.length = b.length) (k : Nat) (hk : k ≤ a.length) (ini : List (WI a.length)) (last : WI a.length) (e1 : backs a ha a.length k = ini ++ [last]) (e2 : ∀ p ∈ ini, p.1.2 = nth b p.1.1) (e3 : last.1.2 ≠ nth b last.1.1) :
    cmpS last.1.2 (nth b last.1.1) = cmpS (natOf a) (natOf b) := by
  rcases k with _ | k
  · simp [backs] at e1
  · have hk' : k < a.length := hk
    rw [backs_succ a ha a.length k hk'] at e1
    obtain ⟨rfl, e5⟩ := List.append_inj' e1 rfl
    obtain rfl : backAt a ha a.length k hk' = last := by simpa using e5
    refine cmp_at a b ha hb (a.length - 1 - k) (fun j hj => ?_) e3
    rcases Nat.lt_or_ge j a.length with hja | hja
    · have := e2 _ (mem_backs a ha a.length k (a.length - 1 - j) (by omega) (by omega))
      simp only [backAt, show a.length - 1 - (a.length - 1 - j) = j by omega] at this
      exact this
    · rw [nth_past a j hja, nth_past b j (by omega)]
set_option maxRecDepth 100000 in
set_option maxHeartbeats 2000000 in
theorem cmp_core (A A2 : Option Addr) (n0 n1 c c2 M N : Nat) (a b : List Nat) (hM : Hid (a = wd M)) (hN : Hid (b = wd N)) (ha : Words a) (hb : Words b) (hla : a.length ≤ 100000) (hlb : b.length ≤ 100000) (w : World) (hra : Rd .u64 w w.heap.size A a) (hrb : Rd .u64 w w.heap.size A2 b)
    (T1 : ∀ u, Below w.heap.size w u → Calls Try.prog 27 #[.slice A n0 c] u fun e w' => e = .returned (.slice A a.length c) ∧ u = w')
    (T2 : ∀ u, Below w.heap.size w u → Calls Try.prog 27 #[.slice A2 n1 c2] u fun e w' => e = .returned (.slice A2 b.length c2) ∧ u = w') :
    Calls Try.prog 20 #[.slice A n0 c, .slice A2 n1 c2] w fun e w' => e = .returned (.int .i64 (cmpS M N)) ∧ Below w.heap.size w w' := by
  have hB2 : Below w.heap.size w ((w.alloc (.cells #[.slice A2 n1 c2] 28)).alloc (.cells #[.int .i64 0] 3)) := ((Below.refl _ w).alloc (Nat.le_refl _) _).alloc (by simp) _
  have T1' := Lib.hid (T1 ((w.alloc (.cells #[.slice A2 n1 c2] 28)).alloc (.cells #[.int .i64 0] 3)).drew (hB2.trans ((Drawn.more 1).below _)))
  have T2' := Lib.hid (T2 ((w.alloc (.cells #[.slice A2 n1 c2] 28)).alloc (.cells #[.int .i64 0] 3)).drew (hB2.trans ((Drawn.more 1).below _)))
  have HB2 := Lib.hid hB2
  clear T1 T2 hB2
  refine (callsIn_wide (n := 9)).1 ?_
  refine callsIn_of_wp_marks Try.func20 rfl trivial ?_ rfl
  simp only [Try.ntmps20, List.size_toArray, List.length_cons, List.length_nil, Nat.reduceAdd, Nat.reduceSub, Array.replicate_succ, Array.replicate_zero, List.push_toArray, List.append_toArray, List.nil_append, List.cons_append]
  have hmx : Try.prog.follows .mixedOrders = true := by kernel_rfl
  gi_wp2
  refine only_end ?_
  gi_region_with_o (first
    | (refine ⟨trivial, ?_⟩; gi_at_call 27; (with_reducible refine (callsIn_wide.2 T1'.out).mono ?_); rintro e w' ⟨rfl, rfl⟩)
    | (refine ⟨trivial, ?_⟩; gi_at_call 27; (with_reducible refine (callsIn_wide.2 T2'.out).mono ?_); rintro e w' ⟨rfl, rfl⟩))
  all_goals
    obtain ⟨E, hE⟩ : ∃ E, ((w.alloc (.cells #[.slice A2 b.length c2] 28)).alloc (.cells #[.int .i64 0] 3)).drew = E := ⟨_, rfl⟩
    have bB : Boxed E w.heap.size 28 (.slice A2 b.length c2) := by rw [← hE]; exact (Boxed.new w 28 (.slice A2 b.length c2)).alloc _
    have bR : Boxed E (w.heap.size + 1) 3 (.int .i64 0) := by
      rw [← hE]
      have h := Boxed.new (w.alloc (.cells #[.slice A2 b.length c2] 28)) 3 (.int .i64 0)
      rw [World.size_alloc] at h
      exact h
    have hEB : Below w.heap.size w E := by rw [← hE]; exact (((Below.refl _ w).alloc (Nat.le_refl _) _).alloc (by simp) _).trans ((Drawn.more 1).below _)
    have hEs : E.heap.size = w.heap.size + 2 := by rw [← hE]; simp
    rw [hE]
    clear hE T1' T2' HB2
    have hbc := bB.cell
    have hbf := bB.frozen
    have hrc := bR.cell
    have hrf := bR.frozen
    have HEs := Lib.hid hEs
    clear hEs
    by_cases hlen : a.length = b.length
    · have hne : ((a.length : Int) != (b.length : Int)) = false := by simp; omega
      have HL := Lib.hid hlen
      clear hlen
      gi_wp2
      refine ⟨trivial, ?_⟩
      refine (back_in _ _ _ _ _).mono ?_
      rintro e w' ⟨rfl, rfl⟩
      have bA := Boxed.new E 28 (.slice A a.length c)
      rw [HEs.out] at bA
      obtain ⟨E2, hE2⟩ : ∃ E2, E.alloc (.cells #[.slice A a.length c] 28) = E2 := ⟨_, rfl⟩
      have bB2 := bB.alloc (.cells #[.slice A a.length c] 28)
      have bR2 := bR.alloc (.cells #[.slice A a.length c] 28)
      have hEB2 : Below w.heap.size w (E.alloc (.cells #[.slice A a.length c] 28)) := hEB.alloc hEB.size _
      have hs2 : (E.alloc (.cells #[.slice A a.length c] 28)).heap.size = w.heap.size + 3 := by rw [World.size_alloc, HEs.out]
      rw [hE2] at bA bB2 bR2 hEB2 hs2
      have HS2 := Lib.hid hs2
      clear hs2 hbc hbf hrc hrf bB bR hEB
      rw [HEs.out]
      gi_wp2
      clear hE2
      refine wpIn_rangeFunc_ownG rfl (by omega) (gf := 40) (lb := #[.pointer (some ⟨w.heap.size + 2, 0, none⟩)]) rfl trivial (enters_of Try.func40 (by kernel_rfl) rfl)
        (back_stops 8 (by omega) (w.heap.size + 2) (w.heap.size + 3) A a ha c (by omega) E2 bA (by omega) (by rw [HS2.out]; omega) ((hra.below hEB2).more (by omega)))
        belowK_t (belowK_b (by rw [HS2.out]; omega)) (Below.refl _ _) (fun _ => rfl)
        (fun pre W => SameSo w b (.slice A2 b.length c2) pre W)
        (fun cd pre W => Differs w b cd pre W)
        (fun s X Y row hs hg hr => hs.kept hg (fun r e => by have := (hr r e).1; rw [HS2.out] at this; omega))
        (fun cd s X Y row hs hg hr => hs.kept hg (fun r e => by have := (hr r e).1; rw [HS2.out] at this; omega))
        ⟨by simp, bB2, bR2, hEB2⟩
        (fun x => { tmps := #[.slice A a.length c, .slice A2 n1 c2, undef, .pointer (some ⟨w.heap.size, 0, none⟩), .pointer (some ⟨w.heap.size + 1, 0, none⟩), .int .i64 (x.1.1 : Int), .int .u64 (x.1.2 : Int), .slice A n0 c,
          .slice A a.length c, .slice A2 n1 c2, .slice A2 b.length c2, .slice A a.length c, .int .i64 (a.length : Int), .slice A2 b.length c2, .int .i64 (b.length : Int), .bool false, undef, undef, undef, undef, undef, .slice A a.length c,
          .func (.func 40) #[] #[.pointer (some ⟨w.heap.size + 2, 0, none⟩)], .int .i64 (x.1.1 : Int), .int .u64 (x.1.2 : Int), undef, undef, undef, undef, undef, undef, undef, undef, undef, undef, undef, undef], defers := [] }) ?assign ?body ?done ?stop
      case assign =>
        intro l x W K hK
        gi_wp2
        exact hK
      case body =>
        rintro l pre x W hI hlt
        have hi2 : x.1.1 < b.length := by rw [← HL.out]; exact x.2.1
        have hoc := hI.box.cell
        have hrc := hI.res.cell
        have hrf := hI.res.frozen
        obtain ⟨bb, off, rfl, hbb, hcell⟩ := hrb.below hI.below (by omega)
        have hx := hcell x.1.1 hi2
        clear hcell hlt
        by_cases heq : x.1.2 = nth b x.1.1
        · have hne2 : ((x.1.2 : Int) != (nth b x.1.1 : Int)) = false := by simp; omega
          have HQ := Lib.hid heq
          clear heq
          gi_wp2
          exact ⟨KeepsFrom.refl _ _, Below.refl _ _, fun p hp => (List.mem_append.1 hp).elim (hI.all p) (fun e => by simp at e; subst e; exact HQ.out), hI.box, hI.res, hI.below⟩
        · have hne2 : ((x.1.2 : Int) != (nth b x.1.1 : Int)) = true := by simp; omega
          have HQ := Lib.hid heq
          clear heq
          gi_wp2
          refine ⟨trivial, ?_⟩
          refine (CallsIn.inRound l (callsIn_wide.2 (compare_u64 _ _ _))).mono ?_
          rintro e w' ⟨rfl, rfl⟩
          gi_wp2
          exact ⟨(KeepsOthers.setCell _ _ _).from _, rfl, ⟨pre, x, rfl, hI.all, HQ.out, hI.res.set _⟩, hI.below.setCell (p := ⟨w.heap.size + 1, 0, none⟩) (by simp) _⟩
      case done =>
        rintro D ys W hD hys hI hK
        have hval := Lib.hid (show (0 : Int) = cmpS M N by
          have h := hI.all
          rw [hys] at h
          have h2 := same_all a b ha HL.out h
          rw [hM.out, hN.out, natOf_wd, natOf_wd] at h2
          rw [h2]
          simp [cmpS])
        have hrc := hI.res.cell
        have hrf := hI.res.frozen
        have HK := Lib.hid hK
        have HI := Lib.hid hI
        clear hys hK hI
        gi_wp2
        have hc1 := HI.out.res.set (.int .i64 0)
        have hK' := (KeepsOthers.setCell W ⟨w.heap.size + 1, 0, none⟩ (.int .i64 0)).same D _ HK.out rfl
        refine ⟨by simp, .inl ⟨_, _, rfl, run_takeDeferred hK', ?_⟩⟩
        have hc5 := cell_kept hc1.cell (grownBy_putObj' _ D (.deferred none)) (fun r e => by cases e; exact ⟨_, hK', rfl⟩)
        have hDs : w.heap.size ≤ D := by have := HS2.out; omega
        exact ⟨.int .i64 0, by simp [results, Try.f20, go_sem, hc5], by rw [← hval.out], (HI.out.below.setCell (p := ⟨w.heap.size + 1, 0, none⟩) (by simp) _).trans (belowK_b (w := w) (Nat.le_refl _) _ D _ _ hDs hK' rfl rfl)⟩
      case stop =>
        rintro D cd pre W hD ⟨k, hk, rfl⟩ hI hK
        obtain ⟨rfl, ⟨ini, last, e1, e2, e3, e4⟩, hB⟩ := hI
        have hval := Lib.hid (show cmpS last.1.2 (nth b last.1.1) = cmpS M N by
          rw [differ_at a b ha hb HL.out k hk ini last e1 e2 e3, hM.out, hN.out, natOf_wd, natOf_wd])
        have E4 := Lib.hid e4
        have HK := Lib.hid hK
        clear e1 e2 e3 e4 hK
        gi_wp2
        refine ⟨by simp, .inl ⟨_, _, rfl, run_takeDeferred HK.out, ?_⟩⟩
        have hc5 := cell_kept E4.out.cell (grownBy_putObj' _ D (.deferred none)) (fun r e => by cases e; exact ⟨_, HK.out, rfl⟩)
        have hDs : w.heap.size ≤ D := by have := HS2.out; omega
        exact ⟨_, by simp [results, Try.f20, go_sem, hc5]; rfl, by rw [← hval.out], hB.trans (belowK_b (w := w) (Nat.le_refl _) W D _ _ hDs HK.out rfl rfl)⟩
    · have hne : ((a.length : Int) != (b.length : Int)) = true := by simp; omega
      have hcm := Lib.hid (show cmpS a.length b.length = cmpS M N by have h := hlen; rw [hM.out, hN.out] at h ⊢; exact cmp_len M N h)
      clear hlen
      gi_wp2
      refine ⟨trivial, ?_⟩
      refine (callsIn_wide.2 (compare_int _ _ _)).mono ?_
      rintro e w' ⟨rfl, rfl⟩
      gi_wp2
      have hc5 := (bR.set (.int .i64 (cmpS a.length b.length))).cell
      exact ⟨.int .i64 (cmpS a.length b.length), by simp [results, Try.f20, go_sem, hc5], by rw [hcm.out], hEB.setCell (p := ⟨w.heap.size + 1, 0, none⟩) (by simp) _⟩
theorem cmp_pf (A A2 : Option Addr) (c c2 : Nat) (a b : List Nat) (w : World) (hr : Rd .u64 w w.heap.size A a) (hw : Words a) (hl : a.length ≤ 100000) (hc : a.length ≤ c) (hr2 : Rd .u64 w w.heap.size A2 b) (hw2 : Words b) (hl2 : b.length ≤ 100000) (hc2 : b.length ≤ c2) :
    Calls Try.prog 20 #[.slice A a.length c, .slice A2 b.length c2] w fun e w' => e = .returned (.int .i64 (cmpS (natOf a) (natOf b))) ∧ Below w.heap.size w w' := by
  obtain ⟨_, r1, l1, _⟩ := trimmed_wd A c a w hr hw hl hc
  obtain ⟨_, r2, l2, _⟩ := trimmed_wd A2 c2 b w hr2 hw2 hl2 hc2
  exact cmp_core A A2 a.length b.length c c2 (natOf a) (natOf b) (wd (natOf a)) (wd (natOf b)) (Lib.hid rfl) (Lib.hid rfl) (wd_words _) (wd_words _) l1 l2 w r1 r2
    (fun u hu => (trimmed_wd A c a u ((hr.below hu).more hu.size) hw hl hc).1) (fun u hu => (trimmed_wd A2 c2 b u ((hr2.below hu).more hu.size) hw2 hl2 hc2).1)
end Go.Proofs.Ytgmolbiicclcaaa
/- nat.shifted, nat.shift: numbers that are shifted, in new memory. Conditions: as typed (lengths that fit a machine). -/
namespace Go.Proofs.Ytgmolbiicclcaaa
open Go.RowKit
set_option maxRecDepth 20000
/-- What Go's quotients come to at a shift. -/
theorem shift_nums (k : Int) : ∃ (t q : Int) (r : Nat), r < 64 ∧ k = 64 * q + r ∧ k.tmod 64 = t ∧ -63 ≤ t ∧ t ≤ 63 ∧ (t + 64) % 64 = (r : Int) ∧ (k - r).tdiv 64 = q := by
  have h1 := Int.tmod_add_mul_tdiv k 64
  have h0 : -63 ≤ k.tmod 64 ∧ k.tmod 64 ≤ 63 := by
    rcases Int.le_total 0 k with h | h
    · rw [Int.tmod_eq_emod_of_nonneg h]; omega
    · have e : k.tmod 64 = -((-k).tmod 64) := by rw [Int.neg_tmod]; omega
      rw [e, Int.tmod_eq_emod_of_nonneg (by omega)]; omega
  refine ⟨k.tmod 64, k / 64, (k % 64).toNat, by omega, by omega, rfl, h0.1, h0.2, ?_, ?_⟩
  · omega
  · rw [show k - ((k % 64).toNat : Int) = 64 * (k / 64) by omega, Int.mul_tdiv_cancel_left _ (by omega)]
set_option maxHeartbeats 400000 in
theorem shifted_any (A : Option Addr) (na c : Nat) (k q : Int) (r : Nat) (w : World) (hk0 : -1000000 ≤ k) (hk1 : k ≤ 1000000) (t : Int) (_hr : r < 64) (h1 : k.tmod 64 = t) (h2 : -63 ≤ t) (h3 : t ≤ 63) (h4 : (t + 64) % 64 = (r : Int)) (h5 : (k - r).tdiv 64 = q) (hq0 : -20000 ≤ q) (hq1 : q ≤ 20000) :
    Calls Try.prog 72 #[.slice A na c, .int .i64 k] w fun e w' =>
      e = .returned (.func (.func 73) #[] #[.pointer (some ⟨w.heap.size + 2, 0, none⟩), .pointer (some ⟨w.heap.size, 0, none⟩), .pointer (some ⟨w.heap.size + 1, 0, none⟩)]) ∧
      ((w.alloc (.cells #[.slice A na c] 28)).alloc (.cells #[.int .i64 r] 3)).alloc (.cells #[.int .i64 q] 3) = w' := by
  go_enter Try.func72, Try.ntmps72
  go_wp2
  go_ret
  exact ⟨rfl, rfl⟩
theorem wrap_u64 (x : Int) : IntKind.u64.wrap x = x % 18446744073709551616 := by simp [IntKind.wrap, IntKind.signed, IntKind.bits]
/-- The word at a place after a shift. -/
def shS (a : List Nat) (j : Int) (r : Nat) : Nat := (wordS a j * 2 ^ r % 18446744073709551616) ||| (wordS a (j - 1) / 2 ^ (64 - r))
theorem shS_int (a : List Nat) (ha : Words a) (j : Int) (r : Nat) (_ : r < 64) : bits .or .u64 ((wordS a j : Int) * 2 ^ r % 18446744073709551616) ((wordS a (j - 1) : Int) / 2 ^ (64 - r)) = ((shS a j r : Nat) : Int) := by
  have h1 := wordS_lt a ha (j - 1)
  have e1 : (wordS a j : Int) * 2 ^ r % 18446744073709551616 = ((wordS a j * 2 ^ r % 18446744073709551616 : Nat) : Int) := by simp
  have e2 : (wordS a (j - 1) : Int) / 2 ^ (64 - r) = ((wordS a (j - 1) / 2 ^ (64 - r) : Nat) : Int) := by simp
  rw [e1, e2]
  exact u64_or_nat _ _ (Nat.mod_lt _ (by omega)) (Nat.lt_of_le_of_lt (Nat.div_le_self _ _) h1)
set_option maxHeartbeats 1000000 in
theorem shifted1_any (A : Option Addr) (a : List Nat) (ha : Words a) (c pw pa pr i r : Nat) (q j : Int) (w : World) (B : Nat) (hrd : Rd .u64 w B A a) (hl : a.length ≤ 1000000) (hr : r < 64) (hi : i ≤ 1000000) (hq0 : -20000 ≤ q) (hq1 : q ≤ 20000) (hj : (i : Int) - q = j)
    (cw : w.cell? ⟨pw, 0, none⟩ = some (.int .i64 q)) (ca : w.cell? ⟨pa, 0, none⟩ = some (.slice A a.length c)) (cr : w.cell? ⟨pr, 0, none⟩ = some (.int .i64 (r : Int))) :
    Calls Try.prog 73 #[.int .i64 (i : Int), .pointer (some ⟨pw, 0, none⟩), .pointer (some ⟨pa, 0, none⟩), .pointer (some ⟨pr, 0, none⟩)] w fun e w' => e = .returned (.int .u64 (shS a j r : Nat)) ∧ Drawn w w' := by
  have hj0 : -2000000 ≤ j := by omega
  have hj1 : j ≤ 2000000 := by omega
  have s1 : IntKind.i64.wrap (j - 1) = j - 1 := IntWalk.i64_in _ (by omega)
  have s2 : IntKind.i64.wrap (64 - (r : Int)) = 64 - (r : Int) := IntWalk.i64_in _ (by omega)
  have s3 : 0 ≤ 64 - (r : Int) := by omega
  have hv := Lib.hid (shS_int a ha j r hr)
  go_enter Try.func73, Try.ntmps73
  go_wp2
  go_quiet ((go_at_call 56; exact Calls.quiet_of_same (Calls.mono (word_any _ _ _ _ _ B hrd hl) fun _ _ ⟨he, hw⟩ => ⟨he, hw.symm⟩)))
  go_wp2
  go_ret
  exact ⟨ret_num (by rw [← hv.out, wrap_u64]), Drawn.more _⟩
/-- The lowest i words, and noughts behind them. -/
def wsAt (N K i : Nat) : List Nat := words i N ++ List.replicate (K - i) 0
theorem length_wsAt (N K i : Nat) (h : i ≤ K) : (wsAt N K i).length = K := by simp [wsAt, length_words]; omega
theorem wsAt_zero (N K : Nat) : wsAt N K 0 = List.replicate K 0 := by simp [wsAt, words]
theorem wsAt_end (N K : Nat) : wsAt N K K = words K N := by simp [wsAt]
theorem wsAt_set (N K i : Nat) (h : i < K) : (wsAt N K i).set i (N / 18446744073709551616 ^ i % 18446744073709551616) = wsAt N K (i + 1) := by
  unfold wsAt
  rw [List.set_append_right _ _ (by rw [length_words]; exact Nat.le_refl _), length_words, Nat.sub_self, words_snoc, List.append_assoc]
  congr 1
  obtain ⟨d, hd⟩ : ∃ d, K - i = d + 1 := ⟨K - i - 1, by omega⟩
  rw [hd, show K - (i + 1) = d by omega, List.replicate_succ]
  rfl
theorem make_row (m : Nat) (u : World) (hm : m ≤ 1000000) : (Instr.makeSlice 28 (.int .i64 (m : Int)) (.int .i64 (m : Int))).run Try.prog u =
      .ok (.slice (some ⟨u.heap.size, 0, none⟩) m m) (u.alloc (.cells (List.replicate m (Value.int .u64 0)).toArray 24)) := by
  obtain ⟨i0, hi, hz0, hz1, hz2⟩ := info_parts num_info_u64
  have h := run_make (P := Try.prog) u 28 24 i0 (.int .u64 0) Try.underlying28 hi hz0 .i64 .i64 (m : Int) (m : Int) (by omega) (by omega) (by rw [hz2]; omega) (by omega)
  rw [Int.toNat_natCast, hz1, Nat.mul_one] at h
  rw [h, ← toList_madeCells_one]
  rfl
theorem row_new (w : World) (m : Nat) (hm : m ≤ 1000000) (N : Nat) : (w.alloc (.cells (Array.replicate m (Value.int .u64 0)) 24)).ownsRow w.heap.size 24 1 (.slice (some ⟨w.heap.size, 0, none⟩) m m) m (ints .u64 (wsAt N m 0)) := by
  rw [wsAt_zero]
  exact own_of_heap (cur := List.replicate m (Value.int .u64 0)) (by have h := heap_alloc_new w (.cells (Array.replicate m (Value.int .u64 0)) 24); simpa using h) (Nat.le_refl _) (Nat.le_refl _) (by unfold maxLen; omega) (by simp) (by simp [ints])
set_option maxHeartbeats 1000000 in
theorem shift_core (A : Option Addr) (a : List Nat) (ha : Words a) (c : Nat) (k q t : Int) (r nb N K : Nat) (w : World) (hrd : Rd .u64 w w.heap.size A a) (hl : a.length ≤ 100000) (hc : a.length ≤ c) (hk0 : -100000 ≤ k) (hk1 : k ≤ 100000)
    (hr : r < 64) (h1 : k.tmod 64 = t) (h2 : -63 ≤ t) (h3 : t ≤ 63) (h4 : (t + 64) % 64 = (r : Int)) (h5 : (k - r).tdiv 64 = q) (hq0 : -20000 ≤ q) (hq1 : q ≤ 20000)
    (hz : natOf a ≠ 0) (hnb : (nbits (natOf a) : Int) + k = (nb : Int)) (hnb0 : 0 < nb) (hN : nbits N = nb) (hK : (nb + 64 - 1) / 64 = K) (hw : ∀ i : Nat, shS a ((i : Int) - q) r = N / 18446744073709551616 ^ i % 18446744073709551616) :
    Calls Try.prog 70 #[.slice A a.length c, .int .i64 k] w (OutNat N w) := by
  have hsz := nbits_natOf a ha
  have hz2 : 0 < nbits (natOf a) := by
    rcases Nat.eq_zero_or_pos (nbits (natOf a)) with h | h
    · have := nbits_lt (natOf a); rw [h] at this; simp at this; omega
    · exact h
  have hK2 : K ≤ 200000 := by omega
  have Q := Lib.hid (bits_q A c a w w.heap.size hrd ha (by omega) hc)
  have P := parts_any nb 64 w (by omega) (by omega) (by omega)
  rw [hK] at P
  have HP := Lib.hid P
  have hmk := fun u => make_row K u (by omega)
  have SH := fun u => shifted_any A a.length c k q r u (by omega) (by omega) t hr h1 h2 h3 h4 h5 hq0 hq1
  have HSH := Lib.hid SH
  have HN := Lib.hid hN
  have HK := Lib.hid hK
  have HW := Lib.hid hw
  have hb0 : ((nbits (natOf a) : Int) == 0) = false := by simp; omega
  have hb1 : ¬ (nb : Int) ≤ 0 := by omega
  have hb2 : decide (nb = 0) = false := by simp; omega
  clear P SH hw h1 h4 h5 hN hK
  go_enter Try.func70, Try.ntmps70
  go_wp2_with fail
  refine (Q.out).mono ?_
  rintro e w' ⟨rfl, rfl⟩
  go_wp2_with fail
  refine (HP.out).mono ?_
  rintro e w' ⟨rfl, rfl⟩
  go_wp2_with fail
  refine (HSH.out _).mono ?_
  rintro e w' ⟨rfl, rfl⟩
  have hown0 := row_new w K (by omega) N
  obtain ⟨E, hE⟩ : ∃ E, (((w.alloc (.cells (Array.replicate K (Value.int .u64 0)) 24)).alloc (.cells #[.slice A a.length c] 28)).alloc (.cells #[.int .i64 (r : Int)] 3)).alloc (.cells #[.int .i64 q] 3) = E := ⟨_, rfl⟩
  have hbE : Below w.heap.size w E := by rw [← hE]; exact ((((Below.refl _ w).alloc (Nat.le_refl _) _).alloc (by simp) _).alloc (by simp; omega) _).alloc (by simp; omega) _
  have hownE : E.ownsRow w.heap.size 24 1 (.slice (some ⟨w.heap.size, 0, none⟩) K K) K (ints .u64 (wsAt N K 0)) := by rw [← hE]; exact ((hown0.alloc _).alloc _).alloc _
  have hEs : E.heap.size = w.heap.size + 4 := by rw [← hE]; simp
  have bxA : Boxed E (w.heap.size + 1) 28 (.slice A a.length c) := by
    rw [← hE]
    have h := Boxed.new (w.alloc (.cells (Array.replicate K (Value.int .u64 0)) 24)) 28 (.slice A a.length c)
    rw [World.size_alloc] at h
    exact (h.alloc _).alloc _
  have bxR : Boxed E (w.heap.size + 1 + 1) 3 (.int .i64 (r : Int)) := by
    rw [← hE]
    have h := Boxed.new ((w.alloc (.cells (Array.replicate K (Value.int .u64 0)) 24)).alloc (.cells #[.slice A a.length c] 28)) 3 (.int .i64 (r : Int))
    rw [World.size_alloc, World.size_alloc] at h
    exact h.alloc _
  have bxQ : Boxed E (w.heap.size + 1 + 2) 3 (.int .i64 q) := by
    rw [← hE]
    have h := Boxed.new (((w.alloc (.cells (Array.replicate K (Value.int .u64 0)) 24)).alloc (.cells #[.slice A a.length c] 28)).alloc (.cells #[.int .i64 (r : Int)] 3)) 3 (.int .i64 q)
    rw [World.size_alloc, World.size_alloc, World.size_alloc] at h
    exact h
  have HS := Lib.hid hEs
  clear hown0 hmk hEs
  go_wp2_with fail
  clear hE
  go_loopw [29] (fun j wr => ∃ i : Nat, i ≤ K ∧ j = .int .i64 i ∧ wr.ownsRow w.heap.size 24 1 (.slice (some ⟨w.heap.size, 0, none⟩) K K) K (ints .u64 (wsAt N K i)) ∧ Boxed wr (w.heap.size + 1) 28 (.slice A a.length c) ∧ Boxed wr (w.heap.size + 1 + 1) 3 (.int .i64 (r : Int)) ∧ Boxed wr (w.heap.size + 1 + 2) 3 (.int .i64 q) ∧ Below w.heap.size w wr) (fun j _ => K - (intOf j).toNat)
  case atStart => exact ⟨0, Nat.zero_le _, rfl, hownE, bxA, bxR, bxQ, hbE⟩
  case round =>
    obtain ⟨i, hi, rfl, hown, bA, bR, bQ, hb⟩ := hrel
    by_cases hlt : i < K
    · obtain ⟨jj, hjj⟩ : ∃ jj : Int, (i : Int) - q = jj := ⟨_, rfl⟩
      have S1 := shifted1_any A a ha c (w.heap.size + 1 + 2) (w.heap.size + 1) (w.heap.size + 1 + 1) i r q jj wr w.heap.size (hrd.below hb) (by omega) hr (by omega) hq0 hq1 hjj bQ.cell bA.cell bR.cell
      have hv := HW.out i
      rw [hjj] at hv
      rw [hv] at S1
      have HS1 := Lib.hid S1
      have hst := hown.stored i (.int .u64 ((N / 18446744073709551616 ^ i % 18446744073709551616 : Nat) : Int))
      rw [ints_set, wsAt_set N K i hlt] at hst
      have g1 := hst.2
      have hcell : wr.cell? ⟨w.heap.size, i, none⟩ = some (.int .u64 (nth (wsAt N K i) i : Int)) := by rw [hown.cellAt _ (by omega), ints_get _ _ _ (by rw [length_wsAt _ _ _ (by omega)]; exact hlt)]
      have hfz : wr.frozen? ⟨w.heap.size, i, none⟩ = false := hown.frozenAt _
      have HR := Lib.hid (show (wr.setCell ⟨w.heap.size, i, none⟩ (.int .u64 ((N / 18446744073709551616 ^ i % 18446744073709551616 : Nat) : Int))).ownsRow w.heap.size 24 1 (.slice (some ⟨w.heap.size, 0, none⟩) K K) K (ints .u64 (wsAt N K (i + 1))) ∧
        Boxed (wr.setCell ⟨w.heap.size, i, none⟩ (.int .u64 ((N / 18446744073709551616 ^ i % 18446744073709551616 : Nat) : Int))) (w.heap.size + 1) 28 (.slice A a.length c) ∧ Boxed (wr.setCell ⟨w.heap.size, i, none⟩ (.int .u64 ((N / 18446744073709551616 ^ i % 18446744073709551616 : Nat) : Int))) (w.heap.size + 1 + 1) 3 (.int .i64 (r : Int)) ∧
        Boxed (wr.setCell ⟨w.heap.size, i, none⟩ (.int .u64 ((N / 18446744073709551616 ^ i % 18446744073709551616 : Nat) : Int))) (w.heap.size + 1 + 2) 3 (.int .i64 q) ∧ Below w.heap.size w (wr.setCell ⟨w.heap.size, i, none⟩ (.int .u64 ((N / 18446744073709551616 ^ i % 18446744073709551616 : Nat) : Int))) from
        ⟨hst.1, bA.kept g1 (by simp), bR.kept g1 (by simp; omega), bQ.kept g1 (by simp; omega), hb.setCell (p := ⟨w.heap.size, i, none⟩) (by simp) _⟩)
      obtain ⟨v, hvv⟩ : ∃ v : Nat, N / 18446744073709551616 ^ i % 18446744073709551616 = v := ⟨_, rfl⟩
      rw [hvv] at HR HS1
      clear S1 hjj hv hst g1 hown bA bR bQ hb hvv
      go_wp2_with fail
      refine (HS1.out).mono ?_
      rintro e w' ⟨rfl, n2, rfl⟩
      go_wp2_with fail
      rw [show (wr.drewN n2).setCell ⟨w.heap.size, i, none⟩ (.int .u64 (v : Int)) = (wr.setCell ⟨w.heap.size, i, none⟩ (.int .u64 (v : Int))).drewN n2 from rfl]
      go_roundw
      case rel => exact ⟨i + 1, by omega, by go_num, (Drawn.more n2).own HR.out.1, HR.out.2.1, HR.out.2.2.1, HR.out.2.2.2.1, HR.out.2.2.2.2.trans ((Drawn.more n2).below _)⟩
      case measure => simp [intOf]; omega
    · obtain rfl : i = K := by omega
      rw [wsAt_end] at hown
      have e2 : (nbits N + 63) / 64 = i := by rw [HN.out, ← HK.out]; omega
      have HO := Lib.hid (show wr.ownsRow w.heap.size 24 1 (.slice (some ⟨w.heap.size, 0, none⟩) i i) ((nbits N + 63) / 64) (ints .u64 (wd N)) by rw [wd, e2]; exact hown)
      clear e2 hown
      go_wp2_with fail
      go_ret
      exact ⟨_, rfl, HO.out, hb⟩
end Go.Proofs.Ytgmolbiicclcaaa
/- nat.Shl, nat.Shr: so often twice, so often the half. Conditions: as typed (lengths that fit a machine). -/
namespace Go.Proofs.Ytgmolbiicclcaaa
open Go.RowKit
set_option maxRecDepth 20000
theorem nbits_up_eq (n k : Nat) (h : n ≠ 0) : nbits (2 ^ k * n) = nbits n + k := by
  have hp : 0 < 2 ^ k := Nat.pow_pos (by omega)
  have h1 := nbits_lt n
  have h2 := nbits_le n h
  refine nbits_eq _ _ ?_ fun _ => ?_
  · rw [Nat.pow_add, Nat.mul_comm (2 ^ k)]
    exact Nat.mul_lt_mul_of_pos_right h1 hp
  · have h0 : 0 < nbits n := by
      rcases Nat.eq_zero_or_pos (nbits n) with h' | h'
      · rw [h'] at h1; simp at h1; omega
      · exact h'
    rw [show nbits n + k - 1 = k + (nbits n - 1) by omega, Nat.pow_add]
    exact Nat.mul_le_mul_left _ h2
theorem nbits_down_eq (n k : Nat) (h : k < nbits n) : nbits (n / 2 ^ k) = nbits n - k := by
  have hn : n ≠ 0 := by intro h'; rw [h', nbits_zero] at h; omega
  have hp : 0 < 2 ^ k := Nat.pow_pos (by omega)
  have h1 := nbits_lt n
  have h2 := nbits_le n hn
  refine nbits_eq _ _ ?_ fun _ => ?_
  · rw [Nat.div_lt_iff_lt_mul hp, ← Nat.pow_add, show nbits n - k + k = nbits n by omega]
    exact h1
  · rw [Nat.le_div_iff_mul_le hp, ← Nat.pow_add, show nbits n - k - 1 + k = nbits n - 1 by omega]
    exact h2
theorem down_none (n k : Nat) (h : nbits n ≤ k) : n / 2 ^ k = 0 := Nat.div_eq_of_lt (Nat.lt_of_lt_of_le (nbits_lt n) (Nat.pow_le_pow_right (by omega) h))
theorem shS_nat (a : List Nat) (ha : Words a) (j r : Nat) (hr : r < 64) : shS a (j : Int) r = natOf a * 2 ^ r / 18446744073709551616 ^ j % 18446744073709551616 := by
  unfold shS
  rw [wordS_nat]
  exact shl_word a ha j r hr
theorem shS_up (a : List Nat) (ha : Words a) (Q r : Nat) (hr : r < 64) (i : Nat) : shS a ((i : Int) - (Q : Int)) r = 2 ^ (64 * Q + r) * natOf a / 18446744073709551616 ^ i % 18446744073709551616 := by
  rcases Nat.lt_or_ge i Q with h | h
  · unfold shS
    rw [wordS_neg a _ (by omega), wordS_neg a _ (by omega)]
    obtain ⟨d, rfl⟩ : ∃ d, Q = i + 1 + d := ⟨Q - (i + 1), by omega⟩
    have e : 2 ^ (64 * (i + 1 + d) + r) * natOf a = 18446744073709551616 ^ i * (18446744073709551616 * (2 ^ (64 * d + r) * natOf a)) := by
      rw [pow_64_2, show 64 * (i + 1 + d) + r = 64 * i + (64 + (64 * d + r)) by omega, Nat.pow_add, Nat.pow_add 2 64]
      simp only [Nat.mul_assoc]
    rw [e, Nat.mul_div_cancel_left _ (Nat.pow_pos (by omega)), Nat.mul_mod_right]
    simp
  · obtain ⟨j, rfl⟩ : ∃ j, i = Q + j := ⟨i - Q, by omega⟩
    rw [show ((Q + j : Nat) : Int) - (Q : Int) = (j : Int) by omega, shS_nat a ha j r hr]
    rw [Nat.pow_add 18446744073709551616 Q j, Nat.pow_add 2 (64 * Q) r, ← pow_64_2, Nat.mul_assoc, Nat.mul_div_mul_left _ _ (Nat.pow_pos (by omega)), Nat.mul_comm (2 ^ r)]
theorem shS_down (a : List Nat) (ha : Words a) (V s r : Nat) (hr : r < 64) (hs : s + r = 64 * V) (i : Nat) : shS a ((i : Int) + (V : Int)) r = natOf a / 2 ^ s / 18446744073709551616 ^ i % 18446744073709551616 := by
  rw [show (i : Int) + (V : Int) = ((i + V : Nat) : Int) by omega, shS_nat a ha _ r hr]
  have e : (18446744073709551616 : Nat) ^ (i + V) = 2 ^ s * 18446744073709551616 ^ i * 2 ^ r := by
    rw [Nat.pow_add, pow_64_2 V, ← hs, Nat.pow_add]
    simp only [Nat.mul_assoc, Nat.mul_comm, Nat.mul_left_comm]
  rw [e, Nat.mul_div_mul_right _ _ (Nat.pow_pos (by omega)), ← Nat.div_div_eq_div_mul]
theorem out_none (w : World) : OutNat 0 w (.returned (.slice none 0 0)) w := by
  refine ⟨_, rfl, ?_, Below.refl _ _⟩
  have e : wd 0 = [] := by simp [wd, nbits_zero, words]
  rw [nbits_zero, e]
  exact World.ownsRow_nil _ _ _ _
section
variable (A : Option Addr) (a : List Nat) (ha : Words a) (c : Nat) (w : World) (hrd : Rd .u64 w w.heap.size A a) (hl : a.length ≤ 100000) (hc : a.length ≤ c)
include ha hrd hl hc
set_option maxHeartbeats 400000 in
theorem shift_none (k : Int) (hk0 : -100000 ≤ k) (hk1 : k ≤ 100000) (h : natOf a = 0 ∨ (nbits (natOf a) : Int) + k ≤ 0) : Calls Try.prog 70 #[.slice A a.length c, .int .i64 k] w (OutNat 0 w) := by
  have hsz := nbits_natOf a ha
  have Q := bits_q A c a w w.heap.size hrd ha (by omega) hc
  have HO := Lib.hid (out_none w)
  by_cases h0 : nbits (natOf a) = 0
  · rw [h0] at Q
    have HQ := Lib.hid Q
    clear Q h h0
    go_enter Try.func70, Try.ntmps70
    go_wp2_with fail
    refine (HQ.out).mono ?_
    rintro e w' ⟨rfl, rfl⟩
    go_wp2_with fail
    go_ret
    exact HO.out
  · have h2 : (nbits (natOf a) : Int) + k ≤ 0 := by
      rcases h with h | h
      · rw [h, nbits_zero] at h0; omega
      · exact h
    have hb0 : ((nbits (natOf a) : Int) == 0) = false := by simp; omega
    have HQ := Lib.hid Q
    clear Q h h0
    go_enter Try.func70, Try.ntmps70
    go_wp2_with fail
    refine (HQ.out).mono ?_
    rintro e w' ⟨rfl, rfl⟩
    go_wp2_with fail
    go_ret
    exact HO.out
theorem shift_up (k : Nat) (hk : k ≤ 65536) : Calls Try.prog 70 #[.slice A a.length c, .int .i64 (k : Int)] w (OutNat (2 ^ k * natOf a) w) := by
  by_cases h0 : natOf a = 0
  · have := shift_none A a ha c w hrd hl hc (k : Int) (by omega) (by omega) (.inl h0)
    rwa [h0, Nat.mul_zero]
  · obtain ⟨t, q, r, hr, hk2, h1, h2, h3, h4, h5⟩ := shift_nums (k : Int)
    obtain ⟨Q, rfl⟩ := Int.eq_ofNat_of_zero_le (show 0 ≤ q by omega)
    have hb := nbits_up_eq (natOf a) k h0
    exact shift_core A a ha c (k : Int) (Q : Int) t r (nbits (natOf a) + k) (2 ^ k * natOf a) _ w hrd hl hc (by omega) (by omega) hr h1 h2 h3 h4 h5 (by omega) (by omega) h0 (by omega)
      (by have h1 := nbits_lt (natOf a); rcases Nat.eq_zero_or_pos (nbits (natOf a)) with h | h; rw [h] at h1; simp at h1; omega; omega) hb rfl
      (fun i => by rw [show k = 64 * Q + r by omega]; exact shS_up a ha Q r hr i)
theorem shift_down (k : Nat) (hk : k ≤ 65536) : Calls Try.prog 70 #[.slice A a.length c, .int .i64 (-(k : Int))] w (OutNat (natOf a / 2 ^ k) w) := by
  by_cases h0 : natOf a = 0
  · have := shift_none A a ha c w hrd hl hc (-(k : Int)) (by omega) (by omega) (.inl h0)
    rwa [h0, Nat.zero_div]
  · by_cases h6 : nbits (natOf a) ≤ k
    · have := shift_none A a ha c w hrd hl hc (-(k : Int)) (by omega) (by omega) (.inr (by omega))
      rwa [down_none _ _ h6]
    · obtain ⟨t, q, r, hr, hk2, h1, h2, h3, h4, h5⟩ := shift_nums (-(k : Int))
      obtain ⟨V, hV⟩ := Int.eq_ofNat_of_zero_le (show 0 ≤ -q by omega)
      have hb := nbits_down_eq (natOf a) k (by omega)
      exact shift_core A a ha c (-(k : Int)) q t r (nbits (natOf a) - k) (natOf a / 2 ^ k) _ w hrd hl hc (by omega) (by omega) hr h1 h2 h3 h4 h5 (by omega) (by omega) h0 (by omega) (by omega) hb rfl
        (fun i => by rw [show (i : Int) - q = (i : Int) + (V : Int) by omega]; exact shS_down a ha V k r hr (by omega) i)
set_option maxHeartbeats 400000 in
theorem shl_pf (k : Int) : Calls Try.prog 63 #[.slice A a.length c, .int .i64 k] w (OutNat (shlS (natOf a) k) w) := by
  by_cases h : 0 ≤ k ∧ k ≤ 65536
  · obtain ⟨j, rfl⟩ := Int.eq_ofNat_of_zero_le h.1
    have S := Lib.hid (shift_up A a ha c w hrd hl hc j (by omega))
    have e : shlS (natOf a) (j : Int) = 2 ^ j * natOf a := by unfold shlS; rw [if_pos h, Int.toNat_natCast]
    rw [e]
    have M := Lib.hid (mayShift_yes (j : Int) w h.1 h.2)
    clear h e
    go_enter Try.func63, Try.ntmps63
    go_wp2_with fail
    refine (M.out).mono ?_
    rintro e w' ⟨rfl, rfl⟩
    go_wp2_with fail
    refine (S.out).mono ?_
    rintro e w1 ⟨v, rfl, own, hb⟩
    obtain ⟨X, d, rfl, _⟩ := own_form own
    have HO := Lib.hid own
    clear own
    go_wp2_with fail
    go_ret
    exact ⟨_, rfl, HO.out, hb⟩
  · have e : shlS (natOf a) k = 0 := by unfold shlS; rw [if_neg h]
    rw [e]
    have M := Lib.hid (mayShift_no k w (by omega))
    have HO := Lib.hid (out_none w)
    clear h e
    go_enter Try.func63, Try.ntmps63
    go_wp2_with fail
    refine (M.out).mono ?_
    rintro e w' ⟨rfl, rfl⟩
    go_wp2_with fail
    go_ret
    exact HO.out
set_option maxHeartbeats 400000 in
theorem shr_pf (k : Int) : Calls Try.prog 67 #[.slice A a.length c, .int .i64 k] w (OutNat (shrS (natOf a) k) w) := by
  by_cases h : 0 ≤ k ∧ k ≤ 65536
  · obtain ⟨j, rfl⟩ := Int.eq_ofNat_of_zero_le h.1
    have S := Lib.hid (shift_down A a ha c w hrd hl hc j (by omega))
    have e : shrS (natOf a) (j : Int) = natOf a / 2 ^ j := by unfold shrS; rw [if_pos h, Int.toNat_natCast]
    rw [e]
    have M := Lib.hid (mayShift_yes (j : Int) w h.1 h.2)
    have hj : j ≤ 65536 := by omega
    clear h e
    go_enter Try.func67, Try.ntmps67
    go_wp2_with fail
    refine (M.out).mono ?_
    rintro e w' ⟨rfl, rfl⟩
    go_wp2_with fail
    refine (S.out).mono ?_
    rintro e w1 ⟨v, rfl, own, hb⟩
    obtain ⟨X, d, rfl, _⟩ := own_form own
    have HO := Lib.hid own
    clear own
    go_wp2_with fail
    go_ret
    exact ⟨_, rfl, HO.out, hb⟩
  · have e : shrS (natOf a) k = 0 := by unfold shrS; rw [if_neg h]
    rw [e]
    have M := Lib.hid (mayShift_no k w (by omega))
    have HO := Lib.hid (out_none w)
    clear h e
    go_enter Try.func67, Try.ntmps67
    go_wp2_with fail
    refine (M.out).mono ?_
    rintro e w' ⟨rfl, rfl⟩
    go_wp2_with fail
    go_ret
    exact HO.out
end
end Go.Proofs.Ytgmolbiicclcaaa
/- nat.Bytes, nat.FromBytes: digits to the base 256. Conditions: as typed (lengths that fit a machine). -/
namespace Go.Proofs.Ytgmolbiicclcaaa
open Go.RowKit
set_option maxRecDepth 20000
end Go.Proofs.Ytgmolbiicclcaaa

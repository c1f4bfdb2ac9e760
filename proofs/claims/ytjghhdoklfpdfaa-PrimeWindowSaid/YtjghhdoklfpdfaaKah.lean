/- Several texts in one; each begins with a remark that says what it shows and on which conditions. -/
import Derived.Test.YtjghhdoklfpdfaaKag
/- nat.Cmp: which is the lesser number. Conditions: as typed (lengths that fit a machine). -/
namespace Go.Proofs.Ytjghhdoklfpdfaa
open Go.RowKit Go.Shelf
set_option maxRecDepth 20000
attribute [local go_sem] Oper.semAt_some
/-- A place and a word. -/
abbrev WI (n : Nat) := { p : Nat × Nat // p.1 < n ∧ p.2 < 18446744073709551616 }
/-- What comes in round k: the words from the last on. -/
def backAt (a : List Nat) (ha : Words a) (n k : Nat) (h : k < n) : WI n := ⟨(n - 1 - k, nth a (n - 1 - k)), by omega, nth_lt a ha _⟩
def backs (a : List Nat) (ha : Words a) (n : Nat) : Nat → List (WI n)
  | 0 => []
  | k + 1 => if h : k < n then backs a ha n k ++ [backAt a ha n k h] else backs a ha n k
theorem backs_succ (a : List Nat) (ha : Words a) (n k : Nat) (h : k < n) : backs a ha n (k + 1) = backs a ha n k ++ [backAt a ha n k h] := by rw [backs, dif_pos h]
theorem backs_length (a : List Nat) (ha : Words a) (n k : Nat) (h : k ≤ n) : (backs a ha n k).length = k := by
  induction k with
  | zero => rfl
  | succ k ih => rw [backs_succ a ha n k (by omega)]; simp [ih (by omega)]
theorem mem_backs (a : List Nat) (ha : Words a) (n k j : Nat) (hk : k ≤ n) (hj : j < k) : backAt a ha n j (by omega) ∈ backs a ha n k := by
  induction k with
  | zero => omega
  | succ k ih =>
    rw [backs_succ a ha n k (by omega)]
    rcases Nat.lt_or_ge j k with h | h
    · exact List.mem_append.2 (.inl (ih (by omega) h))
    · obtain rfl : j = k := by omega
      simp
set_option maxRecDepth 100000 in
set_option maxHeartbeats 2000000 in
theorem back1_in (n : Nat) (hn : 1 ≤ n) (l p n₀ : Nat) (A : Option Addr) (a : List Nat) (ha : Words a) (c : Nat) (hla : a.length ≤ 1000000) (J Jx : List (WI a.length) → World → Prop) (W : World)
    (hY : ∀ pre x W, J pre W → pre.length < a.length → YieldAt Fence.wide (n - 1) Try.prog l #[.int .i64 (x.1.1 : Int), .int .u64 (x.1.2 : Int)] W fun e W' =>
      (e = .returned (.bool true) ∧ J (pre ++ [x]) W' ∧ Below n₀ W W') ∨ (e = .returned (.bool false) ∧ Jx (pre ++ [x]) W'))
    (hp : Boxed W p 28 (.slice A a.length c)) (hpn : p < n₀) (hra : Rd .u64 W n₀ A a) (h0 : J [] W) :
    CallsIn Fence.wide n Try.prog 65 #[.func (.yield l) #[] #[], .pointer (some ⟨p, 0, none⟩)] W fun e W' => (∃ v, e = .returned v) ∧
      ((∃ ys, ys = backs a ha a.length a.length ∧ J ys W') ∨ (∃ pre, (∃ k, k ≤ a.length ∧ pre = backs a ha a.length k) ∧ Jx pre W')) := by
  have hpc := hp.cell
  refine callsIn_of_wp Try.func65 rfl trivial ?_ rfl
  simp only [Try.ntmps65, List.size_toArray, List.length_cons, List.length_nil, Nat.reduceAdd, Nat.reduceSub, Array.replicate_succ, Array.replicate_zero, List.push_toArray, List.append_toArray, List.nil_append, List.cons_append]
  gi_wp2
  gi_loopw [3] (fun i wr => ∃ k : Nat, k ≤ a.length ∧ i = .int .i64 ((k : Int) - 1) ∧ J (backs a ha a.length (a.length - k)) wr ∧ Below n₀ W wr) (fun i _ => (intOf i + 1).toNat)
  case atStart => exact ⟨a.length, Nat.le_refl _, rfl, by simpa [backs] using h0, Below.refl _ _⟩
  case round =>
    obtain ⟨k, hk, rfl, hJs, hkp⟩ := hrel
    by_cases hlt : 0 < k
    · obtain ⟨i, rfl⟩ : ∃ i, k = i + 1 := ⟨k - 1, by omega⟩
      have hpc1 : wr.cell? ⟨p, 0, none⟩ = some (.slice A a.length c) := (hkp.cell (p := ⟨p, 0, none⟩) hpn).trans hpc
      obtain ⟨b, off, rfl, hb, hcell⟩ := hra.below hkp (by omega)
      have hx := hcell i (by omega)
      clear hcell
      have hY1 := hY (backs a ha a.length (a.length - (i + 1))) (backAt a ha a.length (a.length - (i + 1)) (by omega)) wr hJs (by rw [backs_length _ _ _ _ (by omega)]; omega)
      have e0 : a.length - 1 - (a.length - (i + 1)) = i := by omega
      have hY2 : YieldAt Fence.wide (n - 1) Try.prog l #[.int .i64 (i : Int), .int .u64 (nth a i : Int)] wr fun e W' =>
          (e = .returned (.bool true) ∧ J (backs a ha a.length (a.length - i)) W' ∧ Below n₀ wr W') ∨ (e = .returned (.bool false) ∧ Jx (backs a ha a.length (a.length - i)) W') := by
        have e1 : backs a ha a.length (a.length - i) = backs a ha a.length (a.length - (i + 1)) ++ [backAt a ha a.length (a.length - (i + 1)) (by omega)] := by
          rw [← backs_succ]
          congr 1
          omega
        rw [e1]
        unfold backAt at hY1 ⊢
        simp only [e0] at hY1 ⊢
        exact hY1
      obtain ⟨fn, tmps, assign, body, hy, hR⟩ := hY2
      clear hY1 e0 hpc
      rw [show ((i + 1 : Nat) : Int) - 1 = (i : Int) by omega]
      gi_wp2
      refine hR.mono ?_
      rintro e W3 (⟨rfl, hJ3, hk3⟩ | ⟨rfl, hJx3⟩)
      · gi_wp2
        go_roundw
        case rel => exact ⟨i, by omega, rfl, hJ3, hkp.trans hk3⟩
        case measure => simp [intOf] <;> omega
      · gi_wp2
        refine bodyPost_ret (results_none rfl _ _ _) rfl ?_
        exact ⟨⟨_, rfl⟩, .inr ⟨_, ⟨a.length - i, by omega, rfl⟩, hJx3⟩⟩
    · obtain rfl : k = 0 := by omega
      gi_wp2
      go_end0
      exact ⟨⟨_, rfl⟩, .inl ⟨_, rfl, hJs⟩⟩
set_option maxHeartbeats 1000000 in
theorem back_in (n : Nat) (A : Option Addr) (na c : Nat) (w : World) :
    CallsIn Fence.wide n Try.prog 52 #[.slice A na c] w fun e w' =>
      e = .returned (.func (.func 65) #[] #[.pointer (some ⟨w.heap.size, 0, none⟩)]) ∧ w.alloc (.cells #[.slice A na c] 28) = w' := by
  refine callsIn_of_wp Try.func52 rfl trivial ?_ rfl
  simp only [Try.ntmps52, List.size_toArray, List.length_cons, List.length_nil, Nat.reduceAdd, Nat.reduceSub, Array.replicate_succ, Array.replicate_zero, List.push_toArray, List.append_toArray, List.nil_append, List.cons_append]
  gi_wp2
  go_ret
  exact ⟨rfl, rfl⟩
theorem back_stops (n : Nat) (hn : 1 ≤ n) (p n₀ : Nat) (A : Option Addr) (a : List Nat) (ha : Words a) (c : Nat) (hla : a.length ≤ 1000000)
    (w : World) (hp : Boxed w p 28 (.slice A a.length c)) (hpn : p < n₀) (hn₀ : n₀ ≤ w.heap.size) (hra : Rd .u64 w n₀ A a) :
    SeqStopsK Fence.wide n Try.prog 65 #[.pointer (some ⟨p, 0, none⟩)] (fun x : WI a.length => #[Value.int .i64 (x.1.1 : Int), Value.int .u64 (x.1.2 : Int)]) (Below n₀)
      (fun ys => ys = backs a ha a.length a.length) (fun pre => ∃ k, k ≤ a.length ∧ pre = backs a ha a.length k) a.length w := fun l J Jx W hW _ _ hY h0 =>
  back1_in n hn l p n₀ A a ha c hla J Jx W hY ((hW.block p hp.lt).trans hp) hpn (hra.below (hW.mono hn₀)) h0
/-! which is the lesser one -/
theorem cmpS_swap {x y X Y : Nat} (h1 : x < y → X < Y) (h2 : y < x → Y < X) (h3 : x = y → X = Y) : cmpS x y = cmpS X Y := by
  unfold cmpS
  rcases Nat.lt_trichotomy x y with h | h | h
  · rw [if_pos h, if_pos (h1 h)]
  · have := h3 h
    rw [if_neg (by omega), if_neg (by omega), if_neg (by omega), if_neg (by omega)]
  · have := h2 h
    rw [if_neg (by omega), if_pos h, if_neg (by omega), if_pos this]
theorem cmp_len (M N : Nat) (h : (wd M).length ≠ (wd N).length) : cmpS (wd M).length (wd N).length = cmpS M N := by
  rw [length_wd, length_wd] at *
  exact cmpS_swap (fun h1 => less_of_nbits (by omega)) (fun h1 => less_of_nbits (by omega)) (fun h1 => absurd h1 h)
theorem cmp_at (a b : List Nat) (ha : Words a) (hb : Words b) (m : Nat) (h : ∀ j, m + 1 ≤ j → nth a j = nth b j) (hne : nth a m ≠ nth b m) : cmpS (nth a m) (nth b m) = cmpS (natOf a) (natOf b) :=
  cmpS_swap (fun h1 => natOf_less a b ha m h h1) (fun h1 => natOf_less b a hb m (fun j hj => (h j hj).symm) h1) (fun h1 => absurd h1 hne)
end Go.Proofs.Ytjghhdoklfpdfaa
/- nat.Cmp: which is the lesser number. Conditions: as typed (lengths that fit a machine). -/
namespace Go.Proofs.Ytjghhdoklfpdfaa
open Go.RowKit Go.Shelf
set_option maxRecDepth 20000
attribute [local go_sem] Oper.semAt_some
/-- A piece that is left by its end alone. -/
theorem only_end {F : Fence} {n : Nat} {P : Program} {c : Code} {K : Act → World → Prop} {Q : Exit → Act → World → Prop} {a : Act} {w : World} (h : c.wpIn F n P (Exit.then K (fun _ _ _ => False)) a w) : c.wpIn F n P (Exit.then K Q) a w :=
  Go.wpIn_mono h fun e _ _ h => by cases e <;> first | exact h | exact h.elim
/-- Between two rounds: all words that came are the same. -/
structure SameSo {n : Nat} (w : World) (b : List Nat) (vb : Value) (pre : List (WI n)) (W : World) : Prop where
  all : ∀ p ∈ pre, p.1.2 = nth b p.1.1
  box : Boxed W w.heap.size 28 vb
  res : Boxed W (w.heap.size + 1) 3 (.int .i64 0)
  below : Below w.heap.size w W
/-- A round has found two words that differ. -/
structure Differs {n : Nat} (w : World) (b : List Nat) (cd : Code) (pre : List (WI n)) (W : World) : Prop where
  ret : cd = .ret
  at_ : ∃ ini last, pre = ini ++ [last] ∧ (∀ p ∈ ini, p.1.2 = nth b p.1.1) ∧ last.1.2 ≠ nth b last.1.1 ∧ Boxed W (w.heap.size + 1) 3 (.int .i64 (cmpS last.1.2 (nth b last.1.1)))
  below : Below w.heap.size w W
theorem SameSo.kept {n : Nat} {w W W' : World} {b : List Nat} {vb : Value} {pre : List (WI n)} {row : Option Nat} (h : SameSo w b vb pre W) (hg : W.grownBy W' row) (hr : ∀ r, row = some r → w.heap.size + 3 ≤ r) : SameSo w b vb pre W' :=
  ⟨h.all, h.box.kept hg (by intro e; have := hr _ e.symm; omega), h.res.kept hg (by intro e; have := hr _ e.symm; omega), h.below.grown hg h.below.size (fun k e => by have := hr k e; omega)⟩
theorem Differs.kept {n : Nat} {w W W' : World} {b : List Nat} {cd : Code} {pre : List (WI n)} {row : Option Nat} (h : Differs w b cd pre W) (hg : W.grownBy W' row) (hr : ∀ r, row = some r → w.heap.size + 3 ≤ r) : Differs w b cd pre W' := by
  obtain ⟨h1, ⟨ini, last, e1, e2, e3, e4⟩, h3⟩ := h
  exact ⟨h1, ⟨ini, last, e1, e2, e3, e4.kept hg (by intro e; have := hr _ e.symm; omega)⟩, h3.grown hg h3.size (fun k e => by have := hr k e; omega)⟩
theorem same_all (a b : List Nat) (ha : Words a) (hl : a.length = b.length) (h : ∀ p ∈ backs a ha a.length a.length, p.1.2 = nth b p.1.1) : natOf a = natOf b := by
  refine natOf_ext _ _ fun j => ?_
  rcases Nat.lt_or_ge j a.length with hj | hj
  · have := h _ (mem_backs a ha a.length a.length (a.length - 1 - j) (Nat.le_refl _) (by omega))
    simp only [backAt, show a.length - 1 - (a.length - 1 - j) = j by omega] at this
    exact this
  · rw [nth_past a j hj, nth_past b j (by omega)]
theorem differ_at (a b : List Nat) (ha : Words a) (hb : Words b) (hl : a.length = b.length) (k : Nat) (hk : k ≤ a.length) (ini : List (WI a.length)) (last : WI a.length) (e1 : backs a ha a.length k = ini ++ [last]) (e2 : ∀ p ∈ ini, p.1.2 = nth b p.1.1) (e3 : last.1.2 ≠ nth b last.1.1) :
    cmpS last.1.2 (nth b last.1.1) = cmpS (natOf a) (natOf b) := by
  rcases k with _ | k
  · simp [backs] at e1
  · have hk' : k < a.length := hk
    rw [backs_succ a ha a.length k hk'] at e1
    obtain ⟨rfl, e5⟩ := List.append_inj' e1 rfl
    obtain rfl : backAt a ha a.length k hk' = last := by simpa using e5
    refine cmp_at a b ha hb (a.length - 1 - k) (fun j hj => ?_) e3
    rcases Nat.lt_or_ge j a.length with hja | hja
    · have := e2 _ (mem_backs a ha a.length k (a.length - 1 - j) (by omega) (by omega))
      simp only [backAt, show a.length - 1 - (a.length - 1 - j) = j by omega] at this
      exact this
    · rw [nth_past a j hja, nth_past b j (by omega)]
set_option maxRecDepth 100000 in
set_option maxHeartbeats 2000000 in
theorem cmp_core (A A2 : Option Addr) (n0 n1 c c2 M N : Nat) (a b : List Nat) (hM : Hid (a = wd M)) (hN : Hid (b = wd N)) (ha : Words a) (hb : Words b) (hla : a.length ≤ 100000) (hlb : b.length ≤ 100000) (w : World) (hra : Rd .u64 w w.heap.size A a) (hrb : Rd .u64 w w.heap.size A2 b)
    (T1 : ∀ u, Below w.heap.size w u → Calls Try.prog 35 #[.slice A n0 c] u fun e w' => e = .returned (.slice A a.length c) ∧ u = w')
    (T2 : ∀ u, Below w.heap.size w u → Calls Try.prog 35 #[.slice A2 n1 c2] u fun e w' => e = .returned (.slice A2 b.length c2) ∧ u = w') :
    Calls Try.prog 31 #[.slice A n0 c, .slice A2 n1 c2] w fun e w' => e = .returned (.int .i64 (cmpS M N)) ∧ Below w.heap.size w w' := by
  have hB2 : Below w.heap.size w ((w.alloc (.cells #[.slice A2 n1 c2] 28)).alloc (.cells #[.int .i64 0] 3)) := ((Below.refl _ w).alloc (Nat.le_refl _) _).alloc (by simp) _
  have T1' := Lib.hid (T1 ((w.alloc (.cells #[.slice A2 n1 c2] 28)).alloc (.cells #[.int .i64 0] 3)).drew (hB2.trans ((Drawn.more 1).below _)))
  have T2' := Lib.hid (T2 ((w.alloc (.cells #[.slice A2 n1 c2] 28)).alloc (.cells #[.int .i64 0] 3)).drew (hB2.trans ((Drawn.more 1).below _)))
  have HB2 := Lib.hid hB2
  clear T1 T2 hB2
  refine (callsIn_wide (n := 9)).1 ?_
  refine callsIn_of_wp_marks Try.func31 rfl trivial ?_ rfl
  simp only [Try.ntmps31, List.size_toArray, List.length_cons, List.length_nil, Nat.reduceAdd, Nat.reduceSub, Array.replicate_succ, Array.replicate_zero, List.push_toArray, List.append_toArray, List.nil_append, List.cons_append]
  have hmx : Try.prog.follows .mixedOrders = true := by kernel_rfl
  gi_wp2
  refine only_end ?_
  gi_region_with_o (first
    | (refine ⟨trivial, ?_⟩; gi_at_call 35; (with_reducible refine (callsIn_wide.2 T1'.out).mono ?_); rintro e w' ⟨rfl, rfl⟩)
    | (refine ⟨trivial, ?_⟩; gi_at_call 35; (with_reducible refine (callsIn_wide.2 T2'.out).mono ?_); rintro e w' ⟨rfl, rfl⟩))
  all_goals
    obtain ⟨E, hE⟩ : ∃ E, ((w.alloc (.cells #[.slice A2 b.length c2] 28)).alloc (.cells #[.int .i64 0] 3)).drew = E := ⟨_, rfl⟩
    have bB : Boxed E w.heap.size 28 (.slice A2 b.length c2) := by rw [← hE]; exact (Boxed.new w 28 (.slice A2 b.length c2)).alloc _
    have bR : Boxed E (w.heap.size + 1) 3 (.int .i64 0) := by
      rw [← hE]
      have h := Boxed.new (w.alloc (.cells #[.slice A2 b.length c2] 28)) 3 (.int .i64 0)
      rw [World.size_alloc] at h
      exact h
    have hEB : Below w.heap.size w E := by rw [← hE]; exact (((Below.refl _ w).alloc (Nat.le_refl _) _).alloc (by simp) _).trans ((Drawn.more 1).below _)
    have hEs : E.heap.size = w.heap.size + 2 := by rw [← hE]; simp
    rw [hE]
    clear hE T1' T2' HB2
    have hbc := bB.cell
    have hbf := bB.frozen
    have hrc := bR.cell
    have hrf := bR.frozen
    have HEs := Lib.hid hEs
    clear hEs
    by_cases hlen : a.length = b.length
    · have hne : ((a.length : Int) != (b.length : Int)) = false := by simp; omega
      have HL := Lib.hid hlen
      clear hlen
      gi_wp2
      refine ⟨trivial, ?_⟩
      refine (back_in _ _ _ _ _).mono ?_
      rintro e w' ⟨rfl, rfl⟩
      have bA := Boxed.new E 28 (.slice A a.length c)
      rw [HEs.out] at bA
      obtain ⟨E2, hE2⟩ : ∃ E2, E.alloc (.cells #[.slice A a.length c] 28) = E2 := ⟨_, rfl⟩
      have bB2 := bB.alloc (.cells #[.slice A a.length c] 28)
      have bR2 := bR.alloc (.cells #[.slice A a.length c] 28)
      have hEB2 : Below w.heap.size w (E.alloc (.cells #[.slice A a.length c] 28)) := hEB.alloc hEB.size _
      have hs2 : (E.alloc (.cells #[.slice A a.length c] 28)).heap.size = w.heap.size + 3 := by rw [World.size_alloc, HEs.out]
      rw [hE2] at bA bB2 bR2 hEB2 hs2
      have HS2 := Lib.hid hs2
      clear hs2 hbc hbf hrc hrf bB bR hEB
      rw [HEs.out]
      gi_wp2
      clear hE2
      refine wpIn_rangeFunc_ownG rfl (by omega) (gf := 65) (lb := #[.pointer (some ⟨w.heap.size + 2, 0, none⟩)]) rfl trivial (enters_of Try.func65 (by kernel_rfl) rfl)
        (back_stops 8 (by omega) (w.heap.size + 2) (w.heap.size + 3) A a ha c (by omega) E2 bA (by omega) (by rw [HS2.out]; omega) ((hra.below hEB2).more (by omega)))
        belowK_t (belowK_b (by rw [HS2.out]; omega)) (Below.refl _ _) (fun _ => rfl)
        (fun pre W => SameSo w b (.slice A2 b.length c2) pre W)
        (fun cd pre W => Differs w b cd pre W)
        (fun s X Y row hs hg hr => hs.kept hg (fun r e => by have := (hr r e).1; rw [HS2.out] at this; omega))
        (fun cd s X Y row hs hg hr => hs.kept hg (fun r e => by have := (hr r e).1; rw [HS2.out] at this; omega))
        ⟨by simp, bB2, bR2, hEB2⟩
        (fun x => { tmps := #[.slice A a.length c, .slice A2 n1 c2, undef, .pointer (some ⟨w.heap.size, 0, none⟩), .pointer (some ⟨w.heap.size + 1, 0, none⟩), .int .i64 (x.1.1 : Int), .int .u64 (x.1.2 : Int), .slice A n0 c,
          .slice A a.length c, .slice A2 n1 c2, .slice A2 b.length c2, .slice A a.length c, .int .i64 (a.length : Int), .slice A2 b.length c2, .int .i64 (b.length : Int), .bool false, undef, undef, undef, undef, undef, .slice A a.length c,
          .func (.func 65) #[] #[.pointer (some ⟨w.heap.size + 2, 0, none⟩)], .int .i64 (x.1.1 : Int), .int .u64 (x.1.2 : Int), undef, undef, undef, undef, undef, undef, undef, undef, undef, undef, undef, undef], defers := [] }) ?assign ?body ?done ?stop
      case assign =>
        intro l x W K hK
        gi_wp2
        exact hK
      case body =>
        rintro l pre x W hI hlt
        have hi2 : x.1.1 < b.length := by rw [← HL.out]; exact x.2.1
        have hoc := hI.box.cell
        have hrc := hI.res.cell
        have hrf := hI.res.frozen
        obtain ⟨bb, off, rfl, hbb, hcell⟩ := hrb.below hI.below (by omega)
        have hx := hcell x.1.1 hi2
        clear hcell hlt
        by_cases heq : x.1.2 = nth b x.1.1
        · have hne2 : ((x.1.2 : Int) != (nth b x.1.1 : Int)) = false := by simp; omega
          have HQ := Lib.hid heq
          clear heq
          gi_wp2
          exact ⟨KeepsFrom.refl _ _, Below.refl _ _, fun p hp => (List.mem_append.1 hp).elim (hI.all p) (fun e => by simp at e; subst e; exact HQ.out), hI.box, hI.res, hI.below⟩
        · have hne2 : ((x.1.2 : Int) != (nth b x.1.1 : Int)) = true := by simp; omega
          have HQ := Lib.hid heq
          clear heq
          gi_wp2
          refine ⟨trivial, ?_⟩
          refine (CallsIn.inRound l (callsIn_wide.2 (compare_u64 _ _ _))).mono ?_
          rintro e w' ⟨rfl, rfl⟩
          gi_wp2
          exact ⟨(KeepsOthers.setCell _ _ _).from _, rfl, ⟨pre, x, rfl, hI.all, HQ.out, hI.res.set _⟩, hI.below.setCell (p := ⟨w.heap.size + 1, 0, none⟩) (by simp) _⟩
      case done =>
        rintro D ys W hD hys hI hK
        have hval := Lib.hid (show (0 : Int) = cmpS M N by
          have h := hI.all
          rw [hys] at h
          have h2 := same_all a b ha HL.out h
          rw [hM.out, hN.out, natOf_wd, natOf_wd] at h2
          rw [h2]
          simp [cmpS])
        have hrc := hI.res.cell
        have hrf := hI.res.frozen
        have HK := Lib.hid hK
        have HI := Lib.hid hI
        clear hys hK hI
        gi_wp2
        have hc1 := HI.out.res.set (.int .i64 0)
        have hK' := (KeepsOthers.setCell W ⟨w.heap.size + 1, 0, none⟩ (.int .i64 0)).same D _ HK.out rfl
        refine ⟨by simp, .inl ⟨_, _, rfl, run_takeDeferred hK', ?_⟩⟩
        have hc5 := cell_kept hc1.cell (grownBy_putObj' _ D (.deferred none)) (fun r e => by cases e; exact ⟨_, hK', rfl⟩)
        have hDs : w.heap.size ≤ D := by have := HS2.out; omega
        exact ⟨.int .i64 0, by simp [results, Try.f31, go_sem, hc5], by rw [← hval.out], (HI.out.below.setCell (p := ⟨w.heap.size + 1, 0, none⟩) (by simp) _).trans (belowK_b (w := w) (Nat.le_refl _) _ D _ _ hDs hK' rfl rfl)⟩
      case stop =>
        rintro D cd pre W hD ⟨k, hk, rfl⟩ hI hK
        obtain ⟨rfl, ⟨ini, last, e1, e2, e3, e4⟩, hB⟩ := hI
        have hval := Lib.hid (show cmpS last.1.2 (nth b last.1.1) = cmpS M N by
          rw [differ_at a b ha hb HL.out k hk ini last e1 e2 e3, hM.out, hN.out, natOf_wd, natOf_wd])
        have E4 := Lib.hid e4
        have HK := Lib.hid hK
        clear e1 e2 e3 e4 hK
        gi_wp2
        refine ⟨by simp, .inl ⟨_, _, rfl, run_takeDeferred HK.out, ?_⟩⟩
        have hc5 := cell_kept E4.out.cell (grownBy_putObj' _ D (.deferred none)) (fun r e => by cases e; exact ⟨_, HK.out, rfl⟩)
        have hDs : w.heap.size ≤ D := by have := HS2.out; omega
        exact ⟨_, by simp [results, Try.f31, go_sem, hc5]; rfl, by rw [← hval.out], hB.trans (belowK_b (w := w) (Nat.le_refl _) W D _ _ hDs HK.out rfl rfl)⟩
    · have hne : ((a.length : Int) != (b.length : Int)) = true := by simp; omega
      have hcm := Lib.hid (show cmpS a.length b.length = cmpS M N by have h := hlen; rw [hM.out, hN.out] at h ⊢; exact cmp_len M N h)
      clear hlen
      gi_wp2
      refine ⟨trivial, ?_⟩
      refine (callsIn_wide.2 (compare_int _ _ _)).mono ?_
      rintro e w' ⟨rfl, rfl⟩
      gi_wp2
      have hc5 := (bR.set (.int .i64 (cmpS a.length b.length))).cell
      exact ⟨.int .i64 (cmpS a.length b.length), by simp [results, Try.f31, go_sem, hc5], by rw [hcm.out], hEB.setCell (p := ⟨w.heap.size + 1, 0, none⟩) (by simp) _⟩
theorem cmp_pf (A A2 : Option Addr) (c c2 : Nat) (a b : List Nat) (w : World) (hr : Rd .u64 w w.heap.size A a) (hw : Words a) (hl : a.length ≤ 100000) (hc : a.length ≤ c) (hr2 : Rd .u64 w w.heap.size A2 b) (hw2 : Words b) (hl2 : b.length ≤ 100000) (hc2 : b.length ≤ c2) :
    Calls Try.prog 31 #[.slice A a.length c, .slice A2 b.length c2] w fun e w' => e = .returned (.int .i64 (cmpS (natOf a) (natOf b))) ∧ Below w.heap.size w w' := by
  obtain ⟨_, r1, l1, _⟩ := trimmed_wd A c a w hr hw hl hc
  obtain ⟨_, r2, l2, _⟩ := trimmed_wd A2 c2 b w hr2 hw2 hl2 hc2
  exact cmp_core A A2 a.length b.length c c2 (natOf a) (natOf b) (wd (natOf a)) (wd (natOf b)) (Lib.hid rfl) (Lib.hid rfl) (wd_words _) (wd_words _) l1 l2 w r1 r2
    (fun u hu => (trimmed_wd A c a u ((hr.below hu).more hu.size) hw hl hc).1) (fun u hu => (trimmed_wd A2 c2 b u ((hr2.below hu).more hu.size) hw2 hl2 hc2).1)
end Go.Proofs.Ytjghhdoklfpdfaa

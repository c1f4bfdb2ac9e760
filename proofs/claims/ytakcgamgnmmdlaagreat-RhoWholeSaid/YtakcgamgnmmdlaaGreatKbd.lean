/- Several texts in one; each begins with a remark that says what it shows and on which conditions. -/
import Derived.Test.YtakcgamgnmmdlaaGreatKbc
import Derived.Test.YtakcgamgnmmdlaaGreatKan
import Derived.Test.YtakcgamgnmmdlaaGreatKay
import Derived.RangeFuncBox
/- prime.Probable. Conditions: as typed (lengths that fit a machine; a number of 1024 bits at most). -/
namespace Go.Proofs.YtakcgamgnmmdlaaGreat
open Go.RowKit Go.Shelf
set_option maxRecDepth 20000
attribute [local go_sem] Oper.semAt_some
theorem natIs_row9 {w : World} {A : Option Addr} {n c N : Nat} (h : NatIs w A n c N) : RowIs w A n c (wd N) := ⟨h.1, wd_words N, h.2.1, h.2.2.1, h.2.2.2⟩
theorem strong_is9 {w : World} {A A2 : Option Addr} {n m c c2 N x : Nat} (h : NatIs w A n c N) (k : NatIs w A2 m c2 x) (hN : nbits N ≤ 1024) (hx : nbits x ≤ 1024) (b : Bool) (hb : b = true ↔ PassD N x) :
    Calls Tryz.prog 39 #[.slice A n c, .slice A2 m c2] w fun e w' => e = .returned (.bool b) ∧ Below w.heap.size w w' :=
  strong_any9 (natIs_row9 h) (natIs_row9 k) b (by
    rw [natOf_wd, natOf_wd]
    exact hb.trans ⟨fun h => ⟨rfl, rfl, hN, hx, h⟩, fun h => h.2.2.2.2⟩)
/-- Probable, by the bases that are gone through. -/
theorem prob_iff9 {N : Nat} {l : List Nat} (h2 : N ≠ 2) : ProbD N l ↔ (l.filter (keep9 N) ≠ [] ∧ ∀ x ∈ l.filter (keep9 N), PassD N x) := by
  have key : ∀ x, 0 < N → ((¬ (0 < N ∧ x % N = 0)) ↔ keep9 N x = true) := fun x h0 => by
    unfold keep9
    rw [decide_eq_true_eq]
    constructor
    · intro h; exact ⟨by omega, fun h1 => h ⟨h0, h1⟩⟩
    · rintro ⟨_, h⟩ ⟨_, h1⟩; exact h h1
  rcases Nat.eq_zero_or_pos N with rfl | h0
  · have e : l.filter (keep9 0) = [] := List.filter_eq_nil_iff.2 fun x _ => by simp [keep9]
    rw [e]
    constructor
    · rintro (h | ⟨⟨x, hx, hz⟩, hall⟩)
      · omega
      · have := (hall x hx hz).1
        omega
    · rintro ⟨h, _⟩
      exact absurd rfl h
  · constructor
    · rintro (h | ⟨⟨x, hx, hz⟩, hall⟩)
      · exact absurd h h2
      · refine ⟨fun e => ?_, fun y hy => ?_⟩
        · have : x ∈ l.filter (keep9 N) := List.mem_filter.2 ⟨hx, (key x h0).1 hz⟩
          rw [e] at this
          cases this
        · obtain ⟨h3, h4⟩ := List.mem_filter.1 hy
          exact hall y h3 ((key y h0).2 h4)
    · rintro ⟨h3, h4⟩
      refine .inr ⟨?_, fun x hx hz => h4 x (List.mem_filter.2 ⟨hx, (key x h0).1 hz⟩)⟩
      obtain ⟨x, t, e⟩ := List.exists_cons_of_ne_nil h3
      have hx : x ∈ l.filter (keep9 N) := by rw [e]; exact List.mem_cons_self
      obtain ⟨h5, h6⟩ := List.mem_filter.1 hx
      exact ⟨x, h5, (key x h0).2 h6⟩
/-- Between two rounds of Probable. -/
structure ProMid (w : World) (p5 B : Nat) (A : Option Addr) (n c : Nat) (v : Bool) (W : World) : Prop where
  bn : Boxed W w.heap.size 48 (.slice A n c)
  bp : Boxed W p5 4 (.bool v)
  below : Below w.heap.size w W
  size : B ≤ W.heap.size
theorem ProMid.kept {w W W' : World} {p5 B n c : Nat} {A : Option Addr} {v : Bool} {row : Option Nat} (h : ProMid w p5 B A n c v W) (hg : W.grownBy W' row) (hr : ∀ k, row = some k → B ≤ k) (hw : w.heap.size < p5) (hp : p5 < B) : ProMid w p5 B A n c v W' where
  bn := h.bn.kept hg (by intro e; have := hr _ e.symm; omega)
  bp := h.bp.kept hg (by intro e; have := hr _ e.symm; omega)
  below := h.below.grown hg h.below.size (fun k e => by have := hr k e; omega)
  size := Nat.le_trans h.size hg.size
theorem ProMid.put {w W : World} {p5 B n c : Nat} {A : Option Addr} {v : Bool} (h : ProMid w p5 B A n c v W) (x : Bool) (hw : w.heap.size < p5) : ProMid w p5 B A n c x (W.setCell ⟨p5, 0, none⟩ (.bool x)) where
  bn := h.bn.kept (grownBy_setCell' W p5 (.bool x)) (by simp; omega)
  bp := h.bp.set _
  below := h.below.setCell (p := ⟨p5, 0, none⟩) (by simp; omega) _
  size := by simpa [World.setCell] using h.size
set_option maxRecDepth 100000 in
set_option maxHeartbeats 2000000 in
theorem probable_any9 {w : World} {A A2 : Option Addr} {n c N c2 : Nat} {L : List Nat} (S : NatIs w A n c N) (hN : nbits N ≤ 1024) (hr : Rd .u64 w w.heap.size A2 L) (hw : Words L) (hl : L.length ≤ 1000) (hc : L.length ≤ c2) (b : Bool) (hb : b = true ↔ ProbD N L) :
    Calls Tryz.prog 24 #[.slice A n c, .slice A2 L.length c2] w fun e w' => e = .returned (.bool b) ∧ Below w.heap.size w w' := by
  have hn : n ≤ 16 := by
    have h1 := S.1
    rw [length_wd] at h1
    omega
  have b0 := made_below8 w (.cells #[.slice A n c] 48)
  have bm := Boxed.new w 48 (.slice A n c)
  have hcm := bm.cell
  have hmx : Tryz.prog.follows .mixedOrders = true := by kernel_rfl
  have HS := Lib.hid S
  have BM := Lib.hid bm
  clear S bm
  refine (callsIn_wide (n := 9)).1 ?_
  refine callsIn_of_wp_marks Tryz.func24 rfl trivial ?_ rfl
  simp only [Tryz.ntmps24, List.size_toArray, List.length_cons, List.length_nil, Nat.reduceAdd, Nat.reduceSub, Array.replicate_succ, Array.replicate_zero, List.push_toArray, List.append_toArray, List.nil_append, List.cons_append]
  gi_wp2
  refine only_end ?_
  refine wpIn_region_any hmx ?_
  change wpAnyIn _ _ _ _ _ _ _ _ _ (World.drew _)
  refine anyG.toAny (s := 2) (B := fun W' => W'.cell? ⟨w.heap.size, 0, none⟩ = some (.slice A n c)) ?_
  refine anyG_take (i := 0) (v := .slice A n c) rfl (by kernel_rfl) (by kernel_rfl) (by kernel_rfl) (by kernel_rfl) (by kernel_rfl) (by kernel_rfl) (fun _ _ _ h => h) ⟨by rfl, fun W' g1 => ⟨by go_simp, by rfl⟩⟩ ?_
  refine anyG_one (i := 1) (by kernel_rfl) rfl (fun _ => hcm) (fun K hK => ?_)
  go_simp
  refine ⟨trivial, ?_⟩
  refine (callsIn_wide.2 (bOf _ 2 (by omega))).mono ?_
  rintro e w3 ⟨X2, q2, d2, rfl, S2, _, b3⟩
  refine hK _ _ ?_
  clear hK K
  have B3 := below_step (b0.trans (((Drawn.more 1).below _))) b3
  have hs0 : (w.alloc (.cells #[.slice A n c] 48)).drew.heap.size = w.heap.size + 1 := by show (w.alloc _).heap.size = _; simp
  have bm3 : Boxed w3 w.heap.size 48 (.slice A n c) := (b3.block _ (by omega)).trans BM.out
  have hcm3 := bm3.cell
  by_cases h2 : N = 2
  · have HC := Lib.hid (cmp_eq9 (HS.out.step B3).in_ S2.in_ h2)
    have hbt : b = true := hb.2 (.inl h2)
    subst hbt
    clear hb h2
    refine anyG_one (i := 2) (by kernel_rfl) rfl (fun _ => hcm3) (fun K hK => ?_)
    go_simp
    refine ⟨trivial, ?_⟩
    refine (callsIn_wide.2 HC.out).mono ?_
    rintro e w4 ⟨rfl, b4⟩
    have B4 := below_step B3 b4
    have bm4 : Boxed w4 w.heap.size 48 (.slice A n c) := (b4.block _ bm3.lt).trans bm3
    refine hK _ _ ?_
    clear hK K
    refine anyG_one (i := 3) (by kernel_rfl) rfl (fun _ => bm4.cell) (fun K hK => ?_)
    go_simp
    refine hK _ _ ?_
    clear hK K
    refine anyG_done (by kernel_rfl) (by kernel_rfl) ?_
    gi_wp2
    exact ⟨_, results_tmp (t := 4) rfl _ _ _, rfl, B4⟩
  · have HC := Lib.hid (cmp_ne9 (HS.out.step B3).in_ S2.in_ h2)
    rw [prob_iff9 h2] at hb
    have HB := Lib.hid hb
    clear hb h2
    refine anyG_one (i := 2) (by kernel_rfl) rfl (fun _ => hcm3) (fun K hK => ?_)
    go_simp
    refine ⟨trivial, ?_⟩
    refine (callsIn_wide.2 HC.out).mono ?_
    rintro e w4 ⟨v, rfl, hv0, hv1, hv2, b4⟩
    have B4 := below_step B3 b4
    have bm4 : Boxed w4 w.heap.size 48 (.slice A n c) := (b4.block _ bm3.lt).trans bm3
    have hcm4 := bm4.cell
    refine hK _ _ ?_
    clear hK K
    refine anyG_one (i := 3) (by kernel_rfl) rfl (fun _ => bm4.cell) (fun K hK => ?_)
    go_simp
    refine hK _ _ ?_
    clear hK K
    refine anyG_done (by kernel_rfl) (by kernel_rfl) ?_
    have hcm5 := (bm4.alloc (.cells #[.bool false] 4)).cell
    gi_wp2
    refine ⟨trivial, ?_⟩
    refine (und_in _ A A2 n c L.length c2 _).mono ?_
    rintro e w' ⟨rfl, rfl⟩
    have bp5 := Boxed.new w4 4 (.bool false)
    have bn6 := Boxed.new (w4.alloc (.cells #[.bool false] 4)) 48 (.slice A n c)
    have bb7 := Boxed.new ((w4.alloc (.cells #[.bool false] 4)).alloc (.cells #[.slice A n c] 48)) 28 (.slice A2 L.length c2)
    simp only [World.size_alloc] at bn6 bb7
    obtain ⟨E0, hE0⟩ : ∃ E0, ((w4.alloc (.cells #[.bool false] 4)).alloc (.cells #[.slice A n c] 48)).alloc (.cells #[.slice A2 L.length c2] 28) = E0 := ⟨_, rfl⟩
    have hEs : E0.heap.size = w4.heap.size + 3 := by rw [← hE0]; simp
    have hB4s := B4.size
    have hBE : Below w.heap.size w E0 := by rw [← hE0]; exact ((B4.alloc B4.size _).alloc (by simp; omega) _).alloc (by simp; omega) _
    have hw4 : w.heap.size < w4.heap.size := bm4.lt
    have hM0 : ProMid w w4.heap.size E0.heap.size A n c false E0 := by
      refine ⟨?_, ?_, hBE, Nat.le_refl _⟩
      · rw [← hE0]; exact ((bm4.alloc _).alloc _).alloc _
      · rw [← hE0]; exact (bp5.alloc _).alloc _
    have bnE : Boxed E0 (w4.heap.size + 1) 48 (.slice A n c) := by rw [← hE0]; exact bn6.alloc _
    have bbE : Boxed E0 (w4.heap.size + 1 + 1) 28 (.slice A2 L.length c2) := by rw [← hE0]; exact bb7
    have HEs := Lib.hid hEs
    have HBE := Lib.hid hBE
    have HM0 := Lib.hid hM0
    have BNE := Lib.hid bnE
    have BBE := Lib.hid bbE
    have HR := Lib.hid hr
    have HW := Lib.hid hw
    clear bp5 bn6 bb7 hM0 bnE bbE hBE hcm hcm3 hcm4 hcm5 bm3 bm4 hr hw
    gi_wp2
    clear hE0
    refine range_told rfl (by omega) (gf := 68) (lb := #[.pointer (some ⟨w4.heap.size + 1 + 1, 0, none⟩), .pointer (some ⟨w4.heap.size + 1, 0, none⟩)]) rfl trivial (enters_of Tryz.func68 (by kernel_rfl) rfl)
      (und_told 8 (by omega) (w4.heap.size + 1 + 1) (w4.heap.size + 1) w.heap.size n c c2 N A A2 L HW.out (by omega) hc E0 BBE.out BNE.out (by omega) (HR.out.below HBE.out) (by
        obtain ⟨e1, e2, e3, e4⟩ := HS.out
        exact ⟨wd N, e1, natOf_wd N, wd_words N, by omega, e3.below HBE.out, e4⟩))
      KpC.t (KpC.b (by omega) (by omega) (by omega)) (Below.refl _ _) (fun _ => rfl) (EnN.own _)
      (fun pre W => ∃ v, (pre = [] → v = false) ∧ (pre ≠ [] → v = true) ∧ (∀ y ∈ pre, PassD N y.x) ∧ ProMid w w4.heap.size E0.heap.size A n c v W)
      (fun cd pre W => cd = .exit 0 ∧ (∃ y ∈ pre, ¬ PassD N y.x) ∧ ProMid w w4.heap.size E0.heap.size A n c false W)
      (fun s X Y row hs hg hr => by
        obtain ⟨v, h1, h2, h3, h4⟩ := hs
        exact ⟨v, h1, h2, h3, h4.kept hg (fun k e => (hr k e).1) hw4 (by omega)⟩)
      (fun cd s X Y row hs hg hr => ⟨hs.1, hs.2.1, hs.2.2.kept hg (fun k e => (hr k e).1) hw4 (by omega)⟩)
      ⟨false, fun _ => rfl, fun h => absurd rfl h, fun y hy => (by cases hy), HM0.out⟩
      (fun y => { tmps := #[.slice A n c, .slice A2 L.length c2, .pointer (some ⟨w.heap.size, 0, none⟩), undef, .bool false, .pointer (some ⟨w4.heap.size, 0, none⟩), .slice y.A y.q y.c, .slice A n c, .slice X2 q2 d2, .int .i64 v, .bool false, .slice A n c, .slice A2 L.length c2,
        .func (.func 68) #[] #[.pointer (some ⟨w4.heap.size + 1 + 1, 0, none⟩), .pointer (some ⟨w4.heap.size + 1, 0, none⟩)], .slice y.A y.q y.c, undef, undef, undef, undef, undef, undef], defers := [] }) ?assign ?body ?done ?stop
    case assign =>
      intro l x W K hK
      gi_wp2
      exact hK
    case body =>
      rintro l pre x W ⟨v', _, _, hall, hM⟩ ⟨hx1, hx2⟩
      have hxb : nbits x.x ≤ 1024 := by have := nbits_of_lt x.x 64 hx2; omega
      have HST := Lib.hid fun (b' : Bool) (hb' : b' = true ↔ PassD N x.x) => strong_is9 (HS.out.step hM.below) hx1 hN hxb b' hb'
      have hnc := hM.bn.cell
      have HM := Lib.hid hM
      have HALL := Lib.hid hall
      have hWs := hM.size
      have hpc := hM.bp.cell
      have hpf := hM.bp.frozen
      have key : ∀ (W1 : World) (v2 : Bool), Below W.heap.size W W1 → KeepsFrom E0.heap.size W (W1.setCell ⟨w4.heap.size, 0, none⟩ (.bool v2)) ∧ KpC w.heap.size (w4.heap.size + 1 + 1) (w4.heap.size + 1) W (W1.setCell ⟨w4.heap.size, 0, none⟩ (.bool v2)) ∧ ProMid w w4.heap.size E0.heap.size A n c v2 (W1.setCell ⟨w4.heap.size, 0, none⟩ (.bool v2)) := fun W1 v2 b1 => by
        have hg := grown_of_below b1
        have hM1 := HM.out.kept hg (fun k e => by cases e) hw4 (by omega)
        have hs1 := b1.size
        refine ⟨((KeepsOthers.of_grownBy hg (fun j o e => by cases e)).trans (KeepsOthers.setCell _ _ _)).from _, ⟨(b1.mono (by omega)).setCell (p := ⟨w4.heap.size, 0, none⟩) (by simp; omega) _, ?_, ?_⟩, hM1.put v2 hw4⟩
        · exact ((grownBy_setCell' W1 w4.heap.size (.bool v2)).block _ (by omega) (by intro e; injection e with e; omega)).trans (b1.block _ (by omega))
        · exact ((grownBy_setCell' W1 w4.heap.size (.bool v2)).block _ (by omega) (by intro e; injection e with e; omega)).trans (b1.block _ (by omega))
      have KEY := Lib.hid key
      clear key hM hall hx1
      by_cases hpd : PassD N x.x
      · have HS1 := Lib.hid (HST.out true ⟨fun _ => hpd, fun _ => rfl⟩)
        have HP := Lib.hid hpd
        clear hpd
        gi_wp2
        refine ⟨trivial, ?_⟩
        refine (CallsIn.inRound l (callsIn_wide.2 HS1.out)).mono ?_
        rintro e W1 ⟨rfl, b1⟩
        obtain ⟨k1, k2, k3⟩ := KEY.out W1 true b1
        have hM1 := HM.out.kept (grown_of_below b1) (fun k e => by cases e) hw4 (by omega)
        have hpc1 := hM1.bp.cell
        have hpf1 := hM1.bp.frozen
        have hpc2 := k3.bp.cell
        have HF := Lib.hid (show KeepsFrom E0.heap.size W (W1.setCell ⟨w4.heap.size, 0, none⟩ (.bool true)) ∧ KpC w.heap.size (w4.heap.size + 1 + 1) (w4.heap.size + 1) W (W1.setCell ⟨w4.heap.size, 0, none⟩ (.bool true)) ∧
            ∃ v, (pre ++ [x] = [] → v = false) ∧ (pre ++ [x] ≠ [] → v = true) ∧ (∀ y ∈ pre ++ [x], PassD N y.x) ∧ ProMid w w4.heap.size E0.heap.size A n c v (W1.setCell ⟨w4.heap.size, 0, none⟩ (.bool true)) from
          ⟨k1, k2, true, fun h => by simp at h, fun _ => rfl, fun y hy => by
            rcases List.mem_append.1 hy with h | h
            · exact HALL.out y h
            · rw [List.mem_singleton.1 h]; exact HP.out, k3⟩)
        clear k1 k2 k3 hM1
        gi_wp2
        exact HF.out
      · have HS1 := Lib.hid (HST.out false ⟨fun h => (by cases h), fun h => absurd h hpd⟩)
        have HP := Lib.hid hpd
        clear hpd
        gi_wp2
        refine ⟨trivial, ?_⟩
        refine (CallsIn.inRound l (callsIn_wide.2 HS1.out)).mono ?_
        rintro e W1 ⟨rfl, b1⟩
        obtain ⟨k1, k2, k3⟩ := KEY.out W1 false b1
        have hM1 := HM.out.kept (grown_of_below b1) (fun k e => by cases e) hw4 (by omega)
        have hpc1 := hM1.bp.cell
        have hpf1 := hM1.bp.frozen
        have hpc2 := k3.bp.cell
        have HF := Lib.hid (show KeepsFrom E0.heap.size W (W1.setCell ⟨w4.heap.size, 0, none⟩ (.bool false)) ∧ (Code.exit 0 = Code.exit 0 ∧ (∃ y ∈ pre ++ [x], ¬ PassD N y.x) ∧ ProMid w w4.heap.size E0.heap.size A n c false (W1.setCell ⟨w4.heap.size, 0, none⟩ (.bool false))) from
          ⟨k1, rfl, ⟨x, List.mem_append.2 (.inr (List.mem_singleton.2 rfl)), HP.out⟩, k3⟩)
        clear k1 k2 k3 hM1
        gi_wp2
        exact ⟨HF.out.1, rfl, HF.out.2.2.1, HF.out.2.2.2⟩
    case done =>
      rintro D ys W hD hys ⟨v', hv1, hv2, hall, hM⟩ hKd
      have HKd := Lib.hid hKd
      have hbv : b = v' := by
        have h1 : L.filter (keep9 N) = [] ↔ ys = [] := by rw [← hys]; simp
        rcases hv : v' with _ | _
        · rcases hb : b with _ | _
          · rfl
          · have h2 := (HB.out.1 hb).1
            have := hv2 (fun h => h2 (h1.2 h))
            rw [hv] at this
            cases this
        · refine HB.out.2 ⟨fun h => ?_, fun x hx => ?_⟩
          · have := hv1 (h1.1 h)
            rw [hv] at this
            cases this
          · rw [← hys] at hx
            obtain ⟨y, hy, rfl⟩ := List.mem_map.1 hx
            exact hall y hy
      subst hbv
      have hpc := hM.bp.cell
      have HBF := Lib.hid (show Below w.heap.size w (W.putObj D (.deferred none)) from hM.below.trans (belowK_b (w := w) (Nat.le_refl _) W D _ _ (by omega) HKd.out rfl rfl))
      clear hys hKd hv1 hv2 hall hM
      gi_wp2
      refine ⟨by simp, .inl ⟨_, _, rfl, run_takeDeferred HKd.out, ?_⟩⟩
      exact ⟨_, results_tmp (t := 4) rfl _ _ _, rfl, HBF.out⟩
    case stop =>
      rintro D cd pre W hD hpre ⟨rfl, ⟨y, hy, hnp⟩, hM⟩ hKd
      have HKd := Lib.hid hKd
      have hbf : b = false := by
        rcases hb : b with _ | _
        · rfl
        · exact absurd ((HB.out.1 hb).2 y.x (List.mem_filter.2 (hpre y hy))) hnp
      subst hbf
      have hpc := hM.bp.cell
      have HBF := Lib.hid (show Below w.heap.size w (W.putObj D (.deferred none)) from hM.below.trans (belowK_b (w := w) (Nat.le_refl _) W D _ _ (by omega) HKd.out rfl rfl))
      clear hpre hKd hM hnp
      gi_wp2
      refine ⟨by simp, .inl ⟨_, _, rfl, run_takeDeferred HKd.out, ?_⟩⟩
      exact ⟨_, results_tmp (t := 4) rfl _ _ _, rfl, HBF.out⟩
end Go.Proofs.YtakcgamgnmmdlaaGreat
/- prime.Is and prime.Next. Conditions: as typed (numbers below 2^32). -/
namespace Go.Proofs.YtakcgamgnmmdlaaGreat
open Go.RowKit
set_option maxRecDepth 20000
/-! Which bases tell of a prime -/
theorem big_eleven : ¬ PassD 3215031751 11 := fun h => by
  have h1 := (passD_iff (by omega) (by omega) (show 3215031751 - 1 = 2 ^ 1 * 1607515875 by decide) (by decide)).1 h
  have h2 := spd_of h1
  have h3 : spd 3215031751 11 1 1607515875 = false := by decide +kernel
  rw [h3] at h2
  cases h2
theorem prm_two9 : Prm 2 := prm_tried (f := 0) (by omega) rfl (by omega)
theorem prob_list9 {K : Nat} {L : List Nat} (hK : K < 4294967296) (m2 : 2 ∈ L) (m3 : 3 ∈ L) (m5 : 5 ∈ L) (m7 : 7 ∈ L) (m11 : K = 3215031751 → 11 ∈ L) : ProbD K L ↔ Prm K := by
  constructor
  · rintro (rfl | ⟨⟨x, hx, hxz⟩, hall⟩)
    · exact prm_two9
    · have hp := hall x hx hxz
      have h3 := hp.1
      have ho := hp.2.1
      by_cases h7 : K ≤ 7
      · have : K = 3 ∨ K = 5 ∨ K = 7 := by omega
        rcases this with rfl | rfl | rfl
        · exact prm_tried (f := 0) (by omega) rfl (by omega)
        · exact prm_tried (f := 1) (by omega) (by decide) (by omega)
        · exact prm_tried (f := 1) (by omega) (by decide) (by omega)
      · have hp2 := hall 2 m2 (by rw [Nat.mod_eq_of_lt (by omega)]; omega)
        have hp3 := hall 3 m3 (by rw [Nat.mod_eq_of_lt (by omega)]; omega)
        have hp5 := hall 5 m5 (by rw [Nat.mod_eq_of_lt (by omega)]; omega)
        have hp7 := hall 7 m7 (by rw [Nat.mod_eq_of_lt (by omega)]; omega)
        rcases four_bases (by omega) (by omega) hp2.2.2 hp3.2.2 hp5.2.2 hp7.2.2 with h | h
        · exact h
        · have h11 := hall 11 (m11 h) (by rw [Nat.mod_eq_of_lt (by omega)]; omega)
          rw [h] at h11
          exact absurd h11 big_eleven
  · intro h
    by_cases h2 : K = 2
    · exact .inl h2
    · have hK2 := h.1
      have ho : K % 2 = 1 := by
        rcases Nat.mod_two_eq_zero_or_one K with h0 | h0
        · exfalso
          rcases h.2 2 (Nat.dvd_of_mod_eq_zero h0) with e | e <;> omega
        · exact h0
      refine .inr ⟨⟨2, m2, ?_⟩, fun x _ hz => ⟨by omega, ho, h.pass ho fun hd => hz ⟨by omega, Nat.mod_eq_zero_of_dvd hd⟩⟩⟩
      rw [Nat.mod_eq_of_lt (by omega)]
      omega
theorem not_prm_tried {n r most : Nat} (h : IsTrial n most r) (hr : r ≠ 0) : ¬ Prm n := fun hp => by
  rcases h with ⟨h, _⟩ | ⟨h1, _, _, h4, h5, _⟩
  · exact hr h
  · rcases hp.2 r (Nat.dvd_of_mod_eq_zero h5) with e | e <;> omega
/-- The bases for a number. -/
def bases9 (n : Nat) : List Nat := if n < 3215031751 then [2, 3, 5, 7] else [2, 3, 5, 7, 11, 13, 17, 19, 23, 29, 31, 37]
theorem prob_bases9 {n : Nat} (h : n < 4294967296) : ProbD n (bases9 n) ↔ Prm n := by
  unfold bases9
  split
  · exact prob_list9 h (by simp) (by simp) (by simp) (by simp) (fun e => by omega)
  · exact prob_list9 h (by simp) (by simp) (by simp) (by simp) (fun _ => by simp)
theorem bases_words9 (n : Nat) : Words (bases9 n) := by
  unfold bases9
  intro x hx
  split at hx <;> simp at hx <;> omega
theorem bases_length9 (n : Nat) : (bases9 n).length ≤ 12 := by unfold bases9; split <;> simp
set_option maxHeartbeats 1000000 in
theorem deciding_any (n : Nat) (w : World) : Calls Tryz.prog 25 #[.int .u64 n] w fun e w' => ∃ X c, e = .returned (.slice X (bases9 n).length c) ∧ Rd .u64 w' w'.heap.size X (bases9 n) ∧ (bases9 n).length ≤ c ∧ Below w.heap.size w w' := by
  by_cases h : n < 3215031751
  · have e : bases9 n = [2, 3, 5, 7] := if_pos h
    rw [e]
    have HR := Lib.hid ((Rd.lit w .u64 22 [2, 3, 5, 7]).more (B' := (w.alloc (.cells (ints .u64 [2, 3, 5, 7]).toArray 22)).heap.size) (by simp))
    have hb := Lib.hid (made_below8 w (.cells (ints .u64 [2, 3, 5, 7]).toArray 22))
    have hd : decide ((n : Int) < 3215031751) = true := by simp; omega
    clear e
    go_enter Tryz.func25, Tryz.ntmps25
    go_wp2_with fail
    go_ret
    exact ⟨_, _, rfl, HR.out, Nat.le_refl _, hb.out⟩
  · have e : bases9 n = [2, 3, 5, 7, 11, 13, 17, 19, 23, 29, 31, 37] := if_neg h
    rw [e]
    have HR := Lib.hid ((Rd.lit w .u64 22 [2, 3, 5, 7, 11, 13, 17, 19, 23, 29, 31, 37]).more (B' := (w.alloc (.cells (ints .u64 [2, 3, 5, 7, 11, 13, 17, 19, 23, 29, 31, 37]).toArray 22)).heap.size) (by simp))
    have hb := Lib.hid (made_below8 w (.cells (ints .u64 [2, 3, 5, 7, 11, 13, 17, 19, 23, 29, 31, 37]).toArray 22))
    have hd : decide ((n : Int) < 3215031751) = false := by simp; omega
    clear e
    go_enter Tryz.func25, Tryz.ntmps25
    go_wp2_with fail
    go_ret
    exact ⟨_, _, rfl, HR.out, Nat.le_refl _, hb.out⟩
/-! The next prime -/
theorem prm_odd9 {p : Nat} (h : Prm p) (h3 : 3 ≤ p) : p % 2 = 1 := by
  rcases Nat.mod_two_eq_zero_or_one p with h0 | h0
  · rcases h.2 2 (Nat.dvd_of_mod_eq_zero h0) with e | e <;> omega
  · exact h0
end Go.Proofs.YtakcgamgnmmdlaaGreat
/- prime.Is of each word: whatever it takes, it takes all primes, and below 2^32 no other number. No condition but those typed. -/
namespace Go.Proofs.YtakcgamgnmmdlaaGreat
open Go.RowKit
set_option maxRecDepth 20000
/-- What prime.Is takes: no number from 2 to 64 divides it, and it passes to its bases. -/
def IsW (n : Nat) : Prop := IsTrial n 64 0 ∧ ProbD n (bases9 n)
theorem isW_none {n : Nat} (h : IsTrial n 64 0) : IsW n ↔ ProbD n (bases9 n) := ⟨fun k => k.2, fun k => ⟨h, k⟩⟩
theorem isTrial_prm {n : Nat} (h : Prm n) : IsTrial n 64 0 := by
  obtain ⟨r, hr⟩ := isTrial_some n 64
  rcases Nat.eq_zero_or_pos r with h0 | h0
  · rw [h0] at hr; exact hr
  · exact absurd h (not_prm_tried hr (by omega))
theorem isW_small : ∀ x, x < 4294967296 → (IsW x ↔ Prm x) := fun _ hx =>
  ⟨fun h => (prob_bases9 hx).1 h.2, fun h => ⟨isTrial_prm h, (prob_bases9 hx).2 h⟩⟩
theorem isW_prm {x : Nat} (h : Prm x) : IsW x := by
  refine ⟨isTrial_prm h, ?_⟩
  by_cases h2 : x = 2
  · exact .inl h2
  · have h3 : 3 ≤ x := by have := h.1; omega
    have ho := prm_odd9 h h3
    have m2 : 2 ∈ bases9 x := by unfold bases9; split <;> simp
    refine .inr ⟨⟨2, m2, by rw [Nat.mod_eq_of_lt (by omega)]; omega⟩, fun y _ hz => ⟨h3, ho, h.pass ho fun hd => hz ⟨by omega, Nat.mod_eq_zero_of_dvd hd⟩⟩⟩
set_option maxHeartbeats 1000000 in
theorem is_word9 (n : Nat) (hn : n < 18446744073709551616) (b : Bool) (hb : b = true ↔ IsW n) (w : World) : Calls Tryz.prog 11 #[.int .u64 n] w fun e w' => e = .returned (.bool b) ∧ Below w.heap.size w w' := by
  obtain ⟨r, hr⟩ := isTrial_some n 64
  have hrn : r < 18446744073709551616 := by
    rcases hr with ⟨h, _⟩ | ⟨_, _, _, h, _⟩ <;> omega
  have hT : ∀ (b' : Bool), (b' = true ↔ r ≠ 0) → ∀ (u : World) (X : Option Addr) (q d : Nat), NatIs u X q d n → Calls Tryz.prog 23 #[.slice X q d, .int .u64 64] u fun e w' => e = .returned (.tuple #[.int .u64 r, .bool b']) ∧ Below u.heap.size u w' := fun b' hb' u X q d S =>
    trial_any (natIs_row9 S) (by have := natIs_len8 (K := 1) S (by have := nbits_of_lt n 64 (by omega); omega); omega) 64 r (by omega) (by rw [natOf_wd, if_pos rfl]; exact hr) b' hb'
  have HO := Lib.hid (bOf w n (by omega))
  by_cases h0 : r = 0
  · subst h0
    have HT := Lib.hid (hT false ⟨fun h => (by cases h), fun h => absurd rfl h⟩)
    have HP := Lib.hid (show ∀ (u : World) (X A2 : Option Addr) (q d c2 : Nat), NatIs u X q d n → Rd .u64 u u.heap.size A2 (bases9 n) → (bases9 n).length ≤ c2 → Calls Tryz.prog 24 #[.slice X q d, .slice A2 (bases9 n).length c2] u fun e w' => e = .returned (.bool b) ∧ Below u.heap.size u w' from
      fun u X A2 q d c2 S hR hc => probable_any9 S (by have := nbits_of_lt n 64 (by omega); omega) hR (bases_words9 n) (by have := bases_length9 n; omega) hc b (hb.trans (isW_none hr)))
    clear hT hr hb
    go_enter Tryz.func11, Tryz.ntmps11
    go_wp2_with fail
    refine (HO.out).mono ?_
    rintro e w1 ⟨X, q, d, rfl, S1, _, b1⟩
    have HS1 := Lib.hid S1
    clear S1
    go_wp2_with fail
    refine (HT.out w1 X q d HS1.out).mono ?_
    rintro e w2 ⟨rfl, b2⟩
    have B2 := below_step b1 b2
    have HS2 := Lib.hid (HS1.out.step b2)
    go_wp2_with fail
    refine (deciding_any n w2).mono ?_
    rintro e w3 ⟨A2, c2, rfl, hR, hc, b3⟩
    have B3 := below_step B2 b3
    have HPP := Lib.hid (HP.out w3 X A2 q d c2 (HS2.out.step b3) hR hc)
    have hbl := bases_length9 n
    obtain ⟨k, hk⟩ : ∃ k, (bases9 n).length = k := ⟨_, rfl⟩
    rw [hk] at HPP hbl hc
    rw [hk]
    clear hR
    go_wp2_with fail
    refine (HPP.out).mono ?_
    rintro e w4 ⟨rfl, b4⟩
    go_wp2_with fail
    go_ret
    exact ⟨rfl, below_step B3 b4⟩
  · have HT := Lib.hid (hT true ⟨fun _ => h0, fun _ => rfl⟩)
    have hbf : b = false := by
      rcases h : b with _ | _
      · rfl
      · exact absurd (isTrial_uniq hr (hb.1 h).1) h0
    subst hbf
    clear hT hr hb
    go_enter Tryz.func11, Tryz.ntmps11
    go_wp2_with fail
    refine (HO.out).mono ?_
    rintro e w1 ⟨X, q, d, rfl, S1, _, b1⟩
    have HS1 := Lib.hid S1
    clear S1
    go_wp2_with fail
    refine (HT.out w1 X q d HS1.out).mono ?_
    rintro e w2 ⟨rfl, b2⟩
    go_wp2_with fail
    go_ret
    exact ⟨rfl, below_step b1 b2⟩
end Go.Proofs.YtakcgamgnmmdlaaGreat
/- rho's tried; and the two lists that Factors fills, in memory: put. Conditions: as typed (words). -/
namespace Go.Proofs.YtakcgamgnmmdlaaGreat
open Go.RowKit
set_option maxRecDepth 20000
/-! Trying -/
structure TriedMid (N : Nat) (ls : List Nat) (m : Nat) : Prop where
  all : prodN ls * m = N
  primes : ∀ p ∈ ls, Prm p
  pos : 0 < m
theorem TriedMid.few {N : Nat} {ls : List Nat} {m : Nat} (h : TriedMid N ls m) (hN : N < 18446744073709551616) : ls.length < 64 :=
  prodN_len (fun p hp => (h.primes p hp).1) (Nat.lt_of_le_of_lt (by rw [← h.all]; exact Nat.le_mul_of_pos_right _ h.pos) hN)
theorem TriedMid.le {N : Nat} {ls : List Nat} {m : Nat} (h : TriedMid N ls m) (h0 : 0 < N) : m ≤ N := Nat.le_of_dvd h0 (by rw [← h.all]; exact Nat.dvd_mul_left _ _)
theorem isTrial_prm10 {m most r : Nat} (h : IsTrial m most r) (h0 : r ≠ 0) : Prm r ∧ m % r = 0 ∧ 2 ≤ r ∧ r < m := by
  rcases h with ⟨h, _⟩ | ⟨h1, _, _, h4, h5, h6⟩
  · exact absurd h h0
  · exact ⟨NoneBelow.at_ (m := m) (fun e h7 h8 => h6 e h7 h8) h1 h5, h5, h1, h4⟩
theorem TriedMid.take {N : Nat} {ls : List Nat} {m r : Nat} (h : TriedMid N ls m) (hr : Prm r) (hz : m % r = 0) (hl : r ≤ m) : TriedMid N (ls ++ [r]) (m / r) where
  all := by rw [prodN_append, prodN_one, Nat.mul_assoc, Nat.mul_div_cancel' (Nat.dvd_of_mod_eq_zero hz)]; exact h.all
  primes := fun p hp => by
    rcases List.mem_append.1 hp with h1 | h1
    · exact h.primes p h1
    · rw [List.mem_singleton.1 h1]; exact hr
  pos := Nat.div_pos hl (by have := hr.1; omega)
/-- What the call owns stays so where nothing that is there turns. -/
theorem own_keep10 {w w' : World} {base n : Nat} {e : TypeId} {v : Value} {xs : List Value} (h : w.ownsRow base e 1 v n xs) (b : Below w.heap.size w w') : w'.ownsRow base e 1 v n xs :=
  h.kept (row := none) ⟨b.os, b.tape, b.output, b.size, fun k hk _ => b.block k hk⟩ (by cases v.ownBlock <;> simp)
set_option maxHeartbeats 8000000 in
theorem tried10 (N : Nat) (h0 : 0 < N) (hN : N < 18446744073709551616) (w : World) :
    Calls Tryz.prog 19 #[.int .u64 N] w fun e w' => ∃ ls m X d, e = .returned (.tuple #[.slice X ls.length d, .int .u64 ((m : Nat) : Int)]) ∧ TriedMid N ls m ∧ IsTrial m 65535 0 ∧ w'.ownsRow w.heap.size 22 1 (.slice X ls.length d) ls.length (ints .u64 ls) ∧ Below w.heap.size w w' := by
  obtain ⟨i0, hi, hz0, hz1, hz2⟩ := info_parts num_info_u64
  have HO := Lib.hid (fun (u : World) (m : Nat) (hm : m < 18446744073709551616) => bOf u m hm)
  have HT := Lib.hid (fun (m r : Nat) (b' : Bool) (u : World) (X : Option Addr) (q d : Nat) (hm : m < 18446744073709551616) (hr : Hid (IsTrial m 65535 r)) (hb' : Hid (b' = true ↔ r ≠ 0)) (S : Hid (NatIs u X q d m)) =>
    trial_any (natIs_row9 S.out) (by have := NatIs.few10 S.out hm; omega) 65535 r (by omega) (by rw [natOf_wd, if_pos rfl]; exact hr.out) b' hb'.out)
  obtain ⟨r0, hr0⟩ := isTrial_some N 65535
  have HR0 := Lib.hid hr0
  obtain ⟨b0, hb0⟩ : ∃ b : Bool, b = true ↔ r0 ≠ 0 := ⟨decide (r0 ≠ 0), by simp⟩
  have HB0 := Lib.hid hb0
  have HTr := Lib.hid (show TriedMid N [] N from ⟨by rw [prodN_nil, Nat.one_mul], by simp, h0⟩)
  clear hr0 hb0
  go_enter Tryz.func19, Tryz.ntmps19
  go_wp2_with fail
  refine (HO.out w N hN).mono ?_
  rintro e w1 ⟨X, q, d, rfl, S1, _, b1⟩
  have HS1 := Lib.hid S1
  have HB1 := Lib.hid b1
  clear S1 b1
  go_wp2_with fail
  refine (HT.out N r0 b0 w1 X q d hN HR0 HB0 HS1).mono ?_
  rintro e w2 ⟨rfl, b2⟩
  have HB2 := Lib.hid (below_step HB1.out b2)
  clear b2
  go_wp2_with fail
  go_loopw [0, 2, 4, 5] (fun nv fv dv bv wr => ∃ (m r : Nat) (b : Bool) (ys : List Nat), nv = .int .u64 m ∧ dv = .int .u64 r ∧ bv = .bool b ∧ m ≤ N ∧ Hid (IsTrial m 65535 r) ∧ Hid (b = true ↔ r ≠ 0) ∧ Hid (TriedMid N ys m) ∧ wr.ownsRow w.heap.size 22 1 fv ys.length (ints .u64 ys) ∧ Hid (Below w.heap.size w wr)) (fun nv _ _ _ _ => (intOf nv).toNat)
  case atStart => exact ⟨N, r0, b0, [], rfl, rfl, rfl, Nat.le_refl _, HR0, HB0, HTr, World.ownsRow_nil _ _ _ _, HB2⟩
  case round =>
    clear HR0 HB0 HTr HB1 HB2 HS1
    obtain ⟨m, r, b, ys, rfl, rfl, rfl, hmN, HR, HB, HTr, hown, HBe⟩ := hrel
    by_cases hr : r = 0
    · obtain rfl : b = false := by cases b with | false => rfl | true => exact absurd hr (HB.out.1 rfl)
      have HR2 := Lib.hid (show IsTrial m 65535 0 by rw [← hr]; exact HR.out)
      obtain ⟨X3, e3, rfl, _, _⟩ := own_form hown
      have HOwn := Lib.hid hown
      clear hr hown
      go_wp2_with fail
      go_ret2
      exact ⟨ys, m, X3, e3, rfl, HTr.out, HR2.out, HOwn.out, HBe.out⟩
    · obtain rfl : b = true := HB.out.2 hr
      obtain ⟨hp, hz, hr2, hrm⟩ := isTrial_prm10 HR.out hr
      obtain ⟨m', hm'⟩ : ∃ m', m / r = m' := ⟨_, rfl⟩
      have hmI : (m : Int) / (r : Int) = (m' : Int) := by rw [← hm']; simp
      have hrz : ((r : Int) == 0) = false := by simp; omega
      have hm'l : m' < m := by rw [← hm']; exact Nat.div_lt_self (by omega) (by omega)
      have HTr2 := Lib.hid (show TriedMid N (ys ++ [r]) m' by rw [← hm']; exact HTr.out.take hp hz (Nat.le_of_lt hrm))
      have hyl := HTr.out.few hN
      obtain ⟨r2, hr2'⟩ := isTrial_some m' 65535
      have HR2 := Lib.hid hr2'
      obtain ⟨b2, hb2⟩ : ∃ b : Bool, b = true ↔ r2 ≠ 0 := ⟨decide (r2 ≠ 0), by simp⟩
      have HB2 := Lib.hid hb2
      have hle : (ys ++ [r]).length = ys.length + 1 := by simp
      have hsz := HBe.out.size
      clear hr2' hb2 hm' hp hz HTr HR HB
      go_wp2_with (at_builtin; refine wpList_append_one _ rfl _ _ 28 rfl w.heap.size 22 i0 (.int .u64 0) 8 Tryz.underlying28 hi hz0 hz1 hz2 rfl _ _ .u64 ys rfl hown _ r rfl rfl (by unfold maxLen; omega) (by omega) hsz ?_)
      intro v3 w3 own3 _ b3
      rw [← hle] at own3
      have HB3 := Lib.hid (HBe.out.trans b3)
      have HOwn := Lib.hid own3
      clear own3 b3 hown HBe
      go_wp2_with fail
      refine (HO.out w3 m' (by omega)).mono ?_
      rintro e w4 ⟨X4, q4, d4, rfl, S4, _, b4⟩
      have HS4 := Lib.hid S4
      have HB4 := Lib.hid (below_step HB3.out b4)
      have HOwn4 := Lib.hid (own_keep10 HOwn.out b4)
      clear S4 b4
      go_wp2_with fail
      refine (HT.out m' r2 b2 w4 X4 q4 d4 (by omega) HR2 HB2 HS4).mono ?_
      rintro e w5 ⟨rfl, b5⟩
      have HB5 := Lib.hid (below_step HB4.out b5)
      have own5 := own_keep10 HOwn4.out b5
      clear b5
      go_wp2_with fail
      go_roundw
      case rel => exact ⟨m', r2, b2, ys ++ [r], rfl, rfl, rfl, by omega, HR2, HB2, HTr2, own5, HB5⟩
      case measure => simp [intOf]; omega
end Go.Proofs.YtakcgamgnmmdlaaGreat

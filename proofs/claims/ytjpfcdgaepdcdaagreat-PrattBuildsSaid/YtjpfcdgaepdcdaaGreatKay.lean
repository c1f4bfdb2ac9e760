/- Several texts in one; each begins with a remark that says what it shows and on which conditions. -/
import Derived.Test.YtjpfcdgaepdcdaaGreatKat
import Derived.Test.YtjpfcdgaepdcdaaGreatKax
import Derived.Test.YtjpfcdgaepdcdaaGreatKal
/- prime.undivided as what a loop over it may rely on: of each base that comes, which number lies there. Conditions: as typed (lengths that fit a machine). -/
namespace Go.Proofs.YtjpfcdgaepdcdaaGreat
open Go.RowKit Go.Shelf
set_option maxRecDepth 20000
attribute [local go_sem] Oper.semAt_some
/-- A base, and where it lies. -/
structure El9 where
  A : Option Addr
  q : Nat
  c : Nat
  x : Nat
/-- Is a base gone through? -/
def keep9 (N x : Nat) : Bool := decide (N ≠ 0 ∧ x % N ≠ 0)
def EnN (y : El9) (W : World) : Prop := NatIs W y.A y.q y.c y.x ∧ y.x < 18446744073709551616
theorem EnN.own (B : Nat) : OwnFrom B EnN := fun _ _ _ _ hs hg hr => ⟨hs.1.still8 hg fun r e => (hr r e).2, hs.2⟩
/-- What a round keeps: all that lay below n₀, and the iterator's two boxes. -/
def KpC (n₀ p r : Nat) (W W' : World) : Prop := Below n₀ W W' ∧ W'.heap[p]? = W.heap[p]? ∧ W'.heap[r]? = W.heap[r]?
theorem KpC.refl (n₀ p r : Nat) (W : World) : KpC n₀ p r W W := ⟨Below.refl _ _, rfl, rfl⟩
theorem KpC.t {n₀ p r : Nat} {A B C : World} (h : KpC n₀ p r A B) (k : KpC n₀ p r B C) : KpC n₀ p r A C := ⟨h.1.trans k.1, k.2.1.trans h.2.1, k.2.2.trans h.2.2⟩
theorem KpC.of {n₀ p r : Nat} {A B : World} (b : Below A.heap.size A B) (hn : n₀ ≤ A.heap.size) (hp : p < A.heap.size) (hr : r < A.heap.size) : KpC n₀ p r A B := ⟨b.mono hn, b.block p hp, b.block r hr⟩
theorem KpC.b {n₀ p r : Nat} {w : World} (hn : n₀ ≤ w.heap.size) (hp : p < w.heap.size) (hr : r < w.heap.size) (W : World) (l : Nat) (o o' : Obj) (hl : w.heap.size ≤ l) (h : W.heap[l]? = some o) (h1 : o.isCells = false) (h2 : o.isWalk = false) : KpC n₀ p r W (W.putObj l o') := by
  have hg := grownBy_putObj' W l o'
  have hlt := (Array.getElem?_eq_some_iff.1 h).1
  exact ⟨belowK_b hn W l o o' hl h h1 h2, hg.block p (by omega) (by simp; omega), hg.block r (by omega) (by simp; omega)⟩
theorem nth_get9 {L : List Nat} {i : Nat} (h : i < L.length) : nth L i = L[i] := by simp [nth, h]
theorem filter_take9 {L : List Nat} {f : Nat → Bool} {i : Nat} (h : i < L.length) : (L.take (i + 1)).filter f = (L.take i).filter f ++ if f (nth L i) then [nth L i] else [] := by
  have e : L.take (i + 1) = L.take i ++ [nth L i] := by
    rw [List.take_add_one, List.getElem?_eq_getElem h, nth_get9 h]
    rfl
  rw [e, List.filter_append]
  congr 1
  by_cases hf : f (nth L i) = true
  · rw [if_pos hf]; simp [hf]
  · rw [if_neg hf]; simp [hf]
/-- What is left of a base: nothing just if it is not gone through. -/
theorem mod_keep9 {w : World} {A A2 : Option Addr} {n m c c2 x N : Nat} (h : NatIn w A n c x) (i : NatIn w A2 m c2 N) (hs : n ≤ 9500) (hs2 : m ≤ 9500) :
    Calls Tryz.prog 77 #[.slice A n c, .slice A2 m c2] w fun e w' => ∃ Y r f er, e = .returned (.tuple #[.slice Y r f, .int .i64 er]) ∧ (0 < r ↔ keep9 N x = true) ∧ r ≤ 50000 ∧ Below w.heap.size w w' := by
  by_cases h0 : N = 0
  · refine (bMod_zero h i h0 (by omega) (by omega)).mono ?_
    rintro e w' ⟨Y, f, rfl, hb⟩
    exact ⟨Y, 0, f, _, rfl, by simp [keep9, h0], by omega, hb⟩
  · refine (bMod_is (x % N) h i rfl h0 hs hs2).mono ?_
    rintro e w' ⟨Y, r, f, rfl, S, hb⟩
    refine ⟨Y, r, f, _, rfl, ?_, S.2.1, hb⟩
    have h1 := S.1
    rw [length_wd] at h1
    have h2 := (nbits_iff (x % N))
    have h3 : keep9 N x = true ↔ x % N ≠ 0 := by simp [keep9, h0]
    rw [h3]
    constructor
    · intro h4 h5
      rw [h5, nbits_zero] at h1
      omega
    · intro h4
      have := h2.2 (by omega)
      omega
set_option maxRecDepth 100000 in
set_option maxHeartbeats 4000000 in
theorem und1_in (n : Nat) (hn : 1 ≤ n) (l p r n₀ q c c2 N : Nat) (A A2 : Option Addr) (L : List Nat) (hL : Words L) (hkl : L.length ≤ 50000) (_ : L.length ≤ c2) (J Jx : List El9 → World → Prop) (W : World) (hJ : AbidesFrom W.heap.size J)
    (hY : ∀ pre x W1, J pre W1 → EnN x W1 → YieldAt Fence.wide (n - 1) Tryz.prog l #[.slice x.A x.q x.c] W1 fun e W' =>
      (e = .returned (.bool true) ∧ J (pre ++ [x]) W' ∧ KpC n₀ p r W1 W') ∨ (e = .returned (.bool false) ∧ Jx (pre ++ [x]) W'))
    (hp : Boxed W p 24 (.slice A2 L.length c2)) (hr : Boxed W r 33 (.slice A q c)) (hn₀ : n₀ ≤ W.heap.size) (hR2 : Rd .u64 W n₀ A2 L)
    (hA : ∃ l : List Nat, l.length = q ∧ natOf l = N ∧ Words l ∧ q ≤ 9500 ∧ Rd .u64 W n₀ A l ∧ q ≤ c) (h0 : J [] W) :
    CallsIn Fence.wide n Tryz.prog 76 #[.func (.yield l) #[] #[], .pointer (some ⟨p, 0, none⟩), .pointer (some ⟨r, 0, none⟩)] W fun e W' => (∃ v, e = .returned v) ∧
      ((∃ ys, ys.map El9.x = L.filter (keep9 N) ∧ J ys W') ∨ (∃ pre, (∀ y ∈ pre, y.x ∈ L ∧ keep9 N y.x = true) ∧ Jx pre W')) := by
  have hpc := hp.cell
  have hpn := hp.lt
  have hrn := hr.lt
  have HR2 := Lib.hid hR2
  have HN := Lib.hid (show ∀ u : World, Below n₀ W u → n₀ ≤ u.heap.size → NatIn u A q c N from fun u b hle => by
    obtain ⟨xs, e1, e2, e3, e4, e5, e6⟩ := hA
    exact ⟨xs, e1, e2, e3, by omega, (e5.below b).more hle, e6⟩)
  have hq : q ≤ 9500 := by obtain ⟨_, _, _, _, h, _⟩ := hA; exact h
  have HY := Lib.hid hY
  have HJ := Lib.hid hJ
  have HP := Lib.hid hp
  have HRB := Lib.hid hr
  have HL := Lib.hid hL
  have H0 := Lib.hid h0
  clear hR2 hA hY hJ hp hr hL h0
  refine callsIn_of_wp Tryz.func76 rfl trivial ?_ rfl
  simp only [Tryz.ntmps76, List.size_toArray, List.length_cons, List.length_nil, Nat.reduceAdd, Nat.reduceSub, Array.replicate_succ, Array.replicate_zero, List.push_toArray, List.append_toArray, List.nil_append, List.cons_append]
  gi_wp2
  gi_loopw [11] (fun iv wr => ∃ (i : Nat) (ys : List El9), i ≤ L.length ∧ iv = .int .i64 i ∧ Hid (ys.map El9.x = (L.take i).filter (keep9 N)) ∧ Hid (J ys wr) ∧ KpC n₀ p r W wr) (fun iv _ => L.length - (intOf iv).toNat)
  case atStart => exact ⟨0, [], Nat.zero_le _, rfl, Lib.hid (by simp), H0, KpC.refl _ _ _ _⟩
  case round =>
    clear hpc
    obtain ⟨i, ys, hi, rfl, hys, hJs, hkp⟩ := hrel
    by_cases hlt : i < L.length
    · have hsz := hkp.1.size
      obtain ⟨b, off, rfl, _, hcell⟩ := (HR2.out.below hkp.1) (by omega)
      have hc1 := hcell i hlt
      obtain ⟨x, hx⟩ : ∃ x, nth L i = x := ⟨_, rfl⟩
      rw [hx] at hc1
      have hxl : x < 18446744073709551616 := by rw [← hx]; exact nth_lt L HL.out i
      have HF := Lib.hid (filter_take9 (f := keep9 N) hlt)
      rw [hx] at HF
      have HX := Lib.hid hx
      have hrb1 := Boxed.cell (hkp.2.2.trans HRB.out)
      clear hcell hx
      have HKP := Lib.hid hkp
      clear hkp
      gi_wp2
      refine ⟨trivial, ?_⟩
      refine (callsIn_wide.2 (bOf wr x hxl)).mono ?_
      rintro e w2 ⟨X, qq, d, rfl, S2, _, b2⟩
      have K2 := HKP.out.t (KpC.of b2 (by omega) (by omega) (by omega))
      have hs2 := K2.1.size
      have hrb2 := Boxed.cell (K2.2.2.trans HRB.out)
      have HM := Lib.hid (mod_keep9 S2.in_ (HN.out w2 K2.1 (by omega)) (by have := natIs_len8 (K := 1) S2 (by have := nbits_of_lt x 64 hxl; omega); omega) hq)
      have HS2 := Lib.hid S2
      have HK2 := Lib.hid K2
      have HJ2 := Lib.hid (HJ.out _ _ _ none hJs.out (grown_of_below b2) (fun r e => by cases e))
      clear S2 K2 hJs
      gi_wp2
      refine ⟨trivial, ?_⟩
      refine (callsIn_wide.2 HM.out).mono ?_
      rintro e w3 ⟨Y, rr, f, er, rfl, hkeep, hrr, b3⟩
      have K3 := HK2.out.t (KpC.of b3 (by omega) (by have := b2.size; omega) (by have := b2.size; omega))
      have HK3 := Lib.hid K3
      have HJ3 := Lib.hid (HJ.out _ _ _ none HJ2.out (grown_of_below b3) (fun r e => by cases e))
      clear K3 HJ2
      rcases Nat.eq_zero_or_pos rr with h0 | h0
      · subst h0
        have hk0 : keep9 N x = false := by
          rcases h : keep9 N x with _ | _
          · rfl
          · exact absurd (hkeep.2 h) (by omega)
        rw [hk0] at HF
        have HF2 := Lib.hid (show ys.map El9.x = (L.take (i + 1)).filter (keep9 N) by rw [HF.out, ← hys.out]; simp)
        clear hkeep HF
        gi_wp2
        refine ⟨fun _ h => (by cases h), ?_⟩
        gi_wp2
        go_roundw
        case rel => exact ⟨i + 1, ys, by omega, by go_num, HF2, HJ3, HK3.out⟩
        case measure => simp [intOf]; omega
      · have hk0 : keep9 N x = true := hkeep.1 h0
        rw [hk0] at HF
        have hY1 := HY.out ys ⟨X, qq, d, x⟩ w3 HJ3.out ⟨HS2.out.step b3, hxl⟩
        dsimp only at hY1
        obtain ⟨fn, tmps, assign, body, hy, hR⟩ := hY1
        have HR := Lib.hid hR
        have h0d : decide ((0 : Int) < (rr : Int)) = true := by simp; omega
        have HF2 := Lib.hid (show (ys ++ [(⟨X, qq, d, x⟩ : El9)]).map El9.x = (L.take (i + 1)).filter (keep9 N) by rw [HF.out, List.map_append, hys.out]; simp)
        clear hkeep HF hR
        gi_wp2
        refine (HR.out).mono ?_
        rintro e W3 (⟨rfl, hJ3, hk3⟩ | ⟨rfl, hJx3⟩)
        · gi_wp2
          go_roundw
          case rel => exact ⟨i + 1, _, by omega, by go_num, HF2, Lib.hid hJ3, HK3.out.t hk3⟩
          case measure => simp [intOf]; omega
        · have HX3 := Lib.hid (show (∀ y ∈ ys ++ [(⟨X, qq, d, x⟩ : El9)], y.x ∈ L ∧ keep9 N y.x = true) from fun y hy => by
            have h1 : y.x ∈ (ys ++ [(⟨X, qq, d, x⟩ : El9)]).map El9.x := List.mem_map.2 ⟨y, hy, rfl⟩
            rw [HF2.out] at h1
            exact ⟨List.mem_of_mem_take (List.mem_filter.1 h1).1, (List.mem_filter.1 h1).2⟩)
          gi_wp2
          refine bodyPost_ret (results_none rfl _ _ _) rfl ?_
          exact ⟨⟨_, rfl⟩, .inr ⟨_, HX3.out, hJx3⟩⟩
    · obtain rfl : i = L.length := by omega
      gi_wp2
      go_end0
      exact ⟨⟨_, rfl⟩, .inl ⟨_, by rw [hys.out, List.take_length], hJs.out⟩⟩
set_option maxHeartbeats 1000000 in
theorem und_in (n : Nat) (A A2 : Option Addr) (q c k c2 : Nat) (w : World) :
    CallsIn Fence.wide n Tryz.prog 53 #[.slice A q c, .slice A2 k c2] w fun e w' =>
      e = .returned (.func (.func 76) #[] #[.pointer (some ⟨w.heap.size + 1, 0, none⟩), .pointer (some ⟨w.heap.size, 0, none⟩)]) ∧ (w.alloc (.cells #[.slice A q c] 33)).alloc (.cells #[.slice A2 k c2] 24) = w' := by
  refine callsIn_of_wp Tryz.func53 rfl trivial ?_ rfl
  simp only [Tryz.ntmps53, List.size_toArray, List.length_cons, List.length_nil, Nat.reduceAdd, Nat.reduceSub, Array.replicate_succ, Array.replicate_zero, List.push_toArray, List.append_toArray, List.nil_append, List.cons_append]
  gi_wp2
  go_ret
  exact ⟨rfl, rfl⟩
/-- The bases that are gone through; or a part of them. -/
theorem und_told (n : Nat) (hn : 1 ≤ n) (p r n₀ q c c2 N : Nat) (A A2 : Option Addr) (L : List Nat) (hL : Words L) (hkl : L.length ≤ 50000) (hkc : L.length ≤ c2) (w : World)
    (hp : Boxed w p 24 (.slice A2 L.length c2)) (hr : Boxed w r 33 (.slice A q c)) (hn₀ : n₀ ≤ w.heap.size) (hR2 : Rd .u64 w n₀ A2 L)
    (hA : ∃ l : List Nat, l.length = q ∧ natOf l = N ∧ Words l ∧ q ≤ 9500 ∧ Rd .u64 w n₀ A l ∧ q ≤ c) :
    SeqTold Fence.wide n Tryz.prog 76 #[.pointer (some ⟨p, 0, none⟩), .pointer (some ⟨r, 0, none⟩)] (fun y : El9 => #[Value.slice y.A y.q y.c]) EnN (KpC n₀ p r) (fun ys => ys.map El9.x = L.filter (keep9 N)) (fun pre => ∀ y ∈ pre, y.x ∈ L ∧ keep9 N y.x = true) w :=
  fun l J Jx W hW hJ _ hY h0 =>
  und1_in n hn l p r n₀ q c c2 N A A2 L hL hkl hkc J Jx W hJ hY ((hW.block p hp.lt).trans hp) ((hW.block r hr.lt).trans hr) (Nat.le_trans hn₀ hW.size) (hR2.below (hW.mono hn₀))
    (by obtain ⟨xs, e1, e2, e3, e4, e5, e6⟩ := hA; exact ⟨xs, e1, e2, e3, e4, e5.below (hW.mono hn₀), e6⟩) h0
end Go.Proofs.YtjpfcdgaepdcdaaGreat
/- prime.Probable. Conditions: as typed (lengths that fit a machine; a number of 1024 bits at most). -/
namespace Go.Proofs.YtjpfcdgaepdcdaaGreat
open Go.RowKit Go.Shelf
set_option maxRecDepth 20000
attribute [local go_sem] Oper.semAt_some
theorem natIs_row9 {w : World} {A : Option Addr} {n c N : Nat} (h : NatIs w A n c N) : RowIs w A n c (wd N) := ⟨h.1, wd_words N, h.2.1, h.2.2.1, h.2.2.2⟩
theorem strong_is9 {w : World} {A A2 : Option Addr} {n m c c2 N x : Nat} (h : NatIs w A n c N) (k : NatIs w A2 m c2 x) (hN : nbits N ≤ 1024) (hx : nbits x ≤ 1024) (b : Bool) (hb : b = true ↔ PassD N x) :
    Calls Tryz.prog 54 #[.slice A n c, .slice A2 m c2] w fun e w' => e = .returned (.bool b) ∧ Below w.heap.size w w' :=
  strong_any9 (natIs_row9 h) (natIs_row9 k) b (by
    rw [natOf_wd, natOf_wd]
    exact hb.trans ⟨fun h => ⟨rfl, rfl, hN, hx, h⟩, fun h => h.2.2.2.2⟩)
/-- Probable, by the bases that are gone through. -/
theorem prob_iff9 {N : Nat} {l : List Nat} (h2 : N ≠ 2) : ProbD N l ↔ (l.filter (keep9 N) ≠ [] ∧ ∀ x ∈ l.filter (keep9 N), PassD N x) := by
  have key : ∀ x, 0 < N → ((¬ (0 < N ∧ x % N = 0)) ↔ keep9 N x = true) := fun x h0 => by
    unfold keep9
    rw [decide_eq_true_eq]
    constructor
    · intro h; exact ⟨by omega, fun h1 => h ⟨h0, h1⟩⟩
    · rintro ⟨_, h⟩ ⟨_, h1⟩; exact h h1
  rcases Nat.eq_zero_or_pos N with rfl | h0
  · have e : l.filter (keep9 0) = [] := List.filter_eq_nil_iff.2 fun x _ => by simp [keep9]
    rw [e]
    constructor
    · rintro (h | ⟨⟨x, hx, hz⟩, hall⟩)
      · omega
      · have := (hall x hx hz).1
        omega
    · rintro ⟨h, _⟩
      exact absurd rfl h
  · constructor
    · rintro (h | ⟨⟨x, hx, hz⟩, hall⟩)
      · exact absurd h h2
      · refine ⟨fun e => ?_, fun y hy => ?_⟩
        · have : x ∈ l.filter (keep9 N) := List.mem_filter.2 ⟨hx, (key x h0).1 hz⟩
          rw [e] at this
          cases this
        · obtain ⟨h3, h4⟩ := List.mem_filter.1 hy
          exact hall y h3 ((key y h0).2 h4)
    · rintro ⟨h3, h4⟩
      refine .inr ⟨?_, fun x hx hz => h4 x (List.mem_filter.2 ⟨hx, (key x h0).1 hz⟩)⟩
      obtain ⟨x, t, e⟩ := List.exists_cons_of_ne_nil h3
      have hx : x ∈ l.filter (keep9 N) := by rw [e]; exact List.mem_cons_self
      obtain ⟨h5, h6⟩ := List.mem_filter.1 hx
      exact ⟨x, h5, (key x h0).2 h6⟩
/-- Between two rounds of Probable. -/
structure ProMid (w : World) (p5 B : Nat) (A : Option Addr) (n c : Nat) (v : Bool) (W : World) : Prop where
  bn : Boxed W w.heap.size 33 (.slice A n c)
  bp : Boxed W p5 4 (.bool v)
  below : Below w.heap.size w W
  size : B ≤ W.heap.size
theorem ProMid.kept {w W W' : World} {p5 B n c : Nat} {A : Option Addr} {v : Bool} {row : Option Nat} (h : ProMid w p5 B A n c v W) (hg : W.grownBy W' row) (hr : ∀ k, row = some k → B ≤ k) (hw : w.heap.size < p5) (hp : p5 < B) : ProMid w p5 B A n c v W' where
  bn := h.bn.kept hg (by intro e; have := hr _ e.symm; omega)
  bp := h.bp.kept hg (by intro e; have := hr _ e.symm; omega)
  below := h.below.grown hg h.below.size (fun k e => by have := hr k e; omega)
  size := Nat.le_trans h.size hg.size
theorem ProMid.put {w W : World} {p5 B n c : Nat} {A : Option Addr} {v : Bool} (h : ProMid w p5 B A n c v W) (x : Bool) (hw : w.heap.size < p5) : ProMid w p5 B A n c x (W.setCell ⟨p5, 0, none⟩ (.bool x)) where
  bn := h.bn.kept (grownBy_setCell' W p5 (.bool x)) (by simp; omega)
  bp := h.bp.set _
  below := h.below.setCell (p := ⟨p5, 0, none⟩) (by simp; omega) _
  size := by simpa [World.setCell] using h.size
set_option maxRecDepth 100000 in
set_option maxHeartbeats 2000000 in
theorem probable_any9 {w : World} {A A2 : Option Addr} {n c N c2 : Nat} {L : List Nat} (S : NatIs w A n c N) (hN : nbits N ≤ 1024) (hr : Rd .u64 w w.heap.size A2 L) (hw : Words L) (hl : L.length ≤ 1000) (hc : L.length ≤ c2) (b : Bool) (hb : b = true ↔ ProbD N L) :
    Calls Tryz.prog 31 #[.slice A n c, .slice A2 L.length c2] w fun e w' => e = .returned (.bool b) ∧ Below w.heap.size w w' := by
  have hn : n ≤ 16 := by
    have h1 := S.1
    rw [length_wd] at h1
    omega
  have b0 := made_below8 w (.cells #[.slice A n c] 33)
  have bm := Boxed.new w 33 (.slice A n c)
  have hcm := bm.cell
  have hmx : Tryz.prog.follows .mixedOrders = true := by kernel_rfl
  have HS := Lib.hid S
  have BM := Lib.hid bm
  clear S bm
  refine (callsIn_wide (n := 9)).1 ?_
  refine callsIn_of_wp_marks Tryz.func31 rfl trivial ?_ rfl
  simp only [Tryz.ntmps31, List.size_toArray, List.length_cons, List.length_nil, Nat.reduceAdd, Nat.reduceSub, Array.replicate_succ, Array.replicate_zero, List.push_toArray, List.append_toArray, List.nil_append, List.cons_append]
  gi_wp2
  refine only_end ?_
  refine wpIn_region_any hmx ?_
  change wpAnyIn _ _ _ _ _ _ _ _ _ (World.drew _)
  refine anyG.toAny (s := 2) (B := fun W' => W'.cell? ⟨w.heap.size, 0, none⟩ = some (.slice A n c)) ?_
  refine anyG_take (i := 0) (v := .slice A n c) rfl (by kernel_rfl) (by kernel_rfl) (by kernel_rfl) (by kernel_rfl) (by kernel_rfl) (by kernel_rfl) (fun _ _ _ h => h) ⟨by rfl, fun W' g1 => ⟨by go_simp, by rfl⟩⟩ ?_
  refine anyG_one (i := 1) (by kernel_rfl) rfl (fun _ => hcm) (fun K hK => ?_)
  go_simp
  refine ⟨trivial, ?_⟩
  refine (callsIn_wide.2 (bOf _ 2 (by omega))).mono ?_
  rintro e w3 ⟨X2, q2, d2, rfl, S2, _, b3⟩
  refine hK _ _ ?_
  clear hK K
  have B3 := below_step (b0.trans (((Drawn.more 1).below _))) b3
  have hs0 : (w.alloc (.cells #[.slice A n c] 33)).drew.heap.size = w.heap.size + 1 := by show (w.alloc _).heap.size = _; simp
  have bm3 : Boxed w3 w.heap.size 33 (.slice A n c) := (b3.block _ (by omega)).trans BM.out
  have hcm3 := bm3.cell
  by_cases h2 : N = 2
  · have HC := Lib.hid (cmp_eq9 (HS.out.step B3).in_ S2.in_ h2)
    have hbt : b = true := hb.2 (.inl h2)
    subst hbt
    clear hb h2
    refine anyG_one (i := 2) (by kernel_rfl) rfl (fun _ => hcm3) (fun K hK => ?_)
    go_simp
    refine ⟨trivial, ?_⟩
    refine (callsIn_wide.2 HC.out).mono ?_
    rintro e w4 ⟨rfl, b4⟩
    have B4 := below_step B3 b4
    have bm4 : Boxed w4 w.heap.size 33 (.slice A n c) := (b4.block _ bm3.lt).trans bm3
    refine hK _ _ ?_
    clear hK K
    refine anyG_one (i := 3) (by kernel_rfl) rfl (fun _ => bm4.cell) (fun K hK => ?_)
    go_simp
    refine hK _ _ ?_
    clear hK K
    refine anyG_done (by kernel_rfl) (by kernel_rfl) ?_
    gi_wp2
    exact ⟨_, results_tmp (t := 4) rfl _ _ _, rfl, B4⟩
  · have HC := Lib.hid (cmp_ne9 (HS.out.step B3).in_ S2.in_ h2)
    rw [prob_iff9 h2] at hb
    have HB := Lib.hid hb
    clear hb h2
    refine anyG_one (i := 2) (by kernel_rfl) rfl (fun _ => hcm3) (fun K hK => ?_)
    go_simp
    refine ⟨trivial, ?_⟩
    refine (callsIn_wide.2 HC.out).mono ?_
    rintro e w4 ⟨v, rfl, hv0, hv1, hv2, b4⟩
    have B4 := below_step B3 b4
    have bm4 : Boxed w4 w.heap.size 33 (.slice A n c) := (b4.block _ bm3.lt).trans bm3
    have hcm4 := bm4.cell
    refine hK _ _ ?_
    clear hK K
    refine anyG_one (i := 3) (by kernel_rfl) rfl (fun _ => bm4.cell) (fun K hK => ?_)
    go_simp
    refine hK _ _ ?_
    clear hK K
    refine anyG_done (by kernel_rfl) (by kernel_rfl) ?_
    have hcm5 := (bm4.alloc (.cells #[.bool false] 4)).cell
    gi_wp2
    refine ⟨trivial, ?_⟩
    refine (und_in _ A A2 n c L.length c2 _).mono ?_
    rintro e w' ⟨rfl, rfl⟩
    have bp5 := Boxed.new w4 4 (.bool false)
    have bn6 := Boxed.new (w4.alloc (.cells #[.bool false] 4)) 33 (.slice A n c)
    have bb7 := Boxed.new ((w4.alloc (.cells #[.bool false] 4)).alloc (.cells #[.slice A n c] 33)) 24 (.slice A2 L.length c2)
    simp only [World.size_alloc] at bn6 bb7
    obtain ⟨E0, hE0⟩ : ∃ E0, ((w4.alloc (.cells #[.bool false] 4)).alloc (.cells #[.slice A n c] 33)).alloc (.cells #[.slice A2 L.length c2] 24) = E0 := ⟨_, rfl⟩
    have hEs : E0.heap.size = w4.heap.size + 3 := by rw [← hE0]; simp
    have hB4s := B4.size
    have hBE : Below w.heap.size w E0 := by rw [← hE0]; exact ((B4.alloc B4.size _).alloc (by simp; omega) _).alloc (by simp; omega) _
    have hw4 : w.heap.size < w4.heap.size := bm4.lt
    have hM0 : ProMid w w4.heap.size E0.heap.size A n c false E0 := by
      refine ⟨?_, ?_, hBE, Nat.le_refl _⟩
      · rw [← hE0]; exact ((bm4.alloc _).alloc _).alloc _
      · rw [← hE0]; exact (bp5.alloc _).alloc _
    have bnE : Boxed E0 (w4.heap.size + 1) 33 (.slice A n c) := by rw [← hE0]; exact bn6.alloc _
    have bbE : Boxed E0 (w4.heap.size + 1 + 1) 24 (.slice A2 L.length c2) := by rw [← hE0]; exact bb7
    have HEs := Lib.hid hEs
    have HBE := Lib.hid hBE
    have HM0 := Lib.hid hM0
    have BNE := Lib.hid bnE
    have BBE := Lib.hid bbE
    have HR := Lib.hid hr
    have HW := Lib.hid hw
    clear bp5 bn6 bb7 hM0 bnE bbE hBE hcm hcm3 hcm4 hcm5 bm3 bm4 hr hw
    gi_wp2
    clear hE0
    refine range_told rfl (by omega) (gf := 76) (lb := #[.pointer (some ⟨w4.heap.size + 1 + 1, 0, none⟩), .pointer (some ⟨w4.heap.size + 1, 0, none⟩)]) rfl trivial (enters_of Tryz.func76 (by kernel_rfl) rfl)
      (und_told 8 (by omega) (w4.heap.size + 1 + 1) (w4.heap.size + 1) w.heap.size n c c2 N A A2 L HW.out (by omega) hc E0 BBE.out BNE.out (by omega) (HR.out.below HBE.out) (by
        obtain ⟨e1, e2, e3, e4⟩ := HS.out
        exact ⟨wd N, e1, natOf_wd N, wd_words N, by omega, e3.below HBE.out, e4⟩))
      KpC.t (KpC.b (by omega) (by omega) (by omega)) (Below.refl _ _) (fun _ => rfl) (EnN.own _)
      (fun pre W => ∃ v, (pre = [] → v = false) ∧ (pre ≠ [] → v = true) ∧ (∀ y ∈ pre, PassD N y.x) ∧ ProMid w w4.heap.size E0.heap.size A n c v W)
      (fun cd pre W => cd = .exit 0 ∧ (∃ y ∈ pre, ¬ PassD N y.x) ∧ ProMid w w4.heap.size E0.heap.size A n c false W)
      (fun s X Y row hs hg hr => by
        obtain ⟨v, h1, h2, h3, h4⟩ := hs
        exact ⟨v, h1, h2, h3, h4.kept hg (fun k e => (hr k e).1) hw4 (by omega)⟩)
      (fun cd s X Y row hs hg hr => ⟨hs.1, hs.2.1, hs.2.2.kept hg (fun k e => (hr k e).1) hw4 (by omega)⟩)
      ⟨false, fun _ => rfl, fun h => absurd rfl h, fun y hy => (by cases hy), HM0.out⟩
      (fun y => { tmps := #[.slice A n c, .slice A2 L.length c2, .pointer (some ⟨w.heap.size, 0, none⟩), undef, .bool false, .pointer (some ⟨w4.heap.size, 0, none⟩), .slice y.A y.q y.c, .slice A n c, .slice X2 q2 d2, .int .i64 v, .bool false, .slice A n c, .slice A2 L.length c2,
        .func (.func 76) #[] #[.pointer (some ⟨w4.heap.size + 1 + 1, 0, none⟩), .pointer (some ⟨w4.heap.size + 1, 0, none⟩)], .slice y.A y.q y.c, undef, undef, undef, undef, undef, undef], defers := [] }) ?assign ?body ?done ?stop
    case assign =>
      intro l x W K hK
      gi_wp2
      exact hK
    case body =>
      rintro l pre x W ⟨v', _, _, hall, hM⟩ ⟨hx1, hx2⟩
      have hxb : nbits x.x ≤ 1024 := by have := nbits_of_lt x.x 64 hx2; omega
      have HST := Lib.hid fun (b' : Bool) (hb' : b' = true ↔ PassD N x.x) => strong_is9 (HS.out.step hM.below) hx1 hN hxb b' hb'
      have hnc := hM.bn.cell
      have HM := Lib.hid hM
      have HALL := Lib.hid hall
      have hWs := hM.size
      have hpc := hM.bp.cell
      have hpf := hM.bp.frozen
      have key : ∀ (W1 : World) (v2 : Bool), Below W.heap.size W W1 → KeepsFrom E0.heap.size W (W1.setCell ⟨w4.heap.size, 0, none⟩ (.bool v2)) ∧ KpC w.heap.size (w4.heap.size + 1 + 1) (w4.heap.size + 1) W (W1.setCell ⟨w4.heap.size, 0, none⟩ (.bool v2)) ∧ ProMid w w4.heap.size E0.heap.size A n c v2 (W1.setCell ⟨w4.heap.size, 0, none⟩ (.bool v2)) := fun W1 v2 b1 => by
        have hg := grown_of_below b1
        have hM1 := HM.out.kept hg (fun k e => by cases e) hw4 (by omega)
        have hs1 := b1.size
        refine ⟨((KeepsOthers.of_grownBy hg (fun j o e => by cases e)).trans (KeepsOthers.setCell _ _ _)).from _, ⟨(b1.mono (by omega)).setCell (p := ⟨w4.heap.size, 0, none⟩) (by simp; omega) _, ?_, ?_⟩, hM1.put v2 hw4⟩
        · exact ((grownBy_setCell' W1 w4.heap.size (.bool v2)).block _ (by omega) (by intro e; injection e with e; omega)).trans (b1.block _ (by omega))
        · exact ((grownBy_setCell' W1 w4.heap.size (.bool v2)).block _ (by omega) (by intro e; injection e with e; omega)).trans (b1.block _ (by omega))
      have KEY := Lib.hid key
      clear key hM hall hx1
      by_cases hpd : PassD N x.x
      · have HS1 := Lib.hid (HST.out true ⟨fun _ => hpd, fun _ => rfl⟩)
        have HP := Lib.hid hpd
        clear hpd
        gi_wp2
        refine ⟨trivial, ?_⟩
        refine (CallsIn.inRound l (callsIn_wide.2 HS1.out)).mono ?_
        rintro e W1 ⟨rfl, b1⟩
        obtain ⟨k1, k2, k3⟩ := KEY.out W1 true b1
        have hM1 := HM.out.kept (grown_of_below b1) (fun k e => by cases e) hw4 (by omega)
        have hpc1 := hM1.bp.cell
        have hpf1 := hM1.bp.frozen
        have hpc2 := k3.bp.cell
        have HF := Lib.hid (show KeepsFrom E0.heap.size W (W1.setCell ⟨w4.heap.size, 0, none⟩ (.bool true)) ∧ KpC w.heap.size (w4.heap.size + 1 + 1) (w4.heap.size + 1) W (W1.setCell ⟨w4.heap.size, 0, none⟩ (.bool true)) ∧
            ∃ v, (pre ++ [x] = [] → v = false) ∧ (pre ++ [x] ≠ [] → v = true) ∧ (∀ y ∈ pre ++ [x], PassD N y.x) ∧ ProMid w w4.heap.size E0.heap.size A n c v (W1.setCell ⟨w4.heap.size, 0, none⟩ (.bool true)) from
          ⟨k1, k2, true, fun h => by simp at h, fun _ => rfl, fun y hy => by
            rcases List.mem_append.1 hy with h | h
            · exact HALL.out y h
            · rw [List.mem_singleton.1 h]; exact HP.out, k3⟩)
        clear k1 k2 k3 hM1
        gi_wp2
        exact HF.out
      · have HS1 := Lib.hid (HST.out false ⟨fun h => (by cases h), fun h => absurd h hpd⟩)
        have HP := Lib.hid hpd
        clear hpd
        gi_wp2
        refine ⟨trivial, ?_⟩
        refine (CallsIn.inRound l (callsIn_wide.2 HS1.out)).mono ?_
        rintro e W1 ⟨rfl, b1⟩
        obtain ⟨k1, k2, k3⟩ := KEY.out W1 false b1
        have hM1 := HM.out.kept (grown_of_below b1) (fun k e => by cases e) hw4 (by omega)
        have hpc1 := hM1.bp.cell
        have hpf1 := hM1.bp.frozen
        have hpc2 := k3.bp.cell
        have HF := Lib.hid (show KeepsFrom E0.heap.size W (W1.setCell ⟨w4.heap.size, 0, none⟩ (.bool false)) ∧ (Code.exit 0 = Code.exit 0 ∧ (∃ y ∈ pre ++ [x], ¬ PassD N y.x) ∧ ProMid w w4.heap.size E0.heap.size A n c false (W1.setCell ⟨w4.heap.size, 0, none⟩ (.bool false))) from
          ⟨k1, rfl, ⟨x, List.mem_append.2 (.inr (List.mem_singleton.2 rfl)), HP.out⟩, k3⟩)
        clear k1 k2 k3 hM1
        gi_wp2
        exact ⟨HF.out.1, rfl, HF.out.2.2.1, HF.out.2.2.2⟩
    case done =>
      rintro D ys W hD hys ⟨v', hv1, hv2, hall, hM⟩ hKd
      have HKd := Lib.hid hKd
      have hbv : b = v' := by
        have h1 : L.filter (keep9 N) = [] ↔ ys = [] := by rw [← hys]; simp
        rcases hv : v' with _ | _
        · rcases hb : b with _ | _
          · rfl
          · have h2 := (HB.out.1 hb).1
            have := hv2 (fun h => h2 (h1.2 h))
            rw [hv] at this
            cases this
        · refine HB.out.2 ⟨fun h => ?_, fun x hx => ?_⟩
          · have := hv1 (h1.1 h)
            rw [hv] at this
            cases this
          · rw [← hys] at hx
            obtain ⟨y, hy, rfl⟩ := List.mem_map.1 hx
            exact hall y hy
      subst hbv
      have hpc := hM.bp.cell
      have HBF := Lib.hid (show Below w.heap.size w (W.putObj D (.deferred none)) from hM.below.trans (belowK_b (w := w) (Nat.le_refl _) W D _ _ (by omega) HKd.out rfl rfl))
      clear hys hKd hv1 hv2 hall hM
      gi_wp2
      refine ⟨by simp, .inl ⟨_, _, rfl, run_takeDeferred HKd.out, ?_⟩⟩
      exact ⟨_, results_tmp (t := 4) rfl _ _ _, rfl, HBF.out⟩
    case stop =>
      rintro D cd pre W hD hpre ⟨rfl, ⟨y, hy, hnp⟩, hM⟩ hKd
      have HKd := Lib.hid hKd
      have hbf : b = false := by
        rcases hb : b with _ | _
        · rfl
        · exact absurd ((HB.out.1 hb).2 y.x (List.mem_filter.2 (hpre y hy))) hnp
      subst hbf
      have hpc := hM.bp.cell
      have HBF := Lib.hid (show Below w.heap.size w (W.putObj D (.deferred none)) from hM.below.trans (belowK_b (w := w) (Nat.le_refl _) W D _ _ (by omega) HKd.out rfl rfl))
      clear hpre hKd hM hnp
      gi_wp2
      refine ⟨by simp, .inl ⟨_, _, rfl, run_takeDeferred HKd.out, ?_⟩⟩
      exact ⟨_, results_tmp (t := 4) rfl _ _ _, rfl, HBF.out⟩
end Go.Proofs.YtjpfcdgaepdcdaaGreat
/- prime.Is and prime.Next. Conditions: as typed (numbers below 2^32). -/
namespace Go.Proofs.YtjpfcdgaepdcdaaGreat
open Go.RowKit
set_option maxRecDepth 20000
/-! Which bases tell of a prime -/
theorem big_eleven : ¬ PassD 3215031751 11 := fun h => by
  have h1 := (passD_iff (by omega) (by omega) (show 3215031751 - 1 = 2 ^ 1 * 1607515875 by decide) (by decide)).1 h
  have h2 := spd_of h1
  have h3 : spd 3215031751 11 1 1607515875 = false := by decide +kernel
  rw [h3] at h2
  cases h2
theorem prm_two9 : Prm 2 := prm_tried (f := 0) (by omega) rfl (by omega)
theorem prob_list9 {K : Nat} {L : List Nat} (hK : K < 4294967296) (m2 : 2 ∈ L) (m3 : 3 ∈ L) (m5 : 5 ∈ L) (m7 : 7 ∈ L) (m11 : K = 3215031751 → 11 ∈ L) : ProbD K L ↔ Prm K := by
  constructor
  · rintro (rfl | ⟨⟨x, hx, hxz⟩, hall⟩)
    · exact prm_two9
    · have hp := hall x hx hxz
      have h3 := hp.1
      have ho := hp.2.1
      by_cases h7 : K ≤ 7
      · have : K = 3 ∨ K = 5 ∨ K = 7 := by omega
        rcases this with rfl | rfl | rfl
        · exact prm_tried (f := 0) (by omega) rfl (by omega)
        · exact prm_tried (f := 1) (by omega) (by decide) (by omega)
        · exact prm_tried (f := 1) (by omega) (by decide) (by omega)
      · have hp2 := hall 2 m2 (by rw [Nat.mod_eq_of_lt (by omega)]; omega)
        have hp3 := hall 3 m3 (by rw [Nat.mod_eq_of_lt (by omega)]; omega)
        have hp5 := hall 5 m5 (by rw [Nat.mod_eq_of_lt (by omega)]; omega)
        have hp7 := hall 7 m7 (by rw [Nat.mod_eq_of_lt (by omega)]; omega)
        rcases four_bases (by omega) (by omega) hp2.2.2 hp3.2.2 hp5.2.2 hp7.2.2 with h | h
        · exact h
        · have h11 := hall 11 (m11 h) (by rw [Nat.mod_eq_of_lt (by omega)]; omega)
          rw [h] at h11
          exact absurd h11 big_eleven
  · intro h
    by_cases h2 : K = 2
    · exact .inl h2
    · have hK2 := h.1
      have ho : K % 2 = 1 := by
        rcases Nat.mod_two_eq_zero_or_one K with h0 | h0
        · exfalso
          rcases h.2 2 (Nat.dvd_of_mod_eq_zero h0) with e | e <;> omega
        · exact h0
      refine .inr ⟨⟨2, m2, ?_⟩, fun x _ hz => ⟨by omega, ho, h.pass ho fun hd => hz ⟨by omega, Nat.mod_eq_zero_of_dvd hd⟩⟩⟩
      rw [Nat.mod_eq_of_lt (by omega)]
      omega
theorem not_prm_tried {n r most : Nat} (h : IsTrial n most r) (hr : r ≠ 0) : ¬ Prm n := fun hp => by
  rcases h with ⟨h, _⟩ | ⟨h1, _, _, h4, h5, _⟩
  · exact hr h
  · rcases hp.2 r (Nat.dvd_of_mod_eq_zero h5) with e | e <;> omega
/-- The bases for a number. -/
def bases9 (n : Nat) : List Nat := if n < 3215031751 then [2, 3, 5, 7] else [2, 3, 5, 7, 11, 13, 17, 19, 23, 29, 31, 37]
theorem prob_bases9 {n : Nat} (h : n < 4294967296) : ProbD n (bases9 n) ↔ Prm n := by
  unfold bases9
  split
  · exact prob_list9 h (by simp) (by simp) (by simp) (by simp) (fun e => by omega)
  · exact prob_list9 h (by simp) (by simp) (by simp) (by simp) (fun _ => by simp)
theorem bases_words9 (n : Nat) : Words (bases9 n) := by
  unfold bases9
  intro x hx
  split at hx <;> simp at hx <;> omega
theorem bases_length9 (n : Nat) : (bases9 n).length ≤ 12 := by unfold bases9; split <;> simp
set_option maxHeartbeats 1000000 in
theorem deciding_any (n : Nat) (w : World) : Calls Tryz.prog 32 #[.int .u64 n] w fun e w' => ∃ X c, e = .returned (.slice X (bases9 n).length c) ∧ Rd .u64 w' w'.heap.size X (bases9 n) ∧ (bases9 n).length ≤ c ∧ Below w.heap.size w w' := by
  by_cases h : n < 3215031751
  · have e : bases9 n = [2, 3, 5, 7] := if_pos h
    rw [e]
    have HR := Lib.hid ((Rd.lit w .u64 27 [2, 3, 5, 7]).more (B' := (w.alloc (.cells (ints .u64 [2, 3, 5, 7]).toArray 27)).heap.size) (by simp))
    have hb := Lib.hid (made_below8 w (.cells (ints .u64 [2, 3, 5, 7]).toArray 27))
    have hd : decide ((n : Int) < 3215031751) = true := by simp; omega
    clear e
    go_enter Tryz.func32, Tryz.ntmps32
    go_wp2_with fail
    go_ret
    exact ⟨_, _, rfl, HR.out, Nat.le_refl _, hb.out⟩
  · have e : bases9 n = [2, 3, 5, 7, 11, 13, 17, 19, 23, 29, 31, 37] := if_neg h
    rw [e]
    have HR := Lib.hid ((Rd.lit w .u64 27 [2, 3, 5, 7, 11, 13, 17, 19, 23, 29, 31, 37]).more (B' := (w.alloc (.cells (ints .u64 [2, 3, 5, 7, 11, 13, 17, 19, 23, 29, 31, 37]).toArray 27)).heap.size) (by simp))
    have hb := Lib.hid (made_below8 w (.cells (ints .u64 [2, 3, 5, 7, 11, 13, 17, 19, 23, 29, 31, 37]).toArray 27))
    have hd : decide ((n : Int) < 3215031751) = false := by simp; omega
    clear e
    go_enter Tryz.func32, Tryz.ntmps32
    go_wp2_with fail
    go_ret
    exact ⟨_, _, rfl, HR.out, Nat.le_refl _, hb.out⟩
set_option maxHeartbeats 1000000 in
theorem is_any9 (n : Nat) (hn : n < 4294967296) (b : Bool) (hb : b = true ↔ Prm n) (w : World) : Calls Tryz.prog 15 #[.int .u64 n] w fun e w' => e = .returned (.bool b) ∧ Below w.heap.size w w' := by
  obtain ⟨r, hr⟩ := isTrial_some n 64
  have hrn : r < 4294967296 := by
    rcases hr with ⟨h, _⟩ | ⟨_, _, _, h, _⟩ <;> omega
  have hT : ∀ (b' : Bool), (b' = true ↔ r ≠ 0) → ∀ (u : World) (X : Option Addr) (q d : Nat), NatIs u X q d n → Calls Tryz.prog 30 #[.slice X q d, .int .u64 64] u fun e w' => e = .returned (.tuple #[.int .u64 r, .bool b']) ∧ Below u.heap.size u w' := fun b' hb' u X q d S =>
    trial_any (natIs_row9 S) (by have := natIs_len8 (K := 1) S (by have := nbits_of_lt n 64 (by omega); omega); omega) 64 r (by omega) (by rw [natOf_wd, if_pos rfl]; exact hr) b' hb'
  have HO := Lib.hid (bOf w n (by omega))
  by_cases h0 : r = 0
  · subst h0
    have HT := Lib.hid (hT false ⟨fun h => (by cases h), fun h => absurd rfl h⟩)
    have HP := Lib.hid (show ∀ (u : World) (X A2 : Option Addr) (q d c2 : Nat), NatIs u X q d n → Rd .u64 u u.heap.size A2 (bases9 n) → (bases9 n).length ≤ c2 → Calls Tryz.prog 31 #[.slice X q d, .slice A2 (bases9 n).length c2] u fun e w' => e = .returned (.bool b) ∧ Below u.heap.size u w' from
      fun u X A2 q d c2 S hR hc => probable_any9 S (by have := nbits_of_lt n 64 (by omega); omega) hR (bases_words9 n) (by have := bases_length9 n; omega) hc b (hb.trans (prob_bases9 hn).symm))
    clear hT hr hb
    go_enter Tryz.func15, Tryz.ntmps15
    go_wp2_with fail
    refine (HO.out).mono ?_
    rintro e w1 ⟨X, q, d, rfl, S1, _, b1⟩
    have HS1 := Lib.hid S1
    clear S1
    go_wp2_with fail
    refine (HT.out w1 X q d HS1.out).mono ?_
    rintro e w2 ⟨rfl, b2⟩
    have B2 := below_step b1 b2
    have HS2 := Lib.hid (HS1.out.step b2)
    go_wp2_with fail
    refine (deciding_any n w2).mono ?_
    rintro e w3 ⟨A2, c2, rfl, hR, hc, b3⟩
    have B3 := below_step B2 b3
    have HPP := Lib.hid (HP.out w3 X A2 q d c2 (HS2.out.step b3) hR hc)
    have hbl := bases_length9 n
    obtain ⟨k, hk⟩ : ∃ k, (bases9 n).length = k := ⟨_, rfl⟩
    rw [hk] at HPP hbl hc
    rw [hk]
    clear hR
    go_wp2_with fail
    refine (HPP.out).mono ?_
    rintro e w4 ⟨rfl, b4⟩
    go_wp2_with fail
    go_ret
    exact ⟨rfl, below_step B3 b4⟩
  · have HT := Lib.hid (hT true ⟨fun _ => h0, fun _ => rfl⟩)
    have hbf : b = false := by
      rcases h : b with _ | _
      · rfl
      · exact absurd (hb.1 h) (not_prm_tried hr h0)
    subst hbf
    clear hT hr hb
    go_enter Tryz.func15, Tryz.ntmps15
    go_wp2_with fail
    refine (HO.out).mono ?_
    rintro e w1 ⟨X, q, d, rfl, S1, _, b1⟩
    have HS1 := Lib.hid S1
    clear S1
    go_wp2_with fail
    refine (HT.out w1 X q d HS1.out).mono ?_
    rintro e w2 ⟨rfl, b2⟩
    go_wp2_with fail
    go_ret
    exact ⟨rfl, below_step b1 b2⟩
/-! The next prime -/
theorem prm_odd9 {p : Nat} (h : Prm p) (h3 : 3 ≤ p) : p % 2 = 1 := by
  rcases Nat.mod_two_eq_zero_or_one p with h0 | h0
  · rcases h.2 2 (Nat.dvd_of_mod_eq_zero h0) with e | e <;> omega
  · exact h0
end Go.Proofs.YtjpfcdgaepdcdaaGreat
/- prime's contracts, as laws use them. Conditions: as typed (lengths that fit a machine; numbers below 2^32). -/
namespace Go.Proofs.YtjpfcdgaepdcdaaGreat
open Go.RowKit
/-- What the row lists, as the contracts ask it: nothing, as long as no table is read. -/
def LaidP (_ : World) : Prop := True
theorem LaidP.below {w w' : World} (_ : LaidP w) (_ : Below w.heap.size w w') : LaidP w' := trivial
section
variable {w : World} {A A2 : Option Addr} {n m c c2 : Nat} {l l2 : List Nat}
end
theorem primeIs_any (n : Nat) (hn : n < 4294967296) (b : Bool) (hb : b = true ↔ Prm n) (w : World) (hL : LaidP w) : Calls Tryz.prog 15 #[.int .u64 n] w fun e w' => e = .returned (.bool b) ∧ Below w.heap.size w w' := (fun _ => is_any9 n hn b hb w) hL
end Go.Proofs.YtjpfcdgaepdcdaaGreat
/- Plain facts on the row of a draw, and on what numbers are products of. No condition but those typed; no program is named. -/
namespace Go.Proofs.YtjpfcdgaepdcdaaGreat
/-! The row of a draw -/
def rowS (n c x : Nat) : Nat := (x * x + c) % n
def distS (x y : Nat) : Nat := max x y - min x y
/-- What the distance at a place has in common with n, if that is below n; or 0. -/
def foundS (n d : Nat) : Nat := if d < n then d else 0
/-- What so many further steps of a row show: the common factor of the first distance that has one; or 0. -/
def splitS (n c : Nat) : Nat → Nat → Nat → Nat
  | 0, _, _ => 0
  | k + 1, x, y =>
    if 1 < Nat.gcd (distS (rowS n c x) (rowS n c (rowS n c y))) n then foundS n (Nat.gcd (distS (rowS n c x) (rowS n c (rowS n c y))) n) else splitS n c k (rowS n c x) (rowS n c (rowS n c y))
theorem foundS_or (n d : Nat) : (d < n ∧ foundS n d = d) ∨ (¬ d < n ∧ foundS n d = 0) := by
  unfold foundS; split
  · exact .inl ⟨by assumption, rfl⟩
  · exact .inr ⟨by assumption, rfl⟩
theorem splitS_step {n c k x y x' y' y1 d : Nat} (hx : rowS n c x = x') (hy1 : rowS n c y = y1) (hy : rowS n c y1 = y') (hd : Nat.gcd (distS x' y') n = d) :
    splitS n c (k + 1) x y = if 1 < d then foundS n d else splitS n c k x' y' := by
  subst hx hy1 hy hd; rfl
theorem splitS_dvd (n c : Nat) : ∀ k x y, splitS n c k x y ≠ 0 → splitS n c k x y ∣ n ∧ 1 < splitS n c k x y ∧ splitS n c k x y < n := by
  intro k
  induction k with
  | zero => intro x y h; exact absurd rfl h
  | succ k ih =>
    intro x y h
    rw [splitS_step rfl rfl rfl rfl] at h ⊢
    split
    · rename_i h1
      rw [if_pos h1] at h
      rcases foundS_or n (Nat.gcd (distS (rowS n c x) (rowS n c (rowS n c y))) n) with ⟨h2, h3⟩ | ⟨_, h3⟩
      · rw [h3]; exact ⟨Nat.gcd_dvd_right _ _, h1, h2⟩
      · exact absurd h3 h
    · rename_i h1
      rw [if_neg h1] at h
      exact ih _ _ h
/-- What Split tells: 0 for none. -/
def splitD (n c : Nat) (most : Int) : Nat := if n < 4 then 0 else splitS n c (min most 1048576).toNat 2 2
theorem splitD_dvd {n c : Nat} {most : Int} (h : splitD n c most ≠ 0) : splitD n c most ∣ n ∧ 1 < splitD n c most ∧ splitD n c most < n := by
  unfold splitD at h ⊢
  split
  · rename_i h1; rw [if_pos h1] at h; exact absurd rfl h
  · rename_i h1; rw [if_neg h1] at h; exact splitS_dvd _ _ _ _ _ h
theorem rowS_lt {n c x : Nat} (h : 0 < n) : rowS n c x < n := Nat.mod_lt _ h
theorem gcd_pos10 {n d x : Nat} (hn : 0 < n) (h : Nat.gcd x n = d) : 0 < d ∧ d ≤ n := by
  subst h
  exact ⟨Nat.gcd_pos_of_pos_right _ hn, Nat.le_of_dvd hn (Nat.gcd_dvd_right _ _)⟩
/-! Products of primes that rise -/
def prodN (l : List Nat) : Nat := l.foldr (· * ·) 1
theorem prodN_nil : prodN [] = 1 := rfl
theorem prodN_cons (a : Nat) (l : List Nat) : prodN (a :: l) = a * prodN l := rfl
theorem prodN_append (l m : List Nat) : prodN (l ++ m) = prodN l * prodN m := by
  induction l with
  | nil => simp [prodN_nil]
  | cons a l ih => rw [List.cons_append, prodN_cons, prodN_cons, ih, Nat.mul_assoc]
theorem prodN_one (a : Nat) : prodN [a] = a := by rw [prodN_cons, prodN_nil, Nat.mul_one]
theorem prodN_mem_dvd {l : List Nat} {x : Nat} (h : x ∈ l) : x ∣ prodN l := by
  induction l with
  | nil => cases h
  | cons a l ih =>
    rw [prodN_cons]
    rcases List.mem_cons.1 h with rfl | h
    · exact Nat.dvd_mul_right _ _
    · exact Nat.dvd_trans (ih h) (Nat.dvd_mul_left _ _)
theorem Prm.one_not {p : Nat} (hp : Prm p) : ¬ p ∣ 1 := fun h => by
  have := hp.1
  have := Nat.le_of_dvd (by omega) h
  omega
theorem Prm.prodN {p : Nat} (hp : Prm p) : ∀ l : List Nat, p ∣ prodN l → ∃ x ∈ l, p ∣ x := by
  intro l
  induction l with
  | nil => intro h; exact absurd h hp.one_not
  | cons a l ih =>
    intro h
    rw [prodN_cons] at h
    rcases hp.euclid _ _ h with h | h
    · exact ⟨a, List.mem_cons_self, h⟩
    · obtain ⟨x, h1, h2⟩ := ih h
      exact ⟨x, List.mem_cons_of_mem _ h1, h2⟩
/-- The primes of a number, rising. -/
def IsFac (n : Nat) (l : List Nat) : Prop := prodN l = n ∧ (∀ p ∈ l, Prm p) ∧ l.Pairwise (· ≤ ·)
theorem prodN_pow2 : ∀ l : List Nat, (∀ p ∈ l, 2 ≤ p) → 2 ^ l.length ≤ prodN l := by
  intro l
  induction l with
  | nil => intro _; exact Nat.le_refl _
  | cons a l ih =>
    intro h
    rw [prodN_cons, List.length_cons, Nat.pow_succ, Nat.mul_comm]
    exact Nat.mul_le_mul (h a List.mem_cons_self) (ih fun p hp => h p (List.mem_cons_of_mem _ hp))
theorem prodN_len {l : List Nat} {k : Nat} (h2 : ∀ p ∈ l, 2 ≤ p) (h : prodN l < 2 ^ k) : l.length < k := by
  rcases Nat.lt_or_ge l.length k with h1 | h1
  · exact h1
  · have := prodN_pow2 l h2
    have := Nat.pow_le_pow_right (n := 2) (by omega) h1
    omega
/-! Trying all -/
/-- No number from 2 on and below d divides m. -/
def NoneBelow (m d : Nat) : Prop := ∀ e, 2 ≤ e → e < d → m % e ≠ 0
theorem NoneBelow.two (m : Nat) : NoneBelow m 2 := fun e h1 h2 => by omega
theorem NoneBelow.more {m d : Nat} (h : NoneBelow m d) (hd : m % d ≠ 0) : NoneBelow m (d + 1) := fun e h1 h2 => by
  rcases Nat.lt_succ_iff_lt_or_eq.1 h2 with h3 | rfl
  · exact h e h1 h3
  · exact hd
theorem NoneBelow.less {m q d : Nat} (h : NoneBelow m d) (hq : q ∣ m) : NoneBelow q d := fun e h1 h2 hz =>
  h e h1 h2 (Nat.mod_eq_zero_of_dvd (Nat.dvd_trans (Nat.dvd_of_mod_eq_zero hz) hq))
theorem NoneBelow.prm {m d : Nat} (h : NoneBelow m d) (h2 : 2 ≤ m) (hd : m < d * d) : Prm m :=
  prm_iff_try.2 ⟨h2, fun e h1 h3 => h e h1 (by
    rcases Nat.lt_or_ge e d with h4 | h4
    · exact h4
    · have := Nat.mul_le_mul h4 h4; omega)⟩
theorem NoneBelow.at_ {m d : Nat} (h : NoneBelow m d) (h2 : 2 ≤ d) (hz : m % d = 0) : Prm d := by
  obtain ⟨p, hp, hd⟩ := prm_factor d h2
  have h3 := hp.1
  rcases Nat.lt_or_ge p d with h4 | h4
  · exact absurd (Nat.mod_eq_zero_of_dvd (Nat.dvd_trans hd (Nat.dvd_of_mod_eq_zero hz))) (h p h3 h4)
  · obtain rfl : p = d := Nat.le_antisymm (Nat.le_of_dvd (by omega) hd) h4
    exact hp
/-- What no number below divides has no factor in a product of lesser ones. -/
theorem NoneBelow.one {m d : Nat} (h : NoneBelow m d) {l : List Nat} (hl : ∀ x ∈ l, 0 < x ∧ x < d) (hd : m ∣ prodN l) : m = 1 := by
  have hp : 0 < prodN l := by
    clear h hd
    induction l with
    | nil => exact Nat.one_pos
    | cons a l ih => rw [prodN_cons]; exact Nat.mul_pos (hl a List.mem_cons_self).1 (ih fun x hx => hl x (List.mem_cons_of_mem _ hx))
  have hm : 0 < m := Nat.pos_of_dvd_of_pos hd hp
  rcases Nat.lt_or_ge m 2 with h1 | h1
  · omega
  · exfalso
    obtain ⟨p, hpp, hpd⟩ := prm_factor m h1
    obtain ⟨x, hx, hpx⟩ := hpp.prodN l (Nat.dvd_trans hpd hd)
    have hx2 := hl x hx
    have hle := Nat.le_of_dvd hx2.1 hpx
    exact h p hpp.1 (by omega) (Nat.mod_eq_zero_of_dvd hpd)
/-- Two numbers without a small factor that are no primes are too much together. -/
theorem two_great {m k : Nat} (hm : NoneBelow m 65536) (hm2 : 2 ≤ m) (hmp : ¬ Prm m) (hk : NoneBelow k 65536) (hk2 : 2 ≤ k) (hkp : ¬ Prm k) : 18446744073709551616 ≤ m * k := by
  have e : ∀ {x}, NoneBelow x 65536 → 2 ≤ x → ¬ Prm x → 4294967296 ≤ x := fun {x} h1 h2 h3 => by
    rcases Nat.lt_or_ge x 4294967296 with h4 | h4
    · exact absurd (h1.prm h2 (by omega)) h3
    · exact h4
  exact Nat.mul_le_mul (e hm hm2 hmp) (e hk hk2 hkp)
/-! The document's trying: what was told, what is left, what is tried next -/
structure Trying (n : Nat) (l : List Nat) (m d : Nat) : Prop where
  all : prodN l * m = n
  primes : ∀ p ∈ l, Prm p
  rise : l.Pairwise (· ≤ ·)
  most : ∀ p ∈ l, p ≤ d
  none : NoneBelow m d
  pos : 0 < m
theorem Trying.start {n : Nat} (h : 0 < n) : Trying n [] n 2 := ⟨by rw [prodN_nil, Nat.one_mul], by simp, List.Pairwise.nil, by simp, NoneBelow.two n, h⟩
theorem Trying.take {n : Nat} {l : List Nat} {m d : Nat} (h : Trying n l m d) (h2 : 2 ≤ d) (hz : m % d = 0) : Trying n (l ++ [d]) (m / d) d where
  all := by
    rw [prodN_append, prodN_one, Nat.mul_assoc, Nat.mul_div_cancel' (Nat.dvd_of_mod_eq_zero hz)]
    exact h.all
  primes := fun p hp => by
    rcases List.mem_append.1 hp with h1 | h1
    · exact h.primes p h1
    · rw [List.mem_singleton.1 h1]; exact h.none.at_ h2 hz
  rise := List.pairwise_append.2 ⟨h.rise, List.pairwise_singleton _ _, fun a ha b hb => by rw [List.mem_singleton.1 hb]; exact h.most a ha⟩
  most := fun p hp => by
    rcases List.mem_append.1 hp with h1 | h1
    · exact h.most p h1
    · rw [List.mem_singleton.1 h1]; exact Nat.le_refl _
  none := h.none.less (Nat.div_dvd_of_dvd (Nat.dvd_of_mod_eq_zero hz))
  pos := Nat.div_pos (Nat.le_of_dvd h.pos (Nat.dvd_of_mod_eq_zero hz)) (by omega)
theorem Trying.next {n : Nat} {l : List Nat} {m d : Nat} (h : Trying n l m d) (hz : m % d ≠ 0) : Trying n l m (d + 1) :=
  ⟨h.all, h.primes, h.rise, fun p hp => by have := h.most p hp; omega, h.none.more hz, h.pos⟩
theorem Trying.done {n : Nat} {l : List Nat} {d : Nat} (h : Trying n l 1 d) : IsFac n l := ⟨by rw [← h.all, Nat.mul_one], h.primes, h.rise⟩
theorem Trying.last {n : Nat} {l : List Nat} {m d : Nat} (h : Trying n l m d) (h2 : 1 < m) (hd : m < d * d) : IsFac n (l ++ [m]) := by
  have hp := h.none.prm h2 hd
  refine ⟨by rw [prodN_append, prodN_one]; exact h.all, fun p h1 => ?_, List.pairwise_append.2 ⟨h.rise, List.pairwise_singleton _ _, fun a ha b hb => ?_⟩⟩
  · rcases List.mem_append.1 h1 with h3 | h3
    · exact h.primes p h3
    · rw [List.mem_singleton.1 h3]; exact hp
  · rw [List.mem_singleton.1 hb]
    have h3 := h.most a ha
    rcases Nat.lt_or_ge m d with h4 | h4
    · exact absurd (Nat.mod_self m) (h.none m h2 h4)
    · omega
theorem Trying.few {n : Nat} {l : List Nat} {m d k : Nat} (h : Trying n l m d) (hn : n < 2 ^ k) : l.length < k :=
  prodN_len (fun p hp => (h.primes p hp).1) (Nat.lt_of_le_of_lt (by rw [← h.all]; exact Nat.le_mul_of_pos_right _ h.pos) hn)
/-! What Factors tells -/
/-- What is told of a number n, by a test W of which it is known that it takes all primes, and below 2^32 no other number. -/
structure Told10 (W : Nat → Prop) (n : Nat) (l : List Nat) (rest e : Nat) : Prop where
  all : prodN l * rest = n
  tested : ∀ p ∈ l, W p
  great : ∀ p ∈ l, 2 ≤ p
  rise : l.Pairwise (· ≤ ·)
  ends : (e = 0 ∧ rest = 1) ∨ (e = 11 ∧ 1 < rest ∧ ¬ W rest ∧ NoneBelow rest 65536)
theorem Told10.small {W : Nat → Prop} (hW : ∀ x, x < 4294967296 → (W x ↔ Prm x)) {n : Nat} {l : List Nat} {rest e : Nat} (h : Told10 W n l rest e) (h0 : 0 < n) (hn : n < 4294967296) : e = 0 ∧ rest = 1 ∧ IsFac n l := by
  have hr : rest ∣ n := by rw [← h.all]; exact Nat.dvd_mul_left _ _
  have hrl := Nat.le_of_dvd h0 hr
  rcases h.ends with ⟨h1, h2⟩ | ⟨_, h2, h3, h4⟩
  · refine ⟨h1, h2, by rw [← h.all, h2, Nat.mul_one], fun p hp => (hW p ?_).1 (h.tested p hp), h.rise⟩
    have := Nat.le_of_dvd h0 (Nat.dvd_trans (prodN_mem_dvd hp) (show prodN l ∣ n by rw [← h.all]; exact Nat.dvd_mul_right _ _))
    omega
  · exact absurd ((hW rest (by omega)).2 (h4.prm h2 (by omega))) h3
theorem Told10.few {W : Nat → Prop} {n : Nat} {l : List Nat} {rest e : Nat} (h : Told10 W n l rest e) {k : Nat} (h0 : 0 < n) (hn : n < 2 ^ k) : l.length < k := by
  refine prodN_len h.great (Nat.lt_of_le_of_lt ?_ hn)
  rw [← h.all]
  refine Nat.le_mul_of_pos_right _ ?_
  rcases Nat.eq_zero_or_pos rest with h1 | h1
  · have := h.all; rw [h1, Nat.mul_zero] at this; omega
  · exact h1
end Go.Proofs.YtjpfcdgaepdcdaaGreat
/- Plain facts on Pratt's certificates. No condition but those typed; no program is named. -/
namespace Go.Proofs.YtjpfcdgaepdcdaaGreat
/-! Powers tell that a number is a prime -/
theorem pow_split11 {p g : Nat} (hp : 1 < p) (h1 : g ^ (p - 1) % p = 1) {k : Nat} (hk : k ≤ p - 1) : g ^ k * g ^ (p - 1 - k) % p = 1 := by
  rw [← Nat.pow_add, show k + (p - 1 - k) = p - 1 by omega]; exact h1
theorem lucas11 {p g : Nat} (hp : 3 ≤ p) (h1 : g ^ (p - 1) % p = 1) (hq : ∀ q, Prm q → q ∣ p - 1 → g ^ ((p - 1) / q) % p ≠ 1) : Prm p := by
  have h2 : 1 < p := by omega
  have inj : ∀ i j, 1 ≤ i → i < j → j ≤ p - 1 → g ^ i % p ≠ g ^ j % p := by
    intro i j hi hij hj he
    have h3 : g ^ (p - 1 + (j - i)) % p = 1 := by
      have e : p - 1 + (j - i) = j + (p - 1 - i) := by omega
      rw [e, Nat.pow_add, Nat.mul_mod, ← he, ← Nat.mul_mod]
      exact pow_split11 h2 h1 (by omega)
    have h4 := one_left h1 h3
    have h5 := one_gcd h2 (j - i) (p - 1) h4 h1
    obtain ⟨d, hd⟩ : ∃ d, Nat.gcd (j - i) (p - 1) = d := ⟨_, rfl⟩
    rw [hd] at h5
    have hd1 : d ∣ p - 1 := by rw [← hd]; exact Nat.gcd_dvd_right _ _
    have hd2 : d ≤ j - i := by rw [← hd]; exact Nat.gcd_le_left _ (by omega)
    obtain ⟨m, hm⟩ := hd1
    have hm2 : 2 ≤ m := by
      rcases Nat.lt_or_ge m 2 with h6 | h6
      · exfalso
        have : m = 0 ∨ m = 1 := by omega
        rcases this with rfl | rfl
        · omega
        · rw [Nat.mul_one] at hm; omega
      · exact h6
    obtain ⟨q, hqp, t, ht⟩ := prm_factor m hm2
    have hq0 : 0 < q := by have := hqp.1; omega
    have e : p - 1 = q * (d * t) := by rw [hm, ht, Nat.mul_left_comm]
    refine hq q hqp ⟨d * t, e⟩ ?_
    rw [e, Nat.mul_div_cancel_left _ hq0]
    exact one_times h2 h5 t
  have hperm := perm_upTo (fun k => g ^ k % p) (p - 1) (fun k _ hk => by
      have h3 := pow_split11 h2 h1 hk
      have h4 : g ^ k % p < p := Nat.mod_lt _ (by omega)
      have h5 : g ^ k % p ≠ 0 := fun h0 => by
        rw [Nat.mul_mod, h0, Nat.zero_mul, Nat.zero_mod] at h3
        omega
      show 1 ≤ g ^ k % p ∧ g ^ k % p ≤ p - 1
      omega)
    (fun k j hk1 hk hj1 hj he => by
      rcases Nat.lt_trichotomy k j with h | h | h
      · exact absurd he (inj k j hk1 h hj)
      · exact h
      · exact absurd he.symm (inj j k hj1 h hk))
  refine ⟨by omega, fun d hd => ?_⟩
  have hd1 : 0 < d := Nat.pos_of_dvd_of_pos hd (by omega)
  have hd2 : d ≤ p := Nat.le_of_dvd (by omega) hd
  rcases Nat.lt_or_ge d p with h3 | h3
  · refine .inl ?_
    have h4 : d ∈ (upTo (p - 1)).map (fun k => g ^ k % p) := hperm.mem_iff.2 (mem_upTo.2 ⟨hd1, by omega⟩)
    obtain ⟨k, hk, he⟩ := List.mem_map.1 h4
    have hk2 := (mem_upTo.1 hk).2
    have h5 := pow_split11 h2 h1 hk2
    have h6 : d ∣ g ^ k := by
      have h7 : g ^ k = p * (g ^ k / p) + d := by
        have h8 := Nat.div_add_mod (g ^ k) p
        have h9 : g ^ k % p = d := he
        omega
      rw [h7]
      exact Nat.dvd_add (Nat.dvd_trans hd (Nat.dvd_mul_right _ _)) (Nat.dvd_refl _)
    have h7 : d ∣ g ^ k * g ^ (p - 1 - k) := Nat.dvd_trans h6 (Nat.dvd_mul_right _ _)
    have h8 := Nat.div_add_mod (g ^ k * g ^ (p - 1 - k)) p
    rw [h5] at h8
    have h9 : d ∣ 1 := (Nat.dvd_add_right (Nat.dvd_trans hd (Nat.dvd_mul_right p (g ^ k * g ^ (p - 1 - k) / p)))).1 (by rw [h8]; exact h7)
    exact Nat.dvd_one.1 h9
  · exact .inr (Nat.le_antisymm hd2 h3)
/-! Certificates -/
/-- A step: its number, what shows it, and the primes of one less. -/
structure CStep where
  P : Nat
  G : Nat
  Q : List Nat
/-- A step shows its number, with those that were shown ahead. -/
structure StepOk (s : CStep) (ahead : List Nat) : Prop where
  odd : s.P % 2 = 1
  three : 3 ≤ s.P
  one : 1 ≤ s.G
  less : s.G < s.P
  rise : s.Q.Pairwise (· < ·)
  shown : ∀ q ∈ s.Q, (q < 65536 ∧ Prm q) ∨ q ∈ ahead
  parts : ∀ q ∈ s.Q, q ∣ s.P - 1
  all : ∀ r, Prm r → r ∣ s.P - 1 → r ∈ s.Q
  whole : s.G ^ (s.P - 1) % s.P = 1
  none : ∀ q ∈ s.Q, s.G ^ ((s.P - 1) / q) % s.P ≠ 1
def CertOk : List Nat → List CStep → Prop
  | _, [] => True
  | a, s :: r => StepOk s a ∧ CertOk (a ++ [s.P]) r
theorem StepOk.prm {s : CStep} {a : List Nat} (h : StepOk s a) : Prm s.P :=
  lucas11 h.three h.whole fun q hq hd => h.none q (h.all q hq hd)
theorem certOk_prm : ∀ (l : List CStep) (a : List Nat), CertOk a l → ∀ s ∈ l, Prm s.P := by
  intro l
  induction l with
  | nil => intro a _ s hs; cases hs
  | cons s r ih =>
    intro a h t ht
    rcases List.mem_cons.1 ht with rfl | ht
    · exact h.1.prm
    · exact ih _ h.2 t ht
theorem certOk_append : ∀ (l m : List CStep) (a : List Nat), CertOk a (l ++ m) ↔ CertOk a l ∧ CertOk (a ++ l.map CStep.P) m := by
  intro l
  induction l with
  | nil => intro m a; simp [CertOk]
  | cons s r ih =>
    intro m a
    show StepOk s a ∧ CertOk (a ++ [s.P]) (r ++ m) ↔ (StepOk s a ∧ CertOk (a ++ [s.P]) r) ∧ CertOk (a ++ (s.P :: r.map CStep.P)) m
    rw [ih, and_assoc, List.append_assoc, List.singleton_append]
/-- What Check answers of numbers. -/
def CheckN (p : Nat) (l : List CStep) : Prop := (l = [] ∧ p < 65536 ∧ Prm p) ∨ (∃ r s, l = r ++ [s] ∧ s.P = p ∧ CertOk [] l)
theorem checkN_prm {p : Nat} {l : List CStep} (h : CheckN p l) : Prm p := by
  rcases h with ⟨_, _, h⟩ | ⟨r, s, rfl, rfl, h⟩
  · exact h
  · exact certOk_prm _ _ h s (List.mem_append_right _ List.mem_cons_self)
theorem CheckN.take {p : Nat} {l : List CStep} (h : CheckN p l) {i : Nat} (hi : i < l.length) : CheckN (l[i]).P (l.take (i + 1)) := by
  rcases h with ⟨rfl, _⟩ | ⟨r, s, hl, hp, h⟩
  · cases hi
  · refine .inr ⟨l.take i, l[i], List.take_succ_eq_append_getElem hi, rfl, ?_⟩
    rw [← List.take_append_drop (i + 1) l] at h
    exact ((certOk_append _ _ _).1 h).1
theorem CheckN.last {p : Nat} {l : List CStep} {i : Nat} (hi : i < l.length) (h : CheckN p (l.take (i + 1))) : (l[i]).P = p := by
  rcases h with ⟨h, _⟩ | ⟨r, s, hl, hp, _⟩
  · have : (l.take (i + 1)).length = 0 := by rw [h]; rfl
    rw [List.length_take] at this; omega
  · rw [List.take_succ_eq_append_getElem hi] at hl
    have := List.append_inj' hl rfl
    obtain ⟨_, h2⟩ := this
    injection h2 with h2 _
    rw [h2]; exact hp
/-! A number without so many primes -/
/-- What is left of n when all of Q are taken out, each as often as it goes: none of Q goes into it, and n is a product of it and of powers of Q's. -/
structure Stripped (n : Nat) (Q : List Nat) (m : Nat) : Prop where
  dvd : m ∣ n
  pos : 0 < m
  all : ∀ r, Prm r → r ∣ n → r ∣ m ∨ r ∈ Q
  none : ∀ q ∈ Q, ¬ q ∣ m
theorem Stripped.start {n : Nat} (h : 0 < n) : Stripped n [] n := ⟨Nat.dvd_refl _, h, fun _ _ h => .inl h, by simp⟩
/-- Between two divisions by q. -/
structure Stripping (n : Nat) (Q : List Nat) (q m : Nat) : Prop where
  dvd : m ∣ n
  pos : 0 < m
  all : ∀ r, Prm r → r ∣ n → r ∣ m ∨ r ∈ Q ∨ r = q
  none : ∀ x ∈ Q, ¬ x ∣ m
theorem Stripped.next {n : Nat} {Q : List Nat} {m : Nat} (h : Stripped n Q m) (q : Nat) : Stripping n Q q m :=
  ⟨h.dvd, h.pos, fun r hr hd => (h.all r hr hd).elim .inl fun h => .inr (.inl h), h.none⟩
theorem Stripping.take {n : Nat} {Q : List Nat} {q m : Nat} (hq : Prm q) (h : Stripping n Q q m) (hz : m % q = 0) : Stripping n Q q (m / q) := by
  have hd := Nat.dvd_of_mod_eq_zero hz
  have e : q * (m / q) = m := Nat.mul_div_cancel' hd
  have hm : m / q ∣ m := Nat.div_dvd_of_dvd hd
  refine ⟨Nat.dvd_trans hm h.dvd, Nat.div_pos (Nat.le_of_dvd h.pos hd) (by have := hq.1; omega), fun r hr hrn => ?_, fun x hx hxd => h.none x hx (Nat.dvd_trans hxd hm)⟩
  rcases h.all r hr hrn with h1 | h1 | h1
  · rw [← e] at h1
    rcases hr.euclid _ _ h1 with h2 | h2
    · rcases hq.2 r h2 with h3 | h3
      · have := hr.1; omega
      · exact .inr (.inr h3)
    · exact .inl h2
  · exact .inr (.inl h1)
  · exact .inr (.inr h1)
theorem Stripping.done {n : Nat} {Q : List Nat} {q m : Nat} (h : Stripping n Q q m) (hz : m % q ≠ 0) : Stripped n (Q ++ [q]) m := by
  refine ⟨h.dvd, h.pos, fun r hr hd => ?_, fun x hx => ?_⟩
  · rcases h.all r hr hd with h1 | h1 | rfl
    · exact .inl h1
    · exact .inr (List.mem_append_left _ h1)
    · exact .inr (List.mem_append_right _ List.mem_cons_self)
  · rcases List.mem_append.1 hx with h1 | h1
    · exact h.none x h1
    · rw [List.mem_singleton.1 h1]; exact fun h2 => hz (Nat.mod_eq_zero_of_dvd h2)
theorem Stripped.one {n : Nat} {Q : List Nat} {m : Nat} (h : Stripped n Q m) : m = 1 ↔ ∀ r, Prm r → r ∣ n → r ∈ Q := by
  constructor
  · rintro rfl r hr hd
    exact (h.all r hr hd).resolve_left hr.one_not
  · intro h1
    rcases Nat.lt_or_ge m 2 with h2 | h2
    · have := h.pos; omega
    · exfalso
      obtain ⟨r, hr, hd⟩ := prm_factor m h2
      exact h.none r (h1 r hr (Nat.dvd_trans hd h.dvd)) hd
end Go.Proofs.YtjpfcdgaepdcdaaGreat

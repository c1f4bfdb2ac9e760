/- Several texts in one; each begins with a remark that says what it shows and on which conditions. -/
import Derived.Test.YtgmolbiicclcaaaKar
import Derived.Test.YtgmolbiicclcaaaKas
import Derived.Test.YtgmolbiicclcaaaKat
import Derived.Deep.RegionWith
/- gcd's steps of numbers of many words. Conditions: as typed (lengths that fit a machine). -/
namespace Go.Proofs.Ytgmolbiicclcaaa
open Go.RowKit
set_option maxRecDepth 20000
theorem natIs_len {w : World} {X : Option Addr} {q d V K : Nat} (h : NatIs w X q d V) (hV : nbits V ≤ 64 * K) : q ≤ K := by
  have h1 := h.1
  rw [length_wd] at h1
  omega
/-- A slice of words has none of its words in another kind's own variable. -/
theorem Rd.box {u : World} {B G t : Nat} {A : Option Addr} {l : List Nat} {v : Value} (h : Rd .u64 u B A l) (hb : Boxed u G t v) (hv : ∀ k x, v ≠ .int k x) (y : Value) : Rd .u64 (u.setCell ⟨G, 0, none⟩ y) B A l := fun hl => by
  obtain ⟨b, off, rfl, hlt, hc⟩ := h hl
  refine ⟨b, off, rfl, hlt, fun j hj => ?_⟩
  have hne : b ≠ G := by
    rintro rfl
    have h1 := hc j hj
    have h2 : u.heap[b]? = some (.cells #[v] t (0, 0)) := hb
    simp only [World.cell?, h2] at h1
    rcases Nat.eq_zero_or_pos (off + j) with h0 | h0
    · rw [h0] at h1; simp at h1; exact hv _ _ h1
    · obtain ⟨o, ho⟩ : ∃ o, off + j = o := ⟨_, rfl⟩
      rw [ho] at h1 h0
      rw [if_neg (by simp), List.getElem?_toArray, List.getElem?_eq_none (by simp; omega)] at h1
      cases h1
  rw [← hc j hj]
  exact World.cell?_setCell_other _ _ _ _ (fun e => hne (by injection e with e1; exact e1.symm))
section
variable {u : World} {G t : Nat} {A : Option Addr} {n c V : Nat} {v : Value}
theorem NatIn.box (h : NatIn u A n c V) (hb : Boxed u G t v) (hv : ∀ k x, v ≠ .int k x) (y : Value) : NatIn (u.setCell ⟨G, 0, none⟩ y) A n c V := by
  obtain ⟨l, h1, h2, h3, h4, h5, h6⟩ := h
  refine ⟨l, h1, h2, h3, h4, ?_, h6⟩
  have := h5.box hb hv y
  simpa [World.setCell] using this
theorem NatIs.box (h : NatIs u A n c V) (hb : Boxed u G t v) (hv : ∀ k x, v ≠ .int k x) (y : Value) : NatIs (u.setCell ⟨G, 0, none⟩ y) A n c V := by
  obtain ⟨h1, h2, h3, h4⟩ := h
  refine ⟨h1, h2, ?_, h4⟩
  have := h3.box hb hv y
  simpa [World.setCell] using this
end
/-- The three variables that least's steps are told to. -/
structure Box2 (u : World) (L N S : Nat) (vl vn : Value) (less : Bool) : Prop where
  last : Boxed u L 28 vl
  next : Boxed u N 28 vn
  less : Boxed u S 4 (.bool less)
theorem Box2.kept {u u' : World} {L N S : Nat} {vl vn : Value} {less : Bool} (h : Box2 u L N S vl vn less) (hb : Below u.heap.size u u') : Box2 u' L N S vl vn less :=
  have hg : u.grownBy u' none := ⟨hb.os, hb.tape, hb.output, hb.size, fun i hi _ => hb.block i hi⟩
  ⟨h.last.kept hg (by simp), h.next.kept hg (by simp), h.less.kept hg (by simp)⟩
theorem Box2.turn {u : World} {L N S : Nat} {vl vn vl' vn' : Value} {less less' : Bool} (h : Box2 u L N S vl vn less) (h1 : L ≠ N) (h2 : L ≠ S) (h3 : N ≠ S) :
    Box2 (((u.setCell ⟨L, 0, none⟩ vl').setCell ⟨N, 0, none⟩ vn').setCell ⟨S, 0, none⟩ (.bool less')) L N S vl' vn' less' :=
  ⟨((h.last.set _).other h1 _).other h2 _, ((h.next.other h1.symm _).set _).other h3 _, ((h.less.other h2.symm _).other h3.symm _).set _⟩
theorem Box2.natIn {u : World} {L N S : Nat} {Xl Xn : Option Addr} {ql qn dl dn : Nat} {vl' vn' : Value} {less less' : Bool} (h : Box2 u L N S (.slice Xl ql dl) (.slice Xn qn dn) less) (h1 : L ≠ N) (h2 : L ≠ S) (h3 : N ≠ S) {A : Option Addr} {n c V : Nat} (k : NatIn u A n c V) :
    NatIn (((u.setCell ⟨L, 0, none⟩ vl').setCell ⟨N, 0, none⟩ vn').setCell ⟨S, 0, none⟩ (.bool less')) A n c V :=
  ((k.box h.last (by simp) _).box (h.next.other h1.symm _) (by simp) _).box ((h.less.other h2.symm _).other h3.symm _) (by simp) _
theorem Box2.natIs {u : World} {L N S : Nat} {Xl Xn : Option Addr} {ql qn dl dn : Nat} {vl' vn' : Value} {less less' : Bool} (h : Box2 u L N S (.slice Xl ql dl) (.slice Xn qn dn) less) (h1 : L ≠ N) (h2 : L ≠ S) (h3 : N ≠ S) {A : Option Addr} {n c V : Nat} (k : NatIs u A n c V) :
    NatIs (((u.setCell ⟨L, 0, none⟩ vl').setCell ⟨N, 0, none⟩ vn').setCell ⟨S, 0, none⟩ (.bool less')) A n c V :=
  ((k.box h.last (by simp) _).box (h.next.other h1.symm _) (by simp) _).box ((h.less.other h2.symm _).other h3.symm _) (by simp) _
/-- They hold these numbers. -/
def Told (u : World) (L N S last next : Nat) (less : Bool) : Prop := ∃ X n d Y r f, Box2 u L N S (.slice X n d) (.slice Y r f) less ∧ NatIs u X n d last ∧ NatIs u Y r f next
theorem Told.kept {u u' : World} {L N S last next : Nat} {less : Bool} (h : Told u L N S last next less) (hb : Below u.heap.size u u') : Told u' L N S last next less := by
  obtain ⟨X, n, d, Y, r, f, h1, h2, h3⟩ := h
  exact ⟨X, n, d, Y, r, f, h1.kept hb, h2.step hb, h3.step hb⟩
/-- What a step's telling comes to. -/
def OutTold (base L N S last next : Nat) (less : Bool) (w : World) (e : Ending) (w' : World) : Prop := e = .returned (.tuple #[]) ∧ Told w' L N S last next less ∧ (∀ A n c V, NatIn w A n c V → NatIn w' A n c V) ∧ Below base w w'
theorem norm_only {F : Fence} {n : Nat} {P : Program} {c : Code} {Q : Exit → Act → World → Prop} {a : Act} {w : World} (h : c.wpIn F n P (Exit.then (Q .normal) (fun _ _ _ => False)) a w) : c.wpIn F n P Q a w :=
  Go.wpIn_mono h fun e _ _ h => by cases e <;> first | exact h | exact h.elim
theorem till3 {i j k : Nat} {p q r : Addr} {x y z : Value} {listed : Array Bool} {w : World} (h1 : listed.getD i true = false → w.cell? p = some x) (h2 : listed.getD j true = false → w.cell? q = some y) (h3 : listed.getD k true = false → w.cell? r = some z) :
    Till [(i, p, x), (j, q, y), (k, r, z)] listed w := by
  intro e he
  rcases List.mem_cons.1 he with rfl | he
  · exact h1
  rcases List.mem_cons.1 he with rfl | he
  · exact h2
  rcases List.mem_cons.1 he with rfl | he
  · exact h3
  cases he
set_option maxHeartbeats 2000000 in
theorem tellNat (base L N S q last next m g : Nat) (Z : Option Addr) (less : Bool) (w : World) (h : Told w L N S last next less) (hz : NatIs w Z m g q) (h1 : L ≠ N) (h2 : L ≠ S) (h3 : N ≠ S) (hL : base ≤ L) (hN : base ≤ N) (hS : base ≤ S) (hq : m ≤ 10000) (hn : nbits next ≤ 640000) (hl : nbits last ≤ 640000) :
    Calls Try.prog 50 #[.slice Z m g, .pointer (some ⟨N, 0, none⟩), .pointer (some ⟨L, 0, none⟩), .pointer (some ⟨S, 0, none⟩)] w (OutTold base L N S next (last + q * next) (!less) w) := by
  obtain ⟨X, n, d, Y, r, f, hb, hX, hY⟩ := h
  have hbs : base ≤ w.heap.size := by have := hb.last.lt; omega
  have bd : Below w.heap.size w w.drew := (Drawn.more 1).below _
  have hbd := hb.kept bd
  have hXd := hX.step bd
  have hYd := hY.step bd
  have hZd := hz.step bd
  have hnl := natIs_len hX (K := 10000) (by omega)
  have hrl := natIs_len hY (K := 10000) (by omega)
  have c1 := hbd.last.cell
  have c2 := hbd.next.cell
  have c3 := hbd.less.cell
  have HM := Lib.hid (bMul hZd.in_ hYd.in_ hq hrl)
  have hmb := hz.in_.bits
  have hpb := nbits_mul q next
  have HB := Lib.hid hb
  have HX := Lib.hid hXd
  have HY := Lib.hid hYd
  have HBD := Lib.hid hbd
  have hmx : Try.prog.follows .mixedOrders = true := by kernel_rfl
  clear hb hX hY hz hbd hXd hYd hZd
  refine (callsIn_wide (n := 9)).1 ?_
  refine callsIn_of_wp Try.func50 rfl trivial ?_
  simp only [Try.ntmps50, List.size_toArray, List.length_cons, List.length_nil, Nat.reduceAdd, Nat.reduceSub, Array.replicate_succ, Array.replicate_zero, List.push_toArray, List.append_toArray, List.nil_append, List.cons_append]
  gi_wp2
  refine norm_only ?_
  refine wpIn_region_any hmx ?_
  change wpAnyIn _ _ _ _ _ _ _ _ _ (World.drew _)
  refine anyH.toAny (l := [(8, ⟨L, 0, none⟩, .slice X n d), (9, ⟨N, 0, none⟩, .slice Y r f), (10, ⟨S, 0, none⟩, .bool less)]) ?_
  refine anyH_take (i := 0) (s := 9) (v := .slice Y r f) (List.mem_cons_of_mem _ List.mem_cons_self) (by simp) rfl (by kernel_rfl) (by kernel_rfl) (by kernel_rfl) (by kernel_rfl) (by kernel_rfl) (by kernel_rfl) (fun _ _ _ h => h) ⟨by rfl, fun W' g1 => ⟨by go_simp, by rfl⟩⟩ ?_
  refine anyH_take (i := 1) (s := 8) (v := .slice X n d) (List.mem_cons_self) (by simp) rfl (by kernel_rfl) (by kernel_rfl) (by kernel_rfl) (by kernel_rfl) (by kernel_rfl) (by kernel_rfl) (fun _ _ _ h => h) ⟨by rfl, fun W' g1 => ⟨by go_simp, by rfl⟩⟩ ?_
  refine anyH_take (i := 2) (s := 9) (v := .slice Z m g) (List.mem_cons_of_mem _ List.mem_cons_self) (by simp) rfl (by kernel_rfl) (by kernel_rfl) (by kernel_rfl) (by kernel_rfl) (by kernel_rfl) (by kernel_rfl) (fun _ _ _ h => h) ⟨by rfl, fun W' g1 => ⟨by go_simp, by rfl⟩⟩ ?_
  refine anyH_take (i := 3) (s := 9) (v := .slice Y r f) (List.mem_cons_of_mem _ List.mem_cons_self) (by simp) rfl (by kernel_rfl) (by kernel_rfl) (by kernel_rfl) (by kernel_rfl) (by kernel_rfl) (by kernel_rfl) (fun _ _ _ h => h) ⟨by rfl, fun W' g1 => ⟨by go_simp, by rfl⟩⟩ ?_
  refine anyH_take (i := 6) (s := 10) (v := .bool less) (List.mem_cons_of_mem _ (List.mem_cons_of_mem _ List.mem_cons_self)) (by simp) rfl (by kernel_rfl) (by kernel_rfl) (by kernel_rfl) (by kernel_rfl) (by kernel_rfl) (by kernel_rfl) (fun _ _ _ h => h) ⟨by rfl, fun W' g1 => ⟨by go_simp, by rfl⟩⟩ ?_
  refine anyH_take (i := 7) (s := 10) (v := .bool (!less)) (List.mem_cons_of_mem _ (List.mem_cons_of_mem _ List.mem_cons_self)) (by simp) rfl (by kernel_rfl) (by kernel_rfl) (by kernel_rfl) (by kernel_rfl) (by kernel_rfl) (by kernel_rfl) (fun _ _ _ h => h) ⟨by rfl, fun W' g1 => ⟨by go_simp, by rfl⟩⟩ ?_
  refine anyH_one (i := 4) (by kernel_rfl) rfl (till3 (fun _ => c1) (fun _ => c2) (fun _ => c3)) (fun K hK => ?_)
  go_simp
  refine ⟨trivial, ?_⟩
  refine (callsIn_wide.2 HM.out).mono ?_
  rintro e w1 ⟨R, k, s, rfl, hR, _, b1⟩
  refine hK _ _ ?_
  clear hK K
  have hX1 := HX.out.step b1
  have hY1 := HY.out.step b1
  have hB1 := HBD.out.kept b1
  have hkl := hR.1
  have hkb := hR.2.1
  rw [length_wd] at hkl
  have HA := Lib.hid (bAdd hX1.in_ hR.in_ (by omega))
  refine anyH_one (i := 5) (by kernel_rfl) rfl (till3 (fun _ => hB1.last.cell) (fun _ => hB1.next.cell) (fun _ => hB1.less.cell)) (fun K hK => ?_)
  clear hX1 hR hB1 HM
  go_simp
  refine ⟨trivial, ?_⟩
  refine (callsIn_wide.2 HA.out).mono ?_
  rintro e w2 ⟨R2, k2, s2, rfl, hR2, _, b2⟩
  refine hK _ _ ?_
  clear hK K HA
  have hB2 := (HBD.out.kept b1).kept b2
  have hY2 := hY1.step b2
  have hBw : Below w.heap.size w w2 := (bd.trans (b1.mono bd.size)).trans (b2.mono (Nat.le_trans bd.size b1.size))
  have d1 := hB2.last
  have d2 := hB2.next
  have d3 := hB2.less
  refine anyH_one (i := 8) (by kernel_rfl) rfl (till3 (fun _ => d1.cell) (fun _ => d2.cell) (fun _ => d3.cell)) (fun K hK => ?_)
  have e1 := d1.cell
  have g1 := d1.frozen
  go_simp
  refine hK _ _ ?_
  clear hK K
  clear e1 g1
  have d1 := hB2.last.set (.slice Y r f)
  have d2 := hB2.next.other h1.symm (.slice Y r f)
  have d3 := hB2.less.other h2.symm (.slice Y r f)
  refine anyH_one (i := 9) (by kernel_rfl) rfl (till3 (fun h => by have h2 : (true : Bool) = false := h; cases h2) (fun _ => d2.cell) (fun _ => d3.cell)) (fun K hK => ?_)
  have e1 := d2.cell
  have g1 := d2.frozen
  go_simp
  refine hK _ _ ?_
  clear hK K e1 g1
  replace d1 := d1.other h1 (.slice R2 k2 s2)
  replace d2 := d2.set (.slice R2 k2 s2)
  replace d3 := d3.other h3.symm (.slice R2 k2 s2)
  refine anyH_one (i := 10) (by kernel_rfl) rfl (till3 (fun h => by have h2 : (true : Bool) = false := h; cases h2) (fun h => by have h2 : (true : Bool) = false := h; cases h2) (fun _ => d3.cell)) (fun K hK => ?_)
  have e1 := d3.cell
  have g1 := d3.frozen
  go_simp
  refine hK _ _ ?_
  clear hK K e1 g1
  refine anyH_done (by kernel_rfl) (till3 (fun h => by have h2 : (true : Bool) = false := h; cases h2) (fun h => by have h2 : (true : Bool) = false := h; cases h2) (fun h => by have h2 : (true : Bool) = false := h; cases h2)) ?_
  have HF := Lib.hid (show OutTold base L N S next (last + q * next) (!less) w (.returned (.tuple #[])) (((w2.setCell ⟨L, 0, none⟩ (.slice Y r f)).setCell ⟨N, 0, none⟩ (.slice R2 k2 s2)).setCell ⟨S, 0, none⟩ (.bool (!less))) from
    ⟨rfl, ⟨_, _, _, _, _, _, hB2.turn h1 h2 h3, hB2.natIs h1 h2 h3 hY2, hB2.natIs h1 h2 h3 hR2⟩, fun A n c V h => hB2.natIn h1 h2 h3 (h.step hBw), ((((hBw.mono hbs).setCell (p := ⟨L, 0, none⟩) hL _).setCell (p := ⟨N, 0, none⟩) hN _).setCell (p := ⟨S, 0, none⟩) hS _)⟩)
  simp only [Exit.then]
  go_end0
  exact HF.out
end Go.Proofs.Ytgmolbiicclcaaa
/- gcd's least, and Gcd, Ext, Inv. Conditions: as typed (lengths that fit a machine). -/
namespace Go.Proofs.Ytgmolbiicclcaaa
open Go.RowKit
set_option maxRecDepth 20000
set_option maxHeartbeats 1000000 in
theorem steps2_least (base L N S : Nat) (A A2 : Option Addr) (n m c c2 M V : Nat) (w : World) (h : NatIn w A n c M) (k : NatIn w A2 m c2 V) (hs : n ≤ 10000) (hs2 : m ≤ 10000) (hT : Told w L N S 1 0 false) (h1 : L ≠ N) (h2 : L ≠ S) (h3 : N ≠ S) (hL : base ≤ L) (hN : base ≤ N) (hS : base ≤ S) (hbs : base ≤ w.heap.size) :
    Calls Try.prog 49 #[.slice A n c, .slice A2 m c2, .func (.func 35) #[] #[], .func (.func 50) #[] #[.pointer (some ⟨N, 0, none⟩), .pointer (some ⟨L, 0, none⟩), .pointer (some ⟨S, 0, none⟩)]] w fun e w' =>
      ∃ X q d last next less, e = .returned (.slice X q d) ∧ NatIn w' X q d (Nat.gcd M V) ∧ q ≤ 10000 ∧ Told w' L N S last next less ∧ GMid M V (Nat.gcd M V) 0 last next less ∧ Below base w w' := by
  have hVb := k.bits
  have HT := Lib.hid hT
  clear hT
  go_enter Try.func49, Try.ntmps49
  go_wp2_with fail
  go_step3
  go_wp2_with fail
  go_step3
  go_wp2_with fail
  go_loopg [0, 1] V (fun k av bv wr => ∃ (A A2 : Option Addr) (n m c c2 a b last next : Nat) (less : Bool), av = .slice A n c ∧ bv = .slice A2 m c2 ∧ NatIn wr A n c a ∧ NatIn wr A2 m c2 b ∧ n ≤ 10000 ∧ m ≤ 10000 ∧ b ≤ k ∧ GMid M V a b last next less ∧ Told wr L N S last next less ∧ base ≤ wr.heap.size ∧ Below base w wr)
  case atStart => exact ⟨A, A2, n, m, c, c2, M, V, 1, 0, false, rfl, rfl, h, k, hs, hs2, Nat.le_refl _, GMid.start M V, HT.out, hbs, Below.refl _ _⟩
  case round =>
    clear h k hs HT
    obtain ⟨A, A2, n, m, c, c2, a, b, last, next, less, rfl, rfl, h, k, hs, hsm, hbk, hM, hT, hbw, hB⟩ := hrel
    by_cases h0 : b = 0
    · have D := Lib.hid (bDiv_zero h k h0 hs hsm)
      subst h0
      have HG := Lib.hid hM.end_gcd
      have HM := Lib.hid hM
      have H := Lib.hid h
      have HT := Lib.hid hT
      clear hM h k hT
      go_wp2_with fail
      refine (D.out).mono ?_
      rintro e w1 ⟨X, d, Y, f, rfl, b1⟩
      have B1 := hB.trans (b1.mono hbw)
      go_wp2_with fail
      rw [Exit.noGoto_ret]
      go_ret
      exact ⟨A, n, c, last, next, less, rfl, by rw [← HG.out]; exact H.out.step b1, hs, HT.out.kept b1, by rw [← HG.out]; exact HM.out, B1⟩
    · have D := Lib.hid (bDiv_ok h k h0 hs hsm)
      have hkb := k.bits
      have hrb := Nat.mod_lt a (Nat.pos_of_ne_zero h0)
      have hrn := nbits_mono (Nat.le_of_lt hrb)
      have hqn := nbits_div a b
      have hhb := h.bits
      have hnb := nbits_mono hM.next_le
      have hlb : nbits last ≤ 640000 := by
        rcases hM.last_le with h | h
        · have := nbits_mono h; omega
        · have := nbits_mono h; rw [show nbits 1 = 1 by decide] at this; omega
      have HN := Lib.hid (hM.step h0)
      have HT := Lib.hid hT
      have K := Lib.hid k
      clear h k hM hT
      go_wp2_with fail
      refine (D.out).mono ?_
      rintro e w1 ⟨X, q, d, Y, r, f, rfl, S1, T1, b1⟩
      have B1 := hB.trans (b1.mono hbw)
      have hrl := natIs_len T1 (show nbits (a % b) ≤ 64 * m by omega)
      have hql := natIs_len S1 (show nbits (a / b) ≤ 64 * n by omega)
      have hT1 := Lib.hid T1
      have TN := Lib.hid (tellNat base L N S (a / b) last next q d X less w1 (HT.out.kept b1) S1 h1 h2 h3 hL hN hS (by omega) (by omega) hlb)
      clear S1 T1
      go_wp2_with fail
      refine (TN.out).mono ?_
      rintro e w2 ⟨rfl, t2, k2, b2⟩
      have B2 := B1.trans b2
      have hbw2 : base ≤ w2.heap.size := by have := b1.size; have := b2.size; omega
      go_wp2_with fail
      go_roundg (a % b)
      case rel => exact ⟨A2, Y, m, r, c2, f, b, a % b, _, _, _, rfl, rfl, k2 _ _ _ _ (K.out.step b1), k2 _ _ _ _ hT1.out.in_, hsm, by omega, Nat.le_refl _, HN.out, t2, hbw2, B2⟩
      case measure => omega
section
variable {w : World} {A A2 : Option Addr} {n m c c2 M N : Nat}
theorem small_ok (h : NatIn w A n c M) (hM : M < 18446744073709551616) : Calls Try.prog 52 #[.slice A n c] w fun e w' => e = .returned (.tuple #[.int .u64 (M : Nat), .bool true]) ∧ Below w.heap.size w w' := by
  obtain ⟨l, rfl, rfl, h3, h4, h5, h6⟩ := h
  have h := natSmall_any A c l w h5 h3 (by omega) h6
  rwa [show smallV (natOf l) = ((natOf l : Nat) : Int) by simp [smallV, hM], show smallB (natOf l) = true by simp [smallB, hM]] at h
theorem small_no (h : NatIn w A n c M) (hM : ¬ M < 18446744073709551616) : Calls Try.prog 52 #[.slice A n c] w fun e w' => e = .returned (.tuple #[.int .u64 0, .bool false]) ∧ Below w.heap.size w w' := by
  obtain ⟨l, rfl, rfl, h3, h4, h5, h6⟩ := h
  have h := natSmall_any A c l w h5 h3 (by omega) h6
  rwa [show smallV (natOf l) = 0 by simp [smallV, hM], show smallB (natOf l) = false by simp [smallB, hM]] at h
theorem words_yes (h : NatIn w A n c M) (k : NatIn w A2 m c2 N) (hM : M < 18446744073709551616) (hN : N < 18446744073709551616) : Calls Try.prog 47 #[.slice A n c, .slice A2 m c2] w fun e w' => e = .returned (.tuple #[.int .u64 (M : Nat), .int .u64 (N : Nat), .bool true]) ∧ Below w.heap.size w w' := by
  have D := Lib.hid (small_ok h hM)
  go_enter Try.func47, Try.ntmps47
  go_wp2_with fail
  refine (D.out).mono ?_
  rintro e w1 ⟨rfl, b1⟩
  go_wp2_with fail
  refine (small_ok (k.step b1) hN).mono ?_
  rintro e w2 ⟨rfl, b2⟩
  go_wp2_with fail
  go_ret3
  exact ⟨rfl, below_step b1 b2⟩
theorem words_no (h : NatIn w A n c M) (k : NatIn w A2 m c2 N) (hMN : ¬ (M < 18446744073709551616 ∧ N < 18446744073709551616)) : Calls Try.prog 47 #[.slice A n c, .slice A2 m c2] w fun e w' => ∃ x y : Value, e = .returned (.tuple #[x, y, .bool false]) ∧ Below w.heap.size w w' := by
  by_cases hM : M < 18446744073709551616
  · have hN : ¬ N < 18446744073709551616 := fun hN => hMN ⟨hM, hN⟩
    have D := Lib.hid (small_ok h hM)
    go_enter Try.func47, Try.ntmps47
    go_wp2_with fail
    refine (D.out).mono ?_
    rintro e w1 ⟨rfl, b1⟩
    go_wp2_with fail
    refine (small_no (k.step b1) hN).mono ?_
    rintro e w2 ⟨rfl, b2⟩
    go_wp2_with fail
    go_ret3
    exact ⟨_, _, rfl, below_step b1 b2⟩
  · have D := Lib.hid (small_no h hM)
    have E : ∃ v b, ∀ u, Below w.heap.size w u → Calls Try.prog 52 #[.slice A2 m c2] u fun e w' => e = .returned (.tuple #[.int .u64 v, .bool b]) ∧ Below u.heap.size u w' := by
      by_cases hN : N < 18446744073709551616
      · exact ⟨_, _, fun u hu => small_ok (k.step hu) hN⟩
      · exact ⟨_, _, fun u hu => small_no (k.step hu) hN⟩
    obtain ⟨v, b, E⟩ := E
    have E := Lib.hid E
    go_enter Try.func47, Try.ntmps47
    go_wp2_with fail
    refine (D.out).mono ?_
    rintro e w1 ⟨rfl, b1⟩
    go_wp2_with fail
    refine (E.out _ b1).mono ?_
    rintro e w2 ⟨rfl, b2⟩
    go_wp2_with fail
    go_ret3
    exact ⟨_, _, rfl, below_step b1 b2⟩
/-- Gcd, and how often. -/
def OutLeast (M N : Nat) (w : World) (e : Ending) (w' : World) : Prop := ∃ X q d Y r f x, e = .returned (.tuple #[.slice X q d, .slice Y r f]) ∧ NatIs w' X q d (Nat.gcd M N) ∧ NatIs w' Y r f x ∧ LeastIs M N x ∧ Below w.heap.size w w'
set_option maxHeartbeats 2000000 in
theorem least_small (h : NatIn w A n c M) (k : NatIn w A2 m c2 N) (hM : M < 18446744073709551616) (hN : N < 18446744073709551616) : Calls Try.prog 34 #[.slice A n c, .slice A2 m c2] w (OutLeast M N w) := by
  have D := Lib.hid (words_yes h k hM hN)
  have hg : Nat.gcd M N < 18446744073709551616 := by
    rcases Nat.eq_zero_or_pos M with h0 | h0
    · rw [h0, Nat.gcd_zero_left]; exact hN
    · exact Nat.lt_of_le_of_lt (Nat.gcd_le_left N h0) hM
  clear h k
  go_enter Try.func34, Try.ntmps34
  go_wp2_with fail
  refine (D.out).mono ?_
  rintro e w1 ⟨rfl, b1⟩
  go_wp2_with fail
  refine (leastWord_any M N w1 hM hN).mono ?_
  rintro e w2 ⟨x, rfl, hL, hx, b2⟩
  have B2 := below_step b1 b2
  have HL := Lib.hid hL
  have HG := Lib.hid hg
  clear hL hg
  go_wp2_with fail
  refine (bOf w2 _ HG.out).mono ?_
  rintro e w3 ⟨X, q, d, rfl, S, _, b3⟩
  have B3 := below_step B2 b3
  go_wp2_with fail
  refine (bOf w3 x hx).mono ?_
  rintro e w4 ⟨Y, r, f, rfl, T, _, b4⟩
  have B4 := below_step B3 b4
  go_wp2_with fail
  go_ret2
  exact ⟨X, q, d, Y, r, f, x, rfl, S.step b4, T, HL.out, B4⟩
end
end Go.Proofs.Ytgmolbiicclcaaa
/- gcd.least of many words; Gcd, Ext, Inv. Conditions: as typed (lengths that fit a machine). -/
namespace Go.Proofs.Ytgmolbiicclcaaa
open Go.RowKit
set_option maxRecDepth 20000
section
variable {w : World} {A A2 : Option Addr} {n m c c2 M N : Nat}
set_option maxHeartbeats 2000000 in
theorem least_big (h : NatIn w A n c M) (k : NatIn w A2 m c2 N) (hs : n ≤ 10000) (hs2 : m ≤ 10000) (hMN : ¬ (M < 18446744073709551616 ∧ N < 18446744073709551616)) : Calls Try.prog 34 #[.slice A n c, .slice A2 m c2] w (OutLeast M N w) := by
  have D := Lib.hid (words_no h k hMN)
  have hnb := k.bits
  have H := Lib.hid h
  have K := Lib.hid k
  clear h k hMN
  go_enter Try.func34, Try.ntmps34
  go_wp2_with fail
  refine (D.out).mono ?_
  rintro e w1 ⟨x, y, rfl, b1⟩
  go_wp2_with fail
  refine (bOf w1 1 (by omega)).mono ?_
  rintro e w2 ⟨X, q, d, rfl, S, _, b2⟩
  have B2 := below_step b1 b2
  go_wp2_with fail
  refine (bOf w2 0 (by omega)).mono ?_
  rintro e w3 ⟨Y, r, f, rfl, T, _, b3⟩
  have B3 := below_step B2 b3
  have S3 := S.step b3
  have HB := Lib.hid B3
  have HS := Lib.hid S3
  have HT := Lib.hid T
  clear S T S3 B3 B2 b1 b2 b3
  go_wp2_with fail
  have bL := ((Boxed.new w3 28 (.slice X q d)).alloc (.cells #[.slice Y r f] 28)).alloc (.cells #[.bool false] 4)
  have bN := (Boxed.new (w3.alloc (.cells #[.slice X q d] 28)) 28 (.slice Y r f)).alloc (.cells #[.bool false] 4)
  have bS := Boxed.new ((w3.alloc (.cells #[.slice X q d] 28)).alloc (.cells #[.slice Y r f] 28)) 4 (.bool false)
  simp only [World.size_alloc] at bN bS
  obtain ⟨E, hE⟩ : ∃ E, ((w3.alloc (.cells #[.slice X q d] 28)).alloc (.cells #[.slice Y r f] 28)).alloc (.cells #[.bool false] 4) = E := ⟨_, rfl⟩
  have b3E : Below w3.heap.size w3 E := by rw [← hE]; exact (((Below.refl _ w3).alloc (Nat.le_refl _) _).alloc (by simp) _).alloc (by simp; omega) _
  rw [hE] at bL bN bS ⊢
  have hw3 := HB.out.size
  have BE := below_step HB.out b3E
  have hT : Told E w3.heap.size (w3.heap.size + 1) (w3.heap.size + 1 + 1) 1 0 false := ⟨X, q, d, Y, r, f, ⟨bL, bN, bS⟩, HS.out.step b3E, HT.out.step b3E⟩
  refine (steps2_least w.heap.size w3.heap.size (w3.heap.size + 1) (w3.heap.size + 1 + 1) A A2 n m c c2 M N E (H.out.step BE) (K.out.step BE) hs hs2 hT (by omega) (by omega) (by omega) hw3 (by omega) (by omega) BE.size).mono ?_
  clear hT bL bN bS hE HS HT
  rintro e w4 ⟨Z, z, g, last, next, less, rfl, hZ, hz, ⟨X, q, d, Y, r, f, hb, hX, hY⟩, hM, b4⟩
  have B4 := BE.trans b4
  have c1 := hb.last.cell
  have c2 := hb.next.cell
  have c3 := hb.less.cell
  have f1 := hb.last.frozen
  have HD := Lib.hid hM.done
  have HZ := Lib.hid hZ
  have HX := Lib.hid hX
  have HY := Lib.hid hY
  have HB4 := Lib.hid hb
  cases less
  · clear hM hZ hX hY hb
    go_wp2_with fail
    have bd : Below w4.heap.size w4 w4.drew := (Drawn.more 1).below _
    have HTr := Lib.hid (bTrim (HZ.out.step bd))
    go_region_with ((go_at_call 51; (with_reducible refine (HTr.out).mono ?_); rintro e w5 ⟨R, k, s, rfl, hR, _, b5⟩; have c5 := (HB4.out.kept (bd.trans (b5.mono bd.size))).last.cell))
    all_goals
      go_wp2_with fail
      go_ret2
      exact ⟨R, k, s, X, q, d, _, rfl, hR, (HX.out.step bd).step b5, HD.out, (B4.trans (bd.mono B4.size)).trans (b5.mono (by have := bd.size; have := B4.size; omega))⟩
  · have hle := hM.sub
    have HSb := Lib.hid (bSub_yes hY.in_ hX.in_ hle)
    clear hM hZ hX hY hb
    go_wp2_with fail
    refine (HSb.out).mono ?_
    rintro e w5 ⟨R, k, s, rfl, hR, _, b5⟩
    have hb5 := HB4.out.kept b5
    have c1 := hb5.last.cell
    have f1 := hb5.last.frozen
    clear HSb
    go_wp2_with fail
    have hs5 := hb5.last.set (.slice R k s)
    have hR5 := hR.box hb5.last (by simp) (.slice R k s)
    have hZ5 := (HZ.out.step b5).box hb5.last (by simp) (.slice R k s)
    have B5 := (B4.trans (b5.mono B4.size)).setCell (p := ⟨w3.heap.size, 0, none⟩) hw3 (.slice R k s)
    obtain ⟨F, hF⟩ : ∃ F, w5.setCell ⟨w3.heap.size, 0, none⟩ (.slice R k s) = F := ⟨_, rfl⟩
    rw [hF] at hs5 hR5 hZ5 B5 ⊢
    have bd : Below F.heap.size F F.drew := (Drawn.more 1).below _
    have HTr := Lib.hid (bTrim (hZ5.step bd))
    have HR5 := Lib.hid hR5
    have HS5 := Lib.hid hs5
    have c6 := (hs5.kept (row := none) ⟨bd.os, bd.tape, bd.output, bd.size, fun i hi _ => bd.block i hi⟩ (by simp)).cell
    clear c1 f1 hs5 hR5 hZ5 hR hF
    go_region_with ((go_at_call 51; (with_reducible refine (HTr.out).mono ?_); rintro e w6 ⟨R', k', s', rfl, hR', _, b6⟩; have c7 := (HS5.out.kept (row := none) ⟨bd.os, bd.tape, bd.output, bd.size, fun i hi _ => bd.block i hi⟩ (by simp)).kept (row := none) ⟨b6.os, b6.tape, b6.output, b6.size, fun i hi _ => b6.block i hi⟩ (by simp) |>.cell))
    all_goals
      go_wp2_with fail
      go_ret2
      exact ⟨R', k', s', R, k, s, _, rfl, hR', (HR5.out.step bd).step b6, HD.out, (B5.trans (bd.mono B5.size)).trans (b6.mono (by have := bd.size; have := B5.size; omega))⟩
end
end Go.Proofs.Ytgmolbiicclcaaa
/- gcd's contracts, as laws use them. Conditions: as typed (lengths that fit a machine). -/
namespace Go.Proofs.Ytgmolbiicclcaaa
open Go.RowKit
set_option maxRecDepth 20000
def OutInv (M m : Nat) (w : World) (e : Ending) (w' : World) : Prop := ∃ X q d v, e = .returned (.tuple #[.slice X q d, .bool true]) ∧ NatIs w' X q d v ∧ v < m ∧ v * M % m = 1 % m ∧ Below w.heap.size w w'
def OutInvNo (w : World) (e : Ending) (w' : World) : Prop := ∃ X d, e = .returned (.tuple #[.slice X 0 d, .bool false]) ∧ Below w.heap.size w w'
theorem natIs_zero5 (w : World) (X : Option Addr) (d : Nat) : NatIs w X 0 d 0 := by
  have e : wd 0 = [] := List.eq_nil_of_length_eq_zero (by rw [length_wd, nbits_zero])
  exact ⟨by rw [e]; rfl, by omega, by rw [e]; exact Rd.nil, Nat.zero_le _⟩
section
variable {w : World} {A A2 : Option Addr} {n m c c2 M N : Nat}
theorem gLeast (h : NatIn w A n c M) (k : NatIn w A2 m c2 N) (hs : n ≤ 10000) (hs2 : m ≤ 10000) : Calls Try.prog 34 #[.slice A n c, .slice A2 m c2] w (OutLeast M N w) := by
  by_cases hMN : M < 18446744073709551616 ∧ N < 18446744073709551616
  · exact least_small h k hMN.1 hMN.2
  · exact least_big h k hs hs2 hMN
theorem cmpS_ne {a b : Nat} (h : a ≠ b) : ((cmpS a b : Int) != 0) = true := by
  unfold cmpS
  split
  · rfl
  · rw [if_pos (by omega)]; rfl
set_option maxHeartbeats 1000000 in
theorem bInv_ok (h : NatIn w A n c M) (k : NatIn w A2 m c2 N) (h0 : N ≠ 0) (hg : Nat.gcd M N = 1) (hs : n ≤ 10000) (hs2 : m ≤ 10000) : Calls Try.prog 23 #[.slice A n c, .slice A2 m c2] w (OutInv M N w) := by
  have D := Lib.hid (bMod_ok h k h0 hs hs2)
  have hkb := k.bits
  have hrn := nbits_mono (Nat.le_of_lt (Nat.mod_lt M (Nat.pos_of_ne_zero h0)))
  have K := Lib.hid k
  have H0 := Lib.hid h0
  have HG := Lib.hid hg
  clear h k h0 hg
  go_enter Try.func23, Try.ntmps23
  go_wp2_with fail
  refine (D.out).mono ?_
  rintro e w1 ⟨Y, r, f, rfl, S, b1⟩
  have hrl := natIs_len S (K := 10000) (by omega)
  have HL := Lib.hid (gLeast S.in_ (K.out.step b1) hrl hs2)
  clear S
  go_wp2_with fail
  refine (HL.out).mono ?_
  rintro e w2 ⟨X, q, d, Z, s, t, x, rfl, U, V, hL, b2⟩
  rw [gcd_rest, HG.out] at U
  have B2 := below_step b1 b2
  have hsl : s ≤ 10000 := by
    refine natIs_len V ?_
    rcases hL.le with h | h
    · have := nbits_mono h; omega
    · have := nbits_mono h; rw [show nbits 1 = 1 by decide] at this; omega
  have HLL := Lib.hid hL
  have HU := Lib.hid U
  have HV := Lib.hid V
  clear HL hL U V
  go_wp2_with fail
  refine (bOf w2 1 (by omega)).mono ?_
  rintro e w3 ⟨O, o, p, rfl, W, _, b3⟩
  have B3 := below_step B2 b3
  have HC := Lib.hid (bCmp (HU.out.step b3).in_ W.in_)
  have hcm : cmpS 1 1 = 0 := rfl
  rw [hcm] at HC
  clear W hcm
  go_wp2_with fail
  refine (HC.out).mono ?_
  rintro e w4 ⟨rfl, b4⟩
  have B4 := below_step B3 b4
  have HM := Lib.hid (bMod_ok ((HV.out.step b3).step b4).in_ (K.out.step B4) H0.out hsl hs2)
  go_wp2_with fail
  refine (HM.out).mono ?_
  rintro e w5 ⟨P, u, v, rfl, R, b5⟩
  have HR := Lib.hid R
  clear R HC HM
  go_wp2_with fail
  go_ret2
  exact ⟨P, u, v, _, rfl, HR.out, Nat.mod_lt _ (Nat.pos_of_ne_zero H0.out), HLL.out.inv_rest HG.out, below_step B4 b5⟩
set_option maxHeartbeats 1000000 in
theorem bInv_no (h : NatIn w A n c M) (k : NatIn w A2 m c2 N) (h0 : N = 0 ∨ Nat.gcd M N ≠ 1) (hs : n ≤ 10000) (hs2 : m ≤ 10000) : Calls Try.prog 23 #[.slice A n c, .slice A2 m c2] w (OutInvNo w) := by
  by_cases hN : N = 0
  · have D := Lib.hid (bMod_zero h k hN hs hs2)
    clear h k h0 hN
    go_enter Try.func23, Try.ntmps23
    go_wp2_with fail
    refine (D.out).mono ?_
    rintro e w1 ⟨X, d, rfl, b1⟩
    go_wp2_with fail
    go_ret2
    exact ⟨none, 0, rfl, b1⟩
  · have hg : Nat.gcd M N ≠ 1 := h0.resolve_left hN
    have D := Lib.hid (bMod_ok h k hN hs hs2)
    have hkb := k.bits
    have hrn := nbits_mono (Nat.le_of_lt (Nat.mod_lt M (Nat.pos_of_ne_zero hN)))
    have K := Lib.hid k
    have HG := Lib.hid hg
    clear h k h0 hN hg
    go_enter Try.func23, Try.ntmps23
    go_wp2_with fail
    refine (D.out).mono ?_
    rintro e w1 ⟨Y, r, f, rfl, S, b1⟩
    have hrl := natIs_len S (K := 10000) (by omega)
    have HL := Lib.hid (gLeast S.in_ (K.out.step b1) hrl hs2)
    clear S
    go_wp2_with fail
    refine (HL.out).mono ?_
    rintro e w2 ⟨X, q, d, Z, s, t, x, rfl, U, V, hL, b2⟩
    rw [gcd_rest] at U
    have B2 := below_step b1 b2
    have HU := Lib.hid U
    clear HL hL U V
    go_wp2_with fail
    refine (bOf w2 1 (by omega)).mono ?_
    rintro e w3 ⟨O, o, p, rfl, W, _, b3⟩
    have B3 := below_step B2 b3
    have HC := Lib.hid (bCmp (HU.out.step b3).in_ W.in_)
    have hcm := cmpS_ne HG.out
    generalize cmpS (Nat.gcd M N) 1 = cm at *
    clear W
    go_wp2_with fail
    refine (HC.out).mono ?_
    rintro e w4 ⟨rfl, b4⟩
    go_wp2_with fail
    go_ret2
    exact ⟨none, 0, rfl, below_step B3 b4⟩
end
end Go.Proofs.Ytgmolbiicclcaaa

/- Several texts in one; each begins with a remark that says what it shows and on which conditions. -/
import Derived.Test.YtjpfcdgaepdcdaaGreatKas
import Derived.Test.YtjpfcdgaepdcdaaGreatKaf
/- power.raised of numbers of many words. Conditions: as typed (lengths that fit a machine). -/
namespace Go.Proofs.YtjpfcdgaepdcdaaGreat
open Go.RowKit Go.Shelf
set_option maxRecDepth 20000
attribute [local go_sem] Oper.semAt_some
/-! Numbers in memory stay where variables of another kind are stored into, and where no cells are turned -/
theorem Rd.box8 {u : World} {B G t : Nat} {A : Option Addr} {l : List Nat} {v : Value} (h : Rd .u64 u B A l) (hb : Boxed u G t v) (hv : ∀ k x, v ≠ .int k x) (y : Value) : Rd .u64 (u.setCell ⟨G, 0, none⟩ y) B A l := fun hl => by
  obtain ⟨b, off, rfl, hlt, hc⟩ := h hl
  refine ⟨b, off, rfl, hlt, fun j hj => ?_⟩
  have hne : b ≠ G := by
    rintro rfl
    have h1 := hc j hj
    have h2 : u.heap[b]? = some (.cells #[v] t (0, 0)) := hb
    simp only [World.cell?, h2] at h1
    rcases Nat.eq_zero_or_pos (off + j) with h0 | h0
    · rw [h0] at h1; simp at h1; exact hv _ _ h1
    · obtain ⟨o, ho⟩ : ∃ o, off + j = o := ⟨_, rfl⟩
      rw [ho] at h1 h0
      rw [if_neg (by simp), List.getElem?_toArray, List.getElem?_eq_none (by simp; omega)] at h1
      cases h1
  rw [← hc j hj]
  exact World.cell?_setCell_other _ _ _ _ (fun e => hne (by injection e with e1; exact e1.symm))
theorem Rd.still8 {W W' : World} {B : Nat} {A : Option Addr} {l : List Nat} {row : Option Nat} (h : Rd .u64 W B A l) (hg : W.grownBy W' row) (hr : ∀ r, row = some r → ∃ o : Obj, W.heap[r]? = some o ∧ o.isCells = false) : Rd .u64 W' B A l := fun hl => by
  obtain ⟨b, off, e, hb, hc⟩ := h hl
  exact ⟨b, off, e, hb, fun j hj => cell_kept (hc j hj) hg hr⟩
section
variable {u u' : World} {G t : Nat} {A : Option Addr} {n c V : Nat} {v : Value} {row : Option Nat}
theorem NatIn.box8 (h : NatIn u A n c V) (hb : Boxed u G t v) (hv : ∀ k x, v ≠ .int k x) (y : Value) : NatIn (u.setCell ⟨G, 0, none⟩ y) A n c V := by
  obtain ⟨l, h1, h2, h3, h4, h5, h6⟩ := h
  refine ⟨l, h1, h2, h3, h4, ?_, h6⟩
  have := h5.box8 hb hv y
  simpa [World.setCell] using this
theorem NatIs.box8 (h : NatIs u A n c V) (hb : Boxed u G t v) (hv : ∀ k x, v ≠ .int k x) (y : Value) : NatIs (u.setCell ⟨G, 0, none⟩ y) A n c V := by
  obtain ⟨h1, h2, h3, h4⟩ := h
  refine ⟨h1, h2, ?_, h4⟩
  have := h3.box8 hb hv y
  simpa [World.setCell] using this
theorem NatIn.still8 (h : NatIn u A n c V) (hg : u.grownBy u' row) (hr : ∀ r, row = some r → ∃ o : Obj, u.heap[r]? = some o ∧ o.isCells = false) : NatIn u' A n c V := by
  obtain ⟨l, h1, h2, h3, h4, h5, h6⟩ := h
  exact ⟨l, h1, h2, h3, h4, (h5.still8 hg hr).more hg.size, h6⟩
theorem NatIs.still8 (h : NatIs u A n c V) (hg : u.grownBy u' row) (hr : ∀ r, row = some r → ∃ o : Obj, u.heap[r]? = some o ∧ o.isCells = false) : NatIs u' A n c V :=
  ⟨h.1, h.2.1, (h.2.2.1.still8 hg hr).more hg.size, h.2.2.2⟩
end
/-- A number. -/
def OutR (V : Nat) (w : World) (e : Ending) (w' : World) : Prop := ∃ Y r f, e = .returned (.slice Y r f) ∧ NatIs w' Y r f V ∧ Below w.heap.size w w'
set_option maxHeartbeats 2000000 in
theorem exp2_any {w : World} {A A2 A3 : Option Addr} {n m k c c2 c3 x y M g : Nat} (h : NatIn w A n c x) (i : NatIn w A2 m c2 y) (j : NatIn w A3 k c3 M) (hb : Boxed w g 33 (.slice A3 k c3)) (hM : M ≠ 0) (hs : n ≤ 4000) (hs2 : m ≤ 4000) (hs3 : k ≤ 9000) :
    Calls Tryz.prog 99 #[.slice A n c, .slice A2 m c2, .pointer (some ⟨g, 0, none⟩)] w (OutR (x * y % M) w) := by
  have bd : Below w.heap.size w w.drew := (Drawn.more 1).below _
  obtain ⟨z, hz⟩ : ∃ z, x * y % M = z := ⟨_, rfl⟩
  have hmul := nbits_mul x y
  have hxb := h.bits
  have hyb := i.bits
  have HM := Lib.hid (bMul (h.step bd) (i.step bd) (by omega) (by omega))
  have HJ := Lib.hid (j.step bd)
  have hb1 : Boxed w.drew g 33 (.slice A3 k c3) := hb.kept (grown_of_below bd) (by simp)
  have HB := Lib.hid hb1
  have hc0 := hb1.cell
  rw [hz]
  have HZ := Lib.hid hz
  clear h i j hb hb1 hz
  go_enter Tryz.func99, Tryz.ntmps99
  go_wp2_with fail
  go_region_with (first
    | (go_at_call 100; (with_reducible refine (HM.out).mono ?_); rintro e w1 ⟨X, q, d, rfl, hX, _, b1⟩; have c1 := (HB.out.kept (grown_of_below b1) (by simp)).cell; have hq := natIs_len8 (K := 8001) hX (by omega); have HD := Lib.hid (bMod_is z hX.in_ (HJ.out.step b1) HZ.out hM (by omega) (by omega)); clear hX)
    | (go_at_call 77; (with_reducible refine (HD.out).mono ?_); rintro e w2 ⟨Y, r, f, rfl, h2, b2⟩))
  all_goals
    go_wp2_with fail
    go_ret
    exact ⟨Y, r, f, rfl, h2, bd.trans ((b1.mono bd.size).trans (b2.mono (Nat.le_trans bd.size b1.size)))⟩
/-- Between two rounds of raised. -/
structure RaiMid2 (w : World) (g : Nat) (Ab Am Ao : Option Addr) (nb cb nm cm no co b M out : Nat) (W : World) : Prop where
  bb : Boxed W w.heap.size 33 (.slice Ab nb cb)
  bt : Boxed W (w.heap.size + 1) 68 (.func (.func 99) #[] #[.pointer (some ⟨g, 0, none⟩)])
  bo : Boxed W (w.heap.size + 1 + 1) 33 (.slice Ao no co)
  bm : Boxed W g 33 (.slice Am nm cm)
  hb : NatIn W Ab nb cb b
  hm : NatIn W Am nm cm M
  ho : NatIs W Ao no co out
  below : Below w.heap.size w W
  size : w.heap.size + 4 ≤ W.heap.size
section
variable {w W W' : World} {g : Nat} {Ab Am Ao : Option Addr} {nb cb nm cm no co b M out : Nat} {row : Option Nat}
theorem RaiMid2.kept (h : RaiMid2 w g Ab Am Ao nb cb nm cm no co b M out W) (hg : W.grownBy W' row) (hr : ∀ k, row = some k → w.heap.size + 4 ≤ k ∧ ∃ o : Obj, W.heap[k]? = some o ∧ o.isCells = false) (hgw : g < w.heap.size) : RaiMid2 w g Ab Am Ao nb cb nm cm no co b M out W' where
  bb := h.bb.kept hg (by intro e; have := (hr _ e.symm).1; omega)
  bt := h.bt.kept hg (by intro e; have := (hr _ e.symm).1; omega)
  bo := h.bo.kept hg (by intro e; have := (hr _ e.symm).1; omega)
  bm := h.bm.kept hg (by intro e; have := (hr _ e.symm).1; omega)
  hb := h.hb.still8 hg (fun k e => (hr k e).2)
  hm := h.hm.still8 hg (fun k e => (hr k e).2)
  ho := h.ho.still8 hg (fun k e => (hr k e).2)
  below := h.below.grown hg h.below.size (fun k e => by have := (hr k e).1; omega)
  size := Nat.le_trans h.size hg.size
theorem RaiMid2.put (h : RaiMid2 w g Ab Am Ao nb cb nm cm no co b M out W) {X : Option Addr} {q d x : Nat} (hx : NatIs W X q d x) (hgw : g < w.heap.size) : RaiMid2 w g Ab Am X nb cb nm cm q d b M x (W.setCell ⟨w.heap.size + 1 + 1, 0, none⟩ (.slice X q d)) where
  bb := h.bb.kept (grownBy_setCell' W (w.heap.size + 1 + 1) (.slice X q d)) (by simp; omega)
  bt := h.bt.kept (grownBy_setCell' W (w.heap.size + 1 + 1) (.slice X q d)) (by simp)
  bo := h.bo.set _
  bm := h.bm.kept (grownBy_setCell' W (w.heap.size + 1 + 1) (.slice X q d)) (by simp; omega)
  hb := h.hb.box8 h.bo (by simp) _
  hm := h.hm.box8 h.bo (by simp) _
  ho := hx.box8 h.bo (by simp) _
  below := h.below.setCell (p := ⟨w.heap.size + 1 + 1, 0, none⟩) (by simp; omega) _
  size := by simpa [World.setCell] using h.size
end
set_option maxRecDepth 100000 in
set_option maxHeartbeats 2000000 in
theorem raised2_pf (b M g E : Nat) (Ab Am A1 A : Option Addr) (nb cb nm cm n1 c1 q c : Nat) (w : World) (hE : NatIn w A q c E) (hb : NatIn w Ab nb cb b) (hm : NatIn w Am nm cm M) (ho : NatIs w A1 n1 c1 1) (hg : Boxed w g 33 (.slice Am nm cm))
    (hM : 1 < M) (hMb : nbits M ≤ 4096) (hnb : nb ≤ 4000) (hnm : nm ≤ 9000) :
    Calls Tryz.prog 98 #[.slice Ab nb cb, .slice A1 n1 c1, .slice A q c, .func (.func 99) #[] #[.pointer (some ⟨g, 0, none⟩)]] w (OutR (b ^ E % M) w) := by
  obtain ⟨K, hK⟩ : ∃ K, nbits E = K := ⟨_, rfl⟩
  have HK := Lib.hid hK
  have HE := Lib.hid hE
  have hgw := hg.lt
  have hn1 := natIs_len8 (K := 1) ho (by decide)
  have HMb := Lib.hid hMb
  clear hK hE hMb
  refine (callsIn_wide (n := 9)).1 ?_
  refine callsIn_of_wp_marks Tryz.func98 rfl trivial ?_ rfl
  simp only [Tryz.ntmps98, List.size_toArray, List.length_cons, List.length_nil, Nat.reduceAdd, Nat.reduceSub, Array.replicate_succ, Array.replicate_zero, List.push_toArray, List.append_toArray, List.nil_append, List.cons_append]
  gi_wp2
  refine ⟨trivial, ?_⟩
  refine (high_in _ _ _ _ _).mono ?_
  rintro e w' ⟨rfl, rfl⟩
  have b1 := Boxed.new w 33 (.slice Ab nb cb)
  have b2 := Boxed.new (w.alloc (.cells #[.slice Ab nb cb] 33)) 68 (.func (.func 99) #[] #[.pointer (some ⟨g, 0, none⟩)])
  have b3 := Boxed.new ((w.alloc (.cells #[.slice Ab nb cb] 33)).alloc (.cells #[.func (.func 99) #[] #[.pointer (some ⟨g, 0, none⟩)]] 68)) 33 (.slice A1 n1 c1)
  have b4 := Boxed.new (((w.alloc (.cells #[.slice Ab nb cb] 33)).alloc (.cells #[.func (.func 99) #[] #[.pointer (some ⟨g, 0, none⟩)]] 68)).alloc (.cells #[.slice A1 n1 c1] 33)) 33 (.slice A q c)
  simp only [World.size_alloc] at b2 b3 b4
  obtain ⟨E0, hE0⟩ : ∃ E0, (((w.alloc (.cells #[.slice Ab nb cb] 33)).alloc (.cells #[.func (.func 99) #[] #[.pointer (some ⟨g, 0, none⟩)]] 68)).alloc (.cells #[.slice A1 n1 c1] 33)).alloc (.cells #[.slice A q c] 33) = E0 := ⟨_, rfl⟩
  have hEs : E0.heap.size = w.heap.size + 4 := by rw [← hE0]; simp
  have hB : Below w.heap.size w E0 := by rw [← hE0]; exact ((((Below.refl _ w).alloc (Nat.le_refl _) _).alloc (by simp) _).alloc (by simp; omega) _).alloc (by simp; omega) _
  have hM0 : RaiMid2 w g Ab Am A1 nb cb nm cm n1 c1 b M 1 E0 := by
    refine ⟨?_, ?_, ?_, (hB.block g hgw).trans hg, hb.step hB, hm.step hB, ho.step hB, hB, by omega⟩
    · rw [← hE0]; exact ((b1.alloc _).alloc _).alloc _
    · rw [← hE0]; exact (b2.alloc _).alloc _
    · rw [← hE0]; exact b3.alloc _
  have bE : Boxed E0 (w.heap.size + 1 + 1 + 1) 33 (.slice A q c) := by rw [← hE0]; exact b4
  have HEs := Lib.hid hEs
  clear b1 b2 b3 b4
  gi_wp2
  clear hE0
  refine wpIn_rangeFunc_ownG rfl (by omega) (gf := 129) (lb := #[.pointer (some ⟨w.heap.size + 1 + 1 + 1, 0, none⟩)]) rfl trivial (enters_of Tryz.func129 (by kernel_rfl) rfl)
    (high_stops 8 (by omega) (w.heap.size + 1 + 1 + 1) w.heap.size q c E K A HK E0 bE (by omega) (by obtain ⟨l, e1, e2, e3, e4, e5, e6⟩ := HE.out; exact ⟨l, e1, e2, e3, e4, e5.below hB, e6⟩))
    KpB.t (KpB.b (by omega) (by omega)) (Below.refl _ _) (fun _ => rfl)
    (fun pre W => ∃ Ao no co, no ≤ 64 ∧ RaiMid2 w g Ab Am Ao nb cb nm cm no co b M (b ^ hv pre % M) W)
    (fun _ _ _ => False)
    (fun s X Y row hs hg hr => by
      obtain ⟨Ao, no, co, h1, h2⟩ := hs
      exact ⟨Ao, no, co, h1, h2.kept hg (fun k e => ⟨by have := (hr k e).1; omega, (hr k e).2⟩) hgw⟩)
    (fun _ _ _ _ _ hs _ _ => hs)
    ⟨A1, n1, c1, by omega, by rw [hv_nil, Nat.pow_zero, Nat.mod_eq_of_lt hM]; exact hM0⟩
    (fun x => { tmps := #[.slice Ab nb cb, .slice A1 n1 c1, .slice A q c, .func (.func 99) #[] #[.pointer (some ⟨g, 0, none⟩)], .pointer (some ⟨w.heap.size, 0, none⟩), undef, undef, .pointer (some ⟨w.heap.size + 1, 0, none⟩), .slice none 0 0, .pointer (some ⟨w.heap.size + 1 + 1, 0, none⟩),
      .int .u64 (x.1 : Int), .slice A1 n1 c1, .slice A q c, .func (.func 129) #[] #[.pointer (some ⟨w.heap.size + 1 + 1 + 1, 0, none⟩)], .int .u64 (x.1 : Int), undef, undef, undef, undef, undef, undef, undef, undef, undef, undef, undef], defers := [] }) ?assign ?body ?done ?stop
  case assign =>
    intro l x W K hK
    gi_wp2
    exact hK
  case body =>
    rintro l pre x W ⟨Ao, no, co, hno, hM1⟩ hlen
    obtain ⟨v, hv0⟩ : ∃ v, hv pre = v := ⟨_, rfl⟩
    obtain ⟨o, ho'⟩ : ∃ o, b ^ v % M = o := ⟨_, rfl⟩
    obtain ⟨o2, ho2⟩ : ∃ o2, o * o % M = o2 := ⟨_, rfl⟩
    have h2 : b ^ (2 * v) % M = o2 := by rw [← ho2, ← ho', pow_twice]
    rw [hv0, ho'] at hM1
    have ho2l : o2 < M := by rw [← ho2]; exact Nat.mod_lt _ (by omega)
    have ho2n := nbits_mono (Nat.le_of_lt ho2l)
    have X1 := exp2_any hM1.ho.in_ hM1.ho.in_ hM1.hm hM1.bm (by omega) (by omega) (by omega) hnm
    rw [ho2] at X1
    have HX1 := Lib.hid X1
    have HM := Lib.hid hM1
    have HV := Lib.hid (hv_snoc pre x)
    rw [hv0] at HV
    have H2 := Lib.hid h2
    have hbc := hM1.bb.cell
    have htc := hM1.bt.cell
    have hoc := hM1.bo.cell
    have hof := hM1.bo.frozen
    have hWs := hM1.size
    have HO2 := Lib.hid ho2n
    clear X1 hM1 hv0 ho' ho2 h2 hlen hM0 bE ho2n ho hb hm hg
    gi_wp2
    refine ⟨trivial, ?_⟩
    refine (CallsIn.inRound l (callsIn_wide.2 HX1.out)).mono ?_
    rintro e W1 ⟨Y, r, f, rfl, hY, d1⟩
    have hr64 := natIs_len8 (K := 64) hY (by have := HO2.out; have := HMb.out; omega)
    have hM1 := HM.out.kept (grown_of_below d1) (fun k e => by cases e) hgw
    have K1 := KeepsOthers.of_grownBy (grown_of_below d1) (fun j o e => by cases e)
    have hM2 := hM1.put hY hgw
    have hoc1 := hM1.bo.cell
    have hof1 := hM1.bo.frozen
    have K2 := K1.trans (KeepsOthers.setCell _ ⟨w.heap.size + 1 + 1, 0, none⟩ (.slice Y r f))
    have P2 : KpB w.heap.size (w.heap.size + 1 + 1 + 1) W (W1.setCell ⟨w.heap.size + 1 + 1, 0, none⟩ (.slice Y r f)) :=
      ⟨(d1.mono (by omega)).setCell (p := ⟨w.heap.size + 1 + 1, 0, none⟩) (by simp; omega) _, ((grownBy_setCell' W1 (w.heap.size + 1 + 1) (.slice Y r f)).block _ (by have := hM1.size; omega) (by simp)).trans ((grown_of_below d1).block _ (by omega) (by simp))⟩
    have hbc2 := hM2.bb.cell
    have htc2 := hM2.bt.cell
    have hoc2 := hM2.bo.cell
    have hof2 := hM2.bo.frozen
    have hWs2 := hM2.size
    have HM2 := Lib.hid hM2
    have HK2 := Lib.hid K2
    have HP2 := Lib.hid P2
    clear hM1 hM2 K1 K2 P2 hY
    rcases Nat.lt_or_ge x.1 1 with hx | hx
    · have hx0 : x.1 = 0 := by omega
      have hb0 : ((x.1 : Int) == 1) = false := by simp; omega
      have HF := Lib.hid (show KeepsFrom E0.heap.size W (W1.setCell ⟨w.heap.size + 1 + 1, 0, none⟩ (.slice Y r f)) ∧ KpB w.heap.size (w.heap.size + 1 + 1 + 1) W (W1.setCell ⟨w.heap.size + 1 + 1, 0, none⟩ (.slice Y r f)) ∧ ∃ Ao no co, no ≤ 64 ∧ RaiMid2 w g Ab Am Ao nb cb nm cm no co b M (b ^ hv (pre ++ [x]) % M) (W1.setCell ⟨w.heap.size + 1 + 1, 0, none⟩ (.slice Y r f)) from
        ⟨HK2.out.from _, HP2.out, Y, r, f, hr64, by rw [HV.out, hx0, Nat.add_zero, H2.out]; exact HM2.out⟩)
      clear hx hx0
      gi_wp2
      exact HF.out
    · have hx1 : x.1 = 1 := by have := x.2; omega
      have hb0 : ((x.1 : Int) == 1) = true := by simp; omega
      obtain ⟨o3, ho3⟩ : ∃ o3, o2 * b % M = o3 := ⟨_, rfl⟩
      have h3 := Lib.hid (show b ^ (2 * v + 1) % M = o3 by rw [← pow_twice_one, H2.out, Nat.mul_mod_mod, ho3])
      have ho3l : o3 < M := by rw [← ho3]; exact Nat.mod_lt _ (by omega)
      have HO3 := Lib.hid (nbits_mono (Nat.le_of_lt ho3l))
      have X2 := exp2_any HM2.out.ho.in_ HM2.out.hb HM2.out.hm HM2.out.bm (by omega) (by omega) (by omega) hnm
      rw [ho3] at X2
      have HX2 := Lib.hid X2
      have HX1' := Lib.hid hx1
      clear X2 ho3 hx hx1 ho3l
      gi_wp2
      refine ⟨trivial, ?_⟩
      refine (CallsIn.inRound l (callsIn_wide.2 HX2.out)).mono ?_
      rintro e W3 ⟨Z, s, y, rfl, hZ, d3⟩
      have hs64 := natIs_len8 (K := 64) hZ (by have := HO3.out; have := HMb.out; omega)
      have hM3 := HM2.out.kept (grown_of_below d3) (fun k e => by cases e) hgw
      have K3 := HK2.out.trans (KeepsOthers.of_grownBy (grown_of_below d3) (fun j o e => by cases e))
      have hM4 := hM3.put hZ hgw
      have K4 := K3.trans (KeepsOthers.setCell _ ⟨w.heap.size + 1 + 1, 0, none⟩ (.slice Z s y))
      have P4 : KpB w.heap.size (w.heap.size + 1 + 1 + 1) (W1.setCell ⟨w.heap.size + 1 + 1, 0, none⟩ (.slice Y r f)) (W3.setCell ⟨w.heap.size + 1 + 1, 0, none⟩ (.slice Z s y)) :=
        ⟨(d3.mono (by omega)).setCell (p := ⟨w.heap.size + 1 + 1, 0, none⟩) (by simp; omega) _, ((grownBy_setCell' W3 (w.heap.size + 1 + 1) (.slice Z s y)).block _ (by have := hM3.size; omega) (by simp)).trans ((grown_of_below d3).block _ (by omega) (by simp))⟩
      have hoc3 := hM3.bo.cell
      have hof3 := hM3.bo.frozen
      have HF := Lib.hid (show KeepsFrom E0.heap.size W (W3.setCell ⟨w.heap.size + 1 + 1, 0, none⟩ (.slice Z s y)) ∧ KpB w.heap.size (w.heap.size + 1 + 1 + 1) W (W3.setCell ⟨w.heap.size + 1 + 1, 0, none⟩ (.slice Z s y)) ∧ ∃ Ao no co, no ≤ 64 ∧ RaiMid2 w g Ab Am Ao nb cb nm cm no co b M (b ^ hv (pre ++ [x]) % M) (W3.setCell ⟨w.heap.size + 1 + 1, 0, none⟩ (.slice Z s y)) from
        ⟨K4.from _, HP2.out.t P4, Z, s, y, hs64, by rw [HV.out, HX1'.out, h3.out]; exact hM4⟩)
      clear hM3 hM4 K3 K4 P4 hZ
      gi_wp2
      exact HF.out
  case done =>
    rintro D ys W hD hys ⟨Ao, no, co, hno, hM1⟩ hKd
    have HKd := Lib.hid hKd
    have hv1 : hv ys = E := by rw [hys, ← HK.out, hv_all]
    rw [hv1] at hM1
    have hoc := hM1.bo.cell
    have hD2 : w.heap.size + 4 ≤ D := by have := HEs.out; omega
    have HB := Lib.hid (show Below w.heap.size w (W.putObj D (.deferred none)) from hM1.below.trans (belowK_b (w := w) (Nat.le_refl _) W D _ _ (by omega) HKd.out rfl rfl))
    have HN := Lib.hid (hM1.ho.still8 (grownBy_putObj' W D (.deferred none)) (fun r e => by cases e; exact ⟨_, HKd.out, rfl⟩))
    clear hys hKd hv1 hM1 hM0 bE ho hb hm hg
    gi_wp2
    refine ⟨by simp, .inl ⟨_, _, rfl, run_takeDeferred HKd.out, ?_⟩⟩
    exact ⟨_, results_tmp (t := 8) rfl _ _ _, Ao, no, co, rfl, HN.out, HB.out⟩
  case stop =>
    rintro D c pre W _ _ h _
    exact h.elim
end Go.Proofs.YtjpfcdgaepdcdaaGreat
/- A range over a function whose elements lie in memory: the iterator tells of each element what holds of it in the world in which it is handed over (En). Conditions: as typed; no function of the program is named. -/
namespace Go.Proofs.YtjpfcdgaepdcdaaGreat
open Go.RowKit Go.Shelf
set_option maxRecDepth 20000
section
variable {F : Fence} {n : Nat} {P : Program}
/-- An iterator's promise, where of each element something holds as it is handed over. -/
def SeqTold {α : Type} (F : Fence) (n : Nat) (P : Program) (g : Nat) (lb : Array Value) (encs : α → Array Value) (En : α → World → Prop) (Kp : World → World → Prop) (S Sp : List α → Prop) (w : World) : Prop :=
  ∀ (l : Nat) (J Jx : List α → World → Prop) (W : World), Below w.heap.size w W → AbidesFrom W.heap.size J → AbidesFrom W.heap.size Jx →
    (∀ pre x W1, J pre W1 → En x W1 → YieldAt F (n - 1) P l (encs x) W1 fun e W' =>
      (e = .returned (.bool true) ∧ J (pre ++ [x]) W' ∧ Kp W1 W') ∨ (e = .returned (.bool false) ∧ Jx (pre ++ [x]) W')) →
    J [] W →
    CallsIn F n P g (#[.func (.yield l) #[] #[]] ++ lb) W fun e W' => (∃ v, e = .returned v) ∧ ((∃ xs, S xs ∧ J xs W') ∨ (∃ pre, Sp pre ∧ Jx pre W'))
/-- Where a loop's two blocks lie, and what its record says. -/
def RecAt (k : Nat) (L : Loop) (W : World) : Prop := W.heap[k + 1]? = some (.loop L) ∧ W.heap[k]? = some (.deferred (some []))
theorem RecAt.lt {k : Nat} {L : Loop} {W : World} (h : RecAt k L W) : k + 1 < W.heap.size := (Array.getElem?_eq_some_iff.1 h.1).1
theorem RecAt.from {k : Nat} {L : Loop} {W W' : World} (h : RecAt k L W) (hk : KeepsFrom k W W') : RecAt k L W' := ⟨hk.same _ _ (by omega) h.1 rfl, hk.same _ _ (Nat.le_refl _) h.2 rfl⟩
theorem RecAt.put {k : Nat} {L : Loop} {W : World} (h : RecAt k L W) (L' : Loop) : RecAt k L' (W.putObj (k + 1) (.loop L')) := ⟨World.putObj_heap_same h.lt, (World.putObj_heap_other (by omega)).trans h.2⟩
theorem RecAt.walked {k : Nat} {L : Loop} {W W' : World} {row : Option Nat} (h : RecAt k L W) (hg : W.grownBy W' row) (hr : ∀ r, row = some r → ∃ o : Obj, W.heap[r]? = some o ∧ o.isWalk = true) : RecAt k L W' := ⟨(grownBy_keeps hg hr h.1 rfl).trans h.1, (grownBy_keeps hg hr h.2 rfl).trans h.2⟩
theorem RecAt.made (w : World) (L : Loop) : RecAt w.heap.size L ((w.alloc (.deferred (some []))).alloc (.loop L)) := by
  constructor
  · have := World.alloc_heap_new (w.alloc (.deferred (some []))) (.loop L)
    rwa [World.size_alloc] at this
  · exact (Below.heap_alloc _ _ _ (by simp)).trans (World.alloc_heap_new w _)
/-- A walk's block, turned by the iterator, is one that the caller's own words abide. -/
theorem own_walk {β : Type} {B B' : Nat} {I : β → World → Prop} (hI : OwnFrom B I) (hB : B ≤ B') {s : β} {X Y : World} {row : Option Nat} (hs : I s X) (hg : X.grownBy Y row) (hr : ∀ r, row = some r → B' ≤ r ∧ ∃ o : Obj, X.heap[r]? = some o ∧ o.isWalk = true) : I s Y :=
  hI s X Y row hs hg fun r e => by
    obtain ⟨h1, o, h2, h3⟩ := hr r e
    exact ⟨by omega, o, h2, Obj.not_cells_of_walk h3⟩
set_option maxHeartbeats 1000000 in
/-- A range over such an iterator, at a function's own level. -/
theorem range_told {α : Type} {g : Operand} {ps : Array Tmp} {assign body : Code} {Q : Exit → Act → World → Prop} {a : Act} {w : World}
    (hro : F.round = none) (h1 : 1 ≤ n) {gf : Nat} {lb : Array Value} (hg : a.eval g = .func (.func gf) #[] lb) (hFg : F.fn gf) (eg : ∀ args w, (callFunc gf args).run P w = .ok (.enter gf args) w)
    {encs : α → Array Value} {En : α → World → Prop} {Kp : World → World → Prop} {S Sp : List α → Prop} {w0 : World} (hseq : SeqTold F (n - 1) P gf lb encs En Kp S Sp w0)
    (hKt : ∀ {A B C : World}, Kp A B → Kp B C → Kp A C) (hKb : ∀ (W : World) (l : Nat) (o o' : Obj), w.heap.size ≤ l → W.heap[l]? = some o → o.isCells = false → o.isWalk = false → Kp W (W.putObj l o')) (hb0 : Below w0.heap.size w0 w) (hps : ∀ x, (encs x).size = ps.size)
    (hEn : OwnFrom w.heap.size En) (I : List α → World → Prop) (Ix : Code → List α → World → Prop) (hI : OwnFrom w.heap.size I) (hIx : ∀ c, OwnFrom w.heap.size (Ix c)) (h0 : I [] w) (a₁ : α → Act)
    (hassign : ∀ (l : Nat) (x : α) (W : World) (K : Act → World → Prop), K (a₁ x) W →
      assign.wpIn (F.inRound l) (n - 1 - 1) P (Exit.then K (fun _ _ _ => False)) { tmps := (ps.zip (encs x)).foldl (fun t (p, v) => t.setIfInBounds p v) a.tmps, defers := [] } W)
    (hbody : ∀ (l : Nat) (pre : List α) (x : α) (W : World), I pre W → En x W → body.wpIn (F.inRound l) (n - 1 - 1) P (ownPostG w.heap.size Kp I Ix (pre ++ [x]) W) (a₁ x) W)
    (hdone : ∀ (D : Nat) (xs : List α) (W : World), w.heap.size ≤ D → S xs → I xs W → W.heap[D]? = some (.deferred (some [])) → Q .normal { a with defers := { target := .collected D, args := #[] } :: a.defers } W)
    (hstop : ∀ (D : Nat) (c : Code) (pre : List α) (W : World), w.heap.size ≤ D → Sp pre → Ix c pre W → W.heap[D]? = some (.deferred (some [])) → c.wpIn F n P Q { a with defers := { target := .collected D, args := #[] } :: a.defers } W) :
    (Code.rangeFunc g ps assign body).wpIn F n P Q a w := by
  refine wpIn_rangeFunc fun fn hfn => ?_
  rw [hro]
  have hR : ∃ R : LoopState → Option Code → Loop, R = fun st pe => { state := st, pending := pe, fn, tmps := a.tmps, params := ps, assign, body, defers := w.heap.size } := ⟨_, rfl⟩
  obtain ⟨R, hR⟩ := hR
  have hM := RecAt.made w (R .ready none)
  have hB1 : Below w0.heap.size w0 ((w.alloc (.deferred (some []))).alloc (.loop (R .ready none))) := hb0.trans ((((Below.refl _ w).alloc (Nat.le_refl _) _).alloc (by simp) _).mono hb0.size)
  have hs1 : w.heap.size ≤ ((w.alloc (.deferred (some []))).alloc (.loop (R .ready none))).heap.size := by simp; omega
  have hi1 : I [] ((w.alloc (.deferred (some []))).alloc (.loop (R .ready none))) := hI.alloc _ (hI.alloc _ h0)
  have hent : (Instr.enterLoop fn a.tmps ps assign body none).run P w = .ok (w.heap.size + 1, [{ target := .collected w.heap.size, args := #[] }]) ((w.alloc (.deferred (some []))).alloc (.loop (R .ready none))) := by rw [hR]; exact run_enterLoop_outer _ _ _ _ _
  generalize (w.alloc (.deferred (some []))).alloc (.loop (R .ready none)) = W1 at hM hB1 hs1 hi1 hent
  refine ⟨w.heap.size + 1, [{ target := .collected w.heap.size, args := #[] }], W1, { target := .fn (.func gf) lb, args := #[.func (.yield (w.heap.size + 1)) #[] #[]] }, W1, gf,
    #[.func (.yield (w.heap.size + 1)) #[] #[]] ++ lb, W1, hent, ?_, ?_, ?_, fun _ => h1, ?_⟩
  · simp only [resolve, hg]
    simp [go_sem]
  · intro f' hf'; simp [Target.leads] at hf'; subst hf'; exact hFg
  · simp [invoke, go_sem, eg]
  · refine (hseq (w.heap.size + 1) (fun pre W => I pre W ∧ RecAt w.heap.size (R .ready none) W) (fun pre W => ∃ c, Ix c pre W ∧ RecAt w.heap.size (R .done (some c)) W) W1 hB1
      (fun s X Y row hs hg' hr => ⟨own_walk hI hs1 hs.1 hg' hr, hs.2.walked hg' fun r e => (hr r e).2⟩)
      (fun s X Y row ⟨c, hc, hs⟩ hg' hr => ⟨c, own_walk (hIx c) hs1 hc hg' hr, hs.walked hg' fun r e => (hr r e).2⟩) ?_ ⟨hi1, hM⟩).mono ?_
    · -- a round
      rintro pre x W ⟨hi, hl⟩ hx
      have hy := run_yield (P := P) (args := encs x) hl.1 (by rw [hR]; exact hps x)
      rw [hR] at hy
      refine ⟨fn, _, assign, body, hy, roundIn_of_wpIn hfn (hassign _ x W _ ?_)⟩
      refine ⟨_, run_beginRound hl.1 (by rw [hR]), ?_⟩
      rw [show ({ R .ready none with state := .busy } : Loop) = R .busy none by rw [hR]]
      have hlb := hl.put (R .busy none)
      have ho := Nat.le_succ w.heap.size
      refine wpIn_mono (hbody _ pre x _ (hI.putObj _ hi ho hl.1 rfl) (hEn.putObj _ hx ho hl.1 rfl)) ?_
      have hk1 : Kp W (W.putObj (w.heap.size + 1) (.loop (R .busy none))) := hKb _ _ _ _ ho hl.1 rfl rfl
      have fin : ∀ (jump : Option Code) (W3 : World), RecAt w.heap.size (R .busy none) W3 → (Instr.endRound (w.heap.size + 1) jump).run P W3 = .ok (.bool jump.isNone) (W3.putObj (w.heap.size + 1) (.loop (R (if jump.isNone then .ready else .done) jump))) := fun jump W3 h3 => by
        have := run_endRound (P := P) jump h3.1
        rw [hR] at this ⊢
        exact this
      have stop : ∀ (c : Code) (W3 : World), KeepsFrom w.heap.size (W.putObj (w.heap.size + 1) (.loop (R .busy none))) W3 → Ix c (pre ++ [x]) W3 → ∃ v w', (Instr.endRound (w.heap.size + 1) (some c)).run P W3 = .ok v w' ∧
          ((Ending.returned v = .returned (.bool true) ∧ (I (pre ++ [x]) w' ∧ RecAt w.heap.size (R .ready none) w') ∧ Kp W w') ∨ (Ending.returned v = .returned (.bool false) ∧ ∃ c, Ix c (pre ++ [x]) w' ∧ RecAt w.heap.size (R .done (some c)) w')) := fun c W3 hk hc =>
        have h3 := hlb.from hk
        ⟨_, _, fin (some c) W3 h3, .inr ⟨rfl, c, (hIx c).putObj _ hc ho h3.1 rfl, h3.put _⟩⟩
      rintro e a3 W3 hp
      cases e with
      | normal =>
        obtain ⟨hk3, hkp3, hi3⟩ := hp
        have h3 := hlb.from hk3
        exact ⟨_, _, fin none W3 h3, .inl ⟨rfl, ⟨hI.putObj _ hi3 ho h3.1 rfl, h3.put _⟩, hKt (hKt hk1 hkp3) (hKb _ _ _ _ ho h3.1 rfl rfl)⟩⟩
      | ret => exact stop _ _ hp.1 hp.2
      | exit id => exact stop _ _ hp.1 hp.2
      | goto t => exact stop _ _ hp.1 hp.2
      | panic ch => exact hp.elim
      | outgrown => exact hp.elim
    · -- behind the iterator
      have ho := Nat.le_succ w.heap.size
      have hend : ∀ (st : LoopState) (pe : Option Code) (W : World), st ≠ .busy → RecAt w.heap.size (R st pe) W → (Instr.endLoop (w.heap.size + 1)).run P W = .ok pe (W.putObj (w.heap.size + 1) (.loop (R .exhausted pe))) := fun st pe W hst h => by
        have := run_endLoop (P := P) h.1 (by rw [hR]; exact hst)
        rw [hR] at this ⊢
        exact this
      rintro e W2 ⟨⟨v, rfl⟩, (⟨xs, hS, hi, hl⟩ | ⟨pre, hSp, c, hi, hl⟩)⟩
      · exact ⟨none, _, hend _ _ _ (by simp) hl, hdone _ xs _ (Nat.le_refl _) hS (hI.putObj _ hi ho hl.1 rfl) (hl.put _).2⟩
      · exact ⟨some c, _, hend _ _ _ (by simp) hl, hstop _ c pre _ (Nat.le_refl _) hSp ((hIx c).putObj _ hi ho hl.1 rfl) (hl.put _).2⟩
end
end Go.Proofs.YtjpfcdgaepdcdaaGreat
/- Which odd numbers below 2^32 pass to the bases 2, 3, 5 and 7: the reckoning, and what it says. No condition but those typed; no program is named. -/
namespace Go.Proofs.YtjpfcdgaepdcdaaGreat
set_option maxRecDepth 20000
/-- n passes to the base a. -/
def Pass (n a : Nat) : Prop := ∃ s d, n - 1 = 2 ^ s * d ∧ d % 2 = 1 ∧ (a ^ d % n = 1 ∨ ∃ i, i < s ∧ a ^ (2 ^ i * d) % n = n - 1)
/-- The four bases. -/
def FourP (P : Nat → Prop) : Prop := P 2 ∧ P 3 ∧ P 5 ∧ P 7
theorem prm_factor (n : Nat) (h : 2 ≤ n) : ∃ p, Prm p ∧ p ∣ n := by
  induction n using Nat.strongRecOn with
  | ind n ih =>
    by_cases hp : Prm n
    · exact ⟨n, hp, Nat.dvd_refl n⟩
    · have : ∃ d, d ∣ n ∧ d ≠ 1 ∧ d ≠ n := by
        refine Classical.byContradiction fun hc => hp ⟨h, fun d hd => ?_⟩
        by_cases h1 : d = 1
        · exact .inl h1
        · by_cases h2 : d = n
          · exact .inr h2
          · exact absurd ⟨d, hd, h1, h2⟩ hc
      obtain ⟨d, hd, h1, h2⟩ := this
      have hle := Nat.le_of_dvd (by omega) hd
      have h0 : d ≠ 0 := by intro e; subst e; have := Nat.eq_zero_of_zero_dvd hd; omega
      obtain ⟨p, hp, hpd⟩ := ih d (by omega) (by omega)
      exact ⟨p, hp, Nat.dvd_trans hpd hd⟩
/-! Powers that leave 1 -/
theorem one_times {q a x : Nat} (hq : 1 < q) (hx : a ^ x % q = 1) (k : Nat) : a ^ (x * k) % q = 1 := by
  rw [Nat.pow_mul, Nat.pow_mod, hx, Nat.one_pow]
  exact Nat.mod_eq_of_lt hq
theorem one_left {q a x y : Nat} (hx : a ^ x % q = 1) (hy : a ^ (x + y) % q = 1) : a ^ y % q = 1 := by
  rw [Nat.pow_add, Nat.mul_mod, hx, Nat.one_mul, Nat.mod_mod] at hy
  exact hy
theorem one_mod {q a x y : Nat} (hq : 1 < q) (hx : a ^ x % q = 1) (hy : a ^ y % q = 1) : a ^ (y % x) % q = 1 :=
  one_left (x := x * (y / x)) (one_times hq hx _) (by rw [Nat.div_add_mod]; exact hy)
theorem one_gcd {q a : Nat} (hq : 1 < q) (x y : Nat) : a ^ x % q = 1 → a ^ y % q = 1 → a ^ (Nat.gcd x y) % q = 1 := by
  induction x, y using Nat.gcd.induction with
  | H0 y => intro _ hy; rwa [Nat.gcd_zero_left]
  | H1 x y _ ih => intro hx hy; rw [Nat.gcd_rec]; exact ih (one_mod hq hx hy) hx
theorem one_dvd {q a x y : Nat} (hq : 1 < q) (h : x ∣ y) (hx : a ^ x % q = 1) : a ^ y % q = 1 := by
  obtain ⟨k, rfl⟩ := h
  exact one_times hq hx k
theorem mod_of_mod {n q a : Nat} (h : q ∣ n) (hq : 1 < q) (ha : a % n = 1) : a % q = 1 := by
  rw [← Nat.mod_mod_of_dvd a h, ha]
  exact Nat.mod_eq_of_lt hq
/-- What passes leaves 1 at n - 1. -/
theorem Pass.one {n a : Nat} (hn : 1 < n) (h : Pass n a) : a ^ (n - 1) % n = 1 := by
  obtain ⟨s, d, e, _, h⟩ := h
  rw [e]
  rcases h with h | ⟨i, hi, h⟩
  · rw [Nat.mul_comm]
    exact one_times hn h _
  · obtain ⟨j, rfl⟩ : ∃ j, s = i + 1 + j := ⟨s - i - 1, by omega⟩
    have h2 : a ^ (2 ^ i * d * 2) % n = 1 := by
      rw [Nat.pow_mul, Nat.pow_mod, h]
      have e2 : (n - 1) ^ 2 = 1 + n * (n - 2) := by
        obtain ⟨m, rfl⟩ : ∃ m, n = m + 2 := ⟨n - 2, by omega⟩
        rw [Nat.pow_two, show m + 2 - 1 = m + 1 by omega, show m + 2 - 2 = m by omega, Nat.add_mul, Nat.mul_add, Nat.add_mul]
        omega
      rw [e2, Nat.add_mul_mod_self_left]
      exact Nat.mod_eq_of_lt hn
    have e3 : 2 ^ (i + 1 + j) * d = 2 ^ i * d * 2 * 2 ^ j := by
      rw [Nat.pow_add, Nat.pow_succ]
      simp only [Nat.mul_assoc, Nat.mul_comm, Nat.mul_left_comm]
    rw [e3]
    exact one_times hn h2 _
theorem Pass.coprime {n a p : Nat} (hn : 1 < n) (h : Pass n a) (hp : Prm p) (hpn : p ∣ n) : ¬ p ∣ a := by
  intro hpa
  have h1 := mod_of_mod hpn hp.1 (h.one hn)
  have h2 : p ∣ a ^ (n - 1) := Nat.dvd_trans hpa (Nat.dvd_trans (by rw [Nat.pow_one]; exact Nat.dvd_refl a) (Nat.pow_dvd_pow a (show 1 ≤ n - 1 by omega)))
  rw [Nat.mod_eq_zero_of_dvd h2] at h1
  omega
/-- AtP a prime that divides n. -/
def Zq (q s : Nat) : Prop := 2 ^ s % q = 1 ∧ 3 ^ s % q = 1 ∧ 5 ^ s % q = 1 ∧ 7 ^ s % q = 1
theorem Zq.gcd {q x y : Nat} (hq : 1 < q) (h : Zq q x) (k : Zq q y) : Zq q (Nat.gcd x y) :=
  ⟨one_gcd hq _ _ h.1 k.1, one_gcd hq _ _ h.2.1 k.2.1, one_gcd hq _ _ h.2.2.1 k.2.2.1, one_gcd hq _ _ h.2.2.2 k.2.2.2⟩
theorem Zq.left {q x y : Nat} (h : Zq q x) (k : Zq q (x + y)) : Zq q y := ⟨one_left h.1 k.1, one_left h.2.1 k.2.1, one_left h.2.2.1 k.2.2.1, one_left h.2.2.2 k.2.2.2⟩
theorem Zq.times {q x : Nat} (hq : 1 < q) (h : Zq q x) (k : Nat) : Zq q (x * k) := ⟨one_times hq h.1 k, one_times hq h.2.1 k, one_times hq h.2.2.1 k, one_times hq h.2.2.2 k⟩
structure AtP (n q : Nat) : Prop where
  prm : Prm q
  dvd : q ∣ n
  all : Zq q (n - 1)
  own : Zq q (q - 1)
theorem atP_of {n q : Nat} (hn : 1 < n) (h : FourP (Pass n)) (hp : Prm q) (hd : q ∣ n) : AtP n q :=
  ⟨hp, hd, ⟨mod_of_mod hd hp.1 (h.1.one hn), mod_of_mod hd hp.1 (h.2.1.one hn), mod_of_mod hd hp.1 (h.2.2.1.one hn), mod_of_mod hd hp.1 (h.2.2.2.one hn)⟩,
    ⟨fermat hp (h.1.coprime hn hp hd), fermat hp (h.2.1.coprime hn hp hd), fermat hp (h.2.2.1.coprime hn hp hd), fermat hp (h.2.2.2.coprime hn hp hd)⟩⟩
/-- The other part less one leaves 1 too. -/
theorem AtP.other {k q : Nat} (hk : 0 < k) (h : AtP (q * k) q) : Zq q (k - 1) := by
  have hq := h.prm.1
  have e : q * k - 1 = (q - 1) * k + (k - 1) := by
    rw [Nat.sub_mul, Nat.one_mul]
    have : k ≤ q * k := Nat.le_mul_of_pos_left k (by omega)
    omega
  have h1 := h.all
  rw [e] at h1
  exact (h.own.times (by omega) k).left h1
/-! What the reckoning says -/
def fN {α : Type} (n : Nat) (k : Nat → α) : α := Nat.rec (k 0) (fun m _ => k (Nat.succ m)) n
theorem fN_eq {α : Type} (n : Nat) (k : Nat → α) : fN n k = k n := by cases n <;> rfl
def pmP (n a d : Nat) : Nat :=
  Nat.mod (Nat.mul (Nat.pow (Nat.mod (Nat.mul (Nat.pow (Nat.mod (Nat.mul (Nat.pow (Nat.mod (Nat.pow a (Nat.div d 16777216)) n) 256) (Nat.pow a (Nat.mod (Nat.div d 65536) 256))) n) 256) (Nat.pow a (Nat.mod (Nat.div d 256) 256))) n) 256) (Nat.pow a (Nat.mod d 256))) n
theorem pmP_step (n a x d : Nat) : ((a ^ x % n) ^ 256 * a ^ (d % 256)) % n = a ^ (x * 256 + d % 256) % n := by
  rw [Nat.mul_mod, Nat.pow_mod, Nat.mod_mod, ← Nat.pow_mod, ← Nat.mul_mod, ← Nat.pow_mul, ← Nat.pow_add]
theorem pmP_eq (n a d : Nat) : pmP n a d = a ^ d % n := by
  show (((((a ^ (d / 16777216) % n) ^ 256 * a ^ (d / 65536 % 256)) % n) ^ 256 * a ^ (d / 256 % 256)) % n) ^ 256 * a ^ (d % 256) % n = _
  have h1 := pmP_step n a (d / 16777216) (d / 65536)
  rw [show d / 16777216 * 256 + d / 65536 % 256 = d / 65536 by omega] at h1
  have h2 := pmP_step n a (d / 65536) (d / 256)
  rw [show d / 65536 * 256 + d / 256 % 256 = d / 256 by omega] at h2
  have h3 := pmP_step n a (d / 256) d
  rw [show d / 256 * 256 + d % 256 = d by omega] at h3
  rw [h1, h2, h3]
def sqs (n : Nat) (s : Nat) : Nat → Bool :=
  Nat.rec (motive := fun _ => Nat → Bool) (fun _ => false) (fun _ ih x => cond (Nat.beq x (Nat.pred n)) true (fN (Nat.mod (Nat.mul x x) n) ih)) s
theorem sqs_of (n a d : Nat) : ∀ (s j : Nat), (∃ i, j ≤ i ∧ i < j + s ∧ a ^ (2 ^ i * d) % n = n - 1) → sqs n s (a ^ (2 ^ j * d) % n) = true := by
  intro s
  induction s with
  | zero => rintro j ⟨i, h1, h2, _⟩; omega
  | succ s ih =>
    rintro j ⟨i, h1, h2, h3⟩
    show cond (Nat.beq (a ^ (2 ^ j * d) % n) (n - 1)) true (fN ((a ^ (2 ^ j * d) % n) * (a ^ (2 ^ j * d) % n) % n) (sqs n s)) = true
    by_cases he : a ^ (2 ^ j * d) % n = n - 1
    · rw [he, Nat.beq_refl]; rfl
    · have hne : j ≠ i := fun e => by subst e; exact he h3
      have hb : Nat.beq (a ^ (2 ^ j * d) % n) (n - 1) = false := by
        cases hc : Nat.beq (a ^ (2 ^ j * d) % n) (n - 1)
        · rfl
        · exact absurd (Nat.eq_of_beq_eq_true hc) he
      rw [hb, fN_eq, ← Nat.mul_mod, ← Nat.pow_add, show 2 ^ j * d + 2 ^ j * d = 2 ^ (j + 1) * d by rw [Nat.pow_succ, Nat.mul_assoc, Nat.mul_comm 2 d, ← Nat.mul_assoc, ← Nat.two_mul, Nat.mul_comm 2]]
      exact ih (j + 1) ⟨i, by omega, by omega, h3⟩
def spd (n a s d : Nat) : Bool := fN (pmP n a d) fun x => cond (Nat.beq x 1) true (sqs n s x)
theorem spd_of {n a s d : Nat} (h : a ^ d % n = 1 ∨ ∃ i, i < s ∧ a ^ (2 ^ i * d) % n = n - 1) : spd n a s d = true := by
  unfold spd
  rw [fN_eq, pmP_eq]
  rcases h with h | ⟨i, hi, h⟩
  · rw [h]; rfl
  · cases Nat.beq (a ^ d % n) 1
    · have := sqs_of n a d s 0 ⟨i, by omega, by omega, h⟩
      rw [Nat.pow_zero, Nat.one_mul] at this
      exact this
    · rfl
def odds (fuel : Nat) : Nat → Nat → (Nat → Nat → Bool) → Bool :=
  Nat.rec (motive := fun _ => Nat → Nat → (Nat → Nat → Bool) → Bool) (fun _ _ _ => false) (fun _ ih s d k => cond (Nat.beq (Nat.mod d 2) 0) (fN (Nat.div d 2) fun e => ih (Nat.succ s) e k) (k s d)) fuel
theorem odds_true (k : Nat → Nat → Bool) : ∀ f s d, odds f s d k = true → ∃ j e, d = 2 ^ j * e ∧ e % 2 = 1 ∧ k (s + j) e = true := by
  intro f
  induction f with
  | zero => intro s d h; cases h
  | succ f ih =>
    intro s d h
    replace h : cond (Nat.beq (d % 2) 0) (fN (d / 2) fun e => odds f (s + 1) e k) (k s d) = true := h
    rcases (show d % 2 = 0 ∨ d % 2 = 1 by omega) with h0 | h1
    · rw [h0, fN_eq] at h
      obtain ⟨j, e, h1, h2, h3⟩ := ih (s + 1) (d / 2) h
      refine ⟨j + 1, e, ?_, h2, by rw [show s + (j + 1) = s + 1 + j by omega]; exact h3⟩
      rw [Nat.pow_succ, Nat.mul_assoc, Nat.mul_comm 2 e, ← Nat.mul_assoc, ← h1]
      omega
    · rw [h1] at h
      exact ⟨0, d, by simp, h1, h⟩
theorem odd_uniq {s d t e : Nat} (hd : d % 2 = 1) (he : e % 2 = 1) (h : 2 ^ s * d = 2 ^ t * e) : s = t ∧ d = e := by
  have key : ∀ s t d e : Nat, d % 2 = 1 → e % 2 = 1 → 2 ^ s * d = 2 ^ t * e → s ≤ t → s = t ∧ d = e := by
    intro s t d e hd he h hst
    obtain ⟨j, rfl⟩ : ∃ j, t = s + j := ⟨t - s, by omega⟩
    rw [Nat.pow_add, Nat.mul_assoc] at h
    have h1 := Nat.eq_of_mul_eq_mul_left (Nat.pow_pos (by omega)) h
    rcases j with _ | j
    · exact ⟨rfl, by simpa using h1⟩
    · rw [Nat.pow_succ, Nat.mul_comm (2 ^ j) 2, Nat.mul_assoc] at h1
      omega
  rcases Nat.le_total s t with h1 | h1
  · exact key s t d e hd he h h1
  · obtain ⟨a, b⟩ := key t s e d he hd h.symm h1
    exact ⟨a.symm, b.symm⟩
def okk (n s d : Nat) : Bool := cond (spd n 2 s d) (cond (spd n 3 s d) (cond (spd n 5 s d) (cond (spd n 7 s d) false true) true) true) true
def okn (n : Nat) : Bool := cond (Nat.beq n 3215031751) true (odds 33 0 (Nat.pred n) (okk n))
theorem okn_four {n : Nat} (h : okn n = true) (hf : FourP (Pass n)) : n = 3215031751 := by
  unfold okn at h
  cases hb : Nat.beq n 3215031751
  · rw [hb, cond_false] at h
    obtain ⟨j, e, h1, h2, h3⟩ := odds_true (okk n) 33 0 (Nat.pred n) h
    rw [Nat.zero_add] at h3
    have key : ∀ a, Pass n a → spd n a j e = true := by
      rintro a ⟨s, d, e1, e2, e3⟩
      obtain ⟨rfl, rfl⟩ := odd_uniq e2 h2 (e1.symm.trans h1)
      exact spd_of e3
    unfold okk at h3
    rw [key 2 hf.1, key 3 hf.2.1, key 5 hf.2.2.1, key 7 hf.2.2.2] at h3
    cases h3
  · exact Nat.eq_of_beq_eq_true hb
theorem beqP_of {a b : Nat} (h : a = b) : Nat.beq a b = true := by rw [h]; exact Nat.beq_refl b
theorem beqP_not {a b : Nat} (h : a ≠ b) : Nat.beq a b = false := by
  cases hc : Nat.beq a b
  · rfl
  · exact absurd (Nat.eq_of_beq_eq_true hc) h
def Zb (q s : Nat) : Bool := cond (Nat.beq (Nat.mod (Nat.pow 2 s) q) 1) (cond (Nat.beq (Nat.mod (Nat.pow 3 s) q) 1) (cond (Nat.beq (Nat.mod (Nat.pow 5 s) q) 1) (Nat.beq (Nat.mod (Nat.pow 7 s) q) 1) false) false) false
theorem Zb_of {q s : Nat} (h : Zq q s) : Zb q s = true := by
  show cond (Nat.beq (2 ^ s % q) 1) (cond (Nat.beq (3 ^ s % q) 1) (cond (Nat.beq (5 ^ s % q) 1) (Nat.beq (7 ^ s % q) 1) false) false) false = true
  rw [beqP_of h.1, beqP_of h.2.1, beqP_of h.2.2.1, beqP_of h.2.2.2]
  rfl
/-- d = 2 .. f + 1: where d goes into q - 1, and not into D, not all leave 1 at (q - 1) / d. -/
def ells (q D f : Nat) : Bool :=
  Nat.rec (motive := fun _ => Bool) true (fun f ih => cond (cond (Nat.beq (Nat.mod (Nat.pred q) (f + 2)) 0) (cond (Nat.beq (Nat.mod D (f + 2)) 0) true (cond (Zb q (Nat.div (Nat.pred q) (f + 2))) false true)) true) ih false) f
theorem ells_true {q D : Nat} : ∀ f, ells q D f = true → ∀ d, 2 ≤ d → d < f + 2 → d ∣ q - 1 → ¬ d ∣ D → ¬ Zq q ((q - 1) / d) := by
  intro f
  induction f with
  | zero => intro _ d h1 h2; omega
  | succ f ih =>
    intro h d h1 h2 h3 h4 hz
    replace h : cond (cond (Nat.beq ((q - 1) % (f + 2)) 0) (cond (Nat.beq (D % (f + 2)) 0) true (cond (Zb q ((q - 1) / (f + 2))) false true)) true) (ells q D f) false = true := h
    by_cases hd : d = f + 2
    · subst hd
      rw [beqP_of (Nat.mod_eq_zero_of_dvd h3), beqP_not (fun e => h4 (Nat.dvd_of_mod_eq_zero e)), Zb_of hz] at h
      cases h
    · refine ih ?_ d h1 (by omega) h3 h4 hz
      generalize cond (Nat.beq ((q - 1) % (f + 2)) 0) (cond (Nat.beq (D % (f + 2)) 0) true (cond (Zb q ((q - 1) / (f + 2))) false true)) true = b at h
      cases b
      · cases h
      · exact h
/-- How far apart the other parts are. -/
theorem far_apart {q D g S : Nat} (hq : 1 < q) (ho : Zq q (q - 1)) (hg : Zq q g) (hD : 0 < D) (he : ells q D 63 = true) (hs : ∀ s, 1 ≤ s → s ≤ S → ¬ Zq q s) (hS : q - 1 < 65 * (S + 1)) : (q - 1) / Nat.gcd (q - 1) D ∣ g := by
  have hz := ho.gcd hq hg
  have hd1 := Nat.gcd_dvd_left (q - 1) g
  have hd2 := Nat.gcd_dvd_right (q - 1) g
  generalize Nat.gcd (q - 1) g = x at *
  obtain ⟨d, hd⟩ := hd1
  have hx : 0 < x := by
    rcases Nat.eq_zero_or_pos x with h | h
    · subst h; omega
    · exact h
  have hdx : (q - 1) / d = x := by
    have h0 : 0 < d := by
      rcases Nat.eq_zero_or_pos d with h | h
      · subst h; omega
      · exact h
    rw [hd, Nat.mul_div_cancel _ h0]
  refine Nat.dvd_trans ?_ hd2
  have hdd : d ∣ q - 1 := ⟨x, by rw [hd, Nat.mul_comm]⟩
  have hfin : d ∣ D → (q - 1) / Nat.gcd (q - 1) D ∣ x := fun h => by
    obtain ⟨c, hc⟩ := Nat.dvd_gcd hdd h
    have hg2 := Nat.gcd_dvd_left (q - 1) D
    have hgp : 0 < Nat.gcd (q - 1) D := Nat.gcd_pos_of_pos_right _ hD
    obtain ⟨y, hy⟩ := hg2
    have e1 : (q - 1) / Nat.gcd (q - 1) D = y := by rw [Nat.div_eq_iff_eq_mul_right hgp ⟨y, hy⟩]; exact hy
    rw [e1]
    have hdp : 0 < d := by
      rcases Nat.eq_zero_or_pos d with h | h
      · subst h; omega
      · exact h
    refine ⟨c, Nat.eq_of_mul_eq_mul_left hdp ?_⟩
    have e2 : d * x = d * c * y := by rw [← hc, Nat.mul_comm d x, ← hd]; exact hy
    rw [e2]
    simp only [Nat.mul_comm, Nat.mul_left_comm]
  by_cases h1 : d ≤ 1
  · have : d = 1 := by
      rcases Nat.eq_zero_or_pos d with h | h
      · subst h; omega
      · omega
    subst this
    exact hfin (Nat.one_dvd D)
  · by_cases h2 : d ≤ 64
    · by_cases h3 : d ∣ D
      · exact hfin h3
      · exact absurd (hdx ▸ hz) (ells_true 63 he d (by omega) (by omega) hdd h3)
    · refine absurd hz (hs x hx ?_)
      have : 65 * x ≤ x * d := by rw [Nat.mul_comm 65]; exact Nat.mul_le_mul_left _ (by omega)
      omega
def cands (q M c : Nat) : Nat → Bool :=
  Nat.rec (motive := fun _ => Nat → Bool) (fun _ => true) (fun _ ih k => cond (cond (Nat.beq (Nat.gcd k 210) 1) (fN (Nat.mul q k) okn) true) (fN (Nat.add k M) ih) false) c
theorem cands_true {q M : Nat} : ∀ c k, cands q M c k = true → ∀ i, i < c → Nat.gcd (k + i * M) 210 = 1 → okn (q * (k + i * M)) = true := by
  intro c
  induction c with
  | zero => intro k _ i hi; omega
  | succ c ih =>
    intro k h i hi hg
    replace h : cond (cond (Nat.beq (Nat.gcd k 210) 1) (fN (q * k) okn) true) (fN (k + M) (cands q M c)) false = true := h
    rw [fN_eq, fN_eq] at h
    rcases i with _ | i
    · rw [Nat.zero_mul, Nat.add_zero] at hg ⊢
      rw [beqP_of hg] at h
      cases ho : okn (q * k)
      · rw [ho] at h; cases h
      · rfl
    · have e : k + (i + 1) * M = k + M + i * M := by rw [Nat.add_mul, Nat.one_mul]; omega
      rw [e] at hg ⊢
      refine ih (k + M) ?_ i (by omega) hg
      generalize cond (Nat.beq (Nat.gcd k 210) 1) (okn (q * k)) true = b at h
      cases b
      · cases h
      · exact h
def cntP (q M : Nat) : Nat := Nat.div (Nat.div 4294967296 q) M
def chk1 (q D : Nat) : Bool := cond (ells q D 63) (fN (Nat.div (Nat.pred q) (Nat.gcd (Nat.pred q) D)) fun M => cands q M (cntP q M) (Nat.succ M)) false
theorem chk1_true {q D k S : Nat} (h : chk1 q D = true) (hA : AtP (q * k) q) (hk : 1 < k) (hn : q * k < 4294967296) (hg : Nat.gcd k 210 = 1) (hD : 0 < D) (hs : ∀ s, 1 ≤ s → s ≤ S → ¬ Zq q s) (hS : q - 1 < 65 * (S + 1)) : okn (q * k) = true := by
  have hq := hA.prm.1
  unfold chk1 at h
  rw [fN_eq] at h
  cases he : ells q D 63
  · rw [he] at h; cases h
  · rw [he, cond_true] at h
    have hM := far_apart (by omega) hA.own (hA.other (by omega)) hD he hs hS
    replace h : cands q ((q - 1) / Nat.gcd (q - 1) D) (cntP q ((q - 1) / Nat.gcd (q - 1) D)) ((q - 1) / Nat.gcd (q - 1) D + 1) = true := h
    have hMp : 0 < (q - 1) / Nat.gcd (q - 1) D := Nat.div_pos (Nat.le_of_dvd (by omega) (Nat.gcd_dvd_left _ _)) (Nat.gcd_pos_of_pos_right _ hD)
    generalize (q - 1) / Nat.gcd (q - 1) D = M at *
    obtain ⟨j, hj⟩ := hM
    obtain ⟨i, rfl⟩ : ∃ i, j = i + 1 := ⟨j - 1, by
      rcases j with _ | j
      · rw [Nat.mul_zero] at hj; omega
      · omega⟩
    have ek : k = M + 1 + i * M := by rw [Nat.mul_add, Nat.mul_one, Nat.mul_comm] at hj; omega
    rw [ek] at hg ⊢
    refine cands_true _ _ h i ?_ hg
    show i < 4294967296 / q / M
    have h1 : k ≤ 4294967296 / q := by rw [Nat.le_div_iff_mul_le (by omega), Nat.mul_comm]; omega
    have h2 : i + 1 ≤ 4294967296 / q / M := by rw [Nat.le_div_iff_mul_le hMp, Nat.mul_comm]; omega
    omega
/-! Great primes -/
def prodP (j : Nat) : Nat → Nat := Nat.rec (motive := fun _ => Nat → Nat) (fun lo => lo) (fun j ih lo => Nat.mul (ih lo) (ih (Nat.add lo (Nat.pow 2 j)))) j
theorem prodP_dvd {q : Nat} (hq : Prm q) : ∀ j lo, 0 < lo → q ∣ prodP j lo → q < lo + 2 ^ j := by
  intro j
  induction j with
  | zero => intro lo h0 h; have := Nat.le_of_dvd h0 h; simp; omega
  | succ j ih =>
    intro lo h0 h
    replace h : q ∣ prodP j lo * prodP j (lo + 2 ^ j) := h
    have hp : 0 < 2 ^ j := Nat.pow_pos (by omega)
    rw [Nat.pow_succ]
    rcases hq.euclid _ _ h with h | h
    · have := ih lo h0 h; omega
    · have := ih (lo + 2 ^ j) (by omega) h; omega
def GG (s : Nat) : Nat := Nat.gcd (Nat.pred (Nat.pow 7 s)) (Nat.gcd (Nat.pred (Nat.pow 5 s)) (Nat.gcd (Nat.pred (Nat.pow 3 s)) (Nat.pred (Nat.pow 2 s))))
theorem dvdP_pred {q a s : Nat} (h : a ^ s % q = 1) : q ∣ a ^ s - 1 := ⟨a ^ s / q, by have := Nat.div_add_mod (a ^ s) q; omega⟩
theorem GG_of {q s : Nat} (h : Zq q s) : q ∣ GG s := by
  show q ∣ Nat.gcd (7 ^ s - 1) (Nat.gcd (5 ^ s - 1) (Nat.gcd (3 ^ s - 1) (2 ^ s - 1)))
  exact Nat.dvd_gcd (dvdP_pred h.2.2.2) (Nat.dvd_gcd (dvdP_pred h.2.2.1) (Nat.dvd_gcd (dvdP_pred h.2.1) (dvdP_pred h.1)))
def chkG (W f : Nat) : Nat → Bool := Nat.rec (motive := fun _ => Nat → Bool) (fun _ => true) (fun _ ih s => cond (Nat.beq (Nat.mod W (GG s)) 0) (fN (Nat.succ s) ih) false) f
theorem chkG_true {W : Nat} : ∀ f s, chkG W f s = true → ∀ i, i < f → GG (s + i) ∣ W := by
  intro f
  induction f with
  | zero => intro s _ i hi; omega
  | succ f ih =>
    intro s h i hi
    replace h : cond (Nat.beq (W % GG s) 0) (fN (s + 1) (chkG W f)) false = true := h
    rw [fN_eq] at h
    cases hc : Nat.beq (W % GG s) 0
    · rw [hc] at h; cases h
    · rw [hc, cond_true] at h
      rcases i with _ | i
      · exact Nat.dvd_of_mod_eq_zero (Nat.eq_of_beq_eq_true hc)
      · rw [show s + (i + 1) = s + 1 + i by omega]
        exact ih (s + 1) h i (by omega)
theorem none_small {j f q : Nat} (h : (fN (prodP j 1) fun W => chkG W f 1) = true) (hq : Prm q) (hj : 2 ^ j < q) : ∀ s, 1 ≤ s → s ≤ f → ¬ Zq q s := by
  rw [fN_eq] at h
  intro s h1 h2 hz
  have := chkG_true f 1 h (s - 1) (by omega)
  rw [show 1 + (s - 1) = s by omega] at this
  have := prodP_dvd hq j 1 (by omega) (Nat.dvd_trans (GG_of hz) this)
  omega
def chkK (W f : Nat) : Nat → Bool := Nat.rec (motive := fun _ => Nat → Bool) (fun _ => true) (fun _ ih k => cond (cond (Nat.beq (Nat.gcd k 210) 1) (Nat.beq (Nat.mod W (GG (Nat.pred k))) 0) true) (fN (Nat.succ k) ih) false) f
theorem chkK_true {W : Nat} : ∀ f k, chkK W f k = true → ∀ i, i < f → Nat.gcd (k + i) 210 = 1 → GG (k + i - 1) ∣ W := by
  intro f
  induction f with
  | zero => intro s _ i hi; omega
  | succ f ih =>
    intro k h i hi hg
    replace h : cond (cond (Nat.beq (Nat.gcd k 210) 1) (Nat.beq (W % GG (k - 1)) 0) true) (fN (k + 1) (chkK W f)) false = true := h
    rw [fN_eq] at h
    rcases i with _ | i
    · rw [Nat.add_zero] at hg ⊢
      rw [beqP_of hg, cond_true] at h
      cases hc : Nat.beq (W % GG (k - 1)) 0
      · rw [hc] at h; cases h
      · exact Nat.dvd_of_mod_eq_zero (Nat.eq_of_beq_eq_true hc)
    · rw [show k + (i + 1) = k + 1 + i by omega] at hg ⊢
      refine ih (k + 1) ?_ i (by omega) hg
      generalize cond (Nat.beq (Nat.gcd k 210) 1) (Nat.beq (W % GG (k - 1)) 0) true = b at h
      cases b
      · cases h
      · exact h
/-- Primes above 2^16 that may come. -/
def prodL (l : List (Nat × Nat)) : Nat := l.foldr (fun x r => x.1 * r) 1
theorem prodL_dvd {q : Nat} (hq : Prm q) : ∀ l : List (Nat × Nat), q ∣ prodL l → ∃ x ∈ l, q ∣ x.1 := by
  intro l
  induction l with
  | nil => intro h; have := Nat.le_of_dvd (by decide) h; have := hq.1; simp [prodL] at *; omega
  | cons x l ih =>
    intro h
    replace h : q ∣ x.1 * prodL l := h
    rcases hq.euclid _ _ h with h | h
    · exact ⟨x, List.mem_cons_self .., h⟩
    · obtain ⟨y, hy, hd⟩ := ih h
      exact ⟨y, List.mem_cons_of_mem _ hy, hd⟩
/-- 128!. -/
def S128 : Nat := 385620482362580421735677065923463640617493109590223590278828403276373402575165543560686168588507361534030051833058916347592172932262498857766114955245039357760034644709279247692495585280000000000000000000000000000000
theorem S128_eq : prodP 7 1 = S128 := by decide +kernel
theorem gcd_S {q : Nat} (hq : Prm q) (h : 128 < q) : Nat.gcd q S128 = 1 := by
  rcases hq.2 _ (Nat.gcd_dvd_left q S128) with h1 | h1
  · exact h1
  · exfalso
    have h2 : q ∣ prodP 7 1 := by
      rw [S128_eq]
      have := Nat.gcd_dvd_right q S128
      rwa [h1] at this
    have := prodP_dvd hq 7 1 (by omega) h2
    omega
def chkQ (q : Nat) : Bool := cond (Nat.beq (Nat.gcd q S128) 1) (cond (Nat.beq (Nat.mod (Nat.pow 2 (Nat.pred q)) q) 1) (chk1 q 12) true) true
def chkR (f : Nat) : Nat → Bool := Nat.rec (motive := fun _ => Nat → Bool) (fun _ => true) (fun _ ih q => cond (chkQ q) (fN (Nat.succ q) ih) false) f
theorem chkR_true : ∀ f q, chkR f q = true → ∀ i, i < f → chkQ (q + i) = true := by
  intro f
  induction f with
  | zero => intro q _ i hi; omega
  | succ f ih =>
    intro q h i hi
    replace h : cond (chkQ q) (fN (q + 1) (chkR f)) false = true := h
    rw [fN_eq] at h
    cases hc : chkQ q
    · rw [hc] at h; cases h
    · rw [hc, cond_true] at h
      rcases i with _ | i
      · exact hc
      · rw [show q + (i + 1) = q + 1 + i by omega]
        exact ih (q + 1) h i (by omega)
theorem chkQ_true {q k S : Nat} (h : chkQ q = true) (hA : AtP (q * k) q) (hk : 1 < k) (hn : q * k < 4294967296) (hg : Nat.gcd k 210 = 1) (hg2 : Nat.gcd q S128 = 1) (hs : ∀ s, 1 ≤ s → s ≤ S → ¬ Zq q s) (hS : q - 1 < 65 * (S + 1)) : okn (q * k) = true := by
  replace h : cond (Nat.beq (Nat.gcd q S128) 1) (cond (Nat.beq (2 ^ (q - 1) % q) 1) (chk1 q 12) true) true = true := h
  rw [beqP_of hg2, beqP_of hA.own.1] at h
  exact chk1_true h hA hk hn hg (by omega) hs hS
/-! Small primes, by how many twos stand in their orders -/
def oddp (f : Nat) : Nat → Nat := Nat.rec (motive := fun _ => Nat → Nat) (fun d => d) (fun _ ih d => cond (Nat.beq (Nat.mod d 2) 0) (fN (Nat.div d 2) ih) d) f
theorem oddp_spec : ∀ f d, 0 < d → d < 2 ^ f → ∃ t, d = 2 ^ t * oddp f d ∧ oddp f d % 2 = 1 := by
  intro f
  induction f with
  | zero => intro d h1 h2; simp at h2; omega
  | succ f ih =>
    intro d h1 h2
    have e : oddp (f + 1) d = cond (Nat.beq (d % 2) 0) (fN (d / 2) (oddp f)) d := rfl
    rcases (show d % 2 = 0 ∨ d % 2 = 1 by omega) with h0 | h0
    · rw [h0, Nat.beq_refl, cond_true, fN_eq] at e
      rw [Nat.pow_succ] at h2
      obtain ⟨t, h3, h4⟩ := ih (d / 2) (by omega) (by omega)
      rw [e]
      refine ⟨t + 1, ?_, h4⟩
      rw [Nat.pow_succ, Nat.mul_assoc, Nat.mul_comm 2, ← Nat.mul_assoc, ← h3]
      omega
    · rw [h0] at e
      replace e : oddp (f + 1) d = d := e
      rw [e]
      exact ⟨0, by simp, h0⟩
def esP (p : Nat) (f : Nat) : Nat → Nat := Nat.rec (motive := fun _ => Nat → Nat) (fun _ => 0) (fun _ ih x => cond (Nat.beq x 1) 0 (Nat.succ (fN (Nat.mod (Nat.mul x x) p) ih))) f
/-- j is the first of 0, 1, .. at which a^(2^j m) leaves 1. -/
def ExP (p a m j : Nat) : Prop := a ^ (2 ^ j * m) % p = 1 ∧ ∀ i, i < j → a ^ (2 ^ i * m) % p ≠ 1
theorem esP_of {p a m j : Nat} (h : ExP p a m j) : ∀ f k, k ≤ j → j < k + f → esP p f (a ^ (2 ^ k * m) % p) = j - k := by
  intro f
  induction f with
  | zero => intro k h1 h2; omega
  | succ f ih =>
    intro k h1 h2
    show cond (Nat.beq (a ^ (2 ^ k * m) % p) 1) 0 (fN ((a ^ (2 ^ k * m) % p) * (a ^ (2 ^ k * m) % p) % p) (esP p f) + 1) = j - k
    rcases Nat.lt_or_eq_of_le h1 with h3 | rfl
    · rw [beqP_not (h.2 k h3), cond_false, fN_eq, ← Nat.mul_mod, ← Nat.pow_add, show 2 ^ k * m + 2 ^ k * m = 2 ^ (k + 1) * m by rw [Nat.pow_succ, Nat.mul_assoc, Nat.mul_comm 2 m, ← Nat.mul_assoc, ← Nat.two_mul, Nat.mul_comm 2], ih (k + 1) (by omega) (by omega)]
      omega
    · rw [beqP_of h.1, cond_true, Nat.sub_self]
def esAP (p a : Nat) : Nat := fN (oddp 33 (Nat.pred p)) fun m => esP p 40 (Nat.mod (Nat.pow a m) p)
theorem odd_dvd {g t m : Nat} (ho : g % 2 = 1) (h : g ∣ 2 ^ t * m) : g ∣ m := by
  have hc : Nat.Coprime g (2 ^ t) := Nat.Coprime.pow_right t (by
    show Nat.gcd g 2 = 1
    rw [Nat.gcd_comm, Nat.gcd_rec, ho]
    decide)
  exact hc.dvd_of_dvd_mul_left h
theorem odd_gcd {a b : Nat} (h : a % 2 = 1) : Nat.gcd a b % 2 = 1 := by
  rcases (show Nat.gcd a b % 2 = 0 ∨ Nat.gcd a b % 2 = 1 by omega) with h0 | h0
  · have := Nat.dvd_trans (Nat.dvd_of_mod_eq_zero h0) (Nat.gcd_dvd_left a b)
    omega
  · exact h0
/-- All primes that divide a number which passes have as many twos in a's order. -/
theorem Pass.twos {n a : Nat} (hn : 1 < n) (hlt : n < 4294967296) (h : Pass n a) : ∃ j, j < 40 ∧ ∀ p t m, Prm p → p ∣ n → p % 2 = 1 → a ^ (p - 1) % p = 1 → p - 1 = 2 ^ t * m → m % 2 = 1 → ExP p a m j := by
  obtain ⟨s, d, e, hd, h⟩ := h
  rcases h with h | ⟨i, hi, h⟩
  · refine ⟨0, by omega, fun p t m hp hpn _ hf hm _ => ⟨?_, fun i hi => by omega⟩⟩
    have h1 := mod_of_mod hpn hp.1 h
    rw [hm] at hf
    have h2 := one_gcd hp.1 _ _ h1 hf
    rw [Nat.pow_zero, Nat.one_mul]
    exact one_dvd hp.1 (odd_dvd (odd_gcd hd) (Nat.gcd_dvd_right d (2 ^ t * m))) h2
  · have hs : s < 33 := by
      rcases Nat.lt_or_ge s 33 with h | h
      · exact h
      · have h1 : 2 ^ 33 ≤ 2 ^ s := Nat.pow_le_pow_right (by omega) h
        have h2 : 2 ^ s * 1 ≤ 2 ^ s * d := Nat.mul_le_mul_left _ (by omega)
        omega
    refine ⟨i + 1, by omega, fun p t m hp hpn hpo hf hm hmo => ?_⟩
    have h2p := hp.1
    have hneg : a ^ (2 ^ i * d) % p = p - 1 := by
      rw [← Nat.mod_mod_of_dvd _ hpn, h]
      obtain ⟨c, rfl⟩ := hpn
      have hc : 0 < c := by
        rcases Nat.eq_zero_or_pos c with h | h
        · subst h; omega
        · exact h
      obtain ⟨b, rfl⟩ : ∃ b, c = b + 1 := ⟨c - 1, by omega⟩
      rw [Nat.mul_add, Nat.mul_one, show p * b + p - 1 = (p - 1) + p * b by omega, Nat.add_mul_mod_self_left]
      exact Nat.mod_eq_of_lt (by omega)
    have hsq : a ^ (2 ^ (i + 1) * d) % p = 1 := by
      rw [show 2 ^ (i + 1) * d = 2 ^ i * d * 2 by rw [Nat.pow_succ, Nat.mul_assoc, Nat.mul_comm 2 d, ← Nat.mul_assoc], Nat.pow_mul, Nat.pow_mod, hneg]
      obtain ⟨r, rfl⟩ : ∃ r, p = r + 2 := ⟨p - 2, by omega⟩
      rw [show (r + 2 - 1) ^ 2 = 1 + (r + 2) * r by rw [Nat.pow_two, show r + 2 - 1 = r + 1 by omega, Nat.add_mul, Nat.mul_add, Nat.add_mul]; omega, Nat.add_mul_mod_self_left]
      exact Nat.mod_eq_of_lt (by omega)
    constructor
    · have h1 : (a ^ 2 ^ (i + 1)) ^ d % p = 1 := by rw [← Nat.pow_mul]; exact hsq
      have h2 : (a ^ 2 ^ (i + 1)) ^ (2 ^ t * m) % p = 1 := by
        rw [← Nat.pow_mul, Nat.mul_comm, ← hm]
        exact one_times (by omega) hf _
      have h3 := one_dvd (y := m) (by omega) (odd_dvd (odd_gcd hd) (Nat.gcd_dvd_right d (2 ^ t * m))) (one_gcd (by omega) _ _ h1 h2)
      rw [← Nat.pow_mul] at h3
      exact h3
    · intro j hj hc
      obtain ⟨r, rfl⟩ : ∃ r, i = j + r := ⟨i - j, by omega⟩
      have h1 : (a ^ 2 ^ (j + r)) ^ m % p = 1 := by
        rw [← Nat.pow_mul, show 2 ^ (j + r) * m = 2 ^ j * m * 2 ^ r by rw [Nat.pow_add]; simp only [Nat.mul_assoc, Nat.mul_comm]]
        exact one_times (by omega) hc _
      have h2 : (a ^ 2 ^ (j + r)) ^ (2 ^ 1 * d) % p = 1 := by
        rw [← Nat.pow_mul, show 2 ^ (j + r) * (2 ^ 1 * d) = 2 ^ (j + r + 1) * d by rw [Nat.pow_succ 2 (j + r), Nat.pow_one, Nat.mul_assoc]]
        exact hsq
      have h3 := one_dvd (y := d) (by omega) (odd_dvd (odd_gcd hmo) (Nat.gcd_dvd_right m (2 ^ 1 * d))) (one_gcd (by omega) _ _ h1 h2)
      rw [← Nat.pow_mul, hneg] at h3
      omega
theorem esAP_of {p a j : Nat} (hp : 2 ≤ p) (hlt : p < 4294967296) (hj : j < 40) (h : ∀ t m, p - 1 = 2 ^ t * m → m % 2 = 1 → ExP p a m j) : esAP p a = j := by
  obtain ⟨t, h1, h2⟩ := oddp_spec 33 (p - 1) (by omega) (by omega)
  have hx := h t _ h1 h2
  have := esP_of hx 40 0 (by omega) (by omega)
  unfold esAP
  rw [fN_eq]
  rw [Nat.pow_zero, Nat.one_mul, Nat.sub_zero] at this
  exact this
def sigN (p : Nat) : Nat := Nat.add (esAP p 2) (Nat.mul 64 (Nat.add (esAP p 3) (Nat.mul 64 (Nat.add (esAP p 5) (Nat.mul 64 (esAP p 7))))))
/-- One sign for all of them. -/
theorem one_sign {n : Nat} (hn : 1 < n) (hlt : n < 4294967296) (h : FourP (Pass n)) : ∃ σ, ∀ p, Prm p → p ∣ n → p % 2 = 1 → sigN p = σ := by
  obtain ⟨j2, l2, h2⟩ := h.1.twos hn hlt
  obtain ⟨j3, l3, h3⟩ := h.2.1.twos hn hlt
  obtain ⟨j5, l5, h5⟩ := h.2.2.1.twos hn hlt
  obtain ⟨j7, l7, h7⟩ := h.2.2.2.twos hn hlt
  refine ⟨Nat.add j2 (Nat.mul 64 (Nat.add j3 (Nat.mul 64 (Nat.add j5 (Nat.mul 64 j7))))), fun p hp hd ho => ?_⟩
  have hle := Nat.le_of_dvd (by omega) hd
  have hA := atP_of hn h hp hd
  unfold sigN
  rw [esAP_of hp.1 (by omega) l2 fun t m e1 e2 => h2 p t m hp hd ho hA.own.1 e1 e2, esAP_of hp.1 (by omega) l3 fun t m e1 e2 => h3 p t m hp hd ho hA.own.2.1 e1 e2,
    esAP_of hp.1 (by omega) l5 fun t m e1 e2 => h5 p t m hp hd ho hA.own.2.2.1 e1 e2, esAP_of hp.1 (by omega) l7 fun t m e1 e2 => h7 p t m hp hd ho hA.own.2.2.2 e1 e2]
def lookP (σ : Nat) : List (Nat × List Nat) → List Nat
  | [] => []
  | x :: t => cond (Nat.beq x.1 σ) x.2 (lookP σ t)
def elemN (p : Nat) : List Nat → Bool
  | [] => false
  | x :: l => cond (Nat.beq x p) true (elemN p l)
theorem elemN_true {p : Nat} : ∀ l : List Nat, elemN p l = true → p ∈ l := by
  intro l
  induction l with
  | nil => intro h; cases h
  | cons x l ih =>
    intro h
    replace h : cond (Nat.beq x p) true (elemN p l) = true := h
    cases hc : Nat.beq x p
    · rw [hc] at h; exact List.mem_cons_of_mem _ (ih h)
    · rw [Nat.eq_of_beq_eq_true hc]; exact List.mem_cons_self ..
theorem lookP_mem {σ : Nat} : ∀ t : List (Nat × List Nat), lookP σ t = [] ∨ ∃ x ∈ t, lookP σ t = x.2 := by
  intro t
  induction t with
  | nil => exact .inl rfl
  | cons x t ih =>
    have e : lookP σ (x :: t) = cond (Nat.beq x.1 σ) x.2 (lookP σ t) := rfl
    cases hc : Nat.beq x.1 σ
    · rw [hc, cond_false] at e
      rw [e]
      rcases ih with h | ⟨y, hy, h⟩
      · exact .inl h
      · exact .inr ⟨y, List.mem_cons_of_mem _ hy, h⟩
    · rw [hc, cond_true] at e
      exact .inr ⟨x, List.mem_cons_self .., e⟩
def chkS (t : List (Nat × List Nat)) (f : Nat) : Nat → Bool := Nat.rec (motive := fun _ => Nat → Bool) (fun _ => true) (fun _ ih p => cond (cond (Nat.beq (Nat.gcd p 210) 1) (cond (Zb p (Nat.pred p)) (fN (sigN p) fun σ => elemN p (lookP σ t)) true) true) (fN (Nat.succ p) ih) false) f
theorem chkS_true {t : List (Nat × List Nat)} : ∀ f p, chkS t f p = true → ∀ i, i < f → Nat.gcd (p + i) 210 = 1 → Zq (p + i) (p + i - 1) → p + i ∈ lookP (sigN (p + i)) t := by
  intro f
  induction f with
  | zero => intro p _ i hi; omega
  | succ f ih =>
    intro p h i hi h1 h2
    replace h : cond (cond (Nat.beq (Nat.gcd p 210) 1) (cond (Zb p (p - 1)) (fN (sigN p) fun σ => elemN p (lookP σ t)) true) true) (fN (p + 1) (chkS t f)) false = true := h
    rw [fN_eq, fN_eq] at h
    rcases i with _ | i
    · rw [Nat.add_zero] at *
      rw [beqP_of h1, Zb_of h2, cond_true, cond_true] at h
      cases hc : elemN p (lookP (sigN p) t)
      · rw [hc] at h; cases h
      · exact elemN_true _ hc
    · rw [show p + (i + 1) = p + 1 + i by omega] at *
      refine ih (p + 1) ?_ i (by omega) h1 h2
      generalize cond (Nat.beq (Nat.gcd p 210) 1) (cond (Zb p (p - 1)) (elemN p (lookP (sigN p) t)) true) true = b at h
      cases b
      · cases h
      · exact h
/-- All products of the list's numbers behind acc. -/
def dfsL (ih : List Nat → Nat → Bool) (acc : Nat) : List Nat → Bool
  | [] => true
  | p :: r => fN (Nat.mul acc p) fun x => cond (Nat.ble 4294967296 x) true (cond (okn x) (cond (ih (p :: r) x) (dfsL ih acc r) false) false)
def dfs (f : Nat) : List Nat → Nat → Bool := Nat.rec (motive := fun _ => List Nat → Nat → Bool) (fun _ _ => false) (fun _ ih l acc => dfsL ih acc l) f
theorem dfs_true : ∀ f l acc, dfs f l acc = true → l.Pairwise (· ≤ ·) → ∀ m, 1 < m → (∀ p, Prm p → p ∣ m → p ∈ l) → acc * m < 4294967296 → okn (acc * m) = true := by
  intro f
  induction f with
  | zero => intro l acc h; cases h
  | succ f ihf =>
    intro l
    induction l with
    | nil =>
      intro acc _ _ m hm hp
      obtain ⟨p, h1, h2⟩ := prm_factor m hm
      cases hp p h1 h2
    | cons p r ihl =>
      intro acc h hs m hm hp hlt
      replace h : (fN (acc * p) fun x => cond (Nat.ble 4294967296 x) true (cond (okn x) (cond (dfs f (p :: r) x) (dfs (f + 1) r acc) false) false)) = true := h
      rw [fN_eq] at h
      have hrest := List.pairwise_cons.1 hs
      have hsmall : acc * p < 4294967296 := by
        obtain ⟨q, h1, h2⟩ := prm_factor m hm
        have hle := Nat.le_of_dvd (by omega) h2
        have hpq : p ≤ q := by
          rcases List.mem_cons.1 (hp q h1 h2) with h3 | h3
          · omega
          · exact hrest.1 q h3
        have : acc * p ≤ acc * m := Nat.mul_le_mul_left _ (by omega)
        omega
      have hb : Nat.ble 4294967296 (acc * p) = false := by
        cases hc : Nat.ble 4294967296 (acc * p)
        · rfl
        · have := Nat.le_of_ble_eq_true hc; omega
      rw [hb, cond_false] at h
      cases ho : okn (acc * p)
      · rw [ho] at h; cases h
      · rw [ho, cond_true] at h
        cases hd : dfs f (p :: r) (acc * p)
        · rw [hd] at h; cases h
        · rw [hd, cond_true] at h
          by_cases hpm : p ∣ m
          · obtain ⟨c, rfl⟩ := hpm
            rw [← Nat.mul_assoc] at hlt ⊢
            by_cases hc1 : c = 1
            · subst hc1; rw [Nat.mul_one]; exact ho
            · have hc0 : c ≠ 0 := by intro e; subst e; omega
              exact ihf (p :: r) (acc * p) hd hs c (by omega) (fun q hq hqc => hp q hq (Nat.dvd_trans hqc (Nat.dvd_mul_left c p))) hlt
          · exact ihl acc h hrest.2 m hm (fun q hq hqm => by
              rcases List.mem_cons.1 (hp q hq hqm) with h3 | h3
              · subst h3; exact absurd hqm hpm
              · exact h3) hlt
def rootc : List Nat → Bool
  | [] => true
  | p :: r => cond (dfs 9 (p :: r) p) (rootc r) false
theorem rootc_true : ∀ l, rootc l = true → l.Pairwise (· ≤ ·) → ∀ n, 1 < n → ¬ Prm n → (∀ p, Prm p → p ∣ n → p ∈ l) → n < 4294967296 → (∀ p ∈ l, p ∣ n → p ≠ n ∨ ¬ Prm n) → okn n = true := by
  intro l
  induction l with
  | nil =>
    intro _ _ n hn _ hp
    obtain ⟨p, h1, h2⟩ := prm_factor n hn
    cases hp p h1 h2
  | cons p r ih =>
    intro h hs n hn hc hp hlt hx
    replace h : cond (dfs 9 (p :: r) p) (rootc r) false = true := h
    cases hd : dfs 9 (p :: r) p
    · rw [hd] at h; cases h
    · rw [hd, cond_true] at h
      by_cases hpn : p ∣ n
      · by_cases hpp : Prm p
        · obtain ⟨c, rfl⟩ := hpn
          have h2 := hpp.1
          have hc1 : 1 < c := by
            rcases (show c = 0 ∨ c = 1 ∨ 1 < c by omega) with rfl | rfl | h
            · omega
            · rw [Nat.mul_one] at hc; exact absurd hpp hc
            · exact h
          exact dfs_true 9 (p :: r) p hd hs c hc1 (fun q hq hqc => hp q hq (Nat.dvd_trans hqc (Nat.dvd_mul_left c p))) hlt
        · exact ih h (List.pairwise_cons.1 hs).2 n hn hc (fun q hq hqn => by
            rcases List.mem_cons.1 (hp q hq hqn) with h3 | h3
            · subst h3; exact absurd hq hpp
            · exact h3) hlt (fun q hq => hx q (List.mem_cons_of_mem _ hq))
      · exact ih h (List.pairwise_cons.1 hs).2 n hn hc (fun q hq hqn => by
          rcases List.mem_cons.1 (hp q hq hqn) with h3 | h3
          · subst h3; exact absurd hqn hpn
          · exact h3) hlt (fun q hq => hx q (List.mem_cons_of_mem _ hq))
def leHP (p : Nat) : List Nat → Bool
  | [] => true
  | q :: _ => Nat.ble p q
def ascP : List Nat → Bool
  | [] => true
  | p :: r => cond (leHP p r) (ascP r) false
theorem ascP_true : ∀ l, ascP l = true → l.Pairwise (· ≤ ·) := by
  intro l
  induction l with
  | nil => intro _; exact List.Pairwise.nil
  | cons p r ih =>
    intro h
    cases r with
    | nil => exact List.pairwise_cons.2 ⟨fun x hx => (by cases hx), List.Pairwise.nil⟩
    | cons q r =>
      replace h : cond (Nat.ble p q) (ascP (q :: r)) false = true := h
      cases hc : Nat.ble p q
      · rw [hc] at h; cases h
      · rw [hc, cond_true] at h
        have h1 := ih h
        have h2 := Nat.le_of_ble_eq_true hc
        refine List.pairwise_cons.2 ⟨fun x hx => ?_, h1⟩
        rcases List.mem_cons.1 hx with rfl | hx
        · exact h2
        · exact Nat.le_trans h2 ((List.pairwise_cons.1 h1).1 x hx)
def chkT : List (Nat × List Nat) → Bool
  | [] => true
  | x :: t => cond (ascP x.2) (cond (rootc x.2) (chkT t) false) false
theorem chkT_true : ∀ t : List (Nat × List Nat), chkT t = true → ∀ x ∈ t, x.2.Pairwise (· ≤ ·) ∧ rootc x.2 = true := by
  intro t
  induction t with
  | nil => intro _ x hx; cases hx
  | cons y t ih =>
    intro h x hx
    replace h : cond (ascP y.2) (cond (rootc y.2) (chkT t) false) false = true := h
    cases h1 : ascP y.2
    · rw [h1] at h; cases h
    · rw [h1, cond_true] at h
      cases h2 : rootc y.2
      · rw [h2] at h; cases h
      · rw [h2, cond_true] at h
        rcases List.mem_cons.1 hx with rfl | hx
        · exact ⟨ascP_true _ h1, h2⟩
        · exact ih h x hx
theorem gcd_210 {n k : Nat} (hn : 1 < n) (h : FourP (Pass n)) (hk : k ∣ n) : Nat.gcd k 210 = 1 := by
  rcases (show Nat.gcd k 210 = 0 ∨ Nat.gcd k 210 = 1 ∨ 2 ≤ Nat.gcd k 210 by omega) with h0 | h1 | h2
  · have := (Nat.gcd_eq_zero_iff.1 h0).2; omega
  · exact h1
  · exfalso
    obtain ⟨p, hp, hd⟩ := prm_factor _ h2
    have hpn := Nat.dvd_trans (Nat.dvd_trans hd (Nat.gcd_dvd_left k 210)) hk
    have h210 : p ∣ 2 * (3 * (5 * 7)) := Nat.dvd_trans hd (Nat.gcd_dvd_right k 210)
    rcases hp.euclid _ _ h210 with h3 | h3
    · exact h.1.coprime hn hp hpn h3
    · rcases hp.euclid _ _ h3 with h4 | h4
      · exact h.2.1.coprime hn hp hpn h4
      · rcases hp.euclid _ _ h4 with h5 | h5
        · exact h.2.2.1.coprime hn hp hpn h5
        · exact h.2.2.2.coprime hn hp hpn h5
structure Reckoned (t : List (Nat × List Nat)) (ex : List (Nat × Nat)) : Prop where
  small : chkT t = true
  signs : chkS t 8192 1 = true
  few1 : (fN (prodP 13 1) fun W => chkG W 1008 1) = true
  mid : ∀ q, 8192 < q → q ≤ 65536 → chkQ q = true
  few2 : (fN (prodP 16 1) fun W => chkG W 3816 1) = true
  great : ∀ k, 2 ≤ k → k < 65536 → Nat.gcd k 210 = 1 → GG (k - 1) ∣ prodP 16 1 * prodL ex
  more : ∀ x ∈ ex, chk1 x.1 x.2 = true ∧ 0 < x.2 ∧ x.1 % 2 = 1 ∧ x.1 % 3 ≠ 0 ∧ x.1 < 248090
theorem four_of {t : List (Nat × List Nat)} {ex : List (Nat × Nat)} (R : Reckoned t ex) {n : Nat} (hn : 1 < n) (hlt : n < 4294967296) (h : FourP (Pass n)) : Prm n ∨ n = 3215031751 := by
  by_cases hc : Prm n
  · exact .inl hc
  refine .inr (okn_four ?_ h)
  have hsplit : ∀ q, Prm q → q ∣ n → ∃ k, n = q * k ∧ 1 < k ∧ k ∣ n := fun q hq hd => by
    obtain ⟨k, rfl⟩ := hd
    refine ⟨k, rfl, ?_, Nat.dvd_mul_left k q⟩
    rcases (show k = 0 ∨ k = 1 ∨ 1 < k by omega) with rfl | rfl | h1
    · omega
    · rw [Nat.mul_one] at hc; exact absurd hq hc
    · exact h1
  by_cases hC : ∃ q, Prm q ∧ q ∣ n ∧ 65536 < q
  · obtain ⟨q, hq, hd, hb⟩ := hC
    obtain ⟨k, e, hk1, hkd⟩ := hsplit q hq hd
    have hk2 : k < 65536 := by
      rcases Nat.lt_or_ge k 65536 with h1 | h1
      · exact h1
      · have : 65536 * 65536 ≤ q * k := Nat.mul_le_mul (by omega) h1
        omega
    have hA : AtP (q * k) q := by rw [← e]; exact atP_of hn h hq hd
    have hkg := gcd_210 hn h hkd
    have h1 := Nat.dvd_trans (GG_of (hA.other (by omega))) (R.great k (by omega) hk2 hkg)
    rcases hq.euclid _ _ h1 with h2 | h2
    · have := prodP_dvd hq 16 1 (by omega) h2
      omega
    · obtain ⟨x, hx, hqx⟩ := prodL_dvd hq ex h2
      obtain ⟨m1, m2, m3, m4, m5⟩ := R.more x hx
      obtain ⟨c, hcx⟩ := hqx
      have hc4 : c < 4 := by
        rcases Nat.lt_or_ge c 4 with h3 | h3
        · exact h3
        · have : 65537 * 4 ≤ q * c := Nat.mul_le_mul (by omega) h3
          omega
      have hc1 : c = 1 := by
        rcases (show c = 0 ∨ c = 1 ∨ c = 2 ∨ c = 3 by omega) with rfl | rfl | rfl | rfl <;> omega
      rw [hc1, Nat.mul_one] at hcx
      rw [hcx] at m1 m5
      rw [e]
      exact chk1_true (S := 3816) m1 hA hk1 (by omega) hkg m2 (none_small R.few2 hq (by omega)) (by omega)
  · by_cases hB : ∃ q, Prm q ∧ q ∣ n ∧ 8192 < q
    · obtain ⟨q, hq, hd, hb⟩ := hB
      obtain ⟨k, e, hk1, hkd⟩ := hsplit q hq hd
      have hq2 : q ≤ 65536 := by
        rcases Nat.lt_or_ge 65536 q with h1 | h1
        · exact absurd ⟨q, hq, hd, h1⟩ hC
        · exact h1
      have hA : AtP (q * k) q := by rw [← e]; exact atP_of hn h hq hd
      rw [e]
      exact chkQ_true (S := 1008) (R.mid q hb hq2) hA hk1 (by omega) (gcd_210 hn h hkd) (gcd_S hq (by omega)) (none_small R.few1 hq (by omega)) (by omega)
    · obtain ⟨σ, hσ⟩ := one_sign hn hlt h
      have hin : ∀ p, Prm p → p ∣ n → p ∈ lookP σ t := fun p hp hd => by
        have hle : p ≤ 8192 := by
          rcases Nat.lt_or_ge 8192 p with h1 | h1
          · exact absurd ⟨p, hp, hd, h1⟩ hB
          · exact h1
        have hg := gcd_210 hn h hd
        have ho : p % 2 = 1 := by
          rcases (show p % 2 = 0 ∨ p % 2 = 1 by omega) with h0 | h0
          · have : 2 ∣ Nat.gcd p 210 := Nat.dvd_gcd (Nat.dvd_of_mod_eq_zero h0) (by decide)
            rw [hg] at this
            omega
          · exact h0
        have h2 := hp.1
        have h1 := chkS_true 8192 1 R.signs (p - 1) (by omega)
        rw [show 1 + (p - 1) = p by omega] at h1
        have h3 := h1 hg (atP_of hn h hp hd).own
        rwa [hσ p hp hd ho] at h3
      rcases lookP_mem (σ := σ) t with h0 | ⟨x, hx, h0⟩
      · obtain ⟨p, hp, hd⟩ := prm_factor n hn
        have := hin p hp hd
        rw [h0] at this
        cases this
      · obtain ⟨h1, h2⟩ := chkT_true t R.small x hx
        rw [h0] at hin
        exact rootc_true x.2 h2 h1 n hn hc hin hlt (fun _ _ _ => .inr hc)
end Go.Proofs.YtjpfcdgaepdcdaaGreat

/- Several texts in one; each begins with a remark that says what it shows and on which conditions. -/
import Derived.Test.YtjpfcdgaepdcdaaKau
/- power.raised of numbers of many words. Conditions: as typed (lengths that fit a machine). -/
namespace Go.Proofs.Ytjpfcdgaepdcdaa
open Go.RowKit Go.Shelf
set_option maxRecDepth 20000
attribute [local go_sem] Oper.semAt_some
/-! Numbers in memory stay where variables of another kind are stored into, and where no cells are turned -/
theorem Rd.box8 {u : World} {B G t : Nat} {A : Option Addr} {l : List Nat} {v : Value} (h : Rd .u64 u B A l) (hb : Boxed u G t v) (hv : ∀ k x, v ≠ .int k x) (y : Value) : Rd .u64 (u.setCell ⟨G, 0, none⟩ y) B A l := fun hl => by
  obtain ⟨b, off, rfl, hlt, hc⟩ := h hl
  refine ⟨b, off, rfl, hlt, fun j hj => ?_⟩
  have hne : b ≠ G := by
    rintro rfl
    have h1 := hc j hj
    have h2 : u.heap[b]? = some (.cells #[v] t (0, 0)) := hb
    simp only [World.cell?, h2] at h1
    rcases Nat.eq_zero_or_pos (off + j) with h0 | h0
    · rw [h0] at h1; simp at h1; exact hv _ _ h1
    · obtain ⟨o, ho⟩ : ∃ o, off + j = o := ⟨_, rfl⟩
      rw [ho] at h1 h0
      rw [if_neg (by simp), List.getElem?_toArray, List.getElem?_eq_none (by simp; omega)] at h1
      cases h1
  rw [← hc j hj]
  exact World.cell?_setCell_other _ _ _ _ (fun e => hne (by injection e with e1; exact e1.symm))
theorem Rd.still8 {W W' : World} {B : Nat} {A : Option Addr} {l : List Nat} {row : Option Nat} (h : Rd .u64 W B A l) (hg : W.grownBy W' row) (hr : ∀ r, row = some r → ∃ o : Obj, W.heap[r]? = some o ∧ o.isCells = false) : Rd .u64 W' B A l := fun hl => by
  obtain ⟨b, off, e, hb, hc⟩ := h hl
  exact ⟨b, off, e, hb, fun j hj => cell_kept (hc j hj) hg hr⟩
section
variable {u u' : World} {G t : Nat} {A : Option Addr} {n c V : Nat} {v : Value} {row : Option Nat}
theorem NatIn.box8 (h : NatIn u A n c V) (hb : Boxed u G t v) (hv : ∀ k x, v ≠ .int k x) (y : Value) : NatIn (u.setCell ⟨G, 0, none⟩ y) A n c V := by
  obtain ⟨l, h1, h2, h3, h4, h5, h6⟩ := h
  refine ⟨l, h1, h2, h3, h4, ?_, h6⟩
  have := h5.box8 hb hv y
  simpa [World.setCell] using this
theorem NatIs.box8 (h : NatIs u A n c V) (hb : Boxed u G t v) (hv : ∀ k x, v ≠ .int k x) (y : Value) : NatIs (u.setCell ⟨G, 0, none⟩ y) A n c V := by
  obtain ⟨h1, h2, h3, h4⟩ := h
  refine ⟨h1, h2, ?_, h4⟩
  have := h3.box8 hb hv y
  simpa [World.setCell] using this
theorem NatIn.still8 (h : NatIn u A n c V) (hg : u.grownBy u' row) (hr : ∀ r, row = some r → ∃ o : Obj, u.heap[r]? = some o ∧ o.isCells = false) : NatIn u' A n c V := by
  obtain ⟨l, h1, h2, h3, h4, h5, h6⟩ := h
  exact ⟨l, h1, h2, h3, h4, (h5.still8 hg hr).more hg.size, h6⟩
theorem NatIs.still8 (h : NatIs u A n c V) (hg : u.grownBy u' row) (hr : ∀ r, row = some r → ∃ o : Obj, u.heap[r]? = some o ∧ o.isCells = false) : NatIs u' A n c V :=
  ⟨h.1, h.2.1, (h.2.2.1.still8 hg hr).more hg.size, h.2.2.2⟩
end
/-- A number. -/
def OutR (V : Nat) (w : World) (e : Ending) (w' : World) : Prop := ∃ Y r f, e = .returned (.slice Y r f) ∧ NatIs w' Y r f V ∧ Below w.heap.size w w'
set_option maxHeartbeats 2000000 in
theorem exp2_any {w : World} {A A2 A3 : Option Addr} {n m k c c2 c3 x y M g : Nat} (h : NatIn w A n c x) (i : NatIn w A2 m c2 y) (j : NatIn w A3 k c3 M) (hb : Boxed w g 29 (.slice A3 k c3)) (hM : M ≠ 0) (hs : n ≤ 4000) (hs2 : m ≤ 4000) (hs3 : k ≤ 9000) :
    Calls Try.prog 61 #[.slice A n c, .slice A2 m c2, .pointer (some ⟨g, 0, none⟩)] w (OutR (x * y % M) w) := by
  have bd : Below w.heap.size w w.drew := (Drawn.more 1).below _
  obtain ⟨z, hz⟩ : ∃ z, x * y % M = z := ⟨_, rfl⟩
  have hmul := nbits_mul x y
  have hxb := h.bits
  have hyb := i.bits
  have HM := Lib.hid (bMul (h.step bd) (i.step bd) (by omega) (by omega))
  have HJ := Lib.hid (j.step bd)
  have hb1 : Boxed w.drew g 29 (.slice A3 k c3) := hb.kept (grown_of_below bd) (by simp)
  have HB := Lib.hid hb1
  have hc0 := hb1.cell
  rw [hz]
  have HZ := Lib.hid hz
  clear h i j hb hb1 hz
  go_enter Try.func61, Try.ntmps61
  go_wp2_with fail
  go_region_with (first
    | (go_at_call 62; (with_reducible refine (HM.out).mono ?_); rintro e w1 ⟨X, q, d, rfl, hX, _, b1⟩; have c1 := (HB.out.kept (grown_of_below b1) (by simp)).cell; have hq := natIs_len8 (K := 8001) hX (by omega); have HD := Lib.hid (bMod_is z hX.in_ (HJ.out.step b1) HZ.out hM (by omega) (by omega)); clear hX)
    | (go_at_call 59; (with_reducible refine (HD.out).mono ?_); rintro e w2 ⟨Y, r, f, rfl, h2, b2⟩))
  all_goals
    go_wp2_with fail
    go_ret
    exact ⟨Y, r, f, rfl, h2, bd.trans ((b1.mono bd.size).trans (b2.mono (Nat.le_trans bd.size b1.size)))⟩
/-- Between two rounds of raised. -/
structure RaiMid2 (w : World) (g : Nat) (Ab Am Ao : Option Addr) (nb cb nm cm no co b M out : Nat) (W : World) : Prop where
  bb : Boxed W w.heap.size 29 (.slice Ab nb cb)
  bt : Boxed W (w.heap.size + 1) 71 (.func (.func 61) #[] #[.pointer (some ⟨g, 0, none⟩)])
  bo : Boxed W (w.heap.size + 1 + 1) 29 (.slice Ao no co)
  bm : Boxed W g 29 (.slice Am nm cm)
  hb : NatIn W Ab nb cb b
  hm : NatIn W Am nm cm M
  ho : NatIs W Ao no co out
  below : Below w.heap.size w W
  size : w.heap.size + 4 ≤ W.heap.size
section
variable {w W W' : World} {g : Nat} {Ab Am Ao : Option Addr} {nb cb nm cm no co b M out : Nat} {row : Option Nat}
theorem RaiMid2.kept (h : RaiMid2 w g Ab Am Ao nb cb nm cm no co b M out W) (hg : W.grownBy W' row) (hr : ∀ k, row = some k → w.heap.size + 4 ≤ k ∧ ∃ o : Obj, W.heap[k]? = some o ∧ o.isCells = false) (hgw : g < w.heap.size) : RaiMid2 w g Ab Am Ao nb cb nm cm no co b M out W' where
  bb := h.bb.kept hg (by intro e; have := (hr _ e.symm).1; omega)
  bt := h.bt.kept hg (by intro e; have := (hr _ e.symm).1; omega)
  bo := h.bo.kept hg (by intro e; have := (hr _ e.symm).1; omega)
  bm := h.bm.kept hg (by intro e; have := (hr _ e.symm).1; omega)
  hb := h.hb.still8 hg (fun k e => (hr k e).2)
  hm := h.hm.still8 hg (fun k e => (hr k e).2)
  ho := h.ho.still8 hg (fun k e => (hr k e).2)
  below := h.below.grown hg h.below.size (fun k e => by have := (hr k e).1; omega)
  size := Nat.le_trans h.size hg.size
theorem RaiMid2.put (h : RaiMid2 w g Ab Am Ao nb cb nm cm no co b M out W) {X : Option Addr} {q d x : Nat} (hx : NatIs W X q d x) (hgw : g < w.heap.size) : RaiMid2 w g Ab Am X nb cb nm cm q d b M x (W.setCell ⟨w.heap.size + 1 + 1, 0, none⟩ (.slice X q d)) where
  bb := h.bb.kept (grownBy_setCell' W (w.heap.size + 1 + 1) (.slice X q d)) (by simp; omega)
  bt := h.bt.kept (grownBy_setCell' W (w.heap.size + 1 + 1) (.slice X q d)) (by simp)
  bo := h.bo.set _
  bm := h.bm.kept (grownBy_setCell' W (w.heap.size + 1 + 1) (.slice X q d)) (by simp; omega)
  hb := h.hb.box8 h.bo (by simp) _
  hm := h.hm.box8 h.bo (by simp) _
  ho := hx.box8 h.bo (by simp) _
  below := h.below.setCell (p := ⟨w.heap.size + 1 + 1, 0, none⟩) (by simp; omega) _
  size := by simpa [World.setCell] using h.size
end
set_option maxRecDepth 100000 in
set_option maxHeartbeats 2000000 in
theorem raised2_pf (b M g E : Nat) (Ab Am A1 A : Option Addr) (nb cb nm cm n1 c1 q c : Nat) (w : World) (hE : NatIn w A q c E) (hb : NatIn w Ab nb cb b) (hm : NatIn w Am nm cm M) (ho : NatIs w A1 n1 c1 1) (hg : Boxed w g 29 (.slice Am nm cm))
    (hM : 1 < M) (hMb : nbits M ≤ 4096) (hnb : nb ≤ 4000) (hnm : nm ≤ 9000) :
    Calls Try.prog 60 #[.slice Ab nb cb, .slice A1 n1 c1, .slice A q c, .func (.func 61) #[] #[.pointer (some ⟨g, 0, none⟩)]] w (OutR (b ^ E % M) w) := by
  obtain ⟨K, hK⟩ : ∃ K, nbits E = K := ⟨_, rfl⟩
  have HK := Lib.hid hK
  have HE := Lib.hid hE
  have hgw := hg.lt
  have hn1 := natIs_len8 (K := 1) ho (by decide)
  have HMb := Lib.hid hMb
  clear hK hE hMb
  refine (callsIn_wide (n := 9)).1 ?_
  refine callsIn_of_wp_marks Try.func60 rfl trivial ?_ rfl
  simp only [Try.ntmps60, List.size_toArray, List.length_cons, List.length_nil, Nat.reduceAdd, Nat.reduceSub, Array.replicate_succ, Array.replicate_zero, List.push_toArray, List.append_toArray, List.nil_append, List.cons_append]
  gi_wp2
  refine ⟨trivial, ?_⟩
  refine (high_in _ _ _ _ _).mono ?_
  rintro e w' ⟨rfl, rfl⟩
  have b1 := Boxed.new w 29 (.slice Ab nb cb)
  have b2 := Boxed.new (w.alloc (.cells #[.slice Ab nb cb] 29)) 71 (.func (.func 61) #[] #[.pointer (some ⟨g, 0, none⟩)])
  have b3 := Boxed.new ((w.alloc (.cells #[.slice Ab nb cb] 29)).alloc (.cells #[.func (.func 61) #[] #[.pointer (some ⟨g, 0, none⟩)]] 71)) 29 (.slice A1 n1 c1)
  have b4 := Boxed.new (((w.alloc (.cells #[.slice Ab nb cb] 29)).alloc (.cells #[.func (.func 61) #[] #[.pointer (some ⟨g, 0, none⟩)]] 71)).alloc (.cells #[.slice A1 n1 c1] 29)) 29 (.slice A q c)
  simp only [World.size_alloc] at b2 b3 b4
  obtain ⟨E0, hE0⟩ : ∃ E0, (((w.alloc (.cells #[.slice Ab nb cb] 29)).alloc (.cells #[.func (.func 61) #[] #[.pointer (some ⟨g, 0, none⟩)]] 71)).alloc (.cells #[.slice A1 n1 c1] 29)).alloc (.cells #[.slice A q c] 29) = E0 := ⟨_, rfl⟩
  have hEs : E0.heap.size = w.heap.size + 4 := by rw [← hE0]; simp
  have hB : Below w.heap.size w E0 := by rw [← hE0]; exact ((((Below.refl _ w).alloc (Nat.le_refl _) _).alloc (by simp) _).alloc (by simp; omega) _).alloc (by simp; omega) _
  have hM0 : RaiMid2 w g Ab Am A1 nb cb nm cm n1 c1 b M 1 E0 := by
    refine ⟨?_, ?_, ?_, (hB.block g hgw).trans hg, hb.step hB, hm.step hB, ho.step hB, hB, by omega⟩
    · rw [← hE0]; exact ((b1.alloc _).alloc _).alloc _
    · rw [← hE0]; exact (b2.alloc _).alloc _
    · rw [← hE0]; exact b3.alloc _
  have bE : Boxed E0 (w.heap.size + 1 + 1 + 1) 29 (.slice A q c) := by rw [← hE0]; exact b4
  have HEs := Lib.hid hEs
  clear b1 b2 b3 b4
  gi_wp2
  clear hE0
  refine wpIn_rangeFunc_ownG rfl (by omega) (gf := 81) (lb := #[.pointer (some ⟨w.heap.size + 1 + 1 + 1, 0, none⟩)]) rfl trivial (enters_of Try.func81 (by kernel_rfl) rfl)
    (high_stops 8 (by omega) (w.heap.size + 1 + 1 + 1) w.heap.size q c E K A HK E0 bE (by omega) (by obtain ⟨l, e1, e2, e3, e4, e5, e6⟩ := HE.out; exact ⟨l, e1, e2, e3, e4, e5.below hB, e6⟩))
    KpB.t (KpB.b (by omega) (by omega)) (Below.refl _ _) (fun _ => rfl)
    (fun pre W => ∃ Ao no co, no ≤ 64 ∧ RaiMid2 w g Ab Am Ao nb cb nm cm no co b M (b ^ hv pre % M) W)
    (fun _ _ _ => False)
    (fun s X Y row hs hg hr => by
      obtain ⟨Ao, no, co, h1, h2⟩ := hs
      exact ⟨Ao, no, co, h1, h2.kept hg (fun k e => ⟨by have := (hr k e).1; omega, (hr k e).2⟩) hgw⟩)
    (fun _ _ _ _ _ hs _ _ => hs)
    ⟨A1, n1, c1, by omega, by rw [hv_nil, Nat.pow_zero, Nat.mod_eq_of_lt hM]; exact hM0⟩
    (fun x => { tmps := #[.slice Ab nb cb, .slice A1 n1 c1, .slice A q c, .func (.func 61) #[] #[.pointer (some ⟨g, 0, none⟩)], .pointer (some ⟨w.heap.size, 0, none⟩), undef, undef, .pointer (some ⟨w.heap.size + 1, 0, none⟩), .slice none 0 0, .pointer (some ⟨w.heap.size + 1 + 1, 0, none⟩),
      .int .u64 (x.1 : Int), .slice A1 n1 c1, .slice A q c, .func (.func 81) #[] #[.pointer (some ⟨w.heap.size + 1 + 1 + 1, 0, none⟩)], .int .u64 (x.1 : Int), undef, undef, undef, undef, undef, undef, undef, undef, undef, undef, undef], defers := [] }) ?assign ?body ?done ?stop
  case assign =>
    intro l x W K hK
    gi_wp2
    exact hK
  case body =>
    rintro l pre x W ⟨Ao, no, co, hno, hM1⟩ hlen
    obtain ⟨v, hv0⟩ : ∃ v, hv pre = v := ⟨_, rfl⟩
    obtain ⟨o, ho'⟩ : ∃ o, b ^ v % M = o := ⟨_, rfl⟩
    obtain ⟨o2, ho2⟩ : ∃ o2, o * o % M = o2 := ⟨_, rfl⟩
    have h2 : b ^ (2 * v) % M = o2 := by rw [← ho2, ← ho', pow_twice]
    rw [hv0, ho'] at hM1
    have ho2l : o2 < M := by rw [← ho2]; exact Nat.mod_lt _ (by omega)
    have ho2n := nbits_mono (Nat.le_of_lt ho2l)
    have X1 := exp2_any hM1.ho.in_ hM1.ho.in_ hM1.hm hM1.bm (by omega) (by omega) (by omega) hnm
    rw [ho2] at X1
    have HX1 := Lib.hid X1
    have HM := Lib.hid hM1
    have HV := Lib.hid (hv_snoc pre x)
    rw [hv0] at HV
    have H2 := Lib.hid h2
    have hbc := hM1.bb.cell
    have htc := hM1.bt.cell
    have hoc := hM1.bo.cell
    have hof := hM1.bo.frozen
    have hWs := hM1.size
    have HO2 := Lib.hid ho2n
    clear X1 hM1 hv0 ho' ho2 h2 hlen hM0 bE ho2n ho hb hm hg
    gi_wp2
    refine ⟨trivial, ?_⟩
    refine (CallsIn.inRound l (callsIn_wide.2 HX1.out)).mono ?_
    rintro e W1 ⟨Y, r, f, rfl, hY, d1⟩
    have hr64 := natIs_len8 (K := 64) hY (by have := HO2.out; have := HMb.out; omega)
    have hM1 := HM.out.kept (grown_of_below d1) (fun k e => by cases e) hgw
    have K1 := KeepsOthers.of_grownBy (grown_of_below d1) (fun j o e => by cases e)
    have hM2 := hM1.put hY hgw
    have hoc1 := hM1.bo.cell
    have hof1 := hM1.bo.frozen
    have K2 := K1.trans (KeepsOthers.setCell _ ⟨w.heap.size + 1 + 1, 0, none⟩ (.slice Y r f))
    have P2 : KpB w.heap.size (w.heap.size + 1 + 1 + 1) W (W1.setCell ⟨w.heap.size + 1 + 1, 0, none⟩ (.slice Y r f)) :=
      ⟨(d1.mono (by omega)).setCell (p := ⟨w.heap.size + 1 + 1, 0, none⟩) (by simp; omega) _, ((grownBy_setCell' W1 (w.heap.size + 1 + 1) (.slice Y r f)).block _ (by have := hM1.size; omega) (by simp)).trans ((grown_of_below d1).block _ (by omega) (by simp))⟩
    have hbc2 := hM2.bb.cell
    have htc2 := hM2.bt.cell
    have hoc2 := hM2.bo.cell
    have hof2 := hM2.bo.frozen
    have hWs2 := hM2.size
    have HM2 := Lib.hid hM2
    have HK2 := Lib.hid K2
    have HP2 := Lib.hid P2
    clear hM1 hM2 K1 K2 P2 hY
    rcases Nat.lt_or_ge x.1 1 with hx | hx
    · have hx0 : x.1 = 0 := by omega
      have hb0 : ((x.1 : Int) == 1) = false := by simp; omega
      have HF := Lib.hid (show KeepsFrom E0.heap.size W (W1.setCell ⟨w.heap.size + 1 + 1, 0, none⟩ (.slice Y r f)) ∧ KpB w.heap.size (w.heap.size + 1 + 1 + 1) W (W1.setCell ⟨w.heap.size + 1 + 1, 0, none⟩ (.slice Y r f)) ∧ ∃ Ao no co, no ≤ 64 ∧ RaiMid2 w g Ab Am Ao nb cb nm cm no co b M (b ^ hv (pre ++ [x]) % M) (W1.setCell ⟨w.heap.size + 1 + 1, 0, none⟩ (.slice Y r f)) from
        ⟨HK2.out.from _, HP2.out, Y, r, f, hr64, by rw [HV.out, hx0, Nat.add_zero, H2.out]; exact HM2.out⟩)
      clear hx hx0
      gi_wp2
      exact HF.out
    · have hx1 : x.1 = 1 := by have := x.2; omega
      have hb0 : ((x.1 : Int) == 1) = true := by simp; omega
      obtain ⟨o3, ho3⟩ : ∃ o3, o2 * b % M = o3 := ⟨_, rfl⟩
      have h3 := Lib.hid (show b ^ (2 * v + 1) % M = o3 by rw [← pow_twice_one, H2.out, Nat.mul_mod_mod, ho3])
      have ho3l : o3 < M := by rw [← ho3]; exact Nat.mod_lt _ (by omega)
      have HO3 := Lib.hid (nbits_mono (Nat.le_of_lt ho3l))
      have X2 := exp2_any HM2.out.ho.in_ HM2.out.hb HM2.out.hm HM2.out.bm (by omega) (by omega) (by omega) hnm
      rw [ho3] at X2
      have HX2 := Lib.hid X2
      have HX1' := Lib.hid hx1
      clear X2 ho3 hx hx1 ho3l
      gi_wp2
      refine ⟨trivial, ?_⟩
      refine (CallsIn.inRound l (callsIn_wide.2 HX2.out)).mono ?_
      rintro e W3 ⟨Z, s, y, rfl, hZ, d3⟩
      have hs64 := natIs_len8 (K := 64) hZ (by have := HO3.out; have := HMb.out; omega)
      have hM3 := HM2.out.kept (grown_of_below d3) (fun k e => by cases e) hgw
      have K3 := HK2.out.trans (KeepsOthers.of_grownBy (grown_of_below d3) (fun j o e => by cases e))
      have hM4 := hM3.put hZ hgw
      have K4 := K3.trans (KeepsOthers.setCell _ ⟨w.heap.size + 1 + 1, 0, none⟩ (.slice Z s y))
      have P4 : KpB w.heap.size (w.heap.size + 1 + 1 + 1) (W1.setCell ⟨w.heap.size + 1 + 1, 0, none⟩ (.slice Y r f)) (W3.setCell ⟨w.heap.size + 1 + 1, 0, none⟩ (.slice Z s y)) :=
        ⟨(d3.mono (by omega)).setCell (p := ⟨w.heap.size + 1 + 1, 0, none⟩) (by simp; omega) _, ((grownBy_setCell' W3 (w.heap.size + 1 + 1) (.slice Z s y)).block _ (by have := hM3.size; omega) (by simp)).trans ((grown_of_below d3).block _ (by omega) (by simp))⟩
      have hoc3 := hM3.bo.cell
      have hof3 := hM3.bo.frozen
      have HF := Lib.hid (show KeepsFrom E0.heap.size W (W3.setCell ⟨w.heap.size + 1 + 1, 0, none⟩ (.slice Z s y)) ∧ KpB w.heap.size (w.heap.size + 1 + 1 + 1) W (W3.setCell ⟨w.heap.size + 1 + 1, 0, none⟩ (.slice Z s y)) ∧ ∃ Ao no co, no ≤ 64 ∧ RaiMid2 w g Ab Am Ao nb cb nm cm no co b M (b ^ hv (pre ++ [x]) % M) (W3.setCell ⟨w.heap.size + 1 + 1, 0, none⟩ (.slice Z s y)) from
        ⟨K4.from _, HP2.out.t P4, Z, s, y, hs64, by rw [HV.out, HX1'.out, h3.out]; exact hM4⟩)
      clear hM3 hM4 K3 K4 P4 hZ
      gi_wp2
      exact HF.out
  case done =>
    rintro D ys W hD hys ⟨Ao, no, co, hno, hM1⟩ hKd
    have HKd := Lib.hid hKd
    have hv1 : hv ys = E := by rw [hys, ← HK.out, hv_all]
    rw [hv1] at hM1
    have hoc := hM1.bo.cell
    have hD2 : w.heap.size + 4 ≤ D := by have := HEs.out; omega
    have HB := Lib.hid (show Below w.heap.size w (W.putObj D (.deferred none)) from hM1.below.trans (belowK_b (w := w) (Nat.le_refl _) W D _ _ (by omega) HKd.out rfl rfl))
    have HN := Lib.hid (hM1.ho.still8 (grownBy_putObj' W D (.deferred none)) (fun r e => by cases e; exact ⟨_, HKd.out, rfl⟩))
    clear hys hKd hv1 hM1 hM0 bE ho hb hm hg
    gi_wp2
    refine ⟨by simp, .inl ⟨_, _, rfl, run_takeDeferred HKd.out, ?_⟩⟩
    exact ⟨_, results_tmp (t := 8) rfl _ _ _, Ao, no, co, rfl, HN.out, HB.out⟩
  case stop =>
    rintro D c pre W _ _ h _
    exact h.elim
end Go.Proofs.Ytjpfcdgaepdcdaa

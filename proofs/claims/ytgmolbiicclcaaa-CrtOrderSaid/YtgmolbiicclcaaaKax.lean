/- Several texts in one; each begins with a remark that says what it shows and on which conditions. -/
import Derived.Test.YtgmolbiicclcaaaKau
import Derived.Test.YtgmolbiicclcaaaKav
import Derived.Test.YtgmolbiicclcaaaKaw
/- Rests in memory; crt's both, walked. Conditions: as typed (numbers of at most 1024 bits). -/
namespace Go.Proofs.Ytgmolbiicclcaaa
open Go.RowKit
set_option maxRecDepth 20000
/-- A value that stands for a number. -/
def NV (w : World) (v : Value) (n : Nat) : Prop := ∃ A q c, v = .slice A q c ∧ NatIs w A q c n
theorem NV.step {w w' : World} {v : Value} {n : Nat} (h : NV w v n) (b : Below w.heap.size w w') : NV w' v n := by
  obtain ⟨A, q, c, e, h⟩ := h
  exact ⟨A, q, c, e, h.step b⟩
theorem NV.of {w : World} {A : Option Addr} {q c n : Nat} (h : NatIs w A q c n) : NV w (.slice A q c) n := ⟨A, q, c, rfl, h⟩
theorem NV.is {w : World} {A : Option Addr} {q c n : Nat} (h : NV w (.slice A q c) n) : NatIs w A q c n := by
  obtain ⟨A2, q2, c2, e, h⟩ := h
  injection e with e1 e2 e3
  subst e1 e2 e3
  exact h
theorem NV.nil (w : World) : NV w (.slice none 0 0) 0 := ⟨none, 0, 0, rfl, natIs_zero5 w none 0⟩
/-- A slice of rests, each two slices of words. -/
def RdRests (w : World) (A : Option Addr) (ss : List CR) : Prop :=
  0 < ss.length → ∃ b off, A = some ⟨b, off, none⟩ ∧ b < w.heap.size ∧ ∀ j (hj : j < ss.length), ∃ vM vR,
    w.cell? ⟨b, off + j * 2, none⟩ = some vM ∧ w.cell? ⟨b, off + j * 2 + 1, none⟩ = some vR ∧ NV w vM ss[j].m ∧ NV w vR ss[j].r
theorem RdRests.nil (w : World) (A : Option Addr) : RdRests w A [] := fun h => absurd h (by simp)
theorem RdRests.step {w w' : World} {A : Option Addr} {ss : List CR} (h : RdRests w A ss) (b : Below w.heap.size w w') : RdRests w' A ss := fun h0 => by
  obtain ⟨g, off, e, hg, hall⟩ := h h0
  refine ⟨g, off, e, Nat.lt_of_lt_of_le hg b.size, fun j hj => ?_⟩
  obtain ⟨vM, vR, h1, h2, h3, h4⟩ := hall j hj
  exact ⟨vM, vR, (b.cell (p := ⟨g, off + j * 2, none⟩) hg).trans h1, (b.cell (p := ⟨g, off + j * 2 + 1, none⟩) hg).trans h2, h3.step b, h4.step b⟩
/-- Numbers short enough. -/
def FewC (ss : List CR) : Prop := ∀ s ∈ ss, nbits s.m ≤ 1024 ∧ nbits s.r ≤ 1024
theorem natIs_len16 {w : World} {X : Option Addr} {q d V : Nat} (h : NatIs w X q d V) (hV : nbits V ≤ 1024) : q ≤ 16 := natIs_len h (by omega)
/-! A rest in a block of its own -/
def BoxC (w : World) (g : Nat) (v1 v2 : Value) : Prop := w.heap[g]? = some (.cells #[v1, v2] 40 (0, 0))
section
variable {w w' : World} {g : Nat} {v1 v2 : Value}
theorem BoxC.lt (h : BoxC w g v1 v2) : g < w.heap.size := (Array.getElem?_eq_some_iff.1 h).1
theorem BoxC.new (w : World) (v1 v2 : Value) : BoxC (w.alloc (.cells #[v1, v2] 40)) w.heap.size v1 v2 := World.alloc_heap_new w _
theorem BoxC.keep (h : BoxC w g v1 v2) (hk : w'.heap[g]? = w.heap[g]?) : BoxC w' g v1 v2 := hk.trans h
theorem BoxC.below (h : BoxC w g v1 v2) (b : Below w.heap.size w w') : BoxC w' g v1 v2 := h.keep (b.block g h.lt)
theorem BoxC.c0 (h : BoxC w g v1 v2) : w.cell? ⟨g, 0, none⟩ = some v1 := by unfold BoxC at h; simp [World.cell?, h]
theorem BoxC.c1 (h : BoxC w g v1 v2) : w.cell? ⟨g, 1, none⟩ = some v2 := by unfold BoxC at h; simp [World.cell?, h]
theorem BoxC.soft (h : BoxC w g v1 v2) (k : Nat) : w.frozen? ⟨g, k, none⟩ = false := by unfold BoxC at h; simp [World.frozen?, h]
theorem BoxC.set0 (h : BoxC w g v1 v2) (v : Value) : BoxC (w.setCell ⟨g, 0, none⟩ v) g v v2 := by
  show (w.heap.modify g _)[g]? = _
  rw [Array.getElem?_modify, if_pos rfl, show w.heap[g]? = _ from h]
  rfl
theorem BoxC.set1 (h : BoxC w g v1 v2) (v : Value) : BoxC (w.setCell ⟨g, 1, none⟩ v) g v1 v := by
  show (w.heap.modify g _)[g]? = _
  rw [Array.getElem?_modify, if_pos rfl, show w.heap[g]? = _ from h]
  rfl
end
/-- Two results, the first of which lies in memory. -/
theorem results_box21 {fn : Func} {p u : Tmp} {ty : TypeId} (h : fn.results = #[.cell p ty, .tmp u]) (tmps : Array Value) {P : Program} {w : World} {g : Nat} {v : Value} (hp : tmps.getD p undef = .pointer (some ⟨g, 0, none⟩)) (hl : (loadVar ty ⟨g, 0, none⟩).run P w = .ok v w) :
    (results fn tmps).run P w = .ok (.tuple #[v, tmps.getD u undef]) w := by
  have e : (results fn tmps).run P w = ((asAddr (tmps.getD p undef)).run P w).andThen fun a w₁ => ((loadVar ty a).run P w₁).andThen fun v w₂ => .ok (.tuple #[v, tmps.getD u undef]) w₂ := by
    simp only [results, h]
    simp [Sem.run_bind, Result.andThen]
  rw [e, hp]
  have e2 : (asAddr (.pointer (some ⟨g, 0, none⟩))).run P w = .ok ⟨g, 0, none⟩ w := rfl
  rw [e2]
  show ((loadVar ty ⟨g, 0, none⟩).run P w).andThen _ = _
  rw [hl]
  rfl
theorem load_box21 {w : World} {g : Nat} {v1 v2 : Value} (hb : BoxC w g v1 v2) : (loadVar 40 ⟨g, 0, none⟩).run Try.prog w = .ok (.agg #[v1, v2]) w := by
  have h0 := hb.c0
  have h1 := hb.c1
  go_simp
/-- What both answers, where it answers. -/
def OutBoth (m r : Nat) (s : CR) (w : World) (e : Ending) (w' : World) : Prop := ∃ X q d Y p f v, e = .returned (.tuple #[.agg #[.slice X q d, .slice Y p f], .bool true]) ∧ NatIs w' X q d (m * s.m) ∧ NatIs w' Y p f (bothR m r s v) ∧ v * m % s.m = 1 % s.m ∧ Below w.heap.size w w'
def OutBothNo (w : World) (e : Ending) (w' : World) : Prop := e = .returned (.tuple #[.agg #[.slice none 0 0, .slice none 0 0], .bool false]) ∧ Below w.heap.size w w'
/-- The world while two rests are joined: three blocks, the third of which is the call's alone. -/
structure BothAt (w0 u : World) (g : Nat) (v1 v2 v3 v4 : Value) : Prop where
  bA : BoxC u g v1 v2
  bB : BoxC u (g + 1) v3 v4
  bZ : BoxC u (g + 2) (.slice none 0 0) (.slice none 0 0)
  lo : w0.heap.size ≤ g
  be : Below w0.heap.size w0 u
theorem BothAt.step {w0 u u' : World} {g : Nat} {v1 v2 v3 v4 : Value} (h : BothAt w0 u g v1 v2 v3 v4) (b : Below u.heap.size u u') : BothAt w0 u' g v1 v2 v3 v4 :=
  ⟨h.bA.below b, h.bB.below b, h.bZ.below b, h.lo, below_step h.be b⟩
theorem BothAt.new (w : World) (v1 v2 v3 v4 : Value) : BothAt w (((w.alloc (.cells #[v1, v2] 40)).alloc (.cells #[v3, v4] 40)).alloc (.cells #[.slice none 0 0, .slice none 0 0] 40)) w.heap.size v1 v2 v3 v4 := by
  obtain ⟨W1, h1⟩ : ∃ W1, w.alloc (.cells #[v1, v2] 40) = W1 := ⟨_, rfl⟩
  obtain ⟨W2, h2⟩ : ∃ W2, W1.alloc (.cells #[v3, v4] 40) = W2 := ⟨_, rfl⟩
  obtain ⟨W3, h3⟩ : ∃ W3, W2.alloc (.cells #[.slice none 0 0, .slice none 0 0] 40) = W3 := ⟨_, rfl⟩
  rw [h1, h2, h3]
  have s1 : W1.heap.size = w.heap.size + 1 := by rw [← h1]; simp
  have s2 : W2.heap.size = w.heap.size + 2 := by rw [← h2]; simp; omega
  have b1 : Below w.heap.size w W1 := by rw [← h1]; exact (Below.refl _ w).alloc (Nat.le_refl _) _
  have b2 : Below W1.heap.size W1 W2 := by rw [← h2]; exact (Below.refl _ W1).alloc (Nat.le_refl _) _
  have b3 : Below W2.heap.size W2 W3 := by rw [← h3]; exact (Below.refl _ W2).alloc (Nat.le_refl _) _
  have x1 : BoxC W1 w.heap.size v1 v2 := by rw [← h1]; exact BoxC.new _ _ _
  have x2 : BoxC W2 (w.heap.size + 1) v3 v4 := by rw [← s1, ← h2]; exact BoxC.new _ _ _
  have x3 : BoxC W3 (w.heap.size + 2) (.slice none 0 0) (.slice none 0 0) := by rw [← s2, ← h3]; exact BoxC.new _ _ _
  exact ⟨(x1.below b2).below b3, x2.below b3, x3, Nat.le_refl _, below_step (below_step b1 b2) b3⟩
theorem nbits_natIs {w : World} {X : Option Addr} {q d V : Nat} (h : NatIs w X q d V) : nbits V ≤ 64 * q := h.in_.bits
theorem drawn21 {w : World} (k : Nat) : Below w.heap.size w (w.drewN k) := ⟨rfl, rfl, rfl, Nat.le_refl _, fun _ _ => rfl⟩
/-! both, walked -/
theorem below_set21 {w0 w : World} {b g : Nat} (h : Below b w0 w) (hb : b ≤ w.heap.size) (hg : b ≤ g) (i : Nat) (v : Value) : Below b w0 (w.setCell ⟨g, i, none⟩ v) :=
  h.grown (grown_setCell w ⟨g, i, none⟩ v) hb fun k e => by injection e with e; rw [← e]; exact hg
theorem BothAt.put {w0 u : World} {g : Nat} {v1 v2 v3 v4 : Value} (h : BothAt w0 u g v1 v2 v3 v4) (y z : Value) : BoxC ((u.setCell ⟨g + 2, 0, none⟩ y).setCell ⟨g + 2, 1, none⟩ z) (g + 2) y z ∧ Below w0.heap.size w0 ((u.setCell ⟨g + 2, 0, none⟩ y).setCell ⟨g + 2, 1, none⟩ z) := by
  refine ⟨(h.bZ.set0 y).set1 z, ?_⟩
  have h1 := below_set21 h.be h.be.size (show w0.heap.size ≤ g + 2 by have := h.lo; omega) 0 y
  exact below_set21 h1 h1.size (by have := h.lo; omega) 1 z
theorem BothAt.putAB {w0 u : World} {g : Nat} {v1 v2 v3 v4 : Value} (h : BothAt w0 u g v1 v2 v3 v4) (y z : Value) : ((u.setCell ⟨g + 2, 0, none⟩ y).setCell ⟨g + 2, 1, none⟩ z).cell? ⟨g, 0, none⟩ = some v1 ∧ ((u.setCell ⟨g + 2, 0, none⟩ y).setCell ⟨g + 2, 1, none⟩ z).cell? ⟨g, 1, none⟩ = some v2 ∧ ((u.setCell ⟨g + 2, 0, none⟩ y).setCell ⟨g + 2, 1, none⟩ z).cell? ⟨g + 1, 0, none⟩ = some v3 := by
  have hk : ∀ k, k ≠ g + 2 → ((u.setCell ⟨g + 2, 0, none⟩ y).setCell ⟨g + 2, 1, none⟩ z).heap[k]? = u.heap[k]? := fun k hk => by
    rw [Below.heap_setCell _ _ _ _ hk, Below.heap_setCell _ _ _ _ hk]
  exact ⟨(h.bA.keep (hk g (by omega))).c0, (h.bA.keep (hk g (by omega))).c1, (h.bB.keep (hk (g + 1) (by omega))).c0⟩
/-- A number that was made stands behind the stores into a block that is not its own. -/
theorem BothAt.nat {w0 u : World} {g : Nat} {v1 v2 v3 v4 : Value} (h : BothAt w0 u g v1 v2 v3 v4) {X : Option Addr} {q d n : Nat} (k : NatIs u X q d n) (y z : Value) : NatIs ((u.setCell ⟨g + 2, 0, none⟩ y).setCell ⟨g + 2, 1, none⟩ z) X q d n := by
  refine ⟨k.1, k.2.1, fun h0 => ?_, k.2.2.2⟩
  obtain ⟨b, off, rfl, hlt, hc⟩ := k.2.2.1 h0
  have hne : b ≠ g + 2 := by
    rintro rfl
    have h1 := hc 0 h0
    have h2 := h.bZ
    unfold BoxC at h2
    simp only [World.cell?, h2] at h1
    have h3 : off + 0 < 2 := by
      rcases Nat.lt_or_ge (off + 0) 2 with h | h
      · exact h
      · rw [Array.getElem?_eq_none (show (#[.slice none 0 0, .slice none 0 0] : Array Value).size ≤ off + 0 from h)] at h1
        cases h1
    rcases (show off + 0 = 0 ∨ off + 0 = 1 by omega) with e | e <;> rw [e] at h1 <;> cases h1
  refine ⟨b, off, rfl, by simp [World.setCell]; omega, fun j hj => ?_⟩
  rw [← hc j hj]
  refine World.cell?_of_block (a := ⟨b, off + j, none⟩) ?_
  rw [Below.heap_setCell _ _ _ _ hne, Below.heap_setCell _ _ _ _ hne]
set_option maxHeartbeats 8000000 in
theorem both_no {w : World} {A1 A2 A3 A4 : Option Addr} {q1 q2 q3 q4 c1 c2 c3 c4 m : Nat} {s : CR} (h1 : NatIs w A1 q1 c1 m) (k1 : NatIs w A3 q3 c3 s.m) (hm : nbits m ≤ 1024) (hn : nbits s.m ≤ 1024) (hg : Nat.gcd m s.m ≠ 1) :
    Calls Try.prog 17 #[.agg #[.slice A1 q1 c1, .slice A2 q2 c2], .agg #[.slice A3 q3 c3, .slice A4 q4 c4]] w (OutBothNo w) := by
  obtain ⟨W0, hW0⟩ : ∃ W0, ((w.alloc (.cells #[.slice A1 q1 c1, .slice A2 q2 c2] 40)).alloc (.cells #[.slice A3 q3 c3, .slice A4 q4 c4] 40)).alloc (.cells #[.slice none 0 0, .slice none 0 0] 40) = W0 := ⟨_, rfl⟩
  obtain ⟨g, hgs⟩ : ∃ g, w.heap.size = g := ⟨_, rfl⟩
  have hB : BothAt w W0 g (.slice A1 q1 c1) (.slice A2 q2 c2) (.slice A3 q3 c3) (.slice A4 q4 c4) := by rw [← hW0, ← hgs]; exact BothAt.new _ _ _ _ _
  have hl1 := natIs_len16 h1 hm
  have hl3 := natIs_len16 k1 hn
  have C1 := Lib.hid (bInv_no (h1.step hB.be).in_ (k1.step hB.be).in_ (.inr hg) (by omega) (by omega))
  have x1 := hB.bA.c0
  have x3 := hB.bB.c0
  have HB := Lib.hid hB
  clear h1 k1 hm hn hg hl1 hl3 hB
  go_enter Try.func17, Try.ntmps17
  go_wp2_with fail
  refine (C1.out).mono ?_
  rintro e w1 ⟨X, d, rfl, b1⟩
  have HB1 := Lib.hid (HB.out.step b1)
  have z0 := HB1.out.bZ.c0
  have z1 := HB1.out.bZ.c1
  have y0 := HB1.out.bZ.soft 0
  have y1 := HB1.out.bZ.soft 1
  clear b1 C1 x1 x3
  go_wp2_with fail
  refine bodyPost_ret (results_box21 (p := 4) (u := 5) rfl _ rfl (load_box21 (HB1.out.put _ _).1)) rfl ?_
  exact ⟨rfl, (HB1.out.put _ _).2⟩
set_option maxHeartbeats 16000000 in
theorem both_ok {w : World} {A1 A2 A3 A4 : Option Addr} {q1 q2 q3 q4 c1 c2 c3 c4 m r : Nat} {s : CR} (h1 : NatIs w A1 q1 c1 m) (h2 : NatIs w A2 q2 c2 r) (k1 : NatIs w A3 q3 c3 s.m) (k2 : NatIs w A4 q4 c4 s.r) (hm : nbits m ≤ 1024) (hr : nbits r ≤ 1024) (hn : nbits s.m ≤ 1024) (hs : s.r < s.m) (hg : Nat.gcd m s.m = 1) :
    Calls Try.prog 17 #[.agg #[.slice A1 q1 c1, .slice A2 q2 c2], .agg #[.slice A3 q3 c3, .slice A4 q4 c4]] w (OutBoth m r s w) := by
  obtain ⟨W0, hW0⟩ : ∃ W0, ((w.alloc (.cells #[.slice A1 q1 c1, .slice A2 q2 c2] 40)).alloc (.cells #[.slice A3 q3 c3, .slice A4 q4 c4] 40)).alloc (.cells #[.slice none 0 0, .slice none 0 0] 40) = W0 := ⟨_, rfl⟩
  obtain ⟨g, hgs⟩ : ∃ g, w.heap.size = g := ⟨_, rfl⟩
  have hB : BothAt w W0 g (.slice A1 q1 c1) (.slice A2 q2 c2) (.slice A3 q3 c3) (.slice A4 q4 c4) := by rw [← hW0, ← hgs]; exact BothAt.new _ _ _ _ _
  have hl1 := natIs_len16 h1 hm
  have hl2 := natIs_len16 h2 hr
  have hl3 := natIs_len16 k1 hn
  have hl4 := natIs_len16 k2 (Nat.le_trans (nbits_mono (Nat.le_of_lt hs)) hn)
  have hn0 : s.m ≠ 0 := by omega
  have HN0 := Lib.hid hn0
  have H1 := Lib.hid (h1.step hB.be)
  have H2 := Lib.hid (h2.step hB.be)
  have K1 := Lib.hid (k1.step hB.be)
  have K2 := Lib.hid (k2.step hB.be)
  have C1 := Lib.hid (bInv_ok H1.out.in_ K1.out.in_ hn0 hg (by omega) (by omega))
  have x1 := hB.bA.c0
  have x3 := hB.bB.c0
  have HB := Lib.hid hB
  have HS := Lib.hid hs
  have HN := Lib.hid hn
  clear h1 h2 k1 k2 hm hr hn hg hB hs hn0
  go_enter Try.func17, Try.ntmps17
  go_wp2_with fail
  refine (C1.out).mono ?_
  rintro e w1 ⟨X, q, d, v, rfl, Y1, hv, hvm, b1⟩
  have HB := Lib.hid (HB.out.step b1)
  have H1 := Lib.hid (H1.out.step b1)
  have H2 := Lib.hid (H2.out.step b1)
  have K1 := Lib.hid (K1.out.step b1)
  have K2 := Lib.hid (K2.out.step b1)
  have hq := natIs_len16 Y1 (Nat.le_trans (nbits_mono (Nat.le_of_lt hv)) HN.out)
  have HV := Lib.hid hvm
  have HY := Lib.hid Y1
  have C2 := Lib.hid (bMod_ok H2.out.in_ K1.out.in_ HN0.out (by omega) (by omega))
  have x2 := HB.out.bA.c1
  have x3 := HB.out.bB.c0
  clear b1 C1 x1 hv hvm Y1
  go_wp2_with fail
  refine (C2.out).mono ?_
  rintro e w2 ⟨L, ql, dl, rfl, Y2, b2⟩
  have HB := Lib.hid (HB.out.step b2)
  have H1 := Lib.hid (H1.out.step b2)
  have H2 := Lib.hid (H2.out.step b2)
  have K1 := Lib.hid (K1.out.step b2)
  have K2 := Lib.hid (K2.out.step b2)
  have HY := Lib.hid (HY.out.step b2)
  have HL := Lib.hid Y2
  have hlm := Nat.mod_lt r (Nat.pos_of_ne_zero HN0.out)
  have hql := natIs_len16 Y2 (Nat.le_trans (nbits_mono (Nat.le_of_lt hlm)) HN.out)
  have HLM := Lib.hid hlm
  have C3 := Lib.hid (bAdd K2.out.in_ K1.out.in_ (by omega))
  have x3 := HB.out.bB.c0
  have x4 := HB.out.bB.c1
  clear b2 C2 x2 hlm Y2
  go_wp2_with fail
  refine (C3.out).mono ?_
  rintro e w3 ⟨S, qs, ds, rfl, Y3, _, b3⟩
  have HB := Lib.hid (HB.out.step b3)
  have H1 := Lib.hid (H1.out.step b3)
  have H2 := Lib.hid (H2.out.step b3)
  have K1 := Lib.hid (K1.out.step b3)
  have HY := Lib.hid (HY.out.step b3)
  have hab := nbits_add s.r s.m
  have hsr := nbits_mono (Nat.le_of_lt HS.out)
  have hqs := natIs_len (K := 40) Y3 (by have := HN.out; omega)
  have C4 := Lib.hid (bSub_yes Y3.in_ (HL.out.step b3).in_ (by have := HLM.out; have := HS.out; omega))
  clear b3 C3 x4 hab hsr Y3 HL K2
  go_wp2_with fail
  refine (C4.out).mono ?_
  rintro e w4 ⟨O, qo, do_, rfl, Y4, _, b4⟩
  have HB := Lib.hid (HB.out.step b4)
  have H1 := Lib.hid (H1.out.step b4)
  have H2 := Lib.hid (H2.out.step b4)
  have K1 := Lib.hid (K1.out.step b4)
  have HY := Lib.hid (HY.out.step b4)
  obtain ⟨ow, how⟩ : ∃ ow, s.r + s.m - r % s.m = ow := ⟨_, rfl⟩
  rw [how] at Y4
  have hqo : qo ≤ 40 := natIs_len Y4 (by
    have h1 := nbits_mono (Nat.sub_le (s.r + s.m) (r % s.m))
    have h2 := nbits_add s.r s.m
    have h3 := nbits_mono (Nat.le_of_lt HS.out)
    have h4 := HN.out
    rw [how] at h1
    omega)
  have HW := Lib.hid how
  have hob := nbits_natIs Y4
  have hvb := nbits_natIs HY.out
  have HO := Lib.hid Y4
  obtain ⟨V4, hV4⟩ : ∃ V, w4.drew = V := ⟨_, rfl⟩
  have bd : Below w4.heap.size w4 V4 := by rw [← hV4]; exact drawn21 1
  have HB := Lib.hid (HB.out.step bd)
  have H1 := Lib.hid (H1.out.step bd)
  have H2 := Lib.hid (H2.out.step bd)
  have K1 := Lib.hid (K1.out.step bd)
  have C5 := Lib.hid (bMul (HO.out.step bd).in_ (HY.out.step bd).in_ (by omega) (by omega))
  have x3 := HB.out.bB.c0
  clear b4 C4 how Y4 HLM bd
  go_wp2_with fail
  refine wp_region_any (by kernel_rfl) ?_
  change wpAny _ _ _ _ _ _ _ w4.drew
  rw [hV4]
  clear hV4
  refine anyK.toAny (B := fun u => u.cell? ⟨g + 1, 0, none⟩ = some (.slice A3 q3 c3)) ?_
  refine anyK_take (i := 0) (d := 44) (v := .slice O qo do_) rfl rfl (by kernel_rfl) (by kernel_rfl) (by kernel_rfl) (fun _ _ _ h => h) ⟨by kernel_rfl, fun W hW => by go_simp⟩ ?_
  refine anyK_take (i := 1) (d := 45) (v := .slice X q d) rfl rfl (by kernel_rfl) (by kernel_rfl) (by kernel_rfl) (fun _ _ _ h => h) ⟨by kernel_rfl, fun W hW => by go_simp⟩ ?_
  refine anyK_take (i := 3) (d := 47) (v := .pointer (some ⟨g + 1, 0, none⟩)) rfl rfl (by kernel_rfl) (by kernel_rfl) (by kernel_rfl) (fun _ _ _ h => h) ⟨by kernel_rfl, fun W hW => by go_simp⟩ ?_
  refine anyK_take (i := 4) (d := 48) (v := .slice A3 q3 c3) rfl rfl (by kernel_rfl) (by kernel_rfl) (by kernel_rfl) (fun _ _ _ h => h) ⟨by kernel_rfl, fun W hW => by go_simp⟩ ?_
  refine anyK_one (i := 2) (by kernel_rfl) rfl (x3) (fun K hK => ?_)
  go_simp
  refine (C5.out).mono ?_
  rintro e w5 ⟨P, qp, dp, rfl, Y5, _, b5⟩
  have HB := Lib.hid (HB.out.step b5)
  have H1 := Lib.hid (H1.out.step b5)
  have H2 := Lib.hid (H2.out.step b5)
  have K1 := Lib.hid (K1.out.step b5)
  have hpb := nbits_mul ow v
  have hqp := natIs_len (K := 200) Y5 (by omega)
  have C6 := Lib.hid (bMod_ok Y5.in_ K1.out.in_ HN0.out (by omega) (by omega))
  have x3 := HB.out.bB.c0
  clear b5 C5 hpb hob hvb Y5 HO HY
  refine hK _ _ ?_
  clear hK K
  refine anyK_one (i := 5) (by kernel_rfl) rfl (x3) (fun K hK => ?_)
  go_simp
  refine (C6.out).mono ?_
  rintro e w6 ⟨T, qt, dt, rfl, Y6, b6⟩
  have HB := Lib.hid (HB.out.step b6)
  have H1 := Lib.hid (H1.out.step b6)
  have H2 := Lib.hid (H2.out.step b6)
  have K1 := Lib.hid (K1.out.step b6)
  obtain ⟨tm, htm⟩ : ∃ tm, ow * v % s.m = tm := ⟨_, rfl⟩
  have htl := Nat.mod_lt (ow * v) (Nat.pos_of_ne_zero HN0.out)
  rw [htm] at Y6 htl
  have hqt := natIs_len16 Y6 (Nat.le_trans (nbits_mono (Nat.le_of_lt htl)) HN.out)
  have HTM := Lib.hid htm
  have HT := Lib.hid Y6
  have x3 := HB.out.bB.c0
  clear b6 C6 htm htl Y6
  refine hK _ _ ?_
  clear hK K
  refine anyK_take (i := 6) (d := 43) (v := .tuple #[.slice T qt dt, .int .i64 0]) rfl rfl (by kernel_rfl) (by kernel_rfl) (by kernel_rfl) (fun _ _ _ h => h) ⟨by kernel_rfl, fun W hW => by go_simp⟩ ?_
  refine anyK_take (i := 7) (d := 50) (v := .slice T qt dt) rfl rfl (by kernel_rfl) (by kernel_rfl) (by kernel_rfl) (fun _ _ _ h => h) ⟨by kernel_rfl, fun W hW => by go_simp⟩ ?_
  refine anyK_take (i := 8) (d := 51) (v := .int .i64 0) rfl rfl (by kernel_rfl) (by kernel_rfl) (by kernel_rfl) (fun _ _ _ h => h) ⟨by kernel_rfl, fun W hW => by go_simp⟩ ?_
  refine anyK_one (i := 9) (by kernel_rfl) rfl (x3) (fun K hK => ?_)
  go_simp
  refine hK _ _ ?_
  clear hK K
  refine anyK_one (i := 10) (by kernel_rfl) rfl (x3) (fun K hK => ?_)
  go_simp
  refine hK _ _ ?_
  clear hK K
  refine anyK_done (by kernel_rfl) (x3) ?_
  go_step
  go_simp
  obtain ⟨V6, hV6⟩ : ∃ V, w6.drew = V := ⟨_, rfl⟩
  have bd : Below w6.heap.size w6 V6 := by rw [← hV6]; exact drawn21 1
  have HB := Lib.hid (HB.out.step bd)
  have H1 := Lib.hid (H1.out.step bd)
  have H2 := Lib.hid (H2.out.step bd)
  have K1 := Lib.hid (K1.out.step bd)
  have HT := Lib.hid (HT.out.step bd)
  have C7 := Lib.hid (bMul H1.out.in_ K1.out.in_ (by omega) (by omega))
  have hB7 : ∀ u, Below V6.heap.size V6 u → u.cell? ⟨g, 0, none⟩ = some (.slice A1 q1 c1) ∧ u.cell? ⟨g, 1, none⟩ = some (.slice A2 q2 c2) ∧ u.cell? ⟨g + 1, 0, none⟩ = some (.slice A3 q3 c3) := fun u b => ⟨(HB.out.step b).bA.c0, (HB.out.step b).bA.c1, (HB.out.step b).bB.c0⟩
  have HB7 := Lib.hid hB7
  clear bd hB7 x3
  go_wp2_with fail
  refine wp_region_any (by kernel_rfl) ?_
  change wpAny _ _ _ _ _ _ _ w6.drew
  rw [hV6]
  clear hV6
  refine anyK.toAny (B := fun u => u.cell? ⟨g, 0, none⟩ = some (.slice A1 q1 c1) ∧ u.cell? ⟨g, 1, none⟩ = some (.slice A2 q2 c2) ∧ u.cell? ⟨g + 1, 0, none⟩ = some (.slice A3 q3 c3)) ?_
  refine anyK_take (i := 0) (d := 52) (v := .pointer (some ⟨g, 0, none⟩)) rfl rfl (by kernel_rfl) (by kernel_rfl) (by kernel_rfl) (fun _ _ _ h => h) ⟨by kernel_rfl, fun W hW => by obtain ⟨hW1, hW2, hW3⟩ := hW; go_simp⟩ ?_
  refine anyK_take (i := 1) (d := 53) (v := .slice A1 q1 c1) rfl rfl (by kernel_rfl) (by kernel_rfl) (by kernel_rfl) (fun _ _ _ h => h) ⟨by kernel_rfl, fun W hW => by obtain ⟨hW1, hW2, hW3⟩ := hW; go_simp⟩ ?_
  refine anyK_take (i := 2) (d := 54) (v := .pointer (some ⟨g + 1, 0, none⟩)) rfl rfl (by kernel_rfl) (by kernel_rfl) (by kernel_rfl) (fun _ _ _ h => h) ⟨by kernel_rfl, fun W hW => by obtain ⟨hW1, hW2, hW3⟩ := hW; go_simp⟩ ?_
  refine anyK_take (i := 3) (d := 55) (v := .slice A3 q3 c3) rfl rfl (by kernel_rfl) (by kernel_rfl) (by kernel_rfl) (fun _ _ _ h => h) ⟨by kernel_rfl, fun W hW => by obtain ⟨hW1, hW2, hW3⟩ := hW; go_simp⟩ ?_
  refine anyK_take (i := 5) (d := 57) (v := .pointer (some ⟨g, 1, none⟩)) rfl rfl (by kernel_rfl) (by kernel_rfl) (by kernel_rfl) (fun _ _ _ h => h) ⟨by kernel_rfl, fun W hW => by obtain ⟨hW1, hW2, hW3⟩ := hW; go_simp⟩ ?_
  refine anyK_take (i := 6) (d := 58) (v := .slice A2 q2 c2) rfl rfl (by kernel_rfl) (by kernel_rfl) (by kernel_rfl) (fun _ _ _ h => h) ⟨by kernel_rfl, fun W hW => by obtain ⟨hW1, hW2, hW3⟩ := hW; go_simp⟩ ?_
  refine anyK_take (i := 7) (d := 59) (v := .slice T qt dt) rfl rfl (by kernel_rfl) (by kernel_rfl) (by kernel_rfl) (fun _ _ _ h => h) ⟨by kernel_rfl, fun W hW => by obtain ⟨hW1, hW2, hW3⟩ := hW; go_simp⟩ ?_
  refine anyK_take (i := 8) (d := 60) (v := .pointer (some ⟨g, 0, none⟩)) rfl rfl (by kernel_rfl) (by kernel_rfl) (by kernel_rfl) (fun _ _ _ h => h) ⟨by kernel_rfl, fun W hW => by obtain ⟨hW1, hW2, hW3⟩ := hW; go_simp⟩ ?_
  refine anyK_take (i := 9) (d := 61) (v := .slice A1 q1 c1) rfl rfl (by kernel_rfl) (by kernel_rfl) (by kernel_rfl) (fun _ _ _ h => h) ⟨by kernel_rfl, fun W hW => by obtain ⟨hW1, hW2, hW3⟩ := hW; go_simp⟩ ?_
  refine anyK_one (i := 4) (by kernel_rfl) rfl (HB7.out V6 (Below.refl _ _)) (fun K hK => ?_)
  go_simp
  refine (C7.out).mono ?_
  rintro e w7 ⟨M, qm, dm, rfl, Y7, _, b7⟩
  have BV := Lib.hid b7
  have HB := Lib.hid (HB.out.step b7)
  have H1 := Lib.hid (H1.out.step b7)
  have H2 := Lib.hid (H2.out.step b7)
  have HT := Lib.hid (HT.out.step b7)
  have HM := Lib.hid Y7
  have C8 := Lib.hid (bMul HT.out.in_ H1.out.in_ (by omega) (by omega))
  have hqu : nbits (tm * m) ≤ 64 * 200 := by
    have h1 := nbits_mul tm m
    have h2 := nbits_natIs HT.out
    have h3 := nbits_natIs H1.out
    omega
  clear b7 C7 Y7
  refine hK _ _ ?_
  clear hK K
  refine anyK_one (i := 10) (by kernel_rfl) rfl (HB7.out w7 BV.out) (fun K hK => ?_)
  go_simp
  refine (C8.out).mono ?_
  rintro e w8 ⟨U, qu, du, rfl, Y8, _, b8⟩
  have BV := Lib.hid (below_step BV.out b8)
  have HB := Lib.hid (HB.out.step b8)
  have H2 := Lib.hid (H2.out.step b8)
  have HM := Lib.hid (HM.out.step b8)
  have hqu2 := natIs_len Y8 hqu
  have C9 := Lib.hid (bAdd H2.out.in_ Y8.in_ (by omega))
  clear b8 C8 Y8
  refine hK _ _ ?_
  clear hK K
  refine anyK_one (i := 11) (by kernel_rfl) rfl (HB7.out w8 BV.out) (fun K hK => ?_)
  go_simp
  refine (C9.out).mono ?_
  rintro e w9 ⟨Z, qz, dz, rfl, Y9, _, b9⟩
  have BV := Lib.hid (below_step BV.out b9)
  have HB := Lib.hid (HB.out.step b9)
  have HM := Lib.hid (HM.out.step b9)
  have HZ := Lib.hid Y9
  have z0 := HB.out.bZ.c0
  have z1 := HB.out.bZ.c1
  have y0 := HB.out.bZ.soft 0
  have y1 := HB.out.bZ.soft 1
  clear b9 C9 Y9
  refine hK _ _ ?_
  clear hK K
  refine anyK_one (i := 12) (by kernel_rfl) rfl (HB7.out w9 BV.out) (fun K hK => ?_)
  go_simp
  refine hK _ _ ?_
  clear hK K
  refine anyK_one (i := 13) (by kernel_rfl) rfl (HB7.out w9 BV.out) (fun K hK => ?_)
  go_simp
  have hP := (HB.out.put (.slice M qm dm) (.slice Z qz dz)).1
  have hP2 := (HB.out.put (.slice M qm dm) (.slice Z qz dz)).2
  have hM2 := HB.out.nat HM.out (.slice M qm dm) (.slice Z qz dz)
  have hZ2 := HB.out.nat HZ.out (.slice M qm dm) (.slice Z qz dz)
  have hAB := HB.out.putAB (.slice M qm dm) (.slice Z qz dz)
  generalize ((w9.setCell ⟨g + 2, 0, none⟩ (.slice M qm dm)).setCell ⟨g + 2, 1, none⟩ (.slice Z qz dz)) = w10 at *
  have HP := Lib.hid hP
  have HP2 := Lib.hid hP2
  have HM2 := Lib.hid hM2
  have HZ2 := Lib.hid hZ2
  have HAB := Lib.hid hAB
  clear hP hP2 hM2 hZ2 hAB z0 z1 y0 y1
  refine hK _ _ ?_
  clear hK K
  refine anyK_one (i := 14) (by kernel_rfl) rfl (HAB.out) (fun K hK => ?_)
  go_simp
  refine hK _ _ ?_
  clear hK K
  refine anyK_done (by kernel_rfl) (HAB.out) ?_
  go_step
  go_simp
  go_wp2_with fail
  refine bodyPost_ret (results_box21 (p := 4) (u := 5) rfl _ rfl (load_box21 HP.out)) rfl ?_
  refine ⟨_, _, _, _, _, _, v, rfl, HM2.out, ?_, HV.out, HP2.out⟩
  have e : bothR m r s v = r + tm * m := by unfold bothR; rw [HW.out, HTM.out]
  rw [e]
  exact HZ2.out
end Go.Proofs.Ytgmolbiicclcaaa

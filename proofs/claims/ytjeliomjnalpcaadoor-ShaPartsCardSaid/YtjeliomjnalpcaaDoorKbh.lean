/- Several texts in one; each begins with a remark that says what it shows and on which conditions. -/
import Derived.Test.YtjeliomjnalpcaaDoorKbf
import Derived.Test.YtjeliomjnalpcaaDoorKbg
import Derived.Deep.LoopGhost
import Derived.Deep.RegionWith
import Derived.RangeFuncBox
/- root.descend, and the steps of Sqrt and Cbrt. Conditions: as typed (lengths that fit a machine). -/
namespace Go.Proofs.YtjeliomjnalpcaaDoor
open Go.RowKit
set_option maxRecDepth 20000
theorem natIs_len6 {w : World} {X : Option Addr} {q d V K : Nat} (h : NatIs w X q d V) (hV : nbits V ≤ 64 * K) : q ≤ K := by
  have h1 := h.1
  rw [length_wd] at h1
  omega
/-- A number is answered: that it lies in new memory is not said. -/
def OutI (N : Nat) (w : World) (e : Ending) (w' : World) : Prop := ∃ X q d, e = .returned (.slice X q d) ∧ NatIs w' X q d N ∧ True ∧ Below w.heap.size w w'
theorem shlS_nat (M k : Nat) (h : k ≤ 65536) : shlS M (k : Int) = 2 ^ k * M := by
  unfold shlS
  rw [if_pos (by omega), Int.toNat_natCast]
theorem shrS_nat (M k : Nat) (h : k ≤ 65536) : shrS M (k : Int) = M / 2 ^ k := by
  unfold shrS
  rw [if_pos (by omega), Int.toNat_natCast]
theorem box_kept {w w' : World} {G t : Nat} {v : Value} (h : Boxed w G t v) (b : Below w.heap.size w w') : Boxed w' G t v := (b.block G h.lt).trans h
theorem natIs_none (w : World) (X : Option Addr) (d : Nat) : NatIs w X 0 d 0 := ⟨by rw [length_wd, nbits_zero], by omega, by rw [show wd 0 = [] from List.eq_nil_of_length_eq_zero (by rw [length_wd, nbits_zero])]; exact Rd.nil, Nat.zero_le _⟩
/-- Div, by 0 or not. -/
theorem bDiv_how {w : World} {A A2 : Option Addr} {n m c c2 M N : Nat} (h : NatIn w A n c M) (k : NatIn w A2 m c2 N) (hs : n ≤ 10000) (hs2 : m ≤ 10000) : Calls Tryd.prog 53 #[.slice A n c, .slice A2 m c2] w fun e w' =>
    ∃ X q d y z, e = .returned (.tuple #[.slice X q d, y, z]) ∧ NatIs w' X q d (M / N) ∧ Below w.heap.size w w' := by
  by_cases h0 : N = 0
  · refine (bDiv_zero h k h0 hs hs2).mono ?_
    rintro e w' ⟨X, d, Y, f, rfl, hb⟩
    exact ⟨X, 0, d, _, _, rfl, by rw [h0, Nat.div_zero]; exact natIs_none _ _ _, hb⟩
  · refine (bDiv_ok h k h0 hs hs2).mono ?_
    rintro e w' ⟨X, q, d, Y, r, f, rfl, h1, _, hb⟩
    exact ⟨X, q, d, _, _, rfl, h1, hb⟩
section
variable {u : World} {G t n c a : Nat} {A : Option Addr}
theorem step2_any (hb : Boxed u G t (.slice A n c)) (h : NatIn u A n c a) (hs : n ≤ 9000) {X : Option Addr} {q d x : Nat} (k : NatIn u X q d x) (hq : q ≤ 9000) :
    Calls Tryd.prog 52 #[.slice X q d, .pointer (some ⟨G, 0, none⟩)] u (OutI (st2 a x) u) := by
  have hc := hb.cell
  have hf := hb.frozen
  have D := Lib.hid (bDiv_how h k (by omega) (by omega))
  have K := Lib.hid k
  have hnb := h.bits
  have hdb := nbits_mono (Nat.div_le_self a x)
  clear h k hb
  go_enter Tryd.func52, Tryd.ntmps52
  go_wp2_with fail
  refine (D.out).mono ?_
  rintro e w1 ⟨Y, r, f, y, z, rfl, h1, b1⟩
  have hrl := natIs_len6 h1 (K := 9000) (by omega)
  have S := Lib.hid (bAdd (K.out.step b1) h1.in_ (by omega))
  go_wp2_with fail
  refine (S.out).mono ?_
  rintro e w2 ⟨Z, s, g, rfl, h2, _, b2⟩
  have B2 := below_step b1 b2
  have T := bShr h2.in_ ((1 : Nat) : Int)
  rw [shrS_nat _ 1 (by omega), Nat.pow_one] at T
  have HT := Lib.hid T
  clear T h2 S D
  go_wp2_with fail
  refine (HT.out).mono ?_
  rintro e w3 ⟨Z3, s3, g3, rfl, h3, _, b3⟩
  go_wp2_with fail
  go_ret
  exact ⟨Z3, s3, g3, rfl, h3, trivial, below_step B2 b3⟩
set_option maxHeartbeats 1000000 in
theorem step3_any (hb : Boxed u G t (.slice A n c)) (h : NatIn u A n c a) (hs : n ≤ 4500) {X : Option Addr} {q d x : Nat} (k : NatIs u X q d x) (hq : q ≤ 4500) :
    Calls Tryd.prog 55 #[.slice X q d, .pointer (some ⟨G, 0, none⟩)] u (OutI (st3 a x) u) := by
  have bd : Below u.heap.size u u.drew := (Drawn.more 1).below _
  have hc := (box_kept hb bd).cell
  have hf := (box_kept hb bd).frozen
  have hnb := h.bits
  have hxb := k.in_.bits
  have hdb := nbits_mono (Nat.div_le_self a (x * x))
  have hxx := nbits_mul x x
  have HS := Lib.hid (bSquare (k.in_.step bd) (by omega))
  have HA := Lib.hid (h.step bd)
  have HB := Lib.hid (box_kept hb bd)
  have HK := Lib.hid (k.step bd)
  clear h k hb
  go_enter Tryd.func55, Tryd.ntmps55
  go_wp2_with fail
  go_region_with (first
    | (go_at_call 14; (with_reducible refine (HS.out).mono ?_); rintro e w1 ⟨Y, r, f, rfl, hY, _, b1⟩; have c1 := (box_kept HB.out b1).cell; have hr := natIs_len6 hY (K := 9000) (by omega); have HD := Lib.hid (bDiv_how (HA.out.step b1) hY.in_ (by omega) (by omega)); clear hY)
    | (go_at_call 53; (with_reducible refine (HD.out).mono ?_); rintro e w2 ⟨Z, s, g, y, z, rfl, h2, b2⟩; have c2 := (box_kept (box_kept HB.out b1) b2).cell))
  all_goals
    have B2 := below_step b1 b2
    have hsl := natIs_len6 h2 (K := 4500) (by omega)
    have T := bShl (HK.out.step B2).in_ ((1 : Nat) : Int) (by omega)
    rw [shlS_nat _ 1 (by omega), Nat.pow_one] at T
    have HT := Lib.hid T
    have H2 := Lib.hid h2
    clear T h2 HS HD HK
    go_wp2_with fail
    refine (HT.out).mono ?_
    rintro e w3 ⟨X3, q3, d3, rfl, h3, _, b3⟩
    have hx2 := nbits_shl x 1
    rw [Nat.pow_one] at hx2
    have hq3 := natIs_len6 h3 (K := 4501) (by omega)
    have h2s := H2.out.step b3
    have HU := Lib.hid (bAdd h3.in_ h2s.in_ (by omega))
    clear h3 h2s HT
    go_wp2_with fail
    refine (HU.out).mono ?_
    rintro e w4 ⟨X4, q4, d4, rfl, h4, _, b4⟩
    have ha := nbits_add (2 * x) (a / (x * x))
    have hq4 := natIs_len6 h4 (K := 9002) (by omega)
    have HV := Lib.hid (bWord_ok h4.in_ (by omega) 3 (by omega) (by omega))
    clear h4 HU
    go_wp2_with fail
    refine (HV.out).mono ?_
    rintro e w5 ⟨X5, q5, d5, rfl, h5, b5⟩
    go_wp2_with fail
    go_ret
    exact ⟨X5, q5, d5, rfl, h5, trivial, below_step (below_step (below_step (bd.trans (B2.mono bd.size)) b3) b4) b5⟩
end
theorem cmp_geq {w : World} {A A2 : Option Addr} {n m c c2 M N : Nat} (h : NatIn w A n c M) (k : NatIn w A2 m c2 N) (hle : N ≤ M) : Calls Tryd.prog 16 #[.slice A n c, .slice A2 m c2] w fun e w' => ∃ t : Int, e = .returned (.int .i64 t) ∧ (0 ≤ t ∧ t ≤ 1) ∧ Below w.heap.size w w' :=
  Calls.mono (bCmp h k) fun e w' ⟨he, hb⟩ => ⟨_, he, (by unfold cmpS; split <;> try split
                                                         all_goals omega), hb⟩
/-- Steps down, till one that is no less. -/
theorem descend2_any (G L R : Nat) (st : Nat → Nat) (hd : Down R st) (A : Option Addr) (n c x : Nat) (w : World) (h : NatIs w A n c x) (hx : R ≤ x) (hxL : nbits x ≤ 64 * L)
    (hst : ∀ u A n c x, Below w.heap.size w u → NatIs u A n c x → n ≤ L → Calls Tryd.prog 52 #[.slice A n c, .pointer (some ⟨G, 0, none⟩)] u (OutI (st x) u)) :
    Calls Tryd.prog 50 #[.slice A n c, .func (.func 52) #[] #[.pointer (some ⟨G, 0, none⟩)]] w (OutI R w) := by
  have HS := Lib.hid hst
  clear hst
  go_enter Tryd.func50, Tryd.ntmps50
  go_wp2_with fail
  go_step3
  go_wp2_with fail
  go_step3
  go_wp2_with fail
  go_loopg [0] x (fun k av wr => ∃ (A : Option Addr) (n c y : Nat), av = .slice A n c ∧ NatIs wr A n c y ∧ y ≤ k ∧ R ≤ y ∧ nbits y ≤ 64 * L ∧ Below w.heap.size w wr)
  case atStart => exact ⟨A, n, c, x, rfl, h, Nat.le_refl _, hx, hxL, Below.refl _ _⟩
  case round =>
    clear h hx
    obtain ⟨A, n, c, y, rfl, h, hyk, hy, hyL, hB⟩ := hrel
    have hnL := natIs_len6 h hyL
    have HT := Lib.hid (HS.out wr A n c y hB h hnL)
    have H := Lib.hid h
    clear h
    go_wp2_with fail
    refine (HT.out).mono ?_
    rintro e w1 ⟨X, q, d, rfl, h1, _, b1⟩
    have B1 := hB.trans (b1.mono hB.size)
    have H1 := Lib.hid h1
    have hd1 := nbits_mono (show st y ≤ st y by omega)
    by_cases hyR : R < y
    · have hl := hd.less y hyR
      have HC := Lib.hid (cmp_less h1.in_ (H.out.step b1).in_ hl)
      have hb1 := nbits_mono (Nat.le_of_lt hl)
      have HM := Lib.hid (hd.more y hy)
      clear h1 HT HS hd hd1
      go_wp2_with fail
      refine (HC.out).mono ?_
      rintro e w2 ⟨rfl, b2⟩
      have B2 := B1.trans (b2.mono B1.size)
      go_wp2_with fail
      go_roundg (st y)
      case rel => exact ⟨X, q, d, st y, rfl, H1.out.step b2, Nat.le_refl _, HM.out, by omega, B2⟩
      case measure => omega
    · obtain rfl : y = R := by omega
      have HC := Lib.hid (cmp_geq h1.in_ (H.out.step b1).in_ (hd.more y hy))
      clear h1 HT HS hd hd1
      go_wp2_with fail
      refine (HC.out).mono ?_
      rintro e w2 ⟨t, rfl, ⟨ht, _⟩, b2⟩
      have B2 := B1.trans (b2.mono B1.size)
      have H2 := Lib.hid ((H.out.step b1).step b2)
      go_wp2_with fail
      rw [Exit.noGoto_ret]
      go_ret
      exact ⟨A, n, c, rfl, H2.out, trivial, B2⟩
theorem descend3_any (G L R : Nat) (st : Nat → Nat) (hd : Down R st) (A : Option Addr) (n c x : Nat) (w : World) (h : NatIs w A n c x) (hx : R ≤ x) (hxL : nbits x ≤ 64 * L)
    (hst : ∀ u A n c x, Below w.heap.size w u → NatIs u A n c x → n ≤ L → Calls Tryd.prog 55 #[.slice A n c, .pointer (some ⟨G, 0, none⟩)] u (OutI (st x) u)) :
    Calls Tryd.prog 50 #[.slice A n c, .func (.func 55) #[] #[.pointer (some ⟨G, 0, none⟩)]] w (OutI R w) := by
  have HS := Lib.hid hst
  clear hst
  go_enter Tryd.func50, Tryd.ntmps50
  go_wp2_with fail
  go_step3
  go_wp2_with fail
  go_step3
  go_wp2_with fail
  go_loopg [0] x (fun k av wr => ∃ (A : Option Addr) (n c y : Nat), av = .slice A n c ∧ NatIs wr A n c y ∧ y ≤ k ∧ R ≤ y ∧ nbits y ≤ 64 * L ∧ Below w.heap.size w wr)
  case atStart => exact ⟨A, n, c, x, rfl, h, Nat.le_refl _, hx, hxL, Below.refl _ _⟩
  case round =>
    clear h hx
    obtain ⟨A, n, c, y, rfl, h, hyk, hy, hyL, hB⟩ := hrel
    have hnL := natIs_len6 h hyL
    have HT := Lib.hid (HS.out wr A n c y hB h hnL)
    have H := Lib.hid h
    clear h
    go_wp2_with fail
    refine (HT.out).mono ?_
    rintro e w1 ⟨X, q, d, rfl, h1, _, b1⟩
    have B1 := hB.trans (b1.mono hB.size)
    have H1 := Lib.hid h1
    have hd1 := nbits_mono (show st y ≤ st y by omega)
    by_cases hyR : R < y
    · have hl := hd.less y hyR
      have HC := Lib.hid (cmp_less h1.in_ (H.out.step b1).in_ hl)
      have hb1 := nbits_mono (Nat.le_of_lt hl)
      have HM := Lib.hid (hd.more y hy)
      clear h1 HT HS hd hd1
      go_wp2_with fail
      refine (HC.out).mono ?_
      rintro e w2 ⟨rfl, b2⟩
      have B2 := B1.trans (b2.mono B1.size)
      go_wp2_with fail
      go_roundg (st y)
      case rel => exact ⟨X, q, d, st y, rfl, H1.out.step b2, Nat.le_refl _, HM.out, by omega, B2⟩
      case measure => omega
    · obtain rfl : y = R := by omega
      have HC := Lib.hid (cmp_geq h1.in_ (H.out.step b1).in_ (hd.more y hy))
      clear h1 HT HS hd hd1
      go_wp2_with fail
      refine (HC.out).mono ?_
      rintro e w2 ⟨t, rfl, ⟨ht, _⟩, b2⟩
      have B2 := B1.trans (b2.mono B1.size)
      have H2 := Lib.hid ((H.out.step b1).step b2)
      go_wp2_with fail
      rw [Exit.noGoto_ret]
      go_ret
      exact ⟨A, n, c, rfl, H2.out, trivial, B2⟩
end Go.Proofs.YtjeliomjnalpcaaDoor

/- Several texts in one; each begins with a remark that says what it shows and on which conditions. -/
import Derived.Test.YtekgoceainibaaaKb
import Derived.Deep.LoopGhost
import Derived.Deep.RegionWith
import Derived.RangeFuncBox
import Derived.WalkKit
import Derived.ProofKit
import Derived.OpenShut
import Derived.ShutString
import Derived.ChangeOld
import Derived.Below
/- root.descend, and the steps of Sqrt and Cbrt. Conditions: as typed (lengths that fit a machine). -/
namespace Go.Proofs.Ytekgoceainibaaa
open Go.RowKit
set_option maxRecDepth 20000
theorem natIs_len6 {w : World} {X : Option Addr} {q d V K : Nat} (h : NatIs w X q d V) (hV : nbits V ≤ 64 * K) : q ≤ K := by
  have h1 := h.1
  rw [length_wd] at h1
  omega
/-- A number is answered: that it lies in new memory is not said. -/
def OutI (N : Nat) (w : World) (e : Ending) (w' : World) : Prop := ∃ X q d, e = .returned (.slice X q d) ∧ NatIs w' X q d N ∧ True ∧ Below w.heap.size w w'
theorem shlS_nat (M k : Nat) (h : k ≤ 65536) : shlS M (k : Int) = 2 ^ k * M := by
  unfold shlS
  rw [if_pos (by omega), Int.toNat_natCast]
theorem shrS_nat (M k : Nat) (h : k ≤ 65536) : shrS M (k : Int) = M / 2 ^ k := by
  unfold shrS
  rw [if_pos (by omega), Int.toNat_natCast]
theorem box_kept {w w' : World} {G t : Nat} {v : Value} (h : Boxed w G t v) (b : Below w.heap.size w w') : Boxed w' G t v := (b.block G h.lt).trans h
theorem natIs_none (w : World) (X : Option Addr) (d : Nat) : NatIs w X 0 d 0 := ⟨by rw [length_wd, nbits_zero], by omega, by rw [show wd 0 = [] from List.eq_nil_of_length_eq_zero (by rw [length_wd, nbits_zero])]; exact Rd.nil, Nat.zero_le _⟩
/-- Div, by 0 or not. -/
theorem bDiv_how {w : World} {A A2 : Option Addr} {n m c c2 M N : Nat} (h : NatIn w A n c M) (k : NatIn w A2 m c2 N) (hs : n ≤ 10000) (hs2 : m ≤ 10000) : Calls Try.prog 28 #[.slice A n c, .slice A2 m c2] w fun e w' =>
    ∃ X q d y z, e = .returned (.tuple #[.slice X q d, y, z]) ∧ NatIs w' X q d (M / N) ∧ Below w.heap.size w w' := by
  by_cases h0 : N = 0
  · refine (bDiv_zero h k h0 hs hs2).mono ?_
    rintro e w' ⟨X, d, Y, f, rfl, hb⟩
    exact ⟨X, 0, d, _, _, rfl, by rw [h0, Nat.div_zero]; exact natIs_none _ _ _, hb⟩
  · refine (bDiv_ok h k h0 hs hs2).mono ?_
    rintro e w' ⟨X, q, d, Y, r, f, rfl, h1, _, hb⟩
    exact ⟨X, q, d, _, _, rfl, h1, hb⟩
section
variable {u : World} {G t n c a : Nat} {A : Option Addr}
theorem step2_any (hb : Boxed u G t (.slice A n c)) (h : NatIn u A n c a) (hs : n ≤ 9000) {X : Option Addr} {q d x : Nat} (k : NatIn u X q d x) (hq : q ≤ 9000) :
    Calls Try.prog 27 #[.slice X q d, .pointer (some ⟨G, 0, none⟩)] u (OutI (st2 a x) u) := by
  have hc := hb.cell
  have hf := hb.frozen
  have D := Lib.hid (bDiv_how h k (by omega) (by omega))
  have K := Lib.hid k
  have hnb := h.bits
  have hdb := nbits_mono (Nat.div_le_self a x)
  clear h k hb
  go_enter Try.func27, Try.ntmps27
  go_wp2_with fail
  refine (D.out).mono ?_
  rintro e w1 ⟨Y, r, f, y, z, rfl, h1, b1⟩
  have hrl := natIs_len6 h1 (K := 9000) (by omega)
  have S := Lib.hid (bAdd (K.out.step b1) h1.in_ (by omega))
  go_wp2_with fail
  refine (S.out).mono ?_
  rintro e w2 ⟨Z, s, g, rfl, h2, _, b2⟩
  have B2 := below_step b1 b2
  have T := bShr h2.in_ ((1 : Nat) : Int)
  rw [shrS_nat _ 1 (by omega), Nat.pow_one] at T
  have HT := Lib.hid T
  clear T h2 S D
  go_wp2_with fail
  refine (HT.out).mono ?_
  rintro e w3 ⟨Z3, s3, g3, rfl, h3, _, b3⟩
  go_wp2_with fail
  go_ret
  exact ⟨Z3, s3, g3, rfl, h3, trivial, below_step B2 b3⟩
set_option maxHeartbeats 1000000 in
theorem step3_any (hb : Boxed u G t (.slice A n c)) (h : NatIn u A n c a) (hs : n ≤ 4500) {X : Option Addr} {q d x : Nat} (k : NatIs u X q d x) (hq : q ≤ 4500) :
    Calls Try.prog 30 #[.slice X q d, .pointer (some ⟨G, 0, none⟩)] u (OutI (st3 a x) u) := by
  have bd : Below u.heap.size u u.drew := (Drawn.more 1).below _
  have hc := (box_kept hb bd).cell
  have hf := (box_kept hb bd).frozen
  have hnb := h.bits
  have hxb := k.in_.bits
  have hdb := nbits_mono (Nat.div_le_self a (x * x))
  have hxx := nbits_mul x x
  have HS := Lib.hid (bSquare (k.in_.step bd) (by omega))
  have HA := Lib.hid (h.step bd)
  have HB := Lib.hid (box_kept hb bd)
  have HK := Lib.hid (k.step bd)
  clear h k hb
  go_enter Try.func30, Try.ntmps30
  go_wp2_with fail
  go_region_with (first
    | (go_at_call 22; (with_reducible refine (HS.out).mono ?_); rintro e w1 ⟨Y, r, f, rfl, hY, _, b1⟩; have c1 := (box_kept HB.out b1).cell; have hr := natIs_len6 hY (K := 9000) (by omega); have HD := Lib.hid (bDiv_how (HA.out.step b1) hY.in_ (by omega) (by omega)); clear hY)
    | (go_at_call 28; (with_reducible refine (HD.out).mono ?_); rintro e w2 ⟨Z, s, g, y, z, rfl, h2, b2⟩; have c2 := (box_kept (box_kept HB.out b1) b2).cell))
  all_goals
    have B2 := below_step b1 b2
    have hsl := natIs_len6 h2 (K := 4500) (by omega)
    have T := bShl (HK.out.step B2).in_ ((1 : Nat) : Int) (by omega)
    rw [shlS_nat _ 1 (by omega), Nat.pow_one] at T
    have HT := Lib.hid T
    have H2 := Lib.hid h2
    clear T h2 HS HD HK
    go_wp2_with fail
    refine (HT.out).mono ?_
    rintro e w3 ⟨X3, q3, d3, rfl, h3, _, b3⟩
    have hx2 := nbits_shl x 1
    rw [Nat.pow_one] at hx2
    have hq3 := natIs_len6 h3 (K := 4501) (by omega)
    have h2s := H2.out.step b3
    have HU := Lib.hid (bAdd h3.in_ h2s.in_ (by omega))
    clear h3 h2s HT
    go_wp2_with fail
    refine (HU.out).mono ?_
    rintro e w4 ⟨X4, q4, d4, rfl, h4, _, b4⟩
    have ha := nbits_add (2 * x) (a / (x * x))
    have hq4 := natIs_len6 h4 (K := 9002) (by omega)
    have HV := Lib.hid (bWord_ok h4.in_ (by omega) 3 (by omega) (by omega))
    clear h4 HU
    go_wp2_with fail
    refine (HV.out).mono ?_
    rintro e w5 ⟨X5, q5, d5, rfl, h5, b5⟩
    go_wp2_with fail
    go_ret
    exact ⟨X5, q5, d5, rfl, h5, trivial, below_step (below_step (below_step (bd.trans (B2.mono bd.size)) b3) b4) b5⟩
end
theorem cmp_geq {w : World} {A A2 : Option Addr} {n m c c2 M N : Nat} (h : NatIn w A n c M) (k : NatIn w A2 m c2 N) (hle : N ≤ M) : Calls Try.prog 21 #[.slice A n c, .slice A2 m c2] w fun e w' => ∃ t : Int, e = .returned (.int .i64 t) ∧ (0 ≤ t ∧ t ≤ 1) ∧ Below w.heap.size w w' :=
  Calls.mono (bCmp h k) fun e w' ⟨he, hb⟩ => ⟨_, he, (by unfold cmpS; split <;> try split
                                                         all_goals omega), hb⟩
/-- Steps down, till one that is no less. -/
theorem descend2_any (G L R : Nat) (st : Nat → Nat) (hd : Down R st) (A : Option Addr) (n c x : Nat) (w : World) (h : NatIs w A n c x) (hx : R ≤ x) (hxL : nbits x ≤ 64 * L)
    (hst : ∀ u A n c x, Below w.heap.size w u → NatIs u A n c x → n ≤ L → Calls Try.prog 27 #[.slice A n c, .pointer (some ⟨G, 0, none⟩)] u (OutI (st x) u)) :
    Calls Try.prog 25 #[.slice A n c, .func (.func 27) #[] #[.pointer (some ⟨G, 0, none⟩)]] w (OutI R w) := by
  have HS := Lib.hid hst
  clear hst
  go_enter Try.func25, Try.ntmps25
  go_wp2_with fail
  go_step3
  go_wp2_with fail
  go_step3
  go_wp2_with fail
  go_loopg [0] x (fun k av wr => ∃ (A : Option Addr) (n c y : Nat), av = .slice A n c ∧ NatIs wr A n c y ∧ y ≤ k ∧ R ≤ y ∧ nbits y ≤ 64 * L ∧ Below w.heap.size w wr)
  case atStart => exact ⟨A, n, c, x, rfl, h, Nat.le_refl _, hx, hxL, Below.refl _ _⟩
  case round =>
    clear h hx
    obtain ⟨A, n, c, y, rfl, h, hyk, hy, hyL, hB⟩ := hrel
    have hnL := natIs_len6 h hyL
    have HT := Lib.hid (HS.out wr A n c y hB h hnL)
    have H := Lib.hid h
    clear h
    go_wp2_with fail
    refine (HT.out).mono ?_
    rintro e w1 ⟨X, q, d, rfl, h1, _, b1⟩
    have B1 := hB.trans (b1.mono hB.size)
    have H1 := Lib.hid h1
    have hd1 := nbits_mono (show st y ≤ st y by omega)
    by_cases hyR : R < y
    · have hl := hd.less y hyR
      have HC := Lib.hid (cmp_less h1.in_ (H.out.step b1).in_ hl)
      have hb1 := nbits_mono (Nat.le_of_lt hl)
      have HM := Lib.hid (hd.more y hy)
      clear h1 HT HS hd hd1
      go_wp2_with fail
      refine (HC.out).mono ?_
      rintro e w2 ⟨rfl, b2⟩
      have B2 := B1.trans (b2.mono B1.size)
      go_wp2_with fail
      go_roundg (st y)
      case rel => exact ⟨X, q, d, st y, rfl, H1.out.step b2, Nat.le_refl _, HM.out, by omega, B2⟩
      case measure => omega
    · obtain rfl : y = R := by omega
      have HC := Lib.hid (cmp_geq h1.in_ (H.out.step b1).in_ (hd.more y hy))
      clear h1 HT HS hd hd1
      go_wp2_with fail
      refine (HC.out).mono ?_
      rintro e w2 ⟨t, rfl, ⟨ht, _⟩, b2⟩
      have B2 := B1.trans (b2.mono B1.size)
      have H2 := Lib.hid ((H.out.step b1).step b2)
      go_wp2_with fail
      rw [Exit.noGoto_ret]
      go_ret
      exact ⟨A, n, c, rfl, H2.out, trivial, B2⟩
theorem descend3_any (G L R : Nat) (st : Nat → Nat) (hd : Down R st) (A : Option Addr) (n c x : Nat) (w : World) (h : NatIs w A n c x) (hx : R ≤ x) (hxL : nbits x ≤ 64 * L)
    (hst : ∀ u A n c x, Below w.heap.size w u → NatIs u A n c x → n ≤ L → Calls Try.prog 30 #[.slice A n c, .pointer (some ⟨G, 0, none⟩)] u (OutI (st x) u)) :
    Calls Try.prog 25 #[.slice A n c, .func (.func 30) #[] #[.pointer (some ⟨G, 0, none⟩)]] w (OutI R w) := by
  have HS := Lib.hid hst
  clear hst
  go_enter Try.func25, Try.ntmps25
  go_wp2_with fail
  go_step3
  go_wp2_with fail
  go_step3
  go_wp2_with fail
  go_loopg [0] x (fun k av wr => ∃ (A : Option Addr) (n c y : Nat), av = .slice A n c ∧ NatIs wr A n c y ∧ y ≤ k ∧ R ≤ y ∧ nbits y ≤ 64 * L ∧ Below w.heap.size w wr)
  case atStart => exact ⟨A, n, c, x, rfl, h, Nat.le_refl _, hx, hxL, Below.refl _ _⟩
  case round =>
    clear h hx
    obtain ⟨A, n, c, y, rfl, h, hyk, hy, hyL, hB⟩ := hrel
    have hnL := natIs_len6 h hyL
    have HT := Lib.hid (HS.out wr A n c y hB h hnL)
    have H := Lib.hid h
    clear h
    go_wp2_with fail
    refine (HT.out).mono ?_
    rintro e w1 ⟨X, q, d, rfl, h1, _, b1⟩
    have B1 := hB.trans (b1.mono hB.size)
    have H1 := Lib.hid h1
    have hd1 := nbits_mono (show st y ≤ st y by omega)
    by_cases hyR : R < y
    · have hl := hd.less y hyR
      have HC := Lib.hid (cmp_less h1.in_ (H.out.step b1).in_ hl)
      have hb1 := nbits_mono (Nat.le_of_lt hl)
      have HM := Lib.hid (hd.more y hy)
      clear h1 HT HS hd hd1
      go_wp2_with fail
      refine (HC.out).mono ?_
      rintro e w2 ⟨rfl, b2⟩
      have B2 := B1.trans (b2.mono B1.size)
      go_wp2_with fail
      go_roundg (st y)
      case rel => exact ⟨X, q, d, st y, rfl, H1.out.step b2, Nat.le_refl _, HM.out, by omega, B2⟩
      case measure => omega
    · obtain rfl : y = R := by omega
      have HC := Lib.hid (cmp_geq h1.in_ (H.out.step b1).in_ (hd.more y hy))
      clear h1 HT HS hd hd1
      go_wp2_with fail
      refine (HC.out).mono ?_
      rintro e w2 ⟨t, rfl, ⟨ht, _⟩, b2⟩
      have B2 := B1.trans (b2.mono B1.size)
      have H2 := Lib.hid ((H.out.step b1).step b2)
      go_wp2_with fail
      rw [Exit.noGoto_ret]
      go_ret
      exact ⟨A, n, c, rfl, H2.out, trivial, B2⟩
end Go.Proofs.Ytekgoceainibaaa
/- root.above, Sqrt, Cbrt, IsSquare. Conditions: as typed (lengths that fit a machine). -/
namespace Go.Proofs.Ytekgoceainibaaa
open Go.RowKit
set_option maxRecDepth 20000
/-- What Sqrt is held to for less than N words. -/
def RootTo2 (N : Nat) : Prop := ∀ (A : Option Addr) (n c M R : Nat) (w : World), NatIn w A n c M → n < N → n ≤ 4000 → IsRoot 2 M R → Calls Try.prog 9 #[.slice A n c] w (OutI R w)
/-- What Cbrt is held to for less than N words. -/
def RootTo3 (N : Nat) : Prop := ∀ (A : Option Addr) (n c M R : Nat) (w : World), NatIn w A n c M → n < N → n ≤ 4000 → IsRoot 3 M R → Calls Try.prog 10 #[.slice A n c] w (OutI R w)
/-- A number is answered whose power is above M. -/
def OutAbove (p M n : Nat) (w : World) (e : Ending) (w' : World) : Prop := ∃ X q d x, e = .returned (.slice X q d) ∧ NatIs w' X q d x ∧ M < x ^ p ∧ nbits x ≤ 64 * n + 64 ∧ Below w.heap.size w w'
theorem natIn_drop {w : World} {A : Option Addr} {n c M i : Nat} (h : NatIn w A n c M) (hi : i < n) : NatIn w (A.map (·.add i)) (n - i) (c - i) (M / 18446744073709551616 ^ i) := by
  obtain ⟨l, rfl, rfl, h3, h4, h5, h6⟩ := h
  have hr := h5.drop (i := i) h6
  rw [if_neg (by omega)] at hr
  have hp := natOf_parts l i
  have hlt : natOf (l.take i) < 18446744073709551616 ^ i := by
    have h1 := natOf_lt (l.take i) (fun x hx => h3 x (List.mem_of_mem_take hx))
    have h2 : (l.take i).length ≤ i := by rw [List.length_take]; omega
    exact Nat.lt_of_lt_of_le h1 (Nat.pow_le_pow_right (by omega) h2)
  refine ⟨l.drop i, by simp, ?_, fun x hx => h3 x (List.mem_of_mem_drop hx), by omega, hr, by omega⟩
  rw [hp, Nat.add_mul_div_left _ _ (Nat.pow_pos (by omega)), Nat.div_eq_of_lt hlt, Nat.zero_add]
theorem wd_up (k N : Nat) (h : 0 < N) : wd (N * 18446744073709551616 ^ k) = List.replicate k 0 ++ wd N := by
  have hw : Words (List.replicate k 0 ++ wd N) := fun x hx => by
    rcases List.mem_append.1 hx with h1 | h1
    · rw [(List.mem_replicate.1 h1).2]; omega
    · exact wd_words N x h1
  have hn : natOf (List.replicate k 0 ++ wd N) = N * 18446744073709551616 ^ k := by
    rw [natOf_parts _ k, List.take_left' (by simp), List.drop_left' (by simp), natOf_replicate, natOf_wd, Nat.zero_add, Nat.mul_comm]
  have hb : nbits (N * 18446744073709551616 ^ k) = nbits N + 64 * k := by
    rw [Nat.mul_comm, pow_64_2, nbits_up_eq _ _ (by omega)]
  have h1 := words_natOf _ hw
  rw [hn, List.length_append, List.length_replicate, length_wd] at h1
  rw [wd, hb, ← h1]
  congr 1
  omega
section
set_option maxHeartbeats 2000000
theorem above2_any (N : Nat) (ih : RootTo2 N) (A : Option Addr) (n c M : Nat) (w : World) (h : NatIn w A n c M) (hn : n ≤ N) (hs : n ≤ 4000) :
    Calls Try.prog 26 #[.slice A n c, .int .i64 2, .func (.func 9) #[] #[]] w (OutAbove 2 M n w) := by
  have B := Lib.hid (bBits h)
  have hnb := h.bits
  obtain ⟨k, hk⟩ : ∃ k, nbits M / 256 = k := ⟨_, rfl⟩
  have hkI : (nbits M : Int) / 256 = (k : Int) := by omega
  by_cases h0 : k = 0
  · subst h0
    have HA := Lib.hid (above_small (p := 2) (N := M) (by omega))
    clear h
    go_enter Try.func26, Try.ntmps26
    go_wp2_with fail
    refine (B.out).mono ?_
    rintro e w1 ⟨rfl, b1⟩
    obtain ⟨j, hj⟩ : ∃ j, (nbits M + 2 - 1) / 2 = j := ⟨_, rfl⟩
    rw [hj] at HA
    have hjl : j ≤ nbits M + 1 := by omega
    have hj2 : j ≤ 200 := by omega
    have hx := nbits_shl 1 j
    rw [Nat.mul_one] at hx
    have h11 := nbits_of_lt 1 1 (by omega)
    have hN2 : nbits M < 256 := by omega
    have e1 : IntKind.i64.wrap ((nbits M : Int) + 2) = (nbits M : Int) + 2 := by rw [IntKind.wrap_i64]; omega
    have e2 : IntKind.i64.wrap ((nbits M : Int) + 2 - 1) = (nbits M : Int) + 1 := by rw [IntKind.wrap_i64]; omega
    have e3 : ((nbits M : Int) + 1).tdiv 2 = (j : Int) := by rw [Int.tdiv_eq_ediv_of_nonneg (by omega)]; omega
    have e4 : IntKind.i64.wrap (j : Int) = (j : Int) := by rw [IntKind.wrap_i64]; omega
    have hO : Hid (Calls Try.prog 47 #[.int .u64 1] w1.drew (OutN 1 w1.drew)) := bOf w1.drew 1 (by omega)
    clear hk hkI hj
    go_wp2_with fail
    go_region_with (first
      | (go_at_call 47; (with_reducible refine (hO.out).mono ?_); rintro e w2 ⟨X, q, d, rfl, h2, _, b2⟩; have hq2 := natIs_len6 h2 (K := 1) (by omega); have HSh := bShl h2.in_ (j : Int) (by omega); rw [shlS_nat _ j (by omega), Nat.mul_one] at HSh; replace HSh := Lib.hid HSh)
      | (go_at_call 32; (with_reducible refine (HSh.out).mono ?_); rintro e w3 ⟨Y, r, f, rfl, h3, _, b3⟩))
    go_wp2_with fail
    go_ret
    exact ⟨Y, r, f, _, rfl, h3, HA.out, by omega, below_step b1 (((Drawn.more 1).below _).trans (below_step b2 b3))⟩
  · have hk2 : 2 * k < n := by omega
    have hc2 : ¬ c = 2 * k := by obtain ⟨l, _, _, _, _, _, h6⟩ := h; omega
    obtain ⟨r, hr⟩ := root_some 2 (M / 18446744073709551616 ^ (2 * k)) (by omega)
    have ihs := fun u b => ih _ _ _ _ _ u ((natIn_drop h hk2).step b) (by omega) (by omega) hr
    have HA := Lib.hid (above_great (B := 18446744073709551616) (by omega) hr)
    have hrb := hr.bits (by omega)
    rw [pow_64_2, nbits_down_eq _ _ (by omega)] at hrb
    have HI := Lib.hid ihs
    have hmk := fun u => make_row k u (by omega)
    obtain ⟨i0, hi, hz0, hz1, hz2⟩ := info_parts num_info_u64
    clear h hr ihs ih
    go_enter Try.func26, Try.ntmps26
    go_wp2_with fail
    refine (B.out).mono ?_
    rintro e w1 ⟨rfl, b1⟩
    go_wp2_with fail
    refine (HI.out w1 b1).mono ?_
    rintro e w2 ⟨X, q, d, rfl, h2, _, b2⟩
    have B2 := below_step b1 b2
    have H2 := Lib.hid h2
    clear h2 HI
    go_wp2_with fail
    refine (bOf w2 1 (by omega)).mono ?_
    rintro e w3 ⟨Y, s, f, rfl, h3, _, b3⟩
    have B3 := below_step B2 b3
    have hq := natIs_len6 H2.out (K := n) (by omega)
    have hs1 := natIs_len6 h3 (K := 1) (by have := nbits_of_lt 1 1 (by omega); omega)
    have HS := Lib.hid (bAdd (H2.out.step b3).in_ h3.in_ (by omega))
    have hab := nbits_add r 1
    have h11 := nbits_of_lt 1 1 (by omega)
    clear h3
    go_wp2_with fail
    refine (HS.out).mono ?_
    rintro e w4 ⟨Z, t, g, rfl, h4, _, b4⟩
    have B4 := below_step B3 b4
    have ht := natIs_len6 h4 (K := n + 1) (by omega)
    have hown := row_zero w4 k (by omega)
    obtain ⟨hz, _, hR, htg⟩ := h4
    have HR := Lib.hid hR
    have Hz := Lib.hid hz
    clear HS hR hz
    go_wp2_with (at_builtin; refine wpList_append_rd _ rfl (.tmp 37) (.tmp 38) _ rfl w4.heap.size 40 i0 _ 8 Try.underlying23 hi hz0 hz1 hz2 rfl (.slice (some ⟨w4.heap.size, 0, none⟩) k k) k (ints .u64 (words k 0)) rfl ?c1 .u64 w4.heap.size Z t g (wd (r + 1)) rfl ?c2 ?c3 ?c4 ?c5 ?c6 ?_)
    case c1 => exact hown
    case c2 => exact Hz.out
    case c3 => exact HR.out.below ((Below.refl _ _).alloc (Nat.le_refl _) _)
    case c4 => unfold maxLen; omega
    case c5 => omega
    case c6 => simp
    intro v1 w5 own1 hg1
    have b5 : Below w4.heap.size w4 w5 := ((Below.refl _ _).alloc (Nat.le_refl _) _).grown hg1 (by simp) (by simp [Value.ownBlock])
    have B5 := below_step B4 b5
    rw [← ints_append, words_none, ← wd_up k (r + 1) (by omega)] at own1
    obtain ⟨X1, d1, rfl, hd1, _⟩ := own_form own1
    have hx : nbits ((r + 1) * 18446744073709551616 ^ k) = nbits (r + 1) + 64 * k := by
      rw [Nat.mul_comm, pow_64_2, nbits_up_eq _ _ (by omega)]
    have hl : (wd ((r + 1) * 18446744073709551616 ^ k)).length = k + t := by rw [wd_up k _ (by omega), List.length_append, List.length_replicate, Hz.out]
    have HO := Lib.hid own1
    have Hl := Lib.hid hl
    clear own1 hown hg1 hl
    go_wp2_with fail
    go_ret
    have hsb : nbits (r + 1) ≤ 64 * t := by have := Hz.out; rw [length_wd] at this; omega
    exact ⟨X1, _, d1, _, rfl, ⟨Hl.out, by omega, Rd.own HO.out, hd1⟩, HA.out, by omega, B5⟩
theorem sqrt_next (N : Nat) (ih : RootTo2 N) : RootTo2 (N + 1) := by
  intro A n c M R w h hn hs hR
  have bx := Boxed.new w 23 (.slice A n c)
  obtain ⟨E, hE⟩ : ∃ E, w.alloc (.cells #[.slice A n c] 23) = E := ⟨_, rfl⟩
  have hb : Below w.heap.size w E := by rw [← hE]; exact (Below.refl _ w).alloc (Nat.le_refl _) _
  rw [hE] at bx
  have HB := Lib.hid bx
  have hc := bx.cell
  have hf := bx.frozen
  have HA := Lib.hid (above2_any N ih A n c M E (h.step hb) (by omega) hs)
  have H := Lib.hid (h.step hb)
  have HR := Lib.hid hR
  clear h ih hR bx
  go_enter Try.func9, Try.ntmps9
  go_wp2_with fail
  refine (HA.out).mono ?_
  rintro e w1 ⟨X, q, d, x, rfl, h1, hx, hxb, b1⟩
  have hRx := root_lt_above HR.out hx
  have HD := Lib.hid (descend2_any w.heap.size (n + 1) R (st2 M) (down_two HR.out) X q d x w1 h1 (by omega) (by omega) (fun u Y r f y hu hy hr => step2_any (box_kept (box_kept HB.out b1) hu) ((H.out.step b1).step hu) (by omega) hy.in_ (by omega)))
  clear h1 hx HA
  go_wp2_with fail
  refine (HD.out).mono ?_
  rintro e w2 ⟨Y, r, f, rfl, h2, _, b2⟩
  go_wp2_with fail
  go_ret
  exact ⟨Y, r, f, rfl, h2, trivial, (hb.trans (b1.mono hb.size)).trans (b2.mono (by have := b1.size; have := hb.size; omega))⟩
theorem sqrt_all (N : Nat) : RootTo2 N := by
  induction N with
  | zero => intro A n c M R w _ h; omega
  | succ N ih => exact sqrt_next N ih
theorem above3_any (N : Nat) (ih : RootTo3 N) (A : Option Addr) (n c M : Nat) (w : World) (h : NatIn w A n c M) (hn : n ≤ N) (hs : n ≤ 4000) :
    Calls Try.prog 26 #[.slice A n c, .int .i64 3, .func (.func 10) #[] #[]] w (OutAbove 3 M n w) := by
  have B := Lib.hid (bBits h)
  have hnb := h.bits
  obtain ⟨k, hk⟩ : ∃ k, nbits M / 384 = k := ⟨_, rfl⟩
  have hkI : (nbits M : Int) / 384 = (k : Int) := by omega
  by_cases h0 : k = 0
  · subst h0
    have HA := Lib.hid (above_small (p := 3) (N := M) (by omega))
    clear h
    go_enter Try.func26, Try.ntmps26
    go_wp2_with fail
    refine (B.out).mono ?_
    rintro e w1 ⟨rfl, b1⟩
    obtain ⟨j, hj⟩ : ∃ j, (nbits M + 3 - 1) / 3 = j := ⟨_, rfl⟩
    rw [hj] at HA
    have hjl : j ≤ nbits M + 1 := by omega
    have hj2 : j ≤ 200 := by omega
    have hx := nbits_shl 1 j
    rw [Nat.mul_one] at hx
    have h11 := nbits_of_lt 1 1 (by omega)
    have hN2 : nbits M < 384 := by omega
    have e1 : IntKind.i64.wrap ((nbits M : Int) + 3) = (nbits M : Int) + 3 := by rw [IntKind.wrap_i64]; omega
    have e2 : IntKind.i64.wrap ((nbits M : Int) + 3 - 1) = (nbits M : Int) + 2 := by rw [IntKind.wrap_i64]; omega
    have e3 : ((nbits M : Int) + 2).tdiv 3 = (j : Int) := by rw [Int.tdiv_eq_ediv_of_nonneg (by omega)]; omega
    have e4 : IntKind.i64.wrap (j : Int) = (j : Int) := by rw [IntKind.wrap_i64]; omega
    have hO : Hid (Calls Try.prog 47 #[.int .u64 1] w1.drew (OutN 1 w1.drew)) := bOf w1.drew 1 (by omega)
    clear hk hkI hj
    go_wp2_with fail
    go_region_with (first
      | (go_at_call 47; (with_reducible refine (hO.out).mono ?_); rintro e w2 ⟨X, q, d, rfl, h2, _, b2⟩; have hq2 := natIs_len6 h2 (K := 1) (by omega); have HSh := bShl h2.in_ (j : Int) (by omega); rw [shlS_nat _ j (by omega), Nat.mul_one] at HSh; replace HSh := Lib.hid HSh)
      | (go_at_call 32; (with_reducible refine (HSh.out).mono ?_); rintro e w3 ⟨Y, r, f, rfl, h3, _, b3⟩))
    go_wp2_with fail
    go_ret
    exact ⟨Y, r, f, _, rfl, h3, HA.out, by omega, below_step b1 (((Drawn.more 1).below _).trans (below_step b2 b3))⟩
  · have hk2 : 3 * k < n := by omega
    have hc2 : ¬ c = 3 * k := by obtain ⟨l, _, _, _, _, _, h6⟩ := h; omega
    obtain ⟨r, hr⟩ := root_some 3 (M / 18446744073709551616 ^ (3 * k)) (by omega)
    have ihs := fun u b => ih _ _ _ _ _ u ((natIn_drop h hk2).step b) (by omega) (by omega) hr
    have HA := Lib.hid (above_great (B := 18446744073709551616) (by omega) hr)
    have hrb := hr.bits (by omega)
    rw [pow_64_2, nbits_down_eq _ _ (by omega)] at hrb
    have HI := Lib.hid ihs
    have hmk := fun u => make_row k u (by omega)
    obtain ⟨i0, hi, hz0, hz1, hz2⟩ := info_parts num_info_u64
    clear h hr ihs ih
    go_enter Try.func26, Try.ntmps26
    go_wp2_with fail
    refine (B.out).mono ?_
    rintro e w1 ⟨rfl, b1⟩
    go_wp2_with fail
    refine (HI.out w1 b1).mono ?_
    rintro e w2 ⟨X, q, d, rfl, h2, _, b2⟩
    have B2 := below_step b1 b2
    have H2 := Lib.hid h2
    clear h2 HI
    go_wp2_with fail
    refine (bOf w2 1 (by omega)).mono ?_
    rintro e w3 ⟨Y, s, f, rfl, h3, _, b3⟩
    have B3 := below_step B2 b3
    have hq := natIs_len6 H2.out (K := n) (by omega)
    have hs1 := natIs_len6 h3 (K := 1) (by have := nbits_of_lt 1 1 (by omega); omega)
    have HS := Lib.hid (bAdd (H2.out.step b3).in_ h3.in_ (by omega))
    have hab := nbits_add r 1
    have h11 := nbits_of_lt 1 1 (by omega)
    clear h3
    go_wp2_with fail
    refine (HS.out).mono ?_
    rintro e w4 ⟨Z, t, g, rfl, h4, _, b4⟩
    have B4 := below_step B3 b4
    have ht := natIs_len6 h4 (K := n + 1) (by omega)
    have hown := row_zero w4 k (by omega)
    obtain ⟨hz, _, hR, htg⟩ := h4
    have HR := Lib.hid hR
    have Hz := Lib.hid hz
    clear HS hR hz
    go_wp2_with (at_builtin; refine wpList_append_rd _ rfl (.tmp 37) (.tmp 38) _ rfl w4.heap.size 40 i0 _ 8 Try.underlying23 hi hz0 hz1 hz2 rfl (.slice (some ⟨w4.heap.size, 0, none⟩) k k) k (ints .u64 (words k 0)) rfl ?c1 .u64 w4.heap.size Z t g (wd (r + 1)) rfl ?c2 ?c3 ?c4 ?c5 ?c6 ?_)
    case c1 => exact hown
    case c2 => exact Hz.out
    case c3 => exact HR.out.below ((Below.refl _ _).alloc (Nat.le_refl _) _)
    case c4 => unfold maxLen; omega
    case c5 => omega
    case c6 => simp
    intro v1 w5 own1 hg1
    have b5 : Below w4.heap.size w4 w5 := ((Below.refl _ _).alloc (Nat.le_refl _) _).grown hg1 (by simp) (by simp [Value.ownBlock])
    have B5 := below_step B4 b5
    rw [← ints_append, words_none, ← wd_up k (r + 1) (by omega)] at own1
    obtain ⟨X1, d1, rfl, hd1, _⟩ := own_form own1
    have hx : nbits ((r + 1) * 18446744073709551616 ^ k) = nbits (r + 1) + 64 * k := by
      rw [Nat.mul_comm, pow_64_2, nbits_up_eq _ _ (by omega)]
    have hl : (wd ((r + 1) * 18446744073709551616 ^ k)).length = k + t := by rw [wd_up k _ (by omega), List.length_append, List.length_replicate, Hz.out]
    have HO := Lib.hid own1
    have Hl := Lib.hid hl
    clear own1 hown hg1 hl
    go_wp2_with fail
    go_ret
    have hsb : nbits (r + 1) ≤ 64 * t := by have := Hz.out; rw [length_wd] at this; omega
    exact ⟨X1, _, d1, _, rfl, ⟨Hl.out, by omega, Rd.own HO.out, hd1⟩, HA.out, by omega, B5⟩
theorem cbrt_next (N : Nat) (ih : RootTo3 N) : RootTo3 (N + 1) := by
  intro A n c M R w h hn hs hR
  have bx := Boxed.new w 23 (.slice A n c)
  obtain ⟨E, hE⟩ : ∃ E, w.alloc (.cells #[.slice A n c] 23) = E := ⟨_, rfl⟩
  have hb : Below w.heap.size w E := by rw [← hE]; exact (Below.refl _ w).alloc (Nat.le_refl _) _
  rw [hE] at bx
  have HB := Lib.hid bx
  have hc := bx.cell
  have hf := bx.frozen
  have HA := Lib.hid (above3_any N ih A n c M E (h.step hb) (by omega) hs)
  have H := Lib.hid (h.step hb)
  have HR := Lib.hid hR
  clear h ih hR bx
  go_enter Try.func10, Try.ntmps10
  go_wp2_with fail
  refine (HA.out).mono ?_
  rintro e w1 ⟨X, q, d, x, rfl, h1, hx, hxb, b1⟩
  have hRx := root_lt_above HR.out hx
  have HD := Lib.hid (descend3_any w.heap.size (n + 1) R (st3 M) (down_three HR.out) X q d x w1 h1 (by omega) (by omega) (fun u Y r f y hu hy hr => step3_any (box_kept (box_kept HB.out b1) hu) ((H.out.step b1).step hu) (by omega) hy (by omega)))
  clear h1 hx HA
  go_wp2_with fail
  refine (HD.out).mono ?_
  rintro e w2 ⟨Y, r, f, rfl, h2, _, b2⟩
  go_wp2_with fail
  go_ret
  exact ⟨Y, r, f, rfl, h2, trivial, (hb.trans (b1.mono hb.size)).trans (b2.mono (by have := b1.size; have := hb.size; omega))⟩
theorem cbrt_all (N : Nat) : RootTo3 N := by
  induction N with
  | zero => intro A n c M R w _ h; omega
  | succ N ih => exact cbrt_next N ih
end
/-- The number whose square it is. -/
def OutSqI (R : Nat) (w : World) (e : Ending) (w' : World) : Prop := ∃ X q d, e = .returned (.tuple #[.slice X q d, .bool true]) ∧ NatIs w' X q d R ∧ Below w.heap.size w w'
def OutSqN (w : World) (e : Ending) (w' : World) : Prop := ∃ X d, e = .returned (.tuple #[.slice X 0 d, .bool false]) ∧ Below w.heap.size w w'
section
variable {w : World} {A : Option Addr} {n c M R : Nat}
theorem sqrt_pf (h : NatIn w A n c M) (hR : IsRoot 2 M R) (hs : n ≤ 4000) : Calls Try.prog 9 #[.slice A n c] w (OutI R w) := sqrt_all (n + 1) A n c M R w h (Nat.lt_succ_self _) hs hR
theorem cbrt_pf (h : NatIn w A n c M) (hR : IsRoot 3 M R) (hs : n ≤ 4000) : Calls Try.prog 10 #[.slice A n c] w (OutI R w) := cbrt_all (n + 1) A n c M R w h (Nat.lt_succ_self _) hs hR
theorem isSq_yes_pf (h : NatIn w A n c M) (hR : R * R = M) (hs : n ≤ 4000) : Calls Try.prog 11 #[.slice A n c] w (OutSqI R w) := by
  have hr : IsRoot 2 M R := hR ▸ root_sq R
  have hnb := h.bits
  have hrb := hr.bits (by omega)
  have HS := Lib.hid (sqrt_pf h hr hs)
  have H := Lib.hid h
  clear h
  go_enter Try.func11, Try.ntmps11
  go_wp2_with fail
  refine (HS.out).mono ?_
  rintro e w1 ⟨X, q, d, rfl, h1, _, b1⟩
  have hq := natIs_len6 h1 (K := n) (by omega)
  have HQ := Lib.hid (bSquare h1.in_ (by omega))
  have H1 := Lib.hid h1
  clear h1 HS
  go_wp2_with fail
  refine (HQ.out).mono ?_
  rintro e w2 ⟨Y, r, f, rfl, h2, _, b2⟩
  have B2 := below_step b1 b2
  have C := bCmp h2.in_ (H.out.step B2)
  rw [show cmpS (R * R) M = 0 by unfold cmpS; rw [if_neg (by omega), if_neg (by omega)]] at C
  have HC := Lib.hid C
  clear h2 C HQ
  go_wp2_with fail
  refine (HC.out).mono ?_
  rintro e w3 ⟨rfl, b3⟩
  have H3 := Lib.hid ((H1.out.step b2).step b3)
  clear H1
  go_wp2_with fail
  go_ret2
  exact ⟨X, q, d, rfl, H3.out, below_step B2 b3⟩
theorem isSq_no_pf (h : NatIn w A n c M) (hR : ∀ R, R * R ≠ M) (hs : n ≤ 4000) : Calls Try.prog 11 #[.slice A n c] w (OutSqN w) := by
  obtain ⟨R, hr⟩ := root_some 2 M (by omega)
  have hnb := h.bits
  have hrb := hr.bits (by omega)
  have hne := hR R
  have HS := Lib.hid (sqrt_pf h hr hs)
  have H := Lib.hid h
  clear h hR hr
  go_enter Try.func11, Try.ntmps11
  go_wp2_with fail
  refine (HS.out).mono ?_
  rintro e w1 ⟨X, q, d, rfl, h1, _, b1⟩
  have hq := natIs_len6 h1 (K := n) (by omega)
  have HQ := Lib.hid (bSquare h1.in_ (by omega))
  clear h1 HS
  go_wp2_with fail
  refine (HQ.out).mono ?_
  rintro e w2 ⟨Y, r, f, rfl, h2, _, b2⟩
  have B2 := below_step b1 b2
  have hct : ∃ t : Int, cmpS (R * R) M = t ∧ (t == 0) = false ∧ ¬ t = 0 := by
    unfold cmpS
    rcases Nat.lt_or_ge (R * R) M with h1 | h1
    · rw [if_pos h1]; exact ⟨_, rfl, by decide, by decide⟩
    · rw [if_neg (by omega), if_pos (by omega)]; exact ⟨_, rfl, by decide, by decide⟩
  obtain ⟨t, ht, ht1, ht2⟩ := hct
  have C := bCmp h2.in_ (H.out.step B2)
  rw [ht] at C
  have HC := Lib.hid C
  clear h2 C HQ ht hne
  go_wp2_with fail
  refine (HC.out).mono ?_
  rintro e w3 ⟨rfl, b3⟩
  go_wp2_with fail
  go_ret2
  exact ⟨none, 0, rfl, below_step B2 b3⟩
end
end Go.Proofs.Ytekgoceainibaaa
/- The document's answer of chapter 6: a root, digit by digit. Conditions: as typed (lengths that fit a machine; a root of at least 1). -/
namespace Go.Proofs.Ytekgoceainibaaa
open Go.RowKit
set_option maxRecDepth 20000
theorem set_one6 (K V i : Nat) (hi : i < K) (hV : V % 2 ^ (i + 1) = 0) : (bw K V).set i 1 = bw K (V + 2 ^ i) := by
  have hp : 0 < 2 ^ i := Nat.pow_pos (by omega)
  refine ext_nth _ _ (by rw [List.length_set, length_bw, length_bw]) fun j hj => ?_
  rw [List.length_set, length_bw] at hj
  rw [nth_set _ _ _ _ (by rw [length_bw]; exact hi), nth_bw _ _ _ hj, nth_bw _ _ _ hj]
  obtain ⟨q, rfl⟩ : ∃ q, V = 2 ^ (i + 1) * q := ⟨V / 2 ^ (i + 1), by have := Nat.div_add_mod V (2 ^ (i + 1)); omega⟩
  rcases Nat.lt_trichotomy j i with h | h | h
  · rw [if_neg (by omega)]
    obtain ⟨d, rfl⟩ : ∃ d, i = j + 1 + d := ⟨i - j - 1, by omega⟩
    have e1 : 2 ^ (j + 1 + d + 1) * q = 2 ^ j * (2 * (2 ^ (d + 1) * q)) := by rw [show j + 1 + d + 1 = j + (1 + (d + 1)) by omega, Nat.pow_add, Nat.pow_add 2 1, Nat.pow_one]; simp only [Nat.mul_assoc]
    have e2 : 2 ^ (j + 1 + d) = 2 ^ j * (2 * 2 ^ d) := by rw [show j + 1 + d = j + (1 + d) by omega, Nat.pow_add, Nat.pow_add 2 1, Nat.pow_one]
    have hj2 : 0 < 2 ^ j := Nat.pow_pos (by omega)
    rw [e1, e2, ← Nat.mul_add, Nat.mul_div_cancel_left _ hj2, Nat.mul_div_cancel_left _ hj2]
    omega
  · subst h
    rw [if_pos rfl, Nat.pow_succ, Nat.mul_assoc]
    have e : 2 ^ j * (2 * q) + 2 ^ j = 2 ^ j * (2 * q + 1) := by rw [Nat.mul_add, Nat.mul_one]
    rw [e, Nat.mul_div_cancel_left _ hp]
    omega
  · rw [if_neg (by omega)]
    obtain ⟨d, rfl⟩ : ∃ d, j = i + 1 + d := ⟨j - i - 1, by omega⟩
    have hp1 : 0 < 2 ^ (i + 1) := Nat.pow_pos (by omega)
    have e3 : 2 ^ i < 2 ^ (i + 1) := Nat.pow_lt_pow_right (by omega) (by omega)
    rw [Nat.pow_add 2 (i + 1) d, ← Nat.div_div_eq_div_mul, ← Nat.div_div_eq_div_mul, Nat.mul_div_cancel_left _ hp1, Nat.mul_add_div hp1, Nat.div_eq_of_lt e3, Nat.add_zero]
theorem set_none6 (K V i : Nat) (hi : i < K) (hV : V % 2 ^ (i + 1) = 0) : (bw K (V + 2 ^ i)).set i 0 = bw K V := by
  rw [← set_one6 K V i hi hV, List.set_set]
  refine ext_nth _ _ (by simp) fun j hj => ?_
  rw [List.length_set, length_bw] at hj
  rw [nth_set _ _ _ _ (by rw [length_bw]; exact hi)]
  split
  · rename_i h
    subst h
    rw [nth_bw _ _ _ hj]
    obtain ⟨q, rfl⟩ : ∃ q, V = 2 ^ (j + 1) * q := ⟨V / 2 ^ (j + 1), by have := Nat.div_add_mod V (2 ^ (j + 1)); omega⟩
    rw [Nat.pow_succ, Nat.mul_assoc, Nat.mul_div_cancel_left _ (Nat.pow_pos (by omega))]
    omega
  · rfl
theorem bw_none (K : Nat) : bw K 0 = List.replicate K 0 := by
  induction K with
  | zero => rfl
  | succ K ih => rw [bw, Nat.zero_div, ih]; rfl
theorem make_num6 (m : Nat) (u : World) (hm : m ≤ 100000000) : (Instr.makeSlice 31 (.int .i64 (m : Int)) (.int .i64 (m : Int))).run Try.prog u =
      .ok (.slice (some ⟨u.heap.size, 0, none⟩) m m) (u.alloc (.cells (List.replicate m (Value.int .u8 0)).toArray 5)) := by
  obtain ⟨i0, hi, hz0, hz1, hz2⟩ := info_parts num_info_u8
  have h := run_make (P := Try.prog) u 31 5 i0 (.int .u8 0) Try.underlying31 hi hz0 .i64 .i64 (m : Int) (m : Int) (by omega) (by omega) (by rw [hz2]; omega) (by omega)
  rw [Int.toNat_natCast, hz1, Nat.mul_one] at h
  rw [h, ← toList_madeCells_one]
  rfl
theorem num_new6 (w : World) (m : Nat) (hm : m ≤ 100000000) : (w.alloc (.cells (Array.replicate m (Value.int .u8 0)) 5)).ownsRow w.heap.size 5 1 (.slice (some ⟨w.heap.size, 0, none⟩) m m) m (ints .u8 (bw m 0)) := by
  rw [bw_none]
  exact own_of_heap (cur := List.replicate m (Value.int .u8 0)) (by have h := heap_alloc_new w (.cells (Array.replicate m (Value.int .u8 0)) 5); simpa using h) (Nat.le_refl _) (Nat.le_refl _) (by unfold maxLen; omega) (by simp) (by simp [ints])
set_option maxHeartbeats 1000000 in
theorem power06 (A : Option Addr) (c N k : Nat) (w : World) (hr : Rd .u8 w w.heap.size A (dg N)) (hk : k ≤ 10) (hN : nbits N ≤ 20000) : Calls Try.prog 35 #[.slice A (nbits N) c, .int .i64 (k : Int)] w (OutNum (N ^ k) w) := by
  have one : Rd .u8 (w.alloc (.cells #[.int .u8 1] 5)) (w.heap.size + 1) (some ⟨w.heap.size, 0, none⟩) (dg (N ^ 0)) := by
    rw [Nat.pow_zero, dg_one]
    exact Rd.lit w .u8 5 [1]
  have hone : Hid (nbits (N ^ 0) = 1) := Lib.hid (by rw [Nat.pow_zero, nbits_one])
  go_enter Try.func35, Try.ntmps35
  go_wp2_with fail
  go_loopw [5, 6] (fun v j wr => ∃ (i : Nat) (Y : Option Addr) (f : Nat), i ≤ k ∧ j = .int .i64 i ∧ v = .slice Y (nbits (N ^ i)) f ∧ nbits (N ^ i) ≤ f ∧ Rd .u8 wr wr.heap.size Y (dg (N ^ i)) ∧ Below w.heap.size w wr) (fun _ j _ => k - (intOf j).toNat)
  case atStart => exact ⟨0, _, 1, Nat.zero_le _, rfl, by rw [hone.out], by rw [hone.out]; omega, one.more (by simp), (Below.refl _ _).alloc (Nat.le_refl _) _⟩
  case round =>
    obtain ⟨i, Y, f, hik, rfl, rfl, hf, RY, hb⟩ := hrel
    by_cases hik2 : i < k
    · have hpb : nbits (N ^ i) ≤ 200001 := by
        have h1 := nbits_pow N i
        have h3 : nbits N * i ≤ 20000 * 10 := Nat.mul_le_mul hN (by omega)
        omega
      have TT := times02_any Y A f c (N ^ i) N wr RY ((hr.below hb).more hb.size) (by omega) (by omega)
      rw [← Nat.pow_succ] at TT
      have HT := Lib.hid TT
      clear TT RY
      go_wp2_with fail
      refine (HT.out).mono ?_
      rintro e w2 ⟨Z, g, rfl, hg, RZ, b2⟩
      go_wp2_with fail
      go_roundw
      case rel => exact ⟨i + 1, Z, g, by omega, by go_num, rfl, hg, RZ, hb.trans (b2.mono hb.size)⟩
      case measure => simp [intOf]; omega
    · obtain rfl : i = k := by omega
      go_wp2_with fail
      go_ret
      exact ⟨Y, f, rfl, hf, RY, hb⟩
set_option maxHeartbeats 2000000 in
theorem root06 (A : Option Addr) (c : Nat) (a : List Nat) (k R : Nat) (w : World) (hr : Rd .u64 w w.heap.size A a) (hw : Words a) (hl : a.length ≤ 200) (hk : k ≤ 10) (hk0 : 0 < k) (hR : IsRoot k (natOf a) R) :
    Calls Try.prog 13 #[.slice A a.length c, .int .i64 (k : Int)] w (OutNat R w) := by
  have D := Lib.hid (digits_any A c a w hr hw (by omega))
  have hnb := nbits_natOf a hw
  have hbits := root_bits hR hk0
  have HR := Lib.hid hR
  obtain ⟨N, hN⟩ : ∃ N, natOf a = N := ⟨_, rfl⟩
  rw [hN] at D HR hnb hbits
  obtain ⟨K, hK⟩ : ∃ K, nbits N / k + 1 = K := ⟨_, rfl⟩
  rw [hK] at hbits
  have hKl : K ≤ 12801 := by have := Nat.div_le_self (nbits N) k; omega
  have hdiv : (nbits N : Int) / (k : Int) = ((nbits N / k : Nat) : Int) := by simp
  obtain ⟨Q, hQ⟩ : ∃ Q, nbits N / k = Q := ⟨_, rfl⟩
  rw [hQ] at hdiv hK
  have hK1 : (Q : Int) + 1 = (K : Int) := by omega
  have hQl : Q ≤ 12800 := by omega
  have hk1 : ((k : Int) == 0) = false := by simp; omega
  have hmk := fun u => make_num6 K u (by omega)
  have HB := Lib.hid hbits
  clear hr hw hR hN hbits hQ hK
  go_enter Try.func13, Try.ntmps13
  go_wp2_with fail
  refine (D.out).mono ?_
  rintro e w1 ⟨X, d, rfl, hd, RX, b1⟩
  go_wp2_with fail
  have hown0 := num_new6 w1 K (by omega)
  obtain ⟨E, hE⟩ : ∃ E, w1.alloc (.cells (Array.replicate K (Value.int .u8 0)) 5) = E := ⟨_, rfl⟩
  have hbE : Below w1.heap.size w1 E := by rw [← hE]; exact (Below.refl _ w1).alloc (Nat.le_refl _) _
  rw [hE] at hown0 ⊢
  clear hmk hE D
  go_loopw [7] (fun v wr => ∃ (j : Nat) (i : Int), j ≤ K ∧ i = (j : Int) - 1 ∧ v = .int .i64 i ∧ wr.ownsRow w1.heap.size 5 1 (.slice (some ⟨w1.heap.size, 0, none⟩) K K) K (ints .u8 (bw K (R / 2 ^ j * 2 ^ j))) ∧ Below w1.heap.size w1 wr) (fun v _ => (intOf v + 1).toNat)
  case atStart => exact ⟨K, _, Nat.le_refl _, rfl, rfl, by rw [Nat.div_eq_of_lt HB.out, Nat.zero_mul]; exact hown0, hbE⟩
  case round =>
    obtain ⟨j, i, hj, hij, rfl, hown, hb⟩ := hrel
    clear hown0 hbE
    rcases Nat.eq_zero_or_pos j with h | h
    · subst h
      obtain rfl : i = -1 := by omega
      clear hij
      have RY := Rd.own hown
      have WW := words_any _ K (bw K (R / 2 ^ 0 * 2 ^ 0)) wr RY (bw_01 _ _) (by rw [length_bw]; omega) (by rw [length_bw]; exact Nat.le_refl _)
      rw [length_bw, bv_bw, Nat.pow_zero, Nat.div_one, Nat.mul_one, Nat.mod_eq_of_lt HB.out] at WW
      have HW := Lib.hid WW
      clear WW RY hown
      go_wp2_with fail
      refine (HW.out).mono ?_
      rintro e w2 ⟨v, rfl, own, b2⟩
      obtain ⟨Z, g, rfl, hg, _⟩ := own_form own
      have HO := Lib.hid (own_base own (Nat.le_trans b1.size hb.size))
      clear own
      go_wp2_with fail
      go_ret
      exact ⟨_, rfl, HO.out, (b1.trans (hb.mono b1.size)).trans (b2.mono (Nat.le_trans b1.size hb.size))⟩
    · obtain ⟨m, rfl⟩ : ∃ m, j = m + 1 := ⟨j - 1, by omega⟩
      obtain rfl : i = (m : Int) := by omega
      clear hij
      obtain ⟨V, hV⟩ : ∃ V, R / 2 ^ (m + 1) * 2 ^ (m + 1) = V := ⟨_, rfl⟩
      have hVm : V % 2 ^ (m + 1) = 0 := by rw [← hV, Nat.mul_mod_left]
      have test := digit_test HR.out m
      rw [hV] at test hown
      have hVl : V + 2 ^ m < 2 ^ K := by
        have h1 := bv_bw K (V + 2 ^ m)
        have h2 := set_one6 K V m (by omega) hVm
        have h3 : V ≤ R := by rw [← hV]; exact Nat.div_mul_le_self _ _
        have h4 : R < 2 ^ K := HB.out
        obtain ⟨d, rfl⟩ : ∃ d, K = m + 1 + d := ⟨K - (m + 1), by omega⟩
        have h5 : R / 2 ^ (m + 1) < 2 ^ d := (Nat.div_lt_iff_lt_mul (Nat.pow_pos (by omega))).2 (by rw [← Nat.pow_add, Nat.add_comm]; exact h4)
        have h6 : (R / 2 ^ (m + 1) + 1) * 2 ^ (m + 1) ≤ 2 ^ d * 2 ^ (m + 1) := Nat.mul_le_mul_right _ h5
        rw [Nat.add_mul, hV, Nat.one_mul, ← Nat.pow_add, Nat.add_comm d] at h6
        have h7 : 2 ^ m < 2 ^ (m + 1) := Nat.pow_lt_pow_right (by omega) (by omega)
        omega
      have hVn : V ≤ R := by rw [← hV]; exact Nat.div_mul_le_self _ _
      have hRb := Nat.lt_of_le_of_lt hVn HB.out
      have hnext : R / 2 ^ m * 2 ^ m = if bit R m = 0 then V else V + 2 ^ m := by
        have h2 : R / 2 ^ m = 2 * (R / 2 ^ (m + 1)) + bit R m := by
          rw [Nat.pow_succ, ← Nat.div_div_eq_div_mul, bit]; omega
        have hb2 : bit R m < 2 := bit_lt R m
        have e : R / 2 ^ (m + 1) * 2 ^ (m + 1) = 2 * (R / 2 ^ (m + 1)) * 2 ^ m := by rw [Nat.pow_succ, Nat.mul_comm (2 ^ m) 2, ← Nat.mul_assoc, Nat.mul_comm _ 2]
        rw [h2, Nat.add_mul, ← e, hV]
        split
        · rename_i h3; rw [h3, Nat.zero_mul, Nat.add_zero]
        · rename_i h3; rw [show bit R m = 1 by omega, Nat.one_mul]
      have HV := Lib.hid hVm
      have HN := Lib.hid hnext
      have HT := Lib.hid test
      have hst := hown.stored m (.int .u8 ((1 : Nat) : Int))
      rw [ints_set, set_one6 K V m (by omega) hVm] at hst
      have hco : wr.cell? ⟨w1.heap.size, m, none⟩ = some (.int .u8 (nth (bw K V) m : Int)) := by rw [hown.cellAt _ (by omega), ints_get _ _ _ (by rw [length_bw]; omega)]
      have hfo : wr.frozen? ⟨w1.heap.size, m, none⟩ = false := hown.frozenAt _
      have hmK : m < K := by omega
      have hown1 : (wr.setCell ⟨w1.heap.size, m, none⟩ (.int .u8 1)).ownsRow w1.heap.size 5 1 (.slice (some ⟨w1.heap.size, 0, none⟩) K K) K (ints .u8 (bw K (V + 2 ^ m))) := hst.1
      have hbs : Below w1.heap.size w1 (wr.setCell ⟨w1.heap.size, m, none⟩ (.int .u8 1)) := hb.setCell (p := ⟨w1.heap.size, m, none⟩) (Nat.le_refl _) _
      have HO := Lib.hid hown1
      have HS := Lib.hid hbs
      clear hst hown hVm hnext test hV hown1 hbs
      go_wp2_with fail
      obtain ⟨E1, hE1⟩ : ∃ E1, wr.setCell ⟨w1.heap.size, m, none⟩ (.int .u8 1) = E1 := ⟨_, rfl⟩
      rw [hE1] at HO HS ⊢
      have RY := Rd.own HO.out
      have WW := words_any _ K (bw K (V + 2 ^ m)) E1 RY (bw_01 _ _) (by rw [length_bw]; omega) (by rw [length_bw]; exact Nat.le_refl _)
      rw [length_bw, bv_bw, Nat.mod_eq_of_lt hVl] at WW
      refine (WW).mono ?_
      rintro e w2 ⟨v, rfl, own, b2⟩
      have hVb : nbits (V + 2 ^ m) ≤ 12801 := Nat.le_trans (nbits_of_lt _ _ hVl) hKl
      obtain ⟨Z, g, rfl, hg, _⟩ := own_form own
      have DD := digits_any Z g (wd (V + 2 ^ m)) w2 (Rd.own own) (wd_words _) (by rw [length_wd]; omega)
      rw [length_wd, natOf_wd] at DD
      have HD := Lib.hid DD
      clear WW RY own DD hE1 hVl hco hfo
      go_wp2_with fail
      refine (HD.out).mono ?_
      rintro e w3 ⟨Y, f, rfl, hf, RY, b3⟩
      have PW := Lib.hid (power06 Y f (V + 2 ^ m) k w3 RY hk (by omega))
      clear HD RY
      go_wp2_with fail
      refine (PW.out).mono ?_
      rintro e w4 ⟨Y2, f2, rfl, hf2, RY2, b4⟩
      have B3 : Below E1.heap.size E1 w4 := (b2.trans (b3.mono b2.size)).trans (b4.mono (Nat.le_trans b2.size b3.size))
      have hpb : nbits ((V + 2 ^ m) ^ k) ≤ 200001 := by
        have h1 := nbits_pow (V + 2 ^ m) k
        have h3 : nbits (V + 2 ^ m) * k ≤ 12801 * 10 := Nat.mul_le_mul hVb hk
        omega
      have LL := less02_any X Y2 d f2 N ((V + 2 ^ m) ^ k) w4 w4.heap.size ((RX.below (HS.out.trans (B3.mono HS.out.size))).more (Nat.le_trans HS.out.size B3.size)) RY2 (by omega) (by omega)
      have HL := Lib.hid LL
      have HO2 := Lib.hid (own_step HO.out B3)
      clear LL PW RY2 HO
      go_wp2_with fail
      refine (HL.out).mono ?_
      rintro e w5 ⟨rfl, hd5⟩
      have B5 : Below E1.heap.size E1 w5 := B3.trans ((hd5.below _).mono B3.size)
      have HO3 := Lib.hid (own_step HO2.out (hd5.below _))
      have hB5 := HS.out.trans (B5.mono HS.out.size)
      clear HL HO2
      by_cases hlt : N < (V + 2 ^ m) ^ k
      · have hdec : decide (N < (V + 2 ^ m) ^ k) = true := decide_eq_true hlt
        have hst := HO3.out.stored m (.int .u8 ((0 : Nat) : Int))
        rw [ints_set, set_none6 K V m hmK HV.out] at hst
        have hco : w5.cell? ⟨w1.heap.size, m, none⟩ = some (.int .u8 (nth (bw K (V + 2 ^ m)) m : Int)) := by rw [HO3.out.cellAt _ (by omega), ints_get _ _ _ (by rw [length_bw]; omega)]
        have hfo : w5.frozen? ⟨w1.heap.size, m, none⟩ = false := HO3.out.frozenAt _
        have hown1 : (w5.setCell ⟨w1.heap.size, m, none⟩ (.int .u8 0)).ownsRow w1.heap.size 5 1 (.slice (some ⟨w1.heap.size, 0, none⟩) K K) K (ints .u8 (bw K V)) := hst.1
        have hfin : R / 2 ^ m * 2 ^ m = V := by rw [HN.out, if_pos (HT.out.1 hlt)]
        have HO4 := Lib.hid hown1
        have HF := Lib.hid hfin
        clear hst hown1 hfin HO3 hlt
        go_wp2_with fail
        go_roundw
        case rel => exact ⟨m, _, by omega, rfl, by go_num, by rw [HF.out]; exact HO4.out, hB5.setCell (p := ⟨w1.heap.size, m, none⟩) (Nat.le_refl _) _⟩
        case measure => simp [intOf]
      · have hdec : decide (N < (V + 2 ^ m) ^ k) = false := decide_eq_false hlt
        have hfin : R / 2 ^ m * 2 ^ m = V + 2 ^ m := by rw [HN.out, if_neg fun h => hlt (HT.out.2 h)]
        have HF := Lib.hid hfin
        clear hfin hlt
        go_wp2_with fail
        go_roundw
        case rel => exact ⟨m, _, by omega, rfl, by go_num, by rw [HF.out]; exact HO3.out, hB5⟩
        case measure => simp [intOf]
end Go.Proofs.Ytekgoceainibaaa
/- root's contracts, as laws use them. Conditions: as typed (lengths that fit a machine, a capacity that is not below its length). -/
namespace Go.Proofs.Ytekgoceainibaaa
open Go.RowKit
section
variable {w : World} {A : Option Addr} {n c M R : Nat}
theorem bSqrt (h : NatIn w A n c M) (hR : IsRoot 2 M R) (hs : n ≤ 4000) : Calls Try.prog 9 #[.slice A n c] w (OutI R w) := sqrt_pf h hR hs
theorem bCbrt (h : NatIn w A n c M) (hR : IsRoot 3 M R) (hs : n ≤ 4000) : Calls Try.prog 10 #[.slice A n c] w (OutI R w) := cbrt_pf h hR hs
theorem bIsSq_yes (h : NatIn w A n c M) (hR : R * R = M) (hs : n ≤ 4000) : Calls Try.prog 11 #[.slice A n c] w fun e w' => ∃ X q d, e = .returned (.tuple #[.slice X q d, .bool true]) ∧ NatIs w' X q d R ∧ Below w.heap.size w w' := isSq_yes_pf h hR hs
theorem bIsSq_no (h : NatIn w A n c M) (hR : ∀ R, R * R ≠ M) (hs : n ≤ 4000) : Calls Try.prog 11 #[.slice A n c] w fun e w' => ∃ X d, e = .returned (.tuple #[.slice X 0 d, .bool false]) ∧ Below w.heap.size w w' := isSq_no_pf h hR hs
end
end Go.Proofs.Ytekgoceainibaaa
/- root's contracts in the form that laws use, and chapter 6's examples. Conditions: as typed. -/
namespace Go.Proofs.Ytekgoceainibaaa
open Go.RowKit
set_option maxRecDepth 20000
section
variable {w : World} {A A2 : Option Addr} {n m c c2 M N R : Nat}
theorem bRoot6 (h : NatIn w A n c M) (k : Nat) (ki : Int) (hk : ki = (k : Int)) (h1 : k ≤ 10) (h0 : 0 < k) (hR : IsRoot k M R) (hs : n ≤ 200) : Calls Try.prog 13 #[.slice A n c, .int .i64 ki] w (OutN R w) := by
  subst hk
  have hb := h.bits
  have hn := hR.bits h0
  obtain ⟨l, rfl, rfl, h3, h4, h5, h6⟩ := h
  exact Calls.mono (root06 A c l k R w h5 h3 hs h1 h0 hR) fun _ _ h => h.out (by omega)
theorem bIs_no {d : Nat} (h : NatIs w A n c M) (k : NumIs w A2 m d N) (hne : M ≠ N) : Calls Try.prog 15 #[.slice A n c, .slice A2 m d] w fun e w' => e = .returned (.bool false) ∧ Below w.heap.size w w' := by
  obtain ⟨h1, h2, h3, h6⟩ := h
  obtain ⟨rfl, k2, k3, k4⟩ := k
  have hc := isN_any A A2 c d (wd M) N w h3 k4 (by omega) (by omega) k2
  rw [h1] at hc
  exact Calls.mono hc fun e w' ⟨he, hb⟩ => ⟨by rw [he, decide_eq_false fun e => hne ((wd_inj _ _).1 e)], hb⟩
theorem hOne6 (w : World) : Calls Try.prog 19 #[] w fun e w' => ∃ X, e = .returned (.slice X 1 1) ∧ NatIs w' X 1 1 1 ∧ Below w.heap.size w w' := by
  go_enter Try.func19, Try.ntmps19
  go_wp2_with fail
  go_ret
  have h := Rd.lit w .u64 40 [1]
  rw [← wd_d] at h
  exact ⟨_, rfl, ⟨by rw [wd_d]; rfl, by omega, h.more (by simp), Nat.le_refl _⟩, (Below.refl _ w).alloc (Nat.le_refl _) _⟩
/-- Cmp, told as the order is. -/
theorem cmp_less6 (h : NatIn w A n c M) (k : NatIn w A2 m c2 N) (hlt : M < N) : Calls Try.prog 21 #[.slice A n c, .slice A2 m c2] w fun e w' => e = .returned (.int .i64 (-1)) ∧ Below w.heap.size w w' := by
  have h := bCmp h k
  rwa [show cmpS M N = -1 by unfold cmpS; rw [if_pos hlt]] at h
theorem cmp_more6 (h : NatIn w A n c M) (k : NatIn w A2 m c2 N) (hlt : N < M) : Calls Try.prog 21 #[.slice A n c, .slice A2 m c2] w fun e w' => e = .returned (.int .i64 1) ∧ Below w.heap.size w w' := by
  have h := bCmp h k
  rwa [show cmpS M N = 1 by unfold cmpS; rw [if_neg (by omega), if_pos (by omega)]] at h
theorem cmp_le6 (h : NatIn w A n c M) (k : NatIn w A2 m c2 N) (hle : M ≤ N) : Calls Try.prog 21 #[.slice A n c, .slice A2 m c2] w fun e w' => ∃ t : Int, e = .returned (.int .i64 t) ∧ (-1 ≤ t ∧ t ≤ 0) ∧ Below w.heap.size w w' :=
  Calls.mono (bCmp h k) fun e w' ⟨he, hb⟩ => ⟨_, he, (by unfold cmpS; split <;> try split
                                                         all_goals omega), hb⟩
theorem cmp_ge6 (h : NatIn w A n c M) (k : NatIn w A2 m c2 N) (hle : N ≤ M) : Calls Try.prog 21 #[.slice A n c, .slice A2 m c2] w fun e w' => ∃ t : Int, e = .returned (.int .i64 t) ∧ (0 ≤ t ∧ t ≤ 1) ∧ Below w.heap.size w w' :=
  Calls.mono (bCmp h k) fun e w' ⟨he, hb⟩ => ⟨_, he, (by unfold cmpS; split <;> try split
                                                         all_goals omega), hb⟩
end
theorem natIs_zero6 {w : World} {X : Option Addr} {q d : Nat} (h : NatIs w X q d 0) : q = 0 := by have h := h.1; rw [length_wd, nbits_zero] at h; omega
theorem natIs_more6 {w : World} {X : Option Addr} {q d M : Nat} (h : NatIs w X q d M) (h0 : 0 < M) : ((q : Int) == 0) = false := by
  have h := h.1
  have h1 := (nbits_iff M).2 (by omega)
  rw [length_wd] at h
  simp
  omega
/-! The examples -/
theorem below_lit {w w' : World} {o : Obj} (h : Below (w.alloc o).heap.size (w.alloc o) w') : Below w.heap.size w w' := ((Below.refl _ w).alloc (Nat.le_refl _) o).trans (h.mono (by simp))
theorem sqrt_lit (l m : List Nat) (R : Nat) (w : World) (hl : Words l) (hn : l.length ≤ 100) (hR : IsRoot 2 (natOf l) R) (hm : wd R = m) : Calls Try.prog 9 #[.slice (some ⟨w.heap.size, 0, none⟩) l.length l.length] (w.alloc (.cells (ints .u64 l).toArray 40)) fun e w' => ∃ X d, e = .returned (.slice X m.length d) ∧ Rd .u64 w' w'.heap.size X m ∧ Below w.heap.size w w' := by
  refine Calls.mono (bSqrt (natIn_lit w l hl (by omega)) hR (by omega)) fun e w' ⟨X, q, d, he, h1, _, hb⟩ => ?_
  obtain ⟨e1, r1⟩ := h1.lit m hm
  subst e1
  exact ⟨X, d, he, r1, below_lit hb⟩
theorem cbrt_lit (l m : List Nat) (R : Nat) (w : World) (hl : Words l) (hn : l.length ≤ 100) (hR : IsRoot 3 (natOf l) R) (hm : wd R = m) : Calls Try.prog 10 #[.slice (some ⟨w.heap.size, 0, none⟩) l.length l.length] (w.alloc (.cells (ints .u64 l).toArray 40)) fun e w' => ∃ X d, e = .returned (.slice X m.length d) ∧ Rd .u64 w' w'.heap.size X m ∧ Below w.heap.size w w' := by
  refine Calls.mono (bCbrt (natIn_lit w l hl (by omega)) hR (by omega)) fun e w' ⟨X, q, d, he, h1, _, hb⟩ => ?_
  obtain ⟨e1, r1⟩ := h1.lit m hm
  subst e1
  exact ⟨X, d, he, r1, below_lit hb⟩
theorem one_word (x : Nat) (h : x < 18446744073709551616) : Words [x] := by intro y hy; simp at hy; omega
theorem is_49 (w : World) : Calls Try.prog 11 #[.slice (some ⟨w.heap.size, 0, none⟩) 1 1] (w.alloc (.cells #[.int .u64 49] 40)) fun e w' => ∃ X d, e = .returned (.tuple #[.slice X 1 d, .bool true]) ∧ Rd .u64 w' w'.heap.size X [7] ∧ Below w.heap.size w w' := by
  refine Calls.mono (bIsSq_yes (R := 7) (natIn_lit w [49] (one_word _ (by omega)) (by simp)) (by decide) (by simp)) fun e w' ⟨X, q, d, he, h1, hb⟩ => ?_
  obtain ⟨e1, r1⟩ := h1.lit [7] (wd_lit _ 3 (by decide) (by decide) _ (by decide))
  subst e1
  exact ⟨X, d, he, r1, below_lit hb⟩
theorem is_50 (w : World) : Calls Try.prog 11 #[.slice (some ⟨w.heap.size, 0, none⟩) 1 1] (w.alloc (.cells #[.int .u64 50] 40)) fun e w' => ∃ X d, e = .returned (.tuple #[.slice X 0 d, .bool false]) ∧ Below w.heap.size w w' := by
  refine Calls.mono (bIsSq_no (natIn_lit w [50] (one_word _ (by omega)) (by simp)) (fun R hR => ?_) (by simp)) fun e w' ⟨X, d, he, hb⟩ => ⟨X, d, he, below_lit hb⟩
  have h1 : IsRoot 2 (natOf [50]) 7 := ⟨by decide, by decide⟩
  have h2 := root_square h1 hR
  subst h2
  exact absurd hR (by decide)
theorem sqrt_none (w : World) : Calls Try.prog 9 #[.slice none 0 0] w fun e w' => ∃ X d, e = .returned (.slice X 0 d) ∧ Below w.heap.size w w' := by
  refine Calls.mono (bSqrt (R := 0) (natIn_nil w) ⟨by decide, by decide⟩ (by omega)) fun e w' ⟨X, q, d, he, h1, _, hb⟩ => ?_
  have h := h1.1
  rw [length_wd, nbits_zero] at h
  have : q = 0 := by omega
  subst this
  exact ⟨X, d, he, hb⟩
set_option maxHeartbeats 2000000 in
theorem rootWorks_any (w : World) : Calls Try.prog 7 #[] w fun e w' => e = .returned (.bool true) ∧ Below w.heap.size w w' := by
  go_enter Try.func7, Try.ntmps7
  go_wp2_with fail
  refine (is_49 w).mono ?_
  rintro e w1 ⟨X1, d1, rfl, R1, b1⟩
  have B1 := b1
  go_wp2_with fail
  refine (is_50 w1).mono ?_
  rintro e w2 ⟨X2, d2, rfl, b2⟩
  have B2 := below_step B1 b2
  have R1 := rd_step R1 b2
  go_wp2_with fail
  refine (sqrt_none w2).mono ?_
  rintro e w3 ⟨X3, d3, rfl, b3⟩
  have B3 := below_step B2 b3
  have R1 := rd_step R1 b3
  go_wp2_with fail
  refine (sqrt_lit [24] [4] (4) w3 (by intro y hy; simp at hy; omega) (by decide) (⟨by decide, by decide⟩) (wd_lit _ 3 (by decide) (by decide) _ (by decide))).mono ?_
  rintro e w4 ⟨Y1, f1, rfl, T1, b4⟩
  have B4 := below_step B3 b4
  have R1 := rd_step R1 b4
  go_wp2_with fail
  refine (same_lit _ [4] _ _ T1 (by decide)).mono ?_
  rintro e w5 ⟨rfl, b5⟩
  have B5 := below_step B4 b5
  have R1 := rd_step R1 b5
  clear T1
  go_wp2_with fail
  refine (sqrt_lit [25] [5] (5) w5 (by intro y hy; simp at hy; omega) (by decide) (⟨by decide, by decide⟩) (wd_lit _ 3 (by decide) (by decide) _ (by decide))).mono ?_
  rintro e w6 ⟨Y2, f2, rfl, T2, b6⟩
  have B6 := below_step B5 b6
  have R1 := rd_step R1 b6
  go_wp2_with fail
  refine (same_lit _ [5] _ _ T2 (by decide)).mono ?_
  rintro e w7 ⟨rfl, b7⟩
  have B7 := below_step B6 b7
  have R1 := rd_step R1 b7
  clear T2
  go_wp2_with fail
  refine (sqrt_lit [0, 0, 1] [0, 1] (2 ^ 64) w7 (by intro y hy; simp at hy; omega) (by decide) (⟨by decide, by decide⟩) (wd_lit _ 65 (by decide) (by decide) _ (by decide))).mono ?_
  rintro e w8 ⟨Y3, f3, rfl, T3, b8⟩
  have B8 := below_step B7 b8
  have R1 := rd_step R1 b8
  go_wp2_with fail
  refine (same_lit _ [0, 1] _ _ T3 (by decide)).mono ?_
  rintro e w9 ⟨rfl, b9⟩
  have B9 := below_step B8 b9
  have R1 := rd_step R1 b9
  clear T3
  go_wp2_with fail
  refine (same_lit _ [7] _ _ R1 (by decide)).mono ?_
  rintro e w10 ⟨rfl, b10⟩
  have B10 := below_step B9 b10
  clear R1
  go_wp2_with fail
  refine (cbrt_lit [26] [2] (2) w10 (by intro y hy; simp at hy; omega) (by decide) (⟨by decide, by decide⟩) (wd_lit _ 2 (by decide) (by decide) _ (by decide))).mono ?_
  rintro e w11 ⟨Y4, f4, rfl, T4, b11⟩
  have B11 := below_step B10 b11
  go_wp2_with fail
  refine (same_lit _ [2] _ _ T4 (by decide)).mono ?_
  rintro e w12 ⟨rfl, b12⟩
  have B12 := below_step B11 b12
  clear T4
  go_wp2_with fail
  refine (cbrt_lit [0, 4294967296] [4294967296] (2 ^ 32) w12 (by intro y hy; simp at hy; omega) (by decide) (⟨by decide, by decide⟩) (wd_lit _ 33 (by decide) (by decide) _ (by decide))).mono ?_
  rintro e w13 ⟨Y5, f5, rfl, T5, b13⟩
  have B13 := below_step B12 b13
  go_wp2_with fail
  refine (same_lit _ [4294967296] _ _ T5 (by decide)).mono ?_
  rintro e w14 ⟨rfl, b14⟩
  have B14 := below_step B13 b14
  clear T5
  go_wp2_with fail
  go_ret
  exact ⟨rfl, B14⟩
end Go.Proofs.Ytekgoceainibaaa
/- RootPlays' walk: it answers true, and writes nothing that was there. No condition but what the arguments' types give. -/
namespace Go.Proofs.Ytekgoceainibaaa
open Go.RowKit
set_option maxHeartbeats 4000000 in
set_option maxRecDepth 100000 in
theorem rootPlays_walk (A0 : Option Addr) (c0 : Nat) (l0 : List Nat) (w : World) (r0 : Rd .u64 w w.heap.size A0 l0) (y0 : Words l0) (_z0 : l0.length * 8 ≤ 140737488351232) (u0 : l0.length ≤ c0) :
    Calls Try.prog 3 #[.slice A0 l0.length c0] w fun e w' => e = .returned (.bool true) ∧ Below w.heap.size w w' := by
  by_cases hv0 : 6 < l0.length
  · have hvd0 : decide (6 < (l0.length : Int)) = true := by simp; omega
    go_enter Try.func3, Try.ntmps3
    go_wp2_with fail
    refine (rootWorks_any _).mono ?_
    rintro e w1 ⟨rfl, b1⟩
    have B1 := b1
    go_wp2_with fail
    go_ret
    exact ⟨rfl, B1⟩
  · skip
    have hvd0 : decide (6 < (l0.length : Int)) = false := by simp; omega
    have P0 : RowIs w A0 l0.length c0 l0 := ⟨rfl, y0, by omega, r0, u0⟩
    clear r0 y0
    obtain ⟨x, hx⟩ := root_some 2 (natOf l0) (by omega)
    obtain ⟨y, hy⟩ := root_some 3 (natOf l0) (by omega)
    have HX := Lib.hid hx
    have HY := Lib.hid hy
    clear hx hy
    by_cases hq : x * x = natOf l0
    · have HE := Lib.hid hq
      have HQ := Lib.hid hq
      clear hq
      go_enter Try.func3, Try.ntmps3
      go_wp2_with fail
      refine (bCopy (c := c0) P0).mono ?_
      rintro e w1 ⟨X1, d1, rfl, P1, b1⟩
      have B1 := b1
      have P0 := P0.step b1
      go_wp2_with fail
      refine (bSqrt P1.in_ HX.out (by omega)).mono ?_
      rintro e w2 ⟨X2, q2, d2, rfl, S2, _, b2⟩
      have B2 := below_step B1 b2
      have P0 := P0.step b2
      have P1 := P1.step b2
      have hq2 : q2 ≤ 3900 := by have h := S2.1; rw [length_wd] at h; have n0 := P0.in_.bits; have := HX.out.bits (by omega); omega
      go_wp2_with fail
      refine (bCbrt P1.in_ HY.out (by omega)).mono ?_
      rintro e w3 ⟨X3, q3, d3, rfl, S3, _, b3⟩
      have B3 := below_step B2 b3
      have P0 := P0.step b3
      have P1 := P1.step b3
      have S2 := S2.step b3
      go_wp2_with fail
      refine (bIsSq_yes P1.in_ HQ.out (by omega)).mono ?_
      rintro e w4 ⟨X4, q4, d4, rfl, S4, b4⟩
      have B4 := below_step B3 b4
      have P0 := P0.step b4
      have P1 := P1.step b4
      have S2 := S2.step b4
      have S3 := S3.step b4
      go_wp2_with fail
      refine (bRoot6 P0.in_ 2 _ rfl (by omega) (by omega) HX.out (by omega)).mono ?_
      rintro e w5 ⟨X5, q5, d5, rfl, S5, _, b5⟩
      have B5 := below_step B4 b5
      have P0 := P0.step b5
      have P1 := P1.step b5
      have S2 := S2.step b5
      have S3 := S3.step b5
      have S4 := S4.step b5
      go_wp2_with fail
      refine (bSame S2 S5).mono ?_
      rintro e w11 ⟨rfl, b11⟩
      have B11 := below_step B5 b11
      have P0 := P0.step b11
      have P1 := P1.step b11
      have S2 := S2.step b11
      have S3 := S3.step b11
      have S4 := S4.step b11
      have S5 := S5.step b11
      clear S5
      go_wp2_with fail
      refine (bRoot6 P0.in_ 3 _ rfl (by omega) (by omega) HY.out (by omega)).mono ?_
      rintro e w12 ⟨X6, q6, d6, rfl, S6, _, b12⟩
      have B12 := below_step B11 b12
      have P0 := P0.step b12
      have P1 := P1.step b12
      have S2 := S2.step b12
      have S3 := S3.step b12
      have S4 := S4.step b12
      go_wp2_with fail
      refine (bSame S3 S6).mono ?_
      rintro e w21 ⟨rfl, b21⟩
      have B21 := below_step B12 b21
      have P0 := P0.step b21
      have P1 := P1.step b21
      have S2 := S2.step b21
      have S3 := S3.step b21
      have S4 := S4.step b21
      have S6 := S6.step b21
      clear S3 S6
      go_wp2_with fail
      refine (bSameRow (c := d1) (c2 := c0) P1 P0).mono ?_
      rintro e w22 ⟨rfl, b22⟩
      have B22 := below_step B21 b22
      have P0 := P0.step b22
      have P1 := P1.step b22
      have S2 := S2.step b22
      have S4 := S4.step b22
      go_wp2_with fail
      refine (bDigits (c := d2) S2.in_).mono ?_
      rintro e w23 ⟨X7, n7, d7, rfl, D7, b23⟩
      have B23 := below_step B22 b23
      have P0 := P0.step b23
      have P1 := P1.step b23
      have S2 := S2.step b23
      have S4 := S4.step b23
      go_wp2_with fail
      refine (bTrim P0.in_).mono ?_
      rintro e w24 ⟨X8, q8, d8, rfl, S8, _, b24⟩
      have B24 := below_step B23 b24
      have P0 := P0.step b24
      have P1 := P1.step b24
      have S2 := S2.step b24
      have S4 := S4.step b24
      have D7 := D7.step b24
      go_wp2_with fail
      refine (bTimes D7 D7 (by have h1 := D7.1; have h2 := P0.in_.bits; have h3 := HX.out.bits (by omega); omega) (by have h1 := D7.1; have h2 := P0.in_.bits; have h3 := HX.out.bits (by omega); omega)).mono ?_
      rintro e w31 ⟨X9, n9, d9, rfl, D9, b31⟩
      have B31 := below_step B24 b31
      have P0 := P0.step b31
      have P1 := P1.step b31
      have S2 := S2.step b31
      have S4 := S4.step b31
      have D7 := D7.step b31
      have S8 := S8.step b31
      clear D7
      have S8 := natIs_eq S8 HE.out.symm
      go_wp2_with fail
      refine (bIs (c := d8) S8 D9).mono ?_
      rintro e w32 ⟨rfl, b32⟩
      have B32 := below_step B31 b32
      have P0 := P0.step b32
      have P1 := P1.step b32
      have S2 := S2.step b32
      have S4 := S4.step b32
      have S8 := S8.step b32
      have D9 := D9.step b32
      clear S8 D9
      go_wp2_with fail
      refine (bSame S4 S2).mono ?_
      rintro e w33 ⟨rfl, b33⟩
      have B33 := below_step B32 b33
      have P0 := P0.step b33
      have P1 := P1.step b33
      have S2 := S2.step b33
      have S4 := S4.step b33
      go_wp2_with fail
      refine (rootWorks_any _).mono ?_
      rintro e w34 ⟨rfl, b34⟩
      have B34 := below_step B33 b34
      go_wp2_with fail
      go_ret
      exact ⟨rfl, B34⟩
    · have HE := Lib.hid (show natOf l0 ≠ x * x from fun e => hq e.symm)
      have HQ := Lib.hid (show ∀ R, R * R ≠ natOf l0 from fun R hR => hq (by rw [← root_square HX.out hR]; exact hR))
      clear hq
      go_enter Try.func3, Try.ntmps3
      go_wp2_with fail
      refine (bCopy (c := c0) P0).mono ?_
      rintro e w1 ⟨X1, d1, rfl, P1, b1⟩
      have B1 := b1
      have P0 := P0.step b1
      go_wp2_with fail
      refine (bSqrt P1.in_ HX.out (by omega)).mono ?_
      rintro e w2 ⟨X2, q2, d2, rfl, S2, _, b2⟩
      have B2 := below_step B1 b2
      have P0 := P0.step b2
      have P1 := P1.step b2
      have hq2 : q2 ≤ 3900 := by have h := S2.1; rw [length_wd] at h; have n0 := P0.in_.bits; have := HX.out.bits (by omega); omega
      go_wp2_with fail
      refine (bCbrt P1.in_ HY.out (by omega)).mono ?_
      rintro e w3 ⟨X3, q3, d3, rfl, S3, _, b3⟩
      have B3 := below_step B2 b3
      have P0 := P0.step b3
      have P1 := P1.step b3
      have S2 := S2.step b3
      go_wp2_with fail
      refine (bIsSq_no P1.in_ HQ.out (by omega)).mono ?_
      rintro e w4 ⟨X4, d4, rfl, b4⟩
      have B4 := below_step B3 b4
      have P0 := P0.step b4
      have P1 := P1.step b4
      have S2 := S2.step b4
      have S3 := S3.step b4
      go_wp2_with fail
      refine (bRoot6 P0.in_ 2 _ rfl (by omega) (by omega) HX.out (by omega)).mono ?_
      rintro e w5 ⟨X5, q5, d5, rfl, S5, _, b5⟩
      have B5 := below_step B4 b5
      have P0 := P0.step b5
      have P1 := P1.step b5
      have S2 := S2.step b5
      have S3 := S3.step b5
      go_wp2_with fail
      refine (bSame S2 S5).mono ?_
      rintro e w11 ⟨rfl, b11⟩
      have B11 := below_step B5 b11
      have P0 := P0.step b11
      have P1 := P1.step b11
      have S2 := S2.step b11
      have S3 := S3.step b11
      have S5 := S5.step b11
      clear S5
      go_wp2_with fail
      refine (bRoot6 P0.in_ 3 _ rfl (by omega) (by omega) HY.out (by omega)).mono ?_
      rintro e w12 ⟨X6, q6, d6, rfl, S6, _, b12⟩
      have B12 := below_step B11 b12
      have P0 := P0.step b12
      have P1 := P1.step b12
      have S2 := S2.step b12
      have S3 := S3.step b12
      go_wp2_with fail
      refine (bSame S3 S6).mono ?_
      rintro e w21 ⟨rfl, b21⟩
      have B21 := below_step B12 b21
      have P0 := P0.step b21
      have P1 := P1.step b21
      have S2 := S2.step b21
      have S3 := S3.step b21
      have S6 := S6.step b21
      clear S3 S6
      go_wp2_with fail
      refine (bSameRow (c := d1) (c2 := c0) P1 P0).mono ?_
      rintro e w22 ⟨rfl, b22⟩
      have B22 := below_step B21 b22
      have P0 := P0.step b22
      have P1 := P1.step b22
      have S2 := S2.step b22
      go_wp2_with fail
      refine (bDigits (c := d2) S2.in_).mono ?_
      rintro e w23 ⟨X7, n7, d7, rfl, D7, b23⟩
      have B23 := below_step B22 b23
      have P0 := P0.step b23
      have P1 := P1.step b23
      have S2 := S2.step b23
      go_wp2_with fail
      refine (bTrim P0.in_).mono ?_
      rintro e w24 ⟨X8, q8, d8, rfl, S8, _, b24⟩
      have B24 := below_step B23 b24
      have P0 := P0.step b24
      have P1 := P1.step b24
      have S2 := S2.step b24
      have D7 := D7.step b24
      go_wp2_with fail
      refine (bTimes D7 D7 (by have h1 := D7.1; have h2 := P0.in_.bits; have h3 := HX.out.bits (by omega); omega) (by have h1 := D7.1; have h2 := P0.in_.bits; have h3 := HX.out.bits (by omega); omega)).mono ?_
      rintro e w31 ⟨X9, n9, d9, rfl, D9, b31⟩
      have B31 := below_step B24 b31
      have P0 := P0.step b31
      have P1 := P1.step b31
      have S2 := S2.step b31
      have D7 := D7.step b31
      have S8 := S8.step b31
      clear D7
      go_wp2_with fail
      refine (bIs_no (c := d8) S8 D9 HE.out).mono ?_
      rintro e w32 ⟨rfl, b32⟩
      have B32 := below_step B31 b32
      have P0 := P0.step b32
      have P1 := P1.step b32
      have S2 := S2.step b32
      have S8 := S8.step b32
      have D9 := D9.step b32
      clear S8 D9
      go_wp2_with fail
      refine (rootWorks_any _).mono ?_
      rintro e w33 ⟨rfl, b33⟩
      have B33 := below_step B32 b33
      go_wp2_with fail
      go_ret
      exact ⟨rfl, B33⟩
end Go.Proofs.Ytekgoceainibaaa
/- For the frame of each law's proof: a slice of bytes or of words that came in reads as a list of numbers. No condition but those typed. -/
namespace Go.Proofs.Ytekgoceainibaaa
open Go.RowKit
theorem fcell_lt {w : World} {p : Addr} {v : Value} (h : w.cell? p = some v) : p.block < w.heap.size := by
  rcases Nat.lt_or_ge p.block w.heap.size with h1 | h1
  · exact h1
  · simp [World.cell?, Array.getElem?_eq_none h1] at h
theorem row_nat {k : IntKind} {w : World} {x : Addr} {len cap : Nat} {zs : List Int} (M : Nat) (hl : len ≤ cap) (hz : zs.length = cap) (hcell : ∀ i, i < zs.length → w.cell? (x.add i) = some (.int k (zs.getD i 0)))
    (hw : ∀ n ∈ zs, 0 ≤ n ∧ n < M) : ∃ l : List Nat, l.length = len ∧ Rd k w w.heap.size (some x) l ∧ ∀ y ∈ l, y < M := by
  refine ⟨(zs.take len).map Int.toNat, by simp; omega, fun hlt => ?_, fun y hy => ?_⟩
  · have hlen : 0 < len := by simp at hlt; omega
    have h0 := hcell 0 (by omega)
    obtain ⟨b, off, spot⟩ := x
    have hs : spot = none := by simpa [Addr.add] using World.cell?_spot h0
    subst hs
    refine ⟨b, off, rfl, by simpa [Addr.add] using fcell_lt h0, fun j hj => ?_⟩
    have hj' : j < len ∧ j < zs.length := by simp at hj; omega
    have h1 := hcell j hj'.2
    rw [Addr.add_lit] at h1
    rw [h1]
    have h2 := hw zs[j] (List.getElem_mem hj'.2)
    simp only [nth, List.getD_eq_getElem?_getD, List.getElem?_map, List.getElem?_take, hj'.1, if_true, List.getElem?_eq_getElem hj'.2, Option.map_some, Option.getD_some]
    rw [Int.toNat_of_nonneg h2.1]
  · simp only [List.mem_map] at hy
    obtain ⟨z, hz1, rfl⟩ := hy
    have := hw z (List.mem_of_mem_take hz1)
    omega
theorem row_u64 {w : World} {x : Addr} {len cap : Nat} {zs : List Int} (hl : len ≤ cap) (hz : zs.length = cap) (hcell : ∀ i, i < zs.length → w.cell? (x.add i) = some (.int .u64 (zs.getD i 0)))
    (hw : ∀ n ∈ zs, (Lit.int .u64 n).wf = true) : ∃ l : List Nat, l.length = len ∧ Rd .u64 w w.heap.size (some x) l ∧ Words l :=
  row_nat 18446744073709551616 hl hz hcell fun n hn => by
    have h : 0 ≤ n ∧ n ≤ 18446744073709551615 := by simpa [Lit.wf, IntKind.min, IntKind.max, IntKind.signed, IntKind.bits] using hw n hn
    omega
end Go.Proofs.Ytekgoceainibaaa
/- RootHolds' walk: it answers true, and writes nothing that was there. No condition but what the arguments' types give. -/
namespace Go.Proofs.Ytekgoceainibaaa
open Go.RowKit
set_option maxHeartbeats 4000000 in
set_option maxRecDepth 100000 in
theorem rootHolds_walk (A0 : Option Addr) (c0 : Nat) (l0 : List Nat) (w : World) (r0 : Rd .u64 w w.heap.size A0 l0) (y0 : Words l0) (_z0 : l0.length * 8 ≤ 140737488351232) (u0 : l0.length ≤ c0) :
    Calls Try.prog 4 #[.slice A0 l0.length c0] w fun e w' => e = .returned (.bool true) ∧ Below w.heap.size w w' := by
  by_cases hv0 : 40 < l0.length
  · have hvd0 : decide (40 < (l0.length : Int)) = true := by simp; omega
    go_enter Try.func4, Try.ntmps4
    go_wp2_with fail
    refine (rootWorks_any _).mono ?_
    rintro e w1 ⟨rfl, b1⟩
    have B1 := b1
    go_wp2_with fail
    go_ret
    exact ⟨rfl, B1⟩
  · skip
    have hvd0 : decide (40 < (l0.length : Int)) = false := by simp; omega
    have P0 : RowIs w A0 l0.length c0 l0 := ⟨rfl, y0, by omega, r0, u0⟩
    clear r0 y0
    obtain ⟨x, hx⟩ := root_some 2 (natOf l0) (by omega)
    obtain ⟨y, hy⟩ := root_some 3 (natOf l0) (by omega)
    have HX := Lib.hid hx
    have HY := Lib.hid hy
    clear hx hy
    go_enter Try.func4, Try.ntmps4
    go_wp2_with fail
    refine (bSqrt P0.in_ HX.out (by omega)).mono ?_
    rintro e w1 ⟨X2, q2, d2, rfl, S2, _, b1⟩
    have B1 := b1
    have P0 := P0.step b1
    have hq2 : q2 ≤ 3900 := by have h := S2.1; rw [length_wd] at h; have n0 := P0.in_.bits; have i1 := HX.out.bits (by omega); omega
    go_wp2_with fail
    refine (bCbrt P0.in_ HY.out (by omega)).mono ?_
    rintro e w2 ⟨X3, q3, d3, rfl, S3, _, b2⟩
    have B2 := below_step B1 b2
    have P0 := P0.step b2
    have S2 := S2.step b2
    have hq3 : q3 ≤ 3900 := by have h := S3.1; rw [length_wd] at h; have n0 := P0.in_.bits; have i1 := HY.out.bits (by omega); omega
    go_wp2_with fail
    refine (hOne6 _).mono ?_
    rintro e w3 ⟨O1, rfl, N1, b3⟩
    have B3 := below_step B2 b3
    have P0 := P0.step b3
    have S2 := S2.step b3
    have S3 := S3.step b3
    go_wp2_with fail
    refine (bAdd S2.in_ N1.in_ (by omega)).mono ?_
    rintro e w4 ⟨X4, q4, d4, rfl, S4, _, b4⟩
    have B4 := below_step B3 b4
    have P0 := P0.step b4
    have S2 := S2.step b4
    have S3 := S3.step b4
    have N1 := N1.step b4
    have hq4 : q4 ≤ 3900 := by have h := S4.1; rw [length_wd] at h; have n0 := P0.in_.bits; have i1 := HX.out.bits (by omega); have i2 := nbits_add x 1; rw [nbits_one] at i2; omega
    clear N1
    go_wp2_with fail
    refine (hOne6 _).mono ?_
    rintro e w11 ⟨O2, rfl, N2, b11⟩
    have B11 := below_step B4 b11
    have P0 := P0.step b11
    have S2 := S2.step b11
    have S3 := S3.step b11
    have S4 := S4.step b11
    go_wp2_with fail
    refine (bAdd S3.in_ N2.in_ (by omega)).mono ?_
    rintro e w12 ⟨X5, q5, d5, rfl, S5, _, b12⟩
    have B12 := below_step B11 b12
    have P0 := P0.step b12
    have S2 := S2.step b12
    have S3 := S3.step b12
    have S4 := S4.step b12
    have N2 := N2.step b12
    have hq5 : q5 ≤ 3900 := by have h := S5.1; rw [length_wd] at h; have n0 := P0.in_.bits; have i1 := HY.out.bits (by omega); have i2 := nbits_add y 1; rw [nbits_one] at i2; omega
    clear N2
    go_wp2_with fail
    refine (bMay S2).mono ?_
    rintro e w21 ⟨rfl, b21⟩
    have B21 := below_step B12 b21
    have P0 := P0.step b21
    have S2 := S2.step b21
    have S3 := S3.step b21
    have S4 := S4.step b21
    have S5 := S5.step b21
    go_wp2_with fail
    refine (bMay S3).mono ?_
    rintro e w22 ⟨rfl, b22⟩
    have B22 := below_step B21 b22
    have P0 := P0.step b22
    have S2 := S2.step b22
    have S3 := S3.step b22
    have S4 := S4.step b22
    have S5 := S5.step b22
    go_wp2_with fail
    refine (bSquare S2.in_ (by omega)).mono ?_
    rintro e w23 ⟨X6, q6, d6, rfl, S6, _, b23⟩
    have B23 := below_step B22 b23
    have P0 := P0.step b23
    have S2 := S2.step b23
    have S3 := S3.step b23
    have S4 := S4.step b23
    have S5 := S5.step b23
    go_wp2_with fail
    refine (cmp_le6 S6.in_ P0.in_ (isRoot_two.1 HX.out).1).mono ?_
    rintro e w24 ⟨t1, rfl, hs1, b24⟩
    have B24 := below_step B23 b24
    have P0 := P0.step b24
    have S2 := S2.step b24
    have S3 := S3.step b24
    have S4 := S4.step b24
    have S5 := S5.step b24
    have S6 := S6.step b24
    clear S6
    go_wp2_with fail
    refine (bSquare S4.in_ (by omega)).mono ?_
    rintro e w31 ⟨X7, q7, d7, rfl, S7, _, b31⟩
    have B31 := below_step B24 b31
    have P0 := P0.step b31
    have S2 := S2.step b31
    have S3 := S3.step b31
    have S4 := S4.step b31
    have S5 := S5.step b31
    go_wp2_with fail
    refine (cmp_more6 S7.in_ P0.in_ (isRoot_two.1 HX.out).2).mono ?_
    rintro e w32 ⟨rfl, b32⟩
    have B32 := below_step B31 b32
    have P0 := P0.step b32
    have S2 := S2.step b32
    have S3 := S3.step b32
    have S4 := S4.step b32
    have S5 := S5.step b32
    have S7 := S7.step b32
    clear S7 S4 S2
    go_wp2_with fail
    refine (bSquare S3.in_ (by omega)).mono ?_
    rintro e w33 ⟨X8, q8, d8, rfl, S8, _, b33⟩
    have B33 := below_step B32 b33
    have P0 := P0.step b33
    have S3 := S3.step b33
    have S5 := S5.step b33
    have hq8 : q8 ≤ 3900 := by have h := S8.1; rw [length_wd] at h; have n0 := P0.in_.bits; have i1 := HY.out.bits (by omega); have i3 := nbits_mul y y; omega
    go_wp2_with fail
    refine (bMul S3.in_ S8.in_ (by omega) (by omega)).mono ?_
    rintro e w41 ⟨X9, q9, d9, rfl, S9, _, b41⟩
    have B41 := below_step B33 b41
    have P0 := P0.step b41
    have S3 := S3.step b41
    have S5 := S5.step b41
    have S8 := S8.step b41
    go_wp2_with fail
    refine (cmp_le6 S9.in_ P0.in_ (isRoot_three.1 HY.out).1).mono ?_
    rintro e w42 ⟨t2, rfl, hs2, b42⟩
    have B42 := below_step B41 b42
    have P0 := P0.step b42
    have S3 := S3.step b42
    have S5 := S5.step b42
    have S8 := S8.step b42
    have S9 := S9.step b42
    clear S9 S8 S3
    go_wp2_with fail
    refine (bSquare S5.in_ (by omega)).mono ?_
    rintro e w43 ⟨X10, q10, d10, rfl, S10, _, b43⟩
    have B43 := below_step B42 b43
    have P0 := P0.step b43
    have S5 := S5.step b43
    have hq10 : q10 ≤ 3900 := by have h := S10.1; rw [length_wd] at h; have n0 := P0.in_.bits; have i1 := HY.out.bits (by omega); have i2 := nbits_add y 1; rw [nbits_one] at i2; have i3 := nbits_mul (y + 1) (y + 1); omega
    go_wp2_with fail
    refine (bMul S5.in_ S10.in_ (by omega) (by omega)).mono ?_
    rintro e w51 ⟨X11, q11, d11, rfl, S11, _, b51⟩
    have B51 := below_step B43 b51
    have P0 := P0.step b51
    have S5 := S5.step b51
    have S10 := S10.step b51
    go_wp2_with fail
    refine (cmp_more6 S11.in_ P0.in_ (isRoot_three.1 HY.out).2).mono ?_
    rintro e w52 ⟨rfl, b52⟩
    have B52 := below_step B51 b52
    have P0 := P0.step b52
    have S5 := S5.step b52
    have S10 := S10.step b52
    have S11 := S11.step b52
    go_wp2_with fail
    refine (rootWorks_any _).mono ?_
    rintro e w53 ⟨rfl, b53⟩
    have B53 := below_step B52 b53
    go_wp2_with fail
    go_ret
    exact ⟨rfl, B53⟩
end Go.Proofs.Ytekgoceainibaaa
/- RootBack' walk: it answers true, and writes nothing that was there. No condition but what the arguments' types give. -/
namespace Go.Proofs.Ytekgoceainibaaa
open Go.RowKit
set_option maxHeartbeats 4000000 in
set_option maxRecDepth 100000 in
theorem rootBack_walk (A0 : Option Addr) (c0 : Nat) (l0 : List Nat) (w : World) (r0 : Rd .u64 w w.heap.size A0 l0) (y0 : Words l0) (_z0 : l0.length * 8 ≤ 140737488351232) (u0 : l0.length ≤ c0) :
    Calls Try.prog 5 #[.slice A0 l0.length c0] w fun e w' => e = .returned (.bool true) ∧ Below w.heap.size w w' := by
  by_cases hv0 : 30 < l0.length
  · have hvd0 : decide (30 < (l0.length : Int)) = true := by simp; omega
    go_enter Try.func5, Try.ntmps5
    go_wp2_with fail
    refine (rootWorks_any _).mono ?_
    rintro e w1 ⟨rfl, b1⟩
    have B1 := b1
    go_wp2_with fail
    go_ret
    exact ⟨rfl, B1⟩
  · skip
    have hvd0 : decide (30 < (l0.length : Int)) = false := by simp; omega
    have P0 : RowIs w A0 l0.length c0 l0 := ⟨rfl, y0, by omega, r0, u0⟩
    clear r0 y0
    by_cases hz : natOf l0 = 0
    · have H0 := Lib.hid hz
      clear hz
      go_enter Try.func5, Try.ntmps5
      go_wp2_with fail
      refine (bTrim P0.in_).mono ?_
      rintro e w1 ⟨X1, q1, d1, rfl, S1, _, b1⟩
      have B1 := b1
      have P0 := P0.step b1
      have hq1 : q1 ≤ 3900 := by have h := S1.1; rw [length_wd] at h; have n0 := P0.in_.bits; omega
      go_wp2_with fail
      refine (bSquare S1.in_ (by omega)).mono ?_
      rintro e w2 ⟨X2, q2, d2, rfl, S2, _, b2⟩
      have B2 := below_step B1 b2
      have P0 := P0.step b2
      have S1 := S1.step b2
      have hq2 : q2 ≤ 3900 := by have h := S2.1; rw [length_wd] at h; have n0 := P0.in_.bits; have i1 := nbits_mul (natOf l0) (natOf l0); omega
      go_wp2_with fail
      refine (bAdd S1.in_ S1.in_ (by omega)).mono ?_
      rintro e w3 ⟨X3, q3, d3, rfl, S3, _, b3⟩
      have B3 := below_step B2 b3
      have P0 := P0.step b3
      have S1 := S1.step b3
      have S2 := S2.step b3
      have hq3 : q3 ≤ 3900 := by have h := S3.1; rw [length_wd] at h; have n0 := P0.in_.bits; have i1 := nbits_mul (natOf l0) (natOf l0); have i2 := nbits_add (natOf l0) (natOf l0); have i3 := nbits_add (natOf l0 * natOf l0) (natOf l0 + natOf l0); omega
      go_wp2_with fail
      refine (bAdd S2.in_ S3.in_ (by omega)).mono ?_
      rintro e w4 ⟨X4, q4, d4, rfl, S4, _, b4⟩
      have B4 := below_step B3 b4
      have P0 := P0.step b4
      have S1 := S1.step b4
      have S2 := S2.step b4
      have S3 := S3.step b4
      have hq4 : q4 ≤ 3900 := by have h := S4.1; rw [length_wd] at h; have n0 := P0.in_.bits; have i1 := nbits_mul (natOf l0) (natOf l0); have i2 := nbits_add (natOf l0) (natOf l0); have i3 := nbits_add (natOf l0 * natOf l0) (natOf l0 + natOf l0); omega
      clear S3
      go_wp2_with fail
      refine (bIsSq_yes S2.in_ rfl (by omega)).mono ?_
      rintro e w5 ⟨X5, q5, d5, rfl, S5, b5⟩
      have B5 := below_step B4 b5
      have P0 := P0.step b5
      have S1 := S1.step b5
      have S2 := S2.step b5
      have S4 := S4.step b5
      go_wp2_with fail
      refine (bIsSq_yes (R := 0) S4.in_ (by rw [H0.out]) (by omega)).mono ?_
      rintro e w6 ⟨X6, q6, d6, rfl, S6, b6⟩
      have B6 := below_step B5 b6
      have P0 := P0.step b6
      have S1 := S1.step b6
      have S2 := S2.step b6
      have S4 := S4.step b6
      have S5 := S5.step b6
      obtain rfl := natIs_zero6 (natIs_eq S1 H0.out)
      go_wp2_with fail
      refine (bSame S5 S1).mono ?_
      rintro e w11 ⟨rfl, b11⟩
      have B11 := below_step B6 b11
      have P0 := P0.step b11
      have S1 := S1.step b11
      have S2 := S2.step b11
      have S4 := S4.step b11
      have S5 := S5.step b11
      clear S5
      go_wp2_with fail
      refine (bSqrt S2.in_ (root_sq _) (by omega)).mono ?_
      rintro e w12 ⟨X12, q12, d12, rfl, S12, _, b12⟩
      have B12 := below_step B11 b12
      have P0 := P0.step b12
      have S1 := S1.step b12
      have S2 := S2.step b12
      have S4 := S4.step b12
      go_wp2_with fail
      refine (bSame S12 S1).mono ?_
      rintro e w21 ⟨rfl, b21⟩
      have B21 := below_step B12 b21
      have P0 := P0.step b21
      have S1 := S1.step b21
      have S2 := S2.step b21
      have S4 := S4.step b21
      have S12 := S12.step b21
      clear S12
      go_wp2_with fail
      refine (bSqrt S4.in_ (root_top _) (by omega)).mono ?_
      rintro e w22 ⟨X13, q13, d13, rfl, S13, _, b22⟩
      have B22 := below_step B21 b22
      have P0 := P0.step b22
      have S1 := S1.step b22
      have S2 := S2.step b22
      have S4 := S4.step b22
      go_wp2_with fail
      refine (bSame S13 S1).mono ?_
      rintro e w31 ⟨rfl, b31⟩
      have B31 := below_step B22 b31
      have P0 := P0.step b31
      have S1 := S1.step b31
      have S2 := S2.step b31
      have S4 := S4.step b31
      have S13 := S13.step b31
      clear S13
      go_wp2_with fail
      refine (hOne6 _).mono ?_
      rintro e w32 ⟨O1, rfl, N1, b32⟩
      have B32 := below_step B31 b32
      have P0 := P0.step b32
      have S1 := S1.step b32
      have S2 := S2.step b32
      have S4 := S4.step b32
      go_wp2_with fail
      refine (bAdd S4.in_ N1.in_ (by omega)).mono ?_
      rintro e w33 ⟨X14, q14, d14, rfl, S14, _, b33⟩
      have B33 := below_step B32 b33
      have P0 := P0.step b33
      have S1 := S1.step b33
      have S2 := S2.step b33
      have S4 := S4.step b33
      have N1 := N1.step b33
      have hq14 : q14 ≤ 3900 := by have h := S14.1; rw [length_wd] at h; have n0 := P0.in_.bits; have i1 := nbits_mul (natOf l0) (natOf l0); have i2 := nbits_add (natOf l0) (natOf l0); have i3 := nbits_add (natOf l0 * natOf l0) (natOf l0 + natOf l0); have i4 := nbits_add (natOf l0 * natOf l0 + (natOf l0 + natOf l0)) 1; rw [nbits_one] at i4; omega
      clear N1 S4
      go_wp2_with fail
      refine (bSqrt S14.in_ (root_over _) (by omega)).mono ?_
      rintro e w41 ⟨X15, q15, d15, rfl, S15, _, b41⟩
      have B41 := below_step B33 b41
      have P0 := P0.step b41
      have S1 := S1.step b41
      have S2 := S2.step b41
      have S14 := S14.step b41
      clear S14
      go_wp2_with fail
      refine (hOne6 _).mono ?_
      rintro e w51 ⟨O2, rfl, N2, b51⟩
      have B51 := below_step B41 b51
      have P0 := P0.step b51
      have S1 := S1.step b51
      have S2 := S2.step b51
      have S15 := S15.step b51
      go_wp2_with fail
      refine (bAdd S1.in_ N2.in_ (by omega)).mono ?_
      rintro e w52 ⟨X16, q16, d16, rfl, S16, _, b52⟩
      have B52 := below_step B51 b52
      have P0 := P0.step b52
      have S1 := S1.step b52
      have S2 := S2.step b52
      have S15 := S15.step b52
      have N2 := N2.step b52
      clear N2
      go_wp2_with fail
      refine (bSame S15 S16).mono ?_
      rintro e w61 ⟨rfl, b61⟩
      have B61 := below_step B52 b61
      have P0 := P0.step b61
      have S1 := S1.step b61
      have S2 := S2.step b61
      have S15 := S15.step b61
      have S16 := S16.step b61
      clear S15 S16
      go_wp2_with fail
      refine (bMul S2.in_ S1.in_ (by omega) (by omega)).mono ?_
      rintro e w62 ⟨X17, q17, d17, rfl, S17, _, b62⟩
      have B62 := below_step B61 b62
      have P0 := P0.step b62
      have S1 := S1.step b62
      have S2 := S2.step b62
      have hq17 : q17 ≤ 3900 := by have h := S17.1; rw [length_wd] at h; have n0 := P0.in_.bits; have i1 := nbits_mul (natOf l0) (natOf l0); have i5 := nbits_mul (natOf l0 * natOf l0) (natOf l0); omega
      go_wp2_with fail
      refine (bCbrt S17.in_ (root_cb _) (by omega)).mono ?_
      rintro e w71 ⟨X18, q18, d18, rfl, S18, _, b71⟩
      have B71 := below_step B62 b71
      have P0 := P0.step b71
      have S1 := S1.step b71
      have S2 := S2.step b71
      have S17 := S17.step b71
      clear S17
      go_wp2_with fail
      refine (bSame S18 S1).mono ?_
      rintro e w81 ⟨rfl, b81⟩
      have B81 := below_step B71 b81
      have P0 := P0.step b81
      have S1 := S1.step b81
      have S2 := S2.step b81
      have S18 := S18.step b81
      clear S18
      go_wp2_with fail
      refine (rootWorks_any _).mono ?_
      rintro e w82 ⟨rfl, b82⟩
      have B82 := below_step B81 b82
      go_wp2_with fail
      go_ret
      exact ⟨rfl, B82⟩
    · have H0 := Lib.hid (Nat.pos_of_ne_zero hz)
      clear hz
      go_enter Try.func5, Try.ntmps5
      go_wp2_with fail
      refine (bTrim P0.in_).mono ?_
      rintro e w1 ⟨X1, q1, d1, rfl, S1, _, b1⟩
      have B1 := b1
      have P0 := P0.step b1
      have hq1 : q1 ≤ 3900 := by have h := S1.1; rw [length_wd] at h; have n0 := P0.in_.bits; omega
      go_wp2_with fail
      refine (bSquare S1.in_ (by omega)).mono ?_
      rintro e w2 ⟨X2, q2, d2, rfl, S2, _, b2⟩
      have B2 := below_step B1 b2
      have P0 := P0.step b2
      have S1 := S1.step b2
      have hq2 : q2 ≤ 3900 := by have h := S2.1; rw [length_wd] at h; have n0 := P0.in_.bits; have i1 := nbits_mul (natOf l0) (natOf l0); omega
      go_wp2_with fail
      refine (bAdd S1.in_ S1.in_ (by omega)).mono ?_
      rintro e w3 ⟨X3, q3, d3, rfl, S3, _, b3⟩
      have B3 := below_step B2 b3
      have P0 := P0.step b3
      have S1 := S1.step b3
      have S2 := S2.step b3
      have hq3 : q3 ≤ 3900 := by have h := S3.1; rw [length_wd] at h; have n0 := P0.in_.bits; have i1 := nbits_mul (natOf l0) (natOf l0); have i2 := nbits_add (natOf l0) (natOf l0); have i3 := nbits_add (natOf l0 * natOf l0) (natOf l0 + natOf l0); omega
      go_wp2_with fail
      refine (bAdd S2.in_ S3.in_ (by omega)).mono ?_
      rintro e w4 ⟨X4, q4, d4, rfl, S4, _, b4⟩
      have B4 := below_step B3 b4
      have P0 := P0.step b4
      have S1 := S1.step b4
      have S2 := S2.step b4
      have S3 := S3.step b4
      have hq4 : q4 ≤ 3900 := by have h := S4.1; rw [length_wd] at h; have n0 := P0.in_.bits; have i1 := nbits_mul (natOf l0) (natOf l0); have i2 := nbits_add (natOf l0) (natOf l0); have i3 := nbits_add (natOf l0 * natOf l0) (natOf l0 + natOf l0); omega
      clear S3
      go_wp2_with fail
      refine (bIsSq_yes S2.in_ rfl (by omega)).mono ?_
      rintro e w5 ⟨X5, q5, d5, rfl, S5, b5⟩
      have B5 := below_step B4 b5
      have P0 := P0.step b5
      have S1 := S1.step b5
      have S2 := S2.step b5
      have S4 := S4.step b5
      go_wp2_with fail
      refine (bIsSq_no S4.in_ (no_square _ H0.out) (by omega)).mono ?_
      rintro e w6 ⟨X6, d6, rfl, b6⟩
      have B6 := below_step B5 b6
      have P0 := P0.step b6
      have S1 := S1.step b6
      have S2 := S2.step b6
      have S4 := S4.step b6
      have S5 := S5.step b6
      have hq0 := natIs_more6 S1 H0.out
      go_wp2_with fail
      refine (bSame S5 S1).mono ?_
      rintro e w11 ⟨rfl, b11⟩
      have B11 := below_step B6 b11
      have P0 := P0.step b11
      have S1 := S1.step b11
      have S2 := S2.step b11
      have S4 := S4.step b11
      have S5 := S5.step b11
      clear S5
      go_wp2_with fail
      refine (bSqrt S2.in_ (root_sq _) (by omega)).mono ?_
      rintro e w12 ⟨X12, q12, d12, rfl, S12, _, b12⟩
      have B12 := below_step B11 b12
      have P0 := P0.step b12
      have S1 := S1.step b12
      have S2 := S2.step b12
      have S4 := S4.step b12
      go_wp2_with fail
      refine (bSame S12 S1).mono ?_
      rintro e w21 ⟨rfl, b21⟩
      have B21 := below_step B12 b21
      have P0 := P0.step b21
      have S1 := S1.step b21
      have S2 := S2.step b21
      have S4 := S4.step b21
      have S12 := S12.step b21
      clear S12
      go_wp2_with fail
      refine (bSqrt S4.in_ (root_top _) (by omega)).mono ?_
      rintro e w22 ⟨X13, q13, d13, rfl, S13, _, b22⟩
      have B22 := below_step B21 b22
      have P0 := P0.step b22
      have S1 := S1.step b22
      have S2 := S2.step b22
      have S4 := S4.step b22
      go_wp2_with fail
      refine (bSame S13 S1).mono ?_
      rintro e w31 ⟨rfl, b31⟩
      have B31 := below_step B22 b31
      have P0 := P0.step b31
      have S1 := S1.step b31
      have S2 := S2.step b31
      have S4 := S4.step b31
      have S13 := S13.step b31
      clear S13
      go_wp2_with fail
      refine (hOne6 _).mono ?_
      rintro e w32 ⟨O1, rfl, N1, b32⟩
      have B32 := below_step B31 b32
      have P0 := P0.step b32
      have S1 := S1.step b32
      have S2 := S2.step b32
      have S4 := S4.step b32
      go_wp2_with fail
      refine (bAdd S4.in_ N1.in_ (by omega)).mono ?_
      rintro e w33 ⟨X14, q14, d14, rfl, S14, _, b33⟩
      have B33 := below_step B32 b33
      have P0 := P0.step b33
      have S1 := S1.step b33
      have S2 := S2.step b33
      have S4 := S4.step b33
      have N1 := N1.step b33
      have hq14 : q14 ≤ 3900 := by have h := S14.1; rw [length_wd] at h; have n0 := P0.in_.bits; have i1 := nbits_mul (natOf l0) (natOf l0); have i2 := nbits_add (natOf l0) (natOf l0); have i3 := nbits_add (natOf l0 * natOf l0) (natOf l0 + natOf l0); have i4 := nbits_add (natOf l0 * natOf l0 + (natOf l0 + natOf l0)) 1; rw [nbits_one] at i4; omega
      clear N1 S4
      go_wp2_with fail
      refine (bSqrt S14.in_ (root_over _) (by omega)).mono ?_
      rintro e w41 ⟨X15, q15, d15, rfl, S15, _, b41⟩
      have B41 := below_step B33 b41
      have P0 := P0.step b41
      have S1 := S1.step b41
      have S2 := S2.step b41
      have S14 := S14.step b41
      clear S14
      go_wp2_with fail
      refine (hOne6 _).mono ?_
      rintro e w51 ⟨O2, rfl, N2, b51⟩
      have B51 := below_step B41 b51
      have P0 := P0.step b51
      have S1 := S1.step b51
      have S2 := S2.step b51
      have S15 := S15.step b51
      go_wp2_with fail
      refine (bAdd S1.in_ N2.in_ (by omega)).mono ?_
      rintro e w52 ⟨X16, q16, d16, rfl, S16, _, b52⟩
      have B52 := below_step B51 b52
      have P0 := P0.step b52
      have S1 := S1.step b52
      have S2 := S2.step b52
      have S15 := S15.step b52
      have N2 := N2.step b52
      clear N2
      go_wp2_with fail
      refine (bSame S15 S16).mono ?_
      rintro e w61 ⟨rfl, b61⟩
      have B61 := below_step B52 b61
      have P0 := P0.step b61
      have S1 := S1.step b61
      have S2 := S2.step b61
      have S15 := S15.step b61
      have S16 := S16.step b61
      clear S15 S16
      go_wp2_with fail
      refine (bMul S2.in_ S1.in_ (by omega) (by omega)).mono ?_
      rintro e w62 ⟨X17, q17, d17, rfl, S17, _, b62⟩
      have B62 := below_step B61 b62
      have P0 := P0.step b62
      have S1 := S1.step b62
      have S2 := S2.step b62
      have hq17 : q17 ≤ 3900 := by have h := S17.1; rw [length_wd] at h; have n0 := P0.in_.bits; have i1 := nbits_mul (natOf l0) (natOf l0); have i5 := nbits_mul (natOf l0 * natOf l0) (natOf l0); omega
      go_wp2_with fail
      refine (bCbrt S17.in_ (root_cb _) (by omega)).mono ?_
      rintro e w71 ⟨X18, q18, d18, rfl, S18, _, b71⟩
      have B71 := below_step B62 b71
      have P0 := P0.step b71
      have S1 := S1.step b71
      have S2 := S2.step b71
      have S17 := S17.step b71
      clear S17
      go_wp2_with fail
      refine (bSame S18 S1).mono ?_
      rintro e w81 ⟨rfl, b81⟩
      have B81 := below_step B71 b81
      have P0 := P0.step b81
      have S1 := S1.step b81
      have S2 := S2.step b81
      have S18 := S18.step b81
      clear S18
      go_wp2_with fail
      refine (hOne6 _).mono ?_
      rintro e w82 ⟨O3, rfl, N3, b82⟩
      have B82 := below_step B81 b82
      have P0 := P0.step b82
      have S1 := S1.step b82
      have S2 := S2.step b82
      go_wp2_with fail
      refine (sub_is S1.in_ N3.in_ H0.out).mono ?_
      rintro e w83 ⟨X19, q19, d19, rfl, S19, b83⟩
      have B83 := below_step B82 b83
      have P0 := P0.step b83
      have S1 := S1.step b83
      have S2 := S2.step b83
      have N3 := N3.step b83
      clear N3
      go_wp2_with fail
      refine (hOne6 _).mono ?_
      rintro e w84 ⟨O4, rfl, N4, b84⟩
      have B84 := below_step B83 b84
      have P0 := P0.step b84
      have S1 := S1.step b84
      have S2 := S2.step b84
      have S19 := S19.step b84
      go_wp2_with fail
      refine (sub_is S2.in_ N4.in_ (Nat.mul_pos H0.out H0.out)).mono ?_
      rintro e w85 ⟨X20, q20, d20, rfl, S20, b85⟩
      have B85 := below_step B84 b85
      have P0 := P0.step b85
      have S1 := S1.step b85
      have S2 := S2.step b85
      have S19 := S19.step b85
      have N4 := N4.step b85
      clear N4
      have hq20 : q20 ≤ 3900 := by have h := S20.1; rw [length_wd] at h; have n0 := P0.in_.bits; have i1 := nbits_mul (natOf l0) (natOf l0); have i6 := nbits_mono (Nat.sub_le (natOf l0 * natOf l0) 1); omega
      go_wp2_with fail
      refine (bMul S2.in_ S1.in_ (by omega) (by omega)).mono ?_
      rintro e w86 ⟨X21, q21, d21, rfl, S21, _, b86⟩
      have B86 := below_step B85 b86
      have P0 := P0.step b86
      have S1 := S1.step b86
      have S2 := S2.step b86
      have S19 := S19.step b86
      have S20 := S20.step b86
      have hq21 : q21 ≤ 3900 := by have h := S21.1; rw [length_wd] at h; have n0 := P0.in_.bits; have i1 := nbits_mul (natOf l0) (natOf l0); have i5 := nbits_mul (natOf l0 * natOf l0) (natOf l0); omega
      clear S2 S1
      go_wp2_with fail
      refine (hOne6 _).mono ?_
      rintro e w91 ⟨O5, rfl, N5, b91⟩
      have B91 := below_step B86 b91
      have P0 := P0.step b91
      have S19 := S19.step b91
      have S20 := S20.step b91
      have S21 := S21.step b91
      go_wp2_with fail
      refine (sub_is S21.in_ N5.in_ (Nat.mul_pos (Nat.mul_pos H0.out H0.out) H0.out)).mono ?_
      rintro e w92 ⟨X22, q22, d22, rfl, S22, b92⟩
      have B92 := below_step B91 b92
      have P0 := P0.step b92
      have S19 := S19.step b92
      have S20 := S20.step b92
      have S21 := S21.step b92
      have N5 := N5.step b92
      clear N5 S21
      have hq22 : q22 ≤ 3900 := by have h := S22.1; rw [length_wd] at h; have n0 := P0.in_.bits; have i1 := nbits_mul (natOf l0) (natOf l0); have i5 := nbits_mul (natOf l0 * natOf l0) (natOf l0); have i6 := nbits_mono (Nat.sub_le (natOf l0 * natOf l0 * natOf l0) 1); omega
      go_wp2_with fail
      refine (bSqrt S20.in_ (root_below _ H0.out) (by omega)).mono ?_
      rintro e w93 ⟨X23, q23, d23, rfl, S23, _, b93⟩
      have B93 := below_step B92 b93
      have P0 := P0.step b93
      have S19 := S19.step b93
      have S20 := S20.step b93
      have S22 := S22.step b93
      clear S20
      go_wp2_with fail
      refine (bSame S23 S19).mono ?_
      rintro e w101 ⟨rfl, b101⟩
      have B101 := below_step B93 b101
      have P0 := P0.step b101
      have S19 := S19.step b101
      have S22 := S22.step b101
      have S23 := S23.step b101
      clear S23
      go_wp2_with fail
      refine (bCbrt S22.in_ (root_below3 _ H0.out) (by omega)).mono ?_
      rintro e w102 ⟨X24, q24, d24, rfl, S24, _, b102⟩
      have B102 := below_step B101 b102
      have P0 := P0.step b102
      have S19 := S19.step b102
      have S22 := S22.step b102
      go_wp2_with fail
      refine (bSame S24 S19).mono ?_
      rintro e w111 ⟨rfl, b111⟩
      have B111 := below_step B102 b111
      have P0 := P0.step b111
      have S19 := S19.step b111
      have S22 := S22.step b111
      have S24 := S24.step b111
      go_wp2_with fail
      refine (rootWorks_any _).mono ?_
      rintro e w112 ⟨rfl, b112⟩
      have B112 := below_step B111 b112
      go_wp2_with fail
      go_ret
      exact ⟨rfl, B112⟩
end Go.Proofs.Ytekgoceainibaaa
/- RootOrder' walk: it answers true, and writes nothing that was there. No condition but what the arguments' types give. -/
namespace Go.Proofs.Ytekgoceainibaaa
open Go.RowKit
set_option maxHeartbeats 4000000 in
set_option maxRecDepth 100000 in
theorem rootOrder_walk (A0 : Option Addr) (c0 : Nat) (l0 : List Nat) (A1 : Option Addr) (c1 : Nat) (l1 : List Nat) (w : World) (r0 : Rd .u64 w w.heap.size A0 l0) (y0 : Words l0) (_z0 : l0.length * 8 ≤ 140737488351232) (u0 : l0.length ≤ c0) (r1 : Rd .u64 w w.heap.size A1 l1) (y1 : Words l1) (_z1 : l1.length * 8 ≤ 140737488351232) (u1 : l1.length ≤ c1) :
    Calls Try.prog 6 #[.slice A0 l0.length c0, .slice A1 l1.length c1] w fun e w' => e = .returned (.bool true) ∧ Below w.heap.size w w' := by
  by_cases hv0 : 20 < l0.length
  · have hvd0 : decide (20 < (l0.length : Int)) = true := by simp; omega
    go_enter Try.func6, Try.ntmps6
    go_wp2_with fail
    refine (rootWorks_any _).mono ?_
    rintro e w1 ⟨rfl, b1⟩
    have B1 := b1
    go_wp2_with fail
    go_ret
    exact ⟨rfl, B1⟩
  · by_cases hv1 : 20 < l1.length
    · have hvd1 : decide (20 < (l1.length : Int)) = true := by simp; omega
      have hvd0 : decide (20 < (l0.length : Int)) = false := by simp; omega
      go_enter Try.func6, Try.ntmps6
      go_wp2_with fail
      refine (rootWorks_any _).mono ?_
      rintro e w1 ⟨rfl, b1⟩
      have B1 := b1
      go_wp2_with fail
      go_ret
      exact ⟨rfl, B1⟩
    · skip
      have hvd0 : decide (20 < (l0.length : Int)) = false := by simp; omega
      have hvd1 : decide (20 < (l1.length : Int)) = false := by simp; omega
      have P0 : RowIs w A0 l0.length c0 l0 := ⟨rfl, y0, by omega, r0, u0⟩
      have P1 : RowIs w A1 l1.length c1 l1 := ⟨rfl, y1, by omega, r1, u1⟩
      clear r0 y0 r1 y1
      obtain ⟨x, hx⟩ := root_some 2 (natOf l0) (by omega)
      have HX := Lib.hid hx
      clear hx
      obtain ⟨y, hy⟩ := root_some 2 (natOf l1) (by omega)
      have HY := Lib.hid hy
      clear hy
      obtain ⟨u, hu⟩ := root_some 3 (natOf l0) (by omega)
      have HU := Lib.hid hu
      clear hu
      obtain ⟨v, hv⟩ := root_some 3 (natOf l1) (by omega)
      have HV := Lib.hid hv
      clear hv
      obtain ⟨s, hs⟩ := root_some 2 (natOf l0 * natOf l1) (by omega)
      have HS := Lib.hid hs
      clear hs
      obtain ⟨t, ht⟩ := root_some 3 (natOf l0 * natOf l1) (by omega)
      have HT := Lib.hid ht
      clear ht
      rcases Nat.lt_trichotomy (natOf l0) (natOf l1) with ho | ho | ho
      · have HO := Lib.hid ho
        clear ho
        go_enter Try.func6, Try.ntmps6
        go_wp2_with fail
        refine (bSqrt P0.in_ HX.out (by omega)).mono ?_
        rintro e w1 ⟨X1, q1, d1, rfl, S1, _, b1⟩
        have B1 := b1
        have P0 := P0.step b1
        have P1 := P1.step b1
        have hq1 : q1 ≤ 3900 := by have h := S1.1; rw [length_wd] at h; have n0 := P0.in_.bits; have n1 := P1.in_.bits; have i0 := nbits_mul (natOf l0) (natOf l1); have i1 := HX.out.bits (by omega); have i2 := HY.out.bits (by omega); have i3 := HU.out.bits (by omega); have i4 := HV.out.bits (by omega); have i5 := HS.out.bits (by omega); have i6 := HT.out.bits (by omega); omega
        go_wp2_with fail
        refine (bSqrt P1.in_ HY.out (by omega)).mono ?_
        rintro e w2 ⟨X2, q2, d2, rfl, S2, _, b2⟩
        have B2 := below_step B1 b2
        have P0 := P0.step b2
        have P1 := P1.step b2
        have S1 := S1.step b2
        have hq2 : q2 ≤ 3900 := by have h := S2.1; rw [length_wd] at h; have n0 := P0.in_.bits; have n1 := P1.in_.bits; have i0 := nbits_mul (natOf l0) (natOf l1); have i1 := HX.out.bits (by omega); have i2 := HY.out.bits (by omega); have i3 := HU.out.bits (by omega); have i4 := HV.out.bits (by omega); have i5 := HS.out.bits (by omega); have i6 := HT.out.bits (by omega); omega
        go_wp2_with fail
        refine (bCbrt P0.in_ HU.out (by omega)).mono ?_
        rintro e w3 ⟨X3, q3, d3, rfl, S3, _, b3⟩
        have B3 := below_step B2 b3
        have P0 := P0.step b3
        have P1 := P1.step b3
        have S1 := S1.step b3
        have S2 := S2.step b3
        have hq3 : q3 ≤ 3900 := by have h := S3.1; rw [length_wd] at h; have n0 := P0.in_.bits; have n1 := P1.in_.bits; have i0 := nbits_mul (natOf l0) (natOf l1); have i1 := HX.out.bits (by omega); have i2 := HY.out.bits (by omega); have i3 := HU.out.bits (by omega); have i4 := HV.out.bits (by omega); have i5 := HS.out.bits (by omega); have i6 := HT.out.bits (by omega); omega
        go_wp2_with fail
        refine (bCbrt P1.in_ HV.out (by omega)).mono ?_
        rintro e w4 ⟨X4, q4, d4, rfl, S4, _, b4⟩
        have B4 := below_step B3 b4
        have P0 := P0.step b4
        have P1 := P1.step b4
        have S1 := S1.step b4
        have S2 := S2.step b4
        have S3 := S3.step b4
        have hq4 : q4 ≤ 3900 := by have h := S4.1; rw [length_wd] at h; have n0 := P0.in_.bits; have n1 := P1.in_.bits; have i0 := nbits_mul (natOf l0) (natOf l1); have i1 := HX.out.bits (by omega); have i2 := HY.out.bits (by omega); have i3 := HU.out.bits (by omega); have i4 := HV.out.bits (by omega); have i5 := HS.out.bits (by omega); have i6 := HT.out.bits (by omega); omega
        go_wp2_with fail
        refine (cmp_less6 P0.in_ P1.in_ HO.out).mono ?_
        rintro e w5 ⟨rfl, b5⟩
        have B5 := below_step B4 b5
        have P0 := P0.step b5
        have P1 := P1.step b5
        have S1 := S1.step b5
        have S2 := S2.step b5
        have S3 := S3.step b5
        have S4 := S4.step b5
        go_wp2_with fail
        refine (cmp_le6 S1.in_ S2.in_ (root_mono HX.out HY.out (Nat.le_of_lt HO.out))).mono ?_
        rintro e w6 ⟨t1, rfl, ⟨ht1a, ht1b⟩, b6⟩
        have B6 := below_step B5 b6
        have P0 := P0.step b6
        have P1 := P1.step b6
        have S1 := S1.step b6
        have S2 := S2.step b6
        have S3 := S3.step b6
        have S4 := S4.step b6
        go_wp2_with fail
        refine (cmp_le6 S3.in_ S4.in_ (root_mono HU.out HV.out (Nat.le_of_lt HO.out))).mono ?_
        rintro e w7 ⟨t2, rfl, ⟨ht2a, ht2b⟩, b7⟩
        have B7 := below_step B6 b7
        have P0 := P0.step b7
        have P1 := P1.step b7
        have S1 := S1.step b7
        have S2 := S2.step b7
        have S3 := S3.step b7
        have S4 := S4.step b7
        go_wp2_with fail
        refine (bMul P0.in_ P1.in_ (by omega) (by omega)).mono ?_
        rintro e w21 ⟨X5, q5, d5, rfl, S5, _, b21⟩
        have B21 := below_step B7 b21
        have P0 := P0.step b21
        have P1 := P1.step b21
        have S1 := S1.step b21
        have S2 := S2.step b21
        have S3 := S3.step b21
        have S4 := S4.step b21
        have hq5 : q5 ≤ 3900 := by have h := S5.1; rw [length_wd] at h; have n0 := P0.in_.bits; have n1 := P1.in_.bits; have i0 := nbits_mul (natOf l0) (natOf l1); have i1 := HX.out.bits (by omega); have i2 := HY.out.bits (by omega); have i3 := HU.out.bits (by omega); have i4 := HV.out.bits (by omega); have i5 := HS.out.bits (by omega); have i6 := HT.out.bits (by omega); omega
        go_wp2_with fail
        refine (bSqrt S5.in_ HS.out (by omega)).mono ?_
        rintro e w22 ⟨X6, q6, d6, rfl, S6, _, b22⟩
        have B22 := below_step B21 b22
        have P0 := P0.step b22
        have P1 := P1.step b22
        have S1 := S1.step b22
        have S2 := S2.step b22
        have S3 := S3.step b22
        have S4 := S4.step b22
        have S5 := S5.step b22
        have hq6 : q6 ≤ 3900 := by have h := S6.1; rw [length_wd] at h; have n0 := P0.in_.bits; have n1 := P1.in_.bits; have i0 := nbits_mul (natOf l0) (natOf l1); have i1 := HX.out.bits (by omega); have i2 := HY.out.bits (by omega); have i3 := HU.out.bits (by omega); have i4 := HV.out.bits (by omega); have i5 := HS.out.bits (by omega); have i6 := HT.out.bits (by omega); omega
        go_wp2_with fail
        refine (bCbrt S5.in_ HT.out (by omega)).mono ?_
        rintro e w23 ⟨X7, q7, d7, rfl, S7, _, b23⟩
        have B23 := below_step B22 b23
        have P0 := P0.step b23
        have P1 := P1.step b23
        have S1 := S1.step b23
        have S2 := S2.step b23
        have S3 := S3.step b23
        have S4 := S4.step b23
        have S5 := S5.step b23
        have S6 := S6.step b23
        have hq7 : q7 ≤ 3900 := by have h := S7.1; rw [length_wd] at h; have n0 := P0.in_.bits; have n1 := P1.in_.bits; have i0 := nbits_mul (natOf l0) (natOf l1); have i1 := HX.out.bits (by omega); have i2 := HY.out.bits (by omega); have i3 := HU.out.bits (by omega); have i4 := HV.out.bits (by omega); have i5 := HS.out.bits (by omega); have i6 := HT.out.bits (by omega); omega
        clear S5
        go_wp2_with fail
        obtain ⟨wo, hwo⟩ : ∃ wo, w23.alloc (.cells #[.int .u64 1] 40) = wo := ⟨_, rfl⟩
        have N1 : NatIn wo (some ⟨w23.heap.size, 0, none⟩) 1 1 1 := hwo ▸ natIn_one w23
        have bo : Below w23.heap.size w23 wo := hwo ▸ (Below.refl _ w23).alloc (Nat.le_refl _) _
        rw [hwo]
        clear hwo
        have Bo := below_step B23 bo
        have P0 := P0.step bo
        have P1 := P1.step bo
        have S1 := S1.step bo
        have S2 := S2.step bo
        have S3 := S3.step bo
        have S4 := S4.step bo
        have S6 := S6.step bo
        have S7 := S7.step bo
        refine (bMul S1.in_ S2.in_ (by omega) (by omega)).mono ?_
        rintro e w25 ⟨X8, q8, d8, rfl, S8, _, b25⟩
        have B25 := below_step Bo b25
        have P0 := P0.step b25
        have P1 := P1.step b25
        have S1 := S1.step b25
        have S2 := S2.step b25
        have S3 := S3.step b25
        have S4 := S4.step b25
        have S6 := S6.step b25
        have S7 := S7.step b25
        have N1 := N1.step b25
        go_wp2_with fail
        refine (cmp_le6 S8.in_ S6.in_ (root_mul HX.out HY.out HS.out)).mono ?_
        rintro e w26 ⟨u1, rfl, ⟨hu1a, hu1b⟩, b26⟩
        have B26 := below_step B25 b26
        have P0 := P0.step b26
        have P1 := P1.step b26
        have S1 := S1.step b26
        have S2 := S2.step b26
        have S3 := S3.step b26
        have S4 := S4.step b26
        have S6 := S6.step b26
        have S7 := S7.step b26
        have N1 := N1.step b26
        have S8 := S8.step b26
        clear S8
        go_wp2_with fail
        refine (bAdd S1.in_ N1 (by omega)).mono ?_
        rintro e w41 ⟨X10, q10, d10, rfl, S10, _, b41⟩
        have B41 := below_step B26 b41
        have P0 := P0.step b41
        have P1 := P1.step b41
        have S1 := S1.step b41
        have S2 := S2.step b41
        have S3 := S3.step b41
        have S4 := S4.step b41
        have S6 := S6.step b41
        have S7 := S7.step b41
        have N1 := N1.step b41
        have hq10 : q10 ≤ 3900 := by have h := S10.1; rw [length_wd] at h; have n0 := P0.in_.bits; have n1 := P1.in_.bits; have i0 := nbits_mul (natOf l0) (natOf l1); have i1 := HX.out.bits (by omega); have i2 := HY.out.bits (by omega); have i3 := HU.out.bits (by omega); have i4 := HV.out.bits (by omega); have i5 := HS.out.bits (by omega); have i6 := HT.out.bits (by omega); have j := nbits_add x 1; rw [nbits_one] at j; omega
        go_wp2_with fail
        refine (bAdd S2.in_ N1 (by omega)).mono ?_
        rintro e w42 ⟨X11, q11, d11, rfl, S11, _, b42⟩
        have B42 := below_step B41 b42
        have P0 := P0.step b42
        have P1 := P1.step b42
        have S1 := S1.step b42
        have S2 := S2.step b42
        have S3 := S3.step b42
        have S4 := S4.step b42
        have S6 := S6.step b42
        have S7 := S7.step b42
        have N1 := N1.step b42
        have S10 := S10.step b42
        have hq11 : q11 ≤ 3900 := by have h := S11.1; rw [length_wd] at h; have n0 := P0.in_.bits; have n1 := P1.in_.bits; have i0 := nbits_mul (natOf l0) (natOf l1); have i1 := HX.out.bits (by omega); have i2 := HY.out.bits (by omega); have i3 := HU.out.bits (by omega); have i4 := HV.out.bits (by omega); have i5 := HS.out.bits (by omega); have i6 := HT.out.bits (by omega); have j := nbits_add y 1; rw [nbits_one] at j; omega
        go_wp2_with fail
        refine (bMul S10.in_ S11.in_ (by omega) (by omega)).mono ?_
        rintro e w43 ⟨X12, q12, d12, rfl, S12, _, b43⟩
        have B43 := below_step B42 b43
        have P0 := P0.step b43
        have P1 := P1.step b43
        have S1 := S1.step b43
        have S2 := S2.step b43
        have S3 := S3.step b43
        have S4 := S4.step b43
        have S6 := S6.step b43
        have S7 := S7.step b43
        have N1 := N1.step b43
        have S10 := S10.step b43
        have S11 := S11.step b43
        clear S10 S11
        go_wp2_with fail
        refine (cmp_more6 S12.in_ S6.in_ (root_mul_lt HX.out HY.out HS.out)).mono ?_
        rintro e w44 ⟨rfl, b44⟩
        have B44 := below_step B43 b44
        have P0 := P0.step b44
        have P1 := P1.step b44
        have S1 := S1.step b44
        have S2 := S2.step b44
        have S3 := S3.step b44
        have S4 := S4.step b44
        have S6 := S6.step b44
        have S7 := S7.step b44
        have N1 := N1.step b44
        have S12 := S12.step b44
        clear S12
        clear S6 S2
        go_wp2_with fail
        refine (bMul S3.in_ S4.in_ (by omega) (by omega)).mono ?_
        rintro e w61 ⟨X20, q20, d20, rfl, S20, _, b61⟩
        have B61 := below_step B44 b61
        have P0 := P0.step b61
        have P1 := P1.step b61
        have S1 := S1.step b61
        have S3 := S3.step b61
        have S4 := S4.step b61
        have S7 := S7.step b61
        have N1 := N1.step b61
        go_wp2_with fail
        refine (cmp_le6 S20.in_ S7.in_ (root_mul HU.out HV.out HT.out)).mono ?_
        rintro e w62 ⟨u2, rfl, ⟨hu2a, hu2b⟩, b62⟩
        have B62 := below_step B61 b62
        have P0 := P0.step b62
        have P1 := P1.step b62
        have S1 := S1.step b62
        have S3 := S3.step b62
        have S4 := S4.step b62
        have S7 := S7.step b62
        have N1 := N1.step b62
        have S20 := S20.step b62
        clear S20
        go_wp2_with fail
        refine (bAdd S3.in_ N1 (by omega)).mono ?_
        rintro e w81 ⟨X30, q30, d30, rfl, S30, _, b81⟩
        have B81 := below_step B62 b81
        have P0 := P0.step b81
        have P1 := P1.step b81
        have S1 := S1.step b81
        have S3 := S3.step b81
        have S4 := S4.step b81
        have S7 := S7.step b81
        have N1 := N1.step b81
        have hq30 : q30 ≤ 3900 := by have h := S30.1; rw [length_wd] at h; have n0 := P0.in_.bits; have n1 := P1.in_.bits; have i0 := nbits_mul (natOf l0) (natOf l1); have i1 := HX.out.bits (by omega); have i2 := HY.out.bits (by omega); have i3 := HU.out.bits (by omega); have i4 := HV.out.bits (by omega); have i5 := HS.out.bits (by omega); have i6 := HT.out.bits (by omega); have j := nbits_add u 1; rw [nbits_one] at j; omega
        go_wp2_with fail
        refine (bAdd S4.in_ N1 (by omega)).mono ?_
        rintro e w82 ⟨X31, q31, d31, rfl, S31, _, b82⟩
        have B82 := below_step B81 b82
        have P0 := P0.step b82
        have P1 := P1.step b82
        have S1 := S1.step b82
        have S3 := S3.step b82
        have S4 := S4.step b82
        have S7 := S7.step b82
        have N1 := N1.step b82
        have S30 := S30.step b82
        have hq31 : q31 ≤ 3900 := by have h := S31.1; rw [length_wd] at h; have n0 := P0.in_.bits; have n1 := P1.in_.bits; have i0 := nbits_mul (natOf l0) (natOf l1); have i1 := HX.out.bits (by omega); have i2 := HY.out.bits (by omega); have i3 := HU.out.bits (by omega); have i4 := HV.out.bits (by omega); have i5 := HS.out.bits (by omega); have i6 := HT.out.bits (by omega); have j := nbits_add v 1; rw [nbits_one] at j; omega
        go_wp2_with fail
        refine (bMul S30.in_ S31.in_ (by omega) (by omega)).mono ?_
        rintro e w83 ⟨X32, q32, d32, rfl, S32, _, b83⟩
        have B83 := below_step B82 b83
        have P0 := P0.step b83
        have P1 := P1.step b83
        have S1 := S1.step b83
        have S3 := S3.step b83
        have S4 := S4.step b83
        have S7 := S7.step b83
        have N1 := N1.step b83
        have S30 := S30.step b83
        have S31 := S31.step b83
        clear S30 S31
        go_wp2_with fail
        refine (cmp_more6 S32.in_ S7.in_ (root_mul_lt HU.out HV.out HT.out)).mono ?_
        rintro e w84 ⟨rfl, b84⟩
        have B84 := below_step B83 b84
        have P0 := P0.step b84
        have P1 := P1.step b84
        have S1 := S1.step b84
        have S3 := S3.step b84
        have S4 := S4.step b84
        have S7 := S7.step b84
        have N1 := N1.step b84
        have S32 := S32.step b84
        clear S32
        clear S7 S4
        go_wp2_with fail
        refine (cmp_le6 S3.in_ S1.in_ (root_three_two HU.out HX.out)).mono ?_
        rintro e w101 ⟨u3, rfl, ⟨hu3a, hu3b⟩, b101⟩
        have B101 := below_step B84 b101
        have P0 := P0.step b101
        have P1 := P1.step b101
        have S1 := S1.step b101
        have S3 := S3.step b101
        have N1 := N1.step b101
        go_wp2_with fail
        refine (rootWorks_any _).mono ?_
        rintro e w102 ⟨rfl, b102⟩
        have B102 := below_step B101 b102
        go_wp2_with fail
        go_ret
        exact ⟨rfl, B102⟩
      · have HO := Lib.hid ho
        clear ho
        go_enter Try.func6, Try.ntmps6
        go_wp2_with fail
        refine (bSqrt P0.in_ HX.out (by omega)).mono ?_
        rintro e w1 ⟨X1, q1, d1, rfl, S1, _, b1⟩
        have B1 := b1
        have P0 := P0.step b1
        have P1 := P1.step b1
        have hq1 : q1 ≤ 3900 := by have h := S1.1; rw [length_wd] at h; have n0 := P0.in_.bits; have n1 := P1.in_.bits; have i0 := nbits_mul (natOf l0) (natOf l1); have i1 := HX.out.bits (by omega); have i2 := HY.out.bits (by omega); have i3 := HU.out.bits (by omega); have i4 := HV.out.bits (by omega); have i5 := HS.out.bits (by omega); have i6 := HT.out.bits (by omega); omega
        go_wp2_with fail
        refine (bSqrt P1.in_ HY.out (by omega)).mono ?_
        rintro e w2 ⟨X2, q2, d2, rfl, S2, _, b2⟩
        have B2 := below_step B1 b2
        have P0 := P0.step b2
        have P1 := P1.step b2
        have S1 := S1.step b2
        have hq2 : q2 ≤ 3900 := by have h := S2.1; rw [length_wd] at h; have n0 := P0.in_.bits; have n1 := P1.in_.bits; have i0 := nbits_mul (natOf l0) (natOf l1); have i1 := HX.out.bits (by omega); have i2 := HY.out.bits (by omega); have i3 := HU.out.bits (by omega); have i4 := HV.out.bits (by omega); have i5 := HS.out.bits (by omega); have i6 := HT.out.bits (by omega); omega
        go_wp2_with fail
        refine (bCbrt P0.in_ HU.out (by omega)).mono ?_
        rintro e w3 ⟨X3, q3, d3, rfl, S3, _, b3⟩
        have B3 := below_step B2 b3
        have P0 := P0.step b3
        have P1 := P1.step b3
        have S1 := S1.step b3
        have S2 := S2.step b3
        have hq3 : q3 ≤ 3900 := by have h := S3.1; rw [length_wd] at h; have n0 := P0.in_.bits; have n1 := P1.in_.bits; have i0 := nbits_mul (natOf l0) (natOf l1); have i1 := HX.out.bits (by omega); have i2 := HY.out.bits (by omega); have i3 := HU.out.bits (by omega); have i4 := HV.out.bits (by omega); have i5 := HS.out.bits (by omega); have i6 := HT.out.bits (by omega); omega
        go_wp2_with fail
        refine (bCbrt P1.in_ HV.out (by omega)).mono ?_
        rintro e w4 ⟨X4, q4, d4, rfl, S4, _, b4⟩
        have B4 := below_step B3 b4
        have P0 := P0.step b4
        have P1 := P1.step b4
        have S1 := S1.step b4
        have S2 := S2.step b4
        have S3 := S3.step b4
        have hq4 : q4 ≤ 3900 := by have h := S4.1; rw [length_wd] at h; have n0 := P0.in_.bits; have n1 := P1.in_.bits; have i0 := nbits_mul (natOf l0) (natOf l1); have i1 := HX.out.bits (by omega); have i2 := HY.out.bits (by omega); have i3 := HU.out.bits (by omega); have i4 := HV.out.bits (by omega); have i5 := HS.out.bits (by omega); have i6 := HT.out.bits (by omega); omega
        go_wp2_with fail
        refine (cmp_same P0.in_ P1.in_ HO.out).mono ?_
        rintro e w5 ⟨rfl, b5⟩
        have B5 := below_step B4 b5
        have P0 := P0.step b5
        have P1 := P1.step b5
        have S1 := S1.step b5
        have S2 := S2.step b5
        have S3 := S3.step b5
        have S4 := S4.step b5
        go_wp2_with fail
        refine (cmp_same S1.in_ S2.in_ (HX.out.uniq (HO.out ▸ HY.out))).mono ?_
        rintro e w6 ⟨rfl, b6⟩
        have B6 := below_step B5 b6
        have P0 := P0.step b6
        have P1 := P1.step b6
        have S1 := S1.step b6
        have S2 := S2.step b6
        have S3 := S3.step b6
        have S4 := S4.step b6
        go_wp2_with fail
        refine (cmp_same S3.in_ S4.in_ (HU.out.uniq (HO.out ▸ HV.out))).mono ?_
        rintro e w7 ⟨rfl, b7⟩
        have B7 := below_step B6 b7
        have P0 := P0.step b7
        have P1 := P1.step b7
        have S1 := S1.step b7
        have S2 := S2.step b7
        have S3 := S3.step b7
        have S4 := S4.step b7
        go_wp2_with fail
        refine (cmp_same S1.in_ S2.in_ (HX.out.uniq (HO.out ▸ HY.out))).mono ?_
        rintro e w8 ⟨rfl, b8⟩
        have B8 := below_step B7 b8
        have P0 := P0.step b8
        have P1 := P1.step b8
        have S1 := S1.step b8
        have S2 := S2.step b8
        have S3 := S3.step b8
        have S4 := S4.step b8
        go_wp2_with fail
        refine (cmp_same S3.in_ S4.in_ (HU.out.uniq (HO.out ▸ HV.out))).mono ?_
        rintro e w9 ⟨rfl, b9⟩
        have B9 := below_step B8 b9
        have P0 := P0.step b9
        have P1 := P1.step b9
        have S1 := S1.step b9
        have S2 := S2.step b9
        have S3 := S3.step b9
        have S4 := S4.step b9
        go_wp2_with fail
        refine (bMul P0.in_ P1.in_ (by omega) (by omega)).mono ?_
        rintro e w21 ⟨X5, q5, d5, rfl, S5, _, b21⟩
        have B21 := below_step B9 b21
        have P0 := P0.step b21
        have P1 := P1.step b21
        have S1 := S1.step b21
        have S2 := S2.step b21
        have S3 := S3.step b21
        have S4 := S4.step b21
        have hq5 : q5 ≤ 3900 := by have h := S5.1; rw [length_wd] at h; have n0 := P0.in_.bits; have n1 := P1.in_.bits; have i0 := nbits_mul (natOf l0) (natOf l1); have i1 := HX.out.bits (by omega); have i2 := HY.out.bits (by omega); have i3 := HU.out.bits (by omega); have i4 := HV.out.bits (by omega); have i5 := HS.out.bits (by omega); have i6 := HT.out.bits (by omega); omega
        go_wp2_with fail
        refine (bSqrt S5.in_ HS.out (by omega)).mono ?_
        rintro e w22 ⟨X6, q6, d6, rfl, S6, _, b22⟩
        have B22 := below_step B21 b22
        have P0 := P0.step b22
        have P1 := P1.step b22
        have S1 := S1.step b22
        have S2 := S2.step b22
        have S3 := S3.step b22
        have S4 := S4.step b22
        have S5 := S5.step b22
        have hq6 : q6 ≤ 3900 := by have h := S6.1; rw [length_wd] at h; have n0 := P0.in_.bits; have n1 := P1.in_.bits; have i0 := nbits_mul (natOf l0) (natOf l1); have i1 := HX.out.bits (by omega); have i2 := HY.out.bits (by omega); have i3 := HU.out.bits (by omega); have i4 := HV.out.bits (by omega); have i5 := HS.out.bits (by omega); have i6 := HT.out.bits (by omega); omega
        go_wp2_with fail
        refine (bCbrt S5.in_ HT.out (by omega)).mono ?_
        rintro e w23 ⟨X7, q7, d7, rfl, S7, _, b23⟩
        have B23 := below_step B22 b23
        have P0 := P0.step b23
        have P1 := P1.step b23
        have S1 := S1.step b23
        have S2 := S2.step b23
        have S3 := S3.step b23
        have S4 := S4.step b23
        have S5 := S5.step b23
        have S6 := S6.step b23
        have hq7 : q7 ≤ 3900 := by have h := S7.1; rw [length_wd] at h; have n0 := P0.in_.bits; have n1 := P1.in_.bits; have i0 := nbits_mul (natOf l0) (natOf l1); have i1 := HX.out.bits (by omega); have i2 := HY.out.bits (by omega); have i3 := HU.out.bits (by omega); have i4 := HV.out.bits (by omega); have i5 := HS.out.bits (by omega); have i6 := HT.out.bits (by omega); omega
        clear S5
        go_wp2_with fail
        obtain ⟨wo, hwo⟩ : ∃ wo, w23.alloc (.cells #[.int .u64 1] 40) = wo := ⟨_, rfl⟩
        have N1 : NatIn wo (some ⟨w23.heap.size, 0, none⟩) 1 1 1 := hwo ▸ natIn_one w23
        have bo : Below w23.heap.size w23 wo := hwo ▸ (Below.refl _ w23).alloc (Nat.le_refl _) _
        rw [hwo]
        clear hwo
        have Bo := below_step B23 bo
        have P0 := P0.step bo
        have P1 := P1.step bo
        have S1 := S1.step bo
        have S2 := S2.step bo
        have S3 := S3.step bo
        have S4 := S4.step bo
        have S6 := S6.step bo
        have S7 := S7.step bo
        refine (bMul S1.in_ S2.in_ (by omega) (by omega)).mono ?_
        rintro e w25 ⟨X8, q8, d8, rfl, S8, _, b25⟩
        have B25 := below_step Bo b25
        have P0 := P0.step b25
        have P1 := P1.step b25
        have S1 := S1.step b25
        have S2 := S2.step b25
        have S3 := S3.step b25
        have S4 := S4.step b25
        have S6 := S6.step b25
        have S7 := S7.step b25
        have N1 := N1.step b25
        go_wp2_with fail
        refine (cmp_le6 S8.in_ S6.in_ (root_mul HX.out HY.out HS.out)).mono ?_
        rintro e w26 ⟨u1, rfl, ⟨hu1a, hu1b⟩, b26⟩
        have B26 := below_step B25 b26
        have P0 := P0.step b26
        have P1 := P1.step b26
        have S1 := S1.step b26
        have S2 := S2.step b26
        have S3 := S3.step b26
        have S4 := S4.step b26
        have S6 := S6.step b26
        have S7 := S7.step b26
        have N1 := N1.step b26
        have S8 := S8.step b26
        clear S8
        go_wp2_with fail
        refine (bAdd S1.in_ N1 (by omega)).mono ?_
        rintro e w41 ⟨X10, q10, d10, rfl, S10, _, b41⟩
        have B41 := below_step B26 b41
        have P0 := P0.step b41
        have P1 := P1.step b41
        have S1 := S1.step b41
        have S2 := S2.step b41
        have S3 := S3.step b41
        have S4 := S4.step b41
        have S6 := S6.step b41
        have S7 := S7.step b41
        have N1 := N1.step b41
        have hq10 : q10 ≤ 3900 := by have h := S10.1; rw [length_wd] at h; have n0 := P0.in_.bits; have n1 := P1.in_.bits; have i0 := nbits_mul (natOf l0) (natOf l1); have i1 := HX.out.bits (by omega); have i2 := HY.out.bits (by omega); have i3 := HU.out.bits (by omega); have i4 := HV.out.bits (by omega); have i5 := HS.out.bits (by omega); have i6 := HT.out.bits (by omega); have j := nbits_add x 1; rw [nbits_one] at j; omega
        go_wp2_with fail
        refine (bAdd S2.in_ N1 (by omega)).mono ?_
        rintro e w42 ⟨X11, q11, d11, rfl, S11, _, b42⟩
        have B42 := below_step B41 b42
        have P0 := P0.step b42
        have P1 := P1.step b42
        have S1 := S1.step b42
        have S2 := S2.step b42
        have S3 := S3.step b42
        have S4 := S4.step b42
        have S6 := S6.step b42
        have S7 := S7.step b42
        have N1 := N1.step b42
        have S10 := S10.step b42
        have hq11 : q11 ≤ 3900 := by have h := S11.1; rw [length_wd] at h; have n0 := P0.in_.bits; have n1 := P1.in_.bits; have i0 := nbits_mul (natOf l0) (natOf l1); have i1 := HX.out.bits (by omega); have i2 := HY.out.bits (by omega); have i3 := HU.out.bits (by omega); have i4 := HV.out.bits (by omega); have i5 := HS.out.bits (by omega); have i6 := HT.out.bits (by omega); have j := nbits_add y 1; rw [nbits_one] at j; omega
        go_wp2_with fail
        refine (bMul S10.in_ S11.in_ (by omega) (by omega)).mono ?_
        rintro e w43 ⟨X12, q12, d12, rfl, S12, _, b43⟩
        have B43 := below_step B42 b43
        have P0 := P0.step b43
        have P1 := P1.step b43
        have S1 := S1.step b43
        have S2 := S2.step b43
        have S3 := S3.step b43
        have S4 := S4.step b43
        have S6 := S6.step b43
        have S7 := S7.step b43
        have N1 := N1.step b43
        have S10 := S10.step b43
        have S11 := S11.step b43
        clear S10 S11
        go_wp2_with fail
        refine (cmp_more6 S12.in_ S6.in_ (root_mul_lt HX.out HY.out HS.out)).mono ?_
        rintro e w44 ⟨rfl, b44⟩
        have B44 := below_step B43 b44
        have P0 := P0.step b44
        have P1 := P1.step b44
        have S1 := S1.step b44
        have S2 := S2.step b44
        have S3 := S3.step b44
        have S4 := S4.step b44
        have S6 := S6.step b44
        have S7 := S7.step b44
        have N1 := N1.step b44
        have S12 := S12.step b44
        clear S12
        clear S6 S2
        go_wp2_with fail
        refine (bMul S3.in_ S4.in_ (by omega) (by omega)).mono ?_
        rintro e w61 ⟨X20, q20, d20, rfl, S20, _, b61⟩
        have B61 := below_step B44 b61
        have P0 := P0.step b61
        have P1 := P1.step b61
        have S1 := S1.step b61
        have S3 := S3.step b61
        have S4 := S4.step b61
        have S7 := S7.step b61
        have N1 := N1.step b61
        go_wp2_with fail
        refine (cmp_le6 S20.in_ S7.in_ (root_mul HU.out HV.out HT.out)).mono ?_
        rintro e w62 ⟨u2, rfl, ⟨hu2a, hu2b⟩, b62⟩
        have B62 := below_step B61 b62
        have P0 := P0.step b62
        have P1 := P1.step b62
        have S1 := S1.step b62
        have S3 := S3.step b62
        have S4 := S4.step b62
        have S7 := S7.step b62
        have N1 := N1.step b62
        have S20 := S20.step b62
        clear S20
        go_wp2_with fail
        refine (bAdd S3.in_ N1 (by omega)).mono ?_
        rintro e w81 ⟨X30, q30, d30, rfl, S30, _, b81⟩
        have B81 := below_step B62 b81
        have P0 := P0.step b81
        have P1 := P1.step b81
        have S1 := S1.step b81
        have S3 := S3.step b81
        have S4 := S4.step b81
        have S7 := S7.step b81
        have N1 := N1.step b81
        have hq30 : q30 ≤ 3900 := by have h := S30.1; rw [length_wd] at h; have n0 := P0.in_.bits; have n1 := P1.in_.bits; have i0 := nbits_mul (natOf l0) (natOf l1); have i1 := HX.out.bits (by omega); have i2 := HY.out.bits (by omega); have i3 := HU.out.bits (by omega); have i4 := HV.out.bits (by omega); have i5 := HS.out.bits (by omega); have i6 := HT.out.bits (by omega); have j := nbits_add u 1; rw [nbits_one] at j; omega
        go_wp2_with fail
        refine (bAdd S4.in_ N1 (by omega)).mono ?_
        rintro e w82 ⟨X31, q31, d31, rfl, S31, _, b82⟩
        have B82 := below_step B81 b82
        have P0 := P0.step b82
        have P1 := P1.step b82
        have S1 := S1.step b82
        have S3 := S3.step b82
        have S4 := S4.step b82
        have S7 := S7.step b82
        have N1 := N1.step b82
        have S30 := S30.step b82
        have hq31 : q31 ≤ 3900 := by have h := S31.1; rw [length_wd] at h; have n0 := P0.in_.bits; have n1 := P1.in_.bits; have i0 := nbits_mul (natOf l0) (natOf l1); have i1 := HX.out.bits (by omega); have i2 := HY.out.bits (by omega); have i3 := HU.out.bits (by omega); have i4 := HV.out.bits (by omega); have i5 := HS.out.bits (by omega); have i6 := HT.out.bits (by omega); have j := nbits_add v 1; rw [nbits_one] at j; omega
        go_wp2_with fail
        refine (bMul S30.in_ S31.in_ (by omega) (by omega)).mono ?_
        rintro e w83 ⟨X32, q32, d32, rfl, S32, _, b83⟩
        have B83 := below_step B82 b83
        have P0 := P0.step b83
        have P1 := P1.step b83
        have S1 := S1.step b83
        have S3 := S3.step b83
        have S4 := S4.step b83
        have S7 := S7.step b83
        have N1 := N1.step b83
        have S30 := S30.step b83
        have S31 := S31.step b83
        clear S30 S31
        go_wp2_with fail
        refine (cmp_more6 S32.in_ S7.in_ (root_mul_lt HU.out HV.out HT.out)).mono ?_
        rintro e w84 ⟨rfl, b84⟩
        have B84 := below_step B83 b84
        have P0 := P0.step b84
        have P1 := P1.step b84
        have S1 := S1.step b84
        have S3 := S3.step b84
        have S4 := S4.step b84
        have S7 := S7.step b84
        have N1 := N1.step b84
        have S32 := S32.step b84
        clear S32
        clear S7 S4
        go_wp2_with fail
        refine (cmp_le6 S3.in_ S1.in_ (root_three_two HU.out HX.out)).mono ?_
        rintro e w101 ⟨u3, rfl, ⟨hu3a, hu3b⟩, b101⟩
        have B101 := below_step B84 b101
        have P0 := P0.step b101
        have P1 := P1.step b101
        have S1 := S1.step b101
        have S3 := S3.step b101
        have N1 := N1.step b101
        go_wp2_with fail
        refine (rootWorks_any _).mono ?_
        rintro e w102 ⟨rfl, b102⟩
        have B102 := below_step B101 b102
        go_wp2_with fail
        go_ret
        exact ⟨rfl, B102⟩
      · have HO := Lib.hid ho
        clear ho
        go_enter Try.func6, Try.ntmps6
        go_wp2_with fail
        refine (bSqrt P0.in_ HX.out (by omega)).mono ?_
        rintro e w1 ⟨X1, q1, d1, rfl, S1, _, b1⟩
        have B1 := b1
        have P0 := P0.step b1
        have P1 := P1.step b1
        have hq1 : q1 ≤ 3900 := by have h := S1.1; rw [length_wd] at h; have n0 := P0.in_.bits; have n1 := P1.in_.bits; have i0 := nbits_mul (natOf l0) (natOf l1); have i1 := HX.out.bits (by omega); have i2 := HY.out.bits (by omega); have i3 := HU.out.bits (by omega); have i4 := HV.out.bits (by omega); have i5 := HS.out.bits (by omega); have i6 := HT.out.bits (by omega); omega
        go_wp2_with fail
        refine (bSqrt P1.in_ HY.out (by omega)).mono ?_
        rintro e w2 ⟨X2, q2, d2, rfl, S2, _, b2⟩
        have B2 := below_step B1 b2
        have P0 := P0.step b2
        have P1 := P1.step b2
        have S1 := S1.step b2
        have hq2 : q2 ≤ 3900 := by have h := S2.1; rw [length_wd] at h; have n0 := P0.in_.bits; have n1 := P1.in_.bits; have i0 := nbits_mul (natOf l0) (natOf l1); have i1 := HX.out.bits (by omega); have i2 := HY.out.bits (by omega); have i3 := HU.out.bits (by omega); have i4 := HV.out.bits (by omega); have i5 := HS.out.bits (by omega); have i6 := HT.out.bits (by omega); omega
        go_wp2_with fail
        refine (bCbrt P0.in_ HU.out (by omega)).mono ?_
        rintro e w3 ⟨X3, q3, d3, rfl, S3, _, b3⟩
        have B3 := below_step B2 b3
        have P0 := P0.step b3
        have P1 := P1.step b3
        have S1 := S1.step b3
        have S2 := S2.step b3
        have hq3 : q3 ≤ 3900 := by have h := S3.1; rw [length_wd] at h; have n0 := P0.in_.bits; have n1 := P1.in_.bits; have i0 := nbits_mul (natOf l0) (natOf l1); have i1 := HX.out.bits (by omega); have i2 := HY.out.bits (by omega); have i3 := HU.out.bits (by omega); have i4 := HV.out.bits (by omega); have i5 := HS.out.bits (by omega); have i6 := HT.out.bits (by omega); omega
        go_wp2_with fail
        refine (bCbrt P1.in_ HV.out (by omega)).mono ?_
        rintro e w4 ⟨X4, q4, d4, rfl, S4, _, b4⟩
        have B4 := below_step B3 b4
        have P0 := P0.step b4
        have P1 := P1.step b4
        have S1 := S1.step b4
        have S2 := S2.step b4
        have S3 := S3.step b4
        have hq4 : q4 ≤ 3900 := by have h := S4.1; rw [length_wd] at h; have n0 := P0.in_.bits; have n1 := P1.in_.bits; have i0 := nbits_mul (natOf l0) (natOf l1); have i1 := HX.out.bits (by omega); have i2 := HY.out.bits (by omega); have i3 := HU.out.bits (by omega); have i4 := HV.out.bits (by omega); have i5 := HS.out.bits (by omega); have i6 := HT.out.bits (by omega); omega
        go_wp2_with fail
        refine (cmp_more6 P0.in_ P1.in_ HO.out).mono ?_
        rintro e w5 ⟨rfl, b5⟩
        have B5 := below_step B4 b5
        have P0 := P0.step b5
        have P1 := P1.step b5
        have S1 := S1.step b5
        have S2 := S2.step b5
        have S3 := S3.step b5
        have S4 := S4.step b5
        go_wp2_with fail
        refine (cmp_ge6 S1.in_ S2.in_ (root_mono HY.out HX.out (Nat.le_of_lt HO.out))).mono ?_
        rintro e w6 ⟨t1, rfl, ⟨ht1a, ht1b⟩, b6⟩
        have B6 := below_step B5 b6
        have P0 := P0.step b6
        have P1 := P1.step b6
        have S1 := S1.step b6
        have S2 := S2.step b6
        have S3 := S3.step b6
        have S4 := S4.step b6
        go_wp2_with fail
        refine (cmp_ge6 S3.in_ S4.in_ (root_mono HV.out HU.out (Nat.le_of_lt HO.out))).mono ?_
        rintro e w7 ⟨t2, rfl, ⟨ht2a, ht2b⟩, b7⟩
        have B7 := below_step B6 b7
        have P0 := P0.step b7
        have P1 := P1.step b7
        have S1 := S1.step b7
        have S2 := S2.step b7
        have S3 := S3.step b7
        have S4 := S4.step b7
        go_wp2_with fail
        refine (bMul P0.in_ P1.in_ (by omega) (by omega)).mono ?_
        rintro e w21 ⟨X5, q5, d5, rfl, S5, _, b21⟩
        have B21 := below_step B7 b21
        have P0 := P0.step b21
        have P1 := P1.step b21
        have S1 := S1.step b21
        have S2 := S2.step b21
        have S3 := S3.step b21
        have S4 := S4.step b21
        have hq5 : q5 ≤ 3900 := by have h := S5.1; rw [length_wd] at h; have n0 := P0.in_.bits; have n1 := P1.in_.bits; have i0 := nbits_mul (natOf l0) (natOf l1); have i1 := HX.out.bits (by omega); have i2 := HY.out.bits (by omega); have i3 := HU.out.bits (by omega); have i4 := HV.out.bits (by omega); have i5 := HS.out.bits (by omega); have i6 := HT.out.bits (by omega); omega
        go_wp2_with fail
        refine (bSqrt S5.in_ HS.out (by omega)).mono ?_
        rintro e w22 ⟨X6, q6, d6, rfl, S6, _, b22⟩
        have B22 := below_step B21 b22
        have P0 := P0.step b22
        have P1 := P1.step b22
        have S1 := S1.step b22
        have S2 := S2.step b22
        have S3 := S3.step b22
        have S4 := S4.step b22
        have S5 := S5.step b22
        have hq6 : q6 ≤ 3900 := by have h := S6.1; rw [length_wd] at h; have n0 := P0.in_.bits; have n1 := P1.in_.bits; have i0 := nbits_mul (natOf l0) (natOf l1); have i1 := HX.out.bits (by omega); have i2 := HY.out.bits (by omega); have i3 := HU.out.bits (by omega); have i4 := HV.out.bits (by omega); have i5 := HS.out.bits (by omega); have i6 := HT.out.bits (by omega); omega
        go_wp2_with fail
        refine (bCbrt S5.in_ HT.out (by omega)).mono ?_
        rintro e w23 ⟨X7, q7, d7, rfl, S7, _, b23⟩
        have B23 := below_step B22 b23
        have P0 := P0.step b23
        have P1 := P1.step b23
        have S1 := S1.step b23
        have S2 := S2.step b23
        have S3 := S3.step b23
        have S4 := S4.step b23
        have S5 := S5.step b23
        have S6 := S6.step b23
        have hq7 : q7 ≤ 3900 := by have h := S7.1; rw [length_wd] at h; have n0 := P0.in_.bits; have n1 := P1.in_.bits; have i0 := nbits_mul (natOf l0) (natOf l1); have i1 := HX.out.bits (by omega); have i2 := HY.out.bits (by omega); have i3 := HU.out.bits (by omega); have i4 := HV.out.bits (by omega); have i5 := HS.out.bits (by omega); have i6 := HT.out.bits (by omega); omega
        clear S5
        go_wp2_with fail
        obtain ⟨wo, hwo⟩ : ∃ wo, w23.alloc (.cells #[.int .u64 1] 40) = wo := ⟨_, rfl⟩
        have N1 : NatIn wo (some ⟨w23.heap.size, 0, none⟩) 1 1 1 := hwo ▸ natIn_one w23
        have bo : Below w23.heap.size w23 wo := hwo ▸ (Below.refl _ w23).alloc (Nat.le_refl _) _
        rw [hwo]
        clear hwo
        have Bo := below_step B23 bo
        have P0 := P0.step bo
        have P1 := P1.step bo
        have S1 := S1.step bo
        have S2 := S2.step bo
        have S3 := S3.step bo
        have S4 := S4.step bo
        have S6 := S6.step bo
        have S7 := S7.step bo
        refine (bMul S1.in_ S2.in_ (by omega) (by omega)).mono ?_
        rintro e w25 ⟨X8, q8, d8, rfl, S8, _, b25⟩
        have B25 := below_step Bo b25
        have P0 := P0.step b25
        have P1 := P1.step b25
        have S1 := S1.step b25
        have S2 := S2.step b25
        have S3 := S3.step b25
        have S4 := S4.step b25
        have S6 := S6.step b25
        have S7 := S7.step b25
        have N1 := N1.step b25
        go_wp2_with fail
        refine (cmp_le6 S8.in_ S6.in_ (root_mul HX.out HY.out HS.out)).mono ?_
        rintro e w26 ⟨u1, rfl, ⟨hu1a, hu1b⟩, b26⟩
        have B26 := below_step B25 b26
        have P0 := P0.step b26
        have P1 := P1.step b26
        have S1 := S1.step b26
        have S2 := S2.step b26
        have S3 := S3.step b26
        have S4 := S4.step b26
        have S6 := S6.step b26
        have S7 := S7.step b26
        have N1 := N1.step b26
        have S8 := S8.step b26
        clear S8
        go_wp2_with fail
        refine (bAdd S1.in_ N1 (by omega)).mono ?_
        rintro e w41 ⟨X10, q10, d10, rfl, S10, _, b41⟩
        have B41 := below_step B26 b41
        have P0 := P0.step b41
        have P1 := P1.step b41
        have S1 := S1.step b41
        have S2 := S2.step b41
        have S3 := S3.step b41
        have S4 := S4.step b41
        have S6 := S6.step b41
        have S7 := S7.step b41
        have N1 := N1.step b41
        have hq10 : q10 ≤ 3900 := by have h := S10.1; rw [length_wd] at h; have n0 := P0.in_.bits; have n1 := P1.in_.bits; have i0 := nbits_mul (natOf l0) (natOf l1); have i1 := HX.out.bits (by omega); have i2 := HY.out.bits (by omega); have i3 := HU.out.bits (by omega); have i4 := HV.out.bits (by omega); have i5 := HS.out.bits (by omega); have i6 := HT.out.bits (by omega); have j := nbits_add x 1; rw [nbits_one] at j; omega
        go_wp2_with fail
        refine (bAdd S2.in_ N1 (by omega)).mono ?_
        rintro e w42 ⟨X11, q11, d11, rfl, S11, _, b42⟩
        have B42 := below_step B41 b42
        have P0 := P0.step b42
        have P1 := P1.step b42
        have S1 := S1.step b42
        have S2 := S2.step b42
        have S3 := S3.step b42
        have S4 := S4.step b42
        have S6 := S6.step b42
        have S7 := S7.step b42
        have N1 := N1.step b42
        have S10 := S10.step b42
        have hq11 : q11 ≤ 3900 := by have h := S11.1; rw [length_wd] at h; have n0 := P0.in_.bits; have n1 := P1.in_.bits; have i0 := nbits_mul (natOf l0) (natOf l1); have i1 := HX.out.bits (by omega); have i2 := HY.out.bits (by omega); have i3 := HU.out.bits (by omega); have i4 := HV.out.bits (by omega); have i5 := HS.out.bits (by omega); have i6 := HT.out.bits (by omega); have j := nbits_add y 1; rw [nbits_one] at j; omega
        go_wp2_with fail
        refine (bMul S10.in_ S11.in_ (by omega) (by omega)).mono ?_
        rintro e w43 ⟨X12, q12, d12, rfl, S12, _, b43⟩
        have B43 := below_step B42 b43
        have P0 := P0.step b43
        have P1 := P1.step b43
        have S1 := S1.step b43
        have S2 := S2.step b43
        have S3 := S3.step b43
        have S4 := S4.step b43
        have S6 := S6.step b43
        have S7 := S7.step b43
        have N1 := N1.step b43
        have S10 := S10.step b43
        have S11 := S11.step b43
        clear S10 S11
        go_wp2_with fail
        refine (cmp_more6 S12.in_ S6.in_ (root_mul_lt HX.out HY.out HS.out)).mono ?_
        rintro e w44 ⟨rfl, b44⟩
        have B44 := below_step B43 b44
        have P0 := P0.step b44
        have P1 := P1.step b44
        have S1 := S1.step b44
        have S2 := S2.step b44
        have S3 := S3.step b44
        have S4 := S4.step b44
        have S6 := S6.step b44
        have S7 := S7.step b44
        have N1 := N1.step b44
        have S12 := S12.step b44
        clear S12
        clear S6 S2
        go_wp2_with fail
        refine (bMul S3.in_ S4.in_ (by omega) (by omega)).mono ?_
        rintro e w61 ⟨X20, q20, d20, rfl, S20, _, b61⟩
        have B61 := below_step B44 b61
        have P0 := P0.step b61
        have P1 := P1.step b61
        have S1 := S1.step b61
        have S3 := S3.step b61
        have S4 := S4.step b61
        have S7 := S7.step b61
        have N1 := N1.step b61
        go_wp2_with fail
        refine (cmp_le6 S20.in_ S7.in_ (root_mul HU.out HV.out HT.out)).mono ?_
        rintro e w62 ⟨u2, rfl, ⟨hu2a, hu2b⟩, b62⟩
        have B62 := below_step B61 b62
        have P0 := P0.step b62
        have P1 := P1.step b62
        have S1 := S1.step b62
        have S3 := S3.step b62
        have S4 := S4.step b62
        have S7 := S7.step b62
        have N1 := N1.step b62
        have S20 := S20.step b62
        clear S20
        go_wp2_with fail
        refine (bAdd S3.in_ N1 (by omega)).mono ?_
        rintro e w81 ⟨X30, q30, d30, rfl, S30, _, b81⟩
        have B81 := below_step B62 b81
        have P0 := P0.step b81
        have P1 := P1.step b81
        have S1 := S1.step b81
        have S3 := S3.step b81
        have S4 := S4.step b81
        have S7 := S7.step b81
        have N1 := N1.step b81
        have hq30 : q30 ≤ 3900 := by have h := S30.1; rw [length_wd] at h; have n0 := P0.in_.bits; have n1 := P1.in_.bits; have i0 := nbits_mul (natOf l0) (natOf l1); have i1 := HX.out.bits (by omega); have i2 := HY.out.bits (by omega); have i3 := HU.out.bits (by omega); have i4 := HV.out.bits (by omega); have i5 := HS.out.bits (by omega); have i6 := HT.out.bits (by omega); have j := nbits_add u 1; rw [nbits_one] at j; omega
        go_wp2_with fail
        refine (bAdd S4.in_ N1 (by omega)).mono ?_
        rintro e w82 ⟨X31, q31, d31, rfl, S31, _, b82⟩
        have B82 := below_step B81 b82
        have P0 := P0.step b82
        have P1 := P1.step b82
        have S1 := S1.step b82
        have S3 := S3.step b82
        have S4 := S4.step b82
        have S7 := S7.step b82
        have N1 := N1.step b82
        have S30 := S30.step b82
        have hq31 : q31 ≤ 3900 := by have h := S31.1; rw [length_wd] at h; have n0 := P0.in_.bits; have n1 := P1.in_.bits; have i0 := nbits_mul (natOf l0) (natOf l1); have i1 := HX.out.bits (by omega); have i2 := HY.out.bits (by omega); have i3 := HU.out.bits (by omega); have i4 := HV.out.bits (by omega); have i5 := HS.out.bits (by omega); have i6 := HT.out.bits (by omega); have j := nbits_add v 1; rw [nbits_one] at j; omega
        go_wp2_with fail
        refine (bMul S30.in_ S31.in_ (by omega) (by omega)).mono ?_
        rintro e w83 ⟨X32, q32, d32, rfl, S32, _, b83⟩
        have B83 := below_step B82 b83
        have P0 := P0.step b83
        have P1 := P1.step b83
        have S1 := S1.step b83
        have S3 := S3.step b83
        have S4 := S4.step b83
        have S7 := S7.step b83
        have N1 := N1.step b83
        have S30 := S30.step b83
        have S31 := S31.step b83
        clear S30 S31
        go_wp2_with fail
        refine (cmp_more6 S32.in_ S7.in_ (root_mul_lt HU.out HV.out HT.out)).mono ?_
        rintro e w84 ⟨rfl, b84⟩
        have B84 := below_step B83 b84
        have P0 := P0.step b84
        have P1 := P1.step b84
        have S1 := S1.step b84
        have S3 := S3.step b84
        have S4 := S4.step b84
        have S7 := S7.step b84
        have N1 := N1.step b84
        have S32 := S32.step b84
        clear S32
        clear S7 S4
        go_wp2_with fail
        refine (cmp_le6 S3.in_ S1.in_ (root_three_two HU.out HX.out)).mono ?_
        rintro e w101 ⟨u3, rfl, ⟨hu3a, hu3b⟩, b101⟩
        have B101 := below_step B84 b101
        have P0 := P0.step b101
        have P1 := P1.step b101
        have S1 := S1.step b101
        have S3 := S3.step b101
        have N1 := N1.step b101
        go_wp2_with fail
        refine (rootWorks_any _).mono ?_
        rintro e w102 ⟨rfl, b102⟩
        have B102 := below_step B101 b102
        go_wp2_with fail
        go_ret
        exact ⟨rfl, B102⟩
end Go.Proofs.Ytekgoceainibaaa

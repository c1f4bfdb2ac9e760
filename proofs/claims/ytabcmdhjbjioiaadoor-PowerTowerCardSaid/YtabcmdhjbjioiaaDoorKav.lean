/- Several texts in one; each begins with a remark that says what it shows and on which conditions. -/
import Derived.Test.YtabcmdhjbjioiaaDoorKau
import Derived.Test.YtabcmdhjbjioiaaDoorKaq
/- power.Exp. Conditions: as typed (lengths that fit a machine). -/
namespace Go.Proofs.YtabcmdhjbjioiaaDoor
open Go.RowKit
set_option maxRecDepth 20000
theorem made_below8 (w : World) (o : Obj) : Below w.heap.size w (w.alloc o) := (Below.refl _ w).alloc (Nat.le_refl _) o
section
variable {w : World} {A A2 A3 : Option Addr} {n m k c c2 c3 B E M : Nat}
set_option maxHeartbeats 1000000 in
theorem exp_zero8 (j : NatIn w A3 k c3 M) (h0 : M = 0) : Calls Tryd.prog 12 #[.slice A n c, .slice A2 m c2, .slice A3 k c3] w (OutErr 5 w) := by
  subst h0
  have b0 := made_below8 w (.cells #[.slice A3 k c3] 23)
  have bm := Boxed.new w 23 (.slice A3 k c3)
  have hc := bm.cell
  have HB := Lib.hid (bBits (j.step b0))
  rw [nbits_zero] at HB
  clear j bm
  go_enter Tryd.func12, Tryd.ntmps12
  go_wp2_with fail
  refine (HB.out).mono ?_
  rintro e w1 ⟨rfl, b1⟩
  go_wp2_with fail
  go_ret2
  exact ⟨_, _, rfl, below_step b0 b1⟩
set_option maxHeartbeats 2000000 in
theorem exp_many8 (i : NatIn w A2 m c2 E) (j : NatIn w A3 k c3 M) (h0 : M ≠ 0) (h : 4096 < nbits E ∨ 4096 < nbits M) : Calls Tryd.prog 12 #[.slice A n c, .slice A2 m c2, .slice A3 k c3] w (OutErr 4 w) := by
  have b0 := made_below8 w (.cells #[.slice A3 k c3] 23)
  have bm := Boxed.new w 23 (.slice A3 k c3)
  have hc := bm.cell
  obtain ⟨s, hs⟩ : ∃ s, nbits M = s := ⟨_, rfl⟩
  obtain ⟨t, ht⟩ : ∃ t, nbits E = t := ⟨_, rfl⟩
  have hs0 : s ≠ 0 := by
    have := (nbits_iff M).2 (by omega)
    omega
  have HB := Lib.hid (bBits (j.step b0))
  have HI := Lib.hid fun (u : World) (e : Below w.heap.size w u) => bBits (i.step e)
  rw [hs] at HB h
  rw [ht] at HI h
  have hsb : ((s : Int) == 0) = false := by simp; omega
  have hj := j.bits
  have hi := i.bits
  have hsl : s ≤ 3200000 := by obtain ⟨_, _, _, _, h, _⟩ := j; omega
  have htl : t ≤ 3200000 := by obtain ⟨_, _, _, _, h, _⟩ := i; omega
  clear i j bm hs ht hj hi
  by_cases h1 : 4096 < s
  · have h1d : decide ((4096 : Int) < (s : Int)) = true := by simp; omega
    clear h
    go_enter Tryd.func12, Tryd.ntmps12
    go_wp2_with fail
    refine (HB.out).mono ?_
    rintro e w1 ⟨rfl, b1⟩
    go_wp2_with fail
    go_ret2
    exact ⟨_, _, rfl, below_step b0 b1⟩
  · have h1d : decide ((4096 : Int) < (s : Int)) = false := by simp; omega
    have h2 : 4096 < t := by omega
    have h2d : decide ((4096 : Int) < (t : Int)) = true := by simp; omega
    clear h
    go_enter Tryd.func12, Tryd.ntmps12
    go_wp2_with fail
    refine (HB.out).mono ?_
    rintro e w1 ⟨rfl, b1⟩
    have B1 := below_step b0 b1
    go_wp2_with fail
    refine (HI.out _ B1).mono ?_
    rintro e w2 ⟨rfl, b2⟩
    go_wp2_with fail
    go_ret2
    exact ⟨_, _, rfl, below_step B1 b2⟩
set_option maxHeartbeats 4000000 in
theorem exp_ok8 (h : NatIn w A n c B) (i : NatIn w A2 m c2 E) (j : NatIn w A3 k c3 M) (h0 : M ≠ 0) (hE : nbits E ≤ 4096) (hM : nbits M ≤ 4096) (hs : n ≤ 9000) (_ : m ≤ 9000) (hs3 : k ≤ 9000) :
    Calls Tryd.prog 12 #[.slice A n c, .slice A2 m c2, .slice A3 k c3] w (OutOk (B ^ E % M) w) := by
  have b0 := made_below8 w (.cells #[.slice A3 k c3] 23)
  have bm := Boxed.new w 23 (.slice A3 k c3)
  have hc := bm.cell
  obtain ⟨s, hsM⟩ : ∃ s, nbits M = s := ⟨_, rfl⟩
  obtain ⟨t, ht⟩ : ∃ t, nbits E = t := ⟨_, rfl⟩
  have hs0 : s ≠ 0 := by
    have := (nbits_iff M).2 (by omega)
    omega
  have HB := Lib.hid (bBits (j.step b0))
  have HI := Lib.hid fun (u : World) (e : Below w.heap.size w u) => bBits (i.step e)
  rw [hsM] at HB hM
  rw [ht] at HI hE
  have hsb : ((s : Int) == 0) = false := by simp; omega
  have h1d : decide ((4096 : Int) < (s : Int)) = false := by simp; omega
  have h2d : decide ((4096 : Int) < (t : Int)) = false := by simp; omega
  obtain ⟨v, hv⟩ : ∃ v, v = B % M := ⟨_, rfl⟩
  have hvM : v < M := by rw [hv]; exact Nat.mod_lt _ (by omega)
  have HV := Lib.hid (show v ^ E % M = B ^ E % M by rw [hv, pow_rest])
  have H := Lib.hid h
  have I := Lib.hid i
  have J := Lib.hid j
  have BM := Lib.hid bm
  by_cases hsm : M < 18446744073709551616
  · have HS := Lib.hid fun (u : World) (e : Below w.heap.size w u) => small_ok8 (j.step e) hsm
    have HW := Lib.hid fun (u : World) (e : Below w.heap.size w u) => bWord_v (h.step e) (by omega) M v (by omega) hsm hv
    obtain ⟨o1, ho1⟩ : ∃ o1, 1 % M = o1 := ⟨_, rfl⟩
    have hoI : (1 : Int) % (M : Int) = (o1 : Int) := by rw [← ho1]; simp
    have HR := Lib.hid fun (u : World) (g : Nat) (e : Below w.heap.size w u) (hg : Boxed u g 39 (.int .u64 (M : Int))) => raised1_pf v M g E A2 m c2 u (i.step e) (by omega) (by omega) hsm hg
    rw [ho1] at HR
    have hM0 : ((M : Int) == 0) = false := by simp; omega
    obtain ⟨z, hz⟩ : ∃ z, v ^ E % M = z := ⟨_, rfl⟩
    rw [hz] at HR HV
    have hzM : z < M := by rw [← hz]; exact Nat.mod_lt _ (by omega)
    clear h i j bm hsM ht hv ho1 hz
    go_enter Tryd.func12, Tryd.ntmps12
    go_wp2_with fail
    refine (HB.out).mono ?_
    rintro e w1 ⟨rfl, b1⟩
    have B1 := below_step b0 b1
    have hc1 := (BM.out.kept (grown_of_below b1) (by simp)).cell
    go_wp2_with fail
    refine (HI.out _ B1).mono ?_
    rintro e w2 ⟨rfl, b2⟩
    have B2 := below_step B1 b2
    have bm2 := (BM.out.kept (grown_of_below b1) (by simp)).kept (grown_of_below b2) (by simp)
    have hc2 := bm2.cell
    go_wp2_with fail
    refine (HS.out _ B2).mono ?_
    rintro e w3 ⟨rfl, b3⟩
    have B3 := below_step B2 b3
    go_wp2_with fail
    have bw := Boxed.new w3 39 (.int .u64 (M : Int))
    have B4 := below_step B3 (made_below8 w3 (.cells #[.int .u64 (M : Int)] 39))
    have hw4 := bw.cell
    refine (HW.out _ B4).mono ?_
    rintro e w5 hw
    obtain ⟨X, q, d, rfl, S, b5⟩ := hw
    have B5 := below_step B4 b5
    have bw5 := bw.kept (grown_of_below b5) (by simp)
    have hw5 := bw5.cell
    clear S
    go_wp2_with fail
    refine (HR.out w5 w3.heap.size B5 bw5).mono ?_
    rintro e w6 ⟨rfl, b6⟩
    have B6 := below_step B5 b6
    go_wp2_with fail
    refine (bOf w6 z (by omega)).mono ?_
    rintro e w7 ⟨Y, r, f, rfl, S7, _, b7⟩
    go_wp2_with fail
    go_ret2
    exact ⟨Y, r, f, rfl, by rw [← HV.out]; exact S7, below_step B6 b7⟩
  · have HS := Lib.hid fun (u : World) (e : Below w.heap.size w u) => small_no8 (j.step e) hsm
    have HW := Lib.hid fun (u : World) (e : Below w.heap.size w u) => bMod_is v (h.step e) (j.step e) hv.symm h0 (by omega) (by omega)
    have hvn := nbits_mono (Nat.le_of_lt hvM)
    have hM1 : 1 < M := by omega
    have hMn : nbits M ≤ 4096 := by omega
    have hvn2 : nbits v ≤ 4096 := by omega
    have HMn := Lib.hid hMn
    have HVn := Lib.hid hvn2
    clear h i j bm hsM ht hv hvn hvn2 hMn
    go_enter Tryd.func12, Tryd.ntmps12
    go_wp2_with fail
    refine (HB.out).mono ?_
    rintro e w1 ⟨rfl, b1⟩
    have B1 := below_step b0 b1
    have bm1 := BM.out.kept (grown_of_below b1) (by simp)
    have hc1 := bm1.cell
    go_wp2_with fail
    refine (HI.out _ B1).mono ?_
    rintro e w2 ⟨rfl, b2⟩
    have B2 := below_step B1 b2
    have bm2 := bm1.kept (grown_of_below b2) (by simp)
    have hc2 := bm2.cell
    go_wp2_with fail
    refine (HS.out _ B2).mono ?_
    rintro e w3 ⟨rfl, b3⟩
    have B3 := below_step B2 b3
    have bm3 := bm2.kept (grown_of_below b3) (by simp)
    have b4 := made_below8 w3 (.cells #[.int .u64 0] 39)
    have B4 := below_step B3 b4
    have bm4 := bm3.kept (grown_of_below b4) (by simp)
    have hc4 := bm4.cell
    go_wp2_with fail
    refine (HW.out _ B4).mono ?_
    rintro e w5 ⟨X, q, d, rfl, S, b5⟩
    have B5 := below_step B4 b5
    have bm5 := bm4.kept (grown_of_below b5) (by simp)
    have hc5 := bm5.cell
    have hq := natIs_len8 (K := 64) S (by have := HVn.out; omega)
    have HS5 := Lib.hid S
    clear S
    go_wp2_with fail
    refine (bOf w5 1 (by omega)).mono ?_
    rintro e w6 ⟨Y, r, f, rfl, S6, _, b6⟩
    have B6 := below_step B5 b6
    have bm6 := bm5.kept (grown_of_below b6) (by simp)
    have HR := Lib.hid (raised2_pf v M w.heap.size E X A3 Y A2 q d k c3 r f m c2 w6 (I.out.step B6) (HS5.out.step b6).in_ (J.out.step B6) S6 bm6 hM1 HMn.out (by omega) hs3)
    clear S6
    go_wp2_with fail
    refine (HR.out).mono ?_
    rintro e w7 ⟨Z, s', y, rfl, S7, b7⟩
    go_wp2_with fail
    go_ret2
    exact ⟨Z, s', y, rfl, by rw [← HV.out]; exact S7, below_step B6 b7⟩
end
end Go.Proofs.YtabcmdhjbjioiaaDoor
/- power's contracts in the form that laws use. Conditions: as typed. -/
namespace Go.Proofs.YtabcmdhjbjioiaaDoor
open Go.RowKit
set_option maxRecDepth 20000
section
variable {w : World} {A A2 A3 : Option Addr} {n m k c c2 c3 M N L : Nat}
theorem bExp_zero (_ : NatIn w A n c M) (_ : NatIn w A2 m c2 N) (j : NatIn w A3 k c3 L) (h0 : L = 0) (_ : n ≤ 9000) (_ : m ≤ 9000) (_ : k ≤ 9000) : Calls Tryd.prog 12 #[.slice A n c, .slice A2 m c2, .slice A3 k c3] w (OutErr 5 w) := exp_zero8 j h0
theorem bExp_many (_ : NatIn w A n c M) (i : NatIn w A2 m c2 N) (j : NatIn w A3 k c3 L) (h0 : L ≠ 0) (hb : 4096 < nbits N ∨ 4096 < nbits L) (_ : n ≤ 9000) (_ : m ≤ 9000) (_ : k ≤ 9000) : Calls Tryd.prog 12 #[.slice A n c, .slice A2 m c2, .slice A3 k c3] w (OutErr 4 w) := exp_many8 i j h0 hb
theorem bExp_ok (h : NatIn w A n c M) (i : NatIn w A2 m c2 N) (j : NatIn w A3 k c3 L) (h0 : L ≠ 0) (hb : nbits N ≤ 4096) (hb2 : nbits L ≤ 4096) (hs : n ≤ 9000) (hs2 : m ≤ 9000) (hs3 : k ≤ 9000) : Calls Tryd.prog 12 #[.slice A n c, .slice A2 m c2, .slice A3 k c3] w (OutOk (M ^ N % L) w) := exp_ok8 h i j h0 hb hb2 hs hs2 hs3
/-- The same, the answer written otherwise. -/
theorem bExp_is (V : Nat) (h : NatIn w A n c M) (i : NatIn w A2 m c2 N) (j : NatIn w A3 k c3 L) (e : M ^ N % L = V) (h0 : L ≠ 0) (hb : nbits N ≤ 4096) (hb2 : nbits L ≤ 4096) (hs : n ≤ 9000) (hs2 : m ≤ 9000) (hs3 : k ≤ 9000) : Calls Tryd.prog 12 #[.slice A n c, .slice A2 m c2, .slice A3 k c3] w (OutOk V w) := e ▸ bExp_ok h i j h0 hb hb2 hs hs2 hs3
theorem bJac_even (h : NatIn w A n c M) (i : NatIn w A2 m c2 N) (h0 : N % 2 = 0) (_ : n ≤ 9000) (_ : m ≤ 9000) : Calls Tryd.prog 20 #[.slice A n c, .slice A2 m c2] w fun e w' => e = .returned (.tuple #[.int .i64 0, .int .i64 1]) ∧ Below w.heap.size w w' := jac_even8 h i h0
/-- The symbol, written as x. -/
theorem bJac (x : Int) (h : NatIn w A n c M) (i : NatIn w A2 m c2 N) (e : jac M N = x) (h0 : N % 2 = 1) (hs : n ≤ 9000) (hs2 : m ≤ 9000) (hL : Laid8 w) : Calls Tryd.prog 20 #[.slice A n c, .slice A2 m c2] w fun e w' => e = .returned (.tuple #[.int .i64 x, .int .i64 0]) ∧ Below w.heap.size w w' := jac_odd8 x e h i h0 hs hs2 hL
/-- n -/
theorem hN8 (w : World) (x : Nat) (xi : Int) (hx : xi = (x : Int)) (hl : x < 18446744073709551616) : Calls Tryd.prog 21 #[.int .u64 xi] w (OutN x w) := by
  subst hx
  have O := Lib.hid (of02_any x w hl)
  have hb := nbits_of_lt x 64 hl
  go_enter Tryd.func21, Tryd.ntmps21
  go_wp2_with fail
  refine (O.out).mono ?_
  rintro e w1 h
  obtain ⟨X, q, d, rfl, S, T, b⟩ := h.out (by omega)
  go_wp2_with fail
  go_ret
  exact ⟨X, q, d, rfl, S, T, b⟩
end
theorem natIs_small8 {w : World} {X : Option Addr} {q d x : Nat} (h : NatIs w X q d x) (hx : x < 18446744073709551616) : q ≤ 1 := by
  have h1 := h.1
  rw [length_wd] at h1
  have := nbits_of_lt x 64 hx
  omega
theorem natIs_pos8 {w : World} {X : Option Addr} {q d M : Nat} (h : NatIs w X q d M) (h0 : 0 < M) : 0 < q := by
  have h := h.1
  have h1 := (nbits_iff M).2 (by omega)
  rw [length_wd] at h
  omega
theorem natIs_some8 {w : World} {X : Option Addr} {q d M : Nat} (h : NatIs w X q d M) (h0 : 0 < M) : ((q : Int) == 0) = false := by
  have h := h.1
  have h1 := (nbits_iff M).2 (by omega)
  rw [length_wd] at h
  simp
  omega
theorem natIs_cell8 {w : World} {X : Option Addr} {q d M : Nat} (h : NatIs w X q d M) (h0 : 0 < M) : ∃ g o, X = some ⟨g, o, none⟩ ∧ w.cell? ⟨g, o, none⟩ = some (.int .u64 ((M % 18446744073709551616 : Nat) : Int)) := by
  have h1 := (nbits_iff M).2 (by omega)
  have hl := length_wd M
  obtain ⟨g, o, rfl, _, hc⟩ := h.2.2.1 (by omega)
  refine ⟨g, o, rfl, ?_⟩
  have h2 := hc 0 (by omega)
  have e : nth (wd M) 0 = M % 18446744073709551616 := by rw [nth_natOf _ (wd_words M), natOf_wd]; simp
  rw [e] at h2
  exact h2
theorem word_lt8 (M : Nat) : M % 18446744073709551616 < 18446744073709551616 := Nat.mod_lt _ (by omega)
theorem word_four8 (M : Nat) (b : Bool) (h : decide (M % 4 = 3) = b) : ((((M % 18446744073709551616 : Nat) : Int) % 4) == 3) = b := by
  rw [← h, Bool.eq_iff_iff, beq_iff_eq, decide_eq_true_eq]; omega
set_option exponentiation.threshold 800 in
theorem odd_lt8 {v M : Nat} {n : Nat} (h : v < 2 ^ nbits v) (h1 : nbits v ≤ 64 * n) (h2 : n ≤ 12) (e : 2 ^ 1 * v + 1 = M) : M < 2 ^ 769 := by
  have h3 : 2 ^ nbits v ≤ 2 ^ 768 := Nat.pow_le_pow_right (by omega) (by omega)
  have h4 : 2 ^ 769 = 2 * 2 ^ 768 := by rw [Nat.pow_succ, Nat.mul_comm]
  omega
theorem jac_zero_same (m n : Nat) : (jac m n == 0) = (jac n m == 0) := by
  rw [Bool.eq_iff_iff, beq_iff_eq, beq_iff_eq, jac_zero_iff, jac_zero_iff, Nat.gcd_comm]
end Go.Proofs.YtabcmdhjbjioiaaDoor
/- Chapter 8's examples. No condition. -/
namespace Go.Proofs.YtabcmdhjbjioiaaDoor
open Go.RowKit
set_option maxRecDepth 20000
theorem natIs_none8 {w : World} {X : Option Addr} {q d : Nat} (h : NatIs w X q d 0) : q = 0 := by have h := h.1; rw [length_wd, nbits_zero] at h; omega
set_option maxHeartbeats 4000000 in
theorem powWorks_any (w : World) (hL : Laid8 w) : Calls Tryd.prog 10 #[] w fun e w' => e = .returned (.bool true) ∧ Below w.heap.size w w' := by
  have HLd := Lib.hid hL
  clear hL
  go_enter Tryd.func10, Tryd.ntmps10
  go_wp2_with fail
  refine (hN8 w 3 _ rfl (by omega)).mono ?_
  rintro e w1 ⟨X1a, q1a, d1a, rfl, S1a, _, b1⟩
  have B1 := b1
  have hq1a := natIs_small8 S1a (by omega)
  go_wp2_with fail
  refine (hN8 w1 200 _ rfl (by omega)).mono ?_
  rintro e w2 ⟨X1b, q1b, d1b, rfl, S1b, _, b2⟩
  have B2 := below_step B1 b2
  have S1a := S1a.step b2
  have hq1b := natIs_small8 S1b (by omega)
  go_wp2_with fail
  refine (hN8 w2 1000 _ rfl (by omega)).mono ?_
  rintro e w3 ⟨X1c, q1c, d1c, rfl, S1c, _, b3⟩
  have B3 := below_step B2 b3
  have S1a := S1a.step b3
  have S1b := S1b.step b3
  have hq1c := natIs_small8 S1c (by omega)
  go_wp2_with fail
  refine (bExp_is 1 S1a.in_ S1b.in_ S1c.in_ (by decide +kernel) (by omega) (by have := nbits_of_lt 200 64 (by omega); omega) (by have := nbits_of_lt 1000 64 (by omega); omega) (by omega) (by omega) (by omega)).mono ?_
  rintro e w4 ⟨X1, q1, d1, rfl, S1, b4⟩
  have B4 := below_step B3 b4
  have S1a := S1a.step b4
  have S1b := S1b.step b4
  have S1c := S1c.step b4
  clear S1a S1b S1c
  go_wp2_with fail
  refine (hN8 w4 5 _ rfl (by omega)).mono ?_
  rintro e w5 ⟨X2a, q2a, d2a, rfl, S2a, _, b5⟩
  have B5 := below_step B4 b5
  have S1 := S1.step b5
  have hq2a := natIs_small8 S2a (by omega)
  go_wp2_with fail
  refine (hN8 w5 0 _ rfl (by omega)).mono ?_
  rintro e w6 ⟨X2b, q2b, d2b, rfl, S2b, _, b6⟩
  have B6 := below_step B5 b6
  have S1 := S1.step b6
  have S2a := S2a.step b6
  have hq2b := natIs_small8 S2b (by omega)
  go_wp2_with fail
  refine (hN8 w6 1 _ rfl (by omega)).mono ?_
  rintro e w7 ⟨X2c, q2c, d2c, rfl, S2c, _, b7⟩
  have B7 := below_step B6 b7
  have S1 := S1.step b7
  have S2a := S2a.step b7
  have S2b := S2b.step b7
  have hq2c := natIs_small8 S2c (by omega)
  go_wp2_with fail
  refine (bExp_is 0 S2a.in_ S2b.in_ S2c.in_ (by decide +kernel) (by omega) (by have := nbits_of_lt 0 64 (by omega); omega) (by have := nbits_of_lt 1 64 (by omega); omega) (by omega) (by omega) (by omega)).mono ?_
  rintro e w8 ⟨X2, q2, d2, rfl, S2, b8⟩
  have B8 := below_step B7 b8
  have S1 := S1.step b8
  have S2a := S2a.step b8
  have S2b := S2b.step b8
  have S2c := S2c.step b8
  clear S2a S2b S2c
  obtain rfl := natIs_none8 S2
  clear S2
  go_wp2_with fail
  refine (hN8 w8 5 _ rfl (by omega)).mono ?_
  rintro e w9 ⟨X3a, q3a, d3a, rfl, S3a, _, b9⟩
  have B9 := below_step B8 b9
  have S1 := S1.step b9
  have hq3a := natIs_small8 S3a (by omega)
  go_wp2_with fail
  refine (hN8 w9 1 _ rfl (by omega)).mono ?_
  rintro e w10 ⟨X3b, q3b, d3b, rfl, S3b, _, b10⟩
  have B10 := below_step B9 b10
  have S1 := S1.step b10
  have S3a := S3a.step b10
  have hq3b := natIs_small8 S3b (by omega)
  go_wp2_with fail
  refine (hN8 w10 0 _ rfl (by omega)).mono ?_
  rintro e w11 ⟨X3c, q3c, d3c, rfl, S3c, _, b11⟩
  have B11 := below_step B10 b11
  have S1 := S1.step b11
  have S3a := S3a.step b11
  have S3b := S3b.step b11
  have hq3c := natIs_small8 S3c (by omega)
  go_wp2_with fail
  refine (bExp_zero S3a.in_ S3b.in_ S3c.in_ rfl (by omega) (by omega) (by omega)).mono ?_
  rintro e w12 ⟨X3, d3, rfl, b12⟩
  have B12 := below_step B11 b12
  have S1 := S1.step b12
  have S3a := S3a.step b12
  have S3b := S3b.step b12
  have S3c := S3c.step b12
  clear S3a S3b S3c
  go_wp2_with fail
  refine (hN8 w12 2 _ rfl (by omega)).mono ?_
  rintro e w13 ⟨X4a, q4a, d4a, rfl, S4a, _, b13⟩
  have B13 := below_step B12 b13
  have S1 := S1.step b13
  have hq4a := natIs_small8 S4a (by omega)
  go_wp2_with fail
  refine (hN8 w13 15 _ rfl (by omega)).mono ?_
  rintro e w14 ⟨X4b, q4b, d4b, rfl, S4b, _, b14⟩
  have B14 := below_step B13 b14
  have S1 := S1.step b14
  have S4a := S4a.step b14
  have hq4b := natIs_small8 S4b (by omega)
  go_wp2_with fail
  refine (bJac (1) S4a.in_ S4b.in_ (by decide +kernel) (by omega) (by omega) (by omega) (HLd.out.below B14)).mono ?_
  rintro e w15 ⟨rfl, b15⟩
  have B15 := below_step B14 b15
  have S1 := S1.step b15
  have S4a := S4a.step b15
  have S4b := S4b.step b15
  clear S4a S4b
  go_wp2_with fail
  refine (hN8 w15 7 _ rfl (by omega)).mono ?_
  rintro e w16 ⟨X5a, q5a, d5a, rfl, S5a, _, b16⟩
  have B16 := below_step B15 b16
  have S1 := S1.step b16
  have hq5a := natIs_small8 S5a (by omega)
  go_wp2_with fail
  refine (hN8 w16 15 _ rfl (by omega)).mono ?_
  rintro e w17 ⟨X5b, q5b, d5b, rfl, S5b, _, b17⟩
  have B17 := below_step B16 b17
  have S1 := S1.step b17
  have S5a := S5a.step b17
  have hq5b := natIs_small8 S5b (by omega)
  go_wp2_with fail
  refine (bJac (-1) S5a.in_ S5b.in_ (by decide +kernel) (by omega) (by omega) (by omega) (HLd.out.below B17)).mono ?_
  rintro e w18 ⟨rfl, b18⟩
  have B18 := below_step B17 b18
  have S1 := S1.step b18
  have S5a := S5a.step b18
  have S5b := S5b.step b18
  clear S5a S5b
  go_wp2_with fail
  refine (hN8 w18 5 _ rfl (by omega)).mono ?_
  rintro e w19 ⟨X6a, q6a, d6a, rfl, S6a, _, b19⟩
  have B19 := below_step B18 b19
  have S1 := S1.step b19
  have hq6a := natIs_small8 S6a (by omega)
  go_wp2_with fail
  refine (hN8 w19 15 _ rfl (by omega)).mono ?_
  rintro e w20 ⟨X6b, q6b, d6b, rfl, S6b, _, b20⟩
  have B20 := below_step B19 b20
  have S1 := S1.step b20
  have S6a := S6a.step b20
  have hq6b := natIs_small8 S6b (by omega)
  go_wp2_with fail
  refine (bJac (0) S6a.in_ S6b.in_ (by decide +kernel) (by omega) (by omega) (by omega) (HLd.out.below B20)).mono ?_
  rintro e w21 ⟨rfl, b21⟩
  have B21 := below_step B20 b21
  have S1 := S1.step b21
  have S6a := S6a.step b21
  have S6b := S6b.step b21
  clear S6a S6b
  go_wp2_with fail
  refine (hN8 w21 1 _ rfl (by omega)).mono ?_
  rintro e w22 ⟨X7a, q7a, d7a, rfl, S7a, _, b22⟩
  have B22 := below_step B21 b22
  have S1 := S1.step b22
  have hq7a := natIs_small8 S7a (by omega)
  go_wp2_with fail
  refine (hN8 w22 1 _ rfl (by omega)).mono ?_
  rintro e w23 ⟨X7b, q7b, d7b, rfl, S7b, _, b23⟩
  have B23 := below_step B22 b23
  have S1 := S1.step b23
  have S7a := S7a.step b23
  have hq7b := natIs_small8 S7b (by omega)
  go_wp2_with fail
  refine (bJac (1) S7a.in_ S7b.in_ (by decide +kernel) (by omega) (by omega) (by omega) (HLd.out.below B23)).mono ?_
  rintro e w24 ⟨rfl, b24⟩
  have B24 := below_step B23 b24
  have S1 := S1.step b24
  have S7a := S7a.step b24
  have S7b := S7b.step b24
  clear S7a S7b
  go_wp2_with fail
  refine (hN8 w24 1 _ rfl (by omega)).mono ?_
  rintro e w25 ⟨X8a, q8a, d8a, rfl, S8a, _, b25⟩
  have B25 := below_step B24 b25
  have S1 := S1.step b25
  have hq8a := natIs_small8 S8a (by omega)
  go_wp2_with fail
  refine (hN8 w25 4 _ rfl (by omega)).mono ?_
  rintro e w26 ⟨X8b, q8b, d8b, rfl, S8b, _, b26⟩
  have B26 := below_step B25 b26
  have S1 := S1.step b26
  have S8a := S8a.step b26
  have hq8b := natIs_small8 S8b (by omega)
  go_wp2_with fail
  refine (bJac_even S8a.in_ S8b.in_ (by omega) (by omega) (by omega)).mono ?_
  rintro e w27 ⟨rfl, b27⟩
  have B27 := below_step B26 b27
  have S1 := S1.step b27
  have S8a := S8a.step b27
  have S8b := S8b.step b27
  clear S8a S8b
  go_wp2_with fail
  refine (hN8 w27 1 _ rfl (by omega)).mono ?_
  rintro e w28 ⟨X9, q9, d9, rfl, S9, _, b28⟩
  have B28 := below_step B27 b28
  have S1 := S1.step b28
  go_wp2_with fail
  refine (bSame S1 S9).mono ?_
  rintro e w29 ⟨rfl, b29⟩
  have B29 := below_step B28 b29
  have S1 := S1.step b29
  have S9 := S9.step b29
  clear S1 S9
  go_wp2_with fail
  go_ret
  exact ⟨rfl, B29⟩
end Go.Proofs.YtabcmdhjbjioiaaDoor
/- The document's Exp of chapter 8. Conditions: as typed (lengths that fit a machine). -/
namespace Go.Proofs.YtabcmdhjbjioiaaDoor
open Go.RowKit
set_option maxRecDepth 20000
section
variable (A A2 A3 : Option Addr) (c c2 c3 : Nat) (a b d : List Nat) (w : World) (hr : Rd .u64 w w.heap.size A a) (hw : Words a) (hl : a.length ≤ 200) (hr2 : Rd .u64 w w.heap.size A2 b) (hw2 : Words b) (hl2 : b.length ≤ 200) (hr3 : Rd .u64 w w.heap.size A3 d) (hw3 : Words d) (hl3 : d.length ≤ 200)
include hr2 hw2 hl2 hr3 hw3 hl3
set_option maxHeartbeats 1000000 in
theorem exp08_zero (h0 : natOf d = 0) : Calls Tryd.prog 15 #[.slice A a.length c, .slice A2 b.length c2, .slice A3 d.length c3] w (OutErr 5 w) := by
  have D3 := Lib.hid h0
  clear h0
  go_enter Tryd.func15, Tryd.ntmps15
  go_wp2_with fail
  refine (digits_any A2 c2 b w hr2 hw2 (by omega)).mono ?_
  rintro e w1 ⟨X, f, rfl, hf, R1, b1⟩
  go_wp2_with fail
  refine (digits_any A3 c3 d w1 (rd_step hr3 b1) hw3 (by omega)).mono ?_
  rintro e w2 ⟨Y, g, rfl, hg, R2, b2⟩
  rw [D3.out, nbits_zero]
  go_wp2_with fail
  go_ret2
  exact ⟨none, 0, rfl, below_step b1 b2⟩
set_option maxHeartbeats 1000000 in
theorem exp08_many (h0 : natOf d ≠ 0) (h : 4096 < nbits (natOf b) ∨ 4096 < nbits (natOf d)) : Calls Tryd.prog 15 #[.slice A a.length c, .slice A2 b.length c2, .slice A3 d.length c3] w (OutErr 4 w) := by
  have hz := (nbits_iff (natOf d)).2 h0
  have hz2 : ((nbits (natOf d) : Int) == 0) = false := by simp; omega
  clear h0
  go_enter Tryd.func15, Tryd.ntmps15
  go_wp2_with fail
  refine (digits_any A2 c2 b w hr2 hw2 (by omega)).mono ?_
  rintro e w1 ⟨X, f, rfl, hf, R1, b1⟩
  go_wp2_with fail
  refine (digits_any A3 c3 d w1 (rd_step hr3 b1) hw3 (by omega)).mono ?_
  rintro e w2 ⟨Y, g, rfl, hg, R2, b2⟩
  have B2 := below_step b1 b2
  by_cases h1 : 4096 < nbits (natOf b)
  · have h1d : decide ((4096 : Int) < (nbits (natOf b) : Int)) = true := by simp; omega
    clear h1
    go_wp2_with fail
    go_ret2
    exact ⟨none, 0, rfl, B2⟩
  · have h1d : decide ((4096 : Int) < (nbits (natOf b) : Int)) = false := by simp; omega
    have h2d : decide ((4096 : Int) < (nbits (natOf d) : Int)) = true := by simp; omega
    clear h1 h
    go_wp2_with fail
    go_ret2
    exact ⟨none, 0, rfl, B2⟩
include hr hw hl
set_option maxHeartbeats 4000000 in
theorem exp08_ok (h0 : natOf d ≠ 0) (h1 : nbits (natOf b) ≤ 4096) (h2 : nbits (natOf d) ≤ 4096) : Calls Tryd.prog 15 #[.slice A a.length c, .slice A2 b.length c2, .slice A3 d.length c3] w (OutOk (natOf a ^ natOf b % natOf d) w) := by
  have hz := (nbits_iff (natOf d)).2 h0
  have hz2 : ((nbits (natOf d) : Int) == 0) = false := by simp; omega
  have h1d : decide ((4096 : Int) < (nbits (natOf b) : Int)) = false := by simp; omega
  have h2d : decide ((4096 : Int) < (nbits (natOf d) : Int)) = false := by simp; omega
  have hna := nbits_natOf a hw
  have H0 := Lib.hid h0
  clear h0
  go_enter Tryd.func15, Tryd.ntmps15
  go_wp2_with fail
  refine (digits_any A2 c2 b w hr2 hw2 (by omega)).mono ?_
  rintro e w1 ⟨X, f, rfl, hf, R1, b1⟩
  have hr3 := rd_step hr3 b1
  have hr := rd_step hr b1
  go_wp2_with fail
  refine (digits_any A3 c3 d w1 hr3 hw3 (by omega)).mono ?_
  rintro e w2 ⟨Y, g, rfl, hg, R2, b2⟩
  have B2 := below_step b1 b2
  have R1 := rd_step R1 b2
  have hr := rd_step hr b2
  clear hr2 hr3
  go_wp2_with fail
  refine (digits_any A c a w2 hr hw (by omega)).mono ?_
  rintro e w3 ⟨Z, k, rfl, hk, R3, b3⟩
  have B3 := below_step B2 b3
  have R1 := rd_step R1 b3
  have R2 := rd_step R2 b3
  go_wp2_with fail
  refine (quot02_any Z Y k g (natOf a) (natOf d) w3 R3 R2 (by omega) (by omega) (by have := H0.out; omega)).mono ?_
  rintro e w4 ⟨Z1, V1, g1, k1, rfl, hg1, hk1, R4, R5, b4⟩
  have B4 := below_step B3 b4
  have R1 := rd_step R1 b4
  have R2 := rd_step R2 b4
  clear R3 R4 hr
  go_wp2_with fail
  have one : Rd .u8 (w4.alloc (.cells #[.int .u8 1] 5)) (w4.heap.size + 1) (some ⟨w4.heap.size, 0, none⟩) (dg 1) := by rw [dg_one]; exact Rd.lit w4 .u8 5 [1]
  have bl : Below w4.heap.size w4 (w4.alloc (.cells #[.int .u8 1] 5)) := (Below.refl _ _).alloc (Nat.le_refl _) _
  have Q := quot02_any (some ⟨w4.heap.size, 0, none⟩) Y 1 g 1 (natOf d) (w4.alloc (.cells #[.int .u8 1] 5)) (one.more (by simp)) (rd_step R2 bl) (by rw [nbits_one]; omega) (by omega) (by have := H0.out; omega)
  rw [nbits_one] at Q
  refine (Q).mono ?_
  rintro e w5 ⟨Z2, V2, g2, k2, rfl, hg2, hk2, R6, R7, b5⟩
  have B5 := below_step B4 (below_made b5)
  have b5' := below_made b5
  have R1 := rd_step R1 b5'
  have R2 := rd_step R2 b5'
  have R5 := rd_step R5 b5'
  clear R6 one bl Q b5 b5'
  obtain ⟨M, hM⟩ : ∃ M, natOf d = M := ⟨_, rfl⟩
  obtain ⟨E, hE⟩ : ∃ E, natOf b = E := ⟨_, rfl⟩
  obtain ⟨Bn, hBn⟩ : ∃ Bn, natOf a = Bn := ⟨_, rfl⟩
  rw [hM] at H0 R2 R5 R7 hk1 hk2 hz hz2 h2 h2d
  rw [hE] at R1 h1 h1d hf
  rw [hBn] at R5 hk1 hna
  have HM := Lib.hid hM
  have HE := Lib.hid hE
  have HB := Lib.hid hBn
  rw [hM, hE, hBn]
  clear hM hE hBn hw hw2 hw3 hl hl2 hl3
  go_wp2_with fail
  have hMp : 0 < M := Nat.pos_of_ne_zero H0.out
  have HMp := Lib.hid hMp
  clear hMp
  go_loopw [13, 14] (fun v iv wr => ∃ (j : Nat) (i : Int) (V : Option Addr) (h x : Nat), j ≤ nbits E ∧ i = (j : Int) - 1 ∧ iv = .int .i64 i ∧ x = Bn ^ (E / 2 ^ j) % M ∧ v = .slice V (nbits x) h ∧ nbits x ≤ h ∧ Rd .u8 wr wr.heap.size V (dg x) ∧ Below w5.heap.size w5 wr) (fun _ iv _ => (intOf iv + 1).toNat)
  case atStart => exact ⟨nbits E, _, V2, k2, _, Nat.le_refl _, rfl, rfl, by rw [Nat.div_eq_of_lt (nbits_lt E), Nat.pow_zero], rfl, hk2, R7, Below.refl _ _⟩
  case round =>
    obtain ⟨j, i, V, h, x, hj, hij, rfl, hx, rfl, hh, RV, hb⟩ := hrel
    have hxM : x < M := by rw [hx]; exact Nat.mod_lt _ HMp.out
    have hxb := nbits_mono (Nat.le_of_lt hxM)
    rcases Nat.eq_zero_or_pos j with h0 | h0
    · subst h0
      obtain rfl : i = -1 := by omega
      clear hij
      rw [Nat.pow_zero, Nat.div_one] at hx
      have WW := wordsN_any V h x wr RV (by omega) hh
      have HW := Lib.hid WW
      have HX := Lib.hid hx
      clear WW RV hx
      go_wp2_with fail
      refine (HW.out).mono ?_
      rintro e w6 ⟨v, rfl, own, b6⟩
      obtain ⟨Z, g, rfl, hg, _⟩ := own_form own
      have hq := length_wd x
      have RZ := Rd.own own
      have BB := (B5.trans (hb.mono B5.size)).trans (b6.mono (Nat.le_trans B5.size hb.size))
      clear own
      go_wp2_with fail
      go_ret2
      exact ⟨_, _, _, rfl, ⟨by rw [HB.out, HE.out, HM.out, ← HX.out]; exact hq, by omega, by rw [HB.out, HE.out, HM.out, ← HX.out]; exact RZ, hg⟩, BB⟩
    · obtain ⟨m, rfl⟩ : ∃ m, j = m + 1 := ⟨j - 1, by omega⟩
      obtain rfl : i = (m : Int) := by omega
      clear hij
      have T := Lib.hid (times02_any V V h h x x wr RV RV (by omega) (by omega))
      have hxx := nbits_mul x x
      have hX := Lib.hid hx
      clear hx RV
      go_wp2_with fail
      refine (T.out).mono ?_
      rintro e w6 ⟨V3, h3, rfl, hh3, R8, b6⟩
      have hb6 := hb.trans (b6.mono hb.size)
      have Q := Lib.hid (quot02_any V3 Y h3 g (x * x) M w6 R8 ((R2.below hb6).more hb6.size) (by omega) (by omega) HMp.out)
      clear T R8
      go_wp2_with fail
      refine (Q.out).mono ?_
      rintro e w7 ⟨Z4, V4, g4, k4, rfl, hg4, hk4, _, R9, b7⟩
      have hb7 := hb6.trans (b7.mono hb6.size)
      have hyM : x * x % M < M := Nat.mod_lt _ HMp.out
      have hyb := nbits_mono (Nat.le_of_lt hyM)
      obtain ⟨y, hy⟩ : ∃ y, x * x % M = y := ⟨_, rfl⟩
      rw [hy] at R9 hk4 hyM hyb ⊢
      have HY := Lib.hid hy
      have R1' := (R1.below hb7).more hb7.size
      obtain ⟨xb, xo, rfl, _, hcell⟩ := R1' (by rw [length_dg]; omega)
      have hcm := hcell m (by rw [length_dg]; omega)
      rw [nth_dg] at hcm
      have hjE : m < nbits E := by omega
      clear Q hcell hy
      rcases Nat.mod_two_eq_zero_or_one (E / 2 ^ m) with hbit | hbit
      · have hnx : y = Bn ^ (E / 2 ^ m) % M := by rw [← HY.out, hX.out]; exact pow_digit_none Bn E M m hbit
        rw [hbit] at hcm
        have HN := Lib.hid hnx
        clear hbit hnx
        go_wp2_with fail
        go_roundw
        case rel => exact ⟨m, _, V4, k4, y, by omega, rfl, by go_num, HN.out, rfl, hk4, R9, hb7⟩
        case measure => simp [intOf]
      · have hnx : y * (Bn % M) % M = Bn ^ (E / 2 ^ m) % M := by rw [← HY.out, hX.out]; exact pow_digit_one Bn E M m hbit
        rw [hbit] at hcm
        have HN := Lib.hid hnx
        have hBM := nbits_mono (Nat.le_of_lt (Nat.mod_lt Bn HMp.out))
        have hyB := nbits_mul y (Bn % M)
        have T2 := Lib.hid (times02_any V4 V1 k4 k1 y (Bn % M) w7 R9 ((R5.below hb7).more hb7.size) (by omega) (by omega))
        clear hbit hnx R9
        go_wp2_with fail
        refine (T2.out).mono ?_
        rintro e w8 ⟨V5, h5, rfl, hh5, R10, b8⟩
        have hb8 := hb7.trans (b8.mono hb7.size)
        have Q2 := Lib.hid (quot02_any V5 Y h5 g (y * (Bn % M)) M w8 R10 ((R2.below hb8).more hb8.size) (by omega) (by omega) HMp.out)
        clear T2 R10
        go_wp2_with fail
        refine (Q2.out).mono ?_
        rintro e w9 ⟨Z6, V6, g6, k6, rfl, hg6, hk6, _, R11, b9⟩
        have hb9 := hb8.trans (b9.mono hb8.size)
        obtain ⟨t, ht⟩ : ∃ t, y * (Bn % M) % M = t := ⟨_, rfl⟩
        rw [ht] at HN hk6 R11 ⊢
        clear Q2 ht
        go_wp2_with fail
        go_roundw
        case rel => exact ⟨m, _, V6, k6, _, by omega, rfl, by go_num, HN.out, rfl, hk6, R11, hb9⟩
        case measure => simp [intOf]
end
section
variable {w : World} {A A2 A3 : Option Addr} {n m k c c2 c3 M N L : Nat}
theorem bExp8_zero (i : NatIn w A2 m c2 N) (j : NatIn w A3 k c3 L) (h : NatIn w A n c M) (h0 : L = 0) (hs2 : m ≤ 200) (hs3 : k ≤ 200) : Calls Tryd.prog 15 #[.slice A n c, .slice A2 m c2, .slice A3 k c3] w (OutErr 5 w) := by
  obtain ⟨l, rfl, rfl, h3, h4, h5, h6⟩ := h
  obtain ⟨l2, rfl, rfl, i3, i4, i5, i6⟩ := i
  obtain ⟨l3, rfl, rfl, j3, j4, j5, j6⟩ := j
  exact exp08_zero A A2 A3 c c2 c3 l l2 l3 w i5 i3 hs2 j5 j3 hs3 h0
theorem bExp8_many (i : NatIn w A2 m c2 N) (j : NatIn w A3 k c3 L) (h : NatIn w A n c M) (h0 : L ≠ 0) (hb : 4096 < nbits N ∨ 4096 < nbits L) (hs2 : m ≤ 200) (hs3 : k ≤ 200) : Calls Tryd.prog 15 #[.slice A n c, .slice A2 m c2, .slice A3 k c3] w (OutErr 4 w) := by
  obtain ⟨l, rfl, rfl, h3, h4, h5, h6⟩ := h
  obtain ⟨l2, rfl, rfl, i3, i4, i5, i6⟩ := i
  obtain ⟨l3, rfl, rfl, j3, j4, j5, j6⟩ := j
  exact exp08_many A A2 A3 c c2 c3 l l2 l3 w i5 i3 hs2 j5 j3 hs3 h0 hb
theorem bExp8_ok (i : NatIn w A2 m c2 N) (j : NatIn w A3 k c3 L) (h : NatIn w A n c M) (h0 : L ≠ 0) (hb : nbits N ≤ 4096) (hb2 : nbits L ≤ 4096) (hs : n ≤ 200) (hs2 : m ≤ 200) (hs3 : k ≤ 200) : Calls Tryd.prog 15 #[.slice A n c, .slice A2 m c2, .slice A3 k c3] w (OutOk (M ^ N % L) w) := by
  obtain ⟨l, rfl, rfl, h3, h4, h5, h6⟩ := h
  obtain ⟨l2, rfl, rfl, i3, i4, i5, i6⟩ := i
  obtain ⟨l3, rfl, rfl, j3, j4, j5, j6⟩ := j
  exact exp08_ok A A2 A3 c c2 c3 l l2 l3 w h5 h3 hs i5 i3 hs2 j5 j3 hs3 h0 hb hb2
end
end Go.Proofs.YtabcmdhjbjioiaaDoor

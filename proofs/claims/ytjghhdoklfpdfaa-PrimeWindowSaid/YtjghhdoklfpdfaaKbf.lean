/- Several texts in one; each begins with a remark that says what it shows and on which conditions. -/
import Derived.Test.YtjghhdoklfpdfaaKbe
/- PrimeFour' walk: it answers true, and writes nothing that was there. No condition but what the arguments' types give. -/
namespace Go.Proofs.Ytjghhdoklfpdfaa
open Go.RowKit
set_option maxRecDepth 20000
theorem refIsB (n : Nat) (hn : n < 4294967296) (b : Bool) (hb : b = true ↔ Prm n) (w : World) : Calls Try.prog 15 #[.int .u64 n] w fun e w' => e = .returned (.bool b) ∧ Below w.heap.size w w' :=
  (refIs n hn b hb w).mono fun _ _ ⟨h1, h2⟩ => ⟨h1, h2 ▸ Below.refl _ _⟩
theorem bProbFour {w : World} {A : Option Addr} {n c K : Nat} (S : NatIs w A n c K) (hK : K < 2147483648) (b : Bool) (hb : b = true ↔ ProbD K [2, 3, 5, 7]) (hL : LaidP w) :
    Calls Try.prog 16 #[.slice A n c, .slice (some ⟨w.heap.size, 0, none⟩) 4 4] (w.alloc (.cells #[.int .u64 2, .int .u64 3, .int .u64 5, .int .u64 7] 23)) fun e w' => e = .returned (.bool b) ∧ Below w.heap.size w w' := by
  have b0 : Below w.heap.size w (w.alloc (.cells #[.int .u64 2, .int .u64 3, .int .u64 5, .int .u64 7] 23)) := (Below.refl _ w).alloc (Nat.le_refl _) _
  have hr : Rd .u64 (w.alloc (.cells #[.int .u64 2, .int .u64 3, .int .u64 5, .int .u64 7] 23)) (w.alloc (.cells #[.int .u64 2, .int .u64 3, .int .u64 5, .int .u64 7] 23)).heap.size (some ⟨w.heap.size, 0, none⟩) [2, 3, 5, 7] :=
    Rd.own (own_of_heap (base := w.heap.size) (e := 23) (n := 4) (cap := 4) (cur := [.int .u64 2, .int .u64 3, .int .u64 5, .int .u64 7]) (xs := ints .u64 [2, 3, 5, 7]) (World.alloc_heap_new w _) (Nat.le_refl _) (Nat.le_refl _) (by unfold maxLen; omega) rfl rfl)
  exact (primeProbable_any (c2 := 4) (S.step b0) (by omega) hr (by intro x hx; simp at hx; omega) (by simp) (by simp) b hb (hL.below b0)).mono fun _ _ ⟨h1, h2⟩ => ⟨h1, below_step b0 h2⟩
set_option maxHeartbeats 4000000 in
theorem primeFour_walk (a0 : Int) (w : World) (w0 : (Lit.int .u32 a0).wf = true) (hL : LaidP w) : Calls Try.prog 5 #[.int .u32 a0] w fun e w' => e = .returned (.bool true) ∧ Below w.heap.size w w' := by
  have HLd := Lib.hid hL
  clear hL
  have ha : 0 ≤ a0 ∧ a0 ≤ 4294967295 := by simpa [Lit.wf, IntKind.min, IntKind.max, IntKind.signed, IntKind.bits] using w0
  obtain ⟨x, rfl⟩ : ∃ x : Nat, a0 = (x : Int) := ⟨a0.toNat, by omega⟩
  obtain ⟨K, hKx⟩ : ∃ K, x % 2147483648 = K := ⟨_, rfl⟩
  have hKI : (x : Int) % 2147483648 = (K : Int) := by omega
  have hK : K < 2147483648 := by omega
  obtain ⟨b, hb⟩ := some_bool (Prm K)
  have HI := Lib.hid hb
  have HB := Lib.hid (hb.trans (prob_four hK).symm)
  clear w0 hKx hb
  cases b
  · skip
    go_enter Try.func5, Try.ntmps5
    go_wp2_with fail
    refine (hN9 w (K) _ rfl (by omega)).mono ?_
    rintro e w1 ⟨X1, q1, d1, rfl, S1, b1⟩
    have B1 := b1
    go_wp2_with fail
    refine (bProbFour S1 hK false (by have h := HB.out; simpa using h) (HLd.out.below B1)).mono ?_
    rintro e w2 ⟨rfl, b2⟩
    have B2 := below_step B1 b2
    have S1 := S1.step b2
    clear S1
    go_wp2_with fail
    refine (refIsB K (by omega) false (by have h := HI.out; simpa using h) _).mono ?_
    rintro e w3 ⟨rfl, b3⟩
    have B3 := below_step B2 b3
    go_wp2_with fail
    refine (primeIs_any K (by omega) false (by have h := HI.out; simpa using h) _ (HLd.out.below B3)).mono ?_
    rintro e w4 ⟨rfl, b4⟩
    have B4 := below_step B3 b4
    go_wp2_with fail
    refine (priWorks_any _ (HLd.out.below B4)).mono ?_
    rintro e w5 ⟨rfl, b5⟩
    have B5 := below_step B4 b5
    go_wp2_with fail
    go_ret
    exact ⟨rfl, B5⟩
  · skip
    go_enter Try.func5, Try.ntmps5
    go_wp2_with fail
    refine (hN9 w (K) _ rfl (by omega)).mono ?_
    rintro e w1 ⟨X1, q1, d1, rfl, S1, b1⟩
    have B1 := b1
    go_wp2_with fail
    refine (bProbFour S1 hK true (by have h := HB.out; simpa using h) (HLd.out.below B1)).mono ?_
    rintro e w2 ⟨rfl, b2⟩
    have B2 := below_step B1 b2
    have S1 := S1.step b2
    clear S1
    go_wp2_with fail
    refine (refIsB K (by omega) true (by have h := HI.out; simpa using h) _).mono ?_
    rintro e w3 ⟨rfl, b3⟩
    have B3 := below_step B2 b3
    go_wp2_with fail
    refine (primeIs_any K (by omega) true (by have h := HI.out; simpa using h) _ (HLd.out.below B3)).mono ?_
    rintro e w4 ⟨rfl, b4⟩
    have B4 := below_step B3 b4
    go_wp2_with fail
    refine (priWorks_any _ (HLd.out.below B4)).mono ?_
    rintro e w5 ⟨rfl, b5⟩
    have B5 := below_step B4 b5
    go_wp2_with fail
    go_ret
    exact ⟨rfl, B5⟩
end Go.Proofs.Ytjghhdoklfpdfaa
/- PrimePlays' walk: it answers true, and writes nothing that was there. No condition but what the arguments' types give. -/
namespace Go.Proofs.Ytjghhdoklfpdfaa
open Go.RowKit
set_option maxRecDepth 20000
theorem made_below9 (w : World) (o : Obj) : Below w.heap.size w (w.alloc o) := (Below.refl _ w).alloc (Nat.le_refl _) o
theorem refTrialB (n most r : Nat) (hn : n < 18446744073709551616) (hm : most < 18446744073709551616) (hr : IsTrial n most r) (b : Bool) (hb : b = true ↔ r ≠ 0) (w : World) :
    Calls Try.prog 11 #[.int .u64 n, .int .u64 most] w fun e w' => e = .returned (.tuple #[.int .u64 r, .bool b]) ∧ Below w.heap.size w w' :=
  (refTrial n most r hn hm hr b hb w).mono fun _ _ ⟨h1, h2⟩ => ⟨h1, h2 ▸ Below.refl _ _⟩
theorem refStrongB (n a : Nat) (hn : n < 4294967296) (ha : a < 18446744073709551616) (b : Bool) (hb : b = true ↔ PassD n a) (w : World) :
    Calls Try.prog 13 #[.int .u64 n, .int .u64 a] w fun x w' => x = .returned (.bool b) ∧ Below w.heap.size w w' :=
  (refStrong n a hn ha b hb w).mono fun _ _ ⟨h1, h2⟩ => ⟨h1, h2 ▸ Below.refl _ _⟩
theorem refProbableB (n : Nat) {A : Option Addr} {c : Nat} {l : List Nat} {w : World} (P : RowIs w A l.length c l) (hl : l.length ≤ 1000) (hn : n < 4294967296) (b : Bool) (hb : b = true ↔ ProbD n l) :
    Calls Try.prog 17 #[.int .u64 n, .slice A l.length c] w fun x w' => x = .returned (.bool b) ∧ Below w.heap.size w w' :=
  (refProbable n A c l w _ P.2.2.2.1 P.2.1 hl hn b hb).mono fun _ _ ⟨h1, h2⟩ => ⟨h1, h2 ▸ Below.refl _ _⟩
set_option maxHeartbeats 8000000 in
set_option maxRecDepth 100000 in
theorem primePlays_walk (a0 a1 a2 : Int) (A3 : Option Addr) (c3 : Nat) (l3 : List Nat) (w : World) (w0 : (Lit.int .u32 a0).wf = true) (w1 : (Lit.int .u64 a1).wf = true) (w2 : (Lit.int .u64 a2).wf = true) (r3 : Rd .u64 w w.heap.size A3 l3) (y3 : Words l3) (_z3 : l3.length * 8 ≤ 140737488351232) (u3 : l3.length ≤ c3) (hL : LaidP w) :
    Calls Try.prog 3 #[.int .u32 a0, .int .u64 a1, .int .u64 a2, .slice A3 l3.length c3] w fun e w' => e = .returned (.bool true) ∧ Below w.heap.size w w' := by
  have HLd := Lib.hid hL
  clear hL
  have ha0 : 0 ≤ a0 ∧ a0 ≤ 4294967295 := by simpa [Lit.wf, IntKind.min, IntKind.max, IntKind.signed, IntKind.bits] using w0
  have ha1 : 0 ≤ a1 ∧ a1 ≤ 18446744073709551615 := by simpa [Lit.wf, IntKind.min, IntKind.max, IntKind.signed, IntKind.bits] using w1
  have ha2 : 0 ≤ a2 ∧ a2 ≤ 18446744073709551615 := by simpa [Lit.wf, IntKind.min, IntKind.max, IntKind.signed, IntKind.bits] using w2
  obtain ⟨x, rfl⟩ : ∃ x : Nat, a0 = (x : Int) := ⟨a0.toNat, by omega⟩
  obtain ⟨most, rfl⟩ : ∃ x : Nat, a1 = (x : Int) := ⟨a1.toNat, by omega⟩
  obtain ⟨base, rfl⟩ : ∃ x : Nat, a2 = (x : Int) := ⟨a2.toNat, by omega⟩
  obtain ⟨K, hKx⟩ : ∃ K, x % 2147483648 = K := ⟨_, rfl⟩
  have hKI : (x : Int) % 2147483648 = (K : Int) := by omega
  have hK : K < 2147483648 := by omega
  have hm : most < 18446744073709551616 := by omega
  clear w0 w1 w2 hKx
  by_cases v0 : 100 < l3.length
  · skip
    have g0 : decide ((100 : Int) < (l3.length : Int)) = true := by simp; omega
    go_enter Try.func3, Try.ntmps3
    go_wp2_with fail
    refine (priWorks_any _ HLd.out).mono ?_
    rintro e w1 ⟨rfl, b1⟩
    have B1 := b1
    go_wp2_with fail
    go_ret
    exact ⟨rfl, B1⟩
  by_cases v1 : 4611686018427387904 ≤ base
  · skip
    have g0 : decide ((100 : Int) < (l3.length : Int)) = false := by simp; omega
    have g1 : decide ((4611686018427387904 : Int) ≤ (base : Int)) = true := by simp; omega
    go_enter Try.func3, Try.ntmps3
    go_wp2_with fail
    refine (priWorks_any _ HLd.out).mono ?_
    rintro e w1 ⟨rfl, b1⟩
    have B1 := b1
    go_wp2_with fail
    go_ret
    exact ⟨rfl, B1⟩
  · have g0 : decide ((100 : Int) < (l3.length : Int)) = false := by simp; omega
    have g1 : decide ((4611686018427387904 : Int) ≤ (base : Int)) = false := by simp; omega
    have P3 : RowIs w A3 l3.length c3 l3 := ⟨rfl, y3, by omega, r3, u3⟩
    obtain ⟨r, hr⟩ := isTrial_some K most
    obtain ⟨bT, hT⟩ := some_bool (r ≠ 0)
    obtain ⟨bS, hS⟩ := some_bool (PassD K base)
    obtain ⟨bI, hI⟩ := some_bool (Prm K)
    obtain ⟨bP, hP⟩ := some_bool (ProbD K l3)
    obtain ⟨p, hN, hpl⟩ := nextP_some (n := K) (by omega)
    have hKp := hN.2.1
    have gpK : decide (p ≤ K) = false := by simp; omega
    have gpK2 : decide ((p : Int) ≤ (K : Int)) = false := by simp; omega
    replace hpl : p < 4294967296 := by omega
    have HR := Lib.hid hr
    have HT := Lib.hid hT
    have HS := Lib.hid hS
    have HI := Lib.hid hI
    have HP := Lib.hid hP
    have HN := Lib.hid hN
    obtain ⟨i0, hi, hz0, hz1, hz2⟩ := info_parts num_info_u64
    clear hr hT hS hI hP hN r3 y3
    go_enter Try.func3, Try.ntmps3
    go_wp2_with fail
    refine (hN9 w (K) _ rfl (by omega)).mono ?_
    rintro e w1 ⟨X1, q1, d1, rfl, S1, b1⟩
    have B1 := b1
    have P3 := P3.step b1
    go_wp2_with fail
    refine (bTrial S1 (by omega) most r hm HR.out bT HT.out (HLd.out.below B1)).mono ?_
    rintro e w2 ⟨rfl, b2⟩
    have B2 := below_step B1 b2
    have P3 := P3.step b2
    have S1 := S1.step b2
    clear S1
    go_wp2_with fail
    refine (refTrialB K most r (by omega) hm HR.out bT HT.out _).mono ?_
    rintro e w3 ⟨rfl, b3⟩
    have B3 := below_step B2 b3
    have P3 := P3.step b3
    go_wp2_with fail
    refine (hN9 w3 (K) _ rfl (by omega)).mono ?_
    rintro e w4 ⟨X2, q2, d2, rfl, S2, b4⟩
    have B4 := below_step B3 b4
    have P3 := P3.step b4
    go_wp2_with fail
    refine (hN9 w4 (base) _ rfl (by omega)).mono ?_
    rintro e w5 ⟨X3, q3, d3, rfl, S3, b5⟩
    have B5 := below_step B4 b5
    have P3 := P3.step b5
    have S2 := S2.step b5
    go_wp2_with fail
    refine (bStrong S2 S3 (by omega) (by omega) bS HS.out (HLd.out.below B5)).mono ?_
    rintro e w6 ⟨rfl, b6⟩
    have B6 := below_step B5 b6
    have P3 := P3.step b6
    have S2 := S2.step b6
    have S3 := S3.step b6
    clear S2 S3
    go_wp2_with fail
    refine (refStrongB K base (by omega) (by omega) bS HS.out _).mono ?_
    rintro e w7 ⟨rfl, b7⟩
    have B7 := below_step B6 b7
    have P3 := P3.step b7
    go_wp2_with fail
    refine (primeIs_any K (by omega) bI HI.out _ (HLd.out.below B7)).mono ?_
    rintro e w8 ⟨rfl, b8⟩
    have B8 := below_step B7 b8
    have P3 := P3.step b8
    go_wp2_with fail
    refine (refIsB K (by omega) bI HI.out _).mono ?_
    rintro e w9 ⟨rfl, b9⟩
    have B9 := below_step B8 b9
    have P3 := P3.step b9
    have b0 := made_below9 w9 (.cells #[] 23)
    have Pa := P3.step b0
    go_wp2_with (at_builtin; refine wpList_append_rd _ rfl (.tmp 68) (.tmp 69) _ rfl w9.heap.size 23 i0 _ 8 Try.underlying24 hi hz0 hz1 hz2 rfl (.slice (some ⟨w9.heap.size, 0, none⟩) 0 0) 0 [] rfl ?c1 .u64 _ A3 l3.length c3 l3 rfl rfl Pa.2.2.2.1 ?c4 ?c5 ?c6 ?_)
    case c1 => exact own_of_heap (cur := []) (heap_alloc_new w9 (.cells #[] 23)) (Nat.le_refl _) (Nat.le_refl _) (Nat.zero_le _) rfl rfl
    case c4 => unfold maxLen; omega
    case c5 => omega
    case c6 => simp
    intro v1 wa own1 hg1
    have ba : Below w9.heap.size w9 wa := b0.grown hg1 (by simp) (by simp [Value.ownBlock])
    have Ba := below_step B9 ba
    have P3 := P3.step ba
    have own1' : wa.ownsRow w9.heap.size 23 1 v1 l3.length (ints .u64 l3) := by simpa using own1
    obtain ⟨X0, d0, rfl, hd0, _⟩ := own_form own1'
    have R : RowIs wa X0 l3.length d0 l3 := ⟨rfl, P3.2.1, by omega, Rd.own own1', hd0⟩
    clear own1 hg1 Pa
    go_wp2_with fail
    refine (hN9 wa (K) _ rfl (by omega)).mono ?_
    rintro e w21 ⟨X4, q4, d4, rfl, S4, b21⟩
    have B21 := below_step Ba b21
    have P3 := P3.step b21
    have R := R.step b21
    go_wp2_with fail
    refine (primeProbable_any S4 (by omega) R.2.2.2.1 R.2.1 (by omega) R.2.2.2.2 bP HP.out (HLd.out.below B21)).mono ?_
    rintro e w22 ⟨rfl, b22⟩
    have B22 := below_step B21 b22
    have P3 := P3.step b22
    have R := R.step b22
    have S4 := S4.step b22
    clear S4 R
    go_wp2_with fail
    refine (refProbableB K P3 (by omega) (by omega) bP HP.out).mono ?_
    rintro e w23 ⟨rfl, b23⟩
    have B23 := below_step B22 b23
    have P3 := P3.step b23
    clear P3
    go_wp2_with fail
    refine (primeNext_any K p HN.out hpl _ (HLd.out.below B23)).mono ?_
    rintro e w24 ⟨rfl, b24⟩
    have B24 := below_step B23 b24
    go_wp2_with fail
    refine (refIsB p hpl true (by simpa using HN.out.1) _).mono ?_
    rintro e w25 ⟨rfl, b25⟩
    have B25 := below_step B24 b25
    go_wp2_with fail
    go_loopw [17] (fun iv wr => ∃ k : Nat, K < k ∧ k ≤ p ∧ iv = .int .u64 k ∧ Below w.heap.size w wr) (fun iv _ => p - (intOf iv).toNat)
    case atStart => exact ⟨K + 1, by omega, by omega, by go_num, B25⟩
    case round =>
      obtain ⟨k, hk1, hk2, rfl, hB⟩ := hrel
      by_cases hlt : k < p
      · have glt : decide ((k : Int) < (p : Int)) = true := by simp; omega
        have HNk := Lib.hid (show ¬ Prm k from fun h => absurd (HN.out.2.2 k h hk1) (by omega))
        have HLT := Lib.hid hlt
        clear hlt
        go_wp2_with fail
        refine (refIsB k (by omega) false (by simpa using HNk.out) _).mono ?_
        rintro e wx ⟨rfl, bx⟩
        have Bx := below_step hB bx
        go_wp2_with fail
        go_roundw
        case rel => have := HLT.out; exact ⟨k + 1, by omega, by omega, by go_num, Bx⟩
        case measure => have := HLT.out; simp [intOf]; omega
      · have glt : decide ((k : Int) < (p : Int)) = false := by simp; omega
        go_wp2_with fail
        refine (priWorks_any _ (HLd.out.below hB)).mono ?_
        rintro e wx ⟨rfl, bx⟩
        have Bx := below_step hB bx
        go_wp2_with fail
        go_ret
        exact ⟨rfl, Bx⟩
end Go.Proofs.Ytjghhdoklfpdfaa

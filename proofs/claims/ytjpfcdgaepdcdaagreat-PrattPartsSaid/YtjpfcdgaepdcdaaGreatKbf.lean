/- Several texts in one; each begins with a remark that says what it shows and on which conditions. -/
import Derived.Test.YtjpfcdgaepdcdaaGreatKbe
import Derived.Test.YtjpfcdgaepdcdaaGreatKbc
import Derived.Test.YtjpfcdgaepdcdaaGreatKaw
import Derived.Test.YtjpfcdgaepdcdaaGreatKao
/- prime.Strong. Conditions: as typed (lengths that fit a machine). -/
namespace Go.Proofs.YtjpfcdgaepdcdaaGreat
open Go.RowKit
set_option maxRecDepth 20000
theorem odd_parts9 (m : Nat) (h : 0 < m) : ∃ s d, m = 2 ^ s * d ∧ d % 2 = 1 := by
  induction m using Nat.strongRecOn with
  | ind m ih =>
    by_cases ho : m % 2 = 1
    · exact ⟨0, m, by omega, ho⟩
    · obtain ⟨s, d, e, hd⟩ := ih (m / 2) (by omega) (by omega)
      exact ⟨s + 1, d, by rw [Nat.pow_succ, Nat.mul_assoc, Nat.mul_left_comm, ← e]; omega, hd⟩
theorem pow_twice9 (B d i N : Nat) : (B ^ (2 ^ i * d) % N) ^ 2 % N = B ^ (2 ^ (i + 1) * d) % N := by
  rw [← Nat.pow_mod, ← Nat.pow_mul]
  congr 2
  rw [Nat.pow_succ, Nat.mul_assoc, Nat.mul_comm d 2, Nat.mul_assoc]
theorem cmpS_ne9 {M N : Nat} (e : M ≠ N) : (cmpS M N == 0) = false ∧ -1 ≤ cmpS M N ∧ cmpS M N ≤ 1 := by
  unfold cmpS
  by_cases h : M < N
  · rw [if_pos h]; decide
  · rw [if_neg h, if_pos (by omega)]; decide
theorem nbits_two9 : nbits 2 = 2 := by decide
section
variable {w : World} {A A2 : Option Addr} {n m c c2 M N : Nat}
theorem cmp_eq9 (h : NatIn w A n c M) (k : NatIn w A2 m c2 N) (e : M = N) : Calls Tryz.prog 21 #[.slice A n c, .slice A2 m c2] w fun e w' => e = .returned (.int .i64 0) ∧ Below w.heap.size w w' := by
  have h := bCmp h k
  rwa [show cmpS M N = 0 by unfold cmpS; rw [if_neg (by omega), if_neg (by omega)]] at h
theorem cmp_ne9 (h : NatIn w A n c M) (k : NatIn w A2 m c2 N) (e : M ≠ N) : Calls Tryz.prog 21 #[.slice A n c, .slice A2 m c2] w fun e w' => ∃ v : Int, e = .returned (.int .i64 v) ∧ (v == 0) = false ∧ -1 ≤ v ∧ v ≤ 1 ∧ Below w.heap.size w w' :=
  (bCmp h k).mono fun _ _ ⟨he, hb⟩ => ⟨_, he, (cmpS_ne9 e).1, (cmpS_ne9 e).2.1, (cmpS_ne9 e).2.2, hb⟩
end
/-- Neither may be asked of, or there is nothing to pass. -/
theorem strong_no9 {w : World} {A A2 : Option Addr} {n m c c2 : Nat} {l l2 : List Nat} (P : RowIs w A n c l) (Q : RowIs w A2 m c2 l2)
    (h : ¬ ((l = wd (natOf l) ∧ nbits (natOf l) ≤ 1024) ∧ (l2 = wd (natOf l2) ∧ nbits (natOf l2) ≤ 1024) ∧ natOf l % 2 = 1 ∧ natOf l ≠ 1)) :
    Calls Tryz.prog 54 #[.slice A n c, .slice A2 m c2] w fun e w' => e = .returned (.bool false) ∧ Below w.heap.size w w' := by
  have hN := P.in_
  have hnl := P.2.2.1
  have hbn := hN.bits
  by_cases h1 : l = wd (natOf l) ∧ nbits (natOf l) ≤ 1024
  · have HF := Lib.hid (fits_any P true ⟨fun _ => h1, fun _ => rfl⟩)
    by_cases h2 : l2 = wd (natOf l2) ∧ nbits (natOf l2) ≤ 1024
    · have HF2 := Lib.hid fun (u : World) (e : Below w.heap.size w u) => fits_any (Q.step e) true ⟨fun _ => h2, fun _ => rfl⟩
      have HBt := Lib.hid fun (u : World) (e : Below w.heap.size w u) => bBit (hN.step e) 0 (by unfold MaxI; omega)
      by_cases h3 : natOf l % 2 = 1
      · rw [show bitS (natOf l) 0 = 1 by unfold bitS; rw [if_neg (by omega)]; show natOf l / 1 % 2 = 1; rw [Nat.div_one]; exact h3] at HBt
        have h4 : natOf l = 1 := by
          rcases Nat.decEq (natOf l) 1 with h5 | h5
          · exact absurd ⟨h1, h2, h3, h5⟩ h
          · exact h5
        have HBs := Lib.hid fun (u : World) (e : Below w.heap.size w u) => bBits (hN.step e)
        rw [h4, show nbits 1 = 1 by decide] at HBs
        clear h h1 h2 h3 h4 hN hbn hnl P Q
        go_enter Tryz.func54, Tryz.ntmps54
        go_wp2_with fail
        refine (HF.out).mono ?_
        rintro e w1 ⟨rfl, b1⟩
        go_wp2_with fail
        refine (HF2.out _ b1).mono ?_
        rintro e w2 ⟨rfl, b2⟩
        have B2 := below_step b1 b2
        go_wp2_with fail
        refine (HBt.out _ B2).mono ?_
        rintro e w3 ⟨rfl, b3⟩
        have B3 := below_step B2 b3
        go_wp2_with fail
        refine (HBs.out _ B3).mono ?_
        rintro e w4 ⟨rfl, b4⟩
        go_wp2_with fail
        go_ret
        exact ⟨rfl, below_step B3 b4⟩
      · rw [show bitS (natOf l) 0 = 0 by unfold bitS; rw [if_neg (by omega)]; show natOf l / 1 % 2 = 0; rw [Nat.div_one]; omega] at HBt
        clear h h1 h2 h3 hN hbn hnl P Q
        go_enter Tryz.func54, Tryz.ntmps54
        go_wp2_with fail
        refine (HF.out).mono ?_
        rintro e w1 ⟨rfl, b1⟩
        go_wp2_with fail
        refine (HF2.out _ b1).mono ?_
        rintro e w2 ⟨rfl, b2⟩
        have B2 := below_step b1 b2
        go_wp2_with fail
        refine (HBt.out _ B2).mono ?_
        rintro e w3 ⟨rfl, b3⟩
        go_wp2_with fail
        go_ret
        exact ⟨rfl, below_step B2 b3⟩
    · have HF2 := Lib.hid fun (u : World) (e : Below w.heap.size w u) => fits_any (Q.step e) false ⟨fun h => (by cases h), fun h => absurd h h2⟩
      clear h h1 h2 hN hbn hnl P Q
      go_enter Tryz.func54, Tryz.ntmps54
      go_wp2_with fail
      refine (HF.out).mono ?_
      rintro e w1 ⟨rfl, b1⟩
      go_wp2_with fail
      refine (HF2.out _ b1).mono ?_
      rintro e w2 ⟨rfl, b2⟩
      go_wp2_with fail
      go_ret
      exact ⟨rfl, below_step b1 b2⟩
  · have HF := Lib.hid (fits_any P false ⟨fun h => (by cases h), fun h => absurd h h1⟩)
    clear h h1 hN hbn hnl P Q
    go_enter Tryz.func54, Tryz.ntmps54
    go_wp2_with fail
    refine (HF.out).mono ?_
    rintro e w1 ⟨rfl, b1⟩
    go_wp2_with fail
    go_ret
    exact ⟨rfl, b1⟩
set_option maxRecDepth 100000 in
set_option maxHeartbeats 4000000 in
theorem strong_ask9 {w : World} {A A2 : Option Addr} {n m c c2 : Nat} {l l2 : List Nat} (P : RowIs w A n c l) (Q : RowIs w A2 m c2 l2)
    (h1 : l = wd (natOf l) ∧ nbits (natOf l) ≤ 1024) (h2 : l2 = wd (natOf l2) ∧ nbits (natOf l2) ≤ 1024) (h3 : natOf l % 2 = 1) (h4 : natOf l ≠ 1) (b : Bool) (hb : b = true ↔ PassD (natOf l) (natOf l2)) :
    Calls Tryz.prog 54 #[.slice A n c, .slice A2 m c2] w fun e w' => e = .returned (.bool b) ∧ Below w.heap.size w w' := by
  have hN := P.in_
  have hB := Q.in_
  have hnl : n ≤ 16 := by
    have h5 := length_wd (natOf l)
    rw [← h1.1, P.1] at h5
    omega
  have hml : m ≤ 16 := by
    have h5 := length_wd (natOf l2)
    rw [← h2.1, Q.1] at h5
    omega
  have HF := Lib.hid (fits_any P true ⟨fun _ => h1, fun _ => rfl⟩)
  have HF2 := Lib.hid fun (u : World) (e : Below w.heap.size w u) => fits_any (Q.step e) true ⟨fun _ => h2, fun _ => rfl⟩
  have HBt := Lib.hid fun (u : World) (e : Below w.heap.size w u) => bBit (hN.step e) 0 (by unfold MaxI; omega)
  rw [show bitS (natOf l) 0 = 1 by unfold bitS; rw [if_neg (by omega)]; show natOf l / 1 % 2 = 1; rw [Nat.div_one]; exact h3] at HBt
  have HBs := Lib.hid fun (u : World) (e : Below w.heap.size w u) => bBits (hN.step e)
  obtain ⟨N, hNN⟩ : ∃ N, natOf l = N := ⟨_, rfl⟩
  obtain ⟨B, hBB⟩ : ∃ B, natOf l2 = B := ⟨_, rfl⟩
  rw [hNN] at hN h3 h4 hb HBs
  rw [hBB] at hB hb
  have hNb : nbits N ≤ 1024 := by rw [← hNN]; exact h1.2
  have hN3 : 3 ≤ N := by omega
  obtain ⟨nb, hnb⟩ : ∃ nb, nbits N = nb := ⟨_, rfl⟩
  have hnb2 : 1 < nb := by
    rcases Nat.lt_or_ge 1 nb with h5 | h5
    · exact h5
    · have h6 := nbits_lt N
      have : 2 ^ nbits N ≤ 2 ^ 1 := Nat.pow_le_pow_right (by omega) (by omega)
      omega
  have hnbb : ((nb : Int) == 1) = false := by simp; omega
  rw [hnb] at HBs
  have hnbl : nb ≤ 1024 := by omega
  have HNB := Lib.hid hNb
  obtain ⟨s, d, he, hd⟩ := odd_parts9 (N - 1) (by omega)
  have hs1024 : s ≤ 1024 := by
    have h5 := nbits_lt N
    have h6 : 2 ^ s * 1 ≤ 2 ^ s * d := Nat.mul_le_mul_left _ (by omega)
    rcases Nat.lt_or_ge 1024 s with h7 | h7
    · have h8 : 2 ^ (nbits N) ≤ 2 ^ s := Nat.pow_le_pow_right (by omega) (by omega)
      omega
    · exact h7
  have hpd := passD_iff (a := B) hN3 h3 he hd
  rw [hpd] at hb
  have hdv : (N - 1) / 2 ^ s = d := by rw [he, Nat.mul_div_cancel_left _ (Nat.pow_pos (by omega))]
  have hdb : nbits d ≤ 1024 := by
    have h5 : d ≤ N := by
      have h6 : 1 * d ≤ 2 ^ s * d := Nat.mul_le_mul_right _ (Nat.pow_pos (by omega))
      omega
    have := nbits_mono h5
    omega
  have hr : ∀ i, B ^ (2 ^ i * d) % N < N := fun i => Nat.mod_lt _ (by omega)
  have hrb : ∀ i, nbits (B ^ (2 ^ i * d) % N) ≤ 1024 := fun i => by
    have := nbits_mono (Nat.le_of_lt (hr i))
    omega
  have HRB := Lib.hid hrb
  have HHB := Lib.hid hb
  have HTW := Lib.hid fun i => pow_twice9 B d i N
  have HDD := Lib.hid (show B ^ d % N = B ^ (2 ^ 0 * d) % N by rw [Nat.pow_zero, Nat.one_mul])
  have HN := Lib.hid hN
  have HB := Lib.hid hB
  have HSub := Lib.hid fun (u : World) (X : Option Addr) (q d0 : Nat) (e : Below w.heap.size w u) (k : NatIn u X q d0 1) => bSub_yes (hN.step e) k (by omega)
  have HHalf := Lib.hid fun (u : World) (X : Option Addr) (q d0 : Nat) (k : NatIn u X q d0 (N - 1)) => halvings_any k he hd (by omega)
  have HShr := Lib.hid fun (u : World) (X : Option Addr) (q d0 : Nat) (k : NatIn u X q d0 (N - 1)) => bShr k (s : Int)
  rw [show shrS (N - 1) (s : Int) = d by unfold shrS; rw [if_pos (by omega), Int.toNat_natCast, hdv]] at HShr
  have HExp := Lib.hid (show ∀ (u : World) (X : Option Addr) (q d0 : Nat), Below w.heap.size w u → NatIs u X q d0 d → Calls Tryz.prog 63 #[.slice A2 m c2, .slice X q d0, .slice A n c] u (OutOk (B ^ d % N) u) from fun u X q d0 e k => by
    have hq := natIs_len8 (K := 16) k (by omega)
    exact exp_ok8 (hB.step e) k.in_ (hN.step e) (by omega) (by omega) (by omega) (by omega) (by omega) (by omega))
  have HSq := Lib.hid (show ∀ (i : Nat) (u : World) (X Y : Option Addr) (q d0 q2 d2 : Nat), Below w.heap.size w u → NatIs u X q d0 (B ^ (2 ^ i * d) % N) → NatIs u Y q2 d2 2 →
      Calls Tryz.prog 63 #[.slice X q d0, .slice Y q2 d2, .slice A n c] u (OutOk ((B ^ (2 ^ i * d) % N) ^ 2 % N) u) from fun i u X Y q d0 q2 d2 e k k2 => by
    have hq := natIs_len8 (K := 16) k (by have := hrb i; omega)
    have hq2 := natIs_len8 (K := 16) k2 (by rw [nbits_two9]; omega)
    exact exp_ok8 k.in_ k2.in_ (hN.step e) (by omega) (by rw [nbits_two9]; omega) (by omega) (by omega) (by omega) (by omega))
  have hN1 := Lib.hid (show N - 1 ≠ 1 by omega)
  clear h1 h2 h3 h4 hb hN hB P Q hNN hBB hNb hnb he hd hpd hdv hdb hr hrb
  go_enter Tryz.func54, Tryz.ntmps54
  go_wp2_with fail
  refine (HF.out).mono ?_
  rintro e w1 ⟨rfl, b1⟩
  go_wp2_with fail
  refine (HF2.out _ b1).mono ?_
  rintro e w2 ⟨rfl, b2⟩
  have B2 := below_step b1 b2
  go_wp2_with fail
  refine (HBt.out _ B2).mono ?_
  rintro e w3 ⟨rfl, b3⟩
  have B3 := below_step B2 b3
  go_wp2_with fail
  refine (HBs.out _ B3).mono ?_
  rintro e w4 ⟨rfl, b4⟩
  have B4 := below_step B3 b4
  go_wp2_with fail
  refine (bOf w4 1 (by omega)).mono ?_
  rintro e w5 ⟨X1, q1, d1, rfl, S1, _, b5⟩
  have B5 := below_step B4 b5
  have HS1 := Lib.hid S1
  clear S1
  go_wp2_with fail
  refine (bOf w5 2 (by omega)).mono ?_
  rintro e w6 ⟨X2, q2, d2, rfl, S2, _, b6⟩
  have B6 := below_step B5 b6
  have HS2 := Lib.hid S2
  have HS1b := Lib.hid (HS1.out.step b6)
  clear S2 HS1
  go_wp2_with fail
  refine (HSub.out w6 X1 q1 d1 B6 HS1b.out.in_).mono ?_
  rintro e w7 ⟨X3, q3, d3, rfl, S3, _, b7⟩
  have B7 := below_step B6 b7
  have HS3 := Lib.hid S3
  have HS1c := Lib.hid (HS1b.out.step b7)
  have HS2c := Lib.hid (HS2.out.step b7)
  clear S3 HS1b HS2
  go_wp2_with fail
  refine (HHalf.out w7 X3 q3 d3 HS3.out.in_).mono ?_
  rintro e w8 ⟨rfl, b8⟩
  have B8 := below_step B7 b8
  have HS3d := Lib.hid (HS3.out.step b8)
  have HS1d := Lib.hid (HS1c.out.step b8)
  have HS2d := Lib.hid (HS2c.out.step b8)
  clear HS3 HS1c HS2c
  go_wp2_with fail
  refine (HShr.out w8 X3 q3 d3 HS3d.out.in_).mono ?_
  rintro e w9 ⟨X4, q4, d4, rfl, S4, _, b9⟩
  have B9 := below_step B8 b9
  have HS4 := Lib.hid S4
  have HS3e := Lib.hid (HS3d.out.step b9)
  have HS1e := Lib.hid (HS1d.out.step b9)
  have HS2e := Lib.hid (HS2d.out.step b9)
  clear S4 HS3d HS1d HS2d
  go_wp2_with fail
  refine (HExp.out w9 X4 q4 d4 B9 HS4.out).mono ?_
  rintro e w10 ⟨X5, q5, d5, rfl, S5, b10⟩
  have B10 := below_step B9 b10
  rw [HDD.out] at S5
  have HS5 := Lib.hid S5
  have HS3f := Lib.hid (HS3e.out.step b10)
  have HS1f := Lib.hid (HS1e.out.step b10)
  have HS2f := Lib.hid (HS2e.out.step b10)
  clear S5 HS3e HS1e HS2e HS4
  by_cases hx1 : B ^ (2 ^ 0 * d) % N = 1
  · have hbt : b = true := HHB.out.2 (.inl (by rw [HDD.out]; exact hx1))
    subst hbt
    have HC := Lib.hid (cmp_eq9 HS5.out.in_ HS1f.out.in_ hx1)
    clear hx1
    go_wp2_with fail
    refine (HC.out).mono ?_
    rintro e w11 ⟨rfl, b11⟩
    go_wp2_with fail
    go_ret
    exact ⟨rfl, below_step B10 b11⟩
  · have HC := Lib.hid (cmp_ne9 HS5.out.in_ HS1f.out.in_ hx1)
    have HX1 := Lib.hid hx1
    clear hx1
    go_wp2_with fail
    refine (HC.out).mono ?_
    rintro e w11 ⟨v, rfl, hv0, hv1, hv2, b11⟩
    have B11 := below_step B10 b11
    have HS5g := Lib.hid (HS5.out.step b11)
    have HS3g := Lib.hid (HS3f.out.step b11)
    have HS2g := Lib.hid (HS2f.out.step b11)
    clear HS5 HS3f HS2f HS1f
    go_wp2_with fail
    go_loopw [54, 10] (fun iv xv wr => ∃ (i : Nat) (X : Option Addr) (q d0 : Nat), iv = .int .i64 i ∧ xv = .slice X q d0 ∧ i ≤ s ∧ Hid (NatIs wr X q d0 (B ^ (2 ^ i * d) % N)) ∧ Hid (∀ j, j < i → B ^ (2 ^ j * d) % N ≠ N - 1) ∧ Below w11.heap.size w11 wr) (fun iv _ _ => s - (intOf iv).toNat)
    case atStart => exact ⟨0, X5, q5, d5, rfl, rfl, Nat.zero_le _, HS5g, Lib.hid (fun j hj => by omega), Below.refl _ _⟩
    case round =>
      obtain ⟨i, X, q, d0, rfl, rfl, hi, hX, hno, hbw⟩ := hrel
      by_cases hlt : i < s
      · have BW := below_step B11 hbw
        have h3 := HS3g.out.step hbw
        by_cases hx : B ^ (2 ^ i * d) % N = N - 1
        · have hbt : b = true := HHB.out.2 (.inr ⟨i, hlt, hx⟩)
          have HC := Lib.hid (cmp_eq9 hX.out.in_ h3.in_ hx)
          subst hbt
          clear hx h3 hX
          go_wp2_with fail
          refine (HC.out).mono ?_
          rintro e w12 ⟨rfl, b12⟩
          go_wp2_with fail
          go_ret
          exact ⟨rfl, below_step BW b12⟩
        · have HC := Lib.hid (cmp_ne9 hX.out.in_ h3.in_ hx)
          have HNO := Lib.hid (show ∀ j, j < i + 1 → B ^ (2 ^ j * d) % N ≠ N - 1 from fun j hj => by
            rcases Nat.lt_or_ge j i with h5 | h5
            · exact hno.out j h5
            · obtain rfl : j = i := by omega
              exact hx)
          clear hx h3 hno
          go_wp2_with fail
          refine (HC.out).mono ?_
          rintro e w12 ⟨v2, rfl, hv20, hv21, hv22, b12⟩
          have B12 := below_step BW b12
          have bw12 := below_step hbw b12
          have HE := Lib.hid (HSq.out i w12 X X2 q d0 q2 d2 B12 (hX.out.step b12) (HS2g.out.step bw12))
          rw [HTW.out i] at HE
          go_wp2_with fail
          refine (HE.out).mono ?_
          rintro e w13 ⟨X6, q6, d6, rfl, S6, b13⟩
          have HS6 := Lib.hid S6
          clear S6
          go_wp2_with fail
          go_roundw
          case rel => exact ⟨i + 1, X6, q6, d6, by go_num, rfl, by omega, HS6, HNO, below_step bw12 b13⟩
          case measure => simp [intOf]; omega
      · obtain rfl : i = s := by omega
        have hbf : b = false := by
          rcases hb : b with _ | _
          · rfl
          · rcases HHB.out.1 hb with h5 | ⟨j, h5, h6⟩
            · exact absurd (by rw [← HDD.out]; exact h5) HX1.out
            · exact absurd h6 (hno.out j h5)
        subst hbf
        go_wp2_with fail
        go_ret
        exact ⟨rfl, below_step B11 hbw⟩
theorem strong_any9 {w : World} {A A2 : Option Addr} {n m c c2 : Nat} {l l2 : List Nat} (P : RowIs w A n c l) (Q : RowIs w A2 m c2 l2) (b : Bool) (hb : b = true ↔ (l = wd (natOf l) ∧ l2 = wd (natOf l2) ∧ nbits (natOf l) ≤ 1024 ∧ nbits (natOf l2) ≤ 1024 ∧ PassD (natOf l) (natOf l2))) :
    Calls Tryz.prog 54 #[.slice A n c, .slice A2 m c2] w fun e w' => e = .returned (.bool b) ∧ Below w.heap.size w w' := by
  by_cases h : (l = wd (natOf l) ∧ nbits (natOf l) ≤ 1024) ∧ (l2 = wd (natOf l2) ∧ nbits (natOf l2) ≤ 1024) ∧ natOf l % 2 = 1 ∧ natOf l ≠ 1
  · obtain ⟨h1, h2, h3, h4⟩ := h
    exact strong_ask9 P Q h1 h2 h3 h4 b (hb.trans ⟨fun h => h.2.2.2.2, fun h => ⟨h1.1, h2.1, h1.2, h2.2, h⟩⟩)
  · have hbf : b = false := by
      rcases hb2 : b with _ | _
      · rfl
      · obtain ⟨e1, e2, e3, e4, e5, e6, _⟩ := hb.1 hb2
        exact absurd ⟨⟨e1, e3⟩, ⟨e2, e4⟩, e6, by omega⟩ h
    subst hbf
    exact strong_no9 P Q h
end Go.Proofs.YtjpfcdgaepdcdaaGreat
/- prime.undivided as what a loop over it may rely on: of each base that comes, which number lies there. Conditions: as typed (lengths that fit a machine). -/
namespace Go.Proofs.YtjpfcdgaepdcdaaGreat
open Go.RowKit Go.Shelf
set_option maxRecDepth 20000
attribute [local go_sem] Oper.semAt_some
/-- A base, and where it lies. -/
structure El9 where
  A : Option Addr
  q : Nat
  c : Nat
  x : Nat
/-- Is a base gone through? -/
def keep9 (N x : Nat) : Bool := decide (N ≠ 0 ∧ x % N ≠ 0)
def EnN (y : El9) (W : World) : Prop := NatIs W y.A y.q y.c y.x ∧ y.x < 18446744073709551616
theorem EnN.own (B : Nat) : OwnFrom B EnN := fun _ _ _ _ hs hg hr => ⟨hs.1.still8 hg fun r e => (hr r e).2, hs.2⟩
/-- What a round keeps: all that lay below n₀, and the iterator's two boxes. -/
def KpC (n₀ p r : Nat) (W W' : World) : Prop := Below n₀ W W' ∧ W'.heap[p]? = W.heap[p]? ∧ W'.heap[r]? = W.heap[r]?
theorem KpC.refl (n₀ p r : Nat) (W : World) : KpC n₀ p r W W := ⟨Below.refl _ _, rfl, rfl⟩
theorem KpC.t {n₀ p r : Nat} {A B C : World} (h : KpC n₀ p r A B) (k : KpC n₀ p r B C) : KpC n₀ p r A C := ⟨h.1.trans k.1, k.2.1.trans h.2.1, k.2.2.trans h.2.2⟩
theorem KpC.of {n₀ p r : Nat} {A B : World} (b : Below A.heap.size A B) (hn : n₀ ≤ A.heap.size) (hp : p < A.heap.size) (hr : r < A.heap.size) : KpC n₀ p r A B := ⟨b.mono hn, b.block p hp, b.block r hr⟩
theorem KpC.b {n₀ p r : Nat} {w : World} (hn : n₀ ≤ w.heap.size) (hp : p < w.heap.size) (hr : r < w.heap.size) (W : World) (l : Nat) (o o' : Obj) (hl : w.heap.size ≤ l) (h : W.heap[l]? = some o) (h1 : o.isCells = false) (h2 : o.isWalk = false) : KpC n₀ p r W (W.putObj l o') := by
  have hg := grownBy_putObj' W l o'
  have hlt := (Array.getElem?_eq_some_iff.1 h).1
  exact ⟨belowK_b hn W l o o' hl h h1 h2, hg.block p (by omega) (by simp; omega), hg.block r (by omega) (by simp; omega)⟩
theorem nth_get9 {L : List Nat} {i : Nat} (h : i < L.length) : nth L i = L[i] := by simp [nth, h]
theorem filter_take9 {L : List Nat} {f : Nat → Bool} {i : Nat} (h : i < L.length) : (L.take (i + 1)).filter f = (L.take i).filter f ++ if f (nth L i) then [nth L i] else [] := by
  have e : L.take (i + 1) = L.take i ++ [nth L i] := by
    rw [List.take_add_one, List.getElem?_eq_getElem h, nth_get9 h]
    rfl
  rw [e, List.filter_append]
  congr 1
  by_cases hf : f (nth L i) = true
  · rw [if_pos hf]; simp [hf]
  · rw [if_neg hf]; simp [hf]
/-- What is left of a base: nothing just if it is not gone through. -/
theorem mod_keep9 {w : World} {A A2 : Option Addr} {n m c c2 x N : Nat} (h : NatIn w A n c x) (i : NatIn w A2 m c2 N) (hs : n ≤ 9500) (hs2 : m ≤ 9500) :
    Calls Tryz.prog 77 #[.slice A n c, .slice A2 m c2] w fun e w' => ∃ Y r f er, e = .returned (.tuple #[.slice Y r f, .int .i64 er]) ∧ (0 < r ↔ keep9 N x = true) ∧ r ≤ 50000 ∧ Below w.heap.size w w' := by
  by_cases h0 : N = 0
  · refine (bMod_zero h i h0 (by omega) (by omega)).mono ?_
    rintro e w' ⟨Y, f, rfl, hb⟩
    exact ⟨Y, 0, f, _, rfl, by simp [keep9, h0], by omega, hb⟩
  · refine (bMod_is (x % N) h i rfl h0 hs hs2).mono ?_
    rintro e w' ⟨Y, r, f, rfl, S, hb⟩
    refine ⟨Y, r, f, _, rfl, ?_, S.2.1, hb⟩
    have h1 := S.1
    rw [length_wd] at h1
    have h2 := (nbits_iff (x % N))
    have h3 : keep9 N x = true ↔ x % N ≠ 0 := by simp [keep9, h0]
    rw [h3]
    constructor
    · intro h4 h5
      rw [h5, nbits_zero] at h1
      omega
    · intro h4
      have := h2.2 (by omega)
      omega
set_option maxRecDepth 100000 in
set_option maxHeartbeats 4000000 in
theorem und1_in (n : Nat) (hn : 1 ≤ n) (l p r n₀ q c c2 N : Nat) (A A2 : Option Addr) (L : List Nat) (hL : Words L) (hkl : L.length ≤ 50000) (_ : L.length ≤ c2) (J Jx : List El9 → World → Prop) (W : World) (hJ : AbidesFrom W.heap.size J)
    (hY : ∀ pre x W1, J pre W1 → EnN x W1 → YieldAt Fence.wide (n - 1) Tryz.prog l #[.slice x.A x.q x.c] W1 fun e W' =>
      (e = .returned (.bool true) ∧ J (pre ++ [x]) W' ∧ KpC n₀ p r W1 W') ∨ (e = .returned (.bool false) ∧ Jx (pre ++ [x]) W'))
    (hp : Boxed W p 24 (.slice A2 L.length c2)) (hr : Boxed W r 33 (.slice A q c)) (hn₀ : n₀ ≤ W.heap.size) (hR2 : Rd .u64 W n₀ A2 L)
    (hA : ∃ l : List Nat, l.length = q ∧ natOf l = N ∧ Words l ∧ q ≤ 9500 ∧ Rd .u64 W n₀ A l ∧ q ≤ c) (h0 : J [] W) :
    CallsIn Fence.wide n Tryz.prog 76 #[.func (.yield l) #[] #[], .pointer (some ⟨p, 0, none⟩), .pointer (some ⟨r, 0, none⟩)] W fun e W' => (∃ v, e = .returned v) ∧
      ((∃ ys, ys.map El9.x = L.filter (keep9 N) ∧ J ys W') ∨ (∃ pre, (∀ y ∈ pre, y.x ∈ L ∧ keep9 N y.x = true) ∧ Jx pre W')) := by
  have hpc := hp.cell
  have hpn := hp.lt
  have hrn := hr.lt
  have HR2 := Lib.hid hR2
  have HN := Lib.hid (show ∀ u : World, Below n₀ W u → n₀ ≤ u.heap.size → NatIn u A q c N from fun u b hle => by
    obtain ⟨xs, e1, e2, e3, e4, e5, e6⟩ := hA
    exact ⟨xs, e1, e2, e3, by omega, (e5.below b).more hle, e6⟩)
  have hq : q ≤ 9500 := by obtain ⟨_, _, _, _, h, _⟩ := hA; exact h
  have HY := Lib.hid hY
  have HJ := Lib.hid hJ
  have HP := Lib.hid hp
  have HRB := Lib.hid hr
  have HL := Lib.hid hL
  have H0 := Lib.hid h0
  clear hR2 hA hY hJ hp hr hL h0
  refine callsIn_of_wp Tryz.func76 rfl trivial ?_ rfl
  simp only [Tryz.ntmps76, List.size_toArray, List.length_cons, List.length_nil, Nat.reduceAdd, Nat.reduceSub, Array.replicate_succ, Array.replicate_zero, List.push_toArray, List.append_toArray, List.nil_append, List.cons_append]
  gi_wp2
  gi_loopw [11] (fun iv wr => ∃ (i : Nat) (ys : List El9), i ≤ L.length ∧ iv = .int .i64 i ∧ Hid (ys.map El9.x = (L.take i).filter (keep9 N)) ∧ Hid (J ys wr) ∧ KpC n₀ p r W wr) (fun iv _ => L.length - (intOf iv).toNat)
  case atStart => exact ⟨0, [], Nat.zero_le _, rfl, Lib.hid (by simp), H0, KpC.refl _ _ _ _⟩
  case round =>
    clear hpc
    obtain ⟨i, ys, hi, rfl, hys, hJs, hkp⟩ := hrel
    by_cases hlt : i < L.length
    · have hsz := hkp.1.size
      obtain ⟨b, off, rfl, _, hcell⟩ := (HR2.out.below hkp.1) (by omega)
      have hc1 := hcell i hlt
      obtain ⟨x, hx⟩ : ∃ x, nth L i = x := ⟨_, rfl⟩
      rw [hx] at hc1
      have hxl : x < 18446744073709551616 := by rw [← hx]; exact nth_lt L HL.out i
      have HF := Lib.hid (filter_take9 (f := keep9 N) hlt)
      rw [hx] at HF
      have HX := Lib.hid hx
      have hrb1 := Boxed.cell (hkp.2.2.trans HRB.out)
      clear hcell hx
      have HKP := Lib.hid hkp
      clear hkp
      gi_wp2
      refine ⟨trivial, ?_⟩
      refine (callsIn_wide.2 (bOf wr x hxl)).mono ?_
      rintro e w2 ⟨X, qq, d, rfl, S2, _, b2⟩
      have K2 := HKP.out.t (KpC.of b2 (by omega) (by omega) (by omega))
      have hs2 := K2.1.size
      have hrb2 := Boxed.cell (K2.2.2.trans HRB.out)
      have HM := Lib.hid (mod_keep9 S2.in_ (HN.out w2 K2.1 (by omega)) (by have := natIs_len8 (K := 1) S2 (by have := nbits_of_lt x 64 hxl; omega); omega) hq)
      have HS2 := Lib.hid S2
      have HK2 := Lib.hid K2
      have HJ2 := Lib.hid (HJ.out _ _ _ none hJs.out (grown_of_below b2) (fun r e => by cases e))
      clear S2 K2 hJs
      gi_wp2
      refine ⟨trivial, ?_⟩
      refine (callsIn_wide.2 HM.out).mono ?_
      rintro e w3 ⟨Y, rr, f, er, rfl, hkeep, hrr, b3⟩
      have K3 := HK2.out.t (KpC.of b3 (by omega) (by have := b2.size; omega) (by have := b2.size; omega))
      have HK3 := Lib.hid K3
      have HJ3 := Lib.hid (HJ.out _ _ _ none HJ2.out (grown_of_below b3) (fun r e => by cases e))
      clear K3 HJ2
      rcases Nat.eq_zero_or_pos rr with h0 | h0
      · subst h0
        have hk0 : keep9 N x = false := by
          rcases h : keep9 N x with _ | _
          · rfl
          · exact absurd (hkeep.2 h) (by omega)
        rw [hk0] at HF
        have HF2 := Lib.hid (show ys.map El9.x = (L.take (i + 1)).filter (keep9 N) by rw [HF.out, ← hys.out]; simp)
        clear hkeep HF
        gi_wp2
        refine ⟨fun _ h => (by cases h), ?_⟩
        gi_wp2
        go_roundw
        case rel => exact ⟨i + 1, ys, by omega, by go_num, HF2, HJ3, HK3.out⟩
        case measure => simp [intOf]; omega
      · have hk0 : keep9 N x = true := hkeep.1 h0
        rw [hk0] at HF
        have hY1 := HY.out ys ⟨X, qq, d, x⟩ w3 HJ3.out ⟨HS2.out.step b3, hxl⟩
        dsimp only at hY1
        obtain ⟨fn, tmps, assign, body, hy, hR⟩ := hY1
        have HR := Lib.hid hR
        have h0d : decide ((0 : Int) < (rr : Int)) = true := by simp; omega
        have HF2 := Lib.hid (show (ys ++ [(⟨X, qq, d, x⟩ : El9)]).map El9.x = (L.take (i + 1)).filter (keep9 N) by rw [HF.out, List.map_append, hys.out]; simp)
        clear hkeep HF hR
        gi_wp2
        refine (HR.out).mono ?_
        rintro e W3 (⟨rfl, hJ3, hk3⟩ | ⟨rfl, hJx3⟩)
        · gi_wp2
          go_roundw
          case rel => exact ⟨i + 1, _, by omega, by go_num, HF2, Lib.hid hJ3, HK3.out.t hk3⟩
          case measure => simp [intOf]; omega
        · have HX3 := Lib.hid (show (∀ y ∈ ys ++ [(⟨X, qq, d, x⟩ : El9)], y.x ∈ L ∧ keep9 N y.x = true) from fun y hy => by
            have h1 : y.x ∈ (ys ++ [(⟨X, qq, d, x⟩ : El9)]).map El9.x := List.mem_map.2 ⟨y, hy, rfl⟩
            rw [HF2.out] at h1
            exact ⟨List.mem_of_mem_take (List.mem_filter.1 h1).1, (List.mem_filter.1 h1).2⟩)
          gi_wp2
          refine bodyPost_ret (results_none rfl _ _ _) rfl ?_
          exact ⟨⟨_, rfl⟩, .inr ⟨_, HX3.out, hJx3⟩⟩
    · obtain rfl : i = L.length := by omega
      gi_wp2
      go_end0
      exact ⟨⟨_, rfl⟩, .inl ⟨_, by rw [hys.out, List.take_length], hJs.out⟩⟩
set_option maxHeartbeats 1000000 in
theorem und_in (n : Nat) (A A2 : Option Addr) (q c k c2 : Nat) (w : World) :
    CallsIn Fence.wide n Tryz.prog 53 #[.slice A q c, .slice A2 k c2] w fun e w' =>
      e = .returned (.func (.func 76) #[] #[.pointer (some ⟨w.heap.size + 1, 0, none⟩), .pointer (some ⟨w.heap.size, 0, none⟩)]) ∧ (w.alloc (.cells #[.slice A q c] 33)).alloc (.cells #[.slice A2 k c2] 24) = w' := by
  refine callsIn_of_wp Tryz.func53 rfl trivial ?_ rfl
  simp only [Tryz.ntmps53, List.size_toArray, List.length_cons, List.length_nil, Nat.reduceAdd, Nat.reduceSub, Array.replicate_succ, Array.replicate_zero, List.push_toArray, List.append_toArray, List.nil_append, List.cons_append]
  gi_wp2
  go_ret
  exact ⟨rfl, rfl⟩
/-- The bases that are gone through; or a part of them. -/
theorem und_told (n : Nat) (hn : 1 ≤ n) (p r n₀ q c c2 N : Nat) (A A2 : Option Addr) (L : List Nat) (hL : Words L) (hkl : L.length ≤ 50000) (hkc : L.length ≤ c2) (w : World)
    (hp : Boxed w p 24 (.slice A2 L.length c2)) (hr : Boxed w r 33 (.slice A q c)) (hn₀ : n₀ ≤ w.heap.size) (hR2 : Rd .u64 w n₀ A2 L)
    (hA : ∃ l : List Nat, l.length = q ∧ natOf l = N ∧ Words l ∧ q ≤ 9500 ∧ Rd .u64 w n₀ A l ∧ q ≤ c) :
    SeqTold Fence.wide n Tryz.prog 76 #[.pointer (some ⟨p, 0, none⟩), .pointer (some ⟨r, 0, none⟩)] (fun y : El9 => #[Value.slice y.A y.q y.c]) EnN (KpC n₀ p r) (fun ys => ys.map El9.x = L.filter (keep9 N)) (fun pre => ∀ y ∈ pre, y.x ∈ L ∧ keep9 N y.x = true) w :=
  fun l J Jx W hW hJ _ hY h0 =>
  und1_in n hn l p r n₀ q c c2 N A A2 L hL hkl hkc J Jx W hJ hY ((hW.block p hp.lt).trans hp) ((hW.block r hr.lt).trans hr) (Nat.le_trans hn₀ hW.size) (hR2.below (hW.mono hn₀))
    (by obtain ⟨xs, e1, e2, e3, e4, e5, e6⟩ := hA; exact ⟨xs, e1, e2, e3, e4, e5.below (hW.mono hn₀), e6⟩) h0
end Go.Proofs.YtjpfcdgaepdcdaaGreat
/- prime.Probable. Conditions: as typed (lengths that fit a machine; a number of 1024 bits at most). -/
namespace Go.Proofs.YtjpfcdgaepdcdaaGreat
open Go.RowKit Go.Shelf
set_option maxRecDepth 20000
attribute [local go_sem] Oper.semAt_some
theorem natIs_row9 {w : World} {A : Option Addr} {n c N : Nat} (h : NatIs w A n c N) : RowIs w A n c (wd N) := ⟨h.1, wd_words N, h.2.1, h.2.2.1, h.2.2.2⟩
theorem strong_is9 {w : World} {A A2 : Option Addr} {n m c c2 N x : Nat} (h : NatIs w A n c N) (k : NatIs w A2 m c2 x) (hN : nbits N ≤ 1024) (hx : nbits x ≤ 1024) (b : Bool) (hb : b = true ↔ PassD N x) :
    Calls Tryz.prog 54 #[.slice A n c, .slice A2 m c2] w fun e w' => e = .returned (.bool b) ∧ Below w.heap.size w w' :=
  strong_any9 (natIs_row9 h) (natIs_row9 k) b (by
    rw [natOf_wd, natOf_wd]
    exact hb.trans ⟨fun h => ⟨rfl, rfl, hN, hx, h⟩, fun h => h.2.2.2.2⟩)
/-- Probable, by the bases that are gone through. -/
theorem prob_iff9 {N : Nat} {l : List Nat} (h2 : N ≠ 2) : ProbD N l ↔ (l.filter (keep9 N) ≠ [] ∧ ∀ x ∈ l.filter (keep9 N), PassD N x) := by
  have key : ∀ x, 0 < N → ((¬ (0 < N ∧ x % N = 0)) ↔ keep9 N x = true) := fun x h0 => by
    unfold keep9
    rw [decide_eq_true_eq]
    constructor
    · intro h; exact ⟨by omega, fun h1 => h ⟨h0, h1⟩⟩
    · rintro ⟨_, h⟩ ⟨_, h1⟩; exact h h1
  rcases Nat.eq_zero_or_pos N with rfl | h0
  · have e : l.filter (keep9 0) = [] := List.filter_eq_nil_iff.2 fun x _ => by simp [keep9]
    rw [e]
    constructor
    · rintro (h | ⟨⟨x, hx, hz⟩, hall⟩)
      · omega
      · have := (hall x hx hz).1
        omega
    · rintro ⟨h, _⟩
      exact absurd rfl h
  · constructor
    · rintro (h | ⟨⟨x, hx, hz⟩, hall⟩)
      · exact absurd h h2
      · refine ⟨fun e => ?_, fun y hy => ?_⟩
        · have : x ∈ l.filter (keep9 N) := List.mem_filter.2 ⟨hx, (key x h0).1 hz⟩
          rw [e] at this
          cases this
        · obtain ⟨h3, h4⟩ := List.mem_filter.1 hy
          exact hall y h3 ((key y h0).2 h4)
    · rintro ⟨h3, h4⟩
      refine .inr ⟨?_, fun x hx hz => h4 x (List.mem_filter.2 ⟨hx, (key x h0).1 hz⟩)⟩
      obtain ⟨x, t, e⟩ := List.exists_cons_of_ne_nil h3
      have hx : x ∈ l.filter (keep9 N) := by rw [e]; exact List.mem_cons_self
      obtain ⟨h5, h6⟩ := List.mem_filter.1 hx
      exact ⟨x, h5, (key x h0).2 h6⟩
/-- Between two rounds of Probable. -/
structure ProMid (w : World) (p5 B : Nat) (A : Option Addr) (n c : Nat) (v : Bool) (W : World) : Prop where
  bn : Boxed W w.heap.size 33 (.slice A n c)
  bp : Boxed W p5 4 (.bool v)
  below : Below w.heap.size w W
  size : B ≤ W.heap.size
theorem ProMid.kept {w W W' : World} {p5 B n c : Nat} {A : Option Addr} {v : Bool} {row : Option Nat} (h : ProMid w p5 B A n c v W) (hg : W.grownBy W' row) (hr : ∀ k, row = some k → B ≤ k) (hw : w.heap.size < p5) (hp : p5 < B) : ProMid w p5 B A n c v W' where
  bn := h.bn.kept hg (by intro e; have := hr _ e.symm; omega)
  bp := h.bp.kept hg (by intro e; have := hr _ e.symm; omega)
  below := h.below.grown hg h.below.size (fun k e => by have := hr k e; omega)
  size := Nat.le_trans h.size hg.size
theorem ProMid.put {w W : World} {p5 B n c : Nat} {A : Option Addr} {v : Bool} (h : ProMid w p5 B A n c v W) (x : Bool) (hw : w.heap.size < p5) : ProMid w p5 B A n c x (W.setCell ⟨p5, 0, none⟩ (.bool x)) where
  bn := h.bn.kept (grownBy_setCell' W p5 (.bool x)) (by simp; omega)
  bp := h.bp.set _
  below := h.below.setCell (p := ⟨p5, 0, none⟩) (by simp; omega) _
  size := by simpa [World.setCell] using h.size
set_option maxRecDepth 100000 in
set_option maxHeartbeats 2000000 in
theorem probable_any9 {w : World} {A A2 : Option Addr} {n c N c2 : Nat} {L : List Nat} (S : NatIs w A n c N) (hN : nbits N ≤ 1024) (hr : Rd .u64 w w.heap.size A2 L) (hw : Words L) (hl : L.length ≤ 1000) (hc : L.length ≤ c2) (b : Bool) (hb : b = true ↔ ProbD N L) :
    Calls Tryz.prog 31 #[.slice A n c, .slice A2 L.length c2] w fun e w' => e = .returned (.bool b) ∧ Below w.heap.size w w' := by
  have hn : n ≤ 16 := by
    have h1 := S.1
    rw [length_wd] at h1
    omega
  have b0 := made_below8 w (.cells #[.slice A n c] 33)
  have bm := Boxed.new w 33 (.slice A n c)
  have hcm := bm.cell
  have hmx : Tryz.prog.follows .mixedOrders = true := by kernel_rfl
  have HS := Lib.hid S
  have BM := Lib.hid bm
  clear S bm
  refine (callsIn_wide (n := 9)).1 ?_
  refine callsIn_of_wp_marks Tryz.func31 rfl trivial ?_ rfl
  simp only [Tryz.ntmps31, List.size_toArray, List.length_cons, List.length_nil, Nat.reduceAdd, Nat.reduceSub, Array.replicate_succ, Array.replicate_zero, List.push_toArray, List.append_toArray, List.nil_append, List.cons_append]
  gi_wp2
  refine only_end ?_
  refine wpIn_region_any hmx ?_
  change wpAnyIn _ _ _ _ _ _ _ _ _ (World.drew _)
  refine anyG.toAny (s := 2) (B := fun W' => W'.cell? ⟨w.heap.size, 0, none⟩ = some (.slice A n c)) ?_
  refine anyG_take (i := 0) (v := .slice A n c) rfl (by kernel_rfl) (by kernel_rfl) (by kernel_rfl) (by kernel_rfl) (by kernel_rfl) (by kernel_rfl) (fun _ _ _ h => h) ⟨by rfl, fun W' g1 => ⟨by go_simp, by rfl⟩⟩ ?_
  refine anyG_one (i := 1) (by kernel_rfl) rfl (fun _ => hcm) (fun K hK => ?_)
  go_simp
  refine ⟨trivial, ?_⟩
  refine (callsIn_wide.2 (bOf _ 2 (by omega))).mono ?_
  rintro e w3 ⟨X2, q2, d2, rfl, S2, _, b3⟩
  refine hK _ _ ?_
  clear hK K
  have B3 := below_step (b0.trans (((Drawn.more 1).below _))) b3
  have hs0 : (w.alloc (.cells #[.slice A n c] 33)).drew.heap.size = w.heap.size + 1 := by show (w.alloc _).heap.size = _; simp
  have bm3 : Boxed w3 w.heap.size 33 (.slice A n c) := (b3.block _ (by omega)).trans BM.out
  have hcm3 := bm3.cell
  by_cases h2 : N = 2
  · have HC := Lib.hid (cmp_eq9 (HS.out.step B3).in_ S2.in_ h2)
    have hbt : b = true := hb.2 (.inl h2)
    subst hbt
    clear hb h2
    refine anyG_one (i := 2) (by kernel_rfl) rfl (fun _ => hcm3) (fun K hK => ?_)
    go_simp
    refine ⟨trivial, ?_⟩
    refine (callsIn_wide.2 HC.out).mono ?_
    rintro e w4 ⟨rfl, b4⟩
    have B4 := below_step B3 b4
    have bm4 : Boxed w4 w.heap.size 33 (.slice A n c) := (b4.block _ bm3.lt).trans bm3
    refine hK _ _ ?_
    clear hK K
    refine anyG_one (i := 3) (by kernel_rfl) rfl (fun _ => bm4.cell) (fun K hK => ?_)
    go_simp
    refine hK _ _ ?_
    clear hK K
    refine anyG_done (by kernel_rfl) (by kernel_rfl) ?_
    gi_wp2
    exact ⟨_, results_tmp (t := 4) rfl _ _ _, rfl, B4⟩
  · have HC := Lib.hid (cmp_ne9 (HS.out.step B3).in_ S2.in_ h2)
    rw [prob_iff9 h2] at hb
    have HB := Lib.hid hb
    clear hb h2
    refine anyG_one (i := 2) (by kernel_rfl) rfl (fun _ => hcm3) (fun K hK => ?_)
    go_simp
    refine ⟨trivial, ?_⟩
    refine (callsIn_wide.2 HC.out).mono ?_
    rintro e w4 ⟨v, rfl, hv0, hv1, hv2, b4⟩
    have B4 := below_step B3 b4
    have bm4 : Boxed w4 w.heap.size 33 (.slice A n c) := (b4.block _ bm3.lt).trans bm3
    have hcm4 := bm4.cell
    refine hK _ _ ?_
    clear hK K
    refine anyG_one (i := 3) (by kernel_rfl) rfl (fun _ => bm4.cell) (fun K hK => ?_)
    go_simp
    refine hK _ _ ?_
    clear hK K
    refine anyG_done (by kernel_rfl) (by kernel_rfl) ?_
    have hcm5 := (bm4.alloc (.cells #[.bool false] 4)).cell
    gi_wp2
    refine ⟨trivial, ?_⟩
    refine (und_in _ A A2 n c L.length c2 _).mono ?_
    rintro e w' ⟨rfl, rfl⟩
    have bp5 := Boxed.new w4 4 (.bool false)
    have bn6 := Boxed.new (w4.alloc (.cells #[.bool false] 4)) 33 (.slice A n c)
    have bb7 := Boxed.new ((w4.alloc (.cells #[.bool false] 4)).alloc (.cells #[.slice A n c] 33)) 24 (.slice A2 L.length c2)
    simp only [World.size_alloc] at bn6 bb7
    obtain ⟨E0, hE0⟩ : ∃ E0, ((w4.alloc (.cells #[.bool false] 4)).alloc (.cells #[.slice A n c] 33)).alloc (.cells #[.slice A2 L.length c2] 24) = E0 := ⟨_, rfl⟩
    have hEs : E0.heap.size = w4.heap.size + 3 := by rw [← hE0]; simp
    have hB4s := B4.size
    have hBE : Below w.heap.size w E0 := by rw [← hE0]; exact ((B4.alloc B4.size _).alloc (by simp; omega) _).alloc (by simp; omega) _
    have hw4 : w.heap.size < w4.heap.size := bm4.lt
    have hM0 : ProMid w w4.heap.size E0.heap.size A n c false E0 := by
      refine ⟨?_, ?_, hBE, Nat.le_refl _⟩
      · rw [← hE0]; exact ((bm4.alloc _).alloc _).alloc _
      · rw [← hE0]; exact (bp5.alloc _).alloc _
    have bnE : Boxed E0 (w4.heap.size + 1) 33 (.slice A n c) := by rw [← hE0]; exact bn6.alloc _
    have bbE : Boxed E0 (w4.heap.size + 1 + 1) 24 (.slice A2 L.length c2) := by rw [← hE0]; exact bb7
    have HEs := Lib.hid hEs
    have HBE := Lib.hid hBE
    have HM0 := Lib.hid hM0
    have BNE := Lib.hid bnE
    have BBE := Lib.hid bbE
    have HR := Lib.hid hr
    have HW := Lib.hid hw
    clear bp5 bn6 bb7 hM0 bnE bbE hBE hcm hcm3 hcm4 hcm5 bm3 bm4 hr hw
    gi_wp2
    clear hE0
    refine range_told rfl (by omega) (gf := 76) (lb := #[.pointer (some ⟨w4.heap.size + 1 + 1, 0, none⟩), .pointer (some ⟨w4.heap.size + 1, 0, none⟩)]) rfl trivial (enters_of Tryz.func76 (by kernel_rfl) rfl)
      (und_told 8 (by omega) (w4.heap.size + 1 + 1) (w4.heap.size + 1) w.heap.size n c c2 N A A2 L HW.out (by omega) hc E0 BBE.out BNE.out (by omega) (HR.out.below HBE.out) (by
        obtain ⟨e1, e2, e3, e4⟩ := HS.out
        exact ⟨wd N, e1, natOf_wd N, wd_words N, by omega, e3.below HBE.out, e4⟩))
      KpC.t (KpC.b (by omega) (by omega) (by omega)) (Below.refl _ _) (fun _ => rfl) (EnN.own _)
      (fun pre W => ∃ v, (pre = [] → v = false) ∧ (pre ≠ [] → v = true) ∧ (∀ y ∈ pre, PassD N y.x) ∧ ProMid w w4.heap.size E0.heap.size A n c v W)
      (fun cd pre W => cd = .exit 0 ∧ (∃ y ∈ pre, ¬ PassD N y.x) ∧ ProMid w w4.heap.size E0.heap.size A n c false W)
      (fun s X Y row hs hg hr => by
        obtain ⟨v, h1, h2, h3, h4⟩ := hs
        exact ⟨v, h1, h2, h3, h4.kept hg (fun k e => (hr k e).1) hw4 (by omega)⟩)
      (fun cd s X Y row hs hg hr => ⟨hs.1, hs.2.1, hs.2.2.kept hg (fun k e => (hr k e).1) hw4 (by omega)⟩)
      ⟨false, fun _ => rfl, fun h => absurd rfl h, fun y hy => (by cases hy), HM0.out⟩
      (fun y => { tmps := #[.slice A n c, .slice A2 L.length c2, .pointer (some ⟨w.heap.size, 0, none⟩), undef, .bool false, .pointer (some ⟨w4.heap.size, 0, none⟩), .slice y.A y.q y.c, .slice A n c, .slice X2 q2 d2, .int .i64 v, .bool false, .slice A n c, .slice A2 L.length c2,
        .func (.func 76) #[] #[.pointer (some ⟨w4.heap.size + 1 + 1, 0, none⟩), .pointer (some ⟨w4.heap.size + 1, 0, none⟩)], .slice y.A y.q y.c, undef, undef, undef, undef, undef, undef], defers := [] }) ?assign ?body ?done ?stop
    case assign =>
      intro l x W K hK
      gi_wp2
      exact hK
    case body =>
      rintro l pre x W ⟨v', _, _, hall, hM⟩ ⟨hx1, hx2⟩
      have hxb : nbits x.x ≤ 1024 := by have := nbits_of_lt x.x 64 hx2; omega
      have HST := Lib.hid fun (b' : Bool) (hb' : b' = true ↔ PassD N x.x) => strong_is9 (HS.out.step hM.below) hx1 hN hxb b' hb'
      have hnc := hM.bn.cell
      have HM := Lib.hid hM
      have HALL := Lib.hid hall
      have hWs := hM.size
      have hpc := hM.bp.cell
      have hpf := hM.bp.frozen
      have key : ∀ (W1 : World) (v2 : Bool), Below W.heap.size W W1 → KeepsFrom E0.heap.size W (W1.setCell ⟨w4.heap.size, 0, none⟩ (.bool v2)) ∧ KpC w.heap.size (w4.heap.size + 1 + 1) (w4.heap.size + 1) W (W1.setCell ⟨w4.heap.size, 0, none⟩ (.bool v2)) ∧ ProMid w w4.heap.size E0.heap.size A n c v2 (W1.setCell ⟨w4.heap.size, 0, none⟩ (.bool v2)) := fun W1 v2 b1 => by
        have hg := grown_of_below b1
        have hM1 := HM.out.kept hg (fun k e => by cases e) hw4 (by omega)
        have hs1 := b1.size
        refine ⟨((KeepsOthers.of_grownBy hg (fun j o e => by cases e)).trans (KeepsOthers.setCell _ _ _)).from _, ⟨(b1.mono (by omega)).setCell (p := ⟨w4.heap.size, 0, none⟩) (by simp; omega) _, ?_, ?_⟩, hM1.put v2 hw4⟩
        · exact ((grownBy_setCell' W1 w4.heap.size (.bool v2)).block _ (by omega) (by intro e; injection e with e; omega)).trans (b1.block _ (by omega))
        · exact ((grownBy_setCell' W1 w4.heap.size (.bool v2)).block _ (by omega) (by intro e; injection e with e; omega)).trans (b1.block _ (by omega))
      have KEY := Lib.hid key
      clear key hM hall hx1
      by_cases hpd : PassD N x.x
      · have HS1 := Lib.hid (HST.out true ⟨fun _ => hpd, fun _ => rfl⟩)
        have HP := Lib.hid hpd
        clear hpd
        gi_wp2
        refine ⟨trivial, ?_⟩
        refine (CallsIn.inRound l (callsIn_wide.2 HS1.out)).mono ?_
        rintro e W1 ⟨rfl, b1⟩
        obtain ⟨k1, k2, k3⟩ := KEY.out W1 true b1
        have hM1 := HM.out.kept (grown_of_below b1) (fun k e => by cases e) hw4 (by omega)
        have hpc1 := hM1.bp.cell
        have hpf1 := hM1.bp.frozen
        have hpc2 := k3.bp.cell
        have HF := Lib.hid (show KeepsFrom E0.heap.size W (W1.setCell ⟨w4.heap.size, 0, none⟩ (.bool true)) ∧ KpC w.heap.size (w4.heap.size + 1 + 1) (w4.heap.size + 1) W (W1.setCell ⟨w4.heap.size, 0, none⟩ (.bool true)) ∧
            ∃ v, (pre ++ [x] = [] → v = false) ∧ (pre ++ [x] ≠ [] → v = true) ∧ (∀ y ∈ pre ++ [x], PassD N y.x) ∧ ProMid w w4.heap.size E0.heap.size A n c v (W1.setCell ⟨w4.heap.size, 0, none⟩ (.bool true)) from
          ⟨k1, k2, true, fun h => by simp at h, fun _ => rfl, fun y hy => by
            rcases List.mem_append.1 hy with h | h
            · exact HALL.out y h
            · rw [List.mem_singleton.1 h]; exact HP.out, k3⟩)
        clear k1 k2 k3 hM1
        gi_wp2
        exact HF.out
      · have HS1 := Lib.hid (HST.out false ⟨fun h => (by cases h), fun h => absurd h hpd⟩)
        have HP := Lib.hid hpd
        clear hpd
        gi_wp2
        refine ⟨trivial, ?_⟩
        refine (CallsIn.inRound l (callsIn_wide.2 HS1.out)).mono ?_
        rintro e W1 ⟨rfl, b1⟩
        obtain ⟨k1, k2, k3⟩ := KEY.out W1 false b1
        have hM1 := HM.out.kept (grown_of_below b1) (fun k e => by cases e) hw4 (by omega)
        have hpc1 := hM1.bp.cell
        have hpf1 := hM1.bp.frozen
        have hpc2 := k3.bp.cell
        have HF := Lib.hid (show KeepsFrom E0.heap.size W (W1.setCell ⟨w4.heap.size, 0, none⟩ (.bool false)) ∧ (Code.exit 0 = Code.exit 0 ∧ (∃ y ∈ pre ++ [x], ¬ PassD N y.x) ∧ ProMid w w4.heap.size E0.heap.size A n c false (W1.setCell ⟨w4.heap.size, 0, none⟩ (.bool false))) from
          ⟨k1, rfl, ⟨x, List.mem_append.2 (.inr (List.mem_singleton.2 rfl)), HP.out⟩, k3⟩)
        clear k1 k2 k3 hM1
        gi_wp2
        exact ⟨HF.out.1, rfl, HF.out.2.2.1, HF.out.2.2.2⟩
    case done =>
      rintro D ys W hD hys ⟨v', hv1, hv2, hall, hM⟩ hKd
      have HKd := Lib.hid hKd
      have hbv : b = v' := by
        have h1 : L.filter (keep9 N) = [] ↔ ys = [] := by rw [← hys]; simp
        rcases hv : v' with _ | _
        · rcases hb : b with _ | _
          · rfl
          · have h2 := (HB.out.1 hb).1
            have := hv2 (fun h => h2 (h1.2 h))
            rw [hv] at this
            cases this
        · refine HB.out.2 ⟨fun h => ?_, fun x hx => ?_⟩
          · have := hv1 (h1.1 h)
            rw [hv] at this
            cases this
          · rw [← hys] at hx
            obtain ⟨y, hy, rfl⟩ := List.mem_map.1 hx
            exact hall y hy
      subst hbv
      have hpc := hM.bp.cell
      have HBF := Lib.hid (show Below w.heap.size w (W.putObj D (.deferred none)) from hM.below.trans (belowK_b (w := w) (Nat.le_refl _) W D _ _ (by omega) HKd.out rfl rfl))
      clear hys hKd hv1 hv2 hall hM
      gi_wp2
      refine ⟨by simp, .inl ⟨_, _, rfl, run_takeDeferred HKd.out, ?_⟩⟩
      exact ⟨_, results_tmp (t := 4) rfl _ _ _, rfl, HBF.out⟩
    case stop =>
      rintro D cd pre W hD hpre ⟨rfl, ⟨y, hy, hnp⟩, hM⟩ hKd
      have HKd := Lib.hid hKd
      have hbf : b = false := by
        rcases hb : b with _ | _
        · rfl
        · exact absurd ((HB.out.1 hb).2 y.x (List.mem_filter.2 (hpre y hy))) hnp
      subst hbf
      have hpc := hM.bp.cell
      have HBF := Lib.hid (show Below w.heap.size w (W.putObj D (.deferred none)) from hM.below.trans (belowK_b (w := w) (Nat.le_refl _) W D _ _ (by omega) HKd.out rfl rfl))
      clear hpre hKd hM hnp
      gi_wp2
      refine ⟨by simp, .inl ⟨_, _, rfl, run_takeDeferred HKd.out, ?_⟩⟩
      exact ⟨_, results_tmp (t := 4) rfl _ _ _, rfl, HBF.out⟩
end Go.Proofs.YtjpfcdgaepdcdaaGreat
/- prime.Is and prime.Next. Conditions: as typed (numbers below 2^32). -/
namespace Go.Proofs.YtjpfcdgaepdcdaaGreat
open Go.RowKit
set_option maxRecDepth 20000
/-! Which bases tell of a prime -/
theorem big_eleven : ¬ PassD 3215031751 11 := fun h => by
  have h1 := (passD_iff (by omega) (by omega) (show 3215031751 - 1 = 2 ^ 1 * 1607515875 by decide) (by decide)).1 h
  have h2 := spd_of h1
  have h3 : spd 3215031751 11 1 1607515875 = false := by decide +kernel
  rw [h3] at h2
  cases h2
theorem prm_two9 : Prm 2 := prm_tried (f := 0) (by omega) rfl (by omega)
theorem prob_list9 {K : Nat} {L : List Nat} (hK : K < 4294967296) (m2 : 2 ∈ L) (m3 : 3 ∈ L) (m5 : 5 ∈ L) (m7 : 7 ∈ L) (m11 : K = 3215031751 → 11 ∈ L) : ProbD K L ↔ Prm K := by
  constructor
  · rintro (rfl | ⟨⟨x, hx, hxz⟩, hall⟩)
    · exact prm_two9
    · have hp := hall x hx hxz
      have h3 := hp.1
      have ho := hp.2.1
      by_cases h7 : K ≤ 7
      · have : K = 3 ∨ K = 5 ∨ K = 7 := by omega
        rcases this with rfl | rfl | rfl
        · exact prm_tried (f := 0) (by omega) rfl (by omega)
        · exact prm_tried (f := 1) (by omega) (by decide) (by omega)
        · exact prm_tried (f := 1) (by omega) (by decide) (by omega)
      · have hp2 := hall 2 m2 (by rw [Nat.mod_eq_of_lt (by omega)]; omega)
        have hp3 := hall 3 m3 (by rw [Nat.mod_eq_of_lt (by omega)]; omega)
        have hp5 := hall 5 m5 (by rw [Nat.mod_eq_of_lt (by omega)]; omega)
        have hp7 := hall 7 m7 (by rw [Nat.mod_eq_of_lt (by omega)]; omega)
        rcases four_bases (by omega) (by omega) hp2.2.2 hp3.2.2 hp5.2.2 hp7.2.2 with h | h
        · exact h
        · have h11 := hall 11 (m11 h) (by rw [Nat.mod_eq_of_lt (by omega)]; omega)
          rw [h] at h11
          exact absurd h11 big_eleven
  · intro h
    by_cases h2 : K = 2
    · exact .inl h2
    · have hK2 := h.1
      have ho : K % 2 = 1 := by
        rcases Nat.mod_two_eq_zero_or_one K with h0 | h0
        · exfalso
          rcases h.2 2 (Nat.dvd_of_mod_eq_zero h0) with e | e <;> omega
        · exact h0
      refine .inr ⟨⟨2, m2, ?_⟩, fun x _ hz => ⟨by omega, ho, h.pass ho fun hd => hz ⟨by omega, Nat.mod_eq_zero_of_dvd hd⟩⟩⟩
      rw [Nat.mod_eq_of_lt (by omega)]
      omega
theorem not_prm_tried {n r most : Nat} (h : IsTrial n most r) (hr : r ≠ 0) : ¬ Prm n := fun hp => by
  rcases h with ⟨h, _⟩ | ⟨h1, _, _, h4, h5, _⟩
  · exact hr h
  · rcases hp.2 r (Nat.dvd_of_mod_eq_zero h5) with e | e <;> omega
/-- The bases for a number. -/
def bases9 (n : Nat) : List Nat := if n < 3215031751 then [2, 3, 5, 7] else [2, 3, 5, 7, 11, 13, 17, 19, 23, 29, 31, 37]
theorem prob_bases9 {n : Nat} (h : n < 4294967296) : ProbD n (bases9 n) ↔ Prm n := by
  unfold bases9
  split
  · exact prob_list9 h (by simp) (by simp) (by simp) (by simp) (fun e => by omega)
  · exact prob_list9 h (by simp) (by simp) (by simp) (by simp) (fun _ => by simp)
theorem bases_words9 (n : Nat) : Words (bases9 n) := by
  unfold bases9
  intro x hx
  split at hx <;> simp at hx <;> omega
theorem bases_length9 (n : Nat) : (bases9 n).length ≤ 12 := by unfold bases9; split <;> simp
set_option maxHeartbeats 1000000 in
theorem deciding_any (n : Nat) (w : World) : Calls Tryz.prog 32 #[.int .u64 n] w fun e w' => ∃ X c, e = .returned (.slice X (bases9 n).length c) ∧ Rd .u64 w' w'.heap.size X (bases9 n) ∧ (bases9 n).length ≤ c ∧ Below w.heap.size w w' := by
  by_cases h : n < 3215031751
  · have e : bases9 n = [2, 3, 5, 7] := if_pos h
    rw [e]
    have HR := Lib.hid ((Rd.lit w .u64 27 [2, 3, 5, 7]).more (B' := (w.alloc (.cells (ints .u64 [2, 3, 5, 7]).toArray 27)).heap.size) (by simp))
    have hb := Lib.hid (made_below8 w (.cells (ints .u64 [2, 3, 5, 7]).toArray 27))
    have hd : decide ((n : Int) < 3215031751) = true := by simp; omega
    clear e
    go_enter Tryz.func32, Tryz.ntmps32
    go_wp2_with fail
    go_ret
    exact ⟨_, _, rfl, HR.out, Nat.le_refl _, hb.out⟩
  · have e : bases9 n = [2, 3, 5, 7, 11, 13, 17, 19, 23, 29, 31, 37] := if_neg h
    rw [e]
    have HR := Lib.hid ((Rd.lit w .u64 27 [2, 3, 5, 7, 11, 13, 17, 19, 23, 29, 31, 37]).more (B' := (w.alloc (.cells (ints .u64 [2, 3, 5, 7, 11, 13, 17, 19, 23, 29, 31, 37]).toArray 27)).heap.size) (by simp))
    have hb := Lib.hid (made_below8 w (.cells (ints .u64 [2, 3, 5, 7, 11, 13, 17, 19, 23, 29, 31, 37]).toArray 27))
    have hd : decide ((n : Int) < 3215031751) = false := by simp; omega
    clear e
    go_enter Tryz.func32, Tryz.ntmps32
    go_wp2_with fail
    go_ret
    exact ⟨_, _, rfl, HR.out, Nat.le_refl _, hb.out⟩
set_option maxHeartbeats 1000000 in
theorem is_any9 (n : Nat) (hn : n < 4294967296) (b : Bool) (hb : b = true ↔ Prm n) (w : World) : Calls Tryz.prog 15 #[.int .u64 n] w fun e w' => e = .returned (.bool b) ∧ Below w.heap.size w w' := by
  obtain ⟨r, hr⟩ := isTrial_some n 64
  have hrn : r < 4294967296 := by
    rcases hr with ⟨h, _⟩ | ⟨_, _, _, h, _⟩ <;> omega
  have hT : ∀ (b' : Bool), (b' = true ↔ r ≠ 0) → ∀ (u : World) (X : Option Addr) (q d : Nat), NatIs u X q d n → Calls Tryz.prog 30 #[.slice X q d, .int .u64 64] u fun e w' => e = .returned (.tuple #[.int .u64 r, .bool b']) ∧ Below u.heap.size u w' := fun b' hb' u X q d S =>
    trial_any (natIs_row9 S) (by have := natIs_len8 (K := 1) S (by have := nbits_of_lt n 64 (by omega); omega); omega) 64 r (by omega) (by rw [natOf_wd, if_pos rfl]; exact hr) b' hb'
  have HO := Lib.hid (bOf w n (by omega))
  by_cases h0 : r = 0
  · subst h0
    have HT := Lib.hid (hT false ⟨fun h => (by cases h), fun h => absurd rfl h⟩)
    have HP := Lib.hid (show ∀ (u : World) (X A2 : Option Addr) (q d c2 : Nat), NatIs u X q d n → Rd .u64 u u.heap.size A2 (bases9 n) → (bases9 n).length ≤ c2 → Calls Tryz.prog 31 #[.slice X q d, .slice A2 (bases9 n).length c2] u fun e w' => e = .returned (.bool b) ∧ Below u.heap.size u w' from
      fun u X A2 q d c2 S hR hc => probable_any9 S (by have := nbits_of_lt n 64 (by omega); omega) hR (bases_words9 n) (by have := bases_length9 n; omega) hc b (hb.trans (prob_bases9 hn).symm))
    clear hT hr hb
    go_enter Tryz.func15, Tryz.ntmps15
    go_wp2_with fail
    refine (HO.out).mono ?_
    rintro e w1 ⟨X, q, d, rfl, S1, _, b1⟩
    have HS1 := Lib.hid S1
    clear S1
    go_wp2_with fail
    refine (HT.out w1 X q d HS1.out).mono ?_
    rintro e w2 ⟨rfl, b2⟩
    have B2 := below_step b1 b2
    have HS2 := Lib.hid (HS1.out.step b2)
    go_wp2_with fail
    refine (deciding_any n w2).mono ?_
    rintro e w3 ⟨A2, c2, rfl, hR, hc, b3⟩
    have B3 := below_step B2 b3
    have HPP := Lib.hid (HP.out w3 X A2 q d c2 (HS2.out.step b3) hR hc)
    have hbl := bases_length9 n
    obtain ⟨k, hk⟩ : ∃ k, (bases9 n).length = k := ⟨_, rfl⟩
    rw [hk] at HPP hbl hc
    rw [hk]
    clear hR
    go_wp2_with fail
    refine (HPP.out).mono ?_
    rintro e w4 ⟨rfl, b4⟩
    go_wp2_with fail
    go_ret
    exact ⟨rfl, below_step B3 b4⟩
  · have HT := Lib.hid (hT true ⟨fun _ => h0, fun _ => rfl⟩)
    have hbf : b = false := by
      rcases h : b with _ | _
      · rfl
      · exact absurd (hb.1 h) (not_prm_tried hr h0)
    subst hbf
    clear hT hr hb
    go_enter Tryz.func15, Tryz.ntmps15
    go_wp2_with fail
    refine (HO.out).mono ?_
    rintro e w1 ⟨X, q, d, rfl, S1, _, b1⟩
    have HS1 := Lib.hid S1
    clear S1
    go_wp2_with fail
    refine (HT.out w1 X q d HS1.out).mono ?_
    rintro e w2 ⟨rfl, b2⟩
    go_wp2_with fail
    go_ret
    exact ⟨rfl, below_step b1 b2⟩
/-! The next prime -/
theorem prm_odd9 {p : Nat} (h : Prm p) (h3 : 3 ≤ p) : p % 2 = 1 := by
  rcases Nat.mod_two_eq_zero_or_one p with h0 | h0
  · rcases h.2 2 (Nat.dvd_of_mod_eq_zero h0) with e | e <;> omega
  · exact h0
end Go.Proofs.YtjpfcdgaepdcdaaGreat
/- prime.Is of each word: whatever it takes, it takes all primes, and below 2^32 no other number. No condition but those typed. -/
namespace Go.Proofs.YtjpfcdgaepdcdaaGreat
open Go.RowKit
set_option maxRecDepth 20000
/-- What prime.Is takes: no number from 2 to 64 divides it, and it passes to its bases. -/
def IsW (n : Nat) : Prop := IsTrial n 64 0 ∧ ProbD n (bases9 n)
theorem isW_none {n : Nat} (h : IsTrial n 64 0) : IsW n ↔ ProbD n (bases9 n) := ⟨fun k => k.2, fun k => ⟨h, k⟩⟩
theorem isTrial_prm {n : Nat} (h : Prm n) : IsTrial n 64 0 := by
  obtain ⟨r, hr⟩ := isTrial_some n 64
  rcases Nat.eq_zero_or_pos r with h0 | h0
  · rw [h0] at hr; exact hr
  · exact absurd h (not_prm_tried hr (by omega))
theorem isW_small : ∀ x, x < 4294967296 → (IsW x ↔ Prm x) := fun _ hx =>
  ⟨fun h => (prob_bases9 hx).1 h.2, fun h => ⟨isTrial_prm h, (prob_bases9 hx).2 h⟩⟩
theorem isW_prm {x : Nat} (h : Prm x) : IsW x := by
  refine ⟨isTrial_prm h, ?_⟩
  by_cases h2 : x = 2
  · exact .inl h2
  · have h3 : 3 ≤ x := by have := h.1; omega
    have ho := prm_odd9 h h3
    have m2 : 2 ∈ bases9 x := by unfold bases9; split <;> simp
    refine .inr ⟨⟨2, m2, by rw [Nat.mod_eq_of_lt (by omega)]; omega⟩, fun y _ hz => ⟨h3, ho, h.pass ho fun hd => hz ⟨by omega, Nat.mod_eq_zero_of_dvd hd⟩⟩⟩
set_option maxHeartbeats 1000000 in
theorem is_word9 (n : Nat) (hn : n < 18446744073709551616) (b : Bool) (hb : b = true ↔ IsW n) (w : World) : Calls Tryz.prog 15 #[.int .u64 n] w fun e w' => e = .returned (.bool b) ∧ Below w.heap.size w w' := by
  obtain ⟨r, hr⟩ := isTrial_some n 64
  have hrn : r < 18446744073709551616 := by
    rcases hr with ⟨h, _⟩ | ⟨_, _, _, h, _⟩ <;> omega
  have hT : ∀ (b' : Bool), (b' = true ↔ r ≠ 0) → ∀ (u : World) (X : Option Addr) (q d : Nat), NatIs u X q d n → Calls Tryz.prog 30 #[.slice X q d, .int .u64 64] u fun e w' => e = .returned (.tuple #[.int .u64 r, .bool b']) ∧ Below u.heap.size u w' := fun b' hb' u X q d S =>
    trial_any (natIs_row9 S) (by have := natIs_len8 (K := 1) S (by have := nbits_of_lt n 64 (by omega); omega); omega) 64 r (by omega) (by rw [natOf_wd, if_pos rfl]; exact hr) b' hb'
  have HO := Lib.hid (bOf w n (by omega))
  by_cases h0 : r = 0
  · subst h0
    have HT := Lib.hid (hT false ⟨fun h => (by cases h), fun h => absurd rfl h⟩)
    have HP := Lib.hid (show ∀ (u : World) (X A2 : Option Addr) (q d c2 : Nat), NatIs u X q d n → Rd .u64 u u.heap.size A2 (bases9 n) → (bases9 n).length ≤ c2 → Calls Tryz.prog 31 #[.slice X q d, .slice A2 (bases9 n).length c2] u fun e w' => e = .returned (.bool b) ∧ Below u.heap.size u w' from
      fun u X A2 q d c2 S hR hc => probable_any9 S (by have := nbits_of_lt n 64 (by omega); omega) hR (bases_words9 n) (by have := bases_length9 n; omega) hc b (hb.trans (isW_none hr)))
    clear hT hr hb
    go_enter Tryz.func15, Tryz.ntmps15
    go_wp2_with fail
    refine (HO.out).mono ?_
    rintro e w1 ⟨X, q, d, rfl, S1, _, b1⟩
    have HS1 := Lib.hid S1
    clear S1
    go_wp2_with fail
    refine (HT.out w1 X q d HS1.out).mono ?_
    rintro e w2 ⟨rfl, b2⟩
    have B2 := below_step b1 b2
    have HS2 := Lib.hid (HS1.out.step b2)
    go_wp2_with fail
    refine (deciding_any n w2).mono ?_
    rintro e w3 ⟨A2, c2, rfl, hR, hc, b3⟩
    have B3 := below_step B2 b3
    have HPP := Lib.hid (HP.out w3 X A2 q d c2 (HS2.out.step b3) hR hc)
    have hbl := bases_length9 n
    obtain ⟨k, hk⟩ : ∃ k, (bases9 n).length = k := ⟨_, rfl⟩
    rw [hk] at HPP hbl hc
    rw [hk]
    clear hR
    go_wp2_with fail
    refine (HPP.out).mono ?_
    rintro e w4 ⟨rfl, b4⟩
    go_wp2_with fail
    go_ret
    exact ⟨rfl, below_step B3 b4⟩
  · have HT := Lib.hid (hT true ⟨fun _ => h0, fun _ => rfl⟩)
    have hbf : b = false := by
      rcases h : b with _ | _
      · rfl
      · exact absurd (isTrial_uniq hr (hb.1 h).1) h0
    subst hbf
    clear hT hr hb
    go_enter Tryz.func15, Tryz.ntmps15
    go_wp2_with fail
    refine (HO.out).mono ?_
    rintro e w1 ⟨X, q, d, rfl, S1, _, b1⟩
    have HS1 := Lib.hid S1
    clear S1
    go_wp2_with fail
    refine (HT.out w1 X q d HS1.out).mono ?_
    rintro e w2 ⟨rfl, b2⟩
    go_wp2_with fail
    go_ret
    exact ⟨rfl, below_step b1 b2⟩
end Go.Proofs.YtjpfcdgaepdcdaaGreat
/- What prime.Is takes up to 2^40 is a prime. No condition but those typed; no program is named. -/
namespace Go.Proofs.YtjpfcdgaepdcdaaGreat
set_option maxRecDepth 20000
theorem isW_40 (x : Nat) (hx : x ≤ 1099511627776) (h : IsW x) : Prm x := by
  by_cases hs : x < 4294967296
  · exact (isW_small x hs).1 h
  obtain ⟨ht, hp⟩ := h
  refine twelve_bases (by omega) hx (fun a ha => ?_) fun p hpp hd => ?_
  · have ha2 : 0 < a ∧ a < 64 := by
      unfold B12 at ha
      simp only [List.mem_cons, List.not_mem_nil, or_false] at ha
      omega
    rcases hp with h2 | ⟨_, hall⟩
    · omega
    · refine (hall a ?_ ?_).2.2
      · have e : bases9 x = [2, 3, 5, 7, 11, 13, 17, 19, 23, 29, 31, 37] := if_neg (by omega)
        rw [e]
        exact ha
      · rw [Nat.mod_eq_of_lt (by omega)]
        omega
  · rcases Nat.lt_or_ge 64 p with h1 | h1
    · exact h1
    · exfalso
      have h2 := hpp.1
      rcases ht with ⟨_, h3⟩ | ⟨h3, _⟩
      · exact h3 p h2 h1 (by omega) (by omega) (Nat.mod_eq_zero_of_dvd hd)
      · omega
end Go.Proofs.YtjpfcdgaepdcdaaGreat

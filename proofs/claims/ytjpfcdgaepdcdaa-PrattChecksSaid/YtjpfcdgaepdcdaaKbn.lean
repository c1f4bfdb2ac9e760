/- Several texts in one; each begins with a remark that says what it shows and on which conditions. -/
import Derived.Test.YtjpfcdgaepdcdaaKbm
/- Chapter 11's examples. No condition. -/
namespace Go.Proofs.Ytjpfcdgaepdcdaa
open Go.RowKit
set_option maxRecDepth 20000
/-- One step of two primes, made in place. -/
theorem one_step11 {w : World} {vP vG v1 v2 : Value} {lP lG l1 l2 : List Nat} (tN tS : TypeId) (hP : RdNat w w.heap.size vP lP) (hG : RdNat w w.heap.size vG lG) (h1 : RdNat w w.heap.size v1 l1) (h2 : RdNat w w.heap.size v2 l2) :
    RdSteps ((w.alloc (.cells #[v1, v2] tN)).alloc (.cells #[vP, vG, .slice (some ⟨w.heap.size, 0, none⟩) 2 2] tS)) ((w.alloc (.cells #[v1, v2] tN)).alloc (.cells #[vP, vG, .slice (some ⟨w.heap.size, 0, none⟩) 2 2] tS)).heap.size (some ⟨w.heap.size + 1, 0, none⟩) [⟨lP, lG, [l1, l2]⟩] := by
  obtain ⟨W, hW⟩ : ∃ W, (w.alloc (.cells #[v1, v2] tN)).alloc (.cells #[vP, vG, .slice (some ⟨w.heap.size, 0, none⟩) 2 2] tS) = W := ⟨_, rfl⟩
  have hB : Below w.heap.size w W := by rw [← hW]; exact ((Below.refl _ w).alloc (Nat.le_refl _) _).alloc (by simp) _
  have hs : W.heap.size = w.heap.size + 2 := by rw [← hW]; simp
  have q : ∀ i, W.cell? ⟨w.heap.size, i, none⟩ = (#[v1, v2] : Array Value)[i]? := fun i => by
    have e1 : W.cell? ⟨w.heap.size, i, none⟩ = (w.alloc (.cells #[v1, v2] tN)).cell? ⟨w.heap.size, i, none⟩ := by
      rw [← hW]; exact World.cell?_alloc_past _ _ _ (by simp)
    rw [e1, World.cell?_alloc_at _ _ _ _ rfl]
  have q0 : W.cell? ⟨w.heap.size, 0, none⟩ = some v1 ∧ W.cell? ⟨w.heap.size, 1, none⟩ = some v2 := ⟨q 0, q 1⟩
  have q1 : ∀ i, W.cell? ⟨w.heap.size + 1, i, none⟩ = (#[vP, vG, .slice (some ⟨w.heap.size, 0, none⟩) 2 2] : Array Value)[i]? := fun i => by
    rw [← hW, World.cell?_alloc_at _ _ _ _ (by simp)]
  rw [hW]
  intro _
  refine ⟨w.heap.size + 1, 0, rfl, by omega, fun j hj => ?_⟩
  obtain rfl : j = 0 := by simpa using hj
  refine ⟨vP, vG, _, q1 0, q1 1, q1 2, hP.step11 hB, hG.step11 hB, some ⟨w.heap.size, 0, none⟩, 2, rfl, fun _ => ⟨w.heap.size, 0, rfl, by omega, fun i hi => ?_⟩, Nat.le_refl _, by simp⟩
  have hi2 : i < 2 := by simpa using hi
  rcases (show i = 0 ∨ i = 1 by omega) with rfl | rfl
  · exact ⟨v1, q0.1, h1.step11 hB⟩
  · exact ⟨v2, q0.2, h2.step11 hB⟩
def exA11 : List SRaw := [⟨OneW 7, OneW 3, [OneW 2, OneW 3]⟩]
def exB11 : List SRaw := [⟨OneW 7, OneW 2, [OneW 2, OneW 3]⟩]
theorem ex_few11 : FewAll exA11 ∧ FewAll exB11 := by
  refine ⟨⟨by decide, fun s hs => ?_⟩, ⟨by decide, fun s hs => ?_⟩⟩
  · obtain rfl := List.mem_singleton.1 hs
    exact ⟨by decide, by decide, by decide, by decide⟩
  · obtain rfl := List.mem_singleton.1 hs
    exact ⟨by decide, by decide, by decide, by decide⟩
theorem exA_low : ∀ s ∈ exA11, LowOne s := fun s hs => by
  obtain rfl := List.mem_singleton.1 hs
  exact ⟨by decide, by decide, by decide⟩
theorem exB_low : ∀ s ∈ exB11, LowOne s := fun s hs => by
  obtain rfl := List.mem_singleton.1 hs
  exact ⟨by decide, by decide, by decide⟩
theorem exA_yes : CheckW (OneW 7) exA11 := (checkW_low (by omega) exA_low).2 check_7_3
theorem exB_no : ¬ CheckW (OneW 7) exB11 := fun h => check_7_2 ((checkW_low (by omega) exB_low).1 h)
theorem none_yes11 : CheckW (OneW 7) [] := (checkW_low (by omega) (by simp)).2 check_7_0
theorem none_no11 : ¬ CheckW (OneW 9) [] := fun h => check_9_0 ((checkW_low (by omega) (by simp)).1 h)
theorem rdSteps_nil11 (w : World) (A : Option Addr) : RdSteps w w.heap.size A [] := fun h => absurd h (by simp)
theorem few_nil11 : FewAll [] := ⟨by simp, by simp⟩
set_option maxHeartbeats 8000000 in
theorem praWorks_any (w : World) (hL : LaidT w) : Calls Try.prog 5 #[] w fun e w' => e = .returned (.bool true) ∧ Below w.heap.size w w' := by
  have HLd := Lib.hid hL
  clear hL
  have HN := Lib.hid (fun (u : World) (x : Nat) (h : x < 18446744073709551616) => hN11 u x (x : Int) rfl h)
  go_enter Try.func5, Try.ntmps5
  go_wp2_with fail
  refine (HN.out w 7 (by omega)).mono ?_
  rintro e w1 ⟨A1, q1, d1, rfl, N1, b1⟩
  have B1 := Lib.hid b1
  have M1 := Lib.hid N1
  clear b1 N1
  go_wp2_with fail
  refine (HN.out w1 3 (by omega)).mono ?_
  rintro e w2 ⟨A2, q2, d2, rfl, N2, b2⟩
  have B2 := Lib.hid (below_step B1.out b2)
  have M1 := Lib.hid (M1.out.step11 b2)
  have M2 := Lib.hid N2
  clear b2 N2
  go_wp2_with fail
  refine (HN.out w2 2 (by omega)).mono ?_
  rintro e w3 ⟨A3, q3, d3, rfl, N3, b3⟩
  have B3 := Lib.hid (below_step B2.out b3)
  have M1 := Lib.hid (M1.out.step11 b3)
  have M2 := Lib.hid (M2.out.step11 b3)
  have M3 := Lib.hid N3
  clear b3 N3
  go_wp2_with fail
  refine (HN.out w3 3 (by omega)).mono ?_
  rintro e w4 ⟨A4, q4, d4, rfl, N4, b4⟩
  have B4 := Lib.hid (below_step B3.out b4)
  have M1 := Lib.hid (M1.out.step11 b4)
  have M2 := Lib.hid (M2.out.step11 b4)
  have M3 := Lib.hid (M3.out.step11 b4)
  have M4 := Lib.hid N4
  clear b4 N4
  have SA := Lib.hid (one_step11 (w := w4) 29 35 M1.out M2.out M3.out M4.out)
  have bm4 := Below.alloc ((Below.refl w4.heap.size w4).alloc (Nat.le_refl _) (.cells #[.slice A3 q3 d3, .slice A4 q4 d4] 29)) (by simp) (.cells #[.slice A1 q1 d1, .slice A2 q2 d2, .slice (some ⟨w4.heap.size, 0, none⟩) 2 2] 35)
  have Bm4 := Lib.hid (below_step B4.out bm4)
  clear bm4 M1 M2 M3 M4
  go_wp2_with fail
  refine (HN.out _ 7 (by omega)).mono ?_
  rintro e w5 ⟨A5, q5, d5, rfl, N5, b5⟩
  have B5 := Lib.hid (below_step Bm4.out b5)
  have SA := Lib.hid (SA.out.step11 b5)
  have M5 := Lib.hid N5
  clear b5 N5
  go_wp2_with fail
  refine (HN.out w5 2 (by omega)).mono ?_
  rintro e w6 ⟨A6, q6, d6, rfl, N6, b6⟩
  have B6 := Lib.hid (below_step B5.out b6)
  have SA := Lib.hid (SA.out.step11 b6)
  have M5 := Lib.hid (M5.out.step11 b6)
  have M6 := Lib.hid N6
  clear b6 N6
  go_wp2_with fail
  refine (HN.out w6 2 (by omega)).mono ?_
  rintro e w7 ⟨A7, q7, d7, rfl, N7, b7⟩
  have B7 := Lib.hid (below_step B6.out b7)
  have SA := Lib.hid (SA.out.step11 b7)
  have M5 := Lib.hid (M5.out.step11 b7)
  have M6 := Lib.hid (M6.out.step11 b7)
  have M7 := Lib.hid N7
  clear b7 N7
  go_wp2_with fail
  refine (HN.out w7 3 (by omega)).mono ?_
  rintro e w8 ⟨A8, q8, d8, rfl, N8, b8⟩
  have B8 := Lib.hid (below_step B7.out b8)
  have SA := Lib.hid (SA.out.step11 b8)
  have M5 := Lib.hid (M5.out.step11 b8)
  have M6 := Lib.hid (M6.out.step11 b8)
  have M7 := Lib.hid (M7.out.step11 b8)
  have M8 := Lib.hid N8
  clear b8 N8
  have SB := Lib.hid (one_step11 (w := w8) 29 35 M5.out M6.out M7.out M8.out)
  have bm8 := Below.alloc ((Below.refl w8.heap.size w8).alloc (Nat.le_refl _) (.cells #[.slice A7 q7 d7, .slice A8 q8 d8] 29)) (by simp) (.cells #[.slice A5 q5 d5, .slice A6 q6 d6, .slice (some ⟨w8.heap.size, 0, none⟩) 2 2] 35)
  have SA := Lib.hid (SA.out.step11 bm8)
  have Bm8 := Lib.hid (below_step B8.out bm8)
  clear bm8 M5 M6 M7 M8
  go_wp2_with fail
  refine (HN.out _ 7 (by omega)).mono ?_
  rintro e w9 ⟨A9, q9, d9, rfl, N9, b9⟩
  have B9 := Lib.hid (below_step Bm8.out b9)
  have SA := Lib.hid (SA.out.step11 b9)
  have SB := Lib.hid (SB.out.step11 b9)
  have M9 := Lib.hid N9
  clear b9 N9
  go_wp2_with fail
  refine (praCheck_any (w := w9) M9.out (.inl (oneW_ok (by omega)).1) (ss := []) (A := none) (c := 0) (rdSteps_nil11 _ none) (Nat.le_refl _) few_nil11 true ⟨fun _ => none_yes11, fun _ => rfl⟩ (HLd.out.below B9.out)).mono ?_
  rintro e w10 ⟨rfl, b10⟩
  have B10 := Lib.hid (below_step B9.out b10)
  have SA := Lib.hid (SA.out.step11 b10)
  have SB := Lib.hid (SB.out.step11 b10)
  have M9 := Lib.hid (M9.out.step11 b10)
  clear b10 M9
  go_wp2_with fail
  refine (HN.out _ 9 (by omega)).mono ?_
  rintro e w11 ⟨A11, q11, d11, rfl, N11, b11⟩
  have B11 := Lib.hid (below_step B10.out b11)
  have SA := Lib.hid (SA.out.step11 b11)
  have SB := Lib.hid (SB.out.step11 b11)
  have M10 := Lib.hid N11
  clear b11 N11
  go_wp2_with fail
  refine (praCheck_any (w := w11) M10.out (.inl (oneW_ok (by omega)).1) (ss := []) (A := none) (c := 0) (rdSteps_nil11 _ none) (Nat.le_refl _) few_nil11 false ⟨fun h => (Bool.false_ne_true h).elim, fun h => absurd h none_no11⟩ (HLd.out.below B11.out)).mono ?_
  rintro e w12 ⟨rfl, b12⟩
  have B12 := Lib.hid (below_step B11.out b12)
  have SA := Lib.hid (SA.out.step11 b12)
  have SB := Lib.hid (SB.out.step11 b12)
  have M10 := Lib.hid (M10.out.step11 b12)
  clear b12 M10
  go_wp2_with fail
  refine (HN.out _ 7 (by omega)).mono ?_
  rintro e w13 ⟨A13, q13, d13, rfl, N13, b13⟩
  have B13 := Lib.hid (below_step B12.out b13)
  have SA := Lib.hid (SA.out.step11 b13)
  have SB := Lib.hid (SB.out.step11 b13)
  have M11 := Lib.hid N13
  clear b13 N13
  go_wp2_with fail
  refine (praCheck_any (w := w13) M11.out (.inl (oneW_ok (by omega)).1) (ss := exA11) (c := 1) SA.out (by decide) ex_few11.1 true ⟨fun _ => exA_yes, fun _ => rfl⟩ (HLd.out.below B13.out)).mono ?_
  rintro e w14 ⟨rfl, b14⟩
  have B14 := Lib.hid (below_step B13.out b14)
  have SA := Lib.hid (SA.out.step11 b14)
  have SB := Lib.hid (SB.out.step11 b14)
  have M11 := Lib.hid (M11.out.step11 b14)
  clear b14 M11
  go_wp2_with fail
  refine (HN.out _ 7 (by omega)).mono ?_
  rintro e w15 ⟨A15, q15, d15, rfl, N15, b15⟩
  have B15 := Lib.hid (below_step B14.out b15)
  have SA := Lib.hid (SA.out.step11 b15)
  have SB := Lib.hid (SB.out.step11 b15)
  have M12 := Lib.hid N15
  clear b15 N15
  go_wp2_with fail
  refine (praCheck_any (w := w15) M12.out (.inl (oneW_ok (by omega)).1) (ss := exB11) (c := 1) SB.out (by decide) ex_few11.2 false ⟨fun h => (Bool.false_ne_true h).elim, fun h => absurd h exB_no⟩ (HLd.out.below B15.out)).mono ?_
  rintro e w16 ⟨rfl, b16⟩
  have B16 := Lib.hid (below_step B15.out b16)
  have SA := Lib.hid (SA.out.step11 b16)
  have SB := Lib.hid (SB.out.step11 b16)
  have M12 := Lib.hid (M12.out.step11 b16)
  clear b16 M12
  go_wp2_with fail
  go_ret
  exact ⟨rfl, B16.out⟩
end Go.Proofs.Ytjpfcdgaepdcdaa
/- PrattChecks' walk: it answers true, and writes nothing that was there. No condition but what the arguments' types give. -/
namespace Go.Proofs.Ytjpfcdgaepdcdaa
open Go.RowKit
set_option maxRecDepth 20000
set_option maxHeartbeats 4000000 in
theorem prattChecks_walk (a0 : Int) (A1 : Option Addr) (len1 c1 : Nat) (l1 : List SRaw) (w : World) (n1 : l1.length = len1) (w0 : (Lit.int .u32 a0).wf = true) (r1 : RdSteps w w.heap.size A1 l1) (z1 : len1 ≤ c1) (_u1 : len1 ≤ 140737488351232) (hL : LaidT w) :
    Calls Try.prog 3 #[.int .u32 a0, .slice A1 len1 c1] w fun e w' => e = .returned (.bool true) ∧ Below w.heap.size w w' := by
  subst n1
  have HLd := Lib.hid hL
  have ha0 : 0 ≤ a0 ∧ a0 ≤ 4294967295 := by simpa [Lit.wf, IntKind.min, IntKind.max, IntKind.signed, IntKind.bits] using w0
  obtain ⟨x, rfl⟩ : ∃ x : Nat, a0 = (x : Int) := ⟨a0.toNat, by omega⟩
  have hx : x < 4294967296 := by omega
  clear w0 hL
  obtain ⟨k, hk⟩ : ∃ k, x % 2147483648 = k := ⟨_, rfl⟩
  have hkI : (x : Int) % 2147483648 = (k : Int) := by omega
  have hkl : k < 2147483648 := by omega
  obtain ⟨bF, hbF⟩ := some_flag11 (FewAll l1)
  have CF := Lib.hid (few11_any (c := c1) r1 bF hbF)
  have HW := Lib.hid (fun (u : World) (h : Hid (LaidT u)) => praWorks_any u h.out)
  by_cases hF : FewAll l1
  · obtain rfl : bF = true := hbF.2 hF
    obtain ⟨bL, hbL⟩ := some_flag11 (∀ s ∈ l1, LowOne s)
    have hlen : l1.length ≤ 1000 := by have := hF.1; omega
    have hq : ∀ s ∈ l1, s.Q.length ≤ 1000 := fun s hs => by have := (hF.2 s hs).1; omega
    obtain ⟨bC, hbC⟩ := some_flag11 (CheckW (OneW k) l1)
    have CN := Lib.hid (fun u => hN11 u k (k : Int) rfl (by omega))
    have CC := Lib.hid (fun (u : World) (v : Value) (hv : Hid (RdNat u u.heap.size v (OneW k))) (h : Hid (RdSteps u u.heap.size A1 l1)) (hL : Hid (LaidT u)) => praCheck_any (c := c1) hv.out (.inl (oneW_ok (by omega)).1) h.out z1 hF bC hbC hL.out)
    have CL := Lib.hid (fun (u : World) (h : Hid (RdSteps u u.heap.size A1 l1)) => refLow11 (c := c1) h.out hlen hq bL hbL)
    have HR := Lib.hid r1
    by_cases hLow : ∀ s ∈ l1, LowOne s
    · obtain rfl : bL = true := hbL.2 hLow
      have CR := Lib.hid (fun (u : World) (h : Hid (RdSteps u u.heap.size A1 l1)) => refCheck11 k hkl (c := c1) h.out hlen hq hLow bC (hbC.trans (checkW_low (by omega) hLow)))
      obtain ⟨n, hn⟩ : ∃ n, l1.length = n := ⟨_, rfl⟩
      rw [hn] at CF CC CL CR
      rw [hn]
      clear hk hbF hF hbL hLow hlen hq hbC r1 hn z1 _u1
      go_enter Try.func3, Try.ntmps3
      go_wp2_with fail
      refine (CF.out).mono ?_
      rintro e w1 ⟨rfl, hd⟩
      have B1 := Lib.hid hd.below11
      have R1 := Lib.hid (HR.out.step11 hd.below11)
      clear hd
      go_wp2_with fail
      refine (CN.out w1).mono ?_
      rintro e w2 ⟨X, q, d, rfl, hN, b2⟩
      have B2 := Lib.hid (below_step B1.out b2)
      have R2 := Lib.hid (R1.out.step11 b2)
      have N2 := Lib.hid hN
      clear hN b2
      go_wp2_with fail
      refine (CC.out w2 _ N2 R2 (Lib.hid (HLd.out.below B2.out))).mono ?_
      rintro e w3 ⟨rfl, b3⟩
      have B3 := Lib.hid (below_step B2.out b3)
      have R3 := Lib.hid (R2.out.step11 b3)
      clear b3
      go_wp2_with fail
      refine (CL.out w3 R3).mono ?_
      rintro e w4 ⟨rfl, hd⟩
      have B4 := Lib.hid (below_step B3.out hd.below11)
      have R4 := Lib.hid (R3.out.step11 hd.below11)
      clear hd
      go_wp2_with fail
      refine (CR.out w4 R4).mono ?_
      rintro e w5 ⟨rfl, b5⟩
      have B5 := Lib.hid (below_step B4.out b5)
      clear b5
      go_wp2_with fail
      refine (HW.out w5 (Lib.hid (HLd.out.below B5.out))).mono ?_
      rintro e w6 ⟨rfl, b6⟩
      have B6 := Lib.hid (below_step B5.out b6)
      clear b6
      go_wp2_with fail
      go_ret
      exact ⟨rfl, B6.out⟩
    · have hbL0 : bL = false := by cases hq2 : bL with | false => rfl | true => exact absurd (hbL.1 hq2) hLow
      subst hbL0
      obtain ⟨n, hn⟩ : ∃ n, l1.length = n := ⟨_, rfl⟩
      rw [hn] at CF CC CL
      rw [hn]
      clear hk hbF hF hbL hLow hlen hq hbC r1 hn z1 _u1
      go_enter Try.func3, Try.ntmps3
      go_wp2_with fail
      refine (CF.out).mono ?_
      rintro e w1 ⟨rfl, hd⟩
      have B1 := Lib.hid hd.below11
      have R1 := Lib.hid (HR.out.step11 hd.below11)
      clear hd
      go_wp2_with fail
      refine (CN.out w1).mono ?_
      rintro e w2 ⟨X, q, d, rfl, hN, b2⟩
      have B2 := Lib.hid (below_step B1.out b2)
      have R2 := Lib.hid (R1.out.step11 b2)
      have N2 := Lib.hid hN
      clear hN b2
      go_wp2_with fail
      refine (CC.out w2 _ N2 R2 (Lib.hid (HLd.out.below B2.out))).mono ?_
      rintro e w3 ⟨rfl, b3⟩
      have B3 := Lib.hid (below_step B2.out b3)
      have R3 := Lib.hid (R2.out.step11 b3)
      clear b3
      go_wp2_with fail
      refine (CL.out w3 R3).mono ?_
      rintro e w4 ⟨rfl, hd⟩
      have B4 := Lib.hid (below_step B3.out hd.below11)
      clear hd
      go_wp2_with fail
      refine (HW.out w4 (Lib.hid (HLd.out.below B4.out))).mono ?_
      rintro e w6 ⟨rfl, b6⟩
      have B6 := Lib.hid (below_step B4.out b6)
      clear b6
      go_wp2_with fail
      go_ret
      exact ⟨rfl, B6.out⟩
  · have hbF0 : bF = false := by cases hq : bF with | false => rfl | true => exact absurd (hbF.1 hq) hF
    subst hbF0
    obtain ⟨n, hn⟩ : ∃ n, l1.length = n := ⟨_, rfl⟩
    rw [hn] at CF
    rw [hn]
    clear hk hbF hF r1 hn z1 _u1
    go_enter Try.func3, Try.ntmps3
    go_wp2_with fail
    refine (CF.out).mono ?_
    rintro e w1 ⟨rfl, hd⟩
    have B1 := Lib.hid hd.below11
    clear hd
    go_wp2_with fail
    refine (HW.out w1 (Lib.hid (HLd.out.below B1.out))).mono ?_
    rintro e w6 ⟨rfl, b6⟩
    have B6 := Lib.hid (below_step B1.out b6)
    clear b6
    go_wp2_with fail
    go_ret
    exact ⟨rfl, B6.out⟩
end Go.Proofs.Ytjpfcdgaepdcdaa

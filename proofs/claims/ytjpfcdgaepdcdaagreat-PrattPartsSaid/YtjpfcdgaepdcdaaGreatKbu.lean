/- Several texts in one; each begins with a remark that says what it shows and on which conditions. -/
import Derived.Test.YtjpfcdgaepdcdaaGreatKbt
/- PrattParts' walk: it answers true, and writes nothing that was there. No condition but what the arguments' types give. -/
namespace Go.Proofs.YtjpfcdgaepdcdaaGreat
open Go.RowKit
set_option maxRecDepth 20000
theorem tD11 {P : Program} {md : Region.Mode} {ops : Array Oper} {Q : Exit → Act → World → Prop} {i d : Nat} {oi : Oper} {v : Value} {fuel : Nat} {listed : Array Bool} {a : Act} {w : World} (hi : ops[i]? = some oi) (hd : oi.dst = some d)
    (hf : (Region.noSelect ops && Region.free md ops listed i && (Region.ready md ops listed).contains i) = true) (hQ : ∀ c a w, Q (.panic c) (a.put oi.dst v) w → Q (.panic c) a w) (hy : Yields P ops oi v a)
    (h : wpAny P md ops Q fuel (listed.setIfInBounds i true) (a.put (some d) v) w) : wpAny P md ops Q (fuel + 1) listed a w := by
  simp only [Bool.and_eq_true] at hf
  exact wpAny_takeD hi hd hf.1.1 hf.1.2 hf.2 hQ hy h
set_option maxHeartbeats 8000000 in
theorem prattParts_walk (a0 a1 : Int) (A2 : Option Addr) (c2 : Nat) (l2 : List Nat) (w : World) (w0 : (Lit.int .u64 a0).wf = true) (w1 : (Lit.int .u32 a1).wf = true) (r2 : Rd .u64 w w.heap.size A2 l2) (y2 : Words l2) (_z2 : l2.length * 8 ≤ 140737488351232) (u2 : l2.length ≤ c2) (hL : LaidT w) :
    Calls Tryz.prog 4 #[.int .u64 a0, .int .u32 a1, .slice A2 l2.length c2] w fun e w' => e = .returned (.bool true) ∧ Below w.heap.size w w' := by
  have HLd := Lib.hid hL
  have ha0 : 0 ≤ a0 ∧ a0 ≤ 18446744073709551615 := by simpa [Lit.wf, IntKind.min, IntKind.max, IntKind.signed, IntKind.bits] using w0
  have ha1 : 0 ≤ a1 ∧ a1 ≤ 4294967295 := by simpa [Lit.wf, IntKind.min, IntKind.max, IntKind.signed, IntKind.bits] using w1
  obtain ⟨p, rfl⟩ : ∃ p : Nat, a0 = (p : Int) := ⟨a0.toNat, by omega⟩
  obtain ⟨x, rfl⟩ : ∃ x : Nat, a1 = (x : Int) := ⟨a1.toNat, by omega⟩
  have hp : p < 18446744073709551616 := by omega
  have hx : x < 4294967296 := by omega
  clear w0 w1 hL ha0 ha1
  obtain ⟨k, hk⟩ : ∃ k, x % 2147483648 = k := ⟨_, rfl⟩
  have hkI : (x : Int) % 2147483648 = (k : Int) := by omega
  have hkl : k < 2147483648 := by omega
  have HW := Lib.hid (fun (u : World) (h : Hid (LaidT u)) => praWorks_any u h.out)
  obtain ⟨m2, hm2⟩ : ∃ m2, l2.length = m2 := ⟨_, rfl⟩
  rw [hm2]
  by_cases v0 : 40 < m2
  · skip
    have g0 : decide ((40 : Int) < (m2 : Int)) = true := by simp; omega
    clear hk hm2 y2 r2 _z2 u2
    go_enter Tryz.func4, Tryz.ntmps4
    go_wp2_with fail
    refine (HW.out _ (Lib.hid (HLd.out.below (Below.refl _ _)))).mono ?_
    rintro e wz ⟨rfl, bz⟩
    have Bz := Lib.hid (below_step ((Below.refl _ _)) bz)
    clear bz
    go_wp2_with fail
    go_ret
    exact ⟨rfl, Bz.out⟩
  have g0 : decide ((40 : Int) < (m2 : Int)) = false := by simp; omega
  by_cases v1 : 1099511627776 < p
  · skip
    have g1 : decide ((1099511627776 : Int) < (p : Int)) = true := by simp; omega
    clear hk hm2 y2 r2 _z2 u2
    go_enter Tryz.func4, Tryz.ntmps4
    go_wp2_with fail
    refine (HW.out _ (Lib.hid (HLd.out.below (Below.refl _ _)))).mono ?_
    rintro e wz ⟨rfl, bz⟩
    have Bz := Lib.hid (below_step ((Below.refl _ _)) bz)
    clear bz
    go_wp2_with fail
    go_ret
    exact ⟨rfl, Bz.out⟩
  have g1 : decide ((1099511627776 : Int) < (p : Int)) = false := by simp; omega
  have CB := Lib.hid (build40 (w := w) (show RowIs w A2 m2 c2 l2 from ⟨hm2, y2, by omega, r2, by omega⟩) (by omega) p (by omega) HLd.out)
  have CO := Lib.hid (fun u => of11 u p hp)
  have CN := Lib.hid (fun u => of11 u k (by omega))
  obtain ⟨bI, hbI⟩ := some_flag11 (Prm k)
  have CI := Lib.hid (fun u => refIs11 k (by omega) bI hbI u)
  have HI := Lib.hid hbI
  have HP64 := Lib.hid hp
  clear hbI hk hm2 y2 r2 _z2 u2
  go_enter Tryz.func4, Tryz.ntmps4
  go_wp2_with fail
  refine (CB.out).mono ?_
  rintro e w1 ⟨X, L, d, ss, E, rfl, hl, hT, hS, hd, b1⟩
  have BB := Lib.hid b1
  have SB := Lib.hid hS
  clear b1 hS CB
  rcases hT.cases40 hl with ⟨rfl, rfl | rfl | rfl⟩ | ⟨rfl, hL0, h16, hF, hC⟩
  · clear hT hl
    go_wp2_with fail
    refine (HW.out _ (Lib.hid (HLd.out.below BB.out))).mono ?_
    rintro e wz ⟨rfl, bz⟩
    have Bz := Lib.hid (below_step (BB.out) bz)
    clear bz
    go_wp2_with fail
    go_ret
    exact ⟨rfl, Bz.out⟩
  · clear hT hl
    go_wp2_with fail
    refine (HW.out _ (Lib.hid (HLd.out.below BB.out))).mono ?_
    rintro e wz ⟨rfl, bz⟩
    have Bz := Lib.hid (below_step (BB.out) bz)
    clear bz
    go_wp2_with fail
    go_ret
    exact ⟨rfl, Bz.out⟩
  · clear hT hl
    go_wp2_with fail
    refine (HW.out _ (Lib.hid (HLd.out.below BB.out))).mono ?_
    rintro e wz ⟨rfl, bz⟩
    have Bz := Lib.hid (below_step (BB.out) bz)
    clear bz
    go_wp2_with fail
    go_ret
    exact ⟨rfl, Bz.out⟩
  have gL : ((L : Int) == 0) = false := by simp; omega
  have HN := Lib.hid hl
  have hL30 : L ≤ 30 := by have := hF.1; omega
  have HC := Lib.hid hC
  have CC := Lib.hid (fun (i : Nat) (hi : i < ss.length) (u : World) (v : Value) (hv : Hid (RdNat u u.heap.size v ss[i].P)) (h : Hid (RdSteps u u.heap.size X ss)) (hL : Hid (LaidT u)) => check11 (d := d) hv.out (.inr ⟨_, take_last11 hi, rfl⟩) (h.out.take11 (i + 1)) (take_len11 hi) (by omega) (hF.take11 _) true ⟨fun _ => hC.part hi, fun _ => rfl⟩ hL.out)
  have CP := Lib.hid (fun (u : World) (v : Value) (j : Nat) (b : Bool) (hb : b = true ↔ CheckW (OneW p) (ss.take j)) (hv : Hid (RdNat u u.heap.size v (OneW p))) (h : Hid (RdSteps u u.heap.size X ss)) (hL : Hid (LaidT u)) (hj : j ≤ ss.length) => check11 (d := d) (n := j) hv.out (.inl (oneW_ok HP64.out).1) (h.out.take11 j) (by rw [List.length_take]; omega) (by omega) (hF.take11 _) b hb hL.out)
  have CA := Lib.hid (fun (u : World) (v : Value) (hv : Hid (RdNat u u.heap.size v (OneW p))) (h : Hid (RdSteps u u.heap.size X ss)) (hL : Hid (LaidT u)) => check11 (d := d) hv.out (.inl (oneW_ok HP64.out).1) h.out hl hd hF true ⟨fun _ => hC, fun _ => rfl⟩ hL.out)
  have CK := Lib.hid (fun (u : World) (v : Value) (h0 : bI = false) (hv : Hid (RdNat u u.heap.size v (OneW k))) (h : Hid (RdSteps u u.heap.size X ss)) (hL : Hid (LaidT u)) => check11 (d := d) hv.out (.inl (oneW_ok (by omega)).1) h.out hl hd hF false ⟨fun h => (by cases h), fun h => by have h2 := HI.out.2 (h.word (by omega)); rw [h0] at h2; cases h2⟩ hL.out)
  have CLI := Lib.hid (fun (m : Nat) (hmL : m < L) (hms : m ≤ ss.length) (hm : CheckW (OneW p) (ss.take m)) (u : World) (h : Hid (RdSteps u u.heap.size X ss)) => listed11 (d := d) (n := m) (h.out.take11 m) (by rw [List.length_take]; omega) p HP64.out (by omega) (Nat.pos_of_ne_zero fun e => by subst e; exact CheckW.notNone HP64.out h16 hm) (fun j hj e => by
    subst e
    rw [List.getElem_take]
    exact CheckW.isLast HP64.out (by omega) hm))
  clear hT hl hF hC h16 v0
  go_wp2_with fail
  go_loopw [9] (fun iv wr => ∃ i : Nat, i ≤ L ∧ iv = .int .i64 i ∧ Hid (Below w.heap.size w wr) ∧ Hid (RdSteps wr wr.heap.size X ss)) (fun iv _ => L - (intOf iv).toNat)
  case atStart => exact ⟨0, Nat.zero_le _, rfl, BB, SB⟩
  case round =>
    obtain ⟨i, hi, rfl, hB, hS⟩ := hrel
    by_cases hlt : i < L
    · have his : i < ss.length := by rw [HN.out]; exact hlt
      have bd0 : Below wr.heap.size wr wr.drew := (Drawn.more 1).below11
      have hB := Lib.hid (below_step hB.out bd0)
      have hS := Lib.hid (hS.out.step11 bd0)
      clear bd0
      obtain ⟨g, o, hA, hg, hall⟩ := hS.out (by omega)
      obtain ⟨vP, vG, vQ, eP, eG, eQ, rP, rG, rQ⟩ := hall i his
      have RP0 := Lib.hid rP
      obtain ⟨XP, dP, rfl, rdP, hdP, wP, lP⟩ := rP
      obtain ⟨t, ht⟩ : ∃ t, ss[i].P.length = t := ⟨_, rfl⟩
      obtain ⟨bT, hbT⟩ := some_flag11 (CheckW (OneW p) (ss.take (i + 1)))
      have C1 := CC.out i his wr.drew _ RP0 hS (Lib.hid (HLd.out.below hB.out))
      rw [ht] at eP C1
      have C1 := Lib.hid C1
      have hci : i + 1 ≤ d := by omega
      have hin : i + 1 ≤ L := by omega
      have HWI := Lib.hid (show IntKind.i64.wrap ((i : Int) + 1) = (i : Int) + 1 from by unfold IntKind.wrap; simp [IntKind.signed, IntKind.bits]; omega)
      have HP := Lib.hid (fun (u : World) (b : Below wr.drew.heap.size wr.drew u) => (b.cell (p := ⟨g, o + i * 3, none⟩) hg).trans eP)
      have hci2 : i + 1 ≤ ss.length := by rw [HN.out]; exact hin
      by_cases hl1 : i + 1 < L
      · have gl : decide ((i : Int) + 1 < (L : Int)) = true := by simp; omega
        cases bT
        · have HT := Lib.hid (show ¬ CheckW (OneW p) (ss.take (i + 1)) from fun h => by have h2 := hbT.2 h; cases h2)
          subst hA
          clear hall rG rQ eG eQ RP0 rdP ht hbT wP lP
          go_wp2_with fail
          refine wp_region_any (by kernel_rfl) ?_
          change wpAny _ _ _ _ _ _ _ wr.drew
          refine tD11 (i := 0) (d := 39) (v := .slice (some ⟨g, o, none⟩) L d) rfl (by kernel_rfl) (by kernel_rfl) (fun _ _ _ h => h) (Or.inl ⟨by kernel_rfl, fun W => by go_simp⟩) ?_
          refine tD11 (i := 1) (d := 40) (v := .int .i64 (i : Int)) rfl (by kernel_rfl) (by kernel_rfl) (fun _ _ _ h => h) (Or.inl ⟨by kernel_rfl, fun W => by go_simp⟩) ?_
          refine tD11 (i := 2) (d := 41) (v := .pointer (some ⟨g, o + i * 3, none⟩)) rfl (by kernel_rfl) (by kernel_rfl) (fun _ _ _ h => h) (Or.inl ⟨by kernel_rfl, fun W => by go_simp⟩) ?_
          refine tD11 (i := 3) (d := 42) (v := .pointer (some ⟨g, o + i * 3, none⟩)) rfl (by kernel_rfl) (by kernel_rfl) (fun _ _ _ h => h) (Or.inl ⟨by kernel_rfl, fun W => by go_simp⟩) ?_
          refine tD11 (i := 5) (d := 44) (v := .slice (some ⟨g, o, none⟩) L d) rfl (by kernel_rfl) (by kernel_rfl) (fun _ _ _ h => h) (Or.inl ⟨by kernel_rfl, fun W => by go_simp⟩) ?_
          refine tD11 (i := 6) (d := 45) (v := .int .i64 (i : Int)) rfl (by kernel_rfl) (by kernel_rfl) (fun _ _ _ h => h) (Or.inl ⟨by kernel_rfl, fun W => by go_simp⟩) ?_
          refine tD11 (i := 7) (d := 46) (v := .int .i64 ((i : Int) + 1)) rfl (by kernel_rfl) (by kernel_rfl) (fun _ _ _ h => h) (Or.inl ⟨by kernel_rfl, fun W => by first | (go_simp; done) | (go_simp; exact HWI.out)⟩) ?_
          refine tD11 (i := 8) (d := 47) (v := .slice (some ⟨g, o, none⟩) (i + 1) d) rfl (by kernel_rfl) (by kernel_rfl) (fun _ _ _ h => h) (Or.inl ⟨by kernel_rfl, fun W => by first | (go_simp; done) | (go_simp; intro h; exact absurd (h (by omega)) (by omega))⟩) ?_
          refine wpAny_ready (rs := [4]) (by kernel_rfl) (by simp) (AllReady.cons rfl (fun K hK => ?_) AllReady.nil)
          go_simp
          refine hK _ _ ?_
          clear hK K
          refine wpAny_ready (rs := [9]) (by kernel_rfl) (by simp) (AllReady.cons rfl (fun K hK => ?_) AllReady.nil)
          go_simp
          refine (C1.out).mono ?_
          rintro e u1 ⟨rfl, b1⟩
          have B1 := Lib.hid (below_step hB.out b1)
          have S1 := Lib.hid (hS.out.step11 b1)
          have W1 := Lib.hid b1
          clear b1
          go_wp2_with fail
          refine tD11 (i := 10) (d := 49) (v := .bool false) rfl (by kernel_rfl) (by kernel_rfl) (fun _ _ _ h => h) (Or.inl ⟨by kernel_rfl, fun W => by go_simp⟩) ?_
          refine tD11 (i := 11) (d := 50) (v := .bool false) rfl (by kernel_rfl) (by kernel_rfl) (fun _ _ _ h => h) (Or.inl ⟨by kernel_rfl, fun W => by go_simp⟩) ?_
          refine tD11 (i := 12) (d := 51) (v := .int .i64 (i : Int)) rfl (by kernel_rfl) (by kernel_rfl) (fun _ _ _ h => h) (Or.inl ⟨by kernel_rfl, fun W => by go_simp⟩) ?_
          refine tD11 (i := 13) (d := 52) (v := .int .i64 ((i : Int) + 1)) rfl (by kernel_rfl) (by kernel_rfl) (fun _ _ _ h => h) (Or.inl ⟨by kernel_rfl, fun W => by first | (go_simp; done) | (go_simp; exact HWI.out)⟩) ?_
          refine tD11 (i := 14) (d := 53) (v := .slice (some ⟨g, o, none⟩) L d) rfl (by kernel_rfl) (by kernel_rfl) (fun _ _ _ h => h) (Or.inl ⟨by kernel_rfl, fun W => by go_simp⟩) ?_
          refine tD11 (i := 15) (d := 54) (v := .int .i64 (L : Int)) rfl (by kernel_rfl) (by kernel_rfl) (fun _ _ _ h => h) (Or.inl ⟨by kernel_rfl, fun W => by go_simp⟩) ?_
          refine tD11 (i := 16) (d := 55) (v := .bool true) rfl (by kernel_rfl) (by kernel_rfl) (fun _ _ _ h => h) (Or.inl ⟨by kernel_rfl, fun W => by go_simp⟩) ?_
          refine tD11 (i := 17) (d := 56) (v := .bool true) rfl (by kernel_rfl) (by kernel_rfl) (fun _ _ _ h => h) (Or.inl ⟨by kernel_rfl, fun W => by go_simp⟩) ?_
          refine tD11 (i := 18) (d := 57) (v := .int .u64 (p : Int)) rfl (by kernel_rfl) (by kernel_rfl) (fun _ _ _ h => h) (Or.inl ⟨by kernel_rfl, fun W => by go_simp⟩) ?_
          refine tD11 (i := 20) (d := 59) (v := .slice (some ⟨g, o, none⟩) L d) rfl (by kernel_rfl) (by kernel_rfl) (fun _ _ _ h => h) (Or.inl ⟨by kernel_rfl, fun W => by go_simp⟩) ?_
          refine tD11 (i := 21) (d := 60) (v := .int .i64 (i : Int)) rfl (by kernel_rfl) (by kernel_rfl) (fun _ _ _ h => h) (Or.inl ⟨by kernel_rfl, fun W => by go_simp⟩) ?_
          refine tD11 (i := 22) (d := 61) (v := .int .i64 ((i : Int) + 1)) rfl (by kernel_rfl) (by kernel_rfl) (fun _ _ _ h => h) (Or.inl ⟨by kernel_rfl, fun W => by first | (go_simp; done) | (go_simp; exact HWI.out)⟩) ?_
          refine tD11 (i := 23) (d := 62) (v := .slice (some ⟨g, o, none⟩) (i + 1) d) rfl (by kernel_rfl) (by kernel_rfl) (fun _ _ _ h => h) (Or.inl ⟨by kernel_rfl, fun W => by first | (go_simp; done) | (go_simp; intro h; exact absurd (h (by omega)) (by omega))⟩) ?_
          refine wpAny_ready (rs := [19]) (by kernel_rfl) (by simp) (AllReady.cons rfl (fun K hK => ?_) AllReady.nil)
          go_simp
          refine (CO.out u1).mono ?_
          rintro e u2 ⟨Y, q, f, rfl, rO, b2⟩
          have B2 := Lib.hid (below_step B1.out b2)
          have S2 := Lib.hid (S1.out.step11 b2)
          have W2 := Lib.hid (below_step W1.out b2)
          have C2 := CP.out u2 _ (i + 1) false ⟨fun h => (by cases h), fun h => absurd h HT.out⟩ (Lib.hid rO) S2 (Lib.hid (HLd.out.below B2.out)) hci2
          have C2 := Lib.hid C2
          clear b2 rO
          go_wp2_with fail
          refine wpAny_ready (rs := [24]) (by kernel_rfl) (by simp) (AllReady.cons rfl (fun K hK => ?_) AllReady.nil)
          go_simp
          refine (C2.out).mono ?_
          rintro e u3 ⟨rfl, b3⟩
          have B3 := Lib.hid (below_step B2.out b3)
          have S3 := Lib.hid (S2.out.step11 b3)
          have W3 := Lib.hid (below_step W2.out b3)
          have k3 := HP.out u3 W3.out
          clear b3 C2
          go_wp2_with fail
          refine tD11 (i := 25) (d := 64) (v := .bool false) rfl (by kernel_rfl) (by kernel_rfl) (fun _ _ _ h => h) (Or.inl ⟨by kernel_rfl, fun W => by go_simp⟩) ?_
          refine tD11 (i := 26) (d := 65) (v := .bool false) rfl (by kernel_rfl) (by kernel_rfl) (fun _ _ _ h => h) (Or.inl ⟨by kernel_rfl, fun W => by go_simp⟩) ?_
          refine tD11 (i := 27) (d := 66) (v := undef) rfl (by kernel_rfl) (by kernel_rfl) (fun _ _ _ h => h) (Or.inr ⟨by kernel_rfl, rfl⟩) ?_
          refine tD11 (i := 28) (d := 67) (v := undef) rfl (by kernel_rfl) (by kernel_rfl) (fun _ _ _ h => h) (Or.inr ⟨by kernel_rfl, rfl⟩) ?_
          refine tD11 (i := 29) (d := 68) (v := undef) rfl (by kernel_rfl) (by kernel_rfl) (fun _ _ _ h => h) (Or.inr ⟨by kernel_rfl, rfl⟩) ?_
          refine tD11 (i := 30) (d := 69) (v := undef) rfl (by kernel_rfl) (by kernel_rfl) (fun _ _ _ h => h) (Or.inr ⟨by kernel_rfl, rfl⟩) ?_
          refine tD11 (i := 31) (d := 70) (v := undef) rfl (by kernel_rfl) (by kernel_rfl) (fun _ _ _ h => h) (Or.inr ⟨by kernel_rfl, rfl⟩) ?_
          refine tD11 (i := 32) (d := 71) (v := undef) rfl (by kernel_rfl) (by kernel_rfl) (fun _ _ _ h => h) (Or.inr ⟨by kernel_rfl, rfl⟩) ?_
          refine tD11 (i := 33) (d := 72) (v := undef) rfl (by kernel_rfl) (by kernel_rfl) (fun _ _ _ h => h) (Or.inr ⟨by kernel_rfl, rfl⟩) ?_
          refine tD11 (i := 34) (d := 73) (v := undef) rfl (by kernel_rfl) (by kernel_rfl) (fun _ _ _ h => h) (Or.inr ⟨by kernel_rfl, rfl⟩) ?_
          refine tD11 (i := 35) (d := 74) (v := undef) rfl (by kernel_rfl) (by kernel_rfl) (fun _ _ _ h => h) (Or.inr ⟨by kernel_rfl, rfl⟩) ?_
          refine tD11 (i := 36) (d := 75) (v := .bool false) rfl (by kernel_rfl) (by kernel_rfl) (fun _ _ _ h => h) (Or.inl ⟨by kernel_rfl, fun W => by go_simp⟩) ?_
          refine tD11 (i := 37) (d := 76) (v := .bool false) rfl (by kernel_rfl) (by kernel_rfl) (fun _ _ _ h => h) (Or.inl ⟨by kernel_rfl, fun W => by go_simp⟩) ?_
          refine wpAny_done (by kernel_rfl) ?_ _
          go_step
          go_simp
          go_wp2_with fail
          go_roundw
          case rel => exact ⟨i + 1, by omega, by go_num, B3, S3⟩
          case measure => simp [intOf]; omega
        · have HT := Lib.hid (hbT.1 rfl)
          have hsame : ss[i].P = OneW p := CheckW.isLast HP64.out his (hbT.1 rfl)
          have RP := RP0
          rw [hsame] at RP
          have hlen : (OneW p).length = t := by rw [← hsame]; exact ht
          have CS := Lib.hid (fun (u : World) (Y : Option Addr) (q f : Nat) (a : Hid (RdNat u u.heap.size (.slice XP (OneW p).length dP) (OneW p))) (b : Hid (RdNat u u.heap.size (.slice Y q f) (OneW p))) => same11 a.out b.out (by have := @oneW_len p; omega))
          rw [hlen] at RP
          rw [hlen] at CS
          subst hA
          clear hall rG rQ eG eQ RP0 rdP ht hbT wP lP hlen hsame
          go_wp2_with fail
          refine wp_region_any (by kernel_rfl) ?_
          change wpAny _ _ _ _ _ _ _ wr.drew
          refine tD11 (i := 0) (d := 39) (v := .slice (some ⟨g, o, none⟩) L d) rfl (by kernel_rfl) (by kernel_rfl) (fun _ _ _ h => h) (Or.inl ⟨by kernel_rfl, fun W => by go_simp⟩) ?_
          refine tD11 (i := 1) (d := 40) (v := .int .i64 (i : Int)) rfl (by kernel_rfl) (by kernel_rfl) (fun _ _ _ h => h) (Or.inl ⟨by kernel_rfl, fun W => by go_simp⟩) ?_
          refine tD11 (i := 2) (d := 41) (v := .pointer (some ⟨g, o + i * 3, none⟩)) rfl (by kernel_rfl) (by kernel_rfl) (fun _ _ _ h => h) (Or.inl ⟨by kernel_rfl, fun W => by go_simp⟩) ?_
          refine tD11 (i := 3) (d := 42) (v := .pointer (some ⟨g, o + i * 3, none⟩)) rfl (by kernel_rfl) (by kernel_rfl) (fun _ _ _ h => h) (Or.inl ⟨by kernel_rfl, fun W => by go_simp⟩) ?_
          refine tD11 (i := 5) (d := 44) (v := .slice (some ⟨g, o, none⟩) L d) rfl (by kernel_rfl) (by kernel_rfl) (fun _ _ _ h => h) (Or.inl ⟨by kernel_rfl, fun W => by go_simp⟩) ?_
          refine tD11 (i := 6) (d := 45) (v := .int .i64 (i : Int)) rfl (by kernel_rfl) (by kernel_rfl) (fun _ _ _ h => h) (Or.inl ⟨by kernel_rfl, fun W => by go_simp⟩) ?_
          refine tD11 (i := 7) (d := 46) (v := .int .i64 ((i : Int) + 1)) rfl (by kernel_rfl) (by kernel_rfl) (fun _ _ _ h => h) (Or.inl ⟨by kernel_rfl, fun W => by first | (go_simp; done) | (go_simp; exact HWI.out)⟩) ?_
          refine tD11 (i := 8) (d := 47) (v := .slice (some ⟨g, o, none⟩) (i + 1) d) rfl (by kernel_rfl) (by kernel_rfl) (fun _ _ _ h => h) (Or.inl ⟨by kernel_rfl, fun W => by first | (go_simp; done) | (go_simp; intro h; exact absurd (h (by omega)) (by omega))⟩) ?_
          refine wpAny_ready (rs := [4]) (by kernel_rfl) (by simp) (AllReady.cons rfl (fun K hK => ?_) AllReady.nil)
          go_simp
          refine hK _ _ ?_
          clear hK K
          refine wpAny_ready (rs := [9]) (by kernel_rfl) (by simp) (AllReady.cons rfl (fun K hK => ?_) AllReady.nil)
          go_simp
          refine (C1.out).mono ?_
          rintro e u1 ⟨rfl, b1⟩
          have B1 := Lib.hid (below_step hB.out b1)
          have S1 := Lib.hid (hS.out.step11 b1)
          have W1 := Lib.hid b1
          clear b1
          go_wp2_with fail
          refine tD11 (i := 10) (d := 49) (v := .bool false) rfl (by kernel_rfl) (by kernel_rfl) (fun _ _ _ h => h) (Or.inl ⟨by kernel_rfl, fun W => by go_simp⟩) ?_
          refine tD11 (i := 11) (d := 50) (v := .bool false) rfl (by kernel_rfl) (by kernel_rfl) (fun _ _ _ h => h) (Or.inl ⟨by kernel_rfl, fun W => by go_simp⟩) ?_
          refine tD11 (i := 12) (d := 51) (v := .int .i64 (i : Int)) rfl (by kernel_rfl) (by kernel_rfl) (fun _ _ _ h => h) (Or.inl ⟨by kernel_rfl, fun W => by go_simp⟩) ?_
          refine tD11 (i := 13) (d := 52) (v := .int .i64 ((i : Int) + 1)) rfl (by kernel_rfl) (by kernel_rfl) (fun _ _ _ h => h) (Or.inl ⟨by kernel_rfl, fun W => by first | (go_simp; done) | (go_simp; exact HWI.out)⟩) ?_
          refine tD11 (i := 14) (d := 53) (v := .slice (some ⟨g, o, none⟩) L d) rfl (by kernel_rfl) (by kernel_rfl) (fun _ _ _ h => h) (Or.inl ⟨by kernel_rfl, fun W => by go_simp⟩) ?_
          refine tD11 (i := 15) (d := 54) (v := .int .i64 (L : Int)) rfl (by kernel_rfl) (by kernel_rfl) (fun _ _ _ h => h) (Or.inl ⟨by kernel_rfl, fun W => by go_simp⟩) ?_
          refine tD11 (i := 16) (d := 55) (v := .bool true) rfl (by kernel_rfl) (by kernel_rfl) (fun _ _ _ h => h) (Or.inl ⟨by kernel_rfl, fun W => by go_simp⟩) ?_
          refine tD11 (i := 17) (d := 56) (v := .bool true) rfl (by kernel_rfl) (by kernel_rfl) (fun _ _ _ h => h) (Or.inl ⟨by kernel_rfl, fun W => by go_simp⟩) ?_
          refine tD11 (i := 18) (d := 57) (v := .int .u64 (p : Int)) rfl (by kernel_rfl) (by kernel_rfl) (fun _ _ _ h => h) (Or.inl ⟨by kernel_rfl, fun W => by go_simp⟩) ?_
          refine tD11 (i := 20) (d := 59) (v := .slice (some ⟨g, o, none⟩) L d) rfl (by kernel_rfl) (by kernel_rfl) (fun _ _ _ h => h) (Or.inl ⟨by kernel_rfl, fun W => by go_simp⟩) ?_
          refine tD11 (i := 21) (d := 60) (v := .int .i64 (i : Int)) rfl (by kernel_rfl) (by kernel_rfl) (fun _ _ _ h => h) (Or.inl ⟨by kernel_rfl, fun W => by go_simp⟩) ?_
          refine tD11 (i := 22) (d := 61) (v := .int .i64 ((i : Int) + 1)) rfl (by kernel_rfl) (by kernel_rfl) (fun _ _ _ h => h) (Or.inl ⟨by kernel_rfl, fun W => by first | (go_simp; done) | (go_simp; exact HWI.out)⟩) ?_
          refine tD11 (i := 23) (d := 62) (v := .slice (some ⟨g, o, none⟩) (i + 1) d) rfl (by kernel_rfl) (by kernel_rfl) (fun _ _ _ h => h) (Or.inl ⟨by kernel_rfl, fun W => by first | (go_simp; done) | (go_simp; intro h; exact absurd (h (by omega)) (by omega))⟩) ?_
          refine wpAny_ready (rs := [19]) (by kernel_rfl) (by simp) (AllReady.cons rfl (fun K hK => ?_) AllReady.nil)
          go_simp
          refine (CO.out u1).mono ?_
          rintro e u2 ⟨Y, q, f, rfl, rO, b2⟩
          have B2 := Lib.hid (below_step B1.out b2)
          have S2 := Lib.hid (S1.out.step11 b2)
          have W2 := Lib.hid (below_step W1.out b2)
          have C2 := CP.out u2 _ (i + 1) true ⟨fun _ => HT.out, fun _ => rfl⟩ (Lib.hid rO) S2 (Lib.hid (HLd.out.below B2.out)) hci2
          have C2 := Lib.hid C2
          clear b2 rO
          go_wp2_with fail
          refine wpAny_ready (rs := [24]) (by kernel_rfl) (by simp) (AllReady.cons rfl (fun K hK => ?_) AllReady.nil)
          go_simp
          refine (C2.out).mono ?_
          rintro e u3 ⟨rfl, b3⟩
          have B3 := Lib.hid (below_step B2.out b3)
          have S3 := Lib.hid (S2.out.step11 b3)
          have W3 := Lib.hid (below_step W2.out b3)
          have k3 := HP.out u3 W3.out
          clear b3 C2
          go_wp2_with fail
          refine tD11 (i := 25) (d := 64) (v := .bool true) rfl (by kernel_rfl) (by kernel_rfl) (fun _ _ _ h => h) (Or.inl ⟨by kernel_rfl, fun W => by go_simp⟩) ?_
          refine tD11 (i := 26) (d := 65) (v := .bool true) rfl (by kernel_rfl) (by kernel_rfl) (fun _ _ _ h => h) (Or.inl ⟨by kernel_rfl, fun W => by go_simp⟩) ?_
          refine tD11 (i := 27) (d := 66) (v := .slice (some ⟨g, o, none⟩) L d) rfl (by kernel_rfl) (by kernel_rfl) (fun _ _ _ h => h) (Or.inl ⟨by kernel_rfl, fun W => by go_simp⟩) ?_
          refine tD11 (i := 28) (d := 67) (v := .int .i64 (i : Int)) rfl (by kernel_rfl) (by kernel_rfl) (fun _ _ _ h => h) (Or.inl ⟨by kernel_rfl, fun W => by go_simp⟩) ?_
          refine tD11 (i := 29) (d := 68) (v := .pointer (some ⟨g, o + i * 3, none⟩)) rfl (by kernel_rfl) (by kernel_rfl) (fun _ _ _ h => h) (Or.inl ⟨by kernel_rfl, fun W => by go_simp⟩) ?_
          refine tD11 (i := 30) (d := 69) (v := .pointer (some ⟨g, o + i * 3, none⟩)) rfl (by kernel_rfl) (by kernel_rfl) (fun _ _ _ h => h) (Or.inl ⟨by kernel_rfl, fun W => by go_simp⟩) ?_
          refine tD11 (i := 32) (d := 71) (v := .int .u64 (p : Int)) rfl (by kernel_rfl) (by kernel_rfl) (fun _ _ _ h => h) (Or.inl ⟨by kernel_rfl, fun W => by go_simp⟩) ?_
          refine wpAny_ready (rs := [31, 33]) (by kernel_rfl) (by simp) (AllReady.cons rfl (fun K hK => ?_) (AllReady.cons rfl (fun K hK => ?_) AllReady.nil))
          · go_simp
            refine hK _ _ ?_
            clear hK K
            refine wpAny_ready (rs := [33]) (by kernel_rfl) (by simp) (AllReady.cons rfl (fun K hK => ?_) AllReady.nil)
            go_simp
            refine (CO.out u3).mono ?_
            rintro e u4 ⟨Y4, q4, f4, rfl, rO, b4⟩
            have B4 := Lib.hid (below_step B3.out b4)
            have S4 := Lib.hid (S3.out.step11 b4)
            have W4 := below_step W3.out b4
            have k4 := HP.out u4 W4
            have C3 := CS.out u4 Y4 q4 f4 (Lib.hid (RP.out.step11 W4)) (Lib.hid rO)
            have C3 := Lib.hid C3
            clear b4 rO W4 k3
            go_wp2_with fail
            refine wpAny_ready (rs := [34]) (by kernel_rfl) (by simp) (AllReady.cons rfl (fun K hK => ?_) AllReady.nil)
            go_simp
            refine (C3.out).mono ?_
            rintro e u5 ⟨rfl, b5⟩
            have B5 := Lib.hid (below_step B4.out b5)
            have S5 := Lib.hid (S4.out.step11 b5)
            clear b5 C3
            go_wp2_with fail
            refine tD11 (i := 35) (d := 74) (v := .bool false) rfl (by kernel_rfl) (by kernel_rfl) (fun _ _ _ h => h) (Or.inl ⟨by kernel_rfl, fun W => by go_simp⟩) ?_
            refine tD11 (i := 36) (d := 75) (v := .bool false) rfl (by kernel_rfl) (by kernel_rfl) (fun _ _ _ h => h) (Or.inl ⟨by kernel_rfl, fun W => by go_simp⟩) ?_
            refine tD11 (i := 37) (d := 76) (v := .bool false) rfl (by kernel_rfl) (by kernel_rfl) (fun _ _ _ h => h) (Or.inl ⟨by kernel_rfl, fun W => by go_simp⟩) ?_
            refine wpAny_done (by kernel_rfl) ?_ _
            go_step
            go_simp
            go_wp2_with fail
            go_roundw
            case rel => exact ⟨i + 1, by omega, by go_num, B5, S5⟩
            case measure => simp [intOf]; omega
          · go_simp
            refine (CO.out u3).mono ?_
            rintro e u4 ⟨Y4, q4, f4, rfl, rO, b4⟩
            have B4 := Lib.hid (below_step B3.out b4)
            have S4 := Lib.hid (S3.out.step11 b4)
            have W4 := below_step W3.out b4
            have k4 := HP.out u4 W4
            have C3 := CS.out u4 Y4 q4 f4 (Lib.hid (RP.out.step11 W4)) (Lib.hid rO)
            have C3 := Lib.hid C3
            clear b4 rO W4 k3
            refine hK _ _ ?_
            clear hK K
            refine wpAny_ready (rs := [31]) (by kernel_rfl) (by simp) (AllReady.cons rfl (fun K hK => ?_) AllReady.nil)
            go_simp
            refine hK _ _ ?_
            clear hK K
            refine wpAny_ready (rs := [34]) (by kernel_rfl) (by simp) (AllReady.cons rfl (fun K hK => ?_) AllReady.nil)
            go_simp
            refine (C3.out).mono ?_
            rintro e u5 ⟨rfl, b5⟩
            have B5 := Lib.hid (below_step B4.out b5)
            have S5 := Lib.hid (S4.out.step11 b5)
            clear b5 C3
            go_wp2_with fail
            refine tD11 (i := 35) (d := 74) (v := .bool false) rfl (by kernel_rfl) (by kernel_rfl) (fun _ _ _ h => h) (Or.inl ⟨by kernel_rfl, fun W => by go_simp⟩) ?_
            refine tD11 (i := 36) (d := 75) (v := .bool false) rfl (by kernel_rfl) (by kernel_rfl) (fun _ _ _ h => h) (Or.inl ⟨by kernel_rfl, fun W => by go_simp⟩) ?_
            refine tD11 (i := 37) (d := 76) (v := .bool false) rfl (by kernel_rfl) (by kernel_rfl) (fun _ _ _ h => h) (Or.inl ⟨by kernel_rfl, fun W => by go_simp⟩) ?_
            refine wpAny_done (by kernel_rfl) ?_ _
            go_step
            go_simp
            go_wp2_with fail
            go_roundw
            case rel => exact ⟨i + 1, by omega, by go_num, B5, S5⟩
            case measure => simp [intOf]; omega
      · have gl : decide ((i : Int) + 1 < (L : Int)) = false := by simp; omega
        subst hA
        clear hall rG rQ eG eQ RP0 rdP ht hbT wP lP
        go_wp2_with fail
        refine wp_region_any (by kernel_rfl) ?_
        change wpAny _ _ _ _ _ _ _ wr.drew
        refine tD11 (i := 0) (d := 39) (v := .slice (some ⟨g, o, none⟩) L d) rfl (by kernel_rfl) (by kernel_rfl) (fun _ _ _ h => h) (Or.inl ⟨by kernel_rfl, fun W => by go_simp⟩) ?_
        refine tD11 (i := 1) (d := 40) (v := .int .i64 (i : Int)) rfl (by kernel_rfl) (by kernel_rfl) (fun _ _ _ h => h) (Or.inl ⟨by kernel_rfl, fun W => by go_simp⟩) ?_
        refine tD11 (i := 2) (d := 41) (v := .pointer (some ⟨g, o + i * 3, none⟩)) rfl (by kernel_rfl) (by kernel_rfl) (fun _ _ _ h => h) (Or.inl ⟨by kernel_rfl, fun W => by go_simp⟩) ?_
        refine tD11 (i := 3) (d := 42) (v := .pointer (some ⟨g, o + i * 3, none⟩)) rfl (by kernel_rfl) (by kernel_rfl) (fun _ _ _ h => h) (Or.inl ⟨by kernel_rfl, fun W => by go_simp⟩) ?_
        refine tD11 (i := 5) (d := 44) (v := .slice (some ⟨g, o, none⟩) L d) rfl (by kernel_rfl) (by kernel_rfl) (fun _ _ _ h => h) (Or.inl ⟨by kernel_rfl, fun W => by go_simp⟩) ?_
        refine tD11 (i := 6) (d := 45) (v := .int .i64 (i : Int)) rfl (by kernel_rfl) (by kernel_rfl) (fun _ _ _ h => h) (Or.inl ⟨by kernel_rfl, fun W => by go_simp⟩) ?_
        refine tD11 (i := 7) (d := 46) (v := .int .i64 ((i : Int) + 1)) rfl (by kernel_rfl) (by kernel_rfl) (fun _ _ _ h => h) (Or.inl ⟨by kernel_rfl, fun W => by first | (go_simp; done) | (go_simp; exact HWI.out)⟩) ?_
        refine tD11 (i := 8) (d := 47) (v := .slice (some ⟨g, o, none⟩) (i + 1) d) rfl (by kernel_rfl) (by kernel_rfl) (fun _ _ _ h => h) (Or.inl ⟨by kernel_rfl, fun W => by first | (go_simp; done) | (go_simp; intro h; exact absurd (h (by omega)) (by omega))⟩) ?_
        refine wpAny_ready (rs := [4]) (by kernel_rfl) (by simp) (AllReady.cons rfl (fun K hK => ?_) AllReady.nil)
        go_simp
        refine hK _ _ ?_
        clear hK K
        refine wpAny_ready (rs := [9]) (by kernel_rfl) (by simp) (AllReady.cons rfl (fun K hK => ?_) AllReady.nil)
        go_simp
        refine (C1.out).mono ?_
        rintro e u1 ⟨rfl, b1⟩
        have B1 := Lib.hid (below_step hB.out b1)
        have S1 := Lib.hid (hS.out.step11 b1)
        have W1 := Lib.hid b1
        clear b1
        go_wp2_with fail
        refine tD11 (i := 10) (d := 49) (v := .bool false) rfl (by kernel_rfl) (by kernel_rfl) (fun _ _ _ h => h) (Or.inl ⟨by kernel_rfl, fun W => by go_simp⟩) ?_
        refine tD11 (i := 11) (d := 50) (v := .bool false) rfl (by kernel_rfl) (by kernel_rfl) (fun _ _ _ h => h) (Or.inl ⟨by kernel_rfl, fun W => by go_simp⟩) ?_
        refine tD11 (i := 12) (d := 51) (v := .int .i64 (i : Int)) rfl (by kernel_rfl) (by kernel_rfl) (fun _ _ _ h => h) (Or.inl ⟨by kernel_rfl, fun W => by go_simp⟩) ?_
        refine tD11 (i := 13) (d := 52) (v := .int .i64 ((i : Int) + 1)) rfl (by kernel_rfl) (by kernel_rfl) (fun _ _ _ h => h) (Or.inl ⟨by kernel_rfl, fun W => by first | (go_simp; done) | (go_simp; exact HWI.out)⟩) ?_
        refine tD11 (i := 14) (d := 53) (v := .slice (some ⟨g, o, none⟩) L d) rfl (by kernel_rfl) (by kernel_rfl) (fun _ _ _ h => h) (Or.inl ⟨by kernel_rfl, fun W => by go_simp⟩) ?_
        refine tD11 (i := 15) (d := 54) (v := .int .i64 (L : Int)) rfl (by kernel_rfl) (by kernel_rfl) (fun _ _ _ h => h) (Or.inl ⟨by kernel_rfl, fun W => by go_simp⟩) ?_
        refine tD11 (i := 16) (d := 55) (v := .bool false) rfl (by kernel_rfl) (by kernel_rfl) (fun _ _ _ h => h) (Or.inl ⟨by kernel_rfl, fun W => by go_simp⟩) ?_
        refine tD11 (i := 17) (d := 56) (v := .bool false) rfl (by kernel_rfl) (by kernel_rfl) (fun _ _ _ h => h) (Or.inl ⟨by kernel_rfl, fun W => by go_simp⟩) ?_
        refine tD11 (i := 18) (d := 57) (v := undef) rfl (by kernel_rfl) (by kernel_rfl) (fun _ _ _ h => h) (Or.inr ⟨by kernel_rfl, rfl⟩) ?_
        refine tD11 (i := 19) (d := 58) (v := undef) rfl (by kernel_rfl) (by kernel_rfl) (fun _ _ _ h => h) (Or.inr ⟨by kernel_rfl, rfl⟩) ?_
        refine tD11 (i := 20) (d := 59) (v := undef) rfl (by kernel_rfl) (by kernel_rfl) (fun _ _ _ h => h) (Or.inr ⟨by kernel_rfl, rfl⟩) ?_
        refine tD11 (i := 21) (d := 60) (v := undef) rfl (by kernel_rfl) (by kernel_rfl) (fun _ _ _ h => h) (Or.inr ⟨by kernel_rfl, rfl⟩) ?_
        refine tD11 (i := 22) (d := 61) (v := undef) rfl (by kernel_rfl) (by kernel_rfl) (fun _ _ _ h => h) (Or.inr ⟨by kernel_rfl, rfl⟩) ?_
        refine tD11 (i := 23) (d := 62) (v := undef) rfl (by kernel_rfl) (by kernel_rfl) (fun _ _ _ h => h) (Or.inr ⟨by kernel_rfl, rfl⟩) ?_
        refine tD11 (i := 24) (d := 63) (v := undef) rfl (by kernel_rfl) (by kernel_rfl) (fun _ _ _ h => h) (Or.inr ⟨by kernel_rfl, rfl⟩) ?_
        refine tD11 (i := 25) (d := 64) (v := .bool false) rfl (by kernel_rfl) (by kernel_rfl) (fun _ _ _ h => h) (Or.inl ⟨by kernel_rfl, fun W => by go_simp⟩) ?_
        refine tD11 (i := 26) (d := 65) (v := .bool false) rfl (by kernel_rfl) (by kernel_rfl) (fun _ _ _ h => h) (Or.inl ⟨by kernel_rfl, fun W => by go_simp⟩) ?_
        refine tD11 (i := 27) (d := 66) (v := undef) rfl (by kernel_rfl) (by kernel_rfl) (fun _ _ _ h => h) (Or.inr ⟨by kernel_rfl, rfl⟩) ?_
        refine tD11 (i := 28) (d := 67) (v := undef) rfl (by kernel_rfl) (by kernel_rfl) (fun _ _ _ h => h) (Or.inr ⟨by kernel_rfl, rfl⟩) ?_
        refine tD11 (i := 29) (d := 68) (v := undef) rfl (by kernel_rfl) (by kernel_rfl) (fun _ _ _ h => h) (Or.inr ⟨by kernel_rfl, rfl⟩) ?_
        refine tD11 (i := 30) (d := 69) (v := undef) rfl (by kernel_rfl) (by kernel_rfl) (fun _ _ _ h => h) (Or.inr ⟨by kernel_rfl, rfl⟩) ?_
        refine tD11 (i := 31) (d := 70) (v := undef) rfl (by kernel_rfl) (by kernel_rfl) (fun _ _ _ h => h) (Or.inr ⟨by kernel_rfl, rfl⟩) ?_
        refine tD11 (i := 32) (d := 71) (v := undef) rfl (by kernel_rfl) (by kernel_rfl) (fun _ _ _ h => h) (Or.inr ⟨by kernel_rfl, rfl⟩) ?_
        refine tD11 (i := 33) (d := 72) (v := undef) rfl (by kernel_rfl) (by kernel_rfl) (fun _ _ _ h => h) (Or.inr ⟨by kernel_rfl, rfl⟩) ?_
        refine tD11 (i := 34) (d := 73) (v := undef) rfl (by kernel_rfl) (by kernel_rfl) (fun _ _ _ h => h) (Or.inr ⟨by kernel_rfl, rfl⟩) ?_
        refine tD11 (i := 35) (d := 74) (v := undef) rfl (by kernel_rfl) (by kernel_rfl) (fun _ _ _ h => h) (Or.inr ⟨by kernel_rfl, rfl⟩) ?_
        refine tD11 (i := 36) (d := 75) (v := .bool false) rfl (by kernel_rfl) (by kernel_rfl) (fun _ _ _ h => h) (Or.inl ⟨by kernel_rfl, fun W => by go_simp⟩) ?_
        refine tD11 (i := 37) (d := 76) (v := .bool false) rfl (by kernel_rfl) (by kernel_rfl) (fun _ _ _ h => h) (Or.inl ⟨by kernel_rfl, fun W => by go_simp⟩) ?_
        refine wpAny_done (by kernel_rfl) ?_ _
        go_step
        go_simp
        go_wp2_with fail
        go_roundw
        case rel => exact ⟨i + 1, by omega, by go_num, B1, S1⟩
        case measure => simp [intOf]; omega
    · obtain rfl : i = L := by omega
      go_wp2_with fail
      have bd0 : Below wr.heap.size wr wr.drew := (Drawn.more 1).below11
      have hB := Lib.hid (below_step hB.out bd0)
      have hS := Lib.hid (hS.out.step11 bd0)
      clear bd0
      obtain ⟨g, o, hA, hg, hall⟩ := hS.out (by rw [HN.out]; omega)
      subst hA
      clear hall hg
      obtain ⟨m, hm⟩ : ∃ m, i - 1 = m := ⟨_, rfl⟩
      have hmi : m < i := by omega
      have hmd : m ≤ d := by omega
      have hms : m ≤ ss.length := by rw [HN.out]; omega
      have hmi2 : m ≤ i := by omega
      have hmI : (i : Int) - 1 = (m : Int) := by omega
      have HWI := Lib.hid (show IntKind.i64.wrap ((i : Int) - 1) = (m : Int) from by unfold IntKind.wrap; simp [IntKind.signed, IntKind.bits]; omega)
      have HWM := Lib.hid (show IntKind.i64.wrap (m : Int) = (m : Int) from by unfold IntKind.wrap; simp [IntKind.signed, IntKind.bits]; omega)
      obtain ⟨bE, hbE⟩ := some_flag11 (CheckW (OneW p) (ss.take m))
      cases bE
      · have HE := Lib.hid (show ¬ CheckW (OneW p) (ss.take m) from fun h => by have h2 := hbE.2 h; cases h2)
        clear hbE hm
        go_wp2_with fail
        refine wp_region_any (by kernel_rfl) ?_
        change wpAny _ _ _ _ _ _ _ wr.drew
        refine tD11 (i := 0) (d := 77) (v := .int .u64 (p : Int)) rfl (by kernel_rfl) (by kernel_rfl) (fun _ _ _ h => h) (Or.inl ⟨by kernel_rfl, fun W => by go_simp⟩) ?_
        refine tD11 (i := 2) (d := 79) (v := .slice (some ⟨g, o, none⟩) i d) rfl (by kernel_rfl) (by kernel_rfl) (fun _ _ _ h => h) (Or.inl ⟨by kernel_rfl, fun W => by go_simp⟩) ?_
        refine wpAny_ready (rs := [1]) (by kernel_rfl) (by simp) (AllReady.cons rfl (fun K hK => ?_) AllReady.nil)
        go_simp
        refine (CO.out _).mono ?_
        rintro e u1 ⟨Y, q, f, rfl, rO, b1⟩
        have B1 := Lib.hid (below_step hB.out b1)
        have S1 := Lib.hid (hS.out.step11 b1)
        have C1 := CA.out u1 _ (Lib.hid rO) S1 (Lib.hid (HLd.out.below B1.out))
        have C1 := Lib.hid C1
        clear b1 rO
        go_wp2_with fail
        refine wpAny_ready (rs := [3]) (by kernel_rfl) (by simp) (AllReady.cons rfl (fun K hK => ?_) AllReady.nil)
        go_simp
        refine (C1.out).mono ?_
        rintro e u2 ⟨rfl, b2⟩
        have B2 := Lib.hid (below_step B1.out b2)
        have S2 := Lib.hid (S1.out.step11 b2)
        clear b2 C1
        go_wp2_with fail
        refine tD11 (i := 4) (d := 81) (v := .bool false) rfl (by kernel_rfl) (by kernel_rfl) (fun _ _ _ h => h) (Or.inl ⟨by kernel_rfl, fun W => by go_simp⟩) ?_
        refine tD11 (i := 5) (d := 82) (v := .bool false) rfl (by kernel_rfl) (by kernel_rfl) (fun _ _ _ h => h) (Or.inl ⟨by kernel_rfl, fun W => by go_simp⟩) ?_
        refine tD11 (i := 6) (d := 83) (v := .int .u64 (p : Int)) rfl (by kernel_rfl) (by kernel_rfl) (fun _ _ _ h => h) (Or.inl ⟨by kernel_rfl, fun W => by go_simp⟩) ?_
        refine tD11 (i := 8) (d := 85) (v := .slice (some ⟨g, o, none⟩) i d) rfl (by kernel_rfl) (by kernel_rfl) (fun _ _ _ h => h) (Or.inl ⟨by kernel_rfl, fun W => by go_simp⟩) ?_
        refine tD11 (i := 9) (d := 86) (v := .slice (some ⟨g, o, none⟩) i d) rfl (by kernel_rfl) (by kernel_rfl) (fun _ _ _ h => h) (Or.inl ⟨by kernel_rfl, fun W => by go_simp⟩) ?_
        refine tD11 (i := 10) (d := 87) (v := .int .i64 (i : Int)) rfl (by kernel_rfl) (by kernel_rfl) (fun _ _ _ h => h) (Or.inl ⟨by kernel_rfl, fun W => by go_simp⟩) ?_
        refine tD11 (i := 11) (d := 88) (v := .int .i64 (m : Int)) rfl (by kernel_rfl) (by kernel_rfl) (fun _ _ _ h => h) (Or.inl ⟨by kernel_rfl, fun W => by first | (go_simp; done) | (go_simp; exact HWI.out) | (go_simp; exact HWM.out)⟩) ?_
        refine tD11 (i := 12) (d := 89) (v := .slice (some ⟨g, o, none⟩) m d) rfl (by kernel_rfl) (by kernel_rfl) (fun _ _ _ h => h) (Or.inl ⟨by kernel_rfl, fun W => by first | (go_simp; done) | (go_simp; intro h; exact absurd (h (by omega)) (by omega))⟩) ?_
        refine wpAny_ready (rs := [7]) (by kernel_rfl) (by simp) (AllReady.cons rfl (fun K hK => ?_) AllReady.nil)
        go_simp
        refine (CO.out u2).mono ?_
        rintro e u3 ⟨Y3, q3, f3, rfl, rO, b3⟩
        have B3 := Lib.hid (below_step B2.out b3)
        have S3 := Lib.hid (S2.out.step11 b3)
        have C3 := CP.out u3 _ m false ⟨fun h => (by cases h), fun h => absurd h HE.out⟩ (Lib.hid rO) S3 (Lib.hid (HLd.out.below B3.out)) hms
        have C3 := Lib.hid C3
        clear b3 rO
        go_wp2_with fail
        refine wpAny_ready (rs := [13]) (by kernel_rfl) (by simp) (AllReady.cons rfl (fun K hK => ?_) AllReady.nil)
        go_simp
        refine (C3.out).mono ?_
        rintro e u4 ⟨rfl, b4⟩
        have B4 := Lib.hid (below_step B3.out b4)
        have S4 := Lib.hid (S3.out.step11 b4)
        clear b4 C3
        go_wp2_with fail
        refine tD11 (i := 14) (d := 91) (v := .bool false) rfl (by kernel_rfl) (by kernel_rfl) (fun _ _ _ h => h) (Or.inl ⟨by kernel_rfl, fun W => by go_simp⟩) ?_
        refine tD11 (i := 15) (d := 92) (v := undef) rfl (by kernel_rfl) (by kernel_rfl) (fun _ _ _ h => h) (Or.inr ⟨by kernel_rfl, rfl⟩) ?_
        refine tD11 (i := 16) (d := 93) (v := undef) rfl (by kernel_rfl) (by kernel_rfl) (fun _ _ _ h => h) (Or.inr ⟨by kernel_rfl, rfl⟩) ?_
        refine tD11 (i := 17) (d := 94) (v := undef) rfl (by kernel_rfl) (by kernel_rfl) (fun _ _ _ h => h) (Or.inr ⟨by kernel_rfl, rfl⟩) ?_
        refine tD11 (i := 18) (d := 95) (v := undef) rfl (by kernel_rfl) (by kernel_rfl) (fun _ _ _ h => h) (Or.inr ⟨by kernel_rfl, rfl⟩) ?_
        refine tD11 (i := 19) (d := 96) (v := undef) rfl (by kernel_rfl) (by kernel_rfl) (fun _ _ _ h => h) (Or.inr ⟨by kernel_rfl, rfl⟩) ?_
        refine tD11 (i := 20) (d := 97) (v := undef) rfl (by kernel_rfl) (by kernel_rfl) (fun _ _ _ h => h) (Or.inr ⟨by kernel_rfl, rfl⟩) ?_
        refine tD11 (i := 21) (d := 98) (v := undef) rfl (by kernel_rfl) (by kernel_rfl) (fun _ _ _ h => h) (Or.inr ⟨by kernel_rfl, rfl⟩) ?_
        refine tD11 (i := 22) (d := 99) (v := undef) rfl (by kernel_rfl) (by kernel_rfl) (fun _ _ _ h => h) (Or.inr ⟨by kernel_rfl, rfl⟩) ?_
        refine tD11 (i := 23) (d := 100) (v := .bool false) rfl (by kernel_rfl) (by kernel_rfl) (fun _ _ _ h => h) (Or.inl ⟨by kernel_rfl, fun W => by go_simp⟩) ?_
        refine tD11 (i := 24) (d := 101) (v := .bool false) rfl (by kernel_rfl) (by kernel_rfl) (fun _ _ _ h => h) (Or.inl ⟨by kernel_rfl, fun W => by go_simp⟩) ?_
        cases bI
        · refine wpAny_done (by kernel_rfl) ?_ _
          go_step
          go_simp
          go_wp2_with fail
          refine (CI.out _).mono ?_
          rintro e wi ⟨rfl, rfl⟩
          go_wp2_with fail
          refine (CN.out u4).mono ?_
          rintro e v1 ⟨Y7, q7, f7, rfl, rO, b7⟩
          have B7 := Lib.hid (below_step B4.out b7)
          have S7 := Lib.hid (S4.out.step11 b7)
          have C7 := CK.out v1 _ (by first | exact trivial | rfl) (Lib.hid rO) S7 (Lib.hid (HLd.out.below B7.out))
          have C7 := Lib.hid C7
          clear b7 rO
          go_wp2_with fail
          refine (C7.out).mono ?_
          rintro e v2 ⟨rfl, b8⟩
          have B8 := Lib.hid (below_step B7.out b8)
          clear b8 C7
          go_wp2_with fail
          refine (HW.out _ (Lib.hid (HLd.out.below B8.out))).mono ?_
          rintro e wz ⟨rfl, bz⟩
          have Bz := Lib.hid (below_step (B8.out) bz)
          clear bz
          go_wp2_with fail
          go_ret
          exact ⟨rfl, Bz.out⟩
        · refine wpAny_done (by kernel_rfl) ?_ _
          go_step
          go_simp
          go_wp2_with fail
          refine (CI.out _).mono ?_
          rintro e wi ⟨rfl, rfl⟩
          go_wp2_with fail
          refine (HW.out _ (Lib.hid (HLd.out.below B4.out))).mono ?_
          rintro e wz ⟨rfl, bz⟩
          have Bz := Lib.hid (below_step (B4.out) bz)
          clear bz
          go_wp2_with fail
          go_ret
          exact ⟨rfl, Bz.out⟩
      · have CL := Lib.hid (CLI.out m (by omega) (by rw [HN.out]; omega) (hbE.1 rfl))
        have HE := Lib.hid (hbE.1 rfl)
        clear hbE hm
        go_wp2_with fail
        refine wp_region_any (by kernel_rfl) ?_
        change wpAny _ _ _ _ _ _ _ wr.drew
        refine tD11 (i := 0) (d := 77) (v := .int .u64 (p : Int)) rfl (by kernel_rfl) (by kernel_rfl) (fun _ _ _ h => h) (Or.inl ⟨by kernel_rfl, fun W => by go_simp⟩) ?_
        refine tD11 (i := 2) (d := 79) (v := .slice (some ⟨g, o, none⟩) i d) rfl (by kernel_rfl) (by kernel_rfl) (fun _ _ _ h => h) (Or.inl ⟨by kernel_rfl, fun W => by go_simp⟩) ?_
        refine wpAny_ready (rs := [1]) (by kernel_rfl) (by simp) (AllReady.cons rfl (fun K hK => ?_) AllReady.nil)
        go_simp
        refine (CO.out _).mono ?_
        rintro e u1 ⟨Y, q, f, rfl, rO, b1⟩
        have B1 := Lib.hid (below_step hB.out b1)
        have S1 := Lib.hid (hS.out.step11 b1)
        have C1 := CA.out u1 _ (Lib.hid rO) S1 (Lib.hid (HLd.out.below B1.out))
        have C1 := Lib.hid C1
        clear b1 rO
        go_wp2_with fail
        refine wpAny_ready (rs := [3]) (by kernel_rfl) (by simp) (AllReady.cons rfl (fun K hK => ?_) AllReady.nil)
        go_simp
        refine (C1.out).mono ?_
        rintro e u2 ⟨rfl, b2⟩
        have B2 := Lib.hid (below_step B1.out b2)
        have S2 := Lib.hid (S1.out.step11 b2)
        clear b2 C1
        go_wp2_with fail
        refine tD11 (i := 4) (d := 81) (v := .bool false) rfl (by kernel_rfl) (by kernel_rfl) (fun _ _ _ h => h) (Or.inl ⟨by kernel_rfl, fun W => by go_simp⟩) ?_
        refine tD11 (i := 5) (d := 82) (v := .bool false) rfl (by kernel_rfl) (by kernel_rfl) (fun _ _ _ h => h) (Or.inl ⟨by kernel_rfl, fun W => by go_simp⟩) ?_
        refine tD11 (i := 6) (d := 83) (v := .int .u64 (p : Int)) rfl (by kernel_rfl) (by kernel_rfl) (fun _ _ _ h => h) (Or.inl ⟨by kernel_rfl, fun W => by go_simp⟩) ?_
        refine tD11 (i := 8) (d := 85) (v := .slice (some ⟨g, o, none⟩) i d) rfl (by kernel_rfl) (by kernel_rfl) (fun _ _ _ h => h) (Or.inl ⟨by kernel_rfl, fun W => by go_simp⟩) ?_
        refine tD11 (i := 9) (d := 86) (v := .slice (some ⟨g, o, none⟩) i d) rfl (by kernel_rfl) (by kernel_rfl) (fun _ _ _ h => h) (Or.inl ⟨by kernel_rfl, fun W => by go_simp⟩) ?_
        refine tD11 (i := 10) (d := 87) (v := .int .i64 (i : Int)) rfl (by kernel_rfl) (by kernel_rfl) (fun _ _ _ h => h) (Or.inl ⟨by kernel_rfl, fun W => by go_simp⟩) ?_
        refine tD11 (i := 11) (d := 88) (v := .int .i64 (m : Int)) rfl (by kernel_rfl) (by kernel_rfl) (fun _ _ _ h => h) (Or.inl ⟨by kernel_rfl, fun W => by first | (go_simp; done) | (go_simp; exact HWI.out) | (go_simp; exact HWM.out)⟩) ?_
        refine tD11 (i := 12) (d := 89) (v := .slice (some ⟨g, o, none⟩) m d) rfl (by kernel_rfl) (by kernel_rfl) (fun _ _ _ h => h) (Or.inl ⟨by kernel_rfl, fun W => by first | (go_simp; done) | (go_simp; intro h; exact absurd (h (by omega)) (by omega))⟩) ?_
        refine wpAny_ready (rs := [7]) (by kernel_rfl) (by simp) (AllReady.cons rfl (fun K hK => ?_) AllReady.nil)
        go_simp
        refine (CO.out u2).mono ?_
        rintro e u3 ⟨Y3, q3, f3, rfl, rO, b3⟩
        have B3 := Lib.hid (below_step B2.out b3)
        have S3 := Lib.hid (S2.out.step11 b3)
        have C3 := CP.out u3 _ m true ⟨fun _ => HE.out, fun _ => rfl⟩ (Lib.hid rO) S3 (Lib.hid (HLd.out.below B3.out)) hms
        have C3 := Lib.hid C3
        clear b3 rO
        go_wp2_with fail
        refine wpAny_ready (rs := [13]) (by kernel_rfl) (by simp) (AllReady.cons rfl (fun K hK => ?_) AllReady.nil)
        go_simp
        refine (C3.out).mono ?_
        rintro e u4 ⟨rfl, b4⟩
        have B4 := Lib.hid (below_step B3.out b4)
        have S4 := Lib.hid (S3.out.step11 b4)
        clear b4 C3
        go_wp2_with fail
        refine tD11 (i := 14) (d := 91) (v := .bool true) rfl (by kernel_rfl) (by kernel_rfl) (fun _ _ _ h => h) (Or.inl ⟨by kernel_rfl, fun W => by go_simp⟩) ?_
        refine tD11 (i := 15) (d := 92) (v := .slice (some ⟨g, o, none⟩) i d) rfl (by kernel_rfl) (by kernel_rfl) (fun _ _ _ h => h) (Or.inl ⟨by kernel_rfl, fun W => by go_simp⟩) ?_
        refine tD11 (i := 16) (d := 93) (v := .slice (some ⟨g, o, none⟩) i d) rfl (by kernel_rfl) (by kernel_rfl) (fun _ _ _ h => h) (Or.inl ⟨by kernel_rfl, fun W => by go_simp⟩) ?_
        refine tD11 (i := 17) (d := 94) (v := .int .i64 (i : Int)) rfl (by kernel_rfl) (by kernel_rfl) (fun _ _ _ h => h) (Or.inl ⟨by kernel_rfl, fun W => by go_simp⟩) ?_
        refine tD11 (i := 18) (d := 95) (v := .int .i64 (m : Int)) rfl (by kernel_rfl) (by kernel_rfl) (fun _ _ _ h => h) (Or.inl ⟨by kernel_rfl, fun W => by first | (go_simp; done) | (go_simp; exact HWI.out) | (go_simp; exact HWM.out)⟩) ?_
        refine tD11 (i := 19) (d := 96) (v := .slice (some ⟨g, o, none⟩) m d) rfl (by kernel_rfl) (by kernel_rfl) (fun _ _ _ h => h) (Or.inl ⟨by kernel_rfl, fun W => by first | (go_simp; done) | (go_simp; intro h; exact absurd (h (by omega)) (by omega))⟩) ?_
        refine tD11 (i := 20) (d := 97) (v := .int .u64 (p : Int)) rfl (by kernel_rfl) (by kernel_rfl) (fun _ _ _ h => h) (Or.inl ⟨by kernel_rfl, fun W => by go_simp⟩) ?_
        refine wpAny_ready (rs := [21]) (by kernel_rfl) (by simp) (AllReady.cons rfl (fun K hK => ?_) AllReady.nil)
        go_simp
        refine (CL.out u4 S4).mono ?_
        rintro e u5 ⟨rfl, b5⟩
        have B5 := Lib.hid (below_step B4.out b5)
        have S5 := Lib.hid (S4.out.step11 b5)
        clear b5
        go_wp2_with fail
        refine tD11 (i := 22) (d := 99) (v := .bool false) rfl (by kernel_rfl) (by kernel_rfl) (fun _ _ _ h => h) (Or.inl ⟨by kernel_rfl, fun W => by go_simp⟩) ?_
        refine tD11 (i := 23) (d := 100) (v := .bool false) rfl (by kernel_rfl) (by kernel_rfl) (fun _ _ _ h => h) (Or.inl ⟨by kernel_rfl, fun W => by go_simp⟩) ?_
        refine tD11 (i := 24) (d := 101) (v := .bool false) rfl (by kernel_rfl) (by kernel_rfl) (fun _ _ _ h => h) (Or.inl ⟨by kernel_rfl, fun W => by go_simp⟩) ?_
        cases bI
        · refine wpAny_done (by kernel_rfl) ?_ _
          go_step
          go_simp
          go_wp2_with fail
          refine (CI.out _).mono ?_
          rintro e wi ⟨rfl, rfl⟩
          go_wp2_with fail
          refine (CN.out u5).mono ?_
          rintro e v1 ⟨Y7, q7, f7, rfl, rO, b7⟩
          have B7 := Lib.hid (below_step B5.out b7)
          have S7 := Lib.hid (S5.out.step11 b7)
          have C7 := CK.out v1 _ (by first | exact trivial | rfl) (Lib.hid rO) S7 (Lib.hid (HLd.out.below B7.out))
          have C7 := Lib.hid C7
          clear b7 rO
          go_wp2_with fail
          refine (C7.out).mono ?_
          rintro e v2 ⟨rfl, b8⟩
          have B8 := Lib.hid (below_step B7.out b8)
          clear b8 C7
          go_wp2_with fail
          refine (HW.out _ (Lib.hid (HLd.out.below B8.out))).mono ?_
          rintro e wz ⟨rfl, bz⟩
          have Bz := Lib.hid (below_step (B8.out) bz)
          clear bz
          go_wp2_with fail
          go_ret
          exact ⟨rfl, Bz.out⟩
        · refine wpAny_done (by kernel_rfl) ?_ _
          go_step
          go_simp
          go_wp2_with fail
          refine (CI.out _).mono ?_
          rintro e wi ⟨rfl, rfl⟩
          go_wp2_with fail
          refine (HW.out _ (Lib.hid (HLd.out.below B5.out))).mono ?_
          rintro e wz ⟨rfl, bz⟩
          have Bz := Lib.hid (below_step (B5.out) bz)
          clear bz
          go_wp2_with fail
          go_ret
          exact ⟨rfl, Bz.out⟩
end Go.Proofs.YtjpfcdgaepdcdaaGreat

/- Several texts in one; each begins with a remark that says what it shows and on which conditions. -/
import Derived.Test.YtjpfcdgaepdcdaaKbi
import Derived.Test.YtjpfcdgaepdcdaaKbj
/- pratt's decides, walked. Conditions: as typed. -/
namespace Go.Proofs.Ytjpfcdgaepdcdaa
open Go.RowKit
set_option maxRecDepth 20000
theorem RdNat.in12 {w : World} {A : Option Addr} {n c : Nat} {l : List Nat} (h : RdNat w w.heap.size (.slice A n c) l) (hl : l.length ≤ 40) : NatIn w A n c (natOf l) := by
  obtain ⟨A2, c2, e, h2⟩ := h.in11 hl
  injection e with e1 e2 e3
  subst e1 e2 e3
  exact h2
theorem RdNat.is12 {w : World} {A : Option Addr} {n c : Nat} {l : List Nat} (h : RdNat w w.heap.size (.slice A n c) l) (hl : l.length ≤ 40) (ho : OkNat l) : NatIs w A n c (natOf l) := by
  obtain ⟨A2, c2, e, h2⟩ := h.is11 hl ho
  injection e with e1 e2 e3
  subst e1 e2 e3
  exact h2
/-- What a step must be besides its primes' being shown. -/
structure Decide (s : SRaw) : Prop where
  okP : OkNat s.P
  okG : OkNat s.G
  odd : natOf s.P % 2 = 1
  three : 3 ≤ natOf s.P
  one : natOf s.G ≠ 0
  less : natOf s.G < natOf s.P
  prod : IsProd (natOf s.P - 1) (s.Q.map natOf)
  around : Around (natOf s.G) (natOf s.P) (natOf s.P - 1) (s.Q.map natOf)
def ParFlag (z : Bool) (p : Nat) : Prop := (z = true → p % 2 = 0) ∧ (z = false → p % 2 = 1)
def Low3Flag (z : Bool) (p : Nat) : Prop := (z = true → p < 3) ∧ (z = false → 3 ≤ p)
def OkFlag (z : Bool) (l : List Nat) : Prop := z = true ↔ OkNat l
def ProdFlag (z : Bool) (N : Nat) (Q : List Nat) : Prop := z = true ↔ IsProd N Q
def DecFlag (b : Bool) (s : SRaw) : Prop := b = true ↔ Decide s
theorem DecFlag.no {b : Bool} {s : SRaw} (h : DecFlag b s) (k : Decide s → False) : b = false := by
  cases hq : b with
  | false => rfl
  | true => exact (k (h.1 hq)).elim
/-- The world while a step is looked at. -/
structure DecAt (w0 u : World) (g : Nat) (vP vG vQ : Value) (s : SRaw) : Prop where
  box : StepBox u g vP vG vQ
  rP : RdNat u u.heap.size vP s.P
  rG : RdNat u u.heap.size vG s.G
  rQ : RdQ u u.heap.size vQ s.Q
  be : Below w0.heap.size w0 u
theorem DecAt.step {w0 u u' : World} {g : Nat} {vP vG vQ : Value} {s : SRaw} (h : DecAt w0 u g vP vG vQ s) (b : Below u.heap.size u u') : DecAt w0 u' g vP vG vQ s :=
  ⟨h.box.below b, h.rP.step11 b, h.rG.step11 b, h.rQ.step11 b, below_step h.be b⟩
theorem bit0_even11 {p : Nat} (h : p % 2 = 0) : bitS p 0 = 0 := by
  unfold bitS
  rw [if_neg (by omega)]
  show bit p 0 = 0
  unfold bit
  simp; omega
theorem bit0_odd11 {p : Nat} (h : p % 2 = 1) : bitS p 0 = 1 := by
  unfold bitS
  rw [if_neg (by omega)]
  show bit p 0 = 1
  unfold bit
  simp; omega
set_option maxHeartbeats 8000000 in
theorem decides11 {w : World} {AP AG AQ : Option Addr} {nP cP nG cG nQ cQ : Nat} {s : SRaw} (rP : RdNat w w.heap.size (.slice AP nP cP) s.P) (rG : RdNat w w.heap.size (.slice AG nG cG) s.G) (rQ : RdQ w w.heap.size (.slice AQ nQ cQ) s.Q) (hf : FewOne s) (hR : Rising s.Q) (b : Bool) (hb : DecFlag b s) :
    Calls Try.prog 15 #[.agg #[.slice AP nP cP, .slice AG nG cG, .slice AQ nQ cQ]] w fun e w' => e = .returned (.bool b) ∧ Below w.heap.size w w' := by
  obtain ⟨W0, hW0⟩ : ∃ W0, w.alloc (.cells #[.slice AP nP cP, .slice AG nG cG, .slice AQ nQ cQ] 35) = W0 := ⟨_, rfl⟩
  obtain ⟨W1, hW1⟩ : ∃ W1, W0.drew = W1 := ⟨_, rfl⟩
  obtain ⟨g, hg⟩ : ∃ g, w.heap.size = g := ⟨_, rfl⟩
  have hb0 : Below w.heap.size w W0 := by rw [← hW0]; exact (Below.refl _ w).alloc (Nat.le_refl _) _
  have hD0 : DecAt w W0 g (.slice AP nP cP) (.slice AG nG cG) (.slice AQ nQ cQ) s :=
    ⟨by rw [← hW0, ← hg]; exact StepBox.new _ _ _ _ _, rP.step11 hb0, rG.step11 hb0, rQ.step11 hb0, hb0⟩
  have hD1 : DecAt w W1 g (.slice AP nP cP) (.slice AG nG cG) (.slice AQ nQ cQ) s := by rw [← hW1]; exact hD0.step (Drawn.more 1).below11
  have k0 := hD1.box.cP
  have HBD := Lib.hid hb
  have HRi := Lib.hid hR
  have HF := Lib.hid hf
  have HO := Lib.hid fun (u : World) (x : Nat) (hx : x < 18446744073709551616) => bOf u x hx
  obtain ⟨bP, hbP⟩ := some_flag11 (OkNat s.P)
  obtain ⟨bG, hbG⟩ := some_flag11 (OkNat s.G)
  have CFP := Lib.hid fun (u : World) (h : Hid (DecAt w u g (.slice AP nP cP) (.slice AG nG cG) (.slice AQ nQ cQ) s)) => fits11 h.out.rP HF.out.2.1 bP hbP
  have CFG := Lib.hid fun (u : World) (h : Hid (DecAt w u g (.slice AP nP cP) (.slice AG nG cG) (.slice AQ nQ cQ) s)) => fits11 h.out.rG HF.out.2.2.1 bG hbG
  have HbP := Lib.hid (show OkFlag bP s.P from hbP)
  have HbG := Lib.hid (show OkFlag bG s.G from hbG)
  have C1 := Lib.hid (CFP.out W1 (Lib.hid hD1))
  have HD1 := Lib.hid hD1
  clear hb0 hD0 hD1 rP rG rQ hf hR hb hbP hbG
  go_enter Try.func15, Try.ntmps15
  go_wp2_with fail
  refine wp_region_any (by kernel_rfl) ?_
  change wpAny _ _ _ _ _ _ _ W0.drew
  rw [hW1]
  clear hW1 hW0 hg
  refine wpAny_takeD (i := 0) (d := 5) (v := .pointer (some ⟨g, 0, none⟩)) rfl (by kernel_rfl) (by kernel_rfl) (by kernel_rfl) (by kernel_rfl) (fun _ _ _ h => h) (Or.inl ⟨by kernel_rfl, fun W => by go_simp⟩) ?_
  refine wpAny_ready (rs := [1]) (by kernel_rfl) (by simp) (AllReady.cons rfl (fun K hK => ?_) AllReady.nil)
  go_simp
  refine hK _ _ ?_
  clear hK K
  refine wpAny_ready (rs := [2]) (by kernel_rfl) (by simp) (AllReady.cons rfl (fun K hK => ?_) AllReady.nil)
  go_simp
  refine (C1.out).mono ?_
  rintro e u1 ⟨rfl, b1⟩
  have HD2 := Lib.hid (HD1.out.step b1)
  have k1 := HD2.out.box.cP
  clear b1 C1 k0
  go_wp2_with fail
  cases bP
  · refine wpAny_takeD (i := 3) (d := 8) (v := .bool true) rfl (by kernel_rfl) (by kernel_rfl) (by kernel_rfl) (by kernel_rfl) (fun _ _ _ h => h) (Or.inl ⟨by kernel_rfl, fun W => by go_simp⟩) ?_
    refine wpAny_takeD (i := 4) (d := 9) (v := .bool true) rfl (by kernel_rfl) (by kernel_rfl) (by kernel_rfl) (by kernel_rfl) (fun _ _ _ h => h) (Or.inl ⟨by kernel_rfl, fun W => by go_simp⟩) ?_
    refine wpAny_takeD (i := 5) (d := 10) (v := undef) rfl (by kernel_rfl) (by kernel_rfl) (by kernel_rfl) (by kernel_rfl) (fun _ _ _ h => h) (Or.inr ⟨by kernel_rfl, rfl⟩) ?_
    refine wpAny_takeD (i := 6) (d := 11) (v := undef) rfl (by kernel_rfl) (by kernel_rfl) (by kernel_rfl) (by kernel_rfl) (fun _ _ _ h => h) (Or.inr ⟨by kernel_rfl, rfl⟩) ?_
    refine wpAny_takeD (i := 7) (d := 12) (v := undef) rfl (by kernel_rfl) (by kernel_rfl) (by kernel_rfl) (by kernel_rfl) (fun _ _ _ h => h) (Or.inr ⟨by kernel_rfl, rfl⟩) ?_
    refine wpAny_takeD (i := 8) (d := 13) (v := undef) rfl (by kernel_rfl) (by kernel_rfl) (by kernel_rfl) (by kernel_rfl) (fun _ _ _ h => h) (Or.inr ⟨by kernel_rfl, rfl⟩) ?_
    refine wpAny_takeD (i := 9) (d := 14) (v := .bool true) rfl (by kernel_rfl) (by kernel_rfl) (by kernel_rfl) (by kernel_rfl) (fun _ _ _ h => h) (Or.inl ⟨by kernel_rfl, fun W => by go_simp⟩) ?_
    refine wpAny_takeD (i := 10) (d := 15) (v := .bool true) rfl (by kernel_rfl) (by kernel_rfl) (by kernel_rfl) (by kernel_rfl) (fun _ _ _ h => h) (Or.inl ⟨by kernel_rfl, fun W => by go_simp⟩) ?_
    refine wpAny_takeD (i := 11) (d := 16) (v := undef) rfl (by kernel_rfl) (by kernel_rfl) (by kernel_rfl) (by kernel_rfl) (fun _ _ _ h => h) (Or.inr ⟨by kernel_rfl, rfl⟩) ?_
    refine wpAny_takeD (i := 12) (d := 17) (v := undef) rfl (by kernel_rfl) (by kernel_rfl) (by kernel_rfl) (by kernel_rfl) (fun _ _ _ h => h) (Or.inr ⟨by kernel_rfl, rfl⟩) ?_
    refine wpAny_takeD (i := 13) (d := 18) (v := undef) rfl (by kernel_rfl) (by kernel_rfl) (by kernel_rfl) (by kernel_rfl) (fun _ _ _ h => h) (Or.inr ⟨by kernel_rfl, rfl⟩) ?_
    refine wpAny_takeD (i := 14) (d := 19) (v := undef) rfl (by kernel_rfl) (by kernel_rfl) (by kernel_rfl) (by kernel_rfl) (fun _ _ _ h => h) (Or.inr ⟨by kernel_rfl, rfl⟩) ?_
    refine wpAny_takeD (i := 15) (d := 20) (v := undef) rfl (by kernel_rfl) (by kernel_rfl) (by kernel_rfl) (by kernel_rfl) (fun _ _ _ h => h) (Or.inr ⟨by kernel_rfl, rfl⟩) ?_
    refine wpAny_takeD (i := 16) (d := 21) (v := .bool true) rfl (by kernel_rfl) (by kernel_rfl) (by kernel_rfl) (by kernel_rfl) (fun _ _ _ h => h) (Or.inl ⟨by kernel_rfl, fun W => by go_simp⟩) ?_
    refine wpAny_done (by kernel_rfl) ?_ _
    go_step
    go_simp
    go_wp2_with fail
    have hb1 := HBD.out.no (fun k => by have h := HbP.out.2 k.okP; cases h)
    go_ret
    exact ⟨by rw [hb1]; rfl, HD2.out.be⟩
  · refine wpAny_takeD (i := 3) (d := 8) (v := .bool false) rfl (by kernel_rfl) (by kernel_rfl) (by kernel_rfl) (by kernel_rfl) (fun _ _ _ h => h) (Or.inl ⟨by kernel_rfl, fun W => by go_simp⟩) ?_
    refine wpAny_takeD (i := 4) (d := 9) (v := .bool false) rfl (by kernel_rfl) (by kernel_rfl) (by kernel_rfl) (by kernel_rfl) (fun _ _ _ h => h) (Or.inl ⟨by kernel_rfl, fun W => by go_simp⟩) ?_
    refine wpAny_takeD (i := 5) (d := 10) (v := .pointer (some ⟨g, 0, none⟩)) rfl (by kernel_rfl) (by kernel_rfl) (by kernel_rfl) (by kernel_rfl) (fun _ _ _ h => h) (Or.inl ⟨by kernel_rfl, fun W => by go_simp⟩) ?_
    refine wpAny_ready (rs := [6]) (by kernel_rfl) (by simp) (AllReady.cons rfl (fun K hK => ?_) AllReady.nil)
    go_simp
    refine hK _ _ ?_
    clear hK K
    have hokP := HbP.out.1 rfl
    have HokP := Lib.hid hokP
    obtain ⟨t, ht⟩ : ∃ t, bitS (natOf s.P) 0 = t := ⟨_, rfl⟩
    have C2 := bBit (HD2.out.rP.in12 HF.out.2.1) 0 (by unfold MaxI; omega)
    rw [ht] at C2
    have C2 := Lib.hid C2
    obtain ⟨zE, hzE⟩ : ∃ z : Bool, ((t : Int) == 0) = z := ⟨_, rfl⟩
    have HzE := Lib.hid (show ParFlag zE (natOf s.P) from by
      rcases Nat.mod_two_eq_zero_or_one (natOf s.P) with h | h
      · rw [bit0_even11 h] at ht
        subst ht hzE
        exact ⟨fun _ => h, fun h2 => by simp at h2⟩
      · rw [bit0_odd11 h] at ht
        subst ht hzE
        exact ⟨fun h2 => by simp at h2, fun _ => h⟩)
    clear hokP ht
    refine wpAny_ready (rs := [7]) (by kernel_rfl) (by simp) (AllReady.cons rfl (fun K hK => ?_) AllReady.nil)
    go_simp
    refine (C2.out).mono ?_
    rintro e u2 ⟨rfl, b2⟩
    have HD3 := Lib.hid (HD2.out.step b2)
    have k2 := HD3.out.box.cP
    clear b2 C2 k1
    go_wp2_with fail
    refine wpAny_takeD (i := 8) (d := 13) (v := .bool zE) rfl (by kernel_rfl) (by kernel_rfl) (by kernel_rfl) (by kernel_rfl) (fun _ _ _ h => h) (Or.inl ⟨by kernel_rfl, fun W => by go_simp⟩) ?_
    clear hzE
    cases zE
    · refine wpAny_takeD (i := 9) (d := 14) (v := .bool false) rfl (by kernel_rfl) (by kernel_rfl) (by kernel_rfl) (by kernel_rfl) (fun _ _ _ h => h) (Or.inl ⟨by kernel_rfl, fun W => by go_simp⟩) ?_
      refine wpAny_takeD (i := 10) (d := 15) (v := .bool false) rfl (by kernel_rfl) (by kernel_rfl) (by kernel_rfl) (by kernel_rfl) (fun _ _ _ h => h) (Or.inl ⟨by kernel_rfl, fun W => by go_simp⟩) ?_
      refine wpAny_takeD (i := 11) (d := 16) (v := .pointer (some ⟨g, 0, none⟩)) rfl (by kernel_rfl) (by kernel_rfl) (by kernel_rfl) (by kernel_rfl) (fun _ _ _ h => h) (Or.inl ⟨by kernel_rfl, fun W => by go_simp⟩) ?_
      refine wpAny_two11 (fun u => u.cell? ⟨g, 0, none⟩ = some (.slice AP nP cP)) (i := 12) (j := 13) (d := 17) (v := .slice AP nP cP) rfl rfl rfl (by kernel_rfl) (by kernel_rfl) (by kernel_rfl) (by kernel_rfl) (by kernel_rfl) (by kernel_rfl) (fun c h => by cases h) (by rfl) (fun _ _ _ h => h) (by kernel_rfl) (fun W hW => by go_simp) (k2) ?_
      refine wpOp_step rfl (fun K hK => ?_)
      go_simp
      refine (HO.out u2 3 (by omega)).mono ?_
      rintro e u3 ⟨Y3, r3, f3, rfl, S3, _, b3⟩
      have HD4 := Lib.hid (HD3.out.step b3)
      have HS3 := Lib.hid S3
      have k3 := HD4.out.box.cP
      clear S3 b3 k2
      refine hK _ _ ⟨?_, k3⟩
      clear hK K
      obtain ⟨x, hx⟩ : ∃ x, cmpS (natOf s.P) 3 = x := ⟨_, rfl⟩
      obtain ⟨zL, hzL⟩ : ∃ z : Bool, decide (x < 0) = z := ⟨_, rfl⟩
      have HzL := Lib.hid (show Low3Flag zL (natOf s.P) from by
        unfold cmpS at hx
        subst hzL
        rcases Nat.lt_or_ge (natOf s.P) 3 with h | h
        · rw [if_pos h] at hx; subst hx
          exact ⟨fun _ => h, fun h2 => by simp at h2⟩
        · rw [if_neg (by omega)] at hx
          refine ⟨fun h2 => ?_, fun _ => h⟩
          have h3 := of_decide_eq_true h2
          split at hx <;> omega)
      have C4 := bCmp (HD4.out.rP.in12 HF.out.2.1) HS3.out.in_
      rw [hx] at C4
      have C4 := Lib.hid C4
      clear hx
      refine wpAny_ready (rs := [14]) (by kernel_rfl) (by simp) (AllReady.cons rfl (fun K hK => ?_) AllReady.nil)
      go_simp
      refine (C4.out).mono ?_
      rintro e u4 ⟨rfl, b4⟩
      have HD5 := Lib.hid (HD4.out.step b4)
      have k4 := HD5.out.box.cG
      clear b4 C4 k3 HS3
      go_wp2_with fail
      refine wpAny_takeD (i := 15) (d := 20) (v := .bool zL) rfl (by kernel_rfl) (by kernel_rfl) (by kernel_rfl) (by kernel_rfl) (fun _ _ _ h => h) (Or.inl ⟨by kernel_rfl, fun W => by go_simp⟩) ?_
      clear hzL
      cases zL
      · refine wpAny_takeD (i := 16) (d := 21) (v := .bool false) rfl (by kernel_rfl) (by kernel_rfl) (by kernel_rfl) (by kernel_rfl) (fun _ _ _ h => h) (Or.inl ⟨by kernel_rfl, fun W => by go_simp⟩) ?_
        have C5 := Lib.hid (CFG.out u4 HD5)
        refine wpAny_done (by kernel_rfl) ?_ _
        go_step
        go_simp
        go_wp2_with fail
        refine (C5.out).mono ?_
        rintro e u5 ⟨rfl, b5⟩
        have HD6 := Lib.hid (HD5.out.step b5)
        have k5 := HD6.out.box.cG
        clear b5 C5 k4
        cases bG
        · go_wp2_with fail
          have hb1 := HBD.out.no (fun k => by have h := HbG.out.2 k.okG; cases h)
          go_ret
          exact ⟨by rw [hb1]; rfl, HD6.out.be⟩
        · have HokG := Lib.hid (HbG.out.1 rfl)
          obtain ⟨t2, ht2⟩ : ∃ t, nbits (natOf s.G) = t := ⟨_, rfl⟩
          have C6 := bBits (HD6.out.rG.in12 HF.out.2.2.1)
          rw [ht2] at C6
          have C6 := Lib.hid C6
          go_wp2_with fail
          refine (C6.out).mono ?_
          rintro e u6 ⟨rfl, b6⟩
          have HD7 := Lib.hid (HD6.out.step b6)
          have k6 := HD7.out.box.cG
          have k6P := HD7.out.box.cP
          clear b6 C6 k5
          by_cases hG0 : natOf s.G = 0
          · have h2 : ((t2 : Int) == 0) = true := by rw [hG0, nbits_zero] at ht2; subst ht2; rfl
            clear ht2
            go_wp2_with fail
            have hb1 := HBD.out.no (fun k => k.one hG0)
            go_ret
            exact ⟨by rw [hb1]; rfl, HD7.out.be⟩
          · have h2 : ((t2 : Int) == 0) = false := by have h := (nbits_iff (natOf s.G)).2 hG0; rw [ht2] at h; simp; omega
            clear ht2
            obtain ⟨x2, hx2⟩ : ∃ x, cmpS (natOf s.G) (natOf s.P) = x := ⟨_, rfl⟩
            have C7 := bCmp (HD7.out.rG.in12 HF.out.2.2.1) (HD7.out.rP.in12 HF.out.2.1)
            rw [hx2] at C7
            have C7 := Lib.hid C7
            have HG0 := Lib.hid hG0
            clear hG0
            go_wp2_with fail
            refine (C7.out).mono ?_
            rintro e u7 ⟨rfl, b7⟩
            have HD8 := Lib.hid (HD7.out.step b7)
            clear b7 C7 k6 k6P h2
            by_cases hGP : natOf s.G < natOf s.P
            · have h3 : decide ((0 : Int) ≤ x2) = false := by unfold cmpS at hx2; rw [if_pos hGP] at hx2; subst hx2; rfl
              have HGP := Lib.hid hGP
              have HP1 := Lib.hid (show natOf s.P ≠ 0 ∧ natOf s.P - 1 ≠ 0 ∧ 1 ≤ natOf s.P from by have h3 := HzL.out.2 rfl; omega)
              obtain ⟨V1, hV1⟩ : ∃ V, u7.drew = V := ⟨_, rfl⟩
              have HD9 := Lib.hid (show DecAt w V1 g (.slice AP nP cP) (.slice AG nG cG) (.slice AQ nQ cQ) s by rw [← hV1]; exact HD8.out.step (Drawn.more 1).below11)
              have k9 := HD9.out.box.cP
              clear hx2 hGP HD8
              go_wp2_with fail
              refine wp_region_any (by kernel_rfl) ?_
              change wpAny _ _ _ _ _ _ _ u7.drew
              rw [hV1]
              clear hV1 h3
              refine wpAny_takeD (i := 0) (d := 41) (v := .pointer (some ⟨g, 0, none⟩)) rfl (by kernel_rfl) (by kernel_rfl) (by kernel_rfl) (by kernel_rfl) (fun _ _ _ h => h) (Or.inl ⟨by kernel_rfl, fun W => by go_simp⟩) ?_
              refine wpAny_two11 (fun u => u.cell? ⟨g, 0, none⟩ = some (.slice AP nP cP)) (i := 1) (j := 2) (d := 42) (v := .slice AP nP cP) rfl rfl rfl (by kernel_rfl) (by kernel_rfl) (by kernel_rfl) (by kernel_rfl) (by kernel_rfl) (by kernel_rfl) (fun c h => by cases h) (by rfl) (fun _ _ _ h => h) (by kernel_rfl) (fun W hW => by go_simp) (k9) ?_
              refine wpOp_step rfl (fun K hK => ?_)
              go_simp
              refine (HO.out V1 1 (by omega)).mono ?_
              rintro e v2 ⟨Y2, r2, f2, rfl, S2, _, b2⟩
              have HDa := Lib.hid (HD9.out.step b2)
              have HS2 := Lib.hid S2
              have ka := HDa.out.box.cP
              clear S2 b2 k9
              refine hK _ _ ⟨?_, ka⟩
              clear hK K ka
              have C8 := Lib.hid (bSub_yes (HDa.out.rP.is12 HF.out.2.1 HokP.out).in_ HS2.out.in_ HP1.out.2.2)
              refine wpAny_ready (rs := [3]) (by kernel_rfl) (by simp) (AllReady.cons rfl (fun K hK => ?_) AllReady.nil)
              go_simp
              refine (C8.out).mono ?_
              rintro e v3 ⟨Y3, r3, f3, rfl, S3, _, b3⟩
              have HDb := Lib.hid (HDa.out.step b3)
              have HS3 := Lib.hid S3
              clear S3 b3 C8 HS2
              go_wp2_with fail
              refine wpAny_takeD (i := 4) (d := 40) (v := .tuple #[.slice Y3 r3 f3, .bool true]) rfl (by kernel_rfl) (by kernel_rfl) (by kernel_rfl) (by kernel_rfl) (fun _ _ _ h => h) (Or.inl ⟨by kernel_rfl, fun W => by go_simp⟩) ?_
              refine wpAny_takeD (i := 5) (d := 45) (v := .slice Y3 r3 f3) rfl (by kernel_rfl) (by kernel_rfl) (by kernel_rfl) (by kernel_rfl) (fun _ _ _ h => h) (Or.inl ⟨by kernel_rfl, fun W => by go_simp⟩) ?_
              refine wpAny_takeD (i := 6) (d := 46) (v := .bool true) rfl (by kernel_rfl) (by kernel_rfl) (by kernel_rfl) (by kernel_rfl) (fun _ _ _ h => h) (Or.inl ⟨by kernel_rfl, fun W => by go_simp⟩) ?_
              refine wpAny_takeD (i := 7) (d := 3) (v := .slice Y3 r3 f3) rfl (by kernel_rfl) (by kernel_rfl) (by kernel_rfl) (by kernel_rfl) (fun _ _ _ h => h) (Or.inl ⟨by kernel_rfl, fun W => by go_simp⟩) ?_
              refine wpAny_takeD (i := 8) (d := 4) (v := .bool true) rfl (by kernel_rfl) (by kernel_rfl) (by kernel_rfl) (by kernel_rfl) (fun _ _ _ h => h) (Or.inl ⟨by kernel_rfl, fun W => by go_simp⟩) ?_
              have hNl : nbits (natOf s.P - 1) ≤ 1024 := Nat.le_trans (nbits_mono (Nat.sub_le _ _)) HokP.out.2
              have kQ := HDb.out.box.cQ
              obtain ⟨bI, hbI⟩ := some_flag11 (IsProd (natOf s.P - 1) (s.Q.map natOf))
              have C9 := Lib.hid (isProduct11 HS3.out (Nat.pos_of_ne_zero HP1.out.2.1) hNl HDb.out.rQ HRi.out bI hbI)
              have HNl := Lib.hid hNl
              have HbI := Lib.hid (show ProdFlag bI (natOf s.P - 1) (s.Q.map natOf) from hbI)
              clear hNl hbI
              refine wpAny_done (by kernel_rfl) ?_ _
              go_step
              go_simp
              go_wp2_with fail
              refine (C9.out).mono ?_
              rintro e v4 ⟨rfl, b4⟩
              have HDc := Lib.hid (HDb.out.step b4)
              have HS4 := Lib.hid (HS3.out.step b4)
              have kP4 := HDc.out.box.cP
              have kG4 := HDc.out.box.cG
              have kQ4 := HDc.out.box.cQ
              clear b4 C9 HS3 kQ
              cases bI
              · go_wp2_with fail
                have hb1 := HBD.out.no (fun k => by have h := HbI.out.2 k.prod; cases h)
                go_ret
                exact ⟨by rw [hb1]; rfl, HDc.out.be⟩
              · have Ca := Lib.hid (goesAround11 HS4.out (HDc.out.rP.is12 HF.out.2.1 HokP.out) (HDc.out.rG.is12 HF.out.2.2.1 HokG.out) HDc.out.rQ HP1.out.1 HokP.out.2 HokG.out.2 HNl.out (fun q hq => ⟨HRi.out.ok q hq, HRi.out.short q hq, by have := (HRi.out.prm q hq).1; omega⟩) b
                  (HBD.out.trans ⟨fun k => k.around, fun k => ⟨HokP.out, HokG.out, HzE.out.2 rfl, HzL.out.2 rfl, HG0.out, HGP.out, HbI.out.1 rfl, k⟩⟩))
                go_wp2_with fail
                refine (Ca.out).mono ?_
                rintro e v5 ⟨rfl, b5⟩
                have HDd := Lib.hid (HDc.out.step b5)
                clear b5
                go_wp2_with fail
                go_ret
                exact ⟨rfl, HDd.out.be⟩
            · have h3 : decide ((0 : Int) ≤ x2) = true := by
                unfold cmpS at hx2
                rw [if_neg hGP] at hx2
                split at hx2 <;> subst hx2 <;> rfl
              clear hx2
              go_wp2_with fail
              have hb1 := HBD.out.no (fun k => hGP k.less)
              go_ret
              exact ⟨by rw [hb1]; rfl, HD8.out.be⟩
      · refine wpAny_takeD (i := 16) (d := 21) (v := .bool true) rfl (by kernel_rfl) (by kernel_rfl) (by kernel_rfl) (by kernel_rfl) (fun _ _ _ h => h) (Or.inl ⟨by kernel_rfl, fun W => by go_simp⟩) ?_
        refine wpAny_done (by kernel_rfl) ?_ _
        go_step
        go_simp
        go_wp2_with fail
        have hb1 := HBD.out.no (fun k => by have h := k.three; have h2 := HzL.out.1 rfl; omega)
        go_ret
        exact ⟨by rw [hb1]; rfl, HD5.out.be⟩
    · refine wpAny_takeD (i := 9) (d := 14) (v := .bool true) rfl (by kernel_rfl) (by kernel_rfl) (by kernel_rfl) (by kernel_rfl) (fun _ _ _ h => h) (Or.inl ⟨by kernel_rfl, fun W => by go_simp⟩) ?_
      refine wpAny_takeD (i := 10) (d := 15) (v := .bool true) rfl (by kernel_rfl) (by kernel_rfl) (by kernel_rfl) (by kernel_rfl) (fun _ _ _ h => h) (Or.inl ⟨by kernel_rfl, fun W => by go_simp⟩) ?_
      refine wpAny_takeD (i := 11) (d := 16) (v := undef) rfl (by kernel_rfl) (by kernel_rfl) (by kernel_rfl) (by kernel_rfl) (fun _ _ _ h => h) (Or.inr ⟨by kernel_rfl, rfl⟩) ?_
      refine wpAny_takeD (i := 12) (d := 17) (v := undef) rfl (by kernel_rfl) (by kernel_rfl) (by kernel_rfl) (by kernel_rfl) (fun _ _ _ h => h) (Or.inr ⟨by kernel_rfl, rfl⟩) ?_
      refine wpAny_takeD (i := 13) (d := 18) (v := undef) rfl (by kernel_rfl) (by kernel_rfl) (by kernel_rfl) (by kernel_rfl) (fun _ _ _ h => h) (Or.inr ⟨by kernel_rfl, rfl⟩) ?_
      refine wpAny_takeD (i := 14) (d := 19) (v := undef) rfl (by kernel_rfl) (by kernel_rfl) (by kernel_rfl) (by kernel_rfl) (fun _ _ _ h => h) (Or.inr ⟨by kernel_rfl, rfl⟩) ?_
      refine wpAny_takeD (i := 15) (d := 20) (v := undef) rfl (by kernel_rfl) (by kernel_rfl) (by kernel_rfl) (by kernel_rfl) (fun _ _ _ h => h) (Or.inr ⟨by kernel_rfl, rfl⟩) ?_
      refine wpAny_takeD (i := 16) (d := 21) (v := .bool true) rfl (by kernel_rfl) (by kernel_rfl) (by kernel_rfl) (by kernel_rfl) (fun _ _ _ h => h) (Or.inl ⟨by kernel_rfl, fun W => by go_simp⟩) ?_
      refine wpAny_done (by kernel_rfl) ?_ _
      go_step
      go_simp
      go_wp2_with fail
      have hb1 := HBD.out.no (fun k => by have h := k.odd; have h2 := HzE.out.1 rfl; omega)
      go_ret
      exact ⟨by rw [hb1]; rfl, HD3.out.be⟩
end Go.Proofs.Ytjpfcdgaepdcdaa

/- Several texts in one; each begins with a remark that says what it shows and on which conditions. -/
import Derived.Test.YtjpfcdgaepdcdaaGreatKbj
import Derived.Test.YtjpfcdgaepdcdaaGreatKbk
import Derived.Test.YtjpfcdgaepdcdaaGreatKbh
import Derived.Maps.AppendAt
import Derived.WalkKit
import Derived.Lib.Hide
import Derived.Deep.Draws
import Derived.Sort.Grow
import Derived.Sort.AssemblyPlain
import Derived.Test.YtjpfcdgaepdcdaaGreatProg
import Derived.Deep.QuietTactic
import Derived.CellFam
import Derived.BigGuard
import Derived.BigCall
import Derived.BigQuiet
/- pratt's decides, walked. Conditions: as typed. -/
namespace Go.Proofs.YtjpfcdgaepdcdaaGreat
open Go.RowKit
set_option maxRecDepth 20000
theorem RdNat.in12 {w : World} {A : Option Addr} {n c : Nat} {l : List Nat} (h : RdNat w w.heap.size (.slice A n c) l) (hl : l.length ≤ 40) : NatIn w A n c (natOf l) := by
  obtain ⟨A2, c2, e, h2⟩ := h.in11 hl
  injection e with e1 e2 e3
  subst e1 e2 e3
  exact h2
theorem RdNat.is12 {w : World} {A : Option Addr} {n c : Nat} {l : List Nat} (h : RdNat w w.heap.size (.slice A n c) l) (hl : l.length ≤ 40) (ho : OkNat l) : NatIs w A n c (natOf l) := by
  obtain ⟨A2, c2, e, h2⟩ := h.is11 hl ho
  injection e with e1 e2 e3
  subst e1 e2 e3
  exact h2
/-- What a step must be besides its primes' being shown. -/
structure Decide (s : SRaw) : Prop where
  okP : OkNat s.P
  okG : OkNat s.G
  odd : natOf s.P % 2 = 1
  three : 3 ≤ natOf s.P
  one : natOf s.G ≠ 0
  less : natOf s.G < natOf s.P
  prod : IsProd (natOf s.P - 1) (s.Q.map natOf)
  around : Around (natOf s.G) (natOf s.P) (natOf s.P - 1) (s.Q.map natOf)
def ParFlag (z : Bool) (p : Nat) : Prop := (z = true → p % 2 = 0) ∧ (z = false → p % 2 = 1)
def Low3Flag (z : Bool) (p : Nat) : Prop := (z = true → p < 3) ∧ (z = false → 3 ≤ p)
def OkFlag (z : Bool) (l : List Nat) : Prop := z = true ↔ OkNat l
def ProdFlag (z : Bool) (N : Nat) (Q : List Nat) : Prop := z = true ↔ IsProd N Q
def DecFlag (b : Bool) (s : SRaw) : Prop := b = true ↔ Decide s
theorem DecFlag.no {b : Bool} {s : SRaw} (h : DecFlag b s) (k : Decide s → False) : b = false := by
  cases hq : b with
  | false => rfl
  | true => exact (k (h.1 hq)).elim
/-- The world while a step is looked at. -/
structure DecAt (w0 u : World) (g : Nat) (vP vG vQ : Value) (s : SRaw) : Prop where
  box : StepBox u g vP vG vQ
  rP : RdNat u u.heap.size vP s.P
  rG : RdNat u u.heap.size vG s.G
  rQ : RdQ u u.heap.size vQ s.Q
  be : Below w0.heap.size w0 u
theorem DecAt.step {w0 u u' : World} {g : Nat} {vP vG vQ : Value} {s : SRaw} (h : DecAt w0 u g vP vG vQ s) (b : Below u.heap.size u u') : DecAt w0 u' g vP vG vQ s :=
  ⟨h.box.below b, h.rP.step11 b, h.rG.step11 b, h.rQ.step11 b, below_step h.be b⟩
theorem bit0_even11 {p : Nat} (h : p % 2 = 0) : bitS p 0 = 0 := by
  unfold bitS
  rw [if_neg (by omega)]
  show bit p 0 = 0
  unfold bit
  simp; omega
theorem bit0_odd11 {p : Nat} (h : p % 2 = 1) : bitS p 0 = 1 := by
  unfold bitS
  rw [if_neg (by omega)]
  show bit p 0 = 1
  unfold bit
  simp; omega
set_option maxHeartbeats 8000000 in
theorem decides11 {w : World} {AP AG AQ : Option Addr} {nP cP nG cG nQ cQ : Nat} {s : SRaw} (rP : RdNat w w.heap.size (.slice AP nP cP) s.P) (rG : RdNat w w.heap.size (.slice AG nG cG) s.G) (rQ : RdQ w w.heap.size (.slice AQ nQ cQ) s.Q) (hf : FewOne s) (hR : Rising s.Q) (b : Bool) (hb : DecFlag b s) :
    Calls Tryz.prog 25 #[.agg #[.slice AP nP cP, .slice AG nG cG, .slice AQ nQ cQ]] w fun e w' => e = .returned (.bool b) ∧ Below w.heap.size w w' := by
  obtain ⟨W0, hW0⟩ : ∃ W0, w.alloc (.cells #[.slice AP nP cP, .slice AG nG cG, .slice AQ nQ cQ] 37) = W0 := ⟨_, rfl⟩
  obtain ⟨W1, hW1⟩ : ∃ W1, W0.drew = W1 := ⟨_, rfl⟩
  obtain ⟨g, hg⟩ : ∃ g, w.heap.size = g := ⟨_, rfl⟩
  have hb0 : Below w.heap.size w W0 := by rw [← hW0]; exact (Below.refl _ w).alloc (Nat.le_refl _) _
  have hD0 : DecAt w W0 g (.slice AP nP cP) (.slice AG nG cG) (.slice AQ nQ cQ) s :=
    ⟨by rw [← hW0, ← hg]; exact StepBox.new _ _ _ _ _, rP.step11 hb0, rG.step11 hb0, rQ.step11 hb0, hb0⟩
  have hD1 : DecAt w W1 g (.slice AP nP cP) (.slice AG nG cG) (.slice AQ nQ cQ) s := by rw [← hW1]; exact hD0.step (Drawn.more 1).below11
  have k0 := hD1.box.cP
  have HBD := Lib.hid hb
  have HRi := Lib.hid hR
  have HF := Lib.hid hf
  have HO := Lib.hid fun (u : World) (x : Nat) (hx : x < 18446744073709551616) => bOf u x hx
  obtain ⟨bP, hbP⟩ := some_flag11 (OkNat s.P)
  obtain ⟨bG, hbG⟩ := some_flag11 (OkNat s.G)
  have CFP := Lib.hid fun (u : World) (h : Hid (DecAt w u g (.slice AP nP cP) (.slice AG nG cG) (.slice AQ nQ cQ) s)) => fits11 h.out.rP HF.out.2.1 bP hbP
  have CFG := Lib.hid fun (u : World) (h : Hid (DecAt w u g (.slice AP nP cP) (.slice AG nG cG) (.slice AQ nQ cQ) s)) => fits11 h.out.rG HF.out.2.2.1 bG hbG
  have HbP := Lib.hid (show OkFlag bP s.P from hbP)
  have HbG := Lib.hid (show OkFlag bG s.G from hbG)
  have C1 := Lib.hid (CFP.out W1 (Lib.hid hD1))
  have HD1 := Lib.hid hD1
  clear hb0 hD0 hD1 rP rG rQ hf hR hb hbP hbG
  go_enter Tryz.func25, Tryz.ntmps25
  go_wp2_with fail
  refine wp_region_any (by kernel_rfl) ?_
  change wpAny _ _ _ _ _ _ _ W0.drew
  rw [hW1]
  clear hW1 hW0 hg
  refine wpAny_takeD (i := 0) (d := 5) (v := .pointer (some ⟨g, 0, none⟩)) rfl (by kernel_rfl) (by kernel_rfl) (by kernel_rfl) (by kernel_rfl) (fun _ _ _ h => h) (Or.inl ⟨by kernel_rfl, fun W => by go_simp⟩) ?_
  refine wpAny_ready (rs := [1]) (by kernel_rfl) (by simp) (AllReady.cons rfl (fun K hK => ?_) AllReady.nil)
  go_simp
  refine hK _ _ ?_
  clear hK K
  refine wpAny_ready (rs := [2]) (by kernel_rfl) (by simp) (AllReady.cons rfl (fun K hK => ?_) AllReady.nil)
  go_simp
  refine (C1.out).mono ?_
  rintro e u1 ⟨rfl, b1⟩
  have HD2 := Lib.hid (HD1.out.step b1)
  have k1 := HD2.out.box.cP
  clear b1 C1 k0
  go_wp2_with fail
  cases bP
  · refine wpAny_takeD (i := 3) (d := 8) (v := .bool true) rfl (by kernel_rfl) (by kernel_rfl) (by kernel_rfl) (by kernel_rfl) (fun _ _ _ h => h) (Or.inl ⟨by kernel_rfl, fun W => by go_simp⟩) ?_
    refine wpAny_takeD (i := 4) (d := 9) (v := .bool true) rfl (by kernel_rfl) (by kernel_rfl) (by kernel_rfl) (by kernel_rfl) (fun _ _ _ h => h) (Or.inl ⟨by kernel_rfl, fun W => by go_simp⟩) ?_
    refine wpAny_takeD (i := 5) (d := 10) (v := undef) rfl (by kernel_rfl) (by kernel_rfl) (by kernel_rfl) (by kernel_rfl) (fun _ _ _ h => h) (Or.inr ⟨by kernel_rfl, rfl⟩) ?_
    refine wpAny_takeD (i := 6) (d := 11) (v := undef) rfl (by kernel_rfl) (by kernel_rfl) (by kernel_rfl) (by kernel_rfl) (fun _ _ _ h => h) (Or.inr ⟨by kernel_rfl, rfl⟩) ?_
    refine wpAny_takeD (i := 7) (d := 12) (v := undef) rfl (by kernel_rfl) (by kernel_rfl) (by kernel_rfl) (by kernel_rfl) (fun _ _ _ h => h) (Or.inr ⟨by kernel_rfl, rfl⟩) ?_
    refine wpAny_takeD (i := 8) (d := 13) (v := undef) rfl (by kernel_rfl) (by kernel_rfl) (by kernel_rfl) (by kernel_rfl) (fun _ _ _ h => h) (Or.inr ⟨by kernel_rfl, rfl⟩) ?_
    refine wpAny_takeD (i := 9) (d := 14) (v := .bool true) rfl (by kernel_rfl) (by kernel_rfl) (by kernel_rfl) (by kernel_rfl) (fun _ _ _ h => h) (Or.inl ⟨by kernel_rfl, fun W => by go_simp⟩) ?_
    refine wpAny_takeD (i := 10) (d := 15) (v := .bool true) rfl (by kernel_rfl) (by kernel_rfl) (by kernel_rfl) (by kernel_rfl) (fun _ _ _ h => h) (Or.inl ⟨by kernel_rfl, fun W => by go_simp⟩) ?_
    refine wpAny_takeD (i := 11) (d := 16) (v := undef) rfl (by kernel_rfl) (by kernel_rfl) (by kernel_rfl) (by kernel_rfl) (fun _ _ _ h => h) (Or.inr ⟨by kernel_rfl, rfl⟩) ?_
    refine wpAny_takeD (i := 12) (d := 17) (v := undef) rfl (by kernel_rfl) (by kernel_rfl) (by kernel_rfl) (by kernel_rfl) (fun _ _ _ h => h) (Or.inr ⟨by kernel_rfl, rfl⟩) ?_
    refine wpAny_takeD (i := 13) (d := 18) (v := undef) rfl (by kernel_rfl) (by kernel_rfl) (by kernel_rfl) (by kernel_rfl) (fun _ _ _ h => h) (Or.inr ⟨by kernel_rfl, rfl⟩) ?_
    refine wpAny_takeD (i := 14) (d := 19) (v := undef) rfl (by kernel_rfl) (by kernel_rfl) (by kernel_rfl) (by kernel_rfl) (fun _ _ _ h => h) (Or.inr ⟨by kernel_rfl, rfl⟩) ?_
    refine wpAny_takeD (i := 15) (d := 20) (v := undef) rfl (by kernel_rfl) (by kernel_rfl) (by kernel_rfl) (by kernel_rfl) (fun _ _ _ h => h) (Or.inr ⟨by kernel_rfl, rfl⟩) ?_
    refine wpAny_takeD (i := 16) (d := 21) (v := .bool true) rfl (by kernel_rfl) (by kernel_rfl) (by kernel_rfl) (by kernel_rfl) (fun _ _ _ h => h) (Or.inl ⟨by kernel_rfl, fun W => by go_simp⟩) ?_
    refine wpAny_done (by kernel_rfl) ?_ _
    go_step
    go_simp
    go_wp2_with fail
    have hb1 := HBD.out.no (fun k => by have h := HbP.out.2 k.okP; cases h)
    go_ret
    exact ⟨by rw [hb1]; rfl, HD2.out.be⟩
  · refine wpAny_takeD (i := 3) (d := 8) (v := .bool false) rfl (by kernel_rfl) (by kernel_rfl) (by kernel_rfl) (by kernel_rfl) (fun _ _ _ h => h) (Or.inl ⟨by kernel_rfl, fun W => by go_simp⟩) ?_
    refine wpAny_takeD (i := 4) (d := 9) (v := .bool false) rfl (by kernel_rfl) (by kernel_rfl) (by kernel_rfl) (by kernel_rfl) (fun _ _ _ h => h) (Or.inl ⟨by kernel_rfl, fun W => by go_simp⟩) ?_
    refine wpAny_takeD (i := 5) (d := 10) (v := .pointer (some ⟨g, 0, none⟩)) rfl (by kernel_rfl) (by kernel_rfl) (by kernel_rfl) (by kernel_rfl) (fun _ _ _ h => h) (Or.inl ⟨by kernel_rfl, fun W => by go_simp⟩) ?_
    refine wpAny_ready (rs := [6]) (by kernel_rfl) (by simp) (AllReady.cons rfl (fun K hK => ?_) AllReady.nil)
    go_simp
    refine hK _ _ ?_
    clear hK K
    have hokP := HbP.out.1 rfl
    have HokP := Lib.hid hokP
    obtain ⟨t, ht⟩ : ∃ t, bitS (natOf s.P) 0 = t := ⟨_, rfl⟩
    have C2 := bBit (HD2.out.rP.in12 HF.out.2.1) 0 (by unfold MaxI; omega)
    rw [ht] at C2
    have C2 := Lib.hid C2
    obtain ⟨zE, hzE⟩ : ∃ z : Bool, ((t : Int) == 0) = z := ⟨_, rfl⟩
    have HzE := Lib.hid (show ParFlag zE (natOf s.P) from by
      rcases Nat.mod_two_eq_zero_or_one (natOf s.P) with h | h
      · rw [bit0_even11 h] at ht
        subst ht hzE
        exact ⟨fun _ => h, fun h2 => by simp at h2⟩
      · rw [bit0_odd11 h] at ht
        subst ht hzE
        exact ⟨fun h2 => by simp at h2, fun _ => h⟩)
    clear hokP ht
    refine wpAny_ready (rs := [7]) (by kernel_rfl) (by simp) (AllReady.cons rfl (fun K hK => ?_) AllReady.nil)
    go_simp
    refine (C2.out).mono ?_
    rintro e u2 ⟨rfl, b2⟩
    have HD3 := Lib.hid (HD2.out.step b2)
    have k2 := HD3.out.box.cP
    clear b2 C2 k1
    go_wp2_with fail
    refine wpAny_takeD (i := 8) (d := 13) (v := .bool zE) rfl (by kernel_rfl) (by kernel_rfl) (by kernel_rfl) (by kernel_rfl) (fun _ _ _ h => h) (Or.inl ⟨by kernel_rfl, fun W => by go_simp⟩) ?_
    clear hzE
    cases zE
    · refine wpAny_takeD (i := 9) (d := 14) (v := .bool false) rfl (by kernel_rfl) (by kernel_rfl) (by kernel_rfl) (by kernel_rfl) (fun _ _ _ h => h) (Or.inl ⟨by kernel_rfl, fun W => by go_simp⟩) ?_
      refine wpAny_takeD (i := 10) (d := 15) (v := .bool false) rfl (by kernel_rfl) (by kernel_rfl) (by kernel_rfl) (by kernel_rfl) (fun _ _ _ h => h) (Or.inl ⟨by kernel_rfl, fun W => by go_simp⟩) ?_
      refine wpAny_takeD (i := 11) (d := 16) (v := .pointer (some ⟨g, 0, none⟩)) rfl (by kernel_rfl) (by kernel_rfl) (by kernel_rfl) (by kernel_rfl) (fun _ _ _ h => h) (Or.inl ⟨by kernel_rfl, fun W => by go_simp⟩) ?_
      refine wpAny_two11 (fun u => u.cell? ⟨g, 0, none⟩ = some (.slice AP nP cP)) (i := 12) (j := 13) (d := 17) (v := .slice AP nP cP) rfl rfl rfl (by kernel_rfl) (by kernel_rfl) (by kernel_rfl) (by kernel_rfl) (by kernel_rfl) (by kernel_rfl) (fun c h => by cases h) (by rfl) (fun _ _ _ h => h) (by kernel_rfl) (fun W hW => by go_simp) (k2) ?_
      refine wpOp_step rfl (fun K hK => ?_)
      go_simp
      refine (HO.out u2 3 (by omega)).mono ?_
      rintro e u3 ⟨Y3, r3, f3, rfl, S3, _, b3⟩
      have HD4 := Lib.hid (HD3.out.step b3)
      have HS3 := Lib.hid S3
      have k3 := HD4.out.box.cP
      clear S3 b3 k2
      refine hK _ _ ⟨?_, k3⟩
      clear hK K
      obtain ⟨x, hx⟩ : ∃ x, cmpS (natOf s.P) 3 = x := ⟨_, rfl⟩
      obtain ⟨zL, hzL⟩ : ∃ z : Bool, decide (x < 0) = z := ⟨_, rfl⟩
      have HzL := Lib.hid (show Low3Flag zL (natOf s.P) from by
        unfold cmpS at hx
        subst hzL
        rcases Nat.lt_or_ge (natOf s.P) 3 with h | h
        · rw [if_pos h] at hx; subst hx
          exact ⟨fun _ => h, fun h2 => by simp at h2⟩
        · rw [if_neg (by omega)] at hx
          refine ⟨fun h2 => ?_, fun _ => h⟩
          have h3 := of_decide_eq_true h2
          split at hx <;> omega)
      have C4 := bCmp (HD4.out.rP.in12 HF.out.2.1) HS3.out.in_
      rw [hx] at C4
      have C4 := Lib.hid C4
      clear hx
      refine wpAny_ready (rs := [14]) (by kernel_rfl) (by simp) (AllReady.cons rfl (fun K hK => ?_) AllReady.nil)
      go_simp
      refine (C4.out).mono ?_
      rintro e u4 ⟨rfl, b4⟩
      have HD5 := Lib.hid (HD4.out.step b4)
      have k4 := HD5.out.box.cG
      clear b4 C4 k3 HS3
      go_wp2_with fail
      refine wpAny_takeD (i := 15) (d := 20) (v := .bool zL) rfl (by kernel_rfl) (by kernel_rfl) (by kernel_rfl) (by kernel_rfl) (fun _ _ _ h => h) (Or.inl ⟨by kernel_rfl, fun W => by go_simp⟩) ?_
      clear hzL
      cases zL
      · refine wpAny_takeD (i := 16) (d := 21) (v := .bool false) rfl (by kernel_rfl) (by kernel_rfl) (by kernel_rfl) (by kernel_rfl) (fun _ _ _ h => h) (Or.inl ⟨by kernel_rfl, fun W => by go_simp⟩) ?_
        have C5 := Lib.hid (CFG.out u4 HD5)
        refine wpAny_done (by kernel_rfl) ?_ _
        go_step
        go_simp
        go_wp2_with fail
        refine (C5.out).mono ?_
        rintro e u5 ⟨rfl, b5⟩
        have HD6 := Lib.hid (HD5.out.step b5)
        have k5 := HD6.out.box.cG
        clear b5 C5 k4
        cases bG
        · go_wp2_with fail
          have hb1 := HBD.out.no (fun k => by have h := HbG.out.2 k.okG; cases h)
          go_ret
          exact ⟨by rw [hb1]; rfl, HD6.out.be⟩
        · have HokG := Lib.hid (HbG.out.1 rfl)
          obtain ⟨t2, ht2⟩ : ∃ t, nbits (natOf s.G) = t := ⟨_, rfl⟩
          have C6 := bBits (HD6.out.rG.in12 HF.out.2.2.1)
          rw [ht2] at C6
          have C6 := Lib.hid C6
          go_wp2_with fail
          refine (C6.out).mono ?_
          rintro e u6 ⟨rfl, b6⟩
          have HD7 := Lib.hid (HD6.out.step b6)
          have k6 := HD7.out.box.cG
          have k6P := HD7.out.box.cP
          clear b6 C6 k5
          by_cases hG0 : natOf s.G = 0
          · have h2 : ((t2 : Int) == 0) = true := by rw [hG0, nbits_zero] at ht2; subst ht2; rfl
            clear ht2
            go_wp2_with fail
            have hb1 := HBD.out.no (fun k => k.one hG0)
            go_ret
            exact ⟨by rw [hb1]; rfl, HD7.out.be⟩
          · have h2 : ((t2 : Int) == 0) = false := by have h := (nbits_iff (natOf s.G)).2 hG0; rw [ht2] at h; simp; omega
            clear ht2
            obtain ⟨x2, hx2⟩ : ∃ x, cmpS (natOf s.G) (natOf s.P) = x := ⟨_, rfl⟩
            have C7 := bCmp (HD7.out.rG.in12 HF.out.2.2.1) (HD7.out.rP.in12 HF.out.2.1)
            rw [hx2] at C7
            have C7 := Lib.hid C7
            have HG0 := Lib.hid hG0
            clear hG0
            go_wp2_with fail
            refine (C7.out).mono ?_
            rintro e u7 ⟨rfl, b7⟩
            have HD8 := Lib.hid (HD7.out.step b7)
            clear b7 C7 k6 k6P h2
            by_cases hGP : natOf s.G < natOf s.P
            · have h3 : decide ((0 : Int) ≤ x2) = false := by unfold cmpS at hx2; rw [if_pos hGP] at hx2; subst hx2; rfl
              have HGP := Lib.hid hGP
              have HP1 := Lib.hid (show natOf s.P ≠ 0 ∧ natOf s.P - 1 ≠ 0 ∧ 1 ≤ natOf s.P from by have h3 := HzL.out.2 rfl; omega)
              obtain ⟨V1, hV1⟩ : ∃ V, u7.drew = V := ⟨_, rfl⟩
              have HD9 := Lib.hid (show DecAt w V1 g (.slice AP nP cP) (.slice AG nG cG) (.slice AQ nQ cQ) s by rw [← hV1]; exact HD8.out.step (Drawn.more 1).below11)
              have k9 := HD9.out.box.cP
              clear hx2 hGP HD8
              go_wp2_with fail
              refine wp_region_any (by kernel_rfl) ?_
              change wpAny _ _ _ _ _ _ _ u7.drew
              rw [hV1]
              clear hV1 h3
              refine wpAny_takeD (i := 0) (d := 41) (v := .pointer (some ⟨g, 0, none⟩)) rfl (by kernel_rfl) (by kernel_rfl) (by kernel_rfl) (by kernel_rfl) (fun _ _ _ h => h) (Or.inl ⟨by kernel_rfl, fun W => by go_simp⟩) ?_
              refine wpAny_two11 (fun u => u.cell? ⟨g, 0, none⟩ = some (.slice AP nP cP)) (i := 1) (j := 2) (d := 42) (v := .slice AP nP cP) rfl rfl rfl (by kernel_rfl) (by kernel_rfl) (by kernel_rfl) (by kernel_rfl) (by kernel_rfl) (by kernel_rfl) (fun c h => by cases h) (by rfl) (fun _ _ _ h => h) (by kernel_rfl) (fun W hW => by go_simp) (k9) ?_
              refine wpOp_step rfl (fun K hK => ?_)
              go_simp
              refine (HO.out V1 1 (by omega)).mono ?_
              rintro e v2 ⟨Y2, r2, f2, rfl, S2, _, b2⟩
              have HDa := Lib.hid (HD9.out.step b2)
              have HS2 := Lib.hid S2
              have ka := HDa.out.box.cP
              clear S2 b2 k9
              refine hK _ _ ⟨?_, ka⟩
              clear hK K ka
              have C8 := Lib.hid (bSub_yes (HDa.out.rP.is12 HF.out.2.1 HokP.out).in_ HS2.out.in_ HP1.out.2.2)
              refine wpAny_ready (rs := [3]) (by kernel_rfl) (by simp) (AllReady.cons rfl (fun K hK => ?_) AllReady.nil)
              go_simp
              refine (C8.out).mono ?_
              rintro e v3 ⟨Y3, r3, f3, rfl, S3, _, b3⟩
              have HDb := Lib.hid (HDa.out.step b3)
              have HS3 := Lib.hid S3
              clear S3 b3 C8 HS2
              go_wp2_with fail
              refine wpAny_takeD (i := 4) (d := 40) (v := .tuple #[.slice Y3 r3 f3, .bool true]) rfl (by kernel_rfl) (by kernel_rfl) (by kernel_rfl) (by kernel_rfl) (fun _ _ _ h => h) (Or.inl ⟨by kernel_rfl, fun W => by go_simp⟩) ?_
              refine wpAny_takeD (i := 5) (d := 45) (v := .slice Y3 r3 f3) rfl (by kernel_rfl) (by kernel_rfl) (by kernel_rfl) (by kernel_rfl) (fun _ _ _ h => h) (Or.inl ⟨by kernel_rfl, fun W => by go_simp⟩) ?_
              refine wpAny_takeD (i := 6) (d := 46) (v := .bool true) rfl (by kernel_rfl) (by kernel_rfl) (by kernel_rfl) (by kernel_rfl) (fun _ _ _ h => h) (Or.inl ⟨by kernel_rfl, fun W => by go_simp⟩) ?_
              refine wpAny_takeD (i := 7) (d := 3) (v := .slice Y3 r3 f3) rfl (by kernel_rfl) (by kernel_rfl) (by kernel_rfl) (by kernel_rfl) (fun _ _ _ h => h) (Or.inl ⟨by kernel_rfl, fun W => by go_simp⟩) ?_
              refine wpAny_takeD (i := 8) (d := 4) (v := .bool true) rfl (by kernel_rfl) (by kernel_rfl) (by kernel_rfl) (by kernel_rfl) (fun _ _ _ h => h) (Or.inl ⟨by kernel_rfl, fun W => by go_simp⟩) ?_
              have hNl : nbits (natOf s.P - 1) ≤ 1024 := Nat.le_trans (nbits_mono (Nat.sub_le _ _)) HokP.out.2
              have kQ := HDb.out.box.cQ
              obtain ⟨bI, hbI⟩ := some_flag11 (IsProd (natOf s.P - 1) (s.Q.map natOf))
              have C9 := Lib.hid (isProduct11 HS3.out (Nat.pos_of_ne_zero HP1.out.2.1) hNl HDb.out.rQ HRi.out bI hbI)
              have HNl := Lib.hid hNl
              have HbI := Lib.hid (show ProdFlag bI (natOf s.P - 1) (s.Q.map natOf) from hbI)
              clear hNl hbI
              refine wpAny_done (by kernel_rfl) ?_ _
              go_step
              go_simp
              go_wp2_with fail
              refine (C9.out).mono ?_
              rintro e v4 ⟨rfl, b4⟩
              have HDc := Lib.hid (HDb.out.step b4)
              have HS4 := Lib.hid (HS3.out.step b4)
              have kP4 := HDc.out.box.cP
              have kG4 := HDc.out.box.cG
              have kQ4 := HDc.out.box.cQ
              clear b4 C9 HS3 kQ
              cases bI
              · go_wp2_with fail
                have hb1 := HBD.out.no (fun k => by have h := HbI.out.2 k.prod; cases h)
                go_ret
                exact ⟨by rw [hb1]; rfl, HDc.out.be⟩
              · have Ca := Lib.hid (goesAround11 HS4.out (HDc.out.rP.is12 HF.out.2.1 HokP.out) (HDc.out.rG.is12 HF.out.2.2.1 HokG.out) HDc.out.rQ HP1.out.1 HokP.out.2 HokG.out.2 HNl.out (fun q hq => ⟨HRi.out.ok q hq, HRi.out.short q hq, by have := (HRi.out.prm q hq).1; omega⟩) b
                  (HBD.out.trans ⟨fun k => k.around, fun k => ⟨HokP.out, HokG.out, HzE.out.2 rfl, HzL.out.2 rfl, HG0.out, HGP.out, HbI.out.1 rfl, k⟩⟩))
                go_wp2_with fail
                refine (Ca.out).mono ?_
                rintro e v5 ⟨rfl, b5⟩
                have HDd := Lib.hid (HDc.out.step b5)
                clear b5
                go_wp2_with fail
                go_ret
                exact ⟨rfl, HDd.out.be⟩
            · have h3 : decide ((0 : Int) ≤ x2) = true := by
                unfold cmpS at hx2
                rw [if_neg hGP] at hx2
                split at hx2 <;> subst hx2 <;> rfl
              clear hx2
              go_wp2_with fail
              have hb1 := HBD.out.no (fun k => hGP k.less)
              go_ret
              exact ⟨by rw [hb1]; rfl, HD8.out.be⟩
      · refine wpAny_takeD (i := 16) (d := 21) (v := .bool true) rfl (by kernel_rfl) (by kernel_rfl) (by kernel_rfl) (by kernel_rfl) (fun _ _ _ h => h) (Or.inl ⟨by kernel_rfl, fun W => by go_simp⟩) ?_
        refine wpAny_done (by kernel_rfl) ?_ _
        go_step
        go_simp
        go_wp2_with fail
        have hb1 := HBD.out.no (fun k => by have h := k.three; have h2 := HzL.out.1 rfl; omega)
        go_ret
        exact ⟨by rw [hb1]; rfl, HD5.out.be⟩
    · refine wpAny_takeD (i := 9) (d := 14) (v := .bool true) rfl (by kernel_rfl) (by kernel_rfl) (by kernel_rfl) (by kernel_rfl) (fun _ _ _ h => h) (Or.inl ⟨by kernel_rfl, fun W => by go_simp⟩) ?_
      refine wpAny_takeD (i := 10) (d := 15) (v := .bool true) rfl (by kernel_rfl) (by kernel_rfl) (by kernel_rfl) (by kernel_rfl) (fun _ _ _ h => h) (Or.inl ⟨by kernel_rfl, fun W => by go_simp⟩) ?_
      refine wpAny_takeD (i := 11) (d := 16) (v := undef) rfl (by kernel_rfl) (by kernel_rfl) (by kernel_rfl) (by kernel_rfl) (fun _ _ _ h => h) (Or.inr ⟨by kernel_rfl, rfl⟩) ?_
      refine wpAny_takeD (i := 12) (d := 17) (v := undef) rfl (by kernel_rfl) (by kernel_rfl) (by kernel_rfl) (by kernel_rfl) (fun _ _ _ h => h) (Or.inr ⟨by kernel_rfl, rfl⟩) ?_
      refine wpAny_takeD (i := 13) (d := 18) (v := undef) rfl (by kernel_rfl) (by kernel_rfl) (by kernel_rfl) (by kernel_rfl) (fun _ _ _ h => h) (Or.inr ⟨by kernel_rfl, rfl⟩) ?_
      refine wpAny_takeD (i := 14) (d := 19) (v := undef) rfl (by kernel_rfl) (by kernel_rfl) (by kernel_rfl) (by kernel_rfl) (fun _ _ _ h => h) (Or.inr ⟨by kernel_rfl, rfl⟩) ?_
      refine wpAny_takeD (i := 15) (d := 20) (v := undef) rfl (by kernel_rfl) (by kernel_rfl) (by kernel_rfl) (by kernel_rfl) (fun _ _ _ h => h) (Or.inr ⟨by kernel_rfl, rfl⟩) ?_
      refine wpAny_takeD (i := 16) (d := 21) (v := .bool true) rfl (by kernel_rfl) (by kernel_rfl) (by kernel_rfl) (by kernel_rfl) (fun _ _ _ h => h) (Or.inl ⟨by kernel_rfl, fun W => by go_simp⟩) ?_
      refine wpAny_done (by kernel_rfl) ?_ _
      go_step
      go_simp
      go_wp2_with fail
      have hb1 := HBD.out.no (fun k => by have h := k.odd; have h2 := HzE.out.1 rfl; omega)
      go_ret
      exact ⟨by rw [hb1]; rfl, HD3.out.be⟩
end Go.Proofs.YtjpfcdgaepdcdaaGreat
/- pratt's Check$1 (does a step hold?), walked. Conditions: as typed; what was shown ahead are primes. -/
namespace Go.Proofs.YtjpfcdgaepdcdaaGreat
open Go.RowKit
set_option maxRecDepth 20000
/-- The world while a step is held against what was shown. -/
structure HoldAt (w0 u : World) (g gB B nm : Nat) (la : List Nat) (vP vG vQ : Value) (s : SRaw) : Prop where
  dec : DecAt w0 u g vP vG vQ s
  cM : u.cell? ⟨gB, 0, none⟩ = some (.map (some B))
  lt : gB < u.heap.size
  sh : ShownAt u B nm la
theorem HoldAt.step {w0 u u' : World} {g gB B nm : Nat} {la : List Nat} {vP vG vQ : Value} {s : SRaw} (h : HoldAt w0 u g gB B nm la vP vG vQ s) (b : Below u.heap.size u u') : HoldAt w0 u' g gB B nm la vP vG vQ s :=
  ⟨h.dec.step b, (b.cell (p := ⟨gB, 0, none⟩) h.lt).trans h.cM, Nat.lt_of_lt_of_le h.lt b.size, h.sh.below b⟩
def WFlag (b : Bool) (s : SRaw) (la : List Nat) : Prop := b = true ↔ (OkRaw s ∧ StepOk (toN s) la)
theorem WFlag.no {b : Bool} {s : SRaw} {la : List Nat} (h : WFlag b s la) (k : OkRaw s → StepOk (toN s) la → False) : b = false := by
  cases hq : b with
  | false => rfl
  | true => exact (k (h.1 hq).1 (h.1 hq).2).elim
/-- A number that was shown. -/
def Known (q : Nat) : Prop := q < 65536 ∧ Prm q
def KnownFlag (z : Bool) (q : Nat) : Prop := z = true ↔ Known q
def InFlag (z : Bool) (q : Nat) (la : List Nat) : Prop := z = true ↔ q ∈ la
def RiseFlag (z : Bool) (p q : Nat) : Prop := (z = true → ¬ p < q) ∧ (z = false → p < q)
/-- The first so many numbers are right. -/
structure HoldMid (ms : List (List Nat)) (la : List Nat) (j : Nat) : Prop where
  ok : ∀ q ∈ ms.take j, OkNat q
  shown : ∀ q ∈ ms.take j, Known (natOf q) ∨ natOf q ∈ la
  rise : ((ms.take j).map natOf).Pairwise (· < ·)
theorem HoldMid.start (ms : List (List Nat)) (la : List Nat) : HoldMid ms la 0 := ⟨by simp, by simp, by simp⟩
theorem HoldMid.next {ms : List (List Nat)} {la : List Nat} {j : Nat} (h : HoldMid ms la j) (hj : j < ms.length) (ho : OkNat ms[j]) (hs : Known (natOf ms[j]) ∨ natOf ms[j] ∈ la) (hr : ∀ i (hi : i < ms.length), i + 1 = j → natOf ms[i] < natOf ms[j]) : HoldMid ms la (j + 1) := by
  have hall : ∀ {p : List Nat → Prop}, (∀ x ∈ ms.take j, p x) → p ms[j] → ∀ x ∈ ms.take (j + 1), p x := fun h1 h2 x hx => by
    rw [List.take_succ_eq_append_getElem hj] at hx
    rcases List.mem_append.1 hx with h3 | h3
    · exact h1 x h3
    · rw [List.mem_singleton.1 h3]; exact h2
  refine ⟨hall h.ok ho, hall h.shown hs, ?_⟩
  rw [List.take_succ_eq_append_getElem hj, List.map_append]
  refine List.pairwise_append.2 ⟨h.rise, List.pairwise_singleton _ _, fun a ha b hb => ?_⟩
  rw [List.map_singleton, List.mem_singleton] at hb
  subst hb
  rcases j with _ | i
  · simp at ha
  · have hi : i < ms.length := by omega
    have h1 := hr i hi rfl
    have h2 := h.rise
    rw [List.take_succ_eq_append_getElem hi, List.map_append] at ha h2
    rcases List.mem_append.1 ha with h3 | h3
    · have := (List.pairwise_append.1 h2).2.2 a h3 (natOf ms[i]) (by simp)
      omega
    · rw [List.map_singleton, List.mem_singleton] at h3
      omega
theorem HoldMid.rising {s : SRaw} {la : List Nat} (h : HoldMid s.Q la s.Q.length) (hf : FewOne s) (hla : ∀ a ∈ la, Prm a) : Rising s.Q := by
  obtain ⟨h1, h2, h3⟩ := h
  rw [List.take_length] at h1 h2 h3
  exact ⟨h1, hf.2.2.2, fun q hq => (h2 q hq).elim (fun k => k.2) (fun k => hla _ k), h3⟩
theorem HoldMid.flag {b : Bool} {s : SRaw} {la : List Nat} (hb : WFlag b s la) (h : HoldMid s.Q la s.Q.length) : DecFlag b s := by
  obtain ⟨h1, h2, h3⟩ := h
  rw [List.take_length] at h1 h2 h3
  refine hb.trans ⟨fun ⟨ho, k⟩ => ⟨ho.1, ho.2.1, k.odd, k.three, ?_, k.less, ⟨k.parts, k.all⟩, ⟨k.whole, k.none⟩⟩, fun k => ⟨⟨k.okP, k.okG, h1⟩, ⟨k.odd, k.three, Nat.pos_of_ne_zero k.one, k.less, h3, fun q hq => ?_, k.prod.1, k.prod.2, k.around.1, k.around.2⟩⟩⟩
  · have := k.one
    show natOf s.G ≠ 0
    have h4 : 1 ≤ natOf s.G := this
    omega
  · obtain ⟨x, hx, rfl⟩ := List.mem_map.1 hq
    exact h2 x hx
theorem WFlag.no_ok {b : Bool} {s : SRaw} {la : List Nat} (h : WFlag b s la) {j : Nat} (hj : j < s.Q.length) (hn : ¬ OkNat s.Q[j]) : b = false := h.no fun ho _ => hn (ho.2.2 _ (List.getElem_mem hj))
theorem WFlag.no_shown {b : Bool} {s : SRaw} {la : List Nat} (h : WFlag b s la) {j : Nat} (hj : j < s.Q.length) (hn : ¬ Known (natOf s.Q[j])) (hn2 : natOf s.Q[j] ∉ la) : b = false := h.no fun _ k => by
  rcases k.shown (natOf s.Q[j]) (List.mem_map.2 ⟨_, List.getElem_mem hj, rfl⟩) with h1 | h1
  · exact hn h1
  · exact hn2 h1
theorem WFlag.no_rise {b : Bool} {s : SRaw} {la : List Nat} (h : WFlag b s la) {i : Nat} (hj : i + 1 < s.Q.length) (hn : ¬ natOf s.Q[i] < natOf s.Q[i + 1]) : b = false := h.no fun _ k => by
  have h1 := List.pairwise_iff_getElem.1 k.rise i (i + 1) (by simp [toN]; omega) (by simp [toN]; omega) (by omega)
  simp only [toN, List.getElem_map] at h1
  exact hn h1
set_option maxHeartbeats 16000000 in
theorem holds11 {w : World} {AP AG AQ : Option Addr} {nP cP nG cG cQ gB B nm m : Nat} {la : List Nat} {s : SRaw} (rP : RdNat w w.heap.size (.slice AP nP cP) s.P) (rG : RdNat w w.heap.size (.slice AG nG cG) s.G) (rQ : RdQ w w.heap.size (.slice AQ m cQ) s.Q) (hm : s.Q.length = m) (hf : FewOne s)
    (cM : w.cell? ⟨gB, 0, none⟩ = some (.map (some B))) (lt : gB < w.heap.size) (sh : ShownAt w B nm la) (hla : ∀ a ∈ la, Prm a) (b : Bool) (hb : WFlag b s la) :
    Calls Tryz.prog 22 #[.agg #[.slice AP nP cP, .slice AG nG cG, .slice AQ m cQ], .pointer (some ⟨gB, 0, none⟩)] w fun e w' => e = .returned (.bool b) ∧ Below w.heap.size w w' := by
  obtain ⟨W0, hW0⟩ : ∃ W0, w.alloc (.cells #[.slice AP nP cP, .slice AG nG cG, .slice AQ m cQ] 37) = W0 := ⟨_, rfl⟩
  obtain ⟨g, hg⟩ : ∃ g, w.heap.size = g := ⟨_, rfl⟩
  have hb0 : Below w.heap.size w W0 := by rw [← hW0]; exact (Below.refl _ w).alloc (Nat.le_refl _) _
  have hD0 : HoldAt w W0 g gB B nm la (.slice AP nP cP) (.slice AG nG cG) (.slice AQ m cQ) s :=
    ⟨⟨by rw [← hW0, ← hg]; exact StepBox.new _ _ _ _ _, rP.step11 hb0, rG.step11 hb0, rQ.step11 hb0, hb0⟩, (hb0.cell (p := ⟨gB, 0, none⟩) lt).trans cM, Nat.lt_of_lt_of_le lt hb0.size, sh.below hb0⟩
  have k0 := hD0.dec.box.cQ
  have HWF := Lib.hid hb
  have HF := Lib.hid hf
  have HM := Lib.hid hm
  have HLa := Lib.hid hla
  have hm40 : m ≤ 40 := by have := hf.1; omega
  have HMid := Lib.hid (HoldMid.start s.Q la)
  have HD0 := Lib.hid hD0
  clear hb0 hD0 rP rG rQ hf hla hb cM lt sh hm
  go_enter Tryz.func22, Tryz.ntmps22
  go_wp2_with fail
  clear hW0 hg k0
  go_loopw [9] (fun jv wr => ∃ j : Nat, jv = .int .i64 j ∧ j ≤ m ∧ Hid (HoldAt w wr g gB B nm la (.slice AP nP cP) (.slice AG nG cG) (.slice AQ m cQ) s) ∧ Hid (HoldMid s.Q la j)) (fun jv _ => m - (intOf jv).toNat)
  case atStart => exact ⟨0, rfl, Nat.zero_le _, HD0, HMid⟩
  case round =>
    clear HD0 HMid
    obtain ⟨j, rfl, hj, HD, HMid⟩ := hrel
    by_cases hlt : j < m
    · have hjm : j < s.Q.length := by rw [HM.out]; exact hlt
      have bd0 : Below wr.heap.size wr wr.drew := (Drawn.more 1).below11
      have HD1 := Lib.hid (HD.out.step bd0)
      clear bd0
      obtain ⟨V0, hV0⟩ : ∃ V, wr.drew = V := ⟨_, rfl⟩
      rw [hV0] at HD1
      obtain ⟨gA, oA, x0, hA, hgA, hx0, hrx⟩ := HD.out.dec.rQ.at11 hjm
      obtain ⟨Aq, cq, rfl, hrq1, hrq2⟩ := id hrx
      have HQ40 := Lib.hid (HF.out.2.2.2 _ (List.getElem_mem hjm))
      obtain ⟨nq, hnq⟩ : ∃ n, s.Q[j].length = n := ⟨_, rfl⟩
      obtain ⟨q, hq⟩ : ∃ q, natOf s.Q[j] = q := ⟨_, rfl⟩
      have HQe := Lib.hid hq
      rw [hnq] at hx0 hrx
      obtain ⟨bF, hbF⟩ := some_flag11 (OkNat s.Q[j])
      have HbF := Lib.hid (show OkFlag bF s.Q[j] from hbF)
      have RQ := Lib.hid (fun (u : World) (b : Below wr.heap.size wr u) => (show RdNat u u.heap.size (.slice Aq nq cq) s.Q[j] from hrx.step11 b))
      have BV := Lib.hid (show Below wr.heap.size wr V0 by rw [← hV0]; exact (Drawn.more 1).below11)
      have C1 := Lib.hid (fits11 (RQ.out V0 BV.out) HQ40.out bF hbF)
      subst hA
      clear hbF hrx hrq1 hrq2 hq hnq
      go_wp2_with fail
      refine wp_region_any (by kernel_rfl) ?_
      change wpAny _ _ _ _ _ _ _ wr.drew
      rw [hV0]
      clear hV0 hx0
      refine wpAny_takeD (i := 0) (d := 14) (v := .slice Aq nq cq) rfl (by kernel_rfl) (by kernel_rfl) (by kernel_rfl) (by kernel_rfl) (fun _ _ _ h => h) (Or.inl ⟨by kernel_rfl, fun W => by go_simp⟩) ?_
      refine wpAny_ready (rs := [1]) (by kernel_rfl) (by simp) (AllReady.cons rfl (fun K hK => ?_) AllReady.nil)
      go_simp
      refine (C1.out).mono ?_
      rintro e u1 ⟨rfl, b1⟩
      have HD2 := Lib.hid (HD1.out.step b1)
      have BW1 := Lib.hid (below_step BV.out b1)
      have k2 := HD2.out.dec.box.cQ
      clear b1 C1 HD1
      go_wp2_with fail
      cases bF
      · refine wpAny_takeD (i := 2) (d := 16) (v := .bool true) rfl (by kernel_rfl) (by kernel_rfl) (by kernel_rfl) (by kernel_rfl) (fun _ _ _ h => h) (Or.inl ⟨by kernel_rfl, fun W => by go_simp⟩) ?_
        refine wpAny_takeD (i := 3) (d := 17) (v := .bool true) rfl (by kernel_rfl) (by kernel_rfl) (by kernel_rfl) (by kernel_rfl) (fun _ _ _ h => h) (Or.inl ⟨by kernel_rfl, fun W => by go_simp⟩) ?_
        refine wpAny_takeD (i := 4) (d := 18) (v := undef) rfl (by kernel_rfl) (by kernel_rfl) (by kernel_rfl) (by kernel_rfl) (fun _ _ _ h => h) (Or.inr ⟨by kernel_rfl, rfl⟩) ?_
        refine wpAny_takeD (i := 5) (d := 19) (v := undef) rfl (by kernel_rfl) (by kernel_rfl) (by kernel_rfl) (by kernel_rfl) (fun _ _ _ h => h) (Or.inr ⟨by kernel_rfl, rfl⟩) ?_
        refine wpAny_takeD (i := 6) (d := 20) (v := undef) rfl (by kernel_rfl) (by kernel_rfl) (by kernel_rfl) (by kernel_rfl) (fun _ _ _ h => h) (Or.inr ⟨by kernel_rfl, rfl⟩) ?_
        refine wpAny_takeD (i := 7) (d := 21) (v := undef) rfl (by kernel_rfl) (by kernel_rfl) (by kernel_rfl) (by kernel_rfl) (fun _ _ _ h => h) (Or.inr ⟨by kernel_rfl, rfl⟩) ?_
        refine wpAny_takeD (i := 8) (d := 22) (v := undef) rfl (by kernel_rfl) (by kernel_rfl) (by kernel_rfl) (by kernel_rfl) (fun _ _ _ h => h) (Or.inr ⟨by kernel_rfl, rfl⟩) ?_
        refine wpAny_takeD (i := 9) (d := 23) (v := undef) rfl (by kernel_rfl) (by kernel_rfl) (by kernel_rfl) (by kernel_rfl) (fun _ _ _ h => h) (Or.inr ⟨by kernel_rfl, rfl⟩) ?_
        refine wpAny_takeD (i := 10) (d := 24) (v := undef) rfl (by kernel_rfl) (by kernel_rfl) (by kernel_rfl) (by kernel_rfl) (fun _ _ _ h => h) (Or.inr ⟨by kernel_rfl, rfl⟩) ?_
        refine wpAny_takeD (i := 11) (d := 25) (v := undef) rfl (by kernel_rfl) (by kernel_rfl) (by kernel_rfl) (by kernel_rfl) (fun _ _ _ h => h) (Or.inr ⟨by kernel_rfl, rfl⟩) ?_
        refine wpAny_takeD (i := 12) (d := 26) (v := undef) rfl (by kernel_rfl) (by kernel_rfl) (by kernel_rfl) (by kernel_rfl) (fun _ _ _ h => h) (Or.inr ⟨by kernel_rfl, rfl⟩) ?_
        refine wpAny_takeD (i := 13) (d := 27) (v := undef) rfl (by kernel_rfl) (by kernel_rfl) (by kernel_rfl) (by kernel_rfl) (fun _ _ _ h => h) (Or.inr ⟨by kernel_rfl, rfl⟩) ?_
        refine wpAny_takeD (i := 14) (d := 28) (v := undef) rfl (by kernel_rfl) (by kernel_rfl) (by kernel_rfl) (by kernel_rfl) (fun _ _ _ h => h) (Or.inr ⟨by kernel_rfl, rfl⟩) ?_
        refine wpAny_takeD (i := 15) (d := 29) (v := undef) rfl (by kernel_rfl) (by kernel_rfl) (by kernel_rfl) (by kernel_rfl) (fun _ _ _ h => h) (Or.inr ⟨by kernel_rfl, rfl⟩) ?_
        refine wpAny_takeD (i := 16) (d := 30) (v := undef) rfl (by kernel_rfl) (by kernel_rfl) (by kernel_rfl) (by kernel_rfl) (fun _ _ _ h => h) (Or.inr ⟨by kernel_rfl, rfl⟩) ?_
        refine wpAny_takeD (i := 17) (d := 31) (v := .bool true) rfl (by kernel_rfl) (by kernel_rfl) (by kernel_rfl) (by kernel_rfl) (fun _ _ _ h => h) (Or.inl ⟨by kernel_rfl, fun W => by go_simp⟩) ?_
        refine wpAny_takeD (i := 18) (d := 32) (v := .bool true) rfl (by kernel_rfl) (by kernel_rfl) (by kernel_rfl) (by kernel_rfl) (fun _ _ _ h => h) (Or.inl ⟨by kernel_rfl, fun W => by go_simp⟩) ?_
        refine wpAny_takeD (i := 19) (d := 33) (v := undef) rfl (by kernel_rfl) (by kernel_rfl) (by kernel_rfl) (by kernel_rfl) (fun _ _ _ h => h) (Or.inr ⟨by kernel_rfl, rfl⟩) ?_
        refine wpAny_takeD (i := 20) (d := 34) (v := undef) rfl (by kernel_rfl) (by kernel_rfl) (by kernel_rfl) (by kernel_rfl) (fun _ _ _ h => h) (Or.inr ⟨by kernel_rfl, rfl⟩) ?_
        refine wpAny_takeD (i := 21) (d := 35) (v := undef) rfl (by kernel_rfl) (by kernel_rfl) (by kernel_rfl) (by kernel_rfl) (fun _ _ _ h => h) (Or.inr ⟨by kernel_rfl, rfl⟩) ?_
        refine wpAny_takeD (i := 22) (d := 36) (v := undef) rfl (by kernel_rfl) (by kernel_rfl) (by kernel_rfl) (by kernel_rfl) (fun _ _ _ h => h) (Or.inr ⟨by kernel_rfl, rfl⟩) ?_
        refine wpAny_takeD (i := 23) (d := 37) (v := undef) rfl (by kernel_rfl) (by kernel_rfl) (by kernel_rfl) (by kernel_rfl) (fun _ _ _ h => h) (Or.inr ⟨by kernel_rfl, rfl⟩) ?_
        refine wpAny_takeD (i := 24) (d := 38) (v := undef) rfl (by kernel_rfl) (by kernel_rfl) (by kernel_rfl) (by kernel_rfl) (fun _ _ _ h => h) (Or.inr ⟨by kernel_rfl, rfl⟩) ?_
        refine wpAny_takeD (i := 25) (d := 39) (v := undef) rfl (by kernel_rfl) (by kernel_rfl) (by kernel_rfl) (by kernel_rfl) (fun _ _ _ h => h) (Or.inr ⟨by kernel_rfl, rfl⟩) ?_
        refine wpAny_takeD (i := 26) (d := 40) (v := undef) rfl (by kernel_rfl) (by kernel_rfl) (by kernel_rfl) (by kernel_rfl) (fun _ _ _ h => h) (Or.inr ⟨by kernel_rfl, rfl⟩) ?_
        refine wpAny_takeD (i := 27) (d := 41) (v := undef) rfl (by kernel_rfl) (by kernel_rfl) (by kernel_rfl) (by kernel_rfl) (fun _ _ _ h => h) (Or.inr ⟨by kernel_rfl, rfl⟩) ?_
        refine wpAny_takeD (i := 28) (d := 42) (v := undef) rfl (by kernel_rfl) (by kernel_rfl) (by kernel_rfl) (by kernel_rfl) (fun _ _ _ h => h) (Or.inr ⟨by kernel_rfl, rfl⟩) ?_
        refine wpAny_takeD (i := 29) (d := 43) (v := .bool true) rfl (by kernel_rfl) (by kernel_rfl) (by kernel_rfl) (by kernel_rfl) (fun _ _ _ h => h) (Or.inl ⟨by kernel_rfl, fun W => by go_simp⟩) ?_
        refine wpAny_done (by kernel_rfl) ?_ _
        go_step
        go_simp
        go_wp2_with fail
        have hb1 := HWF.out.no_ok hjm (fun h => by have h2 := HbF.out.2 h; cases h2)
        go_ret
        exact ⟨by rw [hb1]; rfl, HD2.out.dec.be⟩
      · have HokF := Lib.hid (HbF.out.1 rfl)
        rcases j with _ | i
        · refine wpAny_takeD (i := 2) (d := 16) (v := .bool false) rfl (by kernel_rfl) (by kernel_rfl) (by kernel_rfl) (by kernel_rfl) (fun _ _ _ h => h) (Or.inl ⟨by kernel_rfl, fun W => by go_simp⟩) ?_
          refine wpAny_takeD (i := 3) (d := 17) (v := .bool false) rfl (by kernel_rfl) (by kernel_rfl) (by kernel_rfl) (by kernel_rfl) (fun _ _ _ h => h) (Or.inl ⟨by kernel_rfl, fun W => by go_simp⟩) ?_
          refine wpAny_takeD (i := 4) (d := 18) (v := .int .i64 0) rfl (by kernel_rfl) (by kernel_rfl) (by kernel_rfl) (by kernel_rfl) (fun _ _ _ h => h) (Or.inl ⟨by kernel_rfl, fun W => by go_simp⟩) ?_
          refine wpAny_takeD (i := 5) (d := 19) (v := .bool false) rfl (by kernel_rfl) (by kernel_rfl) (by kernel_rfl) (by kernel_rfl) (fun _ _ _ h => h) (Or.inl ⟨by kernel_rfl, fun W => by go_simp⟩) ?_
          refine wpAny_takeD (i := 6) (d := 20) (v := .bool false) rfl (by kernel_rfl) (by kernel_rfl) (by kernel_rfl) (by kernel_rfl) (fun _ _ _ h => h) (Or.inl ⟨by kernel_rfl, fun W => by go_simp⟩) ?_
          refine wpAny_takeD (i := 7) (d := 21) (v := undef) rfl (by kernel_rfl) (by kernel_rfl) (by kernel_rfl) (by kernel_rfl) (fun _ _ _ h => h) (Or.inr ⟨by kernel_rfl, rfl⟩) ?_
          refine wpAny_takeD (i := 8) (d := 22) (v := undef) rfl (by kernel_rfl) (by kernel_rfl) (by kernel_rfl) (by kernel_rfl) (fun _ _ _ h => h) (Or.inr ⟨by kernel_rfl, rfl⟩) ?_
          refine wpAny_takeD (i := 9) (d := 23) (v := undef) rfl (by kernel_rfl) (by kernel_rfl) (by kernel_rfl) (by kernel_rfl) (fun _ _ _ h => h) (Or.inr ⟨by kernel_rfl, rfl⟩) ?_
          refine wpAny_takeD (i := 10) (d := 24) (v := undef) rfl (by kernel_rfl) (by kernel_rfl) (by kernel_rfl) (by kernel_rfl) (fun _ _ _ h => h) (Or.inr ⟨by kernel_rfl, rfl⟩) ?_
          refine wpAny_takeD (i := 11) (d := 25) (v := undef) rfl (by kernel_rfl) (by kernel_rfl) (by kernel_rfl) (by kernel_rfl) (fun _ _ _ h => h) (Or.inr ⟨by kernel_rfl, rfl⟩) ?_
          refine wpAny_takeD (i := 12) (d := 26) (v := undef) rfl (by kernel_rfl) (by kernel_rfl) (by kernel_rfl) (by kernel_rfl) (fun _ _ _ h => h) (Or.inr ⟨by kernel_rfl, rfl⟩) ?_
          refine wpAny_takeD (i := 13) (d := 27) (v := undef) rfl (by kernel_rfl) (by kernel_rfl) (by kernel_rfl) (by kernel_rfl) (fun _ _ _ h => h) (Or.inr ⟨by kernel_rfl, rfl⟩) ?_
          refine wpAny_takeD (i := 14) (d := 28) (v := undef) rfl (by kernel_rfl) (by kernel_rfl) (by kernel_rfl) (by kernel_rfl) (fun _ _ _ h => h) (Or.inr ⟨by kernel_rfl, rfl⟩) ?_
          refine wpAny_takeD (i := 15) (d := 29) (v := undef) rfl (by kernel_rfl) (by kernel_rfl) (by kernel_rfl) (by kernel_rfl) (fun _ _ _ h => h) (Or.inr ⟨by kernel_rfl, rfl⟩) ?_
          refine wpAny_takeD (i := 16) (d := 30) (v := .bool false) rfl (by kernel_rfl) (by kernel_rfl) (by kernel_rfl) (by kernel_rfl) (fun _ _ _ h => h) (Or.inl ⟨by kernel_rfl, fun W => by go_simp⟩) ?_
          refine wpAny_takeD (i := 17) (d := 31) (v := .bool false) rfl (by kernel_rfl) (by kernel_rfl) (by kernel_rfl) (by kernel_rfl) (fun _ _ _ h => h) (Or.inl ⟨by kernel_rfl, fun W => by go_simp⟩) ?_
          refine wpAny_takeD (i := 18) (d := 32) (v := .bool false) rfl (by kernel_rfl) (by kernel_rfl) (by kernel_rfl) (by kernel_rfl) (fun _ _ _ h => h) (Or.inl ⟨by kernel_rfl, fun W => by go_simp⟩) ?_
          have HRise := Lib.hid (show ∀ i2 (hi2 : i2 < s.Q.length), i2 + 1 = 0 → natOf s.Q[i2] < natOf s.Q[0] from fun i2 _ e => absurd e (by omega))
          refine wpAny_takeD (i := 19) (d := 33) (v := .slice Aq nq cq) rfl (by kernel_rfl) (by kernel_rfl) (by kernel_rfl) (by kernel_rfl) (fun _ _ _ h => h) (Or.inl ⟨by kernel_rfl, fun W => by go_simp⟩) ?_
          obtain ⟨bK, hbK⟩ := some_flag11 (Known q)
          have HbK := Lib.hid (show KnownFlag bK q from hbK)
          have CK := Lib.hid (isKnown11 (RQ.out u1 BW1.out) HQ40.out bK (by rw [HQe.out]; exact hbK))
          clear hbK
          refine wpAny_ready (rs := [20]) (by kernel_rfl) (by simp) (AllReady.cons rfl (fun K hK => ?_) AllReady.nil)
          go_simp
          refine (CK.out).mono ?_
          rintro e v1 ⟨rfl, b1⟩
          have HE2 := Lib.hid (HD2.out.step b1)
          have BW3 := Lib.hid (below_step BW1.out b1)
          have kM := HE2.out.cM
          clear b1 CK HD2
          go_wp2_with fail
          cases bK
          · refine wpAny_takeD (i := 21) (d := 35) (v := .bool true) rfl (by kernel_rfl) (by kernel_rfl) (by kernel_rfl) (by kernel_rfl) (fun _ _ _ h => h) (Or.inl ⟨by kernel_rfl, fun W => by go_simp⟩) ?_
            refine wpAny_takeD (i := 22) (d := 36) (v := .bool true) rfl (by kernel_rfl) (by kernel_rfl) (by kernel_rfl) (by kernel_rfl) (fun _ _ _ h => h) (Or.inl ⟨by kernel_rfl, fun W => by go_simp⟩) ?_
            refine wpAny_takeD (i := 24) (d := 38) (v := .slice Aq nq cq) rfl (by kernel_rfl) (by kernel_rfl) (by kernel_rfl) (by kernel_rfl) (fun _ _ _ h => h) (Or.inl ⟨by kernel_rfl, fun W => by go_simp⟩) ?_
            refine wpAny_two11 (fun u => u.cell? ⟨gB, 0, none⟩ = some (.map (some B))) (i := 23) (j := 25) (d := 37) (v := .map (some B)) rfl rfl rfl (by kernel_rfl) (by kernel_rfl) (by kernel_rfl) (by kernel_rfl) (by kernel_rfl) (by kernel_rfl) (fun c h => by cases h) (by rfl) (fun _ _ _ h => h) (by kernel_rfl) (fun W hW => by go_simp) (kM) ?_
            refine wpOp_step rfl (fun K hK => ?_)
            go_simp
            refine (name11 (RQ.out v1 BW3.out) HQ40.out).mono ?_
            rintro e v2 ⟨rfl, b2⟩
            have HE3 := Lib.hid (HE2.out.step b2)
            have kM2 := HE3.out.cM
            clear b2 kM
            refine hK _ _ ⟨?_, kM2⟩
            clear hK K kM2
            rw [HQe.out]
            obtain ⟨bS, hbS⟩ := some_flag11 (q ∈ la)
            have HbS := Lib.hid (show InFlag bS q la from hbS)
            have hlook := HE3.out.sh.look (m := q) (by rw [← HQe.out]; exact HokF.out.2) bS hbS
            clear hbS
            refine wpAny_ready (rs := [26]) (by kernel_rfl) (by simp) (AllReady.cons rfl (fun K hK => ?_) AllReady.nil)
            go_simp
            refine hK _ _ ?_
            clear hlook
            clear hK K
            cases bS
            · refine wpAny_takeD (i := 27) (d := 41) (v := .bool true) rfl (by kernel_rfl) (by kernel_rfl) (by kernel_rfl) (by kernel_rfl) (fun _ _ _ h => h) (Or.inl ⟨by kernel_rfl, fun W => by go_simp⟩) ?_
              refine wpAny_takeD (i := 28) (d := 42) (v := .bool true) rfl (by kernel_rfl) (by kernel_rfl) (by kernel_rfl) (by kernel_rfl) (fun _ _ _ h => h) (Or.inl ⟨by kernel_rfl, fun W => by go_simp⟩) ?_
              refine wpAny_takeD (i := 29) (d := 43) (v := .bool true) rfl (by kernel_rfl) (by kernel_rfl) (by kernel_rfl) (by kernel_rfl) (fun _ _ _ h => h) (Or.inl ⟨by kernel_rfl, fun W => by go_simp⟩) ?_
              refine wpAny_done (by kernel_rfl) ?_ _
              go_step
              go_simp
              go_wp2_with fail
              have hb1 := HWF.out.no_shown hjm (by rw [HQe.out]; exact fun h => by have h2 := HbK.out.2 h; cases h2) (by rw [HQe.out]; exact fun h => by have h2 := HbS.out.2 h; cases h2)
              go_ret
              exact ⟨by rw [hb1]; rfl, HE3.out.dec.be⟩
            · refine wpAny_takeD (i := 27) (d := 41) (v := .bool false) rfl (by kernel_rfl) (by kernel_rfl) (by kernel_rfl) (by kernel_rfl) (fun _ _ _ h => h) (Or.inl ⟨by kernel_rfl, fun W => by go_simp⟩) ?_
              refine wpAny_takeD (i := 28) (d := 42) (v := .bool false) rfl (by kernel_rfl) (by kernel_rfl) (by kernel_rfl) (by kernel_rfl) (fun _ _ _ h => h) (Or.inl ⟨by kernel_rfl, fun W => by go_simp⟩) ?_
              refine wpAny_takeD (i := 29) (d := 43) (v := .bool false) rfl (by kernel_rfl) (by kernel_rfl) (by kernel_rfl) (by kernel_rfl) (fun _ _ _ h => h) (Or.inl ⟨by kernel_rfl, fun W => by go_simp⟩) ?_
              have HMid2 := Lib.hid (HMid.out.next hjm HokF.out (by rw [HQe.out]; exact .inr (HbS.out.1 rfl)) HRise.out)
              refine wpAny_done (by kernel_rfl) ?_ _
              go_step
              go_simp
              go_wp2_with fail
              go_roundw
              case rel => exact ⟨_, by go_num, by omega, HE3, HMid2⟩
              case measure => simp [intOf]; omega
          · refine wpAny_takeD (i := 21) (d := 35) (v := .bool false) rfl (by kernel_rfl) (by kernel_rfl) (by kernel_rfl) (by kernel_rfl) (fun _ _ _ h => h) (Or.inl ⟨by kernel_rfl, fun W => by go_simp⟩) ?_
            refine wpAny_takeD (i := 22) (d := 36) (v := .bool false) rfl (by kernel_rfl) (by kernel_rfl) (by kernel_rfl) (by kernel_rfl) (fun _ _ _ h => h) (Or.inl ⟨by kernel_rfl, fun W => by go_simp⟩) ?_
            refine wpAny_takeD (i := 23) (d := 37) (v := undef) rfl (by kernel_rfl) (by kernel_rfl) (by kernel_rfl) (by kernel_rfl) (fun _ _ _ h => h) (Or.inr ⟨by kernel_rfl, rfl⟩) ?_
            refine wpAny_takeD (i := 24) (d := 38) (v := undef) rfl (by kernel_rfl) (by kernel_rfl) (by kernel_rfl) (by kernel_rfl) (fun _ _ _ h => h) (Or.inr ⟨by kernel_rfl, rfl⟩) ?_
            refine wpAny_takeD (i := 25) (d := 39) (v := undef) rfl (by kernel_rfl) (by kernel_rfl) (by kernel_rfl) (by kernel_rfl) (fun _ _ _ h => h) (Or.inr ⟨by kernel_rfl, rfl⟩) ?_
            refine wpAny_takeD (i := 26) (d := 40) (v := undef) rfl (by kernel_rfl) (by kernel_rfl) (by kernel_rfl) (by kernel_rfl) (fun _ _ _ h => h) (Or.inr ⟨by kernel_rfl, rfl⟩) ?_
            refine wpAny_takeD (i := 27) (d := 41) (v := undef) rfl (by kernel_rfl) (by kernel_rfl) (by kernel_rfl) (by kernel_rfl) (fun _ _ _ h => h) (Or.inr ⟨by kernel_rfl, rfl⟩) ?_
            refine wpAny_takeD (i := 28) (d := 42) (v := .bool false) rfl (by kernel_rfl) (by kernel_rfl) (by kernel_rfl) (by kernel_rfl) (fun _ _ _ h => h) (Or.inl ⟨by kernel_rfl, fun W => by go_simp⟩) ?_
            refine wpAny_takeD (i := 29) (d := 43) (v := .bool false) rfl (by kernel_rfl) (by kernel_rfl) (by kernel_rfl) (by kernel_rfl) (fun _ _ _ h => h) (Or.inl ⟨by kernel_rfl, fun W => by go_simp⟩) ?_
            have HMid2 := Lib.hid (HMid.out.next hjm HokF.out (by rw [HQe.out]; exact .inl (HbK.out.1 rfl)) HRise.out)
            refine wpAny_done (by kernel_rfl) ?_ _
            go_step
            go_simp
            go_wp2_with fail
            go_roundw
            case rel => exact ⟨_, by go_num, by omega, HE2, HMid2⟩
            case measure => simp [intOf]; omega
        · have him : i < s.Q.length := by omega
          obtain ⟨gA2, oA2, x1, hA2, _, hx1, hrx1⟩ := HD2.out.dec.rQ.at11 him
          injection hA2 with hA2
          injection hA2 with hA3 hA4 _
          subst hA3 hA4
          obtain ⟨Ap, cp, rfl, _, _⟩ := id hrx1
          obtain ⟨np, hnp⟩ : ∃ n, s.Q[i].length = n := ⟨_, rfl⟩
          obtain ⟨p, hp⟩ : ∃ p, natOf s.Q[i] = p := ⟨_, rfl⟩
          have HPe := Lib.hid hp
          have HP40 := Lib.hid (HF.out.2.2.2 _ (List.getElem_mem him))
          rw [hnp] at hx1 hrx1
          obtain ⟨x, hx⟩ : ∃ x, cmpS p q = x := ⟨_, rfl⟩
          obtain ⟨zC, hzC⟩ : ∃ z : Bool, decide ((0 : Int) ≤ x) = z := ⟨_, rfl⟩
          have HzC := Lib.hid (show RiseFlag zC p q from by
            unfold cmpS at hx
            subst hzC
            rcases Nat.lt_or_ge p q with h | h
            · rw [if_pos h] at hx; subst hx
              exact ⟨fun h2 => by simp at h2, fun _ => h⟩
            · rw [if_neg (by omega)] at hx
              refine ⟨fun _ => by omega, fun h2 => ?_⟩
              have h3 := of_decide_eq_false h2
              split at hx <;> omega)
          have C2 := bCmp (hrx1.in12 HP40.out) ((RQ.out u1 BW1.out).in12 HQ40.out)
          rw [hp, HQe.out, hx] at C2
          have C2 := Lib.hid C2
          have g1 : decide ((0 : Int) < ((i + 1 : Nat) : Int)) = true := by rw [decide_eq_true_eq]; omega
          have HWI := Lib.hid (show IntKind.i64.wrap (((i + 1 : Nat) : Int) - 1) = (i : Int) from by unfold IntKind.wrap; simp [IntKind.signed, IntKind.bits]; omega)
          have HWI2 := Lib.hid (show IntKind.i64.wrap (i : Int) = (i : Int) from by unfold IntKind.wrap; simp [IntKind.signed, IntKind.bits]; omega)
          clear hx hp hnp hrx1
          refine wpAny_takeD (i := 2) (d := 16) (v := .bool false) rfl (by kernel_rfl) (by kernel_rfl) (by kernel_rfl) (by kernel_rfl) (fun _ _ _ h => h) (Or.inl ⟨by kernel_rfl, fun W => by go_simp⟩) ?_
          refine wpAny_takeD (i := 3) (d := 17) (v := .bool false) rfl (by kernel_rfl) (by kernel_rfl) (by kernel_rfl) (by kernel_rfl) (fun _ _ _ h => h) (Or.inl ⟨by kernel_rfl, fun W => by go_simp⟩) ?_
          refine wpAny_takeD (i := 4) (d := 18) (v := .int .i64 ((i + 1 : Nat) : Int)) rfl (by kernel_rfl) (by kernel_rfl) (by kernel_rfl) (by kernel_rfl) (fun _ _ _ h => h) (Or.inl ⟨by kernel_rfl, fun W => by go_simp⟩) ?_
          refine wpAny_takeD (i := 5) (d := 19) (v := .bool true) rfl (by kernel_rfl) (by kernel_rfl) (by kernel_rfl) (by kernel_rfl) (fun _ _ _ h => h) (Or.inl ⟨by kernel_rfl, fun W => by go_simp⟩) ?_
          refine wpAny_takeD (i := 6) (d := 20) (v := .bool true) rfl (by kernel_rfl) (by kernel_rfl) (by kernel_rfl) (by kernel_rfl) (fun _ _ _ h => h) (Or.inl ⟨by kernel_rfl, fun W => by go_simp⟩) ?_
          refine wpAny_takeD (i := 7) (d := 21) (v := .pointer (some ⟨g, 2, none⟩)) rfl (by kernel_rfl) (by kernel_rfl) (by kernel_rfl) (by kernel_rfl) (fun _ _ _ h => h) (Or.inl ⟨by kernel_rfl, fun W => by go_simp⟩) ?_
          refine wpAny_takeD (i := 9) (d := 23) (v := .int .i64 ((i + 1 : Nat) : Int)) rfl (by kernel_rfl) (by kernel_rfl) (by kernel_rfl) (by kernel_rfl) (fun _ _ _ h => h) (Or.inl ⟨by kernel_rfl, fun W => by go_simp⟩) ?_
          refine wpAny_takeD (i := 10) (d := 24) (v := .int .i64 (i : Int)) rfl (by kernel_rfl) (by kernel_rfl) (by kernel_rfl) (by kernel_rfl) (fun _ _ _ h => h) (Or.inl ⟨by kernel_rfl, fun W => by first | (go_simp; done) | (go_simp; exact HWI.out) | (go_simp; exact HWI2.out)⟩) ?_
          refine wpAny_takeD (i := 13) (d := 27) (v := .slice Aq nq cq) rfl (by kernel_rfl) (by kernel_rfl) (by kernel_rfl) (by kernel_rfl) (fun _ _ _ h => h) (Or.inl ⟨by kernel_rfl, fun W => by go_simp⟩) ?_
          refine wpAny_ready (rs := [8]) (by kernel_rfl) (by simp) (AllReady.cons rfl (fun K hK => ?_) AllReady.nil)
          go_simp
          refine hK _ _ ?_
          clear hK K
          refine wpAny_takeD (i := 11) (d := 25) (v := .pointer (some ⟨gA, oA + i, none⟩)) rfl (by kernel_rfl) (by kernel_rfl) (by kernel_rfl) (by kernel_rfl) (fun _ _ _ h => h) (Or.inl ⟨by kernel_rfl, fun W => by first | (go_simp; done) | (go_simp; intro h; exact absurd h (by omega))⟩) ?_
          refine wpAny_ready (rs := [12]) (by kernel_rfl) (by simp) (AllReady.cons rfl (fun K hK => ?_) AllReady.nil)
          go_simp
          refine hK _ _ ?_
          clear hK K
          refine wpAny_ready (rs := [14]) (by kernel_rfl) (by simp) (AllReady.cons rfl (fun K hK => ?_) AllReady.nil)
          go_simp
          refine (C2.out).mono ?_
          rintro e u2 ⟨rfl, b2⟩
          have HD3 := Lib.hid (HD2.out.step b2)
          have BW2 := Lib.hid (below_step BW1.out b2)
          clear b2 C2 k2 hx1 HD2
          go_wp2_with fail
          refine wpAny_takeD (i := 15) (d := 29) (v := .bool zC) rfl (by kernel_rfl) (by kernel_rfl) (by kernel_rfl) (by kernel_rfl) (fun _ _ _ h => h) (Or.inl ⟨by kernel_rfl, fun W => by go_simp⟩) ?_
          refine wpAny_takeD (i := 16) (d := 30) (v := .bool zC) rfl (by kernel_rfl) (by kernel_rfl) (by kernel_rfl) (by kernel_rfl) (fun _ _ _ h => h) (Or.inl ⟨by kernel_rfl, fun W => by go_simp⟩) ?_
          refine wpAny_takeD (i := 17) (d := 31) (v := .bool zC) rfl (by kernel_rfl) (by kernel_rfl) (by kernel_rfl) (by kernel_rfl) (fun _ _ _ h => h) (Or.inl ⟨by kernel_rfl, fun W => by go_simp⟩) ?_
          refine wpAny_takeD (i := 18) (d := 32) (v := .bool zC) rfl (by kernel_rfl) (by kernel_rfl) (by kernel_rfl) (by kernel_rfl) (fun _ _ _ h => h) (Or.inl ⟨by kernel_rfl, fun W => by go_simp⟩) ?_
          clear hzC g1
          cases zC
          · have HRise := Lib.hid (show ∀ i2 (hi2 : i2 < s.Q.length), i2 + 1 = i + 1 → natOf s.Q[i2] < natOf s.Q[i + 1] from fun i2 hi2 e => by
              obtain rfl : i2 = i := by omega
              have h1 := HzC.out.2 rfl
              rw [HPe.out, HQe.out]
              exact h1)
            refine wpAny_takeD (i := 19) (d := 33) (v := .slice Aq nq cq) rfl (by kernel_rfl) (by kernel_rfl) (by kernel_rfl) (by kernel_rfl) (fun _ _ _ h => h) (Or.inl ⟨by kernel_rfl, fun W => by go_simp⟩) ?_
            obtain ⟨bK, hbK⟩ := some_flag11 (Known q)
            have HbK := Lib.hid (show KnownFlag bK q from hbK)
            have CK := Lib.hid (isKnown11 (RQ.out u2 BW2.out) HQ40.out bK (by rw [HQe.out]; exact hbK))
            clear hbK
            refine wpAny_ready (rs := [20]) (by kernel_rfl) (by simp) (AllReady.cons rfl (fun K hK => ?_) AllReady.nil)
            go_simp
            refine (CK.out).mono ?_
            rintro e v1 ⟨rfl, b1⟩
            have HE2 := Lib.hid (HD3.out.step b1)
            have BW3 := Lib.hid (below_step BW2.out b1)
            have kM := HE2.out.cM
            clear b1 CK HD3
            go_wp2_with fail
            cases bK
            · refine wpAny_takeD (i := 21) (d := 35) (v := .bool true) rfl (by kernel_rfl) (by kernel_rfl) (by kernel_rfl) (by kernel_rfl) (fun _ _ _ h => h) (Or.inl ⟨by kernel_rfl, fun W => by go_simp⟩) ?_
              refine wpAny_takeD (i := 22) (d := 36) (v := .bool true) rfl (by kernel_rfl) (by kernel_rfl) (by kernel_rfl) (by kernel_rfl) (fun _ _ _ h => h) (Or.inl ⟨by kernel_rfl, fun W => by go_simp⟩) ?_
              refine wpAny_takeD (i := 24) (d := 38) (v := .slice Aq nq cq) rfl (by kernel_rfl) (by kernel_rfl) (by kernel_rfl) (by kernel_rfl) (fun _ _ _ h => h) (Or.inl ⟨by kernel_rfl, fun W => by go_simp⟩) ?_
              refine wpAny_two11 (fun u => u.cell? ⟨gB, 0, none⟩ = some (.map (some B))) (i := 23) (j := 25) (d := 37) (v := .map (some B)) rfl rfl rfl (by kernel_rfl) (by kernel_rfl) (by kernel_rfl) (by kernel_rfl) (by kernel_rfl) (by kernel_rfl) (fun c h => by cases h) (by rfl) (fun _ _ _ h => h) (by kernel_rfl) (fun W hW => by go_simp) (kM) ?_
              refine wpOp_step rfl (fun K hK => ?_)
              go_simp
              refine (name11 (RQ.out v1 BW3.out) HQ40.out).mono ?_
              rintro e v2 ⟨rfl, b2⟩
              have HE3 := Lib.hid (HE2.out.step b2)
              have kM2 := HE3.out.cM
              clear b2 kM
              refine hK _ _ ⟨?_, kM2⟩
              clear hK K kM2
              rw [HQe.out]
              obtain ⟨bS, hbS⟩ := some_flag11 (q ∈ la)
              have HbS := Lib.hid (show InFlag bS q la from hbS)
              have hlook := HE3.out.sh.look (m := q) (by rw [← HQe.out]; exact HokF.out.2) bS hbS
              clear hbS
              refine wpAny_ready (rs := [26]) (by kernel_rfl) (by simp) (AllReady.cons rfl (fun K hK => ?_) AllReady.nil)
              go_simp
              refine hK _ _ ?_
              clear hlook
              clear hK K
              cases bS
              · refine wpAny_takeD (i := 27) (d := 41) (v := .bool true) rfl (by kernel_rfl) (by kernel_rfl) (by kernel_rfl) (by kernel_rfl) (fun _ _ _ h => h) (Or.inl ⟨by kernel_rfl, fun W => by go_simp⟩) ?_
                refine wpAny_takeD (i := 28) (d := 42) (v := .bool true) rfl (by kernel_rfl) (by kernel_rfl) (by kernel_rfl) (by kernel_rfl) (fun _ _ _ h => h) (Or.inl ⟨by kernel_rfl, fun W => by go_simp⟩) ?_
                refine wpAny_takeD (i := 29) (d := 43) (v := .bool true) rfl (by kernel_rfl) (by kernel_rfl) (by kernel_rfl) (by kernel_rfl) (fun _ _ _ h => h) (Or.inl ⟨by kernel_rfl, fun W => by go_simp⟩) ?_
                refine wpAny_done (by kernel_rfl) ?_ _
                go_step
                go_simp
                go_wp2_with fail
                have hb1 := HWF.out.no_shown hjm (by rw [HQe.out]; exact fun h => by have h2 := HbK.out.2 h; cases h2) (by rw [HQe.out]; exact fun h => by have h2 := HbS.out.2 h; cases h2)
                go_ret
                exact ⟨by rw [hb1]; rfl, HE3.out.dec.be⟩
              · refine wpAny_takeD (i := 27) (d := 41) (v := .bool false) rfl (by kernel_rfl) (by kernel_rfl) (by kernel_rfl) (by kernel_rfl) (fun _ _ _ h => h) (Or.inl ⟨by kernel_rfl, fun W => by go_simp⟩) ?_
                refine wpAny_takeD (i := 28) (d := 42) (v := .bool false) rfl (by kernel_rfl) (by kernel_rfl) (by kernel_rfl) (by kernel_rfl) (fun _ _ _ h => h) (Or.inl ⟨by kernel_rfl, fun W => by go_simp⟩) ?_
                refine wpAny_takeD (i := 29) (d := 43) (v := .bool false) rfl (by kernel_rfl) (by kernel_rfl) (by kernel_rfl) (by kernel_rfl) (fun _ _ _ h => h) (Or.inl ⟨by kernel_rfl, fun W => by go_simp⟩) ?_
                have HMid2 := Lib.hid (HMid.out.next hjm HokF.out (by rw [HQe.out]; exact .inr (HbS.out.1 rfl)) HRise.out)
                refine wpAny_done (by kernel_rfl) ?_ _
                go_step
                go_simp
                go_wp2_with fail
                go_roundw
                case rel => exact ⟨_, by go_num, by omega, HE3, HMid2⟩
                case measure => simp [intOf]; omega
            · refine wpAny_takeD (i := 21) (d := 35) (v := .bool false) rfl (by kernel_rfl) (by kernel_rfl) (by kernel_rfl) (by kernel_rfl) (fun _ _ _ h => h) (Or.inl ⟨by kernel_rfl, fun W => by go_simp⟩) ?_
              refine wpAny_takeD (i := 22) (d := 36) (v := .bool false) rfl (by kernel_rfl) (by kernel_rfl) (by kernel_rfl) (by kernel_rfl) (fun _ _ _ h => h) (Or.inl ⟨by kernel_rfl, fun W => by go_simp⟩) ?_
              refine wpAny_takeD (i := 23) (d := 37) (v := undef) rfl (by kernel_rfl) (by kernel_rfl) (by kernel_rfl) (by kernel_rfl) (fun _ _ _ h => h) (Or.inr ⟨by kernel_rfl, rfl⟩) ?_
              refine wpAny_takeD (i := 24) (d := 38) (v := undef) rfl (by kernel_rfl) (by kernel_rfl) (by kernel_rfl) (by kernel_rfl) (fun _ _ _ h => h) (Or.inr ⟨by kernel_rfl, rfl⟩) ?_
              refine wpAny_takeD (i := 25) (d := 39) (v := undef) rfl (by kernel_rfl) (by kernel_rfl) (by kernel_rfl) (by kernel_rfl) (fun _ _ _ h => h) (Or.inr ⟨by kernel_rfl, rfl⟩) ?_
              refine wpAny_takeD (i := 26) (d := 40) (v := undef) rfl (by kernel_rfl) (by kernel_rfl) (by kernel_rfl) (by kernel_rfl) (fun _ _ _ h => h) (Or.inr ⟨by kernel_rfl, rfl⟩) ?_
              refine wpAny_takeD (i := 27) (d := 41) (v := undef) rfl (by kernel_rfl) (by kernel_rfl) (by kernel_rfl) (by kernel_rfl) (fun _ _ _ h => h) (Or.inr ⟨by kernel_rfl, rfl⟩) ?_
              refine wpAny_takeD (i := 28) (d := 42) (v := .bool false) rfl (by kernel_rfl) (by kernel_rfl) (by kernel_rfl) (by kernel_rfl) (fun _ _ _ h => h) (Or.inl ⟨by kernel_rfl, fun W => by go_simp⟩) ?_
              refine wpAny_takeD (i := 29) (d := 43) (v := .bool false) rfl (by kernel_rfl) (by kernel_rfl) (by kernel_rfl) (by kernel_rfl) (fun _ _ _ h => h) (Or.inl ⟨by kernel_rfl, fun W => by go_simp⟩) ?_
              have HMid2 := Lib.hid (HMid.out.next hjm HokF.out (by rw [HQe.out]; exact .inl (HbK.out.1 rfl)) HRise.out)
              refine wpAny_done (by kernel_rfl) ?_ _
              go_step
              go_simp
              go_wp2_with fail
              go_roundw
              case rel => exact ⟨_, by go_num, by omega, HE2, HMid2⟩
              case measure => simp [intOf]; omega
          · refine wpAny_takeD (i := 19) (d := 33) (v := undef) rfl (by kernel_rfl) (by kernel_rfl) (by kernel_rfl) (by kernel_rfl) (fun _ _ _ h => h) (Or.inr ⟨by kernel_rfl, rfl⟩) ?_
            refine wpAny_takeD (i := 20) (d := 34) (v := undef) rfl (by kernel_rfl) (by kernel_rfl) (by kernel_rfl) (by kernel_rfl) (fun _ _ _ h => h) (Or.inr ⟨by kernel_rfl, rfl⟩) ?_
            refine wpAny_takeD (i := 21) (d := 35) (v := undef) rfl (by kernel_rfl) (by kernel_rfl) (by kernel_rfl) (by kernel_rfl) (fun _ _ _ h => h) (Or.inr ⟨by kernel_rfl, rfl⟩) ?_
            refine wpAny_takeD (i := 22) (d := 36) (v := undef) rfl (by kernel_rfl) (by kernel_rfl) (by kernel_rfl) (by kernel_rfl) (fun _ _ _ h => h) (Or.inr ⟨by kernel_rfl, rfl⟩) ?_
            refine wpAny_takeD (i := 23) (d := 37) (v := undef) rfl (by kernel_rfl) (by kernel_rfl) (by kernel_rfl) (by kernel_rfl) (fun _ _ _ h => h) (Or.inr ⟨by kernel_rfl, rfl⟩) ?_
            refine wpAny_takeD (i := 24) (d := 38) (v := undef) rfl (by kernel_rfl) (by kernel_rfl) (by kernel_rfl) (by kernel_rfl) (fun _ _ _ h => h) (Or.inr ⟨by kernel_rfl, rfl⟩) ?_
            refine wpAny_takeD (i := 25) (d := 39) (v := undef) rfl (by kernel_rfl) (by kernel_rfl) (by kernel_rfl) (by kernel_rfl) (fun _ _ _ h => h) (Or.inr ⟨by kernel_rfl, rfl⟩) ?_
            refine wpAny_takeD (i := 26) (d := 40) (v := undef) rfl (by kernel_rfl) (by kernel_rfl) (by kernel_rfl) (by kernel_rfl) (fun _ _ _ h => h) (Or.inr ⟨by kernel_rfl, rfl⟩) ?_
            refine wpAny_takeD (i := 27) (d := 41) (v := undef) rfl (by kernel_rfl) (by kernel_rfl) (by kernel_rfl) (by kernel_rfl) (fun _ _ _ h => h) (Or.inr ⟨by kernel_rfl, rfl⟩) ?_
            refine wpAny_takeD (i := 28) (d := 42) (v := undef) rfl (by kernel_rfl) (by kernel_rfl) (by kernel_rfl) (by kernel_rfl) (fun _ _ _ h => h) (Or.inr ⟨by kernel_rfl, rfl⟩) ?_
            refine wpAny_takeD (i := 29) (d := 43) (v := .bool true) rfl (by kernel_rfl) (by kernel_rfl) (by kernel_rfl) (by kernel_rfl) (fun _ _ _ h => h) (Or.inl ⟨by kernel_rfl, fun W => by go_simp⟩) ?_
            refine wpAny_done (by kernel_rfl) ?_ _
            go_step
            go_simp
            go_wp2_with fail
            have hb1 := HWF.out.no_rise hjm (by rw [HPe.out, HQe.out]; exact HzC.out.1 rfl)
            go_ret
            exact ⟨by rw [hb1]; rfl, HD3.out.dec.be⟩
    · obtain rfl : j = m := by omega
      have HMm := Lib.hid (show HoldMid s.Q la s.Q.length by rw [HM.out]; exact HMid.out)
      have C3 := Lib.hid (decides11 HD.out.dec.rP HD.out.dec.rG HD.out.dec.rQ HF.out (HMm.out.rising HF.out HLa.out) b (HMm.out.flag HWF.out))
      have k1 := HD.out.dec.box.cP
      have k2 := HD.out.dec.box.cG
      have k3 := HD.out.dec.box.cQ
      go_wp2_with fail
      refine (C3.out).mono ?_
      rintro e w5 ⟨rfl, b5⟩
      have HE := Lib.hid (HD.out.step b5)
      clear b5 k1 k2 k3
      go_wp2_with fail
      go_ret
      exact ⟨rfl, HE.out.dec.be⟩
end Go.Proofs.YtjpfcdgaepdcdaaGreat
/- pratt.Check, walked. Conditions: as typed (steps that may be gone through; a number that may be, or is the last step's). -/
namespace Go.Proofs.YtjpfcdgaepdcdaaGreat
open Go.RowKit
set_option maxRecDepth 20000
theorem checkN_nil {n : Nat} : CheckN n [] ↔ Known n := by
  constructor
  · rintro (⟨_, h⟩ | ⟨r, s, h, _⟩)
    · exact h
    · have := congrArg List.length h; simp at this
  · exact fun h => .inl ⟨rfl, h.1, h.2⟩
theorem CheckW.last11 {lp : List Nat} {ss : List SRaw} (h : CheckW lp ss) {m : Nat} (hm : ss.length = m + 1) (hl : m < ss.length) : natOf ss[m].P = natOf lp := by
  rcases h.2.2 with ⟨h1, _⟩ | ⟨r, s, h1, h2, _⟩
  · have := congrArg List.length h1
    rw [List.length_map, List.length_nil] at this
    omega
  · have e : ss.map toN = (ss.map toN).take m ++ [toN ss[m]] := by
      rw [show toN ss[m] = (ss.map toN)[m]'(by simp; omega) by simp, ← List.take_succ_eq_append_getElem (by simp; omega), List.take_of_length_le (by simp; omega)]
    rw [e] at h1
    have h3 := (List.append_inj' h1 rfl).2
    injection h3 with h3 _
    rw [← h2, ← h3]
    rfl
theorem CheckW.step11 {lp : List Nat} {ss : List SRaw} (h : CheckW lp ss) {j : Nat} {la : List Nat} (hm : CheckMid (ss.map toN) j la) (hj : j < ss.length) : OkRaw ss[j] ∧ StepOk (toN ss[j]) la := by
  refine ⟨h.2.1 _ (List.getElem_mem hj), ?_⟩
  have hj' : j < (ss.map toN).length := by simpa using hj
  have e : (ss.map toN)[j] = toN ss[j] := by simp
  rcases h.2.2 with ⟨h1, _⟩ | ⟨r, s, _, _, h1⟩
  · rw [h1] at hj'; cases hj'
  · rw [← e, ← hm.take hj']
    rw [← List.take_append_drop (j + 1) (ss.map toN)] at h1
    exact ((certOk_append _ _ _).1 h1).1
theorem checkW_done {lp : List Nat} {ss : List SRaw} {la : List Nat} (hm : CheckMid (ss.map toN) ss.length la) (hok : ∀ s ∈ ss, OkRaw s) {m : Nat} (he : ss.length = m + 1) (hl : m < ss.length) (hlast : natOf ss[m].P = natOf lp) (hp : OkNat lp ∨ ∃ s, ss.getLast? = some s ∧ s.P = lp) : CheckW lp ss := by
  refine ⟨?_, hok, .inr ⟨(ss.map toN).take m, toN ss[m], ?_, hlast, ?_⟩⟩
  · rcases hp with h | ⟨s, hs, rfl⟩
    · exact h
    · exact (hok s (List.mem_of_getLast? hs)).1
  · rw [show toN ss[m] = (ss.map toN)[m]'(by simp; omega) by simp, ← List.take_succ_eq_append_getElem (by simp; omega), List.take_of_length_le (by simp; omega)]
  · have := hm.cert
    rwa [List.take_of_length_le (by simp)] at this
def CFlag (b : Bool) (lp : List Nat) (ss : List SRaw) : Prop := b = true ↔ CheckW lp ss
theorem CFlag.no {b : Bool} {lp : List Nat} {ss : List SRaw} (h : CFlag b lp ss) (k : CheckW lp ss → False) : b = false := by
  cases hq : b with
  | false => rfl
  | true => exact (k (h.1 hq)).elim
/-- The steps that were gone through may be. -/
def OkTo (ss : List SRaw) (j : Nat) : Prop := ∀ i (hi : i < ss.length), i < j → OkRaw ss[i]
theorem OkTo.next {ss : List SRaw} {j : Nat} (h : OkTo ss j) (hj : j < ss.length) (ho : OkRaw ss[j]) : OkTo ss (j + 1) := fun i hi hlt => by
  rcases Nat.lt_succ_iff_lt_or_eq.1 hlt with h1 | rfl
  · exact h i hi h1
  · exact ho
theorem OkTo.all {ss : List SRaw} (h : OkTo ss ss.length) : ∀ s ∈ ss, OkRaw s := fun s hs => by
  obtain ⟨i, hi, rfl⟩ := List.mem_iff_getElem.1 hs
  exact h i hi hi
/-- The world while steps are gone through. -/
structure CheckAt (w0 u : World) (gB B nm : Nat) (la : List Nat) (A : Option Addr) (ss : List SRaw) : Prop where
  cM : u.cell? ⟨gB, 0, none⟩ = some (.map (some B))
  lt : gB < u.heap.size
  ne : gB ≠ B
  loB : w0.heap.size ≤ B
  sh : ShownAt u B nm la
  rS : RdSteps u w0.heap.size A ss
  be : Below w0.heap.size w0 u
theorem CheckAt.step {w0 u u' : World} {gB B nm : Nat} {la : List Nat} {A : Option Addr} {ss : List SRaw} (h : CheckAt w0 u gB B nm la A ss) (b : Below u.heap.size u u') : CheckAt w0 u' gB B nm la A ss :=
  ⟨(b.cell (p := ⟨gB, 0, none⟩) h.lt).trans h.cM, Nat.lt_of_lt_of_le h.lt b.size, h.ne, h.loB, h.sh.below b, fun h0 => by
    obtain ⟨g, off, e, hg, hall⟩ := h.rS h0
    have hgu : g < u.heap.size := Nat.lt_of_lt_of_le hg h.be.size
    refine ⟨g, off, e, hg, fun j hj => ?_⟩
    obtain ⟨vP, vG, vQ, h1, h2, h3, h4, h5, h6⟩ := hall j hj
    have b0 : Below w0.heap.size u u' := b.mono h.be.size
    obtain ⟨AQ, cQ, e2, h7, h8, h9⟩ := h6
    exact ⟨vP, vG, vQ, (b.cell (p := ⟨g, off + j * 3, none⟩) hgu).trans h1, (b.cell (p := ⟨g, off + j * 3 + 1, none⟩) hgu).trans h2, (b.cell (p := ⟨g, off + j * 3 + 2, none⟩) hgu).trans h3, h4.below b0, h5.below b0, AQ, cQ, e2, h7.below b0, h8, h9⟩, below_step h.be b⟩
theorem CheckAt.put {w0 u u' : World} {gB B nm m : Nat} {la : List Nat} {A : Option Addr} {ss : List SRaw} (h : CheckAt w0 u gB B nm la A ss) (sh : ShownAt u' B (nm + 1) (la ++ [m])) (hg : u.grownBy u' (some B)) : CheckAt w0 u' gB B (nm + 1) (la ++ [m]) A ss := by
  have b0 : Below w0.heap.size u u' := (Below.refl w0.heap.size u).grown hg h.be.size fun k e => by injection e with e; rw [← e]; exact h.loB
  refine ⟨(World.cell?_of_block (w := u) (hg.block gB h.lt (fun e => h.ne (by injection e)))).trans h.cM, Nat.lt_of_lt_of_le h.lt hg.size, h.ne, h.loB, sh, fun h0 => ?_, h.be.trans b0⟩
  obtain ⟨g, off, e, hg1, hall⟩ := h.rS h0
  refine ⟨g, off, e, hg1, fun j hj => ?_⟩
  obtain ⟨vP, vG, vQ, h1, h2, h3, h4, h5, h6⟩ := hall j hj
  obtain ⟨AQ, cQ, e2, h7, h8, h9⟩ := h6
  exact ⟨vP, vG, vQ, (b0.cell (p := ⟨g, off + j * 3, none⟩) hg1).trans h1, (b0.cell (p := ⟨g, off + j * 3 + 1, none⟩) hg1).trans h2, (b0.cell (p := ⟨g, off + j * 3 + 2, none⟩) hg1).trans h3, h4.below b0, h5.below b0, AQ, cQ, e2, h7.below b0, h8, h9⟩
theorem RdQ.more12 {w : World} {B B' : Nat} {v : Value} {ms : List (List Nat)} (h : RdQ w B v ms) (hB : B ≤ B') : RdQ w B' v ms := by
  obtain ⟨A, c, e, h1, h2, h3⟩ := h
  exact ⟨A, c, e, h1.more hB, h2, h3⟩
set_option maxHeartbeats 16000000 in
theorem check_known11 {w : World} {v : Value} {lp : List Nat} {A : Option Addr} {c : Nat} (hv : RdNat w w.heap.size v lp) (hp : OkNat lp) (b : Bool) (hb : CFlag b lp []) :
    Calls Tryz.prog 9 #[v, .slice A 0 c] w fun e w' => e = .returned (.bool b) ∧ Below w.heap.size w w' := by
  have hl : lp.length ≤ 40 := by
    have h1 := congrArg List.length hp.1
    rw [length_wd] at h1
    have := hp.2
    omega
  have C1 := Lib.hid (isKnown11 hv hl b (hb.trans ⟨fun h => checkN_nil.1 h.2.2, fun h => ⟨hp, by simp, checkN_nil.2 h⟩⟩))
  obtain ⟨Av, cv, rfl, _⟩ := hv
  clear hp hb hl
  go_enter Tryz.func9, Tryz.ntmps9
  go_wp2_with fail
  refine (C1.out).mono ?_
  rintro e w1 ⟨rfl, b1⟩
  have B1 := Lib.hid b1
  clear b1
  go_wp2_with fail
  go_ret
  exact ⟨rfl, B1.out⟩
set_option maxHeartbeats 16000000 in
theorem check_steps11 {w : World} {Av A : Option Addr} {nv cv n c : Nat} {lp : List Nat} {ss : List SRaw} (hv : RdNat w w.heap.size (.slice Av nv cv) lp) (hl40 : lp.length ≤ 40) (hp : OkNat lp ∨ ∃ s, ss.getLast? = some s ∧ s.P = lp) (h : RdSteps w w.heap.size A ss) (hn : ss.length = n) (h0 : 0 < n) (hf : FewAll ss) (b : Bool) (hb : CFlag b lp ss) :
    Calls Tryz.prog 9 #[.slice Av nv cv, .slice A n c] w fun e w' => e = .returned (.bool b) ∧ Below w.heap.size w w' := by
  obtain ⟨m, rfl⟩ : ∃ m, n = m + 1 := ⟨n - 1, by omega⟩
  have hml : m < ss.length := by omega
  obtain ⟨g, o, rfl, hg, hall⟩ := h (by omega)
  obtain ⟨vP, vG, vQ, eP, _, _, rP, _, _⟩ := hall m hml
  obtain ⟨Al, cl, rfl, _, _, _, _⟩ := id rP
  obtain ⟨nl, hnl⟩ : ∃ k, ss[m].P.length = k := ⟨_, rfl⟩
  have hlP40 := (hf.2 _ (List.getElem_mem hml)).2.1
  have C1 := bCmp (rP.in12 hlP40) (hv.in12 hl40)
  obtain ⟨x, hx⟩ : ∃ x, cmpS (natOf ss[m].P) (natOf lp) = x := ⟨_, rfl⟩
  rw [hx] at C1
  rw [hnl] at eP C1
  have hm30 : m + 1 ≤ 30 := by have := hf.1; omega
  have HN := Lib.hid hn
  have HML := Lib.hid hml
  have HF := Lib.hid hf
  have HC := Lib.hid hb
  have HP := Lib.hid hp
  have HS := Lib.hid h
  have HWI := Lib.hid (show IntKind.i64.wrap (((m + 1 : Nat) : Int) - 1) = (m : Int) from by unfold IntKind.wrap; simp [IntKind.signed, IntKind.bits]; omega)
  have hmm := @run_makeMap Tryz.prog
  clear hall hb hp h hf rP hnl hn hlP40
  by_cases he : natOf ss[m].P = natOf lp
  · have HE := Lib.hid he
    obtain rfl : x = 0 := by rw [← hx]; unfold cmpS; rw [if_neg (by omega), if_neg (by omega)]
    clear hx
    have C1 := Lib.hid C1
    clear he
    go_enter Tryz.func9, Tryz.ntmps9
    go_wp2_with fail
    refine (C1.out).mono ?_
    rintro e w1 ⟨rfl, b1⟩
    obtain ⟨B, hB⟩ : ∃ B, w1.heap.size = B := ⟨_, rfl⟩
    have hD0 : CheckAt w ((w1.alloc (.map #[] 0)).alloc (.cells #[.map (some B)] 50)) (B + 1) B 0 [] (some ⟨g, o, none⟩) ss := by
      have b2 : Below w1.heap.size w1 ((w1.alloc (.map #[] 0)).alloc (.cells #[.map (some B)] 50)) := ((Below.refl _ w1).alloc (Nat.le_refl _) _).alloc (by simp) _
      have b3 : Below w.heap.size w ((w1.alloc (.map #[] 0)).alloc (.cells #[.map (some B)] 50)) := below_step b1 b2
      refine ⟨by subst hB; go_simp, by simp [hB], by omega, by rw [← hB]; exact b1.size, ?_, ?_, b3⟩
      · have := SetAt.made w1 Tryz.prog 9 4
        rw [hB] at this
        exact ShownAt.below (SetAt.same this fun kl => by simp) ((Below.refl _ _).alloc (Nat.le_refl _) _)
      · intro h0
        obtain ⟨g, off, e, hg, hall⟩ := HS.out h0
        refine ⟨g, off, e, hg, fun j hj => ?_⟩
        obtain ⟨vP, vG, vQ, h1, h2, h3, h4, h5, h6⟩ := hall j hj
        obtain ⟨AQ, cQ, e2, h7, h8, h9⟩ := h6
        exact ⟨vP, vG, vQ, (b3.cell (p := ⟨g, off + j * 3, none⟩) hg).trans h1, (b3.cell (p := ⟨g, off + j * 3 + 1, none⟩) hg).trans h2, (b3.cell (p := ⟨g, off + j * 3 + 2, none⟩) hg).trans h3, h4.below b3, h5.below b3, AQ, cQ, e2, h7.below b3, h8, h9⟩
    have HD0 := Lib.hid hD0
    have HMid := Lib.hid (CheckMid.start (ss.map toN))
    have HOk := Lib.hid (show OkTo ss 0 from fun i _ h => by omega)
    clear hD0 b1 C1 eP HS
    go_wp2_with fail
    go_loopw [28] (fun jv wr => ∃ (j : Nat) (la : List Nat), jv = .int .i64 j ∧ j ≤ m + 1 ∧ Hid (CheckAt w wr (B + 1) B j la (some ⟨g, o, none⟩) ss) ∧ Hid (CheckMid (ss.map toN) j la) ∧ Hid (OkTo ss j)) (fun jv _ => m + 1 - (intOf jv).toNat)
    case atStart => exact ⟨0, [], rfl, Nat.zero_le _, HD0, HMid, HOk⟩
    case round =>
      clear HD0 HMid HOk
      obtain ⟨j, la, rfl, hj, HD, HMid, HOk⟩ := hrel
      by_cases hlt : j < m + 1
      · have hjs : j < ss.length := by rw [HN.out]; exact hlt
        obtain ⟨g', o', hA, hg', hall⟩ := HD.out.rS (by rw [HN.out]; omega)
        injection hA with hA
        injection hA with hA1 hA2 _
        subst hA1 hA2
        obtain ⟨vP, vG, vQ, eP, eG, eQ, rP, rG, rQ⟩ := hall j hjs
        have hsz := HD.out.be.size
        have rP := rP.more hsz
        have rG := rG.more hsz
        have rQ := rQ.more12 hsz
        obtain ⟨AP, cP, rfl, _, _, _, _⟩ := id rP
        obtain ⟨AG, cG, rfl, _, _, _, _⟩ := id rG
        obtain ⟨AQ, cQ, rfl, _, _, _⟩ := id rQ
        have hfj := HF.out.2 _ (List.getElem_mem hjs)
        obtain ⟨bW, hbW⟩ := some_flag11 (OkRaw ss[j] ∧ StepOk (toN ss[j]) la)
        obtain ⟨nP, hnP⟩ : ∃ k, ss[j].P.length = k := ⟨_, rfl⟩
        obtain ⟨nG, hnG⟩ : ∃ k, ss[j].G.length = k := ⟨_, rfl⟩
        obtain ⟨nQ, hnQ⟩ : ∃ k, ss[j].Q.length = k := ⟨_, rfl⟩
        rw [hnP] at eP rP
        rw [hnG] at eG rG
        rw [hnQ] at eQ rQ
        obtain ⟨V, hV⟩ : ∃ V, wr.alloc (.cells #[.slice AP nP cP, .slice AG nG cG, .slice AQ nQ cQ] 37) = V := ⟨_, rfl⟩
        have bV : Below wr.heap.size wr V := by rw [← hV]; exact (Below.refl _ wr).alloc (Nat.le_refl _) _
        have hX : StepBox V wr.heap.size (.slice AP nP cP) (.slice AG nG cG) (.slice AQ nQ cQ) := by rw [← hV]; exact StepBox.new _ _ _ _ _
        obtain ⟨gS, hgS⟩ : ∃ k, wr.heap.size = k := ⟨_, rfl⟩
        rw [hgS] at hX
        have HD1 := Lib.hid (HD.out.step bV)
        have RP := Lib.hid (rP.step11 bV)
        have C2 := Lib.hid (holds11 (rP.step11 bV) (rG.step11 bV) (rQ.step11 bV) hnQ hfj HD1.out.cM HD1.out.lt HD1.out.sh HMid.out.prm bW hbW)
        have HW := Lib.hid (show WFlag bW ss[j] la from hbW)
        have HX := Lib.hid hX
        have HFJ := Lib.hid hfj
        have xP := hX.cP
        have xG := hX.cG
        have xQ := hX.cQ
        clear hbW hnP hnG hnQ hall rP rG rQ hfj hX hsz bV
        go_wp2_with fail
        refine (C2.out).mono ?_
        rintro e u1 ⟨rfl, b1⟩
        have HD2 := Lib.hid (HD1.out.step b1)
        have HX2 := Lib.hid (HX.out.below b1)
        have RP2 := Lib.hid (RP.out.step11 b1)
        clear b1 C2 xP xG xQ HX RP HD1 hV hgS eP eG eQ
        cases bW
        · obtain rfl : b = false := HC.out.no fun k => by have h := HW.out.2 (k.step11 HMid.out hjs); cases h
          go_wp2_with fail
          go_ret
          exact ⟨rfl, HD2.out.be⟩
        · obtain ⟨hok, hst⟩ := HW.out.1 rfl
          have hjm : j < (ss.map toN).length := by simpa using hjs
          have HMid2 := Lib.hid (HMid.out.next hjm (by rw [List.getElem_map]; exact hst))
          rw [show (ss.map toN)[j].P = natOf ss[j].P by simp [toN]] at HMid2
          have HOk2 := Lib.hid (HOk.out.next hjs hok)
          have HokP := Lib.hid hok.1
          obtain ⟨V1, hV1⟩ : ∃ V, u1.drew = V := ⟨_, rfl⟩
          have bd : Below u1.heap.size u1 V1 := by rw [← hV1]; exact (Drawn.more 1).below11
          have HD3 := Lib.hid (HD2.out.step bd)
          have RP3 := Lib.hid (RP2.out.step11 bd)
          have xP := (HX2.out.below bd).cP
          have kM := HD3.out.cM
          clear hok hst bd HD2 HX2 RP2
          go_wp2_with fail
          refine wp_region_any (by kernel_rfl) ?_
          change wpAny _ _ _ _ _ _ _ u1.drew
          rw [hV1]
          clear hV1
          refine wpAny_takeD (i := 1) (d := 37) (v := .pointer (some ⟨gS, 0, none⟩)) rfl (by kernel_rfl) (by kernel_rfl) (by kernel_rfl) (by kernel_rfl) (fun _ _ _ h => h) (Or.inl ⟨by kernel_rfl, fun W => by go_simp⟩) ?_
          refine anyP.toAny (s := 4) (B := fun u => u.cell? ⟨B + 1, 0, none⟩ = some (.map (some B))) ?_
          refine anyP_take (i := 0) (d := 36) (v := .map (some B)) rfl rfl (by kernel_rfl) (by kernel_rfl) (by kernel_rfl) (by kernel_rfl) (by kernel_rfl) (by kernel_rfl) (fun _ _ _ h => h) ⟨by kernel_rfl, fun W hW => by go_simp⟩ ?_
          refine anyP_one (i := 2) (by kernel_rfl) rfl (fun _ => kM) (fun K hK => ?_)
          go_simp
          refine hK _ _ ?_
          clear hK K
          refine anyP_one (i := 3) (by kernel_rfl) rfl (fun _ => kM) (fun K hK => ?_)
          go_simp
          refine (name11 RP3.out HFJ.out.2.1).mono ?_
          rintro e u2 ⟨rfl, b2⟩
          have HD4 := Lib.hid (HD3.out.step b2)
          have kM2 := HD4.out.cM
          obtain ⟨w3, hrun, hsh, hgr⟩ := HD4.out.sh.put (by unfold maxLen; omega) HokP.out.2
          have HD5 := Lib.hid (HD4.out.put hsh hgr)
          clear b2 hsh hgr kM xP
          refine hK _ _ ?_
          clear hK K
          refine anyP_one (i := 4) (by kernel_rfl) rfl (fun _ => kM2) (fun K hK => ?_)
          go_simp
          refine hK _ _ ?_
          clear hK K hrun kM2
          refine anyP_done (by kernel_rfl) (by kernel_rfl) ?_
          go_step
          go_simp
          go_wp2_with fail
          go_roundw
          case rel => exact ⟨_, _, by go_num, by omega, HD5, HMid2, HOk2⟩
          case measure => simp [intOf]; omega
      · obtain rfl : j = m + 1 := by omega
        obtain rfl : b = true := HC.out.2 (checkW_done (by rw [HN.out]; exact HMid.out) (OkTo.all (by rw [HN.out]; exact HOk.out)) HN.out hml HE.out HP.out)
        go_wp2_with fail
        go_ret
        exact ⟨rfl, HD.out.be⟩
  · have hx0 : (x == 0) = false := by
      unfold cmpS at hx
      split at hx
      · subst hx; rfl
      · split at hx
        · subst hx; rfl
        · omega
    obtain rfl : b = false := HC.out.no fun k => he (k.last11 HN.out hml)
    have C1 := Lib.hid C1
    clear he hx
    go_enter Tryz.func9, Tryz.ntmps9
    go_wp2_with fail
    refine (C1.out).mono ?_
    rintro e w1 ⟨rfl, b1⟩
    have B1 := Lib.hid b1
    clear b1
    go_wp2_with fail
    go_ret
    exact ⟨rfl, B1.out⟩
/-- Check, of words that may be, or that the last step has. -/
theorem praCheck_pf {w : World} {v : Value} {lp : List Nat} {A : Option Addr} {c : Nat} {ss : List SRaw} (hv : RdNat w w.heap.size v lp) (hp : OkNat lp ∨ ∃ s, ss.getLast? = some s ∧ s.P = lp) (h : RdSteps w w.heap.size A ss) (hf : FewAll ss) (b : Bool) (hb : b = true ↔ CheckW lp ss) :
    Calls Tryz.prog 9 #[v, .slice A ss.length c] w fun e w' => e = .returned (.bool b) ∧ Below w.heap.size w w' := by
  by_cases h0 : ss.length = 0
  · obtain rfl := List.eq_nil_of_length_eq_zero h0
    refine check_known11 hv (hp.resolve_right ?_) b hb
    rintro ⟨s, hs, _⟩
    cases hs
  · have hl40 : lp.length ≤ 40 := by
      rcases hp with hp | ⟨s, hs, rfl⟩
      · have h1 := congrArg List.length hp.1
        rw [length_wd] at h1
        have := hp.2
        omega
      · exact (hf.2 s (List.mem_of_getLast? hs)).2.1
    obtain ⟨Av, cv, rfl, _⟩ := id hv
    exact check_steps11 hv hl40 hp h rfl (by omega) hf b hb
end Go.Proofs.YtjpfcdgaepdcdaaGreat
/- pratt's contract of Check, as laws use it. Conditions: as typed (steps that may be gone through; a number that may be, or is the last step's). -/
namespace Go.Proofs.YtjpfcdgaepdcdaaGreat
open Go.RowKit
/-- What the row lists, as the contracts ask it: nothing, as long as no table is read. -/
def LaidT (_ : World) : Prop := True
theorem LaidT.below {w w' : World} (_ : LaidT w) (_ : Below w.heap.size w w') : LaidT w' := trivial
/-- Check, of words that may be, or that the last step has. -/
theorem praCheck_any {w : World} {v : Value} {lp : List Nat} {A : Option Addr} {c : Nat} {ss : List SRaw} (hv : RdNat w w.heap.size v lp) (hp : OkNat lp ∨ ∃ s, ss.getLast? = some s ∧ s.P = lp) (h : RdSteps w w.heap.size A ss) (hc : ss.length ≤ c) (hf : FewAll ss) (b : Bool) (hb : b = true ↔ CheckW lp ss) (hL : LaidT w) :
    Calls Tryz.prog 9 #[v, .slice A ss.length c] w fun e w' => e = .returned (.bool b) ∧ Below w.heap.size w w' := (fun _ _ => praCheck_pf hv hp h hf b hb) hc hL
end Go.Proofs.YtjpfcdgaepdcdaaGreat
/- pratt's contracts in the form that laws use: numbers of a word, low steps, the chapter's examples. Conditions: as typed. -/
namespace Go.Proofs.YtjpfcdgaepdcdaaGreat
open Go.RowKit
set_option maxRecDepth 20000
theorem wd_word11 (n : Nat) (hn : n < 18446744073709551616) : wd n = if n = 0 then [] else [n] := by
  by_cases h : n = 0
  · subst h
    rw [if_pos rfl]
    exact List.eq_nil_of_length_eq_zero (by rw [length_wd, nbits_zero])
  · rw [if_neg h]; exact (wd_one n hn h).1
/-- A number of a word, as N makes it. -/
def OneW (n : Nat) : List Nat := if n = 0 then [] else [n]
theorem oneW_ok {n : Nat} (hn : n < 18446744073709551616) : OkNat (OneW n) ∧ natOf (OneW n) = n := by
  have e : OneW n = wd n := (wd_word11 n hn).symm
  refine ⟨⟨by rw [e, natOf_wd], by rw [e, natOf_wd]; have := nbits_of_lt n 64 hn; omega⟩, by rw [e, natOf_wd]⟩
/-- A low number, as its only word. -/
theorem small_word11 {l : List Nat} (h : smallB11 l = true) : OkNat l ∧ natOf l = nth l 0 := by
  unfold smallB11 at h
  simp only [decide_eq_true_eq] at h
  rcases h with h | ⟨h1, h2, h3⟩
  · obtain rfl := List.eq_nil_of_length_eq_zero h
    exact ⟨(oneW_ok (n := 0) (by omega)).1, rfl⟩
  · obtain ⟨x, rfl⟩ : ∃ x, l = [x] := by
      cases l with
      | nil => cases h1
      | cons x t =>
        cases t with
        | nil => exact ⟨x, rfl⟩
        | cons y t => simp at h1
    have hx : nth [x] 0 = x := rfl
    rw [hx] at h2 h3
    have e : OneW x = [x] := by unfold OneW; rw [if_neg (by omega)]
    have := oneW_ok (n := x) (by omega)
    rw [e] at this
    exact this
theorem low_toN {ss : List SRaw} (h : ∀ s ∈ ss, LowOne s) : (∀ s ∈ ss, OkRaw s) ∧ ss.map toN = ss.map toC := by
  refine ⟨fun s hs => ⟨(small_word11 (h s hs).1).1, (small_word11 (h s hs).2.1).1, fun q hq => (small_word11 ((h s hs).2.2 q hq)).1⟩, List.map_congr_left fun s hs => ?_⟩
  unfold toN toC
  rw [(small_word11 (h s hs).1).2, (small_word11 (h s hs).2.1).2]
  congr 1
  exact List.map_congr_left fun q hq => (small_word11 ((h s hs).2.2 q hq)).2
theorem checkW_low {n : Nat} (hn : n < 18446744073709551616) {ss : List SRaw} (h : ∀ s ∈ ss, LowOne s) : CheckW (OneW n) ss ↔ CheckN n (ss.map toC) := by
  obtain ⟨h1, h2⟩ := low_toN h
  unfold CheckW
  rw [(oneW_ok hn).2, h2]
  exact ⟨fun k => k.2.2, fun k => ⟨(oneW_ok hn).1, h1, k⟩⟩
/-- N of the laws. -/
theorem hN11 (w : World) (x : Nat) (xi : Int) (hx : xi = (x : Int)) (hl : x < 18446744073709551616) : Calls Tryz.prog 10 #[.int .u64 xi] w fun e w' => ∃ A q d, e = .returned (.slice A q d) ∧ RdNat w' w'.heap.size (.slice A q d) (OneW x) ∧ Below w.heap.size w w' := by
  subst hx
  by_cases h0 : x = 0
  · subst h0
    go_enter Tryz.func10, Tryz.ntmps10
    go_wp2_with fail
    go_ret
    exact ⟨none, 0, 0, rfl, ⟨none, 0, rfl, Rd.nil, Nat.le_refl _, (by intro y hy; cases hy), by simp [OneW]⟩, Below.refl _ _⟩
  · have hb : ((x : Int) == 0) = false := by simp; omega
    have HS := Lib.hid (show RdNat (w.alloc (.cells #[.int .u64 (x : Int)] 27)) (w.alloc (.cells #[.int .u64 (x : Int)] 27)).heap.size (.slice (some ⟨w.heap.size, 0, none⟩) 1 1) (OneW x) from by
      have e : OneW x = [x] := by unfold OneW; rw [if_neg h0]
      rw [e]
      refine ⟨some ⟨w.heap.size, 0, none⟩, 1, rfl, ?_, Nat.le_refl _, (by intro y hy; rw [List.mem_singleton.1 hy]; exact hl), by simp⟩
      exact Rd.own (own_of_heap (base := w.heap.size) (e := 27) (n := 1) (cap := 1) (cur := [.int .u64 (x : Int)]) (xs := ints .u64 [x]) (World.alloc_heap_new w _) (Nat.le_refl _) (Nat.le_refl _) (by unfold maxLen; omega) rfl rfl))
    clear h0
    go_enter Tryz.func10, Tryz.ntmps10
    go_wp2_with fail
    go_ret
    exact ⟨_, 1, 1, rfl, HS.out, (Below.refl _ w).alloc (Nat.le_refl _) _⟩
/-! The examples -/
theorem check_7_0 : CheckN 7 [] := .inl ⟨rfl, by omega, prm_tried (f := 1) (by omega) (by decide) (by omega)⟩
theorem check_9_0 : ¬ CheckN 9 [] := by
  rintro (⟨_, _, h⟩ | ⟨r, s, h, _⟩)
  · exact absurd (h.2 3 ⟨3, rfl⟩) (by omega)
  · have := congrArg List.length h; simp at this
theorem stepOk_7 : StepOk ⟨7, 3, [2, 3]⟩ [] where
  odd := rfl
  three := by decide
  one := by decide
  less := by decide
  rise := by simp
  shown := fun q hq => .inl (by
    have : q = 2 ∨ q = 3 := by simpa using hq
    rcases this with rfl | rfl
    · exact ⟨by omega, prm_tried (f := 0) (by omega) rfl (by omega)⟩
    · exact ⟨by omega, prm_tried (f := 0) (by omega) rfl (by omega)⟩)
  parts := fun q hq => by
    have : q = 2 ∨ q = 3 := by simpa using hq
    rcases this with rfl | rfl
    · exact ⟨3, rfl⟩
    · exact ⟨2, rfl⟩
  all := fun r hr hd => by
    have h1 : r ∣ 6 := hd
    have h2 := Nat.le_of_dvd (by omega) h1
    have h3 := hr.1
    have : r = 2 ∨ r = 3 ∨ r = 4 ∨ r = 5 ∨ r = 6 := by omega
    rcases this with rfl | rfl | rfl | rfl | rfl
    · simp
    · simp
    · exact absurd h1 (by omega)
    · exact absurd h1 (by omega)
    · exact absurd (hr.2 2 ⟨3, rfl⟩) (by omega)
  whole := by decide
  none := fun q hq => by
    have : q = 2 ∨ q = 3 := by simpa using hq
    rcases this with rfl | rfl <;> decide
theorem check_7_3 : CheckN 7 [⟨7, 3, [2, 3]⟩] := .inr ⟨[], _, rfl, rfl, stepOk_7, trivial⟩
theorem check_7_2 : ¬ CheckN 7 [⟨7, 2, [2, 3]⟩] := by
  rintro (⟨h, _⟩ | ⟨r, s, h, _, h1⟩)
  · cases h
  · exact h1.1.none 2 (by simp) (by decide)
end Go.Proofs.YtjpfcdgaepdcdaaGreat
/- Chapter 11's examples. No condition. -/
namespace Go.Proofs.YtjpfcdgaepdcdaaGreat
open Go.RowKit
set_option maxRecDepth 20000
/-- One step of two primes, made in place. -/
theorem one_step11 {w : World} {vP vG v1 v2 : Value} {lP lG l1 l2 : List Nat} (tN tS : TypeId) (hP : RdNat w w.heap.size vP lP) (hG : RdNat w w.heap.size vG lG) (h1 : RdNat w w.heap.size v1 l1) (h2 : RdNat w w.heap.size v2 l2) :
    RdSteps ((w.alloc (.cells #[v1, v2] tN)).alloc (.cells #[vP, vG, .slice (some ⟨w.heap.size, 0, none⟩) 2 2] tS)) ((w.alloc (.cells #[v1, v2] tN)).alloc (.cells #[vP, vG, .slice (some ⟨w.heap.size, 0, none⟩) 2 2] tS)).heap.size (some ⟨w.heap.size + 1, 0, none⟩) [⟨lP, lG, [l1, l2]⟩] := by
  obtain ⟨W, hW⟩ : ∃ W, (w.alloc (.cells #[v1, v2] tN)).alloc (.cells #[vP, vG, .slice (some ⟨w.heap.size, 0, none⟩) 2 2] tS) = W := ⟨_, rfl⟩
  have hB : Below w.heap.size w W := by rw [← hW]; exact ((Below.refl _ w).alloc (Nat.le_refl _) _).alloc (by simp) _
  have hs : W.heap.size = w.heap.size + 2 := by rw [← hW]; simp
  have q : ∀ i, W.cell? ⟨w.heap.size, i, none⟩ = (#[v1, v2] : Array Value)[i]? := fun i => by
    have e1 : W.cell? ⟨w.heap.size, i, none⟩ = (w.alloc (.cells #[v1, v2] tN)).cell? ⟨w.heap.size, i, none⟩ := by
      rw [← hW]; exact World.cell?_alloc_past _ _ _ (by simp)
    rw [e1, World.cell?_alloc_at _ _ _ _ rfl]
  have q0 : W.cell? ⟨w.heap.size, 0, none⟩ = some v1 ∧ W.cell? ⟨w.heap.size, 1, none⟩ = some v2 := ⟨q 0, q 1⟩
  have q1 : ∀ i, W.cell? ⟨w.heap.size + 1, i, none⟩ = (#[vP, vG, .slice (some ⟨w.heap.size, 0, none⟩) 2 2] : Array Value)[i]? := fun i => by
    rw [← hW, World.cell?_alloc_at _ _ _ _ (by simp)]
  rw [hW]
  intro _
  refine ⟨w.heap.size + 1, 0, rfl, by omega, fun j hj => ?_⟩
  obtain rfl : j = 0 := by simpa using hj
  refine ⟨vP, vG, _, q1 0, q1 1, q1 2, hP.step11 hB, hG.step11 hB, some ⟨w.heap.size, 0, none⟩, 2, rfl, fun _ => ⟨w.heap.size, 0, rfl, by omega, fun i hi => ?_⟩, Nat.le_refl _, by simp⟩
  have hi2 : i < 2 := by simpa using hi
  rcases (show i = 0 ∨ i = 1 by omega) with rfl | rfl
  · exact ⟨v1, q0.1, h1.step11 hB⟩
  · exact ⟨v2, q0.2, h2.step11 hB⟩
def exA11 : List SRaw := [⟨OneW 7, OneW 3, [OneW 2, OneW 3]⟩]
def exB11 : List SRaw := [⟨OneW 7, OneW 2, [OneW 2, OneW 3]⟩]
theorem ex_few11 : FewAll exA11 ∧ FewAll exB11 := by
  refine ⟨⟨by decide, fun s hs => ?_⟩, ⟨by decide, fun s hs => ?_⟩⟩
  · obtain rfl := List.mem_singleton.1 hs
    exact ⟨by decide, by decide, by decide, by decide⟩
  · obtain rfl := List.mem_singleton.1 hs
    exact ⟨by decide, by decide, by decide, by decide⟩
theorem exA_low : ∀ s ∈ exA11, LowOne s := fun s hs => by
  obtain rfl := List.mem_singleton.1 hs
  exact ⟨by decide, by decide, by decide⟩
theorem exB_low : ∀ s ∈ exB11, LowOne s := fun s hs => by
  obtain rfl := List.mem_singleton.1 hs
  exact ⟨by decide, by decide, by decide⟩
theorem exA_yes : CheckW (OneW 7) exA11 := (checkW_low (by omega) exA_low).2 check_7_3
theorem exB_no : ¬ CheckW (OneW 7) exB11 := fun h => check_7_2 ((checkW_low (by omega) exB_low).1 h)
theorem none_yes11 : CheckW (OneW 7) [] := (checkW_low (by omega) (by simp)).2 check_7_0
theorem none_no11 : ¬ CheckW (OneW 9) [] := fun h => check_9_0 ((checkW_low (by omega) (by simp)).1 h)
theorem rdSteps_nil11 (w : World) (A : Option Addr) : RdSteps w w.heap.size A [] := fun h => absurd h (by simp)
theorem few_nil11 : FewAll [] := ⟨by simp, by simp⟩
set_option maxHeartbeats 8000000 in
theorem praWorks_any (w : World) (hL : LaidT w) : Calls Tryz.prog 6 #[] w fun e w' => e = .returned (.bool true) ∧ Below w.heap.size w w' := by
  have HLd := Lib.hid hL
  clear hL
  have HN := Lib.hid (fun (u : World) (x : Nat) (h : x < 18446744073709551616) => hN11 u x (x : Int) rfl h)
  go_enter Tryz.func6, Tryz.ntmps6
  go_wp2_with fail
  refine (HN.out w 7 (by omega)).mono ?_
  rintro e w1 ⟨A1, q1, d1, rfl, N1, b1⟩
  have B1 := Lib.hid b1
  have M1 := Lib.hid N1
  clear b1 N1
  go_wp2_with fail
  refine (HN.out w1 3 (by omega)).mono ?_
  rintro e w2 ⟨A2, q2, d2, rfl, N2, b2⟩
  have B2 := Lib.hid (below_step B1.out b2)
  have M1 := Lib.hid (M1.out.step11 b2)
  have M2 := Lib.hid N2
  clear b2 N2
  go_wp2_with fail
  refine (HN.out w2 2 (by omega)).mono ?_
  rintro e w3 ⟨A3, q3, d3, rfl, N3, b3⟩
  have B3 := Lib.hid (below_step B2.out b3)
  have M1 := Lib.hid (M1.out.step11 b3)
  have M2 := Lib.hid (M2.out.step11 b3)
  have M3 := Lib.hid N3
  clear b3 N3
  go_wp2_with fail
  refine (HN.out w3 3 (by omega)).mono ?_
  rintro e w4 ⟨A4, q4, d4, rfl, N4, b4⟩
  have B4 := Lib.hid (below_step B3.out b4)
  have M1 := Lib.hid (M1.out.step11 b4)
  have M2 := Lib.hid (M2.out.step11 b4)
  have M3 := Lib.hid (M3.out.step11 b4)
  have M4 := Lib.hid N4
  clear b4 N4
  have SA := Lib.hid (one_step11 (w := w4) 33 37 M1.out M2.out M3.out M4.out)
  have bm4 := Below.alloc ((Below.refl w4.heap.size w4).alloc (Nat.le_refl _) (.cells #[.slice A3 q3 d3, .slice A4 q4 d4] 33)) (by simp) (.cells #[.slice A1 q1 d1, .slice A2 q2 d2, .slice (some ⟨w4.heap.size, 0, none⟩) 2 2] 37)
  have Bm4 := Lib.hid (below_step B4.out bm4)
  clear bm4 M1 M2 M3 M4
  go_wp2_with fail
  refine (HN.out _ 7 (by omega)).mono ?_
  rintro e w5 ⟨A5, q5, d5, rfl, N5, b5⟩
  have B5 := Lib.hid (below_step Bm4.out b5)
  have SA := Lib.hid (SA.out.step11 b5)
  have M5 := Lib.hid N5
  clear b5 N5
  go_wp2_with fail
  refine (HN.out w5 2 (by omega)).mono ?_
  rintro e w6 ⟨A6, q6, d6, rfl, N6, b6⟩
  have B6 := Lib.hid (below_step B5.out b6)
  have SA := Lib.hid (SA.out.step11 b6)
  have M5 := Lib.hid (M5.out.step11 b6)
  have M6 := Lib.hid N6
  clear b6 N6
  go_wp2_with fail
  refine (HN.out w6 2 (by omega)).mono ?_
  rintro e w7 ⟨A7, q7, d7, rfl, N7, b7⟩
  have B7 := Lib.hid (below_step B6.out b7)
  have SA := Lib.hid (SA.out.step11 b7)
  have M5 := Lib.hid (M5.out.step11 b7)
  have M6 := Lib.hid (M6.out.step11 b7)
  have M7 := Lib.hid N7
  clear b7 N7
  go_wp2_with fail
  refine (HN.out w7 3 (by omega)).mono ?_
  rintro e w8 ⟨A8, q8, d8, rfl, N8, b8⟩
  have B8 := Lib.hid (below_step B7.out b8)
  have SA := Lib.hid (SA.out.step11 b8)
  have M5 := Lib.hid (M5.out.step11 b8)
  have M6 := Lib.hid (M6.out.step11 b8)
  have M7 := Lib.hid (M7.out.step11 b8)
  have M8 := Lib.hid N8
  clear b8 N8
  have SB := Lib.hid (one_step11 (w := w8) 33 37 M5.out M6.out M7.out M8.out)
  have bm8 := Below.alloc ((Below.refl w8.heap.size w8).alloc (Nat.le_refl _) (.cells #[.slice A7 q7 d7, .slice A8 q8 d8] 33)) (by simp) (.cells #[.slice A5 q5 d5, .slice A6 q6 d6, .slice (some ⟨w8.heap.size, 0, none⟩) 2 2] 37)
  have SA := Lib.hid (SA.out.step11 bm8)
  have Bm8 := Lib.hid (below_step B8.out bm8)
  clear bm8 M5 M6 M7 M8
  go_wp2_with fail
  refine (HN.out _ 7 (by omega)).mono ?_
  rintro e w9 ⟨A9, q9, d9, rfl, N9, b9⟩
  have B9 := Lib.hid (below_step Bm8.out b9)
  have SA := Lib.hid (SA.out.step11 b9)
  have SB := Lib.hid (SB.out.step11 b9)
  have M9 := Lib.hid N9
  clear b9 N9
  go_wp2_with fail
  refine (praCheck_any (w := w9) M9.out (.inl (oneW_ok (by omega)).1) (ss := []) (A := none) (c := 0) (rdSteps_nil11 _ none) (Nat.le_refl _) few_nil11 true ⟨fun _ => none_yes11, fun _ => rfl⟩ (HLd.out.below B9.out)).mono ?_
  rintro e w10 ⟨rfl, b10⟩
  have B10 := Lib.hid (below_step B9.out b10)
  have SA := Lib.hid (SA.out.step11 b10)
  have SB := Lib.hid (SB.out.step11 b10)
  have M9 := Lib.hid (M9.out.step11 b10)
  clear b10 M9
  go_wp2_with fail
  refine (HN.out _ 9 (by omega)).mono ?_
  rintro e w11 ⟨A11, q11, d11, rfl, N11, b11⟩
  have B11 := Lib.hid (below_step B10.out b11)
  have SA := Lib.hid (SA.out.step11 b11)
  have SB := Lib.hid (SB.out.step11 b11)
  have M10 := Lib.hid N11
  clear b11 N11
  go_wp2_with fail
  refine (praCheck_any (w := w11) M10.out (.inl (oneW_ok (by omega)).1) (ss := []) (A := none) (c := 0) (rdSteps_nil11 _ none) (Nat.le_refl _) few_nil11 false ⟨fun h => (Bool.false_ne_true h).elim, fun h => absurd h none_no11⟩ (HLd.out.below B11.out)).mono ?_
  rintro e w12 ⟨rfl, b12⟩
  have B12 := Lib.hid (below_step B11.out b12)
  have SA := Lib.hid (SA.out.step11 b12)
  have SB := Lib.hid (SB.out.step11 b12)
  have M10 := Lib.hid (M10.out.step11 b12)
  clear b12 M10
  go_wp2_with fail
  refine (HN.out _ 7 (by omega)).mono ?_
  rintro e w13 ⟨A13, q13, d13, rfl, N13, b13⟩
  have B13 := Lib.hid (below_step B12.out b13)
  have SA := Lib.hid (SA.out.step11 b13)
  have SB := Lib.hid (SB.out.step11 b13)
  have M11 := Lib.hid N13
  clear b13 N13
  go_wp2_with fail
  refine (praCheck_any (w := w13) M11.out (.inl (oneW_ok (by omega)).1) (ss := exA11) (c := 1) SA.out (by decide) ex_few11.1 true ⟨fun _ => exA_yes, fun _ => rfl⟩ (HLd.out.below B13.out)).mono ?_
  rintro e w14 ⟨rfl, b14⟩
  have B14 := Lib.hid (below_step B13.out b14)
  have SA := Lib.hid (SA.out.step11 b14)
  have SB := Lib.hid (SB.out.step11 b14)
  have M11 := Lib.hid (M11.out.step11 b14)
  clear b14 M11
  go_wp2_with fail
  refine (HN.out _ 7 (by omega)).mono ?_
  rintro e w15 ⟨A15, q15, d15, rfl, N15, b15⟩
  have B15 := Lib.hid (below_step B14.out b15)
  have SA := Lib.hid (SA.out.step11 b15)
  have SB := Lib.hid (SB.out.step11 b15)
  have M12 := Lib.hid N15
  clear b15 N15
  go_wp2_with fail
  refine (praCheck_any (w := w15) M12.out (.inl (oneW_ok (by omega)).1) (ss := exB11) (c := 1) SB.out (by decide) ex_few11.2 false ⟨fun h => (Bool.false_ne_true h).elim, fun h => absurd h exB_no⟩ (HLd.out.below B15.out)).mono ?_
  rintro e w16 ⟨rfl, b16⟩
  have B16 := Lib.hid (below_step B15.out b16)
  have SA := Lib.hid (SA.out.step11 b16)
  have SB := Lib.hid (SB.out.step11 b16)
  have M12 := Lib.hid (M12.out.step11 b16)
  clear b16 M12
  go_wp2_with fail
  go_ret
  exact ⟨rfl, B16.out⟩
end Go.Proofs.YtjpfcdgaepdcdaaGreat
/- Numbers, and slices of numbers, that lie in given blocks of memory; a step's three fields in a block of their own. Conditions: as typed. -/
namespace Go.Proofs.YtjpfcdgaepdcdaaGreat
open Go.RowKit
set_option maxRecDepth 20000
/-- The slice at A reads as the numbers l, in a block of S. -/
def RdS (w : World) (S : Nat → Prop) (A : Option Addr) (l : List Nat) : Prop := 0 < l.length → ∃ b off, A = some ⟨b, off, none⟩ ∧ S b ∧ ∀ j, j < l.length → w.cell? ⟨b, off + j, none⟩ = some (.int .u64 (nth l j : Int))
def NatS (w : World) (S : Nat → Prop) (v : Value) (l : List Nat) : Prop := ∃ A c, v = .slice A l.length c ∧ RdS w S A l ∧ l.length ≤ c ∧ Words l ∧ l.length ≤ 17592186044416
def NatsS (w : World) (S : Nat → Prop) (A : Option Addr) (ms : List (List Nat)) : Prop :=
  0 < ms.length → ∃ b off, A = some ⟨b, off, none⟩ ∧ S b ∧ ∀ j (hj : j < ms.length), ∃ v, w.cell? ⟨b, off + j, none⟩ = some v ∧ NatS w S v ms[j]
def QS (w : World) (S : Nat → Prop) (v : Value) (ms : List (List Nat)) : Prop := ∃ A c, v = .slice A ms.length c ∧ NatsS w S A ms ∧ ms.length ≤ c ∧ ms.length ≤ 140737488351232
section
variable {w w' : World} {S S' : Nat → Prop} {v : Value} {A : Option Addr} {l : List Nat} {ms : List (List Nat)}
theorem RdS.keep (h : RdS w S A l) (hk : ∀ b, S b → w'.heap[b]? = w.heap[b]?) (hS : ∀ b, S b → S' b) : RdS w' S' A l := fun h0 => by
  obtain ⟨b, off, e, hb, hc⟩ := h h0
  exact ⟨b, off, e, hS b hb, fun j hj => (World.cell?_of_block (a := ⟨b, off + j, none⟩) (hk b hb)).trans (hc j hj)⟩
theorem NatS.keep (h : NatS w S v l) (hk : ∀ b, S b → w'.heap[b]? = w.heap[b]?) (hS : ∀ b, S b → S' b) : NatS w' S' v l := by
  obtain ⟨A, c, e, hr, h⟩ := h
  exact ⟨A, c, e, hr.keep hk hS, h⟩
theorem NatsS.keep (h : NatsS w S A ms) (hk : ∀ b, S b → w'.heap[b]? = w.heap[b]?) (hS : ∀ b, S b → S' b) : NatsS w' S' A ms := fun h0 => by
  obtain ⟨b, off, e, hb, hc⟩ := h h0
  refine ⟨b, off, e, hS b hb, fun j hj => ?_⟩
  obtain ⟨v, h1, h2⟩ := hc j hj
  exact ⟨v, (World.cell?_of_block (a := ⟨b, off + j, none⟩) (hk b hb)).trans h1, h2.keep hk hS⟩
theorem QS.keep (h : QS w S v ms) (hk : ∀ b, S b → w'.heap[b]? = w.heap[b]?) (hS : ∀ b, S b → S' b) : QS w' S' v ms := by
  obtain ⟨A, c, e, hr, h⟩ := h
  exact ⟨A, c, e, hr.keep hk hS, h⟩
theorem NatS.rd {B : Nat} (h : NatS w S v l) (hS : ∀ b, S b → b < B) : RdNat w B v l := by
  obtain ⟨A, c, e, hr, h⟩ := h
  exact ⟨A, c, e, hr.keep (S' := fun b => b < B) (fun _ _ => rfl) hS, h⟩
theorem QS.rd {B : Nat} (h : QS w S v ms) (hS : ∀ b, S b → b < B) : RdQ w B v ms := by
  obtain ⟨A, c, e, hr, h⟩ := h
  refine ⟨A, c, e, fun h0 => ?_, h⟩
  obtain ⟨b, off, e2, hb, hc⟩ := hr h0
  refine ⟨b, off, e2, hS b hb, fun j hj => ?_⟩
  obtain ⟨v, h1, h2⟩ := hc j hj
  exact ⟨v, h1, h2.rd hS⟩
end
/-- A number that a call has answered, in new memory. -/
theorem natS_out {w : World} {base : Nat} {X : Option Addr} {q d N : Nat} (h : NatIs w X q d N) (t : Turned w base (.slice X q d) q) : NatS w (fun b => base ≤ b ∧ b < w.heap.size) (.slice X q d) (wd N) := by
  obtain ⟨h1, h2, h3, h4⟩ := h
  refine ⟨X, d, by rw [h1], fun h0 => ?_, by omega, wd_words N, by omega⟩
  obtain ⟨b, off, rfl, hb, hc⟩ := h3 h0
  exact ⟨b, off, rfl, ⟨(t.lt b rfl).1, hb⟩, hc⟩
theorem NatS.is11 {w : World} {S : Nat → Prop} {X : Option Addr} {q d N : Nat} (h : NatS w S (.slice X q d) (wd N)) (hS : ∀ b, S b → b < w.heap.size) (hN : nbits N ≤ 1024) : NatIs w X q d N := by
  obtain ⟨A, c, e, hr, hc, _, _⟩ := h
  injection e with e1 e2 e3
  subst e1 e2 e3
  have hl := length_wd N
  exact ⟨rfl, by omega, hr.keep (S' := fun b => b < w.heap.size) (fun _ _ => rfl) hS, hc⟩
theorem okNat_wd11 {n : Nat} (h : n < 18446744073709551616) : OkNat (wd n) ∧ natOf (wd n) = n ∧ (wd n).length ≤ 1 := by
  have hb := nbits_of_lt n 64 h
  have hl := length_wd n
  exact ⟨⟨by rw [natOf_wd], by rw [natOf_wd]; omega⟩, natOf_wd n, by omega⟩
/-- A step's three fields fill block g. -/
def Box3 (w : World) (g : Nat) (vP vG vQ : Value) : Prop := w.heap[g]? = some (.cells #[vP, vG, vQ] 37 (0, 0))
section
variable {w w' : World} {g : Nat} {vP vG vQ : Value}
theorem Box3.lt (h : Box3 w g vP vG vQ) : g < w.heap.size := (Array.getElem?_eq_some_iff.1 h).1
theorem Box3.new (w : World) (vP vG vQ : Value) : Box3 (w.alloc (.cells #[vP, vG, vQ] 37)) w.heap.size vP vG vQ := (MapKept.heap_alloc w _).1
theorem Box3.keep (h : Box3 w g vP vG vQ) (hk : w'.heap[g]? = w.heap[g]?) : Box3 w' g vP vG vQ := hk.trans h
theorem Box3.cP (h : Box3 w g vP vG vQ) : w.cell? ⟨g, 0, none⟩ = some vP := by unfold Box3 at h; simp [World.cell?, h]
theorem Box3.cG (h : Box3 w g vP vG vQ) : w.cell? ⟨g, 1, none⟩ = some vG := by unfold Box3 at h; simp [World.cell?, h]
theorem Box3.cQ (h : Box3 w g vP vG vQ) : w.cell? ⟨g, 2, none⟩ = some vQ := by unfold Box3 at h; simp [World.cell?, h]
theorem Box3.soft (h : Box3 w g vP vG vQ) (k : Nat) : w.frozen? ⟨g, k, none⟩ = false := by unfold Box3 at h; simp [World.frozen?, h]
theorem Box3.setP (h : Box3 w g vP vG vQ) (v : Value) : Box3 (w.setCell ⟨g, 0, none⟩ v) g v vG vQ := by
  show (w.heap.modify g _)[g]? = _
  rw [Array.getElem?_modify, if_pos rfl, show w.heap[g]? = _ from h]
  rfl
theorem Box3.setG (h : Box3 w g vP vG vQ) (v : Value) : Box3 (w.setCell ⟨g, 1, none⟩ v) g vP v vQ := by
  show (w.heap.modify g _)[g]? = _
  rw [Array.getElem?_modify, if_pos rfl, show w.heap[g]? = _ from h]
  rfl
theorem Box3.setQ (h : Box3 w g vP vG vQ) (v : Value) : Box3 (w.setCell ⟨g, 2, none⟩ v) g vP vG v := by
  show (w.heap.modify g _)[g]? = _
  rw [Array.getElem?_modify, if_pos rfl, show w.heap[g]? = _ from h]
  rfl
theorem Box3.box (h : Box3 w g vP vG vQ) : StepBox w g vP vG vQ := ⟨h.cP, h.cG, h.cQ, h.lt⟩
/-- A row of numbers' slices is no step. -/
theorem Box3.ne_own {base n : Nat} {v : Value} {xs : List Value} (h : Box3 w g vP vG vQ) (o : w.ownsRow base 33 1 v n xs) : v.ownBlock ≠ some g := by
  rcases o.2 with ⟨rfl, _⟩ | ⟨k, cap, cur, rfl, _, hh, _⟩
  · simp [Value.ownBlock]
  · intro e
    simp only [Value.ownBlock, Option.some.injEq] at e
    subst e
    unfold Box3 at h
    rw [hh] at h
    injection h with h
    injection h with _ e2
    cases e2
end
end Go.Proofs.YtjpfcdgaepdcdaaGreat
/- Of each prime there is a number whose powers are all below it. No condition but those typed; no program is named. -/
namespace Go.Proofs.YtjpfcdgaepdcdaaGreat
theorem part11 {q : Nat} (hq : 2 ≤ q) : ∀ n, 0 < n → ∃ e c, n = q ^ e * c ∧ ¬ q ∣ c := by
  intro n
  induction n using Nat.strongRecOn with
  | ind n ih =>
    intro h0
    by_cases hd : q ∣ n
    · obtain ⟨m, rfl⟩ := hd
      have hm : 0 < m := Nat.pos_of_ne_zero fun e => by subst e; simp at h0
      have hlt : m < q * m := by
        have : 2 * m ≤ q * m := Nat.mul_le_mul_right m hq
        omega
      obtain ⟨e, c, h1, h2⟩ := ih m hlt hm
      exact ⟨e + 1, c, by rw [Nat.pow_succ, Nat.mul_comm (q ^ e) q, Nat.mul_assoc, ← h1], h2⟩
    · exact ⟨0, n, by rw [Nat.pow_zero, Nat.one_mul], hd⟩
/-- Not all powers by a part of p - 1 are 1. -/
theorem some_not11 {p k : Nat} (hp : Prm p) (h0 : 0 < k) (hk : k < p - 1) : ∃ a, 1 ≤ a ∧ a < p ∧ a ^ k % p ≠ 1 := by
  refine Classical.byContradiction fun hc => ?_
  have hall : ∀ a, 1 ≤ a → a < p → a ^ k % p = 1 := fun a h1 h2 => Classical.byContradiction fun h => hc ⟨a, h1, h2, h⟩
  obtain ⟨j, rfl⟩ : ∃ j, k = j + 1 := ⟨k - 1, by omega⟩
  have h := roots_le hp (j + 1) ((-1) :: xk j) (by rw [List.length_cons, xk_length]) (xk_last j _) (upTo (p - 1)) (nodup_upTo _) (fun r hr => by
    obtain ⟨h1, h2⟩ := mem_upTo.1 hr
    refine ⟨by omega, ?_⟩
    have h3 : Cong p ((r ^ (j + 1) : Nat) : Int) ((1 : Nat) : Int) := cong_mod.2 (by rw [hall r h1 (by omega), Nat.mod_eq_of_lt (by have := hp.1; omega)])
    have e : evalZ (r : Int) ((-1) :: xk j) = ((r ^ (j + 1) : Nat) : Int) - ((1 : Nat) : Int) := by
      show -1 + (r : Int) * evalZ (r : Int) (xk j) = _
      rw [xk_eval, Int.natCast_pow, Int.pow_succ]
      rw [Int.mul_comm]
      omega
    rw [e]
    exact h3)
  rw [length_upTo] at h
  omega
/-- A number whose power by the part that q takes out is 1 for all other primes, and not for q. -/
theorem comp11 {p q : Nat} (hp : Prm p) (hq : Prm q) (hd : q ∣ p - 1) : ∃ b, ¬ p ∣ b ∧ b ^ ((p - 1) / q) % p ≠ 1 ∧ ∀ r, Prm r → r ∣ p - 1 → r ≠ q → b ^ ((p - 1) / r) % p = 1 := by
  have hp2 := hp.1
  have hq2 := hq.1
  have hN : 0 < p - 1 := by omega
  obtain ⟨u, hu⟩ := hd
  have hu0 : 0 < u := Nat.pos_of_ne_zero fun e => by subst e; simp at hu; omega
  have hul : u < p - 1 := by
    have : 2 * u ≤ q * u := Nat.mul_le_mul_right u hq2
    omega
  obtain ⟨a, ha1, ha2, ha3⟩ := some_not11 hp hu0 hul
  have hna : ¬ p ∣ a := fun h => by have := Nat.le_of_dvd (by omega) h; omega
  have hf := fermat hp hna
  obtain ⟨e, c, hc, hnc⟩ := part11 hq2 (p - 1) hN
  have eu : (p - 1) / q = u := by rw [hu, Nat.mul_div_cancel_left _ (by omega)]
  refine ⟨a ^ c, fun h => hna (hp.pow a c h), ?_, fun r hr hrd hne => ?_⟩
  · rw [eu, ← Nat.pow_mul]
    intro h
    have h1 : a ^ (u * q) % p = 1 := by rw [Nat.mul_comm, ← hu]; exact hf
    have h2 : a ^ (u * c) % p = 1 := by rw [Nat.mul_comm]; exact h
    have h3 := one_gcd (by omega) (u * c) (u * q) h2 h1
    rw [Nat.gcd_mul_left, hq.gcd c hnc, Nat.mul_one] at h3
    exact ha3 h3
  · obtain ⟨v, hv⟩ := hrd
    have hr2 := hr.1
    have ev : (p - 1) / r = v := by rw [hv, Nat.mul_div_cancel_left _ (by omega)]
    rw [ev, ← Nat.pow_mul]
    have hqr : ¬ q ∣ r := fun h => by
      rcases hr.2 q h with h1 | h1
      · omega
      · exact hne h1.symm
    have hg : Nat.Coprime r q := hq.gcd r hqr
    have hg2 : Nat.Coprime (q ^ e) r := (hg.pow_right e).symm
    have h1 : q ^ e ∣ v := hg2.dvd_of_dvd_mul_left (show q ^ e ∣ r * v from by rw [← hv, hc]; exact Nat.dvd_mul_right _ _)
    obtain ⟨m, hm⟩ := h1
    have h2 : c * v = (p - 1) * m := by rw [hm, hc]; simp only [Nat.mul_comm, Nat.mul_left_comm]
    rw [h2]
    exact one_times (by omega) hf m
theorem pow_mul_mod11 (a b k p : Nat) : (a * b) ^ k % p = (a ^ k % p) * (b ^ k % p) % p := by rw [Nat.mul_pow, Nat.mul_mod]
theorem some_list11 {p : Nat} (hp : Prm p) : ∀ Q : List Nat, (∀ q ∈ Q, Prm q ∧ q ∣ p - 1) → ∃ g, ¬ p ∣ g ∧ (∀ q ∈ Q, g ^ ((p - 1) / q) % p ≠ 1) ∧ ∀ r, Prm r → r ∣ p - 1 → r ∉ Q → g ^ ((p - 1) / r) % p = 1 := by
  intro Q
  have hp2 := hp.1
  induction Q with
  | nil => intro _; exact ⟨1, hp.one_not, by simp, fun r _ _ _ => by rw [Nat.one_pow]; exact Nat.mod_eq_of_lt (by omega)⟩
  | cons q Q ih =>
    intro h
    obtain ⟨g, h1, h2, h3⟩ := ih fun x hx => h x (List.mem_cons_of_mem _ hx)
    by_cases hm : q ∈ Q
    · refine ⟨g, h1, fun x hx => ?_, fun r hr hd hn => h3 r hr hd fun h4 => hn (List.mem_cons_of_mem _ h4)⟩
      rcases List.mem_cons.1 hx with rfl | hx
      · exact h2 _ hm
      · exact h2 _ hx
    · obtain ⟨hq, hqd⟩ := h q List.mem_cons_self
      obtain ⟨b, b1, b2, b3⟩ := comp11 hp hq hqd
      refine ⟨g * b, fun hd => (hp.euclid _ _ hd).elim h1 b1, fun x hx => ?_, fun r hr hd hn => ?_⟩
      · rcases List.mem_cons.1 hx with rfl | hx
        · rw [pow_mul_mod11, h3 _ hq hqd hm, Nat.one_mul, Nat.mod_mod]
          exact b2
        · have hxp := h x (List.mem_cons_of_mem _ hx)
          rw [pow_mul_mod11, b3 x hxp.1 hxp.2 (fun e => hm (by rw [← e]; exact hx)), Nat.mul_one, Nat.mod_mod]
          exact h2 x hx
      · rw [pow_mul_mod11, h3 r hr hd fun h4 => hn (List.mem_cons_of_mem _ h4), b3 r hr hd fun e => hn (by rw [e]; exact List.mem_cons_self)]
        exact Nat.mod_eq_of_lt (by omega)
/-- Of each prime from 3 on there is a number from 2 on that shows it. -/
theorem root11 {p : Nat} (hp : Prm p) (h3 : 3 ≤ p) (Q : List Nat) (hQ : ∀ q ∈ Q, Prm q ∧ q ∣ p - 1) (h2 : 2 ∈ Q) : ∃ g, 2 ≤ g ∧ g < p ∧ g ^ (p - 1) % p = 1 ∧ ∀ q ∈ Q, g ^ ((p - 1) / q) % p ≠ 1 := by
  obtain ⟨g, g1, g2, _⟩ := some_list11 hp Q hQ
  have hm : ∀ k, (g % p) ^ k % p = g ^ k % p := fun k => (Nat.pow_mod g k p).symm
  have hlt : g % p < p := Nat.mod_lt _ (by omega)
  have h0 : g % p ≠ 0 := fun h => g1 (Nat.dvd_of_mod_eq_zero h)
  have h1 : g % p ≠ 1 := fun h => by
    have := g2 2 h2
    rw [← hm, h, Nat.one_pow] at this
    exact this (Nat.mod_eq_of_lt (by omega))
  exact ⟨g % p, by omega, hlt, by rw [hm]; exact fermat hp g1, fun q hq => by rw [hm]; exact g2 q hq⟩
end Go.Proofs.YtjpfcdgaepdcdaaGreat
/- pratt.step, walked: it ends, with a number whose powers are all below the prime. Conditions: as typed. -/
namespace Go.Proofs.YtjpfcdgaepdcdaaGreat
open Go.RowKit
set_option maxRecDepth 20000
/-- Blocks of the call's own that are not written any more. -/
def In3 (lo : Nat) (u : World) (gR gS : Nat) (vQ : Value) (b : Nat) : Prop := lo ≤ b ∧ b < u.heap.size ∧ b ≠ gS ∧ b ≠ gR ∧ vQ.ownBlock ≠ some b
/-- The world while a step is made: the result's block, the step's block, what stands in it. -/
structure StepAt (w0 u : World) (gR gS : Nat) (vP vG vQ : Value) (p x : Nat) (qs : List Nat) : Prop where
  bR : Box3 u gR (.slice none 0 0) (.slice none 0 0) (.slice none 0 0)
  bS : Box3 u gS vP vG vQ
  ne : gR ≠ gS
  lo : w0.heap.size ≤ gR ∧ w0.heap.size ≤ gS
  rP : NatS u (In3 w0.heap.size u gR gS vQ) vP (wd p)
  rG : NatS u (In3 w0.heap.size u gR gS vQ) vG (wd x)
  row : ∃ xs, u.ownsRow w0.heap.size 33 1 vQ qs.length xs ∧ ∀ j (hj : j < qs.length), ∃ v, xs[j]? = some v ∧ NatS u (In3 w0.heap.size u gR gS vQ) v (wd qs[j])
  be : Below w0.heap.size w0 u
section
variable {w0 u u' : World} {gR gS : Nat} {vP vG vQ : Value} {p x : Nat} {qs : List Nat}
theorem StepAt.step (h : StepAt w0 u gR gS vP vG vQ p x qs) (b : Below u.heap.size u u') : StepAt w0 u' gR gS vP vG vQ p x qs := by
  have hk : ∀ k, In3 w0.heap.size u gR gS vQ k → u'.heap[k]? = u.heap[k]? := fun k hk => b.block k hk.2.1
  have hS : ∀ k, In3 w0.heap.size u gR gS vQ k → In3 w0.heap.size u' gR gS vQ k := fun k hk => ⟨hk.1, Nat.lt_of_lt_of_le hk.2.1 b.size, hk.2.2⟩
  obtain ⟨xs, h1, h2⟩ := h.row
  refine ⟨h.bR.keep (b.block _ h.bR.lt), h.bS.keep (b.block _ h.bS.lt), h.ne, h.lo, h.rP.keep hk hS, h.rG.keep hk hS, ⟨xs, h1.kept (row := none) ⟨b.os, b.tape, b.output, b.size, fun k hk _ => b.block k hk⟩ (by cases vQ.ownBlock <;> simp), fun j hj => ?_⟩, below_step h.be b⟩
  obtain ⟨v, h3, h4⟩ := h2 j hj
  exact ⟨v, h3, h4.keep hk hS⟩
theorem StepAt.fresh (h : StepAt w0 u gR gS vP vG vQ p x qs) (hle : u.heap.size ≤ u'.heap.size) (k : Nat) (hk : u.heap.size ≤ k ∧ k < u'.heap.size) : In3 w0.heap.size u' gR gS vQ k := by
  obtain ⟨xs, h1, _⟩ := h.row
  have _ := hle
  have h2 := h.bR.lt
  have h3 := h.bS.lt
  have h4 := h.be.size
  refine ⟨by omega, hk.2, by omega, by omega, fun e => ?_⟩
  have := (h1.lt k e).2
  omega
theorem nat_info11 : (Tryz.prog.info? 33).map (fun i => (i.zero, i.size, i.bytes)) = some (some (.slice none 0 0), 1, 24) := by kernel_rfl
/-- Behind a number more. -/
theorem StepAt.append (h : StepAt w0 u gR gS vP vG vQ p x qs) (hq : qs.length ≤ 1000) {X : Option Addr} {nq cq q : Nat} (hv : NatS u (In3 w0.heap.size u gR gS vQ) (.slice X nq cq) (wd q)) :
    ∃ v' u3, (Builtin.append_ #[35, 35] 35 #[vQ, .slice (some ⟨u.heap.size, 0, none⟩) 1 1]).run Tryz.prog (u.alloc (.cells #[.slice X nq cq] 33)) = .ok v' u3 ∧ Box3 u3 gS vP vG vQ ∧ StepAt w0 (u3.setCell ⟨gS, 2, none⟩ v') gR gS vP vG v' p x (qs ++ [q]) := by
  obtain ⟨i0, hi, hz0, hz1, hz2⟩ := info_parts nat_info11
  obtain ⟨xs, own, hel⟩ := h.row
  have hsz := h.be.size
  obtain ⟨v', u3, hrun, own', hg, _, hb'⟩ := run_append_own_at (P := Tryz.prog) (u.alloc (.cells #[.slice X nq cq] 33)) w0.heap.size 35 35 33 i0 (.slice none 0 0) 1 24 Tryz.underlying35 hi hz0 hz1 hz2 rfl (by omega) vQ qs.length xs (own.alloc _)
    ⟨u.heap.size, 0, none⟩ 1 1 [.slice X nq cq] rfl (fun j y hy => by
      cases j with
      | zero =>
        simp at hy
        subst hy
        have := (MapKept.heap_alloc u (.cells #[.slice X nq cq] 33)).1
        unfold World.cell?
        rw [show ((⟨u.heap.size, 0, none⟩ : Addr).add 0) = ⟨u.heap.size, 0, none⟩ from rfl, this]
        rfl
      | succ j => simp at hy) (fun y hy => by rw [List.mem_singleton.1 hy]; rfl) (by unfold maxLen; omega) (by omega) (by simp; omega)
  have hblk : ∀ k, k < u.heap.size → vQ.ownBlock ≠ some k → u3.heap[k]? = u.heap[k]? := fun k hk hne => (hg.block k (by simp; omega) (fun e => hne e.symm)).trans (Below.heap_alloc _ _ _ hk)
  have nS := h.bS.ne_own own
  have nR := h.bR.ne_own own
  have bS3 : Box3 u3 gS vP vG vQ := h.bS.keep (hblk _ h.bS.lt nS)
  have bR3 := h.bR.keep (hblk _ h.bR.lt nR)
  have own3 : u3.ownsRow w0.heap.size 33 1 v' (qs.length + 1) (xs ++ [.slice X nq cq]) := own'
  have hne3 := bS3.ne_own own3
  have hk : ∀ k, In3 w0.heap.size u gR gS vQ k → (u3.setCell ⟨gS, 2, none⟩ v').heap[k]? = u.heap[k]? := fun k hk => (Below.heap_setCell _ _ _ _ hk.2.2.1).trans (hblk k hk.2.1 hk.2.2.2.2)
  have h3s : u.heap.size < u3.heap.size := by have := hg.size; simp at this; omega
  have hS : ∀ k, In3 w0.heap.size u gR gS vQ k → In3 w0.heap.size (u3.setCell ⟨gS, 2, none⟩ v') gR gS v' k := fun k hk => by
    refine ⟨hk.1, by have := hk.2.1; simp [World.setCell]; omega, hk.2.2.1, hk.2.2.2.1, ?_⟩
    rcases hb' with e | e
    · rw [e]; exact hk.2.2.2.2
    · rw [e]; intro e2; injection e2 with e2; have := hk.2.1; simp at e2; omega
  refine ⟨v', u3, hrun, bS3, bR3.keep (Below.heap_setCell _ _ _ _ h.ne), bS3.setQ v', h.ne, h.lo, h.rP.keep hk hS, h.rG.keep hk hS, ⟨xs ++ [.slice X nq cq], ?_, fun j hj => ?_⟩, ?_⟩
  · have := own3.kept (w' := u3.setCell ⟨gS, 2, none⟩ v') (row := some gS) ⟨rfl, rfl, rfl, by simp [World.setCell], fun k _ hk => Below.heap_setCell _ _ _ _ (fun e => hk (by rw [e]))⟩ (.inr hne3)
    simpa using this
  · have hxl : xs.length = qs.length := by have := own.1; omega
    rcases Nat.lt_or_ge j qs.length with h5 | h5
    · obtain ⟨v, h6, h7⟩ := hel j h5
      refine ⟨v, by rw [List.getElem?_append_left (by omega)]; exact h6, ?_⟩
      rw [List.getElem_append_left h5]
      exact h7.keep hk hS
    · have : j = qs.length := by simp at hj; omega
      subst this
      refine ⟨.slice X nq cq, by rw [List.getElem?_append_right (by omega), hxl]; simp, ?_⟩
      rw [List.getElem_append_right (Nat.le_refl _)]
      simpa using hv.keep hk hS
  · refine Below.setCell (Below.grown (h.be.alloc hsz _) hg (by simp; omega) fun k e => (own.lt k e).1) h.lo.2 _
/-- Behind another number in G's place. -/
theorem StepAt.setG (h : StepAt w0 u gR gS vP vG vQ p x qs) {v : Value} {y : Nat} (hv : NatS u (In3 w0.heap.size u gR gS vQ) v (wd y)) : StepAt w0 (u.setCell ⟨gS, 1, none⟩ v) gR gS vP v vQ p y qs := by
  obtain ⟨xs, own, hel⟩ := h.row
  have nS := h.bS.ne_own own
  have hk : ∀ k, In3 w0.heap.size u gR gS vQ k → (u.setCell ⟨gS, 1, none⟩ v).heap[k]? = u.heap[k]? := fun k hk => Below.heap_setCell _ _ _ _ hk.2.2.1
  have hS : ∀ k, In3 w0.heap.size u gR gS vQ k → In3 w0.heap.size (u.setCell ⟨gS, 1, none⟩ v) gR gS vQ k := fun k hk => by
    refine ⟨hk.1, ?_, hk.2.2⟩
    have := hk.2.1
    simpa [World.setCell] using this
  refine ⟨h.bR.keep (Below.heap_setCell _ _ _ _ h.ne), h.bS.setG v, h.ne, h.lo, h.rP.keep hk hS, hv.keep hk hS, ⟨xs, ?_, fun j hj => ?_⟩, h.be.setCell h.lo.2 _⟩
  · exact own.kept (row := some gS) ⟨rfl, rfl, rfl, by simp [World.setCell], fun k _ hk => Below.heap_setCell _ _ _ _ (fun e => hk (by rw [e]))⟩ (.inr nS)
  · obtain ⟨y, h6, h7⟩ := hel j hj
    exact ⟨y, h6, h7.keep hk hS⟩
end
theorem StepAt.row12 {w0 u : World} {gR gS : Nat} {vP vG vQ : Value} {p x : Nat} {qs : List Nat} (h : StepAt w0 u gR gS vP vG vQ p x qs) (hq : qs.length ≤ 1000) : QS u (fun b => (w0.heap.size ≤ b ∧ b < u.heap.size) ∧ b ≠ gR) vQ (qs.map wd) := by
  obtain ⟨xs, own, hel⟩ := h.row
  have nR := h.bR.ne_own own
  obtain ⟨A, c, rfl, hc, _⟩ := own_form own
  refine ⟨A, c, by rw [List.length_map], fun h0 => ?_, by rw [List.length_map]; exact hc, by rw [List.length_map]; omega⟩
  rw [List.length_map] at h0
  rcases own.2 with ⟨h1, h2⟩ | ⟨g, cap, cur, e, hbg, hh, _⟩
  · omega
  · injection e with e1 _ e3
    subst e1 e3
    refine ⟨g, 0, rfl, ⟨⟨hbg, (Array.getElem?_eq_some_iff.1 hh).1⟩, fun e => nR (by rw [e]; rfl)⟩, fun j hj => ?_⟩
    have hj' : j < qs.length := by simpa using hj
    obtain ⟨v, h3, h4⟩ := hel j hj'
    refine ⟨v, ?_, ?_⟩
    · rw [Nat.zero_add, own.cellAt j (by omega)]; exact h3
    · rw [List.getElem_map]
      exact h4.keep (fun _ _ => rfl) fun k hk => ⟨⟨hk.1, hk.2.1⟩, hk.2.2.2.1⟩
theorem StepAt.row11 {w0 u : World} {gR gS : Nat} {vP vG vQ : Value} {p x : Nat} {qs : List Nat} (h : StepAt w0 u gR gS vP vG vQ p x qs) (hq : qs.length ≤ 1000) : QS u (fun b => w0.heap.size ≤ b ∧ b < u.heap.size) vQ (qs.map wd) :=
  (h.row12 hq).keep (fun _ _ => rfl) fun _ h => h.1
/-- One result, that lies in memory. -/
theorem results_box11 {fn : Func} {p : Tmp} {ty : TypeId} (h : fn.results = #[.cell p ty]) (tmps : Array Value) {P : Program} {w : World} {g : Nat} {v : Value} (hp : tmps.getD p undef = .pointer (some ⟨g, 0, none⟩)) (hl : (loadVar ty ⟨g, 0, none⟩).run P w = .ok v w) :
    (results fn tmps).run P w = .ok v w := by
  have e : (results fn tmps).run P w = ((asAddr (tmps.getD p undef)).run P w).andThen fun a w₁ => (loadVar ty a).run P w₁ := by
    simp only [results, h]
    simp [Sem.run_bind, Result.andThen]
  rw [e, hp]
  exact hl
theorem load_box11 {w : World} {g : Nat} {vP vG vQ : Value} (hb : Box3 w g vP vG vQ) : (loadVar 37 ⟨g, 0, none⟩).run Tryz.prog w = .ok (.agg #[vP, vG, vQ]) w := by
  have h0 := hb.cP
  have h1 := hb.cG
  have h2 := hb.cQ
  go_simp
theorem map_wd11 {qs : List Nat} (h : ∀ q ∈ qs, q < 18446744073709551616) : (qs.map wd).map natOf = qs := by
  rw [List.map_map]
  conv => rhs; rw [← List.map_id qs]
  exact List.map_congr_left fun q hq => (okNat_wd11 (h q hq)).2.1
/-- What step answers: a step of p, with the primes, in new memory. -/
def StepOut (p : Nat) (qs : List Nat) (w : World) (e : Ending) (w' : World) : Prop :=
  ∃ vP vG vQ x, e = .returned (.agg #[vP, vG, vQ]) ∧ NatS w' (fun b => w.heap.size ≤ b ∧ b < w'.heap.size) vP (wd p) ∧ NatS w' (fun b => w.heap.size ≤ b ∧ b < w'.heap.size) vG (wd x) ∧ QS w' (fun b => w.heap.size ≤ b ∧ b < w'.heap.size) vQ (qs.map wd) ∧ 2 ≤ x ∧ x < p ∧ Around x p (p - 1) qs ∧ Below w.heap.size w w'
/-- A store into a step's block leaves a row of numbers alone. -/
theorem _root_.Go.Proofs.YtjpfcdgaepdcdaaGreat.Rd.box11 {u : World} {B g : Nat} {A : Option Addr} {l : List Nat} {vP vG vQ : Value} (h : Rd .u64 u B A l) (hb : Box3 u g vP vG vQ) (y : Value) (hv : ∀ k z, (vP = .int k z ∨ vG = .int k z ∨ vQ = .int k z) → False) (i : Nat) : Rd .u64 (u.setCell ⟨g, i, none⟩ y) B A l := fun hl => by
  obtain ⟨b, off, rfl, hlt, hc⟩ := h hl
  refine ⟨b, off, rfl, hlt, fun j hj => ?_⟩
  have hne : b ≠ g := by
    rintro rfl
    have h1 := hc 0 (by omega)
    unfold Box3 at hb
    simp only [World.cell?, hb] at h1
    have h3 : off + 0 < 3 := by
      rcases Nat.lt_or_ge (off + 0) 3 with h | h
      · exact h
      · rw [Array.getElem?_eq_none (show (#[vP, vG, vQ] : Array Value).size ≤ off + 0 from h)] at h1
        cases h1
    have : off = 0 ∨ off = 1 ∨ off = 2 := by omega
    rcases this with rfl | rfl | rfl <;> simp at h1
    · exact hv _ _ (.inl h1)
    · exact hv _ _ (.inr (.inl h1))
    · exact hv _ _ (.inr (.inr h1))
  exact (World.cell?_of_block (a := ⟨b, off + j, none⟩) (Below.heap_setCell _ _ _ _ hne)).trans (hc j hj)
set_option maxHeartbeats 8000000 in
theorem step11 {w : World} {AF : Option Addr} {m c p : Nat} {qs : List Nat} (hF : Rd .u64 w w.heap.size AF qs) (hm : qs.length = m) (hm2 : m ≤ 64) (hp : Prm p) (h3 : 3 ≤ p) (hpl : p < 18446744073709551616) (hQ : ∀ q ∈ qs, Prm q ∧ q ∣ p - 1) (h2 : 2 ∈ qs) :
    Calls Tryz.prog 19 #[.int .u64 p, .slice AF m c] w (StepOut p qs w) := by
  obtain ⟨g0, hg2, hgp, hg1, hgq⟩ := root11 hp h3 qs hQ h2
  have HG0 := Lib.hid (show Around g0 p (p - 1) qs from ⟨hg1, hgq⟩)
  have hql : ∀ q ∈ qs, q < 18446744073709551616 := fun q hq => by
    have := Nat.le_of_dvd (by omega) (hQ q hq).2
    omega
  have HQL := Lib.hid hql
  have HQP := Lib.hid hQ
  have HM := Lib.hid hm
  have HO := Lib.hid fun (u : World) (x : Nat) (hx : x < 18446744073709551616) => bOf u x hx
  obtain ⟨gR, hgR⟩ : ∃ k, w.heap.size = k := ⟨_, rfl⟩
  obtain ⟨W0, hW0⟩ : ∃ W0, w.alloc (.cells #[.slice none 0 0, .slice none 0 0, .slice none 0 0] 37) = W0 := ⟨_, rfl⟩
  have hbR : Box3 W0 gR (.slice none 0 0) (.slice none 0 0) (.slice none 0 0) := by rw [← hW0, ← hgR]; exact Box3.new _ _ _ _
  have hB0 : Below w.heap.size w W0 := by rw [← hW0]; exact (Below.refl _ w).alloc (Nat.le_refl _) _
  have HBR := Lib.hid hbR
  have HB0 := Lib.hid hB0
  have HF0 := Lib.hid hF
  have HF := Lib.hid (hF.below hB0)
  have HGR := Lib.hid hgR
  clear hF hQ hg1 hgq hql hp h2 hB0 hbR hm
  go_enter Tryz.func19, Tryz.ntmps19
  go_wp2_with fail
  refine (HO.out _ p (by omega)).mono ?_
  rintro e u1 ⟨X1, q1, d1, rfl, S1, T1, b1⟩
  have N1 := natS_out S1 T1
  have HB1 := Lib.hid (below_step HB0.out b1)
  have HBR1 := Lib.hid (HBR.out.keep (b1.block _ HBR.out.lt))
  have HF1 := Lib.hid (HF.out.below (b1.mono HB0.out.size))
  have hs1 := b1.size
  have HN1 := Lib.hid N1
  clear S1 T1 b1 N1 hW0
  go_wp2_with fail
  refine (HO.out u1 2 (by omega)).mono ?_
  rintro e u2 ⟨X2, q2, d2, rfl, S2, T2, b2⟩
  obtain ⟨gS, hgS⟩ : ∃ k, u2.heap.size = k := ⟨_, rfl⟩
  have hD : StepAt w (u2.alloc (.cells #[.slice X1 q1 d1, .slice X2 q2 d2, .slice none 0 0] 37)) gR gS (.slice X1 q1 d1) (.slice X2 q2 d2) (.slice none 0 0) p 2 [] := by
    have hsz := HB1.out.size
    have hs2 := b2.size
    have hlt := HBR1.out.lt
    have hlt0 := HBR.out.lt
    have hgr := HGR.out
    have hold : ∀ k, k < u2.heap.size → (u2.alloc (.cells #[.slice X1 q1 d1, .slice X2 q2 d2, .slice none 0 0] 37)).heap[k]? = u2.heap[k]? := fun k hk => Below.heap_alloc _ _ _ hk
    refine ⟨HBR1.out.keep ((hold _ (by omega)).trans (b2.block _ hlt)), by rw [← hgS]; exact Box3.new _ _ _ _, by omega, ⟨by omega, by omega⟩, ?_, ?_, ⟨[], World.ownsRow_nil _ _ _ _, fun j hj => by simp at hj⟩, (below_step HB1.out b2).alloc (by omega) _⟩
    · exact HN1.out.keep (fun k hk => (hold k (by omega)).trans (b2.block k hk.2)) fun k hk => ⟨by omega, by simp; omega, by omega, by omega, by simp [Value.ownBlock]⟩
    · exact (natS_out S2 T2).keep (fun k hk => hold k hk.2) fun k hk => ⟨by omega, by simp; omega, by omega, by omega, by simp [Value.ownBlock]⟩
  have HD := Lib.hid hD
  clear hD S2 T2 b2 HN1
  go_wp2_with fail
  clear hgS
  go_loopw [15] (fun jv wr => ∃ (j : Nat) (vQ : Value), jv = .int .i64 j ∧ j ≤ m ∧ Hid (StepAt w wr gR gS (.slice X1 q1 d1) (.slice X2 q2 d2) vQ p 2 (qs.take j))) (fun jv _ => m - (intOf jv).toNat)
  case atStart => exact ⟨0, .slice none 0 0, rfl, Nat.zero_le _, by rw [List.take_zero]; exact HD⟩
  case round =>
    clear HD
    obtain ⟨j, vQ, rfl, hj, HD⟩ := hrel
    by_cases hlt : j < m
    · have hjq : j < qs.length := by rw [HM.out]; exact hlt
      obtain ⟨gF, oF, hAF, hgF, hcF⟩ := (HF0.out.below HD.out.be) (by rw [HM.out]; omega)
      subst hAF
      have hc := hcF j hjq
      obtain ⟨q, hq⟩ : ∃ q, qs[j] = q := ⟨_, rfl⟩
      rw [nth_eq _ _ hjq, hq] at hc
      have hq64 : q < 18446744073709551616 := by rw [← hq]; exact HQL.out _ (List.getElem_mem hjq)
      obtain ⟨V, hV⟩ : ∃ V, wr.drew = V := ⟨_, rfl⟩
      have HD1 := Lib.hid (show StepAt w V gR gS (.slice X1 q1 d1) (.slice X2 q2 d2) vQ p 2 (qs.take j) by rw [← hV]; exact HD.out.step (Drawn.more 1).below11)
      obtain ⟨xs0, own0, _⟩ := HD1.out.row
      obtain ⟨n0, hn0⟩ : ∃ n, (qs.take j).length = n := ⟨_, rfl⟩
      rw [hn0] at own0
      obtain ⟨A0, c0, rfl, _, _⟩ := own_form own0
      have kQ := HD1.out.bS.cQ
      have hTk := Lib.hid (show qs.take j ++ [q] = qs.take (j + 1) by rw [← hq]; exact (List.take_succ_eq_append_getElem hjq).symm)
      clear hcF hgF hq own0 hn0
      go_wp2_with fail
      refine wp_region_any (by kernel_rfl) ?_
      change wpAny _ _ _ _ _ _ _ wr.drew
      rw [hV]
      clear hV hc
      refine wpAny_takeD (i := 0) (d := 19) (v := .pointer (some ⟨gS, 2, none⟩)) rfl (by kernel_rfl) (by kernel_rfl) (by kernel_rfl) (by kernel_rfl) (fun _ _ _ h => h) (Or.inl ⟨by kernel_rfl, fun W => by go_simp⟩) ?_
      refine wpAny_takeD (i := 2) (d := 21) (v := .int .u64 (q : Int)) rfl (by kernel_rfl) (by kernel_rfl) (by kernel_rfl) (by kernel_rfl) (fun _ _ _ h => h) (Or.inl ⟨by kernel_rfl, fun W => by go_simp⟩) ?_
      refine anyP.toAny (s := 5) (B := fun u => u.cell? ⟨gS, 2, none⟩ = some (.slice A0 n0 c0)) ?_
      refine anyP_take (i := 1) (d := 20) (v := .slice A0 n0 c0) rfl rfl (by kernel_rfl) (by kernel_rfl) (by kernel_rfl) (by kernel_rfl) (by kernel_rfl) (by kernel_rfl) (fun _ _ _ h => h) ⟨by kernel_rfl, fun W hW => by go_simp⟩ ?_
      refine anyP_one (i := 3) (by kernel_rfl) rfl (fun _ => kQ) (fun K hK => ?_)
      go_simp
      refine (HO.out V q (by omega)).mono ?_
      rintro e u3 ⟨X3, q3, d3, rfl, S3, T3, b3⟩
      have HD2 := Lib.hid (HD1.out.step b3)
      have hN3 := (natS_out S3 T3).keep (fun _ _ => rfl) (fun k hk => HD1.out.fresh b3.size k hk)
      obtain ⟨v4, u4, hrun, hbx, hD4⟩ := HD2.out.append (by rw [List.length_take]; omega) hN3
      have kQ3 := HD2.out.bS.cQ
      have kQ4 : (u3.alloc (.cells #[.slice X3 q3 d3] 33)).cell? ⟨gS, 2, none⟩ = some (.slice A0 n0 c0) := (HD2.out.bS.keep (Below.heap_alloc _ _ _ HD2.out.bS.lt)).cQ
      have kB := hbx.cQ
      have kF := hbx.soft 2
      have HD4 := Lib.hid (show StepAt w (u4.setCell ⟨gS, 2, none⟩ v4) gR gS (.slice X1 q1 d1) (.slice X2 q2 d2) v4 p 2 (qs.take (j + 1)) by rw [← hTk.out]; exact hD4)
      have hX4 := HD4.out.row
      clear S3 T3 b3 hN3 hD4 hbx kQ HD1
      obtain ⟨xs4, own4, _⟩ := hX4
      obtain ⟨n4, hn4⟩ : ∃ n, (qs.take (j + 1)).length = n := ⟨_, rfl⟩
      rw [hn4] at own4
      obtain ⟨A4, c4, rfl, _, _⟩ := own_form own4
      clear hn4
      clear own4
      refine hK _ _ ?_
      clear hK K
      refine anyP_one (i := 4) (by kernel_rfl) rfl (fun _ => kQ3) (fun K hK => ?_)
      go_simp
      refine hK _ _ ?_
      clear hK K
      refine anyP_one (i := 5) (by kernel_rfl) rfl (fun _ => kQ4) (fun K hK => ?_)
      rw [if_pos (by kernel_rfl)]
      refine op_append11 _ _ _ rfl _ _ rfl rfl hrun ?_
      refine hK _ _ ?_
      clear hK K hrun kQ3 kQ4
      refine anyP_one (i := 6) (by kernel_rfl) rfl (fun h => by cases h) (fun K hK => ?_)
      go_simp
      refine hK _ _ ?_
      clear hK K
      refine anyP_one (i := 7) (by kernel_rfl) rfl (fun h => by cases h) (fun K hK => ?_)
      go_simp
      refine hK _ _ ?_
      clear hK K kB kF
      refine anyP_done (by kernel_rfl) (by kernel_rfl) ?_
      go_step
      go_simp
      go_wp2_with fail
      go_roundw
      case rel => exact ⟨j + 1, _, by go_num, by omega, HD4⟩
      case measure => simp [intOf]; omega
    · obtain rfl : j = m := by omega
      have HD1 := Lib.hid (show StepAt w wr gR gS (.slice X1 q1 d1) (.slice X2 q2 d2) vQ p 2 qs by have := HD.out; rwa [List.take_of_length_le (by rw [HM.out]; exact Nat.le_refl _)] at this)
      obtain ⟨pm, hpm⟩ : ∃ k, p - 1 = k := ⟨_, rfl⟩
      have hpmI : (p : Int) - 1 = (pm : Int) := by omega
      clear HD
      go_wp2_with fail
      refine (HO.out wr pm (by omega)).mono ?_
      rintro e u5 ⟨X5, q5, d5, rfl, S5, T5, b5⟩
      have HD5 := Lib.hid (HD1.out.step b5)
      have HS5 := Lib.hid S5
      have HPM := Lib.hid hpm
      clear S5 T5 b5 HD1 hpmI hpm
      go_wp2_with fail
      obtain ⟨xsQ, ownQ, _⟩ := HD5.out.row
      obtain ⟨AQ, cQ, rfl, _, _⟩ := own_form ownQ
      clear ownQ
      obtain ⟨nQ, hnQ⟩ : ∃ k, qs.length = k := ⟨_, rfl⟩
      rw [hnQ] at HD5
      clear hnQ
      go_loopg [] (g0 - 2) (fun k wr => ∃ (x : Nat) (vG : Value) (X : Option Addr) (nG cG : Nat), vG = .slice X nG cG ∧ 2 ≤ x ∧ x ≤ g0 ∧ g0 - x ≤ k ∧ Hid (StepAt w wr gR gS (.slice X1 q1 d1) vG (.slice AQ nQ cQ) p x qs) ∧ Hid (NatIs wr X5 q5 d5 pm))
      case atStart => exact ⟨2, _, X2, q2, d2, rfl, Nat.le_refl _, hg2, Nat.le_refl _, HD5, HS5⟩
      case round =>
        clear HD5 HS5
        obtain ⟨x, vG, X, nG, cG, rfl, hx2, hxg, hxk, HD, HS⟩ := hrel
        have kP := HD.out.bS.cP
        have kG := HD.out.bS.cG
        have kQ := HD.out.bS.cQ
        have hsz := HD.out.be.size
        have hin : ∀ b, In3 w.heap.size wr gR gS (.slice AQ nQ cQ) b → b < wr.heap.size := fun b h => h.2.1
        obtain ⟨bA, hbA⟩ := some_flag11 (Around x p pm qs)
        have nb : ∀ y, y < 18446744073709551616 → nbits y ≤ 1024 := fun y hy => by have := nbits_of_lt y 64 hy; omega
        have CA := Lib.hid (goesAround11 HS.out (HD.out.rP.is11 hin (nb p (by omega))) (HD.out.rG.is11 hin (nb x (by omega))) ((HD.out.row11 (by rw [HM.out]; omega)).rd (fun b h => h.2)) (by omega) (nb p (by omega)) (nb x (by omega)) (nb pm (by have := HPM.out; omega))
          (fun l hl => by
            obtain ⟨q, hq, rfl⟩ := List.mem_map.1 hl
            obtain ⟨o1, o2, o3⟩ := okNat_wd11 (HQL.out q hq)
            exact ⟨o1, by omega, by rw [o2]; have := (HQP.out q hq).1.1; omega⟩) bA (by rw [map_wd11 HQL.out]; exact hbA))
        have HBA := Lib.hid (show (fun (_ : Unit) => bA = true ↔ Around x p pm qs) () from hbA)
        clear hbA hin nb
        go_wp2_with fail
        refine (CA.out).mono ?_
        rintro e u6 ⟨rfl, b6⟩
        have HD6 := Lib.hid (HD.out.step b6)
        have HS6 := Lib.hid (HS.out.step b6)
        clear b6 CA kP kG kQ hsz HD HS
        cases bA
        · have hxne : x ≠ g0 := fun h => by
            have h1 := HG0.out
            rw [HPM.out, ← h] at h1
            have h2 := HBA.out.2 h1
            cases h2
          obtain ⟨V, hV⟩ : ∃ V, u6.drew = V := ⟨_, rfl⟩
          have HD7 := Lib.hid (show StepAt w V gR gS (.slice X1 q1 d1) (.slice X nG cG) (.slice AQ nQ cQ) p x qs by rw [← hV]; exact HD6.out.step (Drawn.more 1).below11)
          have HS7 := Lib.hid (show NatIs V X5 q5 d5 pm by rw [← hV]; exact HS6.out.step (Drawn.more 1).below11)
          have kG := HD7.out.bS.cG
          clear HD6 HS6
          go_wp2_with fail
          refine wp_region_any (by kernel_rfl) ?_
          change wpAny _ _ _ _ _ _ _ u6.drew
          rw [hV]
          clear hV
          refine wpAny_takeD (i := 0) (d := 34) (v := .pointer (some ⟨gS, 1, none⟩)) rfl (by kernel_rfl) (by kernel_rfl) (by kernel_rfl) (by kernel_rfl) (fun _ _ _ h => h) (Or.inl ⟨by kernel_rfl, fun W => by go_simp⟩) ?_
          refine anyP.toAny (s := 3) (B := fun u => u.cell? ⟨gS, 1, none⟩ = some (.slice X nG cG)) ?_
          refine anyP_take (i := 1) (d := 35) (v := .slice X nG cG) rfl rfl (by kernel_rfl) (by kernel_rfl) (by kernel_rfl) (by kernel_rfl) (by kernel_rfl) (by kernel_rfl) (fun _ _ _ h => h) ⟨by kernel_rfl, fun W hW => by go_simp⟩ ?_
          refine anyP_one (i := 2) (by kernel_rfl) rfl (fun _ => kG) (fun K hK => ?_)
          go_simp
          refine (HO.out V 1 (by omega)).mono ?_
          rintro e v3 ⟨Y3, r3, f3, rfl, S3, _, b3⟩
          have HD8 := Lib.hid (HD7.out.step b3)
          have HS8 := Lib.hid (HS7.out.step b3)
          have kG3 := HD8.out.bS.cG
          have hx1 := HD8.out.rG.is11 (fun b h => h.2.1) (by have := nbits_of_lt x 64 (by omega); omega)
          have CAd := Lib.hid (bAdd hx1.in_ S3.in_ (by have h1 := hx1.len11 (by have := nbits_of_lt x 64 (by omega); omega); have h2 := S3.len11 (by have := nbits_of_lt 1 64 (by omega); omega); omega))
          clear S3 b3 kG HD7 HS7 hx1
          refine hK _ _ ?_
          clear hK K
          refine anyP_one (i := 3) (by kernel_rfl) rfl (fun _ => kG3) (fun K hK => ?_)
          go_simp
          refine (CAd.out).mono ?_
          rintro e v4 ⟨Y4, r4, f4, rfl, S4, T4, b4⟩
          have HD9 := Lib.hid (HD8.out.step b4)
          have HS9 := Lib.hid (HS8.out.step b4)
          have HDa := Lib.hid (HD9.out.setG ((natS_out S4 T4).keep (fun _ _ => rfl) (fun k hk => HD8.out.fresh b4.size k hk)))
          have HSa := Lib.hid (show NatIs (v4.setCell ⟨gS, 1, none⟩ (.slice Y4 r4 f4)) X5 q5 d5 pm from by
            obtain ⟨s1, s2, s3, s4⟩ := HS9.out
            exact ⟨s1, s2, by have := s3.box11 HD9.out.bS (.slice Y4 r4 f4) (by rintro k y (h | h | h) <;> cases h) 1; simpa [World.setCell] using this, s4⟩)
          have kB := HD9.out.bS.cG
          have kF := HD9.out.bS.soft 1
          clear S4 T4 b4 CAd HD8 HS8 kG3
          refine hK _ _ ?_
          clear hK K
          refine anyP_one (i := 4) (by kernel_rfl) rfl (fun h => by cases h) (fun K hK => ?_)
          go_simp
          refine hK _ _ ?_
          clear hK K
          refine anyP_one (i := 5) (by kernel_rfl) rfl (fun h => by cases h) (fun K hK => ?_)
          go_simp
          refine hK _ _ ?_
          clear hK K kB kF
          refine anyP_done (by kernel_rfl) (by kernel_rfl) ?_
          go_step
          go_simp
          go_wp2_with fail
          go_roundg (g0 - (x + 1))
          case rel => exact ⟨x + 1, _, Y4, r4, f4, rfl, by omega, by omega, Nat.le_refl _, HDa, HSa⟩
          case measure => omega
        · have HA := Lib.hid (show Around x p (p - 1) qs by rw [HPM.out]; exact HBA.out.1 rfl)
          have kP := HD6.out.bS.cP
          have kG := HD6.out.bS.cG
          have kQ := HD6.out.bS.cQ
          have rP := HD6.out.bR.cP
          have rG := HD6.out.bR.cG
          have rQ := HD6.out.bR.cQ
          have f0 := HD6.out.bR.soft 0
          have f1 := HD6.out.bR.soft 1
          have f2 := HD6.out.bR.soft 2
          go_wp2_with fail
          go_simp
          refine bodyPost_ret (results_box11 (p := 4) rfl _ rfl (load_box11 ((HD6.out.bR.setP (.slice X1 q1 d1)).setG (.slice X nG cG) |>.setQ (.slice AQ nQ cQ)))) rfl ?_
          have hk : ∀ k, k ≠ gR → (((u6.setCell ⟨gR, 0, none⟩ (.slice X1 q1 d1)).setCell ⟨gR, 1, none⟩ (.slice X nG cG)).setCell ⟨gR, 2, none⟩ (.slice AQ nQ cQ)).heap[k]? = u6.heap[k]? := fun k hk => by
            rw [Below.heap_setCell _ _ _ _ hk, Below.heap_setCell _ _ _ _ hk, Below.heap_setCell _ _ _ _ hk]
          have hz : (((u6.setCell ⟨gR, 0, none⟩ (.slice X1 q1 d1)).setCell ⟨gR, 1, none⟩ (.slice X nG cG)).setCell ⟨gR, 2, none⟩ (.slice AQ nQ cQ)).heap.size = u6.heap.size := by simp [World.setCell]
          have hS : ∀ k, In3 w.heap.size u6 gR gS (.slice AQ nQ cQ) k → w.heap.size ≤ k ∧ k < (((u6.setCell ⟨gR, 0, none⟩ (.slice X1 q1 d1)).setCell ⟨gR, 1, none⟩ (.slice X nG cG)).setCell ⟨gR, 2, none⟩ (.slice AQ nQ cQ)).heap.size := fun k hk => ⟨hk.1, by rw [hz]; exact hk.2.1⟩
          refine ⟨_, _, _, x, rfl, HD6.out.rP.keep (fun k h => hk k h.2.2.2.1) hS, HD6.out.rG.keep (fun k h => hk k h.2.2.2.1) hS, ?_, hx2, by omega, HA.out, ?_⟩
          · exact (HD6.out.row12 (by rw [HM.out]; omega)).keep (fun k h => hk k h.2) fun k h => ⟨h.1.1, by rw [hz]; exact h.1.2⟩
          · exact ((HD6.out.be.setCell HD6.out.lo.1 _).setCell HD6.out.lo.1 _).setCell HD6.out.lo.1 _
end Go.Proofs.YtjpfcdgaepdcdaaGreat
/- A row of words that a call sorts in place: the world behind draws, swaps and new blocks; steps of the plain sorting loops. Conditions: the row lies in a block that was there. No program is named. -/
namespace Go.Proofs.YtjpfcdgaepdcdaaGreat
open Go.RowKit Go.Sort
/-- The row at blk, off holds dk in wr, which is w but for that row, draws and new blocks. -/
def RowG (w : World) (blk off : Nat) (d : Array Int) (wr : World) (dk : Array Int) : Prop := dk.size = d.size ∧ ∃ n os, wr = grow (putRow (Value.int .u64) (Sort.ahead w n) blk off dk) os
/-- Which row: its cells, none frozen, in a block that was there. -/
structure RowOf (w : World) (blk off : Nat) (d : Array Int) : Prop where
  holds : Holds (Value.int .u64) w blk off d
  old : blk < w.heap.size
  fits : d.size < 4611686018427387904
section
variable {w wr : World} {blk off : Nat} {d dk : Array Int}
theorem RowG.self (H : RowOf w blk off d) : RowG w blk off d w d := ⟨rfl, 0, #[], by rw [grow_empty, ahead_zero]; exact (putRow_self _ _ _ _ _ H.holds).symm⟩
theorem RowG.of (H : RowOf w blk off d) (h : RowG w blk off d wr dk) : RowOf wr blk off dk := by
  obtain ⟨hs, n, os, rfl⟩ := h
  refine ⟨holds_grow _ _ _ _ _ _ (by simpa using H.old) (holds_putRow _ _ _ _ d dk (holds_ahead _ _ _ _ _ _ H.holds) hs), ?_, by rw [hs]; exact H.fits⟩
  have := H.old
  simp
  omega
theorem RowG.size (h : RowG w blk off d wr dk) : w.heap.size ≤ wr.heap.size := by
  obtain ⟨_, n, os, rfl⟩ := h
  simp
/-- The cells under a name of their own. -/
theorem RowOf.cells (H : RowOf w blk off d) : ∃ G : Nat → Int, Hid (∀ t, G t = d[t]!) ∧ (∀ t, t < d.size → w.cell? ⟨blk, off + t, none⟩ = some (.int .u64 (G t))) ∧ (∀ t, t < d.size → w.frozen? ⟨blk, off + t, none⟩ = false) :=
  ⟨fun t => d[t]!, fun _ => rfl, fun t ht => (H.holds t ht).1, fun t ht => (H.holds t ht).2⟩
theorem RowOf.cellAt (H : RowOf w blk off d) {G : Nat → Int} (hG : Hid (∀ t, G t = d[t]!)) : ∀ t, t < d.size → w.cell? ⟨blk, off + t, none⟩ = some (.int .u64 (G t)) := fun t ht => by rw [hG.out]; exact (H.holds t ht).1
theorem RowOf.soft (H : RowOf w blk off d) : ∀ t, t < d.size → w.frozen? ⟨blk, off + t, none⟩ = false := fun t ht => (H.holds t ht).2
theorem name_cells (d : Array Int) : ∃ G : Nat → Int, Hid (∀ t, G t = d[t]!) := ⟨fun t => d[t]!, fun _ => rfl⟩
theorem RowG.drew (h : RowG w blk off d wr dk) (q : Nat) : RowG w blk off d (wr.drewN q) dk := by
  obtain ⟨hs, n, os, rfl⟩ := h
  refine ⟨hs, n + q, os, ?_⟩
  rw [← ahead_ahead]
  rfl
theorem RowG.set (H : RowOf w blk off d) (h : RowG w blk off d wr dk) (i : Nat) (x : Int) (hi : i < dk.size) : RowG w blk off d (wr.setCell ⟨blk, off + i, none⟩ (.int .u64 x)) (dk.setIfInBounds i x) := by
  obtain ⟨hs, n, os, rfl⟩ := h
  refine ⟨by simpa using hs, n, os, ?_⟩
  rw [setCell_eq, mapBlock_grow _ _ _ _ (by simpa using H.old), ← setCell_eq]
  exact congrArg (grow · os) (putRow_set (Value.int .u64) _ blk off dk i x hi)
/-- data[j], data[k] = data[k], data[j] -/
theorem RowG.swap (H : RowOf w blk off d) (h : RowG w blk off d wr dk) {G : Nat → Int} (hG : Hid (∀ t, G t = dk[t]!)) (q j k : Nat) (hj : j < dk.size) (hk : k < dk.size) :
    RowG w blk off d (((wr.drewN q).setCell ⟨blk, off + j, none⟩ (.int .u64 (G k))).setCell ⟨blk, off + k, none⟩ (.int .u64 (G j))) (swp dk j k) := by
  rw [hG.out, hG.out]
  exact RowG.set H (RowG.set H (h.drew q) j _ hj) k _ (by simpa using hk)
/-- .. as a walk writes it behind one draw. -/
theorem RowG.swapD (H : RowOf w blk off d) (h : RowG w blk off d wr dk) {G : Nat → Int} (hG : Hid (∀ t, G t = dk[t]!)) (j k : Nat) (hj : j < dk.size) (hk : k < dk.size) :
    RowG w blk off d ((wr.setCell ⟨blk, off + j, none⟩ (.int .u64 (G k))).setCell ⟨blk, off + k, none⟩ (.int .u64 (G j))).drew (swp dk j k) := by
  have := RowG.drew (RowG.swap H h hG 0 j k hj hk) 1
  exact this
theorem RowG.trans (H : RowOf w blk off d) (h : RowG w blk off d wr dk) {w2 : World} {d2 : Array Int} (k : RowG wr blk off dk w2 d2) : RowG w blk off d w2 d2 := by
  obtain ⟨hs, n, os, rfl⟩ := h
  obtain ⟨ks, m, os2, rfl⟩ := k
  exact ⟨ks.trans hs, n + m, os ++ os2, grow_step_grow _ _ _ _ _ _ _ _ _ _ H.old ks⟩
theorem RowG.alloc (h : RowG w blk off d wr dk) (o : Obj) : RowG w blk off d (wr.alloc o) dk := by
  obtain ⟨hs, n, os, rfl⟩ := h
  exact ⟨hs, n, os ++ #[o], by rw [alloc_eq_grow, grow_grow]⟩
/-- A store into a block that was not there. -/
theorem RowG.fresh (h : RowG w blk off d wr dk) {g : Nat} (hg : w.heap.size ≤ g) (i : Nat) (v : Value) : RowG w blk off d (wr.setCell ⟨g, i, none⟩ v) dk := by
  obtain ⟨hs, n, os, rfl⟩ := h
  refine ⟨hs, n, os.modify (g - (putRow (Value.int .u64) (Sort.ahead w n) blk off dk).heap.size) (onCells (·.setIfInBounds i v)), ?_⟩
  rw [setCell_eq]
  exact mapBlock_grow_new _ _ _ _ (by simpa using hg)
end
def intOf7 : Value → Int | .int _ q => q | _ => 0
section
variable {lt : Int → Int → Bool}
theorem insInner_go7 {a j : Nat} {d : Array Int} (hj : a < j) (hl : lt d[j]! d[j - 1]! = true) : insInner lt a j d = insInner lt a (j - 1) (swp d j (j - 1)) := by
  obtain ⟨k, rfl⟩ : ∃ k, j = k + 1 := ⟨j - 1, by omega⟩
  simp only [Nat.add_sub_cancel] at hl ⊢
  rw [insInner, if_pos]
  simp [hj, hl]
theorem insInner_stop7 {a j : Nat} {d : Array Int} (h : j ≤ a ∨ lt d[j]! d[j - 1]! = false) : insInner lt a j d = d := by
  cases j with
  | zero => rfl
  | succ k =>
    rw [insInner, if_neg]
    simp only [Nat.add_sub_cancel] at h
    rcases h with h | h
    · simp [show ¬ k + 1 > a by omega]
    · simp [h]
theorem insOuter_go7 {a b i : Nat} {d : Array Int} (h : i < b) : insOuter lt a b i d = insOuter lt a b (i + 1) (insInner lt a i d) := by rw [insOuter, if_pos h]
theorem insOuter_stop7 {a b i : Nat} {d : Array Int} (h : ¬ i < b) : insOuter lt a b i d = d := by rw [insOuter, if_neg h]
theorem scanUp_go7 {p : Int → Bool} {d : Array Int} {j i : Nat} (h : i ≤ j) (hp : p d[i]! = true) : scanUp p d j i = scanUp p d j (i + 1) := by rw [scanUp, if_pos (by simp [h, hp])]
theorem scanUp_stop7 {p : Int → Bool} {d : Array Int} {j i : Nat} (h : j < i ∨ p d[i]! = false) : scanUp p d j i = i := by
  rw [scanUp, if_neg]
  rcases h with h | h
  · simp; intro h2; omega
  · simp [h]
theorem scanDown_go7 {p : Int → Bool} {d : Array Int} {i m : Nat} (h : i ≤ m) (h0 : 0 < m) (hp : p d[m]! = true) : scanDown p d i m = scanDown p d i (m - 1) := by
  obtain ⟨k, rfl⟩ : ∃ k, m = k + 1 := ⟨m - 1, by omega⟩
  rw [scanDown, if_pos (by simp [h, hp]), Nat.add_sub_cancel]
theorem scanDown_stop7 {p : Int → Bool} {d : Array Int} {i m : Nat} (h : m < i ∨ p d[m]! = false) : scanDown p d i m = m := by
  cases m with
  | zero => rfl
  | succ k =>
    rw [scanDown, if_neg]
    rcases h with h | h
    · simp; intro h2; omega
    · simp [h]
theorem partLoop_end7 {a i j k m : Nat} {d : Array Int} (hU : scanUp (fun x => lt x d[a]!) d j i = k) (hD : scanDown (fun x => !lt x d[a]!) d k j = m) (h : m < k) : partLoop lt a i j d = (m, d) := by
  rw [partLoop_eq, hU, hD, if_pos h]
theorem partLoop_on7 {a i j k m : Nat} {d : Array Int} (hU : scanUp (fun x => lt x d[a]!) d j i = k) (hD : scanDown (fun x => !lt x d[a]!) d k j = m) (h : ¬ m < k) : partLoop lt a i j d = partLoop lt a (k + 1) (m - 1) (swp d k m) := by
  rw [partLoop_eq, hU, hD, if_neg h]
theorem partEqLoop_end7 {a i j k m : Nat} {d : Array Int} (hU : scanUp (fun x => !lt d[a]! x) d j i = k) (hD : scanDown (fun x => lt d[a]! x) d k j = m) (h : m < k) : partEqLoop lt a i j d = (k, d) := by
  rw [partEqLoop_eq, hU, hD, if_pos h]
theorem partEqLoop_on7 {a i j k m : Nat} {d : Array Int} (hU : scanUp (fun x => !lt d[a]! x) d j i = k) (hD : scanDown (fun x => lt d[a]! x) d k j = m) (h : ¬ m < k) : partEqLoop lt a i j d = partEqLoop lt a (k + 1) (m - 1) (swp d k m) := by
  rw [partEqLoop_eq, hU, hD, if_neg h]
end
end Go.Proofs.YtjpfcdgaepdcdaaGreat
/- slices.Sort's parts at []uint64: cmp.Less, insertionSortOrdered. Conditions: the row lies in a block that was there, and has fewer than 2^62 elements. -/
namespace Go.Proofs.YtjpfcdgaepdcdaaGreat
open Go.RowKit Go.Sort
set_option maxRecDepth 20000
set_option maxHeartbeats 1000000 in
theorem isNaN7 (x : Int) (w : World) : Calls Tryz.prog 70 #[.int .u64 x] w fun e w' => e = .returned (.bool false) ∧ w' = w := by
  go_enter Tryz.func70, Tryz.ntmps70
  go_wp2_with fail
  go_ret
  exact ⟨by simp, rfl⟩
set_option maxHeartbeats 1000000 in
theorem less7 (x y : Int) (w : World) : Calls Tryz.prog 91 #[.int .u64 x, .int .u64 y] w fun e w' => e = .returned (.bool (ltInt x y)) ∧ w' = w := by
  go_enter Tryz.func91, Tryz.ntmps91
  go_wp2_with (go_at_call 70; refine (isNaN7 _ _).mono ?_; rintro e w' ⟨rfl, rfl⟩)
  go_ret
  exact ⟨rfl, rfl⟩
set_option maxHeartbeats 8000000 in
theorem insertionSort7 (blk off cap n a b : Nat) (d : Array Int) (w : World) (H : RowOf w blk off d) (hn : d.size = n) (hab : a ≤ b) (hb : b ≤ n) :
    Calls Tryz.prog 85 #[.slice (some ⟨blk, off, none⟩) n cap, .int .i64 a, .int .i64 b] w fun e w' => e = .returned (.tuple #[]) ∧ RowG w blk off d w' (insertionSort ltInt d a b) := by
  subst hn
  have HH := Lib.hid H
  have hsz := H.fits
  clear H
  go_enter Tryz.func85, Tryz.ntmps85
  go_wp2_with fail
  go_loopw [6] (fun vi wr => ∃ (i : Nat) (dk : Array Int), vi = .int .i64 i ∧ a < i ∧ i ≤ b + 1 ∧ Hid (RowG w blk off d wr dk) ∧ Hid (insOuter ltInt a b i dk = insOuter ltInt a b (a + 1) d)) (fun vi _ => b + 1 - (intOf7 vi).toNat)
  case atStart => exact ⟨a + 1, d, by go_num, by omega, by omega, Lib.hid (RowG.self HH.out), Lib.hid rfl⟩
  case round =>
    obtain ⟨i, dk, rfl, hai, hib, HR, HO⟩ := hrel
    by_cases hlt : i < b
    · have hsk := HR.out.1
      go_wp2_with fail
      go_loopw [7] (fun vj wr2 => ∃ (j : Nat) (dj : Array Int), vj = .int .i64 j ∧ a ≤ j ∧ j ≤ i ∧ Hid (RowG w blk off d wr2 dj) ∧ Hid (insInner ltInt a j dj = insInner ltInt a i dk)) (fun vj _ => (intOf7 vj).toNat)
      case atStart => exact ⟨i, dk, rfl, by omega, Nat.le_refl _, HR, Lib.hid rfl⟩
      case round =>
        obtain ⟨j, dj, rfl, haj, hji, HR2, HI⟩ := hrel
        have hsj := HR2.out.1
        obtain ⟨G, HG, hcw, hfw⟩ := (HR2.out.of HH.out).cells
        rw [hsj] at hcw hfw
        have OUT := Lib.hid (show (j ≤ a ∨ ltInt dj[j]! dj[j - 1]! = false) → insOuter ltInt a b (i + 1) dj = insOuter ltInt a b (a + 1) d from fun hs => by
          rw [← HO.out, insOuter_go7 hlt, ← HI.out, insInner_stop7 hs])
        have IN := Lib.hid (show a < j → ltInt dj[j]! dj[j - 1]! = true → insInner ltInt a (j - 1) (swp dj j (j - 1)) = insInner ltInt a i dk from fun h1 h2 => by
          rw [← HI.out, insInner_go7 h1 h2])
        clear HI
        by_cases hja : a < j
        · go_wp2_with fail
          go_quiet ((go_at_call 91; refine Calls.quiet_of_same (less7 _ _ _)))
          go_wp2_with fail
          · have hl : ltInt (G j) (G (j - 1)) = true := by assumption
            go_region
            all_goals go_wp2_with fail
            go_roundw
            case rel => exact ⟨j - 1, swp dj j (j - 1), by congr 1; omega, by omega, by omega, Lib.hid (HR2.out.swap HH.out HG (nq + 1) j (j - 1) (by omega) (by omega)), Lib.hid (IN.out hja (by rw [← HG.out, ← HG.out]; exact hl))⟩
            case measure => simp [intOf7]; omega
          · have hl : ltInt (G j) (G (j - 1)) = false := by assumption
            go_roundw
            case rel => exact ⟨i + 1, dj, by go_num, by omega, by omega, Lib.hid (HR2.out.drew _), Lib.hid (OUT.out (Or.inr (by rw [← HG.out, ← HG.out]; exact hl)))⟩
            case measure => simp [intOf7]; omega
        · go_wp2_with fail
          go_quiet ((go_at_call 91; refine Calls.quiet_of_same (less7 _ _ _)))
          go_wp2_with fail
          go_roundw
          case rel => exact ⟨i + 1, dj, by go_num, by omega, by omega, Lib.hid (HR2.out.drew _), Lib.hid (OUT.out (Or.inl (by omega)))⟩
          case measure => simp [intOf7]; omega
    · go_wp2_with fail
      go_end0
      exact ⟨rfl, by unfold insertionSort; rw [← HO.out, insOuter_stop7 hlt]; exact HR.out⟩
end Go.Proofs.YtjpfcdgaepdcdaaGreat
/- slices.Sort's parts at []uint64: siftDownOrdered, heapSortOrdered, reverseRangeOrdered. Conditions: the row lies in a block that was there, and has fewer than 2^62 elements. -/
namespace Go.Proofs.YtjpfcdgaepdcdaaGreat
open Go.RowKit Go.Sort
set_option maxRecDepth 20000
section
variable {lt : Int → Int → Bool}
theorem siftDown_out7 {hi f r : Nat} {d : Array Int} (h : ¬ 2 * r + 1 < hi) : siftDown lt hi f r d = d := by rw [siftDown, dif_pos (by omega)]
theorem siftDown_in7 {hi f r c : Nat} {d : Array Int} (h : 2 * r + 1 < hi) (hc : (c = 2 * r + 2 ∧ 2 * r + 2 < hi ∧ lt d[f + (2 * r + 1)]! d[f + (2 * r + 1) + 1]! = true) ∨ (c = 2 * r + 1 ∧ (¬ 2 * r + 2 < hi ∨ lt d[f + (2 * r + 1)]! d[f + (2 * r + 1) + 1]! = false))) :
    siftDown lt hi f r d = if lt d[f + r]! d[f + c]! = true then siftDown lt hi f c (swp d (f + r) (f + c)) else d := by
  rw [siftDown, dif_neg (by omega)]
  rcases hc with ⟨rfl, h1, h2⟩ | ⟨rfl, h1⟩
  · rw [if_pos (by simp [h1, h2])]
    cases hl : lt d[f + r]! d[f + (2 * r + 2)]! with
    | true => rw [if_neg (by simp), dif_pos h1, if_pos rfl]
    | false => rw [if_pos (by simp), if_neg (by simp)]
  · rw [if_neg (by rcases h1 with h1 | h1 <;> simp [h1])]
    cases hl : lt d[f + r]! d[f + (2 * r + 1)]! with
    | true => rw [if_neg (by simp), if_pos rfl]
    | false => rw [if_pos (by simp), if_neg (by simp)]
theorem reverseLoop_go7 {i j : Nat} {d : Array Int} (h : i < j) : reverseLoop i j d = reverseLoop (i + 1) (j - 1) (swp d i j) := by rw [reverseLoop, if_pos h]
theorem reverseLoop_stop7 {i j : Nat} {d : Array Int} (h : ¬ i < j) : reverseLoop i j d = d := by rw [reverseLoop, if_neg h]
end
set_option maxHeartbeats 8000000 in
theorem reverseRange7 (blk off cap n a b : Nat) (d : Array Int) (w : World) (H : RowOf w blk off d) (hn : d.size = n) (hab : a < b) (hb : b ≤ n) :
    Calls Tryz.prog 89 #[.slice (some ⟨blk, off, none⟩) n cap, .int .i64 a, .int .i64 b] w fun e w' => e = .returned (.tuple #[]) ∧ RowG w blk off d w' (reverseRange d a b) := by
  subst hn
  have HH := Lib.hid H
  have hsz := H.fits
  clear H
  go_enter Tryz.func89, Tryz.ntmps89
  go_wp2_with fail
  go_loopw [6, 7] (fun vi vj wr => ∃ (i j : Nat) (dk : Array Int), vi = .int .i64 i ∧ vj = .int .i64 j ∧ a ≤ i ∧ j < b ∧ i ≤ j + 1 ∧ Hid (RowG w blk off d wr dk) ∧ Hid (reverseLoop i j dk = reverseLoop a (b - 1) d)) (fun _ vj _ => (intOf7 vj).toNat)
  case atStart => exact ⟨a, b - 1, d, rfl, by congr 1; omega, by omega, by omega, by omega, Lib.hid (RowG.self HH.out), Lib.hid rfl⟩
  case round =>
    obtain ⟨i, j, dk, rfl, rfl, hai, hjb, hij, HR, HO⟩ := hrel
    have hsk := HR.out.1
    obtain ⟨G, HG, hcw, hfw⟩ := (HR.out.of HH.out).cells
    rw [hsk] at hcw hfw
    by_cases hlt : i < j
    · have HO2 := Lib.hid ((reverseLoop_go7 hlt).symm.trans HO.out)
      clear HO
      go_wp2_with fail
      go_region
      all_goals go_wp2_with fail
      go_roundw
      case rel => exact ⟨i + 1, j - 1, swp dk i j, by go_num, by congr 1; omega, by omega, by omega, by omega, Lib.hid (HR.out.swap HH.out HG 1 i j (by omega) (by omega)), HO2⟩
      case measure => simp [intOf7]; omega
    · go_wp2_with fail
      go_end0
      exact ⟨rfl, by unfold reverseRange; rw [← HO.out, reverseLoop_stop7 hlt]; exact HR.out⟩
set_option maxHeartbeats 16000000 in
theorem siftDown7 (blk off cap n lo hi f : Nat) (d : Array Int) (w : World) (H : RowOf w blk off d) (hn : d.size = n) (hlo : lo ≤ n) (hb : f + hi ≤ n) :
    Calls Tryz.prog 114 #[.slice (some ⟨blk, off, none⟩) n cap, .int .i64 lo, .int .i64 hi, .int .i64 f] w fun e w' => e = .returned (.tuple #[]) ∧ RowG w blk off d w' (siftDown ltInt hi f lo d) := by
  subst hn
  have HH := Lib.hid H
  have hsz := H.fits
  clear H
  go_enter Tryz.func114, Tryz.ntmps114
  go_wp2_with fail
  go_loopw [8] (fun vi wr => ∃ (r : Nat) (dk : Array Int), vi = .int .i64 r ∧ r ≤ d.size ∧ Hid (RowG w blk off d wr dk) ∧ Hid (siftDown ltInt hi f r dk = siftDown ltInt hi f lo d)) (fun vi _ => hi - (intOf7 vi).toNat)
  case atStart => exact ⟨lo, d, rfl, hlo, Lib.hid (RowG.self HH.out), Lib.hid rfl⟩
  case round =>
    obtain ⟨r, dk, rfl, hr, HR, HO⟩ := hrel
    have hsk := HR.out.1
    obtain ⟨G, HG, hcw, hfw⟩ := (HR.out.of HH.out).cells
    rw [hsk] at hcw hfw
    obtain ⟨c1, hc1⟩ : ∃ c1, 2 * r + 1 = c1 := ⟨_, rfl⟩
    have hc1I : 2 * (r : Int) + 1 = (c1 : Int) := by omega
    by_cases hlt : c1 < hi
    · obtain ⟨c2, hc2⟩ : ∃ c2, c1 + 1 = c2 := ⟨_, rfl⟩
      have hc2I : (c1 : Int) + 1 = (c2 : Int) := by omega
      obtain ⟨x1, hx1⟩ : ∃ x, f + c1 = x := ⟨_, rfl⟩
      have hx1I : (f : Int) + (c1 : Int) = (x1 : Int) := by omega
      obtain ⟨x0, hx0⟩ : ∃ x, f + r = x := ⟨_, rfl⟩
      have hx0I : (f : Int) + (r : Int) = (x0 : Int) := by omega
      obtain ⟨x2, hx2⟩ : ∃ x, f + c2 = x := ⟨_, rfl⟩
      have hx2I : (f : Int) + (c2 : Int) = (x2 : Int) := by omega
      have hx3I : (x1 : Int) + 1 = (x2 : Int) := by omega
      have hx0l : x0 < d.size := by omega
      have hx1l : x1 < d.size := by omega
      have hw0 : IntKind.i64.wrap (x0 : Int) = (x0 : Int) := IntWalk.i64_in _ (by omega)
      have hw1 : IntKind.i64.wrap (x1 : Int) = (x1 : Int) := IntWalk.i64_in _ (by omega)
      have hw2 : IntKind.i64.wrap (x2 : Int) = (x2 : Int) := IntWalk.i64_in _ (by omega)
      by_cases hA1 : c2 < hi
      · have hx2l : x2 < d.size := by omega
        have g1 : decide ((c2 : Int) < (hi : Int)) = true := by simp; omega
        cases hA2 : ltInt (G x1) (G x2) with
        | true =>
          have hE := siftDown_in7 (lt := ltInt) (hi := hi) (r := r) (f := f) (d := dk) (c := c2) (by omega) (.inl ⟨by omega, by omega, by rw [hc1, hx1, ← HG.out, show x1 + 1 = x2 by omega, ← HG.out]; exact hA2⟩)
          rw [HO.out, hx0, hx2, ← HG.out, ← HG.out] at hE
          have HE := Lib.hid hE
          have hM : hi - c2 < hi - r := by omega
          clear hE HO hc1 hc2 hx0 hx1 hx2
          go_wp2_with fail
          go_quiet ((go_at_call 91; refine Calls.quiet_of_same (less7 _ _ _)))
          go_wp2_with fail
          have HR2 := Lib.hid (HR.out.drew nq)
          have hcw2 : ∀ t, t < d.size → (wr.drewN nq).cell? ⟨blk, off + t, none⟩ = some (.int .u64 (G t)) := hcw
          have hfw2 : ∀ t, t < d.size → (wr.drewN nq).frozen? ⟨blk, off + t, none⟩ = false := hfw
          clear hcw hfw
          generalize wr.drewN nq = wr2 at HR2 hcw2 hfw2 ⊢
          go_quiet ((go_at_call 91; refine Calls.quiet_of_same (less7 _ _ _)))
          go_wp2_with fail
          · have hl : ltInt (G x0) (G x2) = false := by
              have h : (!ltInt (G x0) (G x2)) = true := by assumption
              simpa using h
            refine bodyPost_ret (results_none rfl _ _ _) rfl ?_
            exact ⟨rfl, by rw [HE.out, if_neg (by rw [hl]; simp)]; exact HR2.out.drew _⟩
          · have hl : ltInt (G x0) (G x2) = true := by
              have h : (!ltInt (G x0) (G x2)) = false := by assumption
              simpa using h
            go_region
            all_goals go_wp2_with fail
            go_roundw
            case rel => exact ⟨c2, swp dk x0 x2, rfl, by omega, Lib.hid (HR2.out.swap HH.out HG _ x0 x2 (by omega) (by omega)), Lib.hid (by rw [HE.out, if_pos hl])⟩
            case measure => simp [intOf7]; omega
        | false =>
          have hE := siftDown_in7 (lt := ltInt) (hi := hi) (r := r) (f := f) (d := dk) (c := c1) (by omega) (.inr ⟨by omega, .inr (by rw [hc1, hx1, ← HG.out, show x1 + 1 = x2 by omega, ← HG.out]; exact hA2)⟩)
          rw [HO.out, hx0, hx1, ← HG.out, ← HG.out] at hE
          have HE := Lib.hid hE
          have hM : hi - c1 < hi - r := by omega
          clear hE HO hc1 hc2 hx0 hx1 hx2
          go_wp2_with fail
          go_quiet ((go_at_call 91; refine Calls.quiet_of_same (less7 _ _ _)))
          go_wp2_with fail
          have HR2 := Lib.hid (HR.out.drew nq)
          have hcw2 : ∀ t, t < d.size → (wr.drewN nq).cell? ⟨blk, off + t, none⟩ = some (.int .u64 (G t)) := hcw
          have hfw2 : ∀ t, t < d.size → (wr.drewN nq).frozen? ⟨blk, off + t, none⟩ = false := hfw
          clear hcw hfw
          generalize wr.drewN nq = wr2 at HR2 hcw2 hfw2 ⊢
          go_quiet ((go_at_call 91; refine Calls.quiet_of_same (less7 _ _ _)))
          go_wp2_with fail
          · have hl : ltInt (G x0) (G x1) = false := by
              have h : (!ltInt (G x0) (G x1)) = true := by assumption
              simpa using h
            refine bodyPost_ret (results_none rfl _ _ _) rfl ?_
            exact ⟨rfl, by rw [HE.out, if_neg (by rw [hl]; simp)]; exact HR2.out.drew _⟩
          · have hl : ltInt (G x0) (G x1) = true := by
              have h : (!ltInt (G x0) (G x1)) = false := by assumption
              simpa using h
            go_region
            all_goals go_wp2_with fail
            go_roundw
            case rel => exact ⟨c1, swp dk x0 x1, rfl, by omega, Lib.hid (HR2.out.swap HH.out HG _ x0 x1 (by omega) (by omega)), Lib.hid (by rw [HE.out, if_pos hl])⟩
            case measure => simp [intOf7]; omega
      · have g1 : decide ((c2 : Int) < (hi : Int)) = false := by simp; omega
        have hE := siftDown_in7 (lt := ltInt) (hi := hi) (r := r) (f := f) (d := dk) (c := c1) (by omega) (.inr ⟨by omega, .inl (by omega)⟩)
        rw [HO.out, hx0, hx1, ← HG.out, ← HG.out] at hE
        have HE := Lib.hid hE
        have hM : hi - c1 < hi - r := by omega
        clear hE HO hc1 hc2 hx0 hx1 hx2
        go_wp2_with fail
        go_quiet ((go_at_call 91; refine Calls.quiet_of_same (less7 _ _ _)))
        go_wp2_with fail
        have HR2 := Lib.hid (HR.out.drew nq)
        have hcw2 : ∀ t, t < d.size → (wr.drewN nq).cell? ⟨blk, off + t, none⟩ = some (.int .u64 (G t)) := hcw
        have hfw2 : ∀ t, t < d.size → (wr.drewN nq).frozen? ⟨blk, off + t, none⟩ = false := hfw
        clear hcw hfw
        generalize wr.drewN nq = wr2 at HR2 hcw2 hfw2 ⊢
        go_quiet ((go_at_call 91; refine Calls.quiet_of_same (less7 _ _ _)))
        go_wp2_with fail
        · have hl : ltInt (G x0) (G x1) = false := by
            have h : (!ltInt (G x0) (G x1)) = true := by assumption
            simpa using h
          refine bodyPost_ret (results_none rfl _ _ _) rfl ?_
          exact ⟨rfl, by rw [HE.out, if_neg (by rw [hl]; simp)]; exact HR2.out.drew _⟩
        · have hl : ltInt (G x0) (G x1) = true := by
            have h : (!ltInt (G x0) (G x1)) = false := by assumption
            simpa using h
          go_region
          all_goals go_wp2_with fail
          go_roundw
          case rel => exact ⟨c1, swp dk x0 x1, rfl, by omega, Lib.hid (HR2.out.swap HH.out HG _ x0 x1 (by omega) (by omega)), Lib.hid (by rw [HE.out, if_pos hl])⟩
          case measure => simp [intOf7]; omega
    · go_wp2_with fail
      go_end0
      exact ⟨rfl, by rw [← HO.out, siftDown_out7 (by omega)]; exact HR.out⟩
set_option maxHeartbeats 16000000 in
theorem heapSort7 (blk off cap n a b : Nat) (d : Array Int) (w : World) (H : RowOf w blk off d) (hn : d.size = n) (hab : a < b) (hb : b ≤ n) :
    Calls Tryz.prog 86 #[.slice (some ⟨blk, off, none⟩) n cap, .int .i64 a, .int .i64 b] w fun e w' => e = .returned (.tuple #[]) ∧ RowG w blk off d w' (heapSort ltInt d a b) := by
  have HN := Lib.hid hn
  have HH := Lib.hid H
  have hsz := H.fits
  rw [hn] at hsz
  clear H hn
  obtain ⟨h, hh⟩ : ∃ h, b - a = h + 1 := ⟨b - a - 1, by omega⟩
  have hhI : (b : Int) - (a : Int) = (h : Int) + 1 := by omega
  obtain ⟨k0, hk0⟩ : ∃ k, h / 2 = k := ⟨_, rfl⟩
  have hk0I : (h : Int) / 2 = (k0 : Int) := by omega
  have hk0T : (h : Int).tdiv 2 = (k0 : Int) := by rw [Int.tdiv_eq_ediv_of_nonneg (by omega)]; omega
  go_enter Tryz.func86, Tryz.ntmps86
  go_wp2_with fail
  go_loopw [9] (fun vi wr => ∃ (k : Nat) (dk : Array Int), vi = .int .i64 ((k : Int) - 1) ∧ k ≤ k0 + 1 ∧ Hid (RowG w blk off d wr dk) ∧ Hid (heapBuild ltInt (h + 1) a k dk = heapBuild ltInt (h + 1) a (k0 + 1) d)) (fun vi _ => (intOf7 vi + 1).toNat)
  case atStart => exact ⟨k0 + 1, d, by rw [show ((k0 + 1 : Nat) : Int) - 1 = (k0 : Int) by omega], Nat.le_refl _, Lib.hid (RowG.self HH.out), Lib.hid rfl⟩
  case round =>
    obtain ⟨k, dk, rfl, hk, HR, HO⟩ := hrel
    rcases k with _ | k
    · have e0 : ((0 : Nat) : Int) - 1 = -1 := rfl
      rw [e0]
      go_wp2_with fail
      go_loopw [10] (fun vi wr => ∃ (k : Nat) (dk : Array Int), vi = .int .i64 ((k : Int) - 1) ∧ k ≤ h + 1 ∧ Hid (RowG w blk off d wr dk) ∧ Hid (heapPop ltInt a k dk = heapSort ltInt d a b)) (fun vi _ => (intOf7 vi + 1).toNat)
      case atStart => exact ⟨h + 1, dk, by rw [show ((h + 1 : Nat) : Int) - 1 = (h : Int) by omega], Nat.le_refl _, HR, Lib.hid (by unfold heapSort; rw [hh, Nat.add_sub_cancel, hk0, ← HO.out]; rfl)⟩
      case round =>
        clear HO HR
        obtain ⟨k, dk, rfl, hk, HR, HO⟩ := hrel
        rcases k with _ | k
        · rw [e0]
          go_wp2_with fail
          go_end0
          exact ⟨rfl, by rw [← HO.out]; exact HR.out⟩
        · have e1 : ((k + 1 : Nat) : Int) - 1 = (k : Int) := by omega
          rw [e1]
          have hsk := HR.out.1.trans HN.out
          obtain ⟨G, HG, hcw, hfw⟩ := (HR.out.of HH.out).cells
          rw [hsk] at hcw hfw
          obtain ⟨x, hx⟩ : ∃ x, a + k = x := ⟨_, rfl⟩
          have hxI : (a : Int) + (k : Int) = (x : Int) := by omega
          have hw0 : IntKind.i64.wrap (x : Int) = (x : Int) := IntWalk.i64_in _ (by omega)
          have hxl : x < n := by omega
          have hal : a < n := by omega
          have HX := Lib.hid hx
          clear hx
          have HK := Lib.hid (show ∀ w2, Hid (RowG w blk off d w2 (swp dk a x)) → Calls Tryz.prog 114 #[.slice (some ⟨blk, off, none⟩) n cap, .int .i64 0, .int .i64 k, .int .i64 a] w2 fun e w' => e = .returned (.tuple #[]) ∧ Hid (RowG w blk off d w' (siftDown ltInt k a 0 (swp dk a (a + k)))) from fun w2 HR2 =>
            (siftDown7 blk off cap n 0 k a (swp dk a x) w2 (HR2.out.of HH.out) (HR2.out.1.trans HN.out) (by omega) (by omega)).mono fun e w' ⟨h1, h2⟩ => ⟨h1, Lib.hid (by rw [HX.out]; exact HR2.out.trans HH.out h2)⟩)
          have HJ := Lib.hid (show heapPop ltInt a k (siftDown ltInt k a 0 (swp dk a (a + k))) = heapSort ltInt d a b from by rw [← HO.out]; rfl)
          clear HO
          rcases Nat.eq_zero_or_pos k with h0 | h0
          · obtain rfl : a = x := by have := HX.out; omega
            have HK0 := Lib.hid (show ∀ w2, Hid (RowG w blk off d w2 (swp dk a a)) → Calls Tryz.prog 114 #[.slice (some ⟨blk, off, none⟩) n cap, .int .i64 0, .int .i64 0, .int .i64 a] w2 fun e w' => e = .returned (.tuple #[]) ∧ Hid (RowG w blk off d w' (siftDown ltInt k a 0 (swp dk a (a + k)))) from fun w2 h => by
              have h2 := HK.out w2 h
              rw [h0] at h2 ⊢
              exact h2)
            clear HK
            go_wp2_with fail
            go_region
            all_goals go_wp2_with fail
            have HR2 := Lib.hid (HR.out.swapD HH.out HG a a (by omega) (by omega))
            refine (HK0.out _ HR2).mono ?_
            rintro e w' ⟨rfl, HR3⟩
            clear HR2
            go_wp2_with fail
            go_roundw
            case rel => exact ⟨k, _, by rw [h0]; rfl, by omega, HR3, HJ⟩
            case measure => simp [intOf7] <;> omega
          · have hax : a < x := by have := HX.out; omega
            go_wp2_with fail
            go_region
            all_goals go_wp2_with fail
            have HR2 := Lib.hid (HR.out.swapD HH.out HG a x (by omega) (by omega))
            refine (HK.out _ HR2).mono ?_
            rintro e w' ⟨rfl, HR3⟩
            clear HR2
            go_wp2_with fail
            go_roundw
            case rel => exact ⟨k, _, rfl, by omega, HR3, HJ⟩
            case measure => simp [intOf7] <;> omega
    · have e1 : ((k + 1 : Nat) : Int) - 1 = (k : Int) := by omega
      rw [e1]
      go_wp2_with fail
      refine (siftDown7 blk off cap n k (h + 1) a dk wr (HR.out.of HH.out) (HR.out.1.trans HN.out) (by omega) (by omega)).mono ?_
      rintro e w' ⟨rfl, hR2⟩
      have HR2 := Lib.hid (HR.out.trans HH.out hR2)
      clear hR2
      go_wp2_with fail
      go_roundw
      case rel => exact ⟨k, _, rfl, by omega, HR2, HO⟩
      case measure => simp [intOf7] <;> omega
end Go.Proofs.YtjpfcdgaepdcdaaGreat

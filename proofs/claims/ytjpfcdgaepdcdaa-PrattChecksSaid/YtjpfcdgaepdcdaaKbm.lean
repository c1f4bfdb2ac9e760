/- Several texts in one; each begins with a remark that says what it shows and on which conditions. -/
import Derived.Test.YtjpfcdgaepdcdaaKbl
/- pratt.Check, walked. Conditions: as typed (steps that may be gone through; a number that may be, or is the last step's). -/
namespace Go.Proofs.Ytjpfcdgaepdcdaa
open Go.RowKit
set_option maxRecDepth 20000
theorem checkN_nil {n : Nat} : CheckN n [] ↔ Known n := by
  constructor
  · rintro (⟨_, h⟩ | ⟨r, s, h, _⟩)
    · exact h
    · have := congrArg List.length h; simp at this
  · exact fun h => .inl ⟨rfl, h.1, h.2⟩
theorem CheckW.last11 {lp : List Nat} {ss : List SRaw} (h : CheckW lp ss) {m : Nat} (hm : ss.length = m + 1) (hl : m < ss.length) : natOf ss[m].P = natOf lp := by
  rcases h.2.2 with ⟨h1, _⟩ | ⟨r, s, h1, h2, _⟩
  · have := congrArg List.length h1
    rw [List.length_map, List.length_nil] at this
    omega
  · have e : ss.map toN = (ss.map toN).take m ++ [toN ss[m]] := by
      rw [show toN ss[m] = (ss.map toN)[m]'(by simp; omega) by simp, ← List.take_succ_eq_append_getElem (by simp; omega), List.take_of_length_le (by simp; omega)]
    rw [e] at h1
    have h3 := (List.append_inj' h1 rfl).2
    injection h3 with h3 _
    rw [← h2, ← h3]
    rfl
theorem CheckW.step11 {lp : List Nat} {ss : List SRaw} (h : CheckW lp ss) {j : Nat} {la : List Nat} (hm : CheckMid (ss.map toN) j la) (hj : j < ss.length) : OkRaw ss[j] ∧ StepOk (toN ss[j]) la := by
  refine ⟨h.2.1 _ (List.getElem_mem hj), ?_⟩
  have hj' : j < (ss.map toN).length := by simpa using hj
  have e : (ss.map toN)[j] = toN ss[j] := by simp
  rcases h.2.2 with ⟨h1, _⟩ | ⟨r, s, _, _, h1⟩
  · rw [h1] at hj'; cases hj'
  · rw [← e, ← hm.take hj']
    rw [← List.take_append_drop (j + 1) (ss.map toN)] at h1
    exact ((certOk_append _ _ _).1 h1).1
theorem checkW_done {lp : List Nat} {ss : List SRaw} {la : List Nat} (hm : CheckMid (ss.map toN) ss.length la) (hok : ∀ s ∈ ss, OkRaw s) {m : Nat} (he : ss.length = m + 1) (hl : m < ss.length) (hlast : natOf ss[m].P = natOf lp) (hp : OkNat lp ∨ ∃ s, ss.getLast? = some s ∧ s.P = lp) : CheckW lp ss := by
  refine ⟨?_, hok, .inr ⟨(ss.map toN).take m, toN ss[m], ?_, hlast, ?_⟩⟩
  · rcases hp with h | ⟨s, hs, rfl⟩
    · exact h
    · exact (hok s (List.mem_of_getLast? hs)).1
  · rw [show toN ss[m] = (ss.map toN)[m]'(by simp; omega) by simp, ← List.take_succ_eq_append_getElem (by simp; omega), List.take_of_length_le (by simp; omega)]
  · have := hm.cert
    rwa [List.take_of_length_le (by simp)] at this
def CFlag (b : Bool) (lp : List Nat) (ss : List SRaw) : Prop := b = true ↔ CheckW lp ss
theorem CFlag.no {b : Bool} {lp : List Nat} {ss : List SRaw} (h : CFlag b lp ss) (k : CheckW lp ss → False) : b = false := by
  cases hq : b with
  | false => rfl
  | true => exact (k (h.1 hq)).elim
/-- The steps that were gone through may be. -/
def OkTo (ss : List SRaw) (j : Nat) : Prop := ∀ i (hi : i < ss.length), i < j → OkRaw ss[i]
theorem OkTo.next {ss : List SRaw} {j : Nat} (h : OkTo ss j) (hj : j < ss.length) (ho : OkRaw ss[j]) : OkTo ss (j + 1) := fun i hi hlt => by
  rcases Nat.lt_succ_iff_lt_or_eq.1 hlt with h1 | rfl
  · exact h i hi h1
  · exact ho
theorem OkTo.all {ss : List SRaw} (h : OkTo ss ss.length) : ∀ s ∈ ss, OkRaw s := fun s hs => by
  obtain ⟨i, hi, rfl⟩ := List.mem_iff_getElem.1 hs
  exact h i hi hi
/-- The world while steps are gone through. -/
structure CheckAt (w0 u : World) (gB B nm : Nat) (la : List Nat) (A : Option Addr) (ss : List SRaw) : Prop where
  cM : u.cell? ⟨gB, 0, none⟩ = some (.map (some B))
  lt : gB < u.heap.size
  ne : gB ≠ B
  loB : w0.heap.size ≤ B
  sh : ShownAt u B nm la
  rS : RdSteps u w0.heap.size A ss
  be : Below w0.heap.size w0 u
theorem CheckAt.step {w0 u u' : World} {gB B nm : Nat} {la : List Nat} {A : Option Addr} {ss : List SRaw} (h : CheckAt w0 u gB B nm la A ss) (b : Below u.heap.size u u') : CheckAt w0 u' gB B nm la A ss :=
  ⟨(b.cell (p := ⟨gB, 0, none⟩) h.lt).trans h.cM, Nat.lt_of_lt_of_le h.lt b.size, h.ne, h.loB, h.sh.below b, fun h0 => by
    obtain ⟨g, off, e, hg, hall⟩ := h.rS h0
    have hgu : g < u.heap.size := Nat.lt_of_lt_of_le hg h.be.size
    refine ⟨g, off, e, hg, fun j hj => ?_⟩
    obtain ⟨vP, vG, vQ, h1, h2, h3, h4, h5, h6⟩ := hall j hj
    have b0 : Below w0.heap.size u u' := b.mono h.be.size
    obtain ⟨AQ, cQ, e2, h7, h8, h9⟩ := h6
    exact ⟨vP, vG, vQ, (b.cell (p := ⟨g, off + j * 3, none⟩) hgu).trans h1, (b.cell (p := ⟨g, off + j * 3 + 1, none⟩) hgu).trans h2, (b.cell (p := ⟨g, off + j * 3 + 2, none⟩) hgu).trans h3, h4.below b0, h5.below b0, AQ, cQ, e2, h7.below b0, h8, h9⟩, below_step h.be b⟩
theorem CheckAt.put {w0 u u' : World} {gB B nm m : Nat} {la : List Nat} {A : Option Addr} {ss : List SRaw} (h : CheckAt w0 u gB B nm la A ss) (sh : ShownAt u' B (nm + 1) (la ++ [m])) (hg : u.grownBy u' (some B)) : CheckAt w0 u' gB B (nm + 1) (la ++ [m]) A ss := by
  have b0 : Below w0.heap.size u u' := (Below.refl w0.heap.size u).grown hg h.be.size fun k e => by injection e with e; rw [← e]; exact h.loB
  refine ⟨(World.cell?_of_block (w := u) (hg.block gB h.lt (fun e => h.ne (by injection e)))).trans h.cM, Nat.lt_of_lt_of_le h.lt hg.size, h.ne, h.loB, sh, fun h0 => ?_, h.be.trans b0⟩
  obtain ⟨g, off, e, hg1, hall⟩ := h.rS h0
  refine ⟨g, off, e, hg1, fun j hj => ?_⟩
  obtain ⟨vP, vG, vQ, h1, h2, h3, h4, h5, h6⟩ := hall j hj
  obtain ⟨AQ, cQ, e2, h7, h8, h9⟩ := h6
  exact ⟨vP, vG, vQ, (b0.cell (p := ⟨g, off + j * 3, none⟩) hg1).trans h1, (b0.cell (p := ⟨g, off + j * 3 + 1, none⟩) hg1).trans h2, (b0.cell (p := ⟨g, off + j * 3 + 2, none⟩) hg1).trans h3, h4.below b0, h5.below b0, AQ, cQ, e2, h7.below b0, h8, h9⟩
theorem RdQ.more12 {w : World} {B B' : Nat} {v : Value} {ms : List (List Nat)} (h : RdQ w B v ms) (hB : B ≤ B') : RdQ w B' v ms := by
  obtain ⟨A, c, e, h1, h2, h3⟩ := h
  exact ⟨A, c, e, h1.more hB, h2, h3⟩
set_option maxHeartbeats 16000000 in
theorem check_known11 {w : World} {v : Value} {lp : List Nat} {A : Option Addr} {c : Nat} (hv : RdNat w w.heap.size v lp) (hp : OkNat lp) (b : Bool) (hb : CFlag b lp []) :
    Calls Try.prog 6 #[v, .slice A 0 c] w fun e w' => e = .returned (.bool b) ∧ Below w.heap.size w w' := by
  have hl : lp.length ≤ 40 := by
    have h1 := congrArg List.length hp.1
    rw [length_wd] at h1
    have := hp.2
    omega
  have C1 := Lib.hid (isKnown11 hv hl b (hb.trans ⟨fun h => checkN_nil.1 h.2.2, fun h => ⟨hp, by simp, checkN_nil.2 h⟩⟩))
  obtain ⟨Av, cv, rfl, _⟩ := hv
  clear hp hb hl
  go_enter Try.func6, Try.ntmps6
  go_wp2_with fail
  refine (C1.out).mono ?_
  rintro e w1 ⟨rfl, b1⟩
  have B1 := Lib.hid b1
  clear b1
  go_wp2_with fail
  go_ret
  exact ⟨rfl, B1.out⟩
set_option maxHeartbeats 16000000 in
theorem check_steps11 {w : World} {Av A : Option Addr} {nv cv n c : Nat} {lp : List Nat} {ss : List SRaw} (hv : RdNat w w.heap.size (.slice Av nv cv) lp) (hl40 : lp.length ≤ 40) (hp : OkNat lp ∨ ∃ s, ss.getLast? = some s ∧ s.P = lp) (h : RdSteps w w.heap.size A ss) (hn : ss.length = n) (h0 : 0 < n) (hf : FewAll ss) (b : Bool) (hb : CFlag b lp ss) :
    Calls Try.prog 6 #[.slice Av nv cv, .slice A n c] w fun e w' => e = .returned (.bool b) ∧ Below w.heap.size w w' := by
  obtain ⟨m, rfl⟩ : ∃ m, n = m + 1 := ⟨n - 1, by omega⟩
  have hml : m < ss.length := by omega
  obtain ⟨g, o, rfl, hg, hall⟩ := h (by omega)
  obtain ⟨vP, vG, vQ, eP, _, _, rP, _, _⟩ := hall m hml
  obtain ⟨Al, cl, rfl, _, _, _, _⟩ := id rP
  obtain ⟨nl, hnl⟩ : ∃ k, ss[m].P.length = k := ⟨_, rfl⟩
  have hlP40 := (hf.2 _ (List.getElem_mem hml)).2.1
  have C1 := bCmp (rP.in12 hlP40) (hv.in12 hl40)
  obtain ⟨x, hx⟩ : ∃ x, cmpS (natOf ss[m].P) (natOf lp) = x := ⟨_, rfl⟩
  rw [hx] at C1
  rw [hnl] at eP C1
  have hm30 : m + 1 ≤ 30 := by have := hf.1; omega
  have HN := Lib.hid hn
  have HML := Lib.hid hml
  have HF := Lib.hid hf
  have HC := Lib.hid hb
  have HP := Lib.hid hp
  have HS := Lib.hid h
  have HWI := Lib.hid (show IntKind.i64.wrap (((m + 1 : Nat) : Int) - 1) = (m : Int) from by unfold IntKind.wrap; simp [IntKind.signed, IntKind.bits]; omega)
  have hmm := @run_makeMap Try.prog
  clear hall hb hp h hf rP hnl hn hlP40
  by_cases he : natOf ss[m].P = natOf lp
  · have HE := Lib.hid he
    obtain rfl : x = 0 := by rw [← hx]; unfold cmpS; rw [if_neg (by omega), if_neg (by omega)]
    clear hx
    have C1 := Lib.hid C1
    clear he
    go_enter Try.func6, Try.ntmps6
    go_wp2_with fail
    refine (C1.out).mono ?_
    rintro e w1 ⟨rfl, b1⟩
    obtain ⟨B, hB⟩ : ∃ B, w1.heap.size = B := ⟨_, rfl⟩
    have hD0 : CheckAt w ((w1.alloc (.map #[] 0)).alloc (.cells #[.map (some B)] 38)) (B + 1) B 0 [] (some ⟨g, o, none⟩) ss := by
      have b2 : Below w1.heap.size w1 ((w1.alloc (.map #[] 0)).alloc (.cells #[.map (some B)] 38)) := ((Below.refl _ w1).alloc (Nat.le_refl _) _).alloc (by simp) _
      have b3 : Below w.heap.size w ((w1.alloc (.map #[] 0)).alloc (.cells #[.map (some B)] 38)) := below_step b1 b2
      refine ⟨by subst hB; go_simp, by simp [hB], by omega, by rw [← hB]; exact b1.size, ?_, ?_, b3⟩
      · have := SetAt.made w1 Try.prog 9 4
        rw [hB] at this
        exact ShownAt.below (SetAt.same this fun kl => by simp) ((Below.refl _ _).alloc (Nat.le_refl _) _)
      · intro h0
        obtain ⟨g, off, e, hg, hall⟩ := HS.out h0
        refine ⟨g, off, e, hg, fun j hj => ?_⟩
        obtain ⟨vP, vG, vQ, h1, h2, h3, h4, h5, h6⟩ := hall j hj
        obtain ⟨AQ, cQ, e2, h7, h8, h9⟩ := h6
        exact ⟨vP, vG, vQ, (b3.cell (p := ⟨g, off + j * 3, none⟩) hg).trans h1, (b3.cell (p := ⟨g, off + j * 3 + 1, none⟩) hg).trans h2, (b3.cell (p := ⟨g, off + j * 3 + 2, none⟩) hg).trans h3, h4.below b3, h5.below b3, AQ, cQ, e2, h7.below b3, h8, h9⟩
    have HD0 := Lib.hid hD0
    have HMid := Lib.hid (CheckMid.start (ss.map toN))
    have HOk := Lib.hid (show OkTo ss 0 from fun i _ h => by omega)
    clear hD0 b1 C1 eP HS
    go_wp2_with fail
    go_loopw [28] (fun jv wr => ∃ (j : Nat) (la : List Nat), jv = .int .i64 j ∧ j ≤ m + 1 ∧ Hid (CheckAt w wr (B + 1) B j la (some ⟨g, o, none⟩) ss) ∧ Hid (CheckMid (ss.map toN) j la) ∧ Hid (OkTo ss j)) (fun jv _ => m + 1 - (intOf jv).toNat)
    case atStart => exact ⟨0, [], rfl, Nat.zero_le _, HD0, HMid, HOk⟩
    case round =>
      clear HD0 HMid HOk
      obtain ⟨j, la, rfl, hj, HD, HMid, HOk⟩ := hrel
      by_cases hlt : j < m + 1
      · have hjs : j < ss.length := by rw [HN.out]; exact hlt
        obtain ⟨g', o', hA, hg', hall⟩ := HD.out.rS (by rw [HN.out]; omega)
        injection hA with hA
        injection hA with hA1 hA2 _
        subst hA1 hA2
        obtain ⟨vP, vG, vQ, eP, eG, eQ, rP, rG, rQ⟩ := hall j hjs
        have hsz := HD.out.be.size
        have rP := rP.more hsz
        have rG := rG.more hsz
        have rQ := rQ.more12 hsz
        obtain ⟨AP, cP, rfl, _, _, _, _⟩ := id rP
        obtain ⟨AG, cG, rfl, _, _, _, _⟩ := id rG
        obtain ⟨AQ, cQ, rfl, _, _, _⟩ := id rQ
        have hfj := HF.out.2 _ (List.getElem_mem hjs)
        obtain ⟨bW, hbW⟩ := some_flag11 (OkRaw ss[j] ∧ StepOk (toN ss[j]) la)
        obtain ⟨nP, hnP⟩ : ∃ k, ss[j].P.length = k := ⟨_, rfl⟩
        obtain ⟨nG, hnG⟩ : ∃ k, ss[j].G.length = k := ⟨_, rfl⟩
        obtain ⟨nQ, hnQ⟩ : ∃ k, ss[j].Q.length = k := ⟨_, rfl⟩
        rw [hnP] at eP rP
        rw [hnG] at eG rG
        rw [hnQ] at eQ rQ
        obtain ⟨V, hV⟩ : ∃ V, wr.alloc (.cells #[.slice AP nP cP, .slice AG nG cG, .slice AQ nQ cQ] 35) = V := ⟨_, rfl⟩
        have bV : Below wr.heap.size wr V := by rw [← hV]; exact (Below.refl _ wr).alloc (Nat.le_refl _) _
        have hX : StepBox V wr.heap.size (.slice AP nP cP) (.slice AG nG cG) (.slice AQ nQ cQ) := by rw [← hV]; exact StepBox.new _ _ _ _ _
        obtain ⟨gS, hgS⟩ : ∃ k, wr.heap.size = k := ⟨_, rfl⟩
        rw [hgS] at hX
        have HD1 := Lib.hid (HD.out.step bV)
        have RP := Lib.hid (rP.step11 bV)
        have C2 := Lib.hid (holds11 (rP.step11 bV) (rG.step11 bV) (rQ.step11 bV) hnQ hfj HD1.out.cM HD1.out.lt HD1.out.sh HMid.out.prm bW hbW)
        have HW := Lib.hid (show WFlag bW ss[j] la from hbW)
        have HX := Lib.hid hX
        have HFJ := Lib.hid hfj
        have xP := hX.cP
        have xG := hX.cG
        have xQ := hX.cQ
        clear hbW hnP hnG hnQ hall rP rG rQ hfj hX hsz bV
        go_wp2_with fail
        refine (C2.out).mono ?_
        rintro e u1 ⟨rfl, b1⟩
        have HD2 := Lib.hid (HD1.out.step b1)
        have HX2 := Lib.hid (HX.out.below b1)
        have RP2 := Lib.hid (RP.out.step11 b1)
        clear b1 C2 xP xG xQ HX RP HD1 hV hgS eP eG eQ
        cases bW
        · obtain rfl : b = false := HC.out.no fun k => by have h := HW.out.2 (k.step11 HMid.out hjs); cases h
          go_wp2_with fail
          go_ret
          exact ⟨rfl, HD2.out.be⟩
        · obtain ⟨hok, hst⟩ := HW.out.1 rfl
          have hjm : j < (ss.map toN).length := by simpa using hjs
          have HMid2 := Lib.hid (HMid.out.next hjm (by rw [List.getElem_map]; exact hst))
          rw [show (ss.map toN)[j].P = natOf ss[j].P by simp [toN]] at HMid2
          have HOk2 := Lib.hid (HOk.out.next hjs hok)
          have HokP := Lib.hid hok.1
          obtain ⟨V1, hV1⟩ : ∃ V, u1.drew = V := ⟨_, rfl⟩
          have bd : Below u1.heap.size u1 V1 := by rw [← hV1]; exact (Drawn.more 1).below11
          have HD3 := Lib.hid (HD2.out.step bd)
          have RP3 := Lib.hid (RP2.out.step11 bd)
          have xP := (HX2.out.below bd).cP
          have kM := HD3.out.cM
          clear hok hst bd HD2 HX2 RP2
          go_wp2_with fail
          refine wp_region_any (by kernel_rfl) ?_
          change wpAny _ _ _ _ _ _ _ u1.drew
          rw [hV1]
          clear hV1
          refine wpAny_takeD (i := 1) (d := 37) (v := .pointer (some ⟨gS, 0, none⟩)) rfl (by kernel_rfl) (by kernel_rfl) (by kernel_rfl) (by kernel_rfl) (fun _ _ _ h => h) (Or.inl ⟨by kernel_rfl, fun W => by go_simp⟩) ?_
          refine anyP.toAny (s := 4) (B := fun u => u.cell? ⟨B + 1, 0, none⟩ = some (.map (some B))) ?_
          refine anyP_take (i := 0) (d := 36) (v := .map (some B)) rfl rfl (by kernel_rfl) (by kernel_rfl) (by kernel_rfl) (by kernel_rfl) (by kernel_rfl) (by kernel_rfl) (fun _ _ _ h => h) ⟨by kernel_rfl, fun W hW => by go_simp⟩ ?_
          refine anyP_one (i := 2) (by kernel_rfl) rfl (fun _ => kM) (fun K hK => ?_)
          go_simp
          refine hK _ _ ?_
          clear hK K
          refine anyP_one (i := 3) (by kernel_rfl) rfl (fun _ => kM) (fun K hK => ?_)
          go_simp
          refine (name11 RP3.out HFJ.out.2.1).mono ?_
          rintro e u2 ⟨rfl, b2⟩
          have HD4 := Lib.hid (HD3.out.step b2)
          have kM2 := HD4.out.cM
          obtain ⟨w3, hrun, hsh, hgr⟩ := HD4.out.sh.put (by unfold maxLen; omega) HokP.out.2
          have HD5 := Lib.hid (HD4.out.put hsh hgr)
          clear b2 hsh hgr kM xP
          refine hK _ _ ?_
          clear hK K
          refine anyP_one (i := 4) (by kernel_rfl) rfl (fun _ => kM2) (fun K hK => ?_)
          go_simp
          refine hK _ _ ?_
          clear hK K hrun kM2
          refine anyP_done (by kernel_rfl) (by kernel_rfl) ?_
          go_step
          go_simp
          go_wp2_with fail
          go_roundw
          case rel => exact ⟨_, _, by go_num, by omega, HD5, HMid2, HOk2⟩
          case measure => simp [intOf]; omega
      · obtain rfl : j = m + 1 := by omega
        obtain rfl : b = true := HC.out.2 (checkW_done (by rw [HN.out]; exact HMid.out) (OkTo.all (by rw [HN.out]; exact HOk.out)) HN.out hml HE.out HP.out)
        go_wp2_with fail
        go_ret
        exact ⟨rfl, HD.out.be⟩
  · have hx0 : (x == 0) = false := by
      unfold cmpS at hx
      split at hx
      · subst hx; rfl
      · split at hx
        · subst hx; rfl
        · omega
    obtain rfl : b = false := HC.out.no fun k => he (k.last11 HN.out hml)
    have C1 := Lib.hid C1
    clear he hx
    go_enter Try.func6, Try.ntmps6
    go_wp2_with fail
    refine (C1.out).mono ?_
    rintro e w1 ⟨rfl, b1⟩
    have B1 := Lib.hid b1
    clear b1
    go_wp2_with fail
    go_ret
    exact ⟨rfl, B1.out⟩
/-- Check, of words that may be, or that the last step has. -/
theorem praCheck_pf {w : World} {v : Value} {lp : List Nat} {A : Option Addr} {c : Nat} {ss : List SRaw} (hv : RdNat w w.heap.size v lp) (hp : OkNat lp ∨ ∃ s, ss.getLast? = some s ∧ s.P = lp) (h : RdSteps w w.heap.size A ss) (hf : FewAll ss) (b : Bool) (hb : b = true ↔ CheckW lp ss) :
    Calls Try.prog 6 #[v, .slice A ss.length c] w fun e w' => e = .returned (.bool b) ∧ Below w.heap.size w w' := by
  by_cases h0 : ss.length = 0
  · obtain rfl := List.eq_nil_of_length_eq_zero h0
    refine check_known11 hv (hp.resolve_right ?_) b hb
    rintro ⟨s, hs, _⟩
    cases hs
  · have hl40 : lp.length ≤ 40 := by
      rcases hp with hp | ⟨s, hs, rfl⟩
      · have h1 := congrArg List.length hp.1
        rw [length_wd] at h1
        have := hp.2
        omega
      · exact (hf.2 s (List.mem_of_getLast? hs)).2.1
    obtain ⟨Av, cv, rfl, _⟩ := id hv
    exact check_steps11 hv hl40 hp h rfl (by omega) hf b hb
end Go.Proofs.Ytjpfcdgaepdcdaa
/- pratt's contract of Check, as laws use it. Conditions: as typed (steps that may be gone through; a number that may be, or is the last step's). -/
namespace Go.Proofs.Ytjpfcdgaepdcdaa
open Go.RowKit
/-- What the row lists, as the contracts ask it: nothing, as long as no table is read. -/
def LaidT (_ : World) : Prop := True
theorem LaidT.below {w w' : World} (_ : LaidT w) (_ : Below w.heap.size w w') : LaidT w' := trivial
/-- Check, of words that may be, or that the last step has. -/
theorem praCheck_any {w : World} {v : Value} {lp : List Nat} {A : Option Addr} {c : Nat} {ss : List SRaw} (hv : RdNat w w.heap.size v lp) (hp : OkNat lp ∨ ∃ s, ss.getLast? = some s ∧ s.P = lp) (h : RdSteps w w.heap.size A ss) (hc : ss.length ≤ c) (hf : FewAll ss) (b : Bool) (hb : b = true ↔ CheckW lp ss) (hL : LaidT w) :
    Calls Try.prog 6 #[v, .slice A ss.length c] w fun e w' => e = .returned (.bool b) ∧ Below w.heap.size w w' := (fun _ _ => praCheck_pf hv hp h hf b hb) hc hL
end Go.Proofs.Ytjpfcdgaepdcdaa
/- pratt's contracts in the form that laws use: numbers of a word, low steps, the chapter's examples. Conditions: as typed. -/
namespace Go.Proofs.Ytjpfcdgaepdcdaa
open Go.RowKit
set_option maxRecDepth 20000
theorem wd_word11 (n : Nat) (hn : n < 18446744073709551616) : wd n = if n = 0 then [] else [n] := by
  by_cases h : n = 0
  · subst h
    rw [if_pos rfl]
    exact List.eq_nil_of_length_eq_zero (by rw [length_wd, nbits_zero])
  · rw [if_neg h]; exact (wd_one n hn h).1
/-- A number of a word, as N makes it. -/
def OneW (n : Nat) : List Nat := if n = 0 then [] else [n]
theorem oneW_ok {n : Nat} (hn : n < 18446744073709551616) : OkNat (OneW n) ∧ natOf (OneW n) = n := by
  have e : OneW n = wd n := (wd_word11 n hn).symm
  refine ⟨⟨by rw [e, natOf_wd], by rw [e, natOf_wd]; have := nbits_of_lt n 64 hn; omega⟩, by rw [e, natOf_wd]⟩
/-- A low number, as its only word. -/
theorem small_word11 {l : List Nat} (h : smallB11 l = true) : OkNat l ∧ natOf l = nth l 0 := by
  unfold smallB11 at h
  simp only [decide_eq_true_eq] at h
  rcases h with h | ⟨h1, h2, h3⟩
  · obtain rfl := List.eq_nil_of_length_eq_zero h
    exact ⟨(oneW_ok (n := 0) (by omega)).1, rfl⟩
  · obtain ⟨x, rfl⟩ : ∃ x, l = [x] := by
      cases l with
      | nil => cases h1
      | cons x t =>
        cases t with
        | nil => exact ⟨x, rfl⟩
        | cons y t => simp at h1
    have hx : nth [x] 0 = x := rfl
    rw [hx] at h2 h3
    have e : OneW x = [x] := by unfold OneW; rw [if_neg (by omega)]
    have := oneW_ok (n := x) (by omega)
    rw [e] at this
    exact this
theorem low_toN {ss : List SRaw} (h : ∀ s ∈ ss, LowOne s) : (∀ s ∈ ss, OkRaw s) ∧ ss.map toN = ss.map toC := by
  refine ⟨fun s hs => ⟨(small_word11 (h s hs).1).1, (small_word11 (h s hs).2.1).1, fun q hq => (small_word11 ((h s hs).2.2 q hq)).1⟩, List.map_congr_left fun s hs => ?_⟩
  unfold toN toC
  rw [(small_word11 (h s hs).1).2, (small_word11 (h s hs).2.1).2]
  congr 1
  exact List.map_congr_left fun q hq => (small_word11 ((h s hs).2.2 q hq)).2
theorem checkW_low {n : Nat} (hn : n < 18446744073709551616) {ss : List SRaw} (h : ∀ s ∈ ss, LowOne s) : CheckW (OneW n) ss ↔ CheckN n (ss.map toC) := by
  obtain ⟨h1, h2⟩ := low_toN h
  unfold CheckW
  rw [(oneW_ok hn).2, h2]
  exact ⟨fun k => k.2.2, fun k => ⟨(oneW_ok hn).1, h1, k⟩⟩
/-- N of the laws. -/
theorem hN11 (w : World) (x : Nat) (xi : Int) (hx : xi = (x : Int)) (hl : x < 18446744073709551616) : Calls Try.prog 7 #[.int .u64 xi] w fun e w' => ∃ A q d, e = .returned (.slice A q d) ∧ RdNat w' w'.heap.size (.slice A q d) (OneW x) ∧ Below w.heap.size w w' := by
  subst hx
  by_cases h0 : x = 0
  · subst h0
    go_enter Try.func7, Try.ntmps7
    go_wp2_with fail
    go_ret
    exact ⟨none, 0, 0, rfl, ⟨none, 0, rfl, Rd.nil, Nat.le_refl _, (by intro y hy; cases hy), by simp [OneW]⟩, Below.refl _ _⟩
  · have hb : ((x : Int) == 0) = false := by simp; omega
    have HS := Lib.hid (show RdNat (w.alloc (.cells #[.int .u64 (x : Int)] 26)) (w.alloc (.cells #[.int .u64 (x : Int)] 26)).heap.size (.slice (some ⟨w.heap.size, 0, none⟩) 1 1) (OneW x) from by
      have e : OneW x = [x] := by unfold OneW; rw [if_neg h0]
      rw [e]
      refine ⟨some ⟨w.heap.size, 0, none⟩, 1, rfl, ?_, Nat.le_refl _, (by intro y hy; rw [List.mem_singleton.1 hy]; exact hl), by simp⟩
      exact Rd.own (own_of_heap (base := w.heap.size) (e := 26) (n := 1) (cap := 1) (cur := [.int .u64 (x : Int)]) (xs := ints .u64 [x]) (World.alloc_heap_new w _) (Nat.le_refl _) (Nat.le_refl _) (by unfold maxLen; omega) rfl rfl))
    clear h0
    go_enter Try.func7, Try.ntmps7
    go_wp2_with fail
    go_ret
    exact ⟨_, 1, 1, rfl, HS.out, (Below.refl _ w).alloc (Nat.le_refl _) _⟩
/-! The examples -/
theorem check_7_0 : CheckN 7 [] := .inl ⟨rfl, by omega, prm_tried (f := 1) (by omega) (by decide) (by omega)⟩
theorem check_9_0 : ¬ CheckN 9 [] := by
  rintro (⟨_, _, h⟩ | ⟨r, s, h, _⟩)
  · exact absurd (h.2 3 ⟨3, rfl⟩) (by omega)
  · have := congrArg List.length h; simp at this
theorem stepOk_7 : StepOk ⟨7, 3, [2, 3]⟩ [] where
  odd := rfl
  three := by decide
  one := by decide
  less := by decide
  rise := by simp
  shown := fun q hq => .inl (by
    have : q = 2 ∨ q = 3 := by simpa using hq
    rcases this with rfl | rfl
    · exact ⟨by omega, prm_tried (f := 0) (by omega) rfl (by omega)⟩
    · exact ⟨by omega, prm_tried (f := 0) (by omega) rfl (by omega)⟩)
  parts := fun q hq => by
    have : q = 2 ∨ q = 3 := by simpa using hq
    rcases this with rfl | rfl
    · exact ⟨3, rfl⟩
    · exact ⟨2, rfl⟩
  all := fun r hr hd => by
    have h1 : r ∣ 6 := hd
    have h2 := Nat.le_of_dvd (by omega) h1
    have h3 := hr.1
    have : r = 2 ∨ r = 3 ∨ r = 4 ∨ r = 5 ∨ r = 6 := by omega
    rcases this with rfl | rfl | rfl | rfl | rfl
    · simp
    · simp
    · exact absurd h1 (by omega)
    · exact absurd h1 (by omega)
    · exact absurd (hr.2 2 ⟨3, rfl⟩) (by omega)
  whole := by decide
  none := fun q hq => by
    have : q = 2 ∨ q = 3 := by simpa using hq
    rcases this with rfl | rfl <;> decide
theorem check_7_3 : CheckN 7 [⟨7, 3, [2, 3]⟩] := .inr ⟨[], _, rfl, rfl, stepOk_7, trivial⟩
theorem check_7_2 : ¬ CheckN 7 [⟨7, 2, [2, 3]⟩] := by
  rintro (⟨h, _⟩ | ⟨r, s, h, _, h1⟩)
  · cases h
  · exact h1.1.none 2 (by simp) (by decide)
end Go.Proofs.Ytjpfcdgaepdcdaa

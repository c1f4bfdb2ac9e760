/- Several texts in one; each begins with a remark that says what it shows and on which conditions. -/
import Derived.Test.YtjpfcdgaepdcdaaKbe
import Derived.Test.YtjpfcdgaepdcdaaKbf
/- The document's Low, chapter 11. No condition but those typed. -/
namespace Go.Proofs.Ytjpfcdgaepdcdaa
open Go.RowKit
set_option maxRecDepth 20000
/-- All numbers of a step are below 2^31. -/
def LowOne (s : SRaw) : Prop := smallB11 s.P = true ∧ smallB11 s.G = true ∧ ∀ q ∈ s.Q, smallB11 q = true
def LowFlag (b : Bool) (ss : List SRaw) : Prop := b = true ↔ ∀ s ∈ ss, LowOne s
/-- The first so many are. -/
def LowMid (ss : List SRaw) (j : Nat) : Prop := ∀ i (hi : i < ss.length), i < j → LowOne ss[i]
theorem LowMid.not {b : Bool} {ss : List SRaw} (h : LowFlag b ss) {j : Nat} (hj : j < ss.length) (hn : ¬ LowOne ss[j]) : b = false := by
  cases hb : b with
  | false => rfl
  | true => exact absurd (h.1 hb _ (List.getElem_mem hj)) hn
theorem LowMid.next {ss : List SRaw} {j : Nat} (h : LowMid ss j) (hj : j < ss.length) (hn : LowOne ss[j]) : LowMid ss (j + 1) := fun i hi hlt => by
  rcases Nat.lt_succ_iff_lt_or_eq.1 hlt with h1 | rfl
  · exact h i hi h1
  · exact hn
theorem LowMid.done {b : Bool} {ss : List SRaw} (h : LowFlag b ss) (k : LowMid ss ss.length) : b = true := h.2 fun s hs => by
  obtain ⟨i, hi, rfl⟩ := List.mem_iff_getElem.1 hs
  exact k i hi hi
set_option maxHeartbeats 8000000 in
set_option maxRecDepth 100000 in
theorem refLow11 {w : World} {A : Option Addr} {c : Nat} {ss : List SRaw} (h : RdSteps w w.heap.size A ss) (hl : ss.length ≤ 1000) (hq : ∀ s ∈ ss, s.Q.length ≤ 1000) (b : Bool) (hb : LowFlag b ss) :
    Calls Try.prog 8 #[.slice A ss.length c] w fun e w' => e = .returned (.bool b) ∧ Drawn w w' := by
  obtain ⟨n, hn⟩ : ∃ n, ss.length = n := ⟨_, rfl⟩
  have HB := Lib.hid hb
  have H := Lib.hid h
  have HN := Lib.hid hn
  have HQ := Lib.hid hq
  rw [hn] at hl ⊢
  clear h hb hn hq
  go_enter Try.func8, Try.ntmps8
  go_wp2_with fail
  go_loopw [3] (fun iv wr => ∃ j : Nat, j ≤ n ∧ iv = .int .i64 j ∧ Hid (LowMid ss j) ∧ Drawn w wr) (fun iv _ => n - (intOf iv).toNat)
  case atStart => exact ⟨0, Nat.zero_le _, rfl, Lib.hid (fun i hi h => by omega), Drawn.more 0⟩
  case round =>
    obtain ⟨j, hj, rfl, hM, nq, rfl⟩ := hrel
    by_cases hlt : j < n
    · obtain ⟨g, o, rfl, hg, hall⟩ := H.out (by rw [HN.out]; omega)
      have hjs : j < ss.length := by rw [HN.out]; exact hlt
      obtain ⟨vP, vG, vQ, eP, eG, eQ, rP, rG, rQ⟩ := hall j hjs
      have HS1 := fun u (d : Drawn w u) => refSmall (rP.drawn d) _ rfl _ rfl
      have HS2 := fun u (d : Drawn w u) => refSmall (rG.drawn d) _ rfl _ rfl
      obtain ⟨x1, hx1⟩ : ∃ x, nth ss[j].P 0 = x := ⟨_, rfl⟩
      obtain ⟨x2, hx2⟩ : ∃ x, nth ss[j].G 0 = x := ⟨_, rfl⟩
      obtain ⟨b1, hb1⟩ : ∃ x, smallB11 ss[j].P = x := ⟨_, rfl⟩
      obtain ⟨b2, hb2⟩ : ∃ x, smallB11 ss[j].G = x := ⟨_, rfl⟩
      rw [hx1, hb1] at HS1
      rw [hx2, hb2] at HS2
      have HS1 := Lib.hid HS1
      have HS2 := Lib.hid HS2
      obtain ⟨XQ, dQ, rfl, hRQ, _, _⟩ := rQ
      obtain ⟨m, hm⟩ : ∃ m, ss[j].Q.length = m := ⟨_, rfl⟩
      have hml : m ≤ 1000 := by rw [← hm]; exact HQ.out _ (List.getElem_mem hjs)
      have HMM := Lib.hid hm
      rw [hm] at eQ
      have HRQ := Lib.hid hRQ
      have HB1 := Lib.hid hb1
      have HB2 := Lib.hid hb2
      clear hall rP rG hx1 hx2 hb1 hb2 hRQ hm
      go_wp2_with fail
      refine (HS1.out _ (Drawn.more _)).mono ?_
      rintro e w1 ⟨rfl, nq1, rfl⟩
      go_wp2_with fail
      refine (HS2.out _ (Drawn.more _)).mono ?_
      rintro e w1 ⟨rfl, nq2, rfl⟩
      cases b1
      · have hbf := Lib.hid (LowMid.not HB.out hjs (fun k => by have := k.1; rw [HB1.out] at this; cases this))
        go_wp2_with fail
        go_ret
        exact ⟨by rw [hbf.out]; rfl, Drawn.more _⟩
      · cases b2
        · have hbf := Lib.hid (LowMid.not HB.out hjs (fun k => by have := k.2.1; rw [HB2.out] at this; cases this))
          go_wp2_with fail
          go_ret
          exact ⟨by rw [hbf.out]; rfl, Drawn.more _⟩
        · go_wp2_with fail
          go_loopw [8] (fun kv wr => ∃ k : Nat, k ≤ m ∧ kv = .int .i64 k ∧ Hid (∀ i (hi : i < ss[j].Q.length), i < k → smallB11 (ss[j].Q[i]) = true) ∧ Drawn w wr) (fun kv _ => m - (intOf kv).toNat)
          case atStart => exact ⟨0, Nat.zero_le _, rfl, Lib.hid (fun i hi h => by omega), Drawn.more _⟩
          case round =>
            obtain ⟨k, hk, rfl, hK, nq3, rfl⟩ := hrel
            by_cases hkm : k < m
            · have hkq : k < ss[j].Q.length := by rw [HMM.out]; exact hkm
              obtain ⟨g2, o2, rfl, hg2, hall2⟩ := HRQ.out (by omega)
              obtain ⟨v, ev, rv⟩ := hall2 k hkq
              have HS3 := fun u (d : Drawn w u) => refSmall (rv.drawn d) _ rfl _ rfl
              obtain ⟨x3, hx3⟩ : ∃ x, nth (ss[j].Q[k]) 0 = x := ⟨_, rfl⟩
              obtain ⟨b3, hb3⟩ : ∃ x, smallB11 (ss[j].Q[k]) = x := ⟨_, rfl⟩
              rw [hx3, hb3] at HS3
              have HS3 := Lib.hid HS3
              have HB3 := Lib.hid hb3
              clear hall2 rv hx3 hb3
              go_wp2_with fail
              refine (HS3.out _ (Drawn.more _)).mono ?_
              rintro e w1 ⟨rfl, nq4, rfl⟩
              cases b3
              · have hbf := Lib.hid (LowMid.not HB.out hjs (fun q => by have := q.2.2 _ (List.getElem_mem hkq); rw [HB3.out] at this; cases this))
                go_wp2_with fail
                go_ret
                exact ⟨by rw [hbf.out]; rfl, Drawn.more _⟩
              · have HK := Lib.hid (show ∀ i (hi : i < ss[j].Q.length), i < k + 1 → smallB11 (ss[j].Q[i]) = true from fun i hi hlt2 => by
                  rcases Nat.lt_succ_iff_lt_or_eq.1 hlt2 with h1 | rfl
                  · exact hK.out i hi h1
                  · exact HB3.out)
                go_wp2_with fail
                go_roundw
                case rel => exact ⟨k + 1, by omega, by go_num, HK, Drawn.more _⟩
                case measure => simp [intOf]; omega
            · have HM2 := Lib.hid (hM.out.next hjs ⟨HB1.out, HB2.out, fun q hq => by
                obtain ⟨i, hi, rfl⟩ := List.mem_iff_getElem.1 hq
                exact hK.out i hi (by have := HMM.out; omega)⟩)
              go_wp2_with fail
              go_roundw
              case rel => exact ⟨j + 1, by omega, by go_num, HM2, Drawn.more _⟩
              case measure => simp [intOf]; omega
    · obtain rfl : j = n := by omega
      have hb1 := Lib.hid (LowMid.done HB.out (by rw [HN.out]; exact hM.out))
      go_wp2_with fail
      go_ret
      exact ⟨by rw [hb1.out]; rfl, Drawn.more _⟩
end Go.Proofs.Ytjpfcdgaepdcdaa
/- The document's Check, chapter 11. Conditions: numbers below 2^31. -/
namespace Go.Proofs.Ytjpfcdgaepdcdaa
open Go.RowKit
set_option maxRecDepth 20000
theorem info_u64_11 : (Try.prog.info? 26).map (fun i => (i.zero, i.size, i.bytes)) = some (some (.int .u64 0), 1, 8) := by kernel_rfl
/-- A step's numbers. -/
def toC (s : SRaw) : CStep := ⟨nth s.P 0, nth s.G 0, s.Q.map fun l => nth l 0⟩
def CheckFlag (b : Bool) (p : Nat) (l : List CStep) : Prop := b = true ↔ CheckN p l
theorem RdNat.more {w : World} {B B' : Nat} {v : Value} {l : List Nat} (h : RdNat w B v l) (hB : B ≤ B') : RdNat w B' v l := by
  obtain ⟨A, c, e, hr, hc, hw, hl⟩ := h
  exact ⟨A, c, e, hr.more hB, hc, hw, hl⟩
theorem RdNats.more {w : World} {B B' : Nat} {A : Option Addr} {ms : List (List Nat)} (h : RdNats w B A ms) (hB : B ≤ B') : RdNats w B' A ms := fun h0 => by
  obtain ⟨b, off, e2, hb, hall⟩ := h h0
  refine ⟨b, off, e2, by omega, fun j hj => ?_⟩
  obtain ⟨v, h1, h2⟩ := hall j hj
  exact ⟨v, h1, h2.more hB⟩
/-- The first so many steps show their numbers; these are what was shown. -/
structure CheckMid (cs : List CStep) (j : Nat) (la : List Nat) : Prop where
  cert : CertOk [] (cs.take j)
  shown : la = (cs.take j).map CStep.P
theorem CheckMid.start (cs : List CStep) : CheckMid cs 0 [] := ⟨trivial, rfl⟩
theorem CheckMid.prm {cs : List CStep} {j : Nat} {la : List Nat} (h : CheckMid cs j la) : ∀ a ∈ la, Prm a := fun a ha => by
  rw [h.shown] at ha
  obtain ⟨s, hs, rfl⟩ := List.mem_map.1 ha
  exact certOk_prm _ _ h.cert s hs
theorem CheckMid.take {cs : List CStep} {j : Nat} {la : List Nat} (h : CheckMid cs j la) (hj : j < cs.length) : CertOk [] (cs.take (j + 1)) ↔ StepOk cs[j] la := by
  rw [List.take_succ_eq_append_getElem hj, certOk_append, List.nil_append, ← h.shown]
  exact ⟨fun k => k.2.1, fun k => ⟨h.cert, k, trivial⟩⟩
theorem CheckMid.next {cs : List CStep} {j : Nat} {la : List Nat} (h : CheckMid cs j la) (hj : j < cs.length) (hs : StepOk cs[j] la) : CheckMid cs (j + 1) (la ++ [cs[j].P]) :=
  ⟨(h.take hj).2 hs, by rw [List.take_succ_eq_append_getElem hj, List.map_append, ← h.shown]; rfl⟩
theorem CheckMid.not {b : Bool} {p : Nat} {cs : List CStep} (hb : CheckFlag b p cs) {j : Nat} {la : List Nat} (h : CheckMid cs j la) (hj : j < cs.length) (hs : ¬ StepOk cs[j] la) : b = false := by
  cases hq : b with
  | false => rfl
  | true =>
    exfalso
    rcases hb.1 hq with ⟨h1, _⟩ | ⟨r, s, _, _, h1⟩
    · rw [h1] at hj; cases hj
    · refine hs ((h.take hj).1 ?_)
      rw [← List.take_append_drop (j + 1) cs] at h1
      exact ((certOk_append _ _ _).1 h1).1
theorem CheckMid.done {b : Bool} {p : Nat} {cs : List CStep} (hb : CheckFlag b p cs) {la : List Nat} (h : CheckMid cs cs.length la) {m : Nat} (hm : cs.length = m + 1) : b = decide (nth la m = p) := by
  have hc := h.cert
  have hs := h.shown
  rw [List.take_length] at hc hs
  have hl : m < cs.length := by omega
  have e : cs = cs.take m ++ [cs[m]] := by
    rw [← List.take_succ_eq_append_getElem hl, List.take_of_length_le (by omega)]
  have hn : nth la m = cs[m].P := by
    rw [nth_eq la m (by rw [hs, List.length_map]; exact hl)]
    simp [hs]
  rw [Bool.eq_iff_iff, decide_eq_true_eq, hn]
  constructor
  · intro hq
    rcases hb.1 hq with ⟨h1, _⟩ | ⟨r, s, h1, h2, _⟩
    · rw [h1] at hl; cases hl
    · rw [e] at h1
      have h3 := (List.append_inj' h1 rfl).2
      injection h3 with h3 _
      rw [h3]; exact h2
  · intro hq
    exact hb.2 (.inr ⟨_, _, e, hq, hc⟩)
theorem CheckFlag.empty {b : Bool} {p : Nat} (hb : CheckFlag b p []) : b = true ↔ (p < 65536 ∧ Prm p) := by
  refine hb.trans ⟨?_, fun h => .inl ⟨rfl, h.1, h.2⟩⟩
  rintro (⟨_, h1, h2⟩ | ⟨r, s, h1, _⟩)
  · exact ⟨h1, h2⟩
  · have := congrArg List.length h1; simp at this
set_option maxHeartbeats 8000000 in
set_option maxRecDepth 100000 in
theorem refCheck11 (p : Nat) (hp : p < 2147483648) {w : World} {A : Option Addr} {c : Nat} {ss : List SRaw} (h : RdSteps w w.heap.size A ss) (hl : ss.length ≤ 1000) (hq : ∀ s ∈ ss, s.Q.length ≤ 1000) (hlow : ∀ s ∈ ss, LowOne s) (b : Bool) (hb : CheckFlag b p (ss.map toC)) :
    Calls Try.prog 9 #[.int .u64 p, .slice A ss.length c] w fun e w' => e = .returned (.bool b) ∧ Below w.heap.size w w' := by
  by_cases h0 : ss.length = 0
  · obtain rfl := List.eq_nil_of_length_eq_zero h0
    have hb2 := CheckFlag.empty hb
    clear hb h hlow hq h0 hl
    by_cases h1 : p < 65536
    · have g1 : decide ((p : Int) < 65536) = true := by simp; omega
      have HI := Lib.hid (refIs11 p (by omega) b (hb2.trans ⟨fun k => k.2, fun k => ⟨h1, k⟩⟩) w)
      clear hb2
      go_enter Try.func9, Try.ntmps9
      go_wp2_with fail
      refine (HI.out).mono ?_
      rintro e w1 ⟨rfl, rfl⟩
      go_wp2_with fail
      go_ret
      exact ⟨rfl, Below.refl _ _⟩
    · have g1 : decide ((p : Int) < 65536) = false := by simp; omega
      have hb1 : b = false := by
        cases hq : b with
        | false => rfl
        | true => exact absurd (hb2.1 hq).1 h1
      subst hb1
      clear hb2
      go_enter Try.func9, Try.ntmps9
      go_wp2_with fail
      go_ret
      exact ⟨rfl, Below.refl _ _⟩
  · obtain ⟨i0, hi, hz0, hz1, hz2⟩ := info_parts info_u64_11
    obtain ⟨n, hn⟩ : ∃ n, ss.length = n := ⟨_, rfl⟩
    obtain ⟨cs, hcs⟩ : ∃ cs, ss.map toC = cs := ⟨_, rfl⟩
    have hcn : cs.length = n := by rw [← hcs, List.length_map, hn]
    rw [hcs] at hb
    have HB := Lib.hid hb
    have H := Lib.hid h
    have HN := Lib.hid hn
    have HQ := Lib.hid hq
    have HLW := Lib.hid hlow
    have HCS := Lib.hid hcs
    have HCN := Lib.hid hcn
    have hn0 : ((n : Int) == 0) = false := by simp; omega
    have hnp : n ≠ 0 := by omega
    rw [hn] at hl ⊢
    clear h hb hn hq hlow hcs hcn h0
    go_enter Try.func9, Try.ntmps9
    go_wp2_with fail
    go_loopw [5, 6] (fun av iv wr => ∃ (j : Nat) (la : List Nat), j ≤ n ∧ la.length = j ∧ iv = .int .i64 j ∧ Hid (CheckMid cs j la) ∧ Hid (Words la) ∧ wr.ownsRow w.heap.size 26 1 av j (ints .u64 la) ∧ Below w.heap.size w wr) (fun _ iv _ => n - (intOf iv).toNat)
    case atStart => exact ⟨0, [], Nat.zero_le _, rfl, rfl, Lib.hid (CheckMid.start cs), Lib.hid (fun x hx => by cases hx), World.ownsRow_nil _ _ _ _, Below.refl _ _⟩
    case round =>
      obtain ⟨j, la, hj, hla, rfl, hM, hW, hown, hB⟩ := hrel
      have HLA := Lib.hid hla
      clear hla
      by_cases hlt : j < n
      · obtain ⟨g, o, rfl, hg, hall⟩ := H.out (by rw [HN.out]; omega)
        have hjs : j < ss.length := by rw [HN.out]; exact hlt
        have hjc : j < cs.length := by rw [HCN.out]; exact hlt
        obtain ⟨vP, vG, vQ, eP, eG, eQ, rP, rG, rQ⟩ := hall j hjs
        obtain ⟨XQ, dQ, rfl, hRQ, hQd, _⟩ := rQ
        obtain ⟨m, hm⟩ : ∃ m, ss[j].Q.length = m := ⟨_, rfl⟩
        have hwr : w.heap.size ≤ wr.heap.size := hB.size
        obtain ⟨X, d, rfl, hd, _⟩ := own_form hown
        have hcj : cs[j] = toC ss[j] := by simp [← HCS.out]
        obtain ⟨P, hP⟩ : ∃ x, nth ss[j].P 0 = x := ⟨_, rfl⟩
        obtain ⟨bj, hbj⟩ : ∃ x : Bool, StepFlag x cs[j] la := by
          by_cases hk : StepOk cs[j] la
          · exact ⟨true, ⟨fun _ => hk, fun _ => rfl⟩⟩
          · exact ⟨false, ⟨fun h => (by cases h), fun h => absurd h hk⟩⟩
        have hlw := HLW.out _ (List.getElem_mem hjs)
        have HPl := Lib.hid (show P < 2147483648 by rw [← hP]; exact small_lt11 hlw.1)
        have HST := refStep11 (w := wr) ((rP.below hB).more hwr) ((rG.below hB).more hwr) ((hRQ.below hB).more hwr) hQd hlw.1 hlw.2.1 hlw.2.2 cs[j] P _ hP rfl (by rw [hcj]; exact hP) (by rw [hcj]; rfl) (by rw [hcj]; rfl) (HQ.out _ (List.getElem_mem hjs)) (Rd.own hown) (by rw [HLA.out]; exact hd) (by rw [HLA.out]; omega) hW.out hM.out.prm bj hbj
        rw [hm, HLA.out] at HST
        rw [hm] at eQ
        have HST := Lib.hid HST
        have HBJ := Lib.hid hbj
        have HPP := Lib.hid (show cs[j].P = P by rw [hcj]; exact hP)
        have fP : wr.cell? ⟨g, o + j * 3, none⟩ = some vP := (hB.cell (p := ⟨g, o + j * 3, none⟩) hg).trans eP
        have fG : wr.cell? ⟨g, o + j * 3 + 1, none⟩ = some vG := (hB.cell (p := ⟨g, o + j * 3 + 1, none⟩) hg).trans eG
        have fQ : wr.cell? ⟨g, o + j * 3 + 2, none⟩ = some (.slice XQ m dQ) := (hB.cell (p := ⟨g, o + j * 3 + 2, none⟩) hg).trans eQ
        clear hall rP rG hRQ hcj hP hbj hlw eP eG eQ hm
        go_wp2_with fail
        refine (HST.out).mono ?_
        rintro e w1 ⟨x, rfl, hx, b1⟩
        have B1 := hB.trans (b1.mono hwr)
        have own1 := own_step hown b1
        cases bj
        · have hbf := Lib.hid (CheckMid.not HB.out hM.out hjc (fun k => by have := HBJ.out.2 k; cases this))
          clear own1 hown HST
          go_wp2_with fail
          go_ret
          exact ⟨by rw [hbf.out]; rfl, B1⟩
        · obtain rfl := hx rfl
          have HM2 := Lib.hid (show CheckMid cs (j + 1) (la ++ [x]) by have h := hM.out.next hjc (HBJ.out.1 rfl); rw [HPP.out] at h; exact h)
          have HW2 := Lib.hid (show Words (la ++ [x]) from fun y hy => by
            rcases List.mem_append.1 hy with h1 | h1
            · exact hW.out y h1
            · rw [List.mem_singleton.1 h1]; have := HPl.out; omega)
          have hwb := B1.size
          clear hown HST hx
          go_wp2_with (at_builtin; refine wpList_append_one _ rfl _ _ 28 rfl w.heap.size 26 i0 (.int .u64 0) 8 Try.underlying28 hi hz0 hz1 hz2 rfl _ _ .u64 la rfl own1 _ x rfl rfl (by unfold maxLen; omega) (by omega) hwb ?_)
          intro v2 w2 own2 _ b2
          have B2 := B1.trans b2
          go_wp2_with fail
          go_roundw
          case rel => exact ⟨j + 1, la ++ [x], by omega, by rw [List.length_append, HLA.out]; rfl, by go_num, HM2, HW2, own2, B2⟩
          case measure => simp [intOf]; omega
      · obtain rfl : j = n := by omega
        obtain ⟨m, rfl⟩ : ∃ m, j = m + 1 := ⟨j - 1, by omega⟩
        obtain ⟨X, d, rfl, hd, _⟩ := own_form hown
        obtain ⟨g, o, rfl, hg, hcell⟩ := (Rd.own hown) (by rw [HLA.out]; omega)
        have e1 := hcell m (by rw [HLA.out]; omega)
        obtain ⟨y, hy⟩ : ∃ y, nth la m = y := ⟨_, rfl⟩
        rw [hy] at e1
        have hM2 := hM.out
        rw [← HCN.out] at hM2
        have hbv := CheckMid.done HB.out hM2 HCN.out
        rw [hy] at hbv
        have hmI : ((m + 1 : Nat) : Int) - 1 = (m : Int) := by omega
        have hmI2 : (m : Int) + 1 - 1 = (m : Int) := by omega
        clear hcell hown hM hM2 hy
        by_cases hyp : y = p
        · have gY : ((y : Int) == (p : Int)) = true := by simp; omega
          have hbf := Lib.hid (show b = true by rw [hbv]; simpa using hyp)
          clear hbv hyp
          go_wp2_with fail
          go_ret
          exact ⟨by rw [hbf.out]; rfl, hB⟩
        · have gY : ((y : Int) == (p : Int)) = false := by simp; omega
          have hbf := Lib.hid (show b = false by rw [hbv]; simpa using hyp)
          clear hbv hyp
          go_wp2_with fail
          go_ret
          exact ⟨by rw [hbf.out]; rfl, hB⟩
end Go.Proofs.Ytjpfcdgaepdcdaa
/- The laws' few, chapter 11: may steps be gone through? No condition but those typed. -/
namespace Go.Proofs.Ytjpfcdgaepdcdaa
open Go.RowKit
set_option maxRecDepth 20000
/-- A step whose parts are short. -/
def FewOne (s : SRaw) : Prop := s.Q.length ≤ 40 ∧ s.P.length ≤ 40 ∧ s.G.length ≤ 40 ∧ ∀ q ∈ s.Q, q.length ≤ 40
def FewAll (ss : List SRaw) : Prop := ss.length ≤ 30 ∧ ∀ s ∈ ss, FewOne s
def FewFlag (b : Bool) (ss : List SRaw) : Prop := b = true ↔ FewAll ss
def FewMid (ss : List SRaw) (j : Nat) : Prop := ∀ i (hi : i < ss.length), i < j → FewOne ss[i]
theorem FewMid.not {b : Bool} {ss : List SRaw} (h : FewFlag b ss) {j : Nat} (hj : j < ss.length) (hn : ¬ FewOne ss[j]) : b = false := by
  cases hb : b with
  | false => rfl
  | true => exact absurd ((h.1 hb).2 _ (List.getElem_mem hj)) hn
theorem FewMid.next {ss : List SRaw} {j : Nat} (h : FewMid ss j) (hj : j < ss.length) (hn : FewOne ss[j]) : FewMid ss (j + 1) := fun i hi hlt => by
  rcases Nat.lt_succ_iff_lt_or_eq.1 hlt with h1 | rfl
  · exact h i hi h1
  · exact hn
theorem FewMid.done {b : Bool} {ss : List SRaw} (h : FewFlag b ss) (h30 : ss.length ≤ 30) (k : FewMid ss ss.length) : b = true := h.2 ⟨h30, fun s hs => by
  obtain ⟨i, hi, rfl⟩ := List.mem_iff_getElem.1 hs
  exact k i hi hi⟩
set_option maxHeartbeats 8000000 in
set_option maxRecDepth 100000 in
theorem few11_any {w : World} {A : Option Addr} {c : Nat} {ss : List SRaw} (h : RdSteps w w.heap.size A ss) (b : Bool) (hb : FewFlag b ss) :
    Calls Try.prog 4 #[.slice A ss.length c] w fun e w' => e = .returned (.bool b) ∧ Drawn w w' := by
  obtain ⟨n, hn⟩ : ∃ n, ss.length = n := ⟨_, rfl⟩
  have HB := Lib.hid hb
  have H := Lib.hid h
  have HN := Lib.hid hn
  rw [hn]
  by_cases h30 : 30 < n
  · have hb1 : b = false := by
      cases hq : b with
      | false => rfl
      | true => have := (hb.1 hq).1; omega
    subst hb1
    have g0 : decide ((30 : Int) < (n : Int)) = true := by simp; omega
    clear h hb hn
    go_enter Try.func4, Try.ntmps4
    go_wp2_with fail
    go_ret
    exact ⟨rfl, Drawn.refl _⟩
  have g0 : decide ((30 : Int) < (n : Int)) = false := by simp; omega
  have H30 := Lib.hid h30
  clear h hb hn
  go_enter Try.func4, Try.ntmps4
  go_wp2_with fail
  go_loopw [3] (fun iv wr => ∃ j : Nat, j ≤ n ∧ iv = .int .i64 j ∧ Hid (FewMid ss j) ∧ Drawn w wr) (fun iv _ => n - (intOf iv).toNat)
  case atStart => exact ⟨0, Nat.zero_le _, rfl, Lib.hid (fun i hi h => by omega), Drawn.more 0⟩
  case round =>
    obtain ⟨j, hj, rfl, hM, nq, rfl⟩ := hrel
    by_cases hlt : j < n
    · obtain ⟨g, o, rfl, hg, hall⟩ := H.out (by rw [HN.out]; omega)
      have hjs : j < ss.length := by rw [HN.out]; exact hlt
      obtain ⟨vP, vG, vQ, eP, eG, eQ, rP, rG, rQ⟩ := hall j hjs
      obtain ⟨XP, cP, rfl, _, _, _, _⟩ := rP
      obtain ⟨XG, cG, rfl, _, _, _, _⟩ := rG
      obtain ⟨XQ, dQ, rfl, hRQ, _, _⟩ := rQ
      obtain ⟨m, hm⟩ : ∃ m, ss[j].Q.length = m := ⟨_, rfl⟩
      obtain ⟨a, ha⟩ : ∃ m, ss[j].P.length = m := ⟨_, rfl⟩
      obtain ⟨d, hd⟩ : ∃ m, ss[j].G.length = m := ⟨_, rfl⟩
      have HM := Lib.hid hm
      have HA := Lib.hid ha
      have HD := Lib.hid hd
      rw [hm] at eQ
      rw [ha] at eP
      rw [hd] at eG
      have HRQ := Lib.hid hRQ
      clear hall hRQ hm ha hd
      by_cases q1 : 40 < m
      · have g1 : decide ((40 : Int) < (m : Int)) = true := by simp; omega
        have hbf := Lib.hid (FewMid.not HB.out hjs (fun k => by have := k.1; rw [HM.out] at this; omega))
        go_wp2_with fail
        go_ret
        exact ⟨by rw [hbf.out]; rfl, Drawn.more _⟩
      have g1 : decide ((40 : Int) < (m : Int)) = false := by simp; omega
      by_cases q2 : 40 < a
      · have g2 : decide ((40 : Int) < (a : Int)) = true := by simp; omega
        have hbf := Lib.hid (FewMid.not HB.out hjs (fun k => by have := k.2.1; rw [HA.out] at this; omega))
        go_wp2_with fail
        go_ret
        exact ⟨by rw [hbf.out]; rfl, Drawn.more _⟩
      have g2 : decide ((40 : Int) < (a : Int)) = false := by simp; omega
      by_cases q3 : 40 < d
      · have g3 : decide ((40 : Int) < (d : Int)) = true := by simp; omega
        have hbf := Lib.hid (FewMid.not HB.out hjs (fun k => by have := k.2.2.1; rw [HD.out] at this; omega))
        go_wp2_with fail
        go_ret
        exact ⟨by rw [hbf.out]; rfl, Drawn.more _⟩
      have g3 : decide ((40 : Int) < (d : Int)) = false := by simp; omega
      go_wp2_with fail
      go_loopw [4] (fun kv wr => ∃ k : Nat, k ≤ m ∧ kv = .int .i64 k ∧ Hid (∀ i (hi : i < ss[j].Q.length), i < k → (ss[j].Q[i]).length ≤ 40) ∧ Drawn w wr) (fun kv _ => m - (intOf kv).toNat)
      case atStart => exact ⟨0, Nat.zero_le _, rfl, Lib.hid (fun i hi h => by omega), Drawn.more _⟩
      case round =>
        obtain ⟨k, hk, rfl, hK, nq3, rfl⟩ := hrel
        by_cases hkm : k < m
        · have hkq : k < ss[j].Q.length := by rw [HM.out]; exact hkm
          obtain ⟨g2', o2, rfl, hg2, hall2⟩ := HRQ.out (by omega)
          obtain ⟨v, ev, rv⟩ := hall2 k hkq
          obtain ⟨XV, cV, rfl, _, _, _, _⟩ := rv
          obtain ⟨t, ht⟩ : ∃ m, (ss[j].Q[k]).length = m := ⟨_, rfl⟩
          have HT := Lib.hid ht
          rw [ht] at ev
          clear hall2 ht
          by_cases q4 : 40 < t
          · have g4 : decide ((40 : Int) < (t : Int)) = true := by simp; omega
            have hbf := Lib.hid (FewMid.not HB.out hjs (fun q => by have := q.2.2.2 _ (List.getElem_mem hkq); rw [HT.out] at this; omega))
            go_wp2_with fail
            go_ret
            exact ⟨by rw [hbf.out]; rfl, Drawn.more _⟩
          · have g4 : decide ((40 : Int) < (t : Int)) = false := by simp; omega
            have HK := Lib.hid (show ∀ i (hi : i < ss[j].Q.length), i < k + 1 → (ss[j].Q[i]).length ≤ 40 from fun i hi hlt2 => by
              rcases Nat.lt_succ_iff_lt_or_eq.1 hlt2 with h1 | rfl
              · exact hK.out i hi h1
              · rw [HT.out]; omega)
            go_wp2_with fail
            go_roundw
            case rel => exact ⟨k + 1, by omega, by go_num, HK, Drawn.more _⟩
            case measure => simp [intOf]; omega
        · have HM2 := Lib.hid (hM.out.next hjs ⟨by rw [HM.out]; omega, by rw [HA.out]; omega, by rw [HD.out]; omega, fun q hq => by
            obtain ⟨i, hi, rfl⟩ := List.mem_iff_getElem.1 hq
            exact hK.out i hi (by have := HM.out; omega)⟩)
          go_wp2_with fail
          go_roundw
          case rel => exact ⟨j + 1, by omega, by go_num, HM2, Drawn.more _⟩
          case measure => simp [intOf]; omega
    · obtain rfl : j = n := by omega
      have hb1 := Lib.hid (FewMid.done HB.out (by rw [HN.out]; have := H30.out; omega) (by rw [HN.out]; exact hM.out))
      go_wp2_with fail
      go_ret
      exact ⟨by rw [hb1.out]; rfl, Drawn.more _⟩
end Go.Proofs.Ytjpfcdgaepdcdaa

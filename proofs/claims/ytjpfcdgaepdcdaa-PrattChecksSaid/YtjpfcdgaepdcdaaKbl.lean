/- Several texts in one; each begins with a remark that says what it shows and on which conditions. -/
import Derived.Test.YtjpfcdgaepdcdaaKbk
/- pratt's Check$1 (does a step hold?), walked. Conditions: as typed; what was shown ahead are primes. -/
namespace Go.Proofs.Ytjpfcdgaepdcdaa
open Go.RowKit
set_option maxRecDepth 20000
/-- The world while a step is held against what was shown. -/
structure HoldAt (w0 u : World) (g gB B nm : Nat) (la : List Nat) (vP vG vQ : Value) (s : SRaw) : Prop where
  dec : DecAt w0 u g vP vG vQ s
  cM : u.cell? ⟨gB, 0, none⟩ = some (.map (some B))
  lt : gB < u.heap.size
  sh : ShownAt u B nm la
theorem HoldAt.step {w0 u u' : World} {g gB B nm : Nat} {la : List Nat} {vP vG vQ : Value} {s : SRaw} (h : HoldAt w0 u g gB B nm la vP vG vQ s) (b : Below u.heap.size u u') : HoldAt w0 u' g gB B nm la vP vG vQ s :=
  ⟨h.dec.step b, (b.cell (p := ⟨gB, 0, none⟩) h.lt).trans h.cM, Nat.lt_of_lt_of_le h.lt b.size, h.sh.below b⟩
def WFlag (b : Bool) (s : SRaw) (la : List Nat) : Prop := b = true ↔ (OkRaw s ∧ StepOk (toN s) la)
theorem WFlag.no {b : Bool} {s : SRaw} {la : List Nat} (h : WFlag b s la) (k : OkRaw s → StepOk (toN s) la → False) : b = false := by
  cases hq : b with
  | false => rfl
  | true => exact (k (h.1 hq).1 (h.1 hq).2).elim
/-- A number that was shown. -/
def Known (q : Nat) : Prop := q < 65536 ∧ Prm q
def KnownFlag (z : Bool) (q : Nat) : Prop := z = true ↔ Known q
def InFlag (z : Bool) (q : Nat) (la : List Nat) : Prop := z = true ↔ q ∈ la
def RiseFlag (z : Bool) (p q : Nat) : Prop := (z = true → ¬ p < q) ∧ (z = false → p < q)
/-- The first so many numbers are right. -/
structure HoldMid (ms : List (List Nat)) (la : List Nat) (j : Nat) : Prop where
  ok : ∀ q ∈ ms.take j, OkNat q
  shown : ∀ q ∈ ms.take j, Known (natOf q) ∨ natOf q ∈ la
  rise : ((ms.take j).map natOf).Pairwise (· < ·)
theorem HoldMid.start (ms : List (List Nat)) (la : List Nat) : HoldMid ms la 0 := ⟨by simp, by simp, by simp⟩
theorem HoldMid.next {ms : List (List Nat)} {la : List Nat} {j : Nat} (h : HoldMid ms la j) (hj : j < ms.length) (ho : OkNat ms[j]) (hs : Known (natOf ms[j]) ∨ natOf ms[j] ∈ la) (hr : ∀ i (hi : i < ms.length), i + 1 = j → natOf ms[i] < natOf ms[j]) : HoldMid ms la (j + 1) := by
  have hall : ∀ {p : List Nat → Prop}, (∀ x ∈ ms.take j, p x) → p ms[j] → ∀ x ∈ ms.take (j + 1), p x := fun h1 h2 x hx => by
    rw [List.take_succ_eq_append_getElem hj] at hx
    rcases List.mem_append.1 hx with h3 | h3
    · exact h1 x h3
    · rw [List.mem_singleton.1 h3]; exact h2
  refine ⟨hall h.ok ho, hall h.shown hs, ?_⟩
  rw [List.take_succ_eq_append_getElem hj, List.map_append]
  refine List.pairwise_append.2 ⟨h.rise, List.pairwise_singleton _ _, fun a ha b hb => ?_⟩
  rw [List.map_singleton, List.mem_singleton] at hb
  subst hb
  rcases j with _ | i
  · simp at ha
  · have hi : i < ms.length := by omega
    have h1 := hr i hi rfl
    have h2 := h.rise
    rw [List.take_succ_eq_append_getElem hi, List.map_append] at ha h2
    rcases List.mem_append.1 ha with h3 | h3
    · have := (List.pairwise_append.1 h2).2.2 a h3 (natOf ms[i]) (by simp)
      omega
    · rw [List.map_singleton, List.mem_singleton] at h3
      omega
theorem HoldMid.rising {s : SRaw} {la : List Nat} (h : HoldMid s.Q la s.Q.length) (hf : FewOne s) (hla : ∀ a ∈ la, Prm a) : Rising s.Q := by
  obtain ⟨h1, h2, h3⟩ := h
  rw [List.take_length] at h1 h2 h3
  exact ⟨h1, hf.2.2.2, fun q hq => (h2 q hq).elim (fun k => k.2) (fun k => hla _ k), h3⟩
theorem HoldMid.flag {b : Bool} {s : SRaw} {la : List Nat} (hb : WFlag b s la) (h : HoldMid s.Q la s.Q.length) : DecFlag b s := by
  obtain ⟨h1, h2, h3⟩ := h
  rw [List.take_length] at h1 h2 h3
  refine hb.trans ⟨fun ⟨ho, k⟩ => ⟨ho.1, ho.2.1, k.odd, k.three, ?_, k.less, ⟨k.parts, k.all⟩, ⟨k.whole, k.none⟩⟩, fun k => ⟨⟨k.okP, k.okG, h1⟩, ⟨k.odd, k.three, Nat.pos_of_ne_zero k.one, k.less, h3, fun q hq => ?_, k.prod.1, k.prod.2, k.around.1, k.around.2⟩⟩⟩
  · have := k.one
    show natOf s.G ≠ 0
    have h4 : 1 ≤ natOf s.G := this
    omega
  · obtain ⟨x, hx, rfl⟩ := List.mem_map.1 hq
    exact h2 x hx
theorem WFlag.no_ok {b : Bool} {s : SRaw} {la : List Nat} (h : WFlag b s la) {j : Nat} (hj : j < s.Q.length) (hn : ¬ OkNat s.Q[j]) : b = false := h.no fun ho _ => hn (ho.2.2 _ (List.getElem_mem hj))
theorem WFlag.no_shown {b : Bool} {s : SRaw} {la : List Nat} (h : WFlag b s la) {j : Nat} (hj : j < s.Q.length) (hn : ¬ Known (natOf s.Q[j])) (hn2 : natOf s.Q[j] ∉ la) : b = false := h.no fun _ k => by
  rcases k.shown (natOf s.Q[j]) (List.mem_map.2 ⟨_, List.getElem_mem hj, rfl⟩) with h1 | h1
  · exact hn h1
  · exact hn2 h1
theorem WFlag.no_rise {b : Bool} {s : SRaw} {la : List Nat} (h : WFlag b s la) {i : Nat} (hj : i + 1 < s.Q.length) (hn : ¬ natOf s.Q[i] < natOf s.Q[i + 1]) : b = false := h.no fun _ k => by
  have h1 := List.pairwise_iff_getElem.1 k.rise i (i + 1) (by simp [toN]; omega) (by simp [toN]; omega) (by omega)
  simp only [toN, List.getElem_map] at h1
  exact hn h1
set_option maxHeartbeats 16000000 in
theorem holds11 {w : World} {AP AG AQ : Option Addr} {nP cP nG cG cQ gB B nm m : Nat} {la : List Nat} {s : SRaw} (rP : RdNat w w.heap.size (.slice AP nP cP) s.P) (rG : RdNat w w.heap.size (.slice AG nG cG) s.G) (rQ : RdQ w w.heap.size (.slice AQ m cQ) s.Q) (hm : s.Q.length = m) (hf : FewOne s)
    (cM : w.cell? ⟨gB, 0, none⟩ = some (.map (some B))) (lt : gB < w.heap.size) (sh : ShownAt w B nm la) (hla : ∀ a ∈ la, Prm a) (b : Bool) (hb : WFlag b s la) :
    Calls Try.prog 12 #[.agg #[.slice AP nP cP, .slice AG nG cG, .slice AQ m cQ], .pointer (some ⟨gB, 0, none⟩)] w fun e w' => e = .returned (.bool b) ∧ Below w.heap.size w w' := by
  obtain ⟨W0, hW0⟩ : ∃ W0, w.alloc (.cells #[.slice AP nP cP, .slice AG nG cG, .slice AQ m cQ] 35) = W0 := ⟨_, rfl⟩
  obtain ⟨g, hg⟩ : ∃ g, w.heap.size = g := ⟨_, rfl⟩
  have hb0 : Below w.heap.size w W0 := by rw [← hW0]; exact (Below.refl _ w).alloc (Nat.le_refl _) _
  have hD0 : HoldAt w W0 g gB B nm la (.slice AP nP cP) (.slice AG nG cG) (.slice AQ m cQ) s :=
    ⟨⟨by rw [← hW0, ← hg]; exact StepBox.new _ _ _ _ _, rP.step11 hb0, rG.step11 hb0, rQ.step11 hb0, hb0⟩, (hb0.cell (p := ⟨gB, 0, none⟩) lt).trans cM, Nat.lt_of_lt_of_le lt hb0.size, sh.below hb0⟩
  have k0 := hD0.dec.box.cQ
  have HWF := Lib.hid hb
  have HF := Lib.hid hf
  have HM := Lib.hid hm
  have HLa := Lib.hid hla
  have hm40 : m ≤ 40 := by have := hf.1; omega
  have HMid := Lib.hid (HoldMid.start s.Q la)
  have HD0 := Lib.hid hD0
  clear hb0 hD0 rP rG rQ hf hla hb cM lt sh hm
  go_enter Try.func12, Try.ntmps12
  go_wp2_with fail
  clear hW0 hg k0
  go_loopw [9] (fun jv wr => ∃ j : Nat, jv = .int .i64 j ∧ j ≤ m ∧ Hid (HoldAt w wr g gB B nm la (.slice AP nP cP) (.slice AG nG cG) (.slice AQ m cQ) s) ∧ Hid (HoldMid s.Q la j)) (fun jv _ => m - (intOf jv).toNat)
  case atStart => exact ⟨0, rfl, Nat.zero_le _, HD0, HMid⟩
  case round =>
    clear HD0 HMid
    obtain ⟨j, rfl, hj, HD, HMid⟩ := hrel
    by_cases hlt : j < m
    · have hjm : j < s.Q.length := by rw [HM.out]; exact hlt
      have bd0 : Below wr.heap.size wr wr.drew := (Drawn.more 1).below11
      have HD1 := Lib.hid (HD.out.step bd0)
      clear bd0
      obtain ⟨V0, hV0⟩ : ∃ V, wr.drew = V := ⟨_, rfl⟩
      rw [hV0] at HD1
      obtain ⟨gA, oA, x0, hA, hgA, hx0, hrx⟩ := HD.out.dec.rQ.at11 hjm
      obtain ⟨Aq, cq, rfl, hrq1, hrq2⟩ := id hrx
      have HQ40 := Lib.hid (HF.out.2.2.2 _ (List.getElem_mem hjm))
      obtain ⟨nq, hnq⟩ : ∃ n, s.Q[j].length = n := ⟨_, rfl⟩
      obtain ⟨q, hq⟩ : ∃ q, natOf s.Q[j] = q := ⟨_, rfl⟩
      have HQe := Lib.hid hq
      rw [hnq] at hx0 hrx
      obtain ⟨bF, hbF⟩ := some_flag11 (OkNat s.Q[j])
      have HbF := Lib.hid (show OkFlag bF s.Q[j] from hbF)
      have RQ := Lib.hid (fun (u : World) (b : Below wr.heap.size wr u) => (show RdNat u u.heap.size (.slice Aq nq cq) s.Q[j] from hrx.step11 b))
      have BV := Lib.hid (show Below wr.heap.size wr V0 by rw [← hV0]; exact (Drawn.more 1).below11)
      have C1 := Lib.hid (fits11 (RQ.out V0 BV.out) HQ40.out bF hbF)
      subst hA
      clear hbF hrx hrq1 hrq2 hq hnq
      go_wp2_with fail
      refine wp_region_any (by kernel_rfl) ?_
      change wpAny _ _ _ _ _ _ _ wr.drew
      rw [hV0]
      clear hV0 hx0
      refine wpAny_takeD (i := 0) (d := 14) (v := .slice Aq nq cq) rfl (by kernel_rfl) (by kernel_rfl) (by kernel_rfl) (by kernel_rfl) (fun _ _ _ h => h) (Or.inl ⟨by kernel_rfl, fun W => by go_simp⟩) ?_
      refine wpAny_ready (rs := [1]) (by kernel_rfl) (by simp) (AllReady.cons rfl (fun K hK => ?_) AllReady.nil)
      go_simp
      refine (C1.out).mono ?_
      rintro e u1 ⟨rfl, b1⟩
      have HD2 := Lib.hid (HD1.out.step b1)
      have BW1 := Lib.hid (below_step BV.out b1)
      have k2 := HD2.out.dec.box.cQ
      clear b1 C1 HD1
      go_wp2_with fail
      cases bF
      · refine wpAny_takeD (i := 2) (d := 16) (v := .bool true) rfl (by kernel_rfl) (by kernel_rfl) (by kernel_rfl) (by kernel_rfl) (fun _ _ _ h => h) (Or.inl ⟨by kernel_rfl, fun W => by go_simp⟩) ?_
        refine wpAny_takeD (i := 3) (d := 17) (v := .bool true) rfl (by kernel_rfl) (by kernel_rfl) (by kernel_rfl) (by kernel_rfl) (fun _ _ _ h => h) (Or.inl ⟨by kernel_rfl, fun W => by go_simp⟩) ?_
        refine wpAny_takeD (i := 4) (d := 18) (v := undef) rfl (by kernel_rfl) (by kernel_rfl) (by kernel_rfl) (by kernel_rfl) (fun _ _ _ h => h) (Or.inr ⟨by kernel_rfl, rfl⟩) ?_
        refine wpAny_takeD (i := 5) (d := 19) (v := undef) rfl (by kernel_rfl) (by kernel_rfl) (by kernel_rfl) (by kernel_rfl) (fun _ _ _ h => h) (Or.inr ⟨by kernel_rfl, rfl⟩) ?_
        refine wpAny_takeD (i := 6) (d := 20) (v := undef) rfl (by kernel_rfl) (by kernel_rfl) (by kernel_rfl) (by kernel_rfl) (fun _ _ _ h => h) (Or.inr ⟨by kernel_rfl, rfl⟩) ?_
        refine wpAny_takeD (i := 7) (d := 21) (v := undef) rfl (by kernel_rfl) (by kernel_rfl) (by kernel_rfl) (by kernel_rfl) (fun _ _ _ h => h) (Or.inr ⟨by kernel_rfl, rfl⟩) ?_
        refine wpAny_takeD (i := 8) (d := 22) (v := undef) rfl (by kernel_rfl) (by kernel_rfl) (by kernel_rfl) (by kernel_rfl) (fun _ _ _ h => h) (Or.inr ⟨by kernel_rfl, rfl⟩) ?_
        refine wpAny_takeD (i := 9) (d := 23) (v := undef) rfl (by kernel_rfl) (by kernel_rfl) (by kernel_rfl) (by kernel_rfl) (fun _ _ _ h => h) (Or.inr ⟨by kernel_rfl, rfl⟩) ?_
        refine wpAny_takeD (i := 10) (d := 24) (v := undef) rfl (by kernel_rfl) (by kernel_rfl) (by kernel_rfl) (by kernel_rfl) (fun _ _ _ h => h) (Or.inr ⟨by kernel_rfl, rfl⟩) ?_
        refine wpAny_takeD (i := 11) (d := 25) (v := undef) rfl (by kernel_rfl) (by kernel_rfl) (by kernel_rfl) (by kernel_rfl) (fun _ _ _ h => h) (Or.inr ⟨by kernel_rfl, rfl⟩) ?_
        refine wpAny_takeD (i := 12) (d := 26) (v := undef) rfl (by kernel_rfl) (by kernel_rfl) (by kernel_rfl) (by kernel_rfl) (fun _ _ _ h => h) (Or.inr ⟨by kernel_rfl, rfl⟩) ?_
        refine wpAny_takeD (i := 13) (d := 27) (v := undef) rfl (by kernel_rfl) (by kernel_rfl) (by kernel_rfl) (by kernel_rfl) (fun _ _ _ h => h) (Or.inr ⟨by kernel_rfl, rfl⟩) ?_
        refine wpAny_takeD (i := 14) (d := 28) (v := undef) rfl (by kernel_rfl) (by kernel_rfl) (by kernel_rfl) (by kernel_rfl) (fun _ _ _ h => h) (Or.inr ⟨by kernel_rfl, rfl⟩) ?_
        refine wpAny_takeD (i := 15) (d := 29) (v := undef) rfl (by kernel_rfl) (by kernel_rfl) (by kernel_rfl) (by kernel_rfl) (fun _ _ _ h => h) (Or.inr ⟨by kernel_rfl, rfl⟩) ?_
        refine wpAny_takeD (i := 16) (d := 30) (v := undef) rfl (by kernel_rfl) (by kernel_rfl) (by kernel_rfl) (by kernel_rfl) (fun _ _ _ h => h) (Or.inr ⟨by kernel_rfl, rfl⟩) ?_
        refine wpAny_takeD (i := 17) (d := 31) (v := .bool true) rfl (by kernel_rfl) (by kernel_rfl) (by kernel_rfl) (by kernel_rfl) (fun _ _ _ h => h) (Or.inl ⟨by kernel_rfl, fun W => by go_simp⟩) ?_
        refine wpAny_takeD (i := 18) (d := 32) (v := .bool true) rfl (by kernel_rfl) (by kernel_rfl) (by kernel_rfl) (by kernel_rfl) (fun _ _ _ h => h) (Or.inl ⟨by kernel_rfl, fun W => by go_simp⟩) ?_
        refine wpAny_takeD (i := 19) (d := 33) (v := undef) rfl (by kernel_rfl) (by kernel_rfl) (by kernel_rfl) (by kernel_rfl) (fun _ _ _ h => h) (Or.inr ⟨by kernel_rfl, rfl⟩) ?_
        refine wpAny_takeD (i := 20) (d := 34) (v := undef) rfl (by kernel_rfl) (by kernel_rfl) (by kernel_rfl) (by kernel_rfl) (fun _ _ _ h => h) (Or.inr ⟨by kernel_rfl, rfl⟩) ?_
        refine wpAny_takeD (i := 21) (d := 35) (v := undef) rfl (by kernel_rfl) (by kernel_rfl) (by kernel_rfl) (by kernel_rfl) (fun _ _ _ h => h) (Or.inr ⟨by kernel_rfl, rfl⟩) ?_
        refine wpAny_takeD (i := 22) (d := 36) (v := undef) rfl (by kernel_rfl) (by kernel_rfl) (by kernel_rfl) (by kernel_rfl) (fun _ _ _ h => h) (Or.inr ⟨by kernel_rfl, rfl⟩) ?_
        refine wpAny_takeD (i := 23) (d := 37) (v := undef) rfl (by kernel_rfl) (by kernel_rfl) (by kernel_rfl) (by kernel_rfl) (fun _ _ _ h => h) (Or.inr ⟨by kernel_rfl, rfl⟩) ?_
        refine wpAny_takeD (i := 24) (d := 38) (v := undef) rfl (by kernel_rfl) (by kernel_rfl) (by kernel_rfl) (by kernel_rfl) (fun _ _ _ h => h) (Or.inr ⟨by kernel_rfl, rfl⟩) ?_
        refine wpAny_takeD (i := 25) (d := 39) (v := undef) rfl (by kernel_rfl) (by kernel_rfl) (by kernel_rfl) (by kernel_rfl) (fun _ _ _ h => h) (Or.inr ⟨by kernel_rfl, rfl⟩) ?_
        refine wpAny_takeD (i := 26) (d := 40) (v := undef) rfl (by kernel_rfl) (by kernel_rfl) (by kernel_rfl) (by kernel_rfl) (fun _ _ _ h => h) (Or.inr ⟨by kernel_rfl, rfl⟩) ?_
        refine wpAny_takeD (i := 27) (d := 41) (v := undef) rfl (by kernel_rfl) (by kernel_rfl) (by kernel_rfl) (by kernel_rfl) (fun _ _ _ h => h) (Or.inr ⟨by kernel_rfl, rfl⟩) ?_
        refine wpAny_takeD (i := 28) (d := 42) (v := undef) rfl (by kernel_rfl) (by kernel_rfl) (by kernel_rfl) (by kernel_rfl) (fun _ _ _ h => h) (Or.inr ⟨by kernel_rfl, rfl⟩) ?_
        refine wpAny_takeD (i := 29) (d := 43) (v := .bool true) rfl (by kernel_rfl) (by kernel_rfl) (by kernel_rfl) (by kernel_rfl) (fun _ _ _ h => h) (Or.inl ⟨by kernel_rfl, fun W => by go_simp⟩) ?_
        refine wpAny_done (by kernel_rfl) ?_ _
        go_step
        go_simp
        go_wp2_with fail
        have hb1 := HWF.out.no_ok hjm (fun h => by have h2 := HbF.out.2 h; cases h2)
        go_ret
        exact ⟨by rw [hb1]; rfl, HD2.out.dec.be⟩
      · have HokF := Lib.hid (HbF.out.1 rfl)
        rcases j with _ | i
        · refine wpAny_takeD (i := 2) (d := 16) (v := .bool false) rfl (by kernel_rfl) (by kernel_rfl) (by kernel_rfl) (by kernel_rfl) (fun _ _ _ h => h) (Or.inl ⟨by kernel_rfl, fun W => by go_simp⟩) ?_
          refine wpAny_takeD (i := 3) (d := 17) (v := .bool false) rfl (by kernel_rfl) (by kernel_rfl) (by kernel_rfl) (by kernel_rfl) (fun _ _ _ h => h) (Or.inl ⟨by kernel_rfl, fun W => by go_simp⟩) ?_
          refine wpAny_takeD (i := 4) (d := 18) (v := .int .i64 0) rfl (by kernel_rfl) (by kernel_rfl) (by kernel_rfl) (by kernel_rfl) (fun _ _ _ h => h) (Or.inl ⟨by kernel_rfl, fun W => by go_simp⟩) ?_
          refine wpAny_takeD (i := 5) (d := 19) (v := .bool false) rfl (by kernel_rfl) (by kernel_rfl) (by kernel_rfl) (by kernel_rfl) (fun _ _ _ h => h) (Or.inl ⟨by kernel_rfl, fun W => by go_simp⟩) ?_
          refine wpAny_takeD (i := 6) (d := 20) (v := .bool false) rfl (by kernel_rfl) (by kernel_rfl) (by kernel_rfl) (by kernel_rfl) (fun _ _ _ h => h) (Or.inl ⟨by kernel_rfl, fun W => by go_simp⟩) ?_
          refine wpAny_takeD (i := 7) (d := 21) (v := undef) rfl (by kernel_rfl) (by kernel_rfl) (by kernel_rfl) (by kernel_rfl) (fun _ _ _ h => h) (Or.inr ⟨by kernel_rfl, rfl⟩) ?_
          refine wpAny_takeD (i := 8) (d := 22) (v := undef) rfl (by kernel_rfl) (by kernel_rfl) (by kernel_rfl) (by kernel_rfl) (fun _ _ _ h => h) (Or.inr ⟨by kernel_rfl, rfl⟩) ?_
          refine wpAny_takeD (i := 9) (d := 23) (v := undef) rfl (by kernel_rfl) (by kernel_rfl) (by kernel_rfl) (by kernel_rfl) (fun _ _ _ h => h) (Or.inr ⟨by kernel_rfl, rfl⟩) ?_
          refine wpAny_takeD (i := 10) (d := 24) (v := undef) rfl (by kernel_rfl) (by kernel_rfl) (by kernel_rfl) (by kernel_rfl) (fun _ _ _ h => h) (Or.inr ⟨by kernel_rfl, rfl⟩) ?_
          refine wpAny_takeD (i := 11) (d := 25) (v := undef) rfl (by kernel_rfl) (by kernel_rfl) (by kernel_rfl) (by kernel_rfl) (fun _ _ _ h => h) (Or.inr ⟨by kernel_rfl, rfl⟩) ?_
          refine wpAny_takeD (i := 12) (d := 26) (v := undef) rfl (by kernel_rfl) (by kernel_rfl) (by kernel_rfl) (by kernel_rfl) (fun _ _ _ h => h) (Or.inr ⟨by kernel_rfl, rfl⟩) ?_
          refine wpAny_takeD (i := 13) (d := 27) (v := undef) rfl (by kernel_rfl) (by kernel_rfl) (by kernel_rfl) (by kernel_rfl) (fun _ _ _ h => h) (Or.inr ⟨by kernel_rfl, rfl⟩) ?_
          refine wpAny_takeD (i := 14) (d := 28) (v := undef) rfl (by kernel_rfl) (by kernel_rfl) (by kernel_rfl) (by kernel_rfl) (fun _ _ _ h => h) (Or.inr ⟨by kernel_rfl, rfl⟩) ?_
          refine wpAny_takeD (i := 15) (d := 29) (v := undef) rfl (by kernel_rfl) (by kernel_rfl) (by kernel_rfl) (by kernel_rfl) (fun _ _ _ h => h) (Or.inr ⟨by kernel_rfl, rfl⟩) ?_
          refine wpAny_takeD (i := 16) (d := 30) (v := .bool false) rfl (by kernel_rfl) (by kernel_rfl) (by kernel_rfl) (by kernel_rfl) (fun _ _ _ h => h) (Or.inl ⟨by kernel_rfl, fun W => by go_simp⟩) ?_
          refine wpAny_takeD (i := 17) (d := 31) (v := .bool false) rfl (by kernel_rfl) (by kernel_rfl) (by kernel_rfl) (by kernel_rfl) (fun _ _ _ h => h) (Or.inl ⟨by kernel_rfl, fun W => by go_simp⟩) ?_
          refine wpAny_takeD (i := 18) (d := 32) (v := .bool false) rfl (by kernel_rfl) (by kernel_rfl) (by kernel_rfl) (by kernel_rfl) (fun _ _ _ h => h) (Or.inl ⟨by kernel_rfl, fun W => by go_simp⟩) ?_
          have HRise := Lib.hid (show ∀ i2 (hi2 : i2 < s.Q.length), i2 + 1 = 0 → natOf s.Q[i2] < natOf s.Q[0] from fun i2 _ e => absurd e (by omega))
          refine wpAny_takeD (i := 19) (d := 33) (v := .slice Aq nq cq) rfl (by kernel_rfl) (by kernel_rfl) (by kernel_rfl) (by kernel_rfl) (fun _ _ _ h => h) (Or.inl ⟨by kernel_rfl, fun W => by go_simp⟩) ?_
          obtain ⟨bK, hbK⟩ := some_flag11 (Known q)
          have HbK := Lib.hid (show KnownFlag bK q from hbK)
          have CK := Lib.hid (isKnown11 (RQ.out u1 BW1.out) HQ40.out bK (by rw [HQe.out]; exact hbK))
          clear hbK
          refine wpAny_ready (rs := [20]) (by kernel_rfl) (by simp) (AllReady.cons rfl (fun K hK => ?_) AllReady.nil)
          go_simp
          refine (CK.out).mono ?_
          rintro e v1 ⟨rfl, b1⟩
          have HE2 := Lib.hid (HD2.out.step b1)
          have BW3 := Lib.hid (below_step BW1.out b1)
          have kM := HE2.out.cM
          clear b1 CK HD2
          go_wp2_with fail
          cases bK
          · refine wpAny_takeD (i := 21) (d := 35) (v := .bool true) rfl (by kernel_rfl) (by kernel_rfl) (by kernel_rfl) (by kernel_rfl) (fun _ _ _ h => h) (Or.inl ⟨by kernel_rfl, fun W => by go_simp⟩) ?_
            refine wpAny_takeD (i := 22) (d := 36) (v := .bool true) rfl (by kernel_rfl) (by kernel_rfl) (by kernel_rfl) (by kernel_rfl) (fun _ _ _ h => h) (Or.inl ⟨by kernel_rfl, fun W => by go_simp⟩) ?_
            refine wpAny_takeD (i := 24) (d := 38) (v := .slice Aq nq cq) rfl (by kernel_rfl) (by kernel_rfl) (by kernel_rfl) (by kernel_rfl) (fun _ _ _ h => h) (Or.inl ⟨by kernel_rfl, fun W => by go_simp⟩) ?_
            refine wpAny_two11 (fun u => u.cell? ⟨gB, 0, none⟩ = some (.map (some B))) (i := 23) (j := 25) (d := 37) (v := .map (some B)) rfl rfl rfl (by kernel_rfl) (by kernel_rfl) (by kernel_rfl) (by kernel_rfl) (by kernel_rfl) (by kernel_rfl) (fun c h => by cases h) (by rfl) (fun _ _ _ h => h) (by kernel_rfl) (fun W hW => by go_simp) (kM) ?_
            refine wpOp_step rfl (fun K hK => ?_)
            go_simp
            refine (name11 (RQ.out v1 BW3.out) HQ40.out).mono ?_
            rintro e v2 ⟨rfl, b2⟩
            have HE3 := Lib.hid (HE2.out.step b2)
            have kM2 := HE3.out.cM
            clear b2 kM
            refine hK _ _ ⟨?_, kM2⟩
            clear hK K kM2
            rw [HQe.out]
            obtain ⟨bS, hbS⟩ := some_flag11 (q ∈ la)
            have HbS := Lib.hid (show InFlag bS q la from hbS)
            have hlook := HE3.out.sh.look (m := q) (by rw [← HQe.out]; exact HokF.out.2) bS hbS
            clear hbS
            refine wpAny_ready (rs := [26]) (by kernel_rfl) (by simp) (AllReady.cons rfl (fun K hK => ?_) AllReady.nil)
            go_simp
            refine hK _ _ ?_
            clear hlook
            clear hK K
            cases bS
            · refine wpAny_takeD (i := 27) (d := 41) (v := .bool true) rfl (by kernel_rfl) (by kernel_rfl) (by kernel_rfl) (by kernel_rfl) (fun _ _ _ h => h) (Or.inl ⟨by kernel_rfl, fun W => by go_simp⟩) ?_
              refine wpAny_takeD (i := 28) (d := 42) (v := .bool true) rfl (by kernel_rfl) (by kernel_rfl) (by kernel_rfl) (by kernel_rfl) (fun _ _ _ h => h) (Or.inl ⟨by kernel_rfl, fun W => by go_simp⟩) ?_
              refine wpAny_takeD (i := 29) (d := 43) (v := .bool true) rfl (by kernel_rfl) (by kernel_rfl) (by kernel_rfl) (by kernel_rfl) (fun _ _ _ h => h) (Or.inl ⟨by kernel_rfl, fun W => by go_simp⟩) ?_
              refine wpAny_done (by kernel_rfl) ?_ _
              go_step
              go_simp
              go_wp2_with fail
              have hb1 := HWF.out.no_shown hjm (by rw [HQe.out]; exact fun h => by have h2 := HbK.out.2 h; cases h2) (by rw [HQe.out]; exact fun h => by have h2 := HbS.out.2 h; cases h2)
              go_ret
              exact ⟨by rw [hb1]; rfl, HE3.out.dec.be⟩
            · refine wpAny_takeD (i := 27) (d := 41) (v := .bool false) rfl (by kernel_rfl) (by kernel_rfl) (by kernel_rfl) (by kernel_rfl) (fun _ _ _ h => h) (Or.inl ⟨by kernel_rfl, fun W => by go_simp⟩) ?_
              refine wpAny_takeD (i := 28) (d := 42) (v := .bool false) rfl (by kernel_rfl) (by kernel_rfl) (by kernel_rfl) (by kernel_rfl) (fun _ _ _ h => h) (Or.inl ⟨by kernel_rfl, fun W => by go_simp⟩) ?_
              refine wpAny_takeD (i := 29) (d := 43) (v := .bool false) rfl (by kernel_rfl) (by kernel_rfl) (by kernel_rfl) (by kernel_rfl) (fun _ _ _ h => h) (Or.inl ⟨by kernel_rfl, fun W => by go_simp⟩) ?_
              have HMid2 := Lib.hid (HMid.out.next hjm HokF.out (by rw [HQe.out]; exact .inr (HbS.out.1 rfl)) HRise.out)
              refine wpAny_done (by kernel_rfl) ?_ _
              go_step
              go_simp
              go_wp2_with fail
              go_roundw
              case rel => exact ⟨_, by go_num, by omega, HE3, HMid2⟩
              case measure => simp [intOf]; omega
          · refine wpAny_takeD (i := 21) (d := 35) (v := .bool false) rfl (by kernel_rfl) (by kernel_rfl) (by kernel_rfl) (by kernel_rfl) (fun _ _ _ h => h) (Or.inl ⟨by kernel_rfl, fun W => by go_simp⟩) ?_
            refine wpAny_takeD (i := 22) (d := 36) (v := .bool false) rfl (by kernel_rfl) (by kernel_rfl) (by kernel_rfl) (by kernel_rfl) (fun _ _ _ h => h) (Or.inl ⟨by kernel_rfl, fun W => by go_simp⟩) ?_
            refine wpAny_takeD (i := 23) (d := 37) (v := undef) rfl (by kernel_rfl) (by kernel_rfl) (by kernel_rfl) (by kernel_rfl) (fun _ _ _ h => h) (Or.inr ⟨by kernel_rfl, rfl⟩) ?_
            refine wpAny_takeD (i := 24) (d := 38) (v := undef) rfl (by kernel_rfl) (by kernel_rfl) (by kernel_rfl) (by kernel_rfl) (fun _ _ _ h => h) (Or.inr ⟨by kernel_rfl, rfl⟩) ?_
            refine wpAny_takeD (i := 25) (d := 39) (v := undef) rfl (by kernel_rfl) (by kernel_rfl) (by kernel_rfl) (by kernel_rfl) (fun _ _ _ h => h) (Or.inr ⟨by kernel_rfl, rfl⟩) ?_
            refine wpAny_takeD (i := 26) (d := 40) (v := undef) rfl (by kernel_rfl) (by kernel_rfl) (by kernel_rfl) (by kernel_rfl) (fun _ _ _ h => h) (Or.inr ⟨by kernel_rfl, rfl⟩) ?_
            refine wpAny_takeD (i := 27) (d := 41) (v := undef) rfl (by kernel_rfl) (by kernel_rfl) (by kernel_rfl) (by kernel_rfl) (fun _ _ _ h => h) (Or.inr ⟨by kernel_rfl, rfl⟩) ?_
            refine wpAny_takeD (i := 28) (d := 42) (v := .bool false) rfl (by kernel_rfl) (by kernel_rfl) (by kernel_rfl) (by kernel_rfl) (fun _ _ _ h => h) (Or.inl ⟨by kernel_rfl, fun W => by go_simp⟩) ?_
            refine wpAny_takeD (i := 29) (d := 43) (v := .bool false) rfl (by kernel_rfl) (by kernel_rfl) (by kernel_rfl) (by kernel_rfl) (fun _ _ _ h => h) (Or.inl ⟨by kernel_rfl, fun W => by go_simp⟩) ?_
            have HMid2 := Lib.hid (HMid.out.next hjm HokF.out (by rw [HQe.out]; exact .inl (HbK.out.1 rfl)) HRise.out)
            refine wpAny_done (by kernel_rfl) ?_ _
            go_step
            go_simp
            go_wp2_with fail
            go_roundw
            case rel => exact ⟨_, by go_num, by omega, HE2, HMid2⟩
            case measure => simp [intOf]; omega
        · have him : i < s.Q.length := by omega
          obtain ⟨gA2, oA2, x1, hA2, _, hx1, hrx1⟩ := HD2.out.dec.rQ.at11 him
          injection hA2 with hA2
          injection hA2 with hA3 hA4 _
          subst hA3 hA4
          obtain ⟨Ap, cp, rfl, _, _⟩ := id hrx1
          obtain ⟨np, hnp⟩ : ∃ n, s.Q[i].length = n := ⟨_, rfl⟩
          obtain ⟨p, hp⟩ : ∃ p, natOf s.Q[i] = p := ⟨_, rfl⟩
          have HPe := Lib.hid hp
          have HP40 := Lib.hid (HF.out.2.2.2 _ (List.getElem_mem him))
          rw [hnp] at hx1 hrx1
          obtain ⟨x, hx⟩ : ∃ x, cmpS p q = x := ⟨_, rfl⟩
          obtain ⟨zC, hzC⟩ : ∃ z : Bool, decide ((0 : Int) ≤ x) = z := ⟨_, rfl⟩
          have HzC := Lib.hid (show RiseFlag zC p q from by
            unfold cmpS at hx
            subst hzC
            rcases Nat.lt_or_ge p q with h | h
            · rw [if_pos h] at hx; subst hx
              exact ⟨fun h2 => by simp at h2, fun _ => h⟩
            · rw [if_neg (by omega)] at hx
              refine ⟨fun _ => by omega, fun h2 => ?_⟩
              have h3 := of_decide_eq_false h2
              split at hx <;> omega)
          have C2 := bCmp (hrx1.in12 HP40.out) ((RQ.out u1 BW1.out).in12 HQ40.out)
          rw [hp, HQe.out, hx] at C2
          have C2 := Lib.hid C2
          have g1 : decide ((0 : Int) < ((i + 1 : Nat) : Int)) = true := by rw [decide_eq_true_eq]; omega
          have HWI := Lib.hid (show IntKind.i64.wrap (((i + 1 : Nat) : Int) - 1) = (i : Int) from by unfold IntKind.wrap; simp [IntKind.signed, IntKind.bits]; omega)
          have HWI2 := Lib.hid (show IntKind.i64.wrap (i : Int) = (i : Int) from by unfold IntKind.wrap; simp [IntKind.signed, IntKind.bits]; omega)
          clear hx hp hnp hrx1
          refine wpAny_takeD (i := 2) (d := 16) (v := .bool false) rfl (by kernel_rfl) (by kernel_rfl) (by kernel_rfl) (by kernel_rfl) (fun _ _ _ h => h) (Or.inl ⟨by kernel_rfl, fun W => by go_simp⟩) ?_
          refine wpAny_takeD (i := 3) (d := 17) (v := .bool false) rfl (by kernel_rfl) (by kernel_rfl) (by kernel_rfl) (by kernel_rfl) (fun _ _ _ h => h) (Or.inl ⟨by kernel_rfl, fun W => by go_simp⟩) ?_
          refine wpAny_takeD (i := 4) (d := 18) (v := .int .i64 ((i + 1 : Nat) : Int)) rfl (by kernel_rfl) (by kernel_rfl) (by kernel_rfl) (by kernel_rfl) (fun _ _ _ h => h) (Or.inl ⟨by kernel_rfl, fun W => by go_simp⟩) ?_
          refine wpAny_takeD (i := 5) (d := 19) (v := .bool true) rfl (by kernel_rfl) (by kernel_rfl) (by kernel_rfl) (by kernel_rfl) (fun _ _ _ h => h) (Or.inl ⟨by kernel_rfl, fun W => by go_simp⟩) ?_
          refine wpAny_takeD (i := 6) (d := 20) (v := .bool true) rfl (by kernel_rfl) (by kernel_rfl) (by kernel_rfl) (by kernel_rfl) (fun _ _ _ h => h) (Or.inl ⟨by kernel_rfl, fun W => by go_simp⟩) ?_
          refine wpAny_takeD (i := 7) (d := 21) (v := .pointer (some ⟨g, 2, none⟩)) rfl (by kernel_rfl) (by kernel_rfl) (by kernel_rfl) (by kernel_rfl) (fun _ _ _ h => h) (Or.inl ⟨by kernel_rfl, fun W => by go_simp⟩) ?_
          refine wpAny_takeD (i := 9) (d := 23) (v := .int .i64 ((i + 1 : Nat) : Int)) rfl (by kernel_rfl) (by kernel_rfl) (by kernel_rfl) (by kernel_rfl) (fun _ _ _ h => h) (Or.inl ⟨by kernel_rfl, fun W => by go_simp⟩) ?_
          refine wpAny_takeD (i := 10) (d := 24) (v := .int .i64 (i : Int)) rfl (by kernel_rfl) (by kernel_rfl) (by kernel_rfl) (by kernel_rfl) (fun _ _ _ h => h) (Or.inl ⟨by kernel_rfl, fun W => by first | (go_simp; done) | (go_simp; exact HWI.out) | (go_simp; exact HWI2.out)⟩) ?_
          refine wpAny_takeD (i := 13) (d := 27) (v := .slice Aq nq cq) rfl (by kernel_rfl) (by kernel_rfl) (by kernel_rfl) (by kernel_rfl) (fun _ _ _ h => h) (Or.inl ⟨by kernel_rfl, fun W => by go_simp⟩) ?_
          refine wpAny_ready (rs := [8]) (by kernel_rfl) (by simp) (AllReady.cons rfl (fun K hK => ?_) AllReady.nil)
          go_simp
          refine hK _ _ ?_
          clear hK K
          refine wpAny_takeD (i := 11) (d := 25) (v := .pointer (some ⟨gA, oA + i, none⟩)) rfl (by kernel_rfl) (by kernel_rfl) (by kernel_rfl) (by kernel_rfl) (fun _ _ _ h => h) (Or.inl ⟨by kernel_rfl, fun W => by first | (go_simp; done) | (go_simp; intro h; exact absurd h (by omega))⟩) ?_
          refine wpAny_ready (rs := [12]) (by kernel_rfl) (by simp) (AllReady.cons rfl (fun K hK => ?_) AllReady.nil)
          go_simp
          refine hK _ _ ?_
          clear hK K
          refine wpAny_ready (rs := [14]) (by kernel_rfl) (by simp) (AllReady.cons rfl (fun K hK => ?_) AllReady.nil)
          go_simp
          refine (C2.out).mono ?_
          rintro e u2 ⟨rfl, b2⟩
          have HD3 := Lib.hid (HD2.out.step b2)
          have BW2 := Lib.hid (below_step BW1.out b2)
          clear b2 C2 k2 hx1 HD2
          go_wp2_with fail
          refine wpAny_takeD (i := 15) (d := 29) (v := .bool zC) rfl (by kernel_rfl) (by kernel_rfl) (by kernel_rfl) (by kernel_rfl) (fun _ _ _ h => h) (Or.inl ⟨by kernel_rfl, fun W => by go_simp⟩) ?_
          refine wpAny_takeD (i := 16) (d := 30) (v := .bool zC) rfl (by kernel_rfl) (by kernel_rfl) (by kernel_rfl) (by kernel_rfl) (fun _ _ _ h => h) (Or.inl ⟨by kernel_rfl, fun W => by go_simp⟩) ?_
          refine wpAny_takeD (i := 17) (d := 31) (v := .bool zC) rfl (by kernel_rfl) (by kernel_rfl) (by kernel_rfl) (by kernel_rfl) (fun _ _ _ h => h) (Or.inl ⟨by kernel_rfl, fun W => by go_simp⟩) ?_
          refine wpAny_takeD (i := 18) (d := 32) (v := .bool zC) rfl (by kernel_rfl) (by kernel_rfl) (by kernel_rfl) (by kernel_rfl) (fun _ _ _ h => h) (Or.inl ⟨by kernel_rfl, fun W => by go_simp⟩) ?_
          clear hzC g1
          cases zC
          · have HRise := Lib.hid (show ∀ i2 (hi2 : i2 < s.Q.length), i2 + 1 = i + 1 → natOf s.Q[i2] < natOf s.Q[i + 1] from fun i2 hi2 e => by
              obtain rfl : i2 = i := by omega
              have h1 := HzC.out.2 rfl
              rw [HPe.out, HQe.out]
              exact h1)
            refine wpAny_takeD (i := 19) (d := 33) (v := .slice Aq nq cq) rfl (by kernel_rfl) (by kernel_rfl) (by kernel_rfl) (by kernel_rfl) (fun _ _ _ h => h) (Or.inl ⟨by kernel_rfl, fun W => by go_simp⟩) ?_
            obtain ⟨bK, hbK⟩ := some_flag11 (Known q)
            have HbK := Lib.hid (show KnownFlag bK q from hbK)
            have CK := Lib.hid (isKnown11 (RQ.out u2 BW2.out) HQ40.out bK (by rw [HQe.out]; exact hbK))
            clear hbK
            refine wpAny_ready (rs := [20]) (by kernel_rfl) (by simp) (AllReady.cons rfl (fun K hK => ?_) AllReady.nil)
            go_simp
            refine (CK.out).mono ?_
            rintro e v1 ⟨rfl, b1⟩
            have HE2 := Lib.hid (HD3.out.step b1)
            have BW3 := Lib.hid (below_step BW2.out b1)
            have kM := HE2.out.cM
            clear b1 CK HD3
            go_wp2_with fail
            cases bK
            · refine wpAny_takeD (i := 21) (d := 35) (v := .bool true) rfl (by kernel_rfl) (by kernel_rfl) (by kernel_rfl) (by kernel_rfl) (fun _ _ _ h => h) (Or.inl ⟨by kernel_rfl, fun W => by go_simp⟩) ?_
              refine wpAny_takeD (i := 22) (d := 36) (v := .bool true) rfl (by kernel_rfl) (by kernel_rfl) (by kernel_rfl) (by kernel_rfl) (fun _ _ _ h => h) (Or.inl ⟨by kernel_rfl, fun W => by go_simp⟩) ?_
              refine wpAny_takeD (i := 24) (d := 38) (v := .slice Aq nq cq) rfl (by kernel_rfl) (by kernel_rfl) (by kernel_rfl) (by kernel_rfl) (fun _ _ _ h => h) (Or.inl ⟨by kernel_rfl, fun W => by go_simp⟩) ?_
              refine wpAny_two11 (fun u => u.cell? ⟨gB, 0, none⟩ = some (.map (some B))) (i := 23) (j := 25) (d := 37) (v := .map (some B)) rfl rfl rfl (by kernel_rfl) (by kernel_rfl) (by kernel_rfl) (by kernel_rfl) (by kernel_rfl) (by kernel_rfl) (fun c h => by cases h) (by rfl) (fun _ _ _ h => h) (by kernel_rfl) (fun W hW => by go_simp) (kM) ?_
              refine wpOp_step rfl (fun K hK => ?_)
              go_simp
              refine (name11 (RQ.out v1 BW3.out) HQ40.out).mono ?_
              rintro e v2 ⟨rfl, b2⟩
              have HE3 := Lib.hid (HE2.out.step b2)
              have kM2 := HE3.out.cM
              clear b2 kM
              refine hK _ _ ⟨?_, kM2⟩
              clear hK K kM2
              rw [HQe.out]
              obtain ⟨bS, hbS⟩ := some_flag11 (q ∈ la)
              have HbS := Lib.hid (show InFlag bS q la from hbS)
              have hlook := HE3.out.sh.look (m := q) (by rw [← HQe.out]; exact HokF.out.2) bS hbS
              clear hbS
              refine wpAny_ready (rs := [26]) (by kernel_rfl) (by simp) (AllReady.cons rfl (fun K hK => ?_) AllReady.nil)
              go_simp
              refine hK _ _ ?_
              clear hlook
              clear hK K
              cases bS
              · refine wpAny_takeD (i := 27) (d := 41) (v := .bool true) rfl (by kernel_rfl) (by kernel_rfl) (by kernel_rfl) (by kernel_rfl) (fun _ _ _ h => h) (Or.inl ⟨by kernel_rfl, fun W => by go_simp⟩) ?_
                refine wpAny_takeD (i := 28) (d := 42) (v := .bool true) rfl (by kernel_rfl) (by kernel_rfl) (by kernel_rfl) (by kernel_rfl) (fun _ _ _ h => h) (Or.inl ⟨by kernel_rfl, fun W => by go_simp⟩) ?_
                refine wpAny_takeD (i := 29) (d := 43) (v := .bool true) rfl (by kernel_rfl) (by kernel_rfl) (by kernel_rfl) (by kernel_rfl) (fun _ _ _ h => h) (Or.inl ⟨by kernel_rfl, fun W => by go_simp⟩) ?_
                refine wpAny_done (by kernel_rfl) ?_ _
                go_step
                go_simp
                go_wp2_with fail
                have hb1 := HWF.out.no_shown hjm (by rw [HQe.out]; exact fun h => by have h2 := HbK.out.2 h; cases h2) (by rw [HQe.out]; exact fun h => by have h2 := HbS.out.2 h; cases h2)
                go_ret
                exact ⟨by rw [hb1]; rfl, HE3.out.dec.be⟩
              · refine wpAny_takeD (i := 27) (d := 41) (v := .bool false) rfl (by kernel_rfl) (by kernel_rfl) (by kernel_rfl) (by kernel_rfl) (fun _ _ _ h => h) (Or.inl ⟨by kernel_rfl, fun W => by go_simp⟩) ?_
                refine wpAny_takeD (i := 28) (d := 42) (v := .bool false) rfl (by kernel_rfl) (by kernel_rfl) (by kernel_rfl) (by kernel_rfl) (fun _ _ _ h => h) (Or.inl ⟨by kernel_rfl, fun W => by go_simp⟩) ?_
                refine wpAny_takeD (i := 29) (d := 43) (v := .bool false) rfl (by kernel_rfl) (by kernel_rfl) (by kernel_rfl) (by kernel_rfl) (fun _ _ _ h => h) (Or.inl ⟨by kernel_rfl, fun W => by go_simp⟩) ?_
                have HMid2 := Lib.hid (HMid.out.next hjm HokF.out (by rw [HQe.out]; exact .inr (HbS.out.1 rfl)) HRise.out)
                refine wpAny_done (by kernel_rfl) ?_ _
                go_step
                go_simp
                go_wp2_with fail
                go_roundw
                case rel => exact ⟨_, by go_num, by omega, HE3, HMid2⟩
                case measure => simp [intOf]; omega
            · refine wpAny_takeD (i := 21) (d := 35) (v := .bool false) rfl (by kernel_rfl) (by kernel_rfl) (by kernel_rfl) (by kernel_rfl) (fun _ _ _ h => h) (Or.inl ⟨by kernel_rfl, fun W => by go_simp⟩) ?_
              refine wpAny_takeD (i := 22) (d := 36) (v := .bool false) rfl (by kernel_rfl) (by kernel_rfl) (by kernel_rfl) (by kernel_rfl) (fun _ _ _ h => h) (Or.inl ⟨by kernel_rfl, fun W => by go_simp⟩) ?_
              refine wpAny_takeD (i := 23) (d := 37) (v := undef) rfl (by kernel_rfl) (by kernel_rfl) (by kernel_rfl) (by kernel_rfl) (fun _ _ _ h => h) (Or.inr ⟨by kernel_rfl, rfl⟩) ?_
              refine wpAny_takeD (i := 24) (d := 38) (v := undef) rfl (by kernel_rfl) (by kernel_rfl) (by kernel_rfl) (by kernel_rfl) (fun _ _ _ h => h) (Or.inr ⟨by kernel_rfl, rfl⟩) ?_
              refine wpAny_takeD (i := 25) (d := 39) (v := undef) rfl (by kernel_rfl) (by kernel_rfl) (by kernel_rfl) (by kernel_rfl) (fun _ _ _ h => h) (Or.inr ⟨by kernel_rfl, rfl⟩) ?_
              refine wpAny_takeD (i := 26) (d := 40) (v := undef) rfl (by kernel_rfl) (by kernel_rfl) (by kernel_rfl) (by kernel_rfl) (fun _ _ _ h => h) (Or.inr ⟨by kernel_rfl, rfl⟩) ?_
              refine wpAny_takeD (i := 27) (d := 41) (v := undef) rfl (by kernel_rfl) (by kernel_rfl) (by kernel_rfl) (by kernel_rfl) (fun _ _ _ h => h) (Or.inr ⟨by kernel_rfl, rfl⟩) ?_
              refine wpAny_takeD (i := 28) (d := 42) (v := .bool false) rfl (by kernel_rfl) (by kernel_rfl) (by kernel_rfl) (by kernel_rfl) (fun _ _ _ h => h) (Or.inl ⟨by kernel_rfl, fun W => by go_simp⟩) ?_
              refine wpAny_takeD (i := 29) (d := 43) (v := .bool false) rfl (by kernel_rfl) (by kernel_rfl) (by kernel_rfl) (by kernel_rfl) (fun _ _ _ h => h) (Or.inl ⟨by kernel_rfl, fun W => by go_simp⟩) ?_
              have HMid2 := Lib.hid (HMid.out.next hjm HokF.out (by rw [HQe.out]; exact .inl (HbK.out.1 rfl)) HRise.out)
              refine wpAny_done (by kernel_rfl) ?_ _
              go_step
              go_simp
              go_wp2_with fail
              go_roundw
              case rel => exact ⟨_, by go_num, by omega, HE2, HMid2⟩
              case measure => simp [intOf]; omega
          · refine wpAny_takeD (i := 19) (d := 33) (v := undef) rfl (by kernel_rfl) (by kernel_rfl) (by kernel_rfl) (by kernel_rfl) (fun _ _ _ h => h) (Or.inr ⟨by kernel_rfl, rfl⟩) ?_
            refine wpAny_takeD (i := 20) (d := 34) (v := undef) rfl (by kernel_rfl) (by kernel_rfl) (by kernel_rfl) (by kernel_rfl) (fun _ _ _ h => h) (Or.inr ⟨by kernel_rfl, rfl⟩) ?_
            refine wpAny_takeD (i := 21) (d := 35) (v := undef) rfl (by kernel_rfl) (by kernel_rfl) (by kernel_rfl) (by kernel_rfl) (fun _ _ _ h => h) (Or.inr ⟨by kernel_rfl, rfl⟩) ?_
            refine wpAny_takeD (i := 22) (d := 36) (v := undef) rfl (by kernel_rfl) (by kernel_rfl) (by kernel_rfl) (by kernel_rfl) (fun _ _ _ h => h) (Or.inr ⟨by kernel_rfl, rfl⟩) ?_
            refine wpAny_takeD (i := 23) (d := 37) (v := undef) rfl (by kernel_rfl) (by kernel_rfl) (by kernel_rfl) (by kernel_rfl) (fun _ _ _ h => h) (Or.inr ⟨by kernel_rfl, rfl⟩) ?_
            refine wpAny_takeD (i := 24) (d := 38) (v := undef) rfl (by kernel_rfl) (by kernel_rfl) (by kernel_rfl) (by kernel_rfl) (fun _ _ _ h => h) (Or.inr ⟨by kernel_rfl, rfl⟩) ?_
            refine wpAny_takeD (i := 25) (d := 39) (v := undef) rfl (by kernel_rfl) (by kernel_rfl) (by kernel_rfl) (by kernel_rfl) (fun _ _ _ h => h) (Or.inr ⟨by kernel_rfl, rfl⟩) ?_
            refine wpAny_takeD (i := 26) (d := 40) (v := undef) rfl (by kernel_rfl) (by kernel_rfl) (by kernel_rfl) (by kernel_rfl) (fun _ _ _ h => h) (Or.inr ⟨by kernel_rfl, rfl⟩) ?_
            refine wpAny_takeD (i := 27) (d := 41) (v := undef) rfl (by kernel_rfl) (by kernel_rfl) (by kernel_rfl) (by kernel_rfl) (fun _ _ _ h => h) (Or.inr ⟨by kernel_rfl, rfl⟩) ?_
            refine wpAny_takeD (i := 28) (d := 42) (v := undef) rfl (by kernel_rfl) (by kernel_rfl) (by kernel_rfl) (by kernel_rfl) (fun _ _ _ h => h) (Or.inr ⟨by kernel_rfl, rfl⟩) ?_
            refine wpAny_takeD (i := 29) (d := 43) (v := .bool true) rfl (by kernel_rfl) (by kernel_rfl) (by kernel_rfl) (by kernel_rfl) (fun _ _ _ h => h) (Or.inl ⟨by kernel_rfl, fun W => by go_simp⟩) ?_
            refine wpAny_done (by kernel_rfl) ?_ _
            go_step
            go_simp
            go_wp2_with fail
            have hb1 := HWF.out.no_rise hjm (by rw [HPe.out, HQe.out]; exact HzC.out.1 rfl)
            go_ret
            exact ⟨by rw [hb1]; rfl, HD3.out.dec.be⟩
    · obtain rfl : j = m := by omega
      have HMm := Lib.hid (show HoldMid s.Q la s.Q.length by rw [HM.out]; exact HMid.out)
      have C3 := Lib.hid (decides11 HD.out.dec.rP HD.out.dec.rG HD.out.dec.rQ HF.out (HMm.out.rising HF.out HLa.out) b (HMm.out.flag HWF.out))
      have k1 := HD.out.dec.box.cP
      have k2 := HD.out.dec.box.cG
      have k3 := HD.out.dec.box.cQ
      go_wp2_with fail
      refine (C3.out).mono ?_
      rintro e w5 ⟨rfl, b5⟩
      have HE := Lib.hid (HD.out.step b5)
      clear b5 k1 k2 k3
      go_wp2_with fail
      go_ret
      exact ⟨rfl, HE.out.dec.be⟩
end Go.Proofs.Ytjpfcdgaepdcdaa

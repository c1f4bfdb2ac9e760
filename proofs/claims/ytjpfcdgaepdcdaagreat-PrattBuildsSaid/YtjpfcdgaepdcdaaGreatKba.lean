/- Several texts in one; each begins with a remark that says what it shows and on which conditions. -/
import Derived.Test.YtjpfcdgaepdcdaaGreatKay
import Derived.Test.YtjpfcdgaepdcdaaGreatKaz
import Derived.Deep.QuietTactic
/- The document's certificates of chapter 11, step by step. Conditions: as typed (numbers below 2^31). -/
namespace Go.Proofs.YtjpfcdgaepdcdaaGreat
open Go.RowKit
set_option maxRecDepth 20000
/-- Words that are a number below 2^31, as it may be. -/
def smallB11 (l : List Nat) : Bool := decide (l.length = 0 ∨ (l.length = 1 ∧ 0 < nth l 0 ∧ nth l 0 < 2147483648))
set_option maxHeartbeats 1000000 in
theorem refSmall {w : World} {B : Nat} {v : Value} {l : List Nat} (h : RdNat w B v l) (n : Nat) (hn : nth l 0 = n) (b : Bool) (hb : smallB11 l = b) :
    Calls Tryz.prog 26 #[v] w fun e w' => e = .returned (.tuple #[.int .u64 n, .bool b]) ∧ Drawn w w' := by
  obtain ⟨A, c, rfl, hr, hc, hw, hl⟩ := h
  obtain ⟨k, hk⟩ : ∃ k, l.length = k := ⟨_, rfl⟩
  unfold smallB11 at hb
  rw [hn, hk] at hb
  rw [hk]
  by_cases h0 : k = 0
  · subst h0
    have hb1 : b = true := by rw [← hb]; simp
    have hn1 : n = 0 := by rw [← hn]; unfold nth; rw [List.eq_nil_of_length_eq_zero hk]; rfl
    subst hb1 hn1
    clear hb hr hw
    go_enter Tryz.func26, Tryz.ntmps26
    go_wp2_with fail
    go_ret2
    exact ⟨rfl, Drawn.refl _⟩
  · obtain ⟨g, o, rfl, hg, hcell⟩ := hr (by omega)
    have e1 := hcell 0 (by omega)
    rw [hn, Nat.add_zero] at e1
    have hnl : n < 18446744073709551616 := by rw [← hn, nth_eq l 0 (by omega)]; exact hw _ (List.getElem_mem _)
    have hk0 : ((k : Int) == 0) = false := by simp; omega
    have hkp : 0 < k := by omega
    clear hr hcell hw hn hl hk
    by_cases h1 : k = 1
    · subst h1
      by_cases h2 : n = 0
      · subst h2
        have hb1 : b = false := by rw [← hb]; simp
        subst hb1
        clear hb
        go_enter Tryz.func26, Tryz.ntmps26
        go_wp2_with fail
        go_quiet (fail)
        go_wp2_with fail
        go_ret2
        exact ⟨rfl, Drawn.more _⟩
      · have h3 : 0 < n := by omega
        have g3 : decide ((0 : Int) < (n : Int)) = true := by simp; omega
        by_cases h4 : n < 2147483648
        · have g4 : decide ((n : Int) < 2147483648) = true := by simp; omega
          have hb1 : b = true := by rw [← hb]; simp; omega
          subst hb1
          clear hb
          go_enter Tryz.func26, Tryz.ntmps26
          go_wp2_with fail
          go_quiet (fail)
          go_wp2_with fail
          go_ret2
          exact ⟨rfl, Drawn.more _⟩
        · have g4 : decide ((n : Int) < 2147483648) = false := by simp; omega
          have hb1 : b = false := by rw [← hb]; simp; omega
          subst hb1
          clear hb
          go_enter Tryz.func26, Tryz.ntmps26
          go_wp2_with fail
          go_quiet (fail)
          go_wp2_with fail
          go_ret2
          exact ⟨rfl, Drawn.more _⟩
    · have g1 : ((k : Int) == 1) = false := by simp; omega
      have hb1 : b = false := by rw [← hb]; simp; omega
      subst hb1
      clear hb
      go_enter Tryz.func26, Tryz.ntmps26
      go_wp2_with fail
      go_quiet (fail)
      go_wp2_with fail
      go_ret2
      exact ⟨rfl, Drawn.more _⟩
end Go.Proofs.YtjpfcdgaepdcdaaGreat
/- The document's step of a certificate, chapter 11. Conditions: numbers below 2^31; what was shown ahead are primes. -/
namespace Go.Proofs.YtjpfcdgaepdcdaaGreat
open Go.RowKit
set_option maxRecDepth 20000
theorem RdNat.drawn {w w' : World} {B : Nat} {v : Value} {l : List Nat} (h : RdNat w B v l) (d : Drawn w w') : RdNat w' B v l := by
  obtain ⟨A, c, e, hr, hc, hw, hl⟩ := h
  exact ⟨A, c, e, d.rd hr, hc, hw, hl⟩
theorem RdNat.below {w w' : World} {B : Nat} {v : Value} {l : List Nat} (h : RdNat w B v l) (d : Below B w w') : RdNat w' B v l := by
  obtain ⟨A, c, e, hr, hc, hw, hl⟩ := h
  exact ⟨A, c, e, hr.below d, hc, hw, hl⟩
theorem RdNats.below {w w' : World} {B : Nat} {A : Option Addr} {ms : List (List Nat)} (h : RdNats w B A ms) (d : Below B w w') : RdNats w' B A ms := fun h0 => by
  obtain ⟨b, off, e2, hb, hall⟩ := h h0
  refine ⟨b, off, e2, hb, fun j hj => ?_⟩
  obtain ⟨v, h1, h2⟩ := hall j hj
  exact ⟨v, (d.cell (p := ⟨b, off + j, none⟩) hb).trans h1, h2.below d⟩
theorem RdQ.drawn {w w' : World} {B : Nat} {v : Value} {ms : List (List Nat)} (h : RdQ w B v ms) (d : Drawn w w') : RdQ w' B v ms := by
  obtain ⟨A, c, e, hr, hc, hl⟩ := h
  refine ⟨A, c, e, fun h0 => ?_, hc, hl⟩
  obtain ⟨b, off, e2, hb, hall⟩ := hr h0
  refine ⟨b, off, e2, hb, fun j hj => ?_⟩
  obtain ⟨v, h1, h2⟩ := hall j hj
  exact ⟨v, ((d.below (b + 1)).cell (p := ⟨b, off + j, none⟩) (Nat.lt_succ_self b)).trans h1, h2.drawn d⟩
/-- The first so many of a step's numbers are right. -/
structure StepMid (s : CStep) (la : List Nat) (j L M : Nat) : Prop where
  strip : Stripped (s.P - 1) (s.Q.take j) L
  rise : (s.Q.take j).Pairwise (· < ·)
  most : ∀ x ∈ s.Q.take j, x ≤ M
  mem : M = 0 ∨ M ∈ s.Q.take j
  shown : ∀ x ∈ s.Q.take j, (x < 65536 ∧ Prm x) ∨ x ∈ la
  parts : ∀ x ∈ s.Q.take j, x ∣ s.P - 1
  none : ∀ x ∈ s.Q.take j, s.G ^ ((s.P - 1) / x) % s.P ≠ 1
theorem StepMid.start {s : CStep} {la : List Nat} (h : 3 ≤ s.P) : StepMid s la 0 (s.P - 1) 0 :=
  ⟨Stripped.start (by omega), List.Pairwise.nil, by simp, .inl rfl, by simp, by simp, by simp⟩
theorem take_snoc11 (l : List Nat) (k : Nat) (h : k < l.length) : l.take (k + 1) = l.take k ++ [nth l k] := by
  rw [List.take_add_one, List.getElem?_eq_getElem h]
  simp [nth, h]
theorem StepMid.next {s : CStep} {la : List Nat} {j L M L' q : Nat} (h : StepMid s la j L M) (hj : j < s.Q.length) (hq : nth s.Q j = q) (hM : M < q) (hs : (q < 65536 ∧ Prm q) ∨ q ∈ la) (hd : q ∣ s.P - 1) (hn : s.G ^ ((s.P - 1) / q) % s.P ≠ 1)
    (hL : Stripped (s.P - 1) (s.Q.take j ++ [q]) L') : StepMid s la (j + 1) L' q := by
  have e : s.Q.take (j + 1) = s.Q.take j ++ [q] := by rw [take_snoc11 _ _ hj, hq]
  have hall : ∀ {p : Nat → Prop}, (∀ x ∈ s.Q.take j, p x) → p q → ∀ x ∈ s.Q.take (j + 1), p x := fun h1 h2 x hx => by
    rw [e] at hx
    rcases List.mem_append.1 hx with h3 | h3
    · exact h1 x h3
    · rw [List.mem_singleton.1 h3]; exact h2
  refine ⟨by rw [e]; exact hL, ?_, hall (fun x hx => by have := h.most x hx; omega) (Nat.le_refl _), .inr (by rw [e]; exact List.mem_append_right _ List.mem_cons_self), hall h.shown hs, hall h.parts hd, hall h.none hn⟩
  rw [e]
  exact List.pairwise_append.2 ⟨h.rise, List.pairwise_singleton _ _, fun a ha b hb => by
    rw [List.mem_singleton.1 hb]; have := h.most a ha; omega⟩
theorem StepMid.done {s : CStep} {la : List Nat} {L M : Nat} (h : StepMid s la s.Q.length L M) (ho : s.P % 2 = 1) (h3 : 3 ≤ s.P) (h1 : 1 ≤ s.G) (hl : s.G < s.P) : StepOk s la ↔ (L = 1 ∧ s.G ^ (s.P - 1) % s.P = 1) := by
  obtain ⟨a1, a2, a3, a4, a5, a6, a7⟩ := h
  rw [List.take_length] at a1 a2 a5 a6 a7
  constructor
  · exact fun k => ⟨a1.one.2 k.all, k.whole⟩
  · rintro ⟨e1, e2⟩
    exact ⟨ho, h3, h1, hl, a2, a5, a6, a1.one.1 e1, e2, a7⟩
/-- Between two looks at what was shown ahead. -/
def ShMid (f : Bool) (q : Nat) (la : List Nat) (k : Nat) : Prop := f = true ↔ ((q < 65536 ∧ Prm q) ∨ q ∈ la.take k)
theorem ShMid.start {f : Bool} {q : Nat} {la : List Nat} (h : f = true ↔ (q < 65536 ∧ Prm q)) : ShMid f q la 0 := by
  unfold ShMid; rw [h]; simp
theorem ShMid.all {f : Bool} {q : Nat} {la : List Nat} (h : ShMid f q la la.length) : f = true ↔ ((q < 65536 ∧ Prm q) ∨ q ∈ la) := by
  unfold ShMid at h; rw [List.take_length] at h; exact h
theorem ShMid.more {q : Nat} {la : List Nat} {k : Nat} (h : ShMid true q la k) (j : Nat) (hj : k ≤ j) : ShMid true q la j :=
  ⟨fun _ => (h.1 rfl).elim .inl fun h1 => .inr (by
    obtain ⟨i, hi, e⟩ := List.mem_iff_getElem.1 h1
    rw [List.length_take] at hi
    rw [List.getElem_take] at e
    exact List.mem_iff_getElem.2 ⟨i, by rw [List.length_take]; omega, by rw [List.getElem_take]; exact e⟩), fun _ => rfl⟩
end Go.Proofs.YtjpfcdgaepdcdaaGreat
/- The document's Is of chapter 9, as chapter 11 asks it. Conditions: numbers below 2^32. -/
namespace Go.Proofs.YtjpfcdgaepdcdaaGreat
open Go.RowKit
set_option maxRecDepth 20000
theorem mod_form11 (a k : Nat) (b : Bool) (h : decide (a % k = 0) = b) : (((a : Int) % (k : Int)) == 0) = b := by
  rw [← h, Bool.eq_iff_iff, beq_iff_eq, decide_eq_true_eq]; omega
set_option maxHeartbeats 1000000 in
theorem refIs11 (n : Nat) (hn : n < 4294967296) (b : Bool) (hb : b = true ↔ Prm n) (w : World) :
    Calls Tryz.prog 8 #[.int .u64 n] w fun e w' => e = .returned (.bool b) ∧ w = w' := by
  rw [prm_iff_try] at hb
  have HB := Lib.hid hb
  clear hb
  by_cases h2 : n < 2
  · have hb := Lib.hid (show b = false by cases hq : b with | false => rfl | true => have := (HB.out.1 hq).1; omega)
    go_enter Tryz.func8, Tryz.ntmps8
    go_wp2_with fail
    go_ret
    exact ⟨by rw [hb.out]; rfl, rfl⟩
  · go_enter Tryz.func8, Tryz.ntmps8
    go_wp2_with fail
    go_loopw [3] (fun dv wr => ∃ d : Nat, 2 ≤ d ∧ d ≤ 65536 ∧ dv = .int .u64 d ∧ (∀ e, 2 ≤ e → e < d → n % e ≠ 0) ∧ w = wr) (fun dv _ => 65536 - (intOf dv).toNat)
    case atStart => exact ⟨2, Nat.le_refl _, by omega, rfl, fun e h1 h2 => by omega, rfl⟩
    case round =>
      obtain ⟨d, h3, hd, rfl, hno, rfl⟩ := hrel
      have HN := Lib.hid hno
      clear hno
      have hd0 : ((d : Int) == 0) = false := by simp; omega
      obtain ⟨q, hq⟩ : ∃ q, d * d = q := ⟨_, rfl⟩
      have hqI : (d : Int) * (d : Int) = (q : Int) := by rw [← hq]; simp
      have hql : q ≤ 4294967296 := by rw [← hq]; exact Nat.mul_le_mul hd hd
      have HQ := Lib.hid hq
      by_cases h1 : q ≤ n
      · have g1 : decide ((q : Int) ≤ (n : Int)) = true := by simp; omega
        by_cases h4 : n % d = 0
        · have g4 := mod_form11 n d true (decide_eq_true h4)
          have hb := Lib.hid (show b = false by cases hb : b with | false => rfl | true => exact absurd h4 ((HB.out.1 hb).2 d h3 (by omega)))
          clear h4 hq
          go_wp2_with fail
          go_ret
          exact ⟨by rw [hb.out]; rfl, rfl⟩
        · have g4 := mod_form11 n d false (decide_eq_false h4)
          have HH := Lib.hid h4
          have hd2 : d < 65536 := by
            rcases Nat.lt_or_ge d 65536 with h | h
            · exact h
            · have := Nat.mul_le_mul h h; omega
          clear h4 hq
          go_wp2_with fail
          go_roundw
          case rel => exact ⟨d + 1, by omega, by omega, by go_num, fun e h1 h2 => by (rcases Nat.lt_succ_iff_lt_or_eq.1 h2 with h | rfl); exact HN.out e h1 h; exact HH.out, trivial⟩
          case measure => simp [intOf]; omega
      · have g1 : decide ((q : Int) ≤ (n : Int)) = false := by simp; omega
        have hb := Lib.hid (show b = true from HB.out.2 ⟨by omega, fun e h5 h6 => HN.out e h5 (by
          rcases Nat.lt_or_ge e d with h | h
          · exact h
          · have := Nat.mul_le_mul h h; omega)⟩)
        clear hq
        go_wp2_with fail
        go_ret
        exact ⟨by rw [hb.out]; rfl, rfl⟩
end Go.Proofs.YtjpfcdgaepdcdaaGreat
/- The document's step of a certificate, chapter 11, walked. Conditions: numbers below 2^31; what was shown ahead are primes. -/
namespace Go.Proofs.YtjpfcdgaepdcdaaGreat
open Go.RowKit
set_option maxRecDepth 20000
theorem small_lt11 {l : List Nat} (h : smallB11 l = true) : nth l 0 < 2147483648 := by
  unfold smallB11 at h
  rcases of_decide_eq_true h with h1 | h1
  · rw [List.eq_nil_of_length_eq_zero h1]; exact Nat.zero_lt_succ _
  · exact h1.2.2
end Go.Proofs.YtjpfcdgaepdcdaaGreat
/- The document's Low, chapter 11. No condition but those typed. -/
namespace Go.Proofs.YtjpfcdgaepdcdaaGreat
open Go.RowKit
set_option maxRecDepth 20000
/-- All numbers of a step are below 2^31. -/
def LowOne (s : SRaw) : Prop := smallB11 s.P = true ∧ smallB11 s.G = true ∧ ∀ q ∈ s.Q, smallB11 q = true
def LowFlag (b : Bool) (ss : List SRaw) : Prop := b = true ↔ ∀ s ∈ ss, LowOne s
/-- The first so many are. -/
def LowMid (ss : List SRaw) (j : Nat) : Prop := ∀ i (hi : i < ss.length), i < j → LowOne ss[i]
theorem LowMid.not {b : Bool} {ss : List SRaw} (h : LowFlag b ss) {j : Nat} (hj : j < ss.length) (hn : ¬ LowOne ss[j]) : b = false := by
  cases hb : b with
  | false => rfl
  | true => exact absurd (h.1 hb _ (List.getElem_mem hj)) hn
theorem LowMid.next {ss : List SRaw} {j : Nat} (h : LowMid ss j) (hj : j < ss.length) (hn : LowOne ss[j]) : LowMid ss (j + 1) := fun i hi hlt => by
  rcases Nat.lt_succ_iff_lt_or_eq.1 hlt with h1 | rfl
  · exact h i hi h1
  · exact hn
theorem LowMid.done {b : Bool} {ss : List SRaw} (h : LowFlag b ss) (k : LowMid ss ss.length) : b = true := h.2 fun s hs => by
  obtain ⟨i, hi, rfl⟩ := List.mem_iff_getElem.1 hs
  exact k i hi hi
set_option maxHeartbeats 8000000 in
set_option maxRecDepth 100000 in
theorem refLow11 {w : World} {A : Option Addr} {c : Nat} {ss : List SRaw} (h : RdSteps w w.heap.size A ss) (hl : ss.length ≤ 1000) (hq : ∀ s ∈ ss, s.Q.length ≤ 1000) (b : Bool) (hb : LowFlag b ss) :
    Calls Tryz.prog 11 #[.slice A ss.length c] w fun e w' => e = .returned (.bool b) ∧ Drawn w w' := by
  obtain ⟨n, hn⟩ : ∃ n, ss.length = n := ⟨_, rfl⟩
  have HB := Lib.hid hb
  have H := Lib.hid h
  have HN := Lib.hid hn
  have HQ := Lib.hid hq
  rw [hn] at hl ⊢
  clear h hb hn hq
  go_enter Tryz.func11, Tryz.ntmps11
  go_wp2_with fail
  go_loopw [3] (fun iv wr => ∃ j : Nat, j ≤ n ∧ iv = .int .i64 j ∧ Hid (LowMid ss j) ∧ Drawn w wr) (fun iv _ => n - (intOf iv).toNat)
  case atStart => exact ⟨0, Nat.zero_le _, rfl, Lib.hid (fun i hi h => by omega), Drawn.more 0⟩
  case round =>
    obtain ⟨j, hj, rfl, hM, nq, rfl⟩ := hrel
    by_cases hlt : j < n
    · obtain ⟨g, o, rfl, hg, hall⟩ := H.out (by rw [HN.out]; omega)
      have hjs : j < ss.length := by rw [HN.out]; exact hlt
      obtain ⟨vP, vG, vQ, eP, eG, eQ, rP, rG, rQ⟩ := hall j hjs
      have HS1 := fun u (d : Drawn w u) => refSmall (rP.drawn d) _ rfl _ rfl
      have HS2 := fun u (d : Drawn w u) => refSmall (rG.drawn d) _ rfl _ rfl
      obtain ⟨x1, hx1⟩ : ∃ x, nth ss[j].P 0 = x := ⟨_, rfl⟩
      obtain ⟨x2, hx2⟩ : ∃ x, nth ss[j].G 0 = x := ⟨_, rfl⟩
      obtain ⟨b1, hb1⟩ : ∃ x, smallB11 ss[j].P = x := ⟨_, rfl⟩
      obtain ⟨b2, hb2⟩ : ∃ x, smallB11 ss[j].G = x := ⟨_, rfl⟩
      rw [hx1, hb1] at HS1
      rw [hx2, hb2] at HS2
      have HS1 := Lib.hid HS1
      have HS2 := Lib.hid HS2
      obtain ⟨XQ, dQ, rfl, hRQ, _, _⟩ := rQ
      obtain ⟨m, hm⟩ : ∃ m, ss[j].Q.length = m := ⟨_, rfl⟩
      have hml : m ≤ 1000 := by rw [← hm]; exact HQ.out _ (List.getElem_mem hjs)
      have HMM := Lib.hid hm
      rw [hm] at eQ
      have HRQ := Lib.hid hRQ
      have HB1 := Lib.hid hb1
      have HB2 := Lib.hid hb2
      clear hall rP rG hx1 hx2 hb1 hb2 hRQ hm
      go_wp2_with fail
      refine (HS1.out _ (Drawn.more _)).mono ?_
      rintro e w1 ⟨rfl, nq1, rfl⟩
      go_wp2_with fail
      refine (HS2.out _ (Drawn.more _)).mono ?_
      rintro e w1 ⟨rfl, nq2, rfl⟩
      cases b1
      · have hbf := Lib.hid (LowMid.not HB.out hjs (fun k => by have := k.1; rw [HB1.out] at this; cases this))
        go_wp2_with fail
        go_ret
        exact ⟨by rw [hbf.out]; rfl, Drawn.more _⟩
      · cases b2
        · have hbf := Lib.hid (LowMid.not HB.out hjs (fun k => by have := k.2.1; rw [HB2.out] at this; cases this))
          go_wp2_with fail
          go_ret
          exact ⟨by rw [hbf.out]; rfl, Drawn.more _⟩
        · go_wp2_with fail
          go_loopw [8] (fun kv wr => ∃ k : Nat, k ≤ m ∧ kv = .int .i64 k ∧ Hid (∀ i (hi : i < ss[j].Q.length), i < k → smallB11 (ss[j].Q[i]) = true) ∧ Drawn w wr) (fun kv _ => m - (intOf kv).toNat)
          case atStart => exact ⟨0, Nat.zero_le _, rfl, Lib.hid (fun i hi h => by omega), Drawn.more _⟩
          case round =>
            obtain ⟨k, hk, rfl, hK, nq3, rfl⟩ := hrel
            by_cases hkm : k < m
            · have hkq : k < ss[j].Q.length := by rw [HMM.out]; exact hkm
              obtain ⟨g2, o2, rfl, hg2, hall2⟩ := HRQ.out (by omega)
              obtain ⟨v, ev, rv⟩ := hall2 k hkq
              have HS3 := fun u (d : Drawn w u) => refSmall (rv.drawn d) _ rfl _ rfl
              obtain ⟨x3, hx3⟩ : ∃ x, nth (ss[j].Q[k]) 0 = x := ⟨_, rfl⟩
              obtain ⟨b3, hb3⟩ : ∃ x, smallB11 (ss[j].Q[k]) = x := ⟨_, rfl⟩
              rw [hx3, hb3] at HS3
              have HS3 := Lib.hid HS3
              have HB3 := Lib.hid hb3
              clear hall2 rv hx3 hb3
              go_wp2_with fail
              refine (HS3.out _ (Drawn.more _)).mono ?_
              rintro e w1 ⟨rfl, nq4, rfl⟩
              cases b3
              · have hbf := Lib.hid (LowMid.not HB.out hjs (fun q => by have := q.2.2 _ (List.getElem_mem hkq); rw [HB3.out] at this; cases this))
                go_wp2_with fail
                go_ret
                exact ⟨by rw [hbf.out]; rfl, Drawn.more _⟩
              · have HK := Lib.hid (show ∀ i (hi : i < ss[j].Q.length), i < k + 1 → smallB11 (ss[j].Q[i]) = true from fun i hi hlt2 => by
                  rcases Nat.lt_succ_iff_lt_or_eq.1 hlt2 with h1 | rfl
                  · exact hK.out i hi h1
                  · exact HB3.out)
                go_wp2_with fail
                go_roundw
                case rel => exact ⟨k + 1, by omega, by go_num, HK, Drawn.more _⟩
                case measure => simp [intOf]; omega
            · have HM2 := Lib.hid (hM.out.next hjs ⟨HB1.out, HB2.out, fun q hq => by
                obtain ⟨i, hi, rfl⟩ := List.mem_iff_getElem.1 hq
                exact hK.out i hi (by have := HMM.out; omega)⟩)
              go_wp2_with fail
              go_roundw
              case rel => exact ⟨j + 1, by omega, by go_num, HM2, Drawn.more _⟩
              case measure => simp [intOf]; omega
    · obtain rfl : j = n := by omega
      have hb1 := Lib.hid (LowMid.done HB.out (by rw [HN.out]; exact hM.out))
      go_wp2_with fail
      go_ret
      exact ⟨by rw [hb1.out]; rfl, Drawn.more _⟩
end Go.Proofs.YtjpfcdgaepdcdaaGreat
/- The document's Check, chapter 11. Conditions: numbers below 2^31. -/
namespace Go.Proofs.YtjpfcdgaepdcdaaGreat
open Go.RowKit
set_option maxRecDepth 20000
/-- A step's numbers. -/
def toC (s : SRaw) : CStep := ⟨nth s.P 0, nth s.G 0, s.Q.map fun l => nth l 0⟩
def CheckFlag (b : Bool) (p : Nat) (l : List CStep) : Prop := b = true ↔ CheckN p l
theorem RdNat.more {w : World} {B B' : Nat} {v : Value} {l : List Nat} (h : RdNat w B v l) (hB : B ≤ B') : RdNat w B' v l := by
  obtain ⟨A, c, e, hr, hc, hw, hl⟩ := h
  exact ⟨A, c, e, hr.more hB, hc, hw, hl⟩
theorem RdNats.more {w : World} {B B' : Nat} {A : Option Addr} {ms : List (List Nat)} (h : RdNats w B A ms) (hB : B ≤ B') : RdNats w B' A ms := fun h0 => by
  obtain ⟨b, off, e2, hb, hall⟩ := h h0
  refine ⟨b, off, e2, by omega, fun j hj => ?_⟩
  obtain ⟨v, h1, h2⟩ := hall j hj
  exact ⟨v, h1, h2.more hB⟩
/-- The first so many steps show their numbers; these are what was shown. -/
structure CheckMid (cs : List CStep) (j : Nat) (la : List Nat) : Prop where
  cert : CertOk [] (cs.take j)
  shown : la = (cs.take j).map CStep.P
theorem CheckMid.start (cs : List CStep) : CheckMid cs 0 [] := ⟨trivial, rfl⟩
theorem CheckMid.prm {cs : List CStep} {j : Nat} {la : List Nat} (h : CheckMid cs j la) : ∀ a ∈ la, Prm a := fun a ha => by
  rw [h.shown] at ha
  obtain ⟨s, hs, rfl⟩ := List.mem_map.1 ha
  exact certOk_prm _ _ h.cert s hs
theorem CheckMid.take {cs : List CStep} {j : Nat} {la : List Nat} (h : CheckMid cs j la) (hj : j < cs.length) : CertOk [] (cs.take (j + 1)) ↔ StepOk cs[j] la := by
  rw [List.take_succ_eq_append_getElem hj, certOk_append, List.nil_append, ← h.shown]
  exact ⟨fun k => k.2.1, fun k => ⟨h.cert, k, trivial⟩⟩
theorem CheckMid.next {cs : List CStep} {j : Nat} {la : List Nat} (h : CheckMid cs j la) (hj : j < cs.length) (hs : StepOk cs[j] la) : CheckMid cs (j + 1) (la ++ [cs[j].P]) :=
  ⟨(h.take hj).2 hs, by rw [List.take_succ_eq_append_getElem hj, List.map_append, ← h.shown]; rfl⟩
theorem CheckMid.not {b : Bool} {p : Nat} {cs : List CStep} (hb : CheckFlag b p cs) {j : Nat} {la : List Nat} (h : CheckMid cs j la) (hj : j < cs.length) (hs : ¬ StepOk cs[j] la) : b = false := by
  cases hq : b with
  | false => rfl
  | true =>
    exfalso
    rcases hb.1 hq with ⟨h1, _⟩ | ⟨r, s, _, _, h1⟩
    · rw [h1] at hj; cases hj
    · refine hs ((h.take hj).1 ?_)
      rw [← List.take_append_drop (j + 1) cs] at h1
      exact ((certOk_append _ _ _).1 h1).1
theorem CheckMid.done {b : Bool} {p : Nat} {cs : List CStep} (hb : CheckFlag b p cs) {la : List Nat} (h : CheckMid cs cs.length la) {m : Nat} (hm : cs.length = m + 1) : b = decide (nth la m = p) := by
  have hc := h.cert
  have hs := h.shown
  rw [List.take_length] at hc hs
  have hl : m < cs.length := by omega
  have e : cs = cs.take m ++ [cs[m]] := by
    rw [← List.take_succ_eq_append_getElem hl, List.take_of_length_le (by omega)]
  have hn : nth la m = cs[m].P := by
    rw [nth_eq la m (by rw [hs, List.length_map]; exact hl)]
    simp [hs]
  rw [Bool.eq_iff_iff, decide_eq_true_eq, hn]
  constructor
  · intro hq
    rcases hb.1 hq with ⟨h1, _⟩ | ⟨r, s, h1, h2, _⟩
    · rw [h1] at hl; cases hl
    · rw [e] at h1
      have h3 := (List.append_inj' h1 rfl).2
      injection h3 with h3 _
      rw [h3]; exact h2
  · intro hq
    exact hb.2 (.inr ⟨_, _, e, hq, hc⟩)
theorem CheckFlag.empty {b : Bool} {p : Nat} (hb : CheckFlag b p []) : b = true ↔ (p < 65536 ∧ Prm p) := by
  refine hb.trans ⟨?_, fun h => .inl ⟨rfl, h.1, h.2⟩⟩
  rintro (⟨_, h1, h2⟩ | ⟨r, s, h1, _⟩)
  · exact ⟨h1, h2⟩
  · have := congrArg List.length h1; simp at this
end Go.Proofs.YtjpfcdgaepdcdaaGreat

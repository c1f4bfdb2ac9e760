/- Several texts in one; each begins with a remark that says what it shows and on which conditions. -/
import Derived.Test.YtjpfcdgaepdcdaaGreatKbh
import Derived.Test.YtjpfcdgaepdcdaaGreatKbi
import Derived.Test.YtjpfcdgaepdcdaaGreatKbg
import Derived.Test.YtjpfcdgaepdcdaaGreatKbb
import Derived.Test.YtjpfcdgaepdcdaaGreatKbe
import Derived.Deep.QuietTactic
import Derived.Maps.OwnSet
import Derived.Deep.LoopGhost
/- The document's certificates of chapter 11, step by step. Conditions: as typed (numbers below 2^31). -/
namespace Go.Proofs.YtjpfcdgaepdcdaaGreat
open Go.RowKit
set_option maxRecDepth 20000
/-- Words that are a number below 2^31, as it may be. -/
def smallB11 (l : List Nat) : Bool := decide (l.length = 0 ∨ (l.length = 1 ∧ 0 < nth l 0 ∧ nth l 0 < 2147483648))
end Go.Proofs.YtjpfcdgaepdcdaaGreat
/- The document's step of a certificate, chapter 11. Conditions: numbers below 2^31; what was shown ahead are primes. -/
namespace Go.Proofs.YtjpfcdgaepdcdaaGreat
open Go.RowKit
set_option maxRecDepth 20000
theorem RdNat.drawn {w w' : World} {B : Nat} {v : Value} {l : List Nat} (h : RdNat w B v l) (d : Drawn w w') : RdNat w' B v l := by
  obtain ⟨A, c, e, hr, hc, hw, hl⟩ := h
  exact ⟨A, c, e, d.rd hr, hc, hw, hl⟩
theorem RdNat.below {w w' : World} {B : Nat} {v : Value} {l : List Nat} (h : RdNat w B v l) (d : Below B w w') : RdNat w' B v l := by
  obtain ⟨A, c, e, hr, hc, hw, hl⟩ := h
  exact ⟨A, c, e, hr.below d, hc, hw, hl⟩
theorem RdNats.below {w w' : World} {B : Nat} {A : Option Addr} {ms : List (List Nat)} (h : RdNats w B A ms) (d : Below B w w') : RdNats w' B A ms := fun h0 => by
  obtain ⟨b, off, e2, hb, hall⟩ := h h0
  refine ⟨b, off, e2, hb, fun j hj => ?_⟩
  obtain ⟨v, h1, h2⟩ := hall j hj
  exact ⟨v, (d.cell (p := ⟨b, off + j, none⟩) hb).trans h1, h2.below d⟩
theorem RdQ.drawn {w w' : World} {B : Nat} {v : Value} {ms : List (List Nat)} (h : RdQ w B v ms) (d : Drawn w w') : RdQ w' B v ms := by
  obtain ⟨A, c, e, hr, hc, hl⟩ := h
  refine ⟨A, c, e, fun h0 => ?_, hc, hl⟩
  obtain ⟨b, off, e2, hb, hall⟩ := hr h0
  refine ⟨b, off, e2, hb, fun j hj => ?_⟩
  obtain ⟨v, h1, h2⟩ := hall j hj
  exact ⟨v, ((d.below (b + 1)).cell (p := ⟨b, off + j, none⟩) (Nat.lt_succ_self b)).trans h1, h2.drawn d⟩
/-- The first so many of a step's numbers are right. -/
structure StepMid (s : CStep) (la : List Nat) (j L M : Nat) : Prop where
  strip : Stripped (s.P - 1) (s.Q.take j) L
  rise : (s.Q.take j).Pairwise (· < ·)
  most : ∀ x ∈ s.Q.take j, x ≤ M
  mem : M = 0 ∨ M ∈ s.Q.take j
  shown : ∀ x ∈ s.Q.take j, (x < 65536 ∧ Prm x) ∨ x ∈ la
  parts : ∀ x ∈ s.Q.take j, x ∣ s.P - 1
  none : ∀ x ∈ s.Q.take j, s.G ^ ((s.P - 1) / x) % s.P ≠ 1
theorem StepMid.start {s : CStep} {la : List Nat} (h : 3 ≤ s.P) : StepMid s la 0 (s.P - 1) 0 :=
  ⟨Stripped.start (by omega), List.Pairwise.nil, by simp, .inl rfl, by simp, by simp, by simp⟩
theorem take_snoc11 (l : List Nat) (k : Nat) (h : k < l.length) : l.take (k + 1) = l.take k ++ [nth l k] := by
  rw [List.take_add_one, List.getElem?_eq_getElem h]
  simp [nth, h]
theorem StepMid.next {s : CStep} {la : List Nat} {j L M L' q : Nat} (h : StepMid s la j L M) (hj : j < s.Q.length) (hq : nth s.Q j = q) (hM : M < q) (hs : (q < 65536 ∧ Prm q) ∨ q ∈ la) (hd : q ∣ s.P - 1) (hn : s.G ^ ((s.P - 1) / q) % s.P ≠ 1)
    (hL : Stripped (s.P - 1) (s.Q.take j ++ [q]) L') : StepMid s la (j + 1) L' q := by
  have e : s.Q.take (j + 1) = s.Q.take j ++ [q] := by rw [take_snoc11 _ _ hj, hq]
  have hall : ∀ {p : Nat → Prop}, (∀ x ∈ s.Q.take j, p x) → p q → ∀ x ∈ s.Q.take (j + 1), p x := fun h1 h2 x hx => by
    rw [e] at hx
    rcases List.mem_append.1 hx with h3 | h3
    · exact h1 x h3
    · rw [List.mem_singleton.1 h3]; exact h2
  refine ⟨by rw [e]; exact hL, ?_, hall (fun x hx => by have := h.most x hx; omega) (Nat.le_refl _), .inr (by rw [e]; exact List.mem_append_right _ List.mem_cons_self), hall h.shown hs, hall h.parts hd, hall h.none hn⟩
  rw [e]
  exact List.pairwise_append.2 ⟨h.rise, List.pairwise_singleton _ _, fun a ha b hb => by
    rw [List.mem_singleton.1 hb]; have := h.most a ha; omega⟩
theorem StepMid.done {s : CStep} {la : List Nat} {L M : Nat} (h : StepMid s la s.Q.length L M) (ho : s.P % 2 = 1) (h3 : 3 ≤ s.P) (h1 : 1 ≤ s.G) (hl : s.G < s.P) : StepOk s la ↔ (L = 1 ∧ s.G ^ (s.P - 1) % s.P = 1) := by
  obtain ⟨a1, a2, a3, a4, a5, a6, a7⟩ := h
  rw [List.take_length] at a1 a2 a5 a6 a7
  constructor
  · exact fun k => ⟨a1.one.2 k.all, k.whole⟩
  · rintro ⟨e1, e2⟩
    exact ⟨ho, h3, h1, hl, a2, a5, a6, a1.one.1 e1, e2, a7⟩
/-- Between two looks at what was shown ahead. -/
def ShMid (f : Bool) (q : Nat) (la : List Nat) (k : Nat) : Prop := f = true ↔ ((q < 65536 ∧ Prm q) ∨ q ∈ la.take k)
theorem ShMid.start {f : Bool} {q : Nat} {la : List Nat} (h : f = true ↔ (q < 65536 ∧ Prm q)) : ShMid f q la 0 := by
  unfold ShMid; rw [h]; simp
theorem ShMid.all {f : Bool} {q : Nat} {la : List Nat} (h : ShMid f q la la.length) : f = true ↔ ((q < 65536 ∧ Prm q) ∨ q ∈ la) := by
  unfold ShMid at h; rw [List.take_length] at h; exact h
theorem ShMid.more {q : Nat} {la : List Nat} {k : Nat} (h : ShMid true q la k) (j : Nat) (hj : k ≤ j) : ShMid true q la j :=
  ⟨fun _ => (h.1 rfl).elim .inl fun h1 => .inr (by
    obtain ⟨i, hi, e⟩ := List.mem_iff_getElem.1 h1
    rw [List.length_take] at hi
    rw [List.getElem_take] at e
    exact List.mem_iff_getElem.2 ⟨i, by rw [List.length_take]; omega, by rw [List.getElem_take]; exact e⟩), fun _ => rfl⟩
end Go.Proofs.YtjpfcdgaepdcdaaGreat
/- The document's Is of chapter 9, as chapter 11 asks it. Conditions: numbers below 2^32. -/
namespace Go.Proofs.YtjpfcdgaepdcdaaGreat
open Go.RowKit
set_option maxRecDepth 20000
theorem mod_form11 (a k : Nat) (b : Bool) (h : decide (a % k = 0) = b) : (((a : Int) % (k : Int)) == 0) = b := by
  rw [← h, Bool.eq_iff_iff, beq_iff_eq, decide_eq_true_eq]; omega
set_option maxHeartbeats 1000000 in
theorem refIs11 (n : Nat) (hn : n < 4294967296) (b : Bool) (hb : b = true ↔ Prm n) (w : World) :
    Calls Tryz.prog 8 #[.int .u64 n] w fun e w' => e = .returned (.bool b) ∧ w = w' := by
  rw [prm_iff_try] at hb
  have HB := Lib.hid hb
  clear hb
  by_cases h2 : n < 2
  · have hb := Lib.hid (show b = false by cases hq : b with | false => rfl | true => have := (HB.out.1 hq).1; omega)
    go_enter Tryz.func8, Tryz.ntmps8
    go_wp2_with fail
    go_ret
    exact ⟨by rw [hb.out]; rfl, rfl⟩
  · go_enter Tryz.func8, Tryz.ntmps8
    go_wp2_with fail
    go_loopw [3] (fun dv wr => ∃ d : Nat, 2 ≤ d ∧ d ≤ 65536 ∧ dv = .int .u64 d ∧ (∀ e, 2 ≤ e → e < d → n % e ≠ 0) ∧ w = wr) (fun dv _ => 65536 - (intOf dv).toNat)
    case atStart => exact ⟨2, Nat.le_refl _, by omega, rfl, fun e h1 h2 => by omega, rfl⟩
    case round =>
      obtain ⟨d, h3, hd, rfl, hno, rfl⟩ := hrel
      have HN := Lib.hid hno
      clear hno
      have hd0 : ((d : Int) == 0) = false := by simp; omega
      obtain ⟨q, hq⟩ : ∃ q, d * d = q := ⟨_, rfl⟩
      have hqI : (d : Int) * (d : Int) = (q : Int) := by rw [← hq]; simp
      have hql : q ≤ 4294967296 := by rw [← hq]; exact Nat.mul_le_mul hd hd
      have HQ := Lib.hid hq
      by_cases h1 : q ≤ n
      · have g1 : decide ((q : Int) ≤ (n : Int)) = true := by simp; omega
        by_cases h4 : n % d = 0
        · have g4 := mod_form11 n d true (decide_eq_true h4)
          have hb := Lib.hid (show b = false by cases hb : b with | false => rfl | true => exact absurd h4 ((HB.out.1 hb).2 d h3 (by omega)))
          clear h4 hq
          go_wp2_with fail
          go_ret
          exact ⟨by rw [hb.out]; rfl, rfl⟩
        · have g4 := mod_form11 n d false (decide_eq_false h4)
          have HH := Lib.hid h4
          have hd2 : d < 65536 := by
            rcases Nat.lt_or_ge d 65536 with h | h
            · exact h
            · have := Nat.mul_le_mul h h; omega
          clear h4 hq
          go_wp2_with fail
          go_roundw
          case rel => exact ⟨d + 1, by omega, by omega, by go_num, fun e h1 h2 => by (rcases Nat.lt_succ_iff_lt_or_eq.1 h2 with h | rfl); exact HN.out e h1 h; exact HH.out, trivial⟩
          case measure => simp [intOf]; omega
      · have g1 : decide ((q : Int) ≤ (n : Int)) = false := by simp; omega
        have hb := Lib.hid (show b = true from HB.out.2 ⟨by omega, fun e h5 h6 => HN.out e h5 (by
          rcases Nat.lt_or_ge e d with h | h
          · exact h
          · have := Nat.mul_le_mul h h; omega)⟩)
        clear hq
        go_wp2_with fail
        go_ret
        exact ⟨by rw [hb.out]; rfl, rfl⟩
end Go.Proofs.YtjpfcdgaepdcdaaGreat
/- The document's step of a certificate, chapter 11, walked. Conditions: numbers below 2^31; what was shown ahead are primes. -/
namespace Go.Proofs.YtjpfcdgaepdcdaaGreat
open Go.RowKit
set_option maxRecDepth 20000
theorem small_lt11 {l : List Nat} (h : smallB11 l = true) : nth l 0 < 2147483648 := by
  unfold smallB11 at h
  rcases of_decide_eq_true h with h1 | h1
  · rw [List.eq_nil_of_length_eq_zero h1]; exact Nat.zero_lt_succ _
  · exact h1.2.2
end Go.Proofs.YtjpfcdgaepdcdaaGreat
/- The document's Low, chapter 11. No condition but those typed. -/
namespace Go.Proofs.YtjpfcdgaepdcdaaGreat
open Go.RowKit
set_option maxRecDepth 20000
/-- All numbers of a step are below 2^31. -/
def LowOne (s : SRaw) : Prop := smallB11 s.P = true ∧ smallB11 s.G = true ∧ ∀ q ∈ s.Q, smallB11 q = true
def LowFlag (b : Bool) (ss : List SRaw) : Prop := b = true ↔ ∀ s ∈ ss, LowOne s
/-- The first so many are. -/
def LowMid (ss : List SRaw) (j : Nat) : Prop := ∀ i (hi : i < ss.length), i < j → LowOne ss[i]
theorem LowMid.next {ss : List SRaw} {j : Nat} (h : LowMid ss j) (hj : j < ss.length) (hn : LowOne ss[j]) : LowMid ss (j + 1) := fun i hi hlt => by
  rcases Nat.lt_succ_iff_lt_or_eq.1 hlt with h1 | rfl
  · exact h i hi h1
  · exact hn
theorem LowMid.done {b : Bool} {ss : List SRaw} (h : LowFlag b ss) (k : LowMid ss ss.length) : b = true := h.2 fun s hs => by
  obtain ⟨i, hi, rfl⟩ := List.mem_iff_getElem.1 hs
  exact k i hi hi
end Go.Proofs.YtjpfcdgaepdcdaaGreat
/- The document's Check, chapter 11. Conditions: numbers below 2^31. -/
namespace Go.Proofs.YtjpfcdgaepdcdaaGreat
open Go.RowKit
set_option maxRecDepth 20000
/-- A step's numbers. -/
def toC (s : SRaw) : CStep := ⟨nth s.P 0, nth s.G 0, s.Q.map fun l => nth l 0⟩
def CheckFlag (b : Bool) (p : Nat) (l : List CStep) : Prop := b = true ↔ CheckN p l
theorem RdNat.more {w : World} {B B' : Nat} {v : Value} {l : List Nat} (h : RdNat w B v l) (hB : B ≤ B') : RdNat w B' v l := by
  obtain ⟨A, c, e, hr, hc, hw, hl⟩ := h
  exact ⟨A, c, e, hr.more hB, hc, hw, hl⟩
theorem RdNats.more {w : World} {B B' : Nat} {A : Option Addr} {ms : List (List Nat)} (h : RdNats w B A ms) (hB : B ≤ B') : RdNats w B' A ms := fun h0 => by
  obtain ⟨b, off, e2, hb, hall⟩ := h h0
  refine ⟨b, off, e2, by omega, fun j hj => ?_⟩
  obtain ⟨v, h1, h2⟩ := hall j hj
  exact ⟨v, h1, h2.more hB⟩
/-- The first so many steps show their numbers; these are what was shown. -/
structure CheckMid (cs : List CStep) (j : Nat) (la : List Nat) : Prop where
  cert : CertOk [] (cs.take j)
  shown : la = (cs.take j).map CStep.P
theorem CheckMid.start (cs : List CStep) : CheckMid cs 0 [] := ⟨trivial, rfl⟩
theorem CheckMid.prm {cs : List CStep} {j : Nat} {la : List Nat} (h : CheckMid cs j la) : ∀ a ∈ la, Prm a := fun a ha => by
  rw [h.shown] at ha
  obtain ⟨s, hs, rfl⟩ := List.mem_map.1 ha
  exact certOk_prm _ _ h.cert s hs
theorem CheckMid.take {cs : List CStep} {j : Nat} {la : List Nat} (h : CheckMid cs j la) (hj : j < cs.length) : CertOk [] (cs.take (j + 1)) ↔ StepOk cs[j] la := by
  rw [List.take_succ_eq_append_getElem hj, certOk_append, List.nil_append, ← h.shown]
  exact ⟨fun k => k.2.1, fun k => ⟨h.cert, k, trivial⟩⟩
theorem CheckMid.next {cs : List CStep} {j : Nat} {la : List Nat} (h : CheckMid cs j la) (hj : j < cs.length) (hs : StepOk cs[j] la) : CheckMid cs (j + 1) (la ++ [cs[j].P]) :=
  ⟨(h.take hj).2 hs, by rw [List.take_succ_eq_append_getElem hj, List.map_append, ← h.shown]; rfl⟩
theorem CheckMid.done {b : Bool} {p : Nat} {cs : List CStep} (hb : CheckFlag b p cs) {la : List Nat} (h : CheckMid cs cs.length la) {m : Nat} (hm : cs.length = m + 1) : b = decide (nth la m = p) := by
  have hc := h.cert
  have hs := h.shown
  rw [List.take_length] at hc hs
  have hl : m < cs.length := by omega
  have e : cs = cs.take m ++ [cs[m]] := by
    rw [← List.take_succ_eq_append_getElem hl, List.take_of_length_le (by omega)]
  have hn : nth la m = cs[m].P := by
    rw [nth_eq la m (by rw [hs, List.length_map]; exact hl)]
    simp [hs]
  rw [Bool.eq_iff_iff, decide_eq_true_eq, hn]
  constructor
  · intro hq
    rcases hb.1 hq with ⟨h1, _⟩ | ⟨r, s, h1, h2, _⟩
    · rw [h1] at hl; cases hl
    · rw [e] at h1
      have h3 := (List.append_inj' h1 rfl).2
      injection h3 with h3 _
      rw [h3]; exact h2
  · intro hq
    exact hb.2 (.inr ⟨_, _, e, hq, hc⟩)
theorem CheckFlag.empty {b : Bool} {p : Nat} (hb : CheckFlag b p []) : b = true ↔ (p < 65536 ∧ Prm p) := by
  refine hb.trans ⟨?_, fun h => .inl ⟨rfl, h.1, h.2⟩⟩
  rintro (⟨_, h1, h2⟩ | ⟨r, s, h1, _⟩)
  · exact ⟨h1, h2⟩
  · have := congrArg List.length h1; simp at this
end Go.Proofs.YtjpfcdgaepdcdaaGreat
/- The laws' few, chapter 11: may steps be gone through? No condition but those typed. -/
namespace Go.Proofs.YtjpfcdgaepdcdaaGreat
open Go.RowKit
set_option maxRecDepth 20000
/-- A step whose parts are short. -/
def FewOne (s : SRaw) : Prop := s.Q.length ≤ 40 ∧ s.P.length ≤ 40 ∧ s.G.length ≤ 40 ∧ ∀ q ∈ s.Q, q.length ≤ 40
def FewAll (ss : List SRaw) : Prop := ss.length ≤ 30 ∧ ∀ s ∈ ss, FewOne s
def FewFlag (b : Bool) (ss : List SRaw) : Prop := b = true ↔ FewAll ss
def FewMid (ss : List SRaw) (j : Nat) : Prop := ∀ i (hi : i < ss.length), i < j → FewOne ss[i]
theorem FewMid.next {ss : List SRaw} {j : Nat} (h : FewMid ss j) (hj : j < ss.length) (hn : FewOne ss[j]) : FewMid ss (j + 1) := fun i hi hlt => by
  rcases Nat.lt_succ_iff_lt_or_eq.1 hlt with h1 | rfl
  · exact h i hi h1
  · exact hn
theorem FewMid.done {b : Bool} {ss : List SRaw} (h : FewFlag b ss) (h30 : ss.length ≤ 30) (k : FewMid ss ss.length) : b = true := h.2 ⟨h30, fun s hs => by
  obtain ⟨i, hi, rfl⟩ := List.mem_iff_getElem.1 hs
  exact k i hi hi⟩
end Go.Proofs.YtjpfcdgaepdcdaaGreat
/- pratt's small functions, walked: fits, isKnown, name; and the map of what was shown. Conditions: as typed. -/
namespace Go.Proofs.YtjpfcdgaepdcdaaGreat
open Go.RowKit
open Go.Maps (Keyed string_keyed)
set_option maxRecDepth 20000
/-- A step whose numbers may be, and are short enough. -/
def OkNat (l : List Nat) : Prop := l = wd (natOf l) ∧ nbits (natOf l) ≤ 1024
def OkRaw (s : SRaw) : Prop := OkNat s.P ∧ OkNat s.G ∧ ∀ q ∈ s.Q, OkNat q
/-- A step's numbers. -/
def toN (s : SRaw) : CStep := ⟨natOf s.P, natOf s.G, s.Q.map natOf⟩
/-- What Check answers of any words. -/
def CheckW (lp : List Nat) (ss : List SRaw) : Prop := OkNat lp ∧ (∀ s ∈ ss, OkRaw s) ∧ CheckN (natOf lp) (ss.map toN)
/-- Short words: what a law lets in. -/
theorem RdNat.in11 {w : World} {v : Value} {l : List Nat} (h : RdNat w w.heap.size v l) (hl : l.length ≤ 40) : ∃ A c, v = .slice A l.length c ∧ NatIn w A l.length c (natOf l) := by
  obtain ⟨A, c, e, hr, hc, hw, _⟩ := h
  exact ⟨A, c, e, l, rfl, rfl, hw, by omega, hr, hc⟩
theorem RdNat.is11 {w : World} {v : Value} {l : List Nat} (h : RdNat w w.heap.size v l) (hl : l.length ≤ 40) (ho : OkNat l) : ∃ A c, v = .slice A l.length c ∧ NatIs w A l.length c (natOf l) := by
  obtain ⟨A, c, e, hr, hc, hw, _⟩ := h
  exact ⟨A, c, e, by rw [← ho.1], by omega, by rw [← ho.1]; exact hr, hc⟩
theorem RdNat.step11 {w w' : World} {v : Value} {l : List Nat} (h : RdNat w w.heap.size v l) (b : Below w.heap.size w w') : RdNat w' w'.heap.size v l := by
  obtain ⟨A, c, e, hr, hc, hw, hl⟩ := h
  exact ⟨A, c, e, rd_step hr b, hc, hw, hl⟩
theorem RdNats.step11 {w w' : World} {A : Option Addr} {ms : List (List Nat)} (h : RdNats w w.heap.size A ms) (b : Below w.heap.size w w') : RdNats w' w'.heap.size A ms := fun h0 => by
  obtain ⟨g, off, e, hg, hall⟩ := h h0
  refine ⟨g, off, e, Nat.lt_of_lt_of_le hg b.size, fun j hj => ?_⟩
  obtain ⟨v, h1, h2⟩ := hall j hj
  exact ⟨v, (b.cell (p := ⟨g, off + j, none⟩) hg).trans h1, h2.step11 b⟩
theorem RdSteps.step11 {w w' : World} {A : Option Addr} {ss : List SRaw} (h : RdSteps w w.heap.size A ss) (b : Below w.heap.size w w') : RdSteps w' w'.heap.size A ss := fun h0 => by
  obtain ⟨g, off, e, hg, hall⟩ := h h0
  refine ⟨g, off, e, Nat.lt_of_lt_of_le hg b.size, fun j hj => ?_⟩
  obtain ⟨vP, vG, vQ, h1, h2, h3, h4, h5, h6⟩ := hall j hj
  obtain ⟨AQ, cQ, e2, h7, h8, h9⟩ := h6
  exact ⟨vP, vG, vQ, (b.cell (p := ⟨g, off + j * 3, none⟩) hg).trans h1, (b.cell (p := ⟨g, off + j * 3 + 1, none⟩) hg).trans h2, (b.cell (p := ⟨g, off + j * 3 + 2, none⟩) hg).trans h3, h4.step11 b, h5.step11 b, AQ, cQ, e2, h7.step11 b, h8, h9⟩
theorem Drawn.below11 {w w' : World} (h : Drawn w w') : Below w.heap.size w w' := by
  obtain ⟨k, rfl⟩ := h
  exact ⟨rfl, rfl, rfl, Nat.le_refl _, fun _ _ => rfl⟩
theorem some_flag11 (p : Prop) : ∃ b : Bool, b = true ↔ p := by
  by_cases h : p
  · exact ⟨true, by simpa using h⟩
  · exact ⟨false, by simpa using h⟩
theorem RdQ.step11 {w w' : World} {v : Value} {ms : List (List Nat)} (h : RdQ w w.heap.size v ms) (b : Below w.heap.size w w') : RdQ w' w'.heap.size v ms := by
  obtain ⟨A, c, e, h1, h2, h3⟩ := h
  exact ⟨A, c, e, h1.step11 b, h2, h3⟩
/-! A set of keys -/
/-- Block b is a map that holds true at just the keys of S. -/
def SetAt (P : Program) (w : World) (k e : TypeId) (b n : Nat) (S : Lit → Prop) : Prop :=
  ∃ D : DataW Unit, w.ownsMap P k (plainElem P e) b n D ∧ ∀ kl, D.atKey kl (.lit (.bool false)) = .lit (.bool true) ↔ S kl
section
variable {P : Program} {w w' : World} {k e t : TypeId} {b n : Nat} {S : Lit → Prop}
theorem SetAt.made (w : World) (P : Program) (k e : TypeId) : SetAt P (w.alloc (.map #[] 0)) k e w.heap.size 0 fun _ => False :=
  ⟨_, World.ownsMap_made _ _ _ _, fun kl => by simp [DataW.atKey]⟩
theorem SetAt.lt (h : SetAt P w k e b n S) : b < w.heap.size := by
  obtain ⟨D, h, _⟩ := h
  exact h.lt
theorem SetAt.kept {row : Option Nat} (h : SetAt P w k e b n S) (hg : w.grownBy w' row) (hne : some b ≠ row) : SetAt P w' k e b n S := by
  obtain ⟨D, h1, h2⟩ := h
  exact ⟨D, h1.kept hg hne, h2⟩
theorem SetAt.below (h : SetAt P w k e b n S) (hb : Below w.heap.size w w') : SetAt P w' k e b n S :=
  h.kept (row := none) ⟨hb.os, hb.tape, hb.output, hb.size, fun i hi _ => hb.block i hi⟩ (by simp)
theorem SetAt.same (h : SetAt P w k e b n S) {S' : Lit → Prop} (hs : ∀ kl, S kl ↔ S' kl) : SetAt P w k e b n S' := by
  obtain ⟨D, h1, h2⟩ := h
  exact ⟨D, h1, fun kl => (h2 kl).trans (hs kl)⟩
theorem plainElem_bool_inv (he : P.underlying e = some .bool) {v : Value} {z : DataW Unit × List MemPlace} (h : plainElem P e v = some z) : ∃ x, v = .bool x ∧ z.1 = .lit (.bool x) := by
  unfold plainElem at h
  rw [he] at h
  cases v <;> simp at h
  subst h
  exact ⟨_, rfl, rfl⟩
theorem SetAt.look (h : SetAt P w k e b n S) (K : Keyed P k) (ht : P.underlying t = some (.map k e)) (he : P.underlying e = some .bool) (hz : (zeroValue e).run P w = .ok (.bool false) w) {key : Value} {kl : Lit} (hkey : keyOf P k key = some kl) (x : Bool) (hx : x = true ↔ S kl) :
    (Instr.lookup t (.map (some b)) key false).run P w = .ok (.bool x) w := by
  obtain ⟨D, h1, h2⟩ := h
  obtain ⟨v, ps, hrun, hv⟩ := h1.lookup K ht hz (plainElem_bool he false) hkey
  obtain ⟨y, rfl, hy⟩ := plainElem_bool_inv he hv
  have : x = y := by
    rw [Bool.eq_iff_iff, hx, ← h2 kl]
    simp only at hy
    rw [hy]
    simp
  rw [hrun, this]
theorem SetAt.put (h : SetAt P w k e b n S) (K : Keyed P k) (ht : P.underlying t = some (.map k e)) (he : P.underlying e = some .bool) (hn : n < maxLen) {key : Value} {kl : Lit} (hkey : keyOf P k key = some kl) :
    ∃ w', (Instr.mapUpdate t (.map (some b)) key (.bool true)).run P w = .ok () w' ∧ SetAt P w' k e b (n + 1) (fun x => x = kl ∨ S x) ∧ w.grownBy w' (some b) := by
  obtain ⟨D, h1, h2⟩ := h
  obtain ⟨w', hrun, h3, h4⟩ := h1.update K ht hn hkey (plainElem_bool he true)
  refine ⟨w', hrun, ⟨_, h3, fun x => ?_⟩, h4⟩
  by_cases hx : x = kl
  · subst hx
    rw [Maps.atKey_put_same h1.isMap (K.key hkey)]
    simp
  · rw [Maps.atKey_put_other hx, h2 x]
    simp [hx]
end
/-! A number's name -/
def keyN (n : Nat) : Lit := .string (numS n).data.toList
theorem be_back11 (l : List Nat) (h : Bytes l) : (l.map UInt8.ofNat).map UInt8.toNat = l := by
  rw [List.map_map]
  conv => rhs; rw [← List.map_id l]
  exact List.map_congr_left fun x hx => by
    have := h x hx
    simp
    omega
theorem keyN_inj {m n : Nat} (h : keyN m = keyN n) : m = n := by
  unfold keyN numS str at h
  injection h with h
  simp only at h
  have h1 := congrArg (List.map UInt8.toNat) h
  rw [be_back11 _ (be_bytes _ _), be_back11 _ (be_bytes _ _)] at h1
  have h2 := congrArg val h1
  rw [val_be, val_be, Nat.mod_eq_of_lt (blen_lt _), Nat.mod_eq_of_lt (blen_lt _)] at h2
  exact h2
theorem numS_size {n : Nat} (h : nbits n ≤ 1024) : (numS n).size ≤ maxLen := by
  have h1 := nbits_blen n
  have : (numS n).size = blen n := by
    unfold numS str
    show ((be (blen n) n).map UInt8.ofNat).toArray.size = _
    simp [length_be]
  rw [this]
  unfold maxLen
  omega
/-- The map of numbers that were shown. -/
def ShownAt (w : World) (b n : Nat) (la : List Nat) : Prop := SetAt Tryz.prog w 9 4 b n fun kl => ∃ m ∈ la, kl = keyN m
theorem shown_key {la : List Nat} {m : Nat} : (∃ x ∈ la, keyN m = keyN x) ↔ m ∈ la :=
  ⟨fun ⟨x, hx, e⟩ => by rw [keyN_inj e]; exact hx, fun h => ⟨m, h, rfl⟩⟩
theorem key_of11 {m : Nat} (h : nbits m ≤ 1024) : keyOf Tryz.prog 9 (.string (numS m)) = some (keyN m) := Go.WideMaps.keyOf_string_mk Tryz.underlying9 (numS_size h)
theorem ShownAt.look {w : World} {b n : Nat} {la : List Nat} (h : ShownAt w b n la) {m : Nat} (hm : nbits m ≤ 1024) (x : Bool) (hx : x = true ↔ m ∈ la) :
    (Instr.lookup 50 (.map (some b)) (.string (numS m)) false).run Tryz.prog w = .ok (.bool x) w :=
  SetAt.look h (string_keyed Tryz.underlying9) Tryz.underlying50 Tryz.underlying4 (by kernel_rfl) (key_of11 hm) x (hx.trans shown_key.symm)
theorem ShownAt.put {w : World} {b n : Nat} {la : List Nat} (h : ShownAt w b n la) (hn : n < maxLen) {m : Nat} (hm : nbits m ≤ 1024) :
    ∃ w', (Instr.mapUpdate 50 (.map (some b)) (.string (numS m)) (.bool true)).run Tryz.prog w = .ok () w' ∧ ShownAt w' b (n + 1) (la ++ [m]) ∧ w.grownBy w' (some b) := by
  obtain ⟨w', h1, h2, h3⟩ := SetAt.put h (string_keyed Tryz.underlying9) Tryz.underlying50 Tryz.underlying4 hn (key_of11 hm)
  refine ⟨w', h1, h2.same fun kl => ?_, h3⟩
  constructor
  · rintro (rfl | ⟨x, hx, rfl⟩)
    · exact ⟨m, by simp, rfl⟩
    · exact ⟨x, List.mem_append_left _ hx, rfl⟩
  · rintro ⟨x, hx, rfl⟩
    rcases List.mem_append.1 hx with h4 | h4
    · exact .inr ⟨x, h4, rfl⟩
    · exact .inl (by rw [List.mem_singleton.1 h4])
theorem ShownAt.below {w w' : World} {b n : Nat} {la : List Nat} (h : ShownAt w b n la) (hb : Below w.heap.size w w') : ShownAt w' b n la := SetAt.below h hb
/-! fits, isKnown, name -/
theorem fits11 {w : World} {v : Value} {l : List Nat} (h : RdNat w w.heap.size v l) (hl : l.length ≤ 40) (b : Bool) (hb : b = true ↔ OkNat l) :
    Calls Tryz.prog 23 #[v] w fun e w' => e = .returned (.bool b) ∧ Below w.heap.size w w' := by
  obtain ⟨A, c, rfl, hr, hc, hw, _⟩ := h
  have HR := Lib.hid hr
  have HC1 := natMay_any A c l w hr hw (by omega) hc
  obtain ⟨t, ht⟩ : ∃ t, nbits (natOf l) = t := ⟨_, rfl⟩
  by_cases hm : l = wd (natOf l)
  · rw [decide_eq_true hm] at HC1
    have C1 := Lib.hid HC1
    have C2 := Lib.hid fun (u : World) (hu : Rd .u64 u u.heap.size A l) => natBits_any A c l u hu hw (by omega) hc
    rw [ht] at C2
    have hbd : decide ((t : Int) ≤ 1024) = b := by
      rw [Bool.eq_iff_iff, decide_eq_true_eq, hb]
      unfold OkNat
      rw [ht]
      exact ⟨fun h => ⟨hm, by omega⟩, fun h => by have := h.2; omega⟩
    obtain ⟨q, hq⟩ : ∃ q, l.length = q := ⟨_, rfl⟩
    rw [hq] at C1 C2 ⊢
    clear HC1 hm hb hr hw hc hl hq ht
    go_enter Tryz.func23, Tryz.ntmps23
    go_wp2_with fail
    refine (C1.out).mono ?_
    rintro e w1 ⟨rfl, b1⟩
    have B1 := Lib.hid b1
    have R1 := rd_step HR.out b1
    clear b1
    go_wp2_with fail
    refine (C2.out w1 R1).mono ?_
    rintro e w2 ⟨rfl, b2⟩
    have B2 := Lib.hid (below_step B1.out b2)
    clear b2 R1
    go_wp2_with fail
    go_ret
    exact ⟨rfl, B2.out⟩
  · rw [decide_eq_false hm] at HC1
    have C1 := Lib.hid HC1
    obtain rfl : b = false := by
      cases hq : b with
      | false => rfl
      | true => exact absurd (hb.1 hq).1 hm
    obtain ⟨q, hq⟩ : ∃ q, l.length = q := ⟨_, rfl⟩
    rw [hq] at C1 ⊢
    clear HC1 hm hb hr hw hc hl hq ht
    go_enter Tryz.func23, Tryz.ntmps23
    go_wp2_with fail
    refine (C1.out).mono ?_
    rintro e w1 ⟨rfl, b1⟩
    have B1 := Lib.hid b1
    clear b1
    go_wp2_with fail
    go_ret
    exact ⟨rfl, B1.out⟩
theorem smallV_word {n : Nat} (h : n < 18446744073709551616) : smallV n = (n : Int) ∧ smallB n = true := ⟨by unfold smallV; rw [if_pos h], by unfold smallB; exact decide_eq_true h⟩
theorem isKnown11 {w : World} {v : Value} {l : List Nat} (h : RdNat w w.heap.size v l) (hl : l.length ≤ 40) (b : Bool) (hb : b = true ↔ (natOf l < 65536 ∧ Prm (natOf l))) :
    Calls Tryz.prog 20 #[v] w fun e w' => e = .returned (.bool b) ∧ Below w.heap.size w w' := by
  obtain ⟨A, c, rfl, hr, hc, hw, _⟩ := h
  have HC1 := natSmall_any A c l w hr hw (by omega) hc
  obtain ⟨n, hn⟩ : ∃ n, natOf l = n := ⟨_, rfl⟩
  obtain ⟨q, hq⟩ : ∃ q, l.length = q := ⟨_, rfl⟩
  rw [hn] at hb HC1
  rw [hq] at HC1 ⊢
  by_cases h64 : n < 18446744073709551616
  · rw [(smallV_word h64).1, (smallV_word h64).2] at HC1
    have C1 := Lib.hid HC1
    by_cases h16 : n < 65536
    · have g : decide ((n : Int) ≤ 65535) = true := by simp; omega
      have C2 := Lib.hid fun u => primeIs_any n (by omega) b (hb.trans ⟨fun h => h.2, fun h => ⟨h16, h⟩⟩) u trivial
      clear HC1 hb hr hw hc hl hq hn
      go_enter Tryz.func20, Tryz.ntmps20
      go_wp2_with fail
      refine (C1.out).mono ?_
      rintro e w1 ⟨rfl, b1⟩
      have B1 := Lib.hid b1
      clear b1
      go_wp2_with fail
      refine (C2.out w1).mono ?_
      rintro e w2 ⟨rfl, b2⟩
      have B2 := Lib.hid (below_step B1.out b2)
      clear b2
      go_wp2_with fail
      go_ret
      exact ⟨rfl, B2.out⟩
    · have g : decide ((n : Int) ≤ 65535) = false := by simp; omega
      obtain rfl : b = false := by
        cases hq : b with
        | false => rfl
        | true => exact absurd (hb.1 hq).1 h16
      clear HC1 hb hr hw hc hl hq hn h16
      go_enter Tryz.func20, Tryz.ntmps20
      go_wp2_with fail
      refine (C1.out).mono ?_
      rintro e w1 ⟨rfl, b1⟩
      have B1 := Lib.hid b1
      clear b1
      go_wp2_with fail
      go_ret
      exact ⟨rfl, B1.out⟩
  · have hsb : smallB n = false := by unfold smallB; exact decide_eq_false h64
    obtain ⟨V, hV⟩ : ∃ V, smallV n = V := ⟨_, rfl⟩
    rw [hsb, hV] at HC1
    have C1 := Lib.hid HC1
    obtain rfl : b = false := by
      cases hq : b with
      | false => rfl
      | true => have := (hb.1 hq).1; omega
    clear HC1 hb hr hw hc hl hq hn h64 hsb hV
    go_enter Tryz.func20, Tryz.ntmps20
    go_wp2_with fail
    refine (C1.out).mono ?_
    rintro e w1 ⟨rfl, b1⟩
    have B1 := Lib.hid b1
    clear b1
    go_wp2_with fail
    go_ret
    exact ⟨rfl, B1.out⟩
theorem name11 {w : World} {v : Value} {l : List Nat} (h : RdNat w w.heap.size v l) (hl : l.length ≤ 40) :
    Calls Tryz.prog 24 #[v] w fun e w' => e = .returned (.string (numS (natOf l))) ∧ Below w.heap.size w w' := by
  obtain ⟨A, c, rfl, hI⟩ := h.in11 hl
  have C1 := Lib.hid (bNB hI (by omega))
  obtain ⟨q, hq⟩ : ∃ q, l.length = q := ⟨_, rfl⟩
  rw [hq] at C1 ⊢
  clear hq hI hl h
  go_enter Tryz.func24, Tryz.ntmps24
  go_wp2_with fail
  refine (C1.out).mono ?_
  rintro e w1 ⟨X, n, d, rfl, hB, b1⟩
  have hs := hB.str (c := d)
  have B1 := Lib.hid b1
  clear b1 hB
  go_wp2_with fail
  go_ret
  exact ⟨rfl, B1.out⟩
end Go.Proofs.YtjpfcdgaepdcdaaGreat
/- pratt's without and isProduct, walked. Conditions: as typed (numbers of at most 1024 bits; primes). -/
namespace Go.Proofs.YtjpfcdgaepdcdaaGreat
open Go.RowKit
set_option maxRecDepth 20000
section
variable {w : World} {A A2 : Option Addr} {n m c c2 M N : Nat}
theorem NatIs.len11 (S : NatIs w A n c M) (h : nbits M ≤ 1024) : n ≤ 16 := by have := S.1; rw [length_wd] at this; omega
theorem NatIs.none11 (S : NatIs w A n c 0) : n = 0 := by have := S.1; rw [length_wd, nbits_zero] at this; omega
theorem NatIs.some11 (S : NatIs w A n c M) (h : M ≠ 0) : 0 < n := by
  have h1 := (nbits_iff M).2 h
  have := S.1
  rw [length_wd] at this
  omega
theorem cmp_same11 (h : NatIn w A n c M) (k : NatIn w A2 m c2 N) (e : M = N) : Calls Tryz.prog 21 #[.slice A n c, .slice A2 m c2] w fun e w' => e = .returned (.int .i64 0) ∧ Below w.heap.size w w' := by
  have h := bCmp h k
  rwa [show cmpS M N = 0 by unfold cmpS; rw [if_neg (by omega), if_neg (by omega)]] at h
theorem cmp_below11 (h : NatIn w A n c M) (k : NatIn w A2 m c2 N) (e : M < N) : Calls Tryz.prog 21 #[.slice A n c, .slice A2 m c2] w fun e w' => e = .returned (.int .i64 (-1)) ∧ Below w.heap.size w w' := by
  have h := bCmp h k
  rwa [show cmpS M N = -1 by unfold cmpS; rw [if_pos e]] at h
theorem cmp_above11 (h : NatIn w A n c M) (k : NatIn w A2 m c2 N) (e : N < M) : Calls Tryz.prog 21 #[.slice A n c, .slice A2 m c2] w fun e w' => e = .returned (.int .i64 1) ∧ Below w.heap.size w w' := by
  have h := bCmp h k
  rwa [show cmpS M N = 1 by unfold cmpS; rw [if_neg (by omega), if_pos e]] at h
theorem bDiv_is11 (V R : Nat) (h : NatIn w A n c M) (k : NatIn w A2 m c2 N) (hV : M / N = V) (hR : M % N = R) (h0 : N ≠ 0) (hs : n ≤ 10000) (hs2 : m ≤ 10000) : Calls Tryz.prog 64 #[.slice A n c, .slice A2 m c2] w fun e w' =>
    ∃ X q d Y r f, e = .returned (.tuple #[.slice X q d, .slice Y r f, .int .i64 0]) ∧ NatIs w' X q d V ∧ NatIs w' Y r f R ∧ Below w.heap.size w w' := by
  subst hV hR
  exact bDiv_ok h k h0 hs hs2
end
/-- Between two divisions by q, what was begun with in view. -/
def Lost (a q m : Nat) : Prop := m = a ∨ (q ∣ a ∧ m < a)
theorem Lost.take {a q m : Nat} (h : Lost a q m) (hm : 0 < m) (hq : 2 ≤ q) (hd : q ∣ m) : Lost a q (m / q) := by
  have h1 : m / q < m := Nat.div_lt_self hm hq
  rcases h with rfl | ⟨h2, h3⟩
  · exact .inr ⟨hd, h1⟩
  · exact .inr ⟨h2, by omega⟩
theorem Lost.done {a q m : Nat} (h : Lost a q m) (hn : ¬ q ∣ m) : m ≤ a ∧ (m = a ↔ ¬ q ∣ a) := by
  rcases h with rfl | ⟨h2, h3⟩
  · exact ⟨Nat.le_refl _, fun _ => hn, fun _ => rfl⟩
  · exact ⟨by omega, fun h => by omega, fun h => absurd h2 h⟩
theorem Stripping.left11 {n : Nat} {Q : List Nat} {q m : Nat} (h : Stripping n Q q m) (hn : ¬ q ∣ m) : Stripped n (Q ++ [q]) m := h.done fun h1 => hn (Nat.dvd_of_mod_eq_zero h1)
set_option maxHeartbeats 4000000 in
theorem without11 {w : World} {X Y : Option Addr} {n d m f a q N : Nat} {Q : List Nat} (S : NatIs w X n d a) (T : NatIs w Y m f q) (ha : nbits a ≤ 1024) (hql : nbits q ≤ 1024) (hq : Prm q) (hS : Stripped N Q a) :
    Calls Tryz.prog 74 #[.slice X n d, .slice Y m f] w fun e w' => ∃ Z k g b, e = .returned (.slice Z k g) ∧ NatIs w' Z k g b ∧ Stripped N (Q ++ [q]) b ∧ b ≤ a ∧ (b = a ↔ ¬ q ∣ a) ∧ Below w.heap.size w w' := by
  have hq2 := hq.1
  have HQ := Lib.hid hq
  have hm16 := T.len11 hql
  have HS := Lib.hid S
  have HT := Lib.hid T
  have HST := Lib.hid (hS.next q)
  have HA := Lib.hid ha
  have HD := Lib.hid fun (u : World) (Z : Option Addr) (k g b V R : Nat) (h1 : Hid (NatIs u Z k g b)) (h2 : Hid (NatIs u Y m f q)) (h3 : k ≤ 10000) (hV : b / q = V) (hR : b % q = R) => bDiv_is11 V R h1.out.in_ h2.out.in_ hV hR (by omega) h3 (by omega)
  clear S T hS ha hql hq
  go_enter Tryz.func74, Tryz.ntmps74
  go_wp2_with fail
  go_loopg [0] a (fun gk av wr => ∃ (b : Nat) (Z : Option Addr) (k g : Nat), av = .slice Z k g ∧ b ≤ gk ∧ b ≤ a ∧ Hid (NatIs wr Z k g b) ∧ Hid (NatIs wr Y m f q) ∧ Hid (Stripping N Q q b) ∧ Hid (Lost a q b) ∧ Hid (Below w.heap.size w wr))
  case atStart => exact ⟨a, X, n, d, rfl, Nat.le_refl _, Nat.le_refl _, HS, HT, HST, Lib.hid (.inl rfl), Lib.hid (Below.refl _ _)⟩
  case round =>
    clear HS HT HST
    obtain ⟨b, Z, k, g, rfl, hbk, hba, HS, HT, HST, HL, HB⟩ := hrel
    have hk16 := HS.out.len11 (Nat.le_trans (nbits_mono hba) HA.out)
    by_cases hd : q ∣ b
    · have hz : b % q = 0 := Nat.mod_eq_zero_of_dvd hd
      have HST2 := Lib.hid (HST.out.take HQ.out hz)
      have HL2 := Lib.hid (HL.out.take HST.out.pos hq2 hd)
      have hlt : b / q < b := Nat.div_lt_self HST.out.pos hq2
      obtain ⟨b2, hb2⟩ : ∃ b2, b / q = b2 := ⟨_, rfl⟩
      have C1 := Lib.hid (HD.out wr Z k g b b2 0 HS HT (by omega) hb2 hz)
      rw [hb2] at HST2 HL2 hlt
      clear hb2 hd hz
      go_wp2_with fail
      refine (C1.out).mono ?_
      rintro e w1 ⟨Z1, k1, g1, Y1, r1, f1, rfl, S1, T1, b1⟩
      obtain rfl := T1.none11
      have HS1 := Lib.hid S1
      have HT1 := Lib.hid (HT.out.step b1)
      have HB1 := Lib.hid (below_step HB.out b1)
      clear S1 T1 b1
      go_wp2_with fail
      go_roundg b2
      case rel => exact ⟨b2, Z1, k1, g1, rfl, Nat.le_refl _, by omega, HS1, HT1, HST2, HL2, HB1⟩
      case measure => omega
    · have hz : b % q ≠ 0 := fun h => hd (Nat.dvd_of_mod_eq_zero h)
      have HDn := Lib.hid (HL.out.done hd)
      have HST2 := Lib.hid (HST.out.left11 hd)
      obtain ⟨b2, hb2⟩ : ∃ b2, b / q = b2 := ⟨_, rfl⟩
      obtain ⟨r2, hr2⟩ : ∃ r2, b % q = r2 := ⟨_, rfl⟩
      have C1 := Lib.hid (HD.out wr Z k g b b2 r2 HS HT (by omega) hb2 hr2)
      rw [hr2] at hz
      clear hb2 hr2
      clear hd
      go_wp2_with fail
      refine (C1.out).mono ?_
      rintro e w1 ⟨Z1, k1, g1, Y1, r1, f1, rfl, S1, T1, b1⟩
      have hr1 := T1.some11 hz
      have HS1 := Lib.hid (HS.out.step b1)
      have HB1 := Lib.hid (below_step HB.out b1)
      clear S1 T1 b1 hz
      go_wp2_with fail
      go_ret
      exact ⟨Z, k, g, b, rfl, HS1.out, HST2.out, HDn.out.1, HDn.out.2, HB1.out⟩
/-- Numbers of a step: each may be, and is a prime; they rise. -/
structure Rising (ms : List (List Nat)) : Prop where
  ok : ∀ q ∈ ms, OkNat q
  short : ∀ q ∈ ms, q.length ≤ 40
  prm : ∀ q ∈ ms, Prm (natOf q)
  rise : (ms.map natOf).Pairwise (· < ·)
theorem RdQ.at11 {w : World} {A : Option Addr} {n c : Nat} {ms : List (List Nat)} (h : RdQ w w.heap.size (.slice A n c) ms) {j : Nat} (hj : j < ms.length) : ∃ g o x, A = some ⟨g, o, none⟩ ∧ g < w.heap.size ∧ w.cell? ⟨g, o + j, none⟩ = some x ∧ RdNat w w.heap.size x ms[j] := by
  obtain ⟨A, d, e, h1, h2, _⟩ := h
  injection e with e _ _
  subst e
  obtain ⟨g, o, rfl, hg, hall⟩ := h1 (by omega)
  obtain ⟨x, h3, h4⟩ := hall j hj
  exact ⟨g, o, x, rfl, hg, h3, h4⟩
/-- What a product of powers of the numbers says. -/
def IsProd (N : Nat) (Q : List Nat) : Prop := (∀ q ∈ Q, q ∣ N) ∧ ∀ r, Prm r → r ∣ N → r ∈ Q
theorem take_next11 {l : List Nat} {j : Nat} (h : j < l.length) : l.take (j + 1) = l.take j ++ [l[j]] := List.take_succ_eq_append_getElem h
theorem not_before11 {l : List Nat} (hr : l.Pairwise (· < ·)) {j : Nat} (h : j < l.length) : l[j] ∉ l.take j := fun hm => by
  rw [← List.take_append_drop j l] at hr
  have hd : l[j] ∈ l.drop j := List.mem_drop_iff_getElem.2 ⟨0, by omega, by simp⟩
  have := (List.pairwise_append.1 hr).2.2 _ hm _ hd
  omega
theorem IsProd.no11 {b : Bool} {N a : Nat} {Q : List Nat} (hb : b = true ↔ IsProd N Q) (hQ : ∀ q ∈ Q, Prm q) (hr : Q.Pairwise (· < ·)) {j : Nat} (h : j < Q.length) (hS : Stripped N (Q.take j) a) (hn : ¬ Q[j] ∣ a) : b = false := by
  cases hq : b with
  | false => rfl
  | true =>
    exfalso
    have hm : Q[j] ∈ Q := List.getElem_mem h
    rcases hS.all _ (hQ _ hm) ((hb.1 hq).1 _ hm) with h1 | h1
    · exact hn h1
    · exact not_before11 hr h h1
/-- Those that were taken out go into it. -/
def Into (N : Nat) (Q : List Nat) (j : Nat) : Prop := ∀ q ∈ Q.take j, q ∣ N
theorem Into.next {N a : Nat} {Q : List Nat} {j : Nat} (k : Into N Q j) (h : j < Q.length) (hS : Stripped N (Q.take j) a) (hd : Q[j] ∣ a) : Into N Q (j + 1) := fun q hq => by
  rw [take_next11 h] at hq
  rcases List.mem_append.1 hq with h1 | h1
  · exact k q h1
  · rw [List.mem_singleton.1 h1]; exact Nat.dvd_trans hd hS.dvd
theorem IsProd.end11 {b : Bool} {N a : Nat} {Q : List Nat} (hb : b = true ↔ IsProd N Q) (k : Into N Q Q.length) (hS : Stripped N (Q.take Q.length) a) : b = true ↔ a = 1 := by
  unfold Into at k
  rw [List.take_length] at hS k
  rw [hb, hS.one]
  exact ⟨fun h => h.2, fun h => ⟨k, h⟩⟩
set_option maxHeartbeats 4000000 in
theorem isProduct11 {w : World} {X : Option Addr} {n d N : Nat} {v : Value} {ms : List (List Nat)} (S : NatIs w X n d N) (hN : 0 < N) (hN2 : nbits N ≤ 1024) (hQ : RdQ w w.heap.size v ms) (hR : Rising ms) (b : Bool) (hb : b = true ↔ IsProd N (ms.map natOf)) :
    Calls Tryz.prog 49 #[.slice X n d, v] w fun e w' => e = .returned (.bool b) ∧ Below w.heap.size w w' := by
  obtain ⟨Q, hQs⟩ : ∃ Q, ms.map natOf = Q := ⟨_, rfl⟩
  have hQl : Q.length = ms.length := by rw [← hQs, List.length_map]
  have hQp : ∀ q ∈ Q, Prm q := fun q hq => by
    rw [← hQs] at hq
    obtain ⟨x, hx, rfl⟩ := List.mem_map.1 hq
    exact hR.prm x hx
  have hQr : Q.Pairwise (· < ·) := by rw [← hQs]; exact hR.rise
  have hQg : ∀ j (h1 : j < Q.length) (h2 : j < ms.length), Q[j] = natOf ms[j] := fun j h1 h2 => by subst hQs; simp
  rw [hQs] at hb
  have HQP := Lib.hid hQp
  have HQR := Lib.hid hQr
  have HQG := Lib.hid hQg
  have HQL := Lib.hid hQl
  have HRi := Lib.hid hR
  have HBb := Lib.hid hb
  have HS := Lib.hid S
  have HN2 := Lib.hid hN2
  have HRQ := Lib.hid hQ
  have HI := Lib.hid (show Into N Q 0 from fun q hq => by simp at hq)
  have HST := Lib.hid (show Stripped N (Q.take 0) N from Stripped.start hN)
  have HO := Lib.hid fun u => bOf u 1 (by omega)
  obtain ⟨A, c, hv, _, hc, hl⟩ := hQ
  obtain ⟨m, hm⟩ : ∃ m, ms.length = m := ⟨_, rfl⟩
  have HM := Lib.hid hm
  rw [hm] at hv hc hl
  subst hv
  clear S hN2 hR hb hQs hQp hQr hQg hQl hm
  go_enter Tryz.func49, Tryz.ntmps49
  go_wp2_with fail
  go_loopw [0, 10] (fun av jv wr => ∃ (a j : Nat) (Z : Option Addr) (k g : Nat), av = .slice Z k g ∧ jv = .int .i64 j ∧ j ≤ m ∧ a ≤ N ∧ Hid (NatIs wr Z k g a) ∧ Hid (RdQ wr wr.heap.size (.slice A m c) ms) ∧ Hid (Stripped N (Q.take j) a) ∧ Hid (Into N Q j) ∧ Hid (Below w.heap.size w wr)) (fun _ jv _ => m - (intOf jv).toNat)
  case atStart => exact ⟨N, 0, X, n, d, rfl, rfl, Nat.zero_le _, Nat.le_refl _, HS, HRQ, HST, HI, Lib.hid (Below.refl _ _)⟩
  case round =>
    clear HS HRQ HST HI
    obtain ⟨a, j, Z, k, g, rfl, rfl, hj, haN, HS, HRQ, HST, HI, HB⟩ := hrel
    by_cases hlt : j < m
    · have hjm : j < ms.length := by rw [HM.out]; exact hlt
      have hjQ : j < Q.length := by rw [HQL.out]; exact hjm
      obtain ⟨gA, oA, x, hA, _, hx, hrx⟩ := HRQ.out.at11 hjm
      subst hA
      have hmem : ms[j] ∈ ms := List.getElem_mem hjm
      have hok := HRi.out.ok _ hmem
      obtain ⟨Y, f, rfl, T⟩ := hrx.is11 (HRi.out.short _ hmem) hok
      obtain ⟨r, hr⟩ : ∃ r, ms[j].length = r := ⟨_, rfl⟩
      obtain ⟨q, hq⟩ : ∃ q, natOf ms[j] = q := ⟨_, rfl⟩
      have hqp : Prm q := by rw [← hq]; exact HRi.out.prm _ hmem
      have hqe : Q[j] = q := by rw [← hq]; exact HQG.out j hjQ hjm
      have hql : nbits q ≤ 1024 := by rw [← hq]; exact hok.2
      rw [hr, hq] at T
      rw [hr] at hx
      have C1 := Lib.hid (without11 HS.out T (Nat.le_trans (nbits_mono haN) HN2.out) hql hqp HST.out)
      rw [← hqe, ← take_next11 hjQ, hqe] at C1
      by_cases hd : q ∣ a
      · have HI2 := Lib.hid (HI.out.next hjQ HST.out (by rw [hqe]; exact hd))
        have HDV := Lib.hid hd
        clear hd hqe hql hqp hok hq hr T hrx hmem
        go_wp2_with fail
        refine (C1.out).mono ?_
        rintro e w1 ⟨Z1, k1, g1, a1, rfl, S1, st1, le1, iff1, b1⟩
        have hlt1 : a1 < a := by
          rcases Nat.lt_or_eq_of_le le1 with h | h
          · exact h
          · exact absurd HDV.out (iff1.1 h)
        have C2 := Lib.hid (cmp_below11 S1.in_ (HS.out.step b1).in_ hlt1)
        have HS1 := Lib.hid S1
        have HB1 := Lib.hid (below_step HB.out b1)
        have HRQ1 := Lib.hid (HRQ.out.step11 b1)
        have HST1 := Lib.hid st1
        clear S1 st1 iff1 b1
        go_wp2_with fail
        refine (C2.out).mono ?_
        rintro e w2 ⟨rfl, b2⟩
        have HS2 := Lib.hid (HS1.out.step b2)
        have HB2 := Lib.hid (below_step HB1.out b2)
        have HRQ2 := Lib.hid (HRQ1.out.step11 b2)
        clear b2
        go_wp2_with fail
        go_roundw
        case rel => exact ⟨a1, j + 1, Z1, k1, g1, rfl, by go_num, by omega, by omega, HS2, HRQ2, HST1, HI2, HB2⟩
        case measure => simp [intOf]; omega
      · obtain rfl := IsProd.no11 HBb.out HQP.out HQR.out hjQ HST.out (by rw [hqe]; exact hd)
        have HDV := Lib.hid hd
        clear hd hqe hql hqp hok hq hr T hrx hmem
        go_wp2_with fail
        refine (C1.out).mono ?_
        rintro e w1 ⟨Z1, k1, g1, a1, rfl, S1, st1, le1, iff1, b1⟩
        have C2 := Lib.hid (cmp_same11 S1.in_ (HS.out.step b1).in_ (iff1.2 HDV.out))
        have HB1 := Lib.hid (below_step HB.out b1)
        clear S1 st1 iff1 b1 le1
        go_wp2_with fail
        refine (C2.out).mono ?_
        rintro e w2 ⟨rfl, b2⟩
        have HB2 := Lib.hid (below_step HB1.out b2)
        clear b2
        go_wp2_with fail
        go_ret
        exact ⟨rfl, HB2.out⟩
    · obtain rfl : j = m := by omega
      have hend := IsProd.end11 HBb.out (show Into N Q Q.length by rw [HQL.out, HM.out]; exact HI.out) (show Stripped N (Q.take Q.length) a by rw [HQL.out, HM.out]; exact HST.out)
      have hpos := HST.out.pos
      by_cases h1 : a = 1
      · obtain rfl : b = true := hend.2 h1
        have H1 := Lib.hid h1
        clear hend h1 hpos
        go_wp2_with fail
        refine (HO.out _).mono ?_
        rintro e w1 ⟨Y1, r1, f1, rfl, T1, _, b1⟩
        have C2 := Lib.hid (cmp_same11 (HS.out.step b1).in_ T1.in_ H1.out)
        have HB1 := Lib.hid (below_step HB.out b1)
        clear T1 b1
        go_wp2_with fail
        refine (C2.out).mono ?_
        rintro e w2 ⟨rfl, b2⟩
        have HB2 := Lib.hid (below_step HB1.out b2)
        clear b2
        go_wp2_with fail
        go_ret
        exact ⟨rfl, HB2.out⟩
      · obtain rfl : b = false := by
          cases hq : b with
          | false => rfl
          | true => exact absurd (hend.1 hq) h1
        have H1 := Lib.hid (show 1 < a by omega)
        clear hend h1 hpos
        go_wp2_with fail
        refine (HO.out _).mono ?_
        rintro e w1 ⟨Y1, r1, f1, rfl, T1, _, b1⟩
        have C2 := Lib.hid (cmp_above11 (HS.out.step b1).in_ T1.in_ H1.out)
        have HB1 := Lib.hid (below_step HB.out b1)
        clear T1 b1
        go_wp2_with fail
        refine (C2.out).mono ?_
        rintro e w2 ⟨rfl, b2⟩
        have HB2 := Lib.hid (below_step HB1.out b2)
        clear b2
        go_wp2_with fail
        go_ret
        exact ⟨rfl, HB2.out⟩
end Go.Proofs.YtjpfcdgaepdcdaaGreat
/- power's contracts in the form that laws use. Conditions: as typed. -/
namespace Go.Proofs.YtjpfcdgaepdcdaaGreat
open Go.RowKit
set_option maxRecDepth 20000
section
variable {w : World} {A A2 A3 : Option Addr} {n m k c c2 c3 M N L : Nat}
theorem bExp_ok (h : NatIn w A n c M) (i : NatIn w A2 m c2 N) (j : NatIn w A3 k c3 L) (h0 : L ≠ 0) (hb : nbits N ≤ 4096) (hb2 : nbits L ≤ 4096) (hs : n ≤ 9000) (hs2 : m ≤ 9000) (hs3 : k ≤ 9000) : Calls Tryz.prog 63 #[.slice A n c, .slice A2 m c2, .slice A3 k c3] w (OutOk (M ^ N % L) w) := exp_ok8 h i j h0 hb hb2 hs hs2 hs3
/-- The same, the answer written otherwise. -/
theorem bExp_is (V : Nat) (h : NatIn w A n c M) (i : NatIn w A2 m c2 N) (j : NatIn w A3 k c3 L) (e : M ^ N % L = V) (h0 : L ≠ 0) (hb : nbits N ≤ 4096) (hb2 : nbits L ≤ 4096) (hs : n ≤ 9000) (hs2 : m ≤ 9000) (hs3 : k ≤ 9000) : Calls Tryz.prog 63 #[.slice A n c, .slice A2 m c2, .slice A3 k c3] w (OutOk V w) := e ▸ bExp_ok h i j h0 hb hb2 hs hs2 hs3
end
end Go.Proofs.YtjpfcdgaepdcdaaGreat
/- pratt's goesAround, walked. Conditions: as typed (numbers of at most 1024 bits). -/
namespace Go.Proofs.YtjpfcdgaepdcdaaGreat
open Go.RowKit
set_option maxRecDepth 20000
/-- A step's three fields, as they lie at block g. -/
structure StepBox (w : World) (g : Nat) (vP vG vQ : Value) : Prop where
  cP : w.cell? ⟨g, 0, none⟩ = some vP
  cG : w.cell? ⟨g, 1, none⟩ = some vG
  cQ : w.cell? ⟨g, 2, none⟩ = some vQ
  lt : g < w.heap.size
theorem StepBox.below {w w' : World} {g : Nat} {vP vG vQ : Value} (h : StepBox w g vP vG vQ) (b : Below w.heap.size w w') : StepBox w' g vP vG vQ :=
  ⟨(b.cell (p := ⟨g, 0, none⟩) h.lt).trans h.cP, (b.cell (p := ⟨g, 1, none⟩) h.lt).trans h.cG, (b.cell (p := ⟨g, 2, none⟩) h.lt).trans h.cQ, Nat.lt_of_lt_of_le h.lt b.size⟩
theorem StepBox.new (w : World) (vP vG vQ : Value) (T : TypeId) : StepBox (w.alloc (.cells #[vP, vG, vQ] T)) w.heap.size vP vG vQ := by
  refine ⟨?_, ?_, ?_, by simp⟩ <;> go_simp
/-- What goes round says. -/
def Around (x p N : Nat) (Q : List Nat) : Prop := x ^ N % p = 1 ∧ ∀ q ∈ Q, x ^ (N / q) % p ≠ 1
set_option maxHeartbeats 4000000 in
theorem isOne11 {w : World} {E AP AG : Option Addr} {n c nP cP nG cG K p x g : Nat} {vQ : Value} (hE : NatIs w E n c K) (hB : StepBox w g (.slice AP nP cP) (.slice AG nG cG) vQ) (hP : NatIs w AP nP cP p) (hG : NatIs w AG nG cG x)
    (hp : p ≠ 0) (hpl : nbits p ≤ 1024) (hxl : nbits x ≤ 1024) (hKl : nbits K ≤ 1024) (b : Bool) (hb : b = true ↔ x ^ K % p = 1) :
    Calls Tryz.prog 62 #[.slice E n c, .pointer (some ⟨g, 0, none⟩)] w fun e w' => e = .returned (.bool b) ∧ Below w.heap.size w w' := by
  obtain ⟨V, hV⟩ : ∃ V, x ^ K % p = V := ⟨_, rfl⟩
  have h1 := hE.len11 hKl
  have h2 := hP.len11 hpl
  have h3 := hG.len11 hxl
  have C1 := Lib.hid (bExp_is V hG.in_ hE.in_ hP.in_ hV hp (by omega) (by omega) (by omega) (by omega) (by omega))
  have HO := Lib.hid fun u => bOf u 1 (by omega)
  have k0 := hB.cP
  have k1 := hB.cG
  rw [hV] at hb
  clear hE hB hP hG hp hpl hxl hKl h1 h2 h3 hV
  rcases Nat.lt_trichotomy V 1 with h | h | h
  · obtain rfl : b = false := by
      cases hq : b with
      | false => rfl
      | true => have := hb.1 hq; omega
    have H1 := Lib.hid h
    clear hb h
    go_enter Tryz.func62, Tryz.ntmps62
    go_wp2_with fail
    refine (C1.out).mono ?_
    rintro e w1 ⟨Y1, r1, f1, rfl, S1, b1⟩
    have HS1 := Lib.hid S1
    have HB1 := Lib.hid b1
    clear S1 b1
    go_wp2_with fail
    refine (HO.out _).mono ?_
    rintro e w2 ⟨Y2, r2, f2, rfl, S2, _, b2⟩
    have C2 := Lib.hid (cmp_below11 (HS1.out.step b2).in_ S2.in_ H1.out)
    have HB2 := Lib.hid (below_step HB1.out b2)
    clear S2 b2
    go_wp2_with fail
    refine (C2.out).mono ?_
    rintro e w3 ⟨rfl, b3⟩
    have HB3 := Lib.hid (below_step HB2.out b3)
    clear b3
    go_wp2_with fail
    go_ret
    exact ⟨rfl, HB3.out⟩
  · obtain rfl : b = true := hb.2 h
    have H1 := Lib.hid h
    clear hb h
    go_enter Tryz.func62, Tryz.ntmps62
    go_wp2_with fail
    refine (C1.out).mono ?_
    rintro e w1 ⟨Y1, r1, f1, rfl, S1, b1⟩
    have HS1 := Lib.hid S1
    have HB1 := Lib.hid b1
    clear S1 b1
    go_wp2_with fail
    refine (HO.out _).mono ?_
    rintro e w2 ⟨Y2, r2, f2, rfl, S2, _, b2⟩
    have C2 := Lib.hid (cmp_same11 (HS1.out.step b2).in_ S2.in_ H1.out)
    have HB2 := Lib.hid (below_step HB1.out b2)
    clear S2 b2
    go_wp2_with fail
    refine (C2.out).mono ?_
    rintro e w3 ⟨rfl, b3⟩
    have HB3 := Lib.hid (below_step HB2.out b3)
    clear b3
    go_wp2_with fail
    go_ret
    exact ⟨rfl, HB3.out⟩
  · obtain rfl : b = false := by
      cases hq : b with
      | false => rfl
      | true => have := hb.1 hq; omega
    have H1 := Lib.hid h
    clear hb h
    go_enter Tryz.func62, Tryz.ntmps62
    go_wp2_with fail
    refine (C1.out).mono ?_
    rintro e w1 ⟨Y1, r1, f1, rfl, S1, b1⟩
    have HS1 := Lib.hid S1
    have HB1 := Lib.hid b1
    clear S1 b1
    go_wp2_with fail
    refine (HO.out _).mono ?_
    rintro e w2 ⟨Y2, r2, f2, rfl, S2, _, b2⟩
    have C2 := Lib.hid (cmp_above11 (HS1.out.step b2).in_ S2.in_ H1.out)
    have HB2 := Lib.hid (below_step HB1.out b2)
    clear S2 b2
    go_wp2_with fail
    refine (C2.out).mono ?_
    rintro e w3 ⟨rfl, b3⟩
    have HB3 := Lib.hid (below_step HB2.out b3)
    clear b3
    go_wp2_with fail
    go_ret
    exact ⟨rfl, HB3.out⟩
/-- The first so many were looked at. -/
def NoneYet (x p N : Nat) (Q : List Nat) (j : Nat) : Prop := x ^ N % p = 1 ∧ ∀ q ∈ Q.take j, x ^ (N / q) % p ≠ 1
theorem NoneYet.next {x p N : Nat} {Q : List Nat} {j : Nat} (h : NoneYet x p N Q j) (hj : j < Q.length) (hn : x ^ (N / Q[j]) % p ≠ 1) : NoneYet x p N Q (j + 1) := ⟨h.1, fun q hq => by
  rw [take_next11 hj] at hq
  rcases List.mem_append.1 hq with h1 | h1
  · exact h.2 q h1
  · rw [List.mem_singleton.1 h1]; exact hn⟩
theorem Around.no11 {b : Bool} {x p N : Nat} {Q : List Nat} (hb : b = true ↔ Around x p N Q) {j : Nat} (hj : j < Q.length) (hn : x ^ (N / Q[j]) % p = 1) : b = false := by
  cases hq : b with
  | false => rfl
  | true => exact absurd hn ((hb.1 hq).2 _ (List.getElem_mem hj))
theorem Around.end11 {b : Bool} {x p N : Nat} {Q : List Nat} (hb : b = true ↔ Around x p N Q) (h : NoneYet x p N Q Q.length) : b = true := hb.2 (by
  unfold NoneYet at h
  rw [List.take_length] at h
  exact h)
set_option maxHeartbeats 4000000 in
theorem goesAround11 {w : World} {B AP AG : Option Addr} {n c nP cP nG cG N p x : Nat} {vQ : Value} {ms : List (List Nat)} (hN : NatIs w B n c N) (hP : NatIs w AP nP cP p) (hG : NatIs w AG nG cG x) (hQ : RdQ w w.heap.size vQ ms)
    (hp : p ≠ 0) (hpl : nbits p ≤ 1024) (hxl : nbits x ≤ 1024) (hNl : nbits N ≤ 1024) (hok : ∀ q ∈ ms, OkNat q ∧ q.length ≤ 40 ∧ natOf q ≠ 0) (b : Bool) (hb : b = true ↔ Around x p N (ms.map natOf)) :
    Calls Tryz.prog 37 #[.agg #[.slice AP nP cP, .slice AG nG cG, vQ], .slice B n c] w fun e w' => e = .returned (.bool b) ∧ Below w.heap.size w w' := by
  obtain ⟨Q, hQs⟩ : ∃ Q, ms.map natOf = Q := ⟨_, rfl⟩
  have hQl : Q.length = ms.length := by rw [← hQs, List.length_map]
  have hQg : ∀ j (h1 : j < Q.length) (h2 : j < ms.length), Q[j] = natOf ms[j] := fun j h1 h2 => by subst hQs; simp
  rw [hQs] at hb
  have HQG := Lib.hid hQg
  have HQL := Lib.hid hQl
  have HBb := Lib.hid hb
  have HOK := Lib.hid hok
  have HNl := Lib.hid hNl
  have hn16 := hN.len11 hNl
  obtain ⟨A, cQ, hv, _, hcQ, hlQ⟩ := id hQ
  obtain ⟨m, hm⟩ : ∃ m, ms.length = m := ⟨_, rfl⟩
  have HM := Lib.hid hm
  rw [hm] at hv hcQ hlQ
  subst hv
  obtain ⟨W0, hW0⟩ : ∃ W0, w.alloc (.cells #[.slice AP nP cP, .slice AG nG cG, .slice A m cQ] 37) = W0 := ⟨_, rfl⟩
  have hb0 : Below w.heap.size w W0 := by rw [← hW0]; exact (Below.refl _ w).alloc (Nat.le_refl _) _
  obtain ⟨g, hg⟩ : ∃ g, w.heap.size = g := ⟨_, rfl⟩
  have hX0 : StepBox W0 g (.slice AP nP cP) (.slice AG nG cG) (.slice A m cQ) := by rw [← hW0, ← hg]; exact StepBox.new _ _ _ _ _
  have HX0 := Lib.hid hX0
  have HN0 := Lib.hid (hN.step hb0)
  have HP0 := Lib.hid (hP.step hb0)
  have HG0 := Lib.hid (hG.step hb0)
  have HQ0 := Lib.hid (hQ.step11 hb0)
  have HB0 := Lib.hid hb0
  have kQ := hX0.cQ
  have C1 := Lib.hid fun (u : World) (E : Option Addr) (k f K : Nat) (z : Bool) (hE : NatIs u E k f K) (hK : nbits K ≤ 1024) (hz : z = true ↔ x ^ K % p = 1) (hX : Hid (StepBox u g (.slice AP nP cP) (.slice AG nG cG) (.slice A m cQ))) (hP : Hid (NatIs u AP nP cP p)) (hG : Hid (NatIs u AG nG cG x)) =>
    isOne11 hE hX.out hP.out hG.out hp hpl hxl hK z hz
  clear hX0 hb0 hQ hN hP hG hb hok hpl hxl hNl hQs hQg hQl hp hm
  by_cases hone : x ^ N % p = 1
  · have C2 := Lib.hid (C1.out W0 B n c N true HN0.out HNl.out ⟨fun _ => hone, fun _ => rfl⟩ HX0 HP0 HG0)
    have HNY := Lib.hid (show NoneYet x p N Q 0 from ⟨hone, fun q hq => by simp at hq⟩)
    clear hone
    go_enter Tryz.func37, Tryz.ntmps37
    go_wp2_with fail
    refine (C2.out).mono ?_
    rintro e w1 ⟨rfl, b1⟩
    have HX1 := Lib.hid (HX0.out.below b1)
    have HN1 := Lib.hid (HN0.out.step b1)
    have HP1 := Lib.hid (HP0.out.step b1)
    have HG1 := Lib.hid (HG0.out.step b1)
    have HQ1 := Lib.hid (HQ0.out.step11 b1)
    have HB1 := Lib.hid (below_step HB0.out b1)
    have kQ1 := HX1.out.cQ
    clear b1 kQ
    go_wp2_with fail
    go_loopw [19] (fun jv wr => ∃ j : Nat, jv = .int .i64 j ∧ j ≤ m ∧ Hid (StepBox wr g (.slice AP nP cP) (.slice AG nG cG) (.slice A m cQ)) ∧ Hid (NatIs wr B n c N) ∧ Hid (NatIs wr AP nP cP p) ∧ Hid (NatIs wr AG nG cG x) ∧ Hid (RdQ wr wr.heap.size (.slice A m cQ) ms) ∧ Hid (NoneYet x p N Q j) ∧ Hid (Below w.heap.size w wr)) (fun jv _ => m - (intOf jv).toNat)
    case atStart => exact ⟨0, rfl, Nat.zero_le _, HX1, HN1, HP1, HG1, HQ1, HNY, HB1⟩
    case round =>
      clear HX0 HN0 HP0 HG0 HQ0 HB0 HX1 HN1 HP1 HG1 HQ1 HB1 HNY C2 kQ1
      obtain ⟨j, rfl, hj, HX, HN, HP, HG, HQ, HNY, HB⟩ := hrel
      by_cases hlt : j < m
      · have hjm : j < ms.length := by rw [HM.out]; exact hlt
        have hjQ : j < Q.length := by rw [HQL.out]; exact hjm
        obtain ⟨gA, oA, y, hA, _, hy, hry⟩ := HQ.out.at11 hjm
        subst hA
        have hmem : ms[j] ∈ ms := List.getElem_mem hjm
        obtain ⟨ho1, ho2, ho3⟩ := HOK.out _ hmem
        obtain ⟨Y, f, rfl, T⟩ := hry.is11 ho2 ho1
        obtain ⟨r, hr⟩ : ∃ r, ms[j].length = r := ⟨_, rfl⟩
        obtain ⟨q, hq⟩ : ∃ q, natOf ms[j] = q := ⟨_, rfl⟩
        have hqe : Q[j] = q := by rw [← hq]; exact HQG.out j hjQ hjm
        have hql : nbits q ≤ 1024 := by rw [← hq]; exact ho1.2
        rw [hq] at ho3
        rw [hr, hq] at T
        rw [hr] at hy
        have hr16 := T.len11 hql
        obtain ⟨K, hK⟩ : ∃ K, N / q = K := ⟨_, rfl⟩
        obtain ⟨R, hR⟩ : ∃ R, N % q = R := ⟨_, rfl⟩
        have CD := Lib.hid (bDiv_is11 K R HN.out.in_ T.in_ hK hR ho3 (by omega) (by omega))
        have hKl : nbits K ≤ 1024 := by rw [← hK]; exact Nat.le_trans (nbits_mono (Nat.div_le_self _ _)) HNl.out
        by_cases ht : x ^ K % p = 1
        · obtain rfl := Around.no11 HBb.out hjQ (by rw [hqe, hK]; exact ht)
          have HT := Lib.hid ht
          have HKl := Lib.hid hKl
          clear ht hK hR hqe hql hq hr T hry hmem ho1 ho2 ho3 hKl
          go_wp2_with fail
          refine (CD.out).mono ?_
          rintro e w1 ⟨Z1, k1, g1, Y1, r1, f1, rfl, S1, _, b1⟩
          have C2 := Lib.hid (C1.out w1 Z1 k1 g1 K true S1 HKl.out ⟨fun _ => HT.out, fun _ => rfl⟩ (Lib.hid (HX.out.below b1)) (Lib.hid (HP.out.step b1)) (Lib.hid (HG.out.step b1)))
          have HB1 := Lib.hid (below_step HB.out b1)
          clear S1 b1
          go_wp2_with fail
          refine (C2.out).mono ?_
          rintro e w2 ⟨rfl, b2⟩
          have HB2 := Lib.hid (below_step HB1.out b2)
          clear b2
          go_wp2_with fail
          go_ret
          exact ⟨rfl, HB2.out⟩
        · have HNY2 := Lib.hid (HNY.out.next hjQ (by rw [hqe, hK]; exact ht))
          have HT := Lib.hid ht
          have HKl := Lib.hid hKl
          clear ht hK hR hqe hql hq hr T hry hmem ho1 ho2 ho3 hKl
          go_wp2_with fail
          refine (CD.out).mono ?_
          rintro e w1 ⟨Z1, k1, g1, Y1, r1, f1, rfl, S1, _, b1⟩
          have HX1 := Lib.hid (HX.out.below b1)
          have HP1 := Lib.hid (HP.out.step b1)
          have HG1 := Lib.hid (HG.out.step b1)
          have HN1 := Lib.hid (HN.out.step b1)
          have HQ1 := Lib.hid (HQ.out.step11 b1)
          have C2 := Lib.hid (C1.out w1 Z1 k1 g1 K false S1 HKl.out ⟨fun h => (Bool.false_ne_true h).elim, fun h => absurd h HT.out⟩ HX1 HP1 HG1)
          have HB1 := Lib.hid (below_step HB.out b1)
          clear S1 b1
          go_wp2_with fail
          refine (C2.out).mono ?_
          rintro e w2 ⟨rfl, b2⟩
          have HX2 := Lib.hid (HX1.out.below b2)
          have HP2 := Lib.hid (HP1.out.step b2)
          have HG2 := Lib.hid (HG1.out.step b2)
          have HN2 := Lib.hid (HN1.out.step b2)
          have HQ2 := Lib.hid (HQ1.out.step11 b2)
          have HB2 := Lib.hid (below_step HB1.out b2)
          clear b2
          go_wp2_with fail
          go_roundw
          case rel => exact ⟨j + 1, by go_num, by omega, HX2, HN2, HP2, HG2, HQ2, HNY2, HB2⟩
          case measure => simp [intOf]; omega
      · obtain rfl : j = m := by omega
        obtain rfl : b = true := Around.end11 HBb.out (by rw [HQL.out, HM.out]; exact HNY.out)
        clear hg
        go_wp2_with fail
        go_ret
        exact ⟨rfl, HB.out⟩
  · obtain rfl : b = false := by
      cases hq : b with
      | false => rfl
      | true => exact absurd (HBb.out.1 hq).1 hone
    have C2 := Lib.hid (C1.out W0 B n c N false HN0.out HNl.out ⟨fun h => (Bool.false_ne_true h).elim, fun h => absurd h hone⟩ HX0 HP0 HG0)
    clear hone
    go_enter Tryz.func37, Tryz.ntmps37
    go_wp2_with fail
    refine (C2.out).mono ?_
    rintro e w1 ⟨rfl, b1⟩
    have HB1 := Lib.hid (below_step HB0.out b1)
    clear b1
    go_wp2_with fail
    go_ret
    exact ⟨rfl, HB1.out⟩
end Go.Proofs.YtjpfcdgaepdcdaaGreat

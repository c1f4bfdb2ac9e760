/- Several texts in one; each begins with a remark that says what it shows and on which conditions. -/
import Derived.Test.YtjpfcdgaepdcdaaKbc
import Derived.Test.YtjpfcdgaepdcdaaKbd
import Derived.Deep.QuietTactic
/- The document's certificates of chapter 11, step by step. Conditions: as typed (numbers below 2^31). -/
namespace Go.Proofs.Ytjpfcdgaepdcdaa
open Go.RowKit
set_option maxRecDepth 20000
theorem tmod_nat11 {a b v : Nat} (h : a % b = v) : (a : Int).tmod (b : Int) = (v : Int) := by
  rw [Int.tmod_eq_emod_of_nonneg (by omega)]; omega
theorem emod_nat11 {a b v : Nat} (h : a % b = v) : (a : Int) % (b : Int) = (v : Int) := by omega
theorem pw_odd11 (O B E n : Nat) (h : E % 2 = 1) : (O * B % n) * (B * B % n) ^ (E / 2) % n = O * B ^ E % n := by
  have e : O * B ^ E = O * B * (B * B) ^ (E / 2) := by
    have : B ^ E = B * (B * B) ^ (E / 2) := by
      rw [show B * B = B ^ 2 by rw [Nat.pow_succ, Nat.pow_one], ← Nat.pow_mul, ← Nat.pow_succ']
      congr 1; omega
    rw [this, Nat.mul_assoc]
  rw [e, Nat.mod_mul_mod, Nat.mul_mod, ← Nat.pow_mod, ← Nat.mul_mod]
theorem pw_even11 (O B E n : Nat) (h : E % 2 = 0) : O * (B * B % n) ^ (E / 2) % n = O * B ^ E % n := by
  have e : B ^ E = (B * B) ^ (E / 2) := by
    rw [show B * B = B ^ 2 by rw [Nat.pow_succ, Nat.pow_one], ← Nat.pow_mul]
    congr 1; omega
  rw [e, Nat.mul_mod, ← Nat.pow_mod, ← Nat.mul_mod]
theorem mul_lt11 {a b n : Nat} (ha : a < n) (hb : b < n) (hn : n < 4294967296) : a * b < 18446744073709551616 :=
  Nat.lt_of_le_of_lt (Nat.mul_le_mul (show a ≤ 4294967295 by omega) (show b ≤ 4294967295 by omega)) (by omega)
set_option maxHeartbeats 2000000 in
theorem refPower11 (b e n : Nat) (_ : b < 18446744073709551616) (he : e < 18446744073709551616) (hn0 : 0 < n) (hn : n < 4294967296) (w : World) :
    Calls Try.prog 33 #[.int .u64 b, .int .u64 e, .int .u64 n] w fun x w' => x = .returned (.int .u64 (b ^ e % n : Nat)) ∧ w = w' := by
  obtain ⟨V, hV⟩ : ∃ V, b ^ e % n = V := ⟨_, rfl⟩
  obtain ⟨o, ho⟩ : ∃ o, 1 % n = o := ⟨_, rfl⟩
  obtain ⟨b0, hb0⟩ : ∃ b0, b % n = b0 := ⟨_, rfl⟩
  have hoI : (1 : Int) % (n : Int) = (o : Int) := by rw [← ho]; simp
  have hbI : (b : Int) % (n : Int) = (b0 : Int) := by rw [← hb0]; simp
  have hz : ((n : Int) == 0) = false := by simp; omega
  have hol : o < n := by rw [← ho]; exact Nat.mod_lt _ hn0
  have hbl : b0 < n := by rw [← hb0]; exact Nat.mod_lt _ hn0
  have HI := Lib.hid (show o * b0 ^ e % n = V by rw [← ho, ← hb0, Nat.mod_mul_mod, Nat.one_mul, ← Nat.pow_mod, hV])
  rw [hV]
  clear hV ho hb0
  go_enter Try.func33, Try.ntmps33
  go_wp2_with fail
  go_loopw [0, 1, 7] (fun bv ev ov wr => ∃ B E O : Nat, bv = .int .u64 B ∧ ev = .int .u64 E ∧ ov = .int .u64 O ∧ B < n ∧ O < n ∧ E < 18446744073709551616 ∧ Hid (O * B ^ E % n = V) ∧ w = wr) (fun _ ev _ _ => (intOf ev).toNat)
  case atStart => exact ⟨b0, e, o, by first | rfl | rw [hbI], rfl, by first | rfl | rw [hoI], hbl, hol, he, HI, rfl⟩
  case round =>
    obtain ⟨B, E, O, rfl, rfl, rfl, hB, hO, hE, hI, rfl⟩ := hrel
    rcases Nat.eq_zero_or_pos E with h0 | h0
    · subst h0
      have hv := Lib.hid (show V = O by have := hI.out; rw [Nat.pow_zero, Nat.mul_one, Nat.mod_eq_of_lt hO] at this; exact this.symm)
      clear hI
      go_wp2_with fail
      go_ret
      exact ⟨by rw [hv.out]; rfl, rfl⟩
    · have g0 : decide ((0 : Int) < (E : Int)) = true := by simp; omega
      obtain ⟨q, hq⟩ : ∃ q, B * B = q := ⟨_, rfl⟩
      have hqI : (B : Int) * (B : Int) = (q : Int) := by rw [← hq]; simp
      have hql : q < 18446744073709551616 := by rw [← hq]; exact mul_lt11 hB hB hn
      obtain ⟨B', hB'⟩ : ∃ B', q % n = B' := ⟨_, rfl⟩
      have hBI : (q : Int) % (n : Int) = (B' : Int) := by rw [← hB']; simp
      have hBl : B' < n := by rw [← hB']; exact Nat.mod_lt _ hn0
      obtain ⟨E', hE'⟩ : ∃ E', E / 2 = E' := ⟨_, rfl⟩
      have hEI : (E : Int) / 2 = (E' : Int) := by omega
      rcases Nat.mod_two_eq_zero_or_one E with h1 | h1
      · have g1 : ((E : Int) % 2 == 1) = false := by simp; omega
        have HJ := Lib.hid (show O * B' ^ E' % n = V by rw [← hB', ← hq, ← hE', pw_even11 _ _ _ _ h1]; exact hI.out)
        have hEl : E' < E := by omega
        clear hI hq hB' hE' h1
        go_wp2_with fail
        go_roundw
        case rel => exact ⟨B', E', O, by first | rfl | rw [hBI], rfl, rfl, hBl, hO, by omega, HJ, trivial⟩
        case measure => simp [intOf]; omega
      · have g1 : ((E : Int) % 2 == 1) = true := by simp; omega
        obtain ⟨p, hp⟩ : ∃ p, O * B = p := ⟨_, rfl⟩
        have hpI : (O : Int) * (B : Int) = (p : Int) := by rw [← hp]; simp
        have hpl : p < 18446744073709551616 := by rw [← hp]; exact mul_lt11 hO hB hn
        obtain ⟨O', hO'⟩ : ∃ O', p % n = O' := ⟨_, rfl⟩
        have hOI : (p : Int) % (n : Int) = (O' : Int) := by rw [← hO']; simp
        have hOl : O' < n := by rw [← hO']; exact Nat.mod_lt _ hn0
        have HJ := Lib.hid (show O' * B' ^ E' % n = V by rw [← hO', ← hp, ← hB', ← hq, ← hE', pw_odd11 _ _ _ _ h1]; exact hI.out)
        have hEl : E' < E := by omega
        clear hI hq hB' hE' h1 hp hO'
        go_wp2_with fail
        go_roundw
        case rel => exact ⟨B', E', O', by first | rfl | rw [hBI], rfl, by first | rfl | rw [hOI], hBl, hOl, by omega, HJ, trivial⟩
        case measure => simp [intOf]; omega
/-- Words that are a number below 2^31, as it may be. -/
def smallB11 (l : List Nat) : Bool := decide (l.length = 0 ∨ (l.length = 1 ∧ 0 < nth l 0 ∧ nth l 0 < 2147483648))
set_option maxHeartbeats 1000000 in
theorem refSmall {w : World} {B : Nat} {v : Value} {l : List Nat} (h : RdNat w B v l) (n : Nat) (hn : nth l 0 = n) (b : Bool) (hb : smallB11 l = b) :
    Calls Try.prog 16 #[v] w fun e w' => e = .returned (.tuple #[.int .u64 n, .bool b]) ∧ Drawn w w' := by
  obtain ⟨A, c, rfl, hr, hc, hw, hl⟩ := h
  obtain ⟨k, hk⟩ : ∃ k, l.length = k := ⟨_, rfl⟩
  unfold smallB11 at hb
  rw [hn, hk] at hb
  rw [hk]
  by_cases h0 : k = 0
  · subst h0
    have hb1 : b = true := by rw [← hb]; simp
    have hn1 : n = 0 := by rw [← hn]; unfold nth; rw [List.eq_nil_of_length_eq_zero hk]; rfl
    subst hb1 hn1
    clear hb hr hw
    go_enter Try.func16, Try.ntmps16
    go_wp2_with fail
    go_ret2
    exact ⟨rfl, Drawn.refl _⟩
  · obtain ⟨g, o, rfl, hg, hcell⟩ := hr (by omega)
    have e1 := hcell 0 (by omega)
    rw [hn, Nat.add_zero] at e1
    have hnl : n < 18446744073709551616 := by rw [← hn, nth_eq l 0 (by omega)]; exact hw _ (List.getElem_mem _)
    have hk0 : ((k : Int) == 0) = false := by simp; omega
    have hkp : 0 < k := by omega
    clear hr hcell hw hn hl hk
    by_cases h1 : k = 1
    · subst h1
      by_cases h2 : n = 0
      · subst h2
        have hb1 : b = false := by rw [← hb]; simp
        subst hb1
        clear hb
        go_enter Try.func16, Try.ntmps16
        go_wp2_with fail
        go_quiet (fail)
        go_wp2_with fail
        go_ret2
        exact ⟨rfl, Drawn.more _⟩
      · have h3 : 0 < n := by omega
        have g3 : decide ((0 : Int) < (n : Int)) = true := by simp; omega
        by_cases h4 : n < 2147483648
        · have g4 : decide ((n : Int) < 2147483648) = true := by simp; omega
          have hb1 : b = true := by rw [← hb]; simp; omega
          subst hb1
          clear hb
          go_enter Try.func16, Try.ntmps16
          go_wp2_with fail
          go_quiet (fail)
          go_wp2_with fail
          go_ret2
          exact ⟨rfl, Drawn.more _⟩
        · have g4 : decide ((n : Int) < 2147483648) = false := by simp; omega
          have hb1 : b = false := by rw [← hb]; simp; omega
          subst hb1
          clear hb
          go_enter Try.func16, Try.ntmps16
          go_wp2_with fail
          go_quiet (fail)
          go_wp2_with fail
          go_ret2
          exact ⟨rfl, Drawn.more _⟩
    · have g1 : ((k : Int) == 1) = false := by simp; omega
      have hb1 : b = false := by rw [← hb]; simp; omega
      subst hb1
      clear hb
      go_enter Try.func16, Try.ntmps16
      go_wp2_with fail
      go_quiet (fail)
      go_wp2_with fail
      go_ret2
      exact ⟨rfl, Drawn.more _⟩
end Go.Proofs.Ytjpfcdgaepdcdaa
/- The document's step of a certificate, chapter 11. Conditions: numbers below 2^31; what was shown ahead are primes. -/
namespace Go.Proofs.Ytjpfcdgaepdcdaa
open Go.RowKit
set_option maxRecDepth 20000
theorem RdNat.drawn {w w' : World} {B : Nat} {v : Value} {l : List Nat} (h : RdNat w B v l) (d : Drawn w w') : RdNat w' B v l := by
  obtain ⟨A, c, e, hr, hc, hw, hl⟩ := h
  exact ⟨A, c, e, d.rd hr, hc, hw, hl⟩
theorem RdNat.below {w w' : World} {B : Nat} {v : Value} {l : List Nat} (h : RdNat w B v l) (d : Below B w w') : RdNat w' B v l := by
  obtain ⟨A, c, e, hr, hc, hw, hl⟩ := h
  exact ⟨A, c, e, hr.below d, hc, hw, hl⟩
theorem RdNats.below {w w' : World} {B : Nat} {A : Option Addr} {ms : List (List Nat)} (h : RdNats w B A ms) (d : Below B w w') : RdNats w' B A ms := fun h0 => by
  obtain ⟨b, off, e2, hb, hall⟩ := h h0
  refine ⟨b, off, e2, hb, fun j hj => ?_⟩
  obtain ⟨v, h1, h2⟩ := hall j hj
  exact ⟨v, (d.cell (p := ⟨b, off + j, none⟩) hb).trans h1, h2.below d⟩
theorem RdQ.drawn {w w' : World} {B : Nat} {v : Value} {ms : List (List Nat)} (h : RdQ w B v ms) (d : Drawn w w') : RdQ w' B v ms := by
  obtain ⟨A, c, e, hr, hc, hl⟩ := h
  refine ⟨A, c, e, fun h0 => ?_, hc, hl⟩
  obtain ⟨b, off, e2, hb, hall⟩ := hr h0
  refine ⟨b, off, e2, hb, fun j hj => ?_⟩
  obtain ⟨v, h1, h2⟩ := hall j hj
  exact ⟨v, ((d.below (b + 1)).cell (p := ⟨b, off + j, none⟩) (Nat.lt_succ_self b)).trans h1, h2.drawn d⟩
/-- The first so many of a step's numbers are right. -/
structure StepMid (s : CStep) (la : List Nat) (j L M : Nat) : Prop where
  strip : Stripped (s.P - 1) (s.Q.take j) L
  rise : (s.Q.take j).Pairwise (· < ·)
  most : ∀ x ∈ s.Q.take j, x ≤ M
  mem : M = 0 ∨ M ∈ s.Q.take j
  shown : ∀ x ∈ s.Q.take j, (x < 65536 ∧ Prm x) ∨ x ∈ la
  parts : ∀ x ∈ s.Q.take j, x ∣ s.P - 1
  none : ∀ x ∈ s.Q.take j, s.G ^ ((s.P - 1) / x) % s.P ≠ 1
theorem StepMid.start {s : CStep} {la : List Nat} (h : 3 ≤ s.P) : StepMid s la 0 (s.P - 1) 0 :=
  ⟨Stripped.start (by omega), List.Pairwise.nil, by simp, .inl rfl, by simp, by simp, by simp⟩
theorem take_snoc11 (l : List Nat) (k : Nat) (h : k < l.length) : l.take (k + 1) = l.take k ++ [nth l k] := by
  rw [List.take_add_one, List.getElem?_eq_getElem h]
  simp [nth, h]
theorem StepMid.next {s : CStep} {la : List Nat} {j L M L' q : Nat} (h : StepMid s la j L M) (hj : j < s.Q.length) (hq : nth s.Q j = q) (hM : M < q) (hs : (q < 65536 ∧ Prm q) ∨ q ∈ la) (hd : q ∣ s.P - 1) (hn : s.G ^ ((s.P - 1) / q) % s.P ≠ 1)
    (hL : Stripped (s.P - 1) (s.Q.take j ++ [q]) L') : StepMid s la (j + 1) L' q := by
  have e : s.Q.take (j + 1) = s.Q.take j ++ [q] := by rw [take_snoc11 _ _ hj, hq]
  have hall : ∀ {p : Nat → Prop}, (∀ x ∈ s.Q.take j, p x) → p q → ∀ x ∈ s.Q.take (j + 1), p x := fun h1 h2 x hx => by
    rw [e] at hx
    rcases List.mem_append.1 hx with h3 | h3
    · exact h1 x h3
    · rw [List.mem_singleton.1 h3]; exact h2
  refine ⟨by rw [e]; exact hL, ?_, hall (fun x hx => by have := h.most x hx; omega) (Nat.le_refl _), .inr (by rw [e]; exact List.mem_append_right _ List.mem_cons_self), hall h.shown hs, hall h.parts hd, hall h.none hn⟩
  rw [e]
  exact List.pairwise_append.2 ⟨h.rise, List.pairwise_singleton _ _, fun a ha b hb => by
    rw [List.mem_singleton.1 hb]; have := h.most a ha; omega⟩
/-- What is not above the last one is not right. -/
theorem StepMid.not_above {s : CStep} {la : List Nat} {j L M q : Nat} (h : StepMid s la j L M) (hla : ∀ a ∈ la, Prm a) (hj : j < s.Q.length) (hq : nth s.Q j = q) (hM : q ≤ M) : ¬ StepOk s la := fun k => by
  have hqm : q ∈ s.Q := by rw [← hq]; exact nth_mem _ _ hj
  have hq2 : 2 ≤ q := by
    rcases k.shown q hqm with h1 | h1
    · exact h1.2.1
    · exact (hla q h1).1
  rcases h.mem with h1 | h1
  · omega
  · have e : s.Q = s.Q.take j ++ s.Q.drop j := (List.take_append_drop j s.Q).symm
    have hr := k.rise
    rw [e] at hr
    have h3 := (List.pairwise_append.1 hr).2.2 M h1 q (by
      rw [← hq, nth_eq _ _ hj]
      exact List.mem_drop_iff_getElem.2 ⟨0, by omega, by simp⟩)
    omega
theorem StepMid.done {s : CStep} {la : List Nat} {L M : Nat} (h : StepMid s la s.Q.length L M) (ho : s.P % 2 = 1) (h3 : 3 ≤ s.P) (h1 : 1 ≤ s.G) (hl : s.G < s.P) : StepOk s la ↔ (L = 1 ∧ s.G ^ (s.P - 1) % s.P = 1) := by
  obtain ⟨a1, a2, a3, a4, a5, a6, a7⟩ := h
  rw [List.take_length] at a1 a2 a5 a6 a7
  constructor
  · exact fun k => ⟨a1.one.2 k.all, k.whole⟩
  · rintro ⟨e1, e2⟩
    exact ⟨ho, h3, h1, hl, a2, a5, a6, a1.one.1 e1, e2, a7⟩
/-- Between two looks at what was shown ahead. -/
def ShMid (f : Bool) (q : Nat) (la : List Nat) (k : Nat) : Prop := f = true ↔ ((q < 65536 ∧ Prm q) ∨ q ∈ la.take k)
theorem ShMid.start {f : Bool} {q : Nat} {la : List Nat} (h : f = true ↔ (q < 65536 ∧ Prm q)) : ShMid f q la 0 := by
  unfold ShMid; rw [h]; simp
theorem ShMid.hit {f : Bool} {q : Nat} {la : List Nat} {k : Nat} (_ : ShMid f q la k) (hk : k < la.length) (ha : nth la k = q) : ShMid true q la (k + 1) :=
  ⟨fun _ => .inr (by rw [take_snoc11 _ _ hk, ha]; exact List.mem_append_right _ List.mem_cons_self), fun _ => rfl⟩
theorem ShMid.miss {q : Nat} {la : List Nat} {k : Nat} (h : ShMid false q la k) (hk : k < la.length) (ha : nth la k ≠ q) : ShMid false q la (k + 1) := by
  refine ⟨fun h => (by cases h), ?_⟩
  rintro (h1 | h1)
  · exact h.2 (.inl h1)
  · rw [take_snoc11 _ _ hk] at h1
    rcases List.mem_append.1 h1 with h2 | h2
    · exact h.2 (.inr h2)
    · exact absurd (List.mem_singleton.1 h2).symm ha
theorem ShMid.all {f : Bool} {q : Nat} {la : List Nat} (h : ShMid f q la la.length) : f = true ↔ ((q < 65536 ∧ Prm q) ∨ q ∈ la) := by
  unfold ShMid at h; rw [List.take_length] at h; exact h
theorem ShMid.more {q : Nat} {la : List Nat} {k : Nat} (h : ShMid true q la k) (j : Nat) (hj : k ≤ j) : ShMid true q la j :=
  ⟨fun _ => (h.1 rfl).elim .inl fun h1 => .inr (by
    obtain ⟨i, hi, e⟩ := List.mem_iff_getElem.1 h1
    rw [List.length_take] at hi
    rw [List.getElem_take] at e
    exact List.mem_iff_getElem.2 ⟨i, by rw [List.length_take]; omega, by rw [List.getElem_take]; exact e⟩), fun _ => rfl⟩
end Go.Proofs.Ytjpfcdgaepdcdaa
/- The document's Is of chapter 9, as chapter 11 asks it. Conditions: numbers below 2^32. -/
namespace Go.Proofs.Ytjpfcdgaepdcdaa
open Go.RowKit
set_option maxRecDepth 20000
theorem mod_form11 (a k : Nat) (b : Bool) (h : decide (a % k = 0) = b) : (((a : Int) % (k : Int)) == 0) = b := by
  rw [← h, Bool.eq_iff_iff, beq_iff_eq, decide_eq_true_eq]; omega
set_option maxHeartbeats 1000000 in
theorem refIs11 (n : Nat) (hn : n < 4294967296) (b : Bool) (hb : b = true ↔ Prm n) (w : World) :
    Calls Try.prog 17 #[.int .u64 n] w fun e w' => e = .returned (.bool b) ∧ w = w' := by
  rw [prm_iff_try] at hb
  have HB := Lib.hid hb
  clear hb
  by_cases h2 : n < 2
  · have hb := Lib.hid (show b = false by cases hq : b with | false => rfl | true => have := (HB.out.1 hq).1; omega)
    go_enter Try.func17, Try.ntmps17
    go_wp2_with fail
    go_ret
    exact ⟨by rw [hb.out]; rfl, rfl⟩
  · go_enter Try.func17, Try.ntmps17
    go_wp2_with fail
    go_loopw [3] (fun dv wr => ∃ d : Nat, 2 ≤ d ∧ d ≤ 65536 ∧ dv = .int .u64 d ∧ (∀ e, 2 ≤ e → e < d → n % e ≠ 0) ∧ w = wr) (fun dv _ => 65536 - (intOf dv).toNat)
    case atStart => exact ⟨2, Nat.le_refl _, by omega, rfl, fun e h1 h2 => by omega, rfl⟩
    case round =>
      obtain ⟨d, h3, hd, rfl, hno, rfl⟩ := hrel
      have HN := Lib.hid hno
      clear hno
      have hd0 : ((d : Int) == 0) = false := by simp; omega
      obtain ⟨q, hq⟩ : ∃ q, d * d = q := ⟨_, rfl⟩
      have hqI : (d : Int) * (d : Int) = (q : Int) := by rw [← hq]; simp
      have hql : q ≤ 4294967296 := by rw [← hq]; exact Nat.mul_le_mul hd hd
      have HQ := Lib.hid hq
      by_cases h1 : q ≤ n
      · have g1 : decide ((q : Int) ≤ (n : Int)) = true := by simp; omega
        by_cases h4 : n % d = 0
        · have g4 := mod_form11 n d true (decide_eq_true h4)
          have hb := Lib.hid (show b = false by cases hb : b with | false => rfl | true => exact absurd h4 ((HB.out.1 hb).2 d h3 (by omega)))
          clear h4 hq
          go_wp2_with fail
          go_ret
          exact ⟨by rw [hb.out]; rfl, rfl⟩
        · have g4 := mod_form11 n d false (decide_eq_false h4)
          have HH := Lib.hid h4
          have hd2 : d < 65536 := by
            rcases Nat.lt_or_ge d 65536 with h | h
            · exact h
            · have := Nat.mul_le_mul h h; omega
          clear h4 hq
          go_wp2_with fail
          go_roundw
          case rel => exact ⟨d + 1, by omega, by omega, by go_num, fun e h1 h2 => by (rcases Nat.lt_succ_iff_lt_or_eq.1 h2 with h | rfl); exact HN.out e h1 h; exact HH.out, trivial⟩
          case measure => simp [intOf]; omega
      · have g1 : decide ((q : Int) ≤ (n : Int)) = false := by simp; omega
        have hb := Lib.hid (show b = true from HB.out.2 ⟨by omega, fun e h5 h6 => HN.out e h5 (by
          rcases Nat.lt_or_ge e d with h | h
          · exact h
          · have := Nat.mul_le_mul h h; omega)⟩)
        clear hq
        go_wp2_with fail
        go_ret
        exact ⟨by rw [hb.out]; rfl, rfl⟩
end Go.Proofs.Ytjpfcdgaepdcdaa

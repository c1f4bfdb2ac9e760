/- Several texts in one; each begins with a remark that says what it shows and on which conditions. -/
import Derived.Test.YtjpfcdgaepdcdaaGreatKau
import Derived.Test.YtjpfcdgaepdcdaaGreatKaw
import Derived.Test.YtjpfcdgaepdcdaaGreatKar
import Derived.Test.YtjpfcdgaepdcdaaGreatKas
import Derived.Test.YtjpfcdgaepdcdaaGreatKat
import Derived.Test.YtjpfcdgaepdcdaaGreatKap
/- What passes to 2, 3, 5 and 7 and is below 2^32 is a prime, or 3215031751; a prime passes to all bases that it does not divide. No condition but those typed; no program is named. -/
namespace Go.Proofs.YtjpfcdgaepdcdaaGreat
/-- What passes to the four bases. -/
theorem four_bases {n : Nat} (hn : 1 < n) (hlt : n < 4294967296) (h2 : Pass n 2) (h3 : Pass n 3) (h5 : Pass n 5) (h7 : Pass n 7) : Prm n ∨ n = 3215031751 :=
  four_of ⟨r_small, r_signs, r_few1, mid_all, r_few2, great_all, more_all⟩ hn hlt ⟨h2, h3, h5, h7⟩
/-- What squared leaves 1 leaves 1 or p - 1. -/
theorem Prm.root {p x : Nat} (hp : Prm p) (h : x * x % p = 1) : x % p = 1 ∨ x % p = p - 1 := by
  have h2 := hp.1
  obtain ⟨y, hy⟩ : ∃ y, x % p = y := ⟨_, rfl⟩
  rw [Nat.mul_mod, hy] at h
  rw [hy]
  have hlt : y < p := by rw [← hy]; exact Nat.mod_lt _ (by omega)
  rcases y with _ | y
  · rw [Nat.zero_mul, Nat.zero_mod] at h; omega
  · have hd : p ∣ y * (y + 2) := by
      have e : (y + 1) * (y + 1) = y * (y + 2) + 1 := by simp only [Nat.add_mul, Nat.mul_add]; omega
      have hm := Nat.div_add_mod ((y + 1) * (y + 1)) p
      rw [h, e] at hm
      exact ⟨_, (Nat.add_right_cancel hm).symm⟩
    rcases hp.euclid _ _ hd with h1 | h1
    · rcases Nat.eq_zero_or_pos y with h0 | h0
      · subst h0; exact .inl rfl
      · have := Nat.le_of_dvd h0 h1; omega
    · have := Nat.le_of_dvd (by omega) h1
      exact .inr (by omega)
/-- A prime passes. -/
theorem Prm.pass {p a : Nat} (hp : Prm p) (ho : p % 2 = 1) (ha : ¬ p ∣ a) : Pass p a := by
  have h2 := hp.1
  have hf := fermat hp ha
  have hodd : ∀ m, 0 < m → ∃ s d, m = 2 ^ s * d ∧ d % 2 = 1 := by
    intro m
    induction m using Nat.strongRecOn with
    | ind m ih =>
      intro hm
      rcases (show m % 2 = 0 ∨ m % 2 = 1 by omega) with h | h
      · obtain ⟨s, d, e, hd⟩ := ih (m / 2) (by omega) (by omega)
        refine ⟨s + 1, d, ?_, hd⟩
        rw [Nat.pow_succ, Nat.mul_assoc, Nat.mul_comm 2, ← Nat.mul_assoc, ← e]
        omega
      · exact ⟨0, m, by simp, h⟩
  obtain ⟨s, d, e, hd⟩ := hodd (p - 1) (by omega)
  refine ⟨s, d, e, hd, ?_⟩
  rw [e] at hf
  have key : ∀ s, a ^ (2 ^ s * d) % p = 1 → a ^ d % p = 1 ∨ ∃ i, i < s ∧ a ^ (2 ^ i * d) % p = p - 1 := by
    intro s
    induction s with
    | zero => intro h; rw [Nat.pow_zero, Nat.one_mul] at h; exact .inl h
    | succ s ih =>
      intro h
      have e2 : 2 ^ (s + 1) * d = 2 ^ s * d + 2 ^ s * d := by rw [Nat.pow_succ, Nat.mul_assoc, Nat.mul_comm 2 d, ← Nat.mul_assoc, ← Nat.mul_two]
      rw [e2, Nat.pow_add] at h
      rcases hp.root h with h1 | h1
      · rcases ih h1 with h3 | ⟨i, hi, h3⟩
        · exact .inl h3
        · exact .inr ⟨i, by omega, h3⟩
      · exact .inr ⟨s, by omega, h1⟩
  exact key s hf
end Go.Proofs.YtjpfcdgaepdcdaaGreat
/- Plain facts on trying, on passing to bases, and on primes between a number and twice it. No condition but those typed; no program is named. -/
namespace Go.Proofs.YtjpfcdgaepdcdaaGreat
theorem least_where (P : Nat → Prop) [DecidablePred P] : ∀ k, (∃ d, d < k ∧ P d ∧ ∀ e, e < d → ¬ P e) ∨ ∀ d, d < k → ¬ P d := by
  intro k
  induction k with
  | zero => exact .inr fun d h => by omega
  | succ k ih =>
    rcases ih with ⟨d, h1, h2, h3⟩ | h
    · exact .inl ⟨d, by omega, h2, h3⟩
    · by_cases hk : P k
      · exact .inl ⟨k, by omega, hk, h⟩
      · refine .inr fun d hd => ?_
        rcases Nat.lt_succ_iff_lt_or_eq.1 hd with h1 | rfl
        · exact h d h1
        · exact hk
/-- The least number from 2 to most, and to 65536, that divides n and is less; or 0. -/
def IsTrial (n most r : Nat) : Prop := (r = 0 ∧ ∀ d, 2 ≤ d → d ≤ most → d ≤ 65536 → d < n → n % d ≠ 0) ∨ (2 ≤ r ∧ r ≤ most ∧ r ≤ 65536 ∧ r < n ∧ n % r = 0 ∧ ∀ d, 2 ≤ d → d < r → n % d ≠ 0)
theorem isTrial_some (n most : Nat) : ∃ r, IsTrial n most r := by
  rcases least_where (fun d => 2 ≤ d ∧ d ≤ most ∧ d ≤ 65536 ∧ d < n ∧ n % d = 0) 65537 with ⟨d, _, ⟨h1, h2, h3, h4, h5⟩, h6⟩ | h
  · exact ⟨d, .inr ⟨h1, h2, h3, h4, h5, fun e he hd hz => h6 e hd ⟨he, by omega, by omega, by omega, hz⟩⟩⟩
  · exact ⟨0, .inl ⟨rfl, fun d h1 h2 h3 h4 h5 => h d (by omega) ⟨h1, h2, h3, h4, h5⟩⟩⟩
theorem isTrial_uniq {n most r s : Nat} (h : IsTrial n most r) (k : IsTrial n most s) : r = s := by
  rcases h with ⟨rfl, h⟩ | ⟨h1, h2, h3, h4, h5, h6⟩ <;> rcases k with ⟨rfl, k⟩ | ⟨k1, k2, k3, k4, k5, k6⟩
  · rfl
  · exact absurd k5 (h s k1 k2 k3 k4)
  · exact absurd h5 (k r h1 h2 h3 h4)
  · rcases Nat.lt_trichotomy r s with h7 | h7 | h7
    · exact absurd h5 (k6 r h1 h7)
    · exact h7
    · exact absurd k5 (h6 s k1 h7)
/-- A number passes, as the chapter says it. -/
def PassD (n a : Nat) : Prop := 3 ≤ n ∧ n % 2 = 1 ∧ Pass n a
theorem passD_iff {n a s d : Nat} (h3 : 3 ≤ n) (ho : n % 2 = 1) (he : n - 1 = 2 ^ s * d) (hd : d % 2 = 1) : PassD n a ↔ (a ^ d % n = 1 ∨ ∃ i, i < s ∧ a ^ (2 ^ i * d) % n = n - 1) := by
  refine ⟨?_, fun h => ⟨h3, ho, s, d, he, hd, h⟩⟩
  rintro ⟨_, _, t, e, h1, h2, h⟩
  obtain ⟨rfl, rfl⟩ := odd_uniq hd h2 (he.symm.trans h1)
  exact h
/-- A number passes to all of the bases that it does not divide, one at least; or it is 2. -/
def ProbD (n : Nat) (l : List Nat) : Prop := n = 2 ∨ ((∃ x ∈ l, ¬ (0 < n ∧ x % n = 0)) ∧ ∀ x ∈ l, ¬ (0 < n ∧ x % n = 0) → PassD n x)
/-! Primes by trying -/
theorem prm_iff_try {n : Nat} : Prm n ↔ 2 ≤ n ∧ ∀ d, 2 ≤ d → d * d ≤ n → n % d ≠ 0 := by
  constructor
  · intro h
    refine ⟨h.1, fun d h1 h2 h3 => ?_⟩
    rcases h.2 d (Nat.dvd_of_mod_eq_zero h3) with e | e
    · omega
    · subst e
      have : d * 2 ≤ d * d := Nat.mul_le_mul_left _ h1
      omega
  · rintro ⟨h2, h⟩
    obtain ⟨p, hp, hd⟩ := prm_factor n h2
    by_cases hpp : p * p ≤ n
    · exact absurd (Nat.mod_eq_zero_of_dvd hd) (h p hp.1 hpp)
    · obtain ⟨q, rfl⟩ := hd
      have hq : q < p := by
        rcases Nat.lt_or_ge q p with e | e
        · exact e
        · exact absurd (Nat.mul_le_mul_left p e) hpp
      have hp2 := hp.1
      rcases Nat.lt_or_ge q 2 with e | e
      · have : q = 1 := by
          rcases Nat.eq_zero_or_pos q with e0 | e0
          · subst e0; simp at h2
          · omega
        subst this
        rwa [Nat.mul_one]
      · exfalso
        refine h q e ?_ (Nat.mul_mod_left _ _)
        exact Nat.mul_le_mul_right q (Nat.le_of_lt hq)
/-- None from k on, so many, divides n. -/
def noneB (n : Nat) (f : Nat) : Nat → Bool := Nat.rec (motive := fun _ => Nat → Bool) (fun _ => true) (fun _ ih d => cond (Nat.beq (Nat.mod n d) 0) false (fN (Nat.succ d) ih)) f
theorem noneB_true {n : Nat} : ∀ f d, noneB n f d = true → ∀ e, d ≤ e → e < d + f → n % e ≠ 0 := by
  intro f
  induction f with
  | zero => intro d _ e h1 h2; omega
  | succ f ih =>
    intro d h e h1 h2
    have h' : cond (Nat.beq (Nat.mod n d) 0) false (fN (Nat.succ d) (noneB n f)) = true := h
    rw [fN_eq] at h'
    cases hb : Nat.beq (Nat.mod n d) 0 with
    | true => rw [hb] at h'; cases h'
    | false =>
      rw [hb] at h'
      rcases Nat.lt_or_ge d e with h3 | h3
      · exact ih (d + 1) h' e h3 (by omega)
      · obtain rfl : e = d := by omega
        intro h0
        have : Nat.beq (Nat.mod n e) 0 = true := beqP_of h0
        rw [this] at hb
        cases hb
theorem prm_tried {n f : Nat} (h2 : 2 ≤ n) (h : noneB n f 2 = true) (hf : n < (f + 2) * (f + 2)) : Prm n :=
  prm_iff_try.2 ⟨h2, fun d h1 h3 => noneB_true f 2 h d h1 (by
    rcases Nat.lt_or_ge d (2 + f) with e | e
    · exact e
    · have := Nat.mul_le_mul e e
      rw [Nat.add_comm 2 f] at this
      omega)⟩
end Go.Proofs.YtjpfcdgaepdcdaaGreat
/- prime's small functions: ofWord, fits, halvings. Conditions: as typed (lengths that fit a machine). -/
namespace Go.Proofs.YtjpfcdgaepdcdaaGreat
open Go.RowKit
set_option maxRecDepth 20000
/-- None from 2 on and below d divides. -/
def NoneTo (n d : Nat) : Prop := ∀ e, 2 ≤ e → e < d → n % e ≠ 0
theorem NoneTo.two (n : Nat) : NoneTo n 2 := fun e h1 h2 => by omega
theorem NoneTo.three {n : Nat} (h : n % 2 ≠ 0) : NoneTo n 3 := fun e h1 h2 => by
  obtain rfl : e = 2 := by omega
  exact h
theorem NoneTo.odd {n d : Nat} (h : NoneTo n d) (h3 : 3 ≤ d) (ho : d % 2 = 1) : NoneTo n (d + 2) ↔ n % d ≠ 0 := by
  refine ⟨fun k => k d (by omega) (by omega), fun hd e h1 h2 => ?_⟩
  rcases Nat.lt_or_ge e d with h4 | h4
  · exact h e h1 h4
  · rcases Nat.eq_or_lt_of_le h4 with rfl | h5
    · exact hd
    · obtain rfl : e = d + 1 := by omega
      intro h0
      have h6 : n % (d + 1) % 2 = n % 2 := Nat.mod_mod_of_dvd n (Nat.dvd_of_mod_eq_zero (by omega))
      rw [h0] at h6
      exact h 2 (by omega) (by omega) h6.symm
theorem NoneTo.next {n d : Nat} (h : NoneTo n d) (h2 : 2 ≤ d) (hd : n % d ≠ 0) (ho : d = 2 ∨ d % 2 = 1) : NoneTo n (d + (1 + d % 2)) := by
  rcases ho with rfl | ho
  · exact NoneTo.three hd
  · rw [ho]
    exact (h.odd (by omega) ho).2 hd
theorem trial_found {n most d : Nat} (h : NoneTo n d) (h2 : 2 ≤ d) (hm : d ≤ most) (hb : d ≤ 65536) (hn : d < n) (h0 : n % d = 0) : IsTrial n most d := .inr ⟨h2, hm, hb, hn, h0, h⟩
theorem trial_past {n most d : Nat} (h : NoneTo n d) (hm : most < d ∨ 65536 < d) : IsTrial n most 0 := .inl ⟨rfl, fun e h1 h2 h3 _ => h e h1 (by omega)⟩
theorem trial_root {n most d : Nat} (h : NoneTo n d) (hs : n < d * d) : IsTrial n most 0 := .inl ⟨rfl, fun e h1 _ _ h4 h0 => by
  rcases Nat.lt_or_ge e d with h5 | h5
  · exact h e h1 h5 h0
  · obtain ⟨f, rfl⟩ := Nat.dvd_of_mod_eq_zero h0
    have h6 : f < d := by
      rcases Nat.lt_or_ge f d with h7 | h7
      · exact h7
      · have := Nat.mul_le_mul h5 h7
        omega
    have h7 : 2 ≤ f := by
      rcases Nat.lt_or_ge f 2 with h8 | h8
      · have : e * f ≤ e * 1 := Nat.mul_le_mul_left e (by omega)
        omega
      · exact h8
    exact h f h7 h6 (Nat.mul_mod_left _ _)⟩
theorem trial_min {n most r : Nat} : IsTrial n (min most 65536) r ↔ IsTrial n most r := by
  unfold IsTrial
  constructor
  · rintro (⟨h1, h2⟩ | ⟨h1, h2, h3, h4⟩)
    · exact .inl ⟨h1, fun d h3 h4 h5 => h2 d h3 (by omega) h5⟩
    · exact .inr ⟨h1, by omega, h3, h4⟩
  · rintro (⟨h1, h2⟩ | ⟨h1, h2, h3, h4⟩)
    · exact .inl ⟨h1, fun d h3 h4 h5 => h2 d h3 (by omega) h5⟩
    · exact .inr ⟨h1, by omega, h3, h4⟩
set_option maxHeartbeats 1000000 in
theorem ofWord_any (n most r : Nat) (hn : n < 18446744073709551616) (hm : most ≤ 65536) (hr : IsTrial n most r) (b : Bool) (hb : b = true ↔ r ≠ 0) (w : World) :
    Calls Tryz.prog 51 #[.int .u64 n, .int .u64 most] w fun e w' => e = .returned (.tuple #[.int .u64 r, .bool b]) ∧ w = w' := by
  have HR := Lib.hid hr
  have HB := Lib.hid hb
  clear hr hb
  go_enter Tryz.func51, Tryz.ntmps51
  go_wp2_with fail
  go_loopw [6] (fun dv wr => ∃ d : Nat, dv = .int .u64 d ∧ 2 ≤ d ∧ d ≤ 65540 ∧ Hid (d = 2 ∨ d % 2 = 1) ∧ Hid (NoneTo n d) ∧ w = wr) (fun dv _ => 65542 - (intOf dv).toNat)
  case atStart => exact ⟨2, rfl, by omega, by omega, Lib.hid (.inl rfl), Lib.hid (NoneTo.two n), rfl⟩
  case round =>
    obtain ⟨d, rfl, h2, hd, ho, hN, rfl⟩ := hrel
    by_cases h1 : d ≤ most
    · obtain ⟨q, hq⟩ : ∃ q, d * d = q := ⟨_, rfl⟩
      have hql : q ≤ 65536 * 65536 := by rw [← hq]; exact Nat.mul_le_mul (by omega) (by omega)
      have hqi : (d : Int) * (d : Int) = (q : Int) := by rw [← hq]; simp
      have HQ := Lib.hid hq
      clear hq
      by_cases h3 : q ≤ n
      · obtain ⟨y, hy⟩ : ∃ y, n % d = y := ⟨_, rfl⟩
        have hyi : (n : Int) % (d : Int) = (y : Int) := by rw [← hy]; simp
        have HY := Lib.hid hy
        clear hy
        by_cases h4 : y = 0
        · subst h4
          have hdn : d < n := by
            have h5 := HQ.out
            have : d * 2 ≤ d * d := Nat.mul_le_mul_left d h2
            omega
          have hrd : r = d := isTrial_uniq HR.out (trial_found hN.out h2 h1 (by omega) hdn HY.out)
          have hbt : b = true := HB.out.2 (by omega)
          subst hrd
          subst hbt
          go_wp2_with fail
          go_ret2
          exact ⟨rfl, rfl⟩
        · have h4b : ((y : Int) == 0) = false := by simp; omega
          have HN := Lib.hid (hN.out.next h2 (by rw [HY.out]; exact h4) ho.out)
          have HO := Lib.hid (show d + (1 + d % 2) = 2 ∨ (d + (1 + d % 2)) % 2 = 1 by have := ho.out; omega)
          go_wp2_with fail
          go_roundw
          case rel => exact ⟨d + (1 + d % 2), by go_num, by omega, by omega, HO.out |> Lib.hid, HN, trivial⟩
          case measure => simp [intOf]; omega
      · have hr0 : r = 0 := isTrial_uniq HR.out (trial_root hN.out (by rw [HQ.out]; omega))
        have hbf : b = false := by
          rcases hb : b with _ | _
          · rfl
          · exact absurd hr0 (HB.out.1 hb)
        subst hr0
        subst hbf
        go_wp2_with fail
        go_ret2
        exact ⟨rfl, rfl⟩
    · have hr0 : r = 0 := isTrial_uniq HR.out (trial_past hN.out (by omega))
      have hbf : b = false := by
        rcases hb : b with _ | _
        · rfl
        · exact absurd hr0 (HB.out.1 hb)
      subst hr0
      subst hbf
      go_wp2_with fail
      go_ret2
      exact ⟨rfl, rfl⟩
/-! Which may be asked of by Strong -/
set_option maxHeartbeats 1000000 in
theorem fits_any {w : World} {A : Option Addr} {n c : Nat} {l : List Nat} (P : RowIs w A n c l) (b : Bool) (hb : b = true ↔ (l = wd (natOf l) ∧ nbits (natOf l) ≤ 1024)) :
    Calls Tryz.prog 78 #[.slice A n c] w fun e w' => e = .returned (.bool b) ∧ Below w.heap.size w w' := by
  have hN := P.in_
  have hbn := hN.bits
  have hnl := P.2.2.1
  have HB := Lib.hid fun (u : World) (e : Below w.heap.size w u) => bBits (hN.step e)
  have hM := natMay_any A c l w P.2.2.2.1 P.2.1 (by have := P.1; have := P.2.2.1; omega) (by have := P.1; have := P.2.2.2.2; omega)
  rw [P.1] at hM
  obtain ⟨s, hs⟩ : ∃ s, nbits (natOf l) = s := ⟨_, rfl⟩
  rw [hs] at hb HB hbn
  by_cases h1 : l = wd (natOf l)
  · rw [decide_eq_true h1] at hM
    have HM := Lib.hid hM
    have hb2 : decide (s ≤ 1024) = b := by
      rw [Bool.eq_iff_iff, decide_eq_true_eq, hb]
      exact ⟨fun h => ⟨h1, h⟩, fun h => h.2⟩
    have hb3 : decide ((s : Int) ≤ 1024) = b := by rw [← hb2]; exact decide_eq_decide.2 (by omega)
    clear hM hb h1 hN P hs
    go_enter Tryz.func78, Tryz.ntmps78
    go_wp2_with fail
    refine (HM.out).mono ?_
    rintro e w1 ⟨rfl, b1⟩
    go_wp2_with fail
    refine (HB.out _ b1).mono ?_
    rintro e w2 ⟨rfl, b2⟩
    go_wp2_with fail
    go_ret
    exact ⟨rfl, below_step b1 b2⟩
  · rw [decide_eq_false h1] at hM
    have HM := Lib.hid hM
    have hbf : b = false := by
      rcases h : b with _ | _
      · rfl
      · exact absurd (hb.1 h).1 h1
    subst hbf
    clear hM hb h1 hN P hs
    go_enter Tryz.func78, Tryz.ntmps78
    go_wp2_with fail
    refine (HM.out).mono ?_
    rintro e w1 ⟨rfl, b1⟩
    go_wp2_with fail
    go_ret
    exact ⟨rfl, b1⟩
/-! How often a number is even -/
theorem bit_twos (s d : Nat) (hd : d % 2 = 1) (k : Nat) (hk : k ≤ s) : bit (2 ^ s * d) k = if k = s then 1 else 0 := by
  unfold bit
  have e : 2 ^ s = 2 ^ k * 2 ^ (s - k) := by rw [← Nat.pow_add]; congr 1; omega
  rw [e, Nat.mul_assoc, Nat.mul_div_cancel_left _ (Nat.pow_pos (by omega))]
  split
  · rename_i h
    subst h
    rw [Nat.sub_self, Nat.pow_zero, Nat.one_mul]
    exact hd
  · rw [show s - k = (s - k - 1) + 1 by omega, Nat.pow_succ, Nat.mul_comm (2 ^ (s - k - 1)) 2, Nat.mul_assoc]
    omega
set_option maxHeartbeats 1000000 in
theorem halvings_any {w : World} {A : Option Addr} {n c M s d : Nat} (h : NatIn w A n c M) (e : M = 2 ^ s * d) (hd : d % 2 = 1) (hs : s ≤ 3200000) :
    Calls Tryz.prog 79 #[.slice A n c] w fun e w' => e = .returned (.int .i64 (s : Nat)) ∧ Below w.heap.size w w' := by
  have H := Lib.hid h
  have HE := Lib.hid e
  have HD := Lib.hid hd
  clear h e hd
  go_enter Tryz.func79, Tryz.ntmps79
  go_wp2_with fail
  go_loopw [3] (fun tv wr => ∃ k : Nat, tv = .int .i64 k ∧ k ≤ s ∧ Below w.heap.size w wr) (fun tv _ => s - (intOf tv).toNat)
  case atStart => exact ⟨0, rfl, Nat.zero_le _, Below.refl _ _⟩
  case round =>
    obtain ⟨k, rfl, hk, hb⟩ := hrel
    have B := bBit (H.out.step hb) (k : Int) (by unfold MaxI; omega)
    rw [HE.out, show bitS (2 ^ s * d) (k : Int) = ((if k = s then 1 else 0 : Nat)) by unfold bitS; rw [if_neg (by omega), Int.toNat_natCast, bit_twos s d HD.out k hk]] at B
    by_cases h1 : k = s
    · rw [if_pos h1] at B
      have HB := Lib.hid B
      clear B
      subst h1
      go_wp2_with fail
      refine (HB.out).mono ?_
      rintro e w1 ⟨rfl, b1⟩
      go_wp2_with fail
      go_ret
      exact ⟨rfl, below_step hb b1⟩
    · rw [if_neg h1] at B
      have HB := Lib.hid B
      clear B
      go_wp2_with fail
      refine (HB.out).mono ?_
      rintro e w1 ⟨rfl, b1⟩
      go_wp2_with fail
      go_roundw
      case rel => exact ⟨k + 1, by go_num, by omega, below_step hb b1⟩
      case measure => simp [intOf]; omega
end Go.Proofs.YtjpfcdgaepdcdaaGreat
/- prime's Trial: numbers of one word, and of more. Conditions: as typed (lengths that fit a machine). -/
namespace Go.Proofs.YtjpfcdgaepdcdaaGreat
open Go.RowKit
set_option maxRecDepth 20000
/-- Between two rounds of ofWords. -/
def TriMid (M most f : Nat) : Prop := (f ≤ most → NoneTo M f) ∧ (most < f → IsTrial M most 0)
theorem TriMid.three {M most : Nat} (h : M % 2 ≠ 0) : TriMid M most 3 := ⟨fun _ => NoneTo.three h, fun hm => trial_past (NoneTo.three h) (.inl hm)⟩
theorem TriMid.less {M most : Nat} (h : most < 2) : TriMid M most 3 := ⟨fun _ => by omega, fun _ => trial_past (NoneTo.two M) (.inl h)⟩
theorem TriMid.behind {M most f d : Nat} (h : NoneTo M d) (hd : d = f + 8 ∨ most < d) (hf : d ≤ f + 8) : TriMid M most (f + 8) := by
  rcases hd with rfl | hd
  · exact ⟨fun _ => h, fun hm => trial_past h (.inl hm)⟩
  · exact ⟨fun _ => by omega, fun _ => trial_past h (.inl hd)⟩
/-- The four odd numbers from f on, multiplied. -/
def four9 (f : Nat) : Nat := f * (f + 2) * (f + 4) * (f + 6)
theorem four9_dvd {f d : Nat} (h : d = f ∨ d = f + 2 ∨ d = f + 4 ∨ d = f + 6) : d ∣ four9 f := by
  unfold four9
  rcases h with rfl | rfl | rfl | rfl
  · rw [Nat.mul_assoc, Nat.mul_assoc]; exact Nat.dvd_mul_right _ _
  · rw [Nat.mul_assoc, Nat.mul_assoc, Nat.mul_left_comm]; exact Nat.dvd_mul_right _ _
  · exact Nat.dvd_trans (Nat.dvd_mul_left _ _) (Nat.dvd_mul_right _ _)
  · exact Nat.dvd_mul_left _ _
set_option maxRecDepth 100000 in
set_option maxHeartbeats 2000000 in
theorem ofWords_trial {w : World} {A : Option Addr} {n c M : Nat} (h : NatIn w A n c M) (hs : n ≤ 9500) (hM : 18446744073709551616 ≤ M) (most r : Nat) (hm : most ≤ 65536) (hr : IsTrial M most r) (b : Bool) (hb : b = true ↔ r ≠ 0) :
    Calls Tryz.prog 52 #[.slice A n c, .int .u64 most] w fun e w' => e = .returned (.tuple #[.int .u64 r, .bool b]) ∧ Below w.heap.size w w' := by
  have H := Lib.hid h
  have HR := Lib.hid hr
  have HM := Lib.hid hM
  have HBF := Lib.hid (show r = 0 → b = false from fun h => by
    rcases hb2 : b with _ | _
    · rfl
    · exact absurd h (hb.1 hb2))
  have HBT := Lib.hid (show r ≠ 0 → b = true from hb.2)
  clear h hr hb hM
  by_cases h2 : 2 ≤ most
  · have B := bBit H.out 0 (by unfold MaxI; omega)
    by_cases hp : M % 2 = 0
    · have hr2 : r = 2 := isTrial_uniq HR.out (trial_found (NoneTo.two M) (by omega) h2 (by omega) (by have := HM.out; omega) hp)
      have hbt := HBT.out (by omega)
      rw [show bitS M 0 = 0 by simp [bitS, bit, hp]] at B
      subst hr2
      subst hbt
      have HBB := Lib.hid B
      clear B hp
      go_enter Tryz.func52, Tryz.ntmps52
      go_wp2_with fail
      refine (HBB.out).mono ?_
      rintro e w1 ⟨rfl, b1⟩
      go_wp2_with fail
      go_ret2
      exact ⟨rfl, b1⟩
    · rw [show bitS M 0 = 1 by unfold bitS; rw [if_neg (by omega)]; show M / 1 % 2 = 1; rw [Nat.div_one]; omega] at B
      have HBB := Lib.hid B
      have H3 := Lib.hid (TriMid.three (most := most) hp)
      clear B hp
      go_enter Tryz.func52, Tryz.ntmps52
      go_wp2_with fail
      refine (HBB.out).mono ?_
      rintro e w1 ⟨rfl, b1⟩
      go_wp2_with fail
      go_loopw [6] (fun fv wr => ∃ f : Nat, fv = .int .u64 f ∧ f % 8 = 3 ∧ f ≤ 65547 ∧ Hid (TriMid M most f) ∧ Below w.heap.size w wr) (fun fv _ => 65548 - (intOf fv).toNat)
      case atStart => exact ⟨3, rfl, by omega, by omega, H3, b1⟩
      case round =>
        clear b1 HBB H3
        obtain ⟨f, rfl, hf, hfl, hT, hB⟩ := hrel
        by_cases h1 : f ≤ most
        · obtain ⟨p1, hp1⟩ : ∃ p, f * (f + 2) = p := ⟨_, rfl⟩
          have hp1l : p1 ≤ 65531 * 65533 := by rw [← hp1]; exact Nat.mul_le_mul (by omega) (by omega)
          obtain ⟨p2, hp2⟩ : ∃ p, p1 * (f + 4) = p := ⟨_, rfl⟩
          have hp2l : p2 ≤ 65531 * 65533 * 65535 := by rw [← hp2]; exact Nat.mul_le_mul hp1l (by omega)
          obtain ⟨p3, hp3⟩ : ∃ p, p2 * (f + 6) = p := ⟨_, rfl⟩
          have hp3l : p3 ≤ 65531 * 65533 * 65535 * 65537 := by rw [← hp3]; exact Nat.mul_le_mul hp2l (by omega)
          have h41 : four9 f = p3 := by unfold four9; rw [hp1, hp2, hp3]
          have hp3p : 0 < p3 := by
            rw [← hp3, ← hp2, ← hp1]
            exact Nat.mul_pos (Nat.mul_pos (Nat.mul_pos (by omega) (by omega)) (by omega)) (by omega)
          have i1 : (f : Int) * ((f : Int) + 2) = (p1 : Int) := by rw [← hp1]; simp
          have i2 : (p1 : Int) * ((f : Int) + 4) = (p2 : Int) := by rw [← hp2]; simp
          have i3 : (p2 : Int) * ((f : Int) + 6) = (p3 : Int) := by rw [← hp3]; simp
          obtain ⟨v, hv⟩ : ∃ v, v = M % p3 := ⟨_, rfl⟩
          have HV := Lib.hid (show ∀ d, (d = f ∨ d = f + 2 ∨ d = f + 4 ∨ d = f + 6) → v % d = M % d from fun d hd => by
            rw [hv, ← h41]; exact Nat.mod_mod_of_dvd M (four9_dvd hd))
          have hvl : v < 18446744073709551616 := by
            have : v < p3 := by rw [hv]; exact Nat.mod_lt _ hp3p
            omega
          have HW := Lib.hid (bWord_v (H.out.step hB) (by omega) p3 v hp3p (by omega) hv)
          have HT1 := Lib.hid (hT.out.1 h1)
          clear hp1 hp2 hp3 hv h41
          go_wp2_with fail
          refine (HW.out).mono ?_
          rintro e w2 hw
          obtain ⟨X, q, d0, rfl, S, b2⟩ := hw
          have B2 := below_step hB b2
          clear S
          go_wp2_with fail
          go_loopw [10] (fun dv wr => ∃ d : Nat, dv = .int .u64 d ∧ f ≤ d ∧ d ≤ f + 8 ∧ d % 2 = 1 ∧ Hid (NoneTo M d) ∧ w2 = wr) (fun dv _ => f + 9 - (intOf dv).toNat)
          case atStart => exact ⟨f, rfl, by omega, by omega, by omega, HT1, rfl⟩
          case round =>
            obtain ⟨d, rfl, h4, h5, h6, hN, rfl⟩ := hrel
            have hmin : min ((f : Int) + 6) (most : Int) = ((min (f + 6) most : Nat) : Int) := by omega
            obtain ⟨mn, hmn⟩ : ∃ mn, min (f + 6) most = mn := ⟨_, rfl⟩
            rw [hmn] at hmin
            by_cases h7 : d ≤ mn
            · obtain ⟨y, hy⟩ : ∃ y, v % d = y := ⟨_, rfl⟩
              have hyi : (v : Int) % (d : Int) = (y : Int) := by rw [← hy]; simp
              have HY := Lib.hid (show M % d = y by rw [← HV.out d (by omega), hy])
              have h8 : d ≤ most := by omega
              have h9 : d ≤ f + 6 := by omega
              have h10 : 0 < d := by omega
              clear hy hmn
              by_cases h11 : y = 0
              · subst h11
                have hrd : r = d := isTrial_uniq HR.out (trial_found hN.out (by omega) h8 (by omega) (by have := HM.out; omega) HY.out)
                have hbt : b = true := HBT.out (by omega)
                subst hrd
                subst hbt
                go_wp2_with fail
                go_ret2
                exact ⟨rfl, B2⟩
              · have h4b : ((y : Int) == 0) = false := by simp; omega
                have HN := Lib.hid ((hN.out.odd (by omega) h6).2 (by rw [HY.out]; exact h11))
                go_wp2_with fail
                go_roundw
                case rel => exact ⟨d + 2, by go_num, by omega, by omega, by omega, HN, trivial⟩
                case measure => simp [intOf]; omega
            · have HT2 := Lib.hid (TriMid.behind (most := most) (f := f) hN.out (by omega) h5)
              go_wp2_with fail
              go_roundw
              case rel => exact ⟨f + 8, by go_num, by omega, by omega, HT2, B2⟩
              case measure => simp [intOf]; omega
        · have hr0 : r = 0 := isTrial_uniq HR.out (hT.out.2 (by omega))
          have hbf : b = false := HBF.out hr0
          subst hr0
          subst hbf
          go_wp2_with fail
          go_ret2
          exact ⟨rfl, hB⟩
  · have hr0 : r = 0 := isTrial_uniq HR.out (trial_past (NoneTo.two M) (.inl (by omega)))
    have hbf : b = false := HBF.out hr0
    subst hr0
    subst hbf
    go_enter Tryz.func52, Tryz.ntmps52
    go_wp2_with fail
    go_loopw [6] (fun fv wr => fv = .int .u64 3 ∧ w = wr) (fun _ _ => 0)
    case atStart => exact ⟨rfl, rfl⟩
    case round =>
      obtain ⟨rfl, rfl⟩ := hrel
      go_wp2_with fail
      go_ret2
      exact ⟨rfl, Below.refl _ _⟩
/-! Trial -/
set_option maxHeartbeats 2000000 in
theorem trial_any {w : World} {A : Option Addr} {n c : Nat} {l : List Nat} (P : RowIs w A n c l) (hs : n ≤ 9500) (most r : Nat) (hm : most < 18446744073709551616) (hr : if l = wd (natOf l) then IsTrial (natOf l) most r else r = 0) (b : Bool) (hb : b = true ↔ r ≠ 0) :
    Calls Tryz.prog 30 #[.slice A n c, .int .u64 most] w fun e w' => e = .returned (.tuple #[.int .u64 r, .bool b]) ∧ Below w.heap.size w w' := by
  have hN := P.in_
  have hM := natMay_any A c l w P.2.2.2.1 P.2.1 (by have := P.1; omega) (by have := P.1; have := P.2.2.2.2; omega)
  rw [P.1] at hM
  by_cases h1 : l = wd (natOf l)
  · rw [if_pos h1, ← trial_min] at hr
    rw [decide_eq_true h1] at hM
    obtain ⟨mn, hmn⟩ : ∃ mn, min most 65536 = mn := ⟨_, rfl⟩
    have hmin : min (most : Int) 65536 = (mn : Int) := by omega
    have hmn2 : mn ≤ 65536 := by omega
    rw [hmn] at hr
    have HM := Lib.hid hM
    by_cases h2 : natOf l < 18446744073709551616
    · obtain ⟨V, hV⟩ : ∃ V, natOf l = V := ⟨_, rfl⟩
      have HS := Lib.hid fun (u : World) (e : Below w.heap.size w u) => small_ok8 (hN.step e) h2
      rw [hV] at HS hr h2
      have HO := Lib.hid (ofWord_any V mn r h2 hmn2 hr b hb)
      clear hM hr hb h1 hN P hV hmn
      go_enter Tryz.func30, Tryz.ntmps30
      go_wp2_with fail
      refine (HM.out).mono ?_
      rintro e w1 ⟨rfl, b1⟩
      go_wp2_with fail
      refine (HS.out _ b1).mono ?_
      rintro e w2 ⟨rfl, b2⟩
      go_wp2_with fail
      refine (HO.out _).mono ?_
      rintro e w3 ⟨rfl, rfl⟩
      go_wp2_with fail
      go_ret2
      exact ⟨rfl, below_step b1 b2⟩
    · have HS := Lib.hid fun (u : World) (e : Below w.heap.size w u) => small_no8 (hN.step e) h2
      have HO := Lib.hid fun (u : World) (e : Below w.heap.size w u) => ofWords_trial (hN.step e) hs (by omega) mn r hmn2 hr b hb
      clear hM hr hb h1 hN P hmn
      go_enter Tryz.func30, Tryz.ntmps30
      go_wp2_with fail
      refine (HM.out).mono ?_
      rintro e w1 ⟨rfl, b1⟩
      go_wp2_with fail
      refine (HS.out _ b1).mono ?_
      rintro e w2 ⟨rfl, b2⟩
      have B2 := below_step b1 b2
      go_wp2_with fail
      refine (HO.out _ B2).mono ?_
      rintro e w3 ⟨rfl, b3⟩
      go_wp2_with fail
      go_ret2
      exact ⟨rfl, below_step B2 b3⟩
  · rw [if_neg h1] at hr
    rw [decide_eq_false h1] at hM
    have HM := Lib.hid hM
    have hbf : b = false := by
      rcases h : b with _ | _
      · rfl
      · exact absurd hr (hb.1 h)
    subst hr
    subst hbf
    clear hM hb h1 hN P
    go_enter Tryz.func30, Tryz.ntmps30
    go_wp2_with fail
    refine (HM.out).mono ?_
    rintro e w1 ⟨rfl, b1⟩
    go_wp2_with fail
    go_ret2
    exact ⟨rfl, b1⟩
end Go.Proofs.YtjpfcdgaepdcdaaGreat
/- power.Exp. Conditions: as typed (lengths that fit a machine). -/
namespace Go.Proofs.YtjpfcdgaepdcdaaGreat
open Go.RowKit
set_option maxRecDepth 20000
theorem made_below8 (w : World) (o : Obj) : Below w.heap.size w (w.alloc o) := (Below.refl _ w).alloc (Nat.le_refl _) o
section
variable {w : World} {A A2 A3 : Option Addr} {n m k c c2 c3 B E M : Nat}
set_option maxHeartbeats 4000000 in
theorem exp_ok8 (h : NatIn w A n c B) (i : NatIn w A2 m c2 E) (j : NatIn w A3 k c3 M) (h0 : M ≠ 0) (hE : nbits E ≤ 4096) (hM : nbits M ≤ 4096) (hs : n ≤ 9000) (_ : m ≤ 9000) (hs3 : k ≤ 9000) :
    Calls Tryz.prog 63 #[.slice A n c, .slice A2 m c2, .slice A3 k c3] w (OutOk (B ^ E % M) w) := by
  have b0 := made_below8 w (.cells #[.slice A3 k c3] 33)
  have bm := Boxed.new w 33 (.slice A3 k c3)
  have hc := bm.cell
  obtain ⟨s, hsM⟩ : ∃ s, nbits M = s := ⟨_, rfl⟩
  obtain ⟨t, ht⟩ : ∃ t, nbits E = t := ⟨_, rfl⟩
  have hs0 : s ≠ 0 := by
    have := (nbits_iff M).2 (by omega)
    omega
  have HB := Lib.hid (bBits (j.step b0))
  have HI := Lib.hid fun (u : World) (e : Below w.heap.size w u) => bBits (i.step e)
  rw [hsM] at HB hM
  rw [ht] at HI hE
  have hsb : ((s : Int) == 0) = false := by simp; omega
  have h1d : decide ((4096 : Int) < (s : Int)) = false := by simp; omega
  have h2d : decide ((4096 : Int) < (t : Int)) = false := by simp; omega
  obtain ⟨v, hv⟩ : ∃ v, v = B % M := ⟨_, rfl⟩
  have hvM : v < M := by rw [hv]; exact Nat.mod_lt _ (by omega)
  have HV := Lib.hid (show v ^ E % M = B ^ E % M by rw [hv, pow_rest])
  have H := Lib.hid h
  have I := Lib.hid i
  have J := Lib.hid j
  have BM := Lib.hid bm
  by_cases hsm : M < 18446744073709551616
  · have HS := Lib.hid fun (u : World) (e : Below w.heap.size w u) => small_ok8 (j.step e) hsm
    have HW := Lib.hid fun (u : World) (e : Below w.heap.size w u) => bWord_v (h.step e) (by omega) M v (by omega) hsm hv
    obtain ⟨o1, ho1⟩ : ∃ o1, 1 % M = o1 := ⟨_, rfl⟩
    have hoI : (1 : Int) % (M : Int) = (o1 : Int) := by rw [← ho1]; simp
    have HR := Lib.hid fun (u : World) (g : Nat) (e : Below w.heap.size w u) (hg : Boxed u g 27 (.int .u64 (M : Int))) => raised1_pf v M g E A2 m c2 u (i.step e) (by omega) (by omega) hsm hg
    rw [ho1] at HR
    have hM0 : ((M : Int) == 0) = false := by simp; omega
    obtain ⟨z, hz⟩ : ∃ z, v ^ E % M = z := ⟨_, rfl⟩
    rw [hz] at HR HV
    have hzM : z < M := by rw [← hz]; exact Nat.mod_lt _ (by omega)
    clear h i j bm hsM ht hv ho1 hz
    go_enter Tryz.func63, Tryz.ntmps63
    go_wp2_with fail
    refine (HB.out).mono ?_
    rintro e w1 ⟨rfl, b1⟩
    have B1 := below_step b0 b1
    have hc1 := (BM.out.kept (grown_of_below b1) (by simp)).cell
    go_wp2_with fail
    refine (HI.out _ B1).mono ?_
    rintro e w2 ⟨rfl, b2⟩
    have B2 := below_step B1 b2
    have bm2 := (BM.out.kept (grown_of_below b1) (by simp)).kept (grown_of_below b2) (by simp)
    have hc2 := bm2.cell
    go_wp2_with fail
    refine (HS.out _ B2).mono ?_
    rintro e w3 ⟨rfl, b3⟩
    have B3 := below_step B2 b3
    go_wp2_with fail
    have bw := Boxed.new w3 27 (.int .u64 (M : Int))
    have B4 := below_step B3 (made_below8 w3 (.cells #[.int .u64 (M : Int)] 27))
    have hw4 := bw.cell
    refine (HW.out _ B4).mono ?_
    rintro e w5 hw
    obtain ⟨X, q, d, rfl, S, b5⟩ := hw
    have B5 := below_step B4 b5
    have bw5 := bw.kept (grown_of_below b5) (by simp)
    have hw5 := bw5.cell
    clear S
    go_wp2_with fail
    refine (HR.out w5 w3.heap.size B5 bw5).mono ?_
    rintro e w6 ⟨rfl, b6⟩
    have B6 := below_step B5 b6
    go_wp2_with fail
    refine (bOf w6 z (by omega)).mono ?_
    rintro e w7 ⟨Y, r, f, rfl, S7, _, b7⟩
    go_wp2_with fail
    go_ret2
    exact ⟨Y, r, f, rfl, by rw [← HV.out]; exact S7, below_step B6 b7⟩
  · have HS := Lib.hid fun (u : World) (e : Below w.heap.size w u) => small_no8 (j.step e) hsm
    have HW := Lib.hid fun (u : World) (e : Below w.heap.size w u) => bMod_is v (h.step e) (j.step e) hv.symm h0 (by omega) (by omega)
    have hvn := nbits_mono (Nat.le_of_lt hvM)
    have hM1 : 1 < M := by omega
    have hMn : nbits M ≤ 4096 := by omega
    have hvn2 : nbits v ≤ 4096 := by omega
    have HMn := Lib.hid hMn
    have HVn := Lib.hid hvn2
    clear h i j bm hsM ht hv hvn hvn2 hMn
    go_enter Tryz.func63, Tryz.ntmps63
    go_wp2_with fail
    refine (HB.out).mono ?_
    rintro e w1 ⟨rfl, b1⟩
    have B1 := below_step b0 b1
    have bm1 := BM.out.kept (grown_of_below b1) (by simp)
    have hc1 := bm1.cell
    go_wp2_with fail
    refine (HI.out _ B1).mono ?_
    rintro e w2 ⟨rfl, b2⟩
    have B2 := below_step B1 b2
    have bm2 := bm1.kept (grown_of_below b2) (by simp)
    have hc2 := bm2.cell
    go_wp2_with fail
    refine (HS.out _ B2).mono ?_
    rintro e w3 ⟨rfl, b3⟩
    have B3 := below_step B2 b3
    have bm3 := bm2.kept (grown_of_below b3) (by simp)
    have b4 := made_below8 w3 (.cells #[.int .u64 0] 27)
    have B4 := below_step B3 b4
    have bm4 := bm3.kept (grown_of_below b4) (by simp)
    have hc4 := bm4.cell
    go_wp2_with fail
    refine (HW.out _ B4).mono ?_
    rintro e w5 ⟨X, q, d, rfl, S, b5⟩
    have B5 := below_step B4 b5
    have bm5 := bm4.kept (grown_of_below b5) (by simp)
    have hc5 := bm5.cell
    have hq := natIs_len8 (K := 64) S (by have := HVn.out; omega)
    have HS5 := Lib.hid S
    clear S
    go_wp2_with fail
    refine (bOf w5 1 (by omega)).mono ?_
    rintro e w6 ⟨Y, r, f, rfl, S6, _, b6⟩
    have B6 := below_step B5 b6
    have bm6 := bm5.kept (grown_of_below b6) (by simp)
    have HR := Lib.hid (raised2_pf v M w.heap.size E X A3 Y A2 q d k c3 r f m c2 w6 (I.out.step B6) (HS5.out.step b6).in_ (J.out.step B6) S6 bm6 hM1 HMn.out (by omega) hs3)
    clear S6
    go_wp2_with fail
    refine (HR.out).mono ?_
    rintro e w7 ⟨Z, s', y, rfl, S7, b7⟩
    go_wp2_with fail
    go_ret2
    exact ⟨Z, s', y, rfl, by rw [← HV.out]; exact S7, below_step B6 b7⟩
end
end Go.Proofs.YtjpfcdgaepdcdaaGreat
/- prime.Strong. Conditions: as typed (lengths that fit a machine). -/
namespace Go.Proofs.YtjpfcdgaepdcdaaGreat
open Go.RowKit
set_option maxRecDepth 20000
theorem odd_parts9 (m : Nat) (h : 0 < m) : ∃ s d, m = 2 ^ s * d ∧ d % 2 = 1 := by
  induction m using Nat.strongRecOn with
  | ind m ih =>
    by_cases ho : m % 2 = 1
    · exact ⟨0, m, by omega, ho⟩
    · obtain ⟨s, d, e, hd⟩ := ih (m / 2) (by omega) (by omega)
      exact ⟨s + 1, d, by rw [Nat.pow_succ, Nat.mul_assoc, Nat.mul_left_comm, ← e]; omega, hd⟩
theorem pow_twice9 (B d i N : Nat) : (B ^ (2 ^ i * d) % N) ^ 2 % N = B ^ (2 ^ (i + 1) * d) % N := by
  rw [← Nat.pow_mod, ← Nat.pow_mul]
  congr 2
  rw [Nat.pow_succ, Nat.mul_assoc, Nat.mul_comm d 2, Nat.mul_assoc]
theorem cmpS_ne9 {M N : Nat} (e : M ≠ N) : (cmpS M N == 0) = false ∧ -1 ≤ cmpS M N ∧ cmpS M N ≤ 1 := by
  unfold cmpS
  by_cases h : M < N
  · rw [if_pos h]; decide
  · rw [if_neg h, if_pos (by omega)]; decide
theorem nbits_two9 : nbits 2 = 2 := by decide
section
variable {w : World} {A A2 : Option Addr} {n m c c2 M N : Nat}
theorem cmp_eq9 (h : NatIn w A n c M) (k : NatIn w A2 m c2 N) (e : M = N) : Calls Tryz.prog 21 #[.slice A n c, .slice A2 m c2] w fun e w' => e = .returned (.int .i64 0) ∧ Below w.heap.size w w' := by
  have h := bCmp h k
  rwa [show cmpS M N = 0 by unfold cmpS; rw [if_neg (by omega), if_neg (by omega)]] at h
theorem cmp_ne9 (h : NatIn w A n c M) (k : NatIn w A2 m c2 N) (e : M ≠ N) : Calls Tryz.prog 21 #[.slice A n c, .slice A2 m c2] w fun e w' => ∃ v : Int, e = .returned (.int .i64 v) ∧ (v == 0) = false ∧ -1 ≤ v ∧ v ≤ 1 ∧ Below w.heap.size w w' :=
  (bCmp h k).mono fun _ _ ⟨he, hb⟩ => ⟨_, he, (cmpS_ne9 e).1, (cmpS_ne9 e).2.1, (cmpS_ne9 e).2.2, hb⟩
end
/-- Neither may be asked of, or there is nothing to pass. -/
theorem strong_no9 {w : World} {A A2 : Option Addr} {n m c c2 : Nat} {l l2 : List Nat} (P : RowIs w A n c l) (Q : RowIs w A2 m c2 l2)
    (h : ¬ ((l = wd (natOf l) ∧ nbits (natOf l) ≤ 1024) ∧ (l2 = wd (natOf l2) ∧ nbits (natOf l2) ≤ 1024) ∧ natOf l % 2 = 1 ∧ natOf l ≠ 1)) :
    Calls Tryz.prog 54 #[.slice A n c, .slice A2 m c2] w fun e w' => e = .returned (.bool false) ∧ Below w.heap.size w w' := by
  have hN := P.in_
  have hnl := P.2.2.1
  have hbn := hN.bits
  by_cases h1 : l = wd (natOf l) ∧ nbits (natOf l) ≤ 1024
  · have HF := Lib.hid (fits_any P true ⟨fun _ => h1, fun _ => rfl⟩)
    by_cases h2 : l2 = wd (natOf l2) ∧ nbits (natOf l2) ≤ 1024
    · have HF2 := Lib.hid fun (u : World) (e : Below w.heap.size w u) => fits_any (Q.step e) true ⟨fun _ => h2, fun _ => rfl⟩
      have HBt := Lib.hid fun (u : World) (e : Below w.heap.size w u) => bBit (hN.step e) 0 (by unfold MaxI; omega)
      by_cases h3 : natOf l % 2 = 1
      · rw [show bitS (natOf l) 0 = 1 by unfold bitS; rw [if_neg (by omega)]; show natOf l / 1 % 2 = 1; rw [Nat.div_one]; exact h3] at HBt
        have h4 : natOf l = 1 := by
          rcases Nat.decEq (natOf l) 1 with h5 | h5
          · exact absurd ⟨h1, h2, h3, h5⟩ h
          · exact h5
        have HBs := Lib.hid fun (u : World) (e : Below w.heap.size w u) => bBits (hN.step e)
        rw [h4, show nbits 1 = 1 by decide] at HBs
        clear h h1 h2 h3 h4 hN hbn hnl P Q
        go_enter Tryz.func54, Tryz.ntmps54
        go_wp2_with fail
        refine (HF.out).mono ?_
        rintro e w1 ⟨rfl, b1⟩
        go_wp2_with fail
        refine (HF2.out _ b1).mono ?_
        rintro e w2 ⟨rfl, b2⟩
        have B2 := below_step b1 b2
        go_wp2_with fail
        refine (HBt.out _ B2).mono ?_
        rintro e w3 ⟨rfl, b3⟩
        have B3 := below_step B2 b3
        go_wp2_with fail
        refine (HBs.out _ B3).mono ?_
        rintro e w4 ⟨rfl, b4⟩
        go_wp2_with fail
        go_ret
        exact ⟨rfl, below_step B3 b4⟩
      · rw [show bitS (natOf l) 0 = 0 by unfold bitS; rw [if_neg (by omega)]; show natOf l / 1 % 2 = 0; rw [Nat.div_one]; omega] at HBt
        clear h h1 h2 h3 hN hbn hnl P Q
        go_enter Tryz.func54, Tryz.ntmps54
        go_wp2_with fail
        refine (HF.out).mono ?_
        rintro e w1 ⟨rfl, b1⟩
        go_wp2_with fail
        refine (HF2.out _ b1).mono ?_
        rintro e w2 ⟨rfl, b2⟩
        have B2 := below_step b1 b2
        go_wp2_with fail
        refine (HBt.out _ B2).mono ?_
        rintro e w3 ⟨rfl, b3⟩
        go_wp2_with fail
        go_ret
        exact ⟨rfl, below_step B2 b3⟩
    · have HF2 := Lib.hid fun (u : World) (e : Below w.heap.size w u) => fits_any (Q.step e) false ⟨fun h => (by cases h), fun h => absurd h h2⟩
      clear h h1 h2 hN hbn hnl P Q
      go_enter Tryz.func54, Tryz.ntmps54
      go_wp2_with fail
      refine (HF.out).mono ?_
      rintro e w1 ⟨rfl, b1⟩
      go_wp2_with fail
      refine (HF2.out _ b1).mono ?_
      rintro e w2 ⟨rfl, b2⟩
      go_wp2_with fail
      go_ret
      exact ⟨rfl, below_step b1 b2⟩
  · have HF := Lib.hid (fits_any P false ⟨fun h => (by cases h), fun h => absurd h h1⟩)
    clear h h1 hN hbn hnl P Q
    go_enter Tryz.func54, Tryz.ntmps54
    go_wp2_with fail
    refine (HF.out).mono ?_
    rintro e w1 ⟨rfl, b1⟩
    go_wp2_with fail
    go_ret
    exact ⟨rfl, b1⟩
set_option maxRecDepth 100000 in
set_option maxHeartbeats 4000000 in
theorem strong_ask9 {w : World} {A A2 : Option Addr} {n m c c2 : Nat} {l l2 : List Nat} (P : RowIs w A n c l) (Q : RowIs w A2 m c2 l2)
    (h1 : l = wd (natOf l) ∧ nbits (natOf l) ≤ 1024) (h2 : l2 = wd (natOf l2) ∧ nbits (natOf l2) ≤ 1024) (h3 : natOf l % 2 = 1) (h4 : natOf l ≠ 1) (b : Bool) (hb : b = true ↔ PassD (natOf l) (natOf l2)) :
    Calls Tryz.prog 54 #[.slice A n c, .slice A2 m c2] w fun e w' => e = .returned (.bool b) ∧ Below w.heap.size w w' := by
  have hN := P.in_
  have hB := Q.in_
  have hnl : n ≤ 16 := by
    have h5 := length_wd (natOf l)
    rw [← h1.1, P.1] at h5
    omega
  have hml : m ≤ 16 := by
    have h5 := length_wd (natOf l2)
    rw [← h2.1, Q.1] at h5
    omega
  have HF := Lib.hid (fits_any P true ⟨fun _ => h1, fun _ => rfl⟩)
  have HF2 := Lib.hid fun (u : World) (e : Below w.heap.size w u) => fits_any (Q.step e) true ⟨fun _ => h2, fun _ => rfl⟩
  have HBt := Lib.hid fun (u : World) (e : Below w.heap.size w u) => bBit (hN.step e) 0 (by unfold MaxI; omega)
  rw [show bitS (natOf l) 0 = 1 by unfold bitS; rw [if_neg (by omega)]; show natOf l / 1 % 2 = 1; rw [Nat.div_one]; exact h3] at HBt
  have HBs := Lib.hid fun (u : World) (e : Below w.heap.size w u) => bBits (hN.step e)
  obtain ⟨N, hNN⟩ : ∃ N, natOf l = N := ⟨_, rfl⟩
  obtain ⟨B, hBB⟩ : ∃ B, natOf l2 = B := ⟨_, rfl⟩
  rw [hNN] at hN h3 h4 hb HBs
  rw [hBB] at hB hb
  have hNb : nbits N ≤ 1024 := by rw [← hNN]; exact h1.2
  have hN3 : 3 ≤ N := by omega
  obtain ⟨nb, hnb⟩ : ∃ nb, nbits N = nb := ⟨_, rfl⟩
  have hnb2 : 1 < nb := by
    rcases Nat.lt_or_ge 1 nb with h5 | h5
    · exact h5
    · have h6 := nbits_lt N
      have : 2 ^ nbits N ≤ 2 ^ 1 := Nat.pow_le_pow_right (by omega) (by omega)
      omega
  have hnbb : ((nb : Int) == 1) = false := by simp; omega
  rw [hnb] at HBs
  have hnbl : nb ≤ 1024 := by omega
  have HNB := Lib.hid hNb
  obtain ⟨s, d, he, hd⟩ := odd_parts9 (N - 1) (by omega)
  have hs1024 : s ≤ 1024 := by
    have h5 := nbits_lt N
    have h6 : 2 ^ s * 1 ≤ 2 ^ s * d := Nat.mul_le_mul_left _ (by omega)
    rcases Nat.lt_or_ge 1024 s with h7 | h7
    · have h8 : 2 ^ (nbits N) ≤ 2 ^ s := Nat.pow_le_pow_right (by omega) (by omega)
      omega
    · exact h7
  have hpd := passD_iff (a := B) hN3 h3 he hd
  rw [hpd] at hb
  have hdv : (N - 1) / 2 ^ s = d := by rw [he, Nat.mul_div_cancel_left _ (Nat.pow_pos (by omega))]
  have hdb : nbits d ≤ 1024 := by
    have h5 : d ≤ N := by
      have h6 : 1 * d ≤ 2 ^ s * d := Nat.mul_le_mul_right _ (Nat.pow_pos (by omega))
      omega
    have := nbits_mono h5
    omega
  have hr : ∀ i, B ^ (2 ^ i * d) % N < N := fun i => Nat.mod_lt _ (by omega)
  have hrb : ∀ i, nbits (B ^ (2 ^ i * d) % N) ≤ 1024 := fun i => by
    have := nbits_mono (Nat.le_of_lt (hr i))
    omega
  have HRB := Lib.hid hrb
  have HHB := Lib.hid hb
  have HTW := Lib.hid fun i => pow_twice9 B d i N
  have HDD := Lib.hid (show B ^ d % N = B ^ (2 ^ 0 * d) % N by rw [Nat.pow_zero, Nat.one_mul])
  have HN := Lib.hid hN
  have HB := Lib.hid hB
  have HSub := Lib.hid fun (u : World) (X : Option Addr) (q d0 : Nat) (e : Below w.heap.size w u) (k : NatIn u X q d0 1) => bSub_yes (hN.step e) k (by omega)
  have HHalf := Lib.hid fun (u : World) (X : Option Addr) (q d0 : Nat) (k : NatIn u X q d0 (N - 1)) => halvings_any k he hd (by omega)
  have HShr := Lib.hid fun (u : World) (X : Option Addr) (q d0 : Nat) (k : NatIn u X q d0 (N - 1)) => bShr k (s : Int)
  rw [show shrS (N - 1) (s : Int) = d by unfold shrS; rw [if_pos (by omega), Int.toNat_natCast, hdv]] at HShr
  have HExp := Lib.hid (show ∀ (u : World) (X : Option Addr) (q d0 : Nat), Below w.heap.size w u → NatIs u X q d0 d → Calls Tryz.prog 63 #[.slice A2 m c2, .slice X q d0, .slice A n c] u (OutOk (B ^ d % N) u) from fun u X q d0 e k => by
    have hq := natIs_len8 (K := 16) k (by omega)
    exact exp_ok8 (hB.step e) k.in_ (hN.step e) (by omega) (by omega) (by omega) (by omega) (by omega) (by omega))
  have HSq := Lib.hid (show ∀ (i : Nat) (u : World) (X Y : Option Addr) (q d0 q2 d2 : Nat), Below w.heap.size w u → NatIs u X q d0 (B ^ (2 ^ i * d) % N) → NatIs u Y q2 d2 2 →
      Calls Tryz.prog 63 #[.slice X q d0, .slice Y q2 d2, .slice A n c] u (OutOk ((B ^ (2 ^ i * d) % N) ^ 2 % N) u) from fun i u X Y q d0 q2 d2 e k k2 => by
    have hq := natIs_len8 (K := 16) k (by have := hrb i; omega)
    have hq2 := natIs_len8 (K := 16) k2 (by rw [nbits_two9]; omega)
    exact exp_ok8 k.in_ k2.in_ (hN.step e) (by omega) (by rw [nbits_two9]; omega) (by omega) (by omega) (by omega) (by omega))
  have hN1 := Lib.hid (show N - 1 ≠ 1 by omega)
  clear h1 h2 h3 h4 hb hN hB P Q hNN hBB hNb hnb he hd hpd hdv hdb hr hrb
  go_enter Tryz.func54, Tryz.ntmps54
  go_wp2_with fail
  refine (HF.out).mono ?_
  rintro e w1 ⟨rfl, b1⟩
  go_wp2_with fail
  refine (HF2.out _ b1).mono ?_
  rintro e w2 ⟨rfl, b2⟩
  have B2 := below_step b1 b2
  go_wp2_with fail
  refine (HBt.out _ B2).mono ?_
  rintro e w3 ⟨rfl, b3⟩
  have B3 := below_step B2 b3
  go_wp2_with fail
  refine (HBs.out _ B3).mono ?_
  rintro e w4 ⟨rfl, b4⟩
  have B4 := below_step B3 b4
  go_wp2_with fail
  refine (bOf w4 1 (by omega)).mono ?_
  rintro e w5 ⟨X1, q1, d1, rfl, S1, _, b5⟩
  have B5 := below_step B4 b5
  have HS1 := Lib.hid S1
  clear S1
  go_wp2_with fail
  refine (bOf w5 2 (by omega)).mono ?_
  rintro e w6 ⟨X2, q2, d2, rfl, S2, _, b6⟩
  have B6 := below_step B5 b6
  have HS2 := Lib.hid S2
  have HS1b := Lib.hid (HS1.out.step b6)
  clear S2 HS1
  go_wp2_with fail
  refine (HSub.out w6 X1 q1 d1 B6 HS1b.out.in_).mono ?_
  rintro e w7 ⟨X3, q3, d3, rfl, S3, _, b7⟩
  have B7 := below_step B6 b7
  have HS3 := Lib.hid S3
  have HS1c := Lib.hid (HS1b.out.step b7)
  have HS2c := Lib.hid (HS2.out.step b7)
  clear S3 HS1b HS2
  go_wp2_with fail
  refine (HHalf.out w7 X3 q3 d3 HS3.out.in_).mono ?_
  rintro e w8 ⟨rfl, b8⟩
  have B8 := below_step B7 b8
  have HS3d := Lib.hid (HS3.out.step b8)
  have HS1d := Lib.hid (HS1c.out.step b8)
  have HS2d := Lib.hid (HS2c.out.step b8)
  clear HS3 HS1c HS2c
  go_wp2_with fail
  refine (HShr.out w8 X3 q3 d3 HS3d.out.in_).mono ?_
  rintro e w9 ⟨X4, q4, d4, rfl, S4, _, b9⟩
  have B9 := below_step B8 b9
  have HS4 := Lib.hid S4
  have HS3e := Lib.hid (HS3d.out.step b9)
  have HS1e := Lib.hid (HS1d.out.step b9)
  have HS2e := Lib.hid (HS2d.out.step b9)
  clear S4 HS3d HS1d HS2d
  go_wp2_with fail
  refine (HExp.out w9 X4 q4 d4 B9 HS4.out).mono ?_
  rintro e w10 ⟨X5, q5, d5, rfl, S5, b10⟩
  have B10 := below_step B9 b10
  rw [HDD.out] at S5
  have HS5 := Lib.hid S5
  have HS3f := Lib.hid (HS3e.out.step b10)
  have HS1f := Lib.hid (HS1e.out.step b10)
  have HS2f := Lib.hid (HS2e.out.step b10)
  clear S5 HS3e HS1e HS2e HS4
  by_cases hx1 : B ^ (2 ^ 0 * d) % N = 1
  · have hbt : b = true := HHB.out.2 (.inl (by rw [HDD.out]; exact hx1))
    subst hbt
    have HC := Lib.hid (cmp_eq9 HS5.out.in_ HS1f.out.in_ hx1)
    clear hx1
    go_wp2_with fail
    refine (HC.out).mono ?_
    rintro e w11 ⟨rfl, b11⟩
    go_wp2_with fail
    go_ret
    exact ⟨rfl, below_step B10 b11⟩
  · have HC := Lib.hid (cmp_ne9 HS5.out.in_ HS1f.out.in_ hx1)
    have HX1 := Lib.hid hx1
    clear hx1
    go_wp2_with fail
    refine (HC.out).mono ?_
    rintro e w11 ⟨v, rfl, hv0, hv1, hv2, b11⟩
    have B11 := below_step B10 b11
    have HS5g := Lib.hid (HS5.out.step b11)
    have HS3g := Lib.hid (HS3f.out.step b11)
    have HS2g := Lib.hid (HS2f.out.step b11)
    clear HS5 HS3f HS2f HS1f
    go_wp2_with fail
    go_loopw [54, 10] (fun iv xv wr => ∃ (i : Nat) (X : Option Addr) (q d0 : Nat), iv = .int .i64 i ∧ xv = .slice X q d0 ∧ i ≤ s ∧ Hid (NatIs wr X q d0 (B ^ (2 ^ i * d) % N)) ∧ Hid (∀ j, j < i → B ^ (2 ^ j * d) % N ≠ N - 1) ∧ Below w11.heap.size w11 wr) (fun iv _ _ => s - (intOf iv).toNat)
    case atStart => exact ⟨0, X5, q5, d5, rfl, rfl, Nat.zero_le _, HS5g, Lib.hid (fun j hj => by omega), Below.refl _ _⟩
    case round =>
      obtain ⟨i, X, q, d0, rfl, rfl, hi, hX, hno, hbw⟩ := hrel
      by_cases hlt : i < s
      · have BW := below_step B11 hbw
        have h3 := HS3g.out.step hbw
        by_cases hx : B ^ (2 ^ i * d) % N = N - 1
        · have hbt : b = true := HHB.out.2 (.inr ⟨i, hlt, hx⟩)
          have HC := Lib.hid (cmp_eq9 hX.out.in_ h3.in_ hx)
          subst hbt
          clear hx h3 hX
          go_wp2_with fail
          refine (HC.out).mono ?_
          rintro e w12 ⟨rfl, b12⟩
          go_wp2_with fail
          go_ret
          exact ⟨rfl, below_step BW b12⟩
        · have HC := Lib.hid (cmp_ne9 hX.out.in_ h3.in_ hx)
          have HNO := Lib.hid (show ∀ j, j < i + 1 → B ^ (2 ^ j * d) % N ≠ N - 1 from fun j hj => by
            rcases Nat.lt_or_ge j i with h5 | h5
            · exact hno.out j h5
            · obtain rfl : j = i := by omega
              exact hx)
          clear hx h3 hno
          go_wp2_with fail
          refine (HC.out).mono ?_
          rintro e w12 ⟨v2, rfl, hv20, hv21, hv22, b12⟩
          have B12 := below_step BW b12
          have bw12 := below_step hbw b12
          have HE := Lib.hid (HSq.out i w12 X X2 q d0 q2 d2 B12 (hX.out.step b12) (HS2g.out.step bw12))
          rw [HTW.out i] at HE
          go_wp2_with fail
          refine (HE.out).mono ?_
          rintro e w13 ⟨X6, q6, d6, rfl, S6, b13⟩
          have HS6 := Lib.hid S6
          clear S6
          go_wp2_with fail
          go_roundw
          case rel => exact ⟨i + 1, X6, q6, d6, by go_num, rfl, by omega, HS6, HNO, below_step bw12 b13⟩
          case measure => simp [intOf]; omega
      · obtain rfl : i = s := by omega
        have hbf : b = false := by
          rcases hb : b with _ | _
          · rfl
          · rcases HHB.out.1 hb with h5 | ⟨j, h5, h6⟩
            · exact absurd (by rw [← HDD.out]; exact h5) HX1.out
            · exact absurd h6 (hno.out j h5)
        subst hbf
        go_wp2_with fail
        go_ret
        exact ⟨rfl, below_step B11 hbw⟩
theorem strong_any9 {w : World} {A A2 : Option Addr} {n m c c2 : Nat} {l l2 : List Nat} (P : RowIs w A n c l) (Q : RowIs w A2 m c2 l2) (b : Bool) (hb : b = true ↔ (l = wd (natOf l) ∧ l2 = wd (natOf l2) ∧ nbits (natOf l) ≤ 1024 ∧ nbits (natOf l2) ≤ 1024 ∧ PassD (natOf l) (natOf l2))) :
    Calls Tryz.prog 54 #[.slice A n c, .slice A2 m c2] w fun e w' => e = .returned (.bool b) ∧ Below w.heap.size w w' := by
  by_cases h : (l = wd (natOf l) ∧ nbits (natOf l) ≤ 1024) ∧ (l2 = wd (natOf l2) ∧ nbits (natOf l2) ≤ 1024) ∧ natOf l % 2 = 1 ∧ natOf l ≠ 1
  · obtain ⟨h1, h2, h3, h4⟩ := h
    exact strong_ask9 P Q h1 h2 h3 h4 b (hb.trans ⟨fun h => h.2.2.2.2, fun h => ⟨h1.1, h2.1, h1.2, h2.2, h⟩⟩)
  · have hbf : b = false := by
      rcases hb2 : b with _ | _
      · rfl
      · obtain ⟨e1, e2, e3, e4, e5, e6, _⟩ := hb.1 hb2
        exact absurd ⟨⟨e1, e3⟩, ⟨e2, e4⟩, e6, by omega⟩ h
    subst hbf
    exact strong_no9 P Q h
end Go.Proofs.YtjpfcdgaepdcdaaGreat

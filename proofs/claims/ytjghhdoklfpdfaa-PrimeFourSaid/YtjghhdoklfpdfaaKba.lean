/- Several texts in one; each begins with a remark that says what it shows and on which conditions. -/
import Derived.Test.YtjghhdoklfpdfaaKaz
import Derived.Test.YtjghhdoklfpdfaaKaw
/- The reckoning of primes above 2^16. No condition; no program is named. -/
namespace Go.Proofs.Ytjghhdoklfpdfaa
set_option maxRecDepth 20000
theorem r_great0 : (fN (prodP 16 1) fun W => fN (Nat.mul W (prodL exD)) fun W => chkK W 8190 2) = true := by decide +kernel
theorem r_great1 : (fN (prodP 16 1) fun W => fN (Nat.mul W (prodL exD)) fun W => chkK W 8192 8192) = true := by decide +kernel
theorem r_great2 : (fN (prodP 16 1) fun W => fN (Nat.mul W (prodL exD)) fun W => chkK W 8192 16384) = true := by decide +kernel
theorem r_great3 : (fN (prodP 16 1) fun W => fN (Nat.mul W (prodL exD)) fun W => chkK W 8192 24576) = true := by decide +kernel
theorem r_great4 : (fN (prodP 16 1) fun W => fN (Nat.mul W (prodL exD)) fun W => chkK W 8192 32768) = true := by decide +kernel
theorem r_great5 : (fN (prodP 16 1) fun W => fN (Nat.mul W (prodL exD)) fun W => chkK W 8192 40960) = true := by decide +kernel
theorem r_great6 : (fN (prodP 16 1) fun W => fN (Nat.mul W (prodL exD)) fun W => chkK W 8192 49152) = true := by decide +kernel
theorem r_great7 : (fN (prodP 16 1) fun W => fN (Nat.mul W (prodL exD)) fun W => chkK W 8192 57344) = true := by decide +kernel
theorem great_one {f k0 k : Nat} (h : (fN (prodP 16 1) fun W => fN (Nat.mul W (prodL exD)) fun W => chkK W f k0) = true) (h0 : k0 ≤ k) (h1 : k < k0 + f) (hg : Nat.gcd k 210 = 1) : GG (k - 1) ∣ prodP 16 1 * prodL exD := by
  rw [fN_eq, fN_eq] at h
  have := chkK_true f k0 h (k - k0) (by omega)
  rw [show k0 + (k - k0) = k by omega] at this
  exact this hg
theorem great_all : ∀ k, 2 ≤ k → k < 65536 → Nat.gcd k 210 = 1 → GG (k - 1) ∣ prodP 16 1 * prodL exD := fun k _ _ hg => by
  by_cases h0 : k < 8192
  · exact great_one r_great0 (by omega) (by omega) hg
  by_cases h1 : k < 16384
  · exact great_one r_great1 (by omega) (by omega) hg
  by_cases h2 : k < 24576
  · exact great_one r_great2 (by omega) (by omega) hg
  by_cases h3 : k < 32768
  · exact great_one r_great3 (by omega) (by omega) hg
  by_cases h4 : k < 40960
  · exact great_one r_great4 (by omega) (by omega) hg
  by_cases h5 : k < 49152
  · exact great_one r_great5 (by omega) (by omega) hg
  by_cases h6 : k < 57344
  · exact great_one r_great6 (by omega) (by omega) hg
  exact great_one r_great7 (by omega) (by omega) hg
end Go.Proofs.Ytjghhdoklfpdfaa
/- What passes to 2, 3, 5 and 7 and is below 2^32 is a prime, or 3215031751; a prime passes to all bases that it does not divide. No condition but those typed; no program is named. -/
namespace Go.Proofs.Ytjghhdoklfpdfaa
/-- What passes to the four bases. -/
theorem four_bases {n : Nat} (hn : 1 < n) (hlt : n < 4294967296) (h2 : Pass n 2) (h3 : Pass n 3) (h5 : Pass n 5) (h7 : Pass n 7) : Prm n ∨ n = 3215031751 :=
  four_of ⟨r_small, r_signs, r_few1, mid_all, r_few2, great_all, more_all⟩ hn hlt ⟨h2, h3, h5, h7⟩
/-- What squared leaves 1 leaves 1 or p - 1. -/
theorem Prm.root {p x : Nat} (hp : Prm p) (h : x * x % p = 1) : x % p = 1 ∨ x % p = p - 1 := by
  have h2 := hp.1
  obtain ⟨y, hy⟩ : ∃ y, x % p = y := ⟨_, rfl⟩
  rw [Nat.mul_mod, hy] at h
  rw [hy]
  have hlt : y < p := by rw [← hy]; exact Nat.mod_lt _ (by omega)
  rcases y with _ | y
  · rw [Nat.zero_mul, Nat.zero_mod] at h; omega
  · have hd : p ∣ y * (y + 2) := by
      have e : (y + 1) * (y + 1) = y * (y + 2) + 1 := by simp only [Nat.add_mul, Nat.mul_add]; omega
      have hm := Nat.div_add_mod ((y + 1) * (y + 1)) p
      rw [h, e] at hm
      exact ⟨_, (Nat.add_right_cancel hm).symm⟩
    rcases hp.euclid _ _ hd with h1 | h1
    · rcases Nat.eq_zero_or_pos y with h0 | h0
      · subst h0; exact .inl rfl
      · have := Nat.le_of_dvd h0 h1; omega
    · have := Nat.le_of_dvd (by omega) h1
      exact .inr (by omega)
/-- A prime passes. -/
theorem Prm.pass {p a : Nat} (hp : Prm p) (ho : p % 2 = 1) (ha : ¬ p ∣ a) : Pass p a := by
  have h2 := hp.1
  have hf := fermat hp ha
  have hodd : ∀ m, 0 < m → ∃ s d, m = 2 ^ s * d ∧ d % 2 = 1 := by
    intro m
    induction m using Nat.strongRecOn with
    | ind m ih =>
      intro hm
      rcases (show m % 2 = 0 ∨ m % 2 = 1 by omega) with h | h
      · obtain ⟨s, d, e, hd⟩ := ih (m / 2) (by omega) (by omega)
        refine ⟨s + 1, d, ?_, hd⟩
        rw [Nat.pow_succ, Nat.mul_assoc, Nat.mul_comm 2, ← Nat.mul_assoc, ← e]
        omega
      · exact ⟨0, m, by simp, h⟩
  obtain ⟨s, d, e, hd⟩ := hodd (p - 1) (by omega)
  refine ⟨s, d, e, hd, ?_⟩
  rw [e] at hf
  have key : ∀ s, a ^ (2 ^ s * d) % p = 1 → a ^ d % p = 1 ∨ ∃ i, i < s ∧ a ^ (2 ^ i * d) % p = p - 1 := by
    intro s
    induction s with
    | zero => intro h; rw [Nat.pow_zero, Nat.one_mul] at h; exact .inl h
    | succ s ih =>
      intro h
      have e2 : 2 ^ (s + 1) * d = 2 ^ s * d + 2 ^ s * d := by rw [Nat.pow_succ, Nat.mul_assoc, Nat.mul_comm 2 d, ← Nat.mul_assoc, ← Nat.mul_two]
      rw [e2, Nat.pow_add] at h
      rcases hp.root h with h1 | h1
      · rcases ih h1 with h3 | ⟨i, hi, h3⟩
        · exact .inl h3
        · exact .inr ⟨i, by omega, h3⟩
      · exact .inr ⟨s, by omega, h1⟩
  exact key s hf
end Go.Proofs.Ytjghhdoklfpdfaa
/- Plain facts on trying, on passing to bases, and on primes between a number and twice it. No condition but those typed; no program is named. -/
namespace Go.Proofs.Ytjghhdoklfpdfaa
theorem least_where (P : Nat → Prop) [DecidablePred P] : ∀ k, (∃ d, d < k ∧ P d ∧ ∀ e, e < d → ¬ P e) ∨ ∀ d, d < k → ¬ P d := by
  intro k
  induction k with
  | zero => exact .inr fun d h => by omega
  | succ k ih =>
    rcases ih with ⟨d, h1, h2, h3⟩ | h
    · exact .inl ⟨d, by omega, h2, h3⟩
    · by_cases hk : P k
      · exact .inl ⟨k, by omega, hk, h⟩
      · refine .inr fun d hd => ?_
        rcases Nat.lt_succ_iff_lt_or_eq.1 hd with h1 | rfl
        · exact h d h1
        · exact hk
/-- The least number from 2 to most, and to 65536, that divides n and is less; or 0. -/
def IsTrial (n most r : Nat) : Prop := (r = 0 ∧ ∀ d, 2 ≤ d → d ≤ most → d ≤ 65536 → d < n → n % d ≠ 0) ∨ (2 ≤ r ∧ r ≤ most ∧ r ≤ 65536 ∧ r < n ∧ n % r = 0 ∧ ∀ d, 2 ≤ d → d < r → n % d ≠ 0)
theorem isTrial_some (n most : Nat) : ∃ r, IsTrial n most r := by
  rcases least_where (fun d => 2 ≤ d ∧ d ≤ most ∧ d ≤ 65536 ∧ d < n ∧ n % d = 0) 65537 with ⟨d, _, ⟨h1, h2, h3, h4, h5⟩, h6⟩ | h
  · exact ⟨d, .inr ⟨h1, h2, h3, h4, h5, fun e he hd hz => h6 e hd ⟨he, by omega, by omega, by omega, hz⟩⟩⟩
  · exact ⟨0, .inl ⟨rfl, fun d h1 h2 h3 h4 h5 => h d (by omega) ⟨h1, h2, h3, h4, h5⟩⟩⟩
theorem isTrial_uniq {n most r s : Nat} (h : IsTrial n most r) (k : IsTrial n most s) : r = s := by
  rcases h with ⟨rfl, h⟩ | ⟨h1, h2, h3, h4, h5, h6⟩ <;> rcases k with ⟨rfl, k⟩ | ⟨k1, k2, k3, k4, k5, k6⟩
  · rfl
  · exact absurd k5 (h s k1 k2 k3 k4)
  · exact absurd h5 (k r h1 h2 h3 h4)
  · rcases Nat.lt_trichotomy r s with h7 | h7 | h7
    · exact absurd h5 (k6 r h1 h7)
    · exact h7
    · exact absurd k5 (h6 s k1 h7)
/-- A number passes, as the chapter says it. -/
def PassD (n a : Nat) : Prop := 3 ≤ n ∧ n % 2 = 1 ∧ Pass n a
theorem passD_iff {n a s d : Nat} (h3 : 3 ≤ n) (ho : n % 2 = 1) (he : n - 1 = 2 ^ s * d) (hd : d % 2 = 1) : PassD n a ↔ (a ^ d % n = 1 ∨ ∃ i, i < s ∧ a ^ (2 ^ i * d) % n = n - 1) := by
  refine ⟨?_, fun h => ⟨h3, ho, s, d, he, hd, h⟩⟩
  rintro ⟨_, _, t, e, h1, h2, h⟩
  obtain ⟨rfl, rfl⟩ := odd_uniq hd h2 (he.symm.trans h1)
  exact h
/-- A number passes to all of the bases that it does not divide, one at least; or it is 2. -/
def ProbD (n : Nat) (l : List Nat) : Prop := n = 2 ∨ ((∃ x ∈ l, ¬ (0 < n ∧ x % n = 0)) ∧ ∀ x ∈ l, ¬ (0 < n ∧ x % n = 0) → PassD n x)
/-! Primes by trying -/
theorem prm_iff_try {n : Nat} : Prm n ↔ 2 ≤ n ∧ ∀ d, 2 ≤ d → d * d ≤ n → n % d ≠ 0 := by
  constructor
  · intro h
    refine ⟨h.1, fun d h1 h2 h3 => ?_⟩
    rcases h.2 d (Nat.dvd_of_mod_eq_zero h3) with e | e
    · omega
    · subst e
      have : d * 2 ≤ d * d := Nat.mul_le_mul_left _ h1
      omega
  · rintro ⟨h2, h⟩
    obtain ⟨p, hp, hd⟩ := prm_factor n h2
    by_cases hpp : p * p ≤ n
    · exact absurd (Nat.mod_eq_zero_of_dvd hd) (h p hp.1 hpp)
    · obtain ⟨q, rfl⟩ := hd
      have hq : q < p := by
        rcases Nat.lt_or_ge q p with e | e
        · exact e
        · exact absurd (Nat.mul_le_mul_left p e) hpp
      have hp2 := hp.1
      rcases Nat.lt_or_ge q 2 with e | e
      · have : q = 1 := by
          rcases Nat.eq_zero_or_pos q with e0 | e0
          · subst e0; simp at h2
          · omega
        subst this
        rwa [Nat.mul_one]
      · exfalso
        refine h q e ?_ (Nat.mul_mod_left _ _)
        exact Nat.mul_le_mul_right q (Nat.le_of_lt hq)
/-- None from k on, so many, divides n. -/
def noneB (n : Nat) (f : Nat) : Nat → Bool := Nat.rec (motive := fun _ => Nat → Bool) (fun _ => true) (fun _ ih d => cond (Nat.beq (Nat.mod n d) 0) false (fN (Nat.succ d) ih)) f
theorem noneB_true {n : Nat} : ∀ f d, noneB n f d = true → ∀ e, d ≤ e → e < d + f → n % e ≠ 0 := by
  intro f
  induction f with
  | zero => intro d _ e h1 h2; omega
  | succ f ih =>
    intro d h e h1 h2
    have h' : cond (Nat.beq (Nat.mod n d) 0) false (fN (Nat.succ d) (noneB n f)) = true := h
    rw [fN_eq] at h'
    cases hb : Nat.beq (Nat.mod n d) 0 with
    | true => rw [hb] at h'; cases h'
    | false =>
      rw [hb] at h'
      rcases Nat.lt_or_ge d e with h3 | h3
      · exact ih (d + 1) h' e h3 (by omega)
      · obtain rfl : e = d := by omega
        intro h0
        have : Nat.beq (Nat.mod n e) 0 = true := beqP_of h0
        rw [this] at hb
        cases hb
theorem prm_tried {n f : Nat} (h2 : 2 ≤ n) (h : noneB n f 2 = true) (hf : n < (f + 2) * (f + 2)) : Prm n :=
  prm_iff_try.2 ⟨h2, fun d h1 h3 => noneB_true f 2 h d h1 (by
    rcases Nat.lt_or_ge d (2 + f) with e | e
    · exact e
    · have := Nat.mul_le_mul e e
      rw [Nat.add_comm 2 f] at this
      omega)⟩
theorem prm_great : Prm 2147483659 := prm_tried (f := 46340) (by omega) (by decide +kernel) (by omega)
/-- A prime above: the least. -/
def NextP (n p : Nat) : Prop := Prm p ∧ n < p ∧ ∀ q, Prm q → n < q → p ≤ q
theorem nextP_below {n m : Nat} (hm : Prm m) (h : n < m) : ∃ p, NextP n p ∧ p ≤ m := by
  have key : ∀ k, n + k = m → ∃ p, NextP n p ∧ p ≤ m := by
    intro k hk
    have : ∃ d, d < m + 1 ∧ (Prm d ∧ n < d) ∧ ∀ e, e < d → ¬ (Prm e ∧ n < e) := by
      haveI : DecidablePred fun d => Prm d ∧ n < d := fun d => Classical.propDecidable _
      rcases least_where (fun d => Prm d ∧ n < d) (m + 1) with h1 | h1
      · exact h1
      · exact absurd ⟨hm, h⟩ (h1 m (by omega))
    obtain ⟨d, h1, h2, h3⟩ := this
    exact ⟨d, ⟨h2.1, h2.2, fun q h4 h5 => Nat.le_of_not_lt fun h6 => h3 q h6 ⟨h4, h5⟩⟩, by omega⟩
  exact key (m - n) (by omega)
theorem nextP_some {n : Nat} (h : n < 2147483659) : ∃ p, NextP n p ∧ p ≤ 2147483659 := nextP_below prm_great h
theorem nextP_uniq {n p q : Nat} (h : NextP n p) (k : NextP n q) : p = q := Nat.le_antisymm (h.2.2 q k.1 k.2.1) (k.2.2 p h.1 h.2.1)
/-- Primes, each at most twice the one ahead. -/
def chain9 : List Nat := [2, 3, 5, 7, 13, 23, 43, 83, 163, 317, 631, 1259, 2503, 5003, 9973, 19937, 39869, 79699, 159389, 318751, 637499, 1274989]
def most9 (p : Nat) : Nat := cond (Nat.ble p 3) 0 (cond (Nat.ble p 1200) (p - 2) 1198)
def good9 (p f : Nat) : Bool := cond (noneB p f 2) (cond (Nat.ble 2 p) (Nat.blt p ((f + 2) * (f + 2))) false) false
theorem good9_prime {p f : Nat} (h : good9 p f = true) : Prm p := by
  unfold good9 at h
  cases h1 : noneB p f 2 with
  | false => rw [h1] at h; cases h
  | true =>
    cases h2 : Nat.ble 2 p with
    | false => rw [h1, h2] at h; cases h
    | true =>
      rw [h1, h2] at h
      exact prm_tried (Nat.le_of_ble_eq_true h2) h1 (Nat.le_of_ble_eq_true h)
theorem chain9_good : (chain9.all fun p => good9 p (most9 p)) = true := by decide +kernel
theorem chain9_prime : ∀ p ∈ chain9, Prm p := fun p hp => good9_prime (List.all_eq_true.1 chain9_good p hp)
theorem chain9_step : ∀ (l : List Nat) (n a : Nat), (∀ p ∈ a :: l, Prm p) → (∀ i (h : i + 1 < (a :: l).length), (a :: l)[i + 1] ≤ 2 * (a :: l)[i]) → a ≤ n → (∃ p ∈ a :: l, n < p) → ∃ p, Prm p ∧ n < p ∧ p ≤ 2 * n := by
  intro l
  induction l with
  | nil =>
    rintro n a _ _ h1 ⟨p, hp, h2⟩
    simp at hp
    omega
  | cons b l ih =>
    rintro n a hP hS h1 ⟨p, hp, h2⟩
    by_cases hb : b ≤ n
    · refine ih n b (fun q hq => hP q (List.mem_cons_of_mem _ hq)) (fun i h => ?_) hb ⟨p, ?_, h2⟩
      · have := hS (i + 1) (by simp at h ⊢; omega)
        simpa using this
      · rcases List.mem_cons.1 hp with rfl | hp
        · omega
        · exact hp
    · have := hS 0 (by simp)
      simp at this
      exact ⟨b, hP b (by simp), by omega, by omega⟩
/-- Between a number and twice it there is a prime. -/
theorem twice9 {n : Nat} (h1 : 1 ≤ n) (h : n < 1274989) : ∃ p, Prm p ∧ n < p ∧ p ≤ 2 * n := by
  by_cases h2 : n < 2
  · obtain rfl : n = 1 := by omega
    exact ⟨2, prm_tried (f := 0) (by omega) rfl (by omega), by omega, by omega⟩
  · refine chain9_step _ n 2 chain9_prime ?_ (by omega) ⟨1274989, by decide, h⟩
    have : ((List.range 21).all fun i => decide (chain9[i + 1]! ≤ 2 * chain9[i]!)) = true := by decide
    intro i hi
    have hl : i + 1 < 22 := hi
    have hl2 : chain9.length = 22 := rfl
    have h3 := of_decide_eq_true (List.all_eq_true.1 this i (List.mem_range.2 (by omega)))
    rw [getElem!_pos chain9 (i + 1) hi, getElem!_pos chain9 i (by omega)] at h3
    exact h3
end Go.Proofs.Ytjghhdoklfpdfaa
/- prime's small functions: ofWord, fits, halvings. Conditions: as typed (lengths that fit a machine). -/
namespace Go.Proofs.Ytjghhdoklfpdfaa
open Go.RowKit
set_option maxRecDepth 20000
/-- None from 2 on and below d divides. -/
def NoneTo (n d : Nat) : Prop := ∀ e, 2 ≤ e → e < d → n % e ≠ 0
theorem NoneTo.two (n : Nat) : NoneTo n 2 := fun e h1 h2 => by omega
theorem NoneTo.three {n : Nat} (h : n % 2 ≠ 0) : NoneTo n 3 := fun e h1 h2 => by
  obtain rfl : e = 2 := by omega
  exact h
theorem NoneTo.odd {n d : Nat} (h : NoneTo n d) (h3 : 3 ≤ d) (ho : d % 2 = 1) : NoneTo n (d + 2) ↔ n % d ≠ 0 := by
  refine ⟨fun k => k d (by omega) (by omega), fun hd e h1 h2 => ?_⟩
  rcases Nat.lt_or_ge e d with h4 | h4
  · exact h e h1 h4
  · rcases Nat.eq_or_lt_of_le h4 with rfl | h5
    · exact hd
    · obtain rfl : e = d + 1 := by omega
      intro h0
      have h6 : n % (d + 1) % 2 = n % 2 := Nat.mod_mod_of_dvd n (Nat.dvd_of_mod_eq_zero (by omega))
      rw [h0] at h6
      exact h 2 (by omega) (by omega) h6.symm
theorem NoneTo.next {n d : Nat} (h : NoneTo n d) (h2 : 2 ≤ d) (hd : n % d ≠ 0) (ho : d = 2 ∨ d % 2 = 1) : NoneTo n (d + (1 + d % 2)) := by
  rcases ho with rfl | ho
  · exact NoneTo.three hd
  · rw [ho]
    exact (h.odd (by omega) ho).2 hd
theorem trial_found {n most d : Nat} (h : NoneTo n d) (h2 : 2 ≤ d) (hm : d ≤ most) (hb : d ≤ 65536) (hn : d < n) (h0 : n % d = 0) : IsTrial n most d := .inr ⟨h2, hm, hb, hn, h0, h⟩
theorem trial_past {n most d : Nat} (h : NoneTo n d) (hm : most < d ∨ 65536 < d) : IsTrial n most 0 := .inl ⟨rfl, fun e h1 h2 h3 _ => h e h1 (by omega)⟩
theorem trial_root {n most d : Nat} (h : NoneTo n d) (hs : n < d * d) : IsTrial n most 0 := .inl ⟨rfl, fun e h1 _ _ h4 h0 => by
  rcases Nat.lt_or_ge e d with h5 | h5
  · exact h e h1 h5 h0
  · obtain ⟨f, rfl⟩ := Nat.dvd_of_mod_eq_zero h0
    have h6 : f < d := by
      rcases Nat.lt_or_ge f d with h7 | h7
      · exact h7
      · have := Nat.mul_le_mul h5 h7
        omega
    have h7 : 2 ≤ f := by
      rcases Nat.lt_or_ge f 2 with h8 | h8
      · have : e * f ≤ e * 1 := Nat.mul_le_mul_left e (by omega)
        omega
      · exact h8
    exact h f h7 h6 (Nat.mul_mod_left _ _)⟩
theorem trial_min {n most r : Nat} : IsTrial n (min most 65536) r ↔ IsTrial n most r := by
  unfold IsTrial
  constructor
  · rintro (⟨h1, h2⟩ | ⟨h1, h2, h3, h4⟩)
    · exact .inl ⟨h1, fun d h3 h4 h5 => h2 d h3 (by omega) h5⟩
    · exact .inr ⟨h1, by omega, h3, h4⟩
  · rintro (⟨h1, h2⟩ | ⟨h1, h2, h3, h4⟩)
    · exact .inl ⟨h1, fun d h3 h4 h5 => h2 d h3 (by omega) h5⟩
    · exact .inr ⟨h1, by omega, h3, h4⟩
set_option maxHeartbeats 1000000 in
theorem ofWord_any (n most r : Nat) (hn : n < 18446744073709551616) (hm : most ≤ 65536) (hr : IsTrial n most r) (b : Bool) (hb : b = true ↔ r ≠ 0) (w : World) :
    Calls Try.prog 21 #[.int .u64 n, .int .u64 most] w fun e w' => e = .returned (.tuple #[.int .u64 r, .bool b]) ∧ w = w' := by
  have HR := Lib.hid hr
  have HB := Lib.hid hb
  clear hr hb
  go_enter Try.func21, Try.ntmps21
  go_wp2_with fail
  go_loopw [6] (fun dv wr => ∃ d : Nat, dv = .int .u64 d ∧ 2 ≤ d ∧ d ≤ 65540 ∧ Hid (d = 2 ∨ d % 2 = 1) ∧ Hid (NoneTo n d) ∧ w = wr) (fun dv _ => 65542 - (intOf dv).toNat)
  case atStart => exact ⟨2, rfl, by omega, by omega, Lib.hid (.inl rfl), Lib.hid (NoneTo.two n), rfl⟩
  case round =>
    obtain ⟨d, rfl, h2, hd, ho, hN, rfl⟩ := hrel
    by_cases h1 : d ≤ most
    · obtain ⟨q, hq⟩ : ∃ q, d * d = q := ⟨_, rfl⟩
      have hql : q ≤ 65536 * 65536 := by rw [← hq]; exact Nat.mul_le_mul (by omega) (by omega)
      have hqi : (d : Int) * (d : Int) = (q : Int) := by rw [← hq]; simp
      have HQ := Lib.hid hq
      clear hq
      by_cases h3 : q ≤ n
      · obtain ⟨y, hy⟩ : ∃ y, n % d = y := ⟨_, rfl⟩
        have hyi : (n : Int) % (d : Int) = (y : Int) := by rw [← hy]; simp
        have HY := Lib.hid hy
        clear hy
        by_cases h4 : y = 0
        · subst h4
          have hdn : d < n := by
            have h5 := HQ.out
            have : d * 2 ≤ d * d := Nat.mul_le_mul_left d h2
            omega
          have hrd : r = d := isTrial_uniq HR.out (trial_found hN.out h2 h1 (by omega) hdn HY.out)
          have hbt : b = true := HB.out.2 (by omega)
          subst hrd
          subst hbt
          go_wp2_with fail
          go_ret2
          exact ⟨rfl, rfl⟩
        · have h4b : ((y : Int) == 0) = false := by simp; omega
          have HN := Lib.hid (hN.out.next h2 (by rw [HY.out]; exact h4) ho.out)
          have HO := Lib.hid (show d + (1 + d % 2) = 2 ∨ (d + (1 + d % 2)) % 2 = 1 by have := ho.out; omega)
          go_wp2_with fail
          go_roundw
          case rel => exact ⟨d + (1 + d % 2), by go_num, by omega, by omega, HO.out |> Lib.hid, HN, trivial⟩
          case measure => simp [intOf]; omega
      · have hr0 : r = 0 := isTrial_uniq HR.out (trial_root hN.out (by rw [HQ.out]; omega))
        have hbf : b = false := by
          rcases hb : b with _ | _
          · rfl
          · exact absurd hr0 (HB.out.1 hb)
        subst hr0
        subst hbf
        go_wp2_with fail
        go_ret2
        exact ⟨rfl, rfl⟩
    · have hr0 : r = 0 := isTrial_uniq HR.out (trial_past hN.out (by omega))
      have hbf : b = false := by
        rcases hb : b with _ | _
        · rfl
        · exact absurd hr0 (HB.out.1 hb)
      subst hr0
      subst hbf
      go_wp2_with fail
      go_ret2
      exact ⟨rfl, rfl⟩
/-! Which may be asked of by Strong -/
set_option maxHeartbeats 1000000 in
theorem fits_any {w : World} {A : Option Addr} {n c : Nat} {l : List Nat} (P : RowIs w A n c l) (b : Bool) (hb : b = true ↔ (l = wd (natOf l) ∧ nbits (natOf l) ≤ 1024)) :
    Calls Try.prog 23 #[.slice A n c] w fun e w' => e = .returned (.bool b) ∧ Below w.heap.size w w' := by
  have hN := P.in_
  have hbn := hN.bits
  have hnl := P.2.2.1
  have HB := Lib.hid fun (u : World) (e : Below w.heap.size w u) => bBits (hN.step e)
  have hM := natMay_any A c l w P.2.2.2.1 P.2.1 (by have := P.1; have := P.2.2.1; omega) (by have := P.1; have := P.2.2.2.2; omega)
  rw [P.1] at hM
  obtain ⟨s, hs⟩ : ∃ s, nbits (natOf l) = s := ⟨_, rfl⟩
  rw [hs] at hb HB hbn
  by_cases h1 : l = wd (natOf l)
  · rw [decide_eq_true h1] at hM
    have HM := Lib.hid hM
    have hb2 : decide (s ≤ 1024) = b := by
      rw [Bool.eq_iff_iff, decide_eq_true_eq, hb]
      exact ⟨fun h => ⟨h1, h⟩, fun h => h.2⟩
    have hb3 : decide ((s : Int) ≤ 1024) = b := by rw [← hb2]; exact decide_eq_decide.2 (by omega)
    clear hM hb h1 hN P hs
    go_enter Try.func23, Try.ntmps23
    go_wp2_with fail
    refine (HM.out).mono ?_
    rintro e w1 ⟨rfl, b1⟩
    go_wp2_with fail
    refine (HB.out _ b1).mono ?_
    rintro e w2 ⟨rfl, b2⟩
    go_wp2_with fail
    go_ret
    exact ⟨rfl, below_step b1 b2⟩
  · rw [decide_eq_false h1] at hM
    have HM := Lib.hid hM
    have hbf : b = false := by
      rcases h : b with _ | _
      · rfl
      · exact absurd (hb.1 h).1 h1
    subst hbf
    clear hM hb h1 hN P hs
    go_enter Try.func23, Try.ntmps23
    go_wp2_with fail
    refine (HM.out).mono ?_
    rintro e w1 ⟨rfl, b1⟩
    go_wp2_with fail
    go_ret
    exact ⟨rfl, b1⟩
/-! How often a number is even -/
theorem bit_twos (s d : Nat) (hd : d % 2 = 1) (k : Nat) (hk : k ≤ s) : bit (2 ^ s * d) k = if k = s then 1 else 0 := by
  unfold bit
  have e : 2 ^ s = 2 ^ k * 2 ^ (s - k) := by rw [← Nat.pow_add]; congr 1; omega
  rw [e, Nat.mul_assoc, Nat.mul_div_cancel_left _ (Nat.pow_pos (by omega))]
  split
  · rename_i h
    subst h
    rw [Nat.sub_self, Nat.pow_zero, Nat.one_mul]
    exact hd
  · rw [show s - k = (s - k - 1) + 1 by omega, Nat.pow_succ, Nat.mul_comm (2 ^ (s - k - 1)) 2, Nat.mul_assoc]
    omega
set_option maxHeartbeats 1000000 in
theorem halvings_any {w : World} {A : Option Addr} {n c M s d : Nat} (h : NatIn w A n c M) (e : M = 2 ^ s * d) (hd : d % 2 = 1) (hs : s ≤ 3200000) :
    Calls Try.prog 28 #[.slice A n c] w fun e w' => e = .returned (.int .i64 (s : Nat)) ∧ Below w.heap.size w w' := by
  have H := Lib.hid h
  have HE := Lib.hid e
  have HD := Lib.hid hd
  clear h e hd
  go_enter Try.func28, Try.ntmps28
  go_wp2_with fail
  go_loopw [3] (fun tv wr => ∃ k : Nat, tv = .int .i64 k ∧ k ≤ s ∧ Below w.heap.size w wr) (fun tv _ => s - (intOf tv).toNat)
  case atStart => exact ⟨0, rfl, Nat.zero_le _, Below.refl _ _⟩
  case round =>
    obtain ⟨k, rfl, hk, hb⟩ := hrel
    have B := bBit (H.out.step hb) (k : Int) (by unfold MaxI; omega)
    rw [HE.out, show bitS (2 ^ s * d) (k : Int) = ((if k = s then 1 else 0 : Nat)) by unfold bitS; rw [if_neg (by omega), Int.toNat_natCast, bit_twos s d HD.out k hk]] at B
    by_cases h1 : k = s
    · rw [if_pos h1] at B
      have HB := Lib.hid B
      clear B
      subst h1
      go_wp2_with fail
      refine (HB.out).mono ?_
      rintro e w1 ⟨rfl, b1⟩
      go_wp2_with fail
      go_ret
      exact ⟨rfl, below_step hb b1⟩
    · rw [if_neg h1] at B
      have HB := Lib.hid B
      clear B
      go_wp2_with fail
      refine (HB.out).mono ?_
      rintro e w1 ⟨rfl, b1⟩
      go_wp2_with fail
      go_roundw
      case rel => exact ⟨k + 1, by go_num, by omega, below_step hb b1⟩
      case measure => simp [intOf]; omega
end Go.Proofs.Ytjghhdoklfpdfaa

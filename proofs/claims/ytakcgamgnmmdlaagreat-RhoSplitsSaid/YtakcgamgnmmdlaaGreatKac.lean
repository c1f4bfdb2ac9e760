/- Several texts in one; each begins with a remark that says what it shows and on which conditions. -/
import Derived.Test.YtakcgamgnmmdlaaGreatKab
/- What passes to 2, 3, 5 and 7 and is below 2^32 is a prime, or 3215031751; a prime passes to all bases that it does not divide. No condition but those typed; no program is named. -/
namespace Go.Proofs.YtakcgamgnmmdlaaGreat
/-- What passes to the four bases. -/
theorem four_bases {n : Nat} (hn : 1 < n) (hlt : n < 4294967296) (h2 : Pass n 2) (h3 : Pass n 3) (h5 : Pass n 5) (h7 : Pass n 7) : Prm n ∨ n = 3215031751 :=
  four_of ⟨r_small, r_signs, r_few1, mid_all, r_few2, great_all, more_all⟩ hn hlt ⟨h2, h3, h5, h7⟩
/-- What squared leaves 1 leaves 1 or p - 1. -/
theorem Prm.root {p x : Nat} (hp : Prm p) (h : x * x % p = 1) : x % p = 1 ∨ x % p = p - 1 := by
  have h2 := hp.1
  obtain ⟨y, hy⟩ : ∃ y, x % p = y := ⟨_, rfl⟩
  rw [Nat.mul_mod, hy] at h
  rw [hy]
  have hlt : y < p := by rw [← hy]; exact Nat.mod_lt _ (by omega)
  rcases y with _ | y
  · rw [Nat.zero_mul, Nat.zero_mod] at h; omega
  · have hd : p ∣ y * (y + 2) := by
      have e : (y + 1) * (y + 1) = y * (y + 2) + 1 := by simp only [Nat.add_mul, Nat.mul_add]; omega
      have hm := Nat.div_add_mod ((y + 1) * (y + 1)) p
      rw [h, e] at hm
      exact ⟨_, (Nat.add_right_cancel hm).symm⟩
    rcases hp.euclid _ _ hd with h1 | h1
    · rcases Nat.eq_zero_or_pos y with h0 | h0
      · subst h0; exact .inl rfl
      · have := Nat.le_of_dvd h0 h1; omega
    · have := Nat.le_of_dvd (by omega) h1
      exact .inr (by omega)
/-- A prime passes. -/
theorem Prm.pass {p a : Nat} (hp : Prm p) (ho : p % 2 = 1) (ha : ¬ p ∣ a) : Pass p a := by
  have h2 := hp.1
  have hf := fermat hp ha
  have hodd : ∀ m, 0 < m → ∃ s d, m = 2 ^ s * d ∧ d % 2 = 1 := by
    intro m
    induction m using Nat.strongRecOn with
    | ind m ih =>
      intro hm
      rcases (show m % 2 = 0 ∨ m % 2 = 1 by omega) with h | h
      · obtain ⟨s, d, e, hd⟩ := ih (m / 2) (by omega) (by omega)
        refine ⟨s + 1, d, ?_, hd⟩
        rw [Nat.pow_succ, Nat.mul_assoc, Nat.mul_comm 2, ← Nat.mul_assoc, ← e]
        omega
      · exact ⟨0, m, by simp, h⟩
  obtain ⟨s, d, e, hd⟩ := hodd (p - 1) (by omega)
  refine ⟨s, d, e, hd, ?_⟩
  rw [e] at hf
  have key : ∀ s, a ^ (2 ^ s * d) % p = 1 → a ^ d % p = 1 ∨ ∃ i, i < s ∧ a ^ (2 ^ i * d) % p = p - 1 := by
    intro s
    induction s with
    | zero => intro h; rw [Nat.pow_zero, Nat.one_mul] at h; exact .inl h
    | succ s ih =>
      intro h
      have e2 : 2 ^ (s + 1) * d = 2 ^ s * d + 2 ^ s * d := by rw [Nat.pow_succ, Nat.mul_assoc, Nat.mul_comm 2 d, ← Nat.mul_assoc, ← Nat.mul_two]
      rw [e2, Nat.pow_add] at h
      rcases hp.root h with h1 | h1
      · rcases ih h1 with h3 | ⟨i, hi, h3⟩
        · exact .inl h3
        · exact .inr ⟨i, by omega, h3⟩
      · exact .inr ⟨s, by omega, h1⟩
  exact key s hf
end Go.Proofs.YtakcgamgnmmdlaaGreat
/- Plain facts on trying, on passing to bases, and on primes between a number and twice it. No condition but those typed; no program is named. -/
namespace Go.Proofs.YtakcgamgnmmdlaaGreat
theorem least_where (P : Nat → Prop) [DecidablePred P] : ∀ k, (∃ d, d < k ∧ P d ∧ ∀ e, e < d → ¬ P e) ∨ ∀ d, d < k → ¬ P d := by
  intro k
  induction k with
  | zero => exact .inr fun d h => by omega
  | succ k ih =>
    rcases ih with ⟨d, h1, h2, h3⟩ | h
    · exact .inl ⟨d, by omega, h2, h3⟩
    · by_cases hk : P k
      · exact .inl ⟨k, by omega, hk, h⟩
      · refine .inr fun d hd => ?_
        rcases Nat.lt_succ_iff_lt_or_eq.1 hd with h1 | rfl
        · exact h d h1
        · exact hk
/-- The least number from 2 to most, and to 65536, that divides n and is less; or 0. -/
def IsTrial (n most r : Nat) : Prop := (r = 0 ∧ ∀ d, 2 ≤ d → d ≤ most → d ≤ 65536 → d < n → n % d ≠ 0) ∨ (2 ≤ r ∧ r ≤ most ∧ r ≤ 65536 ∧ r < n ∧ n % r = 0 ∧ ∀ d, 2 ≤ d → d < r → n % d ≠ 0)
theorem isTrial_some (n most : Nat) : ∃ r, IsTrial n most r := by
  rcases least_where (fun d => 2 ≤ d ∧ d ≤ most ∧ d ≤ 65536 ∧ d < n ∧ n % d = 0) 65537 with ⟨d, _, ⟨h1, h2, h3, h4, h5⟩, h6⟩ | h
  · exact ⟨d, .inr ⟨h1, h2, h3, h4, h5, fun e he hd hz => h6 e hd ⟨he, by omega, by omega, by omega, hz⟩⟩⟩
  · exact ⟨0, .inl ⟨rfl, fun d h1 h2 h3 h4 h5 => h d (by omega) ⟨h1, h2, h3, h4, h5⟩⟩⟩
theorem isTrial_uniq {n most r s : Nat} (h : IsTrial n most r) (k : IsTrial n most s) : r = s := by
  rcases h with ⟨rfl, h⟩ | ⟨h1, h2, h3, h4, h5, h6⟩ <;> rcases k with ⟨rfl, k⟩ | ⟨k1, k2, k3, k4, k5, k6⟩
  · rfl
  · exact absurd k5 (h s k1 k2 k3 k4)
  · exact absurd h5 (k r h1 h2 h3 h4)
  · rcases Nat.lt_trichotomy r s with h7 | h7 | h7
    · exact absurd h5 (k6 r h1 h7)
    · exact h7
    · exact absurd k5 (h6 s k1 h7)
/-- A number passes, as the chapter says it. -/
def PassD (n a : Nat) : Prop := 3 ≤ n ∧ n % 2 = 1 ∧ Pass n a
theorem passD_iff {n a s d : Nat} (h3 : 3 ≤ n) (ho : n % 2 = 1) (he : n - 1 = 2 ^ s * d) (hd : d % 2 = 1) : PassD n a ↔ (a ^ d % n = 1 ∨ ∃ i, i < s ∧ a ^ (2 ^ i * d) % n = n - 1) := by
  refine ⟨?_, fun h => ⟨h3, ho, s, d, he, hd, h⟩⟩
  rintro ⟨_, _, t, e, h1, h2, h⟩
  obtain ⟨rfl, rfl⟩ := odd_uniq hd h2 (he.symm.trans h1)
  exact h
/-- A number passes to all of the bases that it does not divide, one at least; or it is 2. -/
def ProbD (n : Nat) (l : List Nat) : Prop := n = 2 ∨ ((∃ x ∈ l, ¬ (0 < n ∧ x % n = 0)) ∧ ∀ x ∈ l, ¬ (0 < n ∧ x % n = 0) → PassD n x)
/-! Primes by trying -/
theorem prm_iff_try {n : Nat} : Prm n ↔ 2 ≤ n ∧ ∀ d, 2 ≤ d → d * d ≤ n → n % d ≠ 0 := by
  constructor
  · intro h
    refine ⟨h.1, fun d h1 h2 h3 => ?_⟩
    rcases h.2 d (Nat.dvd_of_mod_eq_zero h3) with e | e
    · omega
    · subst e
      have : d * 2 ≤ d * d := Nat.mul_le_mul_left _ h1
      omega
  · rintro ⟨h2, h⟩
    obtain ⟨p, hp, hd⟩ := prm_factor n h2
    by_cases hpp : p * p ≤ n
    · exact absurd (Nat.mod_eq_zero_of_dvd hd) (h p hp.1 hpp)
    · obtain ⟨q, rfl⟩ := hd
      have hq : q < p := by
        rcases Nat.lt_or_ge q p with e | e
        · exact e
        · exact absurd (Nat.mul_le_mul_left p e) hpp
      have hp2 := hp.1
      rcases Nat.lt_or_ge q 2 with e | e
      · have : q = 1 := by
          rcases Nat.eq_zero_or_pos q with e0 | e0
          · subst e0; simp at h2
          · omega
        subst this
        rwa [Nat.mul_one]
      · exfalso
        refine h q e ?_ (Nat.mul_mod_left _ _)
        exact Nat.mul_le_mul_right q (Nat.le_of_lt hq)
/-- None from k on, so many, divides n. -/
def noneB (n : Nat) (f : Nat) : Nat → Bool := Nat.rec (motive := fun _ => Nat → Bool) (fun _ => true) (fun _ ih d => cond (Nat.beq (Nat.mod n d) 0) false (fN (Nat.succ d) ih)) f
theorem noneB_true {n : Nat} : ∀ f d, noneB n f d = true → ∀ e, d ≤ e → e < d + f → n % e ≠ 0 := by
  intro f
  induction f with
  | zero => intro d _ e h1 h2; omega
  | succ f ih =>
    intro d h e h1 h2
    have h' : cond (Nat.beq (Nat.mod n d) 0) false (fN (Nat.succ d) (noneB n f)) = true := h
    rw [fN_eq] at h'
    cases hb : Nat.beq (Nat.mod n d) 0 with
    | true => rw [hb] at h'; cases h'
    | false =>
      rw [hb] at h'
      rcases Nat.lt_or_ge d e with h3 | h3
      · exact ih (d + 1) h' e h3 (by omega)
      · obtain rfl : e = d := by omega
        intro h0
        have : Nat.beq (Nat.mod n e) 0 = true := beqP_of h0
        rw [this] at hb
        cases hb
theorem prm_tried {n f : Nat} (h2 : 2 ≤ n) (h : noneB n f 2 = true) (hf : n < (f + 2) * (f + 2)) : Prm n :=
  prm_iff_try.2 ⟨h2, fun d h1 h3 => noneB_true f 2 h d h1 (by
    rcases Nat.lt_or_ge d (2 + f) with e | e
    · exact e
    · have := Nat.mul_le_mul e e
      rw [Nat.add_comm 2 f] at this
      omega)⟩
end Go.Proofs.YtakcgamgnmmdlaaGreat
/- Plain facts on the row of a draw, and on what numbers are products of. No condition but those typed; no program is named. -/
namespace Go.Proofs.YtakcgamgnmmdlaaGreat
/-! The row of a draw -/
def rowS (n c x : Nat) : Nat := (x * x + c) % n
def distS (x y : Nat) : Nat := max x y - min x y
/-- What the distance at a place has in common with n, if that is below n; or 0. -/
def foundS (n d : Nat) : Nat := if d < n then d else 0
/-- What so many further steps of a row show: the common factor of the first distance that has one; or 0. -/
def splitS (n c : Nat) : Nat → Nat → Nat → Nat
  | 0, _, _ => 0
  | k + 1, x, y =>
    if 1 < Nat.gcd (distS (rowS n c x) (rowS n c (rowS n c y))) n then foundS n (Nat.gcd (distS (rowS n c x) (rowS n c (rowS n c y))) n) else splitS n c k (rowS n c x) (rowS n c (rowS n c y))
theorem foundS_or (n d : Nat) : (d < n ∧ foundS n d = d) ∨ (¬ d < n ∧ foundS n d = 0) := by
  unfold foundS; split
  · exact .inl ⟨by assumption, rfl⟩
  · exact .inr ⟨by assumption, rfl⟩
theorem splitS_step {n c k x y x' y' y1 d : Nat} (hx : rowS n c x = x') (hy1 : rowS n c y = y1) (hy : rowS n c y1 = y') (hd : Nat.gcd (distS x' y') n = d) :
    splitS n c (k + 1) x y = if 1 < d then foundS n d else splitS n c k x' y' := by
  subst hx hy1 hy hd; rfl
theorem splitS_dvd (n c : Nat) : ∀ k x y, splitS n c k x y ≠ 0 → splitS n c k x y ∣ n ∧ 1 < splitS n c k x y ∧ splitS n c k x y < n := by
  intro k
  induction k with
  | zero => intro x y h; exact absurd rfl h
  | succ k ih =>
    intro x y h
    rw [splitS_step rfl rfl rfl rfl] at h ⊢
    split
    · rename_i h1
      rw [if_pos h1] at h
      rcases foundS_or n (Nat.gcd (distS (rowS n c x) (rowS n c (rowS n c y))) n) with ⟨h2, h3⟩ | ⟨_, h3⟩
      · rw [h3]; exact ⟨Nat.gcd_dvd_right _ _, h1, h2⟩
      · exact absurd h3 h
    · rename_i h1
      rw [if_neg h1] at h
      exact ih _ _ h
/-- What Split tells: 0 for none. -/
def splitD (n c : Nat) (most : Int) : Nat := if n < 4 then 0 else splitS n c (min most 1048576).toNat 2 2
theorem splitD_dvd {n c : Nat} {most : Int} (h : splitD n c most ≠ 0) : splitD n c most ∣ n ∧ 1 < splitD n c most ∧ splitD n c most < n := by
  unfold splitD at h ⊢
  split
  · rename_i h1; rw [if_pos h1] at h; exact absurd rfl h
  · rename_i h1; rw [if_neg h1] at h; exact splitS_dvd _ _ _ _ _ h
theorem rowS_lt {n c x : Nat} (h : 0 < n) : rowS n c x < n := Nat.mod_lt _ h
theorem rowS_eq {n c x : Nat} : rowS n c x = (x * x % n + c % n) % n := by unfold rowS; rw [Nat.add_mod]
theorem gcd_pos10 {n d x : Nat} (hn : 0 < n) (h : Nat.gcd x n = d) : 0 < d ∧ d ≤ n := by
  subst h
  exact ⟨Nat.gcd_pos_of_pos_right _ hn, Nat.le_of_dvd hn (Nat.gcd_dvd_right _ _)⟩
/-! Products of primes that rise -/
def prodN (l : List Nat) : Nat := l.foldr (· * ·) 1
theorem prodN_nil : prodN [] = 1 := rfl
theorem prodN_cons (a : Nat) (l : List Nat) : prodN (a :: l) = a * prodN l := rfl
theorem prodN_append (l m : List Nat) : prodN (l ++ m) = prodN l * prodN m := by
  induction l with
  | nil => simp [prodN_nil]
  | cons a l ih => rw [List.cons_append, prodN_cons, prodN_cons, ih, Nat.mul_assoc]
theorem prodN_one (a : Nat) : prodN [a] = a := by rw [prodN_cons, prodN_nil, Nat.mul_one]
theorem prodN_mem_dvd {l : List Nat} {x : Nat} (h : x ∈ l) : x ∣ prodN l := by
  induction l with
  | nil => cases h
  | cons a l ih =>
    rw [prodN_cons]
    rcases List.mem_cons.1 h with rfl | h
    · exact Nat.dvd_mul_right _ _
    · exact Nat.dvd_trans (ih h) (Nat.dvd_mul_left _ _)
theorem Prm.one_not {p : Nat} (hp : Prm p) : ¬ p ∣ 1 := fun h => by
  have := hp.1
  have := Nat.le_of_dvd (by omega) h
  omega
theorem Prm.prodN {p : Nat} (hp : Prm p) : ∀ l : List Nat, p ∣ prodN l → ∃ x ∈ l, p ∣ x := by
  intro l
  induction l with
  | nil => intro h; exact absurd h hp.one_not
  | cons a l ih =>
    intro h
    rw [prodN_cons] at h
    rcases hp.euclid _ _ h with h | h
    · exact ⟨a, List.mem_cons_self, h⟩
    · obtain ⟨x, h1, h2⟩ := ih h
      exact ⟨x, List.mem_cons_of_mem _ h1, h2⟩
/-- The primes of a number, rising. -/
def IsFac (n : Nat) (l : List Nat) : Prop := prodN l = n ∧ (∀ p ∈ l, Prm p) ∧ l.Pairwise (· ≤ ·)
theorem fac_uniq : ∀ (l m : List Nat) (n : Nat), IsFac n l → IsFac n m → l = m := by
  intro l
  induction l with
  | nil =>
    rintro m n ⟨h1, _, _⟩ ⟨k1, k2, _⟩
    cases m with
    | nil => rfl
    | cons b m =>
      exfalso
      have : b ∣ prodN [] := by rw [h1, ← k1]; exact prodN_mem_dvd List.mem_cons_self
      exact (k2 b List.mem_cons_self).one_not this
  | cons a l ih =>
    rintro m n ⟨h1, h2, h3⟩ ⟨k1, k2, k3⟩
    have ha := h2 a List.mem_cons_self
    cases m with
    | nil =>
      exfalso
      have : a ∣ prodN [] := by rw [k1, ← h1]; exact prodN_mem_dvd List.mem_cons_self
      exact ha.one_not this
    | cons b m =>
      have hb := k2 b List.mem_cons_self
      have e1 : b ≤ a := by
        obtain ⟨x, hx, hd⟩ := ha.prodN (b :: m) (by rw [k1, ← h1]; exact prodN_mem_dvd List.mem_cons_self)
        have : a = x := by
          rcases (k2 x hx).2 a hd with e | e
          · have := ha.1; omega
          · exact e
        subst this
        rcases List.mem_cons.1 hx with rfl | hx
        · exact Nat.le_refl _
        · exact (List.pairwise_cons.1 k3).1 a hx
      have e2 : a ≤ b := by
        obtain ⟨x, hx, hd⟩ := hb.prodN (a :: l) (by rw [h1, ← k1]; exact prodN_mem_dvd List.mem_cons_self)
        have : b = x := by
          rcases (h2 x hx).2 b hd with e | e
          · have := hb.1; omega
          · exact e
        subst this
        rcases List.mem_cons.1 hx with rfl | hx
        · exact Nat.le_refl _
        · exact (List.pairwise_cons.1 h3).1 b hx
      obtain rfl : a = b := Nat.le_antisymm e2 e1
      have hap : 0 < a := by have := ha.1; omega
      rw [prodN_cons] at h1 k1
      have e3 : prodN l = prodN m := Nat.eq_of_mul_eq_mul_left hap (h1.trans k1.symm)
      rw [ih m (prodN l) ⟨rfl, fun p hp => h2 p (List.mem_cons_of_mem _ hp), (List.pairwise_cons.1 h3).2⟩ ⟨e3.symm, fun p hp => k2 p (List.mem_cons_of_mem _ hp), (List.pairwise_cons.1 k3).2⟩]
theorem prodN_pow2 : ∀ l : List Nat, (∀ p ∈ l, 2 ≤ p) → 2 ^ l.length ≤ prodN l := by
  intro l
  induction l with
  | nil => intro _; exact Nat.le_refl _
  | cons a l ih =>
    intro h
    rw [prodN_cons, List.length_cons, Nat.pow_succ, Nat.mul_comm]
    exact Nat.mul_le_mul (h a List.mem_cons_self) (ih fun p hp => h p (List.mem_cons_of_mem _ hp))
theorem prodN_len {l : List Nat} {k : Nat} (h2 : ∀ p ∈ l, 2 ≤ p) (h : prodN l < 2 ^ k) : l.length < k := by
  rcases Nat.lt_or_ge l.length k with h1 | h1
  · exact h1
  · have := prodN_pow2 l h2
    have := Nat.pow_le_pow_right (n := 2) (by omega) h1
    omega
/-! Trying all -/
/-- No number from 2 on and below d divides m. -/
def NoneBelow (m d : Nat) : Prop := ∀ e, 2 ≤ e → e < d → m % e ≠ 0
theorem NoneBelow.two (m : Nat) : NoneBelow m 2 := fun e h1 h2 => by omega
theorem NoneBelow.more {m d : Nat} (h : NoneBelow m d) (hd : m % d ≠ 0) : NoneBelow m (d + 1) := fun e h1 h2 => by
  rcases Nat.lt_succ_iff_lt_or_eq.1 h2 with h3 | rfl
  · exact h e h1 h3
  · exact hd
theorem NoneBelow.less {m q d : Nat} (h : NoneBelow m d) (hq : q ∣ m) : NoneBelow q d := fun e h1 h2 hz =>
  h e h1 h2 (Nat.mod_eq_zero_of_dvd (Nat.dvd_trans (Nat.dvd_of_mod_eq_zero hz) hq))
theorem NoneBelow.prm {m d : Nat} (h : NoneBelow m d) (h2 : 2 ≤ m) (hd : m < d * d) : Prm m :=
  prm_iff_try.2 ⟨h2, fun e h1 h3 => h e h1 (by
    rcases Nat.lt_or_ge e d with h4 | h4
    · exact h4
    · have := Nat.mul_le_mul h4 h4; omega)⟩
theorem NoneBelow.at_ {m d : Nat} (h : NoneBelow m d) (h2 : 2 ≤ d) (hz : m % d = 0) : Prm d := by
  obtain ⟨p, hp, hd⟩ := prm_factor d h2
  have h3 := hp.1
  rcases Nat.lt_or_ge p d with h4 | h4
  · exact absurd (Nat.mod_eq_zero_of_dvd (Nat.dvd_trans hd (Nat.dvd_of_mod_eq_zero hz))) (h p h3 h4)
  · obtain rfl : p = d := Nat.le_antisymm (Nat.le_of_dvd (by omega) hd) h4
    exact hp
/-- What no number below divides has no factor in a product of lesser ones. -/
theorem NoneBelow.one {m d : Nat} (h : NoneBelow m d) {l : List Nat} (hl : ∀ x ∈ l, 0 < x ∧ x < d) (hd : m ∣ prodN l) : m = 1 := by
  have hp : 0 < prodN l := by
    clear h hd
    induction l with
    | nil => exact Nat.one_pos
    | cons a l ih => rw [prodN_cons]; exact Nat.mul_pos (hl a List.mem_cons_self).1 (ih fun x hx => hl x (List.mem_cons_of_mem _ hx))
  have hm : 0 < m := Nat.pos_of_dvd_of_pos hd hp
  rcases Nat.lt_or_ge m 2 with h1 | h1
  · omega
  · exfalso
    obtain ⟨p, hpp, hpd⟩ := prm_factor m h1
    obtain ⟨x, hx, hpx⟩ := hpp.prodN l (Nat.dvd_trans hpd hd)
    have hx2 := hl x hx
    have hle := Nat.le_of_dvd hx2.1 hpx
    exact h p hpp.1 (by omega) (Nat.mod_eq_zero_of_dvd hpd)
/-- Two numbers without a small factor that are no primes are too much together. -/
theorem two_great {m k : Nat} (hm : NoneBelow m 65536) (hm2 : 2 ≤ m) (hmp : ¬ Prm m) (hk : NoneBelow k 65536) (hk2 : 2 ≤ k) (hkp : ¬ Prm k) : 18446744073709551616 ≤ m * k := by
  have e : ∀ {x}, NoneBelow x 65536 → 2 ≤ x → ¬ Prm x → 4294967296 ≤ x := fun {x} h1 h2 h3 => by
    rcases Nat.lt_or_ge x 4294967296 with h4 | h4
    · exact absurd (h1.prm h2 (by omega)) h3
    · exact h4
  exact Nat.mul_le_mul (e hm hm2 hmp) (e hk hk2 hkp)
/-! The document's trying: what was told, what is left, what is tried next -/
structure Trying (n : Nat) (l : List Nat) (m d : Nat) : Prop where
  all : prodN l * m = n
  primes : ∀ p ∈ l, Prm p
  rise : l.Pairwise (· ≤ ·)
  most : ∀ p ∈ l, p ≤ d
  none : NoneBelow m d
  pos : 0 < m
theorem Trying.start {n : Nat} (h : 0 < n) : Trying n [] n 2 := ⟨by rw [prodN_nil, Nat.one_mul], by simp, List.Pairwise.nil, by simp, NoneBelow.two n, h⟩
theorem Trying.take {n : Nat} {l : List Nat} {m d : Nat} (h : Trying n l m d) (h2 : 2 ≤ d) (hz : m % d = 0) : Trying n (l ++ [d]) (m / d) d where
  all := by
    rw [prodN_append, prodN_one, Nat.mul_assoc, Nat.mul_div_cancel' (Nat.dvd_of_mod_eq_zero hz)]
    exact h.all
  primes := fun p hp => by
    rcases List.mem_append.1 hp with h1 | h1
    · exact h.primes p h1
    · rw [List.mem_singleton.1 h1]; exact h.none.at_ h2 hz
  rise := List.pairwise_append.2 ⟨h.rise, List.pairwise_singleton _ _, fun a ha b hb => by rw [List.mem_singleton.1 hb]; exact h.most a ha⟩
  most := fun p hp => by
    rcases List.mem_append.1 hp with h1 | h1
    · exact h.most p h1
    · rw [List.mem_singleton.1 h1]; exact Nat.le_refl _
  none := h.none.less (Nat.div_dvd_of_dvd (Nat.dvd_of_mod_eq_zero hz))
  pos := Nat.div_pos (Nat.le_of_dvd h.pos (Nat.dvd_of_mod_eq_zero hz)) (by omega)
theorem Trying.next {n : Nat} {l : List Nat} {m d : Nat} (h : Trying n l m d) (hz : m % d ≠ 0) : Trying n l m (d + 1) :=
  ⟨h.all, h.primes, h.rise, fun p hp => by have := h.most p hp; omega, h.none.more hz, h.pos⟩
theorem Trying.done {n : Nat} {l : List Nat} {d : Nat} (h : Trying n l 1 d) : IsFac n l := ⟨by rw [← h.all, Nat.mul_one], h.primes, h.rise⟩
theorem Trying.last {n : Nat} {l : List Nat} {m d : Nat} (h : Trying n l m d) (h2 : 1 < m) (hd : m < d * d) : IsFac n (l ++ [m]) := by
  have hp := h.none.prm h2 hd
  refine ⟨by rw [prodN_append, prodN_one]; exact h.all, fun p h1 => ?_, List.pairwise_append.2 ⟨h.rise, List.pairwise_singleton _ _, fun a ha b hb => ?_⟩⟩
  · rcases List.mem_append.1 h1 with h3 | h3
    · exact h.primes p h3
    · rw [List.mem_singleton.1 h3]; exact hp
  · rw [List.mem_singleton.1 hb]
    have h3 := h.most a ha
    rcases Nat.lt_or_ge m d with h4 | h4
    · exact absurd (Nat.mod_self m) (h.none m h2 h4)
    · omega
theorem Trying.few {n : Nat} {l : List Nat} {m d k : Nat} (h : Trying n l m d) (hn : n < 2 ^ k) : l.length < k :=
  prodN_len (fun p hp => (h.primes p hp).1) (Nat.lt_of_le_of_lt (by rw [← h.all]; exact Nat.le_mul_of_pos_right _ h.pos) hn)
theorem fac_some (n : Nat) (hn : 0 < n) : ∃ l, IsFac n l := by
  have key : ∀ k n, 0 < n → n ≤ k → ∀ d, 2 ≤ d → NoneBelow n d → ∃ l, IsFac n l ∧ ∀ p ∈ l, d ≤ p := by
    intro k
    induction k with
    | zero => intro n h1 h2; omega
    | succ k ih =>
      intro n h1 h2 d hd hN
      rcases Nat.lt_or_ge n 2 with h3 | h3
      · exact ⟨[], ⟨by rw [prodN_nil]; omega, by simp, List.Pairwise.nil⟩, by simp⟩
      · rcases least_where (fun e => 2 ≤ e ∧ n % e = 0) (n + 1) with ⟨e, h4, ⟨h5, h6⟩, h7⟩ | h4
        · have hNe : NoneBelow n e := fun x hx1 hx2 hz => h7 x hx2 ⟨hx1, hz⟩
          have hde : d ≤ e := by
            rcases Nat.lt_or_ge e d with h8 | h8
            · exact absurd h6 (hN e h5 h8)
            · exact h8
          have hq : n / e < n := Nat.div_lt_self h1 h5
          obtain ⟨l, ⟨l1, l2, l3⟩, l4⟩ := ih (n / e) (Nat.div_pos (Nat.le_of_dvd h1 (Nat.dvd_of_mod_eq_zero h6)) (by omega)) (by omega) e h5 (hNe.less (Nat.div_dvd_of_dvd (Nat.dvd_of_mod_eq_zero h6)))
          refine ⟨e :: l, ⟨by rw [prodN_cons, l1, Nat.mul_div_cancel' (Nat.dvd_of_mod_eq_zero h6)], fun p hp => ?_, List.pairwise_cons.2 ⟨l4, l3⟩⟩, fun p hp => ?_⟩
          · rcases List.mem_cons.1 hp with rfl | hp
            · exact hNe.at_ h5 h6
            · exact l2 p hp
          · rcases List.mem_cons.1 hp with rfl | hp
            · exact hde
            · exact Nat.le_trans hde (l4 p hp)
        · exact absurd (Nat.mod_self n) (fun hz => h4 n (by omega) ⟨h3, hz⟩)
  obtain ⟨l, h, _⟩ := key n n hn (Nat.le_refl _) 2 (Nat.le_refl _) (NoneBelow.two n)
  exact ⟨l, h⟩
/-! What Factors tells -/
/-- What is told of a number n, by a test W of which it is known that it takes all primes, and below 2^32 no other number. -/
structure Told10 (W : Nat → Prop) (n : Nat) (l : List Nat) (rest e : Nat) : Prop where
  all : prodN l * rest = n
  tested : ∀ p ∈ l, W p
  great : ∀ p ∈ l, 2 ≤ p
  rise : l.Pairwise (· ≤ ·)
  ends : (e = 0 ∧ rest = 1) ∨ (e = 11 ∧ 1 < rest ∧ ¬ W rest ∧ NoneBelow rest 65536)
theorem Told10.small {W : Nat → Prop} (hW : ∀ x, x < 4294967296 → (W x ↔ Prm x)) {n : Nat} {l : List Nat} {rest e : Nat} (h : Told10 W n l rest e) (h0 : 0 < n) (hn : n < 4294967296) : e = 0 ∧ rest = 1 ∧ IsFac n l := by
  have hr : rest ∣ n := by rw [← h.all]; exact Nat.dvd_mul_left _ _
  have hrl := Nat.le_of_dvd h0 hr
  rcases h.ends with ⟨h1, h2⟩ | ⟨_, h2, h3, h4⟩
  · refine ⟨h1, h2, by rw [← h.all, h2, Nat.mul_one], fun p hp => (hW p ?_).1 (h.tested p hp), h.rise⟩
    have := Nat.le_of_dvd h0 (Nat.dvd_trans (prodN_mem_dvd hp) (show prodN l ∣ n by rw [← h.all]; exact Nat.dvd_mul_right _ _))
    omega
  · exact absurd ((hW rest (by omega)).2 (h4.prm h2 (by omega))) h3
theorem Told10.few {W : Nat → Prop} {n : Nat} {l : List Nat} {rest e : Nat} (h : Told10 W n l rest e) {k : Nat} (h0 : 0 < n) (hn : n < 2 ^ k) : l.length < k := by
  refine prodN_len h.great (Nat.lt_of_le_of_lt ?_ hn)
  rw [← h.all]
  refine Nat.le_mul_of_pos_right _ ?_
  rcases Nat.eq_zero_or_pos rest with h1 | h1
  · have := h.all; rw [h1, Nat.mul_zero] at this; omega
  · exact h1
end Go.Proofs.YtakcgamgnmmdlaaGreat
/- Plain facts on a row that is walked in parts: places ahead, products of distances. No condition but those typed; no program is named. -/
namespace Go.Proofs.YtakcgamgnmmdlaaGreat
/-- So many steps ahead. -/
def itX (n c : Nat) : Nat → Nat → Nat
  | 0, x => x
  | k + 1, x => itX n c k (rowS n c x)
def itY (n c : Nat) : Nat → Nat → Nat
  | 0, y => y
  | k + 1, y => itY n c k (rowS n c (rowS n c y))
theorem itX_last (n c : Nat) : ∀ k x, itX n c (k + 1) x = rowS n c (itX n c k x)
  | 0, _ => rfl
  | k + 1, x => itX_last n c k (rowS n c x)
theorem itY_last (n c : Nat) : ∀ k y, itY n c (k + 1) y = rowS n c (rowS n c (itY n c k y))
  | 0, _ => rfl
  | k + 1, y => itY_last n c k (rowS n c (rowS n c y))
/-- What the distance at a place ahead has in common with n. -/
def gcdS (n c j x y : Nat) : Nat := Nat.gcd (distS (itX n c j x) (itY n c j y)) n
/-- None of the next k steps shows a factor. -/
def ClearS (n c k x y : Nat) : Prop := ∀ j, j < k → gcdS n c (j + 1) x y = 1
theorem ClearS.zero (n c x y : Nat) : ClearS n c 0 x y := fun j h => by omega
theorem ClearS.succ {n c k x y : Nat} : ClearS n c (k + 1) x y ↔ ClearS n c k x y ∧ gcdS n c (k + 1) x y = 1 :=
  ⟨fun h => ⟨fun j hj => h j (by omega), h k (by omega)⟩, fun h j hj => by
    rcases Nat.lt_succ_iff_lt_or_eq.1 hj with h1 | rfl
    · exact h.1 j h1
    · exact h.2⟩
theorem ClearS.first {n c k x y : Nat} (h : ClearS n c (k + 1) x y) : Nat.gcd (distS (rowS n c x) (rowS n c (rowS n c y))) n = 1 ∧ ClearS n c k (rowS n c x) (rowS n c (rowS n c y)) :=
  ⟨h 0 (by omega), fun j hj => h (j + 1) (by omega)⟩
theorem splitS_clear {n c : Nat} : ∀ k r x y, ClearS n c k x y → splitS n c (k + r) x y = splitS n c r (itX n c k x) (itY n c k y) := by
  intro k
  induction k with
  | zero => intro r x y _; rw [Nat.zero_add]; rfl
  | succ k ih =>
    intro r x y h
    obtain ⟨h1, h2⟩ := h.first
    rw [show k + 1 + r = (k + r) + 1 by omega, splitS_step rfl rfl rfl h1, if_neg (by omega), ih r _ _ h2]
    rfl
theorem splitS_hit {n c : Nat} (hn : 0 < n) : ∀ k r x y, ¬ ClearS n c k x y → splitS n c (k + r) x y = splitS n c k x y := by
  intro k
  induction k with
  | zero => intro r x y h; exact absurd (ClearS.zero _ _ _ _) h
  | succ k ih =>
    intro r x y h
    rw [show k + 1 + r = (k + r) + 1 by omega, splitS_step rfl rfl rfl rfl, splitS_step rfl rfl rfl rfl]
    split
    · rfl
    · rename_i h1
      refine ih r _ _ fun hc => h fun j hj => ?_
      cases j with
      | zero =>
        have := (gcd_pos10 (x := distS (rowS n c x) (rowS n c (rowS n c y))) hn rfl).1
        show Nat.gcd (distS (rowS n c x) (rowS n c (rowS n c y))) n = 1
        omega
      | succ j => exact hc j (by omega)
/-- The product of distances so far, modulo n. -/
def ProdS (n c k x y P : Nat) : Prop := Nat.gcd P n = 1 ↔ ClearS n c k x y
theorem ProdS.start (n c x y : Nat) : ProdS n c 0 x y 1 := ⟨fun _ => ClearS.zero _ _ _ _, fun _ => Nat.gcd_one_left n⟩
theorem gcd_mod10 (a n : Nat) : Nat.gcd (a % n) n = Nat.gcd a n := by
  rw [Nat.gcd_comm a n, Nat.gcd_rec n a]
theorem ProdS.step {n c k x y P : Nat} (h : ProdS n c k x y P) : ProdS n c (k + 1) x y (P * distS (itX n c (k + 1) x) (itY n c (k + 1) y) % n) := by
  unfold ProdS
  have h2 : Nat.gcd P n = 1 ↔ ClearS n c k x y := h
  rw [gcd_mod10, ClearS.succ, ← h2]
  exact Nat.coprime_mul_iff_left
end Go.Proofs.YtakcgamgnmmdlaaGreat

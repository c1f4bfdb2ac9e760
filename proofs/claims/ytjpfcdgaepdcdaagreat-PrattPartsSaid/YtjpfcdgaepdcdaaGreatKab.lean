/- Several texts in one; each begins with a remark that says what it shows and on which conditions. -/
import Derived.Test.YtjpfcdgaepdcdaaGreatKaa
/- Which odd numbers below 2^32 pass to the bases 2, 3, 5 and 7: the reckoning, and what it says. No condition but those typed; no program is named. -/
namespace Go.Proofs.YtjpfcdgaepdcdaaGreat
set_option maxRecDepth 20000
/-- n passes to the base a. -/
def Pass (n a : Nat) : Prop := ∃ s d, n - 1 = 2 ^ s * d ∧ d % 2 = 1 ∧ (a ^ d % n = 1 ∨ ∃ i, i < s ∧ a ^ (2 ^ i * d) % n = n - 1)
/-- The four bases. -/
def FourP (P : Nat → Prop) : Prop := P 2 ∧ P 3 ∧ P 5 ∧ P 7
theorem prm_factor (n : Nat) (h : 2 ≤ n) : ∃ p, Prm p ∧ p ∣ n := by
  induction n using Nat.strongRecOn with
  | ind n ih =>
    by_cases hp : Prm n
    · exact ⟨n, hp, Nat.dvd_refl n⟩
    · have : ∃ d, d ∣ n ∧ d ≠ 1 ∧ d ≠ n := by
        refine Classical.byContradiction fun hc => hp ⟨h, fun d hd => ?_⟩
        by_cases h1 : d = 1
        · exact .inl h1
        · by_cases h2 : d = n
          · exact .inr h2
          · exact absurd ⟨d, hd, h1, h2⟩ hc
      obtain ⟨d, hd, h1, h2⟩ := this
      have hle := Nat.le_of_dvd (by omega) hd
      have h0 : d ≠ 0 := by intro e; subst e; have := Nat.eq_zero_of_zero_dvd hd; omega
      obtain ⟨p, hp, hpd⟩ := ih d (by omega) (by omega)
      exact ⟨p, hp, Nat.dvd_trans hpd hd⟩
/-! Powers that leave 1 -/
theorem one_times {q a x : Nat} (hq : 1 < q) (hx : a ^ x % q = 1) (k : Nat) : a ^ (x * k) % q = 1 := by
  rw [Nat.pow_mul, Nat.pow_mod, hx, Nat.one_pow]
  exact Nat.mod_eq_of_lt hq
theorem one_left {q a x y : Nat} (hx : a ^ x % q = 1) (hy : a ^ (x + y) % q = 1) : a ^ y % q = 1 := by
  rw [Nat.pow_add, Nat.mul_mod, hx, Nat.one_mul, Nat.mod_mod] at hy
  exact hy
theorem one_mod {q a x y : Nat} (hq : 1 < q) (hx : a ^ x % q = 1) (hy : a ^ y % q = 1) : a ^ (y % x) % q = 1 :=
  one_left (x := x * (y / x)) (one_times hq hx _) (by rw [Nat.div_add_mod]; exact hy)
theorem one_gcd {q a : Nat} (hq : 1 < q) (x y : Nat) : a ^ x % q = 1 → a ^ y % q = 1 → a ^ (Nat.gcd x y) % q = 1 := by
  induction x, y using Nat.gcd.induction with
  | H0 y => intro _ hy; rwa [Nat.gcd_zero_left]
  | H1 x y _ ih => intro hx hy; rw [Nat.gcd_rec]; exact ih (one_mod hq hx hy) hx
theorem one_dvd {q a x y : Nat} (hq : 1 < q) (h : x ∣ y) (hx : a ^ x % q = 1) : a ^ y % q = 1 := by
  obtain ⟨k, rfl⟩ := h
  exact one_times hq hx k
theorem mod_of_mod {n q a : Nat} (h : q ∣ n) (hq : 1 < q) (ha : a % n = 1) : a % q = 1 := by
  rw [← Nat.mod_mod_of_dvd a h, ha]
  exact Nat.mod_eq_of_lt hq
/-- What passes leaves 1 at n - 1. -/
theorem Pass.one {n a : Nat} (hn : 1 < n) (h : Pass n a) : a ^ (n - 1) % n = 1 := by
  obtain ⟨s, d, e, _, h⟩ := h
  rw [e]
  rcases h with h | ⟨i, hi, h⟩
  · rw [Nat.mul_comm]
    exact one_times hn h _
  · obtain ⟨j, rfl⟩ : ∃ j, s = i + 1 + j := ⟨s - i - 1, by omega⟩
    have h2 : a ^ (2 ^ i * d * 2) % n = 1 := by
      rw [Nat.pow_mul, Nat.pow_mod, h]
      have e2 : (n - 1) ^ 2 = 1 + n * (n - 2) := by
        obtain ⟨m, rfl⟩ : ∃ m, n = m + 2 := ⟨n - 2, by omega⟩
        rw [Nat.pow_two, show m + 2 - 1 = m + 1 by omega, show m + 2 - 2 = m by omega, Nat.add_mul, Nat.mul_add, Nat.add_mul]
        omega
      rw [e2, Nat.add_mul_mod_self_left]
      exact Nat.mod_eq_of_lt hn
    have e3 : 2 ^ (i + 1 + j) * d = 2 ^ i * d * 2 * 2 ^ j := by
      rw [Nat.pow_add, Nat.pow_succ]
      simp only [Nat.mul_assoc, Nat.mul_comm, Nat.mul_left_comm]
    rw [e3]
    exact one_times hn h2 _
theorem Pass.coprime {n a p : Nat} (hn : 1 < n) (h : Pass n a) (hp : Prm p) (hpn : p ∣ n) : ¬ p ∣ a := by
  intro hpa
  have h1 := mod_of_mod hpn hp.1 (h.one hn)
  have h2 : p ∣ a ^ (n - 1) := Nat.dvd_trans hpa (Nat.dvd_trans (by rw [Nat.pow_one]; exact Nat.dvd_refl a) (Nat.pow_dvd_pow a (show 1 ≤ n - 1 by omega)))
  rw [Nat.mod_eq_zero_of_dvd h2] at h1
  omega
/-- AtP a prime that divides n. -/
def Zq (q s : Nat) : Prop := 2 ^ s % q = 1 ∧ 3 ^ s % q = 1 ∧ 5 ^ s % q = 1 ∧ 7 ^ s % q = 1
theorem Zq.gcd {q x y : Nat} (hq : 1 < q) (h : Zq q x) (k : Zq q y) : Zq q (Nat.gcd x y) :=
  ⟨one_gcd hq _ _ h.1 k.1, one_gcd hq _ _ h.2.1 k.2.1, one_gcd hq _ _ h.2.2.1 k.2.2.1, one_gcd hq _ _ h.2.2.2 k.2.2.2⟩
theorem Zq.left {q x y : Nat} (h : Zq q x) (k : Zq q (x + y)) : Zq q y := ⟨one_left h.1 k.1, one_left h.2.1 k.2.1, one_left h.2.2.1 k.2.2.1, one_left h.2.2.2 k.2.2.2⟩
theorem Zq.times {q x : Nat} (hq : 1 < q) (h : Zq q x) (k : Nat) : Zq q (x * k) := ⟨one_times hq h.1 k, one_times hq h.2.1 k, one_times hq h.2.2.1 k, one_times hq h.2.2.2 k⟩
structure AtP (n q : Nat) : Prop where
  prm : Prm q
  dvd : q ∣ n
  all : Zq q (n - 1)
  own : Zq q (q - 1)
theorem atP_of {n q : Nat} (hn : 1 < n) (h : FourP (Pass n)) (hp : Prm q) (hd : q ∣ n) : AtP n q :=
  ⟨hp, hd, ⟨mod_of_mod hd hp.1 (h.1.one hn), mod_of_mod hd hp.1 (h.2.1.one hn), mod_of_mod hd hp.1 (h.2.2.1.one hn), mod_of_mod hd hp.1 (h.2.2.2.one hn)⟩,
    ⟨fermat hp (h.1.coprime hn hp hd), fermat hp (h.2.1.coprime hn hp hd), fermat hp (h.2.2.1.coprime hn hp hd), fermat hp (h.2.2.2.coprime hn hp hd)⟩⟩
/-- The other part less one leaves 1 too. -/
theorem AtP.other {k q : Nat} (hk : 0 < k) (h : AtP (q * k) q) : Zq q (k - 1) := by
  have hq := h.prm.1
  have e : q * k - 1 = (q - 1) * k + (k - 1) := by
    rw [Nat.sub_mul, Nat.one_mul]
    have : k ≤ q * k := Nat.le_mul_of_pos_left k (by omega)
    omega
  have h1 := h.all
  rw [e] at h1
  exact (h.own.times (by omega) k).left h1
/-! What the reckoning says -/
def fN {α : Type} (n : Nat) (k : Nat → α) : α := Nat.rec (k 0) (fun m _ => k (Nat.succ m)) n
theorem fN_eq {α : Type} (n : Nat) (k : Nat → α) : fN n k = k n := by cases n <;> rfl
def pmP (n a d : Nat) : Nat :=
  Nat.mod (Nat.mul (Nat.pow (Nat.mod (Nat.mul (Nat.pow (Nat.mod (Nat.mul (Nat.pow (Nat.mod (Nat.pow a (Nat.div d 16777216)) n) 256) (Nat.pow a (Nat.mod (Nat.div d 65536) 256))) n) 256) (Nat.pow a (Nat.mod (Nat.div d 256) 256))) n) 256) (Nat.pow a (Nat.mod d 256))) n
theorem pmP_step (n a x d : Nat) : ((a ^ x % n) ^ 256 * a ^ (d % 256)) % n = a ^ (x * 256 + d % 256) % n := by
  rw [Nat.mul_mod, Nat.pow_mod, Nat.mod_mod, ← Nat.pow_mod, ← Nat.mul_mod, ← Nat.pow_mul, ← Nat.pow_add]
theorem pmP_eq (n a d : Nat) : pmP n a d = a ^ d % n := by
  show (((((a ^ (d / 16777216) % n) ^ 256 * a ^ (d / 65536 % 256)) % n) ^ 256 * a ^ (d / 256 % 256)) % n) ^ 256 * a ^ (d % 256) % n = _
  have h1 := pmP_step n a (d / 16777216) (d / 65536)
  rw [show d / 16777216 * 256 + d / 65536 % 256 = d / 65536 by omega] at h1
  have h2 := pmP_step n a (d / 65536) (d / 256)
  rw [show d / 65536 * 256 + d / 256 % 256 = d / 256 by omega] at h2
  have h3 := pmP_step n a (d / 256) d
  rw [show d / 256 * 256 + d % 256 = d by omega] at h3
  rw [h1, h2, h3]
def sqs (n : Nat) (s : Nat) : Nat → Bool :=
  Nat.rec (motive := fun _ => Nat → Bool) (fun _ => false) (fun _ ih x => cond (Nat.beq x (Nat.pred n)) true (fN (Nat.mod (Nat.mul x x) n) ih)) s
theorem sqs_of (n a d : Nat) : ∀ (s j : Nat), (∃ i, j ≤ i ∧ i < j + s ∧ a ^ (2 ^ i * d) % n = n - 1) → sqs n s (a ^ (2 ^ j * d) % n) = true := by
  intro s
  induction s with
  | zero => rintro j ⟨i, h1, h2, _⟩; omega
  | succ s ih =>
    rintro j ⟨i, h1, h2, h3⟩
    show cond (Nat.beq (a ^ (2 ^ j * d) % n) (n - 1)) true (fN ((a ^ (2 ^ j * d) % n) * (a ^ (2 ^ j * d) % n) % n) (sqs n s)) = true
    by_cases he : a ^ (2 ^ j * d) % n = n - 1
    · rw [he, Nat.beq_refl]; rfl
    · have hne : j ≠ i := fun e => by subst e; exact he h3
      have hb : Nat.beq (a ^ (2 ^ j * d) % n) (n - 1) = false := by
        cases hc : Nat.beq (a ^ (2 ^ j * d) % n) (n - 1)
        · rfl
        · exact absurd (Nat.eq_of_beq_eq_true hc) he
      rw [hb, fN_eq, ← Nat.mul_mod, ← Nat.pow_add, show 2 ^ j * d + 2 ^ j * d = 2 ^ (j + 1) * d by rw [Nat.pow_succ, Nat.mul_assoc, Nat.mul_comm 2 d, ← Nat.mul_assoc, ← Nat.two_mul, Nat.mul_comm 2]]
      exact ih (j + 1) ⟨i, by omega, by omega, h3⟩
def spd (n a s d : Nat) : Bool := fN (pmP n a d) fun x => cond (Nat.beq x 1) true (sqs n s x)
theorem spd_of {n a s d : Nat} (h : a ^ d % n = 1 ∨ ∃ i, i < s ∧ a ^ (2 ^ i * d) % n = n - 1) : spd n a s d = true := by
  unfold spd
  rw [fN_eq, pmP_eq]
  rcases h with h | ⟨i, hi, h⟩
  · rw [h]; rfl
  · cases Nat.beq (a ^ d % n) 1
    · have := sqs_of n a d s 0 ⟨i, by omega, by omega, h⟩
      rw [Nat.pow_zero, Nat.one_mul] at this
      exact this
    · rfl
def odds (fuel : Nat) : Nat → Nat → (Nat → Nat → Bool) → Bool :=
  Nat.rec (motive := fun _ => Nat → Nat → (Nat → Nat → Bool) → Bool) (fun _ _ _ => false) (fun _ ih s d k => cond (Nat.beq (Nat.mod d 2) 0) (fN (Nat.div d 2) fun e => ih (Nat.succ s) e k) (k s d)) fuel
theorem odds_true (k : Nat → Nat → Bool) : ∀ f s d, odds f s d k = true → ∃ j e, d = 2 ^ j * e ∧ e % 2 = 1 ∧ k (s + j) e = true := by
  intro f
  induction f with
  | zero => intro s d h; cases h
  | succ f ih =>
    intro s d h
    replace h : cond (Nat.beq (d % 2) 0) (fN (d / 2) fun e => odds f (s + 1) e k) (k s d) = true := h
    rcases (show d % 2 = 0 ∨ d % 2 = 1 by omega) with h0 | h1
    · rw [h0, fN_eq] at h
      obtain ⟨j, e, h1, h2, h3⟩ := ih (s + 1) (d / 2) h
      refine ⟨j + 1, e, ?_, h2, by rw [show s + (j + 1) = s + 1 + j by omega]; exact h3⟩
      rw [Nat.pow_succ, Nat.mul_assoc, Nat.mul_comm 2 e, ← Nat.mul_assoc, ← h1]
      omega
    · rw [h1] at h
      exact ⟨0, d, by simp, h1, h⟩
theorem odd_uniq {s d t e : Nat} (hd : d % 2 = 1) (he : e % 2 = 1) (h : 2 ^ s * d = 2 ^ t * e) : s = t ∧ d = e := by
  have key : ∀ s t d e : Nat, d % 2 = 1 → e % 2 = 1 → 2 ^ s * d = 2 ^ t * e → s ≤ t → s = t ∧ d = e := by
    intro s t d e hd he h hst
    obtain ⟨j, rfl⟩ : ∃ j, t = s + j := ⟨t - s, by omega⟩
    rw [Nat.pow_add, Nat.mul_assoc] at h
    have h1 := Nat.eq_of_mul_eq_mul_left (Nat.pow_pos (by omega)) h
    rcases j with _ | j
    · exact ⟨rfl, by simpa using h1⟩
    · rw [Nat.pow_succ, Nat.mul_comm (2 ^ j) 2, Nat.mul_assoc] at h1
      omega
  rcases Nat.le_total s t with h1 | h1
  · exact key s t d e hd he h h1
  · obtain ⟨a, b⟩ := key t s e d he hd h.symm h1
    exact ⟨a.symm, b.symm⟩
def okk (n s d : Nat) : Bool := cond (spd n 2 s d) (cond (spd n 3 s d) (cond (spd n 5 s d) (cond (spd n 7 s d) false true) true) true) true
def okn (n : Nat) : Bool := cond (Nat.beq n 3215031751) true (odds 33 0 (Nat.pred n) (okk n))
theorem okn_four {n : Nat} (h : okn n = true) (hf : FourP (Pass n)) : n = 3215031751 := by
  unfold okn at h
  cases hb : Nat.beq n 3215031751
  · rw [hb, cond_false] at h
    obtain ⟨j, e, h1, h2, h3⟩ := odds_true (okk n) 33 0 (Nat.pred n) h
    rw [Nat.zero_add] at h3
    have key : ∀ a, Pass n a → spd n a j e = true := by
      rintro a ⟨s, d, e1, e2, e3⟩
      obtain ⟨rfl, rfl⟩ := odd_uniq e2 h2 (e1.symm.trans h1)
      exact spd_of e3
    unfold okk at h3
    rw [key 2 hf.1, key 3 hf.2.1, key 5 hf.2.2.1, key 7 hf.2.2.2] at h3
    cases h3
  · exact Nat.eq_of_beq_eq_true hb
theorem beqP_of {a b : Nat} (h : a = b) : Nat.beq a b = true := by rw [h]; exact Nat.beq_refl b
theorem beqP_not {a b : Nat} (h : a ≠ b) : Nat.beq a b = false := by
  cases hc : Nat.beq a b
  · rfl
  · exact absurd (Nat.eq_of_beq_eq_true hc) h
def Zb (q s : Nat) : Bool := cond (Nat.beq (Nat.mod (Nat.pow 2 s) q) 1) (cond (Nat.beq (Nat.mod (Nat.pow 3 s) q) 1) (cond (Nat.beq (Nat.mod (Nat.pow 5 s) q) 1) (Nat.beq (Nat.mod (Nat.pow 7 s) q) 1) false) false) false
theorem Zb_of {q s : Nat} (h : Zq q s) : Zb q s = true := by
  show cond (Nat.beq (2 ^ s % q) 1) (cond (Nat.beq (3 ^ s % q) 1) (cond (Nat.beq (5 ^ s % q) 1) (Nat.beq (7 ^ s % q) 1) false) false) false = true
  rw [beqP_of h.1, beqP_of h.2.1, beqP_of h.2.2.1, beqP_of h.2.2.2]
  rfl
/-- d = 2 .. f + 1: where d goes into q - 1, and not into D, not all leave 1 at (q - 1) / d. -/
def ells (q D f : Nat) : Bool :=
  Nat.rec (motive := fun _ => Bool) true (fun f ih => cond (cond (Nat.beq (Nat.mod (Nat.pred q) (f + 2)) 0) (cond (Nat.beq (Nat.mod D (f + 2)) 0) true (cond (Zb q (Nat.div (Nat.pred q) (f + 2))) false true)) true) ih false) f
theorem ells_true {q D : Nat} : ∀ f, ells q D f = true → ∀ d, 2 ≤ d → d < f + 2 → d ∣ q - 1 → ¬ d ∣ D → ¬ Zq q ((q - 1) / d) := by
  intro f
  induction f with
  | zero => intro _ d h1 h2; omega
  | succ f ih =>
    intro h d h1 h2 h3 h4 hz
    replace h : cond (cond (Nat.beq ((q - 1) % (f + 2)) 0) (cond (Nat.beq (D % (f + 2)) 0) true (cond (Zb q ((q - 1) / (f + 2))) false true)) true) (ells q D f) false = true := h
    by_cases hd : d = f + 2
    · subst hd
      rw [beqP_of (Nat.mod_eq_zero_of_dvd h3), beqP_not (fun e => h4 (Nat.dvd_of_mod_eq_zero e)), Zb_of hz] at h
      cases h
    · refine ih ?_ d h1 (by omega) h3 h4 hz
      generalize cond (Nat.beq ((q - 1) % (f + 2)) 0) (cond (Nat.beq (D % (f + 2)) 0) true (cond (Zb q ((q - 1) / (f + 2))) false true)) true = b at h
      cases b
      · cases h
      · exact h
/-- How far apart the other parts are. -/
theorem far_apart {q D g S : Nat} (hq : 1 < q) (ho : Zq q (q - 1)) (hg : Zq q g) (hD : 0 < D) (he : ells q D 63 = true) (hs : ∀ s, 1 ≤ s → s ≤ S → ¬ Zq q s) (hS : q - 1 < 65 * (S + 1)) : (q - 1) / Nat.gcd (q - 1) D ∣ g := by
  have hz := ho.gcd hq hg
  have hd1 := Nat.gcd_dvd_left (q - 1) g
  have hd2 := Nat.gcd_dvd_right (q - 1) g
  generalize Nat.gcd (q - 1) g = x at *
  obtain ⟨d, hd⟩ := hd1
  have hx : 0 < x := by
    rcases Nat.eq_zero_or_pos x with h | h
    · subst h; omega
    · exact h
  have hdx : (q - 1) / d = x := by
    have h0 : 0 < d := by
      rcases Nat.eq_zero_or_pos d with h | h
      · subst h; omega
      · exact h
    rw [hd, Nat.mul_div_cancel _ h0]
  refine Nat.dvd_trans ?_ hd2
  have hdd : d ∣ q - 1 := ⟨x, by rw [hd, Nat.mul_comm]⟩
  have hfin : d ∣ D → (q - 1) / Nat.gcd (q - 1) D ∣ x := fun h => by
    obtain ⟨c, hc⟩ := Nat.dvd_gcd hdd h
    have hg2 := Nat.gcd_dvd_left (q - 1) D
    have hgp : 0 < Nat.gcd (q - 1) D := Nat.gcd_pos_of_pos_right _ hD
    obtain ⟨y, hy⟩ := hg2
    have e1 : (q - 1) / Nat.gcd (q - 1) D = y := by rw [Nat.div_eq_iff_eq_mul_right hgp ⟨y, hy⟩]; exact hy
    rw [e1]
    have hdp : 0 < d := by
      rcases Nat.eq_zero_or_pos d with h | h
      · subst h; omega
      · exact h
    refine ⟨c, Nat.eq_of_mul_eq_mul_left hdp ?_⟩
    have e2 : d * x = d * c * y := by rw [← hc, Nat.mul_comm d x, ← hd]; exact hy
    rw [e2]
    simp only [Nat.mul_comm, Nat.mul_left_comm]
  by_cases h1 : d ≤ 1
  · have : d = 1 := by
      rcases Nat.eq_zero_or_pos d with h | h
      · subst h; omega
      · omega
    subst this
    exact hfin (Nat.one_dvd D)
  · by_cases h2 : d ≤ 64
    · by_cases h3 : d ∣ D
      · exact hfin h3
      · exact absurd (hdx ▸ hz) (ells_true 63 he d (by omega) (by omega) hdd h3)
    · refine absurd hz (hs x hx ?_)
      have : 65 * x ≤ x * d := by rw [Nat.mul_comm 65]; exact Nat.mul_le_mul_left _ (by omega)
      omega
def cands (q M c : Nat) : Nat → Bool :=
  Nat.rec (motive := fun _ => Nat → Bool) (fun _ => true) (fun _ ih k => cond (cond (Nat.beq (Nat.gcd k 210) 1) (fN (Nat.mul q k) okn) true) (fN (Nat.add k M) ih) false) c
theorem cands_true {q M : Nat} : ∀ c k, cands q M c k = true → ∀ i, i < c → Nat.gcd (k + i * M) 210 = 1 → okn (q * (k + i * M)) = true := by
  intro c
  induction c with
  | zero => intro k _ i hi; omega
  | succ c ih =>
    intro k h i hi hg
    replace h : cond (cond (Nat.beq (Nat.gcd k 210) 1) (fN (q * k) okn) true) (fN (k + M) (cands q M c)) false = true := h
    rw [fN_eq, fN_eq] at h
    rcases i with _ | i
    · rw [Nat.zero_mul, Nat.add_zero] at hg ⊢
      rw [beqP_of hg] at h
      cases ho : okn (q * k)
      · rw [ho] at h; cases h
      · rfl
    · have e : k + (i + 1) * M = k + M + i * M := by rw [Nat.add_mul, Nat.one_mul]; omega
      rw [e] at hg ⊢
      refine ih (k + M) ?_ i (by omega) hg
      generalize cond (Nat.beq (Nat.gcd k 210) 1) (okn (q * k)) true = b at h
      cases b
      · cases h
      · exact h
def cntP (q M : Nat) : Nat := Nat.div (Nat.div 4294967296 q) M
def chk1 (q D : Nat) : Bool := cond (ells q D 63) (fN (Nat.div (Nat.pred q) (Nat.gcd (Nat.pred q) D)) fun M => cands q M (cntP q M) (Nat.succ M)) false
theorem chk1_true {q D k S : Nat} (h : chk1 q D = true) (hA : AtP (q * k) q) (hk : 1 < k) (hn : q * k < 4294967296) (hg : Nat.gcd k 210 = 1) (hD : 0 < D) (hs : ∀ s, 1 ≤ s → s ≤ S → ¬ Zq q s) (hS : q - 1 < 65 * (S + 1)) : okn (q * k) = true := by
  have hq := hA.prm.1
  unfold chk1 at h
  rw [fN_eq] at h
  cases he : ells q D 63
  · rw [he] at h; cases h
  · rw [he, cond_true] at h
    have hM := far_apart (by omega) hA.own (hA.other (by omega)) hD he hs hS
    replace h : cands q ((q - 1) / Nat.gcd (q - 1) D) (cntP q ((q - 1) / Nat.gcd (q - 1) D)) ((q - 1) / Nat.gcd (q - 1) D + 1) = true := h
    have hMp : 0 < (q - 1) / Nat.gcd (q - 1) D := Nat.div_pos (Nat.le_of_dvd (by omega) (Nat.gcd_dvd_left _ _)) (Nat.gcd_pos_of_pos_right _ hD)
    generalize (q - 1) / Nat.gcd (q - 1) D = M at *
    obtain ⟨j, hj⟩ := hM
    obtain ⟨i, rfl⟩ : ∃ i, j = i + 1 := ⟨j - 1, by
      rcases j with _ | j
      · rw [Nat.mul_zero] at hj; omega
      · omega⟩
    have ek : k = M + 1 + i * M := by rw [Nat.mul_add, Nat.mul_one, Nat.mul_comm] at hj; omega
    rw [ek] at hg ⊢
    refine cands_true _ _ h i ?_ hg
    show i < 4294967296 / q / M
    have h1 : k ≤ 4294967296 / q := by rw [Nat.le_div_iff_mul_le (by omega), Nat.mul_comm]; omega
    have h2 : i + 1 ≤ 4294967296 / q / M := by rw [Nat.le_div_iff_mul_le hMp, Nat.mul_comm]; omega
    omega
/-! Great primes -/
def prodP (j : Nat) : Nat → Nat := Nat.rec (motive := fun _ => Nat → Nat) (fun lo => lo) (fun j ih lo => Nat.mul (ih lo) (ih (Nat.add lo (Nat.pow 2 j)))) j
theorem prodP_dvd {q : Nat} (hq : Prm q) : ∀ j lo, 0 < lo → q ∣ prodP j lo → q < lo + 2 ^ j := by
  intro j
  induction j with
  | zero => intro lo h0 h; have := Nat.le_of_dvd h0 h; simp; omega
  | succ j ih =>
    intro lo h0 h
    replace h : q ∣ prodP j lo * prodP j (lo + 2 ^ j) := h
    have hp : 0 < 2 ^ j := Nat.pow_pos (by omega)
    rw [Nat.pow_succ]
    rcases hq.euclid _ _ h with h | h
    · have := ih lo h0 h; omega
    · have := ih (lo + 2 ^ j) (by omega) h; omega
def GG (s : Nat) : Nat := Nat.gcd (Nat.pred (Nat.pow 7 s)) (Nat.gcd (Nat.pred (Nat.pow 5 s)) (Nat.gcd (Nat.pred (Nat.pow 3 s)) (Nat.pred (Nat.pow 2 s))))
theorem dvdP_pred {q a s : Nat} (h : a ^ s % q = 1) : q ∣ a ^ s - 1 := ⟨a ^ s / q, by have := Nat.div_add_mod (a ^ s) q; omega⟩
theorem GG_of {q s : Nat} (h : Zq q s) : q ∣ GG s := by
  show q ∣ Nat.gcd (7 ^ s - 1) (Nat.gcd (5 ^ s - 1) (Nat.gcd (3 ^ s - 1) (2 ^ s - 1)))
  exact Nat.dvd_gcd (dvdP_pred h.2.2.2) (Nat.dvd_gcd (dvdP_pred h.2.2.1) (Nat.dvd_gcd (dvdP_pred h.2.1) (dvdP_pred h.1)))
def chkG (W f : Nat) : Nat → Bool := Nat.rec (motive := fun _ => Nat → Bool) (fun _ => true) (fun _ ih s => cond (Nat.beq (Nat.mod W (GG s)) 0) (fN (Nat.succ s) ih) false) f
theorem chkG_true {W : Nat} : ∀ f s, chkG W f s = true → ∀ i, i < f → GG (s + i) ∣ W := by
  intro f
  induction f with
  | zero => intro s _ i hi; omega
  | succ f ih =>
    intro s h i hi
    replace h : cond (Nat.beq (W % GG s) 0) (fN (s + 1) (chkG W f)) false = true := h
    rw [fN_eq] at h
    cases hc : Nat.beq (W % GG s) 0
    · rw [hc] at h; cases h
    · rw [hc, cond_true] at h
      rcases i with _ | i
      · exact Nat.dvd_of_mod_eq_zero (Nat.eq_of_beq_eq_true hc)
      · rw [show s + (i + 1) = s + 1 + i by omega]
        exact ih (s + 1) h i (by omega)
theorem none_small {j f q : Nat} (h : (fN (prodP j 1) fun W => chkG W f 1) = true) (hq : Prm q) (hj : 2 ^ j < q) : ∀ s, 1 ≤ s → s ≤ f → ¬ Zq q s := by
  rw [fN_eq] at h
  intro s h1 h2 hz
  have := chkG_true f 1 h (s - 1) (by omega)
  rw [show 1 + (s - 1) = s by omega] at this
  have := prodP_dvd hq j 1 (by omega) (Nat.dvd_trans (GG_of hz) this)
  omega
def chkK (W f : Nat) : Nat → Bool := Nat.rec (motive := fun _ => Nat → Bool) (fun _ => true) (fun _ ih k => cond (cond (Nat.beq (Nat.gcd k 210) 1) (Nat.beq (Nat.mod W (GG (Nat.pred k))) 0) true) (fN (Nat.succ k) ih) false) f
theorem chkK_true {W : Nat} : ∀ f k, chkK W f k = true → ∀ i, i < f → Nat.gcd (k + i) 210 = 1 → GG (k + i - 1) ∣ W := by
  intro f
  induction f with
  | zero => intro s _ i hi; omega
  | succ f ih =>
    intro k h i hi hg
    replace h : cond (cond (Nat.beq (Nat.gcd k 210) 1) (Nat.beq (W % GG (k - 1)) 0) true) (fN (k + 1) (chkK W f)) false = true := h
    rw [fN_eq] at h
    rcases i with _ | i
    · rw [Nat.add_zero] at hg ⊢
      rw [beqP_of hg, cond_true] at h
      cases hc : Nat.beq (W % GG (k - 1)) 0
      · rw [hc] at h; cases h
      · exact Nat.dvd_of_mod_eq_zero (Nat.eq_of_beq_eq_true hc)
    · rw [show k + (i + 1) = k + 1 + i by omega] at hg ⊢
      refine ih (k + 1) ?_ i (by omega) hg
      generalize cond (Nat.beq (Nat.gcd k 210) 1) (Nat.beq (W % GG (k - 1)) 0) true = b at h
      cases b
      · cases h
      · exact h
/-- Primes above 2^16 that may come. -/
def prodL (l : List (Nat × Nat)) : Nat := l.foldr (fun x r => x.1 * r) 1
theorem prodL_dvd {q : Nat} (hq : Prm q) : ∀ l : List (Nat × Nat), q ∣ prodL l → ∃ x ∈ l, q ∣ x.1 := by
  intro l
  induction l with
  | nil => intro h; have := Nat.le_of_dvd (by decide) h; have := hq.1; simp [prodL] at *; omega
  | cons x l ih =>
    intro h
    replace h : q ∣ x.1 * prodL l := h
    rcases hq.euclid _ _ h with h | h
    · exact ⟨x, List.mem_cons_self .., h⟩
    · obtain ⟨y, hy, hd⟩ := ih h
      exact ⟨y, List.mem_cons_of_mem _ hy, hd⟩
/-- 128!. -/
def S128 : Nat := 385620482362580421735677065923463640617493109590223590278828403276373402575165543560686168588507361534030051833058916347592172932262498857766114955245039357760034644709279247692495585280000000000000000000000000000000
theorem S128_eq : prodP 7 1 = S128 := by decide +kernel
theorem gcd_S {q : Nat} (hq : Prm q) (h : 128 < q) : Nat.gcd q S128 = 1 := by
  rcases hq.2 _ (Nat.gcd_dvd_left q S128) with h1 | h1
  · exact h1
  · exfalso
    have h2 : q ∣ prodP 7 1 := by
      rw [S128_eq]
      have := Nat.gcd_dvd_right q S128
      rwa [h1] at this
    have := prodP_dvd hq 7 1 (by omega) h2
    omega
def chkQ (q : Nat) : Bool := cond (Nat.beq (Nat.gcd q S128) 1) (cond (Nat.beq (Nat.mod (Nat.pow 2 (Nat.pred q)) q) 1) (chk1 q 12) true) true
def chkR (f : Nat) : Nat → Bool := Nat.rec (motive := fun _ => Nat → Bool) (fun _ => true) (fun _ ih q => cond (chkQ q) (fN (Nat.succ q) ih) false) f
theorem chkR_true : ∀ f q, chkR f q = true → ∀ i, i < f → chkQ (q + i) = true := by
  intro f
  induction f with
  | zero => intro q _ i hi; omega
  | succ f ih =>
    intro q h i hi
    replace h : cond (chkQ q) (fN (q + 1) (chkR f)) false = true := h
    rw [fN_eq] at h
    cases hc : chkQ q
    · rw [hc] at h; cases h
    · rw [hc, cond_true] at h
      rcases i with _ | i
      · exact hc
      · rw [show q + (i + 1) = q + 1 + i by omega]
        exact ih (q + 1) h i (by omega)
theorem chkQ_true {q k S : Nat} (h : chkQ q = true) (hA : AtP (q * k) q) (hk : 1 < k) (hn : q * k < 4294967296) (hg : Nat.gcd k 210 = 1) (hg2 : Nat.gcd q S128 = 1) (hs : ∀ s, 1 ≤ s → s ≤ S → ¬ Zq q s) (hS : q - 1 < 65 * (S + 1)) : okn (q * k) = true := by
  replace h : cond (Nat.beq (Nat.gcd q S128) 1) (cond (Nat.beq (2 ^ (q - 1) % q) 1) (chk1 q 12) true) true = true := h
  rw [beqP_of hg2, beqP_of hA.own.1] at h
  exact chk1_true h hA hk hn hg (by omega) hs hS
/-! Small primes, by how many twos stand in their orders -/
def oddp (f : Nat) : Nat → Nat := Nat.rec (motive := fun _ => Nat → Nat) (fun d => d) (fun _ ih d => cond (Nat.beq (Nat.mod d 2) 0) (fN (Nat.div d 2) ih) d) f
theorem oddp_spec : ∀ f d, 0 < d → d < 2 ^ f → ∃ t, d = 2 ^ t * oddp f d ∧ oddp f d % 2 = 1 := by
  intro f
  induction f with
  | zero => intro d h1 h2; simp at h2; omega
  | succ f ih =>
    intro d h1 h2
    have e : oddp (f + 1) d = cond (Nat.beq (d % 2) 0) (fN (d / 2) (oddp f)) d := rfl
    rcases (show d % 2 = 0 ∨ d % 2 = 1 by omega) with h0 | h0
    · rw [h0, Nat.beq_refl, cond_true, fN_eq] at e
      rw [Nat.pow_succ] at h2
      obtain ⟨t, h3, h4⟩ := ih (d / 2) (by omega) (by omega)
      rw [e]
      refine ⟨t + 1, ?_, h4⟩
      rw [Nat.pow_succ, Nat.mul_assoc, Nat.mul_comm 2, ← Nat.mul_assoc, ← h3]
      omega
    · rw [h0] at e
      replace e : oddp (f + 1) d = d := e
      rw [e]
      exact ⟨0, by simp, h0⟩
def esP (p : Nat) (f : Nat) : Nat → Nat := Nat.rec (motive := fun _ => Nat → Nat) (fun _ => 0) (fun _ ih x => cond (Nat.beq x 1) 0 (Nat.succ (fN (Nat.mod (Nat.mul x x) p) ih))) f
/-- j is the first of 0, 1, .. at which a^(2^j m) leaves 1. -/
def ExP (p a m j : Nat) : Prop := a ^ (2 ^ j * m) % p = 1 ∧ ∀ i, i < j → a ^ (2 ^ i * m) % p ≠ 1
theorem esP_of {p a m j : Nat} (h : ExP p a m j) : ∀ f k, k ≤ j → j < k + f → esP p f (a ^ (2 ^ k * m) % p) = j - k := by
  intro f
  induction f with
  | zero => intro k h1 h2; omega
  | succ f ih =>
    intro k h1 h2
    show cond (Nat.beq (a ^ (2 ^ k * m) % p) 1) 0 (fN ((a ^ (2 ^ k * m) % p) * (a ^ (2 ^ k * m) % p) % p) (esP p f) + 1) = j - k
    rcases Nat.lt_or_eq_of_le h1 with h3 | rfl
    · rw [beqP_not (h.2 k h3), cond_false, fN_eq, ← Nat.mul_mod, ← Nat.pow_add, show 2 ^ k * m + 2 ^ k * m = 2 ^ (k + 1) * m by rw [Nat.pow_succ, Nat.mul_assoc, Nat.mul_comm 2 m, ← Nat.mul_assoc, ← Nat.two_mul, Nat.mul_comm 2], ih (k + 1) (by omega) (by omega)]
      omega
    · rw [beqP_of h.1, cond_true, Nat.sub_self]
def esAP (p a : Nat) : Nat := fN (oddp 33 (Nat.pred p)) fun m => esP p 40 (Nat.mod (Nat.pow a m) p)
theorem odd_dvd {g t m : Nat} (ho : g % 2 = 1) (h : g ∣ 2 ^ t * m) : g ∣ m := by
  have hc : Nat.Coprime g (2 ^ t) := Nat.Coprime.pow_right t (by
    show Nat.gcd g 2 = 1
    rw [Nat.gcd_comm, Nat.gcd_rec, ho]
    decide)
  exact hc.dvd_of_dvd_mul_left h
theorem odd_gcd {a b : Nat} (h : a % 2 = 1) : Nat.gcd a b % 2 = 1 := by
  rcases (show Nat.gcd a b % 2 = 0 ∨ Nat.gcd a b % 2 = 1 by omega) with h0 | h0
  · have := Nat.dvd_trans (Nat.dvd_of_mod_eq_zero h0) (Nat.gcd_dvd_left a b)
    omega
  · exact h0
/-- All primes that divide a number which passes have as many twos in a's order. -/
theorem Pass.twos {n a : Nat} (hn : 1 < n) (hlt : n < 4294967296) (h : Pass n a) : ∃ j, j < 40 ∧ ∀ p t m, Prm p → p ∣ n → p % 2 = 1 → a ^ (p - 1) % p = 1 → p - 1 = 2 ^ t * m → m % 2 = 1 → ExP p a m j := by
  obtain ⟨s, d, e, hd, h⟩ := h
  rcases h with h | ⟨i, hi, h⟩
  · refine ⟨0, by omega, fun p t m hp hpn _ hf hm _ => ⟨?_, fun i hi => by omega⟩⟩
    have h1 := mod_of_mod hpn hp.1 h
    rw [hm] at hf
    have h2 := one_gcd hp.1 _ _ h1 hf
    rw [Nat.pow_zero, Nat.one_mul]
    exact one_dvd hp.1 (odd_dvd (odd_gcd hd) (Nat.gcd_dvd_right d (2 ^ t * m))) h2
  · have hs : s < 33 := by
      rcases Nat.lt_or_ge s 33 with h | h
      · exact h
      · have h1 : 2 ^ 33 ≤ 2 ^ s := Nat.pow_le_pow_right (by omega) h
        have h2 : 2 ^ s * 1 ≤ 2 ^ s * d := Nat.mul_le_mul_left _ (by omega)
        omega
    refine ⟨i + 1, by omega, fun p t m hp hpn hpo hf hm hmo => ?_⟩
    have h2p := hp.1
    have hneg : a ^ (2 ^ i * d) % p = p - 1 := by
      rw [← Nat.mod_mod_of_dvd _ hpn, h]
      obtain ⟨c, rfl⟩ := hpn
      have hc : 0 < c := by
        rcases Nat.eq_zero_or_pos c with h | h
        · subst h; omega
        · exact h
      obtain ⟨b, rfl⟩ : ∃ b, c = b + 1 := ⟨c - 1, by omega⟩
      rw [Nat.mul_add, Nat.mul_one, show p * b + p - 1 = (p - 1) + p * b by omega, Nat.add_mul_mod_self_left]
      exact Nat.mod_eq_of_lt (by omega)
    have hsq : a ^ (2 ^ (i + 1) * d) % p = 1 := by
      rw [show 2 ^ (i + 1) * d = 2 ^ i * d * 2 by rw [Nat.pow_succ, Nat.mul_assoc, Nat.mul_comm 2 d, ← Nat.mul_assoc], Nat.pow_mul, Nat.pow_mod, hneg]
      obtain ⟨r, rfl⟩ : ∃ r, p = r + 2 := ⟨p - 2, by omega⟩
      rw [show (r + 2 - 1) ^ 2 = 1 + (r + 2) * r by rw [Nat.pow_two, show r + 2 - 1 = r + 1 by omega, Nat.add_mul, Nat.mul_add, Nat.add_mul]; omega, Nat.add_mul_mod_self_left]
      exact Nat.mod_eq_of_lt (by omega)
    constructor
    · have h1 : (a ^ 2 ^ (i + 1)) ^ d % p = 1 := by rw [← Nat.pow_mul]; exact hsq
      have h2 : (a ^ 2 ^ (i + 1)) ^ (2 ^ t * m) % p = 1 := by
        rw [← Nat.pow_mul, Nat.mul_comm, ← hm]
        exact one_times (by omega) hf _
      have h3 := one_dvd (y := m) (by omega) (odd_dvd (odd_gcd hd) (Nat.gcd_dvd_right d (2 ^ t * m))) (one_gcd (by omega) _ _ h1 h2)
      rw [← Nat.pow_mul] at h3
      exact h3
    · intro j hj hc
      obtain ⟨r, rfl⟩ : ∃ r, i = j + r := ⟨i - j, by omega⟩
      have h1 : (a ^ 2 ^ (j + r)) ^ m % p = 1 := by
        rw [← Nat.pow_mul, show 2 ^ (j + r) * m = 2 ^ j * m * 2 ^ r by rw [Nat.pow_add]; simp only [Nat.mul_assoc, Nat.mul_comm]]
        exact one_times (by omega) hc _
      have h2 : (a ^ 2 ^ (j + r)) ^ (2 ^ 1 * d) % p = 1 := by
        rw [← Nat.pow_mul, show 2 ^ (j + r) * (2 ^ 1 * d) = 2 ^ (j + r + 1) * d by rw [Nat.pow_succ 2 (j + r), Nat.pow_one, Nat.mul_assoc]]
        exact hsq
      have h3 := one_dvd (y := d) (by omega) (odd_dvd (odd_gcd hmo) (Nat.gcd_dvd_right m (2 ^ 1 * d))) (one_gcd (by omega) _ _ h1 h2)
      rw [← Nat.pow_mul, hneg] at h3
      omega
theorem esAP_of {p a j : Nat} (hp : 2 ≤ p) (hlt : p < 4294967296) (hj : j < 40) (h : ∀ t m, p - 1 = 2 ^ t * m → m % 2 = 1 → ExP p a m j) : esAP p a = j := by
  obtain ⟨t, h1, h2⟩ := oddp_spec 33 (p - 1) (by omega) (by omega)
  have hx := h t _ h1 h2
  have := esP_of hx 40 0 (by omega) (by omega)
  unfold esAP
  rw [fN_eq]
  rw [Nat.pow_zero, Nat.one_mul, Nat.sub_zero] at this
  exact this
def sigN (p : Nat) : Nat := Nat.add (esAP p 2) (Nat.mul 64 (Nat.add (esAP p 3) (Nat.mul 64 (Nat.add (esAP p 5) (Nat.mul 64 (esAP p 7))))))
/-- One sign for all of them. -/
theorem one_sign {n : Nat} (hn : 1 < n) (hlt : n < 4294967296) (h : FourP (Pass n)) : ∃ σ, ∀ p, Prm p → p ∣ n → p % 2 = 1 → sigN p = σ := by
  obtain ⟨j2, l2, h2⟩ := h.1.twos hn hlt
  obtain ⟨j3, l3, h3⟩ := h.2.1.twos hn hlt
  obtain ⟨j5, l5, h5⟩ := h.2.2.1.twos hn hlt
  obtain ⟨j7, l7, h7⟩ := h.2.2.2.twos hn hlt
  refine ⟨Nat.add j2 (Nat.mul 64 (Nat.add j3 (Nat.mul 64 (Nat.add j5 (Nat.mul 64 j7))))), fun p hp hd ho => ?_⟩
  have hle := Nat.le_of_dvd (by omega) hd
  have hA := atP_of hn h hp hd
  unfold sigN
  rw [esAP_of hp.1 (by omega) l2 fun t m e1 e2 => h2 p t m hp hd ho hA.own.1 e1 e2, esAP_of hp.1 (by omega) l3 fun t m e1 e2 => h3 p t m hp hd ho hA.own.2.1 e1 e2,
    esAP_of hp.1 (by omega) l5 fun t m e1 e2 => h5 p t m hp hd ho hA.own.2.2.1 e1 e2, esAP_of hp.1 (by omega) l7 fun t m e1 e2 => h7 p t m hp hd ho hA.own.2.2.2 e1 e2]
def lookP (σ : Nat) : List (Nat × List Nat) → List Nat
  | [] => []
  | x :: t => cond (Nat.beq x.1 σ) x.2 (lookP σ t)
def elemN (p : Nat) : List Nat → Bool
  | [] => false
  | x :: l => cond (Nat.beq x p) true (elemN p l)
theorem elemN_true {p : Nat} : ∀ l : List Nat, elemN p l = true → p ∈ l := by
  intro l
  induction l with
  | nil => intro h; cases h
  | cons x l ih =>
    intro h
    replace h : cond (Nat.beq x p) true (elemN p l) = true := h
    cases hc : Nat.beq x p
    · rw [hc] at h; exact List.mem_cons_of_mem _ (ih h)
    · rw [Nat.eq_of_beq_eq_true hc]; exact List.mem_cons_self ..
theorem lookP_mem {σ : Nat} : ∀ t : List (Nat × List Nat), lookP σ t = [] ∨ ∃ x ∈ t, lookP σ t = x.2 := by
  intro t
  induction t with
  | nil => exact .inl rfl
  | cons x t ih =>
    have e : lookP σ (x :: t) = cond (Nat.beq x.1 σ) x.2 (lookP σ t) := rfl
    cases hc : Nat.beq x.1 σ
    · rw [hc, cond_false] at e
      rw [e]
      rcases ih with h | ⟨y, hy, h⟩
      · exact .inl h
      · exact .inr ⟨y, List.mem_cons_of_mem _ hy, h⟩
    · rw [hc, cond_true] at e
      exact .inr ⟨x, List.mem_cons_self .., e⟩
def chkS (t : List (Nat × List Nat)) (f : Nat) : Nat → Bool := Nat.rec (motive := fun _ => Nat → Bool) (fun _ => true) (fun _ ih p => cond (cond (Nat.beq (Nat.gcd p 210) 1) (cond (Zb p (Nat.pred p)) (fN (sigN p) fun σ => elemN p (lookP σ t)) true) true) (fN (Nat.succ p) ih) false) f
theorem chkS_true {t : List (Nat × List Nat)} : ∀ f p, chkS t f p = true → ∀ i, i < f → Nat.gcd (p + i) 210 = 1 → Zq (p + i) (p + i - 1) → p + i ∈ lookP (sigN (p + i)) t := by
  intro f
  induction f with
  | zero => intro p _ i hi; omega
  | succ f ih =>
    intro p h i hi h1 h2
    replace h : cond (cond (Nat.beq (Nat.gcd p 210) 1) (cond (Zb p (p - 1)) (fN (sigN p) fun σ => elemN p (lookP σ t)) true) true) (fN (p + 1) (chkS t f)) false = true := h
    rw [fN_eq, fN_eq] at h
    rcases i with _ | i
    · rw [Nat.add_zero] at *
      rw [beqP_of h1, Zb_of h2, cond_true, cond_true] at h
      cases hc : elemN p (lookP (sigN p) t)
      · rw [hc] at h; cases h
      · exact elemN_true _ hc
    · rw [show p + (i + 1) = p + 1 + i by omega] at *
      refine ih (p + 1) ?_ i (by omega) h1 h2
      generalize cond (Nat.beq (Nat.gcd p 210) 1) (cond (Zb p (p - 1)) (elemN p (lookP (sigN p) t)) true) true = b at h
      cases b
      · cases h
      · exact h
/-- All products of the list's numbers behind acc. -/
def dfsL (ih : List Nat → Nat → Bool) (acc : Nat) : List Nat → Bool
  | [] => true
  | p :: r => fN (Nat.mul acc p) fun x => cond (Nat.ble 4294967296 x) true (cond (okn x) (cond (ih (p :: r) x) (dfsL ih acc r) false) false)
def dfs (f : Nat) : List Nat → Nat → Bool := Nat.rec (motive := fun _ => List Nat → Nat → Bool) (fun _ _ => false) (fun _ ih l acc => dfsL ih acc l) f
theorem dfs_true : ∀ f l acc, dfs f l acc = true → l.Pairwise (· ≤ ·) → ∀ m, 1 < m → (∀ p, Prm p → p ∣ m → p ∈ l) → acc * m < 4294967296 → okn (acc * m) = true := by
  intro f
  induction f with
  | zero => intro l acc h; cases h
  | succ f ihf =>
    intro l
    induction l with
    | nil =>
      intro acc _ _ m hm hp
      obtain ⟨p, h1, h2⟩ := prm_factor m hm
      cases hp p h1 h2
    | cons p r ihl =>
      intro acc h hs m hm hp hlt
      replace h : (fN (acc * p) fun x => cond (Nat.ble 4294967296 x) true (cond (okn x) (cond (dfs f (p :: r) x) (dfs (f + 1) r acc) false) false)) = true := h
      rw [fN_eq] at h
      have hrest := List.pairwise_cons.1 hs
      have hsmall : acc * p < 4294967296 := by
        obtain ⟨q, h1, h2⟩ := prm_factor m hm
        have hle := Nat.le_of_dvd (by omega) h2
        have hpq : p ≤ q := by
          rcases List.mem_cons.1 (hp q h1 h2) with h3 | h3
          · omega
          · exact hrest.1 q h3
        have : acc * p ≤ acc * m := Nat.mul_le_mul_left _ (by omega)
        omega
      have hb : Nat.ble 4294967296 (acc * p) = false := by
        cases hc : Nat.ble 4294967296 (acc * p)
        · rfl
        · have := Nat.le_of_ble_eq_true hc; omega
      rw [hb, cond_false] at h
      cases ho : okn (acc * p)
      · rw [ho] at h; cases h
      · rw [ho, cond_true] at h
        cases hd : dfs f (p :: r) (acc * p)
        · rw [hd] at h; cases h
        · rw [hd, cond_true] at h
          by_cases hpm : p ∣ m
          · obtain ⟨c, rfl⟩ := hpm
            rw [← Nat.mul_assoc] at hlt ⊢
            by_cases hc1 : c = 1
            · subst hc1; rw [Nat.mul_one]; exact ho
            · have hc0 : c ≠ 0 := by intro e; subst e; omega
              exact ihf (p :: r) (acc * p) hd hs c (by omega) (fun q hq hqc => hp q hq (Nat.dvd_trans hqc (Nat.dvd_mul_left c p))) hlt
          · exact ihl acc h hrest.2 m hm (fun q hq hqm => by
              rcases List.mem_cons.1 (hp q hq hqm) with h3 | h3
              · subst h3; exact absurd hqm hpm
              · exact h3) hlt
def rootc : List Nat → Bool
  | [] => true
  | p :: r => cond (dfs 9 (p :: r) p) (rootc r) false
theorem rootc_true : ∀ l, rootc l = true → l.Pairwise (· ≤ ·) → ∀ n, 1 < n → ¬ Prm n → (∀ p, Prm p → p ∣ n → p ∈ l) → n < 4294967296 → (∀ p ∈ l, p ∣ n → p ≠ n ∨ ¬ Prm n) → okn n = true := by
  intro l
  induction l with
  | nil =>
    intro _ _ n hn _ hp
    obtain ⟨p, h1, h2⟩ := prm_factor n hn
    cases hp p h1 h2
  | cons p r ih =>
    intro h hs n hn hc hp hlt hx
    replace h : cond (dfs 9 (p :: r) p) (rootc r) false = true := h
    cases hd : dfs 9 (p :: r) p
    · rw [hd] at h; cases h
    · rw [hd, cond_true] at h
      by_cases hpn : p ∣ n
      · by_cases hpp : Prm p
        · obtain ⟨c, rfl⟩ := hpn
          have h2 := hpp.1
          have hc1 : 1 < c := by
            rcases (show c = 0 ∨ c = 1 ∨ 1 < c by omega) with rfl | rfl | h
            · omega
            · rw [Nat.mul_one] at hc; exact absurd hpp hc
            · exact h
          exact dfs_true 9 (p :: r) p hd hs c hc1 (fun q hq hqc => hp q hq (Nat.dvd_trans hqc (Nat.dvd_mul_left c p))) hlt
        · exact ih h (List.pairwise_cons.1 hs).2 n hn hc (fun q hq hqn => by
            rcases List.mem_cons.1 (hp q hq hqn) with h3 | h3
            · subst h3; exact absurd hq hpp
            · exact h3) hlt (fun q hq => hx q (List.mem_cons_of_mem _ hq))
      · exact ih h (List.pairwise_cons.1 hs).2 n hn hc (fun q hq hqn => by
          rcases List.mem_cons.1 (hp q hq hqn) with h3 | h3
          · subst h3; exact absurd hqn hpn
          · exact h3) hlt (fun q hq => hx q (List.mem_cons_of_mem _ hq))
def leHP (p : Nat) : List Nat → Bool
  | [] => true
  | q :: _ => Nat.ble p q
def ascP : List Nat → Bool
  | [] => true
  | p :: r => cond (leHP p r) (ascP r) false
theorem ascP_true : ∀ l, ascP l = true → l.Pairwise (· ≤ ·) := by
  intro l
  induction l with
  | nil => intro _; exact List.Pairwise.nil
  | cons p r ih =>
    intro h
    cases r with
    | nil => exact List.pairwise_cons.2 ⟨fun x hx => (by cases hx), List.Pairwise.nil⟩
    | cons q r =>
      replace h : cond (Nat.ble p q) (ascP (q :: r)) false = true := h
      cases hc : Nat.ble p q
      · rw [hc] at h; cases h
      · rw [hc, cond_true] at h
        have h1 := ih h
        have h2 := Nat.le_of_ble_eq_true hc
        refine List.pairwise_cons.2 ⟨fun x hx => ?_, h1⟩
        rcases List.mem_cons.1 hx with rfl | hx
        · exact h2
        · exact Nat.le_trans h2 ((List.pairwise_cons.1 h1).1 x hx)
def chkT : List (Nat × List Nat) → Bool
  | [] => true
  | x :: t => cond (ascP x.2) (cond (rootc x.2) (chkT t) false) false
theorem chkT_true : ∀ t : List (Nat × List Nat), chkT t = true → ∀ x ∈ t, x.2.Pairwise (· ≤ ·) ∧ rootc x.2 = true := by
  intro t
  induction t with
  | nil => intro _ x hx; cases hx
  | cons y t ih =>
    intro h x hx
    replace h : cond (ascP y.2) (cond (rootc y.2) (chkT t) false) false = true := h
    cases h1 : ascP y.2
    · rw [h1] at h; cases h
    · rw [h1, cond_true] at h
      cases h2 : rootc y.2
      · rw [h2] at h; cases h
      · rw [h2, cond_true] at h
        rcases List.mem_cons.1 hx with rfl | hx
        · exact ⟨ascP_true _ h1, h2⟩
        · exact ih h x hx
theorem gcd_210 {n k : Nat} (hn : 1 < n) (h : FourP (Pass n)) (hk : k ∣ n) : Nat.gcd k 210 = 1 := by
  rcases (show Nat.gcd k 210 = 0 ∨ Nat.gcd k 210 = 1 ∨ 2 ≤ Nat.gcd k 210 by omega) with h0 | h1 | h2
  · have := (Nat.gcd_eq_zero_iff.1 h0).2; omega
  · exact h1
  · exfalso
    obtain ⟨p, hp, hd⟩ := prm_factor _ h2
    have hpn := Nat.dvd_trans (Nat.dvd_trans hd (Nat.gcd_dvd_left k 210)) hk
    have h210 : p ∣ 2 * (3 * (5 * 7)) := Nat.dvd_trans hd (Nat.gcd_dvd_right k 210)
    rcases hp.euclid _ _ h210 with h3 | h3
    · exact h.1.coprime hn hp hpn h3
    · rcases hp.euclid _ _ h3 with h4 | h4
      · exact h.2.1.coprime hn hp hpn h4
      · rcases hp.euclid _ _ h4 with h5 | h5
        · exact h.2.2.1.coprime hn hp hpn h5
        · exact h.2.2.2.coprime hn hp hpn h5
structure Reckoned (t : List (Nat × List Nat)) (ex : List (Nat × Nat)) : Prop where
  small : chkT t = true
  signs : chkS t 8192 1 = true
  few1 : (fN (prodP 13 1) fun W => chkG W 1008 1) = true
  mid : ∀ q, 8192 < q → q ≤ 65536 → chkQ q = true
  few2 : (fN (prodP 16 1) fun W => chkG W 3816 1) = true
  great : ∀ k, 2 ≤ k → k < 65536 → Nat.gcd k 210 = 1 → GG (k - 1) ∣ prodP 16 1 * prodL ex
  more : ∀ x ∈ ex, chk1 x.1 x.2 = true ∧ 0 < x.2 ∧ x.1 % 2 = 1 ∧ x.1 % 3 ≠ 0 ∧ x.1 < 248090
theorem four_of {t : List (Nat × List Nat)} {ex : List (Nat × Nat)} (R : Reckoned t ex) {n : Nat} (hn : 1 < n) (hlt : n < 4294967296) (h : FourP (Pass n)) : Prm n ∨ n = 3215031751 := by
  by_cases hc : Prm n
  · exact .inl hc
  refine .inr (okn_four ?_ h)
  have hsplit : ∀ q, Prm q → q ∣ n → ∃ k, n = q * k ∧ 1 < k ∧ k ∣ n := fun q hq hd => by
    obtain ⟨k, rfl⟩ := hd
    refine ⟨k, rfl, ?_, Nat.dvd_mul_left k q⟩
    rcases (show k = 0 ∨ k = 1 ∨ 1 < k by omega) with rfl | rfl | h1
    · omega
    · rw [Nat.mul_one] at hc; exact absurd hq hc
    · exact h1
  by_cases hC : ∃ q, Prm q ∧ q ∣ n ∧ 65536 < q
  · obtain ⟨q, hq, hd, hb⟩ := hC
    obtain ⟨k, e, hk1, hkd⟩ := hsplit q hq hd
    have hk2 : k < 65536 := by
      rcases Nat.lt_or_ge k 65536 with h1 | h1
      · exact h1
      · have : 65536 * 65536 ≤ q * k := Nat.mul_le_mul (by omega) h1
        omega
    have hA : AtP (q * k) q := by rw [← e]; exact atP_of hn h hq hd
    have hkg := gcd_210 hn h hkd
    have h1 := Nat.dvd_trans (GG_of (hA.other (by omega))) (R.great k (by omega) hk2 hkg)
    rcases hq.euclid _ _ h1 with h2 | h2
    · have := prodP_dvd hq 16 1 (by omega) h2
      omega
    · obtain ⟨x, hx, hqx⟩ := prodL_dvd hq ex h2
      obtain ⟨m1, m2, m3, m4, m5⟩ := R.more x hx
      obtain ⟨c, hcx⟩ := hqx
      have hc4 : c < 4 := by
        rcases Nat.lt_or_ge c 4 with h3 | h3
        · exact h3
        · have : 65537 * 4 ≤ q * c := Nat.mul_le_mul (by omega) h3
          omega
      have hc1 : c = 1 := by
        rcases (show c = 0 ∨ c = 1 ∨ c = 2 ∨ c = 3 by omega) with rfl | rfl | rfl | rfl <;> omega
      rw [hc1, Nat.mul_one] at hcx
      rw [hcx] at m1 m5
      rw [e]
      exact chk1_true (S := 3816) m1 hA hk1 (by omega) hkg m2 (none_small R.few2 hq (by omega)) (by omega)
  · by_cases hB : ∃ q, Prm q ∧ q ∣ n ∧ 8192 < q
    · obtain ⟨q, hq, hd, hb⟩ := hB
      obtain ⟨k, e, hk1, hkd⟩ := hsplit q hq hd
      have hq2 : q ≤ 65536 := by
        rcases Nat.lt_or_ge 65536 q with h1 | h1
        · exact absurd ⟨q, hq, hd, h1⟩ hC
        · exact h1
      have hA : AtP (q * k) q := by rw [← e]; exact atP_of hn h hq hd
      rw [e]
      exact chkQ_true (S := 1008) (R.mid q hb hq2) hA hk1 (by omega) (gcd_210 hn h hkd) (gcd_S hq (by omega)) (none_small R.few1 hq (by omega)) (by omega)
    · obtain ⟨σ, hσ⟩ := one_sign hn hlt h
      have hin : ∀ p, Prm p → p ∣ n → p ∈ lookP σ t := fun p hp hd => by
        have hle : p ≤ 8192 := by
          rcases Nat.lt_or_ge 8192 p with h1 | h1
          · exact absurd ⟨p, hp, hd, h1⟩ hB
          · exact h1
        have hg := gcd_210 hn h hd
        have ho : p % 2 = 1 := by
          rcases (show p % 2 = 0 ∨ p % 2 = 1 by omega) with h0 | h0
          · have : 2 ∣ Nat.gcd p 210 := Nat.dvd_gcd (Nat.dvd_of_mod_eq_zero h0) (by decide)
            rw [hg] at this
            omega
          · exact h0
        have h2 := hp.1
        have h1 := chkS_true 8192 1 R.signs (p - 1) (by omega)
        rw [show 1 + (p - 1) = p by omega] at h1
        have h3 := h1 hg (atP_of hn h hp hd).own
        rwa [hσ p hp hd ho] at h3
      rcases lookP_mem (σ := σ) t with h0 | ⟨x, hx, h0⟩
      · obtain ⟨p, hp, hd⟩ := prm_factor n hn
        have := hin p hp hd
        rw [h0] at this
        cases this
      · obtain ⟨h1, h2⟩ := chkT_true t R.small x hx
        rw [h0] at hin
        exact rootc_true x.2 h2 h1 n hn hc hin hlt (fun _ _ _ => .inr hc)
end Go.Proofs.YtjpfcdgaepdcdaaGreat
/- Which odd numbers up to 2^40 without a factor up to 64 pass to the first twelve primes: the reckoning, and what it says. No condition but those typed; no program is named. -/
namespace Go.Proofs.YtjpfcdgaepdcdaaGreat
set_option maxRecDepth 20000
set_option exponentiation.threshold 3000
/-- The twelve bases. -/
def B12 : List Nat := [2, 3, 5, 7, 11, 13, 17, 19, 23, 29, 31, 37]
def Zl (q s : Nat) : Prop := ∀ a ∈ B12, a ^ s % q = 1
def AllP (n : Nat) : Prop := ∀ a ∈ B12, Pass n a
section
variable {q x y : Nat}
theorem Zl.gcd (hq : 1 < q) (h : Zl q x) (k : Zl q y) : Zl q (Nat.gcd x y) := fun a ha => one_gcd hq _ _ (h a ha) (k a ha)
theorem Zl.left (h : Zl q x) (k : Zl q (x + y)) : Zl q y := fun a ha => one_left (h a ha) (k a ha)
theorem Zl.times (hq : 1 < q) (h : Zl q x) (k : Nat) : Zl q (x * k) := fun a ha => one_times hq (h a ha) k
theorem Zl.dvd (hq : 1 < q) (h : Zl q x) (hd : x ∣ y) : Zl q y := fun a ha => one_dvd hq hd (h a ha)
end
structure AtL (n q : Nat) : Prop where
  prm : Prm q
  dvd : q ∣ n
  all : Zl q (n - 1)
  own : Zl q (q - 1)
theorem atL_of {n q : Nat} (hn : 1 < n) (h : AllP n) (hp : Prm q) (hd : q ∣ n) : AtL n q :=
  ⟨hp, hd, fun a ha => mod_of_mod hd hp.1 ((h a ha).one hn), fun a ha => fermat hp ((h a ha).coprime hn hp hd)⟩
/-- The other part less one leaves 1 too. -/
theorem AtL.other {k q : Nat} (hk : 0 < k) (h : AtL (q * k) q) : Zl q (k - 1) := by
  have hq := h.prm.1
  have e : q * k - 1 = (q - 1) * k + (k - 1) := by
    rw [Nat.sub_mul, Nat.one_mul]
    have : k ≤ q * k := Nat.le_mul_of_pos_left k (by omega)
    omega
  have h1 := h.all
  rw [e] at h1
  exact (h.own.times (by omega) k).left h1
/-! Powers, reckoned -/
def pm2 (q a s : Nat) : Nat := Nat.mod (Nat.mul (Nat.pow (Nat.mod (Nat.pow a (Nat.div s 2048)) q) 2048) (Nat.pow a (Nat.mod s 2048))) q
theorem pm2_eq (q a s : Nat) : pm2 q a s = a ^ s % q := by
  show ((a ^ (s / 2048) % q) ^ 2048 * a ^ (s % 2048)) % q = _
  rw [Nat.mul_mod, Nat.pow_mod, Nat.mod_mod, ← Nat.pow_mod, ← Nat.mul_mod, ← Nat.pow_mul, ← Nat.pow_add]
  congr 2
  omega
def pm3 (q a s : Nat) : Nat := Nat.mod (Nat.mul (Nat.pow (Nat.mod (Nat.mul (Nat.pow (Nat.mod (Nat.pow a (Nat.div s 65536)) q) 256) (Nat.pow a (Nat.mod (Nat.div s 256) 256))) q) 256) (Nat.pow a (Nat.mod s 256))) q
theorem pm3_eq (q a s : Nat) : pm3 q a s = a ^ s % q := by
  show ((((a ^ (s / 65536) % q) ^ 256 * a ^ (s / 256 % 256)) % q) ^ 256 * a ^ (s % 256)) % q = _
  have h1 := pmP_step q a (s / 65536) (s / 256)
  rw [show s / 65536 * 256 + s / 256 % 256 = s / 256 by omega] at h1
  have h2 := pmP_step q a (s / 256) s
  rw [show s / 256 * 256 + s % 256 = s by omega] at h2
  rw [h1, h2]
def pm5 (n a d : Nat) : Nat := Nat.mod (Nat.mul (Nat.pow (pmP n a (Nat.div d 256)) 256) (Nat.pow a (Nat.mod d 256))) n
theorem pm5_eq (n a d : Nat) : pm5 n a d = a ^ d % n := by
  show ((pmP n a (d / 256)) ^ 256 * a ^ (d % 256)) % n = _
  rw [pmP_eq, pmP_step, show d / 256 * 256 + d % 256 = d by omega]
/-- Is it so of all? -/
noncomputable def allB (f : Nat → Bool) (l : List Nat) : Bool := List.rec (motive := fun _ => Bool) true (fun a _ ih => cond (f a) ih false) l
theorem allB_of {f : Nat → Bool} {l : List Nat} (h : ∀ a ∈ l, f a = true) : allB f l = true := by
  induction l with
  | nil => rfl
  | cons a l ih =>
    show cond (f a) (allB f l) false = true
    rw [h a List.mem_cons_self, cond_true]
    exact ih fun x hx => h x (List.mem_cons_of_mem _ hx)
theorem allB_true {f : Nat → Bool} {l : List Nat} (h : allB f l = true) : ∀ a ∈ l, f a = true := by
  induction l with
  | nil => intro a ha; cases ha
  | cons b l ih =>
    intro a ha
    replace h : cond (f b) (allB f l) false = true := h
    cases hb : f b
    · rw [hb] at h; cases h
    · rw [hb, cond_true] at h
      rcases List.mem_cons.1 ha with rfl | ha
      · exact hb
      · exact ih h a ha
noncomputable def zlB (q s : Nat) : Bool := allB (fun a => Nat.beq (pm2 q a s) 1) B12
theorem zlB_of {q s : Nat} (h : Zl q s) : zlB q s = true := allB_of fun a ha => by
  show Nat.beq (pm2 q a s) 1 = true
  rw [pm2_eq]; exact beqP_of (h a ha)
/-! The strong test -/
def spe (n s d a : Nat) : Bool := fN (pm5 n a d) fun x => cond (Nat.beq x 1) true (sqs n s x)
theorem spe_of {n a s d : Nat} (h : a ^ d % n = 1 ∨ ∃ i, i < s ∧ a ^ (2 ^ i * d) % n = n - 1) : spe n s d a = true := by
  unfold spe
  rw [fN_eq, pm5_eq]
  rcases h with h | ⟨i, hi, h⟩
  · rw [h]; rfl
  · cases Nat.beq (a ^ d % n) 1
    · have := sqs_of n a d s 0 ⟨i, by omega, by omega, h⟩
      rw [Nat.pow_zero, Nat.one_mul] at this
      exact this
    · rfl
/-- It does not pass to all. -/
noncomputable def okm (n : Nat) : Bool := odds 41 0 (Nat.pred n) fun s d => cond (allB (spe n s d) B12) false true
theorem okm_not {n : Nat} (h : okm n = true) (hf : AllP n) : False := by
  unfold okm at h
  obtain ⟨j, e, h1, h2, h3⟩ := odds_true _ 41 0 (Nat.pred n) h
  rw [Nat.zero_add] at h3
  have hall : allB (spe n j e) B12 = true := allB_of fun a ha => by
    obtain ⟨s, d, e1, e2, e3⟩ := hf a ha
    obtain ⟨rfl, rfl⟩ := odd_uniq e2 h2 (e1.symm.trans h1)
    exact spe_of e3
  rw [hall] at h3
  cases h3
/-! Great primes: how far apart the other parts are -/
def D61 : List Nat := [3, 5, 7, 11, 13, 17, 19, 23, 29, 31, 37, 41, 43, 47, 53, 59, 61]
noncomputable def idx (q : Nat) : Bool := allB (fun d => cond (Nat.beq (Nat.mod (Nat.pred q) d) 0) (cond (zlB q (Nat.div (Nat.pred q) d)) false true) true) D61
theorem idx_true {q : Nat} (h : idx q = true) : ∀ d ∈ D61, d ∣ q - 1 → ¬ Zl q ((q - 1) / d) := fun d hd hdq hz => by
  have := allB_true h d hd
  replace this : cond (Nat.beq ((q - 1) % d) 0) (cond (zlB q ((q - 1) / d)) false true) true = true := this
  rw [beqP_of (Nat.mod_eq_zero_of_dvd hdq), zlB_of hz] at this
  cases this
/-- The product of the primes up to 61. -/
def P61 : Nat := 117288381359406970983270
def lim40 : Nat := 1099511627776
noncomputable def candM (q M c : Nat) : Nat → Bool :=
  Nat.rec (motive := fun _ => Nat → Bool) (fun _ => true) (fun _ ih k => cond (cond (Nat.beq (Nat.gcd k P61) 1) (fN (Nat.mul q k) okm) true) (fN (Nat.add k M) ih) false) c
theorem candM_true {q M : Nat} : ∀ c k, candM q M c k = true → ∀ i, i < c → Nat.gcd (k + i * M) P61 = 1 → okm (q * (k + i * M)) = true := by
  intro c
  induction c with
  | zero => intro k _ i hi; omega
  | succ c ih =>
    intro k h i hi hg
    replace h : cond (cond (Nat.beq (Nat.gcd k P61) 1) (fN (q * k) okm) true) (fN (k + M) (candM q M c)) false = true := h
    rw [fN_eq, fN_eq] at h
    rcases i with _ | i
    · rw [Nat.zero_mul, Nat.add_zero] at hg ⊢
      rw [beqP_of hg] at h
      cases ho : okm (q * k)
      · rw [ho] at h; cases h
      · rfl
    · have e : k + (i + 1) * M = k + M + i * M := by rw [Nat.add_mul, Nat.one_mul]; omega
      rw [e] at hg ⊢
      refine ih (k + M) ?_ i (by omega) hg
      generalize cond (Nat.beq (Nat.gcd k P61) 1) (okm (q * k)) true = b at h
      cases b
      · cases h
      · exact h
noncomputable def chkC (q M : Nat) : Bool := fN M fun M => candM q M (Nat.div (Nat.div lim40 q) M) (Nat.succ M)
theorem chkC_true {q M k : Nat} (h : chkC q M = true) (hq : 0 < q) (hM : 0 < M) (hk : 1 < k) (hd : M ∣ k - 1) (hn : q * k ≤ lim40) (hg : Nat.gcd k P61 = 1) : okm (q * k) = true := by
  unfold chkC at h
  rw [fN_eq] at h
  replace h : candM q M (lim40 / q / M) (M + 1) = true := h
  obtain ⟨j, hj⟩ := hd
  obtain ⟨i, rfl⟩ : ∃ i, j = i + 1 := ⟨j - 1, by
    rcases j with _ | j
    · rw [Nat.mul_zero] at hj; omega
    · omega⟩
  have ek : k = M + 1 + i * M := by rw [Nat.mul_add, Nat.mul_one, Nat.mul_comm] at hj; omega
  rw [ek] at hg ⊢
  refine candM_true _ _ h i ?_ hg
  have h1 : k ≤ lim40 / q := by rw [Nat.le_div_iff_mul_le hq, Nat.mul_comm]; exact hn
  have h2 : i + 1 ≤ lim40 / q / M := by rw [Nat.le_div_iff_mul_le hM, Nat.mul_comm]; omega
  omega
noncomputable def chkM (q : Nat) : Bool := cond (idx q) (cond (zlB q (Nat.div (Nat.pred q) 2)) (cond (cond (Nat.beq (Nat.mod (Nat.pred q) 4) 0) (zlB q (Nat.div (Nat.pred q) 4)) false) false (chkC q (Nat.div (Nat.pred q) 2))) (chkC q (Nat.pred q))) false
theorem prm_61 {r : Nat} (hr : Prm r) (h2 : r ≠ 2) (h : r < 65) : r ∈ D61 := by
  have hne : ∀ d, 2 ≤ d → d < r → r % d ≠ 0 := fun d h1 h3 h4 => by
    rcases hr.2 d (Nat.dvd_of_mod_eq_zero h4) with h5 | h5 <;> omega
  have hr2 := hr.1
  have a2 := hne 2 (by omega)
  have a3 := hne 3 (by omega)
  have a5 := hne 5 (by omega)
  have a7 := hne 7 (by omega)
  have key : ∀ r, r < 65 → (r ≤ 2 ∨ r % 2 = 0 ∨ (3 < r ∧ r % 3 = 0) ∨ (5 < r ∧ r % 5 = 0) ∨ (7 < r ∧ r % 7 = 0) ∨ r ∈ D61) := by decide
  rcases key r h with h1 | h1 | ⟨h0, h1⟩ | ⟨h0, h1⟩ | ⟨h0, h1⟩ | h1
  · omega
  · exact absurd h1 (a2 (by omega))
  · exact absurd h1 (a3 h0)
  · exact absurd h1 (a5 h0)
  · exact absurd h1 (a7 h0)
  · exact h1
theorem chkM_true {q k S : Nat} (h : chkM q = true) (hA : AtL (q * k) q) (hk : 1 < k) (hn : q * k ≤ lim40) (hg : Nat.gcd k P61 = 1) (hs : ∀ s, 1 ≤ s → s ≤ S → ¬ Zl q s) (hS : q - 1 < 65 * (S + 1)) (h3 : 3 ≤ q) : okm (q * k) = true := by
  have hq := hA.prm.1
  have hz := hA.own.gcd (by omega) (hA.other (by omega))
  obtain ⟨x, hx⟩ : ∃ x, Nat.gcd (q - 1) (k - 1) = x := ⟨_, rfl⟩
  have hd1 := Nat.gcd_dvd_left (q - 1) (k - 1)
  have hd2 := Nat.gcd_dvd_right (q - 1) (k - 1)
  rw [hx] at hz hd1 hd2
  obtain ⟨d, hd⟩ := hd1
  have hx0 : 0 < x := Nat.pos_of_ne_zero fun e => by subst e; omega
  have hd0 : 0 < d := Nat.pos_of_ne_zero fun e => by subst e; omega
  have hxS : S < x := by
    rcases Nat.lt_or_ge S x with h1 | h1
    · exact h1
    · exact absurd hz (hs x hx0 h1)
  have hd65 : d < 65 := by
    rcases Nat.lt_or_ge d 65 with h1 | h1
    · exact h1
    · have h2 : 65 * (S + 1) ≤ d * x := Nat.mul_le_mul h1 hxS
      rw [hd, Nat.mul_comm] at hS
      omega
  have part : ∀ r, 0 < r → r ∣ d → r ∣ q - 1 ∧ Zl q ((q - 1) / r) := fun r hr0 hr => by
    obtain ⟨c, rfl⟩ := hr
    have e : q - 1 = r * (x * c) := by rw [hd]; simp only [Nat.mul_left_comm]
    refine ⟨⟨_, e⟩, ?_⟩
    rw [e, Nat.mul_div_cancel_left _ hr0]
    exact hz.times (by omega) c
  unfold chkM at h
  cases hi : idx q
  · rw [hi] at h; cases h
  rw [hi, cond_true] at h
  have hodd : ∀ r, Prm r → r ∣ d → r = 2 := fun r hr hrd => by
    by_cases h2 : r = 2
    · exact h2
    · exfalso
      have hle := Nat.le_of_dvd hd0 hrd
      obtain ⟨p1, p2⟩ := part r (by have := hr.1; omega) hrd
      exact idx_true hi r (prm_61 hr h2 (by omega)) p1 p2
  replace h : cond (zlB q ((q - 1) / 2)) (cond (cond (Nat.beq ((q - 1) % 4) 0) (zlB q ((q - 1) / 4)) false) false (chkC q ((q - 1) / 2))) (chkC q (q - 1)) = true := h
  have h4 : ¬ 4 ∣ d ∨ zlB q ((q - 1) / 2) = true := by
    by_cases h5 : 4 ∣ d
    · right
      exact zlB_of (part 2 (by omega) (Nat.dvd_trans (by decide) h5)).2
    · exact .inl h5
  cases hb : zlB q ((q - 1) / 2)
  · rw [hb, cond_false] at h
    have hd2n : ¬ 2 ∣ d := fun h5 => by
      have := zlB_of (part 2 (by omega) h5).2
      rw [hb] at this
      cases this
    have hd1 : d = 1 := by
      rcases Nat.lt_or_ge d 2 with h5 | h5
      · omega
      · obtain ⟨r, hr, hrd⟩ := prm_factor d h5
        have := hodd r hr hrd
        subst this
        exact absurd hrd hd2n
    have hxq : x = q - 1 := by rw [hd, hd1, Nat.mul_one]
    rw [hxq] at hd2
    exact chkC_true h (by omega) (by omega) hk hd2 hn hg
  · rw [hb, cond_true] at h
    have hd4 : ¬ 4 ∣ d := fun h5 => by
      obtain ⟨p1, p2⟩ := part 4 (by omega) h5
      rw [beqP_of (Nat.mod_eq_zero_of_dvd p1), cond_true, zlB_of p2] at h
      cases h
    have hC : chkC q ((q - 1) / 2) = true := by
      generalize cond (Nat.beq ((q - 1) % 4) 0) (zlB q ((q - 1) / 4)) false = b at h
      cases b
      · exact h
      · cases h
    have hdd : d = 1 ∨ d = 2 := by
      rcases Nat.lt_or_ge d 2 with h5 | h5
      · exact .inl (by omega)
      · obtain ⟨r, hr, hrd⟩ := prm_factor d h5
        have := hodd r hr hrd
        subst this
        obtain ⟨c, rfl⟩ := hrd
        rcases Nat.lt_or_ge c 2 with h6 | h6
        · exact .inr (by omega)
        · exfalso
          obtain ⟨r, hr, hrd⟩ := prm_factor c h6
          have := hodd r hr (Nat.dvd_trans hrd (Nat.dvd_mul_left c 2))
          subst this
          exact hd4 (Nat.mul_dvd_mul_left 2 hrd)
    have hhalf : (q - 1) / 2 ∣ x := by
      rcases hdd with h5 | h5
      · rw [h5, Nat.mul_one] at hd
        rw [← hd]
        rcases Nat.mod_two_eq_zero_or_one (q - 1) with h6 | h6
        · exact Nat.div_dvd_of_dvd (Nat.dvd_of_mod_eq_zero h6)
        · exfalso
          have h7 : q % 2 = 0 := by omega
          rcases hA.prm.2 2 (Nat.dvd_of_mod_eq_zero h7) with h8 | h8 <;> omega
      · rw [h5] at hd
        rw [hd, Nat.mul_div_cancel _ (by omega : 0 < 2)]
        exact Nat.dvd_refl x
    exact chkC_true hC (by omega) (by omega) hk (Nat.dvd_trans hhalf hd2) hn hg
/-- Odd numbers from q on. -/
noncomputable def chkU (f : Nat) : Nat → Bool := Nat.rec (motive := fun _ => Nat → Bool) (fun _ => true) (fun _ ih q => cond (cond (Nat.beq (Nat.gcd q S128) 1) (cond (Nat.beq (pm2 q 2 (Nat.pred q)) 1) (chkM q) true) true) (fN (Nat.add q 2) ih) false) f
theorem chkU_true : ∀ f q, chkU f q = true → ∀ i, i < f → Prm (q + 2 * i) → 128 < q + 2 * i → Zl (q + 2 * i) (q + 2 * i - 1) → chkM (q + 2 * i) = true := by
  intro f
  induction f with
  | zero => intro q _ i hi; omega
  | succ f ih =>
    intro q h i hi hp hl hz
    replace h : cond (cond (Nat.beq (Nat.gcd q S128) 1) (cond (Nat.beq (pm2 q 2 (q - 1)) 1) (chkM q) true) true) (fN (q + 2) (chkU f)) false = true := h
    rw [fN_eq] at h
    rcases i with _ | i
    · rw [Nat.mul_zero, Nat.add_zero] at *
      rw [beqP_of (gcd_S hp hl), pm2_eq, beqP_of (hz 2 (by decide)), cond_true, cond_true] at h
      cases hc : chkM q
      · rw [hc] at h; cases h
      · rfl
    · rw [show q + 2 * (i + 1) = q + 2 + 2 * i by omega] at *
      refine ih (q + 2) ?_ i (by omega) hp hl hz
      generalize cond (Nat.beq (Nat.gcd q S128) 1) (cond (Nat.beq (pm2 q 2 (q - 1)) 1) (chkM q) true) true = b at h
      cases b
      · cases h
      · exact h
/-! What divides all a^s - 1 -/
def R10 : List Nat := [5, 7, 11, 13, 17, 19, 23, 29, 31, 37]
/-- So much of r divides all further ones, till it goes into W. -/
noncomputable def thin (W s : Nat) (l : List Nat) : Nat → Bool := List.rec (motive := fun _ => Nat → Bool) (fun r => Nat.beq (Nat.mod W r) 0) (fun a _ ih r => cond (Nat.beq (Nat.mod W r) 0) true (fN (Nat.gcd r (Nat.pred (pm3 r a s))) ih)) l
theorem thin_true {W s q : Nat} : ∀ (l : List Nat) (r : Nat), thin W s l r = true → (∀ a ∈ l, a ^ s % q = 1) → q ∣ r → q ∣ W := by
  intro l
  induction l with
  | nil =>
    intro r h _ hr
    exact Nat.dvd_trans hr (Nat.dvd_of_mod_eq_zero (Nat.eq_of_beq_eq_true h))
  | cons a l ih =>
    intro r h hl hr
    replace h : cond (Nat.beq (W % r) 0) true (fN (Nat.gcd r (Nat.pred (pm3 r a s))) (thin W s l)) = true := h
    rw [fN_eq] at h
    cases hc : Nat.beq (W % r) 0
    · rw [hc, cond_false] at h
      refine ih _ h (fun b hb => hl b (List.mem_cons_of_mem _ hb)) (Nat.dvd_gcd hr ?_)
      rw [pm3_eq]
      have h1 := hl a List.mem_cons_self
      have h2 : (a ^ s % r) % q = 1 := by rw [Nat.mod_mod_of_dvd _ hr]; exact h1
      have h3 := Nat.div_add_mod (a ^ s % r) q
      rw [h2] at h3
      exact ⟨(a ^ s % r) / q, by show (a ^ s % r) - 1 = _; omega⟩
    · exact Nat.dvd_trans hr (Nat.dvd_of_mod_eq_zero (Nat.eq_of_beq_eq_true hc))
def gg2 (s : Nat) : Nat := Nat.gcd (Nat.pred (Nat.pow 2 s)) (Nat.pred (Nat.pow 3 s))
theorem gg2_of {q s : Nat} (h : Zl q s) : q ∣ gg2 s := Nat.dvd_gcd (dvdP_pred (h 2 (by decide))) (dvdP_pred (h 3 (by decide)))
noncomputable def one12 (W s : Nat) : Bool := fN (gg2 s) (thin W s R10)
theorem one12_true {W s q : Nat} (h : one12 W s = true) (hz : Zl q s) : q ∣ W := by
  unfold one12 at h
  rw [fN_eq] at h
  exact thin_true R10 _ h (fun a ha => hz a (by unfold R10 at ha; unfold B12; simp only [List.mem_cons, List.not_mem_nil, or_false] at ha ⊢; omega)) (gg2_of hz)
/-- All s from s on. -/
noncomputable def chkN (W f : Nat) : Nat → Bool := Nat.rec (motive := fun _ => Nat → Bool) (fun _ => true) (fun _ ih s => cond (one12 W s) (fN (Nat.succ s) ih) false) f
theorem chkN_true {W : Nat} : ∀ f s, chkN W f s = true → ∀ i, i < f → one12 W (s + i) = true := by
  intro f
  induction f with
  | zero => intro s _ i hi; omega
  | succ f ih =>
    intro s h i hi
    replace h : cond (one12 W s) (fN (s + 1) (chkN W f)) false = true := h
    rw [fN_eq] at h
    cases hc : one12 W s
    · rw [hc] at h; cases h
    · rw [hc, cond_true] at h
      rcases i with _ | i
      · exact hc
      · rw [show s + (i + 1) = s + 1 + i by omega]
        exact ih (s + 1) h i (by omega)
/-- Of odd k without a factor up to 61. -/
noncomputable def chkO (W f : Nat) : Nat → Bool := Nat.rec (motive := fun _ => Nat → Bool) (fun _ => true) (fun _ ih k => cond (cond (Nat.beq (Nat.gcd k P61) 1) (one12 W (Nat.pred k)) true) (fN (Nat.add k 2) ih) false) f
theorem chkO_true {W : Nat} : ∀ f k, chkO W f k = true → ∀ i, i < f → Nat.gcd (k + 2 * i) P61 = 1 → one12 W (k + 2 * i - 1) = true := by
  intro f
  induction f with
  | zero => intro s _ i hi; omega
  | succ f ih =>
    intro k h i hi hg
    replace h : cond (cond (Nat.beq (Nat.gcd k P61) 1) (one12 W (k - 1)) true) (fN (k + 2) (chkO W f)) false = true := h
    rw [fN_eq] at h
    rcases i with _ | i
    · rw [Nat.mul_zero, Nat.add_zero] at hg ⊢
      rw [beqP_of hg, cond_true] at h
      cases hc : one12 W (k - 1)
      · rw [hc] at h; cases h
      · rfl
    · rw [show k + 2 * (i + 1) = k + 2 + 2 * i by omega] at hg ⊢
      refine ih (k + 2) ?_ i (by omega) hg
      generalize cond (Nat.beq (Nat.gcd k P61) 1) (one12 W (k - 1)) true = b at h
      cases b
      · cases h
      · exact h
end Go.Proofs.YtjpfcdgaepdcdaaGreat
/- Small primes by how many twos stand in the twelve orders: a table in numbers of 128 places, and what it says. No condition but those typed; no program is named. -/
namespace Go.Proofs.YtjpfcdgaepdcdaaGreat
set_option maxRecDepth 20000
/-- All primes that divide a number which passes have as many twos in a's order. -/
theorem Pass.twosL {n a : Nat} (h : Pass n a) : ∃ j, ∀ p t m, Prm p → p ∣ n → p % 2 = 1 → a ^ (p - 1) % p = 1 → p - 1 = 2 ^ t * m → m % 2 = 1 → ExP p a m j := by
  obtain ⟨s, d, e, hd, h⟩ := h
  rcases h with h | ⟨i, hi, h⟩
  · refine ⟨0, fun p t m hp hpn _ hf hm _ => ⟨?_, fun i hi => by omega⟩⟩
    have h1 := mod_of_mod hpn hp.1 h
    rw [hm] at hf
    have h2 := one_gcd hp.1 _ _ h1 hf
    rw [Nat.pow_zero, Nat.one_mul]
    exact one_dvd hp.1 (odd_dvd (odd_gcd hd) (Nat.gcd_dvd_right d (2 ^ t * m))) h2
  · refine ⟨i + 1, fun p t m hp hpn hpo hf hm hmo => ?_⟩
    have h2p := hp.1
    have hneg : a ^ (2 ^ i * d) % p = p - 1 := by
      rw [← Nat.mod_mod_of_dvd _ hpn, h]
      obtain ⟨c, rfl⟩ := hpn
      rcases Nat.eq_zero_or_pos c with hc | hc
      · subst hc
        rw [Nat.mul_zero] at e
        have : 0 < 2 ^ s * d := Nat.mul_pos (Nat.pow_pos (by omega)) (by omega)
        omega
      obtain ⟨b, rfl⟩ : ∃ b, c = b + 1 := ⟨c - 1, by omega⟩
      rw [Nat.mul_add, Nat.mul_one, show p * b + p - 1 = (p - 1) + p * b by omega, Nat.add_mul_mod_self_left]
      exact Nat.mod_eq_of_lt (by omega)
    have hsq : a ^ (2 ^ (i + 1) * d) % p = 1 := by
      rw [show 2 ^ (i + 1) * d = 2 ^ i * d * 2 by rw [Nat.pow_succ, Nat.mul_assoc, Nat.mul_comm 2 d, ← Nat.mul_assoc], Nat.pow_mul, Nat.pow_mod, hneg]
      obtain ⟨r, rfl⟩ : ∃ r, p = r + 2 := ⟨p - 2, by omega⟩
      rw [show (r + 2 - 1) ^ 2 = 1 + (r + 2) * r by rw [Nat.pow_two, show r + 2 - 1 = r + 1 by omega, Nat.add_mul, Nat.mul_add, Nat.add_mul]; omega, Nat.add_mul_mod_self_left]
      exact Nat.mod_eq_of_lt (by omega)
    constructor
    · have h1 : (a ^ 2 ^ (i + 1)) ^ d % p = 1 := by rw [← Nat.pow_mul]; exact hsq
      have h2 : (a ^ 2 ^ (i + 1)) ^ (2 ^ t * m) % p = 1 := by
        rw [← Nat.pow_mul, Nat.mul_comm, ← hm]
        exact one_times (by omega) hf _
      have h3 := one_dvd (y := m) (by omega) (odd_dvd (odd_gcd hd) (Nat.gcd_dvd_right d (2 ^ t * m))) (one_gcd (by omega) _ _ h1 h2)
      rw [← Nat.pow_mul] at h3
      exact h3
    · intro j hj hc
      obtain ⟨r, rfl⟩ : ∃ r, i = j + r := ⟨i - j, by omega⟩
      have h1 : (a ^ 2 ^ (j + r)) ^ m % p = 1 := by
        rw [← Nat.pow_mul, show 2 ^ (j + r) * m = 2 ^ j * m * 2 ^ r by rw [Nat.pow_add]; simp only [Nat.mul_assoc, Nat.mul_comm]]
        exact one_times (by omega) hc _
      have h2 : (a ^ 2 ^ (j + r)) ^ (2 ^ 1 * d) % p = 1 := by
        rw [← Nat.pow_mul, show 2 ^ (j + r) * (2 ^ 1 * d) = 2 ^ (j + r + 1) * d by rw [Nat.pow_succ 2 (j + r), Nat.pow_one, Nat.mul_assoc]]
        exact hsq
      have h3 := one_dvd (y := d) (by omega) (odd_dvd (odd_gcd hmo) (Nat.gcd_dvd_right m (2 ^ 1 * d))) (one_gcd (by omega) _ _ h1 h2)
      rw [← Nat.pow_mul, hneg] at h3
      omega
theorem esAP_ofL {p a j : Nat} (hp : 2 ≤ p) (hlt : p < 4294967296) (hf : a ^ (p - 1) % p = 1) (h : ∀ t m, p - 1 = 2 ^ t * m → m % 2 = 1 → ExP p a m j) : esAP p a = j := by
  obtain ⟨t, h1, h2⟩ := oddp_spec 33 (p - 1) (by omega) (by omega)
  have hx := h t _ h1 h2
  have ht : t < 33 := by
    rcases Nat.lt_or_ge t 33 with h | h
    · exact h
    · have h3 : 2 ^ 33 ≤ 2 ^ t := Nat.pow_le_pow_right (by omega) h
      have h4 : 2 ^ t * 1 ≤ 2 ^ t * oddp 33 (p - 1) := Nat.mul_le_mul_left _ (by omega)
      omega
  have hj : j ≤ t := by
    rcases Nat.lt_or_ge t j with h | h
    · exfalso
      have h3 := hx.2 t h
      rw [← h1] at h3
      exact h3 hf
    · exact h
  exact esAP_of hp hlt (by omega) h
noncomputable def sigB (p : Nat) (l : List Nat) : Nat := List.rec (motive := fun _ => Nat) 0 (fun a _ ih => Nat.add (esAP p a) (Nat.mul 64 ih)) l
noncomputable def sig12 (p : Nat) : Nat := sigB p B12
/-- One sign for all of them. -/
theorem sign_list (n : Nat) : ∀ l : List Nat, (∀ a ∈ l, Pass n a) → ∃ σ, ∀ p, Prm p → p ∣ n → p % 2 = 1 → p < 4294967296 → (∀ a ∈ l, a ^ (p - 1) % p = 1) → sigB p l = σ := by
  intro l
  induction l with
  | nil => intro _; exact ⟨0, fun _ _ _ _ _ _ => rfl⟩
  | cons a l ih =>
    intro h
    obtain ⟨j, hj⟩ := (h a List.mem_cons_self).twosL
    obtain ⟨τ, hτ⟩ := ih fun b hb => h b (List.mem_cons_of_mem _ hb)
    refine ⟨Nat.add j (Nat.mul 64 τ), fun p hp hd ho hlt hf => ?_⟩
    show Nat.add (esAP p a) (Nat.mul 64 (sigB p l)) = _
    rw [hτ p hp hd ho hlt fun b hb => hf b (List.mem_cons_of_mem _ hb), esAP_ofL hp.1 hlt (hf a List.mem_cons_self) fun t m e1 e2 => hj p t m hp hd ho (hf a List.mem_cons_self) e1 e2]
/-! Products of few primes -/
noncomputable def dfM (f : Nat) : List Nat → Nat → Bool := Nat.rec (motive := fun _ => List Nat → Nat → Bool) (fun _ _ => false)
  (fun _ ih l => List.rec (motive := fun _ => Nat → Bool) (fun _ => true) (fun p r again acc => fN (Nat.mul acc p) fun x => cond (Nat.ble lim40 (Nat.pred x)) true (cond (okm x) (cond (ih (p :: r) x) (again acc) false) false)) l) f
theorem dfM_true : ∀ f l acc, dfM f l acc = true → l.Pairwise (· ≤ ·) → ∀ m, 1 < m → (∀ p, Prm p → p ∣ m → p ∈ l) → acc * m ≤ lim40 → okm (acc * m) = true := by
  intro f
  induction f with
  | zero => intro l acc h; cases h
  | succ f ihf =>
    intro l
    induction l with
    | nil =>
      intro acc _ _ m hm hp
      obtain ⟨p, h1, h2⟩ := prm_factor m hm
      cases hp p h1 h2
    | cons p r ihl =>
      intro acc h hs m hm hp hlt
      replace h : (fN (acc * p) fun x => cond (Nat.ble lim40 (Nat.pred x)) true (cond (okm x) (cond (dfM f (p :: r) x) (dfM (f + 1) r acc) false) false)) = true := h
      rw [fN_eq] at h
      have hrest := List.pairwise_cons.1 hs
      have hsmall : acc * p ≤ lim40 := by
        obtain ⟨q, h1, h2⟩ := prm_factor m hm
        have hle := Nat.le_of_dvd (by omega) h2
        have hpq : p ≤ q := by
          rcases List.mem_cons.1 (hp q h1 h2) with h3 | h3
          · omega
          · exact hrest.1 q h3
        have : acc * p ≤ acc * m := Nat.mul_le_mul_left _ (by omega)
        omega
      have hb : Nat.ble lim40 (Nat.pred (acc * p)) = false := by
        cases hc : Nat.ble lim40 (Nat.pred (acc * p))
        · rfl
        · have h5 := Nat.le_of_ble_eq_true hc
          have h6 : 0 < lim40 := by decide
          have h7 : Nat.pred (acc * p) = acc * p - 1 := rfl
          omega
      rw [hb, cond_false] at h
      cases ho : okm (acc * p)
      · rw [ho] at h; cases h
      · rw [ho, cond_true] at h
        cases hd : dfM f (p :: r) (acc * p)
        · rw [hd] at h; cases h
        · rw [hd, cond_true] at h
          by_cases hpm : p ∣ m
          · obtain ⟨c, rfl⟩ := hpm
            rw [← Nat.mul_assoc] at hlt ⊢
            by_cases hc1 : c = 1
            · subst hc1; rw [Nat.mul_one]; exact ho
            · have hc0 : c ≠ 0 := by intro e; subst e; omega
              exact ihf (p :: r) (acc * p) hd hs c (by omega) (fun q hq hqc => hp q hq (Nat.dvd_trans hqc (Nat.dvd_mul_left c p))) hlt
          · exact ihl acc h hrest.2 m hm (fun q hq hqm => by
              rcases List.mem_cons.1 (hp q hq hqm) with h3 | h3
              · subst h3; exact absurd hqm hpm
              · exact h3) hlt
noncomputable def roM (l : List Nat) : Bool := List.rec (motive := fun _ => Bool) true (fun p r ih => cond (dfM 9 (p :: r) p) (cond (leHP p r) ih false) false) l
theorem roM_asc : ∀ l, roM l = true → l.Pairwise (· ≤ ·) := by
  intro l h
  refine ascP_true l ?_
  induction l with
  | nil => rfl
  | cons p r ih =>
    replace h : cond (dfM 9 (p :: r) p) (cond (leHP p r) (roM r) false) false = true := h
    show cond (leHP p r) (ascP r) false = true
    cases h1 : dfM 9 (p :: r) p
    · rw [h1] at h; cases h
    · rw [h1, cond_true] at h
      cases h2 : leHP p r
      · rw [h2] at h; cases h
      · rw [h2, cond_true] at h
        rw [cond_true]
        exact ih h
theorem roM_true : ∀ l, roM l = true → l.Pairwise (· ≤ ·) → ∀ n, 1 < n → ¬ Prm n → (∀ p, Prm p → p ∣ n → p ∈ l) → n ≤ lim40 → okm n = true := by
  intro l
  induction l with
  | nil =>
    intro _ _ n hn _ hp
    obtain ⟨p, h1, h2⟩ := prm_factor n hn
    cases hp p h1 h2
  | cons p r ih =>
    intro h hs n hn hc hp hlt
    replace h : cond (dfM 9 (p :: r) p) (cond (leHP p r) (roM r) false) false = true := h
    cases hd : dfM 9 (p :: r) p
    · rw [hd] at h; cases h
    · rw [hd, cond_true] at h
      have hr : roM r = true := by
        cases h2 : leHP p r
        · rw [h2] at h; cases h
        · rwa [h2, cond_true] at h
      by_cases hpn : p ∣ n
      · by_cases hpp : Prm p
        · obtain ⟨c, rfl⟩ := hpn
          have h2 := hpp.1
          have hc1 : 1 < c := by
            rcases (show c = 0 ∨ c = 1 ∨ 1 < c by omega) with rfl | rfl | h
            · omega
            · rw [Nat.mul_one] at hc; exact absurd hpp hc
            · exact h
          exact dfM_true 9 (p :: r) p hd hs c hc1 (fun q hq hqc => hp q hq (Nat.dvd_trans hqc (Nat.dvd_mul_left c p))) hlt
        · exact ih hr (List.pairwise_cons.1 hs).2 n hn hc (fun q hq hqn => by
            rcases List.mem_cons.1 (hp q hq hqn) with h3 | h3
            · subst h3; exact absurd hq hpp
            · exact h3) hlt
      · exact ih hr (List.pairwise_cons.1 hs).2 n hn hc (fun q hq hqn => by
          rcases List.mem_cons.1 (hp q hq hqn) with h3 | h3
          · subst h3; exact absurd hqn hpn
          · exact h3) hlt
/-! The table -/
/-- 128 places of 17 bits, then the rest. -/
def unp (t : List Nat) (f : Nat) : Nat → List Nat := Nat.rec (motive := fun _ => Nat → List Nat) (fun _ => t) (fun _ ih N => Nat.mod N 131072 :: fN (Nat.div N 131072) ih) f
noncomputable def flatU (l : List Nat) : List Nat := List.rec (motive := fun _ => List Nat) [] (fun c _ ih => unp ih 128 c) l
noncomputable def goU (l : List Nat) : Nat → List Nat → Bool := List.rec (motive := fun _ => Nat → List Nat → Bool) (fun _ G => roM G)
  (fun p _ ih σ G => fN p fun p => fN (sig12 p) fun s => cond (Nat.beq s σ) (ih σ (p :: G)) (cond (Nat.ble σ s) (cond (roM G) (ih s [p]) false) false)) l
theorem goU_le : ∀ l σ G, goU l σ G = true → ∀ x ∈ l, σ ≤ sig12 x := by
  intro l
  induction l with
  | nil => intro σ G _ x hx; cases hx
  | cons p r ih =>
    intro σ G h x hx
    replace h : (fN p fun p => fN (sig12 p) fun s => cond (Nat.beq s σ) (goU r σ (p :: G)) (cond (Nat.ble σ s) (cond (roM G) (goU r s [p]) false) false)) = true := h
    rw [fN_eq, fN_eq] at h
    cases h1 : Nat.beq (sig12 p) σ
    · rw [h1, cond_false] at h
      cases h2 : Nat.ble σ (sig12 p)
      · rw [h2] at h; cases h
      · rw [h2, cond_true] at h
        have h3 := Nat.le_of_ble_eq_true h2
        cases h4 : roM G
        · rw [h4] at h; cases h
        · rw [h4, cond_true] at h
          rcases List.mem_cons.1 hx with rfl | hx
          · exact h3
          · exact Nat.le_trans h3 (ih _ _ h x hx)
    · rw [h1, cond_true] at h
      rcases List.mem_cons.1 hx with rfl | hx
      · exact Nat.le_of_eq (Nat.eq_of_beq_eq_true h1).symm
      · exact ih _ _ h x hx
theorem goU_true : ∀ l σ G, goU l σ G = true → (∀ x ∈ G, sig12 x = σ) → ∀ τ, ∃ H, roM H = true ∧ ∀ x, x ∈ G ∨ x ∈ l → sig12 x = τ → x ∈ H := by
  intro l
  induction l with
  | nil =>
    intro σ G h _ τ
    exact ⟨G, h, fun x hx _ => by rcases hx with hx | hx; exact hx; cases hx⟩
  | cons p r ih =>
    intro σ G h hG τ
    replace h : (fN p fun p => fN (sig12 p) fun s => cond (Nat.beq s σ) (goU r σ (p :: G)) (cond (Nat.ble σ s) (cond (roM G) (goU r s [p]) false) false)) = true := h
    rw [fN_eq, fN_eq] at h
    cases h1 : Nat.beq (sig12 p) σ
    · rw [h1, cond_false] at h
      cases h2 : Nat.ble σ (sig12 p)
      · rw [h2] at h; cases h
      · rw [h2, cond_true] at h
        have h3 := Nat.le_of_ble_eq_true h2
        have hne : sig12 p ≠ σ := fun e => by rw [beqP_of e] at h1; cases h1
        cases h4 : roM G
        · rw [h4] at h; cases h
        · rw [h4, cond_true] at h
          by_cases ht : τ = σ
          · refine ⟨G, h4, fun x hx he => ?_⟩
            rcases hx with hx | hx
            · exact hx
            · exfalso
              have h5 : sig12 p ≤ sig12 x := by
                rcases List.mem_cons.1 hx with rfl | hx
                · exact Nat.le_refl _
                · exact goU_le _ _ _ h x hx
              omega
          · obtain ⟨H, e1, e2⟩ := ih _ _ h (fun x hx => by rw [List.mem_singleton.1 hx]) τ
            refine ⟨H, e1, fun x hx he => ?_⟩
            rcases hx with hx | hx
            · exact absurd ((hG x hx).symm.trans he).symm ht
            · rcases List.mem_cons.1 hx with rfl | hx
              · exact e2 x (.inl (List.mem_singleton.2 rfl)) he
              · exact e2 x (.inr hx) he
    · rw [h1, cond_true] at h
      obtain ⟨H, e1, e2⟩ := ih _ _ h (fun x hx => by
        rcases List.mem_cons.1 hx with rfl | hx
        · exact Nat.eq_of_beq_eq_true h1
        · exact hG x hx) τ
      refine ⟨H, e1, fun x hx he => ?_⟩
      rcases hx with hx | hx
      · exact e2 x (.inl (List.mem_cons_of_mem _ hx)) he
      · rcases List.mem_cons.1 hx with rfl | hx
        · exact e2 x (.inl List.mem_cons_self) he
        · exact e2 x (.inr hx) he
/-! It holds all primes -/
def prmB (W e : Nat) : Bool := cond (Nat.beq (Nat.gcd e 9699690) 1) (cond (Nat.ble e 512) true (Nat.beq (Nat.gcd e W) 1)) false
theorem prodP_all : ∀ j lo x, lo ≤ x → x < lo + 2 ^ j → x ∣ prodP j lo := by
  intro j
  induction j with
  | zero =>
    intro lo x h1 h2
    have : x = lo := by simp at h2; omega
    subst this
    exact Nat.dvd_refl _
  | succ j ih =>
    intro lo x h1 h2
    rw [Nat.pow_succ] at h2
    show x ∣ prodP j lo * prodP j (lo + 2 ^ j)
    rcases Nat.lt_or_ge x (lo + 2 ^ j) with h | h
    · exact Nat.dvd_trans (ih lo x h1 h) (Nat.dvd_mul_right _ _)
    · exact Nat.dvd_trans (ih _ x h (by omega)) (Nat.dvd_mul_left _ _)
theorem gcd_prod {q : Nat} (hq : Prm q) (j : Nat) (h : 2 ^ j < q) : Nat.gcd q (prodP j 1) = 1 := by
  rcases hq.2 _ (Nat.gcd_dvd_left q (prodP j 1)) with h1 | h1
  · exact h1
  · exfalso
    have h2 := Nat.gcd_dvd_right q (prodP j 1)
    rw [h1] at h2
    have := prodP_dvd hq j 1 (by omega) h2
    omega
theorem prm_low {q : Nat} (hq : Prm q) (h : 64 < q) : Nat.gcd q 9699690 = 1 := by
  rcases hq.2 _ (Nat.gcd_dvd_left q 9699690) with h1 | h1
  · exact h1
  · exfalso
    have h2 : q ∣ 2 * (3 * (5 * (7 * (11 * (13 * (17 * 19)))))) := by
      have h2 := Nat.gcd_dvd_right q 9699690
      rwa [h1] at h2
    rcases hq.euclid _ _ h2 with h3 | h3
    · have := Nat.le_of_dvd (by omega) h3; omega
    rcases hq.euclid _ _ h3 with h3 | h3
    · have := Nat.le_of_dvd (by omega) h3; omega
    rcases hq.euclid _ _ h3 with h3 | h3
    · have := Nat.le_of_dvd (by omega) h3; omega
    rcases hq.euclid _ _ h3 with h3 | h3
    · have := Nat.le_of_dvd (by omega) h3; omega
    rcases hq.euclid _ _ h3 with h3 | h3
    · have := Nat.le_of_dvd (by omega) h3; omega
    rcases hq.euclid _ _ h3 with h3 | h3
    · have := Nat.le_of_dvd (by omega) h3; omega
    rcases hq.euclid _ _ h3 with h3 | h3
    · have := Nat.le_of_dvd (by omega) h3; omega
    · have := Nat.le_of_dvd (by omega) h3; omega
theorem prmB_of {q : Nat} (hq : Prm q) (h : 64 < q) : prmB (prodP 9 1) q = true := by
  unfold prmB
  rw [beqP_of (prm_low hq h), cond_true]
  cases hb : Nat.ble q 512
  · rw [cond_false]
    refine beqP_of (gcd_prod hq 9 ?_)
    rcases Nat.lt_or_ge 512 q with h1 | h1
    · exact h1
    · rw [Nat.ble_eq_true_of_le h1] at hb; cases hb
  · rfl
/-- What prmB lets through is the prime that divides it. -/
theorem prmB_same {q e : Nat} (h : prmB (prodP 9 1) e = true) (hq : Prm q) (h64 : 64 < q) (he : e ≤ 131072) (he0 : 0 < e) (hd : q ∣ e) : e = q := by
  obtain ⟨c, rfl⟩ := hd
  unfold prmB at h
  cases h1 : Nat.beq (Nat.gcd (q * c) 9699690) 1
  · rw [h1] at h; cases h
  rw [h1, cond_true] at h
  have h2 := Nat.eq_of_beq_eq_true h1
  by_cases hc : c = 1
  · rw [hc, Nat.mul_one]
  exfalso
  have hc0 : c ≠ 0 := by intro e; subst e; omega
  obtain ⟨r, hr, hrc⟩ := prm_factor c (by omega)
  have hre := Nat.dvd_trans hrc (Nat.dvd_mul_left c q)
  have hrle := Nat.le_of_dvd (by omega) hrc
  by_cases hr9 : r < 23
  · have h3 : r ∣ Nat.gcd (q * c) 9699690 := by
      refine Nat.dvd_gcd hre ?_
      have key : ∀ r, r < 23 → (r = 0 ∨ r = 1 ∨ (2 < r ∧ r % 2 = 0) ∨ (3 < r ∧ r % 3 = 0) ∨ r ∣ 9699690) := by decide
      rcases key r hr9 with h | h | ⟨h, h'⟩ | ⟨h, h'⟩ | h
      · have := hr.1; omega
      · have := hr.1; omega
      · rcases hr.2 2 (Nat.dvd_of_mod_eq_zero h') with h5 | h5 <;> omega
      · rcases hr.2 3 (Nat.dvd_of_mod_eq_zero h') with h5 | h5 <;> omega
      · exact h
    rw [h2] at h3
    have := Nat.le_of_dvd (by omega) h3
    have := hr.1
    omega
  · have h3 : 65 * 23 ≤ q * c := Nat.mul_le_mul h64 (by omega)
    have hb : Nat.ble (q * c) 512 = false := by
      cases hb : Nat.ble (q * c) 512
      · rfl
      · have := Nat.le_of_ble_eq_true hb; omega
    rw [hb, cond_false] at h
    have h4 := Nat.eq_of_beq_eq_true h
    have big : ∀ x, Prm x → x ∣ q * c → 512 < x := fun x hx hxd => by
      rcases Nat.lt_or_ge 512 x with h5 | h5
      · exact h5
      · exfalso
        have h6 : x ∣ Nat.gcd (q * c) (prodP 9 1) := Nat.dvd_gcd hxd (prodP_all 9 1 x (by have := hx.1; omega) (by omega))
        rw [h4] at h6
        have := Nat.le_of_dvd (by omega) h6
        have := hx.1
        omega
    have h5 := big q hq (Nat.dvd_mul_right q c)
    have h6 := big r hr hre
    have h7 : 513 * 513 ≤ q * c := Nat.mul_le_mul h5 (by omega)
    omega
noncomputable def mulU (f : Nat) : Nat → Nat → Nat := Nat.rec (motive := fun _ => Nat → Nat → Nat) (fun _ a => a) (fun _ ih N a => fN (Nat.mul a (Nat.mod N 131072)) fun a => fN (Nat.div N 131072) fun N => ih N a) f
noncomputable def prodU (l : List Nat) : Nat := List.rec (motive := fun _ => Nat) 1 (fun c _ ih => Nat.mul (mulU 128 c 1) ih) l
theorem unp_mem (t : List Nat) (x : Nat) : ∀ f N, x ∈ t → x ∈ unp t f N := by
  intro f
  induction f with
  | zero => intro N h; exact h
  | succ f ih =>
    intro N h
    show x ∈ N % 131072 :: fN (N / 131072) (unp t f)
    rw [fN_eq]
    exact List.mem_cons_of_mem _ (ih _ h)
theorem mulU_dvd {q : Nat} (hq : Prm q) (t : List Nat) : ∀ f N a, q ∣ mulU f N a → q ∣ a ∨ ∃ x ∈ unp t f N, q ∣ x := by
  intro f
  induction f with
  | zero => intro N a h; exact .inl h
  | succ f ih =>
    intro N a h
    replace h : q ∣ (fN (a * (N % 131072)) fun a => fN (N / 131072) fun N => mulU f N a) := h
    rw [fN_eq, fN_eq] at h
    have e : unp t (f + 1) N = N % 131072 :: fN (N / 131072) (unp t f) := rfl
    rw [fN_eq] at e
    rw [e]
    rcases ih _ _ h with h | ⟨x, hx, hd⟩
    · rcases hq.euclid _ _ h with h | h
      · exact .inl h
      · exact .inr ⟨_, List.mem_cons_self, h⟩
    · exact .inr ⟨x, List.mem_cons_of_mem _ hx, hd⟩
theorem prodU_dvd {q : Nat} (hq : Prm q) : ∀ l, q ∣ prodU l → ∃ x ∈ flatU l, q ∣ x := by
  intro l
  induction l with
  | nil => intro h; have h1 : q ≤ 1 := Nat.le_of_dvd (by decide) h; have := hq.1; omega
  | cons c l ih =>
    intro h
    replace h : q ∣ mulU 128 c 1 * prodU l := h
    show ∃ x ∈ unp (flatU l) 128 c, q ∣ x
    rcases hq.euclid _ _ h with h | h
    · rcases mulU_dvd hq (flatU l) 128 c 1 h with h | h
      · have := Nat.le_of_dvd (by decide) h; have := hq.1; omega
      · exact h
    · obtain ⟨x, hx, hd⟩ := ih h
      exact ⟨x, unp_mem _ x 128 c hx, hd⟩
noncomputable def allU (W : Nat) (l : List Nat) : Bool := List.rec (motive := fun _ => Bool) true (fun p _ ih => fN p fun p => cond (cond (Nat.ble p 64) false (prmB W p)) ih false) l
theorem allU_true {W : Nat} : ∀ l, allU W l = true → ∀ x ∈ l, prmB W x = true ∧ 64 < x := by
  intro l
  induction l with
  | nil => intro _ x hx; cases hx
  | cons p r ih =>
    intro h x hx
    replace h : (fN p fun p => cond (cond (Nat.ble p 64) false (prmB W p)) (allU W r) false) = true := h
    rw [fN_eq] at h
    cases h1 : Nat.ble p 64
    · rw [h1, cond_false] at h
      cases h2 : prmB W p
      · rw [h2] at h; cases h
      · rw [h2, cond_true] at h
        rcases List.mem_cons.1 hx with rfl | hx
        · refine ⟨h2, ?_⟩
          rcases Nat.lt_or_ge 64 x with h3 | h3
          · exact h3
          · rw [Nat.ble_eq_true_of_le h3] at h1; cases h1
        · exact ih h x hx
    · rw [h1] at h; cases h
def sweepU (W T f : Nat) : Nat → Bool := Nat.rec (motive := fun _ => Nat → Bool) (fun _ => true) (fun _ ih p => cond (cond (prmB W p) (Nat.beq (Nat.mod T p) 0) true) (fN (Nat.add p 2) ih) false) f
theorem sweepU_true {W T : Nat} : ∀ f p, sweepU W T f p = true → ∀ i, i < f → prmB W (p + 2 * i) = true → p + 2 * i ∣ T := by
  intro f
  induction f with
  | zero => intro p _ i hi; omega
  | succ f ih =>
    intro p h i hi hb
    replace h : cond (cond (prmB W p) (Nat.beq (T % p) 0) true) (fN (p + 2) (sweepU W T f)) false = true := h
    rw [fN_eq] at h
    rcases i with _ | i
    · rw [Nat.mul_zero, Nat.add_zero] at *
      rw [hb, cond_true] at h
      cases hc : Nat.beq (T % p) 0
      · rw [hc] at h; cases h
      · exact Nat.dvd_of_mod_eq_zero (Nat.eq_of_beq_eq_true hc)
    · rw [show p + 2 * (i + 1) = p + 2 + 2 * i by omega] at *
      refine ih (p + 2) ?_ i (by omega) hb
      generalize cond (prmB W p) (Nat.beq (T % p) 0) true = b at h
      cases b
      · cases h
      · exact h
theorem unp_lt (t : List Nat) (ht : ∀ x ∈ t, x < 131072) : ∀ f N, ∀ x ∈ unp t f N, x < 131072 := by
  intro f
  induction f with
  | zero => intro N x hx; exact ht x hx
  | succ f ih =>
    intro N x hx
    replace hx : x ∈ N % 131072 :: fN (N / 131072) (unp t f) := hx
    rw [fN_eq] at hx
    rcases List.mem_cons.1 hx with rfl | hx
    · exact Nat.mod_lt _ (by omega)
    · exact ih _ x hx
theorem flatU_lt : ∀ l, ∀ x ∈ flatU l, x < 131072 := by
  intro l
  induction l with
  | nil => intro x hx; cases hx
  | cons c l ih => exact unp_lt _ ih 128 c
structure TableU (l : List Nat) : Prop where
  groups : goU (flatU l) 0 [] = true
  primes : (fN (prodP 9 1) fun W => allU W (flatU l)) = true
  whole : (fN (prodP 9 1) fun W => fN (prodU l) fun T => sweepU W T 65504 65) = true
theorem TableU.mem {l : List Nat} (h : TableU l) {p : Nat} (hp : Prm p) (h0 : 64 < p) (h1 : p < 131072) : p ∈ flatU l := by
  have h2 := h.whole
  rw [fN_eq, fN_eq] at h2
  have ho : p % 2 = 1 := by
    rcases Nat.mod_two_eq_zero_or_one p with h3 | h3
    · rcases hp.2 2 (Nat.dvd_of_mod_eq_zero h3) with h4 | h4 <;> omega
    · exact h3
  have h3 := sweepU_true 65504 65 h2 ((p - 65) / 2) (by omega)
  rw [show 65 + 2 * ((p - 65) / 2) = p by omega] at h3
  obtain ⟨x, hx, hd⟩ := prodU_dvd hp l (h3 (prmB_of hp h0))
  have h4 := h.primes
  rw [fN_eq] at h4
  obtain ⟨h5, h6⟩ := allU_true _ h4 x hx
  have := prmB_same h5 hp h0 (by have := flatU_lt l x hx; omega) (by omega) hd
  rwa [← this]
theorem TableU.none {l : List Nat} (T : TableU l) {n : Nat} (hn : 1 < n) (hlt : n ≤ lim40) (hc : ¬ Prm n) (h : AllP n) (hs : ∀ p, Prm p → p ∣ n → 64 < p ∧ p < 131072) : False := by
  obtain ⟨σ, hσ⟩ := sign_list n B12 h
  obtain ⟨H, h1, h2⟩ := goU_true _ _ _ T.groups (fun x hx => by cases hx) σ
  refine okm_not (roM_true H h1 (roM_asc H h1) n hn hc (fun p hp hd => ?_) hlt) h
  obtain ⟨a, b⟩ := hs p hp hd
  have ho : p % 2 = 1 := by
    rcases Nat.mod_two_eq_zero_or_one p with h3 | h3
    · rcases hp.2 2 (Nat.dvd_of_mod_eq_zero h3) with h4 | h4 <;> omega
    · exact h3
  exact h2 p (.inr (T.mem hp a b)) (hσ p hp hd ho (by omega) (atL_of hn h hp hd).own)
end Go.Proofs.YtjpfcdgaepdcdaaGreat
/- The primes from 67 to 2^17 by their signs. No condition; no program is named. -/
namespace Go.Proofs.YtjpfcdgaepdcdaaGreat
set_option maxRecDepth 20000
def tabU : List Nat := [0xcadc65af2b47b8cb42ffb823c845e5c872409aaa0d16aed21fe97fad86f7d86451332859b76c246eed37c603df7ef09d7c17b0fcb9397e684ed78311df8fbbd2c3eac8bf70dd237c47c6c5fb2bd7baede91ff4e8b092ff8a1ebe56991fb9739b5cf654b2973d599862cf8687fb0b552bd97dfea478b272b41a1eef25a75c23e0459ae1df40f0b8b08f7fd3be6ff72487da73f279fc69e2267bfcf818accf562be779539cb8f607656ff680fd8b1f741e43eb84fbcfb4f59f6649f3f338626cfe96cee307b38637f642f605b29cff366d62ff55032b079b23c9926d7a7afbfdd0dcb0e6d433d2bfbbaae40578cebb04fa4ced9a7ee77f8495c385c59c6c4874e11ca96f56875adfef43bbd8f1e77c4b3,
  0x6923bf95ea74e359b26c1b814e652e0053fa49a369f692ff16fb9eb8dd3e86dfddeb14d3db4be53f72c535867d5b5f95ff87c329a3d98ff537fdf5f2369cf2bc0b97415b5583cdd1eebd6458f6f99f9d8c71ae81af83d5da4ae2dcf21f71ff59f54dab8f0777fbeb8362f2717f10f7101d284c4e6ee98f90ab899ed184fed97afe9f792c11de9e5fe83de43dd523650ef8df3f4c9e9dcbd41310e39135c41863d1f8439e5adcb296753b40afa6bde6baf8827fb279ea6d4a87930faa8dceb8f20c6b5737355831dde17f73ff3819bd5ad59cfd953d2278bf6dccc7d933f61dd81fc062798eb8affdb45c6e0e86b719d1f3a2ca0eedbf7628de422f3be66b2352d1dc86c366eb82bb9998df7c1557e1f3,
  0xa18596e1d2767ff1bb4abefc8cd07fd56777cdf480fbde765c71481d19ec212756837793be5ddff1f6f1f8fd9d5a2c495ec577fea5cfc1f34dfd0ff2975bc1ae04778d5b5fe784f0f6da7e8cb7d73f7f5e21274c63396bf799f917626c31589cca0f2c87e0cb2423b779c9356775f41eba8eddba2e29f335abe865c3bb7596b6ee7c1c3fa2b7fe5b3edfd06bff6ffcbe3b61bde2bcf356b69b28fba233d16277627011db3fddbe56f3af13d9a108d3eee7d777be7bf6df1d7e70bb691dcdd2fb9e73a5714aed08ccf75e768b18779889d853e33736ea9f30cc83deb04b85d9ee84c0fee743ff4598c67c3827f83b2603ce9acc1be2f273917dfb0fc536f517a4edad05f03b7bc43fe19a1c7e6b5ea943,
  0x49a1d23cfa04702dfdf47c78afaf9679afb4effc24cefe6ca73b645bfa7ee40e04cf71bb960af7fc646c754bfbf29ea83f3e8beaed80d7db9be332b5b77d3d1c499795836375f4c2c01be6b5f6db3a846dbb576ac3ef09a258e399e22b7c51f9a45ec93600975a878a04cf1068fab2a2fb761d22f7d9ef14d5afccebc07b35339bf8250dd1b7be533f6fb8a1e7ffe10a3e1058208ff48f6b9bd179f9c6c963ee717a487efe9c5c3ec56f3e0ddf4aeef8e1b6b4db1b608c617fed67260dd230cf4be05035c81bdf4e75e7e6e3e3e7943ed6d675d1bcc15a4b0ec44697379a5b97f8eacb7c2a32c13eaffe58d739eba10fdff2d02ff52bf15d1dc1942afab4b5b8fab1ef46cda928d11319a3be0bc70b5f,
  0x2cffdce1c84b606075e3bd6b9f0bdfdcabf19d8965f1ee788a735158575ca556700f96e79cf7e1a4f84c78e11cb9dfb19e438be249e233f3c5fbf2f0bd9ffead470e53db2fe79936fe696435709f5af78eac7a25bd00c69dd67eb0bb9c5cf8193cfd9e6ec3a715f99120da157919bd755cd96ed887966f2f09ef86ea14f5bffc0b3f41ad2e56c7bb9245ecfbc2216be93956dabcacb33f0967352589ebe0c87cf5b5eaff8d1c7796782b9e0d90c3ce3de8df79507f4b3c36468663b4e9faaee4d1f0f3f46cd82fee0036922fec3798ddd925f37531d5b834ac20e680ab6c6bfc6ae357e6253791dec22c9f0e7057cd23ac96f586679675447d76bed62f8283fdf5c633fab6e28bb0f47a459f3a4e36bb,
  0xece1d0e7ec42ec3134623db03d82b75aeb12838952d1ba6562fe04f9892d001771432fb1d75cf1c67a97553fd8e6bd2edf321f4829fefee2d3fa6e7717ff11ddd9e7c6bb567bcad5e84fe890bd52dd821d6426c17bcf998b0bd878f00b7209980b3facdfb7db154ba8dce2c2e4ac3612586cbc440705bbe2c5de39ebff7d24304078022f90a7f73f59e5dd8ed9d4ff6ff1cc1baf7f386fad77fc83ca26ebc17d36b80979628cfe67f183dd43ae64ee6ae0b9be001f85ec1e9ef7bb284f9781f1e5e9793e559fd8cdec0f95dfff3fbc8ccff5fd7472319daf4cb61f68976959a1ddd074eb66f606bcd3ff917e7c934839a974e520eec7b8ebbd218ce6afa737f07b8470e7887e3ef23e5bb9ee92bef563,
  0xdc19b9f5d1f6762dfd5f5f814cd8bf30fff78fd2acc44feb807783bd5e5f73764e4f7e87882acb2f73553ba89f5efcbe774b4b03cfb0d3cba175233c035f5b6cc89e77efcbafb134fcc16aa3b5e41e67ff4a7ff5af2129f136f84ee2a736471cb28c0b4ecdbb93fb9d62cf1a6d28bbd0fa5bbee9df990705c4f3667cab2772de02eb86b48c4b962d109acecf42d6a82151c1ac69573edaa3e558a6aee772b0a808d1dd6a4cf785cb2fcd304280255e34b27fde61297cd7e7cb5d45c63e91914496a3d33d8b1f702d03bf7e873f35eeabfb51e413b69a5c468f2e5ebcf3904190d3c36e6560b4a61b445e073e2e7ff08387c3d6a7e0b0376f1bf92c275e5d17107dac5cf09871a1fa017ede7c4ea75263,
  0x173a5fdf16ae4a6bbb71c753cd366065b985bdc77d04872fb3cb0fefb9cb0f617bf0c03d390e6e1f87afd88f8ac9e3ace327bcf65906dc3866a9937797a23acd4cedae7a667d417fdac7a91b4397beb7c8beeb23f84f38a61f731fe52719ad914aced875043316dfbdac5b669e33d9c1a13bd3cdebcb71d25bf1cfc9b69a137c31cd30ec6862f6f6fe3cd20f690ee3637b4df4f3dc3771f0b463dbf98e5ba76073263fed9df1d0630672705c316d589ec98fe31b82bcd0a970dcb205bcbd3c3c2eece7d607baaee601e2c878723e977c5f0677b36d11e00af1d3615f79f1bc7ccf35266d4f2589a61ade1a66c972dd1c3e8ffdf6c59f4257b90eef0863167452dfdf2c63ffaf8f4505cbe0ea737773b,
  0xbcdfb26c0c8f6127146df5cac2d9ecdd39a91c7f3cb5478883898bfb43c19f67c8b9f779d8cd043fe2575a7b96e5df0172be3e99d8a93c6a2f098b89d5c760eba6ffab727bde1eaf8fc7231ffb2d8173de5ff009712cfb3b5ee89f91d777e1e362d5a7f4aefabb3d0c8f48575a57d4abcab9fbe3694636717ec02c593f37e7c3fbe6adc21e62b33b42ddd7cd10cec197fe4be1dbe47f7fdf30083af7aef726838f8bbfda4fc923e119b11d399a5cd937263bd2719775dbaae1e13740d980dde09e25437205ba5edbe3f1bd56561a82dd68ceb8b780dfd04bfb6ff075333039bafeb6efbd6ff603c70ee823ff86765e1b548e93e603d7da7bdffef5a8691274bdbbb41c4fc7f3ebccd78d93fc00e9f3b,
  0x3e1ba6f2f45b6007f4773b76fe02978ac7f13787dedd9af058f9713ca02f43a6f8d70eb18371eaf8eb053d899b1a5e5ae6036deb0e8e735c6fa8bfd42d2ca054850bc96d19e9957cfd07681c7f30fa888eb6672ee7b2a3909cfe0974e8778c988cbda2ef222fee9b9910eab2627ef01358559dcb9eaf13419fb8aaeb8272ed71c91e0a4c2d2f825fd78ba932db96f9c872e19b8aee7e571a5fab5f841ecf7a7cd231b1b9b32d2fd61d876503a75549777ba4b0f03e979c78d69bcf55b9c44ae26779c1bdd67b236e7b261befc2c3a266c02df5967f5d38c70d3e87407735edae58d1037948fe847b224cd61ea2d795579ceac0f9f037f8a83a878ddab767b30f7b9685f654e0ffbf3a1a2c1e057fe8ad,
  0x1edd9cb2f5bded51fc1838c3ec167fafe32c7f85b4c48d7ddfb29c3ace6e9e77f9db3a83c69cd182ee6f3a99ddbcdd31c6e33b2607a40de466fcb07877de1a0f3826059f473f85c9fcb9e4d2f8c09dd92f1936554fa281d227d6517695b1a1bd591cc0e7bf13f31bb67df938f4c9b7d1ff117d27afa93ffe9ff89ac7ceff4778651c940c734f0aff891be7e5c1257907b24b9f883c2d2667035405842be327e7d8fcdcbbfbcf734f6513d3359411d73cf832fe4a79cc0d6e26c1dbba4bb63ee425643af42099ae4e7d1e399b54d1a549ef9676147596988bdc8f0ef22752fbba7be118fa8a30713968be4e0ef44b34cba749d13b71a3bbccffd74e0a5f826fc59fe484ff80624dffeafa10eec6b64e17,
  0xed03bea5e16b7538b21f398d9d248eaddb8375ca8dcdb8613574d679e5cc4cdfa8f738618e29fdfbe4a034c9df6e8c1067638bd0f1eb2ddf167b01fb3b1ef68e30ffafe70171a8aec0f86310323fd8811cc69e931fe223e428d847f23eb008794ead09c6b5a3479f9a68eb647e4f30ab5e014e030ea243b9cd81d3e4d17619b2c0797a7fd22f069398d9906fdef3fc06fe2efa480d9397d813b9b5ee7dde196cb874f7dedd2f11dfeb5f00f5c8aafa3f736c7ef0f9108d8566a39f07a98bb4e044620ff5d15c5beeb49784f3748bce31f6bdea79378d7e58df551e463d09f9b355e046f50f7ec75e257f5187567fb0c7eaf3f858fe4eb406bbe1dca8a776f306d59864c142617f333efc631e1aa77d97,
  0x51aa9f635a94b11351c6e8d157a4ba57c517a6c7077465ab2bd4be6bf5b4fe2a6c658952acc775febe8d5fc9ead434d38a130d0c7283bb50d671e6f8e6de26cc16dfcebf38e5f294caab7cba7f81ba7ace50d769cfc1cbf8afd76b71f4bcd85b57bd779ef6dfea0fe2aef88c7e03b64afb8e7e7b9fe1af6fe191b3ca5febecf440ff955c73765d5b096f86e9dacf780a35463ba57d8796bf5fa5c391a2eef67cab7019bb92be8b9e534bfffb8892eccf6d5979f4be337d87070cd3aaf9af1bf839f0a834511b683e468eafab1e9f9b19fac66e5377427cc2bec9f60f071ae1aac2f8c27d49ba8cbe5bde0967726332c791d2ddd46df67e63d9315cce4e92bffa1788fcd0636adc3327bac6fc783f08af,
  0x7da3d3a8dd15fd0b75dedd0f2faee60cf74979bef0c185f66db38e1aee5d58c77b87d818dece5d0d20bb9506c924677d32c1197194a4a676173a9c92264f5a670db346296572a64f6e7abcbc52c369f7b4355ba17d04fa8f81613ab4425b80a88316c95bd185373af05d5b4faaee5c7ce9561757ca02dd06c6d4d56e17bc135cc7ed217443bad4f565b2eb255416b82ed2876d76f6203b54b58e529d376f1aa093593b6a71952abaa175b23a868b4b17abafd9302f3cf5f4db2725071a84d779d6a406dda66c7537f15a7aa50032a0416f28bfe7918f6b5eb5d25b8095dbbad66b46bbbed190bea96a14daba04d538729e095f99b55f5a0aadd5759ddb9495aa7ec4d96d52ba4659e66a77b6ce0b7549,
  0x8e3bd203ecd3e0b93b7398b8fc4ed66f9b0a8ba6bcef8d7a083b9d3b962dfcf7d70b0c3b9c07c60b67e73ab81b9f7c28674afb221fb03be00dfafa700359f19ecd5eff8bc05da4fdc6adec9170d7ddaebf423e4283f65f816cd46f74347d2639ea4dc88ef74fe0c38010e2e261b47209fbd42e33962d1f3813a72bdb0cea4c3d349bd00c40bfe9c7f873842ecaa56a9df2ab7b24dc599e3e57810bfbdde44a6df13f521af45ca8d73bb3c28da555ef9ce49638e59eddec681e4ce7430be775c4c1f699709c9cd8cf573e663b9965ee36fa726e1bfd6eb9bf4d4877f33f20c9f748c782f7eaf52adebd4d341f51270785a8acf09bf979be499b7e1f723f230b4d63c34fd93be747b697de65ffb63e4f63,
  0x79fdd1ece9a16443b34a1d893cd966b91ba21de544df26f70bf2acba86df50c651e38d89fe7dc8216c103e5b9ae51f0abe249bbdbfb21ad293ffedf8a05dfd2fe5af74bb22559616ea40686cf98b7ad79e4f6f4f8fd6779730ebed7ec5f0681c738e097e3edbe5cdb3adc1dde11ab2a598989c61ae49376aaffb88da387424397c7e39bf998eabbb1b9fe992cc7df2fd7b633e7fdfd2ee1cf3d7cd88a1d7fe7bc9b2b82f8c34ef5af13d931585d8d0667598faf5b8220e4566d5dfe3f7ed0af9b87dfc3a6b9ba75d11a6b30305e7a13de2aaf8befdc9bc8b9d2117091bcecddc21f935e80037d09c86bf1d6f4c23ec25c59dedb4f16c3b8a9a58bf149f1abbb481815dd089e34132f57ae3ddda7b2e0b,
  0x67f7b65e691fb875d5e2ed1bd4bbfae23df486bedf6e9d6501b6ce9bb7ed763faa2f51f3f717de43730eb194f98cbf5de6652f8cd3900ad87c7bd2ba7abdcdbc70a6521bf285b23bd9b3f429f10fdba4eea4776d7bce69f904fb03e9e17c99fc5bcfa277d4537419e851d1367999357cfcec7e1d8a15434011cdf8d57f6ded7c0778964cd3a6a64b6365ed1cd292e980b5655e262f3ef624f7738fc321c6077649307d38cadd862f470700d1d3f9cbc4e769fdb11919fc201f4a97a587d5f4f2567fbb3167fc307cacd65723039b96fcde6b6b5879753cfb2fdcaf8bd51a7fb00de59be2e5bd2adf202c089e0f5b537fae2bf01ae1c4b14f19225d392ea1ab652dd0f0c88a6e42ba5f9be11f9d8e8acb,
  0xa02982d1de0cf61d7ddebf12ac5fcf9247e94bab09c72d7d1436cf5b6f2eaaaeb27bbd519795c2c2641e72183d171e6a5619cfbe79cecbf00e73d2f460eff36c79eef0e3a3c1edc4f24be6a7b6b61e94cd0fefe5174b65f44be000779e3906fcf21c3ece99bf3201f06cedede59dbb6f9e7acd310f4cff6621d4d0d6cc6f2dbac49dd4ad373e54136b01dc80cc8cf9c1fcc33d7a7ed1deafb76e67daaff97be16eb0a5be472e42e723cba6a9a1d1e1cee7fc351edc3c6e2d677527dc499631d14ee8f9fc41d8103c6b1e1343afcda9d5f0aa6bd4fdf9b8fb0cc0d691bb599fb413e729febe75d51c474e421f4bb7a8898b8dd607e0fa30a35b11be7f6e0593eff981c7de05f070be3fda629c97677cdb,
  0x3edb91c8dad0f41670329c553e70e7e4b7334db22dd97ff27df7071e724c77ae3f674f238392cbd77095bfce983d1f317ff58f314dd71cc95b79b6b14b7abdfe64cf546fc13dee66f847673f35f85d91acd02e41f36bbdb766f5bd7e62b373be89bddad6fa5b5207c0d8fa076429759bbb9a0f3746db23d9d98527c797ee177f833ff3fcda56903b4d45b3a4cfd4ebdbb84edf762f56263a67e68a9a1142e46665b3a53e649e9cce963b8b55de28c008fe7f70ea9ac2fc14cf276339f3cbbbf7feea4931749a27ed47fee2579e5df10cfbabe97c33c9ff6bdd868f28ff41859375e56f78233c67180cada3c6a5977f17eda5c4bee70c7900b855fd001f63f74c1dcf1ee5b0f5f67d713e85afabd6269b,
  0xf22edf534222ae7cda706d72d46e36ae677f47c381d4b96e1cb0bffdb4fcc7d67fcfd24b8ba8e9d764b07d45b8236c1817a4536b6380acc3c9f2e1b46ad8320d0bd609ef0c47b6e3e387e19db29c18dbdcb8ef60575ec5eb44fd6d63217bd87fb4fcfa66a26b023fc229c3c566e175d03b697f3bdfb10f17d5c89ef1c9656e769cbe9bff64d65c2f4a73c346ea916b4bf8a69d104e747f7d47856bc933d5dc6518f9ccbd6aae730e7277a16d9472dc8a683ffbaedddcae0ad73643a295c29bc15ce8cab6fd1bd94ee8d7f59bc4dfcdc2fdca635770ebdc3fdd10f692d7e91f8e96fd5a7f2cb126be4a9d784714bba4a9f774dc98fc26762e1d510d51af62ef9c9fe434f6167460f5eca84e7ea0fe8ed3,
  0x2f998449c9a4f8c97438bc3a3e8bcfea6f13cd9aa8f283769337e4db75bdce8e5e1ba1318db8c152e4faf501fcb91eac3e051b741b9ecaf8e7728d7a9d7d6fbf222f48a3d12dadd1c5cded0ff6babb60be1e0714eb9609816fcf3fefc4f401fbface7e4e215fb0c1b26bdb33efb178547968ecd46e75771d31f6a8ce10f399ff34bb062fc73628f73dbbf685cecdecabb8defcba7f62cff85fa73da9eaf8e0606a38d2780f2ff31626b398e5feb8d86ce570b99e9b809c1b6e385ff11780a4e939e8c53021387f4e70bf3b8f7ac1e0eec4eff3019f3f6876979a9a49e5da3afd9b575bb5c957022b48368f3afe752a9ed8157186bacdd67daaf974e11b12554686e9d654c1a1505564eb3d3462da22e5,
  0x1bf9f549d3f1eca37371db0f4da25f87b7b135bf59fce0e1813957fdfbffccfea4f38b9ddc23c4886a10b788dde60f0a2e0e6b2b11a51ef78e79b17d18793a2d43f70c9f3497a61bf881fd72fe6e59759d38beeedf701aae635560bb565d046f0f3ed466017b4889d20aed0565cbf2f5bd443f1fbe0f6bdcfdaba3d42a7eee3fb499b43f294f1e7301a3b1dfc0d77bd93886bc952f4a8683577ae7d3b1c4437ed030d6b9105ebf97b6cb0f77aed3f029f99378a03d947fb1ce336b3b81aa0edbc17c6c7461d9b73c0f1658d35c75885cfed5612afa00b8ec0e3446f5b784b1fc96c05de3ba79a5faf5afdd26aa6b4ce3a3d2d3ab6be7f89e7848ac5f67e3530b7bb329fb8d7cf9f851984d9cb3c7eadb,
  0x2d3ba255c73d660bb4941a2b1e9027a73b5b43bff1d5d373ceba019e58affc8f1173e36db85fc2f3e1bbf4f138a84e23bf21eb963be9a7fc71e85635b2ffb85dcd6f5ddf5a09ca50f6d47740788dfeeedc6a76d513ffb7a5d0fea8fec4f3c5fa04bea2fe5abb48f9d3d4ffa77213f0251b4d0d1c3e5ffb4f29cbd6f27cec0b3a469fa0cc143e49df8625db00cc3fef7ebc185a5dfe7ceef5fbaec9f02ac1bcf64171031e10afd2478b9f0c8de640ca7de68635489bd04e936eac93ab5d95a3f4dde9023d871c22cfc287b14f4e51813fce73e04eb57c5ad02d250e98cf8abfc9a9e07b7b14bc91b895cde91718a3c803b772e47bec03b63b9b4fac02ce563f8db1c7aae5df66ff778f3cf1fec33f99bb,
  0x1c058217d4faf363f823dc484f19f6a427bbd3e0b3f0c27c5a309c39885c6a66e903fed988c0ddce67d3f227db15aeefa6c293ff1dd453d62b75583ff29d177e98dfd8570ea58629e0fce0133cb0dd339fc89f4563a905b853f087f8a874ce5f730d805f6f7f1665debaddc1e1ee36a55bcf5e000f727f6e91aabbf339e85d3012b83a3dbd2f12b78b2ff567cc946df73a871f0d6f653e050b3c45fc28c1fded18794979d98f767778bbbe01e35ccaacfec474acdd96cf54a6fd97e2dfc8f4f3d16238f52f1dee8ceabf124ffcb19279d1d9fa85705bd8d88cd307e0b35d3eff8f59bcafd858282a3aaed8f6b56f3a0dbddceec06878f9527fa3fca5b7ebcb0e5b84afcdfae3e23206d9744ee2ee4fcf,
  0x4d18b2ce303796ab70fbbfdfdf13e2383f621b655ecfae87b3342ba512e3787a69b0c63a6cbdd97e141b730db2a7db06eda3f7c37e31fffdee71db29498905d4dbf26d7ea0be937590a6f02b7e75e4f6d899e55075d5fb04cc5b8ec7ff7377f29ef9be65297fbff9e7cd9e77ea1f7a31d074f52d62cef2e258ddfeae9ef367e73f8fc2e81b7742f2ef5a4dcd64c699af6327b4b8c70afae67d065fc4eca86ebb273b8df142c66bee143ca95da79eb487b2db3f23c6f1ef5de0cbbb085a50fe538f774f37a99637ca216d73f8fb7c0f0e21c636074ecfccabf1c07556b6311c46cc01a6727f43e3b6ebeed4e1c2b9d85ad59ccdd70e2b5c979d7ec06eee657daf39b16ce487681337d7c4ccfb8978af7,
  0xed83fcbbdc5e709338f7fe943fac8e11631abd9414d05278be308afee5fcc7660eb7f443fa7bd5e661a036a85f160ffe5631f7daabd848c3fce6caf60ffe9ebdc006476f4d0df546c711e675b40cdbc88c624ed09f85c1bbe7fac170da7af7796fae9ce6c8e7de2f9168c9687424bda198475e724ff29b06a7dfa5e56478343d539f6baf447ef257d83be8d4c0df6b46bb86dff40c14dfc8af30c59fa6dc307cb231dffe190c0deed9ff524deeb6da85f36272729ba8bfe93e1ae3e4d5becbfa756968ff3d79d6edfaf79fab0dbfd7ebf54cf0a7bb5c1f6b8ccbfeae4f1d09c57ae812768cbbc03baeadfcbfd9ab8993e119c162a32cb19bf806ee9c27c8837a6ffc97d0196be9fa7f7e7d6ca58ff127,
  0xd3faee8f42b6a2485eaeac5bd4013baf69c264e17d58eebc74591268dab6a3da2f0553a281095fdea23455df6e01f5201ae73d41aea55d433fab795a352fc2763cba1525073ecc817979aea6d6b5ebe4949c0b00fd716488f56ac4a59ed6ca2de9f47cca43a512ce8ca3514db177db8c289e74c6daaf5df452fba55b63b548d4d4ef3ef6f8ba5f954b92c5a948f4aa98555faa02f531ea37d5fadabe0b5156bc1ad3f2abd2f5cdaa759d334ae18f6868bb005202e92435220762a3d69df478e0277205bcc0f92efcc98f012336dbcf4cc28768b9392e5cd4deb32e2ae32495dbc4ceb4e9b6fcd138f6ae0afe048b290f9bcbe477f6f1bc4358f13c7c5f0dffaa27dea2f42e7bd7be60d9c3fef82e7efb,
  0xe0a690a7605fa43bdf91ee0b155eeabfad095a81e75c00a56755e9a92ed47d7b3d8db29eb84d53e0b74e576f2fe794804ac0b55e86fda94f39a11a52f22d127621eaa76583cac0295300a346d1b02d037773fb5805ad06c7f749d6bcc494b72f6814ac9ac1155d5aa32b5021b3865659a95df63a4a280dc4c2ead571cfb69a598ee893d63eead9b50062da1b7d6bbdc5d83aea95b5e22ac655a536c5914ed0b069168b49cf24dfd2c4991e14c58a796937ed92ed4a64a496b2de292b1cb84965a5aac45cd92a6055ad3b0585399eef2b6aafae545fbaec25d66dfb7195a88aef0d4981abe7576e282555e90abf5dec36960b7e9bbf745531effa174bdae61547a296a5617ea121dcdda83756e6ea1645,
  0x71e499326a2ab3ddd3c1aa2296abaa7e05db86bc9947ffa7b1d33c2db0b63a1bda9d143abe5b43bea6e95b5868b7163efb7add5af686817e28b76f59092a0917942b2d55b342c07b550ab4db50d26ffe7627ba08a5f212862b5cfba5e0d7a22917d6536a56ad0132ae89567db5ba578fec4975110be63d825ea71371e6bf12d05fa970750b9a0b8de4bab6335960b1cbdfd62a5bf6db8a37753a16b5d17ed6acd3dfe6ad607539fb99456dd6dcfb71f5ba7e5911a9e256a7ca1dc54f7ae4097a50a576d1abee7f55ee5ba23d0ab29baf4cf9b152d0074b9ab5b42b98e5cb3aa39476bf36fa932dcc7b66451a54fd8552c3dd6550a4e9592b2c6cb6199a1ca5be0a93a16a63a7cd5dadeab696439b89dd,
  0x7c46d16f53b4ae8bdf61ec9475d73ab9dd0072c1175a25a8f1de54690116e1ab278532d2ecf77bd4b833df4a6871577abb55157fc28d934346bf415324699ae4858bc0d5e0de9cc35b43b2bad136e9b736a06b74b5b2ca81595f41a3c35d9c2b543417ba486d94bee0fd42d7ba4c568be82ad5549ba16518a2b42f67f9a58b58cd692c34c36bba15644aec735ea6bd3059da4ad03692fbf625c44680434bd0bfda59e82f4fd7b1cadb259386aa2d4c60ac2d5407af11f534abb7ed652ae9694595bf4352192c8b57e16b4d556feadb5d5731268bdb39a9c1d686bac81dc896816b57f1a7655489ea9c5762aa574d1112936377ccbc2656002c2df693aa62dd71e2e3e5625da35bd3c6ee4967c6b384f9,
  0x9848be447602360f1f648f4da462334b791034e73247c526989c254b3b26c7b24ee98114e08e7437361f9c944cf72514f2bd599144e1d2560d3ef29501ce61671972ec29d68c9c1e43d12bef92d8c8ee2737d33cc9d974e5f2457f2f6890e9c9ffb7be9a07559a0ecdaf5f98a657dd406d2e14403b61651dd2e2977c8eb9e7d271e89d37ac9afe95073aa1434f45a3565d3beffe97d6fb35c507dab88b47d8a3fadae66e58f79c0a7b55d96ab72f4288a4ffd0182cbc14a42b46653156fac5702db04ed0bfae6797bdcb52053186e2a779b5a48cda2ce87b1436aae585e216a5996be7a2b55256a949b4765acf19b426f72b5602b4855074ac3ed6bb0b7e251cbe933f45a9b059d3066c6ff5b57b284d,
  0x68a0852857042826168108b2054043f861f950c0c8425a37b91c0a8f41c415e25e31d1b88b6865e6259b185b09674535227151a398cc5c6b863e9915b70a7587f4239991bc78c0e477922a7b1b108ef9a6a59251b981fcba86677537249c054abae4a7736739189c8aea7b6f2e4e9222cb20a424f24409338ccdb26ccd2004997bcb726655321f39e8acd89268b92a0793bfc9bbe67ed30d89b93ced9e49b93fa69c494866c4def2e6395cfc8a7a4bc72487968cce20a5a4f3a60965e88cbe45e130e898fc4bcbe617533409783c9b8a602b3cde975848ffa7f5d36ff97c64d00246ae230a910a4a3764fc5260112304d35e5a5d2eab91044908a6f03346b94c5ce15a6d87295b9c56cbd4a57793a3b9,
  0x7637ca51ec60efd6fe907fcb7cca964b77329faa4de79be8eff83edf346ffbb67183da5bace4ebe46ed2f855bd36fd6d07a3cb04a7c8dfdb5872653ed5995d1d24ae9cbfcd67cc12cac2e9a576eafe7c9f3b56c2cf61df81b4e51c695e311f7ca4eecf261affb2f7aaf4d7d6e8cf300bf8aaec7646ca93a00590c9f519e1a7b5027ecd1cc926d39304e3850bdefff32f7a977f3a5c2a170133f4258b81cc17e32b383fde59ec07f69a7ff4978532c45b7484f5f6d82a7d4387b4a356f3f697cd5266fbb058d8f83cd13fb7c70c9998d0ec3f609075f73b99be9b66f20f0fa5ce5bd6b5e433357e7c0c9fff9f10c30b87d1eff293f9d87933fdef3c19c7271301059537c9017841363b3eee0e07772b81,
  0xff98e62e949fe757f67bffffcdf976d3366cbdb85d623f7a4ff2c7b968e81e7a3f3b627a7dcdfd37942f0e518cf2d670ee6e37df18b05cfa0725dbc551e2e4d06dfd3e7149195c1e2307b343403bb0dfd5f470e53d3558839f3efe8c0baf598ec6cb6568dcb8273cfebdc9d64a8f25efd119c49f6d973ee37c348c0e263263d1abd6537199a92755745b070f48fffd8f15f58155d33aff07fa8518d6fca5767cf7c84b8376cda4ecf0be8e599cdde20e33ebbf2bf0c3c0c470a0370f7c0a3d949761b31983a437cc856a3c753b7acb1da6f6b80f9a83ea8dce536d0a3ccf9ec94c1eff26670531ba42dfa57d9b7aa49dc44ebb6f642f0dc1e686fd5efecc7e1b9b653e71d6247f967bff09d2fa6cdf7,
  0x7727f53bff95e11a75d29c904dc64e028309bdca2fd8d67a993f4e5bcdddfeb68bff4f47b254ed9777e43eeb5cb77cddc7178bd09185f2dd48728cb3951b034d5eaf20371cdfa513d575e096b0ce3c3cde042780137b4bfbfdd6b7691dba2c5e026ca3a7f37b0e3997dedb68600c7aeab9e68f5717b60be7d1a2fdd610f56958e65e76cf9b065a679ea3ddf7f315fcac36a07c7e1efc6e0b237575fc99f5a476a234647c39fe53063b9f1f43a9f8e3427f7bf27dddc2acd73e82c72871cecaf55a7bd1b3c03bf67f084e45539c89a111e756e0277780ffa2fd4bf67a27a28fbe9ef22d69ba7df53ab3add8370d9ba839e4dec3326e017a62f90b8ec837ed738e53f465c27777bebce7f905ef2ad61db7,
  0x5a63bbe4d049e6d7b5eb3b265cd0067b9b0b6db5c2cef4e07bbcd9edb96f9087d71f4ccdbd82d040e854f8bf7df2dfde2e45bbf591e6d9d5be7593bf4cd9319dc6aefbb7ee5b88d4cc476bf6b9999dc62f2217b1ffc365e22af66d627736fad868fd18dec8279dd1900fc3346e0b7ef93ee4aeaf6f833b5295a7d4e380662fb56e5c40ef2067a5c3d3adf96cd6c5f69ffbced8c9bcfdeec5d76a9bdb81f7a7fccdbf879802cd53d60e87cbe7a78eee706ad5fb787e15efefb710871701be32c37ee1da778dbee1dc9616280397d7cfcfd3bd6a5a7a02b837cc31d6bd9b4f97d1a1fa2566bbfe7879bf8c665fe797ad07e02bd82574fabb83dd6d5fec0f878d316abf1966f8a591752ef9b80e0746adff,
  0x8af3a04eefa163c5bf789d840c01dee807eebb833acb3676a0b2ea7d7e9f78ef069f94bff093da506d88f01b99e64d4d7756fb84bfd089f40becc238b01ff28c50371e93e739da97e4f4602870b0d9d80c66ce5f276a13d59dfd61f24ab1c239735c65e6b4e34ecb8994d091644bf801fc4fbfab0ede3bc4e5abd3c2a3f34d7166de4a6dc13e05fb5a459489d35ff6f9ff04bab9ac512f085fe3cf9df56be8601e72225b278d0eb6af27b98b9fc4ec81f0453aafdae9fd88aec09b068f8e3ffd8e6760f076d9579f1f36083fc9efc255f56de00a714c7b835e9d9e1e0b978bac74c2eee5dc7fca1c967cb4268aa301ef9dadf3c47b91773fdbe90e5b7626cbd769cc1feddaedc7b9fed9fd6ce9cff277,
  0x2562bd816a36a8945451a9c414754a7a15fd16cd7d6c80a1d7db336e7b37b14bcdedd61aa37d6985a93e5e01efdcb4a1ab31951575949cc9a1e01f37bb1c5cde0a4747e315cb8187ee1df5623d979f706f6cbe0fd3a5bd8f25dd98674b74343cd3bf414f5f0bd481bb75dff4e18372a93c9bde55bfb20f6a41d371e66e7928308f3a836cec7f0567b315b455e36ce2d439225d50fccaa76723fb2b8176cbce6b7cb26e7849cde1472a6328cb8722f83b7c2175019e98be00e7b95321e3c703fd07e72c700adf4e1c30874da3ff45b793fc5decd5bf7c18e38ce72733e7fc63adfbf2577604fd6aff3f7ce8d601cfeecb9400d50bef08f7e21d7b6ff40688376b578092e375f4507377debb9e0f6edf4b,
  0x94f1fd54e222f45f31af79424ec12e085341e5b45ae95a6408749e38110cd64fd177b886c9454b8170033b3e5c86dfa006655780ffd735dc32ebe5bd1a5c2cbef57fb89f785d8f73d860e56338c8da9dafc836a987a473f291d76874513378ba161d3727eedbe1479f7eec7b79b73ee4dff39c53863a2b5555f424c743e6df74073ce59d8c27a02f17e19856d7026514779afded3e2ac7e5830843a8bdc44e6a3976f53edebc63b64783f981d2f9f6d5e87cb51d78124f12b678971cd9fddbc29c69b173959829fe8347994b21e79184e7bb6c437eed391cbc0d06eb07dca39240e01876e2be5fba99cde71799634a8bba03f9677196f3a4d8bade583f2143c359e290cb37b9b9d870eb1cb7d5faabdd,
  0x4f5fe0ddd17b73f038ba7b200dd297f3135e7fb98fc56deac57007db590c248e605f5b4fdcadfd3be8153d93db13dcfdd74ffb036fb475e75ae2f57ae47f64fde0874a2b7347e5ccde02ff1ffe0cdd581d9607a0f300ae8a95797162c771f6b9897e247ebdb3e36fda9af8607c70bda7f8566f5536155f26fd86a9f309e80dbba7dcacfd730708eba07d9855dfdae1d1b563f87c6c528e033bfd55a884fcf2712cfc23797f9d49ff3a1757ddc3d6f8d47dd9b2d8fc769efa5fc0370497aed2f2b76da77a69be0c7c6c77bc3b2033d4e3f923f7ad3e5d7c1a2fb086038fc60b9d7ac228e92ab96658688dd6c6fb8fbed7a1b0ff50e85dbd2c9d9fbe03577573bca58227f347edff3e5058013c35e67f43,
  0x134ff8b8fffe6e767c79bb6daf67f639ef8633ee75c14f60e173a8fee29df576569b3831a60beabae146faf53f52bebc36a2473fb1a23ce70862197435384cde3c37c4fb4e3fb6f1e244f6fff2f45bf7ad2d4fcd6f03edc2eef3dd73f87122fb094d8b376d53ecd9be3be433f43631ebde9ace2a4f357fd8adc181ff83f3b6bacf1c4d5d1cc6b07b18bf9f67de26e29bf67cdceb6f75a7dacb1bd5b646f0357ac47749987656af0e122325f1a342eddc7034f840bf6aede527a9abb18def04e7b7fdb57f777b215f2f0eb45b069f9346fd966095ffaaff648d05bf13b7bc87e275f73d668d7f40befbcf9fb7d66b141fa815ff75f6e835ec7f9c7e3fc75fa393e9dc96c1cae68876b9384b35209e6d93,
  0x4559f379e7716b5ffcec7ad95ebe6aeb3f92eb8344f61ae014b4dbbdaf7e9b976bfb160794c8f52a67267ef4ffaeffe3ae2afb34f19c58f9b2650b76023e005c5ba620ef247ba248dc7f7dbf3f2e593abe792ea60376ddccd8d9d1feea75d65e3dac716fd6e77bc3e1d5f494fa7d7476dc5fdf91be30cbec5dfbbffe57ef7e787abc6abc0fd6098f193b9477cf8e63f8b5823b517ddfb613df9735e736e22ced98bb201e6c8c0bceee675f79bcdcef3f77c8f97cdf4d2d15aea0df902f881de88ff98cbf9b9e1cdf569e16c35e1dc240c5a0f92afd9bffa4efda26629f595bb583c196794c31ed7df9fcb8ebb49dbac6eb2b570ea236ba67df28eed1bf90674401d656f786f2c47cdc78bc2c81478edb,
  0xf563847edaed717df99879a5ade85695b7cbbbe841c59265213fec3956de8b6f9507820ddb31c06b7b8bff3bffc6fcdf06116f8cf3cdf3ef8aec2e34803b5f6e6f863fbfd36b8ebad53162807c981e808c2a6e1b3b1517b5a15a19a42438841ce76ee29fbcb30e27b485e17ae862f2075be1ed4aeeb21f6e639faed1127ada3ea39a779dd597317b174bc313e846fab379399a7ebe6b36263b32f1c642c1a1f434b1b47b6a7c584649975483c6bbec067abc323dfffb8ee1fff697200d9420e72f6ef1baa69ebdec0a4f33f726cda9aad0efe3b7b33899affd7bdf6ae3ee8989a3e688f386bd331d6d1cd8ee83536df5c387d2a9711fb12a7e172c79bec28f1185d5decb2aed2bf9113e2f2e77be12b3,
  0x5415cbacedd5fad07df0b9010d229e9947b54f9a0eed1766187d32f9b9ec9ecf9a3bba7bf0a0f272e07b57b2dd146f2127f3634c5fe019e585e0bcb4119e634d896e5aef3be7fdedc6d1670abb679f2f1fc0ff302b3cfbf06de65d6c5efab63dac7c62e6a53b6825ebefc5e963833a4bdd744f3ceff8ef1df1c1f2f71065f7766f3c537dc4567b177157e47fc85a7b5d70d67940ff1b5f985f8ca9e9f4cd50e591b67d982edc81ef0cff7211c82cdcacfd18b6e37d1d3c6cd770e71935b1d8dfe578bf34e17b3d7c3356e5933641b4caf9916263f01e38709c30768e73da038f40d9ac7bf8bc84f88ccc7cc67a1ba84dc451f1bee1ebb89b5ae09ffaee08c371219037cf41fc43b8007f4ddf8657cf2b,
  0x957ec19b6b4aa892d1a96c37d5876bc39d676eab59597abbd0d19fec8fa48e6afb4de53e81176461b38955fea96b95057be6fd9752a3c55a7fb5d254cbeab4140abb500dad8ac4ef50abacef5b01ed9eb7e4da013de1da8f2d47b3bb22d4d3a83277268af7a545869cb34927ab8196192f5d56412a6cfdab7a96cf4487b71e581569f5d4822a7969660ea81d52e2a588d5c5ee2556659a0c6d1fbec83d6497aabfd748ad6ef772cb2c2550bece456434b62352faee27d4fd3aa6cde7c6bdb77042a0c25361ab85b7d7eb405d3f21cc09c0766db3b703df274d6197016bfef18775cd28e81a75d0bb8c8c1b0e2e57cbdf84e2c67068a5feb5bba60fc1a6384b4e6bd879e62a60a57648fd2d6c794f673f,
  0xa23bd96fcbba679b74047c067fc80f8af31f9bd4b5c7a8788c3146f997ce1b2668ff965fc47ade57f428757a184d3d718fd18fb2a1a1b5d440ec7cf1a45c4baf695e3c4300338d34c6ca67bb33615e682cac9635b7252bd83dff2f66cc7ed33a210c37afc7b7ea15aa25e5c5fca030addc822eb61645c72e37a82aee4672247eb5f8bbadcea77a53f97d9ea7f5a23565936ccc73e63e72a51135c4962a64592ba799fccd2aa5b9539df9263c8b027bc32052944dcdaaf55baab1f5c482cb2566a9a469da086b1b740d3b18ed0c4ef3c540d5b11fd76aaf99f5080bbc55876ec8574e44ab9ad6252a23f600ba2e256e6aa119506cb38cd48a28b6d5f78ac7fdd116b8d3479ba9b453af2c2014c78bd50d,
  0x6476ddf778d3b84150d17b49fdf29f9e676809b7cdf1df60cc767839f58da8c7656be0a5f1d8fa7b676db82a1cc78ec56671876009d476f0d2ffe4ffb9995fbcf80ef4af3f69fd56d2b1f5907a80596b4f95f7456f04cdb7b8e4647ade300d7d8c7f740e9cbbae45b70fdca7e00e3f605fe68d9dcfc8a738fda7faf8d27ef8b12e7e620f98b661c7b3e7919eddf679cc33087b8b4ca34f20d7b9338c50c7ae6f38f6f2dde8ef5a2ee4d3ac89838bdf16f5d6310a785abef6cfbddf75b7dba6dd3cf8a7b21038992c62963b9b40ddb169f35dffcd380938ed14e2bf2077cd979f8ace19e41ab96f5d5a9cf44754b7d503bd28e326770630f17b359d67c6b6e3bb179492e46b67b3771afa120e06578e63,
  0x17198ed4e5c47880beab1f171d586f26ef1a0d9846c1ba60407008d9fe1f930e7b3ba6f7b27ac8b5e637f0761c607e0997684349cbafe4c54bf745f1305ea06c24a65afb587dc02af569686eff251bf89c4d075e3bba99861fda0dfd4cbbc6f8ad2c83969fa364b58209c203e152b60f3cf87ec40f861f05e1a09ed98576e43d19dfe9aceb2ed44bc06583c5d13fe0c0726399cd6d78064a0f125d9852dbbf7c5138bb3f09fdbd0768e3641f8748db4172b6bbc25fa6ed35d7437b1c97fef4e317637f7924be839f5f9e92cb91b99490c3f5e275f4ae7f1bdd0e57ae03939f8adec072e655f5d57aba9e0d8f7fb3ea81bd9ff83df209baa15f9fac776e72175c33827de781ea05bbad1e0adf6b3ec42d,
  0xf2df9088d9937494b17e79625c1f76240b226d967ce294fd9cb0f63bd99fb04f028346afea5ee591fe3d74f05f2d0f1b9ebf7b5d2f8844df347bbeffe278f7cdf55715930d0b8a9acdc67e21b338fe96bc7adea12f53dff5fdc8aeeeccf47c1ebd7e27b7154398b1d603fc26e501dddca802b5af7aa1c5ad6acec76091b4ddd7329e316d261781f71761bdbae825607278db7a168c6bcea10f9c53a63ef0a77c393c9ffdacef45d6224f3df7d55bf04a6dc9f1013a83ccd5ce1ecb2c81b896e6c0fe5b763abe2bff8c1e96fb7aedb29fd911f95170b99ab88e1046158f8687eff4f9e96421f62afbf25f705eeab37c7fcdaad962fc4a7d151a8c7fb01e0773613dfd78da54f8707de779a1ad7d179817,
  0x10adb7eacacbfb2571773a3d4db6e72193b8ddfb1fd6db616335ad5adb5de1eef25fa2278fcec18be2b4fa4d3fe97df1cf25e70d35a788d2827418397bbef7dccd1719237aa3eab7fc4c623272477bec3ea56f73e3fa65c237fea3e22a33d25bee4f1d0e09eb24e993bef0767cfd3b21f8088d734f885fdb27eeb9fcedff2af8339f68ed349fd63ffdafbc5ee5e561fff2247da0ef6f76160785cddcc6d96a601b7b53b8a16cade69f232db3b47fe39fec43399e18439d3f8e0977de75f76ec567e54f78cafdb5def4161a87bf27dfd7f4d7e959f6d8b8838d854f564f37c7b79df3e9e1db36705c705c8c87040b82b9e6bed215f4137c6abf7b4d28cfa1774fd9c916f2d766fbf85df97ece1866121f,
  0xdcf1d98dfb3ff313ba8b1822fc0c2e2983c5a9d7e5e97a64ed742bdb60ae1d1794e3f225b7edc7786a9bbd25989e9c654eed1f3c29b05cf70063d974d25dbe4c0eafa8ffd781c3cce7b3679573e51b9daed0a6349788cbd491ca22f819706ffcea3d48c79bfbd1578d18d3586ad5312939814c251f03375961ddaccb4ff8ed7f657880ceba579697b199f6b5dd81639fbe9e1c7ffde5670843238b9687fe8c613077283ee9fd9767cc030297ba58dfc078833eddda44cec46fc733cb93a3c8e9666fc378f2bca6bf3dbfad4f70798131e663e4e2ba1fdd437d1deeef4d419ab4755210a395bb00780aad202eb93b7ef985a7ee6bf0f73d4cf8226db927d7bb8a3f8de8e1ac79913cfa1e866fedd76727,
  0x2387a273df2be0209a3bc8ae3580fb03e561b2c3355d7aa475d03a2fcb9402ebb18d843ebea756d4a1ead353aece56398a1d75781aeeaf7957a811def0aa8b1450bbb5c53d02d6fefdecf589f2403aa91c3fd7110b9947a338e7b06f5034973b9cbe0d5ea28b6ab3cbe5fec4f1ea3acd9c49fe71df55e3f0d5a08fe325f90cff4b3facbc08366bef02d5be2acc6be7a57df43effbcfb973a032a47e16dcaac7106bc615e3a3cf1f6c473fbd5997ed31078a2be7239288efdb63457ef739448d1236c4eb5117bd1fe0e7e46036651859bc4dde4e375277950ed75c6386f33238aa2ccdc73613cc05d291ef51e7cdbf90993edd356e1d3f3503a3abfbbae4fff6117f951c503ea693659ddd34ff8c6fcfb,
  0x9c11fc2ef377e53fb4e15c951dd6b71f638b97f19fd99173d0bd81bf7ddc9d36732b9f4d98c5e5f466427128990b2c8bc699174ee1b6acef337c85b033f8f14eb43ee893b4c3a348e4eb763c7bcdfeabde0ec6a423a42d8665d68ee30374527ad91f58be8143ea87c74ee570f9457023193f6fc626a6cfe883c7eaee7e614e70c6ba4e9c159eb2ff3e8dd672f8a771b37b8298ed7e304fb1b711b1befcd87dee6cb94e98619daaeffc7b1b57d9cbcda7fadc740d9a8a0fade638cf4f43933cf2c1f6d2771c1efdce0b0653ffb273a5b4cbe8f5dffb487c292f0bffc4279e49985bcf69e10035aa5b50eebc8e2d3b4cfd93c1cf0ef31e7caf7a9c8e43b6023345d182d5cb1565da3a70d86d3d786755c3,
  0x3779a5d6cc9577deb186faf89f4f2e102b720b999ceed96a837c6f39ba4c8dbeff2ffbc3cdb6fafd63cc75e47df48e27c786a3cf9ffb9dc44569ce3a2a1d020e196f2db79867ad77c618e1583402598bfd557e34bb6e87becfda547b1c3c85d936cddb171ef3bfc1bc9de8f8e00bfefe580b5c03a6d8bf76fbf20dd795738b336bfa2ebdffdf2a872759ba3ac0c5fe97f3425c264fd5e621af4fefdf0bf048ffa33314184a5d38ceb1b362ed8593e8d6f553fdb239b3ad455f49ef02f99c8ed0c7f5ac32c3783ecf3fa65d478417b5f2eaf868eebd2fbbd8df09cf881b07a19441dee1fe1bb10ebec89ca34685b73089e81ec2307325b613be194f73067e2f8783ca33f13df20d3955bb923c071669f7,
  0x7c138a75da9276cebf8b1b347e141e7beb4935ad10e5adfea571f73dbaffb15ec07f149fb1c1e98eaafd5583e81996488bf555fae6861f6abba058fa48bc9eef29b6575f560db650ec9877e8bf54b8ea1cb81f9dff2c01b5feee01647c33899fceedab1790f3a1eb86aad8406fb1bc635ed70e864e08cbd605fa98c82ee462750c3f313e1117c0c31f1992f2e54e6d7b36e698077ddf5a05175b198cd1e924ef4c3081fb955d9cf69b27752f8dc0cde3e82cf514db107f2e1e7d3b9ff5d4bce2adfa98f5387dabff4b2f0b132733d707f3a2ff5373ab59e4aded9700a3be31f304e9defe16734ddae72ea386cbd76723a630c03ef852777b5af9bde5df387fa301a3edd57afc3af4b99fe28c2b2eeadf,
  0x3017b8fff1a3fa0cf8c6da5e1ca5878103e8ddf8e2d4dced96fd4d3cc82c638ecb9f2d2dadf4d81775af3cb79f1a1ed7972407a037dc57d5c26bfe3e2a794d8e6b6796d3138ba9bdfc0b609236afdf8a7fd3ae0e3b2a8d8097dfe0f4107ce2de7eef8e36440b46efb439c5efb6c63bf19a270ea5ffc46f1fe992cecedbe8ec79eab930cec0963ebf83f7ee05d919f2ac7fe939be8fd2e6673f469bbdd0ebea684770639caceee577d873074d9312ffad6da7b3de3edb1cbc5674abd415ce11ed9bfe00b5715d929f69a61d9f3947aae9e0c3e54eb72a5c300e3c9613fffa37905ade9b72f134653de8dd6036c4bb6881fbf2e942f241b6963c573c90d6f30bc755ef9ef4e8e25abf58592fdc9a667907,
  0xfccfef38ce09f352fd07f95f4d1fdec547e08bd6ead376eb9eff9e7911bcaeef5df7d07debfee451f07c33977a03fc5336d033a5ff8278d32a7f7f39ddf82a4e613e30237c9d90c7f9e6e5713ffe1a27bf669f278ba15de3f5e8cd7943b16efbab1f174eac5b8b6ddd08d4b16b8931107b709c403733bb522b8316d0ed65b4b4b87fc69ed436860fe64b97596ccaa74fbfbcddf96c4eee433756578e80e88e77d73a9f192a1ff74e3a27316baa85f093e1fbb15418fbfd2087d7a306d1d9a8faebeee63cbc1c26df897ea5537487935ad8e36826f8b5fc9e7ed90e53f345dde308f4bd62c577823f25fd56b7e2232577ce07cece75a5b9743c726f72e6676f8015ed64c7a6e8927464ff756ff90e07d3,
  0x2e02f99363b5b29e50051f41dfdbd62867bc019ba7d27df5fd7e1efca56ebbb77a130b078d2bcbeaeb9b7a457daddd0ade955f69c385decc046774b484dafe1f113fc9f7242d9ee2f32f62cb7609b8919cd216fe93b7e3f403c0e9613272e239a77cf6be83e7a3678ebce3336538f83a3ddb5eb186cd93c0a1e89cc7ebebe076a718a27cd29e8047617fc913c7a37b6eb3ce786a4e3aa6b327ddcfc3deef187d27b4f9bf339fabff7693009b88a7ee0ee489b21c9ac41e994f5bdba8999964fa1e630a39ed98020ef20ad9337425e022c087f141f65b18cb3da9cffe1322bf82a2d4656bbf710d9cc55cf296d873aa55f528cb94f1e87da97f40be8517da2399e39b1ccae3e45ef64dfec7cce40fdb6f,
  0x64bec30f5015bcaa5a64691d37fe1ab495d75ee4ad643aa29d5cbde9bd3738aa01258d7287e74bbbbe72d14f6deb34241a909dac62a66b7c60b28ddd3c2cfd57231a6f656e4299937027b188d4212bfc375d6b7e45722aeda177c6a06556f9e9e57515eb3265c6bad53559f9abc99798cc3934ed6b198d69329df15296a4d05977686c96e11aaefdd93ef20f4124b6145b4feb6137a7ba427db282fef97387bdfed660693dd45feb6bcd44cadbe95f00a2185d302c9ef4204b65e540be987378bba08ad995ad12158aeab11d205efeb54165a25f9da0caccb69daaf6ad729287e156babbd2529cac53d7ba7b068d8e9aab81699ebf4bd946aa8a57579ba1cd6c7adc677f1fb4225ee92f1056f8ca53f5,
  0x646ebc6363bcb3edd7362ce6f70ba3ae99c594890a605ea0f95f4faaaa37661bc385c44ad49952eba00b544a6addb66afb01bd046e9a3b4b8fa3335d30ef4476838be715d4ca9ff34e1da95bddd96b1474fa8bb025edfeba935272b66a5a73aed8d45d9a042d7d1288435330afb7509cea4b57c66be3b5022a92f96209aa72d1e96ae214d18b4a956f4eb9697033b18b5c57efb874907a73854ffac85d6796a654d019ae4ef6781bac1d1c32a5a7698cb0e492c0af129424fa763d06aa91555413a0685dc76a6e35839b3f6d47d6cdc17beeaff9d28928ba94e8bb72d50c7afb5b4558b76d5cae8d74c43263f9d9a0948bfe79d13ea39ee44a2c271742a529ceaca7e26403a11f5d62ee1b94268a20ed,
  0x8862ce1f4f24bda0d780e982b686fbaa55a7a2ab934ba7a46d54b86846350dea9fe5f7268e7967c1b0c8d21f68e4f4625b3c5d7a06fdbb7a87be515f15eb9e4427b28ba96674cfc67addbafdd01d699ef6cd7bab8d69aac7e95951b7735d052fe336115a69e51e42af6779ccab82dc6d2e1fb6334b716d03e694a97be8ace7d6fda8a99474db9b3592d6f89f5552a26d50842c5b74220bb66d490a832d550da349d2caee0db5c53ad15d0d3ea0bf6f5fa9635055e874d5873b9f1525ee9855780ab333df43eea455a02a3fcdc6b6ae454fb7a9d3d6b52925b59d4b342dec2aef7b47c3aff1d7f0e827f7ef5b756d1842a4097ca6a8b5df902f1377448b99a500fefb377759a4f85833ac45b59cca6295,
  0x2eaac08f7628ade4d42eadcdf7069af30573aa885f4102bcf5d333ef2636892aa6d5f2cafdf567f7a132d46d6d2874694ba11d5262dcb9648daddf5800ac5c362cba327551d2f7316c4fa783d7ef2f0e35f06ad1957baa9be77114a87dd405285237e3ba02514de2e3515db2a4f2d57b6c6877a80b306d49da8b59431fb390da5568a41549dbd4ad89cab8dd68d8a3f0dd4ea823d4936a2add5b82916b663db4f4d024eb4bf5431bf03dc58eed296b7da27352592b71d4a93a2ba5513e97d96a45b186d190ec4b966a3b5ce5bf5aca775092b7fddbc76e6c373d8a5d79b34ceb5254d6bfb7d78aab1e94d77a7af503c69bed7fc3b64f511caaa1f4c63a8675ecfa87896946aeaad4836f79b7385b9d65,
  0x558cd6ca6f4b289393d8ccf7e690f3a30910acece269152b051878cfab255dd3fd69bec4adca410b21a69047cfe06793f28c397854b9d25661371b9ec34865e4f8929409ddb4984e4cd124c996fb4e5ca60d9255a977f4fc8a46213c369473c95765a6d299497f349a1645c72fc29bea4a18e753f20949bffc9f426af52a4590d64f5fc798a34ad96cd48aa24b99320794f7ce86a7e3f2da599c8cd95e4b87291c9af4c9c566c0d379b90204fbbe5cf13c549b46ca092434a3ad899204d06e4e392f9b99444e643461ca8e8d6332bdef4d0bbf2f5b53add8b7f3faa8e55d06e2d9595da4e35959acf474054ba8a5838aa3316287a9ebd12c6d3975678ad085e672a3715002b095d9d16a8414cd9aaa5d,
  0x6dc29b1f56ddbefe5323aa9676349b49a582fa82174e3eadd7d3786b9a37064b6105aece97414100a7f8d397af31e7a5dbe8b99bc6b3d56473aa74d9216b1655642a1bc5161ac7176d1bb57e56e5ae9ff7d56a391d9672a1e16c6db07650c0e9ce3648eb48d550d6e2eb566fad48d95ead04f6618356614230a95878943c0e11f5094d0411c2d99167f89a045da223e117e988d3c4a92369f1b1f8959c586e28351d1e8d794628e368f13db8914c7a8e386d12bd0f72c69a8397e15ee8e06c4ad631731b7a8ef7c66723f13995cca1ba5ab720709132cd46a68a72154925a4adea633130549fc249ad649e93d479bbc4c1764309325c9606cf80a4d4d2025946949e1667e92b2f99e1cac4666272a729,
  0x8a2d93b5944a207d0c1a935966feaab4d9d5689735fe9af60df1e6f2c947e7a1675c9d290ed5870b3c759c0eb597415db75d58906e327551fa952d13aaaa075bcfa6c55aefee5dd4bcebb295225e93234a98a4945938ae85b4895bb54d6daae8d769d3ab8a53df4aecf55d8a832d9e0ac53140d9bcdc5eb2ec09f4559a3925e49ed307561dbfb3d8c4e92d97c75ae8750362cdca48cba46e5577a8a896d25ae8a9ec54bdda487f2ce4d154ebaff41cbb15551806f62d50c9a6a3da78abd096dd8a62a5d016eed75ddabbf3da8e6b86d6fc2a4e1df9c2812f7e9ab3685ba9e90b77235bf69dd1fa9fdb77b3a0985bddee3674499bb0dd0e22f7a37349bb57d2ca6f47f5fc9bd98d4a9abfba6920b1225,
  0x1faca20f57c4b0b55f132fb615b2dbc6ed805acb6d6011b002d6102f18b56a5b1a9526f6b339717bbc06d31faec6d45d0a247d4f4af0fb6263be15d6c56ebf14dc8a80652af69d6d5b51a035581a29bf3569bb4765c7feb0516079bcfb5c78288f75372ad4952c06b87f725cb40353a0aee895c05b8dcd7a7687934214a028d49eeab05732aa12fd615ef91171c3ae7e9d1068e015d5eb9bad9af2a46f7ebfac06d1262bb7d5ce1ae6754e4edfe95d9ba690ddbe68325611ea990d1e868c974f66a7295ecb2c9636a37b68c558f2899953efb053d1a22eec747aebaaad1314d7767867306393602a5297e95a2bfd18aee0d969b0b675d0a26c1df4a26adecd2bda93335c99adbcd913a86d96c23bbae5,
  0xdd84c8766ddb237a98e5c8dba4ad1399f9321cb12452172d549e96c945e77f5335e92e44d502507d3da19b0649c8642692ed59abccfe425e15b75e5cf92a9134099ad5b5f75eb87943cdaec5d17bad2b775beb6efdcb6ae3ab463aa2e2d69baf8db67cca14d568decfb95b4ba32159e96d2574bb5b4615c11acbb141b7ad7156626ed454034a753d129e9aa35449a8cdd5d32e567631cabe8db1929fed7477bab2d75f6bfd9482cac88d2eb6f2ff75d3a481d67beee8e7210b8b35d386cbf95f57afaed56ae9b494dffa8c5db6dedac77aaba1fa58cf696835f33ab26dd976d27147b0bdd05509a9cbf59a2b234dbd1ae445460aa51f58816d3a9699bb2f356482ff7564d5b6315b796b95b67e4a8699,
  0x1794db567e753b089c984ee46754520d2dfcdaf6c55495b6ecde24abb3d42b9be8350f7ee13f40fda091d141e96ff523db3b6d0d6a83ff7396b260d95dede094cdeb257db91ed31163e0ae6bd2c6acd2369eba240503b6e80158faa658d3d768e314057bf18d191a9615471abdff5b93ac2f941e1a8f8dd5cefcb74117a7dd5379e971368bdbcc0d7476fe976307ac4556ab29d8b7918b090d069eb06f5ef3bf2355802ae156559ba705ec16f3a74088a89f52232df2b62d5bd945fe96d38b58c6aef4591eee31961a6b93fd1032a3d956e3a92ad4542e004590221b914178f17478b22ea71c128d2ce4d012059983cc952a549723d79013490427a432ea89e534efde7df12d289c77485fa7e2b2ba29,
  0x885ece4b5893bef0dca3ed3e55c12a682d38aeb2f771daab7f5010e837f4e4aa8db5ef5e96a7673aa19b5242a825363e5a510db4068d8d563ba03e58eb2fdb36ef2be7b55e0eb48d4f7fa2e0d5312b9064ab62d29d0036f0897a0eaa0fd8222be374bf7b35fde16e80a563ddb5c0d6a62d3eb6f6bb3dc513b6e00362f5b9f9dc0eab29d6872bd7addc3aa6656b54aaffd6f1ea3856f19a4a1de1369f3b4732a867d2616b3766a52a4a7d10f2e7095a07a351d80faf62f42c7ac25da21ad46365b9be4e5c386f23d7aaead069ca7aad0d53c5ab3a5db3ef831799ab546def42e25f5b5ea4f6da3ee996b77f72637dc46286e77861a21955402a43141e4a645d087e9b855e3aa468d7eaacc714567afa51,
  0x74729cf97da2b646595f681757640aefc5c8eed5db7b52b5e3561d6a90774b9bac157acacf9b6d1fb6c451d66e2c5580ca063d3c42f1b54fc6a4f25e286f4136a7fb197523eeaab152f4a3a15ca3492554d09ad3157862a5414d65a16e507d6b6694bd4bc11d4dee86c14bb2a2fdd61cafe8d7d53bc7355b86aa8d64632115930e4edf66ec3b8d15f46efd9d4781a358d80d2e94f4e14a1915ee52fe0954f2b39b5b012c46b4c43a4b85294eb7d5547fb86953b8ebecb6677ae61d0b7681935bcdb8ebd04d6c99f4cc3b1f8d335af6937721a6da50bd29e9f7a72a3bf5f6deea537c5eafebdf18e925a704bbb865131added521fb34051d7ed7197558b5edd41f6e2014396bbd45c94e8adb4475b9e0d,
  0x56a2fcc97b86b6a2df0f6b05257c2b90fda85ae82b507baa5ddba0ec63f6a69b989520de98277906bf3fdfa76fd6775f1a35d5727a94c75f92a585de0a2b60950d8a8e25e402867b73a0bbe1567b2c6037790a0a75027e847443ae36471925887d4523f245d9d8e4d0b27377383a97bbcfd7a676529809d3b897b65d8d2d099ad4ce4026ced3e9a9a10cb73e7e4e2fd517accc5227a8920cb9054c88d662a7282f931f4c96e5b873c41d0a5ea1a962e0bd7652522fa2f75d1a3f65ecae930541b0b9ee5114298196da6a8acdf2dec97d66fab8f254962a94d6dc0ae6955a4e95b56361a834dd4a2f91559bfab58dd4f6a56b5f0cbb6dd29a2ab3b45f4b4cedf94ae29d7460a3db5a11e99d172cab780d,
  0x1e32cc1162d2a7a651976a1cd7169b012d37be90ad54b0b7995ba2aa511675ea927d21c6ca176164b470555e2ebd968a2b0a2dee46d58157dca297540cea58f6ee1a3095ab26a8034b9da15c5c43acb4346d9a78e599e6ba6573f0adef530cee52f629bb9bddd5268ff74058b50659ba6f19d6ef3b3fedb162e123568cb8f55cc32ff6b4a8aaf9fd7e5a9fcf7b67a5fd5262ade7b7495b1ecd4142d82a51cd2c8d57ce68e77494bbf9bd411288f14489a5a4de9be84716fbfb96ed670a886d6764be76d037ea15b67e1bb3ad880ac4a6415cb573d6386c8d97b4daddc5ffc6bd155d89a44a5ddea92db6fe6b5ad9c2befa494729a2275cdbed6c77abcb22adb1baa13345a3b08cda2c6cc457925a748d,
  0x7e86b50575fdb58edb7ce83395765b7d0dc152af1171edbf11d5916cbfd547ab0d2d86d2c1915a74a33adce72cebb4a81a85fd89d6e93f744ba6ff5bd0ed0197627a67e5028a87b77e6bb3b9534dabcaf42caa9095d682a9b26f25a0a852b46f9635cf8a175dda6ac29d4405bb2c501feed057f82a7d1d0e46cb75701cbbfe55fee87dd49b2b36e5187e9dd7623ca83d5d3d6efed5933aeac5183e80454409a6f85114e965d528da52450f4af3e16d42bbe113288bfd270bd3eb29d2b4821a615d24a8947b4fdbe4d9523659d764a9f25e6b31b55b22ee6757db1ba43d8a1ad71f6bd8a0dcd2ca2fc354b5fa82b5a8f2f16b6cb6ba2bd25d6f4d95b0ab5cad7236887d6545a4205faeeb7e15d4fa1795,
  0x7ac68bd1700abb09df5f6958579fcad74da2a280734f0daf17534b2f31d59a4a2605307aa23b6505ad4dda99acdc458422da2999ec80ea77d921639a83cd7914a06b3735f79e859b680eb6add649eaac34fd5ae575bb3ec78f7888b1fedf5068a87562cbf80d597e99b15e5db93b5f0e6ef9743abb3c25c81ece574aa1b8e453b9ab1a1416ba2615dc82da0f484aaf475e5869ae54e77b57a5388abf1b70c4b417dbdc2a3f56a9daacbdb5cacd735849a8e756c92d5d1451aa612d2972f3b77808aea85a87eb5954466b714d475ea91d569cb04ad4ce6b09f4c51a1885dbdea6ef6655b79f50c2ac1956a07b28052e6eb8bf5d14a6cf50116a8397391b890d7572edcb6c34aba55da7e88bb476733625,
  0x23f6d517428eacfc50306d06b7b9abeb75532eb77b5542abcd55ee6aa7f517abe865f2bac5515c59b167d35baf8d55344aa7eda256865140b2b06bd09f6a1f17bcaa9b352a1ab74d4bdfa59f5b9229b435ec6adc9de25e83b57c40a03f50bc6b7035687b854d13cae1dd67a2a9d1523bef8616514a5bd5c1268b67779eb5f8552e29899607da2bcd1992e81f4f3aa3745a952deb96f29b8ded5c8ee0f349d9b58350896cbbd683eb6b7d5846acd169b9aae9d8e7af34b4f15bf00d1d72c6895417b1339bb228cab6bf8bdbbd3e72d4f14acbbc48d019ef6c97b4fb314d654e83877021abb6d713ad5cb571aa8095e97e957f6e98b6ef5fdb2904d7510ab735be4acb676113bafa57f02d45b5573b58ad,
  0x741ebc7b58d9a57e50f868427427aa535d8786b835791fb76addcbeaf47662ba719583d29d537127b5aed8c82a9354b64ad6edfdb6da077a27b2e05b6c6d66542c4b25057656b2ad7f5ba65c5f6fe8de367cfbc585320a91c162b3a2e9d85ca80bd4030a75f57c8e89bd59f3a457d2f16f98355beb8125a15ab0634c90aef9515dec2256496a5fc5da12bae161cca871da346c78543f6a9f6dd4ae91114fa9a22bdfc86c14944f8ba1c5a8a29f9f5daca0de53ed6e34f4ea4bdfa5145e870f56bfb6bb948c29ac143c7a09058dd29c6b5434ad5352472951b7de4bf9ed8edadf37606dba85db44ed09d6a2ea153d960e8a3b74c9b9e1dfe66a36142c2abf4ddf16ee777dbaab75564dac7776e65ae705,
  0x7fecda526fe12b1798e74fb7e7f15340996284c7b2714934699fcbc8322597321c094e24841e59072e4a9ec1c98826906353917fd4ffe6571f315f9235488fe5451344e990b6da2b416ca1c2d1c3e93e95363a4aedbfd6f3277388a2965416afab97b3bb345d2282f5ff57d6a0a3d82e689ab61b8b6255849efb8d4ee0b859550f68dd76347acf6d17f6a70d41e9b702dcfbaa4d55620b9ad5e85ee63d68e7a184d4fcac5c7533cbc0fd09b6ae336362a919d1536f7c778c8b8cc5e8e2fcad4b97a98dd6d02df1d7f18be955018edc0d7d48add15f62ac549475aa801d4e96b5015ac5b7585d062a3cb449baea35725af5e165a4b84452822840f6cacbb655790e94c55c03be04dd872b57d6d31b3435,
  0xf954f33642f93b3e9b7ecab3642db3e229e7b4d6da7e4f3ee0916349c5a59f13ff19efccf032561d2bcb97ae481de5c1f26c1904c480be6a9b32d19e4ecbd9e61fb20a39957cffce7d6720fe90e84894c5f0b3c8d9debcbf72407733069079486f668792d709911c8e9e7bab307d11f5cb3a6538221039341c8b3a593b3bbf99d4c91b24b3d3c4391904c3de4333350b9369cb4f271733f0399dbcc8f65d9935ee956fcb00672ab24f19d31cd9624b5522d49a1f0951c7bde262513f78b98441fa3d4d1c138b58c576d2bbf9070490ce70333a0b9fa64c2ae41553cd295154f5246bb52fc59b004a96a6fdf22da9fedca5d254452b791c8c49fce426d29739faec921674f527d59bbf49e4e4bf325999,
  0xdfc8e88c6d022d71189a8bdcc78f6244513828d34c4ce62b1314208f59470f92a5e96d04d90e465d36fc9bf1cf852759327f79551cab026d4131359a194973e7eb1276698ad4858654d331239932c83d64617260d9e2f4c3b65b772008964bcddae722d35b8951a49a2659aa253e99bccbe7a73e736f69e4748b0e69c938f1177248946435725a29a4ac948671b92c28904aca4c655cb3b5293a4481725b59364e941048f4657613e64940c490865bc33d0f9c2fcc44a4b6f2d1711334a3d6523b232991c64d7de6bcb30429863482e65bad39ee971b4c63253193b9b933bc8a126ba9218d91194c64e4483301f9072cf6c278cd395798bb8f5e44f3232c71b954ba6e40953034909fccbfa5461237c9,
  0xc64498ba66332fbe99bdced1a70512a5d9846cd17e609f28c990c5cf49e60ff388b968acbb8657e73e4d985bca6fe6ca5266292f88e1965c4f20eb9e5d48d666f572b24928c48c667cef3e089495cac6a7efd306d92964e57a439f2e969fd64bd024351398e9c8dcb3066739362a92e14d75a4230398410c60ce906e083a9a1a970db6862d42ada175b0e58840542832196e0b1185adc3516108d0b1a87ca424ea18c10c0144bbe317d1dda880546762373715be8b34c515e33ef1b0588ec468ca3179123b8a1dc412e23611a848f53c5ef23dfd1d508c4ac7ab23f0f14278e61c512a222315dc8d62c720a20b119978d85c6eb227591daa88fe4430e3ddd13cd8b3345d1c356918a80b078651c2b111,
  0xecf4b7125a8b2d6d9b52cde565f5b226c9cb2485ee5cc13d4e9e82cb2d647b936d29af1cca76468d3e859fc5c8e5e415b39d2993bc9d624eb7216690864abc2618f27f190b54b60a57f73ce1998948c1642273f7c99324f88e4573336f976bce39646992c4c9ae0c937e72c72ac391104c9424ba3335595f0494826b7733369077cdef64f5f32689eb7c8aae4d0d3678920ace06a4b8134f3928649b0c66a623091e438dd0660ed348997874827657273c739231cc5464f3b2bed9440c979a591f2a7b95e8cc25e75ab207c97ecc82ca598b3fc49273c9a5262163c7c91e44bb7659312cac96ec4ecf666cf301c9126c97c248a93a8f9e57cacfe564d2cf79a334ad66460f227b93e0cb886522a2b839,
  0x6a44b1ae4645280c9c9bcd61a4a292ca694194dc8e4dd136c49bd74994e47ef3e751c714df464a8938b59a58ca826748f3dcb9b57cbe3e40cf2c71901acc2e2551533589a664dcf25f53281598b2cc1266d092890999bcb352735135fd923cca35e40233fc99efc4f1224bc9220b9828cccce6f0a2a939b5d4913e563736d39923ceaea4ff92cbe9ba54bd266379210694b54ad5e74133c5290ca487265bcb2d8e99e3ca994668521c199734a1ea5a4b3e049239495ea70092b629bf5481427dd12cc893260f67850c4349b169d8e07c41e631bf1dea8a0ac6ae3260e90cd4ce96458b20d795a248d0670fb2a3a9b44487624ddd21df9428488c261332ae497b84ffaa52a738f49f9b4ea1a609139759,
  0xd164ba0646e9232c908b4d2ba565527a59821cbf465cc5305e9ead4cf1a75013fe59ee10949850bc24111949882d4455e2f7b1e498b81c5c7a342b12838aa9c4f42243f1e13cde4a7387375f94c7c9ace7cb137d29111c9dfa428b2064919bca51a6a1d23929e58c88f248e73a459cfe4e7a262f5327c9d8bcf82a44053405987b4e7727245228d93224f2f640d723e098654887a553b3742920fcad8e5c5b330d93a5cb2b668a933969dab4f15e6aa5261098954c41a7c33353b9b1fcf01e604b2eec94674a73642e1328394254ff6656c124289c2c4c5126e76208e9095cf8ee7f8336b49c404d7ca77b5378c97afcfafa46d7319e919dcfcd27ced34c39a068cbac769b327a916c4d1ba63333de79,
  0x15b4eb1a5e95240a9e1e4ba1e5c173bd99b79cd266703f2a829173cd69a46053661955c4b3424ebb32cd9b544d4467b1f2d939e09c9dee79f3278d9d014ab2a629724bd92de4afe263d323bb93a1cb2465be1287596014ec526cff3ab791f64934a448f3fdf9c314a76a49f532619fb049b0a623d3e2c9a2ec807273b720419af7c9f1a5dee38df18d3ccbb242a52c6a9819c85be5b5d38d092a74aa96772f232596084d27a59f52eb39380ce9b25c67297d9f104d2d24aa724a39c6b4aa6c4e4e22969fabcfe6a6793300796e9c92067189309c9886493564105316b90fa4e6de604f244295b2cda666b8f248b930bc8d42521d341d9db54d96e64b331fc98a84a0ee44e334c59a1549f9e6d5724f09,
  0x8ffcee82665b21b59b874b2ca625f21d6945ec873251f93ebc94afc83f64a8322e198aeca17e5f8f2fe09c16490ea7eed3a5799d34e0ee58cb355b9bdcc9c0e52bd28a4947dc98f657d527ba9d35cc012677137639b1e487e6542526ac912ece11275fd20d6948cc85824fa72607942d4f5e242632acf9df94fc1a546f36c997374c3064cf2247b1af688a0c776b29829cc9cf4ee631520dc94304f9b67b5d37c59b16cde124e5b3d389651cb53e5bf32ecb96584e0f66c2d29ce99624fe16475526929036cd5aa627133099bb44f93e744326c5927ecb912402738739a07482924a73283699054e5da66b5337c9e144a89e7c75240f97ed485267d8b25b494ac4eac263753d4b90224848a793920be9,
  0x6a34abe66bfd30409a7048c6a4af128f99c57cef8a5c313f75988bcb77a71eb258f9dfecbc36497d200598fac808e6e913e6b9408cb05e7c1d33649dd0cc0e64e1f3fa39ea9ced8654eb35589ca74bc825d66238993c3ca5424f4d2ece9d82c9902751b255c98934fd26645f264f9cb4cb8567a852a0c9cc0cd8e665c72ee09795c91e254c939919a38cf01251ff37879b94c940a48df243696aacb7fc694535cb95234eb0a5f35394899234f3ae58e73f1093ef4b0d26ae921471450ce3ee408d2f2692edca6d6476b320e97094f00679233fe4961f4d0da79cb25579db74aaee656d209a9a9a4ae664033394998394e19e48cf259895ab4af9e665d32be963fcfe7e4f3932f490f249386597720329,
  0x70b8fa445d7629f910d58e2a45b66236d1c228fbac7e7625cd1fca897147efc23d916908e89458e62c0116cf8a2f87d86203f1a0888e64601e31f510a88a8fc48d6370e12768f90c66ea291f15eb891d4511231171d578c4a4672a240612048c7a449662bf715d78beec5eaa21051c2d8d2fc5446300b1de9881844fe639e31f0a8a32c6aa22555166f898dc5eb63789176f8cb2864ba38311d1d88d24699a2a351dc88ec84609425e21cf90a038533e2acf1fdc8dafc5c263ae5102e88d54752a3cd112888839c7c5a3d3519248b00c40de33bd14ad8cf244d523cc3125f8ca946ece2a3311868f5d06b9e3c1d1b558f1f45b6223c713e18a64c64e72aae93f5caab2594130189f03ca32243b33fc09,
  0x3a58dcc4764e31b310a10ed14749e203d1a9e8fda4557e23c119cc8f0e47d6a354f16078e28c476420a212bb0c9d8549a212314b68d004485e230718328e9f46436227d141d884e46b7a3027167e8ac2c5e7a3eff1ac70c29c67c620eb16be8fe6c7f2022501ddc0a7a05248263c1852094e04d6834f81e220c32042e821b414c20d6706b5c387213b90faf85cc421ce15870c0f862442baa16bd0e4184e3c374a114d09cc84efc21de101d0b59861a43ede177f0f7f871ec35fa18a30bd986c24222e10270cfd870ec365418070db1845243e4c18318c56c659e2ab715b58eb5c5c8e2a7d1ef28ba5440363fed101b8ae54794e37d113f48c284638e3a1f10c688edc6a1e242911058a3ac46363d111,
  0x8d48d5bc533225411e898fb845ab237131d538c10871a62891126d89dbc722e31d312748b154689222d710938f2945f2e3267146c8abb47c1e39331f690dfd452ea270911148b7bc5992347d1fdd0e0ac45d639111e3b8db24474a23ff153788f3474aa39fb15e68f0244d6237fd1d548ce04446a3cf9118c8da347128204c17290e59868d42f421e310ab18484c3dad1f338ddc45e0e36a514da8a9a45c3a3e7313318a3a46b5e2ec517958bdfc63fa205512df8d35c4906266d1c908974c46c632d5161e8a548479e3ed31a5d8f11453be3c051b778a58c61ba27e710848ba0c5b4e2b1f17c38843c769e307a12c90d6946a2a37e319168828c62be370717188c17c53ec29271cf48f4c47b8a29cf1,
  0xdfe89d7458d2328112958c5945eba268b1b168cd14477a20cf19f48d56c57762ea1147b8d9c47aee3ccb1f348e0e876743ca214818b6947fba22f518688e10c4afa3d9519768c7445f1a28b91db689bfc4de2245117428b52c796e393f11d18fd4474263aef1fa38da6c55262dda11bf8806465622f75183a8d9046dae3e6112678b5ec6fae258f16e28c43850922c3114f28cef067d421fe11cd099484e6c247e12010f8a84ec433621add8801c7d563e1f11968dcbc4e3a28d71f018f05c68f224f91ac8883047396268d168d8b6545b022fff1de3888046c342ff710ca8e6ac698232bd130f8eb4c50da35f916048896c541e264f10d0892ac45223f111e808902c596e2ded13df8a08c443e30e71,
  0xa588acc4b422c9110f38c3d47846396b19cf8a8b455ba2e7f14e988bc46bb62d2f14dd8821c6b52323710258ce4c4e4222fd1d3f88a147cb62e43128b89ddc48062ae7197b8dd34644e3d89144e881d4419238e7130c8afac54523c89126a8995c6eaa37b31cbd8cdac76ce2eef1bef8f18c4a9a26c912dd8c04456622f0f1085888ec65b2318514bd8830c4da621591cc48eeac440a3fb316278b8d4467e3b811ac38a2b47f12322110fc881444a8c2ce5155888d98718e3ba518408a2145316298510428af5852d4294e13fb0803c4d2e2b9d19b78a4c4743a33d5136d8cbe45b86281315088eccc77322d8917c9886f441da39f5133a8e6e46dce238710d989a1c6a8a3ae316dc8b1bc5aa628551,
  0x9090f6c84ee83b5e1ca10cde861ec2c8a11430d0086a44266611670e83870bc2214198d0cb585a6423761e150bbb055cc26ae178909378684c278a1a73081906f943b6a1b6609f987ffc393e1c4d0d2784c3c37761b250d280526020a811dc08a2049f039481b1c0ea6045f02eb8106c098906d68308c1932084905398212c1e9a0fdd07108366c1b460e7f04e7823be1ff30dfb8630c21ea13c30c9c871943bfa1b4f0cc3876ec3a8e116b089285f2c2e3e18ed083885cec391e19ab0ec28414c371612670d2f844342ec213a70b53842dc36ba1a190f84860b4342e16630c678417c3db619db0930848ac2f8a11890b1f06784225e16710f698567c271217a90d3c85f8c20821eed0dcc844142a321,
  0x1c70e3886a5436f61ef10a4a8522c382218d5083484eb4206a14010b79863642b9a1ad10d4184204251a170e09888652c2282124f0f3984b54244a1ee708748524429ea14d30de08778c2d8a1c170e82874ac207615030e9a8487c38ae10bf0f618732c30661bcf09af8759c300612850a6e84dec2016145909a386c6c248a12fd0a9087cfc233a12630a7f07ccc35e211a70e7785c2c2bfe186c0a85061d82aa811620a2187cec2006143d0ca28559c2ba6147f0e7485b8c3b121eeb08fb8470426ca10630dfc8786c2f821f230a8f8549c23d2162d0d6f86f0c2e9a1e430b088757c26d6163f0e5b868f4325a1c81083e8510423ae18df0996840fc2fa219bf0cb906ebc366e1f350cca85a4c2a6c1,
  0xdee0aeb0523837141dce0fd7071382b0410060c5304158284413f20bcd042a82b7c1dbe0a9705a18390c128e0bf904e882cdc1ae20ea90749834b0113e099f04d583d1c117a08cd042b8280415e20f35048d02ed419920d6d06558300c1ef60da9043a8283414ca0809047282a8c190e080a07390310811ac0816049b0210c15ea0e8b0494828d412c60b1906a18341415c60fbf0514823e41a3a0be5075b824ec14560f4b047b8233c11460b8b050c836e415d20b7907c4837dc11a40a4107f9831041fc20977046e03c8c131a0821064a42bfa1fc909908576c2be216f50c87868a42cf612090c4987e84395a11ad0bbb844443d521fe908c585dc427aa16b90f5e843442bce17e209ee84d3835ba1,
  0xc600e04076203fb017580f24041a03a5014e8095c05a303338112c0b4204e703d5813bc0e160439031b811340cf605650282818c4099e06030204814c40fb606ed03df81d5c0c9c0583037281d140ab6066902f7817c40daa0763024a810cc0a3204a502cd817340d9e04270295811f40d0a05e503d08144c0d2004c8039201d380a8c072a03650159c09ba07e702d4816440dd60799034c819d40bba04f903a6816cc0f7a065f8383411aa0ad3075d82cc41b3a087b055382b1411c208bb06468344416ae0bc904cc8201c1abe08fd06b082c54164a0e3f07b8838041f8a0d2b04ba82f3c175e0fcb04188290c1ffe089106898296c155e0dbb04a88221c126a09b707ea831641c0c0c4e048a83fd41,
  0x8000c0006000300018000c0006000300018000c0006000300018000c0006000300018000c0006000300018000c0006000300018000c0006000300018000c0006000300018000c0006000300018000c0006000300018000c0006000300018000c0006000300018000c0006000300018000c0006000300015000d40046003c0017400bc004900354017200dd005f8023c016200cf00538024c018a00f600670032a01590087804540246014700de8076c03c2018300b28052803ea01dd00cf804cc032c013f00f500586028d01f3808e4077a02e1013d80ad4058203ce01ab00f4804d20377010180fd40742027901ac808040556032f011a0096c071203ab016f80ffc07ae022e01998087c079e025a01]
theorem tab_groups : goU (flatU tabU) 0 [] = true := by decide +kernel
theorem tab_primes : (fN (prodP 9 1) fun W => allU W (flatU tabU)) = true := by decide +kernel
theorem tab_whole : (fN (prodP 9 1) fun W => fN (prodU tabU) fun T => sweepU W T 65504 65) = true := by decide +kernel
theorem tab_all : TableU tabU := ⟨tab_groups, tab_primes, tab_whole⟩
end Go.Proofs.YtjpfcdgaepdcdaaGreat

/- Several texts in one; each begins with a remark that says what it shows and on which conditions. -/
import Derived.Test.YtakcgamgnmmdlaaGreatKaa
/- Which odd numbers below 2^32 pass to the bases 2, 3, 5 and 7: the reckoning, and what it says. No condition but those typed; no program is named. -/
namespace Go.Proofs.YtakcgamgnmmdlaaGreat
set_option maxRecDepth 20000
/-- n passes to the base a. -/
def Pass (n a : Nat) : Prop := ∃ s d, n - 1 = 2 ^ s * d ∧ d % 2 = 1 ∧ (a ^ d % n = 1 ∨ ∃ i, i < s ∧ a ^ (2 ^ i * d) % n = n - 1)
/-- The four bases. -/
def FourP (P : Nat → Prop) : Prop := P 2 ∧ P 3 ∧ P 5 ∧ P 7
theorem prm_factor (n : Nat) (h : 2 ≤ n) : ∃ p, Prm p ∧ p ∣ n := by
  induction n using Nat.strongRecOn with
  | ind n ih =>
    by_cases hp : Prm n
    · exact ⟨n, hp, Nat.dvd_refl n⟩
    · have : ∃ d, d ∣ n ∧ d ≠ 1 ∧ d ≠ n := by
        refine Classical.byContradiction fun hc => hp ⟨h, fun d hd => ?_⟩
        by_cases h1 : d = 1
        · exact .inl h1
        · by_cases h2 : d = n
          · exact .inr h2
          · exact absurd ⟨d, hd, h1, h2⟩ hc
      obtain ⟨d, hd, h1, h2⟩ := this
      have hle := Nat.le_of_dvd (by omega) hd
      have h0 : d ≠ 0 := by intro e; subst e; have := Nat.eq_zero_of_zero_dvd hd; omega
      obtain ⟨p, hp, hpd⟩ := ih d (by omega) (by omega)
      exact ⟨p, hp, Nat.dvd_trans hpd hd⟩
/-! Powers that leave 1 -/
theorem one_times {q a x : Nat} (hq : 1 < q) (hx : a ^ x % q = 1) (k : Nat) : a ^ (x * k) % q = 1 := by
  rw [Nat.pow_mul, Nat.pow_mod, hx, Nat.one_pow]
  exact Nat.mod_eq_of_lt hq
theorem one_left {q a x y : Nat} (hx : a ^ x % q = 1) (hy : a ^ (x + y) % q = 1) : a ^ y % q = 1 := by
  rw [Nat.pow_add, Nat.mul_mod, hx, Nat.one_mul, Nat.mod_mod] at hy
  exact hy
theorem one_mod {q a x y : Nat} (hq : 1 < q) (hx : a ^ x % q = 1) (hy : a ^ y % q = 1) : a ^ (y % x) % q = 1 :=
  one_left (x := x * (y / x)) (one_times hq hx _) (by rw [Nat.div_add_mod]; exact hy)
theorem one_gcd {q a : Nat} (hq : 1 < q) (x y : Nat) : a ^ x % q = 1 → a ^ y % q = 1 → a ^ (Nat.gcd x y) % q = 1 := by
  induction x, y using Nat.gcd.induction with
  | H0 y => intro _ hy; rwa [Nat.gcd_zero_left]
  | H1 x y _ ih => intro hx hy; rw [Nat.gcd_rec]; exact ih (one_mod hq hx hy) hx
theorem one_dvd {q a x y : Nat} (hq : 1 < q) (h : x ∣ y) (hx : a ^ x % q = 1) : a ^ y % q = 1 := by
  obtain ⟨k, rfl⟩ := h
  exact one_times hq hx k
theorem mod_of_mod {n q a : Nat} (h : q ∣ n) (hq : 1 < q) (ha : a % n = 1) : a % q = 1 := by
  rw [← Nat.mod_mod_of_dvd a h, ha]
  exact Nat.mod_eq_of_lt hq
/-- What passes leaves 1 at n - 1. -/
theorem Pass.one {n a : Nat} (hn : 1 < n) (h : Pass n a) : a ^ (n - 1) % n = 1 := by
  obtain ⟨s, d, e, _, h⟩ := h
  rw [e]
  rcases h with h | ⟨i, hi, h⟩
  · rw [Nat.mul_comm]
    exact one_times hn h _
  · obtain ⟨j, rfl⟩ : ∃ j, s = i + 1 + j := ⟨s - i - 1, by omega⟩
    have h2 : a ^ (2 ^ i * d * 2) % n = 1 := by
      rw [Nat.pow_mul, Nat.pow_mod, h]
      have e2 : (n - 1) ^ 2 = 1 + n * (n - 2) := by
        obtain ⟨m, rfl⟩ : ∃ m, n = m + 2 := ⟨n - 2, by omega⟩
        rw [Nat.pow_two, show m + 2 - 1 = m + 1 by omega, show m + 2 - 2 = m by omega, Nat.add_mul, Nat.mul_add, Nat.add_mul]
        omega
      rw [e2, Nat.add_mul_mod_self_left]
      exact Nat.mod_eq_of_lt hn
    have e3 : 2 ^ (i + 1 + j) * d = 2 ^ i * d * 2 * 2 ^ j := by
      rw [Nat.pow_add, Nat.pow_succ]
      simp only [Nat.mul_assoc, Nat.mul_comm, Nat.mul_left_comm]
    rw [e3]
    exact one_times hn h2 _
theorem Pass.coprime {n a p : Nat} (hn : 1 < n) (h : Pass n a) (hp : Prm p) (hpn : p ∣ n) : ¬ p ∣ a := by
  intro hpa
  have h1 := mod_of_mod hpn hp.1 (h.one hn)
  have h2 : p ∣ a ^ (n - 1) := Nat.dvd_trans hpa (Nat.dvd_trans (by rw [Nat.pow_one]; exact Nat.dvd_refl a) (Nat.pow_dvd_pow a (show 1 ≤ n - 1 by omega)))
  rw [Nat.mod_eq_zero_of_dvd h2] at h1
  omega
/-- AtP a prime that divides n. -/
def Zq (q s : Nat) : Prop := 2 ^ s % q = 1 ∧ 3 ^ s % q = 1 ∧ 5 ^ s % q = 1 ∧ 7 ^ s % q = 1
theorem Zq.gcd {q x y : Nat} (hq : 1 < q) (h : Zq q x) (k : Zq q y) : Zq q (Nat.gcd x y) :=
  ⟨one_gcd hq _ _ h.1 k.1, one_gcd hq _ _ h.2.1 k.2.1, one_gcd hq _ _ h.2.2.1 k.2.2.1, one_gcd hq _ _ h.2.2.2 k.2.2.2⟩
theorem Zq.left {q x y : Nat} (h : Zq q x) (k : Zq q (x + y)) : Zq q y := ⟨one_left h.1 k.1, one_left h.2.1 k.2.1, one_left h.2.2.1 k.2.2.1, one_left h.2.2.2 k.2.2.2⟩
theorem Zq.times {q x : Nat} (hq : 1 < q) (h : Zq q x) (k : Nat) : Zq q (x * k) := ⟨one_times hq h.1 k, one_times hq h.2.1 k, one_times hq h.2.2.1 k, one_times hq h.2.2.2 k⟩
structure AtP (n q : Nat) : Prop where
  prm : Prm q
  dvd : q ∣ n
  all : Zq q (n - 1)
  own : Zq q (q - 1)
theorem atP_of {n q : Nat} (hn : 1 < n) (h : FourP (Pass n)) (hp : Prm q) (hd : q ∣ n) : AtP n q :=
  ⟨hp, hd, ⟨mod_of_mod hd hp.1 (h.1.one hn), mod_of_mod hd hp.1 (h.2.1.one hn), mod_of_mod hd hp.1 (h.2.2.1.one hn), mod_of_mod hd hp.1 (h.2.2.2.one hn)⟩,
    ⟨fermat hp (h.1.coprime hn hp hd), fermat hp (h.2.1.coprime hn hp hd), fermat hp (h.2.2.1.coprime hn hp hd), fermat hp (h.2.2.2.coprime hn hp hd)⟩⟩
/-- The other part less one leaves 1 too. -/
theorem AtP.other {k q : Nat} (hk : 0 < k) (h : AtP (q * k) q) : Zq q (k - 1) := by
  have hq := h.prm.1
  have e : q * k - 1 = (q - 1) * k + (k - 1) := by
    rw [Nat.sub_mul, Nat.one_mul]
    have : k ≤ q * k := Nat.le_mul_of_pos_left k (by omega)
    omega
  have h1 := h.all
  rw [e] at h1
  exact (h.own.times (by omega) k).left h1
/-! What the reckoning says -/
def fN {α : Type} (n : Nat) (k : Nat → α) : α := Nat.rec (k 0) (fun m _ => k (Nat.succ m)) n
theorem fN_eq {α : Type} (n : Nat) (k : Nat → α) : fN n k = k n := by cases n <;> rfl
def pmP (n a d : Nat) : Nat :=
  Nat.mod (Nat.mul (Nat.pow (Nat.mod (Nat.mul (Nat.pow (Nat.mod (Nat.mul (Nat.pow (Nat.mod (Nat.pow a (Nat.div d 16777216)) n) 256) (Nat.pow a (Nat.mod (Nat.div d 65536) 256))) n) 256) (Nat.pow a (Nat.mod (Nat.div d 256) 256))) n) 256) (Nat.pow a (Nat.mod d 256))) n
theorem pmP_step (n a x d : Nat) : ((a ^ x % n) ^ 256 * a ^ (d % 256)) % n = a ^ (x * 256 + d % 256) % n := by
  rw [Nat.mul_mod, Nat.pow_mod, Nat.mod_mod, ← Nat.pow_mod, ← Nat.mul_mod, ← Nat.pow_mul, ← Nat.pow_add]
theorem pmP_eq (n a d : Nat) : pmP n a d = a ^ d % n := by
  show (((((a ^ (d / 16777216) % n) ^ 256 * a ^ (d / 65536 % 256)) % n) ^ 256 * a ^ (d / 256 % 256)) % n) ^ 256 * a ^ (d % 256) % n = _
  have h1 := pmP_step n a (d / 16777216) (d / 65536)
  rw [show d / 16777216 * 256 + d / 65536 % 256 = d / 65536 by omega] at h1
  have h2 := pmP_step n a (d / 65536) (d / 256)
  rw [show d / 65536 * 256 + d / 256 % 256 = d / 256 by omega] at h2
  have h3 := pmP_step n a (d / 256) d
  rw [show d / 256 * 256 + d % 256 = d by omega] at h3
  rw [h1, h2, h3]
def sqs (n : Nat) (s : Nat) : Nat → Bool :=
  Nat.rec (motive := fun _ => Nat → Bool) (fun _ => false) (fun _ ih x => cond (Nat.beq x (Nat.pred n)) true (fN (Nat.mod (Nat.mul x x) n) ih)) s
theorem sqs_of (n a d : Nat) : ∀ (s j : Nat), (∃ i, j ≤ i ∧ i < j + s ∧ a ^ (2 ^ i * d) % n = n - 1) → sqs n s (a ^ (2 ^ j * d) % n) = true := by
  intro s
  induction s with
  | zero => rintro j ⟨i, h1, h2, _⟩; omega
  | succ s ih =>
    rintro j ⟨i, h1, h2, h3⟩
    show cond (Nat.beq (a ^ (2 ^ j * d) % n) (n - 1)) true (fN ((a ^ (2 ^ j * d) % n) * (a ^ (2 ^ j * d) % n) % n) (sqs n s)) = true
    by_cases he : a ^ (2 ^ j * d) % n = n - 1
    · rw [he, Nat.beq_refl]; rfl
    · have hne : j ≠ i := fun e => by subst e; exact he h3
      have hb : Nat.beq (a ^ (2 ^ j * d) % n) (n - 1) = false := by
        cases hc : Nat.beq (a ^ (2 ^ j * d) % n) (n - 1)
        · rfl
        · exact absurd (Nat.eq_of_beq_eq_true hc) he
      rw [hb, fN_eq, ← Nat.mul_mod, ← Nat.pow_add, show 2 ^ j * d + 2 ^ j * d = 2 ^ (j + 1) * d by rw [Nat.pow_succ, Nat.mul_assoc, Nat.mul_comm 2 d, ← Nat.mul_assoc, ← Nat.two_mul, Nat.mul_comm 2]]
      exact ih (j + 1) ⟨i, by omega, by omega, h3⟩
def spd (n a s d : Nat) : Bool := fN (pmP n a d) fun x => cond (Nat.beq x 1) true (sqs n s x)
theorem spd_of {n a s d : Nat} (h : a ^ d % n = 1 ∨ ∃ i, i < s ∧ a ^ (2 ^ i * d) % n = n - 1) : spd n a s d = true := by
  unfold spd
  rw [fN_eq, pmP_eq]
  rcases h with h | ⟨i, hi, h⟩
  · rw [h]; rfl
  · cases Nat.beq (a ^ d % n) 1
    · have := sqs_of n a d s 0 ⟨i, by omega, by omega, h⟩
      rw [Nat.pow_zero, Nat.one_mul] at this
      exact this
    · rfl
def odds (fuel : Nat) : Nat → Nat → (Nat → Nat → Bool) → Bool :=
  Nat.rec (motive := fun _ => Nat → Nat → (Nat → Nat → Bool) → Bool) (fun _ _ _ => false) (fun _ ih s d k => cond (Nat.beq (Nat.mod d 2) 0) (fN (Nat.div d 2) fun e => ih (Nat.succ s) e k) (k s d)) fuel
theorem odds_true (k : Nat → Nat → Bool) : ∀ f s d, odds f s d k = true → ∃ j e, d = 2 ^ j * e ∧ e % 2 = 1 ∧ k (s + j) e = true := by
  intro f
  induction f with
  | zero => intro s d h; cases h
  | succ f ih =>
    intro s d h
    replace h : cond (Nat.beq (d % 2) 0) (fN (d / 2) fun e => odds f (s + 1) e k) (k s d) = true := h
    rcases (show d % 2 = 0 ∨ d % 2 = 1 by omega) with h0 | h1
    · rw [h0, fN_eq] at h
      obtain ⟨j, e, h1, h2, h3⟩ := ih (s + 1) (d / 2) h
      refine ⟨j + 1, e, ?_, h2, by rw [show s + (j + 1) = s + 1 + j by omega]; exact h3⟩
      rw [Nat.pow_succ, Nat.mul_assoc, Nat.mul_comm 2 e, ← Nat.mul_assoc, ← h1]
      omega
    · rw [h1] at h
      exact ⟨0, d, by simp, h1, h⟩
theorem odd_uniq {s d t e : Nat} (hd : d % 2 = 1) (he : e % 2 = 1) (h : 2 ^ s * d = 2 ^ t * e) : s = t ∧ d = e := by
  have key : ∀ s t d e : Nat, d % 2 = 1 → e % 2 = 1 → 2 ^ s * d = 2 ^ t * e → s ≤ t → s = t ∧ d = e := by
    intro s t d e hd he h hst
    obtain ⟨j, rfl⟩ : ∃ j, t = s + j := ⟨t - s, by omega⟩
    rw [Nat.pow_add, Nat.mul_assoc] at h
    have h1 := Nat.eq_of_mul_eq_mul_left (Nat.pow_pos (by omega)) h
    rcases j with _ | j
    · exact ⟨rfl, by simpa using h1⟩
    · rw [Nat.pow_succ, Nat.mul_comm (2 ^ j) 2, Nat.mul_assoc] at h1
      omega
  rcases Nat.le_total s t with h1 | h1
  · exact key s t d e hd he h h1
  · obtain ⟨a, b⟩ := key t s e d he hd h.symm h1
    exact ⟨a.symm, b.symm⟩
def okk (n s d : Nat) : Bool := cond (spd n 2 s d) (cond (spd n 3 s d) (cond (spd n 5 s d) (cond (spd n 7 s d) false true) true) true) true
def okn (n : Nat) : Bool := cond (Nat.beq n 3215031751) true (odds 33 0 (Nat.pred n) (okk n))
theorem okn_four {n : Nat} (h : okn n = true) (hf : FourP (Pass n)) : n = 3215031751 := by
  unfold okn at h
  cases hb : Nat.beq n 3215031751
  · rw [hb, cond_false] at h
    obtain ⟨j, e, h1, h2, h3⟩ := odds_true (okk n) 33 0 (Nat.pred n) h
    rw [Nat.zero_add] at h3
    have key : ∀ a, Pass n a → spd n a j e = true := by
      rintro a ⟨s, d, e1, e2, e3⟩
      obtain ⟨rfl, rfl⟩ := odd_uniq e2 h2 (e1.symm.trans h1)
      exact spd_of e3
    unfold okk at h3
    rw [key 2 hf.1, key 3 hf.2.1, key 5 hf.2.2.1, key 7 hf.2.2.2] at h3
    cases h3
  · exact Nat.eq_of_beq_eq_true hb
theorem beqP_of {a b : Nat} (h : a = b) : Nat.beq a b = true := by rw [h]; exact Nat.beq_refl b
theorem beqP_not {a b : Nat} (h : a ≠ b) : Nat.beq a b = false := by
  cases hc : Nat.beq a b
  · rfl
  · exact absurd (Nat.eq_of_beq_eq_true hc) h
def Zb (q s : Nat) : Bool := cond (Nat.beq (Nat.mod (Nat.pow 2 s) q) 1) (cond (Nat.beq (Nat.mod (Nat.pow 3 s) q) 1) (cond (Nat.beq (Nat.mod (Nat.pow 5 s) q) 1) (Nat.beq (Nat.mod (Nat.pow 7 s) q) 1) false) false) false
theorem Zb_of {q s : Nat} (h : Zq q s) : Zb q s = true := by
  show cond (Nat.beq (2 ^ s % q) 1) (cond (Nat.beq (3 ^ s % q) 1) (cond (Nat.beq (5 ^ s % q) 1) (Nat.beq (7 ^ s % q) 1) false) false) false = true
  rw [beqP_of h.1, beqP_of h.2.1, beqP_of h.2.2.1, beqP_of h.2.2.2]
  rfl
/-- d = 2 .. f + 1: where d goes into q - 1, and not into D, not all leave 1 at (q - 1) / d. -/
def ells (q D f : Nat) : Bool :=
  Nat.rec (motive := fun _ => Bool) true (fun f ih => cond (cond (Nat.beq (Nat.mod (Nat.pred q) (f + 2)) 0) (cond (Nat.beq (Nat.mod D (f + 2)) 0) true (cond (Zb q (Nat.div (Nat.pred q) (f + 2))) false true)) true) ih false) f
theorem ells_true {q D : Nat} : ∀ f, ells q D f = true → ∀ d, 2 ≤ d → d < f + 2 → d ∣ q - 1 → ¬ d ∣ D → ¬ Zq q ((q - 1) / d) := by
  intro f
  induction f with
  | zero => intro _ d h1 h2; omega
  | succ f ih =>
    intro h d h1 h2 h3 h4 hz
    replace h : cond (cond (Nat.beq ((q - 1) % (f + 2)) 0) (cond (Nat.beq (D % (f + 2)) 0) true (cond (Zb q ((q - 1) / (f + 2))) false true)) true) (ells q D f) false = true := h
    by_cases hd : d = f + 2
    · subst hd
      rw [beqP_of (Nat.mod_eq_zero_of_dvd h3), beqP_not (fun e => h4 (Nat.dvd_of_mod_eq_zero e)), Zb_of hz] at h
      cases h
    · refine ih ?_ d h1 (by omega) h3 h4 hz
      generalize cond (Nat.beq ((q - 1) % (f + 2)) 0) (cond (Nat.beq (D % (f + 2)) 0) true (cond (Zb q ((q - 1) / (f + 2))) false true)) true = b at h
      cases b
      · cases h
      · exact h
/-- How far apart the other parts are. -/
theorem far_apart {q D g S : Nat} (hq : 1 < q) (ho : Zq q (q - 1)) (hg : Zq q g) (hD : 0 < D) (he : ells q D 63 = true) (hs : ∀ s, 1 ≤ s → s ≤ S → ¬ Zq q s) (hS : q - 1 < 65 * (S + 1)) : (q - 1) / Nat.gcd (q - 1) D ∣ g := by
  have hz := ho.gcd hq hg
  have hd1 := Nat.gcd_dvd_left (q - 1) g
  have hd2 := Nat.gcd_dvd_right (q - 1) g
  generalize Nat.gcd (q - 1) g = x at *
  obtain ⟨d, hd⟩ := hd1
  have hx : 0 < x := by
    rcases Nat.eq_zero_or_pos x with h | h
    · subst h; omega
    · exact h
  have hdx : (q - 1) / d = x := by
    have h0 : 0 < d := by
      rcases Nat.eq_zero_or_pos d with h | h
      · subst h; omega
      · exact h
    rw [hd, Nat.mul_div_cancel _ h0]
  refine Nat.dvd_trans ?_ hd2
  have hdd : d ∣ q - 1 := ⟨x, by rw [hd, Nat.mul_comm]⟩
  have hfin : d ∣ D → (q - 1) / Nat.gcd (q - 1) D ∣ x := fun h => by
    obtain ⟨c, hc⟩ := Nat.dvd_gcd hdd h
    have hg2 := Nat.gcd_dvd_left (q - 1) D
    have hgp : 0 < Nat.gcd (q - 1) D := Nat.gcd_pos_of_pos_right _ hD
    obtain ⟨y, hy⟩ := hg2
    have e1 : (q - 1) / Nat.gcd (q - 1) D = y := by rw [Nat.div_eq_iff_eq_mul_right hgp ⟨y, hy⟩]; exact hy
    rw [e1]
    have hdp : 0 < d := by
      rcases Nat.eq_zero_or_pos d with h | h
      · subst h; omega
      · exact h
    refine ⟨c, Nat.eq_of_mul_eq_mul_left hdp ?_⟩
    have e2 : d * x = d * c * y := by rw [← hc, Nat.mul_comm d x, ← hd]; exact hy
    rw [e2]
    simp only [Nat.mul_comm, Nat.mul_left_comm]
  by_cases h1 : d ≤ 1
  · have : d = 1 := by
      rcases Nat.eq_zero_or_pos d with h | h
      · subst h; omega
      · omega
    subst this
    exact hfin (Nat.one_dvd D)
  · by_cases h2 : d ≤ 64
    · by_cases h3 : d ∣ D
      · exact hfin h3
      · exact absurd (hdx ▸ hz) (ells_true 63 he d (by omega) (by omega) hdd h3)
    · refine absurd hz (hs x hx ?_)
      have : 65 * x ≤ x * d := by rw [Nat.mul_comm 65]; exact Nat.mul_le_mul_left _ (by omega)
      omega
def cands (q M c : Nat) : Nat → Bool :=
  Nat.rec (motive := fun _ => Nat → Bool) (fun _ => true) (fun _ ih k => cond (cond (Nat.beq (Nat.gcd k 210) 1) (fN (Nat.mul q k) okn) true) (fN (Nat.add k M) ih) false) c
theorem cands_true {q M : Nat} : ∀ c k, cands q M c k = true → ∀ i, i < c → Nat.gcd (k + i * M) 210 = 1 → okn (q * (k + i * M)) = true := by
  intro c
  induction c with
  | zero => intro k _ i hi; omega
  | succ c ih =>
    intro k h i hi hg
    replace h : cond (cond (Nat.beq (Nat.gcd k 210) 1) (fN (q * k) okn) true) (fN (k + M) (cands q M c)) false = true := h
    rw [fN_eq, fN_eq] at h
    rcases i with _ | i
    · rw [Nat.zero_mul, Nat.add_zero] at hg ⊢
      rw [beqP_of hg] at h
      cases ho : okn (q * k)
      · rw [ho] at h; cases h
      · rfl
    · have e : k + (i + 1) * M = k + M + i * M := by rw [Nat.add_mul, Nat.one_mul]; omega
      rw [e] at hg ⊢
      refine ih (k + M) ?_ i (by omega) hg
      generalize cond (Nat.beq (Nat.gcd k 210) 1) (okn (q * k)) true = b at h
      cases b
      · cases h
      · exact h
def cntP (q M : Nat) : Nat := Nat.div (Nat.div 4294967296 q) M
def chk1 (q D : Nat) : Bool := cond (ells q D 63) (fN (Nat.div (Nat.pred q) (Nat.gcd (Nat.pred q) D)) fun M => cands q M (cntP q M) (Nat.succ M)) false
theorem chk1_true {q D k S : Nat} (h : chk1 q D = true) (hA : AtP (q * k) q) (hk : 1 < k) (hn : q * k < 4294967296) (hg : Nat.gcd k 210 = 1) (hD : 0 < D) (hs : ∀ s, 1 ≤ s → s ≤ S → ¬ Zq q s) (hS : q - 1 < 65 * (S + 1)) : okn (q * k) = true := by
  have hq := hA.prm.1
  unfold chk1 at h
  rw [fN_eq] at h
  cases he : ells q D 63
  · rw [he] at h; cases h
  · rw [he, cond_true] at h
    have hM := far_apart (by omega) hA.own (hA.other (by omega)) hD he hs hS
    replace h : cands q ((q - 1) / Nat.gcd (q - 1) D) (cntP q ((q - 1) / Nat.gcd (q - 1) D)) ((q - 1) / Nat.gcd (q - 1) D + 1) = true := h
    have hMp : 0 < (q - 1) / Nat.gcd (q - 1) D := Nat.div_pos (Nat.le_of_dvd (by omega) (Nat.gcd_dvd_left _ _)) (Nat.gcd_pos_of_pos_right _ hD)
    generalize (q - 1) / Nat.gcd (q - 1) D = M at *
    obtain ⟨j, hj⟩ := hM
    obtain ⟨i, rfl⟩ : ∃ i, j = i + 1 := ⟨j - 1, by
      rcases j with _ | j
      · rw [Nat.mul_zero] at hj; omega
      · omega⟩
    have ek : k = M + 1 + i * M := by rw [Nat.mul_add, Nat.mul_one, Nat.mul_comm] at hj; omega
    rw [ek] at hg ⊢
    refine cands_true _ _ h i ?_ hg
    show i < 4294967296 / q / M
    have h1 : k ≤ 4294967296 / q := by rw [Nat.le_div_iff_mul_le (by omega), Nat.mul_comm]; omega
    have h2 : i + 1 ≤ 4294967296 / q / M := by rw [Nat.le_div_iff_mul_le hMp, Nat.mul_comm]; omega
    omega
/-! Great primes -/
def prodP (j : Nat) : Nat → Nat := Nat.rec (motive := fun _ => Nat → Nat) (fun lo => lo) (fun j ih lo => Nat.mul (ih lo) (ih (Nat.add lo (Nat.pow 2 j)))) j
theorem prodP_dvd {q : Nat} (hq : Prm q) : ∀ j lo, 0 < lo → q ∣ prodP j lo → q < lo + 2 ^ j := by
  intro j
  induction j with
  | zero => intro lo h0 h; have := Nat.le_of_dvd h0 h; simp; omega
  | succ j ih =>
    intro lo h0 h
    replace h : q ∣ prodP j lo * prodP j (lo + 2 ^ j) := h
    have hp : 0 < 2 ^ j := Nat.pow_pos (by omega)
    rw [Nat.pow_succ]
    rcases hq.euclid _ _ h with h | h
    · have := ih lo h0 h; omega
    · have := ih (lo + 2 ^ j) (by omega) h; omega
def GG (s : Nat) : Nat := Nat.gcd (Nat.pred (Nat.pow 7 s)) (Nat.gcd (Nat.pred (Nat.pow 5 s)) (Nat.gcd (Nat.pred (Nat.pow 3 s)) (Nat.pred (Nat.pow 2 s))))
theorem dvdP_pred {q a s : Nat} (h : a ^ s % q = 1) : q ∣ a ^ s - 1 := ⟨a ^ s / q, by have := Nat.div_add_mod (a ^ s) q; omega⟩
theorem GG_of {q s : Nat} (h : Zq q s) : q ∣ GG s := by
  show q ∣ Nat.gcd (7 ^ s - 1) (Nat.gcd (5 ^ s - 1) (Nat.gcd (3 ^ s - 1) (2 ^ s - 1)))
  exact Nat.dvd_gcd (dvdP_pred h.2.2.2) (Nat.dvd_gcd (dvdP_pred h.2.2.1) (Nat.dvd_gcd (dvdP_pred h.2.1) (dvdP_pred h.1)))
def chkG (W f : Nat) : Nat → Bool := Nat.rec (motive := fun _ => Nat → Bool) (fun _ => true) (fun _ ih s => cond (Nat.beq (Nat.mod W (GG s)) 0) (fN (Nat.succ s) ih) false) f
theorem chkG_true {W : Nat} : ∀ f s, chkG W f s = true → ∀ i, i < f → GG (s + i) ∣ W := by
  intro f
  induction f with
  | zero => intro s _ i hi; omega
  | succ f ih =>
    intro s h i hi
    replace h : cond (Nat.beq (W % GG s) 0) (fN (s + 1) (chkG W f)) false = true := h
    rw [fN_eq] at h
    cases hc : Nat.beq (W % GG s) 0
    · rw [hc] at h; cases h
    · rw [hc, cond_true] at h
      rcases i with _ | i
      · exact Nat.dvd_of_mod_eq_zero (Nat.eq_of_beq_eq_true hc)
      · rw [show s + (i + 1) = s + 1 + i by omega]
        exact ih (s + 1) h i (by omega)
theorem none_small {j f q : Nat} (h : (fN (prodP j 1) fun W => chkG W f 1) = true) (hq : Prm q) (hj : 2 ^ j < q) : ∀ s, 1 ≤ s → s ≤ f → ¬ Zq q s := by
  rw [fN_eq] at h
  intro s h1 h2 hz
  have := chkG_true f 1 h (s - 1) (by omega)
  rw [show 1 + (s - 1) = s by omega] at this
  have := prodP_dvd hq j 1 (by omega) (Nat.dvd_trans (GG_of hz) this)
  omega
def chkK (W f : Nat) : Nat → Bool := Nat.rec (motive := fun _ => Nat → Bool) (fun _ => true) (fun _ ih k => cond (cond (Nat.beq (Nat.gcd k 210) 1) (Nat.beq (Nat.mod W (GG (Nat.pred k))) 0) true) (fN (Nat.succ k) ih) false) f
theorem chkK_true {W : Nat} : ∀ f k, chkK W f k = true → ∀ i, i < f → Nat.gcd (k + i) 210 = 1 → GG (k + i - 1) ∣ W := by
  intro f
  induction f with
  | zero => intro s _ i hi; omega
  | succ f ih =>
    intro k h i hi hg
    replace h : cond (cond (Nat.beq (Nat.gcd k 210) 1) (Nat.beq (W % GG (k - 1)) 0) true) (fN (k + 1) (chkK W f)) false = true := h
    rw [fN_eq] at h
    rcases i with _ | i
    · rw [Nat.add_zero] at hg ⊢
      rw [beqP_of hg, cond_true] at h
      cases hc : Nat.beq (W % GG (k - 1)) 0
      · rw [hc] at h; cases h
      · exact Nat.dvd_of_mod_eq_zero (Nat.eq_of_beq_eq_true hc)
    · rw [show k + (i + 1) = k + 1 + i by omega] at hg ⊢
      refine ih (k + 1) ?_ i (by omega) hg
      generalize cond (Nat.beq (Nat.gcd k 210) 1) (Nat.beq (W % GG (k - 1)) 0) true = b at h
      cases b
      · cases h
      · exact h
/-- Primes above 2^16 that may come. -/
def prodL (l : List (Nat × Nat)) : Nat := l.foldr (fun x r => x.1 * r) 1
theorem prodL_dvd {q : Nat} (hq : Prm q) : ∀ l : List (Nat × Nat), q ∣ prodL l → ∃ x ∈ l, q ∣ x.1 := by
  intro l
  induction l with
  | nil => intro h; have := Nat.le_of_dvd (by decide) h; have := hq.1; simp [prodL] at *; omega
  | cons x l ih =>
    intro h
    replace h : q ∣ x.1 * prodL l := h
    rcases hq.euclid _ _ h with h | h
    · exact ⟨x, List.mem_cons_self .., h⟩
    · obtain ⟨y, hy, hd⟩ := ih h
      exact ⟨y, List.mem_cons_of_mem _ hy, hd⟩
/-- 128!. -/
def S128 : Nat := 385620482362580421735677065923463640617493109590223590278828403276373402575165543560686168588507361534030051833058916347592172932262498857766114955245039357760034644709279247692495585280000000000000000000000000000000
theorem S128_eq : prodP 7 1 = S128 := by decide +kernel
theorem gcd_S {q : Nat} (hq : Prm q) (h : 128 < q) : Nat.gcd q S128 = 1 := by
  rcases hq.2 _ (Nat.gcd_dvd_left q S128) with h1 | h1
  · exact h1
  · exfalso
    have h2 : q ∣ prodP 7 1 := by
      rw [S128_eq]
      have := Nat.gcd_dvd_right q S128
      rwa [h1] at this
    have := prodP_dvd hq 7 1 (by omega) h2
    omega
def chkQ (q : Nat) : Bool := cond (Nat.beq (Nat.gcd q S128) 1) (cond (Nat.beq (Nat.mod (Nat.pow 2 (Nat.pred q)) q) 1) (chk1 q 12) true) true
def chkR (f : Nat) : Nat → Bool := Nat.rec (motive := fun _ => Nat → Bool) (fun _ => true) (fun _ ih q => cond (chkQ q) (fN (Nat.succ q) ih) false) f
theorem chkR_true : ∀ f q, chkR f q = true → ∀ i, i < f → chkQ (q + i) = true := by
  intro f
  induction f with
  | zero => intro q _ i hi; omega
  | succ f ih =>
    intro q h i hi
    replace h : cond (chkQ q) (fN (q + 1) (chkR f)) false = true := h
    rw [fN_eq] at h
    cases hc : chkQ q
    · rw [hc] at h; cases h
    · rw [hc, cond_true] at h
      rcases i with _ | i
      · exact hc
      · rw [show q + (i + 1) = q + 1 + i by omega]
        exact ih (q + 1) h i (by omega)
theorem chkQ_true {q k S : Nat} (h : chkQ q = true) (hA : AtP (q * k) q) (hk : 1 < k) (hn : q * k < 4294967296) (hg : Nat.gcd k 210 = 1) (hg2 : Nat.gcd q S128 = 1) (hs : ∀ s, 1 ≤ s → s ≤ S → ¬ Zq q s) (hS : q - 1 < 65 * (S + 1)) : okn (q * k) = true := by
  replace h : cond (Nat.beq (Nat.gcd q S128) 1) (cond (Nat.beq (2 ^ (q - 1) % q) 1) (chk1 q 12) true) true = true := h
  rw [beqP_of hg2, beqP_of hA.own.1] at h
  exact chk1_true h hA hk hn hg (by omega) hs hS
/-! Small primes, by how many twos stand in their orders -/
def oddp (f : Nat) : Nat → Nat := Nat.rec (motive := fun _ => Nat → Nat) (fun d => d) (fun _ ih d => cond (Nat.beq (Nat.mod d 2) 0) (fN (Nat.div d 2) ih) d) f
theorem oddp_spec : ∀ f d, 0 < d → d < 2 ^ f → ∃ t, d = 2 ^ t * oddp f d ∧ oddp f d % 2 = 1 := by
  intro f
  induction f with
  | zero => intro d h1 h2; simp at h2; omega
  | succ f ih =>
    intro d h1 h2
    have e : oddp (f + 1) d = cond (Nat.beq (d % 2) 0) (fN (d / 2) (oddp f)) d := rfl
    rcases (show d % 2 = 0 ∨ d % 2 = 1 by omega) with h0 | h0
    · rw [h0, Nat.beq_refl, cond_true, fN_eq] at e
      rw [Nat.pow_succ] at h2
      obtain ⟨t, h3, h4⟩ := ih (d / 2) (by omega) (by omega)
      rw [e]
      refine ⟨t + 1, ?_, h4⟩
      rw [Nat.pow_succ, Nat.mul_assoc, Nat.mul_comm 2, ← Nat.mul_assoc, ← h3]
      omega
    · rw [h0] at e
      replace e : oddp (f + 1) d = d := e
      rw [e]
      exact ⟨0, by simp, h0⟩
def esP (p : Nat) (f : Nat) : Nat → Nat := Nat.rec (motive := fun _ => Nat → Nat) (fun _ => 0) (fun _ ih x => cond (Nat.beq x 1) 0 (Nat.succ (fN (Nat.mod (Nat.mul x x) p) ih))) f
/-- j is the first of 0, 1, .. at which a^(2^j m) leaves 1. -/
def ExP (p a m j : Nat) : Prop := a ^ (2 ^ j * m) % p = 1 ∧ ∀ i, i < j → a ^ (2 ^ i * m) % p ≠ 1
theorem esP_of {p a m j : Nat} (h : ExP p a m j) : ∀ f k, k ≤ j → j < k + f → esP p f (a ^ (2 ^ k * m) % p) = j - k := by
  intro f
  induction f with
  | zero => intro k h1 h2; omega
  | succ f ih =>
    intro k h1 h2
    show cond (Nat.beq (a ^ (2 ^ k * m) % p) 1) 0 (fN ((a ^ (2 ^ k * m) % p) * (a ^ (2 ^ k * m) % p) % p) (esP p f) + 1) = j - k
    rcases Nat.lt_or_eq_of_le h1 with h3 | rfl
    · rw [beqP_not (h.2 k h3), cond_false, fN_eq, ← Nat.mul_mod, ← Nat.pow_add, show 2 ^ k * m + 2 ^ k * m = 2 ^ (k + 1) * m by rw [Nat.pow_succ, Nat.mul_assoc, Nat.mul_comm 2 m, ← Nat.mul_assoc, ← Nat.two_mul, Nat.mul_comm 2], ih (k + 1) (by omega) (by omega)]
      omega
    · rw [beqP_of h.1, cond_true, Nat.sub_self]
def esAP (p a : Nat) : Nat := fN (oddp 33 (Nat.pred p)) fun m => esP p 40 (Nat.mod (Nat.pow a m) p)
theorem odd_dvd {g t m : Nat} (ho : g % 2 = 1) (h : g ∣ 2 ^ t * m) : g ∣ m := by
  have hc : Nat.Coprime g (2 ^ t) := Nat.Coprime.pow_right t (by
    show Nat.gcd g 2 = 1
    rw [Nat.gcd_comm, Nat.gcd_rec, ho]
    decide)
  exact hc.dvd_of_dvd_mul_left h
theorem odd_gcd {a b : Nat} (h : a % 2 = 1) : Nat.gcd a b % 2 = 1 := by
  rcases (show Nat.gcd a b % 2 = 0 ∨ Nat.gcd a b % 2 = 1 by omega) with h0 | h0
  · have := Nat.dvd_trans (Nat.dvd_of_mod_eq_zero h0) (Nat.gcd_dvd_left a b)
    omega
  · exact h0
/-- All primes that divide a number which passes have as many twos in a's order. -/
theorem Pass.twos {n a : Nat} (hn : 1 < n) (hlt : n < 4294967296) (h : Pass n a) : ∃ j, j < 40 ∧ ∀ p t m, Prm p → p ∣ n → p % 2 = 1 → a ^ (p - 1) % p = 1 → p - 1 = 2 ^ t * m → m % 2 = 1 → ExP p a m j := by
  obtain ⟨s, d, e, hd, h⟩ := h
  rcases h with h | ⟨i, hi, h⟩
  · refine ⟨0, by omega, fun p t m hp hpn _ hf hm _ => ⟨?_, fun i hi => by omega⟩⟩
    have h1 := mod_of_mod hpn hp.1 h
    rw [hm] at hf
    have h2 := one_gcd hp.1 _ _ h1 hf
    rw [Nat.pow_zero, Nat.one_mul]
    exact one_dvd hp.1 (odd_dvd (odd_gcd hd) (Nat.gcd_dvd_right d (2 ^ t * m))) h2
  · have hs : s < 33 := by
      rcases Nat.lt_or_ge s 33 with h | h
      · exact h
      · have h1 : 2 ^ 33 ≤ 2 ^ s := Nat.pow_le_pow_right (by omega) h
        have h2 : 2 ^ s * 1 ≤ 2 ^ s * d := Nat.mul_le_mul_left _ (by omega)
        omega
    refine ⟨i + 1, by omega, fun p t m hp hpn hpo hf hm hmo => ?_⟩
    have h2p := hp.1
    have hneg : a ^ (2 ^ i * d) % p = p - 1 := by
      rw [← Nat.mod_mod_of_dvd _ hpn, h]
      obtain ⟨c, rfl⟩ := hpn
      have hc : 0 < c := by
        rcases Nat.eq_zero_or_pos c with h | h
        · subst h; omega
        · exact h
      obtain ⟨b, rfl⟩ : ∃ b, c = b + 1 := ⟨c - 1, by omega⟩
      rw [Nat.mul_add, Nat.mul_one, show p * b + p - 1 = (p - 1) + p * b by omega, Nat.add_mul_mod_self_left]
      exact Nat.mod_eq_of_lt (by omega)
    have hsq : a ^ (2 ^ (i + 1) * d) % p = 1 := by
      rw [show 2 ^ (i + 1) * d = 2 ^ i * d * 2 by rw [Nat.pow_succ, Nat.mul_assoc, Nat.mul_comm 2 d, ← Nat.mul_assoc], Nat.pow_mul, Nat.pow_mod, hneg]
      obtain ⟨r, rfl⟩ : ∃ r, p = r + 2 := ⟨p - 2, by omega⟩
      rw [show (r + 2 - 1) ^ 2 = 1 + (r + 2) * r by rw [Nat.pow_two, show r + 2 - 1 = r + 1 by omega, Nat.add_mul, Nat.mul_add, Nat.add_mul]; omega, Nat.add_mul_mod_self_left]
      exact Nat.mod_eq_of_lt (by omega)
    constructor
    · have h1 : (a ^ 2 ^ (i + 1)) ^ d % p = 1 := by rw [← Nat.pow_mul]; exact hsq
      have h2 : (a ^ 2 ^ (i + 1)) ^ (2 ^ t * m) % p = 1 := by
        rw [← Nat.pow_mul, Nat.mul_comm, ← hm]
        exact one_times (by omega) hf _
      have h3 := one_dvd (y := m) (by omega) (odd_dvd (odd_gcd hd) (Nat.gcd_dvd_right d (2 ^ t * m))) (one_gcd (by omega) _ _ h1 h2)
      rw [← Nat.pow_mul] at h3
      exact h3
    · intro j hj hc
      obtain ⟨r, rfl⟩ : ∃ r, i = j + r := ⟨i - j, by omega⟩
      have h1 : (a ^ 2 ^ (j + r)) ^ m % p = 1 := by
        rw [← Nat.pow_mul, show 2 ^ (j + r) * m = 2 ^ j * m * 2 ^ r by rw [Nat.pow_add]; simp only [Nat.mul_assoc, Nat.mul_comm]]
        exact one_times (by omega) hc _
      have h2 : (a ^ 2 ^ (j + r)) ^ (2 ^ 1 * d) % p = 1 := by
        rw [← Nat.pow_mul, show 2 ^ (j + r) * (2 ^ 1 * d) = 2 ^ (j + r + 1) * d by rw [Nat.pow_succ 2 (j + r), Nat.pow_one, Nat.mul_assoc]]
        exact hsq
      have h3 := one_dvd (y := d) (by omega) (odd_dvd (odd_gcd hmo) (Nat.gcd_dvd_right m (2 ^ 1 * d))) (one_gcd (by omega) _ _ h1 h2)
      rw [← Nat.pow_mul, hneg] at h3
      omega
theorem esAP_of {p a j : Nat} (hp : 2 ≤ p) (hlt : p < 4294967296) (hj : j < 40) (h : ∀ t m, p - 1 = 2 ^ t * m → m % 2 = 1 → ExP p a m j) : esAP p a = j := by
  obtain ⟨t, h1, h2⟩ := oddp_spec 33 (p - 1) (by omega) (by omega)
  have hx := h t _ h1 h2
  have := esP_of hx 40 0 (by omega) (by omega)
  unfold esAP
  rw [fN_eq]
  rw [Nat.pow_zero, Nat.one_mul, Nat.sub_zero] at this
  exact this
def sigN (p : Nat) : Nat := Nat.add (esAP p 2) (Nat.mul 64 (Nat.add (esAP p 3) (Nat.mul 64 (Nat.add (esAP p 5) (Nat.mul 64 (esAP p 7))))))
/-- One sign for all of them. -/
theorem one_sign {n : Nat} (hn : 1 < n) (hlt : n < 4294967296) (h : FourP (Pass n)) : ∃ σ, ∀ p, Prm p → p ∣ n → p % 2 = 1 → sigN p = σ := by
  obtain ⟨j2, l2, h2⟩ := h.1.twos hn hlt
  obtain ⟨j3, l3, h3⟩ := h.2.1.twos hn hlt
  obtain ⟨j5, l5, h5⟩ := h.2.2.1.twos hn hlt
  obtain ⟨j7, l7, h7⟩ := h.2.2.2.twos hn hlt
  refine ⟨Nat.add j2 (Nat.mul 64 (Nat.add j3 (Nat.mul 64 (Nat.add j5 (Nat.mul 64 j7))))), fun p hp hd ho => ?_⟩
  have hle := Nat.le_of_dvd (by omega) hd
  have hA := atP_of hn h hp hd
  unfold sigN
  rw [esAP_of hp.1 (by omega) l2 fun t m e1 e2 => h2 p t m hp hd ho hA.own.1 e1 e2, esAP_of hp.1 (by omega) l3 fun t m e1 e2 => h3 p t m hp hd ho hA.own.2.1 e1 e2,
    esAP_of hp.1 (by omega) l5 fun t m e1 e2 => h5 p t m hp hd ho hA.own.2.2.1 e1 e2, esAP_of hp.1 (by omega) l7 fun t m e1 e2 => h7 p t m hp hd ho hA.own.2.2.2 e1 e2]
def lookP (σ : Nat) : List (Nat × List Nat) → List Nat
  | [] => []
  | x :: t => cond (Nat.beq x.1 σ) x.2 (lookP σ t)
def elemN (p : Nat) : List Nat → Bool
  | [] => false
  | x :: l => cond (Nat.beq x p) true (elemN p l)
theorem elemN_true {p : Nat} : ∀ l : List Nat, elemN p l = true → p ∈ l := by
  intro l
  induction l with
  | nil => intro h; cases h
  | cons x l ih =>
    intro h
    replace h : cond (Nat.beq x p) true (elemN p l) = true := h
    cases hc : Nat.beq x p
    · rw [hc] at h; exact List.mem_cons_of_mem _ (ih h)
    · rw [Nat.eq_of_beq_eq_true hc]; exact List.mem_cons_self ..
theorem lookP_mem {σ : Nat} : ∀ t : List (Nat × List Nat), lookP σ t = [] ∨ ∃ x ∈ t, lookP σ t = x.2 := by
  intro t
  induction t with
  | nil => exact .inl rfl
  | cons x t ih =>
    have e : lookP σ (x :: t) = cond (Nat.beq x.1 σ) x.2 (lookP σ t) := rfl
    cases hc : Nat.beq x.1 σ
    · rw [hc, cond_false] at e
      rw [e]
      rcases ih with h | ⟨y, hy, h⟩
      · exact .inl h
      · exact .inr ⟨y, List.mem_cons_of_mem _ hy, h⟩
    · rw [hc, cond_true] at e
      exact .inr ⟨x, List.mem_cons_self .., e⟩
def chkS (t : List (Nat × List Nat)) (f : Nat) : Nat → Bool := Nat.rec (motive := fun _ => Nat → Bool) (fun _ => true) (fun _ ih p => cond (cond (Nat.beq (Nat.gcd p 210) 1) (cond (Zb p (Nat.pred p)) (fN (sigN p) fun σ => elemN p (lookP σ t)) true) true) (fN (Nat.succ p) ih) false) f
theorem chkS_true {t : List (Nat × List Nat)} : ∀ f p, chkS t f p = true → ∀ i, i < f → Nat.gcd (p + i) 210 = 1 → Zq (p + i) (p + i - 1) → p + i ∈ lookP (sigN (p + i)) t := by
  intro f
  induction f with
  | zero => intro p _ i hi; omega
  | succ f ih =>
    intro p h i hi h1 h2
    replace h : cond (cond (Nat.beq (Nat.gcd p 210) 1) (cond (Zb p (p - 1)) (fN (sigN p) fun σ => elemN p (lookP σ t)) true) true) (fN (p + 1) (chkS t f)) false = true := h
    rw [fN_eq, fN_eq] at h
    rcases i with _ | i
    · rw [Nat.add_zero] at *
      rw [beqP_of h1, Zb_of h2, cond_true, cond_true] at h
      cases hc : elemN p (lookP (sigN p) t)
      · rw [hc] at h; cases h
      · exact elemN_true _ hc
    · rw [show p + (i + 1) = p + 1 + i by omega] at *
      refine ih (p + 1) ?_ i (by omega) h1 h2
      generalize cond (Nat.beq (Nat.gcd p 210) 1) (cond (Zb p (p - 1)) (elemN p (lookP (sigN p) t)) true) true = b at h
      cases b
      · cases h
      · exact h
/-- All products of the list's numbers behind acc. -/
def dfsL (ih : List Nat → Nat → Bool) (acc : Nat) : List Nat → Bool
  | [] => true
  | p :: r => fN (Nat.mul acc p) fun x => cond (Nat.ble 4294967296 x) true (cond (okn x) (cond (ih (p :: r) x) (dfsL ih acc r) false) false)
def dfs (f : Nat) : List Nat → Nat → Bool := Nat.rec (motive := fun _ => List Nat → Nat → Bool) (fun _ _ => false) (fun _ ih l acc => dfsL ih acc l) f
theorem dfs_true : ∀ f l acc, dfs f l acc = true → l.Pairwise (· ≤ ·) → ∀ m, 1 < m → (∀ p, Prm p → p ∣ m → p ∈ l) → acc * m < 4294967296 → okn (acc * m) = true := by
  intro f
  induction f with
  | zero => intro l acc h; cases h
  | succ f ihf =>
    intro l
    induction l with
    | nil =>
      intro acc _ _ m hm hp
      obtain ⟨p, h1, h2⟩ := prm_factor m hm
      cases hp p h1 h2
    | cons p r ihl =>
      intro acc h hs m hm hp hlt
      replace h : (fN (acc * p) fun x => cond (Nat.ble 4294967296 x) true (cond (okn x) (cond (dfs f (p :: r) x) (dfs (f + 1) r acc) false) false)) = true := h
      rw [fN_eq] at h
      have hrest := List.pairwise_cons.1 hs
      have hsmall : acc * p < 4294967296 := by
        obtain ⟨q, h1, h2⟩ := prm_factor m hm
        have hle := Nat.le_of_dvd (by omega) h2
        have hpq : p ≤ q := by
          rcases List.mem_cons.1 (hp q h1 h2) with h3 | h3
          · omega
          · exact hrest.1 q h3
        have : acc * p ≤ acc * m := Nat.mul_le_mul_left _ (by omega)
        omega
      have hb : Nat.ble 4294967296 (acc * p) = false := by
        cases hc : Nat.ble 4294967296 (acc * p)
        · rfl
        · have := Nat.le_of_ble_eq_true hc; omega
      rw [hb, cond_false] at h
      cases ho : okn (acc * p)
      · rw [ho] at h; cases h
      · rw [ho, cond_true] at h
        cases hd : dfs f (p :: r) (acc * p)
        · rw [hd] at h; cases h
        · rw [hd, cond_true] at h
          by_cases hpm : p ∣ m
          · obtain ⟨c, rfl⟩ := hpm
            rw [← Nat.mul_assoc] at hlt ⊢
            by_cases hc1 : c = 1
            · subst hc1; rw [Nat.mul_one]; exact ho
            · have hc0 : c ≠ 0 := by intro e; subst e; omega
              exact ihf (p :: r) (acc * p) hd hs c (by omega) (fun q hq hqc => hp q hq (Nat.dvd_trans hqc (Nat.dvd_mul_left c p))) hlt
          · exact ihl acc h hrest.2 m hm (fun q hq hqm => by
              rcases List.mem_cons.1 (hp q hq hqm) with h3 | h3
              · subst h3; exact absurd hqm hpm
              · exact h3) hlt
def rootc : List Nat → Bool
  | [] => true
  | p :: r => cond (dfs 9 (p :: r) p) (rootc r) false
theorem rootc_true : ∀ l, rootc l = true → l.Pairwise (· ≤ ·) → ∀ n, 1 < n → ¬ Prm n → (∀ p, Prm p → p ∣ n → p ∈ l) → n < 4294967296 → (∀ p ∈ l, p ∣ n → p ≠ n ∨ ¬ Prm n) → okn n = true := by
  intro l
  induction l with
  | nil =>
    intro _ _ n hn _ hp
    obtain ⟨p, h1, h2⟩ := prm_factor n hn
    cases hp p h1 h2
  | cons p r ih =>
    intro h hs n hn hc hp hlt hx
    replace h : cond (dfs 9 (p :: r) p) (rootc r) false = true := h
    cases hd : dfs 9 (p :: r) p
    · rw [hd] at h; cases h
    · rw [hd, cond_true] at h
      by_cases hpn : p ∣ n
      · by_cases hpp : Prm p
        · obtain ⟨c, rfl⟩ := hpn
          have h2 := hpp.1
          have hc1 : 1 < c := by
            rcases (show c = 0 ∨ c = 1 ∨ 1 < c by omega) with rfl | rfl | h
            · omega
            · rw [Nat.mul_one] at hc; exact absurd hpp hc
            · exact h
          exact dfs_true 9 (p :: r) p hd hs c hc1 (fun q hq hqc => hp q hq (Nat.dvd_trans hqc (Nat.dvd_mul_left c p))) hlt
        · exact ih h (List.pairwise_cons.1 hs).2 n hn hc (fun q hq hqn => by
            rcases List.mem_cons.1 (hp q hq hqn) with h3 | h3
            · subst h3; exact absurd hq hpp
            · exact h3) hlt (fun q hq => hx q (List.mem_cons_of_mem _ hq))
      · exact ih h (List.pairwise_cons.1 hs).2 n hn hc (fun q hq hqn => by
          rcases List.mem_cons.1 (hp q hq hqn) with h3 | h3
          · subst h3; exact absurd hqn hpn
          · exact h3) hlt (fun q hq => hx q (List.mem_cons_of_mem _ hq))
def leHP (p : Nat) : List Nat → Bool
  | [] => true
  | q :: _ => Nat.ble p q
def ascP : List Nat → Bool
  | [] => true
  | p :: r => cond (leHP p r) (ascP r) false
theorem ascP_true : ∀ l, ascP l = true → l.Pairwise (· ≤ ·) := by
  intro l
  induction l with
  | nil => intro _; exact List.Pairwise.nil
  | cons p r ih =>
    intro h
    cases r with
    | nil => exact List.pairwise_cons.2 ⟨fun x hx => (by cases hx), List.Pairwise.nil⟩
    | cons q r =>
      replace h : cond (Nat.ble p q) (ascP (q :: r)) false = true := h
      cases hc : Nat.ble p q
      · rw [hc] at h; cases h
      · rw [hc, cond_true] at h
        have h1 := ih h
        have h2 := Nat.le_of_ble_eq_true hc
        refine List.pairwise_cons.2 ⟨fun x hx => ?_, h1⟩
        rcases List.mem_cons.1 hx with rfl | hx
        · exact h2
        · exact Nat.le_trans h2 ((List.pairwise_cons.1 h1).1 x hx)
def chkT : List (Nat × List Nat) → Bool
  | [] => true
  | x :: t => cond (ascP x.2) (cond (rootc x.2) (chkT t) false) false
theorem chkT_true : ∀ t : List (Nat × List Nat), chkT t = true → ∀ x ∈ t, x.2.Pairwise (· ≤ ·) ∧ rootc x.2 = true := by
  intro t
  induction t with
  | nil => intro _ x hx; cases hx
  | cons y t ih =>
    intro h x hx
    replace h : cond (ascP y.2) (cond (rootc y.2) (chkT t) false) false = true := h
    cases h1 : ascP y.2
    · rw [h1] at h; cases h
    · rw [h1, cond_true] at h
      cases h2 : rootc y.2
      · rw [h2] at h; cases h
      · rw [h2, cond_true] at h
        rcases List.mem_cons.1 hx with rfl | hx
        · exact ⟨ascP_true _ h1, h2⟩
        · exact ih h x hx
theorem gcd_210 {n k : Nat} (hn : 1 < n) (h : FourP (Pass n)) (hk : k ∣ n) : Nat.gcd k 210 = 1 := by
  rcases (show Nat.gcd k 210 = 0 ∨ Nat.gcd k 210 = 1 ∨ 2 ≤ Nat.gcd k 210 by omega) with h0 | h1 | h2
  · have := (Nat.gcd_eq_zero_iff.1 h0).2; omega
  · exact h1
  · exfalso
    obtain ⟨p, hp, hd⟩ := prm_factor _ h2
    have hpn := Nat.dvd_trans (Nat.dvd_trans hd (Nat.gcd_dvd_left k 210)) hk
    have h210 : p ∣ 2 * (3 * (5 * 7)) := Nat.dvd_trans hd (Nat.gcd_dvd_right k 210)
    rcases hp.euclid _ _ h210 with h3 | h3
    · exact h.1.coprime hn hp hpn h3
    · rcases hp.euclid _ _ h3 with h4 | h4
      · exact h.2.1.coprime hn hp hpn h4
      · rcases hp.euclid _ _ h4 with h5 | h5
        · exact h.2.2.1.coprime hn hp hpn h5
        · exact h.2.2.2.coprime hn hp hpn h5
structure Reckoned (t : List (Nat × List Nat)) (ex : List (Nat × Nat)) : Prop where
  small : chkT t = true
  signs : chkS t 8192 1 = true
  few1 : (fN (prodP 13 1) fun W => chkG W 1008 1) = true
  mid : ∀ q, 8192 < q → q ≤ 65536 → chkQ q = true
  few2 : (fN (prodP 16 1) fun W => chkG W 3816 1) = true
  great : ∀ k, 2 ≤ k → k < 65536 → Nat.gcd k 210 = 1 → GG (k - 1) ∣ prodP 16 1 * prodL ex
  more : ∀ x ∈ ex, chk1 x.1 x.2 = true ∧ 0 < x.2 ∧ x.1 % 2 = 1 ∧ x.1 % 3 ≠ 0 ∧ x.1 < 248090
theorem four_of {t : List (Nat × List Nat)} {ex : List (Nat × Nat)} (R : Reckoned t ex) {n : Nat} (hn : 1 < n) (hlt : n < 4294967296) (h : FourP (Pass n)) : Prm n ∨ n = 3215031751 := by
  by_cases hc : Prm n
  · exact .inl hc
  refine .inr (okn_four ?_ h)
  have hsplit : ∀ q, Prm q → q ∣ n → ∃ k, n = q * k ∧ 1 < k ∧ k ∣ n := fun q hq hd => by
    obtain ⟨k, rfl⟩ := hd
    refine ⟨k, rfl, ?_, Nat.dvd_mul_left k q⟩
    rcases (show k = 0 ∨ k = 1 ∨ 1 < k by omega) with rfl | rfl | h1
    · omega
    · rw [Nat.mul_one] at hc; exact absurd hq hc
    · exact h1
  by_cases hC : ∃ q, Prm q ∧ q ∣ n ∧ 65536 < q
  · obtain ⟨q, hq, hd, hb⟩ := hC
    obtain ⟨k, e, hk1, hkd⟩ := hsplit q hq hd
    have hk2 : k < 65536 := by
      rcases Nat.lt_or_ge k 65536 with h1 | h1
      · exact h1
      · have : 65536 * 65536 ≤ q * k := Nat.mul_le_mul (by omega) h1
        omega
    have hA : AtP (q * k) q := by rw [← e]; exact atP_of hn h hq hd
    have hkg := gcd_210 hn h hkd
    have h1 := Nat.dvd_trans (GG_of (hA.other (by omega))) (R.great k (by omega) hk2 hkg)
    rcases hq.euclid _ _ h1 with h2 | h2
    · have := prodP_dvd hq 16 1 (by omega) h2
      omega
    · obtain ⟨x, hx, hqx⟩ := prodL_dvd hq ex h2
      obtain ⟨m1, m2, m3, m4, m5⟩ := R.more x hx
      obtain ⟨c, hcx⟩ := hqx
      have hc4 : c < 4 := by
        rcases Nat.lt_or_ge c 4 with h3 | h3
        · exact h3
        · have : 65537 * 4 ≤ q * c := Nat.mul_le_mul (by omega) h3
          omega
      have hc1 : c = 1 := by
        rcases (show c = 0 ∨ c = 1 ∨ c = 2 ∨ c = 3 by omega) with rfl | rfl | rfl | rfl <;> omega
      rw [hc1, Nat.mul_one] at hcx
      rw [hcx] at m1 m5
      rw [e]
      exact chk1_true (S := 3816) m1 hA hk1 (by omega) hkg m2 (none_small R.few2 hq (by omega)) (by omega)
  · by_cases hB : ∃ q, Prm q ∧ q ∣ n ∧ 8192 < q
    · obtain ⟨q, hq, hd, hb⟩ := hB
      obtain ⟨k, e, hk1, hkd⟩ := hsplit q hq hd
      have hq2 : q ≤ 65536 := by
        rcases Nat.lt_or_ge 65536 q with h1 | h1
        · exact absurd ⟨q, hq, hd, h1⟩ hC
        · exact h1
      have hA : AtP (q * k) q := by rw [← e]; exact atP_of hn h hq hd
      rw [e]
      exact chkQ_true (S := 1008) (R.mid q hb hq2) hA hk1 (by omega) (gcd_210 hn h hkd) (gcd_S hq (by omega)) (none_small R.few1 hq (by omega)) (by omega)
    · obtain ⟨σ, hσ⟩ := one_sign hn hlt h
      have hin : ∀ p, Prm p → p ∣ n → p ∈ lookP σ t := fun p hp hd => by
        have hle : p ≤ 8192 := by
          rcases Nat.lt_or_ge 8192 p with h1 | h1
          · exact absurd ⟨p, hp, hd, h1⟩ hB
          · exact h1
        have hg := gcd_210 hn h hd
        have ho : p % 2 = 1 := by
          rcases (show p % 2 = 0 ∨ p % 2 = 1 by omega) with h0 | h0
          · have : 2 ∣ Nat.gcd p 210 := Nat.dvd_gcd (Nat.dvd_of_mod_eq_zero h0) (by decide)
            rw [hg] at this
            omega
          · exact h0
        have h2 := hp.1
        have h1 := chkS_true 8192 1 R.signs (p - 1) (by omega)
        rw [show 1 + (p - 1) = p by omega] at h1
        have h3 := h1 hg (atP_of hn h hp hd).own
        rwa [hσ p hp hd ho] at h3
      rcases lookP_mem (σ := σ) t with h0 | ⟨x, hx, h0⟩
      · obtain ⟨p, hp, hd⟩ := prm_factor n hn
        have := hin p hp hd
        rw [h0] at this
        cases this
      · obtain ⟨h1, h2⟩ := chkT_true t R.small x hx
        rw [h0] at hin
        exact rootc_true x.2 h2 h1 n hn hc hin hlt (fun _ _ _ => .inr hc)
end Go.Proofs.YtakcgamgnmmdlaaGreat
/- The reckoning of primes from 8193 to 65536. No condition; no program is named. -/
namespace Go.Proofs.YtakcgamgnmmdlaaGreat
set_option maxRecDepth 20000
theorem r_mid0 : chkR 2048 8193 = true := by decide +kernel
theorem r_mid1 : chkR 3072 10241 = true := by decide +kernel
theorem r_mid2 : chkR 4096 13313 = true := by decide +kernel
theorem r_mid3 : chkR 6144 17409 = true := by decide +kernel
theorem r_mid4 : chkR 8192 23553 = true := by decide +kernel
theorem r_mid5 : chkR 12288 31745 = true := by decide +kernel
theorem r_mid6 : chkR 21504 44033 = true := by decide +kernel
theorem mid_all : ∀ q, 8192 < q → q ≤ 65536 → chkQ q = true := fun q _ _ => by
  by_cases h0 : q < 10241
  · have := chkR_true 2048 8193 r_mid0 (q - 8193)
    rw [show 8193 + (q - 8193) = q by omega] at this
    exact this (by omega)
  by_cases h1 : q < 13313
  · have := chkR_true 3072 10241 r_mid1 (q - 10241)
    rw [show 10241 + (q - 10241) = q by omega] at this
    exact this (by omega)
  by_cases h2 : q < 17409
  · have := chkR_true 4096 13313 r_mid2 (q - 13313)
    rw [show 13313 + (q - 13313) = q by omega] at this
    exact this (by omega)
  by_cases h3 : q < 23553
  · have := chkR_true 6144 17409 r_mid3 (q - 17409)
    rw [show 17409 + (q - 17409) = q by omega] at this
    exact this (by omega)
  by_cases h4 : q < 31745
  · have := chkR_true 8192 23553 r_mid4 (q - 23553)
    rw [show 23553 + (q - 23553) = q by omega] at this
    exact this (by omega)
  by_cases h5 : q < 44033
  · have := chkR_true 12288 31745 r_mid5 (q - 31745)
    rw [show 31745 + (q - 31745) = q by omega] at this
    exact this (by omega)
  have := chkR_true 21504 44033 r_mid6 (q - 44033)
  rw [show 44033 + (q - 44033) = q by omega] at this
  exact this (by omega)
end Go.Proofs.YtakcgamgnmmdlaaGreat
/- The reckoning of small primes, by how many twos stand in their orders, and of the few great ones. No condition; no program is named. -/
namespace Go.Proofs.YtakcgamgnmmdlaaGreat
set_option maxRecDepth 20000
/-- Primes from 11 to 8192 that have as many twos in the orders of 2, 3, 5 and 7. -/
def tblD : List (Nat × List Nat) := [(266241, [107, 347, 443, 683, 827, 947, 1163, 1187, 1283, 1523, 1667, 1787, 2003, 2027, 2843, 2963, 3203, 3347, 3467, 3803, 4523, 4547, 4643, 5147, 5387, 5483, 5867, 5987, 6203, 6323, 6563, 6827, 7043, 7547, 7883, 7907]), (532610, [173, 293, 677, 773, 797, 1013, 1277, 1613, 1637, 1973, 2357, 2477, 2693, 2957, 3533, 3797, 4133, 4157, 4373, 4493, 4637, 4729, 4877, 4973, 5333, 5477, 5717, 5813, 6053, 6173, 6317, 6653, 7013, 7517, 7561, 7853]), (4161, [283, 307, 523, 643, 787, 1123, 1483, 1627, 1867, 1987, 2203, 2467, 2707, 2803, 3163, 3307, 3547, 3643, 4003, 4483, 4507, 4723, 4987, 5227, 5323, 5347, 5563, 5683, 5827, 6067, 6163, 6907, 7027, 7243, 7507, 7867]), (1, [59, 131, 251, 419, 971, 1091, 1259, 1571, 1811, 1931, 1979, 2099, 2411, 2579, 2819, 2939, 3251, 3491, 3659, 3779, 4091, 4259, 4451, 4931, 5099, 5171, 5939, 6011, 6131, 6299, 6779, 6971, 7019, 7451, 7691]), (266304, [127, 463, 487, 823, 967, 1087, 1303, 1327, 1423, 1663, 2143, 2503, 2647, 2767, 3343, 3607, 3823, 3847, 3943, 4327, 4447, 4663, 4783, 5023, 5167, 5503, 5527, 5623, 6007, 6343, 6367, 6703, 6967, 7207, 7687]), (266240, [23, 263, 743, 863, 1103, 1367, 1583, 1607, 2087, 2207, 2423, 2447, 2543, 2927, 3623, 3767, 4127, 4463, 4943, 4967, 5303, 5783, 5807, 5903, 6143, 6287, 6983, 7127, 7247, 7487, 7583, 7823, 8087]), (64, [31, 199, 271, 439, 1039, 1231, 1279, 1399, 1879, 1951, 2239, 2551, 2719, 2791, 3079, 3391, 3559, 3631, 3919, 4231, 4591, 4639, 4759, 5431, 5479, 6079, 6151, 6271, 6991, 7159, 7591, 7759, 7951]), (0, [311, 479, 719, 839, 1151, 1319, 1511, 1559, 2351, 2399, 2999, 3191, 3359, 3671, 3911, 4079, 4679, 4751, 4871, 4919, 5039, 5351, 5519, 5591, 5711, 5879, 6359, 6551, 6599, 6719, 7559, 8039, 8111]), (65, [19, 139, 619, 691, 811, 859, 1291, 1459, 1531, 1699, 2131, 2371, 2539, 2659, 2971, 3331, 3499, 4051, 4219, 4339, 4651, 5011, 5059, 5179, 5659, 5851, 6571, 6691, 7411, 7699, 8011, 8179]), (4096, [47, 167, 383, 503, 647, 887, 983, 1223, 1487, 1823, 1847, 2063, 2663, 2687, 2903, 3023, 3167, 3407, 3527, 3863, 4007, 4583, 4703, 5087, 5927, 6047, 6263, 6863, 7103, 7607, 7703, 7727]), (262144, [71, 191, 239, 359, 431, 599, 911, 1031, 1439, 1871, 2039, 2111, 2591, 2711, 2879, 3119, 3719, 4271, 4391, 4799, 5231, 5279, 5399, 5471, 5639, 6311, 6791, 6911, 6959, 7079, 7151, 7919]), (262208, [79, 151, 631, 751, 919, 991, 1471, 1759, 1831, 1999, 2311, 2671, 3271, 3319, 3511, 4111, 4159, 4519, 4831, 4951, 4999, 5119, 5791, 5839, 6199, 6679, 6871, 7039, 7351, 7639, 7879, 8191]), (262145, [11, 179, 491, 659, 1019, 1451, 1499, 1619, 2339, 2459, 2531, 2699, 3011, 3299, 3371, 3539, 3851, 4019, 4139, 4211, 4691, 5051, 5531, 5651, 6491, 6659, 6899, 7211, 7331, 7499, 8171]), (262209, [211, 331, 379, 499, 571, 739, 1051, 1171, 1579, 2011, 2179, 2251, 2731, 2851, 3019, 3259, 3571, 3691, 3739, 3931, 4099, 5419, 5779, 6091, 6211, 6379, 6451, 6619, 7219, 7459, 8059]), (266305, [43, 67, 163, 547, 883, 907, 1723, 1747, 2083, 2347, 2683, 3067, 3187, 3907, 4027, 4243, 4363, 4603, 5107, 5443, 5923, 6043, 6427, 6547, 6763, 6883, 7603, 7723, 7963]), (4097, [83, 227, 467, 563, 587, 1307, 1427, 1907, 2243, 2267, 3083, 3323, 3923, 3947, 4283, 4787, 5003, 5507, 5843, 6803, 6947, 7187, 7283, 7307, 7523, 7643, 8123, 8147]), (4160, [103, 223, 367, 607, 727, 1063, 1447, 1543, 1567, 1783, 2287, 2383, 2887, 3463, 3583, 3727, 3967, 4423, 4567, 4903, 5407, 5647, 5743, 6247, 6607, 6823, 7927, 8167]), (8322, [653, 1373, 1733, 1997, 2213, 2237, 2333, 2837, 4013, 4253, 4397, 4733, 5573, 5693, 6197, 6917, 7253, 7757, 8093]), (532546, [157, 397, 853, 997, 1693, 2917, 3037, 3517, 3877, 4357, 4597, 5197, 6037, 6277, 6373, 6397, 7213]), (532482, [13, 733, 1237, 2677, 3253, 3373, 3853, 4093, 4933, 5437, 5557, 6733, 7237, 7573, 7717, 8053]), (528514, [509, 1109, 1129, 1181, 1301, 2141, 3701, 3989, 5381, 5501, 5669, 6389, 7229, 7349, 7901, 8069]), (524418, [101, 269, 461, 941, 1949, 2309, 2621, 2789, 2861, 3461, 3821, 5309, 5981, 6221, 7829]), (270466, [53, 197, 317, 557, 1493, 1877, 3413, 3557, 3677, 3917, 4517, 5237, 7877, 8117]), (528386, [229, 1669, 2029, 2341, 3181, 5701, 5869, 6781, 6949, 7069, 7621, 7741]), (262274, [149, 2549, 5021, 5189, 5261, 5741, 5861, 6029, 6269, 6581, 7109]), (4226, [29, 701, 2069, 2741, 3389, 4229, 6101, 6869, 7589]), (266370, [821, 1229, 1709, 1901, 2381, 3221, 4421, 6701, 7949]), (8258, [37, 613, 877, 4813, 5077, 5653, 6637, 7933]), (528450, [61, 349, 661, 3541, 4261, 4549, 6709, 7549]), (270338, [277, 1117, 1597, 2557, 2797, 4957, 5413, 7333]), (270402, [373, 1933, 2053, 2293, 2437, 2521, 3613, 6133]), (8194, [757, 1093, 1213, 1453, 3637, 3733, 6997, 7477]), (798914, [857, 2777, 4073, 4793, 5417, 5897, 6473, 7433]), (524354, [1021, 1069, 1741, 1861, 2749, 3709, 6229, 7789]), (798913, [1097, 1193, 2393, 4217, 4457, 7577, 7817]), (2, [109, 1621, 3229, 5749, 6661, 7669]), (524290, [181, 829, 4021, 4861, 5101, 8089]), (130, [389, 1061, 2909, 3581, 4349, 7541]), (266306, [1549, 1789, 2389, 4789, 5581, 7309]), (66, [1429, 2269, 3109, 4621, 8101]), (1065219, [17, 2897, 6257, 6737]), (536770, [137, 2297, 5657, 7193]), (790722, [521, 761, 3209, 4889]), (262146, [541, 4909, 6421, 6469]), (4098, [709, 1381, 3469, 6301]), (8386, [809, 5849, 7001, 8009]), (12482, [2153, 2633, 5273, 7673]), (786624, [2441, 3449, 4409, 6089]), (794818, [41, 2729, 5801]), (266242, [421, 2221, 5821]), (536769, [617, 3833, 4937]), (803075, [977, 3361, 6833]), (798850, [1201, 2617, 3433]), (1331460, [97, 5857]), (536768, [233, 1913]), (1061059, [241, 2161]), (798722, [313, 1657]), (1331523, [353, 2273]), (1065218, [593, 5393]), (1061120, [881, 4721]), (798784, [937, 7993]), (274626, [953, 3593]), (536705, [1033, 2857]), (794817, [1049, 7481]), (1057027, [1361, 2609]), (1065217, [1553, 5297]), (1331524, [1697, 3617]), (790720, [1721, 5081]), (1065153, [1777, 4273]), (16579, [1873, 6673]), (798786, [1993, 2953]), (794752, [2089, 5689]), (794753, [2281, 6121]), (12418, [2377, 6217]), (1331392, [2593, 4513]), (1073541, [2753, 4673]), (1327428, [3041, 7649]), (532609, [3049, 5881]), (262210, [3301, 6829]), (1864070, [3457, 7297]), (798721, [3673, 5113]), (786498, [3769, 5449]), (790594, [4441, 7321]), (1069380, [5153, 7457]), (1597765, [5953, 7873]), (786625, [6569, 6761]), (278595, [7057, 8017]), (12354, [7177, 7417]), (798848, [73]), (794816, [89]), (278786, [113]), (811269, [193]), (2130436, [257]), (532673, [281]), (803008, [337]), (786691, [401]), (786562, [409]), (1064963, [433]), (1053061, [449]), (274562, [457]), (524482, [569]), (1597700, [577]), (794624, [601]), (1597894, [641]), (1069252, [673]), (2126087, [769]), (1323332, [929]), (536771, [1009]), (1864069, [1153]), (1597827, [1217]), (1327362, [1249]), (270528, [1289]), (802883, [1297]), (794626, [1321]), (549318, [1409]), (798912, [1433]), (8385, [1481]), (1056963, [1489]), (1589636, [1601]), (786560, [1609]), (798849, [1753]), (270400, [1801]), (1323331, [1889]), (1069316, [2017]), (1061188, [2081]), (1597762, [2113]), (790786, [2129]), (536642, [2137]), (540931, [2417]), (536641, [2473]), (807233, [2657]), (1593733, [2689]), (536706, [2713]), (4355, [2801]), (1065089, [2833]), (524480, [2969]), (790658, [3001]), (4162, [3061]), (798978, [3089]), (1052866, [3121]), (1073540, [3137]), (1327300, [3169]), (540866, [3217]), (12480, [3257]), (803010, [3313]), (1864199, [3329]), (8257, [3529]), (540675, [3697]), (536834, [3761]), (1065155, [3793]), (786626, [3881]), (794627, [3889]), (270530, [3929]), (799043, [4001]), (1061121, [4049]), (536640, [4057]), (1323012, [4129]), (536577, [4153]), (1065152, [4177]), (524416, [4201]), (1061123, [4241]), (1593732, [4289]), (798720, [4297]), (278787, [4337]), (1597892, [4481]), (790531, [4561]), (532674, [4649]), (16578, [4657]), (1593604, [4801]), (16642, [4817]), (790530, [4969]), (1339780, [4993]), (536835, [5009]), (532544, [5209]), (278658, [5233]), (1315012, [5281]), (1327493, [5441]), (1060995, [5521]), (786756, [5569]), (794754, [5641]), (274560, [5737]), (274434, [6073]), (807236, [6113]), (194, [6329]), (1335557, [6337]), (803072, [6353]), (790656, [6361]), (270593, [6449]), (1048769, [6481]), (528577, [6521]), (1859841, [6529]), (536576, [6553]), (803011, [6577]), (1061186, [6689]), (798785, [6793]), (266369, [6841]), (274624, [6857]), (1048771, [6961]), (1597829, [6977]), (798977, [7121]), (786561, [7129]), (794690, [7369]), (1069251, [7393]), (1589570, [7489]), (266432, [7529]), (1065091, [7537]), (1868232, [7681]), (536704, [7753]), (540930, [7793]), (1057091, [7841]), (2130439, [7937]), (1057025, [8081]), (1323267, [8161])]
/-- Primes above 2^16, with how often the order of all four goes into p - 1. -/
def exD : List (Nat × Nat) := [(65881, 4), (66361, 2), (66721, 2), (67219, 3), (67651, 5), (68041, 2), (68161, 2), (68881, 2), (69001, 2), (70921, 2), (71389, 3), (71761, 8), (74761, 2), (75289, 4), (75721, 2), (76441, 2), (76561, 2), (76801, 2), (76831, 3), (77641, 2), (78121, 2), (78241, 2), (78643, 3), (79801, 2), (80761, 2), (81001, 2), (81853, 3), (84121, 2), (84961, 2), (85201, 2), (87481, 2), (87721, 2), (88321, 2), (89041, 2), (90001, 2), (90841, 2), (91081, 2), (91381, 3), (91921, 2), (92401, 2), (92761, 2), (93241, 2), (93601, 2), (94201, 2), (94441, 2), (95881, 2), (96601, 2), (96769, 4), (97441, 2), (97561, 2), (98641, 2), (99241, 2), (99961, 2), (100801, 2), (101161, 2), (101641, 2), (102001, 2), (102481, 2), (102841, 2), (103681, 2), (104161, 2), (104281, 2), (105361, 2), (106669, 3), (106681, 2), (106801, 2), (107641, 2), (107881, 2), (109201, 2), (109321, 2), (110161, 2), (110881, 2), (111721, 2), (112921, 2), (113761, 2), (114601, 2), (115201, 2), (116041, 2), (116881, 2), (117721, 2), (118801, 2), (120121, 2), (121081, 2), (121321, 2), (121921, 2), (122761, 2), (123001, 2), (123601, 2), (126001, 2), (126961, 2), (127507, 3), (127681, 2), (128521, 2), (128831, 10), (129361, 2), (130201, 2), (131041, 2), (132001, 4), (132049, 4), (133447, 3), (145601, 5), (147289, 4), (148627, 3), (149197, 3), (152041, 4), (155521, 4), (156307, 3), (170809, 4), (184969, 4), (184999, 3), (191137, 3), (194431, 3), (194869, 3), (196681, 4), (211969, 4), (230449, 4), (232801, 4), (234361, 4), (236329, 4), (238681, 4), (241981, 5), (244561, 4), (247249, 4), (248089, 4)]
theorem r_small : chkT tblD = true := by decide +kernel
theorem r_signs : chkS tblD 8192 1 = true := by decide +kernel
theorem r_few1 : (fN (prodP 13 1) fun W => chkG W 1008 1) = true := by decide +kernel
theorem r_few2 : (fN (prodP 16 1) fun W => chkG W 3816 1) = true := by decide +kernel
def moreB (x : Nat × Nat) : Bool := cond (chk1 x.1 x.2) (cond (Nat.blt 0 x.2) (cond (Nat.beq (Nat.mod x.1 2) 1) (cond (Nat.beq (Nat.mod x.1 3) 0) false (Nat.blt x.1 248090)) false) false) false
theorem r_more : exD.all moreB = true := by decide +kernel
theorem more_all : ∀ x ∈ exD, chk1 x.1 x.2 = true ∧ 0 < x.2 ∧ x.1 % 2 = 1 ∧ x.1 % 3 ≠ 0 ∧ x.1 < 248090 := fun x hx => by
  have h := List.all_eq_true.1 r_more x hx
  unfold moreB at h
  cases h1 : chk1 x.1 x.2
  · rw [h1] at h; cases h
  rw [h1, cond_true] at h
  cases h2 : Nat.blt 0 x.2
  · rw [h2] at h; cases h
  rw [h2, cond_true] at h
  cases h3 : Nat.beq (Nat.mod x.1 2) 1
  · rw [h3] at h; cases h
  rw [h3, cond_true] at h
  cases h4 : Nat.beq (Nat.mod x.1 3) 0
  · rw [h4, cond_false] at h
    refine ⟨rfl, Nat.le_of_ble_eq_true h2, Nat.eq_of_beq_eq_true h3, fun e => ?_, Nat.le_of_ble_eq_true h⟩
    have : Nat.beq (Nat.mod x.1 3) 0 = true := beqP_of e
    rw [h4] at this
    cases this
  · rw [h4] at h; cases h
end Go.Proofs.YtakcgamgnmmdlaaGreat
/- The reckoning of primes above 2^16. No condition; no program is named. -/
namespace Go.Proofs.YtakcgamgnmmdlaaGreat
set_option maxRecDepth 20000
theorem r_great0 : (fN (prodP 16 1) fun W => fN (Nat.mul W (prodL exD)) fun W => chkK W 8190 2) = true := by decide +kernel
theorem r_great1 : (fN (prodP 16 1) fun W => fN (Nat.mul W (prodL exD)) fun W => chkK W 8192 8192) = true := by decide +kernel
theorem r_great2 : (fN (prodP 16 1) fun W => fN (Nat.mul W (prodL exD)) fun W => chkK W 8192 16384) = true := by decide +kernel
theorem r_great3 : (fN (prodP 16 1) fun W => fN (Nat.mul W (prodL exD)) fun W => chkK W 8192 24576) = true := by decide +kernel
theorem r_great4 : (fN (prodP 16 1) fun W => fN (Nat.mul W (prodL exD)) fun W => chkK W 8192 32768) = true := by decide +kernel
theorem r_great5 : (fN (prodP 16 1) fun W => fN (Nat.mul W (prodL exD)) fun W => chkK W 8192 40960) = true := by decide +kernel
theorem r_great6 : (fN (prodP 16 1) fun W => fN (Nat.mul W (prodL exD)) fun W => chkK W 8192 49152) = true := by decide +kernel
theorem r_great7 : (fN (prodP 16 1) fun W => fN (Nat.mul W (prodL exD)) fun W => chkK W 8192 57344) = true := by decide +kernel
theorem great_one {f k0 k : Nat} (h : (fN (prodP 16 1) fun W => fN (Nat.mul W (prodL exD)) fun W => chkK W f k0) = true) (h0 : k0 ≤ k) (h1 : k < k0 + f) (hg : Nat.gcd k 210 = 1) : GG (k - 1) ∣ prodP 16 1 * prodL exD := by
  rw [fN_eq, fN_eq] at h
  have := chkK_true f k0 h (k - k0) (by omega)
  rw [show k0 + (k - k0) = k by omega] at this
  exact this hg
theorem great_all : ∀ k, 2 ≤ k → k < 65536 → Nat.gcd k 210 = 1 → GG (k - 1) ∣ prodP 16 1 * prodL exD := fun k _ _ hg => by
  by_cases h0 : k < 8192
  · exact great_one r_great0 (by omega) (by omega) hg
  by_cases h1 : k < 16384
  · exact great_one r_great1 (by omega) (by omega) hg
  by_cases h2 : k < 24576
  · exact great_one r_great2 (by omega) (by omega) hg
  by_cases h3 : k < 32768
  · exact great_one r_great3 (by omega) (by omega) hg
  by_cases h4 : k < 40960
  · exact great_one r_great4 (by omega) (by omega) hg
  by_cases h5 : k < 49152
  · exact great_one r_great5 (by omega) (by omega) hg
  by_cases h6 : k < 57344
  · exact great_one r_great6 (by omega) (by omega) hg
  exact great_one r_great7 (by omega) (by omega) hg
end Go.Proofs.YtakcgamgnmmdlaaGreat

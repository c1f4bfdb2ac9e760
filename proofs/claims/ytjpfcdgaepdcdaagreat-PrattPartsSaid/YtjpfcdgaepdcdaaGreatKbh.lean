/- Several texts in one; each begins with a remark that says what it shows and on which conditions. -/
import Derived.Test.YtjpfcdgaepdcdaaGreatKbf
import Derived.Test.YtjpfcdgaepdcdaaGreatKbe
/- prime's contracts, as laws use them. Conditions: as typed (lengths that fit a machine; numbers below 2^32). -/
namespace Go.Proofs.YtjpfcdgaepdcdaaGreat
open Go.RowKit
/-- What the row lists, as the contracts ask it: nothing, as long as no table is read. -/
def LaidP (_ : World) : Prop := True
theorem LaidP.below {w w' : World} (_ : LaidP w) (_ : Below w.heap.size w w') : LaidP w' := trivial
section
variable {w : World} {A A2 : Option Addr} {n m c c2 : Nat} {l l2 : List Nat}
end
theorem primeIs_any (n : Nat) (hn : n < 4294967296) (b : Bool) (hb : b = true ↔ Prm n) (w : World) (hL : LaidP w) : Calls Tryz.prog 15 #[.int .u64 n] w fun e w' => e = .returned (.bool b) ∧ Below w.heap.size w w' := (fun _ => is_any9 n hn b hb w) hL
end Go.Proofs.YtjpfcdgaepdcdaaGreat
/- Plain facts on the row of a draw, and on what numbers are products of. No condition but those typed; no program is named. -/
namespace Go.Proofs.YtjpfcdgaepdcdaaGreat
/-! The row of a draw -/
def rowS (n c x : Nat) : Nat := (x * x + c) % n
def distS (x y : Nat) : Nat := max x y - min x y
/-- What the distance at a place has in common with n, if that is below n; or 0. -/
def foundS (n d : Nat) : Nat := if d < n then d else 0
/-- What so many further steps of a row show: the common factor of the first distance that has one; or 0. -/
def splitS (n c : Nat) : Nat → Nat → Nat → Nat
  | 0, _, _ => 0
  | k + 1, x, y =>
    if 1 < Nat.gcd (distS (rowS n c x) (rowS n c (rowS n c y))) n then foundS n (Nat.gcd (distS (rowS n c x) (rowS n c (rowS n c y))) n) else splitS n c k (rowS n c x) (rowS n c (rowS n c y))
theorem foundS_or (n d : Nat) : (d < n ∧ foundS n d = d) ∨ (¬ d < n ∧ foundS n d = 0) := by
  unfold foundS; split
  · exact .inl ⟨by assumption, rfl⟩
  · exact .inr ⟨by assumption, rfl⟩
theorem splitS_step {n c k x y x' y' y1 d : Nat} (hx : rowS n c x = x') (hy1 : rowS n c y = y1) (hy : rowS n c y1 = y') (hd : Nat.gcd (distS x' y') n = d) :
    splitS n c (k + 1) x y = if 1 < d then foundS n d else splitS n c k x' y' := by
  subst hx hy1 hy hd; rfl
theorem splitS_dvd (n c : Nat) : ∀ k x y, splitS n c k x y ≠ 0 → splitS n c k x y ∣ n ∧ 1 < splitS n c k x y ∧ splitS n c k x y < n := by
  intro k
  induction k with
  | zero => intro x y h; exact absurd rfl h
  | succ k ih =>
    intro x y h
    rw [splitS_step rfl rfl rfl rfl] at h ⊢
    split
    · rename_i h1
      rw [if_pos h1] at h
      rcases foundS_or n (Nat.gcd (distS (rowS n c x) (rowS n c (rowS n c y))) n) with ⟨h2, h3⟩ | ⟨_, h3⟩
      · rw [h3]; exact ⟨Nat.gcd_dvd_right _ _, h1, h2⟩
      · exact absurd h3 h
    · rename_i h1
      rw [if_neg h1] at h
      exact ih _ _ h
/-- What Split tells: 0 for none. -/
def splitD (n c : Nat) (most : Int) : Nat := if n < 4 then 0 else splitS n c (min most 1048576).toNat 2 2
theorem splitD_dvd {n c : Nat} {most : Int} (h : splitD n c most ≠ 0) : splitD n c most ∣ n ∧ 1 < splitD n c most ∧ splitD n c most < n := by
  unfold splitD at h ⊢
  split
  · rename_i h1; rw [if_pos h1] at h; exact absurd rfl h
  · rename_i h1; rw [if_neg h1] at h; exact splitS_dvd _ _ _ _ _ h
theorem rowS_lt {n c x : Nat} (h : 0 < n) : rowS n c x < n := Nat.mod_lt _ h
theorem gcd_pos10 {n d x : Nat} (hn : 0 < n) (h : Nat.gcd x n = d) : 0 < d ∧ d ≤ n := by
  subst h
  exact ⟨Nat.gcd_pos_of_pos_right _ hn, Nat.le_of_dvd hn (Nat.gcd_dvd_right _ _)⟩
/-! Products of primes that rise -/
def prodN (l : List Nat) : Nat := l.foldr (· * ·) 1
theorem prodN_nil : prodN [] = 1 := rfl
theorem prodN_cons (a : Nat) (l : List Nat) : prodN (a :: l) = a * prodN l := rfl
theorem prodN_append (l m : List Nat) : prodN (l ++ m) = prodN l * prodN m := by
  induction l with
  | nil => simp [prodN_nil]
  | cons a l ih => rw [List.cons_append, prodN_cons, prodN_cons, ih, Nat.mul_assoc]
theorem prodN_one (a : Nat) : prodN [a] = a := by rw [prodN_cons, prodN_nil, Nat.mul_one]
theorem prodN_mem_dvd {l : List Nat} {x : Nat} (h : x ∈ l) : x ∣ prodN l := by
  induction l with
  | nil => cases h
  | cons a l ih =>
    rw [prodN_cons]
    rcases List.mem_cons.1 h with rfl | h
    · exact Nat.dvd_mul_right _ _
    · exact Nat.dvd_trans (ih h) (Nat.dvd_mul_left _ _)
theorem Prm.one_not {p : Nat} (hp : Prm p) : ¬ p ∣ 1 := fun h => by
  have := hp.1
  have := Nat.le_of_dvd (by omega) h
  omega
theorem Prm.prodN {p : Nat} (hp : Prm p) : ∀ l : List Nat, p ∣ prodN l → ∃ x ∈ l, p ∣ x := by
  intro l
  induction l with
  | nil => intro h; exact absurd h hp.one_not
  | cons a l ih =>
    intro h
    rw [prodN_cons] at h
    rcases hp.euclid _ _ h with h | h
    · exact ⟨a, List.mem_cons_self, h⟩
    · obtain ⟨x, h1, h2⟩ := ih h
      exact ⟨x, List.mem_cons_of_mem _ h1, h2⟩
/-- The primes of a number, rising. -/
def IsFac (n : Nat) (l : List Nat) : Prop := prodN l = n ∧ (∀ p ∈ l, Prm p) ∧ l.Pairwise (· ≤ ·)
theorem prodN_pow2 : ∀ l : List Nat, (∀ p ∈ l, 2 ≤ p) → 2 ^ l.length ≤ prodN l := by
  intro l
  induction l with
  | nil => intro _; exact Nat.le_refl _
  | cons a l ih =>
    intro h
    rw [prodN_cons, List.length_cons, Nat.pow_succ, Nat.mul_comm]
    exact Nat.mul_le_mul (h a List.mem_cons_self) (ih fun p hp => h p (List.mem_cons_of_mem _ hp))
theorem prodN_len {l : List Nat} {k : Nat} (h2 : ∀ p ∈ l, 2 ≤ p) (h : prodN l < 2 ^ k) : l.length < k := by
  rcases Nat.lt_or_ge l.length k with h1 | h1
  · exact h1
  · have := prodN_pow2 l h2
    have := Nat.pow_le_pow_right (n := 2) (by omega) h1
    omega
/-! Trying all -/
/-- No number from 2 on and below d divides m. -/
def NoneBelow (m d : Nat) : Prop := ∀ e, 2 ≤ e → e < d → m % e ≠ 0
theorem NoneBelow.two (m : Nat) : NoneBelow m 2 := fun e h1 h2 => by omega
theorem NoneBelow.more {m d : Nat} (h : NoneBelow m d) (hd : m % d ≠ 0) : NoneBelow m (d + 1) := fun e h1 h2 => by
  rcases Nat.lt_succ_iff_lt_or_eq.1 h2 with h3 | rfl
  · exact h e h1 h3
  · exact hd
theorem NoneBelow.less {m q d : Nat} (h : NoneBelow m d) (hq : q ∣ m) : NoneBelow q d := fun e h1 h2 hz =>
  h e h1 h2 (Nat.mod_eq_zero_of_dvd (Nat.dvd_trans (Nat.dvd_of_mod_eq_zero hz) hq))
theorem NoneBelow.prm {m d : Nat} (h : NoneBelow m d) (h2 : 2 ≤ m) (hd : m < d * d) : Prm m :=
  prm_iff_try.2 ⟨h2, fun e h1 h3 => h e h1 (by
    rcases Nat.lt_or_ge e d with h4 | h4
    · exact h4
    · have := Nat.mul_le_mul h4 h4; omega)⟩
theorem NoneBelow.at_ {m d : Nat} (h : NoneBelow m d) (h2 : 2 ≤ d) (hz : m % d = 0) : Prm d := by
  obtain ⟨p, hp, hd⟩ := prm_factor d h2
  have h3 := hp.1
  rcases Nat.lt_or_ge p d with h4 | h4
  · exact absurd (Nat.mod_eq_zero_of_dvd (Nat.dvd_trans hd (Nat.dvd_of_mod_eq_zero hz))) (h p h3 h4)
  · obtain rfl : p = d := Nat.le_antisymm (Nat.le_of_dvd (by omega) hd) h4
    exact hp
/-- What no number below divides has no factor in a product of lesser ones. -/
theorem NoneBelow.one {m d : Nat} (h : NoneBelow m d) {l : List Nat} (hl : ∀ x ∈ l, 0 < x ∧ x < d) (hd : m ∣ prodN l) : m = 1 := by
  have hp : 0 < prodN l := by
    clear h hd
    induction l with
    | nil => exact Nat.one_pos
    | cons a l ih => rw [prodN_cons]; exact Nat.mul_pos (hl a List.mem_cons_self).1 (ih fun x hx => hl x (List.mem_cons_of_mem _ hx))
  have hm : 0 < m := Nat.pos_of_dvd_of_pos hd hp
  rcases Nat.lt_or_ge m 2 with h1 | h1
  · omega
  · exfalso
    obtain ⟨p, hpp, hpd⟩ := prm_factor m h1
    obtain ⟨x, hx, hpx⟩ := hpp.prodN l (Nat.dvd_trans hpd hd)
    have hx2 := hl x hx
    have hle := Nat.le_of_dvd hx2.1 hpx
    exact h p hpp.1 (by omega) (Nat.mod_eq_zero_of_dvd hpd)
/-- Two numbers without a small factor that are no primes are too much together. -/
theorem two_great {m k : Nat} (hm : NoneBelow m 65536) (hm2 : 2 ≤ m) (hmp : ¬ Prm m) (hk : NoneBelow k 65536) (hk2 : 2 ≤ k) (hkp : ¬ Prm k) : 18446744073709551616 ≤ m * k := by
  have e : ∀ {x}, NoneBelow x 65536 → 2 ≤ x → ¬ Prm x → 4294967296 ≤ x := fun {x} h1 h2 h3 => by
    rcases Nat.lt_or_ge x 4294967296 with h4 | h4
    · exact absurd (h1.prm h2 (by omega)) h3
    · exact h4
  exact Nat.mul_le_mul (e hm hm2 hmp) (e hk hk2 hkp)
/-! The document's trying: what was told, what is left, what is tried next -/
structure Trying (n : Nat) (l : List Nat) (m d : Nat) : Prop where
  all : prodN l * m = n
  primes : ∀ p ∈ l, Prm p
  rise : l.Pairwise (· ≤ ·)
  most : ∀ p ∈ l, p ≤ d
  none : NoneBelow m d
  pos : 0 < m
theorem Trying.start {n : Nat} (h : 0 < n) : Trying n [] n 2 := ⟨by rw [prodN_nil, Nat.one_mul], by simp, List.Pairwise.nil, by simp, NoneBelow.two n, h⟩
theorem Trying.take {n : Nat} {l : List Nat} {m d : Nat} (h : Trying n l m d) (h2 : 2 ≤ d) (hz : m % d = 0) : Trying n (l ++ [d]) (m / d) d where
  all := by
    rw [prodN_append, prodN_one, Nat.mul_assoc, Nat.mul_div_cancel' (Nat.dvd_of_mod_eq_zero hz)]
    exact h.all
  primes := fun p hp => by
    rcases List.mem_append.1 hp with h1 | h1
    · exact h.primes p h1
    · rw [List.mem_singleton.1 h1]; exact h.none.at_ h2 hz
  rise := List.pairwise_append.2 ⟨h.rise, List.pairwise_singleton _ _, fun a ha b hb => by rw [List.mem_singleton.1 hb]; exact h.most a ha⟩
  most := fun p hp => by
    rcases List.mem_append.1 hp with h1 | h1
    · exact h.most p h1
    · rw [List.mem_singleton.1 h1]; exact Nat.le_refl _
  none := h.none.less (Nat.div_dvd_of_dvd (Nat.dvd_of_mod_eq_zero hz))
  pos := Nat.div_pos (Nat.le_of_dvd h.pos (Nat.dvd_of_mod_eq_zero hz)) (by omega)
theorem Trying.next {n : Nat} {l : List Nat} {m d : Nat} (h : Trying n l m d) (hz : m % d ≠ 0) : Trying n l m (d + 1) :=
  ⟨h.all, h.primes, h.rise, fun p hp => by have := h.most p hp; omega, h.none.more hz, h.pos⟩
theorem Trying.done {n : Nat} {l : List Nat} {d : Nat} (h : Trying n l 1 d) : IsFac n l := ⟨by rw [← h.all, Nat.mul_one], h.primes, h.rise⟩
theorem Trying.last {n : Nat} {l : List Nat} {m d : Nat} (h : Trying n l m d) (h2 : 1 < m) (hd : m < d * d) : IsFac n (l ++ [m]) := by
  have hp := h.none.prm h2 hd
  refine ⟨by rw [prodN_append, prodN_one]; exact h.all, fun p h1 => ?_, List.pairwise_append.2 ⟨h.rise, List.pairwise_singleton _ _, fun a ha b hb => ?_⟩⟩
  · rcases List.mem_append.1 h1 with h3 | h3
    · exact h.primes p h3
    · rw [List.mem_singleton.1 h3]; exact hp
  · rw [List.mem_singleton.1 hb]
    have h3 := h.most a ha
    rcases Nat.lt_or_ge m d with h4 | h4
    · exact absurd (Nat.mod_self m) (h.none m h2 h4)
    · omega
theorem Trying.few {n : Nat} {l : List Nat} {m d k : Nat} (h : Trying n l m d) (hn : n < 2 ^ k) : l.length < k :=
  prodN_len (fun p hp => (h.primes p hp).1) (Nat.lt_of_le_of_lt (by rw [← h.all]; exact Nat.le_mul_of_pos_right _ h.pos) hn)
/-! What Factors tells -/
/-- What is told of a number n, by a test W of which it is known that it takes all primes, and below 2^32 no other number. -/
structure Told10 (W : Nat → Prop) (n : Nat) (l : List Nat) (rest e : Nat) : Prop where
  all : prodN l * rest = n
  tested : ∀ p ∈ l, W p
  great : ∀ p ∈ l, 2 ≤ p
  rise : l.Pairwise (· ≤ ·)
  ends : (e = 0 ∧ rest = 1) ∨ (e = 11 ∧ 1 < rest ∧ ¬ W rest ∧ NoneBelow rest 65536)
theorem Told10.small {W : Nat → Prop} (hW : ∀ x, x < 4294967296 → (W x ↔ Prm x)) {n : Nat} {l : List Nat} {rest e : Nat} (h : Told10 W n l rest e) (h0 : 0 < n) (hn : n < 4294967296) : e = 0 ∧ rest = 1 ∧ IsFac n l := by
  have hr : rest ∣ n := by rw [← h.all]; exact Nat.dvd_mul_left _ _
  have hrl := Nat.le_of_dvd h0 hr
  rcases h.ends with ⟨h1, h2⟩ | ⟨_, h2, h3, h4⟩
  · refine ⟨h1, h2, by rw [← h.all, h2, Nat.mul_one], fun p hp => (hW p ?_).1 (h.tested p hp), h.rise⟩
    have := Nat.le_of_dvd h0 (Nat.dvd_trans (prodN_mem_dvd hp) (show prodN l ∣ n by rw [← h.all]; exact Nat.dvd_mul_right _ _))
    omega
  · exact absurd ((hW rest (by omega)).2 (h4.prm h2 (by omega))) h3
theorem Told10.few {W : Nat → Prop} {n : Nat} {l : List Nat} {rest e : Nat} (h : Told10 W n l rest e) {k : Nat} (h0 : 0 < n) (hn : n < 2 ^ k) : l.length < k := by
  refine prodN_len h.great (Nat.lt_of_le_of_lt ?_ hn)
  rw [← h.all]
  refine Nat.le_mul_of_pos_right _ ?_
  rcases Nat.eq_zero_or_pos rest with h1 | h1
  · have := h.all; rw [h1, Nat.mul_zero] at this; omega
  · exact h1
end Go.Proofs.YtjpfcdgaepdcdaaGreat
/- Plain facts on Pratt's certificates. No condition but those typed; no program is named. -/
namespace Go.Proofs.YtjpfcdgaepdcdaaGreat
/-! Powers tell that a number is a prime -/
theorem pow_split11 {p g : Nat} (hp : 1 < p) (h1 : g ^ (p - 1) % p = 1) {k : Nat} (hk : k ≤ p - 1) : g ^ k * g ^ (p - 1 - k) % p = 1 := by
  rw [← Nat.pow_add, show k + (p - 1 - k) = p - 1 by omega]; exact h1
theorem lucas11 {p g : Nat} (hp : 3 ≤ p) (h1 : g ^ (p - 1) % p = 1) (hq : ∀ q, Prm q → q ∣ p - 1 → g ^ ((p - 1) / q) % p ≠ 1) : Prm p := by
  have h2 : 1 < p := by omega
  have inj : ∀ i j, 1 ≤ i → i < j → j ≤ p - 1 → g ^ i % p ≠ g ^ j % p := by
    intro i j hi hij hj he
    have h3 : g ^ (p - 1 + (j - i)) % p = 1 := by
      have e : p - 1 + (j - i) = j + (p - 1 - i) := by omega
      rw [e, Nat.pow_add, Nat.mul_mod, ← he, ← Nat.mul_mod]
      exact pow_split11 h2 h1 (by omega)
    have h4 := one_left h1 h3
    have h5 := one_gcd h2 (j - i) (p - 1) h4 h1
    obtain ⟨d, hd⟩ : ∃ d, Nat.gcd (j - i) (p - 1) = d := ⟨_, rfl⟩
    rw [hd] at h5
    have hd1 : d ∣ p - 1 := by rw [← hd]; exact Nat.gcd_dvd_right _ _
    have hd2 : d ≤ j - i := by rw [← hd]; exact Nat.gcd_le_left _ (by omega)
    obtain ⟨m, hm⟩ := hd1
    have hm2 : 2 ≤ m := by
      rcases Nat.lt_or_ge m 2 with h6 | h6
      · exfalso
        have : m = 0 ∨ m = 1 := by omega
        rcases this with rfl | rfl
        · omega
        · rw [Nat.mul_one] at hm; omega
      · exact h6
    obtain ⟨q, hqp, t, ht⟩ := prm_factor m hm2
    have hq0 : 0 < q := by have := hqp.1; omega
    have e : p - 1 = q * (d * t) := by rw [hm, ht, Nat.mul_left_comm]
    refine hq q hqp ⟨d * t, e⟩ ?_
    rw [e, Nat.mul_div_cancel_left _ hq0]
    exact one_times h2 h5 t
  have hperm := perm_upTo (fun k => g ^ k % p) (p - 1) (fun k _ hk => by
      have h3 := pow_split11 h2 h1 hk
      have h4 : g ^ k % p < p := Nat.mod_lt _ (by omega)
      have h5 : g ^ k % p ≠ 0 := fun h0 => by
        rw [Nat.mul_mod, h0, Nat.zero_mul, Nat.zero_mod] at h3
        omega
      show 1 ≤ g ^ k % p ∧ g ^ k % p ≤ p - 1
      omega)
    (fun k j hk1 hk hj1 hj he => by
      rcases Nat.lt_trichotomy k j with h | h | h
      · exact absurd he (inj k j hk1 h hj)
      · exact h
      · exact absurd he.symm (inj j k hj1 h hk))
  refine ⟨by omega, fun d hd => ?_⟩
  have hd1 : 0 < d := Nat.pos_of_dvd_of_pos hd (by omega)
  have hd2 : d ≤ p := Nat.le_of_dvd (by omega) hd
  rcases Nat.lt_or_ge d p with h3 | h3
  · refine .inl ?_
    have h4 : d ∈ (upTo (p - 1)).map (fun k => g ^ k % p) := hperm.mem_iff.2 (mem_upTo.2 ⟨hd1, by omega⟩)
    obtain ⟨k, hk, he⟩ := List.mem_map.1 h4
    have hk2 := (mem_upTo.1 hk).2
    have h5 := pow_split11 h2 h1 hk2
    have h6 : d ∣ g ^ k := by
      have h7 : g ^ k = p * (g ^ k / p) + d := by
        have h8 := Nat.div_add_mod (g ^ k) p
        have h9 : g ^ k % p = d := he
        omega
      rw [h7]
      exact Nat.dvd_add (Nat.dvd_trans hd (Nat.dvd_mul_right _ _)) (Nat.dvd_refl _)
    have h7 : d ∣ g ^ k * g ^ (p - 1 - k) := Nat.dvd_trans h6 (Nat.dvd_mul_right _ _)
    have h8 := Nat.div_add_mod (g ^ k * g ^ (p - 1 - k)) p
    rw [h5] at h8
    have h9 : d ∣ 1 := (Nat.dvd_add_right (Nat.dvd_trans hd (Nat.dvd_mul_right p (g ^ k * g ^ (p - 1 - k) / p)))).1 (by rw [h8]; exact h7)
    exact Nat.dvd_one.1 h9
  · exact .inr (Nat.le_antisymm hd2 h3)
/-! Certificates -/
/-- A step: its number, what shows it, and the primes of one less. -/
structure CStep where
  P : Nat
  G : Nat
  Q : List Nat
/-- A step shows its number, with those that were shown ahead. -/
structure StepOk (s : CStep) (ahead : List Nat) : Prop where
  odd : s.P % 2 = 1
  three : 3 ≤ s.P
  one : 1 ≤ s.G
  less : s.G < s.P
  rise : s.Q.Pairwise (· < ·)
  shown : ∀ q ∈ s.Q, (q < 65536 ∧ Prm q) ∨ q ∈ ahead
  parts : ∀ q ∈ s.Q, q ∣ s.P - 1
  all : ∀ r, Prm r → r ∣ s.P - 1 → r ∈ s.Q
  whole : s.G ^ (s.P - 1) % s.P = 1
  none : ∀ q ∈ s.Q, s.G ^ ((s.P - 1) / q) % s.P ≠ 1
def CertOk : List Nat → List CStep → Prop
  | _, [] => True
  | a, s :: r => StepOk s a ∧ CertOk (a ++ [s.P]) r
theorem StepOk.prm {s : CStep} {a : List Nat} (h : StepOk s a) : Prm s.P :=
  lucas11 h.three h.whole fun q hq hd => h.none q (h.all q hq hd)
theorem certOk_prm : ∀ (l : List CStep) (a : List Nat), CertOk a l → ∀ s ∈ l, Prm s.P := by
  intro l
  induction l with
  | nil => intro a _ s hs; cases hs
  | cons s r ih =>
    intro a h t ht
    rcases List.mem_cons.1 ht with rfl | ht
    · exact h.1.prm
    · exact ih _ h.2 t ht
theorem certOk_append : ∀ (l m : List CStep) (a : List Nat), CertOk a (l ++ m) ↔ CertOk a l ∧ CertOk (a ++ l.map CStep.P) m := by
  intro l
  induction l with
  | nil => intro m a; simp [CertOk]
  | cons s r ih =>
    intro m a
    show StepOk s a ∧ CertOk (a ++ [s.P]) (r ++ m) ↔ (StepOk s a ∧ CertOk (a ++ [s.P]) r) ∧ CertOk (a ++ (s.P :: r.map CStep.P)) m
    rw [ih, and_assoc, List.append_assoc, List.singleton_append]
/-- What Check answers of numbers. -/
def CheckN (p : Nat) (l : List CStep) : Prop := (l = [] ∧ p < 65536 ∧ Prm p) ∨ (∃ r s, l = r ++ [s] ∧ s.P = p ∧ CertOk [] l)
theorem checkN_prm {p : Nat} {l : List CStep} (h : CheckN p l) : Prm p := by
  rcases h with ⟨_, _, h⟩ | ⟨r, s, rfl, rfl, h⟩
  · exact h
  · exact certOk_prm _ _ h s (List.mem_append_right _ List.mem_cons_self)
theorem CheckN.take {p : Nat} {l : List CStep} (h : CheckN p l) {i : Nat} (hi : i < l.length) : CheckN (l[i]).P (l.take (i + 1)) := by
  rcases h with ⟨rfl, _⟩ | ⟨r, s, hl, hp, h⟩
  · cases hi
  · refine .inr ⟨l.take i, l[i], List.take_succ_eq_append_getElem hi, rfl, ?_⟩
    rw [← List.take_append_drop (i + 1) l] at h
    exact ((certOk_append _ _ _).1 h).1
theorem CheckN.last {p : Nat} {l : List CStep} {i : Nat} (hi : i < l.length) (h : CheckN p (l.take (i + 1))) : (l[i]).P = p := by
  rcases h with ⟨h, _⟩ | ⟨r, s, hl, hp, _⟩
  · have : (l.take (i + 1)).length = 0 := by rw [h]; rfl
    rw [List.length_take] at this; omega
  · rw [List.take_succ_eq_append_getElem hi] at hl
    have := List.append_inj' hl rfl
    obtain ⟨_, h2⟩ := this
    injection h2 with h2 _
    rw [h2]; exact hp
/-! A number without so many primes -/
/-- What is left of n when all of Q are taken out, each as often as it goes: none of Q goes into it, and n is a product of it and of powers of Q's. -/
structure Stripped (n : Nat) (Q : List Nat) (m : Nat) : Prop where
  dvd : m ∣ n
  pos : 0 < m
  all : ∀ r, Prm r → r ∣ n → r ∣ m ∨ r ∈ Q
  none : ∀ q ∈ Q, ¬ q ∣ m
theorem Stripped.start {n : Nat} (h : 0 < n) : Stripped n [] n := ⟨Nat.dvd_refl _, h, fun _ _ h => .inl h, by simp⟩
/-- Between two divisions by q. -/
structure Stripping (n : Nat) (Q : List Nat) (q m : Nat) : Prop where
  dvd : m ∣ n
  pos : 0 < m
  all : ∀ r, Prm r → r ∣ n → r ∣ m ∨ r ∈ Q ∨ r = q
  none : ∀ x ∈ Q, ¬ x ∣ m
theorem Stripped.next {n : Nat} {Q : List Nat} {m : Nat} (h : Stripped n Q m) (q : Nat) : Stripping n Q q m :=
  ⟨h.dvd, h.pos, fun r hr hd => (h.all r hr hd).elim .inl fun h => .inr (.inl h), h.none⟩
theorem Stripping.take {n : Nat} {Q : List Nat} {q m : Nat} (hq : Prm q) (h : Stripping n Q q m) (hz : m % q = 0) : Stripping n Q q (m / q) := by
  have hd := Nat.dvd_of_mod_eq_zero hz
  have e : q * (m / q) = m := Nat.mul_div_cancel' hd
  have hm : m / q ∣ m := Nat.div_dvd_of_dvd hd
  refine ⟨Nat.dvd_trans hm h.dvd, Nat.div_pos (Nat.le_of_dvd h.pos hd) (by have := hq.1; omega), fun r hr hrn => ?_, fun x hx hxd => h.none x hx (Nat.dvd_trans hxd hm)⟩
  rcases h.all r hr hrn with h1 | h1 | h1
  · rw [← e] at h1
    rcases hr.euclid _ _ h1 with h2 | h2
    · rcases hq.2 r h2 with h3 | h3
      · have := hr.1; omega
      · exact .inr (.inr h3)
    · exact .inl h2
  · exact .inr (.inl h1)
  · exact .inr (.inr h1)
theorem Stripping.done {n : Nat} {Q : List Nat} {q m : Nat} (h : Stripping n Q q m) (hz : m % q ≠ 0) : Stripped n (Q ++ [q]) m := by
  refine ⟨h.dvd, h.pos, fun r hr hd => ?_, fun x hx => ?_⟩
  · rcases h.all r hr hd with h1 | h1 | rfl
    · exact .inl h1
    · exact .inr (List.mem_append_left _ h1)
    · exact .inr (List.mem_append_right _ List.mem_cons_self)
  · rcases List.mem_append.1 hx with h1 | h1
    · exact h.none x h1
    · rw [List.mem_singleton.1 h1]; exact fun h2 => hz (Nat.mod_eq_zero_of_dvd h2)
theorem Stripped.one {n : Nat} {Q : List Nat} {m : Nat} (h : Stripped n Q m) : m = 1 ↔ ∀ r, Prm r → r ∣ n → r ∈ Q := by
  constructor
  · rintro rfl r hr hd
    exact (h.all r hr hd).resolve_left hr.one_not
  · intro h1
    rcases Nat.lt_or_ge m 2 with h2 | h2
    · have := h.pos; omega
    · exfalso
      obtain ⟨r, hr, hd⟩ := prm_factor m h2
      exact h.none r (h1 r hr (Nat.dvd_trans hd h.dvd)) hd
end Go.Proofs.YtjpfcdgaepdcdaaGreat

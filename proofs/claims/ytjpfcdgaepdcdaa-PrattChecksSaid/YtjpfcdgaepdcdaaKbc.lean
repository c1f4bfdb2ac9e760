/- Several texts in one; each begins with a remark that says what it shows and on which conditions. -/
import Derived.Test.YtjpfcdgaepdcdaaKbb
import Derived.Test.YtjpfcdgaepdcdaaKba
/- prime.Is and prime.Next. Conditions: as typed (numbers below 2^32). -/
namespace Go.Proofs.Ytjpfcdgaepdcdaa
open Go.RowKit
set_option maxRecDepth 20000
/-! Which bases tell of a prime -/
theorem big_eleven : ¬ PassD 3215031751 11 := fun h => by
  have h1 := (passD_iff (by omega) (by omega) (show 3215031751 - 1 = 2 ^ 1 * 1607515875 by decide) (by decide)).1 h
  have h2 := spd_of h1
  have h3 : spd 3215031751 11 1 1607515875 = false := by decide +kernel
  rw [h3] at h2
  cases h2
theorem prm_two9 : Prm 2 := prm_tried (f := 0) (by omega) rfl (by omega)
theorem prob_list9 {K : Nat} {L : List Nat} (hK : K < 4294967296) (m2 : 2 ∈ L) (m3 : 3 ∈ L) (m5 : 5 ∈ L) (m7 : 7 ∈ L) (m11 : K = 3215031751 → 11 ∈ L) : ProbD K L ↔ Prm K := by
  constructor
  · rintro (rfl | ⟨⟨x, hx, hxz⟩, hall⟩)
    · exact prm_two9
    · have hp := hall x hx hxz
      have h3 := hp.1
      have ho := hp.2.1
      by_cases h7 : K ≤ 7
      · have : K = 3 ∨ K = 5 ∨ K = 7 := by omega
        rcases this with rfl | rfl | rfl
        · exact prm_tried (f := 0) (by omega) rfl (by omega)
        · exact prm_tried (f := 1) (by omega) (by decide) (by omega)
        · exact prm_tried (f := 1) (by omega) (by decide) (by omega)
      · have hp2 := hall 2 m2 (by rw [Nat.mod_eq_of_lt (by omega)]; omega)
        have hp3 := hall 3 m3 (by rw [Nat.mod_eq_of_lt (by omega)]; omega)
        have hp5 := hall 5 m5 (by rw [Nat.mod_eq_of_lt (by omega)]; omega)
        have hp7 := hall 7 m7 (by rw [Nat.mod_eq_of_lt (by omega)]; omega)
        rcases four_bases (by omega) (by omega) hp2.2.2 hp3.2.2 hp5.2.2 hp7.2.2 with h | h
        · exact h
        · have h11 := hall 11 (m11 h) (by rw [Nat.mod_eq_of_lt (by omega)]; omega)
          rw [h] at h11
          exact absurd h11 big_eleven
  · intro h
    by_cases h2 : K = 2
    · exact .inl h2
    · have hK2 := h.1
      have ho : K % 2 = 1 := by
        rcases Nat.mod_two_eq_zero_or_one K with h0 | h0
        · exfalso
          rcases h.2 2 (Nat.dvd_of_mod_eq_zero h0) with e | e <;> omega
        · exact h0
      refine .inr ⟨⟨2, m2, ?_⟩, fun x _ hz => ⟨by omega, ho, h.pass ho fun hd => hz ⟨by omega, Nat.mod_eq_zero_of_dvd hd⟩⟩⟩
      rw [Nat.mod_eq_of_lt (by omega)]
      omega
theorem not_prm_tried {n r most : Nat} (h : IsTrial n most r) (hr : r ≠ 0) : ¬ Prm n := fun hp => by
  rcases h with ⟨h, _⟩ | ⟨h1, _, _, h4, h5, _⟩
  · exact hr h
  · rcases hp.2 r (Nat.dvd_of_mod_eq_zero h5) with e | e <;> omega
/-- The bases for a number. -/
def bases9 (n : Nat) : List Nat := if n < 3215031751 then [2, 3, 5, 7] else [2, 3, 5, 7, 11, 13, 17, 19, 23, 29, 31, 37]
theorem prob_bases9 {n : Nat} (h : n < 4294967296) : ProbD n (bases9 n) ↔ Prm n := by
  unfold bases9
  split
  · exact prob_list9 h (by simp) (by simp) (by simp) (by simp) (fun e => by omega)
  · exact prob_list9 h (by simp) (by simp) (by simp) (by simp) (fun _ => by simp)
theorem bases_words9 (n : Nat) : Words (bases9 n) := by
  unfold bases9
  intro x hx
  split at hx <;> simp at hx <;> omega
theorem bases_length9 (n : Nat) : (bases9 n).length ≤ 12 := by unfold bases9; split <;> simp
set_option maxHeartbeats 1000000 in
theorem deciding_any (n : Nat) (w : World) : Calls Try.prog 37 #[.int .u64 n] w fun e w' => ∃ X c, e = .returned (.slice X (bases9 n).length c) ∧ Rd .u64 w' w'.heap.size X (bases9 n) ∧ (bases9 n).length ≤ c ∧ Below w.heap.size w w' := by
  by_cases h : n < 3215031751
  · have e : bases9 n = [2, 3, 5, 7] := if_pos h
    rw [e]
    have HR := Lib.hid ((Rd.lit w .u64 26 [2, 3, 5, 7]).more (B' := (w.alloc (.cells (ints .u64 [2, 3, 5, 7]).toArray 26)).heap.size) (by simp))
    have hb := Lib.hid (made_below8 w (.cells (ints .u64 [2, 3, 5, 7]).toArray 26))
    have hd : decide ((n : Int) < 3215031751) = true := by simp; omega
    clear e
    go_enter Try.func37, Try.ntmps37
    go_wp2_with fail
    go_ret
    exact ⟨_, _, rfl, HR.out, Nat.le_refl _, hb.out⟩
  · have e : bases9 n = [2, 3, 5, 7, 11, 13, 17, 19, 23, 29, 31, 37] := if_neg h
    rw [e]
    have HR := Lib.hid ((Rd.lit w .u64 26 [2, 3, 5, 7, 11, 13, 17, 19, 23, 29, 31, 37]).more (B' := (w.alloc (.cells (ints .u64 [2, 3, 5, 7, 11, 13, 17, 19, 23, 29, 31, 37]).toArray 26)).heap.size) (by simp))
    have hb := Lib.hid (made_below8 w (.cells (ints .u64 [2, 3, 5, 7, 11, 13, 17, 19, 23, 29, 31, 37]).toArray 26))
    have hd : decide ((n : Int) < 3215031751) = false := by simp; omega
    clear e
    go_enter Try.func37, Try.ntmps37
    go_wp2_with fail
    go_ret
    exact ⟨_, _, rfl, HR.out, Nat.le_refl _, hb.out⟩
set_option maxHeartbeats 1000000 in
theorem is_any9 (n : Nat) (hn : n < 4294967296) (b : Bool) (hb : b = true ↔ Prm n) (w : World) : Calls Try.prog 20 #[.int .u64 n] w fun e w' => e = .returned (.bool b) ∧ Below w.heap.size w w' := by
  obtain ⟨r, hr⟩ := isTrial_some n 64
  have hrn : r < 4294967296 := by
    rcases hr with ⟨h, _⟩ | ⟨_, _, _, h, _⟩ <;> omega
  have hT : ∀ (b' : Bool), (b' = true ↔ r ≠ 0) → ∀ (u : World) (X : Option Addr) (q d : Nat), NatIs u X q d n → Calls Try.prog 35 #[.slice X q d, .int .u64 64] u fun e w' => e = .returned (.tuple #[.int .u64 r, .bool b']) ∧ Below u.heap.size u w' := fun b' hb' u X q d S =>
    trial_any (natIs_row9 S) (by have := natIs_len8 (K := 1) S (by have := nbits_of_lt n 64 (by omega); omega); omega) 64 r (by omega) (by rw [natOf_wd, if_pos rfl]; exact hr) b' hb'
  have HO := Lib.hid (bOf w n (by omega))
  by_cases h0 : r = 0
  · subst h0
    have HT := Lib.hid (hT false ⟨fun h => (by cases h), fun h => absurd rfl h⟩)
    have HP := Lib.hid (show ∀ (u : World) (X A2 : Option Addr) (q d c2 : Nat), NatIs u X q d n → Rd .u64 u u.heap.size A2 (bases9 n) → (bases9 n).length ≤ c2 → Calls Try.prog 36 #[.slice X q d, .slice A2 (bases9 n).length c2] u fun e w' => e = .returned (.bool b) ∧ Below u.heap.size u w' from
      fun u X A2 q d c2 S hR hc => probable_any9 S (by have := nbits_of_lt n 64 (by omega); omega) hR (bases_words9 n) (by have := bases_length9 n; omega) hc b (hb.trans (prob_bases9 hn).symm))
    clear hT hr hb
    go_enter Try.func20, Try.ntmps20
    go_wp2_with fail
    refine (HO.out).mono ?_
    rintro e w1 ⟨X, q, d, rfl, S1, _, b1⟩
    have HS1 := Lib.hid S1
    clear S1
    go_wp2_with fail
    refine (HT.out w1 X q d HS1.out).mono ?_
    rintro e w2 ⟨rfl, b2⟩
    have B2 := below_step b1 b2
    have HS2 := Lib.hid (HS1.out.step b2)
    go_wp2_with fail
    refine (deciding_any n w2).mono ?_
    rintro e w3 ⟨A2, c2, rfl, hR, hc, b3⟩
    have B3 := below_step B2 b3
    have HPP := Lib.hid (HP.out w3 X A2 q d c2 (HS2.out.step b3) hR hc)
    have hbl := bases_length9 n
    obtain ⟨k, hk⟩ : ∃ k, (bases9 n).length = k := ⟨_, rfl⟩
    rw [hk] at HPP hbl hc
    rw [hk]
    clear hR
    go_wp2_with fail
    refine (HPP.out).mono ?_
    rintro e w4 ⟨rfl, b4⟩
    go_wp2_with fail
    go_ret
    exact ⟨rfl, below_step B3 b4⟩
  · have HT := Lib.hid (hT true ⟨fun _ => h0, fun _ => rfl⟩)
    have hbf : b = false := by
      rcases h : b with _ | _
      · rfl
      · exact absurd (hb.1 h) (not_prm_tried hr h0)
    subst hbf
    clear hT hr hb
    go_enter Try.func20, Try.ntmps20
    go_wp2_with fail
    refine (HO.out).mono ?_
    rintro e w1 ⟨X, q, d, rfl, S1, _, b1⟩
    have HS1 := Lib.hid S1
    clear S1
    go_wp2_with fail
    refine (HT.out w1 X q d HS1.out).mono ?_
    rintro e w2 ⟨rfl, b2⟩
    go_wp2_with fail
    go_ret
    exact ⟨rfl, below_step b1 b2⟩
/-! The next prime -/
end Go.Proofs.Ytjpfcdgaepdcdaa
/- prime's contracts, as laws use them. Conditions: as typed (lengths that fit a machine; numbers below 2^32). -/
namespace Go.Proofs.Ytjpfcdgaepdcdaa
open Go.RowKit
/-- What the row lists, as the contracts ask it: nothing, as long as no table is read. -/
def LaidP (_ : World) : Prop := True
theorem LaidP.below {w w' : World} (_ : LaidP w) (_ : Below w.heap.size w w') : LaidP w' := trivial
section
variable {w : World} {A A2 : Option Addr} {n m c c2 : Nat} {l l2 : List Nat}
end
theorem primeIs_any (n : Nat) (hn : n < 4294967296) (b : Bool) (hb : b = true ↔ Prm n) (w : World) (hL : LaidP w) : Calls Try.prog 20 #[.int .u64 n] w fun e w' => e = .returned (.bool b) ∧ Below w.heap.size w w' := (fun _ => is_any9 n hn b hb w) hL
end Go.Proofs.Ytjpfcdgaepdcdaa
/- Plain facts on the row of a draw, and on what numbers are products of. No condition but those typed; no program is named. -/
namespace Go.Proofs.Ytjpfcdgaepdcdaa
/-! The row of a draw -/
/-! Products of primes that rise -/
def prodN (l : List Nat) : Nat := l.foldr (· * ·) 1
theorem prodN_nil : prodN [] = 1 := rfl
theorem prodN_cons (a : Nat) (l : List Nat) : prodN (a :: l) = a * prodN l := rfl
theorem prodN_append (l m : List Nat) : prodN (l ++ m) = prodN l * prodN m := by
  induction l with
  | nil => simp [prodN_nil]
  | cons a l ih => rw [List.cons_append, prodN_cons, prodN_cons, ih, Nat.mul_assoc]
theorem prodN_one (a : Nat) : prodN [a] = a := by rw [prodN_cons, prodN_nil, Nat.mul_one]
theorem prodN_mem_dvd {l : List Nat} {x : Nat} (h : x ∈ l) : x ∣ prodN l := by
  induction l with
  | nil => cases h
  | cons a l ih =>
    rw [prodN_cons]
    rcases List.mem_cons.1 h with rfl | h
    · exact Nat.dvd_mul_right _ _
    · exact Nat.dvd_trans (ih h) (Nat.dvd_mul_left _ _)
theorem Prm.one_not {p : Nat} (hp : Prm p) : ¬ p ∣ 1 := fun h => by
  have := hp.1
  have := Nat.le_of_dvd (by omega) h
  omega
theorem Prm.prodN {p : Nat} (hp : Prm p) : ∀ l : List Nat, p ∣ prodN l → ∃ x ∈ l, p ∣ x := by
  intro l
  induction l with
  | nil => intro h; exact absurd h hp.one_not
  | cons a l ih =>
    intro h
    rw [prodN_cons] at h
    rcases hp.euclid _ _ h with h | h
    · exact ⟨a, List.mem_cons_self, h⟩
    · obtain ⟨x, h1, h2⟩ := ih h
      exact ⟨x, List.mem_cons_of_mem _ h1, h2⟩
/-- The primes of a number, rising. -/
def IsFac (n : Nat) (l : List Nat) : Prop := prodN l = n ∧ (∀ p ∈ l, Prm p) ∧ l.Pairwise (· ≤ ·)
/-! Trying all -/
/-- No number from 2 on and below d divides m. -/
def NoneBelow (m d : Nat) : Prop := ∀ e, 2 ≤ e → e < d → m % e ≠ 0
theorem NoneBelow.two (m : Nat) : NoneBelow m 2 := fun e h1 h2 => by omega
theorem NoneBelow.more {m d : Nat} (h : NoneBelow m d) (hd : m % d ≠ 0) : NoneBelow m (d + 1) := fun e h1 h2 => by
  rcases Nat.lt_succ_iff_lt_or_eq.1 h2 with h3 | rfl
  · exact h e h1 h3
  · exact hd
theorem NoneBelow.less {m q d : Nat} (h : NoneBelow m d) (hq : q ∣ m) : NoneBelow q d := fun e h1 h2 hz =>
  h e h1 h2 (Nat.mod_eq_zero_of_dvd (Nat.dvd_trans (Nat.dvd_of_mod_eq_zero hz) hq))
theorem NoneBelow.prm {m d : Nat} (h : NoneBelow m d) (h2 : 2 ≤ m) (hd : m < d * d) : Prm m :=
  prm_iff_try.2 ⟨h2, fun e h1 h3 => h e h1 (by
    rcases Nat.lt_or_ge e d with h4 | h4
    · exact h4
    · have := Nat.mul_le_mul h4 h4; omega)⟩
theorem NoneBelow.at_ {m d : Nat} (h : NoneBelow m d) (h2 : 2 ≤ d) (hz : m % d = 0) : Prm d := by
  obtain ⟨p, hp, hd⟩ := prm_factor d h2
  have h3 := hp.1
  rcases Nat.lt_or_ge p d with h4 | h4
  · exact absurd (Nat.mod_eq_zero_of_dvd (Nat.dvd_trans hd (Nat.dvd_of_mod_eq_zero hz))) (h p h3 h4)
  · obtain rfl : p = d := Nat.le_antisymm (Nat.le_of_dvd (by omega) hd) h4
    exact hp
/-- What no number below divides has no factor in a product of lesser ones. -/
theorem NoneBelow.one {m d : Nat} (h : NoneBelow m d) {l : List Nat} (hl : ∀ x ∈ l, 0 < x ∧ x < d) (hd : m ∣ prodN l) : m = 1 := by
  have hp : 0 < prodN l := by
    clear h hd
    induction l with
    | nil => exact Nat.one_pos
    | cons a l ih => rw [prodN_cons]; exact Nat.mul_pos (hl a List.mem_cons_self).1 (ih fun x hx => hl x (List.mem_cons_of_mem _ hx))
  have hm : 0 < m := Nat.pos_of_dvd_of_pos hd hp
  rcases Nat.lt_or_ge m 2 with h1 | h1
  · omega
  · exfalso
    obtain ⟨p, hpp, hpd⟩ := prm_factor m h1
    obtain ⟨x, hx, hpx⟩ := hpp.prodN l (Nat.dvd_trans hpd hd)
    have hx2 := hl x hx
    have hle := Nat.le_of_dvd hx2.1 hpx
    exact h p hpp.1 (by omega) (Nat.mod_eq_zero_of_dvd hpd)
/-! The document's trying: what was told, what is left, what is tried next -/
structure Trying (n : Nat) (l : List Nat) (m d : Nat) : Prop where
  all : prodN l * m = n
  primes : ∀ p ∈ l, Prm p
  rise : l.Pairwise (· ≤ ·)
  most : ∀ p ∈ l, p ≤ d
  none : NoneBelow m d
  pos : 0 < m
theorem Trying.start {n : Nat} (h : 0 < n) : Trying n [] n 2 := ⟨by rw [prodN_nil, Nat.one_mul], by simp, List.Pairwise.nil, by simp, NoneBelow.two n, h⟩
theorem Trying.take {n : Nat} {l : List Nat} {m d : Nat} (h : Trying n l m d) (h2 : 2 ≤ d) (hz : m % d = 0) : Trying n (l ++ [d]) (m / d) d where
  all := by
    rw [prodN_append, prodN_one, Nat.mul_assoc, Nat.mul_div_cancel' (Nat.dvd_of_mod_eq_zero hz)]
    exact h.all
  primes := fun p hp => by
    rcases List.mem_append.1 hp with h1 | h1
    · exact h.primes p h1
    · rw [List.mem_singleton.1 h1]; exact h.none.at_ h2 hz
  rise := List.pairwise_append.2 ⟨h.rise, List.pairwise_singleton _ _, fun a ha b hb => by rw [List.mem_singleton.1 hb]; exact h.most a ha⟩
  most := fun p hp => by
    rcases List.mem_append.1 hp with h1 | h1
    · exact h.most p h1
    · rw [List.mem_singleton.1 h1]; exact Nat.le_refl _
  none := h.none.less (Nat.div_dvd_of_dvd (Nat.dvd_of_mod_eq_zero hz))
  pos := Nat.div_pos (Nat.le_of_dvd h.pos (Nat.dvd_of_mod_eq_zero hz)) (by omega)
theorem Trying.next {n : Nat} {l : List Nat} {m d : Nat} (h : Trying n l m d) (hz : m % d ≠ 0) : Trying n l m (d + 1) :=
  ⟨h.all, h.primes, h.rise, fun p hp => by have := h.most p hp; omega, h.none.more hz, h.pos⟩
theorem Trying.done {n : Nat} {l : List Nat} {d : Nat} (h : Trying n l 1 d) : IsFac n l := ⟨by rw [← h.all, Nat.mul_one], h.primes, h.rise⟩
theorem Trying.last {n : Nat} {l : List Nat} {m d : Nat} (h : Trying n l m d) (h2 : 1 < m) (hd : m < d * d) : IsFac n (l ++ [m]) := by
  have hp := h.none.prm h2 hd
  refine ⟨by rw [prodN_append, prodN_one]; exact h.all, fun p h1 => ?_, List.pairwise_append.2 ⟨h.rise, List.pairwise_singleton _ _, fun a ha b hb => ?_⟩⟩
  · rcases List.mem_append.1 h1 with h3 | h3
    · exact h.primes p h3
    · rw [List.mem_singleton.1 h3]; exact hp
  · rw [List.mem_singleton.1 hb]
    have h3 := h.most a ha
    rcases Nat.lt_or_ge m d with h4 | h4
    · exact absurd (Nat.mod_self m) (h.none m h2 h4)
    · omega
/-! What Factors tells -/
/-- What is told of a number n, by a test W of which it is known that it takes all primes, and below 2^32 no other number. -/
structure Told10 (W : Nat → Prop) (n : Nat) (l : List Nat) (rest e : Nat) : Prop where
  all : prodN l * rest = n
  tested : ∀ p ∈ l, W p
  great : ∀ p ∈ l, 2 ≤ p
  rise : l.Pairwise (· ≤ ·)
  ends : (e = 0 ∧ rest = 1) ∨ (e = 11 ∧ 1 < rest ∧ ¬ W rest ∧ NoneBelow rest 65536)
theorem Told10.small {W : Nat → Prop} (hW : ∀ x, x < 4294967296 → (W x ↔ Prm x)) {n : Nat} {l : List Nat} {rest e : Nat} (h : Told10 W n l rest e) (h0 : 0 < n) (hn : n < 4294967296) : e = 0 ∧ rest = 1 ∧ IsFac n l := by
  have hr : rest ∣ n := by rw [← h.all]; exact Nat.dvd_mul_left _ _
  have hrl := Nat.le_of_dvd h0 hr
  rcases h.ends with ⟨h1, h2⟩ | ⟨_, h2, h3, h4⟩
  · refine ⟨h1, h2, by rw [← h.all, h2, Nat.mul_one], fun p hp => (hW p ?_).1 (h.tested p hp), h.rise⟩
    have := Nat.le_of_dvd h0 (Nat.dvd_trans (prodN_mem_dvd hp) (show prodN l ∣ n by rw [← h.all]; exact Nat.dvd_mul_right _ _))
    omega
  · exact absurd ((hW rest (by omega)).2 (h4.prm h2 (by omega))) h3
end Go.Proofs.Ytjpfcdgaepdcdaa
/- Plain facts on Pratt's certificates. No condition but those typed; no program is named. -/
namespace Go.Proofs.Ytjpfcdgaepdcdaa
/-! Powers tell that a number is a prime -/
theorem pow_split11 {p g : Nat} (hp : 1 < p) (h1 : g ^ (p - 1) % p = 1) {k : Nat} (hk : k ≤ p - 1) : g ^ k * g ^ (p - 1 - k) % p = 1 := by
  rw [← Nat.pow_add, show k + (p - 1 - k) = p - 1 by omega]; exact h1
theorem lucas11 {p g : Nat} (hp : 3 ≤ p) (h1 : g ^ (p - 1) % p = 1) (hq : ∀ q, Prm q → q ∣ p - 1 → g ^ ((p - 1) / q) % p ≠ 1) : Prm p := by
  have h2 : 1 < p := by omega
  have inj : ∀ i j, 1 ≤ i → i < j → j ≤ p - 1 → g ^ i % p ≠ g ^ j % p := by
    intro i j hi hij hj he
    have h3 : g ^ (p - 1 + (j - i)) % p = 1 := by
      have e : p - 1 + (j - i) = j + (p - 1 - i) := by omega
      rw [e, Nat.pow_add, Nat.mul_mod, ← he, ← Nat.mul_mod]
      exact pow_split11 h2 h1 (by omega)
    have h4 := one_left h1 h3
    have h5 := one_gcd h2 (j - i) (p - 1) h4 h1
    obtain ⟨d, hd⟩ : ∃ d, Nat.gcd (j - i) (p - 1) = d := ⟨_, rfl⟩
    rw [hd] at h5
    have hd1 : d ∣ p - 1 := by rw [← hd]; exact Nat.gcd_dvd_right _ _
    have hd2 : d ≤ j - i := by rw [← hd]; exact Nat.gcd_le_left _ (by omega)
    obtain ⟨m, hm⟩ := hd1
    have hm2 : 2 ≤ m := by
      rcases Nat.lt_or_ge m 2 with h6 | h6
      · exfalso
        have : m = 0 ∨ m = 1 := by omega
        rcases this with rfl | rfl
        · omega
        · rw [Nat.mul_one] at hm; omega
      · exact h6
    obtain ⟨q, hqp, t, ht⟩ := prm_factor m hm2
    have hq0 : 0 < q := by have := hqp.1; omega
    have e : p - 1 = q * (d * t) := by rw [hm, ht, Nat.mul_left_comm]
    refine hq q hqp ⟨d * t, e⟩ ?_
    rw [e, Nat.mul_div_cancel_left _ hq0]
    exact one_times h2 h5 t
  have hperm := perm_upTo (fun k => g ^ k % p) (p - 1) (fun k _ hk => by
      have h3 := pow_split11 h2 h1 hk
      have h4 : g ^ k % p < p := Nat.mod_lt _ (by omega)
      have h5 : g ^ k % p ≠ 0 := fun h0 => by
        rw [Nat.mul_mod, h0, Nat.zero_mul, Nat.zero_mod] at h3
        omega
      show 1 ≤ g ^ k % p ∧ g ^ k % p ≤ p - 1
      omega)
    (fun k j hk1 hk hj1 hj he => by
      rcases Nat.lt_trichotomy k j with h | h | h
      · exact absurd he (inj k j hk1 h hj)
      · exact h
      · exact absurd he.symm (inj j k hj1 h hk))
  refine ⟨by omega, fun d hd => ?_⟩
  have hd1 : 0 < d := Nat.pos_of_dvd_of_pos hd (by omega)
  have hd2 : d ≤ p := Nat.le_of_dvd (by omega) hd
  rcases Nat.lt_or_ge d p with h3 | h3
  · refine .inl ?_
    have h4 : d ∈ (upTo (p - 1)).map (fun k => g ^ k % p) := hperm.mem_iff.2 (mem_upTo.2 ⟨hd1, by omega⟩)
    obtain ⟨k, hk, he⟩ := List.mem_map.1 h4
    have hk2 := (mem_upTo.1 hk).2
    have h5 := pow_split11 h2 h1 hk2
    have h6 : d ∣ g ^ k := by
      have h7 : g ^ k = p * (g ^ k / p) + d := by
        have h8 := Nat.div_add_mod (g ^ k) p
        have h9 : g ^ k % p = d := he
        omega
      rw [h7]
      exact Nat.dvd_add (Nat.dvd_trans hd (Nat.dvd_mul_right _ _)) (Nat.dvd_refl _)
    have h7 : d ∣ g ^ k * g ^ (p - 1 - k) := Nat.dvd_trans h6 (Nat.dvd_mul_right _ _)
    have h8 := Nat.div_add_mod (g ^ k * g ^ (p - 1 - k)) p
    rw [h5] at h8
    have h9 : d ∣ 1 := (Nat.dvd_add_right (Nat.dvd_trans hd (Nat.dvd_mul_right p (g ^ k * g ^ (p - 1 - k) / p)))).1 (by rw [h8]; exact h7)
    exact Nat.dvd_one.1 h9
  · exact .inr (Nat.le_antisymm hd2 h3)
/-! Certificates -/
/-- A step: its number, what shows it, and the primes of one less. -/
structure CStep where
  P : Nat
  G : Nat
  Q : List Nat
/-- A step shows its number, with those that were shown ahead. -/
structure StepOk (s : CStep) (ahead : List Nat) : Prop where
  odd : s.P % 2 = 1
  three : 3 ≤ s.P
  one : 1 ≤ s.G
  less : s.G < s.P
  rise : s.Q.Pairwise (· < ·)
  shown : ∀ q ∈ s.Q, (q < 65536 ∧ Prm q) ∨ q ∈ ahead
  parts : ∀ q ∈ s.Q, q ∣ s.P - 1
  all : ∀ r, Prm r → r ∣ s.P - 1 → r ∈ s.Q
  whole : s.G ^ (s.P - 1) % s.P = 1
  none : ∀ q ∈ s.Q, s.G ^ ((s.P - 1) / q) % s.P ≠ 1
def CertOk : List Nat → List CStep → Prop
  | _, [] => True
  | a, s :: r => StepOk s a ∧ CertOk (a ++ [s.P]) r
theorem StepOk.prm {s : CStep} {a : List Nat} (h : StepOk s a) : Prm s.P :=
  lucas11 h.three h.whole fun q hq hd => h.none q (h.all q hq hd)
theorem certOk_prm : ∀ (l : List CStep) (a : List Nat), CertOk a l → ∀ s ∈ l, Prm s.P := by
  intro l
  induction l with
  | nil => intro a _ s hs; cases hs
  | cons s r ih =>
    intro a h t ht
    rcases List.mem_cons.1 ht with rfl | ht
    · exact h.1.prm
    · exact ih _ h.2 t ht
theorem certOk_append : ∀ (l m : List CStep) (a : List Nat), CertOk a (l ++ m) ↔ CertOk a l ∧ CertOk (a ++ l.map CStep.P) m := by
  intro l
  induction l with
  | nil => intro m a; simp [CertOk]
  | cons s r ih =>
    intro m a
    show StepOk s a ∧ CertOk (a ++ [s.P]) (r ++ m) ↔ (StepOk s a ∧ CertOk (a ++ [s.P]) r) ∧ CertOk (a ++ (s.P :: r.map CStep.P)) m
    rw [ih, and_assoc, List.append_assoc, List.singleton_append]
/-- What Check answers of numbers. -/
def CheckN (p : Nat) (l : List CStep) : Prop := (l = [] ∧ p < 65536 ∧ Prm p) ∨ (∃ r s, l = r ++ [s] ∧ s.P = p ∧ CertOk [] l)
theorem CheckN.take {p : Nat} {l : List CStep} (h : CheckN p l) {i : Nat} (hi : i < l.length) : CheckN (l[i]).P (l.take (i + 1)) := by
  rcases h with ⟨rfl, _⟩ | ⟨r, s, hl, hp, h⟩
  · cases hi
  · refine .inr ⟨l.take i, l[i], List.take_succ_eq_append_getElem hi, rfl, ?_⟩
    rw [← List.take_append_drop (i + 1) l] at h
    exact ((certOk_append _ _ _).1 h).1
theorem CheckN.last {p : Nat} {l : List CStep} {i : Nat} (hi : i < l.length) (h : CheckN p (l.take (i + 1))) : (l[i]).P = p := by
  rcases h with ⟨h, _⟩ | ⟨r, s, hl, hp, _⟩
  · have : (l.take (i + 1)).length = 0 := by rw [h]; rfl
    rw [List.length_take] at this; omega
  · rw [List.take_succ_eq_append_getElem hi] at hl
    have := List.append_inj' hl rfl
    obtain ⟨_, h2⟩ := this
    injection h2 with h2 _
    rw [h2]; exact hp
/-! A number without so many primes -/
/-- What is left of n when all of Q are taken out, each as often as it goes: none of Q goes into it, and n is a product of it and of powers of Q's. -/
structure Stripped (n : Nat) (Q : List Nat) (m : Nat) : Prop where
  dvd : m ∣ n
  pos : 0 < m
  all : ∀ r, Prm r → r ∣ n → r ∣ m ∨ r ∈ Q
  none : ∀ q ∈ Q, ¬ q ∣ m
theorem Stripped.start {n : Nat} (h : 0 < n) : Stripped n [] n := ⟨Nat.dvd_refl _, h, fun _ _ h => .inl h, by simp⟩
/-- Between two divisions by q. -/
structure Stripping (n : Nat) (Q : List Nat) (q m : Nat) : Prop where
  dvd : m ∣ n
  pos : 0 < m
  all : ∀ r, Prm r → r ∣ n → r ∣ m ∨ r ∈ Q ∨ r = q
  none : ∀ x ∈ Q, ¬ x ∣ m
theorem Stripped.next {n : Nat} {Q : List Nat} {m : Nat} (h : Stripped n Q m) (q : Nat) : Stripping n Q q m :=
  ⟨h.dvd, h.pos, fun r hr hd => (h.all r hr hd).elim .inl fun h => .inr (.inl h), h.none⟩
theorem Stripping.take {n : Nat} {Q : List Nat} {q m : Nat} (hq : Prm q) (h : Stripping n Q q m) (hz : m % q = 0) : Stripping n Q q (m / q) := by
  have hd := Nat.dvd_of_mod_eq_zero hz
  have e : q * (m / q) = m := Nat.mul_div_cancel' hd
  have hm : m / q ∣ m := Nat.div_dvd_of_dvd hd
  refine ⟨Nat.dvd_trans hm h.dvd, Nat.div_pos (Nat.le_of_dvd h.pos hd) (by have := hq.1; omega), fun r hr hrn => ?_, fun x hx hxd => h.none x hx (Nat.dvd_trans hxd hm)⟩
  rcases h.all r hr hrn with h1 | h1 | h1
  · rw [← e] at h1
    rcases hr.euclid _ _ h1 with h2 | h2
    · rcases hq.2 r h2 with h3 | h3
      · have := hr.1; omega
      · exact .inr (.inr h3)
    · exact .inl h2
  · exact .inr (.inl h1)
  · exact .inr (.inr h1)
theorem Stripping.done {n : Nat} {Q : List Nat} {q m : Nat} (h : Stripping n Q q m) (hz : m % q ≠ 0) : Stripped n (Q ++ [q]) m := by
  refine ⟨h.dvd, h.pos, fun r hr hd => ?_, fun x hx => ?_⟩
  · rcases h.all r hr hd with h1 | h1 | rfl
    · exact .inl h1
    · exact .inr (List.mem_append_left _ h1)
    · exact .inr (List.mem_append_right _ List.mem_cons_self)
  · rcases List.mem_append.1 hx with h1 | h1
    · exact h.none x h1
    · rw [List.mem_singleton.1 h1]; exact fun h2 => hz (Nat.mod_eq_zero_of_dvd h2)
theorem Stripped.one {n : Nat} {Q : List Nat} {m : Nat} (h : Stripped n Q m) : m = 1 ↔ ∀ r, Prm r → r ∣ n → r ∈ Q := by
  constructor
  · rintro rfl r hr hd
    exact (h.all r hr hd).resolve_left hr.one_not
  · intro h1
    rcases Nat.lt_or_ge m 2 with h2 | h2
    · have := h.pos; omega
    · exfalso
      obtain ⟨r, hr, hd⟩ := prm_factor m h2
      exact h.none r (h1 r hr (Nat.dvd_trans hd h.dvd)) hd
end Go.Proofs.Ytjpfcdgaepdcdaa

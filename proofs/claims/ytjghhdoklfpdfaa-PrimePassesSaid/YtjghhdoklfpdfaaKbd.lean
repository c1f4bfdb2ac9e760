/- Several texts in one; each begins with a remark that says what it shows and on which conditions. -/
import Derived.Test.YtjghhdoklfpdfaaKbc
/- prime.Is and prime.Next. Conditions: as typed (numbers below 2^32). -/
namespace Go.Proofs.Ytjghhdoklfpdfaa
open Go.RowKit
set_option maxRecDepth 20000
/-! Which bases tell of a prime -/
theorem big_eleven : ¬ PassD 3215031751 11 := fun h => by
  have h1 := (passD_iff (by omega) (by omega) (show 3215031751 - 1 = 2 ^ 1 * 1607515875 by decide) (by decide)).1 h
  have h2 := spd_of h1
  have h3 : spd 3215031751 11 1 1607515875 = false := by decide +kernel
  rw [h3] at h2
  cases h2
theorem prm_two9 : Prm 2 := prm_tried (f := 0) (by omega) rfl (by omega)
theorem prob_list9 {K : Nat} {L : List Nat} (hK : K < 4294967296) (m2 : 2 ∈ L) (m3 : 3 ∈ L) (m5 : 5 ∈ L) (m7 : 7 ∈ L) (m11 : K = 3215031751 → 11 ∈ L) : ProbD K L ↔ Prm K := by
  constructor
  · rintro (rfl | ⟨⟨x, hx, hxz⟩, hall⟩)
    · exact prm_two9
    · have hp := hall x hx hxz
      have h3 := hp.1
      have ho := hp.2.1
      by_cases h7 : K ≤ 7
      · have : K = 3 ∨ K = 5 ∨ K = 7 := by omega
        rcases this with rfl | rfl | rfl
        · exact prm_tried (f := 0) (by omega) rfl (by omega)
        · exact prm_tried (f := 1) (by omega) (by decide) (by omega)
        · exact prm_tried (f := 1) (by omega) (by decide) (by omega)
      · have hp2 := hall 2 m2 (by rw [Nat.mod_eq_of_lt (by omega)]; omega)
        have hp3 := hall 3 m3 (by rw [Nat.mod_eq_of_lt (by omega)]; omega)
        have hp5 := hall 5 m5 (by rw [Nat.mod_eq_of_lt (by omega)]; omega)
        have hp7 := hall 7 m7 (by rw [Nat.mod_eq_of_lt (by omega)]; omega)
        rcases four_bases (by omega) (by omega) hp2.2.2 hp3.2.2 hp5.2.2 hp7.2.2 with h | h
        · exact h
        · have h11 := hall 11 (m11 h) (by rw [Nat.mod_eq_of_lt (by omega)]; omega)
          rw [h] at h11
          exact absurd h11 big_eleven
  · intro h
    by_cases h2 : K = 2
    · exact .inl h2
    · have hK2 := h.1
      have ho : K % 2 = 1 := by
        rcases Nat.mod_two_eq_zero_or_one K with h0 | h0
        · exfalso
          rcases h.2 2 (Nat.dvd_of_mod_eq_zero h0) with e | e <;> omega
        · exact h0
      refine .inr ⟨⟨2, m2, ?_⟩, fun x _ hz => ⟨by omega, ho, h.pass ho fun hd => hz ⟨by omega, Nat.mod_eq_zero_of_dvd hd⟩⟩⟩
      rw [Nat.mod_eq_of_lt (by omega)]
      omega
theorem not_prm_tried {n r most : Nat} (h : IsTrial n most r) (hr : r ≠ 0) : ¬ Prm n := fun hp => by
  rcases h with ⟨h, _⟩ | ⟨h1, _, _, h4, h5, _⟩
  · exact hr h
  · rcases hp.2 r (Nat.dvd_of_mod_eq_zero h5) with e | e <;> omega
/-- The bases for a number. -/
def bases9 (n : Nat) : List Nat := if n < 3215031751 then [2, 3, 5, 7] else [2, 3, 5, 7, 11, 13, 17, 19, 23, 29, 31, 37]
theorem prob_bases9 {n : Nat} (h : n < 4294967296) : ProbD n (bases9 n) ↔ Prm n := by
  unfold bases9
  split
  · exact prob_list9 h (by simp) (by simp) (by simp) (by simp) (fun e => by omega)
  · exact prob_list9 h (by simp) (by simp) (by simp) (by simp) (fun _ => by simp)
theorem bases_words9 (n : Nat) : Words (bases9 n) := by
  unfold bases9
  intro x hx
  split at hx <;> simp at hx <;> omega
theorem bases_length9 (n : Nat) : (bases9 n).length ≤ 12 := by unfold bases9; split <;> simp
set_option maxHeartbeats 1000000 in
theorem deciding_any (n : Nat) (w : World) : Calls Try.prog 33 #[.int .u64 n] w fun e w' => ∃ X c, e = .returned (.slice X (bases9 n).length c) ∧ Rd .u64 w' w'.heap.size X (bases9 n) ∧ (bases9 n).length ≤ c ∧ Below w.heap.size w w' := by
  by_cases h : n < 3215031751
  · have e : bases9 n = [2, 3, 5, 7] := if_pos h
    rw [e]
    have HR := Lib.hid ((Rd.lit w .u64 23 [2, 3, 5, 7]).more (B' := (w.alloc (.cells (ints .u64 [2, 3, 5, 7]).toArray 23)).heap.size) (by simp))
    have hb := Lib.hid (made_below8 w (.cells (ints .u64 [2, 3, 5, 7]).toArray 23))
    have hd : decide ((n : Int) < 3215031751) = true := by simp; omega
    clear e
    go_enter Try.func33, Try.ntmps33
    go_wp2_with fail
    go_ret
    exact ⟨_, _, rfl, HR.out, Nat.le_refl _, hb.out⟩
  · have e : bases9 n = [2, 3, 5, 7, 11, 13, 17, 19, 23, 29, 31, 37] := if_neg h
    rw [e]
    have HR := Lib.hid ((Rd.lit w .u64 23 [2, 3, 5, 7, 11, 13, 17, 19, 23, 29, 31, 37]).more (B' := (w.alloc (.cells (ints .u64 [2, 3, 5, 7, 11, 13, 17, 19, 23, 29, 31, 37]).toArray 23)).heap.size) (by simp))
    have hb := Lib.hid (made_below8 w (.cells (ints .u64 [2, 3, 5, 7, 11, 13, 17, 19, 23, 29, 31, 37]).toArray 23))
    have hd : decide ((n : Int) < 3215031751) = false := by simp; omega
    clear e
    go_enter Try.func33, Try.ntmps33
    go_wp2_with fail
    go_ret
    exact ⟨_, _, rfl, HR.out, Nat.le_refl _, hb.out⟩
set_option maxHeartbeats 1000000 in
theorem is_any9 (n : Nat) (hn : n < 4294967296) (b : Bool) (hb : b = true ↔ Prm n) (w : World) : Calls Try.prog 14 #[.int .u64 n] w fun e w' => e = .returned (.bool b) ∧ Below w.heap.size w w' := by
  obtain ⟨r, hr⟩ := isTrial_some n 64
  have hrn : r < 4294967296 := by
    rcases hr with ⟨h, _⟩ | ⟨_, _, _, h, _⟩ <;> omega
  have hT : ∀ (b' : Bool), (b' = true ↔ r ≠ 0) → ∀ (u : World) (X : Option Addr) (q d : Nat), NatIs u X q d n → Calls Try.prog 9 #[.slice X q d, .int .u64 64] u fun e w' => e = .returned (.tuple #[.int .u64 r, .bool b']) ∧ Below u.heap.size u w' := fun b' hb' u X q d S =>
    trial_any (natIs_row9 S) (by have := natIs_len8 (K := 1) S (by have := nbits_of_lt n 64 (by omega); omega); omega) 64 r (by omega) (by rw [natOf_wd, if_pos rfl]; exact hr) b' hb'
  have HO := Lib.hid (bOf w n (by omega))
  by_cases h0 : r = 0
  · subst h0
    have HT := Lib.hid (hT false ⟨fun h => (by cases h), fun h => absurd rfl h⟩)
    have HP := Lib.hid (show ∀ (u : World) (X A2 : Option Addr) (q d c2 : Nat), NatIs u X q d n → Rd .u64 u u.heap.size A2 (bases9 n) → (bases9 n).length ≤ c2 → Calls Try.prog 16 #[.slice X q d, .slice A2 (bases9 n).length c2] u fun e w' => e = .returned (.bool b) ∧ Below u.heap.size u w' from
      fun u X A2 q d c2 S hR hc => probable_any9 S (by have := nbits_of_lt n 64 (by omega); omega) hR (bases_words9 n) (by have := bases_length9 n; omega) hc b (hb.trans (prob_bases9 hn).symm))
    clear hT hr hb
    go_enter Try.func14, Try.ntmps14
    go_wp2_with fail
    refine (HO.out).mono ?_
    rintro e w1 ⟨X, q, d, rfl, S1, _, b1⟩
    have HS1 := Lib.hid S1
    clear S1
    go_wp2_with fail
    refine (HT.out w1 X q d HS1.out).mono ?_
    rintro e w2 ⟨rfl, b2⟩
    have B2 := below_step b1 b2
    have HS2 := Lib.hid (HS1.out.step b2)
    go_wp2_with fail
    refine (deciding_any n w2).mono ?_
    rintro e w3 ⟨A2, c2, rfl, hR, hc, b3⟩
    have B3 := below_step B2 b3
    have HPP := Lib.hid (HP.out w3 X A2 q d c2 (HS2.out.step b3) hR hc)
    have hbl := bases_length9 n
    obtain ⟨k, hk⟩ : ∃ k, (bases9 n).length = k := ⟨_, rfl⟩
    rw [hk] at HPP hbl hc
    rw [hk]
    clear hR
    go_wp2_with fail
    refine (HPP.out).mono ?_
    rintro e w4 ⟨rfl, b4⟩
    go_wp2_with fail
    go_ret
    exact ⟨rfl, below_step B3 b4⟩
  · have HT := Lib.hid (hT true ⟨fun _ => h0, fun _ => rfl⟩)
    have hbf : b = false := by
      rcases h : b with _ | _
      · rfl
      · exact absurd (hb.1 h) (not_prm_tried hr h0)
    subst hbf
    clear hT hr hb
    go_enter Try.func14, Try.ntmps14
    go_wp2_with fail
    refine (HO.out).mono ?_
    rintro e w1 ⟨X, q, d, rfl, S1, _, b1⟩
    have HS1 := Lib.hid S1
    clear S1
    go_wp2_with fail
    refine (HT.out w1 X q d HS1.out).mono ?_
    rintro e w2 ⟨rfl, b2⟩
    go_wp2_with fail
    go_ret
    exact ⟨rfl, below_step b1 b2⟩
/-! The next prime -/
theorem or_one9 (x : Nat) : x ||| 1 = x / 2 * 2 + 1 := by
  have h1 : x = x / 2 * 2 ^ 1 ||| x % 2 := by rw [nat_join 1 (x / 2 * 2 ^ 1) (x % 2) (by omega) (by omega)]; omega
  have h2 : x / 2 * 2 ^ 1 ||| 1 = x / 2 * 2 ^ 1 + 1 := nat_join 1 (x / 2 * 2 ^ 1) 1 (by omega) (by omega)
  have h3 : x % 2 ||| 1 = 1 := by
    rcases Nat.mod_two_eq_zero_or_one x with h | h <;> rw [h] <;> rfl
  conv => lhs; rw [h1]
  rw [Nat.or_assoc, h3, h2]
theorem or_int9 (n : Nat) (h : n < 4294967296) : bits .or .u64 ((n : Int) + 1) 1 = (((n + 1) / 2 * 2 + 1 : Nat) : Int) := by
  have := u64_or_nat (n + 1) 1 (by omega) (by omega)
  rw [or_one9] at this
  simpa using this
theorem prm_odd9 {p : Nat} (h : Prm p) (h3 : 3 ≤ p) : p % 2 = 1 := by
  rcases Nat.mod_two_eq_zero_or_one p with h0 | h0
  · rcases h.2 2 (Nat.dvd_of_mod_eq_zero h0) with e | e <;> omega
  · exact h0
set_option maxHeartbeats 1000000 in
theorem next_any9 (n p : Nat) (h : NextP n p) (hp : p < 4294967296) (w : World) : Calls Try.prog 18 #[.int .u64 n] w fun e w' => e = .returned (.tuple #[.int .u64 p, .int .i64 0]) ∧ Below w.heap.size w w' := by
  have hnp := h.2.1
  by_cases h2 : n < 2
  · have e : p = 2 := nextP_uniq h ⟨prm_two9, h2, fun q hq _ => hq.1⟩
    subst e
    clear h
    go_enter Try.func18, Try.ntmps18
    go_wp2_with fail
    go_ret2
    exact ⟨rfl, Below.refl _ _⟩
  · obtain ⟨o, ho⟩ : ∃ o, (n + 1) / 2 * 2 + 1 = o := ⟨_, rfl⟩
    have hor := or_int9 n (by omega)
    rw [ho] at hor
    have hpo := prm_odd9 h.1 (by omega)
    have hop : o ≤ p := by omega
    have hno : n < o := by omega
    have ho1 : o % 2 = 1 := by omega
    have H0 := Lib.hid (show ∀ q, Prm q → n < q → o ≤ q from fun q hq hlt => by
      have := prm_odd9 hq (by omega)
      omega)
    have HH := Lib.hid h
    clear h ho
    go_enter Try.func18, Try.ntmps18
    go_wp2_with fail
    go_loopw [4] (fun ov wr => ∃ k : Nat, ov = .int .u64 k ∧ n < k ∧ k ≤ p ∧ k % 2 = 1 ∧ Hid (∀ q, Prm q → n < q → k ≤ q) ∧ Below w.heap.size w wr) (fun ov _ => p - (intOf ov).toNat)
    case atStart => exact ⟨o, rfl, hno, hop, ho1, H0, Below.refl _ _⟩
    case round =>
      clear hor hno hop ho1 H0
      obtain ⟨k, rfl, hk1, hk2, hk3, hk4, hb⟩ := hrel
      by_cases hkp : k = p
      · subst hkp
        have HI := Lib.hid (is_any9 k hp true ⟨fun _ => HH.out.1, fun _ => rfl⟩ wr)
        go_wp2_with fail
        refine (HI.out).mono ?_
        rintro e w1 ⟨rfl, b1⟩
        go_wp2_with fail
        go_ret2
        exact ⟨rfl, below_step hb b1⟩
      · have hnk : ¬ Prm k := fun hk => hkp (Nat.le_antisymm hk2 (HH.out.2.2 k hk hk1))
        have HI := Lib.hid (is_any9 k (by omega) false ⟨fun h => (by cases h), fun h => absurd h hnk⟩ wr)
        have H5 := Lib.hid (show ∀ q, Prm q → n < q → k + 2 ≤ q from fun q hq hlt => by
          have h6 := hk4.out q hq hlt
          have h7 := prm_odd9 hq (by omega)
          rcases Nat.eq_or_lt_of_le h6 with h8 | h8
          · exact absurd (h8 ▸ hq) hnk
          · omega)
        clear hnk
        go_wp2_with fail
        refine (HI.out).mono ?_
        rintro e w1 ⟨rfl, b1⟩
        go_wp2_with fail
        go_roundw
        case rel => exact ⟨k + 2, by go_num, by omega, by omega, by omega, H5, below_step hb b1⟩
        case measure => simp [intOf]; omega
set_option maxHeartbeats 1000000 in
theorem next_max9 (w : World) : Calls Try.prog 18 #[.int .u64 18446744073709551615] w fun e w' => e = .returned (.tuple #[.int .u64 0, .int .i64 4]) ∧ Below w.heap.size w w' := by
  go_enter Try.func18, Try.ntmps18
  go_wp2_with fail
  go_loopw [4] (fun ov wr => ov = .int .u64 1 ∧ w = wr) (fun _ _ => 0)
  case atStart => exact ⟨rfl, rfl⟩
  case round =>
    obtain ⟨rfl, rfl⟩ := hrel
    go_wp2_with fail
    go_ret2
    exact ⟨rfl, Below.refl _ _⟩
end Go.Proofs.Ytjghhdoklfpdfaa
/- prime's contracts, as laws use them. Conditions: as typed (lengths that fit a machine; numbers below 2^32). -/
namespace Go.Proofs.Ytjghhdoklfpdfaa
open Go.RowKit
/-- What the row lists, as the contracts ask it: nothing, as long as no table is read. -/
def LaidP (_ : World) : Prop := True
theorem LaidP.below {w w' : World} (_ : LaidP w) (_ : Below w.heap.size w w') : LaidP w' := trivial
section
variable {w : World} {A A2 : Option Addr} {n m c c2 : Nat} {l l2 : List Nat}
theorem primeTrial_any (P : RowIs w A n c l) (hs : n ≤ 1000) (most r : Nat) (hm : most < 18446744073709551616) (hr : if l = wd (natOf l) then IsTrial (natOf l) most r else r = 0) (b : Bool) (hb : b = true ↔ r ≠ 0) (hL : LaidP w) :
    Calls Try.prog 9 #[.slice A n c, .int .u64 most] w fun e w' => e = .returned (.tuple #[.int .u64 r, .bool b]) ∧ Below w.heap.size w w' := (fun _ => trial_any P (by omega) most r hm hr b hb) hL
theorem primeStrong_any (P : RowIs w A n c l) (Q : RowIs w A2 m c2 l2) (hs : n ≤ 1000) (hs2 : m ≤ 1000) (b : Bool) (hb : b = true ↔ (l = wd (natOf l) ∧ l2 = wd (natOf l2) ∧ nbits (natOf l) ≤ 1024 ∧ nbits (natOf l2) ≤ 1024 ∧ PassD (natOf l) (natOf l2))) (hL : LaidP w) :
    Calls Try.prog 12 #[.slice A n c, .slice A2 m c2] w fun e w' => e = .returned (.bool b) ∧ Below w.heap.size w w' := (fun _ _ _ => strong_any9 P Q b hb) hs hs2 hL
theorem primeProbable_any {N : Nat} (S : NatIs w A n c N) (hN : N < 4294967296) (hr : Rd .u64 w w.heap.size A2 l2) (hw : Words l2) (hl : l2.length ≤ 1000) (hc : l2.length ≤ c2) (b : Bool) (hb : b = true ↔ ProbD N l2) (hL : LaidP w) :
    Calls Try.prog 16 #[.slice A n c, .slice A2 l2.length c2] w fun e w' => e = .returned (.bool b) ∧ Below w.heap.size w w' := (fun _ => probable_any9 S (by have := nbits_of_lt N 32 (by omega); omega) hr hw hl hc b hb) hL
end
theorem primeIs_any (n : Nat) (hn : n < 4294967296) (b : Bool) (hb : b = true ↔ Prm n) (w : World) (hL : LaidP w) : Calls Try.prog 14 #[.int .u64 n] w fun e w' => e = .returned (.bool b) ∧ Below w.heap.size w w' := (fun _ => is_any9 n hn b hb w) hL
theorem primeNext_any (n p : Nat) (h : NextP n p) (hp : p < 4294967296) (w : World) (hL : LaidP w) : Calls Try.prog 18 #[.int .u64 n] w fun e w' => e = .returned (.tuple #[.int .u64 p, .int .i64 0]) ∧ Below w.heap.size w w' := (fun _ => next_any9 n p h hp w) hL
theorem primeNext_max (w : World) (hL : LaidP w) : Calls Try.prog 18 #[.int .u64 18446744073709551615] w fun e w' => e = .returned (.tuple #[.int .u64 0, .int .i64 4]) ∧ Below w.heap.size w w' := (fun _ => next_max9 w) hL
end Go.Proofs.Ytjghhdoklfpdfaa

/- mul's contracts in the form that laws use: a slice of words stands for a number. Conditions: as typed. -/
import Derived.Test.YtjdjklejchginaaMulC
namespace Go.Proofs.Ytjdjklejchginaa
open Go.RowKit

section
variable {w : World} {A A2 : Option Addr} {n m c c2 M N d d2 : Nat}
theorem bMul (h : NatIn w A n c M) (k : NatIn w A2 m c2 N) (hs : n ≤ 10000) (hs2 : m ≤ 10000) : Calls Try.prog 12 #[.slice A n c, .slice A2 m c2] w (OutN (M * N) w) := by
  have hb := h.bits
  have kb := k.bits
  have hk := nbits_mul M N
  obtain ⟨l, rfl, rfl, h3, h4, h5, h6⟩ := h
  obtain ⟨l2, rfl, rfl, k3, k4, k5, k6⟩ := k
  exact Calls.mono (mulMul_any A A2 c c2 l l2 w h5 h3 hs h6 k5 k3 hs2 k6) fun _ _ h => h.out (by omega)
theorem bSquare (h : NatIn w A n c M) (hs : n ≤ 10000) : Calls Try.prog 13 #[.slice A n c] w (OutN (M * M) w) := by
  have hb := h.bits
  have hk := nbits_mul M M
  obtain ⟨l, rfl, rfl, h3, h4, h5, h6⟩ := h
  exact Calls.mono (mulSquare_any A c l w h5 h3 hs h6) fun _ _ h => h.out (by omega)
theorem bTimes (h : NumIs w A n d M) (k : NumIs w A2 m d2 N) (hs : n ≤ 1000000) (hs2 : m ≤ 1000000) : Calls Try.prog 15 #[.slice A n d, .slice A2 m d2] w (OutD (M * N) w) := by
  obtain ⟨rfl, h2, h3, h4⟩ := h
  obtain ⟨rfl, k2, k3, k4⟩ := k
  have := nbits_mul M N
  exact Calls.mono (times02_any A A2 d d2 M N w h4 k4 hs hs2) fun _ _ h => h.out (by omega)
end
/-- More than a statement of chapter 3 looks at? -/
theorem vast3_yes (A : Option Addr) (n c : Nat) (w : World) (h : 40 < n) : Calls Try.prog 8 #[.slice A n c] w fun e w' => e = .returned (.bool true) ∧ w = w' := by
  have hd : decide (40 < (n : Int)) = true := by simp; omega
  go_enter Try.func8, Try.ntmps8
  go_wp2
  go_ret
  exact ⟨by rw [← hd]; rfl, rfl⟩
theorem vast3_no (A : Option Addr) (n c : Nat) (w : World) (h : n ≤ 40) : Calls Try.prog 8 #[.slice A n c] w fun e w' => e = .returned (.bool false) ∧ w = w' := by
  have hd : decide (40 < (n : Int)) = false := by simp; omega
  go_enter Try.func8, Try.ntmps8
  go_wp2
  go_ret
  exact ⟨by rw [← hd]; rfl, rfl⟩

/-- What is answered where a literal was made first. -/
theorem OutN.made {N : Nat} {w w' : World} {e : Ending} {o : Obj} (h : OutN N (w.alloc o) e w') : OutN N w e w' := by
  obtain ⟨X, q, d, he, h1, ⟨l, t1, t2, t3⟩, hb⟩ := h
  exact ⟨X, q, d, he, h1, ⟨l, t1, t2, own_base t3 (by simp)⟩, ((Below.refl _ w).alloc (Nat.le_refl _) o).trans (hb.mono (by simp))⟩
theorem natIn_lit (w : World) (l : List Nat) (hl : Words l) (hn : l.length ≤ 50000) : NatIn (w.alloc (.cells (ints .u64 l).toArray 34)) (some ⟨w.heap.size, 0, none⟩) l.length l.length (natOf l) :=
  ⟨l, rfl, rfl, hl, hn, (Rd.lit w .u64 34 l).more (by simp), Nat.le_refl _⟩
theorem natIn_one (w : World) : NatIn (w.alloc (.cells #[.int .u64 1] 34)) (some ⟨w.heap.size, 0, none⟩) 1 1 1 := natIn_lit w [1] (by intro x hx; simp at hx; omega) (by simp)
theorem natIn_nil (w : World) : NatIn w none 0 0 0 := ⟨[], rfl, rfl, (by intro x hx; cases hx), by omega, Rd.nil, Nat.le_refl _⟩
theorem NatIn.made {w : World} {A : Option Addr} {n c N : Nat} (h : NatIn w A n c N) (o : Obj) : NatIn (w.alloc o) A n c N := h.step ((Below.refl _ w).alloc (Nat.le_refl _) o)
/-- A result whose words are known. -/
theorem NatIs.lit {w : World} {X : Option Addr} {q d N : Nat} (h : NatIs w X q d N) (l : List Nat) (e : wd N = l) : q = l.length ∧ Rd .u64 w w.heap.size X l := ⟨by rw [← h.1, e], by rw [← e]; exact h.2.2.1⟩

theorem natIs_eq {w : World} {X : Option Addr} {q d M N : Nat} (h : NatIs w X q d M) (e : M = N) : NatIs w X q d N := e ▸ h
theorem OutN_made {P : Program} {f : FuncId} {args : Array Value} {N : Nat} {w : World} {o : Obj} (h : Calls P f args (w.alloc o) (OutN N (w.alloc o))) : Calls P f args (w.alloc o) (OutN N w) := Calls.mono h fun _ _ h => h.made
theorem sq_sum (a b : Nat) : (a + b) * (a + b) = a * a + (a * b + a * b + b * b) := by
  rw [Nat.add_mul, Nat.mul_add, Nat.mul_add, Nat.mul_comm b a]
  omega
theorem sq_rest (a b : Nat) (h : b ≤ a) : (a + b) * (a - b) = a * a - b * b := by
  obtain ⟨d, rfl⟩ : ∃ d, a = b + d := ⟨a - b, by omega⟩
  rw [Nat.add_sub_cancel_left]
  simp only [Nat.mul_add, Nat.add_mul, Nat.mul_comm d b]
  omega
theorem shl3 (M k : Nat) (h : k ≤ 65536) : shlS M (k : Int) = 2 ^ k * M := by unfold shlS; rw [if_pos (by omega), Int.toNat_natCast]
theorem cmpS_same (M : Nat) : cmpS M M = 0 := by simp [cmpS]
theorem cmp_same {w : World} {A A2 : Option Addr} {n m c c2 M N : Nat} (h : NatIn w A n c M) (k : NatIn w A2 m c2 N) (e : M = N) : Calls Try.prog 24 #[.slice A n c, .slice A2 m c2] w fun e w' => e = .returned (.int .i64 0) ∧ Below w.heap.size w w' := by
  have h := bCmp h k
  rwa [e, cmpS_same] at h
/-- What is left, or why not, where a literal was made first. -/
theorem sub_made {w : World} {A : Option Addr} {n c M : Nat} (h : NatIn w A n c M) (hle : 1 ≤ M) : Calls Try.prog 21 #[.slice A n c, .slice (some ⟨w.heap.size, 0, none⟩) 1 1] (w.alloc (.cells #[.int .u64 1] 34)) fun e w' =>
    ∃ X q d, e = .returned (.tuple #[.slice X q d, .bool true]) ∧ NatIs w' X q d (M - 1) ∧ Below w.heap.size w w' :=
  Calls.mono (bSub_yes (h.made _) (natIn_one w) hle) fun _ _ ⟨X, q, d, he, h1, _, hb⟩ => ⟨X, q, d, he, h1, ((Below.refl _ w).alloc (Nat.le_refl _) _).trans (hb.mono (by simp))⟩
theorem sub_is {w : World} {A A2 : Option Addr} {n m c c2 M N : Nat} (h : NatIn w A n c M) (k : NatIn w A2 m c2 N) (hle : N ≤ M) : Calls Try.prog 21 #[.slice A n c, .slice A2 m c2] w fun e w' =>
    ∃ X q d, e = .returned (.tuple #[.slice X q d, .bool true]) ∧ NatIs w' X q d (M - N) ∧ Below w.heap.size w w' :=
  Calls.mono (bSub_yes h k hle) fun _ _ ⟨X, q, d, he, h1, _, hb⟩ => ⟨X, q, d, he, h1, hb⟩
theorem pow_out {w w' : World} {e : Ending} {N : Nat} (h : OutPow N w e w') (hn : nbits N ≤ 3200000) : ∃ X q d, e = .returned (.tuple #[.slice X q d, .int .i64 0]) ∧ NatIs w' X q d N ∧ Below w.heap.size w w' := by
  obtain ⟨v, he, own, hb⟩ := h
  obtain ⟨X, d, rfl, hd, _⟩ := own_form own
  exact ⟨X, _, d, he, ⟨length_wd _, by omega, Rd.own own, hd⟩, hb⟩
section
variable {w : World} {A : Option Addr} {c : Nat} {l : List Nat}
theorem bPow_neg (h : RowIs w A l.length c l) (hs : l.length ≤ 6) (k : Int) (hk : k < 0) : Calls Try.prog 22 #[.slice A l.length c, .int .i64 k] w (OutErr 1 w) :=
  mulPower_neg A c l w h.2.2.2.1 h.2.1 (by omega) h.2.2.2.2 k hk
theorem bPow_many (h : RowIs w A l.length c l) (hs : l.length ≤ 6) (k : Nat) (hk : 131072 < k) (h0 : natOf l ≠ 0) (hi : MaxI k) : Calls Try.prog 22 #[.slice A l.length c, .int .i64 (k : Int)] w (OutErr 4 w) :=
  mulPower_many A c l w h.2.2.2.1 h.2.1 (by omega) h.2.2.2.2 k (by have h1 := (nbits_iff _).2 h0; exact Nat.lt_of_lt_of_le (show 65536 < k by omega) (Nat.le_mul_of_pos_right k h1)) hi
theorem bPow_ok (h : RowIs w A l.length c l) (hs : l.length ≤ 6) (k : Nat) (hk : k * nbits (natOf l) ≤ 65536) (hi : MaxI k) : Calls Try.prog 22 #[.slice A l.length c, .int .i64 (k : Int)] w fun e w' => ∃ X q d, e = .returned (.tuple #[.slice X q d, .int .i64 0]) ∧ NatIs w' X q d (natOf l ^ k) ∧ Below w.heap.size w w' :=
  Calls.mono (mulPower_ok A c l w h.2.2.2.1 h.2.1 (by omega) h.2.2.2.2 k hk hi) fun _ _ h => pow_out h (by have h1 := nbits_pow (natOf l) k; rw [Nat.mul_comm] at h1; omega)
theorem bPow3_neg (h : RowIs w A l.length c l) (k : Int) (hk : k < 0) : Calls Try.prog 23 #[.slice A l.length c, .int .i64 k] w (OutErr 1 w) :=
  (fun _ => pow03_neg A c l w k hk) h
theorem bPow3_many (h : RowIs w A l.length c l) (hs : l.length ≤ 6) (k : Nat) (hk : 131072 < k) (h0 : natOf l ≠ 0) : Calls Try.prog 23 #[.slice A l.length c, .int .i64 (k : Int)] w (OutErr 4 w) :=
  pow03_many A c l w h.2.2.2.1 h.2.1 (by omega) k h0 (by have h1 := Nat.div_le_self 65536 (nbits (natOf l)); omega)
theorem bPow3_ok (h : RowIs w A l.length c l) (hs : l.length ≤ 6) (k : Nat) (hk : k * nbits (natOf l) ≤ 65536) : Calls Try.prog 23 #[.slice A l.length c, .int .i64 (k : Int)] w fun e w' => ∃ X q d, e = .returned (.tuple #[.slice X q d, .int .i64 0]) ∧ NatIs w' X q d (natOf l ^ k) ∧ Below w.heap.size w w' :=
  Calls.mono (pow03_ok A c l w h.2.2.2.1 h.2.1 (by omega) k (by
    rcases Nat.eq_zero_or_pos (nbits (natOf l)) with h1 | h1
    · left
      rcases Nat.eq_zero_or_pos (natOf l) with h2 | h2
      · exact h2
      · have := (nbits_iff (natOf l)).2 (by omega); omega
    · right; exact (Nat.le_div_iff_mul_le h1).2 hk)) fun _ _ h => pow_out h (by have h1 := nbits_pow (natOf l) k; rw [Nat.mul_comm] at h1; omega)
end
theorem same_none (A A2 : Option Addr) (c c2 : Nat) (w : World) : Calls Try.prog 16 #[.slice A 0 c, .slice A2 0 c2] w fun e w' => e = .returned (.bool true) ∧ Below w.heap.size w w' :=
  same_true A A2 0 c c2 [] w rfl Rd.nil Rd.nil (by omega)

/-! The examples -/
theorem wd_m : wd (18446744073709551615 * 18446744073709551615) = [1, 18446744073709551614] := wd_lit _ 128 (by decide) (by decide) _ (by decide)
theorem wd_p : wd (10 ^ 20) = [7766279631452241920, 5] := wd_lit _ 67 (by decide) (by decide) _ (by decide)
theorem pow_ten (w : World) : Calls Try.prog 22 #[.slice (some ⟨w.heap.size, 0, none⟩) 1 1, .int .i64 20] (w.alloc (.cells #[.int .u64 10] 34)) fun e w' => ∃ X d, e = .returned (.tuple #[.slice X 2 d, .int .i64 0]) ∧ Rd .u64 w' w'.heap.size X [7766279631452241920, 5] ∧ Below w.heap.size w w' := by
  have hn : nbits (natOf [10]) = 4 := nbits_eq _ _ (by decide) (by decide)
  have h := mulPower_ok (some ⟨w.heap.size, 0, none⟩) 1 [10] (w.alloc (.cells #[.int .u64 10] 34)) ((Rd.lit w .u64 34 [10]).more (by simp)) (by intro x hx; simp at hx; omega) (by simp) (by simp) 20 (by rw [hn]; omega) (by unfold MaxI; omega)
  refine Calls.mono h fun e w' ⟨v, he, own, hb⟩ => ?_
  obtain ⟨X, d, rfl, _⟩ := own_form own
  rw [show natOf [10] ^ 20 = 10 ^ 20 by decide] at own he
  have hq : (nbits (10 ^ 20) + 63) / 64 = 2 := by rw [← length_wd, wd_p]; rfl
  rw [hq, wd_p] at own
  rw [hq] at he
  exact ⟨X, d, he, Rd.own own, ((Below.refl _ w).alloc (Nat.le_refl _) _).trans (hb.mono (by simp))⟩
theorem pow_none (w : World) : Calls Try.prog 22 #[.slice none 0 0, .int .i64 0] w fun e w' => ∃ X d, e = .returned (.tuple #[.slice X 1 d, .int .i64 0]) ∧ Rd .u64 w' w'.heap.size X [1] ∧ Below w.heap.size w w' := by
  have h := mulPower_ok none 0 [] w Rd.nil (by intro x hx; cases hx) (by simp) (by simp) 0 (by simp) (by unfold MaxI; omega)
  refine Calls.mono h fun e w' ⟨v, he, own, hb⟩ => ?_
  obtain ⟨X, d, rfl, _⟩ := own_form own
  rw [Nat.pow_zero] at own he
  have hq : (nbits 1 + 63) / 64 = 1 := by rw [← length_wd, wd_d]; rfl
  rw [hq, wd_d] at own
  rw [hq] at he
  exact ⟨X, d, he, Rd.own own, hb⟩
theorem pow_neg (w : World) : Calls Try.prog 22 #[.slice (some ⟨w.heap.size, 0, none⟩) 1 1, .int .i64 (-1)] (w.alloc (.cells #[.int .u64 3] 34)) fun e w' => ∃ X d, e = .returned (.tuple #[.slice X 0 d, .int .i64 1]) ∧ Below w.heap.size w w' := by
  have h := mulPower_neg (some ⟨w.heap.size, 0, none⟩) 1 [3] (w.alloc (.cells #[.int .u64 3] 34)) ((Rd.lit w .u64 34 [3]).more (by simp)) (by intro x hx; simp at hx; omega) (by simp) (by simp) (-1) (by omega)
  exact Calls.mono h fun e w' ⟨X, d, he, hb⟩ => ⟨X, d, he, ((Below.refl _ w).alloc (Nat.le_refl _) _).trans (hb.mono (by simp))⟩
theorem mul_max (w : World) (g : Nat) (hr : Rd .u64 w w.heap.size (some ⟨g, 0, none⟩) [18446744073709551615]) : Calls Try.prog 12 #[.slice (some ⟨g, 0, none⟩) 1 1, .slice (some ⟨g, 0, none⟩) 1 1] w fun e w' => ∃ X d, e = .returned (.slice X 2 d) ∧ Rd .u64 w' w'.heap.size X [1, 18446744073709551614] ∧ Below w.heap.size w w' := by
  have h := mulMul_any (some ⟨g, 0, none⟩) (some ⟨g, 0, none⟩) 1 1 [18446744073709551615] [18446744073709551615] w hr (by intro x hx; simp at hx; omega) (by simp) (by simp) hr (by intro x hx; simp at hx; omega) (by simp) (by simp)
  refine Calls.mono h fun e w' h => ?_
  rw [show natOf [18446744073709551615] * natOf [18446744073709551615] = 18446744073709551615 * 18446744073709551615 by decide] at h
  obtain ⟨X, d, he, hR, hb, _⟩ := h.lit _ wd_m
  exact ⟨X, d, he, hR, hb⟩
theorem square_max (w : World) (g : Nat) (hr : Rd .u64 w w.heap.size (some ⟨g, 0, none⟩) [18446744073709551615]) : Calls Try.prog 13 #[.slice (some ⟨g, 0, none⟩) 1 1] w fun e w' => ∃ X d, e = .returned (.slice X 2 d) ∧ Rd .u64 w' w'.heap.size X [1, 18446744073709551614] ∧ Below w.heap.size w w' := by
  have h := mulSquare_any (some ⟨g, 0, none⟩) 1 [18446744073709551615] w hr (by intro x hx; simp at hx; omega) (by simp) (by simp)
  refine Calls.mono h fun e w' h => ?_
  rw [show natOf [18446744073709551615] * natOf [18446744073709551615] = 18446744073709551615 * 18446744073709551615 by decide] at h
  obtain ⟨X, d, he, hR, hb, _⟩ := h.lit _ wd_m
  exact ⟨X, d, he, hR, hb⟩

set_option maxHeartbeats 400000 in
theorem mulWorks_any (w : World) : Calls Try.prog 9 #[] w fun e w' => e = .returned (.bool true) ∧ Below w.heap.size w w' := by
  have R0 := (Rd.lit w .u64 34 [18446744073709551615]).more (B' := (w.alloc (.cells (ints .u64 [18446744073709551615]).toArray 34)).heap.size) (by simp)
  have b0 : Below w.heap.size w (w.alloc (.cells #[.int .u64 18446744073709551615] 34)) := (Below.refl _ w).alloc (Nat.le_refl _) _
  have R0' : Rd .u64 (w.alloc (.cells #[.int .u64 18446744073709551615] 34)) (w.alloc (.cells #[.int .u64 18446744073709551615] 34)).heap.size (some ⟨w.heap.size, 0, none⟩) [18446744073709551615] := R0
  obtain ⟨g, hg⟩ : ∃ g, w.heap.size = g := ⟨_, rfl⟩
  obtain ⟨w0, hw0⟩ : ∃ w0, w.alloc (.cells #[.int .u64 18446744073709551615] 34) = w0 := ⟨_, rfl⟩
  rw [hw0] at R0' b0
  rw [hg] at R0'
  clear R0
  go_enter Try.func9, Try.ntmps9
  go_wp2_with fail
  refine (pow_ten w0).mono ?_
  rintro e w1 ⟨X1, d1, rfl, R1, b1⟩
  have HG := Lib.hid hg
  clear hw0 hg
  have B1 := b0.trans (b1.mono b0.size)
  have R0' := rd_step R0' b1
  go_wp2_with fail
  refine (pow_none _).mono ?_
  rintro e w2 ⟨X2, d2, rfl, R2, b2⟩
  have B2 := B1.trans (b2.mono B1.size)
  have R0' := rd_step R0' b2
  have R1 := rd_step R1 b2
  go_wp2_with fail
  refine (pow_neg _).mono ?_
  rintro e w3 ⟨X3, d3, rfl, b3⟩
  have B3 := B2.trans (b3.mono B2.size)
  have R0' := rd_step R0' b3
  have R1 := rd_step R1 b3
  have R2 := rd_step R2 b3
  go_wp2_with fail
  refine (mul_max _ _ R0').mono ?_
  rintro e w4 ⟨X4, d4, rfl, R4, b4⟩
  have B4 := B3.trans (b4.mono B3.size)
  have R0' := rd_step R0' b4
  have R1 := rd_step R1 b4
  have R2 := rd_step R2 b4
  go_wp2_with fail
  refine (same_lit _ [1, 18446744073709551614] _ _ R4 (by decide)).mono ?_
  rintro e w5 ⟨rfl, b5⟩
  have B5 := B4.trans (b5.mono B4.size)
  have R0' := rd_step R0' b5
  have R1 := rd_step R1 b5
  have R2 := rd_step R2 b5
  go_wp2_with fail
  refine (square_max _ _ R0').mono ?_
  rintro e w6 ⟨X6, d6, rfl, R6, b6⟩
  have B6 := B5.trans (b6.mono B5.size)
  have R1 := rd_step R1 b6
  have R2 := rd_step R2 b6
  clear R0'
  go_wp2_with fail
  refine (same_lit _ [1, 18446744073709551614] _ _ R6 (by decide)).mono ?_
  rintro e w7 ⟨rfl, b7⟩
  have B7 := B6.trans (b7.mono B6.size)
  have R1 := rd_step R1 b7
  have R2 := rd_step R2 b7
  go_wp2_with fail
  refine (same_lit _ [7766279631452241920, 5] _ _ R1 (by decide)).mono ?_
  rintro e w8 ⟨rfl, b8⟩
  have B8 := B7.trans (b8.mono B7.size)
  have R2 := rd_step R2 b8
  go_wp2_with fail
  refine (same_lit _ [1] _ _ R2 (by decide)).mono ?_
  rintro e w9 ⟨rfl, b9⟩
  have B9 := B8.trans (b9.mono B8.size)
  go_wp2_with fail
  go_ret
  first | exact ⟨rfl, B9⟩ | exact ⟨rfl, by rw [← HG.out]; exact B9⟩
end Go.Proofs.Ytjdjklejchginaa

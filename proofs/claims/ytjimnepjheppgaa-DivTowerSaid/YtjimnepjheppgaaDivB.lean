/- div's contracts in the form that laws use. Conditions: as typed. -/
import Derived.Test.YtjimnepjheppgaaDivC
namespace Go.Proofs.Ytjimnepjheppgaa
open Go.RowKit
set_option maxRecDepth 20000

section
variable {w : World} {A A2 : Option Addr} {n m c c2 M N : Nat}
theorem bDiv_zero (h : NatIn w A n c M) (k : NatIn w A2 m c2 N) (h0 : N = 0) (hs : n ≤ 10000) (hs2 : m ≤ 10000) : Calls Try.prog 10 #[.slice A n c, .slice A2 m c2] w (OutErr3 5 w) := by
  obtain ⟨l, rfl, rfl, h3, h4, h5, h6⟩ := h
  obtain ⟨l2, rfl, rfl, k3, k4, k5, k6⟩ := k
  exact divDiv_zero A A2 c c2 l l2 w h5 h3 hs h6 k5 k3 hs2 k6 h0
theorem bDiv_ok (h : NatIn w A n c M) (k : NatIn w A2 m c2 N) (h0 : N ≠ 0) (hs : n ≤ 10000) (hs2 : m ≤ 10000) : Calls Try.prog 10 #[.slice A n c, .slice A2 m c2] w (OutDiv M N w) := by
  obtain ⟨l, rfl, rfl, h3, h4, h5, h6⟩ := h
  obtain ⟨l2, rfl, rfl, k3, k4, k5, k6⟩ := k
  exact divDiv_ok A A2 c c2 l l2 w h5 h3 hs h6 k5 k3 hs2 k6 h0
theorem bMod_zero (h : NatIn w A n c M) (k : NatIn w A2 m c2 N) (h0 : N = 0) (hs : n ≤ 10000) (hs2 : m ≤ 10000) : Calls Try.prog 12 #[.slice A n c, .slice A2 m c2] w (OutErr 5 w) := by
  obtain ⟨l, rfl, rfl, h3, h4, h5, h6⟩ := h
  obtain ⟨l2, rfl, rfl, k3, k4, k5, k6⟩ := k
  exact divMod_zero A A2 c c2 l l2 w h5 h3 hs h6 k5 k3 hs2 k6 h0
theorem bMod_ok (h : NatIn w A n c M) (k : NatIn w A2 m c2 N) (h0 : N ≠ 0) (hs : n ≤ 10000) (hs2 : m ≤ 10000) : Calls Try.prog 12 #[.slice A n c, .slice A2 m c2] w (OutMod M N w) := by
  obtain ⟨l, rfl, rfl, h3, h4, h5, h6⟩ := h
  obtain ⟨l2, rfl, rfl, k3, k4, k5, k6⟩ := k
  exact divMod_ok A A2 c c2 l l2 w h5 h3 hs h6 k5 k3 hs2 k6 h0
theorem bWord_zero (h : NatIn w A n c M) (hs : n ≤ 10000) : Calls Try.prog 14 #[.slice A n c, .int .u64 0] w (OutWordE w) := by
  obtain ⟨l, rfl, rfl, h3, h4, h5, h6⟩ := h
  exact divWord_zero A c l w h5 h3 hs h6
theorem bWord_ok (h : NatIn w A n c M) (hs : n ≤ 10000) (x : Nat) (hx : 0 < x) (hx2 : x < 18446744073709551616) : Calls Try.prog 14 #[.slice A n c, .int .u64 x] w (OutWord M x w) := by
  obtain ⟨l, rfl, rfl, h3, h4, h5, h6⟩ := h
  exact divWord_ok A c l w h5 h3 hs h6 x hx hx2
theorem bDiv4_zero (k : NatIn w A2 m c2 N) (h0 : N = 0) (hs2 : m ≤ 10000) : Calls Try.prog 11 #[.slice A n c, .slice A2 m c2] w (OutErr3 5 w) := by
  obtain ⟨l2, rfl, rfl, k3, k4, k5, k6⟩ := k
  exact div04_zero A A2 c c2 l2 w k5 k3 hs2 n h0
theorem bDiv4_ok (h : NatIn w A n c M) (k : NatIn w A2 m c2 N) (h0 : N ≠ 0) (hs : n ≤ 10000) (hs2 : m ≤ 10000) : Calls Try.prog 11 #[.slice A n c, .slice A2 m c2] w (OutDiv M N w) := by
  obtain ⟨l, rfl, rfl, h3, h4, h5, h6⟩ := h
  obtain ⟨l2, rfl, rfl, k3, k4, k5, k6⟩ := k
  exact div04_ok A A2 c c2 l l2 w h5 h3 hs k5 k3 hs2 h0
theorem bSmall2 (h : NatIn w A n c M) : Calls Try.prog 15 #[.slice A n c] w fun e w' => e = .returned (.tuple #[.int .u64 (smallV M), .bool (smallB M)]) ∧ Below w.heap.size w w' := by
  obtain ⟨l, rfl, rfl, h3, h4, h5, h6⟩ := h
  exact small02_any A c l w h5 h3 (by omega)
theorem natIn_empty (w : World) (X : Option Addr) (d : Nat) : NatIn w X 0 d 0 := ⟨[], rfl, rfl, (by intro x hx; cases hx), by omega, Rd.nil, Nat.zero_le _⟩
theorem cmp_less (h : NatIn w A n c M) (k : NatIn w A2 m c2 N) (hlt : M < N) : Calls Try.prog 18 #[.slice A n c, .slice A2 m c2] w fun e w' => e = .returned (.int .i64 (-1)) ∧ Below w.heap.size w w' := by
  have h := bCmp h k
  rwa [show cmpS M N = -1 by unfold cmpS; rw [if_pos hlt]] at h
end
/-- What a call answers where a literal was made first. -/
theorem div4_made {w : World} {A : Option Addr} {n c x : Nat} {R : World → Ending → World → Prop} (hR : ∀ o e w', R (w.alloc o) e w' → R w e w')
    (h : Calls Try.prog 11 #[.slice A n c, .slice (some ⟨w.heap.size, 0, none⟩) 1 1] (w.alloc (.cells #[.int .u64 x] 24)) (R (w.alloc (.cells #[.int .u64 x] 24)))) :
    Calls Try.prog 11 #[.slice A n c, .slice (some ⟨w.heap.size, 0, none⟩) 1 1] (w.alloc (.cells #[.int .u64 x] 24)) (R w) := Calls.mono h fun e w' h => hR _ e w' h
theorem below_made {w w' : World} {o : Obj} (h : Below (w.alloc o).heap.size (w.alloc o) w') : Below w.heap.size w w' := ((Below.refl _ w).alloc (Nat.le_refl _) o).trans (h.mono (by simp))
theorem OutDiv.made {M N : Nat} {w w' : World} {e : Ending} (o : Obj) (h : OutDiv M N (w.alloc o) e w') : OutDiv M N w e w' := by
  obtain ⟨X, q, d, Y, r, f, he, h1, h2, hb⟩ := h
  exact ⟨X, q, d, Y, r, f, he, h1, h2, below_made hb⟩
theorem OutErr3.made {x : Int} {w w' : World} {e : Ending} (o : Obj) (h : OutErr3 x (w.alloc o) e w') : OutErr3 x w e w' := by
  obtain ⟨X, d, Y, f, he, hb⟩ := h
  exact ⟨X, d, Y, f, he, below_made hb⟩
theorem natIn_word (w : World) (x : Nat) (hx : x < 18446744073709551616) : NatIn (w.alloc (.cells #[.int .u64 x] 24)) (some ⟨w.heap.size, 0, none⟩) 1 1 x := by
  have h := natIn_lit w [x] (by intro y hy; simp at hy; omega) (by simp)
  have e : natOf [x] = x := by simp [natOf]
  rwa [e] at h
/-- Two literals. -/
theorem two_lits (w : World) (l m : List Nat) (hl : Words l) (hm : Words m) (h1 : l.length ≤ 50000) (h2 : m.length ≤ 50000) :
    NatIn ((w.alloc (.cells (ints .u64 l).toArray 24)).alloc (.cells (ints .u64 m).toArray 24)) (some ⟨w.heap.size, 0, none⟩) l.length l.length (natOf l) ∧
    NatIn ((w.alloc (.cells (ints .u64 l).toArray 24)).alloc (.cells (ints .u64 m).toArray 24)) (some ⟨w.heap.size + 1, 0, none⟩) m.length m.length (natOf m) := by
  refine ⟨(natIn_lit w l hl h1).made _, ?_⟩
  have h := natIn_lit (w.alloc (.cells (ints .u64 l).toArray 24)) m hm h2
  rwa [World.size_alloc] at h

theorem back_q (a b c : Nat) (h : 0 < b) : (a * b + c % b) / b = a := by rw [Nat.mul_comm, Nat.mul_add_div h, Nat.div_eq_of_lt (Nat.mod_lt c h), Nat.add_zero]
theorem back_r (a b c : Nat) : (a * b + c % b) % b = c % b := by rw [Nat.mul_comm, Nat.mul_add_mod, Nat.mod_mod]

theorem bOf (w : World) (n : Nat) (hn : n < 18446744073709551616) : Calls Try.prog 21 #[.int .u64 (n : Int)] w (OutN n w) :=
  Calls.mono (natOf_any n w hn) fun _ _ h => h.out (by have := nbits_of_lt n 64 hn; omega)
theorem bWord_v {w : World} {A : Option Addr} {n c M : Nat} (h : NatIn w A n c M) (hs : n ≤ 10000) (x v : Nat) (hx : 0 < x) (hx2 : x < 18446744073709551616) (hv : v = M % x) : Calls Try.prog 14 #[.slice A n c, .int .u64 x] w fun e w' =>
    ∃ X q d, e = .returned (.tuple #[.slice X q d, .int .u64 (v : Int), .int .i64 0]) ∧ NatIs w' X q d (M / x) ∧ Below w.heap.size w w' := by
  subst hv
  exact bWord_ok h hs x hx hx2
theorem bSmall2_v {w : World} {A : Option Addr} {n c M : Nat} (h : NatIn w A n c M) (v : Nat) (hv : v = M) (hl : v < 18446744073709551616) : Calls Try.prog 15 #[.slice A n c] w fun e w' => e = .returned (.tuple #[.int .u64 (v : Int), .bool true]) ∧ Below w.heap.size w w' := by
  subst hv
  have h := bSmall2 h
  rwa [show smallV v = (v : Int) by unfold smallV; rw [if_pos hl], show smallB v = true by unfold smallB; exact decide_eq_true hl] at h
theorem bSmall2_0 (w : World) (X : Option Addr) (d : Nat) : Calls Try.prog 15 #[.slice X 0 d] w fun e w' => e = .returned (.tuple #[.int .u64 0, .bool true]) ∧ Below w.heap.size w w' := bSmall2_v (natIn_empty w X d) 0 rfl (by omega)
theorem div4_word_zero {w : World} {A : Option Addr} {n c : Nat} : Calls Try.prog 11 #[.slice A n c, .slice (some ⟨w.heap.size, 0, none⟩) 1 1] (w.alloc (.cells #[.int .u64 0] 24)) (OutErr3 5 w) :=
  Calls.mono (bDiv4_zero (natIn_word w 0 (by omega)) rfl (by omega)) fun _ _ h => h.made _
theorem div4_word_ok {w : World} {A : Option Addr} {n c M x : Nat} (h : NatIn w A n c M) (hs : n ≤ 10000) (hx : 0 < x) (hx2 : x < 18446744073709551616) : Calls Try.prog 11 #[.slice A n c, .slice (some ⟨w.heap.size, 0, none⟩) 1 1] (w.alloc (.cells #[.int .u64 (x : Int)] 24)) (OutDiv M x w) :=
  Calls.mono (bDiv4_ok (h.made _) (natIn_word w x hx2) (by omega) hs (by omega)) fun _ _ h => h.made _

/-! The examples -/
theorem wd_3 : wd 3 = [3] := wd_lit _ 2 (by decide) (by decide) _ (by decide)
theorem wd_2 : wd 2 = [2] := wd_lit _ 2 (by decide) (by decide) _ (by decide)
theorem wd_7 : wd 14285714285714285714 = [14285714285714285714] := wd_lit _ 64 (by decide) (by decide) _ (by decide)
theorem div_a (w : World) : Calls Try.prog 10 #[.slice (some ⟨w.heap.size, 0, none⟩) 1 1, .slice (some ⟨w.heap.size + 1, 0, none⟩) 1 1] ((w.alloc (.cells #[.int .u64 17] 24)).alloc (.cells #[.int .u64 5] 24)) fun e w' =>
    ∃ X d Y f, e = .returned (.tuple #[.slice X 1 d, .slice Y 1 f, .int .i64 0]) ∧ Rd .u64 w' w'.heap.size X [3] ∧ Rd .u64 w' w'.heap.size Y [2] ∧ Below w.heap.size w w' := by
  obtain ⟨h1, h2⟩ := two_lits w [17] [5] (by intro x hx; simp at hx; omega) (by intro x hx; simp at hx; omega) (by simp) (by simp)
  refine Calls.mono (bDiv_ok h1 h2 (by decide) (by simp) (by simp)) fun e w' ⟨X, q, d, Y, r, f, he, s1, s2, hb⟩ => ?_
  obtain ⟨e1, r1⟩ := s1.lit [3] (by rw [show natOf [17] / natOf [5] = 3 by decide]; exact wd_3)
  obtain ⟨e2, r2⟩ := s2.lit [2] (by rw [show natOf [17] % natOf [5] = 2 by decide]; exact wd_2)
  subst e1
  subst e2
  exact ⟨X, d, Y, f, he, r1, r2, below_made (below_made hb)⟩
theorem div_b (w : World) : Calls Try.prog 10 #[.slice (some ⟨w.heap.size, 0, none⟩) 1 1, .slice (some ⟨w.heap.size + 1, 0, none⟩) 1 1] ((w.alloc (.cells #[.int .u64 5] 24)).alloc (.cells #[.int .u64 0] 24)) (OutErr3 5 w) := by
  obtain ⟨h1, h2⟩ := two_lits w [5] [0] (by intro x hx; simp at hx; omega) (by intro x hx; simp at hx; omega) (by simp) (by simp)
  exact Calls.mono (bDiv_zero h1 h2 (by decide) (by simp) (by simp)) fun e w' h => (h.made _).made _
theorem div_c (w : World) : Calls Try.prog 10 #[.slice (some ⟨w.heap.size, 0, none⟩) 2 2, .slice (some ⟨w.heap.size + 1, 0, none⟩) 2 2] ((w.alloc (.cells #[.int .u64 18446744073709551615, .int .u64 18446744073709551615] 24)).alloc (.cells #[.int .u64 1, .int .u64 1] 24)) fun e w' =>
    ∃ X d Y f, e = .returned (.tuple #[.slice X 1 d, .slice Y 0 f, .int .i64 0]) ∧ Rd .u64 w' w'.heap.size X [18446744073709551615] ∧ Below w.heap.size w w' := by
  obtain ⟨h1, h2⟩ := two_lits w [18446744073709551615, 18446744073709551615] [1, 1] (by intro x hx; simp at hx; omega) (by intro x hx; simp at hx; omega) (by simp) (by simp)
  refine Calls.mono (bDiv_ok h1 h2 (by decide) (by simp) (by simp)) fun e w' ⟨X, q, d, Y, r, f, he, s1, s2, hb⟩ => ?_
  obtain ⟨e1, r1⟩ := s1.lit [18446744073709551615] (by rw [show natOf [18446744073709551615, 18446744073709551615] / natOf [1, 1] = 18446744073709551615 by decide]; exact wd_b)
  obtain ⟨e2, _⟩ := s2.lit [] (by rw [show natOf [18446744073709551615, 18446744073709551615] % natOf [1, 1] = 0 by decide]; exact wd_zero)
  subst e1
  subst e2
  exact ⟨X, d, Y, f, he, r1, below_made (below_made hb)⟩
theorem div_d (w : World) : Calls Try.prog 14 #[.slice (some ⟨w.heap.size, 0, none⟩) 2 2, .int .u64 7] (w.alloc (.cells #[.int .u64 7766279631452241920, .int .u64 5] 24)) fun e w' =>
    ∃ X d, e = .returned (.tuple #[.slice X 1 d, .int .u64 2, .int .i64 0]) ∧ Rd .u64 w' w'.heap.size X [14285714285714285714] ∧ Below w.heap.size w w' := by
  have h1 := natIn_lit w [7766279631452241920, 5] (by intro x hx; simp at hx; omega) (by simp)
  refine Calls.mono (bWord_ok h1 (by simp) 7 (by omega) (by omega)) fun e w' ⟨X, q, d, he, s1, hb⟩ => ?_
  obtain ⟨e1, r1⟩ := s1.lit [14285714285714285714] (by rw [show natOf [7766279631452241920, 5] / 7 = 14285714285714285714 by decide]; exact wd_7)
  subst e1
  rw [show natOf [7766279631452241920, 5] % 7 = 2 by decide] at he
  exact ⟨X, d, he, r1, below_made hb⟩

set_option maxHeartbeats 400000 in
theorem divWorks_any (w : World) : Calls Try.prog 8 #[] w fun e w' => e = .returned (.bool true) ∧ Below w.heap.size w w' := by
  go_enter Try.func8, Try.ntmps8
  go_wp2_with fail
  refine (div_a _).mono ?_
  rintro e w1 ⟨X1, d1, Y1, f1, rfl, R1, Q1, b1⟩
  go_wp2_with fail
  refine (div_b _).mono ?_
  rintro e w2 ⟨X2, d2, Y2, f2, rfl, b2⟩
  have B2 := below_step b1 b2
  have R1 := rd_step R1 b2
  have Q1 := rd_step Q1 b2
  go_wp2_with fail
  refine (div_c _).mono ?_
  rintro e w3 ⟨X3, d3, Y3, f3, rfl, R3, b3⟩
  have B3 := below_step B2 b3
  have R1 := rd_step R1 b3
  have Q1 := rd_step Q1 b3
  go_wp2_with fail
  refine (div_d _).mono ?_
  rintro e w4 ⟨X4, d4, rfl, R4, b4⟩
  have B4 := below_step B3 b4
  have R1 := rd_step R1 b4
  have Q1 := rd_step Q1 b4
  have R3 := rd_step R3 b4
  go_wp2_with fail
  refine (same_lit _ [3] _ _ R1 (by decide)).mono ?_
  rintro e w5 ⟨rfl, b5⟩
  have B5 := below_step B4 b5
  have Q1 := rd_step Q1 b5
  have R3 := rd_step R3 b5
  have R4 := rd_step R4 b5
  clear R1
  go_wp2_with fail
  refine (same_lit _ [2] _ _ Q1 (by decide)).mono ?_
  rintro e w6 ⟨rfl, b6⟩
  have B6 := below_step B5 b6
  have R3 := rd_step R3 b6
  have R4 := rd_step R4 b6
  clear Q1
  go_wp2_with fail
  refine (same_lit _ [18446744073709551615] _ _ R3 (by decide)).mono ?_
  rintro e w7 ⟨rfl, b7⟩
  have B7 := below_step B6 b7
  have R4 := rd_step R4 b7
  clear R3
  go_wp2_with fail
  refine (same_lit _ [14285714285714285714] _ _ R4 (by decide)).mono ?_
  rintro e w8 ⟨rfl, b8⟩
  have B8 := below_step B7 b8
  go_wp2_with fail
  go_ret
  exact ⟨rfl, B8⟩
end Go.Proofs.Ytjimnepjheppgaa

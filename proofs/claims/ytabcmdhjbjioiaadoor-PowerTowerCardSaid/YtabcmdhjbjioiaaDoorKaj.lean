/- Several texts in one; each begins with a remark that says what it shows and on which conditions. -/
import Derived.Test.YtabcmdhjbjioiaaDoorKab
import Derived.Test.YtabcmdhjbjioiaaDoorKai
import Derived.Lib.TrailingZeros
/- power's symbols of one word: how often 2 goes into a word, what 2 and a change of places add, the symbol of two words. Conditions: as typed; where 2's are counted, math/bits' table lies as the row lists it. -/
namespace Go.Proofs.YtabcmdhjbjioiaaDoor
open Go.RowKit
set_option maxRecDepth 20000
/-- The table of math/bits, as the program lays it. -/
def Laid8 (w : World) : Prop := ∃ t, w.heap[2]? = some (.cells (ints .u8 Lib.deBruijn64tab).toArray t (0, 0))
theorem Laid8.below {w w' : World} (h : Laid8 w) (b : Below w.heap.size w w') : Laid8 w' := by
  obtain ⟨t, h⟩ := h
  exact ⟨t, (b.block _ (Array.getElem?_eq_some_iff.1 h).1).trans h⟩
theorem Laid8.cell {w : World} (h : Laid8 w) (i : Nat) (hi : i < 64) : w.cell? ⟨2, i, none⟩ = some (.int .u8 (nth Lib.deBruijn64tab i : Int)) := by
  obtain ⟨t, h⟩ := h
  unfold World.cell?
  rw [h]
  have := ints_get .u8 Lib.deBruijn64tab i hi
  simpa using this
theorem low_one (x : Nat) (hx0 : 0 < x) (hx : x < 18446744073709551616) : ∃ t m, x = 2 ^ t * (2 * m + 1) ∧ t < 64 ∧ x &&& (18446744073709551616 - x) = 2 ^ t := by
  obtain ⟨m, h1, h2⟩ := Lib.ctzFrom_spec 64 x hx0 (by simpa using hx)
  refine ⟨_, m, h1, h2, ?_⟩
  have := Lib.and_neg 64 (Lib.ctzFrom 64 x) m (by rw [← h1]; simpa using hx)
  rw [← h1] at this
  simpa using this
set_option maxHeartbeats 1000000 in
theorem tz_any (x t : Nat) (w : World) (hL : Laid8 w) (hx0 : 0 < x) (hx : x < 18446744073709551616) (ht : t < 64) (hlow : x &&& (18446744073709551616 - x) = 2 ^ t) :
    Calls Tryd.prog 78 #[.int .u64 x] w fun e w' => e = .returned (.int .i64 (t : Nat)) ∧ w = w' := by
  obtain ⟨hi, htab⟩ := Lib.deBruijn64_at t ht
  obtain ⟨idx, hidx⟩ : ∃ idx, 2 ^ t * 285870213051353865 % 18446744073709551616 / 288230376151711744 = idx := ⟨_, rfl⟩
  rw [hidx] at hi htab
  have hc := hL.cell idx hi
  rw [show nth Lib.deBruijn64tab idx = t from htab] at hc
  have key : IntKind.u64.wrap (bits .and .u64 (x : Int) (IntKind.u64.wrap (-(x : Int))) * 285870213051353865) / 288230376151711744 = (idx : Int) := by
    have e1 : IntKind.u64.wrap (-(x : Int)) = ((18446744073709551616 - x : Nat) : Int) := by rw [IntKind.wrap_u64]; omega
    rw [e1, u64_and_nat x _ hx (by omega), hlow, IntKind.wrap_u64, ← hidx]
    generalize 2 ^ t = y
    omega
  have hb : ((x : Int) == 0) = false := by simp; omega
  clear hidx htab hlow
  go_enter Tryd.func78, Tryd.ntmps78
  go_wp2_with (simp only [key])
  go_ret
  exact ⟨rfl, rfl⟩
/-! What 2 adds, and a change of places -/
def twoS (x : Nat) : Int := if x % 8 = 3 ∨ x % 8 = 5 then -1 else 1
def swS (o n : Nat) : Int := if o % 4 = 3 ∧ n % 4 = 3 then -1 else 1
def chg (t o n : Nat) : Int := (if t % 2 = 1 then twoS n else 1) * swS o n
theorem twoS_cases (x : Nat) : twoS x = 1 ∨ twoS x = -1 := by unfold twoS; split <;> simp
theorem swS_cases (o n : Nat) : swS o n = 1 ∨ swS o n = -1 := by unfold swS; split <;> simp
theorem chg_cases (t o n : Nat) : chg t o n = 1 ∨ chg t o n = -1 := by
  unfold chg
  have h1 := twoS_cases n
  have h2 := swS_cases o n
  split <;> rcases h1 with e | e <;> rcases h2 with f | f <;> rw [f] <;> simp [e]
theorem chg_low (t o n : Nat) : chg t (o % 18446744073709551616) (n % 18446744073709551616) = chg t o n := by
  unfold chg twoS swS
  rw [show n % 18446744073709551616 % 8 = n % 8 by omega, show o % 18446744073709551616 % 4 = o % 4 by omega, show n % 18446744073709551616 % 4 = n % 4 by omega]
theorem jac_twos {n : Nat} (hn : n % 2 = 1) (t a : Nat) : jac (2 ^ t * a) n = (if t % 2 = 1 then twoS n else 1) * jac a n := by
  have h2 : jac 2 n = twoS n := by
    rw [jac_two n hn]; unfold twoS
    by_cases h : n % 8 = 1 ∨ n % 8 = 7
    · rw [if_pos h, if_neg (by omega)]
    · rw [if_neg h, if_pos (by omega)]
  induction t with
  | zero => simp
  | succ t ih =>
    rw [Nat.pow_succ, Nat.mul_comm (2 ^ t) 2, Nat.mul_assoc, jac_mul 2 _ n hn, ih, h2]
    rcases twoS_cases n with e | e <;> rw [e] <;> rcases Nat.mod_two_eq_zero_or_one t with h | h
    · rw [if_neg (by omega), if_pos (by omega)]; simp
    · rw [if_pos h, if_neg (by omega)]; simp
    · rw [if_neg (by omega), if_pos (by omega)]; simp
    · rw [if_pos h, if_neg (by omega)]; simp
/-- One step: the twos are left out, and the odd number changes places with n. -/
theorem jac_step {n o t : Nat} (hn : n % 2 = 1) (ho : o % 2 = 1) : jac (2 ^ t * o) n = chg t o n * jac (n % o) o := by
  rw [jac_twos hn, jac_left, jac_swap o n ho hn, chg, swS, Int.mul_assoc]
  congr 1
  split <;> simp
set_option maxHeartbeats 1000000 in
theorem ofTwo_any (x : Nat) (w : World) : Calls Tryd.prog 79 #[.int .u64 x] w fun e w' => e = .returned (.int .i64 (twoS x)) ∧ w = w' := by
  by_cases h7 : x % 8 = 7
  · have a7 : ((x : Int) % 8 == 7) = true := by simp; omega
    have hv := Lib.hid (show twoS x = 1 by unfold twoS; rw [if_neg (by omega)])
    clear h7
    go_enter Tryd.func79, Tryd.ntmps79
    go_wp2_with fail
    go_ret
    exact ⟨ret_num hv.out.symm, rfl⟩
  · have a7 : ((x : Int) % 8 == 7) = false := by simp; omega
    by_cases h3 : x % 8 = 3
    · have a3 : ((x : Int) % 8 == 3) = true := by simp; omega
      have hv := Lib.hid (show twoS x = -1 by unfold twoS; rw [if_pos (by omega)])
      clear h7 h3
      go_enter Tryd.func79, Tryd.ntmps79
      go_wp2_with fail
      go_ret
      exact ⟨ret_num hv.out.symm, rfl⟩
    · have a3 : ((x : Int) % 8 == 3) = false := by simp; omega
      by_cases h5 : x % 8 = 5
      · have a5 : ((x : Int) % 8 == 5) = true := by simp; omega
        have hv := Lib.hid (show twoS x = -1 by unfold twoS; rw [if_pos (by omega)])
        clear h7 h3 h5
        go_enter Tryd.func79, Tryd.ntmps79
        go_wp2_with fail
        go_ret
        exact ⟨ret_num hv.out.symm, rfl⟩
      · have a5 : ((x : Int) % 8 == 5) = false := by simp; omega
        have hv := Lib.hid (show twoS x = 1 by unfold twoS; rw [if_neg (by omega)])
        clear h7 h3 h5
        go_enter Tryd.func79, Tryd.ntmps79
        go_wp2_with fail
        go_ret
        exact ⟨ret_num hv.out.symm, rfl⟩
set_option maxHeartbeats 1000000 in
theorem changed_any (t o n : Nat) (c : Int) (hc : chg t o n = c) (w : World) : Calls Tryd.prog 54 #[.int .i64 t, .int .u64 o, .int .u64 n] w fun e w' => e = .returned (.int .i64 c) ∧ w = w' := by
  obtain ⟨s, hs⟩ : ∃ s, twoS n = s := ⟨_, rfl⟩
  have T := ofTwo_any n
  rw [hs] at T
  have hsc := twoS_cases n
  rw [hs] at hsc
  have HT := Lib.hid T
  clear T
  have hsb : -1 ≤ s ∧ s ≤ 1 := by omega
  by_cases h1 : t % 2 = 1
  · have b1 : ((t : Int) % 2 == 1) = true := by simp; omega
    by_cases h2 : o % 4 = 3
    · have b2 : ((o : Int) % 4 == 3) = true := by simp; omega
      by_cases h3 : n % 4 = 3
      · have b3 : ((n : Int) % 4 == 3) = true := by simp; omega
        have hv := Lib.hid (show c = -s by rw [← hc, chg, swS, if_pos h1, if_pos ⟨h2, h3⟩, hs]; omega)
        clear h1 h2 h3 hs hsc hc
        go_enter Tryd.func54, Tryd.ntmps54
        go_wp2_with fail
        refine (HT.out _).mono ?_
        rintro e w' ⟨rfl, rfl⟩
        go_wp2_with fail
        go_ret
        exact ⟨ret_num hv.out.symm, rfl⟩
      · have b3 : ((n : Int) % 4 == 3) = false := by simp; omega
        have hv := Lib.hid (show c = s by rw [← hc, chg, swS, if_pos h1, if_neg (by omega), hs]; omega)
        clear h1 h2 h3 hs hsc hc
        go_enter Tryd.func54, Tryd.ntmps54
        go_wp2_with fail
        refine (HT.out _).mono ?_
        rintro e w' ⟨rfl, rfl⟩
        go_wp2_with fail
        go_ret
        exact ⟨ret_num hv.out.symm, rfl⟩
    · have b2 : ((o : Int) % 4 == 3) = false := by simp; omega
      have hv := Lib.hid (show c = s by rw [← hc, chg, swS, if_pos h1, if_neg (by omega), hs]; omega)
      clear h1 h2 hs hsc hc
      go_enter Tryd.func54, Tryd.ntmps54
      go_wp2_with fail
      refine (HT.out _).mono ?_
      rintro e w' ⟨rfl, rfl⟩
      go_wp2_with fail
      go_ret
      exact ⟨ret_num hv.out.symm, rfl⟩
  · have b1 : ((t : Int) % 2 == 1) = false := by simp; omega
    clear hsc hs
    by_cases h2 : o % 4 = 3
    · have b2 : ((o : Int) % 4 == 3) = true := by simp; omega
      by_cases h3 : n % 4 = 3
      · have b3 : ((n : Int) % 4 == 3) = true := by simp; omega
        have hv := Lib.hid (show c = -1 by rw [← hc, chg, swS, if_neg h1, if_pos ⟨h2, h3⟩]; omega)
        clear h1 h2 h3 hc
        go_enter Tryd.func54, Tryd.ntmps54
        go_wp2_with fail
        go_ret
        exact ⟨ret_num hv.out.symm, rfl⟩
      · have b3 : ((n : Int) % 4 == 3) = false := by simp; omega
        have hv := Lib.hid (show c = 1 by rw [← hc, chg, swS, if_neg h1, if_neg (by omega)]; omega)
        clear h1 h2 h3 hc
        go_enter Tryd.func54, Tryd.ntmps54
        go_wp2_with fail
        go_ret
        exact ⟨ret_num hv.out.symm, rfl⟩
    · have b2 : ((o : Int) % 4 == 3) = false := by simp; omega
      have hv := Lib.hid (show c = 1 by rw [← hc, chg, swS, if_neg h1, if_neg (by omega)]; omega)
      clear h1 h2 hc
      go_enter Tryd.func54, Tryd.ntmps54
      go_wp2_with fail
      go_ret
      exact ⟨ret_num hv.out.symm, rfl⟩
theorem jac_zero_left {n : Nat} (h : n ≠ 1) : jac 0 n = 0 := by rw [jac_zero_iff, Nat.gcd_zero_left]; exact h
/-- Between two rounds of the symbol: so much times the symbol that is left. -/
structure JacMid (J : Int) (N M : Nat) (s : Int) : Prop where
  odd : M % 2 = 1
  is : s * jac N M = J
  sign : s = 1 ∨ s = -1
theorem JacMid.step {J : Int} {N M t o : Nat} {s c p : Int} (h : JacMid J N M s) (hN : N = 2 ^ t * o) (ho : o % 2 = 1) (hc : chg t o M = c) (hp : s * c = p) : JacMid J (M % o) o p ∧ M % o < N ∧ (p = 1 ∨ p = -1) := by
  have h1 := h.is
  have h2 := chg_cases t o M
  have hpp : p = 1 ∨ p = -1 := by rw [hc] at h2; rcases h.sign with e | e <;> rcases h2 with f | f <;> rw [← hp, e, f] <;> simp
  refine ⟨⟨ho, ?_, hpp⟩, ?_, hpp⟩
  · rw [hN, jac_step h.odd ho, hc, ← Int.mul_assoc, hp] at h1
    exact h1
  · have h3 : M % o < o := Nat.mod_lt _ (by omega)
    have h4 : o ≤ 2 ^ t * o := Nat.le_mul_of_pos_left _ (Nat.pow_pos (by omega))
    omega
set_option maxHeartbeats 2000000 in
theorem ofWords_any (a n : Nat) (J : Int) (hJ : jac a n = J) (ho : n % 2 = 1) (ha : a < 18446744073709551616) (hn : n < 18446744073709551616) (w : World) (hL : Laid8 w) :
    Calls Tryd.prog 52 #[.int .u64 a, .int .u64 n] w fun e w' => e = .returned (.int .i64 J) ∧ w = w' := by
  have HS0 := Lib.hid (show JacMid J a n 1 from ⟨ho, by rw [Int.one_mul]; exact hJ, .inl rfl⟩)
  have HL := Lib.hid hL
  clear hL hJ
  go_enter Tryd.func52, Tryd.ntmps52
  go_wp2_with fail
  go_loopw [0, 1, 5] (fun av nv sv wr => ∃ (N M : Nat) (s : Int), av = .int .u64 N ∧ nv = .int .u64 M ∧ sv = .int .i64 s ∧ JacMid J N M s ∧ N < 18446744073709551616 ∧ M < 18446744073709551616 ∧ w = wr) (fun av _ _ _ => (intOf av).toNat)
  case atStart => exact ⟨a, n, 1, rfl, rfl, rfl, HS0.out, ha, hn, rfl⟩
  case round =>
    obtain ⟨N, M, s, rfl, rfl, rfl, hS, hN, hM, rfl⟩ := hrel
    have HS := Lib.hid hS
    by_cases h0 : N = 0
    · subst h0
      by_cases h1 : M = 1
      · subst h1
        have hv := Lib.hid (show J = s by rw [← hS.is, jac_one, Int.mul_one])
        clear hS HS
        go_wp2_with fail
        go_ret
        exact ⟨ret_num hv.out.symm, rfl⟩
      · have hb : ((M : Int) == 1) = false := by simp; omega
        have hv := Lib.hid (show J = 0 by rw [← hS.is, jac_zero_left h1, Int.mul_zero])
        clear hS HS h1
        go_wp2_with fail
        go_ret
        exact ⟨ret_num hv.out.symm, rfl⟩
    · have hb : ((N : Int) == 0) = false := by simp; omega
      obtain ⟨t, m, e1, e2, e3⟩ := low_one N (by omega) hN
      have HZ := Lib.hid (tz_any N t w HL.out (by omega) hN e2 e3)
      obtain ⟨o, hoo⟩ : ∃ o, 2 * m + 1 = o := ⟨_, rfl⟩
      rw [hoo] at e1
      have ho2 : o % 2 = 1 := by omega
      have hdiv : (N : Int) / 2 ^ t = (o : Int) := by
        rw [show (2 : Int) ^ t = ((2 ^ t : Nat) : Int) by simp, ← Int.natCast_ediv, e1, Nat.mul_div_cancel_left _ (Nat.pow_pos (by omega))]
      have hoN : o ≤ N := by rw [e1]; exact Nat.le_mul_of_pos_left _ (Nat.pow_pos (by omega))
      obtain ⟨c, hc⟩ : ∃ c, chg t o M = c := ⟨_, rfl⟩
      obtain ⟨p, hp⟩ : ∃ p, s * c = p := ⟨_, rfl⟩
      obtain ⟨hS2, hlt, hpp⟩ := hS.step e1 ho2 hc hp
      have HC := Lib.hid (changed_any t o M c hc w)
      have HS2 := Lib.hid hS2
      have hpb : -1 ≤ p ∧ p ≤ 1 := by omega
      have ho0 : ((o : Int) == 0) = false := by simp; omega
      have hmod : M % o < o := Nat.mod_lt _ (by omega)
      obtain ⟨R, hR⟩ : ∃ R, M % o = R := ⟨_, rfl⟩
      have hmI : (M : Int) % (o : Int) = (R : Int) := by rw [← hR]; simp
      rw [hR] at HS2 hlt hmod
      clear hS HS hS2 h0 e1 e3 hoo hc hpp hR
      go_wp2_with fail
      refine (HZ.out).mono ?_
      rintro e w' ⟨rfl, rfl⟩
      go_wp2_with fail
      refine (HC.out).mono ?_
      rintro e w' ⟨rfl, rfl⟩
      go_wp2_with fail
      go_roundw
      case rel => exact ⟨R, o, p, by rw [hmI], rfl, rfl, HS2.out, by omega, by omega, trivial⟩
      case measure => simp [intOf]; omega
end Go.Proofs.YtabcmdhjbjioiaaDoor
/- power.withoutTwos: the odd number that remains of a great one, and how many twos it lacks. Conditions: as typed; math/bits' table lies as the row lists it. -/
namespace Go.Proofs.YtabcmdhjbjioiaaDoor
open Go.RowKit
set_option maxRecDepth 20000
theorem natIn_drop8 {w : World} {g o n c M i : Nat} (h : NatIn w (some ⟨g, o, none⟩) n c M) (hi : i < n) : NatIn w (some ⟨g, o + i, none⟩) (n - i) (c - i) (M / 18446744073709551616 ^ i) := by
  obtain ⟨l, rfl, rfl, h3, h4, h5, h6⟩ := h
  have hr := h5.drop (i := i) h6
  rw [if_neg (by omega), show (some (⟨g, o, none⟩ : Addr)).map (·.add i) = some ⟨g, o + i, none⟩ by by_cases h0 : i = 0 <;> simp [Addr.add, h0]] at hr
  have hp := natOf_parts l i
  have hlt := natOf_take_lt l h3 i
  refine ⟨l.drop i, by simp, ?_, fun x hx => h3 x (List.mem_of_mem_drop hx), by omega, hr, by omega⟩
  rw [hp, Nat.add_mul_div_left _ _ (Nat.pow_pos (by omega)), Nat.div_eq_of_lt hlt, Nat.zero_add]
theorem word_twos {V r m : Nat} (h : V % 18446744073709551616 = 2 ^ r * (2 * m + 1)) (hr : r < 64) : V = 2 ^ r * (V / 2 ^ r) ∧ V / 2 ^ r % 2 = 1 := by
  have h1 := Nat.div_add_mod V 18446744073709551616
  have h2 : 18446744073709551616 = 2 ^ r * (2 * 2 ^ (63 - r)) := by
    rw [← Nat.pow_succ', ← Nat.pow_add, show r + (63 - r).succ = 64 by omega]
  have h3 : V = 2 ^ r * (2 * (2 ^ (63 - r) * (V / 18446744073709551616) + m) + 1) := by
    rw [h] at h1
    conv => lhs; rw [← h1]
    conv => lhs; arg 1; arg 1; rw [h2]
    rw [Nat.mul_assoc, ← Nat.mul_add]
    congr 1
    rw [Nat.mul_assoc]
    omega
  have h4 : V / 2 ^ r = 2 * (2 ^ (63 - r) * (V / 18446744073709551616) + m) + 1 := by
    conv => lhs; arg 1; rw [h3]
    exact Nat.mul_div_cancel_left _ (Nat.pow_pos (by omega))
  exact ⟨by rw [h4]; exact h3, by rw [h4]; omega⟩
theorem noughts_on {M k n : Nat} (h : M = 18446744073709551616 ^ k * (M / 18446744073709551616 ^ k)) (h0 : M / 18446744073709551616 ^ k % 18446744073709551616 = 0) (hM : 0 < M) (hn : M < 18446744073709551616 ^ n) : M = 18446744073709551616 ^ (k + 1) * (M / 18446744073709551616 ^ (k + 1)) ∧ k + 1 < n := by
  have h1 : M = 18446744073709551616 ^ (k + 1) * (M / 18446744073709551616 ^ (k + 1)) := by
    rw [Nat.pow_succ, ← Nat.div_div_eq_div_mul, Nat.mul_assoc]
    have h2 := Nat.div_add_mod (M / 18446744073709551616 ^ k) 18446744073709551616
    rw [h0, Nat.add_zero] at h2
    rw [h2]
    exact h
  refine ⟨h1, ?_⟩
  rcases Nat.lt_or_ge (k + 1) n with h2 | h2
  · exact h2
  · exfalso
    have h3 : M < 18446744073709551616 ^ (k + 1) := Nat.lt_of_lt_of_le hn (Nat.pow_le_pow_right (by omega) h2)
    rw [Nat.div_eq_of_lt h3, Nat.mul_zero] at h1
    omega
/-- The odd number that remains, and how often it must be doubled again. -/
def OutTwos (M n : Nat) (w : World) (e : Ending) (w' : World) : Prop := ∃ X q d t o, e = .returned (.tuple #[.slice X q d, .int .i64 (t : Nat)]) ∧ M = 2 ^ t * o ∧ o % 2 = 1 ∧ t < 64 * n ∧ NatIs w' X q d o ∧ Below w.heap.size w w'
set_option maxHeartbeats 2000000 in
theorem twos_any {w : World} {A : Option Addr} {n c M : Nat} (h : NatIn w A n c M) (hM : 0 < M) (hn : n ≤ 9500) (hL : Laid8 w) : Calls Tryd.prog 53 #[.slice A n c] w (OutTwos M n w) := by
  have HH := Lib.hid h
  obtain ⟨l, hl, hlM, hw, _, hr, hc⟩ := h
  have hlt : M < 18446744073709551616 ^ n := by rw [← hl, ← hlM]; exact natOf_lt l hw
  have hn0 : 0 < n := by
    rcases Nat.eq_zero_or_pos n with e | e
    · subst e; simp at hlt; omega
    · exact e
  obtain ⟨g, o, rfl, _, hcell⟩ := hr (by omega)
  have HC := Lib.hid hcell
  have HL := Lib.hid hL
  have HLT := Lib.hid hlt
  have HW := Lib.hid hw
  have Hl := Lib.hid hl
  have HlM := Lib.hid hlM
  clear hcell hL hr hlt hw hl hlM
  go_enter Tryd.func53, Tryd.ntmps53
  go_wp2_with fail
  go_loopw [4] (fun kv wr => ∃ k : Nat, k < n ∧ kv = .int .i64 k ∧ Hid (M = 18446744073709551616 ^ k * (M / 18446744073709551616 ^ k)) ∧ w = wr) (fun kv _ => n - (intOf kv).toNat)
  case atStart => exact ⟨0, hn0, rfl, Lib.hid (by simp), rfl⟩
  case round =>
    obtain ⟨k, hk, rfl, hM2, rfl⟩ := hrel
    have hcl := HC.out k (by rw [Hl.out]; exact hk)
    have hnt := nth_natOf l HW.out k
    rw [HlM.out] at hnt
    obtain ⟨x, hx⟩ : ∃ x, nth l k = x := ⟨_, rfl⟩
    rw [hx] at hcl hnt
    have hx2 : x < 18446744073709551616 := by rw [hnt]; exact Nat.mod_lt _ (by omega)
    by_cases h0 : x = 0
    · subst h0
      have HN := Lib.hid (noughts_on hM2.out hnt.symm hM HLT.out)
      have hk2 := HN.out.2
      clear hnt hx
      go_wp2_with fail
      go_roundw
      case rel => exact ⟨k + 1, hk2, by go_num, Lib.hid HN.out.1, trivial⟩
      case measure => simp [intOf]; omega
    · have hb : ((x : Int) == 0) = false := by simp; omega
      obtain ⟨r, m, e1, e2, e3⟩ := low_one x (by omega) hx2
      have HZ := Lib.hid (tz_any x r w HL.out (by omega) hx2 e2 e3)
      have HT := Lib.hid (word_twos (hnt.symm.trans e1) e2)
      have HS := Lib.hid (bShr (natIn_drop8 HH.out hk) (r : Int))
      have hck : ¬ c = k := by omega
      clear hnt e1 e3 h0 hx
      go_wp2_with fail
      refine (HZ.out).mono ?_
      rintro e w' ⟨rfl, rfl⟩
      go_wp2_with fail
      refine (HS.out).mono ?_
      rintro e w1 ⟨X, q, d, rfl, S, _, b1⟩
      have e4 : shrS (M / 18446744073709551616 ^ k) (r : Int) = M / 18446744073709551616 ^ k / 2 ^ r := by unfold shrS; rw [if_pos (by omega), Int.toNat_natCast]
      rw [e4] at S
      have HSS := Lib.hid S
      clear S e4
      go_wp2_with fail
      go_ret2
      refine ⟨X, q, d, 64 * k + r, M / 18446744073709551616 ^ k / 2 ^ r, ?_, ?_, HT.out.2, by omega, HSS.out, b1⟩
      · simp
        omega
      · rw [Nat.pow_add, ← pow_64_2, Nat.mul_assoc, ← HT.out.1]
        exact hM2.out
end Go.Proofs.YtabcmdhjbjioiaaDoor

/- Several texts in one; each begins with a remark that says what it shows and on which conditions. -/
import Derived.Test.YtgmolbiicclcaaaKab
import Derived.Test.YtgmolbiicclcaaaKag
import Derived.RangeFuncBox
import Derived.BigQuiet
import Derived.IntWalk
/- Plain facts on common divisors: the least x for which a x is the greatest common divisor and so often b; inverses. No condition but those typed; no program is named. -/
namespace Go.Proofs.Ytgmolbiicclcaaa
/-- x and y are the least with M x = gcd + N y (0 and 0 where there may be none). -/
structure ExtIs (M N x y : Nat) : Prop where
  zero : M = 0 → x = 0 ∧ y = 0
  eq : M ≠ 0 → M * x = Nat.gcd M N + N * y
  least : M ≠ 0 → ∀ x' y', M * x' = Nat.gcd M N + N * y' → x ≤ x'
  low : N = 0 → y = 0
section
variable {M N x y : Nat}
theorem ExtIs.one (h : ExtIs M N x y) (hM : M ≠ 0) (hN : N = 0) : x = 1 ∧ y = 0 := by
  have h1 := h.eq hM
  have h2 := h.low hN
  subst hN
  rw [Nat.gcd_zero_right, Nat.zero_mul, Nat.add_zero] at h1
  exact ⟨Nat.eq_of_mul_eq_mul_left (Nat.pos_of_ne_zero hM) (by rw [h1, Nat.mul_one]), h2⟩
theorem ExtIs.pos (h : ExtIs M N x y) (hM : M ≠ 0) : 1 ≤ x := by
  have h1 := h.eq hM
  have h2 := Nat.gcd_pos_of_pos_left N (Nat.pos_of_ne_zero hM)
  rcases Nat.eq_zero_or_pos x with h3 | h3
  · rw [h3, Nat.mul_zero] at h1; omega
  · exact h3
theorem ExtIs.le (h : ExtIs M N x y) (hM : M ≠ 0) (hN : N ≠ 0) : x ≤ N / Nat.gcd M N := by
  have hg := Nat.gcd_pos_of_pos_left N (Nat.pos_of_ne_zero hM)
  obtain ⟨a, ha⟩ := Nat.gcd_dvd_left M N
  obtain ⟨b, hb⟩ := Nat.gcd_dvd_right M N
  have h1 := h.eq hM
  have h2 := h.least hM
  have ha0 : 0 < a := by
    rcases Nat.eq_zero_or_pos a with h3 | h3
    · rw [h3, Nat.mul_zero] at ha; exact absurd ha hM
    · exact h3
  generalize Nat.gcd M N = g at *
  have e : N / g = b := by rw [hb, Nat.mul_div_cancel_left _ hg]
  rw [e]
  rcases Nat.lt_or_ge b x with h3 | h3
  · exfalso
    obtain ⟨t, rfl⟩ : ∃ t, x = b + t := ⟨x - b, by omega⟩
    have ht : 1 ≤ t := by omega
    have e2 : M * b = N * a := by rw [ha, hb, Nat.mul_assoc, Nat.mul_assoc, Nat.mul_comm a b]
    have e3 : N * a + M * t = g + N * y := by rw [← e2, ← Nat.mul_add]; exact h1
    have h4 : g ≤ M * t := by
      rw [ha, Nat.mul_assoc]
      exact Nat.le_mul_of_pos_right g (Nat.mul_pos ha0 ht)
    have h5 : N * a ≤ N * y := by omega
    have h6 : a ≤ y := Nat.le_of_mul_le_mul_left h5 (Nat.pos_of_ne_zero hN)
    obtain ⟨s, rfl⟩ : ∃ s, y = a + s := ⟨y - a, by omega⟩
    have h7 := h2 t s (by rw [Nat.mul_add] at e3; omega)
    have hb0 : 0 < b := by
      rcases Nat.eq_zero_or_pos b with h8 | h8
      · rw [h8, Nat.mul_zero] at hb; exact absurd hb hN
      · exact h8
    omega
  · exact h3
theorem ExtIs.below (h : ExtIs M N x y) (hM : M ≠ 0) (hN : N ≠ 0) : x < N / Nat.gcd M N ∨ N / Nat.gcd M N = 1 := by
  have hle := h.le hM hN
  rcases Nat.lt_or_ge x (N / Nat.gcd M N) with h1 | h1
  · exact .inl h1
  · right
    have hx : x = N / Nat.gcd M N := by omega
    have hg := Nat.gcd_pos_of_pos_left N (Nat.pos_of_ne_zero hM)
    obtain ⟨a, ha⟩ := Nat.gcd_dvd_left M N
    obtain ⟨b, hb⟩ := Nat.gcd_dvd_right M N
    have h2 := h.eq hM
    generalize Nat.gcd M N = g at *
    have e : N / g = b := by rw [hb, Nat.mul_div_cancel_left _ hg]
    rw [e] at hx ⊢
    subst hx
    have e2 : M * x = N * a := by rw [ha, hb, Nat.mul_assoc, Nat.mul_assoc, Nat.mul_comm a x]
    have e3 : N * a = g + N * y := by rw [← e2]; exact h2
    have hya : y < a := by
      rcases Nat.lt_or_ge y a with h3 | h3
      · exact h3
      · have := Nat.mul_le_mul_left N h3; omega
    obtain ⟨t, rfl⟩ : ∃ t, a = y + 1 + t := ⟨a - (y + 1), by omega⟩
    have e4 : N * (1 + t) = g := by rw [Nat.add_assoc, Nat.mul_add] at e3; omega
    have h4 : N ≤ g := by rw [← e4]; exact Nat.le_mul_of_pos_right N (by omega)
    rw [hb] at h4
    have h5 : x ≤ 1 := Nat.le_of_mul_le_mul_left (by rw [Nat.mul_one]; exact h4) hg
    rcases Nat.eq_zero_or_pos x with h6 | h6
    · rw [h6, Nat.mul_zero] at hb; exact absurd hb hN
    · omega
end
/-- So often the one is the greatest common divisor more than so often the other. -/
theorem bez (n : Nat) : ∀ a b, b ≤ n → 0 < a → ∃ x y, a * x = Nat.gcd a b + b * y := by
  induction n with
  | zero => intro a b hb _; obtain rfl : b = 0 := by omega
            exact ⟨1, 0, by rw [Nat.gcd_zero_right]; omega⟩
  | succ n ih =>
    intro a b hb ha
    by_cases h0 : b = 0
    · subst h0; exact ⟨1, 0, by rw [Nat.gcd_zero_right]; omega⟩
    · have hlt := Nat.mod_lt a (Nat.pos_of_ne_zero h0)
      obtain ⟨x', y', e⟩ := ih b (a % b) (by omega) (Nat.pos_of_ne_zero h0)
      have eg : Nat.gcd b (a % b) = Nat.gcd a b := by rw [Nat.gcd_comm b, ← Nat.gcd_rec, Nat.gcd_comm]
      rw [eg] at e
      have da := Nat.div_add_mod a b
      generalize a / b = q at *
      generalize a % b = r at *
      generalize Nat.gcd a b = g at *
      by_cases hr : r = 0
      · subst hr
        rw [Nat.zero_mul, Nat.add_zero] at e
        rw [Nat.add_zero] at da
        have hq : 0 < q := by rcases Nat.eq_zero_or_pos q with h | h; (rw [h, Nat.mul_zero] at da; omega); exact h
        obtain ⟨t, rfl⟩ : ∃ t, q = t + 1 := ⟨q - 1, by omega⟩
        refine ⟨x', x' * t, ?_⟩
        rw [← da, ← e, Nat.mul_right_comm, Nat.mul_add, Nat.mul_one, ← Nat.mul_assoc, Nat.add_comm]
      · obtain ⟨X, hX⟩ : ∃ X, X + y' = b * (x' + y') := ⟨b * (x' + y') - y', by have := Nat.le_mul_of_pos_left (x' + y') (Nat.pos_of_ne_zero h0); omega⟩
        obtain ⟨Y, hY⟩ : ∃ Y, Y + x' = r * (x' + y') := ⟨r * (x' + y') - x', by have := Nat.le_mul_of_pos_left (x' + y') (Nat.pos_of_ne_zero hr); omega⟩
        have h1 : r * X + r * y' = r * (b * (x' + y')) := by rw [← Nat.mul_add, hX]
        have h2 : b * Y + b * x' = b * (r * (x' + y')) := by rw [← Nat.mul_add, hY]
        have h3 := Nat.mul_left_comm r b (x' + y')
        refine ⟨X, q * X + Y, ?_⟩
        rw [← da, Nat.add_mul, Nat.mul_add, Nat.mul_assoc]
        omega
theorem inv_some (a m : Nat) (hm : m ≠ 0) (hg : Nat.gcd a m = 1) : ∃ v, v < m ∧ v * a % m = 1 % m := by
  by_cases ha : a = 0
  · subst ha; rw [Nat.gcd_zero_left] at hg; subst hg; exact ⟨0, by omega, by omega⟩
  · obtain ⟨x, y, e⟩ := bez m a m (Nat.le_refl _) (Nat.pos_of_ne_zero ha)
    refine ⟨x % m, Nat.mod_lt _ (Nat.pos_of_ne_zero hm), ?_⟩
    rw [Nat.mod_mul_mod, Nat.mul_comm, e, hg, Nat.add_mul_mod_self_left]
end Go.Proofs.Ytgmolbiicclcaaa
/- The steps of divisions: what stands between two of them, and what they come to. No condition but those typed; no program is named. -/
namespace Go.Proofs.Ytgmolbiicclcaaa
/-- Between two steps of M and N. -/
structure GMid (M N a b last next : Nat) (less : Bool) : Prop where
  gcd : Nat.gcd a b = Nat.gcd M N
  sum : a * next + b * last = N
  lo : less = false → (∃ Y, M * last = a + N * Y) ∧ ∃ Z, M * next + b = N * Z
  hi : less = true → (∃ Y, M * last + a = N * Y) ∧ ∃ Z, M * next = b + N * Z
  ord : (last = 1 ∧ next = 0 ∧ less = false ∧ a = M ∧ b = N) ∨ (b < a ∧ 1 ≤ next ∧ (less = false → 1 ≤ last ∧ last ≤ next) ∧ (less = true → last < next))
theorem gcd_next (a b : Nat) : Nat.gcd b (a % b) = Nat.gcd a b := by rw [Nat.gcd_comm b, ← Nat.gcd_rec, Nat.gcd_comm]
theorem GMid.start (M N : Nat) : GMid M N M N 1 0 false := ⟨rfl, by omega, fun _ => ⟨⟨0, by omega⟩, 1, by omega⟩, fun h => (by cases h), .inl ⟨rfl, rfl, rfl, rfl, rfl⟩⟩
section
variable {M N a b last next : Nat} {less : Bool}
theorem GMid.step (h : GMid M N a b last next less) (hb : b ≠ 0) : GMid M N b (a % b) next (last + a / b * next) (!less) := by
  obtain ⟨h1, h2, h3, h4, h5⟩ := h
  have hq := Nat.div_add_mod a b
  have hr := Nat.mod_lt a (Nat.pos_of_ne_zero hb)
  have hg := gcd_next a b
  have hq1 : b < a → 1 ≤ a / b := fun h => Nat.div_pos (by omega) (by omega)
  generalize a / b = q at *
  generalize a % b = r at *
  refine ⟨by omega, ?_, fun h => ?_, fun h => ?_, .inr ⟨hr, ?_, fun h => ?_, fun h => ?_⟩⟩
  · rw [← h2, ← hq]; grind
  · obtain ⟨⟨Y, hY⟩, Z, hZ⟩ := h4 (by simpa using h)
    refine ⟨⟨Z, hZ⟩, Y + q * Z, ?_⟩
    have e : M * (q * next) = q * (b + N * Z) := by rw [← hZ]; grind
    grind
  · obtain ⟨⟨Y, hY⟩, Z, hZ⟩ := h3 (by simpa using h)
    refine ⟨⟨Z, hZ⟩, Y + q * Z, ?_⟩
    have e : M * (q * next) + q * b = q * (N * Z) := by rw [← hZ]; grind
    grind
  · rcases h5 with ⟨rfl, rfl, _⟩ | ⟨h, h6, _⟩
    · omega
    · have := Nat.mul_le_mul (hq1 h) h6; omega
  · rcases h5 with ⟨_, _, rfl, _⟩ | ⟨h6, h7, _, h8⟩
    · cases h
    · have := h8 (by simpa using h)
      have := Nat.mul_le_mul_right next (hq1 h6)
      omega
  · rcases h5 with ⟨rfl, rfl, _⟩ | ⟨h6, h7, h8, _⟩
    · omega
    · have := h8 (by simpa using h)
      have := Nat.mul_le_mul_right next (hq1 h6)
      omega
theorem GMid.next_le (h : GMid M N a b last next less) : next ≤ N := by
  rcases h.ord with ⟨_, rfl, _⟩ | ⟨h1, _⟩
  · omega
  · have h2 := Nat.le_mul_of_pos_left next (show 0 < a by omega)
    have := h.sum
    omega
theorem GMid.last_le (h : GMid M N a b last next less) : last ≤ N ∨ last ≤ 1 := by
  rcases h.ord with ⟨rfl, _⟩ | ⟨_, _, h1, h2⟩
  · omega
  · have := h.next_le
    cases less
    · have := h1 rfl; omega
    · have := h2 rfl; omega
/-- How often, behind the last step. -/
def timesOf (last next : Nat) (less : Bool) : Nat := if less then next - last else last
theorem GMid.sub (h : GMid M N a b last next true) : last ≤ next := by
  rcases h.ord with ⟨_, _, h, _⟩ | ⟨_, _, _, h1⟩
  · cases h
  · have := h1 rfl; omega
theorem GMid.times_le (h : GMid M N a b last next less) : timesOf last next less ≤ N ∨ timesOf last next less ≤ 1 := by
  have h1 := h.next_le
  have h2 := h.last_le
  unfold timesOf
  cases less
  · simpa using h2
  · simp; omega
theorem GMid.end_gcd (h : GMid M N a 0 last next less) : a = Nat.gcd M N := by rw [← h.gcd, Nat.gcd_zero_right]
theorem GMid.end_pos (h : GMid M N a 0 last next less) : 1 ≤ timesOf last next less := by
  unfold timesOf
  rcases h.ord with ⟨rfl, rfl, rfl, _⟩ | ⟨_, _, h1, h2⟩
  · simp
  · cases less
    · have := h1 rfl; simp; omega
    · have := h2 rfl; simp; omega
theorem GMid.end_eq (h : GMid M N a 0 last next less) (hM : M ≠ 0) : ∃ y, M * timesOf last next less = Nat.gcd M N + N * y := by
  have hg := h.end_gcd
  rw [← hg]
  cases less
  · obtain ⟨⟨Y, hY⟩, _⟩ := h.lo rfl
    exact ⟨Y, hY⟩
  · obtain ⟨⟨Y, hY⟩, Z, hZ⟩ := h.hi rfl
    have h1 := h.end_pos
    have h2 := h.sub
    obtain ⟨t, rfl⟩ : ∃ t, next = last + t := ⟨next - last, by omega⟩
    have e : timesOf last (last + t) true = t := by simp [timesOf]
    rw [e] at h1 ⊢
    rw [Nat.mul_add] at hZ
    have h3 : a ≤ M * t := by
      have := Nat.gcd_le_left N (Nat.pos_of_ne_zero hM)
      have := Nat.le_mul_of_pos_right M h1
      omega
    have h4 : N * Y ≤ N * Z := by omega
    rcases Nat.lt_or_ge Z Y with h5 | h5
    · rcases Nat.eq_zero_or_pos N with h0 | h0
      · subst h0; exact ⟨0, by omega⟩
      · have := Nat.mul_le_mul_left N h5; rw [Nat.mul_succ] at this; omega
    · obtain ⟨s, rfl⟩ : ∃ s, Z = Y + s := ⟨Z - Y, by omega⟩
      rw [Nat.mul_add] at hZ
      exact ⟨s, by omega⟩
theorem GMid.end_least (h : GMid M N a 0 last next less) (hM : M ≠ 0) (x' y' : Nat) (h' : M * x' = Nat.gcd M N + N * y') : timesOf last next less ≤ x' := by
  obtain ⟨y, hy⟩ := h.end_eq hM
  have hp := h.end_pos
  have hgp := Nat.gcd_pos_of_pos_left N (Nat.pos_of_ne_zero hM)
  have hx1 : 1 ≤ x' := by
    rcases Nat.eq_zero_or_pos x' with h0 | h0
    · rw [h0, Nat.mul_zero] at h'; omega
    · exact h0
  rcases h.ord with ⟨rfl, rfl, rfl, _⟩ | ⟨ha, hn, h1, h2⟩
  · simpa [timesOf] using hx1
  · have hle : timesOf last next less ≤ next := by
      unfold timesOf
      cases less
      · have := h1 rfl; simp; omega
      · simp
    have hs := h.sum
    rw [Nat.zero_mul, Nat.add_zero] at hs
    have hg := h.end_gcd
    obtain ⟨m, hm⟩ := Nat.gcd_dvd_left M N
    have hc : Nat.gcd m next = 1 := by
      have := Nat.gcd_mul_left a m next
      rw [hs, show a * m = M by rw [hg]; exact hm.symm, ← hg] at this
      exact Nat.eq_of_mul_eq_mul_left (show 0 < a by omega) (by omega)
    rw [← hg] at hm h' hy
    generalize timesOf last next less = x at *
    rcases Nat.lt_or_ge x' x with hlt | hge
    · exfalso
      obtain ⟨t, rfl⟩ : ∃ t, x = x' + t := ⟨x - x', by omega⟩
      have ha0 : 0 < a := by omega
      subst hs
      have e1 : m * x' = 1 + next * y' := by
        apply Nat.eq_of_mul_eq_mul_left ha0
        rw [Nat.mul_add, Nat.mul_one, ← Nat.mul_assoc, ← Nat.mul_assoc, ← hm]; exact h'
      have e2 : m * (x' + t) = 1 + next * y := by
        apply Nat.eq_of_mul_eq_mul_left ha0
        rw [Nat.mul_add a 1, Nat.mul_one, ← Nat.mul_assoc, ← Nat.mul_assoc, ← hm]; exact hy
      rw [Nat.mul_add] at e2
      have e3 : m * t + next * y' = next * y := by omega
      have hd : next ∣ m * t := (Nat.dvd_add_left (Nat.dvd_mul_right next y')).1 (by rw [e3]; exact Nat.dvd_mul_right next y)
      have hd2 : next ∣ t := Nat.Coprime.dvd_of_dvd_mul_left (by rw [Nat.coprime_iff_gcd_eq_one, Nat.gcd_comm]; exact hc) hd
      have := Nat.le_of_dvd (by omega) hd2
      omega
    · exact hge
end
/-- Gcd, and the least number from 1 on whose product leaves it. -/
structure LeastIs (M N x : Nat) : Prop where
  eq : M ≠ 0 → ∃ y, M * x = Nat.gcd M N + N * y
  least : M ≠ 0 → ∀ x' y', M * x' = Nat.gcd M N + N * y' → x ≤ x'
  le : x ≤ N ∨ x ≤ 1
theorem GMid.done {M N a last next : Nat} {less : Bool} (h : GMid M N a 0 last next less) : LeastIs M N (timesOf last next less) := ⟨h.end_eq, h.end_least, h.times_le⟩
/-- An inverse of what the number leaves. -/
theorem LeastIs.inv {M N x : Nat} (h : LeastIs M N x) (hg : Nat.gcd M N = 1) : x * M % N = 1 % N := by
  by_cases hM : M = 0
  · rw [hM, Nat.gcd_zero_left] at hg
    rw [hg]; omega
  · obtain ⟨y, e⟩ := h.eq hM
    rw [Nat.mul_comm, e, hg, Nat.add_mul_mod_self_left]
theorem gcd_rest (A N : Nat) : Nat.gcd (A % N) N = Nat.gcd A N := by rw [Nat.gcd_comm A N, Nat.gcd_rec N A]
theorem LeastIs.inv_rest {A N x : Nat} (h : LeastIs (A % N) N x) (hg : Nat.gcd A N = 1) : x % N * A % N = 1 % N := by
  have hg2 : Nat.gcd (A % N) N = 1 := by rw [gcd_rest, hg]
  have e := h.inv hg2
  rw [Nat.mod_mul_mod]
  rw [Nat.mul_mod_mod] at e
  exact e
theorem nbits_div (a b : Nat) : nbits (a / b) ≤ nbits a := nbits_mono (Nat.div_le_self a b)
end Go.Proofs.Ytgmolbiicclcaaa
/- gcd's steps of numbers of one word. Conditions: as typed. -/
namespace Go.Proofs.Ytgmolbiicclcaaa
open Go.RowKit
set_option maxRecDepth 20000
theorem divide_ok (a b : Nat) (w : World) (ha : a < 18446744073709551616) (h0 : b ≠ 0) : Calls Try.prog 59 #[.int .u64 a, .int .u64 b] w fun e w' => e = .returned (.tuple #[.int .u64 ((a / b : Nat) : Int), .int .u64 ((a % b : Nat) : Int), .int .i64 0]) ∧ Below w.heap.size w w' := by
  have hb0 : ((b : Int) == 0) = false := by simp; omega
  have hb1 : (b : Int) ≠ 0 := by omega
  have hql : a / b < 18446744073709551616 := Nat.lt_of_le_of_lt (Nat.div_le_self _ _) ha
  have hq : IntKind.u64.wrap ((a : Int) / (b : Int)) = ((a / b : Nat) : Int) := by rw [← Int.natCast_ediv]; generalize a / b = q at hql; rw [IntKind.wrap_u64]; omega
  go_enter Try.func59, Try.ntmps59
  go_wp2_with fail
  go_region
  go_wp2_with fail
  go_ret3
  exact ⟨by simp, (Drawn.more 1).below _⟩
theorem divide_no (a : Nat) (w : World) : Calls Try.prog 59 #[.int .u64 a, .int .u64 0] w fun e w' => e = .returned (.tuple #[.int .u64 0, .int .u64 0, .int .i64 5]) ∧ Below w.heap.size w w' := by
  go_enter Try.func59, Try.ntmps59
  go_wp2_with fail
  go_ret3
  exact ⟨rfl, Below.refl _ _⟩
/-- The three variables that leastWord's steps are told to. -/
structure Box1 (u : World) (L N S : Nat) (last next : Nat) (less : Bool) : Prop where
  last : Boxed u L 24 (.int .u64 (last : Int))
  next : Boxed u N 24 (.int .u64 (next : Int))
  less : Boxed u S 4 (.bool less)
theorem Box1.kept {u u' : World} {L N S last next : Nat} {less : Bool} (h : Box1 u L N S last next less) (hb : Below u.heap.size u u') : Box1 u' L N S last next less :=
  have hg : u.grownBy u' none := ⟨hb.os, hb.tape, hb.output, hb.size, fun i hi _ => hb.block i hi⟩
  ⟨h.last.kept hg (by simp), h.next.kept hg (by simp), h.less.kept hg (by simp)⟩
theorem Box1.turn {u : World} {L N S last next last' next' : Nat} {less less' : Bool} (h : Box1 u L N S last next less) (h1 : L ≠ N) (h2 : L ≠ S) (h3 : N ≠ S) :
    Box1 (((u.setCell ⟨L, 0, none⟩ (.int .u64 (last' : Int))).setCell ⟨N, 0, none⟩ (.int .u64 (next' : Int))).setCell ⟨S, 0, none⟩ (.bool less')) L N S last' next' less' :=
  ⟨((h.last.set _).other h1 _).other h2 _, ((h.next.other h1.symm _).set _).other h3 _, ((h.less.other h2.symm _).other h3.symm _).set _⟩
set_option maxHeartbeats 1000000 in
theorem tellWord (base L N S q last next : Nat) (less : Bool) (w : World) (h : Box1 w L N S last next less) (h1 : L ≠ N) (h2 : L ≠ S) (h3 : N ≠ S) (hL : base ≤ L) (hN : base ≤ N) (hS : base ≤ S) (hq : last + q * next < 18446744073709551616) :
    Calls Try.prog 60 #[.int .u64 q, .pointer (some ⟨N, 0, none⟩), .pointer (some ⟨L, 0, none⟩), .pointer (some ⟨S, 0, none⟩)] w fun e w' => e = .returned (.tuple #[]) ∧ Box1 w' L N S next (last + q * next) (!less) ∧ Below base w w' := by
  have c1 := h.last.cell
  have c2 := h.next.cell
  have c3 := h.less.cell
  have f1 := h.last.frozen
  have f2 := h.next.frozen
  have f3 := h.less.frozen
  have hnot : ∀ (x : Bool) (w : World), (Op.unary .not (.bool x)).run Try.prog w = .ok (.bool (!x)) w := fun _ _ => rfl
  obtain ⟨P, hP⟩ : ∃ P, q * next = P := ⟨_, rfl⟩
  rw [hP] at hq ⊢
  have hPi : (q : Int) * (next : Int) = (P : Int) := by rw [← hP, Int.natCast_mul]
  have h1' := h1.symm
  have h2' := h2.symm
  have h3' := h3.symm
  have H := Lib.hid h
  clear h hP
  go_enter Try.func60, Try.ntmps60
  go_wp2_with fail
  go_region
  go_wp2_with fail
  go_end0
  have T := H.out.turn (last' := next) (next' := last + P) (less' := !less) h1 h2 h3
  rw [Int.natCast_add] at T
  exact ⟨rfl, ⟨T.last, by have h := T.next; rw [Int.natCast_add]; exact h, T.less⟩, ((((Below.refl base w).setCell (p := ⟨L, 0, none⟩) hL _).setCell (p := ⟨N, 0, none⟩) hN _).setCell (p := ⟨S, 0, none⟩) hS _).trans ((Drawn.more 1).below _)⟩
set_option maxHeartbeats 1000000 in
theorem steps1_least (base L N S A B : Nat) (w : World) (hA : A < 18446744073709551616) (hB : B < 18446744073709551616) (h : Box1 w L N S 1 0 false) (h1 : L ≠ N) (h2 : L ≠ S) (h3 : N ≠ S) (hL : base ≤ L) (hN : base ≤ N) (hS : base ≤ S) :
    Calls Try.prog 58 #[.int .u64 A, .int .u64 B, .func (.func 59) #[] #[], .func (.func 60) #[] #[.pointer (some ⟨N, 0, none⟩), .pointer (some ⟨L, 0, none⟩), .pointer (some ⟨S, 0, none⟩)]] w fun e w' =>
      ∃ last next less, e = .returned (.int .u64 (Nat.gcd A B : Nat)) ∧ Box1 w' L N S last next less ∧ GMid A B (Nat.gcd A B) 0 last next less ∧ Below base w w' := by
  have hbs : base ≤ w.heap.size := by have := h.last.lt; omega
  have H := Lib.hid h
  clear h
  go_enter Try.func58, Try.ntmps58
  go_wp2_with fail
  go_step3
  go_wp2_with fail
  go_step3
  go_wp2_with fail
  go_loopw [0, 1] (fun av bv wr => ∃ (a b last next : Nat) (less : Bool), av = .int .u64 a ∧ bv = .int .u64 b ∧ a < 18446744073709551616 ∧ b < 18446744073709551616 ∧ GMid A B a b last next less ∧ Box1 wr L N S last next less ∧ Below base w wr) (fun _ bv _ => (intOf bv).toNat)
  case atStart => exact ⟨A, B, 1, 0, false, rfl, rfl, hA, hB, GMid.start A B, H.out, Below.refl _ _⟩
  case round =>
    obtain ⟨a, b, last, next, less, rfl, rfl, ha, hb, hM, hX, hW⟩ := hrel
    by_cases h0 : b = 0
    · subst h0
      have hg := hM.end_gcd
      have HG := Lib.hid hg
      have HM := Lib.hid hM
      clear hg hM
      go_wp2_with fail
      refine (divide_no a wr).mono ?_
      rintro e w1 ⟨rfl, b1⟩
      have hX1 := hX.kept b1
      have B1 := hW.trans (b1.mono (by have := hX.last.lt; omega))
      go_wp2_with fail
      rw [Exit.noGoto_ret]
      go_ret
      exact ⟨last, next, less, by rw [← HG.out]; rfl, hX1, by rw [← HG.out]; exact HM.out, B1⟩
    · have D := Lib.hid (divide_ok a b wr ha h0)
      have hqb : a / b < 18446744073709551616 := Nat.lt_of_le_of_lt (Nat.div_le_self _ _) ha
      have hrb := Nat.mod_lt a (Nat.pos_of_ne_zero h0)
      have hn := hM.step h0
      have hnx := hn.next_le
      generalize a / b = q at *
      generalize a % b = r at *
      have HN := Lib.hid hn
      clear hn hM h0
      go_wp2_with fail
      refine (D.out).mono ?_
      rintro e w1 ⟨rfl, b1⟩
      have hX1 := hX.kept b1
      have B1 := hW.trans (b1.mono (by have := hX.last.lt; omega))
      go_wp2_with fail
      refine (tellWord base L N S q last next less w1 hX1 h1 h2 h3 hL hN hS (by omega)).mono ?_
      rintro e w2 ⟨rfl, hX2, b2⟩
      go_wp2_with fail
      go_roundw
      case rel => exact ⟨b, r, _, _, _, rfl, rfl, hb, by omega, HN.out, hX2, B1.trans b2⟩
      case measure => simp [intOf]; omega
/-- Gcd, and how often, of words. -/
def OutLeast1 (A B : Nat) (w : World) (e : Ending) (w' : World) : Prop := ∃ x, e = .returned (.tuple #[.int .u64 (Nat.gcd A B : Nat), .int .u64 (x : Nat)]) ∧ LeastIs A B x ∧ x < 18446744073709551616 ∧ Below w.heap.size w w'
set_option maxHeartbeats 1000000 in
theorem leastWord_any (A B : Nat) (w : World) (hA : A < 18446744073709551616) (hB : B < 18446744073709551616) : Calls Try.prog 48 #[.int .u64 A, .int .u64 B] w (OutLeast1 A B w) := by
  go_enter Try.func48, Try.ntmps48
  go_wp2_with fail
  have bL := ((Boxed.new w 24 (.int .u64 1)).alloc (.cells #[.int .u64 0] 24)).alloc (.cells #[.bool false] 4)
  have bN := (Boxed.new (w.alloc (.cells #[.int .u64 1] 24)) 24 (.int .u64 0)).alloc (.cells #[.bool false] 4)
  have bS := Boxed.new ((w.alloc (.cells #[.int .u64 1] 24)).alloc (.cells #[.int .u64 0] 24)) 4 (.bool false)
  simp only [World.size_alloc] at bN bS
  have b0 : Below w.heap.size w (((w.alloc (.cells #[.int .u64 1] 24)).alloc (.cells #[.int .u64 0] 24)).alloc (.cells #[.bool false] 4)) := (((Below.refl _ w).alloc (Nat.le_refl _) _).alloc (by simp) _).alloc (by simp; omega) _
  refine (steps1_least w.heap.size w.heap.size (w.heap.size + 1) (w.heap.size + 1 + 1) A B _ hA hB ⟨bL, bN, bS⟩ (by omega) (by omega) (by omega) (by omega) (by omega) (by omega)).mono ?_
  rintro e w1 ⟨last, next, less, rfl, hX, hM, b1⟩
  have B1 := b0.trans b1
  have hd := hM.done
  have hnl := hM.next_le
  have hll := hM.last_le
  have c1 := hX.last.cell
  have c2 := hX.next.cell
  have c3 := hX.less.cell
  have f1 := hX.last.frozen
  have hlt : timesOf last next less < 18446744073709551616 := by have := hM.times_le; omega
  clear bL bN bS b0 b1
  generalize hg : Nat.gcd A B = g at *
  have HG := Lib.hid hg
  clear hg
  cases less
  · have HD := Lib.hid hd
    have HL := Lib.hid hlt
    clear hd hM hlt
    go_wp2_with fail
    go_region
    go_wp2_with fail
    go_ret2
    exact ⟨last, by rw [HG.out]; rfl, HD.out, HL.out, B1.trans ((Drawn.more 1).below _)⟩
  · have hle := hM.sub
    have hbt := hX.last.set (.int .u64 ((next : Int) - (last : Int)))
    have hc := hbt.cell
    have HD := Lib.hid hd
    have HL := Lib.hid hlt
    clear hd hM hlt hbt
    go_wp2_with fail
    go_region
    go_wp2_with fail
    go_ret2
    exact ⟨next - last, by rw [HG.out, Int.natCast_sub hle]; rfl, HD.out, HL.out, (B1.setCell (p := ⟨w.heap.size, 0, none⟩) (Nat.le_refl _) _).trans ((Drawn.more 1).below _)⟩
end Go.Proofs.Ytgmolbiicclcaaa

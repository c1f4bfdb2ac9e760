/- Several texts in one; each begins with a remark that says what it shows and on which conditions. -/
import Derived.Test.YtgmolbiicclcaaaKah
import Derived.Test.YtgmolbiicclcaaaKaf
import Derived.Test.YtgmolbiicclcaaaKag
import Derived.IntWalk
/- Plain facts on quotients guessed by the upper words (Knuth): a guess is not too small, and not much too great. No condition but those typed; no program is named. -/
namespace Go.Proofs.Ytgmolbiicclcaaa
/-- What is guessed by upper parts is not too small. -/
theorem guess_ge (u v P : Nat) (hP : 0 < P) (hv : 0 < v / P) : u / v ≤ (u / P) / (v / P) := by
  rw [Nat.le_div_iff_mul_le hv, Nat.le_div_iff_mul_le hP]
  have h1 : v / P * P ≤ v := Nat.div_mul_le_self v P
  have h2 : u / v * v ≤ u := Nat.div_mul_le_self u v
  have h3 : u / v * (v / P) * P = u / v * (v / P * P) := Nat.mul_assoc _ _ _
  have h4 : u / v * (v / P * P) ≤ u / v * v := Nat.mul_le_mul_left _ h1
  omega
/-- A guess that is at most the upper parts' quotient, and below B, is too great by so much at most as makes B not more than the divisor's upper part. -/
theorem guess_le (u v P q B c : Nat) (hP : 0 < P) (hq : q ≤ (u / P) / (v / P)) (hB : q < B) (hv : B ≤ c * (v / P)) (h0 : 0 < v / P) : q * v ≤ u + c * v := by
  have h1 : q * (v / P) ≤ u / P := (Nat.le_div_iff_mul_le h0).1 hq
  have h2 : q * (v / P) * P ≤ u := (Nat.le_div_iff_mul_le hP).1 h1
  have h3 : v < (v / P + 1) * P := by have := Nat.div_add_mod v P; have := Nat.mod_lt v hP; rw [Nat.add_mul, Nat.one_mul, Nat.mul_comm (v / P)]; omega
  have h4 : q * v ≤ q * ((v / P + 1) * P) := Nat.mul_le_mul_left _ (Nat.le_of_lt h3)
  have h5 : q * ((v / P + 1) * P) = q * (v / P) * P + q * P := by rw [Nat.add_mul, Nat.one_mul, Nat.mul_add, Nat.mul_assoc]
  have h6 : q * P ≤ c * (v / P) * P := Nat.mul_le_mul_right _ (by omega)
  have h7 : c * (v / P) * P ≤ c * v := by rw [Nat.mul_assoc]; exact Nat.mul_le_mul_left _ (Nat.div_mul_le_self v P)
  omega
/-- So it is put right in so many steps. -/
theorem guess_steps (u v q c : Nat) (h0 : 0 < v) (h : q * v ≤ u + c * v) : q ≤ u / v + c := by
  rcases Nat.lt_or_ge (u / v + c) q with h1 | h1
  · exfalso
    have h2 : (u / v + c + 1) * v ≤ q * v := Nat.mul_le_mul_right _ h1
    have h3 : u < (u / v + 1) * v := by have := Nat.div_add_mod u v; have := Nat.mod_lt u h0; rw [Nat.add_mul, Nat.one_mul, Nat.mul_comm (u / v)]; omega
    have h4 : (u / v + c + 1) * v = (u / v + 1) * v + c * v := by rw [← Nat.add_mul]; congr 1; omega
    omega
  · exact h1
/-- A place more: what is left so far, and the next word. -/
theorem place_step (r v B x : Nat) (h0 : 0 < v) (hr : r < v) (hx : x < B) : (r * B + x) / v < B ∧ (r * B + x) % v < v := by
  refine ⟨?_, Nat.mod_lt _ h0⟩
  rw [Nat.div_lt_iff_lt_mul h0]
  have h1 : (r + 1) * B ≤ v * B := Nat.mul_le_mul_right _ hr
  rw [Nat.add_mul, Nat.one_mul] at h1
  rw [Nat.mul_comm B v]
  omega
/-- Long division, a place at a time: what was found, and what comes. -/
theorem long_div (a v B x : Nat) (h0 : 0 < v) : (a * B + x) / v = a / v * B + (a % v * B + x) / v ∧ (a * B + x) % v = (a % v * B + x) % v := by
  have h1 := Nat.div_add_mod a v
  have e : a * B + x = v * (a / v * B) + (a % v * B + x) := by
    have : a * B = (v * (a / v) + a % v) * B := by rw [h1]
    rw [this, Nat.add_mul, Nat.mul_assoc]
    omega
  constructor
  · rw [e, Nat.mul_add_div h0]
  · rw [e, Nat.mul_add_mod]
end Go.Proofs.Ytgmolbiicclcaaa
/- Plain facts on long division: bits.Div64's two half words; a place that is guessed, taken away and given back. No condition but those typed; no program is named. -/
namespace Go.Proofs.Ytgmolbiicclcaaa
set_option maxRecDepth 20000
/-- A half word's place of a quotient, guessed as q, with r left of the upper words: never too small. -/
structure Dig (u x y1 y0 q r : Nat) : Prop where
  eq : q * y1 + r = u
  low : r < 4294967296
  ge : (u * 4294967296 + x) / (y1 * 4294967296 + y0) ≤ q
  le : q ≤ 4294967297
theorem Dig.start {u x y1 y0 : Nat} (h1 : 2147483648 ≤ y1) (h2 : y1 < 4294967296) (h0 : y0 < 4294967296) (hx : x < 4294967296) (hu : u < y1 * 4294967296 + y0) : Dig u x y1 y0 (u / y1) (u % y1) where
  eq := by have := Nat.div_add_mod u y1; rw [Nat.mul_comm] at this; exact this
  low := by have := Nat.mod_lt u (show 0 < y1 by omega); omega
  ge := by
    have e1 : (u * 4294967296 + x) / 4294967296 = u := by omega
    have e2 : (y1 * 4294967296 + y0) / 4294967296 = y1 := by clear hu h1 h2 e1; omega
    have := guess_ge (u * 4294967296 + x) (y1 * 4294967296 + y0) 4294967296 (by omega) (by omega)
    rwa [e1, e2] at this
  le := by
    have : u / y1 < 4294967298 := by rw [Nat.div_lt_iff_lt_mul (by omega)]; omega
    omega
theorem Dig.lt {u x y1 y0 q r : Nat} (h1 : 2147483648 ≤ y1) (hx : x < 4294967296) (hu : u < y1 * 4294967296 + y0) (h : Dig u x y1 y0 q r) (hc : 4294967296 ≤ q ∨ 4294967296 * r + x < q * y0) : (u * 4294967296 + x) / (y1 * 4294967296 + y0) < q := by
  have _ := h1
  rw [Nat.div_lt_iff_lt_mul (by omega)]
  rcases hc with hc | hc
  · have : 4294967296 * (y1 * 4294967296 + y0) ≤ q * (y1 * 4294967296 + y0) := Nat.mul_le_mul_right _ hc
    omega
  · have e := h.eq
    rw [Nat.mul_add, ← Nat.mul_assoc]
    omega
/-- It is put right by one. -/
theorem Dig.step {u x y1 y0 q r : Nat} (h1 : 2147483648 ≤ y1) (hx : x < 4294967296) (hu : u < y1 * 4294967296 + y0) (h : Dig u x y1 y0 q r) (hc : 4294967296 ≤ q ∨ 4294967296 * r + x < q * y0) (hr : r + y1 < 4294967296) : 0 < q ∧ Dig u x y1 y0 (q - 1) (r + y1) := by
  have h2 := h.lt h1 hx hu hc
  have hq := Nat.lt_of_le_of_lt (Nat.zero_le _) h2
  refine ⟨hq, ?_, hr, Nat.le_sub_one_of_lt h2, by have := h.le; omega⟩
  have e := h.eq
  obtain ⟨p, rfl⟩ : ∃ p, q = p + 1 := ⟨q - 1, by omega⟩
  rw [Nat.add_mul, Nat.one_mul] at e
  rw [Nat.add_sub_cancel]
  omega
/-- It is right where the upper words leave too much for one more. -/
theorem Dig.out {u x y1 y0 q r : Nat} (h1 : 2147483648 ≤ y1) (h0 : y0 < 4294967296) (hx : x < 4294967296) (hu : u < y1 * 4294967296 + y0) (h : Dig u x y1 y0 q r) (hc : 4294967296 ≤ q ∨ 4294967296 * r + x < q * y0) (hr : ¬ r + y1 < 4294967296) : q - 1 = (u * 4294967296 + x) / (y1 * 4294967296 + y0) ∧ 0 < q := by
  have h2 := h.lt h1 hx hu hc
  have hq := Nat.lt_of_le_of_lt (Nat.zero_le _) h2
  obtain ⟨p, rfl⟩ : ∃ p, q = p + 1 := ⟨q - 1, by omega⟩
  refine ⟨Nat.le_antisymm ?_ (Nat.le_sub_one_of_lt h2), hq⟩
  rw [Nat.add_sub_cancel, Nat.le_div_iff_mul_le (by omega), Nat.mul_add, ← Nat.mul_assoc]
  have e := h.eq
  have hl := h.le
  rw [Nat.add_mul, Nat.one_mul] at e
  have h3 : p * y0 ≤ 4294967296 * y0 := Nat.mul_le_mul_right _ (by omega)
  omega
/-- It is right where nothing says otherwise. -/
theorem Dig.done {u x y1 y0 q r : Nat} (h1 : 2147483648 ≤ y1) (h : Dig u x y1 y0 q r) (hc : ¬ 4294967296 ≤ q) (hc2 : ¬ 4294967296 * r + x < q * y0) : q = (u * 4294967296 + x) / (y1 * 4294967296 + y0) := by
  have _ := hc
  refine Nat.le_antisymm ?_ h.ge
  rw [Nat.le_div_iff_mul_le (by omega), Nat.mul_add, ← Nat.mul_assoc]
  have e := h.eq
  omega
/-- What is left behind a place, as words that go round tell it. -/
theorem left_of (u x y q : Nat) (hq : q = (u * 4294967296 + x) / y) (_hy : 0 < y) : q * y ≤ u * 4294967296 + x ∧ u * 4294967296 + x - q * y = (u * 4294967296 + x) % y := by
  subst hq
  have := Nat.div_add_mod (u * 4294967296 + x) y
  rw [Nat.mul_comm] at this
  omega
/-- Two half words' places are one word's. -/
theorem two_digs (u x1 x0 y q1 q0 r1 : Nat) (hy : 0 < y) (hu : u < y) (h1 : x1 < 4294967296) (h0 : x0 < 4294967296) (hq1 : q1 = (u * 4294967296 + x1) / y) (hr1 : r1 = (u * 4294967296 + x1) % y) (hq0 : q0 = (r1 * 4294967296 + x0) / y) :
    q1 < 4294967296 ∧ q0 < 4294967296 ∧ q0 + q1 * 4294967296 = (u * 18446744073709551616 + (x1 * 4294967296 + x0)) / y ∧ (r1 * 4294967296 + x0) % y = (u * 18446744073709551616 + (x1 * 4294967296 + x0)) % y := by
  have e : u * 18446744073709551616 + (x1 * 4294967296 + x0) = y * (q1 * 4294967296) + (r1 * 4294967296 + x0) := by
    have := Nat.div_add_mod (u * 4294967296 + x1) y
    rw [← hq1, ← hr1] at this
    have h : (y * q1 + r1) * 4294967296 = (u * 4294967296 + x1) * 4294967296 := by rw [this]
    rw [Nat.add_mul, Nat.mul_assoc] at h
    omega
  have hr : r1 < y := by rw [hr1]; exact Nat.mod_lt _ hy
  refine ⟨?_, ?_, ?_, ?_⟩
  · rw [hq1, Nat.div_lt_iff_lt_mul hy]; omega
  · rw [hq0, Nat.div_lt_iff_lt_mul hy]; omega
  · rw [e, Nat.mul_add_div hy, ← hq0]; omega
  · rw [e, Nat.mul_add_mod]
/-- A number of two words, shifted so that the divisor's highest bit is set. -/
theorem norm_words (hi lo y s : Nat) (hs : s < 64) (hy : hi < y) (hyB : y * 2 ^ s < 18446744073709551616) (hlo : lo < 18446744073709551616) :
    ∃ u, (hi * 2 ^ s % 18446744073709551616) ||| (lo / 2 ^ (64 - s)) = u ∧ u < y * 2 ^ s ∧ u * 18446744073709551616 + lo * 2 ^ s % 18446744073709551616 = (hi * 18446744073709551616 + lo) * 2 ^ s := by
  have eB : (18446744073709551616 : Nat) = 2 ^ (64 - s) * 2 ^ s := by rw [← Nat.pow_add, show 64 - s + s = 64 by omega]
  have hp : 0 < 2 ^ s := Nat.pow_pos (by omega)
  have ht : lo / 2 ^ (64 - s) < 2 ^ s := by
    rw [Nat.div_lt_iff_lt_mul (Nat.pow_pos (by omega)), Nat.mul_comm, ← eB]
    exact hlo
  have hd : lo * 2 ^ s / 18446744073709551616 = lo / 2 ^ (64 - s) := by rw [eB, Nat.mul_div_mul_right _ _ hp]
  have hm := Nat.div_add_mod (lo * 2 ^ s) 18446744073709551616
  rw [hd] at hm
  have h1 : (hi + 1) * 2 ^ s ≤ y * 2 ^ s := Nat.mul_le_mul_right _ hy
  rw [Nat.add_mul, Nat.one_mul] at h1
  have hlt : hi * 2 ^ s + lo / 2 ^ (64 - s) < y * 2 ^ s := by omega
  refine ⟨hi * 2 ^ s + lo / 2 ^ (64 - s), ?_, hlt, ?_⟩
  · rw [or_low _ _ s hs ht, Nat.mod_eq_of_lt (by omega)]
  · clear eB
    have e : hi * 18446744073709551616 * 2 ^ s = hi * 2 ^ s * 18446744073709551616 := by rw [Nat.mul_assoc, Nat.mul_comm 18446744073709551616, ← Nat.mul_assoc]
    rw [Nat.add_mul, Nat.add_mul, e]
    omega
theorem norm_back (N y s : Nat) : N * 2 ^ s / (y * 2 ^ s) = N / y ∧ N * 2 ^ s % (y * 2 ^ s) / 2 ^ s = N % y := by
  have hp : 0 < 2 ^ s := Nat.pow_pos (by omega)
  refine ⟨Nat.mul_div_mul_right _ _ hp, ?_⟩
  rw [Nat.mul_mod_mul_right, Nat.mul_div_cancel _ hp]
/-- Noughts from place k on: below so many words. -/
theorem natOf_far (l : List Nat) (h : Words l) (k : Nat) (hz : ∀ j, k ≤ j → nth l j = 0) : natOf l < 18446744073709551616 ^ k := by
  have e : natOf l = natOf (l.take k) := natOf_ext _ _ fun j => by
    by_cases hj : j < k
    · simp [nth, hj]
    · rw [hz j (by omega)]
      simp [nth, List.getElem?_take, hj]
  rw [e]
  exact natOf_take_lt l h k
theorem far_of (l : List Nat) (h : Words l) (k : Nat) (hl : natOf l < 18446744073709551616 ^ k) (j : Nat) (hj : k ≤ j) : nth l j = 0 := by
  rw [nth_natOf l h, Nat.div_eq_of_lt (Nat.lt_of_lt_of_le hl (Nat.pow_le_pow_right (by omega) hj))]
/-- A row from whose places p on x times a number is taken, i words of it so far: o is owed. -/
structure Takes (K p x V i o : Nat) (T : Nat) (L0 L : List Nat) : Prop where
  len : L.length = K
  words : Words L
  val : natOf L + 18446744073709551616 ^ p * (x * V) = T + 18446744073709551616 ^ (p + i) * o
  same : ∀ j, p + i ≤ j → nth L j = nth L0 j
theorem Takes.step {K p x V i o T y : Nat} {L0 L : List Nat} (h : Takes K p x V i o T L0 L) (hp : p + i < K) (s c o2 : Nat) (hs : s < 18446744073709551616) (he : s + x * y + o = nth L (p + i) + 18446744073709551616 * o2) (hc : c = V + 18446744073709551616 ^ i * y) :
    Takes K p x c (i + 1) o2 T L0 (L.set (p + i) s) where
  len := by rw [List.length_set, h.len]
  words := words_put _ h.words _ _ hs
  val := by
    have h1 := natOf_put L (p + i) s (by rw [h.len]; exact hp)
    have h2 := h.val
    have h3 : 18446744073709551616 ^ p * (x * (18446744073709551616 ^ i * y)) = 18446744073709551616 ^ (p + i) * (x * y) := by rw [Nat.pow_add, Nat.mul_left_comm x, Nat.mul_assoc]
    have h4 : 18446744073709551616 ^ (p + (i + 1)) * o2 = 18446744073709551616 ^ (p + i) * (18446744073709551616 * o2) := by rw [← Nat.add_assoc, Nat.pow_succ, Nat.mul_assoc]
    have h5 : 18446744073709551616 ^ (p + i) * (s + x * y + o) = 18446744073709551616 ^ (p + i) * (nth L (p + i) + 18446744073709551616 * o2) := by rw [he]
    rw [Nat.mul_add, Nat.mul_add, Nat.mul_add] at h5
    rw [hc, Nat.mul_add, Nat.mul_add, h3, h4]
    omega
  same := fun j hj => by
    rw [nth_set _ _ _ _ (by rw [h.len]; omega), if_neg (by omega)]
    exact h.same j (by omega)
theorem Takes.start (K p x : Nat) (L : List Nat) (hl : L.length = K) (hw : Words L) : Takes K p x 0 0 0 (natOf L) L L :=
  ⟨hl, hw, by simp, fun _ _ => rfl⟩
/-- Words that take away: a product's, and what was owed. -/
theorem take_step (x y v r b : Nat) (hx : x < 18446744073709551616) (hy : y < 18446744073709551616) (hv : v < 18446744073709551616) (hr : r < 18446744073709551616) (hb : b ≤ 1) :
    x * y / 18446744073709551616 + (x * y % 18446744073709551616 + v) / 18446744073709551616 < 18446744073709551616 ∧
    (r + 18446744073709551616 - (x * y % 18446744073709551616 + v) % 18446744073709551616 - b) % 18446744073709551616 + x * y + (v + b) =
      r + 18446744073709551616 * (x * y / 18446744073709551616 + (x * y % 18446744073709551616 + v) / 18446744073709551616 + (if r < (x * y % 18446744073709551616 + v) % 18446744073709551616 + b then 1 else 0)) := by
  have h : x * y ≤ 18446744073709551615 * 18446744073709551615 := Nat.mul_le_mul (by omega) (by omega)
  generalize x * y = P at *
  split <;> omega
theorem last_step (v r b : Nat) (hv : v < 18446744073709551616) (hr : r < 18446744073709551616) (hb : b ≤ 1) :
    (r + 18446744073709551616 - v - b) % 18446744073709551616 + (v + b) = r + 18446744073709551616 * (if r < v + b then 1 else 0) := by
  split <;> omega
/-- A row to whose places from p on a number is added, i words of it so far: c is carried. -/
structure Gives (K p V i c : Nat) (T : Nat) (L0 L : List Nat) : Prop where
  len : L.length = K
  words : Words L
  val : natOf L + 18446744073709551616 ^ (p + i) * c = T + 18446744073709551616 ^ p * V
  same : ∀ j, p + i ≤ j → nth L j = nth L0 j
theorem Gives.step {K p V i c T y : Nat} {L0 L : List Nat} (h : Gives K p V i c T L0 L) (hp : p + i < K) (s d : Nat) (hs : nth L (p + i) + y + c = s) (hd : d = V + 18446744073709551616 ^ i * y) :
    Gives K p d (i + 1) (s / 18446744073709551616) T L0 (L.set (p + i) (s % 18446744073709551616)) where
  len := by rw [List.length_set, h.len]
  words := words_put _ h.words _ _ (Nat.mod_lt _ (by omega))
  val := by
    have h1 := natOf_put L (p + i) (s % 18446744073709551616) (by rw [h.len]; exact hp)
    have h2 := h.val
    have h3 : 18446744073709551616 ^ p * (18446744073709551616 ^ i * y) = 18446744073709551616 ^ (p + i) * y := by rw [Nat.pow_add, Nat.mul_assoc]
    have h4 : 18446744073709551616 ^ (p + (i + 1)) * (s / 18446744073709551616) = 18446744073709551616 ^ (p + i) * (18446744073709551616 * (s / 18446744073709551616)) := by rw [← Nat.add_assoc, Nat.pow_succ, Nat.mul_assoc]
    have h5 : 18446744073709551616 ^ (p + i) * (18446744073709551616 * (s / 18446744073709551616)) + 18446744073709551616 ^ (p + i) * (s % 18446744073709551616) = 18446744073709551616 ^ (p + i) * s := by rw [← Nat.mul_add, Nat.div_add_mod]
    have h6 : 18446744073709551616 ^ (p + i) * s = 18446744073709551616 ^ (p + i) * nth L (p + i) + 18446744073709551616 ^ (p + i) * y + 18446744073709551616 ^ (p + i) * c := by rw [← hs, Nat.mul_add, Nat.mul_add]
    rw [hd, Nat.mul_add, h3, h4]
    omega
  same := fun j hj => by
    rw [nth_set _ _ _ _ (by rw [h.len]; omega), if_neg (by omega)]
    exact h.same j (by omega)
theorem Gives.start (K p : Nat) (L : List Nat) (hl : L.length = K) (hw : Words L) : Gives K p 0 0 0 (natOf L) L L :=
  ⟨hl, hw, by simp, fun _ _ => rfl⟩
/-- At place p: x times is taken of T, and o is owed (0 or 1). D is the divisor at that place; E the first place's worth behind it. -/
structure Place (K k D E T x o : Nat) (L : List Nat) : Prop where
  len : L.length = K
  words : Words L
  val : natOf L + x * D = T + E * o
  far : ∀ j, k ≤ j → nth L j = 0
  one : o ≤ 1
  ge : T / D ≤ x
theorem Place.more {K k D T x o : Nat} {L : List Nat} (h : Place K k D (18446744073709551616 ^ k) T x o L) (hD : 0 < D) (ho : o ≠ 0) : T / D < x := by
  have h1 := natOf_far L h.words k h.far
  have h2 := h.val
  obtain rfl : o = 1 := by have := h.one; omega
  rw [Nat.div_lt_iff_lt_mul hD]
  omega
theorem Place.done {K k D E T x : Nat} {L : List Nat} (h : Place K k D E T x 0 L) (hD : 0 < D) : x = T / D ∧ natOf L = T % D := by
  have h2 := h.val
  rw [Nat.mul_zero, Nat.add_zero] at h2
  have h3 : x ≤ T / D := by rw [Nat.le_div_iff_mul_le hD]; omega
  have h4 : x = T / D := Nat.le_antisymm h3 h.ge
  refine ⟨h4, ?_⟩
  have h5 := Nat.div_add_mod T D
  rw [← h4, Nat.mul_comm] at h5
  omega
/-- By one less. -/
theorem Place.back {K k D T x o c : Nat} {L L' : List Nat} (h : Place K k D (18446744073709551616 ^ k) T x o L) (hD : 0 < D) (ho : o ≠ 0) (h1 : L'.length = K) (h2 : Words L') (h3 : natOf L' + 18446744073709551616 ^ k * c = natOf L + D) (h4 : ∀ j, k ≤ j → nth L' j = nth L j) (hc : c ≤ 1) :
    0 < x ∧ Place K k D (18446744073709551616 ^ k) T (x - 1) (o - c) L' := by
  have hm := h.more hD ho
  have hx := Nat.lt_of_le_of_lt (Nat.zero_le _) hm
  refine ⟨hx, h1, h2, ?_, fun j hj => by rw [h4 j hj, h.far j hj], by have := h.one; omega, Nat.le_sub_one_of_lt hm⟩
  obtain rfl : o = 1 := by have := h.one; omega
  obtain ⟨z, rfl⟩ : ∃ z, x = z + 1 := ⟨x - 1, by omega⟩
  have h5 := h.val
  rw [Nat.add_mul, Nat.one_mul] at h5
  rw [Nat.add_sub_cancel]
  rcases (show c = 0 ∨ c = 1 by omega) with rfl | rfl
  · simp only [Nat.mul_zero, Nat.add_zero, Nat.sub_zero, Nat.mul_one] at *
    omega
  · simp only [Nat.mul_zero, Nat.add_zero, Nat.sub_self, Nat.mul_one] at *
    omega
/-- A guess by two words and one: not too small, and too great by two at most. -/
theorem guess_two (T V p n g : Nat) (L by_ : List Nat) (hL : Words L) (hT : natOf L = T) (hb : Words by_) (hV : natOf by_ = V) (hn : by_.length = n + 1) (htop : 9223372036854775808 ≤ nth by_ n) (hlt : T < 18446744073709551616 ^ (p + 1) * V)
    (hg : (nth by_ n ≤ nth L (p + n + 1) ∧ g = 18446744073709551615) ∨ (nth L (p + n + 1) < nth by_ n ∧ g = (nth L (p + n + 1) * 18446744073709551616 + nth L (p + n)) / nth by_ n)) :
    g < 18446744073709551616 ∧ T / (18446744073709551616 ^ p * V) ≤ g ∧ g ≤ T / (18446744073709551616 ^ p * V) + 2 := by
  have hP : 0 < 18446744073709551616 ^ (p + n) := Nat.pow_pos (by omega)
  have hB := natOf_lt by_ hb
  rw [hV, hn] at hB
  have e1 : 18446744073709551616 ^ p * V / 18446744073709551616 ^ (p + n) = nth by_ n := by
    rw [Nat.pow_add, Nat.mul_div_mul_left _ _ (Nat.pow_pos (by omega)), nth_natOf by_ hb, hV, Nat.mod_eq_of_lt]
    rw [Nat.div_lt_iff_lt_mul (Nat.pow_pos (by omega)), Nat.mul_comm, ← Nat.pow_succ]
    exact hB
  have hT2 : T < 18446744073709551616 ^ (p + n) * (18446744073709551616 * 18446744073709551616) := by
    refine Nat.lt_trans hlt ?_
    have : 18446744073709551616 ^ (p + 1) * V < 18446744073709551616 ^ (p + 1) * 18446744073709551616 ^ (n + 1) := Nat.mul_lt_mul_of_pos_left hB (Nat.pow_pos (by omega))
    have e : (18446744073709551616 : Nat) ^ (p + 1) * 18446744073709551616 ^ (n + 1) = 18446744073709551616 ^ (p + n) * (18446744073709551616 * 18446744073709551616) := by
      rw [← Nat.pow_add, show p + 1 + (n + 1) = p + n + 1 + 1 by omega, Nat.pow_succ, Nat.pow_succ, Nat.mul_assoc]
    rwa [e] at this
  have e2 : T / 18446744073709551616 ^ (p + n) = nth L (p + n + 1) * 18446744073709551616 + nth L (p + n) := by
    rw [nth_natOf L hL, nth_natOf L hL, hT, Nat.pow_succ, ← Nat.div_div_eq_div_mul]
    have h1 : T / 18446744073709551616 ^ (p + n) < 18446744073709551616 * 18446744073709551616 := by
      rw [Nat.div_lt_iff_lt_mul hP, Nat.mul_comm]
      exact hT2
    generalize T / 18446744073709551616 ^ (p + n) = u at *
    omega
  have hD : 0 < 18446744073709551616 ^ p * V := by
    rcases Nat.eq_zero_or_pos (18446744073709551616 ^ p * V) with h | h
    · rw [h, Nat.zero_div] at e1; omega
    · exact h
  have hge := guess_ge T (18446744073709551616 ^ p * V) (18446744073709551616 ^ (p + n)) hP (by rw [e1]; omega)
  have hq : T / (18446744073709551616 ^ p * V) < 18446744073709551616 := by
    rw [Nat.div_lt_iff_lt_mul hD, ← Nat.mul_assoc, Nat.mul_comm 18446744073709551616, ← Nat.pow_succ]
    exact hlt
  have hle : ∀ g, g ≤ (T / 18446744073709551616 ^ (p + n)) / (18446744073709551616 ^ p * V / 18446744073709551616 ^ (p + n)) → g < 18446744073709551616 → g ≤ T / (18446744073709551616 ^ p * V) + 2 := fun g h1 h2 =>
    guess_steps _ _ _ _ hD (guess_le T (18446744073709551616 ^ p * V) (18446744073709551616 ^ (p + n)) g 18446744073709551616 2 hP h1 h2 (by rw [e1]; omega) (by rw [e1]; omega))
  rw [e1, e2] at hge hle
  rcases hg with ⟨h1, rfl⟩ | ⟨h1, rfl⟩
  · refine ⟨by omega, by omega, hle _ ?_ (by omega)⟩
    rw [Nat.le_div_iff_mul_le (by omega)]
    have : 18446744073709551615 * nth by_ n ≤ 18446744073709551615 * nth L (p + n + 1) := Nat.mul_le_mul_left _ h1
    omega
  · have h2 : (nth L (p + n + 1) * 18446744073709551616 + nth L (p + n)) / nth by_ n < 18446744073709551616 := by
      rw [Nat.div_lt_iff_lt_mul (by omega)]
      have h3 : nth L (p + n) < 18446744073709551616 := by rw [nth_natOf L hL]; exact Nat.mod_lt _ (by omega)
      have h4 : 18446744073709551616 * (nth L (p + n + 1) + 1) ≤ 18446744073709551616 * nth by_ n := Nat.mul_le_mul_left _ h1
      omega
    exact ⟨h2, hge, hle _ (Nat.le_refl _) h2⟩
end Go.Proofs.Ytgmolbiicclcaaa
/- bits.Div64: two words by one, as Go's own text has it. Conditions: as typed (the upper word is below the divisor). -/
namespace Go.Proofs.Ytgmolbiicclcaaa
open Go.RowKit
set_option maxRecDepth 100000
/-- How far a word is shifted so that its highest bit is set. -/
theorem norm_shift (y : Nat) (h0 : 0 < y) (hy : y < 18446744073709551616) : ∃ s : Nat, s < 64 ∧ (64 : Int) - (Lib.bitLen y : Int) = (s : Int) ∧ 9223372036854775808 ≤ y * 2 ^ s ∧ y * 2 ^ s < 18446744073709551616 := by
  obtain ⟨b1, b2, b3⟩ := Lib.bitLenAux_bounds 64 y hy (by omega)
  have hb := bitLen_le64 y hy
  have e : Lib.bitLen y = Lib.bitLenAux 64 y := rfl
  rw [e] at hb ⊢
  generalize Lib.bitLenAux 64 y = bl at *
  refine ⟨64 - bl, by omega, by omega, ?_, ?_⟩
  · have h1 : 2 ^ (bl - 1) * 2 ^ (64 - bl) ≤ y * 2 ^ (64 - bl) := Nat.mul_le_mul_right _ b2
    rwa [← Nat.pow_add, show bl - 1 + (64 - bl) = 63 by omega] at h1
  · have h1 : y * 2 ^ (64 - bl) < 2 ^ bl * 2 ^ (64 - bl) := Nat.mul_lt_mul_of_pos_right b3 (Nat.pow_pos (by omega))
    rwa [← Nat.pow_add, show bl + (64 - bl) = 64 by omega] at h1
theorem and_low (x : Nat) (hx : x < 18446744073709551616) : bits .and .u64 (x : Int) 4294967295 = ((x % 4294967296 : Nat) : Int) := by
  have h := u64_and_nat x 4294967295 hx (by omega)
  have e : x &&& 4294967295 = x % 4294967296 := Nat.and_two_pow_sub_one_eq_mod x 32
  rw [e] at h
  exact h
theorem wrap_of (x y : Nat) (h : x % 18446744073709551616 = y) : IntKind.u64.wrap (x : Int) = (y : Int) := by rw [wrap_u64]; omega
theorem ret_two {k : IntKind} {a b c d : Int} (h : a = c) (h2 : b = d) : Ending.returned (.tuple #[.int k a, .int k b]) = .returned (.tuple #[.int k c, .int k d]) := by rw [h, h2]
theorem left_wrap (u x Q Y U : Nat) (h : Q * Y ≤ u * 4294967296 + x) (hU : u * 4294967296 + x - Q * Y = U) (hb : U < 18446744073709551616) :
    IntKind.u64.wrap (IntKind.u64.wrap (IntKind.u64.wrap ((u : Int) * 4294967296) + (x : Int)) - IntKind.u64.wrap ((Q : Int) * (Y : Int))) = (U : Int) := by
  simp only [wrap_u64]
  obtain ⟨P, hP⟩ : ∃ P, Q * Y = P := ⟨_, rfl⟩
  have eP : (Q : Int) * (Y : Int) = (P : Int) := by rw [← hP]; simp
  rw [hP] at h hU
  rw [eP]
  omega
/-- A half word's place is guessed: what the walk meets. -/
theorem dig_start (u x y1 y0 Y : Nat) (hY : Y = y1 * 4294967296 + y0) (h1 : 2147483648 ≤ y1) (h2 : y1 < 4294967296) (h0 : y0 < 4294967296) (hx : x < 4294967296) (hu : u < Y) :
    ∃ q r p : Nat, (u : Int) / (y1 : Int) = (q : Int) ∧ q < 18446744073709551616 ∧ (q : Int) * (y1 : Int) = (p : Int) ∧ p < 18446744073709551616 ∧ (u : Int) - (p : Int) = (r : Int) ∧ r < 4294967296 ∧ Hid (Dig u x y1 y0 q r) := by
  subst hY
  have D := Dig.start h1 h2 h0 hx hu
  have e := D.eq
  have hl := D.le
  refine ⟨u / y1, u % y1, u / y1 * y1, by simp, by omega, by simp, by clear hl D h1; omega, ?_, D.low, Lib.hid D⟩
  clear hl D h1
  omega
/-- What the test comes to. -/
theorem dig_round {u x y1 y0 q r : Nat} (h0 : y0 < 4294967296) (h2 : y1 < 4294967296) (hx : x < 4294967296) (h : Dig u x y1 y0 q r) :
    ∃ P : Nat, (q : Int) * (y0 : Int) = (P : Int) ∧ Hid (q * y0 = P) ∧ q < 4294967298 ∧ r < 4294967296 ∧ (q < 4294967296 → P < 18446744073709551616) ∧
      IntKind.u64.wrap (4294967296 * (r : Int)) = 4294967296 * (r : Int) ∧ IntKind.u64.wrap (4294967296 * (r : Int) + (x : Int)) = 4294967296 * (r : Int) + (x : Int) ∧ IntKind.u64.wrap ((r : Int) + (y1 : Int)) = (r : Int) + (y1 : Int) := by
  have hr := h.low
  have hq := h.le
  refine ⟨q * y0, by simp, Lib.hid rfl, by omega, hr, fun h => ?_, IntWalk.u64_in _ (by clear hq; omega), IntWalk.u64_in _ (by clear hq; omega), IntWalk.u64_in _ (by clear hq; omega)⟩
  have : q * y0 ≤ 4294967296 * 4294967295 := Nat.mul_le_mul (by omega) (by omega)
  omega
set_option maxHeartbeats 4000000 in
theorem div64_any (h l y : Nat) (w : World) (hh : h < y) (hy : y < 18446744073709551616) (hl : l < 18446744073709551616) :
    Calls Try.prog 61 #[.int .u64 h, .int .u64 l, .int .u64 y] w fun e w' => e = .returned (.tuple #[.int .u64 ((h * 18446744073709551616 + l) / y : Nat), .int .u64 ((h * 18446744073709551616 + l) % y : Nat)]) ∧ Drawn w w' := by
  have hn1 : ((y : Int) == 0) = false := by simp; omega
  have hn2 : ¬ (y : Int) ≤ (h : Int) := by omega
  rcases Nat.eq_zero_or_pos h with rfl | h0
  · have hw : IntKind.u64.wrap ((l : Int) / (y : Int)) = (l : Int) / (y : Int) := by
      have := wrap_of (l / y) (l / y) (Nat.mod_eq_of_lt (Nat.lt_of_le_of_lt (Nat.div_le_self _ _) hl))
      simpa using this
    go_enter Try.func61, Try.ntmps61
    go_wp2_with fail
    go_quiet (fail)
    go_wp2_with fail
    go_ret2
    exact ⟨by simp, (Drawn.more _)⟩
  · have hn3 : ((h : Int) == 0) = false := by simp; omega
    obtain ⟨s, hs, hsz, hs1, hs2⟩ := norm_shift y (by omega) hy
    have LZ := Try.bits_LeadingZeros64 y w (by omega) (by omega)
    rw [Int.toNat_natCast, hsz] at LZ
    have HLZ := Lib.hid LZ
    clear LZ hsz
    obtain ⟨u, hu, huy, huv⟩ := norm_words h l y s hs hh hs2 hl
    have HB := Lib.hid (norm_back (h * 18446744073709551616 + l) y s)
    obtain ⟨Y, hY⟩ : ∃ Y, y * 2 ^ s = Y := ⟨_, rfl⟩
    obtain ⟨v, hv⟩ : ∃ v, l * 2 ^ s % 18446744073709551616 = v := ⟨_, rfl⟩
    have hvl : v < 18446744073709551616 := by rw [← hv]; exact Nat.mod_lt _ (by omega)
    have hdn : l / 2 ^ (64 - s) < 18446744073709551616 := Nat.lt_of_le_of_lt (Nat.div_le_self _ _) hl
    have eY : IntKind.u64.wrap ((y : Int) * 2 ^ s) = (Y : Int) := by
      rw [hY] at hs2
      have := wrap_of (y * 2 ^ s) Y (by rw [hY]; exact Nat.mod_eq_of_lt hs2)
      simpa using this
    have eV : IntKind.u64.wrap ((l : Int) * 2 ^ s) = (v : Int) := by
      have := wrap_of (l * 2 ^ s) v hv
      simpa using this
    have eH : IntKind.u64.wrap ((h : Int) * 2 ^ s) = ((h * 2 ^ s % 18446744073709551616 : Nat) : Int) := by
      have := wrap_of (h * 2 ^ s) _ rfl
      simpa using this
    have eU : bits .or .u64 (IntKind.u64.wrap ((h : Int) * 2 ^ s)) ((l : Int) / 2 ^ (64 - s)) = (u : Int) := by
      have e2 : (l : Int) / 2 ^ (64 - s) = ((l / 2 ^ (64 - s) : Nat) : Int) := by simp
      rw [eH, e2, u64_or_nat _ _ (Nat.mod_lt _ (by omega)) hdn, hu]
    rw [hY] at hs1 hs2 huy HB
    rw [hv] at huv
    clear hu hv hY eH hdn
    obtain ⟨y1, hy1⟩ : ∃ y1, Y / 4294967296 = y1 := ⟨_, rfl⟩
    obtain ⟨y0, hy0⟩ : ∃ y0, Y % 4294967296 = y0 := ⟨_, rfl⟩
    obtain ⟨v1, hv1⟩ : ∃ v1, v / 4294967296 = v1 := ⟨_, rfl⟩
    obtain ⟨v0, hv0⟩ : ∃ v0, v % 4294967296 = v0 := ⟨_, rfl⟩
    have ey1 : (Y : Int) / 4294967296 = (y1 : Int) := by omega
    have ev1 : (v : Int) / 4294967296 = (v1 : Int) := by omega
    have ey0 := and_low Y hs2
    have ev0 := and_low v hvl
    rw [hy0] at ey0
    rw [hv0] at ev0
    have hYe : Y = y1 * 4294967296 + y0 := by omega
    have hve : v = v1 * 4294967296 + v0 := by omega
    have hy1a : 2147483648 ≤ y1 := by omega
    have hy1b : y1 < 4294967296 := by omega
    have hy0b : y0 < 4294967296 := by omega
    have hv1b : v1 < 4294967296 := by omega
    have hv0b : v0 < 4294967296 := by omega
    have huB : u < 18446744073709551616 := by omega
    clear hy1 hy0 hv1 hv0
    obtain ⟨QQ, hQQ⟩ : ∃ QQ, (h * 18446744073709551616 + l) / y = QQ := ⟨_, rfl⟩
    obtain ⟨RR, hRR⟩ : ∃ RR, (h * 18446744073709551616 + l) % y = RR := ⟨_, rfl⟩
    rw [hQQ, hRR]
    have HQQ := Lib.hid hQQ
    have HRR := Lib.hid hRR
    clear hQQ hRR
    have HYe := Lib.hid hYe
    have Hve := Lib.hid hve
    have Huv := Lib.hid huv
    have Huy := Lib.hid huy
    have HU1 := Lib.hid (show u < y1 * 4294967296 + y0 by rw [← hYe]; exact huy)
    have hyn : ¬ y1 = 0 := by omega
    have Hy1a := Lib.hid hy1a
    obtain ⟨q1, r1, p1, eq1, hqb1, ep1, hpb1, er1, hrb1, HD1⟩ := dig_start u v1 y1 y0 Y hYe hy1a hy1b hy0b hv1b huy
    clear hYe hve huv huy hy1a hn2 hs1
    go_enter Try.func61, Try.ntmps61
    go_wp2_with fail
    refine (HLZ.out).mono ?_
    rintro e w' ⟨rfl, rfl⟩
    go_wp2_with fail
    go_loopw [15, 16] (fun qv rv wr => ∃ q r : Nat, qv = .int .u64 q ∧ rv = .int .u64 r ∧ Dig u v1 y1 y0 q r ∧ w' = wr) (fun qv _ _ => (intOf qv).toNat)
    case atStart => exact ⟨q1, r1, rfl, rfl, HD1.out, rfl⟩
    case round =>
      clear eq1 ep1 er1 hqb1 hpb1 hrb1 HD1
      obtain ⟨q, r, rfl, rfl, hd, rfl⟩ := hrel
      obtain ⟨P, eP, HP, hqb, hrb, hPb, t2, t3, t6⟩ := dig_round hy0b hy1b hv1b hd
      have Hd := Lib.hid hd
      clear hd
      by_cases h1 : 4294967296 ≤ q
      · have t1 : (4294967296 : Int) ≤ (q : Int) := by omega
        have e1 : (((q - 1 : Nat) : Nat) : Int) = (q : Int) - 1 := by omega
        by_cases h3 : r + y1 < 4294967296
        · have t7 : ¬ (4294967296 : Int) ≤ (r : Int) + (y1 : Int) := by omega
          have HS := Lib.hid (Hd.out.step Hy1a.out hv1b HU1.out (.inl h1) h3)
          clear hPb h1
          go_wp2_with fail
          go_roundw
          case rel => exact ⟨q - 1, r + y1, by rw [e1], rfl, HS.out.2, by trivial⟩
          case measure => have := HS.out.1; simp [intOf]; omega
        · have t7 : (4294967296 : Int) ≤ (r : Int) + (y1 : Int) := by omega
          have HS := Lib.hid (Hd.out.out Hy1a.out hy0b hv1b HU1.out (.inl h1) h3)
          obtain ⟨Q1, hQ⟩ : ∃ Q, q - 1 = Q := ⟨_, rfl⟩
          have HQ1 := Lib.hid (show Q1 = (u * 4294967296 + v1) / (y1 * 4294967296 + y0) by rw [← hQ]; exact HS.out.1)
          have eQ1 : (q : Int) - 1 = (Q1 : Int) := by omega
          clear hPb h1 h3 hQ HS Hd HP e1
          have hlo := left_of u v1 Y Q1 (by rw [HYe.out]; exact HQ1.out) (by omega)
          obtain ⟨U, hU⟩ : ∃ U, (u * 4294967296 + v1) % Y = U := ⟨_, rfl⟩
          have hUY : U < Y := by rw [← hU]; exact Nat.mod_lt _ (by omega)
          have eU2 := left_wrap u v1 Q1 Y U hlo.1 (by rw [hlo.2, hU]) (by omega)
          have HU := Lib.hid (show U = (u * 4294967296 + v1) % Y from hU.symm)
          have HU2 := Lib.hid (show U < y1 * 4294967296 + y0 by rw [← HYe.out]; exact hUY)
          obtain ⟨Q', hQ'⟩ : ∃ Q', Q' = Q1 := ⟨_, rfl⟩
          have HQ' := Lib.hid (show Q' = (u * 4294967296 + v1) / Y by rw [hQ', HYe.out]; exact HQ1.out)
          obtain ⟨q2, r2, p2, eq2, hqb2, ep2, hpb2, er2, hrb2, HD2⟩ := dig_start U v0 y1 y0 Y HYe.out Hy1a.out hy1b hy0b hv0b hUY
          clear hlo hU
          go_wp2_with fail
          clear eU2
          rw [← hQ']
          clear hQ' 
          go_loopw [18, 16] (fun qv rv wr => ∃ q r : Nat, qv = .int .u64 q ∧ rv = .int .u64 r ∧ Dig U v0 y1 y0 q r ∧ w' = wr) (fun qv _ _ => (intOf qv).toNat)
          case atStart => exact ⟨q2, r2, rfl, rfl, HD2.out, rfl⟩
          case round =>
            clear eq2 ep2 er2 hqb2 hpb2 hrb2 HD2
            obtain ⟨q, r, rfl, rfl, hd, rfl⟩ := hrel
            obtain ⟨P, eP, HP, hqb, hrb, hPb, t2, t3, t6⟩ := dig_round hy0b hy1b hv0b hd
            have Hd := Lib.hid hd
            clear hd
            by_cases h1 : 4294967296 ≤ q
            · have t1 : (4294967296 : Int) ≤ (q : Int) := by omega
              have e1 : (((q - 1 : Nat) : Nat) : Int) = (q : Int) - 1 := by omega
              by_cases h3 : r + y1 < 4294967296
              · have t7 : ¬ (4294967296 : Int) ≤ (r : Int) + (y1 : Int) := by omega
                have HS := Lib.hid (Hd.out.step Hy1a.out hv0b HU2.out (.inl h1) h3)
                clear hPb h1
                go_wp2_with fail
                go_roundw
                case rel => exact ⟨q - 1, r + y1, by rw [e1], rfl, HS.out.2, by trivial⟩
                case measure => have := HS.out.1; simp [intOf]; omega
              · have t7 : (4294967296 : Int) ≤ (r : Int) + (y1 : Int) := by omega
                have HS := Lib.hid (Hd.out.out Hy1a.out hy0b hv0b HU2.out (.inl h1) h3)
                obtain ⟨Q2, hQ⟩ : ∃ Q, q - 1 = Q := ⟨_, rfl⟩
                have HQ2 := Lib.hid (show Q2 = (U * 4294967296 + v0) / (y1 * 4294967296 + y0) by rw [← hQ]; exact HS.out.1)
                have eQ2 : (q : Int) - 1 = (Q2 : Int) := by omega
                clear hPb h1 h3 hQ HS Hd HP e1
                obtain ⟨hQa, hQb, hT1, hT2⟩ := two_digs u v1 v0 Y Q' Q2 U (by omega) Huy.out hv1b hv0b HQ'.out HU.out (by rw [HYe.out]; exact HQ2.out)
                obtain ⟨hL1, hL2⟩ := left_of U v0 Y Q2 (by rw [HYe.out]; exact HQ2.out) (by omega)
                obtain ⟨R, hR⟩ : ∃ R, (U * 4294967296 + v0) % Y = R := ⟨_, rfl⟩
                have hRY : R < Y := by rw [← hR]; exact Nat.mod_lt _ (by omega)
                have eR := left_wrap U v0 Q2 Y R hL1 (by rw [hL2, hR]) (by omega)
                rw [hR] at hT2
                have eF : ((h * 18446744073709551616 + l) / y : Nat) = Q2 + Q' * 4294967296 := by rw [hT1, ← Hve.out, Huv.out]; exact HB.out.1.symm
                have eG : ((h * 18446744073709551616 + l) % y : Nat) = R / 2 ^ s := by rw [hT2, ← Hve.out, Huv.out]; exact HB.out.2.symm
                have eRs : ((R / 2 ^ s : Nat) : Int) = (R : Int) / 2 ^ s := by simp
                have eS : IntKind.u64.wrap ((Q' : Int) * 4294967296) = (Q' : Int) * 4294967296 := IntWalk.u64_in _ (by clear hT1 hT2 hL1 hL2; omega)
                have eS2 : IntKind.u64.wrap ((Q' : Int) * 4294967296 + (Q2 : Int)) = (Q' : Int) * 4294967296 + (Q2 : Int) := IntWalk.u64_in _ (by clear hT1 hT2 hL1 hL2; omega)
                have eS3 : ((Q2 + Q' * 4294967296 : Nat) : Int) = (Q' : Int) * 4294967296 + (Q2 : Int) := by clear hT1 hT2 hL1 hL2; omega
                have HF := Lib.hid (show ((QQ : Nat) : Int) = (Q' : Int) * 4294967296 + (Q2 : Int) ∧ ((RR : Nat) : Int) = (R : Int) / 2 ^ s from ⟨by rw [← HQQ.out, eF, eS3], by rw [← HRR.out, eG, eRs]⟩)
                clear hT1 hT2 hL1 hL2 hR hRY eF eG eRs eS3
                go_wp2_with fail
                go_ret2
                exact ⟨ret_two HF.out.1.symm HF.out.2.symm, Drawn.more 0⟩
            · have t1 : ¬ (4294967296 : Int) ≤ (q : Int) := by omega
              have hPb := hPb (by omega)
              have t5 : IntKind.u64.wrap (P : Int) = (P : Int) := IntWalk.u64_in _ (by omega)
              by_cases h2 : 4294967296 * r + v0 < P
              · have t4 : 4294967296 * (r : Int) + (v0 : Int) < (P : Int) := by omega
                have h2' : 4294967296 * r + v0 < q * y0 := by rw [HP.out]; exact h2
                by_cases h3 : r + y1 < 4294967296
                · have t7 : ¬ (4294967296 : Int) ≤ (r : Int) + (y1 : Int) := by omega
                  have HS := Lib.hid (Hd.out.step Hy1a.out hv0b HU2.out (.inr h2') h3)
                  have hq1 := HS.out.1
                  have e1 : (((q - 1 : Nat) : Nat) : Int) = (q : Int) - 1 := by omega
                  clear h1 h2 h2'
                  go_wp2_with fail
                  go_roundw
                  case rel => exact ⟨q - 1, r + y1, by rw [e1], rfl, HS.out.2, by trivial⟩
                  case measure => simp [intOf]; omega
                · have t7 : (4294967296 : Int) ≤ (r : Int) + (y1 : Int) := by omega
                  have HS := Lib.hid (Hd.out.out Hy1a.out hy0b hv0b HU2.out (.inr h2') h3)
                  have hq1 := HS.out.2
                  obtain ⟨Q2, hQ⟩ : ∃ Q, q - 1 = Q := ⟨_, rfl⟩
                  have HQ2 := Lib.hid (show Q2 = (U * 4294967296 + v0) / (y1 * 4294967296 + y0) by rw [← hQ]; exact HS.out.1)
                  have eQ2 : (q : Int) - 1 = (Q2 : Int) := by omega
                  clear h1 h2 h2' h3 hQ HS Hd HP
                  obtain ⟨hQa, hQb, hT1, hT2⟩ := two_digs u v1 v0 Y Q' Q2 U (by omega) Huy.out hv1b hv0b HQ'.out HU.out (by rw [HYe.out]; exact HQ2.out)
                  obtain ⟨hL1, hL2⟩ := left_of U v0 Y Q2 (by rw [HYe.out]; exact HQ2.out) (by omega)
                  obtain ⟨R, hR⟩ : ∃ R, (U * 4294967296 + v0) % Y = R := ⟨_, rfl⟩
                  have hRY : R < Y := by rw [← hR]; exact Nat.mod_lt _ (by omega)
                  have eR := left_wrap U v0 Q2 Y R hL1 (by rw [hL2, hR]) (by omega)
                  rw [hR] at hT2
                  have eF : ((h * 18446744073709551616 + l) / y : Nat) = Q2 + Q' * 4294967296 := by rw [hT1, ← Hve.out, Huv.out]; exact HB.out.1.symm
                  have eG : ((h * 18446744073709551616 + l) % y : Nat) = R / 2 ^ s := by rw [hT2, ← Hve.out, Huv.out]; exact HB.out.2.symm
                  have eRs : ((R / 2 ^ s : Nat) : Int) = (R : Int) / 2 ^ s := by simp
                  have eS : IntKind.u64.wrap ((Q' : Int) * 4294967296) = (Q' : Int) * 4294967296 := IntWalk.u64_in _ (by clear hT1 hT2 hL1 hL2; omega)
                  have eS2 : IntKind.u64.wrap ((Q' : Int) * 4294967296 + (Q2 : Int)) = (Q' : Int) * 4294967296 + (Q2 : Int) := IntWalk.u64_in _ (by clear hT1 hT2 hL1 hL2; omega)
                  have eS3 : ((Q2 + Q' * 4294967296 : Nat) : Int) = (Q' : Int) * 4294967296 + (Q2 : Int) := by clear hT1 hT2 hL1 hL2; omega
                  have HF := Lib.hid (show ((QQ : Nat) : Int) = (Q' : Int) * 4294967296 + (Q2 : Int) ∧ ((RR : Nat) : Int) = (R : Int) / 2 ^ s from ⟨by rw [← HQQ.out, eF, eS3], by rw [← HRR.out, eG, eRs]⟩)
                  clear hT1 hT2 hL1 hL2 hR hRY eF eG eRs eS3
                  go_wp2_with fail
                  go_ret2
                  exact ⟨ret_two HF.out.1.symm HF.out.2.symm, Drawn.more 0⟩
              · have t4 : ¬ 4294967296 * (r : Int) + (v0 : Int) < (P : Int) := by omega
                have h2' : ¬ 4294967296 * r + v0 < q * y0 := by rw [HP.out]; exact h2
                have HQ2 := Lib.hid (Hd.out.done Hy1a.out h1 h2')
                obtain ⟨Q2, hQ⟩ : ∃ Q, q = Q := ⟨_, rfl⟩
                clear h1 h2 h2' Hd HP
                subst hQ
                obtain ⟨hQa, hQb, hT1, hT2⟩ := two_digs u v1 v0 Y Q' q U (by omega) Huy.out hv1b hv0b HQ'.out HU.out (by rw [HYe.out]; exact HQ2.out)
                obtain ⟨hL1, hL2⟩ := left_of U v0 Y q (by rw [HYe.out]; exact HQ2.out) (by omega)
                obtain ⟨R, hR⟩ : ∃ R, (U * 4294967296 + v0) % Y = R := ⟨_, rfl⟩
                have hRY : R < Y := by rw [← hR]; exact Nat.mod_lt _ (by omega)
                have eR := left_wrap U v0 q Y R hL1 (by rw [hL2, hR]) (by omega)
                rw [hR] at hT2
                have eF : ((h * 18446744073709551616 + l) / y : Nat) = q + Q' * 4294967296 := by rw [hT1, ← Hve.out, Huv.out]; exact HB.out.1.symm
                have eG : ((h * 18446744073709551616 + l) % y : Nat) = R / 2 ^ s := by rw [hT2, ← Hve.out, Huv.out]; exact HB.out.2.symm
                have eRs : ((R / 2 ^ s : Nat) : Int) = (R : Int) / 2 ^ s := by simp
                have eS : IntKind.u64.wrap ((Q' : Int) * 4294967296) = (Q' : Int) * 4294967296 := IntWalk.u64_in _ (by clear hT1 hT2 hL1 hL2; omega)
                have eS2 : IntKind.u64.wrap ((Q' : Int) * 4294967296 + (q : Int)) = (Q' : Int) * 4294967296 + (q : Int) := IntWalk.u64_in _ (by clear hT1 hT2 hL1 hL2; omega)
                have eS3 : ((q + Q' * 4294967296 : Nat) : Int) = (Q' : Int) * 4294967296 + (q : Int) := by clear hT1 hT2 hL1 hL2; omega
                have HF := Lib.hid (show ((QQ : Nat) : Int) = (Q' : Int) * 4294967296 + (q : Int) ∧ ((RR : Nat) : Int) = (R : Int) / 2 ^ s from ⟨by rw [← HQQ.out, eF, eS3], by rw [← HRR.out, eG, eRs]⟩)
                clear hT1 hT2 hL1 hL2 hR hRY eF eG eRs eS3
                go_wp2_with fail
                go_ret2
                exact ⟨ret_two HF.out.1.symm HF.out.2.symm, Drawn.more 0⟩
      · have t1 : ¬ (4294967296 : Int) ≤ (q : Int) := by omega
        have hPb := hPb (by omega)
        have t5 : IntKind.u64.wrap (P : Int) = (P : Int) := IntWalk.u64_in _ (by omega)
        by_cases h2 : 4294967296 * r + v1 < P
        · have t4 : 4294967296 * (r : Int) + (v1 : Int) < (P : Int) := by omega
          have h2' : 4294967296 * r + v1 < q * y0 := by rw [HP.out]; exact h2
          by_cases h3 : r + y1 < 4294967296
          · have t7 : ¬ (4294967296 : Int) ≤ (r : Int) + (y1 : Int) := by omega
            have HS := Lib.hid (Hd.out.step Hy1a.out hv1b HU1.out (.inr h2') h3)
            have hq1 := HS.out.1
            have e1 : (((q - 1 : Nat) : Nat) : Int) = (q : Int) - 1 := by omega
            clear h1 h2 h2'
            go_wp2_with fail
            go_roundw
            case rel => exact ⟨q - 1, r + y1, by rw [e1], rfl, HS.out.2, by trivial⟩
            case measure => simp [intOf]; omega
          · have t7 : (4294967296 : Int) ≤ (r : Int) + (y1 : Int) := by omega
            have HS := Lib.hid (Hd.out.out Hy1a.out hy0b hv1b HU1.out (.inr h2') h3)
            have hq1 := HS.out.2
            obtain ⟨Q1, hQ⟩ : ∃ Q, q - 1 = Q := ⟨_, rfl⟩
            have HQ1 := Lib.hid (show Q1 = (u * 4294967296 + v1) / (y1 * 4294967296 + y0) by rw [← hQ]; exact HS.out.1)
            have eQ1 : (q : Int) - 1 = (Q1 : Int) := by omega
            clear h1 h2 h2' h3 hQ HS Hd HP
            have hlo := left_of u v1 Y Q1 (by rw [HYe.out]; exact HQ1.out) (by omega)
            obtain ⟨U, hU⟩ : ∃ U, (u * 4294967296 + v1) % Y = U := ⟨_, rfl⟩
            have hUY : U < Y := by rw [← hU]; exact Nat.mod_lt _ (by omega)
            have eU2 := left_wrap u v1 Q1 Y U hlo.1 (by rw [hlo.2, hU]) (by omega)
            have HU := Lib.hid (show U = (u * 4294967296 + v1) % Y from hU.symm)
            have HU2 := Lib.hid (show U < y1 * 4294967296 + y0 by rw [← HYe.out]; exact hUY)
            obtain ⟨Q', hQ'⟩ : ∃ Q', Q' = Q1 := ⟨_, rfl⟩
            have HQ' := Lib.hid (show Q' = (u * 4294967296 + v1) / Y by rw [hQ', HYe.out]; exact HQ1.out)
            obtain ⟨q2, r2, p2, eq2, hqb2, ep2, hpb2, er2, hrb2, HD2⟩ := dig_start U v0 y1 y0 Y HYe.out Hy1a.out hy1b hy0b hv0b hUY
            clear hlo hU
            go_wp2_with fail
            clear eU2
            rw [← hQ']
            clear hQ' 
            go_loopw [18, 16] (fun qv rv wr => ∃ q r : Nat, qv = .int .u64 q ∧ rv = .int .u64 r ∧ Dig U v0 y1 y0 q r ∧ w' = wr) (fun qv _ _ => (intOf qv).toNat)
            case atStart => exact ⟨q2, r2, rfl, rfl, HD2.out, rfl⟩
            case round =>
              clear eq2 ep2 er2 hqb2 hpb2 hrb2 HD2
              obtain ⟨q, r, rfl, rfl, hd, rfl⟩ := hrel
              obtain ⟨P, eP, HP, hqb, hrb, hPb, t2, t3, t6⟩ := dig_round hy0b hy1b hv0b hd
              have Hd := Lib.hid hd
              clear hd
              by_cases h1 : 4294967296 ≤ q
              · have t1 : (4294967296 : Int) ≤ (q : Int) := by omega
                have e1 : (((q - 1 : Nat) : Nat) : Int) = (q : Int) - 1 := by omega
                by_cases h3 : r + y1 < 4294967296
                · have t7 : ¬ (4294967296 : Int) ≤ (r : Int) + (y1 : Int) := by omega
                  have HS := Lib.hid (Hd.out.step Hy1a.out hv0b HU2.out (.inl h1) h3)
                  clear hPb h1
                  go_wp2_with fail
                  go_roundw
                  case rel => exact ⟨q - 1, r + y1, by rw [e1], rfl, HS.out.2, by trivial⟩
                  case measure => have := HS.out.1; simp [intOf]; omega
                · have t7 : (4294967296 : Int) ≤ (r : Int) + (y1 : Int) := by omega
                  have HS := Lib.hid (Hd.out.out Hy1a.out hy0b hv0b HU2.out (.inl h1) h3)
                  obtain ⟨Q2, hQ⟩ : ∃ Q, q - 1 = Q := ⟨_, rfl⟩
                  have HQ2 := Lib.hid (show Q2 = (U * 4294967296 + v0) / (y1 * 4294967296 + y0) by rw [← hQ]; exact HS.out.1)
                  have eQ2 : (q : Int) - 1 = (Q2 : Int) := by omega
                  clear hPb h1 h3 hQ HS Hd HP e1
                  obtain ⟨hQa, hQb, hT1, hT2⟩ := two_digs u v1 v0 Y Q' Q2 U (by omega) Huy.out hv1b hv0b HQ'.out HU.out (by rw [HYe.out]; exact HQ2.out)
                  obtain ⟨hL1, hL2⟩ := left_of U v0 Y Q2 (by rw [HYe.out]; exact HQ2.out) (by omega)
                  obtain ⟨R, hR⟩ : ∃ R, (U * 4294967296 + v0) % Y = R := ⟨_, rfl⟩
                  have hRY : R < Y := by rw [← hR]; exact Nat.mod_lt _ (by omega)
                  have eR := left_wrap U v0 Q2 Y R hL1 (by rw [hL2, hR]) (by omega)
                  rw [hR] at hT2
                  have eF : ((h * 18446744073709551616 + l) / y : Nat) = Q2 + Q' * 4294967296 := by rw [hT1, ← Hve.out, Huv.out]; exact HB.out.1.symm
                  have eG : ((h * 18446744073709551616 + l) % y : Nat) = R / 2 ^ s := by rw [hT2, ← Hve.out, Huv.out]; exact HB.out.2.symm
                  have eRs : ((R / 2 ^ s : Nat) : Int) = (R : Int) / 2 ^ s := by simp
                  have eS : IntKind.u64.wrap ((Q' : Int) * 4294967296) = (Q' : Int) * 4294967296 := IntWalk.u64_in _ (by clear hT1 hT2 hL1 hL2; omega)
                  have eS2 : IntKind.u64.wrap ((Q' : Int) * 4294967296 + (Q2 : Int)) = (Q' : Int) * 4294967296 + (Q2 : Int) := IntWalk.u64_in _ (by clear hT1 hT2 hL1 hL2; omega)
                  have eS3 : ((Q2 + Q' * 4294967296 : Nat) : Int) = (Q' : Int) * 4294967296 + (Q2 : Int) := by clear hT1 hT2 hL1 hL2; omega
                  have HF := Lib.hid (show ((QQ : Nat) : Int) = (Q' : Int) * 4294967296 + (Q2 : Int) ∧ ((RR : Nat) : Int) = (R : Int) / 2 ^ s from ⟨by rw [← HQQ.out, eF, eS3], by rw [← HRR.out, eG, eRs]⟩)
                  clear hT1 hT2 hL1 hL2 hR hRY eF eG eRs eS3
                  go_wp2_with fail
                  go_ret2
                  exact ⟨ret_two HF.out.1.symm HF.out.2.symm, Drawn.more 0⟩
              · have t1 : ¬ (4294967296 : Int) ≤ (q : Int) := by omega
                have hPb := hPb (by omega)
                have t5 : IntKind.u64.wrap (P : Int) = (P : Int) := IntWalk.u64_in _ (by omega)
                by_cases h2 : 4294967296 * r + v0 < P
                · have t4 : 4294967296 * (r : Int) + (v0 : Int) < (P : Int) := by omega
                  have h2' : 4294967296 * r + v0 < q * y0 := by rw [HP.out]; exact h2
                  by_cases h3 : r + y1 < 4294967296
                  · have t7 : ¬ (4294967296 : Int) ≤ (r : Int) + (y1 : Int) := by omega
                    have HS := Lib.hid (Hd.out.step Hy1a.out hv0b HU2.out (.inr h2') h3)
                    have hq1 := HS.out.1
                    have e1 : (((q - 1 : Nat) : Nat) : Int) = (q : Int) - 1 := by omega
                    clear h1 h2 h2'
                    go_wp2_with fail
                    go_roundw
                    case rel => exact ⟨q - 1, r + y1, by rw [e1], rfl, HS.out.2, by trivial⟩
                    case measure => simp [intOf]; omega
                  · have t7 : (4294967296 : Int) ≤ (r : Int) + (y1 : Int) := by omega
                    have HS := Lib.hid (Hd.out.out Hy1a.out hy0b hv0b HU2.out (.inr h2') h3)
                    have hq1 := HS.out.2
                    obtain ⟨Q2, hQ⟩ : ∃ Q, q - 1 = Q := ⟨_, rfl⟩
                    have HQ2 := Lib.hid (show Q2 = (U * 4294967296 + v0) / (y1 * 4294967296 + y0) by rw [← hQ]; exact HS.out.1)
                    have eQ2 : (q : Int) - 1 = (Q2 : Int) := by omega
                    clear h1 h2 h2' h3 hQ HS Hd HP
                    obtain ⟨hQa, hQb, hT1, hT2⟩ := two_digs u v1 v0 Y Q' Q2 U (by omega) Huy.out hv1b hv0b HQ'.out HU.out (by rw [HYe.out]; exact HQ2.out)
                    obtain ⟨hL1, hL2⟩ := left_of U v0 Y Q2 (by rw [HYe.out]; exact HQ2.out) (by omega)
                    obtain ⟨R, hR⟩ : ∃ R, (U * 4294967296 + v0) % Y = R := ⟨_, rfl⟩
                    have hRY : R < Y := by rw [← hR]; exact Nat.mod_lt _ (by omega)
                    have eR := left_wrap U v0 Q2 Y R hL1 (by rw [hL2, hR]) (by omega)
                    rw [hR] at hT2
                    have eF : ((h * 18446744073709551616 + l) / y : Nat) = Q2 + Q' * 4294967296 := by rw [hT1, ← Hve.out, Huv.out]; exact HB.out.1.symm
                    have eG : ((h * 18446744073709551616 + l) % y : Nat) = R / 2 ^ s := by rw [hT2, ← Hve.out, Huv.out]; exact HB.out.2.symm
                    have eRs : ((R / 2 ^ s : Nat) : Int) = (R : Int) / 2 ^ s := by simp
                    have eS : IntKind.u64.wrap ((Q' : Int) * 4294967296) = (Q' : Int) * 4294967296 := IntWalk.u64_in _ (by clear hT1 hT2 hL1 hL2; omega)
                    have eS2 : IntKind.u64.wrap ((Q' : Int) * 4294967296 + (Q2 : Int)) = (Q' : Int) * 4294967296 + (Q2 : Int) := IntWalk.u64_in _ (by clear hT1 hT2 hL1 hL2; omega)
                    have eS3 : ((Q2 + Q' * 4294967296 : Nat) : Int) = (Q' : Int) * 4294967296 + (Q2 : Int) := by clear hT1 hT2 hL1 hL2; omega
                    have HF := Lib.hid (show ((QQ : Nat) : Int) = (Q' : Int) * 4294967296 + (Q2 : Int) ∧ ((RR : Nat) : Int) = (R : Int) / 2 ^ s from ⟨by rw [← HQQ.out, eF, eS3], by rw [← HRR.out, eG, eRs]⟩)
                    clear hT1 hT2 hL1 hL2 hR hRY eF eG eRs eS3
                    go_wp2_with fail
                    go_ret2
                    exact ⟨ret_two HF.out.1.symm HF.out.2.symm, Drawn.more 0⟩
                · have t4 : ¬ 4294967296 * (r : Int) + (v0 : Int) < (P : Int) := by omega
                  have h2' : ¬ 4294967296 * r + v0 < q * y0 := by rw [HP.out]; exact h2
                  have HQ2 := Lib.hid (Hd.out.done Hy1a.out h1 h2')
                  obtain ⟨Q2, hQ⟩ : ∃ Q, q = Q := ⟨_, rfl⟩
                  clear h1 h2 h2' Hd HP
                  subst hQ
                  obtain ⟨hQa, hQb, hT1, hT2⟩ := two_digs u v1 v0 Y Q' q U (by omega) Huy.out hv1b hv0b HQ'.out HU.out (by rw [HYe.out]; exact HQ2.out)
                  obtain ⟨hL1, hL2⟩ := left_of U v0 Y q (by rw [HYe.out]; exact HQ2.out) (by omega)
                  obtain ⟨R, hR⟩ : ∃ R, (U * 4294967296 + v0) % Y = R := ⟨_, rfl⟩
                  have hRY : R < Y := by rw [← hR]; exact Nat.mod_lt _ (by omega)
                  have eR := left_wrap U v0 q Y R hL1 (by rw [hL2, hR]) (by omega)
                  rw [hR] at hT2
                  have eF : ((h * 18446744073709551616 + l) / y : Nat) = q + Q' * 4294967296 := by rw [hT1, ← Hve.out, Huv.out]; exact HB.out.1.symm
                  have eG : ((h * 18446744073709551616 + l) % y : Nat) = R / 2 ^ s := by rw [hT2, ← Hve.out, Huv.out]; exact HB.out.2.symm
                  have eRs : ((R / 2 ^ s : Nat) : Int) = (R : Int) / 2 ^ s := by simp
                  have eS : IntKind.u64.wrap ((Q' : Int) * 4294967296) = (Q' : Int) * 4294967296 := IntWalk.u64_in _ (by clear hT1 hT2 hL1 hL2; omega)
                  have eS2 : IntKind.u64.wrap ((Q' : Int) * 4294967296 + (q : Int)) = (Q' : Int) * 4294967296 + (q : Int) := IntWalk.u64_in _ (by clear hT1 hT2 hL1 hL2; omega)
                  have eS3 : ((q + Q' * 4294967296 : Nat) : Int) = (Q' : Int) * 4294967296 + (q : Int) := by clear hT1 hT2 hL1 hL2; omega
                  have HF := Lib.hid (show ((QQ : Nat) : Int) = (Q' : Int) * 4294967296 + (q : Int) ∧ ((RR : Nat) : Int) = (R : Int) / 2 ^ s from ⟨by rw [← HQQ.out, eF, eS3], by rw [← HRR.out, eG, eRs]⟩)
                  clear hT1 hT2 hL1 hL2 hR hRY eF eG eRs eS3
                  go_wp2_with fail
                  go_ret2
                  exact ⟨ret_two HF.out.1.symm HF.out.2.symm, Drawn.more 0⟩
        · have t4 : ¬ 4294967296 * (r : Int) + (v1 : Int) < (P : Int) := by omega
          have h2' : ¬ 4294967296 * r + v1 < q * y0 := by rw [HP.out]; exact h2
          have HQ1 := Lib.hid (Hd.out.done Hy1a.out h1 h2')
          obtain ⟨Q1, hQ⟩ : ∃ Q, q = Q := ⟨_, rfl⟩
          clear h1 h2 h2' Hd HP
          subst hQ
          have hlo := left_of u v1 Y q (by rw [HYe.out]; exact HQ1.out) (by omega)
          obtain ⟨U, hU⟩ : ∃ U, (u * 4294967296 + v1) % Y = U := ⟨_, rfl⟩
          have hUY : U < Y := by rw [← hU]; exact Nat.mod_lt _ (by omega)
          have eU2 := left_wrap u v1 q Y U hlo.1 (by rw [hlo.2, hU]) (by omega)
          have HU := Lib.hid (show U = (u * 4294967296 + v1) % Y from hU.symm)
          have HU2 := Lib.hid (show U < y1 * 4294967296 + y0 by rw [← HYe.out]; exact hUY)
          obtain ⟨Q', hQ'⟩ : ∃ Q', Q' = q := ⟨_, rfl⟩
          have HQ' := Lib.hid (show Q' = (u * 4294967296 + v1) / Y by rw [hQ', HYe.out]; exact HQ1.out)
          obtain ⟨q2, r2, p2, eq2, hqb2, ep2, hpb2, er2, hrb2, HD2⟩ := dig_start U v0 y1 y0 Y HYe.out Hy1a.out hy1b hy0b hv0b hUY
          clear hlo hU
          go_wp2_with fail
          clear eU2
          rw [← hQ']
          clear hQ' 
          go_loopw [18, 16] (fun qv rv wr => ∃ q r : Nat, qv = .int .u64 q ∧ rv = .int .u64 r ∧ Dig U v0 y1 y0 q r ∧ w' = wr) (fun qv _ _ => (intOf qv).toNat)
          case atStart => exact ⟨q2, r2, rfl, rfl, HD2.out, rfl⟩
          case round =>
            clear eq2 ep2 er2 hqb2 hpb2 hrb2 HD2
            obtain ⟨q, r, rfl, rfl, hd, rfl⟩ := hrel
            obtain ⟨P, eP, HP, hqb, hrb, hPb, t2, t3, t6⟩ := dig_round hy0b hy1b hv0b hd
            have Hd := Lib.hid hd
            clear hd
            by_cases h1 : 4294967296 ≤ q
            · have t1 : (4294967296 : Int) ≤ (q : Int) := by omega
              have e1 : (((q - 1 : Nat) : Nat) : Int) = (q : Int) - 1 := by omega
              by_cases h3 : r + y1 < 4294967296
              · have t7 : ¬ (4294967296 : Int) ≤ (r : Int) + (y1 : Int) := by omega
                have HS := Lib.hid (Hd.out.step Hy1a.out hv0b HU2.out (.inl h1) h3)
                clear hPb h1
                go_wp2_with fail
                go_roundw
                case rel => exact ⟨q - 1, r + y1, by rw [e1], rfl, HS.out.2, by trivial⟩
                case measure => have := HS.out.1; simp [intOf]; omega
              · have t7 : (4294967296 : Int) ≤ (r : Int) + (y1 : Int) := by omega
                have HS := Lib.hid (Hd.out.out Hy1a.out hy0b hv0b HU2.out (.inl h1) h3)
                obtain ⟨Q2, hQ⟩ : ∃ Q, q - 1 = Q := ⟨_, rfl⟩
                have HQ2 := Lib.hid (show Q2 = (U * 4294967296 + v0) / (y1 * 4294967296 + y0) by rw [← hQ]; exact HS.out.1)
                have eQ2 : (q : Int) - 1 = (Q2 : Int) := by omega
                clear hPb h1 h3 hQ HS Hd HP e1
                obtain ⟨hQa, hQb, hT1, hT2⟩ := two_digs u v1 v0 Y Q' Q2 U (by omega) Huy.out hv1b hv0b HQ'.out HU.out (by rw [HYe.out]; exact HQ2.out)
                obtain ⟨hL1, hL2⟩ := left_of U v0 Y Q2 (by rw [HYe.out]; exact HQ2.out) (by omega)
                obtain ⟨R, hR⟩ : ∃ R, (U * 4294967296 + v0) % Y = R := ⟨_, rfl⟩
                have hRY : R < Y := by rw [← hR]; exact Nat.mod_lt _ (by omega)
                have eR := left_wrap U v0 Q2 Y R hL1 (by rw [hL2, hR]) (by omega)
                rw [hR] at hT2
                have eF : ((h * 18446744073709551616 + l) / y : Nat) = Q2 + Q' * 4294967296 := by rw [hT1, ← Hve.out, Huv.out]; exact HB.out.1.symm
                have eG : ((h * 18446744073709551616 + l) % y : Nat) = R / 2 ^ s := by rw [hT2, ← Hve.out, Huv.out]; exact HB.out.2.symm
                have eRs : ((R / 2 ^ s : Nat) : Int) = (R : Int) / 2 ^ s := by simp
                have eS : IntKind.u64.wrap ((Q' : Int) * 4294967296) = (Q' : Int) * 4294967296 := IntWalk.u64_in _ (by clear hT1 hT2 hL1 hL2; omega)
                have eS2 : IntKind.u64.wrap ((Q' : Int) * 4294967296 + (Q2 : Int)) = (Q' : Int) * 4294967296 + (Q2 : Int) := IntWalk.u64_in _ (by clear hT1 hT2 hL1 hL2; omega)
                have eS3 : ((Q2 + Q' * 4294967296 : Nat) : Int) = (Q' : Int) * 4294967296 + (Q2 : Int) := by clear hT1 hT2 hL1 hL2; omega
                have HF := Lib.hid (show ((QQ : Nat) : Int) = (Q' : Int) * 4294967296 + (Q2 : Int) ∧ ((RR : Nat) : Int) = (R : Int) / 2 ^ s from ⟨by rw [← HQQ.out, eF, eS3], by rw [← HRR.out, eG, eRs]⟩)
                clear hT1 hT2 hL1 hL2 hR hRY eF eG eRs eS3
                go_wp2_with fail
                go_ret2
                exact ⟨ret_two HF.out.1.symm HF.out.2.symm, Drawn.more 0⟩
            · have t1 : ¬ (4294967296 : Int) ≤ (q : Int) := by omega
              have hPb := hPb (by omega)
              have t5 : IntKind.u64.wrap (P : Int) = (P : Int) := IntWalk.u64_in _ (by omega)
              by_cases h2 : 4294967296 * r + v0 < P
              · have t4 : 4294967296 * (r : Int) + (v0 : Int) < (P : Int) := by omega
                have h2' : 4294967296 * r + v0 < q * y0 := by rw [HP.out]; exact h2
                by_cases h3 : r + y1 < 4294967296
                · have t7 : ¬ (4294967296 : Int) ≤ (r : Int) + (y1 : Int) := by omega
                  have HS := Lib.hid (Hd.out.step Hy1a.out hv0b HU2.out (.inr h2') h3)
                  have hq1 := HS.out.1
                  have e1 : (((q - 1 : Nat) : Nat) : Int) = (q : Int) - 1 := by omega
                  clear h1 h2 h2'
                  go_wp2_with fail
                  go_roundw
                  case rel => exact ⟨q - 1, r + y1, by rw [e1], rfl, HS.out.2, by trivial⟩
                  case measure => simp [intOf]; omega
                · have t7 : (4294967296 : Int) ≤ (r : Int) + (y1 : Int) := by omega
                  have HS := Lib.hid (Hd.out.out Hy1a.out hy0b hv0b HU2.out (.inr h2') h3)
                  have hq1 := HS.out.2
                  obtain ⟨Q2, hQ⟩ : ∃ Q, q - 1 = Q := ⟨_, rfl⟩
                  have HQ2 := Lib.hid (show Q2 = (U * 4294967296 + v0) / (y1 * 4294967296 + y0) by rw [← hQ]; exact HS.out.1)
                  have eQ2 : (q : Int) - 1 = (Q2 : Int) := by omega
                  clear h1 h2 h2' h3 hQ HS Hd HP
                  obtain ⟨hQa, hQb, hT1, hT2⟩ := two_digs u v1 v0 Y Q' Q2 U (by omega) Huy.out hv1b hv0b HQ'.out HU.out (by rw [HYe.out]; exact HQ2.out)
                  obtain ⟨hL1, hL2⟩ := left_of U v0 Y Q2 (by rw [HYe.out]; exact HQ2.out) (by omega)
                  obtain ⟨R, hR⟩ : ∃ R, (U * 4294967296 + v0) % Y = R := ⟨_, rfl⟩
                  have hRY : R < Y := by rw [← hR]; exact Nat.mod_lt _ (by omega)
                  have eR := left_wrap U v0 Q2 Y R hL1 (by rw [hL2, hR]) (by omega)
                  rw [hR] at hT2
                  have eF : ((h * 18446744073709551616 + l) / y : Nat) = Q2 + Q' * 4294967296 := by rw [hT1, ← Hve.out, Huv.out]; exact HB.out.1.symm
                  have eG : ((h * 18446744073709551616 + l) % y : Nat) = R / 2 ^ s := by rw [hT2, ← Hve.out, Huv.out]; exact HB.out.2.symm
                  have eRs : ((R / 2 ^ s : Nat) : Int) = (R : Int) / 2 ^ s := by simp
                  have eS : IntKind.u64.wrap ((Q' : Int) * 4294967296) = (Q' : Int) * 4294967296 := IntWalk.u64_in _ (by clear hT1 hT2 hL1 hL2; omega)
                  have eS2 : IntKind.u64.wrap ((Q' : Int) * 4294967296 + (Q2 : Int)) = (Q' : Int) * 4294967296 + (Q2 : Int) := IntWalk.u64_in _ (by clear hT1 hT2 hL1 hL2; omega)
                  have eS3 : ((Q2 + Q' * 4294967296 : Nat) : Int) = (Q' : Int) * 4294967296 + (Q2 : Int) := by clear hT1 hT2 hL1 hL2; omega
                  have HF := Lib.hid (show ((QQ : Nat) : Int) = (Q' : Int) * 4294967296 + (Q2 : Int) ∧ ((RR : Nat) : Int) = (R : Int) / 2 ^ s from ⟨by rw [← HQQ.out, eF, eS3], by rw [← HRR.out, eG, eRs]⟩)
                  clear hT1 hT2 hL1 hL2 hR hRY eF eG eRs eS3
                  go_wp2_with fail
                  go_ret2
                  exact ⟨ret_two HF.out.1.symm HF.out.2.symm, Drawn.more 0⟩
              · have t4 : ¬ 4294967296 * (r : Int) + (v0 : Int) < (P : Int) := by omega
                have h2' : ¬ 4294967296 * r + v0 < q * y0 := by rw [HP.out]; exact h2
                have HQ2 := Lib.hid (Hd.out.done Hy1a.out h1 h2')
                obtain ⟨Q2, hQ⟩ : ∃ Q, q = Q := ⟨_, rfl⟩
                clear h1 h2 h2' Hd HP
                subst hQ
                obtain ⟨hQa, hQb, hT1, hT2⟩ := two_digs u v1 v0 Y Q' q U (by omega) Huy.out hv1b hv0b HQ'.out HU.out (by rw [HYe.out]; exact HQ2.out)
                obtain ⟨hL1, hL2⟩ := left_of U v0 Y q (by rw [HYe.out]; exact HQ2.out) (by omega)
                obtain ⟨R, hR⟩ : ∃ R, (U * 4294967296 + v0) % Y = R := ⟨_, rfl⟩
                have hRY : R < Y := by rw [← hR]; exact Nat.mod_lt _ (by omega)
                have eR := left_wrap U v0 q Y R hL1 (by rw [hL2, hR]) (by omega)
                rw [hR] at hT2
                have eF : ((h * 18446744073709551616 + l) / y : Nat) = q + Q' * 4294967296 := by rw [hT1, ← Hve.out, Huv.out]; exact HB.out.1.symm
                have eG : ((h * 18446744073709551616 + l) % y : Nat) = R / 2 ^ s := by rw [hT2, ← Hve.out, Huv.out]; exact HB.out.2.symm
                have eRs : ((R / 2 ^ s : Nat) : Int) = (R : Int) / 2 ^ s := by simp
                have eS : IntKind.u64.wrap ((Q' : Int) * 4294967296) = (Q' : Int) * 4294967296 := IntWalk.u64_in _ (by clear hT1 hT2 hL1 hL2; omega)
                have eS2 : IntKind.u64.wrap ((Q' : Int) * 4294967296 + (q : Int)) = (Q' : Int) * 4294967296 + (q : Int) := IntWalk.u64_in _ (by clear hT1 hT2 hL1 hL2; omega)
                have eS3 : ((q + Q' * 4294967296 : Nat) : Int) = (Q' : Int) * 4294967296 + (q : Int) := by clear hT1 hT2 hL1 hL2; omega
                have HF := Lib.hid (show ((QQ : Nat) : Int) = (Q' : Int) * 4294967296 + (q : Int) ∧ ((RR : Nat) : Int) = (R : Int) / 2 ^ s from ⟨by rw [← HQQ.out, eF, eS3], by rw [← HRR.out, eG, eRs]⟩)
                clear hT1 hT2 hL1 hL2 hR hRY eF eG eRs eS3
                go_wp2_with fail
                go_ret2
                exact ⟨ret_two HF.out.1.symm HF.out.2.symm, Drawn.more 0⟩
end Go.Proofs.Ytgmolbiicclcaaa
/- div's small functions: trimmed, giveBack, takeAway, guess. Conditions: as typed (lengths that fit a machine; the divisor lies apart from the row). -/
namespace Go.Proofs.Ytgmolbiicclcaaa
open Go.RowKit
set_option maxRecDepth 20000
theorem dtrim_any (A : Option Addr) (c : Nat) (a : List Nat) (w : World) (B : Nat) (hr : Rd .u64 w B A a) (hw : Words a) (hl : a.length ≤ 1000000) (hc : a.length ≤ c) :
    Calls Try.prog 62 #[.slice A a.length c] w fun e w' => e = .returned (.slice A (tl a) c) ∧ w = w' := by
  have Q := Lib.hid (bits_q A c a w B hr hw hl hc)
  have hle := tl_le a hw
  have hb := nbits_natOf a hw
  have ht : ((nbits (natOf a) : Int) + 64 - 1) / 64 = (tl a : Int) := by unfold tl; omega
  have ht2 : ((nbits (natOf a) : Int) + 63) / 64 = (tl a : Int) := by unfold tl; omega
  clear hr
  go_enter Try.func62, Try.ntmps62
  go_wp2_with fail
  refine (Q.out).mono ?_
  rintro e w' ⟨rfl, rfl⟩
  go_wp2_with fail
  go_ret
  exact ⟨rfl, rfl⟩
set_option maxHeartbeats 1000000 in
theorem give_any (base g K cap c1 p n c2 : Nat) (L ys : List Nat) (A2 : Option Addr) (w : World) (hown : w.ownsRow base 24 1 (.slice (some ⟨g, 0, none⟩) K cap) K (ints .u64 L)) (hL : Words L) (hlen : L.length = K) (hy : Rdx .u64 w g A2 ys) (hwy : Words ys) (hm : ys.length = n)
    (hp : p + n + 1 ≤ K) (hK : K ≤ 1000000) :
    Calls Try.prog 66 #[.slice (some ⟨g, p, none⟩) (n + 1 : Nat) c1, .slice A2 n c2] w fun e w' => ∃ L' c, e = .returned (.int .u64 ((c : Nat) : Int)) ∧ c ≤ 1 ∧ Gives K p (natOf ys) (n + 1) c (natOf L) L L' ∧
      w'.ownsRow base 24 1 (.slice (some ⟨g, 0, none⟩) K cap) K (ints .u64 L') ∧ w.grownBy w' (some g) := by
  subst hm
  have hS := Gives.start K p L hlen hL
  go_enter Try.func66, Try.ntmps66
  go_wp2_with fail
  go_loopw [9, 4] (fun j cy wr => ∃ (i C : Nat) (L' : List Nat), i ≤ ys.length ∧ j = .int .i64 i ∧ cy = .int .u64 C ∧ C ≤ 1 ∧ Gives K p (natOf (ys.take i)) i C (natOf L) L L' ∧ wr.ownsRow base 24 1 (.slice (some ⟨g, 0, none⟩) K cap) K (ints .u64 L') ∧ w.grownBy wr (some g)) (fun j _ _ => ys.length - (intOf j).toNat)
  case atStart => exact ⟨0, 0, L, Nat.zero_le _, rfl, rfl, by omega, by simpa [natOf] using hS, hown, World.grownBy.refl w _⟩
  case round =>
    obtain ⟨i, C, L', hi, rfl, rfl, hC, hS', hown', hg⟩ := hrel
    clear hown hS
    have hll := hS'.len
    have hLl := nth_lt L' hS'.words (p + i)
    have hco : wr.cell? ⟨g, p + i, none⟩ = some (.int .u64 (nth L' (p + i) : Int)) := by rw [hown'.cellAt _ (by omega), ints_get _ _ _ (by omega)]
    have hfo : wr.frozen? ⟨g, p + i, none⟩ = false := hown'.frozenAt _
    by_cases hlt : i < ys.length
    · obtain ⟨b, off, rfl, _, hcell⟩ := hy.grown hg (by omega)
      have hx1 := hcell i hlt
      have hxl := nth_lt ys hwy i
      obtain ⟨s, hs⟩ : ∃ s, nth L' (p + i) + nth ys i + C = s := ⟨_, rfl⟩
      have hadd := add64_run (nth L' (p + i)) (nth ys i) C hC
      rw [hs] at hadd
      have hst := hown'.stored (p + i) (.int .u64 ((s % 18446744073709551616 : Nat) : Int))
      rw [ints_set] at hst
      have hSS := hS'.step (by omega) s _ hs (natOf_take_succ ys i)
      have hc1 : s / 18446744073709551616 ≤ 1 := by omega
      obtain ⟨s0, hs0⟩ : ∃ s0, s % 18446744073709551616 = s0 := ⟨_, rfl⟩
      obtain ⟨s1, hs1⟩ : ∃ s1, s / 18446744073709551616 = s1 := ⟨_, rfl⟩
      rw [hs0] at hadd hst hSS
      rw [hs1] at hadd hSS hc1
      have HO := Lib.hid hst.1
      have HG := Lib.hid (hg.trans (grown_setCell wr ⟨g, p + i, none⟩ (.int .u64 (s0 : Int))))
      have HS := Lib.hid hSS
      clear hst hSS hs hs0 hs1 hcell hown' hS' hll hy
      go_wp2_with fail
      go_roundw
      case rel => exact ⟨i + 1, s1, L'.set (p + i) s0, by omega, by go_num, rfl, hc1, HS.out, HO.out, HG.out⟩
      case measure => simp [intOf]; omega
    · obtain rfl : i = ys.length := by omega
      rw [List.take_length] at hS'
      obtain ⟨s, hs⟩ : ∃ s, nth L' (p + ys.length) + 0 + C = s := ⟨_, rfl⟩
      have hadd : ∀ w : World, (callFunc 38 #[.int .u64 (nth L' (p + ys.length) : Int), .int .u64 0, .int .u64 C]).run Try.prog w = .ok (.value (.tuple #[.int .u64 ((s % 18446744073709551616 : Nat) : Int), .int .u64 ((s / 18446744073709551616 : Nat) : Int)])) w := by
        rw [← hs]
        exact add64_run (nth L' (p + ys.length)) 0 C hC
      have hst := hown'.stored (p + ys.length) (.int .u64 ((s % 18446744073709551616 : Nat) : Int))
      rw [ints_set] at hst
      have hSS := hS'.step (by omega) s (natOf ys) hs (by rw [Nat.mul_zero, Nat.add_zero])
      have hc1 : s / 18446744073709551616 ≤ 1 := by omega
      obtain ⟨s0, hs0⟩ : ∃ s0, s % 18446744073709551616 = s0 := ⟨_, rfl⟩
      obtain ⟨s1, hs1⟩ : ∃ s1, s / 18446744073709551616 = s1 := ⟨_, rfl⟩
      rw [hs0] at hadd hst hSS
      rw [hs1] at hadd hSS hc1
      have HO := Lib.hid hst.1
      have HG := Lib.hid (hg.trans (grown_setCell wr ⟨g, p + ys.length, none⟩ (.int .u64 (s0 : Int))))
      have HS := Lib.hid hSS
      clear hst hSS hs hs0 hs1 hown' hS' hll hy hlt
      go_wp2_with fail
      go_ret
      exact ⟨L'.set (p + ys.length) s0, s1, rfl, hc1, HS.out, HO.out, HG.out⟩
set_option maxHeartbeats 1000000 in
theorem take_any (base g K cap c1 p n c2 x : Nat) (L ys : List Nat) (A2 : Option Addr) (w : World) (hown : w.ownsRow base 24 1 (.slice (some ⟨g, 0, none⟩) K cap) K (ints .u64 L)) (hL : Words L) (hlen : L.length = K) (hy : Rdx .u64 w g A2 ys) (hwy : Words ys) (hm : ys.length = n)
    (hp : p + n + 1 ≤ K) (hK : K ≤ 1000000) (hx : x < 18446744073709551616) :
    Calls Try.prog 65 #[.slice (some ⟨g, p, none⟩) (n + 1 : Nat) c1, .slice A2 n c2, .int .u64 (x : Int)] w fun e w' => ∃ L' o, e = .returned (.int .u64 ((o : Nat) : Int)) ∧ o ≤ 1 ∧ Takes K p x (natOf ys) (n + 1) o (natOf L) L L' ∧
      w'.ownsRow base 24 1 (.slice (some ⟨g, 0, none⟩) K cap) K (ints .u64 L') ∧ w.grownBy w' (some g) := by
  subst hm
  have hS := Takes.start K p x L hlen hL
  go_enter Try.func65, Try.ntmps65
  go_wp2_with fail
  go_loopw [15, 6, 7] (fun j ov vv wr => ∃ (i o v : Nat) (L' : List Nat), i ≤ ys.length ∧ j = .int .i64 i ∧ ov = .int .u64 o ∧ vv = .int .u64 v ∧ o ≤ 1 ∧ v < 18446744073709551616 ∧ Takes K p x (natOf (ys.take i)) i (v + o) (natOf L) L L' ∧ wr.ownsRow base 24 1 (.slice (some ⟨g, 0, none⟩) K cap) K (ints .u64 L') ∧ w.grownBy wr (some g)) (fun j _ _ _ => ys.length - (intOf j).toNat)
  case atStart => exact ⟨0, 0, 0, L, Nat.zero_le _, rfl, rfl, rfl, by omega, by omega, by simpa [natOf] using hS, hown, World.grownBy.refl w _⟩
  case round =>
    obtain ⟨i, o, v, L', hi, rfl, rfl, rfl, ho, hv, hS', hown', hg⟩ := hrel
    clear hown hS
    have hll := hS'.len
    have hLl := nth_lt L' hS'.words (p + i)
    have hco : wr.cell? ⟨g, p + i, none⟩ = some (.int .u64 (nth L' (p + i) : Int)) := by rw [hown'.cellAt _ (by omega), ints_get _ _ _ (by omega)]
    have hfo : wr.frozen? ⟨g, p + i, none⟩ = false := hown'.frozenAt _
    by_cases hlt : i < ys.length
    · obtain ⟨b, off, rfl, _, hcell⟩ := hy.grown hg (by omega)
      have hx1 := hcell i hlt
      have hxl := nth_lt ys hwy i
      have hpr : x * nth ys i ≤ 18446744073709551615 * 18446744073709551615 := Nat.mul_le_mul (by omega) (by omega)
      obtain ⟨e1, e2⟩ := take_step x (nth ys i) v (nth L' (p + i)) o hx hxl hv hLl ho
      have M := Try.bits_Mul64 x (nth ys i) hx hxl wr
      have A1 : ∀ w : World, (callFunc 38 #[.int .u64 ((x * nth ys i % 18446744073709551616 : Nat) : Int), .int .u64 (v : Int), .int .u64 0]).run Try.prog w = .ok (.value (.tuple #[.int .u64 (((x * nth ys i % 18446744073709551616 + v) % 18446744073709551616 : Nat) : Int), .int .u64 (((x * nth ys i % 18446744073709551616 + v) / 18446744073709551616 : Nat) : Int)])) w :=
        fun w => add64_run (x * nth ys i % 18446744073709551616) v 0 (by omega) w
      have A2 := fun w => sub64_run (nth L' (p + i)) ((x * nth ys i % 18446744073709551616 + v) % 18446744073709551616) o ho w
      obtain ⟨s0, hs0⟩ : ∃ s0, (nth L' (p + i) + 18446744073709551616 - (x * nth ys i % 18446744073709551616 + v) % 18446744073709551616 - o) % 18446744073709551616 = s0 := ⟨_, rfl⟩
      obtain ⟨o2, ho2⟩ : ∃ o2, (if nth L' (p + i) < (x * nth ys i % 18446744073709551616 + v) % 18446744073709551616 + o then 1 else 0 : Nat) = o2 := ⟨_, rfl⟩
      have ho2' : o2 ≤ 1 := by rw [← ho2]; split <;> omega
      have hs0' : s0 < 18446744073709551616 := by rw [← hs0]; exact Nat.mod_lt _ (by omega)
      rw [hs0, ho2] at e2 A2
      have hSS := hS'.step (y := nth ys i) (by omega) s0 _ _ hs0' e2 (natOf_take_succ ys i)
      have hst := hown'.stored (p + i) (.int .u64 (s0 : Int))
      rw [ints_set] at hst
      clear hs0 ho2 e2
      generalize (x * nth ys i % 18446744073709551616 + v) % 18446744073709551616 = l1 at *
      generalize (x * nth ys i % 18446744073709551616 + v) / 18446744073709551616 = c1' at *
      generalize x * nth ys i % 18446744073709551616 = lo at *
      generalize x * nth ys i / 18446744073709551616 = hh at *
      have HO := Lib.hid hst.1
      have HG := Lib.hid (hg.trans (grown_setCell wr ⟨g, p + i, none⟩ (.int .u64 (s0 : Int))))
      have HS := Lib.hid hSS
      have HM := Lib.hid M
      clear hst hSS hcell hown' hS' hll hy M hpr
      go_wp2_with fail
      refine (HM.out).mono ?_
      rintro e w' ⟨rfl, rfl⟩
      go_wp2_with fail
      go_roundw
      case rel => exact ⟨i + 1, o2, hh + c1', L'.set (p + i) s0, by omega, by go_num, rfl, by go_num, ho2', e1, HS.out, HO.out, HG.out⟩
      case measure => simp [intOf]; omega
    · obtain rfl : i = ys.length := by omega
      rw [List.take_length] at hS'
      have e2 := last_step v (nth L' (p + ys.length)) o hv hLl ho
      have A2 := fun w => sub64_run (nth L' (p + ys.length)) v o ho w
      obtain ⟨s0, hs0⟩ : ∃ s0, (nth L' (p + ys.length) + 18446744073709551616 - v - o) % 18446744073709551616 = s0 := ⟨_, rfl⟩
      obtain ⟨o2, ho2⟩ : ∃ o2, (if nth L' (p + ys.length) < v + o then 1 else 0 : Nat) = o2 := ⟨_, rfl⟩
      have ho2' : o2 ≤ 1 := by rw [← ho2]; split <;> omega
      have hs0' : s0 < 18446744073709551616 := by rw [← hs0]; exact Nat.mod_lt _ (by omega)
      rw [hs0, ho2] at e2 A2
      have hSS := hS'.step (y := 0) (by omega) s0 (natOf ys) o2 hs0' (by rw [Nat.mul_zero, Nat.add_zero]; exact e2) (by rw [Nat.mul_zero, Nat.add_zero])
      have hst := hown'.stored (p + ys.length) (.int .u64 (s0 : Int))
      rw [ints_set] at hst
      have HO := Lib.hid hst.1
      have HG := Lib.hid (hg.trans (grown_setCell wr ⟨g, p + ys.length, none⟩ (.int .u64 (s0 : Int))))
      have HS := Lib.hid hSS
      clear hst hSS hs0 ho2 hown' hS' hll hy hlt e2
      go_wp2_with fail
      go_ret
      exact ⟨L'.set (p + ys.length) s0, o2, rfl, ho2', HS.out, HO.out, HG.out⟩
/-- What a place is guessed to be. -/
def guessV (hi lo f : Nat) : Nat := if f ≤ hi then 18446744073709551615 else (hi * 18446744073709551616 + lo) / f
set_option maxHeartbeats 1000000 in
theorem guess_any (g p m c1 c2 hi lo f : Nat) (A2 : Option Addr) (b off : Nat) (w : World) (hA : A2 = some ⟨b, off, none⟩) (hm : m ≤ 1000000)
    (h1 : w.cell? ⟨g, p + (m + 1), none⟩ = some (.int .u64 (hi : Int))) (h2 : w.cell? ⟨g, p + m, none⟩ = some (.int .u64 (lo : Int))) (h3 : w.cell? ⟨b, off + m, none⟩ = some (.int .u64 (f : Int)))
    (_ : hi < 18446744073709551616) (b2 : lo < 18446744073709551616) (b3 : f < 18446744073709551616) :
    Calls Try.prog 64 #[.slice (some ⟨g, p, none⟩) (m + 1 + 1 : Nat) c1, .slice A2 (m + 1 : Nat) c2] w fun e w' => e = .returned (.int .u64 (guessV hi lo f : Nat)) ∧ Drawn w w' := by
  subst hA
  by_cases hle : f ≤ hi
  · have hv := Lib.hid (show guessV hi lo f = 18446744073709551615 from if_pos hle)
    go_enter Try.func64, Try.ntmps64
    go_wp2_with fail
    go_quiet (fail)
    go_wp2_with fail
    go_ret
    exact ⟨ret_num (by rw [hv.out]; rfl), Drawn.more _⟩
  · have hv := Lib.hid (show guessV hi lo f = (hi * 18446744073709551616 + lo) / f from if_neg hle)
    obtain ⟨q, hq⟩ : ∃ q, (hi * 18446744073709551616 + lo) / f = q := ⟨_, rfl⟩
    obtain ⟨r, hr⟩ : ∃ r, (hi * 18446744073709551616 + lo) % f = r := ⟨_, rfl⟩
    have D := fun u => div64_any hi lo f u (by omega) b3 b2
    rw [hq, hr] at D
    rw [hq] at hv
    have HD := Lib.hid D
    clear D hq hr
    go_enter Try.func64, Try.ntmps64
    go_wp2_with fail
    go_quiet (fail)
    go_wp2_with fail
    refine (HD.out _).mono ?_
    rintro e w' ⟨rfl, n1, rfl⟩
    go_wp2_with fail
    go_ret
    exact ⟨ret_num (by rw [hv.out]), Drawn.more _⟩
end Go.Proofs.Ytgmolbiicclcaaa

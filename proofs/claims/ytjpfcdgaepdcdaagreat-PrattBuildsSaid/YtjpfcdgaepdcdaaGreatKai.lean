/- Several texts in one; each begins with a remark that says what it shows and on which conditions. -/
import Derived.Test.YtjpfcdgaepdcdaaGreatKah
/- Plain facts on quotients guessed by the upper words (Knuth): a guess is not too small, and not much too great. No condition but those typed; no program is named. -/
namespace Go.Proofs.YtjpfcdgaepdcdaaGreat
/-- What is guessed by upper parts is not too small. -/
theorem guess_ge (u v P : Nat) (hP : 0 < P) (hv : 0 < v / P) : u / v ≤ (u / P) / (v / P) := by
  rw [Nat.le_div_iff_mul_le hv, Nat.le_div_iff_mul_le hP]
  have h1 : v / P * P ≤ v := Nat.div_mul_le_self v P
  have h2 : u / v * v ≤ u := Nat.div_mul_le_self u v
  have h3 : u / v * (v / P) * P = u / v * (v / P * P) := Nat.mul_assoc _ _ _
  have h4 : u / v * (v / P * P) ≤ u / v * v := Nat.mul_le_mul_left _ h1
  omega
/-- A guess that is at most the upper parts' quotient, and below B, is too great by so much at most as makes B not more than the divisor's upper part. -/
theorem guess_le (u v P q B c : Nat) (hP : 0 < P) (hq : q ≤ (u / P) / (v / P)) (hB : q < B) (hv : B ≤ c * (v / P)) (h0 : 0 < v / P) : q * v ≤ u + c * v := by
  have h1 : q * (v / P) ≤ u / P := (Nat.le_div_iff_mul_le h0).1 hq
  have h2 : q * (v / P) * P ≤ u := (Nat.le_div_iff_mul_le hP).1 h1
  have h3 : v < (v / P + 1) * P := by have := Nat.div_add_mod v P; have := Nat.mod_lt v hP; rw [Nat.add_mul, Nat.one_mul, Nat.mul_comm (v / P)]; omega
  have h4 : q * v ≤ q * ((v / P + 1) * P) := Nat.mul_le_mul_left _ (Nat.le_of_lt h3)
  have h5 : q * ((v / P + 1) * P) = q * (v / P) * P + q * P := by rw [Nat.add_mul, Nat.one_mul, Nat.mul_add, Nat.mul_assoc]
  have h6 : q * P ≤ c * (v / P) * P := Nat.mul_le_mul_right _ (by omega)
  have h7 : c * (v / P) * P ≤ c * v := by rw [Nat.mul_assoc]; exact Nat.mul_le_mul_left _ (Nat.div_mul_le_self v P)
  omega
/-- So it is put right in so many steps. -/
theorem guess_steps (u v q c : Nat) (h0 : 0 < v) (h : q * v ≤ u + c * v) : q ≤ u / v + c := by
  rcases Nat.lt_or_ge (u / v + c) q with h1 | h1
  · exfalso
    have h2 : (u / v + c + 1) * v ≤ q * v := Nat.mul_le_mul_right _ h1
    have h3 : u < (u / v + 1) * v := by have := Nat.div_add_mod u v; have := Nat.mod_lt u h0; rw [Nat.add_mul, Nat.one_mul, Nat.mul_comm (u / v)]; omega
    have h4 : (u / v + c + 1) * v = (u / v + 1) * v + c * v := by rw [← Nat.add_mul]; congr 1; omega
    omega
  · exact h1
/-- A place more: what is left so far, and the next word. -/
theorem place_step (r v B x : Nat) (h0 : 0 < v) (hr : r < v) (hx : x < B) : (r * B + x) / v < B ∧ (r * B + x) % v < v := by
  refine ⟨?_, Nat.mod_lt _ h0⟩
  rw [Nat.div_lt_iff_lt_mul h0]
  have h1 : (r + 1) * B ≤ v * B := Nat.mul_le_mul_right _ hr
  rw [Nat.add_mul, Nat.one_mul] at h1
  rw [Nat.mul_comm B v]
  omega
/-- Long division, a place at a time: what was found, and what comes. -/
theorem long_div (a v B x : Nat) (h0 : 0 < v) : (a * B + x) / v = a / v * B + (a % v * B + x) / v ∧ (a * B + x) % v = (a % v * B + x) % v := by
  have h1 := Nat.div_add_mod a v
  have e : a * B + x = v * (a / v * B) + (a % v * B + x) := by
    have : a * B = (v * (a / v) + a % v) * B := by rw [h1]
    rw [this, Nat.add_mul, Nat.mul_assoc]
    omega
  constructor
  · rw [e, Nat.mul_add_div h0]
  · rw [e, Nat.mul_add_mod]
end Go.Proofs.YtjpfcdgaepdcdaaGreat
/- Plain facts on long division: bits.Div64's two half words; a place that is guessed, taken away and given back. No condition but those typed; no program is named. -/
namespace Go.Proofs.YtjpfcdgaepdcdaaGreat
set_option maxRecDepth 20000
/-- A half word's place of a quotient, guessed as q, with r left of the upper words: never too small. -/
structure Dig (u x y1 y0 q r : Nat) : Prop where
  eq : q * y1 + r = u
  low : r < 4294967296
  ge : (u * 4294967296 + x) / (y1 * 4294967296 + y0) ≤ q
  le : q ≤ 4294967297
theorem Dig.start {u x y1 y0 : Nat} (h1 : 2147483648 ≤ y1) (h2 : y1 < 4294967296) (h0 : y0 < 4294967296) (hx : x < 4294967296) (hu : u < y1 * 4294967296 + y0) : Dig u x y1 y0 (u / y1) (u % y1) where
  eq := by have := Nat.div_add_mod u y1; rw [Nat.mul_comm] at this; exact this
  low := by have := Nat.mod_lt u (show 0 < y1 by omega); omega
  ge := by
    have e1 : (u * 4294967296 + x) / 4294967296 = u := by omega
    have e2 : (y1 * 4294967296 + y0) / 4294967296 = y1 := by clear hu h1 h2 e1; omega
    have := guess_ge (u * 4294967296 + x) (y1 * 4294967296 + y0) 4294967296 (by omega) (by omega)
    rwa [e1, e2] at this
  le := by
    have : u / y1 < 4294967298 := by rw [Nat.div_lt_iff_lt_mul (by omega)]; omega
    omega
theorem Dig.lt {u x y1 y0 q r : Nat} (h1 : 2147483648 ≤ y1) (hx : x < 4294967296) (hu : u < y1 * 4294967296 + y0) (h : Dig u x y1 y0 q r) (hc : 4294967296 ≤ q ∨ 4294967296 * r + x < q * y0) : (u * 4294967296 + x) / (y1 * 4294967296 + y0) < q := by
  have _ := h1
  rw [Nat.div_lt_iff_lt_mul (by omega)]
  rcases hc with hc | hc
  · have : 4294967296 * (y1 * 4294967296 + y0) ≤ q * (y1 * 4294967296 + y0) := Nat.mul_le_mul_right _ hc
    omega
  · have e := h.eq
    rw [Nat.mul_add, ← Nat.mul_assoc]
    omega
/-- It is put right by one. -/
theorem Dig.step {u x y1 y0 q r : Nat} (h1 : 2147483648 ≤ y1) (hx : x < 4294967296) (hu : u < y1 * 4294967296 + y0) (h : Dig u x y1 y0 q r) (hc : 4294967296 ≤ q ∨ 4294967296 * r + x < q * y0) (hr : r + y1 < 4294967296) : 0 < q ∧ Dig u x y1 y0 (q - 1) (r + y1) := by
  have h2 := h.lt h1 hx hu hc
  have hq := Nat.lt_of_le_of_lt (Nat.zero_le _) h2
  refine ⟨hq, ?_, hr, Nat.le_sub_one_of_lt h2, by have := h.le; omega⟩
  have e := h.eq
  obtain ⟨p, rfl⟩ : ∃ p, q = p + 1 := ⟨q - 1, by omega⟩
  rw [Nat.add_mul, Nat.one_mul] at e
  rw [Nat.add_sub_cancel]
  omega
/-- It is right where the upper words leave too much for one more. -/
theorem Dig.out {u x y1 y0 q r : Nat} (h1 : 2147483648 ≤ y1) (h0 : y0 < 4294967296) (hx : x < 4294967296) (hu : u < y1 * 4294967296 + y0) (h : Dig u x y1 y0 q r) (hc : 4294967296 ≤ q ∨ 4294967296 * r + x < q * y0) (hr : ¬ r + y1 < 4294967296) : q - 1 = (u * 4294967296 + x) / (y1 * 4294967296 + y0) ∧ 0 < q := by
  have h2 := h.lt h1 hx hu hc
  have hq := Nat.lt_of_le_of_lt (Nat.zero_le _) h2
  obtain ⟨p, rfl⟩ : ∃ p, q = p + 1 := ⟨q - 1, by omega⟩
  refine ⟨Nat.le_antisymm ?_ (Nat.le_sub_one_of_lt h2), hq⟩
  rw [Nat.add_sub_cancel, Nat.le_div_iff_mul_le (by omega), Nat.mul_add, ← Nat.mul_assoc]
  have e := h.eq
  have hl := h.le
  rw [Nat.add_mul, Nat.one_mul] at e
  have h3 : p * y0 ≤ 4294967296 * y0 := Nat.mul_le_mul_right _ (by omega)
  omega
/-- It is right where nothing says otherwise. -/
theorem Dig.done {u x y1 y0 q r : Nat} (h1 : 2147483648 ≤ y1) (h : Dig u x y1 y0 q r) (hc : ¬ 4294967296 ≤ q) (hc2 : ¬ 4294967296 * r + x < q * y0) : q = (u * 4294967296 + x) / (y1 * 4294967296 + y0) := by
  have _ := hc
  refine Nat.le_antisymm ?_ h.ge
  rw [Nat.le_div_iff_mul_le (by omega), Nat.mul_add, ← Nat.mul_assoc]
  have e := h.eq
  omega
/-- What is left behind a place, as words that go round tell it. -/
theorem left_of (u x y q : Nat) (hq : q = (u * 4294967296 + x) / y) (_hy : 0 < y) : q * y ≤ u * 4294967296 + x ∧ u * 4294967296 + x - q * y = (u * 4294967296 + x) % y := by
  subst hq
  have := Nat.div_add_mod (u * 4294967296 + x) y
  rw [Nat.mul_comm] at this
  omega
/-- Two half words' places are one word's. -/
theorem two_digs (u x1 x0 y q1 q0 r1 : Nat) (hy : 0 < y) (hu : u < y) (h1 : x1 < 4294967296) (h0 : x0 < 4294967296) (hq1 : q1 = (u * 4294967296 + x1) / y) (hr1 : r1 = (u * 4294967296 + x1) % y) (hq0 : q0 = (r1 * 4294967296 + x0) / y) :
    q1 < 4294967296 ∧ q0 < 4294967296 ∧ q0 + q1 * 4294967296 = (u * 18446744073709551616 + (x1 * 4294967296 + x0)) / y ∧ (r1 * 4294967296 + x0) % y = (u * 18446744073709551616 + (x1 * 4294967296 + x0)) % y := by
  have e : u * 18446744073709551616 + (x1 * 4294967296 + x0) = y * (q1 * 4294967296) + (r1 * 4294967296 + x0) := by
    have := Nat.div_add_mod (u * 4294967296 + x1) y
    rw [← hq1, ← hr1] at this
    have h : (y * q1 + r1) * 4294967296 = (u * 4294967296 + x1) * 4294967296 := by rw [this]
    rw [Nat.add_mul, Nat.mul_assoc] at h
    omega
  have hr : r1 < y := by rw [hr1]; exact Nat.mod_lt _ hy
  refine ⟨?_, ?_, ?_, ?_⟩
  · rw [hq1, Nat.div_lt_iff_lt_mul hy]; omega
  · rw [hq0, Nat.div_lt_iff_lt_mul hy]; omega
  · rw [e, Nat.mul_add_div hy, ← hq0]; omega
  · rw [e, Nat.mul_add_mod]
/-- A number of two words, shifted so that the divisor's highest bit is set. -/
theorem norm_words (hi lo y s : Nat) (hs : s < 64) (hy : hi < y) (hyB : y * 2 ^ s < 18446744073709551616) (hlo : lo < 18446744073709551616) :
    ∃ u, (hi * 2 ^ s % 18446744073709551616) ||| (lo / 2 ^ (64 - s)) = u ∧ u < y * 2 ^ s ∧ u * 18446744073709551616 + lo * 2 ^ s % 18446744073709551616 = (hi * 18446744073709551616 + lo) * 2 ^ s := by
  have eB : (18446744073709551616 : Nat) = 2 ^ (64 - s) * 2 ^ s := by rw [← Nat.pow_add, show 64 - s + s = 64 by omega]
  have hp : 0 < 2 ^ s := Nat.pow_pos (by omega)
  have ht : lo / 2 ^ (64 - s) < 2 ^ s := by
    rw [Nat.div_lt_iff_lt_mul (Nat.pow_pos (by omega)), Nat.mul_comm, ← eB]
    exact hlo
  have hd : lo * 2 ^ s / 18446744073709551616 = lo / 2 ^ (64 - s) := by rw [eB, Nat.mul_div_mul_right _ _ hp]
  have hm := Nat.div_add_mod (lo * 2 ^ s) 18446744073709551616
  rw [hd] at hm
  have h1 : (hi + 1) * 2 ^ s ≤ y * 2 ^ s := Nat.mul_le_mul_right _ hy
  rw [Nat.add_mul, Nat.one_mul] at h1
  have hlt : hi * 2 ^ s + lo / 2 ^ (64 - s) < y * 2 ^ s := by omega
  refine ⟨hi * 2 ^ s + lo / 2 ^ (64 - s), ?_, hlt, ?_⟩
  · rw [or_low _ _ s hs ht, Nat.mod_eq_of_lt (by omega)]
  · clear eB
    have e : hi * 18446744073709551616 * 2 ^ s = hi * 2 ^ s * 18446744073709551616 := by rw [Nat.mul_assoc, Nat.mul_comm 18446744073709551616, ← Nat.mul_assoc]
    rw [Nat.add_mul, Nat.add_mul, e]
    omega
theorem norm_back (N y s : Nat) : N * 2 ^ s / (y * 2 ^ s) = N / y ∧ N * 2 ^ s % (y * 2 ^ s) / 2 ^ s = N % y := by
  have hp : 0 < 2 ^ s := Nat.pow_pos (by omega)
  refine ⟨Nat.mul_div_mul_right _ _ hp, ?_⟩
  rw [Nat.mul_mod_mul_right, Nat.mul_div_cancel _ hp]
/-- Noughts from place k on: below so many words. -/
theorem natOf_far (l : List Nat) (h : Words l) (k : Nat) (hz : ∀ j, k ≤ j → nth l j = 0) : natOf l < 18446744073709551616 ^ k := by
  have e : natOf l = natOf (l.take k) := natOf_ext _ _ fun j => by
    by_cases hj : j < k
    · simp [nth, hj]
    · rw [hz j (by omega)]
      simp [nth, List.getElem?_take, hj]
  rw [e]
  exact natOf_take_lt l h k
theorem far_of (l : List Nat) (h : Words l) (k : Nat) (hl : natOf l < 18446744073709551616 ^ k) (j : Nat) (hj : k ≤ j) : nth l j = 0 := by
  rw [nth_natOf l h, Nat.div_eq_of_lt (Nat.lt_of_lt_of_le hl (Nat.pow_le_pow_right (by omega) hj))]
/-- A row from whose places p on x times a number is taken, i words of it so far: o is owed. -/
structure Takes (K p x V i o : Nat) (T : Nat) (L0 L : List Nat) : Prop where
  len : L.length = K
  words : Words L
  val : natOf L + 18446744073709551616 ^ p * (x * V) = T + 18446744073709551616 ^ (p + i) * o
  same : ∀ j, p + i ≤ j → nth L j = nth L0 j
theorem Takes.step {K p x V i o T y : Nat} {L0 L : List Nat} (h : Takes K p x V i o T L0 L) (hp : p + i < K) (s c o2 : Nat) (hs : s < 18446744073709551616) (he : s + x * y + o = nth L (p + i) + 18446744073709551616 * o2) (hc : c = V + 18446744073709551616 ^ i * y) :
    Takes K p x c (i + 1) o2 T L0 (L.set (p + i) s) where
  len := by rw [List.length_set, h.len]
  words := words_put _ h.words _ _ hs
  val := by
    have h1 := natOf_put L (p + i) s (by rw [h.len]; exact hp)
    have h2 := h.val
    have h3 : 18446744073709551616 ^ p * (x * (18446744073709551616 ^ i * y)) = 18446744073709551616 ^ (p + i) * (x * y) := by rw [Nat.pow_add, Nat.mul_left_comm x, Nat.mul_assoc]
    have h4 : 18446744073709551616 ^ (p + (i + 1)) * o2 = 18446744073709551616 ^ (p + i) * (18446744073709551616 * o2) := by rw [← Nat.add_assoc, Nat.pow_succ, Nat.mul_assoc]
    have h5 : 18446744073709551616 ^ (p + i) * (s + x * y + o) = 18446744073709551616 ^ (p + i) * (nth L (p + i) + 18446744073709551616 * o2) := by rw [he]
    rw [Nat.mul_add, Nat.mul_add, Nat.mul_add] at h5
    rw [hc, Nat.mul_add, Nat.mul_add, h3, h4]
    omega
  same := fun j hj => by
    rw [nth_set _ _ _ _ (by rw [h.len]; omega), if_neg (by omega)]
    exact h.same j (by omega)
theorem Takes.start (K p x : Nat) (L : List Nat) (hl : L.length = K) (hw : Words L) : Takes K p x 0 0 0 (natOf L) L L :=
  ⟨hl, hw, by simp, fun _ _ => rfl⟩
/-- Words that take away: a product's, and what was owed. -/
theorem take_step (x y v r b : Nat) (hx : x < 18446744073709551616) (hy : y < 18446744073709551616) (hv : v < 18446744073709551616) (hr : r < 18446744073709551616) (hb : b ≤ 1) :
    x * y / 18446744073709551616 + (x * y % 18446744073709551616 + v) / 18446744073709551616 < 18446744073709551616 ∧
    (r + 18446744073709551616 - (x * y % 18446744073709551616 + v) % 18446744073709551616 - b) % 18446744073709551616 + x * y + (v + b) =
      r + 18446744073709551616 * (x * y / 18446744073709551616 + (x * y % 18446744073709551616 + v) / 18446744073709551616 + (if r < (x * y % 18446744073709551616 + v) % 18446744073709551616 + b then 1 else 0)) := by
  have h : x * y ≤ 18446744073709551615 * 18446744073709551615 := Nat.mul_le_mul (by omega) (by omega)
  generalize x * y = P at *
  split <;> omega
theorem last_step (v r b : Nat) (hv : v < 18446744073709551616) (hr : r < 18446744073709551616) (hb : b ≤ 1) :
    (r + 18446744073709551616 - v - b) % 18446744073709551616 + (v + b) = r + 18446744073709551616 * (if r < v + b then 1 else 0) := by
  split <;> omega
/-- A row to whose places from p on a number is added, i words of it so far: c is carried. -/
structure Gives (K p V i c : Nat) (T : Nat) (L0 L : List Nat) : Prop where
  len : L.length = K
  words : Words L
  val : natOf L + 18446744073709551616 ^ (p + i) * c = T + 18446744073709551616 ^ p * V
  same : ∀ j, p + i ≤ j → nth L j = nth L0 j
theorem Gives.step {K p V i c T y : Nat} {L0 L : List Nat} (h : Gives K p V i c T L0 L) (hp : p + i < K) (s d : Nat) (hs : nth L (p + i) + y + c = s) (hd : d = V + 18446744073709551616 ^ i * y) :
    Gives K p d (i + 1) (s / 18446744073709551616) T L0 (L.set (p + i) (s % 18446744073709551616)) where
  len := by rw [List.length_set, h.len]
  words := words_put _ h.words _ _ (Nat.mod_lt _ (by omega))
  val := by
    have h1 := natOf_put L (p + i) (s % 18446744073709551616) (by rw [h.len]; exact hp)
    have h2 := h.val
    have h3 : 18446744073709551616 ^ p * (18446744073709551616 ^ i * y) = 18446744073709551616 ^ (p + i) * y := by rw [Nat.pow_add, Nat.mul_assoc]
    have h4 : 18446744073709551616 ^ (p + (i + 1)) * (s / 18446744073709551616) = 18446744073709551616 ^ (p + i) * (18446744073709551616 * (s / 18446744073709551616)) := by rw [← Nat.add_assoc, Nat.pow_succ, Nat.mul_assoc]
    have h5 : 18446744073709551616 ^ (p + i) * (18446744073709551616 * (s / 18446744073709551616)) + 18446744073709551616 ^ (p + i) * (s % 18446744073709551616) = 18446744073709551616 ^ (p + i) * s := by rw [← Nat.mul_add, Nat.div_add_mod]
    have h6 : 18446744073709551616 ^ (p + i) * s = 18446744073709551616 ^ (p + i) * nth L (p + i) + 18446744073709551616 ^ (p + i) * y + 18446744073709551616 ^ (p + i) * c := by rw [← hs, Nat.mul_add, Nat.mul_add]
    rw [hd, Nat.mul_add, h3, h4]
    omega
  same := fun j hj => by
    rw [nth_set _ _ _ _ (by rw [h.len]; omega), if_neg (by omega)]
    exact h.same j (by omega)
theorem Gives.start (K p : Nat) (L : List Nat) (hl : L.length = K) (hw : Words L) : Gives K p 0 0 0 (natOf L) L L :=
  ⟨hl, hw, by simp, fun _ _ => rfl⟩
/-- At place p: x times is taken of T, and o is owed (0 or 1). D is the divisor at that place; E the first place's worth behind it. -/
structure Place (K k D E T x o : Nat) (L : List Nat) : Prop where
  len : L.length = K
  words : Words L
  val : natOf L + x * D = T + E * o
  far : ∀ j, k ≤ j → nth L j = 0
  one : o ≤ 1
  ge : T / D ≤ x
theorem Place.more {K k D T x o : Nat} {L : List Nat} (h : Place K k D (18446744073709551616 ^ k) T x o L) (hD : 0 < D) (ho : o ≠ 0) : T / D < x := by
  have h1 := natOf_far L h.words k h.far
  have h2 := h.val
  obtain rfl : o = 1 := by have := h.one; omega
  rw [Nat.div_lt_iff_lt_mul hD]
  omega
theorem Place.done {K k D E T x : Nat} {L : List Nat} (h : Place K k D E T x 0 L) (hD : 0 < D) : x = T / D ∧ natOf L = T % D := by
  have h2 := h.val
  rw [Nat.mul_zero, Nat.add_zero] at h2
  have h3 : x ≤ T / D := by rw [Nat.le_div_iff_mul_le hD]; omega
  have h4 : x = T / D := Nat.le_antisymm h3 h.ge
  refine ⟨h4, ?_⟩
  have h5 := Nat.div_add_mod T D
  rw [← h4, Nat.mul_comm] at h5
  omega
/-- By one less. -/
theorem Place.back {K k D T x o c : Nat} {L L' : List Nat} (h : Place K k D (18446744073709551616 ^ k) T x o L) (hD : 0 < D) (ho : o ≠ 0) (h1 : L'.length = K) (h2 : Words L') (h3 : natOf L' + 18446744073709551616 ^ k * c = natOf L + D) (h4 : ∀ j, k ≤ j → nth L' j = nth L j) (hc : c ≤ 1) :
    0 < x ∧ Place K k D (18446744073709551616 ^ k) T (x - 1) (o - c) L' := by
  have hm := h.more hD ho
  have hx := Nat.lt_of_le_of_lt (Nat.zero_le _) hm
  refine ⟨hx, h1, h2, ?_, fun j hj => by rw [h4 j hj, h.far j hj], by have := h.one; omega, Nat.le_sub_one_of_lt hm⟩
  obtain rfl : o = 1 := by have := h.one; omega
  obtain ⟨z, rfl⟩ : ∃ z, x = z + 1 := ⟨x - 1, by omega⟩
  have h5 := h.val
  rw [Nat.add_mul, Nat.one_mul] at h5
  rw [Nat.add_sub_cancel]
  rcases (show c = 0 ∨ c = 1 by omega) with rfl | rfl
  · simp only [Nat.mul_zero, Nat.add_zero, Nat.sub_zero, Nat.mul_one] at *
    omega
  · simp only [Nat.mul_zero, Nat.add_zero, Nat.sub_self, Nat.mul_one] at *
    omega
/-- A guess by two words and one: not too small, and too great by two at most. -/
theorem guess_two (T V p n g : Nat) (L by_ : List Nat) (hL : Words L) (hT : natOf L = T) (hb : Words by_) (hV : natOf by_ = V) (hn : by_.length = n + 1) (htop : 9223372036854775808 ≤ nth by_ n) (hlt : T < 18446744073709551616 ^ (p + 1) * V)
    (hg : (nth by_ n ≤ nth L (p + n + 1) ∧ g = 18446744073709551615) ∨ (nth L (p + n + 1) < nth by_ n ∧ g = (nth L (p + n + 1) * 18446744073709551616 + nth L (p + n)) / nth by_ n)) :
    g < 18446744073709551616 ∧ T / (18446744073709551616 ^ p * V) ≤ g ∧ g ≤ T / (18446744073709551616 ^ p * V) + 2 := by
  have hP : 0 < 18446744073709551616 ^ (p + n) := Nat.pow_pos (by omega)
  have hB := natOf_lt by_ hb
  rw [hV, hn] at hB
  have e1 : 18446744073709551616 ^ p * V / 18446744073709551616 ^ (p + n) = nth by_ n := by
    rw [Nat.pow_add, Nat.mul_div_mul_left _ _ (Nat.pow_pos (by omega)), nth_natOf by_ hb, hV, Nat.mod_eq_of_lt]
    rw [Nat.div_lt_iff_lt_mul (Nat.pow_pos (by omega)), Nat.mul_comm, ← Nat.pow_succ]
    exact hB
  have hT2 : T < 18446744073709551616 ^ (p + n) * (18446744073709551616 * 18446744073709551616) := by
    refine Nat.lt_trans hlt ?_
    have : 18446744073709551616 ^ (p + 1) * V < 18446744073709551616 ^ (p + 1) * 18446744073709551616 ^ (n + 1) := Nat.mul_lt_mul_of_pos_left hB (Nat.pow_pos (by omega))
    have e : (18446744073709551616 : Nat) ^ (p + 1) * 18446744073709551616 ^ (n + 1) = 18446744073709551616 ^ (p + n) * (18446744073709551616 * 18446744073709551616) := by
      rw [← Nat.pow_add, show p + 1 + (n + 1) = p + n + 1 + 1 by omega, Nat.pow_succ, Nat.pow_succ, Nat.mul_assoc]
    rwa [e] at this
  have e2 : T / 18446744073709551616 ^ (p + n) = nth L (p + n + 1) * 18446744073709551616 + nth L (p + n) := by
    rw [nth_natOf L hL, nth_natOf L hL, hT, Nat.pow_succ, ← Nat.div_div_eq_div_mul]
    have h1 : T / 18446744073709551616 ^ (p + n) < 18446744073709551616 * 18446744073709551616 := by
      rw [Nat.div_lt_iff_lt_mul hP, Nat.mul_comm]
      exact hT2
    generalize T / 18446744073709551616 ^ (p + n) = u at *
    omega
  have hD : 0 < 18446744073709551616 ^ p * V := by
    rcases Nat.eq_zero_or_pos (18446744073709551616 ^ p * V) with h | h
    · rw [h, Nat.zero_div] at e1; omega
    · exact h
  have hge := guess_ge T (18446744073709551616 ^ p * V) (18446744073709551616 ^ (p + n)) hP (by rw [e1]; omega)
  have hq : T / (18446744073709551616 ^ p * V) < 18446744073709551616 := by
    rw [Nat.div_lt_iff_lt_mul hD, ← Nat.mul_assoc, Nat.mul_comm 18446744073709551616, ← Nat.pow_succ]
    exact hlt
  have hle : ∀ g, g ≤ (T / 18446744073709551616 ^ (p + n)) / (18446744073709551616 ^ p * V / 18446744073709551616 ^ (p + n)) → g < 18446744073709551616 → g ≤ T / (18446744073709551616 ^ p * V) + 2 := fun g h1 h2 =>
    guess_steps _ _ _ _ hD (guess_le T (18446744073709551616 ^ p * V) (18446744073709551616 ^ (p + n)) g 18446744073709551616 2 hP h1 h2 (by rw [e1]; omega) (by rw [e1]; omega))
  rw [e1, e2] at hge hle
  rcases hg with ⟨h1, rfl⟩ | ⟨h1, rfl⟩
  · refine ⟨by omega, by omega, hle _ ?_ (by omega)⟩
    rw [Nat.le_div_iff_mul_le (by omega)]
    have : 18446744073709551615 * nth by_ n ≤ 18446744073709551615 * nth L (p + n + 1) := Nat.mul_le_mul_left _ h1
    omega
  · have h2 : (nth L (p + n + 1) * 18446744073709551616 + nth L (p + n)) / nth by_ n < 18446744073709551616 := by
      rw [Nat.div_lt_iff_lt_mul (by omega)]
      have h3 : nth L (p + n) < 18446744073709551616 := by rw [nth_natOf L hL]; exact Nat.mod_lt _ (by omega)
      have h4 : 18446744073709551616 * (nth L (p + n + 1) + 1) ≤ 18446744073709551616 * nth by_ n := Nat.mul_le_mul_left _ h1
      omega
    exact ⟨h2, hge, hle _ (Nat.le_refl _) h2⟩
end Go.Proofs.YtjpfcdgaepdcdaaGreat

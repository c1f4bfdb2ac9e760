/- Several texts in one; each begins with a remark that says what it shows and on which conditions. -/

/- Plain facts on sums and products over 1 .. n, and on lists that are turned into themselves. No condition but those typed; no program is named. -/
namespace Go.Proofs.YtjpfcdgaepdcdaaGreat
/-- f 1 + .. + f n -/
def sumN (f : Nat → Nat) : Nat → Nat
  | 0 => 0
  | n + 1 => sumN f n + f (n + 1)
/-- f 1 * .. * f n -/
def prodI (f : Nat → Int) : Nat → Int
  | 0 => 1
  | n + 1 => prodI f n * f (n + 1)
/-- 1, .., n -/
def upTo (n : Nat) : List Nat := List.range' 1 n
theorem mem_upTo {n k : Nat} : k ∈ upTo n ↔ 1 ≤ k ∧ k ≤ n := by
  rw [upTo, List.mem_range'_1]
  omega
theorem upTo_succ (n : Nat) : upTo (n + 1) = upTo n ++ [n + 1] := by
  rw [upTo, List.range'_concat, upTo]
  simp [Nat.add_comm]
theorem nodup_upTo (n : Nat) : (upTo n).Nodup := List.nodup_range'
theorem length_upTo (n : Nat) : (upTo n).length = n := List.length_range'
/-- The product of a list's numbers. -/
def listI (l : List Int) : Int := l.foldr (· * ·) 1
def listN (l : List Nat) : Nat := l.foldr (· + ·) 0
theorem listI_append (l m : List Int) : listI (l ++ m) = listI l * listI m := by
  induction l with
  | nil => simp [listI]
  | cons a l ih => simp only [listI, List.cons_append, List.foldr_cons] at ih ⊢; rw [ih, Int.mul_assoc]
theorem listN_append (l m : List Nat) : listN (l ++ m) = listN l + listN m := by
  induction l with
  | nil => simp [listN]
  | cons a l ih => simp only [listN, List.cons_append, List.foldr_cons] at ih ⊢; omega
theorem listI_perm {l m : List Int} (h : l.Perm m) : listI l = listI m := by
  induction h with
  | nil => rfl
  | cons x _ ih => simp only [listI, List.foldr_cons] at ih ⊢; rw [ih]
  | swap x y l => simp only [listI, List.foldr_cons]; rw [← Int.mul_assoc, ← Int.mul_assoc, Int.mul_comm x y]
  | trans _ _ h1 h2 => rw [h1, h2]
theorem listN_perm {l m : List Nat} (h : l.Perm m) : listN l = listN m := by
  induction h with
  | nil => rfl
  | cons x _ ih => simp only [listN, List.foldr_cons] at ih ⊢; omega
  | swap x y l => simp only [listN, List.foldr_cons]; omega
  | trans _ _ h1 h2 => rw [h1, h2]
theorem prodI_list (f : Nat → Int) (n : Nat) : prodI f n = listI ((upTo n).map f) := by
  induction n with
  | zero => rfl
  | succ n ih => rw [prodI, upTo_succ, List.map_append, listI_append, ih]; simp [listI]
theorem sumN_list (f : Nat → Nat) (n : Nat) : sumN f n = listN ((upTo n).map f) := by
  induction n with
  | zero => rfl
  | succ n ih => rw [sumN, upTo_succ, List.map_append, listN_append, ih]; simp [listN]
theorem perm_of_sub {α : Type} [BEq α] [LawfulBEq α] : ∀ (l m : List α), l.Nodup → (∀ x ∈ l, x ∈ m) → m.length ≤ l.length → l.Perm m
  | [], m, _, _, hl => by
    have : m = [] := List.eq_nil_of_length_eq_zero (by simpa using hl)
    subst this; exact List.Perm.refl _
  | a :: t, m, hn, hs, hl => by
    have ha : a ∈ m := hs a (by simp)
    have h1 := List.perm_cons_erase ha
    have hn' := List.nodup_cons.1 hn
    have h2 : t.Perm (m.erase a) := perm_of_sub t (m.erase a) hn'.2 (fun x hx => (List.mem_erase_of_ne (by rintro rfl; exact hn'.1 hx)).2 (hs x (by simp [hx]))) (by
      rw [List.length_erase_of_mem ha]; simp at hl; omega)
    exact (List.Perm.cons a h2).trans h1.symm
theorem nodup_map {α β : Type} (f : α → β) : ∀ (l : List α), l.Nodup → (∀ x ∈ l, ∀ y ∈ l, f x = f y → x = y) → (l.map f).Nodup
  | [], _, _ => by simp
  | a :: t, hn, hi => by
    have hn' := List.nodup_cons.1 hn
    rw [List.map_cons, List.nodup_cons]
    refine ⟨fun h => ?_, nodup_map f t hn'.2 fun x hx y hy => hi x (by simp [hx]) y (by simp [hy])⟩
    obtain ⟨y, hy, e⟩ := List.mem_map.1 h
    have e2 : y = a := hi y (by simp [hy]) a (by simp) e
    exact hn'.1 (e2 ▸ hy)
/-- What turns 1 .. n into themselves, no two into one, orders them anew. -/
theorem perm_upTo (g : Nat → Nat) (n : Nat) (hg : ∀ k, 1 ≤ k → k ≤ n → 1 ≤ g k ∧ g k ≤ n) (hi : ∀ k j, 1 ≤ k → k ≤ n → 1 ≤ j → j ≤ n → g k = g j → k = j) : ((upTo n).map g).Perm (upTo n) := by
  refine perm_of_sub _ _ (nodup_map g _ (nodup_upTo n) fun x hx y hy => hi x y (mem_upTo.1 hx).1 (mem_upTo.1 hx).2 (mem_upTo.1 hy).1 (mem_upTo.1 hy).2) (fun x hx => ?_) (by simp)
  obtain ⟨k, hk, rfl⟩ := List.mem_map.1 hx
  exact mem_upTo.2 (hg k (mem_upTo.1 hk).1 (mem_upTo.1 hk).2)
theorem prodI_perm (f : Nat → Int) (g : Nat → Nat) (n : Nat) (hg : ∀ k, 1 ≤ k → k ≤ n → 1 ≤ g k ∧ g k ≤ n) (hi : ∀ k j, 1 ≤ k → k ≤ n → 1 ≤ j → j ≤ n → g k = g j → k = j) : prodI (fun k => f (g k)) n = prodI f n := by
  rw [prodI_list, prodI_list, ← listI_perm ((perm_upTo g n hg hi).map f), List.map_map]
  rfl
theorem sumN_perm (f : Nat → Nat) (g : Nat → Nat) (n : Nat) (hg : ∀ k, 1 ≤ k → k ≤ n → 1 ≤ g k ∧ g k ≤ n) (hi : ∀ k j, 1 ≤ k → k ≤ n → 1 ≤ j → j ≤ n → g k = g j → k = j) : sumN (fun k => f (g k)) n = sumN f n := by
  rw [sumN_list, sumN_list, ← listN_perm ((perm_upTo g n hg hi).map f), List.map_map]
  rfl
theorem prodI_congr {f g : Nat → Int} {n : Nat} (h : ∀ k, 1 ≤ k → k ≤ n → f k = g k) : prodI f n = prodI g n := by
  induction n with
  | zero => rfl
  | succ n ih => rw [prodI, prodI, ih fun k h1 h2 => h k h1 (by omega), h (n + 1) (by omega) (Nat.le_refl _)]
theorem sumN_congr {f g : Nat → Nat} {n : Nat} (h : ∀ k, 1 ≤ k → k ≤ n → f k = g k) : sumN f n = sumN g n := by
  induction n with
  | zero => rfl
  | succ n ih => rw [sumN, sumN, ih fun k h1 h2 => h k h1 (by omega), h (n + 1) (by omega) (Nat.le_refl _)]
theorem prodI_mul (f g : Nat → Int) (n : Nat) : prodI (fun k => f k * g k) n = prodI f n * prodI g n := by
  induction n with
  | zero => rfl
  | succ n ih => rw [prodI, prodI, prodI, ih]; grind
theorem sumN_add (f g : Nat → Nat) (n : Nat) : sumN (fun k => f k + g k) n = sumN f n + sumN g n := by
  induction n with
  | zero => rfl
  | succ n ih => rw [sumN, sumN, sumN, ih]; omega
theorem sumN_const (c n : Nat) : sumN (fun _ => c) n = n * c := by
  induction n with
  | zero => simp [sumN]
  | succ n ih => rw [sumN, ih, Nat.add_mul, Nat.one_mul]
theorem sumN_zero (n : Nat) : sumN (fun _ => 0) n = 0 := by rw [sumN_const, Nat.mul_zero]
theorem sumN_swap (f : Nat → Nat → Nat) (n m : Nat) : sumN (fun k => sumN (f k) m) n = sumN (fun j => sumN (fun k => f k j) n) m := by
  induction n with
  | zero => exact (sumN_zero m).symm
  | succ n ih => rw [sumN, ih, ← sumN_add]; rfl
/-- How many of 1 .. n are at most c. -/
theorem sumN_le (c n : Nat) : sumN (fun k => if k ≤ c then 1 else 0) n = min c n := by
  induction n with
  | zero => simp [sumN]
  | succ n ih => rw [sumN, ih]; split <;> omega
/-- A product of signs is told by how many are -1. -/
theorem prodI_signs (f : Nat → Nat) (n : Nat) : prodI (fun k => (-1) ^ f k) n = (-1) ^ sumN f n := by
  induction n with
  | zero => rfl
  | succ n ih => rw [prodI, sumN, ih, Int.pow_add]
theorem sign_mod (a b : Nat) (h : a % 2 = b % 2) : (-1 : Int) ^ a = (-1) ^ b := by
  have key : ∀ n : Nat, (-1 : Int) ^ n = if n % 2 = 0 then 1 else -1 := by
    intro n
    induction n with
    | zero => rfl
    | succ n ih => rw [Int.pow_succ, ih]; split <;> split <;> first | rfl | omega
  rw [key, key, h]
theorem sign_sq (a : Nat) : (-1 : Int) ^ a * (-1) ^ a = 1 := by
  rw [← Int.pow_add, sign_mod (a + a) 0 (by omega)]; rfl
end Go.Proofs.YtjpfcdgaepdcdaaGreat
/- The symbol of two numbers, by how many multiples lie in the upper half (Gauss, Schering): products, reciprocity, what 2 does. Conditions: as typed (what is odd; what has no common divisor). No program is named. -/
namespace Go.Proofs.YtjpfcdgaepdcdaaGreat
/-- Lies the rest in the upper half? -/
def up (n x : Nat) : Nat := if 2 * (x % n) < n then 0 else 1
/-- The distance from the nearest multiple of n. -/
def near (n x : Nat) : Nat := if 2 * (x % n) < n then x % n else n - x % n
/-- How many of a, 2 a, .. lie in the upper half. -/
def ups (n a : Nat) : Nat := sumN (fun k => up n (a * k)) ((n - 1) / 2)
/-- Jacobi's symbol. -/
def jac (a n : Nat) : Int := if Nat.gcd a n = 1 then (-1) ^ ups n a else 0
theorem near_le {n x : Nat} (hn : n % 2 = 1) : 2 * near n x < n := by
  have := Nat.mod_lt x (show 0 < n by omega)
  unfold near; split <;> omega
theorem near_pos {n x : Nat} (hn : 0 < n) (h : x % n ≠ 0) : 0 < near n x := by
  have := Nat.mod_lt x hn
  unfold near; split <;> omega
/-- x is its distance, or its opposite. -/
theorem near_mod {n x : Nat} (hn : 0 < n) : (up n x = 0 ∧ x % n = near n x) ∨ (up n x = 1 ∧ x % n + near n x = n) := by
  have := Nat.mod_lt x hn
  unfold near up; split <;> omega
theorem dvd_of_coprime_mul {n a k : Nat} (hc : Nat.gcd a n = 1) (h : n ∣ a * k) : n ∣ k :=
  Nat.Coprime.dvd_of_dvd_mul_left (show Nat.Coprime n a by rw [Nat.Coprime, Nat.gcd_comm]; exact hc) h
theorem near_mul_pos {n a k : Nat} (hn : 0 < n) (hc : Nat.gcd a n = 1) (h1 : 1 ≤ k) (h2 : k < n) : 0 < near n (a * k) :=
  near_pos hn fun h => by
    have := Nat.le_of_dvd (by omega) (dvd_of_coprime_mul hc (Nat.dvd_of_mod_eq_zero h))
    omega
/-- Two distances that are one: the sum, or the difference, goes by n. -/
theorem near_eq {n x y : Nat} (hn : 0 < n) (h : near n x = near n y) : n ∣ x + y ∨ x % n = y % n := by
  rcases near_mod (x := x) hn with ⟨_, h1⟩ | ⟨_, h1⟩ <;> rcases near_mod (x := y) hn with ⟨_, h2⟩ | ⟨_, h2⟩
  · right; omega
  · left; exact Nat.dvd_of_mod_eq_zero (by rw [Nat.add_mod, show x % n + y % n = n by omega, Nat.mod_self])
  · left; exact Nat.dvd_of_mod_eq_zero (by rw [Nat.add_mod, show x % n + y % n = n by omega, Nat.mod_self])
  · right; omega
theorem near_inj {n a k j : Nat} (hn : n % 2 = 1) (hc : Nat.gcd a n = 1) (hk : 1 ≤ k ∧ 2 * k < n) (hj : 1 ≤ j ∧ 2 * j < n) (h : near n (a * k) = near n (a * j)) : k = j := by
  have hn0 : 0 < n := by omega
  rcases near_eq hn0 h with h1 | h1
  · rw [← Nat.mul_add] at h1
    have := Nat.le_of_dvd (by omega) (dvd_of_coprime_mul hc h1)
    omega
  · rcases Nat.le_total k j with h2 | h2
    · have h3 : n ∣ a * j - a * k := (Nat.dvd_iff_mod_eq_zero).2 (Nat.sub_mod_eq_zero_of_mod_eq h1.symm)
      rw [← Nat.mul_sub] at h3
      have h4 := dvd_of_coprime_mul hc h3
      rcases Nat.eq_zero_or_pos (j - k) with h5 | h5
      · omega
      · have := Nat.le_of_dvd h5 h4; omega
    · have h3 : n ∣ a * k - a * j := (Nat.dvd_iff_mod_eq_zero).2 (Nat.sub_mod_eq_zero_of_mod_eq h1)
      rw [← Nat.mul_sub] at h3
      have h4 := dvd_of_coprime_mul hc h3
      rcases Nat.eq_zero_or_pos (k - j) with h5 | h5
      · omega
      · have := Nat.le_of_dvd h5 h4; omega
section
variable {n a : Nat} (hn : n % 2 = 1) (hc : Nat.gcd a n = 1)
include hn hc
theorem near_half (k : Nat) (h1 : 1 ≤ k) (h2 : k ≤ (n - 1) / 2) : 1 ≤ near n (a * k) ∧ near n (a * k) ≤ (n - 1) / 2 := by
  have := near_le (n := n) (x := a * k) hn
  have := near_mul_pos (by omega) hc h1 (show k < n by omega)
  omega
theorem near_half_inj (k j : Nat) (h1 : 1 ≤ k) (h2 : k ≤ (n - 1) / 2) (h3 : 1 ≤ j) (h4 : j ≤ (n - 1) / 2) (h : near n (a * k) = near n (a * j)) : k = j :=
  near_inj hn hc ⟨h1, by omega⟩ ⟨h3, by omega⟩ h
end
/-- The upper half of a product, by its distance first. -/
theorem up_mul {n : Nat} (hn : n % 2 = 1) (b x : Nat) (h : b * x % n ≠ 0) : up n (b * x) % 2 = (up n (b * near n x) + up n x) % 2 := by
  have hn0 : 0 < n := by omega
  have e1 : b * x % n = b * (x % n) % n := (Nat.mul_mod_mod b x n).symm
  rcases near_mod (x := x) hn0 with ⟨h1, h2⟩ | ⟨h1, h2⟩
  · rw [h1, ← h2, up, up, e1, Nat.add_zero]
  · have h3 : (b * x + b * near n x) % n = 0 := by
      rw [Nat.add_mod, e1, ← Nat.add_mod, ← Nat.mul_add, h2, Nat.mul_mod_left]
    have hlt1 := Nat.mod_lt (b * x) hn0
    have hlt2 := Nat.mod_lt (b * near n x) hn0
    rw [Nat.add_mod] at h3
    have h4 : b * x % n + b * near n x % n = n := by
      rcases Nat.lt_or_ge (b * x % n + b * near n x % n) n with h5 | h5
      · rw [Nat.mod_eq_of_lt h5] at h3; omega
      · rw [Nat.mod_eq_sub_mod h5, Nat.mod_eq_of_lt (by omega)] at h3; omega
    rw [h1, up, up]
    split <;> split <;> omega
theorem up_lt {n x y : Nat} (h : x % n = y % n) : up n x = up n y := by rw [up, up, h]
theorem ups_mod {n a b : Nat} (h : a % n = b % n) : ups n a = ups n b := sumN_congr fun k _ _ => up_lt (by rw [Nat.mul_mod, h, ← Nat.mul_mod])
theorem gcd_mod {n a b : Nat} (h : a % n = b % n) : Nat.gcd a n = Nat.gcd b n := by rw [Nat.gcd_comm, Nat.gcd_rec, h, ← Nat.gcd_rec, Nat.gcd_comm]
/-- The symbol is that of what is left. -/
theorem jac_mod {n a b : Nat} (h : a % n = b % n) : jac a n = jac b n := by
  unfold jac
  by_cases hb : Nat.gcd b n = 1
  · rw [if_pos hb, if_pos (by rw [gcd_mod h]; exact hb), ups_mod h]
  · rw [if_neg hb, if_neg (by rw [gcd_mod h]; exact hb)]
theorem jac_left (a n : Nat) : jac (a % n) n = jac a n := jac_mod (Nat.mod_mod _ _)
theorem mod_ne_zero {n a k : Nat} (hc : Nat.gcd a n = 1) (h1 : 1 ≤ k) (h2 : k < n) : a * k % n ≠ 0 := fun h => by
  have := Nat.le_of_dvd (by omega) (dvd_of_coprime_mul hc (Nat.dvd_of_mod_eq_zero h))
  omega
theorem ups_mul {n a b : Nat} (hn : n % 2 = 1) (ha : Nat.gcd a n = 1) (hb : Nat.gcd b n = 1) : ups n (b * a) % 2 = (ups n a + ups n b) % 2 := by
  have hba : Nat.gcd (b * a) n = 1 := Nat.Coprime.mul_left hb ha
  have h1 : (-1 : Int) ^ ups n (b * a) = (-1) ^ (ups n b + ups n a) := by
    rw [Int.pow_add, ups, ups, ups, ← prodI_signs, ← prodI_signs, ← prodI_signs, ← prodI_perm (fun k => (-1) ^ up n (b * k)) (fun k => near n (a * k)) _ (near_half hn ha) (near_half_inj hn ha), ← prodI_mul]
    refine prodI_congr fun k h1 h2 => ?_
    rw [← Int.pow_add]
    refine sign_mod _ _ ?_
    rw [Nat.mul_assoc]
    exact up_mul hn b (a * k) (by rw [← Nat.mul_assoc]; exact mod_ne_zero hba h1 (by omega))
  have key : ∀ m : Nat, (-1 : Int) ^ m = if m % 2 = 0 then 1 else -1 := by
    intro m
    induction m with
    | zero => rfl
    | succ m ih => rw [Int.pow_succ, ih]; split <;> split <;> first | rfl | omega
  rw [key, key] at h1
  split at h1 <;> split at h1 <;> first | omega | (exfalso; revert h1; decide)
/-- The symbol of a product is the product of symbols, above. -/
theorem jac_mul (a b n : Nat) (hn : n % 2 = 1) : jac (a * b) n = jac a n * jac b n := by
  unfold jac
  by_cases ha : Nat.gcd a n = 1
  · by_cases hb : Nat.gcd b n = 1
    · rw [if_pos ha, if_pos hb, if_pos (Nat.Coprime.mul_left ha hb), ← Int.pow_add]
      exact sign_mod _ _ (by rw [ups_mul hn hb ha, Nat.add_comm])
    · rw [if_neg hb, Int.mul_zero, if_neg fun h => hb (Nat.Coprime.coprime_mul_left h)]
  · rw [if_neg ha, Int.zero_mul, if_neg fun h => ha (Nat.Coprime.coprime_mul_right h)]
/-! Reciprocity -/
/-- a k is so often n, and its distance, or what it lacks. -/
theorem ups_sum {n a : Nat} (hn : n % 2 = 1) (hc : Nat.gcd a n = 1) (ha : a % 2 = 1) : ups n a % 2 = sumN (fun k => a * k / n) ((n - 1) / 2) % 2 := by
  have h1 : sumN (fun k => near n (a * k)) ((n - 1) / 2) = sumN (fun k => k) ((n - 1) / 2) := sumN_perm (fun k => k) _ _ (near_half hn hc) (near_half_inj hn hc)
  have key : ∀ h, (sumN (fun k => up n (a * k)) h + sumN (fun k => a * k / n) h + sumN (fun k => near n (a * k)) h + sumN (fun k => k) h) % 2 = 0 := by
    intro h
    induction h with
    | zero => rfl
    | succ h ih =>
      simp only [sumN]
      have h2 := Nat.div_add_mod (a * (h + 1)) n
      obtain ⟨q, hq⟩ : ∃ q, a * (h + 1) / n = q := ⟨_, rfl⟩
      have h3 : (a * (h + 1)) % 2 = (h + 1) % 2 := by rw [Nat.mul_mod, ha, Nat.one_mul, Nat.mod_mod]
      have h4 : (n * q) % 2 = q % 2 := by rw [Nat.mul_mod, hn, Nat.one_mul, Nat.mod_mod]
      rw [hq] at h2 ⊢
      rcases near_mod (n := n) (x := a * (h + 1)) (by omega) with ⟨e1, e2⟩ | ⟨e1, e2⟩ <;> omega
  have := key ((n - 1) / 2)
  rw [h1] at this
  unfold ups
  omega
/-- Points below a line. -/
theorem floor_count {n m k : Nat} (hn : 0 < n) (h : m * k / n ≤ (m - 1) / 2) : m * k / n = sumN (fun j => if n * j ≤ m * k then 1 else 0) ((m - 1) / 2) := by
  have : sumN (fun j => if n * j ≤ m * k then 1 else 0) ((m - 1) / 2) = sumN (fun j => if j ≤ m * k / n then 1 else 0) ((m - 1) / 2) := sumN_congr fun j _ _ => by
    have h1 : j ≤ m * k / n ↔ n * j ≤ m * k := by rw [Nat.le_div_iff_mul_le hn, Nat.mul_comm j n]
    by_cases h2 : n * j ≤ m * k
    · rw [if_pos h2, if_pos (h1.2 h2)]
    · rw [if_neg h2, if_neg fun h => h2 (h1.1 h)]
  rw [this, sumN_le]
  omega
theorem floor_sum {n m : Nat} (hn : n % 2 = 1) (hm : m % 2 = 1) (hc : Nat.gcd m n = 1) : sumN (fun k => m * k / n) ((n - 1) / 2) + sumN (fun j => n * j / m) ((m - 1) / 2) = (n - 1) / 2 * ((m - 1) / 2) := by
  have half : ∀ {n m k : Nat}, n % 2 = 1 → m % 2 = 1 → k ≤ (n - 1) / 2 → m * k / n ≤ (m - 1) / 2 := by
    intro n m k hn hm hk
    refine Nat.le_of_lt_succ ((Nat.div_lt_iff_lt_mul (by omega)).2 ?_)
    have h1 : m * (2 * k) ≤ m * (n - 1) := Nat.mul_le_mul_left _ (by omega)
    obtain ⟨s, rfl⟩ : ∃ s, m = 2 * s + 1 := ⟨m / 2, by omega⟩
    obtain ⟨t, rfl⟩ : ∃ t, n = 2 * t + 1 := ⟨n / 2, by omega⟩
    rw [show ((2 * s + 1 - 1) / 2).succ = s + 1 by omega]
    have h3 : (2 * s + 1) * k ≤ (2 * s + 1) * t := Nat.mul_le_mul_left _ (by omega)
    have h4 : (s + 1) * (2 * t + 1) = (2 * s + 1) * t + t + s + 1 := by grind
    omega
  rw [sumN_congr (g := fun k => sumN (fun j => if n * j ≤ m * k then 1 else 0) ((m - 1) / 2)) fun k _ h2 => floor_count (by omega) (half hn hm h2),
    sumN_congr (f := fun j => n * j / m) (g := fun j => sumN (fun k => if m * k ≤ n * j then 1 else 0) ((n - 1) / 2)) fun j _ h2 => floor_count (by omega) (half hm hn h2),
    sumN_swap, ← sumN_add, sumN_congr (g := fun _ => (n - 1) / 2), sumN_const, Nat.mul_comm]
  intro j h1 h2
  rw [← sumN_add, sumN_congr (g := fun _ => 1), sumN_const, Nat.mul_one]
  intro k h3 h4
  rcases Nat.lt_trichotomy (n * j) (m * k) with h | h | h
  · rw [if_pos (Nat.le_of_lt h), if_neg (by omega)]
  · exfalso
    have : n ∣ k := dvd_of_coprime_mul hc ⟨j, h.symm⟩
    have := Nat.le_of_dvd (by omega) this
    omega
  · rw [if_neg (by omega), if_pos (Nat.le_of_lt h)]
/-- The law of quadratic reciprocity. -/
theorem jac_swap (m n : Nat) (hm : m % 2 = 1) (hn : n % 2 = 1) : jac m n = if m % 4 = 3 ∧ n % 4 = 3 then - jac n m else jac n m := by
  unfold jac
  by_cases hc : Nat.gcd m n = 1
  · have hc' : Nat.gcd n m = 1 := by rw [Nat.gcd_comm]; exact hc
    rw [if_pos hc, if_pos hc']
    have h1 := ups_sum hn hc hm
    have h2 := ups_sum hm hc' hn
    have h3 := floor_sum hn hm hc
    have h4 : ((n - 1) / 2 * ((m - 1) / 2)) % 2 = if m % 4 = 3 ∧ n % 4 = 3 then 1 else 0 := by
      rw [Nat.mul_mod]
      split
      · rename_i h
        rw [show (n - 1) / 2 % 2 = 1 by omega, show (m - 1) / 2 % 2 = 1 by omega]
      · rename_i h
        rcases Nat.mod_two_eq_zero_or_one ((n - 1) / 2) with h5 | h5
        · rw [h5, Nat.zero_mul]
        · rw [show (m - 1) / 2 % 2 = 0 by omega, Nat.mul_zero]
    split
    · rename_i h
      rw [if_pos h] at h4
      have : (-1 : Int) ^ ups n m = (-1) ^ (ups m n + 1) := sign_mod _ _ (by omega)
      rw [this, Int.pow_succ]
      omega
    · rename_i h
      rw [if_neg h] at h4
      exact sign_mod _ _ (by omega)
  · have hc' : ¬ Nat.gcd n m = 1 := by rw [Nat.gcd_comm]; exact hc
    rw [if_neg hc, if_neg hc']
    split <;> rfl
/-- What 2 does. -/
theorem jac_two (n : Nat) (hn : n % 2 = 1) : jac 2 n = if n % 8 = 1 ∨ n % 8 = 7 then 1 else -1 := by
  have hc : Nat.gcd 2 n = 1 := by rw [Nat.gcd_rec, hn]; rfl
  unfold jac
  rw [if_pos hc]
  have h1 : sumN (fun k => up n (2 * k)) ((n - 1) / 2) + n / 4 = (n - 1) / 2 := by
    have h2 : sumN (fun k => up n (2 * k)) ((n - 1) / 2) + sumN (fun k => if k ≤ n / 4 then 1 else 0) ((n - 1) / 2) = (n - 1) / 2 := by
      rw [← sumN_add, sumN_congr (g := fun _ => 1), sumN_const, Nat.mul_one]
      intro k h3 h4
      rw [up, Nat.mod_eq_of_lt (by omega)]
      split <;> split <;> omega
    rw [sumN_le] at h2
    omega
  have h2 : ups n 2 % 2 = if n % 8 = 1 ∨ n % 8 = 7 then 0 else 1 := by
    unfold ups
    split <;> omega
  split
  · rename_i h
    rw [if_pos h] at h2
    exact sign_mod _ 0 (by omega)
  · rename_i h
    rw [if_neg h] at h2
    exact sign_mod _ 1 (by omega)
end Go.Proofs.YtjpfcdgaepdcdaaGreat
/- Primes: Gauss's lemma, Fermat's little theorem, how many roots a polynomial has, Euler's criterion. Conditions: as typed (p a prime, odd where it is said). No program is named. -/
namespace Go.Proofs.YtjpfcdgaepdcdaaGreat
def Prm (p : Nat) : Prop := 2 ≤ p ∧ ∀ d, d ∣ p → d = 1 ∨ d = p
theorem Prm.gcd {p : Nat} (hp : Prm p) (a : Nat) (h : ¬ p ∣ a) : Nat.gcd a p = 1 := by
  rcases hp.2 _ (Nat.gcd_dvd_right a p) with h1 | h1
  · exact h1
  · exact absurd (h1 ▸ Nat.gcd_dvd_left a p) h
theorem Prm.euclid {p : Nat} (hp : Prm p) (a b : Nat) (h : p ∣ a * b) : p ∣ a ∨ p ∣ b := by
  by_cases ha : p ∣ a
  · exact .inl ha
  · exact .inr (dvd_of_coprime_mul (hp.gcd a ha) h)
theorem Prm.pow {p : Nat} (hp : Prm p) (a k : Nat) (h : p ∣ a ^ k) : p ∣ a := by
  induction k with
  | zero =>
    rw [Nat.pow_zero] at h
    have h1 := Nat.le_of_dvd (by omega) h
    have := hp.1
    omega
  | succ k ih =>
    rw [Nat.pow_succ] at h
    rcases hp.euclid _ _ h with h | h
    · exact ih h
    · exact h
theorem Prm.euclidZ {p : Nat} (hp : Prm p) (a b : Int) (h : (p : Int) ∣ a * b) : (p : Int) ∣ a ∨ (p : Int) ∣ b := by
  have h1 := Int.natAbs_dvd_natAbs.2 h
  rw [Int.natAbs_mul, Int.natAbs_natCast] at h1
  rcases hp.euclid _ _ h1 with h | h
  · exact .inl (Int.natAbs_dvd_natAbs.1 (by rw [Int.natAbs_natCast]; exact h))
  · exact .inr (Int.natAbs_dvd_natAbs.1 (by rw [Int.natAbs_natCast]; exact h))
/-- One rest by p. -/
def Cong (p : Nat) (a b : Int) : Prop := (p : Int) ∣ a - b
theorem Cong.rfl' {p : Nat} (a : Int) : Cong p a a := by unfold Cong; rw [Int.sub_self]; exact Int.dvd_zero _
theorem Cong.symm {p : Nat} {a b : Int} (h : Cong p a b) : Cong p b a := by
  obtain ⟨z, h⟩ := h; exact ⟨-z, by grind⟩
theorem Cong.trans {p : Nat} {a b c : Int} (h : Cong p a b) (k : Cong p b c) : Cong p a c := by
  obtain ⟨z, h⟩ := h; obtain ⟨y, k⟩ := k; exact ⟨z + y, by grind⟩
theorem Cong.mul {p : Nat} {a b c d : Int} (h : Cong p a b) (k : Cong p c d) : Cong p (a * c) (b * d) := by
  obtain ⟨z, h⟩ := h; obtain ⟨y, k⟩ := k; exact ⟨z * c + b * y, by grind⟩
theorem Cong.add {p : Nat} {a b c d : Int} (h : Cong p a b) (k : Cong p c d) : Cong p (a + c) (b + d) := by
  obtain ⟨z, h⟩ := h; obtain ⟨y, k⟩ := k; exact ⟨z + y, by grind⟩
theorem Cong.sub {p : Nat} {a b c d : Int} (h : Cong p a b) (k : Cong p c d) : Cong p (a - c) (b - d) := by
  obtain ⟨z, h⟩ := h; obtain ⟨y, k⟩ := k; exact ⟨z - y, by grind⟩
theorem Cong.pow {p : Nat} {a b : Int} (h : Cong p a b) (k : Nat) : Cong p (a ^ k) (b ^ k) := by
  induction k with
  | zero => rw [Int.pow_zero, Int.pow_zero]; exact Cong.rfl' _
  | succ k ih => rw [Int.pow_succ, Int.pow_succ]; exact ih.mul h
theorem cong_mod {p : Nat} {a b : Nat} : Cong p a b ↔ a % p = b % p := by
  unfold Cong
  rw [← Int.emod_eq_emod_iff_emod_sub_eq_zero.trans (Int.dvd_iff_emod_eq_zero).symm]
  omega
theorem Prm.cancel {p : Nat} (hp : Prm p) {a b c : Int} (h : Cong p (c * a) (c * b)) (hc : ¬ (p : Int) ∣ c) : Cong p a b := by
  unfold Cong at h ⊢
  rw [← Int.mul_sub] at h
  rcases hp.euclidZ _ _ h with h | h
  · exact absurd h hc
  · exact h
theorem cong_prod {p : Nat} {f g : Nat → Int} {n : Nat} (h : ∀ k, 1 ≤ k → k ≤ n → Cong p (f k) (g k)) : Cong p (prodI f n) (prodI g n) := by
  induction n with
  | zero => exact Cong.rfl' _
  | succ n ih => exact (ih fun k h1 h2 => h k h1 (by omega)).mul (h (n + 1) (by omega) (Nat.le_refl _))
theorem prodI_scale (a : Int) (f : Nat → Int) (n : Nat) : prodI (fun k => a * f k) n = a ^ n * prodI f n := by
  induction n with
  | zero => simp [prodI]
  | succ n ih => rw [prodI, prodI, ih, Int.pow_succ]; grind
theorem Prm.prod {p : Nat} (hp : Prm p) (n : Nat) (hn : n < p) : ¬ (p : Int) ∣ prodI (fun k => (k : Int)) n := by
  induction n with
  | zero => intro h; have := hp.1; rw [prodI] at h; have := Int.le_of_dvd (by omega) h; omega
  | succ n ih =>
    intro h
    rw [prodI] at h
    rcases hp.euclidZ _ _ h with h | h
    · exact ih (by omega) h
    · have := Int.le_of_dvd (by omega) h; omega
theorem cong_near {n x : Nat} (hn : 0 < n) : Cong n (x : Int) ((-1) ^ up n x * (near n x : Int)) := by
  have h0 := Nat.div_add_mod x n
  obtain ⟨q, hq⟩ : ∃ q, x / n = q := ⟨_, rfl⟩
  rw [hq] at h0
  have h1 : (x : Int) = (n : Int) * q + (x % n : Nat) := by rw [← Int.natCast_mul, ← Int.natCast_add, h0]
  rcases near_mod (n := n) (x := x) hn with ⟨e1, e2⟩ | ⟨e1, e2⟩
  · rw [e1]
    exact ⟨q, by rw [h1, e2]; simp⟩
  · rw [e1]
    refine ⟨q + 1, ?_⟩
    have : ((x % n : Nat) : Int) = (n : Int) - near n x := by omega
    rw [h1, this]
    grind
/-- Gauss's lemma. -/
theorem gauss {p a : Nat} (hp : Prm p) (ho : p % 2 = 1) (ha : ¬ p ∣ a) : Cong p ((a : Int) ^ ((p - 1) / 2)) ((-1) ^ ups p a) := by
  have hc := hp.gcd a ha
  have h1 : Cong p (prodI (fun k => (a : Int) * (k : Int)) ((p - 1) / 2)) (prodI (fun k => (-1) ^ up p (a * k) * (near p (a * k) : Int)) ((p - 1) / 2)) := cong_prod fun k _ _ => by
    have := cong_near (n := p) (x := a * k) (by have := hp.1; omega)
    rwa [Int.natCast_mul] at this
  rw [prodI_mul (fun k => (-1) ^ up p (a * k)) (fun k => (near p (a * k) : Int)), prodI_signs, prodI_perm (fun k => (k : Int)) (fun k => near p (a * k)) _ (near_half ho hc) (near_half_inj ho hc), prodI_scale] at h1
  rw [Int.mul_comm, Int.mul_comm ((-1) ^ _)] at h1
  exact hp.cancel h1 (hp.prod _ (by have := hp.1; omega))
/-- Fermat's little theorem. -/
theorem fermat {p a : Nat} (hp : Prm p) (ha : ¬ p ∣ a) : a ^ (p - 1) % p = 1 := by
  have h2 := hp.1
  by_cases ho : p % 2 = 1
  · have h1 := (gauss hp ho ha).mul (gauss hp ho ha)
    rw [← Int.pow_add, sign_sq, show (p - 1) / 2 + (p - 1) / 2 = p - 1 by omega, ← Int.natCast_pow] at h1
    have h3 := (cong_mod (a := a ^ (p - 1)) (b := 1)).1 h1
    rw [h3, Nat.mod_eq_of_lt (by omega)]
  · have : 2 = p := by
      rcases hp.2 2 (Nat.dvd_of_mod_eq_zero (by omega)) with h | h <;> omega
    subst this
    have : a % 2 = 1 := by
      rcases Nat.mod_two_eq_zero_or_one a with h | h
      · exact absurd (Nat.dvd_of_mod_eq_zero h) ha
      · exact h
    simpa using this
/-! Polynomials, their lowest coefficient first -/
def evalZ (x : Int) : List Int → Int
  | [] => 0
  | c :: l => c + x * evalZ x l
/-- What is left of a polynomial by X - r, but the rest. -/
def quoZ (r : Int) : List Int → List Int
  | [] => []
  | [_] => []
  | _ :: d :: l => evalZ r (d :: l) :: quoZ r (d :: l)
theorem quoZ_eval (r x : Int) : ∀ l : List Int, evalZ x l - evalZ r l = (x - r) * evalZ x (quoZ r l)
  | [] => by simp [evalZ, quoZ]
  | [c] => by simp [evalZ, quoZ]
  | c :: d :: l => by
    have ih := quoZ_eval r x (d :: l)
    rw [quoZ]
    have e1 : evalZ x (c :: d :: l) = c + x * evalZ x (d :: l) := rfl
    have e2 : evalZ r (c :: d :: l) = c + r * evalZ r (d :: l) := rfl
    have e3 : evalZ x (evalZ r (d :: l) :: quoZ r (d :: l)) = evalZ r (d :: l) + x * evalZ x (quoZ r (d :: l)) := rfl
    rw [e1, e2, e3]
    grind
theorem quoZ_length (r : Int) : ∀ l : List Int, (quoZ r l).length = l.length - 1
  | [] => rfl
  | [c] => rfl
  | c :: d :: l => by rw [quoZ, List.length_cons, quoZ_length r (d :: l)]; simp
theorem quoZ_last (r : Int) : ∀ (l : List Int), 2 ≤ l.length → (quoZ r l).getLast? = l.getLast?
  | [], h => by simp at h
  | [c], h => by simp at h
  | [c, d], _ => by simp [quoZ, evalZ]
  | c :: d :: e :: l, _ => by
    have ih := quoZ_last r (d :: e :: l) (by simp)
    rw [quoZ, List.getLast?_cons_cons (a := c), ← ih, quoZ, List.getLast?_cons_cons]
/-- A polynomial has no more roots by a prime than its degree. -/
theorem roots_le {p : Nat} (hp : Prm p) : ∀ (n : Nat) (l : List Int), l.length = n + 1 → l.getLast? = some 1 → ∀ rs : List Nat, rs.Nodup → (∀ r ∈ rs, r < p ∧ (p : Int) ∣ evalZ r l) → rs.length ≤ n
  | 0, l, hl, h1, rs, hn, hr => by
    match l, hl with
    | [c], _ =>
      simp at h1
      subst h1
      match rs with
      | [] => simp
      | r :: rs =>
        have h2 := (hr r (by simp)).2
        have := hp.1
        simp [evalZ] at h2
        have := Int.le_of_dvd (by omega) h2
        omega
  | n + 1, l, hl, h1, [], hn, hr => by simp
  | n + 1, l, hl, h1, r :: rs, hn, hr => by
    have hn' := List.nodup_cons.1 hn
    have h0 := hr r (by simp)
    have := roots_le hp n (quoZ r l) (by rw [quoZ_length, hl]; omega) (by rw [quoZ_last _ _ (by omega), h1]) rs hn'.2 fun s hs => by
      have h2 := hr s (by simp [hs])
      refine ⟨h2.1, ?_⟩
      have h3 : (p : Int) ∣ ((s : Int) - r) * evalZ s (quoZ r l) := by rw [← quoZ_eval]; exact Int.dvd_sub h2.2 h0.2
      rcases hp.euclidZ _ _ h3 with h4 | h4
      · exfalso
        have h5 := (cong_mod (p := p) (a := s) (b := r)).1 h4
        rw [Nat.mod_eq_of_lt h2.1, Nat.mod_eq_of_lt h0.1] at h5
        subst h5
        exact hn'.1 hs
      · exact h4
    simp
    omega
/-- X^k -/
def xk : Nat → List Int
  | 0 => [1]
  | k + 1 => 0 :: xk k
theorem xk_eval (x : Int) (k : Nat) : evalZ x (xk k) = x ^ k := by
  induction k with
  | zero => simp [xk, evalZ]
  | succ k ih => rw [xk, evalZ, ih, Int.pow_succ, Int.zero_add, Int.mul_comm]
theorem xk_length (k : Nat) : (xk k).length = k + 1 := by
  induction k with
  | zero => rfl
  | succ k ih => rw [xk, List.length_cons, ih]
theorem xk_last (k : Nat) (c : Int) : (c :: xk k).getLast? = some 1 := by
  induction k generalizing c with
  | zero => rfl
  | succ k ih => rw [xk, List.getLast?_cons_cons, ih]
end Go.Proofs.YtjpfcdgaepdcdaaGreat

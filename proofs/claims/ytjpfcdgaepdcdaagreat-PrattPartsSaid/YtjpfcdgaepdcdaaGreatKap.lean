/- Several texts in one; each begins with a remark that says what it shows and on which conditions. -/
import Derived.Test.YtjpfcdgaepdcdaaGreatKaa
/- Which numbers 2^p - 1 are primes (Lucas, Lehmer), and the five of chapter 8. No condition but those typed; no program is named. -/
namespace Go.Proofs.YtjpfcdgaepdcdaaGreat
/-- (2 + r)^n = x + y r, where r r = 3. -/
def ox : Nat → Int × Int
  | 0 => (1, 0)
  | n + 1 => (2 * (ox n).1 + 3 * (ox n).2, (ox n).1 + 2 * (ox n).2)
theorem ox_add (m n : Nat) : (ox (m + n)).1 = (ox m).1 * (ox n).1 + 3 * ((ox m).2 * (ox n).2) ∧ (ox (m + n)).2 = (ox m).1 * (ox n).2 + (ox m).2 * (ox n).1 := by
  induction n with
  | zero => simp [ox]
  | succ n ih =>
    obtain ⟨h1, h2⟩ := ih
    rw [← Nat.add_assoc, ox, ox]
    simp only [h1, h2]
    constructor <;> grind
theorem ox_norm (n : Nat) : (ox n).1 * (ox n).1 - 3 * ((ox n).2 * (ox n).2) = 1 := by
  induction n with
  | zero => simp [ox]
  | succ n ih => rw [ox]; simp only []; grind
section
variable {q : Nat}
def One (q d : Nat) : Prop := Cong q (ox d).1 1 ∧ Cong q (ox d).2 0
theorem One.sub {k j : Nat} (h : One q k) (h' : One q (k + j)) : One q j := by
  obtain ⟨e1, e2⟩ := ox_add k j
  obtain ⟨⟨a, ha⟩, ⟨b, hb⟩⟩ := h
  obtain ⟨⟨c, hc⟩, ⟨d, hd⟩⟩ := h'
  have hn := ox_norm k
  have ex : (ox j).1 = (ox k).1 * (ox (k + j)).1 - 3 * ((ox k).2 * (ox (k + j)).2) := by
    rw [e1, e2]
    have : (ox k).1 * ((ox k).1 * (ox j).1 + 3 * ((ox k).2 * (ox j).2)) - 3 * ((ox k).2 * ((ox k).1 * (ox j).2 + (ox k).2 * (ox j).1)) = ((ox k).1 * (ox k).1 - 3 * ((ox k).2 * (ox k).2)) * (ox j).1 := by grind
    rw [this, hn, Int.one_mul]
  have ey : (ox j).2 = (ox k).1 * (ox (k + j)).2 - (ox k).2 * (ox (k + j)).1 := by
    rw [e1, e2]
    have : (ox k).1 * ((ox k).1 * (ox j).2 + (ox k).2 * (ox j).1) - (ox k).2 * ((ox k).1 * (ox j).1 + 3 * ((ox k).2 * (ox j).2)) = ((ox k).1 * (ox k).1 - 3 * ((ox k).2 * (ox k).2)) * (ox j).2 := by grind
    rw [this, hn, Int.one_mul]
  have h1 : (ox k).1 = q * a + 1 := by omega
  have h2 : (ox k).2 = q * b := by omega
  have h3 : (ox (k + j)).1 = q * c + 1 := by omega
  have h4 : (ox (k + j)).2 = q * d := by omega
  rw [h1, h2, h3, h4] at ex ey
  exact ⟨⟨(q * a * c + a + c) - 3 * (b * (q * d)), by rw [ex]; grind⟩, ⟨(q * a + 1) * d - b * (q * c + 1), by rw [ey]; grind⟩⟩
theorem One.add {k j : Nat} (h : One q k) (h' : One q j) : One q (k + j) := by
  obtain ⟨e1, e2⟩ := ox_add k j
  have h1 := (h.1.mul h'.1).add ((Cong.rfl' 3).mul (h.2.mul h'.2))
  have h2 := (h.1.mul h'.2).add (h.2.mul h'.1)
  refine ⟨?_, ?_⟩
  · rw [e1]; simpa using h1
  · rw [e2]; simpa using h2
theorem One.zero : One q 0 := ⟨Cong.rfl' _, Cong.rfl' _⟩
theorem One.times {k : Nat} (h : One q k) (m : Nat) : One q (k * m) := by
  induction m with
  | zero => exact One.zero
  | succ m ih => rw [Nat.mul_succ]; exact ih.add h
theorem One.mod {k j : Nat} (h : One q k) (h' : One q j) : One q (j % k) := (h.times (j / k)).sub (by rw [Nat.div_add_mod]; exact h')
theorem One.gcd (k j : Nat) : One q k → One q j → One q (Nat.gcd k j) := by
  refine Nat.gcd.induction (P := fun k j => One q k → One q j → One q (Nat.gcd k j)) k j (fun n _ h => by rw [Nat.gcd_zero_left]; exact h) fun m n _ ih hm hn => ?_
  rw [Nat.gcd_rec]
  exact ih (hm.mod hn) hm
end
def ls (M : Nat) : Nat → Nat
  | 0 => 4 % M
  | i + 1 => (ls M i * ls M i + (M - 2)) % M
end Go.Proofs.YtjpfcdgaepdcdaaGreat

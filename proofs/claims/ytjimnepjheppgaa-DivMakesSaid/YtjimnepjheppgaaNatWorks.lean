/- The examples of chapter 2 ('works') hold, in whatever memory. No condition. -/
import Derived.Test.YtjimnepjheppgaaNatC
namespace Go.Proofs.Ytjimnepjheppgaa
open Go.RowKit
set_option maxRecDepth 20000

/-- What is answered, as words that are written out. -/
theorem OutNat.lit {N : Nat} {w w' : World} {e : Ending} (h : OutNat N w e w') (l : List Nat) (hl : wd N = l) : ∃ X d, e = .returned (.slice X l.length d) ∧ Rd .u64 w' w'.heap.size X l ∧ Below w.heap.size w w' ∧ l.length ≤ d := by
  obtain ⟨v, rfl, own, b⟩ := h
  obtain ⟨X, d, rfl, hd, _⟩ := own_form own
  have hn : (nbits N + 63) / 64 = l.length := by rw [← hl, length_wd]
  rw [hl] at own
  exact ⟨X, d, by rw [hn], Rd.own own, b, by omega⟩
theorem wd_lit (N k : Nat) (h1 : N < 2 ^ k) (h2 : k ≠ 0 → 2 ^ (k - 1) ≤ N) (l : List Nat) (h3 : words ((k + 63) / 64) N = l) : wd N = l := by rw [wd, nbits_eq N k h1 h2, h3]
theorem wd_a : wd 18446744073709551616 = [0, 1] := wd_lit _ 65 (by decide) (by decide) _ (by decide)
theorem wd_b : wd 18446744073709551615 = [18446744073709551615] := wd_lit _ 64 (by decide) (by decide) _ (by decide)
theorem wd_c : wd 27670116110564327424 = [9223372036854775808, 1] := wd_lit _ 65 (by decide) (by decide) _ (by decide)
theorem wd_d : wd 1 = [1] := wd_lit _ 1 (by decide) (by decide) _ (by decide)
theorem wd_e : wd 256 = [256] := wd_lit _ 9 (by decide) (by decide) _ (by decide)
theorem wd_zero : wd 0 = [] := wd_lit _ 0 (by decide) (by decide) _ (by decide)

section
variable (w : World)
theorem nat_a : Calls Try.prog 19 #[.slice (some ⟨w.heap.size, 0, none⟩) 1 1, .slice (some ⟨w.heap.size + 1, 0, none⟩) 1 1] ((w.alloc (.cells #[.int .u64 18446744073709551615] 24)).alloc (.cells #[.int .u64 1] 24)) fun e w' =>
    ∃ X d, e = .returned (.slice X 2 d) ∧ Rd .u64 w' w'.heap.size X [0, 1] ∧ Below w.heap.size w w' ∧ 2 ≤ d := by
  have r1 : Rd .u64 (w.alloc (.cells #[.int .u64 18446744073709551615] 24)) (w.heap.size + 1) (some ⟨w.heap.size, 0, none⟩) [18446744073709551615] := Rd.lit w .u64 24 [18446744073709551615]
  have r2 : Rd .u64 ((w.alloc (.cells #[.int .u64 18446744073709551615] 24)).alloc (.cells #[.int .u64 1] 24)) (w.heap.size + 1 + 1) (some ⟨w.heap.size + 1, 0, none⟩) [1] := by
    have h := Rd.lit (w.alloc (.cells #[.int .u64 18446744073709551615] 24)) .u64 24 [1]
    rw [World.size_alloc] at h
    exact h
  have hb : Below w.heap.size w ((w.alloc (.cells #[.int .u64 18446744073709551615] 24)).alloc (.cells #[.int .u64 1] 24)) := ((Below.refl _ _).alloc (Nat.le_refl _) _).alloc (by simp) _
  have h := natAdd_any (some ⟨w.heap.size, 0, none⟩) (some ⟨w.heap.size + 1, 0, none⟩) 1 1 [18446744073709551615] [1] ((w.alloc (.cells #[.int .u64 18446744073709551615] 24)).alloc (.cells #[.int .u64 1] 24))
    ((r1.below ((Below.refl _ _).alloc (by simp) _)).more (by simp)) (by intro x hx; simp at hx; omega) (by simp) (by simp) (r2.more (by simp)) (by intro x hx; simp at hx; omega) (by simp) (by simp)
  refine Calls.mono h fun e w' h => ?_
  obtain ⟨X, d, he, hR, hb2, hd⟩ := h.lit [0, 1] wd_a
  exact ⟨X, d, he, hR, hb.trans (hb2.mono (by simp; omega)), hd⟩
theorem nat_b (A : Option Addr) (c : Nat) (hr : Rd .u64 w w.heap.size A [0, 1]) (hc : 2 ≤ c) : Calls Try.prog 22 #[.slice A 2 c, .slice (some ⟨w.heap.size, 0, none⟩) 1 1] (w.alloc (.cells #[.int .u64 1] 24)) fun e w' =>
    ∃ X d, e = .returned (.tuple #[.slice X 1 d, .bool true]) ∧ Rd .u64 w' w'.heap.size X [18446744073709551615] ∧ Below w.heap.size w w' := by
  have hb : Below w.heap.size w (w.alloc (.cells #[.int .u64 1] 24)) := (Below.refl _ _).alloc (Nat.le_refl _) _
  have h := natSub_any A (some ⟨w.heap.size, 0, none⟩) c 1 [0, 1] [1] (w.alloc (.cells #[.int .u64 1] 24)) ((hr.below hb).more (by simp)) (by intro x hx; simp at hx; omega) (by simp) hc ((Rd.lit w .u64 24 [1]).more (by simp)) (by intro x hx; simp at hx; omega) (by simp) (by simp)
  refine Calls.mono h fun e w' h => ?_
  obtain ⟨v, he, own⟩ := h.1 (by decide)
  have own' : w'.ownsRow (w.alloc (.cells #[.int .u64 1] 24)).heap.size 24 1 v 1 (ints .u64 [18446744073709551615]) := by
    have e1 : natOf [0, 1] - natOf [1] = 18446744073709551615 := by decide
    have e2 : (nbits 18446744073709551615 + 63) / 64 = 1 := by rw [← length_wd, wd_b]; rfl
    rw [e1, e2, wd_b] at own
    exact own
  obtain ⟨X, d, rfl, _⟩ := own_form own'
  exact ⟨X, d, he, Rd.own own', hb.trans (h.2.2.mono (by simp))⟩
theorem nat_c : Calls Try.prog 22 #[.slice none 0 0, .slice (some ⟨w.heap.size, 0, none⟩) 1 1] (w.alloc (.cells #[.int .u64 1] 24)) fun e w' => ∃ X d, e = .returned (.tuple #[.slice X 0 d, .bool false]) ∧ Below w.heap.size w w' := by
  have hb : Below w.heap.size w (w.alloc (.cells #[.int .u64 1] 24)) := (Below.refl _ _).alloc (Nat.le_refl _) _
  have h := natSub_any none (some ⟨w.heap.size, 0, none⟩) 0 1 [] [1] (w.alloc (.cells #[.int .u64 1] 24)) Rd.nil (by intro x hx; cases hx) (by simp) (by simp) ((Rd.lit w .u64 24 [1]).more (by simp)) (by intro x hx; simp at hx; omega) (by simp) (by simp)
  refine Calls.mono h fun e w' h => ?_
  obtain ⟨X, d, he⟩ := h.2.1 (by decide)
  exact ⟨X, d, he, hb.trans (h.2.2.mono (by simp))⟩
theorem nat_d : Calls Try.prog 41 #[.slice (some ⟨w.heap.size, 0, none⟩) 1 1, .int .i64 63] (w.alloc (.cells #[.int .u64 3] 24)) fun e w' => ∃ X d, e = .returned (.slice X 2 d) ∧ Rd .u64 w' w'.heap.size X [9223372036854775808, 1] ∧ Below w.heap.size w w' ∧ 2 ≤ d := by
  have hb : Below w.heap.size w (w.alloc (.cells #[.int .u64 3] 24)) := (Below.refl _ _).alloc (Nat.le_refl _) _
  have h := natShl_any (some ⟨w.heap.size, 0, none⟩) 1 [3] (w.alloc (.cells #[.int .u64 3] 24)) ((Rd.lit w .u64 24 [3]).more (by simp)) (by intro x hx; simp at hx; omega) (by simp) (by simp) 63
  refine Calls.mono h fun e w' h => ?_
  rw [show shlS (natOf [3]) 63 = 27670116110564327424 by decide] at h
  obtain ⟨X, d, he, hR, hb2, hd⟩ := h.lit _ wd_c
  exact ⟨X, d, he, hR, hb.trans (hb2.mono (by simp)), hd⟩
theorem nat_e (A : Option Addr) (c : Nat) (hr : Rd .u64 w w.heap.size A [9223372036854775808, 1]) (hc : 2 ≤ c) : Calls Try.prog 45 #[.slice A 2 c, .int .i64 64] w fun e w' => ∃ X d, e = .returned (.slice X 1 d) ∧ Rd .u64 w' w'.heap.size X [1] ∧ Below w.heap.size w w' ∧ 1 ≤ d := by
  have h := natShr_any A c [9223372036854775808, 1] w hr (by intro x hx; simp at hx; omega) (by simp) hc 64
  refine Calls.mono h fun e w' h => ?_
  rw [show shrS (natOf [9223372036854775808, 1]) 64 = 1 by decide] at h
  exact h.lit _ wd_d
theorem nat_f (A : Option Addr) (c : Nat) (hr : Rd .u64 w w.heap.size A [1]) (hc : 1 ≤ c) : Calls Try.prog 40 #[.slice A 1 c] w fun e w' => e = .returned (.int .i64 1) ∧ Below w.heap.size w w' := by
  have h := natBits_any A c [1] w hr (by intro x hx; simp at hx; omega) (by simp) hc
  rw [show nbits (natOf [1]) = 1 from nbits_eq _ _ (by decide) (by decide)] at h
  exact h
theorem nat_i : Calls Try.prog 17 #[.slice (some ⟨w.heap.size, 0, none⟩) 1 1] (w.alloc (.cells #[.int .u64 0] 24)) fun e w' => e = .returned (.bool false) ∧ Below w.heap.size w w' := by
  have hb : Below w.heap.size w (w.alloc (.cells #[.int .u64 0] 24)) := (Below.refl _ _).alloc (Nat.le_refl _) _
  have h := natMay_any (some ⟨w.heap.size, 0, none⟩) 1 [0] (w.alloc (.cells #[.int .u64 0] 24)) ((Rd.lit w .u64 24 [0]).more (by simp)) (by intro x hx; simp at hx; omega) (by simp) (by simp)
  refine Calls.mono h fun e w' ⟨he, hb2⟩ => ⟨?_, hb.trans (hb2.mono (by simp))⟩
  rw [he, show natOf [0] = 0 by decide, wd_zero]
  rfl
theorem nat_j : Calls Try.prog 17 #[.slice none 0 0] w fun e w' => e = .returned (.bool true) ∧ Below w.heap.size w w' := by
  have h := natMay_any none 0 [] w Rd.nil (by intro x hx; cases hx) (by simp) (by simp)
  rw [show natOf [] = 0 from rfl, wd_zero] at h
  exact h
/-- Same of what was answered and of words that are written out. -/
theorem same_lit (l : List Nat) (A : Option Addr) (c : Nat) (hr : Rd .u64 w w.heap.size A l) (hl : l.length ≤ 100) :
    Calls Try.prog 13 #[.slice A l.length c, .slice (some ⟨w.heap.size, 0, none⟩) l.length l.length] (w.alloc (.cells (ints .u64 l).toArray 24)) fun e w' => e = .returned (.bool true) ∧ Below w.heap.size w w' := by
  have hb : Below w.heap.size w (w.alloc (.cells (ints .u64 l).toArray 24)) := (Below.refl _ _).alloc (Nat.le_refl _) _
  have h := same02_any A (some ⟨w.heap.size, 0, none⟩) c l.length l l (w.alloc (.cells (ints .u64 l).toArray 24)) (w.heap.size + 1) ((hr.below hb).more (by omega)) (Rd.lit w .u64 24 l) (by omega) (by omega)
  exact Calls.mono h fun e w' ⟨he, hd⟩ => ⟨by rw [he]; simp, hb.trans (hd.below _)⟩
end

theorem below_step {w0 w w' : World} (h : Below w0.heap.size w0 w) (k : Below w.heap.size w w') : Below w0.heap.size w0 w' := h.trans (k.mono h.size)
theorem rd_step {k : IntKind} {w w' : World} {A : Option Addr} {l : List Nat} (h : Rd k w w.heap.size A l) (b : Below w.heap.size w w') : Rd k w' w'.heap.size A l := (h.below b).more b.size

end Go.Proofs.Ytjimnepjheppgaa

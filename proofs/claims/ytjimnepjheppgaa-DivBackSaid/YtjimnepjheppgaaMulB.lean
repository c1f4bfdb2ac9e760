/- mul's contracts in the form that laws use: a slice of words stands for a number. Conditions: as typed. -/
import Derived.Test.YtjimnepjheppgaaMulC
namespace Go.Proofs.Ytjimnepjheppgaa
open Go.RowKit
set_option maxRecDepth 20000

section
variable {w : World} {A A2 : Option Addr} {n m c c2 M N d d2 : Nat}
theorem bMul (h : NatIn w A n c M) (k : NatIn w A2 m c2 N) (hs : n ≤ 10000) (hs2 : m ≤ 10000) : Calls Try.prog 20 #[.slice A n c, .slice A2 m c2] w (OutN (M * N) w) := by
  have hb := h.bits
  have kb := k.bits
  have hk := nbits_mul M N
  obtain ⟨l, rfl, rfl, h3, h4, h5, h6⟩ := h
  obtain ⟨l2, rfl, rfl, k3, k4, k5, k6⟩ := k
  exact Calls.mono (mulMul_any A A2 c c2 l l2 w h5 h3 hs h6 k5 k3 hs2 k6) fun _ _ h => h.out (by omega)
end
/-- What is answered where a literal was made first. -/
theorem OutN.made {N : Nat} {w w' : World} {e : Ending} {o : Obj} (h : OutN N (w.alloc o) e w') : OutN N w e w' := by
  obtain ⟨X, q, d, he, h1, ⟨l, t1, t2, t3⟩, hb⟩ := h
  exact ⟨X, q, d, he, h1, ⟨l, t1, t2, own_base t3 (by simp)⟩, ((Below.refl _ w).alloc (Nat.le_refl _) o).trans (hb.mono (by simp))⟩
theorem natIn_lit (w : World) (l : List Nat) (hl : Words l) (hn : l.length ≤ 50000) : NatIn (w.alloc (.cells (ints .u64 l).toArray 24)) (some ⟨w.heap.size, 0, none⟩) l.length l.length (natOf l) :=
  ⟨l, rfl, rfl, hl, hn, (Rd.lit w .u64 24 l).more (by simp), Nat.le_refl _⟩
theorem natIn_one (w : World) : NatIn (w.alloc (.cells #[.int .u64 1] 24)) (some ⟨w.heap.size, 0, none⟩) 1 1 1 := natIn_lit w [1] (by intro x hx; simp at hx; omega) (by simp)
theorem natIn_nil (w : World) : NatIn w none 0 0 0 := ⟨[], rfl, rfl, (by intro x hx; cases hx), by omega, Rd.nil, Nat.le_refl _⟩
theorem NatIn.made {w : World} {A : Option Addr} {n c N : Nat} (h : NatIn w A n c N) (o : Obj) : NatIn (w.alloc o) A n c N := h.step ((Below.refl _ w).alloc (Nat.le_refl _) o)
/-- A result whose words are known. -/
theorem NatIs.lit {w : World} {X : Option Addr} {q d N : Nat} (h : NatIs w X q d N) (l : List Nat) (e : wd N = l) : q = l.length ∧ Rd .u64 w w.heap.size X l := ⟨by rw [← h.1, e], by rw [← e]; exact h.2.2.1⟩

theorem natIs_eq {w : World} {X : Option Addr} {q d M N : Nat} (h : NatIs w X q d M) (e : M = N) : NatIs w X q d N := e ▸ h
theorem OutN_made {P : Program} {f : FuncId} {args : Array Value} {N : Nat} {w : World} {o : Obj} (h : Calls P f args (w.alloc o) (OutN N (w.alloc o))) : Calls P f args (w.alloc o) (OutN N w) := Calls.mono h fun _ _ h => h.made
theorem sq_sum (a b : Nat) : (a + b) * (a + b) = a * a + (a * b + a * b + b * b) := by
  rw [Nat.add_mul, Nat.mul_add, Nat.mul_add, Nat.mul_comm b a]
  omega
theorem sq_rest (a b : Nat) (h : b ≤ a) : (a + b) * (a - b) = a * a - b * b := by
  obtain ⟨d, rfl⟩ : ∃ d, a = b + d := ⟨a - b, by omega⟩
  rw [Nat.add_sub_cancel_left]
  simp only [Nat.mul_add, Nat.add_mul, Nat.mul_comm d b]
  omega
theorem shl3 (M k : Nat) (h : k ≤ 65536) : shlS M (k : Int) = 2 ^ k * M := by unfold shlS; rw [if_pos (by omega), Int.toNat_natCast]
theorem cmpS_same (M : Nat) : cmpS M M = 0 := by simp [cmpS]
theorem cmp_same {w : World} {A A2 : Option Addr} {n m c c2 M N : Nat} (h : NatIn w A n c M) (k : NatIn w A2 m c2 N) (e : M = N) : Calls Try.prog 18 #[.slice A n c, .slice A2 m c2] w fun e w' => e = .returned (.int .i64 0) ∧ Below w.heap.size w w' := by
  have h := bCmp h k
  rwa [e, cmpS_same] at h
/-- What is left, or why not, where a literal was made first. -/
theorem sub_made {w : World} {A : Option Addr} {n c M : Nat} (h : NatIn w A n c M) (hle : 1 ≤ M) : Calls Try.prog 22 #[.slice A n c, .slice (some ⟨w.heap.size, 0, none⟩) 1 1] (w.alloc (.cells #[.int .u64 1] 24)) fun e w' =>
    ∃ X q d, e = .returned (.tuple #[.slice X q d, .bool true]) ∧ NatIs w' X q d (M - 1) ∧ Below w.heap.size w w' :=
  Calls.mono (bSub_yes (h.made _) (natIn_one w) hle) fun _ _ ⟨X, q, d, he, h1, _, hb⟩ => ⟨X, q, d, he, h1, ((Below.refl _ w).alloc (Nat.le_refl _) _).trans (hb.mono (by simp))⟩
theorem sub_is {w : World} {A A2 : Option Addr} {n m c c2 M N : Nat} (h : NatIn w A n c M) (k : NatIn w A2 m c2 N) (hle : N ≤ M) : Calls Try.prog 22 #[.slice A n c, .slice A2 m c2] w fun e w' =>
    ∃ X q d, e = .returned (.tuple #[.slice X q d, .bool true]) ∧ NatIs w' X q d (M - N) ∧ Below w.heap.size w w' :=
  Calls.mono (bSub_yes h k hle) fun _ _ ⟨X, q, d, he, h1, _, hb⟩ => ⟨X, q, d, he, h1, hb⟩
theorem pow_out {w w' : World} {e : Ending} {N : Nat} (h : OutPow N w e w') (hn : nbits N ≤ 3200000) : ∃ X q d, e = .returned (.tuple #[.slice X q d, .int .i64 0]) ∧ NatIs w' X q d N ∧ Below w.heap.size w w' := by
  obtain ⟨v, he, own, hb⟩ := h
  obtain ⟨X, d, rfl, hd, _⟩ := own_form own
  exact ⟨X, _, d, he, ⟨length_wd _, by omega, Rd.own own, hd⟩, hb⟩
section
variable {w : World} {A : Option Addr} {c : Nat} {l : List Nat}
end
theorem same_none (A A2 : Option Addr) (c c2 : Nat) (w : World) : Calls Try.prog 13 #[.slice A 0 c, .slice A2 0 c2] w fun e w' => e = .returned (.bool true) ∧ Below w.heap.size w w' :=
  same_true A A2 0 c c2 [] w rfl Rd.nil Rd.nil (by omega)

/-! The examples -/
theorem wd_m : wd (18446744073709551615 * 18446744073709551615) = [1, 18446744073709551614] := wd_lit _ 128 (by decide) (by decide) _ (by decide)
theorem wd_p : wd (10 ^ 20) = [7766279631452241920, 5] := wd_lit _ 67 (by decide) (by decide) _ (by decide)
theorem mul_max (w : World) (g : Nat) (hr : Rd .u64 w w.heap.size (some ⟨g, 0, none⟩) [18446744073709551615]) : Calls Try.prog 20 #[.slice (some ⟨g, 0, none⟩) 1 1, .slice (some ⟨g, 0, none⟩) 1 1] w fun e w' => ∃ X d, e = .returned (.slice X 2 d) ∧ Rd .u64 w' w'.heap.size X [1, 18446744073709551614] ∧ Below w.heap.size w w' := by
  have h := mulMul_any (some ⟨g, 0, none⟩) (some ⟨g, 0, none⟩) 1 1 [18446744073709551615] [18446744073709551615] w hr (by intro x hx; simp at hx; omega) (by simp) (by simp) hr (by intro x hx; simp at hx; omega) (by simp) (by simp)
  refine Calls.mono h fun e w' h => ?_
  rw [show natOf [18446744073709551615] * natOf [18446744073709551615] = 18446744073709551615 * 18446744073709551615 by decide] at h
  obtain ⟨X, d, he, hR, hb, _⟩ := h.lit _ wd_m
  exact ⟨X, d, he, hR, hb⟩
end Go.Proofs.Ytjimnepjheppgaa

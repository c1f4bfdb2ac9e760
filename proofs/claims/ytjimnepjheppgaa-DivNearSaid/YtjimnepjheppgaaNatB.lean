/- nat's contracts in the form that laws use: a slice of words stands for a number. Conditions: as typed. -/
import Derived.Test.YtjimnepjheppgaaNatWordsW
namespace Go.Proofs.Ytjimnepjheppgaa
open Go.RowKit
set_option maxRecDepth 20000

/-- The slice at A, of n words, stands for N: words that may be, or not. -/
def NatIn (w : World) (A : Option Addr) (n c N : Nat) : Prop := ∃ l : List Nat, l.length = n ∧ natOf l = N ∧ Words l ∧ n ≤ 50000 ∧ Rd .u64 w w.heap.size A l ∧ n ≤ c
/-- The slice at A, of n words, is N's words. -/
def NatIs (w : World) (A : Option Addr) (n c N : Nat) : Prop := (wd N).length = n ∧ n ≤ 50000 ∧ Rd .u64 w w.heap.size A (wd N) ∧ n ≤ c
/-- The slice at A is N's digits. -/
def NumIs (w : World) (A : Option Addr) (n d N : Nat) : Prop := n = nbits N ∧ n ≤ d ∧ n ≤ 5000000 ∧ Rd .u8 w w.heap.size A (dg N)
section
variable {w w' : World} {A : Option Addr} {n c N d : Nat}
theorem NatIn.step (h : NatIn w A n c N) (b : Below w.heap.size w w') : NatIn w' A n c N := by
  obtain ⟨l, h1, h2, h3, h4, h5, h6⟩ := h
  exact ⟨l, h1, h2, h3, h4, rd_step h5 b, h6⟩
theorem NatIs.step (h : NatIs w A n c N) (b : Below w.heap.size w w') : NatIs w' A n c N := ⟨h.1, h.2.1, rd_step h.2.2.1 b, h.2.2.2⟩
theorem NumIs.step (h : NumIs w A n d N) (b : Below w.heap.size w w') : NumIs w' A n d N := ⟨h.1, h.2.1, h.2.2.1, rd_step h.2.2.2 b⟩
theorem NatIs.in_ (h : NatIs w A n c N) : NatIn w A n c N := ⟨wd N, h.1, natOf_wd N, wd_words N, h.2.1, h.2.2.1, h.2.2.2⟩
theorem NatIn.bits (h : NatIn w A n c N) : nbits N ≤ 64 * n := by
  obtain ⟨l, rfl, rfl, h3, _⟩ := h
  exact nbits_natOf l h3
theorem Turned.step {base : Nat} {v : Value} (h : Turned w base v n) (b : Below w.heap.size w w') : Turned w' base v n := by
  obtain ⟨l, h1, h2, h3⟩ := h
  refine ⟨l, h1, h2, h3.kept (row := none) ⟨b.os, b.tape, b.output, b.size, fun i hi _ => b.block i hi⟩ ?_⟩
  rcases hv : v.ownBlock with _ | x
  · exact .inl rfl
  · exact .inr (by simp)
end
theorem Turned.lt {w : World} {base n : Nat} {v : Value} (h : Turned w base v n) : ∀ g, v.ownBlock = some g → base ≤ g ∧ g < w.heap.size := by
  obtain ⟨l, _, _, h3⟩ := h
  exact h3.lt
theorem Turned.beside {w w' : World} {base n : Nat} {v : Value} {row : Option Nat} (h : Turned w base v n) (hg : w.grownBy w' row) (hne : ∀ g, row = some g → g < base) : Turned w' base v n := by
  obtain ⟨l, h1, h2, h3⟩ := h
  refine ⟨l, h1, h2, h3.kept hg ?_⟩
  rcases hv : v.ownBlock with _ | x
  · exact .inl rfl
  · right
    intro e
    have := hne x e.symm
    have := (h3.lt x hv).1
    omega
theorem grown_set {a w : World} {row : Option Nat} {g : Nat} (h : a.grownBy w row) (hg : row = some g) (i : Nat) (u : Value) : a.grownBy (w.setCell ⟨g, i, none⟩ u) row :=
  ⟨h.os, h.tape, h.output, by simpa [World.setCell] using h.size, fun k hk hne => (Below.heap_setCell w ⟨g, i, none⟩ u k (fun e => hne (by rw [hg, e]))).trans (h.block k hk hne)⟩
/-- A row of the call's own has been written: what lay below it is as it was. -/
theorem grown_below {w0 w w' : World} {base n : Nat} {v : Value} (h : Turned w base v n) (hg : w.grownBy w' v.ownBlock) (hb : Below w0.heap.size w0 w) (hle : w0.heap.size ≤ base) : Below w0.heap.size w0 w' :=
  hb.grown hg hb.size fun g hg' => Nat.le_trans hle (h.lt g hg').1
/-- A number is answered, in new memory. -/
def OutN (N : Nat) (w : World) (e : Ending) (w' : World) : Prop := ∃ X q d, e = .returned (.slice X q d) ∧ NatIs w' X q d N ∧ Turned w' w.heap.size (.slice X q d) q ∧ Below w.heap.size w w'
theorem OutNat.out {N : Nat} {w w' : World} {e : Ending} (h : OutNat N w e w') (hn : nbits N ≤ 3200000) : OutN N w e w' := by
  obtain ⟨v, rfl, own, b⟩ := h
  obtain ⟨X, d, rfl, hd, _⟩ := own_form own
  exact ⟨X, _, d, rfl, ⟨length_wd N, by omega, Rd.own own, hd⟩, ⟨wd N, length_wd N, wd_words N, own⟩, b⟩
/-- Digits are answered. -/
def OutD (N : Nat) (w : World) (e : Ending) (w' : World) : Prop := ∃ X n d, e = .returned (.slice X n d) ∧ NumIs w' X n d N ∧ Below w.heap.size w w'
theorem OutNum.out {N : Nat} {w w' : World} {e : Ending} (h : OutNum N w e w') (hn : nbits N ≤ 5000000) : OutD N w e w' := by
  obtain ⟨X, d, rfl, hd, hR, b⟩ := h
  exact ⟨X, _, d, rfl, ⟨rfl, hd, hn, hR⟩, b⟩
theorem nbits_add (a b : Nat) : nbits (a + b) ≤ nbits a + nbits b + 1 := by
  have ha := nbits_lt a
  have hb := nbits_lt b
  refine nbits_of_lt _ _ ?_
  have h1 : 2 ^ nbits a ≤ 2 ^ (nbits a + nbits b) := Nat.pow_le_pow_right (by omega) (by omega)
  have h2 : 2 ^ nbits b ≤ 2 ^ (nbits a + nbits b) := Nat.pow_le_pow_right (by omega) (by omega)
  rw [Nat.pow_succ]
  omega
theorem nbits_shl (a k : Nat) : nbits (2 ^ k * a) ≤ k + nbits a := by
  refine nbits_of_lt _ _ ?_
  rw [Nat.pow_add]
  exact Nat.mul_lt_mul_of_pos_left (nbits_lt a) (Nat.pow_pos (by omega))

section
variable {w : World} {A A2 : Option Addr} {n m c c2 M N d d2 : Nat}
theorem bTrim (h : NatIn w A n c M) : Calls Try.prog 16 #[.slice A n c] w (OutN M w) := by
  have hb := h.bits
  obtain ⟨l, rfl, rfl, h3, h4, h5, h6⟩ := h
  exact Calls.mono (natTrim_any A c l w h5 h3 (by omega) h6) fun _ _ h => h.out (by omega)
theorem bMay (h : NatIs w A n c M) : Calls Try.prog 17 #[.slice A n c] w fun e w' => e = .returned (.bool true) ∧ Below w.heap.size w w' := by
  obtain ⟨h1, h2, h3, h6⟩ := h
  have h := natMay_any A c (wd M) w h3 (wd_words M) (by omega) (by omega)
  rw [h1, natOf_wd] at h
  exact Calls.mono h fun e w' ⟨he, hb⟩ => ⟨by rw [he]; simp, hb⟩
theorem bAdd (h : NatIn w A n c M) (k : NatIn w A2 m c2 N) (hs : n + m ≤ 40000) : Calls Try.prog 19 #[.slice A n c, .slice A2 m c2] w (OutN (M + N) w) := by
  have hb := h.bits
  have kb := k.bits
  have hk := nbits_add M N
  obtain ⟨l, rfl, rfl, h3, h4, h5, h6⟩ := h
  obtain ⟨l2, rfl, rfl, k3, k4, k5, k6⟩ := k
  exact Calls.mono (natAdd_any A A2 c c2 l l2 w h5 h3 (by omega) h6 k5 k3 (by omega) k6) fun _ _ h => h.out (by omega)
theorem bCmp (h : NatIn w A n c M) (k : NatIn w A2 m c2 N) : Calls Try.prog 18 #[.slice A n c, .slice A2 m c2] w fun e w' => e = .returned (.int .i64 (cmpS M N)) ∧ Below w.heap.size w w' := by
  obtain ⟨l, rfl, rfl, h3, h4, h5, h6⟩ := h
  obtain ⟨l2, rfl, rfl, k3, k4, k5, k6⟩ := k
  exact natCmp_any A A2 c c2 l l2 w h5 h3 (by omega) h6 k5 k3 (by omega) k6
theorem bSub_yes (h : NatIn w A n c M) (k : NatIn w A2 m c2 N) (hle : N ≤ M) : Calls Try.prog 22 #[.slice A n c, .slice A2 m c2] w fun e w' =>
    ∃ X q d, e = .returned (.tuple #[.slice X q d, .bool true]) ∧ NatIs w' X q d (M - N) ∧ Turned w' w.heap.size (.slice X q d) q ∧ Below w.heap.size w w' := by
  have hb := h.bits
  have hm := nbits_mono (Nat.sub_le M N)
  obtain ⟨l, rfl, rfl, h3, h4, h5, h6⟩ := h
  obtain ⟨l2, rfl, rfl, k3, k4, k5, k6⟩ := k
  refine Calls.mono (natSub_any A A2 c c2 l l2 w h5 h3 (by omega) h6 k5 k3 (by omega) k6) fun e w' h => ?_
  obtain ⟨v, he, own⟩ := h.1 hle
  obtain ⟨X, d, rfl, hd, _⟩ := own_form own
  exact ⟨X, _, d, he, ⟨length_wd _, by omega, Rd.own own, hd⟩, ⟨wd _, length_wd _, wd_words _, own⟩, h.2.2⟩
theorem bSub_no (h : NatIn w A n c M) (k : NatIn w A2 m c2 N) (hlt : M < N) : Calls Try.prog 22 #[.slice A n c, .slice A2 m c2] w fun e w' => ∃ X d, e = .returned (.tuple #[.slice X 0 d, .bool false]) ∧ Below w.heap.size w w' := by
  obtain ⟨l, rfl, rfl, h3, h4, h5, h6⟩ := h
  obtain ⟨l2, rfl, rfl, k3, k4, k5, k6⟩ := k
  refine Calls.mono (natSub_any A A2 c c2 l l2 w h5 h3 (by omega) h6 k5 k3 (by omega) k6) fun e w' h => ?_
  obtain ⟨X, d, he⟩ := h.2.1 hlt
  exact ⟨X, d, he, h.2.2⟩
theorem bShl (h : NatIn w A n c M) (k : Int) (hn : n ≤ 40000) : Calls Try.prog 41 #[.slice A n c, .int .i64 k] w (OutN (shlS M k) w) := by
  have hb := h.bits
  obtain ⟨l, rfl, rfl, h3, h4, h5, h6⟩ := h
  refine Calls.mono (natShl_any A c l w h5 h3 (by omega) h6 k) fun _ _ h => h.out ?_
  unfold shlS
  split
  · have := nbits_shl (natOf l) k.toNat
    omega
  · rw [nbits_zero]; omega
theorem bShr (h : NatIn w A n c M) (k : Int) : Calls Try.prog 45 #[.slice A n c, .int .i64 k] w (OutN (shrS M k) w) := by
  have hb := h.bits
  obtain ⟨l, rfl, rfl, h3, h4, h5, h6⟩ := h
  refine Calls.mono (natShr_any A c l w h5 h3 (by omega) h6 k) fun _ _ h => h.out ?_
  unfold shrS
  split
  · have := nbits_mono (Nat.div_le_self (natOf l) (2 ^ k.toNat))
    omega
  · rw [nbits_zero]; omega
theorem bBits (h : NatIn w A n c M) : Calls Try.prog 40 #[.slice A n c] w fun e w' => e = .returned (.int .i64 (nbits M)) ∧ Below w.heap.size w w' := by
  obtain ⟨l, rfl, rfl, h3, h4, h5, h6⟩ := h
  exact natBits_any A c l w h5 h3 (by omega) h6
theorem bSame (h : NatIs w A n c M) (k : NatIs w A2 m c2 M) : Calls Try.prog 13 #[.slice A n c, .slice A2 m c2] w fun e w' => e = .returned (.bool true) ∧ Below w.heap.size w w' := by
  obtain ⟨h1, h2, h3, h6⟩ := h
  obtain ⟨k1, k2, k3, k6⟩ := k
  obtain rfl : n = m := by omega
  exact same_true A A2 n c c2 (wd M) w h1 h3 k3 (by omega)
theorem bDigits (h : NatIn w A n c M) : Calls Try.prog 25 #[.slice A n c] w (OutD M w) := by
  have hb := h.bits
  obtain ⟨l, rfl, rfl, h3, h4, h5, h6⟩ := h
  exact Calls.mono (digits_any A c l w h5 h3 (by omega)) fun _ _ h => h.out (by omega)
theorem bLess (h : NumIs w A n d M) (k : NumIs w A2 m d2 N) : Calls Try.prog 47 #[.slice A n d, .slice A2 m d2] w fun e w' => e = .returned (.bool (decide (M < N))) ∧ Below w.heap.size w w' := by
  obtain ⟨rfl, h2, h3, h4⟩ := h
  obtain ⟨rfl, k2, k3, k4⟩ := k
  exact Calls.mono (less02_any A A2 d d2 M N w w.heap.size h4 k4 (by omega) (by omega)) fun e w' ⟨he, hd⟩ => ⟨he, hd.below _⟩
theorem bLess_yes (h : NumIs w A n d M) (k : NumIs w A2 m d2 N) (hlt : M < N) : Calls Try.prog 47 #[.slice A n d, .slice A2 m d2] w fun e w' => e = .returned (.bool true) ∧ Below w.heap.size w w' :=
  Calls.mono (bLess h k) fun e w' ⟨he, hb⟩ => ⟨by rw [he, decide_eq_true hlt], hb⟩
theorem bLess_no (h : NumIs w A n d M) (k : NumIs w A2 m d2 N) (hlt : ¬ M < N) : Calls Try.prog 47 #[.slice A n d, .slice A2 m d2] w fun e w' => e = .returned (.bool false) ∧ Below w.heap.size w w' :=
  Calls.mono (bLess h k) fun e w' ⟨he, hb⟩ => ⟨by rw [he, decide_eq_false hlt], hb⟩
theorem bRest (h : NumIs w A n d M) (k : NumIs w A2 m d2 N) (hle : N ≤ M) : Calls Try.prog 48 #[.slice A n d, .slice A2 m d2] w (OutD (M - N) w) := by
  obtain ⟨rfl, h2, h3, h4⟩ := h
  obtain ⟨rfl, k2, k3, k4⟩ := k
  have := nbits_mono (Nat.sub_le M N)
  exact Calls.mono (rest02_any A A2 d d2 M N w h4 k4 (by omega) (by omega) hle) fun _ _ h => h.out (by omega)
end

/-- The slice at A, of n words, is the words l, whether they may be or not. -/
def RowIs (w : World) (A : Option Addr) (n c : Nat) (l : List Nat) : Prop := l.length = n ∧ Words l ∧ n ≤ 50000 ∧ Rd .u64 w w.heap.size A l ∧ n ≤ c
section
variable {w w' : World} {A A2 : Option Addr} {n c c2 : Nat} {l : List Nat}
theorem RowIs.step (h : RowIs w A n c l) (b : Below w.heap.size w w') : RowIs w' A n c l := ⟨h.1, h.2.1, h.2.2.1, rd_step h.2.2.2.1 b, h.2.2.2.2⟩
theorem RowIs.in_ (h : RowIs w A n c l) : NatIn w A n c (natOf l) := ⟨l, h.1, rfl, h.2.1, h.2.2.1, h.2.2.2.1, h.2.2.2.2⟩
theorem bCopy (h : RowIs w A n c l) : Calls Try.prog 9 #[.slice A n c] w fun e w' => ∃ X d, e = .returned (.slice X n d) ∧ RowIs w' X n d l ∧ Below w.heap.size w w' := by
  obtain ⟨rfl, h2, h3, h4, h6⟩ := h
  refine Calls.mono (copy02_any A c l w h4 (by omega)) fun e w' ⟨v, he, own, hb⟩ => ?_
  obtain ⟨X, d, rfl, hd, _⟩ := own_form own
  exact ⟨X, d, he, ⟨rfl, h2, h3, Rd.own own, hd⟩, hb⟩
theorem bSameRow (h : RowIs w A n c l) (k : RowIs w A2 n c2 l) : Calls Try.prog 13 #[.slice A n c, .slice A2 n c2] w fun e w' => e = .returned (.bool true) ∧ Below w.heap.size w w' :=
  same_true A A2 n c c2 l w h.1 h.2.2.2.1 k.2.2.2.1 (by have := h.2.2.1; omega)
end
end Go.Proofs.Ytjimnepjheppgaa

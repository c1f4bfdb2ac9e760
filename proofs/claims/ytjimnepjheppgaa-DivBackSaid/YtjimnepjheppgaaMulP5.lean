/- mul.Power. Conditions: as typed (lengths that fit a machine). -/
import Derived.Test.YtjimnepjheppgaaMulP4
import Derived.Laws.Bits128
namespace Go.Proofs.Ytjimnepjheppgaa
open Go.RowKit
set_option maxRecDepth 20000

theorem i64_and_one (n : Int) : bits .and .i64 n 1 = n % 2 := by
  have h1 : (BitVec.ofInt 64 1).toNat = 2 ^ 1 - 1 := by decide
  have key : (BitVec.ofInt 64 n &&& BitVec.ofInt 64 1).toNat = (n % ((2 ^ 64 : Nat) : Int)).toNat % 2 ^ 1 := by
    rw [BitVec.toNat_and, BitVec.toNat_ofInt, h1, Nat.and_two_pow_sub_one_eq_mod]
  show IntKind.i64.wrap ((BitVec.ofInt 64 n &&& BitVec.ofInt 64 1).toNat : Nat) = n % 2
  rw [key, IntKind.wrap_i64]
  omega
theorem bitLen_lt (x : Nat) (h : x < 18446744073709551616) : x < 2 ^ Lib.bitLen x := by
  by_cases h0 : x = 0
  · subst h0; exact Nat.pow_pos (by omega)
  · obtain ⟨b1, b2, b3⟩ := Lib.bitLenAux_bounds 64 x (by omega) h0
    exact b3
theorem pow_next (N k m : Nat) : N ^ (k / 2 ^ (m + 1)) * N ^ (k / 2 ^ (m + 1)) * N ^ (k / 2 ^ m % 2) = N ^ (k / 2 ^ m) := by
  rw [← Nat.pow_add, ← Nat.pow_add, Nat.pow_succ, ← Nat.div_div_eq_div_mul]
  congr 1
  omega
theorem pow_small (N k j : Nat) (h : k * nbits N ≤ 65536) : nbits (N ^ (k / 2 ^ j)) ≤ 65537 := by
  have h1 := nbits_pow N (k / 2 ^ j)
  have h2 : nbits N * (k / 2 ^ j) ≤ nbits N * k := Nat.mul_le_mul_left _ (Nat.div_le_self _ _)
  have h3 : nbits N * k = k * nbits N := Nat.mul_comm _ _
  omega

/-- A row of the call's own is so many words of a number. -/
def OwnN (w : World) (base : Nat) (R : Option Addr) (d X : Nat) : Prop := w.ownsRow base 24 1 (.slice R ((nbits X + 63) / 64) d) ((nbits X + 63) / 64) (ints .u64 (wd X)) ∧ (nbits X + 63) / 64 ≤ d
def OutOwn (base X : Nat) (w : World) (e : Ending) (w' : World) : Prop := ∃ R d, e = .returned (.slice R ((nbits X + 63) / 64) d) ∧ OwnN w' base R d X ∧ Below w.heap.size w w'
theorem OutNat.ownN {X base : Nat} {w w' : World} {e : Ending} (h : OutNat X w e w') (hb : base ≤ w.heap.size) : OutOwn base X w e w' := by
  obtain ⟨v, rfl, ho, hb'⟩ := h
  obtain ⟨R, d, rfl, hd, _⟩ := own_form ho
  exact ⟨R, d, rfl, ⟨own_base ho hb, hd⟩, hb'⟩
theorem mul_own {w : World} {base d X : Nat} {R : Option Addr} (h : OwnN w base R d X) (hX : nbits X ≤ 200000) (hb : base ≤ w.heap.size) (A : Option Addr) (c : Nat) (a : List Nat) (hr : Rd .u64 w w.heap.size A a) (hw : Words a) (hl : a.length ≤ 10000) (hc : a.length ≤ c) : Calls Try.prog 20 #[.slice R ((nbits X + 63) / 64) d, .slice A a.length c] w (OutOwn base (X * natOf a) w) := by
  have hl := length_wd X
  have M := mulMul_pf R A d c (wd X) a w (Rd.own h.1) (wd_words X) (by omega) (by have := h.2; omega) hr hw (by omega) hc
  rw [hl, natOf_wd] at M
  exact M.mono fun _ _ h => h.ownN hb

section
variable (A : Option Addr) (c : Nat) (a : List Nat) (w : World) (hr : Rd .u64 w w.heap.size A a) (hw : Words a) (hl : a.length ≤ 10000) (hc : a.length ≤ c)
include hr hw hl hc
end
end Go.Proofs.Ytjimnepjheppgaa

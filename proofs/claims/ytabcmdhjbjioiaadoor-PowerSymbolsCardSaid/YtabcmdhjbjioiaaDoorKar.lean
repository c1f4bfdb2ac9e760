/- Several texts in one; each begins with a remark that says what it shows and on which conditions. -/
import Derived.Test.YtabcmdhjbjioiaaDoorKaq
/- mul's contracts in the form that laws use: a slice of words stands for a number. Conditions: as typed. -/
namespace Go.Proofs.YtabcmdhjbjioiaaDoor
open Go.RowKit
set_option maxRecDepth 20000
section
variable {w : World} {A A2 : Option Addr} {n m c c2 M N d d2 : Nat}
theorem bMul (h : NatIn w A n c M) (k : NatIn w A2 m c2 N) (hs : n ≤ 10000) (hs2 : m ≤ 10000) : Calls Tryd.prog 17 #[.slice A n c, .slice A2 m c2] w (OutN (M * N) w) := by
  have hb := h.bits
  have kb := k.bits
  have hk := nbits_mul M N
  obtain ⟨l, rfl, rfl, h3, h4, h5, h6⟩ := h
  obtain ⟨l2, rfl, rfl, k3, k4, k5, k6⟩ := k
  exact Calls.mono (mulMul_any A A2 c c2 l l2 w h5 h3 hs h6 k5 k3 hs2 k6) fun _ _ h => h.out (by omega)
end
/-- A result whose words are known. -/
theorem NatIs.lit {w : World} {X : Option Addr} {q d N : Nat} (h : NatIs w X q d N) (l : List Nat) (e : wd N = l) : q = l.length ∧ Rd .u64 w w.heap.size X l := ⟨by rw [← h.1, e], by rw [← e]; exact h.2.2.1⟩
theorem natIs_eq {w : World} {X : Option Addr} {q d M N : Nat} (h : NatIs w X q d M) (e : M = N) : NatIs w X q d N := e ▸ h
theorem shl3 (M k : Nat) (h : k ≤ 65536) : shlS M (k : Int) = 2 ^ k * M := by unfold shlS; rw [if_pos (by omega), Int.toNat_natCast]
theorem cmpS_same (M : Nat) : cmpS M M = 0 := by simp [cmpS]
theorem cmp_same {w : World} {A A2 : Option Addr} {n m c c2 M N : Nat} (h : NatIn w A n c M) (k : NatIn w A2 m c2 N) (e : M = N) : Calls Tryd.prog 19 #[.slice A n c, .slice A2 m c2] w fun e w' => e = .returned (.int .i64 0) ∧ Below w.heap.size w w' := by
  have h := bCmp h k
  rwa [e, cmpS_same] at h
theorem sub_is {w : World} {A A2 : Option Addr} {n m c c2 M N : Nat} (h : NatIn w A n c M) (k : NatIn w A2 m c2 N) (hle : N ≤ M) : Calls Tryd.prog 26 #[.slice A n c, .slice A2 m c2] w fun e w' =>
    ∃ X q d, e = .returned (.tuple #[.slice X q d, .bool true]) ∧ NatIs w' X q d (M - N) ∧ Below w.heap.size w w' :=
  Calls.mono (bSub_yes h k hle) fun _ _ ⟨X, q, d, he, h1, _, hb⟩ => ⟨X, q, d, he, h1, hb⟩
section
variable {w : World} {A : Option Addr} {c : Nat} {l : List Nat}
end
theorem same_none (A A2 : Option Addr) (c c2 : Nat) (w : World) : Calls Tryd.prog 13 #[.slice A 0 c, .slice A2 0 c2] w fun e w' => e = .returned (.bool true) ∧ Below w.heap.size w w' :=
  same_true A A2 0 c c2 [] w rfl Rd.nil Rd.nil (by omega)
/-! The examples -/
end Go.Proofs.YtabcmdhjbjioiaaDoor

/- Several texts in one; each begins with a remark that says what it shows and on which conditions. -/
import Derived.Test.YtabcmdhjbjioiaaDoorKas
/- div's contracts, as laws use them. Conditions: as typed (lengths that fit a machine, a capacity that is not below its length). -/
namespace Go.Proofs.YtabcmdhjbjioiaaDoor
open Go.RowKit
set_option maxRecDepth 20000
section
variable (A A2 : Option Addr) (c c2 : Nat) (a b : List Nat) (w : World) (hr : Rd .u64 w w.heap.size A a) (hw : Words a) (hl : a.length ≤ 10000) (hc : a.length ≤ c) (hr2 : Rd .u64 w w.heap.size A2 b) (hw2 : Words b) (hl2 : b.length ≤ 10000) (hc2 : b.length ≤ c2)
include hr hw hl hc
theorem divWord_ok (x : Nat) (hx : 0 < x) (hx2 : x < 18446744073709551616) : Calls Tryd.prog 30 #[.slice A a.length c, .int .u64 x] w (OutWord (natOf a) x w) := divWord_ok_pf A a.length c x a w rfl hr hw hl hc hx hx2
include hr2 hw2 hl2 hc2
theorem divMod_ok (h0 : natOf b ≠ 0) : Calls Tryd.prog 18 #[.slice A a.length c, .slice A2 b.length c2] w (OutMod (natOf a) (natOf b) w) := mod_ok_pf A A2 c c2 a b w hr hw hl hc hr2 hw2 hl2 hc2 h0
end
end Go.Proofs.YtabcmdhjbjioiaaDoor
/- div's contracts in the form that laws use. Conditions: as typed. -/
namespace Go.Proofs.YtabcmdhjbjioiaaDoor
open Go.RowKit
set_option maxRecDepth 20000
section
variable {w : World} {A A2 : Option Addr} {n m c c2 M N : Nat}
theorem bMod_ok (h : NatIn w A n c M) (k : NatIn w A2 m c2 N) (h0 : N ≠ 0) (hs : n ≤ 10000) (hs2 : m ≤ 10000) : Calls Tryd.prog 18 #[.slice A n c, .slice A2 m c2] w (OutMod M N w) := by
  obtain ⟨l, rfl, rfl, h3, h4, h5, h6⟩ := h
  obtain ⟨l2, rfl, rfl, k3, k4, k5, k6⟩ := k
  exact divMod_ok A A2 c c2 l l2 w h5 h3 hs h6 k5 k3 hs2 k6 h0
theorem bWord_ok (h : NatIn w A n c M) (hs : n ≤ 10000) (x : Nat) (hx : 0 < x) (hx2 : x < 18446744073709551616) : Calls Tryd.prog 30 #[.slice A n c, .int .u64 x] w (OutWord M x w) := by
  obtain ⟨l, rfl, rfl, h3, h4, h5, h6⟩ := h
  exact divWord_ok A c l w h5 h3 hs h6 x hx hx2
theorem bDiv4_ok (h : NatIn w A n c M) (k : NatIn w A2 m c2 N) (h0 : N ≠ 0) (hs : n ≤ 10000) (hs2 : m ≤ 10000) : Calls Tryd.prog 22 #[.slice A n c, .slice A2 m c2] w (OutDiv M N w) := by
  obtain ⟨l, rfl, rfl, h3, h4, h5, h6⟩ := h
  obtain ⟨l2, rfl, rfl, k3, k4, k5, k6⟩ := k
  exact div04_ok A A2 c c2 l l2 w h5 h3 hs k5 k3 hs2 h0
theorem bSmall2 (h : NatIn w A n c M) : Calls Tryd.prog 23 #[.slice A n c] w fun e w' => e = .returned (.tuple #[.int .u64 (smallV M), .bool (smallB M)]) ∧ Below w.heap.size w w' := by
  obtain ⟨l, rfl, rfl, h3, h4, h5, h6⟩ := h
  exact small02_any A c l w h5 h3 (by omega)
theorem natIn_empty (w : World) (X : Option Addr) (d : Nat) : NatIn w X 0 d 0 := ⟨[], rfl, rfl, (by intro x hx; cases hx), by omega, Rd.nil, Nat.zero_le _⟩
theorem cmp_less (h : NatIn w A n c M) (k : NatIn w A2 m c2 N) (hlt : M < N) : Calls Tryd.prog 19 #[.slice A n c, .slice A2 m c2] w fun e w' => e = .returned (.int .i64 (-1)) ∧ Below w.heap.size w w' := by
  have h := bCmp h k
  rwa [show cmpS M N = -1 by unfold cmpS; rw [if_pos hlt]] at h
end
theorem below_made {w w' : World} {o : Obj} (h : Below (w.alloc o).heap.size (w.alloc o) w') : Below w.heap.size w w' := ((Below.refl _ w).alloc (Nat.le_refl _) o).trans (h.mono (by simp))
theorem bOf (w : World) (n : Nat) (hn : n < 18446744073709551616) : Calls Tryd.prog 31 #[.int .u64 (n : Int)] w (OutN n w) :=
  Calls.mono (natOf_any n w hn) fun _ _ h => h.out (by have := nbits_of_lt n 64 hn; omega)
theorem bWord_v {w : World} {A : Option Addr} {n c M : Nat} (h : NatIn w A n c M) (hs : n ≤ 10000) (x v : Nat) (hx : 0 < x) (hx2 : x < 18446744073709551616) (hv : v = M % x) : Calls Tryd.prog 30 #[.slice A n c, .int .u64 x] w fun e w' =>
    ∃ X q d, e = .returned (.tuple #[.slice X q d, .int .u64 (v : Int), .int .i64 0]) ∧ NatIs w' X q d (M / x) ∧ Below w.heap.size w w' := by
  subst hv
  exact bWord_ok h hs x hx hx2
theorem bSmall2_v {w : World} {A : Option Addr} {n c M : Nat} (h : NatIn w A n c M) (v : Nat) (hv : v = M) (hl : v < 18446744073709551616) : Calls Tryd.prog 23 #[.slice A n c] w fun e w' => e = .returned (.tuple #[.int .u64 (v : Int), .bool true]) ∧ Below w.heap.size w w' := by
  subst hv
  have h := bSmall2 h
  rwa [show smallV v = (v : Int) by unfold smallV; rw [if_pos hl], show smallB v = true by unfold smallB; exact decide_eq_true hl] at h
/-! The examples -/
end Go.Proofs.YtabcmdhjbjioiaaDoor

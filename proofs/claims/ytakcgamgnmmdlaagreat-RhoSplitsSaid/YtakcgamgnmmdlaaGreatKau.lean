/- Several texts in one; each begins with a remark that says what it shows and on which conditions. -/
import Derived.Test.YtakcgamgnmmdlaaGreatKat
/- div's contracts, as laws use them. Conditions: as typed (lengths that fit a machine, a capacity that is not below its length). -/
namespace Go.Proofs.YtakcgamgnmmdlaaGreat
open Go.RowKit
set_option maxRecDepth 20000
section
variable (A A2 : Option Addr) (c c2 : Nat) (a b : List Nat) (w : World) (hr : Rd .u64 w w.heap.size A a) (hw : Words a) (hl : a.length ≤ 10000) (hc : a.length ≤ c) (hr2 : Rd .u64 w w.heap.size A2 b) (hw2 : Words b) (hl2 : b.length ≤ 10000) (hc2 : b.length ≤ c2)
include hr hw hl hc
theorem divWord_ok (x : Nat) (hx : 0 < x) (hx2 : x < 18446744073709551616) : Calls Tryz.prog 64 #[.slice A a.length c, .int .u64 x] w (OutWord (natOf a) x w) := divWord_ok_pf A a.length c x a w rfl hr hw hl hc hx hx2
include hr2 hw2 hl2 hc2
theorem divDiv_zero (h0 : natOf b = 0) : Calls Tryz.prog 50 #[.slice A a.length c, .slice A2 b.length c2] w (OutErr3 5 w) := div_zero_pf A A2 c c2 a b w hr hw hl hc hr2 hw2 hl2 hc2 h0
theorem divDiv_ok (h0 : natOf b ≠ 0) : Calls Tryz.prog 50 #[.slice A a.length c, .slice A2 b.length c2] w (OutDiv (natOf a) (natOf b) w) := div_ok_pf A A2 c c2 a b w hr hw hl hc hr2 hw2 hl2 hc2 h0
theorem divMod_zero (h0 : natOf b = 0) : Calls Tryz.prog 69 #[.slice A a.length c, .slice A2 b.length c2] w (OutErr 5 w) := mod_zero_pf A A2 c c2 a b w hr hw hl hc hr2 hw2 hl2 hc2 h0
theorem divMod_ok (h0 : natOf b ≠ 0) : Calls Tryz.prog 69 #[.slice A a.length c, .slice A2 b.length c2] w (OutMod (natOf a) (natOf b) w) := mod_ok_pf A A2 c c2 a b w hr hw hl hc hr2 hw2 hl2 hc2 h0
end
end Go.Proofs.YtakcgamgnmmdlaaGreat
/- div's contracts in the form that laws use. Conditions: as typed. -/
namespace Go.Proofs.YtakcgamgnmmdlaaGreat
open Go.RowKit
set_option maxRecDepth 20000
section
variable {w : World} {A A2 : Option Addr} {n m c c2 M N : Nat}
theorem bDiv_zero (h : NatIn w A n c M) (k : NatIn w A2 m c2 N) (h0 : N = 0) (hs : n ≤ 10000) (hs2 : m ≤ 10000) : Calls Tryz.prog 50 #[.slice A n c, .slice A2 m c2] w (OutErr3 5 w) := by
  obtain ⟨l, rfl, rfl, h3, h4, h5, h6⟩ := h
  obtain ⟨l2, rfl, rfl, k3, k4, k5, k6⟩ := k
  exact divDiv_zero A A2 c c2 l l2 w h5 h3 hs h6 k5 k3 hs2 k6 h0
theorem bDiv_ok (h : NatIn w A n c M) (k : NatIn w A2 m c2 N) (h0 : N ≠ 0) (hs : n ≤ 10000) (hs2 : m ≤ 10000) : Calls Tryz.prog 50 #[.slice A n c, .slice A2 m c2] w (OutDiv M N w) := by
  obtain ⟨l, rfl, rfl, h3, h4, h5, h6⟩ := h
  obtain ⟨l2, rfl, rfl, k3, k4, k5, k6⟩ := k
  exact divDiv_ok A A2 c c2 l l2 w h5 h3 hs h6 k5 k3 hs2 k6 h0
theorem bMod_zero (h : NatIn w A n c M) (k : NatIn w A2 m c2 N) (h0 : N = 0) (hs : n ≤ 10000) (hs2 : m ≤ 10000) : Calls Tryz.prog 69 #[.slice A n c, .slice A2 m c2] w (OutErr 5 w) := by
  obtain ⟨l, rfl, rfl, h3, h4, h5, h6⟩ := h
  obtain ⟨l2, rfl, rfl, k3, k4, k5, k6⟩ := k
  exact divMod_zero A A2 c c2 l l2 w h5 h3 hs h6 k5 k3 hs2 k6 h0
theorem bMod_ok (h : NatIn w A n c M) (k : NatIn w A2 m c2 N) (h0 : N ≠ 0) (hs : n ≤ 10000) (hs2 : m ≤ 10000) : Calls Tryz.prog 69 #[.slice A n c, .slice A2 m c2] w (OutMod M N w) := by
  obtain ⟨l, rfl, rfl, h3, h4, h5, h6⟩ := h
  obtain ⟨l2, rfl, rfl, k3, k4, k5, k6⟩ := k
  exact divMod_ok A A2 c c2 l l2 w h5 h3 hs h6 k5 k3 hs2 k6 h0
theorem bWord_ok (h : NatIn w A n c M) (hs : n ≤ 10000) (x : Nat) (hx : 0 < x) (hx2 : x < 18446744073709551616) : Calls Tryz.prog 64 #[.slice A n c, .int .u64 x] w (OutWord M x w) := by
  obtain ⟨l, rfl, rfl, h3, h4, h5, h6⟩ := h
  exact divWord_ok A c l w h5 h3 hs h6 x hx hx2
end
theorem below_made {w w' : World} {o : Obj} (h : Below (w.alloc o).heap.size (w.alloc o) w') : Below w.heap.size w w' := ((Below.refl _ w).alloc (Nat.le_refl _) o).trans (h.mono (by simp))
theorem OutDiv.made {M N : Nat} {w w' : World} {e : Ending} (o : Obj) (h : OutDiv M N (w.alloc o) e w') : OutDiv M N w e w' := by
  obtain ⟨X, q, d, Y, r, f, he, h1, h2, hb⟩ := h
  exact ⟨X, q, d, Y, r, f, he, h1, h2, below_made hb⟩
theorem OutErr3.made {x : Int} {w w' : World} {e : Ending} (o : Obj) (h : OutErr3 x (w.alloc o) e w') : OutErr3 x w e w' := by
  obtain ⟨X, d, Y, f, he, hb⟩ := h
  exact ⟨X, d, Y, f, he, below_made hb⟩
theorem bOf (w : World) (n : Nat) (hn : n < 18446744073709551616) : Calls Tryz.prog 22 #[.int .u64 (n : Int)] w (OutN n w) :=
  Calls.mono (natOf_any n w hn) fun _ _ h => h.out (by have := nbits_of_lt n 64 hn; omega)
theorem bWord_v {w : World} {A : Option Addr} {n c M : Nat} (h : NatIn w A n c M) (hs : n ≤ 10000) (x v : Nat) (hx : 0 < x) (hx2 : x < 18446744073709551616) (hv : v = M % x) : Calls Tryz.prog 64 #[.slice A n c, .int .u64 x] w fun e w' =>
    ∃ X q d, e = .returned (.tuple #[.slice X q d, .int .u64 (v : Int), .int .i64 0]) ∧ NatIs w' X q d (M / x) ∧ Below w.heap.size w w' := by
  subst hv
  exact bWord_ok h hs x hx hx2
/-! The examples -/
end Go.Proofs.YtakcgamgnmmdlaaGreat

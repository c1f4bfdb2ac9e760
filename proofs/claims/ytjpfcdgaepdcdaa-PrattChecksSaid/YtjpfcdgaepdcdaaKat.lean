/- Several texts in one; each begins with a remark that says what it shows and on which conditions. -/
import Derived.Test.YtjpfcdgaepdcdaaKas
/- div.Div, div.Mod. Conditions: as typed (lengths that fit a machine). -/
namespace Go.Proofs.Ytjpfcdgaepdcdaa
open Go.RowKit
set_option maxRecDepth 20000
/-- What Div answers where it divides by one word, or by more. -/
theorem outWord_num {M x : Nat} {w w' : World} {e : Ending} (h : OutWord M x w e w') : ∃ X q d r, e = .returned (.tuple #[.slice X q d, .int .u64 ((r : Nat) : Int), .int .i64 0]) ∧ r = M % x ∧ NatIs w' X q d (M / x) ∧ Below w.heap.size w w' := by
  obtain ⟨X, q, d, e1, e2, e3⟩ := h
  exact ⟨X, q, d, _, e1, rfl, e2, e3⟩
section
variable (A A2 : Option Addr) (c c2 : Nat) (a b : List Nat) (w : World) (hr : Rd .u64 w w.heap.size A a) (hw : Words a) (hl : a.length ≤ 10000) (hc : a.length ≤ c) (hr2 : Rd .u64 w w.heap.size A2 b) (hw2 : Words b) (hl2 : b.length ≤ 10000) (hc2 : b.length ≤ c2)
include hr hw hl hc hr2 hw2 hl2 hc2
set_option maxHeartbeats 1000000 in
theorem div_zero_pf (h0 : natOf b = 0) : Calls Try.prog 48 #[.slice A a.length c, .slice A2 b.length c2] w (OutErr3 5 w) := by
  have _ := And.intro hr (And.intro hw (And.intro hl hc))
  have S := natSmall_any A2 c2 b w hr2 hw2 (by omega) hc2
  rw [h0, show smallV 0 = 0 by simp [smallV], show smallB 0 = true by simp [smallB]] at S
  have HS := Lib.hid S
  clear S h0
  go_enter Try.func48, Try.ntmps48
  go_wp2_with fail
  refine (HS.out).mono ?_
  rintro e w1 ⟨rfl, b1⟩
  go_wp2_with fail
  refine (divWord_zero_pf A a.length c w1).mono ?_
  rintro e w2 ⟨X, d, rfl, b2⟩
  have B2 := b1.trans (b2.mono b1.size)
  go_wp2_with fail
  refine (natOf_any 0 w2 (by omega)).mono ?_
  rintro e w3 ⟨v3, rfl, own3, b3⟩
  obtain ⟨Y, f, rfl, _, _⟩ := own_form own3
  have B3 := B2.trans (b3.mono B2.size)
  rw [nbits_zero]
  clear own3
  go_wp2_with fail
  go_ret3
  exact ⟨X, d, Y, f, rfl, B3⟩
set_option maxHeartbeats 1000000 in
theorem div_ok_pf (h0 : natOf b ≠ 0) : Calls Try.prog 48 #[.slice A a.length c, .slice A2 b.length c2] w (OutDiv (natOf a) (natOf b) w) := by
  have S := natSmall_any A2 c2 b w hr2 hw2 (by omega) hc2
  by_cases hs : natOf b < 18446744073709551616
  · rw [show smallV (natOf b) = ((natOf b : Nat) : Int) by simp [smallV, hs], show smallB (natOf b) = true by simp [smallB, hs]] at S
    have HS := Lib.hid S
    have H0 := Lib.hid h0
    have Hs := Lib.hid hs
    clear S h0 hs
    go_enter Try.func48, Try.ntmps48
    go_wp2_with fail
    refine (HS.out).mono ?_
    rintro e w1 ⟨rfl, b1⟩
    go_wp2_with fail
    refine (divWord_ok_pf A a.length c (natOf b) a w1 rfl ((hr.below b1).more b1.size) hw hl hc (by have := H0.out; omega) Hs.out).mono ?_
    intro e w2 h2
    obtain ⟨X, q, d, r, rfl, hre, hX, b2⟩ := outWord_num h2
    have hrb : r < 18446744073709551616 := by have := Hs.out; have := Nat.mod_lt (natOf a) (show 0 < natOf b by have := H0.out; omega); omega
    have Hre := Lib.hid hre
    have B2 := b1.trans (b2.mono b1.size)
    clear hre h2
    go_wp2_with fail
    refine (natOf_any r w2 hrb).mono ?_
    rintro e w3 ⟨v3, rfl, own3, b3⟩
    obtain ⟨Y, f, rfl, hf, _⟩ := own_form own3
    have B3 := B2.trans (b3.mono B2.size)
    have hX3 := hX.step b3
    have hn1 := nbits_of_lt r 64 hrb
    have hY : NatIs w3 Y ((nbits r + 63) / 64) f (natOf a % natOf b) := by rw [← Hre.out]; exact ⟨length_wd _, by omega, Rd.own own3, hf⟩
    clear own3 hX
    go_wp2_with fail
    go_ret3
    exact ⟨X, q, d, Y, _, f, rfl, hX3, hY, B3⟩
  · rw [show smallV (natOf b) = 0 by simp [smallV, hs], show smallB (natOf b) = false by simp [smallB, hs]] at S
    have HS := Lib.hid S
    have Hs := Lib.hid hs
    clear S h0 hs
    go_enter Try.func48, Try.ntmps48
    go_wp2_with fail
    refine (HS.out).mono ?_
    rintro e w1 ⟨rfl, b1⟩
    go_wp2_with fail
    have r1 := (hr.below b1).more b1.size
    have r2 := (hr2.below b1).more b1.size
    refine (natCmp_any A A2 c c2 a b w1 r1 hw (by omega) hc r2 hw2 (by omega) hc2).mono ?_
    rintro e w2 ⟨rfl, b2⟩
    have B2 := b1.trans (b2.mono b1.size)
    have r1 := (hr.below B2).more B2.size
    have r2 := (hr2.below B2).more B2.size
    by_cases hlt : natOf a < natOf b
    · have hcm : cmpS (natOf a) (natOf b) = -1 := by unfold cmpS; rw [if_pos hlt]
      have Hlt := Lib.hid hlt
      rw [hcm]
      clear hlt hcm
      go_wp2_with fail
      refine (natTrim_any A c a w2 r1 hw (by omega) hc).mono ?_
      rintro e w3 ⟨v3, rfl, own3, b3⟩
      obtain ⟨Y, f, rfl, hf, _⟩ := own_form own3
      have B3 := B2.trans (b3.mono B2.size)
      have hna := nbits_natOf a hw
      have hY : NatIs w3 Y ((nbits (natOf a) + 63) / 64) f (natOf a % natOf b) := by rw [Nat.mod_eq_of_lt Hlt.out]; exact ⟨length_wd _, by omega, Rd.own own3, hf⟩
      have hX : NatIs w3 none 0 0 (natOf a / natOf b) := by
        rw [Nat.div_eq_of_lt Hlt.out]
        have e : wd 0 = [] := by simp [wd, nbits_zero, words]
        exact ⟨by rw [e]; rfl, by omega, by rw [e]; exact Rd.nil, Nat.le_refl _⟩
      clear own3 hna
      go_wp2_with fail
      go_ret3
      exact ⟨none, 0, 0, Y, _, f, rfl, hX, hY, B3⟩
    · have hcm : ¬ cmpS (natOf a) (natOf b) < 0 := by
        unfold cmpS
        rw [if_neg hlt]
        split <;> omega
      have Hlt := Lib.hid hlt
      generalize cmpS (natOf a) (natOf b) = cm at *
      clear hlt
      go_wp2_with fail
      refine (byWords_pf A A2 a.length b.length c c2 a b w2 rfl rfl r1 hw hl hc r2 hw2 hl2 hc2 (by have := Hs.out; omega) (by have := Hlt.out; omega)).mono ?_
      rintro e w3 ⟨X, q, d, Y, r, f, rfl, hX, hY, b3⟩
      have B3 := B2.trans (b3.mono B2.size)
      go_wp2_with fail
      go_ret3
      exact ⟨X, q, d, Y, r, f, rfl, hX, hY, B3⟩
set_option maxHeartbeats 1000000 in
theorem mod_zero_pf (h0 : natOf b = 0) : Calls Try.prog 59 #[.slice A a.length c, .slice A2 b.length c2] w (OutErr 5 w) := by
  have D := Lib.hid (div_zero_pf A A2 c c2 a b w hr hw hl hc hr2 hw2 hl2 hc2 h0)
  clear h0
  go_enter Try.func59, Try.ntmps59
  go_wp2_with fail
  refine (D.out).mono ?_
  rintro e w1 ⟨X, d, Y, f, rfl, b1⟩
  go_wp2_with fail
  go_ret2
  exact ⟨Y, f, rfl, b1⟩
set_option maxHeartbeats 1000000 in
theorem mod_ok_pf (h0 : natOf b ≠ 0) : Calls Try.prog 59 #[.slice A a.length c, .slice A2 b.length c2] w (OutMod (natOf a) (natOf b) w) := by
  have D := Lib.hid (div_ok_pf A A2 c c2 a b w hr hw hl hc hr2 hw2 hl2 hc2 h0)
  clear h0
  go_enter Try.func59, Try.ntmps59
  go_wp2_with fail
  refine (D.out).mono ?_
  rintro e w1 ⟨X, q, d, Y, r, f, rfl, hX, hY, b1⟩
  go_wp2_with fail
  go_ret2
  exact ⟨Y, r, f, rfl, hY, b1⟩
end
end Go.Proofs.Ytjpfcdgaepdcdaa
/- div's contracts, as laws use them. Conditions: as typed (lengths that fit a machine, a capacity that is not below its length). -/
namespace Go.Proofs.Ytjpfcdgaepdcdaa
open Go.RowKit
set_option maxRecDepth 20000
section
variable (A A2 : Option Addr) (c c2 : Nat) (a b : List Nat) (w : World) (hr : Rd .u64 w w.heap.size A a) (hw : Words a) (hl : a.length ≤ 10000) (hc : a.length ≤ c) (hr2 : Rd .u64 w w.heap.size A2 b) (hw2 : Words b) (hl2 : b.length ≤ 10000) (hc2 : b.length ≤ c2)
include hr hw hl hc
theorem divWord_ok (x : Nat) (hx : 0 < x) (hx2 : x < 18446744073709551616) : Calls Try.prog 54 #[.slice A a.length c, .int .u64 x] w (OutWord (natOf a) x w) := divWord_ok_pf A a.length c x a w rfl hr hw hl hc hx hx2
include hr2 hw2 hl2 hc2
theorem divDiv_ok (h0 : natOf b ≠ 0) : Calls Try.prog 48 #[.slice A a.length c, .slice A2 b.length c2] w (OutDiv (natOf a) (natOf b) w) := div_ok_pf A A2 c c2 a b w hr hw hl hc hr2 hw2 hl2 hc2 h0
theorem divMod_zero (h0 : natOf b = 0) : Calls Try.prog 59 #[.slice A a.length c, .slice A2 b.length c2] w (OutErr 5 w) := mod_zero_pf A A2 c c2 a b w hr hw hl hc hr2 hw2 hl2 hc2 h0
theorem divMod_ok (h0 : natOf b ≠ 0) : Calls Try.prog 59 #[.slice A a.length c, .slice A2 b.length c2] w (OutMod (natOf a) (natOf b) w) := mod_ok_pf A A2 c c2 a b w hr hw hl hc hr2 hw2 hl2 hc2 h0
end
end Go.Proofs.Ytjpfcdgaepdcdaa
/- div's contracts in the form that laws use. Conditions: as typed. -/
namespace Go.Proofs.Ytjpfcdgaepdcdaa
open Go.RowKit
set_option maxRecDepth 20000
section
variable {w : World} {A A2 : Option Addr} {n m c c2 M N : Nat}
theorem bDiv_ok (h : NatIn w A n c M) (k : NatIn w A2 m c2 N) (h0 : N ≠ 0) (hs : n ≤ 10000) (hs2 : m ≤ 10000) : Calls Try.prog 48 #[.slice A n c, .slice A2 m c2] w (OutDiv M N w) := by
  obtain ⟨l, rfl, rfl, h3, h4, h5, h6⟩ := h
  obtain ⟨l2, rfl, rfl, k3, k4, k5, k6⟩ := k
  exact divDiv_ok A A2 c c2 l l2 w h5 h3 hs h6 k5 k3 hs2 k6 h0
theorem bMod_zero (h : NatIn w A n c M) (k : NatIn w A2 m c2 N) (h0 : N = 0) (hs : n ≤ 10000) (hs2 : m ≤ 10000) : Calls Try.prog 59 #[.slice A n c, .slice A2 m c2] w (OutErr 5 w) := by
  obtain ⟨l, rfl, rfl, h3, h4, h5, h6⟩ := h
  obtain ⟨l2, rfl, rfl, k3, k4, k5, k6⟩ := k
  exact divMod_zero A A2 c c2 l l2 w h5 h3 hs h6 k5 k3 hs2 k6 h0
theorem bMod_ok (h : NatIn w A n c M) (k : NatIn w A2 m c2 N) (h0 : N ≠ 0) (hs : n ≤ 10000) (hs2 : m ≤ 10000) : Calls Try.prog 59 #[.slice A n c, .slice A2 m c2] w (OutMod M N w) := by
  obtain ⟨l, rfl, rfl, h3, h4, h5, h6⟩ := h
  obtain ⟨l2, rfl, rfl, k3, k4, k5, k6⟩ := k
  exact divMod_ok A A2 c c2 l l2 w h5 h3 hs h6 k5 k3 hs2 k6 h0
theorem bWord_ok (h : NatIn w A n c M) (hs : n ≤ 10000) (x : Nat) (hx : 0 < x) (hx2 : x < 18446744073709551616) : Calls Try.prog 54 #[.slice A n c, .int .u64 x] w (OutWord M x w) := by
  obtain ⟨l, rfl, rfl, h3, h4, h5, h6⟩ := h
  exact divWord_ok A c l w h5 h3 hs h6 x hx hx2
end
theorem below_made {w w' : World} {o : Obj} (h : Below (w.alloc o).heap.size (w.alloc o) w') : Below w.heap.size w w' := ((Below.refl _ w).alloc (Nat.le_refl _) o).trans (h.mono (by simp))
theorem OutDiv.made {M N : Nat} {w w' : World} {e : Ending} (o : Obj) (h : OutDiv M N (w.alloc o) e w') : OutDiv M N w e w' := by
  obtain ⟨X, q, d, Y, r, f, he, h1, h2, hb⟩ := h
  exact ⟨X, q, d, Y, r, f, he, h1, h2, below_made hb⟩
theorem OutErr3.made {x : Int} {w w' : World} {e : Ending} (o : Obj) (h : OutErr3 x (w.alloc o) e w') : OutErr3 x w e w' := by
  obtain ⟨X, d, Y, f, he, hb⟩ := h
  exact ⟨X, d, Y, f, he, below_made hb⟩
theorem bOf (w : World) (n : Nat) (hn : n < 18446744073709551616) : Calls Try.prog 29 #[.int .u64 (n : Int)] w (OutN n w) :=
  Calls.mono (natOf_any n w hn) fun _ _ h => h.out (by have := nbits_of_lt n 64 hn; omega)
theorem bWord_v {w : World} {A : Option Addr} {n c M : Nat} (h : NatIn w A n c M) (hs : n ≤ 10000) (x v : Nat) (hx : 0 < x) (hx2 : x < 18446744073709551616) (hv : v = M % x) : Calls Try.prog 54 #[.slice A n c, .int .u64 x] w fun e w' =>
    ∃ X q d, e = .returned (.tuple #[.slice X q d, .int .u64 (v : Int), .int .i64 0]) ∧ NatIs w' X q d (M / x) ∧ Below w.heap.size w w' := by
  subst hv
  exact bWord_ok h hs x hx hx2
/-! The examples -/
end Go.Proofs.Ytjpfcdgaepdcdaa

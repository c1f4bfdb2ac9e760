/- The contracts of nat's Bits, Bit, mayShift, parts, and of cmp.Compare at int and uint64. Conditions: as typed (lengths that fit a machine). -/
import Derived.Test.YtjimnepjheppgaaNatT1
import Derived.Test.YtjimnepjheppgaaShelf
namespace Go.Proofs.Ytjimnepjheppgaa
open Go.RowKit
set_option maxRecDepth 20000

def cmpS (A B : Nat) : Int := if A < B then -1 else if B < A then 1 else 0
def shlS (A : Nat) (k : Int) : Nat := if 0 ≤ k ∧ k ≤ 65536 then 2 ^ k.toNat * A else 0
def shrS (A : Nat) (k : Int) : Nat := if 0 ≤ k ∧ k ≤ 65536 then A / 2 ^ k.toNat else 0
def bitS (A : Nat) (i : Int) : Nat := if i < 0 then 0 else bit A i.toNat
/-- A difference, or nothing. -/
def OutSub (A B : Nat) (w : World) (e : Ending) (w' : World) : Prop :=
  (B ≤ A → ∃ v, e = .returned (.tuple #[v, .bool true]) ∧ w'.ownsRow w.heap.size 24 1 v ((nbits (A - B) + 63) / 64) (ints .u64 (wd (A - B)))) ∧
  (A < B → ∃ X d, e = .returned (.tuple #[.slice X 0 d, .bool false])) ∧ Below w.heap.size w w'
/-- The bytes of a number are answered, in new memory. -/
def OutBytes (N : Nat) (w : World) (e : Ending) (w' : World) : Prop := ∃ v, e = .returned v ∧ w'.ownsRow w.heap.size 5 1 v (blen N) (ints .u8 (be (blen N) N)) ∧ Below w.heap.size w w'

/-- A number that an int may be, from above. -/
def MaxI (i : Int) : Prop := i ≤ 9223372036854775807
theorem maxI_wf {i : Int} (h : (Lit.int .i64 i).wf = true) : MaxI i := by
  have hx : -9223372036854775808 ≤ i ∧ i ≤ 9223372036854775807 := by simpa [Lit.wf, IntKind.min, IntKind.max, IntKind.signed, IntKind.bits] using h
  exact hx.2

set_option maxHeartbeats 400000 in
theorem bits_q (A : Option Addr) (c : Nat) (a : List Nat) (w : World) (B : Nat) (hr : Rd .u64 w B A a) (hw : Words a) (hl : a.length ≤ 1000000) (hc : a.length ≤ c) :
    Calls Try.prog 40 #[.slice A a.length c] w fun e w' => e = .returned (.int .i64 (nbits (natOf a))) ∧ w = w' := by
  have T := trimmed_any A c a w B hr hw hl hc
  have htl := tl_le a hw
  by_cases h0 : tl a = 0
  · have hn := Lib.hid (tl_zero a h0)
    rw [h0] at T
    have HT := Lib.hid T
    clear T h0
    go_enter Try.func40, Try.ntmps40
    go_wp2_with fail
    refine (HT.out).mono ?_
    rintro e w' ⟨rfl, rfl⟩
    go_wp2_with fail
    go_ret
    exact ⟨ret_num (by rw [hn.out, nbits_zero]; rfl), rfl⟩
  · obtain ⟨m, hm⟩ : ∃ m, tl a = m + 1 := ⟨tl a - 1, by omega⟩
    have hN := nbits_hit_word a hw (by omega)
    rw [hm, Nat.add_sub_cancel] at hN
    rw [hm] at T htl
    obtain ⟨b, off, rfl, hbB, hcell⟩ := hr (by omega)
    have hx := hcell m (by omega)
    have hxl := hw _ (nth_mem a m (by omega))
    have hbl := bitLen_le64 _ hxl
    have HN := Lib.hid hN
    have HT := Lib.hid T
    clear T h0 hm hN hcell
    have hb : ((m : Int) + 1 == 0) = false := by simp; omega
    go_enter Try.func40, Try.ntmps40
    go_wp2_with fail
    refine (HT.out).mono ?_
    rintro e w' ⟨rfl, rfl⟩
    go_wp2_with fail
    refine (Try.bits_Len64 _ _ (by omega) (by omega)).mono ?_
    rintro e w' ⟨rfl, rfl⟩
    rw [Int.toNat_natCast]
    go_wp2_with fail
    go_ret
    exact ⟨ret_num (by rw [HN.out]; omega), rfl⟩

theorem mayShift_yes (k : Int) (w : World) (h0 : 0 ≤ k) (h1 : k ≤ 65536) : Calls Try.prog 60 #[.int .i64 k] w fun e w' => e = .returned (.bool true) ∧ w = w' := by
  go_enter Try.func60, Try.ntmps60
  go_wp2
  go_ret
  exact ⟨rfl, rfl⟩
theorem mayShift_no (k : Int) (w : World) (h : k < 0 ∨ 65536 < k) : Calls Try.prog 60 #[.int .i64 k] w fun e w' => e = .returned (.bool false) ∧ w = w' := by
  rcases h with h | h
  · go_enter Try.func60, Try.ntmps60
    go_wp2
    go_ret
    exact ⟨rfl, rfl⟩
  · have h0 : 0 ≤ k := by omega
    have h1 : ¬ k ≤ 65536 := by omega
    go_enter Try.func60, Try.ntmps60
    go_wp2
    go_ret
    exact ⟨rfl, rfl⟩

theorem parts_any (n s : Nat) (w : World) (hn : n ≤ 1000000000) (hs : 0 < s) (hs2 : s ≤ 1000) : Calls Try.prog 64 #[.int .i64 n, .int .i64 s] w fun e w' => e = .returned (.int .i64 ((n + s - 1) / s : Nat)) ∧ w = w' := by
  have hb : ((s : Int) == 0) = false := by simp; omega
  go_enter Try.func64, Try.ntmps64
  go_wp2
  go_ret
  exact ⟨ret_num (by rw [Int.natCast_ediv, Int.natCast_sub (by omega)]; rfl), rfl⟩

section
variable (A : Option Addr) (c : Nat) (a : List Nat) (w : World) (hr : Rd .u64 w w.heap.size A a) (hw : Words a) (hl : a.length ≤ 100000) (hc : a.length ≤ c)
include hr hw hl
end

theorem isNaN_int (x : Int) (w : World) : Calls Try.prog 51 #[.int .i64 x] w fun e w' => e = .returned (.bool false) ∧ w = w' := by
  go_enter Try.func51, Try.ntmps51
  go_wp2
  go_ret
  exact ⟨by simp, rfl⟩
theorem isNaN_u64 (x : Int) (w : World) : Calls Try.prog 52 #[.int .u64 x] w fun e w' => e = .returned (.bool false) ∧ w = w' := by
  go_enter Try.func52, Try.ntmps52
  go_wp2
  go_ret
  exact ⟨by simp, rfl⟩
theorem compare_int (x y : Nat) (w : World) : Calls Try.prog 32 #[.int .i64 x, .int .i64 y] w fun e w' => e = .returned (.int .i64 (cmpS x y)) ∧ w = w' := by
  rcases Nat.lt_trichotomy x y with h | h | h
  · have hv := Lib.hid (show cmpS x y = -1 by unfold cmpS; rw [if_pos h])
    go_enter Try.func32, Try.ntmps32
    go_wp2_with (go_at_call 51; refine (isNaN_int _ _).mono ?_; rintro e w' ⟨rfl, rfl⟩)
    go_ret
    exact ⟨ret_num (by rw [hv.out]), rfl⟩
  · subst h
    have hv := Lib.hid (show cmpS x x = 0 by simp [cmpS])
    go_enter Try.func32, Try.ntmps32
    go_wp2_with (go_at_call 51; refine (isNaN_int _ _).mono ?_; rintro e w' ⟨rfl, rfl⟩)
    go_ret
    exact ⟨ret_num (by rw [hv.out]), rfl⟩
  · have hv := Lib.hid (show cmpS x y = 1 by unfold cmpS; rw [if_neg (by omega), if_pos h])
    have h' : ¬ x < y := by omega
    go_enter Try.func32, Try.ntmps32
    go_wp2_with (go_at_call 51; refine (isNaN_int _ _).mono ?_; rintro e w' ⟨rfl, rfl⟩)
    go_ret
    exact ⟨ret_num (by rw [hv.out]), rfl⟩
theorem compare_u64 (x y : Nat) (w : World) : Calls Try.prog 33 #[.int .u64 x, .int .u64 y] w fun e w' => e = .returned (.int .i64 (cmpS x y)) ∧ w = w' := by
  rcases Nat.lt_trichotomy x y with h | h | h
  · have hv := Lib.hid (show cmpS x y = -1 by unfold cmpS; rw [if_pos h])
    go_enter Try.func33, Try.ntmps33
    go_wp2_with (go_at_call 52; refine (isNaN_u64 _ _).mono ?_; rintro e w' ⟨rfl, rfl⟩)
    go_ret
    exact ⟨ret_num (by rw [hv.out]), rfl⟩
  · subst h
    have hv := Lib.hid (show cmpS x x = 0 by simp [cmpS])
    go_enter Try.func33, Try.ntmps33
    go_wp2_with (go_at_call 52; refine (isNaN_u64 _ _).mono ?_; rintro e w' ⟨rfl, rfl⟩)
    go_ret
    exact ⟨ret_num (by rw [hv.out]), rfl⟩
  · have hv := Lib.hid (show cmpS x y = 1 by unfold cmpS; rw [if_neg (by omega), if_pos h])
    have h' : ¬ x < y := by omega
    go_enter Try.func33, Try.ntmps33
    go_wp2_with (go_at_call 52; refine (isNaN_u64 _ _).mono ?_; rintro e w' ⟨rfl, rfl⟩)
    go_ret
    exact ⟨ret_num (by rw [hv.out]), rfl⟩
end Go.Proofs.Ytjimnepjheppgaa

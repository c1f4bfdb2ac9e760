/- The contract of the document's Div of chapter 4, and words for what divisions answer. Conditions: as typed (lengths that fit a machine). -/
import Derived.Test.YtjimnepjheppgaaQuot
import Derived.Test.YtjimnepjheppgaaNatB
import Derived.Test.YtjimnepjheppgaaMulB
namespace Go.Proofs.Ytjimnepjheppgaa
open Go.RowKit
set_option maxRecDepth 20000

/-- Nothing twice, and an error's number. -/
def OutErr3 (x : Int) (w : World) (e : Ending) (w' : World) : Prop := ∃ X d Y f, e = .returned (.tuple #[.slice X 0 d, .slice Y 0 f, .int .i64 x]) ∧ Below w.heap.size w w'
/-- How often, and what is left. -/
def OutDiv (M N : Nat) (w : World) (e : Ending) (w' : World) : Prop := ∃ X q d Y r f, e = .returned (.tuple #[.slice X q d, .slice Y r f, .int .i64 0]) ∧ NatIs w' X q d (M / N) ∧ NatIs w' Y r f (M % N) ∧ Below w.heap.size w w'
/-- What is left. -/
def OutMod (M N : Nat) (w : World) (e : Ending) (w' : World) : Prop := ∃ Y r f, e = .returned (.tuple #[.slice Y r f, .int .i64 0]) ∧ NatIs w' Y r f (M % N) ∧ Below w.heap.size w w'
/-- How often one word goes into a number, and what is left. -/
def OutWord (M x : Nat) (w : World) (e : Ending) (w' : World) : Prop := ∃ X q d, e = .returned (.tuple #[.slice X q d, .int .u64 (M % x : Nat), .int .i64 0]) ∧ NatIs w' X q d (M / x) ∧ Below w.heap.size w w'
def OutWordE (w : World) (e : Ending) (w' : World) : Prop := ∃ X d, e = .returned (.tuple #[.slice X 0 d, .int .u64 0, .int .i64 5]) ∧ Below w.heap.size w w'

section
variable (A A2 : Option Addr) (c c2 : Nat) (a b : List Nat) (w : World) (hr : Rd .u64 w w.heap.size A a) (hw : Words a) (hl : a.length ≤ 10000) (hr2 : Rd .u64 w w.heap.size A2 b) (hw2 : Words b) (hl2 : b.length ≤ 10000)
include hr2 hw2 hl2
set_option maxHeartbeats 400000 in
theorem div04_zero (n : Nat) (h0 : natOf b = 0) : Calls Try.prog 11 #[.slice A n c, .slice A2 b.length c2] w (OutErr3 5 w) := by
  have D := digits_any A2 c2 b w hr2 hw2 (by omega)
  rw [h0] at D
  have HD := Lib.hid D
  clear D h0
  go_enter Try.func11, Try.ntmps11
  go_wp2_with fail
  refine (HD.out).mono ?_
  rintro e w1 ⟨X, d, rfl, hd, R1, b1⟩
  rw [nbits_zero]
  go_wp2_with fail
  go_ret3
  exact ⟨none, 0, none, 0, rfl, b1⟩
include hr hw hl
set_option maxHeartbeats 1000000 in
theorem div04_ok (h0 : natOf b ≠ 0) : Calls Try.prog 11 #[.slice A a.length c, .slice A2 b.length c2] w (OutDiv (natOf a) (natOf b) w) := by
  have hna := nbits_natOf a hw
  have hnb := nbits_natOf b hw2
  have hz := (nbits_iff (natOf b)).2 h0
  have hq := nbits_mono (Nat.div_le_self (natOf a) (natOf b))
  have hm := nbits_mono (Nat.mod_le (natOf a) (natOf b))
  have hb0 : ((nbits (natOf b) : Int) == 0) = false := by simp; omega
  have H0 := Lib.hid h0
  clear h0
  go_enter Try.func11, Try.ntmps11
  go_wp2_with fail
  refine (digits_any A2 c2 b w hr2 hw2 (by omega)).mono ?_
  rintro e w1 ⟨X, d, rfl, hd, R1, b1⟩
  have Q1 := rd_step hr b1
  go_wp2_with fail
  refine (digits_any A c a w1 Q1 hw (by omega)).mono ?_
  rintro e w2 ⟨Y, f, rfl, hf, R2, b2⟩
  have R1 := rd_step R1 b2
  have B2 := below_step b1 b2
  clear Q1 hr hr2
  go_wp2_with fail
  refine (quot02_any Y X f d (natOf a) (natOf b) w2 R2 R1 (by omega) (by omega) (by have := H0.out; omega)).mono ?_
  rintro e w3 ⟨Z, V, g, h, rfl, hg, hh, R3, R4, b3⟩
  have B3 := below_step B2 b3
  clear R1 R2
  go_wp2_with fail
  refine (wordsN_any Z g _ w3 R3 (by omega) hg).mono ?_
  rintro e w4 ⟨v4, rfl, own4, b4⟩
  obtain ⟨X4, d4, rfl, hd4, _⟩ := own_form own4
  have S4 : NatIs w4 X4 ((nbits (natOf a / natOf b) + 63) / 64) d4 (natOf a / natOf b) := ⟨length_wd _, by omega, Rd.own own4, hd4⟩
  have B4 := below_step B3 b4
  have R4 := rd_step R4 b4
  clear own4 R3
  go_wp2_with fail
  refine (wordsN_any V h _ w4 R4 (by omega) hh).mono ?_
  rintro e w5 ⟨v5, rfl, own5, b5⟩
  obtain ⟨X5, d5, rfl, hd5, _⟩ := own_form own5
  have S5 : NatIs w5 X5 ((nbits (natOf a % natOf b) + 63) / 64) d5 (natOf a % natOf b) := ⟨length_wd _, by omega, Rd.own own5, hd5⟩
  have B5 := below_step B4 b5
  have S4 := S4.step b5
  clear own5 R4
  go_wp2_with fail
  go_ret3
  exact ⟨X4, _, d4, X5, _, d5, rfl, S4, S5, B5⟩
end
end Go.Proofs.Ytjimnepjheppgaa

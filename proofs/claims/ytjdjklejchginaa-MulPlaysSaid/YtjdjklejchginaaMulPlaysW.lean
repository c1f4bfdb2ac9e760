/- MulPlays' walk: it answers true, and writes nothing that was there. No condition but what the arguments' types give. -/
import Derived.Test.YtjdjklejchginaaMulB
namespace Go.Proofs.Ytjdjklejchginaa
open Go.RowKit


set_option maxHeartbeats 1000000 in
set_option maxRecDepth 100000 in
theorem mulPlays_walk (A0 : Option Addr) (c0 : Nat) (l0 : List Nat) (A1 : Option Addr) (c1 : Nat) (l1 : List Nat) (w : World) (r0 : Rd .u64 w w.heap.size A0 l0) (y0 : Words l0) (_z0 : l0.length * 8 ≤ 140737488351232) (u0 : l0.length ≤ c0) (r1 : Rd .u64 w w.heap.size A1 l1) (y1 : Words l1) (_z1 : l1.length * 8 ≤ 140737488351232) (u1 : l1.length ≤ c1) :
    Calls Try.prog 3 #[.slice A0 l0.length c0, .slice A1 l1.length c1] w fun e w' => e = .returned (.bool true) ∧ Below w.heap.size w w' := by
  by_cases hv : 40 < l0.length
  · skip
    go_enter Try.func3, Try.ntmps3
    go_wp2_with fail
    refine (vast3_yes _ _ _ _ hv).mono ?_
    rintro e w1 ⟨rfl, rfl⟩
    go_wp2_with fail
    refine (mulWorks_any _).mono ?_
    rintro e w1 ⟨rfl, b1⟩
    have B1 := b1
    go_wp2_with fail
    go_ret
    exact ⟨rfl, B1⟩
  · by_cases hv1 : 40 < l1.length
    · skip
      go_enter Try.func3, Try.ntmps3
      go_wp2_with fail
      refine (vast3_no _ _ _ _ (by omega)).mono ?_
      rintro e w1 ⟨rfl, rfl⟩
      go_wp2_with fail
      refine (vast3_yes _ _ _ _ hv1).mono ?_
      rintro e w2 ⟨rfl, rfl⟩
      go_wp2_with fail
      refine (mulWorks_any _).mono ?_
      rintro e w1 ⟨rfl, b1⟩
      have B1 := b1
      go_wp2_with fail
      go_ret
      exact ⟨rfl, B1⟩
    · have P0 : RowIs w A0 l0.length c0 l0 := ⟨rfl, y0, by omega, r0, u0⟩
      have P1 : RowIs w A1 l1.length c1 l1 := ⟨rfl, y1, by omega, r1, u1⟩
      clear r0 y0 r1 y1
      go_enter Try.func3, Try.ntmps3
      go_wp2_with fail
      refine (vast3_no _ _ _ _ (by omega)).mono ?_
      rintro e w1 ⟨rfl, rfl⟩
      go_wp2_with fail
      refine (vast3_no _ _ _ _ (by omega)).mono ?_
      rintro e w2 ⟨rfl, rfl⟩
      go_wp2_with fail
      refine (bDigits (c := c0) P0.in_).mono ?_
      rintro e w1 ⟨X1, n1, d1, rfl, D1, b1⟩
      have B1 := b1
      have P0 := P0.step b1
      have P1 := P1.step b1
      go_wp2_with fail
      refine (bDigits (c := c1) P1.in_).mono ?_
      rintro e w2 ⟨X2, n2, d2, rfl, D2, b2⟩
      have B2 := below_step B1 b2
      have P0 := P0.step b2
      have P1 := P1.step b2
      have D1 := D1.step b2
      go_wp2_with fail
      refine (bCopy (c := c0) P0).mono ?_
      rintro e w3 ⟨X3, d3, rfl, P3, b3⟩
      have B3 := below_step B2 b3
      have P0 := P0.step b3
      have P1 := P1.step b3
      have D1 := D1.step b3
      have D2 := D2.step b3
      go_wp2_with fail
      refine (bCopy (c := c1) P1).mono ?_
      rintro e w4 ⟨X4, d4, rfl, P4, b4⟩
      have B4 := below_step B3 b4
      have P0 := P0.step b4
      have P1 := P1.step b4
      have D1 := D1.step b4
      have D2 := D2.step b4
      have P3 := P3.step b4
      go_wp2_with fail
      refine (bMul (c := d3) (c2 := d4) P3.in_ P4.in_ (by omega) (by omega)).mono ?_
      rintro e w5 ⟨X5, q5, d5, rfl, S5, _, b5⟩
      have B5 := below_step B4 b5
      have P0 := P0.step b5
      have P1 := P1.step b5
      have D1 := D1.step b5
      have D2 := D2.step b5
      have P3 := P3.step b5
      have P4 := P4.step b5
      go_wp2_with fail
      refine (bSquare (c := d3) P3.in_ (by omega)).mono ?_
      rintro e w6 ⟨X6, q6, d6, rfl, S6, _, b6⟩
      have B6 := below_step B5 b6
      have P0 := P0.step b6
      have P1 := P1.step b6
      have D1 := D1.step b6
      have D2 := D2.step b6
      have P3 := P3.step b6
      have P4 := P4.step b6
      have S5 := S5.step b6
      go_wp2_with fail
      refine (bTimes D1 D2 (by have h1 := D1.1; have h2 := P0.in_.bits; omega) (by have h1 := D2.1; have h2 := P1.in_.bits; omega)).mono ?_
      rintro e w7 ⟨X7, n7, d7, rfl, D7, b7⟩
      have B7 := below_step B6 b7
      have P0 := P0.step b7
      have P1 := P1.step b7
      have D1 := D1.step b7
      have D2 := D2.step b7
      have P3 := P3.step b7
      have P4 := P4.step b7
      have S5 := S5.step b7
      have S6 := S6.step b7
      go_wp2_with fail
      refine (bIs (c := d5) S5 D7).mono ?_
      rintro e w8 ⟨rfl, b8⟩
      have B8 := below_step B7 b8
      have P0 := P0.step b8
      have P1 := P1.step b8
      have D1 := D1.step b8
      have D2 := D2.step b8
      have P3 := P3.step b8
      have P4 := P4.step b8
      have S5 := S5.step b8
      have S6 := S6.step b8
      have D7 := D7.step b8
      clear S5 D7 D2
      go_wp2_with fail
      refine (bTimes D1 D1 (by have h1 := D1.1; have h2 := P0.in_.bits; omega) (by have h1 := D1.1; have h2 := P0.in_.bits; omega)).mono ?_
      rintro e w9 ⟨X9, n9, d9, rfl, D9, b9⟩
      have B9 := below_step B8 b9
      have P0 := P0.step b9
      have P1 := P1.step b9
      have D1 := D1.step b9
      have P3 := P3.step b9
      have P4 := P4.step b9
      have S6 := S6.step b9
      go_wp2_with fail
      refine (bIs (c := d6) S6 D9).mono ?_
      rintro e w10 ⟨rfl, b10⟩
      have B10 := below_step B9 b10
      have P0 := P0.step b10
      have P1 := P1.step b10
      have D1 := D1.step b10
      have P3 := P3.step b10
      have P4 := P4.step b10
      have S6 := S6.step b10
      have D9 := D9.step b10
      clear S6 D9 D1
      go_wp2_with fail
      refine (bSameRow (c := d3) (c2 := c0) P3 P0).mono ?_
      rintro e w11 ⟨rfl, b11⟩
      have B11 := below_step B10 b11
      have P0 := P0.step b11
      have P1 := P1.step b11
      have P3 := P3.step b11
      have P4 := P4.step b11
      go_wp2_with fail
      refine (bSameRow (c := d4) (c2 := c1) P4 P1).mono ?_
      rintro e w12 ⟨rfl, b12⟩
      have B12 := below_step B11 b12
      have P0 := P0.step b12
      have P1 := P1.step b12
      have P3 := P3.step b12
      have P4 := P4.step b12
      go_wp2_with fail
      refine (mulWorks_any _).mono ?_
      rintro e w13 ⟨rfl, b13⟩
      have B13 := below_step B12 b13
      go_wp2_with fail
      go_ret
      exact ⟨rfl, B13⟩

end Go.Proofs.Ytjdjklejchginaa

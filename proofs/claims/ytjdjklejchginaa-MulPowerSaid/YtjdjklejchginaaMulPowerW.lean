/- MulPower' walk: it answers true, and writes nothing that was there. No condition but what the arguments' types give. -/
import Derived.Test.YtjdjklejchginaaMulB
namespace Go.Proofs.Ytjdjklejchginaa
open Go.RowKit


set_option maxHeartbeats 1000000 in
set_option maxRecDepth 100000 in
theorem mulPower_walk (A0 : Option Addr) (c0 : Nat) (l0 : List Nat) (a1 : Int) (w : World) (r0 : Rd .u64 w w.heap.size A0 l0) (y0 : Words l0) (_z0 : l0.length * 8 ≤ 140737488351232) (u0 : l0.length ≤ c0) (w1 : (Lit.int .i64 a1).wf = true) :
    Calls Try.prog 6 #[.slice A0 l0.length c0, .int .i64 a1] w fun e w' => e = .returned (.bool true) ∧ Below w.heap.size w w' := by
  have hub0 : MaxI a1 := maxI_wf w1
  by_cases hv : 6 < l0.length
  · have hvd : decide (6 < (l0.length : Int)) = true := by simp; omega
    go_enter Try.func6, Try.ntmps6
    go_wp2_with fail
    refine (mulWorks_any _).mono ?_
    rintro e w1 ⟨rfl, b1⟩
    have B1 := b1
    go_wp2_with fail
    go_ret
    exact ⟨rfl, B1⟩
  · have hvd : decide (6 < (l0.length : Int)) = false := by simp; omega
    have P0 : RowIs w A0 l0.length c0 l0 := ⟨rfl, y0, by omega, r0, u0⟩
    clear r0 y0
    by_cases hk : a1 < 0
    · have hn1 : ¬ (60 : Int) < a1 := by omega
      have hn2 : decide ((60 : Int) < a1) = false := by simp; omega
      go_enter Try.func6, Try.ntmps6
      go_wp2_with fail
      refine (bPow_neg P0 (by omega) a1 hk).mono ?_
      rintro e w1 ⟨X1, d1, rfl, b1⟩
      have B1 := b1
      have P0 := P0.step b1
      go_wp2_with fail
      refine (bPow3_neg P0 a1 hk).mono ?_
      rintro e w2 ⟨X2, d2, rfl, b2⟩
      have B2 := below_step B1 b2
      have P0 := P0.step b2
      go_wp2_with fail
      refine (same_none _ _ _ _ _).mono ?_
      rintro e w3 ⟨rfl, b3⟩
      have B3 := below_step B2 b3
      have P0 := P0.step b3
      go_wp2_with fail
      refine (mulWorks_any _).mono ?_
      rintro e w4 ⟨rfl, b4⟩
      have B4 := below_step B3 b4
      go_wp2_with fail
      go_ret
      exact ⟨rfl, B4⟩

    · obtain ⟨k, rfl⟩ := Int.eq_ofNat_of_zero_le (show 0 ≤ a1 by omega)
      have hub : MaxI (k : Int) := hub0
      clear hub0 w1 hk
      have nb := P0.in_.bits
      by_cases h60 : k ≤ 60
      · have hn2 : decide ((60 : Int) < (k : Int)) = false := by simp; omega
        have hkb := Lib.hid (show k * nbits (natOf l0) ≤ 65536 from Nat.le_trans (Nat.mul_le_mul h60 nb) (by omega))
        clear nb
        go_enter Try.func6, Try.ntmps6
        go_wp2_with fail
        refine (bPow_ok P0 (by omega) k hkb.out hub).mono ?_
        rintro e w1 ⟨X1, q1, d1, rfl, S1, b1⟩
        have B1 := b1
        have P0 := P0.step b1
        go_wp2_with fail
        refine (bPow3_ok P0 (by omega) k hkb.out).mono ?_
        rintro e w2 ⟨X2, q2, d2, rfl, S2, b2⟩
        have B2 := below_step B1 b2
        have P0 := P0.step b2
        have S1 := S1.step b2
        go_wp2_with fail
        refine (bSame S1 S2).mono ?_
        rintro e w3 ⟨rfl, b3⟩
        have B3 := below_step B2 b3
        have P0 := P0.step b3
        have S1 := S1.step b3
        have S2 := S2.step b3
        clear S1 S2
        go_wp2_with fail
        refine (mulWorks_any _).mono ?_
        rintro e w4 ⟨rfl, b4⟩
        have B4 := below_step B3 b4
        go_wp2_with fail
        go_ret
        exact ⟨rfl, B4⟩

      · have hn2 : decide ((60 : Int) < (k : Int)) = true := by simp; omega
        by_cases hbig : k ≤ 131072
        · have hn3 : decide ((k : Int) ≤ 131072) = true := by simp; omega
          clear nb
          go_enter Try.func6, Try.ntmps6
          go_wp2_with fail
          refine (mulWorks_any _).mono ?_
          rintro e w1 ⟨rfl, b1⟩
          have B1 := b1
          go_wp2_with fail
          go_ret
          exact ⟨rfl, B1⟩
        · have hn3 : decide ((k : Int) ≤ 131072) = false := by simp; omega
          have hk : 131072 < k := by omega
          by_cases h0 : natOf l0 = 0
          · have hkb := Lib.hid (show k * nbits (natOf l0) ≤ 65536 by rw [h0, nbits_zero]; omega)
            clear nb h0
            go_enter Try.func6, Try.ntmps6
            go_wp2_with fail
            refine (bPow_ok P0 (by omega) k hkb.out hub).mono ?_
            rintro e w1 ⟨X1, q1, d1, rfl, S1, b1⟩
            have B1 := b1
            have P0 := P0.step b1
            go_wp2_with fail
            refine (bPow3_ok P0 (by omega) k hkb.out).mono ?_
            rintro e w2 ⟨X2, q2, d2, rfl, S2, b2⟩
            have B2 := below_step B1 b2
            have P0 := P0.step b2
            have S1 := S1.step b2
            go_wp2_with fail
            refine (bSame S1 S2).mono ?_
            rintro e w3 ⟨rfl, b3⟩
            have B3 := below_step B2 b3
            have P0 := P0.step b3
            have S1 := S1.step b3
            have S2 := S2.step b3
            clear S1 S2
            go_wp2_with fail
            refine (mulWorks_any _).mono ?_
            rintro e w4 ⟨rfl, b4⟩
            have B4 := below_step B3 b4
            go_wp2_with fail
            go_ret
            exact ⟨rfl, B4⟩

          · clear nb
            go_enter Try.func6, Try.ntmps6
            go_wp2_with fail
            refine (bPow_many P0 (by omega) k hk h0 hub).mono ?_
            rintro e w1 ⟨X1, d1, rfl, b1⟩
            have B1 := b1
            have P0 := P0.step b1
            go_wp2_with fail
            refine (bPow3_many P0 (by omega) k hk h0).mono ?_
            rintro e w2 ⟨X2, d2, rfl, b2⟩
            have B2 := below_step B1 b2
            have P0 := P0.step b2
            go_wp2_with fail
            refine (same_none _ _ _ _ _).mono ?_
            rintro e w3 ⟨rfl, b3⟩
            have B3 := below_step B2 b3
            have P0 := P0.step b3
            go_wp2_with fail
            refine (mulWorks_any _).mono ?_
            rintro e w4 ⟨rfl, b4⟩
            have B4 := below_step B3 b4
            go_wp2_with fail
            go_ret
            exact ⟨rfl, B4⟩

end Go.Proofs.Ytjdjklejchginaa

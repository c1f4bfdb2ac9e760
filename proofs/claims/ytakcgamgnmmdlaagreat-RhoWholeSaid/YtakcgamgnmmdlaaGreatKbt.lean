/- Several texts in one; each begins with a remark that says what it shows and on which conditions. -/
import Derived.Test.YtakcgamgnmmdlaaGreatKbs
/- RhoWhole' walk: it answers true, and writes nothing that was there. No condition but what the arguments' types give. -/
namespace Go.Proofs.YtakcgamgnmmdlaaGreat
open Go.RowKit
set_option maxRecDepth 20000
set_option maxHeartbeats 4000000 in
theorem rhoWhole_walk (A0 : Option Addr) (c0 : Nat) (l0 : List Nat) (a1 : Int) (A2 : Option Addr) (c2 : Nat) (l2 : List Nat) (w : World) (r0 : Rd .u16 w w.heap.size A0 l0) (y0 : ∀ x ∈ l0, x < 65536) (_z0 : l0.length * 2 ≤ 140737488351232) (_u0 : l0.length ≤ c0) (w1 : (Lit.int .u64 a1).wf = true) (r2 : Rd .u64 w w.heap.size A2 l2) (y2 : Words l2) (_z2 : l2.length * 8 ≤ 140737488351232) (u2 : l2.length ≤ c2) (hL : LaidR w) :
    Calls Tryz.prog 5 #[.slice A0 l0.length c0, .int .u64 a1, .slice A2 l2.length c2] w fun e w' => e = .returned (.bool true) ∧ Below w.heap.size w w' := by
  have HLd := Lib.hid hL
  clear hL
  have ha1 : 0 ≤ a1 ∧ a1 ≤ 18446744073709551615 := by simpa [Lit.wf, IntKind.min, IntKind.max, IntKind.signed, IntKind.bits] using w1
  obtain ⟨N, rfl⟩ : ∃ x : Nat, a1 = (x : Int) := ⟨a1.toNat, by omega⟩
  clear w1
  by_cases v0 : 30 < l2.length
  · skip
    have g0 : decide ((30 : Int) < (l2.length : Int)) = true := by simp; omega
    go_enter Tryz.func5, Tryz.ntmps5
    go_wp2_with fail
    refine (rhoWorks_any _ HLd.out).mono ?_
    rintro e w1 ⟨rfl, b1⟩
    have B1 := b1
    go_wp2_with fail
    go_ret
    exact ⟨rfl, B1⟩
  · have g0 : decide ((30 : Int) < (l2.length : Int)) = false := by simp; omega
    have P2 : RowIs w A2 l2.length c2 l2 := ⟨rfl, y2, by omega, r2, u2⟩
    clear r2 y2
    by_cases v1 : 4 < l0.length
    · skip
      have g1 : decide ((4 : Int) < (l0.length : Int)) = true := by simp; omega
      go_enter Tryz.func5, Tryz.ntmps5
      go_wp2_with fail
      refine (rhoWorks_any _ HLd.out).mono ?_
      rintro e w1 ⟨rfl, b1⟩
      have B1 := b1
      go_wp2_with fail
      go_ret
      exact ⟨rfl, B1⟩
    · have g1 : decide ((4 : Int) < (l0.length : Int)) = false := by simp; omega
      by_cases v2 : 4611686018427387904 ≤ N
      · skip
        have g2 : decide ((4611686018427387904 : Int) ≤ (N : Int)) = true := by simp; omega
        go_enter Tryz.func5, Tryz.ntmps5
        go_wp2_with fail
        refine (rhoWorks_any _ HLd.out).mono ?_
        rintro e w1 ⟨rfl, b1⟩
        have B1 := b1
        go_wp2_with fail
        go_ret
        exact ⟨rfl, B1⟩
      · have g2 : decide ((4611686018427387904 : Int) ≤ (N : Int)) = false := by simp; omega
        by_cases v3 : l0.length = 0
        · obtain ⟨k0, hk0⟩ : ∃ k0, l0.length = k0 := ⟨_, rfl⟩
          rw [hk0] at v3 ⊢
          subst v3
          clear hk0 v1 g1
          by_cases v4 : N = 0
          · skip
            have hn0 : ((N : Int) == 0) = true := by simp; omega
            go_enter Tryz.func5, Tryz.ntmps5
            go_wp2_with fail
            refine (rhoWorks_any _ HLd.out).mono ?_
            rintro e w1 ⟨rfl, b1⟩
            have B1 := b1
            go_wp2_with fail
            go_ret
            exact ⟨rfl, B1⟩
          · have hn0 : ((N : Int) == 0) = false := by simp; omega
            have hN0 : 0 < N := by omega
            clear v4
            exact rhoWhole_bare A0 c0 A2 c2 l2 N w HLd.out v0 (by omega) hN0 P2
        · exact rhoWhole_parts A0 c0 l0 A2 c2 l2 N w HLd.out v0 v1 v2 v3 y0 r0 P2
end Go.Proofs.YtakcgamgnmmdlaaGreat

/- Several texts in one; each begins with a remark that says what it shows and on which conditions. -/
import Derived.Test.YtakcgamgnmmdlaaGreatKbn
/- RhoFactors' walk: it answers true, and writes nothing that was there. No condition but what the arguments' types give. -/
namespace Go.Proofs.YtakcgamgnmmdlaaGreat
open Go.RowKit
set_option maxRecDepth 20000
theorem made_below10 (w : World) (o : Obj) : Below w.heap.size w (w.alloc o) := (Below.refl _ w).alloc (Nat.le_refl _) o
theorem refFactorsB (n : Nat) (h0 : 0 < n) (hn : n < 4294967296) (l : List Nat) (hl : IsFac n l) (k : Nat) (hk : l.length = k) (w : World) :
    Calls Tryz.prog 10 #[.int .u64 n] w fun e w' => ∃ X d, e = .returned (.slice X k d) ∧ RowIs w' X k d l ∧ Below w.heap.size w w' := by
  subst hk; exact refFactors n h0 hn l hl w
set_option maxHeartbeats 4000000 in
theorem rhoFactors_walk (a0 : Int) (A1 : Option Addr) (c1 : Nat) (l1 : List Nat) (w : World) (w0 : (Lit.int .u32 a0).wf = true) (r1 : Rd .u64 w w.heap.size A1 l1) (y1 : Words l1) (_z1 : l1.length * 8 ≤ 140737488351232) (u1 : l1.length ≤ c1) (hL : LaidR w) :
    Calls Tryz.prog 4 #[.int .u32 a0, .slice A1 l1.length c1] w fun e w' => e = .returned (.bool true) ∧ Below w.heap.size w w' := by
  have HLd := Lib.hid hL
  clear hL
  have ha0 : 0 ≤ a0 ∧ a0 ≤ 4294967295 := by simpa [Lit.wf, IntKind.min, IntKind.max, IntKind.signed, IntKind.bits] using w0
  obtain ⟨x, rfl⟩ : ∃ x : Nat, a0 = (x : Int) := ⟨a0.toNat, by omega⟩
  have hx : x < 4294967296 := by omega
  clear w0
  by_cases v0 : 100 < l1.length
  · skip
    have g0 : decide ((100 : Int) < (l1.length : Int)) = true := by simp; omega
    go_enter Tryz.func4, Tryz.ntmps4
    go_wp2_with fail
    refine (rhoWorks_any _ HLd.out).mono ?_
    rintro e w1 ⟨rfl, b1⟩
    have B1 := b1
    go_wp2_with fail
    go_ret
    exact ⟨rfl, B1⟩
  · have g0 : decide ((100 : Int) < (l1.length : Int)) = false := by simp; omega
    by_cases v1 : x = 0
    · skip
      have g1 : ((x : Int) == 0) = true := by simp; omega
      go_enter Tryz.func4, Tryz.ntmps4
      go_wp2_with fail
      refine (rhoWorks_any _ HLd.out).mono ?_
      rintro e w1 ⟨rfl, b1⟩
      have B1 := b1
      go_wp2_with fail
      go_ret
      exact ⟨rfl, B1⟩
    · have g1 : ((x : Int) == 0) = false := by simp; omega
      have hx0 : 0 < x := by omega
      have P1 : RowIs w A1 l1.length c1 l1 := ⟨rfl, y1, by omega, r1, u1⟩
      obtain ⟨l0, hl0⟩ := fac_some x hx0
      obtain ⟨k, hk⟩ : ∃ k, l0.length = k := ⟨_, rfl⟩
      have hkl : k < 32 := by rw [← hk]; exact prodN_len (fun p hp => (hl0.2.1 p hp).1) (by rw [hl0.1]; omega)
      have HF := Lib.hid hl0
      have HK := Lib.hid hk
      obtain ⟨i0, hi, hz0, hz1, hz2⟩ := info_parts num_info_u64
      clear hl0 hk r1 y1 v1
      go_enter Tryz.func4, Tryz.ntmps4
      have b0 := made_below10 w (.cells #[] 22)
      have Pa := P1.step b0
      go_wp2_with (at_builtin; refine wpList_append_rd _ rfl _ _ _ rfl w.heap.size 22 i0 _ 8 Tryz.underlying28 hi hz0 hz1 hz2 rfl (.slice (some ⟨w.heap.size, 0, none⟩) 0 0) 0 [] rfl ?c1 .u64 _ A1 l1.length c1 l1 rfl rfl Pa.2.2.2.1 ?c4 ?c5 ?c6 ?_)
      case c1 => exact own_of_heap (cur := []) (heap_alloc_new w (.cells #[] 22)) (Nat.le_refl _) (Nat.le_refl _) (Nat.zero_le _) rfl rfl
      case c4 => unfold maxLen; omega
      case c5 => omega
      case c6 => simp
      intro v1 wa own1 hg1
      have Ba : Below w.heap.size w wa := b0.grown hg1 (by simp) (by simp [Value.ownBlock])
      have own1' : wa.ownsRow w.heap.size 22 1 v1 l1.length (ints .u64 l1) := by simpa using own1
      obtain ⟨X0, d0, rfl, hd0, _⟩ := own_form own1'
      have R : RowIs wa X0 l1.length d0 l1 := ⟨rfl, P1.2.1, by omega, Rd.own own1', hd0⟩
      clear own1 own1' hg1 Pa P1 b0
      go_wp2_with fail
      refine (bFactors_small R (by omega) x l0 HF.out hx0 hx k HK.out (HLd.out.below Ba)).mono ?_
      rintro e w21 ⟨X1, d1, rfl, P1, b21⟩
      have B21 := below_step Ba b21
      have R := R.step b21
      clear R
      go_wp2_with fail
      refine (refFactorsB x hx0 hx l0 HF.out k HK.out _).mono ?_
      rintro e w22 ⟨X2, d2, rfl, P2, b22⟩
      have B22 := below_step B21 b22
      have P1 := P1.step b22
      go_wp2_with fail
      go_loopw [9] (fun iv wr => ∃ j : Nat, j ≤ k ∧ iv = .int .i64 j ∧ RowIs wr X1 k d1 l0 ∧ RowIs wr X2 k d2 l0 ∧ Below w.heap.size w wr) (fun iv _ => k - (intOf iv).toNat)
      case atStart => exact ⟨0, Nat.zero_le _, rfl, P1, P2, B22⟩
      case round =>
        clear P1 P2
        obtain ⟨j, hj, rfl, P1, P2, hB⟩ := hrel
        by_cases hlt : j < k
        · have glt : decide ((j : Int) < (k : Int)) = true := by simp; omega
          obtain ⟨g1, o1, rfl, hg1, hc1⟩ := rowIs_at10 P1 (by omega)
          obtain ⟨g2, o2, rfl, hg2, hc2⟩ := rowIs_at10 P2 (by omega)
          have e1 := hc1 j hlt
          have e2 := hc2 j hlt
          obtain ⟨y, hy⟩ : ∃ y, nth l0 j = y := ⟨_, rfl⟩
          rw [hy] at e1 e2
          clear hc1 hc2 hy
          go_wp2_with fail
          go_quiet (fail)
          go_wp2_with fail
          have PD := Lib.hid (show RowIs (wr.drewN nq) (some ⟨g1, o1, none⟩) k d1 l0 ∧ RowIs (wr.drewN nq) (some ⟨g2, o2, none⟩) k d2 l0 ∧ Below w.heap.size w (wr.drewN nq) from ⟨P1.step ((Drawn.more nq).below _), P2.step ((Drawn.more nq).below _), hB.trans ((Drawn.more nq).below _)⟩)
          go_roundw
          case rel => exact ⟨j + 1, by omega, by go_num, PD.out.1, PD.out.2.1, PD.out.2.2⟩
          case measure => simp [intOf]; omega
        · have glt : decide ((j : Int) < (k : Int)) = false := by simp; omega
          clear P1 P2
          go_wp2_with fail
          refine (rhoWorks_any _ (HLd.out.below hB)).mono ?_
          rintro e w41 ⟨rfl, b41⟩
          have B41 := below_step hB b41
          go_wp2_with fail
          go_ret
          exact ⟨rfl, B41⟩
end Go.Proofs.YtakcgamgnmmdlaaGreat

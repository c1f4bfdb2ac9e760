/- Several texts in one; each begins with a remark that says what it shows and on which conditions. -/
import Derived.Test.YtakcgamgnmmdlaaGreatKbr
/- RhoWhole where there are parts. Conditions: as typed. -/
namespace Go.Proofs.YtakcgamgnmmdlaaGreat
open Go.RowKit
set_option maxRecDepth 20000
set_option maxHeartbeats 8000000 in
set_option maxRecDepth 100000 in
theorem rhoWhole_parts (A0 : Option Addr) (c0 : Nat) (l0 : List Nat) (A2 : Option Addr) (c2 : Nat) (l2 : List Nat) (N : Nat) (w : World) (hL : LaidR w) (v0 : ¬ 30 < l2.length) (v1 : ¬ 4 < l0.length) (v2 : ¬ 4611686018427387904 ≤ N) (v3 : ¬ l0.length = 0) (y0 : ∀ x ∈ l0, x < 65536) (r0 : Rd .u16 w w.heap.size A0 l0) (P2 : RowIs w A2 l2.length c2 l2) :
    Calls Tryz.prog 5 #[.slice A0 l0.length c0, .int .u64 N, .slice A2 l2.length c2] w fun e w' => e = .returned (.bool true) ∧ Below w.heap.size w w' := by
  have HLd := Lib.hid hL
  clear hL
  have g0 : decide ((30 : Int) < (l2.length : Int)) = false := by simp; omega
  have g1 : decide ((4 : Int) < (l0.length : Int)) = false := by simp; omega
  have g2 : decide ((4611686018427387904 : Int) ≤ (N : Int)) = false := by simp; omega
  have g3 : decide ((0 : Int) < (l0.length : Int)) = true := by simp; omega
  have g5 : 0 < l0.length := by omega
  clear v2
  go_enter Tryz.func5, Tryz.ntmps5
  go_wp2_with fail
  go_loopw [1, 7] (fun nv iv wr => ∃ j M : Nat, j ≤ l0.length ∧ iv = .int .i64 j ∧ nv = .int .u64 M ∧ M ≤ 1152921504606846976 ∧ Hid (M = prodN (half10 (l0.take j))) ∧ RowIs wr A2 l2.length c2 l2 ∧ Rd .u16 wr w.heap.size A0 l0 ∧ Below w.heap.size w wr) (fun _ iv _ => l0.length - (intOf iv).toNat)
  case atStart => exact ⟨0, 1, Nat.zero_le _, rfl, rfl, by omega, Lib.hid (by simp [half10, prodN]), P2, r0, Below.refl _ _⟩
  case round =>
    clear P2 r0
    obtain ⟨j, M, hj, rfl, rfl, hM, hMe, P2, r0, hB⟩ := hrel
    by_cases hlt : j < l0.length
    · obtain ⟨g, o, rfl, hg, hc⟩ := r0 (by omega)
      obtain ⟨y, hy⟩ : ∃ y, nth l0 j = y := ⟨_, rfl⟩
      have e1 := hc j hlt
      rw [hy] at e1
      have hyl : y < 65536 := by rw [← hy]; exact y0 _ (nth_mem l0 j hlt)
      obtain ⟨h, hh⟩ : ∃ h, y / 2 = h := ⟨_, rfl⟩
      have hhI : (y : Int) / 2 = (h : Int) := by omega
      have hhT : (y : Int).tdiv 2 = (h : Int) := by rw [Int.tdiv_eq_ediv_of_nonneg (by omega)]; exact hhI
      have hhl : h < 32768 := by omega
      obtain ⟨M', hM'⟩ : ∃ M', M * (h + 1) = M' := ⟨_, rfl⟩
      have hMI : (M : Int) * ((h : Int) + 1) = (M' : Int) := by rw [← hM']; simp
      have HM := Lib.hid (show M' = prodN (half10 (l0.take (j + 1))) by rw [← hM', hMe.out, take_nth10 l0 j hlt, half10_append, prodN_append, hy, half10_one, prodN_one, hh])
      have hMl : M' ≤ 1152921504606846976 := by rw [HM.out]; exact half10_le _ (fun x hx => y0 x (List.mem_of_mem_take hx)) (by rw [List.length_take]; omega)
      clear hM' hMe hc hy hh
      go_wp2_with fail
      go_roundw
      case rel => exact ⟨j + 1, M', by omega, by go_num, rfl, hMl, HM, P2, r0, hB⟩
      case measure => simp [intOf]; omega
    · obtain rfl : j = l0.length := by omega
      have half_each := Lib.hid (half10_each l0 y0)
      rw [List.take_length] at hMe
      have hM0 : 0 < M := by rw [hMe.out]; exact half10_pos _ y0
      obtain ⟨N, rfl⟩ : ∃ N, N = M := ⟨_, rfl⟩
      have HP := hMe
      have hN0 := hM0
      have hn0 : ((N : Int) == 0) = false := by simp; omega
      clear hMe r0 hM0
      go_wp2_with fail
      refine (rhoFactors_any P2 (by omega) N hN0 (by omega) (HLd.out.below hB)).mono ?_
      rintro e w21 ⟨X, q, d, ls, rest, er, rfl, hT, P, b21⟩
      have B21 := below_step hB b21
      have P2 := P2.step b21
      clear P2
      have hql := hT.few (k := 62) hN0 (by omega)
      have hlen := P.1
      rw [hlen] at hql
      have HT := Lib.hid hT
      have hr0 : rest ≤ N := told_le hN0 hT
      have hends := hT.ends
      clear hT
      have hends1 : er = 0 ∧ rest = 1 := hends.resolve_right fun h => by
        have h1 := h.2.2.2.one half_each.out (by rw [← HP.out, ← HT.out.all]; exact Nat.dvd_mul_left _ _)
        omega
      have hE := Lib.hid hends1
      clear hends1
      clear hends
      go_wp2_with fail
      go_loopw [11, 12] (fun av iv wr => ∃ j A : Nat, j ≤ q ∧ iv = .int .i64 j ∧ av = .int .u64 A ∧ A ≤ N ∧ Hid (A = rest * prodN (ls.take j)) ∧ RowIs wr X q d ls ∧ Below w.heap.size w wr) (fun _ iv _ => q - (intOf iv).toNat)
      case atStart => exact ⟨0, rest, Nat.zero_le _, rfl, rfl, hr0, Lib.hid (by simp [prodN]), P, B21⟩
      case round =>
        clear P
        obtain ⟨j, A, hj, rfl, rfl, hA, hAe, P, hB⟩ := hrel
        by_cases hlt : j < q
        · obtain ⟨g, o, rfl, hg, hc⟩ := rowIs_at10 P (by omega)
          obtain ⟨y, hy⟩ : ∃ y, nth ls j = y := ⟨_, rfl⟩
          have e1 := hc j hlt
          rw [hy] at e1
          have hyl : y < 18446744073709551616 := by rw [← hy]; exact nth_lt ls P.2.1 j
          have HY := Lib.hid (show IsW y by rw [← hy]; exact HT.out.tested _ (nth_mem ls j (by omega)))
          obtain ⟨A', hA'⟩ : ∃ A', A * y = A' := ⟨_, rfl⟩
          have hAI : (A : Int) * (y : Int) = (A' : Int) := by rw [← hA']; simp
          have HA := Lib.hid (show A' = rest * prodN (ls.take (j + 1)) by rw [← hA', hAe.out, take_nth10 ls j (by omega), prodN_append, hy, prodN_one, Nat.mul_assoc])
          have hAl : A' ≤ N := by rw [HA.out]; exact told_take hN0 HT.out (j + 1)
          clear hA' hAe
          rcases Nat.eq_zero_or_pos j with hj0 | hj0
          · have hj1 : ¬ 0 < j := by omega
            clear hj0
            clear hc hy
            have HIS := Lib.hid fun u (h : LaidR u) => rhoIsW_any y hyl true (show FlagNo true (IsW y) from ⟨fun _ => HY.out, fun _ => rfl⟩) u h
            have bd : Below w.heap.size w wr.drew := hB.trans ((Drawn.more 1).below _)
            have P := P.step ((Drawn.more 1).below _)
            have hgd : g < wr.drew.heap.size := hg
            replace e1 : wr.drew.cell? ⟨g, o + j, none⟩ = some (.int .u64 (y : Int)) := e1
            clear hB hg HY
            go_wp2_with fail
            refine wp_region_any (by kernel_rfl) ?_
            change wpAny _ _ _ _ _ _ _ wr.drew
            refine wpAny_takeD (i := 0) (d := 62) (v := .slice (some ⟨g, o, none⟩) q d) rfl (by kernel_rfl) (by kernel_rfl) (by kernel_rfl) (by kernel_rfl) (fun _ _ _ h => h) (Or.inl ⟨by kernel_rfl, fun W => by go_simp⟩) ?_
            refine wpAny_takeD (i := 1) (d := 63) (v := .int .i64 (j : Int)) rfl (by kernel_rfl) (by kernel_rfl) (by kernel_rfl) (by kernel_rfl) (fun _ _ _ h => h) (Or.inl ⟨by kernel_rfl, fun W => by go_simp⟩) ?_
            refine wpAny_takeD (i := 2) (d := 64) (v := .pointer (some ⟨g, o + j, none⟩)) rfl (by kernel_rfl) (by kernel_rfl) (by kernel_rfl) (by kernel_rfl) (fun _ _ _ h => h) (Or.inl ⟨by kernel_rfl, fun W => by go_simp⟩) ?_
            refine wpAny_ready (rs := [3]) (by kernel_rfl) (by simp) (AllReady.cons rfl (fun K hK => ?_) AllReady.nil)
            go_simp
            refine hK _ _ ?_
            clear hK K
            refine wpAny_ready (rs := [4]) (by kernel_rfl) (by simp) (AllReady.cons rfl (fun K hK => ?_) AllReady.nil)
            go_simp
            refine (HIS.out _ (HLd.out.below bd)).mono ?_
            rintro e wi ⟨rfl, bi⟩
            replace bd := below_step bd bi
            replace P := P.step bi
            replace e1 := (bi.cell (p := ⟨g, o + j, none⟩) hgd).trans e1
            go_wp2_with fail
            refine wpAny_takeD (i := 5) (d := 67) (v := .bool false) rfl (by kernel_rfl) (by kernel_rfl) (by kernel_rfl) (by kernel_rfl) (fun _ _ _ h => h) (Or.inl ⟨by kernel_rfl, fun W => by go_simp⟩) ?_
            refine wpAny_takeD (i := 6) (d := 68) (v := .bool false) rfl (by kernel_rfl) (by kernel_rfl) (by kernel_rfl) (by kernel_rfl) (fun _ _ _ h => h) (Or.inl ⟨by kernel_rfl, fun W => by go_simp⟩) ?_
            refine wpAny_takeD (i := 7) (d := 69) (v := .int .i64 (j : Int)) rfl (by kernel_rfl) (by kernel_rfl) (by kernel_rfl) (by kernel_rfl) (fun _ _ _ h => h) (Or.inl ⟨by kernel_rfl, fun W => by go_simp⟩) ?_
            refine wpAny_takeD (i := 8) (d := 70) (v := .bool false) rfl (by kernel_rfl) (by kernel_rfl) (by kernel_rfl) (by kernel_rfl) (fun _ _ _ h => h) (Or.inl ⟨by kernel_rfl, fun W => by go_simp⟩) ?_
            refine wpAny_takeD (i := 9) (d := 71) (v := .bool false) rfl (by kernel_rfl) (by kernel_rfl) (by kernel_rfl) (by kernel_rfl) (fun _ _ _ h => h) (Or.inl ⟨by kernel_rfl, fun W => by go_simp⟩) ?_
            refine wpAny_takeD (i := 10) (d := 72) (v := undef) rfl (by kernel_rfl) (by kernel_rfl) (by kernel_rfl) (by kernel_rfl) (fun _ _ _ h => h) (Or.inr ⟨by kernel_rfl, rfl⟩) ?_
            refine wpAny_takeD (i := 11) (d := 73) (v := undef) rfl (by kernel_rfl) (by kernel_rfl) (by kernel_rfl) (by kernel_rfl) (fun _ _ _ h => h) (Or.inr ⟨by kernel_rfl, rfl⟩) ?_
            refine wpAny_takeD (i := 12) (d := 74) (v := undef) rfl (by kernel_rfl) (by kernel_rfl) (by kernel_rfl) (by kernel_rfl) (fun _ _ _ h => h) (Or.inr ⟨by kernel_rfl, rfl⟩) ?_
            refine wpAny_takeD (i := 13) (d := 75) (v := undef) rfl (by kernel_rfl) (by kernel_rfl) (by kernel_rfl) (by kernel_rfl) (fun _ _ _ h => h) (Or.inr ⟨by kernel_rfl, rfl⟩) ?_
            refine wpAny_takeD (i := 14) (d := 76) (v := undef) rfl (by kernel_rfl) (by kernel_rfl) (by kernel_rfl) (by kernel_rfl) (fun _ _ _ h => h) (Or.inr ⟨by kernel_rfl, rfl⟩) ?_
            refine wpAny_takeD (i := 15) (d := 77) (v := undef) rfl (by kernel_rfl) (by kernel_rfl) (by kernel_rfl) (by kernel_rfl) (fun _ _ _ h => h) (Or.inr ⟨by kernel_rfl, rfl⟩) ?_
            refine wpAny_takeD (i := 16) (d := 78) (v := undef) rfl (by kernel_rfl) (by kernel_rfl) (by kernel_rfl) (by kernel_rfl) (fun _ _ _ h => h) (Or.inr ⟨by kernel_rfl, rfl⟩) ?_
            refine wpAny_takeD (i := 17) (d := 79) (v := undef) rfl (by kernel_rfl) (by kernel_rfl) (by kernel_rfl) (by kernel_rfl) (fun _ _ _ h => h) (Or.inr ⟨by kernel_rfl, rfl⟩) ?_
            refine wpAny_takeD (i := 18) (d := 80) (v := undef) rfl (by kernel_rfl) (by kernel_rfl) (by kernel_rfl) (by kernel_rfl) (fun _ _ _ h => h) (Or.inr ⟨by kernel_rfl, rfl⟩) ?_
            refine wpAny_takeD (i := 19) (d := 81) (v := undef) rfl (by kernel_rfl) (by kernel_rfl) (by kernel_rfl) (by kernel_rfl) (fun _ _ _ h => h) (Or.inr ⟨by kernel_rfl, rfl⟩) ?_
            refine wpAny_takeD (i := 20) (d := 82) (v := .bool false) rfl (by kernel_rfl) (by kernel_rfl) (by kernel_rfl) (by kernel_rfl) (fun _ _ _ h => h) (Or.inl ⟨by kernel_rfl, fun W => by go_simp⟩) ?_
            refine wpAny_takeD (i := 21) (d := 83) (v := .bool false) rfl (by kernel_rfl) (by kernel_rfl) (by kernel_rfl) (by kernel_rfl) (fun _ _ _ h => h) (Or.inl ⟨by kernel_rfl, fun W => by go_simp⟩) ?_
            refine wpAny_done (by kernel_rfl) ?_ _
            have PD := Lib.hid (And.intro P bd)
            go_step
            go_simp
            go_wp2_with fail
            go_roundw
            case rel => exact ⟨j + 1, A', by omega, by go_num, rfl, hAl, HA, PD.out.1, PD.out.2⟩
            case measure => simp [intOf]; omega
          · obtain ⟨z, hz⟩ : ∃ z, nth ls (j - 1) = z := ⟨_, rfl⟩
            have e2 := hc (j - 1) (by omega)
            rw [hz] at e2
            have hzy : z ≤ y := by rw [← hz, ← hy]; exact rise_step10 HT.out.rise (by omega) (by omega)
            obtain ⟨p, hp⟩ : ∃ p, j - 1 = p := ⟨_, rfl⟩
            rw [hp] at e2
            have hjI : (j : Int) - 1 = (p : Int) := by omega
            have hpq : p < q := by omega
            have hpw : IntKind.i64.wrap (p : Int) = (p : Int) := by have := P.2.2.1; unfold IntKind.wrap; simp [IntKind.signed, IntKind.bits]; omega
            clear hz hp
            clear hc hy
            have HIS := Lib.hid fun u (h : LaidR u) => rhoIsW_any y hyl true (show FlagNo true (IsW y) from ⟨fun _ => HY.out, fun _ => rfl⟩) u h
            have bd : Below w.heap.size w wr.drew := hB.trans ((Drawn.more 1).below _)
            have P := P.step ((Drawn.more 1).below _)
            have hgd : g < wr.drew.heap.size := hg
            replace e1 : wr.drew.cell? ⟨g, o + j, none⟩ = some (.int .u64 (y : Int)) := e1
            replace e2 : wr.drew.cell? ⟨g, o + p, none⟩ = some (.int .u64 (z : Int)) := e2
            clear hB hg HY
            go_wp2_with fail
            refine wp_region_any (by kernel_rfl) ?_
            change wpAny _ _ _ _ _ _ _ wr.drew
            refine wpAny_takeD (i := 0) (d := 62) (v := .slice (some ⟨g, o, none⟩) q d) rfl (by kernel_rfl) (by kernel_rfl) (by kernel_rfl) (by kernel_rfl) (fun _ _ _ h => h) (Or.inl ⟨by kernel_rfl, fun W => by go_simp⟩) ?_
            refine wpAny_takeD (i := 1) (d := 63) (v := .int .i64 (j : Int)) rfl (by kernel_rfl) (by kernel_rfl) (by kernel_rfl) (by kernel_rfl) (fun _ _ _ h => h) (Or.inl ⟨by kernel_rfl, fun W => by go_simp⟩) ?_
            refine wpAny_takeD (i := 2) (d := 64) (v := .pointer (some ⟨g, o + j, none⟩)) rfl (by kernel_rfl) (by kernel_rfl) (by kernel_rfl) (by kernel_rfl) (fun _ _ _ h => h) (Or.inl ⟨by kernel_rfl, fun W => by go_simp⟩) ?_
            refine wpAny_ready (rs := [3]) (by kernel_rfl) (by simp) (AllReady.cons rfl (fun K hK => ?_) AllReady.nil)
            go_simp
            refine hK _ _ ?_
            clear hK K
            refine wpAny_ready (rs := [4]) (by kernel_rfl) (by simp) (AllReady.cons rfl (fun K hK => ?_) AllReady.nil)
            go_simp
            refine (HIS.out _ (HLd.out.below bd)).mono ?_
            rintro e wi ⟨rfl, bi⟩
            replace bd := below_step bd bi
            replace P := P.step bi
            replace e1 := (bi.cell (p := ⟨g, o + j, none⟩) hgd).trans e1
            replace e2 := (bi.cell (p := ⟨g, o + p, none⟩) hgd).trans e2
            go_wp2_with fail
            refine wpAny_takeD (i := 5) (d := 67) (v := .bool false) rfl (by kernel_rfl) (by kernel_rfl) (by kernel_rfl) (by kernel_rfl) (fun _ _ _ h => h) (Or.inl ⟨by kernel_rfl, fun W => by go_simp⟩) ?_
            refine wpAny_takeD (i := 6) (d := 68) (v := .bool false) rfl (by kernel_rfl) (by kernel_rfl) (by kernel_rfl) (by kernel_rfl) (fun _ _ _ h => h) (Or.inl ⟨by kernel_rfl, fun W => by go_simp⟩) ?_
            refine wpAny_takeD (i := 7) (d := 69) (v := .int .i64 (j : Int)) rfl (by kernel_rfl) (by kernel_rfl) (by kernel_rfl) (by kernel_rfl) (fun _ _ _ h => h) (Or.inl ⟨by kernel_rfl, fun W => by go_simp⟩) ?_
            refine wpAny_takeD (i := 8) (d := 70) (v := .bool true) rfl (by kernel_rfl) (by kernel_rfl) (by kernel_rfl) (by kernel_rfl) (fun _ _ _ h => h) (Or.inl ⟨by kernel_rfl, fun W => by go_simp⟩) ?_
            refine wpAny_takeD (i := 9) (d := 71) (v := .bool true) rfl (by kernel_rfl) (by kernel_rfl) (by kernel_rfl) (by kernel_rfl) (fun _ _ _ h => h) (Or.inl ⟨by kernel_rfl, fun W => by go_simp⟩) ?_
            refine wpAny_takeD (i := 10) (d := 72) (v := .slice (some ⟨g, o, none⟩) q d) rfl (by kernel_rfl) (by kernel_rfl) (by kernel_rfl) (by kernel_rfl) (fun _ _ _ h => h) (Or.inl ⟨by kernel_rfl, fun W => by go_simp⟩) ?_
            refine wpAny_takeD (i := 11) (d := 73) (v := .int .i64 (j : Int)) rfl (by kernel_rfl) (by kernel_rfl) (by kernel_rfl) (by kernel_rfl) (fun _ _ _ h => h) (Or.inl ⟨by kernel_rfl, fun W => by go_simp⟩) ?_
            refine wpAny_takeD (i := 12) (d := 74) (v := .int .i64 (p : Int)) rfl (by kernel_rfl) (by kernel_rfl) (by kernel_rfl) (by kernel_rfl) (fun _ _ _ h => h) (Or.inl ⟨by kernel_rfl, fun W => by go_simp⟩) ?_
            refine wpAny_takeD (i := 13) (d := 75) (v := .pointer (some ⟨g, o + p, none⟩)) rfl (by kernel_rfl) (by kernel_rfl) (by kernel_rfl) (by kernel_rfl) (fun _ _ _ h => h) (Or.inl ⟨by kernel_rfl, fun W => by go_simp⟩) ?_
            refine wpAny_takeD (i := 15) (d := 77) (v := .slice (some ⟨g, o, none⟩) q d) rfl (by kernel_rfl) (by kernel_rfl) (by kernel_rfl) (by kernel_rfl) (fun _ _ _ h => h) (Or.inl ⟨by kernel_rfl, fun W => by go_simp⟩) ?_
            refine wpAny_takeD (i := 16) (d := 78) (v := .int .i64 (j : Int)) rfl (by kernel_rfl) (by kernel_rfl) (by kernel_rfl) (by kernel_rfl) (fun _ _ _ h => h) (Or.inl ⟨by kernel_rfl, fun W => by go_simp⟩) ?_
            refine wpAny_takeD (i := 17) (d := 79) (v := .pointer (some ⟨g, o + j, none⟩)) rfl (by kernel_rfl) (by kernel_rfl) (by kernel_rfl) (by kernel_rfl) (fun _ _ _ h => h) (Or.inl ⟨by kernel_rfl, fun W => by go_simp⟩) ?_
            refine wpAny_ready (rs := [14, 18]) (by kernel_rfl) (by simp) (AllReady.cons rfl (fun K hK => ?_) (AllReady.cons rfl (fun K hK => ?_) AllReady.nil))
            · go_simp
              refine hK _ _ ?_
              clear hK K
              refine wpAny_ready (rs := [18]) (by kernel_rfl) (by simp) (AllReady.cons rfl (fun K hK => ?_) AllReady.nil)
              go_simp
              refine hK _ _ ?_
              clear hK K
              refine wpAny_takeD (i := 19) (d := 81) (v := .bool false) rfl (by kernel_rfl) (by kernel_rfl) (by kernel_rfl) (by kernel_rfl) (fun _ _ _ h => h) (Or.inl ⟨by kernel_rfl, fun W => by go_simp⟩) ?_
              refine wpAny_takeD (i := 20) (d := 82) (v := .bool false) rfl (by kernel_rfl) (by kernel_rfl) (by kernel_rfl) (by kernel_rfl) (fun _ _ _ h => h) (Or.inl ⟨by kernel_rfl, fun W => by go_simp⟩) ?_
              refine wpAny_takeD (i := 21) (d := 83) (v := .bool false) rfl (by kernel_rfl) (by kernel_rfl) (by kernel_rfl) (by kernel_rfl) (fun _ _ _ h => h) (Or.inl ⟨by kernel_rfl, fun W => by go_simp⟩) ?_
              refine wpAny_done (by kernel_rfl) ?_ _
              have PD := Lib.hid (And.intro P bd)
              go_step
              go_simp
              go_wp2_with fail
              go_roundw
              case rel => exact ⟨j + 1, A', by omega, by go_num, rfl, hAl, HA, PD.out.1, PD.out.2⟩
              case measure => simp [intOf]; omega
            · go_simp
              refine hK _ _ ?_
              clear hK K
              refine wpAny_ready (rs := [14]) (by kernel_rfl) (by simp) (AllReady.cons rfl (fun K hK => ?_) AllReady.nil)
              go_simp
              refine hK _ _ ?_
              clear hK K
              refine wpAny_takeD (i := 19) (d := 81) (v := .bool false) rfl (by kernel_rfl) (by kernel_rfl) (by kernel_rfl) (by kernel_rfl) (fun _ _ _ h => h) (Or.inl ⟨by kernel_rfl, fun W => by go_simp⟩) ?_
              refine wpAny_takeD (i := 20) (d := 82) (v := .bool false) rfl (by kernel_rfl) (by kernel_rfl) (by kernel_rfl) (by kernel_rfl) (fun _ _ _ h => h) (Or.inl ⟨by kernel_rfl, fun W => by go_simp⟩) ?_
              refine wpAny_takeD (i := 21) (d := 83) (v := .bool false) rfl (by kernel_rfl) (by kernel_rfl) (by kernel_rfl) (by kernel_rfl) (fun _ _ _ h => h) (Or.inl ⟨by kernel_rfl, fun W => by go_simp⟩) ?_
              refine wpAny_done (by kernel_rfl) ?_ _
              have PD := Lib.hid (And.intro P bd)
              go_step
              go_simp
              go_wp2_with fail
              go_roundw
              case rel => exact ⟨j + 1, A', by omega, by go_num, rfl, hAl, HA, PD.out.1, PD.out.2⟩
              case measure => simp [intOf]; omega
        · obtain rfl : j = q := by omega
          have hAN : A = N := by rw [hAe.out, Nat.mul_comm, ← HT.out.all]; rw [List.take_of_length_le (by omega)]
          subst hAN
          clear P
          obtain ⟨rfl, rfl⟩ := hE.out
          go_wp2_with fail
          refine (rhoWorks_any _ (HLd.out.below hB)).mono ?_
          rintro e w61 ⟨rfl, b61⟩
          have B61 := below_step hB b61
          go_wp2_with fail
          go_ret
          exact ⟨rfl, B61⟩
end Go.Proofs.YtakcgamgnmmdlaaGreat

/- Several texts in one; each begins with a remark that says what it shows and on which conditions. -/
import Derived.Test.YtakcgamgnmmdlaaGreatKbn
import Derived.Test.YtakcgamgnmmdlaaGreatKbq
/- RhoWhole' walk: it answers true, and writes nothing that was there. No condition but what the arguments' types give. -/
namespace Go.Proofs.YtakcgamgnmmdlaaGreat
open Go.RowKit
set_option maxRecDepth 20000
theorem take_nth10 (l : List Nat) (k : Nat) (h : k < l.length) : l.take (k + 1) = l.take k ++ [nth l k] := by
  rw [List.take_add_one, List.getElem?_eq_getElem h]
  simp [nth, h]
theorem told_le {N : Nat} {ls : List Nat} {rest er : Nat} (h0 : 0 < N) (h : Told10 IsW N ls rest er) : rest ≤ N := Nat.le_of_dvd h0 (by rw [← h.all]; exact Nat.dvd_mul_left _ _)
theorem told_take {N : Nat} {ls : List Nat} {rest er : Nat} (h0 : 0 < N) (h : Told10 IsW N ls rest er) (j : Nat) : rest * prodN (ls.take j) ≤ N := Nat.le_of_dvd h0 (by
  rw [← h.all, Nat.mul_comm]
  refine Nat.mul_dvd_mul_right ?_ _
  conv => rhs; rw [← List.take_append_drop j ls, prodN_append]
  exact Nat.dvd_mul_right _ _)
theorem wrap_succ10 {e : Nat} (h : e < 65536) : IntKind.u64.wrap ((e : Int) + 1) = (e : Int) + 1 := by unfold IntKind.wrap; simp [IntKind.signed, IntKind.bits]; omega
theorem rise_step10 {l : List Nat} (h : l.Pairwise (· ≤ ·)) {j : Nat} (hj : 0 < j) (hl : j < l.length) : nth l (j - 1) ≤ nth l j := by
  rw [nth_eq l (j - 1) (by omega), nth_eq l j hl]
  exact List.pairwise_iff_getElem.1 h (j - 1) j (by omega) hl (by omega)
/-- A flag tells whether something is so. -/
def FlagNo (b : Bool) (p : Prop) : Prop := b = true ↔ p
/-- What the law makes of its parts. -/
def half10 (l : List Nat) : List Nat := l.map fun x => x / 2 + 1
theorem half10_append (l m : List Nat) : half10 (l ++ m) = half10 l ++ half10 m := by simp [half10]
theorem half10_one (x : Nat) : half10 [x] = [x / 2 + 1] := rfl
theorem half10_each (l : List Nat) (h : ∀ x ∈ l, x < 65536) : ∀ x ∈ half10 l, 0 < x ∧ x < 65536 := fun x hx => by
  obtain ⟨y, hy, rfl⟩ := List.mem_map.1 hx
  have := h y hy
  omega
theorem half10_pow : ∀ l : List Nat, (∀ x ∈ l, x < 65536) → prodN (half10 l) ≤ 32768 ^ l.length := by
  intro l
  induction l with
  | nil => intro _; exact Nat.le_refl _
  | cons a l ih =>
    intro h
    have h1 := h a List.mem_cons_self
    have h2 := ih fun x hx => h x (List.mem_cons_of_mem _ hx)
    show (a / 2 + 1) * prodN (half10 l) ≤ 32768 ^ (l.length + 1)
    rw [Nat.pow_succ, Nat.mul_comm]
    exact Nat.mul_le_mul h2 (by omega)
theorem half10_le (l : List Nat) (h : ∀ x ∈ l, x < 65536) (hl : l.length ≤ 4) : prodN (half10 l) ≤ 1152921504606846976 :=
  Nat.le_trans (half10_pow l h) (Nat.le_trans (Nat.pow_le_pow_right (by omega) hl) (by omega))
theorem half10_pos : ∀ l : List Nat, (∀ x ∈ l, x < 65536) → 0 < prodN (half10 l) := by
  intro l
  induction l with
  | nil => intro _; exact Nat.one_pos
  | cons a l ih =>
    intro h
    show 0 < (a / 2 + 1) * prodN (half10 l)
    exact Nat.mul_pos (by omega) (ih fun x hx => h x (List.mem_cons_of_mem _ hx))
set_option maxHeartbeats 8000000 in
set_option maxRecDepth 100000 in
theorem rhoWhole_bare (A0 : Option Addr) (c0 : Nat) (A2 : Option Addr) (c2 : Nat) (l2 : List Nat) (N : Nat) (w : World) (hL : LaidR w) (v0 : ¬ 30 < l2.length) (hNl : N < 4611686018427387904) (hN0 : 0 < N) (P2 : RowIs w A2 l2.length c2 l2) :
    Calls Tryz.prog 5 #[.slice A0 0 c0, .int .u64 N, .slice A2 l2.length c2] w fun e w' => e = .returned (.bool true) ∧ Below w.heap.size w w' := by
  have HLd := Lib.hid hL
  clear hL
  have g0 : decide ((30 : Int) < (l2.length : Int)) = false := by simp; omega
  have g2 : decide ((4611686018427387904 : Int) ≤ (N : Int)) = false := by simp; omega
  have hn0 : ((N : Int) == 0) = false := by simp; omega
  go_enter Tryz.func5, Tryz.ntmps5
  go_wp2_with fail
  refine (rhoFactors_any P2 (by omega) N hN0 (by omega) HLd.out).mono ?_
  rintro e w1 ⟨X, q, d, ls, rest, er, rfl, hT, P, b1⟩
  have B1 := b1
  have P2 := P2.step b1
  clear P2
  have hql := hT.few (k := 62) hN0 (by omega)
  have hlen := P.1
  rw [hlen] at hql
  have HT := Lib.hid hT
  have hr0 : rest ≤ N := told_le hN0 hT
  have hends := hT.ends
  clear hT
  obtain ⟨he, hr⟩ : ∃ b : Bool, (b = true ∧ er = 0 ∧ rest = 1) ∨ (b = false ∧ er = 11 ∧ 1 < rest) := by
    rcases hends with ⟨h1, h2⟩ | ⟨h1, h2, _⟩
    · exact ⟨true, .inl ⟨rfl, h1, h2⟩⟩
    · exact ⟨false, .inr ⟨rfl, h1, h2⟩⟩
  clear hends
  go_wp2_with fail
  go_loopw [11, 12] (fun av iv wr => ∃ j A : Nat, j ≤ q ∧ iv = .int .i64 j ∧ av = .int .u64 A ∧ A ≤ N ∧ Hid (A = rest * prodN (ls.take j)) ∧ RowIs wr X q d ls ∧ Below w.heap.size w wr) (fun _ iv _ => q - (intOf iv).toNat)
  case atStart => exact ⟨0, rest, Nat.zero_le _, rfl, rfl, hr0, Lib.hid (by simp [prodN]), P, B1⟩
  case round =>
    clear P
    obtain ⟨j, A, hj, rfl, rfl, hA, hAe, P, hB⟩ := hrel
    by_cases hlt : j < q
    · obtain ⟨g, o, rfl, hg, hc⟩ := rowIs_at10 P (by omega)
      obtain ⟨y, hy⟩ : ∃ y, nth ls j = y := ⟨_, rfl⟩
      have e1 := hc j hlt
      rw [hy] at e1
      have hyl : y < 18446744073709551616 := by rw [← hy]; exact nth_lt ls P.2.1 j
      have HY := Lib.hid (show IsW y by rw [← hy]; exact HT.out.tested _ (nth_mem ls j (by omega)))
      obtain ⟨A', hA'⟩ : ∃ A', A * y = A' := ⟨_, rfl⟩
      have hAI : (A : Int) * (y : Int) = (A' : Int) := by rw [← hA']; simp
      have HA := Lib.hid (show A' = rest * prodN (ls.take (j + 1)) by rw [← hA', hAe.out, take_nth10 ls j (by omega), prodN_append, hy, prodN_one, Nat.mul_assoc])
      have hAl : A' ≤ N := by rw [HA.out]; exact told_take hN0 HT.out (j + 1)
      clear hA' hAe
      rcases Nat.eq_zero_or_pos j with hj0 | hj0
      · have hj1 : ¬ 0 < j := by omega
        clear hj0
        clear hc hy
        have HIS := Lib.hid fun u (h : LaidR u) => rhoIsW_any y hyl true (show FlagNo true (IsW y) from ⟨fun _ => HY.out, fun _ => rfl⟩) u h
        have bd : Below w.heap.size w wr.drew := hB.trans ((Drawn.more 1).below _)
        have P := P.step ((Drawn.more 1).below _)
        have hgd : g < wr.drew.heap.size := hg
        replace e1 : wr.drew.cell? ⟨g, o + j, none⟩ = some (.int .u64 (y : Int)) := e1
        clear hB hg HY
        go_wp2_with fail
        refine wp_region_any (by kernel_rfl) ?_
        change wpAny _ _ _ _ _ _ _ wr.drew
        refine wpAny_takeD (i := 0) (d := 62) (v := .slice (some ⟨g, o, none⟩) q d) rfl (by kernel_rfl) (by kernel_rfl) (by kernel_rfl) (by kernel_rfl) (fun _ _ _ h => h) (Or.inl ⟨by kernel_rfl, fun W => by go_simp⟩) ?_
        refine wpAny_takeD (i := 1) (d := 63) (v := .int .i64 (j : Int)) rfl (by kernel_rfl) (by kernel_rfl) (by kernel_rfl) (by kernel_rfl) (fun _ _ _ h => h) (Or.inl ⟨by kernel_rfl, fun W => by go_simp⟩) ?_
        refine wpAny_takeD (i := 2) (d := 64) (v := .pointer (some ⟨g, o + j, none⟩)) rfl (by kernel_rfl) (by kernel_rfl) (by kernel_rfl) (by kernel_rfl) (fun _ _ _ h => h) (Or.inl ⟨by kernel_rfl, fun W => by go_simp⟩) ?_
        refine wpAny_ready (rs := [3]) (by kernel_rfl) (by simp) (AllReady.cons rfl (fun K hK => ?_) AllReady.nil)
        go_simp
        refine hK _ _ ?_
        clear hK K
        refine wpAny_ready (rs := [4]) (by kernel_rfl) (by simp) (AllReady.cons rfl (fun K hK => ?_) AllReady.nil)
        go_simp
        refine (HIS.out _ (HLd.out.below bd)).mono ?_
        rintro e wi ⟨rfl, bi⟩
        replace bd := below_step bd bi
        replace P := P.step bi
        replace e1 := (bi.cell (p := ⟨g, o + j, none⟩) hgd).trans e1
        go_wp2_with fail
        refine wpAny_takeD (i := 5) (d := 67) (v := .bool false) rfl (by kernel_rfl) (by kernel_rfl) (by kernel_rfl) (by kernel_rfl) (fun _ _ _ h => h) (Or.inl ⟨by kernel_rfl, fun W => by go_simp⟩) ?_
        refine wpAny_takeD (i := 6) (d := 68) (v := .bool false) rfl (by kernel_rfl) (by kernel_rfl) (by kernel_rfl) (by kernel_rfl) (fun _ _ _ h => h) (Or.inl ⟨by kernel_rfl, fun W => by go_simp⟩) ?_
        refine wpAny_takeD (i := 7) (d := 69) (v := .int .i64 (j : Int)) rfl (by kernel_rfl) (by kernel_rfl) (by kernel_rfl) (by kernel_rfl) (fun _ _ _ h => h) (Or.inl ⟨by kernel_rfl, fun W => by go_simp⟩) ?_
        refine wpAny_takeD (i := 8) (d := 70) (v := .bool false) rfl (by kernel_rfl) (by kernel_rfl) (by kernel_rfl) (by kernel_rfl) (fun _ _ _ h => h) (Or.inl ⟨by kernel_rfl, fun W => by go_simp⟩) ?_
        refine wpAny_takeD (i := 9) (d := 71) (v := .bool false) rfl (by kernel_rfl) (by kernel_rfl) (by kernel_rfl) (by kernel_rfl) (fun _ _ _ h => h) (Or.inl ⟨by kernel_rfl, fun W => by go_simp⟩) ?_
        refine wpAny_takeD (i := 10) (d := 72) (v := undef) rfl (by kernel_rfl) (by kernel_rfl) (by kernel_rfl) (by kernel_rfl) (fun _ _ _ h => h) (Or.inr ⟨by kernel_rfl, rfl⟩) ?_
        refine wpAny_takeD (i := 11) (d := 73) (v := undef) rfl (by kernel_rfl) (by kernel_rfl) (by kernel_rfl) (by kernel_rfl) (fun _ _ _ h => h) (Or.inr ⟨by kernel_rfl, rfl⟩) ?_
        refine wpAny_takeD (i := 12) (d := 74) (v := undef) rfl (by kernel_rfl) (by kernel_rfl) (by kernel_rfl) (by kernel_rfl) (fun _ _ _ h => h) (Or.inr ⟨by kernel_rfl, rfl⟩) ?_
        refine wpAny_takeD (i := 13) (d := 75) (v := undef) rfl (by kernel_rfl) (by kernel_rfl) (by kernel_rfl) (by kernel_rfl) (fun _ _ _ h => h) (Or.inr ⟨by kernel_rfl, rfl⟩) ?_
        refine wpAny_takeD (i := 14) (d := 76) (v := undef) rfl (by kernel_rfl) (by kernel_rfl) (by kernel_rfl) (by kernel_rfl) (fun _ _ _ h => h) (Or.inr ⟨by kernel_rfl, rfl⟩) ?_
        refine wpAny_takeD (i := 15) (d := 77) (v := undef) rfl (by kernel_rfl) (by kernel_rfl) (by kernel_rfl) (by kernel_rfl) (fun _ _ _ h => h) (Or.inr ⟨by kernel_rfl, rfl⟩) ?_
        refine wpAny_takeD (i := 16) (d := 78) (v := undef) rfl (by kernel_rfl) (by kernel_rfl) (by kernel_rfl) (by kernel_rfl) (fun _ _ _ h => h) (Or.inr ⟨by kernel_rfl, rfl⟩) ?_
        refine wpAny_takeD (i := 17) (d := 79) (v := undef) rfl (by kernel_rfl) (by kernel_rfl) (by kernel_rfl) (by kernel_rfl) (fun _ _ _ h => h) (Or.inr ⟨by kernel_rfl, rfl⟩) ?_
        refine wpAny_takeD (i := 18) (d := 80) (v := undef) rfl (by kernel_rfl) (by kernel_rfl) (by kernel_rfl) (by kernel_rfl) (fun _ _ _ h => h) (Or.inr ⟨by kernel_rfl, rfl⟩) ?_
        refine wpAny_takeD (i := 19) (d := 81) (v := undef) rfl (by kernel_rfl) (by kernel_rfl) (by kernel_rfl) (by kernel_rfl) (fun _ _ _ h => h) (Or.inr ⟨by kernel_rfl, rfl⟩) ?_
        refine wpAny_takeD (i := 20) (d := 82) (v := .bool false) rfl (by kernel_rfl) (by kernel_rfl) (by kernel_rfl) (by kernel_rfl) (fun _ _ _ h => h) (Or.inl ⟨by kernel_rfl, fun W => by go_simp⟩) ?_
        refine wpAny_takeD (i := 21) (d := 83) (v := .bool false) rfl (by kernel_rfl) (by kernel_rfl) (by kernel_rfl) (by kernel_rfl) (fun _ _ _ h => h) (Or.inl ⟨by kernel_rfl, fun W => by go_simp⟩) ?_
        refine wpAny_done (by kernel_rfl) ?_ _
        have PD := Lib.hid (And.intro P bd)
        go_step
        go_simp
        go_wp2_with fail
        go_roundw
        case rel => exact ⟨j + 1, A', by omega, by go_num, rfl, hAl, HA, PD.out.1, PD.out.2⟩
        case measure => simp [intOf]; omega
      · obtain ⟨z, hz⟩ : ∃ z, nth ls (j - 1) = z := ⟨_, rfl⟩
        have e2 := hc (j - 1) (by omega)
        rw [hz] at e2
        have hzy : z ≤ y := by rw [← hz, ← hy]; exact rise_step10 HT.out.rise (by omega) (by omega)
        obtain ⟨p, hp⟩ : ∃ p, j - 1 = p := ⟨_, rfl⟩
        rw [hp] at e2
        have hjI : (j : Int) - 1 = (p : Int) := by omega
        have hpq : p < q := by omega
        have hpw : IntKind.i64.wrap (p : Int) = (p : Int) := by have := P.2.2.1; unfold IntKind.wrap; simp [IntKind.signed, IntKind.bits]; omega
        clear hz hp
        clear hc hy
        have HIS := Lib.hid fun u (h : LaidR u) => rhoIsW_any y hyl true (show FlagNo true (IsW y) from ⟨fun _ => HY.out, fun _ => rfl⟩) u h
        have bd : Below w.heap.size w wr.drew := hB.trans ((Drawn.more 1).below _)
        have P := P.step ((Drawn.more 1).below _)
        have hgd : g < wr.drew.heap.size := hg
        replace e1 : wr.drew.cell? ⟨g, o + j, none⟩ = some (.int .u64 (y : Int)) := e1
        replace e2 : wr.drew.cell? ⟨g, o + p, none⟩ = some (.int .u64 (z : Int)) := e2
        clear hB hg HY
        go_wp2_with fail
        refine wp_region_any (by kernel_rfl) ?_
        change wpAny _ _ _ _ _ _ _ wr.drew
        refine wpAny_takeD (i := 0) (d := 62) (v := .slice (some ⟨g, o, none⟩) q d) rfl (by kernel_rfl) (by kernel_rfl) (by kernel_rfl) (by kernel_rfl) (fun _ _ _ h => h) (Or.inl ⟨by kernel_rfl, fun W => by go_simp⟩) ?_
        refine wpAny_takeD (i := 1) (d := 63) (v := .int .i64 (j : Int)) rfl (by kernel_rfl) (by kernel_rfl) (by kernel_rfl) (by kernel_rfl) (fun _ _ _ h => h) (Or.inl ⟨by kernel_rfl, fun W => by go_simp⟩) ?_
        refine wpAny_takeD (i := 2) (d := 64) (v := .pointer (some ⟨g, o + j, none⟩)) rfl (by kernel_rfl) (by kernel_rfl) (by kernel_rfl) (by kernel_rfl) (fun _ _ _ h => h) (Or.inl ⟨by kernel_rfl, fun W => by go_simp⟩) ?_
        refine wpAny_ready (rs := [3]) (by kernel_rfl) (by simp) (AllReady.cons rfl (fun K hK => ?_) AllReady.nil)
        go_simp
        refine hK _ _ ?_
        clear hK K
        refine wpAny_ready (rs := [4]) (by kernel_rfl) (by simp) (AllReady.cons rfl (fun K hK => ?_) AllReady.nil)
        go_simp
        refine (HIS.out _ (HLd.out.below bd)).mono ?_
        rintro e wi ⟨rfl, bi⟩
        replace bd := below_step bd bi
        replace P := P.step bi
        replace e1 := (bi.cell (p := ⟨g, o + j, none⟩) hgd).trans e1
        replace e2 := (bi.cell (p := ⟨g, o + p, none⟩) hgd).trans e2
        go_wp2_with fail
        refine wpAny_takeD (i := 5) (d := 67) (v := .bool false) rfl (by kernel_rfl) (by kernel_rfl) (by kernel_rfl) (by kernel_rfl) (fun _ _ _ h => h) (Or.inl ⟨by kernel_rfl, fun W => by go_simp⟩) ?_
        refine wpAny_takeD (i := 6) (d := 68) (v := .bool false) rfl (by kernel_rfl) (by kernel_rfl) (by kernel_rfl) (by kernel_rfl) (fun _ _ _ h => h) (Or.inl ⟨by kernel_rfl, fun W => by go_simp⟩) ?_
        refine wpAny_takeD (i := 7) (d := 69) (v := .int .i64 (j : Int)) rfl (by kernel_rfl) (by kernel_rfl) (by kernel_rfl) (by kernel_rfl) (fun _ _ _ h => h) (Or.inl ⟨by kernel_rfl, fun W => by go_simp⟩) ?_
        refine wpAny_takeD (i := 8) (d := 70) (v := .bool true) rfl (by kernel_rfl) (by kernel_rfl) (by kernel_rfl) (by kernel_rfl) (fun _ _ _ h => h) (Or.inl ⟨by kernel_rfl, fun W => by go_simp⟩) ?_
        refine wpAny_takeD (i := 9) (d := 71) (v := .bool true) rfl (by kernel_rfl) (by kernel_rfl) (by kernel_rfl) (by kernel_rfl) (fun _ _ _ h => h) (Or.inl ⟨by kernel_rfl, fun W => by go_simp⟩) ?_
        refine wpAny_takeD (i := 10) (d := 72) (v := .slice (some ⟨g, o, none⟩) q d) rfl (by kernel_rfl) (by kernel_rfl) (by kernel_rfl) (by kernel_rfl) (fun _ _ _ h => h) (Or.inl ⟨by kernel_rfl, fun W => by go_simp⟩) ?_
        refine wpAny_takeD (i := 11) (d := 73) (v := .int .i64 (j : Int)) rfl (by kernel_rfl) (by kernel_rfl) (by kernel_rfl) (by kernel_rfl) (fun _ _ _ h => h) (Or.inl ⟨by kernel_rfl, fun W => by go_simp⟩) ?_
        refine wpAny_takeD (i := 12) (d := 74) (v := .int .i64 (p : Int)) rfl (by kernel_rfl) (by kernel_rfl) (by kernel_rfl) (by kernel_rfl) (fun _ _ _ h => h) (Or.inl ⟨by kernel_rfl, fun W => by go_simp⟩) ?_
        refine wpAny_takeD (i := 13) (d := 75) (v := .pointer (some ⟨g, o + p, none⟩)) rfl (by kernel_rfl) (by kernel_rfl) (by kernel_rfl) (by kernel_rfl) (fun _ _ _ h => h) (Or.inl ⟨by kernel_rfl, fun W => by go_simp⟩) ?_
        refine wpAny_takeD (i := 15) (d := 77) (v := .slice (some ⟨g, o, none⟩) q d) rfl (by kernel_rfl) (by kernel_rfl) (by kernel_rfl) (by kernel_rfl) (fun _ _ _ h => h) (Or.inl ⟨by kernel_rfl, fun W => by go_simp⟩) ?_
        refine wpAny_takeD (i := 16) (d := 78) (v := .int .i64 (j : Int)) rfl (by kernel_rfl) (by kernel_rfl) (by kernel_rfl) (by kernel_rfl) (fun _ _ _ h => h) (Or.inl ⟨by kernel_rfl, fun W => by go_simp⟩) ?_
        refine wpAny_takeD (i := 17) (d := 79) (v := .pointer (some ⟨g, o + j, none⟩)) rfl (by kernel_rfl) (by kernel_rfl) (by kernel_rfl) (by kernel_rfl) (fun _ _ _ h => h) (Or.inl ⟨by kernel_rfl, fun W => by go_simp⟩) ?_
        refine wpAny_ready (rs := [14, 18]) (by kernel_rfl) (by simp) (AllReady.cons rfl (fun K hK => ?_) (AllReady.cons rfl (fun K hK => ?_) AllReady.nil))
        · go_simp
          refine hK _ _ ?_
          clear hK K
          refine wpAny_ready (rs := [18]) (by kernel_rfl) (by simp) (AllReady.cons rfl (fun K hK => ?_) AllReady.nil)
          go_simp
          refine hK _ _ ?_
          clear hK K
          refine wpAny_takeD (i := 19) (d := 81) (v := .bool false) rfl (by kernel_rfl) (by kernel_rfl) (by kernel_rfl) (by kernel_rfl) (fun _ _ _ h => h) (Or.inl ⟨by kernel_rfl, fun W => by go_simp⟩) ?_
          refine wpAny_takeD (i := 20) (d := 82) (v := .bool false) rfl (by kernel_rfl) (by kernel_rfl) (by kernel_rfl) (by kernel_rfl) (fun _ _ _ h => h) (Or.inl ⟨by kernel_rfl, fun W => by go_simp⟩) ?_
          refine wpAny_takeD (i := 21) (d := 83) (v := .bool false) rfl (by kernel_rfl) (by kernel_rfl) (by kernel_rfl) (by kernel_rfl) (fun _ _ _ h => h) (Or.inl ⟨by kernel_rfl, fun W => by go_simp⟩) ?_
          refine wpAny_done (by kernel_rfl) ?_ _
          have PD := Lib.hid (And.intro P bd)
          go_step
          go_simp
          go_wp2_with fail
          go_roundw
          case rel => exact ⟨j + 1, A', by omega, by go_num, rfl, hAl, HA, PD.out.1, PD.out.2⟩
          case measure => simp [intOf]; omega
        · go_simp
          refine hK _ _ ?_
          clear hK K
          refine wpAny_ready (rs := [14]) (by kernel_rfl) (by simp) (AllReady.cons rfl (fun K hK => ?_) AllReady.nil)
          go_simp
          refine hK _ _ ?_
          clear hK K
          refine wpAny_takeD (i := 19) (d := 81) (v := .bool false) rfl (by kernel_rfl) (by kernel_rfl) (by kernel_rfl) (by kernel_rfl) (fun _ _ _ h => h) (Or.inl ⟨by kernel_rfl, fun W => by go_simp⟩) ?_
          refine wpAny_takeD (i := 20) (d := 82) (v := .bool false) rfl (by kernel_rfl) (by kernel_rfl) (by kernel_rfl) (by kernel_rfl) (fun _ _ _ h => h) (Or.inl ⟨by kernel_rfl, fun W => by go_simp⟩) ?_
          refine wpAny_takeD (i := 21) (d := 83) (v := .bool false) rfl (by kernel_rfl) (by kernel_rfl) (by kernel_rfl) (by kernel_rfl) (fun _ _ _ h => h) (Or.inl ⟨by kernel_rfl, fun W => by go_simp⟩) ?_
          refine wpAny_done (by kernel_rfl) ?_ _
          have PD := Lib.hid (And.intro P bd)
          go_step
          go_simp
          go_wp2_with fail
          go_roundw
          case rel => exact ⟨j + 1, A', by omega, by go_num, rfl, hAl, HA, PD.out.1, PD.out.2⟩
          case measure => simp [intOf]; omega
    · obtain rfl : j = q := by omega
      have hAN : A = N := by rw [hAe.out, Nat.mul_comm, ← HT.out.all]; rw [List.take_of_length_le (by omega)]
      subst hAN
      clear P
      rcases hr with ⟨rfl, rfl, rfl⟩ | ⟨rfl, rfl, hr1⟩
      · skip
        go_wp2_with fail
        refine (rhoWorks_any _ (HLd.out.below hB)).mono ?_
        rintro e w61 ⟨rfl, b61⟩
        have B61 := below_step hB b61
        go_wp2_with fail
        go_ret
        exact ⟨rfl, B61⟩
      · have hNB := HT.out.ends.elim (fun h => absurd h.2 (by omega)) fun h => h.2.2
        have HNB := Lib.hid hNB
        have HWr : Hid (FlagNo false (IsW rest)) := Lib.hid (show FlagNo false (IsW rest) from ⟨fun h => (by cases h), fun h => absurd h hNB.1⟩)
        have hr2 : ((rest : Int) == 1) = false := by simp; omega
        have hr3 := Lib.hid (show rest < 18446744073709551616 by omega)
        clear hNB hNl hr0 hA hN0 hj hlt hlen hql
        go_wp2_with fail
        go_loopw [13] (fun dv wx => ∃ e : Nat, 2 ≤ e ∧ e ≤ 65536 ∧ dv = .int .u64 e ∧ Below w.heap.size w wx) (fun dv _ => 65536 - (intOf dv).toNat)
        case atStart => exact ⟨2, by omega, by omega, rfl, hB⟩
        case round =>
          clear hB
          obtain ⟨e, he2, hel, rfl, hB⟩ := hrel
          by_cases hle : e < 65536
          · have he0 : ((e : Int) == 0) = false := by simp; omega
            have hz := HNB.out.2 e he2 hle
            obtain ⟨r, hrr⟩ : ∃ r, rest % e = r := ⟨_, rfl⟩
            have hrI := emod_nat10 hrr
            have hrT := tmod_nat10 hrr
            have hrl : r < 65536 := by rw [← hrr]; exact Nat.lt_trans (Nat.mod_lt _ (by omega)) hle
            have g4 : ((r : Int) == 0) = false := by simp; omega
            clear hrr
            have g5 : decide ((e : Int) < 65536) = true := by simp; omega
            have g6 : IntKind.u64.wrap ((e : Int) + 1) = (e : Int) + 1 := wrap_succ10 hle
            have hez : e ≠ 0 := by omega
            have HE := Lib.hid (And.intro he2 hle)
            clear hz hle hel he2
            go_wp2_with fail
            go_roundw
            case rel => have := HE.out; exact ⟨e + 1, by omega, by omega, by go_num, hB⟩
            case measure => have := HE.out; simp [intOf]; omega
          · obtain rfl : e = 65536 := by omega
            go_wp2_with fail
            refine (rhoIsW_any rest hr3.out false HWr.out _ (HLd.out.below hB)).mono ?_
            rintro e w81 ⟨rfl, b81⟩
            have B81 := below_step hB b81
            go_wp2_with fail
            refine (rhoWorks_any _ (HLd.out.below B81)).mono ?_
            rintro e w82 ⟨rfl, b82⟩
            have B82 := below_step B81 b82
            go_wp2_with fail
            go_ret
            exact ⟨rfl, B82⟩
end Go.Proofs.YtakcgamgnmmdlaaGreat

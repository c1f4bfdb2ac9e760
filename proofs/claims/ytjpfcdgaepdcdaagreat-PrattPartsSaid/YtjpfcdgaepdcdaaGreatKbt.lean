/- Several texts in one; each begins with a remark that says what it shows and on which conditions. -/
import Derived.Test.YtjpfcdgaepdcdaaGreatKbf
import Derived.Test.YtjpfcdgaepdcdaaGreatKbs
import Derived.Test.YtjpfcdgaepdcdaaGreatKbk
/- pratt.Build up to 2^40, what a taken certificate's first steps show, and PrattParts' own listed. Conditions: as typed. -/
namespace Go.Proofs.YtjpfcdgaepdcdaaGreat
open Go.RowKit
set_option maxRecDepth 20000
/-- A certificate's first steps show their last number. -/
theorem CheckW.part {lp : List Nat} {ss : List SRaw} (h : CheckW lp ss) {i : Nat} (hi : i < ss.length) : CheckW ss[i].P (ss.take (i + 1)) := by
  obtain ⟨_, h2, h3⟩ := h
  refine ⟨(h2 _ (List.getElem_mem hi)).1, fun s hs => h2 s (List.mem_of_mem_take hs), ?_⟩
  have h4 := h3.take (i := i) (by rw [List.length_map]; exact hi)
  rw [List.getElem_map] at h4
  rw [List.map_take]
  exact h4
/-- What some steps show is their last one's number. -/
theorem CheckW.isLast {p : Nat} (hp : p < 18446744073709551616) {ss : List SRaw} {i : Nat} (hi : i < ss.length) (h : CheckW (OneW p) (ss.take (i + 1))) : ss[i].P = OneW p := by
  obtain ⟨h1, h2, h3⟩ := h
  rw [List.map_take] at h3
  have h4 := CheckN.last (i := i) (by rw [List.length_map]; exact hi) h3
  rw [List.getElem_map] at h4
  have h5 : natOf ss[i].P = natOf (OneW p) := h4
  have hm : ss[i] ∈ ss.take (i + 1) := by rw [List.take_succ_eq_append_getElem hi]; exact List.mem_append_right _ List.mem_cons_self
  have h6 := (h2 _ hm).1.1
  have h7 := (oneW_ok hp).1.1
  rw [h6, h5, ← h7]
theorem CheckW.notNone {p : Nat} (hp : p < 18446744073709551616) (h16 : 65536 ≤ p) : ¬ CheckW (OneW p) [] := fun h => by
  obtain ⟨_, _, h3⟩ := h
  rw [(oneW_ok hp).2] at h3
  rcases h3 with ⟨_, h, _⟩ | ⟨r, s, h, _⟩
  · omega
  · have := congrArg List.length h; simp at this
/-- Build, up to 2^40. -/
theorem build40 {w : World} {A : Option Addr} {n c : Nat} {l : List Nat} (P : RowIs w A n c l) (hn : n ≤ 1000) (p : Nat) (hp : p ≤ 1099511627776) (hL : LaidT w) :
    Calls Tryz.prog 7 #[.int .u64 p, .slice A n c] w fun e w' => ∃ X L d ss E, e = .returned (.tuple #[.slice X L d, .int .i64 E]) ∧ ss.length = L ∧ ToldE p ss E ∧ RdSteps w' w'.heap.size X ss ∧ L ≤ d ∧ Below w.heap.size w w' :=
  ((fun _ => build_pf11 (M := 1099511627776) (by omega) (fun x hx h => isW_40 x hx h) P hn p hp) hL).mono fun _ _ ⟨X, d, ss, er, h1, h2, h3, h4, h5⟩ => ⟨X, ss.length, d, ss, (er : Int), h1, rfl, ⟨er, rfl, h2⟩, h3, h4, h5⟩
/-- Either it is none of the certificates that the law looks at, or all is well. -/
theorem ToldE.cases40 {p : Nat} {ss : List SRaw} {L : Nat} {E : Int} (h : ToldE p ss E) (hl : ss.length = L) : (L = 0 ∧ (E = 0 ∨ E = 7 ∨ E = 11)) ∨ (E = 0 ∧ 0 < L ∧ 65536 ≤ p ∧ FewAll ss ∧ CheckW (OneW p) ss) := by
  obtain ⟨er, rfl, h⟩ := h
  rcases h with ⟨_, rfl, rfl⟩ | ⟨_, _, rfl, rfl⟩ | ⟨_, h0, h1, h2, h3, rfl⟩ | ⟨_, _, rfl, rfl⟩
  · exact .inl ⟨hl.symm, .inr (.inl rfl)⟩
  · exact .inl ⟨hl.symm, .inl rfl⟩
  · exact .inr ⟨rfl, by rw [← hl]; exact List.length_pos_iff.2 h1, h0, h2, h3⟩
  · exact .inl ⟨hl.symm, .inr (.inr rfl)⟩
/-- The document's Of, as Check asks for it. -/
theorem of11 (w : World) (n : Nat) (hn : n < 18446744073709551616) : Calls Tryz.prog 12 #[.int .u64 n] w fun e w' => ∃ Y q d, e = .returned (.slice Y q d) ∧ RdNat w' w'.heap.size (.slice Y q d) (OneW n) ∧ Below w.heap.size w w' :=
  (of02_any n w hn).mono fun e w' h => by
    obtain ⟨X, q, d, rfl, S, _, b⟩ := h.out (by have := nbits_of_lt n 64 hn; omega)
    refine ⟨X, q, d, rfl, ?_, b⟩
    obtain ⟨s1, s2, s3, s4⟩ := S
    have e1 : wd n = OneW n := wd_word11 n hn
    rw [e1] at s1 s3
    subst s1
    exact ⟨X, d, rfl, s3, s4, by rw [← e1]; exact wd_words n, by omega⟩
theorem same11 {w : World} {X Y : Option Addr} {n m c d : Nat} {l : List Nat} (h : RdNat w w.heap.size (.slice X n c) l) (k : RdNat w w.heap.size (.slice Y m d) l) (hl : l.length ≤ 1000) : Calls Tryz.prog 13 #[.slice X n c, .slice Y m d] w fun e w' => e = .returned (.bool true) ∧ Below w.heap.size w w' := by
  obtain ⟨A, c', e, h1, _, _, _⟩ := h
  obtain ⟨A', d', e', k1, _, _, _⟩ := k
  injection e with e1 e2 e3
  injection e' with e4 e5 e6
  subst e1 e2 e3 e4 e5 e6
  exact same_true X Y l.length c d l w rfl h1 k1 (by omega)
theorem oneW_len {p : Nat} : (OneW p).length ≤ 1 := by unfold OneW; split <;> simp
set_option maxHeartbeats 8000000 in
/-- The last step shows p. -/
theorem listed11 {w : World} {A : Option Addr} {n d : Nat} {ss : List SRaw} (h : RdSteps w w.heap.size A ss) (hn : ss.length = n) (p : Nat) (hp : p < 18446744073709551616) (hn30 : n ≤ 30) (h0 : 0 < n) (hlast : ∀ j (hj : j < ss.length), j + 1 = n → ss[j].P = OneW p) :
    Calls Tryz.prog 14 #[.slice A n d, .int .u64 p] w fun e w' => e = .returned (.bool true) ∧ Below w.heap.size w w' := by
  obtain ⟨m, hm⟩ : ∃ m, n - 1 = m := ⟨_, rfl⟩
  have hmn : m < n := by omega
  have hmI : (n : Int) - 1 = (m : Int) := by omega
  have hms : m < ss.length := by omega
  obtain ⟨g, o, rfl, hg, hall⟩ := h (by omega)
  obtain ⟨vP, vG, vQ, eP, eG, eQ, rP, rG, rQ⟩ := hall m hms
  have hl2 : ss[m].P = OneW p := hlast m hms (by omega)
  have RP := Lib.hid rP
  rw [hl2] at RP
  obtain ⟨XP, dP, rfl, rdP, hdP, wP, lP⟩ := rP
  obtain ⟨t, ht⟩ : ∃ t, ss[m].P.length = t := ⟨_, rfl⟩
  rw [ht] at eP RP
  have CO := Lib.hid (fun (u : World) => of11 u p hp)
  have CS := Lib.hid (fun (u : World) (Y : Option Addr) (q f : Nat) (a : Hid (RdNat u u.heap.size (.slice XP t dP) (OneW p))) (b : Hid (RdNat u u.heap.size (.slice Y q f) (OneW p))) => same11 a.out b.out (by have := @oneW_len p; omega))
  have HB0 := Lib.hid (show Below w.heap.size w w.drew from (Drawn.more 1).below11)
  have HWI := Lib.hid (show IntKind.i64.wrap ((n : Int) - 1) = (m : Int) from by unfold IntKind.wrap; simp [IntKind.signed, IntKind.bits]; omega)
  have HWM := Lib.hid (show IntKind.i64.wrap (m : Int) = (m : Int) from by unfold IntKind.wrap; simp [IntKind.signed, IntKind.bits]; omega)
  have g0 : decide ((0 : Int) < (n : Int)) = true := by simp; omega
  have kP : w.drew.cell? ⟨g, o + m * 3, none⟩ = some (.slice XP t dP) := (HB0.out.cell (p := ⟨g, o + m * 3, none⟩) hg).trans eP
  have HgP := Lib.hid (fun (u : World) (b : Below w.drew.heap.size w.drew u) => (b.cell (p := ⟨g, o + m * 3, none⟩) hg).trans kP)
  have RP1 := Lib.hid (show RdNat w.drew w.drew.heap.size (.slice XP t dP) (OneW p) from RP.out.step11 HB0.out)
  clear hall rG rQ eP eG eQ rdP hdP wP lP ht hl2 hlast RP hm h hn hp hn30 hms hg
  go_enter Tryz.func14, Tryz.ntmps14
  go_wp2_with fail
  refine wp_region_any (by kernel_rfl) ?_
  change wpAny _ _ _ _ _ _ _ w.drew
  refine wpAny_takeD (i := 0) (d := 5) (v := .slice (some ⟨g, o, none⟩) n d) rfl (by kernel_rfl) (by kernel_rfl) (by kernel_rfl) (by kernel_rfl) (fun _ _ _ h => h) (Or.inl ⟨by kernel_rfl, fun W => by go_simp⟩) ?_
  refine wpAny_takeD (i := 1) (d := 6) (v := .int .i64 (n : Int)) rfl (by kernel_rfl) (by kernel_rfl) (by kernel_rfl) (by kernel_rfl) (fun _ _ _ h => h) (Or.inl ⟨by kernel_rfl, fun W => by go_simp⟩) ?_
  refine wpAny_takeD (i := 2) (d := 7) (v := .bool true) rfl (by kernel_rfl) (by kernel_rfl) (by kernel_rfl) (by kernel_rfl) (fun _ _ _ h => h) (Or.inl ⟨by kernel_rfl, fun W => by go_simp⟩) ?_
  refine wpAny_takeD (i := 3) (d := 8) (v := .bool true) rfl (by kernel_rfl) (by kernel_rfl) (by kernel_rfl) (by kernel_rfl) (fun _ _ _ h => h) (Or.inl ⟨by kernel_rfl, fun W => by go_simp⟩) ?_
  refine wpAny_takeD (i := 4) (d := 9) (v := .slice (some ⟨g, o, none⟩) n d) rfl (by kernel_rfl) (by kernel_rfl) (by kernel_rfl) (by kernel_rfl) (fun _ _ _ h => h) (Or.inl ⟨by kernel_rfl, fun W => by go_simp⟩) ?_
  refine wpAny_takeD (i := 5) (d := 10) (v := .slice (some ⟨g, o, none⟩) n d) rfl (by kernel_rfl) (by kernel_rfl) (by kernel_rfl) (by kernel_rfl) (fun _ _ _ h => h) (Or.inl ⟨by kernel_rfl, fun W => by go_simp⟩) ?_
  refine wpAny_takeD (i := 6) (d := 11) (v := .int .i64 (n : Int)) rfl (by kernel_rfl) (by kernel_rfl) (by kernel_rfl) (by kernel_rfl) (fun _ _ _ h => h) (Or.inl ⟨by kernel_rfl, fun W => by go_simp⟩) ?_
  refine wpAny_takeD (i := 7) (d := 12) (v := .int .i64 (m : Int)) rfl (by kernel_rfl) (by kernel_rfl) (by kernel_rfl) (by kernel_rfl) (fun _ _ _ h => h) (Or.inl ⟨by kernel_rfl, fun W => by first | (go_simp; done) | (go_simp; exact HWI.out) | (go_simp; exact HWM.out)⟩) ?_
  refine wpAny_takeD (i := 8) (d := 13) (v := .pointer (some ⟨g, o + m * 3, none⟩)) rfl (by kernel_rfl) (by kernel_rfl) (by kernel_rfl) (by kernel_rfl) (fun _ _ _ h => h) (Or.inl ⟨by kernel_rfl, fun W => by go_simp⟩) ?_
  refine wpAny_takeD (i := 9) (d := 14) (v := .pointer (some ⟨g, o + m * 3, none⟩)) rfl (by kernel_rfl) (by kernel_rfl) (by kernel_rfl) (by kernel_rfl) (fun _ _ _ h => h) (Or.inl ⟨by kernel_rfl, fun W => by go_simp⟩) ?_
  refine wpAny_takeD (i := 11) (d := 16) (v := .int .u64 (p : Int)) rfl (by kernel_rfl) (by kernel_rfl) (by kernel_rfl) (by kernel_rfl) (fun _ _ _ h => h) (Or.inl ⟨by kernel_rfl, fun W => by go_simp⟩) ?_
  refine wpAny_ready (rs := [10, 12]) (by kernel_rfl) (by simp) (AllReady.cons rfl (fun K hK => ?_) (AllReady.cons rfl (fun K hK => ?_) AllReady.nil))
  · go_simp
    refine hK _ _ ?_
    clear hK K
    refine wpAny_ready (rs := [12]) (by kernel_rfl) (by simp) (AllReady.cons rfl (fun K hK => ?_) AllReady.nil)
    go_simp
    refine (CO.out _).mono ?_
    rintro e u1 ⟨Y, q, f, rfl, rO, b1⟩
    have kP1 := HgP.out u1 b1
    have RP2 := Lib.hid (RP1.out.step11 b1)
    have RO := Lib.hid rO
    have HB1 := Lib.hid (below_step HB0.out b1)
    clear b1 rO kP
    go_wp2_with fail
    refine wpAny_ready (rs := [13]) (by kernel_rfl) (by simp) (AllReady.cons rfl (fun K hK => ?_) AllReady.nil)
    go_simp
    refine (CS.out u1 Y q f RP2 RO).mono ?_
    rintro e u2 ⟨rfl, b2⟩
    have HB2 := Lib.hid (below_step HB1.out b2)
    clear b2
    go_wp2_with fail
    refine wpAny_takeD (i := 14) (d := 19) (v := .bool true) rfl (by kernel_rfl) (by kernel_rfl) (by kernel_rfl) (by kernel_rfl) (fun _ _ _ h => h) (Or.inl ⟨by kernel_rfl, fun W => by go_simp⟩) ?_
    refine wpAny_takeD (i := 15) (d := 4) (v := .bool true) rfl (by kernel_rfl) (by kernel_rfl) (by kernel_rfl) (by kernel_rfl) (fun _ _ _ h => h) (Or.inl ⟨by kernel_rfl, fun W => by go_simp⟩) ?_
    refine wpAny_done (by kernel_rfl) ?_ _
    go_step
    go_simp
    go_wp2_with fail
    go_ret
    exact ⟨rfl, HB2.out⟩
  · go_simp
    refine (CO.out _).mono ?_
    rintro e u1 ⟨Y, q, f, rfl, rO, b1⟩
    have kP1 := HgP.out u1 b1
    have RP2 := Lib.hid (RP1.out.step11 b1)
    have RO := Lib.hid rO
    have HB1 := Lib.hid (below_step HB0.out b1)
    clear b1 rO kP
    refine hK _ _ ?_
    clear hK K
    refine wpAny_ready (rs := [10]) (by kernel_rfl) (by simp) (AllReady.cons rfl (fun K hK => ?_) AllReady.nil)
    go_simp
    refine hK _ _ ?_
    clear hK K
    refine wpAny_ready (rs := [13]) (by kernel_rfl) (by simp) (AllReady.cons rfl (fun K hK => ?_) AllReady.nil)
    go_simp
    refine (CS.out u1 Y q f RP2 RO).mono ?_
    rintro e u2 ⟨rfl, b2⟩
    have HB2 := Lib.hid (below_step HB1.out b2)
    clear b2
    go_wp2_with fail
    refine wpAny_takeD (i := 14) (d := 19) (v := .bool true) rfl (by kernel_rfl) (by kernel_rfl) (by kernel_rfl) (by kernel_rfl) (fun _ _ _ h => h) (Or.inl ⟨by kernel_rfl, fun W => by go_simp⟩) ?_
    refine wpAny_takeD (i := 15) (d := 4) (v := .bool true) rfl (by kernel_rfl) (by kernel_rfl) (by kernel_rfl) (by kernel_rfl) (fun _ _ _ h => h) (Or.inl ⟨by kernel_rfl, fun W => by go_simp⟩) ?_
    refine wpAny_done (by kernel_rfl) ?_ _
    go_step
    go_simp
    go_wp2_with fail
    go_ret
    exact ⟨rfl, HB2.out⟩
end Go.Proofs.YtjpfcdgaepdcdaaGreat

/- Several texts in one; each begins with a remark that says what it shows and on which conditions. -/
import Derived.Test.YtjpfcdgaepdcdaaGreatKbp
import Derived.Test.YtjpfcdgaepdcdaaGreatKbd
import Derived.Test.YtjpfcdgaepdcdaaGreatKbc
/- pratt.Build, walked. Conditions: as typed; what prime.Is takes, up to M, are primes. -/
namespace Go.Proofs.YtjpfcdgaepdcdaaGreat
open Go.RowKit
set_option maxRecDepth 20000
/-- What Build told of p: the steps and the error. -/
def Told11 (p : Nat) (ss : List SRaw) (er : Nat) : Prop :=
  (¬ Prm p ∧ ss = [] ∧ er = 7) ∨ (Prm p ∧ p < 65536 ∧ ss = [] ∧ er = 0) ∨ (Prm p ∧ 65536 ≤ p ∧ ss ≠ [] ∧ FewAll ss ∧ CheckW (OneW p) ss ∧ er = 0) ∨ (Prm p ∧ 4294967296 ≤ p ∧ ss = [] ∧ er = 11)
theorem BAt.rd {w0 u : World} {gM gD gS gL B : Nat} {AD : Option Addr} {nD cD : Nat} {ld : List Nat} {nm : Nat} {la : List Nat} {A : Option Addr} {n c : Nat} {ss : List SRaw} (h : BAt w0 u gM gD gS gL B AD nD cD ld nm la (.slice A n c) ss) : n = ss.length ∧ n ≤ c ∧ RdSteps u u.heap.size A ss := by
  obtain ⟨xs, own, hel⟩ := h.own
  rcases own.2 with ⟨e, h0⟩ | ⟨g, cap, cur, e, _, hh, hnc, _⟩
  · injection e with e1 e2 e3
    subst e1 e2 e3
    exact ⟨h0.symm, Nat.le_refl _, fun h => by omega⟩
  · injection e with e1 e2 e3
    subst e1 e2 e3
    refine ⟨rfl, hnc, fun _ => ⟨g, 0, rfl, (Array.getElem?_eq_some_iff.1 hh).1, fun j hj => ?_⟩⟩
    obtain ⟨vP, vG, vQ, h3, h4, h5, h6, h7, h8⟩ := hel j hj
    refine ⟨vP, vG, vQ, ?_, ?_, ?_, h6.rd fun b hb => hb.2.1, h7.rd fun b hb => hb.2.1, h8.rd fun b hb => hb.2.1⟩
    · rw [Nat.zero_add, own.cellAt _ (by omega)]; exact h3
    · rw [Nat.zero_add, own.cellAt _ (by omega)]; exact h4
    · rw [Nat.zero_add, own.cellAt _ (by omega)]; exact h5
theorem Told12.told {p : Nat} {new : List SRaw} {er : Nat} (h : Told12 p [] new er) (hg : Good new) (hp : Prm p) (hl : p ≤ 1099511627776) (he : er = 0) : Told11 p new 0 := by
  rcases Nat.lt_or_ge p 65536 with h16 | h16
  · refine .inr (.inl ⟨hp, h16, ?_, rfl⟩)
    rcases h.few with h1 | ⟨h1, h2⟩
    · exact List.eq_nil_of_length_eq_zero h1
    · have h3 : 2 ^ 16 ≤ 2 ^ (new.length + 15) := Nat.pow_le_pow_right (by omega) (by omega)
      omega
  · obtain ⟨r, s, h1, h2⟩ := h.last he h16 (by simp [Ps])
    refine .inr (.inr (.inl ⟨hp, h16, by rw [h1]; simp, ⟨?_, hg.few⟩, ⟨(oneW_ok (by omega)).1, hg.ok, ?_⟩, rfl⟩))
    · rcases h.few with h3 | ⟨_, h3⟩
      · omega
      · rcases Nat.lt_or_ge 30 new.length with h4 | h4
        · have h5 : 2 ^ 46 ≤ 2 ^ (new.length + 15) := Nat.pow_le_pow_right (by omega) (by omega)
          omega
        · exact h4
    · rw [(oneW_ok (n := p) (by omega)).2]
      exact .inr ⟨r.map toN, toN s, by rw [h1]; simp, h2, hg.cert⟩
set_option maxHeartbeats 16000000 in
theorem build_pf11 {M : Nat} (hM : M ≤ 1099511627776) (hW : ∀ x, x ≤ M → IsW x → Prm x) {w : World} {A : Option Addr} {n c : Nat} {l : List Nat} (P : RowIs w A n c l) (hn : n ≤ 1000) (p : Nat) (hp : p ≤ M) :
    Calls Tryz.prog 7 #[.int .u64 p, .slice A n c] w fun e w' => ∃ X d ss er, e = .returned (.tuple #[.slice X ss.length d, .int .i64 ((er : Nat) : Int)]) ∧ Told11 p ss er ∧ RdSteps w' w'.heap.size X ss ∧ ss.length ≤ d ∧ Below w.heap.size w w' := by
  obtain ⟨hl, hwd, _, hrd, hc⟩ := P
  obtain ⟨W0, hW0⟩ : ∃ W0, w.alloc (.cells #[.slice A n c] 24) = W0 := ⟨_, rfl⟩
  obtain ⟨gD, hgD⟩ : ∃ k, w.heap.size = k := ⟨_, rfl⟩
  have hB0 : Below w.heap.size w W0 := by rw [← hW0]; exact (Below.refl _ w).alloc (Nat.le_refl _) _
  have hbD : Boxed W0 gD 24 (.slice A n c) := by rw [← hW0, ← hgD]; exact Boxed.new _ _ _
  obtain ⟨bI, hbI⟩ := some_flag11 (IsW p)
  have CI := Lib.hid (is_word9 p (by omega) bI hbI W0)
  have HB0 := Lib.hid hB0
  have HBD := Lib.hid hbD
  have HR := Lib.hid hrd
  have HGD := Lib.hid hgD
  have hmm := @run_makeMap Tryz.prog
  cases bI with
  | false =>
    have HN := Lib.hid (show ¬ Prm p from fun h => by have h2 := hbI.2 (isW_prm h); cases h2)
    clear hbI hB0 hbD hrd hwd hl
    go_enter Tryz.func7, Tryz.ntmps7
    go_wp2_with fail
    refine (CI.out).mono ?_
    rintro e w1 ⟨rfl, b1⟩
    have HB1 := Lib.hid (below_step HB0.out b1)
    clear b1
    go_wp2_with fail
    go_ret2
    exact ⟨none, 0, [], 7, rfl, .inl ⟨HN.out, rfl, rfl⟩, fun h => by simp at h, Nat.le_refl _, HB1.out⟩
  | true =>
    have hpr : Prm p := hW p hp (hbI.1 rfl)
    have HPR := Lib.hid hpr
    have CS := Lib.hid fun (gM gS gL B : Nat) (u : World) (vL : Value) (h : BAt w u gM gD gS gL B A n c l 0 (Ps []) vL []) => show11 hl hwd hn hc hW hM p p (Nat.le_refl _) hpr hp u vL [] h Good.none (by
      show 2 ^ 0 * p ≤ 2 ^ 200
      rw [Nat.pow_zero, Nat.one_mul]
      exact Nat.le_trans (Nat.le_trans hp hM) (by decide))
    clear hbI hB0 hbD hrd hwd hl hW
    go_enter Tryz.func7, Tryz.ntmps7
    go_wp2_with fail
    refine (CI.out).mono ?_
    rintro e w1 ⟨rfl, b1⟩
    have HB1 := Lib.hid (below_step HB0.out b1)
    have HBD1 := Lib.hid (show Boxed w1 gD 24 (.slice A n c) from (b1.block _ HBD.out.lt).trans HBD.out)
    clear b1 CI hW0
    go_wp2_with fail
    obtain ⟨V, hV⟩ : ∃ V, (((w1.alloc (.cells #[.slice none 0 0] 23)).alloc (.map #[] 0)).alloc (.cells #[.map (some (w1.heap.size + 1))] 42)).alloc (.cells #[showFn (w1.heap.size + 1 + 1) gD (w1.heap.size + 1 + 1 + 1) w1.heap.size] 43) = V := ⟨_, rfl⟩
    have hBA : BAt w V (w1.heap.size + 1 + 1) gD (w1.heap.size + 1 + 1 + 1) w1.heap.size (w1.heap.size + 1) A n c l 0 (Ps []) (.slice none 0 0) [] := by
      have hsz := HB1.out.size
      have hbe : Below w.heap.size w V := by
        rw [← hV]
        exact (((HB1.out.alloc hsz _).alloc (by simp; omega) _).alloc (by simp; omega) _).alloc (by simp; omega) _
      have b0 := Boxed.new w1 23 (.slice none 0 0)
      have b1 := SetAt.made (w1.alloc (.cells #[.slice none 0 0] 23)) Tryz.prog 27 4
      have b2 := Boxed.new ((w1.alloc (.cells #[.slice none 0 0] 23)).alloc (.map #[] 0)) 42 (.map (some (w1.heap.size + 1)))
      have b3 := Boxed.new (((w1.alloc (.cells #[.slice none 0 0] 23)).alloc (.map #[] 0)).alloc (.cells #[.map (some (w1.heap.size + 1))] 42)) 43 (showFn (w1.heap.size + 1 + 1) gD (w1.heap.size + 1 + 1 + 1) w1.heap.size)
      simp only [World.size_alloc] at b1 b2 b3
      refine ⟨by rw [← hV]; exact b2.alloc _, by rw [← hV]; exact (((HBD1.out.alloc _).alloc _).alloc _).alloc _, by rw [← hV]; exact b3, by rw [← hV]; exact ((b0.alloc _).alloc _).alloc _, ?_, ⟨[], World.ownsRow_nil _ _ _ _, fun j hj => by simp at hj⟩, HR.out.below hbe, ⟨hsz, by omega⟩, hbe⟩
      rw [← hV]
      exact (((b1.kept (World.grownBy_alloc _ _ none) (by simp)).kept (World.grownBy_alloc _ _ none) (by simp)).same fun kl => by simp [Ps])
    have C1 := Lib.hid (CS.out _ _ _ _ V _ hBA)
    have HHB1 := HB1
    clear hBA CS HB1 HBD1
    unfold showFn at hV
    rw [hV]
    clear hV
    obtain ⟨gL, hgL⟩ : ∃ k, w1.heap.size = k := ⟨_, rfl⟩
    rw [hgL] at C1 ⊢
    refine (C1.out).mono ?_
    rintro e u2 ⟨er, vL', new, rfl, hD, _, hG, hT⟩
    rw [List.nil_append] at hD hG
    have hLf : ∃ A n c, vL' = .slice A n c := by
      obtain ⟨xs, own, _⟩ := hD.own
      rcases own.2 with ⟨e, h0⟩ | ⟨g, cap, cur, e, _⟩
      · exact ⟨none, 0, 0, e⟩
      · exact ⟨_, _, cap, e⟩
    obtain ⟨AL, nL, cL, rfl⟩ := hLf
    have HD := Lib.hid hD
    have HG := Lib.hid hG
    have kL := hD.bL.cell
    by_cases her : er = 0
    · subst her
      have HTold := Lib.hid (hT.told hG HPR.out (Nat.le_trans hp hM) rfl)
      clear hD hG hT C1 hgL HHB1
      go_wp2_with fail
      go_ret2
      obtain ⟨h1, h2, h3⟩ := HD.out.rd
      subst h1
      exact ⟨AL, cL, new, 0, rfl, HTold.out, h3, h2, HD.out.be⟩
    · have hends := hT.ends.resolve_left her
      have hn : ((er : Int) == 0) = false := by simp; omega
      have HTold := Lib.hid (show Told11 p [] er from .inr (.inr (.inr ⟨HPR.out, hends.2, rfl, hends.1⟩)))
      clear hD hG hT C1 hgL HHB1 hends
      go_wp2_with fail
      go_ret2
      exact ⟨none, 0, [], er, rfl, HTold.out, fun h => by simp at h, Nat.le_refl _, HD.out.be⟩
end Go.Proofs.YtjpfcdgaepdcdaaGreat
/- pratt's other contract, as laws use it, and what a round of the laws' loops over l[:i+1] says. Conditions: as typed (words below 2^32, up to a thousand draws). -/
namespace Go.Proofs.YtjpfcdgaepdcdaaGreat
open Go.RowKit
set_option maxRecDepth 20000
theorem RdSteps.take11 {w : World} {B : Nat} {A : Option Addr} {ss : List SRaw} (h : RdSteps w B A ss) (k : Nat) : RdSteps w B A (ss.take k) := fun h0 => by
  have hl : (ss.take k).length ≤ ss.length := by rw [List.length_take]; omega
  obtain ⟨b, off, e, hb, hall⟩ := h (by omega)
  refine ⟨b, off, e, hb, fun j hj => ?_⟩
  obtain ⟨vP, vG, vQ, h1⟩ := hall j (by omega)
  refine ⟨vP, vG, vQ, ?_⟩
  rw [List.getElem_take]
  exact h1
theorem FewAll.take11 {ss : List SRaw} (h : FewAll ss) (k : Nat) : FewAll (ss.take k) := ⟨by rw [List.length_take]; have := h.1; omega, fun s hs => h.2 s (List.mem_of_mem_take hs)⟩
theorem take_len11 {ss : List SRaw} {i : Nat} (h : i < ss.length) : (ss.take (i + 1)).length = i + 1 := by rw [List.length_take]; omega
theorem take_last11 {ss : List SRaw} {i : Nat} (h : i < ss.length) : (ss.take (i + 1)).getLast? = some ss[i] := by
  rw [List.take_succ_eq_append_getElem h, List.getLast?_append]; rfl
theorem CheckW.prm {lp : List Nat} {ss : List SRaw} (h : CheckW lp ss) : Prm (natOf lp) := checkN_prm h.2.2
/-- A word that is shown is a prime. -/
theorem CheckW.word {n : Nat} (hn : n < 18446744073709551616) {ss : List SRaw} (h : CheckW (OneW n) ss) : Prm n := by
  have := h.prm; rwa [(oneW_ok hn).2] at this
/-- A low number that is shown is one word, and a prime. -/
theorem CheckW.low {i : Nat} {ss : List SRaw} (hi : i < ss.length) (h : CheckW ss[i].P (ss.take (i + 1))) (hl : ∀ s ∈ ss.take (i + 1), LowOne s) : ss[i].P.length = 1 ∧ nth ss[i].P 0 < 2147483648 ∧ Prm (nth ss[i].P 0) := by
  have hm : ss[i] ∈ ss.take (i + 1) := by rw [List.take_succ_eq_append_getElem hi]; exact List.mem_append_right _ List.mem_cons_self
  have h1 := (hl _ hm).1
  have h2 := h.prm
  rw [(small_word11 h1).2] at h2
  have h3 : ss[i].P.length = 1 := by
    unfold smallB11 at h1
    simp only [decide_eq_true_eq] at h1
    rcases h1 with h4 | h4
    · rw [List.eq_nil_of_length_eq_zero h4] at h2
      exact absurd h2.1 (by show ¬ 2 ≤ 0; omega)
    · exact h4.1
  exact ⟨h3, small_lt11 h1, h2⟩
/-- Build, of a word below 2^32. -/
theorem praBuild_any {w : World} {A : Option Addr} {n c : Nat} {l : List Nat} (P : RowIs w A n c l) (hn : n ≤ 1000) (p : Nat) (hp : p ≤ 4294967295) (hL : LaidT w) :
    Calls Tryz.prog 7 #[.int .u64 p, .slice A n c] w fun e w' => ∃ X d ss er, e = .returned (.tuple #[.slice X ss.length d, .int .i64 ((er : Nat) : Int)]) ∧ Told11 p ss er ∧ RdSteps w' w'.heap.size X ss ∧ ss.length ≤ d ∧ Below w.heap.size w w' :=
  (fun _ => build_pf11 (M := 4294967295) (by omega) (fun x hx h => (isW_small x (by omega)).1 h) P hn p hp) hL
/-- The same, in the form that walks ask. -/
def ToldE (p : Nat) (ss : List SRaw) (E : Int) : Prop := ∃ er : Nat, E = (er : Int) ∧ Told11 p ss er
theorem build11 {w : World} {A : Option Addr} {n c : Nat} {l : List Nat} (P : RowIs w A n c l) (hn : n ≤ 1000) (p : Nat) (hp : p ≤ 4294967295) (hL : LaidT w) :
    Calls Tryz.prog 7 #[.int .u64 p, .slice A n c] w fun e w' => ∃ X L d ss E, e = .returned (.tuple #[.slice X L d, .int .i64 E]) ∧ ss.length = L ∧ ToldE p ss E ∧ RdSteps w' w'.heap.size X ss ∧ L ≤ d ∧ Below w.heap.size w w' :=
  (praBuild_any P hn p hp hL).mono fun _ _ ⟨X, d, ss, er, h1, h2, h3, h4, h5⟩ => ⟨X, ss.length, d, ss, (er : Int), h1, rfl, ⟨er, rfl, h2⟩, h3, h4, h5⟩
theorem ToldE.low {p : Nat} {ss : List SRaw} {L : Nat} {E : Int} (h : ToldE p ss E) (hl : ss.length = L) (hp : Prm p) (h16 : p < 65536) : ss = [] ∧ L = 0 ∧ E = 0 := by
  obtain ⟨er, rfl, h⟩ := h
  rcases h with ⟨h, _⟩ | ⟨_, _, rfl, rfl⟩ | ⟨_, h, _⟩ | ⟨_, h, _⟩
  · exact absurd hp h
  · exact ⟨rfl, hl.symm, rfl⟩
  · omega
  · omega
theorem ToldE.high {p : Nat} {ss : List SRaw} {L : Nat} {E : Int} (h : ToldE p ss E) (hl : ss.length = L) (hp : Prm p) (h16 : 65536 ≤ p) (h32 : p < 4294967296) : E = 0 ∧ 0 < L ∧ FewAll ss ∧ CheckW (OneW p) ss := by
  obtain ⟨er, rfl, h⟩ := h
  rcases h with ⟨h, _⟩ | ⟨_, h, _⟩ | ⟨_, _, h1, h2, h3, rfl⟩ | ⟨_, h, _⟩
  · exact absurd hp h
  · omega
  · exact ⟨rfl, by rw [← hl]; exact List.length_pos_iff.2 h1, h2, h3⟩
  · omega
theorem ToldE.no {p : Nat} {ss : List SRaw} {L : Nat} {E : Int} (h : ToldE p ss E) (hl : ss.length = L) (hp : ¬ Prm p) : ss = [] ∧ L = 0 ∧ E = 7 := by
  obtain ⟨er, rfl, h⟩ := h
  rcases h with ⟨_, rfl, rfl⟩ | ⟨h, _⟩ | ⟨h, _⟩ | ⟨h, _⟩
  · exact ⟨rfl, hl.symm, rfl⟩
  · exact absurd h hp
  · exact absurd h hp
  · exact absurd h hp
theorem check11 {w : World} {v : Value} {lp : List Nat} {A : Option Addr} {n d : Nat} {ss : List SRaw} (hv : RdNat w w.heap.size v lp) (hp : OkNat lp ∨ ∃ s, ss.getLast? = some s ∧ s.P = lp) (h : RdSteps w w.heap.size A ss) (hn : ss.length = n) (hc : n ≤ d) (hf : FewAll ss) (b : Bool) (hb : b = true ↔ CheckW lp ss) (hL : LaidT w) :
    Calls Tryz.prog 9 #[v, .slice A n d] w fun e w' => e = .returned (.bool b) ∧ Below w.heap.size w w' := by
  subst hn; exact praCheck_any hv hp h hc hf b hb hL
theorem low11 {w : World} {A : Option Addr} {n d : Nat} {ss : List SRaw} (h : RdSteps w w.heap.size A ss) (hn : ss.length = n) (hf : FewAll ss) (b : Bool) (hb : b = true ↔ ∀ s ∈ ss, LowOne s) :
    Calls Tryz.prog 11 #[.slice A n d] w fun e w' => e = .returned (.bool b) ∧ Drawn w w' := by
  subst hn; exact refLow11 h (by have := hf.1; omega) (fun s hs => by have := (hf.2 s hs).1; omega) b hb
end Go.Proofs.YtjpfcdgaepdcdaaGreat
/- PrattBuilds' walk: it answers true, and writes nothing that was there. No condition but what the arguments' types give. -/
namespace Go.Proofs.YtjpfcdgaepdcdaaGreat
open Go.RowKit
set_option maxRecDepth 20000
set_option maxHeartbeats 8000000 in
theorem prattBuilds_walk (a0 : Int) (A1 : Option Addr) (len1 c1 : Nat) (l1 : List SRaw) (A2 : Option Addr) (c2 : Nat) (l2 : List Nat) (w : World) (n1 : l1.length = len1) (w0 : (Lit.int .u32 a0).wf = true) (r1 : RdSteps w w.heap.size A1 l1) (z1 : len1 ≤ c1) (_u1 : len1 ≤ 140737488351232) (r2 : Rd .u64 w w.heap.size A2 l2) (y2 : Words l2) (_z2 : l2.length * 8 ≤ 140737488351232) (u2 : l2.length ≤ c2) (hL : LaidT w) :
    Calls Tryz.prog 3 #[.int .u32 a0, .slice A1 len1 c1, .slice A2 l2.length c2] w fun e w' => e = .returned (.bool true) ∧ Below w.heap.size w w' := by
  subst n1
  have HLd := Lib.hid hL
  have ha0 : 0 ≤ a0 ∧ a0 ≤ 4294967295 := by simpa [Lit.wf, IntKind.min, IntKind.max, IntKind.signed, IntKind.bits] using w0
  obtain ⟨x, rfl⟩ : ∃ x : Nat, a0 = (x : Int) := ⟨a0.toNat, by omega⟩
  have hx : x < 4294967296 := by omega
  clear w0 hL
  obtain ⟨k, hk⟩ : ∃ k, x % 2147483648 = k := ⟨_, rfl⟩
  have hkI : (x : Int) % 2147483648 = (k : Int) := by omega
  have hkl : k < 2147483648 := by omega
  obtain ⟨bF, hbF⟩ := some_flag11 (FewAll l1)
  have CF := Lib.hid (few11_any (c := c1) r1 bF hbF)
  have HW := Lib.hid (fun (u : World) (h : Hid (LaidT u)) => praWorks_any u h.out)
  obtain ⟨m, hm⟩ : ∃ m, l2.length = m := ⟨_, rfl⟩
  obtain ⟨n, hn⟩ : ∃ n, l1.length = n := ⟨_, rfl⟩
  have HN := Lib.hid hn
  have hz1 : n ≤ c1 := by omega
  rw [hn] at CF
  rw [hm, hn]
  have HR := Lib.hid r1
  by_cases hF : FewAll l1
  · obtain rfl : bF = true := hbF.2 hF
    by_cases v0 : 100 < m
    · skip
      have g0 : decide ((100 : Int) < (m : Int)) = true := by simp; omega
      clear hk hbF r1 hn hm y2 r2 _z2 u2 _u1 z1
      go_enter Tryz.func3, Tryz.ntmps3
      go_wp2_with fail
      refine (CF.out).mono ?_
      rintro e w1 ⟨rfl, hd⟩
      have B1 := Lib.hid hd.below11
      have R1 := Lib.hid (HR.out.step11 hd.below11)
      clear hd
      go_wp2_with fail
      refine (HW.out _ (Lib.hid (HLd.out.below B1.out))).mono ?_
      rintro e wz ⟨rfl, bz⟩
      have Bz := Lib.hid (below_step B1.out bz)
      clear bz
      go_wp2_with fail
      go_ret
      exact ⟨rfl, Bz.out⟩
    · skip
      have g0 : decide ((100 : Int) < (m : Int)) = false := by simp; omega
      have P2 := Lib.hid (show RowIs w A2 m c2 l2 from ⟨hm, y2, by omega, r2, by omega⟩)
      have CB := Lib.hid (fun (u : World) (h : Hid (RowIs u A2 m c2 l2)) (hL : Hid (LaidT u)) => build11 h.out (by omega) k (by omega) hL.out)
      obtain ⟨bI, hbI⟩ := some_flag11 (Prm k)
      have CI := Lib.hid (fun u => refIs11 k (by omega) bI hbI u)
      have CN := Lib.hid (fun u => hN11 u k (k : Int) rfl (by omega))
      have CK := Lib.hid (fun (u : World) (v : Value) (X : Option Addr) (L d : Nat) (ss : List SRaw) (b : Bool) (hb : b = true ↔ CheckW (OneW k) ss) (hl : ss.length = L) (hF : FewAll ss) (hd : L ≤ d) (hv : Hid (RdNat u u.heap.size v (OneW k))) (h : Hid (RdSteps u u.heap.size X ss)) (hL : Hid (LaidT u)) => check11 hv.out (.inl (oneW_ok (by omega)).1) h.out hl hd hF b hb hL.out)
      have CC := Lib.hid (fun (i : Nat) (hi : i < l1.length) (b : Bool) (hb : b = true ↔ CheckW l1[i].P (l1.take (i + 1))) (u : World) (v : Value) (hv : Hid (RdNat u u.heap.size v l1[i].P)) (h : Hid (RdSteps u u.heap.size A1 l1)) (hL : Hid (LaidT u)) => check11 (d := c1) hv.out (.inr ⟨_, take_last11 hi, rfl⟩) (h.out.take11 (i + 1)) (take_len11 hi) (by omega) (hF.take11 _) b hb hL.out)
      have CL := Lib.hid (fun (i : Nat) (hi : i < l1.length) (b : Bool) (hb : b = true ↔ ∀ s ∈ l1.take (i + 1), LowOne s) (u : World) (h : Hid (RdSteps u u.heap.size A1 l1)) => low11 (d := c1) (h.out.take11 (i + 1)) (take_len11 hi) (hF.take11 _) b hb)
      have HF := Lib.hid hF
      have hn30 : n ≤ 30 := by have := hF.1; omega
      by_cases hp : Prm k
      · obtain rfl : bI = true := hbI.2 hp
        by_cases h16 : k < 65536
        · skip
          have g16 : decide ((k : Int) < 65536) = true := by simp; omega
          have HY := Lib.hid (show CheckW (OneW k) [] from (checkW_low (by omega) (by simp)).2 (.inl ⟨rfl, h16, hp⟩))
          have HT := Lib.hid (fun (ss : List SRaw) (L : Nat) (E : Int) (h : ToldE k ss E) (hl : ss.length = L) => ToldE.low h hl hp h16)
          clear hF hbI hk hbF r1 hn hm y2 r2 _z2 u2 _u1 z1
          go_enter Tryz.func3, Tryz.ntmps3
          go_wp2_with fail
          refine (CF.out).mono ?_
          rintro e w1 ⟨rfl, hd⟩
          have B1 := Lib.hid hd.below11
          have R1 := Lib.hid (HR.out.step11 hd.below11)
          clear hd
          go_wp2_with fail
          refine (CB.out w1 (Lib.hid (P2.out.step B1.out)) (Lib.hid (HLd.out.below B1.out))).mono ?_
          rintro e w2 ⟨X, L, d, ss, E, rfl, hl, hT, hS, hd, b2⟩
          have B2 := Lib.hid (below_step B1.out b2)
          have R2 := Lib.hid (R1.out.step11 b2)
          have S2 := Lib.hid hS
          clear b2 hS
          obtain ⟨rfl, rfl, rfl⟩ := HT.out _ _ _ hT hl
          clear hT hl
          go_wp2_with fail
          refine (CI.out w2).mono ?_
          rintro e wi ⟨rfl, rfl⟩
          go_wp2_with fail
          refine (CN.out w2).mono ?_
          rintro e w3 ⟨Y, q, dY, rfl, N3, b3⟩
          have B3 := Lib.hid (below_step B2.out b3)
          have R3 := Lib.hid (R2.out.step11 b3)
          have S3 := Lib.hid (S2.out.step11 b3)
          have N3 := Lib.hid N3
          clear b3
          go_wp2_with fail
          refine (CK.out w3 _ X 0 d [] true ⟨fun _ => HY.out, fun _ => rfl⟩ rfl few_nil11 hd N3 S3 (Lib.hid (HLd.out.below B3.out))).mono ?_
          rintro e w4 ⟨rfl, b4⟩
          have B4 := Lib.hid (below_step B3.out b4)
          have R4 := Lib.hid (R3.out.step11 b4)
          clear b4
          go_wp2_with fail
          go_loopw [10] (fun iv wr => ∃ i : Nat, i ≤ n ∧ iv = .int .i64 i ∧ Hid (Below w.heap.size w wr) ∧ Hid (RdSteps wr wr.heap.size A1 l1)) (fun iv _ => n - (intOf iv).toNat)
          case atStart => exact ⟨0, Nat.zero_le _, rfl, B4, R4⟩
          case round =>
            obtain ⟨i, hi, rfl, hB, hR⟩ := hrel
            by_cases hlt : i < n
            · have his : i < l1.length := by rw [HN.out]; exact hlt
              have bd0 : Below wr.heap.size wr wr.drew := (Drawn.more 1).below11
              have hB := Lib.hid (below_step hB.out bd0)
              have hR := Lib.hid (hR.out.step11 bd0)
              clear bd0
              obtain ⟨g, o, hA, hg, hall⟩ := hR.out (by omega)
              obtain ⟨vP, vG, vQ, eP, eG, eQ, rP, rG, rQ⟩ := hall i his
              have RP := Lib.hid rP
              obtain ⟨XP, dP, rfl, rdP, hdP, wP, lP⟩ := rP
              obtain ⟨t, ht⟩ : ∃ t, l1[i].P.length = t := ⟨_, rfl⟩
              obtain ⟨bC, hbC⟩ := some_flag11 (CheckW l1[i].P (l1.take (i + 1)))
              obtain ⟨bL, hbL⟩ := some_flag11 (∀ s ∈ l1.take (i + 1), LowOne s)
              have C1 := CC.out i his bC hbC wr.drew _ RP hR (Lib.hid (HLd.out.below hB.out))
              have C2 := Lib.hid (CL.out i his bL hbL)
              rw [ht] at eP C1
              have C1 := Lib.hid C1
              have hci : i + 1 ≤ c1 := by omega
              have hin : i + 1 ≤ n := by omega
              have HWI := Lib.hid (show IntKind.i64.wrap ((i : Int) + 1) = (i : Int) + 1 from by unfold IntKind.wrap; simp [IntKind.signed, IntKind.bits]; omega)
              have HP := Lib.hid (fun (u : World) (b : Below wr.drew.heap.size wr.drew u) => (b.cell (p := ⟨g, o + i * 3, none⟩) hg).trans eP)
              cases bC
              · subst hA
                clear hall rG rQ eG eQ RP rdP ht hbC hbL wP lP
                go_wp2_with fail
                refine wp_region_any (by kernel_rfl) ?_
                change wpAny _ _ _ _ _ _ _ wr.drew
                refine wpAny_takeD (i := 0) (d := 67) (v := .slice (some ⟨g, o, none⟩) n c1) rfl (by kernel_rfl) (by kernel_rfl) (by kernel_rfl) (by kernel_rfl) (fun _ _ _ h => h) (Or.inl ⟨by kernel_rfl, fun W => by go_simp⟩) ?_
                refine wpAny_takeD (i := 1) (d := 68) (v := .int .i64 (i : Int)) rfl (by kernel_rfl) (by kernel_rfl) (by kernel_rfl) (by kernel_rfl) (fun _ _ _ h => h) (Or.inl ⟨by kernel_rfl, fun W => by go_simp⟩) ?_
                refine wpAny_takeD (i := 2) (d := 69) (v := .pointer (some ⟨g, o + i * 3, none⟩)) rfl (by kernel_rfl) (by kernel_rfl) (by kernel_rfl) (by kernel_rfl) (fun _ _ _ h => h) (Or.inl ⟨by kernel_rfl, fun W => by go_simp⟩) ?_
                refine wpAny_takeD (i := 3) (d := 70) (v := .pointer (some ⟨g, o + i * 3, none⟩)) rfl (by kernel_rfl) (by kernel_rfl) (by kernel_rfl) (by kernel_rfl) (fun _ _ _ h => h) (Or.inl ⟨by kernel_rfl, fun W => by go_simp⟩) ?_
                refine wpAny_takeD (i := 5) (d := 72) (v := .slice (some ⟨g, o, none⟩) n c1) rfl (by kernel_rfl) (by kernel_rfl) (by kernel_rfl) (by kernel_rfl) (fun _ _ _ h => h) (Or.inl ⟨by kernel_rfl, fun W => by go_simp⟩) ?_
                refine wpAny_takeD (i := 6) (d := 73) (v := .int .i64 (i : Int)) rfl (by kernel_rfl) (by kernel_rfl) (by kernel_rfl) (by kernel_rfl) (fun _ _ _ h => h) (Or.inl ⟨by kernel_rfl, fun W => by go_simp⟩) ?_
                refine wpAny_takeD (i := 7) (d := 74) (v := .int .i64 ((i : Int) + 1)) rfl (by kernel_rfl) (by kernel_rfl) (by kernel_rfl) (by kernel_rfl) (fun _ _ _ h => h) (Or.inl ⟨by kernel_rfl, fun W => by first | (go_simp; done) | (go_simp; exact HWI.out)⟩) ?_
                refine wpAny_takeD (i := 8) (d := 75) (v := .slice (some ⟨g, o, none⟩) (i + 1) c1) rfl (by kernel_rfl) (by kernel_rfl) (by kernel_rfl) (by kernel_rfl) (fun _ _ _ h => h) (Or.inl ⟨by kernel_rfl, fun W => by first | (go_simp; done) | (go_simp; intro h; exact absurd (h (by omega)) (by omega))⟩) ?_
                refine wpAny_ready (rs := [4]) (by kernel_rfl) (by simp) (AllReady.cons rfl (fun K hK => ?_) AllReady.nil)
                go_simp
                refine hK _ _ ?_
                clear hK K
                refine wpAny_ready (rs := [9]) (by kernel_rfl) (by simp) (AllReady.cons rfl (fun K hK => ?_) AllReady.nil)
                go_simp
                refine (C1.out).mono ?_
                rintro e u1 ⟨rfl, b1⟩
                have Bn := Lib.hid (below_step hB.out b1)
                have Rn := Lib.hid (hR.out.step11 b1)
                have Bw := Lib.hid b1
                clear b1
                go_wp2_with fail
                refine wpAny_takeD (i := 10) (d := 77) (v := .bool false) rfl (by kernel_rfl) (by kernel_rfl) (by kernel_rfl) (by kernel_rfl) (fun _ _ _ h => h) (Or.inl ⟨by kernel_rfl, fun W => by go_simp⟩) ?_
                refine wpAny_takeD (i := 11) (d := 78) (v := undef) rfl (by kernel_rfl) (by kernel_rfl) (by kernel_rfl) (by kernel_rfl) (fun _ _ _ h => h) (Or.inr ⟨by kernel_rfl, rfl⟩) ?_
                refine wpAny_takeD (i := 12) (d := 79) (v := undef) rfl (by kernel_rfl) (by kernel_rfl) (by kernel_rfl) (by kernel_rfl) (fun _ _ _ h => h) (Or.inr ⟨by kernel_rfl, rfl⟩) ?_
                refine wpAny_takeD (i := 13) (d := 80) (v := undef) rfl (by kernel_rfl) (by kernel_rfl) (by kernel_rfl) (by kernel_rfl) (fun _ _ _ h => h) (Or.inr ⟨by kernel_rfl, rfl⟩) ?_
                refine wpAny_takeD (i := 14) (d := 81) (v := undef) rfl (by kernel_rfl) (by kernel_rfl) (by kernel_rfl) (by kernel_rfl) (fun _ _ _ h => h) (Or.inr ⟨by kernel_rfl, rfl⟩) ?_
                refine wpAny_takeD (i := 15) (d := 82) (v := undef) rfl (by kernel_rfl) (by kernel_rfl) (by kernel_rfl) (by kernel_rfl) (fun _ _ _ h => h) (Or.inr ⟨by kernel_rfl, rfl⟩) ?_
                refine wpAny_takeD (i := 16) (d := 83) (v := .bool false) rfl (by kernel_rfl) (by kernel_rfl) (by kernel_rfl) (by kernel_rfl) (fun _ _ _ h => h) (Or.inl ⟨by kernel_rfl, fun W => by go_simp⟩) ?_
                refine wpAny_takeD (i := 17) (d := 84) (v := .bool false) rfl (by kernel_rfl) (by kernel_rfl) (by kernel_rfl) (by kernel_rfl) (fun _ _ _ h => h) (Or.inl ⟨by kernel_rfl, fun W => by go_simp⟩) ?_
                refine wpAny_takeD (i := 18) (d := 85) (v := undef) rfl (by kernel_rfl) (by kernel_rfl) (by kernel_rfl) (by kernel_rfl) (fun _ _ _ h => h) (Or.inr ⟨by kernel_rfl, rfl⟩) ?_
                refine wpAny_takeD (i := 19) (d := 86) (v := undef) rfl (by kernel_rfl) (by kernel_rfl) (by kernel_rfl) (by kernel_rfl) (fun _ _ _ h => h) (Or.inr ⟨by kernel_rfl, rfl⟩) ?_
                refine wpAny_takeD (i := 20) (d := 87) (v := undef) rfl (by kernel_rfl) (by kernel_rfl) (by kernel_rfl) (by kernel_rfl) (fun _ _ _ h => h) (Or.inr ⟨by kernel_rfl, rfl⟩) ?_
                refine wpAny_takeD (i := 21) (d := 88) (v := undef) rfl (by kernel_rfl) (by kernel_rfl) (by kernel_rfl) (by kernel_rfl) (fun _ _ _ h => h) (Or.inr ⟨by kernel_rfl, rfl⟩) ?_
                refine wpAny_takeD (i := 22) (d := 89) (v := undef) rfl (by kernel_rfl) (by kernel_rfl) (by kernel_rfl) (by kernel_rfl) (fun _ _ _ h => h) (Or.inr ⟨by kernel_rfl, rfl⟩) ?_
                refine wpAny_takeD (i := 23) (d := 90) (v := undef) rfl (by kernel_rfl) (by kernel_rfl) (by kernel_rfl) (by kernel_rfl) (fun _ _ _ h => h) (Or.inr ⟨by kernel_rfl, rfl⟩) ?_
                refine wpAny_takeD (i := 24) (d := 91) (v := undef) rfl (by kernel_rfl) (by kernel_rfl) (by kernel_rfl) (by kernel_rfl) (fun _ _ _ h => h) (Or.inr ⟨by kernel_rfl, rfl⟩) ?_
                refine wpAny_takeD (i := 25) (d := 92) (v := undef) rfl (by kernel_rfl) (by kernel_rfl) (by kernel_rfl) (by kernel_rfl) (fun _ _ _ h => h) (Or.inr ⟨by kernel_rfl, rfl⟩) ?_
                refine wpAny_takeD (i := 26) (d := 93) (v := undef) rfl (by kernel_rfl) (by kernel_rfl) (by kernel_rfl) (by kernel_rfl) (fun _ _ _ h => h) (Or.inr ⟨by kernel_rfl, rfl⟩) ?_
                refine wpAny_takeD (i := 27) (d := 94) (v := undef) rfl (by kernel_rfl) (by kernel_rfl) (by kernel_rfl) (by kernel_rfl) (fun _ _ _ h => h) (Or.inr ⟨by kernel_rfl, rfl⟩) ?_
                refine wpAny_takeD (i := 28) (d := 95) (v := undef) rfl (by kernel_rfl) (by kernel_rfl) (by kernel_rfl) (by kernel_rfl) (fun _ _ _ h => h) (Or.inr ⟨by kernel_rfl, rfl⟩) ?_
                refine wpAny_takeD (i := 29) (d := 96) (v := undef) rfl (by kernel_rfl) (by kernel_rfl) (by kernel_rfl) (by kernel_rfl) (fun _ _ _ h => h) (Or.inr ⟨by kernel_rfl, rfl⟩) ?_
                refine wpAny_takeD (i := 30) (d := 97) (v := undef) rfl (by kernel_rfl) (by kernel_rfl) (by kernel_rfl) (by kernel_rfl) (fun _ _ _ h => h) (Or.inr ⟨by kernel_rfl, rfl⟩) ?_
                refine wpAny_takeD (i := 31) (d := 98) (v := undef) rfl (by kernel_rfl) (by kernel_rfl) (by kernel_rfl) (by kernel_rfl) (fun _ _ _ h => h) (Or.inr ⟨by kernel_rfl, rfl⟩) ?_
                refine wpAny_takeD (i := 32) (d := 99) (v := undef) rfl (by kernel_rfl) (by kernel_rfl) (by kernel_rfl) (by kernel_rfl) (fun _ _ _ h => h) (Or.inr ⟨by kernel_rfl, rfl⟩) ?_
                refine wpAny_takeD (i := 33) (d := 100) (v := undef) rfl (by kernel_rfl) (by kernel_rfl) (by kernel_rfl) (by kernel_rfl) (fun _ _ _ h => h) (Or.inr ⟨by kernel_rfl, rfl⟩) ?_
                refine wpAny_takeD (i := 34) (d := 101) (v := undef) rfl (by kernel_rfl) (by kernel_rfl) (by kernel_rfl) (by kernel_rfl) (fun _ _ _ h => h) (Or.inr ⟨by kernel_rfl, rfl⟩) ?_
                refine wpAny_takeD (i := 35) (d := 102) (v := undef) rfl (by kernel_rfl) (by kernel_rfl) (by kernel_rfl) (by kernel_rfl) (fun _ _ _ h => h) (Or.inr ⟨by kernel_rfl, rfl⟩) ?_
                refine wpAny_takeD (i := 36) (d := 103) (v := .bool false) rfl (by kernel_rfl) (by kernel_rfl) (by kernel_rfl) (by kernel_rfl) (fun _ _ _ h => h) (Or.inl ⟨by kernel_rfl, fun W => by go_simp⟩) ?_
                refine wpAny_done (by kernel_rfl) ?_ _
                go_step
                go_simp
                go_wp2_with fail
                go_roundw
                case rel => exact ⟨i + 1, by omega, by go_num, Bn, Rn⟩
                case measure => simp [intOf]; omega
              · cases bL
                · have HC := HP
                  subst hA
                  clear hall rG rQ eG eQ RP rdP ht hbC hbL wP lP
                  go_wp2_with fail
                  refine wp_region_any (by kernel_rfl) ?_
                  change wpAny _ _ _ _ _ _ _ wr.drew
                  refine wpAny_takeD (i := 0) (d := 67) (v := .slice (some ⟨g, o, none⟩) n c1) rfl (by kernel_rfl) (by kernel_rfl) (by kernel_rfl) (by kernel_rfl) (fun _ _ _ h => h) (Or.inl ⟨by kernel_rfl, fun W => by go_simp⟩) ?_
                  refine wpAny_takeD (i := 1) (d := 68) (v := .int .i64 (i : Int)) rfl (by kernel_rfl) (by kernel_rfl) (by kernel_rfl) (by kernel_rfl) (fun _ _ _ h => h) (Or.inl ⟨by kernel_rfl, fun W => by go_simp⟩) ?_
                  refine wpAny_takeD (i := 2) (d := 69) (v := .pointer (some ⟨g, o + i * 3, none⟩)) rfl (by kernel_rfl) (by kernel_rfl) (by kernel_rfl) (by kernel_rfl) (fun _ _ _ h => h) (Or.inl ⟨by kernel_rfl, fun W => by go_simp⟩) ?_
                  refine wpAny_takeD (i := 3) (d := 70) (v := .pointer (some ⟨g, o + i * 3, none⟩)) rfl (by kernel_rfl) (by kernel_rfl) (by kernel_rfl) (by kernel_rfl) (fun _ _ _ h => h) (Or.inl ⟨by kernel_rfl, fun W => by go_simp⟩) ?_
                  refine wpAny_takeD (i := 5) (d := 72) (v := .slice (some ⟨g, o, none⟩) n c1) rfl (by kernel_rfl) (by kernel_rfl) (by kernel_rfl) (by kernel_rfl) (fun _ _ _ h => h) (Or.inl ⟨by kernel_rfl, fun W => by go_simp⟩) ?_
                  refine wpAny_takeD (i := 6) (d := 73) (v := .int .i64 (i : Int)) rfl (by kernel_rfl) (by kernel_rfl) (by kernel_rfl) (by kernel_rfl) (fun _ _ _ h => h) (Or.inl ⟨by kernel_rfl, fun W => by go_simp⟩) ?_
                  refine wpAny_takeD (i := 7) (d := 74) (v := .int .i64 ((i : Int) + 1)) rfl (by kernel_rfl) (by kernel_rfl) (by kernel_rfl) (by kernel_rfl) (fun _ _ _ h => h) (Or.inl ⟨by kernel_rfl, fun W => by first | (go_simp; done) | (go_simp; exact HWI.out)⟩) ?_
                  refine wpAny_takeD (i := 8) (d := 75) (v := .slice (some ⟨g, o, none⟩) (i + 1) c1) rfl (by kernel_rfl) (by kernel_rfl) (by kernel_rfl) (by kernel_rfl) (fun _ _ _ h => h) (Or.inl ⟨by kernel_rfl, fun W => by first | (go_simp; done) | (go_simp; intro h; exact absurd (h (by omega)) (by omega))⟩) ?_
                  refine wpAny_ready (rs := [4]) (by kernel_rfl) (by simp) (AllReady.cons rfl (fun K hK => ?_) AllReady.nil)
                  go_simp
                  refine hK _ _ ?_
                  clear hK K
                  refine wpAny_ready (rs := [9]) (by kernel_rfl) (by simp) (AllReady.cons rfl (fun K hK => ?_) AllReady.nil)
                  go_simp
                  refine (C1.out).mono ?_
                  rintro e u1 ⟨rfl, b1⟩
                  have Bn := Lib.hid (below_step hB.out b1)
                  have Rn := Lib.hid (hR.out.step11 b1)
                  have Bw := Lib.hid b1
                  clear b1
                  go_wp2_with fail
                  refine wpAny_takeD (i := 10) (d := 77) (v := .bool true) rfl (by kernel_rfl) (by kernel_rfl) (by kernel_rfl) (by kernel_rfl) (fun _ _ _ h => h) (Or.inl ⟨by kernel_rfl, fun W => by go_simp⟩) ?_
                  refine wpAny_takeD (i := 11) (d := 78) (v := .slice (some ⟨g, o, none⟩) n c1) rfl (by kernel_rfl) (by kernel_rfl) (by kernel_rfl) (by kernel_rfl) (fun _ _ _ h => h) (Or.inl ⟨by kernel_rfl, fun W => by go_simp⟩) ?_
                  refine wpAny_takeD (i := 12) (d := 79) (v := .int .i64 (i : Int)) rfl (by kernel_rfl) (by kernel_rfl) (by kernel_rfl) (by kernel_rfl) (fun _ _ _ h => h) (Or.inl ⟨by kernel_rfl, fun W => by go_simp⟩) ?_
                  refine wpAny_takeD (i := 13) (d := 80) (v := .int .i64 ((i : Int) + 1)) rfl (by kernel_rfl) (by kernel_rfl) (by kernel_rfl) (by kernel_rfl) (fun _ _ _ h => h) (Or.inl ⟨by kernel_rfl, fun W => by first | (go_simp; done) | (go_simp; exact HWI.out)⟩) ?_
                  refine wpAny_takeD (i := 14) (d := 81) (v := .slice (some ⟨g, o, none⟩) (i + 1) c1) rfl (by kernel_rfl) (by kernel_rfl) (by kernel_rfl) (by kernel_rfl) (fun _ _ _ h => h) (Or.inl ⟨by kernel_rfl, fun W => by first | (go_simp; done) | (go_simp; intro h; exact absurd (h (by omega)) (by omega))⟩) ?_
                  refine wpAny_ready (rs := [15]) (by kernel_rfl) (by simp) (AllReady.cons rfl (fun K hK => ?_) AllReady.nil)
                  go_simp
                  refine (C2.out u1 Rn).mono ?_
                  rintro e u2 ⟨rfl, hd⟩
                  have Bn2 := Lib.hid (below_step Bn.out hd.below11)
                  have Rn2 := Lib.hid (Rn.out.step11 hd.below11)
                  have Bw2 := below_step Bw.out hd.below11
                  have e1 := HP.out u2 Bw2
                  have e2 := HC.out u2 Bw2
                  clear hd Bw2
                  go_wp2_with fail
                  refine wpAny_takeD (i := 16) (d := 83) (v := .bool false) rfl (by kernel_rfl) (by kernel_rfl) (by kernel_rfl) (by kernel_rfl) (fun _ _ _ h => h) (Or.inl ⟨by kernel_rfl, fun W => by go_simp⟩) ?_
                  refine wpAny_takeD (i := 17) (d := 84) (v := .bool false) rfl (by kernel_rfl) (by kernel_rfl) (by kernel_rfl) (by kernel_rfl) (fun _ _ _ h => h) (Or.inl ⟨by kernel_rfl, fun W => by go_simp⟩) ?_
                  refine wpAny_takeD (i := 18) (d := 85) (v := undef) rfl (by kernel_rfl) (by kernel_rfl) (by kernel_rfl) (by kernel_rfl) (fun _ _ _ h => h) (Or.inr ⟨by kernel_rfl, rfl⟩) ?_
                  refine wpAny_takeD (i := 19) (d := 86) (v := undef) rfl (by kernel_rfl) (by kernel_rfl) (by kernel_rfl) (by kernel_rfl) (fun _ _ _ h => h) (Or.inr ⟨by kernel_rfl, rfl⟩) ?_
                  refine wpAny_takeD (i := 20) (d := 87) (v := undef) rfl (by kernel_rfl) (by kernel_rfl) (by kernel_rfl) (by kernel_rfl) (fun _ _ _ h => h) (Or.inr ⟨by kernel_rfl, rfl⟩) ?_
                  refine wpAny_takeD (i := 21) (d := 88) (v := undef) rfl (by kernel_rfl) (by kernel_rfl) (by kernel_rfl) (by kernel_rfl) (fun _ _ _ h => h) (Or.inr ⟨by kernel_rfl, rfl⟩) ?_
                  refine wpAny_takeD (i := 22) (d := 89) (v := undef) rfl (by kernel_rfl) (by kernel_rfl) (by kernel_rfl) (by kernel_rfl) (fun _ _ _ h => h) (Or.inr ⟨by kernel_rfl, rfl⟩) ?_
                  refine wpAny_takeD (i := 23) (d := 90) (v := undef) rfl (by kernel_rfl) (by kernel_rfl) (by kernel_rfl) (by kernel_rfl) (fun _ _ _ h => h) (Or.inr ⟨by kernel_rfl, rfl⟩) ?_
                  refine wpAny_takeD (i := 24) (d := 91) (v := undef) rfl (by kernel_rfl) (by kernel_rfl) (by kernel_rfl) (by kernel_rfl) (fun _ _ _ h => h) (Or.inr ⟨by kernel_rfl, rfl⟩) ?_
                  refine wpAny_takeD (i := 25) (d := 92) (v := undef) rfl (by kernel_rfl) (by kernel_rfl) (by kernel_rfl) (by kernel_rfl) (fun _ _ _ h => h) (Or.inr ⟨by kernel_rfl, rfl⟩) ?_
                  refine wpAny_takeD (i := 26) (d := 93) (v := undef) rfl (by kernel_rfl) (by kernel_rfl) (by kernel_rfl) (by kernel_rfl) (fun _ _ _ h => h) (Or.inr ⟨by kernel_rfl, rfl⟩) ?_
                  refine wpAny_takeD (i := 27) (d := 94) (v := undef) rfl (by kernel_rfl) (by kernel_rfl) (by kernel_rfl) (by kernel_rfl) (fun _ _ _ h => h) (Or.inr ⟨by kernel_rfl, rfl⟩) ?_
                  refine wpAny_takeD (i := 28) (d := 95) (v := undef) rfl (by kernel_rfl) (by kernel_rfl) (by kernel_rfl) (by kernel_rfl) (fun _ _ _ h => h) (Or.inr ⟨by kernel_rfl, rfl⟩) ?_
                  refine wpAny_takeD (i := 29) (d := 96) (v := undef) rfl (by kernel_rfl) (by kernel_rfl) (by kernel_rfl) (by kernel_rfl) (fun _ _ _ h => h) (Or.inr ⟨by kernel_rfl, rfl⟩) ?_
                  refine wpAny_takeD (i := 30) (d := 97) (v := undef) rfl (by kernel_rfl) (by kernel_rfl) (by kernel_rfl) (by kernel_rfl) (fun _ _ _ h => h) (Or.inr ⟨by kernel_rfl, rfl⟩) ?_
                  refine wpAny_takeD (i := 31) (d := 98) (v := undef) rfl (by kernel_rfl) (by kernel_rfl) (by kernel_rfl) (by kernel_rfl) (fun _ _ _ h => h) (Or.inr ⟨by kernel_rfl, rfl⟩) ?_
                  refine wpAny_takeD (i := 32) (d := 99) (v := undef) rfl (by kernel_rfl) (by kernel_rfl) (by kernel_rfl) (by kernel_rfl) (fun _ _ _ h => h) (Or.inr ⟨by kernel_rfl, rfl⟩) ?_
                  refine wpAny_takeD (i := 33) (d := 100) (v := undef) rfl (by kernel_rfl) (by kernel_rfl) (by kernel_rfl) (by kernel_rfl) (fun _ _ _ h => h) (Or.inr ⟨by kernel_rfl, rfl⟩) ?_
                  refine wpAny_takeD (i := 34) (d := 101) (v := undef) rfl (by kernel_rfl) (by kernel_rfl) (by kernel_rfl) (by kernel_rfl) (fun _ _ _ h => h) (Or.inr ⟨by kernel_rfl, rfl⟩) ?_
                  refine wpAny_takeD (i := 35) (d := 102) (v := undef) rfl (by kernel_rfl) (by kernel_rfl) (by kernel_rfl) (by kernel_rfl) (fun _ _ _ h => h) (Or.inr ⟨by kernel_rfl, rfl⟩) ?_
                  refine wpAny_takeD (i := 36) (d := 103) (v := .bool false) rfl (by kernel_rfl) (by kernel_rfl) (by kernel_rfl) (by kernel_rfl) (fun _ _ _ h => h) (Or.inl ⟨by kernel_rfl, fun W => by go_simp⟩) ?_
                  refine wpAny_done (by kernel_rfl) ?_ _
                  go_step
                  go_simp
                  go_wp2_with fail
                  go_roundw
                  case rel => exact ⟨i + 1, by omega, by go_num, Bn2, Rn2⟩
                  case measure => simp [intOf]; omega
                · obtain ⟨q1, q2, q3⟩ := CheckW.low his (hbC.1 rfl) (hbL.1 rfl)
                  obtain ⟨gP, oP, rfl, hgP, hcP⟩ := rdP (by omega)
                  have hc0 := hcP 0 (by omega)
                  obtain ⟨y, hy⟩ : ∃ y, nth l1[i].P 0 = y := ⟨_, rfl⟩
                  rw [hy] at hc0 q2 q3
                  obtain rfl : t = 1 := by omega
                  have HC := Lib.hid (fun (u : World) (b : Below wr.drew.heap.size wr.drew u) => (b.cell (p := ⟨gP, oP, none⟩) hgP).trans hc0)
                  have C3 := Lib.hid (fun u => refIs11 y (by omega) true ⟨fun _ => q3, fun _ => rfl⟩ u)
                  subst hA
                  clear hall rG rQ eG eQ RP hcP hy ht hbC hbL wP lP hc0 q1 q3
                  go_wp2_with fail
                  refine wp_region_any (by kernel_rfl) ?_
                  change wpAny _ _ _ _ _ _ _ wr.drew
                  refine wpAny_takeD (i := 0) (d := 67) (v := .slice (some ⟨g, o, none⟩) n c1) rfl (by kernel_rfl) (by kernel_rfl) (by kernel_rfl) (by kernel_rfl) (fun _ _ _ h => h) (Or.inl ⟨by kernel_rfl, fun W => by go_simp⟩) ?_
                  refine wpAny_takeD (i := 1) (d := 68) (v := .int .i64 (i : Int)) rfl (by kernel_rfl) (by kernel_rfl) (by kernel_rfl) (by kernel_rfl) (fun _ _ _ h => h) (Or.inl ⟨by kernel_rfl, fun W => by go_simp⟩) ?_
                  refine wpAny_takeD (i := 2) (d := 69) (v := .pointer (some ⟨g, o + i * 3, none⟩)) rfl (by kernel_rfl) (by kernel_rfl) (by kernel_rfl) (by kernel_rfl) (fun _ _ _ h => h) (Or.inl ⟨by kernel_rfl, fun W => by go_simp⟩) ?_
                  refine wpAny_takeD (i := 3) (d := 70) (v := .pointer (some ⟨g, o + i * 3, none⟩)) rfl (by kernel_rfl) (by kernel_rfl) (by kernel_rfl) (by kernel_rfl) (fun _ _ _ h => h) (Or.inl ⟨by kernel_rfl, fun W => by go_simp⟩) ?_
                  refine wpAny_takeD (i := 5) (d := 72) (v := .slice (some ⟨g, o, none⟩) n c1) rfl (by kernel_rfl) (by kernel_rfl) (by kernel_rfl) (by kernel_rfl) (fun _ _ _ h => h) (Or.inl ⟨by kernel_rfl, fun W => by go_simp⟩) ?_
                  refine wpAny_takeD (i := 6) (d := 73) (v := .int .i64 (i : Int)) rfl (by kernel_rfl) (by kernel_rfl) (by kernel_rfl) (by kernel_rfl) (fun _ _ _ h => h) (Or.inl ⟨by kernel_rfl, fun W => by go_simp⟩) ?_
                  refine wpAny_takeD (i := 7) (d := 74) (v := .int .i64 ((i : Int) + 1)) rfl (by kernel_rfl) (by kernel_rfl) (by kernel_rfl) (by kernel_rfl) (fun _ _ _ h => h) (Or.inl ⟨by kernel_rfl, fun W => by first | (go_simp; done) | (go_simp; exact HWI.out)⟩) ?_
                  refine wpAny_takeD (i := 8) (d := 75) (v := .slice (some ⟨g, o, none⟩) (i + 1) c1) rfl (by kernel_rfl) (by kernel_rfl) (by kernel_rfl) (by kernel_rfl) (fun _ _ _ h => h) (Or.inl ⟨by kernel_rfl, fun W => by first | (go_simp; done) | (go_simp; intro h; exact absurd (h (by omega)) (by omega))⟩) ?_
                  refine wpAny_ready (rs := [4]) (by kernel_rfl) (by simp) (AllReady.cons rfl (fun K hK => ?_) AllReady.nil)
                  go_simp
                  refine hK _ _ ?_
                  clear hK K
                  refine wpAny_ready (rs := [9]) (by kernel_rfl) (by simp) (AllReady.cons rfl (fun K hK => ?_) AllReady.nil)
                  go_simp
                  refine (C1.out).mono ?_
                  rintro e u1 ⟨rfl, b1⟩
                  have Bn := Lib.hid (below_step hB.out b1)
                  have Rn := Lib.hid (hR.out.step11 b1)
                  have Bw := Lib.hid b1
                  clear b1
                  go_wp2_with fail
                  refine wpAny_takeD (i := 10) (d := 77) (v := .bool true) rfl (by kernel_rfl) (by kernel_rfl) (by kernel_rfl) (by kernel_rfl) (fun _ _ _ h => h) (Or.inl ⟨by kernel_rfl, fun W => by go_simp⟩) ?_
                  refine wpAny_takeD (i := 11) (d := 78) (v := .slice (some ⟨g, o, none⟩) n c1) rfl (by kernel_rfl) (by kernel_rfl) (by kernel_rfl) (by kernel_rfl) (fun _ _ _ h => h) (Or.inl ⟨by kernel_rfl, fun W => by go_simp⟩) ?_
                  refine wpAny_takeD (i := 12) (d := 79) (v := .int .i64 (i : Int)) rfl (by kernel_rfl) (by kernel_rfl) (by kernel_rfl) (by kernel_rfl) (fun _ _ _ h => h) (Or.inl ⟨by kernel_rfl, fun W => by go_simp⟩) ?_
                  refine wpAny_takeD (i := 13) (d := 80) (v := .int .i64 ((i : Int) + 1)) rfl (by kernel_rfl) (by kernel_rfl) (by kernel_rfl) (by kernel_rfl) (fun _ _ _ h => h) (Or.inl ⟨by kernel_rfl, fun W => by first | (go_simp; done) | (go_simp; exact HWI.out)⟩) ?_
                  refine wpAny_takeD (i := 14) (d := 81) (v := .slice (some ⟨g, o, none⟩) (i + 1) c1) rfl (by kernel_rfl) (by kernel_rfl) (by kernel_rfl) (by kernel_rfl) (fun _ _ _ h => h) (Or.inl ⟨by kernel_rfl, fun W => by first | (go_simp; done) | (go_simp; intro h; exact absurd (h (by omega)) (by omega))⟩) ?_
                  refine wpAny_ready (rs := [15]) (by kernel_rfl) (by simp) (AllReady.cons rfl (fun K hK => ?_) AllReady.nil)
                  go_simp
                  refine (C2.out u1 Rn).mono ?_
                  rintro e u2 ⟨rfl, hd⟩
                  have Bn2 := Lib.hid (below_step Bn.out hd.below11)
                  have Rn2 := Lib.hid (Rn.out.step11 hd.below11)
                  have Bw2 := below_step Bw.out hd.below11
                  have e1 := HP.out u2 Bw2
                  have e2 := HC.out u2 Bw2
                  clear hd Bw2
                  go_wp2_with fail
                  refine wpAny_takeD (i := 16) (d := 83) (v := .bool true) rfl (by kernel_rfl) (by kernel_rfl) (by kernel_rfl) (by kernel_rfl) (fun _ _ _ h => h) (Or.inl ⟨by kernel_rfl, fun W => by go_simp⟩) ?_
                  refine wpAny_takeD (i := 17) (d := 84) (v := .bool true) rfl (by kernel_rfl) (by kernel_rfl) (by kernel_rfl) (by kernel_rfl) (fun _ _ _ h => h) (Or.inl ⟨by kernel_rfl, fun W => by go_simp⟩) ?_
                  refine wpAny_takeD (i := 18) (d := 85) (v := .slice (some ⟨g, o, none⟩) n c1) rfl (by kernel_rfl) (by kernel_rfl) (by kernel_rfl) (by kernel_rfl) (fun _ _ _ h => h) (Or.inl ⟨by kernel_rfl, fun W => by go_simp⟩) ?_
                  refine wpAny_takeD (i := 19) (d := 86) (v := .int .i64 (i : Int)) rfl (by kernel_rfl) (by kernel_rfl) (by kernel_rfl) (by kernel_rfl) (fun _ _ _ h => h) (Or.inl ⟨by kernel_rfl, fun W => by go_simp⟩) ?_
                  refine wpAny_takeD (i := 20) (d := 87) (v := .pointer (some ⟨g, o + i * 3, none⟩)) rfl (by kernel_rfl) (by kernel_rfl) (by kernel_rfl) (by kernel_rfl) (fun _ _ _ h => h) (Or.inl ⟨by kernel_rfl, fun W => by go_simp⟩) ?_
                  refine wpAny_takeD (i := 21) (d := 88) (v := .pointer (some ⟨g, o + i * 3, none⟩)) rfl (by kernel_rfl) (by kernel_rfl) (by kernel_rfl) (by kernel_rfl) (fun _ _ _ h => h) (Or.inl ⟨by kernel_rfl, fun W => by go_simp⟩) ?_
                  refine wpAny_ready (rs := [22]) (by kernel_rfl) (by simp) (AllReady.cons rfl (fun K hK => ?_) AllReady.nil)
                  go_simp
                  refine hK _ _ ?_
                  clear hK K
                  refine wpAny_ready (rs := [23]) (by kernel_rfl) (by simp) (AllReady.cons rfl (fun K hK => ?_) AllReady.nil)
                  go_simp
                  refine hK _ _ ?_
                  clear hK K
                  refine wpAny_takeD (i := 24) (d := 91) (v := .bool false) rfl (by kernel_rfl) (by kernel_rfl) (by kernel_rfl) (by kernel_rfl) (fun _ _ _ h => h) (Or.inl ⟨by kernel_rfl, fun W => by go_simp⟩) ?_
                  refine wpAny_takeD (i := 25) (d := 92) (v := .bool false) rfl (by kernel_rfl) (by kernel_rfl) (by kernel_rfl) (by kernel_rfl) (fun _ _ _ h => h) (Or.inl ⟨by kernel_rfl, fun W => by go_simp⟩) ?_
                  refine wpAny_takeD (i := 26) (d := 93) (v := .slice (some ⟨g, o, none⟩) n c1) rfl (by kernel_rfl) (by kernel_rfl) (by kernel_rfl) (by kernel_rfl) (fun _ _ _ h => h) (Or.inl ⟨by kernel_rfl, fun W => by go_simp⟩) ?_
                  refine wpAny_takeD (i := 27) (d := 94) (v := .int .i64 (i : Int)) rfl (by kernel_rfl) (by kernel_rfl) (by kernel_rfl) (by kernel_rfl) (fun _ _ _ h => h) (Or.inl ⟨by kernel_rfl, fun W => by go_simp⟩) ?_
                  refine wpAny_takeD (i := 28) (d := 95) (v := .pointer (some ⟨g, o + i * 3, none⟩)) rfl (by kernel_rfl) (by kernel_rfl) (by kernel_rfl) (by kernel_rfl) (fun _ _ _ h => h) (Or.inl ⟨by kernel_rfl, fun W => by go_simp⟩) ?_
                  refine wpAny_takeD (i := 29) (d := 96) (v := .pointer (some ⟨g, o + i * 3, none⟩)) rfl (by kernel_rfl) (by kernel_rfl) (by kernel_rfl) (by kernel_rfl) (fun _ _ _ h => h) (Or.inl ⟨by kernel_rfl, fun W => by go_simp⟩) ?_
                  refine wpAny_ready (rs := [30]) (by kernel_rfl) (by simp) (AllReady.cons rfl (fun K hK => ?_) AllReady.nil)
                  go_simp
                  refine hK _ _ ?_
                  clear hK K
                  refine wpAny_takeD (i := 31) (d := 98) (v := .pointer (some ⟨gP, oP, none⟩)) rfl (by kernel_rfl) (by kernel_rfl) (by kernel_rfl) (by kernel_rfl) (fun _ _ _ h => h) (Or.inl ⟨by kernel_rfl, fun W => by go_simp⟩) ?_
                  refine wpAny_ready (rs := [32]) (by kernel_rfl) (by simp) (AllReady.cons rfl (fun K hK => ?_) AllReady.nil)
                  go_simp
                  refine hK _ _ ?_
                  clear hK K
                  refine wpAny_ready (rs := [33]) (by kernel_rfl) (by simp) (AllReady.cons rfl (fun K hK => ?_) AllReady.nil)
                  go_simp
                  refine (C3.out u2).mono ?_
                  rintro e u3 ⟨rfl, rfl⟩
                  go_wp2_with fail
                  refine wpAny_takeD (i := 34) (d := 101) (v := .bool false) rfl (by kernel_rfl) (by kernel_rfl) (by kernel_rfl) (by kernel_rfl) (fun _ _ _ h => h) (Or.inl ⟨by kernel_rfl, fun W => by go_simp⟩) ?_
                  refine wpAny_takeD (i := 35) (d := 102) (v := .bool false) rfl (by kernel_rfl) (by kernel_rfl) (by kernel_rfl) (by kernel_rfl) (fun _ _ _ h => h) (Or.inl ⟨by kernel_rfl, fun W => by go_simp⟩) ?_
                  refine wpAny_takeD (i := 36) (d := 103) (v := .bool false) rfl (by kernel_rfl) (by kernel_rfl) (by kernel_rfl) (by kernel_rfl) (fun _ _ _ h => h) (Or.inl ⟨by kernel_rfl, fun W => by go_simp⟩) ?_
                  refine wpAny_done (by kernel_rfl) ?_ _
                  go_step
                  go_simp
                  go_wp2_with fail
                  go_roundw
                  case rel => exact ⟨i + 1, by omega, by go_num, Bn2, Rn2⟩
                  case measure => simp [intOf]; omega
            · obtain rfl : i = n := by omega
              go_wp2_with fail
              refine (HW.out _ (Lib.hid (HLd.out.below hB.out))).mono ?_
              rintro e wz ⟨rfl, bz⟩
              have Bz := Lib.hid (below_step hB.out bz)
              clear bz
              go_wp2_with fail
              go_ret
              exact ⟨rfl, Bz.out⟩
        · skip
          have g16 : decide ((k : Int) < 65536) = false := by simp; omega
          have HT := Lib.hid (fun (ss : List SRaw) (L : Nat) (E : Int) (h : ToldE k ss E) (hl : ss.length = L) => ToldE.high h hl hp (by omega) (by omega))
          clear hF hbI hk hbF r1 hn hm y2 r2 _z2 u2 _u1 z1
          go_enter Tryz.func3, Tryz.ntmps3
          go_wp2_with fail
          refine (CF.out).mono ?_
          rintro e w1 ⟨rfl, hd⟩
          have B1 := Lib.hid hd.below11
          have R1 := Lib.hid (HR.out.step11 hd.below11)
          clear hd
          go_wp2_with fail
          refine (CB.out w1 (Lib.hid (P2.out.step B1.out)) (Lib.hid (HLd.out.below B1.out))).mono ?_
          rintro e w2 ⟨X, L, d, ss, E, rfl, hl, hT, hS, hd, b2⟩
          have B2 := Lib.hid (below_step B1.out b2)
          have R2 := Lib.hid (R1.out.step11 b2)
          have S2 := Lib.hid hS
          clear b2 hS
          obtain ⟨rfl, hL0, hFs, hCs⟩ := HT.out _ _ _ hT hl
          have gL : ((L : Int) == 0) = false := by simp; omega
          have HFs := Lib.hid hFs
          have HCs := Lib.hid hCs
          have HL := Lib.hid hl
          clear hT hl hFs hCs hL0
          go_wp2_with fail
          refine (CI.out w2).mono ?_
          rintro e wi ⟨rfl, rfl⟩
          go_wp2_with fail
          refine (CN.out w2).mono ?_
          rintro e w3 ⟨Y, q, dY, rfl, N3, b3⟩
          have B3 := Lib.hid (below_step B2.out b3)
          have R3 := Lib.hid (R2.out.step11 b3)
          have S3 := Lib.hid (S2.out.step11 b3)
          have N3 := Lib.hid N3
          clear b3
          go_wp2_with fail
          refine (CK.out w3 _ X L d ss true ⟨fun _ => HCs.out, fun _ => rfl⟩ HL.out HFs.out hd N3 S3 (Lib.hid (HLd.out.below B3.out))).mono ?_
          rintro e w4 ⟨rfl, b4⟩
          have B4 := Lib.hid (below_step B3.out b4)
          have R4 := Lib.hid (R3.out.step11 b4)
          clear b4
          go_wp2_with fail
          go_loopw [10] (fun iv wr => ∃ i : Nat, i ≤ n ∧ iv = .int .i64 i ∧ Hid (Below w.heap.size w wr) ∧ Hid (RdSteps wr wr.heap.size A1 l1)) (fun iv _ => n - (intOf iv).toNat)
          case atStart => exact ⟨0, Nat.zero_le _, rfl, B4, R4⟩
          case round =>
            obtain ⟨i, hi, rfl, hB, hR⟩ := hrel
            by_cases hlt : i < n
            · have his : i < l1.length := by rw [HN.out]; exact hlt
              have bd0 : Below wr.heap.size wr wr.drew := (Drawn.more 1).below11
              have hB := Lib.hid (below_step hB.out bd0)
              have hR := Lib.hid (hR.out.step11 bd0)
              clear bd0
              obtain ⟨g, o, hA, hg, hall⟩ := hR.out (by omega)
              obtain ⟨vP, vG, vQ, eP, eG, eQ, rP, rG, rQ⟩ := hall i his
              have RP := Lib.hid rP
              obtain ⟨XP, dP, rfl, rdP, hdP, wP, lP⟩ := rP
              obtain ⟨t, ht⟩ : ∃ t, l1[i].P.length = t := ⟨_, rfl⟩
              obtain ⟨bC, hbC⟩ := some_flag11 (CheckW l1[i].P (l1.take (i + 1)))
              obtain ⟨bL, hbL⟩ := some_flag11 (∀ s ∈ l1.take (i + 1), LowOne s)
              have C1 := CC.out i his bC hbC wr.drew _ RP hR (Lib.hid (HLd.out.below hB.out))
              have C2 := Lib.hid (CL.out i his bL hbL)
              rw [ht] at eP C1
              have C1 := Lib.hid C1
              have hci : i + 1 ≤ c1 := by omega
              have hin : i + 1 ≤ n := by omega
              have HWI := Lib.hid (show IntKind.i64.wrap ((i : Int) + 1) = (i : Int) + 1 from by unfold IntKind.wrap; simp [IntKind.signed, IntKind.bits]; omega)
              have HP := Lib.hid (fun (u : World) (b : Below wr.drew.heap.size wr.drew u) => (b.cell (p := ⟨g, o + i * 3, none⟩) hg).trans eP)
              cases bC
              · subst hA
                clear hall rG rQ eG eQ RP rdP ht hbC hbL wP lP
                go_wp2_with fail
                refine wp_region_any (by kernel_rfl) ?_
                change wpAny _ _ _ _ _ _ _ wr.drew
                refine wpAny_takeD (i := 0) (d := 67) (v := .slice (some ⟨g, o, none⟩) n c1) rfl (by kernel_rfl) (by kernel_rfl) (by kernel_rfl) (by kernel_rfl) (fun _ _ _ h => h) (Or.inl ⟨by kernel_rfl, fun W => by go_simp⟩) ?_
                refine wpAny_takeD (i := 1) (d := 68) (v := .int .i64 (i : Int)) rfl (by kernel_rfl) (by kernel_rfl) (by kernel_rfl) (by kernel_rfl) (fun _ _ _ h => h) (Or.inl ⟨by kernel_rfl, fun W => by go_simp⟩) ?_
                refine wpAny_takeD (i := 2) (d := 69) (v := .pointer (some ⟨g, o + i * 3, none⟩)) rfl (by kernel_rfl) (by kernel_rfl) (by kernel_rfl) (by kernel_rfl) (fun _ _ _ h => h) (Or.inl ⟨by kernel_rfl, fun W => by go_simp⟩) ?_
                refine wpAny_takeD (i := 3) (d := 70) (v := .pointer (some ⟨g, o + i * 3, none⟩)) rfl (by kernel_rfl) (by kernel_rfl) (by kernel_rfl) (by kernel_rfl) (fun _ _ _ h => h) (Or.inl ⟨by kernel_rfl, fun W => by go_simp⟩) ?_
                refine wpAny_takeD (i := 5) (d := 72) (v := .slice (some ⟨g, o, none⟩) n c1) rfl (by kernel_rfl) (by kernel_rfl) (by kernel_rfl) (by kernel_rfl) (fun _ _ _ h => h) (Or.inl ⟨by kernel_rfl, fun W => by go_simp⟩) ?_
                refine wpAny_takeD (i := 6) (d := 73) (v := .int .i64 (i : Int)) rfl (by kernel_rfl) (by kernel_rfl) (by kernel_rfl) (by kernel_rfl) (fun _ _ _ h => h) (Or.inl ⟨by kernel_rfl, fun W => by go_simp⟩) ?_
                refine wpAny_takeD (i := 7) (d := 74) (v := .int .i64 ((i : Int) + 1)) rfl (by kernel_rfl) (by kernel_rfl) (by kernel_rfl) (by kernel_rfl) (fun _ _ _ h => h) (Or.inl ⟨by kernel_rfl, fun W => by first | (go_simp; done) | (go_simp; exact HWI.out)⟩) ?_
                refine wpAny_takeD (i := 8) (d := 75) (v := .slice (some ⟨g, o, none⟩) (i + 1) c1) rfl (by kernel_rfl) (by kernel_rfl) (by kernel_rfl) (by kernel_rfl) (fun _ _ _ h => h) (Or.inl ⟨by kernel_rfl, fun W => by first | (go_simp; done) | (go_simp; intro h; exact absurd (h (by omega)) (by omega))⟩) ?_
                refine wpAny_ready (rs := [4]) (by kernel_rfl) (by simp) (AllReady.cons rfl (fun K hK => ?_) AllReady.nil)
                go_simp
                refine hK _ _ ?_
                clear hK K
                refine wpAny_ready (rs := [9]) (by kernel_rfl) (by simp) (AllReady.cons rfl (fun K hK => ?_) AllReady.nil)
                go_simp
                refine (C1.out).mono ?_
                rintro e u1 ⟨rfl, b1⟩
                have Bn := Lib.hid (below_step hB.out b1)
                have Rn := Lib.hid (hR.out.step11 b1)
                have Bw := Lib.hid b1
                clear b1
                go_wp2_with fail
                refine wpAny_takeD (i := 10) (d := 77) (v := .bool false) rfl (by kernel_rfl) (by kernel_rfl) (by kernel_rfl) (by kernel_rfl) (fun _ _ _ h => h) (Or.inl ⟨by kernel_rfl, fun W => by go_simp⟩) ?_
                refine wpAny_takeD (i := 11) (d := 78) (v := undef) rfl (by kernel_rfl) (by kernel_rfl) (by kernel_rfl) (by kernel_rfl) (fun _ _ _ h => h) (Or.inr ⟨by kernel_rfl, rfl⟩) ?_
                refine wpAny_takeD (i := 12) (d := 79) (v := undef) rfl (by kernel_rfl) (by kernel_rfl) (by kernel_rfl) (by kernel_rfl) (fun _ _ _ h => h) (Or.inr ⟨by kernel_rfl, rfl⟩) ?_
                refine wpAny_takeD (i := 13) (d := 80) (v := undef) rfl (by kernel_rfl) (by kernel_rfl) (by kernel_rfl) (by kernel_rfl) (fun _ _ _ h => h) (Or.inr ⟨by kernel_rfl, rfl⟩) ?_
                refine wpAny_takeD (i := 14) (d := 81) (v := undef) rfl (by kernel_rfl) (by kernel_rfl) (by kernel_rfl) (by kernel_rfl) (fun _ _ _ h => h) (Or.inr ⟨by kernel_rfl, rfl⟩) ?_
                refine wpAny_takeD (i := 15) (d := 82) (v := undef) rfl (by kernel_rfl) (by kernel_rfl) (by kernel_rfl) (by kernel_rfl) (fun _ _ _ h => h) (Or.inr ⟨by kernel_rfl, rfl⟩) ?_
                refine wpAny_takeD (i := 16) (d := 83) (v := .bool false) rfl (by kernel_rfl) (by kernel_rfl) (by kernel_rfl) (by kernel_rfl) (fun _ _ _ h => h) (Or.inl ⟨by kernel_rfl, fun W => by go_simp⟩) ?_
                refine wpAny_takeD (i := 17) (d := 84) (v := .bool false) rfl (by kernel_rfl) (by kernel_rfl) (by kernel_rfl) (by kernel_rfl) (fun _ _ _ h => h) (Or.inl ⟨by kernel_rfl, fun W => by go_simp⟩) ?_
                refine wpAny_takeD (i := 18) (d := 85) (v := undef) rfl (by kernel_rfl) (by kernel_rfl) (by kernel_rfl) (by kernel_rfl) (fun _ _ _ h => h) (Or.inr ⟨by kernel_rfl, rfl⟩) ?_
                refine wpAny_takeD (i := 19) (d := 86) (v := undef) rfl (by kernel_rfl) (by kernel_rfl) (by kernel_rfl) (by kernel_rfl) (fun _ _ _ h => h) (Or.inr ⟨by kernel_rfl, rfl⟩) ?_
                refine wpAny_takeD (i := 20) (d := 87) (v := undef) rfl (by kernel_rfl) (by kernel_rfl) (by kernel_rfl) (by kernel_rfl) (fun _ _ _ h => h) (Or.inr ⟨by kernel_rfl, rfl⟩) ?_
                refine wpAny_takeD (i := 21) (d := 88) (v := undef) rfl (by kernel_rfl) (by kernel_rfl) (by kernel_rfl) (by kernel_rfl) (fun _ _ _ h => h) (Or.inr ⟨by kernel_rfl, rfl⟩) ?_
                refine wpAny_takeD (i := 22) (d := 89) (v := undef) rfl (by kernel_rfl) (by kernel_rfl) (by kernel_rfl) (by kernel_rfl) (fun _ _ _ h => h) (Or.inr ⟨by kernel_rfl, rfl⟩) ?_
                refine wpAny_takeD (i := 23) (d := 90) (v := undef) rfl (by kernel_rfl) (by kernel_rfl) (by kernel_rfl) (by kernel_rfl) (fun _ _ _ h => h) (Or.inr ⟨by kernel_rfl, rfl⟩) ?_
                refine wpAny_takeD (i := 24) (d := 91) (v := undef) rfl (by kernel_rfl) (by kernel_rfl) (by kernel_rfl) (by kernel_rfl) (fun _ _ _ h => h) (Or.inr ⟨by kernel_rfl, rfl⟩) ?_
                refine wpAny_takeD (i := 25) (d := 92) (v := undef) rfl (by kernel_rfl) (by kernel_rfl) (by kernel_rfl) (by kernel_rfl) (fun _ _ _ h => h) (Or.inr ⟨by kernel_rfl, rfl⟩) ?_
                refine wpAny_takeD (i := 26) (d := 93) (v := undef) rfl (by kernel_rfl) (by kernel_rfl) (by kernel_rfl) (by kernel_rfl) (fun _ _ _ h => h) (Or.inr ⟨by kernel_rfl, rfl⟩) ?_
                refine wpAny_takeD (i := 27) (d := 94) (v := undef) rfl (by kernel_rfl) (by kernel_rfl) (by kernel_rfl) (by kernel_rfl) (fun _ _ _ h => h) (Or.inr ⟨by kernel_rfl, rfl⟩) ?_
                refine wpAny_takeD (i := 28) (d := 95) (v := undef) rfl (by kernel_rfl) (by kernel_rfl) (by kernel_rfl) (by kernel_rfl) (fun _ _ _ h => h) (Or.inr ⟨by kernel_rfl, rfl⟩) ?_
                refine wpAny_takeD (i := 29) (d := 96) (v := undef) rfl (by kernel_rfl) (by kernel_rfl) (by kernel_rfl) (by kernel_rfl) (fun _ _ _ h => h) (Or.inr ⟨by kernel_rfl, rfl⟩) ?_
                refine wpAny_takeD (i := 30) (d := 97) (v := undef) rfl (by kernel_rfl) (by kernel_rfl) (by kernel_rfl) (by kernel_rfl) (fun _ _ _ h => h) (Or.inr ⟨by kernel_rfl, rfl⟩) ?_
                refine wpAny_takeD (i := 31) (d := 98) (v := undef) rfl (by kernel_rfl) (by kernel_rfl) (by kernel_rfl) (by kernel_rfl) (fun _ _ _ h => h) (Or.inr ⟨by kernel_rfl, rfl⟩) ?_
                refine wpAny_takeD (i := 32) (d := 99) (v := undef) rfl (by kernel_rfl) (by kernel_rfl) (by kernel_rfl) (by kernel_rfl) (fun _ _ _ h => h) (Or.inr ⟨by kernel_rfl, rfl⟩) ?_
                refine wpAny_takeD (i := 33) (d := 100) (v := undef) rfl (by kernel_rfl) (by kernel_rfl) (by kernel_rfl) (by kernel_rfl) (fun _ _ _ h => h) (Or.inr ⟨by kernel_rfl, rfl⟩) ?_
                refine wpAny_takeD (i := 34) (d := 101) (v := undef) rfl (by kernel_rfl) (by kernel_rfl) (by kernel_rfl) (by kernel_rfl) (fun _ _ _ h => h) (Or.inr ⟨by kernel_rfl, rfl⟩) ?_
                refine wpAny_takeD (i := 35) (d := 102) (v := undef) rfl (by kernel_rfl) (by kernel_rfl) (by kernel_rfl) (by kernel_rfl) (fun _ _ _ h => h) (Or.inr ⟨by kernel_rfl, rfl⟩) ?_
                refine wpAny_takeD (i := 36) (d := 103) (v := .bool false) rfl (by kernel_rfl) (by kernel_rfl) (by kernel_rfl) (by kernel_rfl) (fun _ _ _ h => h) (Or.inl ⟨by kernel_rfl, fun W => by go_simp⟩) ?_
                refine wpAny_done (by kernel_rfl) ?_ _
                go_step
                go_simp
                go_wp2_with fail
                go_roundw
                case rel => exact ⟨i + 1, by omega, by go_num, Bn, Rn⟩
                case measure => simp [intOf]; omega
              · cases bL
                · have HC := HP
                  subst hA
                  clear hall rG rQ eG eQ RP rdP ht hbC hbL wP lP
                  go_wp2_with fail
                  refine wp_region_any (by kernel_rfl) ?_
                  change wpAny _ _ _ _ _ _ _ wr.drew
                  refine wpAny_takeD (i := 0) (d := 67) (v := .slice (some ⟨g, o, none⟩) n c1) rfl (by kernel_rfl) (by kernel_rfl) (by kernel_rfl) (by kernel_rfl) (fun _ _ _ h => h) (Or.inl ⟨by kernel_rfl, fun W => by go_simp⟩) ?_
                  refine wpAny_takeD (i := 1) (d := 68) (v := .int .i64 (i : Int)) rfl (by kernel_rfl) (by kernel_rfl) (by kernel_rfl) (by kernel_rfl) (fun _ _ _ h => h) (Or.inl ⟨by kernel_rfl, fun W => by go_simp⟩) ?_
                  refine wpAny_takeD (i := 2) (d := 69) (v := .pointer (some ⟨g, o + i * 3, none⟩)) rfl (by kernel_rfl) (by kernel_rfl) (by kernel_rfl) (by kernel_rfl) (fun _ _ _ h => h) (Or.inl ⟨by kernel_rfl, fun W => by go_simp⟩) ?_
                  refine wpAny_takeD (i := 3) (d := 70) (v := .pointer (some ⟨g, o + i * 3, none⟩)) rfl (by kernel_rfl) (by kernel_rfl) (by kernel_rfl) (by kernel_rfl) (fun _ _ _ h => h) (Or.inl ⟨by kernel_rfl, fun W => by go_simp⟩) ?_
                  refine wpAny_takeD (i := 5) (d := 72) (v := .slice (some ⟨g, o, none⟩) n c1) rfl (by kernel_rfl) (by kernel_rfl) (by kernel_rfl) (by kernel_rfl) (fun _ _ _ h => h) (Or.inl ⟨by kernel_rfl, fun W => by go_simp⟩) ?_
                  refine wpAny_takeD (i := 6) (d := 73) (v := .int .i64 (i : Int)) rfl (by kernel_rfl) (by kernel_rfl) (by kernel_rfl) (by kernel_rfl) (fun _ _ _ h => h) (Or.inl ⟨by kernel_rfl, fun W => by go_simp⟩) ?_
                  refine wpAny_takeD (i := 7) (d := 74) (v := .int .i64 ((i : Int) + 1)) rfl (by kernel_rfl) (by kernel_rfl) (by kernel_rfl) (by kernel_rfl) (fun _ _ _ h => h) (Or.inl ⟨by kernel_rfl, fun W => by first | (go_simp; done) | (go_simp; exact HWI.out)⟩) ?_
                  refine wpAny_takeD (i := 8) (d := 75) (v := .slice (some ⟨g, o, none⟩) (i + 1) c1) rfl (by kernel_rfl) (by kernel_rfl) (by kernel_rfl) (by kernel_rfl) (fun _ _ _ h => h) (Or.inl ⟨by kernel_rfl, fun W => by first | (go_simp; done) | (go_simp; intro h; exact absurd (h (by omega)) (by omega))⟩) ?_
                  refine wpAny_ready (rs := [4]) (by kernel_rfl) (by simp) (AllReady.cons rfl (fun K hK => ?_) AllReady.nil)
                  go_simp
                  refine hK _ _ ?_
                  clear hK K
                  refine wpAny_ready (rs := [9]) (by kernel_rfl) (by simp) (AllReady.cons rfl (fun K hK => ?_) AllReady.nil)
                  go_simp
                  refine (C1.out).mono ?_
                  rintro e u1 ⟨rfl, b1⟩
                  have Bn := Lib.hid (below_step hB.out b1)
                  have Rn := Lib.hid (hR.out.step11 b1)
                  have Bw := Lib.hid b1
                  clear b1
                  go_wp2_with fail
                  refine wpAny_takeD (i := 10) (d := 77) (v := .bool true) rfl (by kernel_rfl) (by kernel_rfl) (by kernel_rfl) (by kernel_rfl) (fun _ _ _ h => h) (Or.inl ⟨by kernel_rfl, fun W => by go_simp⟩) ?_
                  refine wpAny_takeD (i := 11) (d := 78) (v := .slice (some ⟨g, o, none⟩) n c1) rfl (by kernel_rfl) (by kernel_rfl) (by kernel_rfl) (by kernel_rfl) (fun _ _ _ h => h) (Or.inl ⟨by kernel_rfl, fun W => by go_simp⟩) ?_
                  refine wpAny_takeD (i := 12) (d := 79) (v := .int .i64 (i : Int)) rfl (by kernel_rfl) (by kernel_rfl) (by kernel_rfl) (by kernel_rfl) (fun _ _ _ h => h) (Or.inl ⟨by kernel_rfl, fun W => by go_simp⟩) ?_
                  refine wpAny_takeD (i := 13) (d := 80) (v := .int .i64 ((i : Int) + 1)) rfl (by kernel_rfl) (by kernel_rfl) (by kernel_rfl) (by kernel_rfl) (fun _ _ _ h => h) (Or.inl ⟨by kernel_rfl, fun W => by first | (go_simp; done) | (go_simp; exact HWI.out)⟩) ?_
                  refine wpAny_takeD (i := 14) (d := 81) (v := .slice (some ⟨g, o, none⟩) (i + 1) c1) rfl (by kernel_rfl) (by kernel_rfl) (by kernel_rfl) (by kernel_rfl) (fun _ _ _ h => h) (Or.inl ⟨by kernel_rfl, fun W => by first | (go_simp; done) | (go_simp; intro h; exact absurd (h (by omega)) (by omega))⟩) ?_
                  refine wpAny_ready (rs := [15]) (by kernel_rfl) (by simp) (AllReady.cons rfl (fun K hK => ?_) AllReady.nil)
                  go_simp
                  refine (C2.out u1 Rn).mono ?_
                  rintro e u2 ⟨rfl, hd⟩
                  have Bn2 := Lib.hid (below_step Bn.out hd.below11)
                  have Rn2 := Lib.hid (Rn.out.step11 hd.below11)
                  have Bw2 := below_step Bw.out hd.below11
                  have e1 := HP.out u2 Bw2
                  have e2 := HC.out u2 Bw2
                  clear hd Bw2
                  go_wp2_with fail
                  refine wpAny_takeD (i := 16) (d := 83) (v := .bool false) rfl (by kernel_rfl) (by kernel_rfl) (by kernel_rfl) (by kernel_rfl) (fun _ _ _ h => h) (Or.inl ⟨by kernel_rfl, fun W => by go_simp⟩) ?_
                  refine wpAny_takeD (i := 17) (d := 84) (v := .bool false) rfl (by kernel_rfl) (by kernel_rfl) (by kernel_rfl) (by kernel_rfl) (fun _ _ _ h => h) (Or.inl ⟨by kernel_rfl, fun W => by go_simp⟩) ?_
                  refine wpAny_takeD (i := 18) (d := 85) (v := undef) rfl (by kernel_rfl) (by kernel_rfl) (by kernel_rfl) (by kernel_rfl) (fun _ _ _ h => h) (Or.inr ⟨by kernel_rfl, rfl⟩) ?_
                  refine wpAny_takeD (i := 19) (d := 86) (v := undef) rfl (by kernel_rfl) (by kernel_rfl) (by kernel_rfl) (by kernel_rfl) (fun _ _ _ h => h) (Or.inr ⟨by kernel_rfl, rfl⟩) ?_
                  refine wpAny_takeD (i := 20) (d := 87) (v := undef) rfl (by kernel_rfl) (by kernel_rfl) (by kernel_rfl) (by kernel_rfl) (fun _ _ _ h => h) (Or.inr ⟨by kernel_rfl, rfl⟩) ?_
                  refine wpAny_takeD (i := 21) (d := 88) (v := undef) rfl (by kernel_rfl) (by kernel_rfl) (by kernel_rfl) (by kernel_rfl) (fun _ _ _ h => h) (Or.inr ⟨by kernel_rfl, rfl⟩) ?_
                  refine wpAny_takeD (i := 22) (d := 89) (v := undef) rfl (by kernel_rfl) (by kernel_rfl) (by kernel_rfl) (by kernel_rfl) (fun _ _ _ h => h) (Or.inr ⟨by kernel_rfl, rfl⟩) ?_
                  refine wpAny_takeD (i := 23) (d := 90) (v := undef) rfl (by kernel_rfl) (by kernel_rfl) (by kernel_rfl) (by kernel_rfl) (fun _ _ _ h => h) (Or.inr ⟨by kernel_rfl, rfl⟩) ?_
                  refine wpAny_takeD (i := 24) (d := 91) (v := undef) rfl (by kernel_rfl) (by kernel_rfl) (by kernel_rfl) (by kernel_rfl) (fun _ _ _ h => h) (Or.inr ⟨by kernel_rfl, rfl⟩) ?_
                  refine wpAny_takeD (i := 25) (d := 92) (v := undef) rfl (by kernel_rfl) (by kernel_rfl) (by kernel_rfl) (by kernel_rfl) (fun _ _ _ h => h) (Or.inr ⟨by kernel_rfl, rfl⟩) ?_
                  refine wpAny_takeD (i := 26) (d := 93) (v := undef) rfl (by kernel_rfl) (by kernel_rfl) (by kernel_rfl) (by kernel_rfl) (fun _ _ _ h => h) (Or.inr ⟨by kernel_rfl, rfl⟩) ?_
                  refine wpAny_takeD (i := 27) (d := 94) (v := undef) rfl (by kernel_rfl) (by kernel_rfl) (by kernel_rfl) (by kernel_rfl) (fun _ _ _ h => h) (Or.inr ⟨by kernel_rfl, rfl⟩) ?_
                  refine wpAny_takeD (i := 28) (d := 95) (v := undef) rfl (by kernel_rfl) (by kernel_rfl) (by kernel_rfl) (by kernel_rfl) (fun _ _ _ h => h) (Or.inr ⟨by kernel_rfl, rfl⟩) ?_
                  refine wpAny_takeD (i := 29) (d := 96) (v := undef) rfl (by kernel_rfl) (by kernel_rfl) (by kernel_rfl) (by kernel_rfl) (fun _ _ _ h => h) (Or.inr ⟨by kernel_rfl, rfl⟩) ?_
                  refine wpAny_takeD (i := 30) (d := 97) (v := undef) rfl (by kernel_rfl) (by kernel_rfl) (by kernel_rfl) (by kernel_rfl) (fun _ _ _ h => h) (Or.inr ⟨by kernel_rfl, rfl⟩) ?_
                  refine wpAny_takeD (i := 31) (d := 98) (v := undef) rfl (by kernel_rfl) (by kernel_rfl) (by kernel_rfl) (by kernel_rfl) (fun _ _ _ h => h) (Or.inr ⟨by kernel_rfl, rfl⟩) ?_
                  refine wpAny_takeD (i := 32) (d := 99) (v := undef) rfl (by kernel_rfl) (by kernel_rfl) (by kernel_rfl) (by kernel_rfl) (fun _ _ _ h => h) (Or.inr ⟨by kernel_rfl, rfl⟩) ?_
                  refine wpAny_takeD (i := 33) (d := 100) (v := undef) rfl (by kernel_rfl) (by kernel_rfl) (by kernel_rfl) (by kernel_rfl) (fun _ _ _ h => h) (Or.inr ⟨by kernel_rfl, rfl⟩) ?_
                  refine wpAny_takeD (i := 34) (d := 101) (v := undef) rfl (by kernel_rfl) (by kernel_rfl) (by kernel_rfl) (by kernel_rfl) (fun _ _ _ h => h) (Or.inr ⟨by kernel_rfl, rfl⟩) ?_
                  refine wpAny_takeD (i := 35) (d := 102) (v := undef) rfl (by kernel_rfl) (by kernel_rfl) (by kernel_rfl) (by kernel_rfl) (fun _ _ _ h => h) (Or.inr ⟨by kernel_rfl, rfl⟩) ?_
                  refine wpAny_takeD (i := 36) (d := 103) (v := .bool false) rfl (by kernel_rfl) (by kernel_rfl) (by kernel_rfl) (by kernel_rfl) (fun _ _ _ h => h) (Or.inl ⟨by kernel_rfl, fun W => by go_simp⟩) ?_
                  refine wpAny_done (by kernel_rfl) ?_ _
                  go_step
                  go_simp
                  go_wp2_with fail
                  go_roundw
                  case rel => exact ⟨i + 1, by omega, by go_num, Bn2, Rn2⟩
                  case measure => simp [intOf]; omega
                · obtain ⟨q1, q2, q3⟩ := CheckW.low his (hbC.1 rfl) (hbL.1 rfl)
                  obtain ⟨gP, oP, rfl, hgP, hcP⟩ := rdP (by omega)
                  have hc0 := hcP 0 (by omega)
                  obtain ⟨y, hy⟩ : ∃ y, nth l1[i].P 0 = y := ⟨_, rfl⟩
                  rw [hy] at hc0 q2 q3
                  obtain rfl : t = 1 := by omega
                  have HC := Lib.hid (fun (u : World) (b : Below wr.drew.heap.size wr.drew u) => (b.cell (p := ⟨gP, oP, none⟩) hgP).trans hc0)
                  have C3 := Lib.hid (fun u => refIs11 y (by omega) true ⟨fun _ => q3, fun _ => rfl⟩ u)
                  subst hA
                  clear hall rG rQ eG eQ RP hcP hy ht hbC hbL wP lP hc0 q1 q3
                  go_wp2_with fail
                  refine wp_region_any (by kernel_rfl) ?_
                  change wpAny _ _ _ _ _ _ _ wr.drew
                  refine wpAny_takeD (i := 0) (d := 67) (v := .slice (some ⟨g, o, none⟩) n c1) rfl (by kernel_rfl) (by kernel_rfl) (by kernel_rfl) (by kernel_rfl) (fun _ _ _ h => h) (Or.inl ⟨by kernel_rfl, fun W => by go_simp⟩) ?_
                  refine wpAny_takeD (i := 1) (d := 68) (v := .int .i64 (i : Int)) rfl (by kernel_rfl) (by kernel_rfl) (by kernel_rfl) (by kernel_rfl) (fun _ _ _ h => h) (Or.inl ⟨by kernel_rfl, fun W => by go_simp⟩) ?_
                  refine wpAny_takeD (i := 2) (d := 69) (v := .pointer (some ⟨g, o + i * 3, none⟩)) rfl (by kernel_rfl) (by kernel_rfl) (by kernel_rfl) (by kernel_rfl) (fun _ _ _ h => h) (Or.inl ⟨by kernel_rfl, fun W => by go_simp⟩) ?_
                  refine wpAny_takeD (i := 3) (d := 70) (v := .pointer (some ⟨g, o + i * 3, none⟩)) rfl (by kernel_rfl) (by kernel_rfl) (by kernel_rfl) (by kernel_rfl) (fun _ _ _ h => h) (Or.inl ⟨by kernel_rfl, fun W => by go_simp⟩) ?_
                  refine wpAny_takeD (i := 5) (d := 72) (v := .slice (some ⟨g, o, none⟩) n c1) rfl (by kernel_rfl) (by kernel_rfl) (by kernel_rfl) (by kernel_rfl) (fun _ _ _ h => h) (Or.inl ⟨by kernel_rfl, fun W => by go_simp⟩) ?_
                  refine wpAny_takeD (i := 6) (d := 73) (v := .int .i64 (i : Int)) rfl (by kernel_rfl) (by kernel_rfl) (by kernel_rfl) (by kernel_rfl) (fun _ _ _ h => h) (Or.inl ⟨by kernel_rfl, fun W => by go_simp⟩) ?_
                  refine wpAny_takeD (i := 7) (d := 74) (v := .int .i64 ((i : Int) + 1)) rfl (by kernel_rfl) (by kernel_rfl) (by kernel_rfl) (by kernel_rfl) (fun _ _ _ h => h) (Or.inl ⟨by kernel_rfl, fun W => by first | (go_simp; done) | (go_simp; exact HWI.out)⟩) ?_
                  refine wpAny_takeD (i := 8) (d := 75) (v := .slice (some ⟨g, o, none⟩) (i + 1) c1) rfl (by kernel_rfl) (by kernel_rfl) (by kernel_rfl) (by kernel_rfl) (fun _ _ _ h => h) (Or.inl ⟨by kernel_rfl, fun W => by first | (go_simp; done) | (go_simp; intro h; exact absurd (h (by omega)) (by omega))⟩) ?_
                  refine wpAny_ready (rs := [4]) (by kernel_rfl) (by simp) (AllReady.cons rfl (fun K hK => ?_) AllReady.nil)
                  go_simp
                  refine hK _ _ ?_
                  clear hK K
                  refine wpAny_ready (rs := [9]) (by kernel_rfl) (by simp) (AllReady.cons rfl (fun K hK => ?_) AllReady.nil)
                  go_simp
                  refine (C1.out).mono ?_
                  rintro e u1 ⟨rfl, b1⟩
                  have Bn := Lib.hid (below_step hB.out b1)
                  have Rn := Lib.hid (hR.out.step11 b1)
                  have Bw := Lib.hid b1
                  clear b1
                  go_wp2_with fail
                  refine wpAny_takeD (i := 10) (d := 77) (v := .bool true) rfl (by kernel_rfl) (by kernel_rfl) (by kernel_rfl) (by kernel_rfl) (fun _ _ _ h => h) (Or.inl ⟨by kernel_rfl, fun W => by go_simp⟩) ?_
                  refine wpAny_takeD (i := 11) (d := 78) (v := .slice (some ⟨g, o, none⟩) n c1) rfl (by kernel_rfl) (by kernel_rfl) (by kernel_rfl) (by kernel_rfl) (fun _ _ _ h => h) (Or.inl ⟨by kernel_rfl, fun W => by go_simp⟩) ?_
                  refine wpAny_takeD (i := 12) (d := 79) (v := .int .i64 (i : Int)) rfl (by kernel_rfl) (by kernel_rfl) (by kernel_rfl) (by kernel_rfl) (fun _ _ _ h => h) (Or.inl ⟨by kernel_rfl, fun W => by go_simp⟩) ?_
                  refine wpAny_takeD (i := 13) (d := 80) (v := .int .i64 ((i : Int) + 1)) rfl (by kernel_rfl) (by kernel_rfl) (by kernel_rfl) (by kernel_rfl) (fun _ _ _ h => h) (Or.inl ⟨by kernel_rfl, fun W => by first | (go_simp; done) | (go_simp; exact HWI.out)⟩) ?_
                  refine wpAny_takeD (i := 14) (d := 81) (v := .slice (some ⟨g, o, none⟩) (i + 1) c1) rfl (by kernel_rfl) (by kernel_rfl) (by kernel_rfl) (by kernel_rfl) (fun _ _ _ h => h) (Or.inl ⟨by kernel_rfl, fun W => by first | (go_simp; done) | (go_simp; intro h; exact absurd (h (by omega)) (by omega))⟩) ?_
                  refine wpAny_ready (rs := [15]) (by kernel_rfl) (by simp) (AllReady.cons rfl (fun K hK => ?_) AllReady.nil)
                  go_simp
                  refine (C2.out u1 Rn).mono ?_
                  rintro e u2 ⟨rfl, hd⟩
                  have Bn2 := Lib.hid (below_step Bn.out hd.below11)
                  have Rn2 := Lib.hid (Rn.out.step11 hd.below11)
                  have Bw2 := below_step Bw.out hd.below11
                  have e1 := HP.out u2 Bw2
                  have e2 := HC.out u2 Bw2
                  clear hd Bw2
                  go_wp2_with fail
                  refine wpAny_takeD (i := 16) (d := 83) (v := .bool true) rfl (by kernel_rfl) (by kernel_rfl) (by kernel_rfl) (by kernel_rfl) (fun _ _ _ h => h) (Or.inl ⟨by kernel_rfl, fun W => by go_simp⟩) ?_
                  refine wpAny_takeD (i := 17) (d := 84) (v := .bool true) rfl (by kernel_rfl) (by kernel_rfl) (by kernel_rfl) (by kernel_rfl) (fun _ _ _ h => h) (Or.inl ⟨by kernel_rfl, fun W => by go_simp⟩) ?_
                  refine wpAny_takeD (i := 18) (d := 85) (v := .slice (some ⟨g, o, none⟩) n c1) rfl (by kernel_rfl) (by kernel_rfl) (by kernel_rfl) (by kernel_rfl) (fun _ _ _ h => h) (Or.inl ⟨by kernel_rfl, fun W => by go_simp⟩) ?_
                  refine wpAny_takeD (i := 19) (d := 86) (v := .int .i64 (i : Int)) rfl (by kernel_rfl) (by kernel_rfl) (by kernel_rfl) (by kernel_rfl) (fun _ _ _ h => h) (Or.inl ⟨by kernel_rfl, fun W => by go_simp⟩) ?_
                  refine wpAny_takeD (i := 20) (d := 87) (v := .pointer (some ⟨g, o + i * 3, none⟩)) rfl (by kernel_rfl) (by kernel_rfl) (by kernel_rfl) (by kernel_rfl) (fun _ _ _ h => h) (Or.inl ⟨by kernel_rfl, fun W => by go_simp⟩) ?_
                  refine wpAny_takeD (i := 21) (d := 88) (v := .pointer (some ⟨g, o + i * 3, none⟩)) rfl (by kernel_rfl) (by kernel_rfl) (by kernel_rfl) (by kernel_rfl) (fun _ _ _ h => h) (Or.inl ⟨by kernel_rfl, fun W => by go_simp⟩) ?_
                  refine wpAny_ready (rs := [22]) (by kernel_rfl) (by simp) (AllReady.cons rfl (fun K hK => ?_) AllReady.nil)
                  go_simp
                  refine hK _ _ ?_
                  clear hK K
                  refine wpAny_ready (rs := [23]) (by kernel_rfl) (by simp) (AllReady.cons rfl (fun K hK => ?_) AllReady.nil)
                  go_simp
                  refine hK _ _ ?_
                  clear hK K
                  refine wpAny_takeD (i := 24) (d := 91) (v := .bool false) rfl (by kernel_rfl) (by kernel_rfl) (by kernel_rfl) (by kernel_rfl) (fun _ _ _ h => h) (Or.inl ⟨by kernel_rfl, fun W => by go_simp⟩) ?_
                  refine wpAny_takeD (i := 25) (d := 92) (v := .bool false) rfl (by kernel_rfl) (by kernel_rfl) (by kernel_rfl) (by kernel_rfl) (fun _ _ _ h => h) (Or.inl ⟨by kernel_rfl, fun W => by go_simp⟩) ?_
                  refine wpAny_takeD (i := 26) (d := 93) (v := .slice (some ⟨g, o, none⟩) n c1) rfl (by kernel_rfl) (by kernel_rfl) (by kernel_rfl) (by kernel_rfl) (fun _ _ _ h => h) (Or.inl ⟨by kernel_rfl, fun W => by go_simp⟩) ?_
                  refine wpAny_takeD (i := 27) (d := 94) (v := .int .i64 (i : Int)) rfl (by kernel_rfl) (by kernel_rfl) (by kernel_rfl) (by kernel_rfl) (fun _ _ _ h => h) (Or.inl ⟨by kernel_rfl, fun W => by go_simp⟩) ?_
                  refine wpAny_takeD (i := 28) (d := 95) (v := .pointer (some ⟨g, o + i * 3, none⟩)) rfl (by kernel_rfl) (by kernel_rfl) (by kernel_rfl) (by kernel_rfl) (fun _ _ _ h => h) (Or.inl ⟨by kernel_rfl, fun W => by go_simp⟩) ?_
                  refine wpAny_takeD (i := 29) (d := 96) (v := .pointer (some ⟨g, o + i * 3, none⟩)) rfl (by kernel_rfl) (by kernel_rfl) (by kernel_rfl) (by kernel_rfl) (fun _ _ _ h => h) (Or.inl ⟨by kernel_rfl, fun W => by go_simp⟩) ?_
                  refine wpAny_ready (rs := [30]) (by kernel_rfl) (by simp) (AllReady.cons rfl (fun K hK => ?_) AllReady.nil)
                  go_simp
                  refine hK _ _ ?_
                  clear hK K
                  refine wpAny_takeD (i := 31) (d := 98) (v := .pointer (some ⟨gP, oP, none⟩)) rfl (by kernel_rfl) (by kernel_rfl) (by kernel_rfl) (by kernel_rfl) (fun _ _ _ h => h) (Or.inl ⟨by kernel_rfl, fun W => by go_simp⟩) ?_
                  refine wpAny_ready (rs := [32]) (by kernel_rfl) (by simp) (AllReady.cons rfl (fun K hK => ?_) AllReady.nil)
                  go_simp
                  refine hK _ _ ?_
                  clear hK K
                  refine wpAny_ready (rs := [33]) (by kernel_rfl) (by simp) (AllReady.cons rfl (fun K hK => ?_) AllReady.nil)
                  go_simp
                  refine (C3.out u2).mono ?_
                  rintro e u3 ⟨rfl, rfl⟩
                  go_wp2_with fail
                  refine wpAny_takeD (i := 34) (d := 101) (v := .bool false) rfl (by kernel_rfl) (by kernel_rfl) (by kernel_rfl) (by kernel_rfl) (fun _ _ _ h => h) (Or.inl ⟨by kernel_rfl, fun W => by go_simp⟩) ?_
                  refine wpAny_takeD (i := 35) (d := 102) (v := .bool false) rfl (by kernel_rfl) (by kernel_rfl) (by kernel_rfl) (by kernel_rfl) (fun _ _ _ h => h) (Or.inl ⟨by kernel_rfl, fun W => by go_simp⟩) ?_
                  refine wpAny_takeD (i := 36) (d := 103) (v := .bool false) rfl (by kernel_rfl) (by kernel_rfl) (by kernel_rfl) (by kernel_rfl) (fun _ _ _ h => h) (Or.inl ⟨by kernel_rfl, fun W => by go_simp⟩) ?_
                  refine wpAny_done (by kernel_rfl) ?_ _
                  go_step
                  go_simp
                  go_wp2_with fail
                  go_roundw
                  case rel => exact ⟨i + 1, by omega, by go_num, Bn2, Rn2⟩
                  case measure => simp [intOf]; omega
            · obtain rfl : i = n := by omega
              go_wp2_with fail
              refine (HW.out _ (Lib.hid (HLd.out.below hB.out))).mono ?_
              rintro e wz ⟨rfl, bz⟩
              have Bz := Lib.hid (below_step hB.out bz)
              clear bz
              go_wp2_with fail
              go_ret
              exact ⟨rfl, Bz.out⟩
      · skip
        have hbI0 : bI = false := by cases hq : bI with | false => rfl | true => exact absurd (hbI.1 hq) hp
        subst hbI0
        have HY := Lib.hid (show ¬ CheckW (OneW k) l1 from fun h => hp (h.word (by omega)))
        have HT := Lib.hid (fun (ss : List SRaw) (L : Nat) (E : Int) (h : ToldE k ss E) (hl : ss.length = L) => ToldE.no h hl hp)
        clear hF hbI hk hbF r1 hn hm y2 r2 _z2 u2 _u1 z1
        go_enter Tryz.func3, Tryz.ntmps3
        go_wp2_with fail
        refine (CF.out).mono ?_
        rintro e w1 ⟨rfl, hd⟩
        have B1 := Lib.hid hd.below11
        have R1 := Lib.hid (HR.out.step11 hd.below11)
        clear hd
        go_wp2_with fail
        refine (CB.out w1 (Lib.hid (P2.out.step B1.out)) (Lib.hid (HLd.out.below B1.out))).mono ?_
        rintro e w2 ⟨X, L, d, ss, E, rfl, hl, hT, hS, hd, b2⟩
        have B2 := Lib.hid (below_step B1.out b2)
        have R2 := Lib.hid (R1.out.step11 b2)
        have S2 := Lib.hid hS
        clear b2 hS
        obtain ⟨rfl, rfl, rfl⟩ := HT.out _ _ _ hT hl
        clear hT hl
        go_wp2_with fail
        refine (CI.out w2).mono ?_
        rintro e wi ⟨rfl, rfl⟩
        go_wp2_with fail
        refine (CN.out w2).mono ?_
        rintro e w3 ⟨Y, q, dY, rfl, N3, b3⟩
        have B3 := Lib.hid (below_step B2.out b3)
        have R3 := Lib.hid (R2.out.step11 b3)
        have S3 := Lib.hid (S2.out.step11 b3)
        have N3 := Lib.hid N3
        clear b3
        go_wp2_with fail
        refine (CK.out w3 _ A1 n c1 l1 false ⟨fun h => (by cases h), fun h => absurd h HY.out⟩ HN.out HF.out hz1 N3 R3 (Lib.hid (HLd.out.below B3.out))).mono ?_
        rintro e w4 ⟨rfl, b4⟩
        have B4 := Lib.hid (below_step B3.out b4)
        have R4 := Lib.hid (R3.out.step11 b4)
        clear b4
        go_wp2_with fail
        go_loopw [10] (fun iv wr => ∃ i : Nat, i ≤ n ∧ iv = .int .i64 i ∧ Hid (Below w.heap.size w wr) ∧ Hid (RdSteps wr wr.heap.size A1 l1)) (fun iv _ => n - (intOf iv).toNat)
        case atStart => exact ⟨0, Nat.zero_le _, rfl, B4, R4⟩
        case round =>
          obtain ⟨i, hi, rfl, hB, hR⟩ := hrel
          by_cases hlt : i < n
          · have his : i < l1.length := by rw [HN.out]; exact hlt
            have bd0 : Below wr.heap.size wr wr.drew := (Drawn.more 1).below11
            have hB := Lib.hid (below_step hB.out bd0)
            have hR := Lib.hid (hR.out.step11 bd0)
            clear bd0
            obtain ⟨g, o, hA, hg, hall⟩ := hR.out (by omega)
            obtain ⟨vP, vG, vQ, eP, eG, eQ, rP, rG, rQ⟩ := hall i his
            have RP := Lib.hid rP
            obtain ⟨XP, dP, rfl, rdP, hdP, wP, lP⟩ := rP
            obtain ⟨t, ht⟩ : ∃ t, l1[i].P.length = t := ⟨_, rfl⟩
            obtain ⟨bC, hbC⟩ := some_flag11 (CheckW l1[i].P (l1.take (i + 1)))
            obtain ⟨bL, hbL⟩ := some_flag11 (∀ s ∈ l1.take (i + 1), LowOne s)
            have C1 := CC.out i his bC hbC wr.drew _ RP hR (Lib.hid (HLd.out.below hB.out))
            have C2 := Lib.hid (CL.out i his bL hbL)
            rw [ht] at eP C1
            have C1 := Lib.hid C1
            have hci : i + 1 ≤ c1 := by omega
            have hin : i + 1 ≤ n := by omega
            have HWI := Lib.hid (show IntKind.i64.wrap ((i : Int) + 1) = (i : Int) + 1 from by unfold IntKind.wrap; simp [IntKind.signed, IntKind.bits]; omega)
            have HP := Lib.hid (fun (u : World) (b : Below wr.drew.heap.size wr.drew u) => (b.cell (p := ⟨g, o + i * 3, none⟩) hg).trans eP)
            cases bC
            · subst hA
              clear hall rG rQ eG eQ RP rdP ht hbC hbL wP lP
              go_wp2_with fail
              refine wp_region_any (by kernel_rfl) ?_
              change wpAny _ _ _ _ _ _ _ wr.drew
              refine wpAny_takeD (i := 0) (d := 67) (v := .slice (some ⟨g, o, none⟩) n c1) rfl (by kernel_rfl) (by kernel_rfl) (by kernel_rfl) (by kernel_rfl) (fun _ _ _ h => h) (Or.inl ⟨by kernel_rfl, fun W => by go_simp⟩) ?_
              refine wpAny_takeD (i := 1) (d := 68) (v := .int .i64 (i : Int)) rfl (by kernel_rfl) (by kernel_rfl) (by kernel_rfl) (by kernel_rfl) (fun _ _ _ h => h) (Or.inl ⟨by kernel_rfl, fun W => by go_simp⟩) ?_
              refine wpAny_takeD (i := 2) (d := 69) (v := .pointer (some ⟨g, o + i * 3, none⟩)) rfl (by kernel_rfl) (by kernel_rfl) (by kernel_rfl) (by kernel_rfl) (fun _ _ _ h => h) (Or.inl ⟨by kernel_rfl, fun W => by go_simp⟩) ?_
              refine wpAny_takeD (i := 3) (d := 70) (v := .pointer (some ⟨g, o + i * 3, none⟩)) rfl (by kernel_rfl) (by kernel_rfl) (by kernel_rfl) (by kernel_rfl) (fun _ _ _ h => h) (Or.inl ⟨by kernel_rfl, fun W => by go_simp⟩) ?_
              refine wpAny_takeD (i := 5) (d := 72) (v := .slice (some ⟨g, o, none⟩) n c1) rfl (by kernel_rfl) (by kernel_rfl) (by kernel_rfl) (by kernel_rfl) (fun _ _ _ h => h) (Or.inl ⟨by kernel_rfl, fun W => by go_simp⟩) ?_
              refine wpAny_takeD (i := 6) (d := 73) (v := .int .i64 (i : Int)) rfl (by kernel_rfl) (by kernel_rfl) (by kernel_rfl) (by kernel_rfl) (fun _ _ _ h => h) (Or.inl ⟨by kernel_rfl, fun W => by go_simp⟩) ?_
              refine wpAny_takeD (i := 7) (d := 74) (v := .int .i64 ((i : Int) + 1)) rfl (by kernel_rfl) (by kernel_rfl) (by kernel_rfl) (by kernel_rfl) (fun _ _ _ h => h) (Or.inl ⟨by kernel_rfl, fun W => by first | (go_simp; done) | (go_simp; exact HWI.out)⟩) ?_
              refine wpAny_takeD (i := 8) (d := 75) (v := .slice (some ⟨g, o, none⟩) (i + 1) c1) rfl (by kernel_rfl) (by kernel_rfl) (by kernel_rfl) (by kernel_rfl) (fun _ _ _ h => h) (Or.inl ⟨by kernel_rfl, fun W => by first | (go_simp; done) | (go_simp; intro h; exact absurd (h (by omega)) (by omega))⟩) ?_
              refine wpAny_ready (rs := [4]) (by kernel_rfl) (by simp) (AllReady.cons rfl (fun K hK => ?_) AllReady.nil)
              go_simp
              refine hK _ _ ?_
              clear hK K
              refine wpAny_ready (rs := [9]) (by kernel_rfl) (by simp) (AllReady.cons rfl (fun K hK => ?_) AllReady.nil)
              go_simp
              refine (C1.out).mono ?_
              rintro e u1 ⟨rfl, b1⟩
              have Bn := Lib.hid (below_step hB.out b1)
              have Rn := Lib.hid (hR.out.step11 b1)
              have Bw := Lib.hid b1
              clear b1
              go_wp2_with fail
              refine wpAny_takeD (i := 10) (d := 77) (v := .bool false) rfl (by kernel_rfl) (by kernel_rfl) (by kernel_rfl) (by kernel_rfl) (fun _ _ _ h => h) (Or.inl ⟨by kernel_rfl, fun W => by go_simp⟩) ?_
              refine wpAny_takeD (i := 11) (d := 78) (v := undef) rfl (by kernel_rfl) (by kernel_rfl) (by kernel_rfl) (by kernel_rfl) (fun _ _ _ h => h) (Or.inr ⟨by kernel_rfl, rfl⟩) ?_
              refine wpAny_takeD (i := 12) (d := 79) (v := undef) rfl (by kernel_rfl) (by kernel_rfl) (by kernel_rfl) (by kernel_rfl) (fun _ _ _ h => h) (Or.inr ⟨by kernel_rfl, rfl⟩) ?_
              refine wpAny_takeD (i := 13) (d := 80) (v := undef) rfl (by kernel_rfl) (by kernel_rfl) (by kernel_rfl) (by kernel_rfl) (fun _ _ _ h => h) (Or.inr ⟨by kernel_rfl, rfl⟩) ?_
              refine wpAny_takeD (i := 14) (d := 81) (v := undef) rfl (by kernel_rfl) (by kernel_rfl) (by kernel_rfl) (by kernel_rfl) (fun _ _ _ h => h) (Or.inr ⟨by kernel_rfl, rfl⟩) ?_
              refine wpAny_takeD (i := 15) (d := 82) (v := undef) rfl (by kernel_rfl) (by kernel_rfl) (by kernel_rfl) (by kernel_rfl) (fun _ _ _ h => h) (Or.inr ⟨by kernel_rfl, rfl⟩) ?_
              refine wpAny_takeD (i := 16) (d := 83) (v := .bool false) rfl (by kernel_rfl) (by kernel_rfl) (by kernel_rfl) (by kernel_rfl) (fun _ _ _ h => h) (Or.inl ⟨by kernel_rfl, fun W => by go_simp⟩) ?_
              refine wpAny_takeD (i := 17) (d := 84) (v := .bool false) rfl (by kernel_rfl) (by kernel_rfl) (by kernel_rfl) (by kernel_rfl) (fun _ _ _ h => h) (Or.inl ⟨by kernel_rfl, fun W => by go_simp⟩) ?_
              refine wpAny_takeD (i := 18) (d := 85) (v := undef) rfl (by kernel_rfl) (by kernel_rfl) (by kernel_rfl) (by kernel_rfl) (fun _ _ _ h => h) (Or.inr ⟨by kernel_rfl, rfl⟩) ?_
              refine wpAny_takeD (i := 19) (d := 86) (v := undef) rfl (by kernel_rfl) (by kernel_rfl) (by kernel_rfl) (by kernel_rfl) (fun _ _ _ h => h) (Or.inr ⟨by kernel_rfl, rfl⟩) ?_
              refine wpAny_takeD (i := 20) (d := 87) (v := undef) rfl (by kernel_rfl) (by kernel_rfl) (by kernel_rfl) (by kernel_rfl) (fun _ _ _ h => h) (Or.inr ⟨by kernel_rfl, rfl⟩) ?_
              refine wpAny_takeD (i := 21) (d := 88) (v := undef) rfl (by kernel_rfl) (by kernel_rfl) (by kernel_rfl) (by kernel_rfl) (fun _ _ _ h => h) (Or.inr ⟨by kernel_rfl, rfl⟩) ?_
              refine wpAny_takeD (i := 22) (d := 89) (v := undef) rfl (by kernel_rfl) (by kernel_rfl) (by kernel_rfl) (by kernel_rfl) (fun _ _ _ h => h) (Or.inr ⟨by kernel_rfl, rfl⟩) ?_
              refine wpAny_takeD (i := 23) (d := 90) (v := undef) rfl (by kernel_rfl) (by kernel_rfl) (by kernel_rfl) (by kernel_rfl) (fun _ _ _ h => h) (Or.inr ⟨by kernel_rfl, rfl⟩) ?_
              refine wpAny_takeD (i := 24) (d := 91) (v := undef) rfl (by kernel_rfl) (by kernel_rfl) (by kernel_rfl) (by kernel_rfl) (fun _ _ _ h => h) (Or.inr ⟨by kernel_rfl, rfl⟩) ?_
              refine wpAny_takeD (i := 25) (d := 92) (v := undef) rfl (by kernel_rfl) (by kernel_rfl) (by kernel_rfl) (by kernel_rfl) (fun _ _ _ h => h) (Or.inr ⟨by kernel_rfl, rfl⟩) ?_
              refine wpAny_takeD (i := 26) (d := 93) (v := undef) rfl (by kernel_rfl) (by kernel_rfl) (by kernel_rfl) (by kernel_rfl) (fun _ _ _ h => h) (Or.inr ⟨by kernel_rfl, rfl⟩) ?_
              refine wpAny_takeD (i := 27) (d := 94) (v := undef) rfl (by kernel_rfl) (by kernel_rfl) (by kernel_rfl) (by kernel_rfl) (fun _ _ _ h => h) (Or.inr ⟨by kernel_rfl, rfl⟩) ?_
              refine wpAny_takeD (i := 28) (d := 95) (v := undef) rfl (by kernel_rfl) (by kernel_rfl) (by kernel_rfl) (by kernel_rfl) (fun _ _ _ h => h) (Or.inr ⟨by kernel_rfl, rfl⟩) ?_
              refine wpAny_takeD (i := 29) (d := 96) (v := undef) rfl (by kernel_rfl) (by kernel_rfl) (by kernel_rfl) (by kernel_rfl) (fun _ _ _ h => h) (Or.inr ⟨by kernel_rfl, rfl⟩) ?_
              refine wpAny_takeD (i := 30) (d := 97) (v := undef) rfl (by kernel_rfl) (by kernel_rfl) (by kernel_rfl) (by kernel_rfl) (fun _ _ _ h => h) (Or.inr ⟨by kernel_rfl, rfl⟩) ?_
              refine wpAny_takeD (i := 31) (d := 98) (v := undef) rfl (by kernel_rfl) (by kernel_rfl) (by kernel_rfl) (by kernel_rfl) (fun _ _ _ h => h) (Or.inr ⟨by kernel_rfl, rfl⟩) ?_
              refine wpAny_takeD (i := 32) (d := 99) (v := undef) rfl (by kernel_rfl) (by kernel_rfl) (by kernel_rfl) (by kernel_rfl) (fun _ _ _ h => h) (Or.inr ⟨by kernel_rfl, rfl⟩) ?_
              refine wpAny_takeD (i := 33) (d := 100) (v := undef) rfl (by kernel_rfl) (by kernel_rfl) (by kernel_rfl) (by kernel_rfl) (fun _ _ _ h => h) (Or.inr ⟨by kernel_rfl, rfl⟩) ?_
              refine wpAny_takeD (i := 34) (d := 101) (v := undef) rfl (by kernel_rfl) (by kernel_rfl) (by kernel_rfl) (by kernel_rfl) (fun _ _ _ h => h) (Or.inr ⟨by kernel_rfl, rfl⟩) ?_
              refine wpAny_takeD (i := 35) (d := 102) (v := undef) rfl (by kernel_rfl) (by kernel_rfl) (by kernel_rfl) (by kernel_rfl) (fun _ _ _ h => h) (Or.inr ⟨by kernel_rfl, rfl⟩) ?_
              refine wpAny_takeD (i := 36) (d := 103) (v := .bool false) rfl (by kernel_rfl) (by kernel_rfl) (by kernel_rfl) (by kernel_rfl) (fun _ _ _ h => h) (Or.inl ⟨by kernel_rfl, fun W => by go_simp⟩) ?_
              refine wpAny_done (by kernel_rfl) ?_ _
              go_step
              go_simp
              go_wp2_with fail
              go_roundw
              case rel => exact ⟨i + 1, by omega, by go_num, Bn, Rn⟩
              case measure => simp [intOf]; omega
            · cases bL
              · have HC := HP
                subst hA
                clear hall rG rQ eG eQ RP rdP ht hbC hbL wP lP
                go_wp2_with fail
                refine wp_region_any (by kernel_rfl) ?_
                change wpAny _ _ _ _ _ _ _ wr.drew
                refine wpAny_takeD (i := 0) (d := 67) (v := .slice (some ⟨g, o, none⟩) n c1) rfl (by kernel_rfl) (by kernel_rfl) (by kernel_rfl) (by kernel_rfl) (fun _ _ _ h => h) (Or.inl ⟨by kernel_rfl, fun W => by go_simp⟩) ?_
                refine wpAny_takeD (i := 1) (d := 68) (v := .int .i64 (i : Int)) rfl (by kernel_rfl) (by kernel_rfl) (by kernel_rfl) (by kernel_rfl) (fun _ _ _ h => h) (Or.inl ⟨by kernel_rfl, fun W => by go_simp⟩) ?_
                refine wpAny_takeD (i := 2) (d := 69) (v := .pointer (some ⟨g, o + i * 3, none⟩)) rfl (by kernel_rfl) (by kernel_rfl) (by kernel_rfl) (by kernel_rfl) (fun _ _ _ h => h) (Or.inl ⟨by kernel_rfl, fun W => by go_simp⟩) ?_
                refine wpAny_takeD (i := 3) (d := 70) (v := .pointer (some ⟨g, o + i * 3, none⟩)) rfl (by kernel_rfl) (by kernel_rfl) (by kernel_rfl) (by kernel_rfl) (fun _ _ _ h => h) (Or.inl ⟨by kernel_rfl, fun W => by go_simp⟩) ?_
                refine wpAny_takeD (i := 5) (d := 72) (v := .slice (some ⟨g, o, none⟩) n c1) rfl (by kernel_rfl) (by kernel_rfl) (by kernel_rfl) (by kernel_rfl) (fun _ _ _ h => h) (Or.inl ⟨by kernel_rfl, fun W => by go_simp⟩) ?_
                refine wpAny_takeD (i := 6) (d := 73) (v := .int .i64 (i : Int)) rfl (by kernel_rfl) (by kernel_rfl) (by kernel_rfl) (by kernel_rfl) (fun _ _ _ h => h) (Or.inl ⟨by kernel_rfl, fun W => by go_simp⟩) ?_
                refine wpAny_takeD (i := 7) (d := 74) (v := .int .i64 ((i : Int) + 1)) rfl (by kernel_rfl) (by kernel_rfl) (by kernel_rfl) (by kernel_rfl) (fun _ _ _ h => h) (Or.inl ⟨by kernel_rfl, fun W => by first | (go_simp; done) | (go_simp; exact HWI.out)⟩) ?_
                refine wpAny_takeD (i := 8) (d := 75) (v := .slice (some ⟨g, o, none⟩) (i + 1) c1) rfl (by kernel_rfl) (by kernel_rfl) (by kernel_rfl) (by kernel_rfl) (fun _ _ _ h => h) (Or.inl ⟨by kernel_rfl, fun W => by first | (go_simp; done) | (go_simp; intro h; exact absurd (h (by omega)) (by omega))⟩) ?_
                refine wpAny_ready (rs := [4]) (by kernel_rfl) (by simp) (AllReady.cons rfl (fun K hK => ?_) AllReady.nil)
                go_simp
                refine hK _ _ ?_
                clear hK K
                refine wpAny_ready (rs := [9]) (by kernel_rfl) (by simp) (AllReady.cons rfl (fun K hK => ?_) AllReady.nil)
                go_simp
                refine (C1.out).mono ?_
                rintro e u1 ⟨rfl, b1⟩
                have Bn := Lib.hid (below_step hB.out b1)
                have Rn := Lib.hid (hR.out.step11 b1)
                have Bw := Lib.hid b1
                clear b1
                go_wp2_with fail
                refine wpAny_takeD (i := 10) (d := 77) (v := .bool true) rfl (by kernel_rfl) (by kernel_rfl) (by kernel_rfl) (by kernel_rfl) (fun _ _ _ h => h) (Or.inl ⟨by kernel_rfl, fun W => by go_simp⟩) ?_
                refine wpAny_takeD (i := 11) (d := 78) (v := .slice (some ⟨g, o, none⟩) n c1) rfl (by kernel_rfl) (by kernel_rfl) (by kernel_rfl) (by kernel_rfl) (fun _ _ _ h => h) (Or.inl ⟨by kernel_rfl, fun W => by go_simp⟩) ?_
                refine wpAny_takeD (i := 12) (d := 79) (v := .int .i64 (i : Int)) rfl (by kernel_rfl) (by kernel_rfl) (by kernel_rfl) (by kernel_rfl) (fun _ _ _ h => h) (Or.inl ⟨by kernel_rfl, fun W => by go_simp⟩) ?_
                refine wpAny_takeD (i := 13) (d := 80) (v := .int .i64 ((i : Int) + 1)) rfl (by kernel_rfl) (by kernel_rfl) (by kernel_rfl) (by kernel_rfl) (fun _ _ _ h => h) (Or.inl ⟨by kernel_rfl, fun W => by first | (go_simp; done) | (go_simp; exact HWI.out)⟩) ?_
                refine wpAny_takeD (i := 14) (d := 81) (v := .slice (some ⟨g, o, none⟩) (i + 1) c1) rfl (by kernel_rfl) (by kernel_rfl) (by kernel_rfl) (by kernel_rfl) (fun _ _ _ h => h) (Or.inl ⟨by kernel_rfl, fun W => by first | (go_simp; done) | (go_simp; intro h; exact absurd (h (by omega)) (by omega))⟩) ?_
                refine wpAny_ready (rs := [15]) (by kernel_rfl) (by simp) (AllReady.cons rfl (fun K hK => ?_) AllReady.nil)
                go_simp
                refine (C2.out u1 Rn).mono ?_
                rintro e u2 ⟨rfl, hd⟩
                have Bn2 := Lib.hid (below_step Bn.out hd.below11)
                have Rn2 := Lib.hid (Rn.out.step11 hd.below11)
                have Bw2 := below_step Bw.out hd.below11
                have e1 := HP.out u2 Bw2
                have e2 := HC.out u2 Bw2
                clear hd Bw2
                go_wp2_with fail
                refine wpAny_takeD (i := 16) (d := 83) (v := .bool false) rfl (by kernel_rfl) (by kernel_rfl) (by kernel_rfl) (by kernel_rfl) (fun _ _ _ h => h) (Or.inl ⟨by kernel_rfl, fun W => by go_simp⟩) ?_
                refine wpAny_takeD (i := 17) (d := 84) (v := .bool false) rfl (by kernel_rfl) (by kernel_rfl) (by kernel_rfl) (by kernel_rfl) (fun _ _ _ h => h) (Or.inl ⟨by kernel_rfl, fun W => by go_simp⟩) ?_
                refine wpAny_takeD (i := 18) (d := 85) (v := undef) rfl (by kernel_rfl) (by kernel_rfl) (by kernel_rfl) (by kernel_rfl) (fun _ _ _ h => h) (Or.inr ⟨by kernel_rfl, rfl⟩) ?_
                refine wpAny_takeD (i := 19) (d := 86) (v := undef) rfl (by kernel_rfl) (by kernel_rfl) (by kernel_rfl) (by kernel_rfl) (fun _ _ _ h => h) (Or.inr ⟨by kernel_rfl, rfl⟩) ?_
                refine wpAny_takeD (i := 20) (d := 87) (v := undef) rfl (by kernel_rfl) (by kernel_rfl) (by kernel_rfl) (by kernel_rfl) (fun _ _ _ h => h) (Or.inr ⟨by kernel_rfl, rfl⟩) ?_
                refine wpAny_takeD (i := 21) (d := 88) (v := undef) rfl (by kernel_rfl) (by kernel_rfl) (by kernel_rfl) (by kernel_rfl) (fun _ _ _ h => h) (Or.inr ⟨by kernel_rfl, rfl⟩) ?_
                refine wpAny_takeD (i := 22) (d := 89) (v := undef) rfl (by kernel_rfl) (by kernel_rfl) (by kernel_rfl) (by kernel_rfl) (fun _ _ _ h => h) (Or.inr ⟨by kernel_rfl, rfl⟩) ?_
                refine wpAny_takeD (i := 23) (d := 90) (v := undef) rfl (by kernel_rfl) (by kernel_rfl) (by kernel_rfl) (by kernel_rfl) (fun _ _ _ h => h) (Or.inr ⟨by kernel_rfl, rfl⟩) ?_
                refine wpAny_takeD (i := 24) (d := 91) (v := undef) rfl (by kernel_rfl) (by kernel_rfl) (by kernel_rfl) (by kernel_rfl) (fun _ _ _ h => h) (Or.inr ⟨by kernel_rfl, rfl⟩) ?_
                refine wpAny_takeD (i := 25) (d := 92) (v := undef) rfl (by kernel_rfl) (by kernel_rfl) (by kernel_rfl) (by kernel_rfl) (fun _ _ _ h => h) (Or.inr ⟨by kernel_rfl, rfl⟩) ?_
                refine wpAny_takeD (i := 26) (d := 93) (v := undef) rfl (by kernel_rfl) (by kernel_rfl) (by kernel_rfl) (by kernel_rfl) (fun _ _ _ h => h) (Or.inr ⟨by kernel_rfl, rfl⟩) ?_
                refine wpAny_takeD (i := 27) (d := 94) (v := undef) rfl (by kernel_rfl) (by kernel_rfl) (by kernel_rfl) (by kernel_rfl) (fun _ _ _ h => h) (Or.inr ⟨by kernel_rfl, rfl⟩) ?_
                refine wpAny_takeD (i := 28) (d := 95) (v := undef) rfl (by kernel_rfl) (by kernel_rfl) (by kernel_rfl) (by kernel_rfl) (fun _ _ _ h => h) (Or.inr ⟨by kernel_rfl, rfl⟩) ?_
                refine wpAny_takeD (i := 29) (d := 96) (v := undef) rfl (by kernel_rfl) (by kernel_rfl) (by kernel_rfl) (by kernel_rfl) (fun _ _ _ h => h) (Or.inr ⟨by kernel_rfl, rfl⟩) ?_
                refine wpAny_takeD (i := 30) (d := 97) (v := undef) rfl (by kernel_rfl) (by kernel_rfl) (by kernel_rfl) (by kernel_rfl) (fun _ _ _ h => h) (Or.inr ⟨by kernel_rfl, rfl⟩) ?_
                refine wpAny_takeD (i := 31) (d := 98) (v := undef) rfl (by kernel_rfl) (by kernel_rfl) (by kernel_rfl) (by kernel_rfl) (fun _ _ _ h => h) (Or.inr ⟨by kernel_rfl, rfl⟩) ?_
                refine wpAny_takeD (i := 32) (d := 99) (v := undef) rfl (by kernel_rfl) (by kernel_rfl) (by kernel_rfl) (by kernel_rfl) (fun _ _ _ h => h) (Or.inr ⟨by kernel_rfl, rfl⟩) ?_
                refine wpAny_takeD (i := 33) (d := 100) (v := undef) rfl (by kernel_rfl) (by kernel_rfl) (by kernel_rfl) (by kernel_rfl) (fun _ _ _ h => h) (Or.inr ⟨by kernel_rfl, rfl⟩) ?_
                refine wpAny_takeD (i := 34) (d := 101) (v := undef) rfl (by kernel_rfl) (by kernel_rfl) (by kernel_rfl) (by kernel_rfl) (fun _ _ _ h => h) (Or.inr ⟨by kernel_rfl, rfl⟩) ?_
                refine wpAny_takeD (i := 35) (d := 102) (v := undef) rfl (by kernel_rfl) (by kernel_rfl) (by kernel_rfl) (by kernel_rfl) (fun _ _ _ h => h) (Or.inr ⟨by kernel_rfl, rfl⟩) ?_
                refine wpAny_takeD (i := 36) (d := 103) (v := .bool false) rfl (by kernel_rfl) (by kernel_rfl) (by kernel_rfl) (by kernel_rfl) (fun _ _ _ h => h) (Or.inl ⟨by kernel_rfl, fun W => by go_simp⟩) ?_
                refine wpAny_done (by kernel_rfl) ?_ _
                go_step
                go_simp
                go_wp2_with fail
                go_roundw
                case rel => exact ⟨i + 1, by omega, by go_num, Bn2, Rn2⟩
                case measure => simp [intOf]; omega
              · obtain ⟨q1, q2, q3⟩ := CheckW.low his (hbC.1 rfl) (hbL.1 rfl)
                obtain ⟨gP, oP, rfl, hgP, hcP⟩ := rdP (by omega)
                have hc0 := hcP 0 (by omega)
                obtain ⟨y, hy⟩ : ∃ y, nth l1[i].P 0 = y := ⟨_, rfl⟩
                rw [hy] at hc0 q2 q3
                obtain rfl : t = 1 := by omega
                have HC := Lib.hid (fun (u : World) (b : Below wr.drew.heap.size wr.drew u) => (b.cell (p := ⟨gP, oP, none⟩) hgP).trans hc0)
                have C3 := Lib.hid (fun u => refIs11 y (by omega) true ⟨fun _ => q3, fun _ => rfl⟩ u)
                subst hA
                clear hall rG rQ eG eQ RP hcP hy ht hbC hbL wP lP hc0 q1 q3
                go_wp2_with fail
                refine wp_region_any (by kernel_rfl) ?_
                change wpAny _ _ _ _ _ _ _ wr.drew
                refine wpAny_takeD (i := 0) (d := 67) (v := .slice (some ⟨g, o, none⟩) n c1) rfl (by kernel_rfl) (by kernel_rfl) (by kernel_rfl) (by kernel_rfl) (fun _ _ _ h => h) (Or.inl ⟨by kernel_rfl, fun W => by go_simp⟩) ?_
                refine wpAny_takeD (i := 1) (d := 68) (v := .int .i64 (i : Int)) rfl (by kernel_rfl) (by kernel_rfl) (by kernel_rfl) (by kernel_rfl) (fun _ _ _ h => h) (Or.inl ⟨by kernel_rfl, fun W => by go_simp⟩) ?_
                refine wpAny_takeD (i := 2) (d := 69) (v := .pointer (some ⟨g, o + i * 3, none⟩)) rfl (by kernel_rfl) (by kernel_rfl) (by kernel_rfl) (by kernel_rfl) (fun _ _ _ h => h) (Or.inl ⟨by kernel_rfl, fun W => by go_simp⟩) ?_
                refine wpAny_takeD (i := 3) (d := 70) (v := .pointer (some ⟨g, o + i * 3, none⟩)) rfl (by kernel_rfl) (by kernel_rfl) (by kernel_rfl) (by kernel_rfl) (fun _ _ _ h => h) (Or.inl ⟨by kernel_rfl, fun W => by go_simp⟩) ?_
                refine wpAny_takeD (i := 5) (d := 72) (v := .slice (some ⟨g, o, none⟩) n c1) rfl (by kernel_rfl) (by kernel_rfl) (by kernel_rfl) (by kernel_rfl) (fun _ _ _ h => h) (Or.inl ⟨by kernel_rfl, fun W => by go_simp⟩) ?_
                refine wpAny_takeD (i := 6) (d := 73) (v := .int .i64 (i : Int)) rfl (by kernel_rfl) (by kernel_rfl) (by kernel_rfl) (by kernel_rfl) (fun _ _ _ h => h) (Or.inl ⟨by kernel_rfl, fun W => by go_simp⟩) ?_
                refine wpAny_takeD (i := 7) (d := 74) (v := .int .i64 ((i : Int) + 1)) rfl (by kernel_rfl) (by kernel_rfl) (by kernel_rfl) (by kernel_rfl) (fun _ _ _ h => h) (Or.inl ⟨by kernel_rfl, fun W => by first | (go_simp; done) | (go_simp; exact HWI.out)⟩) ?_
                refine wpAny_takeD (i := 8) (d := 75) (v := .slice (some ⟨g, o, none⟩) (i + 1) c1) rfl (by kernel_rfl) (by kernel_rfl) (by kernel_rfl) (by kernel_rfl) (fun _ _ _ h => h) (Or.inl ⟨by kernel_rfl, fun W => by first | (go_simp; done) | (go_simp; intro h; exact absurd (h (by omega)) (by omega))⟩) ?_
                refine wpAny_ready (rs := [4]) (by kernel_rfl) (by simp) (AllReady.cons rfl (fun K hK => ?_) AllReady.nil)
                go_simp
                refine hK _ _ ?_
                clear hK K
                refine wpAny_ready (rs := [9]) (by kernel_rfl) (by simp) (AllReady.cons rfl (fun K hK => ?_) AllReady.nil)
                go_simp
                refine (C1.out).mono ?_
                rintro e u1 ⟨rfl, b1⟩
                have Bn := Lib.hid (below_step hB.out b1)
                have Rn := Lib.hid (hR.out.step11 b1)
                have Bw := Lib.hid b1
                clear b1
                go_wp2_with fail
                refine wpAny_takeD (i := 10) (d := 77) (v := .bool true) rfl (by kernel_rfl) (by kernel_rfl) (by kernel_rfl) (by kernel_rfl) (fun _ _ _ h => h) (Or.inl ⟨by kernel_rfl, fun W => by go_simp⟩) ?_
                refine wpAny_takeD (i := 11) (d := 78) (v := .slice (some ⟨g, o, none⟩) n c1) rfl (by kernel_rfl) (by kernel_rfl) (by kernel_rfl) (by kernel_rfl) (fun _ _ _ h => h) (Or.inl ⟨by kernel_rfl, fun W => by go_simp⟩) ?_
                refine wpAny_takeD (i := 12) (d := 79) (v := .int .i64 (i : Int)) rfl (by kernel_rfl) (by kernel_rfl) (by kernel_rfl) (by kernel_rfl) (fun _ _ _ h => h) (Or.inl ⟨by kernel_rfl, fun W => by go_simp⟩) ?_
                refine wpAny_takeD (i := 13) (d := 80) (v := .int .i64 ((i : Int) + 1)) rfl (by kernel_rfl) (by kernel_rfl) (by kernel_rfl) (by kernel_rfl) (fun _ _ _ h => h) (Or.inl ⟨by kernel_rfl, fun W => by first | (go_simp; done) | (go_simp; exact HWI.out)⟩) ?_
                refine wpAny_takeD (i := 14) (d := 81) (v := .slice (some ⟨g, o, none⟩) (i + 1) c1) rfl (by kernel_rfl) (by kernel_rfl) (by kernel_rfl) (by kernel_rfl) (fun _ _ _ h => h) (Or.inl ⟨by kernel_rfl, fun W => by first | (go_simp; done) | (go_simp; intro h; exact absurd (h (by omega)) (by omega))⟩) ?_
                refine wpAny_ready (rs := [15]) (by kernel_rfl) (by simp) (AllReady.cons rfl (fun K hK => ?_) AllReady.nil)
                go_simp
                refine (C2.out u1 Rn).mono ?_
                rintro e u2 ⟨rfl, hd⟩
                have Bn2 := Lib.hid (below_step Bn.out hd.below11)
                have Rn2 := Lib.hid (Rn.out.step11 hd.below11)
                have Bw2 := below_step Bw.out hd.below11
                have e1 := HP.out u2 Bw2
                have e2 := HC.out u2 Bw2
                clear hd Bw2
                go_wp2_with fail
                refine wpAny_takeD (i := 16) (d := 83) (v := .bool true) rfl (by kernel_rfl) (by kernel_rfl) (by kernel_rfl) (by kernel_rfl) (fun _ _ _ h => h) (Or.inl ⟨by kernel_rfl, fun W => by go_simp⟩) ?_
                refine wpAny_takeD (i := 17) (d := 84) (v := .bool true) rfl (by kernel_rfl) (by kernel_rfl) (by kernel_rfl) (by kernel_rfl) (fun _ _ _ h => h) (Or.inl ⟨by kernel_rfl, fun W => by go_simp⟩) ?_
                refine wpAny_takeD (i := 18) (d := 85) (v := .slice (some ⟨g, o, none⟩) n c1) rfl (by kernel_rfl) (by kernel_rfl) (by kernel_rfl) (by kernel_rfl) (fun _ _ _ h => h) (Or.inl ⟨by kernel_rfl, fun W => by go_simp⟩) ?_
                refine wpAny_takeD (i := 19) (d := 86) (v := .int .i64 (i : Int)) rfl (by kernel_rfl) (by kernel_rfl) (by kernel_rfl) (by kernel_rfl) (fun _ _ _ h => h) (Or.inl ⟨by kernel_rfl, fun W => by go_simp⟩) ?_
                refine wpAny_takeD (i := 20) (d := 87) (v := .pointer (some ⟨g, o + i * 3, none⟩)) rfl (by kernel_rfl) (by kernel_rfl) (by kernel_rfl) (by kernel_rfl) (fun _ _ _ h => h) (Or.inl ⟨by kernel_rfl, fun W => by go_simp⟩) ?_
                refine wpAny_takeD (i := 21) (d := 88) (v := .pointer (some ⟨g, o + i * 3, none⟩)) rfl (by kernel_rfl) (by kernel_rfl) (by kernel_rfl) (by kernel_rfl) (fun _ _ _ h => h) (Or.inl ⟨by kernel_rfl, fun W => by go_simp⟩) ?_
                refine wpAny_ready (rs := [22]) (by kernel_rfl) (by simp) (AllReady.cons rfl (fun K hK => ?_) AllReady.nil)
                go_simp
                refine hK _ _ ?_
                clear hK K
                refine wpAny_ready (rs := [23]) (by kernel_rfl) (by simp) (AllReady.cons rfl (fun K hK => ?_) AllReady.nil)
                go_simp
                refine hK _ _ ?_
                clear hK K
                refine wpAny_takeD (i := 24) (d := 91) (v := .bool false) rfl (by kernel_rfl) (by kernel_rfl) (by kernel_rfl) (by kernel_rfl) (fun _ _ _ h => h) (Or.inl ⟨by kernel_rfl, fun W => by go_simp⟩) ?_
                refine wpAny_takeD (i := 25) (d := 92) (v := .bool false) rfl (by kernel_rfl) (by kernel_rfl) (by kernel_rfl) (by kernel_rfl) (fun _ _ _ h => h) (Or.inl ⟨by kernel_rfl, fun W => by go_simp⟩) ?_
                refine wpAny_takeD (i := 26) (d := 93) (v := .slice (some ⟨g, o, none⟩) n c1) rfl (by kernel_rfl) (by kernel_rfl) (by kernel_rfl) (by kernel_rfl) (fun _ _ _ h => h) (Or.inl ⟨by kernel_rfl, fun W => by go_simp⟩) ?_
                refine wpAny_takeD (i := 27) (d := 94) (v := .int .i64 (i : Int)) rfl (by kernel_rfl) (by kernel_rfl) (by kernel_rfl) (by kernel_rfl) (fun _ _ _ h => h) (Or.inl ⟨by kernel_rfl, fun W => by go_simp⟩) ?_
                refine wpAny_takeD (i := 28) (d := 95) (v := .pointer (some ⟨g, o + i * 3, none⟩)) rfl (by kernel_rfl) (by kernel_rfl) (by kernel_rfl) (by kernel_rfl) (fun _ _ _ h => h) (Or.inl ⟨by kernel_rfl, fun W => by go_simp⟩) ?_
                refine wpAny_takeD (i := 29) (d := 96) (v := .pointer (some ⟨g, o + i * 3, none⟩)) rfl (by kernel_rfl) (by kernel_rfl) (by kernel_rfl) (by kernel_rfl) (fun _ _ _ h => h) (Or.inl ⟨by kernel_rfl, fun W => by go_simp⟩) ?_
                refine wpAny_ready (rs := [30]) (by kernel_rfl) (by simp) (AllReady.cons rfl (fun K hK => ?_) AllReady.nil)
                go_simp
                refine hK _ _ ?_
                clear hK K
                refine wpAny_takeD (i := 31) (d := 98) (v := .pointer (some ⟨gP, oP, none⟩)) rfl (by kernel_rfl) (by kernel_rfl) (by kernel_rfl) (by kernel_rfl) (fun _ _ _ h => h) (Or.inl ⟨by kernel_rfl, fun W => by go_simp⟩) ?_
                refine wpAny_ready (rs := [32]) (by kernel_rfl) (by simp) (AllReady.cons rfl (fun K hK => ?_) AllReady.nil)
                go_simp
                refine hK _ _ ?_
                clear hK K
                refine wpAny_ready (rs := [33]) (by kernel_rfl) (by simp) (AllReady.cons rfl (fun K hK => ?_) AllReady.nil)
                go_simp
                refine (C3.out u2).mono ?_
                rintro e u3 ⟨rfl, rfl⟩
                go_wp2_with fail
                refine wpAny_takeD (i := 34) (d := 101) (v := .bool false) rfl (by kernel_rfl) (by kernel_rfl) (by kernel_rfl) (by kernel_rfl) (fun _ _ _ h => h) (Or.inl ⟨by kernel_rfl, fun W => by go_simp⟩) ?_
                refine wpAny_takeD (i := 35) (d := 102) (v := .bool false) rfl (by kernel_rfl) (by kernel_rfl) (by kernel_rfl) (by kernel_rfl) (fun _ _ _ h => h) (Or.inl ⟨by kernel_rfl, fun W => by go_simp⟩) ?_
                refine wpAny_takeD (i := 36) (d := 103) (v := .bool false) rfl (by kernel_rfl) (by kernel_rfl) (by kernel_rfl) (by kernel_rfl) (fun _ _ _ h => h) (Or.inl ⟨by kernel_rfl, fun W => by go_simp⟩) ?_
                refine wpAny_done (by kernel_rfl) ?_ _
                go_step
                go_simp
                go_wp2_with fail
                go_roundw
                case rel => exact ⟨i + 1, by omega, by go_num, Bn2, Rn2⟩
                case measure => simp [intOf]; omega
          · obtain rfl : i = n := by omega
            go_wp2_with fail
            refine (HW.out _ (Lib.hid (HLd.out.below hB.out))).mono ?_
            rintro e wz ⟨rfl, bz⟩
            have Bz := Lib.hid (below_step hB.out bz)
            clear bz
            go_wp2_with fail
            go_ret
            exact ⟨rfl, Bz.out⟩
  · skip
    have hbF0 : bF = false := by cases hq : bF with | false => rfl | true => exact absurd (hbF.1 hq) hF
    subst hbF0
    clear hk hbF r1 hn hm y2 r2 _z2 u2 _u1 z1
    go_enter Tryz.func3, Tryz.ntmps3
    go_wp2_with fail
    refine (CF.out).mono ?_
    rintro e w1 ⟨rfl, hd⟩
    have B1 := Lib.hid hd.below11
    have R1 := Lib.hid (HR.out.step11 hd.below11)
    clear hd
    go_wp2_with fail
    refine (HW.out _ (Lib.hid (HLd.out.below B1.out))).mono ?_
    rintro e wz ⟨rfl, bz⟩
    have Bz := Lib.hid (below_step B1.out bz)
    clear bz
    go_wp2_with fail
    go_ret
    exact ⟨rfl, Bz.out⟩
end Go.Proofs.YtjpfcdgaepdcdaaGreat

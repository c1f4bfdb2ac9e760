/- Several texts in one; each begins with a remark that says what it shows and on which conditions. -/
import Derived.Test.YtakcgamgnmmdlaaGreatKbl
import Derived.Deep.LoopGhost
/- rho's Factors, walked. Conditions: as typed (words; up to a thousand draws). -/
namespace Go.Proofs.YtakcgamgnmmdlaaGreat
open Go.RowKit
set_option maxRecDepth 20000
theorem own_mono10 {w : World} {b b' n : Nat} {e : TypeId} {v : Value} {xs : List Value} (h : w.ownsRow b e 1 v n xs) (hb : b' ≤ b) : w.ownsRow b' e 1 v n xs := by
  refine ⟨h.1, ?_⟩
  rcases h.2 with h2 | ⟨g, cap, cur, h1, h2, h3⟩
  · exact .inl h2
  · exact .inr ⟨g, cap, cur, h1, by omega, h3⟩
/-- The lists as they stand when the first number is put. -/
theorem FacAt.start {w w1 : World} {X : Option Addr} {d : Nat} {ls : List Nat} (gL : Nat) (hg : w.heap.size = gL) (own : w1.ownsRow (w.heap.size + 1) 22 1 (.slice X ls.length d) ls.length (ints .u64 ls)) (b : Below (w.heap.size + 1) (w.alloc (.cells #[.slice none 0 0] 28)) w1) :
    Boxed w1 gL 28 (.slice none 0 0) ∧ FacAt w gL w1.heap.size ((w1.setCell ⟨gL, 0, none⟩ (.slice X ls.length d)).alloc (.cells #[.slice none 0 0] 28)) (.slice X ls.length d) (.slice none 0 0) ls [] := by
  subst hg
  have h1 : Boxed w1 w.heap.size 28 (.slice none 0 0) := (b.block w.heap.size (by omega)).trans (Boxed.new w _ _)
  have hsz := b.size
  simp only [World.size_alloc] at hsz
  have h2 := boxed_set10 h1 (.slice X ls.length d)
  refine ⟨h1, ?_, ?_, ?_, World.ownsRow_nil _ _ _ _, fun k _ h => (by simp [Value.ownBlock] at h), by omega, ⟨Nat.le_refl _, by omega⟩, ?_⟩
  · exact (Below.heap_alloc _ _ _ (by simp [World.setCell]; omega)).trans h2
  · have := Boxed.new (w1.setCell ⟨w.heap.size, 0, none⟩ (.slice X ls.length d)) 28 (.slice none 0 0)
    simpa [World.setCell] using this
  · exact (own_set10 (own_mono10 own (by omega)) (own_box_ne10 own h1)).alloc _
  · refine ((((Below.refl w.heap.size w).alloc (Nat.le_refl _) _).trans (b.mono (by omega))).setCell (Nat.le_refl _) _).alloc ?_ _
    simp [World.setCell]
    omega
/-- One number waits, and is taken out. -/
theorem FacAt.pop {w0 wr : World} {gL gU cU u : Nat} {vL : Value} {AU : Option Addr} {ls : List Nat} (P : FacAt w0 gL gU wr vL (.slice AU 1 cU) ls [u]) :
    ∃ g, AU = some ⟨g, 0, none⟩ ∧ wr.cell? ⟨g, 0, none⟩ = some (.int .u64 (u : Int)) ∧ FacAt w0 gL gU (wr.setCell ⟨gU, 0, none⟩ (.slice (some ⟨g, 0, none⟩) 0 cU)) vL (.slice (some ⟨g, 0, none⟩) 0 cU) ls [] := by
  have oU := P.oU
  rcases oU.2 with ⟨_, h⟩ | ⟨g, cap, cur, hv, h1, h2, h3, h4, h5, h6⟩
  · simp at h
  · injection hv with hA _ hc
    subst hA
    refine ⟨g, rfl, ?_, ?_⟩
    · have := oU.cellAt 0 (by simp)
      rw [this]
      rfl
    · have hne := own_box_ne10 oU P.bU
      have o0 : wr.ownsRow w0.heap.size 22 1 (.slice (some ⟨g, 0, none⟩) 0 cU) 0 (ints .u64 []) := ⟨rfl, .inr ⟨g, cap, cur, by rw [hc], h1, h2, Nat.zero_le _, h4, h5, by simp [ints]⟩⟩
      exact ⟨(Below.heap_setCell _ _ _ _ P.ne).trans P.bL, boxed_set10 P.bU _, own_set10 P.oL (own_box_ne10 P.oL P.bU), own_set10 o0 hne, fun k hk => P.apart k hk, P.ne, P.lo, P.be.setCell P.lo.2 _⟩
theorem FacMid.last10 {N u : Nat} {ls : List Nat} (h : FacMid N ls [u] 1) (h0 : 0 < N) : u ≤ N := Nat.le_of_dvd h0 (by rw [← h.all, prodN_one, Nat.mul_one]; exact Nat.dvd_mul_left _ _)
theorem FacMid.popped {N u : Nat} {ls : List Nat} (h : FacMid N ls [u] 1) : FacMid N ls [] u := ⟨by rw [← h.all, prodN_one, prodN_nil, Nat.mul_one, Nat.mul_one], h.told, by simp⟩
theorem nth_word10 {l : List Nat} (h : Words l) (j : Nat) : nth l j < 18446744073709551616 := by
  unfold nth
  rw [List.getD_eq_getElem?_getD]
  cases hj : l[j]? with
  | none => simp
  | some y => simpa using h y (List.mem_of_getElem? hj)
theorem Told10.words10 {W : Nat → Prop} {N rest er : Nat} {l : List Nat} (h : Told10 W N l rest er) (h0 : 0 < N) (hN : N < 18446744073709551616) : Words l := fun x hx => by
  have := Nat.le_of_dvd h0 (Nat.dvd_trans (prodN_mem_dvd hx) (by rw [← h.all]; exact Nat.dvd_mul_right _ _))
  omega
theorem results_box10 {fn : Func} {p u x : Tmp} {ty : TypeId} (h : fn.results = #[.cell p ty, .tmp u, .tmp x]) (tmps : Array Value) {P : Program} {w : World} {g : Nat} {A : Option Addr} {n c : Nat} (hp : tmps.getD p undef = .pointer (some ⟨g, 0, none⟩)) (hl : (loadVar ty ⟨g, 0, none⟩).run P w = .ok (.slice A n c) w) :
    (results fn tmps).run P w = .ok (.tuple #[.slice A n c, tmps.getD u undef, tmps.getD x undef]) w := by
  have e : (results fn tmps).run P w = ((asAddr (tmps.getD p undef)).run P w).andThen fun a w₁ => ((loadVar ty a).run P w₁).andThen fun v w₂ => .ok (.tuple #[v, tmps.getD u undef, tmps.getD x undef]) w₂ := by
    simp only [results, h]
    simp [Sem.run_bind, Result.andThen]
  rw [e, hp]
  have e2 : (asAddr (.pointer (some ⟨g, 0, none⟩))).run P w = .ok ⟨g, 0, none⟩ w := rfl
  rw [e2]
  show ((loadVar ty ⟨g, 0, none⟩).run P w).andThen _ = _
  rw [hl]
  rfl
theorem load_box10 {w : World} {g : Nat} {A : Option Addr} {n c : Nat} (hb : Boxed w g 28 (.slice A n c)) : (loadVar 28 ⟨g, 0, none⟩).run Tryz.prog w = .ok (.slice A n c) w := by
  have hc := hb.cell
  have hu : Tryz.prog.underlying 28 = some (.slice 22) := Tryz.underlying28
  go_simp
set_option maxHeartbeats 8000000 in
theorem factors10 {w : World} {A : Option Addr} {n c : Nat} {l : List Nat} (P : RowIs w A n c l) (hn : n ≤ 1000) (N : Nat) (hN0 : 0 < N) (hN : N < 18446744073709551616) :
    Calls Tryz.prog 9 #[.int .u64 N, .slice A n c] w fun e w' => ∃ X q d ls rest er, e = .returned (.tuple #[.slice X q d, .int .u64 ((rest : Nat) : Int), .int .i64 ((er : Nat) : Int)]) ∧ Told10 IsW N ls rest er ∧ RowIs w' X q d ls ∧ Below w.heap.size w w' := by
  have HPd := Lib.hid P
  have hz : ((N : Int) == 0) = false := by simp; omega
  have HT := Lib.hid (fun u : World => tried10 N hN0 hN u)
  clear P
  go_enter Tryz.func9, Tryz.ntmps9
  go_wp2_with fail
  go_step3
  go_wp2_with fail
  refine (HT.out _).mono ?_
  rintro e w1 ⟨ls0, m0, X0, d0, rfl, hTm, hTr, own1, b1⟩
  simp only [World.size_alloc] at own1 b1
  obtain ⟨gL, hgL⟩ : ∃ g, w.heap.size = g := ⟨_, rfl⟩
  obtain ⟨kb, hFA⟩ := FacAt.start gL hgL own1 b1
  have k1 := kb.cell
  have f1 := kb.frozen
  obtain ⟨gU, hgU⟩ : ∃ g, w1.heap.size = g := ⟨_, rfl⟩
  rw [hgU] at hFA
  have hm0 : m0 < 18446744073709551616 := by have := hTm.le hN0; omega
  have hl0 := hTm.few hN
  have HPut := Lib.hid (fun (wr : World) (vL vU : Value) (ls us : List Nat) (part : Nat) (P : Hid (FacAt w gL gU wr vL vU ls us)) (hp : part < 18446744073709551616) (hl : ls.length ≤ 1000) (hu : us.length ≤ 1000) => put10 w gL gU wr vL vU ls us P.out part hp hl hu)
  have C0 := Lib.hid (HPut.out _ _ _ ls0 [] m0 (Lib.hid hFA) hm0 (by omega) (by simp))
  have HMid := Lib.hid (show FacMid N ls0 [] (m0 * 1) from ⟨by rw [prodN_nil, Nat.mul_one, Nat.mul_one]; exact hTm.all, fun p hp => ⟨isW_prm (hTm.primes p hp), (hTm.primes p hp).1⟩, by simp⟩)
  have HMay := Lib.hid (mayPut_trial hTr hTm.pos)
  clear hTm hTr own1 b1 kb hFA hm0 hl0 HT
  go_wp2_with fail
  refine (C0.out).mono ?_
  rintro e w2 ⟨rfl, vL, vU, ls, us, hFA, hPut⟩
  have HFA := Lib.hid hFA
  have HM := Lib.hid (HMid.out.put HMay.out hPut)
  clear hFA hPut C0 HMid HMay k1 f1 hgU
  go_wp2_with fail
  go_step3
  go_wp2_with fail
  have hbox : True := trivial
  have HG := Lib.hid HFA.out.lo.1
  clear hbox
  go_loopg [5, 6] (waitN us) (fun k rv ev wr => ∃ (vL vU : Value) (ls us : List Nat), rv = .int .u64 1 ∧ ev = .int .i64 0 ∧ waitN us ≤ k ∧ Hid (FacAt w gL gU wr vL vU ls us) ∧ Hid (FacMid N ls us 1))
  case atStart => exact ⟨vL, vU, ls, us, rfl, rfl, Nat.le_refl _, HFA, HM⟩
  case round =>
    clear HFA HM
    obtain ⟨vL, vU, ls, us, rfl, rfl, hwk, HFA, HM⟩ := hrel
    rcases HM.out.one hN0 hN with hus | ⟨u, hus⟩
    · subst hus
      obtain ⟨AU, cU, rfl, _, _⟩ := own_form HFA.out.oU
      have kU := HFA.out.bU.cell
      simp only [List.length_nil] at kU
      obtain ⟨AL, cL, rfl, hcL, _⟩ := own_form HFA.out.oL
      have hlen := HM.out.few hN0 hN
      have CS := Lib.hid (sortRow7 HFA.out.oL (by omega) HFA.out.be.size)
      have kL := HFA.out.bL.cell
      have HL := Lib.hid HFA.out.bL
      have HNE := Lib.hid (own_box_ne10 HFA.out.oL HFA.out.bL)
      have HBe := Lib.hid HFA.out.be
      obtain ⟨q, hq⟩ : ∃ q, ls.length = q := ⟨_, rfl⟩
      have HQ := Lib.hid hq
      rw [hq] at CS kL HL HNE hcL hlen
      clear hq
      go_wp2_with fail
      refine (CS.out).mono ?_
      rintro e w5 ⟨rfl, l2, hperm, hrise, hrd, hbel, hblk⟩
      have hL5 : Boxed w5 gL 28 (.slice AL q cL) := (hblk gL HL.out.lt (fun o h e => HNE.out (by rw [h, e]; rfl))).trans HL.out
      have k5 := hL5.cell
      have f5 := hL5.frozen
      have HL5 := Lib.hid hL5
      have HT10 := Lib.hid (FacMid.tell HM.out hperm hrise (.inl ⟨rfl, rfl⟩))
      have HRd := Lib.hid hrd
      have HB5 := Lib.hid (HBe.out.trans (hbel w.heap.size (Nat.le_refl _)))
      have HLe := Lib.hid (show l2.length = q by rw [← HQ.out]; exact hperm.length_eq)
      clear hperm hrise hrd hbel hblk hL5 kL
      go_wp2_with fail
      rw [Exit.noGoto_ret]
      refine bodyPost_ret (results_box10 (p := 4) (u := 5) (x := 6) rfl _ rfl (load_box10 (boxed_set10 HL5.out (.slice AL q cL)))) rfl ?_
      exact ⟨AL, q, cL, l2, 1, 0, rfl, HT10.out, ⟨HLe.out, HT10.out.words10 hN0 hN, by omega, by have := HRd.out.box8 HL5.out (by intro k x h; cases h) (.slice AL q cL); simpa [World.setCell] using this, hcL⟩, HB5.out.setCell HG.out _⟩
    · subst hus
      obtain ⟨AU, cU, rfl, _, _⟩ := own_form HFA.out.oU
      simp only [List.length_cons, List.length_nil, Nat.zero_add] at HFA
      have kU := HFA.out.bU.cell
      have fU := HFA.out.bU.frozen
      obtain ⟨gR, rfl, hcell, hFP⟩ := FacAt.pop HFA.out
      have HFP := Lib.hid hFP
      have hu := Lib.hid (HM.out.wait u List.mem_cons_self)
      have huN : u < 18446744073709551616 := by have := (show u ≤ N from HM.out.last10 hN0); omega
      have hu2 : 2 ≤ u := hu.out.1
      clear hFP
      go_wp2_with fail
      have HM1 := Lib.hid (HM.out.popped)
      clear hcell
      go_loopw [41] (fun jv wr2 => ∃ j : Nat, jv = .int .i64 j ∧ j ≤ n ∧ Hid (FacAt w gL gU wr2 vL (.slice (some ⟨gR, 0, none⟩) 0 cU) ls [])) (fun jv _ => n - (intOf jv).toNat)
      case atStart => exact ⟨0, rfl, Nat.zero_le _, HFP⟩
      case round =>
        clear HFP
        obtain ⟨j, rfl, hjn, HF2⟩ := hrel
        by_cases hlt : j < n
        · have hP2 := HPd.out.step HF2.out.be
          obtain ⟨hll, hwl, _, hrd, _⟩ := hP2
          obtain ⟨gA, oA, hA, hgA, hcA⟩ := hrd (by omega)
          subst hA
          have hc1 := hcA j (by omega)
          obtain ⟨x, hx⟩ : ∃ x, nth l j = x := ⟨_, rfl⟩
          rw [hx] at hc1
          have hxl : x < 18446744073709551616 := by rw [← hx]; exact nth_word10 hwl j
          obtain ⟨R, hR⟩ : ∃ R, splitD u x 65536 = R := ⟨_, rfl⟩
          by_cases hR0 : R = 0
          · have CSp := Lib.hid (fun v => split10 u x 65536 huN hxl (by omega) R hR false ⟨fun h => (Bool.false_ne_true h).elim, fun h => absurd hR0 h⟩ v)
            clear hR hR0 hcA hrd hll hwl hx
            go_wp2_with fail
            refine (CSp.out _).mono ?_
            rintro e w3 ⟨rfl, b3⟩
            have HF3 := Lib.hid (HF2.out.keep b3)
            clear b3
            go_wp2_with fail
            go_roundw
            case rel => exact ⟨j + 1, by go_num, by omega, HF3⟩
            case measure => simp [intOf]; omega
          · have CSp := Lib.hid (fun v => split10 u x 65536 huN hxl (by omega) R hR true ⟨fun _ => hR0, fun _ => rfl⟩ v)
            obtain ⟨hd1, hd2, hd3⟩ := splitD_dvd (n := u) (c := x) (most := 65536) (by rw [hR]; exact hR0)
            rw [hR] at hd1 hd2 hd3
            obtain ⟨q, hq⟩ : ∃ q, u / R = q := ⟨_, rfl⟩
            have hqI : (u : Int) / (R : Int) = (q : Int) := by rw [← hq]; simp
            have hRz : ((R : Int) == 0) = false := by simp; omega
            have hqm : R * q = u := by rw [← hq]; exact Nat.mul_div_cancel' hd1
            have hqd : q ∣ u := ⟨R, by rw [← hqm, Nat.mul_comm]⟩
            have hql : q < u := by rw [← hq]; exact Nat.div_lt_self (by omega) hd2
            have HY1 := Lib.hid (mayPut_part hu.out.2.2 hd1 (by omega))
            have HY2 := Lib.hid (mayPut_part hu.out.2.2 hqd (by omega))
            have HM2 := Lib.hid (show FacMid N ls [] (R * (q * 1)) by rw [Nat.mul_one, hqm]; exact HM1.out)
            have hlsl := HM1.out.few hN0 hN
            clear hR hR0 hcA hrd hll hwl hx hq hqm hqd hd1
            go_wp2_with fail
            refine (CSp.out _).mono ?_
            rintro e w3 ⟨rfl, b3⟩
            have HF3 := Lib.hid (HF2.out.keep b3)
            clear b3
            go_wp2_with fail
            refine (HPut.out w3 _ _ ls [] R HF3 (by omega) (by omega) (by simp)).mono ?_
            rintro e w4 ⟨rfl, vL4, vU4, ls4, us4, hF4, hP4⟩
            have HF4 := Lib.hid hF4
            have HP4 := Lib.hid hP4
            have HM4 := Lib.hid (HM2.out.put HY1.out hP4)
            have hl4 := HM4.out.few hN0 hN
            have hu4 : us4.length ≤ 1000 := by rcases HM4.out.one hN0 hN with h | ⟨y, h⟩ <;> simp [h]
            clear hF4 hP4
            go_wp2_with fail
            refine (HPut.out w4 _ _ ls4 us4 q HF4 (by omega) (by omega) hu4).mono ?_
            rintro e w5 ⟨rfl, vL5, vU5, ls5, us5, hF5, hP5⟩
            have HF5 := Lib.hid hF5
            have HM5 := Lib.hid (HM4.out.put HY2.out hP5)
            have HWt := Lib.hid (show waitN us5 < u from waitN_lt (HM5.out.one hN0 hN) (fun y hy => by
              rcases hP5.mem y hy with h | h
              · rcases HP4.out.mem y h with h2 | h2
                · cases h2
                · omega
              · omega) (by omega))
            have HWk := Lib.hid (show u ≤ gk from by simpa [waitN] using hwk)
            clear hF5 hP5 hu4
            go_wp2_with fail
            go_roundg (waitN us5)
            case rel => exact ⟨vL5, vU5, ls5, us5, rfl, rfl, Nat.le_refl _, HF5, HM5⟩
            case measure => have h1 := HWt.out; have h2 := HWk.out; omega
        · obtain rfl : j = n := by omega
          have HF6 := HF2
          clear HF2
          obtain ⟨AL, cL, rfl, hcL, _⟩ := own_form HF6.out.oL
          have hlen := HM1.out.few hN0 hN
          have CS := Lib.hid (sortRow7 HF6.out.oL (by omega) HF6.out.be.size)
          have kL := HF6.out.bL.cell
          have HL := Lib.hid HF6.out.bL
          have HNE := Lib.hid (own_box_ne10 HF6.out.oL HF6.out.bL)
          have HBe := Lib.hid HF6.out.be
          obtain ⟨q, hq⟩ : ∃ q, ls.length = q := ⟨_, rfl⟩
          have HQ := Lib.hid hq
          rw [hq] at CS kL HL HNE hcL hlen
          clear hq
          go_wp2_with fail
          refine (CS.out).mono ?_
          rintro e w5 ⟨rfl, l2, hperm, hrise, hrd, hbel, hblk⟩
          have hL5 : Boxed w5 gL 28 (.slice AL q cL) := (hblk gL HL.out.lt (fun o h e => HNE.out (by rw [h, e]; rfl))).trans HL.out
          have k5 := hL5.cell
          have f5 := hL5.frozen
          have HL5 := Lib.hid hL5
          have HT10 := Lib.hid (FacMid.tell HM1.out hperm hrise (.inr ⟨rfl, by omega, hu.out.2.1, hu.out.2.2⟩))
          have HRd := Lib.hid hrd
          have HB5 := Lib.hid (HBe.out.trans (hbel w.heap.size (Nat.le_refl _)))
          have HLe := Lib.hid (show l2.length = q by rw [← HQ.out]; exact hperm.length_eq)
          clear hperm hrise hrd hbel hblk hL5 kL
          go_wp2_with fail
          rw [Exit.noGoto_ret]
          refine bodyPost_ret (results_box10 (p := 4) (u := 5) (x := 6) rfl _ rfl (load_box10 (boxed_set10 HL5.out (.slice AL q cL)))) rfl ?_
          exact ⟨AL, q, cL, l2, u, 11, rfl, HT10.out, ⟨HLe.out, HT10.out.words10 hN0 hN, by omega, by have := HRd.out.box8 HL5.out (by intro k x h; cases h) (.slice AL q cL); simpa [World.setCell] using this, hcL⟩, HB5.out.setCell HG.out _⟩
set_option maxHeartbeats 4000000 in
theorem factors_zero10 (w : World) (A : Option Addr) (n c : Nat) :
    Calls Tryz.prog 9 #[.int .u64 0, .slice A n c] w fun e w' => ∃ X q d, e = .returned (.tuple #[.slice X q d, .int .u64 0, .int .i64 1]) ∧ Below w.heap.size w w' := by
  have hb := Boxed.new w 28 (.slice none 0 0)
  have hc := hb.cell
  have hf := hb.frozen
  have HB := Lib.hid hb
  have HBe := Lib.hid ((Below.refl w.heap.size w).alloc (Nat.le_refl _) (.cells #[.slice none 0 0] 28))
  go_enter Tryz.func9, Tryz.ntmps9
  go_wp2_with fail
  go_step3
  go_wp2_with fail
  rw [Exit.noGoto_ret]
  refine bodyPost_ret (results_box10 (p := 4) (u := 5) (x := 6) rfl _ rfl (load_box10 (A := none) (n := 0) (c := 0) ?_)) rfl ?_
  · exact HB.out
  · exact ⟨none, 0, 0, rfl, HBe.out⟩
end Go.Proofs.YtakcgamgnmmdlaaGreat

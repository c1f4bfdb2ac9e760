/- Several texts in one; each begins with a remark that says what it shows and on which conditions. -/
import Derived.Test.YtgmolbiicclcaaaKbb
import Derived.Test.YtgmolbiicclcaaaKbc
import Derived.Test.YtgmolbiicclcaaaKbd
import Derived.Test.YtgmolbiicclcaaaKay
/- CrtOrder: the walk. Conditions: those of the frame. -/
namespace Go.Proofs.Ytgmolbiicclcaaa
open Go.RowKit
set_option maxRecDepth 20000
theorem RdRests.none {w : World} {ss : List CR} (h : RdRests w none ss) : ss = [] := by
  rcases Nat.eq_zero_or_pos ss.length with h0 | h0
  · exact List.eq_nil_of_length_eq_zero h0
  · obtain ⟨_, _, e, _⟩ := h h0
    cases e
theorem drop_none21 {w : World} {A : Option Addr} {ss : List CR} {k : Nat} {f : Addr → Addr} (h : RdRests w A ss) (hA : A.map f = none) : ss.length - k = 0 := by
  cases A with
  | none => rw [h.none]; simp
  | some a => cases hA
theorem len_zero21 {w : World} {X : Option Addr} {q d : Nat} (h : NatIs w X q d 0) : q = 0 := by
  have h := h.1
  rw [length_wd, nbits_zero] at h
  omega
theorem few_joined21 {ss : List CR} (h : FewC ss) (k : Nat) : FewC (joinedC ss k) := fun s hs => by
  rcases List.mem_cons.1 hs with rfl | hs
  · exact ⟨ansM_bits _, ansR_bits _⟩
  · exact h s (List.mem_of_mem_drop hs)
set_option maxHeartbeats 32000000 in
theorem crtOrder_walk (A : Option Addr) (n c : Nat) (ss : List CR) (a1 : Int) (W : World) (hn : ss.length = n) (hr : RdPairs W A ss ∧ WordC ss) (_hc : n ≤ c) (hl : n ≤ 140737488351232) (wf1 : (Lit.int .u8 a1).wf = true) :
    Calls Try.prog 4 #[.slice A n c, .int .u8 a1] W fun e W' => e = .returned (.bool true) ∧ Below W.heap.size W W' := by
  have HWk := Lib.hid fun (u : World) => crtWorks_any u
  have ha1 : 0 ≤ a1 ∧ a1 ≤ 255 := by simpa [Lit.wf, IntKind.min, IntKind.max, IntKind.signed, IntKind.bits] using wf1
  obtain ⟨x, rfl⟩ : ∃ x : Nat, a1 = (x : Int) := ⟨a1.toNat, by omega⟩
  have hx : x ≤ 255 := by omega
  clear wf1 ha1
  by_cases h12 : n ≤ 12
  · have HN := Lib.hid hn
    have HR := Lib.hid hr.1
    have HW := Lib.hid hr.2
    have g12 : ¬ 12 < n := by omega
    have HBe := Lib.hid (Below.refl W.heap.size W)
    clear hn hr hl
    go_enter Try.func4, Try.ntmps4
    go_wp2_with fail
    go_loopw [5] (fun iv wr => ∃ i : Nat, iv = .int .i64 i ∧ i ≤ n ∧ Hid (Below W.heap.size W wr)) (fun iv _ => n - (intOf iv).toNat)
    case atStart => exact ⟨0, rfl, Nat.zero_le _, HBe⟩
    case round =>
      clear HBe
      obtain ⟨i, rfl, hi, HBe⟩ := hrel
      by_cases hlt : i < n
      · have his : i < ss.length := by rw [HN.out]; exact hlt
        obtain ⟨gA, oA, rfl, hgA, _, _⟩ := HR.out.at21 his
        obtain ⟨e1, e2⟩ := HR.out.cells21 HBe.out his
        obtain ⟨m, hm⟩ : ∃ m, ss[i].m = m := ⟨_, rfl⟩
        obtain ⟨r, hr⟩ : ∃ r, ss[i].r = r := ⟨_, rfl⟩
        rw [hm] at e1
        rw [hr] at e2
        clear hm hr
        by_cases hm62 : 4611686018427387904 ≤ m
        · have k1 : decide (4611686018427387904 ≤ (m : Int)) = true := decide_eq_true (by omega)
          clear hm62
          go_wp2_with fail
          refine (HWk.out _).mono ?_
          rintro e w1 ⟨rfl, b1⟩
          have B1 := Lib.hid (below_step HBe.out b1)
          clear b1
          go_wp2_with fail
          go_ret
          exact ⟨rfl, B1.out⟩
        · have k1 : decide (4611686018427387904 ≤ (m : Int)) = false := decide_eq_false (by omega)
          clear hm62
          by_cases hr62 : 4611686018427387904 ≤ r
          · have k2 : decide (4611686018427387904 ≤ (r : Int)) = true := decide_eq_true (by omega)
            clear hr62
            go_wp2_with fail
            refine (HWk.out _).mono ?_
            rintro e w1 ⟨rfl, b1⟩
            have B1 := Lib.hid (below_step HBe.out b1)
            clear b1
            go_wp2_with fail
            go_ret
            exact ⟨rfl, B1.out⟩
          · have k2 : decide (4611686018427387904 ≤ (r : Int)) = false := decide_eq_false (by omega)
            clear hr62
            go_wp2_with fail
            go_roundw
            case rel => exact ⟨i + 1, by go_num, by omega, HBe⟩
            case measure => simp [intOf]; omega
      · obtain rfl : n = i := by omega
        have C1 := Lib.hid (out21 (c := c) (HR.out.step HBe.out) HW.out HN.out (by omega))
        have HF := Lib.hid (few_small21 HW.out)
        clear hi HR HW
        go_wp2_with fail
        refine (C1.out).mono ?_
        rintro e w1 ⟨X, d, rfl, r1, hd, b1⟩
        have BB := Lib.hid (below_step HBe.out b1)
        have HR := Lib.hid r1
        have HRow := Lib.hid (show RowV w1 w1 (.slice none 0 0) 0 (ss.drop n).reverse by rw [← HN.out, List.drop_length]; exact RowV.nil w1)
        clear b1 r1 C1 HBe
        go_wp2_with fail
        go_loopw [7, 8] (fun bv iv wr => ∃ (j k : Nat) (AT : Option Addr) (cT : Nat), j + k = n ∧ iv = .int .i64 ((j : Int) - 1) ∧ bv = .slice AT k cT ∧ Hid (RowV w1 wr (.slice AT k cT) k (ss.drop j).reverse)) (fun _ iv _ => (intOf iv + 1).toNat)
        case atStart => exact ⟨n, 0, none, 0, rfl, by go_num, rfl, HRow⟩
        case round =>
          clear HRow
          obtain ⟨j, k, AT, cT, hjk, hiv, rfl, HRow⟩ := hrel
          rcases j with _ | j
          · obtain rfl : n = k := by omega
            have hiv2 : _ = Value.int .i64 (-1) := hiv
            subst hiv2
            clear hiv
            have BB := Lib.hid (BB.out.trans (HRow.out.be.mono BB.out.size))
            have HR := Lib.hid (HR.out.step HRow.out.be)
            have HBk := Lib.hid HRow.out.rd
            clear HRow
            have C1 := fun (u : World) (h : RdRests u X ss) => Calls.mono (join_pf (n := n) (c := d) h HN.out HF.out (by omega)) fun _ _ k => OutJoin.as k
            have C2 := fun (u : World) (h : RdRests u AT (ss.drop 0).reverse) => Calls.mono (join_pf (n := n) (c := cT) h (by simp; exact HN.out) (fun s hs => HF.out s (by simpa using hs)) (by omega)) fun _ _ k => OutJoin.as k
            simp only [List.drop_zero, errC_reverse, ansR_reverse, ansM_reverse] at C2
            obtain ⟨E, hE⟩ : ∃ E, errC ss = E := ⟨_, rfl⟩
            obtain ⟨R, hRR⟩ : ∃ R, ansR ss = R := ⟨_, rfl⟩
            obtain ⟨M, hMM⟩ : ∃ M, ansM ss = M := ⟨_, rfl⟩
            rw [hE, hRR, hMM] at C1 C2
            have HE := Lib.hid hE
            have HRR := Lib.hid hRR
            have HMM := Lib.hid hMM
            have C1 := Lib.hid C1
            have C2 := Lib.hid C2
            simp only [List.drop_zero] at HBk
            clear hE hRR hMM
            go_wp2_with fail
            refine (C1.out _ HR.out).mono ?_
            rintro e u11 ⟨Xa, qa, da, Ya, pa, fa, rfl, ra, sa, b11⟩
            have BB := Lib.hid (below_step BB.out b11)
            have HR := Lib.hid (HR.out.step b11)
            have HBk := Lib.hid (HBk.out.step b11)
            have Ra := Lib.hid ra
            have Sa := Lib.hid sa
            clear C1
            clear b11 ra sa
            go_wp2_with fail
            refine (C2.out _ HBk.out).mono ?_
            rintro e u12 ⟨Xb, qb, db, Yb, pb, fb, rfl, rb, sb, b12⟩
            have BB := Lib.hid (below_step BB.out b12)
            have HR := Lib.hid (HR.out.step b12)
            have Ra := Lib.hid (Ra.out.step b12)
            have Sa := Lib.hid (Sa.out.step b12)
            have Rb := Lib.hid rb
            have Sb := Lib.hid sb
            clear C2 HBk
            clear b12 rb sb
            go_wp2_with fail
            refine (same16_any Ra.out Rb.out true ⟨fun _ => rfl, fun _ => rfl⟩).mono ?_
            rintro e u13 ⟨rfl, b13⟩
            have BB := Lib.hid (below_step BB.out b13)
            have HR := Lib.hid (HR.out.step b13)
            have Ra := Lib.hid (Ra.out.step b13)
            have Sa := Lib.hid (Sa.out.step b13)
            have Sb := Lib.hid (Sb.out.step b13)
            clear Rb
            clear b13
            go_wp2_with fail
            refine (same16_any Sa.out Sb.out true ⟨fun _ => rfl, fun _ => rfl⟩).mono ?_
            rintro e u14 ⟨rfl, b14⟩
            have BB := Lib.hid (below_step BB.out b14)
            have HR := Lib.hid (HR.out.step b14)
            have Ra := Lib.hid (Ra.out.step b14)
            have Sa := Lib.hid (Sa.out.step b14)
            clear Sb
            clear b14
            by_cases h0 : E = 0
            · have HE0 := Lib.hid (show errC ss = 0 by rw [HE.out]; exact h0)
              subst h0
              obtain ⟨k, hk⟩ : ∃ k, x % (n + 1) = k := ⟨_, rfl⟩
              have hkn : k ≤ n := by have := Nat.mod_lt x (show 0 < n + 1 by omega); omega
              have hki : (x : Int).tmod ((n : Int) + 1) = (k : Int) := by rw [← hk]; rfl
              have hki2 : (x : Int) % ((n : Int) + 1) = (k : Int) := by rw [← hk]; rfl
              have HT := HR.out.take k
              have hf := HF.out
              have C3 := fun (u : World) (h : RdRests u X (ss.take k)) => Calls.mono (join_pf (n := k) (c := d) h (by rw [List.length_take, HN.out]; omega) (fun s hs => HF.out s (List.mem_of_mem_take hs)) (by omega)) fun _ _ k => OutJoin.as k
              rw [errC_take k HE0.out] at C3
              obtain ⟨R2, hR2⟩ : ∃ R, ansR (ss.take k) = R := ⟨_, rfl⟩
              obtain ⟨M2, hM2⟩ : ∃ M, ansM (ss.take k) = M := ⟨_, rfl⟩
              rw [hR2, hM2] at C3
              have HR2 := Lib.hid hR2
              have HM2 := Lib.hid hM2
              have C3 := Lib.hid C3
              clear hk hf HT hR2 hM2
              go_wp2_with fail
              refine (C3.out _ (HR.out.take k)).mono ?_
              rintro e u15 ⟨Xc, qc, dc, Yc, pc, fc, rfl, rc, sc, b15⟩
              have BB := Lib.hid (below_step BB.out b15)
              have HR := Lib.hid (HR.out.step b15)
              have Ra := Lib.hid (Ra.out.step b15)
              have Sa := Lib.hid (Sa.out.step b15)
              have Rc := Lib.hid rc
              have Sc := Lib.hid sc
              clear C3
              clear b15 rc sc
              have HLit := Lib.hid (RowV.lit (NV.of Sc.out) (NV.of Rc.out))
              clear Rc Sc hki hki2
              by_cases hdk : d = k
              · have hkn2 : k = n := by omega
                obtain ⟨v', u9, hrun, hrow⟩ := HLit.out.appendAll (A := X) (m := 0) (c := 0) (ts := ss.drop k) (by omega) (by have := HN.out; rw [List.length_drop]; omega) (by omega) (by have h := HR.out.drop k d (by rw [HN.out]; exact hd); rw [if_pos hdk] at h; exact h) (fun hA => by rfl) 32
                have HRow := Lib.hid (show RowV u15 u9 v' (1 + 0) (joinedC ss k) from by unfold joinedC; rw [HR2.out, HM2.out]; exact hrow)
                obtain ⟨A9, c9, rfl, h9⟩ := HRow.out.form
                have HRd := Lib.hid HRow.out.rd
                have BB := Lib.hid (BB.out.trans (HRow.out.be.mono BB.out.size))
                have Ra := Lib.hid (Ra.out.step HRow.out.be)
                have Sa := Lib.hid (Sa.out.step HRow.out.be)
                have C4 := fun (u : World) (h : RdRests u A9 (joinedC ss k)) => Calls.mono (join_pf (n := 1 + 0) (c := c9) h HRow.out.len (few_joined21 HF.out k) (by omega)) fun _ _ k => OutJoin.as k
                rw [errC_joined k HE0.out, ansR_joined k HE0.out, ansM_joined k HE0.out, HRR.out, HMM.out] at C4
                have C4 := Lib.hid C4
                clear hrow HRow HLit HR
                go_wp2_with (at_builtin; refine wpList_append21 rfl _ _ 32 rfl _ _ rfl rfl hrun ?_)
                clear hrun
                go_wp2_with fail
                refine (C4.out _ HRd.out).mono ?_
                rintro e u16 ⟨Xd, qd, dd, Yd, pd, fd, rfl, rd, sd, b16⟩
                have BB := Lib.hid (below_step BB.out b16)
                have Ra := Lib.hid (Ra.out.step b16)
                have Sa := Lib.hid (Sa.out.step b16)
                have Rd := Lib.hid rd
                have Sd := Lib.hid sd
                clear C4 HRd
                clear b16 rd sd
                go_wp2_with fail
                refine (same16_any Rd.out Ra.out true ⟨fun _ => rfl, fun _ => rfl⟩).mono ?_
                rintro e u17 ⟨rfl, b17⟩
                have BB := Lib.hid (below_step BB.out b17)
                have Sa := Lib.hid (Sa.out.step b17)
                have Sd := Lib.hid (Sd.out.step b17)
                clear Rd Ra
                clear b17
                go_wp2_with fail
                refine (same16_any Sd.out Sa.out true ⟨fun _ => rfl, fun _ => rfl⟩).mono ?_
                rintro e u18 ⟨rfl, b18⟩
                have BB := Lib.hid (below_step BB.out b18)
                clear Sd Sa
                clear b18
                go_wp2_with fail
                refine (HWk.out _).mono ?_
                rintro e u19 ⟨rfl, b19⟩
                have BB := Lib.hid (below_step BB.out b19)
                clear b19
                go_wp2_with fail
                go_ret
                exact ⟨rfl, BB.out⟩
              · obtain ⟨v', u9, hrun, hrow⟩ := HLit.out.appendAll (A := X.map (·.add (k * 2))) (m := (n - k)) (c := (d - k)) (ts := ss.drop k) (by omega) (by have := HN.out; rw [List.length_drop]; omega) (by omega) (by have h := HR.out.drop k d (by rw [HN.out]; exact hd); rw [if_neg hdk] at h; exact h) (fun hA => by have h := drop_none21 (k := k) HR.out hA; rw [HN.out] at h; exact h) 32
                have HRow := Lib.hid (show RowV u15 u9 v' (1 + (n - k)) (joinedC ss k) from by unfold joinedC; rw [HR2.out, HM2.out]; exact hrow)
                obtain ⟨A9, c9, rfl, h9⟩ := HRow.out.form
                have HRd := Lib.hid HRow.out.rd
                have BB := Lib.hid (BB.out.trans (HRow.out.be.mono BB.out.size))
                have Ra := Lib.hid (Ra.out.step HRow.out.be)
                have Sa := Lib.hid (Sa.out.step HRow.out.be)
                have C4 := fun (u : World) (h : RdRests u A9 (joinedC ss k)) => Calls.mono (join_pf (n := 1 + (n - k)) (c := c9) h HRow.out.len (few_joined21 HF.out k) (by omega)) fun _ _ k => OutJoin.as k
                rw [errC_joined k HE0.out, ansR_joined k HE0.out, ansM_joined k HE0.out, HRR.out, HMM.out] at C4
                have C4 := Lib.hid C4
                clear hrow HRow HLit HR
                go_wp2_with (at_builtin; refine wpList_append21 rfl _ _ 32 rfl _ _ rfl rfl hrun ?_)
                clear hrun
                go_wp2_with fail
                refine (C4.out _ HRd.out).mono ?_
                rintro e u20 ⟨Xd, qd, dd, Yd, pd, fd, rfl, rd, sd, b20⟩
                have BB := Lib.hid (below_step BB.out b20)
                have Ra := Lib.hid (Ra.out.step b20)
                have Sa := Lib.hid (Sa.out.step b20)
                have Rd := Lib.hid rd
                have Sd := Lib.hid sd
                clear C4 HRd
                clear b20 rd sd
                go_wp2_with fail
                refine (same16_any Rd.out Ra.out true ⟨fun _ => rfl, fun _ => rfl⟩).mono ?_
                rintro e u21 ⟨rfl, b21⟩
                have BB := Lib.hid (below_step BB.out b21)
                have Sa := Lib.hid (Sa.out.step b21)
                have Sd := Lib.hid (Sd.out.step b21)
                clear Rd Ra
                clear b21
                go_wp2_with fail
                refine (same16_any Sd.out Sa.out true ⟨fun _ => rfl, fun _ => rfl⟩).mono ?_
                rintro e u22 ⟨rfl, b22⟩
                have BB := Lib.hid (below_step BB.out b22)
                clear Sd Sa
                clear b22
                go_wp2_with fail
                refine (HWk.out _).mono ?_
                rintro e u23 ⟨rfl, b23⟩
                have BB := Lib.hid (below_step BB.out b23)
                clear b23
                go_wp2_with fail
                go_ret
                exact ⟨rfl, BB.out⟩
            · have hne : ((E : Int) != 0) = true := by simp; exact h0
              have hne2 : errC ss ≠ 0 := by rw [HE.out]; exact h0
              have hz1 := Ra.out
              have hz2 := Sa.out
              rw [← HRR.out, ansR_no hne2] at hz1
              rw [← HMM.out, ansM_no hne2] at hz2
              obtain rfl := len_zero21 hz1
              obtain rfl := len_zero21 hz2
              clear hz1 hz2 hne2 h0
              go_wp2_with fail
              refine (HWk.out _).mono ?_
              rintro e w9 ⟨rfl, b9⟩
              have B9 := Lib.hid (below_step BB.out b9)
              clear b9
              go_wp2_with fail
              go_ret
              exact ⟨rfl, B9.out⟩
          · rw [show (((j + 1 : Nat) : Int) - 1) = (j : Int) by omega] at hiv
            subst hiv
            have hjs : j < ss.length := by rw [HN.out]; omega
            obtain ⟨gA, oA, A1, q1, c1, A2, q2, c2, rfl, hgA, f1, f2, n1, n2⟩ := HR.out.at21 hjs
            have e1 := (HRow.out.be.cell (p := ⟨gA, oA + j * 2, none⟩) hgA).trans f1
            have e2 := (HRow.out.be.cell (p := ⟨gA, oA + j * 2 + 1, none⟩) hgA).trans f2
            obtain ⟨g, cap, u, hrun, hrow⟩ := HRow.out.append1 (by omega) (NV.of n1) (NV.of n2) 32
            have HRow2 := Lib.hid (show RowV w1 u (.slice (some ⟨g, 0, none⟩) (k + 1) cap) (k + 1) (ss.drop j).reverse by rw [List.drop_eq_getElem_cons hjs, List.reverse_cons]; exact hrow)
            have hjn : j < n := by omega
            clear f1 f2 n1 n2 hrow HRow
            go_wp2_with (at_builtin; refine wpList_append21 rfl _ _ 32 rfl _ _ rfl rfl hrun ?_)
            clear hrun
            go_wp2_with fail
            go_roundw
            case rel => exact ⟨j, k + 1, _, _, by omega, by go_num, rfl, HRow2⟩
            case measure => simp [intOf] <;> omega
  · have g12 : 12 < n := by omega
    clear hn hr
    go_enter Try.func4, Try.ntmps4
    go_wp2_with fail
    refine (HWk.out _).mono ?_
    rintro e w1 ⟨rfl, b1⟩
    go_wp2_with fail
    go_ret
    exact ⟨rfl, b1⟩
end Go.Proofs.Ytgmolbiicclcaaa
/- Rows of rests with numbers of their own: an empty literal, append of another row. Conditions: as typed. -/
namespace Go.Proofs.Ytgmolbiicclcaaa
open Go.RowKit
set_option maxRecDepth 20000
/-- An empty literal. -/
theorem OwnR.lit0 (w : World) : OwnR (w.alloc (.cells #[] 40)) w.heap.size (.slice (some ⟨w.heap.size, 0, none⟩) 0 0) 0 [] :=
  ⟨rfl, [], ⟨rfl, .inr ⟨w.heap.size, 0, #[], rfl, Nat.le_refl _, World.alloc_heap_new w _, Nat.le_refl _, by unfold maxLen; omega, rfl, rfl⟩⟩, fun j hj => by cases hj⟩
/-- append of another row. -/
theorem OwnR.appendAll {w : World} {base b2 n m c : Nat} {v : Value} {A : Option Addr} {ss ts : List CR} (h : OwnR w base v n ss) (hs : OwnR w b2 (.slice A m c) m ts) (hn : n ≤ 1000) (hm : m ≤ 1000) (h0 : 0 < m) (hb : base ≤ w.heap.size) (ty : TypeId) :
    ∃ v' u, (Builtin.append_ #[32, 32] ty #[v, .slice A m c]).run Try.prog w = .ok v' u ∧ OwnR u base v' (n + m) (ss ++ ts) ∧ Below base w u := by
  obtain ⟨i0, hi, hz0, hz1, hz2⟩ := info_parts rest_info21
  obtain ⟨hsn, xs, ho, hp⟩ := h
  obtain ⟨htn, ys, hos, hps⟩ := hs
  have one1 : ∀ {x : Value} {k : Nat}, NO w x k → x.oneCell' = true := by
    rintro x k ⟨A, q, c, rfl, _⟩
    rfl
  have hyl : ys.length = m * 2 := hos.1
  have hxl : xs.length = n * 2 := ho.1
  obtain ⟨g, cap, e, hbg, hlt⟩ := hos.form h0
  injection e with e1 _ e3
  subst e1 e3
  have hcells : ∀ j u, ys[j]? = some u → w.cell? ((⟨g, 0, none⟩ : Addr).add j) = some u := fun j u hu => by
    have hj := (List.getElem?_eq_some_iff.1 hu).1
    rw [Addr.add_lit, Nat.zero_add, hos.cellAt j (by omega)]
    exact hu
  have h1 : ∀ u ∈ ys, u.oneCell' = true := fun u hu => by
    obtain ⟨i, hi, rfl⟩ := List.mem_iff_getElem.1 hu
    obtain ⟨vM, vR, k1, k2, k3, k4⟩ := hps (i / 2) (by omega)
    rcases Nat.mod_two_eq_zero_or_one i with e | e
    · rw [show i / 2 * 2 = i by omega, List.getElem?_eq_getElem hi] at k1
      injection k1 with k1
      rw [k1]; exact one1 k3
    · rw [show i / 2 * 2 + 1 = i by omega, List.getElem?_eq_getElem hi] at k2
      injection k2 with k2
      rw [k2]; exact one1 k4
  obtain ⟨v', u, hrun, hown, hg, _, _⟩ := run_append_own_at (P := Try.prog) w base 32 ty 40 i0 _ 2 48 Try.underlying32 hi hz0 hz1 hz2 rfl (by omega) v n xs ho ⟨g, 0, none⟩ m _ ys hyl hcells h1 (by unfold maxLen; omega) (by omega) hb
  have keep : ∀ {x : Value} {k : Nat}, NO w x k → NO u x k := fun hx => hx.beside ho hg
  refine ⟨v', u, hrun, ⟨by simp [hsn, htn], xs ++ ys, hown, fun j hj => ?_⟩, (Below.refl base w).grown hg hb fun k hk => (ho.lt k hk).1⟩
  rcases Nat.lt_or_ge j ss.length with h1 | h1
  · obtain ⟨xM, xR, e1, e2, h3, h4⟩ := hp j h1
    refine ⟨xM, xR, by rw [List.getElem?_append_left (by omega)]; exact e1, by rw [List.getElem?_append_left (by omega)]; exact e2, ?_, ?_⟩
    · rw [List.getElem_append_left h1]; exact keep h3
    · rw [List.getElem_append_left h1]; exact keep h4
  · obtain ⟨i, rfl⟩ : ∃ i, j = ss.length + i := ⟨j - ss.length, by omega⟩
    obtain ⟨vM, vR, e1, e2, h3, h4⟩ := hps i (by simp at hj; omega)
    refine ⟨vM, vR, ?_, ?_, ?_, ?_⟩
    · rw [List.getElem?_append_right (by omega), hxl, show (ss.length + i) * 2 - n * 2 = i * 2 by omega]; exact e1
    · rw [List.getElem?_append_right (by omega), hxl, show (ss.length + i) * 2 + 1 - n * 2 = i * 2 + 1 by omega]; exact e2
    · rw [List.getElem_append_right (by omega)]; simpa using keep h3
    · rw [List.getElem_append_right (by omega)]; simpa using keep h4
end Go.Proofs.Ytgmolbiicclcaaa

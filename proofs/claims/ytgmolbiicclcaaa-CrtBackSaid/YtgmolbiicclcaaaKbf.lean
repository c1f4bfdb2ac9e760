/- Several texts in one; each begins with a remark that says what it shows and on which conditions. -/
import Derived.Test.YtgmolbiicclcaaaKbb
import Derived.Test.YtgmolbiicclcaaaKbe
import Derived.Test.YtgmolbiicclcaaaKbd
/- CrtBack: the walk. Conditions: those of the frame. -/
namespace Go.Proofs.Ytgmolbiicclcaaa
open Go.RowKit
set_option maxRecDepth 20000
/-- What the law's list holds while it grows. -/
structure BackInv (nn : Nat) (ls : List CR) (p : Nat) : Prop where
  pr : p = prodC ls
  le : p ≤ 2305843009213693952
  cop : Cop ls
  each : ∀ s ∈ ls, s.r = nn % s.m ∧ 0 < s.m ∧ s.m ≤ 1000
theorem BackInv.nil (nn : Nat) : BackInv nn [] 1 := ⟨rfl, by omega, List.Pairwise.nil, by simp⟩
theorem BackInv.next {nn p m : Nat} {ls : List CR} (h : BackInv nn ls p) (h0 : 0 < m) (hm : m ≤ 1000) (hp : p ≤ 2305843009213693952 / m) (hg : ∀ s ∈ ls, Nat.gcd s.m m = 1) : BackInv nn (ls ++ [⟨m, nn % m⟩]) (p * m) := by
  refine ⟨by rw [prodC_snoc, h.pr], (Nat.le_div_iff_mul_le h0).1 hp, cop_snoc.2 ⟨h.cop, gcd_prodC.2 hg⟩, fun s hs => ?_⟩
  rcases List.mem_append.1 hs with hs | hs
  · exact h.each s hs
  · rw [List.mem_singleton.1 hs]; exact ⟨rfl, h0, hm⟩
theorem BackInv.ok {nn p : Nat} {ls : List CR} (h : BackInv nn ls p) : errC ls = 0 := by
  refine errC_ok (fun s hs => ?_) ?_ h.cop
  · obtain ⟨h1, h2, _⟩ := h.each s hs
    rw [h1]
    exact Nat.mod_lt _ h2
  · have h1 := h.le
    rw [h.pr] at h1
    exact Nat.le_trans (nbits_of_lt _ 62 (Nat.lt_of_le_of_lt h1 (by omega))) (by omega)
theorem BackInv.few {nn p : Nat} {ls : List CR} (h : BackInv nn ls p) : FewC ls := few_small21 fun s hs => by
  obtain ⟨h1, h2, h3⟩ := h.each s hs
  have := Nat.mod_lt nn h2
  omega
theorem BackInv.r {nn p : Nat} {ls : List CR} (h : BackInv nn ls p) : ansR ls = nn % p := by
  rw [h.pr]
  exact ansR_back h.ok fun s hs => (h.each s hs).1
theorem BackInv.m {nn p : Nat} {ls : List CR} (h : BackInv nn ls p) : ansM ls = p := by rw [ansM_ok h.ok, h.pr]
theorem BackInv.pos {nn p : Nat} {ls : List CR} (h : BackInv nn ls p) : 0 < p := by
  rw [h.pr]
  exact prodC_pos (errC_zero.1 h.ok).1
/-- Does the next number fit? -/
def BackFlag (f : Bool) (p Q m : Nat) (ls : List CR) (k : Nat) : Prop := f = true ↔ (p ≤ Q ∧ ∀ s ∈ ls.take k, Nat.gcd s.m m = 1)
theorem BackFlag.start (p Q m : Nat) (ls : List CR) : BackFlag (decide (p ≤ Q)) p Q m ls 0 := by
  unfold BackFlag
  rw [decide_eq_true_eq]
  simp
theorem take_all21 {ls : List CR} {k : Nat} {P : CR → Prop} (hk : k < ls.length) : (∀ s ∈ ls.take (k + 1), P s) ↔ (∀ s ∈ ls.take k, P s) ∧ P ls[k] := by
  rw [List.take_succ_eq_append_getElem hk]
  simp only [List.mem_append, List.mem_singleton]
  exact ⟨fun h => ⟨fun s hs => h s (.inl hs), h _ (.inr rfl)⟩, fun h s hs => hs.elim (h.1 s) (fun e => e ▸ h.2)⟩
theorem BackFlag.no {p Q m : Nat} {ls : List CR} {k : Nat} (h : BackFlag false p Q m ls k) (hk : k < ls.length) : BackFlag false p Q m ls (k + 1) := by
  unfold BackFlag at *
  rw [take_all21 (P := fun s => Nat.gcd s.m m = 1) hk]
  exact ⟨fun e => (by cases e), fun e => h.2 ⟨e.1, e.2.1⟩⟩
theorem BackFlag.yes {p Q m : Nat} {ls : List CR} {k : Nat} (h : BackFlag true p Q m ls k) (hk : k < ls.length) (hg : Nat.gcd ls[k].m m = 1) : BackFlag true p Q m ls (k + 1) := by
  unfold BackFlag at *
  rw [take_all21 (P := fun s => Nat.gcd s.m m = 1) hk]
  exact ⟨fun e => ⟨(h.1 e).1, (h.1 e).2, hg⟩, fun _ => rfl⟩
theorem BackFlag.out {p Q m : Nat} {ls : List CR} {k : Nat} (h : BackFlag true p Q m ls k) (hk : ls.length ≤ k) : p ≤ Q ∧ ∀ s ∈ ls, Nat.gcd s.m m = 1 := by
  unfold BackFlag at h
  rw [List.take_of_length_le hk] at h
  exact h.1 rfl
theorem BackFlag.fall {p Q m : Nat} {ls : List CR} {k : Nat} (hk : k < ls.length) (hg : Nat.gcd ls[k].m m ≠ 1) : BackFlag false p Q m ls (k + 1) := by
  unfold BackFlag
  rw [take_all21 (P := fun s => Nat.gcd s.m m = 1) hk]
  exact ⟨fun e => (by cases e), fun e => absurd e.2.2 hg⟩
def LowB (x : Nat) : Prop := x < 4611686018427387904
def Low60 (x : Nat) : Prop := x < 1152921504606846976
set_option maxHeartbeats 64000000 in
theorem crtBack_walk (a0 : Int) (A : Option Addr) (c : Nat) (l : List Nat) (W : World) (wf0 : (Lit.int .u64 a0).wf = true) (hr : Rd .u16 W W.heap.size A l) (hh : Halves l) (hl : l.length * 2 ≤ 140737488351232) (_hc : l.length ≤ c) :
    Calls Try.prog 5 #[.int .u64 a0, .slice A l.length c] W fun e W' => e = .returned (.bool true) ∧ Below W.heap.size W W' := by
  have HWk := Lib.hid fun (u : World) => crtWorks_any u
  have ha0 : 0 ≤ a0 ∧ a0 ≤ 18446744073709551615 := by simpa [Lit.wf, IntKind.min, IntKind.max, IntKind.signed, IntKind.bits] using wf0
  obtain ⟨x0, rfl⟩ : ∃ x : Nat, a0 = (x : Int) := ⟨a0.toNat, by omega⟩
  clear wf0 ha0
  by_cases h12 : l.length ≤ 12
  · obtain ⟨nn, hnn⟩ : ∃ nn, x0 % 1152921504606846976 = nn := ⟨_, rfl⟩
    have hni : (x0 : Int).tmod 1152921504606846976 = (nn : Int) := by rw [← hnn]; rfl
    have hni2 : (x0 : Int) % 1152921504606846976 = (nn : Int) := by rw [← hnn]; rfl
    have HNn := Lib.hid (show Low60 nn by unfold Low60; omega)
    have HR := Lib.hid hr
    have HH := Lib.hid hh
    have g12 : ¬ 12 < l.length := by omega
    have BB := Lib.hid (Below.refl W.heap.size W)
    have HO := Lib.hid (OwnR.nil W W.heap.size)
    have HI := Lib.hid (BackInv.nil nn)
    clear hr hh hl hnn
    go_enter Try.func5, Try.ntmps5
    go_wp2_with fail
    clear hni hni2
    go_loopw [6, 7, 8] (fun pv lv iv wr => ∃ (i p k : Nat) (AT : Option Addr) (cT : Nat) (ls : List CR), iv = .int .i64 i ∧ pv = .int .u64 p ∧ lv = .slice AT k cT ∧ i ≤ l.length ∧ k ≤ i ∧ Hid (OwnR wr W.heap.size (.slice AT k cT) k ls) ∧ Hid (BackInv nn ls p) ∧ Hid (Below W.heap.size W wr)) (fun _ _ iv _ => l.length - (intOf iv).toNat)
    case atStart => exact ⟨0, 1, 0, none, 0, [], rfl, rfl, rfl, Nat.zero_le _, Nat.le_refl _, HO, HI, BB⟩
    case round =>
      clear HO HI BB
      obtain ⟨i, p, k, AT, cT, ls, rfl, rfl, rfl, hi, hk, HO, HI, BB⟩ := hrel
      by_cases hlt : i < l.length
      · obtain ⟨wl, hwl⟩ : ∃ wl, wl = wr := ⟨_, rfl⟩
        subst hwl
        obtain ⟨gA, oA, rfl, hgA, hcell⟩ := HR.out (by omega)
        obtain ⟨h, hh⟩ : ∃ h, nth l i = h := ⟨_, rfl⟩
        have hh16 : h < 65536 := by rw [← hh]; exact HH.out _ (nth_mem l i hlt)
        have e0 := (BB.out.cell (p := ⟨gA, oA + i, none⟩) hgA).trans (hcell i hlt)
        rw [hh] at e0
        obtain ⟨z, hz⟩ : ∃ z, h % 1000 = z := ⟨_, rfl⟩
        have hzl : z < 1000 := by omega
        have hzi : (h : Int).tmod 1000 = (z : Int) := by rw [← hz]; rfl
        have hzi2 : (h : Int) % 1000 = (z : Int) := by rw [← hz]; rfl
        obtain ⟨m, hm⟩ : ∃ m, 1 + z = m := ⟨_, rfl⟩
        have hmi : (1 : Int) + (z : Int) = (m : Int) := by omega
        have HM := Lib.hid (show 0 < m ∧ m ≤ 1000 from ⟨by omega, by omega⟩)
        obtain ⟨Q, hQ⟩ : ∃ Q, 2305843009213693952 / m = Q := ⟨_, rfl⟩
        have hQi : (2305843009213693952 : Int).tdiv (m : Int) = (Q : Int) := by rw [← hQ]; rfl
        have hQi2 : (2305843009213693952 : Int) / (m : Int) = (Q : Int) := by rw [← hQ]; rfl
        have hQw : IntKind.u64.wrap (Q : Int) = (Q : Int) := by
          have : Q ≤ 2305843009213693952 := by rw [← hQ]; exact Nat.div_le_self _ _
          unfold IntKind.wrap
          simp [IntKind.signed, IntKind.bits]
          omega
        have HQ := Lib.hid hQ
        have hm0 : m ≠ 0 := by omega
        have hm1 : ((m : Int) == 0) = false := by simp; omega
        have HFl := Lib.hid (BackFlag.start p Q m ls)
        have hml : m ≤ 1000 := by omega
        have BL := Lib.hid (Below.refl wl.heap.size wl)
        clear hcell hh hz hm hQ
        go_wp2_with fail
        clear hzi hzi2 hmi hQi hQi2 hQw e0
        go_loopw [10, 11] (fun fv kv wr => ∃ (kk : Nat) (f : Bool), kv = .int .i64 kk ∧ fv = .bool f ∧ kk ≤ k ∧ Hid (BackFlag f p Q m ls kk) ∧ Hid (Below W.heap.size W wr) ∧ Hid (Below wl.heap.size wl wr)) (fun _ kv _ => k - (intOf kv).toNat)
        case atStart => exact ⟨0, decide (p ≤ Q), rfl, rfl, Nat.zero_le _, HFl, BB, BL⟩
        case round =>
          clear HFl BB BL
          obtain ⟨kk, f, rfl, rfl, hkk, HFl, BB, BL⟩ := hrel
          by_cases hkl : kk < k
          · have hkl2 : kk < ls.length := by rw [HO.out.1]; exact hkl
            obtain ⟨gL, oL, A1, q1, c1, A2, q2, c2, rfl, hgL, f1, f2, n1, n2⟩ := HO.out.rd.at21 hkl2
            have e1 := (BL.out.cell (p := ⟨gL, oL + kk * 2, none⟩) hgL).trans f1
            obtain ⟨mk, hmk⟩ : ∃ m, ls[kk].m = m := ⟨_, rfl⟩
            have hmk3 := (HI.out.each _ (List.getElem_mem hkl2)).2.2
            rw [hmk] at n1 hmk3
            obtain ⟨G, hG⟩ : ∃ G, Nat.gcd m mk = G := ⟨_, rfl⟩
            have HGe := Lib.hid (show Nat.gcd ls[kk].m m = G by rw [hmk, Nat.gcd_comm]; exact hG)
            have C1 := Lib.hid fun (u : World) (b : Below wl.heap.size wl u) => small16_any (n1.step b) (by omega)
            have HG0 := Lib.hid (show Nat.gcd m mk = G ∧ m < 18446744073709551616 ∧ mk < 18446744073709551616 from ⟨hG, by have := HM.out.2; omega, by omega⟩)
            clear f1 f2 n1 n2 hmk hmk3 hG
            go_wp2_with fail
            refine (C1.out _ BL.out).mono ?_
            rintro e u11 ⟨rfl, b11⟩
            have BB := Lib.hid (below_step BB.out b11)
            have BL := Lib.hid (below_step BL.out b11)
            clear C1
            clear b11
            clear e1
            go_wp2_with fail
            go_loopw [14, 15] (fun av bv wr => ∃ x y : Nat, av = .int .u64 x ∧ bv = .int .u64 y ∧ Hid (Nat.gcd x y = G ∧ x < 18446744073709551616 ∧ y < 18446744073709551616) ∧ Hid (Below W.heap.size W wr) ∧ Hid (Below wl.heap.size wl wr)) (fun _ bv _ => (intOf bv).toNat)
            case atStart => exact ⟨m, mk, rfl, rfl, HG0, BB, BL⟩
            case round =>
              clear HG0 BB BL
              obtain ⟨x, y, rfl, rfl, HG, BB, BL⟩ := hrel
              by_cases h0 : y = 0
              · have HE := Lib.hid (show x = G by rw [← HG.out.1, h0, Nat.gcd_zero_right])
                subst h0
                obtain rfl := HE.out
                rcases f with _ | _
                · have HFl := Lib.hid (HFl.out.no hkl2)
                  go_wp2_with fail
                  go_roundw
                  case rel => exact ⟨kk + 1, false, by go_num, rfl, by omega, HFl, BB, BL⟩
                  case measure => simp [intOf]; omega
                · by_cases hx1 : x = 1
                  · have HFl := Lib.hid (HFl.out.yes hkl2 (by rw [HGe.out]; exact hx1))
                    subst hx1
                    go_wp2_with fail
                    go_roundw
                    case rel => exact ⟨kk + 1, true, by go_num, rfl, by omega, HFl, BB, BL⟩
                    case measure => simp [intOf]; omega
                  · have HFl : Hid (BackFlag false p Q m ls (kk + 1)) := Lib.hid (BackFlag.fall hkl2 (by rw [HGe.out]; exact hx1))
                    have hxb : ((x : Int) == 1) = false := by simp; omega
                    clear hx1
                    go_wp2_with fail
                    go_roundw
                    case rel => exact ⟨kk + 1, false, by go_num, rfl, by omega, HFl, BB, BL⟩
                    case measure => simp [intOf]; omega
              · have h1 : 0 < y := by omega
                have h2 : ((y : Int) == 0) = false := by simp; omega
                obtain ⟨z, hz⟩ : ∃ z, x % y = z := ⟨_, rfl⟩
                have hzl : z < y := by rw [← hz]; exact Nat.mod_lt x h1
                have hzi : (x : Int).tmod (y : Int) = (z : Int) := by rw [← hz]; rfl
                have hzi2 : (x : Int) % (y : Int) = (z : Int) := by rw [← hz]; rfl
                have HZ := Lib.hid hz
                have HL := Lib.hid hzl
                clear hz hzl
                go_wp2_with fail
                go_quiet (fail)
                go_wp2_with fail
                go_roundw
                case rel => exact ⟨y, z, rfl, rfl, Lib.hid ⟨by rw [← HZ.out, Nat.gcd_comm, gcd_rest]; exact HG.out.1, HG.out.2.2, by have := HG.out.2.2; have := HL.out; omega⟩, Lib.hid (below_step BB.out (drawn21 _)), Lib.hid (below_step BL.out (drawn21 _))⟩
                case measure => have := HL.out; simp [intOf]; omega
          · obtain rfl : k = kk := by omega
            rcases f with _ | _
            · have HO := Lib.hid (HO.out.step BL.out)
              go_wp2_with fail
              go_roundw
              case rel => exact ⟨i + 1, p, k, AT, cT, ls, by go_num, rfl, rfl, by omega, by omega, HO, HI, BB⟩
              case measure => simp [intOf]; omega
            · have hout := HFl.out.out (by rw [HO.out.1]; exact Nat.le_refl _)
              have hI2 := HI.out.next HM.out.1 HM.out.2 (by rw [HQ.out]; exact hout.1) hout.2
              obtain ⟨p2, hp2⟩ : ∃ p2, p * m = p2 := ⟨_, rfl⟩
              obtain ⟨r, hr⟩ : ∃ r, nn % m = r := ⟨_, rfl⟩
              rw [hp2, hr] at hI2
              have HI2 := Lib.hid hI2
              have hpl := hI2.le
              have hwr : IntKind.u64.wrap ((p : Int) * (m : Int)) = (p2 : Int) := by
                rw [show (p : Int) * (m : Int) = (p2 : Int) by rw [← hp2]; rfl]
                unfold IntKind.wrap
                simp [IntKind.signed, IntKind.bits]
                omega
              have hri : (nn : Int).tmod (m : Int) = (r : Int) := by rw [← hr]; rfl
              have hri2 : (nn : Int) % (m : Int) = (r : Int) := by rw [← hr]; rfl
              have hrl : r < 1000 := by have := Nat.mod_lt nn HM.out.1; have := HM.out.2; omega
              have HO := Lib.hid (HO.out.step BL.out)
              have C2 := Lib.hid fun u => nat16_any u r (by omega)
              have C3 := Lib.hid fun u => nat16_any u m (by have := HM.out.2; omega)
              clear hout hI2 hp2 hr hpl hrl
              go_wp2_with fail
              refine (C2.out _).mono ?_
              rintro e u12 ⟨X1, q1, d1, rfl, n1, b12⟩
              have BB := Lib.hid (below_step BB.out b12)
              have HO := Lib.hid (HO.out.step b12)
              have N1 := Lib.hid n1
              clear C2
              clear b12 n1
              go_wp2_with fail
              refine (C3.out _).mono ?_
              rintro e u13 ⟨X2, q2, d2, rfl, n2, b13⟩
              have BB := Lib.hid (below_step BB.out b13)
              have HO := Lib.hid (HO.out.step b13)
              have N1 := Lib.hid (N1.out.step b13)
              have N2 := Lib.hid n2
              clear C3
              clear b13 n2
              obtain ⟨g, cap, u3, hrun, hown, hbel⟩ := HO.out.append (by omega) BB.out.size N2.out N1.out 32
              have HO3 := Lib.hid hown
              have BB := Lib.hid (BB.out.trans hbel)
              clear hown hbel N1 N2 HO
              go_wp2_with (at_builtin; refine wpList_append21 rfl _ _ 32 rfl _ _ rfl rfl hrun ?_)
              clear hrun
              go_wp2_with fail
              go_roundw
              case rel => exact ⟨i + 1, p2, k + 1, _, _, _, by go_num, rfl, rfl, by omega, by omega, HO3, HI2, BB⟩
              case measure => simp [intOf]; omega
      · obtain rfl : l.length = i := by omega
        have hI := HI.out
        have hR := hI.r
        have hM := hI.m
        have h0 := hI.ok
        have hpos := hI.pos
        have hfw := hI.few
        have hLp : LowB p := by have := hI.le; unfold LowB; omega
        obtain ⟨R, hRe⟩ : ∃ R, nn % p = R := ⟨_, rfl⟩
        have hRi : (nn : Int).tmod (p : Int) = (R : Int) := by rw [← hRe]; rfl
        have hRi2 : (nn : Int) % (p : Int) = (R : Int) := by rw [← hRe]; rfl
        have hRl : LowB R := by have := Nat.mod_lt nn hpos; rw [hRe] at this; unfold LowB at *; omega
        have C1 := fun (u : World) (h : RdRests u AT ls) => Calls.mono (join_pf (n := k) (c := cT) h HO.out.1 hfw (by omega)) fun _ _ k => OutJoin.as k
        rw [h0, hR, hM, hRe] at C1
        have hp0 : p ≠ 0 := by omega
        have hp1 : ((p : Int) == 0) = false := by simp; omega
        have HRe := Lib.hid hRe
        have HFw := Lib.hid hfw
        have H0 := Lib.hid h0
        have C1 := Lib.hid C1
        have HLp := Lib.hid hLp
        have HRl := Lib.hid hRl
        have HRd := Lib.hid HO.out.rd
        clear hI hR hM h0 hpos hfw hLp hRe hRl
        go_wp2_with fail
        refine (C1.out _ HRd.out).mono ?_
        rintro e u14 ⟨Xa, qa, da, Ya, pa, fa, rfl, ra, sa, b14⟩
        have BB := Lib.hid (below_step BB.out b14)
        have HO := Lib.hid (HO.out.step b14)
        have Ra := Lib.hid ra
        have Sa := Lib.hid sa
        clear C1 HRd
        clear b14 ra sa
        go_wp2_with fail
        refine (small16_any Ra.out HRl.out).mono ?_
        rintro e u15 ⟨rfl, b15⟩
        have BB := Lib.hid (below_step BB.out b15)
        have HO := Lib.hid (HO.out.step b15)
        have Ra := Lib.hid (Ra.out.step b15)
        have Sa := Lib.hid (Sa.out.step b15)
        clear b15
        go_wp2_with fail
        refine (small16_any Sa.out HLp.out).mono ?_
        rintro e u16 ⟨rfl, b16⟩
        have BB := Lib.hid (below_step BB.out b16)
        have HO := Lib.hid (HO.out.step b16)
        have Ra := Lib.hid (Ra.out.step b16)
        clear Sa
        clear b16
        by_cases hpn : nn < p
        · by_cases hk0 : k = 0
          · subst hk0
            go_wp2_with fail
            refine (HWk.out _).mono ?_
            rintro e w9 ⟨rfl, b9⟩
            have B9 := Lib.hid (below_step BB.out b9)
            clear b9
            go_wp2_with fail
            go_ret
            exact ⟨rfl, B9.out⟩
          · have hk1 : 0 < k := by omega
            have HRn := Lib.hid (show R = nn by rw [← HRe.out]; exact Nat.mod_eq_of_lt hpn)
            have BBs := Lib.hid BB.out.size
            have HLit := Lib.hid (OwnR.lit0 u16)
            have ba : Below u16.heap.size u16 (u16.alloc (.cells #[] 40)) := (Below.refl _ u16).alloc (Nat.le_refl _) _
            obtain ⟨v', u6, hrun, hrow, hbel⟩ := HLit.out.appendAll (HO.out.step ba) (by omega) (by omega) hk1 ba.size 32
            rw [Nat.zero_add, List.nil_append] at hrow
            have HRow := Lib.hid hrow
            obtain ⟨A6, c6, rfl, h6⟩ := HRow.out.form
            have BB := Lib.hid (BB.out.trans ((ba.trans hbel).mono BB.out.size))
            have BU := Lib.hid (ba.trans hbel)
            clear hrow HLit hbel ba
            go_wp2_with (at_builtin; refine wpList_append21 rfl _ _ 32 rfl _ _ rfl rfl hrun ?_)
            clear hrun
            have C2 := Lib.hid fun u => nat16_any u 1 (by omega)
            go_wp2_with fail
            refine (C2.out _).mono ?_
            rintro e u17 ⟨X1, q1, d1, rfl, n1, b17⟩
            have BU := Lib.hid (BU.out.trans (b17.mono BU.out.size))
            have BB := Lib.hid (below_step BB.out b17)
            have HRow := Lib.hid (HRow.out.step b17)
            have N1 := Lib.hid n1
            clear C2
            clear b17 n1
            obtain ⟨g, cap, u7, hrun, hown, hbel⟩ := HRow.out.append (by omega) BU.out.size N1.out (NO.nil _) 32
            have HO7 := Lib.hid hown
            have BU := Lib.hid (BU.out.trans hbel)
            have BB := Lib.hid (BB.out.trans (hbel.mono (Nat.le_trans BBs.out (Nat.le_refl _))))
            clear hown N1 HRow hbel
            go_wp2_with (at_builtin; refine wpList_append21 rfl _ _ 32 rfl _ _ rfl rfl hrun ?_)
            clear hrun
            have C3 := fun (u : World) (h : RdRests u (some ⟨g, 0, none⟩) (ls ++ [⟨1, 0⟩])) => Calls.mono (join_pf (n := k + 1) (c := cap) h (by simp; exact HO.out.1) (fun s hs => by
              rcases List.mem_append.1 hs with hs | hs
              · exact HFw.out s hs
              · rw [List.mem_singleton.1 hs]; exact few_small21 (ss := [⟨1, 0⟩]) (by decide) _ (List.mem_singleton.2 rfl)) (by omega)) fun _ _ k => OutJoin.as k
            rw [errC_one H0.out, ansR_one H0.out, HI.out.r, HRe.out, HRn.out] at C3
            have HRd7 := Lib.hid HO7.out.rd
            generalize ansM (ls ++ [⟨1, 0⟩]) = MM at C3
            have C3 := Lib.hid C3
            go_wp2_with fail
            refine (C3.out _ HRd7.out).mono ?_
            rintro e u18 ⟨Xd, qd, dd, Yd, pd, fd, rfl, rd, sd, b18⟩
            have BB := Lib.hid (below_step BB.out b18)
            have Rd := Lib.hid rd
            clear C3 HRd7 sd
            clear b18 rd
            have C4 := Lib.hid fun u => nat16_any u nn (by have := HNn.out; unfold Low60 at this; omega)
            go_wp2_with fail
            refine (C4.out _).mono ?_
            rintro e u19 ⟨X4, q4, d4, rfl, n4, b19⟩
            have BB := Lib.hid (below_step BB.out b19)
            have Rd := Lib.hid (Rd.out.step b19)
            have N4 := Lib.hid n4
            clear C4
            clear b19 n4
            go_wp2_with fail
            refine (same16_any Rd.out (NV.is N4.out.nv) true ⟨fun _ => rfl, fun _ => rfl⟩).mono ?_
            rintro e u20 ⟨rfl, b20⟩
            have BB := Lib.hid (below_step BB.out b20)
            clear Rd N4
            clear b20
            go_wp2_with fail
            refine (HWk.out _).mono ?_
            rintro e w9 ⟨rfl, b9⟩
            have B9 := Lib.hid (below_step BB.out b9)
            clear b9
            go_wp2_with fail
            go_ret
            exact ⟨rfl, B9.out⟩
        · go_wp2_with fail
          refine (HWk.out _).mono ?_
          rintro e w9 ⟨rfl, b9⟩
          have B9 := Lib.hid (below_step BB.out b9)
          clear b9
          go_wp2_with fail
          go_ret
          exact ⟨rfl, B9.out⟩
  · have g12 : 12 < l.length := by omega
    clear hr hh
    go_enter Try.func5, Try.ntmps5
    go_wp2_with fail
    refine (HWk.out _).mono ?_
    rintro e w1 ⟨rfl, b1⟩
    go_wp2_with fail
    go_ret
    exact ⟨rfl, b1⟩
end Go.Proofs.Ytgmolbiicclcaaa

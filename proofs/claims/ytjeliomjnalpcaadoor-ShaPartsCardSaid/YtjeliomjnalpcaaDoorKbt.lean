/- Several texts in one; each begins with a remark that says what it shows and on which conditions. -/
import Derived.Test.YtjeliomjnalpcaaDoorKbs
/- ShaParts' walk: it answers true, and writes nothing that was there. Conditions: what the arguments' types give; the tables of constants are laid. -/
namespace Go.Proofs.YtjeliomjnalpcaaDoor
open Go.RowKit
set_option maxRecDepth 20000
theorem sumLen_le (ms : List (List Nat)) (M : Nat) (h : ∀ j (hj : j < ms.length), ms[j].length ≤ M) (i : Nat) (hi : i ≤ ms.length) : sumLen ms i ≤ i * M := by
  induction i with
  | zero => simp [sumLen]
  | succ i ih =>
    have h1 := ih (by omega)
    have h2 := h i (by omega)
    rw [sumLen_succ ms i (by omega), Nat.add_mul]
    omega
section
variable {w w' : World} {base : Nat} {e : TypeId} {n k : Nat} {v : Value} {xs : List Value}
theorem own_kept (h : w.ownsRow base e n v k xs) (hs : ∀ b, base ≤ b → b < w.heap.size → w'.heap[b]? = w.heap[b]?) : w'.ownsRow base e n v k xs := by
  refine ⟨h.1, ?_⟩
  rcases h.2 with h0 | ⟨g, cap, cur, hv, hb, h2, h3⟩
  · exact .inl h0
  · exact .inr ⟨g, cap, cur, hv, hb, (hs g hb (Array.getElem?_eq_some_iff.1 h2).1).trans h2, h3⟩
theorem own_base7 {A : Option Addr} {c : Nat} (h : w.ownsRow base e n (.slice A k c) k xs) : ∀ b o, A = some ⟨b, o, none⟩ → base ≤ b := by
  intro b o hA
  rcases h.2 with ⟨h0, _⟩ | ⟨g, cap, cur, hv, hb, _⟩
  · cases h0; cases hA
  · cases hv; cases hA; exact hb
theorem own_ne {g : Nat} (h : w.ownsRow base e n v k xs) (hg : g < base) : some g ≠ v.ownBlock := by
  rcases h.2 with ⟨rfl, _⟩ | ⟨b, cap, cur, rfl, hb, _⟩
  · intro hh; cases hh
  · intro hh
    have : g = b := by simpa [Value.ownBlock] using hh
    omega
theorem own_ge (h : w.ownsRow base e n v k xs) : ∀ q, v.ownBlock = some q → base ≤ q := by
  intro q hq
  rcases h.2 with ⟨rfl, _⟩ | ⟨b, cap, cur, rfl, hb, _⟩
  · cases hq
  · have : b = q := by simpa [Value.ownBlock] using hq
    omega
end
theorem bytes_nil : Bytes [] := by intro x hx; cases hx
set_option maxHeartbeats 16000000 in
theorem shaParts_walk (A0 : Option Addr) (n c0 : Nat) (ms : List (List Nat)) (A1 : Option Addr) (q c1 : Nat) (bs : List Bool) (w : World) (hn : ms.length = n) (hq : bs.length = q)
    (r0 : RdRows w w.heap.size A0 ms) (z0 : ∀ j (hj : j < ms.length), ms[j].length ≤ 140737488351232) (_u0 : n ≤ c0) (r1 : RdBools w w.heap.size A1 bs) (z1 : q ≤ 140737488351232) (_u1 : q ≤ c1) (hL : Laid w) :
    Calls Tryd.prog 6 #[.slice A0 n c0, .slice A1 q c1] w fun e w' => e = .returned (.bool true) ∧ Below w.heap.size w w' := by
  obtain ⟨i0, hi, hz0, hz1, hz2⟩ := info_parts num_info_u8
  have Hn := Lib.hid hn
  have Hq := Lib.hid hq
  have HR0 := Lib.hid r0
  have HZ0 := Lib.hid z0
  have HR1 := Lib.hid r1
  have HG := Lib.hid hL
  clear hn hq r0 z0 r1 hL
  by_cases hbig : n ≤ 60
  · have hbi : ¬ (60 : Int) < (n : Int) := by omega
    go_enter Tryd.func6, Tryd.ntmps6
    go_wp2_with fail
    go_loopw [5, 6] (fun s v wr => ∃ i : Nat, i ≤ n ∧ v = .int .i64 (i : Int) ∧ s = .int .i64 (sumLen ms i : Nat) ∧ w = wr) (fun _ v _ => n - (intOf v).toNat)
    case atStart => exact ⟨0, Nat.zero_le _, rfl, rfl, rfl⟩
    case round =>
      obtain ⟨i, hi', rfl, rfl, rfl⟩ := hrel
      by_cases hlt : i < n
      · have hlm : i < ms.length := by rw [Hn.out]; exact hlt
        obtain ⟨b, off, rfl, hb, hc⟩ := HR0.out (by omega)
        obtain ⟨X, d, hcell, _, _, _⟩ := hc i hlm
        have hss := sumLen_succ ms i hlm
        have hbd : sumLen ms i + ms[i].length ≤ 60 * 140737488351232 := by have h1 := sumLen_le ms _ HZ0.out i (by omega); have h2 := HZ0.out i hlm; have h3 := Nat.mul_le_mul_right 140737488351232 (show i + 1 ≤ 60 by omega); rw [Nat.add_mul] at h3; omega
        obtain ⟨L, hL⟩ : ∃ L, ms[i].length = L := ⟨_, rfl⟩
        rw [hL] at hss hcell hbd
        obtain ⟨sm, hsm⟩ : ∃ s, sumLen ms i = s := ⟨_, rfl⟩
        rw [hsm] at hss hbd ⊢
        have HSS := Lib.hid hss
        clear hc hL hss hsm
        go_wp2_with fail
        go_roundw
        case rel => exact ⟨i + 1, by omega, by go_num, by rw [HSS.out, Int.natCast_add], by first | rfl | trivial⟩
        case measure => simp [intOf]; omega
      · obtain rfl : i = n := by omega
        obtain ⟨T, hT⟩ : ∃ T, sumLen ms i = T := ⟨_, rfl⟩
        rw [hT]
        have HT := Lib.hid hT
        clear hT
        by_cases hT4 : T ≤ 4096
        · have hTi : ¬ (4096 : Int) < (T : Int) := by omega
          go_wp2_with fail
          refine (new_pf w HG.out).mono ?_
          rintro e w1 ⟨rfl, hH1, b1⟩
          obtain ⟨g, hg⟩ : ∃ g, w.heap.size = g := ⟨_, rfl⟩
          have hg2 : 2 ≤ g := by rw [← hg]; exact HG.out.size
          have HWG := Lib.hid hg
          rw [hg] at hH1
          obtain ⟨ca, hca⟩ : ∃ ca, (ints .u8 (shaS [])).toArray = ca := ⟨_, rfl⟩
          have hSum := sum_pf g [] w1 hH1 (HG.out.below b1) bytes_nil (by simp)
          have hEq := eq_sums []
          rw [hca] at hEq hSum
          have HCA := Lib.hid hca
          have HSm := Lib.hid hSum
          have HH := Lib.hid (And.intro hH1 b1)
          clear hca hSum hH1 b1
          (try rw [hg])
          clear hg
          go_wp2_with fail
          refine (HSm.out).mono ?_
          rintro e w2 ⟨rfl, b2⟩
          have B2 := HH.out.2.trans (b2.mono HH.out.2.size)
          have hH2 := HH.out.1.keep (b2.block g HH.out.1.lt)
          clear HSm HH b2
          go_wp2_with fail
          refine (sSum none 0 0 [] w2 rfl Rd.nil bytes_nil (by omega) (by omega) ca HCA.out (HG.out.below B2)).mono ?_
          rintro e w3 ⟨rfl, b3⟩
          have B3 := B2.trans (b3.mono B2.size)
          have hH3 := hH2.keep (b3.block g hH2.lt)
          have HH := Lib.hid (And.intro hH3 B3)
          clear hH2 B2 b3 hH3 B3
          go_wp2_with fail
          clear hEq HCA
          have HT4 := Lib.hid hT4
          clear hT4 hTi
          go_loopw [8, 9] (fun av v wr => ∃ (k : Nat) (m : List Nat) (K : Nat), k ≤ i ∧ v = .int .i64 (k : Int) ∧ wr.ownsRow (g + 1) 5 1 av K (ints .u8 m) ∧ m.length = K ∧ K ≤ sumLen ms k ∧ Bytes m ∧ HashIs wr g m ∧ Below w.heap.size w wr) (fun _ v _ => i - (intOf v).toNat)
          case atStart => exact ⟨0, [], 0, Nat.zero_le _, rfl, ⟨rfl, .inl ⟨rfl, rfl⟩⟩, rfl, Nat.zero_le _, bytes_nil, HH.out.1, HH.out.2⟩
          case round =>
            clear HH
            obtain ⟨k, m, K, hk, rfl, hown, hmK, hKs, hbm, hH, hB⟩ := hrel
            obtain ⟨X, d, rfl, hd, hdm⟩ := own_form hown
            obtain ⟨wk, hwk⟩ : ∃ wk : World, wk = wr := ⟨_, rfl⟩
            subst hwk
            by_cases hlt : k < i
            · have hki : (k : Int) < (i : Int) := by omega
              have hlm : k < ms.length := by rw [Hn.out]; exact hlt
              have hsmo := sumLen_mono ms k hlm
              have hsT : sumLen ms ms.length = T := by rw [Hn.out]; exact HT.out
              rw [hsT] at hsmo
              have hss := sumLen_succ ms k hlm
              obtain ⟨rb, ro, rfl, hrb, hrc⟩ := HR0.out (by omega)
              obtain ⟨Y, f, hcell, hY, hLf, hYb⟩ := hrc k hlm
              obtain ⟨l, hl⟩ : ∃ l, ms[k] = l := ⟨_, rfl⟩
              rw [hl] at hsmo hss hcell hY hLf hYb
              obtain ⟨L, hL⟩ : ∃ L, l.length = L := ⟨_, rfl⟩
              rw [hL] at hsmo hss hcell hLf
              have hKL : K + L ≤ 4096 := by have := HT4.out; omega
              have hK4 : K + L ≤ sumLen ms (k + 1) := by omega
              have hL4 : L ≤ sumLen ms (k + 1) := by omega
              have HL := Lib.hid hL
              have HKK := Lib.hid (And.intro hK4 (And.intro hL4 hbm))
              have HY := Lib.hid (And.intro hY (And.intro hYb hcell))
              have HMK := Lib.hid hmK
              clear hrc hl hL hss hsmo hsT hKs hK4 hL4 hbm hY hYb hmK
              have hres : (∃ hq : k < q, ∃ hb : k < bs.length, bs[k] = true) ∨ (∃ hq : k < q, ∃ hb : k < bs.length, bs[k] = false) ∨ ¬ k < q := by
                by_cases hkq : k < q
                · have hb : k < bs.length := by rw [Hq.out]; exact hkq
                  cases hbk : bs[k]
                  · exact .inr (.inl ⟨hkq, hb, hbk⟩)
                  · exact .inl ⟨hkq, hb, hbk⟩
                · exact .inr (.inr hkq)
              rcases hres with ⟨hkq, hb, hbk⟩ | ⟨hkq, hb, hbk⟩ | hkq
              · obtain ⟨zb, zo, rfl, hzb, hzc⟩ := HR1.out (by omega)
                have hz := hzc k hb
                rw [hbk] at hz
                have hzcell := (hB.cell (p := ⟨zb, zo + k, none⟩) hzb).trans hz
                have hkqi : (k : Int) < (q : Int) := by omega
                have HRs := Lib.hid (reset_pf g m wk hH (HG.out.below hB))
                clear hzc hz hbk hH hown hd hdm hcell
                go_wp2_with fail
                refine (HRs.out).mono ?_
                rintro e wq ⟨rfl, yq, hHq⟩
                have Bq := yq.below hB hB.size (fun x hx => by have h : x = g := hx; have := HWG.out; omega)
                have ownq : wq.ownsRow (g + 1) 5 1 (.slice none 0 0) 0 (ints .u8 []) := ⟨rfl, .inl ⟨rfl, rfl⟩⟩
                have HQ := Lib.hid (And.intro hHq (And.intro ownq Bq))
                clear HRs hzcell hHq yq Bq hB ownq HMK
                have hgq := HQ.out.1.lt
                have bq0 := HQ.out.2.2.alloc HQ.out.2.2.size (.cells #[] 5)
                have hcq := (bq0.cell (p := ⟨rb, ro + k, none⟩) hrb).trans HY.out.2.2
                have own0 : (wq.alloc (.cells #[] 5)).ownsRow wq.heap.size 5 1 (.slice (some ⟨wq.heap.size, 0, none⟩) 0 0) 0 (ints .u8 []) := own_of_heap (cur := []) (heap_alloc_new wq (.cells #[] 5)) (Nat.le_refl _) (Nat.le_refl _) (by unfold maxLen; omega) rfl rfl
                have b0 : Below wq.heap.size wq (wq.alloc (.cells #[] 5)) := (Below.refl _ wq).alloc (Nat.le_refl _) _
                have hr0 := Lib.hid (HY.out.1.below bq0)
                clear bq0
                go_wp2_with (at_builtin; refine wpList_append_rd _ rfl (.tmp 60) (.tmp 64) _ rfl wq.heap.size 5 i0 _ 1 Tryd.underlying34 hi hz0 hz1 hz2 rfl (.slice (some ⟨wq.heap.size, 0, none⟩) 0 0) 0 (ints .u8 []) rfl own0 .u8 w.heap.size Y L f l rfl HL.out hr0.out ?a4x ?a5x ?a6x ?_)
                case a4x => unfold maxLen; omega
                case a5x => omega
                (try (case a6x => simp))
                intro v1 w5 own1 g1
                have b5 : Below wq.heap.size wq w5 := b0.grown g1 b0.size (by simp [Value.ownBlock])
                rw [← ints_append, List.nil_append] at own1
                (try rw [Nat.zero_add] at own1)
                obtain ⟨X1, d1, rfl, hd1, _⟩ := own_form own1
                have R1 := Rd.own own1
                have hne := own_base7 own1
                have hH5 := HQ.out.1.keep (b5.block g hgq)
                have B5 := HQ.out.2.2.trans (b5.mono HQ.out.2.2.size)
                have HWr := Lib.hid (write_pf g [] l X1 L d1 w5 hH5 hg2 (HG.out.below B5) bytes_nil R1 HY.out.2.1 HL.out hd1 (by rw [show ([] : List Nat).length = 0 from rfl]; omega) (fun _ a o e ha => by have := hne a o e; omega))
                have HO := Lib.hid (And.intro own1 (And.intro b5 B5))
                have HD := Lib.hid (And.intro hd1 b5.size)
                clear own0 b0 g1 hr0 own1 b5 R1 hne hH5 B5 hcq hd1
                go_wp2_with fail
                refine (HWr.out).mono ?_
                rintro e w6 ⟨rfl, B6, hH6⟩
                have own6 := own_kept (w' := w6) HO.out.1 (fun b hb hlt => B6.block b hlt (fun h => by have h : b = g := h; omega))
                have hold6 : ∀ b, b < wq.heap.size → ¬ b = g → w6.heap[b]? = wq.heap[b]? := fun b hb hne => (B6.block b (Nat.lt_of_lt_of_le hb HD.out.2) hne).trans (HO.out.2.1.block b hb)
                rw [List.nil_append] at hH6
                have BB6 := B6.below HO.out.2.2 HO.out.2.2.size (fun x hx => by have h : x = g := hx; have := HWG.out; omega)
                have hq6 : wq.heap.size ≤ w6.heap.size := Nat.le_trans HD.out.2 B6.size
                have HS6 := Lib.hid (And.intro hH6 (And.intro hold6 (And.intro BB6 hq6)))
                have HO6 := Lib.hid own6
                clear HWr HO hH6 hold6 BB6 own6 B6 hq6
                go_wp2_with fail
                go_loopw [11] (fun v wr => ∃ (j : Nat) (l' : List Nat), j ≤ L ∧ v = .int .i64 (j : Int) ∧ l'.length = L ∧ wr.ownsRow wq.heap.size 5 1 (.slice X1 L d1) L (ints .u8 l') ∧ Below wq.heap.size w6 wr) (fun v _ => L - (intOf v).toNat)
                case atStart => exact ⟨0, l, Nat.zero_le _, rfl, HL.out, HO6.out, Below.refl _ _⟩
                case round =>
                  clear HO6
                  obtain ⟨j, l', hj, rfl, hl', hown, hB⟩ := hrel
                  by_cases hjL : j < L
                  · have hown2 := hown
                    rcases hown.2 with ⟨_, h0⟩ | ⟨xb, cap, cur, hv, hxb, _⟩
                    · omega
                    cases hv
                    have hco : wr.cell? ⟨xb, j, none⟩ = some (.int .u8 (nth l' j : Int)) := by rw [hown2.cellAt _ (by omega), ints_get _ _ _ (by omega)]
                    have hfo : wr.frozen? ⟨xb, j, none⟩ = false := hown2.frozenAt _
                    obtain ⟨a, ha⟩ : ∃ a, nth l' j = a := ⟨_, rfl⟩
                    rw [ha] at hco
                    obtain ⟨y, hy, _⟩ := xor_u8 (a : Int)
                    obtain ⟨hst, _⟩ := hown2.stored j (.int .u8 (y : Int))
                    rw [ints_set] at hst
                    have HS := Lib.hid hst
                    have HB := Lib.hid (hB.setCell (p := ⟨xb, j, none⟩) hxb (.int .u8 (y : Int)))
                    have hjL2 : (j : Int) < (L : Int) := by omega
                    clear hown hown2 hst hB ha
                    go_wp2_with fail
                    go_roundw
                    case rel => exact ⟨j + 1, l'.set j y, by omega, by go_num, by rw [List.length_set]; exact hl', HS.out, HB.out⟩
                    case measure => simp [intOf]; omega
                  · obtain rfl : j = L := by omega
                    clear hown
                    have B7 := HS6.out.2.2.1.trans (hB.mono HQ.out.2.2.size)
                    have hH7 := HS6.out.1.keep (hB.block g hgq)
                    have own7 := own_kept (w' := wr) HQ.out.2.1 (fun b hb hlt => (hB.block b hlt).trans (HS6.out.2.1 b hlt (by omega)))
                    have hcell7 := (B7.cell (p := ⟨rb, ro + k, none⟩) hrb).trans HY.out.2.2
                    have HR7 := Lib.hid (HY.out.1.below B7)
                    have hs7 : g + 1 ≤ wr.heap.size := hH7.lt
                    have HA := Lib.hid (And.intro hH7 B7)
                    clear hH7 B7 hB HS6
                    go_wp2_with (at_builtin; refine wpList_append_rd _ rfl (.tmp 84) (.tmp 88) _ rfl (g + 1) 5 i0 _ 1 Tryd.underlying34 hi hz0 hz1 hz2 rfl (.slice none 0 0) 0 (ints .u8 []) rfl own7 .u8 w.heap.size Y j f l rfl HL.out HR7.out ?b4x ?b5x ?b6x ?_)
                    case b4x => unfold maxLen; omega
                    case b5x => omega
                    case b6x => exact hs7
                    intro v3 w8 own3 g3
                    rw [← ints_append] at own3
                    rw [List.nil_append] at own3
                    (try rw [Nat.zero_add] at own3)
                    have B8 := HA.out.2.grown g3 HA.out.2.size (fun q e => by have := own_ge own7 q e; have := HWG.out; omega)
                    have hH8 := HA.out.1.keep (g3.block g HA.out.1.lt (own_ne own7 (by omega)))
                    obtain ⟨X3, d3, rfl, hd3, _⟩ := own_form own3
                    have R8 := Rd.own own3
                    have hbm3 : Bytes l := HY.out.2.1
                    have hml3 : (l).length = j := HL.out
                    have hEq := eq_sums l
                    obtain ⟨ca, hca⟩ : ∃ ca, (ints .u8 (shaS l)).toArray = ca := ⟨_, rfl⟩
                    have hS1 := sum_pf g l w8 hH8 (HG.out.below B8) hbm3 (by omega)
                    rw [hca] at hS1 hEq
                    have HS1 := Lib.hid hS1
                    have HCA := Lib.hid hca
                    have HM := Lib.hid (And.intro hbm3 hml3)
                    have HF := Lib.hid (And.intro own3 (And.intro hH8 (And.intro B8 R8)))
                    clear hS1 hca hbm3 hml3 own3 hH8 B8 R8 g3 own7 HA HR7 hcell7 hs7
                    go_wp2_with fail
                    refine (HS1.out).mono ?_
                    rintro e w9 ⟨rfl, b9⟩
                    have B9 := HF.out.2.2.1.trans (b9.mono HF.out.2.2.1.size)
                    have R9 := rd_step HF.out.2.2.2 b9
                    have hH9 := HF.out.2.1.keep (b9.block g HF.out.2.1.lt)
                    have own9 := own_kept HF.out.1 (fun b _ hlt => b9.block b hlt)
                    have HT1 := Lib.hid (sSum X3 (j) d3 l w9 HM.out.2 R9 HM.out.1 (by omega) hd3 ca HCA.out (HG.out.below B9))
                    have HF := Lib.hid (And.intro own9 (And.intro hH9 (And.intro B9 R9)))
                    clear HS1 b9 B9 R9 hH9 own9
                    go_wp2_with fail
                    refine (HT1.out).mono ?_
                    rintro e w10 ⟨rfl, b10⟩
                    have B10 := HF.out.2.2.1.trans (b10.mono HF.out.2.2.1.size)
                    have R10 := rd_step HF.out.2.2.2 b10
                    have hH10 := HF.out.2.1.keep (b10.block g HF.out.2.1.lt)
                    have own10 := own_kept HF.out.1 (fun b _ hlt => b10.block b hlt)
                    have hS2 := sum_pf g l w10 hH10 (HG.out.below B10) HM.out.1 (by rw [HM.out.2]; omega)
                    rw [HCA.out] at hS2
                    have HS2 := Lib.hid hS2
                    have HF := Lib.hid (And.intro own10 (And.intro hH10 (And.intro B10 R10)))
                    clear HT1 b10 B10 R10 hH10 own10 hS2
                    go_wp2_with fail
                    refine (HS2.out).mono ?_
                    rintro e w11 ⟨rfl, b11⟩
                    have B11 := HF.out.2.2.1.trans (b11.mono HF.out.2.2.1.size)
                    have R11 := rd_step HF.out.2.2.2 b11
                    have hH11 := HF.out.2.1.keep (b11.block g HF.out.2.1.lt)
                    have own11 := own_kept HF.out.1 (fun b _ hlt => b11.block b hlt)
                    have HT2 := Lib.hid (sSum X3 (j) d3 l w11 HM.out.2 R11 HM.out.1 (by omega) hd3 ca HCA.out (HG.out.below B11))
                    have HF := Lib.hid (And.intro own11 (And.intro hH11 (And.intro B11 R11)))
                    clear HS2 b11 B11 R11 hH11 own11
                    go_wp2_with fail
                    refine (HT2.out).mono ?_
                    rintro e w12 ⟨rfl, b12⟩
                    have B12 := HF.out.2.2.1.trans (b12.mono HF.out.2.2.1.size)
                    have hH12 := HF.out.2.1.keep (b12.block g HF.out.2.1.lt)
                    have own12 := own_kept HF.out.1 (fun b _ hlt => b12.block b hlt)
                    have HF := Lib.hid (And.intro own12 (And.intro hH12 B12))
                    clear HT2 b12 B12 hH12 own12
                    go_wp2_with fail
                    clear hEq
                    go_roundw
                    case rel => exact ⟨k + 1, l, j, by omega, by go_num, HF.out.1, HM.out.2, HKK.out.2.1, HM.out.1, HF.out.2.1, HF.out.2.2⟩
                    case measure => simp [intOf]; omega
              · obtain ⟨zb, zo, rfl, hzb, hzc⟩ := HR1.out (by omega)
                have hz := hzc k hb
                rw [hbk] at hz
                have hzcell := (hB.cell (p := ⟨zb, zo + k, none⟩) hzb).trans hz
                have hkqi : (k : Int) < (q : Int) := by omega
                have HQ := Lib.hid (And.intro hH (And.intro hown hB))
                clear hzc hz hbk hH hown hB hdm hcell
                go_upto_region 20 with fail
                have hgq := HQ.out.1.lt
                have bq0 := HQ.out.2.2.alloc HQ.out.2.2.size (.cells #[] 5)
                have hcq := (bq0.cell (p := ⟨rb, ro + k, none⟩) hrb).trans HY.out.2.2
                have own0 : (wk.alloc (.cells #[] 5)).ownsRow wk.heap.size 5 1 (.slice (some ⟨wk.heap.size, 0, none⟩) 0 0) 0 (ints .u8 []) := own_of_heap (cur := []) (heap_alloc_new wk (.cells #[] 5)) (Nat.le_refl _) (Nat.le_refl _) (by unfold maxLen; omega) rfl rfl
                have b0 : Below wk.heap.size wk (wk.alloc (.cells #[] 5)) := (Below.refl _ wk).alloc (Nat.le_refl _) _
                have hr0 := Lib.hid (HY.out.1.below bq0)
                clear bq0
                go_wp2_with (at_builtin; refine wpList_append_rd _ rfl (.tmp 60) (.tmp 64) _ rfl wk.heap.size 5 i0 _ 1 Tryd.underlying34 hi hz0 hz1 hz2 rfl (.slice (some ⟨wk.heap.size, 0, none⟩) 0 0) 0 (ints .u8 []) rfl own0 .u8 w.heap.size Y L f l rfl HL.out hr0.out ?a4y ?a5y ?a6y ?_)
                case a4y => unfold maxLen; omega
                case a5y => omega
                (try (case a6y => simp))
                intro v1 w5 own1 g1
                have b5 : Below wk.heap.size wk w5 := b0.grown g1 b0.size (by simp [Value.ownBlock])
                rw [← ints_append, List.nil_append] at own1
                (try rw [Nat.zero_add] at own1)
                obtain ⟨X1, d1, rfl, hd1, _⟩ := own_form own1
                have R1 := Rd.own own1
                have hne := own_base7 own1
                have hH5 := HQ.out.1.keep (b5.block g hgq)
                have B5 := HQ.out.2.2.trans (b5.mono HQ.out.2.2.size)
                have HWr := Lib.hid (write_pf g m l X1 L d1 w5 hH5 hg2 (HG.out.below B5) HKK.out.2.2 R1 HY.out.2.1 HL.out hd1 (by rw [HMK.out]; omega) (fun _ a o e ha => by have := hne a o e; omega))
                have HO := Lib.hid (And.intro own1 (And.intro b5 B5))
                have HD := Lib.hid (And.intro hd1 b5.size)
                clear own0 b0 g1 hr0 own1 b5 R1 hne hH5 B5 hcq hd1
                go_wp2_with fail
                refine (HWr.out).mono ?_
                rintro e w6 ⟨rfl, B6, hH6⟩
                have own6 := own_kept (w' := w6) HO.out.1 (fun b hb hlt => B6.block b hlt (fun h => by have h : b = g := h; omega))
                have hold6 : ∀ b, b < wk.heap.size → ¬ b = g → w6.heap[b]? = wk.heap[b]? := fun b hb hne => (B6.block b (Nat.lt_of_lt_of_le hb HD.out.2) hne).trans (HO.out.2.1.block b hb)
                have BB6 := B6.below HO.out.2.2 HO.out.2.2.size (fun x hx => by have h : x = g := hx; have := HWG.out; omega)
                have hq6 : wk.heap.size ≤ w6.heap.size := Nat.le_trans HD.out.2 B6.size
                have HS6 := Lib.hid (And.intro hH6 (And.intro hold6 (And.intro BB6 hq6)))
                have HO6 := Lib.hid own6
                clear HWr HO hH6 hold6 BB6 own6 B6 hq6
                go_wp2_with fail
                go_loopw [11] (fun v wr => ∃ (j : Nat) (l' : List Nat), j ≤ L ∧ v = .int .i64 (j : Int) ∧ l'.length = L ∧ wr.ownsRow wk.heap.size 5 1 (.slice X1 L d1) L (ints .u8 l') ∧ Below wk.heap.size w6 wr) (fun v _ => L - (intOf v).toNat)
                case atStart => exact ⟨0, l, Nat.zero_le _, rfl, HL.out, HO6.out, Below.refl _ _⟩
                case round =>
                  clear HO6
                  obtain ⟨j, l', hj, rfl, hl', hown, hB⟩ := hrel
                  by_cases hjL : j < L
                  · have hown2 := hown
                    rcases hown.2 with ⟨_, h0⟩ | ⟨xb, cap, cur, hv, hxb, _⟩
                    · omega
                    cases hv
                    have hco : wr.cell? ⟨xb, j, none⟩ = some (.int .u8 (nth l' j : Int)) := by rw [hown2.cellAt _ (by omega), ints_get _ _ _ (by omega)]
                    have hfo : wr.frozen? ⟨xb, j, none⟩ = false := hown2.frozenAt _
                    obtain ⟨a, ha⟩ : ∃ a, nth l' j = a := ⟨_, rfl⟩
                    rw [ha] at hco
                    obtain ⟨y, hy, _⟩ := xor_u8 (a : Int)
                    obtain ⟨hst, _⟩ := hown2.stored j (.int .u8 (y : Int))
                    rw [ints_set] at hst
                    have HS := Lib.hid hst
                    have HB := Lib.hid (hB.setCell (p := ⟨xb, j, none⟩) hxb (.int .u8 (y : Int)))
                    have hjL2 : (j : Int) < (L : Int) := by omega
                    clear hown hown2 hst hB ha
                    go_wp2_with fail
                    go_roundw
                    case rel => exact ⟨j + 1, l'.set j y, by omega, by go_num, by rw [List.length_set]; exact hl', HS.out, HB.out⟩
                    case measure => simp [intOf]; omega
                  · obtain rfl : j = L := by omega
                    clear hown
                    have B7 := HS6.out.2.2.1.trans (hB.mono HQ.out.2.2.size)
                    have hH7 := HS6.out.1.keep (hB.block g hgq)
                    have own7 := own_kept (w' := wr) HQ.out.2.1 (fun b hb hlt => (hB.block b hlt).trans (HS6.out.2.1 b hlt (by omega)))
                    have hcell7 := (B7.cell (p := ⟨rb, ro + k, none⟩) hrb).trans HY.out.2.2
                    have HR7 := Lib.hid (HY.out.1.below B7)
                    have hs7 : g + 1 ≤ wr.heap.size := hH7.lt
                    have HA := Lib.hid (And.intro hH7 B7)
                    clear hH7 B7 hB HS6
                    go_wp2_with (at_builtin; refine wpList_append_rd _ rfl (.tmp 84) (.tmp 88) _ rfl (g + 1) 5 i0 _ 1 Tryd.underlying34 hi hz0 hz1 hz2 rfl (.slice X K d) K (ints .u8 m) rfl own7 .u8 w.heap.size Y j f l rfl HL.out HR7.out ?b4y ?b5y ?b6y ?_)
                    case b4y => unfold maxLen; omega
                    case b5y => omega
                    case b6y => exact hs7
                    intro v3 w8 own3 g3
                    rw [← ints_append] at own3
                    have B8 := HA.out.2.grown g3 HA.out.2.size (fun q e => by have := own_ge own7 q e; have := HWG.out; omega)
                    have hH8 := HA.out.1.keep (g3.block g HA.out.1.lt (own_ne own7 (by omega)))
                    obtain ⟨X3, d3, rfl, hd3, _⟩ := own_form own3
                    have R8 := Rd.own own3
                    have hbm3 : Bytes (m ++ l) := fun x hx => by rcases List.mem_append.1 hx with h | h; exact HKK.out.2.2 x h; exact HY.out.2.1 x h
                    have hml3 : ((m ++ l)).length = K + j := by rw [List.length_append, HMK.out, HL.out]
                    have hEq := eq_sums (m ++ l)
                    obtain ⟨ca, hca⟩ : ∃ ca, (ints .u8 (shaS (m ++ l))).toArray = ca := ⟨_, rfl⟩
                    have hS1 := sum_pf g (m ++ l) w8 hH8 (HG.out.below B8) hbm3 (by omega)
                    rw [hca] at hS1 hEq
                    have HS1 := Lib.hid hS1
                    have HCA := Lib.hid hca
                    have HM := Lib.hid (And.intro hbm3 hml3)
                    have HF := Lib.hid (And.intro own3 (And.intro hH8 (And.intro B8 R8)))
                    clear hS1 hca hbm3 hml3 own3 hH8 B8 R8 g3 own7 HA HR7 hcell7 hs7
                    go_wp2_with fail
                    refine (HS1.out).mono ?_
                    rintro e w9 ⟨rfl, b9⟩
                    have B9 := HF.out.2.2.1.trans (b9.mono HF.out.2.2.1.size)
                    have R9 := rd_step HF.out.2.2.2 b9
                    have hH9 := HF.out.2.1.keep (b9.block g HF.out.2.1.lt)
                    have own9 := own_kept HF.out.1 (fun b _ hlt => b9.block b hlt)
                    have HT1 := Lib.hid (sSum X3 (K + j) d3 (m ++ l) w9 HM.out.2 R9 HM.out.1 (by omega) hd3 ca HCA.out (HG.out.below B9))
                    have HF := Lib.hid (And.intro own9 (And.intro hH9 (And.intro B9 R9)))
                    clear HS1 b9 B9 R9 hH9 own9
                    go_wp2_with fail
                    refine (HT1.out).mono ?_
                    rintro e w10 ⟨rfl, b10⟩
                    have B10 := HF.out.2.2.1.trans (b10.mono HF.out.2.2.1.size)
                    have R10 := rd_step HF.out.2.2.2 b10
                    have hH10 := HF.out.2.1.keep (b10.block g HF.out.2.1.lt)
                    have own10 := own_kept HF.out.1 (fun b _ hlt => b10.block b hlt)
                    have hS2 := sum_pf g (m ++ l) w10 hH10 (HG.out.below B10) HM.out.1 (by rw [HM.out.2]; omega)
                    rw [HCA.out] at hS2
                    have HS2 := Lib.hid hS2
                    have HF := Lib.hid (And.intro own10 (And.intro hH10 (And.intro B10 R10)))
                    clear HT1 b10 B10 R10 hH10 own10 hS2
                    go_wp2_with fail
                    refine (HS2.out).mono ?_
                    rintro e w11 ⟨rfl, b11⟩
                    have B11 := HF.out.2.2.1.trans (b11.mono HF.out.2.2.1.size)
                    have R11 := rd_step HF.out.2.2.2 b11
                    have hH11 := HF.out.2.1.keep (b11.block g HF.out.2.1.lt)
                    have own11 := own_kept HF.out.1 (fun b _ hlt => b11.block b hlt)
                    have HT2 := Lib.hid (sSum X3 (K + j) d3 (m ++ l) w11 HM.out.2 R11 HM.out.1 (by omega) hd3 ca HCA.out (HG.out.below B11))
                    have HF := Lib.hid (And.intro own11 (And.intro hH11 (And.intro B11 R11)))
                    clear HS2 b11 B11 R11 hH11 own11
                    go_wp2_with fail
                    refine (HT2.out).mono ?_
                    rintro e w12 ⟨rfl, b12⟩
                    have B12 := HF.out.2.2.1.trans (b12.mono HF.out.2.2.1.size)
                    have hH12 := HF.out.2.1.keep (b12.block g HF.out.2.1.lt)
                    have own12 := own_kept HF.out.1 (fun b _ hlt => b12.block b hlt)
                    have HF := Lib.hid (And.intro own12 (And.intro hH12 B12))
                    clear HT2 b12 B12 hH12 own12
                    go_wp2_with fail
                    clear hEq
                    go_roundw
                    case rel => exact ⟨k + 1, (m ++ l), K + j, by omega, by go_num, HF.out.1, HM.out.2, HKK.out.1, HM.out.1, HF.out.2.1, HF.out.2.2⟩
                    case measure => simp [intOf]; omega
              · have hkqi : ¬ (k : Int) < (q : Int) := by omega
                have HQ := Lib.hid (And.intro hH (And.intro hown hB))
                clear hH hown hB hdm hcell
                go_upto_region 20 with fail
                have hgq := HQ.out.1.lt
                have bq0 := HQ.out.2.2.alloc HQ.out.2.2.size (.cells #[] 5)
                have hcq := (bq0.cell (p := ⟨rb, ro + k, none⟩) hrb).trans HY.out.2.2
                have own0 : (wk.alloc (.cells #[] 5)).ownsRow wk.heap.size 5 1 (.slice (some ⟨wk.heap.size, 0, none⟩) 0 0) 0 (ints .u8 []) := own_of_heap (cur := []) (heap_alloc_new wk (.cells #[] 5)) (Nat.le_refl _) (Nat.le_refl _) (by unfold maxLen; omega) rfl rfl
                have b0 : Below wk.heap.size wk (wk.alloc (.cells #[] 5)) := (Below.refl _ wk).alloc (Nat.le_refl _) _
                have hr0 := Lib.hid (HY.out.1.below bq0)
                clear bq0
                go_wp2_with (at_builtin; refine wpList_append_rd _ rfl (.tmp 60) (.tmp 64) _ rfl wk.heap.size 5 i0 _ 1 Tryd.underlying34 hi hz0 hz1 hz2 rfl (.slice (some ⟨wk.heap.size, 0, none⟩) 0 0) 0 (ints .u8 []) rfl own0 .u8 w.heap.size Y L f l rfl HL.out hr0.out ?a4z ?a5z ?a6z ?_)
                case a4z => unfold maxLen; omega
                case a5z => omega
                (try (case a6z => simp))
                intro v1 w5 own1 g1
                have b5 : Below wk.heap.size wk w5 := b0.grown g1 b0.size (by simp [Value.ownBlock])
                rw [← ints_append, List.nil_append] at own1
                (try rw [Nat.zero_add] at own1)
                obtain ⟨X1, d1, rfl, hd1, _⟩ := own_form own1
                have R1 := Rd.own own1
                have hne := own_base7 own1
                have hH5 := HQ.out.1.keep (b5.block g hgq)
                have B5 := HQ.out.2.2.trans (b5.mono HQ.out.2.2.size)
                have HWr := Lib.hid (write_pf g m l X1 L d1 w5 hH5 hg2 (HG.out.below B5) HKK.out.2.2 R1 HY.out.2.1 HL.out hd1 (by rw [HMK.out]; omega) (fun _ a o e ha => by have := hne a o e; omega))
                have HO := Lib.hid (And.intro own1 (And.intro b5 B5))
                have HD := Lib.hid (And.intro hd1 b5.size)
                clear own0 b0 g1 hr0 own1 b5 R1 hne hH5 B5 hcq hd1
                go_wp2_with fail
                refine (HWr.out).mono ?_
                rintro e w6 ⟨rfl, B6, hH6⟩
                have own6 := own_kept (w' := w6) HO.out.1 (fun b hb hlt => B6.block b hlt (fun h => by have h : b = g := h; omega))
                have hold6 : ∀ b, b < wk.heap.size → ¬ b = g → w6.heap[b]? = wk.heap[b]? := fun b hb hne => (B6.block b (Nat.lt_of_lt_of_le hb HD.out.2) hne).trans (HO.out.2.1.block b hb)
                have BB6 := B6.below HO.out.2.2 HO.out.2.2.size (fun x hx => by have h : x = g := hx; have := HWG.out; omega)
                have hq6 : wk.heap.size ≤ w6.heap.size := Nat.le_trans HD.out.2 B6.size
                have HS6 := Lib.hid (And.intro hH6 (And.intro hold6 (And.intro BB6 hq6)))
                have HO6 := Lib.hid own6
                clear HWr HO hH6 hold6 BB6 own6 B6 hq6
                go_wp2_with fail
                go_loopw [11] (fun v wr => ∃ (j : Nat) (l' : List Nat), j ≤ L ∧ v = .int .i64 (j : Int) ∧ l'.length = L ∧ wr.ownsRow wk.heap.size 5 1 (.slice X1 L d1) L (ints .u8 l') ∧ Below wk.heap.size w6 wr) (fun v _ => L - (intOf v).toNat)
                case atStart => exact ⟨0, l, Nat.zero_le _, rfl, HL.out, HO6.out, Below.refl _ _⟩
                case round =>
                  clear HO6
                  obtain ⟨j, l', hj, rfl, hl', hown, hB⟩ := hrel
                  by_cases hjL : j < L
                  · have hown2 := hown
                    rcases hown.2 with ⟨_, h0⟩ | ⟨xb, cap, cur, hv, hxb, _⟩
                    · omega
                    cases hv
                    have hco : wr.cell? ⟨xb, j, none⟩ = some (.int .u8 (nth l' j : Int)) := by rw [hown2.cellAt _ (by omega), ints_get _ _ _ (by omega)]
                    have hfo : wr.frozen? ⟨xb, j, none⟩ = false := hown2.frozenAt _
                    obtain ⟨a, ha⟩ : ∃ a, nth l' j = a := ⟨_, rfl⟩
                    rw [ha] at hco
                    obtain ⟨y, hy, _⟩ := xor_u8 (a : Int)
                    obtain ⟨hst, _⟩ := hown2.stored j (.int .u8 (y : Int))
                    rw [ints_set] at hst
                    have HS := Lib.hid hst
                    have HB := Lib.hid (hB.setCell (p := ⟨xb, j, none⟩) hxb (.int .u8 (y : Int)))
                    have hjL2 : (j : Int) < (L : Int) := by omega
                    clear hown hown2 hst hB ha
                    go_wp2_with fail
                    go_roundw
                    case rel => exact ⟨j + 1, l'.set j y, by omega, by go_num, by rw [List.length_set]; exact hl', HS.out, HB.out⟩
                    case measure => simp [intOf]; omega
                  · obtain rfl : j = L := by omega
                    clear hown
                    have B7 := HS6.out.2.2.1.trans (hB.mono HQ.out.2.2.size)
                    have hH7 := HS6.out.1.keep (hB.block g hgq)
                    have own7 := own_kept (w' := wr) HQ.out.2.1 (fun b hb hlt => (hB.block b hlt).trans (HS6.out.2.1 b hlt (by omega)))
                    have hcell7 := (B7.cell (p := ⟨rb, ro + k, none⟩) hrb).trans HY.out.2.2
                    have HR7 := Lib.hid (HY.out.1.below B7)
                    have hs7 : g + 1 ≤ wr.heap.size := hH7.lt
                    have HA := Lib.hid (And.intro hH7 B7)
                    clear hH7 B7 hB HS6
                    go_wp2_with (at_builtin; refine wpList_append_rd _ rfl (.tmp 84) (.tmp 88) _ rfl (g + 1) 5 i0 _ 1 Tryd.underlying34 hi hz0 hz1 hz2 rfl (.slice X K d) K (ints .u8 m) rfl own7 .u8 w.heap.size Y j f l rfl HL.out HR7.out ?b4z ?b5z ?b6z ?_)
                    case b4z => unfold maxLen; omega
                    case b5z => omega
                    case b6z => exact hs7
                    intro v3 w8 own3 g3
                    rw [← ints_append] at own3
                    have B8 := HA.out.2.grown g3 HA.out.2.size (fun q e => by have := own_ge own7 q e; have := HWG.out; omega)
                    have hH8 := HA.out.1.keep (g3.block g HA.out.1.lt (own_ne own7 (by omega)))
                    obtain ⟨X3, d3, rfl, hd3, _⟩ := own_form own3
                    have R8 := Rd.own own3
                    have hbm3 : Bytes (m ++ l) := fun x hx => by rcases List.mem_append.1 hx with h | h; exact HKK.out.2.2 x h; exact HY.out.2.1 x h
                    have hml3 : ((m ++ l)).length = K + j := by rw [List.length_append, HMK.out, HL.out]
                    have hEq := eq_sums (m ++ l)
                    obtain ⟨ca, hca⟩ : ∃ ca, (ints .u8 (shaS (m ++ l))).toArray = ca := ⟨_, rfl⟩
                    have hS1 := sum_pf g (m ++ l) w8 hH8 (HG.out.below B8) hbm3 (by omega)
                    rw [hca] at hS1 hEq
                    have HS1 := Lib.hid hS1
                    have HCA := Lib.hid hca
                    have HM := Lib.hid (And.intro hbm3 hml3)
                    have HF := Lib.hid (And.intro own3 (And.intro hH8 (And.intro B8 R8)))
                    clear hS1 hca hbm3 hml3 own3 hH8 B8 R8 g3 own7 HA HR7 hcell7 hs7
                    go_wp2_with fail
                    refine (HS1.out).mono ?_
                    rintro e w9 ⟨rfl, b9⟩
                    have B9 := HF.out.2.2.1.trans (b9.mono HF.out.2.2.1.size)
                    have R9 := rd_step HF.out.2.2.2 b9
                    have hH9 := HF.out.2.1.keep (b9.block g HF.out.2.1.lt)
                    have own9 := own_kept HF.out.1 (fun b _ hlt => b9.block b hlt)
                    have HT1 := Lib.hid (sSum X3 (K + j) d3 (m ++ l) w9 HM.out.2 R9 HM.out.1 (by omega) hd3 ca HCA.out (HG.out.below B9))
                    have HF := Lib.hid (And.intro own9 (And.intro hH9 (And.intro B9 R9)))
                    clear HS1 b9 B9 R9 hH9 own9
                    go_wp2_with fail
                    refine (HT1.out).mono ?_
                    rintro e w10 ⟨rfl, b10⟩
                    have B10 := HF.out.2.2.1.trans (b10.mono HF.out.2.2.1.size)
                    have R10 := rd_step HF.out.2.2.2 b10
                    have hH10 := HF.out.2.1.keep (b10.block g HF.out.2.1.lt)
                    have own10 := own_kept HF.out.1 (fun b _ hlt => b10.block b hlt)
                    have hS2 := sum_pf g (m ++ l) w10 hH10 (HG.out.below B10) HM.out.1 (by rw [HM.out.2]; omega)
                    rw [HCA.out] at hS2
                    have HS2 := Lib.hid hS2
                    have HF := Lib.hid (And.intro own10 (And.intro hH10 (And.intro B10 R10)))
                    clear HT1 b10 B10 R10 hH10 own10 hS2
                    go_wp2_with fail
                    refine (HS2.out).mono ?_
                    rintro e w11 ⟨rfl, b11⟩
                    have B11 := HF.out.2.2.1.trans (b11.mono HF.out.2.2.1.size)
                    have R11 := rd_step HF.out.2.2.2 b11
                    have hH11 := HF.out.2.1.keep (b11.block g HF.out.2.1.lt)
                    have own11 := own_kept HF.out.1 (fun b _ hlt => b11.block b hlt)
                    have HT2 := Lib.hid (sSum X3 (K + j) d3 (m ++ l) w11 HM.out.2 R11 HM.out.1 (by omega) hd3 ca HCA.out (HG.out.below B11))
                    have HF := Lib.hid (And.intro own11 (And.intro hH11 (And.intro B11 R11)))
                    clear HS2 b11 B11 R11 hH11 own11
                    go_wp2_with fail
                    refine (HT2.out).mono ?_
                    rintro e w12 ⟨rfl, b12⟩
                    have B12 := HF.out.2.2.1.trans (b12.mono HF.out.2.2.1.size)
                    have hH12 := HF.out.2.1.keep (b12.block g HF.out.2.1.lt)
                    have own12 := own_kept HF.out.1 (fun b _ hlt => b12.block b hlt)
                    have HF := Lib.hid (And.intro own12 (And.intro hH12 B12))
                    clear HT2 b12 B12 hH12 own12
                    go_wp2_with fail
                    clear hEq
                    go_roundw
                    case rel => exact ⟨k + 1, (m ++ l), K + j, by omega, by go_num, HF.out.1, HM.out.2, HKK.out.1, HM.out.1, HF.out.2.1, HF.out.2.2⟩
                    case measure => simp [intOf]; omega
            · obtain rfl : k = i := by omega
              have hki : ¬ (k : Int) < (k : Int) := by omega
              have hz := eq_zeros
              change ∀ u : World, (Op.equalIn 10000 35 (.agg #[.int .u8 0, .int .u8 0, .int .u8 0, .int .u8 0, .int .u8 0, .int .u8 0, .int .u8 0, .int .u8 0, .int .u8 0, .int .u8 0, .int .u8 0, .int .u8 0, .int .u8 0, .int .u8 0, .int .u8 0, .int .u8 0, .int .u8 0, .int .u8 0, .int .u8 0, .int .u8 0, .int .u8 0, .int .u8 0, .int .u8 0, .int .u8 0, .int .u8 0, .int .u8 0, .int .u8 0, .int .u8 0, .int .u8 0, .int .u8 0, .int .u8 0, .int .u8 0]) (.agg #[.int .u8 0, .int .u8 0, .int .u8 0, .int .u8 0, .int .u8 0, .int .u8 0, .int .u8 0, .int .u8 0, .int .u8 0, .int .u8 0, .int .u8 0, .int .u8 0, .int .u8 0, .int .u8 0, .int .u8 0, .int .u8 0, .int .u8 0, .int .u8 0, .int .u8 0, .int .u8 0, .int .u8 0, .int .u8 0, .int .u8 0, .int .u8 0, .int .u8 0, .int .u8 0, .int .u8 0, .int .u8 0, .int .u8 0, .int .u8 0, .int .u8 0, .int .u8 0])).run Tryd.prog u = .ok true u at hz
              clear hown hH
              go_wp2_with fail
              refine (noReset_pf wk).mono ?_
              rintro e w4 ⟨rfl, b4⟩
              have B4 := hB.trans (b4.mono hB.size)
              go_wp2_with fail
              refine (noWrite_pf w4 X K d).mono ?_
              rintro e w5 ⟨rfl, b5⟩
              have B5 := B4.trans (b5.mono B4.size)
              have hNS := noSum_pf w5
              change Calls _ _ _ _ (fun e w' => e = .returned (.agg #[.int .u8 0, .int .u8 0, .int .u8 0, .int .u8 0, .int .u8 0, .int .u8 0, .int .u8 0, .int .u8 0, .int .u8 0, .int .u8 0, .int .u8 0, .int .u8 0, .int .u8 0, .int .u8 0, .int .u8 0, .int .u8 0, .int .u8 0, .int .u8 0, .int .u8 0, .int .u8 0, .int .u8 0, .int .u8 0, .int .u8 0, .int .u8 0, .int .u8 0, .int .u8 0, .int .u8 0, .int .u8 0, .int .u8 0, .int .u8 0, .int .u8 0, .int .u8 0]) ∧ Below w5.heap.size w5 w') at hNS
              have HNS := Lib.hid hNS
              clear hNS
              go_wp2_with fail
              refine (HNS.out).mono ?_
              rintro e w6 ⟨rfl, b6⟩
              have B6 := B5.trans (b6.mono B5.size)
              go_wp2_with fail
              refine (shaWorks_any w6 (HG.out.below B6)).mono ?_
              rintro e w7 ⟨rfl, b7⟩
              have B7 := B6.trans (b7.mono B6.size)
              clear hz
              go_wp2_with fail
              go_ret
              exact ⟨rfl, B7⟩
        · have hTi : (4096 : Int) < (T : Int) := by omega
          go_wp2_with fail
          refine (shaWorks_any w HG.out).mono ?_
          rintro e w1 ⟨rfl, b1⟩
          go_wp2_with fail
          go_ret
          exact ⟨rfl, b1⟩
  · have hbi : (60 : Int) < (n : Int) := by omega
    go_enter Tryd.func6, Tryd.ntmps6
    go_wp2_with fail
    refine (shaWorks_any w HG.out).mono ?_
    rintro e w1 ⟨rfl, b1⟩
    go_wp2_with fail
    go_ret
    exact ⟨rfl, b1⟩
end Go.Proofs.YtjeliomjnalpcaaDoor

/- Several texts in one; each begins with a remark that says what it shows and on which conditions. -/
import Derived.Test.YtjeliomjnalpcaaDoorKak
import Derived.Deep.RegionWith
/- The document's SHA-256 of a message. Conditions: as typed (a length that fits a machine). -/
namespace Go.Proofs.YtjeliomjnalpcaaDoor
open Go.RowKit
set_option maxRecDepth 20000
def set8 (W : World) (g : Nat) (r0 r1 r2 r3 r4 r5 r6 r7 : Int) : World := (((((((W.setCell ⟨g, 0, none⟩ (.int .u32 r0)).setCell ⟨g, 1, none⟩ (.int .u32 r1)).setCell ⟨g, 2, none⟩ (.int .u32 r2)).setCell ⟨g, 3, none⟩ (.int .u32 r3)).setCell ⟨g, 4, none⟩ (.int .u32 r4)).setCell ⟨g, 5, none⟩ (.int .u32 r5)).setCell ⟨g, 6, none⟩ (.int .u32 r6)).setCell ⟨g, 7, none⟩ (.int .u32 r7)
theorem grown_set8 (W : World) (g : Nat) (r0 r1 r2 r3 r4 r5 r6 r7 : Int) : W.grownBy (set8 W g r0 r1 r2 r3 r4 r5 r6 r7) (some g) :=
  grown_set (grown_set (grown_set (grown_set (grown_set (grown_set (grown_set (grown_set (World.grownBy.refl W (some g)) rfl 0 _) rfl 1 _) rfl 2 _) rfl 3 _) rfl 4 _) rfl 5 _) rfl 6 _) rfl 7 _
theorem ArrK.load {k : IntKind} {W : World} {g : Nat} {t : TypeId} {l : List Nat} (h : ArrK k W g t l) (P : Program) (n : Nat) (hn : l.length = n) : (loadCellsFrom ⟨g, 0, none⟩ 0 n #[]).run P W = .ok (ints k l).toArray W := by
  subst hn
  have := run_loadCells_list (P := P) (w := W) ⟨g, 0, none⟩ (ints k l) (fun j v hv => by
    have hj : j < l.length := by have := (List.getElem?_eq_some_iff.1 hv).1; rwa [length_ints] at this
    rw [ints_get k l j hj] at hv
    have hadd : (⟨g, 0, none⟩ : Addr).add j = ⟨g, j, none⟩ := by rw [Addr.add_lit, Nat.zero_add]
    rw [hadd, h.cell j hj, hv])
  rw [length_ints] at this
  simpa [loadCells] using this
theorem lay8 (u : World) (l : List Nat) (h : l.length = 8) : (ints .u32 l).toArray.size = 8 ∧ (storeCells ⟨u.heap.size, 0, none⟩ (ints .u32 l).toArray.toList).run Tryd.prog (u.alloc (.cells #[.int .u32 0, .int .u32 0, .int .u32 0, .int .u32 0, .int .u32 0, .int .u32 0, .int .u32 0, .int .u32 0] 54)) = .ok () (u.alloc (.cells (ints .u32 l).toArray 54)) := by
  have hs : (ints .u32 l).toArray.size = 8 := by simp [length_ints, h]
  refine ⟨hs, run_storeCells_new u _ _ _ ?_ (by rw [hs]; rfl) ?_⟩
  · rw [hs]; kernel_rfl
  · exact Array.all_eq_true_iff_forall_mem.2 fun v hv => ints_one _ _ v (by simpa using hv)
theorem lay64 (u : World) (l : List Nat) (h : l.length = 64) : (ints .u32 l).toArray.size = 64 ∧ (storeCells ⟨u.heap.size, 0, none⟩ (ints .u32 l).toArray.toList).run Tryd.prog (u.alloc (.cells #[.int .u32 0, .int .u32 0, .int .u32 0, .int .u32 0, .int .u32 0, .int .u32 0, .int .u32 0, .int .u32 0, .int .u32 0, .int .u32 0, .int .u32 0, .int .u32 0, .int .u32 0, .int .u32 0, .int .u32 0, .int .u32 0, .int .u32 0, .int .u32 0, .int .u32 0, .int .u32 0, .int .u32 0, .int .u32 0, .int .u32 0, .int .u32 0, .int .u32 0, .int .u32 0, .int .u32 0, .int .u32 0, .int .u32 0, .int .u32 0, .int .u32 0, .int .u32 0, .int .u32 0, .int .u32 0, .int .u32 0, .int .u32 0, .int .u32 0, .int .u32 0, .int .u32 0, .int .u32 0, .int .u32 0, .int .u32 0, .int .u32 0, .int .u32 0, .int .u32 0, .int .u32 0, .int .u32 0, .int .u32 0, .int .u32 0, .int .u32 0, .int .u32 0, .int .u32 0, .int .u32 0, .int .u32 0, .int .u32 0, .int .u32 0, .int .u32 0, .int .u32 0, .int .u32 0, .int .u32 0, .int .u32 0, .int .u32 0, .int .u32 0, .int .u32 0] 55)) = .ok () (u.alloc (.cells (ints .u32 l).toArray 55)) := by
  have hs : (ints .u32 l).toArray.size = 64 := by simp [length_ints, h]
  refine ⟨hs, run_storeCells_new u _ _ _ ?_ (by rw [hs]; rfl) ?_⟩
  · rw [hs]; kernel_rfl
  · exact Array.all_eq_true_iff_forall_mem.2 fun v hv => ints_one _ _ v (by simpa using hv)
set_option maxHeartbeats 4000000 in
theorem sum07 (A : Option Addr) (c : Nat) (m : List Nat) (w : World) (hr : Rd .u8 w w.heap.size A m) (hm : Bytes m) (hl : m.length ≤ 100000) : Calls Tryd.prog 18 #[.slice A m.length c] w (OutAgg .u8 (shaS m) w) := by
  have b0 : Below w.heap.size w (w.alloc (.cells (ints .u8 (List.replicate 32 0)).toArray 35)) := (Below.refl _ w).alloc (Nat.le_refl _) _
  have hO := ArrK.new (k := .u8) w 35 (List.replicate 32 0)
  obtain ⟨E, hE⟩ : ∃ E, w.alloc (.cells (ints .u8 (List.replicate 32 0)).toArray 35) = E := ⟨_, rfl⟩
  rw [hE] at b0 hO
  have hE2 := hE
  have hEs : E.heap.size = w.heap.size + 1 := by rw [← hE]; simp
  simp [ints, List.replicate] at hE2
  have HE2 := Lib.hid hE2
  have HO := Lib.hid hO
  have HR := Lib.hid ((hr.below b0).more b0.size)
  clear hE hE2 hO
  go_enter Tryd.func18, Tryd.ntmps18
  go_wp2_with fail
  rw [HE2.out]
  refine (first07 E).mono ?_
  rintro e w1 ⟨rfl, b1⟩
  obtain ⟨cs1, hc1⟩ : ∃ cs, (ints .u32 firstS).toArray = cs := ⟨_, rfl⟩
  have HC1 := Lib.hid hc1
  obtain ⟨hs1, hst1⟩ := lay8 w1 firstS rfl
  rw [hc1] at hs1 hst1 ⊢
  clear hc1
  have B1 := b0.trans (b1.mono b0.size)
  have hg01 : w.heap.size < w1.heap.size := by have := b1.size; omega
  go_wp2_with fail
  refine (steps07 _).mono ?_
  rintro e w2 ⟨rfl, b2⟩
  have A1 : ArrK .u32 (w1.alloc (.cells cs1 54)) w1.heap.size 54 firstS := by rw [← HC1.out]; exact ArrK.new _ _ _
  have A1 := A1.below b2
  have B2 := (B1.alloc B1.size (.cells cs1 54)).trans (b2.mono (by simp; have := B1.size; omega))
  have hO2 := (HO.out.below b1).below (((Below.refl _ w1).alloc (Nat.le_refl _) (.cells cs1 54)).trans (b2.mono (by simp)))
  have HA1 := Lib.hid A1
  have HO2 := Lib.hid hO2
  obtain ⟨cs2, hc2⟩ : ∃ cs, (ints .u32 stepsS).toArray = cs := ⟨_, rfl⟩
  have HC2 := Lib.hid hc2
  obtain ⟨hs2, hst2⟩ := lay64 w2 stepsS rfl
  rw [hc2] at hs2 hst2 ⊢
  have hsz2 : w1.heap.size + 1 ≤ w2.heap.size := by have := b2.size; simpa using this
  clear hc2 A1 hO2 HC1 hs1 hst1 b1 B1
  go_wp2_with fail
  have A1 := HA1.out.below ((Below.refl _ w2).alloc (Nat.le_refl _) (.cells cs2 55))
  have O1 := HO2.out.below ((Below.refl _ w2).alloc (Nat.le_refl _) (.cells cs2 55))
  have A2 : ArrK .u32 (w2.alloc (.cells cs2 55)) w2.heap.size 55 stepsS := by rw [← HC2.out]; exact ArrK.new _ _ _
  have B3 := B2.alloc B2.size (.cells cs2 55)
  obtain ⟨W0, hW0⟩ : ∃ W0, w2.alloc (.cells cs2 55) = W0 := ⟨_, rfl⟩
  have hsz3 : W0.heap.size = w2.heap.size + 1 := by rw [← hW0]; simp
  rw [hW0] at A1 O1 A2 B3 ⊢
  clear hW0 hst2 hs2 HA1 HO2 b2 B2 HC2
  have BK := Lib.hid (blocks07 A c m W0 ((hr.below B3).more B3.size) hl)
  refine (BK.out).mono ?_
  rintro e w3 ⟨v, rfl, hown, b3⟩
  obtain ⟨X, d, rfl, hd, _⟩ := own_form hown
  obtain ⟨g1, hg1⟩ : ∃ g, w1.heap.size = g := ⟨_, rfl⟩
  obtain ⟨g2, hg2⟩ : ∃ g, w2.heap.size = g := ⟨_, rfl⟩
  have A1 := A1.below b3
  have A2 := A2.below b3
  have O1 := O1.below b3
  have B4 := B3.trans (b3.mono B3.size)
  rw [hg1] at A1 hsz2 hg01 ⊢
  rw [hg2] at A2 hsz2 hsz3 ⊢
  obtain ⟨g0, hg0⟩ : ∃ g, w.heap.size = g := ⟨_, rfl⟩
  obtain ⟨K, hK⟩ : ∃ K, (blocksS m).length = K := ⟨_, rfl⟩
  have hKn := length_blocksS m
  obtain ⟨NB, hNB⟩ : ∃ N, (m.length + 72) / 64 = N := ⟨_, rfl⟩
  rw [hNB, hK] at hKn
  rw [hK] at hown hd ⊢
  have HK := Lib.hid hK
  have HNB := Lib.hid hNB
  have hown0 := hown
  have hs3 := b3.size
  have HKN := Lib.hid hKn
  have HG0 := Lib.hid hg0
  clear BK hr HR HO HE2 b0 B3 b3 hK hNB hg1 hg2 hKn hg0
  go_wp2_with fail
  go_loopw [6] (fun v wr => ∃ n : Nat, n ≤ NB ∧ v = .int .i64 ((64 * n : Nat) : Int) ∧ ArrK .u32 wr g1 54 (foldS (blocksS m) n) ∧ ArrK .u32 wr g2 55 stepsS ∧ ArrK .u8 wr w.heap.size 35 (List.replicate 32 0) ∧ wr.ownsRow W0.heap.size 5 1 (.slice X K d) K (ints .u8 (blocksS m)) ∧ W0.heap.size ≤ wr.heap.size ∧ Below w.heap.size w wr) (fun v _ => K - (intOf v).toNat)
  case atStart => exact ⟨0, Nat.zero_le _, rfl, A1, A2, O1, hown, hs3, B4⟩
  case round =>
    obtain ⟨n, hn, rfl, A1, A2, O1, hown, hws, hB⟩ := hrel
    obtain ⟨wo, hwo⟩ : ∃ wo : World, wo = wr := ⟨_, rfl⟩
    subst hwo
    have hBo := hB
    by_cases hlt : n < NB
    · have hltK : 64 * n < K := by have := HKN.out; omega
      have hltZ : 64 * (n : Int) < (K : Int) := by omega
      have hKd : 64 * n + 64 ≤ K := by have := HKN.out; omega
      have hlen : 0 < (blocksS m).length := by have := HK.out; omega
      have hKl : K ≤ 200000 := by have h1 := HKN.out; have h2 := HNB.out; omega
      obtain ⟨xb, xo, rfl, hxb, hxc⟩ := Rd.own hown hlen
      have hne : ¬ d = 64 * n := by omega
      have hxbb : W0.heap.size ≤ xb := (hown.lt xb (by simp [Value.ownBlock])).1
      obtain ⟨a0, a1, a2, a3, a4, a5, a6, a7, e8⟩ := list8 (foldS (blocksS m) n) (length_foldS _ _)
      have HE8 := Lib.hid e8
      have hlt8 := foldS_lt (blocksS m) n
      rw [e8] at A1 hlt8
      clear e8
      have c0 : wo.cell? ⟨g1, 0, none⟩ = some (.int .u32 (a0 : Int)) := A1.cell 0 (by simp)
      have c1 : wo.cell? ⟨g1, 1, none⟩ = some (.int .u32 (a1 : Int)) := A1.cell 1 (by simp)
      have c2 : wo.cell? ⟨g1, 2, none⟩ = some (.int .u32 (a2 : Int)) := A1.cell 2 (by simp)
      have c3 : wo.cell? ⟨g1, 3, none⟩ = some (.int .u32 (a3 : Int)) := A1.cell 3 (by simp)
      have c4 : wo.cell? ⟨g1, 4, none⟩ = some (.int .u32 (a4 : Int)) := A1.cell 4 (by simp)
      have c5 : wo.cell? ⟨g1, 5, none⟩ = some (.int .u32 (a5 : Int)) := A1.cell 5 (by simp)
      have c6 : wo.cell? ⟨g1, 6, none⟩ = some (.int .u32 (a6 : Int)) := A1.cell 6 (by simp)
      have c7 : wo.cell? ⟨g1, 7, none⟩ = some (.int .u32 (a7 : Int)) := A1.cell 7 (by simp)
      have V1 : ArrK .u32 (wo.alloc (.cells #[.int .u32 (a0 : Int), .int .u32 (a1 : Int), .int .u32 (a2 : Int), .int .u32 (a3 : Int), .int .u32 (a4 : Int), .int .u32 (a5 : Int), .int .u32 (a6 : Int), .int .u32 (a7 : Int)] 54)) wo.heap.size 54 [a0, a1, a2, a3, a4, a5, a6, a7] := ArrK.new (k := .u32) wo 54 [a0, a1, a2, a3, a4, a5, a6, a7]
      have bV : Below wo.heap.size wo (wo.alloc (.cells #[.int .u32 (a0 : Int), .int .u32 (a1 : Int), .int .u32 (a2 : Int), .int .u32 (a3 : Int), .int .u32 (a4 : Int), .int .u32 (a5 : Int), .int .u32 (a6 : Int), .int .u32 (a7 : Int)] 54)) := (Below.refl _ wo).alloc (Nat.le_refl _) _
      obtain ⟨F, hF⟩ : ∃ F, wo.alloc (.cells #[.int .u32 (a0 : Int), .int .u32 (a1 : Int), .int .u32 (a2 : Int), .int .u32 (a3 : Int), .int .u32 (a4 : Int), .int .u32 (a5 : Int), .int .u32 (a6 : Int), .int .u32 (a7 : Int)] 54) = F := ⟨_, rfl⟩
      have hFs : F.heap.size = wo.heap.size + 1 := by rw [← hF]; simp
      rw [hF] at V1 bV
      have HF := Lib.hid hF
      have hrow := Rd.own (hown.kept (row := none) ⟨bV.os, bV.tape, bV.output, bV.size, fun i hi _ => bV.block i hi⟩ (.inr (by simp [Value.ownBlock])))
      have hrow2 := (hrow.drop (i := 64 * n) (cap := d) (by have := HK.out; omega)).take 64
      rw [if_neg hne, show (some (⟨xb, xo, none⟩ : Addr)).map (·.add (64 * n)) = some ⟨xb, xo + 64 * n, none⟩ by simp [Addr.add_lit]] at hrow2
      have hbl : (((blocksS m).drop (64 * n)).take 64).length = 64 := by rw [List.length_take, List.length_drop]; have := HK.out; omega
      have SC := Lib.hid (schedule07 (some ⟨xb, xo + 64 * n, none⟩) (d - 64 * n) _ F hrow2 (fun x hx => blocksS_bytes m hm x (List.mem_of_mem_drop (List.mem_of_mem_take hx))) hbl)
      clear hF hrow hrow2 hxc hlen
      have j1 : (64 : Int) * (n : Int) + 64 ≤ (d : Int) := by omega
      go_wp2_with fail
      rw [HF.out]
      refine (SC.out).mono ?_
      rintro e w5 ⟨rfl, b5⟩
      have bw5 : Below wo.heap.size wo w5 := bV.trans (b5.mono bV.size)
      have V1 := V1.below b5
      have A1 := A1.below bw5
      have A2 := A2.below bw5
      have O1 := O1.below bw5
      have hown := hown.kept (row := none) ⟨bw5.os, bw5.tape, bw5.output, bw5.size, fun i hi _ => bw5.block i hi⟩ (.inr (by simp [Value.ownBlock]))
      have hB := hB.trans (bw5.mono hB.size)
      obtain ⟨ws, hws5⟩ : ∃ l, schedS (((blocksS m).drop (64 * n)).take 64) 48 = l := ⟨_, rfl⟩
      have hwl : ws.length = 64 := by rw [← hws5, length_schedS]
      have hwlt : W32 ws := by rw [← hws5]; exact schedS_lt _ (fun x hx => blocksS_bytes m hm x (List.mem_of_mem_drop (List.mem_of_mem_take hx))) 48
      have HWS := Lib.hid hws5
      rw [hws5]
      obtain ⟨hs5, hst5⟩ := lay64 w5 ws hwl
      obtain ⟨cs5, hc5⟩ : ∃ cs, (ints .u32 ws).toArray = cs := ⟨_, rfl⟩
      have HC5 := Lib.hid hc5
      rw [hc5] at hs5 hst5 ⊢
      have hsz5 : wo.heap.size < w5.heap.size := by have := b5.size; omega
      clear hc5 SC hws5 HF bV b5 bw5 c0 c1 c2 c3 c4 c5 c6 c7 hbl
      go_wp2_with fail
      have bA : Below w5.heap.size w5 (w5.alloc (.cells cs5 55)) := (Below.refl _ w5).alloc (Nat.le_refl _) _
      have S1 : ArrK .u32 (w5.alloc (.cells cs5 55)) w5.heap.size 55 ws := by rw [← HC5.out]; exact ArrK.new _ _ _
      have V1 := V1.below bA
      have A1 := A1.below bA
      have A2 := A2.below bA
      have O1 := O1.below bA
      have hown := hown.kept (row := none) ⟨bA.os, bA.tape, bA.output, bA.size, fun i hi _ => bA.block i hi⟩ (.inr (by simp [Value.ownBlock]))
      have hB := hB.trans (bA.mono hB.size)
      obtain ⟨W5, hW5⟩ : ∃ W, w5.alloc (.cells cs5 55) = W := ⟨_, rfl⟩
      have hsz6 : W5.heap.size = w5.heap.size + 1 := by rw [← hW5]; simp
      rw [hW5] at S1 V1 A1 A2 O1 hown hB ⊢
      clear hW5 bA hst5 hs5 HC5
      go_loopw [9] (fun v wi => ∃ i : Nat, i ≤ 64 ∧ v = .int .i64 (i : Int) ∧ ArrK .u32 wi wo.heap.size 54 (roundsS (foldS (blocksS m) n) stepsS ws i) ∧ ArrK .u32 wi w5.heap.size 55 ws ∧ ArrK .u32 wi g1 54 (foldS (blocksS m) n) ∧ ArrK .u32 wi g2 55 stepsS ∧ ArrK .u8 wi w.heap.size 35 (List.replicate 32 0) ∧ wi.ownsRow W0.heap.size 5 1 (.slice (some ⟨xb, xo, none⟩) K d) K (ints .u8 (blocksS m)) ∧ w5.heap.size ≤ wi.heap.size ∧ Below w.heap.size w wi) (fun v _ => 64 - (intOf v).toNat)
      case atStart => exact ⟨0, by omega, rfl, by rw [roundsS, HE8.out]; exact V1, S1, by rw [HE8.out]; exact A1, A2, O1, hown, by omega, hB⟩
      case round =>
        clear V1 S1 A1 A2 O1 hown hB
        obtain ⟨i, hi, rfl, V1, S1, A1, A2, O1, hown, hsw, hB⟩ := hrel
        by_cases hi64 : i < 64
        · have hvlt := roundsS_lt (foldS (blocksS m) n) stepsS ws (foldS_lt _ _) i
          obtain ⟨v0, v1, v2, v3, v4, v5, v6, v7, ev⟩ := list8 (roundsS (foldS (blocksS m) n) stepsS ws i) (length_roundsS _ _ _ (length_foldS _ _) i)
          obtain ⟨r0, r1, r2, r3, r4, r5, r6, r7, er⟩ := list8 (roundsS (foldS (blocksS m) n) stepsS ws (i + 1)) (length_roundsS _ _ _ (length_foldS _ _) (i + 1))
          have hne := er
          rw [roundsS, ev] at hne
          rw [ev] at V1 hvlt
          have sc := A2.cell i (by rw [show stepsS.length = 64 from rfl]; omega)
          have wc := S1.cell i (by omega)
          have hsk := nth_word7 stepsS stepsS_lt i
          have hwk := nth_word7 ws hwlt i
          obtain ⟨k, hk⟩ : ∃ k, nth stepsS i = k := ⟨_, rfl⟩
          obtain ⟨u, hu⟩ : ∃ u, nth ws i = u := ⟨_, rfl⟩
          rw [hk] at sc hsk hne
          rw [hu] at wc hwk hne
          have hv := fun x hx => hvlt x hx
          have RC := fun q => round07 v0 v1 v2 v3 v4 v5 v6 v7 k u q (hv _ (by simp)) (hv _ (by simp)) (hv _ (by simp)) (hv _ (by simp)) (hv _ (by simp)) (hv _ (by simp)) (hv _ (by simp)) (hv _ (by simp)) hsk hwk
          rw [hne] at RC
          have RC2 : ∀ q, Calls Tryd.prog 46 #[.agg #[.int .u32 (v0 : Int), .int .u32 (v1 : Int), .int .u32 (v2 : Int), .int .u32 (v3 : Int), .int .u32 (v4 : Int), .int .u32 (v5 : Int), .int .u32 (v6 : Int), .int .u32 (v7 : Int)], .int .u32 (k : Int), .int .u32 (u : Int)] q fun e w' => e = .returned (.agg #[.int .u32 (r0 : Int), .int .u32 (r1 : Int), .int .u32 (r2 : Int), .int .u32 (r3 : Int), .int .u32 (r4 : Int), .int .u32 (r5 : Int), .int .u32 (r6 : Int), .int .u32 (r7 : Int)]) ∧ Below q.heap.size q w' := RC
          have HRC := Lib.hid RC2
          have HER := Lib.hid er
          have HV1 := Lib.hid V1
          have d0 : wr.cell? ⟨wo.heap.size, 0, none⟩ = some (.int .u32 (v0 : Int)) := V1.cell 0 (by simp)
          have d1 : wr.cell? ⟨wo.heap.size, 1, none⟩ = some (.int .u32 (v1 : Int)) := V1.cell 1 (by simp)
          have d2 : wr.cell? ⟨wo.heap.size, 2, none⟩ = some (.int .u32 (v2 : Int)) := V1.cell 2 (by simp)
          have d3 : wr.cell? ⟨wo.heap.size, 3, none⟩ = some (.int .u32 (v3 : Int)) := V1.cell 3 (by simp)
          have d4 : wr.cell? ⟨wo.heap.size, 4, none⟩ = some (.int .u32 (v4 : Int)) := V1.cell 4 (by simp)
          have d5 : wr.cell? ⟨wo.heap.size, 5, none⟩ = some (.int .u32 (v5 : Int)) := V1.cell 5 (by simp)
          have d6 : wr.cell? ⟨wo.heap.size, 6, none⟩ = some (.int .u32 (v6 : Int)) := V1.cell 6 (by simp)
          have d7 : wr.cell? ⟨wo.heap.size, 7, none⟩ = some (.int .u32 (v7 : Int)) := V1.cell 7 (by simp)
          have hi63 : (i : Int) < 64 := by omega
          clear RC RC2 hne hv hvlt ev er hk hu
          go_wp2_with fail
          have bd : Below wr.heap.size wr wr.drew := (Drawn.more 1).below _
          go_region_with ((go_at_call 46; (with_reducible refine (HRC.out _).mono ?_); rintro e w6 ⟨rfl, b6⟩; have V6 := (HV1.out.below bd).below b6; have e0 : w6.cell? ⟨wo.heap.size, 0, none⟩ = some (.int .u32 (v0 : Int)) := V6.cell 0 (by simp); have f0 := V6.frozen 0; have e1 : w6.cell? ⟨wo.heap.size, 1, none⟩ = some (.int .u32 (v1 : Int)) := V6.cell 1 (by simp); have f1 := V6.frozen 1; have e2 : w6.cell? ⟨wo.heap.size, 2, none⟩ = some (.int .u32 (v2 : Int)) := V6.cell 2 (by simp); have f2 := V6.frozen 2; have e3 : w6.cell? ⟨wo.heap.size, 3, none⟩ = some (.int .u32 (v3 : Int)) := V6.cell 3 (by simp); have f3 := V6.frozen 3; have e4 : w6.cell? ⟨wo.heap.size, 4, none⟩ = some (.int .u32 (v4 : Int)) := V6.cell 4 (by simp); have f4 := V6.frozen 4; have e5 : w6.cell? ⟨wo.heap.size, 5, none⟩ = some (.int .u32 (v5 : Int)) := V6.cell 5 (by simp); have f5 := V6.frozen 5; have e6 : w6.cell? ⟨wo.heap.size, 6, none⟩ = some (.int .u32 (v6 : Int)) := V6.cell 6 (by simp); have f6 := V6.frozen 6; have e7 : w6.cell? ⟨wo.heap.size, 7, none⟩ = some (.int .u32 (v7 : Int)) := V6.cell 7 (by simp); have f7 := V6.frozen 7))
          all_goals
            have bw := bd.trans (b6.mono bd.size)
            have g8 := grown_set8 w6 wo.heap.size (r0 : Int) (r1 : Int) (r2 : Int) (r3 : Int) (r4 : Int) (r5 : Int) (r6 : Int) (r7 : Int)
            have V8 : ArrK .u32 (set8 w6 wo.heap.size (r0 : Int) (r1 : Int) (r2 : Int) (r3 : Int) (r4 : Int) (r5 : Int) (r6 : Int) (r7 : Int)) wo.heap.size 54 [r0, r1, r2, r3, r4, r5, r6, r7] := (((((((V6.set 0 r0).set 1 r1).set 2 r2).set 3 r3).set 4 r4).set 5 r5).set 6 r6).set 7 r7
            have hF := Lib.hid (And.intro V8 (And.intro ((S1.below bw).kept g8 (by simp; omega)) (And.intro ((A1.below bw).kept g8 (by simp; omega)) (And.intro ((A2.below bw).kept g8 (by simp; omega)) (And.intro ((O1.below bw).kept g8 (by simp; have := HG0.out; omega)) (And.intro ((hown.kept (row := none) ⟨bw.os, bw.tape, bw.output, bw.size, fun i hi _ => bw.block i hi⟩ (.inr (by simp [Value.ownBlock]))).kept g8 (.inr (by simp [Value.ownBlock]; omega))) (And.intro (show w5.heap.size ≤ (set8 w6 wo.heap.size (r0 : Int) (r1 : Int) (r2 : Int) (r3 : Int) (r4 : Int) (r5 : Int) (r6 : Int) (r7 : Int)).heap.size by have h1 := g8.size; have h2 := bw.size; omega) ((hB.trans (bw.mono hB.size)).grown g8 (by have h1 := hB.size; have h2 := bw.size; omega) (fun k e => by cases e; exact hBo.size)))))))))
            simp only [set8] at hF
            clear V8 g8 e0 e1 e2 e3 e4 e5 e6 e7 f0 f1 f2 f3 f4 f5 f6 f7 V6
            go_wp2_with fail
            go_roundw
            case rel => exact ⟨i + 1, by omega, by go_num, by rw [HER.out]; exact hF.out.1, hF.out.2.1, hF.out.2.2.1, hF.out.2.2.2.1, hF.out.2.2.2.2.1, hF.out.2.2.2.2.2.1, hF.out.2.2.2.2.2.2.1, hF.out.2.2.2.2.2.2.2⟩
            case measure => simp [intOf]; omega
        · obtain rfl : i = 64 := by omega
          obtain ⟨wp, hwp⟩ : ∃ wp : World, wp = wr := ⟨_, rfl⟩
          subst hwp
          have hHl := length_foldS (blocksS m) n
          have hHlt := foldS_lt (blocksS m) n
          have hVl := length_roundsS (foldS (blocksS m) n) stepsS ws hHl 64
          have hVlt := roundsS_lt (foldS (blocksS m) n) stepsS ws hHlt 64
          have hfin : addS (foldS (blocksS m) n) (roundsS (foldS (blocksS m) n) stepsS ws 64) = foldS (blocksS m) (n + 1) := by rw [foldS, blockS, HWS.out]
          obtain ⟨H, hH⟩ : ∃ H, foldS (blocksS m) n = H := ⟨_, rfl⟩
          rw [hH] at A1 V1 hHl hHlt hVl hVlt hfin
          obtain ⟨V, hV⟩ : ∃ V, roundsS H stepsS ws 64 = V := ⟨_, rfl⟩
          rw [hV] at V1 hVl hVlt hfin
          have HFin := Lib.hid hfin
          clear hH hV hfin hi64 HWS S1 hwl hwlt HE8
          rw [show ((64 : Nat) : Int) = 64 from rfl]
          have hsp : W0.heap.size ≤ wp.heap.size := by omega
          go_wp2_with fail
          go_loopw [10] (fun v wi => ∃ j : Nat, j ≤ 8 ∧ v = .int .i64 (j : Int) ∧ ArrK .u32 wi wo.heap.size 54 V ∧ ArrK .u32 wi g1 54 (mixS H V j) ∧ ArrK .u32 wi g2 55 stepsS ∧ ArrK .u8 wi w.heap.size 35 (List.replicate 32 0) ∧ wi.ownsRow W0.heap.size 5 1 (.slice (some ⟨xb, xo, none⟩) K d) K (ints .u8 (blocksS m)) ∧ W0.heap.size ≤ wi.heap.size ∧ Below w.heap.size w wi) (fun v _ => 8 - (intOf v).toNat)
          case atStart => exact ⟨0, by omega, rfl, V1, by rw [mixS_none]; exact A1, A2, O1, hown, hsp, hB⟩
          case round =>
            clear V1 A1 A2 O1 hown hB hsp hsw
            obtain ⟨j, hj, rfl, V1, A1, A2, O1, hown, hsw, hB⟩ := hrel
            by_cases hj8 : j < 8
            · have x1 := A1.cell j (by rw [length_mixS _ _ _ hHl hj]; omega)
              have x2 := V1.cell j (by omega)
              have xf := A1.frozen j
              have hset := A1.set j ((nth H j + nth V j) % 4294967296)
              rw [mixS_set _ _ _ hHl hj8] at hset
              rw [nth_mixS _ _ _ hHl hj8] at x1
              have hxl := nth_word7 H hHlt j
              have hyl := nth_word7 V hVlt j
              obtain ⟨x, hx⟩ : ∃ x, nth H j = x := ⟨_, rfl⟩
              obtain ⟨y, hy⟩ : ∃ y, nth V j = y := ⟨_, rfl⟩
              rw [hx] at x1 hset hxl
              rw [hy] at x2 hset hyl
              have hj7 : (j : Int) < 8 := by omega
              obtain ⟨z, hz⟩ : ∃ z, (x + y) % 4294967296 = z := ⟨_, rfl⟩
              have hsm : ((x : Int) + (y : Int)) % 4294967296 = (z : Int) := by omega
              rw [hz] at hset
              have HF := Lib.hid (And.intro hset (And.intro (V1.beside g1 j (.int .u32 (z : Int)) (by omega)) (And.intro (A2.beside g1 j (.int .u32 (z : Int)) (by omega)) (And.intro (O1.beside g1 j (.int .u32 (z : Int)) (by omega)) (And.intro (hown.kept (grown_setCell wr ⟨g1, j, none⟩ (.int .u32 (z : Int))) (.inr (by simp [Value.ownBlock]; omega))) (hB.setCell (p := ⟨g1, j, none⟩) (by simp; omega) (.int .u32 (z : Int))))))))
              clear hx hy hset hz V1 A1 A2 O1 hown hB hxl hyl
              go_wp2_with fail
              go_region
              go_wp2_with fail
              go_roundw
              case rel => exact ⟨j + 1, by omega, by go_num, HF.out.2.1, HF.out.1, HF.out.2.2.1, HF.out.2.2.2.1, HF.out.2.2.2.2.1, by simp [World.setCell]; omega, HF.out.2.2.2.2.2.trans ((Drawn.more 1).below _)⟩
              case measure => simp [intOf]; omega
            · obtain rfl : j = 8 := by omega
              rw [mixS_all _ _ hHl, HFin.out] at A1
              have hn1 : n + 1 ≤ NB := by omega
              rw [show ((8 : Nat) : Int) = 8 from rfl]
              go_wp2_with fail
              go_roundw
              case rel => exact ⟨n + 1, hn1, by go_num, A1, A2, O1, hown, hsw, hB⟩
              case measure => simp [intOf]; omega
    · obtain rfl : n = NB := by omega
      have hltZ : ¬ 64 * (n : Int) < (K : Int) := by have := HKN.out; omega
      have hHl := length_foldS (blocksS m) n
      have hHlt := foldS_lt (blocksS m) n
      have hfin : bytesS (foldS (blocksS m) n) = shaS m := by rw [shaS, HK.out, HKN.out, Nat.mul_div_cancel_left _ (by omega)]
      obtain ⟨H, hH⟩ : ∃ H, foldS (blocksS m) n = H := ⟨_, rfl⟩
      rw [hH] at A1 hHl hHlt hfin
      have HFin := Lib.hid hfin
      have Q1 := ArrK.new (k := .u8) wo 35 (List.replicate 32 0)
      have bF : Below wo.heap.size wo (wo.alloc (.cells (ints .u8 (List.replicate 32 0)).toArray 35)) := (Below.refl _ wo).alloc (Nat.le_refl _) _
      obtain ⟨F, hF⟩ : ∃ F, wo.alloc (.cells (ints .u8 (List.replicate 32 0)).toArray 35) = F := ⟨_, rfl⟩
      rw [hF] at bF Q1
      have hF2 := hF
      simp [ints, List.replicate] at hF2
      have HF2 := Lib.hid hF2
      have A1 := A1.below bF
      have O1 := O1.below bF
      have hBF := hB.trans (bF.mono hB.size)
      have hg1o : g1 < wo.heap.size := by omega
      have hg0o : w.heap.size < wo.heap.size := by omega
      have HQ1 := Lib.hid Q1
      have HA1 := Lib.hid A1
      have HO1 := Lib.hid O1
      have HBF := Lib.hid hBF
      clear hH hfin hF hF2 hB bF Q1 A1 O1 hBF hown A2 hlt hn HKN
      go_wp2_with fail
      rw [HF2.out]
      go_loopw [12] (fun v wi => ∃ i : Nat, i ≤ 8 ∧ v = .int .i64 (i : Int) ∧ ArrK .u8 wi wo.heap.size 35 (outS H (4 * i)) ∧ ArrK .u32 wi g1 54 H ∧ ArrK .u8 wi w.heap.size 35 (List.replicate 32 0) ∧ Below w.heap.size w wi) (fun v _ => 8 - (intOf v).toNat)
      case atStart => exact ⟨0, by omega, rfl, by rw [Nat.mul_zero, outS_none]; exact HQ1.out, HA1.out, HO1.out, HBF.out⟩
      case round =>
        obtain ⟨i, hi, rfl, Q1, A1, O1, hB⟩ := hrel
        by_cases hi8 : i < 8
        · obtain ⟨wp, hwp⟩ : ∃ wp : World, wp = wr := ⟨_, rfl⟩
          subst hwp
          go_wp2_with fail
          go_loopw [13] (fun v wi => ∃ k : Nat, k ≤ 4 ∧ v = .int .i64 (k : Int) ∧ ArrK .u8 wi wo.heap.size 35 (outS H (4 * i + k)) ∧ ArrK .u32 wi g1 54 H ∧ ArrK .u8 wi w.heap.size 35 (List.replicate 32 0) ∧ Below w.heap.size w wi) (fun v _ => 4 - (intOf v).toNat)
          case atStart => exact ⟨0, by omega, rfl, Q1, A1, O1, hB⟩
          case round =>
            clear Q1 A1 O1 hB
            obtain ⟨k, hk, rfl, Q1, A1, O1, hB⟩ := hrel
            by_cases hk4 : k < 4
            · have x1 := A1.cell i (by omega)
              have hol := length_outS H (4 * i + k) (by omega)
              have q1 := Q1.cell (4 * i + k) (by omega)
              have qf := Q1.frozen (4 * i + k)
              have hset := Q1.set (4 * i + k) (nth H i / 256 ^ (3 - k) % 256)
              have hos := outS_set H (4 * i + k) (by omega)
              rw [show (4 * i + k) / 4 = i by omega, show (4 * i + k) % 4 = k by omega] at hos
              rw [hos] at hset
              have hxl := nth_word7 H hHlt i
              obtain ⟨x, hx⟩ : ∃ x, nth H i = x := ⟨_, rfl⟩
              rw [hx] at x1 hset hxl
              obtain ⟨z, hz⟩ : ∃ z, x / 256 ^ (3 - k) % 256 = z := ⟨_, rfl⟩
              rw [hz] at hset
              have hi7 : (i : Int) < 8 := by omega
              have HF := Lib.hid (And.intro hset (And.intro (A1.beside wo.heap.size (4 * i + k) (.int .u8 (z : Int)) (by omega)) (And.intro (O1.beside wo.heap.size (4 * i + k) (.int .u8 (z : Int)) (by omega)) (hB.setCell (p := ⟨wo.heap.size, 4 * i + k, none⟩) (by simp; omega) (.int .u8 (z : Int))))))
              clear hx hset hos hol Q1 A1 O1 hB
              have hkc : k = 0 ∨ k = 1 ∨ k = 2 ∨ k = 3 := by omega
              rcases hkc with rfl | rfl | rfl | rfl
              · have hsh0 : (x : Int) / 16777216 % 256 = (z : Int) := by rw [← hz]; simp
                have hsh : (x : Int) / 16777216 = (z : Int) := by omega
                clear hz
                simp only [Nat.add_zero] at q1 qf HF
                go_wp2_with fail
                go_roundw
                case rel => exact ⟨1, by omega, rfl, HF.out.1, HF.out.2.1, HF.out.2.2.1, HF.out.2.2.2⟩
                case measure => simp [intOf]
              · have hsh : (x : Int) / 65536 % 256 = (z : Int) := by rw [← hz]; simp
                clear hz
                go_wp2_with fail
                go_roundw
                case rel => exact ⟨2, by omega, rfl, HF.out.1, HF.out.2.1, HF.out.2.2.1, HF.out.2.2.2⟩
                case measure => simp [intOf]
              · have hsh : (x : Int) / 256 % 256 = (z : Int) := by rw [← hz]; simp
                clear hz
                go_wp2_with fail
                go_roundw
                case rel => exact ⟨3, by omega, rfl, HF.out.1, HF.out.2.1, HF.out.2.2.1, HF.out.2.2.2⟩
                case measure => simp [intOf]
              · have hsh : (x : Int) % 256 = (z : Int) := by rw [← hz]; simp
                clear hz
                go_wp2_with fail
                go_roundw
                case rel => exact ⟨4, by omega, rfl, HF.out.1, HF.out.2.1, HF.out.2.2.1, HF.out.2.2.2⟩
                case measure => simp [intOf]
            · obtain rfl : k = 4 := by omega
              rw [show ((4 : Nat) : Int) = 4 from rfl]
              go_wp2_with fail
              go_roundw
              case rel => exact ⟨i + 1, by omega, by go_num, by rw [Nat.mul_add]; exact Q1, A1, O1, hB⟩
              case measure => simp [intOf]; omega
        · obtain rfl : i = 8 := by omega
          rw [show 4 * 8 = 32 from rfl, outS_all, HFin.out] at Q1
          obtain ⟨cs, hcs⟩ : ∃ cs, (ints .u8 (shaS m)).toArray = cs := ⟨_, rfl⟩
          obtain ⟨zs, hzs⟩ : ∃ zs, (ints .u8 (List.replicate 32 0)).toArray = zs := ⟨_, rfl⟩
          have hlsh : (shaS m).length = 32 := length_bytesS _
          have Q2 : wr.heap[wo.heap.size]? = some (.cells cs 35 (0, 0)) := by rw [← hcs]; exact Q1
          have O2 : wr.heap[w.heap.size]? = some (.cells zs 35 (0, 0)) := by rw [← hzs]; exact O1
          have R1 : (wr.setRow w.heap.size cs).heap[w.heap.size]? = some (.cells cs 35 (0, 0)) := by rw [← hcs]; exact O1.stored (shaS m)
          have B1 := below_setRow hB (Nat.le_refl _) cs
          have hcsz : cs.size = 32 := by rw [← hcs]; simp [length_ints, hlsh]
          have hzsz : zs.size = cs.size := by rw [hcsz, ← hzs]; simp [length_ints]
          have hone : cs.all (·.oneCell') = true := by
            rw [← hcs]
            exact Array.all_eq_true_iff_forall_mem.2 fun v hv => ints_one _ _ v (by simpa using hv)
          have hinf : (Tryd.prog.info? 35).map (·.size) = some cs.size := by rw [hcsz]; kernel_rfl
          have HC := Lib.hid hcs
          have HX := Lib.hid (And.intro R1 B1)
          have HQ2 := Lib.hid Q2
          have HO2 := Lib.hid O2
          have HI := Lib.hid (And.intro hinf (And.intro hzsz hone))
          clear R1 B1 Q2 O2 hinf hzsz hone hcsz hcs hzs hlsh hB Q1 O1 A1
          go_upto_region 25 with fail
          refine wp_row_copy 35 _ 11 2 78 _ _ _ _ wo.heap.size w.heap.size cs zs ?hx ?hy ?hd (by decide) HQ2.out HO2.out Tryd.underlying35 HI.out.1 HI.out.2.1 HI.out.2.2 ?hq
          case hx => rfl
          case hy => rfl
          case hd => exact (by decide : 78 < 79)
          case hq =>
            have hput : ∀ a : Act, a.put none undef = a := fun _ => rfl
            rw [hput]
            go_wp2_with fail
            refine bodyPost_ret (v := .agg cs) ?_ rfl ?_
            · exact results_cell_row (p := 2) rfl _ _ w.heap.size 35 cs (0, 0) _ rfl HX.out.1 Tryd.underlying35 rfl HI.out.1
            · exact ⟨by rw [HC.out], HX.out.2⟩
end Go.Proofs.YtjeliomjnalpcaaDoor

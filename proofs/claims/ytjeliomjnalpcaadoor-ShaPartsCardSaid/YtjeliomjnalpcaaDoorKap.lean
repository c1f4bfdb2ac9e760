/- Several texts in one; each begins with a remark that says what it shows and on which conditions. -/
import Derived.Test.YtjeliomjnalpcaaDoorKao
/- Write: bytes behind all that was written. Conditions: as typed (at most 900000 bytes in all; the slice does not lie in the hash; the tables are laid). -/
namespace Go.Proofs.YtjeliomjnalpcaaDoor
open Go.RowKit
set_option maxRecDepth 20000
/-- A slice's length. -/
def lenW : Value → Nat
  | .slice _ n _ => n
  | _ => 0
set_option maxHeartbeats 8000000 in
theorem write_pf (g : Nat) (m b : List Nat) (A : Option Addr) (n c : Nat) (w : World) (hH : HashIs w g m) (hg : 2 ≤ g) (hL : Laid w) (hm : Bytes m) (hr : Rd .u8 w w.heap.size A b) (hb : Bytes b) (hn : b.length = n) (hc : n ≤ c) (hbig : m.length + n ≤ 900000) (hA : 0 < n → ∀ k o, A = some ⟨k, o, none⟩ → ¬ k = g) :
    Calls Tryd.prog 22 #[.pointer (some ⟨g, 0, none⟩), .slice A n c] w fun e w' => e = .returned (.int .i64 0) ∧ Beside (fun k => k = g) w w' ∧ HashIs w' g (m ++ b) := by
  obtain ⟨i0, hi, hz0, hz1, hz2⟩ := info_parts num_info_u8
  obtain ⟨rest, hrow, hrb, hpre⟩ := hH
  obtain ⟨ml, hml⟩ : ∃ ml, m.length = ml := ⟨_, rfl⟩
  rw [hml] at hrow hpre hbig
  obtain ⟨k, hk⟩ : ∃ k, ml / 64 = k := ⟨_, rfl⟩
  obtain ⟨r, hr6⟩ : ∃ r, ml % 64 = r := ⟨_, rfl⟩
  rw [hk] at hrow hpre
  rw [hr6] at hpre
  have hkr : m.length = 64 * k + r := by omega
  have hrl : r < 64 := by omega
  have k0 := hrow.len
  have f0 := hrow.fro 72
  have hrow1 := hrow.setLen (ml + n)
  rw [Int.natCast_add] at hrow1
  have bs1 : Beside (fun k => k = g) w (w.setCell ⟨g, 72, none⟩ (.int .u64 ((ml : Int) + (n : Int)))) := Beside.setCell w g 72 _ rfl
  have e64 : (ml : Int) % 64 = (r : Int) := by omega
  have HR1 := Lib.hid hrow1
  have HB1 := Lib.hid bs1
  have HRd := Lib.hid hr
  have HL := Lib.hid hL
  have Hn := Lib.hid hn
  have hMb : Bytes (m ++ b) := fun x hx => by rcases List.mem_append.1 hx with h | h; exact hm x h; exact hb x h
  have hMl : (m ++ b).length = ml + n := by rw [List.length_append, hml, hn]
  have HMB := Lib.hid hMb
  have HMl := Lib.hid hMl
  clear hMb hMl
  have HPre := Lib.hid hpre
  have HKR := Lib.hid hkr
  have HML := Lib.hid hml
  have HG := Lib.hid hg
  have hnb : (n : Int) % 18446744073709551616 = (n : Int) := by omega
  have hsum : ((ml : Int) + (n : Int)) % 18446744073709551616 = (ml : Int) + (n : Int) := by omega
  by_cases hr0 : r = 0
  · subst hr0
    have hkn : ml = 64 * k := by omega
    have hdr : (m ++ b).drop (64 * k) = b := by rw [List.drop_append, List.drop_eq_nil_of_le (by omega), List.nil_append, show 64 * k - m.length = 0 by omega, List.drop_zero]
    have hrow2 : HashRow (w.setCell ⟨g, 72, none⟩ (.int .u64 ((ml : Int) + (n : Int)))) g (foldS (m ++ b) k) rest (ml + n) := by rw [foldS_append _ _ _ (by omega)]; exact hrow1
    have HR2 := Lib.hid hrow2
    have HDR := Lib.hid (And.intro hkn hdr)
    clear hrow1 hrow2 bs1 hr hL hpre hkr hml hk hr6 hg hn hrow hkn hdr
    go_enter Tryd.func22, Tryd.ntmps22
    go_wp2_with fail
    go_loopw [1] (fun v wr => ∃ (j : Nat) (X : Option Addr) (d : Nat), 64 * j ≤ ml + n ∧ v = .slice X (ml + n - 64 * j) d ∧ ml + n - 64 * j ≤ d ∧ Rd .u8 w w.heap.size X ((m ++ b).drop (64 * j)) ∧ (0 < ml + n - 64 * j → ∀ k o, X = some ⟨k, o, none⟩ → ¬ k = g) ∧ HashRow wr g (foldS (m ++ b) j) rest (ml + n) ∧ Beside (fun k => k = g) w wr) (fun v _ => lenW v)
    case atStart => exact ⟨k, A, c, by have := HDR.out.1; omega, by rw [show ml + n - 64 * k = n by have := HDR.out.1; omega], by have := HDR.out.1; omega, by rw [HDR.out.2]; exact HRd.out, (fun h => hA (by have := HDR.out.1; omega)), HR2.out, HB1.out⟩
    case round =>
      clear e64
      obtain ⟨j, X, d, hj, rfl, hld, hRX, hXg, hrw, hBw⟩ := hrel
      have hdl : ((m ++ b).drop (64 * j)).length = ml + n - 64 * j := by rw [List.length_drop, HMl.out]
      obtain ⟨l, hl⟩ : ∃ l, ml + n - 64 * j = l := ⟨_, rfl⟩
      rw [hl] at hld hdl hXg ⊢
      have hDb : Bytes ((m ++ b).drop (64 * j)) := fun x hx => HMB.out x (List.mem_of_mem_drop hx)
      by_cases hlt : 64 ≤ l
      · have hll : (64 : Int) ≤ (l : Int) := by omega
        have hLw := HL.out.beside hBw (fun k hk => by subst hk; exact HG.out)
        have HT := turned_pf (foldS (m ++ b) j) (length_foldS _ _) (foldS_lt _ _) X l d _ wr hdl (hRX.beside hBw (fun h => hXg (by rw [hdl] at h; exact h))) hDb hlt hld (by omega) hLw
        rw [loop_step] at HT
        have hst := fun (u : World) (hu : HashRow u g (foldS (m ++ b) j) rest (ml + n)) => And.intro (hu.store Tryd.prog (foldS (m ++ b) (j + 1)) (length_foldS _ _)) (hu.set (foldS (m ++ b) (j + 1)) (length_foldS _ _))
        obtain ⟨v0, v1, v2, v3, v4, v5, v6, v7, hv⟩ := list8 (foldS (m ++ b) j) (length_foldS _ _)
        have d0 : wr.cell? ⟨g, 0, none⟩ = some (.int .u32 (v0 : Int)) := by have h := hrw.word 0 (by omega); rw [hv] at h; exact h
        have d1 : wr.cell? ⟨g, 1, none⟩ = some (.int .u32 (v1 : Int)) := by have h := hrw.word 1 (by omega); rw [hv] at h; exact h
        have d2 : wr.cell? ⟨g, 2, none⟩ = some (.int .u32 (v2 : Int)) := by have h := hrw.word 2 (by omega); rw [hv] at h; exact h
        have d3 : wr.cell? ⟨g, 3, none⟩ = some (.int .u32 (v3 : Int)) := by have h := hrw.word 3 (by omega); rw [hv] at h; exact h
        have d4 : wr.cell? ⟨g, 4, none⟩ = some (.int .u32 (v4 : Int)) := by have h := hrw.word 4 (by omega); rw [hv] at h; exact h
        have d5 : wr.cell? ⟨g, 5, none⟩ = some (.int .u32 (v5 : Int)) := by have h := hrw.word 5 (by omega); rw [hv] at h; exact h
        have d6 : wr.cell? ⟨g, 6, none⟩ = some (.int .u32 (v6 : Int)) := by have h := hrw.word 6 (by omega); rw [hv] at h; exact h
        have d7 : wr.cell? ⟨g, 7, none⟩ = some (.int .u32 (v7 : Int)) := by have h := hrw.word 7 (by omega); rw [hv] at h; exact h
        obtain ⟨cs3, hcs3⟩ : ∃ cs, (ints .u32 (foldS (m ++ b) (j + 1))).toArray = cs := ⟨_, rfl⟩
        unfold OutAgg at HT
        rw [hv] at HT
        rw [hcs3] at hst HT
        change Calls _ _ #[.agg #[.int .u32 (v0 : Int), .int .u32 (v1 : Int), .int .u32 (v2 : Int), .int .u32 (v3 : Int), .int .u32 (v4 : Int), .int .u32 (v5 : Int), .int .u32 (v6 : Int), .int .u32 (v7 : Int)], _] _ _ at HT
        have hsz3 : cs3.size = 8 := by rw [← hcs3]; simp [length_ints, length_foldS]
        have HTT := Lib.hid HT
        have HST := Lib.hid hst
        have HRD := Lib.hid (And.intro hrw hBw)
        obtain ⟨xb, xo, rfl, hxb, _⟩ := hRX (by rw [hdl]; omega)
        have HRX := Lib.hid (hRX.on 64)
        rw [List.drop_drop, show 64 * j + 64 = 64 * (j + 1) by omega] at HRX
        have hxg := hXg (by omega) xb xo rfl
        clear hcs3 HT hst hLw hrw hBw hRX hDb
        by_cases hd64 : d = 64
        · subst hd64
          obtain rfl : l = 64 := by omega
          go_wp2_with fail
          refine (HTT.out).mono ?_
          rintro e w6 ⟨rfl, b6⟩
          have hst6 := (HST.out w6 (HRD.out.1.below b6)).1
          go_wp2_with fail
          have HE := Lib.hid (And.intro (HST.out w6 (HRD.out.1.below b6)).2 (HRD.out.2.trans ((Beside.of_below b6).trans (Beside.setRow w6 g (hcells (foldS (m ++ b) (j + 1)) rest (ml + n)).toArray rfl))))
          clear hst6 HTT HST HRD d0 d1 d2 d3 d4 d5 d6 d7
          go_roundw
          case rel => exact ⟨j + 1, some ⟨xb, xo, none⟩, 0, by omega, by rw [show ml + n - 64 * (j + 1) = 0 by omega], by omega, fun h => absurd h (by rw [List.length_drop, HMl.out]; omega), fun _ k o e => by cases e; exact hxg, HE.out.1, HE.out.2⟩
          case measure => simp [lenW]
        · have hd65 : ¬ (d : Int) = 64 := by omega
          go_wp2_with fail
          refine (HTT.out).mono ?_
          rintro e w6 ⟨rfl, b6⟩
          have hst6 := (HST.out w6 (HRD.out.1.below b6)).1
          go_wp2_with fail
          have HE := Lib.hid (And.intro (HST.out w6 (HRD.out.1.below b6)).2 (HRD.out.2.trans ((Beside.of_below b6).trans (Beside.setRow w6 g (hcells (foldS (m ++ b) (j + 1)) rest (ml + n)).toArray rfl))))
          clear hst6 HTT HST HRD d0 d1 d2 d3 d4 d5 d6 d7
          go_roundw
          case rel => exact ⟨j + 1, some ⟨xb, xo + 64, none⟩, d - 64, by omega, by rw [show ml + n - 64 * (j + 1) = l - 64 by omega], by omega, HRX.out, fun _ k o e => by cases e; exact hxg, HE.out.1, HE.out.2⟩
          case measure => simp [lenW]; omega
      · have hll : ¬ (64 : Int) ≤ (l : Int) := by omega
        have hsl := fun u => slice_whole g u
        have hRX2 := hRX.beside hBw (fun h => hXg (by rw [hdl] at h; exact h))
        have hend := end_rest (m ++ b) rest j hrw.lr (by rw [HMl.out]; exact hj) (by rw [HMl.out]; omega)
        have hlen0 : (m ++ b).length / 64 = j := by rw [HMl.out]; omega
        have hspl := hcells_splice (foldS (m ++ b) j) rest ((m ++ b).drop (64 * j)) (ml + n) 0 hrw.lw (by rw [hdl, hrw.lr]; omega)
        have hspb := splice_bytes rest ((m ++ b).drop (64 * j)) 0 hrb hDb
        have hspn : (splice rest 0 ((m ++ b).drop (64 * j))).length = 64 := by rw [length_splice _ _ _ (by rw [hdl, hrw.lr]; omega)]; exact hrw.lr
        obtain ⟨Y, hY⟩ : ∃ Y, ints .u8 ((m ++ b).drop (64 * j)) = Y := ⟨_, rfl⟩
        have hYl : Y.length = l := by rw [← hY, length_ints, hdl]
        change splice _ 8 _ = _ at hspl
        rw [hY] at hspl
        have HY := Lib.hid hY
        have HS := Lib.hid (And.intro hspl (And.intro hspb (And.intro hspn (And.intro hend hlen0))))
        have HRD := Lib.hid (And.intro hrw (And.intro hBw hRX2))
        clear hY hspl hspb hspn hend hlen0 hrw hBw hRX hRX2 hDb
        go_wp2_with (with_reducible refine wpList_copy_beside rfl (.tmp 70) (.tmp 71) _ _ rfl 5 Tryd.underlying34 (by rw [hi]; simp [hz1]) (some ⟨g, 8, none⟩) X 64 64 l d rfl rfl g 8 (hcells (foldS (m ++ b) j) rest (ml + n)) 78 ?c1 Y ?c2 ?c3 ?c4 ?c5 ?_)
        case c1 => exact HRD.out.1.row
        case c2 => exact (Nat.min_eq_left (by omega)).symm
        case c3 => intro h0; rw [← HY.out]; exact HRD.out.2.2.src (by rw [HY.out, hYl]; exact h0)
        case c4 => rw [length_hcells _ _ _ HRD.out.1.lw HRD.out.1.lr]; omega
        case c5 => rw [← HY.out]; exact ints_one _ _
        intro w9 hh hB9
        have HB9 := Lib.hid (HRD.out.2.1.trans hB9)
        clear hB9
        go_wp2_with fail
        go_ret
        refine ⟨rfl, HB9.out, _, ?_, HS.out.2.1, HS.out.2.2.2.1⟩
        rw [HS.out.2.2.2.2, HMl.out]
        refine ⟨length_foldS _ _, HS.out.2.2.1, ?_⟩
        rw [← HS.out.1]
        exact hh.out
  · have hrp : (0 : Int) < (r : Int) := by omega
    have hr64 : ¬ 64 = r := by omega
    clear hrow1 bs1 hr hL hpre hkr hml hk hr6 hg hn hrow
    go_enter Tryd.func22, Tryd.ntmps22
    have SL := fun u => slice_rest g r hrl u
    obtain ⟨q, hq⟩ : ∃ q, min (64 - r) n = q := ⟨_, rfl⟩
    obtain ⟨X, hX⟩ : ∃ X, ints .u8 (b.take (64 - r)) = X := ⟨_, rfl⟩
    have hbt : (b.take (64 - r)).length = q := by rw [List.length_take, Hn.out, hq]
    have hXl : X.length = q := by rw [← hX, length_ints, hbt]
    have HX := Lib.hid hX
    clear hX
    go_wp2_with (with_reducible refine wpList_copy_beside rfl (.tmp 31) (.tmp 32) _ _ rfl 5 Tryd.underlying34 (by rw [hi]; simp [hz1]) (some ⟨g, 8 + r, none⟩) A (64 - r) (64 - r) n c rfl rfl g (8 + r) (hcells (foldS m k) rest (ml + n)) 78 ?c1 X ?c2 ?c3 ?c4 ?c5 ?_)
    case c1 => have h := HR1.out.row; rw [← Int.natCast_add]; exact h
    case c2 => rw [hXl, ← hq, Nat.min_comm]
    case c3 => intro h0; rw [← HX.out]; exact ((HRd.out.beside HB1.out (fun h => hA (by rw [Hn.out] at h; exact h))).take (64 - r)).src (by rw [length_ints, hbt]; exact h0)
    case c4 => rw [hXl, length_hcells _ _ _ HR1.out.lw HR1.out.lr]; omega
    case c5 => rw [← HX.out]; exact ints_one _ _
    intro w2 hh hB
    have hrow2 : HashRow w2 g (foldS m k) (splice rest r (b.take (64 - r))) (ml + n) := ⟨HR1.out.lw, by rw [length_splice _ _ _ (by rw [hbt, HR1.out.lr]; omega), HR1.out.lr], by
      have h := hh.out
      rw [← HX.out, hcells_splice _ _ _ _ _ HR1.out.lw (by rw [hbt, HR1.out.lr]; omega)] at h
      exact h⟩
    have B2 := HB1.out.trans hB
    have HR2 := Lib.hid (And.intro hrow2 B2)
    clear hh hB hrow2 B2 SL
    by_cases hfull : r + n < 64
    · obtain rfl : q = n := by omega
      have hf2 : (r : Int) + (q : Int) < 64 := by omega
      go_wp2_with fail
      go_ret
      refine ⟨rfl, HR2.out.2, splice rest r (b.take (64 - r)), ?_, splice_bytes _ _ _ hrb (fun x hx => hb x (List.mem_of_mem_take hx)), ?_⟩
      · rw [List.length_append, HML.out, Hn.out, show (ml + q) / 64 = k by have := HKR.out; have := HML.out; omega, foldS_append _ _ _ (by have := HKR.out; omega)]
        exact HR2.out.1
      · rw [List.length_append, HML.out, Hn.out, show (ml + q) / 64 = k by have := HKR.out; have := HML.out; omega, show (ml + q) % 64 = r + b.length by have := HKR.out; have := HML.out; have := Hn.out; omega, List.take_of_length_le (l := b) (by have := Hn.out; omega)]
        exact part_rest m b rest k r HKR.out HR1.out.lr HPre.out (by have := Hn.out; omega)
    · have hq2 : q = 64 - r := by omega
      have hf2 : ¬ (r : Int) + (q : Int) < 64 := by omega
      have hnq : ¬ n < q := by omega
      have HQ := Lib.hid (And.intro hq2 hnq)
      have hqb : q ≤ 64 := by omega
      clear hq2 hnq hq hbt hXl hfull
      go_upto_region 9 with fail
      have hrowd : HashRow w2.drew g (foldS m k) (splice rest r (b.take (64 - r))) (ml + n) := HR2.out.1.keep rfl
      have bd : Below w2.heap.size w2 w2.drew := (Drawn.more 1).below _
      have B2d := HR2.out.2.trans (Beside.of_below bd)
      have hLd := HL.out.beside B2d (fun k hk => by subst hk; exact HG.out)
      have HT := turned_pf (foldS m k) (length_foldS _ _) (foldS_lt _ _) (some ⟨g, 8, none⟩) 64 64 _ w2.drew hrowd.lr (hrowd.rd.more hrowd.lt) (splice_bytes _ _ _ hrb (fun x hx => hb x (List.mem_of_mem_take hx))) (by omega) (by omega) (by omega) hLd
      rw [part_full m b rest k r HKR.out hrl HR1.out.lr HPre.out (by rw [Hn.out]; have := HQ.out; omega)] at HT
      have hsl := fun u => slice_whole g u
      have hst := fun (u : World) (hu : HashRow u g (foldS m k) (splice rest r (b.take (64 - r))) (ml + n)) => And.intro (hu.store Tryd.prog (foldS (m ++ b) (k + 1)) (length_foldS _ _)) (hu.set (foldS (m ++ b) (k + 1)) (length_foldS _ _))
      obtain ⟨v0, v1, v2, v3, v4, v5, v6, v7, hv⟩ := list8 (foldS m k) (length_foldS _ _)
      have d0 : w2.drew.cell? ⟨g, 0, none⟩ = some (.int .u32 (v0 : Int)) := by have h := hrowd.word 0 (by omega); rw [hv] at h; exact h
      have d1 : w2.drew.cell? ⟨g, 1, none⟩ = some (.int .u32 (v1 : Int)) := by have h := hrowd.word 1 (by omega); rw [hv] at h; exact h
      have d2 : w2.drew.cell? ⟨g, 2, none⟩ = some (.int .u32 (v2 : Int)) := by have h := hrowd.word 2 (by omega); rw [hv] at h; exact h
      have d3 : w2.drew.cell? ⟨g, 3, none⟩ = some (.int .u32 (v3 : Int)) := by have h := hrowd.word 3 (by omega); rw [hv] at h; exact h
      have d4 : w2.drew.cell? ⟨g, 4, none⟩ = some (.int .u32 (v4 : Int)) := by have h := hrowd.word 4 (by omega); rw [hv] at h; exact h
      have d5 : w2.drew.cell? ⟨g, 5, none⟩ = some (.int .u32 (v5 : Int)) := by have h := hrowd.word 5 (by omega); rw [hv] at h; exact h
      have d6 : w2.drew.cell? ⟨g, 6, none⟩ = some (.int .u32 (v6 : Int)) := by have h := hrowd.word 6 (by omega); rw [hv] at h; exact h
      have d7 : w2.drew.cell? ⟨g, 7, none⟩ = some (.int .u32 (v7 : Int)) := by have h := hrowd.word 7 (by omega); rw [hv] at h; exact h
      obtain ⟨cs2, hcs2⟩ : ∃ cs, (ints .u32 (foldS (m ++ b) (k + 1))).toArray = cs := ⟨_, rfl⟩
      unfold OutAgg at HT
      rw [hv] at HT
      rw [hcs2] at hst HT
      change Calls _ _ #[.agg #[.int .u32 (v0 : Int), .int .u32 (v1 : Int), .int .u32 (v2 : Int), .int .u32 (v3 : Int), .int .u32 (v4 : Int), .int .u32 (v5 : Int), .int .u32 (v6 : Int), .int .u32 (v7 : Int)], _] _ _ at HT
      have hsz : cs2.size = 8 := by rw [← hcs2]; simp [length_ints, length_foldS]
      have HTT := Lib.hid HT
      have HST := Lib.hid hst
      have HRD := Lib.hid (And.intro hrowd B2d)
      clear hcs2 HT hst hLd hrowd B2d bd
      go_region_with ((go_at_call 49; (with_reducible refine (HTT.out).mono ?_); rintro e w6 ⟨rfl, b6⟩; have hst6 := (HST.out w6 (HRD.out.1.below b6)).1))
      all_goals
        have hrow7 := (HST.out w6 (HRD.out.1.below b6)).2
        have B7 := HRD.out.2.trans ((Beside.of_below b6).trans (Beside.setRow w6 g (hcells (foldS (m ++ b) (k + 1)) (splice rest r (b.take (64 - r))) (ml + n)).toArray rfl))
        obtain ⟨w7, hw7⟩ : ∃ w7, w6.setRow g (hcells (foldS (m ++ b) (k + 1)) (splice rest r (b.take (64 - r))) (ml + n)).toArray = w7 := ⟨_, rfl⟩
        rw [hw7] at hrow7 B7 ⊢
        clear hst6 hw7 d0 d1 d2 d3 d4 d5 d6 d7 b6 hsl
        have hq2 := HQ.out.1
        have hrb2 := splice_bytes rest (b.take (64 - r)) r hrb (fun x hx => hb x (List.mem_of_mem_take hx))
        have hdr := drop_after m b k r HKR.out hrl
        obtain ⟨rg, ro, rfl, hrg, _⟩ := HRd.out (by rw [Hn.out]; have := HQ.out.2; omega)
        have hrgg := hA (by have := HQ.out.2; omega) rg ro rfl
        have HQR := HRd.out.on q
        rw [hq2, ← hdr] at HQR
        have HQX := Lib.hid HQR
        clear HQR hdr
        have hqn : q ≤ n := by have := HQ.out.2; omega
        have hkn : ml = 64 * k + r := by have := HKR.out; have := HML.out; omega
        have HKN := Lib.hid hkn
        clear hkn hq2
        by_cases hcq : c = q
        · subst hcq
          obtain rfl : n = c := by omega
          go_wp2_with fail
          go_loopw [1] (fun v wr => ∃ (j : Nat) (X : Option Addr) (d : Nat), 64 * j ≤ ml + n ∧ v = .slice X (ml + n - 64 * j) d ∧ ml + n - 64 * j ≤ d ∧ Rd .u8 w w.heap.size X ((m ++ b).drop (64 * j)) ∧ (0 < ml + n - 64 * j → ∀ k o, X = some ⟨k, o, none⟩ → ¬ k = g) ∧ HashRow wr g (foldS (m ++ b) j) (splice rest r (b.take (64 - r))) (ml + n) ∧ Beside (fun k => k = g) w wr) (fun v _ => lenW v)
          case atStart => exact ⟨k + 1, some ⟨rg, ro, none⟩, 0, by have := HKN.out; have := HQ.out; omega, by rw [show ml + n - 64 * (k + 1) = 0 by have := HKN.out; have := HQ.out; omega], by have := HKN.out; have := HQ.out; omega, fun h => absurd h (by rw [List.length_drop, HMl.out]; have := HKN.out; have := HQ.out; omega), fun _ k o e => by cases e; exact hrgg, hrow7, B7⟩
          case round =>
            clear e64
            obtain ⟨j, X, d, hj, rfl, hld, hRX, hXg, hrw, hBw⟩ := hrel
            have hdl : ((m ++ b).drop (64 * j)).length = ml + n - 64 * j := by rw [List.length_drop, HMl.out]
            obtain ⟨l, hl⟩ : ∃ l, ml + n - 64 * j = l := ⟨_, rfl⟩
            rw [hl] at hld hdl hXg ⊢
            have hDb : Bytes ((m ++ b).drop (64 * j)) := fun x hx => HMB.out x (List.mem_of_mem_drop hx)
            by_cases hlt : 64 ≤ l
            · have hll : (64 : Int) ≤ (l : Int) := by omega
              have hLw := HL.out.beside hBw (fun k hk => by subst hk; exact HG.out)
              have HT := turned_pf (foldS (m ++ b) j) (length_foldS _ _) (foldS_lt _ _) X l d _ wr hdl (hRX.beside hBw (fun h => hXg (by rw [hdl] at h; exact h))) hDb hlt hld (by omega) hLw
              rw [loop_step] at HT
              have hst := fun (u : World) (hu : HashRow u g (foldS (m ++ b) j) (splice rest r (b.take (64 - r))) (ml + n)) => And.intro (hu.store Tryd.prog (foldS (m ++ b) (j + 1)) (length_foldS _ _)) (hu.set (foldS (m ++ b) (j + 1)) (length_foldS _ _))
              obtain ⟨v0, v1, v2, v3, v4, v5, v6, v7, hv⟩ := list8 (foldS (m ++ b) j) (length_foldS _ _)
              have d0 : wr.cell? ⟨g, 0, none⟩ = some (.int .u32 (v0 : Int)) := by have h := hrw.word 0 (by omega); rw [hv] at h; exact h
              have d1 : wr.cell? ⟨g, 1, none⟩ = some (.int .u32 (v1 : Int)) := by have h := hrw.word 1 (by omega); rw [hv] at h; exact h
              have d2 : wr.cell? ⟨g, 2, none⟩ = some (.int .u32 (v2 : Int)) := by have h := hrw.word 2 (by omega); rw [hv] at h; exact h
              have d3 : wr.cell? ⟨g, 3, none⟩ = some (.int .u32 (v3 : Int)) := by have h := hrw.word 3 (by omega); rw [hv] at h; exact h
              have d4 : wr.cell? ⟨g, 4, none⟩ = some (.int .u32 (v4 : Int)) := by have h := hrw.word 4 (by omega); rw [hv] at h; exact h
              have d5 : wr.cell? ⟨g, 5, none⟩ = some (.int .u32 (v5 : Int)) := by have h := hrw.word 5 (by omega); rw [hv] at h; exact h
              have d6 : wr.cell? ⟨g, 6, none⟩ = some (.int .u32 (v6 : Int)) := by have h := hrw.word 6 (by omega); rw [hv] at h; exact h
              have d7 : wr.cell? ⟨g, 7, none⟩ = some (.int .u32 (v7 : Int)) := by have h := hrw.word 7 (by omega); rw [hv] at h; exact h
              obtain ⟨cs3, hcs3⟩ : ∃ cs, (ints .u32 (foldS (m ++ b) (j + 1))).toArray = cs := ⟨_, rfl⟩
              unfold OutAgg at HT
              rw [hv] at HT
              rw [hcs3] at hst HT
              change Calls _ _ #[.agg #[.int .u32 (v0 : Int), .int .u32 (v1 : Int), .int .u32 (v2 : Int), .int .u32 (v3 : Int), .int .u32 (v4 : Int), .int .u32 (v5 : Int), .int .u32 (v6 : Int), .int .u32 (v7 : Int)], _] _ _ at HT
              have hsz3 : cs3.size = 8 := by rw [← hcs3]; simp [length_ints, length_foldS]
              have HTT := Lib.hid HT
              have HST := Lib.hid hst
              have HRD := Lib.hid (And.intro hrw hBw)
              obtain ⟨xb, xo, rfl, hxb, _⟩ := hRX (by rw [hdl]; omega)
              have HRX := Lib.hid (hRX.on 64)
              rw [List.drop_drop, show 64 * j + 64 = 64 * (j + 1) by omega] at HRX
              have hxg := hXg (by omega) xb xo rfl
              clear hcs3 HT hst hLw hrw hBw hRX hDb
              by_cases hd64 : d = 64
              · subst hd64
                obtain rfl : l = 64 := by omega
                go_wp2_with fail
                refine (HTT.out).mono ?_
                rintro e w6 ⟨rfl, b6⟩
                have hst6 := (HST.out w6 (HRD.out.1.below b6)).1
                go_wp2_with fail
                have HE := Lib.hid (And.intro (HST.out w6 (HRD.out.1.below b6)).2 (HRD.out.2.trans ((Beside.of_below b6).trans (Beside.setRow w6 g (hcells (foldS (m ++ b) (j + 1)) (splice rest r (b.take (64 - r))) (ml + n)).toArray rfl))))
                clear hst6 HTT HST HRD d0 d1 d2 d3 d4 d5 d6 d7
                go_roundw
                case rel => exact ⟨j + 1, some ⟨xb, xo, none⟩, 0, by omega, by rw [show ml + n - 64 * (j + 1) = 0 by omega], by omega, fun h => absurd h (by rw [List.length_drop, HMl.out]; omega), fun _ k o e => by cases e; exact hxg, HE.out.1, HE.out.2⟩
                case measure => simp [lenW]
              · have hd65 : ¬ (d : Int) = 64 := by omega
                go_wp2_with fail
                refine (HTT.out).mono ?_
                rintro e w6 ⟨rfl, b6⟩
                have hst6 := (HST.out w6 (HRD.out.1.below b6)).1
                go_wp2_with fail
                have HE := Lib.hid (And.intro (HST.out w6 (HRD.out.1.below b6)).2 (HRD.out.2.trans ((Beside.of_below b6).trans (Beside.setRow w6 g (hcells (foldS (m ++ b) (j + 1)) (splice rest r (b.take (64 - r))) (ml + n)).toArray rfl))))
                clear hst6 HTT HST HRD d0 d1 d2 d3 d4 d5 d6 d7
                go_roundw
                case rel => exact ⟨j + 1, some ⟨xb, xo + 64, none⟩, d - 64, by omega, by rw [show ml + n - 64 * (j + 1) = l - 64 by omega], by omega, HRX.out, fun _ k o e => by cases e; exact hxg, HE.out.1, HE.out.2⟩
                case measure => simp [lenW]; omega
            · have hll : ¬ (64 : Int) ≤ (l : Int) := by omega
              have hsl := fun u => slice_whole g u
              have hRX2 := hRX.beside hBw (fun h => hXg (by rw [hdl] at h; exact h))
              have hend := end_rest (m ++ b) (splice rest r (b.take (64 - r))) j hrw.lr (by rw [HMl.out]; exact hj) (by rw [HMl.out]; omega)
              have hlen0 : (m ++ b).length / 64 = j := by rw [HMl.out]; omega
              have hspl := hcells_splice (foldS (m ++ b) j) (splice rest r (b.take (64 - r))) ((m ++ b).drop (64 * j)) (ml + n) 0 hrw.lw (by rw [hdl, hrw.lr]; omega)
              have hspb := splice_bytes (splice rest r (b.take (64 - r))) ((m ++ b).drop (64 * j)) 0 hrb2 hDb
              have hspn : (splice (splice rest r (b.take (64 - r))) 0 ((m ++ b).drop (64 * j))).length = 64 := by rw [length_splice _ _ _ (by rw [hdl, hrw.lr]; omega)]; exact hrw.lr
              obtain ⟨Y, hY⟩ : ∃ Y, ints .u8 ((m ++ b).drop (64 * j)) = Y := ⟨_, rfl⟩
              have hYl : Y.length = l := by rw [← hY, length_ints, hdl]
              change splice _ 8 _ = _ at hspl
              rw [hY] at hspl
              have HY := Lib.hid hY
              have HS := Lib.hid (And.intro hspl (And.intro hspb (And.intro hspn (And.intro hend hlen0))))
              have HRD := Lib.hid (And.intro hrw (And.intro hBw hRX2))
              clear hY hspl hspb hspn hend hlen0 hrw hBw hRX hRX2 hDb
              go_wp2_with (with_reducible refine wpList_copy_beside rfl (.tmp 70) (.tmp 71) _ _ rfl 5 Tryd.underlying34 (by rw [hi]; simp [hz1]) (some ⟨g, 8, none⟩) X 64 64 l d rfl rfl g 8 (hcells (foldS (m ++ b) j) (splice rest r (b.take (64 - r))) (ml + n)) 78 ?c1 Y ?c2 ?c3 ?c4 ?c5 ?_)
              case c1 => exact HRD.out.1.row
              case c2 => exact (Nat.min_eq_left (by omega)).symm
              case c3 => intro h0; rw [← HY.out]; exact HRD.out.2.2.src (by rw [HY.out, hYl]; exact h0)
              case c4 => rw [length_hcells _ _ _ HRD.out.1.lw HRD.out.1.lr]; omega
              case c5 => rw [← HY.out]; exact ints_one _ _
              intro w9 hh hB9
              have HB9 := Lib.hid (HRD.out.2.1.trans hB9)
              clear hB9
              go_wp2_with fail
              go_ret
              refine ⟨rfl, HB9.out, _, ?_, HS.out.2.1, HS.out.2.2.2.1⟩
              rw [HS.out.2.2.2.2, HMl.out]
              refine ⟨length_foldS _ _, HS.out.2.2.1, ?_⟩
              rw [← HS.out.1]
              exact hh.out
        · have hcq2 : ¬ (c : Int) = (q : Int) := by omega
          go_wp2_with fail
          go_loopw [1] (fun v wr => ∃ (j : Nat) (X : Option Addr) (d : Nat), 64 * j ≤ ml + n ∧ v = .slice X (ml + n - 64 * j) d ∧ ml + n - 64 * j ≤ d ∧ Rd .u8 w w.heap.size X ((m ++ b).drop (64 * j)) ∧ (0 < ml + n - 64 * j → ∀ k o, X = some ⟨k, o, none⟩ → ¬ k = g) ∧ HashRow wr g (foldS (m ++ b) j) (splice rest r (b.take (64 - r))) (ml + n) ∧ Beside (fun k => k = g) w wr) (fun v _ => lenW v)
          case atStart => exact ⟨k + 1, some ⟨rg, ro + q, none⟩, c - q, by have := HKN.out; have := HQ.out; omega, by rw [show ml + n - 64 * (k + 1) = n - q by have := HKN.out; have := HQ.out; omega], by have := HKN.out; have := HQ.out; omega, by rw [HQ.out.1]; exact HQX.out, fun _ k o e => by cases e; exact hrgg, hrow7, B7⟩
          case round =>
            clear e64
            obtain ⟨j, X, d, hj, rfl, hld, hRX, hXg, hrw, hBw⟩ := hrel
            have hdl : ((m ++ b).drop (64 * j)).length = ml + n - 64 * j := by rw [List.length_drop, HMl.out]
            obtain ⟨l, hl⟩ : ∃ l, ml + n - 64 * j = l := ⟨_, rfl⟩
            rw [hl] at hld hdl hXg ⊢
            have hDb : Bytes ((m ++ b).drop (64 * j)) := fun x hx => HMB.out x (List.mem_of_mem_drop hx)
            by_cases hlt : 64 ≤ l
            · have hll : (64 : Int) ≤ (l : Int) := by omega
              have hLw := HL.out.beside hBw (fun k hk => by subst hk; exact HG.out)
              have HT := turned_pf (foldS (m ++ b) j) (length_foldS _ _) (foldS_lt _ _) X l d _ wr hdl (hRX.beside hBw (fun h => hXg (by rw [hdl] at h; exact h))) hDb hlt hld (by omega) hLw
              rw [loop_step] at HT
              have hst := fun (u : World) (hu : HashRow u g (foldS (m ++ b) j) (splice rest r (b.take (64 - r))) (ml + n)) => And.intro (hu.store Tryd.prog (foldS (m ++ b) (j + 1)) (length_foldS _ _)) (hu.set (foldS (m ++ b) (j + 1)) (length_foldS _ _))
              obtain ⟨v0, v1, v2, v3, v4, v5, v6, v7, hv⟩ := list8 (foldS (m ++ b) j) (length_foldS _ _)
              have d0 : wr.cell? ⟨g, 0, none⟩ = some (.int .u32 (v0 : Int)) := by have h := hrw.word 0 (by omega); rw [hv] at h; exact h
              have d1 : wr.cell? ⟨g, 1, none⟩ = some (.int .u32 (v1 : Int)) := by have h := hrw.word 1 (by omega); rw [hv] at h; exact h
              have d2 : wr.cell? ⟨g, 2, none⟩ = some (.int .u32 (v2 : Int)) := by have h := hrw.word 2 (by omega); rw [hv] at h; exact h
              have d3 : wr.cell? ⟨g, 3, none⟩ = some (.int .u32 (v3 : Int)) := by have h := hrw.word 3 (by omega); rw [hv] at h; exact h
              have d4 : wr.cell? ⟨g, 4, none⟩ = some (.int .u32 (v4 : Int)) := by have h := hrw.word 4 (by omega); rw [hv] at h; exact h
              have d5 : wr.cell? ⟨g, 5, none⟩ = some (.int .u32 (v5 : Int)) := by have h := hrw.word 5 (by omega); rw [hv] at h; exact h
              have d6 : wr.cell? ⟨g, 6, none⟩ = some (.int .u32 (v6 : Int)) := by have h := hrw.word 6 (by omega); rw [hv] at h; exact h
              have d7 : wr.cell? ⟨g, 7, none⟩ = some (.int .u32 (v7 : Int)) := by have h := hrw.word 7 (by omega); rw [hv] at h; exact h
              obtain ⟨cs3, hcs3⟩ : ∃ cs, (ints .u32 (foldS (m ++ b) (j + 1))).toArray = cs := ⟨_, rfl⟩
              unfold OutAgg at HT
              rw [hv] at HT
              rw [hcs3] at hst HT
              change Calls _ _ #[.agg #[.int .u32 (v0 : Int), .int .u32 (v1 : Int), .int .u32 (v2 : Int), .int .u32 (v3 : Int), .int .u32 (v4 : Int), .int .u32 (v5 : Int), .int .u32 (v6 : Int), .int .u32 (v7 : Int)], _] _ _ at HT
              have hsz3 : cs3.size = 8 := by rw [← hcs3]; simp [length_ints, length_foldS]
              have HTT := Lib.hid HT
              have HST := Lib.hid hst
              have HRD := Lib.hid (And.intro hrw hBw)
              obtain ⟨xb, xo, rfl, hxb, _⟩ := hRX (by rw [hdl]; omega)
              have HRX := Lib.hid (hRX.on 64)
              rw [List.drop_drop, show 64 * j + 64 = 64 * (j + 1) by omega] at HRX
              have hxg := hXg (by omega) xb xo rfl
              clear hcs3 HT hst hLw hrw hBw hRX hDb
              by_cases hd64 : d = 64
              · subst hd64
                obtain rfl : l = 64 := by omega
                go_wp2_with fail
                refine (HTT.out).mono ?_
                rintro e w6 ⟨rfl, b6⟩
                have hst6 := (HST.out w6 (HRD.out.1.below b6)).1
                go_wp2_with fail
                have HE := Lib.hid (And.intro (HST.out w6 (HRD.out.1.below b6)).2 (HRD.out.2.trans ((Beside.of_below b6).trans (Beside.setRow w6 g (hcells (foldS (m ++ b) (j + 1)) (splice rest r (b.take (64 - r))) (ml + n)).toArray rfl))))
                clear hst6 HTT HST HRD d0 d1 d2 d3 d4 d5 d6 d7
                go_roundw
                case rel => exact ⟨j + 1, some ⟨xb, xo, none⟩, 0, by omega, by rw [show ml + n - 64 * (j + 1) = 0 by omega], by omega, fun h => absurd h (by rw [List.length_drop, HMl.out]; omega), fun _ k o e => by cases e; exact hxg, HE.out.1, HE.out.2⟩
                case measure => simp [lenW]
              · have hd65 : ¬ (d : Int) = 64 := by omega
                go_wp2_with fail
                refine (HTT.out).mono ?_
                rintro e w6 ⟨rfl, b6⟩
                have hst6 := (HST.out w6 (HRD.out.1.below b6)).1
                go_wp2_with fail
                have HE := Lib.hid (And.intro (HST.out w6 (HRD.out.1.below b6)).2 (HRD.out.2.trans ((Beside.of_below b6).trans (Beside.setRow w6 g (hcells (foldS (m ++ b) (j + 1)) (splice rest r (b.take (64 - r))) (ml + n)).toArray rfl))))
                clear hst6 HTT HST HRD d0 d1 d2 d3 d4 d5 d6 d7
                go_roundw
                case rel => exact ⟨j + 1, some ⟨xb, xo + 64, none⟩, d - 64, by omega, by rw [show ml + n - 64 * (j + 1) = l - 64 by omega], by omega, HRX.out, fun _ k o e => by cases e; exact hxg, HE.out.1, HE.out.2⟩
                case measure => simp [lenW]; omega
            · have hll : ¬ (64 : Int) ≤ (l : Int) := by omega
              have hsl := fun u => slice_whole g u
              have hRX2 := hRX.beside hBw (fun h => hXg (by rw [hdl] at h; exact h))
              have hend := end_rest (m ++ b) (splice rest r (b.take (64 - r))) j hrw.lr (by rw [HMl.out]; exact hj) (by rw [HMl.out]; omega)
              have hlen0 : (m ++ b).length / 64 = j := by rw [HMl.out]; omega
              have hspl := hcells_splice (foldS (m ++ b) j) (splice rest r (b.take (64 - r))) ((m ++ b).drop (64 * j)) (ml + n) 0 hrw.lw (by rw [hdl, hrw.lr]; omega)
              have hspb := splice_bytes (splice rest r (b.take (64 - r))) ((m ++ b).drop (64 * j)) 0 hrb2 hDb
              have hspn : (splice (splice rest r (b.take (64 - r))) 0 ((m ++ b).drop (64 * j))).length = 64 := by rw [length_splice _ _ _ (by rw [hdl, hrw.lr]; omega)]; exact hrw.lr
              obtain ⟨Y, hY⟩ : ∃ Y, ints .u8 ((m ++ b).drop (64 * j)) = Y := ⟨_, rfl⟩
              have hYl : Y.length = l := by rw [← hY, length_ints, hdl]
              change splice _ 8 _ = _ at hspl
              rw [hY] at hspl
              have HY := Lib.hid hY
              have HS := Lib.hid (And.intro hspl (And.intro hspb (And.intro hspn (And.intro hend hlen0))))
              have HRD := Lib.hid (And.intro hrw (And.intro hBw hRX2))
              clear hY hspl hspb hspn hend hlen0 hrw hBw hRX hRX2 hDb
              go_wp2_with (with_reducible refine wpList_copy_beside rfl (.tmp 70) (.tmp 71) _ _ rfl 5 Tryd.underlying34 (by rw [hi]; simp [hz1]) (some ⟨g, 8, none⟩) X 64 64 l d rfl rfl g 8 (hcells (foldS (m ++ b) j) (splice rest r (b.take (64 - r))) (ml + n)) 78 ?c1 Y ?c2 ?c3 ?c4 ?c5 ?_)
              case c1 => exact HRD.out.1.row
              case c2 => exact (Nat.min_eq_left (by omega)).symm
              case c3 => intro h0; rw [← HY.out]; exact HRD.out.2.2.src (by rw [HY.out, hYl]; exact h0)
              case c4 => rw [length_hcells _ _ _ HRD.out.1.lw HRD.out.1.lr]; omega
              case c5 => rw [← HY.out]; exact ints_one _ _
              intro w9 hh hB9
              have HB9 := Lib.hid (HRD.out.2.1.trans hB9)
              clear hB9
              go_wp2_with fail
              go_ret
              refine ⟨rfl, HB9.out, _, ?_, HS.out.2.1, HS.out.2.2.2.1⟩
              rw [HS.out.2.2.2.2, HMl.out]
              refine ⟨length_foldS _ _, HS.out.2.2.1, ?_⟩
              rw [← HS.out.1]
              exact hh.out
end Go.Proofs.YtjeliomjnalpcaaDoor

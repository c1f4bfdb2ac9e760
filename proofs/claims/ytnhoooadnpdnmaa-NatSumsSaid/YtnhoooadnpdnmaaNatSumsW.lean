/- NatSums' walk: it answers true, and writes nothing that was there. No condition but what the arguments' types give. -/
import Derived.Test.YtnhoooadnpdnmaaNatB
namespace Go.Proofs.Ytnhoooadnpdnmaa
open Go.RowKit

set_option maxHeartbeats 1000000 in
set_option maxRecDepth 100000 in
theorem natSums_walk (A0 : Option Addr) (c0 : Nat) (l0 : List Nat) (A1 : Option Addr) (c1 : Nat) (l1 : List Nat) (w : World) (r0 : Rd .u64 w w.heap.size A0 l0) (y0 : Words l0) (_z0 : l0.length * 8 ≤ 140737488351232) (u0 : l0.length ≤ c0)
    (r1 : Rd .u64 w w.heap.size A1 l1) (y1 : Words l1) (_z1 : l1.length * 8 ≤ 140737488351232) (u1 : l1.length ≤ c1) :
    Calls Try.prog 4 #[.slice A0 l0.length c0, .slice A1 l1.length c1] w fun e w' => e = .returned (.bool true) ∧ Below w.heap.size w w' := by
  by_cases hv : 40 < l0.length
  · go_enter Try.func4, Try.ntmps4
    go_wp2_with fail
    refine (vast_yes _ _ _ _ hv).mono ?_
    rintro e w1 ⟨rfl, rfl⟩
    go_wp2_with fail
    refine (natWorks_any _).mono ?_
    rintro e w1 ⟨rfl, b1⟩
    go_wp2_with fail
    go_ret
    exact ⟨rfl, b1⟩
  · by_cases hv1 : 40 < l1.length
    · go_enter Try.func4, Try.ntmps4
      go_wp2_with fail
      refine (vast_no _ _ _ _ (by omega)).mono ?_
      rintro e w1 ⟨rfl, rfl⟩
      go_wp2_with fail
      refine (vast_yes _ _ _ _ hv1).mono ?_
      rintro e w1 ⟨rfl, rfl⟩
      go_wp2_with fail
      refine (natWorks_any _).mono ?_
      rintro e w1 ⟨rfl, b1⟩
      go_wp2_with fail
      go_ret
      exact ⟨rfl, b1⟩
    · have P0 : RowIs w A0 l0.length c0 l0 := ⟨rfl, y0, by omega, r0, u0⟩
      have P1 : RowIs w A1 l1.length c1 l1 := ⟨rfl, y1, by omega, r1, u1⟩
      clear r0 y0 r1 y1
      by_cases h1 : natOf l0 < natOf l1
      · have h2 : ¬ natOf l1 < natOf l0 := by omega
        go_enter Try.func4, Try.ntmps4
        go_wp2_with fail
        refine (vast_no _ _ _ _ (by omega)).mono ?_
        rintro e w1 ⟨rfl, rfl⟩
        go_wp2_with fail
        refine (vast_no _ _ _ _ (by omega)).mono ?_
        rintro e w2 ⟨rfl, rfl⟩
        go_wp2_with fail
        refine (bDigits (c := c0) P0.in_).mono ?_
        rintro e w1 ⟨X1, n1, d1, rfl, D1, b1⟩
        have B1 := b1
        have P0 := P0.step b1
        have P1 := P1.step b1
        go_wp2_with fail
        refine (bDigits (c := c1) P1.in_).mono ?_
        rintro e w2 ⟨X2, n2, d2, rfl, D2, b2⟩
        have B2 := below_step B1 b2
        have P0 := P0.step b2
        have P1 := P1.step b2
        have D1 := D1.step b2
        go_wp2_with fail
        refine (bLess_yes D1 D2 h1).mono ?_
        rintro e w3 ⟨rfl, b3⟩
        have B3 := below_step B2 b3
        have P0 := P0.step b3
        have P1 := P1.step b3
        have D1 := D1.step b3
        have D2 := D2.step b3
        go_wp2_with fail
        refine (bLess_no D2 D1 h2).mono ?_
        rintro e w4 ⟨rfl, b4⟩
        have B4 := below_step B3 b4
        have P0 := P0.step b4
        have P1 := P1.step b4
        have D1 := D1.step b4
        have D2 := D2.step b4
        go_wp2_with fail
        refine (bCopy (c := c0) P0).mono ?_
        rintro e w5 ⟨X5, d5, rfl, P5, b5⟩
        have B5 := below_step B4 b5
        have P0 := P0.step b5
        have P1 := P1.step b5
        have D1 := D1.step b5
        have D2 := D2.step b5
        go_wp2_with fail
        refine (bCopy (c := c1) P1).mono ?_
        rintro e w6 ⟨X6, d6, rfl, P6, b6⟩
        have B6 := below_step B5 b6
        have P0 := P0.step b6
        have P1 := P1.step b6
        have D1 := D1.step b6
        have D2 := D2.step b6
        have P5 := P5.step b6
        have P05 := P5
        have P06 := P6
        have P00 := P0
        have P01 := P1
        have B06 := B6
        go_wp2_with fail
        refine (bAdd (c := d5) (c2 := d6) P5.in_ P6.in_ (by omega)).mono ?_
        rintro e w7 ⟨X7, q7, d7, rfl, S7, T7, b7⟩
        have B7 := below_step B6 b7
        have C7 := b7
        have P0 := P0.step b7
        have P1 := P1.step b7
        have D1 := D1.step b7
        have D2 := D2.step b7
        have P5 := P5.step b7
        have P6 := P6.step b7
        have T07 := T7
        have hq7 := S7.2.1
        go_wp2_with fail
        refine (bSub_no (c := d5) (c2 := d6) P5.in_ P6.in_ h1).mono ?_
        rintro e w8 ⟨X8, d8, rfl, b8⟩
        have B8 := below_step B7 b8
        have C8 := below_step C7 b8
        have P0 := P0.step b8
        have P1 := P1.step b8
        have D1 := D1.step b8
        have D2 := D2.step b8
        have P5 := P5.step b8
        have P6 := P6.step b8
        have S7 := S7.step b8
        have T7 := T7.step b8
        have hcmp : cmpS (natOf l0) (natOf l1) = -1 := by unfold cmpS; rw [if_pos h1]
        have hC := bCmp (c := d5) (c2 := d6) P5.in_ P6.in_
        rw [hcmp] at hC
        have HC := Lib.hid hC
        clear hC hcmp
        go_wp2_with fail
        refine (HC.out).mono ?_
        rintro e w9 ⟨rfl, b9⟩
        have B9 := below_step B8 b9
        have C9 := below_step C8 b9
        have P0 := P0.step b9
        have P1 := P1.step b9
        have D1 := D1.step b9
        have D2 := D2.step b9
        have P5 := P5.step b9
        have P6 := P6.step b9
        have S7 := S7.step b9
        have T7 := T7.step b9
        clear HC
        obtain ⟨hn1, hn1d, hn1b, _⟩ := id D1
        obtain ⟨hn2, hn2d, hn2b, _⟩ := id D2
        have hnn : n1 + n2 ≤ 4000000 := by have := P0.in_.bits; have := P1.in_.bits; omega
        clear hn1 hn2 hn1d hn2d hn1b hn2b
        go_wp2_with fail
        refine (bSum D1 D2 hnn).mono ?_
        rintro e w10 ⟨X10, n10, d10, rfl, D10, b10⟩
        have B10 := below_step B9 b10
        have C10 := below_step C9 b10
        have P0 := P0.step b10
        have P1 := P1.step b10
        have D1 := D1.step b10
        have D2 := D2.step b10
        have P5 := P5.step b10
        have P6 := P6.step b10
        have S7 := S7.step b10
        have T7 := T7.step b10
        go_wp2_with fail
        refine (bIs (c := d7) S7 D10).mono ?_
        rintro e w11 ⟨rfl, b11⟩
        have B11 := below_step B10 b11
        have C11 := below_step C10 b11
        have P0 := P0.step b11
        have P1 := P1.step b11
        have D1 := D1.step b11
        have D2 := D2.step b11
        have P5 := P5.step b11
        have P6 := P6.step b11
        have S7 := S7.step b11
        have T7 := T7.step b11
        have D10 := D10.step b11
        clear S7 D10
        clear D1 D2
        clear P0 P1 P5 P6
        go_wp2_with fail
        have HT := Lib.hid T7
        go_loopw [13] (fun j wr => ∃ i : Nat, i ≤ q7 ∧ j = .int .i64 i ∧ Turned wr _ (.slice X7 q7 d7) q7 ∧ w11.grownBy wr (Value.slice X7 q7 d7).ownBlock) (fun j _ => q7 - (intOf j).toNat)
        case atStart => exact ⟨0, Nat.zero_le _, rfl, HT.out, World.grownBy.refl _ _⟩
        case round =>
          obtain ⟨i, hi, rfl, hT, hgr⟩ := hrel
          by_cases hlt : i < q7
          · obtain ⟨g, cc, x, hv3, hg, hxl, hcell, hfz, hnew⟩ := hT.at_ hlt
            injection hv3 with hX _ hd
            subst hX
            subst hd
            have hnew2 := hnew (x ^^^ 5) (xor5_lt x hxl)
            rw [← xor5 x hxl] at hnew2
            have Hn := Lib.hid hnew2
            clear hnew hnew2 hT HT
            go_wp2_with fail
            go_roundw
            case rel => exact ⟨i + 1, by omega, by go_num, Hn.out, grown_set hgr rfl _ _⟩
            case measure => simp [intOf]; omega
          · clear hT HT
            have Bw := grown_below (w0 := w) T7 hgr B11 B06.size
            have hgr1 := hgr
            clear hgr
            obtain ⟨wm, hwm⟩ : ∃ wm : World, wm = wr := ⟨_, rfl⟩
            subst hwm
            go_wp2_with fail
            go_loopw [14] (fun j wr => j = .int .i64 0 ∧ wm = wr) (fun _ _ => 0)
            case atStart => exact ⟨rfl, rfl⟩
            case round =>
              obtain ⟨rfl, rfl⟩ := hrel
              have Bw2 := Bw
              have B6w : Below w6.heap.size w6 wm := grown_below (w0 := w6) T7 hgr1 C11 (Nat.le_refl _)
              have Q5 := P05.step B6w
              have Q6 := P06.step B6w
              have Q0 := P00.step B6w
              have Q1 := P01.step B6w
              go_wp2_with fail
              refine (bSameRow (c := d5) (c2 := c0) Q5 Q0).mono ?_
              rintro e w21 ⟨rfl, b21⟩
              have B21 := below_step Bw2 b21
              have Q5 := Q5.step b21
              have Q6 := Q6.step b21
              have Q0 := Q0.step b21
              have Q1 := Q1.step b21
              go_wp2_with fail
              refine (bSameRow (c := d6) (c2 := c1) Q6 Q1).mono ?_
              rintro e w22 ⟨rfl, b22⟩
              have B22 := below_step B21 b22
              have Q5 := Q5.step b22
              have Q6 := Q6.step b22
              have Q0 := Q0.step b22
              have Q1 := Q1.step b22
              go_wp2_with fail
              refine (natWorks_any _).mono ?_
              rintro e w23 ⟨rfl, b23⟩
              have B23 := below_step B22 b23
              go_wp2_with fail
              go_ret
              exact ⟨rfl, B23⟩

      · by_cases h2 : natOf l1 < natOf l0
        · skip
          go_enter Try.func4, Try.ntmps4
          go_wp2_with fail
          refine (vast_no _ _ _ _ (by omega)).mono ?_
          rintro e w1 ⟨rfl, rfl⟩
          go_wp2_with fail
          refine (vast_no _ _ _ _ (by omega)).mono ?_
          rintro e w2 ⟨rfl, rfl⟩
          go_wp2_with fail
          refine (bDigits (c := c0) P0.in_).mono ?_
          rintro e w1 ⟨X1, n1, d1, rfl, D1, b1⟩
          have B1 := b1
          have P0 := P0.step b1
          have P1 := P1.step b1
          go_wp2_with fail
          refine (bDigits (c := c1) P1.in_).mono ?_
          rintro e w2 ⟨X2, n2, d2, rfl, D2, b2⟩
          have B2 := below_step B1 b2
          have P0 := P0.step b2
          have P1 := P1.step b2
          have D1 := D1.step b2
          go_wp2_with fail
          refine (bLess_no D1 D2 h1).mono ?_
          rintro e w3 ⟨rfl, b3⟩
          have B3 := below_step B2 b3
          have P0 := P0.step b3
          have P1 := P1.step b3
          have D1 := D1.step b3
          have D2 := D2.step b3
          go_wp2_with fail
          refine (bLess_yes D2 D1 h2).mono ?_
          rintro e w4 ⟨rfl, b4⟩
          have B4 := below_step B3 b4
          have P0 := P0.step b4
          have P1 := P1.step b4
          have D1 := D1.step b4
          have D2 := D2.step b4
          go_wp2_with fail
          refine (bCopy (c := c0) P0).mono ?_
          rintro e w5 ⟨X5, d5, rfl, P5, b5⟩
          have B5 := below_step B4 b5
          have P0 := P0.step b5
          have P1 := P1.step b5
          have D1 := D1.step b5
          have D2 := D2.step b5
          go_wp2_with fail
          refine (bCopy (c := c1) P1).mono ?_
          rintro e w6 ⟨X6, d6, rfl, P6, b6⟩
          have B6 := below_step B5 b6
          have P0 := P0.step b6
          have P1 := P1.step b6
          have D1 := D1.step b6
          have D2 := D2.step b6
          have P5 := P5.step b6
          have P05 := P5
          have P06 := P6
          have P00 := P0
          have P01 := P1
          have B06 := B6
          go_wp2_with fail
          refine (bAdd (c := d5) (c2 := d6) P5.in_ P6.in_ (by omega)).mono ?_
          rintro e w7 ⟨X7, q7, d7, rfl, S7, T7, b7⟩
          have B7 := below_step B6 b7
          have C7 := b7
          have P0 := P0.step b7
          have P1 := P1.step b7
          have D1 := D1.step b7
          have D2 := D2.step b7
          have P5 := P5.step b7
          have P6 := P6.step b7
          have T07 := T7
          have hq7 := S7.2.1
          go_wp2_with fail
          refine (bSub_yes (c := d5) (c2 := d6) P5.in_ P6.in_ (by omega)).mono ?_
          rintro e w8 ⟨X8, q8, d8, rfl, S8, T8, b8⟩
          have B8 := below_step B7 b8
          have C8 := below_step C7 b8
          have P0 := P0.step b8
          have P1 := P1.step b8
          have D1 := D1.step b8
          have D2 := D2.step b8
          have P5 := P5.step b8
          have P6 := P6.step b8
          have S7 := S7.step b8
          have T7 := T7.step b8
          have hq8 := S8.2.1
          have hcmp : cmpS (natOf l0) (natOf l1) = 1 := by unfold cmpS; rw [if_neg h1, if_pos h2]
          have hC := bCmp (c := d5) (c2 := d6) P5.in_ P6.in_
          rw [hcmp] at hC
          have HC := Lib.hid hC
          clear hC hcmp
          go_wp2_with fail
          refine (HC.out).mono ?_
          rintro e w9 ⟨rfl, b9⟩
          have B9 := below_step B8 b9
          have C9 := below_step C8 b9
          have P0 := P0.step b9
          have P1 := P1.step b9
          have D1 := D1.step b9
          have D2 := D2.step b9
          have P5 := P5.step b9
          have P6 := P6.step b9
          have S7 := S7.step b9
          have T7 := T7.step b9
          have S8 := S8.step b9
          have T8 := T8.step b9
          clear HC
          obtain ⟨hn1, hn1d, hn1b, _⟩ := id D1
          obtain ⟨hn2, hn2d, hn2b, _⟩ := id D2
          have hnn : n1 + n2 ≤ 4000000 := by have := P0.in_.bits; have := P1.in_.bits; omega
          clear hn1 hn2 hn1d hn2d hn1b hn2b
          go_wp2_with fail
          refine (bSum D1 D2 hnn).mono ?_
          rintro e w10 ⟨X10, n10, d10, rfl, D10, b10⟩
          have B10 := below_step B9 b10
          have C10 := below_step C9 b10
          have P0 := P0.step b10
          have P1 := P1.step b10
          have D1 := D1.step b10
          have D2 := D2.step b10
          have P5 := P5.step b10
          have P6 := P6.step b10
          have S7 := S7.step b10
          have T7 := T7.step b10
          have S8 := S8.step b10
          have T8 := T8.step b10
          go_wp2_with fail
          refine (bIs (c := d7) S7 D10).mono ?_
          rintro e w11 ⟨rfl, b11⟩
          have B11 := below_step B10 b11
          have C11 := below_step C10 b11
          have P0 := P0.step b11
          have P1 := P1.step b11
          have D1 := D1.step b11
          have D2 := D2.step b11
          have P5 := P5.step b11
          have P6 := P6.step b11
          have S7 := S7.step b11
          have T7 := T7.step b11
          have S8 := S8.step b11
          have T8 := T8.step b11
          have D10 := D10.step b11
          clear S7 D10
          go_wp2_with fail
          refine (bRest D1 D2 (by omega)).mono ?_
          rintro e w12 ⟨X12, n12, d12, rfl, D12, b12⟩
          have B12 := below_step B11 b12
          have C12 := below_step C11 b12
          have P0 := P0.step b12
          have P1 := P1.step b12
          have D1 := D1.step b12
          have D2 := D2.step b12
          have P5 := P5.step b12
          have P6 := P6.step b12
          have T7 := T7.step b12
          have S8 := S8.step b12
          have T8 := T8.step b12
          go_wp2_with fail
          refine (bIs (c := d8) S8 D12).mono ?_
          rintro e w13 ⟨rfl, b13⟩
          have B13 := below_step B12 b13
          have C13 := below_step C12 b13
          have P0 := P0.step b13
          have P1 := P1.step b13
          have D1 := D1.step b13
          have D2 := D2.step b13
          have P5 := P5.step b13
          have P6 := P6.step b13
          have T7 := T7.step b13
          have S8 := S8.step b13
          have T8 := T8.step b13
          have D12 := D12.step b13
          clear S8 D12
          clear D1 D2
          clear P0 P1 P5 P6
          go_wp2_with fail
          have HT := Lib.hid T7
          go_loopw [13] (fun j wr => ∃ i : Nat, i ≤ q7 ∧ j = .int .i64 i ∧ Turned wr _ (.slice X7 q7 d7) q7 ∧ w13.grownBy wr (Value.slice X7 q7 d7).ownBlock) (fun j _ => q7 - (intOf j).toNat)
          case atStart => exact ⟨0, Nat.zero_le _, rfl, HT.out, World.grownBy.refl _ _⟩
          case round =>
            obtain ⟨i, hi, rfl, hT, hgr⟩ := hrel
            by_cases hlt : i < q7
            · obtain ⟨g, cc, x, hv3, hg, hxl, hcell, hfz, hnew⟩ := hT.at_ hlt
              injection hv3 with hX _ hd
              subst hX
              subst hd
              have hnew2 := hnew (x ^^^ 5) (xor5_lt x hxl)
              rw [← xor5 x hxl] at hnew2
              have Hn := Lib.hid hnew2
              clear hnew hnew2 hT HT
              go_wp2_with fail
              go_roundw
              case rel => exact ⟨i + 1, by omega, by go_num, Hn.out, grown_set hgr rfl _ _⟩
              case measure => simp [intOf]; omega
            · clear hT HT
              have Bw := grown_below (w0 := w) T7 hgr B13 B06.size
              have T8 := T8.beside hgr fun g hg => (T07.lt g hg).2
              have hgr1 := hgr
              clear hgr
              obtain ⟨wm, hwm⟩ : ∃ wm : World, wm = wr := ⟨_, rfl⟩
              subst hwm
              go_wp2_with fail
              have HT := Lib.hid T8
              go_loopw [14] (fun j wr => ∃ i : Nat, i ≤ q8 ∧ j = .int .i64 i ∧ Turned wr _ (.slice X8 q8 d8) q8 ∧ wm.grownBy wr (Value.slice X8 q8 d8).ownBlock) (fun j _ => q8 - (intOf j).toNat)
              case atStart => exact ⟨0, Nat.zero_le _, rfl, HT.out, World.grownBy.refl _ _⟩
              case round =>
                obtain ⟨i, hi, rfl, hT, hgr⟩ := hrel
                by_cases hlt : i < q8
                · obtain ⟨g, cc, x, hv3, hg, hxl, hcell, hfz, hnew⟩ := hT.at_ hlt
                  injection hv3 with hX _ hd
                  subst hX
                  subst hd
                  have hnew2 := hnew (x ^^^ 5) (xor5_lt x hxl)
                  rw [← xor5 x hxl] at hnew2
                  have Hn := Lib.hid hnew2
                  clear hnew hnew2 hT HT
                  go_wp2_with fail
                  go_roundw
                  case rel => exact ⟨i + 1, by omega, by go_num, Hn.out, grown_set hgr rfl _ _⟩
                  case measure => simp [intOf]; omega
                · clear hT HT
                  have Bw2 := grown_below (w0 := w) T8 hgr Bw (Nat.le_trans B06.size C7.size)
                  have B6w : Below w6.heap.size w6 wr := grown_below (w0 := w6) T8 hgr (grown_below (w0 := w6) T7 hgr1 C13 (Nat.le_refl _)) C7.size
                  have Q5 := P05.step B6w
                  have Q6 := P06.step B6w
                  have Q0 := P00.step B6w
                  have Q1 := P01.step B6w
                  go_wp2_with fail
                  refine (bSameRow (c := d5) (c2 := c0) Q5 Q0).mono ?_
                  rintro e w21 ⟨rfl, b21⟩
                  have B21 := below_step Bw2 b21
                  have Q5 := Q5.step b21
                  have Q6 := Q6.step b21
                  have Q0 := Q0.step b21
                  have Q1 := Q1.step b21
                  go_wp2_with fail
                  refine (bSameRow (c := d6) (c2 := c1) Q6 Q1).mono ?_
                  rintro e w22 ⟨rfl, b22⟩
                  have B22 := below_step B21 b22
                  have Q5 := Q5.step b22
                  have Q6 := Q6.step b22
                  have Q0 := Q0.step b22
                  have Q1 := Q1.step b22
                  go_wp2_with fail
                  refine (natWorks_any _).mono ?_
                  rintro e w23 ⟨rfl, b23⟩
                  have B23 := below_step B22 b23
                  go_wp2_with fail
                  go_ret
                  exact ⟨rfl, B23⟩

        · skip
          go_enter Try.func4, Try.ntmps4
          go_wp2_with fail
          refine (vast_no _ _ _ _ (by omega)).mono ?_
          rintro e w1 ⟨rfl, rfl⟩
          go_wp2_with fail
          refine (vast_no _ _ _ _ (by omega)).mono ?_
          rintro e w2 ⟨rfl, rfl⟩
          go_wp2_with fail
          refine (bDigits (c := c0) P0.in_).mono ?_
          rintro e w1 ⟨X1, n1, d1, rfl, D1, b1⟩
          have B1 := b1
          have P0 := P0.step b1
          have P1 := P1.step b1
          go_wp2_with fail
          refine (bDigits (c := c1) P1.in_).mono ?_
          rintro e w2 ⟨X2, n2, d2, rfl, D2, b2⟩
          have B2 := below_step B1 b2
          have P0 := P0.step b2
          have P1 := P1.step b2
          have D1 := D1.step b2
          go_wp2_with fail
          refine (bLess_no D1 D2 h1).mono ?_
          rintro e w3 ⟨rfl, b3⟩
          have B3 := below_step B2 b3
          have P0 := P0.step b3
          have P1 := P1.step b3
          have D1 := D1.step b3
          have D2 := D2.step b3
          go_wp2_with fail
          refine (bLess_no D2 D1 h2).mono ?_
          rintro e w4 ⟨rfl, b4⟩
          have B4 := below_step B3 b4
          have P0 := P0.step b4
          have P1 := P1.step b4
          have D1 := D1.step b4
          have D2 := D2.step b4
          go_wp2_with fail
          refine (bCopy (c := c0) P0).mono ?_
          rintro e w5 ⟨X5, d5, rfl, P5, b5⟩
          have B5 := below_step B4 b5
          have P0 := P0.step b5
          have P1 := P1.step b5
          have D1 := D1.step b5
          have D2 := D2.step b5
          go_wp2_with fail
          refine (bCopy (c := c1) P1).mono ?_
          rintro e w6 ⟨X6, d6, rfl, P6, b6⟩
          have B6 := below_step B5 b6
          have P0 := P0.step b6
          have P1 := P1.step b6
          have D1 := D1.step b6
          have D2 := D2.step b6
          have P5 := P5.step b6
          have P05 := P5
          have P06 := P6
          have P00 := P0
          have P01 := P1
          have B06 := B6
          go_wp2_with fail
          refine (bAdd (c := d5) (c2 := d6) P5.in_ P6.in_ (by omega)).mono ?_
          rintro e w7 ⟨X7, q7, d7, rfl, S7, T7, b7⟩
          have B7 := below_step B6 b7
          have C7 := b7
          have P0 := P0.step b7
          have P1 := P1.step b7
          have D1 := D1.step b7
          have D2 := D2.step b7
          have P5 := P5.step b7
          have P6 := P6.step b7
          have T07 := T7
          have hq7 := S7.2.1
          go_wp2_with fail
          refine (bSub_yes (c := d5) (c2 := d6) P5.in_ P6.in_ (by omega)).mono ?_
          rintro e w8 ⟨X8, q8, d8, rfl, S8, T8, b8⟩
          have B8 := below_step B7 b8
          have C8 := below_step C7 b8
          have P0 := P0.step b8
          have P1 := P1.step b8
          have D1 := D1.step b8
          have D2 := D2.step b8
          have P5 := P5.step b8
          have P6 := P6.step b8
          have S7 := S7.step b8
          have T7 := T7.step b8
          have hq8 := S8.2.1
          have hcmp : cmpS (natOf l0) (natOf l1) = 0 := by unfold cmpS; rw [if_neg h1, if_neg h2]
          have hC := bCmp (c := d5) (c2 := d6) P5.in_ P6.in_
          rw [hcmp] at hC
          have HC := Lib.hid hC
          clear hC hcmp
          go_wp2_with fail
          refine (HC.out).mono ?_
          rintro e w9 ⟨rfl, b9⟩
          have B9 := below_step B8 b9
          have C9 := below_step C8 b9
          have P0 := P0.step b9
          have P1 := P1.step b9
          have D1 := D1.step b9
          have D2 := D2.step b9
          have P5 := P5.step b9
          have P6 := P6.step b9
          have S7 := S7.step b9
          have T7 := T7.step b9
          have S8 := S8.step b9
          have T8 := T8.step b9
          clear HC
          obtain ⟨hn1, hn1d, hn1b, _⟩ := id D1
          obtain ⟨hn2, hn2d, hn2b, _⟩ := id D2
          have hnn : n1 + n2 ≤ 4000000 := by have := P0.in_.bits; have := P1.in_.bits; omega
          clear hn1 hn2 hn1d hn2d hn1b hn2b
          go_wp2_with fail
          refine (bSum D1 D2 hnn).mono ?_
          rintro e w10 ⟨X10, n10, d10, rfl, D10, b10⟩
          have B10 := below_step B9 b10
          have C10 := below_step C9 b10
          have P0 := P0.step b10
          have P1 := P1.step b10
          have D1 := D1.step b10
          have D2 := D2.step b10
          have P5 := P5.step b10
          have P6 := P6.step b10
          have S7 := S7.step b10
          have T7 := T7.step b10
          have S8 := S8.step b10
          have T8 := T8.step b10
          go_wp2_with fail
          refine (bIs (c := d7) S7 D10).mono ?_
          rintro e w11 ⟨rfl, b11⟩
          have B11 := below_step B10 b11
          have C11 := below_step C10 b11
          have P0 := P0.step b11
          have P1 := P1.step b11
          have D1 := D1.step b11
          have D2 := D2.step b11
          have P5 := P5.step b11
          have P6 := P6.step b11
          have S7 := S7.step b11
          have T7 := T7.step b11
          have S8 := S8.step b11
          have T8 := T8.step b11
          have D10 := D10.step b11
          clear S7 D10
          go_wp2_with fail
          refine (bRest D1 D2 (by omega)).mono ?_
          rintro e w12 ⟨X12, n12, d12, rfl, D12, b12⟩
          have B12 := below_step B11 b12
          have C12 := below_step C11 b12
          have P0 := P0.step b12
          have P1 := P1.step b12
          have D1 := D1.step b12
          have D2 := D2.step b12
          have P5 := P5.step b12
          have P6 := P6.step b12
          have T7 := T7.step b12
          have S8 := S8.step b12
          have T8 := T8.step b12
          go_wp2_with fail
          refine (bIs (c := d8) S8 D12).mono ?_
          rintro e w13 ⟨rfl, b13⟩
          have B13 := below_step B12 b13
          have C13 := below_step C12 b13
          have P0 := P0.step b13
          have P1 := P1.step b13
          have D1 := D1.step b13
          have D2 := D2.step b13
          have P5 := P5.step b13
          have P6 := P6.step b13
          have T7 := T7.step b13
          have S8 := S8.step b13
          have T8 := T8.step b13
          have D12 := D12.step b13
          clear S8 D12
          clear D1 D2
          clear P0 P1 P5 P6
          go_wp2_with fail
          have HT := Lib.hid T7
          go_loopw [13] (fun j wr => ∃ i : Nat, i ≤ q7 ∧ j = .int .i64 i ∧ Turned wr _ (.slice X7 q7 d7) q7 ∧ w13.grownBy wr (Value.slice X7 q7 d7).ownBlock) (fun j _ => q7 - (intOf j).toNat)
          case atStart => exact ⟨0, Nat.zero_le _, rfl, HT.out, World.grownBy.refl _ _⟩
          case round =>
            obtain ⟨i, hi, rfl, hT, hgr⟩ := hrel
            by_cases hlt : i < q7
            · obtain ⟨g, cc, x, hv3, hg, hxl, hcell, hfz, hnew⟩ := hT.at_ hlt
              injection hv3 with hX _ hd
              subst hX
              subst hd
              have hnew2 := hnew (x ^^^ 5) (xor5_lt x hxl)
              rw [← xor5 x hxl] at hnew2
              have Hn := Lib.hid hnew2
              clear hnew hnew2 hT HT
              go_wp2_with fail
              go_roundw
              case rel => exact ⟨i + 1, by omega, by go_num, Hn.out, grown_set hgr rfl _ _⟩
              case measure => simp [intOf]; omega
            · clear hT HT
              have Bw := grown_below (w0 := w) T7 hgr B13 B06.size
              have T8 := T8.beside hgr fun g hg => (T07.lt g hg).2
              have hgr1 := hgr
              clear hgr
              obtain ⟨wm, hwm⟩ : ∃ wm : World, wm = wr := ⟨_, rfl⟩
              subst hwm
              go_wp2_with fail
              have HT := Lib.hid T8
              go_loopw [14] (fun j wr => ∃ i : Nat, i ≤ q8 ∧ j = .int .i64 i ∧ Turned wr _ (.slice X8 q8 d8) q8 ∧ wm.grownBy wr (Value.slice X8 q8 d8).ownBlock) (fun j _ => q8 - (intOf j).toNat)
              case atStart => exact ⟨0, Nat.zero_le _, rfl, HT.out, World.grownBy.refl _ _⟩
              case round =>
                obtain ⟨i, hi, rfl, hT, hgr⟩ := hrel
                by_cases hlt : i < q8
                · obtain ⟨g, cc, x, hv3, hg, hxl, hcell, hfz, hnew⟩ := hT.at_ hlt
                  injection hv3 with hX _ hd
                  subst hX
                  subst hd
                  have hnew2 := hnew (x ^^^ 5) (xor5_lt x hxl)
                  rw [← xor5 x hxl] at hnew2
                  have Hn := Lib.hid hnew2
                  clear hnew hnew2 hT HT
                  go_wp2_with fail
                  go_roundw
                  case rel => exact ⟨i + 1, by omega, by go_num, Hn.out, grown_set hgr rfl _ _⟩
                  case measure => simp [intOf]; omega
                · clear hT HT
                  have Bw2 := grown_below (w0 := w) T8 hgr Bw (Nat.le_trans B06.size C7.size)
                  have B6w : Below w6.heap.size w6 wr := grown_below (w0 := w6) T8 hgr (grown_below (w0 := w6) T7 hgr1 C13 (Nat.le_refl _)) C7.size
                  have Q5 := P05.step B6w
                  have Q6 := P06.step B6w
                  have Q0 := P00.step B6w
                  have Q1 := P01.step B6w
                  go_wp2_with fail
                  refine (bSameRow (c := d5) (c2 := c0) Q5 Q0).mono ?_
                  rintro e w21 ⟨rfl, b21⟩
                  have B21 := below_step Bw2 b21
                  have Q5 := Q5.step b21
                  have Q6 := Q6.step b21
                  have Q0 := Q0.step b21
                  have Q1 := Q1.step b21
                  go_wp2_with fail
                  refine (bSameRow (c := d6) (c2 := c1) Q6 Q1).mono ?_
                  rintro e w22 ⟨rfl, b22⟩
                  have B22 := below_step B21 b22
                  have Q5 := Q5.step b22
                  have Q6 := Q6.step b22
                  have Q0 := Q0.step b22
                  have Q1 := Q1.step b22
                  go_wp2_with fail
                  refine (natWorks_any _).mono ?_
                  rintro e w23 ⟨rfl, b23⟩
                  have B23 := below_step B22 b23
                  go_wp2_with fail
                  go_ret
                  exact ⟨rfl, B23⟩

end Go.Proofs.Ytnhoooadnpdnmaa

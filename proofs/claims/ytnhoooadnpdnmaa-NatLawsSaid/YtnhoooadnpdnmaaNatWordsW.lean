/- NatWords' walk: it answers true, and writes nothing that was there. No condition but what the arguments' types give. -/
import Derived.Test.YtnhoooadnpdnmaaNatWorks
namespace Go.Proofs.Ytnhoooadnpdnmaa
open Go.RowKit

theorem vast_yes (A : Option Addr) (n c : Nat) (w : World) (h : 40 < n) : Calls Try.prog 9 #[.slice A n c] w fun e w' => e = .returned (.bool true) ∧ w = w' := by
  go_enter Try.func9, Try.ntmps9
  go_wp2_with fail
  go_ret
  exact ⟨by simp; omega, rfl⟩
theorem vast_no (A : Option Addr) (n c : Nat) (w : World) (h : n ≤ 40) : Calls Try.prog 9 #[.slice A n c] w fun e w' => e = .returned (.bool false) ∧ w = w' := by
  go_enter Try.func9, Try.ntmps9
  go_wp2_with fail
  go_ret
  exact ⟨by simp; omega, rfl⟩

/-- Words of the call's own, whatever they are by now. -/
def Turned (w : World) (base : Nat) (v : Value) (n : Nat) : Prop := ∃ l : List Nat, l.length = n ∧ Words l ∧ w.ownsRow base 24 1 v n (ints .u64 l)
theorem Turned.at_ {w : World} {base n i : Nat} {v : Value} (h : Turned w base v n) (hi : i < n) : ∃ (g c x : Nat), v = .slice (some ⟨g, 0, none⟩) n c ∧ base ≤ g ∧ x < 18446744073709551616 ∧ w.cell? ⟨g, i, none⟩ = some (.int .u64 (x : Int)) ∧ w.frozen? ⟨g, i, none⟩ = false ∧
    ∀ y : Nat, y < 18446744073709551616 → Turned (w.setCell ⟨g, i, none⟩ (.int .u64 (y : Int))) base v n := by
  obtain ⟨l, hl, hw, own⟩ := h
  obtain ⟨g, c, rfl, hg, _⟩ := own_pos2 own (by omega)
  refine ⟨g, c, nth l i, rfl, hg, hw _ (nth_mem l i (by omega)), ?_, own.frozenAt _, fun y hy => ?_⟩
  · rw [own.cellAt _ (by omega), ints_get _ _ _ (by omega)]
  · have hst := own.stored i (.int .u64 (y : Int))
    rw [ints_set] at hst
    refine ⟨l.set i y, by simp [hl], fun x hx => ?_, hst.1⟩
    rcases mem_set hx with rfl | h
    · exact hy
    · exact hw x h
theorem xor5 (x : Nat) (hx : x < 18446744073709551616) : bits .xor .u64 (x : Int) 5 = ((x ^^^ 5 : Nat) : Int) := u64_xor_nat x 5 hx (by omega)
theorem xor5_lt (x : Nat) (hx : x < 18446744073709551616) : x ^^^ 5 < 18446744073709551616 := Nat.xor_lt_two_pow (n := 64) hx (by omega)

set_option maxHeartbeats 1000000 in
set_option maxRecDepth 100000 in
theorem natWords_walk (A0 : Option Addr) (c0 : Nat) (l0 : List Nat) (a1 : Int) (w : World) (r0 : Rd .u64 w w.heap.size A0 l0) (y0 : Words l0) (_z0 : l0.length * 8 ≤ 140737488351232) (_u0 : l0.length ≤ c0) (w1 : (Lit.int .u64 a1).wf = true) :
    Calls Try.prog 3 #[.slice A0 l0.length c0, .int .u64 a1] w fun e w' => e = .returned (.bool true) ∧ Below w.heap.size w w' := by
  have hx : 0 ≤ a1 ∧ a1 ≤ 18446744073709551615 := by simpa [Lit.wf, IntKind.min, IntKind.max, IntKind.signed, IntKind.bits] using w1
  obtain ⟨n, rfl⟩ := Int.eq_ofNat_of_zero_le hx.1
  obtain ⟨_, n2⟩ := hx
  clear w1
  by_cases hv : 40 < l0.length
  · go_enter Try.func3, Try.ntmps3
    go_wp2_with fail
    refine (vast_yes _ _ _ _ hv).mono ?_
    rintro e w1 ⟨rfl, rfl⟩
    go_wp2_with fail
    refine (natWorks_any _).mono ?_
    rintro e w1 ⟨rfl, b1⟩
    go_wp2_with fail
    go_ret
    exact ⟨rfl, b1⟩
  · have hnb := nbits_natOf l0 y0
    obtain ⟨N, hN⟩ : ∃ N, N = natOf l0 := ⟨_, rfl⟩
    rw [← hN] at hnb
    have HN := Lib.hid hN
    clear hN
    go_enter Try.func3, Try.ntmps3
    go_wp2_with fail
    refine (vast_no _ _ _ _ (by omega)).mono ?_
    rintro e w1 ⟨rfl, rfl⟩
    go_wp2_with fail
    refine (digits_any A0 c0 l0 w r0 y0 (by omega)).mono ?_
    rw [← HN.out]
    rintro e w1 ⟨X1, d1, rfl, hd1, R1, b1⟩
    have Q0 := rd_step r0 b1
    go_wp2_with fail
    refine (copy02_any A0 c0 l0 w1 Q0 (by omega)).mono ?_
    rintro e w2 ⟨v2, rfl, own2, b2⟩
    obtain ⟨X2, d2, rfl, hd2, _⟩ := own_form own2
    have R2 := Rd.own own2
    have B2 := below_step b1 b2
    have R1 := rd_step R1 b2
    have Q0 := rd_step Q0 b2
    clear own2
    go_wp2_with fail
    refine (natTrim_any X2 d2 l0 w2 R2 y0 (by omega) hd2).mono ?_
    rw [← HN.out]
    rintro e w3 ⟨v3, rfl, own3, b3⟩
    obtain ⟨q, hq⟩ : ∃ q, q = (nbits N + 63) / 64 := ⟨_, rfl⟩
    rw [← hq] at own3
    have hq40 : q ≤ 40 := by omega
    have hwq : (wd N).length = q := by rw [length_wd, hq]
    have Hwq := Lib.hid hwq
    clear hq hwq
    have T3 : Turned w3 w2.heap.size v3 q := ⟨wd N, Hwq.out, wd_words N, own3⟩
    obtain ⟨X3, d3, rfl, _⟩ := own_form own3
    have R3 := Rd.own own3
    have B3 := below_step B2 b3
    have R1 := rd_step R1 b3
    have R2' := rd_step R2 b3
    have Q0 := rd_step Q0 b3
    clear own3
    go_wp2_with fail
    refine (natSmall_any X2 d2 l0 w3 R2' y0 (by omega) hd2).mono ?_
    rw [← HN.out]
    rintro e w4 ⟨rfl, b4⟩
    have B4 := below_step B3 b4
    have R1 := rd_step R1 b4
    have R3 := rd_step R3 b4
    have R2' := rd_step R2' b4
    have Q0 := rd_step Q0 b4
    go_wp2_with fail
    refine (small02_any A0 c0 l0 w4 Q0 y0 (by omega)).mono ?_
    rw [← HN.out]
    rintro e w5 ⟨rfl, b5⟩
    have B5 := below_step B4 b5
    have R1 := rd_step R1 b5
    have R3 := rd_step R3 b5
    have R2' := rd_step R2' b5
    have Q0 := rd_step Q0 b5
    have b35 := below_step b4 b5
    go_wp2_with fail
    refine (is_true X3 X1 q d3 d1 N w5 Hwq.out R3 R1 (by omega) hd1).mono ?_
    rintro e w6 ⟨rfl, b6⟩
    have B6 := below_step B5 b6
    have R1 := rd_step R1 b6
    have R2' := rd_step R2' b6
    have Q0 := rd_step Q0 b6
    have b36 := below_step b35 b6
    go_wp2_with fail
    refine (natMay_any X2 d2 l0 w6 R2' y0 (by omega) hd2).mono ?_
    rw [← HN.out]
    rintro e w7 ⟨rfl, b7⟩
    obtain ⟨may, hmay⟩ : ∃ may, may = decide (l0 = wd N) := ⟨_, rfl⟩
    rw [← hmay]
    have Hmay := Lib.hid hmay
    clear hmay
    have B7 := below_step B6 b7
    have R1 := rd_step R1 b7
    have R2' := rd_step R2' b7
    have Q0 := rd_step Q0 b7
    have b37 := below_step b36 b7
    go_wp2_with fail
    refine (isN_any A0 X1 c0 d1 l0 N w7 Q0 R1 (by omega) (by omega) hd1).mono ?_
    rintro e w8 ⟨rfl, b8⟩
    rw [← Hmay.out]
    have B8 := below_step B7 b8
    have R2' := rd_step R2' b8
    have Q0 := rd_step Q0 b8
    have b38 := below_step b37 b8
    go_wp2_with fail
    refine (same_true X2 A0 _ _ c0 l0 w8 rfl R2' Q0 (by omega)).mono ?_
    rintro e w9 ⟨rfl, b9⟩
    have B9 := below_step B8 b9
    have b39 := below_step b38 b9
    have T9 : Turned w9 w2.heap.size (.slice X3 q d3) q := by
      obtain ⟨l, h1, h2, h3⟩ := T3
      refine ⟨l, h1, h2, h3.kept (row := none) ⟨b39.os, b39.tape, b39.output, b39.size, fun i hi _ => b39.block i hi⟩ ?_⟩
      rcases X3 with _ | x
      · exact .inl rfl
      · exact .inr (by simp [Value.ownBlock])
    have b29 : Below w2.heap.size w2 w9 := below_step b3 b39
    have R2 := R2.below b29
    have HT9 := Lib.hid T9
    clear T3 T9 R2' R1 R3
    go_wp2_with fail
    go_loopw [12] (fun j wr => ∃ i : Nat, i ≤ q ∧ j = .int .i64 i ∧ Turned wr w2.heap.size (.slice X3 q d3) q ∧ Below w2.heap.size w9 wr) (fun j _ => q - (intOf j).toNat)
    case atStart => exact ⟨0, Nat.zero_le _, rfl, HT9.out, Below.refl _ _⟩
    case round =>
      obtain ⟨i, hi, rfl, hT, hbr⟩ := hrel
      by_cases hlt : i < q
      · obtain ⟨g, cc, x, hv3, hg, hxl, hcell, hfz, hnew⟩ := hT.at_ hlt
        injection hv3 with hX _ hd
        subst hX
        subst hd
        have hnew2 := hnew (x ^^^ 5) (xor5_lt x hxl)
        rw [← xor5 x hxl] at hnew2
        have Hn := Lib.hid hnew2
        clear hnew hnew2 hT
        go_wp2_with fail
        go_roundw
        case rel => exact ⟨i + 1, by omega, by go_num, Hn.out, hbr.setCell hg _⟩
        case measure => simp [intOf]; omega
      · have B10 : Below w.heap.size w wr := B9.trans (hbr.mono B2.size)
        have R2 := (R2.below hbr).more (Nat.le_trans b29.size hbr.size)
        have Q0 := (r0.below B10).more B10.size
        clear hT
        go_wp2_with fail
        refine (same_true X2 A0 _ _ c0 l0 wr rfl R2 Q0 (by omega)).mono ?_
        rintro e w11 ⟨rfl, b11⟩
        have B11 := below_step B10 b11
        go_wp2_with fail
        refine (natOf_any n w11 (by omega)).mono ?_
        rintro e w12 ⟨v12, rfl, own12, b12⟩
        obtain ⟨X12, d12, rfl, _⟩ := own_form own12
        have R12 := Rd.own own12
        have B12 := below_step B11 b12
        clear own12
        go_wp2_with fail
        refine (of02_any n w12 (by omega)).mono ?_
        rintro e w13 ⟨v13, rfl, own13, b13⟩
        obtain ⟨X13, d13, rfl, _⟩ := own_form own13
        have R13 := Rd.own own13
        have B13 := below_step B12 b13
        have R12 := rd_step R12 b13
        have hn64 : nbits n ≤ 64 := nbits_of_lt n 64 (by omega)
        clear own13
        go_wp2_with fail
        refine (same_true X12 X13 _ d12 d13 (wd n) w13 (length_wd n) R12 R13 (by omega)).mono ?_
        rintro e w14 ⟨rfl, b14⟩
        have B14 := below_step B13 b14
        clear R12 R13
        go_wp2_with fail
        refine (natWorks_any _).mono ?_
        rintro e w15 ⟨rfl, b15⟩
        go_wp2_with fail
        go_ret
        exact ⟨rfl, below_step B14 b15⟩
end Go.Proofs.Ytnhoooadnpdnmaa

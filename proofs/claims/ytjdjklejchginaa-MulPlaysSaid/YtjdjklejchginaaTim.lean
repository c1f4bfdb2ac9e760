/- The contract of the document's Times: the product of two numbers to the base 2. Conditions: as typed (lengths that fit a machine). -/
import Derived.Test.YtjdjklejchginaaTimM
import Derived.Test.YtjdjklejchginaaN4
namespace Go.Proofs.Ytjdjklejchginaa
open Go.RowKit

theorem num_info_int : (Try.prog.info? 3).map (fun i => (i.zero, i.size, i.bytes)) = some (some (.int .i64 0), 1, 8) := by kernel_rfl
theorem make_cols (m : Nat) (u : World) (hm : m ≤ 10000000) : (Instr.makeSlice 49 (.int .i64 (m : Int)) (.int .i64 (m : Int))).run Try.prog u =
      .ok (.slice (some ⟨u.heap.size, 0, none⟩) m m) (u.alloc (.cells (List.replicate m (Value.int .i64 0)).toArray 3)) := by
  obtain ⟨i0, hi, hz0, hz1, hz2⟩ := info_parts num_info_int
  have h := run_make (P := Try.prog) u 49 3 i0 (.int .i64 0) Try.underlying49 hi hz0 .i64 .i64 (m : Int) (m : Int) (by omega) (by omega) (by rw [hz2]; omega) (by omega)
  rw [Int.toNat_natCast, hz1, Nat.mul_one] at h
  rw [h, ← toList_madeCells_one]
  rfl
theorem cols_new (w : World) (m : Nat) (hm : m ≤ 10000000) : (w.alloc (.cells (Array.replicate m (Value.int .i64 0)) 3)).ownsRow w.heap.size 3 1 (.slice (some ⟨w.heap.size, 0, none⟩) m m) m (ints .i64 (List.replicate m 0)) :=
  own_of_heap (cur := List.replicate m (Value.int .i64 0)) (by have h := heap_alloc_new w (.cells (Array.replicate m (Value.int .i64 0)) 3); simpa using h) (Nat.le_refl _) (Nat.le_refl _) (by unfold maxLen; omega) (by simp) (by simp [ints])

set_option maxHeartbeats 2000000 in
theorem times02_any (A A2 : Option Addr) (c c2 M N : Nat) (w : World) (h1 : Rd .u8 w w.heap.size A (dg M)) (h2 : Rd .u8 w w.heap.size A2 (dg N)) (hm : nbits M ≤ 1000000) (hn : nbits N ≤ 1000000) :
    Calls Try.prog 15 #[.slice A (nbits M) c, .slice A2 (nbits N) c2] w (OutNum (M * N) w) := by
  obtain ⟨i0, hi, hz0, hz1, hz2⟩ := info_parts num_info_u8
  obtain ⟨L, hL⟩ : ∃ L, L = nbits M + nbits N := ⟨_, rfl⟩
  have HL := Lib.hid hL
  have hmk := fun u => make_cols L u (by omega)
  have hsum : (nbits M : Int) + (nbits N : Int) = (L : Int) := by omega
  have hL2 : L ≤ 2000000 := by omega
  clear hL
  go_enter Try.func15, Try.ntmps15
  go_wp2_with fail
  have hown0 := cols_new w L (by omega)
  obtain ⟨E, hE⟩ : ∃ E, w.alloc (.cells (Array.replicate L (Value.int .i64 0)) 3) = E := ⟨_, rfl⟩
  have hbE : Below w.heap.size w E := by rw [← hE]; exact (Below.refl _ w).alloc (Nat.le_refl _) _
  rw [hE] at hown0 ⊢
  have hC0 := Cols.start M N
  rw [← HL.out] at hC0
  clear hmk hE
  go_loopw [6] (fun v wr => ∃ (I : Nat) (cs : List Nat), I ≤ nbits M ∧ v = .int .i64 I ∧ Cols M N I 0 cs ∧ wr.ownsRow w.heap.size 3 1 (.slice (some ⟨w.heap.size, 0, none⟩) L L) L (ints .i64 cs) ∧ Below w.heap.size w wr) (fun v _ => nbits M - (intOf v).toNat)
  case atStart => exact ⟨0, _, Nat.zero_le _, rfl, hC0, hown0, hbE⟩
  case round =>
    obtain ⟨I, cs, hI, rfl, hC, hown, hb⟩ := hrel
    by_cases hlt : I < nbits M
    · obtain ⟨wo, hwo⟩ : ∃ wo : World, wo = wr := ⟨_, rfl⟩
      subst hwo
      obtain ⟨b1, o1, rfl, hb1, hcell1⟩ := h1 (by rw [length_dg]; omega)
      have hx1 := hcell1 I (by rw [length_dg]; exact hlt)
      rw [nth_dg_bit] at hx1
      have Hx1 := Lib.hid hx1
      have hbM := bit_lt M I
      clear hcell1 hx1 hC0 hown0 hbE
      go_wp2_with fail
      go_loopw [7] (fun v wr => ∃ (K : Nat) (cs : List Nat), K ≤ nbits N ∧ v = .int .i64 K ∧ Cols M N I K cs ∧ wr.ownsRow w.heap.size 3 1 (.slice (some ⟨w.heap.size, 0, none⟩) L L) L (ints .i64 cs) ∧ Below w.heap.size w wr) (fun v _ => nbits N - (intOf v).toNat)
      case atStart => exact ⟨0, _, Nat.zero_le _, rfl, hC, hown, hb⟩
      case round =>
        obtain ⟨K, cs2, hK, rfl, hC2, hown2, hb2⟩ := hrel
        have hxa : wr.cell? ⟨b1, o1 + I, none⟩ = some (.int .u8 (bit M I : Int)) := (hb2.cell (p := ⟨b1, o1 + I, none⟩) hb1).trans Hx1.out
        by_cases hkn : K < nbits N
        · by_cases h01 : bit M I = 1
          · rw [h01] at hxa
            obtain ⟨b2, o2, rfl, hbb2, hcell2⟩ := h2 (by rw [length_dg]; omega)
            have hx2 := hcell2 K (by rw [length_dg]; exact hkn)
            rw [nth_dg_bit] at hx2
            have hxb : wr.cell? ⟨b2, o2 + K, none⟩ = some (.int .u8 (bit N K : Int)) := (hb2.cell (p := ⟨b2, o2 + K, none⟩) hbb2).trans hx2
            have hll : cs2.length = L := by rw [hC2.len, HL.out]
            have hIK : I + K < L := by have := HL.out; omega
            have hst := hown2.stored (I + K) (.int .i64 ((nth cs2 (I + K) + bit N K : Nat) : Int))
            rw [ints_set] at hst
            have hco : wr.cell? ⟨w.heap.size, I + K, none⟩ = some (.int .i64 (nth cs2 (I + K) : Int)) := by rw [hown2.cellAt _ (by omega), ints_get _ _ _ (by omega)]
            have hfo : wr.frozen? ⟨w.heap.size, I + K, none⟩ = false := hown2.frozenAt _
            have hlow := hC2.low (I + K)
            have hbN := bit_lt N K
            have HC := Lib.hid (hC2.step h01 (by omega))
            have HO := Lib.hid hst.1
            clear hst hown2 hcell2 hx2 hC2 h01 hbM hll
            go_wp2_with fail
            go_region
            go_wp2_with fail
            rw [show (nth cs2 (I + K) : Int) + (bit N K : Int) = ((nth cs2 (I + K) + bit N K : Nat) : Int) from (Int.natCast_add _ _).symm]
            go_roundw
            case rel => exact ⟨K + 1, _, by omega, by go_num, HC.out, HO.out.drew, (hb2.setCell (p := ⟨w.heap.size, I + K, none⟩) (by simp) _).drew⟩
            case measure => simp [intOf]; omega
          · have hb0 : (((bit M I : Nat) : Int) == 1) = false := by simp; omega
            have HR := Lib.hid (hC2.row (.inl (by omega)))
            clear hC2 h01
            go_wp2_with fail
            go_roundw
            case rel => exact ⟨I + 1, _, by omega, by go_num, HR.out, hown2, hb2⟩
            case measure => simp [intOf]; omega
        · have HR := Lib.hid (hC2.row (.inr (by omega)))
          clear hC2
          go_wp2_with fail
          go_roundw
          case rel => exact ⟨I + 1, _, by omega, by go_num, HR.out, hown2, hb2⟩
          case measure => simp [intOf]; omega
    · obtain rfl : I = nbits M := by omega
      obtain ⟨wo, hwo⟩ : ∃ wo : World, wo = wr := ⟨_, rfl⟩
      subst hwo
      have hll : cs.length = L := by rw [hC.len, HL.out]
      have HV := Lib.hid hC.all
      have hCl := hC.low
      have HCl := Lib.hid hCl
      clear hC0 hown0 hbE hlt hC hCl
      go_wp2_with fail
      go_loopw [8, 9, 10] (fun v cy j wr => ∃ i : Nat, i ≤ L ∧ j = .int .i64 i ∧ cy = .int .i64 (colC cs i) ∧ wr.ownsRow wo.heap.size 5 1 v i (ints .u8 (bw i (M * N))) ∧ Below wo.heap.size wo wr) (fun _ _ j _ => L - (intOf j).toNat)
      case atStart => exact ⟨0, Nat.zero_le _, rfl, by rw [colC_zero]; rfl, World.ownsRow_nil _ _ _ _, Below.refl _ _⟩
      case round =>
        obtain ⟨i, hi9, rfl, rfl, hown3, hb3⟩ := hrel
        by_cases hlt : i < L
        · have hgs : w.heap.size < wo.heap.size := by have := (hown.lt w.heap.size rfl).2; exact this
          have hco : wr.cell? ⟨w.heap.size, i, none⟩ = some (.int .i64 (nth cs i : Int)) := by
            rw [hb3.cell (p := ⟨w.heap.size, i, none⟩) hgs, hown.cellAt _ (by omega), ints_get _ _ _ (by omega)]
          have hc1 := HCl.out i
          have hc2 := colC_le cs (nbits M + 1) i HCl.out
          have Hs1 := Lib.hid (col_bit cs i (by omega))
          have Hs2 := Lib.hid (colC_succ cs i (by omega))
          go_wp2_with (at_builtin; refine wpList_append_one _ rfl _ _ 27 rfl wo.heap.size 5 i0 (.int .u8 0) 1 Try.underlying27 hi hz0 hz1 hz2 rfl _ _ .u8 (bw i (M * N)) rfl hown3 _ (bit (M * N) i) ?c1 rfl ?c2 ?c3 ?c4 ?_)
          case c1 => rw [← HV.out, ← Hs1.out]; omega
          case c2 => unfold maxLen; omega
          case c3 => omega
          case c4 => exact hb3.size
          intro v2 w2 own2 _ b2
          rw [show bit (M * N) i = (M * N) / 2 ^ i % 2 from rfl, ← bw_snoc] at own2
          go_wp2_with fail
          go_roundw
          case rel => exact ⟨i + 1, by omega, by go_num, by rw [Hs2.out]; congr 1 <;> omega, own2, hb3.trans b2⟩
          case measure => simp [intOf]; omega
        · obtain rfl : i = L := by omega
          have hend := prod_lt M N
          rw [← HL.out] at hend
          have hnbS := nbits_of_lt _ _ hend
          obtain ⟨X, d, rfl, hd, _⟩ := own_form hown3
          have R1 := Rd.own hown3
          have T := numTrim_any X d (bw i (M * N)) wr R1 (bw_01 _ _) (by rw [length_bw]; omega) (by rw [length_bw]; exact hd)
          rw [length_bw, bv_bw, Nat.mod_eq_of_lt hend] at T
          have HT := Lib.hid T
          clear T R1 hown3 hend
          go_wp2_with fail
          refine (HT.out).mono ?_
          rintro e w1 ⟨Y, f, rfl, hf, R, b1⟩
          go_wp2_with fail
          go_ret
          exact ⟨Y, f, rfl, hf, R, (hb.trans (hb3.mono hb.size)).trans (b1.mono (Nat.le_trans hb.size hb3.size))⟩
end Go.Proofs.Ytjdjklejchginaa

/- Several texts in one; each begins with a remark that says what it shows and on which conditions. -/
import Derived.Test.YtjeliomjnalpcaaDoorKat
import Derived.Test.YtjeliomjnalpcaaDoorKau
import Derived.Test.YtjeliomjnalpcaaDoorKab
import Derived.Test.YtjeliomjnalpcaaDoorKag
/- The document's answer of chapter 6: a root, digit by digit. Conditions: as typed (lengths that fit a machine; a root of at least 1). -/
namespace Go.Proofs.YtjeliomjnalpcaaDoor
open Go.RowKit
set_option maxRecDepth 20000
theorem set_one6 (K V i : Nat) (hi : i < K) (hV : V % 2 ^ (i + 1) = 0) : (bw K V).set i 1 = bw K (V + 2 ^ i) := by
  have hp : 0 < 2 ^ i := Nat.pow_pos (by omega)
  refine ext_nth _ _ (by rw [List.length_set, length_bw, length_bw]) fun j hj => ?_
  rw [List.length_set, length_bw] at hj
  rw [nth_set _ _ _ _ (by rw [length_bw]; exact hi), nth_bw _ _ _ hj, nth_bw _ _ _ hj]
  obtain ⟨q, rfl⟩ : ∃ q, V = 2 ^ (i + 1) * q := ⟨V / 2 ^ (i + 1), by have := Nat.div_add_mod V (2 ^ (i + 1)); omega⟩
  rcases Nat.lt_trichotomy j i with h | h | h
  · rw [if_neg (by omega)]
    obtain ⟨d, rfl⟩ : ∃ d, i = j + 1 + d := ⟨i - j - 1, by omega⟩
    have e1 : 2 ^ (j + 1 + d + 1) * q = 2 ^ j * (2 * (2 ^ (d + 1) * q)) := by rw [show j + 1 + d + 1 = j + (1 + (d + 1)) by omega, Nat.pow_add, Nat.pow_add 2 1, Nat.pow_one]; simp only [Nat.mul_assoc]
    have e2 : 2 ^ (j + 1 + d) = 2 ^ j * (2 * 2 ^ d) := by rw [show j + 1 + d = j + (1 + d) by omega, Nat.pow_add, Nat.pow_add 2 1, Nat.pow_one]
    have hj2 : 0 < 2 ^ j := Nat.pow_pos (by omega)
    rw [e1, e2, ← Nat.mul_add, Nat.mul_div_cancel_left _ hj2, Nat.mul_div_cancel_left _ hj2]
    omega
  · subst h
    rw [if_pos rfl, Nat.pow_succ, Nat.mul_assoc]
    have e : 2 ^ j * (2 * q) + 2 ^ j = 2 ^ j * (2 * q + 1) := by rw [Nat.mul_add, Nat.mul_one]
    rw [e, Nat.mul_div_cancel_left _ hp]
    omega
  · rw [if_neg (by omega)]
    obtain ⟨d, rfl⟩ : ∃ d, j = i + 1 + d := ⟨j - i - 1, by omega⟩
    have hp1 : 0 < 2 ^ (i + 1) := Nat.pow_pos (by omega)
    have e3 : 2 ^ i < 2 ^ (i + 1) := Nat.pow_lt_pow_right (by omega) (by omega)
    rw [Nat.pow_add 2 (i + 1) d, ← Nat.div_div_eq_div_mul, ← Nat.div_div_eq_div_mul, Nat.mul_div_cancel_left _ hp1, Nat.mul_add_div hp1, Nat.div_eq_of_lt e3, Nat.add_zero]
theorem set_none6 (K V i : Nat) (hi : i < K) (hV : V % 2 ^ (i + 1) = 0) : (bw K (V + 2 ^ i)).set i 0 = bw K V := by
  rw [← set_one6 K V i hi hV, List.set_set]
  refine ext_nth _ _ (by simp) fun j hj => ?_
  rw [List.length_set, length_bw] at hj
  rw [nth_set _ _ _ _ (by rw [length_bw]; exact hi)]
  split
  · rename_i h
    subst h
    rw [nth_bw _ _ _ hj]
    obtain ⟨q, rfl⟩ : ∃ q, V = 2 ^ (j + 1) * q := ⟨V / 2 ^ (j + 1), by have := Nat.div_add_mod V (2 ^ (j + 1)); omega⟩
    rw [Nat.pow_succ, Nat.mul_assoc, Nat.mul_div_cancel_left _ (Nat.pow_pos (by omega))]
    omega
  · rfl
theorem bw_none (K : Nat) : bw K 0 = List.replicate K 0 := by
  induction K with
  | zero => rfl
  | succ K ih => rw [bw, Nat.zero_div, ih]; rfl
theorem make_num6 (m : Nat) (u : World) (hm : m ≤ 100000000) : (Instr.makeSlice 50 (.int .i64 (m : Int)) (.int .i64 (m : Int))).run Tryd.prog u =
      .ok (.slice (some ⟨u.heap.size, 0, none⟩) m m) (u.alloc (.cells (List.replicate m (Value.int .u8 0)).toArray 5)) := by
  obtain ⟨i0, hi, hz0, hz1, hz2⟩ := info_parts num_info_u8
  have h := run_make (P := Tryd.prog) u 50 5 i0 (.int .u8 0) Tryd.underlying50 hi hz0 .i64 .i64 (m : Int) (m : Int) (by omega) (by omega) (by rw [hz2]; omega) (by omega)
  rw [Int.toNat_natCast, hz1, Nat.mul_one] at h
  rw [h, ← toList_madeCells_one]
  rfl
theorem num_new6 (w : World) (m : Nat) (hm : m ≤ 100000000) : (w.alloc (.cells (Array.replicate m (Value.int .u8 0)) 5)).ownsRow w.heap.size 5 1 (.slice (some ⟨w.heap.size, 0, none⟩) m m) m (ints .u8 (bw m 0)) := by
  rw [bw_none]
  exact own_of_heap (cur := List.replicate m (Value.int .u8 0)) (by have h := heap_alloc_new w (.cells (Array.replicate m (Value.int .u8 0)) 5); simpa using h) (Nat.le_refl _) (Nat.le_refl _) (by unfold maxLen; omega) (by simp) (by simp [ints])
set_option maxHeartbeats 1000000 in
theorem power06 (A : Option Addr) (c N k : Nat) (w : World) (hr : Rd .u8 w w.heap.size A (dg N)) (hk : k ≤ 10) (hN : nbits N ≤ 20000) : Calls Tryd.prog 60 #[.slice A (nbits N) c, .int .i64 (k : Int)] w (OutNum (N ^ k) w) := by
  have one : Rd .u8 (w.alloc (.cells #[.int .u8 1] 5)) (w.heap.size + 1) (some ⟨w.heap.size, 0, none⟩) (dg (N ^ 0)) := by
    rw [Nat.pow_zero, dg_one]
    exact Rd.lit w .u8 5 [1]
  have hone : Hid (nbits (N ^ 0) = 1) := Lib.hid (by rw [Nat.pow_zero, nbits_one])
  go_enter Tryd.func60, Tryd.ntmps60
  go_wp2_with fail
  go_loopw [5, 6] (fun v j wr => ∃ (i : Nat) (Y : Option Addr) (f : Nat), i ≤ k ∧ j = .int .i64 i ∧ v = .slice Y (nbits (N ^ i)) f ∧ nbits (N ^ i) ≤ f ∧ Rd .u8 wr wr.heap.size Y (dg (N ^ i)) ∧ Below w.heap.size w wr) (fun _ j _ => k - (intOf j).toNat)
  case atStart => exact ⟨0, _, 1, Nat.zero_le _, rfl, by rw [hone.out], by rw [hone.out]; omega, one.more (by simp), (Below.refl _ _).alloc (Nat.le_refl _) _⟩
  case round =>
    obtain ⟨i, Y, f, hik, rfl, rfl, hf, RY, hb⟩ := hrel
    by_cases hik2 : i < k
    · have hpb : nbits (N ^ i) ≤ 200001 := by
        have h1 := nbits_pow N i
        have h3 : nbits N * i ≤ 20000 * 10 := Nat.mul_le_mul hN (by omega)
        omega
      have TT := times02_any Y A f c (N ^ i) N wr RY ((hr.below hb).more hb.size) (by omega) (by omega)
      rw [← Nat.pow_succ] at TT
      have HT := Lib.hid TT
      clear TT RY
      go_wp2_with fail
      refine (HT.out).mono ?_
      rintro e w2 ⟨Z, g, rfl, hg, RZ, b2⟩
      go_wp2_with fail
      go_roundw
      case rel => exact ⟨i + 1, Z, g, by omega, by go_num, rfl, hg, RZ, hb.trans (b2.mono hb.size)⟩
      case measure => simp [intOf]; omega
    · obtain rfl : i = k := by omega
      go_wp2_with fail
      go_ret
      exact ⟨Y, f, rfl, hf, RY, hb⟩
set_option maxHeartbeats 2000000 in
theorem root06 (A : Option Addr) (c : Nat) (a : List Nat) (k R : Nat) (w : World) (hr : Rd .u64 w w.heap.size A a) (hw : Words a) (hl : a.length ≤ 200) (hk : k ≤ 10) (hk0 : 0 < k) (hR : IsRoot k (natOf a) R) :
    Calls Tryd.prog 27 #[.slice A a.length c, .int .i64 (k : Int)] w (OutNat R w) := by
  have D := Lib.hid (digits_any A c a w hr hw (by omega))
  have hnb := nbits_natOf a hw
  have hbits := root_bits hR hk0
  have HR := Lib.hid hR
  obtain ⟨N, hN⟩ : ∃ N, natOf a = N := ⟨_, rfl⟩
  rw [hN] at D HR hnb hbits
  obtain ⟨K, hK⟩ : ∃ K, nbits N / k + 1 = K := ⟨_, rfl⟩
  rw [hK] at hbits
  have hKl : K ≤ 12801 := by have := Nat.div_le_self (nbits N) k; omega
  have hdiv : (nbits N : Int) / (k : Int) = ((nbits N / k : Nat) : Int) := by simp
  obtain ⟨Q, hQ⟩ : ∃ Q, nbits N / k = Q := ⟨_, rfl⟩
  rw [hQ] at hdiv hK
  have hK1 : (Q : Int) + 1 = (K : Int) := by omega
  have hQl : Q ≤ 12800 := by omega
  have hk1 : ((k : Int) == 0) = false := by simp; omega
  have hmk := fun u => make_num6 K u (by omega)
  have HB := Lib.hid hbits
  clear hr hw hR hN hbits hQ hK
  go_enter Tryd.func27, Tryd.ntmps27
  go_wp2_with fail
  refine (D.out).mono ?_
  rintro e w1 ⟨X, d, rfl, hd, RX, b1⟩
  go_wp2_with fail
  have hown0 := num_new6 w1 K (by omega)
  obtain ⟨E, hE⟩ : ∃ E, w1.alloc (.cells (Array.replicate K (Value.int .u8 0)) 5) = E := ⟨_, rfl⟩
  have hbE : Below w1.heap.size w1 E := by rw [← hE]; exact (Below.refl _ w1).alloc (Nat.le_refl _) _
  rw [hE] at hown0 ⊢
  clear hmk hE D
  go_loopw [7] (fun v wr => ∃ (j : Nat) (i : Int), j ≤ K ∧ i = (j : Int) - 1 ∧ v = .int .i64 i ∧ wr.ownsRow w1.heap.size 5 1 (.slice (some ⟨w1.heap.size, 0, none⟩) K K) K (ints .u8 (bw K (R / 2 ^ j * 2 ^ j))) ∧ Below w1.heap.size w1 wr) (fun v _ => (intOf v + 1).toNat)
  case atStart => exact ⟨K, _, Nat.le_refl _, rfl, rfl, by rw [Nat.div_eq_of_lt HB.out, Nat.zero_mul]; exact hown0, hbE⟩
  case round =>
    obtain ⟨j, i, hj, hij, rfl, hown, hb⟩ := hrel
    clear hown0 hbE
    rcases Nat.eq_zero_or_pos j with h | h
    · subst h
      obtain rfl : i = -1 := by omega
      clear hij
      have RY := Rd.own hown
      have WW := words_any _ K (bw K (R / 2 ^ 0 * 2 ^ 0)) wr RY (bw_01 _ _) (by rw [length_bw]; omega) (by rw [length_bw]; exact Nat.le_refl _)
      rw [length_bw, bv_bw, Nat.pow_zero, Nat.div_one, Nat.mul_one, Nat.mod_eq_of_lt HB.out] at WW
      have HW := Lib.hid WW
      clear WW RY hown
      go_wp2_with fail
      refine (HW.out).mono ?_
      rintro e w2 ⟨v, rfl, own, b2⟩
      obtain ⟨Z, g, rfl, hg, _⟩ := own_form own
      have HO := Lib.hid (own_base own (Nat.le_trans b1.size hb.size))
      clear own
      go_wp2_with fail
      go_ret
      exact ⟨_, rfl, HO.out, (b1.trans (hb.mono b1.size)).trans (b2.mono (Nat.le_trans b1.size hb.size))⟩
    · obtain ⟨m, rfl⟩ : ∃ m, j = m + 1 := ⟨j - 1, by omega⟩
      obtain rfl : i = (m : Int) := by omega
      clear hij
      obtain ⟨V, hV⟩ : ∃ V, R / 2 ^ (m + 1) * 2 ^ (m + 1) = V := ⟨_, rfl⟩
      have hVm : V % 2 ^ (m + 1) = 0 := by rw [← hV, Nat.mul_mod_left]
      have test := digit_test HR.out m
      rw [hV] at test hown
      have hVl : V + 2 ^ m < 2 ^ K := by
        have h1 := bv_bw K (V + 2 ^ m)
        have h2 := set_one6 K V m (by omega) hVm
        have h3 : V ≤ R := by rw [← hV]; exact Nat.div_mul_le_self _ _
        have h4 : R < 2 ^ K := HB.out
        obtain ⟨d, rfl⟩ : ∃ d, K = m + 1 + d := ⟨K - (m + 1), by omega⟩
        have h5 : R / 2 ^ (m + 1) < 2 ^ d := (Nat.div_lt_iff_lt_mul (Nat.pow_pos (by omega))).2 (by rw [← Nat.pow_add, Nat.add_comm]; exact h4)
        have h6 : (R / 2 ^ (m + 1) + 1) * 2 ^ (m + 1) ≤ 2 ^ d * 2 ^ (m + 1) := Nat.mul_le_mul_right _ h5
        rw [Nat.add_mul, hV, Nat.one_mul, ← Nat.pow_add, Nat.add_comm d] at h6
        have h7 : 2 ^ m < 2 ^ (m + 1) := Nat.pow_lt_pow_right (by omega) (by omega)
        omega
      have hVn : V ≤ R := by rw [← hV]; exact Nat.div_mul_le_self _ _
      have hRb := Nat.lt_of_le_of_lt hVn HB.out
      have hnext : R / 2 ^ m * 2 ^ m = if bit R m = 0 then V else V + 2 ^ m := by
        have h2 : R / 2 ^ m = 2 * (R / 2 ^ (m + 1)) + bit R m := by
          rw [Nat.pow_succ, ← Nat.div_div_eq_div_mul, bit]; omega
        have hb2 : bit R m < 2 := bit_lt R m
        have e : R / 2 ^ (m + 1) * 2 ^ (m + 1) = 2 * (R / 2 ^ (m + 1)) * 2 ^ m := by rw [Nat.pow_succ, Nat.mul_comm (2 ^ m) 2, ← Nat.mul_assoc, Nat.mul_comm _ 2]
        rw [h2, Nat.add_mul, ← e, hV]
        split
        · rename_i h3; rw [h3, Nat.zero_mul, Nat.add_zero]
        · rename_i h3; rw [show bit R m = 1 by omega, Nat.one_mul]
      have HV := Lib.hid hVm
      have HN := Lib.hid hnext
      have HT := Lib.hid test
      have hst := hown.stored m (.int .u8 ((1 : Nat) : Int))
      rw [ints_set, set_one6 K V m (by omega) hVm] at hst
      have hco : wr.cell? ⟨w1.heap.size, m, none⟩ = some (.int .u8 (nth (bw K V) m : Int)) := by rw [hown.cellAt _ (by omega), ints_get _ _ _ (by rw [length_bw]; omega)]
      have hfo : wr.frozen? ⟨w1.heap.size, m, none⟩ = false := hown.frozenAt _
      have hmK : m < K := by omega
      have hown1 : (wr.setCell ⟨w1.heap.size, m, none⟩ (.int .u8 1)).ownsRow w1.heap.size 5 1 (.slice (some ⟨w1.heap.size, 0, none⟩) K K) K (ints .u8 (bw K (V + 2 ^ m))) := hst.1
      have hbs : Below w1.heap.size w1 (wr.setCell ⟨w1.heap.size, m, none⟩ (.int .u8 1)) := hb.setCell (p := ⟨w1.heap.size, m, none⟩) (Nat.le_refl _) _
      have HO := Lib.hid hown1
      have HS := Lib.hid hbs
      clear hst hown hVm hnext test hV hown1 hbs
      go_wp2_with fail
      obtain ⟨E1, hE1⟩ : ∃ E1, wr.setCell ⟨w1.heap.size, m, none⟩ (.int .u8 1) = E1 := ⟨_, rfl⟩
      rw [hE1] at HO HS ⊢
      have RY := Rd.own HO.out
      have WW := words_any _ K (bw K (V + 2 ^ m)) E1 RY (bw_01 _ _) (by rw [length_bw]; omega) (by rw [length_bw]; exact Nat.le_refl _)
      rw [length_bw, bv_bw, Nat.mod_eq_of_lt hVl] at WW
      refine (WW).mono ?_
      rintro e w2 ⟨v, rfl, own, b2⟩
      have hVb : nbits (V + 2 ^ m) ≤ 12801 := Nat.le_trans (nbits_of_lt _ _ hVl) hKl
      obtain ⟨Z, g, rfl, hg, _⟩ := own_form own
      have DD := digits_any Z g (wd (V + 2 ^ m)) w2 (Rd.own own) (wd_words _) (by rw [length_wd]; omega)
      rw [length_wd, natOf_wd] at DD
      have HD := Lib.hid DD
      clear WW RY own DD hE1 hVl hco hfo
      go_wp2_with fail
      refine (HD.out).mono ?_
      rintro e w3 ⟨Y, f, rfl, hf, RY, b3⟩
      have PW := Lib.hid (power06 Y f (V + 2 ^ m) k w3 RY hk (by omega))
      clear HD RY
      go_wp2_with fail
      refine (PW.out).mono ?_
      rintro e w4 ⟨Y2, f2, rfl, hf2, RY2, b4⟩
      have B3 : Below E1.heap.size E1 w4 := (b2.trans (b3.mono b2.size)).trans (b4.mono (Nat.le_trans b2.size b3.size))
      have hpb : nbits ((V + 2 ^ m) ^ k) ≤ 200001 := by
        have h1 := nbits_pow (V + 2 ^ m) k
        have h3 : nbits (V + 2 ^ m) * k ≤ 12801 * 10 := Nat.mul_le_mul hVb hk
        omega
      have LL := less02_any X Y2 d f2 N ((V + 2 ^ m) ^ k) w4 w4.heap.size ((RX.below (HS.out.trans (B3.mono HS.out.size))).more (Nat.le_trans HS.out.size B3.size)) RY2 (by omega) (by omega)
      have HL := Lib.hid LL
      have HO2 := Lib.hid (own_step HO.out B3)
      clear LL PW RY2 HO
      go_wp2_with fail
      refine (HL.out).mono ?_
      rintro e w5 ⟨rfl, hd5⟩
      have B5 : Below E1.heap.size E1 w5 := B3.trans ((hd5.below _).mono B3.size)
      have HO3 := Lib.hid (own_step HO2.out (hd5.below _))
      have hB5 := HS.out.trans (B5.mono HS.out.size)
      clear HL HO2
      by_cases hlt : N < (V + 2 ^ m) ^ k
      · have hdec : decide (N < (V + 2 ^ m) ^ k) = true := decide_eq_true hlt
        have hst := HO3.out.stored m (.int .u8 ((0 : Nat) : Int))
        rw [ints_set, set_none6 K V m hmK HV.out] at hst
        have hco : w5.cell? ⟨w1.heap.size, m, none⟩ = some (.int .u8 (nth (bw K (V + 2 ^ m)) m : Int)) := by rw [HO3.out.cellAt _ (by omega), ints_get _ _ _ (by rw [length_bw]; omega)]
        have hfo : w5.frozen? ⟨w1.heap.size, m, none⟩ = false := HO3.out.frozenAt _
        have hown1 : (w5.setCell ⟨w1.heap.size, m, none⟩ (.int .u8 0)).ownsRow w1.heap.size 5 1 (.slice (some ⟨w1.heap.size, 0, none⟩) K K) K (ints .u8 (bw K V)) := hst.1
        have hfin : R / 2 ^ m * 2 ^ m = V := by rw [HN.out, if_pos (HT.out.1 hlt)]
        have HO4 := Lib.hid hown1
        have HF := Lib.hid hfin
        clear hst hown1 hfin HO3 hlt
        go_wp2_with fail
        go_roundw
        case rel => exact ⟨m, _, by omega, rfl, by go_num, by rw [HF.out]; exact HO4.out, hB5.setCell (p := ⟨w1.heap.size, m, none⟩) (Nat.le_refl _) _⟩
        case measure => simp [intOf]
      · have hdec : decide (N < (V + 2 ^ m) ^ k) = false := decide_eq_false hlt
        have hfin : R / 2 ^ m * 2 ^ m = V + 2 ^ m := by rw [HN.out, if_neg fun h => hlt (HT.out.2 h)]
        have HF := Lib.hid hfin
        clear hfin hlt
        go_wp2_with fail
        go_roundw
        case rel => exact ⟨m, _, by omega, rfl, by go_num, by rw [HF.out]; exact HO3.out, hB5⟩
        case measure => simp [intOf]
end Go.Proofs.YtjeliomjnalpcaaDoor

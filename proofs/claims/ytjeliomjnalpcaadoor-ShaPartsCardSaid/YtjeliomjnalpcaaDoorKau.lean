/- Several texts in one; each begins with a remark that says what it shows and on which conditions. -/
import Derived.Test.YtjeliomjnalpcaaDoorKab
/- Plain facts on products to the base 2: sums of columns, and what is carried. No condition but those typed; no program is named. -/
namespace Go.Proofs.YtjeliomjnalpcaaDoor
theorem bv_set (l : List Nat) (j d : Nat) (h : j < l.length) : bv (l.set j (nth l j + d)) = bv l + 2 ^ j * d := by
  induction l generalizing j with
  | nil => simp at h
  | cons x r ih =>
    cases j with
    | zero => simp [bv, nth]; omega
    | succ j =>
      have := ih j (by simpa using h)
      simp only [List.set_cons_succ, bv]
      rw [show nth (x :: r) (j + 1) = nth r j from rfl, this, Nat.pow_succ, Nat.mul_add, Nat.mul_comm (2 ^ j) 2, Nat.mul_assoc]
      omega
theorem bv_replicate (k : Nat) : bv (List.replicate k 0) = 0 := by
  induction k with
  | zero => rfl
  | succ k ih => simp [List.replicate_succ, bv, ih]
theorem bv_take_succ (l : List Nat) (k : Nat) (h : k < l.length) : bv (l.take (k + 1)) = bv (l.take k) + 2 ^ k * nth l k := by
  rw [List.take_succ_eq_append_getElem h, bv_append, List.length_take, Nat.min_eq_left (by omega), nth_eq l k h]
  simp [bv]
theorem bv_parts (l : List Nat) (k : Nat) : bv l = bv (l.take k) + 2 ^ k * bv (l.drop k) := by
  rcases Nat.lt_or_ge k l.length with h | h
  · conv => lhs; rw [← List.take_append_drop k l]
    rw [bv_append, List.length_take, Nat.min_eq_left (by omega)]
  · rw [List.take_of_length_le h, List.drop_eq_nil_of_le h]
    simp [bv]
/-- What is carried out of the first k columns. -/
def colC (l : List Nat) (k : Nat) : Nat := bv (l.take k) / 2 ^ k
theorem colC_zero (l : List Nat) : colC l 0 = 0 := by simp [colC, bv]
theorem colC_succ (l : List Nat) (k : Nat) (h : k < l.length) : colC l (k + 1) = (nth l k + colC l k) / 2 := by
  unfold colC
  rw [bv_take_succ l k h, Nat.pow_succ, ← Nat.div_div_eq_div_mul, Nat.add_mul_div_left _ _ (Nat.pow_pos (by omega))]
  congr 1
  omega
theorem col_bit (l : List Nat) (k : Nat) (h : k < l.length) : (nth l k + colC l k) % 2 = bit (bv l) k := by
  unfold bit colC
  have hp : 0 < 2 ^ k := Nat.pow_pos (by omega)
  have e : l.drop k = nth l k :: l.drop (k + 1) := by rw [nth_eq l k h]; exact List.drop_eq_getElem_cons h
  rw [bv_parts l k, Nat.add_mul_div_left _ _ hp, e, bv]
  omega
theorem colC_le (l : List Nat) (C k : Nat) (h : ∀ j, nth l j ≤ C) : colC l k ≤ C := by
  induction k with
  | zero => rw [colC_zero]; omega
  | succ k ih =>
    rcases Nat.lt_or_ge k l.length with hk | hk
    · rw [colC_succ l k hk]
      have := h k
      omega
    · unfold colC at *
      rw [List.take_of_length_le (by omega)]
      rw [List.take_of_length_le (by omega)] at ih
      rw [Nat.pow_succ, ← Nat.div_div_eq_div_mul]
      omega
/-- The columns when rows 0 to i - 1 are done, and k of row i. -/
structure Cols (M N i k : Nat) (l : List Nat) : Prop where
  len : l.length = nbits M + nbits N
  val : bv l = (M % 2 ^ i) * N + 2 ^ i * (bit M i * (N % 2 ^ k))
  low : ∀ j, nth l j ≤ i + 1
  high : ∀ j, i + k ≤ j → nth l j ≤ i
theorem nth_replicate (k j : Nat) : nth (List.replicate k 0) j = 0 := by
  unfold nth
  rw [List.getD_eq_getElem?_getD, List.getElem?_replicate]
  split <;> rfl
theorem Cols.start (M N : Nat) : Cols M N 0 0 (List.replicate (nbits M + nbits N) 0) where
  len := by simp
  val := by rw [bv_replicate]; simp [Nat.mod_one]
  low := fun j => by rw [nth_replicate]; omega
  high := fun j _ => by rw [nth_replicate]; omega
/-- A digit of b more, where a's is 1. -/
theorem Cols.step {M N i k : Nat} {l : List Nat} (h : Cols M N i k l) (h1 : bit M i = 1) (hik : i + k < l.length) : Cols M N i (k + 1) (l.set (i + k) (nth l (i + k) + bit N k)) where
  len := by rw [List.length_set]; exact h.len
  val := by
    rw [bv_set l _ _ hik, h.val, h1, low_bit, Nat.one_mul, Nat.one_mul, Nat.mul_add, Nat.pow_add, Nat.mul_assoc]
    omega
  low := fun j => by
    rw [nth_set l _ _ _ hik]
    have := h.high (i + k) (Nat.le_refl _)
    have hb := bit_lt N k
    have := h.low j
    split <;> omega
  high := fun j hj => by
    rw [nth_set l _ _ _ hik, if_neg (by omega)]
    exact h.high j (by omega)
/-- The row is done. -/
theorem Cols.row {M N i k : Nat} {l : List Nat} (h : Cols M N i k l) (hk : bit M i = 0 ∨ nbits N ≤ k) : Cols M N (i + 1) 0 l where
  len := h.len
  val := by
    rw [h.val, low_bit, Nat.pow_zero, Nat.mod_one, Nat.mul_zero, Nat.mul_zero, Nat.add_zero, Nat.add_mul]
    rcases hk with hk | hk
    · rw [hk]; simp
    · rw [Nat.mod_eq_of_lt (Nat.lt_of_lt_of_le (nbits_lt N) (Nat.pow_le_pow_right (by omega) hk)), Nat.mul_assoc]
  low := fun j => by have := h.low j; omega
  high := fun j _ => by have := h.low j; omega
theorem Cols.all {M N : Nat} {l : List Nat} (h : Cols M N (nbits M) 0 l) : bv l = M * N := by
  rw [h.val, Nat.mod_eq_of_lt (nbits_lt M), Nat.pow_zero, Nat.mod_one]
  simp
theorem prod_lt (M N : Nat) : M * N < 2 ^ (nbits M + nbits N) := by
  have h1 := nbits_lt M
  have h2 := nbits_lt N
  rw [Nat.pow_add]
  exact Nat.mul_lt_mul_of_lt_of_le h1 (Nat.le_of_lt h2) (Nat.pow_pos (by omega))
theorem nbits_mul (M N : Nat) : nbits (M * N) ≤ nbits M + nbits N := nbits_of_lt _ _ (prod_lt M N)
end Go.Proofs.YtjeliomjnalpcaaDoor
/- The contract of the document's Times: the product of two numbers to the base 2. Conditions: as typed (lengths that fit a machine). -/
namespace Go.Proofs.YtjeliomjnalpcaaDoor
open Go.RowKit
set_option maxRecDepth 20000
theorem num_info_int : (Tryd.prog.info? 3).map (fun i => (i.zero, i.size, i.bytes)) = some (some (.int .i64 0), 1, 8) := by kernel_rfl
theorem make_cols (m : Nat) (u : World) (hm : m ≤ 10000000) : (Instr.makeSlice 113 (.int .i64 (m : Int)) (.int .i64 (m : Int))).run Tryd.prog u =
      .ok (.slice (some ⟨u.heap.size, 0, none⟩) m m) (u.alloc (.cells (List.replicate m (Value.int .i64 0)).toArray 3)) := by
  obtain ⟨i0, hi, hz0, hz1, hz2⟩ := info_parts num_info_int
  have h := run_make (P := Tryd.prog) u 113 3 i0 (.int .i64 0) Tryd.underlying113 hi hz0 .i64 .i64 (m : Int) (m : Int) (by omega) (by omega) (by rw [hz2]; omega) (by omega)
  rw [Int.toNat_natCast, hz1, Nat.mul_one] at h
  rw [h, ← toList_madeCells_one]
  rfl
theorem cols_new (w : World) (m : Nat) (hm : m ≤ 10000000) : (w.alloc (.cells (Array.replicate m (Value.int .i64 0)) 3)).ownsRow w.heap.size 3 1 (.slice (some ⟨w.heap.size, 0, none⟩) m m) m (ints .i64 (List.replicate m 0)) :=
  own_of_heap (cur := List.replicate m (Value.int .i64 0)) (by have h := heap_alloc_new w (.cells (Array.replicate m (Value.int .i64 0)) 3); simpa using h) (Nat.le_refl _) (Nat.le_refl _) (by unfold maxLen; omega) (by simp) (by simp [ints])
set_option maxHeartbeats 2000000 in
theorem times02_any (A A2 : Option Addr) (c c2 M N : Nat) (w : World) (h1 : Rd .u8 w w.heap.size A (dg M)) (h2 : Rd .u8 w w.heap.size A2 (dg N)) (hm : nbits M ≤ 1000000) (hn : nbits N ≤ 1000000) :
    Calls Tryd.prog 80 #[.slice A (nbits M) c, .slice A2 (nbits N) c2] w (OutNum (M * N) w) := by
  obtain ⟨i0, hi, hz0, hz1, hz2⟩ := info_parts num_info_u8
  obtain ⟨L, hL⟩ : ∃ L, L = nbits M + nbits N := ⟨_, rfl⟩
  have HL := Lib.hid hL
  have hmk := fun u => make_cols L u (by omega)
  have hsum : (nbits M : Int) + (nbits N : Int) = (L : Int) := by omega
  have hL2 : L ≤ 2000000 := by omega
  clear hL
  go_enter Tryd.func80, Tryd.ntmps80
  go_wp2_with fail
  have hown0 := cols_new w L (by omega)
  obtain ⟨E, hE⟩ : ∃ E, w.alloc (.cells (Array.replicate L (Value.int .i64 0)) 3) = E := ⟨_, rfl⟩
  have hbE : Below w.heap.size w E := by rw [← hE]; exact (Below.refl _ w).alloc (Nat.le_refl _) _
  rw [hE] at hown0 ⊢
  have hC0 := Cols.start M N
  rw [← HL.out] at hC0
  clear hmk hE
  go_loopw [6] (fun v wr => ∃ (I : Nat) (cs : List Nat), I ≤ nbits M ∧ v = .int .i64 I ∧ Cols M N I 0 cs ∧ wr.ownsRow w.heap.size 3 1 (.slice (some ⟨w.heap.size, 0, none⟩) L L) L (ints .i64 cs) ∧ Below w.heap.size w wr) (fun v _ => nbits M - (intOf v).toNat)
  case atStart => exact ⟨0, _, Nat.zero_le _, rfl, hC0, hown0, hbE⟩
  case round =>
    obtain ⟨I, cs, hI, rfl, hC, hown, hb⟩ := hrel
    by_cases hlt : I < nbits M
    · obtain ⟨wo, hwo⟩ : ∃ wo : World, wo = wr := ⟨_, rfl⟩
      subst hwo
      obtain ⟨b1, o1, rfl, hb1, hcell1⟩ := h1 (by rw [length_dg]; omega)
      have hx1 := hcell1 I (by rw [length_dg]; exact hlt)
      rw [nth_dg_bit] at hx1
      have Hx1 := Lib.hid hx1
      have hbM := bit_lt M I
      clear hcell1 hx1 hC0 hown0 hbE
      go_wp2_with fail
      go_loopw [7] (fun v wr => ∃ (K : Nat) (cs : List Nat), K ≤ nbits N ∧ v = .int .i64 K ∧ Cols M N I K cs ∧ wr.ownsRow w.heap.size 3 1 (.slice (some ⟨w.heap.size, 0, none⟩) L L) L (ints .i64 cs) ∧ Below w.heap.size w wr) (fun v _ => nbits N - (intOf v).toNat)
      case atStart => exact ⟨0, _, Nat.zero_le _, rfl, hC, hown, hb⟩
      case round =>
        obtain ⟨K, cs2, hK, rfl, hC2, hown2, hb2⟩ := hrel
        have hxa : wr.cell? ⟨b1, o1 + I, none⟩ = some (.int .u8 (bit M I : Int)) := (hb2.cell (p := ⟨b1, o1 + I, none⟩) hb1).trans Hx1.out
        by_cases hkn : K < nbits N
        · by_cases h01 : bit M I = 1
          · rw [h01] at hxa
            obtain ⟨b2, o2, rfl, hbb2, hcell2⟩ := h2 (by rw [length_dg]; omega)
            have hx2 := hcell2 K (by rw [length_dg]; exact hkn)
            rw [nth_dg_bit] at hx2
            have hxb : wr.cell? ⟨b2, o2 + K, none⟩ = some (.int .u8 (bit N K : Int)) := (hb2.cell (p := ⟨b2, o2 + K, none⟩) hbb2).trans hx2
            have hll : cs2.length = L := by rw [hC2.len, HL.out]
            have hIK : I + K < L := by have := HL.out; omega
            have hst := hown2.stored (I + K) (.int .i64 ((nth cs2 (I + K) + bit N K : Nat) : Int))
            rw [ints_set] at hst
            have hco : wr.cell? ⟨w.heap.size, I + K, none⟩ = some (.int .i64 (nth cs2 (I + K) : Int)) := by rw [hown2.cellAt _ (by omega), ints_get _ _ _ (by omega)]
            have hfo : wr.frozen? ⟨w.heap.size, I + K, none⟩ = false := hown2.frozenAt _
            have hlow := hC2.low (I + K)
            have hbN := bit_lt N K
            have HC := Lib.hid (hC2.step h01 (by omega))
            have HO := Lib.hid hst.1
            clear hst hown2 hcell2 hx2 hC2 h01 hbM hll
            go_wp2_with fail
            go_region
            go_wp2_with fail
            rw [show (nth cs2 (I + K) : Int) + (bit N K : Int) = ((nth cs2 (I + K) + bit N K : Nat) : Int) from (Int.natCast_add _ _).symm]
            go_roundw
            case rel => exact ⟨K + 1, _, by omega, by go_num, HC.out, HO.out.drew, (hb2.setCell (p := ⟨w.heap.size, I + K, none⟩) (by simp) _).drew⟩
            case measure => simp [intOf]; omega
          · have hb0 : (((bit M I : Nat) : Int) == 1) = false := by simp; omega
            have HR := Lib.hid (hC2.row (.inl (by omega)))
            clear hC2 h01
            go_wp2_with fail
            go_roundw
            case rel => exact ⟨I + 1, _, by omega, by go_num, HR.out, hown2, hb2⟩
            case measure => simp [intOf]; omega
        · have HR := Lib.hid (hC2.row (.inr (by omega)))
          clear hC2
          go_wp2_with fail
          go_roundw
          case rel => exact ⟨I + 1, _, by omega, by go_num, HR.out, hown2, hb2⟩
          case measure => simp [intOf]; omega
    · obtain rfl : I = nbits M := by omega
      obtain ⟨wo, hwo⟩ : ∃ wo : World, wo = wr := ⟨_, rfl⟩
      subst hwo
      have hll : cs.length = L := by rw [hC.len, HL.out]
      have HV := Lib.hid hC.all
      have hCl := hC.low
      have HCl := Lib.hid hCl
      clear hC0 hown0 hbE hlt hC hCl
      go_wp2_with fail
      go_loopw [8, 9, 10] (fun v cy j wr => ∃ i : Nat, i ≤ L ∧ j = .int .i64 i ∧ cy = .int .i64 (colC cs i) ∧ wr.ownsRow wo.heap.size 5 1 v i (ints .u8 (bw i (M * N))) ∧ Below wo.heap.size wo wr) (fun _ _ j _ => L - (intOf j).toNat)
      case atStart => exact ⟨0, Nat.zero_le _, rfl, by rw [colC_zero]; rfl, World.ownsRow_nil _ _ _ _, Below.refl _ _⟩
      case round =>
        obtain ⟨i, hi9, rfl, rfl, hown3, hb3⟩ := hrel
        by_cases hlt : i < L
        · have hgs : w.heap.size < wo.heap.size := by have := (hown.lt w.heap.size rfl).2; exact this
          have hco : wr.cell? ⟨w.heap.size, i, none⟩ = some (.int .i64 (nth cs i : Int)) := by
            rw [hb3.cell (p := ⟨w.heap.size, i, none⟩) hgs, hown.cellAt _ (by omega), ints_get _ _ _ (by omega)]
          have hc1 := HCl.out i
          have hc2 := colC_le cs (nbits M + 1) i HCl.out
          have Hs1 := Lib.hid (col_bit cs i (by omega))
          have Hs2 := Lib.hid (colC_succ cs i (by omega))
          go_wp2_with (at_builtin; refine wpList_append_one _ rfl _ _ 50 rfl wo.heap.size 5 i0 (.int .u8 0) 1 Tryd.underlying50 hi hz0 hz1 hz2 rfl _ _ .u8 (bw i (M * N)) rfl hown3 _ (bit (M * N) i) ?c1 rfl ?c2 ?c3 ?c4 ?_)
          case c1 => rw [← HV.out, ← Hs1.out]; omega
          case c2 => unfold maxLen; omega
          case c3 => omega
          case c4 => exact hb3.size
          intro v2 w2 own2 _ b2
          rw [show bit (M * N) i = (M * N) / 2 ^ i % 2 from rfl, ← bw_snoc] at own2
          go_wp2_with fail
          go_roundw
          case rel => exact ⟨i + 1, by omega, by go_num, by rw [Hs2.out]; congr 1 <;> omega, own2, hb3.trans b2⟩
          case measure => simp [intOf]; omega
        · obtain rfl : i = L := by omega
          have hend := prod_lt M N
          rw [← HL.out] at hend
          have hnbS := nbits_of_lt _ _ hend
          obtain ⟨X, d, rfl, hd, _⟩ := own_form hown3
          have R1 := Rd.own hown3
          have T := numTrim_any X d (bw i (M * N)) wr R1 (bw_01 _ _) (by rw [length_bw]; omega) (by rw [length_bw]; exact hd)
          rw [length_bw, bv_bw, Nat.mod_eq_of_lt hend] at T
          have HT := Lib.hid T
          clear T R1 hown3 hend
          go_wp2_with fail
          refine (HT.out).mono ?_
          rintro e w1 ⟨Y, f, rfl, hf, R, b1⟩
          go_wp2_with fail
          go_ret
          exact ⟨Y, f, rfl, hf, R, (hb.trans (hb3.mono hb.size)).trans (b1.mono (Nat.le_trans hb.size hb3.size))⟩
end Go.Proofs.YtjeliomjnalpcaaDoor
/- The contract of the document's Power of chapter 3. Conditions: as typed (lengths that fit a machine). -/
namespace Go.Proofs.YtjeliomjnalpcaaDoor
open Go.RowKit
set_option maxRecDepth 20000
theorem nbits_pow (N i : Nat) : nbits (N ^ i) ≤ nbits N * i + 1 := by
  refine nbits_of_lt _ _ ?_
  have h := nbits_lt N
  have h1 : N ^ i ≤ (2 ^ nbits N) ^ i := Nat.pow_le_pow_left (Nat.le_of_lt h) i
  rw [← Nat.pow_mul] at h1
  rw [Nat.pow_succ]
  have : 0 < 2 ^ (nbits N * i) := Nat.pow_pos (by omega)
  omega
theorem nbits_one : nbits 1 = 1 := nbits_eq 1 1 (by omega) (by intro _; simp)
theorem dg_one : dg 1 = [1] := by simp [dg, nbits_one, bw]
theorem nbits_iff (N : Nat) : 0 < nbits N ↔ N ≠ 0 := by
  constructor
  · intro h h0; rw [h0, nbits_zero] at h; omega
  · intro h
    rcases Nat.eq_zero_or_pos (nbits N) with h1 | h1
    · have := nbits_lt N; rw [h1] at this; simp at this; omega
    · exact h1
section
variable (A : Option Addr) (c : Nat) (a : List Nat) (w : World) (hr : Rd .u64 w w.heap.size A a) (hw : Words a) (hl : a.length ≤ 10000)
include hr hw hl
end
end Go.Proofs.YtjeliomjnalpcaaDoor

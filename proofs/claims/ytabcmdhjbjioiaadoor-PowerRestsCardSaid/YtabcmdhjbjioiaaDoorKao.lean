/- Several texts in one; each begins with a remark that says what it shows and on which conditions. -/
import Derived.Test.YtabcmdhjbjioiaaDoorKae
/- The contract of the document's Quot: how often a number goes into another one, and what is left, to the base 2. Conditions: as typed (lengths that fit a machine). -/
namespace Go.Proofs.YtabcmdhjbjioiaaDoor
open Go.RowKit
set_option maxRecDepth 20000
/-- The quotient's digits from place k on, noughts below. -/
def qs (Q n k : Nat) : List Nat := (List.range n).map fun j => if k ≤ j then bit Q j else 0
theorem length_qs (Q n k : Nat) : (qs Q n k).length = n := by simp [qs]
theorem nth_qs (Q n k j : Nat) (h : j < n) : nth (qs Q n k) j = if k ≤ j then bit Q j else 0 := by
  unfold nth qs
  rw [List.getD_eq_getElem?_getD, List.getElem?_map, List.getElem?_range h]
  rfl
theorem qs_01 (Q n k : Nat) : Bits01 (qs Q n k) := fun x hx => by
  obtain ⟨j, _, rfl⟩ := List.mem_map.1 hx
  have := bit_lt Q j
  split <;> omega
theorem qs_start (Q n : Nat) : qs Q n n = List.replicate n 0 := by
  refine ext_nth _ _ (by simp [length_qs]) fun j hj => ?_
  rw [length_qs] at hj
  rw [nth_qs Q n n j hj, if_neg (by omega)]
  simp [nth, hj]
theorem qs_skip (Q n k : Nat) (h : bit Q k = 0) : qs Q n (k + 1) = qs Q n k := by
  refine ext_nth _ _ (by simp [length_qs]) fun j hj => ?_
  rw [length_qs] at hj
  rw [nth_qs _ _ _ _ hj, nth_qs _ _ _ _ hj]
  rcases Nat.lt_trichotomy j k with h1 | h1 | h1
  · rw [if_neg (by omega), if_neg (by omega)]
  · rw [if_neg (by omega), if_pos (by omega), h1, h]
  · rw [if_pos (by omega), if_pos (by omega)]
theorem qs_set (Q n k : Nat) (h : bit Q k = 1) (hk : k < n) : (qs Q n (k + 1)).set k 1 = qs Q n k := by
  refine ext_nth _ _ (by simp [length_qs]) fun j hj => ?_
  rw [List.length_set, length_qs] at hj
  rw [nth_set _ _ _ _ (by rw [length_qs]; exact hk), nth_qs _ _ _ _ hj, nth_qs _ _ _ _ hj]
  rcases Nat.lt_trichotomy j k with h1 | h1 | h1
  · rw [if_neg (by omega), if_neg (by omega), if_neg (by omega)]
  · rw [if_pos h1, if_pos (by omega), h1, h]
  · rw [if_neg (by omega), if_pos (by omega), if_pos (by omega)]
theorem qs_all (Q n : Nat) (h : Q < 2 ^ n) : bv (qs Q n 0) = Q := by
  have e : qs Q n 0 = bw n Q := by
    refine ext_nth _ _ (by simp [length_qs, length_bw]) fun j hj => ?_
    rw [length_qs] at hj
    rw [nth_qs _ _ _ _ hj, if_pos (by omega), nth_bw _ _ _ hj]
    rfl
  rw [e, bv_bw, Nat.mod_eq_of_lt h]
/-- What is left of the digits from place k on. -/
def rs (M N k : Nat) : Nat := M / 2 ^ k % N
theorem rs_start (M N : Nat) : rs M N (nbits M) = 0 := by unfold rs; rw [Nat.div_eq_of_lt (nbits_lt M), Nat.zero_mod]
theorem rs_end (M N : Nat) : rs M N 0 = M % N := by simp [rs]
theorem rs_lt (M N k : Nat) (h : 0 < N) : rs M N k < N := Nat.mod_lt _ h
theorem half_step (M k : Nat) : M / 2 ^ k = bit M k + 2 * (M / 2 ^ (k + 1)) := by
  unfold bit
  rw [Nat.pow_succ, ← Nat.div_div_eq_div_mul]
  omega
theorem quot_step (M N k : Nat) (h : 0 < N) : (bit M k + 2 * rs M N (k + 1)) / N = bit (M / N) k ∧ (bit M k + 2 * rs M N (k + 1)) % N = rs M N k := by
  have hb := bit_lt M k
  have hr := rs_lt M N (k + 1) h
  have e1 : M / 2 ^ k = (bit M k + 2 * rs M N (k + 1)) + N * (2 * (M / 2 ^ (k + 1) / N)) := by
    rw [half_step M k]
    have := Nat.mod_add_div (M / 2 ^ (k + 1)) N
    unfold rs
    rw [Nat.mul_left_comm]
    omega
  constructor
  · have e2 : bit (M / N) k = (M / 2 ^ k / N) % 2 := by
      unfold bit
      rw [Nat.div_div_eq_div_mul, Nat.div_div_eq_div_mul, Nat.mul_comm]
    rw [e2, e1, Nat.add_mul_div_left _ _ h]
    have h2 : (bit M k + 2 * rs M N (k + 1)) / N < 2 := by rw [Nat.div_lt_iff_lt_mul h]; omega
    rw [Nat.add_mul_mod_self_left, Nat.mod_eq_of_lt h2]
  · unfold rs at *
    rw [e1, Nat.add_mul_mod_self_left]
theorem quot_less (M N k : Nat) (h : 0 < N) (hl : bit M k + 2 * rs M N (k + 1) < N) : bit (M / N) k = 0 ∧ rs M N k = bit M k + 2 * rs M N (k + 1) := by
  obtain ⟨h1, h2⟩ := quot_step M N k h
  rw [← h1, ← h2, Nat.div_eq_of_lt hl, Nat.mod_eq_of_lt hl]
  exact ⟨rfl, rfl⟩
theorem quot_more (M N k : Nat) (h : 0 < N) (hl : N ≤ bit M k + 2 * rs M N (k + 1)) : bit (M / N) k = 1 ∧ rs M N k = bit M k + 2 * rs M N (k + 1) - N := by
  have hb := bit_lt M k
  have hr := rs_lt M N (k + 1) h
  obtain ⟨h1, h2⟩ := quot_step M N k h
  obtain ⟨t, ht⟩ : ∃ t, bit M k + 2 * rs M N (k + 1) = t + N * 1 := ⟨bit M k + 2 * rs M N (k + 1) - N, by omega⟩
  have htn : t < N := by omega
  rw [← h1, ← h2, ht, Nat.add_mul_div_left _ _ h, Nat.add_mul_mod_self_left, Nat.div_eq_of_lt htn, Nat.mod_eq_of_lt htn]
  omega
theorem bv_cons_dg (b R : Nat) : bv (b :: dg R) = b + 2 * R := by rw [bv, bv_dg]
theorem cons_01 (b R : Nat) (h : b < 2) : Bits01 (b :: dg R) := fun x hx => by
  rcases List.mem_cons.1 hx with rfl | hx
  · exact h
  · exact dg_01 R x hx
theorem make_num (m : Nat) (u : World) (hm : m ≤ 10000000) : (Instr.makeSlice 62 (.int .i64 (m : Int)) (.int .i64 (m : Int))).run Tryd.prog u =
      .ok (.slice (some ⟨u.heap.size, 0, none⟩) m m) (u.alloc (.cells (List.replicate m (Value.int .u8 0)).toArray 5)) := by
  obtain ⟨i0, hi, hz0, hz1, hz2⟩ := info_parts num_info_u8
  have h := run_make (P := Tryd.prog) u 62 5 i0 (.int .u8 0) Tryd.underlying62 hi hz0 .i64 .i64 (m : Int) (m : Int) (by omega) (by omega) (by rw [hz2]; omega) (by omega)
  rw [Int.toNat_natCast, hz1, Nat.mul_one] at h
  rw [h, ← toList_madeCells_one]
  rfl
theorem qs_new (w : World) (m Q : Nat) (hm : m ≤ 10000000) : (w.alloc (.cells (Array.replicate m (Value.int .u8 0)) 5)).ownsRow w.heap.size 5 1 (.slice (some ⟨w.heap.size, 0, none⟩) m m) m (ints .u8 (qs Q m m)) := by
  rw [qs_start]
  exact own_of_heap (cur := List.replicate m (Value.int .u8 0)) (by have h := heap_alloc_new w (.cells (Array.replicate m (Value.int .u8 0)) 5); simpa using h) (Nat.le_refl _) (Nat.le_refl _) (by unfold maxLen; omega) (by simp) (by simp [ints])
/-- Two numbers' digits are answered. -/
def OutQuot (M N : Nat) (w : World) (e : Ending) (w' : World) : Prop := ∃ X Y d f, e = .returned (.tuple #[.slice X (nbits (M / N)) d, .slice Y (nbits (M % N)) f]) ∧ nbits (M / N) ≤ d ∧ nbits (M % N) ≤ f ∧ Rd .u8 w' w'.heap.size X (dg (M / N)) ∧ Rd .u8 w' w'.heap.size Y (dg (M % N)) ∧ Below w.heap.size w w'
set_option maxHeartbeats 2000000 in
theorem quot02_any (A A2 : Option Addr) (c c2 M N : Nat) (w : World) (h1 : Rd .u8 w w.heap.size A (dg M)) (h2 : Rd .u8 w w.heap.size A2 (dg N)) (hm : nbits M ≤ 1000000) (hn : nbits N ≤ 1000000) (h0 : 0 < N) :
    Calls Tryd.prog 40 #[.slice A (nbits M) c, .slice A2 (nbits N) c2] w (OutQuot M N w) := by
  obtain ⟨i0, hi, hz0, hz1, hz2⟩ := info_parts num_info_u8
  have hmk := fun u => make_num (nbits M) u (by omega)
  have H0 := Lib.hid h0
  clear h0
  go_enter Tryd.func40, Tryd.ntmps40
  go_wp2_with fail
  have hown0 := qs_new w (nbits M) (M / N) (by omega)
  obtain ⟨E, hE⟩ : ∃ E, w.alloc (.cells (Array.replicate (nbits M) (Value.int .u8 0)) 5) = E := ⟨_, rfl⟩
  have hbE : Below w.heap.size w E := by rw [← hE]; exact (Below.refl _ w).alloc (Nat.le_refl _) _
  have hsE : E.heap.size = w.heap.size + 1 := by rw [← hE]; simp
  rw [hE] at hown0 ⊢
  have HsE := Lib.hid hsE
  clear hmk hE hsE
  go_loopw [7, 8] (fun v j wr => ∃ (k : Nat) (Y : Option Addr) (f : Nat), k ≤ nbits M ∧ j = .int .i64 ((k : Int) - 1) ∧ v = .slice Y (nbits (rs M N k)) f ∧ nbits (rs M N k) ≤ f ∧ wr.ownsRow (w.heap.size + 1) 5 1 (.slice Y (nbits (rs M N k)) f) (nbits (rs M N k)) (ints .u8 (dg (rs M N k))) ∧
      wr.ownsRow w.heap.size 5 1 (.slice (some ⟨w.heap.size, 0, none⟩) (nbits M) (nbits M)) (nbits M) (ints .u8 (qs (M / N) (nbits M) k)) ∧ Below w.heap.size w wr) (fun _ j _ => (intOf j + 1).toNat)
  case atStart =>
    refine ⟨nbits M, none, 0, Nat.le_refl _, rfl, ?_, ?_, ?_, hown0, hbE⟩
    · rw [rs_start, nbits_zero]
    · rw [rs_start, nbits_zero]; omega
    · rw [rs_start, nbits_zero, show dg 0 = [] by simp [dg, nbits_zero, bw]]
      exact World.ownsRow_nil _ _ _ _
  case round =>
    obtain ⟨k, Y, f, hk, rfl, rfl, hf, hownR, hownQ, hb⟩ := hrel
    by_cases hk0 : k = 0
    · subst hk0
      rw [rs_end] at hownR hf ⊢
      have hQ : M / N < 2 ^ nbits M := Nat.lt_of_le_of_lt (Nat.div_le_self _ _) (nbits_lt M)
      have RQ := Rd.own hownQ
      have T := numTrim_any (some ⟨w.heap.size, 0, none⟩) (nbits M) (qs (M / N) (nbits M) 0) wr RQ (qs_01 _ _ _) (by rw [length_qs]; omega) (by rw [length_qs]; omega)
      rw [length_qs, qs_all _ _ hQ] at T
      have HT := Lib.hid T
      have RR := Rd.own hownR
      clear T RQ hownQ hownR hQ
      go_wp2_with fail
      refine (HT.out).mono ?_
      rintro e w1 ⟨X, d, rfl, hd, R1, b1⟩
      go_wp2_with fail
      go_ret2
      exact ⟨X, Y, d, f, rfl, hd, hf, R1, (RR.below b1).more b1.size, hb.trans (b1.mono hb.size)⟩
    · obtain ⟨i, rfl⟩ : ∃ i, k = i + 1 := ⟨k - 1, by omega⟩
      obtain ⟨b1, o1, rfl, hb1, hcell1⟩ := h1 (by rw [length_dg]; omega)
      have hx1 := hcell1 i (by rw [length_dg]; omega)
      rw [nth_dg_bit] at hx1
      have hxa : wr.cell? ⟨b1, o1 + i, none⟩ = some (.int .u8 (bit M i : Int)) := (hb.cell (p := ⟨b1, o1 + i, none⟩) hb1).trans hx1
      have hbM := bit_lt M i
      have hrl := rs_lt M N (i + 1) H0.out
      have hrn := nbits_mono (Nat.le_of_lt hrl)
      have RR := Rd.own hownR
      have HR := Lib.hid RR
      clear hcell1 hx1 RR hownR
      rw [show ((i + 1 : Nat) : Int) - 1 = (i : Int) by omega]
      go_wp2_with (at_builtin; refine wpList_append_rd _ rfl (.tmp 23) (.tmp 24) _ rfl wr.heap.size 5 i0 _ 1 Tryd.underlying62 hi hz0 hz1 hz2 rfl (.slice (some ⟨wr.heap.size, 0, none⟩) 1 1) 1 (ints .u8 [bit M i]) rfl ?c1 .u8 wr.heap.size Y (nbits (rs M N (i + 1))) f (dg (rs M N (i + 1))) rfl ?c2 ?c3 ?c4 ?c5 ?c6 ?_)
      case c1 => exact own_of_heap (cur := [.int .u8 (bit M i : Int)]) (heap_alloc_new wr (.cells #[.int .u8 (bit M i : Int)] 5)) (Nat.le_refl _) (Nat.le_refl _) (by unfold maxLen; omega) rfl rfl
      case c2 => exact length_dg _
      case c3 => exact HR.out.below ((Below.refl _ _).alloc (Nat.le_refl _) _)
      case c4 => unfold maxLen; omega
      case c5 => omega
      case c6 => simp
      intro v1 w1 own1 hg1
      have b1w : Below wr.heap.size wr w1 := ((Below.refl _ _).alloc (Nat.le_refl _) _).grown hg1 (by simp) (by simp [Value.ownBlock])
      rw [← ints_append, List.singleton_append] at own1
      obtain ⟨X1, d1, rfl, hd1, _⟩ := own_form own1
      have hlen : (bit M i :: dg (rs M N (i + 1))).length = 1 + nbits (rs M N (i + 1)) := by rw [List.length_cons, length_dg]; omega
      have T := numTrimO_any X1 d1 (bit M i :: dg (rs M N (i + 1))) w1 (Rd.own own1) (cons_01 _ _ hbM) (by omega) (by omega)
      rw [hlen, bv_cons_dg] at T
      have HT := Lib.hid T
      have hPn : nbits (bit M i + 2 * rs M N (i + 1)) ≤ 1000002 := by
        have h3 : bit M i + 2 * rs M N (i + 1) < 2 ^ (nbits N + 2) := by
          have := nbits_lt N
          rw [Nat.pow_add]
          omega
        have := nbits_of_lt _ _ h3
        omega
      have hL := fun h => quot_less M N i H0.out h
      have hG := fun h => quot_more M N i H0.out h
      obtain ⟨P, hP⟩ : ∃ P, P = bit M i + 2 * rs M N (i + 1) := ⟨_, rfl⟩
      rw [← hP] at HT hPn hL hG
      have HL := Lib.hid hL
      have HG := Lib.hid hG
      clear T own1 hg1 hlen hxa hP hL hG
      go_wp2_with fail
      refine (HT.out).mono ?_
      rintro e w2 ⟨v2, rfl, own2, b2⟩
      obtain ⟨X2, d2, rfl, hd2, _⟩ := own_form own2
      have bw2 : Below wr.heap.size wr w2 := b1w.trans (b2.mono b1w.size)
      have hB2 := hb.trans (bw2.mono hb.size)
      have hownQ2 := own_step hownQ bw2
      have RN2 := h2.below hB2
      have LS := less02_any X2 A2 d2 c2 P N w2 w2.heap.size (Rd.own own2) (RN2.more hB2.size) (by omega) (by omega)
      have hws : w.heap.size + 1 ≤ w2.heap.size := by have h3 := (hownQ2.lt w.heap.size rfl).2; omega
      have hws1 : w.heap.size + 1 ≤ w1.heap.size := by have h3 := (hownQ.lt w.heap.size rfl).2; have h4 := b1w.size; omega
      by_cases hPN : P < N
      · rw [decide_eq_true hPN] at LS
        have HLS := Lib.hid LS
        have HO2 := Lib.hid (own_base own2 hws1)
        clear LS own2 hownQ RN2
        go_wp2_with fail
        refine (HLS.out).mono ?_
        rintro e w3 ⟨rfl, n3, rfl⟩
        go_wp2_with fail
        go_roundw
        case rel =>
          obtain ⟨e1, e2⟩ := HL.out hPN
          refine ⟨i, X2, d2, by omega, rfl, by rw [e2], by rw [e2]; exact hd2, ?_, ?_, hB2.trans ((Drawn.more n3).below _)⟩
          · rw [e2]; exact (Drawn.more n3).own HO2.out
          · rw [qs_skip _ _ _ e1] at hownQ2; exact (Drawn.more n3).own hownQ2
        case measure => simp [intOf] <;> omega
      · rw [decide_eq_false hPN] at LS
        have HLS := Lib.hid LS
        have hdN : nbits N ≤ nbits P := nbits_mono (by omega)
        have RS := fun n3 => rest02O_any X2 A2 d2 c2 P N (w2.drewN n3) (Rd.own own2) (RN2.more hB2.size) (by omega) (by omega) (by omega)
        have HRS := Lib.hid RS
        have hiM : i < nbits M := by omega
        clear LS own2 hownQ RN2 RS
        go_wp2_with fail
        refine (HLS.out).mono ?_
        rintro e w3 ⟨rfl, n3, rfl⟩
        go_wp2_with fail
        refine (HRS.out n3).mono ?_
        rintro e w4 ⟨v4, rfl, own4, b4⟩
        obtain ⟨X4, d4, rfl, hd4, _⟩ := own_form own4
        have hownQ4 := own_step ((Drawn.more n3).own hownQ2) b4
        have hB4 := (hB2.trans ((Drawn.more n3).below _)).trans (b4.mono hB2.size)
        have hc4 : w4.cell? ⟨w.heap.size, i, none⟩ = some (.int .u8 (nth (qs (M / N) (nbits M) (i + 1)) i : Int)) := by rw [hownQ4.cellAt _ (by omega), ints_get _ _ _ (by rw [length_qs]; exact hiM)]
        have hf4 : w4.frozen? ⟨w.heap.size, i, none⟩ = false := hownQ4.frozenAt _
        have hst := hownQ4.stored i (.int .u8 ((1 : Nat) : Int))
        rw [ints_set] at hst
        have own4' := own_base own4 (show w.heap.size + 1 ≤ (w2.drewN n3).heap.size from hws)
        have hne : (Value.slice X4 (nbits (P - N)) d4).ownBlock = none ∨ (Value.slice X4 (nbits (P - N)) d4).ownBlock ≠ some w.heap.size := by
          rcases hv : (Value.slice X4 (nbits (P - N)) d4).ownBlock with _ | x
          · exact .inl rfl
          · right
            intro e
            have h5 := (own4'.lt x hv).1
            injection e with e
            omega
        have HO4 := Lib.hid (own4'.kept hst.2 hne)
        have HQ4 := Lib.hid hst.1
        clear own4 own4' hst hne hownQ2 hownQ4
        go_wp2_with fail
        go_roundw
        case rel =>
          obtain ⟨e1, e2⟩ := HG.out (by omega)
          refine ⟨i, X4, d4, by omega, rfl, by rw [e2], by rw [e2]; exact hd4, ?_, ?_, hB4.setCell (p := ⟨w.heap.size, i, none⟩) (by simp) _⟩
          · rw [e2]; exact HO4.out
          · have h6 := HQ4.out; rw [qs_set _ _ _ e1 hiM] at h6; exact h6
        case measure => simp [intOf] <;> omega
end Go.Proofs.YtabcmdhjbjioiaaDoor

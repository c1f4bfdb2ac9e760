/- The contracts of the document's Shifted, FromBytes, Bytes, Small. Conditions: as typed. -/
import Derived.Test.YtnhoooadnpdnmaaN5
namespace Go.Proofs.Ytnhoooadnpdnmaa
open Go.RowKit

theorem shiftUp_any (A : Option Addr) (c N k : Nat) (w : World) (hr : Rd .u8 w w.heap.size A (dg N)) (hn : nbits N ≤ 10000000) (hk : k ≤ 10000000) :
    Calls Try.prog 29 #[.slice A (nbits N) c, .int .i64 k] w (OutNum (2 ^ k * N) w) := by
  obtain ⟨i0, hi, hz0, hz1, hz2⟩ := info_parts num_info_u8
  go_enter Try.func29, Try.ntmps29
  go_wp2_with (at_make; refine wpList_make_full _ rfl _ _ 28 rfl w.heap.size 5 i0 (.int .u8 0) 1 Try.underlying28 hi hz0 hz1 _ _ _ _ k rfl rfl ?c1 ?c2 ?c3 ?c4 ?c5 ?_)
  case c1 => rfl
  case c2 => rfl
  case c3 => rw [hz2]; omega
  case c4 => unfold maxLen; omega
  case c5 => exact Nat.le_refl _
  intro w1 own hg
  have b1 : Below w.heap.size w w1 := (Below.refl _ _).grown hg (Nat.le_refl _) (by simp)
  have own0 : w1.ownsRow w.heap.size 5 1 (.slice (some ⟨w.heap.size, 0, none⟩) k k) k (ints .u8 (List.replicate k 0)) := by
    have e : (madeCells #[Value.int .u8 0] k).toList = ints .u8 (List.replicate k 0) := (toList_madeCells_one _ _).trans (by simp [ints])
    rw [← e]
    exact own
  have Ho := Lib.hid own0
  clear own own0 hg
  go_wp2_with (at_builtin; refine wpList_append_rd _ rfl (.tmp 18) (.tmp 19) _ rfl w.heap.size 5 i0 _ 1 Try.underlying28 hi hz0 hz1 hz2 rfl _ k _ rfl Ho.out .u8 w.heap.size A (nbits N) c (dg N) rfl ?d2 ?d3 ?d4 ?d5 ?d6 ?_)
  case d2 => exact length_dg _
  case d3 => exact hr.below b1
  case d4 => unfold maxLen; omega
  case d5 => omega
  case d6 => exact b1.size
  intro v2 w2 own2 hg2
  have b2 : Below w.heap.size w w2 := b1.trans (below_of_grown _ Ho.out hg2 b1.size)
  rw [← ints_append] at own2
  obtain ⟨X, d, rfl, hd, _⟩ := own_form own2
  have R2 := Rd.own own2
  have hlen : (List.replicate k 0 ++ dg N).length = k + nbits N := by simp [length_dg]
  have T := numTrim_any X d (List.replicate k 0 ++ dg N) w2 R2 (bits_noughts k N) (by rw [hlen]; omega) (by rw [hlen]; exact hd)
  rw [hlen, bv_noughts, bv_dg] at T
  have HT := Lib.hid T
  clear T R2 own2 hg2 Ho hlen
  go_wp2_with fail
  refine (HT.out).mono ?_
  rintro e w3 ⟨Y, f, rfl, hf, R, b3⟩
  go_wp2_with fail
  go_ret
  exact ⟨Y, f, rfl, hf, R, b2.trans (b3.mono b2.size)⟩

theorem shiftDown_any (A : Option Addr) (c N k : Nat) (w : World) (hr : Rd .u8 w w.heap.size A (dg N)) (hn : nbits N ≤ 10000000) (hk : k ≤ 10000000) (hk0 : 0 < k) (hc : nbits N ≤ c) :
    Calls Try.prog 29 #[.slice A (nbits N) c, .int .i64 (-(k : Int))] w (OutNum (N / 2 ^ k) w) := by
  by_cases hs : nbits N ≤ k
  · have e : N / 2 ^ k = 0 := Nat.div_eq_of_lt (Nat.lt_of_lt_of_le (nbits_lt N) (Nat.pow_le_pow_right (by omega) hs))
    have He := Lib.hid e
    clear e
    go_enter Try.func29, Try.ntmps29
    go_wp2_with fail
    go_ret
    rw [He.out]
    exact ⟨none, 0, by rw [nbits_zero]; rfl, by rw [nbits_zero]; exact Nat.le_refl _, Rd.nil, Below.refl _ _⟩
  · have R1 := hr.drop (i := k) (cap := c) (by rw [length_dg]; exact hc)
    have hlen : ((dg N).drop k).length = nbits N - k := by simp [length_dg]
    have T := numTrim_any (if c = k then A else A.map (·.add k)) (c - k) ((dg N).drop k) w R1 (drop_01 N k) (by rw [hlen]; omega) (by rw [hlen]; omega)
    rw [hlen, bv_drop] at T
    obtain ⟨b, off, rfl, hbB, _⟩ := hr (by rw [length_dg]; omega)
    have hck : ¬ c = k := by omega
    rw [if_neg hck] at T
    have eA : (some (⟨b, off, none⟩ : Addr)).map (·.add k) = some ⟨b, off + k, none⟩ := by
      have : k ≠ 0 := by omega
      simp [Addr.add, this]
    rw [eA] at T
    have HT := Lib.hid T
    clear T R1 hlen eA
    go_enter Try.func29, Try.ntmps29
    go_wp2_with fail
    refine (HT.out).mono ?_
    rintro e w3 ⟨Y, f, rfl, hf, R, b3⟩
    go_wp2_with fail
    go_ret
    exact ⟨Y, f, rfl, hf, R, b3⟩

/-- The digits of a byte ahead of others. -/
theorem val_drop (l : List Nat) (m : Nat) (h : m < l.length) : val (l.drop m) = nth l m * 256 ^ (l.length - 1 - m) + val (l.drop (m + 1)) := by
  rw [← List.getElem_cons_drop h, val, ← nth_eq l m h, List.length_drop, show l.length - (m + 1) = l.length - 1 - m by omega]
theorem bw_low (k n m : Nat) (h : n % 2 ^ k = m % 2 ^ k) : bw k n = bw k m := by
  have e1 := bw_bv (bw k n) (bw_01 k n)
  have e2 := bw_bv (bw k m) (bw_01 k m)
  rw [length_bw, bv_bw] at e1 e2
  rw [← e1, ← e2, h]
theorem val_low (l : List Nat) (m : Nat) (h : m < l.length) : bw (8 * (l.length - 1 - m)) (val (l.drop m)) = bw (8 * (l.length - 1 - m)) (val (l.drop (m + 1))) := by
  refine bw_low _ _ _ ?_
  rw [val_drop l m h, ← pow_256, Nat.add_comm, Nat.add_mul_mod_self_right]
theorem val_bit (l : List Nat) (hby : Bytes l) (m j : Nat) (h : m < l.length) : val (l.drop m) / 2 ^ (8 * (l.length - 1 - m) + j) % 2 = nth l m / 2 ^ j % 2 := by
  have hlt := val_lt (l.drop (m + 1)) (hby.drop _)
  rw [List.length_drop, show l.length - (m + 1) = l.length - 1 - m by omega] at hlt
  rw [val_drop l m h, Nat.pow_add, ← Nat.div_div_eq_div_mul, ← pow_256, Nat.add_comm, Nat.add_mul_div_right _ _ (Nat.pow_pos (by omega)), Nat.div_eq_of_lt hlt, Nat.zero_add]
theorem bit_int8 (x k : Nat) (hx : x < 256) : bits .and .u8 ((x : Int) / 2 ^ k) 1 = ((x / 2 ^ k % 2 : Nat) : Int) := by
  have e : ((x : Int) / 2 ^ k) = ((x / 2 ^ k : Nat) : Int) := by simp
  have h := u8_and_nat (x / 2 ^ k) 1 (Nat.lt_of_le_of_lt (Nat.div_le_self _ _) hx) (by omega)
  rw [show ((1 : Nat) : Int) = 1 from rfl] at h
  rw [e, h, Nat.and_one_is_mod]

set_option maxHeartbeats 400000 in
theorem fromBytes02_any (A : Option Addr) (c : Nat) (l : List Nat) (w : World) (hr : Rd .u8 w w.heap.size A l) (hby : Bytes l) (hl : l.length ≤ 1000000) :
    Calls Try.prog 32 #[.slice A l.length c] w (OutNum (val l) w) := by
  obtain ⟨i0, hi, hz0, hz1, hz2⟩ := info_parts num_info_u8
  go_enter Try.func32, Try.ntmps32
  go_wp2_with fail
  go_loopw [3, 4] (fun v i wr => ∃ k : Nat, k ≤ l.length ∧ i = .int .i64 ((k : Int) - 1) ∧ wr.ownsRow w.heap.size 5 1 v (8 * (l.length - k)) (ints .u8 (bw (8 * (l.length - k)) (val (l.drop k)))) ∧ Below w.heap.size w wr) (fun _ i _ => (intOf i + 1).toNat)
  case atStart => exact ⟨l.length, Nat.le_refl _, rfl, by rw [Nat.sub_self]; exact World.ownsRow_nil _ _ _ _, Below.refl _ _⟩
  case round =>
    obtain ⟨k, hk, rfl, hown, hb⟩ := hrel
    by_cases h0 : k = 0
    · subst h0
      rw [Nat.sub_zero, List.drop_zero] at hown
      obtain ⟨X, d, rfl, hd, _⟩ := own_form hown
      have R1 := Rd.own hown
      have hvl := val_lt l hby
      rw [pow_256] at hvl
      have T := numTrim_any X d (bw (8 * l.length) (val l)) wr R1 (bw_01 _ _) (by rw [length_bw]; omega) (by rw [length_bw]; exact hd)
      rw [length_bw, bv_bw, Nat.mod_eq_of_lt hvl] at T
      have HT := Lib.hid T
      clear T R1 hown hvl
      go_wp2_with fail
      refine (HT.out).mono ?_
      rintro e w1 ⟨Y, f, rfl, hf, R, b1⟩
      go_wp2_with fail
      go_ret
      exact ⟨Y, f, rfl, hf, R, hb.trans (b1.mono hb.size)⟩
    · obtain ⟨m, rfl⟩ : ∃ m, k = m + 1 := ⟨k - 1, by omega⟩
      obtain ⟨wo, hwo⟩ : ∃ wo : World, wo = wr := ⟨_, rfl⟩
      subst hwo
      obtain ⟨b, off, rfl, hbB, hcell⟩ := hr (by omega)
      have hx := hcell m (by omega)
      have hxb := hby _ (nth_mem l m (by omega))
      rw [show 8 * (l.length - (m + 1)) = 8 * (l.length - 1 - m) by omega, ← val_low l m (by omega)] at hown
      have Hx := Lib.hid hx
      have Ho := Lib.hid hown
      clear hcell hx hown
      rw [show (((m + 1 : Nat) : Int) - 1) = (m : Int) by omega]
      go_wp2_with fail
      go_loopw [3, 5] (fun v i wr => ∃ j : Nat, j ≤ 8 ∧ i = .int .i64 j ∧ wr.ownsRow w.heap.size 5 1 v (8 * (l.length - 1 - m) + j) (ints .u8 (bw (8 * (l.length - 1 - m) + j) (val (l.drop m)))) ∧ Below w.heap.size w wr) (fun _ i _ => 8 - (intOf i).toNat)
      case atStart => exact ⟨0, by omega, rfl, Ho.out, hb⟩
      case round =>
        obtain ⟨j, hj, rfl, hown1, hb1⟩ := hrel
        by_cases hj8 : j < 8
        · have hx1 : wr.cell? ⟨b, off + m, none⟩ = some (.int .u8 (nth l m : Int)) := (hb1.cell (p := ⟨b, off + m, none⟩) hbB).trans Hx.out
          go_wp2_with (at_builtin; refine wpList_append_one _ rfl _ _ 28 rfl w.heap.size 5 i0 (.int .u8 0) 1 Try.underlying28 hi hz0 hz1 hz2 rfl _ _ .u8 (bw (8 * (l.length - 1 - m) + j) (val (l.drop m))) rfl hown1 _ (val (l.drop m) / 2 ^ (8 * (l.length - 1 - m) + j) % 2) ?c1 rfl ?c2 ?c3 ?c4 ?_)
          case c1 => rw [bit_int8 _ _ hxb, val_bit l hby m j (by omega)]
          case c2 => unfold maxLen; omega
          case c3 => omega
          case c4 => exact hb1.size
          intro v2 w2 own2 _ b2
          rw [← bw_snoc] at own2
          go_wp2_with fail
          go_roundw
          case rel => exact ⟨j + 1, by omega, by go_num, own2, hb1.trans b2⟩
          case measure => simp [intOf]; omega
        · obtain rfl : j = 8 := by omega
          rw [show 8 * (l.length - 1 - m) + 8 = 8 * (l.length - m) by omega] at hown1
          go_wp2_with fail
          go_roundw
          case rel => exact ⟨m, by omega, rfl, hown1, hb1⟩
          case measure => simp [intOf] <;> omega

theorem nbits_blen (N : Nat) : (nbits N + 7) / 8 = blen N := by
  unfold nbits blen
  by_cases h : N = 0
  · simp [h]
  · rw [if_neg h, if_neg h]; omega
/-- A digit more, from above, of a byte. -/
theorem byte_step (N i j : Nat) (hj : j < 8) : 2 * (N / 2 ^ (8 * i + (j + 1)) % 2 ^ (8 - (j + 1))) + bit N (8 * i + j) = N / 2 ^ (8 * i + j) % 2 ^ (8 - j) := by
  unfold bit
  rw [show 8 * i + (j + 1) = (8 * i + j) + 1 by omega, Nat.pow_succ, ← Nat.div_div_eq_div_mul, show 8 - j = (8 - (j + 1)) + 1 by omega, Nat.pow_succ, Nat.mul_comm (2 ^ (8 - (j + 1))) 2, Nat.mod_mul]
  omega
def byteAt (N i j : Nat) : Nat := N / 2 ^ (8 * i + j) % 2 ^ (8 - j)
theorem byteAt_top (N i : Nat) : byteAt N i 8 = 0 := by simp [byteAt, Nat.mod_one]
theorem byteAt_step (N i j : Nat) (hj : j < 8) : 2 * byteAt N i (j + 1) + bit N (8 * i + j) = byteAt N i j := byte_step N i j hj
theorem byteAt_zero (N i : Nat) : byteAt N i 0 = dig N i := by simp [byteAt, dig, pow_256]
theorem byteAt_lt (N i j : Nat) (hj : 0 < j) : byteAt N i j < 128 := by
  refine Nat.lt_of_lt_of_le (Nat.mod_lt _ (Nat.pow_pos (by omega))) ?_
  exact Nat.pow_le_pow_right (n := 2) (by omega) (show 8 - j ≤ 7 by omega)

set_option maxHeartbeats 400000 in
theorem bytes02_any (A : Option Addr) (c N : Nat) (w : World) (hr : Rd .u8 w w.heap.size A (dg N)) (hn : nbits N ≤ 10000000) :
    Calls Try.prog 35 #[.slice A (nbits N) c] w fun e w' => ∃ v, e = .returned v ∧ w'.ownsRow w.heap.size 5 1 v (blen N) (ints .u8 (be (blen N) N)) ∧ Below w.heap.size w w' := by
  obtain ⟨i0, hi, hz0, hz1, hz2⟩ := info_parts num_info_u8
  have hbl := nbits_blen N
  have hbi : ((nbits N : Int) + 7) / 8 = (blen N : Int) := by omega
  have hble : blen N ≤ 10000000 := by omega
  have Hbi := Lib.hid hbi
  clear hbl hbi
  go_enter Try.func35, Try.ntmps35
  go_wp2_with fail
  rw [Hbi.out]
  go_loopw [3, 4] (fun v i wr => ∃ (k : Nat) (zs : List Nat), k ≤ blen N ∧ i = .int .i64 ((k : Int) - 1) ∧ zs.length + k = blen N ∧ zs ++ be k N = be (blen N) N ∧ wr.ownsRow w.heap.size 5 1 v zs.length (ints .u8 zs) ∧ Below w.heap.size w wr) (fun _ i _ => (intOf i + 1).toNat)
  case atStart => exact ⟨blen N, [], Nat.le_refl _, rfl, by simp, by simp, World.ownsRow_nil _ _ _ _, Below.refl _ _⟩
  case round =>
    obtain ⟨k, zs, hk, rfl, hlen, hcat, hown, hb⟩ := hrel
    have Hlen := Lib.hid hlen
    have Hcat := Lib.hid hcat
    clear hlen hcat
    by_cases h0 : k = 0
    · subst h0
      go_wp2_with fail
      go_ret
      refine ⟨_, rfl, ?_, hb⟩
      have h1 := Hcat.out
      have h2 := Hlen.out
      simp only [be, List.append_nil] at h1
      rw [Nat.add_zero] at h2
      rw [← h1, ← h2]
      exact hown
    · obtain ⟨m, rfl⟩ : ∃ m, k = m + 1 := ⟨k - 1, by omega⟩
      obtain ⟨wo, hwo⟩ : ∃ wo : World, wo = wr := ⟨_, rfl⟩
      subst hwo
      have D := fun j : Nat => digit_any A c N (8 * m + j) wo w.heap.size (hr.below hb) (by omega)
      have HD := Lib.hid D
      clear D
      rw [show (((m + 1 : Nat) : Int) - 1) = (m : Int) by omega]
      go_wp2_with fail
      go_loop [5, 6] (fun n i => ∃ j : Nat, j ≤ 8 ∧ i = .int .i64 ((j : Int) - 1) ∧ n = .int .u8 (byteAt N m j)) (fun _ i => (intOf i + 1).toNat)
      case atStart => exact ⟨8, by omega, rfl, by rw [byteAt_top]; rfl⟩
      case round =>
        obtain ⟨j, hj, rfl, rfl⟩ := hrel
        by_cases hj0 : j = 0
        · subst hj0
          rw [byteAt_zero]
          go_wp2_with (at_builtin; refine wpList_append_one _ rfl _ _ 27 rfl w.heap.size 5 i0 (.int .u8 0) 1 Try.underlying27 hi hz0 hz1 hz2 rfl _ _ .u8 zs rfl hown _ (dig N m) ?c1 rfl ?c2 ?c3 ?c4 ?_)
          case c1 => rfl
          case c2 => unfold maxLen; have := Hlen.out; omega
          case c3 => have := Hlen.out; omega
          case c4 => exact hb.size
          intro v2 w2 own2 _ b2
          go_wp2_with fail
          go_roundw
          case rel => exact ⟨m, zs ++ [dig N m], by omega, rfl, by have := Hlen.out; simp; omega, by rw [← Hcat.out]; simp [be], by simpa using own2, hb.trans b2⟩
          case measure => simp [intOf] <;> omega
        · obtain ⟨q, rfl⟩ : ∃ q, j = q + 1 := ⟨j - 1, by omega⟩
          have hst := byteAt_step N m q (by omega)
          have hlt := byteAt_lt N m (q + 1) (by omega)
          have hbt := bit_lt N (8 * m + q)
          have Hst := Lib.hid hst
          clear hst
          have hD := HD.out q
          rw [show (((8 * m + q : Nat)) : Int) = 8 * (m : Int) + (q : Int) by omega] at hD
          have HD2 := Lib.hid hD
          clear hD
          go_wp2_with fail
          refine (HD2.out).mono ?_
          rintro e w1 ⟨rfl, rfl⟩
          go_wp2_with fail
          go_round
          case rel => exact ⟨q, by omega, by go_num, by rw [← Hst.out]; congr 1 <;> omega⟩
          case measure => simp [intOf] <;> omega
end Go.Proofs.Ytnhoooadnpdnmaa

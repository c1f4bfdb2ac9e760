/- What was put is taken, what is taken is put: the plain facts behind OctetBack; the contract of the document's Trim. Conditions: as typed. -/
import Derived.Test.YticgcjfgonejpaaOctetLongW
namespace Go.Proofs.Yticgcjfgonejpaa
open Go.RowKit

theorem drop_left (l m : List Nat) : (l ++ m).drop l.length = m := by simp
/-- The number that was put in k bytes behind a head. -/
theorem val_put (head : List Nat) (k n : Nat) (rest : List Nat) : val (((head ++ (be k n ++ rest)).drop head.length).take k) = n % 256 ^ k := by
  rw [drop_left, List.take_left' (length_be k n), val_be]
theorem cnt_long (one : List Nat) (N : Nat) (tail : List Nat) (h : blen N < 65536) : cnt (one ++ (long N ++ tail)) one.length = blen N := by
  unfold cnt
  rw [drop_left, long, List.append_assoc, List.take_left' (length_be 2 _), val_be]
  exact Nat.mod_eq_of_lt (by simpa using h)
theorem part_long (one : List Nat) (N : Nat) (tail : List Nat) : ((one ++ (long N ++ tail)).drop (one.length + 2)).take (blen N) = be (blen N) N := by
  have e : one ++ (long N ++ tail) = (one ++ be 2 (blen N)) ++ (be (blen N) N ++ tail) := by simp [long]
  have hl : (one ++ be 2 (blen N)).length = one.length + 2 := by simp [length_be]
  rw [e, ← hl, drop_left, List.take_left' (length_be _ _)]
theorem val_long (N : Nat) : val (be (blen N) N) = N := by rw [val_be, Nat.mod_eq_of_lt (blen_lt N)]
theorem nth_append_right (l m : List Nat) (j : Nat) : nth (l ++ m) (l.length + j) = nth m j := by
  simp only [nth, List.getD_eq_getElem?_getD]
  rw [List.getElem?_append_right (by omega), show l.length + j - l.length = j by omega]
theorem first_long (N : Nat) (h : blen N ≠ 0) : dig N (blen N - 1) ≠ 0 := by
  have hN : N ≠ 0 := fun e => h (by rw [e, blen_zero])
  intro e
  have h1 := blen_lt N
  have h2 := blen_le N hN
  have := (dig_top (blen N - 1) N (by rw [show blen N - 1 + 1 = blen N by omega]; exact h1)).1 e
  omega
theorem stands_long (one : List Nat) (N : Nat) (tail : List Nat) (h : blen N < 65536) : stands (one ++ (long N ++ tail)) one.length = true := by
  simp only [stands, decide_eq_true_eq, cnt_long one N tail h]
  refine ⟨by simp [length_long]; omega, ?_⟩
  rcases Nat.eq_zero_or_pos (blen N) with h0 | h0
  · exact .inl h0
  · right
    have e : one ++ (long N ++ tail) = (one ++ be 2 (blen N)) ++ (be (blen N) N ++ tail) := by simp [long]
    have hl : (one ++ be 2 (blen N)).length = one.length + 2 := by simp [length_be]
    rw [e, ← hl, ← Nat.add_zero (one ++ be 2 (blen N)).length, nth_append_right, nth_left _ _ _ (by rw [length_be]; exact h0), nth_be_any _ _ _ h0, Nat.sub_zero]
    exact first_long N (by omega)
/-- TakeNat at a long number that was put. -/
theorem take_long (one : List Nat) (N : Nat) (tail : List Nat) (most : Int) (h : blen N < 65536) (hm : (blen N : Int) ≤ most) :
    takeNatS (one ++ (long N ++ tail)) (one.length : Int) most = (words ((blen N + 7) / 8) N, ((one.length + 2 + blen N : Nat) : Int), 0) := by
  have hl : (one ++ (long N ++ tail)).length = one.length + (2 + blen N + tail.length) := by simp [length_long]
  unfold takeNatS
  rw [Int.toNat_natCast, cnt_long one N tail h, if_neg (by rw [hl]; omega), if_neg (by rw [hl]; omega), if_neg (by omega), if_pos (stands_long one N tail h), part_long, val_long]
/-- The words of a number, out of any words of it. -/
theorem words_trim (a : List Nat) (h : Words a) : words ((blen (natOf a) + 7) / 8) (natOf a) = a.take ((blen (natOf a) + 7) / 8) := by
  have hb := blen_natOf a h
  refine ext_nth _ _ (by rw [length_words, List.length_take]; omega) fun j hj => ?_
  rw [length_words] at hj
  rw [nth_words _ _ _ hj, ← nth_natOf a h]
  simp [nth, hj]
/-- What TakeNat tells of any bytes from their beginning on. -/
theorem take_raw (raw : List Nat) (hby : Bytes raw) : (takeNatS raw 0 70000 = ([], 0, 3)) ∨
    (2 + cnt raw 0 ≤ raw.length ∧ cnt raw 0 < 65536 ∧ takeNatS raw 0 70000 = (words ((cnt raw 0 + 7) / 8) (val ((raw.drop 2).take (cnt raw 0))), ((2 + cnt raw 0 : Nat) : Int), 0) ∧ long (natOf (words ((cnt raw 0 + 7) / 8) (val ((raw.drop 2).take (cnt raw 0))))) = raw.take (2 + cnt raw 0) ∧
      blen (natOf (words ((cnt raw 0 + 7) / 8) (val ((raw.drop 2).take (cnt raw 0))))) = cnt raw 0) := by
  have hc := cnt_lt raw hby 0
  by_cases h2 : raw.length < 2
  · left
    unfold takeNatS
    rw [if_neg (by omega), if_pos (by simpa using h2)]
  · by_cases hs : stands raw 0 = true
    · right
      have hs' := hs
      simp only [stands, decide_eq_true_eq, Nat.zero_add] at hs'
      obtain ⟨hlen, hfst⟩ := hs'
      have hplen : ((raw.drop 2).take (cnt raw 0)).length = cnt raw 0 := by simp; omega
      have hpb : Bytes ((raw.drop 2).take (cnt raw 0)) := (hby.drop 2).take _
      have hvl : val ((raw.drop 2).take (cnt raw 0)) < 256 ^ cnt raw 0 := val_part_lt raw hby 2 _
      have hN : natOf (words ((cnt raw 0 + 7) / 8) (val ((raw.drop 2).take (cnt raw 0)))) = val ((raw.drop 2).take (cnt raw 0)) := by
        rw [natOf_words]
        refine Nat.mod_eq_of_lt (Nat.lt_of_lt_of_le hvl ?_)
        rw [pow_64]
        exact Nat.pow_le_pow_right (by omega) (by omega)
      have hbl : blen (val ((raw.drop 2).take (cnt raw 0))) = cnt raw 0 := by
        refine blen_eq _ _ hvl fun hne => ?_
        have h0 : nth raw 2 ≠ 0 := hfst.resolve_left hne
        have hd : dig (val ((raw.drop 2).take (cnt raw 0))) (cnt raw 0 - 1) = nth raw 2 := by
          rw [dig_part raw hby 2 (cnt raw 0) _ hlen (by omega), show 2 + cnt raw 0 - 1 - (cnt raw 0 - 1) = 2 by omega]
        have := mt (dig_top (cnt raw 0 - 1) _ (by rw [show cnt raw 0 - 1 + 1 = cnt raw 0 by omega]; exact hvl)).2 (by rw [hd]; exact h0)
        omega
      refine ⟨hlen, hc, ?_, ?_, by rw [hN, hbl]⟩
      · unfold takeNatS
        rw [show (0 : Int).toNat = 0 from rfl, if_neg (by omega), if_neg (by omega), if_neg (by omega), if_pos hs, Nat.zero_add]
      · rw [hN, long, hbl]
        have e1 : be 2 (cnt raw 0) = raw.take 2 := by
          have h := be_val (raw.take 2) (hby.take 2)
          rw [show (raw.take 2).length = 2 by simp; omega] at h
          rw [← h]
          congr 1
        have e2 : be (cnt raw 0) (val ((raw.drop 2).take (cnt raw 0))) = (raw.drop 2).take (cnt raw 0) := by
          have h := be_val _ hpb
          rwa [hplen] at h
        rw [e1, e2, ← List.take_add]
    · left
      unfold takeNatS
      rw [show (0 : Int).toNat = 0 from rfl, if_neg (by omega), if_neg (by omega), if_neg (by omega), if_neg hs]

set_option maxHeartbeats 400000 in
theorem trim_any (A : Option Addr) (c : Nat) (a : List Nat) (w : World) (B : Nat) (hr : Rd .u64 w B A a) (hw : Words a) (hl : a.length ≤ 1099511627776) (hc : a.length ≤ c) :
    Calls Try.prog 17 #[.slice A a.length c] w fun e w' => e = .returned (.slice A ((blen (natOf a) + 7) / 8) c) ∧ w = w' := by
  go_enter Try.func17, Try.ntmps17
  go_wp2_with fail
  go_loop [3] (fun i => ∃ k : Nat, k ≤ a.length ∧ i = .int .i64 k ∧ ∀ j, k ≤ j → nth a j = 0) (fun i => (intOf i).toNat)
  case atStart => exact ⟨a.length, Nat.le_refl _, rfl, fun j hj => by simp [nth, hj]⟩
  case round =>
    obtain ⟨k, hk, rfl, hz⟩ := hrel
    have Hz := Lib.hid hz
    clear hz
    by_cases h0 : k = 0
    · subst h0
      have e : (blen (natOf a) + 7) / 8 = 0 := by rw [natOf_none a fun j => Hz.out j (Nat.zero_le _), blen_zero]
      have He := Lib.hid e
      clear e
      go_wp2_with fail
      go_ret
      refine ⟨?_, rfl⟩
      rw [He.out]
      rfl
    · obtain ⟨m, rfl⟩ : ∃ m, k = m + 1 := ⟨k - 1, by omega⟩
      obtain ⟨b, off, rfl, _, hcell⟩ := hr (by omega)
      have hx := hcell m (by omega)
      have hxw := hw _ (nth_mem a m (by omega))
      clear hcell
      by_cases hx0 : nth a m = 0
      · have hq : (((nth a m : Nat) : Int) == 0) = true := by simpa using hx0
        have Hx := Lib.hid hx0
        clear hx0
        go_wp2_with fail
        go_round
        case rel => exact ⟨m, by omega, by go_num, fun j hj => by (rcases Nat.eq_or_lt_of_le hj with rfl | h); exact Hx.out; exact Hz.out j h⟩
        case measure => simp [intOf] <;> omega
      · have hq : (((nth a m : Nat) : Int) == 0) = false := by simpa using hx0
        have hbl := blen_hit a hw m (by omega) hx0 Hz.out
        obtain ⟨b1, _, _⟩ := Lib.bitLenAux_bounds 64 (nth a m) hxw hx0
        have b2 := bitLen_le64 _ hxw
        have e : (blen (natOf a) + 7) / 8 = m + 1 := by
          have e1 : Lib.bitLen (nth a m) = Lib.bitLenAux 64 (nth a m) := rfl
          omega
        have He := Lib.hid e
        clear e hbl b1 b2 hx0
        go_wp2_with fail
        go_ret
        refine ⟨?_, rfl⟩
        rw [He.out]
        rfl
end Go.Proofs.Yticgcjfgonejpaa

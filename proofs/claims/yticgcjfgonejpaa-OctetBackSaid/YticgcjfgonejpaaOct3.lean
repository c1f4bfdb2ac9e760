/- The contracts of octet's exported functions Put, Take, PutNat, TakeNat. Conditions: as typed (lengths that fit a machine). -/
import Derived.Test.YticgcjfgonejpaaOct2
namespace Go.Proofs.Yticgcjfgonejpaa
open Go.RowKit

theorem put_any (A : Option Addr) (c : Nat) (l : List Nat) (n : Nat) (size : Nat) (w : World) (hr : Rd .u8 w w.heap.size A l) (hl : l.length ≤ 1099511627776) (hn : n < 18446744073709551616) (h1 : 1 ≤ size) (h8 : size ≤ 8) :
    Calls Try.prog 15 #[.slice A l.length c, .int .u64 n, .int .i64 size] w fun e w' => ∃ v, e = .returned v ∧ w'.ownsRow w.heap.size 5 1 v (l.length + size) (ints .u8 (l ++ be size n)) ∧ Below w.heap.size w w' := by
  have hf : isFix (size : Int) = true := by simp [isFix]; omega
  have Hf := Lib.hid hf
  clear hf
  go_enter Try.func15, Try.ntmps15
  go_wp2_with fail
  refine (isFixed_any _ _).mono ?_
  rintro e w1 ⟨rfl, rfl⟩
  rw [Hf.out]
  go_wp2_with fail
  refine (copyWithRoom_any A c size l w hr hl (by omega)).mono ?_
  rintro e w1 ⟨v1, rfl, hown, hb⟩
  go_wp2_with fail
  refine (addFixed_any w.heap.size v1 l n size w1 hown hb.size hn h8 hl).mono ?_
  rintro e w2 ⟨v2, rfl, hown2, hb2⟩
  go_wp2_with fail
  go_ret
  exact ⟨v2, rfl, hown2, hb.trans hb2⟩

theorem take_arg (A : Option Addr) (n c : Nat) (at_ size : Int) (w : World) (h : isFix size = false ∨ at_ < 0 ∨ (n : Int) < at_) :
    Calls Try.prog 16 #[.slice A n c, .int .i64 at_, .int .i64 size] w fun e w' => e = .returned (.tuple #[.int .u64 0, .int .i64 0, .int .i64 1]) ∧ w = w' := by
  by_cases hf : isFix size = false
  · have Hf := Lib.hid hf
    clear hf h
    go_enter Try.func16, Try.ntmps16
    go_wp2_with fail
    go_step3
    go_wp2_with fail
    go_step3
    go_wp2_with fail
    refine (isFixed_any _ _).mono ?_
    rintro e w1 ⟨rfl, rfl⟩
    rw [Hf.out]
    go_wp2_with fail
    rw [Exit.noGoto_ret]
    go_ret3
    exact ⟨rfl, rfl⟩
  · have hf' : isFix size = true := by simpa using hf
    have Hf := Lib.hid hf'
    have h2 : at_ < 0 ∨ (n : Int) < at_ := by rcases h with h | h; exact absurd h hf; exact h
    clear hf h hf'
    by_cases h3 : at_ < 0
    · clear h2
      go_enter Try.func16, Try.ntmps16
      go_wp2_with fail
      go_step3
      go_wp2_with fail
      go_step3
      go_wp2_with fail
      refine (isFixed_any _ _).mono ?_
      rintro e w1 ⟨rfl, rfl⟩
      rw [Hf.out]
      go_wp2_with fail
      rw [Exit.noGoto_ret]
      go_ret3
      exact ⟨rfl, rfl⟩
    · have h4 : (n : Int) < at_ := by omega
      go_enter Try.func16, Try.ntmps16
      go_wp2_with fail
      go_step3
      go_wp2_with fail
      go_step3
      go_wp2_with fail
      refine (isFixed_any _ _).mono ?_
      rintro e w1 ⟨rfl, rfl⟩
      rw [Hf.out]
      go_wp2_with fail
      rw [Exit.noGoto_ret]
      go_ret3
      exact ⟨rfl, rfl⟩

/-- What Take leaves where size and place may be. -/
def TakeOut (l : List Nat) (i size : Nat) (w : World) (e : Ending) (w' : World) : Prop :=
  (i + size ≤ l.length → e = .returned (.tuple #[.int .u64 (val ((l.drop i).take size)), .int .i64 (i + size : Nat), .int .i64 0])) ∧
  (l.length < i + size → e = .returned (.tuple #[.int .u64 0, .int .i64 0, .int .i64 3])) ∧ Below w.heap.size w w'

theorem take_in (A : Option Addr) (c : Nat) (l : List Nat) (i size : Nat) (w : World) (hr : Rd .u8 w w.heap.size A l) (hby : Bytes l) (hl : l.length ≤ 1099511627776)
    (h1 : 1 ≤ size) (h8 : size ≤ 8) (hi : i ≤ l.length) :
    Calls Try.prog 16 #[.slice A l.length c, .int .i64 i, .int .i64 size] w (TakeOut l i size w) := by
  have hf : isFix (size : Int) = true := by simp [isFix]; omega
  have hd : decide ((i : Int) < 0) = false := by simp
  have Hf := Lib.hid hf
  clear hf
  go_enter Try.func16, Try.ntmps16
  go_wp2_with fail
  go_step3
  go_wp2_with fail
  go_step3
  go_wp2_with fail
  refine (isFixed_any _ _).mono ?_
  rintro e w1 ⟨rfl, rfl⟩
  rw [Hf.out]
  go_wp2_with fail
  refine (taker_any _ _ _ _ _).mono ?_
  rintro e w1 ⟨rfl, rfl⟩
  go_wp2_with fail
  go_loopw [6, 16] (fun n j wr => ∃ k : Nat, k ≤ size ∧ j = .int .i64 k ∧ n = .int .u64 (val ((l.drop i).take k)) ∧ i + k ≤ l.length ∧
      wr.cell? ⟨w.heap.size + 1, 0, none⟩ = some (.int .i64 (i + k : Nat)) ∧ wr.frozen? ⟨w.heap.size + 1, 0, none⟩ = false ∧ wr.cell? ⟨w.heap.size, 0, none⟩ = some (.slice A l.length c) ∧ Below w.heap.size w wr ∧ w.heap.size + 2 ≤ wr.heap.size)
    (fun _ j _ => size - (intOf j).toNat)
  case atStart => refine ⟨0, Nat.zero_le _, rfl, rfl, hi, by simp, by simp, by simp, ((Below.refl _ _).alloc (Nat.le_refl _) _).alloc (by simp) _, by simp⟩
  case round =>
    obtain ⟨k, hk, rfl, rfl, hik, hp, hpf, hq, hb, hsz⟩ := hrel
    by_cases hks : k < size
    · by_cases hlt : i + k < l.length
      · have hr1 := hr.below hb
        obtain ⟨b, off, rfl, hbB, hcell⟩ := hr1 (by omega)
        have hx := hcell (i + k) (by omega)
        have hxb := hby _ (nth_mem l (i + k) (by omega))
        have hV : val ((l.drop i).take k) < 72057594037927936 := Nat.lt_of_lt_of_le (val_part_lt l hby i k) (Nat.le_trans (Nat.pow_le_pow_right (by omega) (show k ≤ 7 by omega)) (by decide))
        have Hv := Lib.hid (show (val ((l.drop i).take k) * 256 + nth l (i + k)) = val ((l.drop i).take (k + 1)) by rw [take_drop_succ l i k hlt, val_snoc])
        clear hcell hr1
        go_wp2_with fail
        refine (take_yes _ _ _ _ _ _ _ _ _ hp hpf hq hl hlt hx).mono ?_
        rintro e w2 ⟨rfl, rfl⟩
        go_wp2_with fail
        go_roundw
        case rel =>
          refine ⟨k + 1, by omega, by go_num, by rw [shl8_or _ _ hV hxb, Hv.out], by omega, ?_, ?_, ?_, hb.setCell (by simp) _, by simpa [World.setCell] using hsz⟩
          · rw [World.cell?_setCell_same _ _ _ hp]; rfl
          · rw [World.frozen?_setCell]; exact hpf
          · rw [World.cell?_setCell_other _ _ _ _ (by simp)]; exact hq
        case measure => simp [intOf]; omega
      · have hn : (l.length : Int) ≤ (i + k : Nat) := by omega
        go_wp2_with fail
        refine (take_no _ _ _ _ _ _ _ hp hq hn).mono ?_
        rintro e w2 ⟨rfl, rfl⟩
        go_wp2_with fail
        rw [Exit.noGoto_ret]
        go_ret3
        exact ⟨fun h => by omega, fun _ => rfl, hb⟩
    · go_wp2_with fail
      rw [Exit.noGoto_ret]
      go_ret3
      obtain rfl : k = size := by omega
      exact ⟨fun _ => rfl, fun h => by omega, hb⟩

theorem putNat_no (A A2 : Option Addr) (n c c2 : Nat) (a : List Nat) (w : World) (ha : Rd .u64 w w.heap.size A2 a) (hw : Words a) (hal : a.length ≤ 1099511627776) (h : 65535 < blen (natOf a)) :
    Calls Try.prog 9 #[.slice A n c, .slice A2 a.length c2] w fun e w' => e = .returned (.tuple #[.slice none 0 0, .int .i64 4]) ∧ w = w' := by
  go_enter Try.func9, Try.ntmps9
  go_wp2_with fail
  refine (byteCount_any A2 c2 a w ha hw hal).mono ?_
  rintro e w1 ⟨rfl, rfl⟩
  go_wp2_with fail
  go_ret2
  exact ⟨rfl, rfl⟩

set_option maxHeartbeats 400000 in
theorem putNat_yes (A A2 : Option Addr) (c c2 : Nat) (l a : List Nat) (w : World) (hr : Rd .u8 w w.heap.size A l) (hl : l.length ≤ 1099511627776) (ha : Rd .u64 w w.heap.size A2 a) (hw : Words a) (hal : a.length ≤ 1099511627776) (h : blen (natOf a) ≤ 65535) :
    Calls Try.prog 9 #[.slice A l.length c, .slice A2 a.length c2] w fun e w' =>
      ∃ v, e = .returned (.tuple #[v, .int .i64 0]) ∧ w'.ownsRow w.heap.size 5 1 v (l ++ long (natOf a)).length (ints .u8 (l ++ long (natOf a))) ∧ Below w.heap.size w w' := by
  obtain ⟨i0, hi, hz0, hz1, hz2⟩ := info_parts info_u8
  have hbn := blen_natOf a hw
  go_enter Try.func9, Try.ntmps9
  go_wp2_with fail
  refine (byteCount_any A2 c2 a w ha hw hal).mono ?_
  rintro e w1 ⟨rfl, rfl⟩
  go_wp2_with fail
  rw [show (2 + (blen (natOf a) : Int)) = ((2 + blen (natOf a) : Nat) : Int) by omega]
  refine (copyWithRoom_any A c (2 + blen (natOf a)) l w hr hl (by omega)).mono ?_
  rintro e w1 ⟨v1, rfl, hown, hb⟩
  go_wp2_with fail
  refine (addFixed_any w.heap.size v1 l (blen (natOf a)) 2 w1 hown hb.size (by omega) (by omega) hl).mono ?_
  rintro e w2 ⟨v2, rfl, hown2, hb2⟩
  have hb12 := hb.trans hb2
  clear hown hb hb2
  go_wp2_with fail
  go_loopw [7, 8] (fun u i wr => ∃ (k : Nat) (zs : List Nat), k ≤ blen (natOf a) ∧ i = .int .i64 ((k : Int) - 1) ∧ zs.length + k = l.length + 2 + blen (natOf a) ∧ zs ++ be k (natOf a) = l ++ long (natOf a) ∧ wr.ownsRow w.heap.size 5 1 u zs.length (ints .u8 zs) ∧ Below w.heap.size w wr) (fun _ i _ => (intOf i + 1).toNat)
  case atStart => exact ⟨blen (natOf a), l ++ be 2 (blen (natOf a)), Nat.le_refl _, rfl, by simp [length_be], by simp [long], by simpa [length_be] using hown2, hb12⟩
  case round =>
    obtain ⟨k, zs, hk, rfl, hlen, hcat, hown1, hb⟩ := hrel
    have Hlen := Lib.hid hlen
    have Hcat := Lib.hid hcat
    clear hlen hcat hown2
    by_cases h0 : k = 0
    · subst h0
      go_wp2_with fail
      go_ret2
      refine ⟨_, rfl, ?_, hb⟩
      have h1 := Hcat.out
      simp only [be, List.append_nil] at h1
      rw [← h1]
      exact hown1
    · obtain ⟨m, rfl⟩ : ∃ m, k = m + 1 := ⟨k - 1, by omega⟩
      obtain ⟨b, off, rfl, hbB, hcell⟩ := (ha.below hb) (by omega)
      have hx := hcell (m / 8) (by omega)
      have hxw := hw _ (nth_mem a (m / 8) (by omega))
      clear hcell
      go_wp2_with (at_builtin; refine wpList_append_one _ rfl _ _ 22 rfl w.heap.size 5 i0 (.int .u8 0) 1 Try.underlying22 hi hz0 hz1 hz2 rfl _ _ .u8 zs rfl hown1 _ (dig (natOf a) m) ?c1 rfl ?c2 ?c3 ?c4 ?_)
      case c1 => exact word_byte_int a hw m
      case c2 => unfold maxLen; have := Hlen.out; omega
      case c3 => have := Hlen.out; omega
      case c4 => exact hb.size
      intro v' w3 hown2 _ hb1
      go_wp2
      go_roundw
      case rel => exact ⟨m, zs ++ [dig (natOf a) m], by omega, rfl, by have := Hlen.out; simp; omega, by rw [← Hcat.out]; simp [be], by simpa using hown2, hb.trans hb1⟩
      case measure => simp [intOf] <;> omega
end Go.Proofs.Yticgcjfgonejpaa

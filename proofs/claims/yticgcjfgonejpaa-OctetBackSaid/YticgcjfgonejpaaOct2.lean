/- The contracts of octet's byteCount, copyWithRoom and addFixed: how many bytes a number needs; a copy with room; a fixed number appended. Conditions: as typed (lengths that fit a machine). -/
import Derived.Test.YticgcjfgonejpaaOct1
import Derived.Test.YticgcjfgonejpaaMath
import Derived.Deep.LoopGhost
namespace Go.Proofs.Yticgcjfgonejpaa
open Go.RowKit

theorem info_u8 : (Try.prog.info? 5).map (fun i => (i.zero, i.size, i.bytes)) = some (some (.int .u8 0), 1, 1) := by kernel_rfl
theorem info_u64 : (Try.prog.info? 35).map (fun i => (i.zero, i.size, i.bytes)) = some (some (.int .u64 0), 1, 8) := by kernel_rfl

set_option maxHeartbeats 400000 in
theorem byteCount_any (A : Option Addr) (c : Nat) (l : List Nat) (w : World) (hr : Rd .u64 w w.heap.size A l) (hw : Words l) (hl : l.length ≤ 1099511627776) :
    Calls Try.prog 19 #[.slice A l.length c] w fun e w' => e = .returned (.int .i64 (blen (natOf l))) ∧ w = w' := by
  go_enter Try.func19, Try.ntmps19
  go_wp2
  go_loop [3] (fun i => ∃ k : Nat, k ≤ l.length ∧ i = .int .i64 ((k : Int) - 1) ∧ ∀ j, k ≤ j → nth l j = 0) (fun i => (intOf i + 1).toNat)
  case atStart => exact ⟨l.length, Nat.le_refl _, rfl, fun j hj => by simp [nth, hj]⟩
  case round =>
    obtain ⟨k, hk, rfl, hz⟩ := hrel
    by_cases h0 : k = 0
    · subst h0
      have hn := natOf_none l fun j => hz j (Nat.zero_le _)
      have Hn := Lib.hid hn
      clear hn hz
      go_wp2
      go_ret
      exact ⟨ret_num (by rw [Hn.out, blen_zero]; rfl), rfl⟩
    · obtain ⟨b, off, rfl, hb, hcell⟩ := hr (by omega)
      obtain ⟨m, rfl⟩ : ∃ m, k = m + 1 := ⟨k - 1, by omega⟩
      have hc := hcell m (by omega)
      have hx := hw _ (nth_mem l m (by omega))
      have hbl := bitLen_le64 _ hx
      have Hz := Lib.hid hz
      clear hcell hz
      by_cases hx0 : nth l m = 0
      · have hb0 : (((nth l m : Nat) : Int) != 0) = false := by simp [hx0]
        have Hx0 := Lib.hid hx0
        clear hx0
        go_wp2_with fail
        go_round
        case rel => exact ⟨m, by omega, rfl, fun j hj => by rcases Nat.eq_or_lt_of_le hj with rfl | h; exact Hx0.out; exact Hz.out j h⟩
        case measure => simp [intOf] <;> omega
      · have hb0 : (((nth l m : Nat) : Int) != 0) = true := by simp [hx0]
        have Hh := Lib.hid (blen_hit l hw m (by omega) hx0 Hz.out)
        clear hx0 hw
        go_wp2_with fail
        refine (Try.bits_Len64 _ _ (by omega) (by omega)).mono ?_
        rintro e w' ⟨rfl, rfl⟩
        rw [Int.toNat_natCast]
        go_wp2_with fail
        go_ret
        exact ⟨ret_num (by rw [Hh.out]; omega), rfl⟩

set_option maxHeartbeats 400000 in
/-- b in new memory, with room behind it. -/
theorem copyWithRoom_any (A : Option Addr) (c more : Nat) (l : List Nat) (w : World) (hr : Rd .u8 w w.heap.size A l) (hl : l.length ≤ 1099511627776) (hm : more ≤ 1099511627776) :
    Calls Try.prog 21 #[.slice A l.length c, .int .i64 more] w fun e w' => ∃ v, e = .returned v ∧ w'.ownsRow w.heap.size 5 1 v l.length (ints .u8 l) ∧ Below w.heap.size w w' := by
  obtain ⟨i0, hi, hz0, hz1, hz2⟩ := info_parts info_u8
  have hmk : ∀ u : World, (Instr.makeSlice 22 (.int .i64 (l.length : Int)) (.int .i64 ((l.length : Int) + (more : Int)))).run Try.prog u =
      .ok (.slice (some ⟨u.heap.size, 0, none⟩) l.length (l.length + more)) (u.alloc (.cells (List.replicate (l.length + more) (Value.int .u8 0)).toArray 5)) := fun u => by
    have h := run_make (P := Try.prog) u 22 5 i0 (.int .u8 0) Try.underlying22 hi hz0 .i64 .i64 (l.length : Int) ((l.length : Int) + (more : Int)) (by omega) (by omega) (by rw [hz2]; omega) (by omega)
    rw [show ((l.length : Int) + (more : Int)).toNat = l.length + more by omega, Int.toNat_natCast, hz1, Nat.mul_one] at h
    rw [h, ← toList_madeCells_one]
    rfl
  have hlen : l.length ≤ l.length + more := Nat.le_add_right _ _
  go_enter Try.func21, Try.ntmps21
  go_wp2_with (with_reducible refine wpList_copy_splice rfl (.tmp 13) (.tmp 14) _ _ rfl 5 Try.underlying22 (by rw [hi]; simp [hz1]) (some ⟨w.heap.size, 0, none⟩) A l.length (l.length + more) l.length c rfl rfl w.heap.size 0 (List.replicate (l.length + more) (Value.int .u8 0)) 5 ?c1 (ints .u8 l) ?c2 ?c3 ?c4 ?c5 w.heap.size w ?c6 (Nat.le_refl _) ?_)
  case c1 => have h := heap_alloc_new w (.cells (List.replicate (l.length + more) (Value.int .u8 0)).toArray 5); simpa using h
  case c2 => rw [length_ints]; simp
  case c3 => exact (hr.below ((Below.refl _ _).alloc (Nat.le_refl _) _)).src
  case c4 => simp [length_ints]
  case c5 => exact ints_one _ _
  case c6 => exact (Below.refl _ _).alloc (Nat.le_refl _) _
  intro w2 hh hb
  go_wp2
  go_ret
  refine ⟨_, rfl, own_of_heap hh.out (Nat.le_refl _) (Nat.le_add_right _ _) (by unfold maxLen; omega) ?_ ?_, hb⟩
  · rw [length_splice _ _ _ (by simp [length_ints])]; simp
  · simp [splice, ← length_ints .u8 l]

set_option maxHeartbeats 400000 in
/-- The lowest bytes of a number, appended to a row of the caller's own. -/
theorem addFixed_any (base : Nat) (v : Value) (ys : List Nat) (n size : Nat) (w : World) (hown : w.ownsRow base 5 1 v ys.length (ints .u8 ys)) (hbase : base ≤ w.heap.size)
    (_hn : n < 18446744073709551616) (hs : size ≤ 8) (hl : ys.length ≤ 1099511627776) :
    Calls Try.prog 20 #[v, .int .u64 n, .int .i64 size] w fun e w' => ∃ v', e = .returned v' ∧ w'.ownsRow base 5 1 v' (ys.length + size) (ints .u8 (ys ++ be size n)) ∧ Below base w w' := by
  obtain ⟨i0, hi, hz0, hz1, hz2⟩ := info_parts info_u8
  go_enter Try.func20, Try.ntmps20
  go_wp2
  go_loopw [0, 7] (fun u i wr => ∃ (k : Nat) (zs : List Nat), k ≤ size ∧ i = .int .i64 ((k : Int) - 1) ∧ zs.length + k = ys.length + size ∧ zs ++ be k n = ys ++ be size n ∧ wr.ownsRow base 5 1 u zs.length (ints .u8 zs) ∧ Below base w wr) (fun _ i _ => (intOf i + 1).toNat)
  case atStart => exact ⟨size, ys, Nat.le_refl _, rfl, rfl, rfl, hown, Below.refl _ _⟩
  case round =>
    obtain ⟨k, zs, hk, rfl, hlen, hcat, hown1, hb⟩ := hrel
    have Hlen := Lib.hid hlen
    have Hcat := Lib.hid hcat
    clear hlen hcat
    by_cases h0 : k = 0
    · subst h0
      go_wp2_with fail
      go_ret
      refine ⟨_, rfl, ?_, hb⟩
      have h1 := Hcat.out
      have h2 := Hlen.out
      simp only [be, List.append_nil] at h1
      rw [← h1, ← h2]
      exact hown1
    · obtain ⟨m, rfl⟩ : ∃ m, k = m + 1 := ⟨k - 1, by omega⟩
      go_wp2_with (at_builtin; refine wpList_append_one _ rfl _ _ 22 rfl base 5 i0 (.int .u8 0) 1 Try.underlying22 hi hz0 hz1 hz2 rfl _ _ .u8 zs rfl hown1 _ (dig n m) ?c1 rfl ?c2 ?c3 ?c4 ?_)
      case c1 => exact dig_int n m
      case c2 => unfold maxLen; have := Hlen.out; omega
      case c3 => have := Hlen.out; omega
      case c4 => have := hb.size; omega
      intro v' w1 hown2 _ hb1
      go_wp2
      go_roundw
      case rel => exact ⟨m, zs ++ [dig n m], by omega, rfl, by have := Hlen.out; simp; omega, by rw [← Hcat.out]; simp [be], by simpa using hown2, hb.trans hb1⟩
      case measure => simp [intOf] <;> omega
end Go.Proofs.Yticgcjfgonejpaa

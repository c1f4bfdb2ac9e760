/- The contracts of the document's numbers to the base 2: trim, Digits. Conditions: as typed (lengths that fit a machine). -/
import Derived.Test.YtjimnepjheppgaaNum
import Derived.Test.YtjimnepjheppgaaProg
import Derived.BigQuiet
import Derived.Deep.QuietTactic
import Derived.Outline
import Derived.BigRegion
import Derived.RegionTactic
import Derived.Deep.LoopGhost
import Derived.WalkLawsBesides
namespace Go.Proofs.Ytjimnepjheppgaa
open Go.RowKit
set_option maxRecDepth 20000

theorem num_info_u8 : (Try.prog.info? 5).map (fun i => (i.zero, i.size, i.bytes)) = some (some (.int .u8 0), 1, 1) := by kernel_rfl
theorem num_info_u64 : (Try.prog.info? 24).map (fun i => (i.zero, i.size, i.bytes)) = some (some (.int .u64 0), 1, 8) := by kernel_rfl

/-- The digits of a number are answered. -/
def OutNum (N : Nat) (w : World) (e : Ending) (w' : World) : Prop := ∃ X d, e = .returned (.slice X (nbits N) d) ∧ nbits N ≤ d ∧ Rd .u8 w' w'.heap.size X (dg N) ∧ Below w.heap.size w w'

/-- The digits of a number are answered, in new memory. -/
def OutNumO (N : Nat) (w : World) (e : Ending) (w' : World) : Prop := ∃ v, e = .returned v ∧ w'.ownsRow w.heap.size 5 1 v (nbits N) (ints .u8 (dg N)) ∧ Below w.heap.size w w'
theorem OutNumO.num {N : Nat} {w w' : World} {e : Ending} (h : OutNumO N w e w') : OutNum N w e w' := by
  obtain ⟨v, he, own, b⟩ := h
  obtain ⟨X, d, rfl, hd, _⟩ := own_form own
  exact ⟨X, d, he, hd, Rd.own own, b⟩

set_option maxHeartbeats 400000 in
theorem numTrimO_any (A : Option Addr) (c : Nat) (l : List Nat) (w : World) (hr : Rd .u8 w w.heap.size A l) (hb : Bits01 l) (hl : l.length ≤ 1099511627776) (hc : l.length ≤ c) :
    Calls Try.prog 46 #[.slice A l.length c] w (OutNumO (bv l) w) := by
  obtain ⟨i0, hi, hz0, hz1, hz2⟩ := info_parts num_info_u8
  have hnb := nbits_bv_le l hb
  go_enter Try.func46, Try.ntmps46
  go_wp2_with fail
  go_loop [3] (fun i => ∃ k : Nat, k ≤ l.length ∧ nbits (bv l) ≤ k ∧ i = .int .i64 k) (fun i => (intOf i).toNat)
  case atStart => exact ⟨l.length, Nat.le_refl _, hnb, rfl⟩
  case round =>
    obtain ⟨k, hk, hnk, rfl⟩ := hrel
    by_cases hend : k = nbits (bv l)
    · obtain rfl := hend
      by_cases hp : 0 < nbits (bv l)
      · have hl1 := nth_last_bit l hb hp
        have hs : (((nth l (nbits (bv l) - 1) : Nat) : Int) == 0) = false := by rw [hl1]; rfl
        obtain ⟨b, off, rfl, hbB, hcell⟩ := hr (by omega)
        have hx := hcell (nbits (bv l) - 1) (by omega)
        have hR := hr.take (nbits (bv l))
        rw [take_dg l hb] at hR
        have HR := Lib.hid hR
        clear hcell hl1 hR
        go_wp2_with (at_builtin; refine wpList_append_rd _ rfl (.tmp 18) (.tmp 21) _ rfl w.heap.size 5 i0 _ 1 Try.underlying50 hi hz0 hz1 hz2 rfl (.slice (some ⟨w.heap.size, 0, none⟩) 0 0) 0 [] rfl ?c1 .u8 w.heap.size (some ⟨b, off, none⟩) (nbits (bv l)) c (dg (bv l)) rfl ?c2 ?c3 ?c4 ?c5 ?c6 ?_)
        case c1 => exact own_of_heap (cur := []) (heap_alloc_new w (.cells #[] 5)) (Nat.le_refl _) (Nat.le_refl _) (Nat.zero_le _) rfl rfl
        case c2 => exact length_dg _
        case c3 => exact HR.out.below ((Below.refl _ _).alloc (Nat.le_refl _) _)
        case c4 => unfold maxLen; omega
        case c5 => omega
        intro v1 w1 own1 hg1
        have b1 : Below w.heap.size w w1 := ((Below.refl _ _).alloc (Nat.le_refl _) _).grown hg1 (by simp) (by simp [Value.ownBlock])
        have own1' : w1.ownsRow w.heap.size 5 1 v1 (nbits (bv l)) (ints .u8 (dg (bv l))) := by simpa using own1
        obtain ⟨X, d, rfl, hd, _⟩ := own_form own1'
        have HO := Lib.hid own1'
        clear own1 own1' hg1
        go_wp2_with fail
        go_ret
        exact ⟨_, rfl, HO.out, b1⟩
      · have h0 : nbits (bv l) = 0 := by omega
        have hR := hr.take (nbits (bv l))
        rw [take_dg l hb] at hR
        have HR := Lib.hid hR
        clear hR
        have hnp : ¬ (0 : Int) < (nbits (bv l) : Int) := by omega
        clear h0
        go_wp2_with (at_builtin; refine wpList_append_rd _ rfl (.tmp 18) (.tmp 21) _ rfl w.heap.size 5 i0 _ 1 Try.underlying50 hi hz0 hz1 hz2 rfl (.slice (some ⟨w.heap.size, 0, none⟩) 0 0) 0 [] rfl ?c1 .u8 w.heap.size A (nbits (bv l)) c (dg (bv l)) rfl ?c2 ?c3 ?c4 ?c5 ?c6 ?_)
        case c1 => exact own_of_heap (cur := []) (heap_alloc_new w (.cells #[] 5)) (Nat.le_refl _) (Nat.le_refl _) (Nat.zero_le _) rfl rfl
        case c2 => exact length_dg _
        case c3 => exact HR.out.below ((Below.refl _ _).alloc (Nat.le_refl _) _)
        case c4 => unfold maxLen; omega
        case c5 => omega
        intro v1 w1 own1 hg1
        have b1 : Below w.heap.size w w1 := ((Below.refl _ _).alloc (Nat.le_refl _) _).grown hg1 (by simp) (by simp [Value.ownBlock])
        have own1' : w1.ownsRow w.heap.size 5 1 v1 (nbits (bv l)) (ints .u8 (dg (bv l))) := by simpa using own1
        obtain ⟨X, d, rfl, hd, _⟩ := own_form own1'
        have HO := Lib.hid own1'
        clear own1 own1' hg1
        go_wp2_with fail
        go_ret
        exact ⟨_, rfl, HO.out, b1⟩
    · obtain ⟨m, rfl⟩ : ∃ m, k = m + 1 := ⟨k - 1, by omega⟩
      have hx0 := nth_over_bits l hb m (by omega)
      obtain ⟨b, off, rfl, hbB, hcell⟩ := hr (by omega)
      have hx := hcell m (by omega)
      rw [hx0] at hx
      clear hcell hx0
      go_wp2_with fail
      go_round
      case rel => exact ⟨m, by omega, by omega, by go_num⟩
      case measure => simp [intOf] <;> omega

theorem numTrim_any (A : Option Addr) (c : Nat) (l : List Nat) (w : World) (hr : Rd .u8 w w.heap.size A l) (hb : Bits01 l) (hl : l.length ≤ 1099511627776) (hc : l.length ≤ c) :
    Calls Try.prog 46 #[.slice A l.length c] w (OutNum (bv l) w) := Calls.mono (numTrimO_any A c l w hr hb hl hc) fun _ _ h => h.num

theorem bit_int (x k : Nat) (hx : x < 18446744073709551616) : bits .and .u64 ((x : Int) / 2 ^ k) 1 % 256 = ((x / 2 ^ k % 2 : Nat) : Int) := by
  have e : ((x : Int) / 2 ^ k) = ((x / 2 ^ k : Nat) : Int) := by simp
  have h := u64_and_nat (x / 2 ^ k) 1 (Nat.lt_of_le_of_lt (Nat.div_le_self _ _) hx) (by omega)
  rw [show ((1 : Nat) : Int) = 1 from rfl] at h
  rw [e, h, Nat.and_one_is_mod]
  omega

set_option maxHeartbeats 400000 in
theorem digits_any (A : Option Addr) (c : Nat) (a : List Nat) (w : World) (hr : Rd .u64 w w.heap.size A a) (hw : Words a) (hl : a.length ≤ 1000000) :
    Calls Try.prog 25 #[.slice A a.length c] w (OutNum (natOf a) w) := by
  obtain ⟨i0, hi, hz0, hz1, hz2⟩ := info_parts num_info_u8
  go_enter Try.func25, Try.ntmps25
  go_wp2_with fail
  go_loopw [3, 4] (fun v i wr => ∃ k : Nat, k ≤ a.length ∧ i = .int .i64 k ∧ wr.ownsRow w.heap.size 5 1 v (64 * k) (ints .u8 (bw (64 * k) (natOf a))) ∧ Below w.heap.size w wr) (fun _ i _ => a.length - (intOf i).toNat)
  case atStart => exact ⟨0, Nat.zero_le _, rfl, World.ownsRow_nil _ _ _ _, Below.refl _ _⟩
  case round =>
    obtain ⟨k, hk, rfl, hown, hb⟩ := hrel
    by_cases hlt : k < a.length
    · obtain ⟨wo, hwo⟩ : ∃ wo : World, wo = wr := ⟨_, rfl⟩
      subst hwo
      obtain ⟨b, off, rfl, hbB, hcell⟩ := hr (by omega)
      have hx := hcell k hlt
      have hxw := hw _ (nth_mem a k hlt)
      have Hx := Lib.hid hx
      clear hcell hx
      go_wp2_with fail
      go_loopw [3, 5] (fun v i wr => ∃ j : Nat, j ≤ 64 ∧ i = .int .i64 j ∧ wr.ownsRow w.heap.size 5 1 v (64 * k + j) (ints .u8 (bw (64 * k + j) (natOf a))) ∧ Below w.heap.size w wr) (fun _ i _ => 64 - (intOf i).toNat)
      case atStart => exact ⟨0, by omega, rfl, hown, hb⟩
      case round =>
        obtain ⟨j, hj, rfl, hown1, hb1⟩ := hrel
        by_cases hj64 : j < 64
        · have hx1 : wr.cell? ⟨b, off + k, none⟩ = some (.int .u64 (nth a k : Int)) := (hb1.cell (p := ⟨b, off + k, none⟩) hbB).trans Hx.out
          go_wp2_with (at_builtin; refine wpList_append_one _ rfl _ _ 50 rfl w.heap.size 5 i0 (.int .u8 0) 1 Try.underlying50 hi hz0 hz1 hz2 rfl _ _ .u8 (bw (64 * k + j) (natOf a)) rfl hown1 _ (natOf a / 2 ^ (64 * k + j) % 2) ?c1 rfl ?c2 ?c3 ?c4 ?_)
          case c1 => rw [bit_int _ _ hxw, bit_of_word a hw k j hj64]
          case c2 => unfold maxLen; omega
          case c3 => omega
          case c4 => exact hb1.size
          intro v2 w2 own2 _ b2
          rw [← bw_snoc] at own2
          go_wp2_with fail
          go_roundw
          case rel => exact ⟨j + 1, by omega, by go_num, own2, hb1.trans b2⟩
          case measure => simp [intOf]; omega
        · obtain rfl : j = 64 := by omega
          rw [show 64 * k + 64 = 64 * (k + 1) by omega] at hown1
          go_wp2_with fail
          go_roundw
          case rel => exact ⟨k + 1, by omega, by go_num, hown1, hb1⟩
          case measure => simp [intOf]; omega
    · obtain rfl : k = a.length := by omega
      obtain ⟨X, d, rfl, hd, _⟩ := own_form hown
      have R1 := Rd.own hown
      have T := numTrim_any X d (bw (64 * a.length) (natOf a)) wr R1 (bw_01 _ _) (by rw [length_bw]; omega) (by rw [length_bw]; exact hd)
      rw [length_bw, bv_bw, Nat.mod_eq_of_lt (natOf_lt2 a hw)] at T
      have HT := Lib.hid T
      clear T R1 hown
      go_wp2_with fail
      refine (HT.out).mono ?_
      rintro e w1 ⟨Y, f, rfl, hf, R, b1⟩
      go_wp2_with fail
      go_ret
      exact ⟨Y, f, rfl, hf, R, hb.trans (b1.mono hb.size)⟩
end Go.Proofs.Ytjimnepjheppgaa

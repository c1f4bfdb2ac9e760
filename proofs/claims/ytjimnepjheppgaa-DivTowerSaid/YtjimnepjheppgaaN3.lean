/- The contracts of the document's Same, Copy, Is, Of, Small, Less, digit. Conditions: as typed. -/
import Derived.Test.YtjimnepjheppgaaN2
namespace Go.Proofs.Ytjimnepjheppgaa
open Go.RowKit
set_option maxRecDepth 20000

theorem ret_bool2 {a b : Bool} (h : a = b) : Ending.returned (.bool a) = .returned (.bool b) := by rw [h]

set_option maxHeartbeats 400000 in
theorem same02_any (A A2 : Option Addr) (c c2 : Nat) (l m : List Nat) (w : World) (B : Nat) (h1 : Rd .u64 w B A l) (h2 : Rd .u64 w B A2 m) (hl : l.length ≤ 1099511627776) (_hm : m.length ≤ 1099511627776) :
    Calls Try.prog 13 #[.slice A l.length c, .slice A2 m.length c2] w fun e w' => e = .returned (.bool (decide (l = m))) ∧ Drawn w w' := by
  by_cases hne : l.length = m.length
  · have hb : ((l.length : Int) != (m.length : Int)) = false := by simp [hne]
    have Hne := Lib.hid hne
    clear hne
    go_enter Try.func13, Try.ntmps13
    go_wp2_with fail
    go_loopw [5] (fun i wr => ∃ k : Nat, k ≤ l.length ∧ i = .int .i64 k ∧ (∀ j, j < k → nth l j = nth m j) ∧ Drawn w wr) (fun i _ => l.length - (intOf i).toNat)
    case atStart => exact ⟨0, Nat.zero_le _, rfl, fun j hj => absurd hj (by omega), Drawn.refl w⟩
    case round =>
      obtain ⟨k, hk, rfl, hsame, nq, rfl⟩ := hrel
      have Hs := Lib.hid hsame
      clear hsame
      by_cases hlt : k < l.length
      · obtain ⟨b, off, rfl, _, hc⟩ := h1 (by omega)
        obtain ⟨b2, off2, rfl, _, hc2⟩ := h2 (by have := Hne.out; omega)
        have e1 := hc k hlt
        have e2 := hc2 k (by have := Hne.out; omega)
        have hkm : k < m.length := by have := Hne.out; omega
        clear hc hc2
        by_cases hx : nth l k = nth m k
        · have hxb : (((nth l k : Nat) : Int) != ((nth m k : Nat) : Int)) = false := by simp [hx]
          have Hx := Lib.hid hx
          clear hx
          go_wp2_with fail
          go_quiet (fail)
          go_wp2_with fail
          go_roundw
          case rel => exact ⟨k + 1, by omega, by go_num, fun j hj => by (rcases Nat.lt_succ_iff_lt_or_eq.1 hj with h | rfl); exact Hs.out j h; exact Hx.out, Drawn.more _⟩
          case measure => simp [intOf]; omega
        · have hxb : (((nth l k : Nat) : Int) != ((nth m k : Nat) : Int)) = true := by simp; omega
          have Hx := Lib.hid hx
          clear hx
          go_wp2_with fail
          go_quiet (fail)
          go_wp2_with fail
          go_ret
          refine ⟨?_, (Drawn.more _).draws _⟩
          have : l ≠ m := fun e => Hx.out (by rw [e])
          simp [this]
      · go_wp2_with fail
        go_ret
        refine ⟨?_, Drawn.more _⟩
        have : l = m := ext_nth _ _ Hne.out fun j hj => Hs.out j (by omega)
        simp [this]
  · have hb : ((l.length : Int) != (m.length : Int)) = true := by simp; omega
    have Hne := Lib.hid hne
    clear hne
    go_enter Try.func13, Try.ntmps13
    go_wp2_with fail
    go_ret
    refine ⟨?_, Drawn.refl _⟩
    have : l ≠ m := fun e => Hne.out (by rw [e])
    simp [this]

/-- Words are answered, in new memory. -/
def OutRow (l : List Nat) (w : World) (e : Ending) (w' : World) : Prop := ∃ v, e = .returned v ∧ w'.ownsRow w.heap.size 24 1 v l.length (ints .u64 l) ∧ Below w.heap.size w w'

theorem copy02_any (A : Option Addr) (c : Nat) (l : List Nat) (w : World) (hr : Rd .u64 w w.heap.size A l) (hl : l.length ≤ 1000000) :
    Calls Try.prog 9 #[.slice A l.length c] w (OutRow l w) := by
  obtain ⟨i0, hi, hz0, hz1, hz2⟩ := info_parts num_info_u64
  go_enter Try.func9, Try.ntmps9
  go_wp2_with (at_builtin; refine wpList_append_rd _ rfl (.tmp 3) (.tmp 4) _ rfl w.heap.size 24 i0 _ 8 Try.underlying23 hi hz0 hz1 hz2 rfl (.slice (some ⟨w.heap.size, 0, none⟩) 0 0) 0 [] rfl ?c1 .u64 w.heap.size A l.length c l rfl rfl ?c3 ?c4 ?c5 ?c6 ?_)
  case c1 => exact own_of_heap (cur := []) (heap_alloc_new w (.cells #[] 24)) (Nat.le_refl _) (Nat.le_refl _) (Nat.zero_le _) rfl rfl
  case c3 => exact hr.below ((Below.refl _ _).alloc (Nat.le_refl _) _)
  case c4 => unfold maxLen; omega
  case c5 => omega
  case c6 => simp
  intro v1 w1 own1 hg1
  have b1 : Below w.heap.size w w1 := ((Below.refl _ _).alloc (Nat.le_refl _) _).grown hg1 (by simp) (by simp [Value.ownBlock])
  have own1' : w1.ownsRow w.heap.size 24 1 v1 l.length (ints .u64 l) := by simpa using own1
  have Ho := Lib.hid own1'
  clear own1 own1' hg1
  go_wp2_with fail
  go_ret
  exact ⟨v1, rfl, Ho.out, b1⟩

end Go.Proofs.Ytjimnepjheppgaa

/- The contracts of the document's Same and Trim, and of the examples ('works'): they hold. Conditions: as typed. -/
import Derived.Test.YticgcjfgonejpaaOct4
namespace Go.Proofs.Yticgcjfgonejpaa
open Go.RowKit

set_option maxHeartbeats 400000 in
theorem same_any (A A2 : Option Addr) (c c2 : Nat) (l m : List Nat) (w : World) (B : Nat) (h1 : Rd .u64 w B A l) (h2 : Rd .u64 w B A2 m) (hl : l.length ≤ 1099511627776) (_hm : m.length ≤ 1099511627776) :
    Calls Try.prog 12 #[.slice A l.length c, .slice A2 m.length c2] w fun e w' => e = .returned (.bool (decide (l = m))) ∧ Drawn w w' := by
  by_cases hne : l.length = m.length
  · have hb : ((l.length : Int) != (m.length : Int)) = false := by simp [hne]
    have Hne := Lib.hid hne
    clear hne
    go_enter Try.func12, Try.ntmps12
    go_wp2_with fail
    go_loopw [5] (fun i wr => ∃ k : Nat, k ≤ l.length ∧ i = .int .i64 k ∧ (∀ j, j < k → nth l j = nth m j) ∧ Drawn w wr) (fun i _ => l.length - (intOf i).toNat)
    case atStart => exact ⟨0, Nat.zero_le _, rfl, fun j hj => absurd hj (by omega), Drawn.refl w⟩
    case round =>
      obtain ⟨k, hk, rfl, hsame, nq, rfl⟩ := hrel
      have Hs := Lib.hid hsame
      clear hsame
      by_cases hlt : k < l.length
      · obtain ⟨b, off, rfl, _, hc⟩ := h1 (by omega)
        obtain ⟨b2, off2, rfl, _, hc2⟩ := h2 (by have := Hne.out; omega)
        have e1 := hc k hlt
        have e2 := hc2 k (by have := Hne.out; omega)
        have hkm : k < m.length := by have := Hne.out; omega
        clear hc hc2
        by_cases hx : nth l k = nth m k
        · have hxb : (((nth l k : Nat) : Int) != ((nth m k : Nat) : Int)) = false := by simp [hx]
          have Hx := Lib.hid hx
          clear hx
          go_wp2_with fail
          go_quiet (fail)
          go_wp2_with fail
          go_roundw
          case rel => exact ⟨k + 1, by omega, by go_num, fun j hj => by (rcases Nat.lt_succ_iff_lt_or_eq.1 hj with h | rfl); exact Hs.out j h; exact Hx.out, Drawn.more _⟩
          case measure => simp [intOf]; omega
        · have hxb : (((nth l k : Nat) : Int) != ((nth m k : Nat) : Int)) = true := by simp; omega
          have Hx := Lib.hid hx
          clear hx
          go_wp2_with fail
          go_quiet (fail)
          go_wp2_with fail
          go_ret
          refine ⟨?_, (Drawn.more _).draws _⟩
          have : l ≠ m := fun e => Hx.out (by rw [e])
          simp [this]
      · go_wp2_with fail
        go_ret
        refine ⟨?_, Drawn.more _⟩
        have : l = m := ext_nth _ _ Hne.out fun j hj => Hs.out j (by omega)
        simp [this]
  · have hb : ((l.length : Int) != (m.length : Int)) = true := by simp; omega
    have Hne := Lib.hid hne
    clear hne
    go_enter Try.func12, Try.ntmps12
    go_wp2_with fail
    go_ret
    refine ⟨?_, Drawn.refl _⟩
    have : l ≠ m := fun e => Hne.out (by rw [e])
    simp [this]
end Go.Proofs.Yticgcjfgonejpaa

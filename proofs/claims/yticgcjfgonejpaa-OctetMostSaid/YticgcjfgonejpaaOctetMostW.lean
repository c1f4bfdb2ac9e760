/- OctetMost's walk: it answers true, and writes nothing that was there. No condition but that the argument is an int8. -/
import Derived.Test.YticgcjfgonejpaaWorks
namespace Go.Proofs.Yticgcjfgonejpaa
open Go.RowKit

theorem words_pow (n : Nat) : Words ((List.replicate ((n + 7) / 8) 0).set ((n + 7) / 8 - 1) (2 ^ (8 * ((n - 1) % 8)))) := fun x hx => by
  rcases mem_set hx with rfl | h
  · have : 2 ^ (8 * ((n - 1) % 8)) ≤ 2 ^ 56 := Nat.pow_le_pow_right (by omega) (by omega)
    omega
  · rw [List.eq_of_mem_replicate h]; omega

theorem pow_word (n : Nat) (h : 1 ≤ n) : IntKind.u64.wrap (2 ^ (8 * ((65535 + ((n : Int) - 65535) - 1) % 8)).toNat) = ((2 ^ (8 * ((n - 1) % 8)) : Nat) : Int) := by
  rw [show (8 * ((65535 + ((n : Int) - 65535) - 1) % 8)).toNat = 8 * ((n - 1) % 8) by omega, IntKind.wrap_u64]
  have h1 : 2 ^ (8 * ((n - 1) % 8)) ≤ 2 ^ 56 := Nat.pow_le_pow_right (by omega) (by omega)
  have e : ((2 : Int) ^ (8 * ((n - 1) % 8))) = ((2 ^ (8 * ((n - 1) % 8)) : Nat) : Int) := by simp
  rw [e]
  generalize 2 ^ (8 * ((n - 1) % 8)) = y at *
  omega

set_option maxHeartbeats 400000 in
theorem octetMost_walk (a0 : Int) (w : World) (w0 : (Lit.int .i8 a0).wf = true) :
    Calls Try.prog 5 #[.int .i8 a0] w fun e w' => e = .returned (.bool true) ∧ Below w.heap.size w w' := by
  have hx : -128 ≤ a0 ∧ a0 ≤ 127 := by simpa [Lit.wf, IntKind.min, IntKind.max, IntKind.signed, IntKind.bits] using w0
  obtain ⟨x1, x2⟩ := hx
  obtain ⟨n, rfl⟩ : ∃ n : Nat, a0 = (n : Int) - 65535 := ⟨(65535 + a0).toNat, by omega⟩
  clear w0
  obtain ⟨i0, hi0, hz0, hz1, hz2⟩ := info_parts info_u64
  go_enter Try.func5, Try.ntmps5
  go_wp2_with (at_make; refine wpList_make_full _ rfl _ _ 24 rfl w.heap.size 35 i0 (.int .u64 0) 1 Try.underlying24 hi0 hz0 hz1 _ _ _ _ ((n + 7) / 8) rfl rfl ?c1 ?c2 ?c3 ?c4 ?c5 ?_)
  case c1 => omega
  case c2 => omega
  case c3 => rw [hz2]; omega
  case c4 => unfold maxLen; omega
  case c5 => exact Nat.le_refl _
  intro w2 hown hg
  have hb2 : Below w.heap.size w w2 := (Below.refl _ _).grown hg (Nat.le_refl _) (by simp)
  have hown0 : w2.ownsRow w.heap.size 35 1 (.slice (some ⟨w.heap.size, 0, none⟩) ((n + 7) / 8) ((n + 7) / 8)) ((n + 7) / 8) (ints .u64 (List.replicate ((n + 7) / 8) 0)) := by
    have e : (madeCells #[Value.int .u64 0] ((n + 7) / 8)).toList = ints .u64 (List.replicate ((n + 7) / 8) 0) := (toList_madeCells_one _ _).trans (by simp [ints])
    rw [← e]
    exact hown
  have hc : w2.cell? ⟨w.heap.size, (n + 7) / 8 - 1, none⟩ = some (.int .u64 (nth (List.replicate ((n + 7) / 8) 0) ((n + 7) / 8 - 1) : Int)) := by
    rw [hown0.cellAt _ (by omega), ints_get _ _ _ (by simp; omega)]
  have hf : w2.frozen? ⟨w.heap.size, (n + 7) / 8 - 1, none⟩ = false := hown0.frozenAt _
  have hst := hown0.stored ((n + 7) / 8 - 1) (.int .u64 ((2 ^ (8 * ((n - 1) % 8)) : Nat) : Int))
  rw [ints_set] at hst
  have Hst := Lib.hid hst
  have hlen : ((List.replicate ((n + 7) / 8) 0).set ((n + 7) / 8 - 1) (2 ^ (8 * ((n - 1) % 8)))).length = (n + 7) / 8 := by simp
  have Hlen := Lib.hid hlen
  clear hown hown0 hst hlen
  go_wp2_with fail
  rw [pow_word n (by omega)]
  have hr := Rd.own Hst.out.1
  have hb3 : Below w.heap.size w (w2.setCell ⟨w.heap.size, (n + 7) / 8 - 1, none⟩ (.int .u64 ((2 ^ (8 * ((n - 1) % 8)) : Nat) : Int))) := hb2.setCell (Nat.le_refl _) _
  generalize (w2.setCell ⟨w.heap.size, (n + 7) / 8 - 1, none⟩ (.int .u64 ((2 ^ (8 * ((n - 1) % 8)) : Nat) : Int))) = w3 at *
  have hN := natOf_pow n (by omega)
  have hB := blen_pow n (by omega)
  by_cases ho : 65535 < n
  · have h := putNat_no none (some ⟨w.heap.size, 0, none⟩) 0 0 ((n + 7) / 8) _ w3 hr (words_pow n) (by rw [Hlen.out]; omega) (by rw [hN, hB]; exact ho)
    rw [Hlen.out] at h
    have H := Lib.hid h
    clear h hN hB hr Hst Hlen hc hf
    refine (H.out).mono ?_
    rintro e w4 ⟨rfl, rfl⟩
    go_wp2_with fail
    refine (works_any _).mono ?_
    rintro e w5 ⟨rfl, b5⟩
    go_wp2_with fail
    go_ret
    exact ⟨rfl, hb3.trans (b5.mono hb3.size)⟩
  · have h := putNat_yes none (some ⟨w.heap.size, 0, none⟩) 0 ((n + 7) / 8) [] _ w3 Rd.nil (by decide) hr (words_pow n) (by rw [Hlen.out]; omega) (by rw [hN, hB]; omega)
    rw [Hlen.out, hN, List.nil_append, length_long, hB] at h
    have H := Lib.hid h
    clear h hN hB hr Hst Hlen hc hf
    refine (H.out).mono ?_
    rintro e w4 ⟨v, rfl, hown, hb4⟩
    obtain ⟨A, c, rfl, _⟩ := own_form hown
    clear hown
    go_wp2_with fail
    refine (works_any _).mono ?_
    rintro e w5 ⟨rfl, b5⟩
    go_wp2_with fail
    go_ret
    exact ⟨rfl, (hb3.trans (hb4.mono hb3.size)).trans (b5.mono (Nat.le_trans hb3.size hb4.size))⟩
end Go.Proofs.Yticgcjfgonejpaa

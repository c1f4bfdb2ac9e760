/- The examples of the chapter ('works') hold, in whatever memory. No condition. -/
import Derived.Test.YticgcjfgonejpaaRef1
namespace Go.Proofs.Yticgcjfgonejpaa
open Go.RowKit

theorem take_a (w : World) : Calls Try.prog 16 #[.slice (some ⟨w.heap.size, 0, none⟩) 2 2, .int .i64 0, .int .i64 2] (w.alloc (.cells #[.int .u8 1, .int .u8 2] 5)) fun e w' =>
    e = .returned (.tuple #[.int .u64 258, .int .i64 2, .int .i64 0]) ∧ Below w.heap.size w w' := by
  have h := take_in (some ⟨w.heap.size, 0, none⟩) 2 [1, 2] 0 2 (w.alloc (.cells #[.int .u8 1, .int .u8 2] 5)) ((Rd.lit w .u8 5 [1, 2]).more (by simp)) (by intro x hx; simp at hx; omega) (by decide) (by omega) (by omega) (by omega)
  refine Calls.mono h fun e w' h => ⟨h.1 (by decide), ?_⟩
  have hb := h.2.2
  exact ((Below.refl _ _).alloc (Nat.le_refl _) _).trans (hb.mono (by simp))
theorem take_b (w : World) : Calls Try.prog 16 #[.slice (some ⟨w.heap.size, 0, none⟩) 1 1, .int .i64 0, .int .i64 2] (w.alloc (.cells #[.int .u8 1] 5)) fun e w' =>
    e = .returned (.tuple #[.int .u64 0, .int .i64 0, .int .i64 3]) ∧ Below w.heap.size w w' := by
  have h := take_in (some ⟨w.heap.size, 0, none⟩) 1 [1] 0 2 (w.alloc (.cells #[.int .u8 1] 5)) ((Rd.lit w .u8 5 [1]).more (by simp)) (by intro x hx; simp at hx; omega) (by decide) (by omega) (by omega) (by omega)
  refine Calls.mono h fun e w' h => ⟨h.2.1 (by decide), ?_⟩
  have hb := h.2.2
  exact ((Below.refl _ _).alloc (Nat.le_refl _) _).trans (hb.mono (by simp))
theorem putNat_a (w : World) : Calls Try.prog 9 #[.slice none 0 0, .slice (some ⟨w.heap.size, 0, none⟩) 1 1] (w.alloc (.cells #[.int .u64 256] 35)) fun e w' =>
    ∃ A c, e = .returned (.tuple #[.slice A 4 c, .int .i64 0]) ∧ Rd .u8 w' w'.heap.size A [0, 2, 1, 0] ∧ Below w.heap.size w w' := by
  have hbl : blen (natOf [256]) = 2 := blen_eq _ _ (by decide) (by decide)
  have h := putNat_yes none (some ⟨w.heap.size, 0, none⟩) 0 1 [] [256] (w.alloc (.cells #[.int .u64 256] 35)) Rd.nil (by decide) ((Rd.lit w .u64 35 [256]).more (by simp)) (by intro x hx; simp at hx; omega) (by decide) (by rw [hbl]; omega)
  refine Calls.mono h fun e w' ⟨v, he, hown, hb⟩ => ?_
  have hlong : [] ++ long (natOf [256]) = [0, 2, 1, 0] := by simp only [long, hbl]; decide
  rw [hlong] at hown
  obtain ⟨A, c, rfl, _⟩ := own_form hown
  exact ⟨A, c, he, Rd.own hown, ((Below.refl _ _).alloc (Nat.le_refl _) _).trans (hb.mono (by simp))⟩
theorem takeNat_a (w : World) : Calls Try.prog 13 #[.slice (some ⟨w.heap.size, 0, none⟩) 4 4, .int .i64 0, .int .i64 9] (w.alloc (.cells #[.int .u8 0, .int .u8 2, .int .u8 1, .int .u8 0] 5)) fun e w' =>
    ∃ A c, e = .returned (.tuple #[.slice A 1 c, .int .i64 4, .int .i64 0]) ∧ Rd .u64 w' w'.heap.size A [256] ∧ Below w.heap.size w w' := by
  have h := takeNat_in (some ⟨w.heap.size, 0, none⟩) 4 [0, 2, 1, 0] 0 9 (w.alloc (.cells #[.int .u8 0, .int .u8 2, .int .u8 1, .int .u8 0] 5)) ((Rd.lit w .u8 5 [0, 2, 1, 0]).more (by simp)) (by intro x hx; simp at hx; omega) (by decide) (by decide) (by decide)
  refine Calls.mono h fun e w' h => ?_
  obtain ⟨v, he, hown⟩ := h.1 (by decide)
  have hb := h.2.2
  have hown' : w'.ownsRow (w.alloc (.cells #[.int .u8 0, .int .u8 2, .int .u8 1, .int .u8 0] 5)).heap.size 35 1 v 1 (ints .u64 [256]) := hown
  obtain ⟨A, c, rfl, _⟩ := own_form hown'
  exact ⟨A, c, he, Rd.own hown', ((Below.refl _ _).alloc (Nat.le_refl _) _).trans (hb.mono (by simp))⟩
theorem takeNat_b (w : World) : Calls Try.prog 13 #[.slice (some ⟨w.heap.size, 0, none⟩) 4 4, .int .i64 0, .int .i64 9] (w.alloc (.cells #[.int .u8 0, .int .u8 2, .int .u8 0, .int .u8 1] 5)) fun e w' =>
    e = .returned (.tuple #[.slice none 0 0, .int .i64 0, .int .i64 3]) ∧ Below w.heap.size w w' := by
  have h := takeNat_in (some ⟨w.heap.size, 0, none⟩) 4 [0, 2, 0, 1] 0 9 (w.alloc (.cells #[.int .u8 0, .int .u8 2, .int .u8 0, .int .u8 1] 5)) ((Rd.lit w .u8 5 [0, 2, 0, 1]).more (by simp)) (by intro x hx; simp at hx; omega) (by decide) (by decide) (by decide)
  refine Calls.mono h fun e w' h => ⟨h.2.1 (by decide), ?_⟩
  have hb := h.2.2
  exact ((Below.refl _ _).alloc (Nat.le_refl _) _).trans (hb.mono (by simp))
theorem takeNat_c (w : World) : Calls Try.prog 13 #[.slice (some ⟨w.heap.size, 0, none⟩) 4 4, .int .i64 0, .int .i64 1] (w.alloc (.cells #[.int .u8 0, .int .u8 2, .int .u8 1, .int .u8 0] 5)) fun e w' =>
    e = .returned (.tuple #[.slice none 0 0, .int .i64 0, .int .i64 4]) ∧ Below w.heap.size w w' := by
  have h := takeNat_many (some ⟨w.heap.size, 0, none⟩) 4 [0, 2, 1, 0] 0 1 (w.alloc (.cells #[.int .u8 0, .int .u8 2, .int .u8 1, .int .u8 0] 5)) ((Rd.lit w .u8 5 [0, 2, 1, 0]).more (by simp)) (by intro x hx; simp at hx; omega) (by decide) (by decide) (by decide)
  refine Calls.mono h fun e w' h => ⟨h.1, ?_⟩
  have hb := h.2
  exact ((Below.refl _ _).alloc (Nat.le_refl _) _).trans (hb.mono (by simp))
theorem put_a (w : World) : Calls Try.prog 15 #[.slice none 0 0, .int .u64 258, .int .i64 3] w fun e w' =>
    ∃ A c, e = .returned (.slice A 3 c) ∧ Rd .u8 w' w'.heap.size A [0, 1, 2] ∧ Below w.heap.size w w' := by
  have h := put_any none 0 [] 258 3 w Rd.nil (by decide) (by omega) (by omega) (by omega)
  refine Calls.mono h fun e w' ⟨v, he, hown, hb⟩ => ?_
  have hown' : w'.ownsRow w.heap.size 5 1 v 3 (ints .u8 [0, 1, 2]) := hown
  obtain ⟨A, c, rfl, _⟩ := own_form hown'
  exact ⟨A, c, he, Rd.own hown', hb⟩
theorem same_a (A : Option Addr) (c : Nat) (w : World) (h : Rd .u64 w w.heap.size A [256]) :
    Calls Try.prog 12 #[.slice A 1 c, .slice (some ⟨w.heap.size, 0, none⟩) 1 1] (w.alloc (.cells #[.int .u64 256] 35)) fun e w' => e = .returned (.bool true) ∧ Below w.heap.size w w' := by
  have h' := same_any A (some ⟨w.heap.size, 0, none⟩) c 1 [256] [256] (w.alloc (.cells #[.int .u64 256] 35)) (w.heap.size + 1) ((h.below ((Below.refl _ _).alloc (Nat.le_refl _) _)).more (by omega)) (Rd.lit w .u64 35 [256]) (by decide) (by decide)
  refine Calls.mono h' fun e w' ⟨he, hd⟩ => ⟨he, ((Below.refl _ _).alloc (Nat.le_refl _) _).trans (hd.below _)⟩

set_option maxHeartbeats 400000 in
theorem works_any (w : World) : Calls Try.prog 7 #[] w fun e w' => e = .returned (.bool true) ∧ Below w.heap.size w w' := by
  go_enter Try.func7, Try.ntmps7
  go_wp2_with fail
  refine (take_a _).mono ?_
  rintro e w1 ⟨rfl, b1⟩
  go_wp2_with fail
  refine (take_b _).mono ?_
  rintro e w2 ⟨rfl, b2⟩
  go_wp2_with fail
  refine (putNat_a _).mono ?_
  rintro e w3 ⟨A3, c3, rfl, r3, b3⟩
  go_wp2_with fail
  refine (takeNat_a _).mono ?_
  rintro e w4 ⟨A4, c4, rfl, r4, b4⟩
  go_wp2_with fail
  refine (takeNat_b _).mono ?_
  rintro e w5 ⟨rfl, b5⟩
  go_wp2_with fail
  refine (takeNat_c _).mono ?_
  rintro e w6 ⟨rfl, b6⟩
  have b36 := ((b4.trans (b5.mono b4.size)).trans (b6.mono (Nat.le_trans b4.size b5.size)))
  have hs : (convert 22 9 (.slice A3 4 c3)).run Try.prog w6 = .ok (.string ⟨#[0, 2, 1, 0]⟩) w6 :=
    run_str w6 22 9 5 Try.underlying22 Try.underlying5 Try.underlying9 _ A3 [0, 2, 1, 0] c3 (r3.below b36)
  go_wp2_with fail
  refine (same_a _ _ _ (r4.below (b5.trans (b6.mono b5.size)) |>.more (Nat.le_trans b5.size b6.size))).mono ?_
  rintro e w7 ⟨rfl, b7⟩
  go_wp2_with fail
  refine (put_a _).mono ?_
  rintro e w8 ⟨A8, c8, rfl, r8, b8⟩
  have hs8 : (convert 22 9 (.slice A8 3 c8)).run Try.prog w8 = .ok (.string ⟨#[0, 1, 2]⟩) w8 :=
    run_str w8 22 9 5 Try.underlying22 Try.underlying5 Try.underlying9 _ A8 [0, 1, 2] c8 r8
  go_wp2_with fail
  go_ret
  exact ⟨rfl, ((((((b1.trans (b2.mono b1.size)).trans (b3.mono (Nat.le_trans b1.size b2.size))).trans (b36.mono (Nat.le_trans b1.size (Nat.le_trans b2.size b3.size))))).trans (b7.mono (Nat.le_trans b1.size (Nat.le_trans b2.size (Nat.le_trans b3.size b36.size))))).trans (b8.mono (Nat.le_trans b1.size (Nat.le_trans b2.size (Nat.le_trans b3.size (Nat.le_trans b36.size b7.size))))))⟩
end Go.Proofs.Yticgcjfgonejpaa

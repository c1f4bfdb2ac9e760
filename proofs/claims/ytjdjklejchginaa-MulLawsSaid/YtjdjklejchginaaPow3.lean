/- The contract of the document's Power of chapter 3. Conditions: as typed (lengths that fit a machine). -/
import Derived.Test.YtjdjklejchginaaTim
import Derived.Test.YtjdjklejchginaaN7
namespace Go.Proofs.Ytjdjklejchginaa
open Go.RowKit

/-- A number and an error's number are answered. -/
def OutPow (N : Nat) (w : World) (e : Ending) (w' : World) : Prop := ∃ v, e = .returned (.tuple #[v, .int .i64 0]) ∧ w'.ownsRow w.heap.size 34 1 v ((nbits N + 63) / 64) (ints .u64 (wd N)) ∧ Below w.heap.size w w'
/-- Nothing, and an error's number. -/
def OutErr (x : Int) (w : World) (e : Ending) (w' : World) : Prop := ∃ X d, e = .returned (.tuple #[.slice X 0 d, .int .i64 x]) ∧ Below w.heap.size w w'

theorem nbits_pow (N i : Nat) : nbits (N ^ i) ≤ nbits N * i + 1 := by
  refine nbits_of_lt _ _ ?_
  have h := nbits_lt N
  have h1 : N ^ i ≤ (2 ^ nbits N) ^ i := Nat.pow_le_pow_left (Nat.le_of_lt h) i
  rw [← Nat.pow_mul] at h1
  rw [Nat.pow_succ]
  have : 0 < 2 ^ (nbits N * i) := Nat.pow_pos (by omega)
  omega
theorem nbits_one : nbits 1 = 1 := nbits_eq 1 1 (by omega) (by intro _; simp)
theorem dg_one : dg 1 = [1] := by simp [dg, nbits_one, bw]
theorem nbits_iff (N : Nat) : 0 < nbits N ↔ N ≠ 0 := by
  constructor
  · intro h h0; rw [h0, nbits_zero] at h; omega
  · intro h
    rcases Nat.eq_zero_or_pos (nbits N) with h1 | h1
    · have := nbits_lt N; rw [h1] at this; simp at this; omega
    · exact h1

section
variable (A : Option Addr) (c : Nat) (a : List Nat) (w : World) (hr : Rd .u64 w w.heap.size A a) (hw : Words a) (hl : a.length ≤ 10000)
include hr hw hl
omit hr hw hl in
theorem pow03_neg (k : Int) (hk : k < 0) : Calls Try.prog 23 #[.slice A a.length c, .int .i64 k] w (OutErr 1 w) := by
  go_enter Try.func23, Try.ntmps23
  go_wp2_with fail
  go_ret2
  exact ⟨none, 0, rfl, Below.refl _ _⟩
set_option maxHeartbeats 400000 in
theorem pow03_many (k : Nat) (hk : natOf a ≠ 0) (hm : 65536 / nbits (natOf a) < k) : Calls Try.prog 23 #[.slice A a.length c, .int .i64 (k : Int)] w (OutErr 4 w) := by
  have hz := (nbits_iff _).2 hk
  have hnb := nbits_natOf a hw
  have hm2 : ((65536 : Int) / (nbits (natOf a) : Int)) < (k : Int) := by
    have : (65536 : Int) / (nbits (natOf a) : Int) = ((65536 / nbits (natOf a) : Nat) : Int) := by simp
    omega
  have hb0 : ((nbits (natOf a) : Int) == 0) = false := by simp; omega
  go_enter Try.func23, Try.ntmps23
  go_wp2_with fail
  refine (digits_any A c a w hr hw (by omega)).mono ?_
  rintro e w1 ⟨X, d, rfl, hd, R1, b1⟩
  go_wp2_with fail
  go_ret2
  exact ⟨none, 0, rfl, b1⟩
set_option maxHeartbeats 1000000 in
theorem pow03_ok (k : Nat) (hk : natOf a = 0 ∨ k ≤ 65536 / nbits (natOf a)) : Calls Try.prog 23 #[.slice A a.length c, .int .i64 (k : Int)] w (OutPow (natOf a ^ k) w) := by
  have hnb := nbits_natOf a hw
  obtain ⟨N, hN⟩ : ∃ N, N = natOf a := ⟨_, rfl⟩
  rw [← hN] at hk hnb ⊢
  have HN := Lib.hid hN
  have hkb : N = 0 ∨ nbits N * k ≤ 65536 := by
    rcases hk with h | h
    · exact .inl h
    · right
      have h1 := Nat.mul_le_mul_left (nbits N) h
      have h2 := Nat.mul_div_le 65536 (nbits N)
      omega
  have hkk : N ≠ 0 → k ≤ 65536 := fun h => by
    have h1 := (nbits_iff N).2 h
    rcases hkb with h2 | h2
    · exact absurd h2 h
    · exact Nat.le_trans (Nat.le_mul_of_pos_left k h1) h2
  have HK := Lib.hid hkb
  have HKK := Lib.hid hkk
  have D := digits_any A c a w hr hw (by omega)
  rw [← hN] at D
  have HD := Lib.hid D
  have hk2 : ∀ _ : N ≠ 0, (k : Int) ≤ ((65536 : Int) / (nbits N : Int)) := fun h0 => by
    rcases hk with h | h
    · exact absurd h h0
    · have : (65536 : Int) / (nbits N : Int) = ((65536 / nbits N : Nat) : Int) := by simp
      omega
  have HK2 := Lib.hid hk2
  clear hN hkb D hk hk2 hr hw hkk
  go_enter Try.func23, Try.ntmps23
  go_wp2_with fail
  refine (HD.out).mono ?_
  rintro e w1 ⟨X, d, rfl, hd, R1, b1⟩
  have hcase : (N ≠ 0 ∧ 0 < nbits N ∧ ((nbits N : Int) == 0) = false ∧ ¬ ((65536 : Int) / (nbits N : Int)) < (k : Int)) ∨ (N = 0 ∧ ¬ 0 < nbits N) := by
    by_cases h0 : N = 0
    · right; refine ⟨h0, ?_⟩; rw [h0, nbits_zero]; omega
    · have hz := (nbits_iff N).2 h0
      exact .inl ⟨h0, hz, by simp; omega, Int.not_lt.2 (HK2.out h0)⟩
  have one : Rd .u8 (w1.alloc (.cells #[.int .u8 1] 5)) (w1.heap.size + 1) (some ⟨w1.heap.size, 0, none⟩) (dg (N ^ 0)) := by
    rw [Nat.pow_zero, dg_one]
    exact Rd.lit w1 .u8 5 [1]
  have hone : Hid (nbits (N ^ 0) = 1) := Lib.hid (by rw [Nat.pow_zero, nbits_one])
  rcases hcase with ⟨h0, hz, hb0, hk3⟩ | ⟨h0, hz⟩
  all_goals
    have H0 := Lib.hid h0
    clear h0
    go_wp2_with fail
    go_loopw [7, 8] (fun v j wr => ∃ (i : Nat) (Y : Option Addr) (f : Nat), i ≤ k ∧ (N = 0 → i ≤ 1) ∧ j = .int .i64 i ∧ v = .slice Y (nbits (N ^ i)) f ∧ nbits (N ^ i) ≤ f ∧ Rd .u8 wr wr.heap.size Y (dg (N ^ i)) ∧ Below w1.heap.size w1 wr) (fun _ j _ => (if N = 0 then 1 else k) - (intOf j).toNat)
    case atStart => exact ⟨0, _, 1, Nat.zero_le _, fun _ => by omega, rfl, by rw [hone.out], by rw [hone.out]; omega, one.more (by simp), (Below.refl _ _).alloc (Nat.le_refl _) _⟩
    case round =>
      obtain ⟨i, Y, f, hik, hi1, rfl, rfl, hf, RY, hb⟩ := hrel
      have hpb : nbits (N ^ i) ≤ 200000 := by
        have h1 := nbits_pow N i
        rcases HK.out with h2 | h2
        · rw [h2, nbits_zero, Nat.zero_mul] at h1; rw [h2]; omega
        · have h3 : nbits N * i ≤ nbits N * k := Nat.mul_le_mul_left _ hik
          omega
      have RX := (R1.below hb).more hb.size
      have TT := times02_any Y X f d (N ^ i) N wr RY RX (by omega) (by omega)
      rw [← Nat.pow_succ] at TT
      have HT := Lib.hid TT
      have HI1 := Lib.hid hi1
      clear TT RX hi1
      by_cases hik2 : i < k
      · by_cases hi0 : i < 1
        · obtain rfl : i = 0 := by omega
          rw [show N ^ Nat.succ 0 = N from Nat.pow_one N] at HT
          go_wp2_with fail
          refine (HT.out).mono ?_
          rintro e w2 ⟨Z, g, rfl, hg, RZ, b2⟩
          go_wp2_with fail
          go_roundw
          case rel => exact ⟨1, Z, g, by omega, fun _ => Nat.le_refl _, rfl, by rw [Nat.pow_one], by rw [Nat.pow_one]; exact hg, by rw [Nat.pow_one]; exact RZ, hb.trans (b2.mono hb.size)⟩
          case measure => simp [intOf]; split <;> omega
        · by_cases hN0 : 0 < nbits N
          · (try (exfalso; omega))
            all_goals
              have hN1 := (nbits_iff N).1 hN0
              have HN1 := Lib.hid hN1
              have hk9 := HKK.out hN1
              clear hN1
              go_wp2_with fail
              refine (HT.out).mono ?_
              rintro e w2 ⟨Z, g, rfl, hg, RZ, b2⟩
              go_wp2_with fail
              go_roundw
              case rel => exact ⟨i + 1, Z, g, by omega, fun h => absurd h HN1.out, by go_num, rfl, hg, RZ, hb.trans (b2.mono hb.size)⟩
              case measure => rw [if_neg HN1.out]; simp [intOf]; omega
          · (try (exfalso; omega))
            all_goals
              have hpow := Lib.hid (show N ^ i = N ^ k by
                have h0 : N = 0 := by
                  rcases Nat.eq_zero_or_pos N with h | h
                  · exact h
                  · exact absurd ((nbits_iff N).2 (by omega)) hN0
                rw [h0, Nat.zero_pow (by omega), Nat.zero_pow (by omega)])
              have WW := wordsN_any Y f (N ^ i) wr RY (by omega) hf
              have HW := Lib.hid WW
              clear WW
              go_wp2_with fail
              refine (HW.out).mono ?_
              rintro e w2 ⟨v, rfl, own, b2⟩
              obtain ⟨Z, g, rfl, hg, _⟩ := own_form own
              have HO := Lib.hid (own_base own (Nat.le_trans b1.size hb.size))
              clear own
              go_wp2_with fail
              go_ret2
              exact ⟨_, rfl, by rw [← hpow.out]; exact HO.out, (b1.trans (hb.mono b1.size)).trans (b2.mono (Nat.le_trans b1.size hb.size))⟩
      · obtain rfl : i = k := by omega
        have WW := wordsN_any Y f (N ^ i) wr RY (by omega) hf
        have HW := Lib.hid WW
        clear WW
        go_wp2_with fail
        refine (HW.out).mono ?_
        rintro e w2 ⟨v, rfl, own, b2⟩
        obtain ⟨Z, g, rfl, hg, _⟩ := own_form own
        have HO := Lib.hid (own_base own (Nat.le_trans b1.size hb.size))
        clear own
        go_wp2_with fail
        go_ret2
        exact ⟨_, rfl, HO.out, (b1.trans (hb.mono b1.size)).trans (b2.mono (Nat.le_trans b1.size hb.size))⟩
end
end Go.Proofs.Ytjdjklejchginaa

/- mul.Power. Conditions: as typed (lengths that fit a machine). -/
import Derived.Test.YtjdjklejchginaaMulP4
import Derived.Laws.Bits128
namespace Go.Proofs.Ytjdjklejchginaa
open Go.RowKit

theorem i64_and_one (n : Int) : bits .and .i64 n 1 = n % 2 := by
  have h1 : (BitVec.ofInt 64 1).toNat = 2 ^ 1 - 1 := by decide
  have key : (BitVec.ofInt 64 n &&& BitVec.ofInt 64 1).toNat = (n % ((2 ^ 64 : Nat) : Int)).toNat % 2 ^ 1 := by
    rw [BitVec.toNat_and, BitVec.toNat_ofInt, h1, Nat.and_two_pow_sub_one_eq_mod]
  show IntKind.i64.wrap ((BitVec.ofInt 64 n &&& BitVec.ofInt 64 1).toNat : Nat) = n % 2
  rw [key, IntKind.wrap_i64]
  omega
theorem bitLen_lt (x : Nat) (h : x < 18446744073709551616) : x < 2 ^ Lib.bitLen x := by
  by_cases h0 : x = 0
  · subst h0; exact Nat.pow_pos (by omega)
  · obtain ⟨b1, b2, b3⟩ := Lib.bitLenAux_bounds 64 x (by omega) h0
    exact b3
theorem pow_next (N k m : Nat) : N ^ (k / 2 ^ (m + 1)) * N ^ (k / 2 ^ (m + 1)) * N ^ (k / 2 ^ m % 2) = N ^ (k / 2 ^ m) := by
  rw [← Nat.pow_add, ← Nat.pow_add, Nat.pow_succ, ← Nat.div_div_eq_div_mul]
  congr 1
  omega
theorem pow_small (N k j : Nat) (h : k * nbits N ≤ 65536) : nbits (N ^ (k / 2 ^ j)) ≤ 65537 := by
  have h1 := nbits_pow N (k / 2 ^ j)
  have h2 : nbits N * (k / 2 ^ j) ≤ nbits N * k := Nat.mul_le_mul_left _ (Nat.div_le_self _ _)
  have h3 : nbits N * k = k * nbits N := Nat.mul_comm _ _
  omega

/-- A row of the call's own is so many words of a number. -/
def OwnN (w : World) (base : Nat) (R : Option Addr) (d X : Nat) : Prop := w.ownsRow base 34 1 (.slice R ((nbits X + 63) / 64) d) ((nbits X + 63) / 64) (ints .u64 (wd X)) ∧ (nbits X + 63) / 64 ≤ d
def OutOwn (base X : Nat) (w : World) (e : Ending) (w' : World) : Prop := ∃ R d, e = .returned (.slice R ((nbits X + 63) / 64) d) ∧ OwnN w' base R d X ∧ Below w.heap.size w w'
theorem OutNat.ownN {X base : Nat} {w w' : World} {e : Ending} (h : OutNat X w e w') (hb : base ≤ w.heap.size) : OutOwn base X w e w' := by
  obtain ⟨v, rfl, ho, hb'⟩ := h
  obtain ⟨R, d, rfl, hd, _⟩ := own_form ho
  exact ⟨R, d, rfl, ⟨own_base ho hb, hd⟩, hb'⟩
theorem square_own {w : World} {base d X : Nat} {R : Option Addr} (h : OwnN w base R d X) (hX : nbits X ≤ 100000) (hb : base ≤ w.heap.size) : Calls Try.prog 13 #[.slice R ((nbits X + 63) / 64) d] w (OutOwn base (X * X) w) := by
  have hl := length_wd X
  have M := mulSquare_pf R d (wd X) w (Rd.own h.1) (wd_words X) (by omega) (by have := h.2; omega)
  rw [hl, natOf_wd] at M
  exact M.mono fun _ _ h => h.ownN hb
theorem mul_own {w : World} {base d X : Nat} {R : Option Addr} (h : OwnN w base R d X) (hX : nbits X ≤ 200000) (hb : base ≤ w.heap.size) (A : Option Addr) (c : Nat) (a : List Nat) (hr : Rd .u64 w w.heap.size A a) (hw : Words a) (hl : a.length ≤ 10000) (hc : a.length ≤ c) : Calls Try.prog 12 #[.slice R ((nbits X + 63) / 64) d, .slice A a.length c] w (OutOwn base (X * natOf a) w) := by
  have hl := length_wd X
  have M := mulMul_pf R A d c (wd X) a w (Rd.own h.1) (wd_words X) (by omega) (by have := h.2; omega) hr hw (by omega) hc
  rw [hl, natOf_wd] at M
  exact M.mono fun _ _ h => h.ownN hb

section
variable (A : Option Addr) (c : Nat) (a : List Nat) (w : World) (hr : Rd .u64 w w.heap.size A a) (hw : Words a) (hl : a.length ≤ 10000) (hc : a.length ≤ c)
include hr hw hl hc
omit hr hw hl hc in
theorem mulPower_neg_pf (k : Int) (hk : k < 0) : Calls Try.prog 22 #[.slice A a.length c, .int .i64 k] w (OutErr 1 w) := by
  go_enter Try.func22, Try.ntmps22
  go_wp2_with fail
  go_ret2
  exact ⟨none, 0, rfl, Below.refl _ _⟩
theorem mulPower_many_pf (k : Nat) (hk : 65536 < k * nbits (natOf a)) (hi : MaxI k) : Calls Try.prog 22 #[.slice A a.length c, .int .i64 k] w (OutErr 4 w) := by
  have hnb := nbits_natOf a hw
  have B := Lib.hid (bits_q A c a w w.heap.size hr hw (by omega) hc)
  obtain ⟨N, hN⟩ : ∃ N, nbits (natOf a) = N := ⟨_, rfl⟩
  rw [hN] at hk B hnb
  have hz : 0 < N := Nat.pos_of_ne_zero fun h => by rw [h, Nat.mul_zero] at hk; omega
  have hm : 65536 / N < k := (Nat.div_lt_iff_lt_mul hz).2 hk
  have hm2 : ((65536 : Int) / (N : Int)) < (k : Int) := by
    have : (65536 : Int) / (N : Int) = ((65536 / N : Nat) : Int) := by simp
    omega
  have hb0 : ((N : Int) == 0) = false := by simp; omega
  unfold MaxI at hi
  clear hr hw hk hm hN
  go_enter Try.func22, Try.ntmps22
  go_wp2_with fail
  refine (B.out).mono ?_
  rintro e w' ⟨rfl, rfl⟩
  go_wp2_with fail
  go_ret2
  exact ⟨none, 0, rfl, Below.refl _ _⟩
set_option maxHeartbeats 2000000 in
theorem mulPower_ok_pf (k : Nat) (hk : k * nbits (natOf a) ≤ 65536) (hi : MaxI k) : Calls Try.prog 22 #[.slice A a.length c, .int .i64 k] w (OutPow (natOf a ^ k) w) := by
  have hnb := nbits_natOf a hw
  have B := Lib.hid (bits_q A c a w w.heap.size hr hw (by omega) hc)
  obtain ⟨N, hN⟩ : ∃ N, natOf a = N := ⟨_, rfl⟩
  rw [hN] at hk B hnb ⊢
  have HN := Lib.hid hN
  have HK := Lib.hid hk
  unfold MaxI at hi
  have hcase : (0 < nbits N ∧ ((nbits N : Int) == 0) = false ∧ ¬ ((65536 : Int) / (nbits N : Int)) < (k : Int)) ∨ ¬ 0 < nbits N := by
    by_cases h0 : 0 < nbits N
    · left
      refine ⟨h0, by simp; omega, ?_⟩
      have h1 : k ≤ 65536 / nbits N := (Nat.le_div_iff_mul_le h0).2 hk
      have : (65536 : Int) / (nbits N : Int) = ((65536 / nbits N : Nat) : Int) := by simp
      omega
    · exact .inr h0
  have O := Lib.hid ((natOf_any 1 w (by omega)).mono fun _ _ h => h.ownN (Nat.le_refl _))
  have hbl := bitLen_lt k (by omega)
  have hbl2 := Lib.bitLen_le k 64 (by omega) (by omega)
  obtain ⟨L, hL⟩ : ∃ L, Lib.bitLen k = L := ⟨_, rfl⟩
  have BL := fun w => Try.bits_Len (k : Int) w (by omega) (by omega)
  rw [Int.toNat_natCast, hL] at BL
  rw [hL] at hbl hbl2
  have HL := Lib.hid hbl
  have HBL := Lib.hid BL
  clear hN hk hbl BL hL
  go_enter Try.func22, Try.ntmps22
  go_wp2_with fail
  refine (B.out).mono ?_
  rintro e w' ⟨rfl, rfl⟩
  rcases hcase with ⟨h0, h1, h2⟩ | h0
  all_goals
    go_wp2_with fail
    refine (O.out).mono ?_
    rintro e w1 ⟨R, d, rfl, ho, hb⟩
    go_wp2_with fail
    refine (HBL.out _).mono ?_
    rintro e w' ⟨rfl, rfl⟩
    have hL1 : N ^ (k / 2 ^ L) = 1 := by rw [Nat.div_eq_of_lt HL.out, Nat.pow_zero]
    have HL1 := Lib.hid hL1
    have HO1 := Lib.hid ho
    clear hL1 ho O B HBL
    go_wp2_with fail
    go_loopw [8, 7] (fun jv v wr => ∃ (j : Nat) (i : Int) (R : Option Addr) (d X : Nat), j ≤ L ∧ i = (j : Int) - 1 ∧ jv = .int .i64 i ∧ X = N ^ (k / 2 ^ j) ∧ v = .slice R ((nbits X + 63) / 64) d ∧ OwnN wr w.heap.size R d X ∧ Below w.heap.size w wr) (fun jv _ _ => (intOf jv + 1).toNat)
    case atStart => exact ⟨L, _, R, d, 1, Nat.le_refl _, rfl, rfl, HL1.out.symm, rfl, HO1.out, hb⟩
    case round =>
      obtain ⟨j, i, R, d, X, hj, hij, rfl, hX, rfl, ho, hb⟩ := hrel
      have hXn : nbits X ≤ 65537 := by rw [hX]; exact pow_small N k j HK.out
      clear HO1
      rcases Nat.eq_zero_or_pos j with h | h
      · subst h
        obtain rfl : i = -1 := by omega
        clear hij
        rw [Nat.pow_zero, Nat.div_one] at hX
        have HO := Lib.hid ho.1
        have HX := Lib.hid hX
        clear ho hX
        go_wp2_with fail
        go_ret2
        exact ⟨_, rfl, by rw [← HX.out]; exact HO.out, hb⟩
      · obtain ⟨m, rfl⟩ : ∃ m, j = m + 1 := ⟨j - 1, by omega⟩
        obtain rfl : i = (m : Int) := by omega
        clear hij
        have S := Lib.hid (square_own ho (by omega) hb.size)
        have hX2 : nbits (X * X) ≤ 131076 := by have := nbits_mul X X; omega
        have hm : m ≤ 63 := by omega
        have hand := i64_and_one ((k : Int) / 2 ^ m)
        have hq : (k : Int) / 2 ^ m % 2 = ((k / 2 ^ m % 2 : Nat) : Int) := by simp
        rw [hq] at hand
        have hn := pow_next N k m
        rw [← hX] at hn
        have hX' := Lib.hid hX
        have hr' : Rd .u64 w w.heap.size A a := hr
        rcases Nat.mod_two_eq_zero_or_one (k / 2 ^ m) with hb0 | hb0
        · rw [hb0] at hand hn
          rw [Nat.pow_zero, Nat.mul_one] at hn
          have Hn := Lib.hid hn
          clear hn hb0 hq hX ho
          go_wp2_with fail
          refine (S.out).mono ?_
          rintro e w2 ⟨R2, d2, rfl, ho2, hb2⟩
          go_wp2_with fail
          go_roundw
          case rel => exact ⟨m, _, R2, d2, X * X, by omega, rfl, by go_num, Hn.out, rfl, ho2, hb.trans (hb2.mono hb.size)⟩
          case measure => simp [intOf]
        · rw [hb0] at hand hn
          rw [Nat.pow_one] at hn
          have Hn := Lib.hid hn
          clear hn hb0 hq hX ho
          go_wp2_with fail
          refine (S.out).mono ?_
          rintro e w2 ⟨R2, d2, rfl, ho2, hb2⟩
          go_wp2_with fail
          have hBB := hb.trans (hb2.mono hb.size)
          have M := mul_own ho2 (by omega) hBB.size A c a ((hr'.below hBB).more hBB.size) hw hl hc
          rw [HN.out] at M
          have HM := Lib.hid M
          clear M ho2 S hr'
          refine (HM.out).mono ?_
          rintro e w3 ⟨R3, d3, rfl, ho3, hb3⟩
          go_wp2_with fail
          go_roundw
          case rel => exact ⟨m, _, R3, d3, X * X * N, by omega, rfl, by go_num, Hn.out, rfl, ho3, hBB.trans (hb3.mono hBB.size)⟩
          case measure => simp [intOf]
end
end Go.Proofs.Ytjdjklejchginaa

/- Several texts in one; each begins with a remark that says what it shows and on which conditions. -/
import Derived.Test.YtjeliomjnalpcaaDoorKaz
import Derived.Test.YtjeliomjnalpcaaDoorKbf
import Derived.Test.YtjeliomjnalpcaaDoorKbj
/- Fraction: the first 32 bits behind the point of a root. Conditions: as typed. -/
namespace Go.Proofs.YtjeliomjnalpcaaDoor
open Go.RowKit
set_option maxRecDepth 20000
theorem small_ok7 {w : World} {A : Option Addr} {n c M : Nat} (h : NatIn w A n c M) (hM : M < 18446744073709551616) : Calls Tryd.prog 25 #[.slice A n c] w fun e w' => e = .returned (.tuple #[.int .u64 (M : Nat), .bool true]) ∧ Below w.heap.size w w' := by
  obtain ⟨l, rfl, rfl, h3, h4, h5, h6⟩ := h
  have h := natSmall_any A c l w h5 h3 (by omega) h6
  rwa [show smallV (natOf l) = ((natOf l : Nat) : Int) by simp [smallV, hM], show smallB (natOf l) = true by simp [smallB, hM]] at h
theorem root_small {k N R : Nat} (_ : k = 2 ∨ k = 3) (h : IsRoot k N R) (hN : N < 18446744073709551616 ^ k) : R < 18446744073709551616 := by
  rcases Nat.lt_or_ge R 18446744073709551616 with h1 | h1
  · exact h1
  · have := Nat.pow_le_pow_left h1 k
    have := h.1
    omega
set_option maxHeartbeats 1000000 in
theorem frac_pf (p F : Nat) (hp : p < 18446744073709551616) (third : Bool) (hF : IsFrac p third F) (w : World) : Calls Tryd.prog 8 #[.int .u64 p, .bool third] w fun e w' => e = .returned (.int .u32 (F : Nat)) ∧ Below w.heap.size w w' := by
  have hpb := nbits_of_lt p 64 hp
  obtain ⟨R, hR, hFR⟩ := hF
  have hs1 := nbits_shl p 64
  have hs2 := nbits_shl p 96
  have hR23 : (third = false → IsRoot 2 (2 ^ 64 * p) R) ∧ (third = true → IsRoot 3 (2 ^ 96 * p) R) := by
    constructor
    · intro e; rw [e] at hR; exact hR
    · intro e; rw [e] at hR; exact hR
  obtain ⟨R2, hR2⟩ := root_some 2 (2 ^ 64 * p) (by omega)
  have hl2 : R2 < 18446744073709551616 := root_small (.inl rfl) hR2 (by rw [show (18446744073709551616 : Nat) ^ 2 = 2 ^ 64 * 18446744073709551616 by decide]; exact Nat.mul_lt_mul_of_pos_left hp (by decide))
  have hl3 : third = true → R < 18446744073709551616 := fun e => root_small (.inr rfl) (hR23.2 e) (by
    have h1 : 2 ^ 96 * p < 2 ^ 96 * 18446744073709551616 := Nat.mul_lt_mul_of_pos_left hp (by decide)
    have h2 : 2 ^ 96 * 18446744073709551616 ≤ (18446744073709551616 : Nat) ^ 3 := by decide
    omega)
  have SH1 : ∀ (w : World) (A : Option Addr) (n d : Nat), NatIn w A n d p → n ≤ 5000 → Calls Tryd.prog 12 #[.slice A n d, .int .i64 64] w (OutN (2 ^ 64 * p) w) := fun w A n d h hn => by have := bShl h 64 (by omega); rwa [show shlS p 64 = 2 ^ 64 * p from rfl] at this
  have SH2 : ∀ (w : World) (A : Option Addr) (n d : Nat), NatIn w A n d p → n ≤ 5000 → Calls Tryd.prog 12 #[.slice A n d, .int .i64 96] w (OutN (2 ^ 96 * p) w) := fun w A n d h hn => by have := bShl h 96 (by omega); rwa [show shlS p 96 = 2 ^ 96 * p from rfl] at this
  have HF := Lib.hid hFR
  clear hR hFR
  obtain ⟨v2, hv2⟩ : ∃ v, 2 ^ 64 * p = v := ⟨_, rfl⟩
  obtain ⟨v3, hv3⟩ : ∃ v, 2 ^ 96 * p = v := ⟨_, rfl⟩
  rw [hv2] at hs1 hR23 hR2 SH1
  rw [hv3] at hs2 hR23 SH2
  have HR2 := Lib.hid hR2
  have HR := Lib.hid hR23
  have S1 := Lib.hid SH1
  have S2 := Lib.hid SH2
  have HL := Lib.hid (And.intro hl2 hl3)
  have HO := Lib.hid (bOf w p hp)
  have HP := Lib.hid hp
  clear hR2 hR23 SH1 SH2 hl2 hl3 hv2 hv3 hp
  go_enter Tryd.func8, Tryd.ntmps8
  go_wp2_with fail
  refine (HO.out).mono ?_
  rintro e w1 ⟨X, n, d, rfl, hX, _, B1⟩
  have hn : n ≤ 64 := by have h := hX.1; rw [length_wd] at h; omega
  have HS := Lib.hid (S1.out _ _ _ _ hX.in_ (by omega))
  clear hX HO
  go_wp2_with fail
  refine (HS.out).mono ?_
  rintro e w2 ⟨Y, m, f, rfl, hY, _, b2⟩
  have hm : m ≤ 128 := by have h := hY.1; rw [length_wd] at h; omega
  have B2 := B1.trans (b2.mono B1.size)
  have HRt := Lib.hid (bSqrt hY.in_ HR2.out (by omega))
  clear HS hY
  go_wp2_with fail
  refine (HRt.out).mono ?_
  rintro e w3 ⟨Z, q, g, rfl, hZ, _, b3⟩
  have B3 := B2.trans (b3.mono B2.size)
  have HZ := Lib.hid hZ
  clear HRt hZ
  cases third
  · obtain rfl : R2 = R := HR2.out.uniq (HR.out.1 (by first | rfl | trivial))
    have HSm := Lib.hid (small_ok7 HZ.out.in_ HL.out.1)
    have hF2 : (R2 : Int) % 4294967296 = (F : Int) := by have := HF.out; omega
    go_wp2_with fail
    refine (HSm.out).mono ?_
    rintro e w4 ⟨rfl, b4⟩
    have HB := Lib.hid (B3.trans (b4.mono B3.size))
    clear HSm B1 B2 B3 b2 b3 b4
    go_wp2_with fail
    go_ret
    exact ⟨ret_num hF2, HB.out⟩
  · have HO := Lib.hid (bOf w3 p HP.out)
    go_wp2_with fail
    refine (HO.out).mono ?_
    rintro e w4 ⟨X', n', d', rfl, hX', _, b4⟩
    have B4 := B3.trans (b4.mono B3.size)
    have hn' : n' ≤ 64 := by have h := hX'.1; rw [length_wd] at h; omega
    have HS := Lib.hid (S2.out _ _ _ _ hX'.in_ (by omega))
    clear hX' HO HZ
    go_wp2_with fail
    refine (HS.out).mono ?_
    rintro e w5 ⟨Y', m', f', rfl, hY', _, b5⟩
    have hm' : m' ≤ 160 := by have h := hY'.1; rw [length_wd] at h; omega
    have B5 := B4.trans (b5.mono B4.size)
    have HRt := Lib.hid (bCbrt hY'.in_ (HR.out.2 (by first | rfl | trivial)) (by omega))
    clear HS hY'
    go_wp2_with fail
    refine (HRt.out).mono ?_
    rintro e w6 ⟨Z', q', g', rfl, hZ', _, b6⟩
    have B6 := B5.trans (b6.mono B5.size)
    have HSm := Lib.hid (small_ok7 hZ'.in_ (HL.out.2 (by first | rfl | trivial)))
    have hF2 : (R : Int) % 4294967296 = (F : Int) := by have := HF.out; omega
    clear HRt hZ'
    go_wp2_with fail
    refine (HSm.out).mono ?_
    rintro e w7 ⟨rfl, b7⟩
    have HB := Lib.hid (B6.trans (b7.mono B6.size))
    clear HSm B1 B2 B3 B4 B5 B6 b2 b3 b4 b5 b6 b7
    go_wp2_with fail
    go_ret
    exact ⟨ret_num hF2, HB.out⟩
end Go.Proofs.YtjeliomjnalpcaaDoor

/- Several texts in one; each begins with a remark that says what it shows and on which conditions. -/
import Derived.Test.YtjeliomjnalpcaaDoorKak
import Derived.Test.YtjeliomjnalpcaaDoorKav
import Derived.Test.YtjeliomjnalpcaaDoorKay
/- The document's fraction of a root. Conditions: as typed. -/
namespace Go.Proofs.YtjeliomjnalpcaaDoor
open Go.RowKit
set_option maxRecDepth 20000
/-- 2^32 times a root, rounded down: its low 32 bits are the fraction. -/
def IsFrac (p : Nat) (third : Bool) (F : Nat) : Prop := ∃ R, IsRoot (if third then 3 else 2) (2 ^ (if third then 96 else 64) * p) R ∧ F = R % 4294967296
theorem frac_some (p : Nat) (third : Bool) : ∃ F, IsFrac p third F := by
  obtain ⟨R, hR⟩ := root_some (if third then 3 else 2) (2 ^ (if third then 96 else 64) * p) (by cases third <;> simp)
  exact ⟨_, R, hR, rfl⟩
theorem IsFrac.uniq {p : Nat} {third : Bool} {F G : Nat} (h : IsFrac p third F) (k : IsFrac p third G) : F = G := by
  obtain ⟨R, hR, rfl⟩ := h
  obtain ⟨S, hS, rfl⟩ := k
  rw [hR.uniq hS]
section
variable {w : World} {A : Option Addr} {n c d M R : Nat}
theorem gShift (h : NumIs w A n d M) (k : Nat) (hn : n ≤ 5000) (hk : k ≤ 65536) : Calls Tryd.prog 29 #[.slice A n d, .int .i64 k] w (OutD (2 ^ k * M) w) := by
  obtain ⟨rfl, h2, h3, h4⟩ := h
  have := nbits_shl M k
  exact Calls.mono (shiftUp_any A d M k w h4 (by omega) (by omega)) fun _ _ h => h.out (by omega)
theorem gWords (h : NumIs w A n d M) (hn : n ≤ 50000) : Calls Tryd.prog 28 #[.slice A n d] w (OutN M w) := by
  obtain ⟨rfl, h2, h3, h4⟩ := h
  exact Calls.mono (wordsN_any A d M w h4 (by omega) h2) fun _ _ h => h.out (by omega)
theorem gRoot6 (h : NatIn w A n c M) (k : Nat) (ki : Int) (hk : ki = (k : Int)) (h1 : k ≤ 10) (h0 : 0 < k) (hR : IsRoot k M R) (hs : n ≤ 200) : Calls Tryd.prog 27 #[.slice A n c, .int .i64 ki] w (OutN R w) := by
  subst hk
  have hb := h.bits
  have hn := hR.bits h0
  obtain ⟨l, rfl, rfl, h3, h4, h5, h6⟩ := h
  exact Calls.mono (root06 A c l k R w h5 h3 hs h1 h0 hR) fun _ _ h => h.out (by omega)
/-- A number's lowest word. -/
theorem natIs_low {X : Option Addr} {q d : Nat} (h : NatIs w X q d M) (h0 : 0 < M) : (∃ g o, X = some ⟨g, o, none⟩ ∧ w.cell? ⟨g, o, none⟩ = some (.int .u64 ((M % 18446744073709551616 : Nat) : Int))) ∧ 0 < q := by
  have h1 := (nbits_iff M).2 (by omega)
  have hl := length_wd M
  have h3 := h.1
  obtain ⟨g, o, rfl, _, hc⟩ := h.2.2.1 (by omega)
  refine ⟨⟨g, o, rfl, ?_⟩, by omega⟩
  have h2 := hc 0 (by omega)
  have e : nth (wd M) 0 = M % 18446744073709551616 := by rw [nth_natOf _ (wd_words M), natOf_wd]; simp
  rw [e] at h2
  exact h2
theorem natIs_nothing {X : Option Addr} {q d : Nat} (h : NatIs w X q d 0) : q = 0 := by have h := h.1; rw [length_wd, nbits_zero] at h; omega
end
theorem natIn_lit1 (w : World) (x : Nat) (hx : x < 18446744073709551616) : NatIn (w.alloc (.cells #[.int .u64 x] 22)) (some ⟨w.heap.size, 0, none⟩) 1 1 x := by
  have h := natIn_lit w [x] (by intro y hy; simp at hy; omega) (by simp)
  have e : natOf [x] = x := by simp [natOf]
  rwa [e] at h
set_option maxHeartbeats 1000000 in
theorem frac07 (p F : Nat) (hp : p < 18446744073709551616) (third : Bool) (hF : IsFrac p third F) (w : World) : Calls Tryd.prog 9 #[.int .u64 p, .bool third] w fun e w' => e = .returned (.int .u32 (F : Nat)) ∧ Below w.heap.size w w' := by
  have hpb := nbits_of_lt p 64 hp
  have b0 : Below w.heap.size w (w.alloc (.cells #[.int .u64 p] 22)) := (Below.refl _ w).alloc (Nat.le_refl _) _
  have D := Lib.hid (bDigits (natIn_lit1 w p hp))
  obtain ⟨R, hR, hFR⟩ := hF
  have HF := Lib.hid hFR
  have hs1 := nbits_shl p 64
  have hs2 := nbits_shl p 96
  have GS1 : ∀ (w : World) (A : Option Addr) (n d : Nat), NumIs w A n d p → n ≤ 5000 → Calls Tryd.prog 29 #[.slice A n d, .int .i64 64] w (OutD (2 ^ 64 * p) w) := fun w A n d h hn => gShift h 64 hn (by omega)
  have GS2 : ∀ (w : World) (A : Option Addr) (n d : Nat), NumIs w A n d p → n ≤ 5000 → Calls Tryd.prog 29 #[.slice A n d, .int .i64 96] w (OutD (2 ^ 96 * p) w) := fun w A n d h hn => gShift h 96 hn (by omega)
  have hR23 : (third = false → IsRoot 2 (2 ^ 64 * p) R) ∧ (third = true → IsRoot 3 (2 ^ 96 * p) R) := by
    constructor
    · intro e; rw [e] at hR; exact hR
    · intro e; rw [e] at hR; exact hR
  clear hR hFR
  generalize 2 ^ 64 * p = v2 at *
  generalize 2 ^ 96 * p = v3 at *
  obtain ⟨R2, hR2⟩ := root_some 2 v2 (by omega)
  have HR2 := Lib.hid hR2
  have HR := Lib.hid hR23
  have GS1 := Lib.hid GS1
  have GS2 := Lib.hid GS2
  clear hR2 hR23
  go_enter Tryd.func9, Tryd.ntmps9
  go_wp2_with fail
  refine (D.out).mono ?_
  rintro e w1 ⟨X, n, d, rfl, hX, b1⟩
  have hn : n ≤ 64 := by rw [hX.1]; exact hpb
  have B1 := b0.trans (b1.mono b0.size)
  have HX := Lib.hid hX
  have HS := Lib.hid (GS1.out _ _ _ _ hX (by omega))
  clear hX D
  go_wp2_with fail
  refine (HS.out).mono ?_
  rintro e w2 ⟨Y, m, f, rfl, hY, b2⟩
  have hm : m ≤ 128 := by rw [hY.1]; omega
  have B2 := B1.trans (b2.mono B1.size)
  have HW := Lib.hid (gWords hY (by omega))
  clear HS hY
  go_wp2_with fail
  refine (HW.out).mono ?_
  rintro e w3 ⟨Z, q, g, rfl, hZ, _, b3⟩
  have B3 := B2.trans (b3.mono B2.size)
  have hq : q ≤ 2 := by have h := hZ.1; rw [length_wd] at h; omega
  have HRt := Lib.hid (gRoot6 hZ.in_ 2 2 rfl (by omega) (by omega) HR2.out (by omega))
  clear HW hZ
  go_wp2_with fail
  refine (HRt.out).mono ?_
  rintro e w4 ⟨V, r, h, rfl, hV, _, b4⟩
  have B4 := B3.trans (b4.mono B3.size)
  have HV := Lib.hid hV
  clear HRt hV
  cases third
  · obtain rfl : R2 = R := HR2.out.uniq (HR.out.1 (by simp))
    rcases Nat.eq_zero_or_pos R2 with h0 | h0
    · have hV := HV.out
      subst h0
      obtain rfl := natIs_nothing hV
      have hF0 := HF.out
      clear hV
      go_wp2_with fail
      go_ret
      exact ⟨by rw [hF0]; rfl, B4⟩
    · obtain ⟨⟨gb, go, rfl, hc⟩, hr0⟩ := natIs_low HV.out h0
      have hne : ((r : Int) == 0) = false := by simp; omega
      have hF0 := HF.out
      obtain ⟨z, hz⟩ : ∃ z, R2 % 18446744073709551616 = z := ⟨_, rfl⟩
      rw [hz] at hc
      have hzF : (z : Int) % 4294967296 = (F : Int) := by omega
      have HB := Lib.hid B4
      have hz64 : z < 18446744073709551616 := by omega
      clear hz hF0 h0 B1 B2 B3 B4 b0 b1 b2 b3 b4
      go_wp2_with fail
      go_ret
      exact ⟨by rw [← hzF]; rfl, HB.out⟩
  · have HS := Lib.hid (GS2.out _ _ _ _ (((HX.out.step b2).step b3).step b4) (by omega))
    go_wp2_with fail
    refine (HS.out).mono ?_
    rintro e w5 ⟨Y', m', f', rfl, hY', b5⟩
    have hm' : m' ≤ 160 := by rw [hY'.1]; omega
    have B5 := B4.trans (b5.mono B4.size)
    have HW := Lib.hid (gWords hY' (by omega))
    clear HS hY'
    go_wp2_with fail
    refine (HW.out).mono ?_
    rintro e w6 ⟨Z', q', g', rfl, hZ', _, b6⟩
    have B6 := B5.trans (b6.mono B5.size)
    have hq' : q' ≤ 3 := by have h := hZ'.1; rw [length_wd] at h; omega
    have HRt := Lib.hid (gRoot6 hZ'.in_ 3 3 rfl (by omega) (by omega) (HR.out.2 (by simp)) (by omega))
    clear HW hZ' HV
    go_wp2_with fail
    refine (HRt.out).mono ?_
    rintro e w7 ⟨V', r', h', rfl, hV', _, b7⟩
    have B7 := B6.trans (b7.mono B6.size)
    have HV := Lib.hid hV'
    clear HRt hV'
    rcases Nat.eq_zero_or_pos R with h0 | h0
    · have hV := HV.out
      subst h0
      obtain rfl := natIs_nothing hV
      have hF0 := HF.out
      clear hV
      go_wp2_with fail
      go_ret
      exact ⟨by rw [hF0]; rfl, B7⟩
    · obtain ⟨⟨gb, go, rfl, hc⟩, hr0⟩ := natIs_low HV.out h0
      have hne : ((r' : Int) == 0) = false := by simp; omega
      have hF0 := HF.out
      obtain ⟨z, hz⟩ : ∃ z, R % 18446744073709551616 = z := ⟨_, rfl⟩
      rw [hz] at hc
      have hzF : (z : Int) % 4294967296 = (F : Int) := by omega
      have HB := Lib.hid B7
      have hz64 : z < 18446744073709551616 := by omega
      clear hz hF0 h0 B1 B2 B3 B4 B5 B6 B7 b0 b1 b2 b3 b4 b5 b6 b7
      go_wp2_with fail
      go_ret
      exact ⟨by rw [← hzF]; rfl, HB.out⟩
end Go.Proofs.YtjeliomjnalpcaaDoor

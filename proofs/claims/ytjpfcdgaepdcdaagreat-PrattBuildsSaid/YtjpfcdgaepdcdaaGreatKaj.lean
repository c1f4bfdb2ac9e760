/- Several texts in one; each begins with a remark that says what it shows and on which conditions. -/
import Derived.Test.YtjpfcdgaepdcdaaGreatKae
import Derived.Test.YtjpfcdgaepdcdaaGreatKai
import Derived.IntWalk
/- bits.Div64: two words by one, as Go's own text has it. Conditions: as typed (the upper word is below the divisor). -/
namespace Go.Proofs.YtjpfcdgaepdcdaaGreat
open Go.RowKit
set_option maxRecDepth 100000
/-- How far a word is shifted so that its highest bit is set. -/
theorem norm_shift (y : Nat) (h0 : 0 < y) (hy : y < 18446744073709551616) : ∃ s : Nat, s < 64 ∧ (64 : Int) - (Lib.bitLen y : Int) = (s : Int) ∧ 9223372036854775808 ≤ y * 2 ^ s ∧ y * 2 ^ s < 18446744073709551616 := by
  obtain ⟨b1, b2, b3⟩ := Lib.bitLenAux_bounds 64 y hy (by omega)
  have hb := bitLen_le64 y hy
  have e : Lib.bitLen y = Lib.bitLenAux 64 y := rfl
  rw [e] at hb ⊢
  generalize Lib.bitLenAux 64 y = bl at *
  refine ⟨64 - bl, by omega, by omega, ?_, ?_⟩
  · have h1 : 2 ^ (bl - 1) * 2 ^ (64 - bl) ≤ y * 2 ^ (64 - bl) := Nat.mul_le_mul_right _ b2
    rwa [← Nat.pow_add, show bl - 1 + (64 - bl) = 63 by omega] at h1
  · have h1 : y * 2 ^ (64 - bl) < 2 ^ bl * 2 ^ (64 - bl) := Nat.mul_lt_mul_of_pos_right b3 (Nat.pow_pos (by omega))
    rwa [← Nat.pow_add, show bl + (64 - bl) = 64 by omega] at h1
theorem and_low (x : Nat) (hx : x < 18446744073709551616) : bits .and .u64 (x : Int) 4294967295 = ((x % 4294967296 : Nat) : Int) := by
  have h := u64_and_nat x 4294967295 hx (by omega)
  have e : x &&& 4294967295 = x % 4294967296 := Nat.and_two_pow_sub_one_eq_mod x 32
  rw [e] at h
  exact h
theorem wrap_of (x y : Nat) (h : x % 18446744073709551616 = y) : IntKind.u64.wrap (x : Int) = (y : Int) := by rw [wrap_u64]; omega
theorem ret_two {k : IntKind} {a b c d : Int} (h : a = c) (h2 : b = d) : Ending.returned (.tuple #[.int k a, .int k b]) = .returned (.tuple #[.int k c, .int k d]) := by rw [h, h2]
theorem left_wrap (u x Q Y U : Nat) (h : Q * Y ≤ u * 4294967296 + x) (hU : u * 4294967296 + x - Q * Y = U) (hb : U < 18446744073709551616) :
    IntKind.u64.wrap (IntKind.u64.wrap (IntKind.u64.wrap ((u : Int) * 4294967296) + (x : Int)) - IntKind.u64.wrap ((Q : Int) * (Y : Int))) = (U : Int) := by
  simp only [wrap_u64]
  obtain ⟨P, hP⟩ : ∃ P, Q * Y = P := ⟨_, rfl⟩
  have eP : (Q : Int) * (Y : Int) = (P : Int) := by rw [← hP]; simp
  rw [hP] at h hU
  rw [eP]
  omega
/-- A half word's place is guessed: what the walk meets. -/
theorem dig_start (u x y1 y0 Y : Nat) (hY : Y = y1 * 4294967296 + y0) (h1 : 2147483648 ≤ y1) (h2 : y1 < 4294967296) (h0 : y0 < 4294967296) (hx : x < 4294967296) (hu : u < Y) :
    ∃ q r p : Nat, (u : Int) / (y1 : Int) = (q : Int) ∧ q < 18446744073709551616 ∧ (q : Int) * (y1 : Int) = (p : Int) ∧ p < 18446744073709551616 ∧ (u : Int) - (p : Int) = (r : Int) ∧ r < 4294967296 ∧ Hid (Dig u x y1 y0 q r) := by
  subst hY
  have D := Dig.start h1 h2 h0 hx hu
  have e := D.eq
  have hl := D.le
  refine ⟨u / y1, u % y1, u / y1 * y1, by simp, by omega, by simp, by clear hl D h1; omega, ?_, D.low, Lib.hid D⟩
  clear hl D h1
  omega
/-- What the test comes to. -/
theorem dig_round {u x y1 y0 q r : Nat} (h0 : y0 < 4294967296) (h2 : y1 < 4294967296) (hx : x < 4294967296) (h : Dig u x y1 y0 q r) :
    ∃ P : Nat, (q : Int) * (y0 : Int) = (P : Int) ∧ Hid (q * y0 = P) ∧ q < 4294967298 ∧ r < 4294967296 ∧ (q < 4294967296 → P < 18446744073709551616) ∧
      IntKind.u64.wrap (4294967296 * (r : Int)) = 4294967296 * (r : Int) ∧ IntKind.u64.wrap (4294967296 * (r : Int) + (x : Int)) = 4294967296 * (r : Int) + (x : Int) ∧ IntKind.u64.wrap ((r : Int) + (y1 : Int)) = (r : Int) + (y1 : Int) := by
  have hr := h.low
  have hq := h.le
  refine ⟨q * y0, by simp, Lib.hid rfl, by omega, hr, fun h => ?_, IntWalk.u64_in _ (by clear hq; omega), IntWalk.u64_in _ (by clear hq; omega), IntWalk.u64_in _ (by clear hq; omega)⟩
  have : q * y0 ≤ 4294967296 * 4294967295 := Nat.mul_le_mul (by omega) (by omega)
  omega
set_option maxHeartbeats 4000000 in
theorem div64_any (h l y : Nat) (w : World) (hh : h < y) (hy : y < 18446744073709551616) (hl : l < 18446744073709551616) :
    Calls Tryz.prog 104 #[.int .u64 h, .int .u64 l, .int .u64 y] w fun e w' => e = .returned (.tuple #[.int .u64 ((h * 18446744073709551616 + l) / y : Nat), .int .u64 ((h * 18446744073709551616 + l) % y : Nat)]) ∧ Drawn w w' := by
  have hn1 : ((y : Int) == 0) = false := by simp; omega
  have hn2 : ¬ (y : Int) ≤ (h : Int) := by omega
  rcases Nat.eq_zero_or_pos h with rfl | h0
  · have hw : IntKind.u64.wrap ((l : Int) / (y : Int)) = (l : Int) / (y : Int) := by
      have := wrap_of (l / y) (l / y) (Nat.mod_eq_of_lt (Nat.lt_of_le_of_lt (Nat.div_le_self _ _) hl))
      simpa using this
    go_enter Tryz.func104, Tryz.ntmps104
    go_wp2_with fail
    go_quiet (fail)
    go_wp2_with fail
    go_ret2
    exact ⟨by simp, (Drawn.more _)⟩
  · have hn3 : ((h : Int) == 0) = false := by simp; omega
    obtain ⟨s, hs, hsz, hs1, hs2⟩ := norm_shift y (by omega) hy
    have LZ := Tryz.bits_LeadingZeros64 y w (by omega) (by omega)
    rw [Int.toNat_natCast, hsz] at LZ
    have HLZ := Lib.hid LZ
    clear LZ hsz
    obtain ⟨u, hu, huy, huv⟩ := norm_words h l y s hs hh hs2 hl
    have HB := Lib.hid (norm_back (h * 18446744073709551616 + l) y s)
    obtain ⟨Y, hY⟩ : ∃ Y, y * 2 ^ s = Y := ⟨_, rfl⟩
    obtain ⟨v, hv⟩ : ∃ v, l * 2 ^ s % 18446744073709551616 = v := ⟨_, rfl⟩
    have hvl : v < 18446744073709551616 := by rw [← hv]; exact Nat.mod_lt _ (by omega)
    have hdn : l / 2 ^ (64 - s) < 18446744073709551616 := Nat.lt_of_le_of_lt (Nat.div_le_self _ _) hl
    have eY : IntKind.u64.wrap ((y : Int) * 2 ^ s) = (Y : Int) := by
      rw [hY] at hs2
      have := wrap_of (y * 2 ^ s) Y (by rw [hY]; exact Nat.mod_eq_of_lt hs2)
      simpa using this
    have eV : IntKind.u64.wrap ((l : Int) * 2 ^ s) = (v : Int) := by
      have := wrap_of (l * 2 ^ s) v hv
      simpa using this
    have eH : IntKind.u64.wrap ((h : Int) * 2 ^ s) = ((h * 2 ^ s % 18446744073709551616 : Nat) : Int) := by
      have := wrap_of (h * 2 ^ s) _ rfl
      simpa using this
    have eU : bits .or .u64 (IntKind.u64.wrap ((h : Int) * 2 ^ s)) ((l : Int) / 2 ^ (64 - s)) = (u : Int) := by
      have e2 : (l : Int) / 2 ^ (64 - s) = ((l / 2 ^ (64 - s) : Nat) : Int) := by simp
      rw [eH, e2, u64_or_nat _ _ (Nat.mod_lt _ (by omega)) hdn, hu]
    rw [hY] at hs1 hs2 huy HB
    rw [hv] at huv
    clear hu hv hY eH hdn
    obtain ⟨y1, hy1⟩ : ∃ y1, Y / 4294967296 = y1 := ⟨_, rfl⟩
    obtain ⟨y0, hy0⟩ : ∃ y0, Y % 4294967296 = y0 := ⟨_, rfl⟩
    obtain ⟨v1, hv1⟩ : ∃ v1, v / 4294967296 = v1 := ⟨_, rfl⟩
    obtain ⟨v0, hv0⟩ : ∃ v0, v % 4294967296 = v0 := ⟨_, rfl⟩
    have ey1 : (Y : Int) / 4294967296 = (y1 : Int) := by omega
    have ev1 : (v : Int) / 4294967296 = (v1 : Int) := by omega
    have ey0 := and_low Y hs2
    have ev0 := and_low v hvl
    rw [hy0] at ey0
    rw [hv0] at ev0
    have hYe : Y = y1 * 4294967296 + y0 := by omega
    have hve : v = v1 * 4294967296 + v0 := by omega
    have hy1a : 2147483648 ≤ y1 := by omega
    have hy1b : y1 < 4294967296 := by omega
    have hy0b : y0 < 4294967296 := by omega
    have hv1b : v1 < 4294967296 := by omega
    have hv0b : v0 < 4294967296 := by omega
    have huB : u < 18446744073709551616 := by omega
    clear hy1 hy0 hv1 hv0
    obtain ⟨QQ, hQQ⟩ : ∃ QQ, (h * 18446744073709551616 + l) / y = QQ := ⟨_, rfl⟩
    obtain ⟨RR, hRR⟩ : ∃ RR, (h * 18446744073709551616 + l) % y = RR := ⟨_, rfl⟩
    rw [hQQ, hRR]
    have HQQ := Lib.hid hQQ
    have HRR := Lib.hid hRR
    clear hQQ hRR
    have HYe := Lib.hid hYe
    have Hve := Lib.hid hve
    have Huv := Lib.hid huv
    have Huy := Lib.hid huy
    have HU1 := Lib.hid (show u < y1 * 4294967296 + y0 by rw [← hYe]; exact huy)
    have hyn : ¬ y1 = 0 := by omega
    have Hy1a := Lib.hid hy1a
    obtain ⟨q1, r1, p1, eq1, hqb1, ep1, hpb1, er1, hrb1, HD1⟩ := dig_start u v1 y1 y0 Y hYe hy1a hy1b hy0b hv1b huy
    clear hYe hve huv huy hy1a hn2 hs1
    go_enter Tryz.func104, Tryz.ntmps104
    go_wp2_with fail
    refine (HLZ.out).mono ?_
    rintro e w' ⟨rfl, rfl⟩
    go_wp2_with fail
    go_loopw [15, 16] (fun qv rv wr => ∃ q r : Nat, qv = .int .u64 q ∧ rv = .int .u64 r ∧ Dig u v1 y1 y0 q r ∧ w' = wr) (fun qv _ _ => (intOf qv).toNat)
    case atStart => exact ⟨q1, r1, rfl, rfl, HD1.out, rfl⟩
    case round =>
      clear eq1 ep1 er1 hqb1 hpb1 hrb1 HD1
      obtain ⟨q, r, rfl, rfl, hd, rfl⟩ := hrel
      obtain ⟨P, eP, HP, hqb, hrb, hPb, t2, t3, t6⟩ := dig_round hy0b hy1b hv1b hd
      have Hd := Lib.hid hd
      clear hd
      by_cases h1 : 4294967296 ≤ q
      · have t1 : (4294967296 : Int) ≤ (q : Int) := by omega
        have e1 : (((q - 1 : Nat) : Nat) : Int) = (q : Int) - 1 := by omega
        by_cases h3 : r + y1 < 4294967296
        · have t7 : ¬ (4294967296 : Int) ≤ (r : Int) + (y1 : Int) := by omega
          have HS := Lib.hid (Hd.out.step Hy1a.out hv1b HU1.out (.inl h1) h3)
          clear hPb h1
          go_wp2_with fail
          go_roundw
          case rel => exact ⟨q - 1, r + y1, by rw [e1], rfl, HS.out.2, by trivial⟩
          case measure => have := HS.out.1; simp [intOf]; omega
        · have t7 : (4294967296 : Int) ≤ (r : Int) + (y1 : Int) := by omega
          have HS := Lib.hid (Hd.out.out Hy1a.out hy0b hv1b HU1.out (.inl h1) h3)
          obtain ⟨Q1, hQ⟩ : ∃ Q, q - 1 = Q := ⟨_, rfl⟩
          have HQ1 := Lib.hid (show Q1 = (u * 4294967296 + v1) / (y1 * 4294967296 + y0) by rw [← hQ]; exact HS.out.1)
          have eQ1 : (q : Int) - 1 = (Q1 : Int) := by omega
          clear hPb h1 h3 hQ HS Hd HP e1
          have hlo := left_of u v1 Y Q1 (by rw [HYe.out]; exact HQ1.out) (by omega)
          obtain ⟨U, hU⟩ : ∃ U, (u * 4294967296 + v1) % Y = U := ⟨_, rfl⟩
          have hUY : U < Y := by rw [← hU]; exact Nat.mod_lt _ (by omega)
          have eU2 := left_wrap u v1 Q1 Y U hlo.1 (by rw [hlo.2, hU]) (by omega)
          have HU := Lib.hid (show U = (u * 4294967296 + v1) % Y from hU.symm)
          have HU2 := Lib.hid (show U < y1 * 4294967296 + y0 by rw [← HYe.out]; exact hUY)
          obtain ⟨Q', hQ'⟩ : ∃ Q', Q' = Q1 := ⟨_, rfl⟩
          have HQ' := Lib.hid (show Q' = (u * 4294967296 + v1) / Y by rw [hQ', HYe.out]; exact HQ1.out)
          obtain ⟨q2, r2, p2, eq2, hqb2, ep2, hpb2, er2, hrb2, HD2⟩ := dig_start U v0 y1 y0 Y HYe.out Hy1a.out hy1b hy0b hv0b hUY
          clear hlo hU
          go_wp2_with fail
          clear eU2
          rw [← hQ']
          clear hQ' 
          go_loopw [18, 16] (fun qv rv wr => ∃ q r : Nat, qv = .int .u64 q ∧ rv = .int .u64 r ∧ Dig U v0 y1 y0 q r ∧ w' = wr) (fun qv _ _ => (intOf qv).toNat)
          case atStart => exact ⟨q2, r2, rfl, rfl, HD2.out, rfl⟩
          case round =>
            clear eq2 ep2 er2 hqb2 hpb2 hrb2 HD2
            obtain ⟨q, r, rfl, rfl, hd, rfl⟩ := hrel
            obtain ⟨P, eP, HP, hqb, hrb, hPb, t2, t3, t6⟩ := dig_round hy0b hy1b hv0b hd
            have Hd := Lib.hid hd
            clear hd
            by_cases h1 : 4294967296 ≤ q
            · have t1 : (4294967296 : Int) ≤ (q : Int) := by omega
              have e1 : (((q - 1 : Nat) : Nat) : Int) = (q : Int) - 1 := by omega
              by_cases h3 : r + y1 < 4294967296
              · have t7 : ¬ (4294967296 : Int) ≤ (r : Int) + (y1 : Int) := by omega
                have HS := Lib.hid (Hd.out.step Hy1a.out hv0b HU2.out (.inl h1) h3)
                clear hPb h1
                go_wp2_with fail
                go_roundw
                case rel => exact ⟨q - 1, r + y1, by rw [e1], rfl, HS.out.2, by trivial⟩
                case measure => have := HS.out.1; simp [intOf]; omega
              · have t7 : (4294967296 : Int) ≤ (r : Int) + (y1 : Int) := by omega
                have HS := Lib.hid (Hd.out.out Hy1a.out hy0b hv0b HU2.out (.inl h1) h3)
                obtain ⟨Q2, hQ⟩ : ∃ Q, q - 1 = Q := ⟨_, rfl⟩
                have HQ2 := Lib.hid (show Q2 = (U * 4294967296 + v0) / (y1 * 4294967296 + y0) by rw [← hQ]; exact HS.out.1)
                have eQ2 : (q : Int) - 1 = (Q2 : Int) := by omega
                clear hPb h1 h3 hQ HS Hd HP e1
                obtain ⟨hQa, hQb, hT1, hT2⟩ := two_digs u v1 v0 Y Q' Q2 U (by omega) Huy.out hv1b hv0b HQ'.out HU.out (by rw [HYe.out]; exact HQ2.out)
                obtain ⟨hL1, hL2⟩ := left_of U v0 Y Q2 (by rw [HYe.out]; exact HQ2.out) (by omega)
                obtain ⟨R, hR⟩ : ∃ R, (U * 4294967296 + v0) % Y = R := ⟨_, rfl⟩
                have hRY : R < Y := by rw [← hR]; exact Nat.mod_lt _ (by omega)
                have eR := left_wrap U v0 Q2 Y R hL1 (by rw [hL2, hR]) (by omega)
                rw [hR] at hT2
                have eF : ((h * 18446744073709551616 + l) / y : Nat) = Q2 + Q' * 4294967296 := by rw [hT1, ← Hve.out, Huv.out]; exact HB.out.1.symm
                have eG : ((h * 18446744073709551616 + l) % y : Nat) = R / 2 ^ s := by rw [hT2, ← Hve.out, Huv.out]; exact HB.out.2.symm
                have eRs : ((R / 2 ^ s : Nat) : Int) = (R : Int) / 2 ^ s := by simp
                have eS : IntKind.u64.wrap ((Q' : Int) * 4294967296) = (Q' : Int) * 4294967296 := IntWalk.u64_in _ (by clear hT1 hT2 hL1 hL2; omega)
                have eS2 : IntKind.u64.wrap ((Q' : Int) * 4294967296 + (Q2 : Int)) = (Q' : Int) * 4294967296 + (Q2 : Int) := IntWalk.u64_in _ (by clear hT1 hT2 hL1 hL2; omega)
                have eS3 : ((Q2 + Q' * 4294967296 : Nat) : Int) = (Q' : Int) * 4294967296 + (Q2 : Int) := by clear hT1 hT2 hL1 hL2; omega
                have HF := Lib.hid (show ((QQ : Nat) : Int) = (Q' : Int) * 4294967296 + (Q2 : Int) ∧ ((RR : Nat) : Int) = (R : Int) / 2 ^ s from ⟨by rw [← HQQ.out, eF, eS3], by rw [← HRR.out, eG, eRs]⟩)
                clear hT1 hT2 hL1 hL2 hR hRY eF eG eRs eS3
                go_wp2_with fail
                go_ret2
                exact ⟨ret_two HF.out.1.symm HF.out.2.symm, Drawn.more 0⟩
            · have t1 : ¬ (4294967296 : Int) ≤ (q : Int) := by omega
              have hPb := hPb (by omega)
              have t5 : IntKind.u64.wrap (P : Int) = (P : Int) := IntWalk.u64_in _ (by omega)
              by_cases h2 : 4294967296 * r + v0 < P
              · have t4 : 4294967296 * (r : Int) + (v0 : Int) < (P : Int) := by omega
                have h2' : 4294967296 * r + v0 < q * y0 := by rw [HP.out]; exact h2
                by_cases h3 : r + y1 < 4294967296
                · have t7 : ¬ (4294967296 : Int) ≤ (r : Int) + (y1 : Int) := by omega
                  have HS := Lib.hid (Hd.out.step Hy1a.out hv0b HU2.out (.inr h2') h3)
                  have hq1 := HS.out.1
                  have e1 : (((q - 1 : Nat) : Nat) : Int) = (q : Int) - 1 := by omega
                  clear h1 h2 h2'
                  go_wp2_with fail
                  go_roundw
                  case rel => exact ⟨q - 1, r + y1, by rw [e1], rfl, HS.out.2, by trivial⟩
                  case measure => simp [intOf]; omega
                · have t7 : (4294967296 : Int) ≤ (r : Int) + (y1 : Int) := by omega
                  have HS := Lib.hid (Hd.out.out Hy1a.out hy0b hv0b HU2.out (.inr h2') h3)
                  have hq1 := HS.out.2
                  obtain ⟨Q2, hQ⟩ : ∃ Q, q - 1 = Q := ⟨_, rfl⟩
                  have HQ2 := Lib.hid (show Q2 = (U * 4294967296 + v0) / (y1 * 4294967296 + y0) by rw [← hQ]; exact HS.out.1)
                  have eQ2 : (q : Int) - 1 = (Q2 : Int) := by omega
                  clear h1 h2 h2' h3 hQ HS Hd HP
                  obtain ⟨hQa, hQb, hT1, hT2⟩ := two_digs u v1 v0 Y Q' Q2 U (by omega) Huy.out hv1b hv0b HQ'.out HU.out (by rw [HYe.out]; exact HQ2.out)
                  obtain ⟨hL1, hL2⟩ := left_of U v0 Y Q2 (by rw [HYe.out]; exact HQ2.out) (by omega)
                  obtain ⟨R, hR⟩ : ∃ R, (U * 4294967296 + v0) % Y = R := ⟨_, rfl⟩
                  have hRY : R < Y := by rw [← hR]; exact Nat.mod_lt _ (by omega)
                  have eR := left_wrap U v0 Q2 Y R hL1 (by rw [hL2, hR]) (by omega)
                  rw [hR] at hT2
                  have eF : ((h * 18446744073709551616 + l) / y : Nat) = Q2 + Q' * 4294967296 := by rw [hT1, ← Hve.out, Huv.out]; exact HB.out.1.symm
                  have eG : ((h * 18446744073709551616 + l) % y : Nat) = R / 2 ^ s := by rw [hT2, ← Hve.out, Huv.out]; exact HB.out.2.symm
                  have eRs : ((R / 2 ^ s : Nat) : Int) = (R : Int) / 2 ^ s := by simp
                  have eS : IntKind.u64.wrap ((Q' : Int) * 4294967296) = (Q' : Int) * 4294967296 := IntWalk.u64_in _ (by clear hT1 hT2 hL1 hL2; omega)
                  have eS2 : IntKind.u64.wrap ((Q' : Int) * 4294967296 + (Q2 : Int)) = (Q' : Int) * 4294967296 + (Q2 : Int) := IntWalk.u64_in _ (by clear hT1 hT2 hL1 hL2; omega)
                  have eS3 : ((Q2 + Q' * 4294967296 : Nat) : Int) = (Q' : Int) * 4294967296 + (Q2 : Int) := by clear hT1 hT2 hL1 hL2; omega
                  have HF := Lib.hid (show ((QQ : Nat) : Int) = (Q' : Int) * 4294967296 + (Q2 : Int) ∧ ((RR : Nat) : Int) = (R : Int) / 2 ^ s from ⟨by rw [← HQQ.out, eF, eS3], by rw [← HRR.out, eG, eRs]⟩)
                  clear hT1 hT2 hL1 hL2 hR hRY eF eG eRs eS3
                  go_wp2_with fail
                  go_ret2
                  exact ⟨ret_two HF.out.1.symm HF.out.2.symm, Drawn.more 0⟩
              · have t4 : ¬ 4294967296 * (r : Int) + (v0 : Int) < (P : Int) := by omega
                have h2' : ¬ 4294967296 * r + v0 < q * y0 := by rw [HP.out]; exact h2
                have HQ2 := Lib.hid (Hd.out.done Hy1a.out h1 h2')
                obtain ⟨Q2, hQ⟩ : ∃ Q, q = Q := ⟨_, rfl⟩
                clear h1 h2 h2' Hd HP
                subst hQ
                obtain ⟨hQa, hQb, hT1, hT2⟩ := two_digs u v1 v0 Y Q' q U (by omega) Huy.out hv1b hv0b HQ'.out HU.out (by rw [HYe.out]; exact HQ2.out)
                obtain ⟨hL1, hL2⟩ := left_of U v0 Y q (by rw [HYe.out]; exact HQ2.out) (by omega)
                obtain ⟨R, hR⟩ : ∃ R, (U * 4294967296 + v0) % Y = R := ⟨_, rfl⟩
                have hRY : R < Y := by rw [← hR]; exact Nat.mod_lt _ (by omega)
                have eR := left_wrap U v0 q Y R hL1 (by rw [hL2, hR]) (by omega)
                rw [hR] at hT2
                have eF : ((h * 18446744073709551616 + l) / y : Nat) = q + Q' * 4294967296 := by rw [hT1, ← Hve.out, Huv.out]; exact HB.out.1.symm
                have eG : ((h * 18446744073709551616 + l) % y : Nat) = R / 2 ^ s := by rw [hT2, ← Hve.out, Huv.out]; exact HB.out.2.symm
                have eRs : ((R / 2 ^ s : Nat) : Int) = (R : Int) / 2 ^ s := by simp
                have eS : IntKind.u64.wrap ((Q' : Int) * 4294967296) = (Q' : Int) * 4294967296 := IntWalk.u64_in _ (by clear hT1 hT2 hL1 hL2; omega)
                have eS2 : IntKind.u64.wrap ((Q' : Int) * 4294967296 + (q : Int)) = (Q' : Int) * 4294967296 + (q : Int) := IntWalk.u64_in _ (by clear hT1 hT2 hL1 hL2; omega)
                have eS3 : ((q + Q' * 4294967296 : Nat) : Int) = (Q' : Int) * 4294967296 + (q : Int) := by clear hT1 hT2 hL1 hL2; omega
                have HF := Lib.hid (show ((QQ : Nat) : Int) = (Q' : Int) * 4294967296 + (q : Int) ∧ ((RR : Nat) : Int) = (R : Int) / 2 ^ s from ⟨by rw [← HQQ.out, eF, eS3], by rw [← HRR.out, eG, eRs]⟩)
                clear hT1 hT2 hL1 hL2 hR hRY eF eG eRs eS3
                go_wp2_with fail
                go_ret2
                exact ⟨ret_two HF.out.1.symm HF.out.2.symm, Drawn.more 0⟩
      · have t1 : ¬ (4294967296 : Int) ≤ (q : Int) := by omega
        have hPb := hPb (by omega)
        have t5 : IntKind.u64.wrap (P : Int) = (P : Int) := IntWalk.u64_in _ (by omega)
        by_cases h2 : 4294967296 * r + v1 < P
        · have t4 : 4294967296 * (r : Int) + (v1 : Int) < (P : Int) := by omega
          have h2' : 4294967296 * r + v1 < q * y0 := by rw [HP.out]; exact h2
          by_cases h3 : r + y1 < 4294967296
          · have t7 : ¬ (4294967296 : Int) ≤ (r : Int) + (y1 : Int) := by omega
            have HS := Lib.hid (Hd.out.step Hy1a.out hv1b HU1.out (.inr h2') h3)
            have hq1 := HS.out.1
            have e1 : (((q - 1 : Nat) : Nat) : Int) = (q : Int) - 1 := by omega
            clear h1 h2 h2'
            go_wp2_with fail
            go_roundw
            case rel => exact ⟨q - 1, r + y1, by rw [e1], rfl, HS.out.2, by trivial⟩
            case measure => simp [intOf]; omega
          · have t7 : (4294967296 : Int) ≤ (r : Int) + (y1 : Int) := by omega
            have HS := Lib.hid (Hd.out.out Hy1a.out hy0b hv1b HU1.out (.inr h2') h3)
            have hq1 := HS.out.2
            obtain ⟨Q1, hQ⟩ : ∃ Q, q - 1 = Q := ⟨_, rfl⟩
            have HQ1 := Lib.hid (show Q1 = (u * 4294967296 + v1) / (y1 * 4294967296 + y0) by rw [← hQ]; exact HS.out.1)
            have eQ1 : (q : Int) - 1 = (Q1 : Int) := by omega
            clear h1 h2 h2' h3 hQ HS Hd HP
            have hlo := left_of u v1 Y Q1 (by rw [HYe.out]; exact HQ1.out) (by omega)
            obtain ⟨U, hU⟩ : ∃ U, (u * 4294967296 + v1) % Y = U := ⟨_, rfl⟩
            have hUY : U < Y := by rw [← hU]; exact Nat.mod_lt _ (by omega)
            have eU2 := left_wrap u v1 Q1 Y U hlo.1 (by rw [hlo.2, hU]) (by omega)
            have HU := Lib.hid (show U = (u * 4294967296 + v1) % Y from hU.symm)
            have HU2 := Lib.hid (show U < y1 * 4294967296 + y0 by rw [← HYe.out]; exact hUY)
            obtain ⟨Q', hQ'⟩ : ∃ Q', Q' = Q1 := ⟨_, rfl⟩
            have HQ' := Lib.hid (show Q' = (u * 4294967296 + v1) / Y by rw [hQ', HYe.out]; exact HQ1.out)
            obtain ⟨q2, r2, p2, eq2, hqb2, ep2, hpb2, er2, hrb2, HD2⟩ := dig_start U v0 y1 y0 Y HYe.out Hy1a.out hy1b hy0b hv0b hUY
            clear hlo hU
            go_wp2_with fail
            clear eU2
            rw [← hQ']
            clear hQ' 
            go_loopw [18, 16] (fun qv rv wr => ∃ q r : Nat, qv = .int .u64 q ∧ rv = .int .u64 r ∧ Dig U v0 y1 y0 q r ∧ w' = wr) (fun qv _ _ => (intOf qv).toNat)
            case atStart => exact ⟨q2, r2, rfl, rfl, HD2.out, rfl⟩
            case round =>
              clear eq2 ep2 er2 hqb2 hpb2 hrb2 HD2
              obtain ⟨q, r, rfl, rfl, hd, rfl⟩ := hrel
              obtain ⟨P, eP, HP, hqb, hrb, hPb, t2, t3, t6⟩ := dig_round hy0b hy1b hv0b hd
              have Hd := Lib.hid hd
              clear hd
              by_cases h1 : 4294967296 ≤ q
              · have t1 : (4294967296 : Int) ≤ (q : Int) := by omega
                have e1 : (((q - 1 : Nat) : Nat) : Int) = (q : Int) - 1 := by omega
                by_cases h3 : r + y1 < 4294967296
                · have t7 : ¬ (4294967296 : Int) ≤ (r : Int) + (y1 : Int) := by omega
                  have HS := Lib.hid (Hd.out.step Hy1a.out hv0b HU2.out (.inl h1) h3)
                  clear hPb h1
                  go_wp2_with fail
                  go_roundw
                  case rel => exact ⟨q - 1, r + y1, by rw [e1], rfl, HS.out.2, by trivial⟩
                  case measure => have := HS.out.1; simp [intOf]; omega
                · have t7 : (4294967296 : Int) ≤ (r : Int) + (y1 : Int) := by omega
                  have HS := Lib.hid (Hd.out.out Hy1a.out hy0b hv0b HU2.out (.inl h1) h3)
                  obtain ⟨Q2, hQ⟩ : ∃ Q, q - 1 = Q := ⟨_, rfl⟩
                  have HQ2 := Lib.hid (show Q2 = (U * 4294967296 + v0) / (y1 * 4294967296 + y0) by rw [← hQ]; exact HS.out.1)
                  have eQ2 : (q : Int) - 1 = (Q2 : Int) := by omega
                  clear hPb h1 h3 hQ HS Hd HP e1
                  obtain ⟨hQa, hQb, hT1, hT2⟩ := two_digs u v1 v0 Y Q' Q2 U (by omega) Huy.out hv1b hv0b HQ'.out HU.out (by rw [HYe.out]; exact HQ2.out)
                  obtain ⟨hL1, hL2⟩ := left_of U v0 Y Q2 (by rw [HYe.out]; exact HQ2.out) (by omega)
                  obtain ⟨R, hR⟩ : ∃ R, (U * 4294967296 + v0) % Y = R := ⟨_, rfl⟩
                  have hRY : R < Y := by rw [← hR]; exact Nat.mod_lt _ (by omega)
                  have eR := left_wrap U v0 Q2 Y R hL1 (by rw [hL2, hR]) (by omega)
                  rw [hR] at hT2
                  have eF : ((h * 18446744073709551616 + l) / y : Nat) = Q2 + Q' * 4294967296 := by rw [hT1, ← Hve.out, Huv.out]; exact HB.out.1.symm
                  have eG : ((h * 18446744073709551616 + l) % y : Nat) = R / 2 ^ s := by rw [hT2, ← Hve.out, Huv.out]; exact HB.out.2.symm
                  have eRs : ((R / 2 ^ s : Nat) : Int) = (R : Int) / 2 ^ s := by simp
                  have eS : IntKind.u64.wrap ((Q' : Int) * 4294967296) = (Q' : Int) * 4294967296 := IntWalk.u64_in _ (by clear hT1 hT2 hL1 hL2; omega)
                  have eS2 : IntKind.u64.wrap ((Q' : Int) * 4294967296 + (Q2 : Int)) = (Q' : Int) * 4294967296 + (Q2 : Int) := IntWalk.u64_in _ (by clear hT1 hT2 hL1 hL2; omega)
                  have eS3 : ((Q2 + Q' * 4294967296 : Nat) : Int) = (Q' : Int) * 4294967296 + (Q2 : Int) := by clear hT1 hT2 hL1 hL2; omega
                  have HF := Lib.hid (show ((QQ : Nat) : Int) = (Q' : Int) * 4294967296 + (Q2 : Int) ∧ ((RR : Nat) : Int) = (R : Int) / 2 ^ s from ⟨by rw [← HQQ.out, eF, eS3], by rw [← HRR.out, eG, eRs]⟩)
                  clear hT1 hT2 hL1 hL2 hR hRY eF eG eRs eS3
                  go_wp2_with fail
                  go_ret2
                  exact ⟨ret_two HF.out.1.symm HF.out.2.symm, Drawn.more 0⟩
              · have t1 : ¬ (4294967296 : Int) ≤ (q : Int) := by omega
                have hPb := hPb (by omega)
                have t5 : IntKind.u64.wrap (P : Int) = (P : Int) := IntWalk.u64_in _ (by omega)
                by_cases h2 : 4294967296 * r + v0 < P
                · have t4 : 4294967296 * (r : Int) + (v0 : Int) < (P : Int) := by omega
                  have h2' : 4294967296 * r + v0 < q * y0 := by rw [HP.out]; exact h2
                  by_cases h3 : r + y1 < 4294967296
                  · have t7 : ¬ (4294967296 : Int) ≤ (r : Int) + (y1 : Int) := by omega
                    have HS := Lib.hid (Hd.out.step Hy1a.out hv0b HU2.out (.inr h2') h3)
                    have hq1 := HS.out.1
                    have e1 : (((q - 1 : Nat) : Nat) : Int) = (q : Int) - 1 := by omega
                    clear h1 h2 h2'
                    go_wp2_with fail
                    go_roundw
                    case rel => exact ⟨q - 1, r + y1, by rw [e1], rfl, HS.out.2, by trivial⟩
                    case measure => simp [intOf]; omega
                  · have t7 : (4294967296 : Int) ≤ (r : Int) + (y1 : Int) := by omega
                    have HS := Lib.hid (Hd.out.out Hy1a.out hy0b hv0b HU2.out (.inr h2') h3)
                    have hq1 := HS.out.2
                    obtain ⟨Q2, hQ⟩ : ∃ Q, q - 1 = Q := ⟨_, rfl⟩
                    have HQ2 := Lib.hid (show Q2 = (U * 4294967296 + v0) / (y1 * 4294967296 + y0) by rw [← hQ]; exact HS.out.1)
                    have eQ2 : (q : Int) - 1 = (Q2 : Int) := by omega
                    clear h1 h2 h2' h3 hQ HS Hd HP
                    obtain ⟨hQa, hQb, hT1, hT2⟩ := two_digs u v1 v0 Y Q' Q2 U (by omega) Huy.out hv1b hv0b HQ'.out HU.out (by rw [HYe.out]; exact HQ2.out)
                    obtain ⟨hL1, hL2⟩ := left_of U v0 Y Q2 (by rw [HYe.out]; exact HQ2.out) (by omega)
                    obtain ⟨R, hR⟩ : ∃ R, (U * 4294967296 + v0) % Y = R := ⟨_, rfl⟩
                    have hRY : R < Y := by rw [← hR]; exact Nat.mod_lt _ (by omega)
                    have eR := left_wrap U v0 Q2 Y R hL1 (by rw [hL2, hR]) (by omega)
                    rw [hR] at hT2
                    have eF : ((h * 18446744073709551616 + l) / y : Nat) = Q2 + Q' * 4294967296 := by rw [hT1, ← Hve.out, Huv.out]; exact HB.out.1.symm
                    have eG : ((h * 18446744073709551616 + l) % y : Nat) = R / 2 ^ s := by rw [hT2, ← Hve.out, Huv.out]; exact HB.out.2.symm
                    have eRs : ((R / 2 ^ s : Nat) : Int) = (R : Int) / 2 ^ s := by simp
                    have eS : IntKind.u64.wrap ((Q' : Int) * 4294967296) = (Q' : Int) * 4294967296 := IntWalk.u64_in _ (by clear hT1 hT2 hL1 hL2; omega)
                    have eS2 : IntKind.u64.wrap ((Q' : Int) * 4294967296 + (Q2 : Int)) = (Q' : Int) * 4294967296 + (Q2 : Int) := IntWalk.u64_in _ (by clear hT1 hT2 hL1 hL2; omega)
                    have eS3 : ((Q2 + Q' * 4294967296 : Nat) : Int) = (Q' : Int) * 4294967296 + (Q2 : Int) := by clear hT1 hT2 hL1 hL2; omega
                    have HF := Lib.hid (show ((QQ : Nat) : Int) = (Q' : Int) * 4294967296 + (Q2 : Int) ∧ ((RR : Nat) : Int) = (R : Int) / 2 ^ s from ⟨by rw [← HQQ.out, eF, eS3], by rw [← HRR.out, eG, eRs]⟩)
                    clear hT1 hT2 hL1 hL2 hR hRY eF eG eRs eS3
                    go_wp2_with fail
                    go_ret2
                    exact ⟨ret_two HF.out.1.symm HF.out.2.symm, Drawn.more 0⟩
                · have t4 : ¬ 4294967296 * (r : Int) + (v0 : Int) < (P : Int) := by omega
                  have h2' : ¬ 4294967296 * r + v0 < q * y0 := by rw [HP.out]; exact h2
                  have HQ2 := Lib.hid (Hd.out.done Hy1a.out h1 h2')
                  obtain ⟨Q2, hQ⟩ : ∃ Q, q = Q := ⟨_, rfl⟩
                  clear h1 h2 h2' Hd HP
                  subst hQ
                  obtain ⟨hQa, hQb, hT1, hT2⟩ := two_digs u v1 v0 Y Q' q U (by omega) Huy.out hv1b hv0b HQ'.out HU.out (by rw [HYe.out]; exact HQ2.out)
                  obtain ⟨hL1, hL2⟩ := left_of U v0 Y q (by rw [HYe.out]; exact HQ2.out) (by omega)
                  obtain ⟨R, hR⟩ : ∃ R, (U * 4294967296 + v0) % Y = R := ⟨_, rfl⟩
                  have hRY : R < Y := by rw [← hR]; exact Nat.mod_lt _ (by omega)
                  have eR := left_wrap U v0 q Y R hL1 (by rw [hL2, hR]) (by omega)
                  rw [hR] at hT2
                  have eF : ((h * 18446744073709551616 + l) / y : Nat) = q + Q' * 4294967296 := by rw [hT1, ← Hve.out, Huv.out]; exact HB.out.1.symm
                  have eG : ((h * 18446744073709551616 + l) % y : Nat) = R / 2 ^ s := by rw [hT2, ← Hve.out, Huv.out]; exact HB.out.2.symm
                  have eRs : ((R / 2 ^ s : Nat) : Int) = (R : Int) / 2 ^ s := by simp
                  have eS : IntKind.u64.wrap ((Q' : Int) * 4294967296) = (Q' : Int) * 4294967296 := IntWalk.u64_in _ (by clear hT1 hT2 hL1 hL2; omega)
                  have eS2 : IntKind.u64.wrap ((Q' : Int) * 4294967296 + (q : Int)) = (Q' : Int) * 4294967296 + (q : Int) := IntWalk.u64_in _ (by clear hT1 hT2 hL1 hL2; omega)
                  have eS3 : ((q + Q' * 4294967296 : Nat) : Int) = (Q' : Int) * 4294967296 + (q : Int) := by clear hT1 hT2 hL1 hL2; omega
                  have HF := Lib.hid (show ((QQ : Nat) : Int) = (Q' : Int) * 4294967296 + (q : Int) ∧ ((RR : Nat) : Int) = (R : Int) / 2 ^ s from ⟨by rw [← HQQ.out, eF, eS3], by rw [← HRR.out, eG, eRs]⟩)
                  clear hT1 hT2 hL1 hL2 hR hRY eF eG eRs eS3
                  go_wp2_with fail
                  go_ret2
                  exact ⟨ret_two HF.out.1.symm HF.out.2.symm, Drawn.more 0⟩
        · have t4 : ¬ 4294967296 * (r : Int) + (v1 : Int) < (P : Int) := by omega
          have h2' : ¬ 4294967296 * r + v1 < q * y0 := by rw [HP.out]; exact h2
          have HQ1 := Lib.hid (Hd.out.done Hy1a.out h1 h2')
          obtain ⟨Q1, hQ⟩ : ∃ Q, q = Q := ⟨_, rfl⟩
          clear h1 h2 h2' Hd HP
          subst hQ
          have hlo := left_of u v1 Y q (by rw [HYe.out]; exact HQ1.out) (by omega)
          obtain ⟨U, hU⟩ : ∃ U, (u * 4294967296 + v1) % Y = U := ⟨_, rfl⟩
          have hUY : U < Y := by rw [← hU]; exact Nat.mod_lt _ (by omega)
          have eU2 := left_wrap u v1 q Y U hlo.1 (by rw [hlo.2, hU]) (by omega)
          have HU := Lib.hid (show U = (u * 4294967296 + v1) % Y from hU.symm)
          have HU2 := Lib.hid (show U < y1 * 4294967296 + y0 by rw [← HYe.out]; exact hUY)
          obtain ⟨Q', hQ'⟩ : ∃ Q', Q' = q := ⟨_, rfl⟩
          have HQ' := Lib.hid (show Q' = (u * 4294967296 + v1) / Y by rw [hQ', HYe.out]; exact HQ1.out)
          obtain ⟨q2, r2, p2, eq2, hqb2, ep2, hpb2, er2, hrb2, HD2⟩ := dig_start U v0 y1 y0 Y HYe.out Hy1a.out hy1b hy0b hv0b hUY
          clear hlo hU
          go_wp2_with fail
          clear eU2
          rw [← hQ']
          clear hQ' 
          go_loopw [18, 16] (fun qv rv wr => ∃ q r : Nat, qv = .int .u64 q ∧ rv = .int .u64 r ∧ Dig U v0 y1 y0 q r ∧ w' = wr) (fun qv _ _ => (intOf qv).toNat)
          case atStart => exact ⟨q2, r2, rfl, rfl, HD2.out, rfl⟩
          case round =>
            clear eq2 ep2 er2 hqb2 hpb2 hrb2 HD2
            obtain ⟨q, r, rfl, rfl, hd, rfl⟩ := hrel
            obtain ⟨P, eP, HP, hqb, hrb, hPb, t2, t3, t6⟩ := dig_round hy0b hy1b hv0b hd
            have Hd := Lib.hid hd
            clear hd
            by_cases h1 : 4294967296 ≤ q
            · have t1 : (4294967296 : Int) ≤ (q : Int) := by omega
              have e1 : (((q - 1 : Nat) : Nat) : Int) = (q : Int) - 1 := by omega
              by_cases h3 : r + y1 < 4294967296
              · have t7 : ¬ (4294967296 : Int) ≤ (r : Int) + (y1 : Int) := by omega
                have HS := Lib.hid (Hd.out.step Hy1a.out hv0b HU2.out (.inl h1) h3)
                clear hPb h1
                go_wp2_with fail
                go_roundw
                case rel => exact ⟨q - 1, r + y1, by rw [e1], rfl, HS.out.2, by trivial⟩
                case measure => have := HS.out.1; simp [intOf]; omega
              · have t7 : (4294967296 : Int) ≤ (r : Int) + (y1 : Int) := by omega
                have HS := Lib.hid (Hd.out.out Hy1a.out hy0b hv0b HU2.out (.inl h1) h3)
                obtain ⟨Q2, hQ⟩ : ∃ Q, q - 1 = Q := ⟨_, rfl⟩
                have HQ2 := Lib.hid (show Q2 = (U * 4294967296 + v0) / (y1 * 4294967296 + y0) by rw [← hQ]; exact HS.out.1)
                have eQ2 : (q : Int) - 1 = (Q2 : Int) := by omega
                clear hPb h1 h3 hQ HS Hd HP e1
                obtain ⟨hQa, hQb, hT1, hT2⟩ := two_digs u v1 v0 Y Q' Q2 U (by omega) Huy.out hv1b hv0b HQ'.out HU.out (by rw [HYe.out]; exact HQ2.out)
                obtain ⟨hL1, hL2⟩ := left_of U v0 Y Q2 (by rw [HYe.out]; exact HQ2.out) (by omega)
                obtain ⟨R, hR⟩ : ∃ R, (U * 4294967296 + v0) % Y = R := ⟨_, rfl⟩
                have hRY : R < Y := by rw [← hR]; exact Nat.mod_lt _ (by omega)
                have eR := left_wrap U v0 Q2 Y R hL1 (by rw [hL2, hR]) (by omega)
                rw [hR] at hT2
                have eF : ((h * 18446744073709551616 + l) / y : Nat) = Q2 + Q' * 4294967296 := by rw [hT1, ← Hve.out, Huv.out]; exact HB.out.1.symm
                have eG : ((h * 18446744073709551616 + l) % y : Nat) = R / 2 ^ s := by rw [hT2, ← Hve.out, Huv.out]; exact HB.out.2.symm
                have eRs : ((R / 2 ^ s : Nat) : Int) = (R : Int) / 2 ^ s := by simp
                have eS : IntKind.u64.wrap ((Q' : Int) * 4294967296) = (Q' : Int) * 4294967296 := IntWalk.u64_in _ (by clear hT1 hT2 hL1 hL2; omega)
                have eS2 : IntKind.u64.wrap ((Q' : Int) * 4294967296 + (Q2 : Int)) = (Q' : Int) * 4294967296 + (Q2 : Int) := IntWalk.u64_in _ (by clear hT1 hT2 hL1 hL2; omega)
                have eS3 : ((Q2 + Q' * 4294967296 : Nat) : Int) = (Q' : Int) * 4294967296 + (Q2 : Int) := by clear hT1 hT2 hL1 hL2; omega
                have HF := Lib.hid (show ((QQ : Nat) : Int) = (Q' : Int) * 4294967296 + (Q2 : Int) ∧ ((RR : Nat) : Int) = (R : Int) / 2 ^ s from ⟨by rw [← HQQ.out, eF, eS3], by rw [← HRR.out, eG, eRs]⟩)
                clear hT1 hT2 hL1 hL2 hR hRY eF eG eRs eS3
                go_wp2_with fail
                go_ret2
                exact ⟨ret_two HF.out.1.symm HF.out.2.symm, Drawn.more 0⟩
            · have t1 : ¬ (4294967296 : Int) ≤ (q : Int) := by omega
              have hPb := hPb (by omega)
              have t5 : IntKind.u64.wrap (P : Int) = (P : Int) := IntWalk.u64_in _ (by omega)
              by_cases h2 : 4294967296 * r + v0 < P
              · have t4 : 4294967296 * (r : Int) + (v0 : Int) < (P : Int) := by omega
                have h2' : 4294967296 * r + v0 < q * y0 := by rw [HP.out]; exact h2
                by_cases h3 : r + y1 < 4294967296
                · have t7 : ¬ (4294967296 : Int) ≤ (r : Int) + (y1 : Int) := by omega
                  have HS := Lib.hid (Hd.out.step Hy1a.out hv0b HU2.out (.inr h2') h3)
                  have hq1 := HS.out.1
                  have e1 : (((q - 1 : Nat) : Nat) : Int) = (q : Int) - 1 := by omega
                  clear h1 h2 h2'
                  go_wp2_with fail
                  go_roundw
                  case rel => exact ⟨q - 1, r + y1, by rw [e1], rfl, HS.out.2, by trivial⟩
                  case measure => simp [intOf]; omega
                · have t7 : (4294967296 : Int) ≤ (r : Int) + (y1 : Int) := by omega
                  have HS := Lib.hid (Hd.out.out Hy1a.out hy0b hv0b HU2.out (.inr h2') h3)
                  have hq1 := HS.out.2
                  obtain ⟨Q2, hQ⟩ : ∃ Q, q - 1 = Q := ⟨_, rfl⟩
                  have HQ2 := Lib.hid (show Q2 = (U * 4294967296 + v0) / (y1 * 4294967296 + y0) by rw [← hQ]; exact HS.out.1)
                  have eQ2 : (q : Int) - 1 = (Q2 : Int) := by omega
                  clear h1 h2 h2' h3 hQ HS Hd HP
                  obtain ⟨hQa, hQb, hT1, hT2⟩ := two_digs u v1 v0 Y Q' Q2 U (by omega) Huy.out hv1b hv0b HQ'.out HU.out (by rw [HYe.out]; exact HQ2.out)
                  obtain ⟨hL1, hL2⟩ := left_of U v0 Y Q2 (by rw [HYe.out]; exact HQ2.out) (by omega)
                  obtain ⟨R, hR⟩ : ∃ R, (U * 4294967296 + v0) % Y = R := ⟨_, rfl⟩
                  have hRY : R < Y := by rw [← hR]; exact Nat.mod_lt _ (by omega)
                  have eR := left_wrap U v0 Q2 Y R hL1 (by rw [hL2, hR]) (by omega)
                  rw [hR] at hT2
                  have eF : ((h * 18446744073709551616 + l) / y : Nat) = Q2 + Q' * 4294967296 := by rw [hT1, ← Hve.out, Huv.out]; exact HB.out.1.symm
                  have eG : ((h * 18446744073709551616 + l) % y : Nat) = R / 2 ^ s := by rw [hT2, ← Hve.out, Huv.out]; exact HB.out.2.symm
                  have eRs : ((R / 2 ^ s : Nat) : Int) = (R : Int) / 2 ^ s := by simp
                  have eS : IntKind.u64.wrap ((Q' : Int) * 4294967296) = (Q' : Int) * 4294967296 := IntWalk.u64_in _ (by clear hT1 hT2 hL1 hL2; omega)
                  have eS2 : IntKind.u64.wrap ((Q' : Int) * 4294967296 + (Q2 : Int)) = (Q' : Int) * 4294967296 + (Q2 : Int) := IntWalk.u64_in _ (by clear hT1 hT2 hL1 hL2; omega)
                  have eS3 : ((Q2 + Q' * 4294967296 : Nat) : Int) = (Q' : Int) * 4294967296 + (Q2 : Int) := by clear hT1 hT2 hL1 hL2; omega
                  have HF := Lib.hid (show ((QQ : Nat) : Int) = (Q' : Int) * 4294967296 + (Q2 : Int) ∧ ((RR : Nat) : Int) = (R : Int) / 2 ^ s from ⟨by rw [← HQQ.out, eF, eS3], by rw [← HRR.out, eG, eRs]⟩)
                  clear hT1 hT2 hL1 hL2 hR hRY eF eG eRs eS3
                  go_wp2_with fail
                  go_ret2
                  exact ⟨ret_two HF.out.1.symm HF.out.2.symm, Drawn.more 0⟩
              · have t4 : ¬ 4294967296 * (r : Int) + (v0 : Int) < (P : Int) := by omega
                have h2' : ¬ 4294967296 * r + v0 < q * y0 := by rw [HP.out]; exact h2
                have HQ2 := Lib.hid (Hd.out.done Hy1a.out h1 h2')
                obtain ⟨Q2, hQ⟩ : ∃ Q, q = Q := ⟨_, rfl⟩
                clear h1 h2 h2' Hd HP
                subst hQ
                obtain ⟨hQa, hQb, hT1, hT2⟩ := two_digs u v1 v0 Y Q' q U (by omega) Huy.out hv1b hv0b HQ'.out HU.out (by rw [HYe.out]; exact HQ2.out)
                obtain ⟨hL1, hL2⟩ := left_of U v0 Y q (by rw [HYe.out]; exact HQ2.out) (by omega)
                obtain ⟨R, hR⟩ : ∃ R, (U * 4294967296 + v0) % Y = R := ⟨_, rfl⟩
                have hRY : R < Y := by rw [← hR]; exact Nat.mod_lt _ (by omega)
                have eR := left_wrap U v0 q Y R hL1 (by rw [hL2, hR]) (by omega)
                rw [hR] at hT2
                have eF : ((h * 18446744073709551616 + l) / y : Nat) = q + Q' * 4294967296 := by rw [hT1, ← Hve.out, Huv.out]; exact HB.out.1.symm
                have eG : ((h * 18446744073709551616 + l) % y : Nat) = R / 2 ^ s := by rw [hT2, ← Hve.out, Huv.out]; exact HB.out.2.symm
                have eRs : ((R / 2 ^ s : Nat) : Int) = (R : Int) / 2 ^ s := by simp
                have eS : IntKind.u64.wrap ((Q' : Int) * 4294967296) = (Q' : Int) * 4294967296 := IntWalk.u64_in _ (by clear hT1 hT2 hL1 hL2; omega)
                have eS2 : IntKind.u64.wrap ((Q' : Int) * 4294967296 + (q : Int)) = (Q' : Int) * 4294967296 + (q : Int) := IntWalk.u64_in _ (by clear hT1 hT2 hL1 hL2; omega)
                have eS3 : ((q + Q' * 4294967296 : Nat) : Int) = (Q' : Int) * 4294967296 + (q : Int) := by clear hT1 hT2 hL1 hL2; omega
                have HF := Lib.hid (show ((QQ : Nat) : Int) = (Q' : Int) * 4294967296 + (q : Int) ∧ ((RR : Nat) : Int) = (R : Int) / 2 ^ s from ⟨by rw [← HQQ.out, eF, eS3], by rw [← HRR.out, eG, eRs]⟩)
                clear hT1 hT2 hL1 hL2 hR hRY eF eG eRs eS3
                go_wp2_with fail
                go_ret2
                exact ⟨ret_two HF.out.1.symm HF.out.2.symm, Drawn.more 0⟩
end Go.Proofs.YtjpfcdgaepdcdaaGreat

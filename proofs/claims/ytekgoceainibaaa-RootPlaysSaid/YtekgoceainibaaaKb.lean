/- Several texts in one; each begins with a remark that says what it shows and on which conditions. -/
import Derived.Test.YtekgoceainibaaaKa
import Derived.IntWalk
import Derived.OrdersIn
import Derived.RangeFuncCalls
import Derived.WalkKit
import Derived.Deep.RegionWith
import Derived.Deep.DeepCutAuto
import Derived.RangeFuncBox
import Derived.Laws.EntriesVeiled
import Derived.Laws.Bits128
/- bits.Div64: two words by one, as Go's own text has it. Conditions: as typed (the upper word is below the divisor). -/
namespace Go.Proofs.Ytekgoceainibaaa
open Go.RowKit
set_option maxRecDepth 100000
/-- How far a word is shifted so that its highest bit is set. -/
theorem norm_shift (y : Nat) (h0 : 0 < y) (hy : y < 18446744073709551616) : ∃ s : Nat, s < 64 ∧ (64 : Int) - (Lib.bitLen y : Int) = (s : Int) ∧ 9223372036854775808 ≤ y * 2 ^ s ∧ y * 2 ^ s < 18446744073709551616 := by
  obtain ⟨b1, b2, b3⟩ := Lib.bitLenAux_bounds 64 y hy (by omega)
  have hb := bitLen_le64 y hy
  have e : Lib.bitLen y = Lib.bitLenAux 64 y := rfl
  rw [e] at hb ⊢
  generalize Lib.bitLenAux 64 y = bl at *
  refine ⟨64 - bl, by omega, by omega, ?_, ?_⟩
  · have h1 : 2 ^ (bl - 1) * 2 ^ (64 - bl) ≤ y * 2 ^ (64 - bl) := Nat.mul_le_mul_right _ b2
    rwa [← Nat.pow_add, show bl - 1 + (64 - bl) = 63 by omega] at h1
  · have h1 : y * 2 ^ (64 - bl) < 2 ^ bl * 2 ^ (64 - bl) := Nat.mul_lt_mul_of_pos_right b3 (Nat.pow_pos (by omega))
    rwa [← Nat.pow_add, show bl + (64 - bl) = 64 by omega] at h1
theorem and_low (x : Nat) (hx : x < 18446744073709551616) : bits .and .u64 (x : Int) 4294967295 = ((x % 4294967296 : Nat) : Int) := by
  have h := u64_and_nat x 4294967295 hx (by omega)
  have e : x &&& 4294967295 = x % 4294967296 := Nat.and_two_pow_sub_one_eq_mod x 32
  rw [e] at h
  exact h
theorem wrap_of (x y : Nat) (h : x % 18446744073709551616 = y) : IntKind.u64.wrap (x : Int) = (y : Int) := by rw [wrap_u64]; omega
theorem ret_two {k : IntKind} {a b c d : Int} (h : a = c) (h2 : b = d) : Ending.returned (.tuple #[.int k a, .int k b]) = .returned (.tuple #[.int k c, .int k d]) := by rw [h, h2]
theorem left_wrap (u x Q Y U : Nat) (h : Q * Y ≤ u * 4294967296 + x) (hU : u * 4294967296 + x - Q * Y = U) (hb : U < 18446744073709551616) :
    IntKind.u64.wrap (IntKind.u64.wrap (IntKind.u64.wrap ((u : Int) * 4294967296) + (x : Int)) - IntKind.u64.wrap ((Q : Int) * (Y : Int))) = (U : Int) := by
  simp only [wrap_u64]
  obtain ⟨P, hP⟩ : ∃ P, Q * Y = P := ⟨_, rfl⟩
  have eP : (Q : Int) * (Y : Int) = (P : Int) := by rw [← hP]; simp
  rw [hP] at h hU
  rw [eP]
  omega
/-- A half word's place is guessed: what the walk meets. -/
theorem dig_start (u x y1 y0 Y : Nat) (hY : Y = y1 * 4294967296 + y0) (h1 : 2147483648 ≤ y1) (h2 : y1 < 4294967296) (h0 : y0 < 4294967296) (hx : x < 4294967296) (hu : u < Y) :
    ∃ q r p : Nat, (u : Int) / (y1 : Int) = (q : Int) ∧ q < 18446744073709551616 ∧ (q : Int) * (y1 : Int) = (p : Int) ∧ p < 18446744073709551616 ∧ (u : Int) - (p : Int) = (r : Int) ∧ r < 4294967296 ∧ Hid (Dig u x y1 y0 q r) := by
  subst hY
  have D := Dig.start h1 h2 h0 hx hu
  have e := D.eq
  have hl := D.le
  refine ⟨u / y1, u % y1, u / y1 * y1, by simp, by omega, by simp, by clear hl D h1; omega, ?_, D.low, Lib.hid D⟩
  clear hl D h1
  omega
/-- What the test comes to. -/
theorem dig_round {u x y1 y0 q r : Nat} (h0 : y0 < 4294967296) (h2 : y1 < 4294967296) (hx : x < 4294967296) (h : Dig u x y1 y0 q r) :
    ∃ P : Nat, (q : Int) * (y0 : Int) = (P : Int) ∧ Hid (q * y0 = P) ∧ q < 4294967298 ∧ r < 4294967296 ∧ (q < 4294967296 → P < 18446744073709551616) ∧
      IntKind.u64.wrap (4294967296 * (r : Int)) = 4294967296 * (r : Int) ∧ IntKind.u64.wrap (4294967296 * (r : Int) + (x : Int)) = 4294967296 * (r : Int) + (x : Int) ∧ IntKind.u64.wrap ((r : Int) + (y1 : Int)) = (r : Int) + (y1 : Int) := by
  have hr := h.low
  have hq := h.le
  refine ⟨q * y0, by simp, Lib.hid rfl, by omega, hr, fun h => ?_, IntWalk.u64_in _ (by clear hq; omega), IntWalk.u64_in _ (by clear hq; omega), IntWalk.u64_in _ (by clear hq; omega)⟩
  have : q * y0 ≤ 4294967296 * 4294967295 := Nat.mul_le_mul (by omega) (by omega)
  omega
set_option maxHeartbeats 4000000 in
theorem div64_any (h l y : Nat) (w : World) (hh : h < y) (hy : y < 18446744073709551616) (hl : l < 18446744073709551616) :
    Calls Try.prog 52 #[.int .u64 h, .int .u64 l, .int .u64 y] w fun e w' => e = .returned (.tuple #[.int .u64 ((h * 18446744073709551616 + l) / y : Nat), .int .u64 ((h * 18446744073709551616 + l) % y : Nat)]) ∧ Drawn w w' := by
  have hn1 : ((y : Int) == 0) = false := by simp; omega
  have hn2 : ¬ (y : Int) ≤ (h : Int) := by omega
  rcases Nat.eq_zero_or_pos h with rfl | h0
  · have hw : IntKind.u64.wrap ((l : Int) / (y : Int)) = (l : Int) / (y : Int) := by
      have := wrap_of (l / y) (l / y) (Nat.mod_eq_of_lt (Nat.lt_of_le_of_lt (Nat.div_le_self _ _) hl))
      simpa using this
    go_enter Try.func52, Try.ntmps52
    go_wp2_with fail
    go_quiet (fail)
    go_wp2_with fail
    go_ret2
    exact ⟨by simp, (Drawn.more _)⟩
  · have hn3 : ((h : Int) == 0) = false := by simp; omega
    obtain ⟨s, hs, hsz, hs1, hs2⟩ := norm_shift y (by omega) hy
    have LZ := Try.bits_LeadingZeros64 y w (by omega) (by omega)
    rw [Int.toNat_natCast, hsz] at LZ
    have HLZ := Lib.hid LZ
    clear LZ hsz
    obtain ⟨u, hu, huy, huv⟩ := norm_words h l y s hs hh hs2 hl
    have HB := Lib.hid (norm_back (h * 18446744073709551616 + l) y s)
    obtain ⟨Y, hY⟩ : ∃ Y, y * 2 ^ s = Y := ⟨_, rfl⟩
    obtain ⟨v, hv⟩ : ∃ v, l * 2 ^ s % 18446744073709551616 = v := ⟨_, rfl⟩
    have hvl : v < 18446744073709551616 := by rw [← hv]; exact Nat.mod_lt _ (by omega)
    have hdn : l / 2 ^ (64 - s) < 18446744073709551616 := Nat.lt_of_le_of_lt (Nat.div_le_self _ _) hl
    have eY : IntKind.u64.wrap ((y : Int) * 2 ^ s) = (Y : Int) := by
      rw [hY] at hs2
      have := wrap_of (y * 2 ^ s) Y (by rw [hY]; exact Nat.mod_eq_of_lt hs2)
      simpa using this
    have eV : IntKind.u64.wrap ((l : Int) * 2 ^ s) = (v : Int) := by
      have := wrap_of (l * 2 ^ s) v hv
      simpa using this
    have eH : IntKind.u64.wrap ((h : Int) * 2 ^ s) = ((h * 2 ^ s % 18446744073709551616 : Nat) : Int) := by
      have := wrap_of (h * 2 ^ s) _ rfl
      simpa using this
    have eU : bits .or .u64 (IntKind.u64.wrap ((h : Int) * 2 ^ s)) ((l : Int) / 2 ^ (64 - s)) = (u : Int) := by
      have e2 : (l : Int) / 2 ^ (64 - s) = ((l / 2 ^ (64 - s) : Nat) : Int) := by simp
      rw [eH, e2, u64_or_nat _ _ (Nat.mod_lt _ (by omega)) hdn, hu]
    rw [hY] at hs1 hs2 huy HB
    rw [hv] at huv
    clear hu hv hY eH hdn
    obtain ⟨y1, hy1⟩ : ∃ y1, Y / 4294967296 = y1 := ⟨_, rfl⟩
    obtain ⟨y0, hy0⟩ : ∃ y0, Y % 4294967296 = y0 := ⟨_, rfl⟩
    obtain ⟨v1, hv1⟩ : ∃ v1, v / 4294967296 = v1 := ⟨_, rfl⟩
    obtain ⟨v0, hv0⟩ : ∃ v0, v % 4294967296 = v0 := ⟨_, rfl⟩
    have ey1 : (Y : Int) / 4294967296 = (y1 : Int) := by omega
    have ev1 : (v : Int) / 4294967296 = (v1 : Int) := by omega
    have ey0 := and_low Y hs2
    have ev0 := and_low v hvl
    rw [hy0] at ey0
    rw [hv0] at ev0
    have hYe : Y = y1 * 4294967296 + y0 := by omega
    have hve : v = v1 * 4294967296 + v0 := by omega
    have hy1a : 2147483648 ≤ y1 := by omega
    have hy1b : y1 < 4294967296 := by omega
    have hy0b : y0 < 4294967296 := by omega
    have hv1b : v1 < 4294967296 := by omega
    have hv0b : v0 < 4294967296 := by omega
    have huB : u < 18446744073709551616 := by omega
    clear hy1 hy0 hv1 hv0
    obtain ⟨QQ, hQQ⟩ : ∃ QQ, (h * 18446744073709551616 + l) / y = QQ := ⟨_, rfl⟩
    obtain ⟨RR, hRR⟩ : ∃ RR, (h * 18446744073709551616 + l) % y = RR := ⟨_, rfl⟩
    rw [hQQ, hRR]
    have HQQ := Lib.hid hQQ
    have HRR := Lib.hid hRR
    clear hQQ hRR
    have HYe := Lib.hid hYe
    have Hve := Lib.hid hve
    have Huv := Lib.hid huv
    have Huy := Lib.hid huy
    have HU1 := Lib.hid (show u < y1 * 4294967296 + y0 by rw [← hYe]; exact huy)
    have hyn : ¬ y1 = 0 := by omega
    have Hy1a := Lib.hid hy1a
    obtain ⟨q1, r1, p1, eq1, hqb1, ep1, hpb1, er1, hrb1, HD1⟩ := dig_start u v1 y1 y0 Y hYe hy1a hy1b hy0b hv1b huy
    clear hYe hve huv huy hy1a hn2 hs1
    go_enter Try.func52, Try.ntmps52
    go_wp2_with fail
    refine (HLZ.out).mono ?_
    rintro e w' ⟨rfl, rfl⟩
    go_wp2_with fail
    go_loopw [15, 16] (fun qv rv wr => ∃ q r : Nat, qv = .int .u64 q ∧ rv = .int .u64 r ∧ Dig u v1 y1 y0 q r ∧ w' = wr) (fun qv _ _ => (intOf qv).toNat)
    case atStart => exact ⟨q1, r1, rfl, rfl, HD1.out, rfl⟩
    case round =>
      clear eq1 ep1 er1 hqb1 hpb1 hrb1 HD1
      obtain ⟨q, r, rfl, rfl, hd, rfl⟩ := hrel
      obtain ⟨P, eP, HP, hqb, hrb, hPb, t2, t3, t6⟩ := dig_round hy0b hy1b hv1b hd
      have Hd := Lib.hid hd
      clear hd
      by_cases h1 : 4294967296 ≤ q
      · have t1 : (4294967296 : Int) ≤ (q : Int) := by omega
        have e1 : (((q - 1 : Nat) : Nat) : Int) = (q : Int) - 1 := by omega
        by_cases h3 : r + y1 < 4294967296
        · have t7 : ¬ (4294967296 : Int) ≤ (r : Int) + (y1 : Int) := by omega
          have HS := Lib.hid (Hd.out.step Hy1a.out hv1b HU1.out (.inl h1) h3)
          clear hPb h1
          go_wp2_with fail
          go_roundw
          case rel => exact ⟨q - 1, r + y1, by rw [e1], rfl, HS.out.2, by trivial⟩
          case measure => have := HS.out.1; simp [intOf]; omega
        · have t7 : (4294967296 : Int) ≤ (r : Int) + (y1 : Int) := by omega
          have HS := Lib.hid (Hd.out.out Hy1a.out hy0b hv1b HU1.out (.inl h1) h3)
          obtain ⟨Q1, hQ⟩ : ∃ Q, q - 1 = Q := ⟨_, rfl⟩
          have HQ1 := Lib.hid (show Q1 = (u * 4294967296 + v1) / (y1 * 4294967296 + y0) by rw [← hQ]; exact HS.out.1)
          have eQ1 : (q : Int) - 1 = (Q1 : Int) := by omega
          clear hPb h1 h3 hQ HS Hd HP e1
          have hlo := left_of u v1 Y Q1 (by rw [HYe.out]; exact HQ1.out) (by omega)
          obtain ⟨U, hU⟩ : ∃ U, (u * 4294967296 + v1) % Y = U := ⟨_, rfl⟩
          have hUY : U < Y := by rw [← hU]; exact Nat.mod_lt _ (by omega)
          have eU2 := left_wrap u v1 Q1 Y U hlo.1 (by rw [hlo.2, hU]) (by omega)
          have HU := Lib.hid (show U = (u * 4294967296 + v1) % Y from hU.symm)
          have HU2 := Lib.hid (show U < y1 * 4294967296 + y0 by rw [← HYe.out]; exact hUY)
          obtain ⟨Q', hQ'⟩ : ∃ Q', Q' = Q1 := ⟨_, rfl⟩
          have HQ' := Lib.hid (show Q' = (u * 4294967296 + v1) / Y by rw [hQ', HYe.out]; exact HQ1.out)
          obtain ⟨q2, r2, p2, eq2, hqb2, ep2, hpb2, er2, hrb2, HD2⟩ := dig_start U v0 y1 y0 Y HYe.out Hy1a.out hy1b hy0b hv0b hUY
          clear hlo hU
          go_wp2_with fail
          clear eU2
          rw [← hQ']
          clear hQ' 
          go_loopw [18, 16] (fun qv rv wr => ∃ q r : Nat, qv = .int .u64 q ∧ rv = .int .u64 r ∧ Dig U v0 y1 y0 q r ∧ w' = wr) (fun qv _ _ => (intOf qv).toNat)
          case atStart => exact ⟨q2, r2, rfl, rfl, HD2.out, rfl⟩
          case round =>
            clear eq2 ep2 er2 hqb2 hpb2 hrb2 HD2
            obtain ⟨q, r, rfl, rfl, hd, rfl⟩ := hrel
            obtain ⟨P, eP, HP, hqb, hrb, hPb, t2, t3, t6⟩ := dig_round hy0b hy1b hv0b hd
            have Hd := Lib.hid hd
            clear hd
            by_cases h1 : 4294967296 ≤ q
            · have t1 : (4294967296 : Int) ≤ (q : Int) := by omega
              have e1 : (((q - 1 : Nat) : Nat) : Int) = (q : Int) - 1 := by omega
              by_cases h3 : r + y1 < 4294967296
              · have t7 : ¬ (4294967296 : Int) ≤ (r : Int) + (y1 : Int) := by omega
                have HS := Lib.hid (Hd.out.step Hy1a.out hv0b HU2.out (.inl h1) h3)
                clear hPb h1
                go_wp2_with fail
                go_roundw
                case rel => exact ⟨q - 1, r + y1, by rw [e1], rfl, HS.out.2, by trivial⟩
                case measure => have := HS.out.1; simp [intOf]; omega
              · have t7 : (4294967296 : Int) ≤ (r : Int) + (y1 : Int) := by omega
                have HS := Lib.hid (Hd.out.out Hy1a.out hy0b hv0b HU2.out (.inl h1) h3)
                obtain ⟨Q2, hQ⟩ : ∃ Q, q - 1 = Q := ⟨_, rfl⟩
                have HQ2 := Lib.hid (show Q2 = (U * 4294967296 + v0) / (y1 * 4294967296 + y0) by rw [← hQ]; exact HS.out.1)
                have eQ2 : (q : Int) - 1 = (Q2 : Int) := by omega
                clear hPb h1 h3 hQ HS Hd HP e1
                obtain ⟨hQa, hQb, hT1, hT2⟩ := two_digs u v1 v0 Y Q' Q2 U (by omega) Huy.out hv1b hv0b HQ'.out HU.out (by rw [HYe.out]; exact HQ2.out)
                obtain ⟨hL1, hL2⟩ := left_of U v0 Y Q2 (by rw [HYe.out]; exact HQ2.out) (by omega)
                obtain ⟨R, hR⟩ : ∃ R, (U * 4294967296 + v0) % Y = R := ⟨_, rfl⟩
                have hRY : R < Y := by rw [← hR]; exact Nat.mod_lt _ (by omega)
                have eR := left_wrap U v0 Q2 Y R hL1 (by rw [hL2, hR]) (by omega)
                rw [hR] at hT2
                have eF : ((h * 18446744073709551616 + l) / y : Nat) = Q2 + Q' * 4294967296 := by rw [hT1, ← Hve.out, Huv.out]; exact HB.out.1.symm
                have eG : ((h * 18446744073709551616 + l) % y : Nat) = R / 2 ^ s := by rw [hT2, ← Hve.out, Huv.out]; exact HB.out.2.symm
                have eRs : ((R / 2 ^ s : Nat) : Int) = (R : Int) / 2 ^ s := by simp
                have eS : IntKind.u64.wrap ((Q' : Int) * 4294967296) = (Q' : Int) * 4294967296 := IntWalk.u64_in _ (by clear hT1 hT2 hL1 hL2; omega)
                have eS2 : IntKind.u64.wrap ((Q' : Int) * 4294967296 + (Q2 : Int)) = (Q' : Int) * 4294967296 + (Q2 : Int) := IntWalk.u64_in _ (by clear hT1 hT2 hL1 hL2; omega)
                have eS3 : ((Q2 + Q' * 4294967296 : Nat) : Int) = (Q' : Int) * 4294967296 + (Q2 : Int) := by clear hT1 hT2 hL1 hL2; omega
                have HF := Lib.hid (show ((QQ : Nat) : Int) = (Q' : Int) * 4294967296 + (Q2 : Int) ∧ ((RR : Nat) : Int) = (R : Int) / 2 ^ s from ⟨by rw [← HQQ.out, eF, eS3], by rw [← HRR.out, eG, eRs]⟩)
                clear hT1 hT2 hL1 hL2 hR hRY eF eG eRs eS3
                go_wp2_with fail
                go_ret2
                exact ⟨ret_two HF.out.1.symm HF.out.2.symm, Drawn.more 0⟩
            · have t1 : ¬ (4294967296 : Int) ≤ (q : Int) := by omega
              have hPb := hPb (by omega)
              have t5 : IntKind.u64.wrap (P : Int) = (P : Int) := IntWalk.u64_in _ (by omega)
              by_cases h2 : 4294967296 * r + v0 < P
              · have t4 : 4294967296 * (r : Int) + (v0 : Int) < (P : Int) := by omega
                have h2' : 4294967296 * r + v0 < q * y0 := by rw [HP.out]; exact h2
                by_cases h3 : r + y1 < 4294967296
                · have t7 : ¬ (4294967296 : Int) ≤ (r : Int) + (y1 : Int) := by omega
                  have HS := Lib.hid (Hd.out.step Hy1a.out hv0b HU2.out (.inr h2') h3)
                  have hq1 := HS.out.1
                  have e1 : (((q - 1 : Nat) : Nat) : Int) = (q : Int) - 1 := by omega
                  clear h1 h2 h2'
                  go_wp2_with fail
                  go_roundw
                  case rel => exact ⟨q - 1, r + y1, by rw [e1], rfl, HS.out.2, by trivial⟩
                  case measure => simp [intOf]; omega
                · have t7 : (4294967296 : Int) ≤ (r : Int) + (y1 : Int) := by omega
                  have HS := Lib.hid (Hd.out.out Hy1a.out hy0b hv0b HU2.out (.inr h2') h3)
                  have hq1 := HS.out.2
                  obtain ⟨Q2, hQ⟩ : ∃ Q, q - 1 = Q := ⟨_, rfl⟩
                  have HQ2 := Lib.hid (show Q2 = (U * 4294967296 + v0) / (y1 * 4294967296 + y0) by rw [← hQ]; exact HS.out.1)
                  have eQ2 : (q : Int) - 1 = (Q2 : Int) := by omega
                  clear h1 h2 h2' h3 hQ HS Hd HP
                  obtain ⟨hQa, hQb, hT1, hT2⟩ := two_digs u v1 v0 Y Q' Q2 U (by omega) Huy.out hv1b hv0b HQ'.out HU.out (by rw [HYe.out]; exact HQ2.out)
                  obtain ⟨hL1, hL2⟩ := left_of U v0 Y Q2 (by rw [HYe.out]; exact HQ2.out) (by omega)
                  obtain ⟨R, hR⟩ : ∃ R, (U * 4294967296 + v0) % Y = R := ⟨_, rfl⟩
                  have hRY : R < Y := by rw [← hR]; exact Nat.mod_lt _ (by omega)
                  have eR := left_wrap U v0 Q2 Y R hL1 (by rw [hL2, hR]) (by omega)
                  rw [hR] at hT2
                  have eF : ((h * 18446744073709551616 + l) / y : Nat) = Q2 + Q' * 4294967296 := by rw [hT1, ← Hve.out, Huv.out]; exact HB.out.1.symm
                  have eG : ((h * 18446744073709551616 + l) % y : Nat) = R / 2 ^ s := by rw [hT2, ← Hve.out, Huv.out]; exact HB.out.2.symm
                  have eRs : ((R / 2 ^ s : Nat) : Int) = (R : Int) / 2 ^ s := by simp
                  have eS : IntKind.u64.wrap ((Q' : Int) * 4294967296) = (Q' : Int) * 4294967296 := IntWalk.u64_in _ (by clear hT1 hT2 hL1 hL2; omega)
                  have eS2 : IntKind.u64.wrap ((Q' : Int) * 4294967296 + (Q2 : Int)) = (Q' : Int) * 4294967296 + (Q2 : Int) := IntWalk.u64_in _ (by clear hT1 hT2 hL1 hL2; omega)
                  have eS3 : ((Q2 + Q' * 4294967296 : Nat) : Int) = (Q' : Int) * 4294967296 + (Q2 : Int) := by clear hT1 hT2 hL1 hL2; omega
                  have HF := Lib.hid (show ((QQ : Nat) : Int) = (Q' : Int) * 4294967296 + (Q2 : Int) ∧ ((RR : Nat) : Int) = (R : Int) / 2 ^ s from ⟨by rw [← HQQ.out, eF, eS3], by rw [← HRR.out, eG, eRs]⟩)
                  clear hT1 hT2 hL1 hL2 hR hRY eF eG eRs eS3
                  go_wp2_with fail
                  go_ret2
                  exact ⟨ret_two HF.out.1.symm HF.out.2.symm, Drawn.more 0⟩
              · have t4 : ¬ 4294967296 * (r : Int) + (v0 : Int) < (P : Int) := by omega
                have h2' : ¬ 4294967296 * r + v0 < q * y0 := by rw [HP.out]; exact h2
                have HQ2 := Lib.hid (Hd.out.done Hy1a.out h1 h2')
                obtain ⟨Q2, hQ⟩ : ∃ Q, q = Q := ⟨_, rfl⟩
                clear h1 h2 h2' Hd HP
                subst hQ
                obtain ⟨hQa, hQb, hT1, hT2⟩ := two_digs u v1 v0 Y Q' q U (by omega) Huy.out hv1b hv0b HQ'.out HU.out (by rw [HYe.out]; exact HQ2.out)
                obtain ⟨hL1, hL2⟩ := left_of U v0 Y q (by rw [HYe.out]; exact HQ2.out) (by omega)
                obtain ⟨R, hR⟩ : ∃ R, (U * 4294967296 + v0) % Y = R := ⟨_, rfl⟩
                have hRY : R < Y := by rw [← hR]; exact Nat.mod_lt _ (by omega)
                have eR := left_wrap U v0 q Y R hL1 (by rw [hL2, hR]) (by omega)
                rw [hR] at hT2
                have eF : ((h * 18446744073709551616 + l) / y : Nat) = q + Q' * 4294967296 := by rw [hT1, ← Hve.out, Huv.out]; exact HB.out.1.symm
                have eG : ((h * 18446744073709551616 + l) % y : Nat) = R / 2 ^ s := by rw [hT2, ← Hve.out, Huv.out]; exact HB.out.2.symm
                have eRs : ((R / 2 ^ s : Nat) : Int) = (R : Int) / 2 ^ s := by simp
                have eS : IntKind.u64.wrap ((Q' : Int) * 4294967296) = (Q' : Int) * 4294967296 := IntWalk.u64_in _ (by clear hT1 hT2 hL1 hL2; omega)
                have eS2 : IntKind.u64.wrap ((Q' : Int) * 4294967296 + (q : Int)) = (Q' : Int) * 4294967296 + (q : Int) := IntWalk.u64_in _ (by clear hT1 hT2 hL1 hL2; omega)
                have eS3 : ((q + Q' * 4294967296 : Nat) : Int) = (Q' : Int) * 4294967296 + (q : Int) := by clear hT1 hT2 hL1 hL2; omega
                have HF := Lib.hid (show ((QQ : Nat) : Int) = (Q' : Int) * 4294967296 + (q : Int) ∧ ((RR : Nat) : Int) = (R : Int) / 2 ^ s from ⟨by rw [← HQQ.out, eF, eS3], by rw [← HRR.out, eG, eRs]⟩)
                clear hT1 hT2 hL1 hL2 hR hRY eF eG eRs eS3
                go_wp2_with fail
                go_ret2
                exact ⟨ret_two HF.out.1.symm HF.out.2.symm, Drawn.more 0⟩
      · have t1 : ¬ (4294967296 : Int) ≤ (q : Int) := by omega
        have hPb := hPb (by omega)
        have t5 : IntKind.u64.wrap (P : Int) = (P : Int) := IntWalk.u64_in _ (by omega)
        by_cases h2 : 4294967296 * r + v1 < P
        · have t4 : 4294967296 * (r : Int) + (v1 : Int) < (P : Int) := by omega
          have h2' : 4294967296 * r + v1 < q * y0 := by rw [HP.out]; exact h2
          by_cases h3 : r + y1 < 4294967296
          · have t7 : ¬ (4294967296 : Int) ≤ (r : Int) + (y1 : Int) := by omega
            have HS := Lib.hid (Hd.out.step Hy1a.out hv1b HU1.out (.inr h2') h3)
            have hq1 := HS.out.1
            have e1 : (((q - 1 : Nat) : Nat) : Int) = (q : Int) - 1 := by omega
            clear h1 h2 h2'
            go_wp2_with fail
            go_roundw
            case rel => exact ⟨q - 1, r + y1, by rw [e1], rfl, HS.out.2, by trivial⟩
            case measure => simp [intOf]; omega
          · have t7 : (4294967296 : Int) ≤ (r : Int) + (y1 : Int) := by omega
            have HS := Lib.hid (Hd.out.out Hy1a.out hy0b hv1b HU1.out (.inr h2') h3)
            have hq1 := HS.out.2
            obtain ⟨Q1, hQ⟩ : ∃ Q, q - 1 = Q := ⟨_, rfl⟩
            have HQ1 := Lib.hid (show Q1 = (u * 4294967296 + v1) / (y1 * 4294967296 + y0) by rw [← hQ]; exact HS.out.1)
            have eQ1 : (q : Int) - 1 = (Q1 : Int) := by omega
            clear h1 h2 h2' h3 hQ HS Hd HP
            have hlo := left_of u v1 Y Q1 (by rw [HYe.out]; exact HQ1.out) (by omega)
            obtain ⟨U, hU⟩ : ∃ U, (u * 4294967296 + v1) % Y = U := ⟨_, rfl⟩
            have hUY : U < Y := by rw [← hU]; exact Nat.mod_lt _ (by omega)
            have eU2 := left_wrap u v1 Q1 Y U hlo.1 (by rw [hlo.2, hU]) (by omega)
            have HU := Lib.hid (show U = (u * 4294967296 + v1) % Y from hU.symm)
            have HU2 := Lib.hid (show U < y1 * 4294967296 + y0 by rw [← HYe.out]; exact hUY)
            obtain ⟨Q', hQ'⟩ : ∃ Q', Q' = Q1 := ⟨_, rfl⟩
            have HQ' := Lib.hid (show Q' = (u * 4294967296 + v1) / Y by rw [hQ', HYe.out]; exact HQ1.out)
            obtain ⟨q2, r2, p2, eq2, hqb2, ep2, hpb2, er2, hrb2, HD2⟩ := dig_start U v0 y1 y0 Y HYe.out Hy1a.out hy1b hy0b hv0b hUY
            clear hlo hU
            go_wp2_with fail
            clear eU2
            rw [← hQ']
            clear hQ' 
            go_loopw [18, 16] (fun qv rv wr => ∃ q r : Nat, qv = .int .u64 q ∧ rv = .int .u64 r ∧ Dig U v0 y1 y0 q r ∧ w' = wr) (fun qv _ _ => (intOf qv).toNat)
            case atStart => exact ⟨q2, r2, rfl, rfl, HD2.out, rfl⟩
            case round =>
              clear eq2 ep2 er2 hqb2 hpb2 hrb2 HD2
              obtain ⟨q, r, rfl, rfl, hd, rfl⟩ := hrel
              obtain ⟨P, eP, HP, hqb, hrb, hPb, t2, t3, t6⟩ := dig_round hy0b hy1b hv0b hd
              have Hd := Lib.hid hd
              clear hd
              by_cases h1 : 4294967296 ≤ q
              · have t1 : (4294967296 : Int) ≤ (q : Int) := by omega
                have e1 : (((q - 1 : Nat) : Nat) : Int) = (q : Int) - 1 := by omega
                by_cases h3 : r + y1 < 4294967296
                · have t7 : ¬ (4294967296 : Int) ≤ (r : Int) + (y1 : Int) := by omega
                  have HS := Lib.hid (Hd.out.step Hy1a.out hv0b HU2.out (.inl h1) h3)
                  clear hPb h1
                  go_wp2_with fail
                  go_roundw
                  case rel => exact ⟨q - 1, r + y1, by rw [e1], rfl, HS.out.2, by trivial⟩
                  case measure => have := HS.out.1; simp [intOf]; omega
                · have t7 : (4294967296 : Int) ≤ (r : Int) + (y1 : Int) := by omega
                  have HS := Lib.hid (Hd.out.out Hy1a.out hy0b hv0b HU2.out (.inl h1) h3)
                  obtain ⟨Q2, hQ⟩ : ∃ Q, q - 1 = Q := ⟨_, rfl⟩
                  have HQ2 := Lib.hid (show Q2 = (U * 4294967296 + v0) / (y1 * 4294967296 + y0) by rw [← hQ]; exact HS.out.1)
                  have eQ2 : (q : Int) - 1 = (Q2 : Int) := by omega
                  clear hPb h1 h3 hQ HS Hd HP e1
                  obtain ⟨hQa, hQb, hT1, hT2⟩ := two_digs u v1 v0 Y Q' Q2 U (by omega) Huy.out hv1b hv0b HQ'.out HU.out (by rw [HYe.out]; exact HQ2.out)
                  obtain ⟨hL1, hL2⟩ := left_of U v0 Y Q2 (by rw [HYe.out]; exact HQ2.out) (by omega)
                  obtain ⟨R, hR⟩ : ∃ R, (U * 4294967296 + v0) % Y = R := ⟨_, rfl⟩
                  have hRY : R < Y := by rw [← hR]; exact Nat.mod_lt _ (by omega)
                  have eR := left_wrap U v0 Q2 Y R hL1 (by rw [hL2, hR]) (by omega)
                  rw [hR] at hT2
                  have eF : ((h * 18446744073709551616 + l) / y : Nat) = Q2 + Q' * 4294967296 := by rw [hT1, ← Hve.out, Huv.out]; exact HB.out.1.symm
                  have eG : ((h * 18446744073709551616 + l) % y : Nat) = R / 2 ^ s := by rw [hT2, ← Hve.out, Huv.out]; exact HB.out.2.symm
                  have eRs : ((R / 2 ^ s : Nat) : Int) = (R : Int) / 2 ^ s := by simp
                  have eS : IntKind.u64.wrap ((Q' : Int) * 4294967296) = (Q' : Int) * 4294967296 := IntWalk.u64_in _ (by clear hT1 hT2 hL1 hL2; omega)
                  have eS2 : IntKind.u64.wrap ((Q' : Int) * 4294967296 + (Q2 : Int)) = (Q' : Int) * 4294967296 + (Q2 : Int) := IntWalk.u64_in _ (by clear hT1 hT2 hL1 hL2; omega)
                  have eS3 : ((Q2 + Q' * 4294967296 : Nat) : Int) = (Q' : Int) * 4294967296 + (Q2 : Int) := by clear hT1 hT2 hL1 hL2; omega
                  have HF := Lib.hid (show ((QQ : Nat) : Int) = (Q' : Int) * 4294967296 + (Q2 : Int) ∧ ((RR : Nat) : Int) = (R : Int) / 2 ^ s from ⟨by rw [← HQQ.out, eF, eS3], by rw [← HRR.out, eG, eRs]⟩)
                  clear hT1 hT2 hL1 hL2 hR hRY eF eG eRs eS3
                  go_wp2_with fail
                  go_ret2
                  exact ⟨ret_two HF.out.1.symm HF.out.2.symm, Drawn.more 0⟩
              · have t1 : ¬ (4294967296 : Int) ≤ (q : Int) := by omega
                have hPb := hPb (by omega)
                have t5 : IntKind.u64.wrap (P : Int) = (P : Int) := IntWalk.u64_in _ (by omega)
                by_cases h2 : 4294967296 * r + v0 < P
                · have t4 : 4294967296 * (r : Int) + (v0 : Int) < (P : Int) := by omega
                  have h2' : 4294967296 * r + v0 < q * y0 := by rw [HP.out]; exact h2
                  by_cases h3 : r + y1 < 4294967296
                  · have t7 : ¬ (4294967296 : Int) ≤ (r : Int) + (y1 : Int) := by omega
                    have HS := Lib.hid (Hd.out.step Hy1a.out hv0b HU2.out (.inr h2') h3)
                    have hq1 := HS.out.1
                    have e1 : (((q - 1 : Nat) : Nat) : Int) = (q : Int) - 1 := by omega
                    clear h1 h2 h2'
                    go_wp2_with fail
                    go_roundw
                    case rel => exact ⟨q - 1, r + y1, by rw [e1], rfl, HS.out.2, by trivial⟩
                    case measure => simp [intOf]; omega
                  · have t7 : (4294967296 : Int) ≤ (r : Int) + (y1 : Int) := by omega
                    have HS := Lib.hid (Hd.out.out Hy1a.out hy0b hv0b HU2.out (.inr h2') h3)
                    have hq1 := HS.out.2
                    obtain ⟨Q2, hQ⟩ : ∃ Q, q - 1 = Q := ⟨_, rfl⟩
                    have HQ2 := Lib.hid (show Q2 = (U * 4294967296 + v0) / (y1 * 4294967296 + y0) by rw [← hQ]; exact HS.out.1)
                    have eQ2 : (q : Int) - 1 = (Q2 : Int) := by omega
                    clear h1 h2 h2' h3 hQ HS Hd HP
                    obtain ⟨hQa, hQb, hT1, hT2⟩ := two_digs u v1 v0 Y Q' Q2 U (by omega) Huy.out hv1b hv0b HQ'.out HU.out (by rw [HYe.out]; exact HQ2.out)
                    obtain ⟨hL1, hL2⟩ := left_of U v0 Y Q2 (by rw [HYe.out]; exact HQ2.out) (by omega)
                    obtain ⟨R, hR⟩ : ∃ R, (U * 4294967296 + v0) % Y = R := ⟨_, rfl⟩
                    have hRY : R < Y := by rw [← hR]; exact Nat.mod_lt _ (by omega)
                    have eR := left_wrap U v0 Q2 Y R hL1 (by rw [hL2, hR]) (by omega)
                    rw [hR] at hT2
                    have eF : ((h * 18446744073709551616 + l) / y : Nat) = Q2 + Q' * 4294967296 := by rw [hT1, ← Hve.out, Huv.out]; exact HB.out.1.symm
                    have eG : ((h * 18446744073709551616 + l) % y : Nat) = R / 2 ^ s := by rw [hT2, ← Hve.out, Huv.out]; exact HB.out.2.symm
                    have eRs : ((R / 2 ^ s : Nat) : Int) = (R : Int) / 2 ^ s := by simp
                    have eS : IntKind.u64.wrap ((Q' : Int) * 4294967296) = (Q' : Int) * 4294967296 := IntWalk.u64_in _ (by clear hT1 hT2 hL1 hL2; omega)
                    have eS2 : IntKind.u64.wrap ((Q' : Int) * 4294967296 + (Q2 : Int)) = (Q' : Int) * 4294967296 + (Q2 : Int) := IntWalk.u64_in _ (by clear hT1 hT2 hL1 hL2; omega)
                    have eS3 : ((Q2 + Q' * 4294967296 : Nat) : Int) = (Q' : Int) * 4294967296 + (Q2 : Int) := by clear hT1 hT2 hL1 hL2; omega
                    have HF := Lib.hid (show ((QQ : Nat) : Int) = (Q' : Int) * 4294967296 + (Q2 : Int) ∧ ((RR : Nat) : Int) = (R : Int) / 2 ^ s from ⟨by rw [← HQQ.out, eF, eS3], by rw [← HRR.out, eG, eRs]⟩)
                    clear hT1 hT2 hL1 hL2 hR hRY eF eG eRs eS3
                    go_wp2_with fail
                    go_ret2
                    exact ⟨ret_two HF.out.1.symm HF.out.2.symm, Drawn.more 0⟩
                · have t4 : ¬ 4294967296 * (r : Int) + (v0 : Int) < (P : Int) := by omega
                  have h2' : ¬ 4294967296 * r + v0 < q * y0 := by rw [HP.out]; exact h2
                  have HQ2 := Lib.hid (Hd.out.done Hy1a.out h1 h2')
                  obtain ⟨Q2, hQ⟩ : ∃ Q, q = Q := ⟨_, rfl⟩
                  clear h1 h2 h2' Hd HP
                  subst hQ
                  obtain ⟨hQa, hQb, hT1, hT2⟩ := two_digs u v1 v0 Y Q' q U (by omega) Huy.out hv1b hv0b HQ'.out HU.out (by rw [HYe.out]; exact HQ2.out)
                  obtain ⟨hL1, hL2⟩ := left_of U v0 Y q (by rw [HYe.out]; exact HQ2.out) (by omega)
                  obtain ⟨R, hR⟩ : ∃ R, (U * 4294967296 + v0) % Y = R := ⟨_, rfl⟩
                  have hRY : R < Y := by rw [← hR]; exact Nat.mod_lt _ (by omega)
                  have eR := left_wrap U v0 q Y R hL1 (by rw [hL2, hR]) (by omega)
                  rw [hR] at hT2
                  have eF : ((h * 18446744073709551616 + l) / y : Nat) = q + Q' * 4294967296 := by rw [hT1, ← Hve.out, Huv.out]; exact HB.out.1.symm
                  have eG : ((h * 18446744073709551616 + l) % y : Nat) = R / 2 ^ s := by rw [hT2, ← Hve.out, Huv.out]; exact HB.out.2.symm
                  have eRs : ((R / 2 ^ s : Nat) : Int) = (R : Int) / 2 ^ s := by simp
                  have eS : IntKind.u64.wrap ((Q' : Int) * 4294967296) = (Q' : Int) * 4294967296 := IntWalk.u64_in _ (by clear hT1 hT2 hL1 hL2; omega)
                  have eS2 : IntKind.u64.wrap ((Q' : Int) * 4294967296 + (q : Int)) = (Q' : Int) * 4294967296 + (q : Int) := IntWalk.u64_in _ (by clear hT1 hT2 hL1 hL2; omega)
                  have eS3 : ((q + Q' * 4294967296 : Nat) : Int) = (Q' : Int) * 4294967296 + (q : Int) := by clear hT1 hT2 hL1 hL2; omega
                  have HF := Lib.hid (show ((QQ : Nat) : Int) = (Q' : Int) * 4294967296 + (q : Int) ∧ ((RR : Nat) : Int) = (R : Int) / 2 ^ s from ⟨by rw [← HQQ.out, eF, eS3], by rw [← HRR.out, eG, eRs]⟩)
                  clear hT1 hT2 hL1 hL2 hR hRY eF eG eRs eS3
                  go_wp2_with fail
                  go_ret2
                  exact ⟨ret_two HF.out.1.symm HF.out.2.symm, Drawn.more 0⟩
        · have t4 : ¬ 4294967296 * (r : Int) + (v1 : Int) < (P : Int) := by omega
          have h2' : ¬ 4294967296 * r + v1 < q * y0 := by rw [HP.out]; exact h2
          have HQ1 := Lib.hid (Hd.out.done Hy1a.out h1 h2')
          obtain ⟨Q1, hQ⟩ : ∃ Q, q = Q := ⟨_, rfl⟩
          clear h1 h2 h2' Hd HP
          subst hQ
          have hlo := left_of u v1 Y q (by rw [HYe.out]; exact HQ1.out) (by omega)
          obtain ⟨U, hU⟩ : ∃ U, (u * 4294967296 + v1) % Y = U := ⟨_, rfl⟩
          have hUY : U < Y := by rw [← hU]; exact Nat.mod_lt _ (by omega)
          have eU2 := left_wrap u v1 q Y U hlo.1 (by rw [hlo.2, hU]) (by omega)
          have HU := Lib.hid (show U = (u * 4294967296 + v1) % Y from hU.symm)
          have HU2 := Lib.hid (show U < y1 * 4294967296 + y0 by rw [← HYe.out]; exact hUY)
          obtain ⟨Q', hQ'⟩ : ∃ Q', Q' = q := ⟨_, rfl⟩
          have HQ' := Lib.hid (show Q' = (u * 4294967296 + v1) / Y by rw [hQ', HYe.out]; exact HQ1.out)
          obtain ⟨q2, r2, p2, eq2, hqb2, ep2, hpb2, er2, hrb2, HD2⟩ := dig_start U v0 y1 y0 Y HYe.out Hy1a.out hy1b hy0b hv0b hUY
          clear hlo hU
          go_wp2_with fail
          clear eU2
          rw [← hQ']
          clear hQ' 
          go_loopw [18, 16] (fun qv rv wr => ∃ q r : Nat, qv = .int .u64 q ∧ rv = .int .u64 r ∧ Dig U v0 y1 y0 q r ∧ w' = wr) (fun qv _ _ => (intOf qv).toNat)
          case atStart => exact ⟨q2, r2, rfl, rfl, HD2.out, rfl⟩
          case round =>
            clear eq2 ep2 er2 hqb2 hpb2 hrb2 HD2
            obtain ⟨q, r, rfl, rfl, hd, rfl⟩ := hrel
            obtain ⟨P, eP, HP, hqb, hrb, hPb, t2, t3, t6⟩ := dig_round hy0b hy1b hv0b hd
            have Hd := Lib.hid hd
            clear hd
            by_cases h1 : 4294967296 ≤ q
            · have t1 : (4294967296 : Int) ≤ (q : Int) := by omega
              have e1 : (((q - 1 : Nat) : Nat) : Int) = (q : Int) - 1 := by omega
              by_cases h3 : r + y1 < 4294967296
              · have t7 : ¬ (4294967296 : Int) ≤ (r : Int) + (y1 : Int) := by omega
                have HS := Lib.hid (Hd.out.step Hy1a.out hv0b HU2.out (.inl h1) h3)
                clear hPb h1
                go_wp2_with fail
                go_roundw
                case rel => exact ⟨q - 1, r + y1, by rw [e1], rfl, HS.out.2, by trivial⟩
                case measure => have := HS.out.1; simp [intOf]; omega
              · have t7 : (4294967296 : Int) ≤ (r : Int) + (y1 : Int) := by omega
                have HS := Lib.hid (Hd.out.out Hy1a.out hy0b hv0b HU2.out (.inl h1) h3)
                obtain ⟨Q2, hQ⟩ : ∃ Q, q - 1 = Q := ⟨_, rfl⟩
                have HQ2 := Lib.hid (show Q2 = (U * 4294967296 + v0) / (y1 * 4294967296 + y0) by rw [← hQ]; exact HS.out.1)
                have eQ2 : (q : Int) - 1 = (Q2 : Int) := by omega
                clear hPb h1 h3 hQ HS Hd HP e1
                obtain ⟨hQa, hQb, hT1, hT2⟩ := two_digs u v1 v0 Y Q' Q2 U (by omega) Huy.out hv1b hv0b HQ'.out HU.out (by rw [HYe.out]; exact HQ2.out)
                obtain ⟨hL1, hL2⟩ := left_of U v0 Y Q2 (by rw [HYe.out]; exact HQ2.out) (by omega)
                obtain ⟨R, hR⟩ : ∃ R, (U * 4294967296 + v0) % Y = R := ⟨_, rfl⟩
                have hRY : R < Y := by rw [← hR]; exact Nat.mod_lt _ (by omega)
                have eR := left_wrap U v0 Q2 Y R hL1 (by rw [hL2, hR]) (by omega)
                rw [hR] at hT2
                have eF : ((h * 18446744073709551616 + l) / y : Nat) = Q2 + Q' * 4294967296 := by rw [hT1, ← Hve.out, Huv.out]; exact HB.out.1.symm
                have eG : ((h * 18446744073709551616 + l) % y : Nat) = R / 2 ^ s := by rw [hT2, ← Hve.out, Huv.out]; exact HB.out.2.symm
                have eRs : ((R / 2 ^ s : Nat) : Int) = (R : Int) / 2 ^ s := by simp
                have eS : IntKind.u64.wrap ((Q' : Int) * 4294967296) = (Q' : Int) * 4294967296 := IntWalk.u64_in _ (by clear hT1 hT2 hL1 hL2; omega)
                have eS2 : IntKind.u64.wrap ((Q' : Int) * 4294967296 + (Q2 : Int)) = (Q' : Int) * 4294967296 + (Q2 : Int) := IntWalk.u64_in _ (by clear hT1 hT2 hL1 hL2; omega)
                have eS3 : ((Q2 + Q' * 4294967296 : Nat) : Int) = (Q' : Int) * 4294967296 + (Q2 : Int) := by clear hT1 hT2 hL1 hL2; omega
                have HF := Lib.hid (show ((QQ : Nat) : Int) = (Q' : Int) * 4294967296 + (Q2 : Int) ∧ ((RR : Nat) : Int) = (R : Int) / 2 ^ s from ⟨by rw [← HQQ.out, eF, eS3], by rw [← HRR.out, eG, eRs]⟩)
                clear hT1 hT2 hL1 hL2 hR hRY eF eG eRs eS3
                go_wp2_with fail
                go_ret2
                exact ⟨ret_two HF.out.1.symm HF.out.2.symm, Drawn.more 0⟩
            · have t1 : ¬ (4294967296 : Int) ≤ (q : Int) := by omega
              have hPb := hPb (by omega)
              have t5 : IntKind.u64.wrap (P : Int) = (P : Int) := IntWalk.u64_in _ (by omega)
              by_cases h2 : 4294967296 * r + v0 < P
              · have t4 : 4294967296 * (r : Int) + (v0 : Int) < (P : Int) := by omega
                have h2' : 4294967296 * r + v0 < q * y0 := by rw [HP.out]; exact h2
                by_cases h3 : r + y1 < 4294967296
                · have t7 : ¬ (4294967296 : Int) ≤ (r : Int) + (y1 : Int) := by omega
                  have HS := Lib.hid (Hd.out.step Hy1a.out hv0b HU2.out (.inr h2') h3)
                  have hq1 := HS.out.1
                  have e1 : (((q - 1 : Nat) : Nat) : Int) = (q : Int) - 1 := by omega
                  clear h1 h2 h2'
                  go_wp2_with fail
                  go_roundw
                  case rel => exact ⟨q - 1, r + y1, by rw [e1], rfl, HS.out.2, by trivial⟩
                  case measure => simp [intOf]; omega
                · have t7 : (4294967296 : Int) ≤ (r : Int) + (y1 : Int) := by omega
                  have HS := Lib.hid (Hd.out.out Hy1a.out hy0b hv0b HU2.out (.inr h2') h3)
                  have hq1 := HS.out.2
                  obtain ⟨Q2, hQ⟩ : ∃ Q, q - 1 = Q := ⟨_, rfl⟩
                  have HQ2 := Lib.hid (show Q2 = (U * 4294967296 + v0) / (y1 * 4294967296 + y0) by rw [← hQ]; exact HS.out.1)
                  have eQ2 : (q : Int) - 1 = (Q2 : Int) := by omega
                  clear h1 h2 h2' h3 hQ HS Hd HP
                  obtain ⟨hQa, hQb, hT1, hT2⟩ := two_digs u v1 v0 Y Q' Q2 U (by omega) Huy.out hv1b hv0b HQ'.out HU.out (by rw [HYe.out]; exact HQ2.out)
                  obtain ⟨hL1, hL2⟩ := left_of U v0 Y Q2 (by rw [HYe.out]; exact HQ2.out) (by omega)
                  obtain ⟨R, hR⟩ : ∃ R, (U * 4294967296 + v0) % Y = R := ⟨_, rfl⟩
                  have hRY : R < Y := by rw [← hR]; exact Nat.mod_lt _ (by omega)
                  have eR := left_wrap U v0 Q2 Y R hL1 (by rw [hL2, hR]) (by omega)
                  rw [hR] at hT2
                  have eF : ((h * 18446744073709551616 + l) / y : Nat) = Q2 + Q' * 4294967296 := by rw [hT1, ← Hve.out, Huv.out]; exact HB.out.1.symm
                  have eG : ((h * 18446744073709551616 + l) % y : Nat) = R / 2 ^ s := by rw [hT2, ← Hve.out, Huv.out]; exact HB.out.2.symm
                  have eRs : ((R / 2 ^ s : Nat) : Int) = (R : Int) / 2 ^ s := by simp
                  have eS : IntKind.u64.wrap ((Q' : Int) * 4294967296) = (Q' : Int) * 4294967296 := IntWalk.u64_in _ (by clear hT1 hT2 hL1 hL2; omega)
                  have eS2 : IntKind.u64.wrap ((Q' : Int) * 4294967296 + (Q2 : Int)) = (Q' : Int) * 4294967296 + (Q2 : Int) := IntWalk.u64_in _ (by clear hT1 hT2 hL1 hL2; omega)
                  have eS3 : ((Q2 + Q' * 4294967296 : Nat) : Int) = (Q' : Int) * 4294967296 + (Q2 : Int) := by clear hT1 hT2 hL1 hL2; omega
                  have HF := Lib.hid (show ((QQ : Nat) : Int) = (Q' : Int) * 4294967296 + (Q2 : Int) ∧ ((RR : Nat) : Int) = (R : Int) / 2 ^ s from ⟨by rw [← HQQ.out, eF, eS3], by rw [← HRR.out, eG, eRs]⟩)
                  clear hT1 hT2 hL1 hL2 hR hRY eF eG eRs eS3
                  go_wp2_with fail
                  go_ret2
                  exact ⟨ret_two HF.out.1.symm HF.out.2.symm, Drawn.more 0⟩
              · have t4 : ¬ 4294967296 * (r : Int) + (v0 : Int) < (P : Int) := by omega
                have h2' : ¬ 4294967296 * r + v0 < q * y0 := by rw [HP.out]; exact h2
                have HQ2 := Lib.hid (Hd.out.done Hy1a.out h1 h2')
                obtain ⟨Q2, hQ⟩ : ∃ Q, q = Q := ⟨_, rfl⟩
                clear h1 h2 h2' Hd HP
                subst hQ
                obtain ⟨hQa, hQb, hT1, hT2⟩ := two_digs u v1 v0 Y Q' q U (by omega) Huy.out hv1b hv0b HQ'.out HU.out (by rw [HYe.out]; exact HQ2.out)
                obtain ⟨hL1, hL2⟩ := left_of U v0 Y q (by rw [HYe.out]; exact HQ2.out) (by omega)
                obtain ⟨R, hR⟩ : ∃ R, (U * 4294967296 + v0) % Y = R := ⟨_, rfl⟩
                have hRY : R < Y := by rw [← hR]; exact Nat.mod_lt _ (by omega)
                have eR := left_wrap U v0 q Y R hL1 (by rw [hL2, hR]) (by omega)
                rw [hR] at hT2
                have eF : ((h * 18446744073709551616 + l) / y : Nat) = q + Q' * 4294967296 := by rw [hT1, ← Hve.out, Huv.out]; exact HB.out.1.symm
                have eG : ((h * 18446744073709551616 + l) % y : Nat) = R / 2 ^ s := by rw [hT2, ← Hve.out, Huv.out]; exact HB.out.2.symm
                have eRs : ((R / 2 ^ s : Nat) : Int) = (R : Int) / 2 ^ s := by simp
                have eS : IntKind.u64.wrap ((Q' : Int) * 4294967296) = (Q' : Int) * 4294967296 := IntWalk.u64_in _ (by clear hT1 hT2 hL1 hL2; omega)
                have eS2 : IntKind.u64.wrap ((Q' : Int) * 4294967296 + (q : Int)) = (Q' : Int) * 4294967296 + (q : Int) := IntWalk.u64_in _ (by clear hT1 hT2 hL1 hL2; omega)
                have eS3 : ((q + Q' * 4294967296 : Nat) : Int) = (Q' : Int) * 4294967296 + (q : Int) := by clear hT1 hT2 hL1 hL2; omega
                have HF := Lib.hid (show ((QQ : Nat) : Int) = (Q' : Int) * 4294967296 + (q : Int) ∧ ((RR : Nat) : Int) = (R : Int) / 2 ^ s from ⟨by rw [← HQQ.out, eF, eS3], by rw [← HRR.out, eG, eRs]⟩)
                clear hT1 hT2 hL1 hL2 hR hRY eF eG eRs eS3
                go_wp2_with fail
                go_ret2
                exact ⟨ret_two HF.out.1.symm HF.out.2.symm, Drawn.more 0⟩
end Go.Proofs.Ytekgoceainibaaa
/- div's small functions: trimmed, giveBack, takeAway, guess. Conditions: as typed (lengths that fit a machine; the divisor lies apart from the row). -/
namespace Go.Proofs.Ytekgoceainibaaa
open Go.RowKit
set_option maxRecDepth 20000
theorem dtrim_any (A : Option Addr) (c : Nat) (a : List Nat) (w : World) (B : Nat) (hr : Rd .u64 w B A a) (hw : Words a) (hl : a.length ≤ 1000000) (hc : a.length ≤ c) :
    Calls Try.prog 53 #[.slice A a.length c] w fun e w' => e = .returned (.slice A (tl a) c) ∧ w = w' := by
  have Q := Lib.hid (bits_q A c a w B hr hw hl hc)
  have hle := tl_le a hw
  have hb := nbits_natOf a hw
  have ht : ((nbits (natOf a) : Int) + 64 - 1) / 64 = (tl a : Int) := by unfold tl; omega
  have ht2 : ((nbits (natOf a) : Int) + 63) / 64 = (tl a : Int) := by unfold tl; omega
  clear hr
  go_enter Try.func53, Try.ntmps53
  go_wp2_with fail
  refine (Q.out).mono ?_
  rintro e w' ⟨rfl, rfl⟩
  go_wp2_with fail
  go_ret
  exact ⟨rfl, rfl⟩
set_option maxHeartbeats 1000000 in
theorem give_any (base g K cap c1 p n c2 : Nat) (L ys : List Nat) (A2 : Option Addr) (w : World) (hown : w.ownsRow base 40 1 (.slice (some ⟨g, 0, none⟩) K cap) K (ints .u64 L)) (hL : Words L) (hlen : L.length = K) (hy : Rdx .u64 w g A2 ys) (hwy : Words ys) (hm : ys.length = n)
    (hp : p + n + 1 ≤ K) (hK : K ≤ 1000000) :
    Calls Try.prog 67 #[.slice (some ⟨g, p, none⟩) (n + 1 : Nat) c1, .slice A2 n c2] w fun e w' => ∃ L' c, e = .returned (.int .u64 ((c : Nat) : Int)) ∧ c ≤ 1 ∧ Gives K p (natOf ys) (n + 1) c (natOf L) L L' ∧
      w'.ownsRow base 40 1 (.slice (some ⟨g, 0, none⟩) K cap) K (ints .u64 L') ∧ w.grownBy w' (some g) := by
  subst hm
  have hS := Gives.start K p L hlen hL
  go_enter Try.func67, Try.ntmps67
  go_wp2_with fail
  go_loopw [9, 4] (fun j cy wr => ∃ (i C : Nat) (L' : List Nat), i ≤ ys.length ∧ j = .int .i64 i ∧ cy = .int .u64 C ∧ C ≤ 1 ∧ Gives K p (natOf (ys.take i)) i C (natOf L) L L' ∧ wr.ownsRow base 40 1 (.slice (some ⟨g, 0, none⟩) K cap) K (ints .u64 L') ∧ w.grownBy wr (some g)) (fun j _ _ => ys.length - (intOf j).toNat)
  case atStart => exact ⟨0, 0, L, Nat.zero_le _, rfl, rfl, by omega, by simpa [natOf] using hS, hown, World.grownBy.refl w _⟩
  case round =>
    obtain ⟨i, C, L', hi, rfl, rfl, hC, hS', hown', hg⟩ := hrel
    clear hown hS
    have hll := hS'.len
    have hLl := nth_lt L' hS'.words (p + i)
    have hco : wr.cell? ⟨g, p + i, none⟩ = some (.int .u64 (nth L' (p + i) : Int)) := by rw [hown'.cellAt _ (by omega), ints_get _ _ _ (by omega)]
    have hfo : wr.frozen? ⟨g, p + i, none⟩ = false := hown'.frozenAt _
    by_cases hlt : i < ys.length
    · obtain ⟨b, off, rfl, _, hcell⟩ := hy.grown hg (by omega)
      have hx1 := hcell i hlt
      have hxl := nth_lt ys hwy i
      obtain ⟨s, hs⟩ : ∃ s, nth L' (p + i) + nth ys i + C = s := ⟨_, rfl⟩
      have hadd := add64_run (nth L' (p + i)) (nth ys i) C hC
      rw [hs] at hadd
      have hst := hown'.stored (p + i) (.int .u64 ((s % 18446744073709551616 : Nat) : Int))
      rw [ints_set] at hst
      have hSS := hS'.step (by omega) s _ hs (natOf_take_succ ys i)
      have hc1 : s / 18446744073709551616 ≤ 1 := by omega
      obtain ⟨s0, hs0⟩ : ∃ s0, s % 18446744073709551616 = s0 := ⟨_, rfl⟩
      obtain ⟨s1, hs1⟩ : ∃ s1, s / 18446744073709551616 = s1 := ⟨_, rfl⟩
      rw [hs0] at hadd hst hSS
      rw [hs1] at hadd hSS hc1
      have HO := Lib.hid hst.1
      have HG := Lib.hid (hg.trans (grown_setCell wr ⟨g, p + i, none⟩ (.int .u64 (s0 : Int))))
      have HS := Lib.hid hSS
      clear hst hSS hs hs0 hs1 hcell hown' hS' hll hy
      go_wp2_with fail
      go_roundw
      case rel => exact ⟨i + 1, s1, L'.set (p + i) s0, by omega, by go_num, rfl, hc1, HS.out, HO.out, HG.out⟩
      case measure => simp [intOf]; omega
    · obtain rfl : i = ys.length := by omega
      rw [List.take_length] at hS'
      obtain ⟨s, hs⟩ : ∃ s, nth L' (p + ys.length) + 0 + C = s := ⟨_, rfl⟩
      have hadd : ∀ w : World, (callFunc 39 #[.int .u64 (nth L' (p + ys.length) : Int), .int .u64 0, .int .u64 C]).run Try.prog w = .ok (.value (.tuple #[.int .u64 ((s % 18446744073709551616 : Nat) : Int), .int .u64 ((s / 18446744073709551616 : Nat) : Int)])) w := by
        rw [← hs]
        exact add64_run (nth L' (p + ys.length)) 0 C hC
      have hst := hown'.stored (p + ys.length) (.int .u64 ((s % 18446744073709551616 : Nat) : Int))
      rw [ints_set] at hst
      have hSS := hS'.step (by omega) s (natOf ys) hs (by rw [Nat.mul_zero, Nat.add_zero])
      have hc1 : s / 18446744073709551616 ≤ 1 := by omega
      obtain ⟨s0, hs0⟩ : ∃ s0, s % 18446744073709551616 = s0 := ⟨_, rfl⟩
      obtain ⟨s1, hs1⟩ : ∃ s1, s / 18446744073709551616 = s1 := ⟨_, rfl⟩
      rw [hs0] at hadd hst hSS
      rw [hs1] at hadd hSS hc1
      have HO := Lib.hid hst.1
      have HG := Lib.hid (hg.trans (grown_setCell wr ⟨g, p + ys.length, none⟩ (.int .u64 (s0 : Int))))
      have HS := Lib.hid hSS
      clear hst hSS hs hs0 hs1 hown' hS' hll hy hlt
      go_wp2_with fail
      go_ret
      exact ⟨L'.set (p + ys.length) s0, s1, rfl, hc1, HS.out, HO.out, HG.out⟩
set_option maxHeartbeats 1000000 in
theorem take_any (base g K cap c1 p n c2 x : Nat) (L ys : List Nat) (A2 : Option Addr) (w : World) (hown : w.ownsRow base 40 1 (.slice (some ⟨g, 0, none⟩) K cap) K (ints .u64 L)) (hL : Words L) (hlen : L.length = K) (hy : Rdx .u64 w g A2 ys) (hwy : Words ys) (hm : ys.length = n)
    (hp : p + n + 1 ≤ K) (hK : K ≤ 1000000) (hx : x < 18446744073709551616) :
    Calls Try.prog 66 #[.slice (some ⟨g, p, none⟩) (n + 1 : Nat) c1, .slice A2 n c2, .int .u64 (x : Int)] w fun e w' => ∃ L' o, e = .returned (.int .u64 ((o : Nat) : Int)) ∧ o ≤ 1 ∧ Takes K p x (natOf ys) (n + 1) o (natOf L) L L' ∧
      w'.ownsRow base 40 1 (.slice (some ⟨g, 0, none⟩) K cap) K (ints .u64 L') ∧ w.grownBy w' (some g) := by
  subst hm
  have hS := Takes.start K p x L hlen hL
  go_enter Try.func66, Try.ntmps66
  go_wp2_with fail
  go_loopw [15, 6, 7] (fun j ov vv wr => ∃ (i o v : Nat) (L' : List Nat), i ≤ ys.length ∧ j = .int .i64 i ∧ ov = .int .u64 o ∧ vv = .int .u64 v ∧ o ≤ 1 ∧ v < 18446744073709551616 ∧ Takes K p x (natOf (ys.take i)) i (v + o) (natOf L) L L' ∧ wr.ownsRow base 40 1 (.slice (some ⟨g, 0, none⟩) K cap) K (ints .u64 L') ∧ w.grownBy wr (some g)) (fun j _ _ _ => ys.length - (intOf j).toNat)
  case atStart => exact ⟨0, 0, 0, L, Nat.zero_le _, rfl, rfl, rfl, by omega, by omega, by simpa [natOf] using hS, hown, World.grownBy.refl w _⟩
  case round =>
    obtain ⟨i, o, v, L', hi, rfl, rfl, rfl, ho, hv, hS', hown', hg⟩ := hrel
    clear hown hS
    have hll := hS'.len
    have hLl := nth_lt L' hS'.words (p + i)
    have hco : wr.cell? ⟨g, p + i, none⟩ = some (.int .u64 (nth L' (p + i) : Int)) := by rw [hown'.cellAt _ (by omega), ints_get _ _ _ (by omega)]
    have hfo : wr.frozen? ⟨g, p + i, none⟩ = false := hown'.frozenAt _
    by_cases hlt : i < ys.length
    · obtain ⟨b, off, rfl, _, hcell⟩ := hy.grown hg (by omega)
      have hx1 := hcell i hlt
      have hxl := nth_lt ys hwy i
      have hpr : x * nth ys i ≤ 18446744073709551615 * 18446744073709551615 := Nat.mul_le_mul (by omega) (by omega)
      obtain ⟨e1, e2⟩ := take_step x (nth ys i) v (nth L' (p + i)) o hx hxl hv hLl ho
      have M := Try.bits_Mul64 x (nth ys i) hx hxl wr
      have A1 : ∀ w : World, (callFunc 39 #[.int .u64 ((x * nth ys i % 18446744073709551616 : Nat) : Int), .int .u64 (v : Int), .int .u64 0]).run Try.prog w = .ok (.value (.tuple #[.int .u64 (((x * nth ys i % 18446744073709551616 + v) % 18446744073709551616 : Nat) : Int), .int .u64 (((x * nth ys i % 18446744073709551616 + v) / 18446744073709551616 : Nat) : Int)])) w :=
        fun w => add64_run (x * nth ys i % 18446744073709551616) v 0 (by omega) w
      have A2 := fun w => sub64_run (nth L' (p + i)) ((x * nth ys i % 18446744073709551616 + v) % 18446744073709551616) o ho w
      obtain ⟨s0, hs0⟩ : ∃ s0, (nth L' (p + i) + 18446744073709551616 - (x * nth ys i % 18446744073709551616 + v) % 18446744073709551616 - o) % 18446744073709551616 = s0 := ⟨_, rfl⟩
      obtain ⟨o2, ho2⟩ : ∃ o2, (if nth L' (p + i) < (x * nth ys i % 18446744073709551616 + v) % 18446744073709551616 + o then 1 else 0 : Nat) = o2 := ⟨_, rfl⟩
      have ho2' : o2 ≤ 1 := by rw [← ho2]; split <;> omega
      have hs0' : s0 < 18446744073709551616 := by rw [← hs0]; exact Nat.mod_lt _ (by omega)
      rw [hs0, ho2] at e2 A2
      have hSS := hS'.step (y := nth ys i) (by omega) s0 _ _ hs0' e2 (natOf_take_succ ys i)
      have hst := hown'.stored (p + i) (.int .u64 (s0 : Int))
      rw [ints_set] at hst
      clear hs0 ho2 e2
      generalize (x * nth ys i % 18446744073709551616 + v) % 18446744073709551616 = l1 at *
      generalize (x * nth ys i % 18446744073709551616 + v) / 18446744073709551616 = c1' at *
      generalize x * nth ys i % 18446744073709551616 = lo at *
      generalize x * nth ys i / 18446744073709551616 = hh at *
      have HO := Lib.hid hst.1
      have HG := Lib.hid (hg.trans (grown_setCell wr ⟨g, p + i, none⟩ (.int .u64 (s0 : Int))))
      have HS := Lib.hid hSS
      have HM := Lib.hid M
      clear hst hSS hcell hown' hS' hll hy M hpr
      go_wp2_with fail
      refine (HM.out).mono ?_
      rintro e w' ⟨rfl, rfl⟩
      go_wp2_with fail
      go_roundw
      case rel => exact ⟨i + 1, o2, hh + c1', L'.set (p + i) s0, by omega, by go_num, rfl, by go_num, ho2', e1, HS.out, HO.out, HG.out⟩
      case measure => simp [intOf]; omega
    · obtain rfl : i = ys.length := by omega
      rw [List.take_length] at hS'
      have e2 := last_step v (nth L' (p + ys.length)) o hv hLl ho
      have A2 := fun w => sub64_run (nth L' (p + ys.length)) v o ho w
      obtain ⟨s0, hs0⟩ : ∃ s0, (nth L' (p + ys.length) + 18446744073709551616 - v - o) % 18446744073709551616 = s0 := ⟨_, rfl⟩
      obtain ⟨o2, ho2⟩ : ∃ o2, (if nth L' (p + ys.length) < v + o then 1 else 0 : Nat) = o2 := ⟨_, rfl⟩
      have ho2' : o2 ≤ 1 := by rw [← ho2]; split <;> omega
      have hs0' : s0 < 18446744073709551616 := by rw [← hs0]; exact Nat.mod_lt _ (by omega)
      rw [hs0, ho2] at e2 A2
      have hSS := hS'.step (y := 0) (by omega) s0 (natOf ys) o2 hs0' (by rw [Nat.mul_zero, Nat.add_zero]; exact e2) (by rw [Nat.mul_zero, Nat.add_zero])
      have hst := hown'.stored (p + ys.length) (.int .u64 (s0 : Int))
      rw [ints_set] at hst
      have HO := Lib.hid hst.1
      have HG := Lib.hid (hg.trans (grown_setCell wr ⟨g, p + ys.length, none⟩ (.int .u64 (s0 : Int))))
      have HS := Lib.hid hSS
      clear hst hSS hs0 ho2 hown' hS' hll hy hlt e2
      go_wp2_with fail
      go_ret
      exact ⟨L'.set (p + ys.length) s0, o2, rfl, ho2', HS.out, HO.out, HG.out⟩
/-- What a place is guessed to be. -/
def guessV (hi lo f : Nat) : Nat := if f ≤ hi then 18446744073709551615 else (hi * 18446744073709551616 + lo) / f
set_option maxHeartbeats 1000000 in
theorem guess_any (g p m c1 c2 hi lo f : Nat) (A2 : Option Addr) (b off : Nat) (w : World) (hA : A2 = some ⟨b, off, none⟩) (hm : m ≤ 1000000)
    (h1 : w.cell? ⟨g, p + (m + 1), none⟩ = some (.int .u64 (hi : Int))) (h2 : w.cell? ⟨g, p + m, none⟩ = some (.int .u64 (lo : Int))) (h3 : w.cell? ⟨b, off + m, none⟩ = some (.int .u64 (f : Int)))
    (_ : hi < 18446744073709551616) (b2 : lo < 18446744073709551616) (b3 : f < 18446744073709551616) :
    Calls Try.prog 65 #[.slice (some ⟨g, p, none⟩) (m + 1 + 1 : Nat) c1, .slice A2 (m + 1 : Nat) c2] w fun e w' => e = .returned (.int .u64 (guessV hi lo f : Nat)) ∧ Drawn w w' := by
  subst hA
  by_cases hle : f ≤ hi
  · have hv := Lib.hid (show guessV hi lo f = 18446744073709551615 from if_pos hle)
    go_enter Try.func65, Try.ntmps65
    go_wp2_with fail
    go_quiet (fail)
    go_wp2_with fail
    go_ret
    exact ⟨ret_num (by rw [hv.out]; rfl), Drawn.more _⟩
  · have hv := Lib.hid (show guessV hi lo f = (hi * 18446744073709551616 + lo) / f from if_neg hle)
    obtain ⟨q, hq⟩ : ∃ q, (hi * 18446744073709551616 + lo) / f = q := ⟨_, rfl⟩
    obtain ⟨r, hr⟩ : ∃ r, (hi * 18446744073709551616 + lo) % f = r := ⟨_, rfl⟩
    have D := fun u => div64_any hi lo f u (by omega) b3 b2
    rw [hq, hr] at D
    rw [hq] at hv
    have HD := Lib.hid D
    clear D hq hr
    go_enter Try.func65, Try.ntmps65
    go_wp2_with fail
    go_quiet (fail)
    go_wp2_with fail
    refine (HD.out _).mono ?_
    rintro e w' ⟨rfl, n1, rfl⟩
    go_wp2_with fail
    go_ret
    exact ⟨ret_num (by rw [hv.out]), Drawn.more _⟩
end Go.Proofs.Ytekgoceainibaaa
/- slices.Backward over a row that a loop's body may write: as what the loop may rely on. Conditions: as typed (a length that fits a machine). -/
namespace Go.Proofs.Ytekgoceainibaaa
open Go.RowKit Go.Shelf
set_option maxRecDepth 20000
attribute [local go_sem] Oper.semAt_some
/-- The slice reads as m words of which P holds. -/
def RdP (A : Option Addr) (m : Nat) (P : List Nat → Prop) (W : World) : Prop := ∃ l, l.length = m ∧ Words l ∧ P l ∧ Rd .u64 W W.heap.size A l
/-- What a round keeps: the iterator's box, and that the slice reads as words of which P holds. -/
def KpR (p : Nat) (A : Option Addr) (m : Nat) (P : List Nat → Prop) (W W' : World) : Prop := W'.heap[p]? = W.heap[p]? ∧ (RdP A m P W → RdP A m P W')
theorem KpR.t {p m : Nat} {A : Option Addr} {P : List Nat → Prop} {X Y Z : World} (h : KpR p A m P X Y) (k : KpR p A m P Y Z) : KpR p A m P X Z := ⟨k.1.trans h.1, fun r => k.2 (h.2 r)⟩
theorem KpR.b {p m : Nat} {A : Option Addr} {P : List Nat → Prop} {w : World} (hp : p < w.heap.size) (W : World) (l : Nat) (o o' : Obj) (hl : w.heap.size ≤ l) (h : W.heap[l]? = some o) (h1 : o.isCells = false) (_ : o.isWalk = false) : KpR p A m P W (W.putObj l o') := by
  have hg := grownBy_putObj' W l o'
  have hlt := (Array.getElem?_eq_some_iff.1 h).1
  refine ⟨hg.block p (by omega) (by simp; omega), ?_⟩
  rintro ⟨xs, e1, e2, e3, e4⟩
  refine ⟨xs, e1, e2, e3, fun h0 => ?_⟩
  obtain ⟨b, off, e, hb, hc⟩ := e4 h0
  exact ⟨b, off, e, Nat.lt_of_lt_of_le hb hg.size, fun j hj => cell_kept (hc j hj) hg (fun r e => by cases e; exact ⟨o, h, h1⟩)⟩
/-- What has come: the places from the last on, each with a word that stood there. -/
structure Downs {m : Nat} (P : List Nat → Prop) (ys : List (WI m)) : Prop where
  at_ : ∀ k (h : k < ys.length), (ys[k]).1.1 = m - 1 - k
  val : ∀ x ∈ ys, ∃ l, l.length = m ∧ Words l ∧ P l ∧ x.1.2 = nth l x.1.1
theorem Downs.nil {m : Nat} {P : List Nat → Prop} : Downs (m := m) P [] := ⟨fun k h => by simp at h, fun x h => by cases h⟩
theorem Downs.snoc {m : Nat} {P : List Nat → Prop} {ys : List (WI m)} (h : Downs P ys) (x : WI m) (hx : x.1.1 = m - 1 - ys.length) (hv : ∃ l, l.length = m ∧ Words l ∧ P l ∧ x.1.2 = nth l x.1.1) : Downs P (ys ++ [x]) where
  at_ := fun k hk => by
    rw [List.getElem_append]
    split
    · exact h.at_ k _
    · rw [List.length_append, List.length_singleton] at hk
      have : k = ys.length := by omega
      subst this
      simpa using hx
  val := fun y hy => by
    rcases List.mem_append.1 hy with h1 | h1
    · exact h.val y h1
    · simp at h1
      subst h1
      exact hv
theorem Downs.ini {m : Nat} {P : List Nat → Prop} {ys : List (WI m)} {x : WI m} (h : Downs P (ys ++ [x])) : Downs P ys ∧ x.1.1 = m - 1 - ys.length ∧ ∃ l, l.length = m ∧ Words l ∧ P l ∧ x.1.2 = nth l x.1.1 := by
  refine ⟨⟨fun k hk => ?_, fun y hy => h.val y (List.mem_append.2 (.inl hy))⟩, ?_, h.val x (List.mem_append.2 (.inr (by simp)))⟩
  · have := h.at_ k (by simp; omega)
    rwa [List.getElem_append_left hk] at this
  · have := h.at_ ys.length (by simp)
    simpa using this
set_option maxRecDepth 100000 in
set_option maxHeartbeats 2000000 in
theorem backR_in (n : Nat) (hn : 1 ≤ n) (l p m c : Nat) (A : Option Addr) (P : List Nat → Prop) (hm : m ≤ 1000000) (J Jx : List (WI m) → World → Prop) (W : World)
    (hY : ∀ pre x W, J pre W → pre.length < m → YieldAt Fence.wide (n - 1) Try.prog l #[.int .i64 (x.1.1 : Int), .int .u64 (x.1.2 : Int)] W fun e W' =>
      (e = .returned (.bool true) ∧ J (pre ++ [x]) W' ∧ KpR p A m P W W') ∨ (e = .returned (.bool false) ∧ Jx (pre ++ [x]) W'))
    (hp : Boxed W p 23 (.slice A m c)) (hra : RdP A m P W) (h0 : J [] W) :
    CallsIn Fence.wide n Try.prog 57 #[.func (.yield l) #[] #[], .pointer (some ⟨p, 0, none⟩)] W fun e W' => (∃ v, e = .returned v) ∧
      ((∃ ys, (Downs P ys ∧ ys.length = m) ∧ J ys W') ∨ (∃ pre, True ∧ Jx pre W')) := by
  have hpc := hp.cell
  refine callsIn_of_wp Try.func57 rfl trivial ?_ rfl
  simp only [Try.ntmps57, List.size_toArray, List.length_cons, List.length_nil, Nat.reduceAdd, Nat.reduceSub, Array.replicate_succ, Array.replicate_zero, List.push_toArray, List.append_toArray, List.nil_append, List.cons_append]
  gi_wp2
  gi_loopw [3] (fun i wr => ∃ (k : Nat) (ys : List (WI m)), k ≤ m ∧ i = .int .i64 ((k : Int) - 1) ∧ ys.length = m - k ∧ Downs P ys ∧ J ys wr ∧ wr.heap[p]? = W.heap[p]? ∧ RdP A m P wr) (fun i _ => (intOf i + 1).toNat)
  case atStart => exact ⟨m, [], Nat.le_refl _, rfl, by simp, Downs.nil, h0, rfl, hra⟩
  case round =>
    obtain ⟨k, ys, hk, rfl, hyl, hds, hJs, hbx, hrd⟩ := hrel
    by_cases hlt : 0 < k
    · obtain ⟨i, rfl⟩ : ∃ i, k = i + 1 := ⟨k - 1, by omega⟩
      have hpc1 : wr.cell? ⟨p, 0, none⟩ = some (.slice A m c) := by
        rw [← hpc]
        exact World.cell?_of_block hbx
      obtain ⟨xs, hx1, hx2, hx3, hx4⟩ := hrd
      have hrd' : RdP A m P wr := ⟨xs, hx1, hx2, hx3, hx4⟩
      obtain ⟨b, off, rfl, hb, hcell⟩ := hx4 (by omega)
      have hx := hcell i (by omega)
      clear hcell
      have hY1 := hY ys ⟨(i, nth xs i), by omega, nth_lt xs hx2 i⟩ wr hJs (by omega)
      have HD := Lib.hid (hds.snoc ⟨(i, nth xs i), by omega, nth_lt xs hx2 i⟩ (by show i = m - 1 - ys.length; omega) ⟨xs, hx1, hx2, hx3, rfl⟩)
      have HL := Lib.hid (show (ys ++ [(⟨(i, nth xs i), by omega, nth_lt xs hx2 i⟩ : WI m)]).length = m - i by rw [List.length_append, List.length_singleton]; omega)
      have HR := Lib.hid hrd'
      have HB := Lib.hid hbx
      dsimp only at hY1
      obtain ⟨fn, tmps, assign, body, hy, hR⟩ := hY1
      clear hpc hrd' hbx hra h0 hx3 hds
      rw [show ((i + 1 : Nat) : Int) - 1 = (i : Int) by omega]
      gi_wp2
      refine hR.mono ?_
      rintro e W3 (⟨rfl, hJ3, hk3⟩ | ⟨rfl, hJx3⟩)
      · gi_wp2
        go_roundw
        case rel => exact ⟨i, _, by omega, rfl, HL.out, HD.out, hJ3, hk3.1.trans HB.out, hk3.2 HR.out⟩
        case measure => simp [intOf] <;> omega
      · gi_wp2
        refine bodyPost_ret (results_none rfl _ _ _) rfl ?_
        exact ⟨⟨_, rfl⟩, .inr ⟨_, trivial, hJx3⟩⟩
    · obtain rfl : k = 0 := by omega
      gi_wp2
      go_end0
      exact ⟨⟨_, rfl⟩, .inl ⟨ys, ⟨hds, by omega⟩, hJs⟩⟩
theorem backR_stops (n : Nat) (hn : 1 ≤ n) (p m c : Nat) (A : Option Addr) (P : List Nat → Prop) (hm : m ≤ 1000000) (w : World) (hp : Boxed w p 23 (.slice A m c)) (hra : RdP A m P w) :
    SeqStopsK Fence.wide n Try.prog 57 #[.pointer (some ⟨p, 0, none⟩)] (fun x : WI m => #[Value.int .i64 (x.1.1 : Int), Value.int .u64 (x.1.2 : Int)]) (KpR p A m P)
      (fun ys => Downs P ys ∧ ys.length = m) (fun _ => True) m w := fun l J Jx W hW _ _ hY h0 =>
  backR_in n hn l p m c A P hm J Jx W hY ((hW.block p hp.lt).trans hp) (by
    obtain ⟨xs, e1, e2, e3, e4⟩ := hra
    exact ⟨xs, e1, e2, e3, (e4.below hW).more hW.size⟩) h0
end Go.Proofs.Ytekgoceainibaaa
/- A region that draws its order, inside a loop's round: what reads stable memory, or none, may be taken first. No condition but those typed; no program is named. -/
namespace Go.Proofs.Ytekgoceainibaaa
open Go Go.RowKit
section
variable {F : Fence} {n : Nat} {P : Program} {ops : Array Oper} {Q : Exit → Act → World → Prop} {md : Region.Mode}
/-- An operation does not mind a slot that it neither reads nor writes. -/
theorem op_put {j : Nat} {oj : Oper} {d : Option Tmp} {v : Value} (hj : ops[j]? = some oj) (hl : ∀ x, d = some x → x ∉ oj.looksAt ops) (hne : ∀ x, d = some x → oj.dst ≠ some x)
    (hsel : ∀ cs b, oj.op ≠ .select cs b) (hdef : ∀ c, oj.op ≠ .defer c) (hQ : ∀ c a w, Q (.panic c) (a.put d v) w → Q (.panic c) a w) {K : Act → World → Prop} {a : Act} {w : World}
    (h : wpOpIn F n P ops Q j K (a.put d v) w) : wpOpIn F n P ops Q j (fun a' w' => ((∃ u, a' = a.put oj.dst u) ∨ ∃ e u, a' = { a with defers := e :: a.defers }.put oj.dst u) ∧ K (a'.put d v) w') a w := by
  unfold wpOpIn at *
  simp only [hj] at *
  rw [wanted_put oj a d v hl, about_put oj w a d v hl] at h
  by_cases hw : Region.wanted oj (yielded ops a.tmps) = true
  · rw [if_pos hw] at h ⊢
    unfold Oper.wpIn at *
    rw [about_put oj w a d v hl, Oper.semAt_eq _ _ _ hdef, execOp_put oj hsel a d v hl] at h
    rw [Oper.semAt_eq _ _ _ hdef]
    refine ⟨h.1, ?_⟩
    replace h := h.2
    generalize (execOp a.eval oj).run P w = r at *
    cases r with
    | ok x w' =>
      cases x <;> simp only [Oper.uponIn] at h ⊢
      case value u => exact ⟨.inl ⟨u, rfl⟩, by rw [← Act.put_comm a v u hne]; exact h⟩
      case skip => exact ⟨.inl ⟨undef, rfl⟩, by rw [← Act.put_comm a v undef hne]; exact h⟩
      case defer e => exact ⟨.inr ⟨e, undef, rfl⟩, by rw [← Act.put_comm _ v undef hne, ← Act.put_defers]; exact h⟩
      case enter f args =>
        refine ⟨h.1, CallsIn.mono h.2 fun e w'' he => ?_⟩
        cases e with
        | returned u => exact ⟨.inl ⟨u, rfl⟩, by rw [← Act.put_comm a v u hne]; exact he⟩
        | panicked c => exact hQ _ _ _ he
        | outgrown => exact he
      case row row args => exact ⟨h.1, RowsIn.mono h.2 fun u w'' he => ⟨.inl ⟨u, rfl⟩, by rw [← Act.put_comm a v u hne]; exact he⟩⟩
      case round l f tmps assign body =>
        refine ⟨h.1, RoundIn.mono h.2 fun e w'' he => ?_⟩
        cases e with
        | returned u => exact ⟨.inl ⟨u, rfl⟩, by rw [← Act.put_comm a v u hne]; exact he⟩
        | panicked c => exact hQ _ _ _ he
        | outgrown => exact he
    | halt x w' =>
      cases x <;> simp only [Oper.uponIn] at h ⊢
      case panic u => exact hQ _ _ _ h
  · rw [if_neg hw] at h ⊢
    exact ⟨h.1, .inl ⟨undef, rfl⟩, by rw [← Act.put_comm a v undef hne]; exact h.2⟩
/-- Whatever order is drawn: as wpAnyIn has it, and the world is such as B says till operation s has run. -/
def anyG (F : Fence) (n : Nat) (P : Program) (md : Region.Mode) (ops : Array Oper) (Q : Exit → Act → World → Prop) (s : Nat) (B : World → Prop) : Nat → Array Bool → Act → World → Prop
  | 0, listed, a, w => (listed.getD s true = false → B w) ∧ Region.ready md ops listed = [] ∧ Q .normal a w
  | fuel + 1, listed, a, w => (listed.getD s true = false → B w) ∧ (Region.ready md ops listed = [] → Q .normal a w) ∧
    ∀ i ∈ Region.ready md ops listed, wpOpIn F n P ops Q i (anyG F n P md ops Q s B fuel (listed.setIfInBounds i true)) a w
variable {s : Nat} {B : World → Prop}
theorem anyG.good {fuel : Nat} {listed : Array Bool} {a : Act} {w : World} (h : anyG F n P md ops Q s B fuel listed a w) : listed.getD s true = false → B w := by
  cases fuel <;> exact h.1
theorem anyG.toAny : ∀ {fuel : Nat} {listed : Array Bool} {a : Act} {w : World}, anyG F n P md ops Q s B fuel listed a w → wpAnyIn F n P md ops Q fuel listed a w := by
  intro fuel
  induction fuel with
  | zero => exact fun h => h.2
  | succ fuel ih => exact fun h => ⟨h.2.1, fun i hi => wpOpIn_mono (fun _ _ => ih) (h.2.2 i hi)⟩
/-- It runs to v, the world being as it was, wherever the world is such as B says. -/
def Held (P : Program) (ops : Array Oper) (B : World → Prop) (o : Oper) (v : Value) (a : Act) : Prop :=
  Region.wanted o (yielded ops a.tmps) = true ∧ ∀ w, B w → (execOp a.eval o).run P w = .ok (.value v) w ∧ o.about P w a.eval = none
theorem Held.op {i : Nat} {o : Oper} {v : Value} {a : Act} (hi : ops[i]? = some o) (hdef : ∀ c, o.op ≠ .defer c) (hy : Held P ops B o v a) {K : Act → World → Prop} {w : World} (hB : B w) (h : K (a.put o.dst v) w) : wpOpIn F n P ops Q i K a w := by
  unfold wpOpIn
  simp only [hi]
  obtain ⟨e1, e2⟩ := hy.2 w hB
  rw [if_pos hy.1]
  unfold Oper.wpIn
  rw [Oper.semAt_eq _ _ _ hdef, e1, e2]
  exact ⟨fun f hf => (by cases hf), h⟩
theorem Held.put {o oj : Oper} {v u : Value} {a : Act} (hy : Held P ops B o v a) (hsel : ∀ cs b, o.op ≠ .select cs b) (h : ∀ d, oj.dst = some d → d ∉ o.looksAt ops) : Held P ops B o v (a.put oj.dst u) := by
  refine ⟨by rw [wanted_put o a oj.dst u h]; exact hy.1, fun w hB => ?_⟩
  rw [execOp_put o hsel a oj.dst u h, about_put o w a oj.dst u h]
  exact hy.2 w hB
theorem anyG_first {i : Nat} {oi os : Oper} {v : Value} (hi : ops[i]? = some oi) (hsel : ∀ (j : Nat) (o : Oper) cs b, ops[j]? = some o → o.op ≠ .select cs b) (hdef : ∀ (j : Nat) (o : Oper) c, ops[j]? = some o → o.op ≠ .defer c)
    (hs : ops[s]? = some os) (hse : ∃ e ∈ os.after, Region.binds md e = true ∧ e.on = i) (his : i ≠ s) (hQ : ∀ c a w, Q (.panic c) (a.put oi.dst v) w → Q (.panic c) a w) :
    ∀ (fuel : Nat) (listed : Array Bool) (a : Act) (w : World),
      (∀ j oj, ops[j]? = some oj → j ≠ i → listed.getD j true = false → (∀ e ∈ oj.after, Region.binds md e = true → e.on ≠ i) → oi.apart ops oj = true) →
      i ∈ Region.ready md ops listed → listed.getD s true = false → Held P ops B oi v a →
      anyG F n P md ops Q s B fuel (listed.setIfInBounds i true) (a.put oi.dst v) w → anyG F n P md ops Q s B (fuel + 1) listed a w := by
  intro fuel
  induction fuel with
  | zero =>
    intro listed a w _ hr hl hy H
    have hB : B w := H.good (by rw [getD_set_ne true his]; exact hl)
    refine ⟨fun _ => hB, fun h => (by rw [h] at hr; cases hr), fun j hj => ?_⟩
    by_cases hji : j = i
    · subst hji; exact hy.op hi (fun c => hdef _ _ c hi) hB H
    · have := ready_mono hj hji
      rw [H.2.1] at this
      cases this
  | succ fuel ih =>
    intro listed a w hfree hr hl hy H
    have hB : B w := H.good (by rw [getD_set_ne true his]; exact hl)
    refine ⟨fun _ => hB, fun h => (by rw [h] at hr; cases hr), fun j hj => ?_⟩
    by_cases hji : j = i
    · subst hji; exact hy.op hi (fun c => hdef _ _ c hi) hB H
    · have h1 := H.2.2 j (ready_mono hj hji)
      obtain ⟨hjun, oj, hoj, hall⟩ := mem_ready.1 hj
      have hnot : ∀ e ∈ oj.after, Region.binds md e = true → e.on ≠ i := fun e he hb heq => by
        have h1 := hall e he hb
        have h0 := (mem_ready.1 hr).1
        rw [heq] at h1
        rcases Nat.lt_or_ge i listed.size with h' | h'
        · simp [h'] at h0 h1; rw [h0] at h1; cases h1
        · simp [Array.getElem?_eq_none h'] at h1
      have hjs : j ≠ s := fun e => by
        subst e
        rw [hs] at hoj
        cases hoj
        obtain ⟨e, he, hb, heq⟩ := hse
        exact hnot e he hb heq
      obtain ⟨p1, p2, p3⟩ := Oper.apart_spec (hfree j oj hoj hji hjun hnot)
      have h2 := op_put hoj p1 p2 (fun cs b => hsel j oj cs b hoj) (fun c => hdef j oj c hoj) hQ h1
      have hfree' : ∀ k ok, ops[k]? = some ok → k ≠ i → (listed.setIfInBounds j true).getD k true = false →
          (∀ e ∈ ok.after, Region.binds md e = true → e.on ≠ i) → oi.apart ops ok = true := fun k ok hk hki hun hno => by
        refine hfree k ok hk hki ?_ hno
        by_cases hjk : j = k
        · subst hjk; exact hjun
        · rw [getD_set_ne true hjk] at hun; exact hun
      refine wpOpIn_mono (fun a' w' h3 => ih (listed.setIfInBounds j true) a' w' hfree' (ready_mono hr (Ne.symm hji)) (by rw [getD_set_ne true hjs]; exact hl) ?_ ?_) h2
      · rcases h3.1 with ⟨u, rfl⟩ | ⟨e, u, rfl⟩
        · exact hy.put (fun cs b => hsel i oi cs b hi) p3
        · exact Held.put (a := { a with defers := e :: a.defers }) hy (fun cs b => hsel i oi cs b hi) p3
      · rw [Array.setIfInBounds_comm _ _ hji]
        exact h3.2
/-- Operations that are no 'defer' and no 'select'. -/
def plainOps (ops : Array Oper) : Bool := ops.all fun o => match o.op with | .select .. => false | .defer .. => false | _ => true
theorem plainOps.sel (h : plainOps ops = true) (j : Nat) (o : Oper) (cs : Array SelectCase) (b : Bool) (ho : ops[j]? = some o) : o.op ≠ .select cs b := fun e => by
  have := Array.all_eq_true_iff_forall_mem.1 h o (Array.mem_of_getElem? ho)
  simp [e] at this
theorem plainOps.def_ (h : plainOps ops = true) (j : Nat) (o : Oper) (c : Call) (ho : ops[j]? = some o) : o.op ≠ .defer c := fun e => by
  have := Array.all_eq_true_iff_forall_mem.1 h o (Array.mem_of_getElem? ho)
  simp [e] at this
/-- Operation s waits for operation i. -/
def waits (md : Region.Mode) (ops : Array Oper) (s i : Nat) : Bool := match ops[s]? with | some o => o.after.any (fun e => Region.binds md e && e.on == i) | none => false
/-- A held operation is taken first. -/
theorem anyG_take {i : Nat} {oi : Oper} {v : Value} {fuel : Nat} {listed : Array Bool} {a : Act} {w : World} (hi : ops[i]? = some oi) (hp : plainOps ops = true) (hf : Region.free md ops listed i = true)
    (hr : (Region.ready md ops listed).contains i = true) (hsw : waits md ops s i = true) (his : (i != s) = true) (hl : listed.getD s true = false) (hQ : ∀ c a w, Q (.panic c) (a.put oi.dst v) w → Q (.panic c) a w)
    (hy : Held P ops B oi v a) (h : anyG F n P md ops Q s B fuel (listed.setIfInBounds i true) (a.put oi.dst v) w) : anyG F n P md ops Q s B (fuel + 1) listed a w := by
  unfold waits at hsw
  cases hs : ops[s]? with
  | none => rw [hs] at hsw; cases hsw
  | some os =>
    rw [hs] at hsw
    obtain ⟨e, he, hb⟩ := Array.any_eq_true'.1 hsw
    simp only [Bool.and_eq_true, beq_iff_eq] at hb
    exact anyG_first hi (plainOps.sel hp) (plainOps.def_ hp) hs ⟨e, he, hb.1, hb.2⟩ (by simpa using his) hQ fuel listed a w (Region.free_spec hi hf) (by simpa using hr) hl hy h
/-- One operation alone may come up. -/
theorem anyG_one {i : Nat} {o : Oper} {fuel : Nat} {listed : Array Bool} {a : Act} {w : World} (hr : Region.ready md ops listed = [i]) (ho : ops[i]? = some o) (hB : listed.getD s true = false → B w)
    (h : ∀ K' : Act → World → Prop, (∀ a w, anyG F n P md ops Q s B fuel (listed.setIfInBounds i true) a w → K' a w) → if Region.wanted o (yielded ops a.tmps) = true then Oper.wpIn F n P o a w K' Q else (∀ f, o.about P w a.eval = some f → F.fn f) ∧ K' (a.put o.dst undef) w) :
    anyG F n P md ops Q s B (fuel + 1) listed a w := by
  refine ⟨hB, fun h0 => (by rw [hr] at h0; cases h0), fun j hj => ?_⟩
  rw [hr, List.mem_singleton] at hj
  subst hj
  exact wpOpIn_step ho h
/-- All have run. -/
theorem anyG_done {fuel : Nat} {listed : Array Bool} {a : Act} {w : World} (hr : Region.ready md ops listed = []) (hs : listed.getD s true = true) (h : Q .normal a w) : anyG F n P md ops Q s B fuel listed a w := by
  cases fuel with
  | zero => exact ⟨fun e => (by rw [hs] at e; cases e), hr, h⟩
  | succ k => exact ⟨fun e => (by rw [hs] at e; cases e), fun _ => h, fun i hi => (by rw [hr] at hi; cases hi)⟩
end
end Go.Proofs.Ytekgoceainibaaa
/- The contract of the document's Quot: how often a number goes into another one, and what is left, to the base 2. Conditions: as typed (lengths that fit a machine). -/
namespace Go.Proofs.Ytekgoceainibaaa
open Go.RowKit
set_option maxRecDepth 20000
/-- The quotient's digits from place k on, noughts below. -/
def qs (Q n k : Nat) : List Nat := (List.range n).map fun j => if k ≤ j then bit Q j else 0
end Go.Proofs.Ytekgoceainibaaa
/- The examples of chapter 2 ('works') hold, in whatever memory. No condition. -/
namespace Go.Proofs.Ytekgoceainibaaa
open Go.RowKit
set_option maxRecDepth 20000
/-- What is answered, as words that are written out. -/
theorem OutNat.lit {N : Nat} {w w' : World} {e : Ending} (h : OutNat N w e w') (l : List Nat) (hl : wd N = l) : ∃ X d, e = .returned (.slice X l.length d) ∧ Rd .u64 w' w'.heap.size X l ∧ Below w.heap.size w w' ∧ l.length ≤ d := by
  obtain ⟨v, rfl, own, b⟩ := h
  obtain ⟨X, d, rfl, hd, _⟩ := own_form own
  have hn : (nbits N + 63) / 64 = l.length := by rw [← hl, length_wd]
  rw [hl] at own
  exact ⟨X, d, by rw [hn], Rd.own own, b, by omega⟩
theorem wd_lit (N k : Nat) (h1 : N < 2 ^ k) (h2 : k ≠ 0 → 2 ^ (k - 1) ≤ N) (l : List Nat) (h3 : words ((k + 63) / 64) N = l) : wd N = l := by rw [wd, nbits_eq N k h1 h2, h3]
theorem wd_d : wd 1 = [1] := wd_lit _ 1 (by decide) (by decide) _ (by decide)
section
variable (w : World)
/-- Same of what was answered and of words that are written out. -/
theorem same_lit (l : List Nat) (A : Option Addr) (c : Nat) (hr : Rd .u64 w w.heap.size A l) (hl : l.length ≤ 100) :
    Calls Try.prog 12 #[.slice A l.length c, .slice (some ⟨w.heap.size, 0, none⟩) l.length l.length] (w.alloc (.cells (ints .u64 l).toArray 40)) fun e w' => e = .returned (.bool true) ∧ Below w.heap.size w w' := by
  have hb : Below w.heap.size w (w.alloc (.cells (ints .u64 l).toArray 40)) := (Below.refl _ _).alloc (Nat.le_refl _) _
  have h := same02_any A (some ⟨w.heap.size, 0, none⟩) c l.length l l (w.alloc (.cells (ints .u64 l).toArray 40)) (w.heap.size + 1) ((hr.below hb).more (by omega)) (Rd.lit w .u64 40 l) (by omega) (by omega)
  exact Calls.mono h fun e w' ⟨he, hd⟩ => ⟨by rw [he]; simp, hb.trans (hd.below _)⟩
end
theorem below_step {w0 w w' : World} (h : Below w0.heap.size w0 w) (k : Below w.heap.size w w') : Below w0.heap.size w0 w' := h.trans (k.mono h.size)
theorem rd_step {k : IntKind} {w w' : World} {A : Option Addr} {l : List Nat} (h : Rd k w w.heap.size A l) (b : Below w.heap.size w w') : Rd k w' w'.heap.size A l := (h.below b).more b.size
end Go.Proofs.Ytekgoceainibaaa
/- NatWords' walk: it answers true, and writes nothing that was there. No condition but what the arguments' types give. -/
namespace Go.Proofs.Ytekgoceainibaaa
open Go.RowKit
set_option maxRecDepth 20000
/-- Words of the call's own, whatever they are by now. -/
def Turned (w : World) (base : Nat) (v : Value) (n : Nat) : Prop := ∃ l : List Nat, l.length = n ∧ Words l ∧ w.ownsRow base 40 1 v n (ints .u64 l)
theorem Turned.at_ {w : World} {base n i : Nat} {v : Value} (h : Turned w base v n) (hi : i < n) : ∃ (g c x : Nat), v = .slice (some ⟨g, 0, none⟩) n c ∧ base ≤ g ∧ x < 18446744073709551616 ∧ w.cell? ⟨g, i, none⟩ = some (.int .u64 (x : Int)) ∧ w.frozen? ⟨g, i, none⟩ = false ∧
    ∀ y : Nat, y < 18446744073709551616 → Turned (w.setCell ⟨g, i, none⟩ (.int .u64 (y : Int))) base v n := by
  obtain ⟨l, hl, hw, own⟩ := h
  obtain ⟨g, c, rfl, hg, _⟩ := own_pos2 own (by omega)
  refine ⟨g, c, nth l i, rfl, hg, hw _ (nth_mem l i (by omega)), ?_, own.frozenAt _, fun y hy => ?_⟩
  · rw [own.cellAt _ (by omega), ints_get _ _ _ (by omega)]
  · have hst := own.stored i (.int .u64 (y : Int))
    rw [ints_set] at hst
    refine ⟨l.set i y, by simp [hl], fun x hx => ?_, hst.1⟩
    rcases mem_set hx with rfl | h
    · exact hy
    · exact hw x h
end Go.Proofs.Ytekgoceainibaaa
/- nat's contracts in the form that laws use: a slice of words stands for a number. Conditions: as typed. -/
namespace Go.Proofs.Ytekgoceainibaaa
open Go.RowKit
set_option maxRecDepth 20000
/-- The slice at A, of n words, stands for N: words that may be, or not. -/
def NatIn (w : World) (A : Option Addr) (n c N : Nat) : Prop := ∃ l : List Nat, l.length = n ∧ natOf l = N ∧ Words l ∧ n ≤ 50000 ∧ Rd .u64 w w.heap.size A l ∧ n ≤ c
/-- The slice at A, of n words, is N's words. -/
def NatIs (w : World) (A : Option Addr) (n c N : Nat) : Prop := (wd N).length = n ∧ n ≤ 50000 ∧ Rd .u64 w w.heap.size A (wd N) ∧ n ≤ c
/-- The slice at A is N's digits. -/
def NumIs (w : World) (A : Option Addr) (n d N : Nat) : Prop := n = nbits N ∧ n ≤ d ∧ n ≤ 5000000 ∧ Rd .u8 w w.heap.size A (dg N)
section
variable {w w' : World} {A : Option Addr} {n c N d : Nat}
theorem NatIn.step (h : NatIn w A n c N) (b : Below w.heap.size w w') : NatIn w' A n c N := by
  obtain ⟨l, h1, h2, h3, h4, h5, h6⟩ := h
  exact ⟨l, h1, h2, h3, h4, rd_step h5 b, h6⟩
theorem NatIs.step (h : NatIs w A n c N) (b : Below w.heap.size w w') : NatIs w' A n c N := ⟨h.1, h.2.1, rd_step h.2.2.1 b, h.2.2.2⟩
theorem NumIs.step (h : NumIs w A n d N) (b : Below w.heap.size w w') : NumIs w' A n d N := ⟨h.1, h.2.1, h.2.2.1, rd_step h.2.2.2 b⟩
theorem NatIs.in_ (h : NatIs w A n c N) : NatIn w A n c N := ⟨wd N, h.1, natOf_wd N, wd_words N, h.2.1, h.2.2.1, h.2.2.2⟩
theorem NatIn.bits (h : NatIn w A n c N) : nbits N ≤ 64 * n := by
  obtain ⟨l, rfl, rfl, h3, _⟩ := h
  exact nbits_natOf l h3
theorem Turned.step {base : Nat} {v : Value} (h : Turned w base v n) (b : Below w.heap.size w w') : Turned w' base v n := by
  obtain ⟨l, h1, h2, h3⟩ := h
  refine ⟨l, h1, h2, h3.kept (row := none) ⟨b.os, b.tape, b.output, b.size, fun i hi _ => b.block i hi⟩ ?_⟩
  rcases hv : v.ownBlock with _ | x
  · exact .inl rfl
  · exact .inr (by simp)
end
theorem Turned.lt {w : World} {base n : Nat} {v : Value} (h : Turned w base v n) : ∀ g, v.ownBlock = some g → base ≤ g ∧ g < w.heap.size := by
  obtain ⟨l, _, _, h3⟩ := h
  exact h3.lt
/-- A number is answered, in new memory. -/
def OutN (N : Nat) (w : World) (e : Ending) (w' : World) : Prop := ∃ X q d, e = .returned (.slice X q d) ∧ NatIs w' X q d N ∧ Turned w' w.heap.size (.slice X q d) q ∧ Below w.heap.size w w'
theorem OutNat.out {N : Nat} {w w' : World} {e : Ending} (h : OutNat N w e w') (hn : nbits N ≤ 3200000) : OutN N w e w' := by
  obtain ⟨v, rfl, own, b⟩ := h
  obtain ⟨X, d, rfl, hd, _⟩ := own_form own
  exact ⟨X, _, d, rfl, ⟨length_wd N, by omega, Rd.own own, hd⟩, ⟨wd N, length_wd N, wd_words N, own⟩, b⟩
/-- Digits are answered. -/
def OutD (N : Nat) (w : World) (e : Ending) (w' : World) : Prop := ∃ X n d, e = .returned (.slice X n d) ∧ NumIs w' X n d N ∧ Below w.heap.size w w'
theorem OutNum.out {N : Nat} {w w' : World} {e : Ending} (h : OutNum N w e w') (hn : nbits N ≤ 5000000) : OutD N w e w' := by
  obtain ⟨X, d, rfl, hd, hR, b⟩ := h
  exact ⟨X, _, d, rfl, ⟨rfl, hd, hn, hR⟩, b⟩
theorem nbits_add (a b : Nat) : nbits (a + b) ≤ nbits a + nbits b + 1 := by
  have ha := nbits_lt a
  have hb := nbits_lt b
  refine nbits_of_lt _ _ ?_
  have h1 : 2 ^ nbits a ≤ 2 ^ (nbits a + nbits b) := Nat.pow_le_pow_right (by omega) (by omega)
  have h2 : 2 ^ nbits b ≤ 2 ^ (nbits a + nbits b) := Nat.pow_le_pow_right (by omega) (by omega)
  rw [Nat.pow_succ]
  omega
theorem nbits_shl (a k : Nat) : nbits (2 ^ k * a) ≤ k + nbits a := by
  refine nbits_of_lt _ _ ?_
  rw [Nat.pow_add]
  exact Nat.mul_lt_mul_of_pos_left (nbits_lt a) (Nat.pow_pos (by omega))
section
variable {w : World} {A A2 : Option Addr} {n m c c2 M N d d2 : Nat}
theorem bTrim (h : NatIn w A n c M) : Calls Try.prog 16 #[.slice A n c] w (OutN M w) := by
  have hb := h.bits
  obtain ⟨l, rfl, rfl, h3, h4, h5, h6⟩ := h
  exact Calls.mono (natTrim_any A c l w h5 h3 (by omega) h6) fun _ _ h => h.out (by omega)
theorem bMay (h : NatIs w A n c M) : Calls Try.prog 20 #[.slice A n c] w fun e w' => e = .returned (.bool true) ∧ Below w.heap.size w w' := by
  obtain ⟨h1, h2, h3, h6⟩ := h
  have h := natMay_any A c (wd M) w h3 (wd_words M) (by omega) (by omega)
  rw [h1, natOf_wd] at h
  exact Calls.mono h fun e w' ⟨he, hb⟩ => ⟨by rw [he]; simp, hb⟩
theorem bAdd (h : NatIn w A n c M) (k : NatIn w A2 m c2 N) (hs : n + m ≤ 40000) : Calls Try.prog 18 #[.slice A n c, .slice A2 m c2] w (OutN (M + N) w) := by
  have hb := h.bits
  have kb := k.bits
  have hk := nbits_add M N
  obtain ⟨l, rfl, rfl, h3, h4, h5, h6⟩ := h
  obtain ⟨l2, rfl, rfl, k3, k4, k5, k6⟩ := k
  exact Calls.mono (natAdd_any A A2 c c2 l l2 w h5 h3 (by omega) h6 k5 k3 (by omega) k6) fun _ _ h => h.out (by omega)
theorem bCmp (h : NatIn w A n c M) (k : NatIn w A2 m c2 N) : Calls Try.prog 21 #[.slice A n c, .slice A2 m c2] w fun e w' => e = .returned (.int .i64 (cmpS M N)) ∧ Below w.heap.size w w' := by
  obtain ⟨l, rfl, rfl, h3, h4, h5, h6⟩ := h
  obtain ⟨l2, rfl, rfl, k3, k4, k5, k6⟩ := k
  exact natCmp_any A A2 c c2 l l2 w h5 h3 (by omega) h6 k5 k3 (by omega) k6
theorem bSub_yes (h : NatIn w A n c M) (k : NatIn w A2 m c2 N) (hle : N ≤ M) : Calls Try.prog 24 #[.slice A n c, .slice A2 m c2] w fun e w' =>
    ∃ X q d, e = .returned (.tuple #[.slice X q d, .bool true]) ∧ NatIs w' X q d (M - N) ∧ Turned w' w.heap.size (.slice X q d) q ∧ Below w.heap.size w w' := by
  have hb := h.bits
  have hm := nbits_mono (Nat.sub_le M N)
  obtain ⟨l, rfl, rfl, h3, h4, h5, h6⟩ := h
  obtain ⟨l2, rfl, rfl, k3, k4, k5, k6⟩ := k
  refine Calls.mono (natSub_any A A2 c c2 l l2 w h5 h3 (by omega) h6 k5 k3 (by omega) k6) fun e w' h => ?_
  obtain ⟨v, he, own⟩ := h.1 hle
  obtain ⟨X, d, rfl, hd, _⟩ := own_form own
  exact ⟨X, _, d, he, ⟨length_wd _, by omega, Rd.own own, hd⟩, ⟨wd _, length_wd _, wd_words _, own⟩, h.2.2⟩
theorem bShl (h : NatIn w A n c M) (k : Int) (hn : n ≤ 40000) : Calls Try.prog 32 #[.slice A n c, .int .i64 k] w (OutN (shlS M k) w) := by
  have hb := h.bits
  obtain ⟨l, rfl, rfl, h3, h4, h5, h6⟩ := h
  refine Calls.mono (natShl_any A c l w h5 h3 (by omega) h6 k) fun _ _ h => h.out ?_
  unfold shlS
  split
  · have := nbits_shl (natOf l) k.toNat
    omega
  · rw [nbits_zero]; omega
theorem bShr (h : NatIn w A n c M) (k : Int) : Calls Try.prog 29 #[.slice A n c, .int .i64 k] w (OutN (shrS M k) w) := by
  have hb := h.bits
  obtain ⟨l, rfl, rfl, h3, h4, h5, h6⟩ := h
  refine Calls.mono (natShr_any A c l w h5 h3 (by omega) h6 k) fun _ _ h => h.out ?_
  unfold shrS
  split
  · have := nbits_mono (Nat.div_le_self (natOf l) (2 ^ k.toNat))
    omega
  · rw [nbits_zero]; omega
theorem bBits (h : NatIn w A n c M) : Calls Try.prog 46 #[.slice A n c] w fun e w' => e = .returned (.int .i64 (nbits M)) ∧ Below w.heap.size w w' := by
  obtain ⟨l, rfl, rfl, h3, h4, h5, h6⟩ := h
  exact natBits_any A c l w h5 h3 (by omega) h6
theorem bSame (h : NatIs w A n c M) (k : NatIs w A2 m c2 M) : Calls Try.prog 12 #[.slice A n c, .slice A2 m c2] w fun e w' => e = .returned (.bool true) ∧ Below w.heap.size w w' := by
  obtain ⟨h1, h2, h3, h6⟩ := h
  obtain ⟨k1, k2, k3, k6⟩ := k
  obtain rfl : n = m := by omega
  exact same_true A A2 n c c2 (wd M) w h1 h3 k3 (by omega)
theorem bDigits (h : NatIn w A n c M) : Calls Try.prog 14 #[.slice A n c] w (OutD M w) := by
  have hb := h.bits
  obtain ⟨l, rfl, rfl, h3, h4, h5, h6⟩ := h
  exact Calls.mono (digits_any A c l w h5 h3 (by omega)) fun _ _ h => h.out (by omega)
theorem bIs (h : NatIs w A n c M) (k : NumIs w A2 m d M) : Calls Try.prog 15 #[.slice A n c, .slice A2 m d] w fun e w' => e = .returned (.bool true) ∧ Below w.heap.size w w' := by
  obtain ⟨h1, h2, h3, h6⟩ := h
  obtain ⟨rfl, k2, k3, k4⟩ := k
  exact is_true A A2 n c d M w h1 h3 k4 (by omega) k2
end
/-- The slice at A, of n words, is the words l, whether they may be or not. -/
def RowIs (w : World) (A : Option Addr) (n c : Nat) (l : List Nat) : Prop := l.length = n ∧ Words l ∧ n ≤ 50000 ∧ Rd .u64 w w.heap.size A l ∧ n ≤ c
section
variable {w w' : World} {A A2 : Option Addr} {n c c2 : Nat} {l : List Nat}
theorem RowIs.step (h : RowIs w A n c l) (b : Below w.heap.size w w') : RowIs w' A n c l := ⟨h.1, h.2.1, h.2.2.1, rd_step h.2.2.2.1 b, h.2.2.2.2⟩
theorem RowIs.in_ (h : RowIs w A n c l) : NatIn w A n c (natOf l) := ⟨l, h.1, rfl, h.2.1, h.2.2.1, h.2.2.2.1, h.2.2.2.2⟩
theorem bCopy (h : RowIs w A n c l) : Calls Try.prog 8 #[.slice A n c] w fun e w' => ∃ X d, e = .returned (.slice X n d) ∧ RowIs w' X n d l ∧ Below w.heap.size w w' := by
  obtain ⟨rfl, h2, h3, h4, h6⟩ := h
  refine Calls.mono (copy02_any A c l w h4 (by omega)) fun e w' ⟨v, he, own, hb⟩ => ?_
  obtain ⟨X, d, rfl, hd, _⟩ := own_form own
  exact ⟨X, d, he, ⟨rfl, h2, h3, Rd.own own, hd⟩, hb⟩
theorem bSameRow (h : RowIs w A n c l) (k : RowIs w A2 n c2 l) : Calls Try.prog 12 #[.slice A n c, .slice A2 n c2] w fun e w' => e = .returned (.bool true) ∧ Below w.heap.size w w' :=
  same_true A A2 n c c2 l w h.1 h.2.2.2.1 k.2.2.2.1 (by have := h.2.2.1; omega)
end
end Go.Proofs.Ytekgoceainibaaa
/- mul.wordByWord: a product, a row for each word. Conditions: as typed (lengths that fit a machine). -/
namespace Go.Proofs.Ytekgoceainibaaa
open Go.RowKit
set_option maxRecDepth 20000
/-- So many words of a number are answered, in new memory. -/
def OutWords (K V : Nat) (w : World) (e : Ending) (w' : World) : Prop := ∃ A, e = .returned (.slice A K K) ∧ w'.ownsRow w.heap.size 40 1 (.slice A K K) K (ints .u64 (words K V)) ∧ Below w.heap.size w w'
theorem row_zero (w : World) (m : Nat) (hm : m ≤ 1000000) : (w.alloc (.cells (Array.replicate m (Value.int .u64 0)) 40)).ownsRow w.heap.size 40 1 (.slice (some ⟨w.heap.size, 0, none⟩) m m) m (ints .u64 (words m 0)) := by
  have h := row_new w m hm 0
  rwa [wsAt_zero, ← words_none] at h
set_option maxHeartbeats 2000000 in
theorem byWord_any (A A2 : Option Addr) (c c2 n m : Nat) (a b : List Nat) (w : World) (hn : a.length = n) (hm : b.length = m) (hr : Rd .u64 w w.heap.size A a) (hw : Words a) (hl : n ≤ 100000) (hr2 : Rd .u64 w w.heap.size A2 b) (hw2 : Words b) (hl2 : m ≤ 100000) :
    Calls Try.prog 61 #[.slice A n c, .slice A2 m c2] w (OutWords (n + m) (natOf a * natOf b) w) := by
  obtain ⟨K, hK⟩ : ∃ K, n + m = K := ⟨_, rfl⟩
  have HK := Lib.hid hK
  have hsum : (n : Int) + (m : Int) = (K : Int) := by omega
  have hK2 : K ≤ 200000 := by omega
  have hmk := fun u => make_row K u (by omega)
  have Hn := Lib.hid hn
  have Hm := Lib.hid hm
  rw [hK]
  clear hK hn hm
  go_enter Try.func61, Try.ntmps61
  go_wp2_with fail
  go_step3
  go_wp2_with fail
  go_step3
  go_wp2_with fail
  have hown0 := row_zero w K (by omega)
  obtain ⟨E, hE⟩ : ∃ E, w.alloc (.cells (Array.replicate K (Value.int .u64 0)) 40) = E := ⟨_, rfl⟩
  have hbE : Below w.heap.size w E := by rw [← hE]; exact (Below.refl _ w).alloc (Nat.le_refl _) _
  rw [hE] at hown0 ⊢
  clear hmk hE
  go_loopw [23] (fun v wr => ∃ I : Nat, I ≤ n ∧ v = .int .i64 I ∧ wr.ownsRow w.heap.size 40 1 (.slice (some ⟨w.heap.size, 0, none⟩) K K) K (ints .u64 (words K (natOf (a.take I) * natOf b))) ∧ Below w.heap.size w wr) (fun v _ => n - (intOf v).toNat)
  case atStart => exact ⟨0, Nat.zero_le _, rfl, by simpa [natOf] using hown0, hbE⟩
  case round =>
    obtain ⟨I, hI, rfl, hown, hb⟩ := hrel
    clear hown0 hbE
    obtain ⟨wo, hwo⟩ : ∃ wo : World, wo = wr := ⟨_, rfl⟩
    subst hwo
    by_cases hlt : I < n
    · have hnl := Hn.out
      have hml := Hm.out
      have hKe := HK.out
      obtain ⟨b1, o1, rfl, hb1, hcell1⟩ := hr (by omega)
      have hx1 := (hb.cell (p := ⟨b1, o1 + I, none⟩) hb1).trans (hcell1 I (by omega))
      have hxl := nth_lt a hw I
      obtain ⟨x, hx⟩ : ∃ x, nth a I = x := ⟨_, rfl⟩
      rw [hx] at hx1 hxl
      have HX := Lib.hid hx
      clear hcell1 hnl hx
      by_cases hx0 : x = 0
      · have e := row_none a b I (by rw [HX.out, hx0])
        rw [e] at hown
        have HO := Lib.hid hown
        subst hx0
        clear hown e
        go_wp2_with fail
        go_roundw
        case rel => exact ⟨I + 1, by omega, by go_num, HO.out, hb⟩
        case measure => simp [intOf]; omega
      · have hne : ((x : Int) == 0) = false := by simp; omega
        have hS0 := Sums.start K (I + m) (natOf (a.take I) * natOf b) (by have := row_lt a b hw hw2 I; rwa [hml] at this) (by omega) I
        have HS0 := Lib.hid hS0
        clear hS0 hml hKe
        have hIm : I + m < K := by have := HK.out; omega
        go_wp2_with fail
        rw [Nat.add_sub_cancel_left]
        go_loopw [39, 9] (fun v ov wr => ∃ (k O : Nat) (L : List Nat), k ≤ m ∧ v = .int .i64 k ∧ ov = .int .u64 O ∧ O < 18446744073709551616 ∧ Sums K (I + m) (I + k) O (natOf (a.take I) * natOf b + 18446744073709551616 ^ I * nth a I * natOf (b.take k)) L ∧ wr.ownsRow w.heap.size 40 1 (.slice (some ⟨w.heap.size, 0, none⟩) K K) K (ints .u64 L) ∧ Below w.heap.size w wr) (fun v _ _ => m - (intOf v).toNat)
        case atStart => exact ⟨0, 0, _, Nat.zero_le _, rfl, rfl, by omega, by simpa [natOf] using HS0.out, hown, hb⟩
        case round =>
          obtain ⟨k, O, L, hk, rfl, rfl, hO, hS, hown2, hb2⟩ := hrel
          have hll := hS.len
          clear hown hx1
          by_cases hkm : k < m
          · have hml := Hm.out
            obtain ⟨b2, o2, rfl, hbb2, hcell2⟩ := hr2 (by omega)
            have hy1 := (hb2.cell (p := ⟨b2, o2 + k, none⟩) hbb2).trans (hcell2 k (by omega))
            have hyl := nth_lt b hw2 k
            have hrl := nth_lt L hS.words (I + k)
            have hco : wr.cell? ⟨w.heap.size, I + k, none⟩ = some (.int .u64 (nth L (I + k) : Int)) := by rw [hown2.cellAt _ (by omega), ints_get _ _ _ (by omega)]
            have hfo : wr.frozen? ⟨w.heap.size, I + k, none⟩ = false := hown2.frozenAt _
            obtain ⟨e1, e2, e3, e4⟩ := word_step x (nth b k) O (nth L (I + k)) hxl hyl hO hrl
            have hSS := hS.step (by omega) (by omega) (nth a I * nth b k) _ rfl
            rw [row_step, HX.out] at hSS
            have M := Try.bits_Mul64 x (nth b k) hxl hyl wr
            have A1 : ∀ w : World, (callFunc 39 #[.int .u64 ((x * nth b k % 18446744073709551616 : Nat) : Int), .int .u64 (O : Int), .int .u64 0]).run Try.prog w = .ok (.value (.tuple #[.int .u64 (((x * nth b k % 18446744073709551616 + O) % 18446744073709551616 : Nat) : Int), .int .u64 (((x * nth b k % 18446744073709551616 + O) / 18446744073709551616 : Nat) : Int)])) w :=
              fun w => add64_run (x * nth b k % 18446744073709551616) O 0 (by omega) w
            have A2 : ∀ w : World, (callFunc 39 #[.int .u64 (nth L (I + k) : Int), .int .u64 (((x * nth b k % 18446744073709551616 + O) % 18446744073709551616 : Nat) : Int), .int .u64 0]).run Try.prog w = .ok (.value (.tuple #[.int .u64 (((nth L (I + k) + (x * nth b k % 18446744073709551616 + O) % 18446744073709551616) % 18446744073709551616 : Nat) : Int), .int .u64 (((nth L (I + k) + (x * nth b k % 18446744073709551616 + O) % 18446744073709551616) / 18446744073709551616 : Nat) : Int)])) w :=
              fun w => add64_run (nth L (I + k)) ((x * nth b k % 18446744073709551616 + O) % 18446744073709551616) 0 (by omega) w
            rw [e1] at A2
            rw [← e3] at hSS e4
            generalize (nth L (I + k) + x * nth b k + O) % 18446744073709551616 = s0 at *
            generalize (nth L (I + k) + (x * nth b k % 18446744073709551616 + O) % 18446744073709551616) / 18446744073709551616 = c2' at *
            generalize (x * nth b k % 18446744073709551616 + O) % 18446744073709551616 = l1 at *
            generalize (x * nth b k % 18446744073709551616 + O) / 18446744073709551616 = c1' at *
            generalize x * nth b k % 18446744073709551616 = lo at *
            generalize x * nth b k / 18446744073709551616 = hh at *
            clear e1 e3
            have hst := hown2.stored (I + k) (.int .u64 (s0 : Int))
            rw [ints_set] at hst
            have HO := Lib.hid hst.1
            have HS := Lib.hid hSS
            have HM := Lib.hid M
            clear hst hSS hown2 hcell2 hS M hml hll
            go_wp2_with fail
            refine (HM.out).mono ?_
            rintro e w' ⟨rfl, rfl⟩
            go_wp2_with fail
            go_roundw
            case rel => exact ⟨k + 1, hh + c1' + c2', L.set (I + k) s0, by omega, by go_num, by go_num, e4, by rw [HX.out]; exact HS.out, HO.out, hb2.setCell (p := ⟨w.heap.size, I + k, none⟩) (by simp) _⟩
            case measure => simp [intOf]; omega
          · obtain rfl : k = m := by omega
            have hml := Hm.out
            have hlast := hS.last hIm hO
            have e := row_end a b I
            rw [hml] at e
            rw [e] at hlast
            have hco : wr.cell? ⟨w.heap.size, I + k, none⟩ = some (.int .u64 (nth L (I + k) : Int)) := by rw [hown2.cellAt _ (by omega), ints_get _ _ _ (by omega)]
            have hfo : wr.frozen? ⟨w.heap.size, I + k, none⟩ = false := hown2.frozenAt _
            have hst := hown2.stored (I + k) (.int .u64 (O : Int))
            rw [ints_set, hlast] at hst
            have HO := Lib.hid hst.1
            clear hst hown2 hS hml hll e hlast hkm
            go_wp2_with fail
            go_roundw
            case rel => exact ⟨I + 1, by omega, by go_num, HO.out, hb2.setCell (p := ⟨w.heap.size, I + k, none⟩) (by simp) _⟩
            case measure => simp [intOf]; omega
    · obtain rfl : I = n := by omega
      have hnl := Hn.out
      rw [← hnl, take_full] at hown
      have HO := Lib.hid hown
      clear hown hnl
      go_wp2_with fail
      rw [Exit.noGoto_ret]
      go_ret
      exact ⟨_, rfl, HO.out, hb⟩
end Go.Proofs.Ytekgoceainibaaa
/- mul.product's closure, which calls itself: products of many words of halves. Conditions: as typed (lengths that fit a machine; its own variable holds it). -/
namespace Go.Proofs.Ytekgoceainibaaa
open Go.RowKit
set_option maxRecDepth 20000
/-- The closure, as its own variable holds it. -/
def tfn (G : Nat) : Value := .func (.func 59) #[] #[.pointer (some ⟨G, 0, none⟩)]
/-- Words of a product are answered, in new memory. -/
def OutTimes (V N : Nat) (w : World) (e : Ending) (w' : World) : Prop := ∃ A K, e = .returned (.slice A K K) ∧ w'.ownsRow w.heap.size 40 1 (.slice A K K) K (ints .u64 (words K V)) ∧ V < 18446744073709551616 ^ K ∧ K ≤ N ∧ Below w.heap.size w w'
/-- The shorter one of two first. -/
def OutPair (V N : Nat) (w : World) (e : Ending) (w' : World) : Prop := ∃ X n c Y m d x y, e = .returned (.tuple #[.slice X n c, .slice Y m d]) ∧ w = w' ∧ List.length x = n ∧ List.length y = m ∧ n ≤ m ∧ n + m ≤ N ∧ m ≤ 10000 ∧ n ≤ c ∧ m ≤ d ∧ Words x ∧ Words y ∧
  Rd .u64 w w.heap.size X x ∧ Rd .u64 w w.heap.size Y y ∧ natOf x * natOf y = V
theorem pair_any (A A2 : Option Addr) (c c2 N : Nat) (a b : List Nat) (w : World) (hN : a.length + b.length ≤ N) (hl : a.length ≤ 10000) (hl2 : b.length ≤ 10000) (hc : a.length ≤ c) (hc2 : b.length ≤ c2) (hw : Words a) (hw2 : Words b) (hr : Rd .u64 w w.heap.size A a) (hr2 : Rd .u64 w w.heap.size A2 b) :
    Calls Try.prog 60 #[.slice A (tl a) c, .slice A2 (tl b) c2] w (OutPair (natOf a * natOf b) N w) := by
  have h1 := tl_le a hw
  have h2 := tl_le b hw2
  have e1 : (a.take (tl a)).length = tl a := by rw [List.length_take]; omega
  have e2 : (b.take (tl b)).length = tl b := by rw [List.length_take]; omega
  have n1 : natOf (a.take (tl a)) = natOf a := by rw [take_wd a hw, natOf_wd]
  have n2 : natOf (b.take (tl b)) = natOf b := by rw [take_wd b hw2, natOf_wd]
  by_cases h : tl b < tl a
  · refine (shorter_yes A A2 (tl a) (tl b) c c2 w h).mono ?_
    rintro e w' ⟨rfl, rfl⟩
    exact ⟨A2, tl b, c2, A, tl a, c, b.take (tl b), a.take (tl a), rfl, rfl, e2, e1, by omega, by omega, by omega, by omega, by omega, hw2.take _, hw.take _, hr2.take _, hr.take _, by rw [n1, n2, Nat.mul_comm]⟩
  · refine (shorter_no A A2 (tl a) (tl b) c c2 w h).mono ?_
    rintro e w' ⟨rfl, rfl⟩
    exact ⟨A, tl a, c, A2, tl b, c2, a.take (tl a), b.take (tl b), rfl, rfl, e1, e2, by omega, by omega, by omega, by omega, by omega, hw.take _, hw2.take _, hr.take _, hr2.take _, by rw [n1, n2]⟩
/-- What the closure is held to for less than N words. -/
def TimesTo (G t N : Nat) : Prop := ∀ (A A2 : Option Addr) (c c2 n m : Nat) (a b : List Nat) (w : World), a.length = n → b.length = m → n + m < N → n ≤ 10000 → m ≤ 10000 → n ≤ c → m ≤ c2 → Words a → Words b → Rd .u64 w w.heap.size A a → Rd .u64 w w.heap.size A2 b → Boxed w G t (tfn G) →
  Calls Try.prog 59 #[.slice A n c, .slice A2 m c2, .pointer (some ⟨G, 0, none⟩)] w (OutTimes (natOf a * natOf b) (n + m) w)
theorem Rdx.rd {k : IntKind} {w : World} {g : Nat} {A : Option Addr} {l : List Nat} (h : Rdx k w g A l) : Rd k w w.heap.size A l := fun hl => by
  obtain ⟨b, off, rfl, _, hc⟩ := h hl
  exact ⟨b, off, rfl, cell_lt (hc 0 hl), hc⟩
theorem Rdx.step {k : IntKind} {w w' : World} {g : Nat} {A : Option Addr} {l : List Nat} (h : Rdx k w g A l) (b : Below w.heap.size w w') : Rdx k w' g A l := fun hl => by
  obtain ⟨x, off, rfl, hx, hc⟩ := h hl
  exact ⟨x, off, rfl, hx, fun j hj => (b.cell (p := ⟨x, off + j, none⟩) (cell_lt (hc j hj))).trans (hc j hj)⟩
theorem box_step {w w' : World} {G t : Nat} {v : Value} (h : Boxed w G t v) (b : Below w.heap.size w w') : Boxed w' G t v := (b.block G h.lt).trans h
theorem boxc {u : World} {G t : Nat} (h : Boxed u G t (tfn G)) : u.cell? ⟨G, 0, none⟩ = some (.func (.func 59) #[] #[.pointer (some ⟨G, 0, none⟩)]) := h.cell
/-- addAt, as it is called here: a product's words are added to a row. -/
theorem addAt_w (g K p V k P V' : Nat) (R : Option Addr) (w : World) (hown : w.ownsRow g 40 1 (.slice (some ⟨g, 0, none⟩) K K) K (ints .u64 (words K V))) (hx : Rdx .u64 w g R (words k P)) (c : Nat)
    (hp : p + k ≤ K) (hK : K ≤ 20000) (hP : P < 18446744073709551616 ^ k) (e : V + 18446744073709551616 ^ p * P = V') (hV : V' < 18446744073709551616 ^ K) :
    Calls Try.prog 62 #[.slice (some ⟨g, 0, none⟩) K K, .slice R k c, .int .i64 (p : Int)] w fun e w' => e = .returned (.tuple #[]) ∧
      w'.ownsRow g 40 1 (.slice (some ⟨g, 0, none⟩) K K) K (ints .u64 (words K V')) ∧ w.grownBy w' (some g) := by
  have hn : natOf (words k P) = P := by rw [natOf_words, Nat.mod_eq_of_lt hP]
  have h := addAt_any g g K p V k c (words K V) (words k P) R w hown (Sums.start K K V (by omega) (Nat.le_refl _) p) hx (words_words _ _) (length_words _ _) hp (by omega) (by rw [hn, e]; exact hV)
  rwa [hn, e] at h
theorem below_add {w0 w w' : World} {g : Nat} (hb : Below w0.heap.size w0 w) (hg : w.grownBy w' (some g)) (h : w0.heap.size ≤ g) : Below w0.heap.size w0 w' :=
  hb.grown hg hb.size (fun q e => by injection e with e; omega)
/-- Words of the number P, at most N, apart from block g. -/
def Got (g : Nat) (u : World) (v : Value) (N P : Nat) : Prop := ∃ R k, v = .slice R k k ∧ Rdx .u64 u g R (words k P) ∧ P < 18446744073709551616 ^ k ∧ k ≤ N
theorem Got.step {g N P : Nat} {u u' : World} {v : Value} (h : Got g u v N P) (b : Below u.heap.size u u') : Got g u' v N P := by
  obtain ⟨R, k, rfl, h1, h2⟩ := h
  exact ⟨R, k, rfl, h1.step b, h2⟩
theorem Got.grown {g N P : Nat} {u u' : World} {v : Value} (h : Got g u v N P) (b : u.grownBy u' (some g)) : Got g u' v N P := by
  obtain ⟨R, k, rfl, h1, h2⟩ := h
  exact ⟨R, k, rfl, h1.grown b, h2⟩
def OutGot (g N P : Nat) (w : World) (e : Ending) (w' : World) : Prop := ∃ v, e = .returned v ∧ Got g w' v N P ∧ Below w.heap.size w w'
/-- The slice is the words of S, none too many. -/
def Su (u : World) (R : Option Addr) (q d S : Nat) : Prop := (wd S).length = q ∧ q ≤ d ∧ Rd .u64 u u.heap.size R (wd S)
theorem Su.step {S q d : Nat} {u u' : World} {R : Option Addr} (h : Su u R q d S) (b : Below u.heap.size u u') : Su u' R q d S := ⟨h.1, h.2.1, (h.2.2.below b).more b.size⟩
def OutSu (S : Nat) (w : World) (e : Ending) (w' : World) : Prop := ∃ R q d, e = .returned (.slice R q d) ∧ Su w' R q d S ∧ Below w.heap.size w w'
theorem add_su (A A2 : Option Addr) (c c2 n m : Nat) (a b : List Nat) (w : World) (hn : a.length = n) (hm : b.length = m) (hl : n ≤ 10000) (hl2 : m ≤ 10000) (hc : n ≤ c) (hc2 : m ≤ c2) (hw : Words a) (hw2 : Words b) (hr : Rd .u64 w w.heap.size A a) (hr2 : Rd .u64 w w.heap.size A2 b) :
    Calls Try.prog 18 #[.slice A n c, .slice A2 m c2] w (OutSu (natOf a + natOf b) w) := by
  subst hn
  subst hm
  refine (natAdd_any A A2 c c2 a b w hr hw (by omega) hc hr2 hw2 (by omega) hc2).mono ?_
  rintro e w' ⟨v, rfl, hown, hb⟩
  obtain ⟨R, d, rfl, hd, _⟩ := own_form hown
  exact ⟨R, _, d, rfl, ⟨length_wd _, hd, Rd.own hown⟩, hb⟩
theorem times_got {G t N : Nat} (ih : TimesTo G t N) (g : Nat) (A A2 : Option Addr) (c c2 n m : Nat) (a b : List Nat) (u : World) (hn : a.length = n) (hm : b.length = m) (hN : n + m < N) (hl : n ≤ 10000) (hl2 : m ≤ 10000) (hc : n ≤ c) (hc2 : m ≤ c2) (hw : Words a) (hw2 : Words b) (hr : Rd .u64 u u.heap.size A a) (hr2 : Rd .u64 u u.heap.size A2 b) (hb : Boxed u G t (tfn G)) (hg : g < u.heap.size) :
    Calls Try.prog 59 #[.slice A n c, .slice A2 m c2, .pointer (some ⟨G, 0, none⟩)] u (OutGot g (n + m) (natOf a * natOf b) u) := by
  refine (ih A A2 c c2 n m a b u hn hm hN hl hl2 hc hc2 hw hw2 hr hr2 hb).mono ?_
  rintro e w' ⟨R, k, rfl, ho, hk, hkn, hb'⟩
  exact ⟨_, rfl, ⟨R, k, rfl, Rdx.own ho hg, hk, hkn⟩, hb'⟩
theorem room_of (P p K : Nat) (h : 18446744073709551616 ^ p * P < 18446744073709551616 ^ K) (hp : p ≤ K) : p + (nbits P + 63) / 64 ≤ K := by
  obtain ⟨q, rfl⟩ : ∃ q, K = p + q := ⟨K - p, by omega⟩
  rw [Nat.pow_add] at h
  have h1 : P < 18446744073709551616 ^ q := Nat.lt_of_mul_lt_mul_left h
  rw [pow_64_2] at h1
  have := nbits_of_lt _ _ h1
  omega
theorem sum_len (a b : List Nat) (h : Nat) (ha : Words a) (hb : Words b) (h1 : a.length ≤ h) (h2 : b.length ≤ h) : (wd (natOf a + natOf b)).length ≤ h + 1 := by
  have l1 := Nat.lt_of_lt_of_le (natOf_lt a ha) (Nat.pow_le_pow_right (show 0 < 18446744073709551616 by omega) h1)
  have l2 := Nat.lt_of_lt_of_le (natOf_lt b hb) (Nat.pow_le_pow_right (show 0 < 18446744073709551616 by omega) h2)
  have h3 : natOf a + natOf b < 18446744073709551616 ^ (h + 1) := by rw [Nat.pow_succ]; omega
  rw [pow_64_2] at h3
  have := nbits_of_lt _ _ h3
  rw [length_wd]
  omega
set_option maxRecDepth 100000 in
set_option maxHeartbeats 4000000 in
theorem times_step (G t N : Nat) (ih : TimesTo G t N) (A A2 : Option Addr) (c c2 : Nat) (a b : List Nat) (w : World) (hN : a.length + b.length ≤ N) (hl : a.length ≤ 10000) (hl2 : b.length ≤ 10000) (hc : a.length ≤ c) (hc2 : b.length ≤ c2) (hw : Words a) (hw2 : Words b) (hr : Rd .u64 w w.heap.size A a) (hr2 : Rd .u64 w w.heap.size A2 b) (hbox : Boxed w G t (tfn G)) :
    Calls Try.prog 59 #[.slice A a.length c, .slice A2 b.length c2, .pointer (some ⟨G, 0, none⟩)] w (OutTimes (natOf a * natOf b) (a.length + b.length) w) := by
  have T1 := Lib.hid (mtrim_any A c a w w.heap.size hr hw (by omega) hc)
  have T2 := Lib.hid (mtrim_any A2 c2 b w w.heap.size hr2 hw2 (by omega) hc2)
  have PP := Lib.hid (pair_any A A2 c c2 (a.length + b.length) a b w (Nat.le_refl _) hl hl2 hc hc2 hw hw2 hr hr2)
  obtain ⟨V, hV⟩ : ∃ V, natOf a * natOf b = V := ⟨_, rfl⟩
  obtain ⟨M, hM⟩ : ∃ M, a.length + b.length = M := ⟨_, rfl⟩
  rw [hV, hM] at PP ⊢
  rw [hM] at hN
  clear hr hr2 hw hw2 hc hc2 hV hM
  go_enter Try.func59, Try.ntmps59
  go_wp2_with fail
  refine (T1.out).mono ?_
  rintro e w' ⟨rfl, rfl⟩
  go_wp2_with fail
  refine (T2.out).mono ?_
  rintro e w' ⟨rfl, rfl⟩
  go_wp2_with fail
  refine (PP.out).mono ?_
  rintro e w' ⟨X, n, c, Y, m, d, x, y, rfl, rfl, hxn, hym, hnm, hM, hm, hnc, hmd, hwx, hwy, hrx, hry, hV⟩
  clear T1 T2 PP
  by_cases hn : n < 80
  · have HW := Lib.hid (byWord_any X Y c d n m x y w hxn hym hrx hwx (by omega) hry hwy (by omega))
    have hlt := mul_lt x y hwx hwy
    rw [hV, hxn, hym] at hlt
    rw [hV] at HW
    have HL := Lib.hid hlt
    clear hlt
    go_wp2_with fail
    refine (HW.out).mono ?_
    rintro e w' ⟨A', rfl, hown, hb⟩
    go_wp2_with fail
    go_ret
    exact ⟨_, _, rfl, hown, HL.out, hM, hb⟩
  · obtain ⟨h, hh⟩ : ∃ h, (m + 1) / 2 = h := ⟨_, rfl⟩
    have hhi : ((m : Int) + 1) / 2 = (h : Int) := by omega
    obtain ⟨yb, yo, rfl, hyb, hyc⟩ := hry (by omega)
    have hdh : ¬ d = h := by omega
    obtain ⟨K, hK⟩ : ∃ K, n + m = K := ⟨_, rfl⟩
    have hsum : (n : Int) + (m : Int) = (K : Int) := by omega
    have hK2 : K ≤ 20000 := by omega
    have hmk := fun u => make_row K u (by omega)
    have hhm : h < m := by omega
    have hown0 := row_zero w.drew K (by omega)
    obtain ⟨E, hE⟩ : ∃ E, w.drew.alloc (.cells (Array.replicate K (Value.int .u64 0)) 40) = E := ⟨_, rfl⟩
    have hbE : Below w.heap.size w E := by rw [← hE]; exact ((Drawn.more 1).below _).trans ((Below.refl _ w.drew).alloc (Nat.le_refl _) _)
    have hEs : E.heap.size = w.heap.size + 1 := by rw [← hE]; exact World.size_alloc _ _
    have hb0 : Boxed E G t (tfn G) := box_step hbox hbE
    rw [hE, show w.drew.heap.size = w.heap.size from rfl] at hown0
    have hyt := hry.take h
    have hyd := hry.drop (i := h) (cap := d) (by omega)
    rw [if_neg hdh, show (some (⟨yb, yo, none⟩ : Addr)).map (·.add h) = some ⟨yb, yo + h, none⟩ by simp [Addr.add_lit]] at hyd
    have hlt1 : (y.take h).length = h := by rw [List.length_take]; omega
    have hld1 : (y.drop h).length = m - h := by rw [List.length_drop]; omega
    have hwt := hwy.take h
    have hwd : Words (y.drop h) := fun z hz => hwy z (List.mem_of_mem_drop hz)
    have hyp := natOf_parts y h
    have HH := Lib.hid hh
    have HEs := Lib.hid hEs
    have hVK : V < 18446744073709551616 ^ K := by have := mul_lt x y hwx hwy; rwa [hV, hxn, hym, hK] at this
    have HVK := Lib.hid hVK
    clear hyc hh hEs hVK
    go_wp2_with fail
    rw [hhi]
    go_region
    by_cases hnh : n ≤ h
    · have hbc := hb0.cell
      rw [tfn] at hbc
      have T1 := ih X (some ⟨yb, yo, none⟩) c d n h x (y.take h) E hxn hlt1 (by omega) (by omega) (by omega) hnc (by omega) hwx hwt ((hrx.below hbE).more hbE.size) ((hyt.below hbE).more hbE.size) hb0
      have HT1 := Lib.hid T1
      clear T1
      go_wp2_with fail
      refine (HT1.out).mono ?_
      rintro e w1 ⟨R1, k1, rfl, ho1, hk1, hkn1, hb1⟩
      clear hbc HT1
      have hb2 := box_step hb0 hb1
      have hbc := hb2.cell
      rw [tfn] at hbc
      have ow1 := own_step hown0 hb1
      have hP1 : natOf x * natOf (y.take h) + 18446744073709551616 ^ h * (natOf x * natOf (y.drop h)) = V := by rw [← hV, hyp, half_two]
      have HA1 := Lib.hid (addAt_w w.heap.size K 0 0 k1 (natOf x * natOf (y.take h)) (natOf x * natOf (y.take h)) R1 w1 ow1 (Rdx.own ho1 (by have := HEs.out; omega)) k1 (by omega) hK2 hk1 (by rw [Nat.pow_zero, Nat.one_mul, Nat.zero_add]) (by have := HVK.out; omega))
      have HP := Lib.hid hP1
      clear hP1
      go_wp2_with fail
      refine (HA1.out).mono ?_
      rintro e w2 ⟨rfl, ow2, hg2⟩
      have hlt2 : w.heap.size < w1.heap.size := by have := HEs.out; have := hb1.size; omega
      have hB1 : Below w.heap.size w w1 := hbE.trans (hb1.mono hbE.size)
      have hB2 := below_add hB1 hg2 (Nat.le_refl _)
      clear hbc hb2 HA1
      have hb3 := box_step hbox hB2
      have hbc := hb3.cell
      rw [tfn] at hbc
      have HT2 := Lib.hid (ih X (some ⟨yb, yo + h, none⟩) c (d - h) n (m - h) x (y.drop h) w2 hxn hld1 (by omega) (by omega) (by omega) hnc (by omega) hwx hwd ((hrx.below hB2).more hB2.size) ((hyd.below hB2).more hB2.size) hb3)
      go_wp2_with fail
      refine (HT2.out).mono ?_
      rintro e w3 ⟨R2, k2, rfl, ho2, hk2, hkn2, hb4⟩
      clear HT2 hbc
      have ow3 := own_step ow2 hb4
      have HA2 := Lib.hid (addAt_w w.heap.size K h _ k2 (natOf x * natOf (y.drop h)) V R2 w3 ow3 (Rdx.own ho2 (by have := hg2.size; omega)) k2 (by omega) hK2 hk2 HP.out HVK.out)
      go_wp2_with fail
      refine (HA2.out).mono ?_
      rintro e w4 ⟨rfl, ow4, hg4⟩
      have hB3 : Below w.heap.size w w3 := hB2.trans (hb4.mono hB2.size)
      have hB4 := below_add hB3 hg4 (Nat.le_refl _)
      clear HA2 ho1 ho2 ow1 ow2 ow3
      go_wp2_with fail
      go_ret
      exact ⟨_, _, rfl, ow4, HVK.out, by omega, hB4⟩
    · obtain ⟨xb, xo, rfl, hxb, hxc⟩ := hrx (by omega)
      clear hxc
      have hch : ¬ c = h := by omega
      have hxt := hrx.take h
      have hxd := hrx.drop (i := h) (cap := c) (by omega)
      rw [if_neg hch, show (some (⟨xb, xo, none⟩ : Addr)).map (·.add h) = some ⟨xb, xo + h, none⟩ by simp [Addr.add_lit]] at hxd
      have hlt2 : (x.take h).length = h := by rw [List.length_take]; omega
      have hld2 : (x.drop h).length = n - h := by rw [List.length_drop]; omega
      have hwt2 := hwx.take h
      have hwd2 : Words (x.drop h) := fun z hz => hwx z (List.mem_of_mem_drop hz)
      have hxp := natOf_parts x h
      have hh2 : m ≤ 2 * h := by have := HH.out; omega
      have T1 : ∀ u, Below E.heap.size E u → Calls Try.prog 59 #[.slice (some ⟨xb, xo, none⟩) h c, .slice (some ⟨yb, yo, none⟩) h d, .pointer (some ⟨G, 0, none⟩)] u (OutGot w.heap.size (h + h) (natOf (x.take h) * natOf (y.take h)) u) := fun u hu => by
        have hB := hbE.trans (hu.mono hbE.size)
        exact times_got ih w.heap.size _ _ c d h h _ _ u hlt2 hlt1 (by omega) (by omega) (by omega) (by omega) (by omega) hwt2 hwt ((hxt.below hB).more hB.size) ((hyt.below hB).more hB.size) (box_step hb0 hu) (by have := HEs.out; have := hu.size; omega)
      have T2 : ∀ u, Below E.heap.size E u → Calls Try.prog 59 #[.slice (some ⟨xb, xo + h, none⟩) (n - h) (c - h), .slice (some ⟨yb, yo + h, none⟩) (m - h) (d - h), .pointer (some ⟨G, 0, none⟩)] u (OutGot w.heap.size (n - h + (m - h)) (natOf (x.drop h) * natOf (y.drop h)) u) := fun u hu => by
        have hB := hbE.trans (hu.mono hbE.size)
        exact times_got ih w.heap.size _ _ (c - h) (d - h) (n - h) (m - h) _ _ u hld2 hld1 (by omega) (by omega) (by omega) (by omega) (by omega) hwd2 hwd ((hxd.below hB).more hB.size) ((hyd.below hB).more hB.size) (box_step hb0 hu) (by have := HEs.out; have := hu.size; omega)
      have T3 : ∀ u, Below E.heap.size E u → Calls Try.prog 18 #[.slice (some ⟨xb, xo, none⟩) h c, .slice (some ⟨xb, xo + h, none⟩) (n - h) (c - h)] u (OutSu (natOf (x.take h) + natOf (x.drop h)) u) := fun u hu => by
        have hB := hbE.trans (hu.mono hbE.size)
        exact add_su _ _ c (c - h) h (n - h) _ _ u hlt2 hld2 (by omega) (by omega) (by omega) (by omega) hwt2 hwd2 ((hxt.below hB).more hB.size) ((hxd.below hB).more hB.size)
      have T4 : ∀ u, Below E.heap.size E u → Calls Try.prog 18 #[.slice (some ⟨yb, yo, none⟩) h d, .slice (some ⟨yb, yo + h, none⟩) (m - h) (d - h)] u (OutSu (natOf (y.take h) + natOf (y.drop h)) u) := fun u hu => by
        have hB := hbE.trans (hu.mono hbE.size)
        exact add_su _ _ d (d - h) h (m - h) _ _ u hlt1 hld1 (by omega) (by omega) (by omega) (by omega) hwt hwd ((hyt.below hB).more hB.size) ((hyd.below hB).more hB.size)
      have s1 := sum_len (x.take h) (x.drop h) h hwt2 hwd2 (by omega) (by omega)
      have s2 := sum_len (y.take h) (y.drop h) h hwt hwd (by omega) (by omega)
      have T5 : ∀ u R q d R' q' d', Below E.heap.size E u → Su u R q d (natOf (x.take h) + natOf (x.drop h)) → Su u R' q' d' (natOf (y.take h) + natOf (y.drop h)) → Calls Try.prog 59 #[.slice R q d, .slice R' q' d', .pointer (some ⟨G, 0, none⟩)] u (OutGot w.heap.size 20004 ((natOf (x.take h) + natOf (x.drop h)) * (natOf (y.take h) + natOf (y.drop h))) u) := fun u R q d R' q' d' hu h1 h2 => by
        have h3 := h1.1
        have h4 := h2.1
        have T := times_got ih w.heap.size R R' d d' q q' (wd (natOf (x.take h) + natOf (x.drop h))) (wd (natOf (y.take h) + natOf (y.drop h))) u h1.1 h2.1 (by omega) (by omega) (by omega) h1.2.1 h2.2.1 (wd_words _) (wd_words _) h1.2.2 h2.2.2 (box_step hb0 hu) (by have := HEs.out; have := hu.size; omega)
        rw [natOf_wd, natOf_wd] at T
        refine T.mono ?_
        rintro e w' ⟨v, rfl, ⟨R, k, rfl, h5, h6, h7⟩, hb'⟩
        exact ⟨_, rfl, ⟨R, k, rfl, h5, h6, by omega⟩, hb'⟩
      have hP := half_three (natOf (x.take h)) (natOf (x.drop h)) (natOf (y.take h)) (natOf (y.drop h)) (18446744073709551616 ^ h)
      rw [← hxp, ← hyp, hV, ← Nat.pow_add] at hP
      have hS := sub_two (natOf (x.take h)) (natOf (x.drop h)) (natOf (y.take h)) (natOf (y.drop h))
      have HK := Lib.hid hK
      have HM := Lib.hid hM
      generalize natOf (x.take h) = xl at *
      generalize natOf (x.drop h) = xd at *
      generalize natOf (y.take h) = yl at *
      generalize natOf (y.drop h) = yd at *
      have H1 := Lib.hid T1
      have H2 := Lib.hid T2
      have H3 := Lib.hid T3
      have H4 := Lib.hid T4
      have H5 := Lib.hid T5
      have HP := Lib.hid hP
      have HS := Lib.hid hS
      clear T1 T2 T3 T4 T5 hP hS s1 s2 hxt hxd hyt hyd hwt hwd hwt2 hwd2 hlt1 hlt2 hld1 hld2 hxp hyp hV
      go_wp2_with fail
      go_region
      go_upto_region 12 with fail
      have hu : Below E.heap.size E E.drew.drew := ((Drawn.more 1).below _).trans ((Drawn.more 1).below _)
      have hbc := boxc (box_step hb0 hu)
      go_cut [12, 13] (fun s1 s2 wx => Got w.heap.size wx s1 (h + h) (xl * yl) ∧ Got w.heap.size wx s2 (n - h + (m - h)) (xd * yd) ∧ Below E.heap.size E wx)
      case first =>
        go_region_with (first
          | (go_at_call 59; (with_reducible refine (H1.out _ hu).mono ?_); rintro e wa ⟨va, rfl, Ga, ba⟩; (try replace Gb := Gb.step ba); replace hu := hu.trans (ba.mono hu.size); replace hbc := boxc (box_step hb0 hu))
          | (go_at_call 59; (with_reducible refine (H2.out _ hu).mono ?_); rintro e wb ⟨vb, rfl, Gb, bb⟩; (try replace Ga := Ga.step bb); replace hu := hu.trans (bb.mono hu.size); replace hbc := boxc (box_step hb0 hu)))
        all_goals (go_wp2_with fail; go_meet; exact ⟨Ga, Gb, hu⟩)
      case rest =>
        obtain ⟨Ga, Gb, hu⟩ := hcut
        clear hbc
        go_upto_region 13 with fail
        replace hu : Below E.heap.size E wc.drew := hu.trans ((Drawn.more 1).below _)
        replace Ga : Got w.heap.size wc.drew u12 _ _ := Ga.step ((Drawn.more 1).below _)
        replace Gb : Got w.heap.size wc.drew u13 _ _ := Gb.step ((Drawn.more 1).below _)
        have hbc := boxc (box_step hb0 hu)
        go_cut [14] (fun s wx => Got w.heap.size wx s 20004 ((xl + xd) * (yl + yd)) ∧ Got w.heap.size wx u12 (h + h) (xl * yl) ∧ Got w.heap.size wx u13 (n - h + (m - h)) (xd * yd) ∧ Below E.heap.size E wx)
        case first =>
          go_region_with (first
            | (go_at_call 18; (with_reducible refine (H3.out _ hu).mono ?_); rintro e wa ⟨Ra, qa, da, rfl, Na, ba⟩; (try replace Nb := Nb.step ba); replace Ga := Ga.step ba; replace Gb := Gb.step ba; replace hu := hu.trans (ba.mono hu.size); replace hbc := boxc (box_step hb0 hu))
            | (go_at_call 18; (with_reducible refine (H4.out _ hu).mono ?_); rintro e wb ⟨Rb, qb, db, rfl, Nb, bb⟩; (try replace Na := Na.step bb); replace Ga := Ga.step bb; replace Gb := Gb.step bb; replace hu := hu.trans (bb.mono hu.size); replace hbc := boxc (box_step hb0 hu))
            | (go_at_call 59; (with_reducible refine (H5.out _ _ _ _ _ _ _ hu Na Nb).mono ?_); rintro e wd ⟨vd, rfl, Gd, bd⟩; replace Ga := Ga.step bd; replace Gb := Gb.step bd; replace hu := hu.trans (bd.mono hu.size)))
          all_goals (go_wp2_with fail; go_meet; exact ⟨Gd, Ga, Gb, hu⟩)
        case rest =>
          obtain ⟨Gd, Ga, Gb, hu⟩ := hcut
          clear hbc
          obtain ⟨Rd', kd, rfl, d1, d2, d3⟩ := Gd
          obtain ⟨Ra, ka, rfl, a1, a2, a3⟩ := Ga
          obtain ⟨Rb, kb, rfl, b1, b2, b3⟩ := Gb
          obtain ⟨q, hq⟩ : ∃ q, h + h = q := ⟨_, rfl⟩
          have hq2 : (2 : Int) * (h : Int) = (q : Int) := by omega
          have hPP := HP.out
          have hSS := HS.out
          obtain ⟨P3, h3⟩ : ∃ P3, (xl + xd) * (yl + yd) = P3 := ⟨_, rfl⟩
          obtain ⟨P1, h1⟩ : ∃ P1, xl * yl = P1 := ⟨_, rfl⟩
          obtain ⟨P2, h2⟩ : ∃ P2, xd * yd = P2 := ⟨_, rfl⟩
          rw [h3] at d1 d2
          rw [h1] at a1 a2
          rw [h2] at b1 b2
          rw [h1, h2, h3] at hPP hSS
          rw [hq] at hPP a3
          obtain ⟨Mi, hMi⟩ : ∃ Mi, P3 - P1 - P2 = Mi := ⟨_, rfl⟩
          rw [hMi] at hPP
          have hVK := HVK.out
          have hnn : ∀ k P, P < 18446744073709551616 ^ k → natOf (words k P) = P := fun k P hP => by rw [natOf_words, Nat.mod_eq_of_lt hP]
          have hK3 : q ≤ K := by omega
          have HA1 := Lib.hid (addAt_w w.heap.size K 0 0 ka P1 P1 Ra wc (own_step hown0 hu) a1 ka (by omega) hK2 a2 (by rw [Nat.pow_zero, Nat.one_mul, Nat.zero_add]) (by omega))
          have hrm := room_of Mi h K (by omega) (by omega)
          have Hrm := Lib.hid hrm
          have HPP := Lib.hid hPP
          have HMi := Lib.hid hMi
          have HSS := Lib.hid hSS
          have Hq := Lib.hid hq
          clear hPP hrm hMi hSS h1 h2 h3 HP HS H1 H2 H3 H4 H5 hVK hq
          go_wp2_with fail
          refine (HA1.out).mono ?_
          rintro e w2 ⟨rfl, ow2, hg2⟩
          have hBc : Below w.heap.size w wc := hbE.trans (hu.mono hbE.size)
          have hB2 := below_add hBc hg2 (Nat.le_refl _)
          have hsz2 : w.heap.size < w2.heap.size := by have := HEs.out; have := hu.size; have := hg2.size; omega
          replace a1 := a1.grown hg2
          replace b1 := b1.grown hg2
          replace d1 := d1.grown hg2
          have WO := without_any Rd' Ra Rb kd ka kb kd ka kb (words kd P3) (words ka P1) (words kb P2) w2 (length_words _ _) (length_words _ _) (length_words _ _) d1.rd (words_words _ _) (by rw [length_words]; omega) (by rw [length_words]; omega) a1.rd (words_words _ _) (by rw [length_words]; omega) (by rw [length_words]; omega) b1.rd (words_words _ _) (by rw [length_words]; omega) (by rw [length_words]; omega) (by rw [hnn _ _ a2, hnn _ _ b2, hnn _ _ d2]; exact HSS.out)
          rw [hnn _ _ a2, hnn _ _ b2, hnn _ _ d2, HMi.out] at WO
          have HWO := Lib.hid WO
          clear WO HA1 hnn
          go_wp2_with fail
          refine (HWO.out).mono ?_
          rintro e w3 ⟨v4, rfl, ho4, hb3⟩
          obtain ⟨R4, d4, rfl, hd4, _⟩ := own_form ho4
          have hB3 : Below w.heap.size w w3 := hB2.trans (hb3.mono hB2.size)
          have HA2 := Lib.hid (addAt_w w.heap.size K h P1 ((nbits Mi + 63) / 64) Mi (P1 + 18446744073709551616 ^ h * Mi) R4 w3 (own_step ow2 hb3) (Rdx.own ho4 hsz2) d4 Hrm.out hK2 (by rw [pow_64_2]; exact Nat.lt_of_lt_of_le (nbits_lt Mi) (Nat.pow_le_pow_right (by omega) (by omega))) rfl (by have := HVK.out; have := HPP.out; omega))
          replace b1 := b1.step hb3
          clear HWO
          go_wp2_with fail
          refine (HA2.out).mono ?_
          rintro e w4 ⟨rfl, ow4, hg4⟩
          have hB4 := below_add hB3 hg4 (Nat.le_refl _)
          replace b1 := b1.grown hg4
          have HA3 := Lib.hid (addAt_w w.heap.size K q (P1 + 18446744073709551616 ^ h * Mi) kb P2 V Rb w4 ow4 b1 kb (by have := Hq.out; omega) hK2 b2 HPP.out.symm HVK.out)
          clear HA2
          go_wp2_with fail
          refine (HA3.out).mono ?_
          rintro e w5 ⟨rfl, ow5, hg5⟩
          have hB5 := below_add hB4 hg5 (Nat.le_refl _)
          clear HA3 ow4 ow2
          go_wp2_with fail
          go_ret
          exact ⟨_, _, rfl, ow5, HVK.out, by have := HK.out; have := HM.out; omega, hB5⟩
end Go.Proofs.Ytekgoceainibaaa
/- Plain facts on products to the base 2: sums of columns, and what is carried. No condition but those typed; no program is named. -/
namespace Go.Proofs.Ytekgoceainibaaa
theorem bv_set (l : List Nat) (j d : Nat) (h : j < l.length) : bv (l.set j (nth l j + d)) = bv l + 2 ^ j * d := by
  induction l generalizing j with
  | nil => simp at h
  | cons x r ih =>
    cases j with
    | zero => simp [bv, nth]; omega
    | succ j =>
      have := ih j (by simpa using h)
      simp only [List.set_cons_succ, bv]
      rw [show nth (x :: r) (j + 1) = nth r j from rfl, this, Nat.pow_succ, Nat.mul_add, Nat.mul_comm (2 ^ j) 2, Nat.mul_assoc]
      omega
theorem bv_replicate (k : Nat) : bv (List.replicate k 0) = 0 := by
  induction k with
  | zero => rfl
  | succ k ih => simp [List.replicate_succ, bv, ih]
theorem bv_take_succ (l : List Nat) (k : Nat) (h : k < l.length) : bv (l.take (k + 1)) = bv (l.take k) + 2 ^ k * nth l k := by
  rw [List.take_succ_eq_append_getElem h, bv_append, List.length_take, Nat.min_eq_left (by omega), nth_eq l k h]
  simp [bv]
theorem bv_parts (l : List Nat) (k : Nat) : bv l = bv (l.take k) + 2 ^ k * bv (l.drop k) := by
  rcases Nat.lt_or_ge k l.length with h | h
  · conv => lhs; rw [← List.take_append_drop k l]
    rw [bv_append, List.length_take, Nat.min_eq_left (by omega)]
  · rw [List.take_of_length_le h, List.drop_eq_nil_of_le h]
    simp [bv]
/-- What is carried out of the first k columns. -/
def colC (l : List Nat) (k : Nat) : Nat := bv (l.take k) / 2 ^ k
theorem colC_zero (l : List Nat) : colC l 0 = 0 := by simp [colC, bv]
theorem colC_succ (l : List Nat) (k : Nat) (h : k < l.length) : colC l (k + 1) = (nth l k + colC l k) / 2 := by
  unfold colC
  rw [bv_take_succ l k h, Nat.pow_succ, ← Nat.div_div_eq_div_mul, Nat.add_mul_div_left _ _ (Nat.pow_pos (by omega))]
  congr 1
  omega
theorem col_bit (l : List Nat) (k : Nat) (h : k < l.length) : (nth l k + colC l k) % 2 = bit (bv l) k := by
  unfold bit colC
  have hp : 0 < 2 ^ k := Nat.pow_pos (by omega)
  have e : l.drop k = nth l k :: l.drop (k + 1) := by rw [nth_eq l k h]; exact List.drop_eq_getElem_cons h
  rw [bv_parts l k, Nat.add_mul_div_left _ _ hp, e, bv]
  omega
theorem colC_le (l : List Nat) (C k : Nat) (h : ∀ j, nth l j ≤ C) : colC l k ≤ C := by
  induction k with
  | zero => rw [colC_zero]; omega
  | succ k ih =>
    rcases Nat.lt_or_ge k l.length with hk | hk
    · rw [colC_succ l k hk]
      have := h k
      omega
    · unfold colC at *
      rw [List.take_of_length_le (by omega)]
      rw [List.take_of_length_le (by omega)] at ih
      rw [Nat.pow_succ, ← Nat.div_div_eq_div_mul]
      omega
/-- The columns when rows 0 to i - 1 are done, and k of row i. -/
structure Cols (M N i k : Nat) (l : List Nat) : Prop where
  len : l.length = nbits M + nbits N
  val : bv l = (M % 2 ^ i) * N + 2 ^ i * (bit M i * (N % 2 ^ k))
  low : ∀ j, nth l j ≤ i + 1
  high : ∀ j, i + k ≤ j → nth l j ≤ i
theorem nth_replicate (k j : Nat) : nth (List.replicate k 0) j = 0 := by
  unfold nth
  rw [List.getD_eq_getElem?_getD, List.getElem?_replicate]
  split <;> rfl
theorem Cols.start (M N : Nat) : Cols M N 0 0 (List.replicate (nbits M + nbits N) 0) where
  len := by simp
  val := by rw [bv_replicate]; simp [Nat.mod_one]
  low := fun j => by rw [nth_replicate]; omega
  high := fun j _ => by rw [nth_replicate]; omega
/-- A digit of b more, where a's is 1. -/
theorem Cols.step {M N i k : Nat} {l : List Nat} (h : Cols M N i k l) (h1 : bit M i = 1) (hik : i + k < l.length) : Cols M N i (k + 1) (l.set (i + k) (nth l (i + k) + bit N k)) where
  len := by rw [List.length_set]; exact h.len
  val := by
    rw [bv_set l _ _ hik, h.val, h1, low_bit, Nat.one_mul, Nat.one_mul, Nat.mul_add, Nat.pow_add, Nat.mul_assoc]
    omega
  low := fun j => by
    rw [nth_set l _ _ _ hik]
    have := h.high (i + k) (Nat.le_refl _)
    have hb := bit_lt N k
    have := h.low j
    split <;> omega
  high := fun j hj => by
    rw [nth_set l _ _ _ hik, if_neg (by omega)]
    exact h.high j (by omega)
/-- The row is done. -/
theorem Cols.row {M N i k : Nat} {l : List Nat} (h : Cols M N i k l) (hk : bit M i = 0 ∨ nbits N ≤ k) : Cols M N (i + 1) 0 l where
  len := h.len
  val := by
    rw [h.val, low_bit, Nat.pow_zero, Nat.mod_one, Nat.mul_zero, Nat.mul_zero, Nat.add_zero, Nat.add_mul]
    rcases hk with hk | hk
    · rw [hk]; simp
    · rw [Nat.mod_eq_of_lt (Nat.lt_of_lt_of_le (nbits_lt N) (Nat.pow_le_pow_right (by omega) hk)), Nat.mul_assoc]
  low := fun j => by have := h.low j; omega
  high := fun j _ => by have := h.low j; omega
theorem Cols.all {M N : Nat} {l : List Nat} (h : Cols M N (nbits M) 0 l) : bv l = M * N := by
  rw [h.val, Nat.mod_eq_of_lt (nbits_lt M), Nat.pow_zero, Nat.mod_one]
  simp
theorem prod_lt (M N : Nat) : M * N < 2 ^ (nbits M + nbits N) := by
  have h1 := nbits_lt M
  have h2 := nbits_lt N
  rw [Nat.pow_add]
  exact Nat.mul_lt_mul_of_lt_of_le h1 (Nat.le_of_lt h2) (Nat.pow_pos (by omega))
theorem nbits_mul (M N : Nat) : nbits (M * N) ≤ nbits M + nbits N := nbits_of_lt _ _ (prod_lt M N)
end Go.Proofs.Ytekgoceainibaaa
/- The contract of the document's Times: the product of two numbers to the base 2. Conditions: as typed (lengths that fit a machine). -/
namespace Go.Proofs.Ytekgoceainibaaa
open Go.RowKit
set_option maxRecDepth 20000
theorem num_info_int : (Try.prog.info? 3).map (fun i => (i.zero, i.size, i.bytes)) = some (some (.int .i64 0), 1, 8) := by kernel_rfl
theorem make_cols (m : Nat) (u : World) (hm : m ≤ 10000000) : (Instr.makeSlice 53 (.int .i64 (m : Int)) (.int .i64 (m : Int))).run Try.prog u =
      .ok (.slice (some ⟨u.heap.size, 0, none⟩) m m) (u.alloc (.cells (List.replicate m (Value.int .i64 0)).toArray 3)) := by
  obtain ⟨i0, hi, hz0, hz1, hz2⟩ := info_parts num_info_int
  have h := run_make (P := Try.prog) u 53 3 i0 (.int .i64 0) Try.underlying53 hi hz0 .i64 .i64 (m : Int) (m : Int) (by omega) (by omega) (by rw [hz2]; omega) (by omega)
  rw [Int.toNat_natCast, hz1, Nat.mul_one] at h
  rw [h, ← toList_madeCells_one]
  rfl
theorem cols_new (w : World) (m : Nat) (hm : m ≤ 10000000) : (w.alloc (.cells (Array.replicate m (Value.int .i64 0)) 3)).ownsRow w.heap.size 3 1 (.slice (some ⟨w.heap.size, 0, none⟩) m m) m (ints .i64 (List.replicate m 0)) :=
  own_of_heap (cur := List.replicate m (Value.int .i64 0)) (by have h := heap_alloc_new w (.cells (Array.replicate m (Value.int .i64 0)) 3); simpa using h) (Nat.le_refl _) (Nat.le_refl _) (by unfold maxLen; omega) (by simp) (by simp [ints])
set_option maxHeartbeats 2000000 in
theorem times02_any (A A2 : Option Addr) (c c2 M N : Nat) (w : World) (h1 : Rd .u8 w w.heap.size A (dg M)) (h2 : Rd .u8 w w.heap.size A2 (dg N)) (hm : nbits M ≤ 1000000) (hn : nbits N ≤ 1000000) :
    Calls Try.prog 17 #[.slice A (nbits M) c, .slice A2 (nbits N) c2] w (OutNum (M * N) w) := by
  obtain ⟨i0, hi, hz0, hz1, hz2⟩ := info_parts num_info_u8
  obtain ⟨L, hL⟩ : ∃ L, L = nbits M + nbits N := ⟨_, rfl⟩
  have HL := Lib.hid hL
  have hmk := fun u => make_cols L u (by omega)
  have hsum : (nbits M : Int) + (nbits N : Int) = (L : Int) := by omega
  have hL2 : L ≤ 2000000 := by omega
  clear hL
  go_enter Try.func17, Try.ntmps17
  go_wp2_with fail
  have hown0 := cols_new w L (by omega)
  obtain ⟨E, hE⟩ : ∃ E, w.alloc (.cells (Array.replicate L (Value.int .i64 0)) 3) = E := ⟨_, rfl⟩
  have hbE : Below w.heap.size w E := by rw [← hE]; exact (Below.refl _ w).alloc (Nat.le_refl _) _
  rw [hE] at hown0 ⊢
  have hC0 := Cols.start M N
  rw [← HL.out] at hC0
  clear hmk hE
  go_loopw [6] (fun v wr => ∃ (I : Nat) (cs : List Nat), I ≤ nbits M ∧ v = .int .i64 I ∧ Cols M N I 0 cs ∧ wr.ownsRow w.heap.size 3 1 (.slice (some ⟨w.heap.size, 0, none⟩) L L) L (ints .i64 cs) ∧ Below w.heap.size w wr) (fun v _ => nbits M - (intOf v).toNat)
  case atStart => exact ⟨0, _, Nat.zero_le _, rfl, hC0, hown0, hbE⟩
  case round =>
    obtain ⟨I, cs, hI, rfl, hC, hown, hb⟩ := hrel
    by_cases hlt : I < nbits M
    · obtain ⟨wo, hwo⟩ : ∃ wo : World, wo = wr := ⟨_, rfl⟩
      subst hwo
      obtain ⟨b1, o1, rfl, hb1, hcell1⟩ := h1 (by rw [length_dg]; omega)
      have hx1 := hcell1 I (by rw [length_dg]; exact hlt)
      rw [nth_dg_bit] at hx1
      have Hx1 := Lib.hid hx1
      have hbM := bit_lt M I
      clear hcell1 hx1 hC0 hown0 hbE
      go_wp2_with fail
      go_loopw [7] (fun v wr => ∃ (K : Nat) (cs : List Nat), K ≤ nbits N ∧ v = .int .i64 K ∧ Cols M N I K cs ∧ wr.ownsRow w.heap.size 3 1 (.slice (some ⟨w.heap.size, 0, none⟩) L L) L (ints .i64 cs) ∧ Below w.heap.size w wr) (fun v _ => nbits N - (intOf v).toNat)
      case atStart => exact ⟨0, _, Nat.zero_le _, rfl, hC, hown, hb⟩
      case round =>
        obtain ⟨K, cs2, hK, rfl, hC2, hown2, hb2⟩ := hrel
        have hxa : wr.cell? ⟨b1, o1 + I, none⟩ = some (.int .u8 (bit M I : Int)) := (hb2.cell (p := ⟨b1, o1 + I, none⟩) hb1).trans Hx1.out
        by_cases hkn : K < nbits N
        · by_cases h01 : bit M I = 1
          · rw [h01] at hxa
            obtain ⟨b2, o2, rfl, hbb2, hcell2⟩ := h2 (by rw [length_dg]; omega)
            have hx2 := hcell2 K (by rw [length_dg]; exact hkn)
            rw [nth_dg_bit] at hx2
            have hxb : wr.cell? ⟨b2, o2 + K, none⟩ = some (.int .u8 (bit N K : Int)) := (hb2.cell (p := ⟨b2, o2 + K, none⟩) hbb2).trans hx2
            have hll : cs2.length = L := by rw [hC2.len, HL.out]
            have hIK : I + K < L := by have := HL.out; omega
            have hst := hown2.stored (I + K) (.int .i64 ((nth cs2 (I + K) + bit N K : Nat) : Int))
            rw [ints_set] at hst
            have hco : wr.cell? ⟨w.heap.size, I + K, none⟩ = some (.int .i64 (nth cs2 (I + K) : Int)) := by rw [hown2.cellAt _ (by omega), ints_get _ _ _ (by omega)]
            have hfo : wr.frozen? ⟨w.heap.size, I + K, none⟩ = false := hown2.frozenAt _
            have hlow := hC2.low (I + K)
            have hbN := bit_lt N K
            have HC := Lib.hid (hC2.step h01 (by omega))
            have HO := Lib.hid hst.1
            clear hst hown2 hcell2 hx2 hC2 h01 hbM hll
            go_wp2_with fail
            go_region
            go_wp2_with fail
            rw [show (nth cs2 (I + K) : Int) + (bit N K : Int) = ((nth cs2 (I + K) + bit N K : Nat) : Int) from (Int.natCast_add _ _).symm]
            go_roundw
            case rel => exact ⟨K + 1, _, by omega, by go_num, HC.out, HO.out.drew, (hb2.setCell (p := ⟨w.heap.size, I + K, none⟩) (by simp) _).drew⟩
            case measure => simp [intOf]; omega
          · have hb0 : (((bit M I : Nat) : Int) == 1) = false := by simp; omega
            have HR := Lib.hid (hC2.row (.inl (by omega)))
            clear hC2 h01
            go_wp2_with fail
            go_roundw
            case rel => exact ⟨I + 1, _, by omega, by go_num, HR.out, hown2, hb2⟩
            case measure => simp [intOf]; omega
        · have HR := Lib.hid (hC2.row (.inr (by omega)))
          clear hC2
          go_wp2_with fail
          go_roundw
          case rel => exact ⟨I + 1, _, by omega, by go_num, HR.out, hown2, hb2⟩
          case measure => simp [intOf]; omega
    · obtain rfl : I = nbits M := by omega
      obtain ⟨wo, hwo⟩ : ∃ wo : World, wo = wr := ⟨_, rfl⟩
      subst hwo
      have hll : cs.length = L := by rw [hC.len, HL.out]
      have HV := Lib.hid hC.all
      have hCl := hC.low
      have HCl := Lib.hid hCl
      clear hC0 hown0 hbE hlt hC hCl
      go_wp2_with fail
      go_loopw [8, 9, 10] (fun v cy j wr => ∃ i : Nat, i ≤ L ∧ j = .int .i64 i ∧ cy = .int .i64 (colC cs i) ∧ wr.ownsRow wo.heap.size 5 1 v i (ints .u8 (bw i (M * N))) ∧ Below wo.heap.size wo wr) (fun _ _ j _ => L - (intOf j).toNat)
      case atStart => exact ⟨0, Nat.zero_le _, rfl, by rw [colC_zero]; rfl, World.ownsRow_nil _ _ _ _, Below.refl _ _⟩
      case round =>
        obtain ⟨i, hi9, rfl, rfl, hown3, hb3⟩ := hrel
        by_cases hlt : i < L
        · have hgs : w.heap.size < wo.heap.size := by have := (hown.lt w.heap.size rfl).2; exact this
          have hco : wr.cell? ⟨w.heap.size, i, none⟩ = some (.int .i64 (nth cs i : Int)) := by
            rw [hb3.cell (p := ⟨w.heap.size, i, none⟩) hgs, hown.cellAt _ (by omega), ints_get _ _ _ (by omega)]
          have hc1 := HCl.out i
          have hc2 := colC_le cs (nbits M + 1) i HCl.out
          have Hs1 := Lib.hid (col_bit cs i (by omega))
          have Hs2 := Lib.hid (colC_succ cs i (by omega))
          go_wp2_with (at_builtin; refine wpList_append_one _ rfl _ _ 31 rfl wo.heap.size 5 i0 (.int .u8 0) 1 Try.underlying31 hi hz0 hz1 hz2 rfl _ _ .u8 (bw i (M * N)) rfl hown3 _ (bit (M * N) i) ?c1 rfl ?c2 ?c3 ?c4 ?_)
          case c1 => rw [← HV.out, ← Hs1.out]; omega
          case c2 => unfold maxLen; omega
          case c3 => omega
          case c4 => exact hb3.size
          intro v2 w2 own2 _ b2
          rw [show bit (M * N) i = (M * N) / 2 ^ i % 2 from rfl, ← bw_snoc] at own2
          go_wp2_with fail
          go_roundw
          case rel => exact ⟨i + 1, by omega, by go_num, by rw [Hs2.out]; congr 1 <;> omega, own2, hb3.trans b2⟩
          case measure => simp [intOf]; omega
        · obtain rfl : i = L := by omega
          have hend := prod_lt M N
          rw [← HL.out] at hend
          have hnbS := nbits_of_lt _ _ hend
          obtain ⟨X, d, rfl, hd, _⟩ := own_form hown3
          have R1 := Rd.own hown3
          have T := numTrim_any X d (bw i (M * N)) wr R1 (bw_01 _ _) (by rw [length_bw]; omega) (by rw [length_bw]; exact hd)
          rw [length_bw, bv_bw, Nat.mod_eq_of_lt hend] at T
          have HT := Lib.hid T
          clear T R1 hown3 hend
          go_wp2_with fail
          refine (HT.out).mono ?_
          rintro e w1 ⟨Y, f, rfl, hf, R, b1⟩
          go_wp2_with fail
          go_ret
          exact ⟨Y, f, rfl, hf, R, (hb.trans (hb3.mono hb.size)).trans (b1.mono (Nat.le_trans hb.size hb3.size))⟩
end Go.Proofs.Ytekgoceainibaaa
/- The contract of the document's Power of chapter 3. Conditions: as typed (lengths that fit a machine). -/
namespace Go.Proofs.Ytekgoceainibaaa
open Go.RowKit
set_option maxRecDepth 20000
theorem nbits_pow (N i : Nat) : nbits (N ^ i) ≤ nbits N * i + 1 := by
  refine nbits_of_lt _ _ ?_
  have h := nbits_lt N
  have h1 : N ^ i ≤ (2 ^ nbits N) ^ i := Nat.pow_le_pow_left (Nat.le_of_lt h) i
  rw [← Nat.pow_mul] at h1
  rw [Nat.pow_succ]
  have : 0 < 2 ^ (nbits N * i) := Nat.pow_pos (by omega)
  omega
theorem nbits_one : nbits 1 = 1 := nbits_eq 1 1 (by omega) (by intro _; simp)
theorem dg_one : dg 1 = [1] := by simp [dg, nbits_one, bw]
theorem nbits_iff (N : Nat) : 0 < nbits N ↔ N ≠ 0 := by
  constructor
  · intro h h0; rw [h0, nbits_zero] at h; omega
  · intro h
    rcases Nat.eq_zero_or_pos (nbits N) with h1 | h1
    · have := nbits_lt N; rw [h1] at this; simp at this; omega
    · exact h1
section
variable (A : Option Addr) (c : Nat) (a : List Nat) (w : World) (hr : Rd .u64 w w.heap.size A a) (hw : Words a) (hl : a.length ≤ 10000)
include hr hw hl
end
end Go.Proofs.Ytekgoceainibaaa
/- mul.product, Mul, Square. Conditions: as typed (lengths that fit a machine). -/
namespace Go.Proofs.Ytekgoceainibaaa
open Go.RowKit
set_option maxRecDepth 20000
theorem times_all (G t N : Nat) : TimesTo G t N := by
  induction N with
  | zero => intro A A2 c c2 n m a b w _ _ h; omega
  | succ N ih =>
    intro A A2 c c2 n m a b w hn hm hN hl hl2 hc hc2 hw hw2 hr hr2 hb
    subst hn
    subst hm
    exact times_step G t N ih A A2 c c2 a b w (by omega) hl hl2 hc hc2 hw hw2 hr hr2 hb
section
variable (A A2 : Option Addr) (c c2 : Nat) (a b : List Nat) (w : World) (hr : Rd .u64 w w.heap.size A a) (hw : Words a) (hl : a.length ≤ 10000) (hc : a.length ≤ c) (hr2 : Rd .u64 w w.heap.size A2 b) (hw2 : Words b) (hl2 : b.length ≤ 10000) (hc2 : b.length ≤ c2)
include hr hw hl hc hr2 hw2 hl2 hc2
set_option maxHeartbeats 1000000 in
theorem product_any : Calls Try.prog 44 #[.slice A a.length c, .slice A2 b.length c2] w (OutTimes (natOf a * natOf b) (a.length + b.length) w) := by
  have b1 : Below w.heap.size w (w.alloc (.cells #[tfn w.heap.size] 36)) := (Below.refl _ w).alloc (Nat.le_refl _) _
  have T := times_all w.heap.size 36 (a.length + b.length + 1) A A2 c c2 a.length b.length a b (w.alloc (.cells #[tfn w.heap.size] 36)) rfl rfl (Nat.lt_succ_self _) hl hl2 hc hc2 hw hw2 ((hr.below b1).more b1.size) ((hr2.below b1).more b1.size) (Boxed.new w _ _)
  rw [tfn] at T b1
  have hbx := Boxed.new w 36 .nilFunc
  have hco := hbx.cell
  have hfo := hbx.frozen
  have HT := Lib.hid T
  clear T hr hr2 hw hw2
  go_enter Try.func44, Try.ntmps44
  go_wp2_with fail
  refine (HT.out).mono ?_
  rintro e w1 ⟨R, K, rfl, ho, hV, hK, hb⟩
  have HO := Lib.hid (own_base ho b1.size)
  have HV := Lib.hid hV
  clear ho hV HT
  go_wp2_with fail
  go_ret
  exact ⟨R, K, rfl, HO.out, HV.out, hK, b1.trans (hb.mono b1.size)⟩
theorem mulMul_pf : Calls Try.prog 23 #[.slice A a.length c, .slice A2 b.length c2] w (OutNat (natOf a * natOf b) w) := by
  have P := Lib.hid (product_any A A2 c c2 a b w hr hw hl hc hr2 hw2 hl2 hc2)
  obtain ⟨M, hM⟩ : ∃ M, a.length + b.length = M := ⟨_, rfl⟩
  rw [hM] at P
  have hM2 : M ≤ 20000 := by omega
  clear hr hr2 hw hw2 hM
  go_enter Try.func23, Try.ntmps23
  go_wp2_with fail
  refine (P.out).mono ?_
  rintro e w1 ⟨R, K, rfl, ho, hV, hK, hb⟩
  have T := mtrim_any R K (words K (natOf a * natOf b)) w1 w1.heap.size (Rd.own ho) (words_words _ _) (by rw [length_words]; omega) (by rw [length_words]; exact Nat.le_refl _)
  rw [length_words, tl_words K _ hV] at T
  have HT := Lib.hid T
  have HO := Lib.hid (own_trim ho hV)
  clear T ho hV P
  go_wp2_with fail
  refine (HT.out).mono ?_
  rintro e w' ⟨rfl, rfl⟩
  go_wp2_with fail
  go_ret
  exact ⟨_, rfl, HO.out, hb⟩
omit hr2 hw2 hl2 hc2
theorem mulSquare_pf : Calls Try.prog 22 #[.slice A a.length c] w (OutNat (natOf a * natOf a) w) := by
  have M := Lib.hid (mulMul_pf A A c c a a w hr hw hl hc hr hw hl hc)
  clear hr hw
  go_enter Try.func22, Try.ntmps22
  go_wp2_with fail
  refine (M.out).mono ?_
  rintro e w1 ⟨v, rfl, ho, hb⟩
  obtain ⟨R, d, rfl, hd, _⟩ := own_form ho
  have HO := Lib.hid ho
  clear ho M
  go_wp2_with fail
  go_ret
  exact ⟨_, rfl, HO.out, hb⟩
end
end Go.Proofs.Ytekgoceainibaaa
/- mul.Power. Conditions: as typed (lengths that fit a machine). -/
namespace Go.Proofs.Ytekgoceainibaaa
open Go.RowKit
set_option maxRecDepth 20000
section
variable (A : Option Addr) (c : Nat) (a : List Nat) (w : World) (hr : Rd .u64 w w.heap.size A a) (hw : Words a) (hl : a.length ≤ 10000) (hc : a.length ≤ c)
include hr hw hl hc
end
end Go.Proofs.Ytekgoceainibaaa
/- mul's contracts, as laws use them. Conditions: as typed (lengths that fit a machine, a capacity that is not below its length). -/
namespace Go.Proofs.Ytekgoceainibaaa
open Go.RowKit
set_option maxRecDepth 20000
section
variable (A A2 : Option Addr) (c c2 : Nat) (a b : List Nat) (w : World) (hr : Rd .u64 w w.heap.size A a) (hw : Words a) (hl : a.length ≤ 10000) (hc : a.length ≤ c) (hr2 : Rd .u64 w w.heap.size A2 b) (hw2 : Words b) (hl2 : b.length ≤ 10000) (hc2 : b.length ≤ c2)
include hr hw hl hc
theorem mulSquare_any : Calls Try.prog 22 #[.slice A a.length c] w (OutNat (natOf a * natOf a) w) := mulSquare_pf A c a w hr hw hl hc
include hr2 hw2 hl2 hc2
theorem mulMul_any : Calls Try.prog 23 #[.slice A a.length c, .slice A2 b.length c2] w (OutNat (natOf a * natOf b) w) := mulMul_pf A A2 c c2 a b w hr hw hl hc hr2 hw2 hl2 hc2
end
end Go.Proofs.Ytekgoceainibaaa
/- mul's contracts in the form that laws use: a slice of words stands for a number. Conditions: as typed. -/
namespace Go.Proofs.Ytekgoceainibaaa
open Go.RowKit
set_option maxRecDepth 20000
section
variable {w : World} {A A2 : Option Addr} {n m c c2 M N d d2 : Nat}
theorem bMul (h : NatIn w A n c M) (k : NatIn w A2 m c2 N) (hs : n ≤ 10000) (hs2 : m ≤ 10000) : Calls Try.prog 23 #[.slice A n c, .slice A2 m c2] w (OutN (M * N) w) := by
  have hb := h.bits
  have kb := k.bits
  have hk := nbits_mul M N
  obtain ⟨l, rfl, rfl, h3, h4, h5, h6⟩ := h
  obtain ⟨l2, rfl, rfl, k3, k4, k5, k6⟩ := k
  exact Calls.mono (mulMul_any A A2 c c2 l l2 w h5 h3 hs h6 k5 k3 hs2 k6) fun _ _ h => h.out (by omega)
theorem bSquare (h : NatIn w A n c M) (hs : n ≤ 10000) : Calls Try.prog 22 #[.slice A n c] w (OutN (M * M) w) := by
  have hb := h.bits
  have hk := nbits_mul M M
  obtain ⟨l, rfl, rfl, h3, h4, h5, h6⟩ := h
  exact Calls.mono (mulSquare_any A c l w h5 h3 hs h6) fun _ _ h => h.out (by omega)
theorem bTimes (h : NumIs w A n d M) (k : NumIs w A2 m d2 N) (hs : n ≤ 1000000) (hs2 : m ≤ 1000000) : Calls Try.prog 17 #[.slice A n d, .slice A2 m d2] w (OutD (M * N) w) := by
  obtain ⟨rfl, h2, h3, h4⟩ := h
  obtain ⟨rfl, k2, k3, k4⟩ := k
  have := nbits_mul M N
  exact Calls.mono (times02_any A A2 d d2 M N w h4 k4 hs hs2) fun _ _ h => h.out (by omega)
end
theorem natIn_lit (w : World) (l : List Nat) (hl : Words l) (hn : l.length ≤ 50000) : NatIn (w.alloc (.cells (ints .u64 l).toArray 40)) (some ⟨w.heap.size, 0, none⟩) l.length l.length (natOf l) :=
  ⟨l, rfl, rfl, hl, hn, (Rd.lit w .u64 40 l).more (by simp), Nat.le_refl _⟩
theorem natIn_one (w : World) : NatIn (w.alloc (.cells #[.int .u64 1] 40)) (some ⟨w.heap.size, 0, none⟩) 1 1 1 := natIn_lit w [1] (by intro x hx; simp at hx; omega) (by simp)
theorem natIn_nil (w : World) : NatIn w none 0 0 0 := ⟨[], rfl, rfl, (by intro x hx; cases hx), by omega, Rd.nil, Nat.le_refl _⟩
/-- A result whose words are known. -/
theorem NatIs.lit {w : World} {X : Option Addr} {q d N : Nat} (h : NatIs w X q d N) (l : List Nat) (e : wd N = l) : q = l.length ∧ Rd .u64 w w.heap.size X l := ⟨by rw [← h.1, e], by rw [← e]; exact h.2.2.1⟩
theorem natIs_eq {w : World} {X : Option Addr} {q d M N : Nat} (h : NatIs w X q d M) (e : M = N) : NatIs w X q d N := e ▸ h
theorem cmpS_same (M : Nat) : cmpS M M = 0 := by simp [cmpS]
theorem cmp_same {w : World} {A A2 : Option Addr} {n m c c2 M N : Nat} (h : NatIn w A n c M) (k : NatIn w A2 m c2 N) (e : M = N) : Calls Try.prog 21 #[.slice A n c, .slice A2 m c2] w fun e w' => e = .returned (.int .i64 0) ∧ Below w.heap.size w w' := by
  have h := bCmp h k
  rwa [e, cmpS_same] at h
theorem sub_is {w : World} {A A2 : Option Addr} {n m c c2 M N : Nat} (h : NatIn w A n c M) (k : NatIn w A2 m c2 N) (hle : N ≤ M) : Calls Try.prog 24 #[.slice A n c, .slice A2 m c2] w fun e w' =>
    ∃ X q d, e = .returned (.tuple #[.slice X q d, .bool true]) ∧ NatIs w' X q d (M - N) ∧ Below w.heap.size w w' :=
  Calls.mono (bSub_yes h k hle) fun _ _ ⟨X, q, d, he, h1, _, hb⟩ => ⟨X, q, d, he, h1, hb⟩
section
variable {w : World} {A : Option Addr} {c : Nat} {l : List Nat}
end
/-! The examples -/
end Go.Proofs.Ytekgoceainibaaa
/- The contract of the document's Div of chapter 4, and words for what divisions answer. Conditions: as typed (lengths that fit a machine). -/
namespace Go.Proofs.Ytekgoceainibaaa
open Go.RowKit
set_option maxRecDepth 20000
/-- Nothing twice, and an error's number. -/
def OutErr3 (x : Int) (w : World) (e : Ending) (w' : World) : Prop := ∃ X d Y f, e = .returned (.tuple #[.slice X 0 d, .slice Y 0 f, .int .i64 x]) ∧ Below w.heap.size w w'
/-- How often, and what is left. -/
def OutDiv (M N : Nat) (w : World) (e : Ending) (w' : World) : Prop := ∃ X q d Y r f, e = .returned (.tuple #[.slice X q d, .slice Y r f, .int .i64 0]) ∧ NatIs w' X q d (M / N) ∧ NatIs w' Y r f (M % N) ∧ Below w.heap.size w w'
/-- How often one word goes into a number, and what is left. -/
def OutWord (M x : Nat) (w : World) (e : Ending) (w' : World) : Prop := ∃ X q d, e = .returned (.tuple #[.slice X q d, .int .u64 (M % x : Nat), .int .i64 0]) ∧ NatIs w' X q d (M / x) ∧ Below w.heap.size w w'
def OutWordE (w : World) (e : Ending) (w' : World) : Prop := ∃ X d, e = .returned (.tuple #[.slice X 0 d, .int .u64 0, .int .i64 5]) ∧ Below w.heap.size w w'
section
variable (A A2 : Option Addr) (c c2 : Nat) (a b : List Nat) (w : World) (hr : Rd .u64 w w.heap.size A a) (hw : Words a) (hl : a.length ≤ 10000) (hr2 : Rd .u64 w w.heap.size A2 b) (hw2 : Words b) (hl2 : b.length ≤ 10000)
include hr2 hw2 hl2
include hr hw hl
end
end Go.Proofs.Ytekgoceainibaaa
/- div.Word: by one word. Conditions: as typed (a length that fits a machine). -/
namespace Go.Proofs.Ytekgoceainibaaa
open Go.RowKit Go.Shelf
set_option maxRecDepth 20000
attribute [local go_sem] Oper.semAt_some
/-- The words of a number from place i on, and noughts below. -/
def tops (n N i : Nat) : List Nat := List.replicate i 0 ++ (words n N).drop i
theorem length_tops (n N i : Nat) (h : i ≤ n) : (tops n N i).length = n := by simp [tops, length_words]; omega
theorem tops_start (n N : Nat) : tops n N n = List.replicate n 0 := by simp [tops, length_words]
theorem tops_end (n N : Nat) : tops n N 0 = words n N := by simp [tops]
theorem tops_set (n N i : Nat) (h : i < n) : (tops n N (i + 1)).set i (N / 18446744073709551616 ^ i % 18446744073709551616) = tops n N i := by
  refine ext_nth _ _ (by rw [List.length_set, length_tops _ _ _ (by omega), length_tops _ _ _ (by omega)]) fun j hj => ?_
  rw [List.length_set, length_tops _ _ _ (by omega)] at hj
  rw [nth_set _ _ _ _ (by rw [length_tops _ _ _ (by omega)]; omega)]
  have h1 : ∀ i, i ≤ n → nth (tops n N i) j = if j < i then 0 else N / 18446744073709551616 ^ j % 18446744073709551616 := fun i hi => by
    have hw := nth_words n N j hj
    unfold nth tops at *
    by_cases hji : j < i
    · simp [List.getElem?_append, hji]
    · rw [List.getD_eq_getElem?_getD, List.getElem?_append_right (by simp; omega)] at *
      rw [if_neg hji, ← hw]
      simp
      congr 2
      omega
  rw [h1 _ (by omega), h1 _ (by omega)]
  by_cases hji : j = i
  · subst hji
    rw [if_pos rfl, if_neg (by omega)]
  · rw [if_neg hji]
    by_cases hlt : j < i
    · rw [if_pos hlt, if_pos (by omega)]
    · rw [if_neg hlt, if_neg (by omega)]
theorem word_place (A b i : Nat) (hb : 0 < b) : ∃ q r, (A / 18446744073709551616 ^ (i + 1) % b * 18446744073709551616 + A / 18446744073709551616 ^ i % 18446744073709551616) / b = q ∧
    (A / 18446744073709551616 ^ (i + 1) % b * 18446744073709551616 + A / 18446744073709551616 ^ i % 18446744073709551616) % b = r ∧ q = A / b / 18446744073709551616 ^ i % 18446744073709551616 ∧ r = A / 18446744073709551616 ^ i % b := by
  refine ⟨_, _, rfl, rfl, ?_, ?_⟩
  · have e : A / b / 18446744073709551616 ^ i = A / 18446744073709551616 ^ i / b := by rw [Nat.div_div_eq_div_mul, Nat.mul_comm, ← Nat.div_div_eq_div_mul]
    rw [e]
    obtain ⟨M, hM⟩ : ∃ M, A / 18446744073709551616 ^ i = M := ⟨_, rfl⟩
    have e2 : A / 18446744073709551616 ^ (i + 1) = M / 18446744073709551616 := by rw [Nat.pow_succ, ← Nat.div_div_eq_div_mul, hM]
    rw [e2, hM]
    have hMd := Nat.div_add_mod M 18446744073709551616
    obtain ⟨h1, h2⟩ := long_div (M / 18446744073709551616) b 18446744073709551616 (M % 18446744073709551616) hb
    obtain ⟨h3, h4⟩ := place_step (M / 18446744073709551616 % b) b 18446744073709551616 (M % 18446744073709551616) hb (Nat.mod_lt _ hb) (Nat.mod_lt _ (by omega))
    have e3 : M / 18446744073709551616 * 18446744073709551616 + M % 18446744073709551616 = M := by omega
    rw [e3] at h1
    rw [h1]
    generalize (M / 18446744073709551616 % b * 18446744073709551616 + M % 18446744073709551616) / b = v at *
    generalize M / 18446744073709551616 / b = u at *
    clear h1 h2 h4 e3 hMd e2 e hM
    omega
  · obtain ⟨M, hM⟩ : ∃ M, A / 18446744073709551616 ^ i = M := ⟨_, rfl⟩
    have e2 : A / 18446744073709551616 ^ (i + 1) = M / 18446744073709551616 := by rw [Nat.pow_succ, ← Nat.div_div_eq_div_mul, hM]
    rw [e2, hM]
    have hMd := Nat.div_add_mod M 18446744073709551616
    obtain ⟨h1, h2⟩ := long_div (M / 18446744073709551616) b 18446744073709551616 (M % 18446744073709551616) hb
    have e3 : M / 18446744073709551616 * 18446744073709551616 + M % 18446744073709551616 = M := by omega
    rw [e3] at h2
    exact h2.symm
theorem divWord_zero_pf (A : Option Addr) (n c : Nat) (w : World) : Calls Try.prog 31 #[.slice A n c, .int .u64 0] w (OutWordE w) := by
  go_enter Try.func31, Try.ntmps31
  go_wp2_with fail
  have bq := Boxed.new (w.alloc (.cells #[.int .u64 0] 40)) 23 (.slice none 0 0)
  have br := Boxed.new ((w.alloc (.cells #[.int .u64 0] 40)).alloc (.cells #[.slice none 0 0] 23)) 40 (.int .u64 0)
  simp only [World.size_alloc] at bq br
  have hc1 := (bq.alloc (.cells #[.int .u64 0] 40)).cell
  have hc2 := br.cell
  refine bodyPost_ret (v := .tuple #[.slice none 0 0, .int .u64 0, .int .i64 5]) ?_ rfl ?_
  · simp [results, Try.f31, go_sem, hc1, hc2]
  · exact ⟨none, 0, rfl, (((Below.refl _ w).alloc (Nat.le_refl _) _).alloc (by simp) _).alloc (by simp; omega) _⟩
theorem dtrim_own (w : World) (base c k N : Nat) (A : Option Addr) (h : w.ownsRow base 40 1 (.slice A k c) k (ints .u64 (words k N))) (hN : N < 18446744073709551616 ^ k) (hk : k ≤ 1000000) (hc : k ≤ c) :
    Calls Try.prog 53 #[.slice A k c] w fun e w' => e = .returned (.slice A ((nbits N + 63) / 64) c) ∧ w = w' := by
  have T := dtrim_any A c (words k N) w w.heap.size (Rd.own h) (words_words _ _) (by rw [length_words]; exact hk) (by rw [length_words]; exact hc)
  rwa [length_words, tl_words k N hN] at T
/-- Between two rounds of Word: so many places are made, and what is left. -/
structure WordMid (w : World) (n x r : Nat) (Q : List Nat) (W : World) : Prop where
  bx : Boxed W w.heap.size 40 (.int .u64 (x : Int))
  q : Boxed W (w.heap.size + 1) 23 (.slice (some ⟨w.heap.size + 1 + 1 + 1, 0, none⟩) n n)
  r : Boxed W (w.heap.size + 1 + 1) 40 (.int .u64 (r : Int))
  row : W.ownsRow (w.heap.size + 1 + 1 + 1) 40 1 (.slice (some ⟨w.heap.size + 1 + 1 + 1, 0, none⟩) n n) n (ints .u64 Q)
  below : Below w.heap.size w W
  size : w.heap.size + 5 ≤ W.heap.size
theorem WordMid.kept {w W W' : World} {n x r : Nat} {Q : List Nat} {row : Option Nat} (h : WordMid w n x r Q W) (hg : W.grownBy W' row) (hr : ∀ k, row = some k → w.heap.size + 5 ≤ k) : WordMid w n x r Q W' where
  bx := h.bx.kept hg (by intro e; have := hr _ e.symm; omega)
  q := h.q.kept hg (by intro e; have := hr _ e.symm; omega)
  r := h.r.kept hg (by intro e; have := hr _ e.symm; omega)
  row := h.row.kept hg (.inr (by intro e; have := hr _ e.symm; dsimp only at this; omega))
  below := h.below.grown hg h.below.size (fun k e => by have := hr k e; omega)
  size := Nat.le_trans h.size hg.size
theorem WordMid.step {w W : World} {n x r r' : Nat} {Q : List Nat} (h : WordMid w n x r Q W) (i d : Nat) :
    WordMid w n x r' (Q.set i d) ((W.setCell ⟨w.heap.size + 1 + 1 + 1, i, none⟩ (.int .u64 (d : Int))).setCell ⟨w.heap.size + 1 + 1, 0, none⟩ (.int .u64 (r' : Int))) ∧
    (∀ p, w.heap.size + 4 ≤ p → ((W.setCell ⟨w.heap.size + 1 + 1 + 1, i, none⟩ (.int .u64 (d : Int))).setCell ⟨w.heap.size + 1 + 1, 0, none⟩ (.int .u64 (r' : Int))).heap[p]? = W.heap[p]?) := by
  have g1 := grownBy_setCell' W (w.heap.size + 1 + 1) (.int .u64 (r' : Int))
  have hst := h.row.stored i (.int .u64 (d : Int))
  rw [ints_set] at hst
  obtain ⟨hrow, hg⟩ := hst
  have g2 := grownBy_setCell' (W.setCell ⟨w.heap.size + 1 + 1 + 1, i, none⟩ (.int .u64 (d : Int))) (w.heap.size + 1 + 1) (.int .u64 (r' : Int))
  have hs1 : (W.setCell ⟨w.heap.size + 1 + 1 + 1, i, none⟩ (.int .u64 (d : Int))).heap.size = W.heap.size := by simp [World.setCell]
  have hs2 : ((W.setCell ⟨w.heap.size + 1 + 1 + 1, i, none⟩ (.int .u64 (d : Int))).setCell ⟨w.heap.size + 1 + 1, 0, none⟩ (.int .u64 (r' : Int))).heap.size = W.heap.size := by simp [World.setCell]
  refine ⟨⟨(h.bx.kept hg (by simp; omega)).kept g2 (by simp; omega), (h.q.kept hg (by simp)).kept g2 (by simp), (h.r.kept hg (by simp)).set _, hrow.kept g2 (.inr (by simp [Value.ownBlock])), (h.below.setCell (p := ⟨w.heap.size + 1 + 1 + 1, i, none⟩) (by simp; omega) _).setCell (p := ⟨w.heap.size + 1 + 1, 0, none⟩) (by simp; omega) _, by rw [hs2]; exact h.size⟩, ?_⟩
  intro p hp
  rcases Nat.lt_or_ge p W.heap.size with hlt | hge
  · rw [g2.block p (by rw [hs1]; exact hlt) (by simp; omega), hg.block p hlt (by simp; omega)]
  · rw [Array.getElem?_eq_none (by rw [hs2]; exact hge), Array.getElem?_eq_none hge]
set_option maxRecDepth 100000 in
set_option maxHeartbeats 2000000 in
theorem divWord_ok_pf (A : Option Addr) (n c x : Nat) (a : List Nat) (w : World) (hn : a.length = n) (hr : Rd .u64 w w.heap.size A a) (hw : Words a) (hl : n ≤ 10000) (_ : n ≤ c) (hx : 0 < x) (hx2 : x < 18446744073709551616) :
    Calls Try.prog 31 #[.slice A n c, .int .u64 (x : Int)] w (OutWord (natOf a) x w) := by
  have hx0 : ((x : Int) == 0) = false := by simp; omega
  have Hn := Lib.hid hn
  have hmk := fun u => make_row n u (by omega)
  clear hn
  refine (callsIn_wide (n := 9)).1 ?_
  refine callsIn_of_wp_marks Try.func31 rfl trivial ?_ rfl
  simp only [Try.ntmps31, List.size_toArray, List.length_cons, List.length_nil, Nat.reduceAdd, Nat.reduceSub, Array.replicate_succ, Array.replicate_zero, List.push_toArray, List.append_toArray, List.nil_append, List.cons_append]
  gi_wp2
  refine ⟨trivial, ?_⟩
  refine (back_in _ _ _ _ _).mono ?_
  rintro e w' ⟨rfl, rfl⟩
  have hown0 := row_zero (((w.alloc (.cells #[.int .u64 (x : Int)] 40)).alloc (.cells #[.slice (some ⟨w.heap.size + 1 + 1 + 1, 0, none⟩) n n] 23)).alloc (.cells #[.int .u64 0] 40)) n (by omega)
  have b1 := Boxed.new w 40 (.int .u64 (x : Int))
  have b2 := Boxed.new (w.alloc (.cells #[.int .u64 (x : Int)] 40)) 23 (.slice (some ⟨w.heap.size + 1 + 1 + 1, 0, none⟩) n n)
  have b3 := Boxed.new ((w.alloc (.cells #[.int .u64 (x : Int)] 40)).alloc (.cells #[.slice (some ⟨w.heap.size + 1 + 1 + 1, 0, none⟩) n n] 23)) 40 (.int .u64 0)
  have b5 := Boxed.new ((((w.alloc (.cells #[.int .u64 (x : Int)] 40)).alloc (.cells #[.slice (some ⟨w.heap.size + 1 + 1 + 1, 0, none⟩) n n] 23)).alloc (.cells #[.int .u64 0] 40)).alloc (.cells (Array.replicate n (Value.int .u64 0)) 40)) 23 (.slice A n c)
  simp only [World.size_alloc] at hown0 b2 b3 b5
  obtain ⟨E, hE⟩ : ∃ E, ((((w.alloc (.cells #[.int .u64 (x : Int)] 40)).alloc (.cells #[.slice (some ⟨w.heap.size + 1 + 1 + 1, 0, none⟩) n n] 23)).alloc (.cells #[.int .u64 0] 40)).alloc (.cells (Array.replicate n (Value.int .u64 0)) 40)).alloc (.cells #[.slice A n c] 23) = E := ⟨_, rfl⟩
  have hEs : E.heap.size = w.heap.size + 5 := by rw [← hE]; simp
  have hB : Below w.heap.size w E := by rw [← hE]; exact (((((Below.refl _ w).alloc (Nat.le_refl _) _).alloc (by simp) _).alloc (by simp; omega) _).alloc (by simp; omega) _).alloc (by simp; omega) _
  have hM0 : WordMid w n x 0 (words n 0) E := by
    rw [← hE]
    exact ⟨(((b1.alloc _).alloc _).alloc _).alloc _, ((b2.alloc _).alloc _).alloc _, (b3.alloc _).alloc _, hown0.alloc _, by rw [hE]; exact hB, by rw [hE, hEs]; omega⟩
  have bA : Boxed E (w.heap.size + 1 + 1 + 1 + 1) 23 (.slice A n c) := by rw [← hE]; exact b5
  have hlt := natOf_lt a hw
  rw [Hn.out] at hlt
  have hs0 : words n 0 = tops n (natOf a / x) n ∧ 0 = natOf a / 18446744073709551616 ^ n % x := ⟨by rw [tops_start, words_none], by rw [Nat.div_eq_of_lt hlt, Nat.zero_mod]⟩
  have HEs := Lib.hid hEs
  have HS0 := Lib.hid hs0
  have Hlt := Lib.hid hlt
  clear hown0 b1 b2 b3 b5 hmk hs0 hlt
  gi_wp2
  clear hE
  refine wpIn_rangeFunc_ownG rfl (by omega) (gf := 57) (lb := #[.pointer (some ⟨w.heap.size + 1 + 1 + 1 + 1, 0, none⟩)]) rfl trivial (enters_of Try.func57 (by kernel_rfl) rfl)
    (backR_stops 8 (by omega) (w.heap.size + 1 + 1 + 1 + 1) n c A (fun l => l = a) (by omega) E bA ⟨a, Hn.out, hw, rfl, (hr.below hB).more hB.size⟩)
    KpR.t (KpR.b (by omega)) (Below.refl _ _) (fun _ => rfl)
    (fun pre W => ∃ (Q : List Nat) (r : Nat), Q.length = n ∧ Words Q ∧ r < x ∧ WordMid w n x r Q W ∧ (Downs (m := n) (fun l => l = a) pre → Q = tops n (natOf a / x) (n - pre.length) ∧ r = natOf a / 18446744073709551616 ^ (n - pre.length) % x))
    (fun _ _ _ => False)
    (fun s X Y row hs hg hr => by
      obtain ⟨Q, r, h1, h2, h3, h4, h5⟩ := hs
      exact ⟨Q, r, h1, h2, h3, h4.kept hg (fun k e => by have := (hr k e).1; omega), h5⟩)
    (fun _ _ _ _ _ hs _ _ => hs)
    ⟨words n 0, 0, length_words _ _, words_words _ _, hx, hM0, fun _ => by simpa using HS0.out⟩
    (fun y => { tmps := #[.slice A n c, .int .u64 (x : Int), undef, .pointer (some ⟨w.heap.size, 0, none⟩), .pointer (some ⟨w.heap.size + 1, 0, none⟩), .pointer (some ⟨w.heap.size + 1 + 1, 0, none⟩), .int .i64 0, .int .i64 (y.1.1 : Int), .int .u64 (y.1.2 : Int),
      .int .u64 (x : Int), .bool false, .slice A n c, .int .i64 (n : Int), .slice (some ⟨w.heap.size + 1 + 1 + 1, 0, none⟩) n n, .slice A n c, .func (.func 57) #[] #[.pointer (some ⟨w.heap.size + 1 + 1 + 1 + 1, 0, none⟩)],
      .int .i64 (y.1.1 : Int), .int .u64 (y.1.2 : Int), undef, undef, undef, undef, undef, undef, undef, undef, undef, undef, undef, undef, undef], defers := [] }) ?assign ?body ?done ?stop
  case assign =>
    intro l x W K hK
    gi_wp2
    exact hK
  case body =>
    rintro l pre y W ⟨Q, r, hQl, hQw, hrx, hM, hP⟩ hlen
    have hi := y.2.1
    have hwd := y.2.2
    obtain ⟨qd, hqd⟩ : ∃ qd, (r * 18446744073709551616 + y.1.2) / x = qd := ⟨_, rfl⟩
    obtain ⟨rd, hrd⟩ : ∃ rd, (r * 18446744073709551616 + y.1.2) % x = rd := ⟨_, rfl⟩
    have hps := place_step r x 18446744073709551616 y.1.2 hx hrx hwd
    rw [hqd, hrd] at hps
    have D := fun u => div64_any r y.1.2 x u hrx hx2 hwd
    rw [hqd, hrd] at D
    have hbc := hM.bx.cell
    have hqc := hM.q.cell
    have hrc := hM.r.cell
    have hrf := hM.r.frozen
    have hco : W.cell? ⟨w.heap.size + 1 + 1 + 1, y.1.1, none⟩ = some (.int .u64 (nth Q y.1.1 : Int)) := by rw [hM.row.cellAt _ (by omega), ints_get _ _ _ (by omega)]
    have hfo : W.frozen? ⟨w.heap.size + 1 + 1 + 1, y.1.1, none⟩ = false := hM.row.frozenAt _
    have HD := Lib.hid D
    have HP := Lib.hid hP
    have HPS := Lib.hid hps
    have HM := Lib.hid hM
    have HR := Lib.hid hr
    have HLN := Lib.hid hlen
    have HQD := Lib.hid hqd
    have HRD := Lib.hid hrd
    have hmx : Try.prog.follows .mixedOrders = true := by kernel_rfl
    clear D hP hps hM hqd hrd hx0 hlen hr hB hM0 bA
    gi_wp2
    refine wpIn_region_any hmx ?_
    change wpAnyIn _ _ _ _ _ _ _ _ _ (World.drew _)
    refine anyG.toAny (s := 11) (B := fun W' => W'.cell? ⟨w.heap.size + 1, 0, none⟩ = some (.slice (some ⟨w.heap.size + 1 + 1 + 1, 0, none⟩) n n) ∧ W'.cell? ⟨w.heap.size + 1 + 1, 0, none⟩ = some (.int .u64 (r : Int)) ∧ W'.cell? ⟨w.heap.size, 0, none⟩ = some (.int .u64 (x : Int))) ?_
    refine anyG_take (i := 0) (v := .slice (some ⟨w.heap.size + 1 + 1 + 1, 0, none⟩) n n) rfl (by kernel_rfl) (by kernel_rfl) (by kernel_rfl) (by kernel_rfl) (by kernel_rfl) (by kernel_rfl) (fun _ _ _ h => h) ⟨by rfl, fun W' ⟨g1, g2, g3⟩ => ⟨by go_simp, by rfl⟩⟩ ?_
    refine anyG_take (i := 1) (v := .int .i64 (y.1.1 : Int)) rfl (by kernel_rfl) (by kernel_rfl) (by kernel_rfl) (by kernel_rfl) (by kernel_rfl) (by kernel_rfl) (fun _ _ _ h => h) ⟨by rfl, fun W' ⟨g1, g2, g3⟩ => ⟨by go_simp, by rfl⟩⟩ ?_
    refine anyG_take (i := 2) (v := .int .u64 (r : Int)) rfl (by kernel_rfl) (by kernel_rfl) (by kernel_rfl) (by kernel_rfl) (by kernel_rfl) (by kernel_rfl) (fun _ _ _ h => h) ⟨by rfl, fun W' ⟨g1, g2, g3⟩ => ⟨by go_simp, by rfl⟩⟩ ?_
    refine anyG_take (i := 3) (v := .int .u64 (y.1.2 : Int)) rfl (by kernel_rfl) (by kernel_rfl) (by kernel_rfl) (by kernel_rfl) (by kernel_rfl) (by kernel_rfl) (fun _ _ _ h => h) ⟨by rfl, fun W' ⟨g1, g2, g3⟩ => ⟨by go_simp, by rfl⟩⟩ ?_
    refine anyG_take (i := 4) (v := .int .u64 (x : Int)) rfl (by kernel_rfl) (by kernel_rfl) (by kernel_rfl) (by kernel_rfl) (by kernel_rfl) (by kernel_rfl) (fun _ _ _ h => h) ⟨by rfl, fun W' ⟨g1, g2, g3⟩ => ⟨by go_simp, by rfl⟩⟩ ?_
    refine anyG_one (i := 5) (by kernel_rfl) rfl (fun _ => ⟨hqc, hrc, hbc⟩) (fun K hK => ?_)
    go_simp
    refine ⟨trivial, ?_⟩
    refine (CallsIn.inRound l (callsIn_wide.2 (HD.out _))).mono ?_
    rintro e w' ⟨rfl, k, rfl⟩
    refine hK _ _ ?_
    clear hK K
    refine anyG_take (i := 6) (v := .tuple #[.int .u64 (qd : Int), .int .u64 (rd : Int)]) rfl (by kernel_rfl) (by kernel_rfl) (by kernel_rfl) (by kernel_rfl) (by kernel_rfl) (by kernel_rfl) (fun _ _ _ h => h) ⟨by rfl, fun W' ⟨g1, g2, g3⟩ => ⟨by go_simp, by rfl⟩⟩ ?_
    refine anyG_take (i := 7) (v := .int .u64 (qd : Int)) rfl (by kernel_rfl) (by kernel_rfl) (by kernel_rfl) (by kernel_rfl) (by kernel_rfl) (by kernel_rfl) (fun _ _ _ h => h) ⟨by rfl, fun W' ⟨g1, g2, g3⟩ => ⟨by go_simp, by rfl⟩⟩ ?_
    refine anyG_take (i := 8) (v := .int .u64 (rd : Int)) rfl (by kernel_rfl) (by kernel_rfl) (by kernel_rfl) (by kernel_rfl) (by kernel_rfl) (by kernel_rfl) (fun _ _ _ h => h) ⟨by rfl, fun W' ⟨g1, g2, g3⟩ => ⟨by go_simp, by rfl⟩⟩ ?_
    refine anyG_take (i := 9) (v := .pointer (some ⟨w.heap.size + 1 + 1 + 1, y.1.1, none⟩)) rfl (by kernel_rfl) (by kernel_rfl) (by kernel_rfl) (by kernel_rfl) (by kernel_rfl) (by kernel_rfl) (fun _ _ _ h => h) ⟨by rfl, fun W' ⟨g1, g2, g3⟩ => ⟨by go_simp, by rfl⟩⟩ ?_
    have hco1 : (W.drewN (1 + k)).cell? ⟨w.heap.size + 1 + 1 + 1, y.1.1, none⟩ = some (.int .u64 (nth Q y.1.1 : Int)) := hco
    have hfo1 : (W.drewN (1 + k)).frozen? ⟨w.heap.size + 1 + 1 + 1, y.1.1, none⟩ = false := hfo
    have hM1 : WordMid w n x r Q (W.drewN (1 + k)) := HM.out.kept (Drawn.grown W (1 + k)) (fun _ e => by cases e)
    obtain ⟨hM2, hsame⟩ := hM1.step (r' := rd) y.1.1 qd
    have hK1 : KeepsOthers W (W.drewN (1 + k)) := KeepsOthers.of_grownBy (Drawn.grown W (1 + k)) (fun j o e => by cases e)
    have hst1 := (hM1.row.stored y.1.1 (.int .u64 (qd : Int))).2
    have hq2 : ((W.drewN (1 + k)).setCell ⟨w.heap.size + 1 + 1 + 1, y.1.1, none⟩ (.int .u64 (qd : Int))).cell? ⟨w.heap.size + 1, 0, none⟩ = some (.slice (some ⟨w.heap.size + 1 + 1 + 1, 0, none⟩) n n) := (hM1.q.kept hst1 (by simp)).cell
    have hr2 := (hM1.r.kept hst1 (by simp)).cell
    have hrf2 := (hM1.r.kept hst1 (by simp)).frozen
    have hb2 := (hM1.bx.kept hst1 (by simp; omega)).cell
    have HF := Lib.hid (show KeepsFrom E.heap.size W (((W.drewN (1 + k)).setCell ⟨w.heap.size + 1 + 1 + 1, y.1.1, none⟩ (.int .u64 (qd : Int))).setCell ⟨w.heap.size + 1 + 1, 0, none⟩ (.int .u64 (rd : Int))) ∧
        KpR (w.heap.size + 1 + 1 + 1 + 1) A n (fun l => l = a) W (((W.drewN (1 + k)).setCell ⟨w.heap.size + 1 + 1 + 1, y.1.1, none⟩ (.int .u64 (qd : Int))).setCell ⟨w.heap.size + 1 + 1, 0, none⟩ (.int .u64 (rd : Int))) ∧
        ∃ (Q : List Nat) (r : Nat), Q.length = n ∧ Words Q ∧ r < x ∧ WordMid w n x r Q (((W.drewN (1 + k)).setCell ⟨w.heap.size + 1 + 1 + 1, y.1.1, none⟩ (.int .u64 (qd : Int))).setCell ⟨w.heap.size + 1 + 1, 0, none⟩ (.int .u64 (rd : Int))) ∧
          (Downs (m := n) (fun l => l = a) (pre ++ [y]) → Q = tops n (natOf a / x) (n - (pre ++ [y]).length) ∧ r = natOf a / 18446744073709551616 ^ (n - (pre ++ [y]).length) % x) by
      refine ⟨((hK1.trans (KeepsOthers.setCell _ _ _)).trans (KeepsOthers.setCell _ _ _)).from _, ⟨hsame _ (by omega), fun _ => ⟨a, Hn.out, hw, rfl, (HR.out.below hM2.below).more hM2.below.size⟩⟩, Q.set y.1.1 qd, rd, by rw [List.length_set, hQl], words_put _ hQw _ _ HPS.out.1, HPS.out.2, hM2, fun hds => ?_⟩
      obtain ⟨hd0, hidx, l, _, _, rfl, hv⟩ := hds.ini
      obtain ⟨e1, e2⟩ := HP.out hd0
      have hlen := HLN.out
      rw [show n - pre.length = y.1.1 + 1 by omega] at e1 e2
      rw [show n - (pre ++ [y]).length = y.1.1 by rw [List.length_append, List.length_singleton]; omega]
      obtain ⟨q', r', f1, f2, f3, f4⟩ := word_place (natOf l) x y.1.1 hx
      rw [← e2, ← nth_natOf l hw, ← hv] at f1 f2
      have g1 : qd = q' := by rw [← HQD.out, f1]
      have g2 : rd = r' := by rw [← HRD.out, f2]
      exact ⟨by rw [e1, g1, f3]; exact tops_set n (natOf l / x) y.1.1 hi, by rw [g2, f4]⟩)
    refine anyG_one (i := 10) (by kernel_rfl) rfl (fun _ => ⟨hqc, hrc, hbc⟩) (fun K hK => ?_)
    clear hM1 hM2 hsame hK1 hst1
    go_simp
    refine hK _ _ ?_
    clear hK K
    refine anyG_one (i := 11) (by kernel_rfl) rfl (fun _ => ⟨hq2, hr2, hb2⟩) (fun K hK => ?_)
    go_simp
    refine hK _ _ ?_
    clear hK K
    refine anyG_done (by kernel_rfl) (by kernel_rfl) ?_
    rename_i QQ
    simp only [Exit.inBlock, QQ]
    exact HF.out
  case done =>
    rintro D ys W hD ⟨hds, hyl⟩ ⟨Q, r, hQl, hQw, hrx, hM, hP⟩ hK
    obtain ⟨rfl, rfl⟩ := hP hds
    rw [hyl, Nat.sub_self, tops_end, Nat.pow_zero, Nat.div_one] at hM
    rw [hyl, Nat.sub_self, tops_end] at hQl
    have hlN : natOf a / x < 18446744073709551616 ^ n := Nat.lt_of_le_of_lt (Nat.div_le_self _ _) Hlt.out
    have hqc := hM.q.cell
    have hqf := hM.q.frozen
    have hrc := hM.r.cell
    have hrf := hM.r.frozen
    have hrow1 : W.drew.ownsRow (w.heap.size + 1 + 1 + 1) 40 1 (.slice (some ⟨w.heap.size + 1 + 1 + 1, 0, none⟩) n n) n (ints .u64 (words n (natOf a / x))) := (Drawn.more 1).own hM.row
    have HT := Lib.hid (dtrim_own W.drew _ n n (natOf a / x) _ hrow1 hlN (by omega) (Nat.le_refl _))
    have HM := Lib.hid hM
    have HK := Lib.hid hK
    have hmx : Try.prog.follows .mixedOrders = true := by kernel_rfl
    have hD2 : w.heap.size + 5 ≤ D := by have := HEs.out; omega
    clear hP hds hK hM hrow1 hQl hQw hrx hr hM0 bA hB hx0
    gi_wp2
    refine only_end ?_
    gi_region_with_o ((refine ⟨trivial, ?_⟩; gi_at_call 53; (with_reducible refine (callsIn_wide.2 HT.out).mono ?_); rintro e w' ⟨rfl, rfl⟩))
    all_goals
      obtain ⟨T, hT⟩ : ∃ T, (nbits (natOf a / x) + 63) / 64 = T := ⟨_, rfl⟩
      have hTn := tl_le (words n (natOf a / x)) (words_words _ _)
      rw [length_words, tl_words _ _ hlN, hT] at hTn
      have hrow := own_trim HM.out.row hlN
      rw [hT] at hrow
      have g1 := grownBy_setCell' W.drew (w.heap.size + 1) (.slice (some ⟨w.heap.size + 1 + 1 + 1, 0, none⟩) T n)
      have g2 := grownBy_setCell' (W.drew.setCell ⟨w.heap.size + 1, 0, none⟩ (.slice (some ⟨w.heap.size + 1 + 1 + 1, 0, none⟩) T n)) (w.heap.size + 1 + 1) (.int .u64 ((natOf a : Int) % (x : Int)))
      have bq3 := ((HM.out.q.kept (Drawn.grown W 1) (by simp)).set (.slice (some ⟨w.heap.size + 1 + 1 + 1, 0, none⟩) T n)).kept g2 (by simp)
      have br3 := ((HM.out.r.kept (Drawn.grown W 1) (by simp)).kept g1 (by simp)).set (.int .u64 ((natOf a : Int) % (x : Int)))
      have hrow3 := (((Drawn.more 1).own hrow).kept g1 (.inr (by simp [Value.ownBlock] <;> omega))).kept g2 (.inr (by simp [Value.ownBlock] <;> omega))
      have hB3 := ((HM.out.below.trans ((Drawn.more 1).below _)).setCell (p := ⟨w.heap.size + 1, 0, none⟩) (by simp) (.slice (some ⟨w.heap.size + 1 + 1 + 1, 0, none⟩) T n)).setCell (p := ⟨w.heap.size + 1 + 1, 0, none⟩) (by simp; try omega) (.int .u64 ((natOf a : Int) % (x : Int)))
      have hK3 := (((KeepsOthers.of_grownBy (Drawn.grown W 1) (fun j o e => by cases e)).trans (KeepsOthers.setCell _ ⟨w.heap.size + 1, 0, none⟩ (.slice (some ⟨w.heap.size + 1 + 1 + 1, 0, none⟩) T n))).trans (KeepsOthers.setCell _ ⟨w.heap.size + 1 + 1, 0, none⟩ (.int .u64 ((natOf a : Int) % (x : Int))))).same D _ HK.out rfl
      rw [hT]
      have HBq := Lib.hid bq3
      have HBr := Lib.hid br3
      have HRW := Lib.hid hrow3
      have HB3 := Lib.hid hB3
      have HK3 := Lib.hid hK3
      clear g1 g2 bq3 br3 hrow3 hB3 hK3 hrow
      gi_wp2
      refine ⟨by simp, .inl ⟨_, _, rfl, run_takeDeferred HK3.out, ?_⟩⟩
      have hcq : (((W.setCell ⟨w.heap.size + 1, 0, none⟩ (.slice (some ⟨w.heap.size + 1 + 1 + 1, 0, none⟩) T n)).setCell ⟨w.heap.size + 1 + 1, 0, none⟩ (.int .u64 ((natOf a : Int) % (x : Int)))).drew.putObj D (.deferred none)).cell? ⟨w.heap.size + 1, 0, none⟩ = some (.slice (some ⟨w.heap.size + 1 + 1 + 1, 0, none⟩) T n) := cell_kept HBq.out.cell (grownBy_putObj' _ D (.deferred none)) (fun r e => by cases e; exact ⟨_, HK3.out, rfl⟩)
      have hcr : (((W.setCell ⟨w.heap.size + 1, 0, none⟩ (.slice (some ⟨w.heap.size + 1 + 1 + 1, 0, none⟩) T n)).setCell ⟨w.heap.size + 1 + 1, 0, none⟩ (.int .u64 ((natOf a : Int) % (x : Int)))).drew.putObj D (.deferred none)).cell? ⟨w.heap.size + 1 + 1, 0, none⟩ = some (.int .u64 ((natOf a : Int) % (x : Int))) := cell_kept HBr.out.cell (grownBy_putObj' _ D (.deferred none)) (fun r e => by cases e; exact ⟨_, HK3.out, rfl⟩)
      have hown := ownsRow_putObj HRW.out (.deferred none) HK3.out rfl
      have hBB := HB3.out.trans (belowK_b (w := w) (Nat.le_refl _) _ D _ (.deferred none) (by omega) HK3.out rfl rfl)
      refine ⟨.tuple #[.slice (some ⟨w.heap.size + 1 + 1 + 1, 0, none⟩) T n, .int .u64 ((natOf a : Int) % (x : Int)), .int .i64 0], by simp [results, Try.f31, go_sem, hcq, hcr], ?_⟩
      exact ⟨some ⟨w.heap.size + 1 + 1 + 1, 0, none⟩, T, n, by simp, ⟨by rw [← hT]; exact length_wd _, by omega, Rd.own hown, hTn⟩, hBB⟩
  case stop =>
    rintro D c pre W _ _ h _
    exact h.elim
end Go.Proofs.Ytekgoceainibaaa
/- div.byWords: by a number of two words or more. Conditions: as typed (lengths that fit a machine; the divisor is not above the number). -/
namespace Go.Proofs.Ytekgoceainibaaa
open Go.RowKit Go.Shelf
set_option maxRecDepth 20000
attribute [local go_sem] Oper.semAt_some
theorem and_63 (N : Nat) (_hN : N ≤ 1000000) : bits .and .i64 (-(N : Int)) 63 = (((64 - N % 64) % 64 : Nat) : Int) := by
  have h1 : (BitVec.ofInt 64 63).toNat = 2 ^ 6 - 1 := by decide
  have key : (BitVec.ofInt 64 (-(N : Int)) &&& BitVec.ofInt 64 63).toNat = ((-(N : Int)) % ((2 ^ 64 : Nat) : Int)).toNat % 2 ^ 6 := by
    rw [BitVec.toNat_and, BitVec.toNat_ofInt, h1, Nat.and_two_pow_sub_one_eq_mod]
  show IntKind.i64.wrap ((BitVec.ofInt 64 (-(N : Int)) &&& BitVec.ofInt 64 63).toNat : Nat) = _
  rw [key, IntKind.wrap_i64]
  omega
/-- Long division, the places from i on being made: what is left, and the quotient so far. -/
def Long (V U i : Nat) (L Q : List Nat) : Prop := natOf L + natOf Q * V = U ∧ natOf L < 18446744073709551616 ^ i * V ∧ ∀ j, j < i → nth Q j = 0
/-- Between two rounds of byWords. q0: q's box; p: by's box; R: rest's box; g: rest's row. -/
structure ByMid (E : World) (q0 p R g K cap nq n c : Nat) (X : Option Addr) (ys L Q : List Nat) (W : World) : Prop where
  qb : Boxed W q0 23 (.slice (some ⟨R + 1, 0, none⟩) nq nq)
  bb : Boxed W p 23 (.slice X n c)
  rb : Boxed W R 23 (.slice (some ⟨g, 0, none⟩) K cap)
  by_ : Rd .u64 W p X ys
  rest : W.ownsRow (p + 1) 40 1 (.slice (some ⟨g, 0, none⟩) K cap) K (ints .u64 L)
  qs : W.ownsRow (R + 1) 40 1 (.slice (some ⟨R + 1, 0, none⟩) nq nq) nq (ints .u64 Q)
  below : Below p E W
  size : R + 3 ≤ W.heap.size
  it : W.heap[R + 1 + 1]? = E.heap[R + 1 + 1]?
section
variable {E W W' : World} {q0 p R g K cap nq n c : Nat} {X : Option Addr} {ys L L' Q : List Nat}
theorem ByMid.kept {row : Option Nat} (h : ByMid E q0 p R g K cap nq n c X ys L Q W) (hg : W.grownBy W' row) (hr : ∀ k, row = some k → R + 3 ≤ k) (h0 : q0 < p) (h1 : p < R) (h2 : g < R) : ByMid E q0 p R g K cap nq n c X ys L Q W' where
  qb := h.qb.kept hg (by intro e; have := hr _ e.symm; omega)
  bb := h.bb.kept hg (by intro e; have := hr _ e.symm; omega)
  rb := h.rb.kept hg (by intro e; have := hr _ e.symm; omega)
  by_ := h.by_.grown hg (by have := h.size; omega) (fun k e => by have := hr k e; omega)
  rest := h.rest.kept hg (.inr (by intro e; have := hr _ e.symm; dsimp only at this; omega))
  qs := h.qs.kept hg (.inr (by intro e; have := hr _ e.symm; dsimp only at this; omega))
  below := h.below.grown hg (by have := h.size; omega) (fun k e => by have := hr k e; omega)
  size := Nat.le_trans h.size hg.size
  it := (hg.block _ (by have := h.size; omega) (by intro e; have := hr _ e.symm; omega)).trans h.it
theorem ByMid.setQ (h : ByMid E q0 p R g K cap nq n c X ys L Q W) (h0 : q0 < p) (h1 : p < R) (h2 : g < R) (i x : Nat) : ByMid E q0 p R g K cap nq n c X ys L (Q.set i x) (W.setCell ⟨R + 1, i, none⟩ (.int .u64 (x : Int))) := by
  have hst := h.qs.stored i (.int .u64 (x : Int))
  rw [ints_set] at hst
  obtain ⟨hq, hg⟩ := hst
  exact ⟨h.qb.kept hg (by simp; omega), h.bb.kept hg (by simp; omega), h.rb.kept hg (by simp), h.by_.grown hg (by have := h.size; omega) (fun k e => by cases e; omega), h.rest.kept hg (.inr (by simp [Value.ownBlock]; omega)), hq, h.below.grown hg (by have := h.size; omega) (fun k e => by cases e; omega), Nat.le_trans h.size hg.size, (hg.block _ (by have := h.size; omega) (by simp)).trans h.it⟩
theorem ByMid.setR (h : ByMid E q0 p R g K cap nq n c X ys L Q W) (h0 : q0 < p) (_h1 : p < R) (h2 : g < R) (h3 : p < g) (hg : W.grownBy W' (some g)) (ho : W'.ownsRow (p + 1) 40 1 (.slice (some ⟨g, 0, none⟩) K cap) K (ints .u64 L')) : ByMid E q0 p R g K cap nq n c X ys L' Q W' :=
  ⟨h.qb.kept hg (by simp; omega), h.bb.kept hg (by simp; omega), h.rb.kept hg (by simp; omega), h.by_.grown hg (by have := h.size; omega) (fun k e => by cases e; omega), ho, h.qs.kept hg (.inr (by simp [Value.ownBlock]; omega)), h.below.grown hg (by have := h.size; omega) (fun k e => by cases e; omega), Nat.le_trans h.size hg.size, (hg.block _ (by have := h.size; omega) (by simp; omega)).trans h.it⟩
theorem ByMid.rdx (h : ByMid E q0 p R g K cap nq n c X ys L Q W) (h3 : p < g) : Rdx .u64 W g X ys := fun hl => by
  obtain ⟨b, off, e, hb, hc⟩ := h.by_ hl
  exact ⟨b, off, e, by omega, hc⟩
end
/-- A row of the call's own is cells. -/
theorem own_cells {w : World} {base e g n c : Nat} {xs : List Value} (h : w.ownsRow base e 1 (.slice (some ⟨g, 0, none⟩) n c) n xs) {o : Obj} (ho : w.heap[g]? = some o) : o.isCells = true := by
  rcases h.2 with ⟨hv, _⟩ | ⟨g', cap, cur, hv, _, hgb, _⟩
  · cases hv
  · injection hv with hv _ _
    injection hv with hv
    injection hv with hv _ _
    subst hv
    rw [hgb] at ho
    cases ho
    rfl
theorem guessV_lt (hi lo f : Nat) (hl : lo < 18446744073709551616) : guessV hi lo f < 18446744073709551616 := by
  unfold guessV
  split
  · omega
  · rename_i h
    rw [Nat.div_lt_iff_lt_mul (by omega)]
    have : 18446744073709551616 * (hi + 1) ≤ 18446744073709551616 * f := Nat.mul_le_mul_left _ (by omega)
    omega
theorem top_word (V m : Nat) (h : nbits V = 64 * (m + 1)) : 9223372036854775808 ≤ nth (wd V) m := by
  have hp : 0 < 18446744073709551616 ^ m := Nat.pow_pos (by omega)
  have h1 := nbits_lt V
  have h2 := nbits_le V (by intro h0; rw [h0, nbits_zero] at h; omega)
  rw [h] at h1 h2
  rw [nth_natOf _ (wd_words V), natOf_wd]
  have e1 : (2 : Nat) ^ (64 * (m + 1)) = 18446744073709551616 ^ m * 18446744073709551616 := by rw [← pow_64_2, Nat.pow_succ]
  have e2 : (2 : Nat) ^ (64 * (m + 1) - 1) = 18446744073709551616 ^ m * 9223372036854775808 := by rw [show 64 * (m + 1) - 1 = 64 * m + 63 by omega, Nat.pow_add, ← pow_64_2]
  rw [e1] at h1
  rw [e2] at h2
  rw [Nat.mod_eq_of_lt (by rw [Nat.div_lt_iff_lt_mul hp, Nat.mul_comm]; exact h1), Nat.le_div_iff_mul_le hp, Nat.mul_comm]
  exact h2
/-- What is taken away is as it was said of a place. -/
theorem place_start {V U i m K x0 o : Nat} {L L' Q : List Nat} (hm : nbits V = 64 * (m + 1)) (hVl : (wd V).length = m + 1) (hLw : Words L) (hg : Long V U (i + 1) L Q) (hx : guessV (nth L (i + (m + 1))) (nth L (i + m)) (nth (wd V) m) = x0)
    (ht : Takes K i x0 (natOf (wd V)) (m + 1 + 1) o (natOf L) L L') (ho : o ≤ 1) :
    Place K (i + (m + 1 + 1)) (18446744073709551616 ^ i * V) (18446744073709551616 ^ (i + (m + 1 + 1))) (natOf L) x0 o L' ∧ x0 + 0 ≤ natOf L / (18446744073709551616 ^ i * V) + 2 := by
  have hB := natOf_lt (wd V) (wd_words V)
  rw [natOf_wd, hVl] at hB
  have hT : natOf L < 18446744073709551616 ^ (i + (m + 1 + 1)) := by
    refine Nat.lt_trans hg.2.1 ?_
    have h1 : 18446744073709551616 ^ (i + 1) * V < 18446744073709551616 ^ (i + 1) * 18446744073709551616 ^ (m + 1) := Nat.mul_lt_mul_of_pos_left hB (Nat.pow_pos (by omega))
    rwa [← Nat.pow_add, show i + 1 + (m + 1) = i + (m + 1 + 1) by omega] at h1
  obtain ⟨g1, g2, g3⟩ := guess_two (natOf L) V i m x0 L (wd V) hLw rfl (wd_words V) (natOf_wd V) hVl (top_word V m hm) hg.2.1 (by
    rw [← hx, show i + m + 1 = i + (m + 1) by omega]
    unfold guessV
    by_cases h : nth (wd V) m ≤ nth L (i + (m + 1))
    · exact .inl ⟨h, if_pos h⟩
    · exact .inr ⟨by omega, if_neg h⟩)
  refine ⟨⟨ht.len, ht.words, ?_, fun j hj => by rw [ht.same j hj]; exact far_of L hLw _ hT j hj, ho, g2⟩, by omega⟩
  have := ht.val
  rw [natOf_wd] at this
  rw [Nat.mul_left_comm]
  exact this
/-- A place that is right: the next one's start. -/
theorem place_end {V U i k K E x : Nat} {L L' Q : List Nat} (hV : 0 < V) (hg : Long V U (i + 1) L Q) (hi : i < Q.length) (h : Place K k (18446744073709551616 ^ i * V) E (natOf L) x 0 L') : Long V U i L' (Q.set i x) := by
  have hD : 0 < 18446744073709551616 ^ i * V := Nat.mul_pos (Nat.pow_pos (by omega)) hV
  obtain ⟨e1, e2⟩ := h.done hD
  have h1 := hg.1
  have h2 := natOf_put Q i x hi
  rw [hg.2.2 i (by omega), Nat.mul_zero, Nat.add_zero] at h2
  refine ⟨?_, by rw [e2]; exact Nat.mod_lt _ hD, fun j hj => ?_⟩
  · have h3 := Nat.div_add_mod (natOf L) (18446744073709551616 ^ i * V)
    rw [← e1, ← e2] at h3
    have e3 : 18446744073709551616 ^ i * x * V = 18446744073709551616 ^ i * V * x := by rw [Nat.mul_assoc, Nat.mul_comm x, ← Nat.mul_assoc]
    rw [h2, Nat.add_mul, e3]
    omega
  · rw [nth_set _ _ _ _ hi, if_neg (by omega)]
    exact hg.2.2 j (by omega)
theorem long_end {V U : Nat} {L Q : List Nat} (h : Long V U 0 L Q) : natOf Q = U / V ∧ natOf L = U % V := by
  obtain ⟨h1, h2, _⟩ := h
  rw [Nat.pow_zero, Nat.one_mul] at h2
  have e : U = V * natOf Q + natOf L := by rw [Nat.mul_comm]; omega
  have hV : 0 < V := by omega
  constructor
  · rw [e, Nat.mul_add_div hV, Nat.div_eq_of_lt h2, Nat.add_zero]
  · rw [e, Nat.mul_add_mod, Nat.mod_eq_of_lt h2]
/-- What byWords keeps from round to round: rows of words; and, the places having come in their order, the long division so far. -/
def ByI (E : World) (q0 p R g K cap nq n c : Nat) (X : Option Addr) (ys : List Nat) (V U : Nat) (pre : List (WI nq)) (W : World) : Prop :=
  ∃ L Q, L.length = K ∧ Words L ∧ Q.length = nq ∧ Words Q ∧ ByMid E q0 p R g K cap nq n c X ys L Q W ∧ (Downs (m := nq) (fun _ => True) pre → Long V U (nq - pre.length) L Q)
set_option maxRecDepth 100000 in
set_option maxHeartbeats 2000000 in
theorem byWords_pf (A A2 : Option Addr) (na nb c c2 : Nat) (a b : List Nat) (w : World) (hna : a.length = na) (hnb : b.length = nb) (hr : Rd .u64 w w.heap.size A a) (hw : Words a) (hl : na ≤ 10000) (hc : na ≤ c) (hr2 : Rd .u64 w w.heap.size A2 b) (hw2 : Words b) (hl2 : nb ≤ 10000) (hc2 : nb ≤ c2)
    (hbig : 18446744073709551616 ≤ natOf b) (hle : natOf b ≤ natOf a) :
    Calls Try.prog 49 #[.slice A na c, .slice A2 nb c2] w fun e w' => ∃ X q d Y r f, e = .returned (.tuple #[.slice X q d, .slice Y r f]) ∧ NatIs w' X q d (natOf a / natOf b) ∧ NatIs w' Y r f (natOf a % natOf b) ∧ Below w.heap.size w w' := by
  obtain ⟨i0, hi, hz0, hz1, hz2⟩ := info_parts num_info_u64
  have hw' := hw
  have hl' := hl
  have hsa := nbits_natOf a hw
  have hsb := nbits_natOf b hw2
  obtain ⟨N, hN⟩ : ∃ N, nbits (natOf b) = N := ⟨_, rfl⟩
  have hand := and_63 N (by omega)
  obtain ⟨s, hs⟩ : ∃ s, (64 - N % 64) % 64 = s := ⟨_, rfl⟩
  rw [hs] at hand
  rw [show (-(N : Int)) = wrap64 (-(N : Int)) by simp only [wrap64]; omega] at hand
  have hs63 : s ≤ 63 := by omega
  have bE0 : Below w.heap.size w (w.alloc (.cells #[.slice none 0 0] 23)) := (Below.refl _ w).alloc (Nat.le_refl _) _
  have QB := natBits_any A2 c2 b (w.alloc (.cells #[.slice none 0 0] 23)) ((hr2.below bE0).more bE0.size) hw2 (by omega) (by omega)
  rw [hN, hnb] at QB
  have HQB := Lib.hid QB
  obtain ⟨V, hV⟩ : ∃ V, 2 ^ s * natOf b = V := ⟨_, rfl⟩
  obtain ⟨U, hU⟩ : ∃ U, 2 ^ s * natOf a = U := ⟨_, rfl⟩
  have hnV : nbits V = N + s := by rw [← hV, nbits_up_eq _ _ (by omega), hN]
  have hN64 : 64 < N := by
    rcases Nat.lt_or_ge 64 N with h | h
    · exact h
    · exfalso
      have h1 := nbits_lt (natOf b)
      rw [hN] at h1
      have h2 : 2 ^ N ≤ 2 ^ 64 := Nat.pow_le_pow_right (by omega) h
      omega
  obtain ⟨m, hm⟩ : ∃ m, (nbits V + 63) / 64 = m + 1 := ⟨(nbits V + 63) / 64 - 1, by omega⟩
  have hmV : nbits V = 64 * (m + 1) := by omega
  have hm1 : 1 ≤ m := by omega
  have hVU : V ≤ U := by rw [← hV, ← hU]; exact Nat.mul_le_mul_left _ hle
  have hnU : nbits U = nbits (natOf a) + s := by rw [← hU, nbits_up_eq _ _ (by omega)]
  have hmono := nbits_mono hVU
  obtain ⟨ka, hka⟩ : ∃ ka, (nbits U + 63) / 64 = ka := ⟨_, rfl⟩
  obtain ⟨nq, hnq⟩ : ∃ nq, ka = m + nq := ⟨ka - m, by omega⟩
  have hnq1 : 1 ≤ nq := by omega
  have hka2 : ka ≤ 10001 := by omega
  have hsub : ((ka : Int) + 1) - ((m : Int) + 1) = (nq : Int) := by omega
  have SB : ∀ u, Below w.heap.size w u → Calls Try.prog 32 #[.slice A2 nb c2, .int .i64 (s : Int)] u (OutNat V u) := fun u hu => by
    have h := natShl_any A2 c2 b u ((hr2.below hu).more hu.size) hw2 (by omega) (by omega) (s : Int)
    rwa [hnb, show shlS (natOf b) (s : Int) = V by unfold shlS; rw [if_pos (by omega), Int.toNat_natCast, hV]] at h
  have SA : ∀ u, Below w.heap.size w u → Calls Try.prog 32 #[.slice A na c, .int .i64 (s : Int)] u (OutNat U u) := fun u hu => by
    have h := natShl_any A c a u ((hr.below hu).more hu.size) hw (by omega) (by omega) (s : Int)
    rwa [hna, show shlS (natOf a) (s : Int) = U by unfold shlS; rw [if_pos (by omega), Int.toNat_natCast, hU]] at h
  have HSB := Lib.hid SB
  have HSA := Lib.hid SA
  have HV := Lib.hid hV
  have HU := Lib.hid hU
  have HmV := Lib.hid hmV
  have Hka := Lib.hid hka
  have Hnq := Lib.hid hnq
  have HVU := Lib.hid hVU
  have hmk := fun u => make_row nq u (by omega)
  clear SB SA hV hU hnV hmV hVU hnU hmono hsa hsb hs hle hbig hka hnq
  have HN := Lib.hid hN
  have Hna := Lib.hid hna
  have Hnb := Lib.hid hnb
  clear QB hN hna hnb
  refine (callsIn_wide (n := 9)).1 ?_
  refine callsIn_of_wp_marks Try.func49 rfl trivial ?_ rfl
  simp only [Try.ntmps49, List.size_toArray, List.length_cons, List.length_nil, Nat.reduceAdd, Nat.reduceSub, Array.replicate_succ, Array.replicate_zero, List.push_toArray, List.append_toArray, List.nil_append, List.cons_append]
  refine wpIn_wide.2 ?_
  go_wp2_with fail
  go_step3
  go_wp2_with fail
  refine (HQB.out).mono ?_
  rintro e w1 ⟨rfl, b1⟩
  go_wp2_with fail
  have bE1 := bE0.trans (b1.mono (by simp))
  refine ((HSB.out w1 bE1)).mono ?_
  rintro e w2 ⟨v2, rfl, own2, b2⟩
  obtain ⟨X, dX, rfl, hdX, _⟩ := own_form own2
  rw [hm] at own2 hdX ⊢
  obtain ⟨gx, rfl, hgx0, hgx1⟩ : ∃ gx, X = some ⟨gx, 0, none⟩ ∧ w1.heap.size ≤ gx ∧ gx < w2.heap.size := by
    rcases own2.2 with ⟨hv, _⟩ | ⟨g, cap, cur, hv, hgb, hgh, _⟩
    · cases hv
    · injection hv with hv _ _
      exact ⟨g, hv, hgb, (Array.getElem?_eq_some_iff.1 hgh).1⟩
  have hgxw : w.heap.size < gx := by have := b1.size; simp at this; omega
  have bE2 := bE1.trans (b2.mono bE1.size)
  go_wp2_with fail
  have bE3 := bE2.alloc bE2.size (.cells #[.slice (some ⟨gx, 0, none⟩) (m + 1) dX] 23)
  refine ((HSA.out _ bE3)).mono ?_
  rintro e w3 ⟨v3, rfl, own3, b3⟩
  obtain ⟨Y, dY, rfl, hdY, _⟩ := own_form own3
  rw [Hka.out] at own3 hdY ⊢
  go_wp2_with (at_builtin; refine wpList_append_one _ rfl _ _ 23 rfl _ 40 i0 (.int .u64 0) 8 Try.underlying23 hi hz0 hz1 hz2 rfl _ _ .u64 (wd U) rfl own3 _ 0 rfl rfl (by unfold maxLen; omega) (by omega) b3.size ?_)
  intro v4 w4 own4 g4 b4
  obtain ⟨Z, dZ, rfl, hdZ, _⟩ := own_form own4
  obtain ⟨g, rfl, hg0, hg1⟩ : ∃ g, Z = some ⟨g, 0, none⟩ ∧ w2.heap.size + 1 ≤ g ∧ g < w4.heap.size := by
    rcases own4.2 with ⟨hv, _⟩ | ⟨g, cap, cur, hv, hgb, hgh, _⟩
    · cases hv
    · injection hv with hv _ _
      exact ⟨g, hv, by simpa using hgb, (Array.getElem?_eq_some_iff.1 hgh).1⟩
  have bq0 := Boxed.new w 23 (.slice none 0 0)
  have bq2 : Boxed w2 w.heap.size 23 (.slice none 0 0) := (b2.block _ (by have := b1.size; simp at this; omega)).trans ((b1.block _ (by simp)).trans bq0)
  have bb2 := Boxed.new w2 23 (.slice (some ⟨gx, 0, none⟩) (m + 1) dX)
  have bb4 : Boxed w4 w2.heap.size 23 (.slice (some ⟨gx, 0, none⟩) (m + 1) dX) := (b4.block _ (by simp)).trans ((b3.block _ (by simp)).trans bb2)
  have bq4 : Boxed w4 w.heap.size 23 (.slice none 0 0) := (b4.block _ (by have := bq2.lt; simp; omega)).trans ((b3.block _ (by have := bq2.lt; simp; omega)).trans (bq2.alloc _))
  have rb2 := Rd.own own2
  have rb4 : Rd .u64 w4 w2.heap.size (some ⟨gx, 0, none⟩) (wd V) := ((rb2.below ((Below.refl _ w2).alloc (Nat.le_refl _) _)).below (b3.mono (by simp))).below (b4.mono (by simp))
  have B4 : Below w.heap.size w w4 := (bE3.trans (b3.mono bE3.size)).trans (b4.mono (by have := bE2.size; simp; omega))
  have hs24 : w2.heap.size + 1 ≤ w4.heap.size := by have h1 := b3.size; have h2 := b4.size; simp at h1 h2; omega
  have hws : w.heap.size < w2.heap.size := bq2.lt
  have hc1 := (bb4.alloc (.cells #[.slice (some ⟨g, 0, none⟩) (ka + 1) dZ] 23)).cell
  have hc2' := (bq4.alloc (.cells #[.slice (some ⟨g, 0, none⟩) (ka + 1) dZ] 23))
  have hc3 := (hc2'.alloc (.cells (Array.replicate nq (.int .u64 0)) 40)).cell
  have hc4 := (hc2'.alloc (.cells (Array.replicate nq (.int .u64 0)) 40)).frozen
  clear b1 b2 own2 bE0 bE1 bE2 bE3 b3 own3 b4 bq0 bq2 bb2 rb2 hr hr2 hc hc2 hl hl2
  have hown0 := row_zero (w4.alloc (.cells #[.slice (some ⟨g, 0, none⟩) (ka + 1) dZ] 23)) nq (by omega)
  simp only [World.size_alloc] at hown0 own4
  obtain ⟨F3, hF3⟩ : ∃ F3, ((w4.alloc (.cells #[.slice (some ⟨g, 0, none⟩) (ka + 1) dZ] 23)).alloc (.cells (Array.replicate nq (.int .u64 0)) 40)).setCell ⟨w.heap.size, 0, none⟩ (.slice (some ⟨w4.heap.size + 1, 0, none⟩) nq nq) = F3 := ⟨_, rfl⟩
  have g5 := grownBy_setCell' ((w4.alloc (.cells #[.slice (some ⟨g, 0, none⟩) (ka + 1) dZ] 23)).alloc (.cells (Array.replicate nq (.int .u64 0)) 40)) w.heap.size (.slice (some ⟨w4.heap.size + 1, 0, none⟩) nq nq)
  have hs3 : F3.heap.size = w4.heap.size + 2 := by rw [← hF3]; simp [World.setCell]
  have B5 : Below w.heap.size w F3 := by rw [← hF3]; exact ((B4.alloc B4.size _).alloc (by simp; omega) _).setCell (p := ⟨w.heap.size, 0, none⟩) (Nat.le_refl _) _
  have cq := ((bq4.alloc (.cells #[.slice (some ⟨g, 0, none⟩) (ka + 1) dZ] 23)).alloc (.cells (Array.replicate nq (.int .u64 0)) 40)).set (.slice (some ⟨w4.heap.size + 1, 0, none⟩) nq nq)
  have cb := ((bb4.alloc (.cells #[.slice (some ⟨g, 0, none⟩) (ka + 1) dZ] 23)).alloc (.cells (Array.replicate nq (.int .u64 0)) 40)).kept g5 (by simp; omega)
  have cr := ((Boxed.new w4 23 (.slice (some ⟨g, 0, none⟩) (ka + 1) dZ)).alloc (.cells (Array.replicate nq (.int .u64 0)) 40)).kept g5 (by simp; omega)
  have crow := ((own4.alloc (.cells #[.slice (some ⟨g, 0, none⟩) (ka + 1) dZ] 23)).alloc (.cells (Array.replicate nq (.int .u64 0)) 40)).kept g5 (.inr (by simp [Value.ownBlock]; omega))
  have cqs := hown0.kept g5 (.inr (by simp [Value.ownBlock]; omega))
  have cby : Rd .u64 F3 w2.heap.size (some ⟨gx, 0, none⟩) (wd V) := fun hl => by
    obtain ⟨b, off, e, hb, hc⟩ := rb4 hl
    injection e with e
    injection e with e1 e2 _
    subst e1
    subst e2
    refine ⟨gx, 0, rfl, hb, fun j hj => ?_⟩
    rw [← hc j hj, ← hF3]
    refine World.cell?_of_block ?_
    rw [g5.block gx (by simp; omega) (by simp; omega), Below.heap_alloc _ _ _ (by simp; omega), Below.heap_alloc _ _ _ (by omega)]
  rw [hF3] at cq cb cr crow cqs
  have hc5 := cq.cell
  obtain ⟨E, hE⟩ : ∃ E, F3.alloc (.cells #[.slice (some ⟨w4.heap.size + 1, 0, none⟩) nq nq] 23) = E := ⟨_, rfl⟩
  have hEs : E.heap.size = w4.heap.size + 3 := by rw [← hE, World.size_alloc, hs3]
  have hM0 : ByMid E w.heap.size w2.heap.size w4.heap.size g (ka + 1) dZ nq (m + 1) dX (some ⟨gx, 0, none⟩) (wd V) (wd U ++ [0]) (words nq 0) E := by
    refine ⟨?_, ?_, ?_, ?_, ?_, ?_, Below.refl _ _, by omega, rfl⟩ <;> rw [← hE]
    · exact cq.alloc _
    · exact cb.alloc _
    · exact cr.alloc _
    · exact cby.below ((Below.refl _ F3).alloc (by omega) _)
    · exact crow.alloc _
    · exact cqs.alloc _
  have bA : Boxed E (w4.heap.size + 1 + 1) 23 (.slice (some ⟨w4.heap.size + 1, 0, none⟩) nq nq) := by
    have h := Boxed.new F3 23 (.slice (some ⟨w4.heap.size + 1, 0, none⟩) nq nq)
    rw [hs3, hE] at h
    exact h
  have BE : Below w.heap.size w E := by rw [← hE]; exact B5.alloc B5.size _
  have hVl := length_wd V
  rw [hm] at hVl
  have hUl := length_wd U
  rw [Hka.out] at hUl
  have hwU := wd_words U
  have hL0 : Long V U nq (wd U ++ [0]) (words nq 0) := by
    have e1 : natOf (wd U ++ [0]) = U := by rw [natOf_snoc, natOf_wd]; simp
    have e2 : natOf (words nq 0) = 0 := by rw [natOf_words]; simp
    refine ⟨by rw [e1, e2]; simp, ?_, fun j hj => by rw [nth_words _ _ _ hj]; simp⟩
    rw [e1]
    have h1 := nbits_lt U
    have h2 := nbits_le V (by intro h; rw [h, nbits_zero] at hm; omega)
    rw [HmV.out] at h2
    have h3 : 2 ^ nbits U ≤ 2 ^ (64 * nq + (64 * (m + 1) - 1)) := Nat.pow_le_pow_right (by omega) (by have := Hka.out; have := Hnq.out; omega)
    rw [Nat.pow_add, ← pow_64_2] at h3
    have h4 : 18446744073709551616 ^ nq * 2 ^ (64 * (m + 1) - 1) ≤ 18446744073709551616 ^ nq * V := Nat.mul_le_mul_left _ h2
    omega
  have HL0 := Lib.hid hL0
  have HEs := Lib.hid hEs
  have HBE := Lib.hid BE
  clear hown0 g5 cq cb cr crow cqs cby bq4 bb4 rb4 own4 hc2' B4 B5 hL0 hand HQB HSB HSA HN
  go_wp2_with fail
  go_step3
  go_wp2_with fail
  clear hc1 hc3 hc4 hc5
  refine ((callsIn_wide (n := 9)).1 (back_in _ _ _ _ _)).mono ?_
  rintro e w' ⟨rfl, rfl⟩
  rw [hs3, hE]
  go_wp2_with fail
  refine (wpIn_wide (n := 9)).1 ?_
  have hgR : g < w4.heap.size := hg1
  refine wpIn_rangeFunc_ownG rfl (by omega) (gf := 57) (lb := #[.pointer (some ⟨w4.heap.size + 1 + 1, 0, none⟩)]) rfl trivial (enters_of Try.func57 (by kernel_rfl) rfl)
    (backR_stops 8 (by omega) (w4.heap.size + 1 + 1) nq nq (some ⟨w4.heap.size + 1, 0, none⟩) (fun _ => True) (by omega) E bA ⟨words nq 0, length_words _ _, words_words _ _, trivial, Rd.own hM0.qs⟩)
    KpR.t (KpR.b (by omega)) (Below.refl _ _) (fun _ => rfl)
    (fun pre W => ByI E w.heap.size w2.heap.size w4.heap.size g (ka + 1) dZ nq (m + 1) dX (some ⟨gx, 0, none⟩) (wd V) V U pre W)
    (fun _ _ _ => False)
    (fun s X Y row hs hg hr => by
      obtain ⟨L, Q, h1, h2, h3, h4, h5, h6⟩ := hs
      exact ⟨L, Q, h1, h2, h3, h4, h5.kept hg (fun k e => by have := (hr k e).1; omega) hws (by omega) hgR, h6⟩)
    (fun _ _ _ _ _ hs _ _ => hs)
    ⟨wd U ++ [0], words nq 0, by rw [List.length_append, hUl]; rfl, (fun x hx => by rcases List.mem_append.1 hx with h | h; exact hwU x h; simp at h; omega), length_words _ _, words_words _ _, hM0, fun _ => by simpa using HL0.out⟩
    (fun y => { tmps := #[.slice A na c, .slice A2 nb c2, undef, undef, .pointer (some ⟨w.heap.size, 0, none⟩), .slice none 0 0, .int .i64 (s : Int), .pointer (some ⟨w2.heap.size, 0, none⟩), .pointer (some ⟨w4.heap.size, 0, none⟩), .int .i64 (y.1.1 : Int), undef, undef,
      .slice A2 nb c2, .int .i64 (N : Int), .int .i64 (wrap64 (-(N : Int))), .int .i64 (s : Int), .slice A2 nb c2, .int .i64 (s : Int), .slice (some ⟨gx, 0, none⟩) (m + 1) dX, .slice A na c, .int .i64 (s : Int), .slice Y ka dY, .slice (some ⟨w3.heap.size, 0, none⟩) 1 1,
      .slice (some ⟨g, 0, none⟩) (ka + 1) dZ, .slice (some ⟨g, 0, none⟩) (ka + 1) dZ, .int .i64 ((ka : Int) + 1), .slice (some ⟨gx, 0, none⟩) (m + 1) dX, .int .i64 ((m : Int) + 1), .int .i64 (nq : Int), .slice (some ⟨w4.heap.size + 1, 0, none⟩) nq nq, .slice (some ⟨w4.heap.size + 1, 0, none⟩) nq nq,
      .func (.func 57) #[] #[.pointer (some ⟨w4.heap.size + 1 + 1, 0, none⟩)], .int .i64 (y.1.1 : Int), .int .u64 (y.1.2 : Int),
      undef, undef, undef, undef, undef, undef, undef, undef, undef, undef, undef, undef, undef, undef, undef, undef, undef, undef, undef, undef, undef, undef, undef, undef, undef, undef, undef, undef, undef, undef, undef, undef, undef, undef, undef, undef, undef, undef, undef, undef, undef, undef], defers := [] }) ?assign ?body ?done ?stop
  case assign =>
    intro l x W K hK
    gi_wp2
    exact hK
  case body =>
    rintro l pre y W ⟨L, Q, hLl, hLw, hQl, hQw, hM, hP⟩ hlen
    obtain ⟨⟨i, wd0⟩, hi, hwd⟩ := y
    dsimp only at hi hwd ⊢
    have hrc := hM.rb.cell
    have hbc := hM.bb.cell
    have hqc := hM.qb.cell
    have hik : i + m + 2 ≤ ka + 1 := by have := Hnq.out; omega
    have hdi : ¬ dZ = i := by omega
    have HM := Lib.hid hM
    have HP := Lib.hid hP
    have HLN := Lib.hid hlen
    clear hM hP hlen hM0 bA hsub hm hw hw2 hN64 hEs hs3 hE hF3 BE
    have hll := hLl
    have hdec : i + (m + 1) + 1 - i = m + 1 + 1 := by omega
    gi_wp2
    rw [hdec]
    clear hdec
    have hmx : Try.prog.follows .mixedOrders = true := by kernel_rfl
    obtain ⟨x0, hx0⟩ : ∃ x0, guessV (nth L (i + (m + 1))) (nth L (i + m)) (nth (wd V) m) = x0 := ⟨_, rfl⟩
    have hby0 : W.drew.cell? ⟨gx, 0 + m, none⟩ = some (.int .u64 (nth (wd V) m : Int)) := by
      obtain ⟨b, off, e, _, hcell⟩ := HM.out.by_ (by omega)
      injection e with e
      injection e with e1 e2 _
      subst e1
      subst e2
      exact hcell m (by omega)
    have hG := guess_any g i m (dZ - i) dX (nth L (i + (m + 1))) (nth L (i + m)) (nth (wd V) m) (some ⟨gx, 0, none⟩) gx 0 W.drew rfl (by omega)
      (show W.cell? _ = _ by rw [HM.out.rest.cellAt _ (by omega), ints_get _ _ _ (by omega)]) (show W.cell? _ = _ by rw [HM.out.rest.cellAt _ (by omega), ints_get _ _ _ (by omega)]) hby0 (nth_lt L hLw _) (nth_lt L hLw _) (nth_lt _ (wd_words V) _)
    rw [hx0] at hG
    have HG := Lib.hid hG
    have HX0 := Lib.hid hx0
    clear hG hx0 hby0
    refine wpIn_region_any hmx ?_
    change wpAnyIn _ _ _ _ _ _ _ _ _ (World.drew _)
    refine anyG.toAny (s := 6) (B := fun W' => W'.cell? ⟨w.heap.size, 0, none⟩ = some (.slice (some ⟨w4.heap.size + 1, 0, none⟩) nq nq) ∧ W'.cell? ⟨w2.heap.size, 0, none⟩ = some (.slice (some ⟨gx, 0, none⟩) (m + 1) dX)) ?_
    refine anyG_take (i := 0) (v := .slice (some ⟨w4.heap.size + 1, 0, none⟩) nq nq) rfl (by kernel_rfl) (by kernel_rfl) (by kernel_rfl) (by kernel_rfl) (by kernel_rfl) (by kernel_rfl) (fun _ _ _ h => h) ⟨by rfl, fun W' ⟨g1, g2⟩ => ⟨by go_simp, by rfl⟩⟩ ?_
    refine anyG_take (i := 1) (v := .int .i64 (i : Int)) rfl (by kernel_rfl) (by kernel_rfl) (by kernel_rfl) (by kernel_rfl) (by kernel_rfl) (by kernel_rfl) (fun _ _ _ h => h) ⟨by rfl, fun W' ⟨g1, g2⟩ => ⟨by go_simp, by rfl⟩⟩ ?_
    refine anyG_take (i := 2) (v := .slice (some ⟨g, i, none⟩) (m + 1 + 1) (dZ - i)) rfl (by kernel_rfl) (by kernel_rfl) (by kernel_rfl) (by kernel_rfl) (by kernel_rfl) (by kernel_rfl) (fun _ _ _ h => h) ⟨by rfl, fun W' ⟨g1, g2⟩ => ⟨by go_simp, by rfl⟩⟩ ?_
    refine anyG_take (i := 3) (v := .slice (some ⟨gx, 0, none⟩) (m + 1) dX) rfl (by kernel_rfl) (by kernel_rfl) (by kernel_rfl) (by kernel_rfl) (by kernel_rfl) (by kernel_rfl) (fun _ _ _ h => h) ⟨by rfl, fun W' ⟨g1, g2⟩ => ⟨by go_simp, by rfl⟩⟩ ?_
    refine anyG_one (i := 4) (by kernel_rfl) rfl (fun _ => ⟨hqc, hbc⟩) (fun K hK => ?_)
    go_simp
    refine ⟨trivial, ?_⟩
    refine (CallsIn.inRound l (callsIn_wide.2 HG.out)).mono ?_
    rintro e w' ⟨rfl, k, rfl⟩
    refine hK _ _ ?_
    clear hK K
    refine anyG_take (i := 5) (v := .pointer (some ⟨w4.heap.size + 1, i, none⟩)) rfl (by kernel_rfl) (by kernel_rfl) (by kernel_rfl) (by kernel_rfl) (by kernel_rfl) (by kernel_rfl) (fun _ _ _ h => h) ⟨by rfl, fun W' ⟨g1, g2⟩ => ⟨by go_simp, by rfl⟩⟩ ?_
    have hco1 : (W.drewN (1 + k)).cell? ⟨w4.heap.size + 1, i, none⟩ = some (.int .u64 (nth Q i : Int)) := by
      show W.cell? _ = _
      rw [HM.out.qs.cellAt _ (by omega), ints_get _ _ _ (by omega)]
    have hfo1 : (W.drewN (1 + k)).frozen? ⟨w4.heap.size + 1, i, none⟩ = false := HM.out.qs.frozenAt _
    refine anyG_one (i := 6) (by kernel_rfl) rfl (fun _ => ⟨hqc, hbc⟩) (fun K hK => ?_)
    go_simp
    refine hK _ _ ?_
    clear hK K
    refine anyG_done (by kernel_rfl) (by kernel_rfl) ?_
    have hM1 := (HM.out.kept (Drawn.grown W (1 + k)) (fun _ e => by cases e) hws (by omega) hgR).setQ hws (by omega) hgR i x0
    have hK1 : KeepsOthers W ((W.drewN (1 + k)).setCell ⟨w4.heap.size + 1, i, none⟩ (.int .u64 (x0 : Int))) := (KeepsOthers.of_grownBy (Drawn.grown W (1 + k)) (fun j o e => by cases e)).trans (KeepsOthers.setCell _ _ _)
    obtain ⟨W1, hW1⟩ : ∃ W1, (W.drewN (1 + k)).setCell ⟨w4.heap.size + 1, i, none⟩ (.int .u64 (x0 : Int)) = W1 := ⟨_, rfl⟩
    rw [hW1] at hM1 hK1
    have HM1 := Lib.hid hM1
    have HK1 := Lib.hid hK1
    clear hqc hbc hrc hco1 hfo1
    gi_wp2
    rw [hW1]
    clear hW1
    have hqc := hM1.qb.cell
    have hbc := hM1.bb.cell
    have hqi : W1.cell? ⟨w4.heap.size + 1, i, none⟩ = some (.int .u64 (x0 : Int)) := by
      rw [hM1.qs.cellAt _ (by omega), ints_get _ _ _ (by rw [List.length_set]; omega), nth_set _ _ _ _ (by omega), if_pos rfl]
    have hx0b : x0 < 18446744073709551616 := by rw [← HX0.out]; exact guessV_lt _ _ _ (nth_lt L hLw _)
    have hM1d := hM1.kept (Drawn.grown W1 1) (fun _ e => by cases e) hws (by omega) hgR
    have TK := take_any (w2.heap.size + 1) g (ka + 1) dZ (dZ - i) i (m + 1) dX x0 L (wd V) (some ⟨gx, 0, none⟩) W1.drew hM1d.rest hLw hLl (hM1d.rdx (by omega)) (wd_words V) hVl (by omega) (by omega) hx0b
    have HTK := Lib.hid TK
    have HM1d := Lib.hid hM1d
    clear hM1 hK1 TK hM1d
    refine wpIn_region_any hmx ?_
    change wpAnyIn _ _ _ _ _ _ _ _ _ (World.drew _)
    refine anyG.toAny (s := 7) (B := fun W' => W'.cell? ⟨w2.heap.size, 0, none⟩ = some (.slice (some ⟨gx, 0, none⟩) (m + 1) dX) ∧ W'.cell? ⟨w.heap.size, 0, none⟩ = some (.slice (some ⟨w4.heap.size + 1, 0, none⟩) nq nq) ∧ W'.cell? ⟨w4.heap.size + 1, i, none⟩ = some (.int .u64 (x0 : Int))) ?_
    refine anyG_take (i := 0) (v := .slice (some ⟨g, i, none⟩) (m + 1 + 1) (dZ - i)) rfl (by kernel_rfl) (by kernel_rfl) (by kernel_rfl) (by kernel_rfl) (by kernel_rfl) (by kernel_rfl) (fun _ _ _ h => h) ⟨by rfl, fun W' ⟨g1, g2, g3⟩ => ⟨by go_simp, by rfl⟩⟩ ?_
    refine anyG_take (i := 1) (v := .slice (some ⟨gx, 0, none⟩) (m + 1) dX) rfl (by kernel_rfl) (by kernel_rfl) (by kernel_rfl) (by kernel_rfl) (by kernel_rfl) (by kernel_rfl) (fun _ _ _ h => h) ⟨by rfl, fun W' ⟨g1, g2, g3⟩ => ⟨by go_simp, by rfl⟩⟩ ?_
    refine anyG_take (i := 2) (v := .slice (some ⟨w4.heap.size + 1, 0, none⟩) nq nq) rfl (by kernel_rfl) (by kernel_rfl) (by kernel_rfl) (by kernel_rfl) (by kernel_rfl) (by kernel_rfl) (fun _ _ _ h => h) ⟨by rfl, fun W' ⟨g1, g2, g3⟩ => ⟨by go_simp, by rfl⟩⟩ ?_
    refine anyG_take (i := 3) (v := .int .i64 (i : Int)) rfl (by kernel_rfl) (by kernel_rfl) (by kernel_rfl) (by kernel_rfl) (by kernel_rfl) (by kernel_rfl) (fun _ _ _ h => h) ⟨by rfl, fun W' ⟨g1, g2, g3⟩ => ⟨by go_simp, by rfl⟩⟩ ?_
    refine anyG_take (i := 4) (v := .pointer (some ⟨w4.heap.size + 1, i, none⟩)) rfl (by kernel_rfl) (by kernel_rfl) (by kernel_rfl) (by kernel_rfl) (by kernel_rfl) (by kernel_rfl) (fun _ _ _ h => h) ⟨by rfl, fun W' ⟨g1, g2, g3⟩ => ⟨by go_simp, by rfl⟩⟩ ?_
    refine anyG_take (i := 5) (v := .int .u64 (x0 : Int)) rfl (by kernel_rfl) (by kernel_rfl) (by kernel_rfl) (by kernel_rfl) (by kernel_rfl) (by kernel_rfl) (fun _ _ _ h => h) ⟨by rfl, fun W' ⟨g1, g2, g3⟩ => ⟨by go_simp, by rfl⟩⟩ ?_
    refine anyG_one (i := 6) (by kernel_rfl) rfl (fun _ => ⟨hbc, hqc, hqi⟩) (fun K hK => ?_)
    go_simp
    refine ⟨trivial, ?_⟩
    refine (CallsIn.inRound l (callsIn_wide.2 HTK.out)).mono ?_
    rintro e W2 ⟨L1, o1, rfl, ho1, hT1, hown1, hgr1⟩
    refine hK _ _ ?_
    clear hK K
    have hM2 := HM1d.out.setR hws (by omega) hgR (by omega) hgr1 hown1
    have hK2 : KeepsOthers W W2 := (HK1.out.trans (KeepsOthers.of_grownBy (Drawn.grown W1 1) (fun j o e => by cases e))).trans (KeepsOthers.of_grownBy hgr1 fun j o ej hj => by
      obtain rfl : g = j := by simpa using ej
      exact own_cells HM1d.out.rest hj)
    have HM2 := Lib.hid hM2
    have HK2 := Lib.hid hK2
    have HT1 := Lib.hid hT1
    refine anyG_one (i := 7) (by kernel_rfl) rfl (fun _ => ⟨hM2.bb.cell, hM2.qb.cell, by rw [hM2.qs.cellAt _ (by omega), ints_get _ _ _ (by rw [List.length_set]; omega), nth_set _ _ _ _ (by omega), if_pos rfl]⟩) (fun K hK => ?_)
    clear hM2 hK2 hT1 hown1 hgr1 hbc hqc hqi
    go_simp
    refine hK _ _ ?_
    clear hK K
    refine anyG_done (by kernel_rfl) (by kernel_rfl) ?_
    have hLong : Downs (m := nq) (fun _ => True) (pre ++ [⟨(i, wd0), hi, hwd⟩]) → Long V U (i + 1) L Q := fun hds => by
      obtain ⟨hd0, hidx, _⟩ := hds.ini
      have h := HP.out hd0
      have hl0 := HLN.out
      dsimp only at hidx
      rwa [show nq - pre.length = i + 1 by omega] at h
    have hPl : Downs (m := nq) (fun _ => True) (pre ++ [⟨(i, wd0), hi, hwd⟩]) → Place (ka + 1) (i + (m + 1 + 1)) (18446744073709551616 ^ i * V) (18446744073709551616 ^ (i + (m + 1 + 1))) (natOf L) x0 o1 L1 ∧ x0 + 0 ≤ natOf L / (18446744073709551616 ^ i * V) + 2 := fun hds =>
      place_start HmV.out hVl hLw (hLong hds) HX0.out HT1.out ho1
    have HLong := Lib.hid hLong
    have HPl := Lib.hid hPl
    have HL1 := Lib.hid (show L1.length = ka + 1 ∧ Words L1 from ⟨HT1.out.len, HT1.out.words⟩)
    have hVpos : 0 < V := by
      rcases Nat.eq_zero_or_pos V with h | h
      · have := HmV.out; rw [h, nbits_zero] at this; omega
      · exact h
    clear hLong hPl
    gi_wp2
    gi_loopw [55, 11] (fun cv ov wr => ∃ (t x o : Nat) (L' : List Nat), t ≤ 2 ∧ cv = .int .i64 (t : Int) ∧ ov = .int .u64 (o : Int) ∧ o ≤ 1 ∧ x < 18446744073709551616 ∧ L'.length = ka + 1 ∧ Words L' ∧ ByMid E w.heap.size w2.heap.size w4.heap.size g (ka + 1) dZ nq (m + 1) dX (some ⟨gx, 0, none⟩) (wd V) L' (Q.set i x) wr ∧ KeepsOthers W wr ∧
      (Downs (m := nq) (fun _ => True) (pre ++ [⟨(i, wd0), hi, hwd⟩]) → Place (ka + 1) (i + (m + 1 + 1)) (18446744073709551616 ^ i * V) (18446744073709551616 ^ (i + (m + 1 + 1))) (natOf L) x o L' ∧ x + t ≤ natOf L / (18446744073709551616 ^ i * V) + 2)) (fun cv _ _ => 2 - (intOf cv).toNat)
    case atStart => exact ⟨0, x0, o1, L1, by omega, rfl, rfl, ho1, hx0b, HL1.out.1, HL1.out.2, HM2.out, HK2.out, HPl.out⟩
    case round =>
      clear HM2 HK2 HPl HL1 HT1 HTK HM1d HG HM1 HK1 ho1 hx0b
      obtain ⟨t, x, o, L', ht, rfl, rfl, ho, hxb, hLl', hLw', hM3, hK3, hPl⟩ := hrel
      have hfin : (Downs (m := nq) (fun _ => True) (pre ++ [⟨(i, wd0), hi, hwd⟩]) → o = 0) → KeepsFrom E.heap.size W wr ∧ KpR (w4.heap.size + 1 + 1) (some ⟨w4.heap.size + 1, 0, none⟩) nq (fun _ => True) W wr ∧
          ByI E w.heap.size w2.heap.size w4.heap.size g (ka + 1) dZ nq (m + 1) dX (some ⟨gx, 0, none⟩) (wd V) V U (pre ++ [⟨(i, wd0), hi, hwd⟩]) wr := fun ho0 => by
        refine ⟨hK3.from _, ⟨hM3.it.trans HM.out.it.symm, fun _ => ⟨Q.set i x, by rw [List.length_set, hQl], words_put _ hQw _ _ hxb, trivial, Rd.own hM3.qs⟩⟩, L', Q.set i x, hLl', hLw', by rw [List.length_set, hQl], words_put _ hQw _ _ hxb, hM3, fun hds => ?_⟩
        have hl0 := HLN.out
        obtain ⟨_, hidx, _⟩ := hds.ini
        dsimp only at hidx
        rw [show nq - (pre ++ [(⟨(i, wd0), hi, hwd⟩ : WI nq)]).length = i by rw [List.length_append, List.length_singleton]; omega]
        have h := (hPl hds).1
        rw [ho0 hds] at h
        exact place_end hVpos (HLong.out hds) (by omega) h
      have HF := Lib.hid hfin
      have HP3 := Lib.hid hPl
      have HM3 := Lib.hid hM3
      have HK3 := Lib.hid hK3
      have hqc := hM3.qb.cell
      have hbc := hM3.bb.cell
      have hqi : wr.cell? ⟨w4.heap.size + 1, i, none⟩ = some (.int .u64 (x : Int)) := by
        rw [hM3.qs.cellAt _ (by omega), ints_get _ _ _ (by rw [List.length_set]; omega), nth_set _ _ _ _ (by omega), if_pos rfl]
      have hqf : wr.frozen? ⟨w4.heap.size + 1, i, none⟩ = false := hM3.qs.frozenAt _
      have hD : 0 < 18446744073709551616 ^ i * V := Nat.mul_pos (Nat.pow_pos (by omega)) hVpos
      have HD := Lib.hid hD
      clear hfin hPl hM3 hK3 hD
      by_cases ht2 : t < 2
      · by_cases ho0 : o = 0
        · subst ho0
          have HFF := Lib.hid (HF.out (fun _ => rfl))
          clear HF
          gi_wp2
          exact HFF.out
        · obtain rfl : o = 1 := by omega
          obtain ⟨x', hx'⟩ : ∃ x', (x + 18446744073709551615) % 18446744073709551616 = x' := ⟨_, rfl⟩
          have ex : IntKind.u64.wrap ((x : Int) - 1) = (x' : Int) := by rw [wrap_u64]; omega
          have hx'b : x' < 18446744073709551616 := by omega
          have hM4 := HM3.out.setQ hws (by omega) hgR i x'
          rw [List.set_set] at hM4
          have GV := give_any (w2.heap.size + 1) g (ka + 1) dZ (dZ - i) i (m + 1) dX L' (wd V) (some ⟨gx, 0, none⟩) (wr.setCell ⟨w4.heap.size + 1, i, none⟩ (.int .u64 (x' : Int))) hM4.rest hLw' hLl' (hM4.rdx (by omega)) (wd_words V) hVl (by omega) (by omega)
          have HGV := Lib.hid GV
          have HM4 := Lib.hid hM4
          have HX' := Lib.hid hx'
          have hbc4 := hM4.bb.cell
          have HXB := Lib.hid hx'b
          have HXB0 := Lib.hid hxb
          have t1 : (t : Int) < 2 := by omega
          clear GV hM4 hx' ho0 hxb hx'b ho
          gi_wp2
          refine ⟨trivial, ?_⟩
          refine (CallsIn.inRound l (callsIn_wide.2 HGV.out)).mono ?_
          rintro e W5 ⟨L5, c5, rfl, hc5, hG5, hown5, hgr5⟩
          have hM5 := HM4.out.setR hws (by omega) hgR (by omega) hgr5 hown5
          have HM5 := Lib.hid hM5
          have HK5 := Lib.hid (show KeepsOthers W W5 from (HK3.out.trans (KeepsOthers.setCell _ ⟨w4.heap.size + 1, i, none⟩ (.int .u64 (x' : Int)))).trans (KeepsOthers.of_grownBy hgr5 fun j o ej hj => by
            obtain rfl : g = j := by simpa using ej
            exact own_cells HM4.out.rest hj))
          have HP5 := Lib.hid (show Downs (m := nq) (fun _ => True) (pre ++ [⟨(i, wd0), hi, hwd⟩]) → Place (ka + 1) (i + (m + 1 + 1)) (18446744073709551616 ^ i * V) (18446744073709551616 ^ (i + (m + 1 + 1))) (natOf L) x' (1 - c5) L5 ∧ x' + (t + 1) ≤ natOf L / (18446744073709551616 ^ i * V) + 2 from fun hds => by
            obtain ⟨h1, h2⟩ := HP3.out hds
            have hv := hG5.val
            rw [natOf_wd] at hv
            obtain ⟨h3, h4⟩ := h1.back HD.out (by omega) hG5.len hG5.words hv hG5.same hc5
            have hq1 := HX'.out
            have hq2 := HXB0.out
            have hq3 : x' = x - 1 := by clear hv h4 h2 h1; omega
            rw [hq3]
            exact ⟨h4, by omega⟩)
          have HG5 := Lib.hid hG5
          have e5 : IntKind.u64.wrap (1 - (c5 : Int)) = ((1 - c5 : Nat) : Int) := by rw [wrap_u64]; omega
          clear hM5 hG5 hown5 hgr5
          gi_wp2
          go_roundw
          case rel => exact ⟨t + 1, x', 1 - c5, L5, by omega, by go_num, by go_num, by omega, HXB.out, HG5.out.len, HG5.out.words, HM5.out, HK5.out, HP5.out⟩
          case measure => simp [intOf]; omega
      · have HFF := Lib.hid (HF.out (fun hds => by
          obtain ⟨h1, h2⟩ := HP3.out hds
          rcases Nat.eq_zero_or_pos o with h | h
          · exact h
          · have := h1.more HD.out (by omega)
            omega))
        obtain rfl : t = 2 := by omega
        clear HF
        gi_wp2
        exact HFF.out
  case done =>
    rintro D ys W hD ⟨hds, hyl⟩ ⟨L, Q, hLl, hLw, hQl, hQw, hM, hP⟩ hK
    have hfin := hP hds
    rw [hyl, Nat.sub_self] at hfin
    obtain ⟨eQ, eL⟩ := long_end hfin
    have h2s : 0 < 2 ^ s := Nat.pow_pos (by omega)
    have eQ2 : natOf Q = natOf a / natOf b := by rw [eQ, ← HV.out, ← HU.out, Nat.mul_div_mul_left _ _ h2s]
    have eL2 : shrS (natOf L) (s : Int) = natOf a % natOf b := by
      unfold shrS
      rw [if_pos (by omega), Int.toNat_natCast, eL, ← HV.out, ← HU.out, Nat.mul_mod_mul_left, Nat.mul_div_cancel_left _ h2s]
    have hQN := natOf_lt Q hQw
    rw [hQl, eQ2] at hQN
    have hQe : Q = words nq (natOf a / natOf b) := words_of Q hQw nq _ hQl eQ2
    have hrow := hM.qs
    rw [hQe] at hrow
    have hrow1 : W.drew.ownsRow (w4.heap.size + 1) 40 1 (.slice (some ⟨w4.heap.size + 1, 0, none⟩) nq nq) nq (ints .u64 (words nq (natOf a / natOf b))) := (Drawn.more 1).own hrow
    obtain ⟨T, hT⟩ : ∃ T, (nbits (natOf a / natOf b) + 63) / 64 = T := ⟨_, rfl⟩
    have hTn := tl_le (words nq (natOf a / natOf b)) (words_words _ _)
    rw [length_words, tl_words _ _ hQN, hT] at hTn
    have DT := dtrim_own W.drew _ nq nq (natOf a / natOf b) _ hrow1 hQN (by omega) (Nat.le_refl _)
    rw [hT] at DT
    have HDT := Lib.hid DT
    have hotr := own_trim hrow1 hQN
    rw [hT] at hotr
    have SR := natShr_any (some ⟨g, 0, none⟩) dZ L W.drew ((Rd.own ((Drawn.more 1).own hM.rest))) hLw (by omega) (by omega) (s : Int)
    rw [hLl, eL2] at SR
    have HSR := Lib.hid SR
    have HOT := Lib.hid hotr
    have HM := Lib.hid hM
    have HK := Lib.hid hK
    have HT := Lib.hid hT
    have hmx : Try.prog.follows .mixedOrders = true := by kernel_rfl
    have hqc := hM.qb.cell
    have hrc := hM.rb.cell
    have hD2 : w4.heap.size + 3 ≤ D := by have := HEs.out; omega
    clear hP hds hyl hK hM hrow hrow1 DT SR hotr eQ eL eQ2 eL2 hQe hfin hM0 bA hT hQw hLw hm hsub hw hw2 hN64
    go_wp2_with fail
    refine (wpIn_wide (n := 9)).1 ?_
    refine only_end ?_
    refine wpIn_region_any hmx ?_
    change wpAnyIn _ _ _ _ _ _ _ _ _ (World.drew _)
    refine anyG.toAny (s := 6) (B := fun W' => W'.cell? ⟨w4.heap.size, 0, none⟩ = some (.slice (some ⟨g, 0, none⟩) (ka + 1) dZ)) ?_
    refine anyG_take (i := 2) (v := .slice (some ⟨g, 0, none⟩) (ka + 1) dZ) rfl (by kernel_rfl) (by kernel_rfl) (by kernel_rfl) (by kernel_rfl) (by kernel_rfl) (by kernel_rfl) (fun _ _ _ h => h) ⟨by rfl, fun W' g1 => ⟨by go_simp, by rfl⟩⟩ ?_
    refine anyG_take (i := 3) (v := .int .i64 (s : Int)) rfl (by kernel_rfl) (by kernel_rfl) (by kernel_rfl) (by kernel_rfl) (by kernel_rfl) (by kernel_rfl) (fun _ _ _ h => h) ⟨by rfl, fun W' g1 => ⟨by go_simp, by rfl⟩⟩ ?_
    refine anyG_one (i := 0) (by kernel_rfl) rfl (fun _ => hrc) (fun K hK => ?_)
    go_simp
    refine hK _ _ ?_
    clear hK K
    refine anyG_one (i := 1) (by kernel_rfl) rfl (fun _ => hrc) (fun K hK => ?_)
    go_simp
    refine ⟨trivial, ?_⟩
    refine (callsIn_wide.2 HDT.out).mono ?_
    rintro e w' ⟨rfl, rfl⟩
    refine hK _ _ ?_
    clear hK K
    refine anyG_one (i := 4) (by kernel_rfl) rfl (fun _ => hrc) (fun K hK => ?_)
    go_simp
    refine ⟨trivial, ?_⟩
    refine (callsIn_wide.2 HSR.out).mono ?_
    rintro e w5 ⟨v5, rfl, own5, b5⟩
    obtain ⟨Z5, d5, rfl, hd5, _⟩ := own_form own5
    refine hK _ _ ?_
    clear hK K
    have hszW := HM.out.size
    have bq5 : Boxed w5 w.heap.size 23 (.slice (some ⟨w4.heap.size + 1, 0, none⟩) nq nq) := (b5.block _ (by show w.heap.size < W.heap.size; omega)).trans HM.out.qb
    have br5 : Boxed w5 w4.heap.size 23 (.slice (some ⟨g, 0, none⟩) (ka + 1) dZ) := (b5.block _ (by show w4.heap.size < W.heap.size; omega)).trans HM.out.rb
    have hq5 := bq5.cell
    have hqf5 := bq5.frozen
    have hr5 := br5.cell
    have g6 := grownBy_setCell' w5 w.heap.size (.slice (some ⟨w4.heap.size + 1, 0, none⟩) T nq)
    have br6 := br5.kept g6 (by simp; omega)
    refine anyG_one (i := 5) (by kernel_rfl) rfl (fun _ => hr5) (fun K hK => ?_)
    go_simp
    refine hK _ _ ?_
    clear hK K
    refine anyG_one (i := 6) (by kernel_rfl) rfl (fun _ => br6.cell) (fun K hK => ?_)
    go_simp
    refine hK _ _ ?_
    clear hK K
    refine anyG_done (by kernel_rfl) (by kernel_rfl) ?_
    have bq6 := bq5.set (.slice (some ⟨w4.heap.size + 1, 0, none⟩) T nq)
    have hoT5 : w5.ownsRow (w4.heap.size + 1) 40 1 (.slice (some ⟨w4.heap.size + 1, 0, none⟩) T nq) T (ints .u64 (wd (natOf a / natOf b))) := own_step HOT.out b5
    have hoT6 := hoT5.kept g6 (.inr (by simp [Value.ownBlock]; omega))
    have ho6 := own5.kept g6 (.inr (by
      intro e
      rcases own5.2 with ⟨hv, _⟩ | ⟨g', cap, cur, hv, hgb, _⟩
      · rw [hv] at e; cases e
      · rw [hv] at e
        have : W.heap.size ≤ g' := hgb
        simp [Value.ownBlock] at e
        omega))
    have hB6 : Below w.heap.size w (w5.setCell ⟨w.heap.size, 0, none⟩ (.slice (some ⟨w4.heap.size + 1, 0, none⟩) T nq)) := (((HBE.out.trans (HM.out.below.mono (by omega))).trans ((Drawn.more 1).below _)).trans (b5.mono (by show w.heap.size ≤ W.heap.size; omega))).setCell (p := ⟨w.heap.size, 0, none⟩) (Nat.le_refl _) _
    have hDW : D < W.heap.size := (Array.getElem?_eq_some_iff.1 HK.out).1
    have hK6 : (w5.setCell ⟨w.heap.size, 0, none⟩ (.slice (some ⟨w4.heap.size + 1, 0, none⟩) T nq)).heap[D]? = some (.deferred (some [])) := (KeepsOthers.setCell w5 ⟨w.heap.size, 0, none⟩ (.slice (some ⟨w4.heap.size + 1, 0, none⟩) T nq)).same D _ ((b5.block D hDW).trans HK.out) rfl
    have HBQ := Lib.hid bq6
    have HO6 := Lib.hid ho6
    have HOT6 := Lib.hid hoT6
    have HB6 := Lib.hid hB6
    have HK6 := Lib.hid hK6
    clear bq5 br5 hq5 hqf5 hr5 g6 br6 bq6 hoT5 hoT6 ho6 hB6 hK6 own5 b5 hqc hrc HM HOT HDT HSR
    go_wp2_with fail
    rw [Exit.noGoto_ret]
    change bodyPostM Fence.wide 9 Try.prog Try.f49 _ Exit.ret _ _
    refine ⟨by simp, .inl ⟨_, _, rfl, run_takeDeferred HK6.out, ?_⟩⟩
    have hcq := cell_kept HBQ.out.cell (grownBy_putObj' _ D (.deferred none)) (fun r e => by cases e; exact ⟨_, HK6.out, rfl⟩)
    have hoT7 := ownsRow_putObj HOT6.out (.deferred none) HK6.out rfl
    have ho7 := ownsRow_putObj HO6.out (.deferred none) HK6.out rfl
    have hBB := HB6.out.trans (belowK_b (w := w) (Nat.le_refl _) _ D _ (.deferred none) (by omega) HK6.out rfl rfl)
    refine ⟨.tuple #[.slice (some ⟨w4.heap.size + 1, 0, none⟩) T nq, .slice Z5 ((nbits (natOf a % natOf b) + 63) / 64) d5], by simp [results, Try.f49, go_sem, hcq], ?_⟩
    have hrl := nbits_mono (Nat.mod_le (natOf a) (natOf b))
    have hra := nbits_natOf a hw'
    exact ⟨_, _, _, _, _, _, rfl, ⟨by rw [← HT.out]; exact length_wd _, by have := Hnq.out; omega, Rd.own hoT7, hTn⟩, ⟨length_wd _, by have := Hna.out; omega, Rd.own ho7, hd5⟩, hBB⟩
  case stop =>
    rintro D c pre W _ _ h _
    exact h.elim
end Go.Proofs.Ytekgoceainibaaa
/- div.Div, div.Mod. Conditions: as typed (lengths that fit a machine). -/
namespace Go.Proofs.Ytekgoceainibaaa
open Go.RowKit
set_option maxRecDepth 20000
/-- What Div answers where it divides by one word, or by more. -/
theorem outWord_num {M x : Nat} {w w' : World} {e : Ending} (h : OutWord M x w e w') : ∃ X q d r, e = .returned (.tuple #[.slice X q d, .int .u64 ((r : Nat) : Int), .int .i64 0]) ∧ r = M % x ∧ NatIs w' X q d (M / x) ∧ Below w.heap.size w w' := by
  obtain ⟨X, q, d, e1, e2, e3⟩ := h
  exact ⟨X, q, d, _, e1, rfl, e2, e3⟩
section
variable (A A2 : Option Addr) (c c2 : Nat) (a b : List Nat) (w : World) (hr : Rd .u64 w w.heap.size A a) (hw : Words a) (hl : a.length ≤ 10000) (hc : a.length ≤ c) (hr2 : Rd .u64 w w.heap.size A2 b) (hw2 : Words b) (hl2 : b.length ≤ 10000) (hc2 : b.length ≤ c2)
include hr hw hl hc hr2 hw2 hl2 hc2
set_option maxHeartbeats 1000000 in
theorem div_zero_pf (h0 : natOf b = 0) : Calls Try.prog 28 #[.slice A a.length c, .slice A2 b.length c2] w (OutErr3 5 w) := by
  have _ := And.intro hr (And.intro hw (And.intro hl hc))
  have S := natSmall_any A2 c2 b w hr2 hw2 (by omega) hc2
  rw [h0, show smallV 0 = 0 by simp [smallV], show smallB 0 = true by simp [smallB]] at S
  have HS := Lib.hid S
  clear S h0
  go_enter Try.func28, Try.ntmps28
  go_wp2_with fail
  refine (HS.out).mono ?_
  rintro e w1 ⟨rfl, b1⟩
  go_wp2_with fail
  refine (divWord_zero_pf A a.length c w1).mono ?_
  rintro e w2 ⟨X, d, rfl, b2⟩
  have B2 := b1.trans (b2.mono b1.size)
  go_wp2_with fail
  refine (natOf_any 0 w2 (by omega)).mono ?_
  rintro e w3 ⟨v3, rfl, own3, b3⟩
  obtain ⟨Y, f, rfl, _, _⟩ := own_form own3
  have B3 := B2.trans (b3.mono B2.size)
  rw [nbits_zero]
  clear own3
  go_wp2_with fail
  go_ret3
  exact ⟨X, d, Y, f, rfl, B3⟩
set_option maxHeartbeats 1000000 in
theorem div_ok_pf (h0 : natOf b ≠ 0) : Calls Try.prog 28 #[.slice A a.length c, .slice A2 b.length c2] w (OutDiv (natOf a) (natOf b) w) := by
  have S := natSmall_any A2 c2 b w hr2 hw2 (by omega) hc2
  by_cases hs : natOf b < 18446744073709551616
  · rw [show smallV (natOf b) = ((natOf b : Nat) : Int) by simp [smallV, hs], show smallB (natOf b) = true by simp [smallB, hs]] at S
    have HS := Lib.hid S
    have H0 := Lib.hid h0
    have Hs := Lib.hid hs
    clear S h0 hs
    go_enter Try.func28, Try.ntmps28
    go_wp2_with fail
    refine (HS.out).mono ?_
    rintro e w1 ⟨rfl, b1⟩
    go_wp2_with fail
    refine (divWord_ok_pf A a.length c (natOf b) a w1 rfl ((hr.below b1).more b1.size) hw hl hc (by have := H0.out; omega) Hs.out).mono ?_
    intro e w2 h2
    obtain ⟨X, q, d, r, rfl, hre, hX, b2⟩ := outWord_num h2
    have hrb : r < 18446744073709551616 := by have := Hs.out; have := Nat.mod_lt (natOf a) (show 0 < natOf b by have := H0.out; omega); omega
    have Hre := Lib.hid hre
    have B2 := b1.trans (b2.mono b1.size)
    clear hre h2
    go_wp2_with fail
    refine (natOf_any r w2 hrb).mono ?_
    rintro e w3 ⟨v3, rfl, own3, b3⟩
    obtain ⟨Y, f, rfl, hf, _⟩ := own_form own3
    have B3 := B2.trans (b3.mono B2.size)
    have hX3 := hX.step b3
    have hn1 := nbits_of_lt r 64 hrb
    have hY : NatIs w3 Y ((nbits r + 63) / 64) f (natOf a % natOf b) := by rw [← Hre.out]; exact ⟨length_wd _, by omega, Rd.own own3, hf⟩
    clear own3 hX
    go_wp2_with fail
    go_ret3
    exact ⟨X, q, d, Y, _, f, rfl, hX3, hY, B3⟩
  · rw [show smallV (natOf b) = 0 by simp [smallV, hs], show smallB (natOf b) = false by simp [smallB, hs]] at S
    have HS := Lib.hid S
    have Hs := Lib.hid hs
    clear S h0 hs
    go_enter Try.func28, Try.ntmps28
    go_wp2_with fail
    refine (HS.out).mono ?_
    rintro e w1 ⟨rfl, b1⟩
    go_wp2_with fail
    have r1 := (hr.below b1).more b1.size
    have r2 := (hr2.below b1).more b1.size
    refine (natCmp_any A A2 c c2 a b w1 r1 hw (by omega) hc r2 hw2 (by omega) hc2).mono ?_
    rintro e w2 ⟨rfl, b2⟩
    have B2 := b1.trans (b2.mono b1.size)
    have r1 := (hr.below B2).more B2.size
    have r2 := (hr2.below B2).more B2.size
    by_cases hlt : natOf a < natOf b
    · have hcm : cmpS (natOf a) (natOf b) = -1 := by unfold cmpS; rw [if_pos hlt]
      have Hlt := Lib.hid hlt
      rw [hcm]
      clear hlt hcm
      go_wp2_with fail
      refine (natTrim_any A c a w2 r1 hw (by omega) hc).mono ?_
      rintro e w3 ⟨v3, rfl, own3, b3⟩
      obtain ⟨Y, f, rfl, hf, _⟩ := own_form own3
      have B3 := B2.trans (b3.mono B2.size)
      have hna := nbits_natOf a hw
      have hY : NatIs w3 Y ((nbits (natOf a) + 63) / 64) f (natOf a % natOf b) := by rw [Nat.mod_eq_of_lt Hlt.out]; exact ⟨length_wd _, by omega, Rd.own own3, hf⟩
      have hX : NatIs w3 none 0 0 (natOf a / natOf b) := by
        rw [Nat.div_eq_of_lt Hlt.out]
        have e : wd 0 = [] := by simp [wd, nbits_zero, words]
        exact ⟨by rw [e]; rfl, by omega, by rw [e]; exact Rd.nil, Nat.le_refl _⟩
      clear own3 hna
      go_wp2_with fail
      go_ret3
      exact ⟨none, 0, 0, Y, _, f, rfl, hX, hY, B3⟩
    · have hcm : ¬ cmpS (natOf a) (natOf b) < 0 := by
        unfold cmpS
        rw [if_neg hlt]
        split <;> omega
      have Hlt := Lib.hid hlt
      generalize cmpS (natOf a) (natOf b) = cm at *
      clear hlt
      go_wp2_with fail
      refine (byWords_pf A A2 a.length b.length c c2 a b w2 rfl rfl r1 hw hl hc r2 hw2 hl2 hc2 (by have := Hs.out; omega) (by have := Hlt.out; omega)).mono ?_
      rintro e w3 ⟨X, q, d, Y, r, f, rfl, hX, hY, b3⟩
      have B3 := B2.trans (b3.mono B2.size)
      go_wp2_with fail
      go_ret3
      exact ⟨X, q, d, Y, r, f, rfl, hX, hY, B3⟩
end
end Go.Proofs.Ytekgoceainibaaa
/- div's contracts, as laws use them. Conditions: as typed (lengths that fit a machine, a capacity that is not below its length). -/
namespace Go.Proofs.Ytekgoceainibaaa
open Go.RowKit
set_option maxRecDepth 20000
section
variable (A A2 : Option Addr) (c c2 : Nat) (a b : List Nat) (w : World) (hr : Rd .u64 w w.heap.size A a) (hw : Words a) (hl : a.length ≤ 10000) (hc : a.length ≤ c) (hr2 : Rd .u64 w w.heap.size A2 b) (hw2 : Words b) (hl2 : b.length ≤ 10000) (hc2 : b.length ≤ c2)
include hr hw hl hc
theorem divWord_ok (x : Nat) (hx : 0 < x) (hx2 : x < 18446744073709551616) : Calls Try.prog 31 #[.slice A a.length c, .int .u64 x] w (OutWord (natOf a) x w) := divWord_ok_pf A a.length c x a w rfl hr hw hl hc hx hx2
include hr2 hw2 hl2 hc2
theorem divDiv_zero (h0 : natOf b = 0) : Calls Try.prog 28 #[.slice A a.length c, .slice A2 b.length c2] w (OutErr3 5 w) := div_zero_pf A A2 c c2 a b w hr hw hl hc hr2 hw2 hl2 hc2 h0
theorem divDiv_ok (h0 : natOf b ≠ 0) : Calls Try.prog 28 #[.slice A a.length c, .slice A2 b.length c2] w (OutDiv (natOf a) (natOf b) w) := div_ok_pf A A2 c c2 a b w hr hw hl hc hr2 hw2 hl2 hc2 h0
end
end Go.Proofs.Ytekgoceainibaaa
/- div's contracts in the form that laws use. Conditions: as typed. -/
namespace Go.Proofs.Ytekgoceainibaaa
open Go.RowKit
set_option maxRecDepth 20000
section
variable {w : World} {A A2 : Option Addr} {n m c c2 M N : Nat}
theorem bDiv_zero (h : NatIn w A n c M) (k : NatIn w A2 m c2 N) (h0 : N = 0) (hs : n ≤ 10000) (hs2 : m ≤ 10000) : Calls Try.prog 28 #[.slice A n c, .slice A2 m c2] w (OutErr3 5 w) := by
  obtain ⟨l, rfl, rfl, h3, h4, h5, h6⟩ := h
  obtain ⟨l2, rfl, rfl, k3, k4, k5, k6⟩ := k
  exact divDiv_zero A A2 c c2 l l2 w h5 h3 hs h6 k5 k3 hs2 k6 h0
theorem bDiv_ok (h : NatIn w A n c M) (k : NatIn w A2 m c2 N) (h0 : N ≠ 0) (hs : n ≤ 10000) (hs2 : m ≤ 10000) : Calls Try.prog 28 #[.slice A n c, .slice A2 m c2] w (OutDiv M N w) := by
  obtain ⟨l, rfl, rfl, h3, h4, h5, h6⟩ := h
  obtain ⟨l2, rfl, rfl, k3, k4, k5, k6⟩ := k
  exact divDiv_ok A A2 c c2 l l2 w h5 h3 hs h6 k5 k3 hs2 k6 h0
theorem bWord_ok (h : NatIn w A n c M) (hs : n ≤ 10000) (x : Nat) (hx : 0 < x) (hx2 : x < 18446744073709551616) : Calls Try.prog 31 #[.slice A n c, .int .u64 x] w (OutWord M x w) := by
  obtain ⟨l, rfl, rfl, h3, h4, h5, h6⟩ := h
  exact divWord_ok A c l w h5 h3 hs h6 x hx hx2
theorem cmp_less (h : NatIn w A n c M) (k : NatIn w A2 m c2 N) (hlt : M < N) : Calls Try.prog 21 #[.slice A n c, .slice A2 m c2] w fun e w' => e = .returned (.int .i64 (-1)) ∧ Below w.heap.size w w' := by
  have h := bCmp h k
  rwa [show cmpS M N = -1 by unfold cmpS; rw [if_pos hlt]] at h
end
theorem bOf (w : World) (n : Nat) (hn : n < 18446744073709551616) : Calls Try.prog 47 #[.int .u64 (n : Int)] w (OutN n w) :=
  Calls.mono (natOf_any n w hn) fun _ _ h => h.out (by have := nbits_of_lt n 64 hn; omega)
/-! The examples -/
end Go.Proofs.Ytekgoceainibaaa
/- Plain facts on square and cube roots, rounded down. No condition but those typed; no program is named. -/
namespace Go.Proofs.Ytekgoceainibaaa
/-- R is the root: its power is at most N, that of one more is above. -/
def IsRoot (k N R : Nat) : Prop := R ^ k ≤ N ∧ N < (R + 1) ^ k
theorem IsRoot.le {k N R S : Nat} (hR : R ^ k ≤ N) (hS : N < (S + 1) ^ k) : R ≤ S := by
  rcases Nat.lt_or_ge S R with h | h
  · have := Nat.pow_le_pow_left (show S + 1 ≤ R by omega) k; omega
  · exact h
theorem IsRoot.uniq {k N R S : Nat} (h : IsRoot k N R) (h' : IsRoot k N S) : R = S :=
  Nat.le_antisymm (IsRoot.le h.1 h'.2) (IsRoot.le h'.1 h.2)
theorem root_some (k N : Nat) (hk : 0 < k) : ∃ R, IsRoot k N R := by
  have key : ∀ b, N < (b + 1) ^ k → ∃ R, IsRoot k N R := by
    intro b
    induction b with
    | zero => intro h; exact ⟨0, by rw [Nat.zero_pow hk]; omega, h⟩
    | succ b ih =>
      intro h
      rcases Nat.lt_or_ge N ((b + 1) ^ k) with h1 | h1
      · exact ih h1
      · exact ⟨b + 1, h1, h⟩
  refine key N ?_
  have h1 := Nat.pow_le_pow_right (show 0 < N + 1 by omega) hk
  rw [Nat.pow_one] at h1
  omega
theorem IsRoot.self {k N R : Nat} (h : IsRoot k N R) (hk : 0 < k) : R ≤ N := by
  rcases Nat.eq_zero_or_pos R with h1 | h1
  · omega
  · have h2 := Nat.pow_le_pow_right h1 hk
    rw [Nat.pow_one] at h2
    exact Nat.le_trans h2 h.1
theorem IsRoot.bits {k N R : Nat} (h : IsRoot k N R) (hk : 0 < k) : nbits R ≤ nbits N := nbits_mono (h.self hk)
theorem pow_two (a : Nat) : a ^ 2 = a * a := by rw [Nat.pow_succ, Nat.pow_one]
theorem pow_three (a : Nat) : a ^ 3 = a * (a * a) := by rw [Nat.pow_succ, pow_two, Nat.mul_comm]
theorem isRoot_two {N R : Nat} : IsRoot 2 N R ↔ R * R ≤ N ∧ N < (R + 1) * (R + 1) := by unfold IsRoot; rw [pow_two, pow_two]
theorem isRoot_three {N R : Nat} : IsRoot 3 N R ↔ R * (R * R) ≤ N ∧ N < (R + 1) * ((R + 1) * (R + 1)) := by unfold IsRoot; rw [pow_three, pow_three]
/-- The root of a power. -/
theorem root_pow (k a : Nat) (hk : 0 < k) : IsRoot k (a ^ k) a := ⟨Nat.le_refl _, Nat.pow_lt_pow_left (by omega) (by omega)⟩
theorem root_sq (a : Nat) : IsRoot 2 (a * a) a := by rw [← pow_two]; exact root_pow 2 a (by omega)
theorem root_cb (a : Nat) : IsRoot 3 (a * a * a) a := by
  rw [Nat.mul_assoc, ← pow_three]; exact root_pow 3 a (by omega)
theorem sq_next (a : Nat) : (a + 1) * (a + 1) = a * a + (a + a) + 1 := by rw [Nat.add_mul, Nat.mul_add]; omega
theorem root_top (a : Nat) : IsRoot 2 (a * a + (a + a)) a := by
  rw [isRoot_two, sq_next]; omega
theorem root_over (a : Nat) : IsRoot 2 (a * a + (a + a) + 1) (a + 1) := by rw [← sq_next]; exact root_sq (a + 1)
theorem root_below (a : Nat) (h : 0 < a) : IsRoot 2 (a * a - 1) (a - 1) := by
  obtain ⟨b, rfl⟩ : ∃ b, a = b + 1 := ⟨a - 1, by omega⟩
  rw [sq_next, Nat.add_sub_cancel, Nat.add_sub_cancel]
  exact root_top b
theorem root_below3 (a : Nat) (h : 0 < a) : IsRoot 3 (a * a * a - 1) (a - 1) := by
  obtain ⟨b, rfl⟩ : ∃ b, a = b + 1 := ⟨a - 1, by omega⟩
  have h1 : b ^ 3 < (b + 1) ^ 3 := Nat.pow_lt_pow_left (by omega) (by omega)
  have h2 : (b + 1) ^ 3 = (b + 1) * (b + 1) * (b + 1) := by rw [pow_three, Nat.mul_assoc]
  rw [← h2]
  have h3 : (b + 1) ^ 3 ≠ 0 := by omega
  refine ⟨?_, ?_⟩
  · rw [Nat.add_sub_cancel]; omega
  · rw [Nat.add_sub_cancel]; omega
/-- What lies between a square and the next one is no square. -/
theorem no_square (a : Nat) (h : 0 < a) (R : Nat) : R * R ≠ a * a + (a + a) := fun e => by
  have h1 := (root_top a).uniq (e ▸ root_sq R)
  subst h1
  omega
/-- A root's square is the number just where there is one. -/
theorem root_square {N R S : Nat} (h : IsRoot 2 N R) (hS : S * S = N) : S = R := by
  subst hS
  exact (root_sq S).uniq h
/-! Roots and the order of numbers -/
theorem root_mono {k M N R S : Nat} (h : IsRoot k M R) (h' : IsRoot k N S) (hle : M ≤ N) : R ≤ S := IsRoot.le (Nat.le_trans h.1 hle) h'.2
theorem root_mul {k M N R S T : Nat} (h : IsRoot k M R) (h' : IsRoot k N S) (ht : IsRoot k (M * N) T) : R * S ≤ T := by
  refine IsRoot.le (N := M * N) ?_ ht.2
  rw [Nat.mul_pow]
  exact Nat.mul_le_mul h.1 h'.1
theorem root_mul_lt {k M N R S T : Nat} (h : IsRoot k M R) (h' : IsRoot k N S) (ht : IsRoot k (M * N) T) : T < (R + 1) * (S + 1) := by
  rcases Nat.lt_or_ge T ((R + 1) * (S + 1)) with h1 | h1
  · exact h1
  · exfalso
    have h2 := Nat.pow_le_pow_left h1 k
    rw [Nat.mul_pow] at h2
    have h3 : M * N < (R + 1) ^ k * (S + 1) ^ k := Nat.mul_lt_mul'' h.2 h'.2
    have := ht.1
    omega
theorem root_three_two {N R S : Nat} (h : IsRoot 3 N R) (h' : IsRoot 2 N S) : R ≤ S := by
  rcases Nat.eq_zero_or_pos R with h1 | h1
  · omega
  · refine IsRoot.le (N := N) ?_ h'.2
    exact Nat.le_trans (Nat.pow_le_pow_right h1 (by omega)) h.1
/-! Digit by digit -/
/-- The upper digits, and one more. -/
theorem digit_test {k N R : Nat} (h : IsRoot k N R) (i : Nat) : N < (R / 2 ^ (i + 1) * 2 ^ (i + 1) + 2 ^ i) ^ k ↔ bit R i = 0 := by
  have h1 := Nat.div_add_mod R (2 ^ i)
  have h2 : R / 2 ^ i = 2 * (R / 2 ^ (i + 1)) + bit R i := by
    rw [Nat.pow_succ, ← Nat.div_div_eq_div_mul, bit]; omega
  have hp : 0 < 2 ^ i := Nat.pow_pos (by omega)
  have hm := Nat.mod_lt R hp
  have hb : bit R i < 2 := bit_lt R i
  have e : R / 2 ^ (i + 1) * 2 ^ (i + 1) = 2 * (R / 2 ^ (i + 1)) * 2 ^ i := by rw [Nat.pow_succ, Nat.mul_comm (2 ^ i) 2, ← Nat.mul_assoc, Nat.mul_comm _ 2]
  rw [h2] at h1
  obtain ⟨q, hq⟩ : ∃ q, R / 2 ^ (i + 1) = q := ⟨_, rfl⟩
  rw [hq] at h1 e ⊢
  rw [e]
  have e2 : 2 ^ i * (2 * q + bit R i) = 2 * q * 2 ^ i + bit R i * 2 ^ i := by rw [Nat.mul_add, Nat.mul_comm, Nat.mul_comm (bit R i)]
  rw [e2] at h1
  constructor
  · intro hlt
    rcases Nat.eq_zero_or_pos (bit R i) with h3 | h3
    · exact h3
    · exfalso
      have h4 : bit R i = 1 := by omega
      rw [h4, Nat.one_mul] at h1
      have := Nat.pow_le_pow_left (show 2 * q * 2 ^ i + 2 ^ i ≤ R by omega) k
      have := h.1
      omega
  · intro h3
    rw [h3, Nat.zero_mul] at h1
    have := Nat.pow_le_pow_left (show R + 1 ≤ 2 * q * 2 ^ i + 2 ^ i by omega) k
    have := h.2
    omega
/-- A root has so many digits at most. -/
theorem root_bits {k N R : Nat} (h : IsRoot k N R) (hk : 0 < k) : R < 2 ^ (nbits N / k + 1) := by
  rcases Nat.lt_or_ge R (2 ^ (nbits N / k + 1)) with h1 | h1
  · exact h1
  · exfalso
    have h2 := Nat.pow_le_pow_left h1 k
    rw [← Nat.pow_mul] at h2
    have h3 := nbits_lt N
    have h4 : nbits N < (nbits N / k + 1) * k := by
      rw [Nat.mul_comm]; exact Nat.lt_mul_div_succ _ hk
    have h5 : 2 ^ nbits N ≤ 2 ^ ((nbits N / k + 1) * k) := Nat.pow_le_pow_right (by omega) (by omega)
    have := h.1
    omega
end Go.Proofs.Ytekgoceainibaaa
/- Plain facts on the steps that come down to a root, and on a number above it. No condition but those typed; no program is named. -/
namespace Go.Proofs.Ytekgoceainibaaa
/-- One step to a square root. -/
def st2 (a x : Nat) : Nat := (x + a / x) / 2
/-- One step to a cube root. -/
def st3 (a x : Nat) : Nat := (2 * x + a / (x * x)) / 3
/-- Steps that come down to R, and stop there. -/
structure Down (R : Nat) (st : Nat → Nat) : Prop where
  less : ∀ x, R < x → st x < x
  more : ∀ x, R ≤ x → R ≤ st x
theorem le_div_of (d x N : Nat) (hx : 0 < x) (h : d * x ≤ N) : d ≤ N / x := (Nat.le_div_iff_mul_le hx).2 h
theorem down_two {N R : Nat} (h : IsRoot 2 N R) : Down R (st2 N) := by
  rw [isRoot_two] at h
  obtain ⟨h1, h2⟩ := h
  refine ⟨fun x hx => ?_, fun x hx => ?_⟩
  · have h3 : (R + 1) * (R + 1) ≤ x * x := Nat.mul_le_mul hx hx
    have h4 : N / x < x := (Nat.div_lt_iff_lt_mul (by omega)).2 (by omega)
    unfold st2
    omega
  · rcases Nat.eq_zero_or_pos R with h0 | h0
    · omega
    · obtain ⟨t, rfl⟩ : ∃ t, x = R + t := ⟨x - R, by omega⟩
      have h3 : R - t ≤ N / (R + t) := by
        refine le_div_of _ _ _ (by omega) (Nat.le_trans ?_ h1)
        rcases Nat.lt_or_ge R t with h4 | h4
        · rw [Nat.sub_eq_zero_of_le (by omega), Nat.zero_mul]; omega
        · obtain ⟨s, rfl⟩ : ∃ s, R = s + t := ⟨R - t, by omega⟩
          rw [Nat.add_sub_cancel]
          have e : (s + t) * (s + t) = s * (s + t + t) + t * t := by grind
          omega
      unfold st2
      omega
theorem down_three {N R : Nat} (h : IsRoot 3 N R) : Down R (st3 N) := by
  rw [isRoot_three] at h
  obtain ⟨h1, h2⟩ := h
  refine ⟨fun x hx => ?_, fun x hx => ?_⟩
  · have h3 : (R + 1) * ((R + 1) * (R + 1)) ≤ x * (x * x) := Nat.mul_le_mul hx (Nat.mul_le_mul hx hx)
    have hxx : 0 < x * x := Nat.mul_pos (by omega) (by omega)
    have h4 : N / (x * x) < x := (Nat.div_lt_iff_lt_mul hxx).2 (by omega)
    unfold st3
    omega
  · rcases Nat.eq_zero_or_pos R with h0 | h0
    · omega
    · obtain ⟨t, rfl⟩ : ∃ t, x = R + t := ⟨x - R, by omega⟩
      have hxx : 0 < (R + t) * (R + t) := Nat.mul_pos (by omega) (by omega)
      have h3 : R - 2 * t ≤ N / ((R + t) * (R + t)) := by
        refine le_div_of _ _ _ hxx (Nat.le_trans ?_ h1)
        rcases Nat.lt_or_ge R (2 * t) with h4 | h4
        · rw [Nat.sub_eq_zero_of_le (by omega), Nat.zero_mul]; omega
        · obtain ⟨s, rfl⟩ : ∃ s, R = s + 2 * t := ⟨R - 2 * t, by omega⟩
          rw [Nat.add_sub_cancel]
          have e : (s + 2 * t) * ((s + 2 * t) * (s + 2 * t)) = s * ((s + 2 * t + t) * (s + 2 * t + t)) + (3 * (s * (t * t)) + 8 * (t * (t * t))) := by grind
          omega
      unfold st3
      omega
/-- A power of 2 above the root. -/
theorem above_small {p N : Nat} (hp : 0 < p) : N < (2 ^ ((nbits N + p - 1) / p)) ^ p := by
  rw [← Nat.pow_mul]
  have h1 := nbits_lt N
  have h2 : nbits N ≤ (nbits N + p - 1) / p * p := by
    have h3 := Nat.div_add_mod (nbits N + p - 1) p
    have h4 := Nat.mod_lt (nbits N + p - 1) hp
    rw [Nat.mul_comm] at h3
    omega
  have h3 : 2 ^ nbits N ≤ 2 ^ ((nbits N + p - 1) / p * p) := Nat.pow_le_pow_right (by omega) h2
  omega
/-- One more than the root of the upper places, with noughts behind. -/
theorem above_great {p N B R k : Nat} (hB : 0 < B) (h : IsRoot p (N / B ^ (p * k)) R) : N < ((R + 1) * B ^ k) ^ p := by
  rw [Nat.mul_pow, ← Nat.pow_mul, Nat.mul_comm k p]
  have h1 := h.2
  have hb : 0 < B ^ (p * k) := Nat.pow_pos hB
  exact (Nat.div_lt_iff_lt_mul hb).1 h1
theorem root_lt_above {p N R X : Nat} (h : IsRoot p N R) (hX : N < X ^ p) : R < X := by
  rcases Nat.lt_or_ge R X with h1 | h1
  · exact h1
  · have h2 := Nat.pow_le_pow_left h1 p
    have := h.1
    omega
end Go.Proofs.Ytekgoceainibaaa

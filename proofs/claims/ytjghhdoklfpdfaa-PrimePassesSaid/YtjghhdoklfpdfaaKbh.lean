/- Several texts in one; each begins with a remark that says what it shows and on which conditions. -/
import Derived.Test.YtjghhdoklfpdfaaKbe
import Derived.Deep.RegionWith
/- PrimePasses' walk: it answers true, and writes nothing that was there. No condition but what the arguments' types give. -/
namespace Go.Proofs.Ytjghhdoklfpdfaa
open Go.RowKit
set_option maxRecDepth 20000
theorem prm_passes {p x : Nat} (hp : Prm p) (h2 : p ≠ 2) (hz : x % p ≠ 0) : PassD p x := by
  have h1 := hp.1
  have ho : p % 2 = 1 := by
    rcases Nat.mod_two_eq_zero_or_one p with h0 | h0
    · exfalso
      rcases hp.2 2 (Nat.dvd_of_mod_eq_zero h0) with e | e <;> omega
    · exact h0
  exact ⟨by omega, ho, hp.pass ho fun hd => hz (Nat.mod_eq_zero_of_dvd hd)⟩
/-- Of a product of two numbers from 2 on there is a divisor, and it is no prime. -/
theorem product_tried {A B q : Nat} (hA : 2 ≤ A) (hB : 2 ≤ B) (hAl : A ≤ 65535) (_ : B ≤ 65535) (hq : A * B = q) : ∃ d, IsTrial q 65536 d ∧ 1 < d ∧ q % d = 0 ∧ ¬ Prm q := by
  have h1 : A * 2 ≤ A * B := Nat.mul_le_mul_left _ hB
  have hz : q % A = 0 := by rw [← hq]; exact Nat.mul_mod_right _ _
  obtain ⟨d, hd⟩ := isTrial_some q 65536
  rcases hd with ⟨rfl, h⟩ | ⟨h2, h3, h4, h5, h6, h7⟩
  · exact absurd hz (h A hA (by omega) (by omega) (by omega))
  · refine ⟨d, .inr ⟨h2, h3, h4, h5, h6, h7⟩, by omega, h6, fun hp => ?_⟩
    rcases hp.2 d (Nat.dvd_of_mod_eq_zero h6) with e | e <;> omega
set_option maxHeartbeats 8000000 in
set_option maxRecDepth 100000 in
theorem primePasses_walk (a0 : Int) (A1 : Option Addr) (c1 : Nat) (l1 : List Nat) (a2 a3 : Int) (w : World) (w0 : (Lit.int .u32 a0).wf = true) (r1 : Rd .u64 w w.heap.size A1 l1) (y1 : Words l1) (_z1 : l1.length * 8 ≤ 140737488351232) (u1 : l1.length ≤ c1) (w2 : (Lit.int .u16 a2).wf = true) (w3 : (Lit.int .u16 a3).wf = true) (hL : LaidP w) :
    Calls Try.prog 4 #[.int .u32 a0, .slice A1 l1.length c1, .int .u16 a2, .int .u16 a3] w fun e w' => e = .returned (.bool true) ∧ Below w.heap.size w w' := by
  have HLd := Lib.hid hL
  clear hL
  have ha0 : 0 ≤ a0 ∧ a0 ≤ 4294967295 := by simpa [Lit.wf, IntKind.min, IntKind.max, IntKind.signed, IntKind.bits] using w0
  have ha2 : 0 ≤ a2 ∧ a2 ≤ 65535 := by simpa [Lit.wf, IntKind.min, IntKind.max, IntKind.signed, IntKind.bits] using w2
  have ha3 : 0 ≤ a3 ∧ a3 ≤ 65535 := by simpa [Lit.wf, IntKind.min, IntKind.max, IntKind.signed, IntKind.bits] using w3
  obtain ⟨n, rfl⟩ : ∃ x : Nat, a0 = (x : Int) := ⟨a0.toNat, by omega⟩
  obtain ⟨A, rfl⟩ : ∃ x : Nat, a2 = (x : Int) := ⟨a2.toNat, by omega⟩
  obtain ⟨B, rfl⟩ : ∃ x : Nat, a3 = (x : Int) := ⟨a3.toNat, by omega⟩
  have hAl : A ≤ 65535 := by omega
  have hBl : B ≤ 65535 := by omega
  obtain ⟨K, hKx⟩ : ∃ K, n % 2147483548 = K := ⟨_, rfl⟩
  have hKI : (n : Int) % 2147483548 = (K : Int) := by omega
  have hK : K < 2147483548 := by omega
  clear w0 w2 w3 hKx
  by_cases v0 : 50 < l1.length
  · skip
    have g0 : decide ((50 : Int) < (l1.length : Int)) = true := by simp; omega
    go_enter Try.func4, Try.ntmps4
    go_wp2_with fail
    refine (priWorks_any _ HLd.out).mono ?_
    rintro e w1 ⟨rfl, b1⟩
    have B1 := b1
    go_wp2_with fail
    go_ret
    exact ⟨rfl, B1⟩
  · have g0 : decide ((50 : Int) < (l1.length : Int)) = false := by simp; omega
    have P1 : RowIs w A1 l1.length c1 l1 := ⟨rfl, y1, by omega, r1, u1⟩
    obtain ⟨p, hN, hpl⟩ := nextP_some (n := K) (by omega)
    replace hpl : p < 4294967296 := by omega
    have HN := Lib.hid hN
    clear hN r1 y1
    go_enter Try.func4, Try.ntmps4
    go_wp2_with fail
    refine (primeNext_any K p HN.out hpl _ HLd.out).mono ?_
    rintro e w1 ⟨rfl, b1⟩
    have B1 := b1
    have P1 := P1.step b1
    go_wp2_with fail
    refine (primeIs_any p hpl true (by simpa using HN.out.1) _ (HLd.out.below B1)).mono ?_
    rintro e w2 ⟨rfl, b2⟩
    have B2 := below_step B1 b2
    have P1 := P1.step b2
    go_wp2_with fail
    go_loopw [11] (fun iv wr => ∃ k : Nat, k ≤ l1.length ∧ iv = .int .i64 k ∧ RowIs wr A1 l1.length c1 l1 ∧ Below w.heap.size w wr) (fun iv _ => l1.length - (intOf iv).toNat)
    case atStart => exact ⟨0, Nat.zero_le _, rfl, P1, B2⟩
    case round =>
      clear P1
      obtain ⟨k, hk, rfl, P1, hB⟩ := hrel
      by_cases hlt : k < l1.length
      · have glt : decide ((k : Int) < (l1.length : Int)) = true := by simp; omega
        obtain ⟨g, o, hA, _, hcl⟩ := P1.2.2.2.1 (by omega)
        subst hA
        have hc := hcl k hlt
        have hgo : g < wr.heap.size := by assumption
        obtain ⟨x, hx⟩ : ∃ x, nth l1 k = x := ⟨_, rfl⟩
        rw [hx] at hc
        have hxl : x < 18446744073709551616 := by rw [← hx]; exact nth_lt l1 P1.2.1 k
        have HLT := Lib.hid hlt
        clear hcl hx hlt
        by_cases hp2 : p = 2
        · subst hp2
          go_wp2_with fail
          go_quiet (fail)
          have PD := Lib.hid (show RowIs (wr.drewN nq) (some ⟨g, o, none⟩) l1.length c1 l1 ∧ Below w.heap.size w (wr.drewN nq) from ⟨P1.step ((Drawn.more nq).below _), hB.trans ((Drawn.more nq).below _)⟩)
          go_wp2_with fail
          go_roundw
          case rel => have := HLT.out; exact ⟨k + 1, by omega, by go_num, PD.out.1, PD.out.2⟩
          case measure => have := HLT.out; simp [intOf]; omega
        · have gp : decide ((2 : Int) < (p : Int)) = true := by have := HN.out.1.1; simp; omega
          have gp0 : ((p : Int) == 0) = false := by have := HN.out.1.1; simp; omega
          have gp00 : p ≠ 0 := by have := HN.out.1.1; omega
          by_cases hz : x % p = 0
          · have hm1 : (x : Int) % (p : Int) = 0 := by omega
            have hm2 : (x : Int).tmod (p : Int) = 0 := by rw [Int.tmod_eq_emod_of_nonneg (by omega)]; exact hm1
            clear hz hp2
            go_wp2_with fail
            go_quiet (fail)
            have PD := Lib.hid (show RowIs (wr.drewN nq) (some ⟨g, o, none⟩) l1.length c1 l1 ∧ Below w.heap.size w (wr.drewN nq) from ⟨P1.step ((Drawn.more nq).below _), hB.trans ((Drawn.more nq).below _)⟩)
            go_wp2_with fail
            go_roundw
            case rel => have := HLT.out; exact ⟨k + 1, by omega, by go_num, PD.out.1, PD.out.2⟩
            case measure => have := HLT.out; simp [intOf]; omega
          · obtain ⟨r, hr⟩ : ∃ r, x % p = r := ⟨_, rfl⟩
            have hm1 : (x : Int) % (p : Int) = (r : Int) := by omega
            have hm2 : (x : Int).tmod (p : Int) = (r : Int) := by rw [Int.tmod_eq_emod_of_nonneg (by omega)]; exact hm1
            have hrl : r < 18446744073709551616 := by rw [← hr]; exact Nat.lt_of_le_of_lt (Nat.mod_le _ _) hxl
            have gz : ((r : Int) != 0) = true := by rw [bne_iff_ne]; omega
            have HPS := Lib.hid (show PassD p x from prm_passes HN.out.1 hp2 hz)
            clear hz hp2 hr
            have HNp := Lib.hid fun u => hN9 u p _ rfl (by omega)
            have HNx := Lib.hid fun u => hN9 u x _ rfl hxl
            have bd : Below w.heap.size w wr.drew := hB.trans ((Drawn.more 1).below _)
            have P1 := P1.step ((Drawn.more 1).below _)
            have hcd : wr.drew.cell? ⟨g, o + k, none⟩ = some (.int .u64 (x : Int)) := hc
            have hgd : g < wr.drew.heap.size := hgo
            clear hc hgo hB
            go_wp2_with fail
            go_region_with (first
        | (go_at_call 10; (with_reducible refine (HNp.out _).mono ?_); rintro e wa ⟨Xa, qa, da, rfl, Sa, ba⟩; (try replace Sb := Sb.step ba); replace bd := below_step bd ba; replace P1 := P1.step ba; replace hcd := (ba.cell (p := ⟨g, o + k, none⟩) hgd).trans hcd; replace hgd := Nat.lt_of_lt_of_le hgd ba.size)
        | (go_at_call 10; (with_reducible refine (HNx.out _).mono ?_); rintro e wb ⟨Xb, qb, db, rfl, Sb, bb⟩; (try replace Sa := Sa.step bb); replace bd := below_step bd bb; replace P1 := P1.step bb; replace hcd := (bb.cell (p := ⟨g, o + k, none⟩) hgd).trans hcd; replace hgd := Nat.lt_of_lt_of_le hgd bb.size)
        | (go_at_call 12; (with_reducible refine (bStrong Sa Sb (by omega) hxl true (by simpa using HPS.out) (HLd.out.below bd)).mono ?_); rintro e wc ⟨rfl, bc⟩; replace bd := below_step bd bc; replace P1 := P1.step bc))
            all_goals
              have PD := Lib.hid (And.intro P1 bd)
              go_wp2_with fail
              go_roundw
              case rel => have := HLT.out; exact ⟨k + 1, by omega, by go_num, PD.out.1, PD.out.2⟩
              case measure => have := HLT.out; simp [intOf]; omega
      · have glt : decide ((k : Int) < (l1.length : Int)) = false := by simp; omega
        clear P1
        by_cases ha2 : A < 2
        · skip
          have ga : decide ((A : Int) < 2) = true := by simp; omega
          clear ha2
          go_wp2_with fail
          refine (priWorks_any _ (HLd.out.below hB)).mono ?_
          rintro e w41 ⟨rfl, b41⟩
          have B41 := below_step hB b41
          go_wp2_with fail
          go_ret
          exact ⟨rfl, B41⟩
        · by_cases hb2 : B < 2
          · skip
            have ga : decide ((A : Int) < 2) = false := by simp; omega
            have gb : decide ((B : Int) < 2) = true := by simp; omega
            clear ha2
            go_wp2_with fail
            refine (priWorks_any _ (HLd.out.below hB)).mono ?_
            rintro e w41 ⟨rfl, b41⟩
            have B41 := below_step hB b41
            go_wp2_with fail
            go_ret
            exact ⟨rfl, B41⟩
          · skip
            have ga : decide ((A : Int) < 2) = false := by simp; omega
            have gb : decide ((B : Int) < 2) = false := by simp; omega
            have hA2 : 2 ≤ A := by omega
            clear ha2
            obtain ⟨q, hq⟩ : ∃ q, A * B = q := ⟨_, rfl⟩
            have hqI : (A : Int) * (B : Int) = (q : Int) := by rw [← hq]; simp
            have hql : q < 4294967296 := by rw [← hq]; exact Nat.lt_of_le_of_lt (Nat.mul_le_mul (show A ≤ 65535 by omega) (show B ≤ 65535 by omega)) (by omega)
            obtain ⟨d, hd, hd2, hqd, hnp⟩ := product_tried hA2 (show 2 ≤ B by omega) hAl hBl hq
            have hqdI : ((q : Int) % (d : Int) == 0) = true := by rw [beq_iff_eq, ← Int.natCast_emod, hqd]; rfl
            have gd0 : ((d : Int) == 0) = false := by simp; omega
            have gd1 : decide ((1 : Int) < (d : Int)) = true := by simp; omega
            have HD := Lib.hid hd
            have HNP := Lib.hid hnp
            clear hd hnp hq hqd hb2 hA2
            go_wp2_with fail
            refine (hN9 wr (q) _ rfl (by omega)).mono ?_
            rintro e w41 ⟨X1, q1, d1, rfl, S1, b41⟩
            have B41 := below_step hB b41
            go_wp2_with fail
            refine (bTrial S1 (by omega) 65536 d (by omega) HD.out true (by simp; omega) (HLd.out.below B41)).mono ?_
            rintro e w42 ⟨rfl, b42⟩
            have B42 := below_step B41 b42
            have S1 := S1.step b42
            clear S1
            go_wp2_with fail
            refine (primeIs_any q hql false (by simpa using HNP.out) _ (HLd.out.below B42)).mono ?_
            rintro e w43 ⟨rfl, b43⟩
            have B43 := below_step B42 b43
            go_wp2_with fail
            refine (priWorks_any _ (HLd.out.below B43)).mono ?_
            rintro e w44 ⟨rfl, b44⟩
            have B44 := below_step B43 b44
            go_wp2_with fail
            go_ret
            exact ⟨rfl, B44⟩
end Go.Proofs.Ytjghhdoklfpdfaa

/- Several texts in one; each begins with a remark that says what it shows and on which conditions. -/
import Derived.Test.YtjghhdoklfpdfaaKbf
/- PrimeWindow's walk: it answers true, and writes nothing that was there. No condition but what the arguments' types give. -/
namespace Go.Proofs.Ytjghhdoklfpdfaa
open Go.RowKit
set_option maxRecDepth 20000
/-- The least prime above x up to m; or 0. -/
def NextW (m x N : Nat) : Prop := (N = 0 ∧ ∀ q, Prm q → x < q → m < q) ∨ (NextP x N ∧ N ≤ m)
theorem NextW.start (m : Nat) : NextW m m 0 := .inl ⟨rfl, fun _ _ h => h⟩
theorem NextW.skip {m x N : Nat} (h : NextW m (x + 1) N) (hx : ¬ Prm (x + 1)) : NextW m x N := by
  rcases h with ⟨h1, h2⟩ | ⟨⟨h1, h2, h3⟩, h4⟩
  · refine .inl ⟨h1, fun q hq hl => ?_⟩
    rcases Nat.lt_or_ge (x + 1) q with h | h
    · exact h2 q hq h
    · obtain rfl : q = x + 1 := by omega
      exact absurd hq hx
  · refine .inr ⟨⟨h1, by omega, fun q hq hl => ?_⟩, h4⟩
    rcases Nat.lt_or_ge (x + 1) q with h | h
    · exact h3 q hq h
    · obtain rfl : q = x + 1 := by omega
      exact absurd hq hx
theorem NextW.take {m x : Nat} (hx : Prm (x + 1)) (hm : x + 1 ≤ m) : NextW m x (x + 1) := .inr ⟨⟨hx, by omega, fun _ _ h => h⟩, hm⟩
theorem NextW.next {m x N : Nat} (h : NextW m x N) (h0 : 0 < N) : NextP x N ∧ N ≤ m := by
  rcases h with ⟨h1, _⟩ | h
  · omega
  · exact h
/-- Trying so far. -/
structure TryMid (x d : Nat) (f : Bool) : Prop where
  two : 2 ≤ d
  all : ∀ e, 2 ≤ e → e < d → e * e ≤ x
  is : f = true ↔ (1 < x ∧ ∀ e, 2 ≤ e → e < d → x % e ≠ 0)
theorem TryMid.no {x d : Nat} (h : TryMid x d false) : ¬ Prm x := fun hp => by
  have h1 := prm_iff_try.1 hp
  have := h.is.2 ⟨by omega, fun e h2 h3 => h1.2 e h2 (h.all e h2 h3)⟩
  cases this
theorem TryMid.yes {x d : Nat} (h : TryMid x d true) (hd : ¬ d * d ≤ x) : Prm x := by
  obtain ⟨h1, h2⟩ := h.is.1 rfl
  refine prm_iff_try.2 ⟨by omega, fun e h3 h4 => h2 e h3 ?_⟩
  rcases Nat.lt_or_ge e d with h5 | h5
  · exact h5
  · have := Nat.mul_le_mul h5 h5; omega
theorem TryMid.step {x d : Nat} (h : TryMid x d true) (hd : d * d ≤ x) (f : Bool) (hf : f = true ↔ x % d ≠ 0) : TryMid x (d + 1) f where
  two := by have := h.two; omega
  all := fun e h1 h2 => by
    rcases Nat.lt_succ_iff_lt_or_eq.1 h2 with h3 | rfl
    · exact h.all e h1 h3
    · exact hd
  is := by
    obtain ⟨h1, h2⟩ := h.is.1 rfl
    rw [hf]
    constructor
    · intro h3
      refine ⟨h1, fun e h4 h5 => ?_⟩
      rcases Nat.lt_succ_iff_lt_or_eq.1 h5 with h6 | rfl
      · exact h2 e h4 h6
      · exact h3
    · rintro ⟨_, h3⟩
      exact h3 d h.two (by omega)
theorem TryMid.first (x : Nat) (f : Bool) (hf : f = true ↔ 1 < x) : TryMid x 2 f where
  two := Nat.le_refl _
  all := fun e h1 h2 => by omega
  is := by rw [hf]; exact ⟨fun h => ⟨h, fun e h1 h2 => by omega⟩, fun h => h.1⟩
theorem sq_small9 {d x : Nat} (h : d * d ≤ x) (hx : x < 1050000) : d ≤ 1024 := by
  rcases Nat.lt_or_ge d 1025 with h1 | h1
  · omega
  · have := Nat.mul_le_mul h1 h1; omega
set_option maxHeartbeats 8000000 in
set_option maxRecDepth 100000 in
theorem primeWindow_walk (a0 : Int) (w : World) (w0 : (Lit.int .u32 a0).wf = true) (hL : LaidP w) : Calls Try.prog 7 #[.int .u32 a0] w fun e w' => e = .returned (.bool true) ∧ Below w.heap.size w w' := by
  have HLd := Lib.hid hL
  clear hL
  have ha0 : 0 ≤ a0 ∧ a0 ≤ 4294967295 := by simpa [Lit.wf, IntKind.min, IntKind.max, IntKind.signed, IntKind.bits] using w0
  obtain ⟨n, rfl⟩ : ∃ x : Nat, a0 = (x : Int) := ⟨a0.toNat, by omega⟩
  obtain ⟨K, hKx⟩ : ∃ K, n % 1048576 = K := ⟨_, rfl⟩
  have hKI : (n : Int) % 1048576 = (K : Int) := by omega
  have hK : K < 1048576 := by omega
  clear w0 hKx
  go_enter Try.func7, Try.ntmps7
  go_wp2_with fail
  rw [hKI]
  clear hKI
  go_loopw [4, 5] (fun nv xv wr => ∃ N x : Nat, nv = .int .u64 N ∧ xv = .int .u64 x ∧ K ≤ x ∧ x ≤ K + 60 ∧ N ≤ K + 60 ∧ Hid (NextW (K + 60) x N) ∧ Below w.heap.size w wr) (fun _ xv _ => (intOf xv).toNat)
  case atStart => exact ⟨0, K + 60, rfl, by go_num, by omega, Nat.le_refl _, by omega, Lib.hid (NextW.start _), Below.refl _ _⟩
  case round =>
    obtain ⟨N, x, rfl, rfl, hx1, hx2, hN, hW, hB⟩ := hrel
    by_cases hlt : K < x
    · obtain ⟨x', rfl⟩ : ∃ x', x = x' + 1 := ⟨x - 1, by omega⟩
      obtain ⟨y, hy⟩ : ∃ y, x' + 1 = y := ⟨_, rfl⟩
      have hyI : (y : Int) - 1 = (x' : Int) := by omega
      have HY := Lib.hid hy
      rw [hy] at hx1 hx2 hW hlt ⊢
      have glt : decide ((K : Int) < (y : Int)) = true := by simp; omega
      have hKx' := Lib.hid (show K ≤ x' by omega)
      have hyl : y < 1048640 := by omega
      obtain ⟨f0, hf0⟩ := some_bool (1 < y)
      have gf0 : decide ((1 : Int) < (y : Int)) = f0 := by
        rw [Bool.eq_iff_iff, hf0, decide_eq_true_eq]; omega
      have HT0 := Lib.hid (TryMid.first y f0 hf0)
      clear hy hf0
      go_wp2_with fail
      go_loopw [6, 7] (fun fv dv wr => ∃ (f : Bool) (d : Nat), fv = .bool f ∧ dv = .int .u64 d ∧ d ≤ 1025 ∧ Hid (TryMid y d f) ∧ Below w.heap.size w wr) (fun _ dv _ => 1026 - (intOf dv).toNat)
      case atStart => exact ⟨f0, 2, by first | rfl | rw [gf0], rfl, by omega, HT0, hB⟩
      case round =>
        clear hB
        obtain ⟨f, d, rfl, rfl, hd, hT, hB⟩ := hrel
        obtain ⟨q, hq⟩ : ∃ q, d * d = q := ⟨_, rfl⟩
        have hqI : (d : Int) * (d : Int) = (q : Int) := by rw [← hq]; simp
        have hql : q ≤ 1050625 := by rw [← hq]; exact Nat.mul_le_mul hd hd
        have hd2 := hT.out.two
        have hd0 : ((d : Int) == 0) = false := by simp; omega
        have HQ := Lib.hid hq
        by_cases hg : q ≤ y ∧ f = true
        · obtain ⟨h1, rfl⟩ := hg
          have gq : decide ((q : Int) ≤ (y : Int)) = true := by simp; omega
          have hd3 := sq_small9 (show d * d ≤ y by omega) (by omega)
          obtain ⟨f2, hf2⟩ := some_bool (y % d ≠ 0)
          have gf2 : ((y : Int) % (d : Int) != 0) = f2 := by
            rw [Bool.eq_iff_iff, hf2, bne_iff_ne]; omega
          have HT2 := Lib.hid (hT.out.step (by omega) f2 hf2)
          clear hT hq hf2
          go_wp2_with fail
          go_roundw
          case rel => exact ⟨f2, d + 1, by first | rfl | rw [gf2], by go_num, by omega, HT2, hB⟩
          case measure => simp [intOf]; omega
        · have HP := Lib.hid (show f = true ↔ Prm y by
            cases f with
            | false => exact ⟨fun h => (by cases h), fun h => absurd h hT.out.no⟩
            | true => exact ⟨fun _ => hT.out.yes (by intro h; exact hg ⟨by omega, rfl⟩), fun _ => rfl⟩)
          have HX := Lib.hid fun (u : World) (e : Below w.heap.size w u) => primeIs_any y (by omega) f HP.out u (HLd.out.below e)
          have HNX := Lib.hid fun (h : 0 < N) (u : World) (e : Below w.heap.size w u) => primeNext_any y N (hW.out.next h).1 (by omega) u (HLd.out.below e)
          have HTk := Lib.hid fun (h : Prm y) => (show NextW (K + 60) x' y from by have hy := HY.out; subst hy; exact NextW.take h hx2)
          have HSk := Lib.hid fun (h : ¬ Prm y) => (show NextW (K + 60) x' N from by have hy := HY.out; subst hy; exact hW.out.skip h)
          have hg' : q ≤ y → f = false := fun h => by
            cases f with
            | false => rfl
            | true => exact absurd ⟨h, rfl⟩ hg
          have HG := Lib.hid hg'
          have hxl : x' < y := by have := HY.out; omega
          clear hg hg' hT hq hW gf0 hlt
          rcases Nat.eq_zero_or_pos N with hN0 | hN0
          · subst hN0
            cases f
            · by_cases hqy : q ≤ y
              · go_wp2_with fail
                refine (HX.out _ hB).mono ?_
                rintro e w2 ⟨rfl, b2⟩
                have B2 := hB.trans (b2.mono hB.size)
                go_wp2_with fail
                go_roundw
                case rel => exact ⟨0, x', rfl, by go_num, by have := hKx'.out; omega, by omega, by omega, Lib.hid (HSk.out (by have h := HP.out; simpa using h)), B2⟩
                case measure => simp [intOf]; omega
              · have gq : decide ((q : Int) ≤ (y : Int)) = false := by simp; omega
                go_wp2_with fail
                refine (HX.out _ hB).mono ?_
                rintro e w2 ⟨rfl, b2⟩
                have B2 := hB.trans (b2.mono hB.size)
                go_wp2_with fail
                go_roundw
                case rel => exact ⟨0, x', rfl, by go_num, by have := hKx'.out; omega, by omega, by omega, Lib.hid (HSk.out (by have h := HP.out; simpa using h)), B2⟩
                case measure => simp [intOf]; omega
            · have hqy : ¬ q ≤ y := fun h => (Bool.false_ne_true (HG.out h).symm).elim
              have gq : decide ((q : Int) ≤ (y : Int)) = false := by simp; omega
              go_wp2_with fail
              refine (HX.out _ hB).mono ?_
              rintro e w2 ⟨rfl, b2⟩
              have B2 := hB.trans (b2.mono hB.size)
              go_wp2_with fail
              go_roundw
              case rel => exact ⟨y, x', rfl, by go_num, by have := hKx'.out; omega, by omega, by omega, Lib.hid (HTk.out (by have h := HP.out; simpa using h)), B2⟩
              case measure => simp [intOf]; omega
          · have gN : decide ((0 : Int) < (N : Int)) = true := by simp; omega
            cases f
            · by_cases hqy : q ≤ y
              · go_wp2_with fail
                refine (HX.out _ hB).mono ?_
                rintro e w2 ⟨rfl, b2⟩
                have B2 := hB.trans (b2.mono hB.size)
                go_wp2_with fail
                refine (HNX.out hN0 _ B2).mono ?_
                rintro e w3 ⟨rfl, b3⟩
                have B3 := B2.trans (b3.mono B2.size)
                go_wp2_with fail
                go_roundw
                case rel => exact ⟨N, x', rfl, by go_num, by have := hKx'.out; omega, by omega, by omega, Lib.hid (HSk.out (by have h := HP.out; simpa using h)), B3⟩
                case measure => simp [intOf]; omega
              · have gq : decide ((q : Int) ≤ (y : Int)) = false := by simp; omega
                go_wp2_with fail
                refine (HX.out _ hB).mono ?_
                rintro e w2 ⟨rfl, b2⟩
                have B2 := hB.trans (b2.mono hB.size)
                go_wp2_with fail
                refine (HNX.out hN0 _ B2).mono ?_
                rintro e w3 ⟨rfl, b3⟩
                have B3 := B2.trans (b3.mono B2.size)
                go_wp2_with fail
                go_roundw
                case rel => exact ⟨N, x', rfl, by go_num, by have := hKx'.out; omega, by omega, by omega, Lib.hid (HSk.out (by have h := HP.out; simpa using h)), B3⟩
                case measure => simp [intOf]; omega
            · have hqy : ¬ q ≤ y := fun h => (Bool.false_ne_true (HG.out h).symm).elim
              have gq : decide ((q : Int) ≤ (y : Int)) = false := by simp; omega
              go_wp2_with fail
              refine (HX.out _ hB).mono ?_
              rintro e w2 ⟨rfl, b2⟩
              have B2 := hB.trans (b2.mono hB.size)
              go_wp2_with fail
              refine (HNX.out hN0 _ B2).mono ?_
              rintro e w3 ⟨rfl, b3⟩
              have B3 := B2.trans (b3.mono B2.size)
              go_wp2_with fail
              go_roundw
              case rel => exact ⟨y, x', rfl, by go_num, by have := hKx'.out; omega, by omega, by omega, Lib.hid (HTk.out (by have h := HP.out; simpa using h)), B3⟩
              case measure => simp [intOf]; omega
    · obtain rfl : x = K := by omega
      have hle : ¬ x < x := by omega
      by_cases h0 : x = 0
      · subst h0
        go_wp2_with fail
        refine (priWorks_any _ (HLd.out.below hB)).mono ?_
        rintro e w2 ⟨rfl, b2⟩
        have B2 := hB.trans (b2.mono hB.size)
        go_wp2_with fail
        go_ret
        exact ⟨rfl, B2⟩
      · have g0 : ((x : Int) == 0) = false := by simp; omega
        obtain ⟨p, hp, hp1, hp2⟩ := twice9 (show 1 ≤ x by omega) (by omega)
        obtain ⟨y, hy, hyp⟩ := nextP_below hp hp1
        have hxy := hy.2.1
        have gy : decide ((x : Int) < (y : Int)) = true := by simp; omega
        have gy2 : decide ((y : Int) ≤ 2 * (x : Int)) = true := by simp; omega
        have HNX := Lib.hid fun (u : World) (e : LaidP u) => primeNext_any x y hy (by omega) u e
        have hyl : y ≤ 2 * x := by omega
        rcases Nat.eq_zero_or_pos N with hN0 | hN0
        · subst hN0
          clear hy hp hlt
          go_wp2_with fail
          refine (HNX.out _ (HLd.out.below hB)).mono ?_
          rintro e w2 ⟨rfl, b2⟩
          have B2 := hB.trans (b2.mono hB.size)
          go_wp2_with fail
          refine (priWorks_any _ (HLd.out.below B2)).mono ?_
          rintro e w3 ⟨rfl, b3⟩
          have B3 := B2.trans (b3.mono B2.size)
          go_wp2_with fail
          go_ret
          exact ⟨rfl, B3⟩
        · obtain rfl : y = N := nextP_uniq hy (hW.out.next hN0).1
          have gN : ((y : Int) == 0) = false := by simp; omega
          clear hy hp hlt
          go_wp2_with fail
          refine (HNX.out _ (HLd.out.below hB)).mono ?_
          rintro e w2 ⟨rfl, b2⟩
          have B2 := hB.trans (b2.mono hB.size)
          go_wp2_with fail
          refine (priWorks_any _ (HLd.out.below B2)).mono ?_
          rintro e w3 ⟨rfl, b3⟩
          have B3 := B2.trans (b3.mono B2.size)
          go_wp2_with fail
          go_ret
          exact ⟨rfl, B3⟩
end Go.Proofs.Ytjghhdoklfpdfaa

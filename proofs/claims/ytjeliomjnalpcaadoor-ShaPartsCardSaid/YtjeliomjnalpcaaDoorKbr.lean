/- Several texts in one; each begins with a remark that says what it shows and on which conditions. -/
import Derived.Test.YtjeliomjnalpcaaDoorKal
import Derived.Test.YtjeliomjnalpcaaDoorKbq
import Derived.Test.YtjeliomjnalpcaaDoorRows
import Derived.ProofKit
import Derived.LaidMore
import Derived.OpenShut
import Derived.Stop.Joined
/- What the row says of the two tables of constants is what the walks ask of memory; and the program's own start meets it. No condition beyond the row's own. -/
namespace Go.Proofs.YtjeliomjnalpcaaDoor
open Go.RowKit Go.ChangeShapes Go.WideShapes Go.ChangeAt Go.WideElems
def laid7 : List (String × DataW Unit) := [("caltrop/sha.begins", Rows.laid_caltrop_sha_begins), ("caltrop/sha.rounds", Rows.laid_caltrop_sha_rounds)]
theorem ints_of_trod {H : Type} {enc : TypeId × Value → H} {P : Program} {w : World} {base : Nat} {spare : Nat → Bool} {held : Bool} {fuel : Nat} {t e : TypeId} {n : Nat} {cs : List Value} {p : List MemPlace} (ht : P.underlying t = some (.array n e)) (he : P.underlying e = some (.int .u32)) (hc1 : P.cellsOf e = 1) (hct : P.cellsOf t = n)
    (l : List Nat) (hl : l.length = n) (h : DataW.trod enc P w base spare held fuel t cs = some (.agg (l.map fun x : Nat => .lit (.int .u32 (x : Int))), p)) : cs = ints .u32 l := by
  obtain ⟨xs, m, rfl, hx, hlen, hn, hel⟩ := DataW.trod_array ht h
  simp only [Prod.mk.injEq, DataW.agg.injEq] at hx
  rw [hct] at hlen
  refine List.ext_getElem (by rw [hlen, length_ints, hl]) fun j h1 h2 => ?_
  have hj : j < n := by omega
  have h3 := hel j hj
  rw [hc1, Nat.mul_one, List.getElem?_eq_getElem (by omega)] at h3
  obtain ⟨k, e1, e2, _⟩ := DataW.trod_int he h3
  have h4 : (l.map fun x : Nat => (DataW.lit (.int .u32 (x : Int)) : DataW H))[j]? = (xs.map (·.1))[j]? := by rw [hx.1]
  rw [List.getElem?_map, List.getElem?_map, List.getElem?_eq_getElem (by omega), List.getElem?_eq_getElem (by omega), e2] at h4
  have hk : k = ((l[j] : Nat) : Int) := by simpa using h4.symm
  have h5 : cs[j]? = some (.int .u32 k) := by
    have := congrArg (·[0]?) e1
    simpa using this
  rw [List.getElem?_eq_getElem h1] at h5
  have h6 := ints_get .u32 l j (by omega)
  rw [List.getElem?_eq_getElem h2] at h6
  rw [Option.some.inj h5, Option.some.inj h6, hk]
  simp [nth, show j < l.length by omega]
theorem row_whole {W : World} {g n : Nat} {cs : Array Value} {ps : List MemPlace} (hsub : ∀ x ∈ MemPlace.row ⟨g, 0, none⟩ cs.size, x ∈ ps) (hn : cs.size = n) (h0 : 0 < n) (hv : ∃ t fr, W.heap[g]? = some (.cells cs t fr))
    (h : ∀ b off, MemPlace.cell b off ∈ ps → ∃ c t, W.heap[b]? = some (.cells c t (0, 0))) : ∃ t, W.heap[g]? = some (.cells cs t (0, 0)) := by
  obtain ⟨t, fr, hv⟩ := hv
  obtain ⟨c, t2, h2⟩ := h g 0 (hsub _ (MemPlace.mem_row.2 ⟨0, by omega, rfl⟩))
  rw [hv] at h2
  cases h2
  exact ⟨t, hv⟩
theorem var_row {P : Program} {W : World} {n : String} {g : Nat} {cs : Array Value} (hg : P.globalNamed n = some g) (h : W.var? P n = some cs) : ∃ t fr, W.heap[g]? = some (.cells cs t fr) := by
  unfold World.var? at h
  rw [hg] at h
  simp only [Option.bind_some] at h
  split at h
  · rename_i c t fr hh
    cases h
    exact ⟨t, fr, hh⟩
  · cases h
theorem laid_of {W : World} (h : laidMetH Tryd.prog laid7 W) : Laid W := by
  rw [MakeChecks.laidMetH_plain _ _ _ (by kernel_rfl)] at h
  obtain ⟨ps, ⟨g0, t0, cs0, f0, p0, q0, hg0, ht0, hv0, hd0, ⟨g1, t1, cs1, f1, p1, q1, hg1, ht1, hv1, hd1, hq1, rfl⟩, rfl⟩, _, hall⟩ := h
  obtain rfl := Option.some.inj ((show Tryd.prog.globalNamed "caltrop/sha.begins" = some 0 by kernel_rfl).symm.trans hg0)
  obtain rfl := Option.some.inj ((show Tryd.prog.globalNamed "caltrop/sha.rounds" = some 1 by kernel_rfl).symm.trans hg1)
  obtain rfl := Option.some.inj ((show (Tryd.prog.globals[0]?).map (·.type) = some 54 by kernel_rfl).symm.trans ht0)
  obtain rfl := Option.some.inj ((show (Tryd.prog.globals[1]?).map (·.type) = some 55 by kernel_rfl).symm.trans ht1)
  have e0 := ints_of_trod Tryd.underlying54 Tryd.underlying23 (by kernel_rfl) (by kernel_rfl) firstS rfl hd0
  have e1 := ints_of_trod Tryd.underlying55 Tryd.underlying23 (by kernel_rfl) (by kernel_rfl) stepsS rfl hd1
  have s0 : cs0.size = 8 := by rw [← Array.length_toList, e0]; rfl
  have s1 : cs1.size = 64 := by rw [← Array.length_toList, e1]; rfl
  have r0 : cs0 = (ints .u32 firstS).toArray := by rw [← e0]
  have r1 : cs1 = (ints .u32 stepsS).toArray := by rw [← e1]
  refine ⟨?_, ?_⟩
  · rw [← r0]
    exact row_whole (fun x hx => List.mem_append_left _ (List.mem_append_left _ hx)) s0 (by omega) (var_row hg0 hv0) (fun b off hb => (hall b off hb).1)
  · rw [← r1]
    exact row_whole (fun x hx => List.mem_append_right _ (List.mem_append_left _ (List.mem_append_left _ hx))) s1 (by omega) (var_row hg1 hv1) (fun b off hb => (hall b off hb).1)
theorem door_met (os : Os) (args : Array Value) : laidMetH Tryd.prog laid7 ((World.doorLaid Tryd.prog 400 os).forCall (fun _ _ => 0) ⟨#[], args, []⟩).memory :=
  laidMetH_of_parts3 (fuel := 8) (laidMet_of_run' 8 (by kernel_rfl) (by kernel_rfl)) (by kernel_rfl) (by kernel_rfl)
end Go.Proofs.YtjeliomjnalpcaaDoor
/- ShaBetween's walk: it answers true, and writes nothing that was there. Conditions: what the arguments' types give; the tables of constants are laid. -/
namespace Go.Proofs.YtjeliomjnalpcaaDoor
open Go.RowKit
set_option maxRecDepth 20000
/-- The whole part is the root of the number itself. -/
theorem whole_root {k p R : Nat} (_ : 0 < k) (h : IsRoot k (2 ^ (32 * k) * p) R) : IsRoot k p (R / 4294967296) := by
  obtain ⟨h1, h2⟩ := h
  have hd := Nat.div_add_mod R 4294967296
  have hm := Nat.mod_lt R (show 0 < 4294967296 by omega)
  have hp : 0 < 2 ^ (32 * k) := Nat.pow_pos (by omega)
  have e : ∀ x : Nat, (4294967296 * x) ^ k = 2 ^ (32 * k) * x ^ k := fun x => by rw [Nat.mul_pow, show 4294967296 = 2 ^ 32 from rfl, ← Nat.pow_mul]
  constructor
  · have h3 : (4294967296 * (R / 4294967296)) ^ k ≤ R ^ k := Nat.pow_le_pow_left (by omega) k
    rw [e] at h3
    exact Nat.le_of_mul_le_mul_left (Nat.le_trans h3 h1) hp
  · have h3 : (R + 1) ^ k ≤ (4294967296 * (R / 4294967296 + 1)) ^ k := Nat.pow_le_pow_left (by omega) k
    rw [e] at h3
    exact Nat.lt_of_mul_lt_mul_left (Nat.lt_of_lt_of_le h2 h3)
theorem cube_big (x : Nat) (h : 2642246 ≤ x) : 18446744073709551616 ≤ x * (x * x) := by
  have h1 := Nat.mul_le_mul h (Nat.mul_le_mul h h)
  omega
theorem cube_test (x p : Nat) (hx : 0 < x) : x * x ≤ p / x ↔ x * (x * x) ≤ p := by rw [Nat.le_div_iff_mul_le hx, Nat.mul_comm x (x * x)]
section
variable {w : World}
theorem gOf7 (w : World) (n : Nat) (hn : n < 18446744073709551616) : Calls Tryd.prog 13 #[.int .u64 (n : Int)] w (OutN n w) :=
  Calls.mono (natOf_any n w hn) fun _ _ h => h.out (by have := nbits_of_lt n 64 hn; omega)
theorem gShl7 {A : Option Addr} {n c M : Nat} (h : NatIn w A n c M) (k : Nat) (hk : k ≤ 65536) (hn : n ≤ 40000) : Calls Tryd.prog 12 #[.slice A n c, .int .i64 (k : Int)] w (OutN (2 ^ k * M) w) := by
  have h := bShl h (k : Int) hn
  rwa [show shlS M (k : Int) = 2 ^ k * M by unfold shlS; rw [if_pos (by omega), Int.toNat_natCast]] at h
end
theorem cmp_le7 {a b : Nat} (h : a ≤ b) : cmpS a b ≤ 0 := by
  unfold cmpS
  split
  · omega
  · rw [if_neg (by omega)]; omega
theorem cmp_gt7 {a b : Nat} (h : b < a) : 0 < cmpS a b := by
  unfold cmpS
  rw [if_neg (by omega), if_pos h]
  omega
/-- Where the square root is asked. -/
theorem between_sq_math (p F R : Nat) (hp : p < 18446744073709551616) (hR : IsRoot (if false then 3 else 2) (2 ^ (if false then 96 else 64) * p) R) (hF : F = R % 4294967296) (W : Nat) (h1 : W * W ≤ p) (h2 : p < (W + 1) * (W + 1)) :
    2 ^ 32 * W + F = R ∧ R * R ≤ 2 ^ 64 * p ∧ 2 ^ 64 * p < (R + 1) * (R + 1) ∧ F < 4294967296 ∧ W < 4294967296 := by
  have hR2 : IsRoot 2 (2 ^ (32 * 2) * p) R := hR
  have hw := whole_root (by omega) hR2
  have hW : IsRoot 2 p W := isRoot_two.2 ⟨h1, h2⟩
  have e := hw.uniq hW
  have h3 := isRoot_two.1 hR2
  have hW2 : W < 4294967296 := by
    rcases Nat.lt_or_ge W 4294967296 with h | h
    · exact h
    · have := Nat.mul_le_mul h h; omega
  refine ⟨by rw [hF, ← e]; omega, h3.1, h3.2, by rw [hF]; exact Nat.mod_lt _ (by omega), hW2⟩
set_option maxHeartbeats 2000000 in
theorem between_sq (p : Nat) (hp : p < 18446744073709551616) (w : World) (hL : Laid w) : Calls Tryd.prog 4 #[.int .u64 (p : Int), .bool false] w fun e w' => e = .returned (.bool true) ∧ Below w.heap.size w w' := by
  obtain ⟨F, hF⟩ := frac_some p false
  have HFr := Lib.hid hF
  obtain ⟨R, hR, hFR⟩ := hF
  have HM := Lib.hid (between_sq_math p F R hp hR hFR)
  have HG := Lib.hid hL
  clear hL
  clear hR hFR
  go_enter Tryd.func4, Tryd.ntmps4
  go_wp2_with fail
  go_loopw [5, 6] (fun v b wr => ∃ j W : Nat, j ≤ 32 ∧ v = .int .u64 (W : Int) ∧ b = .int .u64 ((2 ^ j / 2 : Nat) : Int) ∧ W * W ≤ p ∧ p < (W + 2 ^ j) * (W + 2 ^ j) ∧ W + 2 ^ j ≤ 4294967296 ∧ w = wr) (fun _ b _ => (intOf b).toNat)
  case atStart => exact ⟨32, 0, by omega, rfl, rfl, by omega, by rw [Nat.zero_add]; exact Nat.lt_of_lt_of_le hp (by decide), by decide, rfl⟩
  case round =>
    obtain ⟨j, W, hj, rfl, rfl, h1, h2, h3, rfl⟩ := hrel
    rcases Nat.eq_zero_or_pos j with h0 | h0
    · subst h0
      rw [show 2 ^ 0 = 1 from rfl] at h2 h3
      rw [show ((2 ^ 0 / 2 : Nat) : Int) = 0 from rfl]
      obtain ⟨m1, m2, m3, m4, m5⟩ := HM.out W h1 h2
      have HM1 := Lib.hid m1
      have HM2 := Lib.hid m2
      have HM3 := Lib.hid m3
      have HM4 := Lib.hid m4
      clear m1 m2 m3 m4 h1 h2 h3 HM
      have hWl : W < 18446744073709551616 := by omega
      go_wp2_with fail
      refine (gOf7 w W hWl).mono ?_
      rintro e w1 ⟨X1, q1, d1, rfl, S1, _, b1⟩
      have B1 := b1
      have hq1 : q1 ≤ 1 := by have h := S1.1; rw [length_wd] at h; have := nbits_of_lt W 64 hWl; omega
      go_wp2_with fail
      refine (gShl7 S1.in_ 32 (by omega) (by omega)).mono ?_
      rintro e w2 ⟨X2, q2, d2, rfl, S2, _, b2⟩
      have B2 := below_step B1 b2
      have S1 := S1.step b2
      clear S1
      have hq2 : q2 ≤ 2 := by have h := S2.1; rw [length_wd] at h; have := nbits_of_lt W 64 hWl; have := nbits_shl W 32; omega
      go_wp2_with fail
      have HFq := HM4.out
      refine (shaFrac_any p F hp false HFr.out _).mono ?_
      rintro e w3 ⟨rfl, b3⟩
      have B3 := below_step B2 b3
      have S2 := S2.step b3
      have hF64 : F < 18446744073709551616 := by omega
      go_wp2_with fail
      refine (gOf7 w3 F hF64).mono ?_
      rintro e w4 ⟨X3, q3, d3, rfl, S3, _, b4⟩
      have B4 := below_step B3 b4
      have S2 := S2.step b4
      have hq3 : q3 ≤ 1 := by have h := S3.1; rw [length_wd] at h; have := nbits_of_lt F 64 hF64; omega
      go_wp2_with fail
      refine (bAdd S2.in_ S3.in_ (by omega)).mono ?_
      rintro e w5 ⟨X4, q4, d4, rfl, S4, _, b5⟩
      have B5 := below_step B4 b5
      have S2 := S2.step b5
      have S3 := S3.step b5
      have hq4 : q4 ≤ 3 := by have h := S4.1; rw [length_wd] at h; have := nbits_add (2 ^ 32 * W) F; have := nbits_of_lt W 64 hWl; have := nbits_shl W 32; have := nbits_of_lt F 64 hF64; omega
      rw [HM1.out] at S4
      clear S2 S3
      have K4 := S4.in_.made (.cells #[.int .u64 1] 22)
      have N1 := natIn_one w5
      have bn : Below w5.heap.size w5 (w5.alloc (.cells #[.int .u64 1] 22)) := (Below.refl _ _).alloc (Nat.le_refl _) _
      have S4 := S4.step bn
      have B5a := below_step B5 bn
      obtain ⟨wn, hwn⟩ : ∃ x, w5.alloc (.cells #[.int .u64 1] 22) = x := ⟨_, rfl⟩
      obtain ⟨g, hg⟩ : ∃ g, w5.heap.size = g := ⟨_, rfl⟩
      have HWN := Lib.hid hwn
      have HGN := Lib.hid hg
      rw [hwn] at K4 N1 S4 B5a
      rw [hg] at N1
      clear bn hwn hg
      go_wp2_with fail
      rw [HWN.out, HGN.out]
      refine (bAdd K4 N1 (by omega)).mono ?_
      rintro e w6 ⟨X5, q5, d5, rfl, S5, _, b6⟩
      have B6 := below_step B5a b6
      have S4 := S4.step b6
      clear K4 N1
      have hq5 : q5 ≤ 5 := by have h := S5.1; rw [length_wd] at h; have := nbits_add R 1; have h4 := S4.1; rw [length_wd] at h4; rw [show nbits 1 = 1 by decide] at this; omega
      go_wp2_with fail
      refine (bSquare S4.in_ (by omega)).mono ?_
      rintro e w7 ⟨X6, q6, d6, rfl, S6, _, b7⟩
      have B7 := below_step B6 b7
      have S4 := S4.step b7
      have S5 := S5.step b7
      have hq6 : q6 ≤ 7 := by have h := S6.1; rw [length_wd] at h; have := nbits_mul R R; have h4 := S4.1; rw [length_wd] at h4; omega
      go_wp2_with fail
      refine (bSquare S5.in_ (by omega)).mono ?_
      rintro e w8 ⟨X7, q7, d7, rfl, S7, _, b8⟩
      have B8 := below_step B7 b8
      have S4 := S4.step b8
      have S5 := S5.step b8
      have S6 := S6.step b8
      have hq7 : q7 ≤ 11 := by have h := S7.1; rw [length_wd] at h; have := nbits_mul (R + 1) (R + 1); have h5 := S5.1; rw [length_wd] at h5; omega
      go_wp2_with fail
      refine (gOf7 w8 p hp).mono ?_
      rintro e w9 ⟨X8, q8, d8, rfl, S8, _, b9⟩
      have B9 := below_step B8 b9
      have S4 := S4.step b9
      have S5 := S5.step b9
      have S6 := S6.step b9
      have S7 := S7.step b9
      have hq8 : q8 ≤ 1 := by have h := S8.1; rw [length_wd] at h; have := nbits_of_lt p 64 hp; omega
      go_wp2_with fail
      refine (gShl7 S8.in_ 64 (by omega) (by omega)).mono ?_
      rintro e w10 ⟨X9, q9, d9, rfl, S9, _, b10⟩
      have B10 := below_step B9 b10
      have S4 := S4.step b10
      have S5 := S5.step b10
      have S6 := S6.step b10
      have S7 := S7.step b10
      have S8 := S8.step b10
      go_wp2_with fail
      have HC1 := Lib.hid (bCmp S6.in_ S9.in_)
      have hc1 : cmpS (R * R) (2 ^ 64 * p) ≤ 0 := cmp_le7 HM2.out
      obtain ⟨cm1, hcm1⟩ : ∃ c, cmpS (R * R) (2 ^ 64 * p) = c := ⟨_, rfl⟩
      rw [hcm1] at HC1 hc1
      clear hcm1
      refine (HC1.out).mono ?_
      rintro e w11 ⟨rfl, b11⟩
      have B11 := below_step B10 b11
      have S4 := S4.step b11
      have S5 := S5.step b11
      have S6 := S6.step b11
      have S7 := S7.step b11
      have S8 := S8.step b11
      have S9 := S9.step b11
      have HC2 := Lib.hid (bCmp S7.in_ S9.in_)
      have hc2 : 0 < cmpS ((R + 1) * (R + 1)) (2 ^ 64 * p) := cmp_gt7 HM3.out
      obtain ⟨cm2, hcm2⟩ : ∃ c, cmpS ((R + 1) * (R + 1)) (2 ^ 64 * p) = c := ⟨_, rfl⟩
      rw [hcm2] at HC2 hc2
      clear hcm2
      go_wp2_with fail
      refine (HC2.out).mono ?_
      rintro e w12 ⟨rfl, b12⟩
      have B12 := below_step B11 b12
      have S4 := S4.step b12
      have S5 := S5.step b12
      have S6 := S6.step b12
      have S7 := S7.step b12
      have S8 := S8.step b12
      have S9 := S9.step b12
      go_wp2_with fail
      refine (shaWorks_any _ (HG.out.below B12)).mono ?_
      rintro e w13 ⟨rfl, b13⟩
      have B13 := below_step B12 b13
      have S4 := S4.step b13
      have S5 := S5.step b13
      have S6 := S6.step b13
      have S7 := S7.step b13
      have S8 := S8.step b13
      have S9 := S9.step b13
      go_wp2_with fail
      go_ret
      exact ⟨rfl, B13⟩
    · obtain ⟨m, rfl⟩ : ∃ m, j = m + 1 := ⟨j - 1, by omega⟩
      have e1 : 2 ^ (m + 1) / 2 = 2 ^ m := by rw [Nat.pow_succ]; omega
      have e2 : 2 ^ (m + 1) = 2 ^ m + 2 ^ m := by rw [Nat.pow_succ]; omega
      rw [e1]
      rw [e2] at h2 h3
      have hb0 : 0 < 2 ^ m := Nat.pow_pos (by omega)
      have Hdiv := Lib.hid (rfl : 2 ^ m / 2 = 2 ^ m / 2)
      obtain ⟨b, hb⟩ : ∃ b, 2 ^ m = b := ⟨_, rfl⟩
      rw [hb] at h2 h3 hb0 ⊢
      obtain ⟨x, hx⟩ : ∃ x, W + b = x := ⟨_, rfl⟩
      have hxl : x < 4294967296 := by omega
      have hx0 : 0 < x := by omega
      have hxi : (W : Int) + (b : Int) = (x : Int) := by omega
      obtain ⟨P, hP⟩ : ∃ P, x * x = P := ⟨_, rfl⟩
      have hPl : P < 18446744073709551616 := by rw [← hP]; exact Nat.lt_of_le_of_lt (Nat.mul_le_mul (Nat.le_of_lt_succ hxl) (Nat.le_of_lt_succ hxl)) (by decide)
      have hPi : (x : Int) * (x : Int) = (P : Int) := by rw [← hP, Int.natCast_mul]
      have hbd : (b : Int) / 2 = ((2 ^ m / 2 : Nat) : Int) := by rw [hb]; omega
      have hbp : (0 : Int) < (b : Int) := by omega
      have e3 : W + (b + b) = x + b := by omega
      rw [e3] at h2 h3
      have HX := Lib.hid hx
      have HBB := Lib.hid hb
      have HP := Lib.hid hP
      have H2 := Lib.hid h2
      have H1 := Lib.hid h1
      have H3 := Lib.hid h3
      obtain ⟨b2, hb2⟩ : ∃ b2, 2 ^ m / 2 = b2 := ⟨_, rfl⟩
      rw [hb2] at hbd
      have HB2 := Lib.hid hb2
      clear hx hP h1 h2 h3 e1 e2 e3 hb hb2 Hdiv
      by_cases hle : P ≤ p
      · have hle2 : (P : Int) ≤ (p : Int) := by omega
        go_wp2_with fail
        go_roundw
        case rel => exact ⟨m, x, by omega, rfl, by rw [HB2.out], by rw [HP.out]; exact hle, by rw [HBB.out]; exact H2.out, by rw [HBB.out]; exact H3.out, by first | rfl | trivial⟩
        case measure => simp [intOf]; omega
      · have hle2 : ¬ (P : Int) ≤ (p : Int) := by omega
        go_wp2_with fail
        go_roundw
        case rel => exact ⟨m, W, by omega, rfl, by rw [HB2.out], H1.out, by rw [HBB.out, HX.out, HP.out]; omega, by rw [HBB.out, HX.out]; omega, by first | rfl | trivial⟩
        case measure => simp [intOf]; omega
/-- Where the cube root is asked. -/
theorem between_cb_math (p F R : Nat) (hp : p < 18446744073709551616) (hR : IsRoot (if true then 3 else 2) (2 ^ (if true then 96 else 64) * p) R) (hF : F = R % 4294967296) (W : Nat) (h1 : W * (W * W) ≤ p) (h2 : p < (W + 1) * ((W + 1) * (W + 1))) :
    2 ^ 32 * W + F = R ∧ R * (R * R) ≤ 2 ^ 96 * p ∧ 2 ^ 96 * p < (R + 1) * ((R + 1) * (R + 1)) ∧ F < 4294967296 ∧ W < 4294967296 ∧ W ≤ 2642245 := by
  have hR2 : IsRoot 3 (2 ^ (32 * 3) * p) R := hR
  have hw := whole_root (by omega) hR2
  have hW : IsRoot 3 p W := isRoot_three.2 ⟨h1, h2⟩
  have e := hw.uniq hW
  have h3 := isRoot_three.1 hR2
  have hW2 : W < 4294967296 := by
    rcases Nat.lt_or_ge W 4294967296 with h | h
    · exact h
    · have := Nat.mul_le_mul h (Nat.mul_le_mul h h); omega
  refine ⟨by rw [hF, ← e]; omega, h3.1, h3.2, by rw [hF]; exact Nat.mod_lt _ (by omega), hW2, by
    rcases Nat.lt_or_ge 2642245 W with h | h
    · have := cube_big W h; omega
    · exact h⟩
set_option maxHeartbeats 2000000 in
theorem between_cb (p : Nat) (hp : p < 18446744073709551616) (w : World) (hL : Laid w) : Calls Tryd.prog 4 #[.int .u64 (p : Int), .bool true] w fun e w' => e = .returned (.bool true) ∧ Below w.heap.size w w' := by
  obtain ⟨F, hF⟩ := frac_some p true
  have HFr := Lib.hid hF
  obtain ⟨R, hR, hFR⟩ := hF
  have HM := Lib.hid (between_cb_math p F R hp hR hFR)
  have HG := Lib.hid hL
  clear hL
  clear hR hFR
  go_enter Tryd.func4, Tryd.ntmps4
  go_wp2_with fail
  go_loopw [5, 6] (fun v b wr => ∃ j W : Nat, j ≤ 32 ∧ v = .int .u64 (W : Int) ∧ b = .int .u64 ((2 ^ j / 2 : Nat) : Int) ∧ W * (W * W) ≤ p ∧ p < (W + 2 ^ j) * ((W + 2 ^ j) * (W + 2 ^ j)) ∧ W + 2 ^ j ≤ 4294967296 ∧ w = wr) (fun _ b _ => (intOf b).toNat)
  case atStart => exact ⟨32, 0, by omega, rfl, rfl, by omega, by rw [Nat.zero_add]; exact Nat.lt_of_lt_of_le hp (by decide), by decide, rfl⟩
  case round =>
    obtain ⟨j, W, hj, rfl, rfl, h1, h2, h3, rfl⟩ := hrel
    rcases Nat.eq_zero_or_pos j with h0 | h0
    · subst h0
      rw [show 2 ^ 0 = 1 from rfl] at h2 h3
      rw [show ((2 ^ 0 / 2 : Nat) : Int) = 0 from rfl]
      obtain ⟨m1, m2, m3, m4, m5, m6⟩ := HM.out W h1 h2
      have hW6 : ¬ (2642245 : Int) < (W : Int) := by omega
      have HM1 := Lib.hid m1
      have HM2 := Lib.hid m2
      have HM3 := Lib.hid m3
      have HM4 := Lib.hid m4
      clear m1 m2 m3 m4 h1 h2 h3 HM
      have hWl : W < 18446744073709551616 := by omega
      go_wp2_with fail
      refine (gOf7 w W hWl).mono ?_
      rintro e w1 ⟨X1, q1, d1, rfl, S1, _, b1⟩
      have B1 := b1
      have hq1 : q1 ≤ 1 := by have h := S1.1; rw [length_wd] at h; have := nbits_of_lt W 64 hWl; omega
      go_wp2_with fail
      refine (gShl7 S1.in_ 32 (by omega) (by omega)).mono ?_
      rintro e w2 ⟨X2, q2, d2, rfl, S2, _, b2⟩
      have B2 := below_step B1 b2
      have S1 := S1.step b2
      clear S1
      have hq2 : q2 ≤ 2 := by have h := S2.1; rw [length_wd] at h; have := nbits_of_lt W 64 hWl; have := nbits_shl W 32; omega
      go_wp2_with fail
      have HFq := HM4.out
      refine (shaFrac_any p F hp true HFr.out _).mono ?_
      rintro e w3 ⟨rfl, b3⟩
      have B3 := below_step B2 b3
      have S2 := S2.step b3
      have hF64 : F < 18446744073709551616 := by omega
      go_wp2_with fail
      refine (gOf7 w3 F hF64).mono ?_
      rintro e w4 ⟨X3, q3, d3, rfl, S3, _, b4⟩
      have B4 := below_step B3 b4
      have S2 := S2.step b4
      have hq3 : q3 ≤ 1 := by have h := S3.1; rw [length_wd] at h; have := nbits_of_lt F 64 hF64; omega
      go_wp2_with fail
      refine (bAdd S2.in_ S3.in_ (by omega)).mono ?_
      rintro e w5 ⟨X4, q4, d4, rfl, S4, _, b5⟩
      have B5 := below_step B4 b5
      have S2 := S2.step b5
      have S3 := S3.step b5
      have hq4 : q4 ≤ 3 := by have h := S4.1; rw [length_wd] at h; have := nbits_add (2 ^ 32 * W) F; have := nbits_of_lt W 64 hWl; have := nbits_shl W 32; have := nbits_of_lt F 64 hF64; omega
      rw [HM1.out] at S4
      clear S2 S3
      have K4 := S4.in_.made (.cells #[.int .u64 1] 22)
      have N1 := natIn_one w5
      have bn : Below w5.heap.size w5 (w5.alloc (.cells #[.int .u64 1] 22)) := (Below.refl _ _).alloc (Nat.le_refl _) _
      have S4 := S4.step bn
      have B5a := below_step B5 bn
      obtain ⟨wn, hwn⟩ : ∃ x, w5.alloc (.cells #[.int .u64 1] 22) = x := ⟨_, rfl⟩
      obtain ⟨g, hg⟩ : ∃ g, w5.heap.size = g := ⟨_, rfl⟩
      have HWN := Lib.hid hwn
      have HGN := Lib.hid hg
      rw [hwn] at K4 N1 S4 B5a
      rw [hg] at N1
      clear bn hwn hg
      go_wp2_with fail
      rw [HWN.out, HGN.out]
      refine (bAdd K4 N1 (by omega)).mono ?_
      rintro e w6 ⟨X5, q5, d5, rfl, S5, _, b6⟩
      have B6 := below_step B5a b6
      have S4 := S4.step b6
      clear K4 N1
      have hq5 : q5 ≤ 5 := by have h := S5.1; rw [length_wd] at h; have := nbits_add R 1; have h4 := S4.1; rw [length_wd] at h4; rw [show nbits 1 = 1 by decide] at this; omega
      go_wp2_with fail
      refine (bSquare S4.in_ (by omega)).mono ?_
      rintro e w7 ⟨X6, q6, d6, rfl, S6, _, b7⟩
      have B7 := below_step B6 b7
      have S4 := S4.step b7
      have S5 := S5.step b7
      have hq6 : q6 ≤ 7 := by have h := S6.1; rw [length_wd] at h; have := nbits_mul R R; have h4 := S4.1; rw [length_wd] at h4; omega
      go_wp2_with fail
      refine (bSquare S5.in_ (by omega)).mono ?_
      rintro e w8 ⟨X7, q7, d7, rfl, S7, _, b8⟩
      have B8 := below_step B7 b8
      have S4 := S4.step b8
      have S5 := S5.step b8
      have S6 := S6.step b8
      have hq7 : q7 ≤ 11 := by have h := S7.1; rw [length_wd] at h; have := nbits_mul (R + 1) (R + 1); have h5 := S5.1; rw [length_wd] at h5; omega
      go_wp2_with fail
      refine (gOf7 w8 p hp).mono ?_
      rintro e w9 ⟨X8, q8, d8, rfl, S8, _, b9⟩
      have B9 := below_step B8 b9
      have S4 := S4.step b9
      have S5 := S5.step b9
      have S6 := S6.step b9
      have S7 := S7.step b9
      have hq8 : q8 ≤ 1 := by have h := S8.1; rw [length_wd] at h; have := nbits_of_lt p 64 hp; omega
      go_wp2_with fail
      refine (gShl7 S8.in_ 64 (by omega) (by omega)).mono ?_
      rintro e w10 ⟨X9, q9, d9, rfl, S9, _, b10⟩
      have B10 := below_step B9 b10
      have S4 := S4.step b10
      have S5 := S5.step b10
      have S6 := S6.step b10
      have S7 := S7.step b10
      have S8 := S8.step b10
      go_wp2_with fail
      refine (bMul S6.in_ S4.in_ (by omega) (by omega)).mono ?_
      rintro e w11 ⟨X10, q10, d10, rfl, S10, _, b11⟩
      have B11 := below_step B10 b11
      have S4 := S4.step b11
      have S5 := S5.step b11
      have S6 := S6.step b11
      have S7 := S7.step b11
      have S8 := S8.step b11
      have S9 := S9.step b11
      go_wp2_with fail
      refine (bMul S7.in_ S5.in_ (by omega) (by omega)).mono ?_
      rintro e w12 ⟨X11, q11, d11, rfl, S11, _, b12⟩
      have B12 := below_step B11 b12
      have S4 := S4.step b12
      have S5 := S5.step b12
      have S6 := S6.step b12
      have S7 := S7.step b12
      have S8 := S8.step b12
      have S9 := S9.step b12
      have S10 := S10.step b12
      go_wp2_with fail
      refine (gOf7 w12 p hp).mono ?_
      rintro e w13 ⟨X12, q12, d12, rfl, S12, _, b13⟩
      have B13 := below_step B12 b13
      have S4 := S4.step b13
      have S5 := S5.step b13
      have S6 := S6.step b13
      have S7 := S7.step b13
      have S8 := S8.step b13
      have S9 := S9.step b13
      have S10 := S10.step b13
      have S11 := S11.step b13
      have hq12 : q12 ≤ 1 := by have h := S12.1; rw [length_wd] at h; have := nbits_of_lt p 64 hp; omega
      go_wp2_with fail
      refine (gShl7 S12.in_ 96 (by omega) (by omega)).mono ?_
      rintro e w14 ⟨X13, q13, d13, rfl, S13, _, b14⟩
      have B14 := below_step B13 b14
      have S4 := S4.step b14
      have S5 := S5.step b14
      have S6 := S6.step b14
      have S7 := S7.step b14
      have S8 := S8.step b14
      have S9 := S9.step b14
      have S10 := S10.step b14
      have S11 := S11.step b14
      have S12 := S12.step b14
      have hm : R * R * R = R * (R * R) ∧ (R + 1) * (R + 1) * (R + 1) = (R + 1) * ((R + 1) * (R + 1)) := ⟨Nat.mul_comm _ _, Nat.mul_comm _ _⟩
      rw [hm.1] at S10
      rw [hm.2] at S11
      have HC1 := Lib.hid (bCmp S10.in_ S13.in_)
      have hc1 : cmpS (R * (R * R)) (2 ^ 96 * p) ≤ 0 := cmp_le7 HM2.out
      obtain ⟨cm1, hcm1⟩ : ∃ c, cmpS (R * (R * R)) (2 ^ 96 * p) = c := ⟨_, rfl⟩
      rw [hcm1] at HC1 hc1
      clear hcm1
      go_wp2_with fail
      refine (HC1.out).mono ?_
      rintro e w15 ⟨rfl, b15⟩
      have B15 := below_step B14 b15
      have S4 := S4.step b15
      have S5 := S5.step b15
      have S6 := S6.step b15
      have S7 := S7.step b15
      have S8 := S8.step b15
      have S9 := S9.step b15
      have S10 := S10.step b15
      have S11 := S11.step b15
      have S12 := S12.step b15
      have S13 := S13.step b15
      have HC2 := Lib.hid (bCmp S11.in_ S13.in_)
      have hc2 : 0 < cmpS ((R + 1) * ((R + 1) * (R + 1))) (2 ^ 96 * p) := cmp_gt7 HM3.out
      obtain ⟨cm2, hcm2⟩ : ∃ c, cmpS ((R + 1) * ((R + 1) * (R + 1))) (2 ^ 96 * p) = c := ⟨_, rfl⟩
      rw [hcm2] at HC2 hc2
      clear hcm2
      go_wp2_with fail
      refine (HC2.out).mono ?_
      rintro e w16 ⟨rfl, b16⟩
      have B16 := below_step B15 b16
      have S4 := S4.step b16
      have S5 := S5.step b16
      have S6 := S6.step b16
      have S7 := S7.step b16
      have S8 := S8.step b16
      have S9 := S9.step b16
      have S10 := S10.step b16
      have S11 := S11.step b16
      have S12 := S12.step b16
      have S13 := S13.step b16
      go_wp2_with fail
      refine (shaWorks_any _ (HG.out.below B16)).mono ?_
      rintro e w17 ⟨rfl, b17⟩
      have B17 := below_step B16 b17
      have S4 := S4.step b17
      have S5 := S5.step b17
      have S6 := S6.step b17
      have S7 := S7.step b17
      have S8 := S8.step b17
      have S9 := S9.step b17
      have S10 := S10.step b17
      have S11 := S11.step b17
      have S12 := S12.step b17
      have S13 := S13.step b17
      go_wp2_with fail
      go_ret
      exact ⟨rfl, B17⟩
    · obtain ⟨m, rfl⟩ : ∃ m, j = m + 1 := ⟨j - 1, by omega⟩
      have e1 : 2 ^ (m + 1) / 2 = 2 ^ m := by rw [Nat.pow_succ]; omega
      have e2 : 2 ^ (m + 1) = 2 ^ m + 2 ^ m := by rw [Nat.pow_succ]; omega
      rw [e1]
      rw [e2] at h2 h3
      have hb0 : 0 < 2 ^ m := Nat.pow_pos (by omega)
      have Hdiv := Lib.hid (rfl : 2 ^ m / 2 = 2 ^ m / 2)
      obtain ⟨b, hb⟩ : ∃ b, 2 ^ m = b := ⟨_, rfl⟩
      rw [hb] at h2 h3 hb0 ⊢
      obtain ⟨x, hx⟩ : ∃ x, W + b = x := ⟨_, rfl⟩
      have hxl : x < 4294967296 := by omega
      have hx0 : 0 < x := by omega
      have hxi : (W : Int) + (b : Int) = (x : Int) := by omega
      obtain ⟨P, hP⟩ : ∃ P, x * x = P := ⟨_, rfl⟩
      have hPl : P < 18446744073709551616 := by rw [← hP]; exact Nat.lt_of_le_of_lt (Nat.mul_le_mul (Nat.le_of_lt_succ hxl) (Nat.le_of_lt_succ hxl)) (by decide)
      have hPi : (x : Int) * (x : Int) = (P : Int) := by rw [← hP, Int.natCast_mul]
      have hbd : (b : Int) / 2 = ((2 ^ m / 2 : Nat) : Int) := by rw [hb]; omega
      have hbp : (0 : Int) < (b : Int) := by omega
      have e3 : W + (b + b) = x + b := by omega
      rw [e3] at h2 h3
      have HX := Lib.hid hx
      have HBB := Lib.hid hb
      have HP := Lib.hid hP
      have H2 := Lib.hid h2
      have H1 := Lib.hid h1
      have H3 := Lib.hid h3
      obtain ⟨b2, hb2⟩ : ∃ b2, 2 ^ m / 2 = b2 := ⟨_, rfl⟩
      rw [hb2] at hbd
      have HB2 := Lib.hid hb2
      clear hx hP h1 h2 h3 e1 e2 e3 hb hb2 Hdiv
      by_cases hsm : x < 3145728
      · have hsi : (x : Int) < 3145728 := by omega
        have hq : (p : Int) / (x : Int) = ((p / x : Nat) : Int) := by simp
        have hxz : ((x : Int) == 0) = false := by simp; omega
        have hct := cube_test x p hx0
        rw [HP.out] at hct
        obtain ⟨Q, hQ⟩ : ∃ Q, p / x = Q := ⟨_, rfl⟩
        rw [hQ] at hq hct
        have hQl : Q < 18446744073709551616 := by rw [← hQ]; exact Nat.lt_of_le_of_lt (Nat.div_le_self _ _) hp
        have HCT := Lib.hid hct
        clear hQ hct
        by_cases hle : P ≤ Q
        · have hle2 : (P : Int) ≤ (Q : Int) := by omega
          go_wp2_with fail
          go_roundw
          case rel => exact ⟨m, x, by omega, rfl, by rw [HB2.out], by rw [HP.out]; exact HCT.out.1 hle, by rw [HBB.out]; exact H2.out, by rw [HBB.out]; exact H3.out, by first | rfl | trivial⟩
          case measure => simp [intOf]; omega
        · have hle2 : ¬ (P : Int) ≤ (Q : Int) := by omega
          go_wp2_with fail
          go_roundw
          case rel => exact ⟨m, W, by omega, rfl, by rw [HB2.out], H1.out, by rw [HBB.out, HX.out, HP.out]; exact Nat.not_le.1 fun h => hle (HCT.out.2 h), by rw [HBB.out, HX.out]; omega, by first | rfl | trivial⟩
          case measure => simp [intOf]; omega
      · have hsi : ¬ (x : Int) < 3145728 := by omega
        have hbig := cube_big x (by omega)
        rw [HP.out] at hbig
        have HBg := Lib.hid hbig
        clear hbig
        go_wp2_with fail
        go_roundw
        case rel => exact ⟨m, W, by omega, rfl, by rw [HB2.out], H1.out, by rw [HBB.out, HX.out, HP.out]; have := HBg.out; omega, by rw [HBB.out, HX.out]; omega, by first | rfl | trivial⟩
        case measure => simp [intOf]; omega
theorem shaBetween_walk (a0 : Int) (a1 : Bool) (w : World) (w0 : (Lit.int .u64 a0).wf = true) (hL : Laid w) : Calls Tryd.prog 4 #[.int .u64 a0, .bool a1] w fun e w' => e = .returned (.bool true) ∧ Below w.heap.size w w' := by
  have h0 : 0 ≤ a0 ∧ a0 ≤ 18446744073709551615 := by simpa [Lit.wf, IntKind.min, IntKind.max, IntKind.signed, IntKind.bits] using w0
  obtain ⟨p, rfl⟩ : ∃ p : Nat, a0 = (p : Int) := ⟨a0.toNat, by omega⟩
  cases a1
  · exact between_sq p (by omega) w hL
  · exact between_cb p (by omega) w hL
end Go.Proofs.YtjeliomjnalpcaaDoor
/- ShaSums' walk: it answers true, and writes nothing that was there. Conditions: what the arguments' types give; the tables of constants are laid. -/
namespace Go.Proofs.YtjeliomjnalpcaaDoor
open Go.RowKit
set_option maxRecDepth 20000
/-- Two sums of one message. -/
theorem eq_sums (m : List Nat) (u : World) : (Op.equalIn 10000 35 (.agg (ints .u8 (shaS m)).toArray) (.agg (ints .u8 (shaS m)).toArray)).run Tryd.prog u = .ok true u := by
  have hl : (shaS m).length = 32 := length_bytesS _
  rw [run_equalIn_ints u 9998 35 5 32 .u8 Tryd.underlying35 Tryd.underlying5 (fun w => by rfl) (shaS m) (shaS m) hl hl]; simp
theorem sSum (A : Option Addr) (n c : Nat) (m : List Nat) (w : World) (hn : m.length = n) (hr : Rd .u8 w w.heap.size A m) (hm : Bytes m) (hl : n ≤ 100000) (hc : n ≤ c) (ca : Array Value) (hca : (ints .u8 (shaS m)).toArray = ca) (hL : Laid w) : Calls Tryd.prog 17 #[.slice A n c] w fun e w' => e = .returned (.agg ca) ∧ Below w.heap.size w w' := by
  subst hn
  subst hca
  exact shaSum_any A c m w hr hm hl hc hL
theorem dSum (A : Option Addr) (n c : Nat) (m : List Nat) (w : World) (hn : m.length = n) (hr : Rd .u8 w w.heap.size A m) (hm : Bytes m) (hl : n ≤ 100000) (ca : Array Value) (hca : (ints .u8 (shaS m)).toArray = ca) : Calls Tryd.prog 18 #[.slice A n c] w fun e w' => e = .returned (.agg ca) ∧ Below w.heap.size w w' := by
  subst hn
  subst hca
  exact sum07 A c m w hr hm hl
set_option maxHeartbeats 1000000 in
theorem shaSums_walk (A0 : Option Addr) (c0 : Nat) (l0 : List Nat) (w : World) (r0 : Rd .u8 w w.heap.size A0 l0) (y0 : Bytes l0) (_z0 : l0.length * 1 ≤ 140737488351232) (_u0 : l0.length ≤ c0) (hL : Laid w) : Calls Tryd.prog 5 #[.slice A0 l0.length c0] w fun e w' => e = .returned (.bool true) ∧ Below w.heap.size w w' := by
  have HG := Lib.hid hL
  clear hL
  obtain ⟨i0, hi, hz0, hz1, hz2⟩ := info_parts num_info_u8
  obtain ⟨n, hn⟩ : ∃ n, l0.length = n := ⟨_, rfl⟩
  rw [hn] at _u0 ⊢
  by_cases hbig : n ≤ 4096
  · have hbi : ¬ (4096 : Int) < (n : Int) := by omega
    obtain ⟨ca, hca⟩ : ∃ ca, (ints .u8 (shaS l0)).toArray = ca := ⟨_, rfl⟩
    have hEq := eq_sums l0
    rw [hca] at hEq
    have HCA := Lib.hid hca
    have own0 : (w.alloc (.cells #[] 5)).ownsRow w.heap.size 5 1 (.slice (some ⟨w.heap.size, 0, none⟩) 0 0) 0 (ints .u8 []) := own_of_heap (cur := []) (heap_alloc_new w (.cells #[] 5)) (Nat.le_refl _) (Nat.le_refl _) (by unfold maxLen; omega) rfl rfl
    have b0 : Below w.heap.size w (w.alloc (.cells #[] 5)) := (Below.refl _ w).alloc (Nat.le_refl _) _
    have hr0 := Lib.hid (r0.below b0)
    have hr := Lib.hid r0
    have hy := Lib.hid y0
    have Hn := Lib.hid hn
    clear hca r0 y0 hn
    go_enter Tryd.func5, Tryd.ntmps5
    go_wp2_with (at_builtin; refine wpList_append_rd _ rfl (.tmp 8) (.tmp 9) _ rfl w.heap.size 5 i0 _ 1 Tryd.underlying34 hi hz0 hz1 hz2 rfl (.slice (some ⟨w.heap.size, 0, none⟩) 0 0) 0 (ints .u8 []) rfl own0 .u8 w.heap.size A0 n c0 l0 rfl Hn.out hr0.out ?c4 ?c5 ?c6 ?_)
    case c4 => unfold maxLen; omega
    case c5 => omega
    intro v1 w1 own1 g1
    have b1 : Below w.heap.size w w1 := b0.grown g1 b0.size (by simp [Value.ownBlock])
    rw [← ints_append, List.nil_append] at own1
    (try rw [Nat.zero_add] at own1)
    obtain ⟨X1, d1, rfl, hd1, _⟩ := own_form own1
    have R1 := Rd.own own1
    clear own0 g1 hr0 own1 b0
    go_wp2_with fail
    refine (sSum X1 n d1 l0 w1 Hn.out R1 hy.out (by omega) hd1 ca HCA.out (HG.out.below b1)).mono ?_
    rintro e w2 ⟨rfl, b2⟩
    have B2 := b1.trans (b2.mono b1.size)
    have R2 := rd_step R1 b2
    go_wp2_with fail
    refine (dSum A0 n c0 l0 w2 Hn.out ((hr.out.below B2).more B2.size) hy.out (by omega) ca HCA.out).mono ?_
    rintro e w3 ⟨rfl, b3⟩
    have B3 := B2.trans (b3.mono B2.size)
    have R3 := rd_step R2 b3
    have Q3 := hr.out.below B3
    have s1 := run_str (P := Tryd.prog) w3 34 9 5 Tryd.underlying34 Tryd.underlying5 Tryd.underlying9 _ X1 _ d1 R3
    have s2 := run_str (P := Tryd.prog) w3 34 9 5 Tryd.underlying34 Tryd.underlying5 Tryd.underlying9 _ A0 _ c0 Q3
    rw [Hn.out] at s1 s2
    obtain ⟨s, hs⟩ : ∃ s, str l0 = s := ⟨_, rfl⟩
    rw [hs] at s1 s2
    clear R1 R2 R3 Q3 hs
    go_wp2_with fail
    refine (shaWorks_any w3 (HG.out.below B3)).mono ?_
    rintro e w4 ⟨rfl, b4⟩
    have B4 := B3.trans (b4.mono B3.size)
    clear s1 s2 hEq
    go_wp2_with fail
    go_ret
    exact ⟨rfl, B4⟩
  · have hbi : (4096 : Int) < (n : Int) := by omega
    go_enter Tryd.func5, Tryd.ntmps5
    go_wp2_with fail
    refine (shaWorks_any w HG.out).mono ?_
    rintro e w1 ⟨rfl, b1⟩
    go_wp2_with fail
    go_ret
    exact ⟨rfl, b1⟩
end Go.Proofs.YtjeliomjnalpcaaDoor

/- Several texts in one; each begins with a remark that says what it shows and on which conditions. -/
import Derived.Test.YtjeliomjnalpcaaDoorKal
import Derived.Test.YtjeliomjnalpcaaDoorKam
import Derived.Deep.DeepCutAuto
/- The code's 'turned': the words behind a block. Conditions: as typed (64 bytes or more, the tables laid). -/
namespace Go.Proofs.YtjeliomjnalpcaaDoor
open Go.RowKit
set_option maxRecDepth 20000
theorem nth_rounds (h ks ws : List Nat) (i : Nat) : roundsS h ks ws (i + 1) = roundS (roundsS h ks ws i) (nth ks i) (nth ws i) := rfl
set_option maxHeartbeats 8000000 in
theorem turned_pf (ws : List Nat) (hw8 : ws.length = 8) (hws : W32 ws) (A : Option Addr) (n cap : Nat) (m : List Nat) (w : World) (hn : m.length = n) (hr : Rd .u8 w w.heap.size A m) (hm : Bytes m) (hl : 64 ≤ n) (hcap : n ≤ cap) (hbig : n ≤ 1000000) (hL : Laid w) :
    Calls Tryd.prog 49 #[.agg (ints .u32 ws).toArray, .slice A n cap] w (OutAgg .u32 (blockS ws m) w) := by
  obtain ⟨v0, v1, v2, v3, v4, v5, v6, v7, rfl⟩ := list8 ws hw8
  have HW := Lib.hid hws
  change Calls _ _ #[.agg #[.int .u32 (v0 : Int), .int .u32 (v1 : Int), .int .u32 (v2 : Int), .int .u32 (v3 : Int), .int .u32 (v4 : Int), .int .u32 (v5 : Int), .int .u32 (v6 : Int), .int .u32 (v7 : Int)], _] _ _
  have A1 : Arr ((w.alloc (.cells (ints .u32 [v0, v1, v2, v3, v4, v5, v6, v7]).toArray 54)).alloc (.cells (ints .u32 (List.replicate 8 0)).toArray 54)) w.heap.size 54 [v0, v1, v2, v3, v4, v5, v6, v7] := heap_kept7 (World.alloc_heap_new w _) _
  have A2 : Arr ((w.alloc (.cells (ints .u32 [v0, v1, v2, v3, v4, v5, v6, v7]).toArray 54)).alloc (.cells (ints .u32 (List.replicate 8 0)).toArray 54)) (w.heap.size + 1) 54 (List.replicate 8 0) := by have h := World.alloc_heap_new (w.alloc (.cells (ints .u32 [v0, v1, v2, v3, v4, v5, v6, v7]).toArray 54)) (.cells (ints .u32 (List.replicate 8 0)).toArray 54); rw [World.size_alloc] at h; exact h
  have bE : Below w.heap.size w ((w.alloc (.cells (ints .u32 [v0, v1, v2, v3, v4, v5, v6, v7]).toArray 54)).alloc (.cells (ints .u32 (List.replicate 8 0)).toArray 54)) := ((Below.refl _ w).alloc (Nat.le_refl _) _).alloc (by simp) _
  change Arr ((w.alloc (.cells #[.int .u32 (v0 : Int), .int .u32 (v1 : Int), .int .u32 (v2 : Int), .int .u32 (v3 : Int), .int .u32 (v4 : Int), .int .u32 (v5 : Int), .int .u32 (v6 : Int), .int .u32 (v7 : Int)] 54)).alloc (.cells #[.int .u32 0, .int .u32 0, .int .u32 0, .int .u32 0, .int .u32 0, .int .u32 0, .int .u32 0, .int .u32 0] 54)) _ _ _ at A1 A2
  change Below _ _ ((w.alloc (.cells #[.int .u32 (v0 : Int), .int .u32 (v1 : Int), .int .u32 (v2 : Int), .int .u32 (v3 : Int), .int .u32 (v4 : Int), .int .u32 (v5 : Int), .int .u32 (v6 : Int), .int .u32 (v7 : Int)] 54)).alloc (.cells #[.int .u32 0, .int .u32 0, .int .u32 0, .int .u32 0, .int .u32 0, .int .u32 0, .int .u32 0, .int .u32 0] 54)) at bE
  obtain ⟨E, hE⟩ : ∃ E, (w.alloc (.cells #[.int .u32 (v0 : Int), .int .u32 (v1 : Int), .int .u32 (v2 : Int), .int .u32 (v3 : Int), .int .u32 (v4 : Int), .int .u32 (v5 : Int), .int .u32 (v6 : Int), .int .u32 (v7 : Int)] 54)).alloc (.cells #[.int .u32 0, .int .u32 0, .int .u32 0, .int .u32 0, .int .u32 0, .int .u32 0, .int .u32 0, .int .u32 0] 54) = E := ⟨_, rfl⟩
  rw [hE] at A1 A2 bE
  have c0 : E.cell? ⟨w.heap.size, 0, none⟩ = some (.int .u32 (v0 : Int)) := A1.cell 0 (by simp)
  have c1 : E.cell? ⟨w.heap.size, 1, none⟩ = some (.int .u32 (v1 : Int)) := A1.cell 1 (by simp)
  have c2 : E.cell? ⟨w.heap.size, 2, none⟩ = some (.int .u32 (v2 : Int)) := A1.cell 2 (by simp)
  have c3 : E.cell? ⟨w.heap.size, 3, none⟩ = some (.int .u32 (v3 : Int)) := A1.cell 3 (by simp)
  have c4 : E.cell? ⟨w.heap.size, 4, none⟩ = some (.int .u32 (v4 : Int)) := A1.cell 4 (by simp)
  have c5 : E.cell? ⟨w.heap.size, 5, none⟩ = some (.int .u32 (v5 : Int)) := A1.cell 5 (by simp)
  have c6 : E.cell? ⟨w.heap.size, 6, none⟩ = some (.int .u32 (v6 : Int)) := A1.cell 6 (by simp)
  have c7 : E.cell? ⟨w.heap.size, 7, none⟩ = some (.int .u32 (v7 : Int)) := A1.cell 7 (by simp)
  have HA1 := Lib.hid A1
  have HA2 := Lib.hid A2
  have HR := Lib.hid hr
  have HM := Lib.hid hm
  have HL := Lib.hid hL
  clear A1 A2 hr hm hL
  go_enter Tryd.func49, Tryd.ntmps49
  go_wp2_with fail
  (try rw [hE])
  clear hE
  go_quiet (fail)
  have bE : Below w.heap.size w (E.drewN nq) := bE.trans (((Drawn.more nq).below _).mono bE.size)
  have A1 : Arr (E.drewN nq) w.heap.size 54 [v0, v1, v2, v3, v4, v5, v6, v7] := HA1.out
  have A2 : Arr (E.drewN nq) (w.heap.size + 1) 54 (List.replicate 8 0) := HA2.out
  obtain ⟨E2, hE2⟩ : ∃ E2, E.drewN nq = E2 := ⟨_, rfl⟩
  rw [hE2] at bE A1 A2 ⊢
  clear hE2 HA1 HA2 c0 c1 c2 c3 c4 c5 c6 c7
  have hS := schedule_pf A n cap m E2 hn ((HR.out.below bE).more bE.size) HM.out hl hcap hbig
  unfold OutAgg at hS
  have hSl : (schedS m 48).length = 64 := length_schedS m 48
  have hSlt := schedS_lt m HM.out 48
  have hfin : blockS [v0, v1, v2, v3, v4, v5, v6, v7] m = addS [v0, v1, v2, v3, v4, v5, v6, v7] (roundsS [v0, v1, v2, v3, v4, v5, v6, v7] stepsS (schedS m 48) 64) := rfl
  obtain ⟨S, hSS⟩ : ∃ S, schedS m 48 = S := ⟨_, rfl⟩
  rw [hSS] at hS hSl hSlt hfin
  have HFIN := Lib.hid hfin
  have hix := fun (u : World) (i : Nat) (hi : i < 64) => run_index_ints (P := Tryd.prog) u 55 23 64 .u32 Tryd.underlying55 Tryd.underlying23 (fun w => by rfl) S hSl i hi
  obtain ⟨cs, hcs⟩ : ∃ cs, (ints .u32 S).toArray = cs := ⟨_, rfl⟩
  rw [hcs] at hS hix
  have HS := Lib.hid hS
  have HIX := Lib.hid hix
  have HSLT := Lib.hid hSlt
  clear hS hix hcs hSS hfin hSl hSlt HR
  go_wp2_with fail
  refine (HS.out).mono ?_
  rintro e wS ⟨rfl, bS⟩
  have bS1 := bE.trans (bS.mono bE.size)
  have A1 := A1.below bS
  have A2 := A2.below bS
  clear HS bS
  go_wp2_with fail
  go_loopw [5, 6, 7, 8, 9, 10, 11, 12, 37] (fun s0 s1 s2 s3 s4 s5 s6 s7 v wr => ∃ i : Nat, i ≤ 64 ∧ v = .int .i64 (i : Int) ∧ s0 = .int .u32 (nth (roundsS [v0, v1, v2, v3, v4, v5, v6, v7] stepsS S i) 0 : Int) ∧ s1 = .int .u32 (nth (roundsS [v0, v1, v2, v3, v4, v5, v6, v7] stepsS S i) 1 : Int) ∧ s2 = .int .u32 (nth (roundsS [v0, v1, v2, v3, v4, v5, v6, v7] stepsS S i) 2 : Int) ∧ s3 = .int .u32 (nth (roundsS [v0, v1, v2, v3, v4, v5, v6, v7] stepsS S i) 3 : Int) ∧ s4 = .int .u32 (nth (roundsS [v0, v1, v2, v3, v4, v5, v6, v7] stepsS S i) 4 : Int) ∧ s5 = .int .u32 (nth (roundsS [v0, v1, v2, v3, v4, v5, v6, v7] stepsS S i) 5 : Int) ∧ s6 = .int .u32 (nth (roundsS [v0, v1, v2, v3, v4, v5, v6, v7] stepsS S i) 6 : Int) ∧ s7 = .int .u32 (nth (roundsS [v0, v1, v2, v3, v4, v5, v6, v7] stepsS S i) 7 : Int) ∧ Arr wr w.heap.size 54 [v0, v1, v2, v3, v4, v5, v6, v7] ∧ Arr wr (w.heap.size + 1) 54 (List.replicate 8 0) ∧ Below w.heap.size w wr) (fun _ _ _ _ _ _ _ _ v _ => 64 - (intOf v).toNat)
  case atStart => exact ⟨0, by omega, rfl, rfl, rfl, rfl, rfl, rfl, rfl, rfl, rfl, A1, A2, bS1⟩
  case round =>
    clear A1 A2 bS1 wS
    obtain ⟨i, hi, rfl, rfl, rfl, rfl, rfl, rfl, rfl, rfl, rfl, A1, A2, hB⟩ := hrel
    have hVlt := roundsS_lt [v0, v1, v2, v3, v4, v5, v6, v7] stepsS S HW.out i
    by_cases hlt : i < 64
    · have gk := (HL.out.below (hB)).step i hlt rfl
      have hix1 := fun u => HIX.out u i hlt
      have ha := nth_word7 _ hVlt 0
      have hb := nth_word7 _ hVlt 1
      have hc := nth_word7 _ hVlt 2
      have hd := nth_word7 _ hVlt 3
      have he := nth_word7 _ hVlt 4
      have hf := nth_word7 _ hVlt 5
      have hg := nth_word7 _ hVlt 6
      have hh := nth_word7 _ hVlt 7
      have hstep := nth_rounds [v0, v1, v2, v3, v4, v5, v6, v7] stepsS S i
      have hk := nth_word7 _ stepsS_lt i
      have hu := nth_word7 _ HSLT.out i
      have hne : roundS (roundsS [v0, v1, v2, v3, v4, v5, v6, v7] stepsS S i) (nth stepsS i) (nth S i) = [(tS (nth (roundsS [v0, v1, v2, v3, v4, v5, v6, v7] stepsS S i) 4) (nth (roundsS [v0, v1, v2, v3, v4, v5, v6, v7] stepsS S i) 5) (nth (roundsS [v0, v1, v2, v3, v4, v5, v6, v7] stepsS S i) 6) (nth (roundsS [v0, v1, v2, v3, v4, v5, v6, v7] stepsS S i) 7) (nth stepsS i) (nth S i) + uS (nth (roundsS [v0, v1, v2, v3, v4, v5, v6, v7] stepsS S i) 0) (nth (roundsS [v0, v1, v2, v3, v4, v5, v6, v7] stepsS S i) 1) (nth (roundsS [v0, v1, v2, v3, v4, v5, v6, v7] stepsS S i) 2)) % 4294967296, nth (roundsS [v0, v1, v2, v3, v4, v5, v6, v7] stepsS S i) 0, nth (roundsS [v0, v1, v2, v3, v4, v5, v6, v7] stepsS S i) 1, nth (roundsS [v0, v1, v2, v3, v4, v5, v6, v7] stepsS S i) 2, (nth (roundsS [v0, v1, v2, v3, v4, v5, v6, v7] stepsS S i) 3 + tS (nth (roundsS [v0, v1, v2, v3, v4, v5, v6, v7] stepsS S i) 4) (nth (roundsS [v0, v1, v2, v3, v4, v5, v6, v7] stepsS S i) 5) (nth (roundsS [v0, v1, v2, v3, v4, v5, v6, v7] stepsS S i) 6) (nth (roundsS [v0, v1, v2, v3, v4, v5, v6, v7] stepsS S i) 7) (nth stepsS i) (nth S i)) % 4294967296, nth (roundsS [v0, v1, v2, v3, v4, v5, v6, v7] stepsS S i) 4, nth (roundsS [v0, v1, v2, v3, v4, v5, v6, v7] stepsS S i) 5, nth (roundsS [v0, v1, v2, v3, v4, v5, v6, v7] stepsS S i) 6] := rfl
      rw [hne] at hstep
      clear hne hVlt
      obtain ⟨a, ha'⟩ : ∃ z, nth (roundsS [v0, v1, v2, v3, v4, v5, v6, v7] stepsS S i) 0 = z := ⟨_, rfl⟩
      rw [ha'] at ha hstep ⊢
      obtain ⟨b, hb'⟩ : ∃ z, nth (roundsS [v0, v1, v2, v3, v4, v5, v6, v7] stepsS S i) 1 = z := ⟨_, rfl⟩
      rw [hb'] at hb hstep ⊢
      obtain ⟨c, hc'⟩ : ∃ z, nth (roundsS [v0, v1, v2, v3, v4, v5, v6, v7] stepsS S i) 2 = z := ⟨_, rfl⟩
      rw [hc'] at hc hstep ⊢
      obtain ⟨d, hd'⟩ : ∃ z, nth (roundsS [v0, v1, v2, v3, v4, v5, v6, v7] stepsS S i) 3 = z := ⟨_, rfl⟩
      rw [hd'] at hd hstep ⊢
      obtain ⟨e, he'⟩ : ∃ z, nth (roundsS [v0, v1, v2, v3, v4, v5, v6, v7] stepsS S i) 4 = z := ⟨_, rfl⟩
      rw [he'] at he hstep ⊢
      obtain ⟨f, hf'⟩ : ∃ z, nth (roundsS [v0, v1, v2, v3, v4, v5, v6, v7] stepsS S i) 5 = z := ⟨_, rfl⟩
      rw [hf'] at hf hstep ⊢
      obtain ⟨g, hg'⟩ : ∃ z, nth (roundsS [v0, v1, v2, v3, v4, v5, v6, v7] stepsS S i) 6 = z := ⟨_, rfl⟩
      rw [hg'] at hg hstep ⊢
      obtain ⟨h, hh'⟩ : ∃ z, nth (roundsS [v0, v1, v2, v3, v4, v5, v6, v7] stepsS S i) 7 = z := ⟨_, rfl⟩
      rw [hh'] at hh hstep ⊢
      obtain ⟨k, hk'⟩ : ∃ z, nth stepsS i = z := ⟨_, rfl⟩
      rw [hk'] at hk hstep gk
      obtain ⟨u, hu'⟩ : ∃ z, nth S i = z := ⟨_, rfl⟩
      rw [hu'] at hu hstep hix1
      have HST := Lib.hid hstep
      have HA := Lib.hid (And.intro A1 (And.intro A2 hB))
      clear ha' hb' hc' hd' he' hf' hg' hh' hk' hu' hstep A1 A2 hB
      have T0 := right_q e 6 6 he (by omega) (by omega) rfl
      have xT0 := rot32_lt e 6 he
      obtain ⟨rT0, hrT0⟩ : ∃ r, rot32 e 6 = r := ⟨_, rfl⟩
      rw [hrT0] at T0 xT0
      have T1 := right_q e 11 11 he (by omega) (by omega) rfl
      have xT1 := rot32_lt e 11 he
      obtain ⟨rT1, hrT1⟩ : ∃ r, rot32 e 11 = r := ⟨_, rfl⟩
      rw [hrT1] at T1 xT1
      have T2 := right_q e 25 25 he (by omega) (by omega) rfl
      have xT2 := rot32_lt e 25 he
      obtain ⟨rT2, hrT2⟩ : ∃ r, rot32 e 25 = r := ⟨_, rfl⟩
      rw [hrT2] at T2 xT2
      have U0 := right_q a 2 2 ha (by omega) (by omega) rfl
      have xU0 := rot32_lt a 2 ha
      obtain ⟨rU0, hrU0⟩ : ∃ r, rot32 a 2 = r := ⟨_, rfl⟩
      rw [hrU0] at U0 xU0
      have U1 := right_q a 13 13 ha (by omega) (by omega) rfl
      have xU1 := rot32_lt a 13 ha
      obtain ⟨rU1, hrU1⟩ : ∃ r, rot32 a 13 = r := ⟨_, rfl⟩
      rw [hrU1] at U1 xU1
      have U2 := right_q a 22 22 ha (by omega) (by omega) rfl
      have xU2 := rot32_lt a 22 ha
      obtain ⟨rU2, hrU2⟩ : ∃ r, rot32 a 22 = r := ⟨_, rfl⟩
      rw [hrU2] at U2 xU2
      have yp1 := xor32 rT0 rT1 xT0 xT1
      have lp1 := xor_lt32 xT0 xT1
      obtain ⟨p1, ep1⟩ : ∃ z, rT0 ^^^ rT1 = z := ⟨_, rfl⟩
      rw [ep1] at yp1 lp1
      have yp2 := xor32 p1 rT2 lp1 xT2
      have lp2 := xor_lt32 lp1 xT2
      obtain ⟨p2, ep2⟩ : ∃ z, p1 ^^^ rT2 = z := ⟨_, rfl⟩
      rw [ep2] at yp2 lp2
      have yp3 := and32 e f he hf
      have lp3 := and_lt32 (a := e) hf
      obtain ⟨p3, ep3⟩ : ∃ z, e &&& f = z := ⟨_, rfl⟩
      rw [ep3] at yp3 lp3
      have yn := not32 e he
      have ln : 4294967295 - e < 4294967296 := by omega
      obtain ⟨en, een⟩ : ∃ z, 4294967295 - e = z := ⟨_, rfl⟩
      rw [een] at yn ln
      have yp4 := and32 en g ln hg
      have lp4 := and_lt32 (a := en) hg
      obtain ⟨p4, ep4⟩ : ∃ z, en &&& g = z := ⟨_, rfl⟩
      rw [ep4] at yp4 lp4
      have yp5 := xor32 p3 p4 lp3 lp4
      have lp5 := xor_lt32 lp3 lp4
      obtain ⟨p5, ep5⟩ : ∃ z, p3 ^^^ p4 = z := ⟨_, rfl⟩
      rw [ep5] at yp5 lp5
      have yq1 := xor32 rU0 rU1 xU0 xU1
      have lq1 := xor_lt32 xU0 xU1
      obtain ⟨q1, eq1⟩ : ∃ z, rU0 ^^^ rU1 = z := ⟨_, rfl⟩
      rw [eq1] at yq1 lq1
      have yq2 := xor32 q1 rU2 lq1 xU2
      have lq2 := xor_lt32 lq1 xU2
      obtain ⟨q2, eq2⟩ : ∃ z, q1 ^^^ rU2 = z := ⟨_, rfl⟩
      rw [eq2] at yq2 lq2
      have yq3 := and32 a b ha hb
      have lq3 := and_lt32 (a := a) hb
      obtain ⟨q3, eq3⟩ : ∃ z, a &&& b = z := ⟨_, rfl⟩
      rw [eq3] at yq3 lq3
      have yq4 := and32 a c ha hc
      have lq4 := and_lt32 (a := a) hc
      obtain ⟨q4, eq4⟩ : ∃ z, a &&& c = z := ⟨_, rfl⟩
      rw [eq4] at yq4 lq4
      have yq5 := and32 b c hb hc
      have lq5 := and_lt32 (a := b) hc
      obtain ⟨q5, eq5⟩ : ∃ z, b &&& c = z := ⟨_, rfl⟩
      rw [eq5] at yq5 lq5
      have yq6 := xor32 q3 q4 lq3 lq4
      have lq6 := xor_lt32 lq3 lq4
      obtain ⟨q6, eq6⟩ : ∃ z, q3 ^^^ q4 = z := ⟨_, rfl⟩
      rw [eq6] at yq6 lq6
      have yq7 := xor32 q6 q5 lq6 lq5
      have lq7 := xor_lt32 lq6 lq5
      obtain ⟨q7, eq7⟩ : ∃ z, q6 ^^^ q5 = z := ⟨_, rfl⟩
      rw [eq7] at yq7 lq7
      have eT : tS e f g h k u = (h + p2 + p5 + k + u) % 4294967296 := by
        unfold tS Sig1 chS
        rw [hrT0, hrT1, hrT2, ep1, ep2, ep3, een, ep4, ep5]
      have eU : uS a b c = (q2 + q7) % 4294967296 := by
        unfold uS Sig0 majS
        rw [hrU0, hrU1, hrU2, eq1, eq2, eq3, eq4, eq5, eq6, eq7]
      have T0 := Lib.hid T0
      have T1 := Lib.hid T1
      have T2 := Lib.hid T2
      have U0 := Lib.hid U0
      have U1 := Lib.hid U1
      have U2 := Lib.hid U2
      have HT := Lib.hid eT
      have HU := Lib.hid eU
      clear eT eU hrT0 hrT1 hrT2 hrU0 hrU1 hrU2 een ep1 ep2 ep3 ep4 ep5 eq1 eq2 eq3 eq4 eq5 eq6 eq7
      have hi64 : (i : Int) < 64 := by omega
      go_wp2_with fail
      go_quiet ((first | (go_at_call 75; with_reducible exact Calls.quiet_of_same (T0.out _)) | (go_at_call 75; with_reducible exact Calls.quiet_of_same (T1.out _)) | (go_at_call 75; with_reducible exact Calls.quiet_of_same (T2.out _))))
      have HA : Hid (Arr (wr.drewN nq) w.heap.size 54 [v0, v1, v2, v3, v4, v5, v6, v7] ∧ Arr (wr.drewN nq) (w.heap.size + 1) 54 (List.replicate 8 0) ∧ Below w.heap.size w (wr.drewN nq)) := Lib.hid ⟨HA.out.1, HA.out.2.1, HA.out.2.2.trans (((Drawn.more nq).below _).mono HA.out.2.2.size)⟩
      obtain ⟨wq, hwq⟩ : ∃ wq, wr.drewN nq = wq := ⟨_, rfl⟩
      rw [hwq] at HA ⊢
      clear hwq gk hix1
      go_wp2_with fail
      refine (U0.out _).mono ?_
      rintro e _ ⟨rfl, rfl⟩
      go_wp2_with fail
      refine (U1.out _).mono ?_
      rintro e _ ⟨rfl, rfl⟩
      go_wp2_with fail
      refine (U2.out _).mono ?_
      rintro e _ ⟨rfl, rfl⟩
      go_wp2_with fail
      go_roundw
      case rel =>
        refine ⟨i + 1, by omega, by go_num, ?_, ?_, ?_, ?_, ?_, ?_, ?_, ?_, HA.out.1, HA.out.2.1, HA.out.2.2⟩
        all_goals rw [HST.out]
        · refine val_num (Eq.trans (b := (((tS e f g h k u + uS a b c) % 4294967296 : Nat) : Int)) ?_ rfl); rw [HT.out, HU.out]; omega
        · rfl
        · rfl
        · rfl
        · refine val_num (Eq.trans (b := (((d + tS e f g h k u) % 4294967296 : Nat) : Int)) ?_ rfl); rw [HT.out]; omega
        · rfl
        · rfl
        · rfl
      case measure => simp [intOf]; omega
    · obtain rfl : i = 64 := by omega
      have hVl := length_roundsS [v0, v1, v2, v3, v4, v5, v6, v7] stepsS S rfl 64
      obtain ⟨V, hV⟩ : ∃ V, roundsS [v0, v1, v2, v3, v4, v5, v6, v7] stepsS S 64 = V := ⟨_, rfl⟩
      rw [hV] at hVl hVlt ⊢
      have HVV := Lib.hid hV
      clear hV hlt HIX HSLT
      obtain ⟨r0, r1, r2, r3, r4, r5, r6, r7, rfl⟩ := list8 V hVl
      rw [show nth [r0, r1, r2, r3, r4, r5, r6, r7] 0 = r0 from rfl]
      rw [show nth [r0, r1, r2, r3, r4, r5, r6, r7] 1 = r1 from rfl]
      rw [show nth [r0, r1, r2, r3, r4, r5, r6, r7] 2 = r2 from rfl]
      rw [show nth [r0, r1, r2, r3, r4, r5, r6, r7] 3 = r3 from rfl]
      rw [show nth [r0, r1, r2, r3, r4, r5, r6, r7] 4 = r4 from rfl]
      rw [show nth [r0, r1, r2, r3, r4, r5, r6, r7] 5 = r5 from rfl]
      rw [show nth [r0, r1, r2, r3, r4, r5, r6, r7] 6 = r6 from rfl]
      rw [show nth [r0, r1, r2, r3, r4, r5, r6, r7] 7 = r7 from rfl]
      have hix2 := fun (u : World) (j : Nat) (hj : j < 8) => run_index_ints (P := Tryd.prog) u 54 23 8 .u32 Tryd.underlying54 Tryd.underlying23 (fun w => by rfl) [r0, r1, r2, r3, r4, r5, r6, r7] rfl j hj
      change ∀ (u : World) (j : Nat), j < 8 → (Instr.index 54 (.agg #[.int .u32 (r0 : Int), .int .u32 (r1 : Int), .int .u32 (r2 : Int), .int .u32 (r3 : Int), .int .u32 (r4 : Int), .int .u32 (r5 : Int), .int .u32 (r6 : Int), .int .u32 (r7 : Int)]) (.int .i64 (j : Int))).run Tryd.prog u = .ok (.int .u32 (nth [r0, r1, r2, r3, r4, r5, r6, r7] j : Int)) u at hix2
      have HIX := Lib.hid hix2
      have HV := Lib.hid hVlt
      clear hix2 hVlt hVl
      rw [show ((64 : Nat) : Int) = 64 from rfl]
      go_wp2_with fail
      go_loopw [108] (fun v wi => ∃ j : Nat, j ≤ 8 ∧ v = .int .i64 (j : Int) ∧ Arr wi w.heap.size 54 (mixS [v0, v1, v2, v3, v4, v5, v6, v7] [r0, r1, r2, r3, r4, r5, r6, r7] j) ∧ Arr wi (w.heap.size + 1) 54 (List.replicate 8 0) ∧ Below w.heap.size w wi) (fun v _ => 8 - (intOf v).toNat)
      case atStart => exact ⟨0, by omega, rfl, by rw [mixS_none]; exact A1, A2, hB⟩
      case round =>
        clear A1 A2 hB
        obtain ⟨j, hj, rfl, A1, A2, hB⟩ := hrel
        by_cases hj8 : j < 8
        · have x1 := A1.cell j (by rw [length_mixS _ _ _ rfl hj]; omega)
          have xf := A1.frozen j
          have hset := A1.set j ((nth [v0, v1, v2, v3, v4, v5, v6, v7] j + nth [r0, r1, r2, r3, r4, r5, r6, r7] j) % 4294967296)
          rw [mixS_set _ _ _ rfl hj8] at hset
          rw [nth_mixS _ _ _ rfl hj8] at x1
          have hxl := nth_word7 _ HW.out j
          have hyl := nth_word7 _ HV.out j
          have hix2 := fun u => HIX.out u j hj8
          obtain ⟨x, hx⟩ : ∃ x, nth [v0, v1, v2, v3, v4, v5, v6, v7] j = x := ⟨_, rfl⟩
          obtain ⟨y, hy⟩ : ∃ y, nth [r0, r1, r2, r3, r4, r5, r6, r7] j = y := ⟨_, rfl⟩
          rw [hx] at x1 hset hxl
          rw [hy] at hset hyl hix2
          obtain ⟨z, hz⟩ : ∃ z, (x + y) % 4294967296 = z := ⟨_, rfl⟩
          have hsm : ((x : Int) + (y : Int)) % 4294967296 = (z : Int) := by omega
          rw [hz] at hset
          have hj7 : (j : Int) < 8 := by omega
          have HF := Lib.hid (And.intro hset (And.intro (A2.beside w.heap.size j (.int .u32 (z : Int)) (by omega)) (hB.setCell (p := ⟨w.heap.size, j, none⟩) (Nat.le_refl _) (.int .u32 (z : Int)))))
          clear hx hy hset hz A1 A2 hB hxl hyl
          go_wp2_with fail
          go_roundw
          case rel => exact ⟨j + 1, by omega, by go_num, HF.out.1, HF.out.2.1, HF.out.2.2⟩
          case measure => simp [intOf]; omega
        · obtain rfl : j = 8 := by omega
          rw [mixS_all _ _ rfl] at A1
          have hlen := length_addS [v0, v1, v2, v3, v4, v5, v6, v7] [r0, r1, r2, r3, r4, r5, r6, r7]
          obtain ⟨O, hO⟩ : ∃ O, addS [v0, v1, v2, v3, v4, v5, v6, v7] [r0, r1, r2, r3, r4, r5, r6, r7] = O := ⟨_, rfl⟩
          rw [hO] at A1 hlen
          have HO := Lib.hid hO
          obtain ⟨cs, hcs⟩ : ∃ cs, (ints .u32 O).toArray = cs := ⟨_, rfl⟩
          obtain ⟨zs, hzs⟩ : ∃ zs, (ints .u32 (List.replicate 8 0)).toArray = zs := ⟨_, rfl⟩
          have hB2 : wr.heap[w.heap.size]? = some (.cells cs 54 (0, 0)) := by rw [← hcs]; exact A1
          have hR2 : wr.heap[w.heap.size + 1]? = some (.cells zs 54 (0, 0)) := by rw [← hzs]; exact A2
          have R1 : (wr.setRow (w.heap.size + 1) cs).heap[w.heap.size + 1]? = some (.cells cs 54 (0, 0)) := by rw [← hcs]; exact A2.stored O
          have B1 := Go.Proofs.YtjeliomjnalpcaaDoor.below_setRow hB (Nat.le_succ _) cs
          have hcsz : cs.size = 8 := by rw [← hcs]; simp [length_ints, hlen]
          have hzsz : zs.size = cs.size := by rw [hcsz, ← hzs]; simp [length_ints]
          have hone : cs.all (·.oneCell') = true := by
            rw [← hcs]
            exact Array.all_eq_true_iff_forall_mem.2 fun v hv => ints_one _ _ v (by simpa using hv)
          have hinf : (Tryd.prog.info? 54).map (·.size) = some cs.size := by rw [hcsz]; kernel_rfl
          have HC := Lib.hid hcs
          have HX := Lib.hid (And.intro R1 B1)
          have HB2 := Lib.hid hB2
          have HR2 := Lib.hid hR2
          have HI := Lib.hid (And.intro hinf (And.intro hzsz hone))
          clear R1 B1 hB hB2 hR2 hinf hzsz hone hcsz hcs hzs hlen A1 A2 hO
          go_upto_region 14 with fail
          refine wp_row_copy 54 _ 2 4 119 _ _ _ _ w.heap.size (w.heap.size + 1) cs zs ?hx ?hy ?hd (by decide) HB2.out HR2.out Tryd.underlying54 HI.out.1 HI.out.2.1 HI.out.2.2 ?hq
          case hx => rfl
          case hy => rfl
          case hd => exact (by decide : 119 < 120)
          case hq =>
            have hput : ∀ a : Act, a.put none undef = a := fun _ => rfl
            rw [hput]
            go_wp2_with fail
            refine bodyPost_ret (v := .agg cs) ?_ rfl ?_
            · exact results_cell_row (p := 4) rfl _ _ (w.heap.size + 1) 54 cs (0, 0) _ rfl HX.out.1 Tryd.underlying54 rfl HI.out.1
            · exact ⟨by rw [HFIN.out, HVV.out, HO.out, HC.out], HX.out.2⟩
end Go.Proofs.YtjeliomjnalpcaaDoor

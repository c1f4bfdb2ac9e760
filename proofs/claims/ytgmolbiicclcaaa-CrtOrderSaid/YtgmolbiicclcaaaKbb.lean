/- Several texts in one; each begins with a remark that says what it shows and on which conditions. -/
import Derived.Test.YtgmolbiicclcaaaKba
/- Chapter 21's examples. No condition. -/
namespace Go.Proofs.Ytgmolbiicclcaaa
open Go.RowKit
set_option maxRecDepth 20000
def exA21 : List CR := [⟨3, 2⟩, ⟨5, 3⟩]
def exB21 : List CR := [⟨2, 0⟩, ⟨2, 0⟩]
theorem exA_ok : errC exA21 = 0 := errC_zero.2 ⟨by unfold AllOk; decide, Nat.le_trans (show nbits (prodC exA21) ≤ 4 from nbits_of_lt 15 4 (by decide)) (by omega), by unfold Cop; decide⟩
theorem exA_r : ansR exA21 = 8 := ansR_eq exA_ok ⟨by decide, by decide⟩
theorem exA_m : ansM exA21 = 15 := (ansM_ok exA_ok).trans rfl
theorem exN_ok : errC [] = 0 := errC_zero.2 ⟨by unfold AllOk; decide, by decide, by unfold Cop; decide⟩
theorem exN_r : ansR [] = 0 := ansR_eq exN_ok isR_nil
theorem exN_m : ansM [] = 1 := (ansM_ok exN_ok).trans rfl
theorem exB_no : errC exB21 = 10 := errC_inv (by unfold AllOk; decide) (by decide) (by unfold Cop; decide)
theorem few_small21 {ss : List CR} (h : ∀ s ∈ ss, s.m < 18446744073709551616 ∧ s.r < 18446744073709551616) : FewC ss := fun s hs => ⟨Nat.le_trans (nbits_of_lt s.m 64 (h s hs).1) (by omega), Nat.le_trans (nbits_of_lt s.r 64 (h s hs).2) (by omega)⟩
theorem fewA21 : FewC exA21 := few_small21 (by decide)
theorem fewB21 : FewC exB21 := few_small21 (by decide)
theorem lit_two21 {w : World} {v1 v2 v3 v4 : Value} {a b c d : Nat} (h1 : NV w v1 a) (h2 : NV w v2 b) (h3 : NV w v3 c) (h4 : NV w v4 d) : RdRests (w.alloc (.cells #[v1, v2, v3, v4] 40)) (some ⟨w.heap.size, 0, none⟩) [⟨a, b⟩, ⟨c, d⟩] := fun _ => by
  have hb : Below w.heap.size w (w.alloc (.cells #[v1, v2, v3, v4] 40)) := (Below.refl _ w).alloc (Nat.le_refl _) _
  have q : ∀ i, (w.alloc (.cells #[v1, v2, v3, v4] 40)).cell? ⟨w.heap.size, i, none⟩ = (#[v1, v2, v3, v4] : Array Value)[i]? := fun i => World.cell?_alloc_at _ _ _ _ rfl
  refine ⟨w.heap.size, 0, rfl, by simp, fun j hj => ?_⟩
  have hj2 : j < 2 := by simpa using hj
  rcases (show j = 0 ∨ j = 1 by omega) with rfl | rfl
  · exact ⟨v1, v2, q 0, q 1, h1.step hb, h2.step hb⟩
  · exact ⟨v3, v4, q 2, q 3, h3.step hb, h4.step hb⟩
def JoinedAs (R M : Nat) (k : Int) (w : World) (e : Ending) (w' : World) : Prop := ∃ X q d Y r f, e = .returned (.tuple #[.slice X q d, .slice Y r f, .int .i64 k]) ∧ NatIs w' X q d R ∧ NatIs w' Y r f M ∧ Below w.heap.size w w'
theorem OutJoin.as {ss : List CR} {w w' : World} {e : Ending} (h : OutJoin ss w e w') : JoinedAs (ansR ss) (ansM ss) (errC ss : Nat) w e w' := h
set_option maxHeartbeats 8000000 in
theorem crtWorks_any (w : World) : Calls Try.prog 6 #[] w fun e w' => e = .returned (.bool true) ∧ Below w.heap.size w w' := by
  have HN := Lib.hid (fun (u : World) (x : Nat) (h : x < 18446744073709551616) => nat21_any u x h)
  have J1 := Lib.hid fun (u : World) (A : Option Addr) (h : RdRests u A exA21) => Calls.mono (join_pf (n := 2) (c := 2) h rfl fewA21 (by omega)) fun e w' k => (show JoinedAs 8 15 0 u e w' from by have k2 := OutJoin.as k; rw [exA_r, exA_m, exA_ok] at k2; exact k2)
  have J2 := Lib.hid fun (u : World) => Calls.mono (join_pf (w := u) (n := 0) (c := 0) (A := none) (ss := []) (RdRests.nil _ _) rfl (by simp [FewC]) (by omega)) fun e w' k => (show JoinedAs 0 1 0 u e w' from by have k2 := OutJoin.as k; rw [exN_r, exN_m, exN_ok] at k2; exact k2)
  have J3 := Lib.hid fun (u : World) (A : Option Addr) (h : RdRests u A exB21) => Calls.mono (join_pf (n := 2) (c := 2) h rfl fewB21 (by omega)) fun e w' k => (show JoinedAs (ansR exB21) (ansM exB21) 10 u e w' from by have k2 := OutJoin.as k; rw [exB_no] at k2; exact k2)
  generalize ansR exB21 = rB at *
  generalize ansM exB21 = mB at *
  go_enter Try.func6, Try.ntmps6
  go_wp2_with fail
  refine (HN.out _ 3 (by omega)).mono ?_
  rintro e w1 ⟨A1, q1, d1, rfl, h1, b1⟩
  have B1 := Lib.hid b1
  have M1 := Lib.hid h1
  clear h1 b1
  go_wp2_with fail
  refine (HN.out _ 2 (by omega)).mono ?_
  rintro e w2 ⟨A2, q2, d2, rfl, h2, b2⟩
  have B2 := Lib.hid (below_step B1.out b2)
  have M1 := Lib.hid (M1.out.step b2)
  have M2 := Lib.hid h2
  clear h2 b2
  go_wp2_with fail
  refine (HN.out _ 5 (by omega)).mono ?_
  rintro e w3 ⟨A3, q3, d3, rfl, h3, b3⟩
  have B3 := Lib.hid (below_step B2.out b3)
  have M1 := Lib.hid (M1.out.step b3)
  have M2 := Lib.hid (M2.out.step b3)
  have M3 := Lib.hid h3
  clear h3 b3
  go_wp2_with fail
  refine (HN.out _ 3 (by omega)).mono ?_
  rintro e w4 ⟨A4, q4, d4, rfl, h4, b4⟩
  have B4 := Lib.hid (below_step B3.out b4)
  have M1 := Lib.hid (M1.out.step b4)
  have M2 := Lib.hid (M2.out.step b4)
  have M3 := Lib.hid (M3.out.step b4)
  have M4 := Lib.hid h4
  clear h4 b4
  have L1 := Lib.hid (lit_two21 M1.out.nv M2.out.nv M3.out.nv M4.out.nv)
  clear M1 M2 M3 M4
  have bm := (Below.refl w4.heap.size w4).alloc (Nat.le_refl _) (.cells #[.slice A1 q1 d1, .slice A2 q2 d2, .slice A3 q3 d3, .slice A4 q4 d4] 40)
  have Ba := Lib.hid (below_step B4.out bm)
  clear bm
  go_wp2_with fail
  refine (J1.out _ _ L1.out).mono ?_
  rintro e w5 ⟨X1, n1, c1, Y1, m1, f1, rfl, r1, s1, b5⟩
  have B5 := Lib.hid (below_step Ba.out b5)
  have R1 := Lib.hid r1
  have S1 := Lib.hid s1
  clear r1 s1 b5
  clear L1 J1
  go_wp2_with fail
  refine (J2.out _).mono ?_
  rintro e w6 ⟨X2, n2, c2, Y2, m2, f2, rfl, r2, s2, b6⟩
  have B6 := Lib.hid (below_step B5.out b6)
  have R1 := Lib.hid (R1.out.step b6)
  have S1 := Lib.hid (S1.out.step b6)
  have R2 := Lib.hid r2
  have S2 := Lib.hid s2
  clear r2 s2 b6
  obtain rfl : n2 = 0 := by have h := R2.out.1; rw [length_wd, nbits_zero] at h; omega
  clear J2
  clear R2
  go_wp2_with fail
  refine (HN.out _ 2 (by omega)).mono ?_
  rintro e w7 ⟨A7, q7, d7, rfl, h7, b7⟩
  have B7 := Lib.hid (below_step B6.out b7)
  have R1 := Lib.hid (R1.out.step b7)
  have S1 := Lib.hid (S1.out.step b7)
  have S2 := Lib.hid (S2.out.step b7)
  have M7 := Lib.hid h7
  clear h7 b7
  go_wp2_with fail
  refine (HN.out _ 2 (by omega)).mono ?_
  rintro e w8 ⟨A8, q8, d8, rfl, h8, b8⟩
  have B8 := Lib.hid (below_step B7.out b8)
  have R1 := Lib.hid (R1.out.step b8)
  have S1 := Lib.hid (S1.out.step b8)
  have S2 := Lib.hid (S2.out.step b8)
  have M7 := Lib.hid (M7.out.step b8)
  have M8 := Lib.hid h8
  clear h8 b8
  have L3 := Lib.hid (lit_two21 M7.out.nv (NV.nil _) M8.out.nv (NV.nil _))
  clear M7 M8
  have bm := (Below.refl w8.heap.size w8).alloc (Nat.le_refl _) (.cells #[.slice A7 q7 d7, .slice none 0 0, .slice A8 q8 d8, .slice none 0 0] 40)
  have Bb := Lib.hid (below_step B8.out bm)
  have R1 := Lib.hid (R1.out.step bm)
  have S1 := Lib.hid (S1.out.step bm)
  have S2 := Lib.hid (S2.out.step bm)
  clear bm
  go_wp2_with fail
  refine (J3.out _ _ L3.out).mono ?_
  rintro e w9 ⟨X3, n3, c3, Y3, m3, f3, rfl, r3, s3, b9⟩
  have B9 := Lib.hid (below_step Bb.out b9)
  have R1 := Lib.hid (R1.out.step b9)
  have S1 := Lib.hid (S1.out.step b9)
  have S2 := Lib.hid (S2.out.step b9)
  have R3 := Lib.hid r3
  have S3 := Lib.hid s3
  clear r3 s3 b9
  clear R3 S3
  clear L3 J3
  go_wp2_with fail
  refine (HN.out _ 8 (by omega)).mono ?_
  rintro e w10 ⟨A10, q10, d10, rfl, h10, b10⟩
  have B10 := Lib.hid (below_step B9.out b10)
  have R1 := Lib.hid (R1.out.step b10)
  have S1 := Lib.hid (S1.out.step b10)
  have S2 := Lib.hid (S2.out.step b10)
  have M10 := Lib.hid h10
  clear h10 b10
  go_wp2_with fail
  refine (same16_any R1.out (NV.is M10.out.nv) true ⟨fun _ => rfl, fun _ => rfl⟩).mono ?_
  rintro e w11 ⟨rfl, b11⟩
  have B11 := Lib.hid (below_step B10.out b11)
  have R1 := Lib.hid (R1.out.step b11)
  have S1 := Lib.hid (S1.out.step b11)
  have S2 := Lib.hid (S2.out.step b11)
  have M10 := Lib.hid (M10.out.step b11)
  clear b11
  clear M10 R1
  go_wp2_with fail
  refine (HN.out _ 15 (by omega)).mono ?_
  rintro e w12 ⟨A12, q12, d12, rfl, h12, b12⟩
  have B12 := Lib.hid (below_step B11.out b12)
  have S1 := Lib.hid (S1.out.step b12)
  have S2 := Lib.hid (S2.out.step b12)
  have M12 := Lib.hid h12
  clear h12 b12
  go_wp2_with fail
  refine (same16_any S1.out (NV.is M12.out.nv) true ⟨fun _ => rfl, fun _ => rfl⟩).mono ?_
  rintro e w13 ⟨rfl, b13⟩
  have B13 := Lib.hid (below_step B12.out b13)
  have S1 := Lib.hid (S1.out.step b13)
  have S2 := Lib.hid (S2.out.step b13)
  have M12 := Lib.hid (M12.out.step b13)
  clear b13
  clear M12 S1
  go_wp2_with fail
  refine (HN.out _ 1 (by omega)).mono ?_
  rintro e w14 ⟨A14, q14, d14, rfl, h14, b14⟩
  have B14 := Lib.hid (below_step B13.out b14)
  have S2 := Lib.hid (S2.out.step b14)
  have M14 := Lib.hid h14
  clear h14 b14
  go_wp2_with fail
  refine (same16_any S2.out (NV.is M14.out.nv) true ⟨fun _ => rfl, fun _ => rfl⟩).mono ?_
  rintro e w15 ⟨rfl, b15⟩
  have B15 := Lib.hid (below_step B14.out b15)
  have S2 := Lib.hid (S2.out.step b15)
  have M14 := Lib.hid (M14.out.step b15)
  clear b15
  clear M14 S2
  go_wp2_with fail
  go_ret
  exact ⟨rfl, B15.out⟩
end Go.Proofs.Ytgmolbiicclcaaa

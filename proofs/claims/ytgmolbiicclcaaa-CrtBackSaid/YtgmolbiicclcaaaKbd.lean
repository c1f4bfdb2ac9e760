/- Several texts in one; each begins with a remark that says what it shows and on which conditions. -/
import Derived.Test.YtgmolbiicclcaaaKbb
import Derived.Test.YtgmolbiicclcaaaKbc
import Derived.Test.YtgmolbiicclcaaaKay
/- CrtPlays: the walk. Conditions: those of the frame. -/
namespace Go.Proofs.Ytgmolbiicclcaaa
open Go.RowKit
set_option maxRecDepth 20000
/-- All m, at least 1 each, multiplied. -/
def maxP : List CR → Nat
  | [] => 1
  | s :: t => max s.m 1 * maxP t
theorem maxP_append (a b : List CR) : maxP (a ++ b) = maxP a * maxP b := by
  induction a with
  | nil => simp [maxP]
  | cons s t ih => simp only [List.cons_append, maxP, ih, Nat.mul_assoc]
theorem maxP_take {ss : List CR} {j : Nat} (hj : j < ss.length) : maxP (ss.take (j + 1)) = maxP (ss.take j) * max ss[j].m 1 := by
  rw [List.take_succ_eq_append_getElem hj, maxP_append]
  simp [maxP]
theorem prodC_le_maxP (ss : List CR) : prodC ss ≤ maxP ss := by
  induction ss with
  | nil => exact Nat.le_refl _
  | cons s t ih => exact Nat.mul_le_mul (Nat.le_max_left _ _) ih
def LowM (p : Nat) : Prop := p < 2147483648
theorem ansR_low {ss : List CR} (h : LowP (prodC ss)) : ansR ss < 18446744073709551616 := by
  unfold LowP at h
  by_cases h0 : errC ss = 0
  · have := (ansR_ok h0).1; omega
  · rw [ansR_no h0]; omega
theorem ansM_low {ss : List CR} (h : LowP (prodC ss)) : ansM ss < 18446744073709551616 := by
  unfold LowP at h
  by_cases h0 : errC ss = 0
  · rw [ansM_ok h0]; omega
  · rw [ansM_no h0]; omega
set_option maxHeartbeats 16000000 in
theorem crtPlays_walk (A : Option Addr) (n c : Nat) (ss : List CR) (W : World) (hn : ss.length = n) (hr : RdPairs W A ss ∧ WordC ss) (_hc : n ≤ c) (hl : n ≤ 140737488351232) :
    Calls Try.prog 3 #[.slice A n c] W fun e W' => e = .returned (.bool true) ∧ Below W.heap.size W W' := by
  have HWk := Lib.hid fun (u : World) => crtWorks_any u
  by_cases h8 : n ≤ 8
  · have HN := Lib.hid hn
    have HR := Lib.hid hr.1
    have HW := Lib.hid hr.2
    have g8 : ¬ 8 < n := by omega
    have HBe := Lib.hid (Below.refl W.heap.size W)
    have HP := Lib.hid (show LowM 1 ∧ 1 = maxP (ss.take 0) from ⟨by unfold LowM; omega, rfl⟩)
    clear hn hr hl
    go_enter Try.func3, Try.ntmps3
    go_wp2_with fail
    go_loopw [3, 4] (fun pv iv wr => ∃ i p : Nat, iv = .int .i64 i ∧ pv = .int .u64 p ∧ i ≤ n ∧ Hid (LowM p ∧ p = maxP (ss.take i)) ∧ Hid (Below W.heap.size W wr)) (fun _ iv _ => n - (intOf iv).toNat)
    case atStart => exact ⟨0, 1, rfl, rfl, Nat.zero_le _, HP, HBe⟩
    case round =>
      clear HP HBe
      obtain ⟨i, p, rfl, rfl, hi, HP, HBe⟩ := hrel
      by_cases hlt : i < n
      · have his : i < ss.length := by rw [HN.out]; exact hlt
        obtain ⟨gA, oA, rfl, hgA, _, _⟩ := HR.out.at21 his
        obtain ⟨e1, e2⟩ := HR.out.cells21 HBe.out his
        have hmx := maxP_take his
        obtain ⟨m, hm⟩ : ∃ m, ss[i].m = m := ⟨_, rfl⟩
        obtain ⟨r, hr⟩ : ∃ r, ss[i].r = r := ⟨_, rfl⟩
        rw [hm] at e1 hmx
        rw [hr] at e2
        rw [← HP.out.2] at hmx
        have hpl := HP.out.1
        unfold LowM at hpl
        clear hm hr
        by_cases hm20 : m ≤ 1048576
        · by_cases hr20 : r ≤ 1048576
          · have k1 : ¬ 1048576 < m := by omega
            have k2 : ¬ 1048576 < r := by omega
            obtain ⟨x, hx⟩ : ∃ x, max m 1 = x := ⟨_, rfl⟩
            rw [hx] at hmx
            have hxl : x ≤ 1048576 := by omega
            obtain ⟨p2, hp2⟩ : ∃ p2, p * x = p2 := ⟨_, rfl⟩
            have hp2l : p2 ≤ 2147483648 * 1048576 := by rw [← hp2]; exact Nat.mul_le_mul (by omega) hxl
            have hpi : (p : Int) * (x : Int) = (p2 : Int) := by rw [← hp2]; rfl
            rw [hp2] at hmx
            have HMX := Lib.hid hmx
            clear hmx hp2
            have hxi : max (m : Int) 1 = (x : Int) := by omega
            have hwr : IntKind.u64.wrap ((p : Int) * (x : Int)) = (p2 : Int) := by rw [hpi]; unfold IntKind.wrap; simp [IntKind.signed, IntKind.bits]; omega
            have HX := Lib.hid hx
            clear hpl hp2l hpi hx hxl
            by_cases hp31 : p2 < 2147483648
            · have k3 : decide (2147483648 ≤ (p2 : Int)) = false := decide_eq_false (by omega)
              have HP2 := Lib.hid (show LowM p2 ∧ p2 = maxP (ss.take (i + 1)) from ⟨hp31, HMX.out.symm⟩)
              clear hp31
              go_wp2_with fail
              go_roundw
              case rel => exact ⟨_, p2, by go_num, rfl, by omega, HP2, HBe⟩
              case measure => simp [intOf]; omega
            · have k3 : decide (2147483648 ≤ (p2 : Int)) = true := decide_eq_true (by omega)
              clear hp31
              go_wp2_with fail
              refine (HWk.out _).mono ?_
              rintro e w1 ⟨rfl, b1⟩
              have B1 := Lib.hid (below_step HBe.out b1)
              clear b1
              go_wp2_with fail
              go_ret
              exact ⟨rfl, B1.out⟩
          · have k1 : ¬ 1048576 < m := by omega
            have k2 : 1048576 < r := by omega
            go_wp2_with fail
            refine (HWk.out _).mono ?_
            rintro e w1 ⟨rfl, b1⟩
            have B1 := Lib.hid (below_step HBe.out b1)
            clear b1
            go_wp2_with fail
            go_ret
            exact ⟨rfl, B1.out⟩
        · have k1 : 1048576 < m := by omega
          go_wp2_with fail
          refine (HWk.out _).mono ?_
          rintro e w1 ⟨rfl, b1⟩
          have B1 := Lib.hid (below_step HBe.out b1)
          clear b1
          go_wp2_with fail
          go_ret
          exact ⟨rfl, B1.out⟩
      · obtain rfl : n = i := by omega
        have hlp : LowP (prodC ss) := by
          have h1 := prodC_le_maxP ss
          have h2 := HP.out.1
          have h3 := HP.out.2
          rw [← HN.out, List.take_length] at h3
          unfold LowM at h2
          unfold LowP
          omega
        have hRl := ansR_low hlp
        have hMl := ansM_low hlp
        have C1 := Lib.hid (out21 (c := c) (HR.out.step HBe.out) HW.out HN.out (by omega))
        have C2 := fun (u : World) (X : Option Addr) (d : Nat) (h : RdRests u X ss) => Calls.mono (join_pf (n := n) (c := d) h HN.out (few_small21 HW.out) (by omega)) fun _ _ k => OutJoin.as k
        have C3 := fun (u : World) (b : Below W.heap.size W u) => ref21 (c := c) (HR.out.step b) HW.out HN.out (by omega) fun _ => hlp
        unfold OutRef at C3
        clear hlp
        generalize errC ss = E at *
        generalize ansR ss = R at *
        generalize ansM ss = M at *
        have C2 := Lib.hid C2
        have C3 := Lib.hid C3
        have CR := Lib.hid fun u => nat21_any u R hRl
        have CM := Lib.hid fun u => nat21_any u M hMl
        clear hRl hMl HP
        go_wp2_with fail
        refine (C1.out).mono ?_
        rintro e w1 ⟨X, d, rfl, r1, hd, b1⟩
        have B1 := Lib.hid (below_step HBe.out b1)
        have R1 := Lib.hid r1
        clear b1 r1 C1
        go_wp2_with fail
        refine (C2.out w1 X d R1.out).mono ?_
        rintro e w2 ⟨Z, q, f, Y, p2, f2, rfl, r2, s2, b2⟩
        have B2 := Lib.hid (below_step B1.out b2)
        have R2 := Lib.hid r2
        have S2 := Lib.hid s2
        clear b2 r2 s2 R1
        go_wp2_with fail
        refine (C3.out w2 B2.out).mono ?_
        rintro e w3 ⟨rfl, b3⟩
        have B3 := Lib.hid (below_step B2.out b3)
        have R2 := Lib.hid (R2.out.step b3)
        have S2 := Lib.hid (S2.out.step b3)
        clear b3 C3
        go_wp2_with fail
        refine (CR.out w3).mono ?_
        rintro e w4 ⟨A4, q4, d4, rfl, h4, b4⟩
        have B4 := Lib.hid (below_step B3.out b4)
        have R2 := Lib.hid (R2.out.step b4)
        have S2 := Lib.hid (S2.out.step b4)
        have M4 := Lib.hid h4
        clear b4 h4
        go_wp2_with fail
        refine (same16_any R2.out (NV.is M4.out.nv) true ⟨fun _ => rfl, fun _ => rfl⟩).mono ?_
        rintro e w5 ⟨rfl, b5⟩
        have B5 := Lib.hid (below_step B4.out b5)
        have S2 := Lib.hid (S2.out.step b5)
        clear b5 M4 R2
        go_wp2_with fail
        refine (CM.out w5).mono ?_
        rintro e w6 ⟨A6, q6, d6, rfl, h6, b6⟩
        have B6 := Lib.hid (below_step B5.out b6)
        have S2 := Lib.hid (S2.out.step b6)
        have M6 := Lib.hid h6
        clear b6 h6
        go_wp2_with fail
        refine (same16_any S2.out (NV.is M6.out.nv) true ⟨fun _ => rfl, fun _ => rfl⟩).mono ?_
        rintro e w7 ⟨rfl, b7⟩
        have B7 := Lib.hid (below_step B6.out b7)
        clear b7 M6 S2
        go_wp2_with fail
        refine (HWk.out w7).mono ?_
        rintro e w8 ⟨rfl, b8⟩
        have B8 := Lib.hid (below_step B7.out b8)
        clear b8
        go_wp2_with fail
        go_ret
        exact ⟨rfl, B8.out⟩
  · have g8 : 8 < n := by omega
    clear hn hr
    go_enter Try.func3, Try.ntmps3
    go_wp2_with fail
    refine (HWk.out _).mono ?_
    rintro e w1 ⟨rfl, b1⟩
    go_wp2_with fail
    go_ret
    exact ⟨rfl, b1⟩
end Go.Proofs.Ytgmolbiicclcaaa
/- Rows of rests over numbers that stand: append of one, append of a slice; parts of a slice. Conditions: as typed. -/
namespace Go.Proofs.Ytgmolbiicclcaaa
open Go.RowKit
set_option maxRecDepth 20000
/-- Values that are rests, two by two, of numbers that stand in world w1. -/
def PairsV (w1 : World) (xs : List Value) (ss : List CR) : Prop := ∀ j (hj : j < ss.length), ∃ vM vR, xs[j * 2]? = some vM ∧ xs[j * 2 + 1]? = some vR ∧ NV w1 vM ss[j].m ∧ NV w1 vR ss[j].r
theorem NV.one {w : World} {v : Value} {n : Nat} (h : NV w v n) : v.oneCell' = true := by
  obtain ⟨A, q, c, rfl, _⟩ := h
  rfl
/-- A row made behind world w1, of rests whose numbers stand in it. -/
structure RowV (w1 u : World) (v : Value) (n : Nat) (ss : List CR) : Prop where
  len : ss.length = n
  row : ∃ xs, u.ownsRow w1.heap.size 40 2 v n xs ∧ PairsV w1 xs ss
  be : Below w1.heap.size w1 u
section
variable {w1 u u' : World} {v : Value} {n : Nat} {ss : List CR}
theorem RowV.nil (w1 : World) : RowV w1 w1 (.slice none 0 0) 0 [] := ⟨rfl, ⟨[], World.ownsRow_nil w1 _ 40 2, fun j hj => by cases hj⟩, Below.refl _ _⟩
theorem RowV.step (h : RowV w1 u v n ss) (b : Below u.heap.size u u') : RowV w1 u' v n ss := by
  obtain ⟨hn, ⟨xs, ho, hp⟩, hb⟩ := h
  refine ⟨hn, ⟨xs, ho.kept (row := none) ⟨b.os, b.tape, b.output, b.size, fun i hi _ => b.block i hi⟩ ?_, hp⟩, below_step hb b⟩
  rcases hv : v.ownBlock with _ | x
  · exact .inl rfl
  · exact .inr (by simp)
theorem RowV.form (h : RowV w1 u v n ss) : ∃ A c, v = .slice A n c ∧ n ≤ c := by
  obtain ⟨hn, ⟨xs, ho, _⟩, _⟩ := h
  rcases ho.2 with ⟨rfl, rfl⟩ | ⟨g, cap, cur, rfl, _, _, hc, _⟩
  · exact ⟨none, 0, rfl, Nat.le_refl _⟩
  · exact ⟨_, cap, rfl, hc⟩
theorem RowV.rd {A : Option Addr} {c : Nat} (h : RowV w1 u (.slice A n c) n ss) : RdRests u A ss := fun h0 => by
  obtain ⟨rfl, ⟨xs, ho, hp⟩, hb⟩ := h
  rcases ho.2 with ⟨_, h1⟩ | ⟨g, cap, cur, hv, _, hh, _⟩
  · omega
  · injection hv with hA _ _
    subst hA
    refine ⟨g, 0, rfl, (Array.getElem?_eq_some_iff.1 hh).1, fun j hj => ?_⟩
    obtain ⟨vM, vR, h1, h2, h3, h4⟩ := hp j hj
    have hl := ho.1
    refine ⟨vM, vR, ?_, ?_, h3.step hb, h4.step hb⟩
    · rw [Nat.zero_add, ho.cellAt (j * 2) (by omega)]; exact h1
    · rw [Nat.zero_add, ho.cellAt (j * 2 + 1) (by omega)]; exact h2
end
theorem pairsV_append {w1 : World} {xs ys : List Value} {ss ts : List CR} (hl : xs.length = ss.length * 2) (h : PairsV w1 xs ss) (k : PairsV w1 ys ts) : PairsV w1 (xs ++ ys) (ss ++ ts) := fun j hj => by
  rcases Nat.lt_or_ge j ss.length with h1 | h1
  · obtain ⟨vM, vR, e1, e2, h3, h4⟩ := h j h1
    refine ⟨vM, vR, by rw [List.getElem?_append_left (by omega)]; exact e1, by rw [List.getElem?_append_left (by omega)]; exact e2, ?_, ?_⟩
    · rw [List.getElem_append_left h1]; exact h3
    · rw [List.getElem_append_left h1]; exact h4
  · obtain ⟨i, rfl⟩ : ∃ i, j = ss.length + i := ⟨j - ss.length, by omega⟩
    obtain ⟨vM, vR, e1, e2, h3, h4⟩ := k i (by simp at hj; omega)
    refine ⟨vM, vR, ?_, ?_, ?_, ?_⟩
    · rw [List.getElem?_append_right (by omega), hl, show (ss.length + i) * 2 - ss.length * 2 = i * 2 by omega]; exact e1
    · rw [List.getElem?_append_right (by omega), hl, show (ss.length + i) * 2 + 1 - ss.length * 2 = i * 2 + 1 by omega]; exact e2
    · rw [List.getElem_append_right (by omega)]; simpa using h3
    · rw [List.getElem_append_right (by omega)]; simpa using h4
theorem RdRests.src {w : World} {A : Option Addr} {ts : List CR} (h : RdRests w A ts) (h0 : 0 < ts.length) : ∃ b off news, A = some ⟨b, off, none⟩ ∧ b < w.heap.size ∧ news.length = ts.length * 2 ∧ (∀ j u, news[j]? = some u → w.cell? ⟨b, off + j, none⟩ = some u) ∧ PairsV w news ts ∧ ∀ u ∈ news, u.oneCell' = true := by
  obtain ⟨b, off, rfl, hb, hall⟩ := h h0
  have key : ∀ i, i < ts.length * 2 → ∃ v, w.cell? ⟨b, off + i, none⟩ = some v ∧ v.oneCell' = true := fun i hi => by
    obtain ⟨vM, vR, h1, h2, h3, h4⟩ := hall (i / 2) (by omega)
    rcases Nat.mod_two_eq_zero_or_one i with e | e
    · rw [show off + i / 2 * 2 = off + i by omega] at h1
      exact ⟨vM, h1, h3.one⟩
    · rw [show off + i / 2 * 2 + 1 = off + i by omega] at h2
      exact ⟨vR, h2, h4.one⟩
  have get : ∀ i v, w.cell? ⟨b, off + i, none⟩ = some v → i < ts.length * 2 → ((List.range (ts.length * 2)).map fun i => (w.cell? ⟨b, off + i, none⟩).getD undef)[i]? = some v := fun i v hv hi => by
    rw [List.getElem?_map, List.getElem?_range hi]
    simp [hv]
  refine ⟨b, off, (List.range (ts.length * 2)).map fun i => (w.cell? ⟨b, off + i, none⟩).getD undef, rfl, hb, by simp, fun j u hu => ?_, fun j hj => ?_, fun u hu => ?_⟩
  · have hj : j < ts.length * 2 := by have := (List.getElem?_eq_some_iff.1 hu).1; simpa using this
    obtain ⟨v, hv, _⟩ := key j hj
    rw [get j v hv hj] at hu
    rw [hv, ← hu]
  · obtain ⟨vM, vR, h1, h2, h3, h4⟩ := hall j hj
    exact ⟨vM, vR, get _ _ h1 (by omega), get _ _ h2 (by omega), h3, h4⟩
  · obtain ⟨i, hi, rfl⟩ := List.mem_map.1 hu
    obtain ⟨v, hv, h1⟩ := key i (by simpa using hi)
    simp only [hv, Option.getD_some]
    exact h1
/-- append of one rest. -/
theorem RowV.append1 {w1 u : World} {v vM vR : Value} {n : Nat} {ss : List CR} {m r : Nat} (h : RowV w1 u v n ss) (hn : n ≤ 1000) (hM : NV w1 vM m) (hR : NV w1 vR r) (ty : TypeId) :
    ∃ g cap u', (Builtin.append_ #[32, 32] ty #[v, .slice (some ⟨u.heap.size, 0, none⟩) 1 1]).run Try.prog (u.alloc (.cells #[vM, vR] 40)) = .ok (.slice (some ⟨g, 0, none⟩) (n + 1) cap) u' ∧ RowV w1 u' (.slice (some ⟨g, 0, none⟩) (n + 1) cap) (n + 1) (ss ++ [⟨m, r⟩]) := by
  obtain ⟨i0, hi, hz0, hz1, hz2⟩ := info_parts rest_info21
  obtain ⟨hsn, ⟨xs, ho, hp⟩, hb⟩ := h
  have ho2 := ho.alloc (.cells #[vM, vR] 40)
  have hsz := hb.size
  obtain ⟨g, cap, u', hrun, hown, hg, _, hlt⟩ := run_append_lies (P := Try.prog) (u.alloc (.cells #[vM, vR] 40)) 32 ty w1.heap.size 40 i0 _ 2 48 Try.underlying32 hi hz0 hz1 hz2 rfl (by omega) v n xs ho2
    ⟨u.heap.size, 0, none⟩ 1 1 [vM, vR] rfl (cells_two_new21 u vM vR _) (fun y hy => by
      rcases List.mem_cons.1 hy with rfl | hy
      · exact hM.one
      · rw [List.mem_singleton.1 hy]; exact hR.one) (by omega) (by unfold maxLen; omega) (by omega) (by simp; omega) _ rfl
  refine ⟨g, cap, u', hrun, by simp [hsn], ⟨xs ++ [vM, vR], hown, pairsV_append (by have := ho.1; omega) hp fun j hj => ?_⟩, ?_⟩
  · obtain rfl : j = 0 := by simpa using hj
    exact ⟨vM, vR, rfl, rfl, hM, hR⟩
  · have ba : Below w1.heap.size w1 (u.alloc (.cells #[vM, vR] 40)) := below_step hb ((Below.refl _ u).alloc (Nat.le_refl _) _)
    exact ba.grown hg (by simp; omega) fun k hk => (ho2.lt k hk).1
theorem run_append_nothing21 {P : Program} (w : World) (base : Nat) (t ty e : TypeId) (i : TypeInfo) (ht : P.underlying t = some (.slice e)) (hi : P.info? e = some i)
    (v : Value) (n : Nat) (xs : List Value) (hown : w.ownsRow base e 2 v n xs) (c : Nat) : (Builtin.append_ #[t, t] ty #[v, .slice none 0 c]).run P w = .ok v w := by
  rcases hown.2 with ⟨rfl, rfl⟩ | ⟨g, cap, cur, rfl, _, _, hnc, _⟩
  · simp [Builtin.append_, run_underlying ht, sizeOf, typeInfo, hi, Builtin.lenOf, Builtin.firstCells]
  · simp [Builtin.append_, run_underlying ht, sizeOf, typeInfo, hi, Builtin.lenOf, Builtin.firstCells, hnc, storeCells]
/-- append of a slice that stood in w1. -/
theorem RowV.appendAll {w1 u : World} {v : Value} {n m c : Nat} {A : Option Addr} {ss ts : List CR} (h : RowV w1 u v n ss) (hn : n ≤ 1000) (hm : ts.length = m) (hml : m ≤ 1000) (hs : RdRests w1 A ts) (hA : A = none → m = 0) (ty : TypeId) :
    ∃ v' u', (Builtin.append_ #[32, 32] ty #[v, .slice A m c]).run Try.prog u = .ok v' u' ∧ RowV w1 u' v' (n + m) (ss ++ ts) := by
  obtain ⟨i0, hi, hz0, hz1, hz2⟩ := info_parts rest_info21
  obtain ⟨hsn, ⟨xs, ho, hp⟩, hb⟩ := h
  rcases A with _ | ad
  · obtain rfl := hA rfl
    obtain rfl := List.eq_nil_of_length_eq_zero hm
    exact ⟨v, u, run_append_nothing21 u w1.heap.size 32 ty 40 i0 Try.underlying32 hi v n xs ho c, by simpa using hsn, ⟨xs, ho, by simpa using hp⟩, hb⟩
  · obtain ⟨news, hnl, hcells, hpn, h1⟩ : ∃ news : List Value, news.length = m * 2 ∧ (∀ j x, news[j]? = some x → u.cell? (ad.add j) = some x) ∧ PairsV w1 news ts ∧ ∀ x ∈ news, x.oneCell' = true := by
      rcases Nat.eq_zero_or_pos ts.length with h0 | h0
      · exact ⟨[], by simp; omega, by simp, fun j hj => by omega, by simp⟩
      · obtain ⟨b, off, news, e, hbl, k1, k2, k3, k4⟩ := hs.src h0
        injection e with e
        subst e
        refine ⟨news, by omega, fun j x hx => ?_, k3, k4⟩
        rw [Addr.add_lit]
        exact (hb.cell (p := ⟨b, off + j, none⟩) hbl).trans (k2 j x hx)
    obtain ⟨v', u', hrun, hown, hg, _, _⟩ := run_append_own_at (P := Try.prog) u w1.heap.size 32 ty 40 i0 _ 2 48 Try.underlying32 hi hz0 hz1 hz2 rfl (by omega) v n xs ho ad m c news hnl hcells h1 (by unfold maxLen; omega) (by omega) hb.size
    exact ⟨v', u', hrun, by simp [hsn, hm], ⟨xs ++ news, hown, pairsV_append (by have := ho.1; omega) hp hpn⟩, hb.grown hg hb.size fun k hk => (ho.lt k hk).1⟩
/-- A literal of one rest. -/
theorem RowV.lit {w1 : World} {vM vR : Value} {m r : Nat} (hM : NV w1 vM m) (hR : NV w1 vR r) : RowV w1 (w1.alloc (.cells #[vM, vR] 40)) (.slice (some ⟨w1.heap.size, 0, none⟩) 1 1) 1 [⟨m, r⟩] := by
  refine ⟨rfl, ⟨[vM, vR], ⟨rfl, .inr ⟨w1.heap.size, 1, #[vM, vR], rfl, Nat.le_refl _, World.alloc_heap_new w1 _, Nat.le_refl _, by unfold maxLen; omega, rfl, rfl⟩⟩, fun j hj => ?_⟩, (Below.refl _ w1).alloc (Nat.le_refl _) _⟩
  obtain rfl : j = 0 := by simpa using hj
  exact ⟨vM, vR, rfl, rfl, hM, hR⟩
/-- An empty literal. -/
theorem RowV.lit0 (w1 : World) : RowV w1 (w1.alloc (.cells #[] 40)) (.slice (some ⟨w1.heap.size, 0, none⟩) 0 0) 0 [] :=
  ⟨rfl, ⟨[], ⟨rfl, .inr ⟨w1.heap.size, 0, #[], rfl, Nat.le_refl _, World.alloc_heap_new w1 _, Nat.le_refl _, by unfold maxLen; omega, rfl, rfl⟩⟩, fun j hj => by cases hj⟩, (Below.refl _ w1).alloc (Nat.le_refl _) _⟩
/-- append, where its run is known. -/
theorem wpList_append21 {P : Program} {w w' : World} {ops : Array Oper} {rest : List Oper} {o : Oper} {a : Act} {Q : Exit → Act → World → Prop} (hgd : o.guard = none) (s x : Operand) (t : TypeId) (ho : o.op = .call { callee := .builtin .append, args := #[s, x], argTypes := #[t, t] }) (v y : Value) (hs : a.eval s = v) (hx : a.eval x = y) {v' : Value}
    (hr : (Builtin.append_ #[t, t] o.type #[v, y]).run P w = .ok v' w') (h : wpList P ops Q rest (a.put o.dst v') w') : wpList P ops Q (o :: rest) a w :=
  wpList_plain hgd fun _ hK => op_append11 s x t ho v y hs hx hr (hK _ _ h)
/-! Parts of a slice -/
theorem RdRests.take {w : World} {A : Option Addr} {ss : List CR} (h : RdRests w A ss) (k : Nat) : RdRests w A (ss.take k) := fun h0 => by
  rw [List.length_take] at h0
  obtain ⟨b, off, e, hb, hall⟩ := h (by omega)
  refine ⟨b, off, e, hb, fun j hj => ?_⟩
  rw [List.length_take] at hj
  obtain ⟨vM, vR, h1, h2, h3, h4⟩ := hall j (by omega)
  rw [List.getElem_take]
  exact ⟨vM, vR, h1, h2, h3, h4⟩
theorem RdRests.drop {w : World} {A : Option Addr} {ss : List CR} (h : RdRests w A ss) (k cap : Nat) (hc : ss.length ≤ cap) : RdRests w (if cap = k then A else A.map (·.add (k * 2))) (ss.drop k) := fun h0 => by
  rw [List.length_drop] at h0
  obtain ⟨b, off, rfl, hb, hall⟩ := h (by omega)
  refine ⟨b, off + k * 2, ?_, hb, fun j hj => ?_⟩
  · rw [if_neg (by omega)]
    simp [Addr.add_lit]
  · rw [List.length_drop] at hj
    obtain ⟨vM, vR, h1, h2, h3, h4⟩ := hall (k + j) (by omega)
    rw [List.getElem_drop]
    refine ⟨vM, vR, ?_, ?_, h3, h4⟩
    · rw [Nat.add_assoc, ← Nat.add_mul]; exact h1
    · rw [show off + k * 2 + j * 2 + 1 = off + (k + j) * 2 + 1 by omega]; exact h2
end Go.Proofs.Ytgmolbiicclcaaa

/- Several texts in one; each begins with a remark that says what it shows and on which conditions. -/
import Derived.Test.YtjpfcdgaepdcdaaKbh
/- pratt's goesAround, walked. Conditions: as typed (numbers of at most 1024 bits). -/
namespace Go.Proofs.Ytjpfcdgaepdcdaa
open Go.RowKit
set_option maxRecDepth 20000
/-- A step's three fields, as they lie at block g. -/
structure StepBox (w : World) (g : Nat) (vP vG vQ : Value) : Prop where
  cP : w.cell? ⟨g, 0, none⟩ = some vP
  cG : w.cell? ⟨g, 1, none⟩ = some vG
  cQ : w.cell? ⟨g, 2, none⟩ = some vQ
  lt : g < w.heap.size
theorem StepBox.below {w w' : World} {g : Nat} {vP vG vQ : Value} (h : StepBox w g vP vG vQ) (b : Below w.heap.size w w') : StepBox w' g vP vG vQ :=
  ⟨(b.cell (p := ⟨g, 0, none⟩) h.lt).trans h.cP, (b.cell (p := ⟨g, 1, none⟩) h.lt).trans h.cG, (b.cell (p := ⟨g, 2, none⟩) h.lt).trans h.cQ, Nat.lt_of_lt_of_le h.lt b.size⟩
theorem StepBox.new (w : World) (vP vG vQ : Value) (T : TypeId) : StepBox (w.alloc (.cells #[vP, vG, vQ] T)) w.heap.size vP vG vQ := by
  refine ⟨?_, ?_, ?_, by simp⟩ <;> go_simp
/-- What goes round says. -/
def Around (x p N : Nat) (Q : List Nat) : Prop := x ^ N % p = 1 ∧ ∀ q ∈ Q, x ^ (N / q) % p ≠ 1
set_option maxHeartbeats 4000000 in
theorem isOne11 {w : World} {E AP AG : Option Addr} {n c nP cP nG cG K p x g : Nat} {vQ : Value} (hE : NatIs w E n c K) (hB : StepBox w g (.slice AP nP cP) (.slice AG nG cG) vQ) (hP : NatIs w AP nP cP p) (hG : NatIs w AG nG cG x)
    (hp : p ≠ 0) (hpl : nbits p ≤ 1024) (hxl : nbits x ≤ 1024) (hKl : nbits K ≤ 1024) (b : Bool) (hb : b = true ↔ x ^ K % p = 1) :
    Calls Try.prog 46 #[.slice E n c, .pointer (some ⟨g, 0, none⟩)] w fun e w' => e = .returned (.bool b) ∧ Below w.heap.size w w' := by
  obtain ⟨V, hV⟩ : ∃ V, x ^ K % p = V := ⟨_, rfl⟩
  have h1 := hE.len11 hKl
  have h2 := hP.len11 hpl
  have h3 := hG.len11 hxl
  have C1 := Lib.hid (bExp_is V hG.in_ hE.in_ hP.in_ hV hp (by omega) (by omega) (by omega) (by omega) (by omega))
  have HO := Lib.hid fun u => bOf u 1 (by omega)
  have k0 := hB.cP
  have k1 := hB.cG
  rw [hV] at hb
  clear hE hB hP hG hp hpl hxl hKl h1 h2 h3 hV
  rcases Nat.lt_trichotomy V 1 with h | h | h
  · obtain rfl : b = false := by
      cases hq : b with
      | false => rfl
      | true => have := hb.1 hq; omega
    have H1 := Lib.hid h
    clear hb h
    go_enter Try.func46, Try.ntmps46
    go_wp2_with fail
    refine (C1.out).mono ?_
    rintro e w1 ⟨Y1, r1, f1, rfl, S1, b1⟩
    have HS1 := Lib.hid S1
    have HB1 := Lib.hid b1
    clear S1 b1
    go_wp2_with fail
    refine (HO.out _).mono ?_
    rintro e w2 ⟨Y2, r2, f2, rfl, S2, _, b2⟩
    have C2 := Lib.hid (cmp_below11 (HS1.out.step b2).in_ S2.in_ H1.out)
    have HB2 := Lib.hid (below_step HB1.out b2)
    clear S2 b2
    go_wp2_with fail
    refine (C2.out).mono ?_
    rintro e w3 ⟨rfl, b3⟩
    have HB3 := Lib.hid (below_step HB2.out b3)
    clear b3
    go_wp2_with fail
    go_ret
    exact ⟨rfl, HB3.out⟩
  · obtain rfl : b = true := hb.2 h
    have H1 := Lib.hid h
    clear hb h
    go_enter Try.func46, Try.ntmps46
    go_wp2_with fail
    refine (C1.out).mono ?_
    rintro e w1 ⟨Y1, r1, f1, rfl, S1, b1⟩
    have HS1 := Lib.hid S1
    have HB1 := Lib.hid b1
    clear S1 b1
    go_wp2_with fail
    refine (HO.out _).mono ?_
    rintro e w2 ⟨Y2, r2, f2, rfl, S2, _, b2⟩
    have C2 := Lib.hid (cmp_same11 (HS1.out.step b2).in_ S2.in_ H1.out)
    have HB2 := Lib.hid (below_step HB1.out b2)
    clear S2 b2
    go_wp2_with fail
    refine (C2.out).mono ?_
    rintro e w3 ⟨rfl, b3⟩
    have HB3 := Lib.hid (below_step HB2.out b3)
    clear b3
    go_wp2_with fail
    go_ret
    exact ⟨rfl, HB3.out⟩
  · obtain rfl : b = false := by
      cases hq : b with
      | false => rfl
      | true => have := hb.1 hq; omega
    have H1 := Lib.hid h
    clear hb h
    go_enter Try.func46, Try.ntmps46
    go_wp2_with fail
    refine (C1.out).mono ?_
    rintro e w1 ⟨Y1, r1, f1, rfl, S1, b1⟩
    have HS1 := Lib.hid S1
    have HB1 := Lib.hid b1
    clear S1 b1
    go_wp2_with fail
    refine (HO.out _).mono ?_
    rintro e w2 ⟨Y2, r2, f2, rfl, S2, _, b2⟩
    have C2 := Lib.hid (cmp_above11 (HS1.out.step b2).in_ S2.in_ H1.out)
    have HB2 := Lib.hid (below_step HB1.out b2)
    clear S2 b2
    go_wp2_with fail
    refine (C2.out).mono ?_
    rintro e w3 ⟨rfl, b3⟩
    have HB3 := Lib.hid (below_step HB2.out b3)
    clear b3
    go_wp2_with fail
    go_ret
    exact ⟨rfl, HB3.out⟩
/-- The first so many were looked at. -/
def NoneYet (x p N : Nat) (Q : List Nat) (j : Nat) : Prop := x ^ N % p = 1 ∧ ∀ q ∈ Q.take j, x ^ (N / q) % p ≠ 1
theorem NoneYet.next {x p N : Nat} {Q : List Nat} {j : Nat} (h : NoneYet x p N Q j) (hj : j < Q.length) (hn : x ^ (N / Q[j]) % p ≠ 1) : NoneYet x p N Q (j + 1) := ⟨h.1, fun q hq => by
  rw [take_next11 hj] at hq
  rcases List.mem_append.1 hq with h1 | h1
  · exact h.2 q h1
  · rw [List.mem_singleton.1 h1]; exact hn⟩
theorem Around.no11 {b : Bool} {x p N : Nat} {Q : List Nat} (hb : b = true ↔ Around x p N Q) {j : Nat} (hj : j < Q.length) (hn : x ^ (N / Q[j]) % p = 1) : b = false := by
  cases hq : b with
  | false => rfl
  | true => exact absurd hn ((hb.1 hq).2 _ (List.getElem_mem hj))
theorem Around.end11 {b : Bool} {x p N : Nat} {Q : List Nat} (hb : b = true ↔ Around x p N Q) (h : NoneYet x p N Q Q.length) : b = true := hb.2 (by
  unfold NoneYet at h
  rw [List.take_length] at h
  exact h)
set_option maxHeartbeats 4000000 in
theorem goesAround11 {w : World} {B AP AG : Option Addr} {n c nP cP nG cG N p x : Nat} {vQ : Value} {ms : List (List Nat)} (hN : NatIs w B n c N) (hP : NatIs w AP nP cP p) (hG : NatIs w AG nG cG x) (hQ : RdQ w w.heap.size vQ ms)
    (hp : p ≠ 0) (hpl : nbits p ≤ 1024) (hxl : nbits x ≤ 1024) (hNl : nbits N ≤ 1024) (hok : ∀ q ∈ ms, OkNat q ∧ q.length ≤ 40 ∧ natOf q ≠ 0) (b : Bool) (hb : b = true ↔ Around x p N (ms.map natOf)) :
    Calls Try.prog 32 #[.agg #[.slice AP nP cP, .slice AG nG cG, vQ], .slice B n c] w fun e w' => e = .returned (.bool b) ∧ Below w.heap.size w w' := by
  obtain ⟨Q, hQs⟩ : ∃ Q, ms.map natOf = Q := ⟨_, rfl⟩
  have hQl : Q.length = ms.length := by rw [← hQs, List.length_map]
  have hQg : ∀ j (h1 : j < Q.length) (h2 : j < ms.length), Q[j] = natOf ms[j] := fun j h1 h2 => by subst hQs; simp
  rw [hQs] at hb
  have HQG := Lib.hid hQg
  have HQL := Lib.hid hQl
  have HBb := Lib.hid hb
  have HOK := Lib.hid hok
  have HNl := Lib.hid hNl
  have hn16 := hN.len11 hNl
  obtain ⟨A, cQ, hv, _, hcQ, hlQ⟩ := id hQ
  obtain ⟨m, hm⟩ : ∃ m, ms.length = m := ⟨_, rfl⟩
  have HM := Lib.hid hm
  rw [hm] at hv hcQ hlQ
  subst hv
  obtain ⟨W0, hW0⟩ : ∃ W0, w.alloc (.cells #[.slice AP nP cP, .slice AG nG cG, .slice A m cQ] 35) = W0 := ⟨_, rfl⟩
  have hb0 : Below w.heap.size w W0 := by rw [← hW0]; exact (Below.refl _ w).alloc (Nat.le_refl _) _
  obtain ⟨g, hg⟩ : ∃ g, w.heap.size = g := ⟨_, rfl⟩
  have hX0 : StepBox W0 g (.slice AP nP cP) (.slice AG nG cG) (.slice A m cQ) := by rw [← hW0, ← hg]; exact StepBox.new _ _ _ _ _
  have HX0 := Lib.hid hX0
  have HN0 := Lib.hid (hN.step hb0)
  have HP0 := Lib.hid (hP.step hb0)
  have HG0 := Lib.hid (hG.step hb0)
  have HQ0 := Lib.hid (hQ.step11 hb0)
  have HB0 := Lib.hid hb0
  have kQ := hX0.cQ
  have C1 := Lib.hid fun (u : World) (E : Option Addr) (k f K : Nat) (z : Bool) (hE : NatIs u E k f K) (hK : nbits K ≤ 1024) (hz : z = true ↔ x ^ K % p = 1) (hX : Hid (StepBox u g (.slice AP nP cP) (.slice AG nG cG) (.slice A m cQ))) (hP : Hid (NatIs u AP nP cP p)) (hG : Hid (NatIs u AG nG cG x)) =>
    isOne11 hE hX.out hP.out hG.out hp hpl hxl hK z hz
  clear hX0 hb0 hQ hN hP hG hb hok hpl hxl hNl hQs hQg hQl hp hm
  by_cases hone : x ^ N % p = 1
  · have C2 := Lib.hid (C1.out W0 B n c N true HN0.out HNl.out ⟨fun _ => hone, fun _ => rfl⟩ HX0 HP0 HG0)
    have HNY := Lib.hid (show NoneYet x p N Q 0 from ⟨hone, fun q hq => by simp at hq⟩)
    clear hone
    go_enter Try.func32, Try.ntmps32
    go_wp2_with fail
    refine (C2.out).mono ?_
    rintro e w1 ⟨rfl, b1⟩
    have HX1 := Lib.hid (HX0.out.below b1)
    have HN1 := Lib.hid (HN0.out.step b1)
    have HP1 := Lib.hid (HP0.out.step b1)
    have HG1 := Lib.hid (HG0.out.step b1)
    have HQ1 := Lib.hid (HQ0.out.step11 b1)
    have HB1 := Lib.hid (below_step HB0.out b1)
    have kQ1 := HX1.out.cQ
    clear b1 kQ
    go_wp2_with fail
    go_loopw [19] (fun jv wr => ∃ j : Nat, jv = .int .i64 j ∧ j ≤ m ∧ Hid (StepBox wr g (.slice AP nP cP) (.slice AG nG cG) (.slice A m cQ)) ∧ Hid (NatIs wr B n c N) ∧ Hid (NatIs wr AP nP cP p) ∧ Hid (NatIs wr AG nG cG x) ∧ Hid (RdQ wr wr.heap.size (.slice A m cQ) ms) ∧ Hid (NoneYet x p N Q j) ∧ Hid (Below w.heap.size w wr)) (fun jv _ => m - (intOf jv).toNat)
    case atStart => exact ⟨0, rfl, Nat.zero_le _, HX1, HN1, HP1, HG1, HQ1, HNY, HB1⟩
    case round =>
      clear HX0 HN0 HP0 HG0 HQ0 HB0 HX1 HN1 HP1 HG1 HQ1 HB1 HNY C2 kQ1
      obtain ⟨j, rfl, hj, HX, HN, HP, HG, HQ, HNY, HB⟩ := hrel
      by_cases hlt : j < m
      · have hjm : j < ms.length := by rw [HM.out]; exact hlt
        have hjQ : j < Q.length := by rw [HQL.out]; exact hjm
        obtain ⟨gA, oA, y, hA, _, hy, hry⟩ := HQ.out.at11 hjm
        subst hA
        have hmem : ms[j] ∈ ms := List.getElem_mem hjm
        obtain ⟨ho1, ho2, ho3⟩ := HOK.out _ hmem
        obtain ⟨Y, f, rfl, T⟩ := hry.is11 ho2 ho1
        obtain ⟨r, hr⟩ : ∃ r, ms[j].length = r := ⟨_, rfl⟩
        obtain ⟨q, hq⟩ : ∃ q, natOf ms[j] = q := ⟨_, rfl⟩
        have hqe : Q[j] = q := by rw [← hq]; exact HQG.out j hjQ hjm
        have hql : nbits q ≤ 1024 := by rw [← hq]; exact ho1.2
        rw [hq] at ho3
        rw [hr, hq] at T
        rw [hr] at hy
        have hr16 := T.len11 hql
        obtain ⟨K, hK⟩ : ∃ K, N / q = K := ⟨_, rfl⟩
        obtain ⟨R, hR⟩ : ∃ R, N % q = R := ⟨_, rfl⟩
        have CD := Lib.hid (bDiv_is11 K R HN.out.in_ T.in_ hK hR ho3 (by omega) (by omega))
        have hKl : nbits K ≤ 1024 := by rw [← hK]; exact Nat.le_trans (nbits_mono (Nat.div_le_self _ _)) HNl.out
        by_cases ht : x ^ K % p = 1
        · obtain rfl := Around.no11 HBb.out hjQ (by rw [hqe, hK]; exact ht)
          have HT := Lib.hid ht
          have HKl := Lib.hid hKl
          clear ht hK hR hqe hql hq hr T hry hmem ho1 ho2 ho3 hKl
          go_wp2_with fail
          refine (CD.out).mono ?_
          rintro e w1 ⟨Z1, k1, g1, Y1, r1, f1, rfl, S1, _, b1⟩
          have C2 := Lib.hid (C1.out w1 Z1 k1 g1 K true S1 HKl.out ⟨fun _ => HT.out, fun _ => rfl⟩ (Lib.hid (HX.out.below b1)) (Lib.hid (HP.out.step b1)) (Lib.hid (HG.out.step b1)))
          have HB1 := Lib.hid (below_step HB.out b1)
          clear S1 b1
          go_wp2_with fail
          refine (C2.out).mono ?_
          rintro e w2 ⟨rfl, b2⟩
          have HB2 := Lib.hid (below_step HB1.out b2)
          clear b2
          go_wp2_with fail
          go_ret
          exact ⟨rfl, HB2.out⟩
        · have HNY2 := Lib.hid (HNY.out.next hjQ (by rw [hqe, hK]; exact ht))
          have HT := Lib.hid ht
          have HKl := Lib.hid hKl
          clear ht hK hR hqe hql hq hr T hry hmem ho1 ho2 ho3 hKl
          go_wp2_with fail
          refine (CD.out).mono ?_
          rintro e w1 ⟨Z1, k1, g1, Y1, r1, f1, rfl, S1, _, b1⟩
          have HX1 := Lib.hid (HX.out.below b1)
          have HP1 := Lib.hid (HP.out.step b1)
          have HG1 := Lib.hid (HG.out.step b1)
          have HN1 := Lib.hid (HN.out.step b1)
          have HQ1 := Lib.hid (HQ.out.step11 b1)
          have C2 := Lib.hid (C1.out w1 Z1 k1 g1 K false S1 HKl.out ⟨fun h => (Bool.false_ne_true h).elim, fun h => absurd h HT.out⟩ HX1 HP1 HG1)
          have HB1 := Lib.hid (below_step HB.out b1)
          clear S1 b1
          go_wp2_with fail
          refine (C2.out).mono ?_
          rintro e w2 ⟨rfl, b2⟩
          have HX2 := Lib.hid (HX1.out.below b2)
          have HP2 := Lib.hid (HP1.out.step b2)
          have HG2 := Lib.hid (HG1.out.step b2)
          have HN2 := Lib.hid (HN1.out.step b2)
          have HQ2 := Lib.hid (HQ1.out.step11 b2)
          have HB2 := Lib.hid (below_step HB1.out b2)
          clear b2
          go_wp2_with fail
          go_roundw
          case rel => exact ⟨j + 1, by go_num, by omega, HX2, HN2, HP2, HG2, HQ2, HNY2, HB2⟩
          case measure => simp [intOf]; omega
      · obtain rfl : j = m := by omega
        obtain rfl : b = true := Around.end11 HBb.out (by rw [HQL.out, HM.out]; exact HNY.out)
        clear hg
        go_wp2_with fail
        go_ret
        exact ⟨rfl, HB.out⟩
  · obtain rfl : b = false := by
      cases hq : b with
      | false => rfl
      | true => exact absurd (HBb.out.1 hq).1 hone
    have C2 := Lib.hid (C1.out W0 B n c N false HN0.out HNl.out ⟨fun h => (Bool.false_ne_true h).elim, fun h => absurd h hone⟩ HX0 HP0 HG0)
    clear hone
    go_enter Try.func32, Try.ntmps32
    go_wp2_with fail
    refine (C2.out).mono ?_
    rintro e w1 ⟨rfl, b1⟩
    have HB1 := Lib.hid (below_step HB0.out b1)
    clear b1
    go_wp2_with fail
    go_ret
    exact ⟨rfl, HB1.out⟩
end Go.Proofs.Ytjpfcdgaepdcdaa

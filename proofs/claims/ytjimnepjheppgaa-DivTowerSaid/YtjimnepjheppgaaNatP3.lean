/- nat.Sub: what is left, in new memory, or nothing. Conditions: as typed (lengths that fit a machine). -/
import Derived.Test.YtjimnepjheppgaaNatP2
import Derived.Shelf.Spec.BitsCarry
namespace Go.Proofs.Ytjimnepjheppgaa
open Go.RowKit Go.Shelf
set_option maxRecDepth 20000

attribute [local go_sem] Oper.semAt_some

/-- What is left of so many words, one in front being lent. -/
def dF (pre : List WP) : Nat := sF pre + 18446744073709551616 ^ pre.length - sG pre
def bF (pre : List WP) : Nat := if sF pre < sG pre then 1 else 0
theorem bF_le (pre : List WP) : bF pre ≤ 1 := by unfold bF; split <;> omega
theorem bF_nil : bF [] = 0 := by simp [bF, sF, sG, natOf]
theorem dF_div (pre : List WP) : dF pre / 18446744073709551616 ^ pre.length = 1 - bF pre := by
  have h1 := sF_lt pre
  have h2 := sG_lt pre
  unfold dF bF
  generalize 18446744073709551616 ^ pre.length = p at *
  by_cases h : sF pre < sG pre
  · rw [if_pos h, Nat.div_eq_of_lt (by omega)]
  · rw [if_neg h, show sF pre + p - sG pre = (sF pre - sG pre) + p * 1 by omega, Nat.add_mul_div_left _ _ (by omega), Nat.div_eq_of_lt (by omega)]
theorem dF_snoc (pre : List WP) (x : WP) : dF (pre ++ [x]) = dF pre + 18446744073709551616 ^ pre.length * (x.1.1 + 18446744073709551616 - x.1.2 - 1) := by
  have h2 := sG_lt pre
  obtain ⟨hx, hy⟩ := x.2
  unfold dF
  rw [sF_snoc, sG_snoc, List.length_append, List.length_singleton, Nat.pow_succ]
  generalize 18446744073709551616 ^ pre.length = p at *
  obtain ⟨t, ht⟩ : ∃ t, x.1.1 + 18446744073709551616 = x.1.2 + 1 + t := ⟨x.1.1 + 18446744073709551616 - (x.1.2 + 1), by omega⟩
  have h3 : p * (x.1.1 + 18446744073709551616) = p * (x.1.2 + 1 + t) := by rw [ht]
  rw [show x.1.1 + 18446744073709551616 - x.1.2 - 1 = t by omega]
  simp only [Nat.mul_add, Nat.mul_one] at h3
  omega
theorem words_rest_snoc (pre : List WP) (x : WP) : words (pre.length + 1) (dF (pre ++ [x])) = words pre.length (dF pre) ++ [(x.1.1 + 18446744073709551616 - x.1.2 - bF pre) % 18446744073709551616] := by
  obtain ⟨hx, hy⟩ := x.2
  have := bF_le pre
  rw [words_snoc, dF_snoc, words_low, Nat.add_mul_div_left _ _ (Nat.pow_pos (by omega)), dF_div]
  congr 3
  omega
theorem bF_snoc (pre : List WP) (x : WP) : bF (pre ++ [x]) = if x.1.1 < x.1.2 + bF pre then 1 else 0 := by
  have h1 := sF_lt pre
  have h2 := sG_lt pre
  unfold bF
  rw [sF_snoc, sG_snoc]
  generalize 18446744073709551616 ^ pre.length = p at *
  generalize sF pre = u at *
  generalize sG pre = v at *
  generalize x.1.1 = x1 at *
  generalize x.1.2 = y1 at *
  rcases Nat.lt_trichotomy x1 y1 with h | h | h
  · have h3 : p * (x1 + 1) ≤ p * y1 := Nat.mul_le_mul_left _ h
    rw [Nat.mul_add, Nat.mul_one] at h3
    rw [if_pos (by omega), if_pos (by omega)]
  · subst h
    by_cases huv : u < v
    · rw [if_pos (by omega), if_pos huv, if_pos (by omega)]
    · rw [if_neg (by omega), if_neg huv, if_neg (by omega)]
  · have h3 : p * (y1 + 1) ≤ p * x1 := Nat.mul_le_mul_left _ h
    rw [Nat.mul_add, Nat.mul_one] at h3
    rw [if_neg (by omega)]
    by_cases huv : u < v
    · rw [if_pos huv, if_neg (by omega)]
    · rw [if_neg huv, if_neg (by omega)]
theorem words_rest_end (pre : List WP) (h : sG pre ≤ sF pre) : words pre.length (dF pre) = words pre.length (sF pre - sG pre) := by
  have := words_low pre.length (sF pre - sG pre) 1
  rw [← this]
  unfold dF
  congr 1
  omega

/-- The model's own entry for math/bits.Sub64. -/
theorem sub64_run (x y b : Nat) (hb : b ≤ 1) (w : World) :
    (callFunc 38 #[.int .u64 x, .int .u64 y, .int .u64 b]).run Try.prog w =
      .ok (.value (.tuple #[.int .u64 (((x + 18446744073709551616 - y - b) % 18446744073709551616 : Nat) : Int), .int .u64 ((if x < y + b then 1 else 0 : Nat) : Int)])) w := by
  rw [run_callFunc_extern Try.func38 (by kernel_rfl) (by kernel_rfl) (by kernel_rfl) (e := sub64Entry) (by kernel_rfl), run_sub64 x y b hb]
  rfl

set_option maxRecDepth 100000 in
set_option maxHeartbeats 2000000 in
theorem sub_core (A A2 : Option Addr) (n0 n1 c c2 : Nat) (a b : List Nat) (ha : Words a) (hb : Words b) (hla : a.length ≤ 100000) (hlb : b.length ≤ 100000) (w : World) (hra : Rd .u64 w w.heap.size A a) (hrb : Rd .u64 w w.heap.size A2 b)
    (T1 : Hid (Calls Try.prog 31 #[.slice A n0 c] w fun e w' => e = .returned (.slice A a.length c) ∧ w = w'))
    (T2 : Hid (Calls Try.prog 31 #[.slice A2 n1 c2] w fun e w' => e = .returned (.slice A2 b.length c2) ∧ w = w')) :
    Calls Try.prog 22 #[.slice A n0 c, .slice A2 n1 c2] w (OutSub (natOf a) (natOf b) w) := by
  obtain ⟨m, hm⟩ : ∃ m, m = max a.length b.length := ⟨_, rfl⟩
  have hm2 : m ≤ 100000 := by omega
  have HM := Lib.hid (show max (a.length : Int) (b.length : Int) = (m : Int) by omega)
  have Hm := Lib.hid hm
  clear hm
  refine (callsIn_wide (n := 9)).1 ?_
  refine callsIn_of_wp_marks Try.func22 rfl trivial ?_ rfl
  simp only [Try.ntmps22, List.size_toArray, List.length_cons, List.length_nil, Nat.reduceAdd, Nat.reduceSub, Array.replicate_succ, Array.replicate_zero, List.push_toArray, List.append_toArray, List.nil_append, List.cons_append]
  have hmk : ∀ u : World, (Instr.makeSlice 23 (.int .i64 0) (.int .i64 (max (a.length : Int) (b.length : Int)))).run Try.prog u =
      .ok (.slice (some ⟨u.heap.size, 0, none⟩) 0 m) (u.alloc (.cells (List.replicate m (Value.int .u64 0)).toArray 24)) := fun u => by
    rw [HM.out]
    exact make_words m u (by omega)
  have hx0 : 0 ≤ max (a.length : Int) (b.length : Int) := by omega
  have hx1 : max (a.length : Int) (b.length : Int) ≤ 100000 := by omega
  gi_wp2
  refine ⟨trivial, ?_⟩
  refine (callsIn_wide.2 T1.out).mono ?_
  rintro e w' ⟨rfl, rfl⟩
  gi_wp2
  refine ⟨trivial, ?_⟩
  refine (callsIn_wide.2 T2.out).mono ?_
  rintro e w' ⟨rfl, rfl⟩
  gi_wp2
  refine ⟨trivial, ?_⟩
  refine (pairs_in _ _ _ _ _ _ _ _).mono ?_
  rintro e w' ⟨rfl, rfl⟩
  have F := starts w m (.slice A a.length c) (.slice A2 b.length c2) (by unfold maxLen; omega)
  obtain ⟨E, hE⟩ : ∃ E, startW w m (.slice A a.length c) (.slice A2 b.length c2) = E := ⟨_, rfl⟩
  rw [hE] at F
  unfold startW at hE
  clear hmk
  gi_wp2
  clear hE
  obtain ⟨i0, hi, hz0, hz1, hz2⟩ := info_parts num_info_u64
  have hEs := F.size
  have HEs := Lib.hid hEs
  refine wpIn_rangeFunc_ownG rfl (by omega) (gf := 53) (lb := #[.pointer (some ⟨w.heap.size + 1 + 1 + 1, 0, none⟩), .pointer (some ⟨w.heap.size + 1 + 1 + 1 + 1, 0, none⟩)]) rfl trivial (enters_of Try.func53 (by kernel_rfl) rfl)
    (pairs_stops 8 (by omega) (w.heap.size + 1 + 1 + 1) w.heap.size A A2 a b ha hb c c2 m (by omega) (by omega) Hm.out E F.va F.vb (by omega) (hra.below F.below) (hrb.below F.below))
    KpP.t (KpP.b (by omega) (by omega)) (Below.refl _ _) (fun _ => rfl)
    (fun pre W => Mid w m pre.length (words pre.length (dF pre)) (bF pre) W)
    (fun _ _ _ => False)
    (fun s X Y row hs hg hr => hs.kept hg (fun r e => by have := (hr r e).1; omega))
    (fun _ _ _ _ _ hs _ _ => hs)
    ⟨by simpa [words, ints] using F.row, F.out, by rw [bF_nil]; exact F.carry, F.below, by omega⟩
    (fun x => { tmps := #[.slice A a.length c, .slice A2 b.length c2, undef, undef, .slice none 0 0, .bool false, .pointer (some ⟨w.heap.size + 1, 0, none⟩), .pointer (some ⟨w.heap.size + 1 + 1, 0, none⟩), .int .u64 (x.1.1 : Int), .int .u64 (x.1.2 : Int), .slice A n0 c,
      .slice A a.length c, .slice A2 n1 c2, .slice A2 b.length c2, .slice A a.length c, .int .i64 (a.length : Int), .slice A2 b.length c2, .int .i64 (b.length : Int), .int .i64 (max (a.length : Int) (b.length : Int)),
      .slice (some ⟨w.heap.size, 0, none⟩) 0 m, .slice A a.length c, .slice A2 b.length c2, .func (.func 53) #[] #[.pointer (some ⟨w.heap.size + 1 + 1 + 1, 0, none⟩), .pointer (some ⟨w.heap.size + 1 + 1 + 1 + 1, 0, none⟩)],
      .int .u64 (x.1.1 : Int), .int .u64 (x.1.2 : Int), undef, undef, undef, undef, undef, undef, undef, undef, undef, undef, undef, undef, undef, undef, undef], defers := [] }) ?assign ?body ?done ?stop
  case assign =>
    intro l x W K hK
    gi_wp2
    exact hK
  case body =>
    rintro l pre x W hMid hlt
    have hoc := hMid.out.cell
    have hof := hMid.out.frozen
    have hcc := hMid.carry.cell
    have hcf := hMid.carry.frozen
    have hadd := sub64_run x.1.1 x.1.2 (bF pre) (bF_le pre)
    obtain ⟨sw, hsw⟩ : ∃ sw, sw = (x.1.1 + 18446744073709551616 - x.1.2 - bF pre) % 18446744073709551616 := ⟨_, rfl⟩
    obtain ⟨cy, hcy⟩ : ∃ cy, cy = (if x.1.1 < x.1.2 + bF pre then 1 else 0 : Nat) := ⟨_, rfl⟩
    rw [← hsw, ← hcy] at hadd
    have HI := Lib.hid (show words (pre ++ [x]).length (dF (pre ++ [x])) = words pre.length (dF pre) ++ [sw] by rw [List.length_append, List.length_singleton, words_rest_snoc, hsw])
    have HC := Lib.hid (show bF (pre ++ [x]) = cy by rw [bF_snoc, hcy])
    have HL := Lib.hid (show (pre ++ [x]).length = pre.length + 1 by simp)
    clear hsw hcy hEs
    have hWs := hMid.below.size
    gi_wp2
    refine ⟨trivial, ?_⟩
    clear hadd
    gi_wp2_with (gi_at_builtin; refine wpListIn_append_fits _ rfl _ _ 23 rfl w.heap.size 24 i0 1 Try.underlying23 hi hz1 w.heap.size pre.length m _ rfl ((hMid.row.kept (grownBy_setCell' W (w.heap.size + 1 + 1) (.int .u64 (cy : Int))) (.inr (by simp [Value.ownBlock]; omega))).alloc _) ⟨W.heap.size, 0, none⟩ 1 1 [.int .u64 (sw : Int)] rfl rfl ?c1 ?c2 ?c3 ?_)
    case c1 => exact one_new W _ _ _ _
    case c2 => simp [Value.oneCell']
    case c3 => omega
    intro w1 hown hgrow
    obtain ⟨ho1, hM2, hk2, hp2, hb2⟩ := hMid.step hown hgrow
    have hoc1 := ho1.cell
    have hof1 := ho1.frozen
    have hsz := hMid.size
    have HF := Lib.hid (show KeepsFrom E.heap.size W (w1.setCell ⟨w.heap.size + 1, 0, none⟩ (.slice (some ⟨w.heap.size, 0, none⟩) (pre.length + 1) m)) ∧ KpP w.heap.size (w.heap.size + 1 + 1 + 1) W (w1.setCell ⟨w.heap.size + 1, 0, none⟩ (.slice (some ⟨w.heap.size, 0, none⟩) (pre.length + 1) m)) ∧ Mid w m (pre ++ [x]).length (words (pre ++ [x]).length (dF (pre ++ [x]))) (bF (pre ++ [x])) (w1.setCell ⟨w.heap.size + 1, 0, none⟩ (.slice (some ⟨w.heap.size, 0, none⟩) (pre.length + 1) m)) from
      ⟨hk2.from _, ⟨hb2, hp2 _ (by omega) (by omega), hp2 _ (by omega) (by omega)⟩, by rw [HI.out, HL.out, HC.out]; exact hM2⟩)
    clear hown hgrow hM2 hk2 hp2 hb2 ho1 hoc hof hcc hcf hMid
    gi_wp2
    exact HF.out
  case done =>
    rintro D ys W hD hys hMid hK
    have HK := Lib.hid hK
    have hlen : ys.length = m := by rw [hys, upto_length]
    have hA : sF ys = natOf a := by have := Hm.out; rw [hys, sF_upto a b ha hb m (by omega)]
    have hB : sG ys = natOf b := by have := Hm.out; rw [hys, sG_upto a b ha hb m (by omega)]
    clear hys hK
    have hoc := hMid.out.cell
    have hcc := hMid.carry.cell
    have hrow := hMid.row
    have hD2 : w.heap.size + 5 ≤ D := by have := HEs.out; omega
    have hDW := (Array.getElem?_eq_some_iff.1 HK.out).1
    have HB := Lib.hid (show Below w.heap.size w (W.putObj D (.deferred none)) from hMid.below.trans (belowK_b (w := w) (Nat.le_refl _) W D _ _ (by omega) HK.out rfl rfl))
    rw [hlen] at hoc hrow
    by_cases hlt : natOf a < natOf b
    · have hb1 : bF ys = 1 := by unfold bF; rw [hA, hB, if_pos hlt]
      rw [hb1] at hcc
      clear hEs hMid hlen hA hB hb1 hrow
      gi_wp2
      refine ⟨by simp, .inl ⟨_, _, rfl, run_takeDeferred HK.out, ?_⟩⟩
      exact ⟨_, results_tmp2 (t := 4) (u := 5) rfl _ _ _, (fun h => absurd h (by omega)), (fun _ => ⟨none, 0, rfl⟩), HB.out⟩
    · have hb1 : bF ys = 0 := by unfold bF; rw [hA, hB, if_neg hlt]
      rw [hb1] at hcc
      have e1 := words_rest_end ys (by omega)
      rw [hlen, hA, hB] at e1
      have hN : natOf a - natOf b < 18446744073709551616 ^ m := by
        have h1 := sF_lt ys
        rw [hlen, hA] at h1
        omega
      rw [e1] at hrow
      have HT := Lib.hid (trim_own W w.heap.size m m _ _ hrow hN (by omega) (Nat.le_refl _))
      have HP := Lib.hid (ownsRow_putObj (own_trim hrow hN) (.deferred none) HK.out rfl)
      clear hEs hMid hlen hA hB hb1 hrow e1 hN
      gi_wp2
      refine ⟨trivial, ?_⟩
      refine (callsIn_wide.2 HT.out).mono ?_
      rintro e w' ⟨rfl, rfl⟩
      gi_wp2
      refine ⟨by simp, .inl ⟨_, _, rfl, run_takeDeferred HK.out, ?_⟩⟩
      exact ⟨_, results_tmp2 (t := 4) (u := 5) rfl _ _ _, (fun _ => ⟨_, rfl, HP.out⟩), (fun h => absurd h hlt), HB.out⟩
  case stop =>
    rintro D c pre W _ _ h _
    exact h.elim

theorem sub_pf (A A2 : Option Addr) (c c2 : Nat) (a b : List Nat) (w : World) (hr : Rd .u64 w w.heap.size A a) (hw : Words a) (hl : a.length ≤ 100000) (hc : a.length ≤ c) (hr2 : Rd .u64 w w.heap.size A2 b) (hw2 : Words b) (hl2 : b.length ≤ 100000) (hc2 : b.length ≤ c2) :
    Calls Try.prog 22 #[.slice A a.length c, .slice A2 b.length c2] w (OutSub (natOf a) (natOf b) w) := by
  obtain ⟨t1, r1, l1, _⟩ := trimmed_wd A c a w hr hw hl hc
  obtain ⟨t2, r2, l2, _⟩ := trimmed_wd A2 c2 b w hr2 hw2 hl2 hc2
  have h := sub_core A A2 a.length b.length c c2 (wd (natOf a)) (wd (natOf b)) (wd_words _) (wd_words _) l1 l2 w r1 r2 (Lib.hid t1) (Lib.hid t2)
  rwa [natOf_wd, natOf_wd] at h
end Go.Proofs.Ytjimnepjheppgaa

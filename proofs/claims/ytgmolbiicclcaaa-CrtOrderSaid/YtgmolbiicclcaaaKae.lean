/- Several texts in one; each begins with a remark that says what it shows and on which conditions. -/
import Derived.Test.YtgmolbiicclcaaaKad
import Derived.RangeFuncNested
import Derived.RangeFuncBound
import Derived.RangeFuncCalls
import Derived.RangeFuncLeaves
import Derived.RangeFuncBox
import Derived.Shelf.Abstract
import Derived.Shelf.RegionOpen
import Derived.OwnWalkIn
import Derived.TacticsInMore
import Derived.LoopNIn
import Derived.LoopIn
import Derived.Maps.AppendAt
import Derived.Shelf.Spec.BitsCarry
/- nat.pairs: the iterator over two numbers' words, as what a loop over it may rely on. Conditions: as typed. -/
namespace Go.Proofs.Ytgmolbiicclcaaa
open Go.RowKit Go.Shelf
set_option maxRecDepth 20000
attribute [local go_sem] Oper.semAt_some
/-- Two words. -/
abbrev WP := { p : Nat × Nat // p.1 < 18446744073709551616 ∧ p.2 < 18446744073709551616 }
def pairAt (a b : List Nat) (ha : Words a) (hb : Words b) (j : Nat) : WP := ⟨(nth a j, nth b j), nth_lt a ha j, nth_lt b hb j⟩
/-- What has come when k rounds are over. -/
def upto {α : Type} (f : Nat → α) (k : Nat) : List α := (List.range k).map f
theorem upto_succ {α : Type} (f : Nat → α) (k : Nat) : upto f (k + 1) = upto f k ++ [f k] := by simp [upto, List.range_succ]
theorem upto_length {α : Type} (f : Nat → α) (k : Nat) : (upto f k).length = k := by simp [upto]
theorem upto_map {α β : Type} (f : Nat → α) (g : α → β) (k : Nat) : (upto f k).map g = (List.range k).map fun j => g (f j) := by simp [upto]
/-- What a round keeps: all that lay below n₀, and the two boxes of the iterator. -/
def KpP (n₀ p : Nat) (W W' : World) : Prop := Below n₀ W W' ∧ W'.heap[p]? = W.heap[p]? ∧ W'.heap[p + 1]? = W.heap[p + 1]?
theorem KpP.t {n₀ p : Nat} {A B C : World} (h : KpP n₀ p A B) (k : KpP n₀ p B C) : KpP n₀ p A C := ⟨h.1.trans k.1, k.2.1.trans h.2.1, k.2.2.trans h.2.2⟩
theorem KpP.b {n₀ p : Nat} {w : World} (hn : n₀ ≤ w.heap.size) (hp : p + 2 ≤ w.heap.size) (W : World) (l : Nat) (o o' : Obj) (hl : w.heap.size ≤ l) (h : W.heap[l]? = some o) (h1 : o.isCells = false) (h2 : o.isWalk = false) : KpP n₀ p W (W.putObj l o') := by
  have hg := grownBy_putObj' W l o'
  have hlt := (Array.getElem?_eq_some_iff.1 h).1
  exact ⟨belowK_b hn W l o o' hl h h1 h2, hg.block p (by omega) (by simp; omega), hg.block (p + 1) (by omega) (by simp; omega)⟩
/-- What a round has said, by one word. -/
structure Said (bb : Bool) (Y N : Prop) : Prop where
  yes : bb = true → Y
  no : bb = false → N
theorem yieldSays {e : Ending} {Y1 Y2 N : Prop} (h : (e = .returned (.bool true) ∧ Y1 ∧ Y2) ∨ (e = .returned (.bool false) ∧ N)) : ∃ bb, e = .returned (.bool bb) ∧ Said bb (Y1 ∧ Y2) N := by
  rcases h with ⟨he, h1, h2⟩ | ⟨he, h3⟩
  · exact ⟨true, he, ⟨fun _ => ⟨h1, h2⟩, (fun h => by cases h)⟩⟩
  · exact ⟨false, he, ⟨(fun h => by cases h), fun _ => h3⟩⟩
theorem kpP_drew (n₀ p : Nat) (w : World) : KpP n₀ p w w.drew := ⟨(Drawn.more 1).below n₀, rfl, rfl⟩
theorem Drawn.grown (w : World) (n : Nat) : w.grownBy (w.drewN n) none := ⟨rfl, rfl, rfl, Nat.le_refl _, fun _ _ _ => rfl⟩
set_option maxRecDepth 100000 in
set_option maxHeartbeats 2000000 in
theorem pairs1_in (n : Nat) (hn : 1 ≤ n) (l p n₀ : Nat) (A A2 : Option Addr) (a b : List Nat) (ha : Words a) (hb : Words b) (c c2 m : Nat) (hla : a.length ≤ 1000000) (hlb : b.length ≤ 1000000) (hm : Hid (m = max a.length b.length)) (J Jx : List WP → World → Prop) (W : World) (hJ : AbidesFrom W.heap.size J)
    (hY : ∀ pre x W, J pre W → pre.length < m → YieldAt Fence.wide (n - 1) Try.prog l #[.int .u64 (x.1.1 : Int), .int .u64 (x.1.2 : Int)] W fun e W' =>
      (e = .returned (.bool true) ∧ J (pre ++ [x]) W' ∧ KpP n₀ p W W') ∨ (e = .returned (.bool false) ∧ Jx (pre ++ [x]) W'))
    (hp : Boxed W p 28 (.slice A a.length c)) (hq : Boxed W (p + 1) 28 (.slice A2 b.length c2)) (hra : Rd .u64 W n₀ A a) (hrb : Rd .u64 W n₀ A2 b) (h0 : J [] W) :
    CallsIn Fence.wide n Try.prog 55 #[.func (.yield l) #[] #[], .pointer (some ⟨p, 0, none⟩), .pointer (some ⟨p + 1, 0, none⟩)] W fun e W' => (∃ v, e = .returned v) ∧
      ((∃ ys, ys = upto (pairAt a b ha hb) m ∧ J ys W') ∨ (∃ pre, (∃ k, k ≤ m ∧ pre = upto (pairAt a b ha hb) k) ∧ Jx pre W')) := by
  have hpc := hp.cell
  have hqc := hq.cell
  refine callsIn_of_wp Try.func55 rfl trivial ?_ rfl
  simp only [Try.ntmps55, List.size_toArray, List.length_cons, List.length_nil, Nat.reduceAdd, Nat.reduceSub, Array.replicate_succ, Array.replicate_zero, List.push_toArray, List.append_toArray, List.nil_append, List.cons_append]
  gi_wp2
  have HM := hm.out
  rw [show max (a.length : Int) (b.length : Int) = (m : Int) by omega]
  clear HM
  gi_loopw [10] (fun i wr => ∃ k : Nat, k ≤ m ∧ i = .int .i64 k ∧ J (upto (pairAt a b ha hb) k) wr ∧ KpP n₀ p W wr) (fun i _ => m - (intOf i).toNat)
  case atStart => exact ⟨0, Nat.zero_le _, rfl, h0, Below.refl _ _, rfl, rfl⟩
  case round =>
    obtain ⟨k, hk, rfl, hJs, hkp⟩ := hrel
    by_cases hlt : k < m
    · have hm2 : m ≤ 1000000 := by have := hm.out; omega
      have hp1 : Boxed wr p 28 (.slice A a.length c) := hkp.2.1.trans hp
      have hq1 : Boxed wr (p + 1) 28 (.slice A2 b.length c2) := hkp.2.2.trans hq
      have hpc1 := hp1.cell
      have hqc1 := hq1.cell
      have hra1 := hra.below hkp.1
      have hrb1 := hrb.below hkp.1
      have hY1 := hY (upto (pairAt a b ha hb) k) (pairAt a b ha hb k)
      rw [show (pairAt a b ha hb k).1.1 = wordS a (k : Int) from (wordS_nat a k).symm, show (pairAt a b ha hb k).1.2 = wordS b (k : Int) from (wordS_nat b k).symm] at hY1
      obtain ⟨fn, tmps, assign, body, hy, hR⟩ := hY1 wr.drew (hJ _ _ _ none hJs (Drawn.grown wr 1) (fun r e => by cases e)) (by rw [upto_length]; exact hlt)
      have hmx : Try.prog.follows .mixedOrders = true := by kernel_rfl
      clear hpc hqc
      gi_wp2
      gi_region_with_o (first
        | (refine ⟨trivial, ?_⟩; gi_at_call 56; refine (callsIn_wide.2 (word_any _ _ _ _ _ n₀ (by first | exact hra1 | exact hrb1) (by omega))).mono ?_; rintro e w' ⟨rfl, rfl⟩)
        | (refine hR.mono ?_; rintro e W3 hpost; obtain ⟨bb, rfl, hbb⟩ := yieldSays hpost; clear hpost))
      all_goals
        cases bb
        · have hJ3 := hbb.no rfl
          clear hbb
          gi_wp2
          refine bodyPost_ret (results_none rfl _ _ _) rfl ?_
          exact ⟨⟨_, rfl⟩, .inr ⟨_, ⟨k + 1, by omega, (upto_succ _ _).symm⟩, hJ3⟩⟩
        · have hJ3 := (hbb.yes rfl).1
          have hk3 := (hbb.yes rfl).2
          clear hbb
          gi_wp2
          go_roundw
          case rel => exact ⟨k + 1, by omega, by go_num, by rw [upto_succ]; exact hJ3, hkp.t (KpP.t (kpP_drew n₀ p wr) hk3)⟩
          case measure => simp [intOf]; omega
    · obtain rfl : k = m := by omega
      gi_wp2
      go_end0
      exact ⟨⟨_, rfl⟩, .inl ⟨_, rfl, hJs⟩⟩
set_option maxHeartbeats 1000000 in
theorem pairs_in (n : Nat) (A A2 : Option Addr) (na nb c c2 : Nat) (w : World) :
    CallsIn Fence.wide n Try.prog 36 #[.slice A na c, .slice A2 nb c2] w fun e w' =>
      e = .returned (.func (.func 55) #[] #[.pointer (some ⟨w.heap.size, 0, none⟩), .pointer (some ⟨w.heap.size + 1, 0, none⟩)]) ∧ (w.alloc (.cells #[.slice A na c] 28)).alloc (.cells #[.slice A2 nb c2] 28) = w' := by
  refine callsIn_of_wp Try.func36 rfl trivial ?_ rfl
  simp only [Try.ntmps36, List.size_toArray, List.length_cons, List.length_nil, Nat.reduceAdd, Nat.reduceSub, Array.replicate_succ, Array.replicate_zero, List.push_toArray, List.append_toArray, List.nil_append, List.cons_append]
  gi_wp2
  go_ret
  exact ⟨rfl, rfl⟩
/-- The two numbers' words, one after another, as far as the longer one goes; or a part of them. -/
theorem pairs_stops (n : Nat) (hn : 1 ≤ n) (p n₀ : Nat) (A A2 : Option Addr) (a b : List Nat) (ha : Words a) (hb : Words b) (c c2 m : Nat) (hla : a.length ≤ 1000000) (hlb : b.length ≤ 1000000) (hm : m = max a.length b.length)
    (w : World) (hp : Boxed w p 28 (.slice A a.length c)) (hq : Boxed w (p + 1) 28 (.slice A2 b.length c2)) (hn₀ : n₀ ≤ w.heap.size) (hra : Rd .u64 w n₀ A a) (hrb : Rd .u64 w n₀ A2 b) :
    SeqStopsK Fence.wide n Try.prog 55 #[.pointer (some ⟨p, 0, none⟩), .pointer (some ⟨p + 1, 0, none⟩)] (fun x : WP => #[Value.int .u64 (x.1.1 : Int), Value.int .u64 (x.1.2 : Int)]) (KpP n₀ p)
      (fun ys => ys = upto (pairAt a b ha hb) m) (fun pre => ∃ k, k ≤ m ∧ pre = upto (pairAt a b ha hb) k) m w := fun l J Jx W hW hJ _ hY h0 =>
  pairs1_in n hn l p n₀ A A2 a b ha hb c c2 m hla hlb (Lib.hid hm) J Jx W hJ hY ((hW.block p hp.lt).trans hp) ((hW.block (p + 1) hq.lt).trans hq) (hra.below (hW.mono hn₀)) (hrb.below (hW.mono hn₀)) h0
end Go.Proofs.Ytgmolbiicclcaaa
/- nat.Add: the sum, in new memory. Conditions: as typed (lengths that fit a machine). -/
namespace Go.Proofs.Ytgmolbiicclcaaa
open Go.RowKit Go.Shelf
set_option maxRecDepth 20000
attribute [local go_sem] Oper.semAt_some
def sF (pre : List WP) : Nat := natOf (pre.map fun x => x.1.1)
def sG (pre : List WP) : Nat := natOf (pre.map fun x => x.1.2)
theorem natOf_snoc (l : List Nat) (x : Nat) : natOf (l ++ [x]) = natOf l + 18446744073709551616 ^ l.length * x := by
  rw [natOf_append]
  simp [natOf]
theorem sF_snoc (pre : List WP) (x : WP) : sF (pre ++ [x]) = sF pre + 18446744073709551616 ^ pre.length * x.1.1 := by
  unfold sF
  rw [List.map_append, List.map_singleton, natOf_snoc, List.length_map]
theorem sG_snoc (pre : List WP) (x : WP) : sG (pre ++ [x]) = sG pre + 18446744073709551616 ^ pre.length * x.1.2 := by
  unfold sG
  rw [List.map_append, List.map_singleton, natOf_snoc, List.length_map]
theorem sF_lt (pre : List WP) : sF pre < 18446744073709551616 ^ pre.length := by
  have := natOf_lt (pre.map fun x => x.1.1) (fun y hy => by obtain ⟨x, _, rfl⟩ := List.mem_map.1 hy; exact x.2.1)
  rwa [List.length_map] at this
theorem sG_lt (pre : List WP) : sG pre < 18446744073709551616 ^ pre.length := by
  have := natOf_lt (pre.map fun x => x.1.2) (fun y hy => by obtain ⟨x, _, rfl⟩ := List.mem_map.1 hy; exact x.2.2)
  rwa [List.length_map] at this
theorem nth_range (f : Nat → Nat) (m j : Nat) : nth ((List.range m).map f) j = if j < m then f j else 0 := by
  unfold nth
  rw [List.getD_eq_getElem?_getD, List.getElem?_map]
  by_cases h : j < m
  · rw [if_pos h, List.getElem?_range h]; rfl
  · rw [if_neg h, List.getElem?_eq_none (by simp; omega)]; rfl
theorem nth_past (a : List Nat) (j : Nat) (h : a.length ≤ j) : nth a j = 0 := by simp [nth, List.getElem?_eq_none h]
theorem natOf_range (a : List Nat) (m : Nat) (h : a.length ≤ m) : natOf ((List.range m).map (nth a)) = natOf a := by
  refine natOf_ext _ _ fun j => ?_
  rw [nth_range]
  split
  · rfl
  · exact (nth_past a j (by omega)).symm
theorem sF_upto (a b : List Nat) (ha : Words a) (hb : Words b) (m : Nat) (h : a.length ≤ m) : sF (upto (pairAt a b ha hb) m) = natOf a := by
  unfold sF
  rw [upto_map]
  exact natOf_range a m h
theorem sG_upto (a b : List Nat) (ha : Words a) (hb : Words b) (m : Nat) (h : b.length ≤ m) : sG (upto (pairAt a b ha hb) m) = natOf b := by
  unfold sG
  rw [upto_map]
  exact natOf_range b m h
/-- The carry behind so many words. -/
def cF (pre : List WP) : Nat := (sF pre + sG pre) / 18446744073709551616 ^ pre.length
theorem cF_le (pre : List WP) : cF pre ≤ 1 := by
  have h1 := sF_lt pre
  have h2 := sG_lt pre
  have : cF pre < 2 := by unfold cF; rw [Nat.div_lt_iff_lt_mul (by omega)]; omega
  omega
theorem words_low (k S t : Nat) : words k (S + 18446744073709551616 ^ k * t) = words k S := by
  refine ext_nth _ _ (by simp [length_words]) fun j hj => ?_
  rw [length_words] at hj
  rw [nth_words _ _ _ hj, nth_words _ _ _ hj]
  obtain ⟨d, rfl⟩ : ∃ d, k = j + 1 + d := ⟨k - (j + 1), by omega⟩
  rw [Nat.pow_add, Nat.pow_succ, Nat.mul_assoc, Nat.mul_assoc, Nat.add_mul_div_left _ _ (Nat.pow_pos (by omega)), Nat.add_mul_mod_self_left]
theorem sum_snoc (pre : List WP) (x : WP) : sF (pre ++ [x]) + sG (pre ++ [x]) = (sF pre + sG pre) + 18446744073709551616 ^ pre.length * (x.1.1 + x.1.2) := by
  rw [sF_snoc, sG_snoc, Nat.mul_add]
  omega
theorem cF_snoc (pre : List WP) (x : WP) : cF (pre ++ [x]) = (x.1.1 + x.1.2 + cF pre) / 18446744073709551616 := by
  unfold cF
  rw [sum_snoc, List.length_append, List.length_singleton, Nat.pow_succ, ← Nat.div_div_eq_div_mul, Nat.add_mul_div_left _ _ (Nat.pow_pos (by omega))]
  congr 1
  omega
theorem words_sum_snoc (pre : List WP) (x : WP) : words (pre.length + 1) (sF (pre ++ [x]) + sG (pre ++ [x])) = words pre.length (sF pre + sG pre) ++ [(x.1.1 + x.1.2 + cF pre) % 18446744073709551616] := by
  rw [words_snoc, sum_snoc, words_low, Nat.add_mul_div_left _ _ (Nat.pow_pos (by omega))]
  congr 3
  unfold cF
  omega
theorem words_sum_end (pre : List WP) : words pre.length (sF pre + sG pre) ++ [cF pre] = words (pre.length + 1) (sF pre + sG pre) := by
  have := cF_le pre
  rw [words_snoc, show (sF pre + sG pre) / 18446744073709551616 ^ pre.length = cF pre from rfl, Nat.mod_eq_of_lt (by omega)]
theorem cF_nil : cF [] = 0 := by simp [cF, sF, sG, natOf]
theorem add64_run (x y c : Nat) (hc : c ≤ 1) (w : World) :
    (callFunc 38 #[.int .u64 x, .int .u64 y, .int .u64 c]).run Try.prog w =
      .ok (.value (.tuple #[.int .u64 (((x + y + c) % 18446744073709551616 : Nat) : Int), .int .u64 (((x + y + c) / 18446744073709551616 : Nat) : Int)])) w := by
  rw [run_callFunc_extern Try.func38 (by kernel_rfl) (by kernel_rfl) (by kernel_rfl) (e := add64Entry) (by kernel_rfl), run_add64 x y c (by omega) (by omega) (by omega) (by omega)]
  simp only [Result.andThen]
  congr 5 <;> omega
theorem make_words (m : Nat) (u : World) (hm : m ≤ 1000000) : (Instr.makeSlice 28 (.int .i64 0) (.int .i64 (m : Int))).run Try.prog u =
      .ok (.slice (some ⟨u.heap.size, 0, none⟩) 0 m) (u.alloc (.cells (List.replicate m (Value.int .u64 0)).toArray 24)) := by
  obtain ⟨i0, hi, hz0, hz1, hz2⟩ := info_parts num_info_u64
  have h := run_make (P := Try.prog) u 28 24 i0 (.int .u64 0) Try.underlying28 hi hz0 .i64 .i64 (0 : Int) (m : Int) (by omega) (by omega) (by rw [hz2]; omega) (by omega)
  rw [Int.toNat_natCast, hz1, Nat.mul_one] at h
  rw [h, ← toList_madeCells_one]
  rfl
/-- The memory in which the loop begins: a row with room, three boxes more, and the iterator's two. -/
def startW (w : World) (m : Nat) (va vb : Value) : World :=
  ((((w.alloc (.cells (Array.replicate m (.int .u64 0)) 24)).alloc (.cells #[.slice (some ⟨w.heap.size, 0, none⟩) 0 m] 28)).alloc (.cells #[.int .u64 0] 24)).alloc (.cells #[va] 28)).alloc (.cells #[vb] 28)
structure Starts (w E : World) (m : Nat) (va vb : Value) : Prop where
  size : E.heap.size = w.heap.size + 5
  row : E.ownsRow w.heap.size 24 1 (.slice (some ⟨w.heap.size, 0, none⟩) 0 m) 0 []
  out : Boxed E (w.heap.size + 1) 28 (.slice (some ⟨w.heap.size, 0, none⟩) 0 m)
  carry : Boxed E (w.heap.size + 1 + 1) 24 (.int .u64 0)
  va : Boxed E (w.heap.size + 1 + 1 + 1) 28 va
  vb : Boxed E (w.heap.size + 1 + 1 + 1 + 1) 28 vb
  below : Below w.heap.size w E
theorem starts (w : World) (m : Nat) (va vb : Value) (hm : m ≤ maxLen) : Starts w (startW w m va vb) m va vb where
  size := by simp [startW]
  row := by
    have h := own_of_heap (w := w.alloc (.cells (Array.replicate m (.int .u64 0)) 24)) (base := w.heap.size) (n := 0) (cap := m) (cur := List.replicate m (.int .u64 0)) (xs := []) (by have h := heap_alloc_new w (.cells (Array.replicate m (.int .u64 0)) 24); simpa using h) (Nat.le_refl _) (Nat.zero_le _) hm (by simp) (by simp)
    exact (((h.alloc _).alloc _).alloc _).alloc _
  out := by
    have h := Boxed.new (w.alloc (.cells (Array.replicate m (.int .u64 0)) 24)) 28 (.slice (some ⟨w.heap.size, 0, none⟩) 0 m)
    rw [World.size_alloc] at h
    exact ((h.alloc _).alloc _).alloc _
  carry := by
    have h := Boxed.new ((w.alloc (.cells (Array.replicate m (.int .u64 0)) 24)).alloc (.cells #[.slice (some ⟨w.heap.size, 0, none⟩) 0 m] 28)) 24 (.int .u64 0)
    rw [World.size_alloc, World.size_alloc] at h
    exact (h.alloc _).alloc _
  va := by
    have h := Boxed.new (((w.alloc (.cells (Array.replicate m (.int .u64 0)) 24)).alloc (.cells #[.slice (some ⟨w.heap.size, 0, none⟩) 0 m] 28)).alloc (.cells #[.int .u64 0] 24)) 28 va
    rw [World.size_alloc, World.size_alloc, World.size_alloc] at h
    exact h.alloc _
  vb := by
    have h := Boxed.new ((((w.alloc (.cells (Array.replicate m (.int .u64 0)) 24)).alloc (.cells #[.slice (some ⟨w.heap.size, 0, none⟩) 0 m] 28)).alloc (.cells #[.int .u64 0] 24)).alloc (.cells #[va] 28)) 28 vb
    rw [World.size_alloc, World.size_alloc, World.size_alloc, World.size_alloc] at h
    exact h
  below := (((((Below.refl _ _).alloc (Nat.le_refl _) _).alloc (by simp) _).alloc (by simp; omega) _).alloc (by simp; omega) _).alloc (by simp; omega) _
theorem one_new (W : World) (p : Addr) (v u0 : Value) (t : TypeId) : ∀ j u, [u0][j]? = some u → ((W.setCell p v).alloc (.cells #[u0] t)).cell? ((⟨W.heap.size, 0, none⟩ : Addr).add j) = some u := by
  have h := cell_one_new (W.setCell p v) u0 t
  rw [show (W.setCell p v).heap.size = W.heap.size by simp [World.setCell]] at h
  exact h
/-- The first of what a row owns. -/
theorem own_take {w : World} {base e m n c : Nat} {A : Option Addr} {xs : List Value} (h : w.ownsRow base e 1 (.slice A n c) n xs) (hm : m ≤ n) : w.ownsRow base e 1 (.slice A m c) m (xs.take m) := by
  have hl := h.1
  refine ⟨by rw [List.length_take]; omega, ?_⟩
  rcases h.2 with ⟨hv, h0⟩ | ⟨g, cap, cur, hv, h1, h2, h3, h4, h5, h6⟩
  · injection hv with hA _ hc
    subst hA
    subst hc
    exact .inl ⟨by rw [show m = 0 by omega], by omega⟩
  · injection hv with hA _ hc
    subst hA
    subst hc
    refine .inr ⟨g, c, cur, rfl, h1, h2, by omega, h4, h5, ?_⟩
    rw [← h6, List.take_take, Nat.min_eq_left (by omega), Nat.mul_one]
/-- What trimmed answers of a row of the call's own. -/
theorem own_trim {w : World} {base c k N : Nat} {A : Option Addr} (h : w.ownsRow base 24 1 (.slice A k c) k (ints .u64 (words k N))) (hN : N < 18446744073709551616 ^ k) :
    w.ownsRow base 24 1 (.slice A ((nbits N + 63) / 64) c) ((nbits N + 63) / 64) (ints .u64 (wd N)) := by
  have e := tl_words k N hN
  have h1 := tl_le (words k N) (words_words _ _)
  rw [length_words, e] at h1
  have h2 := own_take h h1
  have e2 : (ints .u64 (words k N)).take ((nbits N + 63) / 64) = ints .u64 (wd N) := by
    rw [ints, ← List.map_take, ← e, take_wd _ (words_words _ _), natOf_words, Nat.mod_eq_of_lt hN]
    rfl
  rwa [e2] at h2
theorem trim_own (w : World) (base c k N : Nat) (A : Option Addr) (h : w.ownsRow base 24 1 (.slice A k c) k (ints .u64 (words k N))) (hN : N < 18446744073709551616 ^ k) (hk : k ≤ 1000000) (hc : k ≤ c) :
    Calls Try.prog 27 #[.slice A k c] w fun e w' => e = .returned (.slice A ((nbits N + 63) / 64) c) ∧ w = w' := by
  have T := trimmed_any A c (words k N) w w.heap.size (Rd.own h) (words_words _ _) (by rw [length_words]; exact hk) (by rw [length_words]; exact hc)
  rwa [length_words, tl_words k N hN] at T
/-- Between two rounds: so many words are made, and what is carried. -/
structure Mid (w : World) (m k : Nat) (ws : List Nat) (cy : Nat) (W : World) : Prop where
  row : W.ownsRow w.heap.size 24 1 (.slice (some ⟨w.heap.size, 0, none⟩) k m) k (ints .u64 ws)
  out : Boxed W (w.heap.size + 1) 28 (.slice (some ⟨w.heap.size, 0, none⟩) k m)
  carry : Boxed W (w.heap.size + 1 + 1) 24 (.int .u64 (cy : Int))
  below : Below w.heap.size w W
  size : w.heap.size + 5 ≤ W.heap.size
theorem Mid.kept {w W W' : World} {m k cy : Nat} {ws : List Nat} {row : Option Nat} (h : Mid w m k ws cy W) (hg : W.grownBy W' row) (hr : ∀ r, row = some r → w.heap.size + 5 ≤ r) : Mid w m k ws cy W' where
  row := h.row.kept hg (.inr (by intro e; have := hr _ e.symm; dsimp only at this; omega))
  out := h.out.kept hg (by intro e; have := hr _ e.symm; omega)
  carry := h.carry.kept hg (by intro e; have := hr _ e.symm; omega)
  below := h.below.grown hg h.below.size (fun k e => by have := hr k e; omega)
  size := Nat.le_trans h.size hg.size
/-- The carry is stored, and one word is appended. -/
theorem Mid.step {w W w1 : World} {m k cy cy' x : Nat} {ws : List Nat} {tmp : Obj} (h : Mid w m k ws cy W)
    (hown : w1.ownsRow w.heap.size 24 1 (.slice (some ⟨w.heap.size, 0, none⟩) (k + 1) m) (k + 1) (ints .u64 ws ++ [.int .u64 (x : Int)]))
    (hg : ((W.setCell ⟨w.heap.size + 1 + 1, 0, none⟩ (.int .u64 (cy' : Int))).alloc tmp).grownBy w1 (some w.heap.size)) :
    Boxed w1 (w.heap.size + 1) 28 (.slice (some ⟨w.heap.size, 0, none⟩) k m) ∧
    Mid w m (k + 1) (ws ++ [x]) cy' (w1.setCell ⟨w.heap.size + 1, 0, none⟩ (.slice (some ⟨w.heap.size, 0, none⟩) (k + 1) m)) ∧
    KeepsOthers W (w1.setCell ⟨w.heap.size + 1, 0, none⟩ (.slice (some ⟨w.heap.size, 0, none⟩) (k + 1) m)) ∧
    (∀ p, p < W.heap.size → w.heap.size + 3 ≤ p → (w1.setCell ⟨w.heap.size + 1, 0, none⟩ (.slice (some ⟨w.heap.size, 0, none⟩) (k + 1) m)).heap[p]? = W.heap[p]?) ∧
    Below w.heap.size W (w1.setCell ⟨w.heap.size + 1, 0, none⟩ (.slice (some ⟨w.heap.size, 0, none⟩) (k + 1) m)) := by
  have g1 := grownBy_setCell' W (w.heap.size + 1 + 1) (.int .u64 (cy' : Int))
  have g2 := grownBy_setCell' w1 (w.heap.size + 1) (.slice (some ⟨w.heap.size, 0, none⟩) (k + 1) m)
  have o1 := ((h.out.kept g1 (by simp)).alloc tmp).kept hg (by simp)
  have c1 := ((h.carry.set (.int .u64 (cy' : Int))).alloc tmp).kept hg (by simp; omega)
  have hW := h.below.size
  have hs1 : W.heap.size = (W.setCell ⟨w.heap.size + 1 + 1, 0, none⟩ (.int .u64 (cy' : Int))).heap.size := by simp [World.setCell]
  have hrow1 := (h.row.kept g1 (.inr (by simp [Value.ownBlock]; omega))).alloc tmp
  have hb : Below w.heap.size W (w1.setCell ⟨w.heap.size + 1, 0, none⟩ (.slice (some ⟨w.heap.size, 0, none⟩) (k + 1) m)) :=
    (((((Below.refl _ W).setCell (p := ⟨w.heap.size + 1 + 1, 0, none⟩) (by simp; omega) _).alloc (by rw [← hs1]; exact hW) tmp).grown hg (by rw [World.size_alloc, ← hs1]; omega) (fun q e => by cases e; exact Nat.le_refl _))).setCell (p := ⟨w.heap.size + 1, 0, none⟩) (by simp) _
  refine ⟨o1, ⟨?_, o1.set _, c1.kept g2 (by simp), h.below.trans hb, Nat.le_trans h.size hb.size⟩, ?_, ?_, hb⟩
  · rw [ints_append]
    exact hown.kept g2 (.inr (by simp [Value.ownBlock]))
  · refine ((KeepsOthers.setCell W _ _).trans ((KeepsOthers.alloc _ tmp).trans (KeepsOthers.of_grownBy hg fun j o ej hj => ?_))).trans (KeepsOthers.setCell _ _ _)
    obtain rfl : w.heap.size = j := by simpa using ej
    rcases hrow1.2 with ⟨hv, _⟩ | ⟨g, cap, cur, hv, _, hgb, _⟩
    · cases hv
    · injection hv with hv _ _
      injection hv with hv
      injection hv with hv _ _
      subst hv
      rw [hgb] at hj
      cases hj
      rfl
  · intro p hp hp3
    rw [g2.block p (by have := hg.size; rw [World.size_alloc, ← hs1] at this; omega) (by simp; omega), hg.block p (by rw [World.size_alloc, ← hs1]; omega) (by simp; omega), Below.heap_alloc _ _ _ (by rw [← hs1]; exact hp)]
    exact g1.block p hp (by simp; omega)
set_option maxRecDepth 100000 in
set_option maxHeartbeats 2000000 in
theorem add_core (A A2 : Option Addr) (n0 n1 c c2 : Nat) (a b : List Nat) (ha : Words a) (hb : Words b) (hla : a.length ≤ 100000) (hlb : b.length ≤ 100000) (w : World) (hra : Rd .u64 w w.heap.size A a) (hrb : Rd .u64 w w.heap.size A2 b)
    (T1 : Hid (Calls Try.prog 27 #[.slice A n0 c] w fun e w' => e = .returned (.slice A a.length c) ∧ w = w'))
    (T2 : Hid (Calls Try.prog 27 #[.slice A2 n1 c2] w fun e w' => e = .returned (.slice A2 b.length c2) ∧ w = w')) :
    Calls Try.prog 26 #[.slice A n0 c, .slice A2 n1 c2] w (OutNat (natOf a + natOf b) w) := by
  obtain ⟨m, hm⟩ : ∃ m, m = max a.length b.length := ⟨_, rfl⟩
  have hm2 : m ≤ 100000 := by omega
  have HM := Lib.hid (show max (a.length : Int) (b.length : Int) + 1 = ((m + 1 : Nat) : Int) by omega)
  have Hm := Lib.hid hm
  clear hm
  refine (callsIn_wide (n := 9)).1 ?_
  refine callsIn_of_wp_marks Try.func26 rfl trivial ?_ rfl
  simp only [Try.ntmps26, List.size_toArray, List.length_cons, List.length_nil, Nat.reduceAdd, Nat.reduceSub, Array.replicate_succ, Array.replicate_zero, List.push_toArray, List.append_toArray, List.nil_append, List.cons_append]
  have hmk : ∀ u : World, (Instr.makeSlice 28 (.int .i64 0) (.int .i64 (max (a.length : Int) (b.length : Int) + 1))).run Try.prog u =
      .ok (.slice (some ⟨u.heap.size, 0, none⟩) 0 (m + 1)) (u.alloc (.cells (List.replicate (m + 1) (Value.int .u64 0)).toArray 24)) := fun u => by
    rw [HM.out]
    exact make_words (m + 1) u (by omega)
  have hx0 : 0 ≤ max (a.length : Int) (b.length : Int) := by omega
  have hx1 : max (a.length : Int) (b.length : Int) ≤ 100000 := by omega
  gi_wp2
  refine ⟨trivial, ?_⟩
  refine (callsIn_wide.2 T1.out).mono ?_
  rintro e w' ⟨rfl, rfl⟩
  gi_wp2
  refine ⟨trivial, ?_⟩
  refine (callsIn_wide.2 T2.out).mono ?_
  rintro e w' ⟨rfl, rfl⟩
  gi_wp2
  refine ⟨trivial, ?_⟩
  refine (pairs_in _ _ _ _ _ _ _ _).mono ?_
  rintro e w' ⟨rfl, rfl⟩
  have F := starts w (m + 1) (.slice A a.length c) (.slice A2 b.length c2) (by unfold maxLen; omega)
  obtain ⟨E, hE⟩ : ∃ E, startW w (m + 1) (.slice A a.length c) (.slice A2 b.length c2) = E := ⟨_, rfl⟩
  rw [hE] at F
  unfold startW at hE
  clear hmk
  gi_wp2
  clear hE
  obtain ⟨i0, hi, hz0, hz1, hz2⟩ := info_parts num_info_u64
  have hEs := F.size
  have HEs := Lib.hid hEs
  refine wpIn_rangeFunc_ownG rfl (by omega) (gf := 55) (lb := #[.pointer (some ⟨w.heap.size + 1 + 1 + 1, 0, none⟩), .pointer (some ⟨w.heap.size + 1 + 1 + 1 + 1, 0, none⟩)]) rfl trivial (enters_of Try.func55 (by kernel_rfl) rfl)
    (pairs_stops 8 (by omega) (w.heap.size + 1 + 1 + 1) w.heap.size A A2 a b ha hb c c2 m (by omega) (by omega) Hm.out E F.va F.vb (by omega) (hra.below F.below) (hrb.below F.below))
    KpP.t (KpP.b (by omega) (by omega)) (Below.refl _ _) (fun _ => rfl)
    (fun pre W => Mid w (m + 1) pre.length (words pre.length (sF pre + sG pre)) (cF pre) W)
    (fun _ _ _ => False)
    (fun s X Y row hs hg hr => hs.kept hg (fun r e => by have := (hr r e).1; omega))
    (fun _ _ _ _ _ hs _ _ => hs)
    ⟨by simpa [words, ints] using F.row, F.out, by rw [cF_nil]; exact F.carry, F.below, by omega⟩
    (fun x => { tmps := #[.slice A a.length c, .slice A2 b.length c2, undef, undef, .slice none 0 0, .pointer (some ⟨w.heap.size + 1, 0, none⟩), .pointer (some ⟨w.heap.size + 1 + 1, 0, none⟩), .int .u64 (x.1.1 : Int), .int .u64 (x.1.2 : Int), .slice A n0 c,
      .slice A a.length c, .slice A2 n1 c2, .slice A2 b.length c2, .slice A a.length c, .int .i64 (a.length : Int), .slice A2 b.length c2, .int .i64 (b.length : Int), .int .i64 (max (a.length : Int) (b.length : Int)), .int .i64 (max (a.length : Int) (b.length : Int) + 1),
      .slice (some ⟨w.heap.size, 0, none⟩) 0 (m + 1), .slice A a.length c, .slice A2 b.length c2, .func (.func 55) #[] #[.pointer (some ⟨w.heap.size + 1 + 1 + 1, 0, none⟩), .pointer (some ⟨w.heap.size + 1 + 1 + 1 + 1, 0, none⟩)],
      .int .u64 (x.1.1 : Int), .int .u64 (x.1.2 : Int), undef, undef, undef, undef, undef, undef, undef, undef, undef, undef, undef, undef, undef, undef, undef, undef], defers := [] }) ?assign ?body ?done ?stop
  case assign =>
    intro l x W K hK
    gi_wp2
    exact hK
  case body =>
    rintro l pre x W hMid hlt
    have hoc := hMid.out.cell
    have hof := hMid.out.frozen
    have hcc := hMid.carry.cell
    have hcf := hMid.carry.frozen
    have hadd := add64_run x.1.1 x.1.2 (cF pre) (cF_le pre)
    obtain ⟨sw, hsw⟩ : ∃ sw, sw = (x.1.1 + x.1.2 + cF pre) % 18446744073709551616 := ⟨_, rfl⟩
    obtain ⟨cy, hcy⟩ : ∃ cy, cy = (x.1.1 + x.1.2 + cF pre) / 18446744073709551616 := ⟨_, rfl⟩
    rw [← hsw, ← hcy] at hadd
    have HI := Lib.hid (show words (pre ++ [x]).length (sF (pre ++ [x]) + sG (pre ++ [x])) = words pre.length (sF pre + sG pre) ++ [sw] by rw [List.length_append, List.length_singleton, words_sum_snoc, hsw])
    have HC := Lib.hid (show cF (pre ++ [x]) = cy by rw [cF_snoc, hcy])
    have HL := Lib.hid (show (pre ++ [x]).length = pre.length + 1 by simp)
    clear hsw hcy hEs
    have hWs := hMid.below.size
    gi_wp2
    refine ⟨trivial, ?_⟩
    clear hadd
    gi_wp2_with (gi_at_builtin; refine wpListIn_append_fits _ rfl _ _ 28 rfl w.heap.size 24 i0 1 Try.underlying28 hi hz1 w.heap.size pre.length (m + 1) _ rfl ((hMid.row.kept (grownBy_setCell' W (w.heap.size + 1 + 1) (.int .u64 (cy : Int))) (.inr (by simp [Value.ownBlock]; omega))).alloc _) ⟨W.heap.size, 0, none⟩ 1 1 [.int .u64 (sw : Int)] rfl rfl ?c1 ?c2 ?c3 ?_)
    case c1 => exact one_new W _ _ _ _
    case c2 => simp [Value.oneCell']
    case c3 => omega
    intro w1 hown hgrow
    obtain ⟨ho1, hM2, hk2, hp2, hb2⟩ := hMid.step hown hgrow
    have hoc1 := ho1.cell
    have hof1 := ho1.frozen
    have hsz := hMid.size
    have HF := Lib.hid (show KeepsFrom E.heap.size W (w1.setCell ⟨w.heap.size + 1, 0, none⟩ (.slice (some ⟨w.heap.size, 0, none⟩) (pre.length + 1) (m + 1))) ∧ KpP w.heap.size (w.heap.size + 1 + 1 + 1) W (w1.setCell ⟨w.heap.size + 1, 0, none⟩ (.slice (some ⟨w.heap.size, 0, none⟩) (pre.length + 1) (m + 1))) ∧ Mid w (m + 1) (pre ++ [x]).length (words (pre ++ [x]).length (sF (pre ++ [x]) + sG (pre ++ [x]))) (cF (pre ++ [x])) (w1.setCell ⟨w.heap.size + 1, 0, none⟩ (.slice (some ⟨w.heap.size, 0, none⟩) (pre.length + 1) (m + 1))) from
      ⟨hk2.from _, ⟨hb2, hp2 _ (by omega) (by omega), hp2 _ (by omega) (by omega)⟩, by rw [HI.out, HL.out, HC.out]; exact hM2⟩)
    clear hown hgrow hM2 hk2 hp2 hb2 ho1 hoc hof hcc hcf hMid
    gi_wp2
    exact HF.out
  case done =>
    rintro D ys W hD hys hMid hK
    have HK := Lib.hid hK
    have hys2 := Lib.hid hys
    have hlen : ys.length = m := by rw [hys, upto_length]
    have hS : sF ys + sG ys = natOf a + natOf b := by have := Hm.out; rw [hys, sF_upto a b ha hb m (by omega), sG_upto a b ha hb m (by omega)]
    clear hys hK
    have hoc := hMid.out.cell
    have hcc := hMid.carry.cell
    have hrow := hMid.row
    rw [hlen] at hoc hrow
    have HM3 := Lib.hid hMid
    have Hlen := Lib.hid hlen
    have HS := Lib.hid hS
    clear hEs hMid hlen hS
    gi_wp2_with (gi_at_builtin; refine wpListIn_append_fits _ rfl _ _ 28 rfl w.heap.size 24 i0 1 Try.underlying28 hi hz1 w.heap.size m (m + 1) _ rfl (hrow.alloc _) ⟨W.heap.size, 0, none⟩ 1 1 [.int .u64 (cF ys : Int)] rfl rfl ?c1 ?c2 ?c3 ?_)
    case c1 => exact cell_one_new _ _ _
    case c2 => simp [Value.oneCell']
    case c3 => omega
    intro w1 hown hgrow
    have e1 : ints .u64 (words m (sF ys + sG ys)) ++ [.int .u64 (cF ys : Int)] = ints .u64 (words (m + 1) (natOf a + natOf b)) := by
      have := words_sum_end ys
      rw [Hlen.out] at this
      rw [← HS.out, ← this, ints_append]
      rfl
    rw [e1] at hown
    have hN : natOf a + natOf b < 18446744073709551616 ^ (m + 1) := by
      have h1 := sF_lt ys
      have h2 := sG_lt ys
      rw [← HS.out, Nat.pow_succ]
      rw [Hlen.out] at h1 h2
      omega
    have HT := Lib.hid (trim_own w1 w.heap.size (m + 1) (m + 1) _ _ hown hN (by omega) (Nat.le_refl _))
    have hD2 : w.heap.size + 5 ≤ D := by have := HEs.out; omega
    have hDW := (Array.getElem?_eq_some_iff.1 HK.out).1
    have hK1 : w1.heap[D]? = some (.deferred (some [])) := (hgrow.block D (by simp; omega) (by simp; omega)).trans ((Below.heap_alloc W _ D hDW).trans HK.out)
    have hb1 : Below w.heap.size w w1 := HM3.out.below.trans (((Below.refl _ W).alloc (by have := HM3.out.size; omega) _).grown hgrow (by simp; have := HM3.out.size; omega) (fun q e => by cases e; exact Nat.le_refl _))
    have HP := Lib.hid (show (w1.putObj D (.deferred none)).ownsRow w.heap.size 24 1 (.slice (some ⟨w.heap.size, 0, none⟩) ((nbits (natOf a + natOf b) + 63) / 64) (m + 1)) ((nbits (natOf a + natOf b) + 63) / 64) (ints .u64 (wd (natOf a + natOf b))) ∧ Below w.heap.size w (w1.putObj D (.deferred none)) from
      ⟨ownsRow_putObj (own_trim hown hN) _ hK1 rfl, hb1.trans (belowK_b (w := w) (Nat.le_refl _) w1 D _ _ (by omega) hK1 rfl rfl)⟩)
    have HK1 := Lib.hid hK1
    clear e1 hN hown hgrow hb1 hrow hoc hcc hK1
    gi_wp2
    refine ⟨trivial, ?_⟩
    refine (callsIn_wide.2 HT.out).mono ?_
    rintro e w' ⟨rfl, rfl⟩
    gi_wp2
    refine ⟨by simp, .inl ⟨_, _, rfl, run_takeDeferred HK1.out, ?_⟩⟩
    exact ⟨_, results_tmp (t := 4) rfl _ _ _, _, rfl, HP.out.1, HP.out.2⟩
  case stop =>
    rintro D c pre W _ _ h _
    exact h.elim
/-- trimmed, in the words of the number. -/
theorem trimmed_wd (A : Option Addr) (c : Nat) (a : List Nat) (w : World) (hr : Rd .u64 w w.heap.size A a) (hw : Words a) (hl : a.length ≤ 100000) (hc : a.length ≤ c) :
    (Calls Try.prog 27 #[.slice A a.length c] w fun e w' => e = .returned (.slice A (wd (natOf a)).length c) ∧ w = w') ∧ Rd .u64 w w.heap.size A (wd (natOf a)) ∧ (wd (natOf a)).length ≤ 100000 ∧ (wd (natOf a)).length ≤ c := by
  have h1 := tl_le a hw
  have e : (wd (natOf a)).length = tl a := length_wd _
  refine ⟨?_, ?_, by omega, by omega⟩
  · rw [e]
    exact trimmed_any A c a w w.heap.size hr hw (by omega) hc
  · have := hr.take (tl a)
    rwa [take_wd a hw] at this
theorem add_pf (A A2 : Option Addr) (c c2 : Nat) (a b : List Nat) (w : World) (hr : Rd .u64 w w.heap.size A a) (hw : Words a) (hl : a.length ≤ 100000) (hc : a.length ≤ c) (hr2 : Rd .u64 w w.heap.size A2 b) (hw2 : Words b) (hl2 : b.length ≤ 100000) (hc2 : b.length ≤ c2) :
    Calls Try.prog 26 #[.slice A a.length c, .slice A2 b.length c2] w (OutNat (natOf a + natOf b) w) := by
  obtain ⟨t1, r1, l1, _⟩ := trimmed_wd A c a w hr hw hl hc
  obtain ⟨t2, r2, l2, _⟩ := trimmed_wd A2 c2 b w hr2 hw2 hl2 hc2
  have h := add_core A A2 a.length b.length c c2 (wd (natOf a)) (wd (natOf b)) (wd_words _) (wd_words _) l1 l2 w r1 r2 (Lib.hid t1) (Lib.hid t2)
  rwa [natOf_wd, natOf_wd] at h
end Go.Proofs.Ytgmolbiicclcaaa
/- nat.Sub: what is left, in new memory, or nothing. Conditions: as typed (lengths that fit a machine). -/
namespace Go.Proofs.Ytgmolbiicclcaaa
open Go.RowKit Go.Shelf
set_option maxRecDepth 20000
attribute [local go_sem] Oper.semAt_some
/-- What is left of so many words, one in front being lent. -/
def dF (pre : List WP) : Nat := sF pre + 18446744073709551616 ^ pre.length - sG pre
def bF (pre : List WP) : Nat := if sF pre < sG pre then 1 else 0
theorem bF_le (pre : List WP) : bF pre ≤ 1 := by unfold bF; split <;> omega
theorem bF_nil : bF [] = 0 := by simp [bF, sF, sG, natOf]
theorem dF_div (pre : List WP) : dF pre / 18446744073709551616 ^ pre.length = 1 - bF pre := by
  have h1 := sF_lt pre
  have h2 := sG_lt pre
  unfold dF bF
  generalize 18446744073709551616 ^ pre.length = p at *
  by_cases h : sF pre < sG pre
  · rw [if_pos h, Nat.div_eq_of_lt (by omega)]
  · rw [if_neg h, show sF pre + p - sG pre = (sF pre - sG pre) + p * 1 by omega, Nat.add_mul_div_left _ _ (by omega), Nat.div_eq_of_lt (by omega)]
theorem dF_snoc (pre : List WP) (x : WP) : dF (pre ++ [x]) = dF pre + 18446744073709551616 ^ pre.length * (x.1.1 + 18446744073709551616 - x.1.2 - 1) := by
  have h2 := sG_lt pre
  obtain ⟨hx, hy⟩ := x.2
  unfold dF
  rw [sF_snoc, sG_snoc, List.length_append, List.length_singleton, Nat.pow_succ]
  generalize 18446744073709551616 ^ pre.length = p at *
  obtain ⟨t, ht⟩ : ∃ t, x.1.1 + 18446744073709551616 = x.1.2 + 1 + t := ⟨x.1.1 + 18446744073709551616 - (x.1.2 + 1), by omega⟩
  have h3 : p * (x.1.1 + 18446744073709551616) = p * (x.1.2 + 1 + t) := by rw [ht]
  rw [show x.1.1 + 18446744073709551616 - x.1.2 - 1 = t by omega]
  simp only [Nat.mul_add, Nat.mul_one] at h3
  omega
theorem words_rest_snoc (pre : List WP) (x : WP) : words (pre.length + 1) (dF (pre ++ [x])) = words pre.length (dF pre) ++ [(x.1.1 + 18446744073709551616 - x.1.2 - bF pre) % 18446744073709551616] := by
  obtain ⟨hx, hy⟩ := x.2
  have := bF_le pre
  rw [words_snoc, dF_snoc, words_low, Nat.add_mul_div_left _ _ (Nat.pow_pos (by omega)), dF_div]
  congr 3
  omega
theorem bF_snoc (pre : List WP) (x : WP) : bF (pre ++ [x]) = if x.1.1 < x.1.2 + bF pre then 1 else 0 := by
  have h1 := sF_lt pre
  have h2 := sG_lt pre
  unfold bF
  rw [sF_snoc, sG_snoc]
  generalize 18446744073709551616 ^ pre.length = p at *
  generalize sF pre = u at *
  generalize sG pre = v at *
  generalize x.1.1 = x1 at *
  generalize x.1.2 = y1 at *
  rcases Nat.lt_trichotomy x1 y1 with h | h | h
  · have h3 : p * (x1 + 1) ≤ p * y1 := Nat.mul_le_mul_left _ h
    rw [Nat.mul_add, Nat.mul_one] at h3
    rw [if_pos (by omega), if_pos (by omega)]
  · subst h
    by_cases huv : u < v
    · rw [if_pos (by omega), if_pos huv, if_pos (by omega)]
    · rw [if_neg (by omega), if_neg huv, if_neg (by omega)]
  · have h3 : p * (y1 + 1) ≤ p * x1 := Nat.mul_le_mul_left _ h
    rw [Nat.mul_add, Nat.mul_one] at h3
    rw [if_neg (by omega)]
    by_cases huv : u < v
    · rw [if_pos huv, if_neg (by omega)]
    · rw [if_neg huv, if_neg (by omega)]
theorem words_rest_end (pre : List WP) (h : sG pre ≤ sF pre) : words pre.length (dF pre) = words pre.length (sF pre - sG pre) := by
  have := words_low pre.length (sF pre - sG pre) 1
  rw [← this]
  unfold dF
  congr 1
  omega
/-- The model's own entry for math/bits.Sub64. -/
theorem sub64_run (x y b : Nat) (hb : b ≤ 1) (w : World) :
    (callFunc 37 #[.int .u64 x, .int .u64 y, .int .u64 b]).run Try.prog w =
      .ok (.value (.tuple #[.int .u64 (((x + 18446744073709551616 - y - b) % 18446744073709551616 : Nat) : Int), .int .u64 ((if x < y + b then 1 else 0 : Nat) : Int)])) w := by
  rw [run_callFunc_extern Try.func37 (by kernel_rfl) (by kernel_rfl) (by kernel_rfl) (e := sub64Entry) (by kernel_rfl), run_sub64 x y b hb]
  rfl
set_option maxRecDepth 100000 in
set_option maxHeartbeats 2000000 in
theorem sub_core (A A2 : Option Addr) (n0 n1 c c2 : Nat) (a b : List Nat) (ha : Words a) (hb : Words b) (hla : a.length ≤ 100000) (hlb : b.length ≤ 100000) (w : World) (hra : Rd .u64 w w.heap.size A a) (hrb : Rd .u64 w w.heap.size A2 b)
    (T1 : Hid (Calls Try.prog 27 #[.slice A n0 c] w fun e w' => e = .returned (.slice A a.length c) ∧ w = w'))
    (T2 : Hid (Calls Try.prog 27 #[.slice A2 n1 c2] w fun e w' => e = .returned (.slice A2 b.length c2) ∧ w = w')) :
    Calls Try.prog 25 #[.slice A n0 c, .slice A2 n1 c2] w (OutSub (natOf a) (natOf b) w) := by
  obtain ⟨m, hm⟩ : ∃ m, m = max a.length b.length := ⟨_, rfl⟩
  have hm2 : m ≤ 100000 := by omega
  have HM := Lib.hid (show max (a.length : Int) (b.length : Int) = (m : Int) by omega)
  have Hm := Lib.hid hm
  clear hm
  refine (callsIn_wide (n := 9)).1 ?_
  refine callsIn_of_wp_marks Try.func25 rfl trivial ?_ rfl
  simp only [Try.ntmps25, List.size_toArray, List.length_cons, List.length_nil, Nat.reduceAdd, Nat.reduceSub, Array.replicate_succ, Array.replicate_zero, List.push_toArray, List.append_toArray, List.nil_append, List.cons_append]
  have hmk : ∀ u : World, (Instr.makeSlice 28 (.int .i64 0) (.int .i64 (max (a.length : Int) (b.length : Int)))).run Try.prog u =
      .ok (.slice (some ⟨u.heap.size, 0, none⟩) 0 m) (u.alloc (.cells (List.replicate m (Value.int .u64 0)).toArray 24)) := fun u => by
    rw [HM.out]
    exact make_words m u (by omega)
  have hx0 : 0 ≤ max (a.length : Int) (b.length : Int) := by omega
  have hx1 : max (a.length : Int) (b.length : Int) ≤ 100000 := by omega
  gi_wp2
  refine ⟨trivial, ?_⟩
  refine (callsIn_wide.2 T1.out).mono ?_
  rintro e w' ⟨rfl, rfl⟩
  gi_wp2
  refine ⟨trivial, ?_⟩
  refine (callsIn_wide.2 T2.out).mono ?_
  rintro e w' ⟨rfl, rfl⟩
  gi_wp2
  refine ⟨trivial, ?_⟩
  refine (pairs_in _ _ _ _ _ _ _ _).mono ?_
  rintro e w' ⟨rfl, rfl⟩
  have F := starts w m (.slice A a.length c) (.slice A2 b.length c2) (by unfold maxLen; omega)
  obtain ⟨E, hE⟩ : ∃ E, startW w m (.slice A a.length c) (.slice A2 b.length c2) = E := ⟨_, rfl⟩
  rw [hE] at F
  unfold startW at hE
  clear hmk
  gi_wp2
  clear hE
  obtain ⟨i0, hi, hz0, hz1, hz2⟩ := info_parts num_info_u64
  have hEs := F.size
  have HEs := Lib.hid hEs
  refine wpIn_rangeFunc_ownG rfl (by omega) (gf := 55) (lb := #[.pointer (some ⟨w.heap.size + 1 + 1 + 1, 0, none⟩), .pointer (some ⟨w.heap.size + 1 + 1 + 1 + 1, 0, none⟩)]) rfl trivial (enters_of Try.func55 (by kernel_rfl) rfl)
    (pairs_stops 8 (by omega) (w.heap.size + 1 + 1 + 1) w.heap.size A A2 a b ha hb c c2 m (by omega) (by omega) Hm.out E F.va F.vb (by omega) (hra.below F.below) (hrb.below F.below))
    KpP.t (KpP.b (by omega) (by omega)) (Below.refl _ _) (fun _ => rfl)
    (fun pre W => Mid w m pre.length (words pre.length (dF pre)) (bF pre) W)
    (fun _ _ _ => False)
    (fun s X Y row hs hg hr => hs.kept hg (fun r e => by have := (hr r e).1; omega))
    (fun _ _ _ _ _ hs _ _ => hs)
    ⟨by simpa [words, ints] using F.row, F.out, by rw [bF_nil]; exact F.carry, F.below, by omega⟩
    (fun x => { tmps := #[.slice A a.length c, .slice A2 b.length c2, undef, undef, .slice none 0 0, .bool false, .pointer (some ⟨w.heap.size + 1, 0, none⟩), .pointer (some ⟨w.heap.size + 1 + 1, 0, none⟩), .int .u64 (x.1.1 : Int), .int .u64 (x.1.2 : Int), .slice A n0 c,
      .slice A a.length c, .slice A2 n1 c2, .slice A2 b.length c2, .slice A a.length c, .int .i64 (a.length : Int), .slice A2 b.length c2, .int .i64 (b.length : Int), .int .i64 (max (a.length : Int) (b.length : Int)),
      .slice (some ⟨w.heap.size, 0, none⟩) 0 m, .slice A a.length c, .slice A2 b.length c2, .func (.func 55) #[] #[.pointer (some ⟨w.heap.size + 1 + 1 + 1, 0, none⟩), .pointer (some ⟨w.heap.size + 1 + 1 + 1 + 1, 0, none⟩)],
      .int .u64 (x.1.1 : Int), .int .u64 (x.1.2 : Int), undef, undef, undef, undef, undef, undef, undef, undef, undef, undef, undef, undef, undef, undef, undef], defers := [] }) ?assign ?body ?done ?stop
  case assign =>
    intro l x W K hK
    gi_wp2
    exact hK
  case body =>
    rintro l pre x W hMid hlt
    have hoc := hMid.out.cell
    have hof := hMid.out.frozen
    have hcc := hMid.carry.cell
    have hcf := hMid.carry.frozen
    have hadd := sub64_run x.1.1 x.1.2 (bF pre) (bF_le pre)
    obtain ⟨sw, hsw⟩ : ∃ sw, sw = (x.1.1 + 18446744073709551616 - x.1.2 - bF pre) % 18446744073709551616 := ⟨_, rfl⟩
    obtain ⟨cy, hcy⟩ : ∃ cy, cy = (if x.1.1 < x.1.2 + bF pre then 1 else 0 : Nat) := ⟨_, rfl⟩
    rw [← hsw, ← hcy] at hadd
    have HI := Lib.hid (show words (pre ++ [x]).length (dF (pre ++ [x])) = words pre.length (dF pre) ++ [sw] by rw [List.length_append, List.length_singleton, words_rest_snoc, hsw])
    have HC := Lib.hid (show bF (pre ++ [x]) = cy by rw [bF_snoc, hcy])
    have HL := Lib.hid (show (pre ++ [x]).length = pre.length + 1 by simp)
    clear hsw hcy hEs
    have hWs := hMid.below.size
    gi_wp2
    refine ⟨trivial, ?_⟩
    clear hadd
    gi_wp2_with (gi_at_builtin; refine wpListIn_append_fits _ rfl _ _ 28 rfl w.heap.size 24 i0 1 Try.underlying28 hi hz1 w.heap.size pre.length m _ rfl ((hMid.row.kept (grownBy_setCell' W (w.heap.size + 1 + 1) (.int .u64 (cy : Int))) (.inr (by simp [Value.ownBlock]; omega))).alloc _) ⟨W.heap.size, 0, none⟩ 1 1 [.int .u64 (sw : Int)] rfl rfl ?c1 ?c2 ?c3 ?_)
    case c1 => exact one_new W _ _ _ _
    case c2 => simp [Value.oneCell']
    case c3 => omega
    intro w1 hown hgrow
    obtain ⟨ho1, hM2, hk2, hp2, hb2⟩ := hMid.step hown hgrow
    have hoc1 := ho1.cell
    have hof1 := ho1.frozen
    have hsz := hMid.size
    have HF := Lib.hid (show KeepsFrom E.heap.size W (w1.setCell ⟨w.heap.size + 1, 0, none⟩ (.slice (some ⟨w.heap.size, 0, none⟩) (pre.length + 1) m)) ∧ KpP w.heap.size (w.heap.size + 1 + 1 + 1) W (w1.setCell ⟨w.heap.size + 1, 0, none⟩ (.slice (some ⟨w.heap.size, 0, none⟩) (pre.length + 1) m)) ∧ Mid w m (pre ++ [x]).length (words (pre ++ [x]).length (dF (pre ++ [x]))) (bF (pre ++ [x])) (w1.setCell ⟨w.heap.size + 1, 0, none⟩ (.slice (some ⟨w.heap.size, 0, none⟩) (pre.length + 1) m)) from
      ⟨hk2.from _, ⟨hb2, hp2 _ (by omega) (by omega), hp2 _ (by omega) (by omega)⟩, by rw [HI.out, HL.out, HC.out]; exact hM2⟩)
    clear hown hgrow hM2 hk2 hp2 hb2 ho1 hoc hof hcc hcf hMid
    gi_wp2
    exact HF.out
  case done =>
    rintro D ys W hD hys hMid hK
    have HK := Lib.hid hK
    have hlen : ys.length = m := by rw [hys, upto_length]
    have hA : sF ys = natOf a := by have := Hm.out; rw [hys, sF_upto a b ha hb m (by omega)]
    have hB : sG ys = natOf b := by have := Hm.out; rw [hys, sG_upto a b ha hb m (by omega)]
    clear hys hK
    have hoc := hMid.out.cell
    have hcc := hMid.carry.cell
    have hrow := hMid.row
    have hD2 : w.heap.size + 5 ≤ D := by have := HEs.out; omega
    have hDW := (Array.getElem?_eq_some_iff.1 HK.out).1
    have HB := Lib.hid (show Below w.heap.size w (W.putObj D (.deferred none)) from hMid.below.trans (belowK_b (w := w) (Nat.le_refl _) W D _ _ (by omega) HK.out rfl rfl))
    rw [hlen] at hoc hrow
    by_cases hlt : natOf a < natOf b
    · have hb1 : bF ys = 1 := by unfold bF; rw [hA, hB, if_pos hlt]
      rw [hb1] at hcc
      clear hEs hMid hlen hA hB hb1 hrow
      gi_wp2
      refine ⟨by simp, .inl ⟨_, _, rfl, run_takeDeferred HK.out, ?_⟩⟩
      exact ⟨_, results_tmp2 (t := 4) (u := 5) rfl _ _ _, (fun h => absurd h (by omega)), (fun _ => ⟨none, 0, rfl⟩), HB.out⟩
    · have hb1 : bF ys = 0 := by unfold bF; rw [hA, hB, if_neg hlt]
      rw [hb1] at hcc
      have e1 := words_rest_end ys (by omega)
      rw [hlen, hA, hB] at e1
      have hN : natOf a - natOf b < 18446744073709551616 ^ m := by
        have h1 := sF_lt ys
        rw [hlen, hA] at h1
        omega
      rw [e1] at hrow
      have HT := Lib.hid (trim_own W w.heap.size m m _ _ hrow hN (by omega) (Nat.le_refl _))
      have HP := Lib.hid (ownsRow_putObj (own_trim hrow hN) (.deferred none) HK.out rfl)
      clear hEs hMid hlen hA hB hb1 hrow e1 hN
      gi_wp2
      refine ⟨trivial, ?_⟩
      refine (callsIn_wide.2 HT.out).mono ?_
      rintro e w' ⟨rfl, rfl⟩
      gi_wp2
      refine ⟨by simp, .inl ⟨_, _, rfl, run_takeDeferred HK.out, ?_⟩⟩
      exact ⟨_, results_tmp2 (t := 4) (u := 5) rfl _ _ _, (fun _ => ⟨_, rfl, HP.out⟩), (fun h => absurd h hlt), HB.out⟩
  case stop =>
    rintro D c pre W _ _ h _
    exact h.elim
theorem sub_pf (A A2 : Option Addr) (c c2 : Nat) (a b : List Nat) (w : World) (hr : Rd .u64 w w.heap.size A a) (hw : Words a) (hl : a.length ≤ 100000) (hc : a.length ≤ c) (hr2 : Rd .u64 w w.heap.size A2 b) (hw2 : Words b) (hl2 : b.length ≤ 100000) (hc2 : b.length ≤ c2) :
    Calls Try.prog 25 #[.slice A a.length c, .slice A2 b.length c2] w (OutSub (natOf a) (natOf b) w) := by
  obtain ⟨t1, r1, l1, _⟩ := trimmed_wd A c a w hr hw hl hc
  obtain ⟨t2, r2, l2, _⟩ := trimmed_wd A2 c2 b w hr2 hw2 hl2 hc2
  have h := sub_core A A2 a.length b.length c c2 (wd (natOf a)) (wd (natOf b)) (wd_words _) (wd_words _) l1 l2 w r1 r2 (Lib.hid t1) (Lib.hid t2)
  rwa [natOf_wd, natOf_wd] at h
end Go.Proofs.Ytgmolbiicclcaaa
/- nat.Cmp: which is the lesser number. Conditions: as typed (lengths that fit a machine). -/
namespace Go.Proofs.Ytgmolbiicclcaaa
open Go.RowKit Go.Shelf
set_option maxRecDepth 20000
attribute [local go_sem] Oper.semAt_some
/-- A place and a word. -/
abbrev WI (n : Nat) := { p : Nat × Nat // p.1 < n ∧ p.2 < 18446744073709551616 }
/-- What comes in round k: the words from the last on. -/
def backAt (a : List Nat) (ha : Words a) (n k : Nat) (h : k < n) : WI n := ⟨(n - 1 - k, nth a (n - 1 - k)), by omega, nth_lt a ha _⟩
def backs (a : List Nat) (ha : Words a) (n : Nat) : Nat → List (WI n)
  | 0 => []
  | k + 1 => if h : k < n then backs a ha n k ++ [backAt a ha n k h] else backs a ha n k
theorem backs_succ (a : List Nat) (ha : Words a) (n k : Nat) (h : k < n) : backs a ha n (k + 1) = backs a ha n k ++ [backAt a ha n k h] := by rw [backs, dif_pos h]
theorem backs_length (a : List Nat) (ha : Words a) (n k : Nat) (h : k ≤ n) : (backs a ha n k).length = k := by
  induction k with
  | zero => rfl
  | succ k ih => rw [backs_succ a ha n k (by omega)]; simp [ih (by omega)]
theorem mem_backs (a : List Nat) (ha : Words a) (n k j : Nat) (hk : k ≤ n) (hj : j < k) : backAt a ha n j (by omega) ∈ backs a ha n k := by
  induction k with
  | zero => omega
  | succ k ih =>
    rw [backs_succ a ha n k (by omega)]
    rcases Nat.lt_or_ge j k with h | h
    · exact List.mem_append.2 (.inl (ih (by omega) h))
    · obtain rfl : j = k := by omega
      simp
set_option maxRecDepth 100000 in
set_option maxHeartbeats 2000000 in
theorem back1_in (n : Nat) (hn : 1 ≤ n) (l p n₀ : Nat) (A : Option Addr) (a : List Nat) (ha : Words a) (c : Nat) (hla : a.length ≤ 1000000) (J Jx : List (WI a.length) → World → Prop) (W : World)
    (hY : ∀ pre x W, J pre W → pre.length < a.length → YieldAt Fence.wide (n - 1) Try.prog l #[.int .i64 (x.1.1 : Int), .int .u64 (x.1.2 : Int)] W fun e W' =>
      (e = .returned (.bool true) ∧ J (pre ++ [x]) W' ∧ Below n₀ W W') ∨ (e = .returned (.bool false) ∧ Jx (pre ++ [x]) W'))
    (hp : Boxed W p 28 (.slice A a.length c)) (hpn : p < n₀) (hra : Rd .u64 W n₀ A a) (h0 : J [] W) :
    CallsIn Fence.wide n Try.prog 40 #[.func (.yield l) #[] #[], .pointer (some ⟨p, 0, none⟩)] W fun e W' => (∃ v, e = .returned v) ∧
      ((∃ ys, ys = backs a ha a.length a.length ∧ J ys W') ∨ (∃ pre, (∃ k, k ≤ a.length ∧ pre = backs a ha a.length k) ∧ Jx pre W')) := by
  have hpc := hp.cell
  refine callsIn_of_wp Try.func40 rfl trivial ?_ rfl
  simp only [Try.ntmps40, List.size_toArray, List.length_cons, List.length_nil, Nat.reduceAdd, Nat.reduceSub, Array.replicate_succ, Array.replicate_zero, List.push_toArray, List.append_toArray, List.nil_append, List.cons_append]
  gi_wp2
  gi_loopw [3] (fun i wr => ∃ k : Nat, k ≤ a.length ∧ i = .int .i64 ((k : Int) - 1) ∧ J (backs a ha a.length (a.length - k)) wr ∧ Below n₀ W wr) (fun i _ => (intOf i + 1).toNat)
  case atStart => exact ⟨a.length, Nat.le_refl _, rfl, by simpa [backs] using h0, Below.refl _ _⟩
  case round =>
    obtain ⟨k, hk, rfl, hJs, hkp⟩ := hrel
    by_cases hlt : 0 < k
    · obtain ⟨i, rfl⟩ : ∃ i, k = i + 1 := ⟨k - 1, by omega⟩
      have hpc1 : wr.cell? ⟨p, 0, none⟩ = some (.slice A a.length c) := (hkp.cell (p := ⟨p, 0, none⟩) hpn).trans hpc
      obtain ⟨b, off, rfl, hb, hcell⟩ := hra.below hkp (by omega)
      have hx := hcell i (by omega)
      clear hcell
      have hY1 := hY (backs a ha a.length (a.length - (i + 1))) (backAt a ha a.length (a.length - (i + 1)) (by omega)) wr hJs (by rw [backs_length _ _ _ _ (by omega)]; omega)
      have e0 : a.length - 1 - (a.length - (i + 1)) = i := by omega
      have hY2 : YieldAt Fence.wide (n - 1) Try.prog l #[.int .i64 (i : Int), .int .u64 (nth a i : Int)] wr fun e W' =>
          (e = .returned (.bool true) ∧ J (backs a ha a.length (a.length - i)) W' ∧ Below n₀ wr W') ∨ (e = .returned (.bool false) ∧ Jx (backs a ha a.length (a.length - i)) W') := by
        have e1 : backs a ha a.length (a.length - i) = backs a ha a.length (a.length - (i + 1)) ++ [backAt a ha a.length (a.length - (i + 1)) (by omega)] := by
          rw [← backs_succ]
          congr 1
          omega
        rw [e1]
        unfold backAt at hY1 ⊢
        simp only [e0] at hY1 ⊢
        exact hY1
      obtain ⟨fn, tmps, assign, body, hy, hR⟩ := hY2
      clear hY1 e0 hpc
      rw [show ((i + 1 : Nat) : Int) - 1 = (i : Int) by omega]
      gi_wp2
      refine hR.mono ?_
      rintro e W3 (⟨rfl, hJ3, hk3⟩ | ⟨rfl, hJx3⟩)
      · gi_wp2
        go_roundw
        case rel => exact ⟨i, by omega, rfl, hJ3, hkp.trans hk3⟩
        case measure => simp [intOf] <;> omega
      · gi_wp2
        refine bodyPost_ret (results_none rfl _ _ _) rfl ?_
        exact ⟨⟨_, rfl⟩, .inr ⟨_, ⟨a.length - i, by omega, rfl⟩, hJx3⟩⟩
    · obtain rfl : k = 0 := by omega
      gi_wp2
      go_end0
      exact ⟨⟨_, rfl⟩, .inl ⟨_, rfl, hJs⟩⟩
set_option maxHeartbeats 1000000 in
theorem back_in (n : Nat) (A : Option Addr) (na c : Nat) (w : World) :
    CallsIn Fence.wide n Try.prog 29 #[.slice A na c] w fun e w' =>
      e = .returned (.func (.func 40) #[] #[.pointer (some ⟨w.heap.size, 0, none⟩)]) ∧ w.alloc (.cells #[.slice A na c] 28) = w' := by
  refine callsIn_of_wp Try.func29 rfl trivial ?_ rfl
  simp only [Try.ntmps29, List.size_toArray, List.length_cons, List.length_nil, Nat.reduceAdd, Nat.reduceSub, Array.replicate_succ, Array.replicate_zero, List.push_toArray, List.append_toArray, List.nil_append, List.cons_append]
  gi_wp2
  go_ret
  exact ⟨rfl, rfl⟩
theorem back_stops (n : Nat) (hn : 1 ≤ n) (p n₀ : Nat) (A : Option Addr) (a : List Nat) (ha : Words a) (c : Nat) (hla : a.length ≤ 1000000)
    (w : World) (hp : Boxed w p 28 (.slice A a.length c)) (hpn : p < n₀) (hn₀ : n₀ ≤ w.heap.size) (hra : Rd .u64 w n₀ A a) :
    SeqStopsK Fence.wide n Try.prog 40 #[.pointer (some ⟨p, 0, none⟩)] (fun x : WI a.length => #[Value.int .i64 (x.1.1 : Int), Value.int .u64 (x.1.2 : Int)]) (Below n₀)
      (fun ys => ys = backs a ha a.length a.length) (fun pre => ∃ k, k ≤ a.length ∧ pre = backs a ha a.length k) a.length w := fun l J Jx W hW _ _ hY h0 =>
  back1_in n hn l p n₀ A a ha c hla J Jx W hY ((hW.block p hp.lt).trans hp) hpn (hra.below (hW.mono hn₀)) h0
/-! which is the lesser one -/
theorem cmpS_swap {x y X Y : Nat} (h1 : x < y → X < Y) (h2 : y < x → Y < X) (h3 : x = y → X = Y) : cmpS x y = cmpS X Y := by
  unfold cmpS
  rcases Nat.lt_trichotomy x y with h | h | h
  · rw [if_pos h, if_pos (h1 h)]
  · have := h3 h
    rw [if_neg (by omega), if_neg (by omega), if_neg (by omega), if_neg (by omega)]
  · have := h2 h
    rw [if_neg (by omega), if_pos h, if_neg (by omega), if_pos this]
theorem cmp_len (M N : Nat) (h : (wd M).length ≠ (wd N).length) : cmpS (wd M).length (wd N).length = cmpS M N := by
  rw [length_wd, length_wd] at *
  exact cmpS_swap (fun h1 => less_of_nbits (by omega)) (fun h1 => less_of_nbits (by omega)) (fun h1 => absurd h1 h)
theorem cmp_at (a b : List Nat) (ha : Words a) (hb : Words b) (m : Nat) (h : ∀ j, m + 1 ≤ j → nth a j = nth b j) (hne : nth a m ≠ nth b m) : cmpS (nth a m) (nth b m) = cmpS (natOf a) (natOf b) :=
  cmpS_swap (fun h1 => natOf_less a b ha m h h1) (fun h1 => natOf_less b a hb m (fun j hj => (h j hj).symm) h1) (fun h1 => absurd h1 hne)
end Go.Proofs.Ytgmolbiicclcaaa

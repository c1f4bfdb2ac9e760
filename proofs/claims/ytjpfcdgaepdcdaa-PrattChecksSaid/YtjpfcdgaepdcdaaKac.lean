/- Several texts in one; each begins with a remark that says what it shows and on which conditions. -/
import Derived.Test.YtjpfcdgaepdcdaaKab
import Derived.RangeFuncNested
import Derived.RangeFuncBound
import Derived.RangeFuncCalls
import Derived.RangeFuncLeaves
import Derived.RangeFuncBox
import Derived.Shelf.Abstract
import Derived.Shelf.RegionOpen
import Derived.OwnWalkIn
import Derived.TacticsInMore
import Derived.LoopNIn
import Derived.LoopIn
/- nat.pairs: the iterator over two numbers' words, as what a loop over it may rely on. Conditions: as typed. -/
namespace Go.Proofs.Ytjpfcdgaepdcdaa
open Go.RowKit Go.Shelf
set_option maxRecDepth 20000
attribute [local go_sem] Oper.semAt_some
/-- Two words. -/
abbrev WP := { p : Nat × Nat // p.1 < 18446744073709551616 ∧ p.2 < 18446744073709551616 }
def pairAt (a b : List Nat) (ha : Words a) (hb : Words b) (j : Nat) : WP := ⟨(nth a j, nth b j), nth_lt a ha j, nth_lt b hb j⟩
/-- What has come when k rounds are over. -/
def upto {α : Type} (f : Nat → α) (k : Nat) : List α := (List.range k).map f
theorem upto_succ {α : Type} (f : Nat → α) (k : Nat) : upto f (k + 1) = upto f k ++ [f k] := by simp [upto, List.range_succ]
theorem upto_length {α : Type} (f : Nat → α) (k : Nat) : (upto f k).length = k := by simp [upto]
theorem upto_map {α β : Type} (f : Nat → α) (g : α → β) (k : Nat) : (upto f k).map g = (List.range k).map fun j => g (f j) := by simp [upto]
/-- What a round keeps: all that lay below n₀, and the two boxes of the iterator. -/
def KpP (n₀ p : Nat) (W W' : World) : Prop := Below n₀ W W' ∧ W'.heap[p]? = W.heap[p]? ∧ W'.heap[p + 1]? = W.heap[p + 1]?
theorem KpP.t {n₀ p : Nat} {A B C : World} (h : KpP n₀ p A B) (k : KpP n₀ p B C) : KpP n₀ p A C := ⟨h.1.trans k.1, k.2.1.trans h.2.1, k.2.2.trans h.2.2⟩
theorem KpP.b {n₀ p : Nat} {w : World} (hn : n₀ ≤ w.heap.size) (hp : p + 2 ≤ w.heap.size) (W : World) (l : Nat) (o o' : Obj) (hl : w.heap.size ≤ l) (h : W.heap[l]? = some o) (h1 : o.isCells = false) (h2 : o.isWalk = false) : KpP n₀ p W (W.putObj l o') := by
  have hg := grownBy_putObj' W l o'
  have hlt := (Array.getElem?_eq_some_iff.1 h).1
  exact ⟨belowK_b hn W l o o' hl h h1 h2, hg.block p (by omega) (by simp; omega), hg.block (p + 1) (by omega) (by simp; omega)⟩
/-- What a round has said, by one word. -/
structure Said (bb : Bool) (Y N : Prop) : Prop where
  yes : bb = true → Y
  no : bb = false → N
theorem yieldSays {e : Ending} {Y1 Y2 N : Prop} (h : (e = .returned (.bool true) ∧ Y1 ∧ Y2) ∨ (e = .returned (.bool false) ∧ N)) : ∃ bb, e = .returned (.bool bb) ∧ Said bb (Y1 ∧ Y2) N := by
  rcases h with ⟨he, h1, h2⟩ | ⟨he, h3⟩
  · exact ⟨true, he, ⟨fun _ => ⟨h1, h2⟩, (fun h => by cases h)⟩⟩
  · exact ⟨false, he, ⟨(fun h => by cases h), fun _ => h3⟩⟩
theorem kpP_drew (n₀ p : Nat) (w : World) : KpP n₀ p w w.drew := ⟨(Drawn.more 1).below n₀, rfl, rfl⟩
theorem Drawn.grown (w : World) (n : Nat) : w.grownBy (w.drewN n) none := ⟨rfl, rfl, rfl, Nat.le_refl _, fun _ _ _ => rfl⟩
set_option maxRecDepth 100000 in
set_option maxHeartbeats 2000000 in
theorem pairs1_in (n : Nat) (hn : 1 ≤ n) (l p n₀ : Nat) (A A2 : Option Addr) (a b : List Nat) (ha : Words a) (hb : Words b) (c c2 m : Nat) (hla : a.length ≤ 1000000) (hlb : b.length ≤ 1000000) (hm : Hid (m = max a.length b.length)) (J Jx : List WP → World → Prop) (W : World) (hJ : AbidesFrom W.heap.size J)
    (hY : ∀ pre x W, J pre W → pre.length < m → YieldAt Fence.wide (n - 1) Try.prog l #[.int .u64 (x.1.1 : Int), .int .u64 (x.1.2 : Int)] W fun e W' =>
      (e = .returned (.bool true) ∧ J (pre ++ [x]) W' ∧ KpP n₀ p W W') ∨ (e = .returned (.bool false) ∧ Jx (pre ++ [x]) W'))
    (hp : Boxed W p 29 (.slice A a.length c)) (hq : Boxed W (p + 1) 29 (.slice A2 b.length c2)) (hra : Rd .u64 W n₀ A a) (hrb : Rd .u64 W n₀ A2 b) (h0 : J [] W) :
    CallsIn Fence.wide n Try.prog 53 #[.func (.yield l) #[] #[], .pointer (some ⟨p, 0, none⟩), .pointer (some ⟨p + 1, 0, none⟩)] W fun e W' => (∃ v, e = .returned v) ∧
      ((∃ ys, ys = upto (pairAt a b ha hb) m ∧ J ys W') ∨ (∃ pre, (∃ k, k ≤ m ∧ pre = upto (pairAt a b ha hb) k) ∧ Jx pre W')) := by
  have hpc := hp.cell
  have hqc := hq.cell
  refine callsIn_of_wp Try.func53 rfl trivial ?_ rfl
  simp only [Try.ntmps53, List.size_toArray, List.length_cons, List.length_nil, Nat.reduceAdd, Nat.reduceSub, Array.replicate_succ, Array.replicate_zero, List.push_toArray, List.append_toArray, List.nil_append, List.cons_append]
  gi_wp2
  have HM := hm.out
  rw [show max (a.length : Int) (b.length : Int) = (m : Int) by omega]
  clear HM
  gi_loopw [10] (fun i wr => ∃ k : Nat, k ≤ m ∧ i = .int .i64 k ∧ J (upto (pairAt a b ha hb) k) wr ∧ KpP n₀ p W wr) (fun i _ => m - (intOf i).toNat)
  case atStart => exact ⟨0, Nat.zero_le _, rfl, h0, Below.refl _ _, rfl, rfl⟩
  case round =>
    obtain ⟨k, hk, rfl, hJs, hkp⟩ := hrel
    by_cases hlt : k < m
    · have hm2 : m ≤ 1000000 := by have := hm.out; omega
      have hp1 : Boxed wr p 29 (.slice A a.length c) := hkp.2.1.trans hp
      have hq1 : Boxed wr (p + 1) 29 (.slice A2 b.length c2) := hkp.2.2.trans hq
      have hpc1 := hp1.cell
      have hqc1 := hq1.cell
      have hra1 := hra.below hkp.1
      have hrb1 := hrb.below hkp.1
      have hY1 := hY (upto (pairAt a b ha hb) k) (pairAt a b ha hb k)
      rw [show (pairAt a b ha hb k).1.1 = wordS a (k : Int) from (wordS_nat a k).symm, show (pairAt a b ha hb k).1.2 = wordS b (k : Int) from (wordS_nat b k).symm] at hY1
      obtain ⟨fn, tmps, assign, body, hy, hR⟩ := hY1 wr.drew (hJ _ _ _ none hJs (Drawn.grown wr 1) (fun r e => by cases e)) (by rw [upto_length]; exact hlt)
      have hmx : Try.prog.follows .mixedOrders = true := by kernel_rfl
      clear hpc hqc
      gi_wp2
      gi_region_with_o (first
        | (refine ⟨trivial, ?_⟩; gi_at_call 34; refine (callsIn_wide.2 (word_any _ _ _ _ _ n₀ (by first | exact hra1 | exact hrb1) (by omega))).mono ?_; rintro e w' ⟨rfl, rfl⟩)
        | (refine hR.mono ?_; rintro e W3 hpost; obtain ⟨bb, rfl, hbb⟩ := yieldSays hpost; clear hpost))
      all_goals
        cases bb
        · have hJ3 := hbb.no rfl
          clear hbb
          gi_wp2
          refine bodyPost_ret (results_none rfl _ _ _) rfl ?_
          exact ⟨⟨_, rfl⟩, .inr ⟨_, ⟨k + 1, by omega, (upto_succ _ _).symm⟩, hJ3⟩⟩
        · have hJ3 := (hbb.yes rfl).1
          have hk3 := (hbb.yes rfl).2
          clear hbb
          gi_wp2
          go_roundw
          case rel => exact ⟨k + 1, by omega, by go_num, by rw [upto_succ]; exact hJ3, hkp.t (KpP.t (kpP_drew n₀ p wr) hk3)⟩
          case measure => simp [intOf]; omega
    · obtain rfl : k = m := by omega
      gi_wp2
      go_end0
      exact ⟨⟨_, rfl⟩, .inl ⟨_, rfl, hJs⟩⟩
set_option maxHeartbeats 1000000 in
theorem pairs_in (n : Nat) (A A2 : Option Addr) (na nb c c2 : Nat) (w : World) :
    CallsIn Fence.wide n Try.prog 43 #[.slice A na c, .slice A2 nb c2] w fun e w' =>
      e = .returned (.func (.func 53) #[] #[.pointer (some ⟨w.heap.size, 0, none⟩), .pointer (some ⟨w.heap.size + 1, 0, none⟩)]) ∧ (w.alloc (.cells #[.slice A na c] 29)).alloc (.cells #[.slice A2 nb c2] 29) = w' := by
  refine callsIn_of_wp Try.func43 rfl trivial ?_ rfl
  simp only [Try.ntmps43, List.size_toArray, List.length_cons, List.length_nil, Nat.reduceAdd, Nat.reduceSub, Array.replicate_succ, Array.replicate_zero, List.push_toArray, List.append_toArray, List.nil_append, List.cons_append]
  gi_wp2
  go_ret
  exact ⟨rfl, rfl⟩
/-- The two numbers' words, one after another, as far as the longer one goes; or a part of them. -/
theorem pairs_stops (n : Nat) (hn : 1 ≤ n) (p n₀ : Nat) (A A2 : Option Addr) (a b : List Nat) (ha : Words a) (hb : Words b) (c c2 m : Nat) (hla : a.length ≤ 1000000) (hlb : b.length ≤ 1000000) (hm : m = max a.length b.length)
    (w : World) (hp : Boxed w p 29 (.slice A a.length c)) (hq : Boxed w (p + 1) 29 (.slice A2 b.length c2)) (hn₀ : n₀ ≤ w.heap.size) (hra : Rd .u64 w n₀ A a) (hrb : Rd .u64 w n₀ A2 b) :
    SeqStopsK Fence.wide n Try.prog 53 #[.pointer (some ⟨p, 0, none⟩), .pointer (some ⟨p + 1, 0, none⟩)] (fun x : WP => #[Value.int .u64 (x.1.1 : Int), Value.int .u64 (x.1.2 : Int)]) (KpP n₀ p)
      (fun ys => ys = upto (pairAt a b ha hb) m) (fun pre => ∃ k, k ≤ m ∧ pre = upto (pairAt a b ha hb) k) m w := fun l J Jx W hW hJ _ hY h0 =>
  pairs1_in n hn l p n₀ A A2 a b ha hb c c2 m hla hlb (Lib.hid hm) J Jx W hJ hY ((hW.block p hp.lt).trans hp) ((hW.block (p + 1) hq.lt).trans hq) (hra.below (hW.mono hn₀)) (hrb.below (hW.mono hn₀)) h0
end Go.Proofs.Ytjpfcdgaepdcdaa

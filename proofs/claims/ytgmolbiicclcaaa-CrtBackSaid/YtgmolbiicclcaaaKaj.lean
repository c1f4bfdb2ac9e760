/- Several texts in one; each begins with a remark that says what it shows and on which conditions. -/
import Derived.Test.YtgmolbiicclcaaaKaf
import Derived.Test.YtgmolbiicclcaaaKai
/- slices.Backward over a row that a loop's body may write: as what the loop may rely on. Conditions: as typed (a length that fits a machine). -/
namespace Go.Proofs.Ytgmolbiicclcaaa
open Go.RowKit Go.Shelf
set_option maxRecDepth 20000
attribute [local go_sem] Oper.semAt_some
/-- The slice reads as m words of which P holds. -/
def RdP (A : Option Addr) (m : Nat) (P : List Nat → Prop) (W : World) : Prop := ∃ l, l.length = m ∧ Words l ∧ P l ∧ Rd .u64 W W.heap.size A l
/-- What a round keeps: the iterator's box, and that the slice reads as words of which P holds. -/
def KpR (p : Nat) (A : Option Addr) (m : Nat) (P : List Nat → Prop) (W W' : World) : Prop := W'.heap[p]? = W.heap[p]? ∧ (RdP A m P W → RdP A m P W')
theorem KpR.t {p m : Nat} {A : Option Addr} {P : List Nat → Prop} {X Y Z : World} (h : KpR p A m P X Y) (k : KpR p A m P Y Z) : KpR p A m P X Z := ⟨k.1.trans h.1, fun r => k.2 (h.2 r)⟩
theorem KpR.b {p m : Nat} {A : Option Addr} {P : List Nat → Prop} {w : World} (hp : p < w.heap.size) (W : World) (l : Nat) (o o' : Obj) (hl : w.heap.size ≤ l) (h : W.heap[l]? = some o) (h1 : o.isCells = false) (_ : o.isWalk = false) : KpR p A m P W (W.putObj l o') := by
  have hg := grownBy_putObj' W l o'
  have hlt := (Array.getElem?_eq_some_iff.1 h).1
  refine ⟨hg.block p (by omega) (by simp; omega), ?_⟩
  rintro ⟨xs, e1, e2, e3, e4⟩
  refine ⟨xs, e1, e2, e3, fun h0 => ?_⟩
  obtain ⟨b, off, e, hb, hc⟩ := e4 h0
  exact ⟨b, off, e, Nat.lt_of_lt_of_le hb hg.size, fun j hj => cell_kept (hc j hj) hg (fun r e => by cases e; exact ⟨o, h, h1⟩)⟩
/-- What has come: the places from the last on, each with a word that stood there. -/
structure Downs {m : Nat} (P : List Nat → Prop) (ys : List (WI m)) : Prop where
  at_ : ∀ k (h : k < ys.length), (ys[k]).1.1 = m - 1 - k
  val : ∀ x ∈ ys, ∃ l, l.length = m ∧ Words l ∧ P l ∧ x.1.2 = nth l x.1.1
theorem Downs.nil {m : Nat} {P : List Nat → Prop} : Downs (m := m) P [] := ⟨fun k h => by simp at h, fun x h => by cases h⟩
theorem Downs.snoc {m : Nat} {P : List Nat → Prop} {ys : List (WI m)} (h : Downs P ys) (x : WI m) (hx : x.1.1 = m - 1 - ys.length) (hv : ∃ l, l.length = m ∧ Words l ∧ P l ∧ x.1.2 = nth l x.1.1) : Downs P (ys ++ [x]) where
  at_ := fun k hk => by
    rw [List.getElem_append]
    split
    · exact h.at_ k _
    · rw [List.length_append, List.length_singleton] at hk
      have : k = ys.length := by omega
      subst this
      simpa using hx
  val := fun y hy => by
    rcases List.mem_append.1 hy with h1 | h1
    · exact h.val y h1
    · simp at h1
      subst h1
      exact hv
theorem Downs.ini {m : Nat} {P : List Nat → Prop} {ys : List (WI m)} {x : WI m} (h : Downs P (ys ++ [x])) : Downs P ys ∧ x.1.1 = m - 1 - ys.length ∧ ∃ l, l.length = m ∧ Words l ∧ P l ∧ x.1.2 = nth l x.1.1 := by
  refine ⟨⟨fun k hk => ?_, fun y hy => h.val y (List.mem_append.2 (.inl hy))⟩, ?_, h.val x (List.mem_append.2 (.inr (by simp)))⟩
  · have := h.at_ k (by simp; omega)
    rwa [List.getElem_append_left hk] at this
  · have := h.at_ ys.length (by simp)
    simpa using this
set_option maxRecDepth 100000 in
set_option maxHeartbeats 2000000 in
theorem backR_in (n : Nat) (hn : 1 ≤ n) (l p m c : Nat) (A : Option Addr) (P : List Nat → Prop) (hm : m ≤ 1000000) (J Jx : List (WI m) → World → Prop) (W : World)
    (hY : ∀ pre x W, J pre W → pre.length < m → YieldAt Fence.wide (n - 1) Try.prog l #[.int .i64 (x.1.1 : Int), .int .u64 (x.1.2 : Int)] W fun e W' =>
      (e = .returned (.bool true) ∧ J (pre ++ [x]) W' ∧ KpR p A m P W W') ∨ (e = .returned (.bool false) ∧ Jx (pre ++ [x]) W'))
    (hp : Boxed W p 28 (.slice A m c)) (hra : RdP A m P W) (h0 : J [] W) :
    CallsIn Fence.wide n Try.prog 40 #[.func (.yield l) #[] #[], .pointer (some ⟨p, 0, none⟩)] W fun e W' => (∃ v, e = .returned v) ∧
      ((∃ ys, (Downs P ys ∧ ys.length = m) ∧ J ys W') ∨ (∃ pre, True ∧ Jx pre W')) := by
  have hpc := hp.cell
  refine callsIn_of_wp Try.func40 rfl trivial ?_ rfl
  simp only [Try.ntmps40, List.size_toArray, List.length_cons, List.length_nil, Nat.reduceAdd, Nat.reduceSub, Array.replicate_succ, Array.replicate_zero, List.push_toArray, List.append_toArray, List.nil_append, List.cons_append]
  gi_wp2
  gi_loopw [3] (fun i wr => ∃ (k : Nat) (ys : List (WI m)), k ≤ m ∧ i = .int .i64 ((k : Int) - 1) ∧ ys.length = m - k ∧ Downs P ys ∧ J ys wr ∧ wr.heap[p]? = W.heap[p]? ∧ RdP A m P wr) (fun i _ => (intOf i + 1).toNat)
  case atStart => exact ⟨m, [], Nat.le_refl _, rfl, by simp, Downs.nil, h0, rfl, hra⟩
  case round =>
    obtain ⟨k, ys, hk, rfl, hyl, hds, hJs, hbx, hrd⟩ := hrel
    by_cases hlt : 0 < k
    · obtain ⟨i, rfl⟩ : ∃ i, k = i + 1 := ⟨k - 1, by omega⟩
      have hpc1 : wr.cell? ⟨p, 0, none⟩ = some (.slice A m c) := by
        rw [← hpc]
        exact World.cell?_of_block hbx
      obtain ⟨xs, hx1, hx2, hx3, hx4⟩ := hrd
      have hrd' : RdP A m P wr := ⟨xs, hx1, hx2, hx3, hx4⟩
      obtain ⟨b, off, rfl, hb, hcell⟩ := hx4 (by omega)
      have hx := hcell i (by omega)
      clear hcell
      have hY1 := hY ys ⟨(i, nth xs i), by omega, nth_lt xs hx2 i⟩ wr hJs (by omega)
      have HD := Lib.hid (hds.snoc ⟨(i, nth xs i), by omega, nth_lt xs hx2 i⟩ (by show i = m - 1 - ys.length; omega) ⟨xs, hx1, hx2, hx3, rfl⟩)
      have HL := Lib.hid (show (ys ++ [(⟨(i, nth xs i), by omega, nth_lt xs hx2 i⟩ : WI m)]).length = m - i by rw [List.length_append, List.length_singleton]; omega)
      have HR := Lib.hid hrd'
      have HB := Lib.hid hbx
      dsimp only at hY1
      obtain ⟨fn, tmps, assign, body, hy, hR⟩ := hY1
      clear hpc hrd' hbx hra h0 hx3 hds
      rw [show ((i + 1 : Nat) : Int) - 1 = (i : Int) by omega]
      gi_wp2
      refine hR.mono ?_
      rintro e W3 (⟨rfl, hJ3, hk3⟩ | ⟨rfl, hJx3⟩)
      · gi_wp2
        go_roundw
        case rel => exact ⟨i, _, by omega, rfl, HL.out, HD.out, hJ3, hk3.1.trans HB.out, hk3.2 HR.out⟩
        case measure => simp [intOf] <;> omega
      · gi_wp2
        refine bodyPost_ret (results_none rfl _ _ _) rfl ?_
        exact ⟨⟨_, rfl⟩, .inr ⟨_, trivial, hJx3⟩⟩
    · obtain rfl : k = 0 := by omega
      gi_wp2
      go_end0
      exact ⟨⟨_, rfl⟩, .inl ⟨ys, ⟨hds, by omega⟩, hJs⟩⟩
theorem backR_stops (n : Nat) (hn : 1 ≤ n) (p m c : Nat) (A : Option Addr) (P : List Nat → Prop) (hm : m ≤ 1000000) (w : World) (hp : Boxed w p 28 (.slice A m c)) (hra : RdP A m P w) :
    SeqStopsK Fence.wide n Try.prog 40 #[.pointer (some ⟨p, 0, none⟩)] (fun x : WI m => #[Value.int .i64 (x.1.1 : Int), Value.int .u64 (x.1.2 : Int)]) (KpR p A m P)
      (fun ys => Downs P ys ∧ ys.length = m) (fun _ => True) m w := fun l J Jx W hW _ _ hY h0 =>
  backR_in n hn l p m c A P hm J Jx W hY ((hW.block p hp.lt).trans hp) (by
    obtain ⟨xs, e1, e2, e3, e4⟩ := hra
    exact ⟨xs, e1, e2, e3, (e4.below hW).more hW.size⟩) h0
end Go.Proofs.Ytgmolbiicclcaaa

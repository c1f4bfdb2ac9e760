/- Several texts in one; each begins with a remark that says what it shows and on which conditions. -/
import Derived.OrdersIn
import Derived.RangeFuncCalls
import Derived.WalkKit
/- A region that draws its order, inside a loop's round: what reads stable memory, or none, may be taken first. No condition but those typed; no program is named. -/
namespace Go.Proofs.Ytgmolbiicclcaaa
open Go Go.RowKit
section
variable {F : Fence} {n : Nat} {P : Program} {ops : Array Oper} {Q : Exit → Act → World → Prop} {md : Region.Mode}
/-- An operation does not mind a slot that it neither reads nor writes. -/
theorem op_put {j : Nat} {oj : Oper} {d : Option Tmp} {v : Value} (hj : ops[j]? = some oj) (hl : ∀ x, d = some x → x ∉ oj.looksAt ops) (hne : ∀ x, d = some x → oj.dst ≠ some x)
    (hsel : ∀ cs b, oj.op ≠ .select cs b) (hdef : ∀ c, oj.op ≠ .defer c) (hQ : ∀ c a w, Q (.panic c) (a.put d v) w → Q (.panic c) a w) {K : Act → World → Prop} {a : Act} {w : World}
    (h : wpOpIn F n P ops Q j K (a.put d v) w) : wpOpIn F n P ops Q j (fun a' w' => ((∃ u, a' = a.put oj.dst u) ∨ ∃ e u, a' = { a with defers := e :: a.defers }.put oj.dst u) ∧ K (a'.put d v) w') a w := by
  unfold wpOpIn at *
  simp only [hj] at *
  rw [wanted_put oj a d v hl, about_put oj w a d v hl] at h
  by_cases hw : Region.wanted oj (yielded ops a.tmps) = true
  · rw [if_pos hw] at h ⊢
    unfold Oper.wpIn at *
    rw [about_put oj w a d v hl, Oper.semAt_eq _ _ _ hdef, execOp_put oj hsel a d v hl] at h
    rw [Oper.semAt_eq _ _ _ hdef]
    refine ⟨h.1, ?_⟩
    replace h := h.2
    generalize (execOp a.eval oj).run P w = r at *
    cases r with
    | ok x w' =>
      cases x <;> simp only [Oper.uponIn] at h ⊢
      case value u => exact ⟨.inl ⟨u, rfl⟩, by rw [← Act.put_comm a v u hne]; exact h⟩
      case skip => exact ⟨.inl ⟨undef, rfl⟩, by rw [← Act.put_comm a v undef hne]; exact h⟩
      case defer e => exact ⟨.inr ⟨e, undef, rfl⟩, by rw [← Act.put_comm _ v undef hne, ← Act.put_defers]; exact h⟩
      case enter f args =>
        refine ⟨h.1, CallsIn.mono h.2 fun e w'' he => ?_⟩
        cases e with
        | returned u => exact ⟨.inl ⟨u, rfl⟩, by rw [← Act.put_comm a v u hne]; exact he⟩
        | panicked c => exact hQ _ _ _ he
        | outgrown => exact he
      case row row args => exact ⟨h.1, RowsIn.mono h.2 fun u w'' he => ⟨.inl ⟨u, rfl⟩, by rw [← Act.put_comm a v u hne]; exact he⟩⟩
      case round l f tmps assign body =>
        refine ⟨h.1, RoundIn.mono h.2 fun e w'' he => ?_⟩
        cases e with
        | returned u => exact ⟨.inl ⟨u, rfl⟩, by rw [← Act.put_comm a v u hne]; exact he⟩
        | panicked c => exact hQ _ _ _ he
        | outgrown => exact he
    | halt x w' =>
      cases x <;> simp only [Oper.uponIn] at h ⊢
      case panic u => exact hQ _ _ _ h
  · rw [if_neg hw] at h ⊢
    exact ⟨h.1, .inl ⟨undef, rfl⟩, by rw [← Act.put_comm a v undef hne]; exact h.2⟩
/-- Whatever order is drawn: as wpAnyIn has it, and the world is such as B says till operation s has run. -/
def anyG (F : Fence) (n : Nat) (P : Program) (md : Region.Mode) (ops : Array Oper) (Q : Exit → Act → World → Prop) (s : Nat) (B : World → Prop) : Nat → Array Bool → Act → World → Prop
  | 0, listed, a, w => (listed.getD s true = false → B w) ∧ Region.ready md ops listed = [] ∧ Q .normal a w
  | fuel + 1, listed, a, w => (listed.getD s true = false → B w) ∧ (Region.ready md ops listed = [] → Q .normal a w) ∧
    ∀ i ∈ Region.ready md ops listed, wpOpIn F n P ops Q i (anyG F n P md ops Q s B fuel (listed.setIfInBounds i true)) a w
variable {s : Nat} {B : World → Prop}
theorem anyG.good {fuel : Nat} {listed : Array Bool} {a : Act} {w : World} (h : anyG F n P md ops Q s B fuel listed a w) : listed.getD s true = false → B w := by
  cases fuel <;> exact h.1
theorem anyG.toAny : ∀ {fuel : Nat} {listed : Array Bool} {a : Act} {w : World}, anyG F n P md ops Q s B fuel listed a w → wpAnyIn F n P md ops Q fuel listed a w := by
  intro fuel
  induction fuel with
  | zero => exact fun h => h.2
  | succ fuel ih => exact fun h => ⟨h.2.1, fun i hi => wpOpIn_mono (fun _ _ => ih) (h.2.2 i hi)⟩
/-- It runs to v, the world being as it was, wherever the world is such as B says. -/
def Held (P : Program) (ops : Array Oper) (B : World → Prop) (o : Oper) (v : Value) (a : Act) : Prop :=
  Region.wanted o (yielded ops a.tmps) = true ∧ ∀ w, B w → (execOp a.eval o).run P w = .ok (.value v) w ∧ o.about P w a.eval = none
theorem Held.op {i : Nat} {o : Oper} {v : Value} {a : Act} (hi : ops[i]? = some o) (hdef : ∀ c, o.op ≠ .defer c) (hy : Held P ops B o v a) {K : Act → World → Prop} {w : World} (hB : B w) (h : K (a.put o.dst v) w) : wpOpIn F n P ops Q i K a w := by
  unfold wpOpIn
  simp only [hi]
  obtain ⟨e1, e2⟩ := hy.2 w hB
  rw [if_pos hy.1]
  unfold Oper.wpIn
  rw [Oper.semAt_eq _ _ _ hdef, e1, e2]
  exact ⟨fun f hf => (by cases hf), h⟩
theorem Held.put {o oj : Oper} {v u : Value} {a : Act} (hy : Held P ops B o v a) (hsel : ∀ cs b, o.op ≠ .select cs b) (h : ∀ d, oj.dst = some d → d ∉ o.looksAt ops) : Held P ops B o v (a.put oj.dst u) := by
  refine ⟨by rw [wanted_put o a oj.dst u h]; exact hy.1, fun w hB => ?_⟩
  rw [execOp_put o hsel a oj.dst u h, about_put o w a oj.dst u h]
  exact hy.2 w hB
theorem anyG_first {i : Nat} {oi os : Oper} {v : Value} (hi : ops[i]? = some oi) (hsel : ∀ (j : Nat) (o : Oper) cs b, ops[j]? = some o → o.op ≠ .select cs b) (hdef : ∀ (j : Nat) (o : Oper) c, ops[j]? = some o → o.op ≠ .defer c)
    (hs : ops[s]? = some os) (hse : ∃ e ∈ os.after, Region.binds md e = true ∧ e.on = i) (his : i ≠ s) (hQ : ∀ c a w, Q (.panic c) (a.put oi.dst v) w → Q (.panic c) a w) :
    ∀ (fuel : Nat) (listed : Array Bool) (a : Act) (w : World),
      (∀ j oj, ops[j]? = some oj → j ≠ i → listed.getD j true = false → (∀ e ∈ oj.after, Region.binds md e = true → e.on ≠ i) → oi.apart ops oj = true) →
      i ∈ Region.ready md ops listed → listed.getD s true = false → Held P ops B oi v a →
      anyG F n P md ops Q s B fuel (listed.setIfInBounds i true) (a.put oi.dst v) w → anyG F n P md ops Q s B (fuel + 1) listed a w := by
  intro fuel
  induction fuel with
  | zero =>
    intro listed a w _ hr hl hy H
    have hB : B w := H.good (by rw [getD_set_ne true his]; exact hl)
    refine ⟨fun _ => hB, fun h => (by rw [h] at hr; cases hr), fun j hj => ?_⟩
    by_cases hji : j = i
    · subst hji; exact hy.op hi (fun c => hdef _ _ c hi) hB H
    · have := ready_mono hj hji
      rw [H.2.1] at this
      cases this
  | succ fuel ih =>
    intro listed a w hfree hr hl hy H
    have hB : B w := H.good (by rw [getD_set_ne true his]; exact hl)
    refine ⟨fun _ => hB, fun h => (by rw [h] at hr; cases hr), fun j hj => ?_⟩
    by_cases hji : j = i
    · subst hji; exact hy.op hi (fun c => hdef _ _ c hi) hB H
    · have h1 := H.2.2 j (ready_mono hj hji)
      obtain ⟨hjun, oj, hoj, hall⟩ := mem_ready.1 hj
      have hnot : ∀ e ∈ oj.after, Region.binds md e = true → e.on ≠ i := fun e he hb heq => by
        have h1 := hall e he hb
        have h0 := (mem_ready.1 hr).1
        rw [heq] at h1
        rcases Nat.lt_or_ge i listed.size with h' | h'
        · simp [h'] at h0 h1; rw [h0] at h1; cases h1
        · simp [Array.getElem?_eq_none h'] at h1
      have hjs : j ≠ s := fun e => by
        subst e
        rw [hs] at hoj
        cases hoj
        obtain ⟨e, he, hb, heq⟩ := hse
        exact hnot e he hb heq
      obtain ⟨p1, p2, p3⟩ := Oper.apart_spec (hfree j oj hoj hji hjun hnot)
      have h2 := op_put hoj p1 p2 (fun cs b => hsel j oj cs b hoj) (fun c => hdef j oj c hoj) hQ h1
      have hfree' : ∀ k ok, ops[k]? = some ok → k ≠ i → (listed.setIfInBounds j true).getD k true = false →
          (∀ e ∈ ok.after, Region.binds md e = true → e.on ≠ i) → oi.apart ops ok = true := fun k ok hk hki hun hno => by
        refine hfree k ok hk hki ?_ hno
        by_cases hjk : j = k
        · subst hjk; exact hjun
        · rw [getD_set_ne true hjk] at hun; exact hun
      refine wpOpIn_mono (fun a' w' h3 => ih (listed.setIfInBounds j true) a' w' hfree' (ready_mono hr (Ne.symm hji)) (by rw [getD_set_ne true hjs]; exact hl) ?_ ?_) h2
      · rcases h3.1 with ⟨u, rfl⟩ | ⟨e, u, rfl⟩
        · exact hy.put (fun cs b => hsel i oi cs b hi) p3
        · exact Held.put (a := { a with defers := e :: a.defers }) hy (fun cs b => hsel i oi cs b hi) p3
      · rw [Array.setIfInBounds_comm _ _ hji]
        exact h3.2
/-- Operations that are no 'defer' and no 'select'. -/
def plainOps (ops : Array Oper) : Bool := ops.all fun o => match o.op with | .select .. => false | .defer .. => false | _ => true
theorem plainOps.sel (h : plainOps ops = true) (j : Nat) (o : Oper) (cs : Array SelectCase) (b : Bool) (ho : ops[j]? = some o) : o.op ≠ .select cs b := fun e => by
  have := Array.all_eq_true_iff_forall_mem.1 h o (Array.mem_of_getElem? ho)
  simp [e] at this
theorem plainOps.def_ (h : plainOps ops = true) (j : Nat) (o : Oper) (c : Call) (ho : ops[j]? = some o) : o.op ≠ .defer c := fun e => by
  have := Array.all_eq_true_iff_forall_mem.1 h o (Array.mem_of_getElem? ho)
  simp [e] at this
/-- Operation s waits for operation i. -/
def waits (md : Region.Mode) (ops : Array Oper) (s i : Nat) : Bool := match ops[s]? with | some o => o.after.any (fun e => Region.binds md e && e.on == i) | none => false
/-- A held operation is taken first. -/
theorem anyG_take {i : Nat} {oi : Oper} {v : Value} {fuel : Nat} {listed : Array Bool} {a : Act} {w : World} (hi : ops[i]? = some oi) (hp : plainOps ops = true) (hf : Region.free md ops listed i = true)
    (hr : (Region.ready md ops listed).contains i = true) (hsw : waits md ops s i = true) (his : (i != s) = true) (hl : listed.getD s true = false) (hQ : ∀ c a w, Q (.panic c) (a.put oi.dst v) w → Q (.panic c) a w)
    (hy : Held P ops B oi v a) (h : anyG F n P md ops Q s B fuel (listed.setIfInBounds i true) (a.put oi.dst v) w) : anyG F n P md ops Q s B (fuel + 1) listed a w := by
  unfold waits at hsw
  cases hs : ops[s]? with
  | none => rw [hs] at hsw; cases hsw
  | some os =>
    rw [hs] at hsw
    obtain ⟨e, he, hb⟩ := Array.any_eq_true'.1 hsw
    simp only [Bool.and_eq_true, beq_iff_eq] at hb
    exact anyG_first hi (plainOps.sel hp) (plainOps.def_ hp) hs ⟨e, he, hb.1, hb.2⟩ (by simpa using his) hQ fuel listed a w (Region.free_spec hi hf) (by simpa using hr) hl hy h
/-- One operation alone may come up. -/
theorem anyG_one {i : Nat} {o : Oper} {fuel : Nat} {listed : Array Bool} {a : Act} {w : World} (hr : Region.ready md ops listed = [i]) (ho : ops[i]? = some o) (hB : listed.getD s true = false → B w)
    (h : ∀ K' : Act → World → Prop, (∀ a w, anyG F n P md ops Q s B fuel (listed.setIfInBounds i true) a w → K' a w) → if Region.wanted o (yielded ops a.tmps) = true then Oper.wpIn F n P o a w K' Q else (∀ f, o.about P w a.eval = some f → F.fn f) ∧ K' (a.put o.dst undef) w) :
    anyG F n P md ops Q s B (fuel + 1) listed a w := by
  refine ⟨hB, fun h0 => (by rw [hr] at h0; cases h0), fun j hj => ?_⟩
  rw [hr, List.mem_singleton] at hj
  subst hj
  exact wpOpIn_step ho h
/-- All have run. -/
theorem anyG_done {fuel : Nat} {listed : Array Bool} {a : Act} {w : World} (hr : Region.ready md ops listed = []) (hs : listed.getD s true = true) (h : Q .normal a w) : anyG F n P md ops Q s B fuel listed a w := by
  cases fuel with
  | zero => exact ⟨fun e => (by rw [hs] at e; cases e), hr, h⟩
  | succ k => exact ⟨fun e => (by rw [hs] at e; cases e), fun _ => h, fun i hi => (by rw [hr] at hi; cases hi)⟩
end
end Go.Proofs.Ytgmolbiicclcaaa

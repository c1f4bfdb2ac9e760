/- Several texts in one; each begins with a remark that says what it shows and on which conditions. -/
import Derived.Test.YtgmolbiicclcaaaKak
import Derived.Deep.RegionWith
/- A region that draws its order: an operation whose value is known is taken first; its place is a number, so that the slots stay short. No condition but those typed; no program is named. -/
namespace Go.Proofs.Ytgmolbiicclcaaa
open Go
end Go.Proofs.Ytgmolbiicclcaaa
/- A region that draws its order: where a load and a call may both come up, one walk serves both orders, as long as the call leaves alone what is loaded. No condition but those typed; no program is named. -/
namespace Go.Proofs.Ytgmolbiicclcaaa
open Go
section
variable {P : Program} {md : Region.Mode} {ops : Array Oper} {Q : Exit → Act → World → Prop}
theorem op_put11 {j : Nat} {oj : Oper} {d : Option Tmp} {v : Value} (hj : ops[j]? = some oj) (hl : ∀ x, d = some x → x ∉ oj.looksAt ops) (hne : ∀ x, d = some x → oj.dst ≠ some x)
    (hsel : ∀ cs b, oj.op ≠ .select cs b) (hdef : ∀ c, oj.op ≠ .defer c) (hQ : ∀ c a w, Q (.panic c) (a.put d v) w → Q (.panic c) a w) {K : Act → World → Prop} {a : Act} {w : World}
    (h : wpOp P ops Q j K (a.put d v) w) : wpOp P ops Q j (fun a' w' => ((∃ u, a' = a.put oj.dst u) ∨ ∃ e u, a' = { a with defers := e :: a.defers }.put oj.dst u) ∧ K (a'.put d v) w') a w := by
  have _ := hdef
  unfold wpOp at *
  simp only [hj] at *
  rw [wanted_put oj a d v hl] at h
  split
  · rename_i hw
    simp only [hw, if_true] at h
    rcases h with h | ⟨hasks, hlets⟩
    case inr => exact .inr ⟨by unfold Oper.asks at *; rw [execOp_put oj hsel a d v hl] at hasks; exact hasks, hlets⟩
    refine .inl ?_
    unfold Oper.wp at *
    rw [execOp_put oj hsel a d v hl] at h
    generalize (execOp a.eval oj).run P w = r at *
    cases r with
    | ok n w' =>
      cases n <;> simp only [Oper.upon] at h ⊢
      case value u => exact ⟨.inl ⟨u, rfl⟩, by rw [← Act.put_comm a v u hne]; exact h⟩
      case skip => exact ⟨.inl ⟨undef, rfl⟩, by rw [← Act.put_comm a v undef hne]; exact h⟩
      case defer e => exact ⟨.inr ⟨e, undef, rfl⟩, by rw [← Act.put_comm _ v undef hne, ← Act.put_defers]; exact h⟩
      case enter f args =>
        refine Calls.mono h fun e w'' he => ?_
        cases e with
        | returned u => exact ⟨.inl ⟨u, rfl⟩, by rw [← Act.put_comm a v u hne]; exact he⟩
        | panicked c => exact hQ _ _ _ he
        | outgrown => exact he
      case row row args => exact Rows.mono h fun u w'' he => ⟨.inl ⟨u, rfl⟩, by rw [← Act.put_comm a v u hne]; exact he⟩
    | halt x w' =>
      cases x <;> simp only [Oper.upon] at h ⊢
      case panic u => exact hQ _ _ _ h
  · rename_i hw
    simp only [hw] at h
    exact ⟨.inl ⟨undef, rfl⟩, by rw [← Act.put_comm a v undef hne]; exact h⟩
theorem load_op11 {i : Nat} {oi : Oper} {v : Value} (hi : ops[i]? = some oi) {K : Act → World → Prop} {a : Act} {w : World} (hw : Region.wanted oi (yielded ops a.tmps) = true) (hx : (execOp a.eval oi).run P w = .ok (.value v) w) (h : K (a.put oi.dst v) w) : wpOp P ops Q i K a w := by
  unfold wpOp
  simp only [hi]
  rw [if_pos hw]
  refine .inl ?_
  unfold Oper.wp
  rw [hx]
  exact h
/-- append, where its run is known. -/
theorem op_append11 {o : Oper} {a : Act} {w w' : World} {K : Act → World → Prop} (s x : Operand) (t : TypeId) (ho : o.op = .call { callee := .builtin .append, args := #[s, x], argTypes := #[t, t] }) (v y : Value) (hs : a.eval s = v) (hx : a.eval x = y) {v' : Value}
    (hr : (Builtin.append_ #[t, t] o.type #[v, y]).run P w = .ok v' w') (h : K (a.put o.dst v') w') : Oper.wp P o a w K Q := by
  unfold Oper.wp execOp
  simp only [ho, resolve, invoke, builtin, Sem.run_bind, Sem.run_pure, Result.andThen_ok, List.map_toArray, List.map_cons, List.map_nil, hs, hx, hr]
  exact h
end
/-- Whatever order is drawn: as wpAny has it, and the world is such as B says till operation s has run. -/
def anyP (P : Program) (md : Region.Mode) (ops : Array Oper) (Q : Exit → Act → World → Prop) (s : Nat) (B : World → Prop) : Nat → Array Bool → Act → World → Prop
  | 0, listed, a, w => (listed.getD s true = false → B w) ∧ Region.ready md ops listed = [] ∧ Q .normal a w
  | fuel + 1, listed, a, w => (listed.getD s true = false → B w) ∧ (Region.ready md ops listed = [] → Q .normal a w) ∧
    ∀ i ∈ Region.ready md ops listed, wpOp P ops Q i (anyP P md ops Q s B fuel (listed.setIfInBounds i true)) a w
section
variable {P : Program} {md : Region.Mode} {ops : Array Oper} {Q : Exit → Act → World → Prop} {s : Nat} {B : World → Prop}
theorem anyP.good {fuel : Nat} {listed : Array Bool} {a : Act} {w : World} (h : anyP P md ops Q s B fuel listed a w) : listed.getD s true = false → B w := by
  cases fuel <;> exact h.1
theorem anyP.toAny : ∀ {fuel : Nat} {listed : Array Bool} {a : Act} {w : World}, anyP P md ops Q s B fuel listed a w → wpAny P md ops Q fuel listed a w := by
  intro fuel
  induction fuel with
  | zero => exact fun h => h.2
  | succ fuel ih => exact fun h => ⟨h.2.1, fun i hi => wpOp_mono (fun _ _ => ih) (h.2.2 i hi)⟩
/-- It runs to v, the world being as it was, wherever the world is such as B says. -/
def HeldP (P : Program) (ops : Array Oper) (B : World → Prop) (o : Oper) (v : Value) (a : Act) : Prop :=
  Region.wanted o (yielded ops a.tmps) = true ∧ ∀ w, B w → (execOp a.eval o).run P w = .ok (.value v) w
theorem HeldP.op {i : Nat} {o : Oper} {v : Value} {a : Act} (hi : ops[i]? = some o) (hy : HeldP P ops B o v a) {K : Act → World → Prop} {w : World} (hB : B w) (h : K (a.put o.dst v) w) : wpOp P ops Q i K a w := load_op11 hi hy.1 (hy.2 w hB) h
theorem HeldP.put {o oj : Oper} {v u : Value} {a : Act} (hy : HeldP P ops B o v a) (hsel : ∀ cs b, o.op ≠ .select cs b) (h : ∀ d, oj.dst = some d → d ∉ o.looksAt ops) : HeldP P ops B o v (a.put oj.dst u) := by
  refine ⟨by rw [wanted_put o a oj.dst u h]; exact hy.1, fun w hB => ?_⟩
  rw [execOp_put o hsel a oj.dst u h]
  exact hy.2 w hB
end
end Go.Proofs.Ytgmolbiicclcaaa
/- A region that draws its order, and a condition on the world that stands through all of it: what is read of what the condition tells may be taken first. No condition but those typed; no program is named. -/
namespace Go.Proofs.Ytgmolbiicclcaaa
open Go
/-- Whatever order is drawn: as wpAny has it, and the world is such as B says all the time. -/
def anyK (P : Program) (md : Region.Mode) (ops : Array Oper) (Q : Exit → Act → World → Prop) (B : World → Prop) : Nat → Array Bool → Act → World → Prop
  | 0, listed, a, w => B w ∧ Region.ready md ops listed = [] ∧ Q .normal a w
  | fuel + 1, listed, a, w => B w ∧ (Region.ready md ops listed = [] → Q .normal a w) ∧
    ∀ i ∈ Region.ready md ops listed, wpOp P ops Q i (anyK P md ops Q B fuel (listed.setIfInBounds i true)) a w
section
variable {P : Program} {md : Region.Mode} {ops : Array Oper} {Q : Exit → Act → World → Prop} {B : World → Prop}
theorem anyK.good {fuel : Nat} {listed : Array Bool} {a : Act} {w : World} (h : anyK P md ops Q B fuel listed a w) : B w := by
  cases fuel <;> exact h.1
theorem anyK.toAny : ∀ {fuel : Nat} {listed : Array Bool} {a : Act} {w : World}, anyK P md ops Q B fuel listed a w → wpAny P md ops Q fuel listed a w := by
  intro fuel
  induction fuel with
  | zero => exact fun h => h.2
  | succ fuel ih => exact fun h => ⟨h.2.1, fun i hi => wpOp_mono (fun _ _ => ih) (h.2.2 i hi)⟩
/-- Held, or not wanted. -/
def YieldK (P : Program) (ops : Array Oper) (B : World → Prop) (o : Oper) (v : Value) (a : Act) : Prop := HeldP P ops B o v a ∨ (Region.wanted o (yielded ops a.tmps) = false ∧ v = undef)
theorem YieldK.op {i : Nat} {o : Oper} {v : Value} {a : Act} (hi : ops[i]? = some o) (hy : YieldK P ops B o v a) {K : Act → World → Prop} {w : World} (hB : B w) (h : K (a.put o.dst v) w) : wpOp P ops Q i K a w := by
  rcases hy with hy | ⟨hw, rfl⟩
  · exact hy.op hi hB h
  · unfold wpOp
    simp only [hi, hw]
    exact h
theorem YieldK.put {o oj : Oper} {v u : Value} {a : Act} (hy : YieldK P ops B o v a) (hsel : ∀ cs b, o.op ≠ .select cs b) (h : ∀ d, oj.dst = some d → d ∉ o.looksAt ops) : YieldK P ops B o v (a.put oj.dst u) := by
  rcases hy with hy | ⟨hw, rfl⟩
  · exact .inl (hy.put hsel h)
  · exact .inr ⟨by rw [wanted_put o a oj.dst u h]; exact hw, rfl⟩
theorem anyK_first {i : Nat} {oi : Oper} {v : Value} (hi : ops[i]? = some oi) (hsel : ∀ (j : Nat) (o : Oper) cs b, ops[j]? = some o → o.op ≠ .select cs b) (hdef : ∀ (j : Nat) (o : Oper) c, ops[j]? = some o → o.op ≠ .defer c)
    (hQ : ∀ c a w, Q (.panic c) (a.put oi.dst v) w → Q (.panic c) a w) :
    ∀ (fuel : Nat) (listed : Array Bool) (a : Act) (w : World),
      (∀ j oj, ops[j]? = some oj → j ≠ i → listed.getD j true = false → (∀ e ∈ oj.after, Region.binds md e = true → e.on ≠ i) → oi.apart ops oj = true) →
      i ∈ Region.ready md ops listed → YieldK P ops B oi v a →
      anyK P md ops Q B fuel (listed.setIfInBounds i true) (a.put oi.dst v) w → anyK P md ops Q B (fuel + 1) listed a w := by
  intro fuel
  induction fuel with
  | zero =>
    intro listed a w _ hr hy H
    have hB : B w := H.good
    refine ⟨hB, fun h => (by rw [h] at hr; cases hr), fun j hj => ?_⟩
    by_cases hji : j = i
    · subst hji; exact hy.op hi hB H
    · have := ready_mono hj hji
      rw [H.2.1] at this
      cases this
  | succ fuel ih =>
    intro listed a w hfree hr hy H
    have hB : B w := H.good
    refine ⟨hB, fun h => (by rw [h] at hr; cases hr), fun j hj => ?_⟩
    by_cases hji : j = i
    · subst hji; exact hy.op hi hB H
    · have h1 := H.2.2 j (ready_mono hj hji)
      obtain ⟨hjun, oj, hoj, hall⟩ := mem_ready.1 hj
      have hnot : ∀ e ∈ oj.after, Region.binds md e = true → e.on ≠ i := fun e he hb heq => by
        have h1 := hall e he hb
        have h0 := (mem_ready.1 hr).1
        rw [heq] at h1
        rcases Nat.lt_or_ge i listed.size with h' | h'
        · simp [h'] at h0 h1; rw [h0] at h1; cases h1
        · simp [Array.getElem?_eq_none h'] at h1
      obtain ⟨p1, p2, p3⟩ := Oper.apart_spec (hfree j oj hoj hji hjun hnot)
      have h2 := op_put11 hoj p1 p2 (fun cs b => hsel j oj cs b hoj) (fun c => hdef j oj c hoj) hQ h1
      have hfree' : ∀ k ok, ops[k]? = some ok → k ≠ i → (listed.setIfInBounds j true).getD k true = false →
          (∀ e ∈ ok.after, Region.binds md e = true → e.on ≠ i) → oi.apart ops ok = true := fun k ok hk hki hun hno => by
        refine hfree k ok hk hki ?_ hno
        by_cases hjk : j = k
        · subst hjk; exact hjun
        · rw [getD_set_ne true hjk] at hun; exact hun
      refine wpOp_mono (fun a' w' h3 => ih (listed.setIfInBounds j true) a' w' hfree' (ready_mono hr (Ne.symm hji)) ?_ ?_) h2
      · rcases h3.1 with ⟨u, rfl⟩ | ⟨e, u, rfl⟩
        · exact hy.put (fun cs b => hsel i oi cs b hi) p3
        · exact YieldK.put (a := { a with defers := e :: a.defers }) hy (fun cs b => hsel i oi cs b hi) p3
      · rw [Array.setIfInBounds_comm _ _ hji]
        exact h3.2
/-- A held operation is taken first. -/
theorem anyK_take {i d : Nat} {oi : Oper} {v : Value} {fuel : Nat} {listed : Array Bool} {a : Act} {w : World} (hi : ops[i]? = some oi) (hd : oi.dst = some d) (hp : plainOps ops = true) (hf : Region.free md ops listed i = true)
    (hr : (Region.ready md ops listed).contains i = true) (hQ : ∀ c a w, Q (.panic c) (a.put oi.dst v) w → Q (.panic c) a w)
    (hy : HeldP P ops B oi v a) (h : anyK P md ops Q B fuel (listed.setIfInBounds i true) (a.put (some d) v) w) : anyK P md ops Q B (fuel + 1) listed a w := by
  rw [← hd] at h
  exact anyK_first hi (plainOps.sel hp) (plainOps.def_ hp) hQ fuel listed a w (Region.free_spec hi hf) (by simpa using hr) (.inl hy) h
/-- An operation that isn't wanted is passed by. -/
theorem anyK_skip {i d : Nat} {oi : Oper} {fuel : Nat} {listed : Array Bool} {a : Act} {w : World} (hi : ops[i]? = some oi) (hd : oi.dst = some d) (hp : plainOps ops = true) (hf : Region.free md ops listed i = true)
    (hr : (Region.ready md ops listed).contains i = true) (hQ : ∀ c a w, Q (.panic c) (a.put oi.dst undef) w → Q (.panic c) a w)
    (hy : Region.wanted oi (yielded ops a.tmps) = false) (h : anyK P md ops Q B fuel (listed.setIfInBounds i true) (a.put (some d) undef) w) : anyK P md ops Q B (fuel + 1) listed a w := by
  rw [← hd] at h
  exact anyK_first hi (plainOps.sel hp) (plainOps.def_ hp) hQ fuel listed a w (Region.free_spec hi hf) (by simpa using hr) (.inr ⟨hy, rfl⟩) h
/-- One operation alone may come up. -/
theorem anyK_one {i : Nat} {o : Oper} {fuel : Nat} {listed : Array Bool} {a : Act} {w : World} (hr : Region.ready md ops listed = [i]) (ho : ops[i]? = some o) (hB : B w)
    (h : ∀ K' : Act → World → Prop, (∀ a w, anyK P md ops Q B fuel (listed.setIfInBounds i true) a w → K' a w) → if Region.wanted o (yielded ops a.tmps) = true then Oper.wp P o a w K' Q else K' (a.put o.dst undef) w) :
    anyK P md ops Q B (fuel + 1) listed a w := by
  refine ⟨hB, fun h0 => (by rw [hr] at h0; cases h0), fun j hj => ?_⟩
  rw [hr, List.mem_singleton] at hj
  subst hj
  exact wpOp_step ho h
/-- All have run. -/
theorem anyK_done {fuel : Nat} {listed : Array Bool} {a : Act} {w : World} (hr : Region.ready md ops listed = []) (hB : B w) (h : Q .normal a w) : anyK P md ops Q B fuel listed a w := by
  cases fuel with
  | zero => exact ⟨hB, hr, h⟩
  | succ k => exact ⟨hB, fun _ => h, fun i hi => (by rw [hr] at hi; cases hi)⟩
end
end Go.Proofs.Ytgmolbiicclcaaa

/- Several texts in one; each begins with a remark that says what it shows and on which conditions. -/
import Derived.Test.YtgmolbiicclcaaaKak
/- A region that draws its order and stores into several variables: what reads one of them may be taken first, as long as that one's own store waits for it. No condition but those typed; no program is named. -/
namespace Go.Proofs.Ytgmolbiicclcaaa
open Go Go.RowKit
/-- Each of these variables holds its value till its own store has run. -/
def Till (l : List (Nat × Addr × Value)) (listed : Array Bool) (w : World) : Prop := ∀ p ∈ l, listed.getD p.1 true = false → w.cell? p.2.1 = some p.2.2
section
variable {F : Fence} {n : Nat} {P : Program} {ops : Array Oper} {Q : Exit → Act → World → Prop} {md : Region.Mode}
theorem Till.unset {l : List (Nat × Addr × Value)} {listed : Array Bool} {w : World} {i : Nat} (hni : ∀ p ∈ l, i ≠ p.1) (h : Till l (listed.setIfInBounds i true) w) : Till l listed w := fun p hp hl => h p hp (by rw [getD_set_ne true (hni p hp)]; exact hl)
/-- Whatever order is drawn, with variables that hold their values till they are stored into. -/
def anyH (F : Fence) (n : Nat) (P : Program) (md : Region.Mode) (ops : Array Oper) (Q : Exit → Act → World → Prop) (l : List (Nat × Addr × Value)) : Nat → Array Bool → Act → World → Prop
  | 0, listed, a, w => Till l listed w ∧ Region.ready md ops listed = [] ∧ Q .normal a w
  | fuel + 1, listed, a, w => Till l listed w ∧ (Region.ready md ops listed = [] → Q .normal a w) ∧
    ∀ i ∈ Region.ready md ops listed, wpOpIn F n P ops Q i (anyH F n P md ops Q l fuel (listed.setIfInBounds i true)) a w
variable {l : List (Nat × Addr × Value)}
theorem anyH.good {fuel : Nat} {listed : Array Bool} {a : Act} {w : World} (h : anyH F n P md ops Q l fuel listed a w) : Till l listed w := by
  cases fuel <;> exact h.1
theorem anyH.toAny : ∀ {fuel : Nat} {listed : Array Bool} {a : Act} {w : World}, anyH F n P md ops Q l fuel listed a w → wpAnyIn F n P md ops Q fuel listed a w := by
  intro fuel
  induction fuel with
  | zero => exact fun h => h.2
  | succ fuel ih => exact fun h => ⟨h.2.1, fun i hi => wpOpIn_mono (fun _ _ => ih) (h.2.2 i hi)⟩
theorem anyH_first {i s : Nat} {ad : Addr} {u : Value} {oi os : Oper} {v : Value} (hm : (s, ad, u) ∈ l) (hni : ∀ p ∈ l, i ≠ p.1) (hi : ops[i]? = some oi) (hsel : ∀ (j : Nat) (o : Oper) cs b, ops[j]? = some o → o.op ≠ .select cs b) (hdef : ∀ (j : Nat) (o : Oper) c, ops[j]? = some o → o.op ≠ .defer c)
    (hs : ops[s]? = some os) (hse : ∃ e ∈ os.after, Region.binds md e = true ∧ e.on = i) (his : i ≠ s) (hQ : ∀ c a w, Q (.panic c) (a.put oi.dst v) w → Q (.panic c) a w) :
    ∀ (fuel : Nat) (listed : Array Bool) (a : Act) (w : World),
      (∀ j oj, ops[j]? = some oj → j ≠ i → listed.getD j true = false → (∀ e ∈ oj.after, Region.binds md e = true → e.on ≠ i) → oi.apart ops oj = true) →
      i ∈ Region.ready md ops listed → listed.getD s true = false → Held P ops (fun w => w.cell? ad = some u) oi v a →
      anyH F n P md ops Q l fuel (listed.setIfInBounds i true) (a.put oi.dst v) w → anyH F n P md ops Q l (fuel + 1) listed a w := by
  intro fuel
  induction fuel with
  | zero =>
    intro listed a w _ hr hl hy H
    have hT : Till l listed w := H.good.unset hni
    have hB : w.cell? ad = some u := hT _ hm hl
    refine ⟨hT, fun h => (by rw [h] at hr; cases hr), fun j hj => ?_⟩
    by_cases hji : j = i
    · subst hji; exact hy.op hi (fun c => hdef _ _ c hi) hB H
    · have := ready_mono hj hji
      rw [H.2.1] at this
      cases this
  | succ fuel ih =>
    intro listed a w hfree hr hl hy H
    have hT : Till l listed w := H.good.unset hni
    have hB : w.cell? ad = some u := hT _ hm hl
    refine ⟨hT, fun h => (by rw [h] at hr; cases hr), fun j hj => ?_⟩
    by_cases hji : j = i
    · subst hji; exact hy.op hi (fun c => hdef _ _ c hi) hB H
    · have h1 := H.2.2 j (ready_mono hj hji)
      obtain ⟨hjun, oj, hoj, hall⟩ := mem_ready.1 hj
      have hnot : ∀ e ∈ oj.after, Region.binds md e = true → e.on ≠ i := fun e he hb heq => by
        have h1 := hall e he hb
        have h0 := (mem_ready.1 hr).1
        rw [heq] at h1
        rcases Nat.lt_or_ge i listed.size with h' | h'
        · simp [h'] at h0 h1; rw [h0] at h1; cases h1
        · simp [Array.getElem?_eq_none h'] at h1
      have hjs : j ≠ s := fun e => by
        subst e
        rw [hs] at hoj
        cases hoj
        obtain ⟨e, he, hb, heq⟩ := hse
        exact hnot e he hb heq
      obtain ⟨p1, p2, p3⟩ := Oper.apart_spec (hfree j oj hoj hji hjun hnot)
      have h2 := op_put hoj p1 p2 (fun cs b => hsel j oj cs b hoj) (fun c => hdef j oj c hoj) hQ h1
      have hfree' : ∀ k ok, ops[k]? = some ok → k ≠ i → (listed.setIfInBounds j true).getD k true = false →
          (∀ e ∈ ok.after, Region.binds md e = true → e.on ≠ i) → oi.apart ops ok = true := fun k ok hk hki hun hno => by
        refine hfree k ok hk hki ?_ hno
        by_cases hjk : j = k
        · subst hjk; exact hjun
        · rw [getD_set_ne true hjk] at hun; exact hun
      refine wpOpIn_mono (fun a' w' h3 => ih (listed.setIfInBounds j true) a' w' hfree' (ready_mono hr (Ne.symm hji)) (by rw [getD_set_ne true hjs]; exact hl) ?_ ?_) h2
      · rcases h3.1 with ⟨u, rfl⟩ | ⟨e, u, rfl⟩
        · exact hy.put (fun cs b => hsel i oi cs b hi) p3
        · exact Held.put (a := { a with defers := e :: a.defers }) hy (fun cs b => hsel i oi cs b hi) p3
      · rw [Array.setIfInBounds_comm _ _ hji]
        exact h3.2
/-- A held operation is taken first. -/
theorem anyH_take {i s : Nat} {ad : Addr} {u : Value} {oi : Oper} {v : Value} {fuel : Nat} {listed : Array Bool} {a : Act} {w : World} (hm : (s, ad, u) ∈ l) (hni : ∀ p ∈ l, i ≠ p.1) (hi : ops[i]? = some oi) (hp : plainOps ops = true) (hf : Region.free md ops listed i = true)
    (hr : (Region.ready md ops listed).contains i = true) (hsw : waits md ops s i = true) (his : (i != s) = true) (hl : listed.getD s true = false) (hQ : ∀ c a w, Q (.panic c) (a.put oi.dst v) w → Q (.panic c) a w)
    (hy : Held P ops (fun w => w.cell? ad = some u) oi v a) (h : anyH F n P md ops Q l fuel (listed.setIfInBounds i true) (a.put oi.dst v) w) : anyH F n P md ops Q l (fuel + 1) listed a w := by
  unfold waits at hsw
  cases hs : ops[s]? with
  | none => rw [hs] at hsw; cases hsw
  | some os =>
    rw [hs] at hsw
    obtain ⟨e, he, hb⟩ := Array.any_eq_true'.1 hsw
    simp only [Bool.and_eq_true, beq_iff_eq] at hb
    exact anyH_first hm hni hi (plainOps.sel hp) (plainOps.def_ hp) hs ⟨e, he, hb.1, hb.2⟩ (by simpa using his) hQ fuel listed a w (Region.free_spec hi hf) (by simpa using hr) hl hy h
/-- One operation alone may come up. -/
theorem anyH_one {i : Nat} {o : Oper} {fuel : Nat} {listed : Array Bool} {a : Act} {w : World} (hr : Region.ready md ops listed = [i]) (ho : ops[i]? = some o) (hB : Till l listed w)
    (h : ∀ K' : Act → World → Prop, (∀ a w, anyH F n P md ops Q l fuel (listed.setIfInBounds i true) a w → K' a w) → if Region.wanted o (yielded ops a.tmps) = true then Oper.wpIn F n P o a w K' Q else (∀ f, o.about P w a.eval = some f → F.fn f) ∧ K' (a.put o.dst undef) w) :
    anyH F n P md ops Q l (fuel + 1) listed a w := by
  refine ⟨hB, fun h0 => (by rw [hr] at h0; cases h0), fun j hj => ?_⟩
  rw [hr, List.mem_singleton] at hj
  subst hj
  exact wpOpIn_step ho h
/-- All have run. -/
theorem anyH_done {fuel : Nat} {listed : Array Bool} {a : Act} {w : World} (hr : Region.ready md ops listed = []) (hB : Till l listed w) (h : Q .normal a w) : anyH F n P md ops Q l fuel listed a w := by
  cases fuel with
  | zero => exact ⟨hB, hr, h⟩
  | succ k => exact ⟨hB, fun _ => h, fun i hi => (by rw [hr] at hi; cases hi)⟩
end
end Go.Proofs.Ytgmolbiicclcaaa

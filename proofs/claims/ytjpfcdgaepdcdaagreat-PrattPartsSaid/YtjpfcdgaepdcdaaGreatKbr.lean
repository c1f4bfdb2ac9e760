/- Several texts in one; each begins with a remark that says what it shows and on which conditions. -/
import Derived.Test.YtjpfcdgaepdcdaaGreatKaw
/- A region that draws its order and stores into several variables: what reads one of them may be taken first, as long as that one's own store waits for it. No condition but those typed; no program is named. -/
namespace Go.Proofs.YtjpfcdgaepdcdaaGreat
open Go Go.RowKit
/-- Each of these variables holds its value till its own store has run. -/
def Till (l : List (Nat × Addr × Value)) (listed : Array Bool) (w : World) : Prop := ∀ p ∈ l, listed.getD p.1 true = false → w.cell? p.2.1 = some p.2.2
section
variable {F : Fence} {n : Nat} {P : Program} {ops : Array Oper} {Q : Exit → Act → World → Prop} {md : Region.Mode}
/-- Whatever order is drawn, with variables that hold their values till they are stored into. -/
def anyH (F : Fence) (n : Nat) (P : Program) (md : Region.Mode) (ops : Array Oper) (Q : Exit → Act → World → Prop) (l : List (Nat × Addr × Value)) : Nat → Array Bool → Act → World → Prop
  | 0, listed, a, w => Till l listed w ∧ Region.ready md ops listed = [] ∧ Q .normal a w
  | fuel + 1, listed, a, w => Till l listed w ∧ (Region.ready md ops listed = [] → Q .normal a w) ∧
    ∀ i ∈ Region.ready md ops listed, wpOpIn F n P ops Q i (anyH F n P md ops Q l fuel (listed.setIfInBounds i true)) a w
variable {l : List (Nat × Addr × Value)}
theorem anyH.good {fuel : Nat} {listed : Array Bool} {a : Act} {w : World} (h : anyH F n P md ops Q l fuel listed a w) : Till l listed w := by
  cases fuel <;> exact h.1
theorem anyH.toAny : ∀ {fuel : Nat} {listed : Array Bool} {a : Act} {w : World}, anyH F n P md ops Q l fuel listed a w → wpAnyIn F n P md ops Q fuel listed a w := by
  intro fuel
  induction fuel with
  | zero => exact fun h => h.2
  | succ fuel ih => exact fun h => ⟨h.2.1, fun i hi => wpOpIn_mono (fun _ _ => ih) (h.2.2 i hi)⟩
end
end Go.Proofs.YtjpfcdgaepdcdaaGreat

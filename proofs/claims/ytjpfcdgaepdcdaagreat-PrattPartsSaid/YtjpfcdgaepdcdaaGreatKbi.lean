/- Several texts in one; each begins with a remark that says what it shows and on which conditions. -/
import Derived.Test.YtjpfcdgaepdcdaaGreatKar
import Derived.WalkKit
import Derived.ProofKit
import Derived.OpenShut
import Derived.ShutString
import Derived.ChangeOld
import Derived.Below
import Derived.Test.YtjpfcdgaepdcdaaGreatProg
import Derived.SizedLaws
import Derived.Deep.Strs
/- For the frame of each law's proof: a slice of bytes or of words that came in reads as a list of numbers. No condition but those typed. -/
namespace Go.Proofs.YtjpfcdgaepdcdaaGreat
open Go.RowKit
theorem fcell_lt {w : World} {p : Addr} {v : Value} (h : w.cell? p = some v) : p.block < w.heap.size := by
  rcases Nat.lt_or_ge p.block w.heap.size with h1 | h1
  · exact h1
  · simp [World.cell?, Array.getElem?_eq_none h1] at h
theorem row_nat {k : IntKind} {w : World} {x : Addr} {len cap : Nat} {zs : List Int} (M : Nat) (hl : len ≤ cap) (hz : zs.length = cap) (hcell : ∀ i, i < zs.length → w.cell? (x.add i) = some (.int k (zs.getD i 0)))
    (hw : ∀ n ∈ zs, 0 ≤ n ∧ n < M) : ∃ l : List Nat, l.length = len ∧ Rd k w w.heap.size (some x) l ∧ ∀ y ∈ l, y < M := by
  refine ⟨(zs.take len).map Int.toNat, by simp; omega, fun hlt => ?_, fun y hy => ?_⟩
  · have hlen : 0 < len := by simp at hlt; omega
    have h0 := hcell 0 (by omega)
    obtain ⟨b, off, spot⟩ := x
    have hs : spot = none := by simpa [Addr.add] using World.cell?_spot h0
    subst hs
    refine ⟨b, off, rfl, by simpa [Addr.add] using fcell_lt h0, fun j hj => ?_⟩
    have hj' : j < len ∧ j < zs.length := by simp at hj; omega
    have h1 := hcell j hj'.2
    rw [Addr.add_lit] at h1
    rw [h1]
    have h2 := hw zs[j] (List.getElem_mem hj'.2)
    simp only [nth, List.getD_eq_getElem?_getD, List.getElem?_map, List.getElem?_take, hj'.1, if_true, List.getElem?_eq_getElem hj'.2, Option.map_some, Option.getD_some]
    rw [Int.toNat_of_nonneg h2.1]
  · simp only [List.mem_map] at hy
    obtain ⟨z, hz1, rfl⟩ := hy
    have := hw z (List.mem_of_mem_take hz1)
    omega
theorem row_u64 {w : World} {x : Addr} {len cap : Nat} {zs : List Int} (hl : len ≤ cap) (hz : zs.length = cap) (hcell : ∀ i, i < zs.length → w.cell? (x.add i) = some (.int .u64 (zs.getD i 0)))
    (hw : ∀ n ∈ zs, (Lit.int .u64 n).wf = true) : ∃ l : List Nat, l.length = len ∧ Rd .u64 w w.heap.size (some x) l ∧ Words l :=
  row_nat 18446744073709551616 hl hz hcell fun n hn => by
    have h : 0 ≤ n ∧ n ≤ 18446744073709551615 := by simpa [Lit.wf, IntKind.min, IntKind.max, IntKind.signed, IntKind.bits] using hw n hn
    omega
end Go.Proofs.YtjpfcdgaepdcdaaGreat
/- For the frame of laws over certificates: a slice of steps (each two numbers and a slice of numbers) that came in reads as a list. No condition but those typed. -/
namespace Go.Proofs.YtjpfcdgaepdcdaaGreat
open Go.RowKit Go.ChangeShapes Go.WideShapes Go.ChangeAt
/-- A step as it lies in memory: words. -/
structure SRaw where
  P : List Nat
  G : List Nat
  Q : List (List Nat)
/-- A value that is a number's words. -/
def RdNat (w : World) (B : Nat) (v : Value) (l : List Nat) : Prop := ∃ A c, v = .slice A l.length c ∧ Rd .u64 w B A l ∧ l.length ≤ c ∧ Words l ∧ l.length ≤ 17592186044416
/-- A slice of numbers. -/
def RdNats (w : World) (B : Nat) (A : Option Addr) (ms : List (List Nat)) : Prop :=
  0 < ms.length → ∃ b off, A = some ⟨b, off, none⟩ ∧ b < B ∧ ∀ j (hj : j < ms.length), ∃ v, w.cell? ⟨b, off + j, none⟩ = some v ∧ RdNat w B v ms[j]
/-- A value that is a slice of numbers. -/
def RdQ (w : World) (B : Nat) (v : Value) (ms : List (List Nat)) : Prop := ∃ A c, v = .slice A ms.length c ∧ RdNats w B A ms ∧ ms.length ≤ c ∧ ms.length ≤ 140737488351232
/-- A slice of steps. -/
def RdSteps (w : World) (B : Nat) (A : Option Addr) (ss : List SRaw) : Prop :=
  0 < ss.length → ∃ b off, A = some ⟨b, off, none⟩ ∧ b < B ∧ ∀ j (hj : j < ss.length), ∃ vP vG vQ,
    w.cell? ⟨b, off + j * 3, none⟩ = some vP ∧ w.cell? ⟨b, off + j * 3 + 1, none⟩ = some vG ∧ w.cell? ⟨b, off + j * 3 + 2, none⟩ = some vQ ∧
    RdNat w B vP ss[j].P ∧ RdNat w B vG ss[j].G ∧ RdQ w B vQ ss[j].Q
section
variable {H : Type} {enc : TypeId × Value → H} {W : World} {fuel : Nat} {cs : List Value} {x : DataW H × List MemPlace}
end
end Go.Proofs.YtjpfcdgaepdcdaaGreat

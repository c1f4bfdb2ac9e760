/- Several texts in one; each begins with a remark that says what it shows and on which conditions. -/
import Derived.Test.YtabcmdhjbjioiaaDoorKac
import Derived.Test.YtabcmdhjbjioiaaDoorKaj
import Derived.WalkKit
import Derived.ProofKit
import Derived.OpenShut
import Derived.ShutString
import Derived.ChangeOld
import Derived.Below
import Derived.Test.YtabcmdhjbjioiaaDoorRows
import Derived.LaidMore
import Derived.Stop.Joined
/- For the frame of each law's proof: a slice of bytes or of words that came in reads as a list of numbers. No condition but those typed. -/
namespace Go.Proofs.YtabcmdhjbjioiaaDoor
open Go.RowKit
theorem fcell_lt {w : World} {p : Addr} {v : Value} (h : w.cell? p = some v) : p.block < w.heap.size := by
  rcases Nat.lt_or_ge p.block w.heap.size with h1 | h1
  · exact h1
  · simp [World.cell?, Array.getElem?_eq_none h1] at h
theorem row_nat {k : IntKind} {w : World} {x : Addr} {len cap : Nat} {zs : List Int} (M : Nat) (hl : len ≤ cap) (hz : zs.length = cap) (hcell : ∀ i, i < zs.length → w.cell? (x.add i) = some (.int k (zs.getD i 0)))
    (hw : ∀ n ∈ zs, 0 ≤ n ∧ n < M) : ∃ l : List Nat, l.length = len ∧ Rd k w w.heap.size (some x) l ∧ ∀ y ∈ l, y < M := by
  refine ⟨(zs.take len).map Int.toNat, by simp; omega, fun hlt => ?_, fun y hy => ?_⟩
  · have hlen : 0 < len := by simp at hlt; omega
    have h0 := hcell 0 (by omega)
    obtain ⟨b, off, spot⟩ := x
    have hs : spot = none := by simpa [Addr.add] using World.cell?_spot h0
    subst hs
    refine ⟨b, off, rfl, by simpa [Addr.add] using fcell_lt h0, fun j hj => ?_⟩
    have hj' : j < len ∧ j < zs.length := by simp at hj; omega
    have h1 := hcell j hj'.2
    rw [Addr.add_lit] at h1
    rw [h1]
    have h2 := hw zs[j] (List.getElem_mem hj'.2)
    simp only [nth, List.getD_eq_getElem?_getD, List.getElem?_map, List.getElem?_take, hj'.1, if_true, List.getElem?_eq_getElem hj'.2, Option.map_some, Option.getD_some]
    rw [Int.toNat_of_nonneg h2.1]
  · simp only [List.mem_map] at hy
    obtain ⟨z, hz1, rfl⟩ := hy
    have := hw z (List.mem_of_mem_take hz1)
    omega
theorem row_u64 {w : World} {x : Addr} {len cap : Nat} {zs : List Int} (hl : len ≤ cap) (hz : zs.length = cap) (hcell : ∀ i, i < zs.length → w.cell? (x.add i) = some (.int .u64 (zs.getD i 0)))
    (hw : ∀ n ∈ zs, (Lit.int .u64 n).wf = true) : ∃ l : List Nat, l.length = len ∧ Rd .u64 w w.heap.size (some x) l ∧ Words l :=
  row_nat 18446744073709551616 hl hz hcell fun n hn => by
    have h : 0 ≤ n ∧ n ≤ 18446744073709551615 := by simpa [Lit.wf, IntKind.min, IntKind.max, IntKind.signed, IntKind.bits] using hw n hn
    omega
end Go.Proofs.YtabcmdhjbjioiaaDoor
/- What the row says of math/bits' table is what the walks ask of memory; and the program's own start meets it. No condition beyond the row's own. -/
namespace Go.Proofs.YtabcmdhjbjioiaaDoor
open Go.RowKit Go.ChangeShapes Go.WideShapes Go.ChangeAt Go.WideElems
def laid8 : List (String × DataW Unit) := [("math/bits.deBruijn64tab", Rows.laid_math_bits_deBruijn64tab)]
theorem ints_of_trod8 {H : Type} {enc : TypeId × Value → H} {P : Program} {w : World} {base : Nat} {spare : Nat → Bool} {held : Bool} {fuel : Nat} {t e : TypeId} {n : Nat} {cs : List Value} {p : List MemPlace} (ht : P.underlying t = some (.array n e)) (he : P.underlying e = some (.int .u8)) (hc1 : P.cellsOf e = 1) (hct : P.cellsOf t = n)
    (l : List Nat) (hl : l.length = n) (h : DataW.trod enc P w base spare held fuel t cs = some (.agg (l.map fun x : Nat => .lit (.int .u8 (x : Int))), p)) : cs = ints .u8 l := by
  obtain ⟨xs, m, rfl, hx, hlen, hn, hel⟩ := DataW.trod_array ht h
  simp only [Prod.mk.injEq, DataW.agg.injEq] at hx
  rw [hct] at hlen
  refine List.ext_getElem (by rw [hlen, length_ints, hl]) fun j h1 h2 => ?_
  have hj : j < n := by omega
  have h3 := hel j hj
  rw [hc1, Nat.mul_one, List.getElem?_eq_getElem (by omega)] at h3
  obtain ⟨k, e1, e2, _⟩ := DataW.trod_int he h3
  have h4 : (l.map fun x : Nat => (DataW.lit (.int .u8 (x : Int)) : DataW H))[j]? = (xs.map (·.1))[j]? := by rw [hx.1]
  rw [List.getElem?_map, List.getElem?_map, List.getElem?_eq_getElem (by omega), List.getElem?_eq_getElem (by omega), e2] at h4
  have hk : k = ((l[j] : Nat) : Int) := by simpa using h4.symm
  have h5 : cs[j]? = some (.int .u8 k) := by
    have := congrArg (·[0]?) e1
    simpa using this
  rw [List.getElem?_eq_getElem h1] at h5
  have h6 := ints_get .u8 l j (by omega)
  rw [List.getElem?_eq_getElem h2] at h6
  rw [Option.some.inj h5, Option.some.inj h6, hk]
  simp [nth, show j < l.length by omega]
theorem row_whole8 {W : World} {g n : Nat} {cs : Array Value} {ps : List MemPlace} (hsub : ∀ x ∈ MemPlace.row ⟨g, 0, none⟩ cs.size, x ∈ ps) (hn : cs.size = n) (h0 : 0 < n) (hv : ∃ t fr, W.heap[g]? = some (.cells cs t fr))
    (h : ∀ b off, MemPlace.cell b off ∈ ps → ∃ c t, W.heap[b]? = some (.cells c t (0, 0))) : ∃ t, W.heap[g]? = some (.cells cs t (0, 0)) := by
  obtain ⟨t, fr, hv⟩ := hv
  obtain ⟨c, t2, h2⟩ := h g 0 (hsub _ (MemPlace.mem_row.2 ⟨0, by omega, rfl⟩))
  rw [hv] at h2
  cases h2
  exact ⟨t, hv⟩
theorem var_row8 {P : Program} {W : World} {n : String} {g : Nat} {cs : Array Value} (hg : P.globalNamed n = some g) (h : W.var? P n = some cs) : ∃ t fr, W.heap[g]? = some (.cells cs t fr) := by
  unfold World.var? at h
  rw [hg] at h
  simp only [Option.bind_some] at h
  split at h
  · rename_i c t fr hh
    cases h
    exact ⟨t, fr, hh⟩
  · cases h
theorem laid_of {W : World} (h : laidMetH Tryd.prog laid8 W) : Laid8 W := by
  rw [MakeChecks.laidMetH_plain _ _ _ (by kernel_rfl)] at h
  obtain ⟨ps, ⟨g0, t0, cs0, f0, p0, q0, hg0, ht0, hv0, hd0, hq0, rfl⟩, _, hall⟩ := h
  obtain rfl := Option.some.inj ((show Tryd.prog.globalNamed "math/bits.deBruijn64tab" = some 2 by kernel_rfl).symm.trans hg0)
  obtain rfl := Option.some.inj ((show (Tryd.prog.globals[2]?).map (·.type) = some 102 by kernel_rfl).symm.trans ht0)
  have e0 := ints_of_trod8 Tryd.underlying102 Tryd.underlying5 (by kernel_rfl) (by kernel_rfl) Lib.deBruijn64tab rfl hd0
  have s0 : cs0.size = 64 := by rw [← Array.length_toList, e0]; rfl
  have r0 : cs0 = (ints .u8 Lib.deBruijn64tab).toArray := by rw [← e0]
  unfold Laid8
  rw [← r0]
  exact row_whole8 (fun x hx => List.mem_append_left _ (List.mem_append_left _ hx)) s0 (by omega) (var_row8 hg0 hv0) (fun b off hb => (hall b off hb).1)
theorem door_met (os : Os) (args : Array Value) : laidMetH Tryd.prog laid8 ((World.doorLaid Tryd.prog 400 os).forCall (fun _ _ => 0) ⟨#[], args, []⟩).memory :=
  laidMetH_of_parts3 (fuel := 8) (laidMet_of_run' 8 (by kernel_rfl) (by kernel_rfl)) (by kernel_rfl) (by kernel_rfl)
end Go.Proofs.YtabcmdhjbjioiaaDoor

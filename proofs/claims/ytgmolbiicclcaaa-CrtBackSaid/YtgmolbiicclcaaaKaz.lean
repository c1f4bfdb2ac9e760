/- Several texts in one; each begins with a remark that says what it shows and on which conditions. -/
import Derived.Test.YtgmolbiicclcaaaKaa
import Derived.Test.YtgmolbiicclcaaaKav
import Derived.WalkKit
import Derived.ProofKit
import Derived.OpenShut
import Derived.ShutString
import Derived.ChangeOld
import Derived.Below
import Derived.Test.YtgmolbiicclcaaaProg
import Derived.SizedLaws
import Derived.Deep.Strs
import Derived.ChangeSame
/- For the frame of each law's proof: a slice of bytes or of words that came in reads as a list of numbers. No condition but those typed. -/
namespace Go.Proofs.Ytgmolbiicclcaaa
open Go.RowKit
theorem fcell_lt {w : World} {p : Addr} {v : Value} (h : w.cell? p = some v) : p.block < w.heap.size := by
  rcases Nat.lt_or_ge p.block w.heap.size with h1 | h1
  · exact h1
  · simp [World.cell?, Array.getElem?_eq_none h1] at h
theorem row_nat {k : IntKind} {w : World} {x : Addr} {len cap : Nat} {zs : List Int} (M : Nat) (hl : len ≤ cap) (hz : zs.length = cap) (hcell : ∀ i, i < zs.length → w.cell? (x.add i) = some (.int k (zs.getD i 0)))
    (hw : ∀ n ∈ zs, 0 ≤ n ∧ n < M) : ∃ l : List Nat, l.length = len ∧ Rd k w w.heap.size (some x) l ∧ ∀ y ∈ l, y < M := by
  refine ⟨(zs.take len).map Int.toNat, by simp; omega, fun hlt => ?_, fun y hy => ?_⟩
  · have hlen : 0 < len := by simp at hlt; omega
    have h0 := hcell 0 (by omega)
    obtain ⟨b, off, spot⟩ := x
    have hs : spot = none := by simpa [Addr.add] using World.cell?_spot h0
    subst hs
    refine ⟨b, off, rfl, by simpa [Addr.add] using fcell_lt h0, fun j hj => ?_⟩
    have hj' : j < len ∧ j < zs.length := by simp at hj; omega
    have h1 := hcell j hj'.2
    rw [Addr.add_lit] at h1
    rw [h1]
    have h2 := hw zs[j] (List.getElem_mem hj'.2)
    simp only [nth, List.getD_eq_getElem?_getD, List.getElem?_map, List.getElem?_take, hj'.1, if_true, List.getElem?_eq_getElem hj'.2, Option.map_some, Option.getD_some]
    rw [Int.toNat_of_nonneg h2.1]
  · simp only [List.mem_map] at hy
    obtain ⟨z, hz1, rfl⟩ := hy
    have := hw z (List.mem_of_mem_take hz1)
    omega
def Halves (l : List Nat) : Prop := ∀ x ∈ l, x < 65536
theorem row_u16 {w : World} {x : Addr} {len cap : Nat} {zs : List Int} (hl : len ≤ cap) (hz : zs.length = cap) (hcell : ∀ i, i < zs.length → w.cell? (x.add i) = some (.int .u16 (zs.getD i 0)))
    (hw : ∀ n ∈ zs, (Lit.int .u16 n).wf = true) : ∃ l : List Nat, l.length = len ∧ Rd .u16 w w.heap.size (some x) l ∧ Halves l :=
  row_nat 65536 hl hz hcell fun n hn => by
    have h : 0 ≤ n ∧ n ≤ 65535 := by simpa [Lit.wf, IntKind.min, IntKind.max, IntKind.signed, IntKind.bits] using hw n hn
    omega
end Go.Proofs.Ytgmolbiicclcaaa
/- For the frame of laws over rests: a slice of rests (each two integers) that came in reads as a list. No condition but those typed. -/
namespace Go.Proofs.Ytgmolbiicclcaaa
open Go.RowKit Go.ChangeShapes Go.WideShapes Go.ChangeAt
/-- A slice of pairs of integers. -/
def RdPairs (w : World) (A : Option Addr) (ss : List CR) : Prop :=
  0 < ss.length → ∃ b off, A = some ⟨b, off, none⟩ ∧ b < w.heap.size ∧ ∀ j (hj : j < ss.length),
    w.cell? ⟨b, off + j * 2, none⟩ = some (.int .u64 (ss[j].m : Int)) ∧ w.cell? ⟨b, off + j * 2 + 1, none⟩ = some (.int .u64 (ss[j].r : Int))
/-- Numbers of one word. -/
def WordC (ss : List CR) : Prop := ∀ s ∈ ss, s.m < 18446744073709551616 ∧ s.r < 18446744073709551616
theorem RdPairs.step {w w' : World} {A : Option Addr} {ss : List CR} (h : RdPairs w A ss) (b : Below w.heap.size w w') : RdPairs w' A ss := fun h0 => by
  obtain ⟨g, off, e, hg, hall⟩ := h h0
  refine ⟨g, off, e, Nat.lt_of_lt_of_le hg b.size, fun j hj => ?_⟩
  obtain ⟨h1, h2⟩ := hall j hj
  exact ⟨(b.cell (p := ⟨g, off + j * 2, none⟩) hg).trans h1, (b.cell (p := ⟨g, off + j * 2 + 1, none⟩) hg).trans h2⟩
theorem list_choice21 {α : Type} {P : Nat → α → Prop} : ∀ n : Nat, (∀ i, i < n → ∃ l, P i l) → ∃ ms : List α, ms.length = n ∧ ∀ j (hj : j < ms.length), P j ms[j]
  | 0, _ => ⟨[], rfl, fun j hj => by cases hj⟩
  | n + 1, h => by
    obtain ⟨ms, hl, hp⟩ := list_choice21 n fun i hi => h i (by omega)
    obtain ⟨l, hll⟩ := h n (by omega)
    refine ⟨ms ++ [l], by simp [hl], fun j hj => ?_⟩
    rcases Nat.lt_or_ge j ms.length with h1 | h1
    · rw [List.getElem_append_left h1]
      exact hp j h1
    · obtain rfl : j = n := by simp at hj; omega
      rw [List.getElem_append_right h1]
      simpa [hl] using hll
theorem addr_plain21 {W : World} {a : Addr} {v : Value} (h : W.cell? (a.add 0) = some v) : ∃ b off, a = ⟨b, off, none⟩ ∧ b < W.heap.size := by
  obtain ⟨b, off, spot⟩ := a
  have hs : spot = none := by simpa [Addr.add] using World.cell?_spot h
  subst hs
  exact ⟨b, off, rfl, by simpa [Addr.add] using fcell_lt h⟩
theorem addr_add21 (a : Addr) (i j : Nat) : (a.add i).add j = a.add (i + j) := by
  unfold Addr.add
  by_cases hi : i = 0 <;> by_cases hj : j = 0 <;> simp [hi, hj, Nat.add_assoc]
theorem cells_two21 {W : World} {a : Addr} {x y : Value} (h : W.cells? 0 a 2 = some [x, y]) : W.cell? (a.add 0) = some x ∧ W.cell? (a.add 1) = some y := by
  obtain ⟨_, _, h1⟩ := World.cells?_some h
  exact ⟨by simpa using h1 0 (by omega), by simpa using h1 1 (by omega)⟩
section
variable {H : Type} {enc : TypeId × Value → H} {W : World} {fuel : Nat} {cs : List Value} {x : DataW H × List MemPlace}
theorem u64_open21 {t : TypeId} (ht : Try.prog.underlying t = some (.int .u64)) (h : DataW.trod enc Try.prog W 0 (fun _ => true) true fuel t cs = some x) : ∃ n : Nat, cs = [.int .u64 (n : Int)] ∧ n < 18446744073709551616 := by
  obtain ⟨n, rfl, _, hw⟩ := DataW.trod_int ht h
  have h : 0 ≤ n ∧ n ≤ 18446744073709551615 := by simpa [Lit.wf, IntKind.min, IntKind.max, IntKind.signed, IntKind.bits] using hw
  exact ⟨n.toNat, by rw [Int.toNat_of_nonneg h.1], by omega⟩
theorem pair_open21 (h : DataW.trod enc Try.prog W 0 (fun _ => true) true fuel 26 cs = some x) :
    ∃ s : CR, cs = [.int .u64 (s.m : Int), .int .u64 (s.r : Int)] ∧ s.m < 18446744073709551616 ∧ s.r < 18446744073709551616 := by
  obtain ⟨y0, y1, n, _, hl, h0, h1⟩ := trod_struct2 Try.underlying26 h
  have hc : Try.prog.cellsOf 26 = 2 := by kernel_rfl
  have hn : Try.prog.cellsOf 24 = 1 := by kernel_rfl
  rw [hc] at hl
  simp only [hn] at h0 h1
  match cs, hl with
  | [c0, c1], _ =>
    simp only [List.drop_zero, List.drop_succ_cons, List.take_succ_cons, List.take_zero] at h0 h1
    obtain ⟨a, e0, r0⟩ := u64_open21 Try.underlying24 h0
    obtain ⟨b, e1, r1⟩ := u64_open21 Try.underlying24 h1
    injection e0 with e0 _
    injection e1 with e1 _
    subst e0 e1
    exact ⟨⟨a, b⟩, rfl, r0, r1⟩
theorem rests_open (h : DataW.trod enc Try.prog W 0 (fun _ => true) true fuel 22 cs = some x) (hw : (x.1.weights Try.prog 22).all (· ≤ reachBytes) = true) :
    ∃ (ss : List CR) (A : Option Addr) (c : Nat), cs = [.slice A ss.length c] ∧ (RdPairs W A ss ∧ WordC ss) ∧ ss.length ≤ c ∧ ss.length ≤ 140737488351232 := by
  rcases DataW.trod_slice Try.underlying22 h with ⟨rfl, _⟩ | ⟨a, len, cap, elems, rest, n, _, rfl, rfl, _, hl, _, hlen, hel, _, _⟩
  · exact ⟨[], none, 0, rfl, ⟨(fun h => by cases h), by simp [WordC]⟩, Nat.le_refl _, by simp⟩
  · have hc : Try.prog.cellsOf 26 = 2 := by kernel_rfl
    have hb : Try.prog.bytesOf 26 = 16 := by kernel_rfl
    have each : ∀ i, i < len → ∃ s : CR, (W.cell? (a.add (i * 2)) = some (.int .u64 (s.m : Int)) ∧ W.cell? (a.add (i * 2 + 1)) = some (.int .u64 (s.r : Int))) ∧ s.m < 18446744073709551616 ∧ s.r < 18446744073709551616 := by
      intro i hi
      have h1 := hel i hi
      rw [hc, List.getElem?_eq_getElem (by omega), Option.bind_eq_some_iff] at h1
      obtain ⟨c1, hc1, hy⟩ := h1
      obtain ⟨s, rfl, h2⟩ := pair_open21 hy
      obtain ⟨k0, k1⟩ := cells_two21 hc1
      rw [addr_add21] at k0 k1
      exact ⟨s, ⟨k0, k1⟩, h2⟩
    obtain ⟨ss, hss, hall⟩ := list_choice21 len each
    subst hss
    have := List.all_eq_true.1 hw (((elems.map (·.1)).length + (rest.map (·.1)).length) * 16) (by simp [DataW.weights, Try.underlying22, hb])
    simp only [List.length_map, reachBytes, decide_eq_true_eq] at this
    refine ⟨ss, some a, cap, rfl, ⟨fun h0 => ?_, fun s hs => ?_⟩, hl, by omega⟩
    · obtain ⟨⟨h1, _⟩, _⟩ := hall 0 h0
      obtain ⟨b, off, rfl, hb⟩ := addr_plain21 (by simpa using h1)
      refine ⟨b, off, rfl, hb, fun j hj => ?_⟩
      obtain ⟨⟨h1, h2⟩, _⟩ := hall j hj
      rw [Addr.add_lit] at h1
      rw [Addr.add_lit, ← Nat.add_assoc] at h2
      exact ⟨h1, h2⟩
    · obtain ⟨i, hi, rfl⟩ := List.mem_iff_getElem.1 hs
      exact (hall i hi).2
end
end Go.Proofs.Ytgmolbiicclcaaa

/- Several texts in one; each begins with a remark that says what it shows and on which conditions. -/
import Derived.Test.YtjpfcdgaepdcdaaGreatKaa
import Derived.WalkKit
import Derived.ProofKit
import Derived.OpenShut
import Derived.ShutString
import Derived.ChangeOld
import Derived.Below
import Derived.Test.YtjpfcdgaepdcdaaGreatProg
import Derived.SizedLaws
import Derived.Deep.Strs
/- For the frame of each law's proof: a slice of bytes or of words that came in reads as a list of numbers. No condition but those typed. -/
namespace Go.Proofs.YtjpfcdgaepdcdaaGreat
open Go.RowKit
theorem fcell_lt {w : World} {p : Addr} {v : Value} (h : w.cell? p = some v) : p.block < w.heap.size := by
  rcases Nat.lt_or_ge p.block w.heap.size with h1 | h1
  · exact h1
  · simp [World.cell?, Array.getElem?_eq_none h1] at h
theorem row_nat {k : IntKind} {w : World} {x : Addr} {len cap : Nat} {zs : List Int} (M : Nat) (hl : len ≤ cap) (hz : zs.length = cap) (hcell : ∀ i, i < zs.length → w.cell? (x.add i) = some (.int k (zs.getD i 0)))
    (hw : ∀ n ∈ zs, 0 ≤ n ∧ n < M) : ∃ l : List Nat, l.length = len ∧ Rd k w w.heap.size (some x) l ∧ ∀ y ∈ l, y < M := by
  refine ⟨(zs.take len).map Int.toNat, by simp; omega, fun hlt => ?_, fun y hy => ?_⟩
  · have hlen : 0 < len := by simp at hlt; omega
    have h0 := hcell 0 (by omega)
    obtain ⟨b, off, spot⟩ := x
    have hs : spot = none := by simpa [Addr.add] using World.cell?_spot h0
    subst hs
    refine ⟨b, off, rfl, by simpa [Addr.add] using fcell_lt h0, fun j hj => ?_⟩
    have hj' : j < len ∧ j < zs.length := by simp at hj; omega
    have h1 := hcell j hj'.2
    rw [Addr.add_lit] at h1
    rw [h1]
    have h2 := hw zs[j] (List.getElem_mem hj'.2)
    simp only [nth, List.getD_eq_getElem?_getD, List.getElem?_map, List.getElem?_take, hj'.1, if_true, List.getElem?_eq_getElem hj'.2, Option.map_some, Option.getD_some]
    rw [Int.toNat_of_nonneg h2.1]
  · simp only [List.mem_map] at hy
    obtain ⟨z, hz1, rfl⟩ := hy
    have := hw z (List.mem_of_mem_take hz1)
    omega
theorem row_u64 {w : World} {x : Addr} {len cap : Nat} {zs : List Int} (hl : len ≤ cap) (hz : zs.length = cap) (hcell : ∀ i, i < zs.length → w.cell? (x.add i) = some (.int .u64 (zs.getD i 0)))
    (hw : ∀ n ∈ zs, (Lit.int .u64 n).wf = true) : ∃ l : List Nat, l.length = len ∧ Rd .u64 w w.heap.size (some x) l ∧ Words l :=
  row_nat 18446744073709551616 hl hz hcell fun n hn => by
    have h : 0 ≤ n ∧ n ≤ 18446744073709551615 := by simpa [Lit.wf, IntKind.min, IntKind.max, IntKind.signed, IntKind.bits] using hw n hn
    omega
end Go.Proofs.YtjpfcdgaepdcdaaGreat
/- For the frame of laws over certificates: a slice of steps (each two numbers and a slice of numbers) that came in reads as a list. No condition but those typed. -/
namespace Go.Proofs.YtjpfcdgaepdcdaaGreat
open Go.RowKit Go.ChangeShapes Go.WideShapes Go.ChangeAt
/-- A step as it lies in memory: words. -/
structure SRaw where
  P : List Nat
  G : List Nat
  Q : List (List Nat)
/-- A value that is a number's words. -/
def RdNat (w : World) (B : Nat) (v : Value) (l : List Nat) : Prop := ∃ A c, v = .slice A l.length c ∧ Rd .u64 w B A l ∧ l.length ≤ c ∧ Words l ∧ l.length ≤ 17592186044416
/-- A slice of numbers. -/
def RdNats (w : World) (B : Nat) (A : Option Addr) (ms : List (List Nat)) : Prop :=
  0 < ms.length → ∃ b off, A = some ⟨b, off, none⟩ ∧ b < B ∧ ∀ j (hj : j < ms.length), ∃ v, w.cell? ⟨b, off + j, none⟩ = some v ∧ RdNat w B v ms[j]
/-- A value that is a slice of numbers. -/
def RdQ (w : World) (B : Nat) (v : Value) (ms : List (List Nat)) : Prop := ∃ A c, v = .slice A ms.length c ∧ RdNats w B A ms ∧ ms.length ≤ c ∧ ms.length ≤ 140737488351232
/-- A slice of steps. -/
def RdSteps (w : World) (B : Nat) (A : Option Addr) (ss : List SRaw) : Prop :=
  0 < ss.length → ∃ b off, A = some ⟨b, off, none⟩ ∧ b < B ∧ ∀ j (hj : j < ss.length), ∃ vP vG vQ,
    w.cell? ⟨b, off + j * 3, none⟩ = some vP ∧ w.cell? ⟨b, off + j * 3 + 1, none⟩ = some vG ∧ w.cell? ⟨b, off + j * 3 + 2, none⟩ = some vQ ∧
    RdNat w B vP ss[j].P ∧ RdNat w B vG ss[j].G ∧ RdQ w B vQ ss[j].Q
theorem list_choice11 {α : Type} {P : Nat → α → Prop} : ∀ n : Nat, (∀ i, i < n → ∃ l, P i l) → ∃ ms : List α, ms.length = n ∧ ∀ j (hj : j < ms.length), P j ms[j]
  | 0, _ => ⟨[], rfl, fun j hj => by cases hj⟩
  | n + 1, h => by
    obtain ⟨ms, hl, hp⟩ := list_choice11 n fun i hi => h i (by omega)
    obtain ⟨l, hll⟩ := h n (by omega)
    refine ⟨ms ++ [l], by simp [hl], fun j hj => ?_⟩
    rcases Nat.lt_or_ge j ms.length with h1 | h1
    · rw [List.getElem_append_left h1]
      exact hp j h1
    · obtain rfl : j = n := by simp at hj; omega
      rw [List.getElem_append_right h1]
      simpa [hl] using hll
theorem weights_all11 {H : Type} {P : Program} {e : TypeId} {d : DataW H} : ∀ {ds : List (DataW H)}, d ∈ ds → ∀ x ∈ d.weights P e, x ∈ DataW.weightsAll P e ds
  | c :: r, hd, x, hx => by
    unfold DataW.weightsAll
    rcases List.mem_cons.1 hd with rfl | h
    · exact List.mem_append_left _ hx
    · exact List.mem_append_right _ (weights_all11 h x hx)
theorem addr_plain11 {W : World} {a : Addr} {v : Value} (h : W.cell? (a.add 0) = some v) : ∃ b off, a = ⟨b, off, none⟩ ∧ b < W.heap.size := by
  obtain ⟨b, off, spot⟩ := a
  have hs : spot = none := by simpa [Addr.add] using World.cell?_spot h
  subst hs
  exact ⟨b, off, rfl, by simpa [Addr.add] using fcell_lt h⟩
theorem addr_add11 (a : Addr) (i j : Nat) : (a.add i).add j = a.add (i + j) := by
  unfold Addr.add
  by_cases hi : i = 0 <;> by_cases hj : j = 0 <;> simp [hi, hj, Nat.add_assoc]
theorem cells_three11 {W : World} {a : Addr} {x y z : Value} (h : W.cells? 0 a 3 = some [x, y, z]) : W.cell? (a.add 0) = some x ∧ W.cell? (a.add 1) = some y ∧ W.cell? (a.add 2) = some z := by
  obtain ⟨_, _, h1⟩ := World.cells?_some h
  exact ⟨by simpa using h1 0 (by omega), by simpa using h1 1 (by omega), by simpa using h1 2 (by omega)⟩
section
variable {H : Type} {enc : TypeId × Value → H} {W : World} {fuel : Nat} {cs : List Value} {x : DataW H × List MemPlace}
theorem nat_open (h : DataW.trod enc Tryz.prog W 0 (fun _ => true) true fuel 33 cs = some x) (hw : (x.1.weights Tryz.prog 33).all (· ≤ reachBytes) = true) :
    ∃ (v : Value) (l : List Nat), cs = [v] ∧ RdNat W W.heap.size v l := by
  rcases open_ints Tryz.underlying33 Tryz.underlying27 (by kernel_rfl) h with ⟨rfl, _⟩ | ⟨a, len, cap, zs, rfl, _, hl, hm, hz, rfl, hcell, hwz⟩
  · exact ⟨_, [], rfl, none, 0, rfl, Rd.nil, by simp, (by intro x hx; cases hx), by simp⟩
  · have hz' : zs.length = cap := by simpa using hz
    obtain ⟨l, h1, h2, h3⟩ := row_u64 hl hz' hcell hwz
    subst h1
    have hb : Tryz.prog.bytesOf 27 = 8 := by kernel_rfl
    have := List.all_eq_true.1 hw ((lits .u64 (zs.take l.length) : List (DataW H)).length * 8 + (lits .u64 (zs.drop l.length) : List (DataW H)).length * 8) (by simp [DataW.weights, Tryz.underlying33, hb, Nat.add_mul])
    simp only [lits, List.length_map, List.length_take, List.length_drop, reachBytes, decide_eq_true_eq] at this
    exact ⟨_, l, rfl, some a, cap, rfl, h2, hl, h3, by omega⟩
theorem nats_open (h : DataW.trod enc Tryz.prog W 0 (fun _ => true) true fuel 35 cs = some x) (hw : (x.1.weights Tryz.prog 35).all (· ≤ reachBytes) = true) :
    ∃ (v : Value) (ms : List (List Nat)), cs = [v] ∧ RdQ W W.heap.size v ms := by
  rcases DataW.trod_slice Tryz.underlying35 h with ⟨rfl, _⟩ | ⟨a, len, cap, elems, rest, n, _, rfl, rfl, _, hl, _, hlen, hel, _, _⟩
  · exact ⟨_, [], rfl, none, 0, rfl, (fun h => by cases h), Nat.le_refl _, by simp⟩
  · have hc : Tryz.prog.cellsOf 33 = 1 := by kernel_rfl
    have hb : Tryz.prog.bytesOf 33 = 24 := by kernel_rfl
    have each : ∀ i, i < len → ∃ l : List Nat, ∃ v, W.cell? (a.add i) = some v ∧ RdNat W W.heap.size v l := by
      intro i hi
      have h1 := hel i hi
      rw [hc, Nat.mul_one, List.getElem?_eq_getElem (by omega), Option.bind_eq_some_iff] at h1
      obtain ⟨c1, hc1, hy⟩ := h1
      obtain ⟨v, l, rfl, h2⟩ := nat_open hy (by
        refine List.all_eq_true.2 fun y hy2 => ?_
        refine List.all_eq_true.1 hw y ?_
        simp only [DataW.weights, Tryz.underlying35]
        exact List.mem_cons_of_mem _ (List.mem_append_left _ (weights_all11 (List.mem_map_of_mem (List.getElem_mem (by omega))) y hy2)))
      exact ⟨l, v, cell_of_cells?_one hc1, h2⟩
    obtain ⟨ms, hms, hall⟩ := list_choice11 len each
    subst hms
    have := List.all_eq_true.1 hw (((elems.map (·.1)).length + (rest.map (·.1)).length) * 24) (by simp [DataW.weights, Tryz.underlying35, hb])
    simp only [List.length_map, reachBytes, decide_eq_true_eq] at this
    refine ⟨_, ms, rfl, some a, cap, rfl, fun h0 => ?_, hl, by omega⟩
    obtain ⟨v, h1, _⟩ := hall 0 h0
    obtain ⟨b, off, rfl, hb⟩ := addr_plain11 h1
    refine ⟨b, off, rfl, hb, fun j hj => ?_⟩
    obtain ⟨v, h1, h2⟩ := hall j hj
    rw [Addr.add_lit] at h1
    exact ⟨v, h1, h2⟩
theorem step_open (h : DataW.trod enc Tryz.prog W 0 (fun _ => true) true fuel 37 cs = some x) (hw : (x.1.weights Tryz.prog 37).all (· ≤ reachBytes) = true) :
    ∃ (vP vG vQ : Value) (s : SRaw), cs = [vP, vG, vQ] ∧ RdNat W W.heap.size vP s.P ∧ RdNat W W.heap.size vG s.G ∧ RdQ W W.heap.size vQ s.Q := by
  obtain ⟨y0, y1, y2, n, rfl, hl, h0, h1, h2⟩ := Go.Deep.trod_struct3 Tryz.underlying37 h
  have hc : Tryz.prog.cellsOf 37 = 3 := by kernel_rfl
  have hn : Tryz.prog.cellsOf 33 = 1 := by kernel_rfl
  have hq : Tryz.prog.cellsOf 35 = 1 := by kernel_rfl
  rw [hc] at hl
  simp only [hn, hq] at h0 h1 h2
  match cs, hl with
  | [c0, c1, c2], _ =>
    simp only [List.drop_zero, List.drop_succ_cons, List.take_succ_cons, List.take_zero] at h0 h1 h2
    have hw' : ∀ y, (y ∈ y0.1.weights Tryz.prog 33 ∨ y ∈ y1.1.weights Tryz.prog 33 ∨ y ∈ y2.1.weights Tryz.prog 35) → decide (y ≤ reachBytes) = true := fun y hy => by
      refine List.all_eq_true.1 hw y ?_
      simp only [DataW.weights, Tryz.underlying37]
      simp only [DataW.weightsEach, List.map_cons, List.map_nil, List.append_nil]
      rcases hy with hy | hy | hy
      · exact List.mem_append_left _ hy
      · exact List.mem_append_right _ (List.mem_append_left _ hy)
      · exact List.mem_append_right _ (List.mem_append_right _ hy)
    obtain ⟨vP, lP, e0, r0⟩ := nat_open h0 (List.all_eq_true.2 fun y hy => hw' y (.inl hy))
    obtain ⟨vG, lG, e1, r1⟩ := nat_open h1 (List.all_eq_true.2 fun y hy => hw' y (.inr (.inl hy)))
    obtain ⟨vQ, lQ, e2, r2⟩ := nats_open h2 (List.all_eq_true.2 fun y hy => hw' y (.inr (.inr hy)))
    injection e0 with e0 _
    injection e1 with e1 _
    injection e2 with e2 _
    subst e0 e1 e2
    exact ⟨_, _, _, ⟨lP, lG, lQ⟩, rfl, r0, r1, r2⟩
theorem steps_open (h : DataW.trod enc Tryz.prog W 0 (fun _ => true) true fuel 23 cs = some x) (hw : (x.1.weights Tryz.prog 23).all (· ≤ reachBytes) = true) :
    ∃ (ss : List SRaw) (A : Option Addr) (c : Nat), cs = [.slice A ss.length c] ∧ RdSteps W W.heap.size A ss ∧ ss.length ≤ c ∧ ss.length ≤ 140737488351232 := by
  rcases DataW.trod_slice Tryz.underlying23 h with ⟨rfl, _⟩ | ⟨a, len, cap, elems, rest, n, _, rfl, rfl, _, hl, _, hlen, hel, _, _⟩
  · exact ⟨[], none, 0, rfl, (fun h => by cases h), Nat.le_refl _, by simp⟩
  · have hc : Tryz.prog.cellsOf 37 = 3 := by kernel_rfl
    have hb : Tryz.prog.bytesOf 37 = 72 := by kernel_rfl
    have each : ∀ i, i < len → ∃ s : SRaw, ∃ vP vG vQ, W.cell? (a.add (i * 3)) = some vP ∧ W.cell? (a.add (i * 3 + 1)) = some vG ∧ W.cell? (a.add (i * 3 + 2)) = some vQ ∧ RdNat W W.heap.size vP s.P ∧ RdNat W W.heap.size vG s.G ∧ RdQ W W.heap.size vQ s.Q := by
      intro i hi
      have h1 := hel i hi
      rw [hc, List.getElem?_eq_getElem (by omega), Option.bind_eq_some_iff] at h1
      obtain ⟨c1, hc1, hy⟩ := h1
      obtain ⟨vP, vG, vQ, s, rfl, h2, h3, h4⟩ := step_open hy (by
        refine List.all_eq_true.2 fun y hy2 => ?_
        refine List.all_eq_true.1 hw y ?_
        simp only [DataW.weights, Tryz.underlying23]
        exact List.mem_cons_of_mem _ (List.mem_append_left _ (weights_all11 (List.mem_map_of_mem (List.getElem_mem (by omega))) y hy2)))
      obtain ⟨k0, k1, k2⟩ := cells_three11 hc1
      rw [addr_add11] at k0 k1 k2
      exact ⟨s, vP, vG, vQ, k0, k1, k2, h2, h3, h4⟩
    obtain ⟨ss, hss, hall⟩ := list_choice11 len each
    subst hss
    have := List.all_eq_true.1 hw (((elems.map (·.1)).length + (rest.map (·.1)).length) * 72) (by simp [DataW.weights, Tryz.underlying23, hb])
    simp only [List.length_map, reachBytes, decide_eq_true_eq] at this
    refine ⟨ss, some a, cap, rfl, fun h0 => ?_, hl, by omega⟩
    obtain ⟨vP, vG, vQ, h1, _⟩ := hall 0 h0
    obtain ⟨b, off, rfl, hb⟩ := addr_plain11 (by simpa using h1)
    refine ⟨b, off, rfl, hb, fun j hj => ?_⟩
    obtain ⟨vP, vG, vQ, h1, h2, h3, h4⟩ := hall j hj
    rw [Addr.add_lit] at h1
    rw [Addr.add_lit, ← Nat.add_assoc] at h2
    rw [Addr.add_lit, ← Nat.add_assoc] at h3
    exact ⟨vP, vG, vQ, h1, h2, h3, h4⟩
end
end Go.Proofs.YtjpfcdgaepdcdaaGreat

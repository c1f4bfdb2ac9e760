/- Several texts in one; each begins with a remark that says what it shows and on which conditions. -/
import Derived.Test.YtjeliomjnalpcaaDoorKbq
import Derived.Test.YtjeliomjnalpcaaDoorKbs
import Derived.SizedLaws
/- For the frame of ShaParts' proof: a slice of slices of bytes, and one of bools, that came in read as lists. No condition but those typed. -/
namespace Go.Proofs.YtjeliomjnalpcaaDoor
open Go.RowKit Go.ChangeShapes Go.WideShapes Go.ChangeAt
theorem list_choice {α : Type} {P : Nat → α → Prop} : ∀ n : Nat, (∀ i, i < n → ∃ l, P i l) → ∃ ms : List α, ms.length = n ∧ ∀ j (hj : j < ms.length), P j ms[j]
  | 0, _ => ⟨[], rfl, fun j hj => by cases hj⟩
  | n + 1, h => by
    obtain ⟨ms, hl, hp⟩ := list_choice n fun i hi => h i (by omega)
    obtain ⟨l, hll⟩ := h n (by omega)
    refine ⟨ms ++ [l], by simp [hl], fun j hj => ?_⟩
    rcases Nat.lt_or_ge j ms.length with h1 | h1
    · rw [List.getElem_append_left h1]
      exact hp j h1
    · obtain rfl : j = n := by simp at hj; omega
      rw [List.getElem_append_right h1]
      simpa [hl] using hll
theorem weights_all {H : Type} {P : Program} {e : TypeId} {d : DataW H} : ∀ {ds : List (DataW H)}, d ∈ ds → ∀ x ∈ d.weights P e, x ∈ DataW.weightsAll P e ds
  | c :: r, hd, x, hx => by
    unfold DataW.weightsAll
    rcases List.mem_cons.1 hd with rfl | h
    · exact List.mem_append_left _ hx
    · exact List.mem_append_right _ (weights_all h x hx)
theorem addr_plain {W : World} {a : Addr} {v : Value} (h : W.cell? (a.add 0) = some v) : ∃ b off, a = ⟨b, off, none⟩ ∧ b < W.heap.size := by
  obtain ⟨b, off, spot⟩ := a
  have hs : spot = none := by simpa [Addr.add] using World.cell?_spot h
  subst hs
  exact ⟨b, off, rfl, by simpa [Addr.add] using fcell_lt h⟩
section
variable {H : Type} {enc : TypeId × Value → H} {W : World} {fuel : Nat} {cs : List Value} {x : DataW H × List MemPlace}
theorem bytes_open (h : DataW.trod enc Tryd.prog W 0 (fun _ => true) true fuel 34 cs = some x) (hw : (x.1.weights Tryd.prog 34).all (· ≤ reachBytes) = true) :
    ∃ (l : List Nat) (A : Option Addr) (c : Nat), cs = [.slice A l.length c] ∧ Rd .u8 W W.heap.size A l ∧ l.length ≤ c ∧ Bytes l ∧ l.length ≤ 140737488351232 := by
  rcases open_ints Tryd.underlying34 Tryd.underlying5 (by kernel_rfl) h with ⟨rfl, _⟩ | ⟨a, len, cap, zs, rfl, _, hl, hm, hz, rfl, hcell, hwz⟩
  · exact ⟨[], none, 0, rfl, Rd.nil, by simp, (by intro x hx; cases hx), by simp⟩
  · have hz' : zs.length = cap := by simpa using hz
    obtain ⟨l, h1, h2, h3⟩ := row_u8 hl hz' hcell hwz
    subst h1
    have hb : Tryd.prog.bytesOf 5 = 1 := by kernel_rfl
    have := List.all_eq_true.1 hw ((lits .u8 (zs.take l.length) : List (DataW H)).length * 1 + (lits .u8 (zs.drop l.length) : List (DataW H)).length * 1) (by simp [DataW.weights, Tryd.underlying34, hb])
    simp only [lits, List.length_map, List.length_take, List.length_drop, reachBytes, decide_eq_true_eq] at this
    exact ⟨l, some a, cap, rfl, h2, hl, h3, by omega⟩
theorem rows_open (h : DataW.trod enc Tryd.prog W 0 (fun _ => true) true fuel 38 cs = some x) (hw : (x.1.weights Tryd.prog 38).all (· ≤ reachBytes) = true) :
    ∃ (ms : List (List Nat)) (A : Option Addr) (c : Nat), cs = [.slice A ms.length c] ∧ RdRows W W.heap.size A ms ∧ (∀ j (hj : j < ms.length), ms[j].length ≤ 140737488351232) ∧ ms.length ≤ c := by
  rcases DataW.trod_slice Tryd.underlying38 h with ⟨rfl, _⟩ | ⟨a, len, cap, elems, rest, n, _, rfl, rfl, _, hl, _, hlen, hel, _, _⟩
  · exact ⟨[], none, 0, rfl, (fun h => by cases h), (fun j hj => by cases hj), Nat.le_refl _⟩
  · have hc : Tryd.prog.cellsOf 34 = 1 := by kernel_rfl
    have each : ∀ i, i < len → ∃ l : List Nat, ∃ X d, W.cell? (a.add i) = some (.slice X l.length d) ∧ Rd .u8 W W.heap.size X l ∧ l.length ≤ d ∧ Bytes l ∧ l.length ≤ 140737488351232 := by
      intro i hi
      have h1 := hel i hi
      rw [hc, Nat.mul_one, List.getElem?_eq_getElem (by omega), Option.bind_eq_some_iff] at h1
      obtain ⟨c1, hc1, hy⟩ := h1
      obtain ⟨l, X, d, rfl, h2, h3, h4, h5⟩ := bytes_open hy (by
        refine List.all_eq_true.2 fun y hy2 => ?_
        refine List.all_eq_true.1 hw y ?_
        simp only [DataW.weights, Tryd.underlying38]
        exact List.mem_cons_of_mem _ (List.mem_append_left _ (weights_all (List.mem_map_of_mem (List.getElem_mem (by omega))) y hy2)))
      exact ⟨l, X, d, cell_of_cells?_one hc1, h2, h3, h4, h5⟩
    obtain ⟨ms, hms, hall⟩ := list_choice len each
    subst hms
    refine ⟨ms, some a, cap, rfl, fun h0 => ?_, fun j hj => ?_, hl⟩
    · obtain ⟨X, d, h1, _⟩ := hall 0 h0
      obtain ⟨b, off, rfl, hb⟩ := addr_plain h1
      refine ⟨b, off, rfl, hb, fun j hj => ?_⟩
      obtain ⟨X, d, h1, h2, h3, h4, _⟩ := hall j hj
      rw [Addr.add_lit] at h1
      exact ⟨X, d, h1, h2, h3, h4⟩
    · obtain ⟨X, d, _, _, _, _, h5⟩ := hall j hj
      exact h5
theorem bools_open (h : DataW.trod enc Tryd.prog W 0 (fun _ => true) true fuel 39 cs = some x) (hw : (x.1.weights Tryd.prog 39).all (· ≤ reachBytes) = true) :
    ∃ (bs : List Bool) (A : Option Addr) (c : Nat), cs = [.slice A bs.length c] ∧ RdBools W W.heap.size A bs ∧ bs.length ≤ 140737488351232 ∧ bs.length ≤ c := by
  rcases DataW.trod_slice Tryd.underlying39 h with ⟨rfl, _⟩ | ⟨a, len, cap, elems, rest, n, _, rfl, rfl, _, hl, _, hlen, hel, _, _⟩
  · exact ⟨[], none, 0, rfl, (fun h => by cases h), Nat.zero_le _, Nat.le_refl _⟩
  · have hc : Tryd.prog.cellsOf 4 = 1 := by kernel_rfl
    have hb : Tryd.prog.bytesOf 4 = 1 := by kernel_rfl
    have each : ∀ i, i < len → ∃ l : Bool, W.cell? (a.add i) = some (.bool l) := by
      intro i hi
      have h1 := hel i hi
      rw [hc, Nat.mul_one, List.getElem?_eq_getElem (by omega), Option.bind_eq_some_iff] at h1
      obtain ⟨c1, hc1, hy⟩ := h1
      obtain ⟨b, rfl, _⟩ := DataW.trod_bool Tryd.underlying4 hy
      exact ⟨b, cell_of_cells?_one hc1⟩
    obtain ⟨bs, hbs, hall⟩ := list_choice len each
    subst hbs
    have := List.all_eq_true.1 hw ((elems.map (·.1)).length * 1 + (rest.map (·.1)).length * 1) (by simp [DataW.weights, Tryd.underlying39, hb])
    simp only [List.length_map, reachBytes, decide_eq_true_eq] at this
    refine ⟨bs, some a, cap, rfl, fun h0 => ?_, by omega, hl⟩
    have h1 := hall 0 h0
    obtain ⟨b, off, rfl, hb⟩ := addr_plain h1
    refine ⟨b, off, rfl, hb, fun j hj => ?_⟩
    have h1 := hall j hj
    rw [Addr.add_lit] at h1
    exact h1
end
end Go.Proofs.YtjeliomjnalpcaaDoor

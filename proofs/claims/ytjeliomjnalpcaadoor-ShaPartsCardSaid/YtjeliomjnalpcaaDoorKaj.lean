/- Several texts in one; each begins with a remark that says what it shows and on which conditions. -/
import Derived.Test.YtjeliomjnalpcaaDoorKai
import Derived.StillTailTactics
import Derived.Deep.WholeRow
import Derived.Deep.DeepCutAuto
/- Arrays of numbers of 32 bits, and a schedule's words, as the document's schedule makes them. Conditions: as typed. -/
namespace Go.Proofs.YtjeliomjnalpcaaDoor
open Go.RowKit
set_option maxRecDepth 20000
/-- Block g is an array of numbers of 32 bits. -/
def Arr (W : World) (g : Nat) (t : TypeId) (l : List Nat) : Prop := W.heap[g]? = some (.cells (ints .u32 l).toArray t (0, 0))
section
variable {W W' : World} {g : Nat} {t : TypeId} {l : List Nat}
theorem Arr.lt (h : Arr W g t l) : g < W.heap.size := (Array.getElem?_eq_some_iff.1 h).1
theorem Arr.cell (h : Arr W g t l) (i : Nat) (hi : i < l.length) : W.cell? ⟨g, i, none⟩ = some (.int .u32 (nth l i : Int)) := by
  unfold World.cell?
  rw [show W.heap[g]? = _ from h]
  have := ints_get .u32 l i hi
  simpa using this
theorem Arr.frozen (h : Arr W g t l) (i : Nat) : W.frozen? ⟨g, i, none⟩ = false := by
  unfold World.frozen?
  rw [show W.heap[g]? = _ from h]
  simp
theorem Arr.set (h : Arr W g t l) (i y : Nat) : Arr (W.setCell ⟨g, i, none⟩ (.int .u32 (y : Int))) g t (l.set i y) := by
  have := heap_set7 h i (.int .u32 (y : Int))
  unfold Arr
  rw [this, ← ints_set]
  simp
theorem Arr.drew (h : Arr W g t l) (n : Nat) : Arr (W.drewN n) g t l := h
theorem Arr.beside (h : Arr W g t l) (k i : Nat) (v : Value) (hk : k ≠ g) : Arr (W.setCell ⟨k, i, none⟩ v) g t l := (Below.heap_setCell W ⟨k, i, none⟩ v g fun e => hk e.symm).trans h
theorem Arr.below (h : Arr W g t l) (b : Below W.heap.size W W') : Arr W' g t l := (b.block g h.lt).trans h
theorem Arr.load (h : Arr W g t l) (P : Program) (n : Nat) (hn : l.length = n) : (loadCellsFrom ⟨g, 0, none⟩ 0 n #[]).run P W = .ok (ints .u32 l).toArray W := by
  subst hn
  have := run_loadCells_list (P := P) (w := W) ⟨g, 0, none⟩ (ints .u32 l) (fun j v hv => by
    have hj : j < l.length := by have := (List.getElem?_eq_some_iff.1 hv).1; rwa [length_ints] at this
    rw [ints_get .u32 l j hj] at hv
    have hadd : (⟨g, 0, none⟩ : Addr).add j = ⟨g, j, none⟩ := by rw [Addr.add_lit, Nat.zero_add]
    rw [hadd, h.cell j hj, hv])
  rw [length_ints] at this
  simpa [loadCells] using this
theorem Arr.store (h : Arr W g t l) (P : Program) (m : List Nat) (hm : m.length = l.length) : (storeCells ⟨g, 0, none⟩ (ints .u32 m) 0).run P W = .ok () (W.setRow g (ints .u32 m).toArray) := by
  have := run_storeCells_from (P := P) g t (ints .u32 m) 0 _ W h (by simp [length_ints, hm]) (ints_one _ _)
  simpa using this
theorem Arr.stored (h : Arr W g t l) (m : List Nat) : Arr (W.setRow g (ints .u32 m).toArray) g t m := setRow_heap W g _ _ t (0, 0) h
theorem below_setRow {w W : World} {g : Nat} (hb : Below w.heap.size w W) (hg : w.heap.size ≤ g) (cs : Array Value) : Below w.heap.size w (W.setRow g cs) :=
  hb.grown (row := some g) ⟨rfl, rfl, rfl, by simp [World.setRow], fun k _ hk => setRow_other W g k cs fun e => hk (by rw [e])⟩ hb.size fun q e => by cases e; exact hg
end
/-- The words after so many bytes. -/
def schA (b : List Nat) : Nat → List Nat
  | 0 => List.replicate 64 0
  | i + 1 => (schA b i).set (i / 4) ((nth (schA b i) (i / 4) * 256 + nth b i) % 4294967296)
theorem nth_byte7 (b : List Nat) (hb : Bytes b) (j : Nat) : nth b j < 256 := by
  rcases Nat.lt_or_ge j b.length with h | h
  · exact hb _ (nth_mem b j h)
  · simp [nth, List.getElem?_eq_none h]
theorem length_schA (b : List Nat) (i : Nat) : (schA b i).length = 64 := by
  induction i with
  | zero => simp [schA]
  | succ i ih => rw [schA, List.length_set, ih]
theorem schA_words (b : List Nat) (hb : Bytes b) (j : Nat) (hj : j ≤ 16) : schA b (4 * j) = (List.range j).map (wordS4 b) ++ List.replicate (64 - j) 0 := by
  induction j with
  | zero => rfl
  | succ j ih =>
    have ih := ih (by omega)
    rw [show 4 * (j + 1) = 4 * j + 1 + 1 + 1 + 1 by omega, schA, schA, schA, schA, ih]
    have e1 : (4 * j + 1 + 1 + 1) / 4 = j := by omega
    have e2 : (4 * j + 1 + 1) / 4 = j := by omega
    have e3 : (4 * j + 1) / 4 = j := by omega
    have e4 : 4 * j / 4 = j := by omega
    rw [e1, e2, e3, e4]
    have hl : ((List.range j).map (wordS4 b) ++ List.replicate (64 - j) 0).length = 64 := by simp; omega
    have n0 : nth ((List.range j).map (wordS4 b) ++ List.replicate (64 - j) 0) j = 0 := by
      simp [nth, List.getElem?_append_right, List.getElem?_replicate]
      try (split <;> rfl)
    have ns : ∀ (l : List Nat) (y : Nat), j < l.length → nth (l.set j y) j = y := fun l y h => by rw [nth_set _ _ _ _ h, if_pos rfl]
    rw [ns _ _ (by rw [hl]; omega), ns _ _ (by rw [List.length_set, hl]; omega), ns _ _ (by rw [List.length_set, List.length_set, hl]; omega), n0]
    simp only [List.set_set]
    have b0 := nth_byte7 b hb (4 * j)
    have b1 := nth_byte7 b hb (4 * j + 1)
    have b2 := nth_byte7 b hb (4 * j + 1 + 1)
    have b3 := nth_byte7 b hb (4 * j + 1 + 1 + 1)
    have ev : (((((0 * 256 + nth b (4 * j)) % 4294967296 * 256 + nth b (4 * j + 1)) % 4294967296 * 256 + nth b (4 * j + 1 + 1)) % 4294967296) * 256 + nth b (4 * j + 1 + 1 + 1)) % 4294967296 = wordS4 b j := by
      unfold wordS4
      rw [show 4 * j + 2 = 4 * j + 1 + 1 by omega, show 4 * j + 3 = 4 * j + 1 + 1 + 1 by omega]
      omega
    rw [ev]
    refine ext_nth _ _ (by simp; omega) fun i hi => ?_
    rw [List.length_set, hl] at hi
    rw [nth_set _ _ _ _ (by rw [hl]; omega)]
    rcases Nat.lt_trichotomy i j with h | h | h
    · rw [if_neg (by omega)]
      simp [nth, List.getElem?_append_left, h, show i < j + 1 by omega]
    · subst h
      rw [if_pos rfl]
      simp [nth, List.getElem?_append_left]
    · rw [if_neg (by omega)]
      simp [nth, List.getElem?_append_right, show j ≤ i by omega, show j + 1 ≤ i by omega, List.getElem?_replicate]
      split <;> split <;> rfl
/-- The words so far, and noughts. -/
def schB (b : List Nat) (n : Nat) : List Nat := schedS b n ++ List.replicate (48 - n) 0
theorem length_schB (b : List Nat) (n : Nat) (h : n ≤ 48) : (schB b n).length = 64 := by simp [schB, length_schedS]; omega
theorem nth_schB (b : List Nat) (n j : Nat) (h : j < 16 + n) : nth (schB b n) j = nth (schedS b n) j := by
  have := length_schedS b n
  simp [nth, schB, List.getElem?_append_left, this, h]
theorem schB_step (b : List Nat) (n : Nat) (h : n < 48) : (schB b n).set (16 + n) (nextS (schedS b n)) = schB b (n + 1) := by
  have h1 := length_schedS b n
  refine ext_nth _ _ (by rw [List.length_set, length_schB b n (by omega), length_schB b _ (by omega)]) fun i hi => ?_
  rw [List.length_set, length_schB b n (by omega)] at hi
  rw [nth_set _ _ _ _ (by rw [length_schB b n (by omega)]; omega)]
  have e : schB b (n + 1) = schedS b n ++ ([nextS (schedS b n)] ++ List.replicate (48 - (n + 1)) 0) := by rw [schB, schedS, List.append_assoc]
  rcases Nat.lt_trichotomy i (16 + n) with hlt | heq | hgt
  · rw [if_neg (by omega), nth_schB b n i hlt, nth_schB b (n + 1) i (by omega), schedS]
    simp [nth, List.getElem?_append_left, h1, hlt]
  · subst heq
    rw [if_pos rfl, e]
    simp [nth, h1]
  · rw [if_neg (by omega), e, schB]
    simp [nth, List.getElem?_append_right, h1, show 16 + n ≤ i by omega, List.getElem?_cons, List.getElem?_replicate, show i - (16 + n) ≠ 0 by omega]
    split <;> split <;> rfl
theorem zeros64 : (ints .u32 (List.replicate 64 0)).toArray = #[.int .u32 0, .int .u32 0, .int .u32 0, .int .u32 0, .int .u32 0, .int .u32 0, .int .u32 0, .int .u32 0, .int .u32 0, .int .u32 0, .int .u32 0, .int .u32 0, .int .u32 0, .int .u32 0, .int .u32 0, .int .u32 0, .int .u32 0, .int .u32 0, .int .u32 0, .int .u32 0, .int .u32 0, .int .u32 0, .int .u32 0, .int .u32 0, .int .u32 0, .int .u32 0, .int .u32 0, .int .u32 0, .int .u32 0, .int .u32 0, .int .u32 0, .int .u32 0, .int .u32 0, .int .u32 0, .int .u32 0, .int .u32 0, .int .u32 0, .int .u32 0, .int .u32 0, .int .u32 0, .int .u32 0, .int .u32 0, .int .u32 0, .int .u32 0, .int .u32 0, .int .u32 0, .int .u32 0, .int .u32 0, .int .u32 0, .int .u32 0, .int .u32 0, .int .u32 0, .int .u32 0, .int .u32 0, .int .u32 0, .int .u32 0, .int .u32 0, .int .u32 0, .int .u32 0, .int .u32 0, .int .u32 0, .int .u32 0, .int .u32 0, .int .u32 0] := rfl
/-- Two arrays of noughts, made one behind the other. -/
theorem arr_two (w : World) (t : TypeId) (l : List Nat) : Arr ((w.alloc (.cells (ints .u32 l).toArray t)).alloc (.cells (ints .u32 l).toArray t)) w.heap.size t l ∧ Arr ((w.alloc (.cells (ints .u32 l).toArray t)).alloc (.cells (ints .u32 l).toArray t)) (w.heap.size + 1) t l := by
  have h1 : Arr (w.alloc (.cells (ints .u32 l).toArray t)) w.heap.size t l := World.alloc_heap_new w _
  have h2 : Arr ((w.alloc (.cells (ints .u32 l).toArray t)).alloc (.cells (ints .u32 l).toArray t)) (w.alloc (.cells (ints .u32 l).toArray t)).heap.size t l := World.alloc_heap_new _ _
  rw [World.size_alloc] at h2
  exact ⟨h1.below ((Below.refl _ _).alloc (Nat.le_refl _) _), h2⟩
theorem nth_word7 (l : List Nat) (hl : ∀ x ∈ l, x < 4294967296) (j : Nat) : nth l j < 4294967296 := by
  rcases Nat.lt_or_ge j l.length with h | h
  · exact hl _ (nth_mem l j h)
  · simp [nth, List.getElem?_eq_none h]
theorem schA_lt (b : List Nat) (i : Nat) : ∀ x ∈ schA b i, x < 4294967296 := by
  induction i with
  | zero => intro x hx; simp [schA] at hx; omega
  | succ i ih =>
    intro x hx
    rw [schA] at hx
    rcases mem_set hx with h | h
    · rw [h]; exact Nat.mod_lt _ (by omega)
    · exact ih x h
theorem schedS_lt (b : List Nat) (hb : Bytes b) (n : Nat) : ∀ x ∈ schedS b n, x < 4294967296 := by
  induction n with
  | zero =>
    intro x hx
    rw [schedS] at hx
    obtain ⟨i, _, rfl⟩ := List.mem_map.1 hx
    have b0 := nth_byte7 b hb (4 * i)
    have b1 := nth_byte7 b hb (4 * i + 1)
    have b2 := nth_byte7 b hb (4 * i + 2)
    have b3 := nth_byte7 b hb (4 * i + 3)
    unfold wordS4
    omega
  | succ n ih =>
    intro x hx
    rw [schedS] at hx
    rcases List.mem_append.1 hx with h | h
    · exact ih x h
    · simp at h
      rw [h]
      exact Nat.mod_lt _ (by omega)
end Go.Proofs.YtjeliomjnalpcaaDoor
/- The document's schedule of a block. Conditions: as typed (64 bytes). -/
namespace Go.Proofs.YtjeliomjnalpcaaDoor
open Go.RowKit
set_option maxRecDepth 20000
theorem eval_put_own (a : Act) (d : Tmp) (v : Value) (h : d < a.tmps.size) : (a.put (some d) v).eval (.tmp d) = v := by
  simp [Act.put, Act.eval, h]
theorem eval_put_other (a : Act) (d y : Tmp) (v : Value) (h : d ≠ y) : (a.put (some d) v).eval (.tmp y) = a.eval (.tmp y) := by
  simp [Act.put, Act.eval, Array.getElem?_setIfInBounds_ne h]
/-- A whole array is loaded and stored. -/
theorem wp_row_copy {P : Program} {id : Nat} {Q : Exit → Act → World → Prop} {a : Act} {w : World} (t ty0 : TypeId) (x y d : Tmp) (p1 p2 : String) (f1 f2 : Array Edge) (g g2 : Nat) (cs zs : Array Value)
    (hx : a.eval (.tmp x) = .pointer (some ⟨g, 0, none⟩)) (hy : a.eval (.tmp y) = .pointer (some ⟨g2, 0, none⟩)) (hd : d < a.tmps.size) (hdy : d ≠ y)
    (hg : w.heap[g]? = some (.cells cs t (0, 0))) (hg2 : w.heap[g2]? = some (.cells zs t (0, 0))) {et : TypeId} {n : Nat} (hu : P.underlying t = some (.array n et)) (hi : (P.info? t).map (·.size) = some cs.size) (hold : zs.size = cs.size) (h1 : cs.all (·.oneCell') = true)
    (h : Q .normal ((a.put (some d) (.agg cs)).put none undef) (w.setRow g2 cs)) :
    (Code.region id #[{ dst := some d, op := .load t (.tmp x), type := t, pos := p1, after := f1, guard := none }, { dst := none, op := .store t (.tmp y) (.tmp d), type := ty0, pos := p2, after := f2, guard := none }] false).wp P Q a w := by
  refine wp_region_lit ?_
  refine wpList_load_row rfl t (.tmp x) rfl g hx t cs (0, 0) _ hg hu rfl hi ?_
  refine wpList_store_row rfl t (.tmp y) (.tmp d) rfl g2 cs ?_ ?_ t zs hg2 hi hold h1 ?_
  · rw [eval_put_other _ _ _ _ hdy]; exact hy
  · exact eval_put_own _ _ _ hd
  · exact h
set_option maxHeartbeats 4000000 in
theorem schedule07 (A : Option Addr) (c : Nat) (b : List Nat) (w : World) (hr : Rd .u8 w w.heap.size A b) (hb : Bytes b) (hl : b.length = 64) : Calls Tryd.prog 45 #[.slice A 64 c] w (OutAgg .u32 (schedS b 48) w) := by
  obtain ⟨ba, bo, rfl, hba, hcell⟩ := hr (by omega)
  obtain ⟨hA1, hA2⟩ := arr_two w 55 (List.replicate 64 0)
  have bE : Below w.heap.size w ((w.alloc (.cells (ints .u32 (List.replicate 64 0)).toArray 55)).alloc (.cells (ints .u32 (List.replicate 64 0)).toArray 55)) := ((Below.refl _ w).alloc (Nat.le_refl _) _).alloc (by simp) _
  rw [zeros64] at hA1 hA2 bE
  obtain ⟨E, hE⟩ : ∃ E, (w.alloc (.cells #[.int .u32 0, .int .u32 0, .int .u32 0, .int .u32 0, .int .u32 0, .int .u32 0, .int .u32 0, .int .u32 0, .int .u32 0, .int .u32 0, .int .u32 0, .int .u32 0, .int .u32 0, .int .u32 0, .int .u32 0, .int .u32 0, .int .u32 0, .int .u32 0, .int .u32 0, .int .u32 0, .int .u32 0, .int .u32 0, .int .u32 0, .int .u32 0, .int .u32 0, .int .u32 0, .int .u32 0, .int .u32 0, .int .u32 0, .int .u32 0, .int .u32 0, .int .u32 0, .int .u32 0, .int .u32 0, .int .u32 0, .int .u32 0, .int .u32 0, .int .u32 0, .int .u32 0, .int .u32 0, .int .u32 0, .int .u32 0, .int .u32 0, .int .u32 0, .int .u32 0, .int .u32 0, .int .u32 0, .int .u32 0, .int .u32 0, .int .u32 0, .int .u32 0, .int .u32 0, .int .u32 0, .int .u32 0, .int .u32 0, .int .u32 0, .int .u32 0, .int .u32 0, .int .u32 0, .int .u32 0, .int .u32 0, .int .u32 0, .int .u32 0, .int .u32 0] 55)).alloc (.cells #[.int .u32 0, .int .u32 0, .int .u32 0, .int .u32 0, .int .u32 0, .int .u32 0, .int .u32 0, .int .u32 0, .int .u32 0, .int .u32 0, .int .u32 0, .int .u32 0, .int .u32 0, .int .u32 0, .int .u32 0, .int .u32 0, .int .u32 0, .int .u32 0, .int .u32 0, .int .u32 0, .int .u32 0, .int .u32 0, .int .u32 0, .int .u32 0, .int .u32 0, .int .u32 0, .int .u32 0, .int .u32 0, .int .u32 0, .int .u32 0, .int .u32 0, .int .u32 0, .int .u32 0, .int .u32 0, .int .u32 0, .int .u32 0, .int .u32 0, .int .u32 0, .int .u32 0, .int .u32 0, .int .u32 0, .int .u32 0, .int .u32 0, .int .u32 0, .int .u32 0, .int .u32 0, .int .u32 0, .int .u32 0, .int .u32 0, .int .u32 0, .int .u32 0, .int .u32 0, .int .u32 0, .int .u32 0, .int .u32 0, .int .u32 0, .int .u32 0, .int .u32 0, .int .u32 0, .int .u32 0, .int .u32 0, .int .u32 0, .int .u32 0, .int .u32 0] 55) = E := ⟨_, rfl⟩
  rw [hE] at hA1 hA2 bE
  have H1 := Lib.hid hA1
  have H2 := Lib.hid hA2
  clear hA1 hA2
  go_enter Tryd.func45, Tryd.ntmps45
  go_wp2_with fail
  (try rw [hE])
  clear hE
  go_loopw [4] (fun v wr => ∃ i : Nat, i ≤ 64 ∧ v = .int .i64 i ∧ Arr wr (w.heap.size + 1) 55 (schA b i) ∧ Arr wr w.heap.size 55 (List.replicate 64 0) ∧ Below w.heap.size w wr) (fun v _ => 64 - (intOf v).toNat)
  case atStart => exact ⟨0, by omega, rfl, H2.out, H1.out, bE⟩
  case round =>
    obtain ⟨i, hi, rfl, hB, hR, hb'⟩ := hrel
    by_cases hlt : i < 64
    · obtain ⟨q, hq⟩ : ∃ q, i / 4 = q := ⟨_, rfl⟩
      have hqi : (i : Int) / 4 = (q : Int) := by omega
      have hq64 : q < 64 := by omega
      have hcq := hB.cell q (by rw [length_schA]; exact hq64)
      have hfq := hB.frozen q
      have hbi := (hb'.cell (p := ⟨ba, bo + i, none⟩) hba).trans (hcell i (by omega))
      have hnb := nth_byte7 b hb i
      have hnw := nth_word7 _ (schA_lt b i) q
      have hset := hB.set q ((nth (schA b i) q * 256 + nth b i) % 4294967296)
      have hset2 : Arr (wr.setCell ⟨w.heap.size + 1, q, none⟩ (.int .u32 (((nth (schA b i) q * 256 + nth b i) % 4294967296 : Nat) : Int))) (w.heap.size + 1) 55 (schA b (i + 1)) := by rw [schA, hq]; exact hset
      obtain ⟨x, hx⟩ : ∃ x, nth (schA b i) q = x := ⟨_, rfl⟩
      obtain ⟨y, hy⟩ : ∃ y, nth b i = y := ⟨_, rfl⟩
      rw [hx, hy] at hset2
      rw [hx] at hcq hnw
      rw [hy] at hbi hnb
      rw [show (((x * 256 + y) % 4294967296 : Nat) : Int) = (x : Int) * 256 % 4294967296 + (y : Int) by omega] at hset2
      have HS := Lib.hid hset2
      have HR := Lib.hid (hR.beside (w.heap.size + 1) q (.int .u32 ((x : Int) * 256 % 4294967296 + (y : Int))) (by omega))
      have HB := Lib.hid (hb'.setCell (p := ⟨w.heap.size + 1, q, none⟩) (Nat.le_succ _) (.int .u32 ((x : Int) * 256 % 4294967296 + (y : Int))))
      clear hx hy hset2 hR
      clear hq hset hcell
      go_wp2_with fail
      go_region
      go_wp2_with fail
      go_roundw
      case rel => exact ⟨i + 1, by omega, by go_num, HS.out, HR.out, HB.out.drew⟩
      case measure => simp [intOf]; omega
    · obtain rfl : i = 64 := by omega
      have hW := schA_words b hb 16 (by omega)
      have e0 : schA b 64 = schB b 0 := hW
      rw [e0] at hB
      clear hlt hW e0 H1 H2 bE
      obtain ⟨wo, hwo⟩ : ∃ wo : World, wo = wr := ⟨_, rfl⟩
      subst hwo
      rw [show ((64 : Nat) : Int) = 64 from rfl]
      go_wp2_with fail
      go_loopw [5] (fun v wr => ∃ m : Nat, 16 ≤ m ∧ m ≤ 64 ∧ v = .int .i64 (m : Int) ∧ Arr wr (w.heap.size + 1) 55 (schB b (m - 16)) ∧ Arr wr w.heap.size 55 (List.replicate 64 0) ∧ Below w.heap.size w wr) (fun v _ => 64 - (intOf v).toNat)
      case atStart => exact ⟨16, by omega, by omega, rfl, hB, hR, hb'⟩
      case round =>
        obtain ⟨m, hm1, hm2, rfl, hB, hR, hb'⟩ := hrel
        by_cases hlt : m < 64
        · have hlen := length_schB b (m - 16) (by omega)
          have k1 := hB.cell (m - 15) (by omega)
          have k2 := hB.cell (m - 2) (by omega)
          have k3 := hB.cell (m - 16) (by omega)
          have k4 := hB.cell (m - 7) (by omega)
          have hf := hB.frozen m
          have hco := hB.cell m (by omega)
          have g1 := nth_schB b (m - 16) (m - 15) (by omega)
          have g2 := nth_schB b (m - 16) (m - 2) (by omega)
          have g3 := nth_schB b (m - 16) (m - 16) (by omega)
          have g4 := nth_schB b (m - 16) (m - 7) (by omega)
          have hlS := length_schedS b (m - 16)
          have hall := nth_word7 _ (schedS_lt b hb (m - 16))
          have eN : nextS (schedS b (m - 16)) = (nth (schedS b (m - 16)) (m - 16) + nth (schedS b (m - 16)) (m - 7) + sig0 (nth (schedS b (m - 16)) (m - 15)) + sig1 (nth (schedS b (m - 16)) (m - 2))) % 4294967296 := by
            unfold nextS
            rw [hlS, show 16 + (m - 16) - 16 = m - 16 by omega, show 16 + (m - 16) - 7 = m - 7 by omega, show 16 + (m - 16) - 15 = m - 15 by omega, show 16 + (m - 16) - 2 = m - 2 by omega]
          have hst := schB_step b (m - 16) (by omega)
          rw [show 16 + (m - 16) = m by omega, show m - 16 + 1 = m + 1 - 16 by omega] at hst
          have hBd : Arr wr.drew (w.heap.size + 1) 55 (schB b (m - 16)) := hB
          have hRd : Arr wr.drew w.heap.size 55 (List.replicate 64 0) := hR
          have hset := hBd.set m (nextS (schedS b (m - 16)))
          rw [hst] at hset
          rw [g1] at k1
          rw [g2] at k2
          rw [g3] at k3
          rw [g4] at k4
          have w1 := hall (m - 15)
          have w2 := hall (m - 2)
          have w3 := hall (m - 16)
          have w4 := hall (m - 7)
          obtain ⟨a1, ha1⟩ : ∃ a, nth (schedS b (m - 16)) (m - 15) = a := ⟨_, rfl⟩
          obtain ⟨a2, ha2⟩ : ∃ a, nth (schedS b (m - 16)) (m - 2) = a := ⟨_, rfl⟩
          obtain ⟨a3, ha3⟩ : ∃ a, nth (schedS b (m - 16)) (m - 16) = a := ⟨_, rfl⟩
          obtain ⟨a4, ha4⟩ : ∃ a, nth (schedS b (m - 16)) (m - 7) = a := ⟨_, rfl⟩
          rw [ha1] at k1 w1 eN
          rw [ha2] at k2 w2 eN
          rw [ha3] at k3 w3 eN
          rw [ha4] at k4 w4 eN
          have T0 := r07_q a1 7 7 w1 (by omega) rfl
          have xT0 := rot32_lt a1 7 w1
          obtain ⟨rT0, hrT0⟩ : ∃ r, rot32 a1 7 = r := ⟨_, rfl⟩
          rw [hrT0] at T0 xT0
          have T1 := r07_q a1 18 18 w1 (by omega) rfl
          have xT1 := rot32_lt a1 18 w1
          obtain ⟨rT1, hrT1⟩ : ∃ r, rot32 a1 18 = r := ⟨_, rfl⟩
          rw [hrT1] at T1 xT1
          have U0 := r07_q a2 17 17 w2 (by omega) rfl
          have xU0 := rot32_lt a2 17 w2
          obtain ⟨rU0, hrU0⟩ : ∃ r, rot32 a2 17 = r := ⟨_, rfl⟩
          rw [hrU0] at U0 xU0
          have U1 := r07_q a2 19 19 w2 (by omega) rfl
          have xU1 := rot32_lt a2 19 w2
          obtain ⟨rU1, hrU1⟩ : ∃ r, rot32 a2 19 = r := ⟨_, rfl⟩
          rw [hrU1] at U1 xU1
          have d1 : a1 / 2 ^ 3 < 4294967296 := Nat.lt_of_le_of_lt (Nat.div_le_self _ _) w1
          have d2 : a2 / 2 ^ 10 < 4294967296 := Nat.lt_of_le_of_lt (Nat.div_le_self _ _) w2
          have i1 : (a1 : Int) / 2 ^ 3 = ((a1 / 2 ^ 3 : Nat) : Int) := by simp
          have i2 : (a2 : Int) / 2 ^ 10 = ((a2 / 2 ^ 10 : Nat) : Int) := by simp
          obtain ⟨b1, hb1⟩ : ∃ z, a1 / 2 ^ 3 = z := ⟨_, rfl⟩
          obtain ⟨b2, hb2⟩ : ∃ z, a2 / 2 ^ 10 = z := ⟨_, rfl⟩
          rw [hb1] at d1 i1
          rw [hb2] at d2 i2
          have i1' : (a1 : Int) / 8 = (b1 : Int) := i1
          have i2' : (a2 : Int) / 1024 = (b2 : Int) := i2
          have yp1 := xor32 rT0 rT1 xT0 xT1
          have lp1 := xor_lt32 xT0 xT1
          obtain ⟨p1, ep1⟩ : ∃ z, rT0 ^^^ rT1 = z := ⟨_, rfl⟩
          rw [ep1] at yp1 lp1
          have yp2 := xor32 p1 b1 lp1 d1
          have lp2 := xor_lt32 lp1 d1
          obtain ⟨p2, ep2⟩ : ∃ z, p1 ^^^ b1 = z := ⟨_, rfl⟩
          rw [ep2] at yp2 lp2
          have yq1 := xor32 rU0 rU1 xU0 xU1
          have lq1 := xor_lt32 xU0 xU1
          obtain ⟨q1, eq1⟩ : ∃ z, rU0 ^^^ rU1 = z := ⟨_, rfl⟩
          rw [eq1] at yq1 lq1
          have yq2 := xor32 q1 b2 lq1 d2
          have lq2 := xor_lt32 lq1 d2
          obtain ⟨q2, eq2⟩ : ∃ z, q1 ^^^ b2 = z := ⟨_, rfl⟩
          rw [eq2] at yq2 lq2
          have eV : nextS (schedS b (m - 16)) = (a3 + a4 + p2 + q2) % 4294967296 := by
            rw [eN]
            unfold sig0 sig1
            rw [hrT0, hrT1, hrU0, hrU1, hb1, hb2, ep1, ep2, eq1, eq2]
          rw [eV] at hset
          have HS := Lib.hid hset
          have HR := Lib.hid (hRd.beside (w.heap.size + 1) m (.int .u32 (((a3 + a4 + p2 + q2) % 4294967296 : Nat) : Int)) (by omega))
          have HB := Lib.hid (hb'.drew.setCell (p := ⟨w.heap.size + 1, m, none⟩) (Nat.le_succ _) (.int .u32 (((a3 + a4 + p2 + q2) % 4294967296 : Nat) : Int)))
          have T0 := Lib.hid T0
          have T1 := Lib.hid T1
          have U0 := Lib.hid U0
          have U1 := Lib.hid U1
          clear hl hcell hr g1 g2 g3 g4 hall eN hst hset ha1 ha2 ha3 ha4 hrT0 hrT1 hrU0 hrU1 hb1 hb2 ep1 ep2 eq1 eq2 eV hR hB hBd hRd i1 i2
          have j3 : IntKind.i64.wrap ((m : Int) - 16) = ((m - 16 : Nat) : Int) := by rw [IntKind.wrap_i64]; omega
          have j4 : IntKind.i64.wrap ((m : Int) - 7) = ((m - 7 : Nat) : Int) := by rw [IntKind.wrap_i64]; omega
          have j5 : ((m - 16 : Nat) : Int) < 64 := by omega
          have j6 : ((m - 7 : Nat) : Int) < 64 := by omega
          have j7 : (m : Int) < 64 := by omega
          have j8 : IntKind.u32.wrap (IntKind.u32.wrap (IntKind.u32.wrap ((a3 : Int) + (a4 : Int)) + (p2 : Int)) + (q2 : Int)) = (((a3 + a4 + p2 + q2) % 4294967296 : Nat) : Int) := by simp only [IntKind.wrap_u32]; omega
          go_wp2_with fail
          refine wp_region_still_tail 29 (by kernel_rfl) (by kernel_rfl) ?_
          simp only [List.take_succ_cons, List.take_zero, List.drop_succ_cons, List.drop_zero]
          repeat still_step
          still_call (T0.out _)
          repeat still_step
          still_call (T1.out _)
          repeat still_step
          still_call (U0.out _)
          repeat still_step
          still_call (U1.out _)
          repeat still_step
          (try refine wpStill_nil ?_)
          change wpList _ _ _ _ _ wr.drew
          have hcd : wr.drew.cell? ⟨w.heap.size + 1, m, none⟩ = some (.int .u32 (nth (schB b (m - 16)) m : Int)) := hco
          have hfd : wr.drew.frozen? ⟨w.heap.size + 1, m, none⟩ = false := hf
          obtain ⟨wd, hwd⟩ : ∃ wd, wr.drew = wd := ⟨_, rfl⟩
          rw [hwd] at hcd hfd HS HR HB ⊢
          clear hwd hco hf k1 k2 k3 k4
          go_wp2_with fail
          go_roundw
          case rel => exact ⟨m + 1, by omega, by omega, by go_num, HS.out, HR.out, HB.out⟩
          case measure => simp [intOf]; omega
        · obtain rfl : m = 64 := by omega
          have hlen := length_schB b 48 (by omega)
          have e48 : schB b 48 = schedS b 48 := by unfold schB; simp
          rw [show 64 - 16 = 48 from rfl, e48] at hB
          rw [e48] at hlen
          obtain ⟨cs, hcs⟩ : ∃ cs, (ints .u32 (schedS b 48)).toArray = cs := ⟨_, rfl⟩
          obtain ⟨zs, hzs⟩ : ∃ zs, (ints .u32 (List.replicate 64 0)).toArray = zs := ⟨_, rfl⟩
          have hR2 : wr.heap[w.heap.size]? = some (.cells zs 55 (0, 0)) := by rw [← hzs]; exact hR
          have hB2 : wr.heap[w.heap.size + 1]? = some (.cells cs 55 (0, 0)) := by rw [← hcs]; exact hB
          have R1 : (wr.setRow w.heap.size cs).heap[w.heap.size]? = some (.cells cs 55 (0, 0)) := by rw [← hcs]; exact hR.stored (schedS b 48)
          have B1 := below_setRow hb' (Nat.le_refl _) cs
          have hcsz : cs.size = 64 := by rw [← hcs]; simp [length_ints, hlen]
          have hzsz : zs.size = cs.size := by rw [hcsz, ← hzs]; simp [length_ints]
          have hone : cs.all (·.oneCell') = true := by
            rw [← hcs]
            exact Array.all_eq_true_iff_forall_mem.2 fun v hv => ints_one _ _ v (by simpa using hv)
          have hinf : (Tryd.prog.info? 55).map (·.size) = some cs.size := by rw [hcsz]; kernel_rfl
          have HC := Lib.hid hcs
          have HX := Lib.hid (And.intro R1 B1)
          have HB2 := Lib.hid hB2
          have HR2 := Lib.hid hR2
          have HI := Lib.hid (And.intro hinf (And.intro hzsz hone))
          clear R1 B1 hl hcell hr hB hR hB2 hR2 hinf hzsz hone hcsz hcs hzs hlen e48 hb' hb
          go_upto_region 12 with fail
          refine wp_row_copy 55 _ 3 2 67 _ _ _ _ (w.heap.size + 1) w.heap.size cs zs ?hx ?hy ?hd (by decide) HB2.out HR2.out Tryd.underlying55 HI.out.1 HI.out.2.1 HI.out.2.2 ?hq
          case hx => rfl
          case hy => rfl
          case hd => exact (by decide : 67 < 68)
          case hq =>
            have hput : ∀ a : Act, a.put none undef = a := fun _ => rfl
            rw [hput]
            go_wp2_with fail
            refine bodyPost_ret (v := .agg cs) ?_ rfl ?_
            · exact results_cell_row (p := 2) rfl _ _ w.heap.size 55 cs (0, 0) _ rfl HX.out.1 Tryd.underlying55 rfl HI.out.1
            · exact ⟨by rw [HC.out], HX.out.2⟩
end Go.Proofs.YtjeliomjnalpcaaDoor

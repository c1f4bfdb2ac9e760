/- Several texts in one; each begins with a remark that says what it shows and on which conditions. -/
import Derived.Test.YtjeliomjnalpcaaDoorKak
import Derived.Test.YtjeliomjnalpcaaDoorKaj
import Derived.Laws.CopyOwn
/- The tables of constants, and a hash, as they lie in memory; a message's whole blocks. Conditions: as typed. -/
namespace Go.Proofs.YtjeliomjnalpcaaDoor
open Go.RowKit
set_option maxRecDepth 20000
/-- The two tables of constants, as the program lays them. -/
def Laid (w : World) : Prop := (∃ t, w.heap[0]? = some (.cells (ints .u32 firstS).toArray t (0, 0))) ∧ ∃ t, w.heap[1]? = some (.cells (ints .u32 stepsS).toArray t (0, 0))
theorem Laid.size {w : World} (h : Laid w) : 2 ≤ w.heap.size := by
  obtain ⟨_, t, h⟩ := h
  have := (Array.getElem?_eq_some_iff.1 h).1
  omega
theorem Laid.below {w w' : World} (h : Laid w) (b : Below w.heap.size w w') : Laid w' := by
  have hs := h.size
  obtain ⟨⟨t0, h0⟩, t1, h1⟩ := h
  exact ⟨⟨t0, (b.block 0 (by omega)).trans h0⟩, t1, (b.block 1 (by omega)).trans h1⟩
theorem Laid.step {w w' : World} (h : Laid w) (i : Nat) (hi : i < 64) (e : w'.heap[1]? = w.heap[1]?) : w'.cell? ⟨1, i, none⟩ = some (.int .u32 (nth stepsS i : Int)) := by
  obtain ⟨_, t, h⟩ := h
  unfold World.cell?
  rw [show w'.heap[1]? = _ from e.trans h]
  have := ints_get .u32 stepsS i hi
  simpa using this
/-- All that was there is as it was, but for the blocks of S. -/
structure Beside (S : Nat → Prop) (w w' : World) : Prop where
  os : w'.os = w.os
  tape : w'.tape = w.tape
  output : w'.output = w.output
  size : w.heap.size ≤ w'.heap.size
  block : ∀ g, g < w.heap.size → ¬ S g → w'.heap[g]? = w.heap[g]?
section
variable {S : Nat → Prop} {w w1 w2 : World}
theorem Beside.refl (w : World) : Beside S w w := ⟨rfl, rfl, rfl, Nat.le_refl _, fun _ _ _ => rfl⟩
theorem Beside.trans (h : Beside S w w1) (k : Beside S w1 w2) : Beside S w w2 :=
  ⟨k.os.trans h.os, k.tape.trans h.tape, k.output.trans h.output, Nat.le_trans h.size k.size, fun g hg hs => (k.block g (Nat.lt_of_lt_of_le hg h.size) hs).trans (h.block g hg hs)⟩
theorem Beside.of_below (h : Below w.heap.size w w1) : Beside S w w1 := ⟨h.os, h.tape, h.output, h.size, fun g hg _ => h.block g hg⟩
theorem Beside.setCell (w : World) (g i : Nat) (v : Value) (hS : S g) : Beside S w (w.setCell ⟨g, i, none⟩ v) :=
  ⟨rfl, rfl, rfl, by simp [World.setCell], fun k _ hk => Below.heap_setCell w ⟨g, i, none⟩ v k fun e => hk (by rw [e]; exact hS)⟩
theorem Beside.setRow (w : World) (g : Nat) (cs : Array Value) (hS : S g) : Beside S w (w.setRow g cs) :=
  ⟨rfl, rfl, rfl, by simp [World.setRow], fun k _ hk => setRow_other w g k cs fun e => hk (by rw [e]; exact hS)⟩
theorem Beside.below {b : Nat} (h : Beside S w1 w2) (hb : Below b w w1) (hbw : b ≤ w1.heap.size) (hS : ∀ g, S g → b ≤ g) : Below b w w2 :=
  ⟨h.os.trans hb.os, h.tape.trans hb.tape, h.output.trans hb.output, Nat.le_trans hb.size h.size, fun g hg => (h.block g (by omega) (fun hs => by have := hS g hs; omega)).trans (hb.block g hg)⟩
theorem Laid.beside (h : Laid w) (b : Beside S w w1) (hS : ∀ g, S g → 2 ≤ g) : Laid w1 := by
  have hs := h.size
  obtain ⟨⟨t0, h0⟩, t1, h1⟩ := h
  exact ⟨⟨t0, (b.block 0 (by omega) (fun k => by have := hS 0 k; omega)).trans h0⟩, t1, (b.block 1 (by omega) (fun k => by have := hS 1 k; omega)).trans h1⟩
end
/-! Whole blocks of a message -/
theorem foldS_append (m b : List Nat) (n : Nat) (h : 64 * n ≤ m.length) : foldS (m ++ b) n = foldS m n := by
  induction n with
  | zero => rfl
  | succ n ih =>
    rw [foldS, foldS, ih (by omega), List.drop_append_of_le_length (by omega), List.take_append_of_le_length (by rw [List.length_drop]; omega)]
theorem schedS_take (b : List Nat) (n : Nat) : schedS (b.take 64) n = schedS b n := by
  induction n with
  | zero =>
    unfold schedS
    refine List.map_congr_left fun i hi => ?_
    have hi : i < 16 := by simpa using hi
    have key : ∀ j, j < 64 → nth (b.take 64) j = nth b j := fun j hj => by simp [nth, hj]
    unfold wordS4
    rw [key _ (by omega), key _ (by omega), key _ (by omega), key _ (by omega)]
  | succ n ih => rw [schedS, schedS, ih]
theorem blockS_take (h b : List Nat) : blockS h (b.take 64) = blockS h b := by rw [blockS, blockS, schedS_take]
theorem heap_kept7 {W : World} {g : Nat} {x : Obj} (h : W.heap[g]? = some x) (o : Obj) : (W.alloc o).heap[g]? = some x := (((Below.refl _ _).alloc (Nat.le_refl _) o).block g (Array.getElem?_eq_some_iff.1 h).1).trans h
theorem val_num {k : IntKind} {a b : Int} (h : a = b) : Value.int k a = Value.int k b := by rw [h]
/-! A hash in memory -/
def hcells (ws rest : List Nat) (n : Nat) : List Value := ints .u32 ws ++ (ints .u8 rest ++ [.int .u64 (n : Int)])
structure HashRow (W : World) (g : Nat) (ws rest : List Nat) (n : Nat) : Prop where
  lw : ws.length = 8
  lr : rest.length = 64
  row : W.heap[g]? = some (.cells (hcells ws rest n).toArray 78 (0, 0))
theorem length_hcells (ws rest : List Nat) (n : Nat) (h1 : ws.length = 8) (h2 : rest.length = 64) : (hcells ws rest n).length = 73 := by simp [hcells, length_ints, h1, h2]
theorem hcells_word (ws rest : List Nat) (n j : Nat) (hj : j < ws.length) : (hcells ws rest n)[j]? = (ints .u32 ws)[j]? := by
  unfold hcells
  rw [List.getElem?_append_left (by rw [length_ints]; exact hj)]
theorem hcells_rest (ws rest : List Nat) (n j : Nat) (h1 : ws.length = 8) (hj : j < rest.length) : (hcells ws rest n)[8 + j]? = (ints .u8 rest)[j]? := by
  unfold hcells
  rw [List.getElem?_append_right (by rw [length_ints]; omega), length_ints, h1, Nat.add_sub_cancel_left, List.getElem?_append_left (by rw [length_ints]; exact hj)]
theorem hcells_last (ws rest : List Nat) (n : Nat) (h1 : ws.length = 8) (h2 : rest.length = 64) : (hcells ws rest n)[72]? = some (.int .u64 (n : Int)) := by
  unfold hcells
  rw [List.getElem?_append_right (by rw [length_ints]; omega), length_ints, h1, List.getElem?_append_right (by rw [length_ints]; omega), length_ints, h2]
  rfl
theorem hcells_set (ws rest : List Nat) (n k : Nat) (h1 : ws.length = 8) (h2 : rest.length = 64) : (hcells ws rest n).set 72 (.int .u64 (k : Int)) = hcells ws rest k := by
  unfold hcells
  rw [List.set_append_right _ _ (by rw [length_ints]; omega), length_ints, h1, List.set_append_right _ _ (by rw [length_ints]; omega), length_ints, h2]
  rfl
theorem hcells_one (ws rest : List Nat) (n : Nat) : ∀ v ∈ hcells ws rest n, v.oneCell' = true := by
  intro v hv
  rcases List.mem_append.1 hv with h | h
  · exact ints_one _ _ v h
  rcases List.mem_append.1 h with h | h
  · exact ints_one _ _ v h
  · simp at h; subst h; rfl
theorem hcells_splice (ws rest cs : List Nat) (n r : Nat) (h1 : ws.length = 8) (h2 : r + cs.length ≤ rest.length) : splice (hcells ws rest n) (8 + r) (ints .u8 cs) = hcells ws (splice rest r cs) n := by
  have e : ∀ (A B : List Value) (k : Nat), A.length = 8 → (A ++ B).take (8 + k) = A ++ B.take k := fun A B k h => by rw [List.take_append, List.take_of_length_le (by omega), h, Nat.add_sub_cancel_left]
  have f : ∀ (A B : List Value) (k : Nat), A.length = 8 → (A ++ B).drop (8 + k) = B.drop k := fun A B k h => by rw [List.drop_append, List.drop_eq_nil_of_le (by omega), h, Nat.add_sub_cancel_left, List.nil_append]
  unfold splice hcells
  rw [e _ _ _ (by rw [length_ints, h1]), length_ints, show 8 + r + cs.length = 8 + (r + cs.length) by omega, f _ _ _ (by rw [length_ints, h1])]
  rw [List.take_append_of_le_length (by rw [length_ints]; omega), List.drop_append_of_le_length (by rw [length_ints]; omega)]
  rw [ints_append, ints_append]
  simp only [ints, List.map_take, List.map_drop, List.append_assoc]
section
variable {W W' : World} {g n : Nat} {ws rest : List Nat}
theorem HashRow.lt (h : HashRow W g ws rest n) : g < W.heap.size := (Array.getElem?_eq_some_iff.1 h.row).1
theorem HashRow.at (h : HashRow W g ws rest n) (i : Nat) : W.cell? ⟨g, i, none⟩ = (hcells ws rest n)[i]? := by
  unfold World.cell?
  rw [show W.heap[g]? = _ from h.row]
  simp
theorem HashRow.len (h : HashRow W g ws rest n) : W.cell? ⟨g, 72, none⟩ = some (.int .u64 (n : Int)) := by rw [h.at]; exact hcells_last _ _ _ h.lw h.lr
theorem HashRow.fro (h : HashRow W g ws rest n) (i : Nat) : W.frozen? ⟨g, i, none⟩ = false := by
  unfold World.frozen?
  rw [show W.heap[g]? = _ from h.row]
  simp
theorem HashRow.word (h : HashRow W g ws rest n) (j : Nat) (hj : j < 8) : W.cell? ⟨g, j, none⟩ = some (.int .u32 (nth ws j : Int)) := by
  rw [h.at, hcells_word _ _ _ _ (by rw [h.lw]; exact hj)]
  exact ints_get .u32 ws j (by rw [h.lw]; exact hj)
theorem HashRow.words (h : HashRow W g ws rest n) (P : Program) : (loadCellsFrom ⟨g, 0, none⟩ 0 8 #[]).run P W = .ok (ints .u32 ws).toArray W := by
  have := run_loadCells_list (P := P) (w := W) ⟨g, 0, none⟩ (ints .u32 ws) (fun j v hv => by
    have hj : j < ws.length := by have := (List.getElem?_eq_some_iff.1 hv).1; rwa [length_ints] at this
    have hadd : (⟨g, 0, none⟩ : Addr).add j = ⟨g, j, none⟩ := by rw [Addr.add_lit, Nat.zero_add]
    rw [hadd, h.at, hcells_word _ _ _ _ hj, hv])
  rw [length_ints, h.lw] at this
  simpa [loadCells] using this
theorem HashRow.rd (h : HashRow W g ws rest n) : Rd .u8 W (g + 1) (some ⟨g, 8, none⟩) rest := fun _ => by
  refine ⟨g, 8, rfl, by omega, fun j hj => ?_⟩
  rw [h.at, hcells_rest _ _ _ _ h.lw hj]
  exact ints_get .u8 rest j hj
theorem HashRow.keep (h : HashRow W g ws rest n) (e : W'.heap[g]? = W.heap[g]?) : HashRow W' g ws rest n := ⟨h.lw, h.lr, e.trans h.row⟩
theorem HashRow.below (h : HashRow W g ws rest n) (b : Below W.heap.size W W') : HashRow W' g ws rest n := h.keep (b.block g h.lt)
theorem HashRow.setLen (h : HashRow W g ws rest n) (k : Nat) : HashRow (W.setCell ⟨g, 72, none⟩ (.int .u64 (k : Int))) g ws rest k := ⟨h.lw, h.lr, by
  rw [heap_set7 h.row 72 _, ← hcells_set ws rest n k h.lw h.lr]
  simp⟩
theorem HashRow.set (h : HashRow W g ws rest n) (xs : List Nat) (hx : xs.length = 8) : HashRow (W.setRow g (hcells xs rest n).toArray) g xs rest n := ⟨hx, h.lr, setRow_heap W g _ _ _ (0, 0) h.row⟩
theorem HashRow.store (h : HashRow W g ws rest n) (P : Program) (xs : List Nat) (hx : xs.length = 8) : (storeCells ⟨g, 0, none⟩ (ints .u32 xs).toArray.toList 0).run P W = .ok () (W.setRow g (hcells xs rest n).toArray) := by
  have := run_storeCells_at P g 0 _ (ints .u32 xs) 0 _ W h.row (by simp [length_hcells _ _ _ h.lw h.lr, length_ints, hx]) (ints_one _ _)
  rw [this]
  congr 2
  have e : ((hcells ws rest n).drop 8) = ints .u8 rest ++ [.int .u64 (n : Int)] := by
    unfold hcells
    rw [List.drop_append, List.drop_eq_nil_of_le (by rw [length_ints, h.lw]; omega), length_ints, h.lw]
    rfl
  simp [length_ints, hx, e]
  rfl
end
theorem run_index_ints {P : Program} (w : World) (t e : TypeId) (n : Nat) (k : IntKind) (ht : P.underlying t = some (.array n e)) (he : P.underlying e = some (.int k)) (hsz : ∀ w, (sizeOf e).run P w = .ok 1 w)
    (l : List Nat) (hl : l.length = n) (i : Nat) (hi : i < n) : (Instr.index t (.agg (ints k l).toArray) (.int .i64 (i : Int))).run P w = .ok (.int k (nth l i : Int)) w := by
  have h1 : (0 : Int) ≤ (i : Int) ∧ (i : Int) < (n : Int) := by omega
  have := ints_get k l i (by omega)
  have h2 : ¬ n ≤ i := by omega
  simp [Instr.index, run_underlying ht, asIntOf, h1, part, isAgg, run_underlying he, hsz, this, h2, go_sem]
end Go.Proofs.YtjeliomjnalpcaaDoor
/- The code's own small words: a turn to the right, four bytes taken and put. Conditions: as typed. -/
namespace Go.Proofs.YtjeliomjnalpcaaDoor
open Go.RowKit
set_option maxRecDepth 20000
theorem and31 : ∀ k : Nat, k < 32 → 0 < k → bits .and .u64 (IntKind.u64.wrap (-(k : Int))) 31 = ((32 - k : Nat) : Int) := by decide +kernel
theorem rotl_pf (x k : Nat) (hx : x < 4294967296) (h0 : 0 < k) (hk : k < 32) (w : World) : Calls Tryd.prog 86 #[.int .u32 x, .int .i64 (-(k : Int))] w fun e w' => e = .returned (.int .u32 (rot32 x k : Nat)) ∧ w = w' := by
  have h1 := Nat.div_le_self x (2 ^ k)
  have h2 := Nat.mod_lt (x * 2 ^ (32 - k)) (show 0 < 4294967296 by omega)
  have ho := or32 (x * 2 ^ (32 - k) % 4294967296) (x / 2 ^ k) h2 (by omega)
  have e1 : (x : Int) / 2 ^ k = ((x / 2 ^ k : Nat) : Int) := by simp
  have e2 : (x : Int) * 2 ^ (32 - k) % 4294967296 = ((x * 2 ^ (32 - k) % 4294967296 : Nat) : Int) := by simp
  have e : bits .or .u32 ((x : Int) * 2 ^ (32 - k) % 4294967296) ((x : Int) / 2 ^ k) = ((rot32 x k : Nat) : Int) := by rw [e1, e2, ho, Nat.or_comm]; rfl
  have ha := and31 k hk h0
  have HE := Lib.hid e
  have hs : (32 - ((32 - k : Nat) : Int)).toNat = k := by omega
  have hs2 : ¬ (32 - ((32 - k : Nat) : Int)) < 0 := by omega
  clear ho e1 e2 h2 e
  go_enter Tryd.func86, Tryd.ntmps86
  go_wp2_with fail
  (try rw [ha])
  go_wp2_with fail
  go_ret
  exact ⟨ret_num HE.out, rfl⟩
theorem right_pf (x k : Nat) (hx : x < 4294967296) (h0 : 0 < k) (hk : k < 32) (w : World) : Calls Tryd.prog 75 #[.int .u32 x, .int .i64 k] w fun e w' => e = .returned (.int .u32 (rot32 x k : Nat)) ∧ w = w' := by
  go_enter Tryd.func75, Tryd.ntmps75
  go_wp2_with fail
  refine (rotl_pf x k hx h0 hk w).mono ?_
  rintro e w2 ⟨rfl, rfl⟩
  go_wp2_with fail
  go_ret
  exact ⟨rfl, rfl⟩
theorem right_q (x k : Nat) (ki : Int) (hx : x < 4294967296) (h0 : 0 < k) (hk : k < 32) (e : ki = (k : Int)) : ∀ w : World, Calls Tryd.prog 75 #[.int .u32 x, .int .i64 ki] w fun e w' => e = .returned (.int .u32 (rot32 x k : Nat)) ∧ w' = w := fun w => e ▸ (right_pf x k hx h0 hk w).mono fun _ _ ⟨a, b⟩ => ⟨a, b.symm⟩
theorem or_parts (a b k : Nat) (h : b < 2 ^ k) : a * 2 ^ k ||| b = a * 2 ^ k + b := by
  have := Nat.shiftLeft_add_eq_or_of_lt h a
  rw [Nat.shiftLeft_eq] at this
  exact this.symm
theorem take_or (a b c d : Nat) (ha : a < 256) (hb : b < 256) (hc : c < 256) (hd : d < 256) : bits .or .u32 (bits .or .u32 (bits .or .u32 ((a : Int) * 16777216) ((b : Int) * 65536)) ((c : Int) * 256)) (d : Int) = ((a * 16777216 + b * 65536 + c * 256 + d : Nat) : Int) := by
  have e1 : (a : Int) * 16777216 = ((a * 16777216 : Nat) : Int) := by omega
  have e2 : (b : Int) * 65536 = ((b * 65536 : Nat) : Int) := by omega
  have e3 : (c : Int) * 256 = ((c * 256 : Nat) : Int) := by omega
  have o1 : a * 16777216 ||| b * 65536 = a * 16777216 + b * 65536 := or_parts a (b * 65536) 24 (by omega)
  have o2 : (a * 16777216 + b * 65536) ||| c * 256 = a * 16777216 + b * 65536 + c * 256 := by
    have := or_parts (a * 256 + b) (c * 256) 16 (by omega)
    rw [show (a * 256 + b) * 2 ^ 16 = a * 16777216 + b * 65536 by omega] at this
    exact this
  have o3 : (a * 16777216 + b * 65536 + c * 256) ||| d = a * 16777216 + b * 65536 + c * 256 + d := by
    have := or_parts (a * 65536 + b * 256 + c) d 8 (by omega)
    rw [show (a * 65536 + b * 256 + c) * 2 ^ 8 = a * 16777216 + b * 65536 + c * 256 by omega] at this
    exact this
  rw [e1, e2, e3, or32 _ _ (by omega) (by omega), o1, or32 _ _ (by omega) (by omega), o2, or32 _ _ (by omega) (by omega), o3]
theorem take_pf (g o n c a0 a1 a2 a3 : Nat) (w : World) (h0 : a0 < 256) (h1 : a1 < 256) (h2 : a2 < 256) (h3 : a3 < 256) (c0 : w.cell? ⟨g, o, none⟩ = some (.int .u8 (a0 : Int))) (c1 : w.cell? ⟨g, o + 1, none⟩ = some (.int .u8 (a1 : Int))) (c2 : w.cell? ⟨g, o + 2, none⟩ = some (.int .u8 (a2 : Int))) (c3 : w.cell? ⟨g, o + 3, none⟩ = some (.int .u8 (a3 : Int))) (hn : 4 ≤ n) :
    Calls Tryd.prog 85 #[.slice (some ⟨g, o, none⟩) n c] w fun e w' => e = .returned (.int .u32 ((a0 * 16777216 + a1 * 65536 + a2 * 256 + a3 : Nat) : Int)) ∧ Below w.heap.size w w' := by
  have HE := Lib.hid (take_or a0 a1 a2 a3 h0 h1 h2 h3)
  have n0 : (0 : Int) < (n : Int) := by omega
  have n1 : (1 : Int) < (n : Int) := by omega
  have n2 : (2 : Int) < (n : Int) := by omega
  have n3 : (3 : Int) < (n : Int) := by omega
  go_enter Tryd.func85, Tryd.ntmps85
  go_wp2_with fail
  go_region
  go_wp2_with fail
  go_ret
  exact ⟨ret_num HE.out, (Drawn.more 1).below _⟩
theorem put_pf (g o n c x : Nat) (w : World) (hx : x < 4294967296) (hn : 4 ≤ n) (v0 v1 v2 v3 : Value) (c0 : w.cell? ⟨g, o, none⟩ = some v0) (c1 : w.cell? ⟨g, o + 1, none⟩ = some v1) (c2 : w.cell? ⟨g, o + 2, none⟩ = some v2) (c3 : w.cell? ⟨g, o + 3, none⟩ = some v3)
    (f0 : w.frozen? ⟨g, o, none⟩ = false) (f1 : w.frozen? ⟨g, o + 1, none⟩ = false) (f2 : w.frozen? ⟨g, o + 2, none⟩ = false) (f3 : w.frozen? ⟨g, o + 3, none⟩ = false) :
    Calls Tryd.prog 48 #[.slice (some ⟨g, o, none⟩) n c, .int .u32 (x : Int)] w fun e w' => e = .returned (.tuple #[]) ∧
      w' = (((w.setCell ⟨g, o, none⟩ (.int .u8 ((x / 16777216 : Nat) : Int))).setCell ⟨g, o + 1, none⟩ (.int .u8 ((x / 65536 % 256 : Nat) : Int))).setCell ⟨g, o + 2, none⟩ (.int .u8 ((x / 256 % 256 : Nat) : Int))).setCell ⟨g, o + 3, none⟩ (.int .u8 ((x % 256 : Nat) : Int)) := by
  have n0 : (0 : Int) < (n : Int) := by omega
  have n1 : (1 : Int) < (n : Int) := by omega
  have n2 : (2 : Int) < (n : Int) := by omega
  have n3 : (3 : Int) < (n : Int) := by omega
  go_enter Tryd.func48, Tryd.ntmps48
  go_wp2_with fail
  refine bodyPost_end (results_none rfl _ _ _) rfl ⟨rfl, ?_⟩
  simp
end Go.Proofs.YtjeliomjnalpcaaDoor

/- Several texts in one; each begins with a remark that says what it shows and on which conditions. -/
import Derived.Test.YtjeliomjnalpcaaDoorKan
/- What stands behind a message; what a hash holds; facts on whole and begun blocks. Conditions: as typed. -/
namespace Go.Proofs.YtjeliomjnalpcaaDoor
open Go.RowKit
set_option maxRecDepth 20000
/-- Four bytes of a word, the highest first. -/
def put4 (l : List Nat) (i x : Nat) : List Nat := (((l.set i (x / 16777216)).set (i + 1) (x / 65536 % 256)).set (i + 2) (x / 256 % 256)).set (i + 3) (x % 256)
theorem length_put4 (l : List Nat) (i x : Nat) : (put4 l i x).length = l.length := by simp [put4]
theorem put4_at (p q : List Nat) (a b c d i x : Nat) (h : p.length = i) : put4 (p ++ a :: b :: c :: d :: q) i x = p ++ x / 16777216 :: x / 65536 % 256 :: x / 256 % 256 :: x % 256 :: q := by
  subst h
  unfold put4
  rw [List.set_append_right _ _ (Nat.le_refl _), Nat.sub_self, List.set_cons_zero, List.set_append_right _ _ (by omega), Nat.add_sub_cancel_left, List.set_append_right _ _ (by omega), Nat.add_sub_cancel_left, List.set_append_right _ _ (by omega), Nat.add_sub_cancel_left]
  rfl
/-- What stands behind a message of so many bytes. -/
def endS (n : Nat) : List Nat := [128] ++ (List.replicate (zerosS n) 0 ++ lenS n)
theorem blocksS_end (m : List Nat) : blocksS m = m ++ endS m.length := by simp [blocksS, endS, List.append_assoc]
theorem length_endS (n : Nat) : (endS n).length = 9 + zerosS n := by simp [endS, lenS]; omega
theorem endS_bytes (n : Nat) : Bytes (endS n) := by
  intro x hx
  rcases List.mem_append.1 hx with h | h
  · simp at h; omega
  rcases List.mem_append.1 h with h | h
  · have := (List.mem_replicate.1 h).2; omega
  · obtain ⟨i, _, rfl⟩ := List.mem_map.1 h
    exact Nat.mod_lt _ (by omega)
theorem lenS_eq (n : Nat) (h : n ≤ 1000000) : lenS n = [0, 0, 0, 8 * n / 4294967296 % 256, 8 * n % 4294967296 / 16777216, 8 * n % 4294967296 / 65536 % 256, 8 * n % 4294967296 / 256 % 256, 8 * n % 4294967296 % 256] := by
  simp only [lenS, List.range_succ, List.range_zero, List.nil_append, List.cons_append, List.map_cons, List.map_nil, Nat.reduceSub, Nat.reducePow, List.cons.injEq, and_true]
  omega
theorem ending_list (n : Nat) (h : n ≤ 1000000) : put4 (put4 ((List.replicate (9 + zerosS n) 0).set 0 128) (1 + zerosS n) (8 * n / 4294967296)) (1 + zerosS n + 4) (8 * n % 4294967296) = endS n := by
  have e1 : (List.replicate (9 + zerosS n) 0).set 0 128 = (128 :: List.replicate (zerosS n) 0) ++ [0, 0, 0, 0, 0, 0, 0, 0] := by
    rw [show 9 + zerosS n = (zerosS n + 8) + 1 by omega, List.replicate_succ, List.set_cons_zero, ← List.replicate_append_replicate]
    rfl
  rw [e1, put4_at _ _ _ _ _ _ _ _ (by simp; omega)]
  have e2 : ∀ (p : List Nat) (a b c d : Nat) (q : List Nat), p ++ a :: b :: c :: d :: q = (p ++ [a, b, c, d]) ++ q := fun p a b c d q => by simp
  rw [e2, put4_at _ _ _ _ _ _ _ _ (by simp; omega), endS, lenS_eq n h]
  simp
  omega
theorem make_bytes7 (m : Nat) (u : World) (hm : m ≤ 10000000) : (Instr.makeSlice 34 (.int .i64 (m : Int)) (.int .i64 (m : Int))).run Tryd.prog u =
      .ok (.slice (some ⟨u.heap.size, 0, none⟩) m m) (u.alloc (.cells (List.replicate m (Value.int .u8 0)).toArray 5)) := by
  obtain ⟨i0, hi, hz0, hz1, hz2⟩ := info_parts num_info_u8
  have h := run_make (P := Tryd.prog) u 34 5 i0 (.int .u8 0) Tryd.underlying34 hi hz0 .i64 .i64 (m : Int) (m : Int) (by omega) (by omega) (by rw [hz2]; omega) (by omega)
  rw [Int.toNat_natCast, hz1, Nat.mul_one] at h
  rw [h, ← toList_madeCells_one]
  rfl
/-- Four bytes are put into an array of bytes. -/
theorem put_row (g o n c x : Nat) (xi : Int) (t : TypeId) (l : List Nat) (w : World) (hxi : xi = (x : Int)) (hx : x < 4294967296) (hn : 4 ≤ n) (ha : ArrK .u8 w g t l) (ho : o + 4 ≤ l.length) :
    Calls Tryd.prog 48 #[.slice (some ⟨g, o, none⟩) n c, .int .u32 xi] w fun e w' => e = .returned (.tuple #[]) ∧ ArrK .u8 w' g t (put4 l o x) ∧ w.grownBy w' (some g) := by
  subst hxi
  refine (put_pf g o n c x w hx hn _ _ _ _ (ha.cell o (by omega)) (ha.cell (o + 1) (by omega)) (ha.cell (o + 2) (by omega)) (ha.cell (o + 3) (by omega)) (ha.frozen _) (ha.frozen _) (ha.frozen _) (ha.frozen _)).mono ?_
  rintro e w' ⟨rfl, rfl⟩
  refine ⟨rfl, (((ha.set o _).set (o + 1) _).set (o + 2) _).set (o + 3) _, ?_⟩
  have s := fun (W : World) (i : Nat) (v : Value) => grown_setCell W ⟨g, i, none⟩ v
  refine ⟨rfl, rfl, rfl, by simp [World.setCell], fun k hk hne => ?_⟩
  have q := fun (W : World) (i : Nat) (v : Value) => Below.heap_setCell W ⟨g, i, none⟩ v k fun e => hne (by rw [e])
  rw [q, q, q, q]
/-! What a hash holds -/
def HashIs (w : World) (g : Nat) (m : List Nat) : Prop := ∃ rest, HashRow w g (foldS m (m.length / 64)) rest m.length ∧ Bytes rest ∧ rest.take (m.length % 64) = m.drop (64 * (m.length / 64))
theorem splice_bytes (l cs : List Nat) (i : Nat) (h1 : Bytes l) (h2 : Bytes cs) : Bytes (splice l i cs) := by
  intro x hx
  rcases List.mem_append.1 hx with h | h
  · exact h1 x (List.mem_of_mem_take h)
  rcases List.mem_append.1 h with h | h
  · exact h2 x h
  · exact h1 x (List.mem_of_mem_drop h)
theorem part_full (m b rest : List Nat) (k r : Nat) (hk : m.length = 64 * k + r) (hr : r < 64) (hl : rest.length = 64) (ht : rest.take r = m.drop (64 * k)) (hb : 64 - r ≤ b.length) : blockS (foldS m k) (splice rest r (b.take (64 - r))) = foldS (m ++ b) (k + 1) := by
  have e : splice rest r (b.take (64 - r)) = ((m ++ b).drop (64 * k)).take 64 := by
    unfold splice
    rw [List.length_take, Nat.min_eq_left hb, show r + (64 - r) = 64 by omega, List.drop_eq_nil_of_le (by omega), List.append_nil, ht, List.drop_append_of_le_length (by omega), List.take_append, List.length_drop, hk, Nat.add_sub_cancel_left, List.take_of_length_le (l := m.drop (64 * k)) (by rw [List.length_drop]; omega)]
  rw [e, foldS, foldS_append _ _ _ (by omega)]
theorem part_rest (m b rest : List Nat) (k r : Nat) (hk : m.length = 64 * k + r) (hl : rest.length = 64) (ht : rest.take r = m.drop (64 * k)) (hb : r + b.length < 64) : (splice rest r b).take (r + b.length) = (m ++ b).drop (64 * k) := by
  have h1 : (rest.take r).length = r := by rw [List.length_take]; omega
  unfold splice
  rw [← List.append_assoc, List.take_append_of_le_length (by rw [List.length_append, h1]; omega), List.take_of_length_le (by rw [List.length_append, h1]; omega), ht, List.drop_append_of_le_length (by omega)]
theorem loop_step (M : List Nat) (j : Nat) : blockS (foldS M j) (M.drop (64 * j)) = foldS M (j + 1) := by rw [foldS, blockS_take]
theorem end_rest (M rest : List Nat) (j : Nat) (_ : rest.length = 64) (h1 : 64 * j ≤ M.length) (h2 : M.length < 64 * j + 64) : (splice rest 0 (M.drop (64 * j))).take (M.length % 64) = M.drop (64 * (M.length / 64)) := by
  have e : M.length / 64 = j := by omega
  have e2 : M.length % 64 = (M.drop (64 * j)).length := by rw [List.length_drop]; omega
  rw [e, e2]
  unfold splice
  rw [List.take_zero, List.nil_append, List.take_append_of_le_length (Nat.le_refl _), List.take_of_length_le (Nat.le_refl _)]
theorem drop_after (m b : List Nat) (k r : Nat) (hk : m.length = 64 * k + r) (hr : r < 64) : (m ++ b).drop (64 * (k + 1)) = b.drop (64 - r) := by
  rw [List.drop_append, List.drop_eq_nil_of_le (by omega), List.nil_append]
  congr 1
  omega
/-- A slice, some places on. -/
theorem Rd.on {k : IntKind} {w : World} {B g o : Nat} {l : List Nat} (h : Rd k w B (some ⟨g, o, none⟩) l) (q : Nat) : Rd k w B (some ⟨g, o + q, none⟩) (l.drop q) := fun hl => by
  rw [List.length_drop] at hl
  obtain ⟨b, off, e, hb, hc⟩ := h (by omega)
  cases e
  refine ⟨g, o + q, rfl, hb, fun j hj => ?_⟩
  rw [List.length_drop] at hj
  have := hc (q + j) (by omega)
  rw [show nth (l.drop q) j = nth l (q + j) by simp [nth], ← this, Nat.add_assoc]
theorem rd_same {k : IntKind} {w w' : World} {B : Nat} {A : Option Addr} {l : List Nat} (h : Rd k w B A l) (hs : 0 < l.length → ∀ g o, A = some ⟨g, o, none⟩ → g < B → w'.heap[g]? = w.heap[g]?) : Rd k w' B A l := fun hl => by
  obtain ⟨b, off, rfl, hb, hc⟩ := h hl
  refine ⟨b, off, rfl, hb, fun j hj => ?_⟩
  rw [← hc j hj]
  simp only [World.cell?]
  rw [hs hl b off rfl hb]
theorem Rd.beside {k : IntKind} {w w' : World} {A : Option Addr} {l : List Nat} {S : Nat → Prop} (h : Rd k w w.heap.size A l) (b : Beside S w w') (hA : 0 < l.length → ∀ g o, A = some ⟨g, o, none⟩ → ¬ S g) : Rd k w' w'.heap.size A l :=
  (rd_same h fun h0 g o e hg => b.block g hg (hA h0 g o e)).more b.size
/-- 'copy' into a block: nothing else is touched. -/
theorem wpList_copy_beside {P : Program} {w : World} {ops : Array Oper} {rest : List Oper} {o : Oper} {a : Act} {Q : Exit → Act → World → Prop} (hgd : o.guard = none) (d s : Operand) (dT sT : TypeId)
    (ho : o.op = .call { callee := .builtin .copy, args := #[d, s], argTypes := #[dT, sT] }) (elem : TypeId) (hu : P.underlying dT = some (.slice elem)) (hsz : (P.info? elem).map (·.size) = some 1)
    (dp sp : Option Addr) (dLen dCap sLen sCap : Nat) (hd : a.eval d = .slice dp dLen dCap) (hs : a.eval s = .slice sp sLen sCap)
    (g off : Nat) (cur : List Value) (t : TypeId) (hg : w.heap[g]? = some (.cells cur.toArray t (0, 0))) (cs : List Value) (hn : cs.length = Nat.min sLen dLen)
    (hpos : 0 < cs.length → dp = some ⟨g, off, none⟩ ∧ ∃ ad, sp = some ad ∧ ∀ j v, cs[j]? = some v → w.cell? (ad.add j) = some v)
    (hfit : off + cs.length ≤ cur.length) (h1 : ∀ v ∈ cs, v.oneCell' = true)
    (h : ∀ w', Hid (w'.heap[g]? = some (.cells (splice cur off cs).toArray t (0, 0))) → Beside (fun k => k = g) w w' → wpList P ops Q rest (a.put o.dst (goInt cs.length)) w') :
    wpList P ops Q (o :: rest) a w := by
  by_cases h0 : cs.length = 0
  · obtain rfl : cs = [] := List.eq_nil_of_length_eq_zero h0
    refine wpList_copy_nothing hgd d s dT sT ho elem hu hsz dp sp dLen dCap sLen sCap hd hs (by simpa using hn.symm) ?_
    exact h w (show _ = _ by simpa [splice] using hg) (Beside.refl w)
  · obtain ⟨rfl, ad, rfl, hsrc⟩ := hpos (by omega)
    refine wpList_copy_own hgd d s dT sT ho elem hu hsz g off dLen dCap ad sLen sCap hd hs cur.toArray t hg cs hn hsrc (by simpa using hfit) h1 ?_
    exact h _ (show _ = _ by simpa [splice] using setRow_heap w g _ _ t _ hg) (Beside.setRow w g _ rfl)
theorem slice_rest (g r : Nat) (hr : r < 64) (u : World) : (Instr.sliceAt 76 (.pointer (some ⟨g, 8, none⟩)) (some (.int .i64 (r : Int))) none none).run Tryd.prog u = .ok (.slice (some ⟨g, 8 + r, none⟩) (64 - r) (64 - r)) u := by
  have hs : ∀ w, (sizeOf 5).run Tryd.prog w = .ok 1 w := fun w => by rfl
  have h2 : ¬ 64 = r := by omega
  have h3 : (r : Int) ≤ 64 := by omega
  simp [Instr.sliceAt, Instr.sureAddr, run_underlying Tryd.underlying76, Instr.sliceBounds, run_sliceBound, hs, h2, h3, Addr.add_lit]
theorem slice_whole (g : Nat) (u : World) : (Instr.sliceAt 76 (.pointer (some ⟨g, 8, none⟩)) none none none).run Tryd.prog u = .ok (.slice (some ⟨g, 8, none⟩) 64 64) u := by
  have hs : ∀ w, (sizeOf 5).run Tryd.prog w = .ok 1 w := fun w => by rfl
  simp [Instr.sliceAt, Instr.sureAddr, run_underlying Tryd.underlying76, Instr.sliceBounds, hs, Addr.add_lit]
theorem slice_out (g i : Nat) (hi : i < 8) (u : World) : (Instr.sliceAt 35 (.pointer (some ⟨g, 0, none⟩)) (some (.int .i64 (4 * (i : Int)))) none none).run Tryd.prog u = .ok (.slice (some ⟨g, 4 * i, none⟩) (32 - 4 * i) (32 - 4 * i)) u := by
  have hs : ∀ w, (sizeOf 5).run Tryd.prog w = .ok 1 w := fun w => by rfl
  have h0 : 0 ≤ 4 * (i : Int) := by omega
  have h2 : ¬ 32 = 4 * i := by omega
  have h3 : 4 * (i : Int) ≤ 32 := by omega
  have e : (4 * (i : Int)).toNat = 4 * i := by omega
  simp [Instr.sliceAt, Instr.sureAddr, run_underlying Tryd.underlying35, Instr.sliceBounds, run_sliceBound, hs, h0, h2, h3, e, Addr.add_lit]
set_option maxHeartbeats 1000000 in
theorem ending_pf (L : Nat) (hL : L ≤ 1000000) (w : World) : Calls Tryd.prog 47 #[.int .u64 L] w fun e w' => ∃ g c, e = .returned (.slice (some ⟨g, 0, none⟩) (9 + zerosS L) c) ∧ 9 + zerosS L ≤ c ∧ w.heap.size ≤ g ∧ Rd .u8 w' w'.heap.size (some ⟨g, 0, none⟩) (endS L) ∧ Below w.heap.size w w' := by
  have hz : zerosS L = (119 - L % 64) % 64 := rfl
  have hfl := ending_list L hL
  obtain ⟨r, hr⟩ : ∃ r, L % 64 = r := ⟨_, rfl⟩
  have hr6 : r < 64 := by omega
  rw [hr] at hz
  obtain ⟨z, hz2⟩ : ∃ z, zerosS L = z := ⟨_, rfl⟩
  rw [hz2] at hz hfl ⊢
  have hz6 : z < 64 := by omega
  have h1 : (L : Int) % 64 = (r : Int) := by omega
  obtain ⟨q, hq⟩ : ∃ q : Nat, (119 : Int) - (r : Int) = (q : Int) := ⟨119 - r, by omega⟩
  have h2 : (q : Int) % 64 = (z : Int) := by omega
  have hmk := make_bytes7 (9 + z) w (by omega)
  rw [show ((9 + z : Nat) : Int) = 1 + (z : Int) + 8 by omega] at hmk
  have A0 : ArrK .u8 (w.alloc (.cells (List.replicate (9 + z) (Value.int .u8 0)).toArray 5)) w.heap.size 5 (List.replicate (9 + z) 0) := by
    have := ArrK.new (k := .u8) w 5 (List.replicate (9 + z) 0)
    simpa [ints] using this
  have b0 : Below w.heap.size w (w.alloc (.cells (List.replicate (9 + z) (Value.int .u8 0)).toArray 5)) := (Below.refl _ w).alloc (Nat.le_refl _) _
  obtain ⟨E, hE⟩ : ∃ E, w.alloc (.cells (List.replicate (9 + z) (Value.int .u8 0)).toArray 5) = E := ⟨_, rfl⟩
  rw [hE] at hmk A0 b0
  have k0 := A0.cell 0 (by rw [List.length_replicate]; omega)
  have f0 := A0.frozen 0
  have A1 := A0.set 0 128
  have b1 := b0.setCell (p := ⟨w.heap.size, 0, none⟩) (Nat.le_refl _) (.int .u8 128)
  have HA := Lib.hid (And.intro A1 b1)
  have HF := Lib.hid hfl
  have hn1 : ¬ z + 8 = z := by omega
  have HZ := Lib.hid hz2
  clear A0 b0 A1 b1 hE hfl hz hz2 hr
  go_enter Tryd.func47, Tryd.ntmps47
  go_wp2_with fail
  refine (put_row w.heap.size (1 + z) _ _ (8 * L / 4294967296) _ 5 _ _ (by omega) (by omega) (by omega) HA.out.1 (by rw [List.length_set, List.length_replicate]; omega)).mono ?_
  rintro e w2 ⟨rfl, A2, g2⟩
  have b2 := HA.out.2.grown g2 HA.out.2.size (fun q e => by cases e; exact Nat.le_refl _)
  clear HA hmk k0 f0
  have hn2 : ¬ z + 4 = z + 8 := by omega
  go_wp2_with fail
  refine (put_row w.heap.size (1 + z + 4) _ _ (8 * L % 4294967296) _ 5 _ _ (by omega) (by omega) (by omega) A2 (by rw [length_put4, List.length_set, List.length_replicate]; omega)).mono ?_
  rintro e w3 ⟨rfl, A3, g3⟩
  have b3 := b2.grown g3 b2.size (fun q e => by cases e; exact Nat.le_refl _)
  rw [HF.out] at A3
  have R3 : Rd .u8 w3 w3.heap.size (some ⟨w.heap.size, 0, none⟩) (endS L) := fun _ => ⟨w.heap.size, 0, rfl, A3.lt, fun j hj => by rw [Nat.zero_add]; exact A3.cell j hj⟩
  have HX := Lib.hid (And.intro R3 b3)
  clear A2 A3 g2 g3 b2 b3 R3
  go_wp2_with fail
  go_ret
  exact ⟨_, _, rfl, by omega, Nat.le_refl _, HX.out.1, HX.out.2⟩
end Go.Proofs.YtjeliomjnalpcaaDoor

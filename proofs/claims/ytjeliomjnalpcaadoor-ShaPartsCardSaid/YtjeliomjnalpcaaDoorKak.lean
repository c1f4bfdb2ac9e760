/- Several texts in one; each begins with a remark that says what it shows and on which conditions. -/
import Derived.Test.YtjeliomjnalpcaaDoorKaj
/- The document's blocks of a message. Conditions: as typed (a length that fits a machine). -/
namespace Go.Proofs.YtjeliomjnalpcaaDoor
open Go.RowKit
set_option maxRecDepth 20000
/-- A message, a byte 128, and so many noughts. -/
def padS (m : List Nat) (z : Nat) : List Nat := m ++ [128] ++ List.replicate z 0
theorem length_padS (m : List Nat) (z : Nat) : (padS m z).length = m.length + 1 + z := by simp [padS]; omega
theorem padS_zero (m : List Nat) : padS m 0 = m ++ [128] := by simp [padS]
theorem padS_succ (m : List Nat) (z : Nat) : padS m (z + 1) = padS m z ++ [0] := by rw [padS, List.replicate_succ', ← List.append_assoc]; rfl
def lenV : Value → Nat
  | .slice _ n _ => n
  | _ => 0
theorem length_lenS (n : Nat) : (lenS n).length = 8 := by simp [lenS]
/-- One byte of the length, as the code reckons it. -/
theorem lenB (n k : Nat) (hn : n ≤ 100000) : (8 * (n : Int)) / 2 ^ (8 * (7 - k)) % 256 = ((8 * n % 18446744073709551616 / 256 ^ (7 - k) % 256 : Nat) : Int) := by
  have e1 : 8 * n % 18446744073709551616 = 8 * n := Nat.mod_eq_of_lt (by omega)
  rw [e1]
  have e2 : (256 : Nat) ^ (7 - k) = 2 ^ (8 * (7 - k)) := by rw [show (256 : Nat) = 2 ^ 8 from rfl, ← Nat.pow_mul]
  rw [e2]
  push_cast
  rfl
theorem take_lenS (n k : Nat) (h : k < 8) : (lenS n).take (k + 1) = (lenS n).take k ++ [8 * n % 18446744073709551616 / 256 ^ (7 - k) % 256] := by
  rw [List.take_succ_eq_append_getElem (by rw [length_lenS]; exact h)]
  simp [lenS]
set_option maxHeartbeats 1000000 in
theorem blocks07 (A : Option Addr) (c : Nat) (m : List Nat) (w : World) (hr : Rd .u8 w w.heap.size A m) (hl : m.length ≤ 100000) : Calls Tryd.prog 44 #[.slice A m.length c] w fun e w' =>
    ∃ v, e = .returned v ∧ w'.ownsRow w.heap.size 5 1 v (blocksS m).length (ints .u8 (blocksS m)) ∧ Below w.heap.size w w' := by
  obtain ⟨i0, hi, hz0, hz1, hz2⟩ := info_parts num_info_u8
  go_enter Tryd.func44, Tryd.ntmps44
  have own0 : (w.alloc (.cells #[] 5)).ownsRow w.heap.size 5 1 (.slice (some ⟨w.heap.size, 0, none⟩) 0 0) 0 (ints .u8 []) := own_of_heap (cur := []) (heap_alloc_new w (.cells #[] 5)) (Nat.le_refl _) (Nat.le_refl _) (by unfold maxLen; omega) rfl rfl
  have b0 : Below w.heap.size w (w.alloc (.cells #[] 5)) := (Below.refl _ w).alloc (Nat.le_refl _) _
  have hr0 := Lib.hid ((hr.below b0))
  clear hr
  go_wp2_with (at_builtin; refine wpList_append_rd _ rfl (.tmp 5) (.tmp 6) _ rfl w.heap.size 5 i0 _ 1 Tryd.underlying34 hi hz0 hz1 hz2 rfl (.slice (some ⟨w.heap.size, 0, none⟩) 0 0) 0 (ints .u8 []) rfl own0 .u8 w.heap.size A m.length c m rfl ?c2 hr0.out ?c4 ?c5 ?c6 ?_)
  case c2 => rfl
  case c4 => unfold maxLen; omega
  case c5 => omega
  case c6 => exact b0.size
  intro v1 w1 own1 g1
  have b1 : Below w.heap.size w w1 := b0.grown g1 b0.size (by simp [Value.ownBlock])
  rw [← ints_append, List.nil_append] at own1
  obtain ⟨X1, d1, rfl, hd1, _⟩ := own_form own1
  clear own0 b0 g1 hr0
  go_wp2_with (at_builtin; refine wpList_append_one _ rfl _ _ 34 rfl w.heap.size 5 i0 (.int .u8 0) 1 Tryd.underlying34 hi hz0 hz1 hz2 rfl _ _ .u8 m rfl own1 _ 128 rfl rfl (by unfold maxLen; omega) (by omega) b1.size ?_)
  intro v2 w2 own2 _ b2'
  have b2 := b1.trans b2'
  obtain ⟨X2, d2, rfl, hd2, _⟩ := own_form own2
  clear own1 b1 b2'
  obtain ⟨n2, hn2⟩ : ∃ n, m.length + 1 = n := ⟨_, rfl⟩
  rw [hn2] at own2 hd2 ⊢
  rw [← padS_zero] at own2
  have Hn2 := Lib.hid hn2
  have HL := Lib.hid hl
  clear hn2 hl
  go_wp2_with fail
  go_loopw [3] (fun v wr => ∃ n z, n = n2 + z ∧ z ≤ zerosS m.length ∧ wr.ownsRow w.heap.size 5 1 v n (ints .u8 (padS m z)) ∧ Below w.heap.size w wr) (fun v _ => n2 + 64 - lenV v)
  case atStart => exact ⟨n2, 0, by omega, by omega, own2, b2⟩
  case round =>
    obtain ⟨n, z, hn, hz, hown, hbl⟩ := hrel
    obtain ⟨X, d, rfl, hd, _⟩ := own_form hown
    have hz63 : zerosS m.length < 64 := Nat.mod_lt _ (by omega)
    clear own2 b2
    by_cases hlt : z < zerosS m.length
    · have hne : (((n : Int) % 64) != 56) = true := by
        have h1 := Hn2.out
        unfold zerosS at hlt hz
        simp
        omega
      have hnl : n ≤ 200000 := by have h1 := Hn2.out; have h2 := HL.out; omega
      have HN := Lib.hid hn
      have HLT := Lib.hid hlt
      clear hn hz hlt
      go_wp2_with (at_builtin; refine wpList_append_one _ rfl _ _ 34 rfl w.heap.size 5 i0 (.int .u8 0) 1 Tryd.underlying34 hi hz0 hz1 hz2 rfl _ _ .u8 (padS m z) rfl hown _ 0 rfl rfl (by unfold maxLen; omega) (by omega) hbl.size ?_)
      intro v3 w3 own3 _ b3
      obtain ⟨X3, d3, rfl, hd3, _⟩ := own_form own3
      rw [← padS_succ] at own3
      have HO := Lib.hid own3
      have HB := Lib.hid (hbl.trans b3)
      clear own3 b3 hown hbl
      go_wp2_with fail
      go_roundw
      case rel => exact ⟨n + 1, z + 1, by have := HN.out; omega, by have := HLT.out; omega, HO.out, HB.out⟩
      case measure => have h1 := HN.out; have h2 := HLT.out; simp [lenV]; omega
    · have hze : z = zerosS m.length := by omega
      have hne : (((n : Int) % 64) != 56) = false := by
        have h1 := Hn2.out
        rw [hze] at hn
        unfold zerosS at hn
        simp
        omega
      have hnl : n ≤ 200000 := by have h1 := Hn2.out; have h2 := HL.out; omega
      have HN := Lib.hid hn
      have HZ := Lib.hid hze
      clear hn hz hlt hze
      go_wp2_with fail
      have Hzl := Lib.hid (show (padS m z).length = n by have h1 := HN.out; have h2 := Hn2.out; rw [length_padS]; omega)
      have hml : m.length ≤ 100000 := HL.out
      have hu1 : IntKind.u64.wrap (m.length : Int) = (m.length : Int) := IntWalk.u64_in _ (by omega)
      have hu2 : IntKind.u64.wrap (8 * (m.length : Int)) = 8 * (m.length : Int) := IntWalk.u64_in _ (by omega)
      have Hml := Lib.hid hml
      clear hml
      go_loopw [3, 4] (fun v i wr => ∃ k : Nat, k ≤ 8 ∧ i = .int .i64 (7 - (k : Int)) ∧ wr.ownsRow w.heap.size 5 1 v (n + k) (ints .u8 (padS m z ++ (lenS m.length).take k)) ∧ Below w.heap.size w wr) (fun _ i _ => (intOf i + 1).toNat)
      case atStart => exact ⟨0, by omega, rfl, by rw [List.take_zero, List.append_nil]; exact hown, hbl⟩
      case round =>
        obtain ⟨k, hk, rfl, hown2, hbl2⟩ := hrel
        obtain ⟨Y, e, rfl, he, _⟩ := own_form hown2
        clear hown hbl
        by_cases hk8 : k < 8
        · have hge : (decide ((0 : Int) ≤ 7 - (k : Int))) = true := by simp; omega
          go_wp2_with (at_builtin; refine wpList_append_one _ rfl _ _ 34 rfl w.heap.size 5 i0 (.int .u8 0) 1 Tryd.underlying34 hi hz0 hz1 hz2 rfl _ _ .u8 (padS m z ++ (lenS m.length).take k) rfl hown2 _ (8 * m.length % 18446744073709551616 / 256 ^ (7 - k) % 256) (lenB m.length k Hml.out) rfl (by unfold maxLen; omega) (by omega) hbl2.size ?_)
          intro v3 w3 own3 _ b3
          obtain ⟨X3, d3, rfl, hd3, _⟩ := own_form own3
          rw [← take_lenS _ _ hk8] at own3
          have HO := Lib.hid own3
          have HB := Lib.hid (hbl2.trans b3)
          clear own3 b3 hown2 hbl2
          go_wp2_with fail
          go_roundw
          case rel => exact ⟨k + 1, by omega, by congr 1; omega, HO.out, HB.out⟩
          case measure => simp [intOf]; omega
        · obtain rfl : k = 8 := by omega
          have HO := Lib.hid hown2
          have HB := Lib.hid hbl2
          clear hown2 hbl2
          go_wp2_with fail
          have e1 : (lenS m.length).take 8 = lenS m.length := List.take_of_length_le (by rw [length_lenS]; omega)
          have e2 : padS m z ++ (lenS m.length).take 8 = blocksS m := by rw [e1, HZ.out]; rfl
          have e3 : n + 8 = (blocksS m).length := by rw [← e2, e1, List.length_append, length_lenS, Hzl.out]
          have e4 : wr.ownsRow w.heap.size 5 1 (.slice Y (n + 8) e) (blocksS m).length (ints .u8 (blocksS m)) := by have h := HO.out; rw [e2] at h; exact (congrArg (fun q => wr.ownsRow w.heap.size 5 1 (.slice Y (n + 8) e) q (ints .u8 (blocksS m))) e3).mp h
          go_ret
          exact ⟨_, rfl, e4, HB.out⟩
end Go.Proofs.YtjeliomjnalpcaaDoor
/- The document's constants of SHA-256, as arrays. No condition. -/
namespace Go.Proofs.YtjeliomjnalpcaaDoor
open Go.RowKit
set_option maxRecDepth 20000
theorem first07 (w : World) : Calls Tryd.prog 31 #[] w (OutAgg .u32 firstS w) := by
  obtain ⟨cs, hcs⟩ : ∃ cs, (ints .u32 firstS).toArray = cs := ⟨_, rfl⟩
  have hc2 := hcs
  simp [ints, firstS] at hc2
  have hsz : (Tryd.prog.info? 54).map (·.size) = some cs.size := by rw [← hcs]; kernel_rfl
  have HC := Lib.hid hcs
  have HS := Lib.hid hsz
  have H2 := Lib.hid hc2
  clear hcs hsz hc2
  go_enter Tryd.func31, Tryd.ntmps31
  go_wp2_with fail
  rw [H2.out]
  refine bodyPost_ret (results_cell_row (p := 0) rfl _ _ w.heap.size 54 cs (0, 0) _ rfl (heap_alloc_last w _) Tryd.underlying54 rfl HS.out) rfl ?_
  exact ⟨by rw [HC.out], (Below.refl _ w).alloc (Nat.le_refl _) _⟩
theorem wp_build_row {P : Program} {id : Nat} {Q : Exit → Act → World → Prop} {a : Act} {w : World} (t ty0 ty1 : TypeId) (y d : Tmp) (fs : Array (Nat × Operand)) (p1 p2 : String) (f1 f2 : Array Edge) (g2 : Nat) (cs zs : Array Value)
    (hb : (Instr.build t (fs.map fun (i, x) => (i, a.eval x))).run P w = .ok (.agg cs) w)
    (hy : a.eval (.tmp y) = .pointer (some ⟨g2, 0, none⟩)) (hd : d < a.tmps.size) (hdy : d ≠ y)
    (hg2 : w.heap[g2]? = some (.cells zs t (0, 0))) (hi : (P.info? t).map (·.size) = some cs.size) (hold : zs.size = cs.size) (h1 : cs.all (·.oneCell') = true)
    (h : Q .normal ((a.put (some d) (.agg cs)).put none undef) (w.setRow g2 cs)) :
    (Code.region id #[{ dst := some d, op := .build t fs, type := ty1, pos := p1, after := f1, guard := none }, { dst := none, op := .store t (.tmp y) (.tmp d), type := ty0, pos := p2, after := f2, guard := none }] false).wp P Q a w := by
  refine wp_region_lit ?_
  refine wpList_plain rfl fun K hK => ?_
  have key : wpList P #[{ dst := some d, op := .build t fs, type := ty1, pos := p1, after := f1, guard := none }, { dst := none, op := .store t (.tmp y) (.tmp d), type := ty0, pos := p2, after := f2, guard := none }] Q [{ dst := none, op := .store t (.tmp y) (.tmp d), type := ty0, pos := p2, after := f2, guard := none }] (a.put (some d) (.agg cs)) w := by
    refine wpList_store_row rfl t (.tmp y) (.tmp d) rfl g2 cs ?_ ?_ t zs hg2 hi hold h1 ?_
    · rw [eval_put_other _ _ _ _ hdy]; exact hy
    · exact eval_put_own _ _ _ hd
    · exact h
  unfold Oper.wp
  simp [execOp, hb, Result.andThen]
  exact hK _ _ key
theorem steps07 (w : World) : Calls Tryd.prog 32 #[] w (OutAgg .u32 stepsS w) := by
  obtain ⟨cs, hcs⟩ : ∃ cs, (ints .u32 stepsS).toArray = cs := ⟨_, rfl⟩
  have hsz : (Tryd.prog.info? 55).map (·.size) = some cs.size := by rw [← hcs]; kernel_rfl
  have hs64 : cs.size = 64 := by rw [← hcs]; rfl
  have hone : cs.all (·.oneCell') = true := by
    rw [← hcs]
    exact Array.all_eq_true_iff_forall_mem.2 fun v hv => ints_one _ _ v (by simpa using hv)
  have HC := Lib.hid hcs
  have HS := Lib.hid (And.intro hsz (And.intro hs64 hone))
  clear hcs hsz hs64 hone
  go_enter Tryd.func32, Tryd.ntmps32
  go_upto_region 1 with fail
  refine wp_build_row 55 _ _ 0 1 _ _ _ _ _ w.heap.size cs _ ?hb ?hy ?hd (by decide) (heap_alloc_last w _) HS.out.1 ?hz HS.out.2.2 ?hq
  case hb => rw [← HC.out]; kernel_rfl
  case hy => rfl
  case hd => exact (by decide : 1 < 2)
  case hz => rw [HS.out.2.1]; rfl
  case hq =>
    have hput : ∀ a : Act, a.put none undef = a := fun _ => rfl
    rw [hput, World.setRow_alloc_new]
    go_wp2_with fail
    refine bodyPost_ret (results_cell_row (p := 0) rfl _ _ w.heap.size 55 cs (0, 0) _ rfl (heap_alloc_last w _) Tryd.underlying55 rfl HS.out.1) rfl ?_
    exact ⟨by rw [HC.out], (Below.refl _ w).alloc (Nat.le_refl _) _⟩
/-- An array of eight numbers in one list. -/
theorem list8 (l : List Nat) (h : l.length = 8) : ∃ a b c d e f g i, l = [a, b, c, d, e, f, g, i] := by
  match l, h with
  | [a, b, c, d, e, f, g, i], _ => exact ⟨a, b, c, d, e, f, g, i, rfl⟩
theorem length_roundsS (h ks ws : List Nat) (hh : h.length = 8) (n : Nat) : (roundsS h ks ws n).length = 8 := by cases n with | zero => exact hh | succ n => rfl
def W32 (l : List Nat) : Prop := ∀ x ∈ l, x < 4294967296
theorem roundS_lt (v : List Nat) (k w : Nat) (hv : W32 v) : W32 (roundS v k w) := by
  have hn := fun i => nth_word7 v hv i
  intro x hx
  simp only [roundS, List.mem_cons, List.not_mem_nil, or_false] at hx
  have := hn 0; have := hn 1; have := hn 2; have := hn 4; have := hn 5; have := hn 6
  omega
theorem roundsS_lt (h ks ws : List Nat) (hh : W32 h) (n : Nat) : W32 (roundsS h ks ws n) := by
  cases n with
  | zero => exact hh
  | succ n => exact roundS_lt _ _ _ (by induction n with | zero => exact hh | succ n ih => exact roundS_lt _ _ _ ih)
theorem length_addS (h v : List Nat) : (addS h v).length = 8 := by simp [addS]
theorem addS_lt (h v : List Nat) : W32 (addS h v) := by
  intro x hx
  obtain ⟨i, _, rfl⟩ := List.mem_map.1 hx
  omega
theorem firstS_lt : W32 firstS := by unfold W32 firstS; decide
theorem stepsS_lt : W32 stepsS := by unfold W32 stepsS; decide
theorem length_foldS (b : List Nat) (n : Nat) : (foldS b n).length = 8 := by cases n with | zero => rfl | succ n => exact length_addS _ _
theorem foldS_lt (b : List Nat) (n : Nat) : W32 (foldS b n) := by cases n with | zero => exact firstS_lt | succ n => exact addS_lt _ _
theorem length_blocksS (m : List Nat) : (blocksS m).length = 64 * ((m.length + 72) / 64) := by
  have h1 : (blocksS m).length = m.length + 1 + zerosS m.length + 8 := by simp [blocksS, lenS]; omega
  rw [h1]
  unfold zerosS
  omega
theorem blocksS_bytes (m : List Nat) (hm : Bytes m) : Bytes (blocksS m) := by
  intro x hx
  simp only [blocksS, List.mem_append, List.mem_singleton, List.mem_replicate] at hx
  rcases hx with ((h | h) | h) | h
  · exact hm x h
  · omega
  · omega
  · obtain ⟨i, _, rfl⟩ := List.mem_map.1 h
    exact Nat.mod_lt _ (by omega)
/-- So many of eight words are added. -/
def mixS (h v : List Nat) (i : Nat) : List Nat := (addS h v).take i ++ h.drop i
theorem length_mixS (h v : List Nat) (i : Nat) (hh : h.length = 8) (hi : i ≤ 8) : (mixS h v i).length = 8 := by simp [mixS, length_addS, hh]; omega
theorem mixS_none (h v : List Nat) : mixS h v 0 = h := by simp [mixS]
theorem mixS_all (h v : List Nat) (hh : h.length = 8) : mixS h v 8 = addS h v := by
  rw [mixS, List.take_of_length_le (by rw [length_addS]; omega), List.drop_eq_nil_of_le (by omega), List.append_nil]
theorem nth_mixS (h v : List Nat) (i : Nat) (_ : h.length = 8) (hi : i < 8) : nth (mixS h v i) i = nth h i := by
  unfold nth mixS
  rw [List.getD_eq_getElem?_getD, List.getElem?_append_right (by simp [length_addS]; omega), List.getElem?_drop]
  have : i + (i - ((addS h v).take i).length) = i := by rw [List.length_take, length_addS]; omega
  rw [this]
  simp
theorem mixS_set (h v : List Nat) (i : Nat) (hh : h.length = 8) (hi : i < 8) : (mixS h v i).set i ((nth h i + nth v i) % 4294967296) = mixS h v (i + 1) := by
  obtain ⟨a, b, c, d, e, f, g, j, rfl⟩ := list8 h hh
  have hcases : i = 0 ∨ i = 1 ∨ i = 2 ∨ i = 3 ∨ i = 4 ∨ i = 5 ∨ i = 6 ∨ i = 7 := by omega
  rcases hcases with rfl | rfl | rfl | rfl | rfl | rfl | rfl | rfl <;> rfl
/-- So many bytes of a sum are laid. -/
def outS (h : List Nat) (j : Nat) : List Nat := (bytesS h).take j ++ List.replicate (32 - j) 0
theorem length_bytesS (h : List Nat) : (bytesS h).length = 32 := by simp [bytesS]
theorem length_outS (h : List Nat) (j : Nat) (hj : j ≤ 32) : (outS h j).length = 32 := by simp [outS, length_bytesS]; omega
theorem outS_none (h : List Nat) : outS h 0 = List.replicate 32 0 := by simp [outS]
theorem outS_all (h : List Nat) : outS h 32 = bytesS h := by
  rw [outS, List.take_of_length_le (by rw [length_bytesS]; omega)]; simp
theorem outS_set (h : List Nat) (j : Nat) (hj : j < 32) : (outS h j).set j (nth h (j / 4) / 256 ^ (3 - j % 4) % 256) = outS h (j + 1) := by
  unfold outS
  rw [List.set_append_right _ _ (by rw [List.length_take, length_bytesS]; omega), List.length_take, length_bytesS, show j - min j 32 = 0 by omega, show 32 - j = (32 - (j + 1)) + 1 by omega, List.replicate_succ, List.set_cons_zero,
    List.take_succ_eq_append_getElem (by rw [length_bytesS]; exact hj), List.append_assoc]
  simp [bytesS]
/-- A whole array of numbers. -/
def ArrK (k : IntKind) (W : World) (g : Nat) (t : TypeId) (l : List Nat) : Prop := W.heap[g]? = some (.cells (ints k l).toArray t (0, 0))
section
variable {k : IntKind} {W W' : World} {g : Nat} {t : TypeId} {l : List Nat}
theorem ArrK.lt (h : ArrK k W g t l) : g < W.heap.size := (Array.getElem?_eq_some_iff.1 h).1
theorem ArrK.cell (h : ArrK k W g t l) (i : Nat) (hi : i < l.length) : W.cell? ⟨g, i, none⟩ = some (.int k (nth l i : Int)) := by
  unfold World.cell?
  rw [show W.heap[g]? = _ from h]
  have := ints_get k l i hi
  simpa using this
theorem ArrK.frozen (h : ArrK k W g t l) (i : Nat) : W.frozen? ⟨g, i, none⟩ = false := by
  unfold World.frozen?
  rw [show W.heap[g]? = _ from h]
  simp
theorem ArrK.set (h : ArrK k W g t l) (i y : Nat) : ArrK k (W.setCell ⟨g, i, none⟩ (.int k (y : Int))) g t (l.set i y) := by
  have := heap_set7 h i (.int k (y : Int))
  unfold ArrK
  rw [this, ← ints_set]
  simp
theorem ArrK.kept (h : ArrK k W g t l) {row : Option Nat} (hg : W.grownBy W' row) (hne : some g ≠ row) : ArrK k W' g t l := (hg.block g h.lt hne).trans h
theorem ArrK.below (h : ArrK k W g t l) (b : Below W.heap.size W W') : ArrK k W' g t l := (b.block g h.lt).trans h
theorem ArrK.beside (h : ArrK k W g t l) (j i : Nat) (v : Value) (hk : j ≠ g) : ArrK k (W.setCell ⟨j, i, none⟩ v) g t l := (Below.heap_setCell W ⟨j, i, none⟩ v g fun e => hk e.symm).trans h
theorem ArrK.new (W : World) (t : TypeId) (l : List Nat) : ArrK k (W.alloc (.cells (ints k l).toArray t)) W.heap.size t l := heap_alloc_last W _
theorem ArrK.stored (h : ArrK k W g t l) (m : List Nat) : ArrK k (W.setRow g (ints k m).toArray) g t m := setRow_heap W g _ _ t (0, 0) h
end
end Go.Proofs.YtjeliomjnalpcaaDoor

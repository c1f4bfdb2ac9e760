/- Several texts in one; each begins with a remark that says what it shows and on which conditions. -/
import Derived.Test.YtjeliomjnalpcaaDoorKak
import Derived.Test.YtjeliomjnalpcaaDoorKbm
import Derived.Laws.Concat
/- The document's Hex of a sum. Conditions: as typed. -/
namespace Go.Proofs.YtjeliomjnalpcaaDoor
open Go.RowKit
set_option maxRecDepth 20000
def digS : List Nat := [48, 49, 50, 51, 52, 53, 54, 55, 56, 57, 97, 98, 99, 100, 101, 102]
def hexS : List Nat → List Nat
  | [] => []
  | x :: l => nth digS (x / 16) :: nth digS (x % 16) :: hexS l
theorem dig_at (p : Nat) (h : p < 16) : ({ data := #[48, 49, 50, 51, 52, 53, 54, 55, 56, 57, 97, 98, 99, 100, 101, 102] } : ByteArray)[p].toNat = nth digS p := by
  have key : ∀ q : Fin 16, ({ data := #[48, 49, 50, 51, 52, 53, 54, 55, 56, 57, 97, 98, 99, 100, 101, 102] } : ByteArray)[q.1].toNat = nth digS q.1 := by decide
  exact key ⟨p, h⟩
theorem hexS_snoc (l : List Nat) (x : Nat) : hexS (l ++ [x]) = hexS l ++ [nth digS (x / 16), nth digS (x % 16)] := by
  induction l with
  | nil => rfl
  | cons a l ih => rw [List.cons_append, hexS, ih]; rfl
theorem length_hexS (l : List Nat) : (hexS l).length = 2 * l.length := by
  induction l with
  | nil => rfl
  | cons a l ih => simp [hexS, ih]; omega
set_option maxHeartbeats 1000000 in
theorem hex07 (l : List Nat) (hl : l.length = 32) (hb : Bytes l) (w : World) : Calls Tryd.prog 33 #[.agg (ints .u8 l).toArray] w fun e w' => e = .returned (.string (str (hexS l))) ∧ Below w.heap.size w w' := by
  obtain ⟨cs, hcs⟩ : ∃ cs, (ints .u8 l).toArray = cs := ⟨_, rfl⟩
  rw [hcs]
  have A1 := ArrK.new (k := .u8) w 35 l
  have b0 : Below w.heap.size w (w.alloc (.cells (ints .u8 l).toArray 35)) := (Below.refl _ w).alloc (Nat.le_refl _) _
  rw [hcs] at A1 b0
  obtain ⟨E, hE⟩ : ∃ E, w.alloc (.cells cs 35) = E := ⟨_, rfl⟩
  rw [hE] at A1 b0
  go_enter Tryd.func33, Tryd.ntmps33
  go_wp2_with fail
  have HE := Lib.hid hE
  clear hE
  (try rw [HE.out])
  go_loopw [4, 5] (fun s v wr => ∃ i : Nat, i ≤ 32 ∧ v = .int .i64 (i : Int) ∧ s = .string (str (hexS (l.take i))) ∧ ArrK .u8 wr w.heap.size 35 l ∧ Below w.heap.size w wr) (fun _ v _ => 32 - (intOf v).toNat)
  case atStart => exact ⟨0, by omega, rfl, rfl, A1, b0⟩
  case round =>
    clear A1 b0
    obtain ⟨i, hi, rfl, rfl, A1, hB⟩ := hrel
    by_cases h32 : i < 32
    · have x1 := A1.cell i (by omega)
      have hxl : nth l i < 256 := hb _ (nth_mem l i (by omega))
      obtain ⟨x, hx⟩ : ∃ x, nth l i = x := ⟨_, rfl⟩
      rw [hx] at x1 hxl
      have hi63 : (i : Int) < 32 := by omega
      obtain ⟨s, hs⟩ : ∃ s, str (hexS (l.take i)) = s := ⟨_, rfl⟩
      rw [hs]
      obtain ⟨p, hp⟩ : ∃ p, x / 16 = p := ⟨_, rfl⟩
      obtain ⟨q, hq⟩ : ∃ q, x % 16 = q := ⟨_, rfl⟩
      have hpi : (x : Int) / 16 = (p : Int) := by omega
      have hqi : (x : Int) % 16 = (q : Int) := by omega
      have hpl : (p : Int) < 16 := by omega
      have hql : (q : Int) < 16 := by omega
      have hp16 : p < 16 := by omega
      have hq16 : q < 16 := by omega
      have hP := dig_at p hp16
      have hQ := dig_at q hq16
      obtain ⟨P, hP2⟩ : ∃ P, nth digS p = P := ⟨_, rfl⟩
      obtain ⟨Q, hQ2⟩ : ∃ Q, nth digS q = Q := ⟨_, rfl⟩
      rw [hP2] at hP
      rw [hQ2] at hQ
      have hcv := run_str (P := Tryd.prog) (wr.alloc (.cells #[.int .u8 (P : Int), .int .u8 (Q : Int)] 5)).drew 34 9 5 Tryd.underlying34 Tryd.underlying5 Tryd.underlying9 (wr.heap.size + 1) (some ⟨wr.heap.size, 0, none⟩) [P, Q] 2 (fun _ => ⟨wr.heap.size, 0, rfl, by omega, fun j hj => by
        rw [Nat.zero_add]
        exact (show ArrK .u8 (wr.alloc (.cells #[.int .u8 (P : Int), .int .u8 (Q : Int)] 5)).drew wr.heap.size 5 [P, Q] from heap_alloc_last wr _).cell j hj⟩)
      simp only [List.length_cons, List.length_nil, Nat.reduceAdd] at hcv
      have HN := Lib.hid (show s ++ str [P, Q] = str (hexS (l.take (i + 1))) by
        rw [← hs, str_append, ← hP2, ← hQ2, ← hp, ← hq, ← hx]
        congr 1
        rw [List.take_succ_eq_append_getElem (by omega), hexS_snoc, nth_eq l i (by omega)])
      have HA := Lib.hid (A1.below (((Below.refl _ wr).alloc (Nat.le_refl _) (.cells #[.int .u8 (P : Int), .int .u8 (Q : Int)] 5)).trans ((Drawn.more 1).below _)))
      have HB := Lib.hid ((hB.alloc hB.size (.cells #[.int .u8 (P : Int), .int .u8 (Q : Int)] 5)).trans ((Drawn.more 1).below _))
      have hz1 : (s.size : Int) ≤ 8388608 := by rw [← hs, str_size, length_hexS, List.length_take]; omega
      have hz2 : ((str [P, Q]).size : Int) ≤ 8388608 := by rw [str_size]; simp
      have hz3 : (Op.stringOp .add s (str [P, Q])).run Tryd.prog ((wr.alloc (.cells #[.int .u8 (P : Int), .int .u8 (Q : Int)] 5)).drew) = .ok (.string (s ++ str [P, Q])) _ := run_string_add _ s (str [P, Q]) hz1 hz2
      clear hP2 hQ2 hs hp hq hx A1 hB hb
      go_wp2_with fail
      go_region
      go_wp2_with fail
      go_roundw
      case rel => exact ⟨i + 1, by omega, by go_num, by rw [← HN.out], HA.out, HB.out⟩
      case measure => simp [intOf]; omega
    · obtain rfl : i = 32 := by omega
      have e : l.take 32 = l := List.take_of_length_le (by omega)
      rw [e]
      rw [show ((32 : Nat) : Int) = 32 from rfl]
      have HB := Lib.hid hB
      clear hb hB e
      go_wp2_with fail
      go_ret
      exact ⟨rfl, HB.out⟩
end Go.Proofs.YtjeliomjnalpcaaDoor

/- Several texts in one; each begins with a remark that says what it shows and on which conditions. -/
import Derived.Test.YtjeliomjnalpcaaDoorKbr
/- ShaLengths' walk: it answers true, and writes nothing that was there. Conditions: what the arguments' types give; the tables of constants are laid. -/
namespace Go.Proofs.YtjeliomjnalpcaaDoor
open Go.RowKit
set_option maxRecDepth 20000
/-- So many bytes of a kind are laid. -/
def kindS (n c i : Nat) : List Nat := (List.range i).map (fun j => (c + j) % 256) ++ List.replicate (n - i) 0
theorem length_kindS (n c i : Nat) (h : i ≤ n) : (kindS n c i).length = n := by simp [kindS]; omega
theorem kindS_set (n c i : Nat) (h : i < n) : (kindS n c i).set i ((c + i) % 256) = kindS n c (i + 1) := by
  unfold kindS
  rw [List.set_append_right _ _ (by simp), List.length_map, List.length_range, Nat.sub_self, show n - i = (n - (i + 1)) + 1 by omega, List.replicate_succ, List.set_cons_zero, List.range_succ, List.map_append, List.append_assoc]
  rfl
theorem kindS_bytes (n c i : Nat) : Bytes (kindS n c i) := by
  intro x hx
  rcases List.mem_append.1 hx with h | h
  · obtain ⟨j, _, rfl⟩ := List.mem_map.1 h; omega
  · have := (List.mem_replicate.1 h).2; omega
set_option maxHeartbeats 1000000 in
theorem shaLengths_walk (a0 a1 : Int) (w : World) (w0 : (Lit.int .u16 a0).wf = true) (w1 : (Lit.int .u8 a1).wf = true) (hL : Laid w) : Calls Tryd.prog 7 #[.int .u16 a0, .int .u8 a1] w fun e w' => e = .returned (.bool true) ∧ Below w.heap.size w w' := by
  have HG := Lib.hid hL
  clear hL
  have h0 : 0 ≤ a0 ∧ a0 ≤ 65535 := by simpa [Lit.wf, IntKind.min, IntKind.max, IntKind.signed, IntKind.bits] using w0
  have h1 : 0 ≤ a1 ∧ a1 ≤ 255 := by simpa [Lit.wf, IntKind.min, IntKind.max, IntKind.signed, IntKind.bits] using w1
  obtain ⟨c, rfl⟩ : ∃ c : Nat, a1 = (c : Int) := ⟨a1.toNat, by omega⟩
  obtain ⟨n, hn⟩ : ∃ n : Nat, a0 % 600 = (n : Int) := ⟨(a0 % 600).toNat, by omega⟩
  have hn6 : n < 600 := by omega
  have hw : IntKind.i64.wrap a0 = a0 := by rw [IntKind.wrap_i64]; omega
  have htm : a0.tmod 600 = (n : Int) := by rw [Int.tmod_eq_emod_of_nonneg h0.1]; exact hn
  have hmk := make_bytes7 n w (by omega)
  have own0 : (w.alloc (.cells (List.replicate n (Value.int .u8 0)).toArray 5)).ownsRow w.heap.size 5 1 (.slice (some ⟨w.heap.size, 0, none⟩) n n) n (ints .u8 (kindS n c 0)) := by
    have e : ints .u8 (kindS n c 0) = List.replicate n (Value.int .u8 0) := by simp [kindS, ints]
    rw [e]
    exact own_of_heap (heap_alloc_new w _) (Nat.le_refl _) (Nat.le_refl _) (by unfold maxLen; omega) (by simp) (by simp)
  have b0 : Below w.heap.size w (w.alloc (.cells (List.replicate n (Value.int .u8 0)).toArray 5)) := (Below.refl _ w).alloc (Nat.le_refl _) _
  clear w0 w1
  go_enter Tryd.func7, Tryd.ntmps7
  go_wp2_with fail
  clear hmk hn hw htm h0
  go_loopw [6] (fun v wr => ∃ i : Nat, i ≤ n ∧ v = .int .i64 (i : Int) ∧ wr.ownsRow w.heap.size 5 1 (.slice (some ⟨w.heap.size, 0, none⟩) n n) n (ints .u8 (kindS n c i)) ∧ Below w.heap.size w wr) (fun v _ => n - (intOf v).toNat)
  case atStart => exact ⟨0, Nat.zero_le _, rfl, own0, b0⟩
  case round =>
    clear own0 b0
    obtain ⟨i, hi, rfl, hown, hB⟩ := hrel
    by_cases hlt : i < n
    · have hco : wr.cell? ⟨w.heap.size, i, none⟩ = some (.int .u8 (nth (kindS n c i) i : Int)) := by rw [hown.cellAt _ (by omega), ints_get _ _ _ (by rw [length_kindS _ _ _ hi]; exact hlt)]
      have hfo : wr.frozen? ⟨w.heap.size, i, none⟩ = false := hown.frozenAt _
      obtain ⟨z, hz⟩ : ∃ z, (c + i) % 256 = z := ⟨_, rfl⟩
      obtain ⟨r, hr⟩ : ∃ r, i % 256 = r := ⟨_, rfl⟩
      have hr2 : (i : Int) % 256 = (r : Int) := by omega
      have hz2 : ((c : Int) + (r : Int)) % 256 = (z : Int) := by omega
      obtain ⟨hst, hg⟩ := hown.stored i (.int .u8 (z : Int))
      rw [ints_set, ← hz, kindS_set n c i hlt] at hst
      rw [hz] at hst
      have HS := Lib.hid hst
      have HB := Lib.hid (hB.setCell (p := ⟨w.heap.size, i, none⟩) (Nat.le_refl _) (.int .u8 (z : Int)))
      clear hown hB hst hg hr hz
      go_wp2_with fail
      go_roundw
      case rel => exact ⟨i + 1, by omega, by go_num, HS.out, HB.out⟩
      case measure => simp [intOf]; omega
    · obtain rfl : i = n := by omega
      have R1 := Rd.own hown
      have hl := length_kindS i c i (Nat.le_refl _)
      have hy := kindS_bytes i c i
      obtain ⟨L, hL⟩ : ∃ L, kindS i c i = L := ⟨_, rfl⟩
      rw [hL] at R1 hl hy
      obtain ⟨ca, hca⟩ : ∃ ca, (ints .u8 (shaS L)).toArray = ca := ⟨_, rfl⟩
      have hEq := eq_sums L
      rw [hca] at hEq
      have HCA := Lib.hid hca
      have HL := Lib.hid hl
      have HY := Lib.hid hy
      clear hca hown hL hl hy
      go_wp2_with fail
      refine (sSum _ i i L wr HL.out R1 HY.out (by omega) (Nat.le_refl _) ca HCA.out (HG.out.below hB)).mono ?_
      rintro e w2 ⟨rfl, b2⟩
      have B2 := hB.trans (b2.mono hB.size)
      have R2 := rd_step R1 b2
      clear R1
      go_wp2_with fail
      refine (dSum _ i i L w2 HL.out R2 HY.out (by omega) ca HCA.out).mono ?_
      rintro e w3 ⟨rfl, b3⟩
      have B3 := B2.trans (b3.mono B2.size)
      clear R2
      go_wp2_with fail
      refine (shaWorks_any w3 (HG.out.below B3)).mono ?_
      rintro e w4 ⟨rfl, b4⟩
      have B4 := B3.trans (b4.mono B3.size)
      clear hEq
      go_wp2_with fail
      go_ret
      exact ⟨rfl, B4⟩
end Go.Proofs.YtjeliomjnalpcaaDoor
/- What a hash is held to, by its calls; the code's hashes are so. Conditions: as typed (the tables of constants are laid). -/
namespace Go.Proofs.YtjeliomjnalpcaaDoor
open Go.RowKit
set_option maxRecDepth 20000
/-- A hash, by its calls: a pointer h whose blocks are S, to which m was written. -/
def HashAt (w : World) (S : Nat → Prop) (h : Value) (m : List Nat) : Prop := ∃ g, h = .pointer (some ⟨g, 0, none⟩) ∧ S = (fun k => k = g) ∧ HashIs w g m
theorem HashAt.lt {w : World} {S : Nat → Prop} {h : Value} {m : List Nat} (hh : HashAt w S h m) : ∀ g, S g → g < w.heap.size := by
  obtain ⟨g, rfl, rfl, k⟩ := hh
  intro x hx
  have hx : x = g := hx
  rw [hx]
  exact k.lt
theorem HashAt.keep {w w' : World} {S : Nat → Prop} {h : Value} {m : List Nat} (hh : HashAt w S h m) (hs : ∀ g, S g → w'.heap[g]? = w.heap[g]?) : HashAt w' S h m := by
  obtain ⟨g, rfl, rfl, k⟩ := hh
  exact ⟨g, rfl, rfl, k.keep (hs g rfl)⟩
/-- A slice of slices of bytes. -/
def RdRows (w : World) (B : Nat) (A : Option Addr) (ms : List (List Nat)) : Prop :=
  0 < ms.length → ∃ b off, A = some ⟨b, off, none⟩ ∧ b < B ∧ ∀ j (hj : j < ms.length), ∃ X d, w.cell? ⟨b, off + j, none⟩ = some (.slice X ms[j].length d) ∧ Rd .u8 w B X ms[j] ∧ ms[j].length ≤ d ∧ Bytes ms[j]
/-- A slice of bools. -/
def RdBools (w : World) (B : Nat) (A : Option Addr) (bs : List Bool) : Prop :=
  0 < bs.length → ∃ b off, A = some ⟨b, off, none⟩ ∧ b < B ∧ ∀ j (hj : j < bs.length), w.cell? ⟨b, off + j, none⟩ = some (.bool bs[j])
/-- How many bytes in the first so many rows. -/
def sumLen (ms : List (List Nat)) (i : Nat) : Nat := ((ms.take i).map List.length).sum
theorem sumLen_succ (ms : List (List Nat)) (i : Nat) (h : i < ms.length) : sumLen ms (i + 1) = sumLen ms i + ms[i].length := by
  unfold sumLen
  rw [List.take_succ_eq_append_getElem h, List.map_append, List.sum_append]
  simp
theorem sumLen_mono (ms : List (List Nat)) (i : Nat) (h : i < ms.length) : sumLen ms i + ms[i].length ≤ sumLen ms ms.length := by
  rw [← sumLen_succ ms i h]
  have key : ∀ n i, i + n = ms.length → sumLen ms i ≤ sumLen ms ms.length := by
    intro n
    induction n with
    | zero => intro i hi; rw [show i = ms.length by omega]; exact Nat.le_refl _
    | succ n ih => intro i hi; have := ih (i + 1) (by omega); have := sumLen_succ ms i (by omega); omega
  exact key (ms.length - (i + 1)) (i + 1) (by omega)
theorem eq_zeros (u : World) : (Op.equalIn 10000 35 (.agg (ints .u8 (List.replicate 32 0)).toArray) (.agg (ints .u8 (List.replicate 32 0)).toArray)).run Tryd.prog u = .ok true u := by
  rw [run_equalIn_ints u 9998 35 5 32 .u8 Tryd.underlying35 Tryd.underlying5 (fun w => by rfl) (List.replicate 32 0) (List.replicate 32 0) rfl rfl]; simp
theorem xor_u8 (a : Int) : ∃ y : Nat, bits .xor .u8 a 119 = (y : Int) ∧ y < 256 := by
  have h : ∃ z : Int, bits .xor .u8 a 119 = IntKind.u8.wrap z := ⟨_, rfl⟩
  obtain ⟨z, hz⟩ := h
  rw [hz, IntKind.wrap_u8]
  exact ⟨(z % 256).toNat, by omega, by omega⟩
end Go.Proofs.YtjeliomjnalpcaaDoor

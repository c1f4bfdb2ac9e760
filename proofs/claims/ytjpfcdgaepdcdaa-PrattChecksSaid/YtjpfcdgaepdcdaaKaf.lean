/- Several texts in one; each begins with a remark that says what it shows and on which conditions. -/
import Derived.Test.YtjpfcdgaepdcdaaKae
import Derived.Deep.RegionWith
import Derived.Deep.DeepCutAuto
/- nat.Bytes, nat.FromBytes: digits to the base 256. Conditions: as typed (lengths that fit a machine). -/
namespace Go.Proofs.Ytjpfcdgaepdcdaa
open Go.RowKit
set_option maxRecDepth 20000
/-- Noughts, and the lowest i digits behind them. -/
def bsAt (N S i : Nat) : List Nat := List.replicate (S - i) 0 ++ be i N
theorem length_bsAt (N S i : Nat) (h : i ≤ S) : (bsAt N S i).length = S := by simp [bsAt, length_be]; omega
theorem bsAt_zero (N S : Nat) : bsAt N S 0 = List.replicate S 0 := by simp [bsAt, be]
theorem bsAt_end (N S : Nat) : bsAt N S S = be S N := by simp [bsAt]
theorem bsAt_set (N i d : Nat) : (bsAt N (i + 1 + d) i).set d (dig N i) = bsAt N (i + 1 + d) (i + 1) := by
  unfold bsAt
  rw [show i + 1 + d - i = d + 1 by omega, show i + 1 + d - (i + 1) = d by omega, List.replicate_succ', List.append_assoc, List.set_append_right _ _ (by simp), List.length_replicate, Nat.sub_self, be]
  rfl
theorem make_bytes (m : Nat) (u : World) (hm : m ≤ 10000000) : (Instr.makeSlice 52 (.int .i64 (m : Int)) (.int .i64 (m : Int))).run Try.prog u =
      .ok (.slice (some ⟨u.heap.size, 0, none⟩) m m) (u.alloc (.cells (List.replicate m (Value.int .u8 0)).toArray 5)) := by
  obtain ⟨i0, hi, hz0, hz1, hz2⟩ := info_parts num_info_u8
  have h := run_make (P := Try.prog) u 52 5 i0 (.int .u8 0) Try.underlying52 hi hz0 .i64 .i64 (m : Int) (m : Int) (by omega) (by omega) (by rw [hz2]; omega) (by omega)
  rw [Int.toNat_natCast, hz1, Nat.mul_one] at h
  rw [h, ← toList_madeCells_one]
  rfl
theorem brow_new (w : World) (m : Nat) (hm : m ≤ 10000000) (N : Nat) : (w.alloc (.cells (Array.replicate m (Value.int .u8 0)) 5)).ownsRow w.heap.size 5 1 (.slice (some ⟨w.heap.size, 0, none⟩) m m) m (ints .u8 (bsAt N m 0)) := by
  rw [bsAt_zero]
  exact own_of_heap (cur := List.replicate m (Value.int .u8 0)) (by have h := heap_alloc_new w (.cells (Array.replicate m (Value.int .u8 0)) 5); simpa using h) (Nat.le_refl _) (Nat.le_refl _) (by unfold maxLen; omega) (by simp) (by simp [ints])
set_option maxHeartbeats 1000000 in
theorem bytes_pf (A : Option Addr) (c : Nat) (a : List Nat) (w : World) (hr : Rd .u64 w w.heap.size A a) (hw : Words a) (hl : a.length ≤ 100000) (hc : a.length ≤ c) :
    Calls Try.prog 27 #[.slice A a.length c] w (OutBytes (natOf a) w) := by
  have hsz := nbits_natOf a hw
  have hbl := blen_natOf a hw
  have Q := Lib.hid (bits_q A c a w w.heap.size hr hw (by omega) hc)
  have P := parts_any (nbits (natOf a)) 8 w (by omega) (by omega) (by omega)
  rw [show (nbits (natOf a) + 8 - 1) / 8 = blen (natOf a) from nbits_blen _] at P
  have HP := Lib.hid P
  obtain ⟨S, hS⟩ : ∃ S, blen (natOf a) = S := ⟨_, rfl⟩
  rw [hS] at HP hbl
  have HS := Lib.hid hS
  have hmk := fun u => make_bytes S u (by omega)
  clear P hS
  go_enter Try.func27, Try.ntmps27
  go_wp2_with fail
  refine (Q.out).mono ?_
  rintro e w' ⟨rfl, rfl⟩
  go_wp2_with fail
  refine (HP.out).mono ?_
  rintro e w' ⟨rfl, rfl⟩
  go_wp2_with fail
  have hown0 := brow_new w S (by omega) (natOf a)
  obtain ⟨E, hE⟩ : ∃ E, w.alloc (.cells (Array.replicate S (Value.int .u8 0)) 5) = E := ⟨_, rfl⟩
  have hbE : Below w.heap.size w E := by rw [← hE]; exact (Below.refl _ w).alloc (Nat.le_refl _) _
  rw [hE] at hown0 ⊢
  clear hmk hE
  go_loopw [12] (fun j wr => ∃ i : Nat, i ≤ S ∧ j = .int .i64 i ∧ wr.ownsRow w.heap.size 5 1 (.slice (some ⟨w.heap.size, 0, none⟩) S S) S (ints .u8 (bsAt (natOf a) S i)) ∧ Below w.heap.size w wr) (fun j _ => S - (intOf j).toNat)
  case atStart => exact ⟨0, Nat.zero_le _, rfl, hown0, hbE⟩
  case round =>
    obtain ⟨i, hi, rfl, hown, hb⟩ := hrel
    by_cases hlt : i < S
    · obtain ⟨d, hd⟩ : ∃ d, S = i + 1 + d := ⟨S - (i + 1), by omega⟩
      obtain ⟨b, off, rfl, hbB, hcell⟩ := hr.below hb (by omega)
      have hx := hcell (i / 8) (by omega)
      have hxl := nth_lt a hw (i / 8)
      have hst := hown.stored d (.int .u8 ((dig (natOf a) i : Nat) : Int))
      rw [ints_set, hd, bsAt_set, ← hd] at hst
      have hc4 : wr.cell? ⟨w.heap.size, d, none⟩ = some (.int .u8 (nth (bsAt (natOf a) S i) d : Int)) := by rw [hown.cellAt _ (by omega), ints_get _ _ _ (by rw [length_bsAt _ _ _ (by omega)]; omega)]
      have hf4 : wr.frozen? ⟨w.heap.size, d, none⟩ = false := hown.frozenAt _
      have HO := Lib.hid hst.1
      have hidx : (S : Int) - 1 - (i : Int) = (d : Int) := by omega
      have hdS : d < S := by omega
      have HV := Lib.hid (word_byte_int a hw i)
      have hi8 : i / 8 < a.length := by omega
      clear hst hown hcell hd
      go_wp2_with fail
      rw [HV.out]
      go_roundw
      case rel => exact ⟨i + 1, by omega, by go_num, HO.out, hb.setCell (p := ⟨w.heap.size, d, none⟩) (by simp) _⟩
      case measure => simp [intOf]; omega
    · obtain rfl : i = S := by omega
      rw [bsAt_end] at hown
      have HO := Lib.hid (show wr.ownsRow w.heap.size 5 1 (.slice (some ⟨w.heap.size, 0, none⟩) i i) (blen (natOf a)) (ints .u8 (be (blen (natOf a)) (natOf a))) by rw [HS.out]; exact hown)
      clear hown
      go_wp2_with fail
      go_ret
      exact ⟨_, rfl, HO.out, hb⟩
end Go.Proofs.Ytjpfcdgaepdcdaa
/- nat's contracts, as laws use them. Conditions: as typed (lengths that fit a machine, a capacity that is not below its length). -/
namespace Go.Proofs.Ytjpfcdgaepdcdaa
open Go.RowKit
set_option maxRecDepth 20000
section
variable (A A2 : Option Addr) (c c2 : Nat) (a b : List Nat) (w : World) (hr : Rd .u64 w w.heap.size A a) (hw : Words a) (hl : a.length ≤ 100000) (hc : a.length ≤ c) (hr2 : Rd .u64 w w.heap.size A2 b) (hw2 : Words b) (hl2 : b.length ≤ 100000) (hc2 : b.length ≤ c2)
include hr hw hl hc
theorem natMay_any : Calls Try.prog 25 #[.slice A a.length c] w fun e w' => e = .returned (.bool (decide (a = wd (natOf a)))) ∧ Below w.heap.size w w' := may_pf A c a w hr hw hl hc
theorem natTrim_any : Calls Try.prog 63 #[.slice A a.length c] w (OutNat (natOf a) w) := trim_pf A c a w hr hw hl hc
theorem natSmall_any : Calls Try.prog 19 #[.slice A a.length c] w fun e w' =>
      e = .returned (.tuple #[.int .u64 (smallV (natOf a)), .bool (smallB (natOf a))]) ∧ Below w.heap.size w w' := small_pf A c a w hr hw hl hc
theorem natShl_any (k : Int) : Calls Try.prog 74 #[.slice A a.length c, .int .i64 k] w (OutNat (shlS (natOf a) k) w) := shl_pf A a hw c w hr hl hc k
theorem natShr_any (k : Int) : Calls Try.prog 68 #[.slice A a.length c, .int .i64 k] w (OutNat (shrS (natOf a) k) w) := shr_pf A a hw c w hr hl hc k
theorem natBits_any : Calls Try.prog 26 #[.slice A a.length c] w fun e w' => e = .returned (.int .i64 (nbits (natOf a))) ∧ Below w.heap.size w w' := Calls.mono (bits_q A c a w w.heap.size hr hw (by omega) hc) fun _ _ ⟨he, hq⟩ => ⟨he, hq ▸ Below.refl _ _⟩
theorem natBit_any (i : Int) (hi : MaxI i) : Calls Try.prog 28 #[.slice A a.length c, .int .i64 i] w fun e w' => e = .returned (.int .u64 (bitS (natOf a) i)) ∧ Below w.heap.size w w' := (fun _ => bit_pf A c a w hr hw hl i hi) hc
theorem natBytes_any : Calls Try.prog 27 #[.slice A a.length c] w (OutBytes (natOf a) w) := bytes_pf A c a w hr hw hl hc
include hr2 hw2 hl2 hc2
theorem natCmp_any : Calls Try.prog 11 #[.slice A a.length c, .slice A2 b.length c2] w fun e w' => e = .returned (.int .i64 (cmpS (natOf a) (natOf b))) ∧ Below w.heap.size w w' := cmp_pf A A2 c c2 a b w hr hw hl hc hr2 hw2 hl2 hc2
theorem natAdd_any : Calls Try.prog 86 #[.slice A a.length c, .slice A2 b.length c2] w (OutNat (natOf a + natOf b) w) := add_pf A A2 c c2 a b w hr hw hl hc hr2 hw2 hl2 hc2
theorem natSub_any : Calls Try.prog 30 #[.slice A a.length c, .slice A2 b.length c2] w (OutSub (natOf a) (natOf b) w) := sub_pf A A2 c c2 a b w hr hw hl hc hr2 hw2 hl2 hc2
end
theorem natOf_any (n : Nat) (w : World) (hn : n < 18446744073709551616) : Calls Try.prog 29 #[.int .u64 n] w (OutNat n w) := of_pf n w hn
end Go.Proofs.Ytjpfcdgaepdcdaa
/- The examples of chapter 2 ('works') hold, in whatever memory. No condition. -/
namespace Go.Proofs.Ytjpfcdgaepdcdaa
open Go.RowKit
set_option maxRecDepth 20000
/-- What is answered, as words that are written out. -/
theorem OutNat.lit {N : Nat} {w w' : World} {e : Ending} (h : OutNat N w e w') (l : List Nat) (hl : wd N = l) : ∃ X d, e = .returned (.slice X l.length d) ∧ Rd .u64 w' w'.heap.size X l ∧ Below w.heap.size w w' ∧ l.length ≤ d := by
  obtain ⟨v, rfl, own, b⟩ := h
  obtain ⟨X, d, rfl, hd, _⟩ := own_form own
  have hn : (nbits N + 63) / 64 = l.length := by rw [← hl, length_wd]
  rw [hl] at own
  exact ⟨X, d, by rw [hn], Rd.own own, b, by omega⟩
section
variable (w : World)
end
theorem below_step {w0 w w' : World} (h : Below w0.heap.size w0 w) (k : Below w.heap.size w w') : Below w0.heap.size w0 w' := h.trans (k.mono h.size)
theorem rd_step {k : IntKind} {w w' : World} {A : Option Addr} {l : List Nat} (h : Rd k w w.heap.size A l) (b : Below w.heap.size w w') : Rd k w' w'.heap.size A l := (h.below b).more b.size
end Go.Proofs.Ytjpfcdgaepdcdaa
/- NatWords' walk: it answers true, and writes nothing that was there. No condition but what the arguments' types give. -/
namespace Go.Proofs.Ytjpfcdgaepdcdaa
open Go.RowKit
set_option maxRecDepth 20000
/-- Words of the call's own, whatever they are by now. -/
def Turned (w : World) (base : Nat) (v : Value) (n : Nat) : Prop := ∃ l : List Nat, l.length = n ∧ Words l ∧ w.ownsRow base 26 1 v n (ints .u64 l)
theorem Turned.at_ {w : World} {base n i : Nat} {v : Value} (h : Turned w base v n) (hi : i < n) : ∃ (g c x : Nat), v = .slice (some ⟨g, 0, none⟩) n c ∧ base ≤ g ∧ x < 18446744073709551616 ∧ w.cell? ⟨g, i, none⟩ = some (.int .u64 (x : Int)) ∧ w.frozen? ⟨g, i, none⟩ = false ∧
    ∀ y : Nat, y < 18446744073709551616 → Turned (w.setCell ⟨g, i, none⟩ (.int .u64 (y : Int))) base v n := by
  obtain ⟨l, hl, hw, own⟩ := h
  obtain ⟨g, c, rfl, hg, _⟩ := own_pos2 own (by omega)
  refine ⟨g, c, nth l i, rfl, hg, hw _ (nth_mem l i (by omega)), ?_, own.frozenAt _, fun y hy => ?_⟩
  · rw [own.cellAt _ (by omega), ints_get _ _ _ (by omega)]
  · have hst := own.stored i (.int .u64 (y : Int))
    rw [ints_set] at hst
    refine ⟨l.set i y, by simp [hl], fun x hx => ?_, hst.1⟩
    rcases mem_set hx with rfl | h
    · exact hy
    · exact hw x h
end Go.Proofs.Ytjpfcdgaepdcdaa
/- nat's contracts in the form that laws use: a slice of words stands for a number. Conditions: as typed. -/
namespace Go.Proofs.Ytjpfcdgaepdcdaa
open Go.RowKit
set_option maxRecDepth 20000
/-- The slice at A, of n words, stands for N: words that may be, or not. -/
def NatIn (w : World) (A : Option Addr) (n c N : Nat) : Prop := ∃ l : List Nat, l.length = n ∧ natOf l = N ∧ Words l ∧ n ≤ 50000 ∧ Rd .u64 w w.heap.size A l ∧ n ≤ c
/-- The slice at A, of n words, is N's words. -/
def NatIs (w : World) (A : Option Addr) (n c N : Nat) : Prop := (wd N).length = n ∧ n ≤ 50000 ∧ Rd .u64 w w.heap.size A (wd N) ∧ n ≤ c
/-- The slice at A is N's digits. -/
def NumIs (w : World) (A : Option Addr) (n d N : Nat) : Prop := n = nbits N ∧ n ≤ d ∧ n ≤ 5000000 ∧ Rd .u8 w w.heap.size A (dg N)
section
variable {w w' : World} {A : Option Addr} {n c N d : Nat}
theorem NatIn.step (h : NatIn w A n c N) (b : Below w.heap.size w w') : NatIn w' A n c N := by
  obtain ⟨l, h1, h2, h3, h4, h5, h6⟩ := h
  exact ⟨l, h1, h2, h3, h4, rd_step h5 b, h6⟩
theorem NatIs.step (h : NatIs w A n c N) (b : Below w.heap.size w w') : NatIs w' A n c N := ⟨h.1, h.2.1, rd_step h.2.2.1 b, h.2.2.2⟩
theorem NumIs.step (h : NumIs w A n d N) (b : Below w.heap.size w w') : NumIs w' A n d N := ⟨h.1, h.2.1, h.2.2.1, rd_step h.2.2.2 b⟩
theorem NatIs.in_ (h : NatIs w A n c N) : NatIn w A n c N := ⟨wd N, h.1, natOf_wd N, wd_words N, h.2.1, h.2.2.1, h.2.2.2⟩
theorem NatIn.bits (h : NatIn w A n c N) : nbits N ≤ 64 * n := by
  obtain ⟨l, rfl, rfl, h3, _⟩ := h
  exact nbits_natOf l h3
theorem Turned.step {base : Nat} {v : Value} (h : Turned w base v n) (b : Below w.heap.size w w') : Turned w' base v n := by
  obtain ⟨l, h1, h2, h3⟩ := h
  refine ⟨l, h1, h2, h3.kept (row := none) ⟨b.os, b.tape, b.output, b.size, fun i hi _ => b.block i hi⟩ ?_⟩
  rcases hv : v.ownBlock with _ | x
  · exact .inl rfl
  · exact .inr (by simp)
end
theorem Turned.lt {w : World} {base n : Nat} {v : Value} (h : Turned w base v n) : ∀ g, v.ownBlock = some g → base ≤ g ∧ g < w.heap.size := by
  obtain ⟨l, _, _, h3⟩ := h
  exact h3.lt
/-- A number is answered, in new memory. -/
def OutN (N : Nat) (w : World) (e : Ending) (w' : World) : Prop := ∃ X q d, e = .returned (.slice X q d) ∧ NatIs w' X q d N ∧ Turned w' w.heap.size (.slice X q d) q ∧ Below w.heap.size w w'
theorem OutNat.out {N : Nat} {w w' : World} {e : Ending} (h : OutNat N w e w') (hn : nbits N ≤ 3200000) : OutN N w e w' := by
  obtain ⟨v, rfl, own, b⟩ := h
  obtain ⟨X, d, rfl, hd, _⟩ := own_form own
  exact ⟨X, _, d, rfl, ⟨length_wd N, by omega, Rd.own own, hd⟩, ⟨wd N, length_wd N, wd_words N, own⟩, b⟩
/-- Digits are answered. -/
def OutD (N : Nat) (w : World) (e : Ending) (w' : World) : Prop := ∃ X n d, e = .returned (.slice X n d) ∧ NumIs w' X n d N ∧ Below w.heap.size w w'
theorem OutNum.out {N : Nat} {w w' : World} {e : Ending} (h : OutNum N w e w') (hn : nbits N ≤ 5000000) : OutD N w e w' := by
  obtain ⟨X, d, rfl, hd, hR, b⟩ := h
  exact ⟨X, _, d, rfl, ⟨rfl, hd, hn, hR⟩, b⟩
section
variable {w : World} {A A2 : Option Addr} {n m c c2 M N d d2 : Nat}
theorem bCmp (h : NatIn w A n c M) (k : NatIn w A2 m c2 N) : Calls Try.prog 11 #[.slice A n c, .slice A2 m c2] w fun e w' => e = .returned (.int .i64 (cmpS M N)) ∧ Below w.heap.size w w' := by
  obtain ⟨l, rfl, rfl, h3, h4, h5, h6⟩ := h
  obtain ⟨l2, rfl, rfl, k3, k4, k5, k6⟩ := k
  exact natCmp_any A A2 c c2 l l2 w h5 h3 (by omega) h6 k5 k3 (by omega) k6
theorem bSub_yes (h : NatIn w A n c M) (k : NatIn w A2 m c2 N) (hle : N ≤ M) : Calls Try.prog 30 #[.slice A n c, .slice A2 m c2] w fun e w' =>
    ∃ X q d, e = .returned (.tuple #[.slice X q d, .bool true]) ∧ NatIs w' X q d (M - N) ∧ Turned w' w.heap.size (.slice X q d) q ∧ Below w.heap.size w w' := by
  have hb := h.bits
  have hm := nbits_mono (Nat.sub_le M N)
  obtain ⟨l, rfl, rfl, h3, h4, h5, h6⟩ := h
  obtain ⟨l2, rfl, rfl, k3, k4, k5, k6⟩ := k
  refine Calls.mono (natSub_any A A2 c c2 l l2 w h5 h3 (by omega) h6 k5 k3 (by omega) k6) fun e w' h => ?_
  obtain ⟨v, he, own⟩ := h.1 hle
  obtain ⟨X, d, rfl, hd, _⟩ := own_form own
  exact ⟨X, _, d, he, ⟨length_wd _, by omega, Rd.own own, hd⟩, ⟨wd _, length_wd _, wd_words _, own⟩, h.2.2⟩
theorem bShr (h : NatIn w A n c M) (k : Int) : Calls Try.prog 68 #[.slice A n c, .int .i64 k] w (OutN (shrS M k) w) := by
  have hb := h.bits
  obtain ⟨l, rfl, rfl, h3, h4, h5, h6⟩ := h
  refine Calls.mono (natShr_any A c l w h5 h3 (by omega) h6 k) fun _ _ h => h.out ?_
  unfold shrS
  split
  · have := nbits_mono (Nat.div_le_self (natOf l) (2 ^ k.toNat))
    omega
  · rw [nbits_zero]; omega
theorem bBits (h : NatIn w A n c M) : Calls Try.prog 26 #[.slice A n c] w fun e w' => e = .returned (.int .i64 (nbits M)) ∧ Below w.heap.size w w' := by
  obtain ⟨l, rfl, rfl, h3, h4, h5, h6⟩ := h
  exact natBits_any A c l w h5 h3 (by omega) h6
theorem bBit (h : NatIn w A n c M) (i : Int) (hi : MaxI i) : Calls Try.prog 28 #[.slice A n c, .int .i64 i] w fun e w' => e = .returned (.int .u64 (bitS M i)) ∧ Below w.heap.size w w' := by
  obtain ⟨l, rfl, rfl, h3, h4, h5, h6⟩ := h
  exact natBit_any A c l w h5 h3 (by omega) h6 i hi
end
/-- The slice at A, of n words, is the words l, whether they may be or not. -/
def RowIs (w : World) (A : Option Addr) (n c : Nat) (l : List Nat) : Prop := l.length = n ∧ Words l ∧ n ≤ 50000 ∧ Rd .u64 w w.heap.size A l ∧ n ≤ c
section
variable {w w' : World} {A A2 : Option Addr} {n c c2 : Nat} {l : List Nat}
theorem RowIs.step (h : RowIs w A n c l) (b : Below w.heap.size w w') : RowIs w' A n c l := ⟨h.1, h.2.1, h.2.2.1, rd_step h.2.2.2.1 b, h.2.2.2.2⟩
theorem RowIs.in_ (h : RowIs w A n c l) : NatIn w A n c (natOf l) := ⟨l, h.1, rfl, h.2.1, h.2.2.1, h.2.2.2.1, h.2.2.2.2⟩
end
end Go.Proofs.Ytjpfcdgaepdcdaa
/- NatLaws' walk: it answers true, and writes nothing that was there. No condition but what the arguments' types give. -/
namespace Go.Proofs.Ytjpfcdgaepdcdaa
open Go.RowKit
set_option maxRecDepth 20000
end Go.Proofs.Ytjpfcdgaepdcdaa
/- NatBytes' walk: it answers true, and writes nothing that was there. No condition but what the arguments' types give. -/
namespace Go.Proofs.Ytjpfcdgaepdcdaa
open Go.RowKit
set_option maxRecDepth 20000
/-- The slice at A, of q bytes, is M's bytes. -/
def BytIs (w : World) (A : Option Addr) (q M : Nat) : Prop := (be (blen M) M).length = q ∧ q ≤ 100000 ∧ Rd .u8 w w.heap.size A (be (blen M) M)
/-- The slice at A, of n bytes, is l. -/
def ByteRow (w : World) (A : Option Addr) (n : Nat) (l : List Nat) : Prop := l.length = n ∧ Bytes l ∧ n ≤ 100000 ∧ Rd .u8 w w.heap.size A l
def OutB (M : Nat) (w : World) (e : Ending) (w' : World) : Prop := ∃ X q d, e = .returned (.slice X q d) ∧ BytIs w' X q M ∧ Below w.heap.size w w'
def numS (M : Nat) := str (be (blen M) M)
def rowT (l : List Nat) := str l
section
variable {w w' : World} {A : Option Addr} {q n M d c : Nat} {l : List Nat}
theorem BytIs.step (h : BytIs w A q M) (b : Below w.heap.size w w') : BytIs w' A q M := ⟨h.1, h.2.1, rd_step h.2.2 b⟩
theorem ByteRow.step (h : ByteRow w A n l) (b : Below w.heap.size w w') : ByteRow w' A n l := ⟨h.1, h.2.1, h.2.2.1, rd_step h.2.2.2 b⟩
theorem BytIs.row (h : BytIs w A q M) : ByteRow w A q (be (blen M) M) := ⟨h.1, be_bytes _ _, h.2.1, h.2.2⟩
theorem ByteRow.str (h : ByteRow w A n l) : (convert 52 9 (.slice A n c)).run Try.prog w = .ok (.string (rowT l)) w := by
  obtain ⟨rfl, _, _, h4⟩ := h
  exact run_str (P := Try.prog) w 52 9 5 Try.underlying52 Try.underlying5 Try.underlying9 _ A _ c h4
theorem ByteRow.cell (h : ByteRow w A n l) {k : Nat} (hk : k < n) : ∃ b o, A = some ⟨b, o, none⟩ ∧ w.cell? ⟨b, o + k, none⟩ = some (.int .u8 (nth l k : Int)) := by
  obtain ⟨rfl, _, _, h4⟩ := h
  obtain ⟨b, o, rfl, _, hc⟩ := h4 (by omega)
  exact ⟨b, o, rfl, hc k hk⟩
theorem BytIs.str (h : BytIs w A q M) : (convert 52 9 (.slice A q c)).run Try.prog w = .ok (.string (numS M)) w := h.row.str
theorem bNB (h : NatIn w A n c M) (hn : n ≤ 12000) : Calls Try.prog 27 #[.slice A n c] w (OutB M w) := by
  have hb := h.bits
  have hq := nbits_blen M
  obtain ⟨l, rfl, rfl, h3, h4, h5, h6⟩ := h
  refine Calls.mono (natBytes_any A c l w h5 h3 (by omega) h6) fun e w' ⟨v, he, own, b⟩ => ?_
  obtain ⟨X, d, rfl, _⟩ := own_form own
  exact ⟨X, _, d, he, ⟨length_be _ _, by omega, Rd.own own⟩, b⟩
end
end Go.Proofs.Ytjpfcdgaepdcdaa

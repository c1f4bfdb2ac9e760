/- mul's small functions: trimmed, shorterFirst, without, addAt. Conditions: as typed (lengths that fit a machine; what is added lies apart from the row it is added to, and there is room for the sum). -/
import Derived.Test.YtjimnepjheppgaaNatC
import Derived.Test.YtjimnepjheppgaaMulM
namespace Go.Proofs.Ytjimnepjheppgaa
open Go.RowKit
set_option maxRecDepth 20000

theorem cell_lt {w : World} {b o : Nat} {v : Value} (h : w.cell? ⟨b, o, none⟩ = some v) : b < w.heap.size := by
  rcases Nat.lt_or_ge b w.heap.size with h1 | h1
  · exact h1
  · simp [World.cell?, Array.getElem?_eq_none h1] at h
/-- The slice at A reads as the numbers l, in a block other than g. -/
def Rdx (k : IntKind) (w : World) (g : Nat) (A : Option Addr) (l : List Nat) : Prop :=
  0 < l.length → ∃ b off, A = some ⟨b, off, none⟩ ∧ b ≠ g ∧ ∀ j, j < l.length → w.cell? ⟨b, off + j, none⟩ = some (.int k (nth l j : Int))
theorem Rdx.grown {k : IntKind} {w w' : World} {g : Nat} {A : Option Addr} {l : List Nat} (h : Rdx k w g A l) (hg : w.grownBy w' (some g)) : Rdx k w' g A l := fun hl => by
  obtain ⟨b, off, e, hb, hc⟩ := h hl
  refine ⟨b, off, e, hb, fun j hj => ?_⟩
  have h1 := hc j hj
  have hlt : b < w.heap.size := cell_lt h1
  rw [← h1]
  exact World.cell?_of_block (hg.block b hlt (by intro e; exact hb (by injection e with e)))
/-- A row that is owned from above g on lies apart from g. -/
theorem Rdx.own {k : IntKind} {w : World} {base g : Nat} {e : TypeId} {n c : Nat} {A : Option Addr} {l : List Nat} (h : w.ownsRow base e 1 (.slice A n c) n (ints k l)) (hg : g < base) : Rdx k w g A l := fun hl => by
  obtain ⟨b, off, rfl, _, hc⟩ := Rd.own h hl
  exact ⟨b, off, rfl, by have := (h.lt b rfl).1; omega, hc⟩

theorem mtrim_any (A : Option Addr) (c : Nat) (a : List Nat) (w : World) (B : Nat) (hr : Rd .u64 w B A a) (hw : Words a) (hl : a.length ≤ 1000000) (hc : a.length ≤ c) :
    Calls Try.prog 36 #[.slice A a.length c] w fun e w' => e = .returned (.slice A (tl a) c) ∧ w = w' := by
  have Q := Lib.hid (bits_q A c a w B hr hw hl hc)
  have hle := tl_le a hw
  have hb := nbits_natOf a hw
  have ht : ((nbits (natOf a) : Int) + 64 - 1) / 64 = (tl a : Int) := by unfold tl; omega
  have ht2 : ((nbits (natOf a) : Int) + 63) / 64 = (tl a : Int) := by unfold tl; omega
  clear hr
  go_enter Try.func36, Try.ntmps36
  go_wp2_with fail
  refine (Q.out).mono ?_
  rintro e w' ⟨rfl, rfl⟩
  go_wp2_with fail
  go_ret
  exact ⟨rfl, rfl⟩

theorem shorter_yes (A A2 : Option Addr) (n m c c2 : Nat) (w : World) (h : m < n) :
    Calls Try.prog 55 #[.slice A n c, .slice A2 m c2] w fun e w' => e = .returned (.tuple #[.slice A2 m c2, .slice A n c]) ∧ w = w' := by
  go_enter Try.func55, Try.ntmps55
  go_wp2_with fail
  go_ret2
  exact ⟨rfl, rfl⟩
theorem shorter_no (A A2 : Option Addr) (n m c c2 : Nat) (w : World) (h : ¬ m < n) :
    Calls Try.prog 55 #[.slice A n c, .slice A2 m c2] w fun e w' => e = .returned (.tuple #[.slice A n c, .slice A2 m c2]) ∧ w = w' := by
  go_enter Try.func55, Try.ntmps55
  go_wp2_with fail
  go_ret2
  exact ⟨rfl, rfl⟩
/-- What is left of a number behind two others. -/
theorem without_any (A A2 A3 : Option Addr) (n m q c c2 c3 : Nat) (a b d : List Nat) (w : World) (hn : a.length = n) (hm : b.length = m) (hq : d.length = q) (hr : Rd .u64 w w.heap.size A a) (hw : Words a) (hl : a.length ≤ 50000) (hc : a.length ≤ c)
    (hr2 : Rd .u64 w w.heap.size A2 b) (hw2 : Words b) (hl2 : b.length ≤ 50000) (hc2 : b.length ≤ c2) (hr3 : Rd .u64 w w.heap.size A3 d) (hw3 : Words d) (hl3 : d.length ≤ 50000) (hc3 : d.length ≤ c3) (hle : natOf b + natOf d ≤ natOf a) :
    Calls Try.prog 58 #[.slice A n c, .slice A2 m c2, .slice A3 q c3] w (OutNat (natOf a - natOf b - natOf d) w) := by
  subst hn
  subst hm
  subst hq
  have S := natSub_any A A2 c c2 a b w hr hw (by omega) hc hr2 hw2 (by omega) hc2
  have HS := Lib.hid S
  clear S
  go_enter Try.func58, Try.ntmps58
  go_wp2_with fail
  refine (HS.out).mono ?_
  rintro e w1 ⟨hyes, _, hb1⟩
  obtain ⟨v, rfl, hown⟩ := hyes (by omega)
  obtain ⟨X, k, rfl, hk, _⟩ := own_form hown
  have hsz : nbits (natOf a - natOf b) ≤ 64 * a.length := Nat.le_trans (nbits_mono (Nat.sub_le _ _)) (nbits_natOf a hw)
  have hlen := length_wd (natOf a - natOf b)
  have S2 := natSub_any X A3 k c3 (wd (natOf a - natOf b)) d w1 (Rd.own hown) (wd_words _) (by omega) (by omega) ((hr3.below hb1).more hb1.size) hw3 (by omega) hc3
  rw [hlen, natOf_wd] at S2
  have HS2 := Lib.hid S2
  clear S2 hlen
  go_wp2_with fail
  refine (HS2.out).mono ?_
  rintro e w2 ⟨hyes2, _, hb2⟩
  obtain ⟨v2, rfl, hown2⟩ := hyes2 (by omega)
  go_wp2_with fail
  go_ret
  exact ⟨_, rfl, own_base hown2 hb1.size, hb1.trans (hb2.mono hb1.size)⟩

set_option maxHeartbeats 1000000 in
/-- x is added to a row from a place on. -/
theorem addAt_any (base g K p V m c2 : Nat) (L xs : List Nat) (A2 : Option Addr) (w : World) (hown : w.ownsRow base 24 1 (.slice (some ⟨g, 0, none⟩) K K) K (ints .u64 L)) (hS : Sums K K p 0 V L) (hx : Rdx .u64 w g A2 xs) (hwx : Words xs) (hm : xs.length = m)
    (hp : p + m ≤ K) (hK : K ≤ 1000000) (hV : V + 18446744073709551616 ^ p * natOf xs < 18446744073709551616 ^ K) :
    Calls Try.prog 57 #[.slice (some ⟨g, 0, none⟩) K K, .slice A2 m c2, .int .i64 (p : Int)] w fun e w' => e = .returned (.tuple #[]) ∧
      w'.ownsRow base 24 1 (.slice (some ⟨g, 0, none⟩) K K) K (ints .u64 (words K (V + 18446744073709551616 ^ p * natOf xs))) ∧ w.grownBy w' (some g) := by
  subst hm
  have HV := Lib.hid hV
  clear hV
  go_enter Try.func57, Try.ntmps57
  go_wp2_with fail
  go_loopw [12, 6] (fun j cy wr => ∃ (i C : Nat) (L' : List Nat), i ≤ xs.length ∧ j = .int .i64 i ∧ cy = .int .u64 C ∧ C ≤ 1 ∧ Sums K K (p + i) C (V + 18446744073709551616 ^ p * natOf (xs.take i)) L' ∧ wr.ownsRow base 24 1 (.slice (some ⟨g, 0, none⟩) K K) K (ints .u64 L') ∧ w.grownBy wr (some g)) (fun j _ _ => xs.length - (intOf j).toNat)
  case atStart => exact ⟨0, 0, L, Nat.zero_le _, rfl, rfl, by omega, by simpa [natOf] using hS, hown, World.grownBy.refl w _⟩
  case round =>
    obtain ⟨i, C, L', hi, rfl, rfl, hC, hS', hown', hg⟩ := hrel
    by_cases hlt : i < xs.length
    · obtain ⟨b, off, rfl, _, hcell⟩ := hx.grown hg (by omega)
      have hx1 := hcell i hlt
      have hxl := nth_lt xs hwx i
      have hll := hS'.len
      have hLl := nth_lt L' hS'.words (p + i)
      have hco : wr.cell? ⟨g, p + i, none⟩ = some (.int .u64 (nth L' (p + i) : Int)) := by rw [hown'.cellAt _ (by omega), ints_get _ _ _ (by omega)]
      have hfo : wr.frozen? ⟨g, p + i, none⟩ = false := hown'.frozenAt _
      obtain ⟨s, hs⟩ : ∃ s, nth L' (p + i) + nth xs i + C = s := ⟨_, rfl⟩
      have hadd := add64_run (nth L' (p + i)) (nth xs i) C hC
      rw [hs] at hadd
      have hst := hown'.stored (p + i) (.int .u64 ((s % 18446744073709551616 : Nat) : Int))
      rw [ints_set] at hst
      have hSS := hS'.step (by omega) (Nat.le_refl _) (nth xs i) s hs
      have e : V + 18446744073709551616 ^ p * natOf (xs.take i) + 18446744073709551616 ^ (p + i) * nth xs i = V + 18446744073709551616 ^ p * natOf (xs.take (i + 1)) := by rw [natOf_take_succ, Nat.mul_add, Nat.pow_add, Nat.mul_assoc, Nat.add_assoc]
      rw [e] at hSS
      have hc1 : s / 18446744073709551616 ≤ 1 := by omega
      obtain ⟨s0, hs0⟩ : ∃ s0, s % 18446744073709551616 = s0 := ⟨_, rfl⟩
      obtain ⟨s1, hs1⟩ : ∃ s1, s / 18446744073709551616 = s1 := ⟨_, rfl⟩
      rw [hs0] at hadd hst hSS
      rw [hs1] at hadd hSS hc1
      have HO := Lib.hid hst.1
      have HG := Lib.hid (hg.trans (grown_setCell wr ⟨g, p + i, none⟩ (.int .u64 (s0 : Int))))
      have HS := Lib.hid hSS
      clear hst hSS hs hs0 hs1 e hcell hown' hS' hll hown hS hx
      go_wp2_with fail
      go_roundw
      case rel => exact ⟨i + 1, s1, L'.set (p + i) s0, by omega, by go_num, rfl, hc1, HS.out, HO.out, HG.out⟩
      case measure => simp [intOf]; omega
    · obtain rfl : i = xs.length := by omega
      rw [List.take_length] at hS'
      clear hlt hown hS
      obtain ⟨wo, hwo⟩ : ∃ wo : World, wo = wr := ⟨_, rfl⟩
      subst hwo
      go_wp2_with fail
      go_loopw [9, 6] (fun j cy wr => ∃ (i C : Nat) (L' : List Nat), i ≤ K ∧ j = .int .i64 i ∧ cy = .int .u64 C ∧ C ≤ 1 ∧ Sums K K i C (V + 18446744073709551616 ^ p * natOf xs) L' ∧ wr.ownsRow base 24 1 (.slice (some ⟨g, 0, none⟩) K K) K (ints .u64 L') ∧ w.grownBy wr (some g)) (fun j _ _ => K - (intOf j).toNat)
      case atStart => exact ⟨p + xs.length, C, L', hp, by go_num, rfl, hC, hS', hown', hg⟩
      case round =>
        obtain ⟨i, C, L', hi, rfl, rfl, hC, hS', hown', hg⟩ := hrel
        by_cases hc0 : C = 0
        · subst hc0
          have e := hS'.all
          subst e
          have HO := Lib.hid hown'
          clear hown' hS'
          go_wp2_with fail
          go_end0
          exact ⟨rfl, HO.out, hg⟩
        · have hiK := hS'.room HV.out hc0
          have hll := hS'.len
          have hLl := nth_lt L' hS'.words i
          have hco : wr.cell? ⟨g, i, none⟩ = some (.int .u64 (nth L' i : Int)) := by rw [hown'.cellAt _ (by omega), ints_get _ _ _ (by omega)]
          have hfo : wr.frozen? ⟨g, i, none⟩ = false := hown'.frozenAt _
          obtain ⟨s, hs⟩ : ∃ s, nth L' i + 0 + C = s := ⟨_, rfl⟩
          have hadd : ∀ w : World, (callFunc 35 #[.int .u64 (nth L' i : Int), .int .u64 0, .int .u64 C]).run Try.prog w = .ok (.value (.tuple #[.int .u64 ((s % 18446744073709551616 : Nat) : Int), .int .u64 ((s / 18446744073709551616 : Nat) : Int)])) w := by
            rw [← hs]
            exact add64_run (nth L' i) 0 C hC
          have hst := hown'.stored i (.int .u64 ((s % 18446744073709551616 : Nat) : Int))
          rw [ints_set] at hst
          have hSS := hS'.step hiK (Nat.le_refl _) 0 s hs
          rw [Nat.mul_zero, Nat.add_zero] at hSS
          have hc1 : s / 18446744073709551616 ≤ 1 := by omega
          obtain ⟨s0, hs0⟩ : ∃ s0, s % 18446744073709551616 = s0 := ⟨_, rfl⟩
          obtain ⟨s1, hs1⟩ : ∃ s1, s / 18446744073709551616 = s1 := ⟨_, rfl⟩
          rw [hs0] at hadd hst hSS
          rw [hs1] at hadd hSS hc1
          have hne : ((C : Int) != 0) = true := by simp; omega
          have HO := Lib.hid hst.1
          have HG := Lib.hid (hg.trans (grown_setCell wr ⟨g, i, none⟩ (.int .u64 (s0 : Int))))
          have HS := Lib.hid hSS
          clear hst hSS hs hs0 hs1 hown' hS' hll
          go_wp2_with fail
          go_roundw
          case rel => exact ⟨i + 1, s1, L'.set i s0, by omega, by go_num, rfl, hc1, HS.out, HO.out, HG.out⟩
          case measure => simp [intOf]; omega
end Go.Proofs.Ytjimnepjheppgaa

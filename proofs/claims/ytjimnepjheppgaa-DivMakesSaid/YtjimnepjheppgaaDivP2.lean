/- div's small functions: trimmed, giveBack, takeAway, guess. Conditions: as typed (lengths that fit a machine; the divisor lies apart from the row). -/
import Derived.Test.YtjimnepjheppgaaNatC
import Derived.Test.YtjimnepjheppgaaMulP1
import Derived.Test.YtjimnepjheppgaaDivP1
namespace Go.Proofs.Ytjimnepjheppgaa
open Go.RowKit
set_option maxRecDepth 20000

theorem dtrim_any (A : Option Addr) (c : Nat) (a : List Nat) (w : World) (B : Nat) (hr : Rd .u64 w B A a) (hw : Words a) (hl : a.length ≤ 1000000) (hc : a.length ≤ c) :
    Calls Try.prog 30 #[.slice A a.length c] w fun e w' => e = .returned (.slice A (tl a) c) ∧ w = w' := by
  have Q := Lib.hid (bits_q A c a w B hr hw hl hc)
  have hle := tl_le a hw
  have hb := nbits_natOf a hw
  have ht : ((nbits (natOf a) : Int) + 64 - 1) / 64 = (tl a : Int) := by unfold tl; omega
  have ht2 : ((nbits (natOf a) : Int) + 63) / 64 = (tl a : Int) := by unfold tl; omega
  clear hr
  go_enter Try.func30, Try.ntmps30
  go_wp2_with fail
  refine (Q.out).mono ?_
  rintro e w' ⟨rfl, rfl⟩
  go_wp2_with fail
  go_ret
  exact ⟨rfl, rfl⟩

set_option maxHeartbeats 1000000 in
theorem give_any (base g K cap c1 p n c2 : Nat) (L ys : List Nat) (A2 : Option Addr) (w : World) (hown : w.ownsRow base 24 1 (.slice (some ⟨g, 0, none⟩) K cap) K (ints .u64 L)) (hL : Words L) (hlen : L.length = K) (hy : Rdx .u64 w g A2 ys) (hwy : Words ys) (hm : ys.length = n)
    (hp : p + n + 1 ≤ K) (hK : K ≤ 1000000) :
    Calls Try.prog 44 #[.slice (some ⟨g, p, none⟩) (n + 1 : Nat) c1, .slice A2 n c2] w fun e w' => ∃ L' c, e = .returned (.int .u64 ((c : Nat) : Int)) ∧ c ≤ 1 ∧ Gives K p (natOf ys) (n + 1) c (natOf L) L L' ∧
      w'.ownsRow base 24 1 (.slice (some ⟨g, 0, none⟩) K cap) K (ints .u64 L') ∧ w.grownBy w' (some g) := by
  subst hm
  have hS := Gives.start K p L hlen hL
  go_enter Try.func44, Try.ntmps44
  go_wp2_with fail
  go_loopw [9, 4] (fun j cy wr => ∃ (i C : Nat) (L' : List Nat), i ≤ ys.length ∧ j = .int .i64 i ∧ cy = .int .u64 C ∧ C ≤ 1 ∧ Gives K p (natOf (ys.take i)) i C (natOf L) L L' ∧ wr.ownsRow base 24 1 (.slice (some ⟨g, 0, none⟩) K cap) K (ints .u64 L') ∧ w.grownBy wr (some g)) (fun j _ _ => ys.length - (intOf j).toNat)
  case atStart => exact ⟨0, 0, L, Nat.zero_le _, rfl, rfl, by omega, by simpa [natOf] using hS, hown, World.grownBy.refl w _⟩
  case round =>
    obtain ⟨i, C, L', hi, rfl, rfl, hC, hS', hown', hg⟩ := hrel
    clear hown hS
    have hll := hS'.len
    have hLl := nth_lt L' hS'.words (p + i)
    have hco : wr.cell? ⟨g, p + i, none⟩ = some (.int .u64 (nth L' (p + i) : Int)) := by rw [hown'.cellAt _ (by omega), ints_get _ _ _ (by omega)]
    have hfo : wr.frozen? ⟨g, p + i, none⟩ = false := hown'.frozenAt _
    by_cases hlt : i < ys.length
    · obtain ⟨b, off, rfl, _, hcell⟩ := hy.grown hg (by omega)
      have hx1 := hcell i hlt
      have hxl := nth_lt ys hwy i
      obtain ⟨s, hs⟩ : ∃ s, nth L' (p + i) + nth ys i + C = s := ⟨_, rfl⟩
      have hadd := add64_run (nth L' (p + i)) (nth ys i) C hC
      rw [hs] at hadd
      have hst := hown'.stored (p + i) (.int .u64 ((s % 18446744073709551616 : Nat) : Int))
      rw [ints_set] at hst
      have hSS := hS'.step (by omega) s _ hs (natOf_take_succ ys i)
      have hc1 : s / 18446744073709551616 ≤ 1 := by omega
      obtain ⟨s0, hs0⟩ : ∃ s0, s % 18446744073709551616 = s0 := ⟨_, rfl⟩
      obtain ⟨s1, hs1⟩ : ∃ s1, s / 18446744073709551616 = s1 := ⟨_, rfl⟩
      rw [hs0] at hadd hst hSS
      rw [hs1] at hadd hSS hc1
      have HO := Lib.hid hst.1
      have HG := Lib.hid (hg.trans (grown_setCell wr ⟨g, p + i, none⟩ (.int .u64 (s0 : Int))))
      have HS := Lib.hid hSS
      clear hst hSS hs hs0 hs1 hcell hown' hS' hll hy
      go_wp2_with fail
      go_roundw
      case rel => exact ⟨i + 1, s1, L'.set (p + i) s0, by omega, by go_num, rfl, hc1, HS.out, HO.out, HG.out⟩
      case measure => simp [intOf]; omega
    · obtain rfl : i = ys.length := by omega
      rw [List.take_length] at hS'
      obtain ⟨s, hs⟩ : ∃ s, nth L' (p + ys.length) + 0 + C = s := ⟨_, rfl⟩
      have hadd : ∀ w : World, (callFunc 35 #[.int .u64 (nth L' (p + ys.length) : Int), .int .u64 0, .int .u64 C]).run Try.prog w = .ok (.value (.tuple #[.int .u64 ((s % 18446744073709551616 : Nat) : Int), .int .u64 ((s / 18446744073709551616 : Nat) : Int)])) w := by
        rw [← hs]
        exact add64_run (nth L' (p + ys.length)) 0 C hC
      have hst := hown'.stored (p + ys.length) (.int .u64 ((s % 18446744073709551616 : Nat) : Int))
      rw [ints_set] at hst
      have hSS := hS'.step (by omega) s (natOf ys) hs (by rw [Nat.mul_zero, Nat.add_zero])
      have hc1 : s / 18446744073709551616 ≤ 1 := by omega
      obtain ⟨s0, hs0⟩ : ∃ s0, s % 18446744073709551616 = s0 := ⟨_, rfl⟩
      obtain ⟨s1, hs1⟩ : ∃ s1, s / 18446744073709551616 = s1 := ⟨_, rfl⟩
      rw [hs0] at hadd hst hSS
      rw [hs1] at hadd hSS hc1
      have HO := Lib.hid hst.1
      have HG := Lib.hid (hg.trans (grown_setCell wr ⟨g, p + ys.length, none⟩ (.int .u64 (s0 : Int))))
      have HS := Lib.hid hSS
      clear hst hSS hs hs0 hs1 hown' hS' hll hy hlt
      go_wp2_with fail
      go_ret
      exact ⟨L'.set (p + ys.length) s0, s1, rfl, hc1, HS.out, HO.out, HG.out⟩

set_option maxHeartbeats 1000000 in
theorem take_any (base g K cap c1 p n c2 x : Nat) (L ys : List Nat) (A2 : Option Addr) (w : World) (hown : w.ownsRow base 24 1 (.slice (some ⟨g, 0, none⟩) K cap) K (ints .u64 L)) (hL : Words L) (hlen : L.length = K) (hy : Rdx .u64 w g A2 ys) (hwy : Words ys) (hm : ys.length = n)
    (hp : p + n + 1 ≤ K) (hK : K ≤ 1000000) (hx : x < 18446744073709551616) :
    Calls Try.prog 43 #[.slice (some ⟨g, p, none⟩) (n + 1 : Nat) c1, .slice A2 n c2, .int .u64 (x : Int)] w fun e w' => ∃ L' o, e = .returned (.int .u64 ((o : Nat) : Int)) ∧ o ≤ 1 ∧ Takes K p x (natOf ys) (n + 1) o (natOf L) L L' ∧
      w'.ownsRow base 24 1 (.slice (some ⟨g, 0, none⟩) K cap) K (ints .u64 L') ∧ w.grownBy w' (some g) := by
  subst hm
  have hS := Takes.start K p x L hlen hL
  go_enter Try.func43, Try.ntmps43
  go_wp2_with fail
  go_loopw [15, 6, 7] (fun j ov vv wr => ∃ (i o v : Nat) (L' : List Nat), i ≤ ys.length ∧ j = .int .i64 i ∧ ov = .int .u64 o ∧ vv = .int .u64 v ∧ o ≤ 1 ∧ v < 18446744073709551616 ∧ Takes K p x (natOf (ys.take i)) i (v + o) (natOf L) L L' ∧ wr.ownsRow base 24 1 (.slice (some ⟨g, 0, none⟩) K cap) K (ints .u64 L') ∧ w.grownBy wr (some g)) (fun j _ _ _ => ys.length - (intOf j).toNat)
  case atStart => exact ⟨0, 0, 0, L, Nat.zero_le _, rfl, rfl, rfl, by omega, by omega, by simpa [natOf] using hS, hown, World.grownBy.refl w _⟩
  case round =>
    obtain ⟨i, o, v, L', hi, rfl, rfl, rfl, ho, hv, hS', hown', hg⟩ := hrel
    clear hown hS
    have hll := hS'.len
    have hLl := nth_lt L' hS'.words (p + i)
    have hco : wr.cell? ⟨g, p + i, none⟩ = some (.int .u64 (nth L' (p + i) : Int)) := by rw [hown'.cellAt _ (by omega), ints_get _ _ _ (by omega)]
    have hfo : wr.frozen? ⟨g, p + i, none⟩ = false := hown'.frozenAt _
    by_cases hlt : i < ys.length
    · obtain ⟨b, off, rfl, _, hcell⟩ := hy.grown hg (by omega)
      have hx1 := hcell i hlt
      have hxl := nth_lt ys hwy i
      have hpr : x * nth ys i ≤ 18446744073709551615 * 18446744073709551615 := Nat.mul_le_mul (by omega) (by omega)
      obtain ⟨e1, e2⟩ := take_step x (nth ys i) v (nth L' (p + i)) o hx hxl hv hLl ho
      have M := Try.bits_Mul64 x (nth ys i) hx hxl wr
      have A1 : ∀ w : World, (callFunc 35 #[.int .u64 ((x * nth ys i % 18446744073709551616 : Nat) : Int), .int .u64 (v : Int), .int .u64 0]).run Try.prog w = .ok (.value (.tuple #[.int .u64 (((x * nth ys i % 18446744073709551616 + v) % 18446744073709551616 : Nat) : Int), .int .u64 (((x * nth ys i % 18446744073709551616 + v) / 18446744073709551616 : Nat) : Int)])) w :=
        fun w => add64_run (x * nth ys i % 18446744073709551616) v 0 (by omega) w
      have A2 := fun w => sub64_run (nth L' (p + i)) ((x * nth ys i % 18446744073709551616 + v) % 18446744073709551616) o ho w
      obtain ⟨s0, hs0⟩ : ∃ s0, (nth L' (p + i) + 18446744073709551616 - (x * nth ys i % 18446744073709551616 + v) % 18446744073709551616 - o) % 18446744073709551616 = s0 := ⟨_, rfl⟩
      obtain ⟨o2, ho2⟩ : ∃ o2, (if nth L' (p + i) < (x * nth ys i % 18446744073709551616 + v) % 18446744073709551616 + o then 1 else 0 : Nat) = o2 := ⟨_, rfl⟩
      have ho2' : o2 ≤ 1 := by rw [← ho2]; split <;> omega
      have hs0' : s0 < 18446744073709551616 := by rw [← hs0]; exact Nat.mod_lt _ (by omega)
      rw [hs0, ho2] at e2 A2
      have hSS := hS'.step (y := nth ys i) (by omega) s0 _ _ hs0' e2 (natOf_take_succ ys i)
      have hst := hown'.stored (p + i) (.int .u64 (s0 : Int))
      rw [ints_set] at hst
      clear hs0 ho2 e2
      generalize (x * nth ys i % 18446744073709551616 + v) % 18446744073709551616 = l1 at *
      generalize (x * nth ys i % 18446744073709551616 + v) / 18446744073709551616 = c1' at *
      generalize x * nth ys i % 18446744073709551616 = lo at *
      generalize x * nth ys i / 18446744073709551616 = hh at *
      have HO := Lib.hid hst.1
      have HG := Lib.hid (hg.trans (grown_setCell wr ⟨g, p + i, none⟩ (.int .u64 (s0 : Int))))
      have HS := Lib.hid hSS
      have HM := Lib.hid M
      clear hst hSS hcell hown' hS' hll hy M hpr
      go_wp2_with fail
      refine (HM.out).mono ?_
      rintro e w' ⟨rfl, rfl⟩
      go_wp2_with fail
      go_roundw
      case rel => exact ⟨i + 1, o2, hh + c1', L'.set (p + i) s0, by omega, by go_num, rfl, by go_num, ho2', e1, HS.out, HO.out, HG.out⟩
      case measure => simp [intOf]; omega
    · obtain rfl : i = ys.length := by omega
      rw [List.take_length] at hS'
      have e2 := last_step v (nth L' (p + ys.length)) o hv hLl ho
      have A2 := fun w => sub64_run (nth L' (p + ys.length)) v o ho w
      obtain ⟨s0, hs0⟩ : ∃ s0, (nth L' (p + ys.length) + 18446744073709551616 - v - o) % 18446744073709551616 = s0 := ⟨_, rfl⟩
      obtain ⟨o2, ho2⟩ : ∃ o2, (if nth L' (p + ys.length) < v + o then 1 else 0 : Nat) = o2 := ⟨_, rfl⟩
      have ho2' : o2 ≤ 1 := by rw [← ho2]; split <;> omega
      have hs0' : s0 < 18446744073709551616 := by rw [← hs0]; exact Nat.mod_lt _ (by omega)
      rw [hs0, ho2] at e2 A2
      have hSS := hS'.step (y := 0) (by omega) s0 (natOf ys) o2 hs0' (by rw [Nat.mul_zero, Nat.add_zero]; exact e2) (by rw [Nat.mul_zero, Nat.add_zero])
      have hst := hown'.stored (p + ys.length) (.int .u64 (s0 : Int))
      rw [ints_set] at hst
      have HO := Lib.hid hst.1
      have HG := Lib.hid (hg.trans (grown_setCell wr ⟨g, p + ys.length, none⟩ (.int .u64 (s0 : Int))))
      have HS := Lib.hid hSS
      clear hst hSS hs0 ho2 hown' hS' hll hy hlt e2
      go_wp2_with fail
      go_ret
      exact ⟨L'.set (p + ys.length) s0, o2, rfl, ho2', HS.out, HO.out, HG.out⟩

/-- What a place is guessed to be. -/
def guessV (hi lo f : Nat) : Nat := if f ≤ hi then 18446744073709551615 else (hi * 18446744073709551616 + lo) / f
set_option maxHeartbeats 1000000 in
theorem guess_any (g p m c1 c2 hi lo f : Nat) (A2 : Option Addr) (b off : Nat) (w : World) (hA : A2 = some ⟨b, off, none⟩) (hm : m ≤ 1000000)
    (h1 : w.cell? ⟨g, p + (m + 1), none⟩ = some (.int .u64 (hi : Int))) (h2 : w.cell? ⟨g, p + m, none⟩ = some (.int .u64 (lo : Int))) (h3 : w.cell? ⟨b, off + m, none⟩ = some (.int .u64 (f : Int)))
    (_ : hi < 18446744073709551616) (b2 : lo < 18446744073709551616) (b3 : f < 18446744073709551616) :
    Calls Try.prog 42 #[.slice (some ⟨g, p, none⟩) (m + 1 + 1 : Nat) c1, .slice A2 (m + 1 : Nat) c2] w fun e w' => e = .returned (.int .u64 (guessV hi lo f : Nat)) ∧ Drawn w w' := by
  subst hA
  by_cases hle : f ≤ hi
  · have hv := Lib.hid (show guessV hi lo f = 18446744073709551615 from if_pos hle)
    go_enter Try.func42, Try.ntmps42
    go_wp2_with fail
    go_quiet (fail)
    go_wp2_with fail
    go_ret
    exact ⟨ret_num (by rw [hv.out]; rfl), Drawn.more _⟩
  · have hv := Lib.hid (show guessV hi lo f = (hi * 18446744073709551616 + lo) / f from if_neg hle)
    obtain ⟨q, hq⟩ : ∃ q, (hi * 18446744073709551616 + lo) / f = q := ⟨_, rfl⟩
    obtain ⟨r, hr⟩ : ∃ r, (hi * 18446744073709551616 + lo) % f = r := ⟨_, rfl⟩
    have D := fun u => div64_any hi lo f u (by omega) b3 b2
    rw [hq, hr] at D
    rw [hq] at hv
    have HD := Lib.hid D
    clear D hq hr
    go_enter Try.func42, Try.ntmps42
    go_wp2_with fail
    go_quiet (fail)
    go_wp2_with fail
    refine (HD.out _).mono ?_
    rintro e w' ⟨rfl, n1, rfl⟩
    go_wp2_with fail
    go_ret
    exact ⟨ret_num (by rw [hv.out]), Drawn.more _⟩
end Go.Proofs.Ytjimnepjheppgaa

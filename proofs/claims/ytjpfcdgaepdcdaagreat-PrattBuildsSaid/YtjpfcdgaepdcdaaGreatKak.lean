/- Several texts in one; each begins with a remark that says what it shows and on which conditions. -/
import Derived.Test.YtjpfcdgaepdcdaaGreatKae
import Derived.Test.YtjpfcdgaepdcdaaGreatKah
import Derived.Test.YtjpfcdgaepdcdaaGreatKaj
import Derived.Test.YtjpfcdgaepdcdaaGreatKad
/- div's small functions: trimmed, giveBack, takeAway, guess. Conditions: as typed (lengths that fit a machine; the divisor lies apart from the row). -/
namespace Go.Proofs.YtjpfcdgaepdcdaaGreat
open Go.RowKit
set_option maxRecDepth 20000
theorem dtrim_any (A : Option Addr) (c : Nat) (a : List Nat) (w : World) (B : Nat) (hr : Rd .u64 w B A a) (hw : Words a) (hl : a.length ≤ 1000000) (hc : a.length ≤ c) :
    Calls Tryz.prog 105 #[.slice A a.length c] w fun e w' => e = .returned (.slice A (tl a) c) ∧ w = w' := by
  have Q := Lib.hid (bits_q A c a w B hr hw hl hc)
  have hle := tl_le a hw
  have hb := nbits_natOf a hw
  have ht : ((nbits (natOf a) : Int) + 64 - 1) / 64 = (tl a : Int) := by unfold tl; omega
  have ht2 : ((nbits (natOf a) : Int) + 63) / 64 = (tl a : Int) := by unfold tl; omega
  clear hr
  go_enter Tryz.func105, Tryz.ntmps105
  go_wp2_with fail
  refine (Q.out).mono ?_
  rintro e w' ⟨rfl, rfl⟩
  go_wp2_with fail
  go_ret
  exact ⟨rfl, rfl⟩
set_option maxHeartbeats 1000000 in
theorem give_any (base g K cap c1 p n c2 : Nat) (L ys : List Nat) (A2 : Option Addr) (w : World) (hown : w.ownsRow base 27 1 (.slice (some ⟨g, 0, none⟩) K cap) K (ints .u64 L)) (hL : Words L) (hlen : L.length = K) (hy : Rdx .u64 w g A2 ys) (hwy : Words ys) (hm : ys.length = n)
    (hp : p + n + 1 ≤ K) (hK : K ≤ 1000000) :
    Calls Tryz.prog 125 #[.slice (some ⟨g, p, none⟩) (n + 1 : Nat) c1, .slice A2 n c2] w fun e w' => ∃ L' c, e = .returned (.int .u64 ((c : Nat) : Int)) ∧ c ≤ 1 ∧ Gives K p (natOf ys) (n + 1) c (natOf L) L L' ∧
      w'.ownsRow base 27 1 (.slice (some ⟨g, 0, none⟩) K cap) K (ints .u64 L') ∧ w.grownBy w' (some g) := by
  subst hm
  have hS := Gives.start K p L hlen hL
  go_enter Tryz.func125, Tryz.ntmps125
  go_wp2_with fail
  go_loopw [9, 4] (fun j cy wr => ∃ (i C : Nat) (L' : List Nat), i ≤ ys.length ∧ j = .int .i64 i ∧ cy = .int .u64 C ∧ C ≤ 1 ∧ Gives K p (natOf (ys.take i)) i C (natOf L) L L' ∧ wr.ownsRow base 27 1 (.slice (some ⟨g, 0, none⟩) K cap) K (ints .u64 L') ∧ w.grownBy wr (some g)) (fun j _ _ => ys.length - (intOf j).toNat)
  case atStart => exact ⟨0, 0, L, Nat.zero_le _, rfl, rfl, by omega, by simpa [natOf] using hS, hown, World.grownBy.refl w _⟩
  case round =>
    obtain ⟨i, C, L', hi, rfl, rfl, hC, hS', hown', hg⟩ := hrel
    clear hown hS
    have hll := hS'.len
    have hLl := nth_lt L' hS'.words (p + i)
    have hco : wr.cell? ⟨g, p + i, none⟩ = some (.int .u64 (nth L' (p + i) : Int)) := by rw [hown'.cellAt _ (by omega), ints_get _ _ _ (by omega)]
    have hfo : wr.frozen? ⟨g, p + i, none⟩ = false := hown'.frozenAt _
    by_cases hlt : i < ys.length
    · obtain ⟨b, off, rfl, _, hcell⟩ := hy.grown hg (by omega)
      have hx1 := hcell i hlt
      have hxl := nth_lt ys hwy i
      obtain ⟨s, hs⟩ : ∃ s, nth L' (p + i) + nth ys i + C = s := ⟨_, rfl⟩
      have hadd := add64_run (nth L' (p + i)) (nth ys i) C hC
      rw [hs] at hadd
      have hst := hown'.stored (p + i) (.int .u64 ((s % 18446744073709551616 : Nat) : Int))
      rw [ints_set] at hst
      have hSS := hS'.step (by omega) s _ hs (natOf_take_succ ys i)
      have hc1 : s / 18446744073709551616 ≤ 1 := by omega
      obtain ⟨s0, hs0⟩ : ∃ s0, s % 18446744073709551616 = s0 := ⟨_, rfl⟩
      obtain ⟨s1, hs1⟩ : ∃ s1, s / 18446744073709551616 = s1 := ⟨_, rfl⟩
      rw [hs0] at hadd hst hSS
      rw [hs1] at hadd hSS hc1
      have HO := Lib.hid hst.1
      have HG := Lib.hid (hg.trans (grown_setCell wr ⟨g, p + i, none⟩ (.int .u64 (s0 : Int))))
      have HS := Lib.hid hSS
      clear hst hSS hs hs0 hs1 hcell hown' hS' hll hy
      go_wp2_with fail
      go_roundw
      case rel => exact ⟨i + 1, s1, L'.set (p + i) s0, by omega, by go_num, rfl, hc1, HS.out, HO.out, HG.out⟩
      case measure => simp [intOf]; omega
    · obtain rfl : i = ys.length := by omega
      rw [List.take_length] at hS'
      obtain ⟨s, hs⟩ : ∃ s, nth L' (p + ys.length) + 0 + C = s := ⟨_, rfl⟩
      have hadd : ∀ w : World, (callFunc 66 #[.int .u64 (nth L' (p + ys.length) : Int), .int .u64 0, .int .u64 C]).run Tryz.prog w = .ok (.value (.tuple #[.int .u64 ((s % 18446744073709551616 : Nat) : Int), .int .u64 ((s / 18446744073709551616 : Nat) : Int)])) w := by
        rw [← hs]
        exact add64_run (nth L' (p + ys.length)) 0 C hC
      have hst := hown'.stored (p + ys.length) (.int .u64 ((s % 18446744073709551616 : Nat) : Int))
      rw [ints_set] at hst
      have hSS := hS'.step (by omega) s (natOf ys) hs (by rw [Nat.mul_zero, Nat.add_zero])
      have hc1 : s / 18446744073709551616 ≤ 1 := by omega
      obtain ⟨s0, hs0⟩ : ∃ s0, s % 18446744073709551616 = s0 := ⟨_, rfl⟩
      obtain ⟨s1, hs1⟩ : ∃ s1, s / 18446744073709551616 = s1 := ⟨_, rfl⟩
      rw [hs0] at hadd hst hSS
      rw [hs1] at hadd hSS hc1
      have HO := Lib.hid hst.1
      have HG := Lib.hid (hg.trans (grown_setCell wr ⟨g, p + ys.length, none⟩ (.int .u64 (s0 : Int))))
      have HS := Lib.hid hSS
      clear hst hSS hs hs0 hs1 hown' hS' hll hy hlt
      go_wp2_with fail
      go_ret
      exact ⟨L'.set (p + ys.length) s0, s1, rfl, hc1, HS.out, HO.out, HG.out⟩
set_option maxHeartbeats 1000000 in
theorem take_any (base g K cap c1 p n c2 x : Nat) (L ys : List Nat) (A2 : Option Addr) (w : World) (hown : w.ownsRow base 27 1 (.slice (some ⟨g, 0, none⟩) K cap) K (ints .u64 L)) (hL : Words L) (hlen : L.length = K) (hy : Rdx .u64 w g A2 ys) (hwy : Words ys) (hm : ys.length = n)
    (hp : p + n + 1 ≤ K) (hK : K ≤ 1000000) (hx : x < 18446744073709551616) :
    Calls Tryz.prog 124 #[.slice (some ⟨g, p, none⟩) (n + 1 : Nat) c1, .slice A2 n c2, .int .u64 (x : Int)] w fun e w' => ∃ L' o, e = .returned (.int .u64 ((o : Nat) : Int)) ∧ o ≤ 1 ∧ Takes K p x (natOf ys) (n + 1) o (natOf L) L L' ∧
      w'.ownsRow base 27 1 (.slice (some ⟨g, 0, none⟩) K cap) K (ints .u64 L') ∧ w.grownBy w' (some g) := by
  subst hm
  have hS := Takes.start K p x L hlen hL
  go_enter Tryz.func124, Tryz.ntmps124
  go_wp2_with fail
  go_loopw [15, 6, 7] (fun j ov vv wr => ∃ (i o v : Nat) (L' : List Nat), i ≤ ys.length ∧ j = .int .i64 i ∧ ov = .int .u64 o ∧ vv = .int .u64 v ∧ o ≤ 1 ∧ v < 18446744073709551616 ∧ Takes K p x (natOf (ys.take i)) i (v + o) (natOf L) L L' ∧ wr.ownsRow base 27 1 (.slice (some ⟨g, 0, none⟩) K cap) K (ints .u64 L') ∧ w.grownBy wr (some g)) (fun j _ _ _ => ys.length - (intOf j).toNat)
  case atStart => exact ⟨0, 0, 0, L, Nat.zero_le _, rfl, rfl, rfl, by omega, by omega, by simpa [natOf] using hS, hown, World.grownBy.refl w _⟩
  case round =>
    obtain ⟨i, o, v, L', hi, rfl, rfl, rfl, ho, hv, hS', hown', hg⟩ := hrel
    clear hown hS
    have hll := hS'.len
    have hLl := nth_lt L' hS'.words (p + i)
    have hco : wr.cell? ⟨g, p + i, none⟩ = some (.int .u64 (nth L' (p + i) : Int)) := by rw [hown'.cellAt _ (by omega), ints_get _ _ _ (by omega)]
    have hfo : wr.frozen? ⟨g, p + i, none⟩ = false := hown'.frozenAt _
    by_cases hlt : i < ys.length
    · obtain ⟨b, off, rfl, _, hcell⟩ := hy.grown hg (by omega)
      have hx1 := hcell i hlt
      have hxl := nth_lt ys hwy i
      have hpr : x * nth ys i ≤ 18446744073709551615 * 18446744073709551615 := Nat.mul_le_mul (by omega) (by omega)
      obtain ⟨e1, e2⟩ := take_step x (nth ys i) v (nth L' (p + i)) o hx hxl hv hLl ho
      have M := Tryz.bits_Mul64 x (nth ys i) hx hxl wr
      have A1 : ∀ w : World, (callFunc 66 #[.int .u64 ((x * nth ys i % 18446744073709551616 : Nat) : Int), .int .u64 (v : Int), .int .u64 0]).run Tryz.prog w = .ok (.value (.tuple #[.int .u64 (((x * nth ys i % 18446744073709551616 + v) % 18446744073709551616 : Nat) : Int), .int .u64 (((x * nth ys i % 18446744073709551616 + v) / 18446744073709551616 : Nat) : Int)])) w :=
        fun w => add64_run (x * nth ys i % 18446744073709551616) v 0 (by omega) w
      have A2 := fun w => sub64_run (nth L' (p + i)) ((x * nth ys i % 18446744073709551616 + v) % 18446744073709551616) o ho w
      obtain ⟨s0, hs0⟩ : ∃ s0, (nth L' (p + i) + 18446744073709551616 - (x * nth ys i % 18446744073709551616 + v) % 18446744073709551616 - o) % 18446744073709551616 = s0 := ⟨_, rfl⟩
      obtain ⟨o2, ho2⟩ : ∃ o2, (if nth L' (p + i) < (x * nth ys i % 18446744073709551616 + v) % 18446744073709551616 + o then 1 else 0 : Nat) = o2 := ⟨_, rfl⟩
      have ho2' : o2 ≤ 1 := by rw [← ho2]; split <;> omega
      have hs0' : s0 < 18446744073709551616 := by rw [← hs0]; exact Nat.mod_lt _ (by omega)
      rw [hs0, ho2] at e2 A2
      have hSS := hS'.step (y := nth ys i) (by omega) s0 _ _ hs0' e2 (natOf_take_succ ys i)
      have hst := hown'.stored (p + i) (.int .u64 (s0 : Int))
      rw [ints_set] at hst
      clear hs0 ho2 e2
      generalize (x * nth ys i % 18446744073709551616 + v) % 18446744073709551616 = l1 at *
      generalize (x * nth ys i % 18446744073709551616 + v) / 18446744073709551616 = c1' at *
      generalize x * nth ys i % 18446744073709551616 = lo at *
      generalize x * nth ys i / 18446744073709551616 = hh at *
      have HO := Lib.hid hst.1
      have HG := Lib.hid (hg.trans (grown_setCell wr ⟨g, p + i, none⟩ (.int .u64 (s0 : Int))))
      have HS := Lib.hid hSS
      have HM := Lib.hid M
      clear hst hSS hcell hown' hS' hll hy M hpr
      go_wp2_with fail
      refine (HM.out).mono ?_
      rintro e w' ⟨rfl, rfl⟩
      go_wp2_with fail
      go_roundw
      case rel => exact ⟨i + 1, o2, hh + c1', L'.set (p + i) s0, by omega, by go_num, rfl, by go_num, ho2', e1, HS.out, HO.out, HG.out⟩
      case measure => simp [intOf]; omega
    · obtain rfl : i = ys.length := by omega
      rw [List.take_length] at hS'
      have e2 := last_step v (nth L' (p + ys.length)) o hv hLl ho
      have A2 := fun w => sub64_run (nth L' (p + ys.length)) v o ho w
      obtain ⟨s0, hs0⟩ : ∃ s0, (nth L' (p + ys.length) + 18446744073709551616 - v - o) % 18446744073709551616 = s0 := ⟨_, rfl⟩
      obtain ⟨o2, ho2⟩ : ∃ o2, (if nth L' (p + ys.length) < v + o then 1 else 0 : Nat) = o2 := ⟨_, rfl⟩
      have ho2' : o2 ≤ 1 := by rw [← ho2]; split <;> omega
      have hs0' : s0 < 18446744073709551616 := by rw [← hs0]; exact Nat.mod_lt _ (by omega)
      rw [hs0, ho2] at e2 A2
      have hSS := hS'.step (y := 0) (by omega) s0 (natOf ys) o2 hs0' (by rw [Nat.mul_zero, Nat.add_zero]; exact e2) (by rw [Nat.mul_zero, Nat.add_zero])
      have hst := hown'.stored (p + ys.length) (.int .u64 (s0 : Int))
      rw [ints_set] at hst
      have HO := Lib.hid hst.1
      have HG := Lib.hid (hg.trans (grown_setCell wr ⟨g, p + ys.length, none⟩ (.int .u64 (s0 : Int))))
      have HS := Lib.hid hSS
      clear hst hSS hs0 ho2 hown' hS' hll hy hlt e2
      go_wp2_with fail
      go_ret
      exact ⟨L'.set (p + ys.length) s0, o2, rfl, ho2', HS.out, HO.out, HG.out⟩
/-- What a place is guessed to be. -/
def guessV (hi lo f : Nat) : Nat := if f ≤ hi then 18446744073709551615 else (hi * 18446744073709551616 + lo) / f
set_option maxHeartbeats 1000000 in
theorem guess_any (g p m c1 c2 hi lo f : Nat) (A2 : Option Addr) (b off : Nat) (w : World) (hA : A2 = some ⟨b, off, none⟩) (hm : m ≤ 1000000)
    (h1 : w.cell? ⟨g, p + (m + 1), none⟩ = some (.int .u64 (hi : Int))) (h2 : w.cell? ⟨g, p + m, none⟩ = some (.int .u64 (lo : Int))) (h3 : w.cell? ⟨b, off + m, none⟩ = some (.int .u64 (f : Int)))
    (_ : hi < 18446744073709551616) (b2 : lo < 18446744073709551616) (b3 : f < 18446744073709551616) :
    Calls Tryz.prog 123 #[.slice (some ⟨g, p, none⟩) (m + 1 + 1 : Nat) c1, .slice A2 (m + 1 : Nat) c2] w fun e w' => e = .returned (.int .u64 (guessV hi lo f : Nat)) ∧ Drawn w w' := by
  subst hA
  by_cases hle : f ≤ hi
  · have hv := Lib.hid (show guessV hi lo f = 18446744073709551615 from if_pos hle)
    go_enter Tryz.func123, Tryz.ntmps123
    go_wp2_with fail
    go_quiet (fail)
    go_wp2_with fail
    go_ret
    exact ⟨ret_num (by rw [hv.out]; rfl), Drawn.more _⟩
  · have hv := Lib.hid (show guessV hi lo f = (hi * 18446744073709551616 + lo) / f from if_neg hle)
    obtain ⟨q, hq⟩ : ∃ q, (hi * 18446744073709551616 + lo) / f = q := ⟨_, rfl⟩
    obtain ⟨r, hr⟩ : ∃ r, (hi * 18446744073709551616 + lo) % f = r := ⟨_, rfl⟩
    have D := fun u => div64_any hi lo f u (by omega) b3 b2
    rw [hq, hr] at D
    rw [hq] at hv
    have HD := Lib.hid D
    clear D hq hr
    go_enter Tryz.func123, Tryz.ntmps123
    go_wp2_with fail
    go_quiet (fail)
    go_wp2_with fail
    refine (HD.out _).mono ?_
    rintro e w' ⟨rfl, n1, rfl⟩
    go_wp2_with fail
    go_ret
    exact ⟨ret_num (by rw [hv.out]), Drawn.more _⟩
end Go.Proofs.YtjpfcdgaepdcdaaGreat
/- slices.Backward over a row that a loop's body may write: as what the loop may rely on. Conditions: as typed (a length that fits a machine). -/
namespace Go.Proofs.YtjpfcdgaepdcdaaGreat
open Go.RowKit Go.Shelf
set_option maxRecDepth 20000
attribute [local go_sem] Oper.semAt_some
/-- The slice reads as m words of which P holds. -/
def RdP (A : Option Addr) (m : Nat) (P : List Nat → Prop) (W : World) : Prop := ∃ l, l.length = m ∧ Words l ∧ P l ∧ Rd .u64 W W.heap.size A l
/-- What a round keeps: the iterator's box, and that the slice reads as words of which P holds. -/
def KpR (p : Nat) (A : Option Addr) (m : Nat) (P : List Nat → Prop) (W W' : World) : Prop := W'.heap[p]? = W.heap[p]? ∧ (RdP A m P W → RdP A m P W')
theorem KpR.t {p m : Nat} {A : Option Addr} {P : List Nat → Prop} {X Y Z : World} (h : KpR p A m P X Y) (k : KpR p A m P Y Z) : KpR p A m P X Z := ⟨k.1.trans h.1, fun r => k.2 (h.2 r)⟩
theorem KpR.b {p m : Nat} {A : Option Addr} {P : List Nat → Prop} {w : World} (hp : p < w.heap.size) (W : World) (l : Nat) (o o' : Obj) (hl : w.heap.size ≤ l) (h : W.heap[l]? = some o) (h1 : o.isCells = false) (_ : o.isWalk = false) : KpR p A m P W (W.putObj l o') := by
  have hg := grownBy_putObj' W l o'
  have hlt := (Array.getElem?_eq_some_iff.1 h).1
  refine ⟨hg.block p (by omega) (by simp; omega), ?_⟩
  rintro ⟨xs, e1, e2, e3, e4⟩
  refine ⟨xs, e1, e2, e3, fun h0 => ?_⟩
  obtain ⟨b, off, e, hb, hc⟩ := e4 h0
  exact ⟨b, off, e, Nat.lt_of_lt_of_le hb hg.size, fun j hj => cell_kept (hc j hj) hg (fun r e => by cases e; exact ⟨o, h, h1⟩)⟩
/-- What has come: the places from the last on, each with a word that stood there. -/
structure Downs {m : Nat} (P : List Nat → Prop) (ys : List (WI m)) : Prop where
  at_ : ∀ k (h : k < ys.length), (ys[k]).1.1 = m - 1 - k
  val : ∀ x ∈ ys, ∃ l, l.length = m ∧ Words l ∧ P l ∧ x.1.2 = nth l x.1.1
theorem Downs.nil {m : Nat} {P : List Nat → Prop} : Downs (m := m) P [] := ⟨fun k h => by simp at h, fun x h => by cases h⟩
theorem Downs.snoc {m : Nat} {P : List Nat → Prop} {ys : List (WI m)} (h : Downs P ys) (x : WI m) (hx : x.1.1 = m - 1 - ys.length) (hv : ∃ l, l.length = m ∧ Words l ∧ P l ∧ x.1.2 = nth l x.1.1) : Downs P (ys ++ [x]) where
  at_ := fun k hk => by
    rw [List.getElem_append]
    split
    · exact h.at_ k _
    · rw [List.length_append, List.length_singleton] at hk
      have : k = ys.length := by omega
      subst this
      simpa using hx
  val := fun y hy => by
    rcases List.mem_append.1 hy with h1 | h1
    · exact h.val y h1
    · simp at h1
      subst h1
      exact hv
theorem Downs.ini {m : Nat} {P : List Nat → Prop} {ys : List (WI m)} {x : WI m} (h : Downs P (ys ++ [x])) : Downs P ys ∧ x.1.1 = m - 1 - ys.length ∧ ∃ l, l.length = m ∧ Words l ∧ P l ∧ x.1.2 = nth l x.1.1 := by
  refine ⟨⟨fun k hk => ?_, fun y hy => h.val y (List.mem_append.2 (.inl hy))⟩, ?_, h.val x (List.mem_append.2 (.inr (by simp)))⟩
  · have := h.at_ k (by simp; omega)
    rwa [List.getElem_append_left hk] at this
  · have := h.at_ ys.length (by simp)
    simpa using this
set_option maxRecDepth 100000 in
set_option maxHeartbeats 2000000 in
theorem backR_in (n : Nat) (hn : 1 ≤ n) (l p m c : Nat) (A : Option Addr) (P : List Nat → Prop) (hm : m ≤ 1000000) (J Jx : List (WI m) → World → Prop) (W : World)
    (hY : ∀ pre x W, J pre W → pre.length < m → YieldAt Fence.wide (n - 1) Tryz.prog l #[.int .i64 (x.1.1 : Int), .int .u64 (x.1.2 : Int)] W fun e W' =>
      (e = .returned (.bool true) ∧ J (pre ++ [x]) W' ∧ KpR p A m P W W') ∨ (e = .returned (.bool false) ∧ Jx (pre ++ [x]) W'))
    (hp : Boxed W p 33 (.slice A m c)) (hra : RdP A m P W) (h0 : J [] W) :
    CallsIn Fence.wide n Tryz.prog 69 #[.func (.yield l) #[] #[], .pointer (some ⟨p, 0, none⟩)] W fun e W' => (∃ v, e = .returned v) ∧
      ((∃ ys, (Downs P ys ∧ ys.length = m) ∧ J ys W') ∨ (∃ pre, True ∧ Jx pre W')) := by
  have hpc := hp.cell
  refine callsIn_of_wp Tryz.func69 rfl trivial ?_ rfl
  simp only [Tryz.ntmps69, List.size_toArray, List.length_cons, List.length_nil, Nat.reduceAdd, Nat.reduceSub, Array.replicate_succ, Array.replicate_zero, List.push_toArray, List.append_toArray, List.nil_append, List.cons_append]
  gi_wp2
  gi_loopw [3] (fun i wr => ∃ (k : Nat) (ys : List (WI m)), k ≤ m ∧ i = .int .i64 ((k : Int) - 1) ∧ ys.length = m - k ∧ Downs P ys ∧ J ys wr ∧ wr.heap[p]? = W.heap[p]? ∧ RdP A m P wr) (fun i _ => (intOf i + 1).toNat)
  case atStart => exact ⟨m, [], Nat.le_refl _, rfl, by simp, Downs.nil, h0, rfl, hra⟩
  case round =>
    obtain ⟨k, ys, hk, rfl, hyl, hds, hJs, hbx, hrd⟩ := hrel
    by_cases hlt : 0 < k
    · obtain ⟨i, rfl⟩ : ∃ i, k = i + 1 := ⟨k - 1, by omega⟩
      have hpc1 : wr.cell? ⟨p, 0, none⟩ = some (.slice A m c) := by
        rw [← hpc]
        exact World.cell?_of_block hbx
      obtain ⟨xs, hx1, hx2, hx3, hx4⟩ := hrd
      have hrd' : RdP A m P wr := ⟨xs, hx1, hx2, hx3, hx4⟩
      obtain ⟨b, off, rfl, hb, hcell⟩ := hx4 (by omega)
      have hx := hcell i (by omega)
      clear hcell
      have hY1 := hY ys ⟨(i, nth xs i), by omega, nth_lt xs hx2 i⟩ wr hJs (by omega)
      have HD := Lib.hid (hds.snoc ⟨(i, nth xs i), by omega, nth_lt xs hx2 i⟩ (by show i = m - 1 - ys.length; omega) ⟨xs, hx1, hx2, hx3, rfl⟩)
      have HL := Lib.hid (show (ys ++ [(⟨(i, nth xs i), by omega, nth_lt xs hx2 i⟩ : WI m)]).length = m - i by rw [List.length_append, List.length_singleton]; omega)
      have HR := Lib.hid hrd'
      have HB := Lib.hid hbx
      dsimp only at hY1
      obtain ⟨fn, tmps, assign, body, hy, hR⟩ := hY1
      clear hpc hrd' hbx hra h0 hx3 hds
      rw [show ((i + 1 : Nat) : Int) - 1 = (i : Int) by omega]
      gi_wp2
      refine hR.mono ?_
      rintro e W3 (⟨rfl, hJ3, hk3⟩ | ⟨rfl, hJx3⟩)
      · gi_wp2
        go_roundw
        case rel => exact ⟨i, _, by omega, rfl, HL.out, HD.out, hJ3, hk3.1.trans HB.out, hk3.2 HR.out⟩
        case measure => simp [intOf] <;> omega
      · gi_wp2
        refine bodyPost_ret (results_none rfl _ _ _) rfl ?_
        exact ⟨⟨_, rfl⟩, .inr ⟨_, trivial, hJx3⟩⟩
    · obtain rfl : k = 0 := by omega
      gi_wp2
      go_end0
      exact ⟨⟨_, rfl⟩, .inl ⟨ys, ⟨hds, by omega⟩, hJs⟩⟩
theorem backR_stops (n : Nat) (hn : 1 ≤ n) (p m c : Nat) (A : Option Addr) (P : List Nat → Prop) (hm : m ≤ 1000000) (w : World) (hp : Boxed w p 33 (.slice A m c)) (hra : RdP A m P w) :
    SeqStopsK Fence.wide n Tryz.prog 69 #[.pointer (some ⟨p, 0, none⟩)] (fun x : WI m => #[Value.int .i64 (x.1.1 : Int), Value.int .u64 (x.1.2 : Int)]) (KpR p A m P)
      (fun ys => Downs P ys ∧ ys.length = m) (fun _ => True) m w := fun l J Jx W hW _ _ hY h0 =>
  backR_in n hn l p m c A P hm J Jx W hY ((hW.block p hp.lt).trans hp) (by
    obtain ⟨xs, e1, e2, e3, e4⟩ := hra
    exact ⟨xs, e1, e2, e3, (e4.below hW).more hW.size⟩) h0
end Go.Proofs.YtjpfcdgaepdcdaaGreat

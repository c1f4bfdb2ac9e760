/- Several texts in one; each begins with a remark that says what it shows and on which conditions. -/
import Derived.Test.YtbgaboboakkimaaKa
import Derived.IntWalk
import Derived.OrdersIn
import Derived.RangeFuncCalls
import Derived.WalkKit
import Derived.Deep.RegionWith
import Derived.Deep.DeepCutAuto
import Derived.RangeFuncBox
import Derived.Laws.EntriesVeiled
import Derived.Laws.Bits128
/- mul's small functions: trimmed, shorterFirst, without, addAt. Conditions: as typed (lengths that fit a machine; what is added lies apart from the row it is added to, and there is room for the sum). -/
namespace Go.Proofs.Ytbgaboboakkimaa
open Go.RowKit
set_option maxRecDepth 20000
theorem cell_lt {w : World} {b o : Nat} {v : Value} (h : w.cell? ⟨b, o, none⟩ = some v) : b < w.heap.size := by
  rcases Nat.lt_or_ge b w.heap.size with h1 | h1
  · exact h1
  · simp [World.cell?, Array.getElem?_eq_none h1] at h
/-- The slice at A reads as the numbers l, in a block other than g. -/
def Rdx (k : IntKind) (w : World) (g : Nat) (A : Option Addr) (l : List Nat) : Prop :=
  0 < l.length → ∃ b off, A = some ⟨b, off, none⟩ ∧ b ≠ g ∧ ∀ j, j < l.length → w.cell? ⟨b, off + j, none⟩ = some (.int k (nth l j : Int))
theorem Rdx.grown {k : IntKind} {w w' : World} {g : Nat} {A : Option Addr} {l : List Nat} (h : Rdx k w g A l) (hg : w.grownBy w' (some g)) : Rdx k w' g A l := fun hl => by
  obtain ⟨b, off, e, hb, hc⟩ := h hl
  refine ⟨b, off, e, hb, fun j hj => ?_⟩
  have h1 := hc j hj
  have hlt : b < w.heap.size := cell_lt h1
  rw [← h1]
  exact World.cell?_of_block (hg.block b hlt (by intro e; exact hb (by injection e with e)))
/-- A row that is owned from above g on lies apart from g. -/
theorem Rdx.own {k : IntKind} {w : World} {base g : Nat} {e : TypeId} {n c : Nat} {A : Option Addr} {l : List Nat} (h : w.ownsRow base e 1 (.slice A n c) n (ints k l)) (hg : g < base) : Rdx k w g A l := fun hl => by
  obtain ⟨b, off, rfl, _, hc⟩ := Rd.own h hl
  exact ⟨b, off, rfl, by have := (h.lt b rfl).1; omega, hc⟩
theorem mtrim_any (A : Option Addr) (c : Nat) (a : List Nat) (w : World) (B : Nat) (hr : Rd .u64 w B A a) (hw : Words a) (hl : a.length ≤ 1000000) (hc : a.length ≤ c) :
    Calls Try.prog 45 #[.slice A a.length c] w fun e w' => e = .returned (.slice A (tl a) c) ∧ w = w' := by
  have Q := Lib.hid (bits_q A c a w B hr hw hl hc)
  have hle := tl_le a hw
  have hb := nbits_natOf a hw
  have ht : ((nbits (natOf a) : Int) + 64 - 1) / 64 = (tl a : Int) := by unfold tl; omega
  have ht2 : ((nbits (natOf a) : Int) + 63) / 64 = (tl a : Int) := by unfold tl; omega
  clear hr
  go_enter Try.func45, Try.ntmps45
  go_wp2_with fail
  refine (Q.out).mono ?_
  rintro e w' ⟨rfl, rfl⟩
  go_wp2_with fail
  go_ret
  exact ⟨rfl, rfl⟩
theorem shorter_yes (A A2 : Option Addr) (n m c c2 : Nat) (w : World) (h : m < n) :
    Calls Try.prog 64 #[.slice A n c, .slice A2 m c2] w fun e w' => e = .returned (.tuple #[.slice A2 m c2, .slice A n c]) ∧ w = w' := by
  go_enter Try.func64, Try.ntmps64
  go_wp2_with fail
  go_ret2
  exact ⟨rfl, rfl⟩
theorem shorter_no (A A2 : Option Addr) (n m c c2 : Nat) (w : World) (h : ¬ m < n) :
    Calls Try.prog 64 #[.slice A n c, .slice A2 m c2] w fun e w' => e = .returned (.tuple #[.slice A n c, .slice A2 m c2]) ∧ w = w' := by
  go_enter Try.func64, Try.ntmps64
  go_wp2_with fail
  go_ret2
  exact ⟨rfl, rfl⟩
/-- What is left of a number behind two others. -/
theorem without_any (A A2 A3 : Option Addr) (n m q c c2 c3 : Nat) (a b d : List Nat) (w : World) (hn : a.length = n) (hm : b.length = m) (hq : d.length = q) (hr : Rd .u64 w w.heap.size A a) (hw : Words a) (hl : a.length ≤ 50000) (hc : a.length ≤ c)
    (hr2 : Rd .u64 w w.heap.size A2 b) (hw2 : Words b) (hl2 : b.length ≤ 50000) (hc2 : b.length ≤ c2) (hr3 : Rd .u64 w w.heap.size A3 d) (hw3 : Words d) (hl3 : d.length ≤ 50000) (hc3 : d.length ≤ c3) (hle : natOf b + natOf d ≤ natOf a) :
    Calls Try.prog 67 #[.slice A n c, .slice A2 m c2, .slice A3 q c3] w (OutNat (natOf a - natOf b - natOf d) w) := by
  subst hn
  subst hm
  subst hq
  have S := natSub_any A A2 c c2 a b w hr hw (by omega) hc hr2 hw2 (by omega) hc2
  have HS := Lib.hid S
  clear S
  go_enter Try.func67, Try.ntmps67
  go_wp2_with fail
  refine (HS.out).mono ?_
  rintro e w1 ⟨hyes, _, hb1⟩
  obtain ⟨v, rfl, hown⟩ := hyes (by omega)
  obtain ⟨X, k, rfl, hk, _⟩ := own_form hown
  have hsz : nbits (natOf a - natOf b) ≤ 64 * a.length := Nat.le_trans (nbits_mono (Nat.sub_le _ _)) (nbits_natOf a hw)
  have hlen := length_wd (natOf a - natOf b)
  have S2 := natSub_any X A3 k c3 (wd (natOf a - natOf b)) d w1 (Rd.own hown) (wd_words _) (by omega) (by omega) ((hr3.below hb1).more hb1.size) hw3 (by omega) hc3
  rw [hlen, natOf_wd] at S2
  have HS2 := Lib.hid S2
  clear S2 hlen
  go_wp2_with fail
  refine (HS2.out).mono ?_
  rintro e w2 ⟨hyes2, _, hb2⟩
  obtain ⟨v2, rfl, hown2⟩ := hyes2 (by omega)
  go_wp2_with fail
  go_ret
  exact ⟨_, rfl, own_base hown2 hb1.size, hb1.trans (hb2.mono hb1.size)⟩
set_option maxHeartbeats 1000000 in
/-- x is added to a row from a place on. -/
theorem addAt_any (base g K p V m c2 : Nat) (L xs : List Nat) (A2 : Option Addr) (w : World) (hown : w.ownsRow base 33 1 (.slice (some ⟨g, 0, none⟩) K K) K (ints .u64 L)) (hS : Sums K K p 0 V L) (hx : Rdx .u64 w g A2 xs) (hwx : Words xs) (hm : xs.length = m)
    (hp : p + m ≤ K) (hK : K ≤ 1000000) (hV : V + 18446744073709551616 ^ p * natOf xs < 18446744073709551616 ^ K) :
    Calls Try.prog 66 #[.slice (some ⟨g, 0, none⟩) K K, .slice A2 m c2, .int .i64 (p : Int)] w fun e w' => e = .returned (.tuple #[]) ∧
      w'.ownsRow base 33 1 (.slice (some ⟨g, 0, none⟩) K K) K (ints .u64 (words K (V + 18446744073709551616 ^ p * natOf xs))) ∧ w.grownBy w' (some g) := by
  subst hm
  have HV := Lib.hid hV
  clear hV
  go_enter Try.func66, Try.ntmps66
  go_wp2_with fail
  go_loopw [12, 6] (fun j cy wr => ∃ (i C : Nat) (L' : List Nat), i ≤ xs.length ∧ j = .int .i64 i ∧ cy = .int .u64 C ∧ C ≤ 1 ∧ Sums K K (p + i) C (V + 18446744073709551616 ^ p * natOf (xs.take i)) L' ∧ wr.ownsRow base 33 1 (.slice (some ⟨g, 0, none⟩) K K) K (ints .u64 L') ∧ w.grownBy wr (some g)) (fun j _ _ => xs.length - (intOf j).toNat)
  case atStart => exact ⟨0, 0, L, Nat.zero_le _, rfl, rfl, by omega, by simpa [natOf] using hS, hown, World.grownBy.refl w _⟩
  case round =>
    obtain ⟨i, C, L', hi, rfl, rfl, hC, hS', hown', hg⟩ := hrel
    by_cases hlt : i < xs.length
    · obtain ⟨b, off, rfl, _, hcell⟩ := hx.grown hg (by omega)
      have hx1 := hcell i hlt
      have hxl := nth_lt xs hwx i
      have hll := hS'.len
      have hLl := nth_lt L' hS'.words (p + i)
      have hco : wr.cell? ⟨g, p + i, none⟩ = some (.int .u64 (nth L' (p + i) : Int)) := by rw [hown'.cellAt _ (by omega), ints_get _ _ _ (by omega)]
      have hfo : wr.frozen? ⟨g, p + i, none⟩ = false := hown'.frozenAt _
      obtain ⟨s, hs⟩ : ∃ s, nth L' (p + i) + nth xs i + C = s := ⟨_, rfl⟩
      have hadd := add64_run (nth L' (p + i)) (nth xs i) C hC
      rw [hs] at hadd
      have hst := hown'.stored (p + i) (.int .u64 ((s % 18446744073709551616 : Nat) : Int))
      rw [ints_set] at hst
      have hSS := hS'.step (by omega) (Nat.le_refl _) (nth xs i) s hs
      have e : V + 18446744073709551616 ^ p * natOf (xs.take i) + 18446744073709551616 ^ (p + i) * nth xs i = V + 18446744073709551616 ^ p * natOf (xs.take (i + 1)) := by rw [natOf_take_succ, Nat.mul_add, Nat.pow_add, Nat.mul_assoc, Nat.add_assoc]
      rw [e] at hSS
      have hc1 : s / 18446744073709551616 ≤ 1 := by omega
      obtain ⟨s0, hs0⟩ : ∃ s0, s % 18446744073709551616 = s0 := ⟨_, rfl⟩
      obtain ⟨s1, hs1⟩ : ∃ s1, s / 18446744073709551616 = s1 := ⟨_, rfl⟩
      rw [hs0] at hadd hst hSS
      rw [hs1] at hadd hSS hc1
      have HO := Lib.hid hst.1
      have HG := Lib.hid (hg.trans (grown_setCell wr ⟨g, p + i, none⟩ (.int .u64 (s0 : Int))))
      have HS := Lib.hid hSS
      clear hst hSS hs hs0 hs1 e hcell hown' hS' hll hown hS hx
      go_wp2_with fail
      go_roundw
      case rel => exact ⟨i + 1, s1, L'.set (p + i) s0, by omega, by go_num, rfl, hc1, HS.out, HO.out, HG.out⟩
      case measure => simp [intOf]; omega
    · obtain rfl : i = xs.length := by omega
      rw [List.take_length] at hS'
      clear hlt hown hS
      obtain ⟨wo, hwo⟩ : ∃ wo : World, wo = wr := ⟨_, rfl⟩
      subst hwo
      go_wp2_with fail
      go_loopw [9, 6] (fun j cy wr => ∃ (i C : Nat) (L' : List Nat), i ≤ K ∧ j = .int .i64 i ∧ cy = .int .u64 C ∧ C ≤ 1 ∧ Sums K K i C (V + 18446744073709551616 ^ p * natOf xs) L' ∧ wr.ownsRow base 33 1 (.slice (some ⟨g, 0, none⟩) K K) K (ints .u64 L') ∧ w.grownBy wr (some g)) (fun j _ _ => K - (intOf j).toNat)
      case atStart => exact ⟨p + xs.length, C, L', hp, by go_num, rfl, hC, hS', hown', hg⟩
      case round =>
        obtain ⟨i, C, L', hi, rfl, rfl, hC, hS', hown', hg⟩ := hrel
        by_cases hc0 : C = 0
        · subst hc0
          have e := hS'.all
          subst e
          have HO := Lib.hid hown'
          clear hown' hS'
          go_wp2_with fail
          go_end0
          exact ⟨rfl, HO.out, hg⟩
        · have hiK := hS'.room HV.out hc0
          have hll := hS'.len
          have hLl := nth_lt L' hS'.words i
          have hco : wr.cell? ⟨g, i, none⟩ = some (.int .u64 (nth L' i : Int)) := by rw [hown'.cellAt _ (by omega), ints_get _ _ _ (by omega)]
          have hfo : wr.frozen? ⟨g, i, none⟩ = false := hown'.frozenAt _
          obtain ⟨s, hs⟩ : ∃ s, nth L' i + 0 + C = s := ⟨_, rfl⟩
          have hadd : ∀ w : World, (callFunc 49 #[.int .u64 (nth L' i : Int), .int .u64 0, .int .u64 C]).run Try.prog w = .ok (.value (.tuple #[.int .u64 ((s % 18446744073709551616 : Nat) : Int), .int .u64 ((s / 18446744073709551616 : Nat) : Int)])) w := by
            rw [← hs]
            exact add64_run (nth L' i) 0 C hC
          have hst := hown'.stored i (.int .u64 ((s % 18446744073709551616 : Nat) : Int))
          rw [ints_set] at hst
          have hSS := hS'.step hiK (Nat.le_refl _) 0 s hs
          rw [Nat.mul_zero, Nat.add_zero] at hSS
          have hc1 : s / 18446744073709551616 ≤ 1 := by omega
          obtain ⟨s0, hs0⟩ : ∃ s0, s % 18446744073709551616 = s0 := ⟨_, rfl⟩
          obtain ⟨s1, hs1⟩ : ∃ s1, s / 18446744073709551616 = s1 := ⟨_, rfl⟩
          rw [hs0] at hadd hst hSS
          rw [hs1] at hadd hSS hc1
          have hne : ((C : Int) != 0) = true := by simp; omega
          have HO := Lib.hid hst.1
          have HG := Lib.hid (hg.trans (grown_setCell wr ⟨g, i, none⟩ (.int .u64 (s0 : Int))))
          have HS := Lib.hid hSS
          clear hst hSS hs hs0 hs1 hown' hS' hll
          go_wp2_with fail
          go_roundw
          case rel => exact ⟨i + 1, s1, L'.set i s0, by omega, by go_num, rfl, hc1, HS.out, HO.out, HG.out⟩
          case measure => simp [intOf]; omega
end Go.Proofs.Ytbgaboboakkimaa
/- Plain facts on quotients guessed by the upper words (Knuth): a guess is not too small, and not much too great. No condition but those typed; no program is named. -/
namespace Go.Proofs.Ytbgaboboakkimaa
/-- What is guessed by upper parts is not too small. -/
theorem guess_ge (u v P : Nat) (hP : 0 < P) (hv : 0 < v / P) : u / v ≤ (u / P) / (v / P) := by
  rw [Nat.le_div_iff_mul_le hv, Nat.le_div_iff_mul_le hP]
  have h1 : v / P * P ≤ v := Nat.div_mul_le_self v P
  have h2 : u / v * v ≤ u := Nat.div_mul_le_self u v
  have h3 : u / v * (v / P) * P = u / v * (v / P * P) := Nat.mul_assoc _ _ _
  have h4 : u / v * (v / P * P) ≤ u / v * v := Nat.mul_le_mul_left _ h1
  omega
/-- A guess that is at most the upper parts' quotient, and below B, is too great by so much at most as makes B not more than the divisor's upper part. -/
theorem guess_le (u v P q B c : Nat) (hP : 0 < P) (hq : q ≤ (u / P) / (v / P)) (hB : q < B) (hv : B ≤ c * (v / P)) (h0 : 0 < v / P) : q * v ≤ u + c * v := by
  have h1 : q * (v / P) ≤ u / P := (Nat.le_div_iff_mul_le h0).1 hq
  have h2 : q * (v / P) * P ≤ u := (Nat.le_div_iff_mul_le hP).1 h1
  have h3 : v < (v / P + 1) * P := by have := Nat.div_add_mod v P; have := Nat.mod_lt v hP; rw [Nat.add_mul, Nat.one_mul, Nat.mul_comm (v / P)]; omega
  have h4 : q * v ≤ q * ((v / P + 1) * P) := Nat.mul_le_mul_left _ (Nat.le_of_lt h3)
  have h5 : q * ((v / P + 1) * P) = q * (v / P) * P + q * P := by rw [Nat.add_mul, Nat.one_mul, Nat.mul_add, Nat.mul_assoc]
  have h6 : q * P ≤ c * (v / P) * P := Nat.mul_le_mul_right _ (by omega)
  have h7 : c * (v / P) * P ≤ c * v := by rw [Nat.mul_assoc]; exact Nat.mul_le_mul_left _ (Nat.div_mul_le_self v P)
  omega
/-- So it is put right in so many steps. -/
theorem guess_steps (u v q c : Nat) (h0 : 0 < v) (h : q * v ≤ u + c * v) : q ≤ u / v + c := by
  rcases Nat.lt_or_ge (u / v + c) q with h1 | h1
  · exfalso
    have h2 : (u / v + c + 1) * v ≤ q * v := Nat.mul_le_mul_right _ h1
    have h3 : u < (u / v + 1) * v := by have := Nat.div_add_mod u v; have := Nat.mod_lt u h0; rw [Nat.add_mul, Nat.one_mul, Nat.mul_comm (u / v)]; omega
    have h4 : (u / v + c + 1) * v = (u / v + 1) * v + c * v := by rw [← Nat.add_mul]; congr 1; omega
    omega
  · exact h1
/-- A place more: what is left so far, and the next word. -/
theorem place_step (r v B x : Nat) (h0 : 0 < v) (hr : r < v) (hx : x < B) : (r * B + x) / v < B ∧ (r * B + x) % v < v := by
  refine ⟨?_, Nat.mod_lt _ h0⟩
  rw [Nat.div_lt_iff_lt_mul h0]
  have h1 : (r + 1) * B ≤ v * B := Nat.mul_le_mul_right _ hr
  rw [Nat.add_mul, Nat.one_mul] at h1
  rw [Nat.mul_comm B v]
  omega
/-- Long division, a place at a time: what was found, and what comes. -/
theorem long_div (a v B x : Nat) (h0 : 0 < v) : (a * B + x) / v = a / v * B + (a % v * B + x) / v ∧ (a * B + x) % v = (a % v * B + x) % v := by
  have h1 := Nat.div_add_mod a v
  have e : a * B + x = v * (a / v * B) + (a % v * B + x) := by
    have : a * B = (v * (a / v) + a % v) * B := by rw [h1]
    rw [this, Nat.add_mul, Nat.mul_assoc]
    omega
  constructor
  · rw [e, Nat.mul_add_div h0]
  · rw [e, Nat.mul_add_mod]
end Go.Proofs.Ytbgaboboakkimaa
/- Plain facts on long division: bits.Div64's two half words; a place that is guessed, taken away and given back. No condition but those typed; no program is named. -/
namespace Go.Proofs.Ytbgaboboakkimaa
set_option maxRecDepth 20000
/-- A half word's place of a quotient, guessed as q, with r left of the upper words: never too small. -/
structure Dig (u x y1 y0 q r : Nat) : Prop where
  eq : q * y1 + r = u
  low : r < 4294967296
  ge : (u * 4294967296 + x) / (y1 * 4294967296 + y0) ≤ q
  le : q ≤ 4294967297
theorem Dig.start {u x y1 y0 : Nat} (h1 : 2147483648 ≤ y1) (h2 : y1 < 4294967296) (h0 : y0 < 4294967296) (hx : x < 4294967296) (hu : u < y1 * 4294967296 + y0) : Dig u x y1 y0 (u / y1) (u % y1) where
  eq := by have := Nat.div_add_mod u y1; rw [Nat.mul_comm] at this; exact this
  low := by have := Nat.mod_lt u (show 0 < y1 by omega); omega
  ge := by
    have e1 : (u * 4294967296 + x) / 4294967296 = u := by omega
    have e2 : (y1 * 4294967296 + y0) / 4294967296 = y1 := by clear hu h1 h2 e1; omega
    have := guess_ge (u * 4294967296 + x) (y1 * 4294967296 + y0) 4294967296 (by omega) (by omega)
    rwa [e1, e2] at this
  le := by
    have : u / y1 < 4294967298 := by rw [Nat.div_lt_iff_lt_mul (by omega)]; omega
    omega
theorem Dig.lt {u x y1 y0 q r : Nat} (h1 : 2147483648 ≤ y1) (hx : x < 4294967296) (hu : u < y1 * 4294967296 + y0) (h : Dig u x y1 y0 q r) (hc : 4294967296 ≤ q ∨ 4294967296 * r + x < q * y0) : (u * 4294967296 + x) / (y1 * 4294967296 + y0) < q := by
  have _ := h1
  rw [Nat.div_lt_iff_lt_mul (by omega)]
  rcases hc with hc | hc
  · have : 4294967296 * (y1 * 4294967296 + y0) ≤ q * (y1 * 4294967296 + y0) := Nat.mul_le_mul_right _ hc
    omega
  · have e := h.eq
    rw [Nat.mul_add, ← Nat.mul_assoc]
    omega
/-- It is put right by one. -/
theorem Dig.step {u x y1 y0 q r : Nat} (h1 : 2147483648 ≤ y1) (hx : x < 4294967296) (hu : u < y1 * 4294967296 + y0) (h : Dig u x y1 y0 q r) (hc : 4294967296 ≤ q ∨ 4294967296 * r + x < q * y0) (hr : r + y1 < 4294967296) : 0 < q ∧ Dig u x y1 y0 (q - 1) (r + y1) := by
  have h2 := h.lt h1 hx hu hc
  have hq := Nat.lt_of_le_of_lt (Nat.zero_le _) h2
  refine ⟨hq, ?_, hr, Nat.le_sub_one_of_lt h2, by have := h.le; omega⟩
  have e := h.eq
  obtain ⟨p, rfl⟩ : ∃ p, q = p + 1 := ⟨q - 1, by omega⟩
  rw [Nat.add_mul, Nat.one_mul] at e
  rw [Nat.add_sub_cancel]
  omega
/-- It is right where the upper words leave too much for one more. -/
theorem Dig.out {u x y1 y0 q r : Nat} (h1 : 2147483648 ≤ y1) (h0 : y0 < 4294967296) (hx : x < 4294967296) (hu : u < y1 * 4294967296 + y0) (h : Dig u x y1 y0 q r) (hc : 4294967296 ≤ q ∨ 4294967296 * r + x < q * y0) (hr : ¬ r + y1 < 4294967296) : q - 1 = (u * 4294967296 + x) / (y1 * 4294967296 + y0) ∧ 0 < q := by
  have h2 := h.lt h1 hx hu hc
  have hq := Nat.lt_of_le_of_lt (Nat.zero_le _) h2
  obtain ⟨p, rfl⟩ : ∃ p, q = p + 1 := ⟨q - 1, by omega⟩
  refine ⟨Nat.le_antisymm ?_ (Nat.le_sub_one_of_lt h2), hq⟩
  rw [Nat.add_sub_cancel, Nat.le_div_iff_mul_le (by omega), Nat.mul_add, ← Nat.mul_assoc]
  have e := h.eq
  have hl := h.le
  rw [Nat.add_mul, Nat.one_mul] at e
  have h3 : p * y0 ≤ 4294967296 * y0 := Nat.mul_le_mul_right _ (by omega)
  omega
/-- It is right where nothing says otherwise. -/
theorem Dig.done {u x y1 y0 q r : Nat} (h1 : 2147483648 ≤ y1) (h : Dig u x y1 y0 q r) (hc : ¬ 4294967296 ≤ q) (hc2 : ¬ 4294967296 * r + x < q * y0) : q = (u * 4294967296 + x) / (y1 * 4294967296 + y0) := by
  have _ := hc
  refine Nat.le_antisymm ?_ h.ge
  rw [Nat.le_div_iff_mul_le (by omega), Nat.mul_add, ← Nat.mul_assoc]
  have e := h.eq
  omega
/-- What is left behind a place, as words that go round tell it. -/
theorem left_of (u x y q : Nat) (hq : q = (u * 4294967296 + x) / y) (_hy : 0 < y) : q * y ≤ u * 4294967296 + x ∧ u * 4294967296 + x - q * y = (u * 4294967296 + x) % y := by
  subst hq
  have := Nat.div_add_mod (u * 4294967296 + x) y
  rw [Nat.mul_comm] at this
  omega
/-- Two half words' places are one word's. -/
theorem two_digs (u x1 x0 y q1 q0 r1 : Nat) (hy : 0 < y) (hu : u < y) (h1 : x1 < 4294967296) (h0 : x0 < 4294967296) (hq1 : q1 = (u * 4294967296 + x1) / y) (hr1 : r1 = (u * 4294967296 + x1) % y) (hq0 : q0 = (r1 * 4294967296 + x0) / y) :
    q1 < 4294967296 ∧ q0 < 4294967296 ∧ q0 + q1 * 4294967296 = (u * 18446744073709551616 + (x1 * 4294967296 + x0)) / y ∧ (r1 * 4294967296 + x0) % y = (u * 18446744073709551616 + (x1 * 4294967296 + x0)) % y := by
  have e : u * 18446744073709551616 + (x1 * 4294967296 + x0) = y * (q1 * 4294967296) + (r1 * 4294967296 + x0) := by
    have := Nat.div_add_mod (u * 4294967296 + x1) y
    rw [← hq1, ← hr1] at this
    have h : (y * q1 + r1) * 4294967296 = (u * 4294967296 + x1) * 4294967296 := by rw [this]
    rw [Nat.add_mul, Nat.mul_assoc] at h
    omega
  have hr : r1 < y := by rw [hr1]; exact Nat.mod_lt _ hy
  refine ⟨?_, ?_, ?_, ?_⟩
  · rw [hq1, Nat.div_lt_iff_lt_mul hy]; omega
  · rw [hq0, Nat.div_lt_iff_lt_mul hy]; omega
  · rw [e, Nat.mul_add_div hy, ← hq0]; omega
  · rw [e, Nat.mul_add_mod]
/-- A number of two words, shifted so that the divisor's highest bit is set. -/
theorem norm_words (hi lo y s : Nat) (hs : s < 64) (hy : hi < y) (hyB : y * 2 ^ s < 18446744073709551616) (hlo : lo < 18446744073709551616) :
    ∃ u, (hi * 2 ^ s % 18446744073709551616) ||| (lo / 2 ^ (64 - s)) = u ∧ u < y * 2 ^ s ∧ u * 18446744073709551616 + lo * 2 ^ s % 18446744073709551616 = (hi * 18446744073709551616 + lo) * 2 ^ s := by
  have eB : (18446744073709551616 : Nat) = 2 ^ (64 - s) * 2 ^ s := by rw [← Nat.pow_add, show 64 - s + s = 64 by omega]
  have hp : 0 < 2 ^ s := Nat.pow_pos (by omega)
  have ht : lo / 2 ^ (64 - s) < 2 ^ s := by
    rw [Nat.div_lt_iff_lt_mul (Nat.pow_pos (by omega)), Nat.mul_comm, ← eB]
    exact hlo
  have hd : lo * 2 ^ s / 18446744073709551616 = lo / 2 ^ (64 - s) := by rw [eB, Nat.mul_div_mul_right _ _ hp]
  have hm := Nat.div_add_mod (lo * 2 ^ s) 18446744073709551616
  rw [hd] at hm
  have h1 : (hi + 1) * 2 ^ s ≤ y * 2 ^ s := Nat.mul_le_mul_right _ hy
  rw [Nat.add_mul, Nat.one_mul] at h1
  have hlt : hi * 2 ^ s + lo / 2 ^ (64 - s) < y * 2 ^ s := by omega
  refine ⟨hi * 2 ^ s + lo / 2 ^ (64 - s), ?_, hlt, ?_⟩
  · rw [or_low _ _ s hs ht, Nat.mod_eq_of_lt (by omega)]
  · clear eB
    have e : hi * 18446744073709551616 * 2 ^ s = hi * 2 ^ s * 18446744073709551616 := by rw [Nat.mul_assoc, Nat.mul_comm 18446744073709551616, ← Nat.mul_assoc]
    rw [Nat.add_mul, Nat.add_mul, e]
    omega
theorem norm_back (N y s : Nat) : N * 2 ^ s / (y * 2 ^ s) = N / y ∧ N * 2 ^ s % (y * 2 ^ s) / 2 ^ s = N % y := by
  have hp : 0 < 2 ^ s := Nat.pow_pos (by omega)
  refine ⟨Nat.mul_div_mul_right _ _ hp, ?_⟩
  rw [Nat.mul_mod_mul_right, Nat.mul_div_cancel _ hp]
/-- Noughts from place k on: below so many words. -/
theorem natOf_far (l : List Nat) (h : Words l) (k : Nat) (hz : ∀ j, k ≤ j → nth l j = 0) : natOf l < 18446744073709551616 ^ k := by
  have e : natOf l = natOf (l.take k) := natOf_ext _ _ fun j => by
    by_cases hj : j < k
    · simp [nth, hj]
    · rw [hz j (by omega)]
      simp [nth, List.getElem?_take, hj]
  rw [e]
  exact natOf_take_lt l h k
theorem far_of (l : List Nat) (h : Words l) (k : Nat) (hl : natOf l < 18446744073709551616 ^ k) (j : Nat) (hj : k ≤ j) : nth l j = 0 := by
  rw [nth_natOf l h, Nat.div_eq_of_lt (Nat.lt_of_lt_of_le hl (Nat.pow_le_pow_right (by omega) hj))]
/-- A row from whose places p on x times a number is taken, i words of it so far: o is owed. -/
structure Takes (K p x V i o : Nat) (T : Nat) (L0 L : List Nat) : Prop where
  len : L.length = K
  words : Words L
  val : natOf L + 18446744073709551616 ^ p * (x * V) = T + 18446744073709551616 ^ (p + i) * o
  same : ∀ j, p + i ≤ j → nth L j = nth L0 j
theorem Takes.step {K p x V i o T y : Nat} {L0 L : List Nat} (h : Takes K p x V i o T L0 L) (hp : p + i < K) (s c o2 : Nat) (hs : s < 18446744073709551616) (he : s + x * y + o = nth L (p + i) + 18446744073709551616 * o2) (hc : c = V + 18446744073709551616 ^ i * y) :
    Takes K p x c (i + 1) o2 T L0 (L.set (p + i) s) where
  len := by rw [List.length_set, h.len]
  words := words_put _ h.words _ _ hs
  val := by
    have h1 := natOf_put L (p + i) s (by rw [h.len]; exact hp)
    have h2 := h.val
    have h3 : 18446744073709551616 ^ p * (x * (18446744073709551616 ^ i * y)) = 18446744073709551616 ^ (p + i) * (x * y) := by rw [Nat.pow_add, Nat.mul_left_comm x, Nat.mul_assoc]
    have h4 : 18446744073709551616 ^ (p + (i + 1)) * o2 = 18446744073709551616 ^ (p + i) * (18446744073709551616 * o2) := by rw [← Nat.add_assoc, Nat.pow_succ, Nat.mul_assoc]
    have h5 : 18446744073709551616 ^ (p + i) * (s + x * y + o) = 18446744073709551616 ^ (p + i) * (nth L (p + i) + 18446744073709551616 * o2) := by rw [he]
    rw [Nat.mul_add, Nat.mul_add, Nat.mul_add] at h5
    rw [hc, Nat.mul_add, Nat.mul_add, h3, h4]
    omega
  same := fun j hj => by
    rw [nth_set _ _ _ _ (by rw [h.len]; omega), if_neg (by omega)]
    exact h.same j (by omega)
theorem Takes.start (K p x : Nat) (L : List Nat) (hl : L.length = K) (hw : Words L) : Takes K p x 0 0 0 (natOf L) L L :=
  ⟨hl, hw, by simp, fun _ _ => rfl⟩
/-- Words that take away: a product's, and what was owed. -/
theorem take_step (x y v r b : Nat) (hx : x < 18446744073709551616) (hy : y < 18446744073709551616) (hv : v < 18446744073709551616) (hr : r < 18446744073709551616) (hb : b ≤ 1) :
    x * y / 18446744073709551616 + (x * y % 18446744073709551616 + v) / 18446744073709551616 < 18446744073709551616 ∧
    (r + 18446744073709551616 - (x * y % 18446744073709551616 + v) % 18446744073709551616 - b) % 18446744073709551616 + x * y + (v + b) =
      r + 18446744073709551616 * (x * y / 18446744073709551616 + (x * y % 18446744073709551616 + v) / 18446744073709551616 + (if r < (x * y % 18446744073709551616 + v) % 18446744073709551616 + b then 1 else 0)) := by
  have h : x * y ≤ 18446744073709551615 * 18446744073709551615 := Nat.mul_le_mul (by omega) (by omega)
  generalize x * y = P at *
  split <;> omega
theorem last_step (v r b : Nat) (hv : v < 18446744073709551616) (hr : r < 18446744073709551616) (hb : b ≤ 1) :
    (r + 18446744073709551616 - v - b) % 18446744073709551616 + (v + b) = r + 18446744073709551616 * (if r < v + b then 1 else 0) := by
  split <;> omega
/-- A row to whose places from p on a number is added, i words of it so far: c is carried. -/
structure Gives (K p V i c : Nat) (T : Nat) (L0 L : List Nat) : Prop where
  len : L.length = K
  words : Words L
  val : natOf L + 18446744073709551616 ^ (p + i) * c = T + 18446744073709551616 ^ p * V
  same : ∀ j, p + i ≤ j → nth L j = nth L0 j
theorem Gives.step {K p V i c T y : Nat} {L0 L : List Nat} (h : Gives K p V i c T L0 L) (hp : p + i < K) (s d : Nat) (hs : nth L (p + i) + y + c = s) (hd : d = V + 18446744073709551616 ^ i * y) :
    Gives K p d (i + 1) (s / 18446744073709551616) T L0 (L.set (p + i) (s % 18446744073709551616)) where
  len := by rw [List.length_set, h.len]
  words := words_put _ h.words _ _ (Nat.mod_lt _ (by omega))
  val := by
    have h1 := natOf_put L (p + i) (s % 18446744073709551616) (by rw [h.len]; exact hp)
    have h2 := h.val
    have h3 : 18446744073709551616 ^ p * (18446744073709551616 ^ i * y) = 18446744073709551616 ^ (p + i) * y := by rw [Nat.pow_add, Nat.mul_assoc]
    have h4 : 18446744073709551616 ^ (p + (i + 1)) * (s / 18446744073709551616) = 18446744073709551616 ^ (p + i) * (18446744073709551616 * (s / 18446744073709551616)) := by rw [← Nat.add_assoc, Nat.pow_succ, Nat.mul_assoc]
    have h5 : 18446744073709551616 ^ (p + i) * (18446744073709551616 * (s / 18446744073709551616)) + 18446744073709551616 ^ (p + i) * (s % 18446744073709551616) = 18446744073709551616 ^ (p + i) * s := by rw [← Nat.mul_add, Nat.div_add_mod]
    have h6 : 18446744073709551616 ^ (p + i) * s = 18446744073709551616 ^ (p + i) * nth L (p + i) + 18446744073709551616 ^ (p + i) * y + 18446744073709551616 ^ (p + i) * c := by rw [← hs, Nat.mul_add, Nat.mul_add]
    rw [hd, Nat.mul_add, h3, h4]
    omega
  same := fun j hj => by
    rw [nth_set _ _ _ _ (by rw [h.len]; omega), if_neg (by omega)]
    exact h.same j (by omega)
theorem Gives.start (K p : Nat) (L : List Nat) (hl : L.length = K) (hw : Words L) : Gives K p 0 0 0 (natOf L) L L :=
  ⟨hl, hw, by simp, fun _ _ => rfl⟩
/-- At place p: x times is taken of T, and o is owed (0 or 1). D is the divisor at that place; E the first place's worth behind it. -/
structure Place (K k D E T x o : Nat) (L : List Nat) : Prop where
  len : L.length = K
  words : Words L
  val : natOf L + x * D = T + E * o
  far : ∀ j, k ≤ j → nth L j = 0
  one : o ≤ 1
  ge : T / D ≤ x
theorem Place.more {K k D T x o : Nat} {L : List Nat} (h : Place K k D (18446744073709551616 ^ k) T x o L) (hD : 0 < D) (ho : o ≠ 0) : T / D < x := by
  have h1 := natOf_far L h.words k h.far
  have h2 := h.val
  obtain rfl : o = 1 := by have := h.one; omega
  rw [Nat.div_lt_iff_lt_mul hD]
  omega
theorem Place.done {K k D E T x : Nat} {L : List Nat} (h : Place K k D E T x 0 L) (hD : 0 < D) : x = T / D ∧ natOf L = T % D := by
  have h2 := h.val
  rw [Nat.mul_zero, Nat.add_zero] at h2
  have h3 : x ≤ T / D := by rw [Nat.le_div_iff_mul_le hD]; omega
  have h4 : x = T / D := Nat.le_antisymm h3 h.ge
  refine ⟨h4, ?_⟩
  have h5 := Nat.div_add_mod T D
  rw [← h4, Nat.mul_comm] at h5
  omega
/-- By one less. -/
theorem Place.back {K k D T x o c : Nat} {L L' : List Nat} (h : Place K k D (18446744073709551616 ^ k) T x o L) (hD : 0 < D) (ho : o ≠ 0) (h1 : L'.length = K) (h2 : Words L') (h3 : natOf L' + 18446744073709551616 ^ k * c = natOf L + D) (h4 : ∀ j, k ≤ j → nth L' j = nth L j) (hc : c ≤ 1) :
    0 < x ∧ Place K k D (18446744073709551616 ^ k) T (x - 1) (o - c) L' := by
  have hm := h.more hD ho
  have hx := Nat.lt_of_le_of_lt (Nat.zero_le _) hm
  refine ⟨hx, h1, h2, ?_, fun j hj => by rw [h4 j hj, h.far j hj], by have := h.one; omega, Nat.le_sub_one_of_lt hm⟩
  obtain rfl : o = 1 := by have := h.one; omega
  obtain ⟨z, rfl⟩ : ∃ z, x = z + 1 := ⟨x - 1, by omega⟩
  have h5 := h.val
  rw [Nat.add_mul, Nat.one_mul] at h5
  rw [Nat.add_sub_cancel]
  rcases (show c = 0 ∨ c = 1 by omega) with rfl | rfl
  · simp only [Nat.mul_zero, Nat.add_zero, Nat.sub_zero, Nat.mul_one] at *
    omega
  · simp only [Nat.mul_zero, Nat.add_zero, Nat.sub_self, Nat.mul_one] at *
    omega
/-- A guess by two words and one: not too small, and too great by two at most. -/
theorem guess_two (T V p n g : Nat) (L by_ : List Nat) (hL : Words L) (hT : natOf L = T) (hb : Words by_) (hV : natOf by_ = V) (hn : by_.length = n + 1) (htop : 9223372036854775808 ≤ nth by_ n) (hlt : T < 18446744073709551616 ^ (p + 1) * V)
    (hg : (nth by_ n ≤ nth L (p + n + 1) ∧ g = 18446744073709551615) ∨ (nth L (p + n + 1) < nth by_ n ∧ g = (nth L (p + n + 1) * 18446744073709551616 + nth L (p + n)) / nth by_ n)) :
    g < 18446744073709551616 ∧ T / (18446744073709551616 ^ p * V) ≤ g ∧ g ≤ T / (18446744073709551616 ^ p * V) + 2 := by
  have hP : 0 < 18446744073709551616 ^ (p + n) := Nat.pow_pos (by omega)
  have hB := natOf_lt by_ hb
  rw [hV, hn] at hB
  have e1 : 18446744073709551616 ^ p * V / 18446744073709551616 ^ (p + n) = nth by_ n := by
    rw [Nat.pow_add, Nat.mul_div_mul_left _ _ (Nat.pow_pos (by omega)), nth_natOf by_ hb, hV, Nat.mod_eq_of_lt]
    rw [Nat.div_lt_iff_lt_mul (Nat.pow_pos (by omega)), Nat.mul_comm, ← Nat.pow_succ]
    exact hB
  have hT2 : T < 18446744073709551616 ^ (p + n) * (18446744073709551616 * 18446744073709551616) := by
    refine Nat.lt_trans hlt ?_
    have : 18446744073709551616 ^ (p + 1) * V < 18446744073709551616 ^ (p + 1) * 18446744073709551616 ^ (n + 1) := Nat.mul_lt_mul_of_pos_left hB (Nat.pow_pos (by omega))
    have e : (18446744073709551616 : Nat) ^ (p + 1) * 18446744073709551616 ^ (n + 1) = 18446744073709551616 ^ (p + n) * (18446744073709551616 * 18446744073709551616) := by
      rw [← Nat.pow_add, show p + 1 + (n + 1) = p + n + 1 + 1 by omega, Nat.pow_succ, Nat.pow_succ, Nat.mul_assoc]
    rwa [e] at this
  have e2 : T / 18446744073709551616 ^ (p + n) = nth L (p + n + 1) * 18446744073709551616 + nth L (p + n) := by
    rw [nth_natOf L hL, nth_natOf L hL, hT, Nat.pow_succ, ← Nat.div_div_eq_div_mul]
    have h1 : T / 18446744073709551616 ^ (p + n) < 18446744073709551616 * 18446744073709551616 := by
      rw [Nat.div_lt_iff_lt_mul hP, Nat.mul_comm]
      exact hT2
    generalize T / 18446744073709551616 ^ (p + n) = u at *
    omega
  have hD : 0 < 18446744073709551616 ^ p * V := by
    rcases Nat.eq_zero_or_pos (18446744073709551616 ^ p * V) with h | h
    · rw [h, Nat.zero_div] at e1; omega
    · exact h
  have hge := guess_ge T (18446744073709551616 ^ p * V) (18446744073709551616 ^ (p + n)) hP (by rw [e1]; omega)
  have hq : T / (18446744073709551616 ^ p * V) < 18446744073709551616 := by
    rw [Nat.div_lt_iff_lt_mul hD, ← Nat.mul_assoc, Nat.mul_comm 18446744073709551616, ← Nat.pow_succ]
    exact hlt
  have hle : ∀ g, g ≤ (T / 18446744073709551616 ^ (p + n)) / (18446744073709551616 ^ p * V / 18446744073709551616 ^ (p + n)) → g < 18446744073709551616 → g ≤ T / (18446744073709551616 ^ p * V) + 2 := fun g h1 h2 =>
    guess_steps _ _ _ _ hD (guess_le T (18446744073709551616 ^ p * V) (18446744073709551616 ^ (p + n)) g 18446744073709551616 2 hP h1 h2 (by rw [e1]; omega) (by rw [e1]; omega))
  rw [e1, e2] at hge hle
  rcases hg with ⟨h1, rfl⟩ | ⟨h1, rfl⟩
  · refine ⟨by omega, by omega, hle _ ?_ (by omega)⟩
    rw [Nat.le_div_iff_mul_le (by omega)]
    have : 18446744073709551615 * nth by_ n ≤ 18446744073709551615 * nth L (p + n + 1) := Nat.mul_le_mul_left _ h1
    omega
  · have h2 : (nth L (p + n + 1) * 18446744073709551616 + nth L (p + n)) / nth by_ n < 18446744073709551616 := by
      rw [Nat.div_lt_iff_lt_mul (by omega)]
      have h3 : nth L (p + n) < 18446744073709551616 := by rw [nth_natOf L hL]; exact Nat.mod_lt _ (by omega)
      have h4 : 18446744073709551616 * (nth L (p + n + 1) + 1) ≤ 18446744073709551616 * nth by_ n := Nat.mul_le_mul_left _ h1
      omega
    exact ⟨h2, hge, hle _ (Nat.le_refl _) h2⟩
end Go.Proofs.Ytbgaboboakkimaa
/- bits.Div64: two words by one, as Go's own text has it. Conditions: as typed (the upper word is below the divisor). -/
namespace Go.Proofs.Ytbgaboboakkimaa
open Go.RowKit
set_option maxRecDepth 100000
/-- How far a word is shifted so that its highest bit is set. -/
theorem norm_shift (y : Nat) (h0 : 0 < y) (hy : y < 18446744073709551616) : ∃ s : Nat, s < 64 ∧ (64 : Int) - (Lib.bitLen y : Int) = (s : Int) ∧ 9223372036854775808 ≤ y * 2 ^ s ∧ y * 2 ^ s < 18446744073709551616 := by
  obtain ⟨b1, b2, b3⟩ := Lib.bitLenAux_bounds 64 y hy (by omega)
  have hb := bitLen_le64 y hy
  have e : Lib.bitLen y = Lib.bitLenAux 64 y := rfl
  rw [e] at hb ⊢
  generalize Lib.bitLenAux 64 y = bl at *
  refine ⟨64 - bl, by omega, by omega, ?_, ?_⟩
  · have h1 : 2 ^ (bl - 1) * 2 ^ (64 - bl) ≤ y * 2 ^ (64 - bl) := Nat.mul_le_mul_right _ b2
    rwa [← Nat.pow_add, show bl - 1 + (64 - bl) = 63 by omega] at h1
  · have h1 : y * 2 ^ (64 - bl) < 2 ^ bl * 2 ^ (64 - bl) := Nat.mul_lt_mul_of_pos_right b3 (Nat.pow_pos (by omega))
    rwa [← Nat.pow_add, show bl + (64 - bl) = 64 by omega] at h1
theorem and_low (x : Nat) (hx : x < 18446744073709551616) : bits .and .u64 (x : Int) 4294967295 = ((x % 4294967296 : Nat) : Int) := by
  have h := u64_and_nat x 4294967295 hx (by omega)
  have e : x &&& 4294967295 = x % 4294967296 := Nat.and_two_pow_sub_one_eq_mod x 32
  rw [e] at h
  exact h
theorem wrap_of (x y : Nat) (h : x % 18446744073709551616 = y) : IntKind.u64.wrap (x : Int) = (y : Int) := by rw [wrap_u64]; omega
theorem ret_two {k : IntKind} {a b c d : Int} (h : a = c) (h2 : b = d) : Ending.returned (.tuple #[.int k a, .int k b]) = .returned (.tuple #[.int k c, .int k d]) := by rw [h, h2]
theorem left_wrap (u x Q Y U : Nat) (h : Q * Y ≤ u * 4294967296 + x) (hU : u * 4294967296 + x - Q * Y = U) (hb : U < 18446744073709551616) :
    IntKind.u64.wrap (IntKind.u64.wrap (IntKind.u64.wrap ((u : Int) * 4294967296) + (x : Int)) - IntKind.u64.wrap ((Q : Int) * (Y : Int))) = (U : Int) := by
  simp only [wrap_u64]
  obtain ⟨P, hP⟩ : ∃ P, Q * Y = P := ⟨_, rfl⟩
  have eP : (Q : Int) * (Y : Int) = (P : Int) := by rw [← hP]; simp
  rw [hP] at h hU
  rw [eP]
  omega
/-- A half word's place is guessed: what the walk meets. -/
theorem dig_start (u x y1 y0 Y : Nat) (hY : Y = y1 * 4294967296 + y0) (h1 : 2147483648 ≤ y1) (h2 : y1 < 4294967296) (h0 : y0 < 4294967296) (hx : x < 4294967296) (hu : u < Y) :
    ∃ q r p : Nat, (u : Int) / (y1 : Int) = (q : Int) ∧ q < 18446744073709551616 ∧ (q : Int) * (y1 : Int) = (p : Int) ∧ p < 18446744073709551616 ∧ (u : Int) - (p : Int) = (r : Int) ∧ r < 4294967296 ∧ Hid (Dig u x y1 y0 q r) := by
  subst hY
  have D := Dig.start h1 h2 h0 hx hu
  have e := D.eq
  have hl := D.le
  refine ⟨u / y1, u % y1, u / y1 * y1, by simp, by omega, by simp, by clear hl D h1; omega, ?_, D.low, Lib.hid D⟩
  clear hl D h1
  omega
/-- What the test comes to. -/
theorem dig_round {u x y1 y0 q r : Nat} (h0 : y0 < 4294967296) (h2 : y1 < 4294967296) (hx : x < 4294967296) (h : Dig u x y1 y0 q r) :
    ∃ P : Nat, (q : Int) * (y0 : Int) = (P : Int) ∧ Hid (q * y0 = P) ∧ q < 4294967298 ∧ r < 4294967296 ∧ (q < 4294967296 → P < 18446744073709551616) ∧
      IntKind.u64.wrap (4294967296 * (r : Int)) = 4294967296 * (r : Int) ∧ IntKind.u64.wrap (4294967296 * (r : Int) + (x : Int)) = 4294967296 * (r : Int) + (x : Int) ∧ IntKind.u64.wrap ((r : Int) + (y1 : Int)) = (r : Int) + (y1 : Int) := by
  have hr := h.low
  have hq := h.le
  refine ⟨q * y0, by simp, Lib.hid rfl, by omega, hr, fun h => ?_, IntWalk.u64_in _ (by clear hq; omega), IntWalk.u64_in _ (by clear hq; omega), IntWalk.u64_in _ (by clear hq; omega)⟩
  have : q * y0 ≤ 4294967296 * 4294967295 := Nat.mul_le_mul (by omega) (by omega)
  omega
set_option maxHeartbeats 4000000 in
theorem div64_any (h l y : Nat) (w : World) (hh : h < y) (hy : y < 18446744073709551616) (hl : l < 18446744073709551616) :
    Calls Try.prog 73 #[.int .u64 h, .int .u64 l, .int .u64 y] w fun e w' => e = .returned (.tuple #[.int .u64 ((h * 18446744073709551616 + l) / y : Nat), .int .u64 ((h * 18446744073709551616 + l) % y : Nat)]) ∧ Drawn w w' := by
  have hn1 : ((y : Int) == 0) = false := by simp; omega
  have hn2 : ¬ (y : Int) ≤ (h : Int) := by omega
  rcases Nat.eq_zero_or_pos h with rfl | h0
  · have hw : IntKind.u64.wrap ((l : Int) / (y : Int)) = (l : Int) / (y : Int) := by
      have := wrap_of (l / y) (l / y) (Nat.mod_eq_of_lt (Nat.lt_of_le_of_lt (Nat.div_le_self _ _) hl))
      simpa using this
    go_enter Try.func73, Try.ntmps73
    go_wp2_with fail
    go_quiet (fail)
    go_wp2_with fail
    go_ret2
    exact ⟨by simp, (Drawn.more _)⟩
  · have hn3 : ((h : Int) == 0) = false := by simp; omega
    obtain ⟨s, hs, hsz, hs1, hs2⟩ := norm_shift y (by omega) hy
    have LZ := Try.bits_LeadingZeros64 y w (by omega) (by omega)
    rw [Int.toNat_natCast, hsz] at LZ
    have HLZ := Lib.hid LZ
    clear LZ hsz
    obtain ⟨u, hu, huy, huv⟩ := norm_words h l y s hs hh hs2 hl
    have HB := Lib.hid (norm_back (h * 18446744073709551616 + l) y s)
    obtain ⟨Y, hY⟩ : ∃ Y, y * 2 ^ s = Y := ⟨_, rfl⟩
    obtain ⟨v, hv⟩ : ∃ v, l * 2 ^ s % 18446744073709551616 = v := ⟨_, rfl⟩
    have hvl : v < 18446744073709551616 := by rw [← hv]; exact Nat.mod_lt _ (by omega)
    have hdn : l / 2 ^ (64 - s) < 18446744073709551616 := Nat.lt_of_le_of_lt (Nat.div_le_self _ _) hl
    have eY : IntKind.u64.wrap ((y : Int) * 2 ^ s) = (Y : Int) := by
      rw [hY] at hs2
      have := wrap_of (y * 2 ^ s) Y (by rw [hY]; exact Nat.mod_eq_of_lt hs2)
      simpa using this
    have eV : IntKind.u64.wrap ((l : Int) * 2 ^ s) = (v : Int) := by
      have := wrap_of (l * 2 ^ s) v hv
      simpa using this
    have eH : IntKind.u64.wrap ((h : Int) * 2 ^ s) = ((h * 2 ^ s % 18446744073709551616 : Nat) : Int) := by
      have := wrap_of (h * 2 ^ s) _ rfl
      simpa using this
    have eU : bits .or .u64 (IntKind.u64.wrap ((h : Int) * 2 ^ s)) ((l : Int) / 2 ^ (64 - s)) = (u : Int) := by
      have e2 : (l : Int) / 2 ^ (64 - s) = ((l / 2 ^ (64 - s) : Nat) : Int) := by simp
      rw [eH, e2, u64_or_nat _ _ (Nat.mod_lt _ (by omega)) hdn, hu]
    rw [hY] at hs1 hs2 huy HB
    rw [hv] at huv
    clear hu hv hY eH hdn
    obtain ⟨y1, hy1⟩ : ∃ y1, Y / 4294967296 = y1 := ⟨_, rfl⟩
    obtain ⟨y0, hy0⟩ : ∃ y0, Y % 4294967296 = y0 := ⟨_, rfl⟩
    obtain ⟨v1, hv1⟩ : ∃ v1, v / 4294967296 = v1 := ⟨_, rfl⟩
    obtain ⟨v0, hv0⟩ : ∃ v0, v % 4294967296 = v0 := ⟨_, rfl⟩
    have ey1 : (Y : Int) / 4294967296 = (y1 : Int) := by omega
    have ev1 : (v : Int) / 4294967296 = (v1 : Int) := by omega
    have ey0 := and_low Y hs2
    have ev0 := and_low v hvl
    rw [hy0] at ey0
    rw [hv0] at ev0
    have hYe : Y = y1 * 4294967296 + y0 := by omega
    have hve : v = v1 * 4294967296 + v0 := by omega
    have hy1a : 2147483648 ≤ y1 := by omega
    have hy1b : y1 < 4294967296 := by omega
    have hy0b : y0 < 4294967296 := by omega
    have hv1b : v1 < 4294967296 := by omega
    have hv0b : v0 < 4294967296 := by omega
    have huB : u < 18446744073709551616 := by omega
    clear hy1 hy0 hv1 hv0
    obtain ⟨QQ, hQQ⟩ : ∃ QQ, (h * 18446744073709551616 + l) / y = QQ := ⟨_, rfl⟩
    obtain ⟨RR, hRR⟩ : ∃ RR, (h * 18446744073709551616 + l) % y = RR := ⟨_, rfl⟩
    rw [hQQ, hRR]
    have HQQ := Lib.hid hQQ
    have HRR := Lib.hid hRR
    clear hQQ hRR
    have HYe := Lib.hid hYe
    have Hve := Lib.hid hve
    have Huv := Lib.hid huv
    have Huy := Lib.hid huy
    have HU1 := Lib.hid (show u < y1 * 4294967296 + y0 by rw [← hYe]; exact huy)
    have hyn : ¬ y1 = 0 := by omega
    have Hy1a := Lib.hid hy1a
    obtain ⟨q1, r1, p1, eq1, hqb1, ep1, hpb1, er1, hrb1, HD1⟩ := dig_start u v1 y1 y0 Y hYe hy1a hy1b hy0b hv1b huy
    clear hYe hve huv huy hy1a hn2 hs1
    go_enter Try.func73, Try.ntmps73
    go_wp2_with fail
    refine (HLZ.out).mono ?_
    rintro e w' ⟨rfl, rfl⟩
    go_wp2_with fail
    go_loopw [15, 16] (fun qv rv wr => ∃ q r : Nat, qv = .int .u64 q ∧ rv = .int .u64 r ∧ Dig u v1 y1 y0 q r ∧ w' = wr) (fun qv _ _ => (intOf qv).toNat)
    case atStart => exact ⟨q1, r1, rfl, rfl, HD1.out, rfl⟩
    case round =>
      clear eq1 ep1 er1 hqb1 hpb1 hrb1 HD1
      obtain ⟨q, r, rfl, rfl, hd, rfl⟩ := hrel
      obtain ⟨P, eP, HP, hqb, hrb, hPb, t2, t3, t6⟩ := dig_round hy0b hy1b hv1b hd
      have Hd := Lib.hid hd
      clear hd
      by_cases h1 : 4294967296 ≤ q
      · have t1 : (4294967296 : Int) ≤ (q : Int) := by omega
        have e1 : (((q - 1 : Nat) : Nat) : Int) = (q : Int) - 1 := by omega
        by_cases h3 : r + y1 < 4294967296
        · have t7 : ¬ (4294967296 : Int) ≤ (r : Int) + (y1 : Int) := by omega
          have HS := Lib.hid (Hd.out.step Hy1a.out hv1b HU1.out (.inl h1) h3)
          clear hPb h1
          go_wp2_with fail
          go_roundw
          case rel => exact ⟨q - 1, r + y1, by rw [e1], rfl, HS.out.2, by trivial⟩
          case measure => have := HS.out.1; simp [intOf]; omega
        · have t7 : (4294967296 : Int) ≤ (r : Int) + (y1 : Int) := by omega
          have HS := Lib.hid (Hd.out.out Hy1a.out hy0b hv1b HU1.out (.inl h1) h3)
          obtain ⟨Q1, hQ⟩ : ∃ Q, q - 1 = Q := ⟨_, rfl⟩
          have HQ1 := Lib.hid (show Q1 = (u * 4294967296 + v1) / (y1 * 4294967296 + y0) by rw [← hQ]; exact HS.out.1)
          have eQ1 : (q : Int) - 1 = (Q1 : Int) := by omega
          clear hPb h1 h3 hQ HS Hd HP e1
          have hlo := left_of u v1 Y Q1 (by rw [HYe.out]; exact HQ1.out) (by omega)
          obtain ⟨U, hU⟩ : ∃ U, (u * 4294967296 + v1) % Y = U := ⟨_, rfl⟩
          have hUY : U < Y := by rw [← hU]; exact Nat.mod_lt _ (by omega)
          have eU2 := left_wrap u v1 Q1 Y U hlo.1 (by rw [hlo.2, hU]) (by omega)
          have HU := Lib.hid (show U = (u * 4294967296 + v1) % Y from hU.symm)
          have HU2 := Lib.hid (show U < y1 * 4294967296 + y0 by rw [← HYe.out]; exact hUY)
          obtain ⟨Q', hQ'⟩ : ∃ Q', Q' = Q1 := ⟨_, rfl⟩
          have HQ' := Lib.hid (show Q' = (u * 4294967296 + v1) / Y by rw [hQ', HYe.out]; exact HQ1.out)
          obtain ⟨q2, r2, p2, eq2, hqb2, ep2, hpb2, er2, hrb2, HD2⟩ := dig_start U v0 y1 y0 Y HYe.out Hy1a.out hy1b hy0b hv0b hUY
          clear hlo hU
          go_wp2_with fail
          clear eU2
          rw [← hQ']
          clear hQ' 
          go_loopw [18, 16] (fun qv rv wr => ∃ q r : Nat, qv = .int .u64 q ∧ rv = .int .u64 r ∧ Dig U v0 y1 y0 q r ∧ w' = wr) (fun qv _ _ => (intOf qv).toNat)
          case atStart => exact ⟨q2, r2, rfl, rfl, HD2.out, rfl⟩
          case round =>
            clear eq2 ep2 er2 hqb2 hpb2 hrb2 HD2
            obtain ⟨q, r, rfl, rfl, hd, rfl⟩ := hrel
            obtain ⟨P, eP, HP, hqb, hrb, hPb, t2, t3, t6⟩ := dig_round hy0b hy1b hv0b hd
            have Hd := Lib.hid hd
            clear hd
            by_cases h1 : 4294967296 ≤ q
            · have t1 : (4294967296 : Int) ≤ (q : Int) := by omega
              have e1 : (((q - 1 : Nat) : Nat) : Int) = (q : Int) - 1 := by omega
              by_cases h3 : r + y1 < 4294967296
              · have t7 : ¬ (4294967296 : Int) ≤ (r : Int) + (y1 : Int) := by omega
                have HS := Lib.hid (Hd.out.step Hy1a.out hv0b HU2.out (.inl h1) h3)
                clear hPb h1
                go_wp2_with fail
                go_roundw
                case rel => exact ⟨q - 1, r + y1, by rw [e1], rfl, HS.out.2, by trivial⟩
                case measure => have := HS.out.1; simp [intOf]; omega
              · have t7 : (4294967296 : Int) ≤ (r : Int) + (y1 : Int) := by omega
                have HS := Lib.hid (Hd.out.out Hy1a.out hy0b hv0b HU2.out (.inl h1) h3)
                obtain ⟨Q2, hQ⟩ : ∃ Q, q - 1 = Q := ⟨_, rfl⟩
                have HQ2 := Lib.hid (show Q2 = (U * 4294967296 + v0) / (y1 * 4294967296 + y0) by rw [← hQ]; exact HS.out.1)
                have eQ2 : (q : Int) - 1 = (Q2 : Int) := by omega
                clear hPb h1 h3 hQ HS Hd HP e1
                obtain ⟨hQa, hQb, hT1, hT2⟩ := two_digs u v1 v0 Y Q' Q2 U (by omega) Huy.out hv1b hv0b HQ'.out HU.out (by rw [HYe.out]; exact HQ2.out)
                obtain ⟨hL1, hL2⟩ := left_of U v0 Y Q2 (by rw [HYe.out]; exact HQ2.out) (by omega)
                obtain ⟨R, hR⟩ : ∃ R, (U * 4294967296 + v0) % Y = R := ⟨_, rfl⟩
                have hRY : R < Y := by rw [← hR]; exact Nat.mod_lt _ (by omega)
                have eR := left_wrap U v0 Q2 Y R hL1 (by rw [hL2, hR]) (by omega)
                rw [hR] at hT2
                have eF : ((h * 18446744073709551616 + l) / y : Nat) = Q2 + Q' * 4294967296 := by rw [hT1, ← Hve.out, Huv.out]; exact HB.out.1.symm
                have eG : ((h * 18446744073709551616 + l) % y : Nat) = R / 2 ^ s := by rw [hT2, ← Hve.out, Huv.out]; exact HB.out.2.symm
                have eRs : ((R / 2 ^ s : Nat) : Int) = (R : Int) / 2 ^ s := by simp
                have eS : IntKind.u64.wrap ((Q' : Int) * 4294967296) = (Q' : Int) * 4294967296 := IntWalk.u64_in _ (by clear hT1 hT2 hL1 hL2; omega)
                have eS2 : IntKind.u64.wrap ((Q' : Int) * 4294967296 + (Q2 : Int)) = (Q' : Int) * 4294967296 + (Q2 : Int) := IntWalk.u64_in _ (by clear hT1 hT2 hL1 hL2; omega)
                have eS3 : ((Q2 + Q' * 4294967296 : Nat) : Int) = (Q' : Int) * 4294967296 + (Q2 : Int) := by clear hT1 hT2 hL1 hL2; omega
                have HF := Lib.hid (show ((QQ : Nat) : Int) = (Q' : Int) * 4294967296 + (Q2 : Int) ∧ ((RR : Nat) : Int) = (R : Int) / 2 ^ s from ⟨by rw [← HQQ.out, eF, eS3], by rw [← HRR.out, eG, eRs]⟩)
                clear hT1 hT2 hL1 hL2 hR hRY eF eG eRs eS3
                go_wp2_with fail
                go_ret2
                exact ⟨ret_two HF.out.1.symm HF.out.2.symm, Drawn.more 0⟩
            · have t1 : ¬ (4294967296 : Int) ≤ (q : Int) := by omega
              have hPb := hPb (by omega)
              have t5 : IntKind.u64.wrap (P : Int) = (P : Int) := IntWalk.u64_in _ (by omega)
              by_cases h2 : 4294967296 * r + v0 < P
              · have t4 : 4294967296 * (r : Int) + (v0 : Int) < (P : Int) := by omega
                have h2' : 4294967296 * r + v0 < q * y0 := by rw [HP.out]; exact h2
                by_cases h3 : r + y1 < 4294967296
                · have t7 : ¬ (4294967296 : Int) ≤ (r : Int) + (y1 : Int) := by omega
                  have HS := Lib.hid (Hd.out.step Hy1a.out hv0b HU2.out (.inr h2') h3)
                  have hq1 := HS.out.1
                  have e1 : (((q - 1 : Nat) : Nat) : Int) = (q : Int) - 1 := by omega
                  clear h1 h2 h2'
                  go_wp2_with fail
                  go_roundw
                  case rel => exact ⟨q - 1, r + y1, by rw [e1], rfl, HS.out.2, by trivial⟩
                  case measure => simp [intOf]; omega
                · have t7 : (4294967296 : Int) ≤ (r : Int) + (y1 : Int) := by omega
                  have HS := Lib.hid (Hd.out.out Hy1a.out hy0b hv0b HU2.out (.inr h2') h3)
                  have hq1 := HS.out.2
                  obtain ⟨Q2, hQ⟩ : ∃ Q, q - 1 = Q := ⟨_, rfl⟩
                  have HQ2 := Lib.hid (show Q2 = (U * 4294967296 + v0) / (y1 * 4294967296 + y0) by rw [← hQ]; exact HS.out.1)
                  have eQ2 : (q : Int) - 1 = (Q2 : Int) := by omega
                  clear h1 h2 h2' h3 hQ HS Hd HP
                  obtain ⟨hQa, hQb, hT1, hT2⟩ := two_digs u v1 v0 Y Q' Q2 U (by omega) Huy.out hv1b hv0b HQ'.out HU.out (by rw [HYe.out]; exact HQ2.out)
                  obtain ⟨hL1, hL2⟩ := left_of U v0 Y Q2 (by rw [HYe.out]; exact HQ2.out) (by omega)
                  obtain ⟨R, hR⟩ : ∃ R, (U * 4294967296 + v0) % Y = R := ⟨_, rfl⟩
                  have hRY : R < Y := by rw [← hR]; exact Nat.mod_lt _ (by omega)
                  have eR := left_wrap U v0 Q2 Y R hL1 (by rw [hL2, hR]) (by omega)
                  rw [hR] at hT2
                  have eF : ((h * 18446744073709551616 + l) / y : Nat) = Q2 + Q' * 4294967296 := by rw [hT1, ← Hve.out, Huv.out]; exact HB.out.1.symm
                  have eG : ((h * 18446744073709551616 + l) % y : Nat) = R / 2 ^ s := by rw [hT2, ← Hve.out, Huv.out]; exact HB.out.2.symm
                  have eRs : ((R / 2 ^ s : Nat) : Int) = (R : Int) / 2 ^ s := by simp
                  have eS : IntKind.u64.wrap ((Q' : Int) * 4294967296) = (Q' : Int) * 4294967296 := IntWalk.u64_in _ (by clear hT1 hT2 hL1 hL2; omega)
                  have eS2 : IntKind.u64.wrap ((Q' : Int) * 4294967296 + (Q2 : Int)) = (Q' : Int) * 4294967296 + (Q2 : Int) := IntWalk.u64_in _ (by clear hT1 hT2 hL1 hL2; omega)
                  have eS3 : ((Q2 + Q' * 4294967296 : Nat) : Int) = (Q' : Int) * 4294967296 + (Q2 : Int) := by clear hT1 hT2 hL1 hL2; omega
                  have HF := Lib.hid (show ((QQ : Nat) : Int) = (Q' : Int) * 4294967296 + (Q2 : Int) ∧ ((RR : Nat) : Int) = (R : Int) / 2 ^ s from ⟨by rw [← HQQ.out, eF, eS3], by rw [← HRR.out, eG, eRs]⟩)
                  clear hT1 hT2 hL1 hL2 hR hRY eF eG eRs eS3
                  go_wp2_with fail
                  go_ret2
                  exact ⟨ret_two HF.out.1.symm HF.out.2.symm, Drawn.more 0⟩
              · have t4 : ¬ 4294967296 * (r : Int) + (v0 : Int) < (P : Int) := by omega
                have h2' : ¬ 4294967296 * r + v0 < q * y0 := by rw [HP.out]; exact h2
                have HQ2 := Lib.hid (Hd.out.done Hy1a.out h1 h2')
                obtain ⟨Q2, hQ⟩ : ∃ Q, q = Q := ⟨_, rfl⟩
                clear h1 h2 h2' Hd HP
                subst hQ
                obtain ⟨hQa, hQb, hT1, hT2⟩ := two_digs u v1 v0 Y Q' q U (by omega) Huy.out hv1b hv0b HQ'.out HU.out (by rw [HYe.out]; exact HQ2.out)
                obtain ⟨hL1, hL2⟩ := left_of U v0 Y q (by rw [HYe.out]; exact HQ2.out) (by omega)
                obtain ⟨R, hR⟩ : ∃ R, (U * 4294967296 + v0) % Y = R := ⟨_, rfl⟩
                have hRY : R < Y := by rw [← hR]; exact Nat.mod_lt _ (by omega)
                have eR := left_wrap U v0 q Y R hL1 (by rw [hL2, hR]) (by omega)
                rw [hR] at hT2
                have eF : ((h * 18446744073709551616 + l) / y : Nat) = q + Q' * 4294967296 := by rw [hT1, ← Hve.out, Huv.out]; exact HB.out.1.symm
                have eG : ((h * 18446744073709551616 + l) % y : Nat) = R / 2 ^ s := by rw [hT2, ← Hve.out, Huv.out]; exact HB.out.2.symm
                have eRs : ((R / 2 ^ s : Nat) : Int) = (R : Int) / 2 ^ s := by simp
                have eS : IntKind.u64.wrap ((Q' : Int) * 4294967296) = (Q' : Int) * 4294967296 := IntWalk.u64_in _ (by clear hT1 hT2 hL1 hL2; omega)
                have eS2 : IntKind.u64.wrap ((Q' : Int) * 4294967296 + (q : Int)) = (Q' : Int) * 4294967296 + (q : Int) := IntWalk.u64_in _ (by clear hT1 hT2 hL1 hL2; omega)
                have eS3 : ((q + Q' * 4294967296 : Nat) : Int) = (Q' : Int) * 4294967296 + (q : Int) := by clear hT1 hT2 hL1 hL2; omega
                have HF := Lib.hid (show ((QQ : Nat) : Int) = (Q' : Int) * 4294967296 + (q : Int) ∧ ((RR : Nat) : Int) = (R : Int) / 2 ^ s from ⟨by rw [← HQQ.out, eF, eS3], by rw [← HRR.out, eG, eRs]⟩)
                clear hT1 hT2 hL1 hL2 hR hRY eF eG eRs eS3
                go_wp2_with fail
                go_ret2
                exact ⟨ret_two HF.out.1.symm HF.out.2.symm, Drawn.more 0⟩
      · have t1 : ¬ (4294967296 : Int) ≤ (q : Int) := by omega
        have hPb := hPb (by omega)
        have t5 : IntKind.u64.wrap (P : Int) = (P : Int) := IntWalk.u64_in _ (by omega)
        by_cases h2 : 4294967296 * r + v1 < P
        · have t4 : 4294967296 * (r : Int) + (v1 : Int) < (P : Int) := by omega
          have h2' : 4294967296 * r + v1 < q * y0 := by rw [HP.out]; exact h2
          by_cases h3 : r + y1 < 4294967296
          · have t7 : ¬ (4294967296 : Int) ≤ (r : Int) + (y1 : Int) := by omega
            have HS := Lib.hid (Hd.out.step Hy1a.out hv1b HU1.out (.inr h2') h3)
            have hq1 := HS.out.1
            have e1 : (((q - 1 : Nat) : Nat) : Int) = (q : Int) - 1 := by omega
            clear h1 h2 h2'
            go_wp2_with fail
            go_roundw
            case rel => exact ⟨q - 1, r + y1, by rw [e1], rfl, HS.out.2, by trivial⟩
            case measure => simp [intOf]; omega
          · have t7 : (4294967296 : Int) ≤ (r : Int) + (y1 : Int) := by omega
            have HS := Lib.hid (Hd.out.out Hy1a.out hy0b hv1b HU1.out (.inr h2') h3)
            have hq1 := HS.out.2
            obtain ⟨Q1, hQ⟩ : ∃ Q, q - 1 = Q := ⟨_, rfl⟩
            have HQ1 := Lib.hid (show Q1 = (u * 4294967296 + v1) / (y1 * 4294967296 + y0) by rw [← hQ]; exact HS.out.1)
            have eQ1 : (q : Int) - 1 = (Q1 : Int) := by omega
            clear h1 h2 h2' h3 hQ HS Hd HP
            have hlo := left_of u v1 Y Q1 (by rw [HYe.out]; exact HQ1.out) (by omega)
            obtain ⟨U, hU⟩ : ∃ U, (u * 4294967296 + v1) % Y = U := ⟨_, rfl⟩
            have hUY : U < Y := by rw [← hU]; exact Nat.mod_lt _ (by omega)
            have eU2 := left_wrap u v1 Q1 Y U hlo.1 (by rw [hlo.2, hU]) (by omega)
            have HU := Lib.hid (show U = (u * 4294967296 + v1) % Y from hU.symm)
            have HU2 := Lib.hid (show U < y1 * 4294967296 + y0 by rw [← HYe.out]; exact hUY)
            obtain ⟨Q', hQ'⟩ : ∃ Q', Q' = Q1 := ⟨_, rfl⟩
            have HQ' := Lib.hid (show Q' = (u * 4294967296 + v1) / Y by rw [hQ', HYe.out]; exact HQ1.out)
            obtain ⟨q2, r2, p2, eq2, hqb2, ep2, hpb2, er2, hrb2, HD2⟩ := dig_start U v0 y1 y0 Y HYe.out Hy1a.out hy1b hy0b hv0b hUY
            clear hlo hU
            go_wp2_with fail
            clear eU2
            rw [← hQ']
            clear hQ' 
            go_loopw [18, 16] (fun qv rv wr => ∃ q r : Nat, qv = .int .u64 q ∧ rv = .int .u64 r ∧ Dig U v0 y1 y0 q r ∧ w' = wr) (fun qv _ _ => (intOf qv).toNat)
            case atStart => exact ⟨q2, r2, rfl, rfl, HD2.out, rfl⟩
            case round =>
              clear eq2 ep2 er2 hqb2 hpb2 hrb2 HD2
              obtain ⟨q, r, rfl, rfl, hd, rfl⟩ := hrel
              obtain ⟨P, eP, HP, hqb, hrb, hPb, t2, t3, t6⟩ := dig_round hy0b hy1b hv0b hd
              have Hd := Lib.hid hd
              clear hd
              by_cases h1 : 4294967296 ≤ q
              · have t1 : (4294967296 : Int) ≤ (q : Int) := by omega
                have e1 : (((q - 1 : Nat) : Nat) : Int) = (q : Int) - 1 := by omega
                by_cases h3 : r + y1 < 4294967296
                · have t7 : ¬ (4294967296 : Int) ≤ (r : Int) + (y1 : Int) := by omega
                  have HS := Lib.hid (Hd.out.step Hy1a.out hv0b HU2.out (.inl h1) h3)
                  clear hPb h1
                  go_wp2_with fail
                  go_roundw
                  case rel => exact ⟨q - 1, r + y1, by rw [e1], rfl, HS.out.2, by trivial⟩
                  case measure => have := HS.out.1; simp [intOf]; omega
                · have t7 : (4294967296 : Int) ≤ (r : Int) + (y1 : Int) := by omega
                  have HS := Lib.hid (Hd.out.out Hy1a.out hy0b hv0b HU2.out (.inl h1) h3)
                  obtain ⟨Q2, hQ⟩ : ∃ Q, q - 1 = Q := ⟨_, rfl⟩
                  have HQ2 := Lib.hid (show Q2 = (U * 4294967296 + v0) / (y1 * 4294967296 + y0) by rw [← hQ]; exact HS.out.1)
                  have eQ2 : (q : Int) - 1 = (Q2 : Int) := by omega
                  clear hPb h1 h3 hQ HS Hd HP e1
                  obtain ⟨hQa, hQb, hT1, hT2⟩ := two_digs u v1 v0 Y Q' Q2 U (by omega) Huy.out hv1b hv0b HQ'.out HU.out (by rw [HYe.out]; exact HQ2.out)
                  obtain ⟨hL1, hL2⟩ := left_of U v0 Y Q2 (by rw [HYe.out]; exact HQ2.out) (by omega)
                  obtain ⟨R, hR⟩ : ∃ R, (U * 4294967296 + v0) % Y = R := ⟨_, rfl⟩
                  have hRY : R < Y := by rw [← hR]; exact Nat.mod_lt _ (by omega)
                  have eR := left_wrap U v0 Q2 Y R hL1 (by rw [hL2, hR]) (by omega)
                  rw [hR] at hT2
                  have eF : ((h * 18446744073709551616 + l) / y : Nat) = Q2 + Q' * 4294967296 := by rw [hT1, ← Hve.out, Huv.out]; exact HB.out.1.symm
                  have eG : ((h * 18446744073709551616 + l) % y : Nat) = R / 2 ^ s := by rw [hT2, ← Hve.out, Huv.out]; exact HB.out.2.symm
                  have eRs : ((R / 2 ^ s : Nat) : Int) = (R : Int) / 2 ^ s := by simp
                  have eS : IntKind.u64.wrap ((Q' : Int) * 4294967296) = (Q' : Int) * 4294967296 := IntWalk.u64_in _ (by clear hT1 hT2 hL1 hL2; omega)
                  have eS2 : IntKind.u64.wrap ((Q' : Int) * 4294967296 + (Q2 : Int)) = (Q' : Int) * 4294967296 + (Q2 : Int) := IntWalk.u64_in _ (by clear hT1 hT2 hL1 hL2; omega)
                  have eS3 : ((Q2 + Q' * 4294967296 : Nat) : Int) = (Q' : Int) * 4294967296 + (Q2 : Int) := by clear hT1 hT2 hL1 hL2; omega
                  have HF := Lib.hid (show ((QQ : Nat) : Int) = (Q' : Int) * 4294967296 + (Q2 : Int) ∧ ((RR : Nat) : Int) = (R : Int) / 2 ^ s from ⟨by rw [← HQQ.out, eF, eS3], by rw [← HRR.out, eG, eRs]⟩)
                  clear hT1 hT2 hL1 hL2 hR hRY eF eG eRs eS3
                  go_wp2_with fail
                  go_ret2
                  exact ⟨ret_two HF.out.1.symm HF.out.2.symm, Drawn.more 0⟩
              · have t1 : ¬ (4294967296 : Int) ≤ (q : Int) := by omega
                have hPb := hPb (by omega)
                have t5 : IntKind.u64.wrap (P : Int) = (P : Int) := IntWalk.u64_in _ (by omega)
                by_cases h2 : 4294967296 * r + v0 < P
                · have t4 : 4294967296 * (r : Int) + (v0 : Int) < (P : Int) := by omega
                  have h2' : 4294967296 * r + v0 < q * y0 := by rw [HP.out]; exact h2
                  by_cases h3 : r + y1 < 4294967296
                  · have t7 : ¬ (4294967296 : Int) ≤ (r : Int) + (y1 : Int) := by omega
                    have HS := Lib.hid (Hd.out.step Hy1a.out hv0b HU2.out (.inr h2') h3)
                    have hq1 := HS.out.1
                    have e1 : (((q - 1 : Nat) : Nat) : Int) = (q : Int) - 1 := by omega
                    clear h1 h2 h2'
                    go_wp2_with fail
                    go_roundw
                    case rel => exact ⟨q - 1, r + y1, by rw [e1], rfl, HS.out.2, by trivial⟩
                    case measure => simp [intOf]; omega
                  · have t7 : (4294967296 : Int) ≤ (r : Int) + (y1 : Int) := by omega
                    have HS := Lib.hid (Hd.out.out Hy1a.out hy0b hv0b HU2.out (.inr h2') h3)
                    have hq1 := HS.out.2
                    obtain ⟨Q2, hQ⟩ : ∃ Q, q - 1 = Q := ⟨_, rfl⟩
                    have HQ2 := Lib.hid (show Q2 = (U * 4294967296 + v0) / (y1 * 4294967296 + y0) by rw [← hQ]; exact HS.out.1)
                    have eQ2 : (q : Int) - 1 = (Q2 : Int) := by omega
                    clear h1 h2 h2' h3 hQ HS Hd HP
                    obtain ⟨hQa, hQb, hT1, hT2⟩ := two_digs u v1 v0 Y Q' Q2 U (by omega) Huy.out hv1b hv0b HQ'.out HU.out (by rw [HYe.out]; exact HQ2.out)
                    obtain ⟨hL1, hL2⟩ := left_of U v0 Y Q2 (by rw [HYe.out]; exact HQ2.out) (by omega)
                    obtain ⟨R, hR⟩ : ∃ R, (U * 4294967296 + v0) % Y = R := ⟨_, rfl⟩
                    have hRY : R < Y := by rw [← hR]; exact Nat.mod_lt _ (by omega)
                    have eR := left_wrap U v0 Q2 Y R hL1 (by rw [hL2, hR]) (by omega)
                    rw [hR] at hT2
                    have eF : ((h * 18446744073709551616 + l) / y : Nat) = Q2 + Q' * 4294967296 := by rw [hT1, ← Hve.out, Huv.out]; exact HB.out.1.symm
                    have eG : ((h * 18446744073709551616 + l) % y : Nat) = R / 2 ^ s := by rw [hT2, ← Hve.out, Huv.out]; exact HB.out.2.symm
                    have eRs : ((R / 2 ^ s : Nat) : Int) = (R : Int) / 2 ^ s := by simp
                    have eS : IntKind.u64.wrap ((Q' : Int) * 4294967296) = (Q' : Int) * 4294967296 := IntWalk.u64_in _ (by clear hT1 hT2 hL1 hL2; omega)
                    have eS2 : IntKind.u64.wrap ((Q' : Int) * 4294967296 + (Q2 : Int)) = (Q' : Int) * 4294967296 + (Q2 : Int) := IntWalk.u64_in _ (by clear hT1 hT2 hL1 hL2; omega)
                    have eS3 : ((Q2 + Q' * 4294967296 : Nat) : Int) = (Q' : Int) * 4294967296 + (Q2 : Int) := by clear hT1 hT2 hL1 hL2; omega
                    have HF := Lib.hid (show ((QQ : Nat) : Int) = (Q' : Int) * 4294967296 + (Q2 : Int) ∧ ((RR : Nat) : Int) = (R : Int) / 2 ^ s from ⟨by rw [← HQQ.out, eF, eS3], by rw [← HRR.out, eG, eRs]⟩)
                    clear hT1 hT2 hL1 hL2 hR hRY eF eG eRs eS3
                    go_wp2_with fail
                    go_ret2
                    exact ⟨ret_two HF.out.1.symm HF.out.2.symm, Drawn.more 0⟩
                · have t4 : ¬ 4294967296 * (r : Int) + (v0 : Int) < (P : Int) := by omega
                  have h2' : ¬ 4294967296 * r + v0 < q * y0 := by rw [HP.out]; exact h2
                  have HQ2 := Lib.hid (Hd.out.done Hy1a.out h1 h2')
                  obtain ⟨Q2, hQ⟩ : ∃ Q, q = Q := ⟨_, rfl⟩
                  clear h1 h2 h2' Hd HP
                  subst hQ
                  obtain ⟨hQa, hQb, hT1, hT2⟩ := two_digs u v1 v0 Y Q' q U (by omega) Huy.out hv1b hv0b HQ'.out HU.out (by rw [HYe.out]; exact HQ2.out)
                  obtain ⟨hL1, hL2⟩ := left_of U v0 Y q (by rw [HYe.out]; exact HQ2.out) (by omega)
                  obtain ⟨R, hR⟩ : ∃ R, (U * 4294967296 + v0) % Y = R := ⟨_, rfl⟩
                  have hRY : R < Y := by rw [← hR]; exact Nat.mod_lt _ (by omega)
                  have eR := left_wrap U v0 q Y R hL1 (by rw [hL2, hR]) (by omega)
                  rw [hR] at hT2
                  have eF : ((h * 18446744073709551616 + l) / y : Nat) = q + Q' * 4294967296 := by rw [hT1, ← Hve.out, Huv.out]; exact HB.out.1.symm
                  have eG : ((h * 18446744073709551616 + l) % y : Nat) = R / 2 ^ s := by rw [hT2, ← Hve.out, Huv.out]; exact HB.out.2.symm
                  have eRs : ((R / 2 ^ s : Nat) : Int) = (R : Int) / 2 ^ s := by simp
                  have eS : IntKind.u64.wrap ((Q' : Int) * 4294967296) = (Q' : Int) * 4294967296 := IntWalk.u64_in _ (by clear hT1 hT2 hL1 hL2; omega)
                  have eS2 : IntKind.u64.wrap ((Q' : Int) * 4294967296 + (q : Int)) = (Q' : Int) * 4294967296 + (q : Int) := IntWalk.u64_in _ (by clear hT1 hT2 hL1 hL2; omega)
                  have eS3 : ((q + Q' * 4294967296 : Nat) : Int) = (Q' : Int) * 4294967296 + (q : Int) := by clear hT1 hT2 hL1 hL2; omega
                  have HF := Lib.hid (show ((QQ : Nat) : Int) = (Q' : Int) * 4294967296 + (q : Int) ∧ ((RR : Nat) : Int) = (R : Int) / 2 ^ s from ⟨by rw [← HQQ.out, eF, eS3], by rw [← HRR.out, eG, eRs]⟩)
                  clear hT1 hT2 hL1 hL2 hR hRY eF eG eRs eS3
                  go_wp2_with fail
                  go_ret2
                  exact ⟨ret_two HF.out.1.symm HF.out.2.symm, Drawn.more 0⟩
        · have t4 : ¬ 4294967296 * (r : Int) + (v1 : Int) < (P : Int) := by omega
          have h2' : ¬ 4294967296 * r + v1 < q * y0 := by rw [HP.out]; exact h2
          have HQ1 := Lib.hid (Hd.out.done Hy1a.out h1 h2')
          obtain ⟨Q1, hQ⟩ : ∃ Q, q = Q := ⟨_, rfl⟩
          clear h1 h2 h2' Hd HP
          subst hQ
          have hlo := left_of u v1 Y q (by rw [HYe.out]; exact HQ1.out) (by omega)
          obtain ⟨U, hU⟩ : ∃ U, (u * 4294967296 + v1) % Y = U := ⟨_, rfl⟩
          have hUY : U < Y := by rw [← hU]; exact Nat.mod_lt _ (by omega)
          have eU2 := left_wrap u v1 q Y U hlo.1 (by rw [hlo.2, hU]) (by omega)
          have HU := Lib.hid (show U = (u * 4294967296 + v1) % Y from hU.symm)
          have HU2 := Lib.hid (show U < y1 * 4294967296 + y0 by rw [← HYe.out]; exact hUY)
          obtain ⟨Q', hQ'⟩ : ∃ Q', Q' = q := ⟨_, rfl⟩
          have HQ' := Lib.hid (show Q' = (u * 4294967296 + v1) / Y by rw [hQ', HYe.out]; exact HQ1.out)
          obtain ⟨q2, r2, p2, eq2, hqb2, ep2, hpb2, er2, hrb2, HD2⟩ := dig_start U v0 y1 y0 Y HYe.out Hy1a.out hy1b hy0b hv0b hUY
          clear hlo hU
          go_wp2_with fail
          clear eU2
          rw [← hQ']
          clear hQ' 
          go_loopw [18, 16] (fun qv rv wr => ∃ q r : Nat, qv = .int .u64 q ∧ rv = .int .u64 r ∧ Dig U v0 y1 y0 q r ∧ w' = wr) (fun qv _ _ => (intOf qv).toNat)
          case atStart => exact ⟨q2, r2, rfl, rfl, HD2.out, rfl⟩
          case round =>
            clear eq2 ep2 er2 hqb2 hpb2 hrb2 HD2
            obtain ⟨q, r, rfl, rfl, hd, rfl⟩ := hrel
            obtain ⟨P, eP, HP, hqb, hrb, hPb, t2, t3, t6⟩ := dig_round hy0b hy1b hv0b hd
            have Hd := Lib.hid hd
            clear hd
            by_cases h1 : 4294967296 ≤ q
            · have t1 : (4294967296 : Int) ≤ (q : Int) := by omega
              have e1 : (((q - 1 : Nat) : Nat) : Int) = (q : Int) - 1 := by omega
              by_cases h3 : r + y1 < 4294967296
              · have t7 : ¬ (4294967296 : Int) ≤ (r : Int) + (y1 : Int) := by omega
                have HS := Lib.hid (Hd.out.step Hy1a.out hv0b HU2.out (.inl h1) h3)
                clear hPb h1
                go_wp2_with fail
                go_roundw
                case rel => exact ⟨q - 1, r + y1, by rw [e1], rfl, HS.out.2, by trivial⟩
                case measure => have := HS.out.1; simp [intOf]; omega
              · have t7 : (4294967296 : Int) ≤ (r : Int) + (y1 : Int) := by omega
                have HS := Lib.hid (Hd.out.out Hy1a.out hy0b hv0b HU2.out (.inl h1) h3)
                obtain ⟨Q2, hQ⟩ : ∃ Q, q - 1 = Q := ⟨_, rfl⟩
                have HQ2 := Lib.hid (show Q2 = (U * 4294967296 + v0) / (y1 * 4294967296 + y0) by rw [← hQ]; exact HS.out.1)
                have eQ2 : (q : Int) - 1 = (Q2 : Int) := by omega
                clear hPb h1 h3 hQ HS Hd HP e1
                obtain ⟨hQa, hQb, hT1, hT2⟩ := two_digs u v1 v0 Y Q' Q2 U (by omega) Huy.out hv1b hv0b HQ'.out HU.out (by rw [HYe.out]; exact HQ2.out)
                obtain ⟨hL1, hL2⟩ := left_of U v0 Y Q2 (by rw [HYe.out]; exact HQ2.out) (by omega)
                obtain ⟨R, hR⟩ : ∃ R, (U * 4294967296 + v0) % Y = R := ⟨_, rfl⟩
                have hRY : R < Y := by rw [← hR]; exact Nat.mod_lt _ (by omega)
                have eR := left_wrap U v0 Q2 Y R hL1 (by rw [hL2, hR]) (by omega)
                rw [hR] at hT2
                have eF : ((h * 18446744073709551616 + l) / y : Nat) = Q2 + Q' * 4294967296 := by rw [hT1, ← Hve.out, Huv.out]; exact HB.out.1.symm
                have eG : ((h * 18446744073709551616 + l) % y : Nat) = R / 2 ^ s := by rw [hT2, ← Hve.out, Huv.out]; exact HB.out.2.symm
                have eRs : ((R / 2 ^ s : Nat) : Int) = (R : Int) / 2 ^ s := by simp
                have eS : IntKind.u64.wrap ((Q' : Int) * 4294967296) = (Q' : Int) * 4294967296 := IntWalk.u64_in _ (by clear hT1 hT2 hL1 hL2; omega)
                have eS2 : IntKind.u64.wrap ((Q' : Int) * 4294967296 + (Q2 : Int)) = (Q' : Int) * 4294967296 + (Q2 : Int) := IntWalk.u64_in _ (by clear hT1 hT2 hL1 hL2; omega)
                have eS3 : ((Q2 + Q' * 4294967296 : Nat) : Int) = (Q' : Int) * 4294967296 + (Q2 : Int) := by clear hT1 hT2 hL1 hL2; omega
                have HF := Lib.hid (show ((QQ : Nat) : Int) = (Q' : Int) * 4294967296 + (Q2 : Int) ∧ ((RR : Nat) : Int) = (R : Int) / 2 ^ s from ⟨by rw [← HQQ.out, eF, eS3], by rw [← HRR.out, eG, eRs]⟩)
                clear hT1 hT2 hL1 hL2 hR hRY eF eG eRs eS3
                go_wp2_with fail
                go_ret2
                exact ⟨ret_two HF.out.1.symm HF.out.2.symm, Drawn.more 0⟩
            · have t1 : ¬ (4294967296 : Int) ≤ (q : Int) := by omega
              have hPb := hPb (by omega)
              have t5 : IntKind.u64.wrap (P : Int) = (P : Int) := IntWalk.u64_in _ (by omega)
              by_cases h2 : 4294967296 * r + v0 < P
              · have t4 : 4294967296 * (r : Int) + (v0 : Int) < (P : Int) := by omega
                have h2' : 4294967296 * r + v0 < q * y0 := by rw [HP.out]; exact h2
                by_cases h3 : r + y1 < 4294967296
                · have t7 : ¬ (4294967296 : Int) ≤ (r : Int) + (y1 : Int) := by omega
                  have HS := Lib.hid (Hd.out.step Hy1a.out hv0b HU2.out (.inr h2') h3)
                  have hq1 := HS.out.1
                  have e1 : (((q - 1 : Nat) : Nat) : Int) = (q : Int) - 1 := by omega
                  clear h1 h2 h2'
                  go_wp2_with fail
                  go_roundw
                  case rel => exact ⟨q - 1, r + y1, by rw [e1], rfl, HS.out.2, by trivial⟩
                  case measure => simp [intOf]; omega
                · have t7 : (4294967296 : Int) ≤ (r : Int) + (y1 : Int) := by omega
                  have HS := Lib.hid (Hd.out.out Hy1a.out hy0b hv0b HU2.out (.inr h2') h3)
                  have hq1 := HS.out.2
                  obtain ⟨Q2, hQ⟩ : ∃ Q, q - 1 = Q := ⟨_, rfl⟩
                  have HQ2 := Lib.hid (show Q2 = (U * 4294967296 + v0) / (y1 * 4294967296 + y0) by rw [← hQ]; exact HS.out.1)
                  have eQ2 : (q : Int) - 1 = (Q2 : Int) := by omega
                  clear h1 h2 h2' h3 hQ HS Hd HP
                  obtain ⟨hQa, hQb, hT1, hT2⟩ := two_digs u v1 v0 Y Q' Q2 U (by omega) Huy.out hv1b hv0b HQ'.out HU.out (by rw [HYe.out]; exact HQ2.out)
                  obtain ⟨hL1, hL2⟩ := left_of U v0 Y Q2 (by rw [HYe.out]; exact HQ2.out) (by omega)
                  obtain ⟨R, hR⟩ : ∃ R, (U * 4294967296 + v0) % Y = R := ⟨_, rfl⟩
                  have hRY : R < Y := by rw [← hR]; exact Nat.mod_lt _ (by omega)
                  have eR := left_wrap U v0 Q2 Y R hL1 (by rw [hL2, hR]) (by omega)
                  rw [hR] at hT2
                  have eF : ((h * 18446744073709551616 + l) / y : Nat) = Q2 + Q' * 4294967296 := by rw [hT1, ← Hve.out, Huv.out]; exact HB.out.1.symm
                  have eG : ((h * 18446744073709551616 + l) % y : Nat) = R / 2 ^ s := by rw [hT2, ← Hve.out, Huv.out]; exact HB.out.2.symm
                  have eRs : ((R / 2 ^ s : Nat) : Int) = (R : Int) / 2 ^ s := by simp
                  have eS : IntKind.u64.wrap ((Q' : Int) * 4294967296) = (Q' : Int) * 4294967296 := IntWalk.u64_in _ (by clear hT1 hT2 hL1 hL2; omega)
                  have eS2 : IntKind.u64.wrap ((Q' : Int) * 4294967296 + (Q2 : Int)) = (Q' : Int) * 4294967296 + (Q2 : Int) := IntWalk.u64_in _ (by clear hT1 hT2 hL1 hL2; omega)
                  have eS3 : ((Q2 + Q' * 4294967296 : Nat) : Int) = (Q' : Int) * 4294967296 + (Q2 : Int) := by clear hT1 hT2 hL1 hL2; omega
                  have HF := Lib.hid (show ((QQ : Nat) : Int) = (Q' : Int) * 4294967296 + (Q2 : Int) ∧ ((RR : Nat) : Int) = (R : Int) / 2 ^ s from ⟨by rw [← HQQ.out, eF, eS3], by rw [← HRR.out, eG, eRs]⟩)
                  clear hT1 hT2 hL1 hL2 hR hRY eF eG eRs eS3
                  go_wp2_with fail
                  go_ret2
                  exact ⟨ret_two HF.out.1.symm HF.out.2.symm, Drawn.more 0⟩
              · have t4 : ¬ 4294967296 * (r : Int) + (v0 : Int) < (P : Int) := by omega
                have h2' : ¬ 4294967296 * r + v0 < q * y0 := by rw [HP.out]; exact h2
                have HQ2 := Lib.hid (Hd.out.done Hy1a.out h1 h2')
                obtain ⟨Q2, hQ⟩ : ∃ Q, q = Q := ⟨_, rfl⟩
                clear h1 h2 h2' Hd HP
                subst hQ
                obtain ⟨hQa, hQb, hT1, hT2⟩ := two_digs u v1 v0 Y Q' q U (by omega) Huy.out hv1b hv0b HQ'.out HU.out (by rw [HYe.out]; exact HQ2.out)
                obtain ⟨hL1, hL2⟩ := left_of U v0 Y q (by rw [HYe.out]; exact HQ2.out) (by omega)
                obtain ⟨R, hR⟩ : ∃ R, (U * 4294967296 + v0) % Y = R := ⟨_, rfl⟩
                have hRY : R < Y := by rw [← hR]; exact Nat.mod_lt _ (by omega)
                have eR := left_wrap U v0 q Y R hL1 (by rw [hL2, hR]) (by omega)
                rw [hR] at hT2
                have eF : ((h * 18446744073709551616 + l) / y : Nat) = q + Q' * 4294967296 := by rw [hT1, ← Hve.out, Huv.out]; exact HB.out.1.symm
                have eG : ((h * 18446744073709551616 + l) % y : Nat) = R / 2 ^ s := by rw [hT2, ← Hve.out, Huv.out]; exact HB.out.2.symm
                have eRs : ((R / 2 ^ s : Nat) : Int) = (R : Int) / 2 ^ s := by simp
                have eS : IntKind.u64.wrap ((Q' : Int) * 4294967296) = (Q' : Int) * 4294967296 := IntWalk.u64_in _ (by clear hT1 hT2 hL1 hL2; omega)
                have eS2 : IntKind.u64.wrap ((Q' : Int) * 4294967296 + (q : Int)) = (Q' : Int) * 4294967296 + (q : Int) := IntWalk.u64_in _ (by clear hT1 hT2 hL1 hL2; omega)
                have eS3 : ((q + Q' * 4294967296 : Nat) : Int) = (Q' : Int) * 4294967296 + (q : Int) := by clear hT1 hT2 hL1 hL2; omega
                have HF := Lib.hid (show ((QQ : Nat) : Int) = (Q' : Int) * 4294967296 + (q : Int) ∧ ((RR : Nat) : Int) = (R : Int) / 2 ^ s from ⟨by rw [← HQQ.out, eF, eS3], by rw [← HRR.out, eG, eRs]⟩)
                clear hT1 hT2 hL1 hL2 hR hRY eF eG eRs eS3
                go_wp2_with fail
                go_ret2
                exact ⟨ret_two HF.out.1.symm HF.out.2.symm, Drawn.more 0⟩
end Go.Proofs.Ytbgaboboakkimaa
/- div's small functions: trimmed, giveBack, takeAway, guess. Conditions: as typed (lengths that fit a machine; the divisor lies apart from the row). -/
namespace Go.Proofs.Ytbgaboboakkimaa
open Go.RowKit
set_option maxRecDepth 20000
theorem dtrim_any (A : Option Addr) (c : Nat) (a : List Nat) (w : World) (B : Nat) (hr : Rd .u64 w B A a) (hw : Words a) (hl : a.length ≤ 1000000) (hc : a.length ≤ c) :
    Calls Try.prog 74 #[.slice A a.length c] w fun e w' => e = .returned (.slice A (tl a) c) ∧ w = w' := by
  have Q := Lib.hid (bits_q A c a w B hr hw hl hc)
  have hle := tl_le a hw
  have hb := nbits_natOf a hw
  have ht : ((nbits (natOf a) : Int) + 64 - 1) / 64 = (tl a : Int) := by unfold tl; omega
  have ht2 : ((nbits (natOf a) : Int) + 63) / 64 = (tl a : Int) := by unfold tl; omega
  clear hr
  go_enter Try.func74, Try.ntmps74
  go_wp2_with fail
  refine (Q.out).mono ?_
  rintro e w' ⟨rfl, rfl⟩
  go_wp2_with fail
  go_ret
  exact ⟨rfl, rfl⟩
set_option maxHeartbeats 1000000 in
theorem give_any (base g K cap c1 p n c2 : Nat) (L ys : List Nat) (A2 : Option Addr) (w : World) (hown : w.ownsRow base 33 1 (.slice (some ⟨g, 0, none⟩) K cap) K (ints .u64 L)) (hL : Words L) (hlen : L.length = K) (hy : Rdx .u64 w g A2 ys) (hwy : Words ys) (hm : ys.length = n)
    (hp : p + n + 1 ≤ K) (hK : K ≤ 1000000) :
    Calls Try.prog 78 #[.slice (some ⟨g, p, none⟩) (n + 1 : Nat) c1, .slice A2 n c2] w fun e w' => ∃ L' c, e = .returned (.int .u64 ((c : Nat) : Int)) ∧ c ≤ 1 ∧ Gives K p (natOf ys) (n + 1) c (natOf L) L L' ∧
      w'.ownsRow base 33 1 (.slice (some ⟨g, 0, none⟩) K cap) K (ints .u64 L') ∧ w.grownBy w' (some g) := by
  subst hm
  have hS := Gives.start K p L hlen hL
  go_enter Try.func78, Try.ntmps78
  go_wp2_with fail
  go_loopw [9, 4] (fun j cy wr => ∃ (i C : Nat) (L' : List Nat), i ≤ ys.length ∧ j = .int .i64 i ∧ cy = .int .u64 C ∧ C ≤ 1 ∧ Gives K p (natOf (ys.take i)) i C (natOf L) L L' ∧ wr.ownsRow base 33 1 (.slice (some ⟨g, 0, none⟩) K cap) K (ints .u64 L') ∧ w.grownBy wr (some g)) (fun j _ _ => ys.length - (intOf j).toNat)
  case atStart => exact ⟨0, 0, L, Nat.zero_le _, rfl, rfl, by omega, by simpa [natOf] using hS, hown, World.grownBy.refl w _⟩
  case round =>
    obtain ⟨i, C, L', hi, rfl, rfl, hC, hS', hown', hg⟩ := hrel
    clear hown hS
    have hll := hS'.len
    have hLl := nth_lt L' hS'.words (p + i)
    have hco : wr.cell? ⟨g, p + i, none⟩ = some (.int .u64 (nth L' (p + i) : Int)) := by rw [hown'.cellAt _ (by omega), ints_get _ _ _ (by omega)]
    have hfo : wr.frozen? ⟨g, p + i, none⟩ = false := hown'.frozenAt _
    by_cases hlt : i < ys.length
    · obtain ⟨b, off, rfl, _, hcell⟩ := hy.grown hg (by omega)
      have hx1 := hcell i hlt
      have hxl := nth_lt ys hwy i
      obtain ⟨s, hs⟩ : ∃ s, nth L' (p + i) + nth ys i + C = s := ⟨_, rfl⟩
      have hadd := add64_run (nth L' (p + i)) (nth ys i) C hC
      rw [hs] at hadd
      have hst := hown'.stored (p + i) (.int .u64 ((s % 18446744073709551616 : Nat) : Int))
      rw [ints_set] at hst
      have hSS := hS'.step (by omega) s _ hs (natOf_take_succ ys i)
      have hc1 : s / 18446744073709551616 ≤ 1 := by omega
      obtain ⟨s0, hs0⟩ : ∃ s0, s % 18446744073709551616 = s0 := ⟨_, rfl⟩
      obtain ⟨s1, hs1⟩ : ∃ s1, s / 18446744073709551616 = s1 := ⟨_, rfl⟩
      rw [hs0] at hadd hst hSS
      rw [hs1] at hadd hSS hc1
      have HO := Lib.hid hst.1
      have HG := Lib.hid (hg.trans (grown_setCell wr ⟨g, p + i, none⟩ (.int .u64 (s0 : Int))))
      have HS := Lib.hid hSS
      clear hst hSS hs hs0 hs1 hcell hown' hS' hll hy
      go_wp2_with fail
      go_roundw
      case rel => exact ⟨i + 1, s1, L'.set (p + i) s0, by omega, by go_num, rfl, hc1, HS.out, HO.out, HG.out⟩
      case measure => simp [intOf]; omega
    · obtain rfl : i = ys.length := by omega
      rw [List.take_length] at hS'
      obtain ⟨s, hs⟩ : ∃ s, nth L' (p + ys.length) + 0 + C = s := ⟨_, rfl⟩
      have hadd : ∀ w : World, (callFunc 49 #[.int .u64 (nth L' (p + ys.length) : Int), .int .u64 0, .int .u64 C]).run Try.prog w = .ok (.value (.tuple #[.int .u64 ((s % 18446744073709551616 : Nat) : Int), .int .u64 ((s / 18446744073709551616 : Nat) : Int)])) w := by
        rw [← hs]
        exact add64_run (nth L' (p + ys.length)) 0 C hC
      have hst := hown'.stored (p + ys.length) (.int .u64 ((s % 18446744073709551616 : Nat) : Int))
      rw [ints_set] at hst
      have hSS := hS'.step (by omega) s (natOf ys) hs (by rw [Nat.mul_zero, Nat.add_zero])
      have hc1 : s / 18446744073709551616 ≤ 1 := by omega
      obtain ⟨s0, hs0⟩ : ∃ s0, s % 18446744073709551616 = s0 := ⟨_, rfl⟩
      obtain ⟨s1, hs1⟩ : ∃ s1, s / 18446744073709551616 = s1 := ⟨_, rfl⟩
      rw [hs0] at hadd hst hSS
      rw [hs1] at hadd hSS hc1
      have HO := Lib.hid hst.1
      have HG := Lib.hid (hg.trans (grown_setCell wr ⟨g, p + ys.length, none⟩ (.int .u64 (s0 : Int))))
      have HS := Lib.hid hSS
      clear hst hSS hs hs0 hs1 hown' hS' hll hy hlt
      go_wp2_with fail
      go_ret
      exact ⟨L'.set (p + ys.length) s0, s1, rfl, hc1, HS.out, HO.out, HG.out⟩
set_option maxHeartbeats 1000000 in
theorem take_any (base g K cap c1 p n c2 x : Nat) (L ys : List Nat) (A2 : Option Addr) (w : World) (hown : w.ownsRow base 33 1 (.slice (some ⟨g, 0, none⟩) K cap) K (ints .u64 L)) (hL : Words L) (hlen : L.length = K) (hy : Rdx .u64 w g A2 ys) (hwy : Words ys) (hm : ys.length = n)
    (hp : p + n + 1 ≤ K) (hK : K ≤ 1000000) (hx : x < 18446744073709551616) :
    Calls Try.prog 77 #[.slice (some ⟨g, p, none⟩) (n + 1 : Nat) c1, .slice A2 n c2, .int .u64 (x : Int)] w fun e w' => ∃ L' o, e = .returned (.int .u64 ((o : Nat) : Int)) ∧ o ≤ 1 ∧ Takes K p x (natOf ys) (n + 1) o (natOf L) L L' ∧
      w'.ownsRow base 33 1 (.slice (some ⟨g, 0, none⟩) K cap) K (ints .u64 L') ∧ w.grownBy w' (some g) := by
  subst hm
  have hS := Takes.start K p x L hlen hL
  go_enter Try.func77, Try.ntmps77
  go_wp2_with fail
  go_loopw [15, 6, 7] (fun j ov vv wr => ∃ (i o v : Nat) (L' : List Nat), i ≤ ys.length ∧ j = .int .i64 i ∧ ov = .int .u64 o ∧ vv = .int .u64 v ∧ o ≤ 1 ∧ v < 18446744073709551616 ∧ Takes K p x (natOf (ys.take i)) i (v + o) (natOf L) L L' ∧ wr.ownsRow base 33 1 (.slice (some ⟨g, 0, none⟩) K cap) K (ints .u64 L') ∧ w.grownBy wr (some g)) (fun j _ _ _ => ys.length - (intOf j).toNat)
  case atStart => exact ⟨0, 0, 0, L, Nat.zero_le _, rfl, rfl, rfl, by omega, by omega, by simpa [natOf] using hS, hown, World.grownBy.refl w _⟩
  case round =>
    obtain ⟨i, o, v, L', hi, rfl, rfl, rfl, ho, hv, hS', hown', hg⟩ := hrel
    clear hown hS
    have hll := hS'.len
    have hLl := nth_lt L' hS'.words (p + i)
    have hco : wr.cell? ⟨g, p + i, none⟩ = some (.int .u64 (nth L' (p + i) : Int)) := by rw [hown'.cellAt _ (by omega), ints_get _ _ _ (by omega)]
    have hfo : wr.frozen? ⟨g, p + i, none⟩ = false := hown'.frozenAt _
    by_cases hlt : i < ys.length
    · obtain ⟨b, off, rfl, _, hcell⟩ := hy.grown hg (by omega)
      have hx1 := hcell i hlt
      have hxl := nth_lt ys hwy i
      have hpr : x * nth ys i ≤ 18446744073709551615 * 18446744073709551615 := Nat.mul_le_mul (by omega) (by omega)
      obtain ⟨e1, e2⟩ := take_step x (nth ys i) v (nth L' (p + i)) o hx hxl hv hLl ho
      have M := Try.bits_Mul64 x (nth ys i) hx hxl wr
      have A1 : ∀ w : World, (callFunc 49 #[.int .u64 ((x * nth ys i % 18446744073709551616 : Nat) : Int), .int .u64 (v : Int), .int .u64 0]).run Try.prog w = .ok (.value (.tuple #[.int .u64 (((x * nth ys i % 18446744073709551616 + v) % 18446744073709551616 : Nat) : Int), .int .u64 (((x * nth ys i % 18446744073709551616 + v) / 18446744073709551616 : Nat) : Int)])) w :=
        fun w => add64_run (x * nth ys i % 18446744073709551616) v 0 (by omega) w
      have A2 := fun w => sub64_run (nth L' (p + i)) ((x * nth ys i % 18446744073709551616 + v) % 18446744073709551616) o ho w
      obtain ⟨s0, hs0⟩ : ∃ s0, (nth L' (p + i) + 18446744073709551616 - (x * nth ys i % 18446744073709551616 + v) % 18446744073709551616 - o) % 18446744073709551616 = s0 := ⟨_, rfl⟩
      obtain ⟨o2, ho2⟩ : ∃ o2, (if nth L' (p + i) < (x * nth ys i % 18446744073709551616 + v) % 18446744073709551616 + o then 1 else 0 : Nat) = o2 := ⟨_, rfl⟩
      have ho2' : o2 ≤ 1 := by rw [← ho2]; split <;> omega
      have hs0' : s0 < 18446744073709551616 := by rw [← hs0]; exact Nat.mod_lt _ (by omega)
      rw [hs0, ho2] at e2 A2
      have hSS := hS'.step (y := nth ys i) (by omega) s0 _ _ hs0' e2 (natOf_take_succ ys i)
      have hst := hown'.stored (p + i) (.int .u64 (s0 : Int))
      rw [ints_set] at hst
      clear hs0 ho2 e2
      generalize (x * nth ys i % 18446744073709551616 + v) % 18446744073709551616 = l1 at *
      generalize (x * nth ys i % 18446744073709551616 + v) / 18446744073709551616 = c1' at *
      generalize x * nth ys i % 18446744073709551616 = lo at *
      generalize x * nth ys i / 18446744073709551616 = hh at *
      have HO := Lib.hid hst.1
      have HG := Lib.hid (hg.trans (grown_setCell wr ⟨g, p + i, none⟩ (.int .u64 (s0 : Int))))
      have HS := Lib.hid hSS
      have HM := Lib.hid M
      clear hst hSS hcell hown' hS' hll hy M hpr
      go_wp2_with fail
      refine (HM.out).mono ?_
      rintro e w' ⟨rfl, rfl⟩
      go_wp2_with fail
      go_roundw
      case rel => exact ⟨i + 1, o2, hh + c1', L'.set (p + i) s0, by omega, by go_num, rfl, by go_num, ho2', e1, HS.out, HO.out, HG.out⟩
      case measure => simp [intOf]; omega
    · obtain rfl : i = ys.length := by omega
      rw [List.take_length] at hS'
      have e2 := last_step v (nth L' (p + ys.length)) o hv hLl ho
      have A2 := fun w => sub64_run (nth L' (p + ys.length)) v o ho w
      obtain ⟨s0, hs0⟩ : ∃ s0, (nth L' (p + ys.length) + 18446744073709551616 - v - o) % 18446744073709551616 = s0 := ⟨_, rfl⟩
      obtain ⟨o2, ho2⟩ : ∃ o2, (if nth L' (p + ys.length) < v + o then 1 else 0 : Nat) = o2 := ⟨_, rfl⟩
      have ho2' : o2 ≤ 1 := by rw [← ho2]; split <;> omega
      have hs0' : s0 < 18446744073709551616 := by rw [← hs0]; exact Nat.mod_lt _ (by omega)
      rw [hs0, ho2] at e2 A2
      have hSS := hS'.step (y := 0) (by omega) s0 (natOf ys) o2 hs0' (by rw [Nat.mul_zero, Nat.add_zero]; exact e2) (by rw [Nat.mul_zero, Nat.add_zero])
      have hst := hown'.stored (p + ys.length) (.int .u64 (s0 : Int))
      rw [ints_set] at hst
      have HO := Lib.hid hst.1
      have HG := Lib.hid (hg.trans (grown_setCell wr ⟨g, p + ys.length, none⟩ (.int .u64 (s0 : Int))))
      have HS := Lib.hid hSS
      clear hst hSS hs0 ho2 hown' hS' hll hy hlt e2
      go_wp2_with fail
      go_ret
      exact ⟨L'.set (p + ys.length) s0, o2, rfl, ho2', HS.out, HO.out, HG.out⟩
/-- What a place is guessed to be. -/
def guessV (hi lo f : Nat) : Nat := if f ≤ hi then 18446744073709551615 else (hi * 18446744073709551616 + lo) / f
set_option maxHeartbeats 1000000 in
theorem guess_any (g p m c1 c2 hi lo f : Nat) (A2 : Option Addr) (b off : Nat) (w : World) (hA : A2 = some ⟨b, off, none⟩) (hm : m ≤ 1000000)
    (h1 : w.cell? ⟨g, p + (m + 1), none⟩ = some (.int .u64 (hi : Int))) (h2 : w.cell? ⟨g, p + m, none⟩ = some (.int .u64 (lo : Int))) (h3 : w.cell? ⟨b, off + m, none⟩ = some (.int .u64 (f : Int)))
    (_ : hi < 18446744073709551616) (b2 : lo < 18446744073709551616) (b3 : f < 18446744073709551616) :
    Calls Try.prog 76 #[.slice (some ⟨g, p, none⟩) (m + 1 + 1 : Nat) c1, .slice A2 (m + 1 : Nat) c2] w fun e w' => e = .returned (.int .u64 (guessV hi lo f : Nat)) ∧ Drawn w w' := by
  subst hA
  by_cases hle : f ≤ hi
  · have hv := Lib.hid (show guessV hi lo f = 18446744073709551615 from if_pos hle)
    go_enter Try.func76, Try.ntmps76
    go_wp2_with fail
    go_quiet (fail)
    go_wp2_with fail
    go_ret
    exact ⟨ret_num (by rw [hv.out]; rfl), Drawn.more _⟩
  · have hv := Lib.hid (show guessV hi lo f = (hi * 18446744073709551616 + lo) / f from if_neg hle)
    obtain ⟨q, hq⟩ : ∃ q, (hi * 18446744073709551616 + lo) / f = q := ⟨_, rfl⟩
    obtain ⟨r, hr⟩ : ∃ r, (hi * 18446744073709551616 + lo) % f = r := ⟨_, rfl⟩
    have D := fun u => div64_any hi lo f u (by omega) b3 b2
    rw [hq, hr] at D
    rw [hq] at hv
    have HD := Lib.hid D
    clear D hq hr
    go_enter Try.func76, Try.ntmps76
    go_wp2_with fail
    go_quiet (fail)
    go_wp2_with fail
    refine (HD.out _).mono ?_
    rintro e w' ⟨rfl, n1, rfl⟩
    go_wp2_with fail
    go_ret
    exact ⟨ret_num (by rw [hv.out]), Drawn.more _⟩
end Go.Proofs.Ytbgaboboakkimaa
/- slices.Backward over a row that a loop's body may write: as what the loop may rely on. Conditions: as typed (a length that fits a machine). -/
namespace Go.Proofs.Ytbgaboboakkimaa
open Go.RowKit Go.Shelf
set_option maxRecDepth 20000
attribute [local go_sem] Oper.semAt_some
/-- The slice reads as m words of which P holds. -/
def RdP (A : Option Addr) (m : Nat) (P : List Nat → Prop) (W : World) : Prop := ∃ l, l.length = m ∧ Words l ∧ P l ∧ Rd .u64 W W.heap.size A l
/-- What a round keeps: the iterator's box, and that the slice reads as words of which P holds. -/
def KpR (p : Nat) (A : Option Addr) (m : Nat) (P : List Nat → Prop) (W W' : World) : Prop := W'.heap[p]? = W.heap[p]? ∧ (RdP A m P W → RdP A m P W')
theorem KpR.t {p m : Nat} {A : Option Addr} {P : List Nat → Prop} {X Y Z : World} (h : KpR p A m P X Y) (k : KpR p A m P Y Z) : KpR p A m P X Z := ⟨k.1.trans h.1, fun r => k.2 (h.2 r)⟩
theorem KpR.b {p m : Nat} {A : Option Addr} {P : List Nat → Prop} {w : World} (hp : p < w.heap.size) (W : World) (l : Nat) (o o' : Obj) (hl : w.heap.size ≤ l) (h : W.heap[l]? = some o) (h1 : o.isCells = false) (_ : o.isWalk = false) : KpR p A m P W (W.putObj l o') := by
  have hg := grownBy_putObj' W l o'
  have hlt := (Array.getElem?_eq_some_iff.1 h).1
  refine ⟨hg.block p (by omega) (by simp; omega), ?_⟩
  rintro ⟨xs, e1, e2, e3, e4⟩
  refine ⟨xs, e1, e2, e3, fun h0 => ?_⟩
  obtain ⟨b, off, e, hb, hc⟩ := e4 h0
  exact ⟨b, off, e, Nat.lt_of_lt_of_le hb hg.size, fun j hj => cell_kept (hc j hj) hg (fun r e => by cases e; exact ⟨o, h, h1⟩)⟩
/-- What has come: the places from the last on, each with a word that stood there. -/
structure Downs {m : Nat} (P : List Nat → Prop) (ys : List (WI m)) : Prop where
  at_ : ∀ k (h : k < ys.length), (ys[k]).1.1 = m - 1 - k
  val : ∀ x ∈ ys, ∃ l, l.length = m ∧ Words l ∧ P l ∧ x.1.2 = nth l x.1.1
theorem Downs.nil {m : Nat} {P : List Nat → Prop} : Downs (m := m) P [] := ⟨fun k h => by simp at h, fun x h => by cases h⟩
theorem Downs.snoc {m : Nat} {P : List Nat → Prop} {ys : List (WI m)} (h : Downs P ys) (x : WI m) (hx : x.1.1 = m - 1 - ys.length) (hv : ∃ l, l.length = m ∧ Words l ∧ P l ∧ x.1.2 = nth l x.1.1) : Downs P (ys ++ [x]) where
  at_ := fun k hk => by
    rw [List.getElem_append]
    split
    · exact h.at_ k _
    · rw [List.length_append, List.length_singleton] at hk
      have : k = ys.length := by omega
      subst this
      simpa using hx
  val := fun y hy => by
    rcases List.mem_append.1 hy with h1 | h1
    · exact h.val y h1
    · simp at h1
      subst h1
      exact hv
theorem Downs.ini {m : Nat} {P : List Nat → Prop} {ys : List (WI m)} {x : WI m} (h : Downs P (ys ++ [x])) : Downs P ys ∧ x.1.1 = m - 1 - ys.length ∧ ∃ l, l.length = m ∧ Words l ∧ P l ∧ x.1.2 = nth l x.1.1 := by
  refine ⟨⟨fun k hk => ?_, fun y hy => h.val y (List.mem_append.2 (.inl hy))⟩, ?_, h.val x (List.mem_append.2 (.inr (by simp)))⟩
  · have := h.at_ k (by simp; omega)
    rwa [List.getElem_append_left hk] at this
  · have := h.at_ ys.length (by simp)
    simpa using this
set_option maxRecDepth 100000 in
set_option maxHeartbeats 2000000 in
theorem backR_in (n : Nat) (hn : 1 ≤ n) (l p m c : Nat) (A : Option Addr) (P : List Nat → Prop) (hm : m ≤ 1000000) (J Jx : List (WI m) → World → Prop) (W : World)
    (hY : ∀ pre x W, J pre W → pre.length < m → YieldAt Fence.wide (n - 1) Try.prog l #[.int .i64 (x.1.1 : Int), .int .u64 (x.1.2 : Int)] W fun e W' =>
      (e = .returned (.bool true) ∧ J (pre ++ [x]) W' ∧ KpR p A m P W W') ∨ (e = .returned (.bool false) ∧ Jx (pre ++ [x]) W'))
    (hp : Boxed W p 23 (.slice A m c)) (hra : RdP A m P W) (h0 : J [] W) :
    CallsIn Fence.wide n Try.prog 71 #[.func (.yield l) #[] #[], .pointer (some ⟨p, 0, none⟩)] W fun e W' => (∃ v, e = .returned v) ∧
      ((∃ ys, (Downs P ys ∧ ys.length = m) ∧ J ys W') ∨ (∃ pre, True ∧ Jx pre W')) := by
  have hpc := hp.cell
  refine callsIn_of_wp Try.func71 rfl trivial ?_ rfl
  simp only [Try.ntmps71, List.size_toArray, List.length_cons, List.length_nil, Nat.reduceAdd, Nat.reduceSub, Array.replicate_succ, Array.replicate_zero, List.push_toArray, List.append_toArray, List.nil_append, List.cons_append]
  gi_wp2
  gi_loopw [3] (fun i wr => ∃ (k : Nat) (ys : List (WI m)), k ≤ m ∧ i = .int .i64 ((k : Int) - 1) ∧ ys.length = m - k ∧ Downs P ys ∧ J ys wr ∧ wr.heap[p]? = W.heap[p]? ∧ RdP A m P wr) (fun i _ => (intOf i + 1).toNat)
  case atStart => exact ⟨m, [], Nat.le_refl _, rfl, by simp, Downs.nil, h0, rfl, hra⟩
  case round =>
    obtain ⟨k, ys, hk, rfl, hyl, hds, hJs, hbx, hrd⟩ := hrel
    by_cases hlt : 0 < k
    · obtain ⟨i, rfl⟩ : ∃ i, k = i + 1 := ⟨k - 1, by omega⟩
      have hpc1 : wr.cell? ⟨p, 0, none⟩ = some (.slice A m c) := by
        rw [← hpc]
        exact World.cell?_of_block hbx
      obtain ⟨xs, hx1, hx2, hx3, hx4⟩ := hrd
      have hrd' : RdP A m P wr := ⟨xs, hx1, hx2, hx3, hx4⟩
      obtain ⟨b, off, rfl, hb, hcell⟩ := hx4 (by omega)
      have hx := hcell i (by omega)
      clear hcell
      have hY1 := hY ys ⟨(i, nth xs i), by omega, nth_lt xs hx2 i⟩ wr hJs (by omega)
      have HD := Lib.hid (hds.snoc ⟨(i, nth xs i), by omega, nth_lt xs hx2 i⟩ (by show i = m - 1 - ys.length; omega) ⟨xs, hx1, hx2, hx3, rfl⟩)
      have HL := Lib.hid (show (ys ++ [(⟨(i, nth xs i), by omega, nth_lt xs hx2 i⟩ : WI m)]).length = m - i by rw [List.length_append, List.length_singleton]; omega)
      have HR := Lib.hid hrd'
      have HB := Lib.hid hbx
      dsimp only at hY1
      obtain ⟨fn, tmps, assign, body, hy, hR⟩ := hY1
      clear hpc hrd' hbx hra h0 hx3 hds
      rw [show ((i + 1 : Nat) : Int) - 1 = (i : Int) by omega]
      gi_wp2
      refine hR.mono ?_
      rintro e W3 (⟨rfl, hJ3, hk3⟩ | ⟨rfl, hJx3⟩)
      · gi_wp2
        go_roundw
        case rel => exact ⟨i, _, by omega, rfl, HL.out, HD.out, hJ3, hk3.1.trans HB.out, hk3.2 HR.out⟩
        case measure => simp [intOf] <;> omega
      · gi_wp2
        refine bodyPost_ret (results_none rfl _ _ _) rfl ?_
        exact ⟨⟨_, rfl⟩, .inr ⟨_, trivial, hJx3⟩⟩
    · obtain rfl : k = 0 := by omega
      gi_wp2
      go_end0
      exact ⟨⟨_, rfl⟩, .inl ⟨ys, ⟨hds, by omega⟩, hJs⟩⟩
theorem backR_stops (n : Nat) (hn : 1 ≤ n) (p m c : Nat) (A : Option Addr) (P : List Nat → Prop) (hm : m ≤ 1000000) (w : World) (hp : Boxed w p 23 (.slice A m c)) (hra : RdP A m P w) :
    SeqStopsK Fence.wide n Try.prog 71 #[.pointer (some ⟨p, 0, none⟩)] (fun x : WI m => #[Value.int .i64 (x.1.1 : Int), Value.int .u64 (x.1.2 : Int)]) (KpR p A m P)
      (fun ys => Downs P ys ∧ ys.length = m) (fun _ => True) m w := fun l J Jx W hW _ _ hY h0 =>
  backR_in n hn l p m c A P hm J Jx W hY ((hW.block p hp.lt).trans hp) (by
    obtain ⟨xs, e1, e2, e3, e4⟩ := hra
    exact ⟨xs, e1, e2, e3, (e4.below hW).more hW.size⟩) h0
end Go.Proofs.Ytbgaboboakkimaa
/- A region that draws its order, inside a loop's round: what reads stable memory, or none, may be taken first. No condition but those typed; no program is named. -/
namespace Go.Proofs.Ytbgaboboakkimaa
open Go Go.RowKit
section
variable {F : Fence} {n : Nat} {P : Program} {ops : Array Oper} {Q : Exit → Act → World → Prop} {md : Region.Mode}
/-- An operation does not mind a slot that it neither reads nor writes. -/
theorem op_put {j : Nat} {oj : Oper} {d : Option Tmp} {v : Value} (hj : ops[j]? = some oj) (hl : ∀ x, d = some x → x ∉ oj.looksAt ops) (hne : ∀ x, d = some x → oj.dst ≠ some x)
    (hsel : ∀ cs b, oj.op ≠ .select cs b) (hdef : ∀ c, oj.op ≠ .defer c) (hQ : ∀ c a w, Q (.panic c) (a.put d v) w → Q (.panic c) a w) {K : Act → World → Prop} {a : Act} {w : World}
    (h : wpOpIn F n P ops Q j K (a.put d v) w) : wpOpIn F n P ops Q j (fun a' w' => ((∃ u, a' = a.put oj.dst u) ∨ ∃ e u, a' = { a with defers := e :: a.defers }.put oj.dst u) ∧ K (a'.put d v) w') a w := by
  unfold wpOpIn at *
  simp only [hj] at *
  rw [wanted_put oj a d v hl, about_put oj w a d v hl] at h
  by_cases hw : Region.wanted oj (yielded ops a.tmps) = true
  · rw [if_pos hw] at h ⊢
    unfold Oper.wpIn at *
    rw [about_put oj w a d v hl, Oper.semAt_eq _ _ _ hdef, execOp_put oj hsel a d v hl] at h
    rw [Oper.semAt_eq _ _ _ hdef]
    refine ⟨h.1, ?_⟩
    replace h := h.2
    generalize (execOp a.eval oj).run P w = r at *
    cases r with
    | ok x w' =>
      cases x <;> simp only [Oper.uponIn] at h ⊢
      case value u => exact ⟨.inl ⟨u, rfl⟩, by rw [← Act.put_comm a v u hne]; exact h⟩
      case skip => exact ⟨.inl ⟨undef, rfl⟩, by rw [← Act.put_comm a v undef hne]; exact h⟩
      case defer e => exact ⟨.inr ⟨e, undef, rfl⟩, by rw [← Act.put_comm _ v undef hne, ← Act.put_defers]; exact h⟩
      case enter f args =>
        refine ⟨h.1, CallsIn.mono h.2 fun e w'' he => ?_⟩
        cases e with
        | returned u => exact ⟨.inl ⟨u, rfl⟩, by rw [← Act.put_comm a v u hne]; exact he⟩
        | panicked c => exact hQ _ _ _ he
        | outgrown => exact he
      case row row args => exact ⟨h.1, RowsIn.mono h.2 fun u w'' he => ⟨.inl ⟨u, rfl⟩, by rw [← Act.put_comm a v u hne]; exact he⟩⟩
      case round l f tmps assign body =>
        refine ⟨h.1, RoundIn.mono h.2 fun e w'' he => ?_⟩
        cases e with
        | returned u => exact ⟨.inl ⟨u, rfl⟩, by rw [← Act.put_comm a v u hne]; exact he⟩
        | panicked c => exact hQ _ _ _ he
        | outgrown => exact he
    | halt x w' =>
      cases x <;> simp only [Oper.uponIn] at h ⊢
      case panic u => exact hQ _ _ _ h
  · rw [if_neg hw] at h ⊢
    exact ⟨h.1, .inl ⟨undef, rfl⟩, by rw [← Act.put_comm a v undef hne]; exact h.2⟩
/-- Whatever order is drawn: as wpAnyIn has it, and the world is such as B says till operation s has run. -/
def anyG (F : Fence) (n : Nat) (P : Program) (md : Region.Mode) (ops : Array Oper) (Q : Exit → Act → World → Prop) (s : Nat) (B : World → Prop) : Nat → Array Bool → Act → World → Prop
  | 0, listed, a, w => (listed.getD s true = false → B w) ∧ Region.ready md ops listed = [] ∧ Q .normal a w
  | fuel + 1, listed, a, w => (listed.getD s true = false → B w) ∧ (Region.ready md ops listed = [] → Q .normal a w) ∧
    ∀ i ∈ Region.ready md ops listed, wpOpIn F n P ops Q i (anyG F n P md ops Q s B fuel (listed.setIfInBounds i true)) a w
variable {s : Nat} {B : World → Prop}
theorem anyG.good {fuel : Nat} {listed : Array Bool} {a : Act} {w : World} (h : anyG F n P md ops Q s B fuel listed a w) : listed.getD s true = false → B w := by
  cases fuel <;> exact h.1
theorem anyG.toAny : ∀ {fuel : Nat} {listed : Array Bool} {a : Act} {w : World}, anyG F n P md ops Q s B fuel listed a w → wpAnyIn F n P md ops Q fuel listed a w := by
  intro fuel
  induction fuel with
  | zero => exact fun h => h.2
  | succ fuel ih => exact fun h => ⟨h.2.1, fun i hi => wpOpIn_mono (fun _ _ => ih) (h.2.2 i hi)⟩
/-- It runs to v, the world being as it was, wherever the world is such as B says. -/
def Held (P : Program) (ops : Array Oper) (B : World → Prop) (o : Oper) (v : Value) (a : Act) : Prop :=
  Region.wanted o (yielded ops a.tmps) = true ∧ ∀ w, B w → (execOp a.eval o).run P w = .ok (.value v) w ∧ o.about P w a.eval = none
theorem Held.op {i : Nat} {o : Oper} {v : Value} {a : Act} (hi : ops[i]? = some o) (hdef : ∀ c, o.op ≠ .defer c) (hy : Held P ops B o v a) {K : Act → World → Prop} {w : World} (hB : B w) (h : K (a.put o.dst v) w) : wpOpIn F n P ops Q i K a w := by
  unfold wpOpIn
  simp only [hi]
  obtain ⟨e1, e2⟩ := hy.2 w hB
  rw [if_pos hy.1]
  unfold Oper.wpIn
  rw [Oper.semAt_eq _ _ _ hdef, e1, e2]
  exact ⟨fun f hf => (by cases hf), h⟩
theorem Held.put {o oj : Oper} {v u : Value} {a : Act} (hy : Held P ops B o v a) (hsel : ∀ cs b, o.op ≠ .select cs b) (h : ∀ d, oj.dst = some d → d ∉ o.looksAt ops) : Held P ops B o v (a.put oj.dst u) := by
  refine ⟨by rw [wanted_put o a oj.dst u h]; exact hy.1, fun w hB => ?_⟩
  rw [execOp_put o hsel a oj.dst u h, about_put o w a oj.dst u h]
  exact hy.2 w hB
theorem anyG_first {i : Nat} {oi os : Oper} {v : Value} (hi : ops[i]? = some oi) (hsel : ∀ (j : Nat) (o : Oper) cs b, ops[j]? = some o → o.op ≠ .select cs b) (hdef : ∀ (j : Nat) (o : Oper) c, ops[j]? = some o → o.op ≠ .defer c)
    (hs : ops[s]? = some os) (hse : ∃ e ∈ os.after, Region.binds md e = true ∧ e.on = i) (his : i ≠ s) (hQ : ∀ c a w, Q (.panic c) (a.put oi.dst v) w → Q (.panic c) a w) :
    ∀ (fuel : Nat) (listed : Array Bool) (a : Act) (w : World),
      (∀ j oj, ops[j]? = some oj → j ≠ i → listed.getD j true = false → (∀ e ∈ oj.after, Region.binds md e = true → e.on ≠ i) → oi.apart ops oj = true) →
      i ∈ Region.ready md ops listed → listed.getD s true = false → Held P ops B oi v a →
      anyG F n P md ops Q s B fuel (listed.setIfInBounds i true) (a.put oi.dst v) w → anyG F n P md ops Q s B (fuel + 1) listed a w := by
  intro fuel
  induction fuel with
  | zero =>
    intro listed a w _ hr hl hy H
    have hB : B w := H.good (by rw [getD_set_ne true his]; exact hl)
    refine ⟨fun _ => hB, fun h => (by rw [h] at hr; cases hr), fun j hj => ?_⟩
    by_cases hji : j = i
    · subst hji; exact hy.op hi (fun c => hdef _ _ c hi) hB H
    · have := ready_mono hj hji
      rw [H.2.1] at this
      cases this
  | succ fuel ih =>
    intro listed a w hfree hr hl hy H
    have hB : B w := H.good (by rw [getD_set_ne true his]; exact hl)
    refine ⟨fun _ => hB, fun h => (by rw [h] at hr; cases hr), fun j hj => ?_⟩
    by_cases hji : j = i
    · subst hji; exact hy.op hi (fun c => hdef _ _ c hi) hB H
    · have h1 := H.2.2 j (ready_mono hj hji)
      obtain ⟨hjun, oj, hoj, hall⟩ := mem_ready.1 hj
      have hnot : ∀ e ∈ oj.after, Region.binds md e = true → e.on ≠ i := fun e he hb heq => by
        have h1 := hall e he hb
        have h0 := (mem_ready.1 hr).1
        rw [heq] at h1
        rcases Nat.lt_or_ge i listed.size with h' | h'
        · simp [h'] at h0 h1; rw [h0] at h1; cases h1
        · simp [Array.getElem?_eq_none h'] at h1
      have hjs : j ≠ s := fun e => by
        subst e
        rw [hs] at hoj
        cases hoj
        obtain ⟨e, he, hb, heq⟩ := hse
        exact hnot e he hb heq
      obtain ⟨p1, p2, p3⟩ := Oper.apart_spec (hfree j oj hoj hji hjun hnot)
      have h2 := op_put hoj p1 p2 (fun cs b => hsel j oj cs b hoj) (fun c => hdef j oj c hoj) hQ h1
      have hfree' : ∀ k ok, ops[k]? = some ok → k ≠ i → (listed.setIfInBounds j true).getD k true = false →
          (∀ e ∈ ok.after, Region.binds md e = true → e.on ≠ i) → oi.apart ops ok = true := fun k ok hk hki hun hno => by
        refine hfree k ok hk hki ?_ hno
        by_cases hjk : j = k
        · subst hjk; exact hjun
        · rw [getD_set_ne true hjk] at hun; exact hun
      refine wpOpIn_mono (fun a' w' h3 => ih (listed.setIfInBounds j true) a' w' hfree' (ready_mono hr (Ne.symm hji)) (by rw [getD_set_ne true hjs]; exact hl) ?_ ?_) h2
      · rcases h3.1 with ⟨u, rfl⟩ | ⟨e, u, rfl⟩
        · exact hy.put (fun cs b => hsel i oi cs b hi) p3
        · exact Held.put (a := { a with defers := e :: a.defers }) hy (fun cs b => hsel i oi cs b hi) p3
      · rw [Array.setIfInBounds_comm _ _ hji]
        exact h3.2
/-- Operations that are no 'defer' and no 'select'. -/
def plainOps (ops : Array Oper) : Bool := ops.all fun o => match o.op with | .select .. => false | .defer .. => false | _ => true
theorem plainOps.sel (h : plainOps ops = true) (j : Nat) (o : Oper) (cs : Array SelectCase) (b : Bool) (ho : ops[j]? = some o) : o.op ≠ .select cs b := fun e => by
  have := Array.all_eq_true_iff_forall_mem.1 h o (Array.mem_of_getElem? ho)
  simp [e] at this
theorem plainOps.def_ (h : plainOps ops = true) (j : Nat) (o : Oper) (c : Call) (ho : ops[j]? = some o) : o.op ≠ .defer c := fun e => by
  have := Array.all_eq_true_iff_forall_mem.1 h o (Array.mem_of_getElem? ho)
  simp [e] at this
/-- Operation s waits for operation i. -/
def waits (md : Region.Mode) (ops : Array Oper) (s i : Nat) : Bool := match ops[s]? with | some o => o.after.any (fun e => Region.binds md e && e.on == i) | none => false
/-- A held operation is taken first. -/
theorem anyG_take {i : Nat} {oi : Oper} {v : Value} {fuel : Nat} {listed : Array Bool} {a : Act} {w : World} (hi : ops[i]? = some oi) (hp : plainOps ops = true) (hf : Region.free md ops listed i = true)
    (hr : (Region.ready md ops listed).contains i = true) (hsw : waits md ops s i = true) (his : (i != s) = true) (hl : listed.getD s true = false) (hQ : ∀ c a w, Q (.panic c) (a.put oi.dst v) w → Q (.panic c) a w)
    (hy : Held P ops B oi v a) (h : anyG F n P md ops Q s B fuel (listed.setIfInBounds i true) (a.put oi.dst v) w) : anyG F n P md ops Q s B (fuel + 1) listed a w := by
  unfold waits at hsw
  cases hs : ops[s]? with
  | none => rw [hs] at hsw; cases hsw
  | some os =>
    rw [hs] at hsw
    obtain ⟨e, he, hb⟩ := Array.any_eq_true'.1 hsw
    simp only [Bool.and_eq_true, beq_iff_eq] at hb
    exact anyG_first hi (plainOps.sel hp) (plainOps.def_ hp) hs ⟨e, he, hb.1, hb.2⟩ (by simpa using his) hQ fuel listed a w (Region.free_spec hi hf) (by simpa using hr) hl hy h
/-- One operation alone may come up. -/
theorem anyG_one {i : Nat} {o : Oper} {fuel : Nat} {listed : Array Bool} {a : Act} {w : World} (hr : Region.ready md ops listed = [i]) (ho : ops[i]? = some o) (hB : listed.getD s true = false → B w)
    (h : ∀ K' : Act → World → Prop, (∀ a w, anyG F n P md ops Q s B fuel (listed.setIfInBounds i true) a w → K' a w) → if Region.wanted o (yielded ops a.tmps) = true then Oper.wpIn F n P o a w K' Q else (∀ f, o.about P w a.eval = some f → F.fn f) ∧ K' (a.put o.dst undef) w) :
    anyG F n P md ops Q s B (fuel + 1) listed a w := by
  refine ⟨hB, fun h0 => (by rw [hr] at h0; cases h0), fun j hj => ?_⟩
  rw [hr, List.mem_singleton] at hj
  subst hj
  exact wpOpIn_step ho h
/-- All have run. -/
theorem anyG_done {fuel : Nat} {listed : Array Bool} {a : Act} {w : World} (hr : Region.ready md ops listed = []) (hs : listed.getD s true = true) (h : Q .normal a w) : anyG F n P md ops Q s B fuel listed a w := by
  cases fuel with
  | zero => exact ⟨fun e => (by rw [hs] at e; cases e), hr, h⟩
  | succ k => exact ⟨fun e => (by rw [hs] at e; cases e), fun _ => h, fun i hi => (by rw [hr] at hi; cases hi)⟩
end
end Go.Proofs.Ytbgaboboakkimaa
/- The contract of the document's Quot: how often a number goes into another one, and what is left, to the base 2. Conditions: as typed (lengths that fit a machine). -/
namespace Go.Proofs.Ytbgaboboakkimaa
open Go.RowKit
set_option maxRecDepth 20000
/-- The quotient's digits from place k on, noughts below. -/
def qs (Q n k : Nat) : List Nat := (List.range n).map fun j => if k ≤ j then bit Q j else 0
theorem length_qs (Q n k : Nat) : (qs Q n k).length = n := by simp [qs]
theorem nth_qs (Q n k j : Nat) (h : j < n) : nth (qs Q n k) j = if k ≤ j then bit Q j else 0 := by
  unfold nth qs
  rw [List.getD_eq_getElem?_getD, List.getElem?_map, List.getElem?_range h]
  rfl
theorem qs_01 (Q n k : Nat) : Bits01 (qs Q n k) := fun x hx => by
  obtain ⟨j, _, rfl⟩ := List.mem_map.1 hx
  have := bit_lt Q j
  split <;> omega
theorem qs_start (Q n : Nat) : qs Q n n = List.replicate n 0 := by
  refine ext_nth _ _ (by simp [length_qs]) fun j hj => ?_
  rw [length_qs] at hj
  rw [nth_qs Q n n j hj, if_neg (by omega)]
  simp [nth, hj]
theorem qs_skip (Q n k : Nat) (h : bit Q k = 0) : qs Q n (k + 1) = qs Q n k := by
  refine ext_nth _ _ (by simp [length_qs]) fun j hj => ?_
  rw [length_qs] at hj
  rw [nth_qs _ _ _ _ hj, nth_qs _ _ _ _ hj]
  rcases Nat.lt_trichotomy j k with h1 | h1 | h1
  · rw [if_neg (by omega), if_neg (by omega)]
  · rw [if_neg (by omega), if_pos (by omega), h1, h]
  · rw [if_pos (by omega), if_pos (by omega)]
theorem qs_set (Q n k : Nat) (h : bit Q k = 1) (hk : k < n) : (qs Q n (k + 1)).set k 1 = qs Q n k := by
  refine ext_nth _ _ (by simp [length_qs]) fun j hj => ?_
  rw [List.length_set, length_qs] at hj
  rw [nth_set _ _ _ _ (by rw [length_qs]; exact hk), nth_qs _ _ _ _ hj, nth_qs _ _ _ _ hj]
  rcases Nat.lt_trichotomy j k with h1 | h1 | h1
  · rw [if_neg (by omega), if_neg (by omega), if_neg (by omega)]
  · rw [if_pos h1, if_pos (by omega), h1, h]
  · rw [if_neg (by omega), if_pos (by omega), if_pos (by omega)]
theorem qs_all (Q n : Nat) (h : Q < 2 ^ n) : bv (qs Q n 0) = Q := by
  have e : qs Q n 0 = bw n Q := by
    refine ext_nth _ _ (by simp [length_qs, length_bw]) fun j hj => ?_
    rw [length_qs] at hj
    rw [nth_qs _ _ _ _ hj, if_pos (by omega), nth_bw _ _ _ hj]
    rfl
  rw [e, bv_bw, Nat.mod_eq_of_lt h]
/-- What is left of the digits from place k on. -/
def rs (M N k : Nat) : Nat := M / 2 ^ k % N
theorem rs_start (M N : Nat) : rs M N (nbits M) = 0 := by unfold rs; rw [Nat.div_eq_of_lt (nbits_lt M), Nat.zero_mod]
theorem rs_end (M N : Nat) : rs M N 0 = M % N := by simp [rs]
theorem rs_lt (M N k : Nat) (h : 0 < N) : rs M N k < N := Nat.mod_lt _ h
theorem half_step (M k : Nat) : M / 2 ^ k = bit M k + 2 * (M / 2 ^ (k + 1)) := by
  unfold bit
  rw [Nat.pow_succ, ← Nat.div_div_eq_div_mul]
  omega
theorem quot_step (M N k : Nat) (h : 0 < N) : (bit M k + 2 * rs M N (k + 1)) / N = bit (M / N) k ∧ (bit M k + 2 * rs M N (k + 1)) % N = rs M N k := by
  have hb := bit_lt M k
  have hr := rs_lt M N (k + 1) h
  have e1 : M / 2 ^ k = (bit M k + 2 * rs M N (k + 1)) + N * (2 * (M / 2 ^ (k + 1) / N)) := by
    rw [half_step M k]
    have := Nat.mod_add_div (M / 2 ^ (k + 1)) N
    unfold rs
    rw [Nat.mul_left_comm]
    omega
  constructor
  · have e2 : bit (M / N) k = (M / 2 ^ k / N) % 2 := by
      unfold bit
      rw [Nat.div_div_eq_div_mul, Nat.div_div_eq_div_mul, Nat.mul_comm]
    rw [e2, e1, Nat.add_mul_div_left _ _ h]
    have h2 : (bit M k + 2 * rs M N (k + 1)) / N < 2 := by rw [Nat.div_lt_iff_lt_mul h]; omega
    rw [Nat.add_mul_mod_self_left, Nat.mod_eq_of_lt h2]
  · unfold rs at *
    rw [e1, Nat.add_mul_mod_self_left]
theorem quot_less (M N k : Nat) (h : 0 < N) (hl : bit M k + 2 * rs M N (k + 1) < N) : bit (M / N) k = 0 ∧ rs M N k = bit M k + 2 * rs M N (k + 1) := by
  obtain ⟨h1, h2⟩ := quot_step M N k h
  rw [← h1, ← h2, Nat.div_eq_of_lt hl, Nat.mod_eq_of_lt hl]
  exact ⟨rfl, rfl⟩
theorem quot_more (M N k : Nat) (h : 0 < N) (hl : N ≤ bit M k + 2 * rs M N (k + 1)) : bit (M / N) k = 1 ∧ rs M N k = bit M k + 2 * rs M N (k + 1) - N := by
  have hb := bit_lt M k
  have hr := rs_lt M N (k + 1) h
  obtain ⟨h1, h2⟩ := quot_step M N k h
  obtain ⟨t, ht⟩ : ∃ t, bit M k + 2 * rs M N (k + 1) = t + N * 1 := ⟨bit M k + 2 * rs M N (k + 1) - N, by omega⟩
  have htn : t < N := by omega
  rw [← h1, ← h2, ht, Nat.add_mul_div_left _ _ h, Nat.add_mul_mod_self_left, Nat.div_eq_of_lt htn, Nat.mod_eq_of_lt htn]
  omega
theorem bv_cons_dg (b R : Nat) : bv (b :: dg R) = b + 2 * R := by rw [bv, bv_dg]
theorem cons_01 (b R : Nat) (h : b < 2) : Bits01 (b :: dg R) := fun x hx => by
  rcases List.mem_cons.1 hx with rfl | hx
  · exact h
  · exact dg_01 R x hx
theorem make_num (m : Nat) (u : World) (hm : m ≤ 10000000) : (Instr.makeSlice 61 (.int .i64 (m : Int)) (.int .i64 (m : Int))).run Try.prog u =
      .ok (.slice (some ⟨u.heap.size, 0, none⟩) m m) (u.alloc (.cells (List.replicate m (Value.int .u8 0)).toArray 5)) := by
  obtain ⟨i0, hi, hz0, hz1, hz2⟩ := info_parts num_info_u8
  have h := run_make (P := Try.prog) u 61 5 i0 (.int .u8 0) Try.underlying61 hi hz0 .i64 .i64 (m : Int) (m : Int) (by omega) (by omega) (by rw [hz2]; omega) (by omega)
  rw [Int.toNat_natCast, hz1, Nat.mul_one] at h
  rw [h, ← toList_madeCells_one]
  rfl
theorem qs_new (w : World) (m Q : Nat) (hm : m ≤ 10000000) : (w.alloc (.cells (Array.replicate m (Value.int .u8 0)) 5)).ownsRow w.heap.size 5 1 (.slice (some ⟨w.heap.size, 0, none⟩) m m) m (ints .u8 (qs Q m m)) := by
  rw [qs_start]
  exact own_of_heap (cur := List.replicate m (Value.int .u8 0)) (by have h := heap_alloc_new w (.cells (Array.replicate m (Value.int .u8 0)) 5); simpa using h) (Nat.le_refl _) (Nat.le_refl _) (by unfold maxLen; omega) (by simp) (by simp [ints])
/-- Two numbers' digits are answered. -/
def OutQuot (M N : Nat) (w : World) (e : Ending) (w' : World) : Prop := ∃ X Y d f, e = .returned (.tuple #[.slice X (nbits (M / N)) d, .slice Y (nbits (M % N)) f]) ∧ nbits (M / N) ≤ d ∧ nbits (M % N) ≤ f ∧ Rd .u8 w' w'.heap.size X (dg (M / N)) ∧ Rd .u8 w' w'.heap.size Y (dg (M % N)) ∧ Below w.heap.size w w'
set_option maxHeartbeats 2000000 in
theorem quot02_any (A A2 : Option Addr) (c c2 M N : Nat) (w : World) (h1 : Rd .u8 w w.heap.size A (dg M)) (h2 : Rd .u8 w w.heap.size A2 (dg N)) (hm : nbits M ≤ 1000000) (hn : nbits N ≤ 1000000) (h0 : 0 < N) :
    Calls Try.prog 42 #[.slice A (nbits M) c, .slice A2 (nbits N) c2] w (OutQuot M N w) := by
  obtain ⟨i0, hi, hz0, hz1, hz2⟩ := info_parts num_info_u8
  have hmk := fun u => make_num (nbits M) u (by omega)
  have H0 := Lib.hid h0
  clear h0
  go_enter Try.func42, Try.ntmps42
  go_wp2_with fail
  have hown0 := qs_new w (nbits M) (M / N) (by omega)
  obtain ⟨E, hE⟩ : ∃ E, w.alloc (.cells (Array.replicate (nbits M) (Value.int .u8 0)) 5) = E := ⟨_, rfl⟩
  have hbE : Below w.heap.size w E := by rw [← hE]; exact (Below.refl _ w).alloc (Nat.le_refl _) _
  have hsE : E.heap.size = w.heap.size + 1 := by rw [← hE]; simp
  rw [hE] at hown0 ⊢
  have HsE := Lib.hid hsE
  clear hmk hE hsE
  go_loopw [7, 8] (fun v j wr => ∃ (k : Nat) (Y : Option Addr) (f : Nat), k ≤ nbits M ∧ j = .int .i64 ((k : Int) - 1) ∧ v = .slice Y (nbits (rs M N k)) f ∧ nbits (rs M N k) ≤ f ∧ wr.ownsRow (w.heap.size + 1) 5 1 (.slice Y (nbits (rs M N k)) f) (nbits (rs M N k)) (ints .u8 (dg (rs M N k))) ∧
      wr.ownsRow w.heap.size 5 1 (.slice (some ⟨w.heap.size, 0, none⟩) (nbits M) (nbits M)) (nbits M) (ints .u8 (qs (M / N) (nbits M) k)) ∧ Below w.heap.size w wr) (fun _ j _ => (intOf j + 1).toNat)
  case atStart =>
    refine ⟨nbits M, none, 0, Nat.le_refl _, rfl, ?_, ?_, ?_, hown0, hbE⟩
    · rw [rs_start, nbits_zero]
    · rw [rs_start, nbits_zero]; omega
    · rw [rs_start, nbits_zero, show dg 0 = [] by simp [dg, nbits_zero, bw]]
      exact World.ownsRow_nil _ _ _ _
  case round =>
    obtain ⟨k, Y, f, hk, rfl, rfl, hf, hownR, hownQ, hb⟩ := hrel
    by_cases hk0 : k = 0
    · subst hk0
      rw [rs_end] at hownR hf ⊢
      have hQ : M / N < 2 ^ nbits M := Nat.lt_of_le_of_lt (Nat.div_le_self _ _) (nbits_lt M)
      have RQ := Rd.own hownQ
      have T := numTrim_any (some ⟨w.heap.size, 0, none⟩) (nbits M) (qs (M / N) (nbits M) 0) wr RQ (qs_01 _ _ _) (by rw [length_qs]; omega) (by rw [length_qs]; omega)
      rw [length_qs, qs_all _ _ hQ] at T
      have HT := Lib.hid T
      have RR := Rd.own hownR
      clear T RQ hownQ hownR hQ
      go_wp2_with fail
      refine (HT.out).mono ?_
      rintro e w1 ⟨X, d, rfl, hd, R1, b1⟩
      go_wp2_with fail
      go_ret2
      exact ⟨X, Y, d, f, rfl, hd, hf, R1, (RR.below b1).more b1.size, hb.trans (b1.mono hb.size)⟩
    · obtain ⟨i, rfl⟩ : ∃ i, k = i + 1 := ⟨k - 1, by omega⟩
      obtain ⟨b1, o1, rfl, hb1, hcell1⟩ := h1 (by rw [length_dg]; omega)
      have hx1 := hcell1 i (by rw [length_dg]; omega)
      rw [nth_dg_bit] at hx1
      have hxa : wr.cell? ⟨b1, o1 + i, none⟩ = some (.int .u8 (bit M i : Int)) := (hb.cell (p := ⟨b1, o1 + i, none⟩) hb1).trans hx1
      have hbM := bit_lt M i
      have hrl := rs_lt M N (i + 1) H0.out
      have hrn := nbits_mono (Nat.le_of_lt hrl)
      have RR := Rd.own hownR
      have HR := Lib.hid RR
      clear hcell1 hx1 RR hownR
      rw [show ((i + 1 : Nat) : Int) - 1 = (i : Int) by omega]
      go_wp2_with (at_builtin; refine wpList_append_rd _ rfl (.tmp 23) (.tmp 24) _ rfl wr.heap.size 5 i0 _ 1 Try.underlying61 hi hz0 hz1 hz2 rfl (.slice (some ⟨wr.heap.size, 0, none⟩) 1 1) 1 (ints .u8 [bit M i]) rfl ?c1 .u8 wr.heap.size Y (nbits (rs M N (i + 1))) f (dg (rs M N (i + 1))) rfl ?c2 ?c3 ?c4 ?c5 ?c6 ?_)
      case c1 => exact own_of_heap (cur := [.int .u8 (bit M i : Int)]) (heap_alloc_new wr (.cells #[.int .u8 (bit M i : Int)] 5)) (Nat.le_refl _) (Nat.le_refl _) (by unfold maxLen; omega) rfl rfl
      case c2 => exact length_dg _
      case c3 => exact HR.out.below ((Below.refl _ _).alloc (Nat.le_refl _) _)
      case c4 => unfold maxLen; omega
      case c5 => omega
      case c6 => simp
      intro v1 w1 own1 hg1
      have b1w : Below wr.heap.size wr w1 := ((Below.refl _ _).alloc (Nat.le_refl _) _).grown hg1 (by simp) (by simp [Value.ownBlock])
      rw [← ints_append, List.singleton_append] at own1
      obtain ⟨X1, d1, rfl, hd1, _⟩ := own_form own1
      have hlen : (bit M i :: dg (rs M N (i + 1))).length = 1 + nbits (rs M N (i + 1)) := by rw [List.length_cons, length_dg]; omega
      have T := numTrimO_any X1 d1 (bit M i :: dg (rs M N (i + 1))) w1 (Rd.own own1) (cons_01 _ _ hbM) (by omega) (by omega)
      rw [hlen, bv_cons_dg] at T
      have HT := Lib.hid T
      have hPn : nbits (bit M i + 2 * rs M N (i + 1)) ≤ 1000002 := by
        have h3 : bit M i + 2 * rs M N (i + 1) < 2 ^ (nbits N + 2) := by
          have := nbits_lt N
          rw [Nat.pow_add]
          omega
        have := nbits_of_lt _ _ h3
        omega
      have hL := fun h => quot_less M N i H0.out h
      have hG := fun h => quot_more M N i H0.out h
      obtain ⟨P, hP⟩ : ∃ P, P = bit M i + 2 * rs M N (i + 1) := ⟨_, rfl⟩
      rw [← hP] at HT hPn hL hG
      have HL := Lib.hid hL
      have HG := Lib.hid hG
      clear T own1 hg1 hlen hxa hP hL hG
      go_wp2_with fail
      refine (HT.out).mono ?_
      rintro e w2 ⟨v2, rfl, own2, b2⟩
      obtain ⟨X2, d2, rfl, hd2, _⟩ := own_form own2
      have bw2 : Below wr.heap.size wr w2 := b1w.trans (b2.mono b1w.size)
      have hB2 := hb.trans (bw2.mono hb.size)
      have hownQ2 := own_step hownQ bw2
      have RN2 := h2.below hB2
      have LS := less02_any X2 A2 d2 c2 P N w2 w2.heap.size (Rd.own own2) (RN2.more hB2.size) (by omega) (by omega)
      have hws : w.heap.size + 1 ≤ w2.heap.size := by have h3 := (hownQ2.lt w.heap.size rfl).2; omega
      have hws1 : w.heap.size + 1 ≤ w1.heap.size := by have h3 := (hownQ.lt w.heap.size rfl).2; have h4 := b1w.size; omega
      by_cases hPN : P < N
      · rw [decide_eq_true hPN] at LS
        have HLS := Lib.hid LS
        have HO2 := Lib.hid (own_base own2 hws1)
        clear LS own2 hownQ RN2
        go_wp2_with fail
        refine (HLS.out).mono ?_
        rintro e w3 ⟨rfl, n3, rfl⟩
        go_wp2_with fail
        go_roundw
        case rel =>
          obtain ⟨e1, e2⟩ := HL.out hPN
          refine ⟨i, X2, d2, by omega, rfl, by rw [e2], by rw [e2]; exact hd2, ?_, ?_, hB2.trans ((Drawn.more n3).below _)⟩
          · rw [e2]; exact (Drawn.more n3).own HO2.out
          · rw [qs_skip _ _ _ e1] at hownQ2; exact (Drawn.more n3).own hownQ2
        case measure => simp [intOf] <;> omega
      · rw [decide_eq_false hPN] at LS
        have HLS := Lib.hid LS
        have hdN : nbits N ≤ nbits P := nbits_mono (by omega)
        have RS := fun n3 => rest02O_any X2 A2 d2 c2 P N (w2.drewN n3) (Rd.own own2) (RN2.more hB2.size) (by omega) (by omega) (by omega)
        have HRS := Lib.hid RS
        have hiM : i < nbits M := by omega
        clear LS own2 hownQ RN2 RS
        go_wp2_with fail
        refine (HLS.out).mono ?_
        rintro e w3 ⟨rfl, n3, rfl⟩
        go_wp2_with fail
        refine (HRS.out n3).mono ?_
        rintro e w4 ⟨v4, rfl, own4, b4⟩
        obtain ⟨X4, d4, rfl, hd4, _⟩ := own_form own4
        have hownQ4 := own_step ((Drawn.more n3).own hownQ2) b4
        have hB4 := (hB2.trans ((Drawn.more n3).below _)).trans (b4.mono hB2.size)
        have hc4 : w4.cell? ⟨w.heap.size, i, none⟩ = some (.int .u8 (nth (qs (M / N) (nbits M) (i + 1)) i : Int)) := by rw [hownQ4.cellAt _ (by omega), ints_get _ _ _ (by rw [length_qs]; exact hiM)]
        have hf4 : w4.frozen? ⟨w.heap.size, i, none⟩ = false := hownQ4.frozenAt _
        have hst := hownQ4.stored i (.int .u8 ((1 : Nat) : Int))
        rw [ints_set] at hst
        have own4' := own_base own4 (show w.heap.size + 1 ≤ (w2.drewN n3).heap.size from hws)
        have hne : (Value.slice X4 (nbits (P - N)) d4).ownBlock = none ∨ (Value.slice X4 (nbits (P - N)) d4).ownBlock ≠ some w.heap.size := by
          rcases hv : (Value.slice X4 (nbits (P - N)) d4).ownBlock with _ | x
          · exact .inl rfl
          · right
            intro e
            have h5 := (own4'.lt x hv).1
            injection e with e
            omega
        have HO4 := Lib.hid (own4'.kept hst.2 hne)
        have HQ4 := Lib.hid hst.1
        clear own4 own4' hst hne hownQ2 hownQ4
        go_wp2_with fail
        go_roundw
        case rel =>
          obtain ⟨e1, e2⟩ := HG.out (by omega)
          refine ⟨i, X4, d4, by omega, rfl, by rw [e2], by rw [e2]; exact hd4, ?_, ?_, hB4.setCell (p := ⟨w.heap.size, i, none⟩) (by simp) _⟩
          · rw [e2]; exact HO4.out
          · have h6 := HQ4.out; rw [qs_set _ _ _ e1 hiM] at h6; exact h6
        case measure => simp [intOf] <;> omega
end Go.Proofs.Ytbgaboboakkimaa
/- The examples of chapter 2 ('works') hold, in whatever memory. No condition. -/
namespace Go.Proofs.Ytbgaboboakkimaa
open Go.RowKit
set_option maxRecDepth 20000
/-- What is answered, as words that are written out. -/
theorem OutNat.lit {N : Nat} {w w' : World} {e : Ending} (h : OutNat N w e w') (l : List Nat) (hl : wd N = l) : ∃ X d, e = .returned (.slice X l.length d) ∧ Rd .u64 w' w'.heap.size X l ∧ Below w.heap.size w w' ∧ l.length ≤ d := by
  obtain ⟨v, rfl, own, b⟩ := h
  obtain ⟨X, d, rfl, hd, _⟩ := own_form own
  have hn : (nbits N + 63) / 64 = l.length := by rw [← hl, length_wd]
  rw [hl] at own
  exact ⟨X, d, by rw [hn], Rd.own own, b, by omega⟩
section
variable (w : World)
end
theorem below_step {w0 w w' : World} (h : Below w0.heap.size w0 w) (k : Below w.heap.size w w') : Below w0.heap.size w0 w' := h.trans (k.mono h.size)
theorem rd_step {k : IntKind} {w w' : World} {A : Option Addr} {l : List Nat} (h : Rd k w w.heap.size A l) (b : Below w.heap.size w w') : Rd k w' w'.heap.size A l := (h.below b).more b.size
end Go.Proofs.Ytbgaboboakkimaa
/- NatWords' walk: it answers true, and writes nothing that was there. No condition but what the arguments' types give. -/
namespace Go.Proofs.Ytbgaboboakkimaa
open Go.RowKit
set_option maxRecDepth 20000
/-- Words of the call's own, whatever they are by now. -/
def Turned (w : World) (base : Nat) (v : Value) (n : Nat) : Prop := ∃ l : List Nat, l.length = n ∧ Words l ∧ w.ownsRow base 33 1 v n (ints .u64 l)
theorem Turned.at_ {w : World} {base n i : Nat} {v : Value} (h : Turned w base v n) (hi : i < n) : ∃ (g c x : Nat), v = .slice (some ⟨g, 0, none⟩) n c ∧ base ≤ g ∧ x < 18446744073709551616 ∧ w.cell? ⟨g, i, none⟩ = some (.int .u64 (x : Int)) ∧ w.frozen? ⟨g, i, none⟩ = false ∧
    ∀ y : Nat, y < 18446744073709551616 → Turned (w.setCell ⟨g, i, none⟩ (.int .u64 (y : Int))) base v n := by
  obtain ⟨l, hl, hw, own⟩ := h
  obtain ⟨g, c, rfl, hg, _⟩ := own_pos2 own (by omega)
  refine ⟨g, c, nth l i, rfl, hg, hw _ (nth_mem l i (by omega)), ?_, own.frozenAt _, fun y hy => ?_⟩
  · rw [own.cellAt _ (by omega), ints_get _ _ _ (by omega)]
  · have hst := own.stored i (.int .u64 (y : Int))
    rw [ints_set] at hst
    refine ⟨l.set i y, by simp [hl], fun x hx => ?_, hst.1⟩
    rcases mem_set hx with rfl | h
    · exact hy
    · exact hw x h
end Go.Proofs.Ytbgaboboakkimaa
/- nat's contracts in the form that laws use: a slice of words stands for a number. Conditions: as typed. -/
namespace Go.Proofs.Ytbgaboboakkimaa
open Go.RowKit
set_option maxRecDepth 20000
/-- The slice at A, of n words, stands for N: words that may be, or not. -/
def NatIn (w : World) (A : Option Addr) (n c N : Nat) : Prop := ∃ l : List Nat, l.length = n ∧ natOf l = N ∧ Words l ∧ n ≤ 50000 ∧ Rd .u64 w w.heap.size A l ∧ n ≤ c
/-- The slice at A, of n words, is N's words. -/
def NatIs (w : World) (A : Option Addr) (n c N : Nat) : Prop := (wd N).length = n ∧ n ≤ 50000 ∧ Rd .u64 w w.heap.size A (wd N) ∧ n ≤ c
/-- The slice at A is N's digits. -/
def NumIs (w : World) (A : Option Addr) (n d N : Nat) : Prop := n = nbits N ∧ n ≤ d ∧ n ≤ 5000000 ∧ Rd .u8 w w.heap.size A (dg N)
section
variable {w w' : World} {A : Option Addr} {n c N d : Nat}
theorem NatIn.step (h : NatIn w A n c N) (b : Below w.heap.size w w') : NatIn w' A n c N := by
  obtain ⟨l, h1, h2, h3, h4, h5, h6⟩ := h
  exact ⟨l, h1, h2, h3, h4, rd_step h5 b, h6⟩
theorem NatIs.step (h : NatIs w A n c N) (b : Below w.heap.size w w') : NatIs w' A n c N := ⟨h.1, h.2.1, rd_step h.2.2.1 b, h.2.2.2⟩
theorem NumIs.step (h : NumIs w A n d N) (b : Below w.heap.size w w') : NumIs w' A n d N := ⟨h.1, h.2.1, h.2.2.1, rd_step h.2.2.2 b⟩
theorem NatIs.in_ (h : NatIs w A n c N) : NatIn w A n c N := ⟨wd N, h.1, natOf_wd N, wd_words N, h.2.1, h.2.2.1, h.2.2.2⟩
theorem NatIn.bits (h : NatIn w A n c N) : nbits N ≤ 64 * n := by
  obtain ⟨l, rfl, rfl, h3, _⟩ := h
  exact nbits_natOf l h3
theorem Turned.step {base : Nat} {v : Value} (h : Turned w base v n) (b : Below w.heap.size w w') : Turned w' base v n := by
  obtain ⟨l, h1, h2, h3⟩ := h
  refine ⟨l, h1, h2, h3.kept (row := none) ⟨b.os, b.tape, b.output, b.size, fun i hi _ => b.block i hi⟩ ?_⟩
  rcases hv : v.ownBlock with _ | x
  · exact .inl rfl
  · exact .inr (by simp)
end
theorem Turned.lt {w : World} {base n : Nat} {v : Value} (h : Turned w base v n) : ∀ g, v.ownBlock = some g → base ≤ g ∧ g < w.heap.size := by
  obtain ⟨l, _, _, h3⟩ := h
  exact h3.lt
/-- A number is answered, in new memory. -/
def OutN (N : Nat) (w : World) (e : Ending) (w' : World) : Prop := ∃ X q d, e = .returned (.slice X q d) ∧ NatIs w' X q d N ∧ Turned w' w.heap.size (.slice X q d) q ∧ Below w.heap.size w w'
theorem OutNat.out {N : Nat} {w w' : World} {e : Ending} (h : OutNat N w e w') (hn : nbits N ≤ 3200000) : OutN N w e w' := by
  obtain ⟨v, rfl, own, b⟩ := h
  obtain ⟨X, d, rfl, hd, _⟩ := own_form own
  exact ⟨X, _, d, rfl, ⟨length_wd N, by omega, Rd.own own, hd⟩, ⟨wd N, length_wd N, wd_words N, own⟩, b⟩
/-- Digits are answered. -/
def OutD (N : Nat) (w : World) (e : Ending) (w' : World) : Prop := ∃ X n d, e = .returned (.slice X n d) ∧ NumIs w' X n d N ∧ Below w.heap.size w w'
theorem OutNum.out {N : Nat} {w w' : World} {e : Ending} (h : OutNum N w e w') (hn : nbits N ≤ 5000000) : OutD N w e w' := by
  obtain ⟨X, d, rfl, hd, hR, b⟩ := h
  exact ⟨X, _, d, rfl, ⟨rfl, hd, hn, hR⟩, b⟩
theorem nbits_add (a b : Nat) : nbits (a + b) ≤ nbits a + nbits b + 1 := by
  have ha := nbits_lt a
  have hb := nbits_lt b
  refine nbits_of_lt _ _ ?_
  have h1 : 2 ^ nbits a ≤ 2 ^ (nbits a + nbits b) := Nat.pow_le_pow_right (by omega) (by omega)
  have h2 : 2 ^ nbits b ≤ 2 ^ (nbits a + nbits b) := Nat.pow_le_pow_right (by omega) (by omega)
  rw [Nat.pow_succ]
  omega
section
variable {w : World} {A A2 : Option Addr} {n m c c2 M N d d2 : Nat}
theorem bTrim (h : NatIn w A n c M) : Calls Try.prog 22 #[.slice A n c] w (OutN M w) := by
  have hb := h.bits
  obtain ⟨l, rfl, rfl, h3, h4, h5, h6⟩ := h
  exact Calls.mono (natTrim_any A c l w h5 h3 (by omega) h6) fun _ _ h => h.out (by omega)
theorem bMay (h : NatIs w A n c M) : Calls Try.prog 23 #[.slice A n c] w fun e w' => e = .returned (.bool true) ∧ Below w.heap.size w w' := by
  obtain ⟨h1, h2, h3, h6⟩ := h
  have h := natMay_any A c (wd M) w h3 (wd_words M) (by omega) (by omega)
  rw [h1, natOf_wd] at h
  exact Calls.mono h fun e w' ⟨he, hb⟩ => ⟨by rw [he]; simp, hb⟩
theorem bAdd (h : NatIn w A n c M) (k : NatIn w A2 m c2 N) (hs : n + m ≤ 40000) : Calls Try.prog 25 #[.slice A n c, .slice A2 m c2] w (OutN (M + N) w) := by
  have hb := h.bits
  have kb := k.bits
  have hk := nbits_add M N
  obtain ⟨l, rfl, rfl, h3, h4, h5, h6⟩ := h
  obtain ⟨l2, rfl, rfl, k3, k4, k5, k6⟩ := k
  exact Calls.mono (natAdd_any A A2 c c2 l l2 w h5 h3 (by omega) h6 k5 k3 (by omega) k6) fun _ _ h => h.out (by omega)
theorem bCmp (h : NatIn w A n c M) (k : NatIn w A2 m c2 N) : Calls Try.prog 27 #[.slice A n c, .slice A2 m c2] w fun e w' => e = .returned (.int .i64 (cmpS M N)) ∧ Below w.heap.size w w' := by
  obtain ⟨l, rfl, rfl, h3, h4, h5, h6⟩ := h
  obtain ⟨l2, rfl, rfl, k3, k4, k5, k6⟩ := k
  exact natCmp_any A A2 c c2 l l2 w h5 h3 (by omega) h6 k5 k3 (by omega) k6
theorem bSub_yes (h : NatIn w A n c M) (k : NatIn w A2 m c2 N) (hle : N ≤ M) : Calls Try.prog 39 #[.slice A n c, .slice A2 m c2] w fun e w' =>
    ∃ X q d, e = .returned (.tuple #[.slice X q d, .bool true]) ∧ NatIs w' X q d (M - N) ∧ Turned w' w.heap.size (.slice X q d) q ∧ Below w.heap.size w w' := by
  have hb := h.bits
  have hm := nbits_mono (Nat.sub_le M N)
  obtain ⟨l, rfl, rfl, h3, h4, h5, h6⟩ := h
  obtain ⟨l2, rfl, rfl, k3, k4, k5, k6⟩ := k
  refine Calls.mono (natSub_any A A2 c c2 l l2 w h5 h3 (by omega) h6 k5 k3 (by omega) k6) fun e w' h => ?_
  obtain ⟨v, he, own⟩ := h.1 hle
  obtain ⟨X, d, rfl, hd, _⟩ := own_form own
  exact ⟨X, _, d, he, ⟨length_wd _, by omega, Rd.own own, hd⟩, ⟨wd _, length_wd _, wd_words _, own⟩, h.2.2⟩
theorem bBits (h : NatIn w A n c M) : Calls Try.prog 37 #[.slice A n c] w fun e w' => e = .returned (.int .i64 (nbits M)) ∧ Below w.heap.size w w' := by
  obtain ⟨l, rfl, rfl, h3, h4, h5, h6⟩ := h
  exact natBits_any A c l w h5 h3 (by omega) h6
theorem bSame (h : NatIs w A n c M) (k : NatIs w A2 m c2 M) : Calls Try.prog 14 #[.slice A n c, .slice A2 m c2] w fun e w' => e = .returned (.bool true) ∧ Below w.heap.size w w' := by
  obtain ⟨h1, h2, h3, h6⟩ := h
  obtain ⟨k1, k2, k3, k6⟩ := k
  obtain rfl : n = m := by omega
  exact same_true A A2 n c c2 (wd M) w h1 h3 k3 (by omega)
end
/-- The slice at A, of n words, is the words l, whether they may be or not. -/
def RowIs (w : World) (A : Option Addr) (n c : Nat) (l : List Nat) : Prop := l.length = n ∧ Words l ∧ n ≤ 50000 ∧ Rd .u64 w w.heap.size A l ∧ n ≤ c
section
variable {w w' : World} {A A2 : Option Addr} {n c c2 : Nat} {l : List Nat}
theorem RowIs.step (h : RowIs w A n c l) (b : Below w.heap.size w w') : RowIs w' A n c l := ⟨h.1, h.2.1, h.2.2.1, rd_step h.2.2.2.1 b, h.2.2.2.2⟩
theorem RowIs.in_ (h : RowIs w A n c l) : NatIn w A n c (natOf l) := ⟨l, h.1, rfl, h.2.1, h.2.2.1, h.2.2.2.1, h.2.2.2.2⟩
theorem bCopy (h : RowIs w A n c l) : Calls Try.prog 9 #[.slice A n c] w fun e w' => ∃ X d, e = .returned (.slice X n d) ∧ RowIs w' X n d l ∧ Below w.heap.size w w' := by
  obtain ⟨rfl, h2, h3, h4, h6⟩ := h
  refine Calls.mono (copy02_any A c l w h4 (by omega)) fun e w' ⟨v, he, own, hb⟩ => ?_
  obtain ⟨X, d, rfl, hd, _⟩ := own_form own
  exact ⟨X, d, he, ⟨rfl, h2, h3, Rd.own own, hd⟩, hb⟩
theorem bSameRow (h : RowIs w A n c l) (k : RowIs w A2 n c2 l) : Calls Try.prog 14 #[.slice A n c, .slice A2 n c2] w fun e w' => e = .returned (.bool true) ∧ Below w.heap.size w w' :=
  same_true A A2 n c c2 l w h.1 h.2.2.2.1 k.2.2.2.1 (by have := h.2.2.1; omega)
end
end Go.Proofs.Ytbgaboboakkimaa
/- mul.wordByWord: a product, a row for each word. Conditions: as typed (lengths that fit a machine). -/
namespace Go.Proofs.Ytbgaboboakkimaa
open Go.RowKit
set_option maxRecDepth 20000
/-- So many words of a number are answered, in new memory. -/
def OutWords (K V : Nat) (w : World) (e : Ending) (w' : World) : Prop := ∃ A, e = .returned (.slice A K K) ∧ w'.ownsRow w.heap.size 33 1 (.slice A K K) K (ints .u64 (words K V)) ∧ Below w.heap.size w w'
theorem row_zero (w : World) (m : Nat) (hm : m ≤ 1000000) : (w.alloc (.cells (Array.replicate m (Value.int .u64 0)) 33)).ownsRow w.heap.size 33 1 (.slice (some ⟨w.heap.size, 0, none⟩) m m) m (ints .u64 (words m 0)) := by
  have h := row_new w m hm 0
  rwa [wsAt_zero, ← words_none] at h
set_option maxHeartbeats 2000000 in
theorem byWord_any (A A2 : Option Addr) (c c2 n m : Nat) (a b : List Nat) (w : World) (hn : a.length = n) (hm : b.length = m) (hr : Rd .u64 w w.heap.size A a) (hw : Words a) (hl : n ≤ 100000) (hr2 : Rd .u64 w w.heap.size A2 b) (hw2 : Words b) (hl2 : m ≤ 100000) :
    Calls Try.prog 65 #[.slice A n c, .slice A2 m c2] w (OutWords (n + m) (natOf a * natOf b) w) := by
  obtain ⟨K, hK⟩ : ∃ K, n + m = K := ⟨_, rfl⟩
  have HK := Lib.hid hK
  have hsum : (n : Int) + (m : Int) = (K : Int) := by omega
  have hK2 : K ≤ 200000 := by omega
  have hmk := fun u => make_row K u (by omega)
  have Hn := Lib.hid hn
  have Hm := Lib.hid hm
  rw [hK]
  clear hK hn hm
  go_enter Try.func65, Try.ntmps65
  go_wp2_with fail
  go_step3
  go_wp2_with fail
  go_step3
  go_wp2_with fail
  have hown0 := row_zero w K (by omega)
  obtain ⟨E, hE⟩ : ∃ E, w.alloc (.cells (Array.replicate K (Value.int .u64 0)) 33) = E := ⟨_, rfl⟩
  have hbE : Below w.heap.size w E := by rw [← hE]; exact (Below.refl _ w).alloc (Nat.le_refl _) _
  rw [hE] at hown0 ⊢
  clear hmk hE
  go_loopw [23] (fun v wr => ∃ I : Nat, I ≤ n ∧ v = .int .i64 I ∧ wr.ownsRow w.heap.size 33 1 (.slice (some ⟨w.heap.size, 0, none⟩) K K) K (ints .u64 (words K (natOf (a.take I) * natOf b))) ∧ Below w.heap.size w wr) (fun v _ => n - (intOf v).toNat)
  case atStart => exact ⟨0, Nat.zero_le _, rfl, by simpa [natOf] using hown0, hbE⟩
  case round =>
    obtain ⟨I, hI, rfl, hown, hb⟩ := hrel
    clear hown0 hbE
    obtain ⟨wo, hwo⟩ : ∃ wo : World, wo = wr := ⟨_, rfl⟩
    subst hwo
    by_cases hlt : I < n
    · have hnl := Hn.out
      have hml := Hm.out
      have hKe := HK.out
      obtain ⟨b1, o1, rfl, hb1, hcell1⟩ := hr (by omega)
      have hx1 := (hb.cell (p := ⟨b1, o1 + I, none⟩) hb1).trans (hcell1 I (by omega))
      have hxl := nth_lt a hw I
      obtain ⟨x, hx⟩ : ∃ x, nth a I = x := ⟨_, rfl⟩
      rw [hx] at hx1 hxl
      have HX := Lib.hid hx
      clear hcell1 hnl hx
      by_cases hx0 : x = 0
      · have e := row_none a b I (by rw [HX.out, hx0])
        rw [e] at hown
        have HO := Lib.hid hown
        subst hx0
        clear hown e
        go_wp2_with fail
        go_roundw
        case rel => exact ⟨I + 1, by omega, by go_num, HO.out, hb⟩
        case measure => simp [intOf]; omega
      · have hne : ((x : Int) == 0) = false := by simp; omega
        have hS0 := Sums.start K (I + m) (natOf (a.take I) * natOf b) (by have := row_lt a b hw hw2 I; rwa [hml] at this) (by omega) I
        have HS0 := Lib.hid hS0
        clear hS0 hml hKe
        have hIm : I + m < K := by have := HK.out; omega
        go_wp2_with fail
        rw [Nat.add_sub_cancel_left]
        go_loopw [39, 9] (fun v ov wr => ∃ (k O : Nat) (L : List Nat), k ≤ m ∧ v = .int .i64 k ∧ ov = .int .u64 O ∧ O < 18446744073709551616 ∧ Sums K (I + m) (I + k) O (natOf (a.take I) * natOf b + 18446744073709551616 ^ I * nth a I * natOf (b.take k)) L ∧ wr.ownsRow w.heap.size 33 1 (.slice (some ⟨w.heap.size, 0, none⟩) K K) K (ints .u64 L) ∧ Below w.heap.size w wr) (fun v _ _ => m - (intOf v).toNat)
        case atStart => exact ⟨0, 0, _, Nat.zero_le _, rfl, rfl, by omega, by simpa [natOf] using HS0.out, hown, hb⟩
        case round =>
          obtain ⟨k, O, L, hk, rfl, rfl, hO, hS, hown2, hb2⟩ := hrel
          have hll := hS.len
          clear hown hx1
          by_cases hkm : k < m
          · have hml := Hm.out
            obtain ⟨b2, o2, rfl, hbb2, hcell2⟩ := hr2 (by omega)
            have hy1 := (hb2.cell (p := ⟨b2, o2 + k, none⟩) hbb2).trans (hcell2 k (by omega))
            have hyl := nth_lt b hw2 k
            have hrl := nth_lt L hS.words (I + k)
            have hco : wr.cell? ⟨w.heap.size, I + k, none⟩ = some (.int .u64 (nth L (I + k) : Int)) := by rw [hown2.cellAt _ (by omega), ints_get _ _ _ (by omega)]
            have hfo : wr.frozen? ⟨w.heap.size, I + k, none⟩ = false := hown2.frozenAt _
            obtain ⟨e1, e2, e3, e4⟩ := word_step x (nth b k) O (nth L (I + k)) hxl hyl hO hrl
            have hSS := hS.step (by omega) (by omega) (nth a I * nth b k) _ rfl
            rw [row_step, HX.out] at hSS
            have M := Try.bits_Mul64 x (nth b k) hxl hyl wr
            have A1 : ∀ w : World, (callFunc 49 #[.int .u64 ((x * nth b k % 18446744073709551616 : Nat) : Int), .int .u64 (O : Int), .int .u64 0]).run Try.prog w = .ok (.value (.tuple #[.int .u64 (((x * nth b k % 18446744073709551616 + O) % 18446744073709551616 : Nat) : Int), .int .u64 (((x * nth b k % 18446744073709551616 + O) / 18446744073709551616 : Nat) : Int)])) w :=
              fun w => add64_run (x * nth b k % 18446744073709551616) O 0 (by omega) w
            have A2 : ∀ w : World, (callFunc 49 #[.int .u64 (nth L (I + k) : Int), .int .u64 (((x * nth b k % 18446744073709551616 + O) % 18446744073709551616 : Nat) : Int), .int .u64 0]).run Try.prog w = .ok (.value (.tuple #[.int .u64 (((nth L (I + k) + (x * nth b k % 18446744073709551616 + O) % 18446744073709551616) % 18446744073709551616 : Nat) : Int), .int .u64 (((nth L (I + k) + (x * nth b k % 18446744073709551616 + O) % 18446744073709551616) / 18446744073709551616 : Nat) : Int)])) w :=
              fun w => add64_run (nth L (I + k)) ((x * nth b k % 18446744073709551616 + O) % 18446744073709551616) 0 (by omega) w
            rw [e1] at A2
            rw [← e3] at hSS e4
            generalize (nth L (I + k) + x * nth b k + O) % 18446744073709551616 = s0 at *
            generalize (nth L (I + k) + (x * nth b k % 18446744073709551616 + O) % 18446744073709551616) / 18446744073709551616 = c2' at *
            generalize (x * nth b k % 18446744073709551616 + O) % 18446744073709551616 = l1 at *
            generalize (x * nth b k % 18446744073709551616 + O) / 18446744073709551616 = c1' at *
            generalize x * nth b k % 18446744073709551616 = lo at *
            generalize x * nth b k / 18446744073709551616 = hh at *
            clear e1 e3
            have hst := hown2.stored (I + k) (.int .u64 (s0 : Int))
            rw [ints_set] at hst
            have HO := Lib.hid hst.1
            have HS := Lib.hid hSS
            have HM := Lib.hid M
            clear hst hSS hown2 hcell2 hS M hml hll
            go_wp2_with fail
            refine (HM.out).mono ?_
            rintro e w' ⟨rfl, rfl⟩
            go_wp2_with fail
            go_roundw
            case rel => exact ⟨k + 1, hh + c1' + c2', L.set (I + k) s0, by omega, by go_num, by go_num, e4, by rw [HX.out]; exact HS.out, HO.out, hb2.setCell (p := ⟨w.heap.size, I + k, none⟩) (by simp) _⟩
            case measure => simp [intOf]; omega
          · obtain rfl : k = m := by omega
            have hml := Hm.out
            have hlast := hS.last hIm hO
            have e := row_end a b I
            rw [hml] at e
            rw [e] at hlast
            have hco : wr.cell? ⟨w.heap.size, I + k, none⟩ = some (.int .u64 (nth L (I + k) : Int)) := by rw [hown2.cellAt _ (by omega), ints_get _ _ _ (by omega)]
            have hfo : wr.frozen? ⟨w.heap.size, I + k, none⟩ = false := hown2.frozenAt _
            have hst := hown2.stored (I + k) (.int .u64 (O : Int))
            rw [ints_set, hlast] at hst
            have HO := Lib.hid hst.1
            clear hst hown2 hS hml hll e hlast hkm
            go_wp2_with fail
            go_roundw
            case rel => exact ⟨I + 1, by omega, by go_num, HO.out, hb2.setCell (p := ⟨w.heap.size, I + k, none⟩) (by simp) _⟩
            case measure => simp [intOf]; omega
    · obtain rfl : I = n := by omega
      have hnl := Hn.out
      rw [← hnl, take_full] at hown
      have HO := Lib.hid hown
      clear hown hnl
      go_wp2_with fail
      rw [Exit.noGoto_ret]
      go_ret
      exact ⟨_, rfl, HO.out, hb⟩
end Go.Proofs.Ytbgaboboakkimaa
/- mul.product's closure, which calls itself: products of many words of halves. Conditions: as typed (lengths that fit a machine; its own variable holds it). -/
namespace Go.Proofs.Ytbgaboboakkimaa
open Go.RowKit
set_option maxRecDepth 20000
/-- The closure, as its own variable holds it. -/
def tfn (G : Nat) : Value := .func (.func 63) #[] #[.pointer (some ⟨G, 0, none⟩)]
/-- Words of a product are answered, in new memory. -/
def OutTimes (V N : Nat) (w : World) (e : Ending) (w' : World) : Prop := ∃ A K, e = .returned (.slice A K K) ∧ w'.ownsRow w.heap.size 33 1 (.slice A K K) K (ints .u64 (words K V)) ∧ V < 18446744073709551616 ^ K ∧ K ≤ N ∧ Below w.heap.size w w'
/-- The shorter one of two first. -/
def OutPair (V N : Nat) (w : World) (e : Ending) (w' : World) : Prop := ∃ X n c Y m d x y, e = .returned (.tuple #[.slice X n c, .slice Y m d]) ∧ w = w' ∧ List.length x = n ∧ List.length y = m ∧ n ≤ m ∧ n + m ≤ N ∧ m ≤ 10000 ∧ n ≤ c ∧ m ≤ d ∧ Words x ∧ Words y ∧
  Rd .u64 w w.heap.size X x ∧ Rd .u64 w w.heap.size Y y ∧ natOf x * natOf y = V
theorem pair_any (A A2 : Option Addr) (c c2 N : Nat) (a b : List Nat) (w : World) (hN : a.length + b.length ≤ N) (hl : a.length ≤ 10000) (hl2 : b.length ≤ 10000) (hc : a.length ≤ c) (hc2 : b.length ≤ c2) (hw : Words a) (hw2 : Words b) (hr : Rd .u64 w w.heap.size A a) (hr2 : Rd .u64 w w.heap.size A2 b) :
    Calls Try.prog 64 #[.slice A (tl a) c, .slice A2 (tl b) c2] w (OutPair (natOf a * natOf b) N w) := by
  have h1 := tl_le a hw
  have h2 := tl_le b hw2
  have e1 : (a.take (tl a)).length = tl a := by rw [List.length_take]; omega
  have e2 : (b.take (tl b)).length = tl b := by rw [List.length_take]; omega
  have n1 : natOf (a.take (tl a)) = natOf a := by rw [take_wd a hw, natOf_wd]
  have n2 : natOf (b.take (tl b)) = natOf b := by rw [take_wd b hw2, natOf_wd]
  by_cases h : tl b < tl a
  · refine (shorter_yes A A2 (tl a) (tl b) c c2 w h).mono ?_
    rintro e w' ⟨rfl, rfl⟩
    exact ⟨A2, tl b, c2, A, tl a, c, b.take (tl b), a.take (tl a), rfl, rfl, e2, e1, by omega, by omega, by omega, by omega, by omega, hw2.take _, hw.take _, hr2.take _, hr.take _, by rw [n1, n2, Nat.mul_comm]⟩
  · refine (shorter_no A A2 (tl a) (tl b) c c2 w h).mono ?_
    rintro e w' ⟨rfl, rfl⟩
    exact ⟨A, tl a, c, A2, tl b, c2, a.take (tl a), b.take (tl b), rfl, rfl, e1, e2, by omega, by omega, by omega, by omega, by omega, hw.take _, hw2.take _, hr.take _, hr2.take _, by rw [n1, n2]⟩
/-- What the closure is held to for less than N words. -/
def TimesTo (G t N : Nat) : Prop := ∀ (A A2 : Option Addr) (c c2 n m : Nat) (a b : List Nat) (w : World), a.length = n → b.length = m → n + m < N → n ≤ 10000 → m ≤ 10000 → n ≤ c → m ≤ c2 → Words a → Words b → Rd .u64 w w.heap.size A a → Rd .u64 w w.heap.size A2 b → Boxed w G t (tfn G) →
  Calls Try.prog 63 #[.slice A n c, .slice A2 m c2, .pointer (some ⟨G, 0, none⟩)] w (OutTimes (natOf a * natOf b) (n + m) w)
theorem Rdx.rd {k : IntKind} {w : World} {g : Nat} {A : Option Addr} {l : List Nat} (h : Rdx k w g A l) : Rd k w w.heap.size A l := fun hl => by
  obtain ⟨b, off, rfl, _, hc⟩ := h hl
  exact ⟨b, off, rfl, cell_lt (hc 0 hl), hc⟩
theorem Rdx.step {k : IntKind} {w w' : World} {g : Nat} {A : Option Addr} {l : List Nat} (h : Rdx k w g A l) (b : Below w.heap.size w w') : Rdx k w' g A l := fun hl => by
  obtain ⟨x, off, rfl, hx, hc⟩ := h hl
  exact ⟨x, off, rfl, hx, fun j hj => (b.cell (p := ⟨x, off + j, none⟩) (cell_lt (hc j hj))).trans (hc j hj)⟩
theorem box_step {w w' : World} {G t : Nat} {v : Value} (h : Boxed w G t v) (b : Below w.heap.size w w') : Boxed w' G t v := (b.block G h.lt).trans h
theorem boxc {u : World} {G t : Nat} (h : Boxed u G t (tfn G)) : u.cell? ⟨G, 0, none⟩ = some (.func (.func 63) #[] #[.pointer (some ⟨G, 0, none⟩)]) := h.cell
/-- addAt, as it is called here: a product's words are added to a row. -/
theorem addAt_w (g K p V k P V' : Nat) (R : Option Addr) (w : World) (hown : w.ownsRow g 33 1 (.slice (some ⟨g, 0, none⟩) K K) K (ints .u64 (words K V))) (hx : Rdx .u64 w g R (words k P)) (c : Nat)
    (hp : p + k ≤ K) (hK : K ≤ 20000) (hP : P < 18446744073709551616 ^ k) (e : V + 18446744073709551616 ^ p * P = V') (hV : V' < 18446744073709551616 ^ K) :
    Calls Try.prog 66 #[.slice (some ⟨g, 0, none⟩) K K, .slice R k c, .int .i64 (p : Int)] w fun e w' => e = .returned (.tuple #[]) ∧
      w'.ownsRow g 33 1 (.slice (some ⟨g, 0, none⟩) K K) K (ints .u64 (words K V')) ∧ w.grownBy w' (some g) := by
  have hn : natOf (words k P) = P := by rw [natOf_words, Nat.mod_eq_of_lt hP]
  have h := addAt_any g g K p V k c (words K V) (words k P) R w hown (Sums.start K K V (by omega) (Nat.le_refl _) p) hx (words_words _ _) (length_words _ _) hp (by omega) (by rw [hn, e]; exact hV)
  rwa [hn, e] at h
theorem below_add {w0 w w' : World} {g : Nat} (hb : Below w0.heap.size w0 w) (hg : w.grownBy w' (some g)) (h : w0.heap.size ≤ g) : Below w0.heap.size w0 w' :=
  hb.grown hg hb.size (fun q e => by injection e with e; omega)
/-- Words of the number P, at most N, apart from block g. -/
def Got (g : Nat) (u : World) (v : Value) (N P : Nat) : Prop := ∃ R k, v = .slice R k k ∧ Rdx .u64 u g R (words k P) ∧ P < 18446744073709551616 ^ k ∧ k ≤ N
theorem Got.step {g N P : Nat} {u u' : World} {v : Value} (h : Got g u v N P) (b : Below u.heap.size u u') : Got g u' v N P := by
  obtain ⟨R, k, rfl, h1, h2⟩ := h
  exact ⟨R, k, rfl, h1.step b, h2⟩
theorem Got.grown {g N P : Nat} {u u' : World} {v : Value} (h : Got g u v N P) (b : u.grownBy u' (some g)) : Got g u' v N P := by
  obtain ⟨R, k, rfl, h1, h2⟩ := h
  exact ⟨R, k, rfl, h1.grown b, h2⟩
def OutGot (g N P : Nat) (w : World) (e : Ending) (w' : World) : Prop := ∃ v, e = .returned v ∧ Got g w' v N P ∧ Below w.heap.size w w'
/-- The slice is the words of S, none too many. -/
def Su (u : World) (R : Option Addr) (q d S : Nat) : Prop := (wd S).length = q ∧ q ≤ d ∧ Rd .u64 u u.heap.size R (wd S)
theorem Su.step {S q d : Nat} {u u' : World} {R : Option Addr} (h : Su u R q d S) (b : Below u.heap.size u u') : Su u' R q d S := ⟨h.1, h.2.1, (h.2.2.below b).more b.size⟩
def OutSu (S : Nat) (w : World) (e : Ending) (w' : World) : Prop := ∃ R q d, e = .returned (.slice R q d) ∧ Su w' R q d S ∧ Below w.heap.size w w'
theorem add_su (A A2 : Option Addr) (c c2 n m : Nat) (a b : List Nat) (w : World) (hn : a.length = n) (hm : b.length = m) (hl : n ≤ 10000) (hl2 : m ≤ 10000) (hc : n ≤ c) (hc2 : m ≤ c2) (hw : Words a) (hw2 : Words b) (hr : Rd .u64 w w.heap.size A a) (hr2 : Rd .u64 w w.heap.size A2 b) :
    Calls Try.prog 25 #[.slice A n c, .slice A2 m c2] w (OutSu (natOf a + natOf b) w) := by
  subst hn
  subst hm
  refine (natAdd_any A A2 c c2 a b w hr hw (by omega) hc hr2 hw2 (by omega) hc2).mono ?_
  rintro e w' ⟨v, rfl, hown, hb⟩
  obtain ⟨R, d, rfl, hd, _⟩ := own_form hown
  exact ⟨R, _, d, rfl, ⟨length_wd _, hd, Rd.own hown⟩, hb⟩
theorem times_got {G t N : Nat} (ih : TimesTo G t N) (g : Nat) (A A2 : Option Addr) (c c2 n m : Nat) (a b : List Nat) (u : World) (hn : a.length = n) (hm : b.length = m) (hN : n + m < N) (hl : n ≤ 10000) (hl2 : m ≤ 10000) (hc : n ≤ c) (hc2 : m ≤ c2) (hw : Words a) (hw2 : Words b) (hr : Rd .u64 u u.heap.size A a) (hr2 : Rd .u64 u u.heap.size A2 b) (hb : Boxed u G t (tfn G)) (hg : g < u.heap.size) :
    Calls Try.prog 63 #[.slice A n c, .slice A2 m c2, .pointer (some ⟨G, 0, none⟩)] u (OutGot g (n + m) (natOf a * natOf b) u) := by
  refine (ih A A2 c c2 n m a b u hn hm hN hl hl2 hc hc2 hw hw2 hr hr2 hb).mono ?_
  rintro e w' ⟨R, k, rfl, ho, hk, hkn, hb'⟩
  exact ⟨_, rfl, ⟨R, k, rfl, Rdx.own ho hg, hk, hkn⟩, hb'⟩
theorem room_of (P p K : Nat) (h : 18446744073709551616 ^ p * P < 18446744073709551616 ^ K) (hp : p ≤ K) : p + (nbits P + 63) / 64 ≤ K := by
  obtain ⟨q, rfl⟩ : ∃ q, K = p + q := ⟨K - p, by omega⟩
  rw [Nat.pow_add] at h
  have h1 : P < 18446744073709551616 ^ q := Nat.lt_of_mul_lt_mul_left h
  rw [pow_64_2] at h1
  have := nbits_of_lt _ _ h1
  omega
theorem sum_len (a b : List Nat) (h : Nat) (ha : Words a) (hb : Words b) (h1 : a.length ≤ h) (h2 : b.length ≤ h) : (wd (natOf a + natOf b)).length ≤ h + 1 := by
  have l1 := Nat.lt_of_lt_of_le (natOf_lt a ha) (Nat.pow_le_pow_right (show 0 < 18446744073709551616 by omega) h1)
  have l2 := Nat.lt_of_lt_of_le (natOf_lt b hb) (Nat.pow_le_pow_right (show 0 < 18446744073709551616 by omega) h2)
  have h3 : natOf a + natOf b < 18446744073709551616 ^ (h + 1) := by rw [Nat.pow_succ]; omega
  rw [pow_64_2] at h3
  have := nbits_of_lt _ _ h3
  rw [length_wd]
  omega
set_option maxRecDepth 100000 in
set_option maxHeartbeats 4000000 in
theorem times_step (G t N : Nat) (ih : TimesTo G t N) (A A2 : Option Addr) (c c2 : Nat) (a b : List Nat) (w : World) (hN : a.length + b.length ≤ N) (hl : a.length ≤ 10000) (hl2 : b.length ≤ 10000) (hc : a.length ≤ c) (hc2 : b.length ≤ c2) (hw : Words a) (hw2 : Words b) (hr : Rd .u64 w w.heap.size A a) (hr2 : Rd .u64 w w.heap.size A2 b) (hbox : Boxed w G t (tfn G)) :
    Calls Try.prog 63 #[.slice A a.length c, .slice A2 b.length c2, .pointer (some ⟨G, 0, none⟩)] w (OutTimes (natOf a * natOf b) (a.length + b.length) w) := by
  have T1 := Lib.hid (mtrim_any A c a w w.heap.size hr hw (by omega) hc)
  have T2 := Lib.hid (mtrim_any A2 c2 b w w.heap.size hr2 hw2 (by omega) hc2)
  have PP := Lib.hid (pair_any A A2 c c2 (a.length + b.length) a b w (Nat.le_refl _) hl hl2 hc hc2 hw hw2 hr hr2)
  obtain ⟨V, hV⟩ : ∃ V, natOf a * natOf b = V := ⟨_, rfl⟩
  obtain ⟨M, hM⟩ : ∃ M, a.length + b.length = M := ⟨_, rfl⟩
  rw [hV, hM] at PP ⊢
  rw [hM] at hN
  clear hr hr2 hw hw2 hc hc2 hV hM
  go_enter Try.func63, Try.ntmps63
  go_wp2_with fail
  refine (T1.out).mono ?_
  rintro e w' ⟨rfl, rfl⟩
  go_wp2_with fail
  refine (T2.out).mono ?_
  rintro e w' ⟨rfl, rfl⟩
  go_wp2_with fail
  refine (PP.out).mono ?_
  rintro e w' ⟨X, n, c, Y, m, d, x, y, rfl, rfl, hxn, hym, hnm, hM, hm, hnc, hmd, hwx, hwy, hrx, hry, hV⟩
  clear T1 T2 PP
  by_cases hn : n < 80
  · have HW := Lib.hid (byWord_any X Y c d n m x y w hxn hym hrx hwx (by omega) hry hwy (by omega))
    have hlt := mul_lt x y hwx hwy
    rw [hV, hxn, hym] at hlt
    rw [hV] at HW
    have HL := Lib.hid hlt
    clear hlt
    go_wp2_with fail
    refine (HW.out).mono ?_
    rintro e w' ⟨A', rfl, hown, hb⟩
    go_wp2_with fail
    go_ret
    exact ⟨_, _, rfl, hown, HL.out, hM, hb⟩
  · obtain ⟨h, hh⟩ : ∃ h, (m + 1) / 2 = h := ⟨_, rfl⟩
    have hhi : ((m : Int) + 1) / 2 = (h : Int) := by omega
    obtain ⟨yb, yo, rfl, hyb, hyc⟩ := hry (by omega)
    have hdh : ¬ d = h := by omega
    obtain ⟨K, hK⟩ : ∃ K, n + m = K := ⟨_, rfl⟩
    have hsum : (n : Int) + (m : Int) = (K : Int) := by omega
    have hK2 : K ≤ 20000 := by omega
    have hmk := fun u => make_row K u (by omega)
    have hhm : h < m := by omega
    have hown0 := row_zero w.drew K (by omega)
    obtain ⟨E, hE⟩ : ∃ E, w.drew.alloc (.cells (Array.replicate K (Value.int .u64 0)) 33) = E := ⟨_, rfl⟩
    have hbE : Below w.heap.size w E := by rw [← hE]; exact ((Drawn.more 1).below _).trans ((Below.refl _ w.drew).alloc (Nat.le_refl _) _)
    have hEs : E.heap.size = w.heap.size + 1 := by rw [← hE]; exact World.size_alloc _ _
    have hb0 : Boxed E G t (tfn G) := box_step hbox hbE
    rw [hE, show w.drew.heap.size = w.heap.size from rfl] at hown0
    have hyt := hry.take h
    have hyd := hry.drop (i := h) (cap := d) (by omega)
    rw [if_neg hdh, show (some (⟨yb, yo, none⟩ : Addr)).map (·.add h) = some ⟨yb, yo + h, none⟩ by simp [Addr.add_lit]] at hyd
    have hlt1 : (y.take h).length = h := by rw [List.length_take]; omega
    have hld1 : (y.drop h).length = m - h := by rw [List.length_drop]; omega
    have hwt := hwy.take h
    have hwd : Words (y.drop h) := fun z hz => hwy z (List.mem_of_mem_drop hz)
    have hyp := natOf_parts y h
    have HH := Lib.hid hh
    have HEs := Lib.hid hEs
    have hVK : V < 18446744073709551616 ^ K := by have := mul_lt x y hwx hwy; rwa [hV, hxn, hym, hK] at this
    have HVK := Lib.hid hVK
    clear hyc hh hEs hVK
    go_wp2_with fail
    rw [hhi]
    go_region
    by_cases hnh : n ≤ h
    · have hbc := hb0.cell
      rw [tfn] at hbc
      have T1 := ih X (some ⟨yb, yo, none⟩) c d n h x (y.take h) E hxn hlt1 (by omega) (by omega) (by omega) hnc (by omega) hwx hwt ((hrx.below hbE).more hbE.size) ((hyt.below hbE).more hbE.size) hb0
      have HT1 := Lib.hid T1
      clear T1
      go_wp2_with fail
      refine (HT1.out).mono ?_
      rintro e w1 ⟨R1, k1, rfl, ho1, hk1, hkn1, hb1⟩
      clear hbc HT1
      have hb2 := box_step hb0 hb1
      have hbc := hb2.cell
      rw [tfn] at hbc
      have ow1 := own_step hown0 hb1
      have hP1 : natOf x * natOf (y.take h) + 18446744073709551616 ^ h * (natOf x * natOf (y.drop h)) = V := by rw [← hV, hyp, half_two]
      have HA1 := Lib.hid (addAt_w w.heap.size K 0 0 k1 (natOf x * natOf (y.take h)) (natOf x * natOf (y.take h)) R1 w1 ow1 (Rdx.own ho1 (by have := HEs.out; omega)) k1 (by omega) hK2 hk1 (by rw [Nat.pow_zero, Nat.one_mul, Nat.zero_add]) (by have := HVK.out; omega))
      have HP := Lib.hid hP1
      clear hP1
      go_wp2_with fail
      refine (HA1.out).mono ?_
      rintro e w2 ⟨rfl, ow2, hg2⟩
      have hlt2 : w.heap.size < w1.heap.size := by have := HEs.out; have := hb1.size; omega
      have hB1 : Below w.heap.size w w1 := hbE.trans (hb1.mono hbE.size)
      have hB2 := below_add hB1 hg2 (Nat.le_refl _)
      clear hbc hb2 HA1
      have hb3 := box_step hbox hB2
      have hbc := hb3.cell
      rw [tfn] at hbc
      have HT2 := Lib.hid (ih X (some ⟨yb, yo + h, none⟩) c (d - h) n (m - h) x (y.drop h) w2 hxn hld1 (by omega) (by omega) (by omega) hnc (by omega) hwx hwd ((hrx.below hB2).more hB2.size) ((hyd.below hB2).more hB2.size) hb3)
      go_wp2_with fail
      refine (HT2.out).mono ?_
      rintro e w3 ⟨R2, k2, rfl, ho2, hk2, hkn2, hb4⟩
      clear HT2 hbc
      have ow3 := own_step ow2 hb4
      have HA2 := Lib.hid (addAt_w w.heap.size K h _ k2 (natOf x * natOf (y.drop h)) V R2 w3 ow3 (Rdx.own ho2 (by have := hg2.size; omega)) k2 (by omega) hK2 hk2 HP.out HVK.out)
      go_wp2_with fail
      refine (HA2.out).mono ?_
      rintro e w4 ⟨rfl, ow4, hg4⟩
      have hB3 : Below w.heap.size w w3 := hB2.trans (hb4.mono hB2.size)
      have hB4 := below_add hB3 hg4 (Nat.le_refl _)
      clear HA2 ho1 ho2 ow1 ow2 ow3
      go_wp2_with fail
      go_ret
      exact ⟨_, _, rfl, ow4, HVK.out, by omega, hB4⟩
    · obtain ⟨xb, xo, rfl, hxb, hxc⟩ := hrx (by omega)
      clear hxc
      have hch : ¬ c = h := by omega
      have hxt := hrx.take h
      have hxd := hrx.drop (i := h) (cap := c) (by omega)
      rw [if_neg hch, show (some (⟨xb, xo, none⟩ : Addr)).map (·.add h) = some ⟨xb, xo + h, none⟩ by simp [Addr.add_lit]] at hxd
      have hlt2 : (x.take h).length = h := by rw [List.length_take]; omega
      have hld2 : (x.drop h).length = n - h := by rw [List.length_drop]; omega
      have hwt2 := hwx.take h
      have hwd2 : Words (x.drop h) := fun z hz => hwx z (List.mem_of_mem_drop hz)
      have hxp := natOf_parts x h
      have hh2 : m ≤ 2 * h := by have := HH.out; omega
      have T1 : ∀ u, Below E.heap.size E u → Calls Try.prog 63 #[.slice (some ⟨xb, xo, none⟩) h c, .slice (some ⟨yb, yo, none⟩) h d, .pointer (some ⟨G, 0, none⟩)] u (OutGot w.heap.size (h + h) (natOf (x.take h) * natOf (y.take h)) u) := fun u hu => by
        have hB := hbE.trans (hu.mono hbE.size)
        exact times_got ih w.heap.size _ _ c d h h _ _ u hlt2 hlt1 (by omega) (by omega) (by omega) (by omega) (by omega) hwt2 hwt ((hxt.below hB).more hB.size) ((hyt.below hB).more hB.size) (box_step hb0 hu) (by have := HEs.out; have := hu.size; omega)
      have T2 : ∀ u, Below E.heap.size E u → Calls Try.prog 63 #[.slice (some ⟨xb, xo + h, none⟩) (n - h) (c - h), .slice (some ⟨yb, yo + h, none⟩) (m - h) (d - h), .pointer (some ⟨G, 0, none⟩)] u (OutGot w.heap.size (n - h + (m - h)) (natOf (x.drop h) * natOf (y.drop h)) u) := fun u hu => by
        have hB := hbE.trans (hu.mono hbE.size)
        exact times_got ih w.heap.size _ _ (c - h) (d - h) (n - h) (m - h) _ _ u hld2 hld1 (by omega) (by omega) (by omega) (by omega) (by omega) hwd2 hwd ((hxd.below hB).more hB.size) ((hyd.below hB).more hB.size) (box_step hb0 hu) (by have := HEs.out; have := hu.size; omega)
      have T3 : ∀ u, Below E.heap.size E u → Calls Try.prog 25 #[.slice (some ⟨xb, xo, none⟩) h c, .slice (some ⟨xb, xo + h, none⟩) (n - h) (c - h)] u (OutSu (natOf (x.take h) + natOf (x.drop h)) u) := fun u hu => by
        have hB := hbE.trans (hu.mono hbE.size)
        exact add_su _ _ c (c - h) h (n - h) _ _ u hlt2 hld2 (by omega) (by omega) (by omega) (by omega) hwt2 hwd2 ((hxt.below hB).more hB.size) ((hxd.below hB).more hB.size)
      have T4 : ∀ u, Below E.heap.size E u → Calls Try.prog 25 #[.slice (some ⟨yb, yo, none⟩) h d, .slice (some ⟨yb, yo + h, none⟩) (m - h) (d - h)] u (OutSu (natOf (y.take h) + natOf (y.drop h)) u) := fun u hu => by
        have hB := hbE.trans (hu.mono hbE.size)
        exact add_su _ _ d (d - h) h (m - h) _ _ u hlt1 hld1 (by omega) (by omega) (by omega) (by omega) hwt hwd ((hyt.below hB).more hB.size) ((hyd.below hB).more hB.size)
      have s1 := sum_len (x.take h) (x.drop h) h hwt2 hwd2 (by omega) (by omega)
      have s2 := sum_len (y.take h) (y.drop h) h hwt hwd (by omega) (by omega)
      have T5 : ∀ u R q d R' q' d', Below E.heap.size E u → Su u R q d (natOf (x.take h) + natOf (x.drop h)) → Su u R' q' d' (natOf (y.take h) + natOf (y.drop h)) → Calls Try.prog 63 #[.slice R q d, .slice R' q' d', .pointer (some ⟨G, 0, none⟩)] u (OutGot w.heap.size 20004 ((natOf (x.take h) + natOf (x.drop h)) * (natOf (y.take h) + natOf (y.drop h))) u) := fun u R q d R' q' d' hu h1 h2 => by
        have h3 := h1.1
        have h4 := h2.1
        have T := times_got ih w.heap.size R R' d d' q q' (wd (natOf (x.take h) + natOf (x.drop h))) (wd (natOf (y.take h) + natOf (y.drop h))) u h1.1 h2.1 (by omega) (by omega) (by omega) h1.2.1 h2.2.1 (wd_words _) (wd_words _) h1.2.2 h2.2.2 (box_step hb0 hu) (by have := HEs.out; have := hu.size; omega)
        rw [natOf_wd, natOf_wd] at T
        refine T.mono ?_
        rintro e w' ⟨v, rfl, ⟨R, k, rfl, h5, h6, h7⟩, hb'⟩
        exact ⟨_, rfl, ⟨R, k, rfl, h5, h6, by omega⟩, hb'⟩
      have hP := half_three (natOf (x.take h)) (natOf (x.drop h)) (natOf (y.take h)) (natOf (y.drop h)) (18446744073709551616 ^ h)
      rw [← hxp, ← hyp, hV, ← Nat.pow_add] at hP
      have hS := sub_two (natOf (x.take h)) (natOf (x.drop h)) (natOf (y.take h)) (natOf (y.drop h))
      have HK := Lib.hid hK
      have HM := Lib.hid hM
      generalize natOf (x.take h) = xl at *
      generalize natOf (x.drop h) = xd at *
      generalize natOf (y.take h) = yl at *
      generalize natOf (y.drop h) = yd at *
      have H1 := Lib.hid T1
      have H2 := Lib.hid T2
      have H3 := Lib.hid T3
      have H4 := Lib.hid T4
      have H5 := Lib.hid T5
      have HP := Lib.hid hP
      have HS := Lib.hid hS
      clear T1 T2 T3 T4 T5 hP hS s1 s2 hxt hxd hyt hyd hwt hwd hwt2 hwd2 hlt1 hlt2 hld1 hld2 hxp hyp hV
      go_wp2_with fail
      go_region
      go_upto_region 12 with fail
      have hu : Below E.heap.size E E.drew.drew := ((Drawn.more 1).below _).trans ((Drawn.more 1).below _)
      have hbc := boxc (box_step hb0 hu)
      go_cut [12, 13] (fun s1 s2 wx => Got w.heap.size wx s1 (h + h) (xl * yl) ∧ Got w.heap.size wx s2 (n - h + (m - h)) (xd * yd) ∧ Below E.heap.size E wx)
      case first =>
        go_region_with (first
          | (go_at_call 63; (with_reducible refine (H1.out _ hu).mono ?_); rintro e wa ⟨va, rfl, Ga, ba⟩; (try replace Gb := Gb.step ba); replace hu := hu.trans (ba.mono hu.size); replace hbc := boxc (box_step hb0 hu))
          | (go_at_call 63; (with_reducible refine (H2.out _ hu).mono ?_); rintro e wb ⟨vb, rfl, Gb, bb⟩; (try replace Ga := Ga.step bb); replace hu := hu.trans (bb.mono hu.size); replace hbc := boxc (box_step hb0 hu)))
        all_goals (go_wp2_with fail; go_meet; exact ⟨Ga, Gb, hu⟩)
      case rest =>
        obtain ⟨Ga, Gb, hu⟩ := hcut
        clear hbc
        go_upto_region 13 with fail
        replace hu : Below E.heap.size E wc.drew := hu.trans ((Drawn.more 1).below _)
        replace Ga : Got w.heap.size wc.drew u12 _ _ := Ga.step ((Drawn.more 1).below _)
        replace Gb : Got w.heap.size wc.drew u13 _ _ := Gb.step ((Drawn.more 1).below _)
        have hbc := boxc (box_step hb0 hu)
        go_cut [14] (fun s wx => Got w.heap.size wx s 20004 ((xl + xd) * (yl + yd)) ∧ Got w.heap.size wx u12 (h + h) (xl * yl) ∧ Got w.heap.size wx u13 (n - h + (m - h)) (xd * yd) ∧ Below E.heap.size E wx)
        case first =>
          go_region_with (first
            | (go_at_call 25; (with_reducible refine (H3.out _ hu).mono ?_); rintro e wa ⟨Ra, qa, da, rfl, Na, ba⟩; (try replace Nb := Nb.step ba); replace Ga := Ga.step ba; replace Gb := Gb.step ba; replace hu := hu.trans (ba.mono hu.size); replace hbc := boxc (box_step hb0 hu))
            | (go_at_call 25; (with_reducible refine (H4.out _ hu).mono ?_); rintro e wb ⟨Rb, qb, db, rfl, Nb, bb⟩; (try replace Na := Na.step bb); replace Ga := Ga.step bb; replace Gb := Gb.step bb; replace hu := hu.trans (bb.mono hu.size); replace hbc := boxc (box_step hb0 hu))
            | (go_at_call 63; (with_reducible refine (H5.out _ _ _ _ _ _ _ hu Na Nb).mono ?_); rintro e wd ⟨vd, rfl, Gd, bd⟩; replace Ga := Ga.step bd; replace Gb := Gb.step bd; replace hu := hu.trans (bd.mono hu.size)))
          all_goals (go_wp2_with fail; go_meet; exact ⟨Gd, Ga, Gb, hu⟩)
        case rest =>
          obtain ⟨Gd, Ga, Gb, hu⟩ := hcut
          clear hbc
          obtain ⟨Rd', kd, rfl, d1, d2, d3⟩ := Gd
          obtain ⟨Ra, ka, rfl, a1, a2, a3⟩ := Ga
          obtain ⟨Rb, kb, rfl, b1, b2, b3⟩ := Gb
          obtain ⟨q, hq⟩ : ∃ q, h + h = q := ⟨_, rfl⟩
          have hq2 : (2 : Int) * (h : Int) = (q : Int) := by omega
          have hPP := HP.out
          have hSS := HS.out
          obtain ⟨P3, h3⟩ : ∃ P3, (xl + xd) * (yl + yd) = P3 := ⟨_, rfl⟩
          obtain ⟨P1, h1⟩ : ∃ P1, xl * yl = P1 := ⟨_, rfl⟩
          obtain ⟨P2, h2⟩ : ∃ P2, xd * yd = P2 := ⟨_, rfl⟩
          rw [h3] at d1 d2
          rw [h1] at a1 a2
          rw [h2] at b1 b2
          rw [h1, h2, h3] at hPP hSS
          rw [hq] at hPP a3
          obtain ⟨Mi, hMi⟩ : ∃ Mi, P3 - P1 - P2 = Mi := ⟨_, rfl⟩
          rw [hMi] at hPP
          have hVK := HVK.out
          have hnn : ∀ k P, P < 18446744073709551616 ^ k → natOf (words k P) = P := fun k P hP => by rw [natOf_words, Nat.mod_eq_of_lt hP]
          have hK3 : q ≤ K := by omega
          have HA1 := Lib.hid (addAt_w w.heap.size K 0 0 ka P1 P1 Ra wc (own_step hown0 hu) a1 ka (by omega) hK2 a2 (by rw [Nat.pow_zero, Nat.one_mul, Nat.zero_add]) (by omega))
          have hrm := room_of Mi h K (by omega) (by omega)
          have Hrm := Lib.hid hrm
          have HPP := Lib.hid hPP
          have HMi := Lib.hid hMi
          have HSS := Lib.hid hSS
          have Hq := Lib.hid hq
          clear hPP hrm hMi hSS h1 h2 h3 HP HS H1 H2 H3 H4 H5 hVK hq
          go_wp2_with fail
          refine (HA1.out).mono ?_
          rintro e w2 ⟨rfl, ow2, hg2⟩
          have hBc : Below w.heap.size w wc := hbE.trans (hu.mono hbE.size)
          have hB2 := below_add hBc hg2 (Nat.le_refl _)
          have hsz2 : w.heap.size < w2.heap.size := by have := HEs.out; have := hu.size; have := hg2.size; omega
          replace a1 := a1.grown hg2
          replace b1 := b1.grown hg2
          replace d1 := d1.grown hg2
          have WO := without_any Rd' Ra Rb kd ka kb kd ka kb (words kd P3) (words ka P1) (words kb P2) w2 (length_words _ _) (length_words _ _) (length_words _ _) d1.rd (words_words _ _) (by rw [length_words]; omega) (by rw [length_words]; omega) a1.rd (words_words _ _) (by rw [length_words]; omega) (by rw [length_words]; omega) b1.rd (words_words _ _) (by rw [length_words]; omega) (by rw [length_words]; omega) (by rw [hnn _ _ a2, hnn _ _ b2, hnn _ _ d2]; exact HSS.out)
          rw [hnn _ _ a2, hnn _ _ b2, hnn _ _ d2, HMi.out] at WO
          have HWO := Lib.hid WO
          clear WO HA1 hnn
          go_wp2_with fail
          refine (HWO.out).mono ?_
          rintro e w3 ⟨v4, rfl, ho4, hb3⟩
          obtain ⟨R4, d4, rfl, hd4, _⟩ := own_form ho4
          have hB3 : Below w.heap.size w w3 := hB2.trans (hb3.mono hB2.size)
          have HA2 := Lib.hid (addAt_w w.heap.size K h P1 ((nbits Mi + 63) / 64) Mi (P1 + 18446744073709551616 ^ h * Mi) R4 w3 (own_step ow2 hb3) (Rdx.own ho4 hsz2) d4 Hrm.out hK2 (by rw [pow_64_2]; exact Nat.lt_of_lt_of_le (nbits_lt Mi) (Nat.pow_le_pow_right (by omega) (by omega))) rfl (by have := HVK.out; have := HPP.out; omega))
          replace b1 := b1.step hb3
          clear HWO
          go_wp2_with fail
          refine (HA2.out).mono ?_
          rintro e w4 ⟨rfl, ow4, hg4⟩
          have hB4 := below_add hB3 hg4 (Nat.le_refl _)
          replace b1 := b1.grown hg4
          have HA3 := Lib.hid (addAt_w w.heap.size K q (P1 + 18446744073709551616 ^ h * Mi) kb P2 V Rb w4 ow4 b1 kb (by have := Hq.out; omega) hK2 b2 HPP.out.symm HVK.out)
          clear HA2
          go_wp2_with fail
          refine (HA3.out).mono ?_
          rintro e w5 ⟨rfl, ow5, hg5⟩
          have hB5 := below_add hB4 hg5 (Nat.le_refl _)
          clear HA3 ow4 ow2
          go_wp2_with fail
          go_ret
          exact ⟨_, _, rfl, ow5, HVK.out, by have := HK.out; have := HM.out; omega, hB5⟩
end Go.Proofs.Ytbgaboboakkimaa
/- Plain facts on products to the base 2: sums of columns, and what is carried. No condition but those typed; no program is named. -/
namespace Go.Proofs.Ytbgaboboakkimaa
theorem bv_set (l : List Nat) (j d : Nat) (h : j < l.length) : bv (l.set j (nth l j + d)) = bv l + 2 ^ j * d := by
  induction l generalizing j with
  | nil => simp at h
  | cons x r ih =>
    cases j with
    | zero => simp [bv, nth]; omega
    | succ j =>
      have := ih j (by simpa using h)
      simp only [List.set_cons_succ, bv]
      rw [show nth (x :: r) (j + 1) = nth r j from rfl, this, Nat.pow_succ, Nat.mul_add, Nat.mul_comm (2 ^ j) 2, Nat.mul_assoc]
      omega
theorem bv_replicate (k : Nat) : bv (List.replicate k 0) = 0 := by
  induction k with
  | zero => rfl
  | succ k ih => simp [List.replicate_succ, bv, ih]
/-- The columns when rows 0 to i - 1 are done, and k of row i. -/
structure Cols (M N i k : Nat) (l : List Nat) : Prop where
  len : l.length = nbits M + nbits N
  val : bv l = (M % 2 ^ i) * N + 2 ^ i * (bit M i * (N % 2 ^ k))
  low : ∀ j, nth l j ≤ i + 1
  high : ∀ j, i + k ≤ j → nth l j ≤ i
theorem nth_replicate (k j : Nat) : nth (List.replicate k 0) j = 0 := by
  unfold nth
  rw [List.getD_eq_getElem?_getD, List.getElem?_replicate]
  split <;> rfl
theorem Cols.start (M N : Nat) : Cols M N 0 0 (List.replicate (nbits M + nbits N) 0) where
  len := by simp
  val := by rw [bv_replicate]; simp [Nat.mod_one]
  low := fun j => by rw [nth_replicate]; omega
  high := fun j _ => by rw [nth_replicate]; omega
/-- A digit of b more, where a's is 1. -/
theorem Cols.step {M N i k : Nat} {l : List Nat} (h : Cols M N i k l) (h1 : bit M i = 1) (hik : i + k < l.length) : Cols M N i (k + 1) (l.set (i + k) (nth l (i + k) + bit N k)) where
  len := by rw [List.length_set]; exact h.len
  val := by
    rw [bv_set l _ _ hik, h.val, h1, low_bit, Nat.one_mul, Nat.one_mul, Nat.mul_add, Nat.pow_add, Nat.mul_assoc]
    omega
  low := fun j => by
    rw [nth_set l _ _ _ hik]
    have := h.high (i + k) (Nat.le_refl _)
    have hb := bit_lt N k
    have := h.low j
    split <;> omega
  high := fun j hj => by
    rw [nth_set l _ _ _ hik, if_neg (by omega)]
    exact h.high j (by omega)
/-- The row is done. -/
theorem Cols.row {M N i k : Nat} {l : List Nat} (h : Cols M N i k l) (hk : bit M i = 0 ∨ nbits N ≤ k) : Cols M N (i + 1) 0 l where
  len := h.len
  val := by
    rw [h.val, low_bit, Nat.pow_zero, Nat.mod_one, Nat.mul_zero, Nat.mul_zero, Nat.add_zero, Nat.add_mul]
    rcases hk with hk | hk
    · rw [hk]; simp
    · rw [Nat.mod_eq_of_lt (Nat.lt_of_lt_of_le (nbits_lt N) (Nat.pow_le_pow_right (by omega) hk)), Nat.mul_assoc]
  low := fun j => by have := h.low j; omega
  high := fun j _ => by have := h.low j; omega
theorem Cols.all {M N : Nat} {l : List Nat} (h : Cols M N (nbits M) 0 l) : bv l = M * N := by
  rw [h.val, Nat.mod_eq_of_lt (nbits_lt M), Nat.pow_zero, Nat.mod_one]
  simp
theorem prod_lt (M N : Nat) : M * N < 2 ^ (nbits M + nbits N) := by
  have h1 := nbits_lt M
  have h2 := nbits_lt N
  rw [Nat.pow_add]
  exact Nat.mul_lt_mul_of_lt_of_le h1 (Nat.le_of_lt h2) (Nat.pow_pos (by omega))
theorem nbits_mul (M N : Nat) : nbits (M * N) ≤ nbits M + nbits N := nbits_of_lt _ _ (prod_lt M N)
end Go.Proofs.Ytbgaboboakkimaa
/- The contract of the document's Times: the product of two numbers to the base 2. Conditions: as typed (lengths that fit a machine). -/
namespace Go.Proofs.Ytbgaboboakkimaa
open Go.RowKit
set_option maxRecDepth 20000
end Go.Proofs.Ytbgaboboakkimaa
/- The contract of the document's Power of chapter 3. Conditions: as typed (lengths that fit a machine). -/
namespace Go.Proofs.Ytbgaboboakkimaa
open Go.RowKit
set_option maxRecDepth 20000
/-- Nothing, and an error's number. -/
def OutErr (x : Int) (w : World) (e : Ending) (w' : World) : Prop := ∃ X d, e = .returned (.tuple #[.slice X 0 d, .int .i64 x]) ∧ Below w.heap.size w w'
theorem nbits_iff (N : Nat) : 0 < nbits N ↔ N ≠ 0 := by
  constructor
  · intro h h0; rw [h0, nbits_zero] at h; omega
  · intro h
    rcases Nat.eq_zero_or_pos (nbits N) with h1 | h1
    · have := nbits_lt N; rw [h1] at this; simp at this; omega
    · exact h1
section
variable (A : Option Addr) (c : Nat) (a : List Nat) (w : World) (hr : Rd .u64 w w.heap.size A a) (hw : Words a) (hl : a.length ≤ 10000)
include hr hw hl
end
end Go.Proofs.Ytbgaboboakkimaa
/- mul.product, Mul, Square. Conditions: as typed (lengths that fit a machine). -/
namespace Go.Proofs.Ytbgaboboakkimaa
open Go.RowKit
set_option maxRecDepth 20000
theorem times_all (G t N : Nat) : TimesTo G t N := by
  induction N with
  | zero => intro A A2 c c2 n m a b w _ _ h; omega
  | succ N ih =>
    intro A A2 c c2 n m a b w hn hm hN hl hl2 hc hc2 hw hw2 hr hr2 hb
    subst hn
    subst hm
    exact times_step G t N ih A A2 c c2 a b w (by omega) hl hl2 hc hc2 hw hw2 hr hr2 hb
section
variable (A A2 : Option Addr) (c c2 : Nat) (a b : List Nat) (w : World) (hr : Rd .u64 w w.heap.size A a) (hw : Words a) (hl : a.length ≤ 10000) (hc : a.length ≤ c) (hr2 : Rd .u64 w w.heap.size A2 b) (hw2 : Words b) (hl2 : b.length ≤ 10000) (hc2 : b.length ≤ c2)
include hr hw hl hc hr2 hw2 hl2 hc2
set_option maxHeartbeats 1000000 in
theorem product_any : Calls Try.prog 46 #[.slice A a.length c, .slice A2 b.length c2] w (OutTimes (natOf a * natOf b) (a.length + b.length) w) := by
  have b1 : Below w.heap.size w (w.alloc (.cells #[tfn w.heap.size] 26)) := (Below.refl _ w).alloc (Nat.le_refl _) _
  have T := times_all w.heap.size 26 (a.length + b.length + 1) A A2 c c2 a.length b.length a b (w.alloc (.cells #[tfn w.heap.size] 26)) rfl rfl (Nat.lt_succ_self _) hl hl2 hc hc2 hw hw2 ((hr.below b1).more b1.size) ((hr2.below b1).more b1.size) (Boxed.new w _ _)
  rw [tfn] at T b1
  have hbx := Boxed.new w 26 .nilFunc
  have hco := hbx.cell
  have hfo := hbx.frozen
  have HT := Lib.hid T
  clear T hr hr2 hw hw2
  go_enter Try.func46, Try.ntmps46
  go_wp2_with fail
  refine (HT.out).mono ?_
  rintro e w1 ⟨R, K, rfl, ho, hV, hK, hb⟩
  have HO := Lib.hid (own_base ho b1.size)
  have HV := Lib.hid hV
  clear ho hV HT
  go_wp2_with fail
  go_ret
  exact ⟨R, K, rfl, HO.out, HV.out, hK, b1.trans (hb.mono b1.size)⟩
theorem mulMul_pf : Calls Try.prog 20 #[.slice A a.length c, .slice A2 b.length c2] w (OutNat (natOf a * natOf b) w) := by
  have P := Lib.hid (product_any A A2 c c2 a b w hr hw hl hc hr2 hw2 hl2 hc2)
  obtain ⟨M, hM⟩ : ∃ M, a.length + b.length = M := ⟨_, rfl⟩
  rw [hM] at P
  have hM2 : M ≤ 20000 := by omega
  clear hr hr2 hw hw2 hM
  go_enter Try.func20, Try.ntmps20
  go_wp2_with fail
  refine (P.out).mono ?_
  rintro e w1 ⟨R, K, rfl, ho, hV, hK, hb⟩
  have T := mtrim_any R K (words K (natOf a * natOf b)) w1 w1.heap.size (Rd.own ho) (words_words _ _) (by rw [length_words]; omega) (by rw [length_words]; exact Nat.le_refl _)
  rw [length_words, tl_words K _ hV] at T
  have HT := Lib.hid T
  have HO := Lib.hid (own_trim ho hV)
  clear T ho hV P
  go_wp2_with fail
  refine (HT.out).mono ?_
  rintro e w' ⟨rfl, rfl⟩
  go_wp2_with fail
  go_ret
  exact ⟨_, rfl, HO.out, hb⟩
omit hr2 hw2 hl2 hc2
end
end Go.Proofs.Ytbgaboboakkimaa
/- mul.Power. Conditions: as typed (lengths that fit a machine). -/
namespace Go.Proofs.Ytbgaboboakkimaa
open Go.RowKit
set_option maxRecDepth 20000
section
variable (A : Option Addr) (c : Nat) (a : List Nat) (w : World) (hr : Rd .u64 w w.heap.size A a) (hw : Words a) (hl : a.length ≤ 10000) (hc : a.length ≤ c)
include hr hw hl hc
end
end Go.Proofs.Ytbgaboboakkimaa
/- mul's contracts, as laws use them. Conditions: as typed (lengths that fit a machine, a capacity that is not below its length). -/
namespace Go.Proofs.Ytbgaboboakkimaa
open Go.RowKit
set_option maxRecDepth 20000
section
variable (A A2 : Option Addr) (c c2 : Nat) (a b : List Nat) (w : World) (hr : Rd .u64 w w.heap.size A a) (hw : Words a) (hl : a.length ≤ 10000) (hc : a.length ≤ c) (hr2 : Rd .u64 w w.heap.size A2 b) (hw2 : Words b) (hl2 : b.length ≤ 10000) (hc2 : b.length ≤ c2)
include hr hw hl hc
include hr2 hw2 hl2 hc2
theorem mulMul_any : Calls Try.prog 20 #[.slice A a.length c, .slice A2 b.length c2] w (OutNat (natOf a * natOf b) w) := mulMul_pf A A2 c c2 a b w hr hw hl hc hr2 hw2 hl2 hc2
end
end Go.Proofs.Ytbgaboboakkimaa
/- mul's contracts in the form that laws use: a slice of words stands for a number. Conditions: as typed. -/
namespace Go.Proofs.Ytbgaboboakkimaa
open Go.RowKit
set_option maxRecDepth 20000
section
variable {w : World} {A A2 : Option Addr} {n m c c2 M N d d2 : Nat}
theorem bMul (h : NatIn w A n c M) (k : NatIn w A2 m c2 N) (hs : n ≤ 10000) (hs2 : m ≤ 10000) : Calls Try.prog 20 #[.slice A n c, .slice A2 m c2] w (OutN (M * N) w) := by
  have hb := h.bits
  have kb := k.bits
  have hk := nbits_mul M N
  obtain ⟨l, rfl, rfl, h3, h4, h5, h6⟩ := h
  obtain ⟨l2, rfl, rfl, k3, k4, k5, k6⟩ := k
  exact Calls.mono (mulMul_any A A2 c c2 l l2 w h5 h3 hs h6 k5 k3 hs2 k6) fun _ _ h => h.out (by omega)
end
theorem natIn_nil (w : World) : NatIn w none 0 0 0 := ⟨[], rfl, rfl, (by intro x hx; cases hx), by omega, Rd.nil, Nat.le_refl _⟩
/-- A result whose words are known. -/
theorem NatIs.lit {w : World} {X : Option Addr} {q d N : Nat} (h : NatIs w X q d N) (l : List Nat) (e : wd N = l) : q = l.length ∧ Rd .u64 w w.heap.size X l := ⟨by rw [← h.1, e], by rw [← e]; exact h.2.2.1⟩
theorem natIs_eq {w : World} {X : Option Addr} {q d M N : Nat} (h : NatIs w X q d M) (e : M = N) : NatIs w X q d N := e ▸ h
theorem cmpS_same (M : Nat) : cmpS M M = 0 := by simp [cmpS]
theorem cmp_same {w : World} {A A2 : Option Addr} {n m c c2 M N : Nat} (h : NatIn w A n c M) (k : NatIn w A2 m c2 N) (e : M = N) : Calls Try.prog 27 #[.slice A n c, .slice A2 m c2] w fun e w' => e = .returned (.int .i64 0) ∧ Below w.heap.size w w' := by
  have h := bCmp h k
  rwa [e, cmpS_same] at h
section
variable {w : World} {A : Option Addr} {c : Nat} {l : List Nat}
end
/-! The examples -/
end Go.Proofs.Ytbgaboboakkimaa
/- The contract of the document's Div of chapter 4, and words for what divisions answer. Conditions: as typed (lengths that fit a machine). -/
namespace Go.Proofs.Ytbgaboboakkimaa
open Go.RowKit
set_option maxRecDepth 20000
/-- Nothing twice, and an error's number. -/
def OutErr3 (x : Int) (w : World) (e : Ending) (w' : World) : Prop := ∃ X d Y f, e = .returned (.tuple #[.slice X 0 d, .slice Y 0 f, .int .i64 x]) ∧ Below w.heap.size w w'
/-- How often, and what is left. -/
def OutDiv (M N : Nat) (w : World) (e : Ending) (w' : World) : Prop := ∃ X q d Y r f, e = .returned (.tuple #[.slice X q d, .slice Y r f, .int .i64 0]) ∧ NatIs w' X q d (M / N) ∧ NatIs w' Y r f (M % N) ∧ Below w.heap.size w w'
/-- What is left. -/
def OutMod (M N : Nat) (w : World) (e : Ending) (w' : World) : Prop := ∃ Y r f, e = .returned (.tuple #[.slice Y r f, .int .i64 0]) ∧ NatIs w' Y r f (M % N) ∧ Below w.heap.size w w'
/-- How often one word goes into a number, and what is left. -/
def OutWord (M x : Nat) (w : World) (e : Ending) (w' : World) : Prop := ∃ X q d, e = .returned (.tuple #[.slice X q d, .int .u64 (M % x : Nat), .int .i64 0]) ∧ NatIs w' X q d (M / x) ∧ Below w.heap.size w w'
def OutWordE (w : World) (e : Ending) (w' : World) : Prop := ∃ X d, e = .returned (.tuple #[.slice X 0 d, .int .u64 0, .int .i64 5]) ∧ Below w.heap.size w w'
section
variable (A A2 : Option Addr) (c c2 : Nat) (a b : List Nat) (w : World) (hr : Rd .u64 w w.heap.size A a) (hw : Words a) (hl : a.length ≤ 10000) (hr2 : Rd .u64 w w.heap.size A2 b) (hw2 : Words b) (hl2 : b.length ≤ 10000)
include hr2 hw2 hl2
include hr hw hl
end
end Go.Proofs.Ytbgaboboakkimaa

/- Several texts in one; each begins with a remark that says what it shows and on which conditions. -/
import Derived.Test.YtgmolbiicclcaaaKad
import Derived.Test.YtgmolbiicclcaaaKag
/- Plain facts on products of words: a word more, with what is carried; the product of halves. No condition but those typed; no program is named. -/
namespace Go.Proofs.Ytgmolbiicclcaaa
theorem natOf_put (l : List Nat) (j y : Nat) (h : j < l.length) : natOf (l.set j y) + 18446744073709551616 ^ j * nth l j = natOf l + 18446744073709551616 ^ j * y := by
  induction l generalizing j with
  | nil => simp at h
  | cons x r ih =>
    cases j with
    | zero => simp [natOf, nth]; omega
    | succ j =>
      have := ih j (by simpa using h)
      have e : nth (x :: r) (j + 1) = nth r j := by simp [nth]
      rw [e, List.set_cons_succ, natOf, natOf, Nat.pow_succ, Nat.mul_comm (18446744073709551616 ^ j) 18446744073709551616, Nat.mul_assoc, Nat.mul_assoc]
      omega
theorem words_put (l : List Nat) (h : Words l) (j y : Nat) (hy : y < 18446744073709551616) : Words (l.set j y) := fun x hx => by
  rcases mem_set hx with rfl | hx
  · exact hy
  · exact h x hx
theorem words_of (l : List Nat) (h : Words l) (K V : Nat) (hl : l.length = K) (hv : natOf l = V) : l = words K V := by
  subst hl
  subst hv
  exact (words_natOf l h).symm
/-- Words whose number, with c more from place p on, is V; noughts from q on. -/
structure Sums (K q p c V : Nat) (L : List Nat) : Prop where
  len : L.length = K
  words : Words L
  val : natOf L + 18446744073709551616 ^ p * c = V
  far : ∀ j, q ≤ j → nth L j = 0
theorem Sums.step {K q p c V : Nat} {L : List Nat} (h : Sums K q p c V L) (hp : p < q) (hq : q ≤ K) (z s : Nat) (hs : nth L p + z + c = s) :
    Sums K q (p + 1) (s / 18446744073709551616) (V + 18446744073709551616 ^ p * z) (L.set p (s % 18446744073709551616)) where
  len := by rw [List.length_set, h.len]
  words := words_put _ h.words _ _ (Nat.mod_lt _ (by omega))
  val := by
    have h1 := natOf_put L p (s % 18446744073709551616) (by rw [h.len]; omega)
    have h2 := h.val
    have h3 : 18446744073709551616 ^ (p + 1) * (s / 18446744073709551616) = 18446744073709551616 ^ p * (18446744073709551616 * (s / 18446744073709551616)) := by rw [Nat.pow_succ, Nat.mul_assoc]
    have h4 : 18446744073709551616 ^ p * (18446744073709551616 * (s / 18446744073709551616)) + 18446744073709551616 ^ p * (s % 18446744073709551616) = 18446744073709551616 ^ p * s := by rw [← Nat.mul_add, Nat.div_add_mod]
    have h5 : 18446744073709551616 ^ p * s = 18446744073709551616 ^ p * nth L p + 18446744073709551616 ^ p * z + 18446744073709551616 ^ p * c := by rw [← hs, Nat.mul_add, Nat.mul_add]
    omega
  far := fun j hj => by
    rw [nth_set _ _ _ _ (by rw [h.len]; omega), if_neg (by omega)]
    exact h.far j hj
theorem Sums.start (K q V : Nat) (hV : V < 18446744073709551616 ^ q) (hq : q ≤ K) (p : Nat) : Sums K q p 0 V (Go.Proofs.Ytgmolbiicclcaaa.words K V) where
  len := length_words _ _
  words := words_words _ _
  val := by rw [natOf_words, Nat.mod_eq_of_lt (Nat.lt_of_lt_of_le hV (Nat.pow_le_pow_right (by omega) hq)), Nat.mul_zero, Nat.add_zero]
  far := fun j hj => by
    rw [nth_natOf _ (words_words _ _), natOf_words, Nat.mod_eq_of_lt (Nat.lt_of_lt_of_le hV (Nat.pow_le_pow_right (by omega) hq)), Nat.div_eq_of_lt (Nat.lt_of_lt_of_le hV (Nat.pow_le_pow_right (by omega) hj))]
theorem Sums.all {K q p V : Nat} {L : List Nat} (h : Sums K q p 0 V L) : L = Go.Proofs.Ytgmolbiicclcaaa.words K V := words_of L h.words K V h.len (by have := h.val; omega)
theorem Sums.last {K q c V : Nat} {L : List Nat} (h : Sums K q q c V L) (hq : q < K) (hc : c < 18446744073709551616) : L.set q c = Go.Proofs.Ytgmolbiicclcaaa.words K V := by
  refine words_of _ (words_put _ h.words _ _ hc) K V (by rw [List.length_set, h.len]) ?_
  have h1 := natOf_put L q c (by rw [h.len]; exact hq)
  have h2 := h.val
  rw [h.far q (Nat.le_refl _)] at h1
  omega
/-- There is room as long as anything is carried. -/
theorem Sums.room {K q p c V : Nat} {L : List Nat} (h : Sums K q p c V L) (hV : V < 18446744073709551616 ^ K) (hc : c ≠ 0) : p < K := by
  rcases Nat.lt_or_ge p K with h1 | h1
  · exact h1
  · have h2 := h.val
    have h3 : 18446744073709551616 ^ K ≤ 18446744073709551616 ^ p := Nat.pow_le_pow_right (by omega) h1
    have h4 : 18446744073709551616 ^ p * 1 ≤ 18446744073709551616 ^ p * c := Nat.mul_le_mul_left _ (by omega)
    omega
/-- A word by a word, with what is carried and what lies there. -/
theorem word_step (x y o r : Nat) (hx : x < 18446744073709551616) (hy : y < 18446744073709551616) (ho : o < 18446744073709551616) (hr : r < 18446744073709551616) :
    (r + (x * y % 18446744073709551616 + o) % 18446744073709551616) % 18446744073709551616 = (r + x * y + o) % 18446744073709551616 ∧
    x * y / 18446744073709551616 + (x * y % 18446744073709551616 + o) / 18446744073709551616 < 18446744073709551616 ∧
    x * y / 18446744073709551616 + (x * y % 18446744073709551616 + o) / 18446744073709551616 + (r + (x * y % 18446744073709551616 + o) % 18446744073709551616) / 18446744073709551616 = (r + x * y + o) / 18446744073709551616 ∧
    (r + x * y + o) / 18446744073709551616 < 18446744073709551616 := by
  have h : x * y ≤ 18446744073709551615 * 18446744073709551615 := Nat.mul_le_mul (by omega) (by omega)
  generalize x * y = P at *
  omega
theorem take_full (a : List Nat) : natOf (a.take a.length) = natOf a := by rw [List.take_length]
theorem row_lt (a b : List Nat) (ha : Words a) (hb : Words b) (i : Nat) : natOf (a.take i) * natOf b < 18446744073709551616 ^ (i + b.length) := by
  rw [Nat.pow_add]
  exact Nat.mul_lt_mul'' (natOf_take_lt a ha i) (natOf_lt b hb)
theorem mul_lt (a b : List Nat) (ha : Words a) (hb : Words b) : natOf a * natOf b < 18446744073709551616 ^ (a.length + b.length) := by
  rw [Nat.pow_add]
  exact Nat.mul_lt_mul'' (natOf_lt a ha) (natOf_lt b hb)
/-- A row: k words of b by word i of a are there. -/
theorem row_step (a b : List Nat) (i k : Nat) : natOf (a.take i) * natOf b + 18446744073709551616 ^ i * nth a i * natOf (b.take k) + 18446744073709551616 ^ (i + k) * (nth a i * nth b k) = natOf (a.take i) * natOf b + 18446744073709551616 ^ i * nth a i * natOf (b.take (k + 1)) := by
  rw [natOf_take_succ, Nat.mul_add, Nat.pow_add, Nat.add_assoc]
  congr 2
  simp only [Nat.mul_assoc, Nat.mul_left_comm]
theorem row_end (a b : List Nat) (i : Nat) : natOf (a.take i) * natOf b + 18446744073709551616 ^ i * nth a i * natOf (b.take b.length) = natOf (a.take (i + 1)) * natOf b := by
  rw [natOf_take_succ, take_full, Nat.add_mul]
theorem row_none (a b : List Nat) (i : Nat) (h : nth a i = 0) : natOf (a.take i) * natOf b = natOf (a.take (i + 1)) * natOf b := by rw [natOf_take_succ, h]; simp
/-! Halves -/
theorem half_two (A L H P : Nat) : A * (L + P * H) = A * L + P * (A * H) := by rw [Nat.mul_add, Nat.mul_left_comm]
theorem half_three (a b c d P : Nat) : (a + P * b) * (c + P * d) = a * c + P * ((a + b) * (c + d) - a * c - b * d) + P * P * (b * d) := by
  have h : (a + b) * (c + d) - a * c - b * d = a * d + b * c := by
    rw [Nat.add_mul, Nat.mul_add, Nat.mul_add]
    omega
  rw [h]
  simp only [Nat.mul_add, Nat.mul_left_comm, Nat.mul_comm]
  simp only [Nat.add_assoc, Nat.add_comm]
theorem sub_two (a b c d : Nat) : a * c + b * d ≤ (a + b) * (c + d) := by
  rw [Nat.add_mul, Nat.mul_add, Nat.mul_add]
  omega
end Go.Proofs.Ytgmolbiicclcaaa
/- mul's small functions: trimmed, shorterFirst, without, addAt. Conditions: as typed (lengths that fit a machine; what is added lies apart from the row it is added to, and there is room for the sum). -/
namespace Go.Proofs.Ytgmolbiicclcaaa
open Go.RowKit
set_option maxRecDepth 20000
theorem cell_lt {w : World} {b o : Nat} {v : Value} (h : w.cell? ⟨b, o, none⟩ = some v) : b < w.heap.size := by
  rcases Nat.lt_or_ge b w.heap.size with h1 | h1
  · exact h1
  · simp [World.cell?, Array.getElem?_eq_none h1] at h
/-- The slice at A reads as the numbers l, in a block other than g. -/
def Rdx (k : IntKind) (w : World) (g : Nat) (A : Option Addr) (l : List Nat) : Prop :=
  0 < l.length → ∃ b off, A = some ⟨b, off, none⟩ ∧ b ≠ g ∧ ∀ j, j < l.length → w.cell? ⟨b, off + j, none⟩ = some (.int k (nth l j : Int))
theorem Rdx.grown {k : IntKind} {w w' : World} {g : Nat} {A : Option Addr} {l : List Nat} (h : Rdx k w g A l) (hg : w.grownBy w' (some g)) : Rdx k w' g A l := fun hl => by
  obtain ⟨b, off, e, hb, hc⟩ := h hl
  refine ⟨b, off, e, hb, fun j hj => ?_⟩
  have h1 := hc j hj
  have hlt : b < w.heap.size := cell_lt h1
  rw [← h1]
  exact World.cell?_of_block (hg.block b hlt (by intro e; exact hb (by injection e with e)))
/-- A row that is owned from above g on lies apart from g. -/
theorem Rdx.own {k : IntKind} {w : World} {base g : Nat} {e : TypeId} {n c : Nat} {A : Option Addr} {l : List Nat} (h : w.ownsRow base e 1 (.slice A n c) n (ints k l)) (hg : g < base) : Rdx k w g A l := fun hl => by
  obtain ⟨b, off, rfl, _, hc⟩ := Rd.own h hl
  exact ⟨b, off, rfl, by have := (h.lt b rfl).1; omega, hc⟩
theorem mtrim_any (A : Option Addr) (c : Nat) (a : List Nat) (w : World) (B : Nat) (hr : Rd .u64 w B A a) (hw : Words a) (hl : a.length ≤ 1000000) (hc : a.length ≤ c) :
    Calls Try.prog 32 #[.slice A a.length c] w fun e w' => e = .returned (.slice A (tl a) c) ∧ w = w' := by
  have Q := Lib.hid (bits_q A c a w B hr hw hl hc)
  have hle := tl_le a hw
  have hb := nbits_natOf a hw
  have ht : ((nbits (natOf a) : Int) + 64 - 1) / 64 = (tl a : Int) := by unfold tl; omega
  have ht2 : ((nbits (natOf a) : Int) + 63) / 64 = (tl a : Int) := by unfold tl; omega
  clear hr
  go_enter Try.func32, Try.ntmps32
  go_wp2_with fail
  refine (Q.out).mono ?_
  rintro e w' ⟨rfl, rfl⟩
  go_wp2_with fail
  go_ret
  exact ⟨rfl, rfl⟩
theorem shorter_yes (A A2 : Option Addr) (n m c c2 : Nat) (w : World) (h : m < n) :
    Calls Try.prog 43 #[.slice A n c, .slice A2 m c2] w fun e w' => e = .returned (.tuple #[.slice A2 m c2, .slice A n c]) ∧ w = w' := by
  go_enter Try.func43, Try.ntmps43
  go_wp2_with fail
  go_ret2
  exact ⟨rfl, rfl⟩
theorem shorter_no (A A2 : Option Addr) (n m c c2 : Nat) (w : World) (h : ¬ m < n) :
    Calls Try.prog 43 #[.slice A n c, .slice A2 m c2] w fun e w' => e = .returned (.tuple #[.slice A n c, .slice A2 m c2]) ∧ w = w' := by
  go_enter Try.func43, Try.ntmps43
  go_wp2_with fail
  go_ret2
  exact ⟨rfl, rfl⟩
/-- What is left of a number behind two others. -/
theorem without_any (A A2 A3 : Option Addr) (n m q c c2 c3 : Nat) (a b d : List Nat) (w : World) (hn : a.length = n) (hm : b.length = m) (hq : d.length = q) (hr : Rd .u64 w w.heap.size A a) (hw : Words a) (hl : a.length ≤ 50000) (hc : a.length ≤ c)
    (hr2 : Rd .u64 w w.heap.size A2 b) (hw2 : Words b) (hl2 : b.length ≤ 50000) (hc2 : b.length ≤ c2) (hr3 : Rd .u64 w w.heap.size A3 d) (hw3 : Words d) (hl3 : d.length ≤ 50000) (hc3 : d.length ≤ c3) (hle : natOf b + natOf d ≤ natOf a) :
    Calls Try.prog 46 #[.slice A n c, .slice A2 m c2, .slice A3 q c3] w (OutNat (natOf a - natOf b - natOf d) w) := by
  subst hn
  subst hm
  subst hq
  have S := natSub_any A A2 c c2 a b w hr hw (by omega) hc hr2 hw2 (by omega) hc2
  have HS := Lib.hid S
  clear S
  go_enter Try.func46, Try.ntmps46
  go_wp2_with fail
  refine (HS.out).mono ?_
  rintro e w1 ⟨hyes, _, hb1⟩
  obtain ⟨v, rfl, hown⟩ := hyes (by omega)
  obtain ⟨X, k, rfl, hk, _⟩ := own_form hown
  have hsz : nbits (natOf a - natOf b) ≤ 64 * a.length := Nat.le_trans (nbits_mono (Nat.sub_le _ _)) (nbits_natOf a hw)
  have hlen := length_wd (natOf a - natOf b)
  have S2 := natSub_any X A3 k c3 (wd (natOf a - natOf b)) d w1 (Rd.own hown) (wd_words _) (by omega) (by omega) ((hr3.below hb1).more hb1.size) hw3 (by omega) hc3
  rw [hlen, natOf_wd] at S2
  have HS2 := Lib.hid S2
  clear S2 hlen
  go_wp2_with fail
  refine (HS2.out).mono ?_
  rintro e w2 ⟨hyes2, _, hb2⟩
  obtain ⟨v2, rfl, hown2⟩ := hyes2 (by omega)
  go_wp2_with fail
  go_ret
  exact ⟨_, rfl, own_base hown2 hb1.size, hb1.trans (hb2.mono hb1.size)⟩
set_option maxHeartbeats 1000000 in
/-- x is added to a row from a place on. -/
theorem addAt_any (base g K p V m c2 : Nat) (L xs : List Nat) (A2 : Option Addr) (w : World) (hown : w.ownsRow base 24 1 (.slice (some ⟨g, 0, none⟩) K K) K (ints .u64 L)) (hS : Sums K K p 0 V L) (hx : Rdx .u64 w g A2 xs) (hwx : Words xs) (hm : xs.length = m)
    (hp : p + m ≤ K) (hK : K ≤ 1000000) (hV : V + 18446744073709551616 ^ p * natOf xs < 18446744073709551616 ^ K) :
    Calls Try.prog 45 #[.slice (some ⟨g, 0, none⟩) K K, .slice A2 m c2, .int .i64 (p : Int)] w fun e w' => e = .returned (.tuple #[]) ∧
      w'.ownsRow base 24 1 (.slice (some ⟨g, 0, none⟩) K K) K (ints .u64 (words K (V + 18446744073709551616 ^ p * natOf xs))) ∧ w.grownBy w' (some g) := by
  subst hm
  have HV := Lib.hid hV
  clear hV
  go_enter Try.func45, Try.ntmps45
  go_wp2_with fail
  go_loopw [12, 6] (fun j cy wr => ∃ (i C : Nat) (L' : List Nat), i ≤ xs.length ∧ j = .int .i64 i ∧ cy = .int .u64 C ∧ C ≤ 1 ∧ Sums K K (p + i) C (V + 18446744073709551616 ^ p * natOf (xs.take i)) L' ∧ wr.ownsRow base 24 1 (.slice (some ⟨g, 0, none⟩) K K) K (ints .u64 L') ∧ w.grownBy wr (some g)) (fun j _ _ => xs.length - (intOf j).toNat)
  case atStart => exact ⟨0, 0, L, Nat.zero_le _, rfl, rfl, by omega, by simpa [natOf] using hS, hown, World.grownBy.refl w _⟩
  case round =>
    obtain ⟨i, C, L', hi, rfl, rfl, hC, hS', hown', hg⟩ := hrel
    by_cases hlt : i < xs.length
    · obtain ⟨b, off, rfl, _, hcell⟩ := hx.grown hg (by omega)
      have hx1 := hcell i hlt
      have hxl := nth_lt xs hwx i
      have hll := hS'.len
      have hLl := nth_lt L' hS'.words (p + i)
      have hco : wr.cell? ⟨g, p + i, none⟩ = some (.int .u64 (nth L' (p + i) : Int)) := by rw [hown'.cellAt _ (by omega), ints_get _ _ _ (by omega)]
      have hfo : wr.frozen? ⟨g, p + i, none⟩ = false := hown'.frozenAt _
      obtain ⟨s, hs⟩ : ∃ s, nth L' (p + i) + nth xs i + C = s := ⟨_, rfl⟩
      have hadd := add64_run (nth L' (p + i)) (nth xs i) C hC
      rw [hs] at hadd
      have hst := hown'.stored (p + i) (.int .u64 ((s % 18446744073709551616 : Nat) : Int))
      rw [ints_set] at hst
      have hSS := hS'.step (by omega) (Nat.le_refl _) (nth xs i) s hs
      have e : V + 18446744073709551616 ^ p * natOf (xs.take i) + 18446744073709551616 ^ (p + i) * nth xs i = V + 18446744073709551616 ^ p * natOf (xs.take (i + 1)) := by rw [natOf_take_succ, Nat.mul_add, Nat.pow_add, Nat.mul_assoc, Nat.add_assoc]
      rw [e] at hSS
      have hc1 : s / 18446744073709551616 ≤ 1 := by omega
      obtain ⟨s0, hs0⟩ : ∃ s0, s % 18446744073709551616 = s0 := ⟨_, rfl⟩
      obtain ⟨s1, hs1⟩ : ∃ s1, s / 18446744073709551616 = s1 := ⟨_, rfl⟩
      rw [hs0] at hadd hst hSS
      rw [hs1] at hadd hSS hc1
      have HO := Lib.hid hst.1
      have HG := Lib.hid (hg.trans (grown_setCell wr ⟨g, p + i, none⟩ (.int .u64 (s0 : Int))))
      have HS := Lib.hid hSS
      clear hst hSS hs hs0 hs1 e hcell hown' hS' hll hown hS hx
      go_wp2_with fail
      go_roundw
      case rel => exact ⟨i + 1, s1, L'.set (p + i) s0, by omega, by go_num, rfl, hc1, HS.out, HO.out, HG.out⟩
      case measure => simp [intOf]; omega
    · obtain rfl : i = xs.length := by omega
      rw [List.take_length] at hS'
      clear hlt hown hS
      obtain ⟨wo, hwo⟩ : ∃ wo : World, wo = wr := ⟨_, rfl⟩
      subst hwo
      go_wp2_with fail
      go_loopw [9, 6] (fun j cy wr => ∃ (i C : Nat) (L' : List Nat), i ≤ K ∧ j = .int .i64 i ∧ cy = .int .u64 C ∧ C ≤ 1 ∧ Sums K K i C (V + 18446744073709551616 ^ p * natOf xs) L' ∧ wr.ownsRow base 24 1 (.slice (some ⟨g, 0, none⟩) K K) K (ints .u64 L') ∧ w.grownBy wr (some g)) (fun j _ _ => K - (intOf j).toNat)
      case atStart => exact ⟨p + xs.length, C, L', hp, by go_num, rfl, hC, hS', hown', hg⟩
      case round =>
        obtain ⟨i, C, L', hi, rfl, rfl, hC, hS', hown', hg⟩ := hrel
        by_cases hc0 : C = 0
        · subst hc0
          have e := hS'.all
          subst e
          have HO := Lib.hid hown'
          clear hown' hS'
          go_wp2_with fail
          go_end0
          exact ⟨rfl, HO.out, hg⟩
        · have hiK := hS'.room HV.out hc0
          have hll := hS'.len
          have hLl := nth_lt L' hS'.words i
          have hco : wr.cell? ⟨g, i, none⟩ = some (.int .u64 (nth L' i : Int)) := by rw [hown'.cellAt _ (by omega), ints_get _ _ _ (by omega)]
          have hfo : wr.frozen? ⟨g, i, none⟩ = false := hown'.frozenAt _
          obtain ⟨s, hs⟩ : ∃ s, nth L' i + 0 + C = s := ⟨_, rfl⟩
          have hadd : ∀ w : World, (callFunc 38 #[.int .u64 (nth L' i : Int), .int .u64 0, .int .u64 C]).run Try.prog w = .ok (.value (.tuple #[.int .u64 ((s % 18446744073709551616 : Nat) : Int), .int .u64 ((s / 18446744073709551616 : Nat) : Int)])) w := by
            rw [← hs]
            exact add64_run (nth L' i) 0 C hC
          have hst := hown'.stored i (.int .u64 ((s % 18446744073709551616 : Nat) : Int))
          rw [ints_set] at hst
          have hSS := hS'.step hiK (Nat.le_refl _) 0 s hs
          rw [Nat.mul_zero, Nat.add_zero] at hSS
          have hc1 : s / 18446744073709551616 ≤ 1 := by omega
          obtain ⟨s0, hs0⟩ : ∃ s0, s % 18446744073709551616 = s0 := ⟨_, rfl⟩
          obtain ⟨s1, hs1⟩ : ∃ s1, s / 18446744073709551616 = s1 := ⟨_, rfl⟩
          rw [hs0] at hadd hst hSS
          rw [hs1] at hadd hSS hc1
          have hne : ((C : Int) != 0) = true := by simp; omega
          have HO := Lib.hid hst.1
          have HG := Lib.hid (hg.trans (grown_setCell wr ⟨g, i, none⟩ (.int .u64 (s0 : Int))))
          have HS := Lib.hid hSS
          clear hst hSS hs hs0 hs1 hown' hS' hll
          go_wp2_with fail
          go_roundw
          case rel => exact ⟨i + 1, s1, L'.set i s0, by omega, by go_num, rfl, hc1, HS.out, HO.out, HG.out⟩
          case measure => simp [intOf]; omega
end Go.Proofs.Ytgmolbiicclcaaa

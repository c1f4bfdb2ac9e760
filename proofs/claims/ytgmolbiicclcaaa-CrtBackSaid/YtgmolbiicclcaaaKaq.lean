/- Several texts in one; each begins with a remark that says what it shows and on which conditions. -/
import Derived.Test.YtgmolbiicclcaaaKal
import Derived.Test.YtgmolbiicclcaaaKam
import Derived.Test.YtgmolbiicclcaaaKap
import Derived.Test.YtgmolbiicclcaaaKaj
import Derived.Test.YtgmolbiicclcaaaKak
/- The contract of the document's Div of chapter 4, and words for what divisions answer. Conditions: as typed (lengths that fit a machine). -/
namespace Go.Proofs.Ytgmolbiicclcaaa
open Go.RowKit
set_option maxRecDepth 20000
/-- Nothing twice, and an error's number. -/
def OutErr3 (x : Int) (w : World) (e : Ending) (w' : World) : Prop := ∃ X d Y f, e = .returned (.tuple #[.slice X 0 d, .slice Y 0 f, .int .i64 x]) ∧ Below w.heap.size w w'
/-- How often, and what is left. -/
def OutDiv (M N : Nat) (w : World) (e : Ending) (w' : World) : Prop := ∃ X q d Y r f, e = .returned (.tuple #[.slice X q d, .slice Y r f, .int .i64 0]) ∧ NatIs w' X q d (M / N) ∧ NatIs w' Y r f (M % N) ∧ Below w.heap.size w w'
/-- What is left. -/
def OutMod (M N : Nat) (w : World) (e : Ending) (w' : World) : Prop := ∃ Y r f, e = .returned (.tuple #[.slice Y r f, .int .i64 0]) ∧ NatIs w' Y r f (M % N) ∧ Below w.heap.size w w'
/-- How often one word goes into a number, and what is left. -/
def OutWord (M x : Nat) (w : World) (e : Ending) (w' : World) : Prop := ∃ X q d, e = .returned (.tuple #[.slice X q d, .int .u64 (M % x : Nat), .int .i64 0]) ∧ NatIs w' X q d (M / x) ∧ Below w.heap.size w w'
def OutWordE (w : World) (e : Ending) (w' : World) : Prop := ∃ X d, e = .returned (.tuple #[.slice X 0 d, .int .u64 0, .int .i64 5]) ∧ Below w.heap.size w w'
section
variable (A A2 : Option Addr) (c c2 : Nat) (a b : List Nat) (w : World) (hr : Rd .u64 w w.heap.size A a) (hw : Words a) (hl : a.length ≤ 10000) (hr2 : Rd .u64 w w.heap.size A2 b) (hw2 : Words b) (hl2 : b.length ≤ 10000)
include hr2 hw2 hl2
include hr hw hl
end
end Go.Proofs.Ytgmolbiicclcaaa
/- div.Word: by one word. Conditions: as typed (a length that fits a machine). -/
namespace Go.Proofs.Ytgmolbiicclcaaa
open Go.RowKit Go.Shelf
set_option maxRecDepth 20000
attribute [local go_sem] Oper.semAt_some
/-- The words of a number from place i on, and noughts below. -/
def tops (n N i : Nat) : List Nat := List.replicate i 0 ++ (words n N).drop i
theorem length_tops (n N i : Nat) (h : i ≤ n) : (tops n N i).length = n := by simp [tops, length_words]; omega
theorem tops_start (n N : Nat) : tops n N n = List.replicate n 0 := by simp [tops, length_words]
theorem tops_end (n N : Nat) : tops n N 0 = words n N := by simp [tops]
theorem tops_set (n N i : Nat) (h : i < n) : (tops n N (i + 1)).set i (N / 18446744073709551616 ^ i % 18446744073709551616) = tops n N i := by
  refine ext_nth _ _ (by rw [List.length_set, length_tops _ _ _ (by omega), length_tops _ _ _ (by omega)]) fun j hj => ?_
  rw [List.length_set, length_tops _ _ _ (by omega)] at hj
  rw [nth_set _ _ _ _ (by rw [length_tops _ _ _ (by omega)]; omega)]
  have h1 : ∀ i, i ≤ n → nth (tops n N i) j = if j < i then 0 else N / 18446744073709551616 ^ j % 18446744073709551616 := fun i hi => by
    have hw := nth_words n N j hj
    unfold nth tops at *
    by_cases hji : j < i
    · simp [List.getElem?_append, hji]
    · rw [List.getD_eq_getElem?_getD, List.getElem?_append_right (by simp; omega)] at *
      rw [if_neg hji, ← hw]
      simp
      congr 2
      omega
  rw [h1 _ (by omega), h1 _ (by omega)]
  by_cases hji : j = i
  · subst hji
    rw [if_pos rfl, if_neg (by omega)]
  · rw [if_neg hji]
    by_cases hlt : j < i
    · rw [if_pos hlt, if_pos (by omega)]
    · rw [if_neg hlt, if_neg (by omega)]
theorem word_place (A b i : Nat) (hb : 0 < b) : ∃ q r, (A / 18446744073709551616 ^ (i + 1) % b * 18446744073709551616 + A / 18446744073709551616 ^ i % 18446744073709551616) / b = q ∧
    (A / 18446744073709551616 ^ (i + 1) % b * 18446744073709551616 + A / 18446744073709551616 ^ i % 18446744073709551616) % b = r ∧ q = A / b / 18446744073709551616 ^ i % 18446744073709551616 ∧ r = A / 18446744073709551616 ^ i % b := by
  refine ⟨_, _, rfl, rfl, ?_, ?_⟩
  · have e : A / b / 18446744073709551616 ^ i = A / 18446744073709551616 ^ i / b := by rw [Nat.div_div_eq_div_mul, Nat.mul_comm, ← Nat.div_div_eq_div_mul]
    rw [e]
    obtain ⟨M, hM⟩ : ∃ M, A / 18446744073709551616 ^ i = M := ⟨_, rfl⟩
    have e2 : A / 18446744073709551616 ^ (i + 1) = M / 18446744073709551616 := by rw [Nat.pow_succ, ← Nat.div_div_eq_div_mul, hM]
    rw [e2, hM]
    have hMd := Nat.div_add_mod M 18446744073709551616
    obtain ⟨h1, h2⟩ := long_div (M / 18446744073709551616) b 18446744073709551616 (M % 18446744073709551616) hb
    obtain ⟨h3, h4⟩ := place_step (M / 18446744073709551616 % b) b 18446744073709551616 (M % 18446744073709551616) hb (Nat.mod_lt _ hb) (Nat.mod_lt _ (by omega))
    have e3 : M / 18446744073709551616 * 18446744073709551616 + M % 18446744073709551616 = M := by omega
    rw [e3] at h1
    rw [h1]
    generalize (M / 18446744073709551616 % b * 18446744073709551616 + M % 18446744073709551616) / b = v at *
    generalize M / 18446744073709551616 / b = u at *
    clear h1 h2 h4 e3 hMd e2 e hM
    omega
  · obtain ⟨M, hM⟩ : ∃ M, A / 18446744073709551616 ^ i = M := ⟨_, rfl⟩
    have e2 : A / 18446744073709551616 ^ (i + 1) = M / 18446744073709551616 := by rw [Nat.pow_succ, ← Nat.div_div_eq_div_mul, hM]
    rw [e2, hM]
    have hMd := Nat.div_add_mod M 18446744073709551616
    obtain ⟨h1, h2⟩ := long_div (M / 18446744073709551616) b 18446744073709551616 (M % 18446744073709551616) hb
    have e3 : M / 18446744073709551616 * 18446744073709551616 + M % 18446744073709551616 = M := by omega
    rw [e3] at h2
    exact h2.symm
theorem divWord_zero_pf (A : Option Addr) (n c : Nat) (w : World) : Calls Try.prog 53 #[.slice A n c, .int .u64 0] w (OutWordE w) := by
  go_enter Try.func53, Try.ntmps53
  go_wp2_with fail
  have bq := Boxed.new (w.alloc (.cells #[.int .u64 0] 24)) 28 (.slice none 0 0)
  have br := Boxed.new ((w.alloc (.cells #[.int .u64 0] 24)).alloc (.cells #[.slice none 0 0] 28)) 24 (.int .u64 0)
  simp only [World.size_alloc] at bq br
  have hc1 := (bq.alloc (.cells #[.int .u64 0] 24)).cell
  have hc2 := br.cell
  refine bodyPost_ret (v := .tuple #[.slice none 0 0, .int .u64 0, .int .i64 5]) ?_ rfl ?_
  · simp [results, Try.f53, go_sem, hc1, hc2]
  · exact ⟨none, 0, rfl, (((Below.refl _ w).alloc (Nat.le_refl _) _).alloc (by simp) _).alloc (by simp; omega) _⟩
theorem dtrim_own (w : World) (base c k N : Nat) (A : Option Addr) (h : w.ownsRow base 24 1 (.slice A k c) k (ints .u64 (words k N))) (hN : N < 18446744073709551616 ^ k) (hk : k ≤ 1000000) (hc : k ≤ c) :
    Calls Try.prog 62 #[.slice A k c] w fun e w' => e = .returned (.slice A ((nbits N + 63) / 64) c) ∧ w = w' := by
  have T := dtrim_any A c (words k N) w w.heap.size (Rd.own h) (words_words _ _) (by rw [length_words]; exact hk) (by rw [length_words]; exact hc)
  rwa [length_words, tl_words k N hN] at T
/-- Between two rounds of Word: so many places are made, and what is left. -/
structure WordMid (w : World) (n x r : Nat) (Q : List Nat) (W : World) : Prop where
  bx : Boxed W w.heap.size 24 (.int .u64 (x : Int))
  q : Boxed W (w.heap.size + 1) 28 (.slice (some ⟨w.heap.size + 1 + 1 + 1, 0, none⟩) n n)
  r : Boxed W (w.heap.size + 1 + 1) 24 (.int .u64 (r : Int))
  row : W.ownsRow (w.heap.size + 1 + 1 + 1) 24 1 (.slice (some ⟨w.heap.size + 1 + 1 + 1, 0, none⟩) n n) n (ints .u64 Q)
  below : Below w.heap.size w W
  size : w.heap.size + 5 ≤ W.heap.size
theorem WordMid.kept {w W W' : World} {n x r : Nat} {Q : List Nat} {row : Option Nat} (h : WordMid w n x r Q W) (hg : W.grownBy W' row) (hr : ∀ k, row = some k → w.heap.size + 5 ≤ k) : WordMid w n x r Q W' where
  bx := h.bx.kept hg (by intro e; have := hr _ e.symm; omega)
  q := h.q.kept hg (by intro e; have := hr _ e.symm; omega)
  r := h.r.kept hg (by intro e; have := hr _ e.symm; omega)
  row := h.row.kept hg (.inr (by intro e; have := hr _ e.symm; dsimp only at this; omega))
  below := h.below.grown hg h.below.size (fun k e => by have := hr k e; omega)
  size := Nat.le_trans h.size hg.size
theorem WordMid.step {w W : World} {n x r r' : Nat} {Q : List Nat} (h : WordMid w n x r Q W) (i d : Nat) :
    WordMid w n x r' (Q.set i d) ((W.setCell ⟨w.heap.size + 1 + 1 + 1, i, none⟩ (.int .u64 (d : Int))).setCell ⟨w.heap.size + 1 + 1, 0, none⟩ (.int .u64 (r' : Int))) ∧
    (∀ p, w.heap.size + 4 ≤ p → ((W.setCell ⟨w.heap.size + 1 + 1 + 1, i, none⟩ (.int .u64 (d : Int))).setCell ⟨w.heap.size + 1 + 1, 0, none⟩ (.int .u64 (r' : Int))).heap[p]? = W.heap[p]?) := by
  have g1 := grownBy_setCell' W (w.heap.size + 1 + 1) (.int .u64 (r' : Int))
  have hst := h.row.stored i (.int .u64 (d : Int))
  rw [ints_set] at hst
  obtain ⟨hrow, hg⟩ := hst
  have g2 := grownBy_setCell' (W.setCell ⟨w.heap.size + 1 + 1 + 1, i, none⟩ (.int .u64 (d : Int))) (w.heap.size + 1 + 1) (.int .u64 (r' : Int))
  have hs1 : (W.setCell ⟨w.heap.size + 1 + 1 + 1, i, none⟩ (.int .u64 (d : Int))).heap.size = W.heap.size := by simp [World.setCell]
  have hs2 : ((W.setCell ⟨w.heap.size + 1 + 1 + 1, i, none⟩ (.int .u64 (d : Int))).setCell ⟨w.heap.size + 1 + 1, 0, none⟩ (.int .u64 (r' : Int))).heap.size = W.heap.size := by simp [World.setCell]
  refine ⟨⟨(h.bx.kept hg (by simp; omega)).kept g2 (by simp; omega), (h.q.kept hg (by simp)).kept g2 (by simp), (h.r.kept hg (by simp)).set _, hrow.kept g2 (.inr (by simp [Value.ownBlock])), (h.below.setCell (p := ⟨w.heap.size + 1 + 1 + 1, i, none⟩) (by simp; omega) _).setCell (p := ⟨w.heap.size + 1 + 1, 0, none⟩) (by simp; omega) _, by rw [hs2]; exact h.size⟩, ?_⟩
  intro p hp
  rcases Nat.lt_or_ge p W.heap.size with hlt | hge
  · rw [g2.block p (by rw [hs1]; exact hlt) (by simp; omega), hg.block p hlt (by simp; omega)]
  · rw [Array.getElem?_eq_none (by rw [hs2]; exact hge), Array.getElem?_eq_none hge]
set_option maxRecDepth 100000 in
set_option maxHeartbeats 2000000 in
theorem divWord_ok_pf (A : Option Addr) (n c x : Nat) (a : List Nat) (w : World) (hn : a.length = n) (hr : Rd .u64 w w.heap.size A a) (hw : Words a) (hl : n ≤ 10000) (_ : n ≤ c) (hx : 0 < x) (hx2 : x < 18446744073709551616) :
    Calls Try.prog 53 #[.slice A n c, .int .u64 (x : Int)] w (OutWord (natOf a) x w) := by
  have hx0 : ((x : Int) == 0) = false := by simp; omega
  have Hn := Lib.hid hn
  have hmk := fun u => make_row n u (by omega)
  clear hn
  refine (callsIn_wide (n := 9)).1 ?_
  refine callsIn_of_wp_marks Try.func53 rfl trivial ?_ rfl
  simp only [Try.ntmps53, List.size_toArray, List.length_cons, List.length_nil, Nat.reduceAdd, Nat.reduceSub, Array.replicate_succ, Array.replicate_zero, List.push_toArray, List.append_toArray, List.nil_append, List.cons_append]
  gi_wp2
  refine ⟨trivial, ?_⟩
  refine (back_in _ _ _ _ _).mono ?_
  rintro e w' ⟨rfl, rfl⟩
  have hown0 := row_zero (((w.alloc (.cells #[.int .u64 (x : Int)] 24)).alloc (.cells #[.slice (some ⟨w.heap.size + 1 + 1 + 1, 0, none⟩) n n] 28)).alloc (.cells #[.int .u64 0] 24)) n (by omega)
  have b1 := Boxed.new w 24 (.int .u64 (x : Int))
  have b2 := Boxed.new (w.alloc (.cells #[.int .u64 (x : Int)] 24)) 28 (.slice (some ⟨w.heap.size + 1 + 1 + 1, 0, none⟩) n n)
  have b3 := Boxed.new ((w.alloc (.cells #[.int .u64 (x : Int)] 24)).alloc (.cells #[.slice (some ⟨w.heap.size + 1 + 1 + 1, 0, none⟩) n n] 28)) 24 (.int .u64 0)
  have b5 := Boxed.new ((((w.alloc (.cells #[.int .u64 (x : Int)] 24)).alloc (.cells #[.slice (some ⟨w.heap.size + 1 + 1 + 1, 0, none⟩) n n] 28)).alloc (.cells #[.int .u64 0] 24)).alloc (.cells (Array.replicate n (Value.int .u64 0)) 24)) 28 (.slice A n c)
  simp only [World.size_alloc] at hown0 b2 b3 b5
  obtain ⟨E, hE⟩ : ∃ E, ((((w.alloc (.cells #[.int .u64 (x : Int)] 24)).alloc (.cells #[.slice (some ⟨w.heap.size + 1 + 1 + 1, 0, none⟩) n n] 28)).alloc (.cells #[.int .u64 0] 24)).alloc (.cells (Array.replicate n (Value.int .u64 0)) 24)).alloc (.cells #[.slice A n c] 28) = E := ⟨_, rfl⟩
  have hEs : E.heap.size = w.heap.size + 5 := by rw [← hE]; simp
  have hB : Below w.heap.size w E := by rw [← hE]; exact (((((Below.refl _ w).alloc (Nat.le_refl _) _).alloc (by simp) _).alloc (by simp; omega) _).alloc (by simp; omega) _).alloc (by simp; omega) _
  have hM0 : WordMid w n x 0 (words n 0) E := by
    rw [← hE]
    exact ⟨(((b1.alloc _).alloc _).alloc _).alloc _, ((b2.alloc _).alloc _).alloc _, (b3.alloc _).alloc _, hown0.alloc _, by rw [hE]; exact hB, by rw [hE, hEs]; omega⟩
  have bA : Boxed E (w.heap.size + 1 + 1 + 1 + 1) 28 (.slice A n c) := by rw [← hE]; exact b5
  have hlt := natOf_lt a hw
  rw [Hn.out] at hlt
  have hs0 : words n 0 = tops n (natOf a / x) n ∧ 0 = natOf a / 18446744073709551616 ^ n % x := ⟨by rw [tops_start, words_none], by rw [Nat.div_eq_of_lt hlt, Nat.zero_mod]⟩
  have HEs := Lib.hid hEs
  have HS0 := Lib.hid hs0
  have Hlt := Lib.hid hlt
  clear hown0 b1 b2 b3 b5 hmk hs0 hlt
  gi_wp2
  clear hE
  refine wpIn_rangeFunc_ownG rfl (by omega) (gf := 40) (lb := #[.pointer (some ⟨w.heap.size + 1 + 1 + 1 + 1, 0, none⟩)]) rfl trivial (enters_of Try.func40 (by kernel_rfl) rfl)
    (backR_stops 8 (by omega) (w.heap.size + 1 + 1 + 1 + 1) n c A (fun l => l = a) (by omega) E bA ⟨a, Hn.out, hw, rfl, (hr.below hB).more hB.size⟩)
    KpR.t (KpR.b (by omega)) (Below.refl _ _) (fun _ => rfl)
    (fun pre W => ∃ (Q : List Nat) (r : Nat), Q.length = n ∧ Words Q ∧ r < x ∧ WordMid w n x r Q W ∧ (Downs (m := n) (fun l => l = a) pre → Q = tops n (natOf a / x) (n - pre.length) ∧ r = natOf a / 18446744073709551616 ^ (n - pre.length) % x))
    (fun _ _ _ => False)
    (fun s X Y row hs hg hr => by
      obtain ⟨Q, r, h1, h2, h3, h4, h5⟩ := hs
      exact ⟨Q, r, h1, h2, h3, h4.kept hg (fun k e => by have := (hr k e).1; omega), h5⟩)
    (fun _ _ _ _ _ hs _ _ => hs)
    ⟨words n 0, 0, length_words _ _, words_words _ _, hx, hM0, fun _ => by simpa using HS0.out⟩
    (fun y => { tmps := #[.slice A n c, .int .u64 (x : Int), undef, .pointer (some ⟨w.heap.size, 0, none⟩), .pointer (some ⟨w.heap.size + 1, 0, none⟩), .pointer (some ⟨w.heap.size + 1 + 1, 0, none⟩), .int .i64 0, .int .i64 (y.1.1 : Int), .int .u64 (y.1.2 : Int),
      .int .u64 (x : Int), .bool false, .slice A n c, .int .i64 (n : Int), .slice (some ⟨w.heap.size + 1 + 1 + 1, 0, none⟩) n n, .slice A n c, .func (.func 40) #[] #[.pointer (some ⟨w.heap.size + 1 + 1 + 1 + 1, 0, none⟩)],
      .int .i64 (y.1.1 : Int), .int .u64 (y.1.2 : Int), undef, undef, undef, undef, undef, undef, undef, undef, undef, undef, undef, undef, undef], defers := [] }) ?assign ?body ?done ?stop
  case assign =>
    intro l x W K hK
    gi_wp2
    exact hK
  case body =>
    rintro l pre y W ⟨Q, r, hQl, hQw, hrx, hM, hP⟩ hlen
    have hi := y.2.1
    have hwd := y.2.2
    obtain ⟨qd, hqd⟩ : ∃ qd, (r * 18446744073709551616 + y.1.2) / x = qd := ⟨_, rfl⟩
    obtain ⟨rd, hrd⟩ : ∃ rd, (r * 18446744073709551616 + y.1.2) % x = rd := ⟨_, rfl⟩
    have hps := place_step r x 18446744073709551616 y.1.2 hx hrx hwd
    rw [hqd, hrd] at hps
    have D := fun u => div64_any r y.1.2 x u hrx hx2 hwd
    rw [hqd, hrd] at D
    have hbc := hM.bx.cell
    have hqc := hM.q.cell
    have hrc := hM.r.cell
    have hrf := hM.r.frozen
    have hco : W.cell? ⟨w.heap.size + 1 + 1 + 1, y.1.1, none⟩ = some (.int .u64 (nth Q y.1.1 : Int)) := by rw [hM.row.cellAt _ (by omega), ints_get _ _ _ (by omega)]
    have hfo : W.frozen? ⟨w.heap.size + 1 + 1 + 1, y.1.1, none⟩ = false := hM.row.frozenAt _
    have HD := Lib.hid D
    have HP := Lib.hid hP
    have HPS := Lib.hid hps
    have HM := Lib.hid hM
    have HR := Lib.hid hr
    have HLN := Lib.hid hlen
    have HQD := Lib.hid hqd
    have HRD := Lib.hid hrd
    have hmx : Try.prog.follows .mixedOrders = true := by kernel_rfl
    clear D hP hps hM hqd hrd hx0 hlen hr hB hM0 bA
    gi_wp2
    refine wpIn_region_any hmx ?_
    change wpAnyIn _ _ _ _ _ _ _ _ _ (World.drew _)
    refine anyG.toAny (s := 11) (B := fun W' => W'.cell? ⟨w.heap.size + 1, 0, none⟩ = some (.slice (some ⟨w.heap.size + 1 + 1 + 1, 0, none⟩) n n) ∧ W'.cell? ⟨w.heap.size + 1 + 1, 0, none⟩ = some (.int .u64 (r : Int)) ∧ W'.cell? ⟨w.heap.size, 0, none⟩ = some (.int .u64 (x : Int))) ?_
    refine anyG_take (i := 0) (v := .slice (some ⟨w.heap.size + 1 + 1 + 1, 0, none⟩) n n) rfl (by kernel_rfl) (by kernel_rfl) (by kernel_rfl) (by kernel_rfl) (by kernel_rfl) (by kernel_rfl) (fun _ _ _ h => h) ⟨by rfl, fun W' ⟨g1, g2, g3⟩ => ⟨by go_simp, by rfl⟩⟩ ?_
    refine anyG_take (i := 1) (v := .int .i64 (y.1.1 : Int)) rfl (by kernel_rfl) (by kernel_rfl) (by kernel_rfl) (by kernel_rfl) (by kernel_rfl) (by kernel_rfl) (fun _ _ _ h => h) ⟨by rfl, fun W' ⟨g1, g2, g3⟩ => ⟨by go_simp, by rfl⟩⟩ ?_
    refine anyG_take (i := 2) (v := .int .u64 (r : Int)) rfl (by kernel_rfl) (by kernel_rfl) (by kernel_rfl) (by kernel_rfl) (by kernel_rfl) (by kernel_rfl) (fun _ _ _ h => h) ⟨by rfl, fun W' ⟨g1, g2, g3⟩ => ⟨by go_simp, by rfl⟩⟩ ?_
    refine anyG_take (i := 3) (v := .int .u64 (y.1.2 : Int)) rfl (by kernel_rfl) (by kernel_rfl) (by kernel_rfl) (by kernel_rfl) (by kernel_rfl) (by kernel_rfl) (fun _ _ _ h => h) ⟨by rfl, fun W' ⟨g1, g2, g3⟩ => ⟨by go_simp, by rfl⟩⟩ ?_
    refine anyG_take (i := 4) (v := .int .u64 (x : Int)) rfl (by kernel_rfl) (by kernel_rfl) (by kernel_rfl) (by kernel_rfl) (by kernel_rfl) (by kernel_rfl) (fun _ _ _ h => h) ⟨by rfl, fun W' ⟨g1, g2, g3⟩ => ⟨by go_simp, by rfl⟩⟩ ?_
    refine anyG_one (i := 5) (by kernel_rfl) rfl (fun _ => ⟨hqc, hrc, hbc⟩) (fun K hK => ?_)
    go_simp
    refine ⟨trivial, ?_⟩
    refine (CallsIn.inRound l (callsIn_wide.2 (HD.out _))).mono ?_
    rintro e w' ⟨rfl, k, rfl⟩
    refine hK _ _ ?_
    clear hK K
    refine anyG_take (i := 6) (v := .tuple #[.int .u64 (qd : Int), .int .u64 (rd : Int)]) rfl (by kernel_rfl) (by kernel_rfl) (by kernel_rfl) (by kernel_rfl) (by kernel_rfl) (by kernel_rfl) (fun _ _ _ h => h) ⟨by rfl, fun W' ⟨g1, g2, g3⟩ => ⟨by go_simp, by rfl⟩⟩ ?_
    refine anyG_take (i := 7) (v := .int .u64 (qd : Int)) rfl (by kernel_rfl) (by kernel_rfl) (by kernel_rfl) (by kernel_rfl) (by kernel_rfl) (by kernel_rfl) (fun _ _ _ h => h) ⟨by rfl, fun W' ⟨g1, g2, g3⟩ => ⟨by go_simp, by rfl⟩⟩ ?_
    refine anyG_take (i := 8) (v := .int .u64 (rd : Int)) rfl (by kernel_rfl) (by kernel_rfl) (by kernel_rfl) (by kernel_rfl) (by kernel_rfl) (by kernel_rfl) (fun _ _ _ h => h) ⟨by rfl, fun W' ⟨g1, g2, g3⟩ => ⟨by go_simp, by rfl⟩⟩ ?_
    refine anyG_take (i := 9) (v := .pointer (some ⟨w.heap.size + 1 + 1 + 1, y.1.1, none⟩)) rfl (by kernel_rfl) (by kernel_rfl) (by kernel_rfl) (by kernel_rfl) (by kernel_rfl) (by kernel_rfl) (fun _ _ _ h => h) ⟨by rfl, fun W' ⟨g1, g2, g3⟩ => ⟨by go_simp, by rfl⟩⟩ ?_
    have hco1 : (W.drewN (1 + k)).cell? ⟨w.heap.size + 1 + 1 + 1, y.1.1, none⟩ = some (.int .u64 (nth Q y.1.1 : Int)) := hco
    have hfo1 : (W.drewN (1 + k)).frozen? ⟨w.heap.size + 1 + 1 + 1, y.1.1, none⟩ = false := hfo
    have hM1 : WordMid w n x r Q (W.drewN (1 + k)) := HM.out.kept (Drawn.grown W (1 + k)) (fun _ e => by cases e)
    obtain ⟨hM2, hsame⟩ := hM1.step (r' := rd) y.1.1 qd
    have hK1 : KeepsOthers W (W.drewN (1 + k)) := KeepsOthers.of_grownBy (Drawn.grown W (1 + k)) (fun j o e => by cases e)
    have hst1 := (hM1.row.stored y.1.1 (.int .u64 (qd : Int))).2
    have hq2 : ((W.drewN (1 + k)).setCell ⟨w.heap.size + 1 + 1 + 1, y.1.1, none⟩ (.int .u64 (qd : Int))).cell? ⟨w.heap.size + 1, 0, none⟩ = some (.slice (some ⟨w.heap.size + 1 + 1 + 1, 0, none⟩) n n) := (hM1.q.kept hst1 (by simp)).cell
    have hr2 := (hM1.r.kept hst1 (by simp)).cell
    have hrf2 := (hM1.r.kept hst1 (by simp)).frozen
    have hb2 := (hM1.bx.kept hst1 (by simp; omega)).cell
    have HF := Lib.hid (show KeepsFrom E.heap.size W (((W.drewN (1 + k)).setCell ⟨w.heap.size + 1 + 1 + 1, y.1.1, none⟩ (.int .u64 (qd : Int))).setCell ⟨w.heap.size + 1 + 1, 0, none⟩ (.int .u64 (rd : Int))) ∧
        KpR (w.heap.size + 1 + 1 + 1 + 1) A n (fun l => l = a) W (((W.drewN (1 + k)).setCell ⟨w.heap.size + 1 + 1 + 1, y.1.1, none⟩ (.int .u64 (qd : Int))).setCell ⟨w.heap.size + 1 + 1, 0, none⟩ (.int .u64 (rd : Int))) ∧
        ∃ (Q : List Nat) (r : Nat), Q.length = n ∧ Words Q ∧ r < x ∧ WordMid w n x r Q (((W.drewN (1 + k)).setCell ⟨w.heap.size + 1 + 1 + 1, y.1.1, none⟩ (.int .u64 (qd : Int))).setCell ⟨w.heap.size + 1 + 1, 0, none⟩ (.int .u64 (rd : Int))) ∧
          (Downs (m := n) (fun l => l = a) (pre ++ [y]) → Q = tops n (natOf a / x) (n - (pre ++ [y]).length) ∧ r = natOf a / 18446744073709551616 ^ (n - (pre ++ [y]).length) % x) by
      refine ⟨((hK1.trans (KeepsOthers.setCell _ _ _)).trans (KeepsOthers.setCell _ _ _)).from _, ⟨hsame _ (by omega), fun _ => ⟨a, Hn.out, hw, rfl, (HR.out.below hM2.below).more hM2.below.size⟩⟩, Q.set y.1.1 qd, rd, by rw [List.length_set, hQl], words_put _ hQw _ _ HPS.out.1, HPS.out.2, hM2, fun hds => ?_⟩
      obtain ⟨hd0, hidx, l, _, _, rfl, hv⟩ := hds.ini
      obtain ⟨e1, e2⟩ := HP.out hd0
      have hlen := HLN.out
      rw [show n - pre.length = y.1.1 + 1 by omega] at e1 e2
      rw [show n - (pre ++ [y]).length = y.1.1 by rw [List.length_append, List.length_singleton]; omega]
      obtain ⟨q', r', f1, f2, f3, f4⟩ := word_place (natOf l) x y.1.1 hx
      rw [← e2, ← nth_natOf l hw, ← hv] at f1 f2
      have g1 : qd = q' := by rw [← HQD.out, f1]
      have g2 : rd = r' := by rw [← HRD.out, f2]
      exact ⟨by rw [e1, g1, f3]; exact tops_set n (natOf l / x) y.1.1 hi, by rw [g2, f4]⟩)
    refine anyG_one (i := 10) (by kernel_rfl) rfl (fun _ => ⟨hqc, hrc, hbc⟩) (fun K hK => ?_)
    clear hM1 hM2 hsame hK1 hst1
    go_simp
    refine hK _ _ ?_
    clear hK K
    refine anyG_one (i := 11) (by kernel_rfl) rfl (fun _ => ⟨hq2, hr2, hb2⟩) (fun K hK => ?_)
    go_simp
    refine hK _ _ ?_
    clear hK K
    refine anyG_done (by kernel_rfl) (by kernel_rfl) ?_
    rename_i QQ
    simp only [Exit.inBlock, QQ]
    exact HF.out
  case done =>
    rintro D ys W hD ⟨hds, hyl⟩ ⟨Q, r, hQl, hQw, hrx, hM, hP⟩ hK
    obtain ⟨rfl, rfl⟩ := hP hds
    rw [hyl, Nat.sub_self, tops_end, Nat.pow_zero, Nat.div_one] at hM
    rw [hyl, Nat.sub_self, tops_end] at hQl
    have hlN : natOf a / x < 18446744073709551616 ^ n := Nat.lt_of_le_of_lt (Nat.div_le_self _ _) Hlt.out
    have hqc := hM.q.cell
    have hqf := hM.q.frozen
    have hrc := hM.r.cell
    have hrf := hM.r.frozen
    have hrow1 : W.drew.ownsRow (w.heap.size + 1 + 1 + 1) 24 1 (.slice (some ⟨w.heap.size + 1 + 1 + 1, 0, none⟩) n n) n (ints .u64 (words n (natOf a / x))) := (Drawn.more 1).own hM.row
    have HT := Lib.hid (dtrim_own W.drew _ n n (natOf a / x) _ hrow1 hlN (by omega) (Nat.le_refl _))
    have HM := Lib.hid hM
    have HK := Lib.hid hK
    have hmx : Try.prog.follows .mixedOrders = true := by kernel_rfl
    have hD2 : w.heap.size + 5 ≤ D := by have := HEs.out; omega
    clear hP hds hK hM hrow1 hQl hQw hrx hr hM0 bA hB hx0
    gi_wp2
    refine only_end ?_
    gi_region_with_o ((refine ⟨trivial, ?_⟩; gi_at_call 62; (with_reducible refine (callsIn_wide.2 HT.out).mono ?_); rintro e w' ⟨rfl, rfl⟩))
    all_goals
      obtain ⟨T, hT⟩ : ∃ T, (nbits (natOf a / x) + 63) / 64 = T := ⟨_, rfl⟩
      have hTn := tl_le (words n (natOf a / x)) (words_words _ _)
      rw [length_words, tl_words _ _ hlN, hT] at hTn
      have hrow := own_trim HM.out.row hlN
      rw [hT] at hrow
      have g1 := grownBy_setCell' W.drew (w.heap.size + 1) (.slice (some ⟨w.heap.size + 1 + 1 + 1, 0, none⟩) T n)
      have g2 := grownBy_setCell' (W.drew.setCell ⟨w.heap.size + 1, 0, none⟩ (.slice (some ⟨w.heap.size + 1 + 1 + 1, 0, none⟩) T n)) (w.heap.size + 1 + 1) (.int .u64 ((natOf a : Int) % (x : Int)))
      have bq3 := ((HM.out.q.kept (Drawn.grown W 1) (by simp)).set (.slice (some ⟨w.heap.size + 1 + 1 + 1, 0, none⟩) T n)).kept g2 (by simp)
      have br3 := ((HM.out.r.kept (Drawn.grown W 1) (by simp)).kept g1 (by simp)).set (.int .u64 ((natOf a : Int) % (x : Int)))
      have hrow3 := (((Drawn.more 1).own hrow).kept g1 (.inr (by simp [Value.ownBlock] <;> omega))).kept g2 (.inr (by simp [Value.ownBlock] <;> omega))
      have hB3 := ((HM.out.below.trans ((Drawn.more 1).below _)).setCell (p := ⟨w.heap.size + 1, 0, none⟩) (by simp) (.slice (some ⟨w.heap.size + 1 + 1 + 1, 0, none⟩) T n)).setCell (p := ⟨w.heap.size + 1 + 1, 0, none⟩) (by simp; try omega) (.int .u64 ((natOf a : Int) % (x : Int)))
      have hK3 := (((KeepsOthers.of_grownBy (Drawn.grown W 1) (fun j o e => by cases e)).trans (KeepsOthers.setCell _ ⟨w.heap.size + 1, 0, none⟩ (.slice (some ⟨w.heap.size + 1 + 1 + 1, 0, none⟩) T n))).trans (KeepsOthers.setCell _ ⟨w.heap.size + 1 + 1, 0, none⟩ (.int .u64 ((natOf a : Int) % (x : Int))))).same D _ HK.out rfl
      rw [hT]
      have HBq := Lib.hid bq3
      have HBr := Lib.hid br3
      have HRW := Lib.hid hrow3
      have HB3 := Lib.hid hB3
      have HK3 := Lib.hid hK3
      clear g1 g2 bq3 br3 hrow3 hB3 hK3 hrow
      gi_wp2
      refine ⟨by simp, .inl ⟨_, _, rfl, run_takeDeferred HK3.out, ?_⟩⟩
      have hcq : (((W.setCell ⟨w.heap.size + 1, 0, none⟩ (.slice (some ⟨w.heap.size + 1 + 1 + 1, 0, none⟩) T n)).setCell ⟨w.heap.size + 1 + 1, 0, none⟩ (.int .u64 ((natOf a : Int) % (x : Int)))).drew.putObj D (.deferred none)).cell? ⟨w.heap.size + 1, 0, none⟩ = some (.slice (some ⟨w.heap.size + 1 + 1 + 1, 0, none⟩) T n) := cell_kept HBq.out.cell (grownBy_putObj' _ D (.deferred none)) (fun r e => by cases e; exact ⟨_, HK3.out, rfl⟩)
      have hcr : (((W.setCell ⟨w.heap.size + 1, 0, none⟩ (.slice (some ⟨w.heap.size + 1 + 1 + 1, 0, none⟩) T n)).setCell ⟨w.heap.size + 1 + 1, 0, none⟩ (.int .u64 ((natOf a : Int) % (x : Int)))).drew.putObj D (.deferred none)).cell? ⟨w.heap.size + 1 + 1, 0, none⟩ = some (.int .u64 ((natOf a : Int) % (x : Int))) := cell_kept HBr.out.cell (grownBy_putObj' _ D (.deferred none)) (fun r e => by cases e; exact ⟨_, HK3.out, rfl⟩)
      have hown := ownsRow_putObj HRW.out (.deferred none) HK3.out rfl
      have hBB := HB3.out.trans (belowK_b (w := w) (Nat.le_refl _) _ D _ (.deferred none) (by omega) HK3.out rfl rfl)
      refine ⟨.tuple #[.slice (some ⟨w.heap.size + 1 + 1 + 1, 0, none⟩) T n, .int .u64 ((natOf a : Int) % (x : Int)), .int .i64 0], by simp [results, Try.f53, go_sem, hcq, hcr], ?_⟩
      exact ⟨some ⟨w.heap.size + 1 + 1 + 1, 0, none⟩, T, n, by simp, ⟨by rw [← hT]; exact length_wd _, by omega, Rd.own hown, hTn⟩, hBB⟩
  case stop =>
    rintro D c pre W _ _ h _
    exact h.elim
end Go.Proofs.Ytgmolbiicclcaaa
/- div.byWords: by a number of two words or more. Conditions: as typed (lengths that fit a machine; the divisor is not above the number). -/
namespace Go.Proofs.Ytgmolbiicclcaaa
open Go.RowKit Go.Shelf
set_option maxRecDepth 20000
attribute [local go_sem] Oper.semAt_some
theorem and_63 (N : Nat) (_hN : N ≤ 1000000) : bits .and .i64 (-(N : Int)) 63 = (((64 - N % 64) % 64 : Nat) : Int) := by
  have h1 : (BitVec.ofInt 64 63).toNat = 2 ^ 6 - 1 := by decide
  have key : (BitVec.ofInt 64 (-(N : Int)) &&& BitVec.ofInt 64 63).toNat = ((-(N : Int)) % ((2 ^ 64 : Nat) : Int)).toNat % 2 ^ 6 := by
    rw [BitVec.toNat_and, BitVec.toNat_ofInt, h1, Nat.and_two_pow_sub_one_eq_mod]
  show IntKind.i64.wrap ((BitVec.ofInt 64 (-(N : Int)) &&& BitVec.ofInt 64 63).toNat : Nat) = _
  rw [key, IntKind.wrap_i64]
  omega
/-- Long division, the places from i on being made: what is left, and the quotient so far. -/
def Long (V U i : Nat) (L Q : List Nat) : Prop := natOf L + natOf Q * V = U ∧ natOf L < 18446744073709551616 ^ i * V ∧ ∀ j, j < i → nth Q j = 0
/-- Between two rounds of byWords. q0: q's box; p: by's box; R: rest's box; g: rest's row. -/
structure ByMid (E : World) (q0 p R g K cap nq n c : Nat) (X : Option Addr) (ys L Q : List Nat) (W : World) : Prop where
  qb : Boxed W q0 28 (.slice (some ⟨R + 1, 0, none⟩) nq nq)
  bb : Boxed W p 28 (.slice X n c)
  rb : Boxed W R 28 (.slice (some ⟨g, 0, none⟩) K cap)
  by_ : Rd .u64 W p X ys
  rest : W.ownsRow (p + 1) 24 1 (.slice (some ⟨g, 0, none⟩) K cap) K (ints .u64 L)
  qs : W.ownsRow (R + 1) 24 1 (.slice (some ⟨R + 1, 0, none⟩) nq nq) nq (ints .u64 Q)
  below : Below p E W
  size : R + 3 ≤ W.heap.size
  it : W.heap[R + 1 + 1]? = E.heap[R + 1 + 1]?
section
variable {E W W' : World} {q0 p R g K cap nq n c : Nat} {X : Option Addr} {ys L L' Q : List Nat}
theorem ByMid.kept {row : Option Nat} (h : ByMid E q0 p R g K cap nq n c X ys L Q W) (hg : W.grownBy W' row) (hr : ∀ k, row = some k → R + 3 ≤ k) (h0 : q0 < p) (h1 : p < R) (h2 : g < R) : ByMid E q0 p R g K cap nq n c X ys L Q W' where
  qb := h.qb.kept hg (by intro e; have := hr _ e.symm; omega)
  bb := h.bb.kept hg (by intro e; have := hr _ e.symm; omega)
  rb := h.rb.kept hg (by intro e; have := hr _ e.symm; omega)
  by_ := h.by_.grown hg (by have := h.size; omega) (fun k e => by have := hr k e; omega)
  rest := h.rest.kept hg (.inr (by intro e; have := hr _ e.symm; dsimp only at this; omega))
  qs := h.qs.kept hg (.inr (by intro e; have := hr _ e.symm; dsimp only at this; omega))
  below := h.below.grown hg (by have := h.size; omega) (fun k e => by have := hr k e; omega)
  size := Nat.le_trans h.size hg.size
  it := (hg.block _ (by have := h.size; omega) (by intro e; have := hr _ e.symm; omega)).trans h.it
theorem ByMid.setQ (h : ByMid E q0 p R g K cap nq n c X ys L Q W) (h0 : q0 < p) (h1 : p < R) (h2 : g < R) (i x : Nat) : ByMid E q0 p R g K cap nq n c X ys L (Q.set i x) (W.setCell ⟨R + 1, i, none⟩ (.int .u64 (x : Int))) := by
  have hst := h.qs.stored i (.int .u64 (x : Int))
  rw [ints_set] at hst
  obtain ⟨hq, hg⟩ := hst
  exact ⟨h.qb.kept hg (by simp; omega), h.bb.kept hg (by simp; omega), h.rb.kept hg (by simp), h.by_.grown hg (by have := h.size; omega) (fun k e => by cases e; omega), h.rest.kept hg (.inr (by simp [Value.ownBlock]; omega)), hq, h.below.grown hg (by have := h.size; omega) (fun k e => by cases e; omega), Nat.le_trans h.size hg.size, (hg.block _ (by have := h.size; omega) (by simp)).trans h.it⟩
theorem ByMid.setR (h : ByMid E q0 p R g K cap nq n c X ys L Q W) (h0 : q0 < p) (_h1 : p < R) (h2 : g < R) (h3 : p < g) (hg : W.grownBy W' (some g)) (ho : W'.ownsRow (p + 1) 24 1 (.slice (some ⟨g, 0, none⟩) K cap) K (ints .u64 L')) : ByMid E q0 p R g K cap nq n c X ys L' Q W' :=
  ⟨h.qb.kept hg (by simp; omega), h.bb.kept hg (by simp; omega), h.rb.kept hg (by simp; omega), h.by_.grown hg (by have := h.size; omega) (fun k e => by cases e; omega), ho, h.qs.kept hg (.inr (by simp [Value.ownBlock]; omega)), h.below.grown hg (by have := h.size; omega) (fun k e => by cases e; omega), Nat.le_trans h.size hg.size, (hg.block _ (by have := h.size; omega) (by simp; omega)).trans h.it⟩
theorem ByMid.rdx (h : ByMid E q0 p R g K cap nq n c X ys L Q W) (h3 : p < g) : Rdx .u64 W g X ys := fun hl => by
  obtain ⟨b, off, e, hb, hc⟩ := h.by_ hl
  exact ⟨b, off, e, by omega, hc⟩
end
/-- A row of the call's own is cells. -/
theorem own_cells {w : World} {base e g n c : Nat} {xs : List Value} (h : w.ownsRow base e 1 (.slice (some ⟨g, 0, none⟩) n c) n xs) {o : Obj} (ho : w.heap[g]? = some o) : o.isCells = true := by
  rcases h.2 with ⟨hv, _⟩ | ⟨g', cap, cur, hv, _, hgb, _⟩
  · cases hv
  · injection hv with hv _ _
    injection hv with hv
    injection hv with hv _ _
    subst hv
    rw [hgb] at ho
    cases ho
    rfl
theorem guessV_lt (hi lo f : Nat) (hl : lo < 18446744073709551616) : guessV hi lo f < 18446744073709551616 := by
  unfold guessV
  split
  · omega
  · rename_i h
    rw [Nat.div_lt_iff_lt_mul (by omega)]
    have : 18446744073709551616 * (hi + 1) ≤ 18446744073709551616 * f := Nat.mul_le_mul_left _ (by omega)
    omega
theorem top_word (V m : Nat) (h : nbits V = 64 * (m + 1)) : 9223372036854775808 ≤ nth (wd V) m := by
  have hp : 0 < 18446744073709551616 ^ m := Nat.pow_pos (by omega)
  have h1 := nbits_lt V
  have h2 := nbits_le V (by intro h0; rw [h0, nbits_zero] at h; omega)
  rw [h] at h1 h2
  rw [nth_natOf _ (wd_words V), natOf_wd]
  have e1 : (2 : Nat) ^ (64 * (m + 1)) = 18446744073709551616 ^ m * 18446744073709551616 := by rw [← pow_64_2, Nat.pow_succ]
  have e2 : (2 : Nat) ^ (64 * (m + 1) - 1) = 18446744073709551616 ^ m * 9223372036854775808 := by rw [show 64 * (m + 1) - 1 = 64 * m + 63 by omega, Nat.pow_add, ← pow_64_2]
  rw [e1] at h1
  rw [e2] at h2
  rw [Nat.mod_eq_of_lt (by rw [Nat.div_lt_iff_lt_mul hp, Nat.mul_comm]; exact h1), Nat.le_div_iff_mul_le hp, Nat.mul_comm]
  exact h2
/-- What is taken away is as it was said of a place. -/
theorem place_start {V U i m K x0 o : Nat} {L L' Q : List Nat} (hm : nbits V = 64 * (m + 1)) (hVl : (wd V).length = m + 1) (hLw : Words L) (hg : Long V U (i + 1) L Q) (hx : guessV (nth L (i + (m + 1))) (nth L (i + m)) (nth (wd V) m) = x0)
    (ht : Takes K i x0 (natOf (wd V)) (m + 1 + 1) o (natOf L) L L') (ho : o ≤ 1) :
    Place K (i + (m + 1 + 1)) (18446744073709551616 ^ i * V) (18446744073709551616 ^ (i + (m + 1 + 1))) (natOf L) x0 o L' ∧ x0 + 0 ≤ natOf L / (18446744073709551616 ^ i * V) + 2 := by
  have hB := natOf_lt (wd V) (wd_words V)
  rw [natOf_wd, hVl] at hB
  have hT : natOf L < 18446744073709551616 ^ (i + (m + 1 + 1)) := by
    refine Nat.lt_trans hg.2.1 ?_
    have h1 : 18446744073709551616 ^ (i + 1) * V < 18446744073709551616 ^ (i + 1) * 18446744073709551616 ^ (m + 1) := Nat.mul_lt_mul_of_pos_left hB (Nat.pow_pos (by omega))
    rwa [← Nat.pow_add, show i + 1 + (m + 1) = i + (m + 1 + 1) by omega] at h1
  obtain ⟨g1, g2, g3⟩ := guess_two (natOf L) V i m x0 L (wd V) hLw rfl (wd_words V) (natOf_wd V) hVl (top_word V m hm) hg.2.1 (by
    rw [← hx, show i + m + 1 = i + (m + 1) by omega]
    unfold guessV
    by_cases h : nth (wd V) m ≤ nth L (i + (m + 1))
    · exact .inl ⟨h, if_pos h⟩
    · exact .inr ⟨by omega, if_neg h⟩)
  refine ⟨⟨ht.len, ht.words, ?_, fun j hj => by rw [ht.same j hj]; exact far_of L hLw _ hT j hj, ho, g2⟩, by omega⟩
  have := ht.val
  rw [natOf_wd] at this
  rw [Nat.mul_left_comm]
  exact this
/-- A place that is right: the next one's start. -/
theorem place_end {V U i k K E x : Nat} {L L' Q : List Nat} (hV : 0 < V) (hg : Long V U (i + 1) L Q) (hi : i < Q.length) (h : Place K k (18446744073709551616 ^ i * V) E (natOf L) x 0 L') : Long V U i L' (Q.set i x) := by
  have hD : 0 < 18446744073709551616 ^ i * V := Nat.mul_pos (Nat.pow_pos (by omega)) hV
  obtain ⟨e1, e2⟩ := h.done hD
  have h1 := hg.1
  have h2 := natOf_put Q i x hi
  rw [hg.2.2 i (by omega), Nat.mul_zero, Nat.add_zero] at h2
  refine ⟨?_, by rw [e2]; exact Nat.mod_lt _ hD, fun j hj => ?_⟩
  · have h3 := Nat.div_add_mod (natOf L) (18446744073709551616 ^ i * V)
    rw [← e1, ← e2] at h3
    have e3 : 18446744073709551616 ^ i * x * V = 18446744073709551616 ^ i * V * x := by rw [Nat.mul_assoc, Nat.mul_comm x, ← Nat.mul_assoc]
    rw [h2, Nat.add_mul, e3]
    omega
  · rw [nth_set _ _ _ _ hi, if_neg (by omega)]
    exact hg.2.2 j (by omega)
theorem long_end {V U : Nat} {L Q : List Nat} (h : Long V U 0 L Q) : natOf Q = U / V ∧ natOf L = U % V := by
  obtain ⟨h1, h2, _⟩ := h
  rw [Nat.pow_zero, Nat.one_mul] at h2
  have e : U = V * natOf Q + natOf L := by rw [Nat.mul_comm]; omega
  have hV : 0 < V := by omega
  constructor
  · rw [e, Nat.mul_add_div hV, Nat.div_eq_of_lt h2, Nat.add_zero]
  · rw [e, Nat.mul_add_mod, Nat.mod_eq_of_lt h2]
/-- What byWords keeps from round to round: rows of words; and, the places having come in their order, the long division so far. -/
def ByI (E : World) (q0 p R g K cap nq n c : Nat) (X : Option Addr) (ys : List Nat) (V U : Nat) (pre : List (WI nq)) (W : World) : Prop :=
  ∃ L Q, L.length = K ∧ Words L ∧ Q.length = nq ∧ Words Q ∧ ByMid E q0 p R g K cap nq n c X ys L Q W ∧ (Downs (m := nq) (fun _ => True) pre → Long V U (nq - pre.length) L Q)
set_option maxRecDepth 100000 in
set_option maxHeartbeats 2000000 in
theorem byWords_pf (A A2 : Option Addr) (na nb c c2 : Nat) (a b : List Nat) (w : World) (hna : a.length = na) (hnb : b.length = nb) (hr : Rd .u64 w w.heap.size A a) (hw : Words a) (hl : na ≤ 10000) (hc : na ≤ c) (hr2 : Rd .u64 w w.heap.size A2 b) (hw2 : Words b) (hl2 : nb ≤ 10000) (hc2 : nb ≤ c2)
    (hbig : 18446744073709551616 ≤ natOf b) (hle : natOf b ≤ natOf a) :
    Calls Try.prog 54 #[.slice A na c, .slice A2 nb c2] w fun e w' => ∃ X q d Y r f, e = .returned (.tuple #[.slice X q d, .slice Y r f]) ∧ NatIs w' X q d (natOf a / natOf b) ∧ NatIs w' Y r f (natOf a % natOf b) ∧ Below w.heap.size w w' := by
  obtain ⟨i0, hi, hz0, hz1, hz2⟩ := info_parts num_info_u64
  have hw' := hw
  have hl' := hl
  have hsa := nbits_natOf a hw
  have hsb := nbits_natOf b hw2
  obtain ⟨N, hN⟩ : ∃ N, nbits (natOf b) = N := ⟨_, rfl⟩
  have hand := and_63 N (by omega)
  obtain ⟨s, hs⟩ : ∃ s, (64 - N % 64) % 64 = s := ⟨_, rfl⟩
  rw [hs] at hand
  rw [show (-(N : Int)) = wrap64 (-(N : Int)) by simp only [wrap64]; omega] at hand
  have hs63 : s ≤ 63 := by omega
  have bE0 : Below w.heap.size w (w.alloc (.cells #[.slice none 0 0] 28)) := (Below.refl _ w).alloc (Nat.le_refl _) _
  have QB := natBits_any A2 c2 b (w.alloc (.cells #[.slice none 0 0] 28)) ((hr2.below bE0).more bE0.size) hw2 (by omega) (by omega)
  rw [hN, hnb] at QB
  have HQB := Lib.hid QB
  obtain ⟨V, hV⟩ : ∃ V, 2 ^ s * natOf b = V := ⟨_, rfl⟩
  obtain ⟨U, hU⟩ : ∃ U, 2 ^ s * natOf a = U := ⟨_, rfl⟩
  have hnV : nbits V = N + s := by rw [← hV, nbits_up_eq _ _ (by omega), hN]
  have hN64 : 64 < N := by
    rcases Nat.lt_or_ge 64 N with h | h
    · exact h
    · exfalso
      have h1 := nbits_lt (natOf b)
      rw [hN] at h1
      have h2 : 2 ^ N ≤ 2 ^ 64 := Nat.pow_le_pow_right (by omega) h
      omega
  obtain ⟨m, hm⟩ : ∃ m, (nbits V + 63) / 64 = m + 1 := ⟨(nbits V + 63) / 64 - 1, by omega⟩
  have hmV : nbits V = 64 * (m + 1) := by omega
  have hm1 : 1 ≤ m := by omega
  have hVU : V ≤ U := by rw [← hV, ← hU]; exact Nat.mul_le_mul_left _ hle
  have hnU : nbits U = nbits (natOf a) + s := by rw [← hU, nbits_up_eq _ _ (by omega)]
  have hmono := nbits_mono hVU
  obtain ⟨ka, hka⟩ : ∃ ka, (nbits U + 63) / 64 = ka := ⟨_, rfl⟩
  obtain ⟨nq, hnq⟩ : ∃ nq, ka = m + nq := ⟨ka - m, by omega⟩
  have hnq1 : 1 ≤ nq := by omega
  have hka2 : ka ≤ 10001 := by omega
  have hsub : ((ka : Int) + 1) - ((m : Int) + 1) = (nq : Int) := by omega
  have SB : ∀ u, Below w.heap.size w u → Calls Try.prog 63 #[.slice A2 nb c2, .int .i64 (s : Int)] u (OutNat V u) := fun u hu => by
    have h := natShl_any A2 c2 b u ((hr2.below hu).more hu.size) hw2 (by omega) (by omega) (s : Int)
    rwa [hnb, show shlS (natOf b) (s : Int) = V by unfold shlS; rw [if_pos (by omega), Int.toNat_natCast, hV]] at h
  have SA : ∀ u, Below w.heap.size w u → Calls Try.prog 63 #[.slice A na c, .int .i64 (s : Int)] u (OutNat U u) := fun u hu => by
    have h := natShl_any A c a u ((hr.below hu).more hu.size) hw (by omega) (by omega) (s : Int)
    rwa [hna, show shlS (natOf a) (s : Int) = U by unfold shlS; rw [if_pos (by omega), Int.toNat_natCast, hU]] at h
  have HSB := Lib.hid SB
  have HSA := Lib.hid SA
  have HV := Lib.hid hV
  have HU := Lib.hid hU
  have HmV := Lib.hid hmV
  have Hka := Lib.hid hka
  have Hnq := Lib.hid hnq
  have HVU := Lib.hid hVU
  have hmk := fun u => make_row nq u (by omega)
  clear SB SA hV hU hnV hmV hVU hnU hmono hsa hsb hs hle hbig hka hnq
  have HN := Lib.hid hN
  have Hna := Lib.hid hna
  have Hnb := Lib.hid hnb
  clear QB hN hna hnb
  refine (callsIn_wide (n := 9)).1 ?_
  refine callsIn_of_wp_marks Try.func54 rfl trivial ?_ rfl
  simp only [Try.ntmps54, List.size_toArray, List.length_cons, List.length_nil, Nat.reduceAdd, Nat.reduceSub, Array.replicate_succ, Array.replicate_zero, List.push_toArray, List.append_toArray, List.nil_append, List.cons_append]
  refine wpIn_wide.2 ?_
  go_wp2_with fail
  go_step3
  go_wp2_with fail
  refine (HQB.out).mono ?_
  rintro e w1 ⟨rfl, b1⟩
  go_wp2_with fail
  have bE1 := bE0.trans (b1.mono (by simp))
  refine ((HSB.out w1 bE1)).mono ?_
  rintro e w2 ⟨v2, rfl, own2, b2⟩
  obtain ⟨X, dX, rfl, hdX, _⟩ := own_form own2
  rw [hm] at own2 hdX ⊢
  obtain ⟨gx, rfl, hgx0, hgx1⟩ : ∃ gx, X = some ⟨gx, 0, none⟩ ∧ w1.heap.size ≤ gx ∧ gx < w2.heap.size := by
    rcases own2.2 with ⟨hv, _⟩ | ⟨g, cap, cur, hv, hgb, hgh, _⟩
    · cases hv
    · injection hv with hv _ _
      exact ⟨g, hv, hgb, (Array.getElem?_eq_some_iff.1 hgh).1⟩
  have hgxw : w.heap.size < gx := by have := b1.size; simp at this; omega
  have bE2 := bE1.trans (b2.mono bE1.size)
  go_wp2_with fail
  have bE3 := bE2.alloc bE2.size (.cells #[.slice (some ⟨gx, 0, none⟩) (m + 1) dX] 28)
  refine ((HSA.out _ bE3)).mono ?_
  rintro e w3 ⟨v3, rfl, own3, b3⟩
  obtain ⟨Y, dY, rfl, hdY, _⟩ := own_form own3
  rw [Hka.out] at own3 hdY ⊢
  go_wp2_with (at_builtin; refine wpList_append_one _ rfl _ _ 28 rfl _ 24 i0 (.int .u64 0) 8 Try.underlying28 hi hz0 hz1 hz2 rfl _ _ .u64 (wd U) rfl own3 _ 0 rfl rfl (by unfold maxLen; omega) (by omega) b3.size ?_)
  intro v4 w4 own4 g4 b4
  obtain ⟨Z, dZ, rfl, hdZ, _⟩ := own_form own4
  obtain ⟨g, rfl, hg0, hg1⟩ : ∃ g, Z = some ⟨g, 0, none⟩ ∧ w2.heap.size + 1 ≤ g ∧ g < w4.heap.size := by
    rcases own4.2 with ⟨hv, _⟩ | ⟨g, cap, cur, hv, hgb, hgh, _⟩
    · cases hv
    · injection hv with hv _ _
      exact ⟨g, hv, by simpa using hgb, (Array.getElem?_eq_some_iff.1 hgh).1⟩
  have bq0 := Boxed.new w 28 (.slice none 0 0)
  have bq2 : Boxed w2 w.heap.size 28 (.slice none 0 0) := (b2.block _ (by have := b1.size; simp at this; omega)).trans ((b1.block _ (by simp)).trans bq0)
  have bb2 := Boxed.new w2 28 (.slice (some ⟨gx, 0, none⟩) (m + 1) dX)
  have bb4 : Boxed w4 w2.heap.size 28 (.slice (some ⟨gx, 0, none⟩) (m + 1) dX) := (b4.block _ (by simp)).trans ((b3.block _ (by simp)).trans bb2)
  have bq4 : Boxed w4 w.heap.size 28 (.slice none 0 0) := (b4.block _ (by have := bq2.lt; simp; omega)).trans ((b3.block _ (by have := bq2.lt; simp; omega)).trans (bq2.alloc _))
  have rb2 := Rd.own own2
  have rb4 : Rd .u64 w4 w2.heap.size (some ⟨gx, 0, none⟩) (wd V) := ((rb2.below ((Below.refl _ w2).alloc (Nat.le_refl _) _)).below (b3.mono (by simp))).below (b4.mono (by simp))
  have B4 : Below w.heap.size w w4 := (bE3.trans (b3.mono bE3.size)).trans (b4.mono (by have := bE2.size; simp; omega))
  have hs24 : w2.heap.size + 1 ≤ w4.heap.size := by have h1 := b3.size; have h2 := b4.size; simp at h1 h2; omega
  have hws : w.heap.size < w2.heap.size := bq2.lt
  have hc1 := (bb4.alloc (.cells #[.slice (some ⟨g, 0, none⟩) (ka + 1) dZ] 28)).cell
  have hc2' := (bq4.alloc (.cells #[.slice (some ⟨g, 0, none⟩) (ka + 1) dZ] 28))
  have hc3 := (hc2'.alloc (.cells (Array.replicate nq (.int .u64 0)) 24)).cell
  have hc4 := (hc2'.alloc (.cells (Array.replicate nq (.int .u64 0)) 24)).frozen
  clear b1 b2 own2 bE0 bE1 bE2 bE3 b3 own3 b4 bq0 bq2 bb2 rb2 hr hr2 hc hc2 hl hl2
  have hown0 := row_zero (w4.alloc (.cells #[.slice (some ⟨g, 0, none⟩) (ka + 1) dZ] 28)) nq (by omega)
  simp only [World.size_alloc] at hown0 own4
  obtain ⟨F3, hF3⟩ : ∃ F3, ((w4.alloc (.cells #[.slice (some ⟨g, 0, none⟩) (ka + 1) dZ] 28)).alloc (.cells (Array.replicate nq (.int .u64 0)) 24)).setCell ⟨w.heap.size, 0, none⟩ (.slice (some ⟨w4.heap.size + 1, 0, none⟩) nq nq) = F3 := ⟨_, rfl⟩
  have g5 := grownBy_setCell' ((w4.alloc (.cells #[.slice (some ⟨g, 0, none⟩) (ka + 1) dZ] 28)).alloc (.cells (Array.replicate nq (.int .u64 0)) 24)) w.heap.size (.slice (some ⟨w4.heap.size + 1, 0, none⟩) nq nq)
  have hs3 : F3.heap.size = w4.heap.size + 2 := by rw [← hF3]; simp [World.setCell]
  have B5 : Below w.heap.size w F3 := by rw [← hF3]; exact ((B4.alloc B4.size _).alloc (by simp; omega) _).setCell (p := ⟨w.heap.size, 0, none⟩) (Nat.le_refl _) _
  have cq := ((bq4.alloc (.cells #[.slice (some ⟨g, 0, none⟩) (ka + 1) dZ] 28)).alloc (.cells (Array.replicate nq (.int .u64 0)) 24)).set (.slice (some ⟨w4.heap.size + 1, 0, none⟩) nq nq)
  have cb := ((bb4.alloc (.cells #[.slice (some ⟨g, 0, none⟩) (ka + 1) dZ] 28)).alloc (.cells (Array.replicate nq (.int .u64 0)) 24)).kept g5 (by simp; omega)
  have cr := ((Boxed.new w4 28 (.slice (some ⟨g, 0, none⟩) (ka + 1) dZ)).alloc (.cells (Array.replicate nq (.int .u64 0)) 24)).kept g5 (by simp; omega)
  have crow := ((own4.alloc (.cells #[.slice (some ⟨g, 0, none⟩) (ka + 1) dZ] 28)).alloc (.cells (Array.replicate nq (.int .u64 0)) 24)).kept g5 (.inr (by simp [Value.ownBlock]; omega))
  have cqs := hown0.kept g5 (.inr (by simp [Value.ownBlock]; omega))
  have cby : Rd .u64 F3 w2.heap.size (some ⟨gx, 0, none⟩) (wd V) := fun hl => by
    obtain ⟨b, off, e, hb, hc⟩ := rb4 hl
    injection e with e
    injection e with e1 e2 _
    subst e1
    subst e2
    refine ⟨gx, 0, rfl, hb, fun j hj => ?_⟩
    rw [← hc j hj, ← hF3]
    refine World.cell?_of_block ?_
    rw [g5.block gx (by simp; omega) (by simp; omega), Below.heap_alloc _ _ _ (by simp; omega), Below.heap_alloc _ _ _ (by omega)]
  rw [hF3] at cq cb cr crow cqs
  have hc5 := cq.cell
  obtain ⟨E, hE⟩ : ∃ E, F3.alloc (.cells #[.slice (some ⟨w4.heap.size + 1, 0, none⟩) nq nq] 28) = E := ⟨_, rfl⟩
  have hEs : E.heap.size = w4.heap.size + 3 := by rw [← hE, World.size_alloc, hs3]
  have hM0 : ByMid E w.heap.size w2.heap.size w4.heap.size g (ka + 1) dZ nq (m + 1) dX (some ⟨gx, 0, none⟩) (wd V) (wd U ++ [0]) (words nq 0) E := by
    refine ⟨?_, ?_, ?_, ?_, ?_, ?_, Below.refl _ _, by omega, rfl⟩ <;> rw [← hE]
    · exact cq.alloc _
    · exact cb.alloc _
    · exact cr.alloc _
    · exact cby.below ((Below.refl _ F3).alloc (by omega) _)
    · exact crow.alloc _
    · exact cqs.alloc _
  have bA : Boxed E (w4.heap.size + 1 + 1) 28 (.slice (some ⟨w4.heap.size + 1, 0, none⟩) nq nq) := by
    have h := Boxed.new F3 28 (.slice (some ⟨w4.heap.size + 1, 0, none⟩) nq nq)
    rw [hs3, hE] at h
    exact h
  have BE : Below w.heap.size w E := by rw [← hE]; exact B5.alloc B5.size _
  have hVl := length_wd V
  rw [hm] at hVl
  have hUl := length_wd U
  rw [Hka.out] at hUl
  have hwU := wd_words U
  have hL0 : Long V U nq (wd U ++ [0]) (words nq 0) := by
    have e1 : natOf (wd U ++ [0]) = U := by rw [natOf_snoc, natOf_wd]; simp
    have e2 : natOf (words nq 0) = 0 := by rw [natOf_words]; simp
    refine ⟨by rw [e1, e2]; simp, ?_, fun j hj => by rw [nth_words _ _ _ hj]; simp⟩
    rw [e1]
    have h1 := nbits_lt U
    have h2 := nbits_le V (by intro h; rw [h, nbits_zero] at hm; omega)
    rw [HmV.out] at h2
    have h3 : 2 ^ nbits U ≤ 2 ^ (64 * nq + (64 * (m + 1) - 1)) := Nat.pow_le_pow_right (by omega) (by have := Hka.out; have := Hnq.out; omega)
    rw [Nat.pow_add, ← pow_64_2] at h3
    have h4 : 18446744073709551616 ^ nq * 2 ^ (64 * (m + 1) - 1) ≤ 18446744073709551616 ^ nq * V := Nat.mul_le_mul_left _ h2
    omega
  have HL0 := Lib.hid hL0
  have HEs := Lib.hid hEs
  have HBE := Lib.hid BE
  clear hown0 g5 cq cb cr crow cqs cby bq4 bb4 rb4 own4 hc2' B4 B5 hL0 hand HQB HSB HSA HN
  go_wp2_with fail
  go_step3
  go_wp2_with fail
  clear hc1 hc3 hc4 hc5
  refine ((callsIn_wide (n := 9)).1 (back_in _ _ _ _ _)).mono ?_
  rintro e w' ⟨rfl, rfl⟩
  rw [hs3, hE]
  go_wp2_with fail
  refine (wpIn_wide (n := 9)).1 ?_
  have hgR : g < w4.heap.size := hg1
  refine wpIn_rangeFunc_ownG rfl (by omega) (gf := 40) (lb := #[.pointer (some ⟨w4.heap.size + 1 + 1, 0, none⟩)]) rfl trivial (enters_of Try.func40 (by kernel_rfl) rfl)
    (backR_stops 8 (by omega) (w4.heap.size + 1 + 1) nq nq (some ⟨w4.heap.size + 1, 0, none⟩) (fun _ => True) (by omega) E bA ⟨words nq 0, length_words _ _, words_words _ _, trivial, Rd.own hM0.qs⟩)
    KpR.t (KpR.b (by omega)) (Below.refl _ _) (fun _ => rfl)
    (fun pre W => ByI E w.heap.size w2.heap.size w4.heap.size g (ka + 1) dZ nq (m + 1) dX (some ⟨gx, 0, none⟩) (wd V) V U pre W)
    (fun _ _ _ => False)
    (fun s X Y row hs hg hr => by
      obtain ⟨L, Q, h1, h2, h3, h4, h5, h6⟩ := hs
      exact ⟨L, Q, h1, h2, h3, h4, h5.kept hg (fun k e => by have := (hr k e).1; omega) hws (by omega) hgR, h6⟩)
    (fun _ _ _ _ _ hs _ _ => hs)
    ⟨wd U ++ [0], words nq 0, by rw [List.length_append, hUl]; rfl, (fun x hx => by rcases List.mem_append.1 hx with h | h; exact hwU x h; simp at h; omega), length_words _ _, words_words _ _, hM0, fun _ => by simpa using HL0.out⟩
    (fun y => { tmps := #[.slice A na c, .slice A2 nb c2, undef, undef, .pointer (some ⟨w.heap.size, 0, none⟩), .slice none 0 0, .int .i64 (s : Int), .pointer (some ⟨w2.heap.size, 0, none⟩), .pointer (some ⟨w4.heap.size, 0, none⟩), .int .i64 (y.1.1 : Int), undef, undef,
      .slice A2 nb c2, .int .i64 (N : Int), .int .i64 (wrap64 (-(N : Int))), .int .i64 (s : Int), .slice A2 nb c2, .int .i64 (s : Int), .slice (some ⟨gx, 0, none⟩) (m + 1) dX, .slice A na c, .int .i64 (s : Int), .slice Y ka dY, .slice (some ⟨w3.heap.size, 0, none⟩) 1 1,
      .slice (some ⟨g, 0, none⟩) (ka + 1) dZ, .slice (some ⟨g, 0, none⟩) (ka + 1) dZ, .int .i64 ((ka : Int) + 1), .slice (some ⟨gx, 0, none⟩) (m + 1) dX, .int .i64 ((m : Int) + 1), .int .i64 (nq : Int), .slice (some ⟨w4.heap.size + 1, 0, none⟩) nq nq, .slice (some ⟨w4.heap.size + 1, 0, none⟩) nq nq,
      .func (.func 40) #[] #[.pointer (some ⟨w4.heap.size + 1 + 1, 0, none⟩)], .int .i64 (y.1.1 : Int), .int .u64 (y.1.2 : Int),
      undef, undef, undef, undef, undef, undef, undef, undef, undef, undef, undef, undef, undef, undef, undef, undef, undef, undef, undef, undef, undef, undef, undef, undef, undef, undef, undef, undef, undef, undef, undef, undef, undef, undef, undef, undef, undef, undef, undef, undef, undef, undef], defers := [] }) ?assign ?body ?done ?stop
  case assign =>
    intro l x W K hK
    gi_wp2
    exact hK
  case body =>
    rintro l pre y W ⟨L, Q, hLl, hLw, hQl, hQw, hM, hP⟩ hlen
    obtain ⟨⟨i, wd0⟩, hi, hwd⟩ := y
    dsimp only at hi hwd ⊢
    have hrc := hM.rb.cell
    have hbc := hM.bb.cell
    have hqc := hM.qb.cell
    have hik : i + m + 2 ≤ ka + 1 := by have := Hnq.out; omega
    have hdi : ¬ dZ = i := by omega
    have HM := Lib.hid hM
    have HP := Lib.hid hP
    have HLN := Lib.hid hlen
    clear hM hP hlen hM0 bA hsub hm hw hw2 hN64 hEs hs3 hE hF3 BE
    have hll := hLl
    have hdec : i + (m + 1) + 1 - i = m + 1 + 1 := by omega
    gi_wp2
    rw [hdec]
    clear hdec
    have hmx : Try.prog.follows .mixedOrders = true := by kernel_rfl
    obtain ⟨x0, hx0⟩ : ∃ x0, guessV (nth L (i + (m + 1))) (nth L (i + m)) (nth (wd V) m) = x0 := ⟨_, rfl⟩
    have hby0 : W.drew.cell? ⟨gx, 0 + m, none⟩ = some (.int .u64 (nth (wd V) m : Int)) := by
      obtain ⟨b, off, e, _, hcell⟩ := HM.out.by_ (by omega)
      injection e with e
      injection e with e1 e2 _
      subst e1
      subst e2
      exact hcell m (by omega)
    have hG := guess_any g i m (dZ - i) dX (nth L (i + (m + 1))) (nth L (i + m)) (nth (wd V) m) (some ⟨gx, 0, none⟩) gx 0 W.drew rfl (by omega)
      (show W.cell? _ = _ by rw [HM.out.rest.cellAt _ (by omega), ints_get _ _ _ (by omega)]) (show W.cell? _ = _ by rw [HM.out.rest.cellAt _ (by omega), ints_get _ _ _ (by omega)]) hby0 (nth_lt L hLw _) (nth_lt L hLw _) (nth_lt _ (wd_words V) _)
    rw [hx0] at hG
    have HG := Lib.hid hG
    have HX0 := Lib.hid hx0
    clear hG hx0 hby0
    refine wpIn_region_any hmx ?_
    change wpAnyIn _ _ _ _ _ _ _ _ _ (World.drew _)
    refine anyG.toAny (s := 6) (B := fun W' => W'.cell? ⟨w.heap.size, 0, none⟩ = some (.slice (some ⟨w4.heap.size + 1, 0, none⟩) nq nq) ∧ W'.cell? ⟨w2.heap.size, 0, none⟩ = some (.slice (some ⟨gx, 0, none⟩) (m + 1) dX)) ?_
    refine anyG_take (i := 0) (v := .slice (some ⟨w4.heap.size + 1, 0, none⟩) nq nq) rfl (by kernel_rfl) (by kernel_rfl) (by kernel_rfl) (by kernel_rfl) (by kernel_rfl) (by kernel_rfl) (fun _ _ _ h => h) ⟨by rfl, fun W' ⟨g1, g2⟩ => ⟨by go_simp, by rfl⟩⟩ ?_
    refine anyG_take (i := 1) (v := .int .i64 (i : Int)) rfl (by kernel_rfl) (by kernel_rfl) (by kernel_rfl) (by kernel_rfl) (by kernel_rfl) (by kernel_rfl) (fun _ _ _ h => h) ⟨by rfl, fun W' ⟨g1, g2⟩ => ⟨by go_simp, by rfl⟩⟩ ?_
    refine anyG_take (i := 2) (v := .slice (some ⟨g, i, none⟩) (m + 1 + 1) (dZ - i)) rfl (by kernel_rfl) (by kernel_rfl) (by kernel_rfl) (by kernel_rfl) (by kernel_rfl) (by kernel_rfl) (fun _ _ _ h => h) ⟨by rfl, fun W' ⟨g1, g2⟩ => ⟨by go_simp, by rfl⟩⟩ ?_
    refine anyG_take (i := 3) (v := .slice (some ⟨gx, 0, none⟩) (m + 1) dX) rfl (by kernel_rfl) (by kernel_rfl) (by kernel_rfl) (by kernel_rfl) (by kernel_rfl) (by kernel_rfl) (fun _ _ _ h => h) ⟨by rfl, fun W' ⟨g1, g2⟩ => ⟨by go_simp, by rfl⟩⟩ ?_
    refine anyG_one (i := 4) (by kernel_rfl) rfl (fun _ => ⟨hqc, hbc⟩) (fun K hK => ?_)
    go_simp
    refine ⟨trivial, ?_⟩
    refine (CallsIn.inRound l (callsIn_wide.2 HG.out)).mono ?_
    rintro e w' ⟨rfl, k, rfl⟩
    refine hK _ _ ?_
    clear hK K
    refine anyG_take (i := 5) (v := .pointer (some ⟨w4.heap.size + 1, i, none⟩)) rfl (by kernel_rfl) (by kernel_rfl) (by kernel_rfl) (by kernel_rfl) (by kernel_rfl) (by kernel_rfl) (fun _ _ _ h => h) ⟨by rfl, fun W' ⟨g1, g2⟩ => ⟨by go_simp, by rfl⟩⟩ ?_
    have hco1 : (W.drewN (1 + k)).cell? ⟨w4.heap.size + 1, i, none⟩ = some (.int .u64 (nth Q i : Int)) := by
      show W.cell? _ = _
      rw [HM.out.qs.cellAt _ (by omega), ints_get _ _ _ (by omega)]
    have hfo1 : (W.drewN (1 + k)).frozen? ⟨w4.heap.size + 1, i, none⟩ = false := HM.out.qs.frozenAt _
    refine anyG_one (i := 6) (by kernel_rfl) rfl (fun _ => ⟨hqc, hbc⟩) (fun K hK => ?_)
    go_simp
    refine hK _ _ ?_
    clear hK K
    refine anyG_done (by kernel_rfl) (by kernel_rfl) ?_
    have hM1 := (HM.out.kept (Drawn.grown W (1 + k)) (fun _ e => by cases e) hws (by omega) hgR).setQ hws (by omega) hgR i x0
    have hK1 : KeepsOthers W ((W.drewN (1 + k)).setCell ⟨w4.heap.size + 1, i, none⟩ (.int .u64 (x0 : Int))) := (KeepsOthers.of_grownBy (Drawn.grown W (1 + k)) (fun j o e => by cases e)).trans (KeepsOthers.setCell _ _ _)
    obtain ⟨W1, hW1⟩ : ∃ W1, (W.drewN (1 + k)).setCell ⟨w4.heap.size + 1, i, none⟩ (.int .u64 (x0 : Int)) = W1 := ⟨_, rfl⟩
    rw [hW1] at hM1 hK1
    have HM1 := Lib.hid hM1
    have HK1 := Lib.hid hK1
    clear hqc hbc hrc hco1 hfo1
    gi_wp2
    rw [hW1]
    clear hW1
    have hqc := hM1.qb.cell
    have hbc := hM1.bb.cell
    have hqi : W1.cell? ⟨w4.heap.size + 1, i, none⟩ = some (.int .u64 (x0 : Int)) := by
      rw [hM1.qs.cellAt _ (by omega), ints_get _ _ _ (by rw [List.length_set]; omega), nth_set _ _ _ _ (by omega), if_pos rfl]
    have hx0b : x0 < 18446744073709551616 := by rw [← HX0.out]; exact guessV_lt _ _ _ (nth_lt L hLw _)
    have hM1d := hM1.kept (Drawn.grown W1 1) (fun _ e => by cases e) hws (by omega) hgR
    have TK := take_any (w2.heap.size + 1) g (ka + 1) dZ (dZ - i) i (m + 1) dX x0 L (wd V) (some ⟨gx, 0, none⟩) W1.drew hM1d.rest hLw hLl (hM1d.rdx (by omega)) (wd_words V) hVl (by omega) (by omega) hx0b
    have HTK := Lib.hid TK
    have HM1d := Lib.hid hM1d
    clear hM1 hK1 TK hM1d
    refine wpIn_region_any hmx ?_
    change wpAnyIn _ _ _ _ _ _ _ _ _ (World.drew _)
    refine anyG.toAny (s := 7) (B := fun W' => W'.cell? ⟨w2.heap.size, 0, none⟩ = some (.slice (some ⟨gx, 0, none⟩) (m + 1) dX) ∧ W'.cell? ⟨w.heap.size, 0, none⟩ = some (.slice (some ⟨w4.heap.size + 1, 0, none⟩) nq nq) ∧ W'.cell? ⟨w4.heap.size + 1, i, none⟩ = some (.int .u64 (x0 : Int))) ?_
    refine anyG_take (i := 0) (v := .slice (some ⟨g, i, none⟩) (m + 1 + 1) (dZ - i)) rfl (by kernel_rfl) (by kernel_rfl) (by kernel_rfl) (by kernel_rfl) (by kernel_rfl) (by kernel_rfl) (fun _ _ _ h => h) ⟨by rfl, fun W' ⟨g1, g2, g3⟩ => ⟨by go_simp, by rfl⟩⟩ ?_
    refine anyG_take (i := 1) (v := .slice (some ⟨gx, 0, none⟩) (m + 1) dX) rfl (by kernel_rfl) (by kernel_rfl) (by kernel_rfl) (by kernel_rfl) (by kernel_rfl) (by kernel_rfl) (fun _ _ _ h => h) ⟨by rfl, fun W' ⟨g1, g2, g3⟩ => ⟨by go_simp, by rfl⟩⟩ ?_
    refine anyG_take (i := 2) (v := .slice (some ⟨w4.heap.size + 1, 0, none⟩) nq nq) rfl (by kernel_rfl) (by kernel_rfl) (by kernel_rfl) (by kernel_rfl) (by kernel_rfl) (by kernel_rfl) (fun _ _ _ h => h) ⟨by rfl, fun W' ⟨g1, g2, g3⟩ => ⟨by go_simp, by rfl⟩⟩ ?_
    refine anyG_take (i := 3) (v := .int .i64 (i : Int)) rfl (by kernel_rfl) (by kernel_rfl) (by kernel_rfl) (by kernel_rfl) (by kernel_rfl) (by kernel_rfl) (fun _ _ _ h => h) ⟨by rfl, fun W' ⟨g1, g2, g3⟩ => ⟨by go_simp, by rfl⟩⟩ ?_
    refine anyG_take (i := 4) (v := .pointer (some ⟨w4.heap.size + 1, i, none⟩)) rfl (by kernel_rfl) (by kernel_rfl) (by kernel_rfl) (by kernel_rfl) (by kernel_rfl) (by kernel_rfl) (fun _ _ _ h => h) ⟨by rfl, fun W' ⟨g1, g2, g3⟩ => ⟨by go_simp, by rfl⟩⟩ ?_
    refine anyG_take (i := 5) (v := .int .u64 (x0 : Int)) rfl (by kernel_rfl) (by kernel_rfl) (by kernel_rfl) (by kernel_rfl) (by kernel_rfl) (by kernel_rfl) (fun _ _ _ h => h) ⟨by rfl, fun W' ⟨g1, g2, g3⟩ => ⟨by go_simp, by rfl⟩⟩ ?_
    refine anyG_one (i := 6) (by kernel_rfl) rfl (fun _ => ⟨hbc, hqc, hqi⟩) (fun K hK => ?_)
    go_simp
    refine ⟨trivial, ?_⟩
    refine (CallsIn.inRound l (callsIn_wide.2 HTK.out)).mono ?_
    rintro e W2 ⟨L1, o1, rfl, ho1, hT1, hown1, hgr1⟩
    refine hK _ _ ?_
    clear hK K
    have hM2 := HM1d.out.setR hws (by omega) hgR (by omega) hgr1 hown1
    have hK2 : KeepsOthers W W2 := (HK1.out.trans (KeepsOthers.of_grownBy (Drawn.grown W1 1) (fun j o e => by cases e))).trans (KeepsOthers.of_grownBy hgr1 fun j o ej hj => by
      obtain rfl : g = j := by simpa using ej
      exact own_cells HM1d.out.rest hj)
    have HM2 := Lib.hid hM2
    have HK2 := Lib.hid hK2
    have HT1 := Lib.hid hT1
    refine anyG_one (i := 7) (by kernel_rfl) rfl (fun _ => ⟨hM2.bb.cell, hM2.qb.cell, by rw [hM2.qs.cellAt _ (by omega), ints_get _ _ _ (by rw [List.length_set]; omega), nth_set _ _ _ _ (by omega), if_pos rfl]⟩) (fun K hK => ?_)
    clear hM2 hK2 hT1 hown1 hgr1 hbc hqc hqi
    go_simp
    refine hK _ _ ?_
    clear hK K
    refine anyG_done (by kernel_rfl) (by kernel_rfl) ?_
    have hLong : Downs (m := nq) (fun _ => True) (pre ++ [⟨(i, wd0), hi, hwd⟩]) → Long V U (i + 1) L Q := fun hds => by
      obtain ⟨hd0, hidx, _⟩ := hds.ini
      have h := HP.out hd0
      have hl0 := HLN.out
      dsimp only at hidx
      rwa [show nq - pre.length = i + 1 by omega] at h
    have hPl : Downs (m := nq) (fun _ => True) (pre ++ [⟨(i, wd0), hi, hwd⟩]) → Place (ka + 1) (i + (m + 1 + 1)) (18446744073709551616 ^ i * V) (18446744073709551616 ^ (i + (m + 1 + 1))) (natOf L) x0 o1 L1 ∧ x0 + 0 ≤ natOf L / (18446744073709551616 ^ i * V) + 2 := fun hds =>
      place_start HmV.out hVl hLw (hLong hds) HX0.out HT1.out ho1
    have HLong := Lib.hid hLong
    have HPl := Lib.hid hPl
    have HL1 := Lib.hid (show L1.length = ka + 1 ∧ Words L1 from ⟨HT1.out.len, HT1.out.words⟩)
    have hVpos : 0 < V := by
      rcases Nat.eq_zero_or_pos V with h | h
      · have := HmV.out; rw [h, nbits_zero] at this; omega
      · exact h
    clear hLong hPl
    gi_wp2
    gi_loopw [55, 11] (fun cv ov wr => ∃ (t x o : Nat) (L' : List Nat), t ≤ 2 ∧ cv = .int .i64 (t : Int) ∧ ov = .int .u64 (o : Int) ∧ o ≤ 1 ∧ x < 18446744073709551616 ∧ L'.length = ka + 1 ∧ Words L' ∧ ByMid E w.heap.size w2.heap.size w4.heap.size g (ka + 1) dZ nq (m + 1) dX (some ⟨gx, 0, none⟩) (wd V) L' (Q.set i x) wr ∧ KeepsOthers W wr ∧
      (Downs (m := nq) (fun _ => True) (pre ++ [⟨(i, wd0), hi, hwd⟩]) → Place (ka + 1) (i + (m + 1 + 1)) (18446744073709551616 ^ i * V) (18446744073709551616 ^ (i + (m + 1 + 1))) (natOf L) x o L' ∧ x + t ≤ natOf L / (18446744073709551616 ^ i * V) + 2)) (fun cv _ _ => 2 - (intOf cv).toNat)
    case atStart => exact ⟨0, x0, o1, L1, by omega, rfl, rfl, ho1, hx0b, HL1.out.1, HL1.out.2, HM2.out, HK2.out, HPl.out⟩
    case round =>
      clear HM2 HK2 HPl HL1 HT1 HTK HM1d HG HM1 HK1 ho1 hx0b
      obtain ⟨t, x, o, L', ht, rfl, rfl, ho, hxb, hLl', hLw', hM3, hK3, hPl⟩ := hrel
      have hfin : (Downs (m := nq) (fun _ => True) (pre ++ [⟨(i, wd0), hi, hwd⟩]) → o = 0) → KeepsFrom E.heap.size W wr ∧ KpR (w4.heap.size + 1 + 1) (some ⟨w4.heap.size + 1, 0, none⟩) nq (fun _ => True) W wr ∧
          ByI E w.heap.size w2.heap.size w4.heap.size g (ka + 1) dZ nq (m + 1) dX (some ⟨gx, 0, none⟩) (wd V) V U (pre ++ [⟨(i, wd0), hi, hwd⟩]) wr := fun ho0 => by
        refine ⟨hK3.from _, ⟨hM3.it.trans HM.out.it.symm, fun _ => ⟨Q.set i x, by rw [List.length_set, hQl], words_put _ hQw _ _ hxb, trivial, Rd.own hM3.qs⟩⟩, L', Q.set i x, hLl', hLw', by rw [List.length_set, hQl], words_put _ hQw _ _ hxb, hM3, fun hds => ?_⟩
        have hl0 := HLN.out
        obtain ⟨_, hidx, _⟩ := hds.ini
        dsimp only at hidx
        rw [show nq - (pre ++ [(⟨(i, wd0), hi, hwd⟩ : WI nq)]).length = i by rw [List.length_append, List.length_singleton]; omega]
        have h := (hPl hds).1
        rw [ho0 hds] at h
        exact place_end hVpos (HLong.out hds) (by omega) h
      have HF := Lib.hid hfin
      have HP3 := Lib.hid hPl
      have HM3 := Lib.hid hM3
      have HK3 := Lib.hid hK3
      have hqc := hM3.qb.cell
      have hbc := hM3.bb.cell
      have hqi : wr.cell? ⟨w4.heap.size + 1, i, none⟩ = some (.int .u64 (x : Int)) := by
        rw [hM3.qs.cellAt _ (by omega), ints_get _ _ _ (by rw [List.length_set]; omega), nth_set _ _ _ _ (by omega), if_pos rfl]
      have hqf : wr.frozen? ⟨w4.heap.size + 1, i, none⟩ = false := hM3.qs.frozenAt _
      have hD : 0 < 18446744073709551616 ^ i * V := Nat.mul_pos (Nat.pow_pos (by omega)) hVpos
      have HD := Lib.hid hD
      clear hfin hPl hM3 hK3 hD
      by_cases ht2 : t < 2
      · by_cases ho0 : o = 0
        · subst ho0
          have HFF := Lib.hid (HF.out (fun _ => rfl))
          clear HF
          gi_wp2
          exact HFF.out
        · obtain rfl : o = 1 := by omega
          obtain ⟨x', hx'⟩ : ∃ x', (x + 18446744073709551615) % 18446744073709551616 = x' := ⟨_, rfl⟩
          have ex : IntKind.u64.wrap ((x : Int) - 1) = (x' : Int) := by rw [wrap_u64]; omega
          have hx'b : x' < 18446744073709551616 := by omega
          have hM4 := HM3.out.setQ hws (by omega) hgR i x'
          rw [List.set_set] at hM4
          have GV := give_any (w2.heap.size + 1) g (ka + 1) dZ (dZ - i) i (m + 1) dX L' (wd V) (some ⟨gx, 0, none⟩) (wr.setCell ⟨w4.heap.size + 1, i, none⟩ (.int .u64 (x' : Int))) hM4.rest hLw' hLl' (hM4.rdx (by omega)) (wd_words V) hVl (by omega) (by omega)
          have HGV := Lib.hid GV
          have HM4 := Lib.hid hM4
          have HX' := Lib.hid hx'
          have hbc4 := hM4.bb.cell
          have HXB := Lib.hid hx'b
          have HXB0 := Lib.hid hxb
          have t1 : (t : Int) < 2 := by omega
          clear GV hM4 hx' ho0 hxb hx'b ho
          gi_wp2
          refine ⟨trivial, ?_⟩
          refine (CallsIn.inRound l (callsIn_wide.2 HGV.out)).mono ?_
          rintro e W5 ⟨L5, c5, rfl, hc5, hG5, hown5, hgr5⟩
          have hM5 := HM4.out.setR hws (by omega) hgR (by omega) hgr5 hown5
          have HM5 := Lib.hid hM5
          have HK5 := Lib.hid (show KeepsOthers W W5 from (HK3.out.trans (KeepsOthers.setCell _ ⟨w4.heap.size + 1, i, none⟩ (.int .u64 (x' : Int)))).trans (KeepsOthers.of_grownBy hgr5 fun j o ej hj => by
            obtain rfl : g = j := by simpa using ej
            exact own_cells HM4.out.rest hj))
          have HP5 := Lib.hid (show Downs (m := nq) (fun _ => True) (pre ++ [⟨(i, wd0), hi, hwd⟩]) → Place (ka + 1) (i + (m + 1 + 1)) (18446744073709551616 ^ i * V) (18446744073709551616 ^ (i + (m + 1 + 1))) (natOf L) x' (1 - c5) L5 ∧ x' + (t + 1) ≤ natOf L / (18446744073709551616 ^ i * V) + 2 from fun hds => by
            obtain ⟨h1, h2⟩ := HP3.out hds
            have hv := hG5.val
            rw [natOf_wd] at hv
            obtain ⟨h3, h4⟩ := h1.back HD.out (by omega) hG5.len hG5.words hv hG5.same hc5
            have hq1 := HX'.out
            have hq2 := HXB0.out
            have hq3 : x' = x - 1 := by clear hv h4 h2 h1; omega
            rw [hq3]
            exact ⟨h4, by omega⟩)
          have HG5 := Lib.hid hG5
          have e5 : IntKind.u64.wrap (1 - (c5 : Int)) = ((1 - c5 : Nat) : Int) := by rw [wrap_u64]; omega
          clear hM5 hG5 hown5 hgr5
          gi_wp2
          go_roundw
          case rel => exact ⟨t + 1, x', 1 - c5, L5, by omega, by go_num, by go_num, by omega, HXB.out, HG5.out.len, HG5.out.words, HM5.out, HK5.out, HP5.out⟩
          case measure => simp [intOf]; omega
      · have HFF := Lib.hid (HF.out (fun hds => by
          obtain ⟨h1, h2⟩ := HP3.out hds
          rcases Nat.eq_zero_or_pos o with h | h
          · exact h
          · have := h1.more HD.out (by omega)
            omega))
        obtain rfl : t = 2 := by omega
        clear HF
        gi_wp2
        exact HFF.out
  case done =>
    rintro D ys W hD ⟨hds, hyl⟩ ⟨L, Q, hLl, hLw, hQl, hQw, hM, hP⟩ hK
    have hfin := hP hds
    rw [hyl, Nat.sub_self] at hfin
    obtain ⟨eQ, eL⟩ := long_end hfin
    have h2s : 0 < 2 ^ s := Nat.pow_pos (by omega)
    have eQ2 : natOf Q = natOf a / natOf b := by rw [eQ, ← HV.out, ← HU.out, Nat.mul_div_mul_left _ _ h2s]
    have eL2 : shrS (natOf L) (s : Int) = natOf a % natOf b := by
      unfold shrS
      rw [if_pos (by omega), Int.toNat_natCast, eL, ← HV.out, ← HU.out, Nat.mul_mod_mul_left, Nat.mul_div_cancel_left _ h2s]
    have hQN := natOf_lt Q hQw
    rw [hQl, eQ2] at hQN
    have hQe : Q = words nq (natOf a / natOf b) := words_of Q hQw nq _ hQl eQ2
    have hrow := hM.qs
    rw [hQe] at hrow
    have hrow1 : W.drew.ownsRow (w4.heap.size + 1) 24 1 (.slice (some ⟨w4.heap.size + 1, 0, none⟩) nq nq) nq (ints .u64 (words nq (natOf a / natOf b))) := (Drawn.more 1).own hrow
    obtain ⟨T, hT⟩ : ∃ T, (nbits (natOf a / natOf b) + 63) / 64 = T := ⟨_, rfl⟩
    have hTn := tl_le (words nq (natOf a / natOf b)) (words_words _ _)
    rw [length_words, tl_words _ _ hQN, hT] at hTn
    have DT := dtrim_own W.drew _ nq nq (natOf a / natOf b) _ hrow1 hQN (by omega) (Nat.le_refl _)
    rw [hT] at DT
    have HDT := Lib.hid DT
    have hotr := own_trim hrow1 hQN
    rw [hT] at hotr
    have SR := natShr_any (some ⟨g, 0, none⟩) dZ L W.drew ((Rd.own ((Drawn.more 1).own hM.rest))) hLw (by omega) (by omega) (s : Int)
    rw [hLl, eL2] at SR
    have HSR := Lib.hid SR
    have HOT := Lib.hid hotr
    have HM := Lib.hid hM
    have HK := Lib.hid hK
    have HT := Lib.hid hT
    have hmx : Try.prog.follows .mixedOrders = true := by kernel_rfl
    have hqc := hM.qb.cell
    have hrc := hM.rb.cell
    have hD2 : w4.heap.size + 3 ≤ D := by have := HEs.out; omega
    clear hP hds hyl hK hM hrow hrow1 DT SR hotr eQ eL eQ2 eL2 hQe hfin hM0 bA hT hQw hLw hm hsub hw hw2 hN64
    go_wp2_with fail
    refine (wpIn_wide (n := 9)).1 ?_
    refine only_end ?_
    refine wpIn_region_any hmx ?_
    change wpAnyIn _ _ _ _ _ _ _ _ _ (World.drew _)
    refine anyG.toAny (s := 6) (B := fun W' => W'.cell? ⟨w4.heap.size, 0, none⟩ = some (.slice (some ⟨g, 0, none⟩) (ka + 1) dZ)) ?_
    refine anyG_take (i := 2) (v := .slice (some ⟨g, 0, none⟩) (ka + 1) dZ) rfl (by kernel_rfl) (by kernel_rfl) (by kernel_rfl) (by kernel_rfl) (by kernel_rfl) (by kernel_rfl) (fun _ _ _ h => h) ⟨by rfl, fun W' g1 => ⟨by go_simp, by rfl⟩⟩ ?_
    refine anyG_take (i := 3) (v := .int .i64 (s : Int)) rfl (by kernel_rfl) (by kernel_rfl) (by kernel_rfl) (by kernel_rfl) (by kernel_rfl) (by kernel_rfl) (fun _ _ _ h => h) ⟨by rfl, fun W' g1 => ⟨by go_simp, by rfl⟩⟩ ?_
    refine anyG_one (i := 0) (by kernel_rfl) rfl (fun _ => hrc) (fun K hK => ?_)
    go_simp
    refine hK _ _ ?_
    clear hK K
    refine anyG_one (i := 1) (by kernel_rfl) rfl (fun _ => hrc) (fun K hK => ?_)
    go_simp
    refine ⟨trivial, ?_⟩
    refine (callsIn_wide.2 HDT.out).mono ?_
    rintro e w' ⟨rfl, rfl⟩
    refine hK _ _ ?_
    clear hK K
    refine anyG_one (i := 4) (by kernel_rfl) rfl (fun _ => hrc) (fun K hK => ?_)
    go_simp
    refine ⟨trivial, ?_⟩
    refine (callsIn_wide.2 HSR.out).mono ?_
    rintro e w5 ⟨v5, rfl, own5, b5⟩
    obtain ⟨Z5, d5, rfl, hd5, _⟩ := own_form own5
    refine hK _ _ ?_
    clear hK K
    have hszW := HM.out.size
    have bq5 : Boxed w5 w.heap.size 28 (.slice (some ⟨w4.heap.size + 1, 0, none⟩) nq nq) := (b5.block _ (by show w.heap.size < W.heap.size; omega)).trans HM.out.qb
    have br5 : Boxed w5 w4.heap.size 28 (.slice (some ⟨g, 0, none⟩) (ka + 1) dZ) := (b5.block _ (by show w4.heap.size < W.heap.size; omega)).trans HM.out.rb
    have hq5 := bq5.cell
    have hqf5 := bq5.frozen
    have hr5 := br5.cell
    have g6 := grownBy_setCell' w5 w.heap.size (.slice (some ⟨w4.heap.size + 1, 0, none⟩) T nq)
    have br6 := br5.kept g6 (by simp; omega)
    refine anyG_one (i := 5) (by kernel_rfl) rfl (fun _ => hr5) (fun K hK => ?_)
    go_simp
    refine hK _ _ ?_
    clear hK K
    refine anyG_one (i := 6) (by kernel_rfl) rfl (fun _ => br6.cell) (fun K hK => ?_)
    go_simp
    refine hK _ _ ?_
    clear hK K
    refine anyG_done (by kernel_rfl) (by kernel_rfl) ?_
    have bq6 := bq5.set (.slice (some ⟨w4.heap.size + 1, 0, none⟩) T nq)
    have hoT5 : w5.ownsRow (w4.heap.size + 1) 24 1 (.slice (some ⟨w4.heap.size + 1, 0, none⟩) T nq) T (ints .u64 (wd (natOf a / natOf b))) := own_step HOT.out b5
    have hoT6 := hoT5.kept g6 (.inr (by simp [Value.ownBlock]; omega))
    have ho6 := own5.kept g6 (.inr (by
      intro e
      rcases own5.2 with ⟨hv, _⟩ | ⟨g', cap, cur, hv, hgb, _⟩
      · rw [hv] at e; cases e
      · rw [hv] at e
        have : W.heap.size ≤ g' := hgb
        simp [Value.ownBlock] at e
        omega))
    have hB6 : Below w.heap.size w (w5.setCell ⟨w.heap.size, 0, none⟩ (.slice (some ⟨w4.heap.size + 1, 0, none⟩) T nq)) := (((HBE.out.trans (HM.out.below.mono (by omega))).trans ((Drawn.more 1).below _)).trans (b5.mono (by show w.heap.size ≤ W.heap.size; omega))).setCell (p := ⟨w.heap.size, 0, none⟩) (Nat.le_refl _) _
    have hDW : D < W.heap.size := (Array.getElem?_eq_some_iff.1 HK.out).1
    have hK6 : (w5.setCell ⟨w.heap.size, 0, none⟩ (.slice (some ⟨w4.heap.size + 1, 0, none⟩) T nq)).heap[D]? = some (.deferred (some [])) := (KeepsOthers.setCell w5 ⟨w.heap.size, 0, none⟩ (.slice (some ⟨w4.heap.size + 1, 0, none⟩) T nq)).same D _ ((b5.block D hDW).trans HK.out) rfl
    have HBQ := Lib.hid bq6
    have HO6 := Lib.hid ho6
    have HOT6 := Lib.hid hoT6
    have HB6 := Lib.hid hB6
    have HK6 := Lib.hid hK6
    clear bq5 br5 hq5 hqf5 hr5 g6 br6 bq6 hoT5 hoT6 ho6 hB6 hK6 own5 b5 hqc hrc HM HOT HDT HSR
    go_wp2_with fail
    rw [Exit.noGoto_ret]
    change bodyPostM Fence.wide 9 Try.prog Try.f54 _ Exit.ret _ _
    refine ⟨by simp, .inl ⟨_, _, rfl, run_takeDeferred HK6.out, ?_⟩⟩
    have hcq := cell_kept HBQ.out.cell (grownBy_putObj' _ D (.deferred none)) (fun r e => by cases e; exact ⟨_, HK6.out, rfl⟩)
    have hoT7 := ownsRow_putObj HOT6.out (.deferred none) HK6.out rfl
    have ho7 := ownsRow_putObj HO6.out (.deferred none) HK6.out rfl
    have hBB := HB6.out.trans (belowK_b (w := w) (Nat.le_refl _) _ D _ (.deferred none) (by omega) HK6.out rfl rfl)
    refine ⟨.tuple #[.slice (some ⟨w4.heap.size + 1, 0, none⟩) T nq, .slice Z5 ((nbits (natOf a % natOf b) + 63) / 64) d5], by simp [results, Try.f54, go_sem, hcq], ?_⟩
    have hrl := nbits_mono (Nat.mod_le (natOf a) (natOf b))
    have hra := nbits_natOf a hw'
    exact ⟨_, _, _, _, _, _, rfl, ⟨by rw [← HT.out]; exact length_wd _, by have := Hnq.out; omega, Rd.own hoT7, hTn⟩, ⟨length_wd _, by have := Hna.out; omega, Rd.own ho7, hd5⟩, hBB⟩
  case stop =>
    rintro D c pre W _ _ h _
    exact h.elim
end Go.Proofs.Ytgmolbiicclcaaa
/- div.Div, div.Mod. Conditions: as typed (lengths that fit a machine). -/
namespace Go.Proofs.Ytgmolbiicclcaaa
open Go.RowKit
set_option maxRecDepth 20000
/-- What Div answers where it divides by one word, or by more. -/
theorem outWord_num {M x : Nat} {w w' : World} {e : Ending} (h : OutWord M x w e w') : ∃ X q d r, e = .returned (.tuple #[.slice X q d, .int .u64 ((r : Nat) : Int), .int .i64 0]) ∧ r = M % x ∧ NatIs w' X q d (M / x) ∧ Below w.heap.size w w' := by
  obtain ⟨X, q, d, e1, e2, e3⟩ := h
  exact ⟨X, q, d, _, e1, rfl, e2, e3⟩
section
variable (A A2 : Option Addr) (c c2 : Nat) (a b : List Nat) (w : World) (hr : Rd .u64 w w.heap.size A a) (hw : Words a) (hl : a.length ≤ 10000) (hc : a.length ≤ c) (hr2 : Rd .u64 w w.heap.size A2 b) (hw2 : Words b) (hl2 : b.length ≤ 10000) (hc2 : b.length ≤ c2)
include hr hw hl hc hr2 hw2 hl2 hc2
set_option maxHeartbeats 1000000 in
theorem div_zero_pf (h0 : natOf b = 0) : Calls Try.prog 35 #[.slice A a.length c, .slice A2 b.length c2] w (OutErr3 5 w) := by
  have _ := And.intro hr (And.intro hw (And.intro hl hc))
  have S := natSmall_any A2 c2 b w hr2 hw2 (by omega) hc2
  rw [h0, show smallV 0 = 0 by simp [smallV], show smallB 0 = true by simp [smallB]] at S
  have HS := Lib.hid S
  clear S h0
  go_enter Try.func35, Try.ntmps35
  go_wp2_with fail
  refine (HS.out).mono ?_
  rintro e w1 ⟨rfl, b1⟩
  go_wp2_with fail
  refine (divWord_zero_pf A a.length c w1).mono ?_
  rintro e w2 ⟨X, d, rfl, b2⟩
  have B2 := b1.trans (b2.mono b1.size)
  go_wp2_with fail
  refine (natOf_any 0 w2 (by omega)).mono ?_
  rintro e w3 ⟨v3, rfl, own3, b3⟩
  obtain ⟨Y, f, rfl, _, _⟩ := own_form own3
  have B3 := B2.trans (b3.mono B2.size)
  rw [nbits_zero]
  clear own3
  go_wp2_with fail
  go_ret3
  exact ⟨X, d, Y, f, rfl, B3⟩
set_option maxHeartbeats 1000000 in
theorem div_ok_pf (h0 : natOf b ≠ 0) : Calls Try.prog 35 #[.slice A a.length c, .slice A2 b.length c2] w (OutDiv (natOf a) (natOf b) w) := by
  have S := natSmall_any A2 c2 b w hr2 hw2 (by omega) hc2
  by_cases hs : natOf b < 18446744073709551616
  · rw [show smallV (natOf b) = ((natOf b : Nat) : Int) by simp [smallV, hs], show smallB (natOf b) = true by simp [smallB, hs]] at S
    have HS := Lib.hid S
    have H0 := Lib.hid h0
    have Hs := Lib.hid hs
    clear S h0 hs
    go_enter Try.func35, Try.ntmps35
    go_wp2_with fail
    refine (HS.out).mono ?_
    rintro e w1 ⟨rfl, b1⟩
    go_wp2_with fail
    refine (divWord_ok_pf A a.length c (natOf b) a w1 rfl ((hr.below b1).more b1.size) hw hl hc (by have := H0.out; omega) Hs.out).mono ?_
    intro e w2 h2
    obtain ⟨X, q, d, r, rfl, hre, hX, b2⟩ := outWord_num h2
    have hrb : r < 18446744073709551616 := by have := Hs.out; have := Nat.mod_lt (natOf a) (show 0 < natOf b by have := H0.out; omega); omega
    have Hre := Lib.hid hre
    have B2 := b1.trans (b2.mono b1.size)
    clear hre h2
    go_wp2_with fail
    refine (natOf_any r w2 hrb).mono ?_
    rintro e w3 ⟨v3, rfl, own3, b3⟩
    obtain ⟨Y, f, rfl, hf, _⟩ := own_form own3
    have B3 := B2.trans (b3.mono B2.size)
    have hX3 := hX.step b3
    have hn1 := nbits_of_lt r 64 hrb
    have hY : NatIs w3 Y ((nbits r + 63) / 64) f (natOf a % natOf b) := by rw [← Hre.out]; exact ⟨length_wd _, by omega, Rd.own own3, hf⟩
    clear own3 hX
    go_wp2_with fail
    go_ret3
    exact ⟨X, q, d, Y, _, f, rfl, hX3, hY, B3⟩
  · rw [show smallV (natOf b) = 0 by simp [smallV, hs], show smallB (natOf b) = false by simp [smallB, hs]] at S
    have HS := Lib.hid S
    have Hs := Lib.hid hs
    clear S h0 hs
    go_enter Try.func35, Try.ntmps35
    go_wp2_with fail
    refine (HS.out).mono ?_
    rintro e w1 ⟨rfl, b1⟩
    go_wp2_with fail
    have r1 := (hr.below b1).more b1.size
    have r2 := (hr2.below b1).more b1.size
    refine (natCmp_any A A2 c c2 a b w1 r1 hw (by omega) hc r2 hw2 (by omega) hc2).mono ?_
    rintro e w2 ⟨rfl, b2⟩
    have B2 := b1.trans (b2.mono b1.size)
    have r1 := (hr.below B2).more B2.size
    have r2 := (hr2.below B2).more B2.size
    by_cases hlt : natOf a < natOf b
    · have hcm : cmpS (natOf a) (natOf b) = -1 := by unfold cmpS; rw [if_pos hlt]
      have Hlt := Lib.hid hlt
      rw [hcm]
      clear hlt hcm
      go_wp2_with fail
      refine (natTrim_any A c a w2 r1 hw (by omega) hc).mono ?_
      rintro e w3 ⟨v3, rfl, own3, b3⟩
      obtain ⟨Y, f, rfl, hf, _⟩ := own_form own3
      have B3 := B2.trans (b3.mono B2.size)
      have hna := nbits_natOf a hw
      have hY : NatIs w3 Y ((nbits (natOf a) + 63) / 64) f (natOf a % natOf b) := by rw [Nat.mod_eq_of_lt Hlt.out]; exact ⟨length_wd _, by omega, Rd.own own3, hf⟩
      have hX : NatIs w3 none 0 0 (natOf a / natOf b) := by
        rw [Nat.div_eq_of_lt Hlt.out]
        have e : wd 0 = [] := by simp [wd, nbits_zero, words]
        exact ⟨by rw [e]; rfl, by omega, by rw [e]; exact Rd.nil, Nat.le_refl _⟩
      clear own3 hna
      go_wp2_with fail
      go_ret3
      exact ⟨none, 0, 0, Y, _, f, rfl, hX, hY, B3⟩
    · have hcm : ¬ cmpS (natOf a) (natOf b) < 0 := by
        unfold cmpS
        rw [if_neg hlt]
        split <;> omega
      have Hlt := Lib.hid hlt
      generalize cmpS (natOf a) (natOf b) = cm at *
      clear hlt
      go_wp2_with fail
      refine (byWords_pf A A2 a.length b.length c c2 a b w2 rfl rfl r1 hw hl hc r2 hw2 hl2 hc2 (by have := Hs.out; omega) (by have := Hlt.out; omega)).mono ?_
      rintro e w3 ⟨X, q, d, Y, r, f, rfl, hX, hY, b3⟩
      have B3 := B2.trans (b3.mono B2.size)
      go_wp2_with fail
      go_ret3
      exact ⟨X, q, d, Y, r, f, rfl, hX, hY, B3⟩
set_option maxHeartbeats 1000000 in
theorem mod_zero_pf (h0 : natOf b = 0) : Calls Try.prog 24 #[.slice A a.length c, .slice A2 b.length c2] w (OutErr 5 w) := by
  have D := Lib.hid (div_zero_pf A A2 c c2 a b w hr hw hl hc hr2 hw2 hl2 hc2 h0)
  clear h0
  go_enter Try.func24, Try.ntmps24
  go_wp2_with fail
  refine (D.out).mono ?_
  rintro e w1 ⟨X, d, Y, f, rfl, b1⟩
  go_wp2_with fail
  go_ret2
  exact ⟨Y, f, rfl, b1⟩
set_option maxHeartbeats 1000000 in
theorem mod_ok_pf (h0 : natOf b ≠ 0) : Calls Try.prog 24 #[.slice A a.length c, .slice A2 b.length c2] w (OutMod (natOf a) (natOf b) w) := by
  have D := Lib.hid (div_ok_pf A A2 c c2 a b w hr hw hl hc hr2 hw2 hl2 hc2 h0)
  clear h0
  go_enter Try.func24, Try.ntmps24
  go_wp2_with fail
  refine (D.out).mono ?_
  rintro e w1 ⟨X, q, d, Y, r, f, rfl, hX, hY, b1⟩
  go_wp2_with fail
  go_ret2
  exact ⟨Y, r, f, rfl, hY, b1⟩
end
end Go.Proofs.Ytgmolbiicclcaaa

/- Several texts in one; each begins with a remark that says what it shows and on which conditions. -/
import Derived.Test.YtjpfcdgaepdcdaaGreatKam
import Derived.Test.YtjpfcdgaepdcdaaGreatKae
import Derived.Test.YtjpfcdgaepdcdaaGreatKap
import Derived.Test.YtjpfcdgaepdcdaaGreatKak
import Derived.Test.YtjpfcdgaepdcdaaGreatKal
/- The contract of the document's Div of chapter 4, and words for what divisions answer. Conditions: as typed (lengths that fit a machine). -/
namespace Go.Proofs.YtjpfcdgaepdcdaaGreat
open Go.RowKit
set_option maxRecDepth 20000
/-- Nothing twice, and an error's number. -/
def OutErr3 (x : Int) (w : World) (e : Ending) (w' : World) : Prop := ∃ X d Y f, e = .returned (.tuple #[.slice X 0 d, .slice Y 0 f, .int .i64 x]) ∧ Below w.heap.size w w'
/-- How often, and what is left. -/
def OutDiv (M N : Nat) (w : World) (e : Ending) (w' : World) : Prop := ∃ X q d Y r f, e = .returned (.tuple #[.slice X q d, .slice Y r f, .int .i64 0]) ∧ NatIs w' X q d (M / N) ∧ NatIs w' Y r f (M % N) ∧ Below w.heap.size w w'
/-- What is left. -/
def OutMod (M N : Nat) (w : World) (e : Ending) (w' : World) : Prop := ∃ Y r f, e = .returned (.tuple #[.slice Y r f, .int .i64 0]) ∧ NatIs w' Y r f (M % N) ∧ Below w.heap.size w w'
/-- How often one word goes into a number, and what is left. -/
def OutWord (M x : Nat) (w : World) (e : Ending) (w' : World) : Prop := ∃ X q d, e = .returned (.tuple #[.slice X q d, .int .u64 (M % x : Nat), .int .i64 0]) ∧ NatIs w' X q d (M / x) ∧ Below w.heap.size w w'
def OutWordE (w : World) (e : Ending) (w' : World) : Prop := ∃ X d, e = .returned (.tuple #[.slice X 0 d, .int .u64 0, .int .i64 5]) ∧ Below w.heap.size w w'
section
variable (A A2 : Option Addr) (c c2 : Nat) (a b : List Nat) (w : World) (hr : Rd .u64 w w.heap.size A a) (hw : Words a) (hl : a.length ≤ 10000) (hr2 : Rd .u64 w w.heap.size A2 b) (hw2 : Words b) (hl2 : b.length ≤ 10000)
include hr2 hw2 hl2
include hr hw hl
end
end Go.Proofs.YtjpfcdgaepdcdaaGreat
/- div.Word: by one word. Conditions: as typed (a length that fits a machine). -/
namespace Go.Proofs.YtjpfcdgaepdcdaaGreat
open Go.RowKit Go.Shelf
set_option maxRecDepth 20000
attribute [local go_sem] Oper.semAt_some
/-- The words of a number from place i on, and noughts below. -/
def tops (n N i : Nat) : List Nat := List.replicate i 0 ++ (words n N).drop i
theorem length_tops (n N i : Nat) (h : i ≤ n) : (tops n N i).length = n := by simp [tops, length_words]; omega
theorem tops_start (n N : Nat) : tops n N n = List.replicate n 0 := by simp [tops, length_words]
theorem tops_end (n N : Nat) : tops n N 0 = words n N := by simp [tops]
theorem tops_set (n N i : Nat) (h : i < n) : (tops n N (i + 1)).set i (N / 18446744073709551616 ^ i % 18446744073709551616) = tops n N i := by
  refine ext_nth _ _ (by rw [List.length_set, length_tops _ _ _ (by omega), length_tops _ _ _ (by omega)]) fun j hj => ?_
  rw [List.length_set, length_tops _ _ _ (by omega)] at hj
  rw [nth_set _ _ _ _ (by rw [length_tops _ _ _ (by omega)]; omega)]
  have h1 : ∀ i, i ≤ n → nth (tops n N i) j = if j < i then 0 else N / 18446744073709551616 ^ j % 18446744073709551616 := fun i hi => by
    have hw := nth_words n N j hj
    unfold nth tops at *
    by_cases hji : j < i
    · simp [List.getElem?_append, hji]
    · rw [List.getD_eq_getElem?_getD, List.getElem?_append_right (by simp; omega)] at *
      rw [if_neg hji, ← hw]
      simp
      congr 2
      omega
  rw [h1 _ (by omega), h1 _ (by omega)]
  by_cases hji : j = i
  · subst hji
    rw [if_pos rfl, if_neg (by omega)]
  · rw [if_neg hji]
    by_cases hlt : j < i
    · rw [if_pos hlt, if_pos (by omega)]
    · rw [if_neg hlt, if_neg (by omega)]
theorem word_place (A b i : Nat) (hb : 0 < b) : ∃ q r, (A / 18446744073709551616 ^ (i + 1) % b * 18446744073709551616 + A / 18446744073709551616 ^ i % 18446744073709551616) / b = q ∧
    (A / 18446744073709551616 ^ (i + 1) % b * 18446744073709551616 + A / 18446744073709551616 ^ i % 18446744073709551616) % b = r ∧ q = A / b / 18446744073709551616 ^ i % 18446744073709551616 ∧ r = A / 18446744073709551616 ^ i % b := by
  refine ⟨_, _, rfl, rfl, ?_, ?_⟩
  · have e : A / b / 18446744073709551616 ^ i = A / 18446744073709551616 ^ i / b := by rw [Nat.div_div_eq_div_mul, Nat.mul_comm, ← Nat.div_div_eq_div_mul]
    rw [e]
    obtain ⟨M, hM⟩ : ∃ M, A / 18446744073709551616 ^ i = M := ⟨_, rfl⟩
    have e2 : A / 18446744073709551616 ^ (i + 1) = M / 18446744073709551616 := by rw [Nat.pow_succ, ← Nat.div_div_eq_div_mul, hM]
    rw [e2, hM]
    have hMd := Nat.div_add_mod M 18446744073709551616
    obtain ⟨h1, h2⟩ := long_div (M / 18446744073709551616) b 18446744073709551616 (M % 18446744073709551616) hb
    obtain ⟨h3, h4⟩ := place_step (M / 18446744073709551616 % b) b 18446744073709551616 (M % 18446744073709551616) hb (Nat.mod_lt _ hb) (Nat.mod_lt _ (by omega))
    have e3 : M / 18446744073709551616 * 18446744073709551616 + M % 18446744073709551616 = M := by omega
    rw [e3] at h1
    rw [h1]
    generalize (M / 18446744073709551616 % b * 18446744073709551616 + M % 18446744073709551616) / b = v at *
    generalize M / 18446744073709551616 / b = u at *
    clear h1 h2 h4 e3 hMd e2 e hM
    omega
  · obtain ⟨M, hM⟩ : ∃ M, A / 18446744073709551616 ^ i = M := ⟨_, rfl⟩
    have e2 : A / 18446744073709551616 ^ (i + 1) = M / 18446744073709551616 := by rw [Nat.pow_succ, ← Nat.div_div_eq_div_mul, hM]
    rw [e2, hM]
    have hMd := Nat.div_add_mod M 18446744073709551616
    obtain ⟨h1, h2⟩ := long_div (M / 18446744073709551616) b 18446744073709551616 (M % 18446744073709551616) hb
    have e3 : M / 18446744073709551616 * 18446744073709551616 + M % 18446744073709551616 = M := by omega
    rw [e3] at h2
    exact h2.symm
theorem divWord_zero_pf (A : Option Addr) (n c : Nat) (w : World) : Calls Tryz.prog 75 #[.slice A n c, .int .u64 0] w (OutWordE w) := by
  go_enter Tryz.func75, Tryz.ntmps75
  go_wp2_with fail
  have bq := Boxed.new (w.alloc (.cells #[.int .u64 0] 27)) 33 (.slice none 0 0)
  have br := Boxed.new ((w.alloc (.cells #[.int .u64 0] 27)).alloc (.cells #[.slice none 0 0] 33)) 27 (.int .u64 0)
  simp only [World.size_alloc] at bq br
  have hc1 := (bq.alloc (.cells #[.int .u64 0] 27)).cell
  have hc2 := br.cell
  refine bodyPost_ret (v := .tuple #[.slice none 0 0, .int .u64 0, .int .i64 5]) ?_ rfl ?_
  · simp [results, Tryz.f75, go_sem, hc1, hc2]
  · exact ⟨none, 0, rfl, (((Below.refl _ w).alloc (Nat.le_refl _) _).alloc (by simp) _).alloc (by simp; omega) _⟩
theorem dtrim_own (w : World) (base c k N : Nat) (A : Option Addr) (h : w.ownsRow base 27 1 (.slice A k c) k (ints .u64 (words k N))) (hN : N < 18446744073709551616 ^ k) (hk : k ≤ 1000000) (hc : k ≤ c) :
    Calls Tryz.prog 105 #[.slice A k c] w fun e w' => e = .returned (.slice A ((nbits N + 63) / 64) c) ∧ w = w' := by
  have T := dtrim_any A c (words k N) w w.heap.size (Rd.own h) (words_words _ _) (by rw [length_words]; exact hk) (by rw [length_words]; exact hc)
  rwa [length_words, tl_words k N hN] at T
/-- Between two rounds of Word: so many places are made, and what is left. -/
structure WordMid (w : World) (n x r : Nat) (Q : List Nat) (W : World) : Prop where
  bx : Boxed W w.heap.size 27 (.int .u64 (x : Int))
  q : Boxed W (w.heap.size + 1) 33 (.slice (some ⟨w.heap.size + 1 + 1 + 1, 0, none⟩) n n)
  r : Boxed W (w.heap.size + 1 + 1) 27 (.int .u64 (r : Int))
  row : W.ownsRow (w.heap.size + 1 + 1 + 1) 27 1 (.slice (some ⟨w.heap.size + 1 + 1 + 1, 0, none⟩) n n) n (ints .u64 Q)
  below : Below w.heap.size w W
  size : w.heap.size + 5 ≤ W.heap.size
theorem WordMid.kept {w W W' : World} {n x r : Nat} {Q : List Nat} {row : Option Nat} (h : WordMid w n x r Q W) (hg : W.grownBy W' row) (hr : ∀ k, row = some k → w.heap.size + 5 ≤ k) : WordMid w n x r Q W' where
  bx := h.bx.kept hg (by intro e; have := hr _ e.symm; omega)
  q := h.q.kept hg (by intro e; have := hr _ e.symm; omega)
  r := h.r.kept hg (by intro e; have := hr _ e.symm; omega)
  row := h.row.kept hg (.inr (by intro e; have := hr _ e.symm; dsimp only at this; omega))
  below := h.below.grown hg h.below.size (fun k e => by have := hr k e; omega)
  size := Nat.le_trans h.size hg.size
theorem WordMid.step {w W : World} {n x r r' : Nat} {Q : List Nat} (h : WordMid w n x r Q W) (i d : Nat) :
    WordMid w n x r' (Q.set i d) ((W.setCell ⟨w.heap.size + 1 + 1 + 1, i, none⟩ (.int .u64 (d : Int))).setCell ⟨w.heap.size + 1 + 1, 0, none⟩ (.int .u64 (r' : Int))) ∧
    (∀ p, w.heap.size + 4 ≤ p → ((W.setCell ⟨w.heap.size + 1 + 1 + 1, i, none⟩ (.int .u64 (d : Int))).setCell ⟨w.heap.size + 1 + 1, 0, none⟩ (.int .u64 (r' : Int))).heap[p]? = W.heap[p]?) := by
  have g1 := grownBy_setCell' W (w.heap.size + 1 + 1) (.int .u64 (r' : Int))
  have hst := h.row.stored i (.int .u64 (d : Int))
  rw [ints_set] at hst
  obtain ⟨hrow, hg⟩ := hst
  have g2 := grownBy_setCell' (W.setCell ⟨w.heap.size + 1 + 1 + 1, i, none⟩ (.int .u64 (d : Int))) (w.heap.size + 1 + 1) (.int .u64 (r' : Int))
  have hs1 : (W.setCell ⟨w.heap.size + 1 + 1 + 1, i, none⟩ (.int .u64 (d : Int))).heap.size = W.heap.size := by simp [World.setCell]
  have hs2 : ((W.setCell ⟨w.heap.size + 1 + 1 + 1, i, none⟩ (.int .u64 (d : Int))).setCell ⟨w.heap.size + 1 + 1, 0, none⟩ (.int .u64 (r' : Int))).heap.size = W.heap.size := by simp [World.setCell]
  refine ⟨⟨(h.bx.kept hg (by simp; omega)).kept g2 (by simp; omega), (h.q.kept hg (by simp)).kept g2 (by simp), (h.r.kept hg (by simp)).set _, hrow.kept g2 (.inr (by simp [Value.ownBlock])), (h.below.setCell (p := ⟨w.heap.size + 1 + 1 + 1, i, none⟩) (by simp; omega) _).setCell (p := ⟨w.heap.size + 1 + 1, 0, none⟩) (by simp; omega) _, by rw [hs2]; exact h.size⟩, ?_⟩
  intro p hp
  rcases Nat.lt_or_ge p W.heap.size with hlt | hge
  · rw [g2.block p (by rw [hs1]; exact hlt) (by simp; omega), hg.block p hlt (by simp; omega)]
  · rw [Array.getElem?_eq_none (by rw [hs2]; exact hge), Array.getElem?_eq_none hge]
set_option maxRecDepth 100000 in
set_option maxHeartbeats 2000000 in
theorem divWord_ok_pf (A : Option Addr) (n c x : Nat) (a : List Nat) (w : World) (hn : a.length = n) (hr : Rd .u64 w w.heap.size A a) (hw : Words a) (hl : n ≤ 10000) (_ : n ≤ c) (hx : 0 < x) (hx2 : x < 18446744073709551616) :
    Calls Tryz.prog 75 #[.slice A n c, .int .u64 (x : Int)] w (OutWord (natOf a) x w) := by
  have hx0 : ((x : Int) == 0) = false := by simp; omega
  have Hn := Lib.hid hn
  have hmk := fun u => make_row n u (by omega)
  clear hn
  refine (callsIn_wide (n := 9)).1 ?_
  refine callsIn_of_wp_marks Tryz.func75 rfl trivial ?_ rfl
  simp only [Tryz.ntmps75, List.size_toArray, List.length_cons, List.length_nil, Nat.reduceAdd, Nat.reduceSub, Array.replicate_succ, Array.replicate_zero, List.push_toArray, List.append_toArray, List.nil_append, List.cons_append]
  gi_wp2
  refine ⟨trivial, ?_⟩
  refine (back_in _ _ _ _ _).mono ?_
  rintro e w' ⟨rfl, rfl⟩
  have hown0 := row_zero (((w.alloc (.cells #[.int .u64 (x : Int)] 27)).alloc (.cells #[.slice (some ⟨w.heap.size + 1 + 1 + 1, 0, none⟩) n n] 33)).alloc (.cells #[.int .u64 0] 27)) n (by omega)
  have b1 := Boxed.new w 27 (.int .u64 (x : Int))
  have b2 := Boxed.new (w.alloc (.cells #[.int .u64 (x : Int)] 27)) 33 (.slice (some ⟨w.heap.size + 1 + 1 + 1, 0, none⟩) n n)
  have b3 := Boxed.new ((w.alloc (.cells #[.int .u64 (x : Int)] 27)).alloc (.cells #[.slice (some ⟨w.heap.size + 1 + 1 + 1, 0, none⟩) n n] 33)) 27 (.int .u64 0)
  have b5 := Boxed.new ((((w.alloc (.cells #[.int .u64 (x : Int)] 27)).alloc (.cells #[.slice (some ⟨w.heap.size + 1 + 1 + 1, 0, none⟩) n n] 33)).alloc (.cells #[.int .u64 0] 27)).alloc (.cells (Array.replicate n (Value.int .u64 0)) 27)) 33 (.slice A n c)
  simp only [World.size_alloc] at hown0 b2 b3 b5
  obtain ⟨E, hE⟩ : ∃ E, ((((w.alloc (.cells #[.int .u64 (x : Int)] 27)).alloc (.cells #[.slice (some ⟨w.heap.size + 1 + 1 + 1, 0, none⟩) n n] 33)).alloc (.cells #[.int .u64 0] 27)).alloc (.cells (Array.replicate n (Value.int .u64 0)) 27)).alloc (.cells #[.slice A n c] 33) = E := ⟨_, rfl⟩
  have hEs : E.heap.size = w.heap.size + 5 := by rw [← hE]; simp
  have hB : Below w.heap.size w E := by rw [← hE]; exact (((((Below.refl _ w).alloc (Nat.le_refl _) _).alloc (by simp) _).alloc (by simp; omega) _).alloc (by simp; omega) _).alloc (by simp; omega) _
  have hM0 : WordMid w n x 0 (words n 0) E := by
    rw [← hE]
    exact ⟨(((b1.alloc _).alloc _).alloc _).alloc _, ((b2.alloc _).alloc _).alloc _, (b3.alloc _).alloc _, hown0.alloc _, by rw [hE]; exact hB, by rw [hE, hEs]; omega⟩
  have bA : Boxed E (w.heap.size + 1 + 1 + 1 + 1) 33 (.slice A n c) := by rw [← hE]; exact b5
  have hlt := natOf_lt a hw
  rw [Hn.out] at hlt
  have hs0 : words n 0 = tops n (natOf a / x) n ∧ 0 = natOf a / 18446744073709551616 ^ n % x := ⟨by rw [tops_start, words_none], by rw [Nat.div_eq_of_lt hlt, Nat.zero_mod]⟩
  have HEs := Lib.hid hEs
  have HS0 := Lib.hid hs0
  have Hlt := Lib.hid hlt
  clear hown0 b1 b2 b3 b5 hmk hs0 hlt
  gi_wp2
  clear hE
  refine wpIn_rangeFunc_ownG rfl (by omega) (gf := 69) (lb := #[.pointer (some ⟨w.heap.size + 1 + 1 + 1 + 1, 0, none⟩)]) rfl trivial (enters_of Tryz.func69 (by kernel_rfl) rfl)
    (backR_stops 8 (by omega) (w.heap.size + 1 + 1 + 1 + 1) n c A (fun l => l = a) (by omega) E bA ⟨a, Hn.out, hw, rfl, (hr.below hB).more hB.size⟩)
    KpR.t (KpR.b (by omega)) (Below.refl _ _) (fun _ => rfl)
    (fun pre W => ∃ (Q : List Nat) (r : Nat), Q.length = n ∧ Words Q ∧ r < x ∧ WordMid w n x r Q W ∧ (Downs (m := n) (fun l => l = a) pre → Q = tops n (natOf a / x) (n - pre.length) ∧ r = natOf a / 18446744073709551616 ^ (n - pre.length) % x))
    (fun _ _ _ => False)
    (fun s X Y row hs hg hr => by
      obtain ⟨Q, r, h1, h2, h3, h4, h5⟩ := hs
      exact ⟨Q, r, h1, h2, h3, h4.kept hg (fun k e => by have := (hr k e).1; omega), h5⟩)
    (fun _ _ _ _ _ hs _ _ => hs)
    ⟨words n 0, 0, length_words _ _, words_words _ _, hx, hM0, fun _ => by simpa using HS0.out⟩
    (fun y => { tmps := #[.slice A n c, .int .u64 (x : Int), undef, .pointer (some ⟨w.heap.size, 0, none⟩), .pointer (some ⟨w.heap.size + 1, 0, none⟩), .pointer (some ⟨w.heap.size + 1 + 1, 0, none⟩), .int .i64 0, .int .i64 (y.1.1 : Int), .int .u64 (y.1.2 : Int),
      .int .u64 (x : Int), .bool false, .slice A n c, .int .i64 (n : Int), .slice (some ⟨w.heap.size + 1 + 1 + 1, 0, none⟩) n n, .slice A n c, .func (.func 69) #[] #[.pointer (some ⟨w.heap.size + 1 + 1 + 1 + 1, 0, none⟩)],
      .int .i64 (y.1.1 : Int), .int .u64 (y.1.2 : Int), undef, undef, undef, undef, undef, undef, undef, undef, undef, undef, undef, undef, undef], defers := [] }) ?assign ?body ?done ?stop
  case assign =>
    intro l x W K hK
    gi_wp2
    exact hK
  case body =>
    rintro l pre y W ⟨Q, r, hQl, hQw, hrx, hM, hP⟩ hlen
    have hi := y.2.1
    have hwd := y.2.2
    obtain ⟨qd, hqd⟩ : ∃ qd, (r * 18446744073709551616 + y.1.2) / x = qd := ⟨_, rfl⟩
    obtain ⟨rd, hrd⟩ : ∃ rd, (r * 18446744073709551616 + y.1.2) % x = rd := ⟨_, rfl⟩
    have hps := place_step r x 18446744073709551616 y.1.2 hx hrx hwd
    rw [hqd, hrd] at hps
    have D := fun u => div64_any r y.1.2 x u hrx hx2 hwd
    rw [hqd, hrd] at D
    have hbc := hM.bx.cell
    have hqc := hM.q.cell
    have hrc := hM.r.cell
    have hrf := hM.r.frozen
    have hco : W.cell? ⟨w.heap.size + 1 + 1 + 1, y.1.1, none⟩ = some (.int .u64 (nth Q y.1.1 : Int)) := by rw [hM.row.cellAt _ (by omega), ints_get _ _ _ (by omega)]
    have hfo : W.frozen? ⟨w.heap.size + 1 + 1 + 1, y.1.1, none⟩ = false := hM.row.frozenAt _
    have HD := Lib.hid D
    have HP := Lib.hid hP
    have HPS := Lib.hid hps
    have HM := Lib.hid hM
    have HR := Lib.hid hr
    have HLN := Lib.hid hlen
    have HQD := Lib.hid hqd
    have HRD := Lib.hid hrd
    have hmx : Tryz.prog.follows .mixedOrders = true := by kernel_rfl
    clear D hP hps hM hqd hrd hx0 hlen hr hB hM0 bA
    gi_wp2
    refine wpIn_region_any hmx ?_
    change wpAnyIn _ _ _ _ _ _ _ _ _ (World.drew _)
    refine anyG.toAny (s := 11) (B := fun W' => W'.cell? ⟨w.heap.size + 1, 0, none⟩ = some (.slice (some ⟨w.heap.size + 1 + 1 + 1, 0, none⟩) n n) ∧ W'.cell? ⟨w.heap.size + 1 + 1, 0, none⟩ = some (.int .u64 (r : Int)) ∧ W'.cell? ⟨w.heap.size, 0, none⟩ = some (.int .u64 (x : Int))) ?_
    refine anyG_take (i := 0) (v := .slice (some ⟨w.heap.size + 1 + 1 + 1, 0, none⟩) n n) rfl (by kernel_rfl) (by kernel_rfl) (by kernel_rfl) (by kernel_rfl) (by kernel_rfl) (by kernel_rfl) (fun _ _ _ h => h) ⟨by rfl, fun W' ⟨g1, g2, g3⟩ => ⟨by go_simp, by rfl⟩⟩ ?_
    refine anyG_take (i := 1) (v := .int .i64 (y.1.1 : Int)) rfl (by kernel_rfl) (by kernel_rfl) (by kernel_rfl) (by kernel_rfl) (by kernel_rfl) (by kernel_rfl) (fun _ _ _ h => h) ⟨by rfl, fun W' ⟨g1, g2, g3⟩ => ⟨by go_simp, by rfl⟩⟩ ?_
    refine anyG_take (i := 2) (v := .int .u64 (r : Int)) rfl (by kernel_rfl) (by kernel_rfl) (by kernel_rfl) (by kernel_rfl) (by kernel_rfl) (by kernel_rfl) (fun _ _ _ h => h) ⟨by rfl, fun W' ⟨g1, g2, g3⟩ => ⟨by go_simp, by rfl⟩⟩ ?_
    refine anyG_take (i := 3) (v := .int .u64 (y.1.2 : Int)) rfl (by kernel_rfl) (by kernel_rfl) (by kernel_rfl) (by kernel_rfl) (by kernel_rfl) (by kernel_rfl) (fun _ _ _ h => h) ⟨by rfl, fun W' ⟨g1, g2, g3⟩ => ⟨by go_simp, by rfl⟩⟩ ?_
    refine anyG_take (i := 4) (v := .int .u64 (x : Int)) rfl (by kernel_rfl) (by kernel_rfl) (by kernel_rfl) (by kernel_rfl) (by kernel_rfl) (by kernel_rfl) (fun _ _ _ h => h) ⟨by rfl, fun W' ⟨g1, g2, g3⟩ => ⟨by go_simp, by rfl⟩⟩ ?_
    refine anyG_one (i := 5) (by kernel_rfl) rfl (fun _ => ⟨hqc, hrc, hbc⟩) (fun K hK => ?_)
    go_simp
    refine ⟨trivial, ?_⟩
    refine (CallsIn.inRound l (callsIn_wide.2 (HD.out _))).mono ?_
    rintro e w' ⟨rfl, k, rfl⟩
    refine hK _ _ ?_
    clear hK K
    refine anyG_take (i := 6) (v := .tuple #[.int .u64 (qd : Int), .int .u64 (rd : Int)]) rfl (by kernel_rfl) (by kernel_rfl) (by kernel_rfl) (by kernel_rfl) (by kernel_rfl) (by kernel_rfl) (fun _ _ _ h => h) ⟨by rfl, fun W' ⟨g1, g2, g3⟩ => ⟨by go_simp, by rfl⟩⟩ ?_
    refine anyG_take (i := 7) (v := .int .u64 (qd : Int)) rfl (by kernel_rfl) (by kernel_rfl) (by kernel_rfl) (by kernel_rfl) (by kernel_rfl) (by kernel_rfl) (fun _ _ _ h => h) ⟨by rfl, fun W' ⟨g1, g2, g3⟩ => ⟨by go_simp, by rfl⟩⟩ ?_
    refine anyG_take (i := 8) (v := .int .u64 (rd : Int)) rfl (by kernel_rfl) (by kernel_rfl) (by kernel_rfl) (by kernel_rfl) (by kernel_rfl) (by kernel_rfl) (fun _ _ _ h => h) ⟨by rfl, fun W' ⟨g1, g2, g3⟩ => ⟨by go_simp, by rfl⟩⟩ ?_
    refine anyG_take (i := 9) (v := .pointer (some ⟨w.heap.size + 1 + 1 + 1, y.1.1, none⟩)) rfl (by kernel_rfl) (by kernel_rfl) (by kernel_rfl) (by kernel_rfl) (by kernel_rfl) (by kernel_rfl) (fun _ _ _ h => h) ⟨by rfl, fun W' ⟨g1, g2, g3⟩ => ⟨by go_simp, by rfl⟩⟩ ?_
    have hco1 : (W.drewN (1 + k)).cell? ⟨w.heap.size + 1 + 1 + 1, y.1.1, none⟩ = some (.int .u64 (nth Q y.1.1 : Int)) := hco
    have hfo1 : (W.drewN (1 + k)).frozen? ⟨w.heap.size + 1 + 1 + 1, y.1.1, none⟩ = false := hfo
    have hM1 : WordMid w n x r Q (W.drewN (1 + k)) := HM.out.kept (Drawn.grown W (1 + k)) (fun _ e => by cases e)
    obtain ⟨hM2, hsame⟩ := hM1.step (r' := rd) y.1.1 qd
    have hK1 : KeepsOthers W (W.drewN (1 + k)) := KeepsOthers.of_grownBy (Drawn.grown W (1 + k)) (fun j o e => by cases e)
    have hst1 := (hM1.row.stored y.1.1 (.int .u64 (qd : Int))).2
    have hq2 : ((W.drewN (1 + k)).setCell ⟨w.heap.size + 1 + 1 + 1, y.1.1, none⟩ (.int .u64 (qd : Int))).cell? ⟨w.heap.size + 1, 0, none⟩ = some (.slice (some ⟨w.heap.size + 1 + 1 + 1, 0, none⟩) n n) := (hM1.q.kept hst1 (by simp)).cell
    have hr2 := (hM1.r.kept hst1 (by simp)).cell
    have hrf2 := (hM1.r.kept hst1 (by simp)).frozen
    have hb2 := (hM1.bx.kept hst1 (by simp; omega)).cell
    have HF := Lib.hid (show KeepsFrom E.heap.size W (((W.drewN (1 + k)).setCell ⟨w.heap.size + 1 + 1 + 1, y.1.1, none⟩ (.int .u64 (qd : Int))).setCell ⟨w.heap.size + 1 + 1, 0, none⟩ (.int .u64 (rd : Int))) ∧
        KpR (w.heap.size + 1 + 1 + 1 + 1) A n (fun l => l = a) W (((W.drewN (1 + k)).setCell ⟨w.heap.size + 1 + 1 + 1, y.1.1, none⟩ (.int .u64 (qd : Int))).setCell ⟨w.heap.size + 1 + 1, 0, none⟩ (.int .u64 (rd : Int))) ∧
        ∃ (Q : List Nat) (r : Nat), Q.length = n ∧ Words Q ∧ r < x ∧ WordMid w n x r Q (((W.drewN (1 + k)).setCell ⟨w.heap.size + 1 + 1 + 1, y.1.1, none⟩ (.int .u64 (qd : Int))).setCell ⟨w.heap.size + 1 + 1, 0, none⟩ (.int .u64 (rd : Int))) ∧
          (Downs (m := n) (fun l => l = a) (pre ++ [y]) → Q = tops n (natOf a / x) (n - (pre ++ [y]).length) ∧ r = natOf a / 18446744073709551616 ^ (n - (pre ++ [y]).length) % x) by
      refine ⟨((hK1.trans (KeepsOthers.setCell _ _ _)).trans (KeepsOthers.setCell _ _ _)).from _, ⟨hsame _ (by omega), fun _ => ⟨a, Hn.out, hw, rfl, (HR.out.below hM2.below).more hM2.below.size⟩⟩, Q.set y.1.1 qd, rd, by rw [List.length_set, hQl], words_put _ hQw _ _ HPS.out.1, HPS.out.2, hM2, fun hds => ?_⟩
      obtain ⟨hd0, hidx, l, _, _, rfl, hv⟩ := hds.ini
      obtain ⟨e1, e2⟩ := HP.out hd0
      have hlen := HLN.out
      rw [show n - pre.length = y.1.1 + 1 by omega] at e1 e2
      rw [show n - (pre ++ [y]).length = y.1.1 by rw [List.length_append, List.length_singleton]; omega]
      obtain ⟨q', r', f1, f2, f3, f4⟩ := word_place (natOf l) x y.1.1 hx
      rw [← e2, ← nth_natOf l hw, ← hv] at f1 f2
      have g1 : qd = q' := by rw [← HQD.out, f1]
      have g2 : rd = r' := by rw [← HRD.out, f2]
      exact ⟨by rw [e1, g1, f3]; exact tops_set n (natOf l / x) y.1.1 hi, by rw [g2, f4]⟩)
    refine anyG_one (i := 10) (by kernel_rfl) rfl (fun _ => ⟨hqc, hrc, hbc⟩) (fun K hK => ?_)
    clear hM1 hM2 hsame hK1 hst1
    go_simp
    refine hK _ _ ?_
    clear hK K
    refine anyG_one (i := 11) (by kernel_rfl) rfl (fun _ => ⟨hq2, hr2, hb2⟩) (fun K hK => ?_)
    go_simp
    refine hK _ _ ?_
    clear hK K
    refine anyG_done (by kernel_rfl) (by kernel_rfl) ?_
    rename_i QQ
    simp only [Exit.inBlock, QQ]
    exact HF.out
  case done =>
    rintro D ys W hD ⟨hds, hyl⟩ ⟨Q, r, hQl, hQw, hrx, hM, hP⟩ hK
    obtain ⟨rfl, rfl⟩ := hP hds
    rw [hyl, Nat.sub_self, tops_end, Nat.pow_zero, Nat.div_one] at hM
    rw [hyl, Nat.sub_self, tops_end] at hQl
    have hlN : natOf a / x < 18446744073709551616 ^ n := Nat.lt_of_le_of_lt (Nat.div_le_self _ _) Hlt.out
    have hqc := hM.q.cell
    have hqf := hM.q.frozen
    have hrc := hM.r.cell
    have hrf := hM.r.frozen
    have hrow1 : W.drew.ownsRow (w.heap.size + 1 + 1 + 1) 27 1 (.slice (some ⟨w.heap.size + 1 + 1 + 1, 0, none⟩) n n) n (ints .u64 (words n (natOf a / x))) := (Drawn.more 1).own hM.row
    have HT := Lib.hid (dtrim_own W.drew _ n n (natOf a / x) _ hrow1 hlN (by omega) (Nat.le_refl _))
    have HM := Lib.hid hM
    have HK := Lib.hid hK
    have hmx : Tryz.prog.follows .mixedOrders = true := by kernel_rfl
    have hD2 : w.heap.size + 5 ≤ D := by have := HEs.out; omega
    clear hP hds hK hM hrow1 hQl hQw hrx hr hM0 bA hB hx0
    gi_wp2
    refine only_end ?_
    gi_region_with_o ((refine ⟨trivial, ?_⟩; gi_at_call 105; (with_reducible refine (callsIn_wide.2 HT.out).mono ?_); rintro e w' ⟨rfl, rfl⟩))
    all_goals
      obtain ⟨T, hT⟩ : ∃ T, (nbits (natOf a / x) + 63) / 64 = T := ⟨_, rfl⟩
      have hTn := tl_le (words n (natOf a / x)) (words_words _ _)
      rw [length_words, tl_words _ _ hlN, hT] at hTn
      have hrow := own_trim HM.out.row hlN
      rw [hT] at hrow
      have g1 := grownBy_setCell' W.drew (w.heap.size + 1) (.slice (some ⟨w.heap.size + 1 + 1 + 1, 0, none⟩) T n)
      have g2 := grownBy_setCell' (W.drew.setCell ⟨w.heap.size + 1, 0, none⟩ (.slice (some ⟨w.heap.size + 1 + 1 + 1, 0, none⟩) T n)) (w.heap.size + 1 + 1) (.int .u64 ((natOf a : Int) % (x : Int)))
      have bq3 := ((HM.out.q.kept (Drawn.grown W 1) (by simp)).set (.slice (some ⟨w.heap.size + 1 + 1 + 1, 0, none⟩) T n)).kept g2 (by simp)
      have br3 := ((HM.out.r.kept (Drawn.grown W 1) (by simp)).kept g1 (by simp)).set (.int .u64 ((natOf a : Int) % (x : Int)))
      have hrow3 := (((Drawn.more 1).own hrow).kept g1 (.inr (by simp [Value.ownBlock] <;> omega))).kept g2 (.inr (by simp [Value.ownBlock] <;> omega))
      have hB3 := ((HM.out.below.trans ((Drawn.more 1).below _)).setCell (p := ⟨w.heap.size + 1, 0, none⟩) (by simp) (.slice (some ⟨w.heap.size + 1 + 1 + 1, 0, none⟩) T n)).setCell (p := ⟨w.heap.size + 1 + 1, 0, none⟩) (by simp; try omega) (.int .u64 ((natOf a : Int) % (x : Int)))
      have hK3 := (((KeepsOthers.of_grownBy (Drawn.grown W 1) (fun j o e => by cases e)).trans (KeepsOthers.setCell _ ⟨w.heap.size + 1, 0, none⟩ (.slice (some ⟨w.heap.size + 1 + 1 + 1, 0, none⟩) T n))).trans (KeepsOthers.setCell _ ⟨w.heap.size + 1 + 1, 0, none⟩ (.int .u64 ((natOf a : Int) % (x : Int))))).same D _ HK.out rfl
      rw [hT]
      have HBq := Lib.hid bq3
      have HBr := Lib.hid br3
      have HRW := Lib.hid hrow3
      have HB3 := Lib.hid hB3
      have HK3 := Lib.hid hK3
      clear g1 g2 bq3 br3 hrow3 hB3 hK3 hrow
      gi_wp2
      refine ⟨by simp, .inl ⟨_, _, rfl, run_takeDeferred HK3.out, ?_⟩⟩
      have hcq : (((W.setCell ⟨w.heap.size + 1, 0, none⟩ (.slice (some ⟨w.heap.size + 1 + 1 + 1, 0, none⟩) T n)).setCell ⟨w.heap.size + 1 + 1, 0, none⟩ (.int .u64 ((natOf a : Int) % (x : Int)))).drew.putObj D (.deferred none)).cell? ⟨w.heap.size + 1, 0, none⟩ = some (.slice (some ⟨w.heap.size + 1 + 1 + 1, 0, none⟩) T n) := cell_kept HBq.out.cell (grownBy_putObj' _ D (.deferred none)) (fun r e => by cases e; exact ⟨_, HK3.out, rfl⟩)
      have hcr : (((W.setCell ⟨w.heap.size + 1, 0, none⟩ (.slice (some ⟨w.heap.size + 1 + 1 + 1, 0, none⟩) T n)).setCell ⟨w.heap.size + 1 + 1, 0, none⟩ (.int .u64 ((natOf a : Int) % (x : Int)))).drew.putObj D (.deferred none)).cell? ⟨w.heap.size + 1 + 1, 0, none⟩ = some (.int .u64 ((natOf a : Int) % (x : Int))) := cell_kept HBr.out.cell (grownBy_putObj' _ D (.deferred none)) (fun r e => by cases e; exact ⟨_, HK3.out, rfl⟩)
      have hown := ownsRow_putObj HRW.out (.deferred none) HK3.out rfl
      have hBB := HB3.out.trans (belowK_b (w := w) (Nat.le_refl _) _ D _ (.deferred none) (by omega) HK3.out rfl rfl)
      refine ⟨.tuple #[.slice (some ⟨w.heap.size + 1 + 1 + 1, 0, none⟩) T n, .int .u64 ((natOf a : Int) % (x : Int)), .int .i64 0], by simp [results, Tryz.f75, go_sem, hcq, hcr], ?_⟩
      exact ⟨some ⟨w.heap.size + 1 + 1 + 1, 0, none⟩, T, n, by simp, ⟨by rw [← hT]; exact length_wd _, by omega, Rd.own hown, hTn⟩, hBB⟩
  case stop =>
    rintro D c pre W _ _ h _
    exact h.elim
end Go.Proofs.YtjpfcdgaepdcdaaGreat

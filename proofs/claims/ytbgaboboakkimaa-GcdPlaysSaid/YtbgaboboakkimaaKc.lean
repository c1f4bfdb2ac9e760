/- Several texts in one; each begins with a remark that says what it shows and on which conditions. -/
import Derived.Test.YtbgaboboakkimaaKb
import Derived.RangeFuncBox
import Derived.BigQuiet
import Derived.IntWalk
import Derived.Deep.RegionWith
/- div.Word: by one word. Conditions: as typed (a length that fits a machine). -/
namespace Go.Proofs.Ytbgaboboakkimaa
open Go.RowKit Go.Shelf
set_option maxRecDepth 20000
attribute [local go_sem] Oper.semAt_some
/-- The words of a number from place i on, and noughts below. -/
def tops (n N i : Nat) : List Nat := List.replicate i 0 ++ (words n N).drop i
theorem length_tops (n N i : Nat) (h : i ≤ n) : (tops n N i).length = n := by simp [tops, length_words]; omega
theorem tops_start (n N : Nat) : tops n N n = List.replicate n 0 := by simp [tops, length_words]
theorem tops_end (n N : Nat) : tops n N 0 = words n N := by simp [tops]
theorem tops_set (n N i : Nat) (h : i < n) : (tops n N (i + 1)).set i (N / 18446744073709551616 ^ i % 18446744073709551616) = tops n N i := by
  refine ext_nth _ _ (by rw [List.length_set, length_tops _ _ _ (by omega), length_tops _ _ _ (by omega)]) fun j hj => ?_
  rw [List.length_set, length_tops _ _ _ (by omega)] at hj
  rw [nth_set _ _ _ _ (by rw [length_tops _ _ _ (by omega)]; omega)]
  have h1 : ∀ i, i ≤ n → nth (tops n N i) j = if j < i then 0 else N / 18446744073709551616 ^ j % 18446744073709551616 := fun i hi => by
    have hw := nth_words n N j hj
    unfold nth tops at *
    by_cases hji : j < i
    · simp [List.getElem?_append, hji]
    · rw [List.getD_eq_getElem?_getD, List.getElem?_append_right (by simp; omega)] at *
      rw [if_neg hji, ← hw]
      simp
      congr 2
      omega
  rw [h1 _ (by omega), h1 _ (by omega)]
  by_cases hji : j = i
  · subst hji
    rw [if_pos rfl, if_neg (by omega)]
  · rw [if_neg hji]
    by_cases hlt : j < i
    · rw [if_pos hlt, if_pos (by omega)]
    · rw [if_neg hlt, if_neg (by omega)]
theorem word_place (A b i : Nat) (hb : 0 < b) : ∃ q r, (A / 18446744073709551616 ^ (i + 1) % b * 18446744073709551616 + A / 18446744073709551616 ^ i % 18446744073709551616) / b = q ∧
    (A / 18446744073709551616 ^ (i + 1) % b * 18446744073709551616 + A / 18446744073709551616 ^ i % 18446744073709551616) % b = r ∧ q = A / b / 18446744073709551616 ^ i % 18446744073709551616 ∧ r = A / 18446744073709551616 ^ i % b := by
  refine ⟨_, _, rfl, rfl, ?_, ?_⟩
  · have e : A / b / 18446744073709551616 ^ i = A / 18446744073709551616 ^ i / b := by rw [Nat.div_div_eq_div_mul, Nat.mul_comm, ← Nat.div_div_eq_div_mul]
    rw [e]
    obtain ⟨M, hM⟩ : ∃ M, A / 18446744073709551616 ^ i = M := ⟨_, rfl⟩
    have e2 : A / 18446744073709551616 ^ (i + 1) = M / 18446744073709551616 := by rw [Nat.pow_succ, ← Nat.div_div_eq_div_mul, hM]
    rw [e2, hM]
    have hMd := Nat.div_add_mod M 18446744073709551616
    obtain ⟨h1, h2⟩ := long_div (M / 18446744073709551616) b 18446744073709551616 (M % 18446744073709551616) hb
    obtain ⟨h3, h4⟩ := place_step (M / 18446744073709551616 % b) b 18446744073709551616 (M % 18446744073709551616) hb (Nat.mod_lt _ hb) (Nat.mod_lt _ (by omega))
    have e3 : M / 18446744073709551616 * 18446744073709551616 + M % 18446744073709551616 = M := by omega
    rw [e3] at h1
    rw [h1]
    generalize (M / 18446744073709551616 % b * 18446744073709551616 + M % 18446744073709551616) / b = v at *
    generalize M / 18446744073709551616 / b = u at *
    clear h1 h2 h4 e3 hMd e2 e hM
    omega
  · obtain ⟨M, hM⟩ : ∃ M, A / 18446744073709551616 ^ i = M := ⟨_, rfl⟩
    have e2 : A / 18446744073709551616 ^ (i + 1) = M / 18446744073709551616 := by rw [Nat.pow_succ, ← Nat.div_div_eq_div_mul, hM]
    rw [e2, hM]
    have hMd := Nat.div_add_mod M 18446744073709551616
    obtain ⟨h1, h2⟩ := long_div (M / 18446744073709551616) b 18446744073709551616 (M % 18446744073709551616) hb
    have e3 : M / 18446744073709551616 * 18446744073709551616 + M % 18446744073709551616 = M := by omega
    rw [e3] at h2
    exact h2.symm
theorem divWord_zero_pf (A : Option Addr) (n c : Nat) (w : World) : Calls Try.prog 54 #[.slice A n c, .int .u64 0] w (OutWordE w) := by
  go_enter Try.func54, Try.ntmps54
  go_wp2_with fail
  have bq := Boxed.new (w.alloc (.cells #[.int .u64 0] 33)) 23 (.slice none 0 0)
  have br := Boxed.new ((w.alloc (.cells #[.int .u64 0] 33)).alloc (.cells #[.slice none 0 0] 23)) 33 (.int .u64 0)
  simp only [World.size_alloc] at bq br
  have hc1 := (bq.alloc (.cells #[.int .u64 0] 33)).cell
  have hc2 := br.cell
  refine bodyPost_ret (v := .tuple #[.slice none 0 0, .int .u64 0, .int .i64 5]) ?_ rfl ?_
  · simp [results, Try.f54, go_sem, hc1, hc2]
  · exact ⟨none, 0, rfl, (((Below.refl _ w).alloc (Nat.le_refl _) _).alloc (by simp) _).alloc (by simp; omega) _⟩
theorem dtrim_own (w : World) (base c k N : Nat) (A : Option Addr) (h : w.ownsRow base 33 1 (.slice A k c) k (ints .u64 (words k N))) (hN : N < 18446744073709551616 ^ k) (hk : k ≤ 1000000) (hc : k ≤ c) :
    Calls Try.prog 74 #[.slice A k c] w fun e w' => e = .returned (.slice A ((nbits N + 63) / 64) c) ∧ w = w' := by
  have T := dtrim_any A c (words k N) w w.heap.size (Rd.own h) (words_words _ _) (by rw [length_words]; exact hk) (by rw [length_words]; exact hc)
  rwa [length_words, tl_words k N hN] at T
/-- Between two rounds of Word: so many places are made, and what is left. -/
structure WordMid (w : World) (n x r : Nat) (Q : List Nat) (W : World) : Prop where
  bx : Boxed W w.heap.size 33 (.int .u64 (x : Int))
  q : Boxed W (w.heap.size + 1) 23 (.slice (some ⟨w.heap.size + 1 + 1 + 1, 0, none⟩) n n)
  r : Boxed W (w.heap.size + 1 + 1) 33 (.int .u64 (r : Int))
  row : W.ownsRow (w.heap.size + 1 + 1 + 1) 33 1 (.slice (some ⟨w.heap.size + 1 + 1 + 1, 0, none⟩) n n) n (ints .u64 Q)
  below : Below w.heap.size w W
  size : w.heap.size + 5 ≤ W.heap.size
theorem WordMid.kept {w W W' : World} {n x r : Nat} {Q : List Nat} {row : Option Nat} (h : WordMid w n x r Q W) (hg : W.grownBy W' row) (hr : ∀ k, row = some k → w.heap.size + 5 ≤ k) : WordMid w n x r Q W' where
  bx := h.bx.kept hg (by intro e; have := hr _ e.symm; omega)
  q := h.q.kept hg (by intro e; have := hr _ e.symm; omega)
  r := h.r.kept hg (by intro e; have := hr _ e.symm; omega)
  row := h.row.kept hg (.inr (by intro e; have := hr _ e.symm; dsimp only at this; omega))
  below := h.below.grown hg h.below.size (fun k e => by have := hr k e; omega)
  size := Nat.le_trans h.size hg.size
theorem WordMid.step {w W : World} {n x r r' : Nat} {Q : List Nat} (h : WordMid w n x r Q W) (i d : Nat) :
    WordMid w n x r' (Q.set i d) ((W.setCell ⟨w.heap.size + 1 + 1 + 1, i, none⟩ (.int .u64 (d : Int))).setCell ⟨w.heap.size + 1 + 1, 0, none⟩ (.int .u64 (r' : Int))) ∧
    (∀ p, w.heap.size + 4 ≤ p → ((W.setCell ⟨w.heap.size + 1 + 1 + 1, i, none⟩ (.int .u64 (d : Int))).setCell ⟨w.heap.size + 1 + 1, 0, none⟩ (.int .u64 (r' : Int))).heap[p]? = W.heap[p]?) := by
  have g1 := grownBy_setCell' W (w.heap.size + 1 + 1) (.int .u64 (r' : Int))
  have hst := h.row.stored i (.int .u64 (d : Int))
  rw [ints_set] at hst
  obtain ⟨hrow, hg⟩ := hst
  have g2 := grownBy_setCell' (W.setCell ⟨w.heap.size + 1 + 1 + 1, i, none⟩ (.int .u64 (d : Int))) (w.heap.size + 1 + 1) (.int .u64 (r' : Int))
  have hs1 : (W.setCell ⟨w.heap.size + 1 + 1 + 1, i, none⟩ (.int .u64 (d : Int))).heap.size = W.heap.size := by simp [World.setCell]
  have hs2 : ((W.setCell ⟨w.heap.size + 1 + 1 + 1, i, none⟩ (.int .u64 (d : Int))).setCell ⟨w.heap.size + 1 + 1, 0, none⟩ (.int .u64 (r' : Int))).heap.size = W.heap.size := by simp [World.setCell]
  refine ⟨⟨(h.bx.kept hg (by simp; omega)).kept g2 (by simp; omega), (h.q.kept hg (by simp)).kept g2 (by simp), (h.r.kept hg (by simp)).set _, hrow.kept g2 (.inr (by simp [Value.ownBlock])), (h.below.setCell (p := ⟨w.heap.size + 1 + 1 + 1, i, none⟩) (by simp; omega) _).setCell (p := ⟨w.heap.size + 1 + 1, 0, none⟩) (by simp; omega) _, by rw [hs2]; exact h.size⟩, ?_⟩
  intro p hp
  rcases Nat.lt_or_ge p W.heap.size with hlt | hge
  · rw [g2.block p (by rw [hs1]; exact hlt) (by simp; omega), hg.block p hlt (by simp; omega)]
  · rw [Array.getElem?_eq_none (by rw [hs2]; exact hge), Array.getElem?_eq_none hge]
set_option maxRecDepth 100000 in
set_option maxHeartbeats 2000000 in
theorem divWord_ok_pf (A : Option Addr) (n c x : Nat) (a : List Nat) (w : World) (hn : a.length = n) (hr : Rd .u64 w w.heap.size A a) (hw : Words a) (hl : n ≤ 10000) (_ : n ≤ c) (hx : 0 < x) (hx2 : x < 18446744073709551616) :
    Calls Try.prog 54 #[.slice A n c, .int .u64 (x : Int)] w (OutWord (natOf a) x w) := by
  have hx0 : ((x : Int) == 0) = false := by simp; omega
  have Hn := Lib.hid hn
  have hmk := fun u => make_row n u (by omega)
  clear hn
  refine (callsIn_wide (n := 9)).1 ?_
  refine callsIn_of_wp_marks Try.func54 rfl trivial ?_ rfl
  simp only [Try.ntmps54, List.size_toArray, List.length_cons, List.length_nil, Nat.reduceAdd, Nat.reduceSub, Array.replicate_succ, Array.replicate_zero, List.push_toArray, List.append_toArray, List.nil_append, List.cons_append]
  gi_wp2
  refine ⟨trivial, ?_⟩
  refine (back_in _ _ _ _ _).mono ?_
  rintro e w' ⟨rfl, rfl⟩
  have hown0 := row_zero (((w.alloc (.cells #[.int .u64 (x : Int)] 33)).alloc (.cells #[.slice (some ⟨w.heap.size + 1 + 1 + 1, 0, none⟩) n n] 23)).alloc (.cells #[.int .u64 0] 33)) n (by omega)
  have b1 := Boxed.new w 33 (.int .u64 (x : Int))
  have b2 := Boxed.new (w.alloc (.cells #[.int .u64 (x : Int)] 33)) 23 (.slice (some ⟨w.heap.size + 1 + 1 + 1, 0, none⟩) n n)
  have b3 := Boxed.new ((w.alloc (.cells #[.int .u64 (x : Int)] 33)).alloc (.cells #[.slice (some ⟨w.heap.size + 1 + 1 + 1, 0, none⟩) n n] 23)) 33 (.int .u64 0)
  have b5 := Boxed.new ((((w.alloc (.cells #[.int .u64 (x : Int)] 33)).alloc (.cells #[.slice (some ⟨w.heap.size + 1 + 1 + 1, 0, none⟩) n n] 23)).alloc (.cells #[.int .u64 0] 33)).alloc (.cells (Array.replicate n (Value.int .u64 0)) 33)) 23 (.slice A n c)
  simp only [World.size_alloc] at hown0 b2 b3 b5
  obtain ⟨E, hE⟩ : ∃ E, ((((w.alloc (.cells #[.int .u64 (x : Int)] 33)).alloc (.cells #[.slice (some ⟨w.heap.size + 1 + 1 + 1, 0, none⟩) n n] 23)).alloc (.cells #[.int .u64 0] 33)).alloc (.cells (Array.replicate n (Value.int .u64 0)) 33)).alloc (.cells #[.slice A n c] 23) = E := ⟨_, rfl⟩
  have hEs : E.heap.size = w.heap.size + 5 := by rw [← hE]; simp
  have hB : Below w.heap.size w E := by rw [← hE]; exact (((((Below.refl _ w).alloc (Nat.le_refl _) _).alloc (by simp) _).alloc (by simp; omega) _).alloc (by simp; omega) _).alloc (by simp; omega) _
  have hM0 : WordMid w n x 0 (words n 0) E := by
    rw [← hE]
    exact ⟨(((b1.alloc _).alloc _).alloc _).alloc _, ((b2.alloc _).alloc _).alloc _, (b3.alloc _).alloc _, hown0.alloc _, by rw [hE]; exact hB, by rw [hE, hEs]; omega⟩
  have bA : Boxed E (w.heap.size + 1 + 1 + 1 + 1) 23 (.slice A n c) := by rw [← hE]; exact b5
  have hlt := natOf_lt a hw
  rw [Hn.out] at hlt
  have hs0 : words n 0 = tops n (natOf a / x) n ∧ 0 = natOf a / 18446744073709551616 ^ n % x := ⟨by rw [tops_start, words_none], by rw [Nat.div_eq_of_lt hlt, Nat.zero_mod]⟩
  have HEs := Lib.hid hEs
  have HS0 := Lib.hid hs0
  have Hlt := Lib.hid hlt
  clear hown0 b1 b2 b3 b5 hmk hs0 hlt
  gi_wp2
  clear hE
  refine wpIn_rangeFunc_ownG rfl (by omega) (gf := 71) (lb := #[.pointer (some ⟨w.heap.size + 1 + 1 + 1 + 1, 0, none⟩)]) rfl trivial (enters_of Try.func71 (by kernel_rfl) rfl)
    (backR_stops 8 (by omega) (w.heap.size + 1 + 1 + 1 + 1) n c A (fun l => l = a) (by omega) E bA ⟨a, Hn.out, hw, rfl, (hr.below hB).more hB.size⟩)
    KpR.t (KpR.b (by omega)) (Below.refl _ _) (fun _ => rfl)
    (fun pre W => ∃ (Q : List Nat) (r : Nat), Q.length = n ∧ Words Q ∧ r < x ∧ WordMid w n x r Q W ∧ (Downs (m := n) (fun l => l = a) pre → Q = tops n (natOf a / x) (n - pre.length) ∧ r = natOf a / 18446744073709551616 ^ (n - pre.length) % x))
    (fun _ _ _ => False)
    (fun s X Y row hs hg hr => by
      obtain ⟨Q, r, h1, h2, h3, h4, h5⟩ := hs
      exact ⟨Q, r, h1, h2, h3, h4.kept hg (fun k e => by have := (hr k e).1; omega), h5⟩)
    (fun _ _ _ _ _ hs _ _ => hs)
    ⟨words n 0, 0, length_words _ _, words_words _ _, hx, hM0, fun _ => by simpa using HS0.out⟩
    (fun y => { tmps := #[.slice A n c, .int .u64 (x : Int), undef, .pointer (some ⟨w.heap.size, 0, none⟩), .pointer (some ⟨w.heap.size + 1, 0, none⟩), .pointer (some ⟨w.heap.size + 1 + 1, 0, none⟩), .int .i64 0, .int .i64 (y.1.1 : Int), .int .u64 (y.1.2 : Int),
      .int .u64 (x : Int), .bool false, .slice A n c, .int .i64 (n : Int), .slice (some ⟨w.heap.size + 1 + 1 + 1, 0, none⟩) n n, .slice A n c, .func (.func 71) #[] #[.pointer (some ⟨w.heap.size + 1 + 1 + 1 + 1, 0, none⟩)],
      .int .i64 (y.1.1 : Int), .int .u64 (y.1.2 : Int), undef, undef, undef, undef, undef, undef, undef, undef, undef, undef, undef, undef, undef], defers := [] }) ?assign ?body ?done ?stop
  case assign =>
    intro l x W K hK
    gi_wp2
    exact hK
  case body =>
    rintro l pre y W ⟨Q, r, hQl, hQw, hrx, hM, hP⟩ hlen
    have hi := y.2.1
    have hwd := y.2.2
    obtain ⟨qd, hqd⟩ : ∃ qd, (r * 18446744073709551616 + y.1.2) / x = qd := ⟨_, rfl⟩
    obtain ⟨rd, hrd⟩ : ∃ rd, (r * 18446744073709551616 + y.1.2) % x = rd := ⟨_, rfl⟩
    have hps := place_step r x 18446744073709551616 y.1.2 hx hrx hwd
    rw [hqd, hrd] at hps
    have D := fun u => div64_any r y.1.2 x u hrx hx2 hwd
    rw [hqd, hrd] at D
    have hbc := hM.bx.cell
    have hqc := hM.q.cell
    have hrc := hM.r.cell
    have hrf := hM.r.frozen
    have hco : W.cell? ⟨w.heap.size + 1 + 1 + 1, y.1.1, none⟩ = some (.int .u64 (nth Q y.1.1 : Int)) := by rw [hM.row.cellAt _ (by omega), ints_get _ _ _ (by omega)]
    have hfo : W.frozen? ⟨w.heap.size + 1 + 1 + 1, y.1.1, none⟩ = false := hM.row.frozenAt _
    have HD := Lib.hid D
    have HP := Lib.hid hP
    have HPS := Lib.hid hps
    have HM := Lib.hid hM
    have HR := Lib.hid hr
    have HLN := Lib.hid hlen
    have HQD := Lib.hid hqd
    have HRD := Lib.hid hrd
    have hmx : Try.prog.follows .mixedOrders = true := by kernel_rfl
    clear D hP hps hM hqd hrd hx0 hlen hr hB hM0 bA
    gi_wp2
    refine wpIn_region_any hmx ?_
    change wpAnyIn _ _ _ _ _ _ _ _ _ (World.drew _)
    refine anyG.toAny (s := 11) (B := fun W' => W'.cell? ⟨w.heap.size + 1, 0, none⟩ = some (.slice (some ⟨w.heap.size + 1 + 1 + 1, 0, none⟩) n n) ∧ W'.cell? ⟨w.heap.size + 1 + 1, 0, none⟩ = some (.int .u64 (r : Int)) ∧ W'.cell? ⟨w.heap.size, 0, none⟩ = some (.int .u64 (x : Int))) ?_
    refine anyG_take (i := 0) (v := .slice (some ⟨w.heap.size + 1 + 1 + 1, 0, none⟩) n n) rfl (by kernel_rfl) (by kernel_rfl) (by kernel_rfl) (by kernel_rfl) (by kernel_rfl) (by kernel_rfl) (fun _ _ _ h => h) ⟨by rfl, fun W' ⟨g1, g2, g3⟩ => ⟨by go_simp, by rfl⟩⟩ ?_
    refine anyG_take (i := 1) (v := .int .i64 (y.1.1 : Int)) rfl (by kernel_rfl) (by kernel_rfl) (by kernel_rfl) (by kernel_rfl) (by kernel_rfl) (by kernel_rfl) (fun _ _ _ h => h) ⟨by rfl, fun W' ⟨g1, g2, g3⟩ => ⟨by go_simp, by rfl⟩⟩ ?_
    refine anyG_take (i := 2) (v := .int .u64 (r : Int)) rfl (by kernel_rfl) (by kernel_rfl) (by kernel_rfl) (by kernel_rfl) (by kernel_rfl) (by kernel_rfl) (fun _ _ _ h => h) ⟨by rfl, fun W' ⟨g1, g2, g3⟩ => ⟨by go_simp, by rfl⟩⟩ ?_
    refine anyG_take (i := 3) (v := .int .u64 (y.1.2 : Int)) rfl (by kernel_rfl) (by kernel_rfl) (by kernel_rfl) (by kernel_rfl) (by kernel_rfl) (by kernel_rfl) (fun _ _ _ h => h) ⟨by rfl, fun W' ⟨g1, g2, g3⟩ => ⟨by go_simp, by rfl⟩⟩ ?_
    refine anyG_take (i := 4) (v := .int .u64 (x : Int)) rfl (by kernel_rfl) (by kernel_rfl) (by kernel_rfl) (by kernel_rfl) (by kernel_rfl) (by kernel_rfl) (fun _ _ _ h => h) ⟨by rfl, fun W' ⟨g1, g2, g3⟩ => ⟨by go_simp, by rfl⟩⟩ ?_
    refine anyG_one (i := 5) (by kernel_rfl) rfl (fun _ => ⟨hqc, hrc, hbc⟩) (fun K hK => ?_)
    go_simp
    refine ⟨trivial, ?_⟩
    refine (CallsIn.inRound l (callsIn_wide.2 (HD.out _))).mono ?_
    rintro e w' ⟨rfl, k, rfl⟩
    refine hK _ _ ?_
    clear hK K
    refine anyG_take (i := 6) (v := .tuple #[.int .u64 (qd : Int), .int .u64 (rd : Int)]) rfl (by kernel_rfl) (by kernel_rfl) (by kernel_rfl) (by kernel_rfl) (by kernel_rfl) (by kernel_rfl) (fun _ _ _ h => h) ⟨by rfl, fun W' ⟨g1, g2, g3⟩ => ⟨by go_simp, by rfl⟩⟩ ?_
    refine anyG_take (i := 7) (v := .int .u64 (qd : Int)) rfl (by kernel_rfl) (by kernel_rfl) (by kernel_rfl) (by kernel_rfl) (by kernel_rfl) (by kernel_rfl) (fun _ _ _ h => h) ⟨by rfl, fun W' ⟨g1, g2, g3⟩ => ⟨by go_simp, by rfl⟩⟩ ?_
    refine anyG_take (i := 8) (v := .int .u64 (rd : Int)) rfl (by kernel_rfl) (by kernel_rfl) (by kernel_rfl) (by kernel_rfl) (by kernel_rfl) (by kernel_rfl) (fun _ _ _ h => h) ⟨by rfl, fun W' ⟨g1, g2, g3⟩ => ⟨by go_simp, by rfl⟩⟩ ?_
    refine anyG_take (i := 9) (v := .pointer (some ⟨w.heap.size + 1 + 1 + 1, y.1.1, none⟩)) rfl (by kernel_rfl) (by kernel_rfl) (by kernel_rfl) (by kernel_rfl) (by kernel_rfl) (by kernel_rfl) (fun _ _ _ h => h) ⟨by rfl, fun W' ⟨g1, g2, g3⟩ => ⟨by go_simp, by rfl⟩⟩ ?_
    have hco1 : (W.drewN (1 + k)).cell? ⟨w.heap.size + 1 + 1 + 1, y.1.1, none⟩ = some (.int .u64 (nth Q y.1.1 : Int)) := hco
    have hfo1 : (W.drewN (1 + k)).frozen? ⟨w.heap.size + 1 + 1 + 1, y.1.1, none⟩ = false := hfo
    have hM1 : WordMid w n x r Q (W.drewN (1 + k)) := HM.out.kept (Drawn.grown W (1 + k)) (fun _ e => by cases e)
    obtain ⟨hM2, hsame⟩ := hM1.step (r' := rd) y.1.1 qd
    have hK1 : KeepsOthers W (W.drewN (1 + k)) := KeepsOthers.of_grownBy (Drawn.grown W (1 + k)) (fun j o e => by cases e)
    have hst1 := (hM1.row.stored y.1.1 (.int .u64 (qd : Int))).2
    have hq2 : ((W.drewN (1 + k)).setCell ⟨w.heap.size + 1 + 1 + 1, y.1.1, none⟩ (.int .u64 (qd : Int))).cell? ⟨w.heap.size + 1, 0, none⟩ = some (.slice (some ⟨w.heap.size + 1 + 1 + 1, 0, none⟩) n n) := (hM1.q.kept hst1 (by simp)).cell
    have hr2 := (hM1.r.kept hst1 (by simp)).cell
    have hrf2 := (hM1.r.kept hst1 (by simp)).frozen
    have hb2 := (hM1.bx.kept hst1 (by simp; omega)).cell
    have HF := Lib.hid (show KeepsFrom E.heap.size W (((W.drewN (1 + k)).setCell ⟨w.heap.size + 1 + 1 + 1, y.1.1, none⟩ (.int .u64 (qd : Int))).setCell ⟨w.heap.size + 1 + 1, 0, none⟩ (.int .u64 (rd : Int))) ∧
        KpR (w.heap.size + 1 + 1 + 1 + 1) A n (fun l => l = a) W (((W.drewN (1 + k)).setCell ⟨w.heap.size + 1 + 1 + 1, y.1.1, none⟩ (.int .u64 (qd : Int))).setCell ⟨w.heap.size + 1 + 1, 0, none⟩ (.int .u64 (rd : Int))) ∧
        ∃ (Q : List Nat) (r : Nat), Q.length = n ∧ Words Q ∧ r < x ∧ WordMid w n x r Q (((W.drewN (1 + k)).setCell ⟨w.heap.size + 1 + 1 + 1, y.1.1, none⟩ (.int .u64 (qd : Int))).setCell ⟨w.heap.size + 1 + 1, 0, none⟩ (.int .u64 (rd : Int))) ∧
          (Downs (m := n) (fun l => l = a) (pre ++ [y]) → Q = tops n (natOf a / x) (n - (pre ++ [y]).length) ∧ r = natOf a / 18446744073709551616 ^ (n - (pre ++ [y]).length) % x) by
      refine ⟨((hK1.trans (KeepsOthers.setCell _ _ _)).trans (KeepsOthers.setCell _ _ _)).from _, ⟨hsame _ (by omega), fun _ => ⟨a, Hn.out, hw, rfl, (HR.out.below hM2.below).more hM2.below.size⟩⟩, Q.set y.1.1 qd, rd, by rw [List.length_set, hQl], words_put _ hQw _ _ HPS.out.1, HPS.out.2, hM2, fun hds => ?_⟩
      obtain ⟨hd0, hidx, l, _, _, rfl, hv⟩ := hds.ini
      obtain ⟨e1, e2⟩ := HP.out hd0
      have hlen := HLN.out
      rw [show n - pre.length = y.1.1 + 1 by omega] at e1 e2
      rw [show n - (pre ++ [y]).length = y.1.1 by rw [List.length_append, List.length_singleton]; omega]
      obtain ⟨q', r', f1, f2, f3, f4⟩ := word_place (natOf l) x y.1.1 hx
      rw [← e2, ← nth_natOf l hw, ← hv] at f1 f2
      have g1 : qd = q' := by rw [← HQD.out, f1]
      have g2 : rd = r' := by rw [← HRD.out, f2]
      exact ⟨by rw [e1, g1, f3]; exact tops_set n (natOf l / x) y.1.1 hi, by rw [g2, f4]⟩)
    refine anyG_one (i := 10) (by kernel_rfl) rfl (fun _ => ⟨hqc, hrc, hbc⟩) (fun K hK => ?_)
    clear hM1 hM2 hsame hK1 hst1
    go_simp
    refine hK _ _ ?_
    clear hK K
    refine anyG_one (i := 11) (by kernel_rfl) rfl (fun _ => ⟨hq2, hr2, hb2⟩) (fun K hK => ?_)
    go_simp
    refine hK _ _ ?_
    clear hK K
    refine anyG_done (by kernel_rfl) (by kernel_rfl) ?_
    rename_i QQ
    simp only [Exit.inBlock, QQ]
    exact HF.out
  case done =>
    rintro D ys W hD ⟨hds, hyl⟩ ⟨Q, r, hQl, hQw, hrx, hM, hP⟩ hK
    obtain ⟨rfl, rfl⟩ := hP hds
    rw [hyl, Nat.sub_self, tops_end, Nat.pow_zero, Nat.div_one] at hM
    rw [hyl, Nat.sub_self, tops_end] at hQl
    have hlN : natOf a / x < 18446744073709551616 ^ n := Nat.lt_of_le_of_lt (Nat.div_le_self _ _) Hlt.out
    have hqc := hM.q.cell
    have hqf := hM.q.frozen
    have hrc := hM.r.cell
    have hrf := hM.r.frozen
    have hrow1 : W.drew.ownsRow (w.heap.size + 1 + 1 + 1) 33 1 (.slice (some ⟨w.heap.size + 1 + 1 + 1, 0, none⟩) n n) n (ints .u64 (words n (natOf a / x))) := (Drawn.more 1).own hM.row
    have HT := Lib.hid (dtrim_own W.drew _ n n (natOf a / x) _ hrow1 hlN (by omega) (Nat.le_refl _))
    have HM := Lib.hid hM
    have HK := Lib.hid hK
    have hmx : Try.prog.follows .mixedOrders = true := by kernel_rfl
    have hD2 : w.heap.size + 5 ≤ D := by have := HEs.out; omega
    clear hP hds hK hM hrow1 hQl hQw hrx hr hM0 bA hB hx0
    gi_wp2
    refine only_end ?_
    gi_region_with_o ((refine ⟨trivial, ?_⟩; gi_at_call 74; (with_reducible refine (callsIn_wide.2 HT.out).mono ?_); rintro e w' ⟨rfl, rfl⟩))
    all_goals
      obtain ⟨T, hT⟩ : ∃ T, (nbits (natOf a / x) + 63) / 64 = T := ⟨_, rfl⟩
      have hTn := tl_le (words n (natOf a / x)) (words_words _ _)
      rw [length_words, tl_words _ _ hlN, hT] at hTn
      have hrow := own_trim HM.out.row hlN
      rw [hT] at hrow
      have g1 := grownBy_setCell' W.drew (w.heap.size + 1) (.slice (some ⟨w.heap.size + 1 + 1 + 1, 0, none⟩) T n)
      have g2 := grownBy_setCell' (W.drew.setCell ⟨w.heap.size + 1, 0, none⟩ (.slice (some ⟨w.heap.size + 1 + 1 + 1, 0, none⟩) T n)) (w.heap.size + 1 + 1) (.int .u64 ((natOf a : Int) % (x : Int)))
      have bq3 := ((HM.out.q.kept (Drawn.grown W 1) (by simp)).set (.slice (some ⟨w.heap.size + 1 + 1 + 1, 0, none⟩) T n)).kept g2 (by simp)
      have br3 := ((HM.out.r.kept (Drawn.grown W 1) (by simp)).kept g1 (by simp)).set (.int .u64 ((natOf a : Int) % (x : Int)))
      have hrow3 := (((Drawn.more 1).own hrow).kept g1 (.inr (by simp [Value.ownBlock] <;> omega))).kept g2 (.inr (by simp [Value.ownBlock] <;> omega))
      have hB3 := ((HM.out.below.trans ((Drawn.more 1).below _)).setCell (p := ⟨w.heap.size + 1, 0, none⟩) (by simp) (.slice (some ⟨w.heap.size + 1 + 1 + 1, 0, none⟩) T n)).setCell (p := ⟨w.heap.size + 1 + 1, 0, none⟩) (by simp; try omega) (.int .u64 ((natOf a : Int) % (x : Int)))
      have hK3 := (((KeepsOthers.of_grownBy (Drawn.grown W 1) (fun j o e => by cases e)).trans (KeepsOthers.setCell _ ⟨w.heap.size + 1, 0, none⟩ (.slice (some ⟨w.heap.size + 1 + 1 + 1, 0, none⟩) T n))).trans (KeepsOthers.setCell _ ⟨w.heap.size + 1 + 1, 0, none⟩ (.int .u64 ((natOf a : Int) % (x : Int))))).same D _ HK.out rfl
      rw [hT]
      have HBq := Lib.hid bq3
      have HBr := Lib.hid br3
      have HRW := Lib.hid hrow3
      have HB3 := Lib.hid hB3
      have HK3 := Lib.hid hK3
      clear g1 g2 bq3 br3 hrow3 hB3 hK3 hrow
      gi_wp2
      refine ⟨by simp, .inl ⟨_, _, rfl, run_takeDeferred HK3.out, ?_⟩⟩
      have hcq : (((W.setCell ⟨w.heap.size + 1, 0, none⟩ (.slice (some ⟨w.heap.size + 1 + 1 + 1, 0, none⟩) T n)).setCell ⟨w.heap.size + 1 + 1, 0, none⟩ (.int .u64 ((natOf a : Int) % (x : Int)))).drew.putObj D (.deferred none)).cell? ⟨w.heap.size + 1, 0, none⟩ = some (.slice (some ⟨w.heap.size + 1 + 1 + 1, 0, none⟩) T n) := cell_kept HBq.out.cell (grownBy_putObj' _ D (.deferred none)) (fun r e => by cases e; exact ⟨_, HK3.out, rfl⟩)
      have hcr : (((W.setCell ⟨w.heap.size + 1, 0, none⟩ (.slice (some ⟨w.heap.size + 1 + 1 + 1, 0, none⟩) T n)).setCell ⟨w.heap.size + 1 + 1, 0, none⟩ (.int .u64 ((natOf a : Int) % (x : Int)))).drew.putObj D (.deferred none)).cell? ⟨w.heap.size + 1 + 1, 0, none⟩ = some (.int .u64 ((natOf a : Int) % (x : Int))) := cell_kept HBr.out.cell (grownBy_putObj' _ D (.deferred none)) (fun r e => by cases e; exact ⟨_, HK3.out, rfl⟩)
      have hown := ownsRow_putObj HRW.out (.deferred none) HK3.out rfl
      have hBB := HB3.out.trans (belowK_b (w := w) (Nat.le_refl _) _ D _ (.deferred none) (by omega) HK3.out rfl rfl)
      refine ⟨.tuple #[.slice (some ⟨w.heap.size + 1 + 1 + 1, 0, none⟩) T n, .int .u64 ((natOf a : Int) % (x : Int)), .int .i64 0], by simp [results, Try.f54, go_sem, hcq, hcr], ?_⟩
      exact ⟨some ⟨w.heap.size + 1 + 1 + 1, 0, none⟩, T, n, by simp, ⟨by rw [← hT]; exact length_wd _, by omega, Rd.own hown, hTn⟩, hBB⟩
  case stop =>
    rintro D c pre W _ _ h _
    exact h.elim
end Go.Proofs.Ytbgaboboakkimaa
/- div.byWords: by a number of two words or more. Conditions: as typed (lengths that fit a machine; the divisor is not above the number). -/
namespace Go.Proofs.Ytbgaboboakkimaa
open Go.RowKit Go.Shelf
set_option maxRecDepth 20000
attribute [local go_sem] Oper.semAt_some
theorem and_63 (N : Nat) (_hN : N ≤ 1000000) : bits .and .i64 (-(N : Int)) 63 = (((64 - N % 64) % 64 : Nat) : Int) := by
  have h1 : (BitVec.ofInt 64 63).toNat = 2 ^ 6 - 1 := by decide
  have key : (BitVec.ofInt 64 (-(N : Int)) &&& BitVec.ofInt 64 63).toNat = ((-(N : Int)) % ((2 ^ 64 : Nat) : Int)).toNat % 2 ^ 6 := by
    rw [BitVec.toNat_and, BitVec.toNat_ofInt, h1, Nat.and_two_pow_sub_one_eq_mod]
  show IntKind.i64.wrap ((BitVec.ofInt 64 (-(N : Int)) &&& BitVec.ofInt 64 63).toNat : Nat) = _
  rw [key, IntKind.wrap_i64]
  omega
/-- Long division, the places from i on being made: what is left, and the quotient so far. -/
def Long (V U i : Nat) (L Q : List Nat) : Prop := natOf L + natOf Q * V = U ∧ natOf L < 18446744073709551616 ^ i * V ∧ ∀ j, j < i → nth Q j = 0
/-- Between two rounds of byWords. q0: q's box; p: by's box; R: rest's box; g: rest's row. -/
structure ByMid (E : World) (q0 p R g K cap nq n c : Nat) (X : Option Addr) (ys L Q : List Nat) (W : World) : Prop where
  qb : Boxed W q0 23 (.slice (some ⟨R + 1, 0, none⟩) nq nq)
  bb : Boxed W p 23 (.slice X n c)
  rb : Boxed W R 23 (.slice (some ⟨g, 0, none⟩) K cap)
  by_ : Rd .u64 W p X ys
  rest : W.ownsRow (p + 1) 33 1 (.slice (some ⟨g, 0, none⟩) K cap) K (ints .u64 L)
  qs : W.ownsRow (R + 1) 33 1 (.slice (some ⟨R + 1, 0, none⟩) nq nq) nq (ints .u64 Q)
  below : Below p E W
  size : R + 3 ≤ W.heap.size
  it : W.heap[R + 1 + 1]? = E.heap[R + 1 + 1]?
section
variable {E W W' : World} {q0 p R g K cap nq n c : Nat} {X : Option Addr} {ys L L' Q : List Nat}
theorem ByMid.kept {row : Option Nat} (h : ByMid E q0 p R g K cap nq n c X ys L Q W) (hg : W.grownBy W' row) (hr : ∀ k, row = some k → R + 3 ≤ k) (h0 : q0 < p) (h1 : p < R) (h2 : g < R) : ByMid E q0 p R g K cap nq n c X ys L Q W' where
  qb := h.qb.kept hg (by intro e; have := hr _ e.symm; omega)
  bb := h.bb.kept hg (by intro e; have := hr _ e.symm; omega)
  rb := h.rb.kept hg (by intro e; have := hr _ e.symm; omega)
  by_ := h.by_.grown hg (by have := h.size; omega) (fun k e => by have := hr k e; omega)
  rest := h.rest.kept hg (.inr (by intro e; have := hr _ e.symm; dsimp only at this; omega))
  qs := h.qs.kept hg (.inr (by intro e; have := hr _ e.symm; dsimp only at this; omega))
  below := h.below.grown hg (by have := h.size; omega) (fun k e => by have := hr k e; omega)
  size := Nat.le_trans h.size hg.size
  it := (hg.block _ (by have := h.size; omega) (by intro e; have := hr _ e.symm; omega)).trans h.it
theorem ByMid.setQ (h : ByMid E q0 p R g K cap nq n c X ys L Q W) (h0 : q0 < p) (h1 : p < R) (h2 : g < R) (i x : Nat) : ByMid E q0 p R g K cap nq n c X ys L (Q.set i x) (W.setCell ⟨R + 1, i, none⟩ (.int .u64 (x : Int))) := by
  have hst := h.qs.stored i (.int .u64 (x : Int))
  rw [ints_set] at hst
  obtain ⟨hq, hg⟩ := hst
  exact ⟨h.qb.kept hg (by simp; omega), h.bb.kept hg (by simp; omega), h.rb.kept hg (by simp), h.by_.grown hg (by have := h.size; omega) (fun k e => by cases e; omega), h.rest.kept hg (.inr (by simp [Value.ownBlock]; omega)), hq, h.below.grown hg (by have := h.size; omega) (fun k e => by cases e; omega), Nat.le_trans h.size hg.size, (hg.block _ (by have := h.size; omega) (by simp)).trans h.it⟩
theorem ByMid.setR (h : ByMid E q0 p R g K cap nq n c X ys L Q W) (h0 : q0 < p) (_h1 : p < R) (h2 : g < R) (h3 : p < g) (hg : W.grownBy W' (some g)) (ho : W'.ownsRow (p + 1) 33 1 (.slice (some ⟨g, 0, none⟩) K cap) K (ints .u64 L')) : ByMid E q0 p R g K cap nq n c X ys L' Q W' :=
  ⟨h.qb.kept hg (by simp; omega), h.bb.kept hg (by simp; omega), h.rb.kept hg (by simp; omega), h.by_.grown hg (by have := h.size; omega) (fun k e => by cases e; omega), ho, h.qs.kept hg (.inr (by simp [Value.ownBlock]; omega)), h.below.grown hg (by have := h.size; omega) (fun k e => by cases e; omega), Nat.le_trans h.size hg.size, (hg.block _ (by have := h.size; omega) (by simp; omega)).trans h.it⟩
theorem ByMid.rdx (h : ByMid E q0 p R g K cap nq n c X ys L Q W) (h3 : p < g) : Rdx .u64 W g X ys := fun hl => by
  obtain ⟨b, off, e, hb, hc⟩ := h.by_ hl
  exact ⟨b, off, e, by omega, hc⟩
end
/-- A row of the call's own is cells. -/
theorem own_cells {w : World} {base e g n c : Nat} {xs : List Value} (h : w.ownsRow base e 1 (.slice (some ⟨g, 0, none⟩) n c) n xs) {o : Obj} (ho : w.heap[g]? = some o) : o.isCells = true := by
  rcases h.2 with ⟨hv, _⟩ | ⟨g', cap, cur, hv, _, hgb, _⟩
  · cases hv
  · injection hv with hv _ _
    injection hv with hv
    injection hv with hv _ _
    subst hv
    rw [hgb] at ho
    cases ho
    rfl
theorem guessV_lt (hi lo f : Nat) (hl : lo < 18446744073709551616) : guessV hi lo f < 18446744073709551616 := by
  unfold guessV
  split
  · omega
  · rename_i h
    rw [Nat.div_lt_iff_lt_mul (by omega)]
    have : 18446744073709551616 * (hi + 1) ≤ 18446744073709551616 * f := Nat.mul_le_mul_left _ (by omega)
    omega
theorem top_word (V m : Nat) (h : nbits V = 64 * (m + 1)) : 9223372036854775808 ≤ nth (wd V) m := by
  have hp : 0 < 18446744073709551616 ^ m := Nat.pow_pos (by omega)
  have h1 := nbits_lt V
  have h2 := nbits_le V (by intro h0; rw [h0, nbits_zero] at h; omega)
  rw [h] at h1 h2
  rw [nth_natOf _ (wd_words V), natOf_wd]
  have e1 : (2 : Nat) ^ (64 * (m + 1)) = 18446744073709551616 ^ m * 18446744073709551616 := by rw [← pow_64_2, Nat.pow_succ]
  have e2 : (2 : Nat) ^ (64 * (m + 1) - 1) = 18446744073709551616 ^ m * 9223372036854775808 := by rw [show 64 * (m + 1) - 1 = 64 * m + 63 by omega, Nat.pow_add, ← pow_64_2]
  rw [e1] at h1
  rw [e2] at h2
  rw [Nat.mod_eq_of_lt (by rw [Nat.div_lt_iff_lt_mul hp, Nat.mul_comm]; exact h1), Nat.le_div_iff_mul_le hp, Nat.mul_comm]
  exact h2
/-- What is taken away is as it was said of a place. -/
theorem place_start {V U i m K x0 o : Nat} {L L' Q : List Nat} (hm : nbits V = 64 * (m + 1)) (hVl : (wd V).length = m + 1) (hLw : Words L) (hg : Long V U (i + 1) L Q) (hx : guessV (nth L (i + (m + 1))) (nth L (i + m)) (nth (wd V) m) = x0)
    (ht : Takes K i x0 (natOf (wd V)) (m + 1 + 1) o (natOf L) L L') (ho : o ≤ 1) :
    Place K (i + (m + 1 + 1)) (18446744073709551616 ^ i * V) (18446744073709551616 ^ (i + (m + 1 + 1))) (natOf L) x0 o L' ∧ x0 + 0 ≤ natOf L / (18446744073709551616 ^ i * V) + 2 := by
  have hB := natOf_lt (wd V) (wd_words V)
  rw [natOf_wd, hVl] at hB
  have hT : natOf L < 18446744073709551616 ^ (i + (m + 1 + 1)) := by
    refine Nat.lt_trans hg.2.1 ?_
    have h1 : 18446744073709551616 ^ (i + 1) * V < 18446744073709551616 ^ (i + 1) * 18446744073709551616 ^ (m + 1) := Nat.mul_lt_mul_of_pos_left hB (Nat.pow_pos (by omega))
    rwa [← Nat.pow_add, show i + 1 + (m + 1) = i + (m + 1 + 1) by omega] at h1
  obtain ⟨g1, g2, g3⟩ := guess_two (natOf L) V i m x0 L (wd V) hLw rfl (wd_words V) (natOf_wd V) hVl (top_word V m hm) hg.2.1 (by
    rw [← hx, show i + m + 1 = i + (m + 1) by omega]
    unfold guessV
    by_cases h : nth (wd V) m ≤ nth L (i + (m + 1))
    · exact .inl ⟨h, if_pos h⟩
    · exact .inr ⟨by omega, if_neg h⟩)
  refine ⟨⟨ht.len, ht.words, ?_, fun j hj => by rw [ht.same j hj]; exact far_of L hLw _ hT j hj, ho, g2⟩, by omega⟩
  have := ht.val
  rw [natOf_wd] at this
  rw [Nat.mul_left_comm]
  exact this
/-- A place that is right: the next one's start. -/
theorem place_end {V U i k K E x : Nat} {L L' Q : List Nat} (hV : 0 < V) (hg : Long V U (i + 1) L Q) (hi : i < Q.length) (h : Place K k (18446744073709551616 ^ i * V) E (natOf L) x 0 L') : Long V U i L' (Q.set i x) := by
  have hD : 0 < 18446744073709551616 ^ i * V := Nat.mul_pos (Nat.pow_pos (by omega)) hV
  obtain ⟨e1, e2⟩ := h.done hD
  have h1 := hg.1
  have h2 := natOf_put Q i x hi
  rw [hg.2.2 i (by omega), Nat.mul_zero, Nat.add_zero] at h2
  refine ⟨?_, by rw [e2]; exact Nat.mod_lt _ hD, fun j hj => ?_⟩
  · have h3 := Nat.div_add_mod (natOf L) (18446744073709551616 ^ i * V)
    rw [← e1, ← e2] at h3
    have e3 : 18446744073709551616 ^ i * x * V = 18446744073709551616 ^ i * V * x := by rw [Nat.mul_assoc, Nat.mul_comm x, ← Nat.mul_assoc]
    rw [h2, Nat.add_mul, e3]
    omega
  · rw [nth_set _ _ _ _ hi, if_neg (by omega)]
    exact hg.2.2 j (by omega)
theorem long_end {V U : Nat} {L Q : List Nat} (h : Long V U 0 L Q) : natOf Q = U / V ∧ natOf L = U % V := by
  obtain ⟨h1, h2, _⟩ := h
  rw [Nat.pow_zero, Nat.one_mul] at h2
  have e : U = V * natOf Q + natOf L := by rw [Nat.mul_comm]; omega
  have hV : 0 < V := by omega
  constructor
  · rw [e, Nat.mul_add_div hV, Nat.div_eq_of_lt h2, Nat.add_zero]
  · rw [e, Nat.mul_add_mod, Nat.mod_eq_of_lt h2]
/-- What byWords keeps from round to round: rows of words; and, the places having come in their order, the long division so far. -/
def ByI (E : World) (q0 p R g K cap nq n c : Nat) (X : Option Addr) (ys : List Nat) (V U : Nat) (pre : List (WI nq)) (W : World) : Prop :=
  ∃ L Q, L.length = K ∧ Words L ∧ Q.length = nq ∧ Words Q ∧ ByMid E q0 p R g K cap nq n c X ys L Q W ∧ (Downs (m := nq) (fun _ => True) pre → Long V U (nq - pre.length) L Q)
set_option maxRecDepth 100000 in
set_option maxHeartbeats 2000000 in
theorem byWords_pf (A A2 : Option Addr) (na nb c c2 : Nat) (a b : List Nat) (w : World) (hna : a.length = na) (hnb : b.length = nb) (hr : Rd .u64 w w.heap.size A a) (hw : Words a) (hl : na ≤ 10000) (hc : na ≤ c) (hr2 : Rd .u64 w w.heap.size A2 b) (hw2 : Words b) (hl2 : nb ≤ 10000) (hc2 : nb ≤ c2)
    (hbig : 18446744073709551616 ≤ natOf b) (hle : natOf b ≤ natOf a) :
    Calls Try.prog 55 #[.slice A na c, .slice A2 nb c2] w fun e w' => ∃ X q d Y r f, e = .returned (.tuple #[.slice X q d, .slice Y r f]) ∧ NatIs w' X q d (natOf a / natOf b) ∧ NatIs w' Y r f (natOf a % natOf b) ∧ Below w.heap.size w w' := by
  obtain ⟨i0, hi, hz0, hz1, hz2⟩ := info_parts num_info_u64
  have hw' := hw
  have hl' := hl
  have hsa := nbits_natOf a hw
  have hsb := nbits_natOf b hw2
  obtain ⟨N, hN⟩ : ∃ N, nbits (natOf b) = N := ⟨_, rfl⟩
  have hand := and_63 N (by omega)
  obtain ⟨s, hs⟩ : ∃ s, (64 - N % 64) % 64 = s := ⟨_, rfl⟩
  rw [hs] at hand
  rw [show (-(N : Int)) = wrap64 (-(N : Int)) by simp only [wrap64]; omega] at hand
  have hs63 : s ≤ 63 := by omega
  have bE0 : Below w.heap.size w (w.alloc (.cells #[.slice none 0 0] 23)) := (Below.refl _ w).alloc (Nat.le_refl _) _
  have QB := natBits_any A2 c2 b (w.alloc (.cells #[.slice none 0 0] 23)) ((hr2.below bE0).more bE0.size) hw2 (by omega) (by omega)
  rw [hN, hnb] at QB
  have HQB := Lib.hid QB
  obtain ⟨V, hV⟩ : ∃ V, 2 ^ s * natOf b = V := ⟨_, rfl⟩
  obtain ⟨U, hU⟩ : ∃ U, 2 ^ s * natOf a = U := ⟨_, rfl⟩
  have hnV : nbits V = N + s := by rw [← hV, nbits_up_eq _ _ (by omega), hN]
  have hN64 : 64 < N := by
    rcases Nat.lt_or_ge 64 N with h | h
    · exact h
    · exfalso
      have h1 := nbits_lt (natOf b)
      rw [hN] at h1
      have h2 : 2 ^ N ≤ 2 ^ 64 := Nat.pow_le_pow_right (by omega) h
      omega
  obtain ⟨m, hm⟩ : ∃ m, (nbits V + 63) / 64 = m + 1 := ⟨(nbits V + 63) / 64 - 1, by omega⟩
  have hmV : nbits V = 64 * (m + 1) := by omega
  have hm1 : 1 ≤ m := by omega
  have hVU : V ≤ U := by rw [← hV, ← hU]; exact Nat.mul_le_mul_left _ hle
  have hnU : nbits U = nbits (natOf a) + s := by rw [← hU, nbits_up_eq _ _ (by omega)]
  have hmono := nbits_mono hVU
  obtain ⟨ka, hka⟩ : ∃ ka, (nbits U + 63) / 64 = ka := ⟨_, rfl⟩
  obtain ⟨nq, hnq⟩ : ∃ nq, ka = m + nq := ⟨ka - m, by omega⟩
  have hnq1 : 1 ≤ nq := by omega
  have hka2 : ka ≤ 10001 := by omega
  have hsub : ((ka : Int) + 1) - ((m : Int) + 1) = (nq : Int) := by omega
  have SB : ∀ u, Below w.heap.size w u → Calls Try.prog 75 #[.slice A2 nb c2, .int .i64 (s : Int)] u (OutNat V u) := fun u hu => by
    have h := natShl_any A2 c2 b u ((hr2.below hu).more hu.size) hw2 (by omega) (by omega) (s : Int)
    rwa [hnb, show shlS (natOf b) (s : Int) = V by unfold shlS; rw [if_pos (by omega), Int.toNat_natCast, hV]] at h
  have SA : ∀ u, Below w.heap.size w u → Calls Try.prog 75 #[.slice A na c, .int .i64 (s : Int)] u (OutNat U u) := fun u hu => by
    have h := natShl_any A c a u ((hr.below hu).more hu.size) hw (by omega) (by omega) (s : Int)
    rwa [hna, show shlS (natOf a) (s : Int) = U by unfold shlS; rw [if_pos (by omega), Int.toNat_natCast, hU]] at h
  have HSB := Lib.hid SB
  have HSA := Lib.hid SA
  have HV := Lib.hid hV
  have HU := Lib.hid hU
  have HmV := Lib.hid hmV
  have Hka := Lib.hid hka
  have Hnq := Lib.hid hnq
  have HVU := Lib.hid hVU
  have hmk := fun u => make_row nq u (by omega)
  clear SB SA hV hU hnV hmV hVU hnU hmono hsa hsb hs hle hbig hka hnq
  have HN := Lib.hid hN
  have Hna := Lib.hid hna
  have Hnb := Lib.hid hnb
  clear QB hN hna hnb
  refine (callsIn_wide (n := 9)).1 ?_
  refine callsIn_of_wp_marks Try.func55 rfl trivial ?_ rfl
  simp only [Try.ntmps55, List.size_toArray, List.length_cons, List.length_nil, Nat.reduceAdd, Nat.reduceSub, Array.replicate_succ, Array.replicate_zero, List.push_toArray, List.append_toArray, List.nil_append, List.cons_append]
  refine wpIn_wide.2 ?_
  go_wp2_with fail
  go_step3
  go_wp2_with fail
  refine (HQB.out).mono ?_
  rintro e w1 ⟨rfl, b1⟩
  go_wp2_with fail
  have bE1 := bE0.trans (b1.mono (by simp))
  refine ((HSB.out w1 bE1)).mono ?_
  rintro e w2 ⟨v2, rfl, own2, b2⟩
  obtain ⟨X, dX, rfl, hdX, _⟩ := own_form own2
  rw [hm] at own2 hdX ⊢
  obtain ⟨gx, rfl, hgx0, hgx1⟩ : ∃ gx, X = some ⟨gx, 0, none⟩ ∧ w1.heap.size ≤ gx ∧ gx < w2.heap.size := by
    rcases own2.2 with ⟨hv, _⟩ | ⟨g, cap, cur, hv, hgb, hgh, _⟩
    · cases hv
    · injection hv with hv _ _
      exact ⟨g, hv, hgb, (Array.getElem?_eq_some_iff.1 hgh).1⟩
  have hgxw : w.heap.size < gx := by have := b1.size; simp at this; omega
  have bE2 := bE1.trans (b2.mono bE1.size)
  go_wp2_with fail
  have bE3 := bE2.alloc bE2.size (.cells #[.slice (some ⟨gx, 0, none⟩) (m + 1) dX] 23)
  refine ((HSA.out _ bE3)).mono ?_
  rintro e w3 ⟨v3, rfl, own3, b3⟩
  obtain ⟨Y, dY, rfl, hdY, _⟩ := own_form own3
  rw [Hka.out] at own3 hdY ⊢
  go_wp2_with (at_builtin; refine wpList_append_one _ rfl _ _ 23 rfl _ 33 i0 (.int .u64 0) 8 Try.underlying23 hi hz0 hz1 hz2 rfl _ _ .u64 (wd U) rfl own3 _ 0 rfl rfl (by unfold maxLen; omega) (by omega) b3.size ?_)
  intro v4 w4 own4 g4 b4
  obtain ⟨Z, dZ, rfl, hdZ, _⟩ := own_form own4
  obtain ⟨g, rfl, hg0, hg1⟩ : ∃ g, Z = some ⟨g, 0, none⟩ ∧ w2.heap.size + 1 ≤ g ∧ g < w4.heap.size := by
    rcases own4.2 with ⟨hv, _⟩ | ⟨g, cap, cur, hv, hgb, hgh, _⟩
    · cases hv
    · injection hv with hv _ _
      exact ⟨g, hv, by simpa using hgb, (Array.getElem?_eq_some_iff.1 hgh).1⟩
  have bq0 := Boxed.new w 23 (.slice none 0 0)
  have bq2 : Boxed w2 w.heap.size 23 (.slice none 0 0) := (b2.block _ (by have := b1.size; simp at this; omega)).trans ((b1.block _ (by simp)).trans bq0)
  have bb2 := Boxed.new w2 23 (.slice (some ⟨gx, 0, none⟩) (m + 1) dX)
  have bb4 : Boxed w4 w2.heap.size 23 (.slice (some ⟨gx, 0, none⟩) (m + 1) dX) := (b4.block _ (by simp)).trans ((b3.block _ (by simp)).trans bb2)
  have bq4 : Boxed w4 w.heap.size 23 (.slice none 0 0) := (b4.block _ (by have := bq2.lt; simp; omega)).trans ((b3.block _ (by have := bq2.lt; simp; omega)).trans (bq2.alloc _))
  have rb2 := Rd.own own2
  have rb4 : Rd .u64 w4 w2.heap.size (some ⟨gx, 0, none⟩) (wd V) := ((rb2.below ((Below.refl _ w2).alloc (Nat.le_refl _) _)).below (b3.mono (by simp))).below (b4.mono (by simp))
  have B4 : Below w.heap.size w w4 := (bE3.trans (b3.mono bE3.size)).trans (b4.mono (by have := bE2.size; simp; omega))
  have hs24 : w2.heap.size + 1 ≤ w4.heap.size := by have h1 := b3.size; have h2 := b4.size; simp at h1 h2; omega
  have hws : w.heap.size < w2.heap.size := bq2.lt
  have hc1 := (bb4.alloc (.cells #[.slice (some ⟨g, 0, none⟩) (ka + 1) dZ] 23)).cell
  have hc2' := (bq4.alloc (.cells #[.slice (some ⟨g, 0, none⟩) (ka + 1) dZ] 23))
  have hc3 := (hc2'.alloc (.cells (Array.replicate nq (.int .u64 0)) 33)).cell
  have hc4 := (hc2'.alloc (.cells (Array.replicate nq (.int .u64 0)) 33)).frozen
  clear b1 b2 own2 bE0 bE1 bE2 bE3 b3 own3 b4 bq0 bq2 bb2 rb2 hr hr2 hc hc2 hl hl2
  have hown0 := row_zero (w4.alloc (.cells #[.slice (some ⟨g, 0, none⟩) (ka + 1) dZ] 23)) nq (by omega)
  simp only [World.size_alloc] at hown0 own4
  obtain ⟨F3, hF3⟩ : ∃ F3, ((w4.alloc (.cells #[.slice (some ⟨g, 0, none⟩) (ka + 1) dZ] 23)).alloc (.cells (Array.replicate nq (.int .u64 0)) 33)).setCell ⟨w.heap.size, 0, none⟩ (.slice (some ⟨w4.heap.size + 1, 0, none⟩) nq nq) = F3 := ⟨_, rfl⟩
  have g5 := grownBy_setCell' ((w4.alloc (.cells #[.slice (some ⟨g, 0, none⟩) (ka + 1) dZ] 23)).alloc (.cells (Array.replicate nq (.int .u64 0)) 33)) w.heap.size (.slice (some ⟨w4.heap.size + 1, 0, none⟩) nq nq)
  have hs3 : F3.heap.size = w4.heap.size + 2 := by rw [← hF3]; simp [World.setCell]
  have B5 : Below w.heap.size w F3 := by rw [← hF3]; exact ((B4.alloc B4.size _).alloc (by simp; omega) _).setCell (p := ⟨w.heap.size, 0, none⟩) (Nat.le_refl _) _
  have cq := ((bq4.alloc (.cells #[.slice (some ⟨g, 0, none⟩) (ka + 1) dZ] 23)).alloc (.cells (Array.replicate nq (.int .u64 0)) 33)).set (.slice (some ⟨w4.heap.size + 1, 0, none⟩) nq nq)
  have cb := ((bb4.alloc (.cells #[.slice (some ⟨g, 0, none⟩) (ka + 1) dZ] 23)).alloc (.cells (Array.replicate nq (.int .u64 0)) 33)).kept g5 (by simp; omega)
  have cr := ((Boxed.new w4 23 (.slice (some ⟨g, 0, none⟩) (ka + 1) dZ)).alloc (.cells (Array.replicate nq (.int .u64 0)) 33)).kept g5 (by simp; omega)
  have crow := ((own4.alloc (.cells #[.slice (some ⟨g, 0, none⟩) (ka + 1) dZ] 23)).alloc (.cells (Array.replicate nq (.int .u64 0)) 33)).kept g5 (.inr (by simp [Value.ownBlock]; omega))
  have cqs := hown0.kept g5 (.inr (by simp [Value.ownBlock]; omega))
  have cby : Rd .u64 F3 w2.heap.size (some ⟨gx, 0, none⟩) (wd V) := fun hl => by
    obtain ⟨b, off, e, hb, hc⟩ := rb4 hl
    injection e with e
    injection e with e1 e2 _
    subst e1
    subst e2
    refine ⟨gx, 0, rfl, hb, fun j hj => ?_⟩
    rw [← hc j hj, ← hF3]
    refine World.cell?_of_block ?_
    rw [g5.block gx (by simp; omega) (by simp; omega), Below.heap_alloc _ _ _ (by simp; omega), Below.heap_alloc _ _ _ (by omega)]
  rw [hF3] at cq cb cr crow cqs
  have hc5 := cq.cell
  obtain ⟨E, hE⟩ : ∃ E, F3.alloc (.cells #[.slice (some ⟨w4.heap.size + 1, 0, none⟩) nq nq] 23) = E := ⟨_, rfl⟩
  have hEs : E.heap.size = w4.heap.size + 3 := by rw [← hE, World.size_alloc, hs3]
  have hM0 : ByMid E w.heap.size w2.heap.size w4.heap.size g (ka + 1) dZ nq (m + 1) dX (some ⟨gx, 0, none⟩) (wd V) (wd U ++ [0]) (words nq 0) E := by
    refine ⟨?_, ?_, ?_, ?_, ?_, ?_, Below.refl _ _, by omega, rfl⟩ <;> rw [← hE]
    · exact cq.alloc _
    · exact cb.alloc _
    · exact cr.alloc _
    · exact cby.below ((Below.refl _ F3).alloc (by omega) _)
    · exact crow.alloc _
    · exact cqs.alloc _
  have bA : Boxed E (w4.heap.size + 1 + 1) 23 (.slice (some ⟨w4.heap.size + 1, 0, none⟩) nq nq) := by
    have h := Boxed.new F3 23 (.slice (some ⟨w4.heap.size + 1, 0, none⟩) nq nq)
    rw [hs3, hE] at h
    exact h
  have BE : Below w.heap.size w E := by rw [← hE]; exact B5.alloc B5.size _
  have hVl := length_wd V
  rw [hm] at hVl
  have hUl := length_wd U
  rw [Hka.out] at hUl
  have hwU := wd_words U
  have hL0 : Long V U nq (wd U ++ [0]) (words nq 0) := by
    have e1 : natOf (wd U ++ [0]) = U := by rw [natOf_snoc, natOf_wd]; simp
    have e2 : natOf (words nq 0) = 0 := by rw [natOf_words]; simp
    refine ⟨by rw [e1, e2]; simp, ?_, fun j hj => by rw [nth_words _ _ _ hj]; simp⟩
    rw [e1]
    have h1 := nbits_lt U
    have h2 := nbits_le V (by intro h; rw [h, nbits_zero] at hm; omega)
    rw [HmV.out] at h2
    have h3 : 2 ^ nbits U ≤ 2 ^ (64 * nq + (64 * (m + 1) - 1)) := Nat.pow_le_pow_right (by omega) (by have := Hka.out; have := Hnq.out; omega)
    rw [Nat.pow_add, ← pow_64_2] at h3
    have h4 : 18446744073709551616 ^ nq * 2 ^ (64 * (m + 1) - 1) ≤ 18446744073709551616 ^ nq * V := Nat.mul_le_mul_left _ h2
    omega
  have HL0 := Lib.hid hL0
  have HEs := Lib.hid hEs
  have HBE := Lib.hid BE
  clear hown0 g5 cq cb cr crow cqs cby bq4 bb4 rb4 own4 hc2' B4 B5 hL0 hand HQB HSB HSA HN
  go_wp2_with fail
  go_step3
  go_wp2_with fail
  clear hc1 hc3 hc4 hc5
  refine ((callsIn_wide (n := 9)).1 (back_in _ _ _ _ _)).mono ?_
  rintro e w' ⟨rfl, rfl⟩
  rw [hs3, hE]
  go_wp2_with fail
  refine (wpIn_wide (n := 9)).1 ?_
  have hgR : g < w4.heap.size := hg1
  refine wpIn_rangeFunc_ownG rfl (by omega) (gf := 71) (lb := #[.pointer (some ⟨w4.heap.size + 1 + 1, 0, none⟩)]) rfl trivial (enters_of Try.func71 (by kernel_rfl) rfl)
    (backR_stops 8 (by omega) (w4.heap.size + 1 + 1) nq nq (some ⟨w4.heap.size + 1, 0, none⟩) (fun _ => True) (by omega) E bA ⟨words nq 0, length_words _ _, words_words _ _, trivial, Rd.own hM0.qs⟩)
    KpR.t (KpR.b (by omega)) (Below.refl _ _) (fun _ => rfl)
    (fun pre W => ByI E w.heap.size w2.heap.size w4.heap.size g (ka + 1) dZ nq (m + 1) dX (some ⟨gx, 0, none⟩) (wd V) V U pre W)
    (fun _ _ _ => False)
    (fun s X Y row hs hg hr => by
      obtain ⟨L, Q, h1, h2, h3, h4, h5, h6⟩ := hs
      exact ⟨L, Q, h1, h2, h3, h4, h5.kept hg (fun k e => by have := (hr k e).1; omega) hws (by omega) hgR, h6⟩)
    (fun _ _ _ _ _ hs _ _ => hs)
    ⟨wd U ++ [0], words nq 0, by rw [List.length_append, hUl]; rfl, (fun x hx => by rcases List.mem_append.1 hx with h | h; exact hwU x h; simp at h; omega), length_words _ _, words_words _ _, hM0, fun _ => by simpa using HL0.out⟩
    (fun y => { tmps := #[.slice A na c, .slice A2 nb c2, undef, undef, .pointer (some ⟨w.heap.size, 0, none⟩), .slice none 0 0, .int .i64 (s : Int), .pointer (some ⟨w2.heap.size, 0, none⟩), .pointer (some ⟨w4.heap.size, 0, none⟩), .int .i64 (y.1.1 : Int), undef, undef,
      .slice A2 nb c2, .int .i64 (N : Int), .int .i64 (wrap64 (-(N : Int))), .int .i64 (s : Int), .slice A2 nb c2, .int .i64 (s : Int), .slice (some ⟨gx, 0, none⟩) (m + 1) dX, .slice A na c, .int .i64 (s : Int), .slice Y ka dY, .slice (some ⟨w3.heap.size, 0, none⟩) 1 1,
      .slice (some ⟨g, 0, none⟩) (ka + 1) dZ, .slice (some ⟨g, 0, none⟩) (ka + 1) dZ, .int .i64 ((ka : Int) + 1), .slice (some ⟨gx, 0, none⟩) (m + 1) dX, .int .i64 ((m : Int) + 1), .int .i64 (nq : Int), .slice (some ⟨w4.heap.size + 1, 0, none⟩) nq nq, .slice (some ⟨w4.heap.size + 1, 0, none⟩) nq nq,
      .func (.func 71) #[] #[.pointer (some ⟨w4.heap.size + 1 + 1, 0, none⟩)], .int .i64 (y.1.1 : Int), .int .u64 (y.1.2 : Int),
      undef, undef, undef, undef, undef, undef, undef, undef, undef, undef, undef, undef, undef, undef, undef, undef, undef, undef, undef, undef, undef, undef, undef, undef, undef, undef, undef, undef, undef, undef, undef, undef, undef, undef, undef, undef, undef, undef, undef, undef, undef, undef], defers := [] }) ?assign ?body ?done ?stop
  case assign =>
    intro l x W K hK
    gi_wp2
    exact hK
  case body =>
    rintro l pre y W ⟨L, Q, hLl, hLw, hQl, hQw, hM, hP⟩ hlen
    obtain ⟨⟨i, wd0⟩, hi, hwd⟩ := y
    dsimp only at hi hwd ⊢
    have hrc := hM.rb.cell
    have hbc := hM.bb.cell
    have hqc := hM.qb.cell
    have hik : i + m + 2 ≤ ka + 1 := by have := Hnq.out; omega
    have hdi : ¬ dZ = i := by omega
    have HM := Lib.hid hM
    have HP := Lib.hid hP
    have HLN := Lib.hid hlen
    clear hM hP hlen hM0 bA hsub hm hw hw2 hN64 hEs hs3 hE hF3 BE
    have hll := hLl
    have hdec : i + (m + 1) + 1 - i = m + 1 + 1 := by omega
    gi_wp2
    rw [hdec]
    clear hdec
    have hmx : Try.prog.follows .mixedOrders = true := by kernel_rfl
    obtain ⟨x0, hx0⟩ : ∃ x0, guessV (nth L (i + (m + 1))) (nth L (i + m)) (nth (wd V) m) = x0 := ⟨_, rfl⟩
    have hby0 : W.drew.cell? ⟨gx, 0 + m, none⟩ = some (.int .u64 (nth (wd V) m : Int)) := by
      obtain ⟨b, off, e, _, hcell⟩ := HM.out.by_ (by omega)
      injection e with e
      injection e with e1 e2 _
      subst e1
      subst e2
      exact hcell m (by omega)
    have hG := guess_any g i m (dZ - i) dX (nth L (i + (m + 1))) (nth L (i + m)) (nth (wd V) m) (some ⟨gx, 0, none⟩) gx 0 W.drew rfl (by omega)
      (show W.cell? _ = _ by rw [HM.out.rest.cellAt _ (by omega), ints_get _ _ _ (by omega)]) (show W.cell? _ = _ by rw [HM.out.rest.cellAt _ (by omega), ints_get _ _ _ (by omega)]) hby0 (nth_lt L hLw _) (nth_lt L hLw _) (nth_lt _ (wd_words V) _)
    rw [hx0] at hG
    have HG := Lib.hid hG
    have HX0 := Lib.hid hx0
    clear hG hx0 hby0
    refine wpIn_region_any hmx ?_
    change wpAnyIn _ _ _ _ _ _ _ _ _ (World.drew _)
    refine anyG.toAny (s := 6) (B := fun W' => W'.cell? ⟨w.heap.size, 0, none⟩ = some (.slice (some ⟨w4.heap.size + 1, 0, none⟩) nq nq) ∧ W'.cell? ⟨w2.heap.size, 0, none⟩ = some (.slice (some ⟨gx, 0, none⟩) (m + 1) dX)) ?_
    refine anyG_take (i := 0) (v := .slice (some ⟨w4.heap.size + 1, 0, none⟩) nq nq) rfl (by kernel_rfl) (by kernel_rfl) (by kernel_rfl) (by kernel_rfl) (by kernel_rfl) (by kernel_rfl) (fun _ _ _ h => h) ⟨by rfl, fun W' ⟨g1, g2⟩ => ⟨by go_simp, by rfl⟩⟩ ?_
    refine anyG_take (i := 1) (v := .int .i64 (i : Int)) rfl (by kernel_rfl) (by kernel_rfl) (by kernel_rfl) (by kernel_rfl) (by kernel_rfl) (by kernel_rfl) (fun _ _ _ h => h) ⟨by rfl, fun W' ⟨g1, g2⟩ => ⟨by go_simp, by rfl⟩⟩ ?_
    refine anyG_take (i := 2) (v := .slice (some ⟨g, i, none⟩) (m + 1 + 1) (dZ - i)) rfl (by kernel_rfl) (by kernel_rfl) (by kernel_rfl) (by kernel_rfl) (by kernel_rfl) (by kernel_rfl) (fun _ _ _ h => h) ⟨by rfl, fun W' ⟨g1, g2⟩ => ⟨by go_simp, by rfl⟩⟩ ?_
    refine anyG_take (i := 3) (v := .slice (some ⟨gx, 0, none⟩) (m + 1) dX) rfl (by kernel_rfl) (by kernel_rfl) (by kernel_rfl) (by kernel_rfl) (by kernel_rfl) (by kernel_rfl) (fun _ _ _ h => h) ⟨by rfl, fun W' ⟨g1, g2⟩ => ⟨by go_simp, by rfl⟩⟩ ?_
    refine anyG_one (i := 4) (by kernel_rfl) rfl (fun _ => ⟨hqc, hbc⟩) (fun K hK => ?_)
    go_simp
    refine ⟨trivial, ?_⟩
    refine (CallsIn.inRound l (callsIn_wide.2 HG.out)).mono ?_
    rintro e w' ⟨rfl, k, rfl⟩
    refine hK _ _ ?_
    clear hK K
    refine anyG_take (i := 5) (v := .pointer (some ⟨w4.heap.size + 1, i, none⟩)) rfl (by kernel_rfl) (by kernel_rfl) (by kernel_rfl) (by kernel_rfl) (by kernel_rfl) (by kernel_rfl) (fun _ _ _ h => h) ⟨by rfl, fun W' ⟨g1, g2⟩ => ⟨by go_simp, by rfl⟩⟩ ?_
    have hco1 : (W.drewN (1 + k)).cell? ⟨w4.heap.size + 1, i, none⟩ = some (.int .u64 (nth Q i : Int)) := by
      show W.cell? _ = _
      rw [HM.out.qs.cellAt _ (by omega), ints_get _ _ _ (by omega)]
    have hfo1 : (W.drewN (1 + k)).frozen? ⟨w4.heap.size + 1, i, none⟩ = false := HM.out.qs.frozenAt _
    refine anyG_one (i := 6) (by kernel_rfl) rfl (fun _ => ⟨hqc, hbc⟩) (fun K hK => ?_)
    go_simp
    refine hK _ _ ?_
    clear hK K
    refine anyG_done (by kernel_rfl) (by kernel_rfl) ?_
    have hM1 := (HM.out.kept (Drawn.grown W (1 + k)) (fun _ e => by cases e) hws (by omega) hgR).setQ hws (by omega) hgR i x0
    have hK1 : KeepsOthers W ((W.drewN (1 + k)).setCell ⟨w4.heap.size + 1, i, none⟩ (.int .u64 (x0 : Int))) := (KeepsOthers.of_grownBy (Drawn.grown W (1 + k)) (fun j o e => by cases e)).trans (KeepsOthers.setCell _ _ _)
    obtain ⟨W1, hW1⟩ : ∃ W1, (W.drewN (1 + k)).setCell ⟨w4.heap.size + 1, i, none⟩ (.int .u64 (x0 : Int)) = W1 := ⟨_, rfl⟩
    rw [hW1] at hM1 hK1
    have HM1 := Lib.hid hM1
    have HK1 := Lib.hid hK1
    clear hqc hbc hrc hco1 hfo1
    gi_wp2
    rw [hW1]
    clear hW1
    have hqc := hM1.qb.cell
    have hbc := hM1.bb.cell
    have hqi : W1.cell? ⟨w4.heap.size + 1, i, none⟩ = some (.int .u64 (x0 : Int)) := by
      rw [hM1.qs.cellAt _ (by omega), ints_get _ _ _ (by rw [List.length_set]; omega), nth_set _ _ _ _ (by omega), if_pos rfl]
    have hx0b : x0 < 18446744073709551616 := by rw [← HX0.out]; exact guessV_lt _ _ _ (nth_lt L hLw _)
    have hM1d := hM1.kept (Drawn.grown W1 1) (fun _ e => by cases e) hws (by omega) hgR
    have TK := take_any (w2.heap.size + 1) g (ka + 1) dZ (dZ - i) i (m + 1) dX x0 L (wd V) (some ⟨gx, 0, none⟩) W1.drew hM1d.rest hLw hLl (hM1d.rdx (by omega)) (wd_words V) hVl (by omega) (by omega) hx0b
    have HTK := Lib.hid TK
    have HM1d := Lib.hid hM1d
    clear hM1 hK1 TK hM1d
    refine wpIn_region_any hmx ?_
    change wpAnyIn _ _ _ _ _ _ _ _ _ (World.drew _)
    refine anyG.toAny (s := 7) (B := fun W' => W'.cell? ⟨w2.heap.size, 0, none⟩ = some (.slice (some ⟨gx, 0, none⟩) (m + 1) dX) ∧ W'.cell? ⟨w.heap.size, 0, none⟩ = some (.slice (some ⟨w4.heap.size + 1, 0, none⟩) nq nq) ∧ W'.cell? ⟨w4.heap.size + 1, i, none⟩ = some (.int .u64 (x0 : Int))) ?_
    refine anyG_take (i := 0) (v := .slice (some ⟨g, i, none⟩) (m + 1 + 1) (dZ - i)) rfl (by kernel_rfl) (by kernel_rfl) (by kernel_rfl) (by kernel_rfl) (by kernel_rfl) (by kernel_rfl) (fun _ _ _ h => h) ⟨by rfl, fun W' ⟨g1, g2, g3⟩ => ⟨by go_simp, by rfl⟩⟩ ?_
    refine anyG_take (i := 1) (v := .slice (some ⟨gx, 0, none⟩) (m + 1) dX) rfl (by kernel_rfl) (by kernel_rfl) (by kernel_rfl) (by kernel_rfl) (by kernel_rfl) (by kernel_rfl) (fun _ _ _ h => h) ⟨by rfl, fun W' ⟨g1, g2, g3⟩ => ⟨by go_simp, by rfl⟩⟩ ?_
    refine anyG_take (i := 2) (v := .slice (some ⟨w4.heap.size + 1, 0, none⟩) nq nq) rfl (by kernel_rfl) (by kernel_rfl) (by kernel_rfl) (by kernel_rfl) (by kernel_rfl) (by kernel_rfl) (fun _ _ _ h => h) ⟨by rfl, fun W' ⟨g1, g2, g3⟩ => ⟨by go_simp, by rfl⟩⟩ ?_
    refine anyG_take (i := 3) (v := .int .i64 (i : Int)) rfl (by kernel_rfl) (by kernel_rfl) (by kernel_rfl) (by kernel_rfl) (by kernel_rfl) (by kernel_rfl) (fun _ _ _ h => h) ⟨by rfl, fun W' ⟨g1, g2, g3⟩ => ⟨by go_simp, by rfl⟩⟩ ?_
    refine anyG_take (i := 4) (v := .pointer (some ⟨w4.heap.size + 1, i, none⟩)) rfl (by kernel_rfl) (by kernel_rfl) (by kernel_rfl) (by kernel_rfl) (by kernel_rfl) (by kernel_rfl) (fun _ _ _ h => h) ⟨by rfl, fun W' ⟨g1, g2, g3⟩ => ⟨by go_simp, by rfl⟩⟩ ?_
    refine anyG_take (i := 5) (v := .int .u64 (x0 : Int)) rfl (by kernel_rfl) (by kernel_rfl) (by kernel_rfl) (by kernel_rfl) (by kernel_rfl) (by kernel_rfl) (fun _ _ _ h => h) ⟨by rfl, fun W' ⟨g1, g2, g3⟩ => ⟨by go_simp, by rfl⟩⟩ ?_
    refine anyG_one (i := 6) (by kernel_rfl) rfl (fun _ => ⟨hbc, hqc, hqi⟩) (fun K hK => ?_)
    go_simp
    refine ⟨trivial, ?_⟩
    refine (CallsIn.inRound l (callsIn_wide.2 HTK.out)).mono ?_
    rintro e W2 ⟨L1, o1, rfl, ho1, hT1, hown1, hgr1⟩
    refine hK _ _ ?_
    clear hK K
    have hM2 := HM1d.out.setR hws (by omega) hgR (by omega) hgr1 hown1
    have hK2 : KeepsOthers W W2 := (HK1.out.trans (KeepsOthers.of_grownBy (Drawn.grown W1 1) (fun j o e => by cases e))).trans (KeepsOthers.of_grownBy hgr1 fun j o ej hj => by
      obtain rfl : g = j := by simpa using ej
      exact own_cells HM1d.out.rest hj)
    have HM2 := Lib.hid hM2
    have HK2 := Lib.hid hK2
    have HT1 := Lib.hid hT1
    refine anyG_one (i := 7) (by kernel_rfl) rfl (fun _ => ⟨hM2.bb.cell, hM2.qb.cell, by rw [hM2.qs.cellAt _ (by omega), ints_get _ _ _ (by rw [List.length_set]; omega), nth_set _ _ _ _ (by omega), if_pos rfl]⟩) (fun K hK => ?_)
    clear hM2 hK2 hT1 hown1 hgr1 hbc hqc hqi
    go_simp
    refine hK _ _ ?_
    clear hK K
    refine anyG_done (by kernel_rfl) (by kernel_rfl) ?_
    have hLong : Downs (m := nq) (fun _ => True) (pre ++ [⟨(i, wd0), hi, hwd⟩]) → Long V U (i + 1) L Q := fun hds => by
      obtain ⟨hd0, hidx, _⟩ := hds.ini
      have h := HP.out hd0
      have hl0 := HLN.out
      dsimp only at hidx
      rwa [show nq - pre.length = i + 1 by omega] at h
    have hPl : Downs (m := nq) (fun _ => True) (pre ++ [⟨(i, wd0), hi, hwd⟩]) → Place (ka + 1) (i + (m + 1 + 1)) (18446744073709551616 ^ i * V) (18446744073709551616 ^ (i + (m + 1 + 1))) (natOf L) x0 o1 L1 ∧ x0 + 0 ≤ natOf L / (18446744073709551616 ^ i * V) + 2 := fun hds =>
      place_start HmV.out hVl hLw (hLong hds) HX0.out HT1.out ho1
    have HLong := Lib.hid hLong
    have HPl := Lib.hid hPl
    have HL1 := Lib.hid (show L1.length = ka + 1 ∧ Words L1 from ⟨HT1.out.len, HT1.out.words⟩)
    have hVpos : 0 < V := by
      rcases Nat.eq_zero_or_pos V with h | h
      · have := HmV.out; rw [h, nbits_zero] at this; omega
      · exact h
    clear hLong hPl
    gi_wp2
    gi_loopw [55, 11] (fun cv ov wr => ∃ (t x o : Nat) (L' : List Nat), t ≤ 2 ∧ cv = .int .i64 (t : Int) ∧ ov = .int .u64 (o : Int) ∧ o ≤ 1 ∧ x < 18446744073709551616 ∧ L'.length = ka + 1 ∧ Words L' ∧ ByMid E w.heap.size w2.heap.size w4.heap.size g (ka + 1) dZ nq (m + 1) dX (some ⟨gx, 0, none⟩) (wd V) L' (Q.set i x) wr ∧ KeepsOthers W wr ∧
      (Downs (m := nq) (fun _ => True) (pre ++ [⟨(i, wd0), hi, hwd⟩]) → Place (ka + 1) (i + (m + 1 + 1)) (18446744073709551616 ^ i * V) (18446744073709551616 ^ (i + (m + 1 + 1))) (natOf L) x o L' ∧ x + t ≤ natOf L / (18446744073709551616 ^ i * V) + 2)) (fun cv _ _ => 2 - (intOf cv).toNat)
    case atStart => exact ⟨0, x0, o1, L1, by omega, rfl, rfl, ho1, hx0b, HL1.out.1, HL1.out.2, HM2.out, HK2.out, HPl.out⟩
    case round =>
      clear HM2 HK2 HPl HL1 HT1 HTK HM1d HG HM1 HK1 ho1 hx0b
      obtain ⟨t, x, o, L', ht, rfl, rfl, ho, hxb, hLl', hLw', hM3, hK3, hPl⟩ := hrel
      have hfin : (Downs (m := nq) (fun _ => True) (pre ++ [⟨(i, wd0), hi, hwd⟩]) → o = 0) → KeepsFrom E.heap.size W wr ∧ KpR (w4.heap.size + 1 + 1) (some ⟨w4.heap.size + 1, 0, none⟩) nq (fun _ => True) W wr ∧
          ByI E w.heap.size w2.heap.size w4.heap.size g (ka + 1) dZ nq (m + 1) dX (some ⟨gx, 0, none⟩) (wd V) V U (pre ++ [⟨(i, wd0), hi, hwd⟩]) wr := fun ho0 => by
        refine ⟨hK3.from _, ⟨hM3.it.trans HM.out.it.symm, fun _ => ⟨Q.set i x, by rw [List.length_set, hQl], words_put _ hQw _ _ hxb, trivial, Rd.own hM3.qs⟩⟩, L', Q.set i x, hLl', hLw', by rw [List.length_set, hQl], words_put _ hQw _ _ hxb, hM3, fun hds => ?_⟩
        have hl0 := HLN.out
        obtain ⟨_, hidx, _⟩ := hds.ini
        dsimp only at hidx
        rw [show nq - (pre ++ [(⟨(i, wd0), hi, hwd⟩ : WI nq)]).length = i by rw [List.length_append, List.length_singleton]; omega]
        have h := (hPl hds).1
        rw [ho0 hds] at h
        exact place_end hVpos (HLong.out hds) (by omega) h
      have HF := Lib.hid hfin
      have HP3 := Lib.hid hPl
      have HM3 := Lib.hid hM3
      have HK3 := Lib.hid hK3
      have hqc := hM3.qb.cell
      have hbc := hM3.bb.cell
      have hqi : wr.cell? ⟨w4.heap.size + 1, i, none⟩ = some (.int .u64 (x : Int)) := by
        rw [hM3.qs.cellAt _ (by omega), ints_get _ _ _ (by rw [List.length_set]; omega), nth_set _ _ _ _ (by omega), if_pos rfl]
      have hqf : wr.frozen? ⟨w4.heap.size + 1, i, none⟩ = false := hM3.qs.frozenAt _
      have hD : 0 < 18446744073709551616 ^ i * V := Nat.mul_pos (Nat.pow_pos (by omega)) hVpos
      have HD := Lib.hid hD
      clear hfin hPl hM3 hK3 hD
      by_cases ht2 : t < 2
      · by_cases ho0 : o = 0
        · subst ho0
          have HFF := Lib.hid (HF.out (fun _ => rfl))
          clear HF
          gi_wp2
          exact HFF.out
        · obtain rfl : o = 1 := by omega
          obtain ⟨x', hx'⟩ : ∃ x', (x + 18446744073709551615) % 18446744073709551616 = x' := ⟨_, rfl⟩
          have ex : IntKind.u64.wrap ((x : Int) - 1) = (x' : Int) := by rw [wrap_u64]; omega
          have hx'b : x' < 18446744073709551616 := by omega
          have hM4 := HM3.out.setQ hws (by omega) hgR i x'
          rw [List.set_set] at hM4
          have GV := give_any (w2.heap.size + 1) g (ka + 1) dZ (dZ - i) i (m + 1) dX L' (wd V) (some ⟨gx, 0, none⟩) (wr.setCell ⟨w4.heap.size + 1, i, none⟩ (.int .u64 (x' : Int))) hM4.rest hLw' hLl' (hM4.rdx (by omega)) (wd_words V) hVl (by omega) (by omega)
          have HGV := Lib.hid GV
          have HM4 := Lib.hid hM4
          have HX' := Lib.hid hx'
          have hbc4 := hM4.bb.cell
          have HXB := Lib.hid hx'b
          have HXB0 := Lib.hid hxb
          have t1 : (t : Int) < 2 := by omega
          clear GV hM4 hx' ho0 hxb hx'b ho
          gi_wp2
          refine ⟨trivial, ?_⟩
          refine (CallsIn.inRound l (callsIn_wide.2 HGV.out)).mono ?_
          rintro e W5 ⟨L5, c5, rfl, hc5, hG5, hown5, hgr5⟩
          have hM5 := HM4.out.setR hws (by omega) hgR (by omega) hgr5 hown5
          have HM5 := Lib.hid hM5
          have HK5 := Lib.hid (show KeepsOthers W W5 from (HK3.out.trans (KeepsOthers.setCell _ ⟨w4.heap.size + 1, i, none⟩ (.int .u64 (x' : Int)))).trans (KeepsOthers.of_grownBy hgr5 fun j o ej hj => by
            obtain rfl : g = j := by simpa using ej
            exact own_cells HM4.out.rest hj))
          have HP5 := Lib.hid (show Downs (m := nq) (fun _ => True) (pre ++ [⟨(i, wd0), hi, hwd⟩]) → Place (ka + 1) (i + (m + 1 + 1)) (18446744073709551616 ^ i * V) (18446744073709551616 ^ (i + (m + 1 + 1))) (natOf L) x' (1 - c5) L5 ∧ x' + (t + 1) ≤ natOf L / (18446744073709551616 ^ i * V) + 2 from fun hds => by
            obtain ⟨h1, h2⟩ := HP3.out hds
            have hv := hG5.val
            rw [natOf_wd] at hv
            obtain ⟨h3, h4⟩ := h1.back HD.out (by omega) hG5.len hG5.words hv hG5.same hc5
            have hq1 := HX'.out
            have hq2 := HXB0.out
            have hq3 : x' = x - 1 := by clear hv h4 h2 h1; omega
            rw [hq3]
            exact ⟨h4, by omega⟩)
          have HG5 := Lib.hid hG5
          have e5 : IntKind.u64.wrap (1 - (c5 : Int)) = ((1 - c5 : Nat) : Int) := by rw [wrap_u64]; omega
          clear hM5 hG5 hown5 hgr5
          gi_wp2
          go_roundw
          case rel => exact ⟨t + 1, x', 1 - c5, L5, by omega, by go_num, by go_num, by omega, HXB.out, HG5.out.len, HG5.out.words, HM5.out, HK5.out, HP5.out⟩
          case measure => simp [intOf]; omega
      · have HFF := Lib.hid (HF.out (fun hds => by
          obtain ⟨h1, h2⟩ := HP3.out hds
          rcases Nat.eq_zero_or_pos o with h | h
          · exact h
          · have := h1.more HD.out (by omega)
            omega))
        obtain rfl : t = 2 := by omega
        clear HF
        gi_wp2
        exact HFF.out
  case done =>
    rintro D ys W hD ⟨hds, hyl⟩ ⟨L, Q, hLl, hLw, hQl, hQw, hM, hP⟩ hK
    have hfin := hP hds
    rw [hyl, Nat.sub_self] at hfin
    obtain ⟨eQ, eL⟩ := long_end hfin
    have h2s : 0 < 2 ^ s := Nat.pow_pos (by omega)
    have eQ2 : natOf Q = natOf a / natOf b := by rw [eQ, ← HV.out, ← HU.out, Nat.mul_div_mul_left _ _ h2s]
    have eL2 : shrS (natOf L) (s : Int) = natOf a % natOf b := by
      unfold shrS
      rw [if_pos (by omega), Int.toNat_natCast, eL, ← HV.out, ← HU.out, Nat.mul_mod_mul_left, Nat.mul_div_cancel_left _ h2s]
    have hQN := natOf_lt Q hQw
    rw [hQl, eQ2] at hQN
    have hQe : Q = words nq (natOf a / natOf b) := words_of Q hQw nq _ hQl eQ2
    have hrow := hM.qs
    rw [hQe] at hrow
    have hrow1 : W.drew.ownsRow (w4.heap.size + 1) 33 1 (.slice (some ⟨w4.heap.size + 1, 0, none⟩) nq nq) nq (ints .u64 (words nq (natOf a / natOf b))) := (Drawn.more 1).own hrow
    obtain ⟨T, hT⟩ : ∃ T, (nbits (natOf a / natOf b) + 63) / 64 = T := ⟨_, rfl⟩
    have hTn := tl_le (words nq (natOf a / natOf b)) (words_words _ _)
    rw [length_words, tl_words _ _ hQN, hT] at hTn
    have DT := dtrim_own W.drew _ nq nq (natOf a / natOf b) _ hrow1 hQN (by omega) (Nat.le_refl _)
    rw [hT] at DT
    have HDT := Lib.hid DT
    have hotr := own_trim hrow1 hQN
    rw [hT] at hotr
    have SR := natShr_any (some ⟨g, 0, none⟩) dZ L W.drew ((Rd.own ((Drawn.more 1).own hM.rest))) hLw (by omega) (by omega) (s : Int)
    rw [hLl, eL2] at SR
    have HSR := Lib.hid SR
    have HOT := Lib.hid hotr
    have HM := Lib.hid hM
    have HK := Lib.hid hK
    have HT := Lib.hid hT
    have hmx : Try.prog.follows .mixedOrders = true := by kernel_rfl
    have hqc := hM.qb.cell
    have hrc := hM.rb.cell
    have hD2 : w4.heap.size + 3 ≤ D := by have := HEs.out; omega
    clear hP hds hyl hK hM hrow hrow1 DT SR hotr eQ eL eQ2 eL2 hQe hfin hM0 bA hT hQw hLw hm hsub hw hw2 hN64
    go_wp2_with fail
    refine (wpIn_wide (n := 9)).1 ?_
    refine only_end ?_
    refine wpIn_region_any hmx ?_
    change wpAnyIn _ _ _ _ _ _ _ _ _ (World.drew _)
    refine anyG.toAny (s := 6) (B := fun W' => W'.cell? ⟨w4.heap.size, 0, none⟩ = some (.slice (some ⟨g, 0, none⟩) (ka + 1) dZ)) ?_
    refine anyG_take (i := 2) (v := .slice (some ⟨g, 0, none⟩) (ka + 1) dZ) rfl (by kernel_rfl) (by kernel_rfl) (by kernel_rfl) (by kernel_rfl) (by kernel_rfl) (by kernel_rfl) (fun _ _ _ h => h) ⟨by rfl, fun W' g1 => ⟨by go_simp, by rfl⟩⟩ ?_
    refine anyG_take (i := 3) (v := .int .i64 (s : Int)) rfl (by kernel_rfl) (by kernel_rfl) (by kernel_rfl) (by kernel_rfl) (by kernel_rfl) (by kernel_rfl) (fun _ _ _ h => h) ⟨by rfl, fun W' g1 => ⟨by go_simp, by rfl⟩⟩ ?_
    refine anyG_one (i := 0) (by kernel_rfl) rfl (fun _ => hrc) (fun K hK => ?_)
    go_simp
    refine hK _ _ ?_
    clear hK K
    refine anyG_one (i := 1) (by kernel_rfl) rfl (fun _ => hrc) (fun K hK => ?_)
    go_simp
    refine ⟨trivial, ?_⟩
    refine (callsIn_wide.2 HDT.out).mono ?_
    rintro e w' ⟨rfl, rfl⟩
    refine hK _ _ ?_
    clear hK K
    refine anyG_one (i := 4) (by kernel_rfl) rfl (fun _ => hrc) (fun K hK => ?_)
    go_simp
    refine ⟨trivial, ?_⟩
    refine (callsIn_wide.2 HSR.out).mono ?_
    rintro e w5 ⟨v5, rfl, own5, b5⟩
    obtain ⟨Z5, d5, rfl, hd5, _⟩ := own_form own5
    refine hK _ _ ?_
    clear hK K
    have hszW := HM.out.size
    have bq5 : Boxed w5 w.heap.size 23 (.slice (some ⟨w4.heap.size + 1, 0, none⟩) nq nq) := (b5.block _ (by show w.heap.size < W.heap.size; omega)).trans HM.out.qb
    have br5 : Boxed w5 w4.heap.size 23 (.slice (some ⟨g, 0, none⟩) (ka + 1) dZ) := (b5.block _ (by show w4.heap.size < W.heap.size; omega)).trans HM.out.rb
    have hq5 := bq5.cell
    have hqf5 := bq5.frozen
    have hr5 := br5.cell
    have g6 := grownBy_setCell' w5 w.heap.size (.slice (some ⟨w4.heap.size + 1, 0, none⟩) T nq)
    have br6 := br5.kept g6 (by simp; omega)
    refine anyG_one (i := 5) (by kernel_rfl) rfl (fun _ => hr5) (fun K hK => ?_)
    go_simp
    refine hK _ _ ?_
    clear hK K
    refine anyG_one (i := 6) (by kernel_rfl) rfl (fun _ => br6.cell) (fun K hK => ?_)
    go_simp
    refine hK _ _ ?_
    clear hK K
    refine anyG_done (by kernel_rfl) (by kernel_rfl) ?_
    have bq6 := bq5.set (.slice (some ⟨w4.heap.size + 1, 0, none⟩) T nq)
    have hoT5 : w5.ownsRow (w4.heap.size + 1) 33 1 (.slice (some ⟨w4.heap.size + 1, 0, none⟩) T nq) T (ints .u64 (wd (natOf a / natOf b))) := own_step HOT.out b5
    have hoT6 := hoT5.kept g6 (.inr (by simp [Value.ownBlock]; omega))
    have ho6 := own5.kept g6 (.inr (by
      intro e
      rcases own5.2 with ⟨hv, _⟩ | ⟨g', cap, cur, hv, hgb, _⟩
      · rw [hv] at e; cases e
      · rw [hv] at e
        have : W.heap.size ≤ g' := hgb
        simp [Value.ownBlock] at e
        omega))
    have hB6 : Below w.heap.size w (w5.setCell ⟨w.heap.size, 0, none⟩ (.slice (some ⟨w4.heap.size + 1, 0, none⟩) T nq)) := (((HBE.out.trans (HM.out.below.mono (by omega))).trans ((Drawn.more 1).below _)).trans (b5.mono (by show w.heap.size ≤ W.heap.size; omega))).setCell (p := ⟨w.heap.size, 0, none⟩) (Nat.le_refl _) _
    have hDW : D < W.heap.size := (Array.getElem?_eq_some_iff.1 HK.out).1
    have hK6 : (w5.setCell ⟨w.heap.size, 0, none⟩ (.slice (some ⟨w4.heap.size + 1, 0, none⟩) T nq)).heap[D]? = some (.deferred (some [])) := (KeepsOthers.setCell w5 ⟨w.heap.size, 0, none⟩ (.slice (some ⟨w4.heap.size + 1, 0, none⟩) T nq)).same D _ ((b5.block D hDW).trans HK.out) rfl
    have HBQ := Lib.hid bq6
    have HO6 := Lib.hid ho6
    have HOT6 := Lib.hid hoT6
    have HB6 := Lib.hid hB6
    have HK6 := Lib.hid hK6
    clear bq5 br5 hq5 hqf5 hr5 g6 br6 bq6 hoT5 hoT6 ho6 hB6 hK6 own5 b5 hqc hrc HM HOT HDT HSR
    go_wp2_with fail
    rw [Exit.noGoto_ret]
    change bodyPostM Fence.wide 9 Try.prog Try.f55 _ Exit.ret _ _
    refine ⟨by simp, .inl ⟨_, _, rfl, run_takeDeferred HK6.out, ?_⟩⟩
    have hcq := cell_kept HBQ.out.cell (grownBy_putObj' _ D (.deferred none)) (fun r e => by cases e; exact ⟨_, HK6.out, rfl⟩)
    have hoT7 := ownsRow_putObj HOT6.out (.deferred none) HK6.out rfl
    have ho7 := ownsRow_putObj HO6.out (.deferred none) HK6.out rfl
    have hBB := HB6.out.trans (belowK_b (w := w) (Nat.le_refl _) _ D _ (.deferred none) (by omega) HK6.out rfl rfl)
    refine ⟨.tuple #[.slice (some ⟨w4.heap.size + 1, 0, none⟩) T nq, .slice Z5 ((nbits (natOf a % natOf b) + 63) / 64) d5], by simp [results, Try.f55, go_sem, hcq], ?_⟩
    have hrl := nbits_mono (Nat.mod_le (natOf a) (natOf b))
    have hra := nbits_natOf a hw'
    exact ⟨_, _, _, _, _, _, rfl, ⟨by rw [← HT.out]; exact length_wd _, by have := Hnq.out; omega, Rd.own hoT7, hTn⟩, ⟨length_wd _, by have := Hna.out; omega, Rd.own ho7, hd5⟩, hBB⟩
  case stop =>
    rintro D c pre W _ _ h _
    exact h.elim
end Go.Proofs.Ytbgaboboakkimaa
/- div.Div, div.Mod. Conditions: as typed (lengths that fit a machine). -/
namespace Go.Proofs.Ytbgaboboakkimaa
open Go.RowKit
set_option maxRecDepth 20000
/-- What Div answers where it divides by one word, or by more. -/
theorem outWord_num {M x : Nat} {w w' : World} {e : Ending} (h : OutWord M x w e w') : ∃ X q d r, e = .returned (.tuple #[.slice X q d, .int .u64 ((r : Nat) : Int), .int .i64 0]) ∧ r = M % x ∧ NatIs w' X q d (M / x) ∧ Below w.heap.size w w' := by
  obtain ⟨X, q, d, e1, e2, e3⟩ := h
  exact ⟨X, q, d, _, e1, rfl, e2, e3⟩
section
variable (A A2 : Option Addr) (c c2 : Nat) (a b : List Nat) (w : World) (hr : Rd .u64 w w.heap.size A a) (hw : Words a) (hl : a.length ≤ 10000) (hc : a.length ≤ c) (hr2 : Rd .u64 w w.heap.size A2 b) (hw2 : Words b) (hl2 : b.length ≤ 10000) (hc2 : b.length ≤ c2)
include hr hw hl hc hr2 hw2 hl2 hc2
set_option maxHeartbeats 1000000 in
theorem div_zero_pf (h0 : natOf b = 0) : Calls Try.prog 35 #[.slice A a.length c, .slice A2 b.length c2] w (OutErr3 5 w) := by
  have _ := And.intro hr (And.intro hw (And.intro hl hc))
  have S := natSmall_any A2 c2 b w hr2 hw2 (by omega) hc2
  rw [h0, show smallV 0 = 0 by simp [smallV], show smallB 0 = true by simp [smallB]] at S
  have HS := Lib.hid S
  clear S h0
  go_enter Try.func35, Try.ntmps35
  go_wp2_with fail
  refine (HS.out).mono ?_
  rintro e w1 ⟨rfl, b1⟩
  go_wp2_with fail
  refine (divWord_zero_pf A a.length c w1).mono ?_
  rintro e w2 ⟨X, d, rfl, b2⟩
  have B2 := b1.trans (b2.mono b1.size)
  go_wp2_with fail
  refine (natOf_any 0 w2 (by omega)).mono ?_
  rintro e w3 ⟨v3, rfl, own3, b3⟩
  obtain ⟨Y, f, rfl, _, _⟩ := own_form own3
  have B3 := B2.trans (b3.mono B2.size)
  rw [nbits_zero]
  clear own3
  go_wp2_with fail
  go_ret3
  exact ⟨X, d, Y, f, rfl, B3⟩
set_option maxHeartbeats 1000000 in
theorem div_ok_pf (h0 : natOf b ≠ 0) : Calls Try.prog 35 #[.slice A a.length c, .slice A2 b.length c2] w (OutDiv (natOf a) (natOf b) w) := by
  have S := natSmall_any A2 c2 b w hr2 hw2 (by omega) hc2
  by_cases hs : natOf b < 18446744073709551616
  · rw [show smallV (natOf b) = ((natOf b : Nat) : Int) by simp [smallV, hs], show smallB (natOf b) = true by simp [smallB, hs]] at S
    have HS := Lib.hid S
    have H0 := Lib.hid h0
    have Hs := Lib.hid hs
    clear S h0 hs
    go_enter Try.func35, Try.ntmps35
    go_wp2_with fail
    refine (HS.out).mono ?_
    rintro e w1 ⟨rfl, b1⟩
    go_wp2_with fail
    refine (divWord_ok_pf A a.length c (natOf b) a w1 rfl ((hr.below b1).more b1.size) hw hl hc (by have := H0.out; omega) Hs.out).mono ?_
    intro e w2 h2
    obtain ⟨X, q, d, r, rfl, hre, hX, b2⟩ := outWord_num h2
    have hrb : r < 18446744073709551616 := by have := Hs.out; have := Nat.mod_lt (natOf a) (show 0 < natOf b by have := H0.out; omega); omega
    have Hre := Lib.hid hre
    have B2 := b1.trans (b2.mono b1.size)
    clear hre h2
    go_wp2_with fail
    refine (natOf_any r w2 hrb).mono ?_
    rintro e w3 ⟨v3, rfl, own3, b3⟩
    obtain ⟨Y, f, rfl, hf, _⟩ := own_form own3
    have B3 := B2.trans (b3.mono B2.size)
    have hX3 := hX.step b3
    have hn1 := nbits_of_lt r 64 hrb
    have hY : NatIs w3 Y ((nbits r + 63) / 64) f (natOf a % natOf b) := by rw [← Hre.out]; exact ⟨length_wd _, by omega, Rd.own own3, hf⟩
    clear own3 hX
    go_wp2_with fail
    go_ret3
    exact ⟨X, q, d, Y, _, f, rfl, hX3, hY, B3⟩
  · rw [show smallV (natOf b) = 0 by simp [smallV, hs], show smallB (natOf b) = false by simp [smallB, hs]] at S
    have HS := Lib.hid S
    have Hs := Lib.hid hs
    clear S h0 hs
    go_enter Try.func35, Try.ntmps35
    go_wp2_with fail
    refine (HS.out).mono ?_
    rintro e w1 ⟨rfl, b1⟩
    go_wp2_with fail
    have r1 := (hr.below b1).more b1.size
    have r2 := (hr2.below b1).more b1.size
    refine (natCmp_any A A2 c c2 a b w1 r1 hw (by omega) hc r2 hw2 (by omega) hc2).mono ?_
    rintro e w2 ⟨rfl, b2⟩
    have B2 := b1.trans (b2.mono b1.size)
    have r1 := (hr.below B2).more B2.size
    have r2 := (hr2.below B2).more B2.size
    by_cases hlt : natOf a < natOf b
    · have hcm : cmpS (natOf a) (natOf b) = -1 := by unfold cmpS; rw [if_pos hlt]
      have Hlt := Lib.hid hlt
      rw [hcm]
      clear hlt hcm
      go_wp2_with fail
      refine (natTrim_any A c a w2 r1 hw (by omega) hc).mono ?_
      rintro e w3 ⟨v3, rfl, own3, b3⟩
      obtain ⟨Y, f, rfl, hf, _⟩ := own_form own3
      have B3 := B2.trans (b3.mono B2.size)
      have hna := nbits_natOf a hw
      have hY : NatIs w3 Y ((nbits (natOf a) + 63) / 64) f (natOf a % natOf b) := by rw [Nat.mod_eq_of_lt Hlt.out]; exact ⟨length_wd _, by omega, Rd.own own3, hf⟩
      have hX : NatIs w3 none 0 0 (natOf a / natOf b) := by
        rw [Nat.div_eq_of_lt Hlt.out]
        have e : wd 0 = [] := by simp [wd, nbits_zero, words]
        exact ⟨by rw [e]; rfl, by omega, by rw [e]; exact Rd.nil, Nat.le_refl _⟩
      clear own3 hna
      go_wp2_with fail
      go_ret3
      exact ⟨none, 0, 0, Y, _, f, rfl, hX, hY, B3⟩
    · have hcm : ¬ cmpS (natOf a) (natOf b) < 0 := by
        unfold cmpS
        rw [if_neg hlt]
        split <;> omega
      have Hlt := Lib.hid hlt
      generalize cmpS (natOf a) (natOf b) = cm at *
      clear hlt
      go_wp2_with fail
      refine (byWords_pf A A2 a.length b.length c c2 a b w2 rfl rfl r1 hw hl hc r2 hw2 hl2 hc2 (by have := Hs.out; omega) (by have := Hlt.out; omega)).mono ?_
      rintro e w3 ⟨X, q, d, Y, r, f, rfl, hX, hY, b3⟩
      have B3 := B2.trans (b3.mono B2.size)
      go_wp2_with fail
      go_ret3
      exact ⟨X, q, d, Y, r, f, rfl, hX, hY, B3⟩
set_option maxHeartbeats 1000000 in
theorem mod_zero_pf (h0 : natOf b = 0) : Calls Try.prog 40 #[.slice A a.length c, .slice A2 b.length c2] w (OutErr 5 w) := by
  have D := Lib.hid (div_zero_pf A A2 c c2 a b w hr hw hl hc hr2 hw2 hl2 hc2 h0)
  clear h0
  go_enter Try.func40, Try.ntmps40
  go_wp2_with fail
  refine (D.out).mono ?_
  rintro e w1 ⟨X, d, Y, f, rfl, b1⟩
  go_wp2_with fail
  go_ret2
  exact ⟨Y, f, rfl, b1⟩
set_option maxHeartbeats 1000000 in
theorem mod_ok_pf (h0 : natOf b ≠ 0) : Calls Try.prog 40 #[.slice A a.length c, .slice A2 b.length c2] w (OutMod (natOf a) (natOf b) w) := by
  have D := Lib.hid (div_ok_pf A A2 c c2 a b w hr hw hl hc hr2 hw2 hl2 hc2 h0)
  clear h0
  go_enter Try.func40, Try.ntmps40
  go_wp2_with fail
  refine (D.out).mono ?_
  rintro e w1 ⟨X, q, d, Y, r, f, rfl, hX, hY, b1⟩
  go_wp2_with fail
  go_ret2
  exact ⟨Y, r, f, rfl, hY, b1⟩
end
end Go.Proofs.Ytbgaboboakkimaa
/- div's contracts, as laws use them. Conditions: as typed (lengths that fit a machine, a capacity that is not below its length). -/
namespace Go.Proofs.Ytbgaboboakkimaa
open Go.RowKit
set_option maxRecDepth 20000
section
variable (A A2 : Option Addr) (c c2 : Nat) (a b : List Nat) (w : World) (hr : Rd .u64 w w.heap.size A a) (hw : Words a) (hl : a.length ≤ 10000) (hc : a.length ≤ c) (hr2 : Rd .u64 w w.heap.size A2 b) (hw2 : Words b) (hl2 : b.length ≤ 10000) (hc2 : b.length ≤ c2)
include hr hw hl hc
include hr2 hw2 hl2 hc2
theorem divDiv_zero (h0 : natOf b = 0) : Calls Try.prog 35 #[.slice A a.length c, .slice A2 b.length c2] w (OutErr3 5 w) := div_zero_pf A A2 c c2 a b w hr hw hl hc hr2 hw2 hl2 hc2 h0
theorem divDiv_ok (h0 : natOf b ≠ 0) : Calls Try.prog 35 #[.slice A a.length c, .slice A2 b.length c2] w (OutDiv (natOf a) (natOf b) w) := div_ok_pf A A2 c c2 a b w hr hw hl hc hr2 hw2 hl2 hc2 h0
theorem divMod_zero (h0 : natOf b = 0) : Calls Try.prog 40 #[.slice A a.length c, .slice A2 b.length c2] w (OutErr 5 w) := mod_zero_pf A A2 c c2 a b w hr hw hl hc hr2 hw2 hl2 hc2 h0
theorem divMod_ok (h0 : natOf b ≠ 0) : Calls Try.prog 40 #[.slice A a.length c, .slice A2 b.length c2] w (OutMod (natOf a) (natOf b) w) := mod_ok_pf A A2 c c2 a b w hr hw hl hc hr2 hw2 hl2 hc2 h0
end
end Go.Proofs.Ytbgaboboakkimaa
/- div's contracts in the form that laws use. Conditions: as typed. -/
namespace Go.Proofs.Ytbgaboboakkimaa
open Go.RowKit
set_option maxRecDepth 20000
section
variable {w : World} {A A2 : Option Addr} {n m c c2 M N : Nat}
theorem bDiv_zero (h : NatIn w A n c M) (k : NatIn w A2 m c2 N) (h0 : N = 0) (hs : n ≤ 10000) (hs2 : m ≤ 10000) : Calls Try.prog 35 #[.slice A n c, .slice A2 m c2] w (OutErr3 5 w) := by
  obtain ⟨l, rfl, rfl, h3, h4, h5, h6⟩ := h
  obtain ⟨l2, rfl, rfl, k3, k4, k5, k6⟩ := k
  exact divDiv_zero A A2 c c2 l l2 w h5 h3 hs h6 k5 k3 hs2 k6 h0
theorem bDiv_ok (h : NatIn w A n c M) (k : NatIn w A2 m c2 N) (h0 : N ≠ 0) (hs : n ≤ 10000) (hs2 : m ≤ 10000) : Calls Try.prog 35 #[.slice A n c, .slice A2 m c2] w (OutDiv M N w) := by
  obtain ⟨l, rfl, rfl, h3, h4, h5, h6⟩ := h
  obtain ⟨l2, rfl, rfl, k3, k4, k5, k6⟩ := k
  exact divDiv_ok A A2 c c2 l l2 w h5 h3 hs h6 k5 k3 hs2 k6 h0
theorem bMod_zero (h : NatIn w A n c M) (k : NatIn w A2 m c2 N) (h0 : N = 0) (hs : n ≤ 10000) (hs2 : m ≤ 10000) : Calls Try.prog 40 #[.slice A n c, .slice A2 m c2] w (OutErr 5 w) := by
  obtain ⟨l, rfl, rfl, h3, h4, h5, h6⟩ := h
  obtain ⟨l2, rfl, rfl, k3, k4, k5, k6⟩ := k
  exact divMod_zero A A2 c c2 l l2 w h5 h3 hs h6 k5 k3 hs2 k6 h0
theorem bMod_ok (h : NatIn w A n c M) (k : NatIn w A2 m c2 N) (h0 : N ≠ 0) (hs : n ≤ 10000) (hs2 : m ≤ 10000) : Calls Try.prog 40 #[.slice A n c, .slice A2 m c2] w (OutMod M N w) := by
  obtain ⟨l, rfl, rfl, h3, h4, h5, h6⟩ := h
  obtain ⟨l2, rfl, rfl, k3, k4, k5, k6⟩ := k
  exact divMod_ok A A2 c c2 l l2 w h5 h3 hs h6 k5 k3 hs2 k6 h0
theorem cmp_less (h : NatIn w A n c M) (k : NatIn w A2 m c2 N) (hlt : M < N) : Calls Try.prog 27 #[.slice A n c, .slice A2 m c2] w fun e w' => e = .returned (.int .i64 (-1)) ∧ Below w.heap.size w w' := by
  have h := bCmp h k
  rwa [show cmpS M N = -1 by unfold cmpS; rw [if_pos hlt]] at h
end
theorem bOf (w : World) (n : Nat) (hn : n < 18446744073709551616) : Calls Try.prog 30 #[.int .u64 (n : Int)] w (OutN n w) :=
  Calls.mono (natOf_any n w hn) fun _ _ h => h.out (by have := nbits_of_lt n 64 hn; omega)
/-! The examples -/
end Go.Proofs.Ytbgaboboakkimaa
/- Plain facts on common divisors: the least x for which a x is the greatest common divisor and so often b; inverses. No condition but those typed; no program is named. -/
namespace Go.Proofs.Ytbgaboboakkimaa
/-- x and y are the least with M x = gcd + N y (0 and 0 where there may be none). -/
structure ExtIs (M N x y : Nat) : Prop where
  zero : M = 0 → x = 0 ∧ y = 0
  eq : M ≠ 0 → M * x = Nat.gcd M N + N * y
  least : M ≠ 0 → ∀ x' y', M * x' = Nat.gcd M N + N * y' → x ≤ x'
  low : N = 0 → y = 0
section
variable {M N x y : Nat}
theorem ExtIs.one (h : ExtIs M N x y) (hM : M ≠ 0) (hN : N = 0) : x = 1 ∧ y = 0 := by
  have h1 := h.eq hM
  have h2 := h.low hN
  subst hN
  rw [Nat.gcd_zero_right, Nat.zero_mul, Nat.add_zero] at h1
  exact ⟨Nat.eq_of_mul_eq_mul_left (Nat.pos_of_ne_zero hM) (by rw [h1, Nat.mul_one]), h2⟩
theorem ExtIs.pos (h : ExtIs M N x y) (hM : M ≠ 0) : 1 ≤ x := by
  have h1 := h.eq hM
  have h2 := Nat.gcd_pos_of_pos_left N (Nat.pos_of_ne_zero hM)
  rcases Nat.eq_zero_or_pos x with h3 | h3
  · rw [h3, Nat.mul_zero] at h1; omega
  · exact h3
theorem ExtIs.le (h : ExtIs M N x y) (hM : M ≠ 0) (hN : N ≠ 0) : x ≤ N / Nat.gcd M N := by
  have hg := Nat.gcd_pos_of_pos_left N (Nat.pos_of_ne_zero hM)
  obtain ⟨a, ha⟩ := Nat.gcd_dvd_left M N
  obtain ⟨b, hb⟩ := Nat.gcd_dvd_right M N
  have h1 := h.eq hM
  have h2 := h.least hM
  have ha0 : 0 < a := by
    rcases Nat.eq_zero_or_pos a with h3 | h3
    · rw [h3, Nat.mul_zero] at ha; exact absurd ha hM
    · exact h3
  generalize Nat.gcd M N = g at *
  have e : N / g = b := by rw [hb, Nat.mul_div_cancel_left _ hg]
  rw [e]
  rcases Nat.lt_or_ge b x with h3 | h3
  · exfalso
    obtain ⟨t, rfl⟩ : ∃ t, x = b + t := ⟨x - b, by omega⟩
    have ht : 1 ≤ t := by omega
    have e2 : M * b = N * a := by rw [ha, hb, Nat.mul_assoc, Nat.mul_assoc, Nat.mul_comm a b]
    have e3 : N * a + M * t = g + N * y := by rw [← e2, ← Nat.mul_add]; exact h1
    have h4 : g ≤ M * t := by
      rw [ha, Nat.mul_assoc]
      exact Nat.le_mul_of_pos_right g (Nat.mul_pos ha0 ht)
    have h5 : N * a ≤ N * y := by omega
    have h6 : a ≤ y := Nat.le_of_mul_le_mul_left h5 (Nat.pos_of_ne_zero hN)
    obtain ⟨s, rfl⟩ : ∃ s, y = a + s := ⟨y - a, by omega⟩
    have h7 := h2 t s (by rw [Nat.mul_add] at e3; omega)
    have hb0 : 0 < b := by
      rcases Nat.eq_zero_or_pos b with h8 | h8
      · rw [h8, Nat.mul_zero] at hb; exact absurd hb hN
      · exact h8
    omega
  · exact h3
theorem ExtIs.below (h : ExtIs M N x y) (hM : M ≠ 0) (hN : N ≠ 0) : x < N / Nat.gcd M N ∨ N / Nat.gcd M N = 1 := by
  have hle := h.le hM hN
  rcases Nat.lt_or_ge x (N / Nat.gcd M N) with h1 | h1
  · exact .inl h1
  · right
    have hx : x = N / Nat.gcd M N := by omega
    have hg := Nat.gcd_pos_of_pos_left N (Nat.pos_of_ne_zero hM)
    obtain ⟨a, ha⟩ := Nat.gcd_dvd_left M N
    obtain ⟨b, hb⟩ := Nat.gcd_dvd_right M N
    have h2 := h.eq hM
    generalize Nat.gcd M N = g at *
    have e : N / g = b := by rw [hb, Nat.mul_div_cancel_left _ hg]
    rw [e] at hx ⊢
    subst hx
    have e2 : M * x = N * a := by rw [ha, hb, Nat.mul_assoc, Nat.mul_assoc, Nat.mul_comm a x]
    have e3 : N * a = g + N * y := by rw [← e2]; exact h2
    have hya : y < a := by
      rcases Nat.lt_or_ge y a with h3 | h3
      · exact h3
      · have := Nat.mul_le_mul_left N h3; omega
    obtain ⟨t, rfl⟩ : ∃ t, a = y + 1 + t := ⟨a - (y + 1), by omega⟩
    have e4 : N * (1 + t) = g := by rw [Nat.add_assoc, Nat.mul_add] at e3; omega
    have h4 : N ≤ g := by rw [← e4]; exact Nat.le_mul_of_pos_right N (by omega)
    rw [hb] at h4
    have h5 : x ≤ 1 := Nat.le_of_mul_le_mul_left (by rw [Nat.mul_one]; exact h4) hg
    rcases Nat.eq_zero_or_pos x with h6 | h6
    · rw [h6, Nat.mul_zero] at hb; exact absurd hb hN
    · omega
end
theorem gcd_three (a b k : Nat) : Nat.gcd (a + b * k) b = Nat.gcd a b := Nat.gcd_add_mul_left_left b a k
theorem gcd_self_mul (a k : Nat) : Nat.gcd a (a * k) = a := Nat.gcd_mul_right_right k a
theorem nbits_gcd (a b : Nat) : nbits (Nat.gcd a b) ≤ nbits a + nbits b := by
  rcases Nat.eq_zero_or_pos a with h | h
  · rw [h, Nat.gcd_zero_left]; omega
  · have := nbits_mono (Nat.gcd_le_left b h); omega
/-- An inverse's inverse. -/
theorem inv_inv (a m v u : Nat) (hu : u < m) (h1 : v * a % m = 1 % m) (h2 : u * v % m = 1 % m) : u = a % m := by
  have e1 : u * (v * a) % m = u % m := by rw [Nat.mul_mod, h1, ← Nat.mul_mod, Nat.mul_one]
  have e2 : u * (v * a) % m = a % m := by rw [← Nat.mul_assoc, Nat.mul_mod, h2, ← Nat.mul_mod, Nat.one_mul]
  rw [← e2, e1, Nat.mod_eq_of_lt hu]
theorem inv_gcd (a m v : Nat) (h1 : v * a % m = 1 % m) : Nat.gcd v m = 1 := by
  have h2 : Nat.gcd (v * a) m = 1 := by
    rw [Nat.gcd_comm, Nat.gcd_rec, h1, ← Nat.gcd_rec, Nat.gcd_one_right]
  exact Nat.Coprime.coprime_mul_right h2
theorem ext_low {M N x y : Nat} (h : ExtIs M N x y) (hM : M ≠ 0) (hN : N ≠ 0) : y ≤ M * x := by
  have h1 := h.eq hM
  have h2 := Nat.le_mul_of_pos_left y (Nat.pos_of_ne_zero hN)
  omega
theorem gcd_parts (M N : Nat) (hM : M ≠ 0) : Nat.gcd (M / Nat.gcd M N) (N / Nat.gcd M N) = 1 :=
  Nat.gcd_div_gcd_div_gcd_of_pos_left (Nat.pos_of_ne_zero hM)
theorem inv_uniq (a m v u : Nat) (hv : v < m) (hu : u < m) (h1 : v * a % m = 1 % m) (h2 : u * a % m = 1 % m) : v = u := by
  have e1 : v * (u * a) % m = v % m := by rw [Nat.mul_mod, h2, ← Nat.mul_mod, Nat.mul_one]
  have e2 : v * (u * a) % m = u % m := by rw [Nat.mul_left_comm, Nat.mul_mod, h1, ← Nat.mul_mod, Nat.mul_one]
  rw [Nat.mod_eq_of_lt hv] at e1
  rw [Nat.mod_eq_of_lt hu] at e2
  omega
theorem inv_gcd2 (a m v : Nat) (h1 : v * a % m = 1 % m) : Nat.gcd a m = 1 := inv_gcd v m a (by rw [Nat.mul_comm]; exact h1)
end Go.Proofs.Ytbgaboboakkimaa
/- The steps of divisions: what stands between two of them, and what they come to. No condition but those typed; no program is named. -/
namespace Go.Proofs.Ytbgaboboakkimaa
/-- Between two steps of M and N. -/
structure GMid (M N a b last next : Nat) (less : Bool) : Prop where
  gcd : Nat.gcd a b = Nat.gcd M N
  sum : a * next + b * last = N
  lo : less = false → (∃ Y, M * last = a + N * Y) ∧ ∃ Z, M * next + b = N * Z
  hi : less = true → (∃ Y, M * last + a = N * Y) ∧ ∃ Z, M * next = b + N * Z
  ord : (last = 1 ∧ next = 0 ∧ less = false ∧ a = M ∧ b = N) ∨ (b < a ∧ 1 ≤ next ∧ (less = false → 1 ≤ last ∧ last ≤ next) ∧ (less = true → last < next))
theorem gcd_next (a b : Nat) : Nat.gcd b (a % b) = Nat.gcd a b := by rw [Nat.gcd_comm b, ← Nat.gcd_rec, Nat.gcd_comm]
theorem GMid.start (M N : Nat) : GMid M N M N 1 0 false := ⟨rfl, by omega, fun _ => ⟨⟨0, by omega⟩, 1, by omega⟩, fun h => (by cases h), .inl ⟨rfl, rfl, rfl, rfl, rfl⟩⟩
section
variable {M N a b last next : Nat} {less : Bool}
theorem GMid.step (h : GMid M N a b last next less) (hb : b ≠ 0) : GMid M N b (a % b) next (last + a / b * next) (!less) := by
  obtain ⟨h1, h2, h3, h4, h5⟩ := h
  have hq := Nat.div_add_mod a b
  have hr := Nat.mod_lt a (Nat.pos_of_ne_zero hb)
  have hg := gcd_next a b
  have hq1 : b < a → 1 ≤ a / b := fun h => Nat.div_pos (by omega) (by omega)
  generalize a / b = q at *
  generalize a % b = r at *
  refine ⟨by omega, ?_, fun h => ?_, fun h => ?_, .inr ⟨hr, ?_, fun h => ?_, fun h => ?_⟩⟩
  · rw [← h2, ← hq]; grind
  · obtain ⟨⟨Y, hY⟩, Z, hZ⟩ := h4 (by simpa using h)
    refine ⟨⟨Z, hZ⟩, Y + q * Z, ?_⟩
    have e : M * (q * next) = q * (b + N * Z) := by rw [← hZ]; grind
    grind
  · obtain ⟨⟨Y, hY⟩, Z, hZ⟩ := h3 (by simpa using h)
    refine ⟨⟨Z, hZ⟩, Y + q * Z, ?_⟩
    have e : M * (q * next) + q * b = q * (N * Z) := by rw [← hZ]; grind
    grind
  · rcases h5 with ⟨rfl, rfl, _⟩ | ⟨h, h6, _⟩
    · omega
    · have := Nat.mul_le_mul (hq1 h) h6; omega
  · rcases h5 with ⟨_, _, rfl, _⟩ | ⟨h6, h7, _, h8⟩
    · cases h
    · have := h8 (by simpa using h)
      have := Nat.mul_le_mul_right next (hq1 h6)
      omega
  · rcases h5 with ⟨rfl, rfl, _⟩ | ⟨h6, h7, h8, _⟩
    · omega
    · have := h8 (by simpa using h)
      have := Nat.mul_le_mul_right next (hq1 h6)
      omega
theorem GMid.next_le (h : GMid M N a b last next less) : next ≤ N := by
  rcases h.ord with ⟨_, rfl, _⟩ | ⟨h1, _⟩
  · omega
  · have h2 := Nat.le_mul_of_pos_left next (show 0 < a by omega)
    have := h.sum
    omega
theorem GMid.last_le (h : GMid M N a b last next less) : last ≤ N ∨ last ≤ 1 := by
  rcases h.ord with ⟨rfl, _⟩ | ⟨_, _, h1, h2⟩
  · omega
  · have := h.next_le
    cases less
    · have := h1 rfl; omega
    · have := h2 rfl; omega
/-- How often, behind the last step. -/
def timesOf (last next : Nat) (less : Bool) : Nat := if less then next - last else last
theorem GMid.sub (h : GMid M N a b last next true) : last ≤ next := by
  rcases h.ord with ⟨_, _, h, _⟩ | ⟨_, _, _, h1⟩
  · cases h
  · have := h1 rfl; omega
theorem GMid.times_le (h : GMid M N a b last next less) : timesOf last next less ≤ N ∨ timesOf last next less ≤ 1 := by
  have h1 := h.next_le
  have h2 := h.last_le
  unfold timesOf
  cases less
  · simpa using h2
  · simp; omega
theorem GMid.end_gcd (h : GMid M N a 0 last next less) : a = Nat.gcd M N := by rw [← h.gcd, Nat.gcd_zero_right]
theorem GMid.end_pos (h : GMid M N a 0 last next less) : 1 ≤ timesOf last next less := by
  unfold timesOf
  rcases h.ord with ⟨rfl, rfl, rfl, _⟩ | ⟨_, _, h1, h2⟩
  · simp
  · cases less
    · have := h1 rfl; simp; omega
    · have := h2 rfl; simp; omega
theorem GMid.end_eq (h : GMid M N a 0 last next less) (hM : M ≠ 0) : ∃ y, M * timesOf last next less = Nat.gcd M N + N * y := by
  have hg := h.end_gcd
  rw [← hg]
  cases less
  · obtain ⟨⟨Y, hY⟩, _⟩ := h.lo rfl
    exact ⟨Y, hY⟩
  · obtain ⟨⟨Y, hY⟩, Z, hZ⟩ := h.hi rfl
    have h1 := h.end_pos
    have h2 := h.sub
    obtain ⟨t, rfl⟩ : ∃ t, next = last + t := ⟨next - last, by omega⟩
    have e : timesOf last (last + t) true = t := by simp [timesOf]
    rw [e] at h1 ⊢
    rw [Nat.mul_add] at hZ
    have h3 : a ≤ M * t := by
      have := Nat.gcd_le_left N (Nat.pos_of_ne_zero hM)
      have := Nat.le_mul_of_pos_right M h1
      omega
    have h4 : N * Y ≤ N * Z := by omega
    rcases Nat.lt_or_ge Z Y with h5 | h5
    · rcases Nat.eq_zero_or_pos N with h0 | h0
      · subst h0; exact ⟨0, by omega⟩
      · have := Nat.mul_le_mul_left N h5; rw [Nat.mul_succ] at this; omega
    · obtain ⟨s, rfl⟩ : ∃ s, Z = Y + s := ⟨Z - Y, by omega⟩
      rw [Nat.mul_add] at hZ
      exact ⟨s, by omega⟩
theorem GMid.end_least (h : GMid M N a 0 last next less) (hM : M ≠ 0) (x' y' : Nat) (h' : M * x' = Nat.gcd M N + N * y') : timesOf last next less ≤ x' := by
  obtain ⟨y, hy⟩ := h.end_eq hM
  have hp := h.end_pos
  have hgp := Nat.gcd_pos_of_pos_left N (Nat.pos_of_ne_zero hM)
  have hx1 : 1 ≤ x' := by
    rcases Nat.eq_zero_or_pos x' with h0 | h0
    · rw [h0, Nat.mul_zero] at h'; omega
    · exact h0
  rcases h.ord with ⟨rfl, rfl, rfl, _⟩ | ⟨ha, hn, h1, h2⟩
  · simpa [timesOf] using hx1
  · have hle : timesOf last next less ≤ next := by
      unfold timesOf
      cases less
      · have := h1 rfl; simp; omega
      · simp
    have hs := h.sum
    rw [Nat.zero_mul, Nat.add_zero] at hs
    have hg := h.end_gcd
    obtain ⟨m, hm⟩ := Nat.gcd_dvd_left M N
    have hc : Nat.gcd m next = 1 := by
      have := Nat.gcd_mul_left a m next
      rw [hs, show a * m = M by rw [hg]; exact hm.symm, ← hg] at this
      exact Nat.eq_of_mul_eq_mul_left (show 0 < a by omega) (by omega)
    rw [← hg] at hm h' hy
    generalize timesOf last next less = x at *
    rcases Nat.lt_or_ge x' x with hlt | hge
    · exfalso
      obtain ⟨t, rfl⟩ : ∃ t, x = x' + t := ⟨x - x', by omega⟩
      have ha0 : 0 < a := by omega
      subst hs
      have e1 : m * x' = 1 + next * y' := by
        apply Nat.eq_of_mul_eq_mul_left ha0
        rw [Nat.mul_add, Nat.mul_one, ← Nat.mul_assoc, ← Nat.mul_assoc, ← hm]; exact h'
      have e2 : m * (x' + t) = 1 + next * y := by
        apply Nat.eq_of_mul_eq_mul_left ha0
        rw [Nat.mul_add a 1, Nat.mul_one, ← Nat.mul_assoc, ← Nat.mul_assoc, ← hm]; exact hy
      rw [Nat.mul_add] at e2
      have e3 : m * t + next * y' = next * y := by omega
      have hd : next ∣ m * t := (Nat.dvd_add_left (Nat.dvd_mul_right next y')).1 (by rw [e3]; exact Nat.dvd_mul_right next y)
      have hd2 : next ∣ t := Nat.Coprime.dvd_of_dvd_mul_left (by rw [Nat.coprime_iff_gcd_eq_one, Nat.gcd_comm]; exact hc) hd
      have := Nat.le_of_dvd (by omega) hd2
      omega
    · exact hge
end
/-- Gcd, and the least number from 1 on whose product leaves it. -/
structure LeastIs (M N x : Nat) : Prop where
  eq : M ≠ 0 → ∃ y, M * x = Nat.gcd M N + N * y
  least : M ≠ 0 → ∀ x' y', M * x' = Nat.gcd M N + N * y' → x ≤ x'
  le : x ≤ N ∨ x ≤ 1
theorem GMid.done {M N a last next : Nat} {less : Bool} (h : GMid M N a 0 last next less) : LeastIs M N (timesOf last next less) := ⟨h.end_eq, h.end_least, h.times_le⟩
/-- With the other number: Ext. -/
theorem LeastIs.ext {M N x : Nat} (h : LeastIs M N x) (hM : M ≠ 0) (y : Nat) (hy : y = if N = 0 then 0 else (M * x - Nat.gcd M N) / N) : ExtIs M N x y := by
  obtain ⟨y', e⟩ := h.eq hM
  refine ⟨fun h => absurd h hM, fun _ => ?_, h.least, fun h0 => by rw [hy, if_pos h0]⟩
  by_cases h0 : N = 0
  · rw [hy, if_pos h0]; rw [e, h0]; omega
  · rw [if_neg h0, show M * x - Nat.gcd M N = N * y' by omega, Nat.mul_div_cancel_left _ (Nat.pos_of_ne_zero h0)] at hy
    rw [hy, e]
/-- An inverse of what the number leaves. -/
theorem LeastIs.inv {M N x : Nat} (h : LeastIs M N x) (hg : Nat.gcd M N = 1) : x * M % N = 1 % N := by
  by_cases hM : M = 0
  · rw [hM, Nat.gcd_zero_left] at hg
    rw [hg]; omega
  · obtain ⟨y, e⟩ := h.eq hM
    rw [Nat.mul_comm, e, hg, Nat.add_mul_mod_self_left]
theorem gcd_rest (A N : Nat) : Nat.gcd (A % N) N = Nat.gcd A N := by rw [Nat.gcd_comm A N, Nat.gcd_rec N A]
theorem LeastIs.inv_rest {A N x : Nat} (h : LeastIs (A % N) N x) (hg : Nat.gcd A N = 1) : x % N * A % N = 1 % N := by
  have hg2 : Nat.gcd (A % N) N = 1 := by rw [gcd_rest, hg]
  have e := h.inv hg2
  rw [Nat.mod_mul_mod]
  rw [Nat.mul_mod_mod] at e
  exact e
theorem nbits_div (a b : Nat) : nbits (a / b) ≤ nbits a := nbits_mono (Nat.div_le_self a b)
end Go.Proofs.Ytbgaboboakkimaa
/- gcd's steps of numbers of one word. Conditions: as typed. -/
namespace Go.Proofs.Ytbgaboboakkimaa
open Go.RowKit
set_option maxRecDepth 20000
theorem divide_ok (a b : Nat) (w : World) (ha : a < 18446744073709551616) (h0 : b ≠ 0) : Calls Try.prog 32 #[.int .u64 a, .int .u64 b] w fun e w' => e = .returned (.tuple #[.int .u64 ((a / b : Nat) : Int), .int .u64 ((a % b : Nat) : Int), .int .i64 0]) ∧ Below w.heap.size w w' := by
  have hb0 : ((b : Int) == 0) = false := by simp; omega
  have hb1 : (b : Int) ≠ 0 := by omega
  have hql : a / b < 18446744073709551616 := Nat.lt_of_le_of_lt (Nat.div_le_self _ _) ha
  have hq : IntKind.u64.wrap ((a : Int) / (b : Int)) = ((a / b : Nat) : Int) := by rw [← Int.natCast_ediv]; generalize a / b = q at hql; rw [IntKind.wrap_u64]; omega
  go_enter Try.func32, Try.ntmps32
  go_wp2_with fail
  go_region
  go_wp2_with fail
  go_ret3
  exact ⟨by simp, (Drawn.more 1).below _⟩
theorem divide_no (a : Nat) (w : World) : Calls Try.prog 32 #[.int .u64 a, .int .u64 0] w fun e w' => e = .returned (.tuple #[.int .u64 0, .int .u64 0, .int .i64 5]) ∧ Below w.heap.size w w' := by
  go_enter Try.func32, Try.ntmps32
  go_wp2_with fail
  go_ret3
  exact ⟨rfl, Below.refl _ _⟩
theorem tell1 (q : Nat) (w : World) : Calls Try.prog 33 #[.int .u64 q] w fun e w' => e = .returned (.tuple #[]) ∧ w = w' := by
  go_enter Try.func33, Try.ntmps33
  go_wp2_with fail
  go_end0
  exact ⟨rfl, rfl⟩
set_option maxHeartbeats 1000000 in
theorem steps1_plain (M N : Nat) (w : World) (hM : M < 18446744073709551616) (hN : N < 18446744073709551616) : Calls Try.prog 31 #[.int .u64 M, .int .u64 N, .func (.func 32) #[] #[], .func (.func 33) #[] #[]] w fun e w' => e = .returned (.int .u64 (Nat.gcd M N : Nat)) ∧ Below w.heap.size w w' := by
  go_enter Try.func31, Try.ntmps31
  go_wp2_with fail
  go_step3
  go_wp2_with fail
  go_step3
  go_wp2_with fail
  go_loopw [0, 1] (fun av bv wr => ∃ a b : Nat, av = .int .u64 a ∧ bv = .int .u64 b ∧ a < 18446744073709551616 ∧ b < 18446744073709551616 ∧ Nat.gcd a b = Nat.gcd M N ∧ Below w.heap.size w wr) (fun _ bv _ => (intOf bv).toNat)
  case atStart => exact ⟨M, N, rfl, rfl, hM, hN, rfl, Below.refl _ _⟩
  case round =>
    obtain ⟨a, b, rfl, rfl, ha, hb, hg, hB⟩ := hrel
    by_cases h0 : b = 0
    · subst h0
      rw [Nat.gcd_zero_right] at hg
      have HG := Lib.hid hg
      clear hg
      go_wp2_with fail
      refine (divide_no a wr).mono ?_
      rintro e w1 ⟨rfl, b1⟩
      have B1 := hB.trans (b1.mono hB.size)
      go_wp2_with fail
      rw [Exit.noGoto_ret]
      go_ret
      exact ⟨by rw [← HG.out]; rfl, B1⟩
    · have D := Lib.hid (divide_ok a b wr ha h0)
      have hqb : a / b < 18446744073709551616 := Nat.lt_of_le_of_lt (Nat.div_le_self _ _) ha
      have hrb := Nat.mod_lt a (Nat.pos_of_ne_zero h0)
      have hn : Nat.gcd b (a % b) = Nat.gcd M N := by rw [gcd_next, hg]
      generalize a / b = q at *
      generalize a % b = r at *
      have HN := Lib.hid hn
      clear hn hg h0
      go_wp2_with fail
      refine (D.out).mono ?_
      rintro e w1 ⟨rfl, b1⟩
      have B1 := hB.trans (b1.mono hB.size)
      go_wp2_with fail
      refine (tell1 q w1).mono ?_
      rintro e w2 ⟨rfl, rfl⟩
      go_wp2_with fail
      go_roundw
      case rel => exact ⟨b, r, rfl, rfl, hb, by omega, HN.out, B1⟩
      case measure => simp [intOf]; omega
/-- The three variables that leastWord's steps are told to. -/
structure Box1 (u : World) (L N S : Nat) (last next : Nat) (less : Bool) : Prop where
  last : Boxed u L 33 (.int .u64 (last : Int))
  next : Boxed u N 33 (.int .u64 (next : Int))
  less : Boxed u S 4 (.bool less)
theorem Box1.kept {u u' : World} {L N S last next : Nat} {less : Bool} (h : Box1 u L N S last next less) (hb : Below u.heap.size u u') : Box1 u' L N S last next less :=
  have hg : u.grownBy u' none := ⟨hb.os, hb.tape, hb.output, hb.size, fun i hi _ => hb.block i hi⟩
  ⟨h.last.kept hg (by simp), h.next.kept hg (by simp), h.less.kept hg (by simp)⟩
theorem Box1.turn {u : World} {L N S last next last' next' : Nat} {less less' : Bool} (h : Box1 u L N S last next less) (h1 : L ≠ N) (h2 : L ≠ S) (h3 : N ≠ S) :
    Box1 (((u.setCell ⟨L, 0, none⟩ (.int .u64 (last' : Int))).setCell ⟨N, 0, none⟩ (.int .u64 (next' : Int))).setCell ⟨S, 0, none⟩ (.bool less')) L N S last' next' less' :=
  ⟨((h.last.set _).other h1 _).other h2 _, ((h.next.other h1.symm _).set _).other h3 _, ((h.less.other h2.symm _).other h3.symm _).set _⟩
set_option maxHeartbeats 1000000 in
theorem tellWord (base L N S q last next : Nat) (less : Bool) (w : World) (h : Box1 w L N S last next less) (h1 : L ≠ N) (h2 : L ≠ S) (h3 : N ≠ S) (hL : base ≤ L) (hN : base ≤ N) (hS : base ≤ S) (hq : last + q * next < 18446744073709551616) :
    Calls Try.prog 80 #[.int .u64 q, .pointer (some ⟨N, 0, none⟩), .pointer (some ⟨L, 0, none⟩), .pointer (some ⟨S, 0, none⟩)] w fun e w' => e = .returned (.tuple #[]) ∧ Box1 w' L N S next (last + q * next) (!less) ∧ Below base w w' := by
  have c1 := h.last.cell
  have c2 := h.next.cell
  have c3 := h.less.cell
  have f1 := h.last.frozen
  have f2 := h.next.frozen
  have f3 := h.less.frozen
  have hnot : ∀ (x : Bool) (w : World), (Op.unary .not (.bool x)).run Try.prog w = .ok (.bool (!x)) w := fun _ _ => rfl
  obtain ⟨P, hP⟩ : ∃ P, q * next = P := ⟨_, rfl⟩
  rw [hP] at hq ⊢
  have hPi : (q : Int) * (next : Int) = (P : Int) := by rw [← hP, Int.natCast_mul]
  have h1' := h1.symm
  have h2' := h2.symm
  have h3' := h3.symm
  have H := Lib.hid h
  clear h hP
  go_enter Try.func80, Try.ntmps80
  go_wp2_with fail
  go_region
  go_wp2_with fail
  go_end0
  have T := H.out.turn (last' := next) (next' := last + P) (less' := !less) h1 h2 h3
  rw [Int.natCast_add] at T
  exact ⟨rfl, ⟨T.last, by have h := T.next; rw [Int.natCast_add]; exact h, T.less⟩, ((((Below.refl base w).setCell (p := ⟨L, 0, none⟩) hL _).setCell (p := ⟨N, 0, none⟩) hN _).setCell (p := ⟨S, 0, none⟩) hS _).trans ((Drawn.more 1).below _)⟩
set_option maxHeartbeats 1000000 in
theorem steps1_least (base L N S A B : Nat) (w : World) (hA : A < 18446744073709551616) (hB : B < 18446744073709551616) (h : Box1 w L N S 1 0 false) (h1 : L ≠ N) (h2 : L ≠ S) (h3 : N ≠ S) (hL : base ≤ L) (hN : base ≤ N) (hS : base ≤ S) :
    Calls Try.prog 31 #[.int .u64 A, .int .u64 B, .func (.func 32) #[] #[], .func (.func 80) #[] #[.pointer (some ⟨N, 0, none⟩), .pointer (some ⟨L, 0, none⟩), .pointer (some ⟨S, 0, none⟩)]] w fun e w' =>
      ∃ last next less, e = .returned (.int .u64 (Nat.gcd A B : Nat)) ∧ Box1 w' L N S last next less ∧ GMid A B (Nat.gcd A B) 0 last next less ∧ Below base w w' := by
  have hbs : base ≤ w.heap.size := by have := h.last.lt; omega
  have H := Lib.hid h
  clear h
  go_enter Try.func31, Try.ntmps31
  go_wp2_with fail
  go_step3
  go_wp2_with fail
  go_step3
  go_wp2_with fail
  go_loopw [0, 1] (fun av bv wr => ∃ (a b last next : Nat) (less : Bool), av = .int .u64 a ∧ bv = .int .u64 b ∧ a < 18446744073709551616 ∧ b < 18446744073709551616 ∧ GMid A B a b last next less ∧ Box1 wr L N S last next less ∧ Below base w wr) (fun _ bv _ => (intOf bv).toNat)
  case atStart => exact ⟨A, B, 1, 0, false, rfl, rfl, hA, hB, GMid.start A B, H.out, Below.refl _ _⟩
  case round =>
    obtain ⟨a, b, last, next, less, rfl, rfl, ha, hb, hM, hX, hW⟩ := hrel
    by_cases h0 : b = 0
    · subst h0
      have hg := hM.end_gcd
      have HG := Lib.hid hg
      have HM := Lib.hid hM
      clear hg hM
      go_wp2_with fail
      refine (divide_no a wr).mono ?_
      rintro e w1 ⟨rfl, b1⟩
      have hX1 := hX.kept b1
      have B1 := hW.trans (b1.mono (by have := hX.last.lt; omega))
      go_wp2_with fail
      rw [Exit.noGoto_ret]
      go_ret
      exact ⟨last, next, less, by rw [← HG.out]; rfl, hX1, by rw [← HG.out]; exact HM.out, B1⟩
    · have D := Lib.hid (divide_ok a b wr ha h0)
      have hqb : a / b < 18446744073709551616 := Nat.lt_of_le_of_lt (Nat.div_le_self _ _) ha
      have hrb := Nat.mod_lt a (Nat.pos_of_ne_zero h0)
      have hn := hM.step h0
      have hnx := hn.next_le
      generalize a / b = q at *
      generalize a % b = r at *
      have HN := Lib.hid hn
      clear hn hM h0
      go_wp2_with fail
      refine (D.out).mono ?_
      rintro e w1 ⟨rfl, b1⟩
      have hX1 := hX.kept b1
      have B1 := hW.trans (b1.mono (by have := hX.last.lt; omega))
      go_wp2_with fail
      refine (tellWord base L N S q last next less w1 hX1 h1 h2 h3 hL hN hS (by omega)).mono ?_
      rintro e w2 ⟨rfl, hX2, b2⟩
      go_wp2_with fail
      go_roundw
      case rel => exact ⟨b, r, _, _, _, rfl, rfl, hb, by omega, HN.out, hX2, B1.trans b2⟩
      case measure => simp [intOf]; omega
/-- Gcd, and how often, of words. -/
def OutLeast1 (A B : Nat) (w : World) (e : Ending) (w' : World) : Prop := ∃ x, e = .returned (.tuple #[.int .u64 (Nat.gcd A B : Nat), .int .u64 (x : Nat)]) ∧ LeastIs A B x ∧ x < 18446744073709551616 ∧ Below w.heap.size w w'
set_option maxHeartbeats 1000000 in
theorem leastWord_any (A B : Nat) (w : World) (hA : A < 18446744073709551616) (hB : B < 18446744073709551616) : Calls Try.prog 57 #[.int .u64 A, .int .u64 B] w (OutLeast1 A B w) := by
  go_enter Try.func57, Try.ntmps57
  go_wp2_with fail
  have bL := ((Boxed.new w 33 (.int .u64 1)).alloc (.cells #[.int .u64 0] 33)).alloc (.cells #[.bool false] 4)
  have bN := (Boxed.new (w.alloc (.cells #[.int .u64 1] 33)) 33 (.int .u64 0)).alloc (.cells #[.bool false] 4)
  have bS := Boxed.new ((w.alloc (.cells #[.int .u64 1] 33)).alloc (.cells #[.int .u64 0] 33)) 4 (.bool false)
  simp only [World.size_alloc] at bN bS
  have b0 : Below w.heap.size w (((w.alloc (.cells #[.int .u64 1] 33)).alloc (.cells #[.int .u64 0] 33)).alloc (.cells #[.bool false] 4)) := (((Below.refl _ w).alloc (Nat.le_refl _) _).alloc (by simp) _).alloc (by simp; omega) _
  refine (steps1_least w.heap.size w.heap.size (w.heap.size + 1) (w.heap.size + 1 + 1) A B _ hA hB ⟨bL, bN, bS⟩ (by omega) (by omega) (by omega) (by omega) (by omega) (by omega)).mono ?_
  rintro e w1 ⟨last, next, less, rfl, hX, hM, b1⟩
  have B1 := b0.trans b1
  have hd := hM.done
  have hnl := hM.next_le
  have hll := hM.last_le
  have c1 := hX.last.cell
  have c2 := hX.next.cell
  have c3 := hX.less.cell
  have f1 := hX.last.frozen
  have hlt : timesOf last next less < 18446744073709551616 := by have := hM.times_le; omega
  clear bL bN bS b0 b1
  generalize hg : Nat.gcd A B = g at *
  have HG := Lib.hid hg
  clear hg
  cases less
  · have HD := Lib.hid hd
    have HL := Lib.hid hlt
    clear hd hM hlt
    go_wp2_with fail
    go_region
    go_wp2_with fail
    go_ret2
    exact ⟨last, by rw [HG.out]; rfl, HD.out, HL.out, B1.trans ((Drawn.more 1).below _)⟩
  · have hle := hM.sub
    have hbt := hX.last.set (.int .u64 ((next : Int) - (last : Int)))
    have hc := hbt.cell
    have HD := Lib.hid hd
    have HL := Lib.hid hlt
    clear hd hM hlt hbt
    go_wp2_with fail
    go_region
    go_wp2_with fail
    go_ret2
    exact ⟨next - last, by rw [HG.out, Int.natCast_sub hle]; rfl, HD.out, HL.out, (B1.setCell (p := ⟨w.heap.size, 0, none⟩) (Nat.le_refl _) _).trans ((Drawn.more 1).below _)⟩
end Go.Proofs.Ytbgaboboakkimaa
/- A region that draws its order and stores into several variables: what reads one of them may be taken first, as long as that one's own store waits for it. No condition but those typed; no program is named. -/
namespace Go.Proofs.Ytbgaboboakkimaa
open Go Go.RowKit
/-- Each of these variables holds its value till its own store has run. -/
def Till (l : List (Nat × Addr × Value)) (listed : Array Bool) (w : World) : Prop := ∀ p ∈ l, listed.getD p.1 true = false → w.cell? p.2.1 = some p.2.2
section
variable {F : Fence} {n : Nat} {P : Program} {ops : Array Oper} {Q : Exit → Act → World → Prop} {md : Region.Mode}
theorem Till.unset {l : List (Nat × Addr × Value)} {listed : Array Bool} {w : World} {i : Nat} (hni : ∀ p ∈ l, i ≠ p.1) (h : Till l (listed.setIfInBounds i true) w) : Till l listed w := fun p hp hl => h p hp (by rw [getD_set_ne true (hni p hp)]; exact hl)
/-- Whatever order is drawn, with variables that hold their values till they are stored into. -/
def anyH (F : Fence) (n : Nat) (P : Program) (md : Region.Mode) (ops : Array Oper) (Q : Exit → Act → World → Prop) (l : List (Nat × Addr × Value)) : Nat → Array Bool → Act → World → Prop
  | 0, listed, a, w => Till l listed w ∧ Region.ready md ops listed = [] ∧ Q .normal a w
  | fuel + 1, listed, a, w => Till l listed w ∧ (Region.ready md ops listed = [] → Q .normal a w) ∧
    ∀ i ∈ Region.ready md ops listed, wpOpIn F n P ops Q i (anyH F n P md ops Q l fuel (listed.setIfInBounds i true)) a w
variable {l : List (Nat × Addr × Value)}
theorem anyH.good {fuel : Nat} {listed : Array Bool} {a : Act} {w : World} (h : anyH F n P md ops Q l fuel listed a w) : Till l listed w := by
  cases fuel <;> exact h.1
theorem anyH.toAny : ∀ {fuel : Nat} {listed : Array Bool} {a : Act} {w : World}, anyH F n P md ops Q l fuel listed a w → wpAnyIn F n P md ops Q fuel listed a w := by
  intro fuel
  induction fuel with
  | zero => exact fun h => h.2
  | succ fuel ih => exact fun h => ⟨h.2.1, fun i hi => wpOpIn_mono (fun _ _ => ih) (h.2.2 i hi)⟩
theorem anyH_first {i s : Nat} {ad : Addr} {u : Value} {oi os : Oper} {v : Value} (hm : (s, ad, u) ∈ l) (hni : ∀ p ∈ l, i ≠ p.1) (hi : ops[i]? = some oi) (hsel : ∀ (j : Nat) (o : Oper) cs b, ops[j]? = some o → o.op ≠ .select cs b) (hdef : ∀ (j : Nat) (o : Oper) c, ops[j]? = some o → o.op ≠ .defer c)
    (hs : ops[s]? = some os) (hse : ∃ e ∈ os.after, Region.binds md e = true ∧ e.on = i) (his : i ≠ s) (hQ : ∀ c a w, Q (.panic c) (a.put oi.dst v) w → Q (.panic c) a w) :
    ∀ (fuel : Nat) (listed : Array Bool) (a : Act) (w : World),
      (∀ j oj, ops[j]? = some oj → j ≠ i → listed.getD j true = false → (∀ e ∈ oj.after, Region.binds md e = true → e.on ≠ i) → oi.apart ops oj = true) →
      i ∈ Region.ready md ops listed → listed.getD s true = false → Held P ops (fun w => w.cell? ad = some u) oi v a →
      anyH F n P md ops Q l fuel (listed.setIfInBounds i true) (a.put oi.dst v) w → anyH F n P md ops Q l (fuel + 1) listed a w := by
  intro fuel
  induction fuel with
  | zero =>
    intro listed a w _ hr hl hy H
    have hT : Till l listed w := H.good.unset hni
    have hB : w.cell? ad = some u := hT _ hm hl
    refine ⟨hT, fun h => (by rw [h] at hr; cases hr), fun j hj => ?_⟩
    by_cases hji : j = i
    · subst hji; exact hy.op hi (fun c => hdef _ _ c hi) hB H
    · have := ready_mono hj hji
      rw [H.2.1] at this
      cases this
  | succ fuel ih =>
    intro listed a w hfree hr hl hy H
    have hT : Till l listed w := H.good.unset hni
    have hB : w.cell? ad = some u := hT _ hm hl
    refine ⟨hT, fun h => (by rw [h] at hr; cases hr), fun j hj => ?_⟩
    by_cases hji : j = i
    · subst hji; exact hy.op hi (fun c => hdef _ _ c hi) hB H
    · have h1 := H.2.2 j (ready_mono hj hji)
      obtain ⟨hjun, oj, hoj, hall⟩ := mem_ready.1 hj
      have hnot : ∀ e ∈ oj.after, Region.binds md e = true → e.on ≠ i := fun e he hb heq => by
        have h1 := hall e he hb
        have h0 := (mem_ready.1 hr).1
        rw [heq] at h1
        rcases Nat.lt_or_ge i listed.size with h' | h'
        · simp [h'] at h0 h1; rw [h0] at h1; cases h1
        · simp [Array.getElem?_eq_none h'] at h1
      have hjs : j ≠ s := fun e => by
        subst e
        rw [hs] at hoj
        cases hoj
        obtain ⟨e, he, hb, heq⟩ := hse
        exact hnot e he hb heq
      obtain ⟨p1, p2, p3⟩ := Oper.apart_spec (hfree j oj hoj hji hjun hnot)
      have h2 := op_put hoj p1 p2 (fun cs b => hsel j oj cs b hoj) (fun c => hdef j oj c hoj) hQ h1
      have hfree' : ∀ k ok, ops[k]? = some ok → k ≠ i → (listed.setIfInBounds j true).getD k true = false →
          (∀ e ∈ ok.after, Region.binds md e = true → e.on ≠ i) → oi.apart ops ok = true := fun k ok hk hki hun hno => by
        refine hfree k ok hk hki ?_ hno
        by_cases hjk : j = k
        · subst hjk; exact hjun
        · rw [getD_set_ne true hjk] at hun; exact hun
      refine wpOpIn_mono (fun a' w' h3 => ih (listed.setIfInBounds j true) a' w' hfree' (ready_mono hr (Ne.symm hji)) (by rw [getD_set_ne true hjs]; exact hl) ?_ ?_) h2
      · rcases h3.1 with ⟨u, rfl⟩ | ⟨e, u, rfl⟩
        · exact hy.put (fun cs b => hsel i oi cs b hi) p3
        · exact Held.put (a := { a with defers := e :: a.defers }) hy (fun cs b => hsel i oi cs b hi) p3
      · rw [Array.setIfInBounds_comm _ _ hji]
        exact h3.2
/-- A held operation is taken first. -/
theorem anyH_take {i s : Nat} {ad : Addr} {u : Value} {oi : Oper} {v : Value} {fuel : Nat} {listed : Array Bool} {a : Act} {w : World} (hm : (s, ad, u) ∈ l) (hni : ∀ p ∈ l, i ≠ p.1) (hi : ops[i]? = some oi) (hp : plainOps ops = true) (hf : Region.free md ops listed i = true)
    (hr : (Region.ready md ops listed).contains i = true) (hsw : waits md ops s i = true) (his : (i != s) = true) (hl : listed.getD s true = false) (hQ : ∀ c a w, Q (.panic c) (a.put oi.dst v) w → Q (.panic c) a w)
    (hy : Held P ops (fun w => w.cell? ad = some u) oi v a) (h : anyH F n P md ops Q l fuel (listed.setIfInBounds i true) (a.put oi.dst v) w) : anyH F n P md ops Q l (fuel + 1) listed a w := by
  unfold waits at hsw
  cases hs : ops[s]? with
  | none => rw [hs] at hsw; cases hsw
  | some os =>
    rw [hs] at hsw
    obtain ⟨e, he, hb⟩ := Array.any_eq_true'.1 hsw
    simp only [Bool.and_eq_true, beq_iff_eq] at hb
    exact anyH_first hm hni hi (plainOps.sel hp) (plainOps.def_ hp) hs ⟨e, he, hb.1, hb.2⟩ (by simpa using his) hQ fuel listed a w (Region.free_spec hi hf) (by simpa using hr) hl hy h
/-- One operation alone may come up. -/
theorem anyH_one {i : Nat} {o : Oper} {fuel : Nat} {listed : Array Bool} {a : Act} {w : World} (hr : Region.ready md ops listed = [i]) (ho : ops[i]? = some o) (hB : Till l listed w)
    (h : ∀ K' : Act → World → Prop, (∀ a w, anyH F n P md ops Q l fuel (listed.setIfInBounds i true) a w → K' a w) → if Region.wanted o (yielded ops a.tmps) = true then Oper.wpIn F n P o a w K' Q else (∀ f, o.about P w a.eval = some f → F.fn f) ∧ K' (a.put o.dst undef) w) :
    anyH F n P md ops Q l (fuel + 1) listed a w := by
  refine ⟨hB, fun h0 => (by rw [hr] at h0; cases h0), fun j hj => ?_⟩
  rw [hr, List.mem_singleton] at hj
  subst hj
  exact wpOpIn_step ho h
/-- All have run. -/
theorem anyH_done {fuel : Nat} {listed : Array Bool} {a : Act} {w : World} (hr : Region.ready md ops listed = []) (hB : Till l listed w) (h : Q .normal a w) : anyH F n P md ops Q l fuel listed a w := by
  cases fuel with
  | zero => exact ⟨hB, hr, h⟩
  | succ k => exact ⟨hB, fun _ => h, fun i hi => (by rw [hr] at hi; cases hi)⟩
end
end Go.Proofs.Ytbgaboboakkimaa
/- gcd's steps of numbers of many words. Conditions: as typed (lengths that fit a machine). -/
namespace Go.Proofs.Ytbgaboboakkimaa
open Go.RowKit
set_option maxRecDepth 20000
theorem tell2 (A : Option Addr) (n c : Nat) (w : World) : Calls Try.prog 36 #[.slice A n c] w fun e w' => e = .returned (.tuple #[]) ∧ w = w' := by
  go_enter Try.func36, Try.ntmps36
  go_wp2_with fail
  go_end0
  exact ⟨rfl, rfl⟩
/-- A number is answered, be it one that was handed in. -/
def OutIn (G : Nat) (w : World) (e : Ending) (w' : World) : Prop := ∃ X n c, e = .returned (.slice X n c) ∧ NatIn w' X n c G ∧ n ≤ 10000 ∧ Below w.heap.size w w'
theorem natIs_len {w : World} {X : Option Addr} {q d V K : Nat} (h : NatIs w X q d V) (hV : nbits V ≤ 64 * K) : q ≤ K := by
  have h1 := h.1
  rw [length_wd] at h1
  omega
set_option maxHeartbeats 1000000 in
theorem steps2_plain (A A2 : Option Addr) (n m c c2 M N : Nat) (w : World) (h : NatIn w A n c M) (k : NatIn w A2 m c2 N) (hs : n ≤ 10000) (hs2 : m ≤ 10000) : Calls Try.prog 34 #[.slice A n c, .slice A2 m c2, .func (.func 35) #[] #[], .func (.func 36) #[] #[]] w (OutIn (Nat.gcd M N) w) := by
  go_enter Try.func34, Try.ntmps34
  go_wp2_with fail
  go_step3
  go_wp2_with fail
  go_step3
  go_wp2_with fail
  go_loopg [0, 1] N (fun k av bv wr => ∃ (A A2 : Option Addr) (n m c c2 a b : Nat), av = .slice A n c ∧ bv = .slice A2 m c2 ∧ NatIn wr A n c a ∧ NatIn wr A2 m c2 b ∧ n ≤ 10000 ∧ m ≤ 10000 ∧ b ≤ k ∧ Nat.gcd a b = Nat.gcd M N ∧ Below w.heap.size w wr)
  case atStart => exact ⟨A, A2, n, m, c, c2, M, N, rfl, rfl, h, k, hs, hs2, Nat.le_refl _, rfl, Below.refl _ _⟩
  case round =>
    clear h k hs hs2
    obtain ⟨A, A2, n, m, c, c2, a, b, rfl, rfl, h, k, hs, hs2, hbk, hg, hB⟩ := hrel
    by_cases h0 : b = 0
    · have D := Lib.hid (bDiv_zero h k h0 hs hs2)
      have HG := Lib.hid (show a = Nat.gcd M N by rw [← hg, h0, Nat.gcd_zero_right])
      have H := Lib.hid h
      clear hg h0 h k
      go_wp2_with fail
      refine (D.out).mono ?_
      rintro e w1 ⟨X, d, Y, f, rfl, b1⟩
      have B1 := hB.trans (b1.mono hB.size)
      go_wp2_with fail
      rw [Exit.noGoto_ret]
      go_ret
      exact ⟨A, n, c, rfl, by rw [← HG.out]; exact H.out.step b1, hs, B1⟩
    · have D := Lib.hid (bDiv_ok h k h0 hs hs2)
      have hkb := k.bits
      have hrb := Nat.mod_lt a (Nat.pos_of_ne_zero h0)
      have hrn := nbits_mono (Nat.le_of_lt hrb)
      have HN := Lib.hid (show Nat.gcd b (a % b) = Nat.gcd M N by rw [gcd_next, hg])
      have H := Lib.hid h
      have K := Lib.hid k
      clear hg h k
      go_wp2_with fail
      refine (D.out).mono ?_
      rintro e w1 ⟨X, q, d, Y, r, f, rfl, S, T, b1⟩
      have B1 := hB.trans (b1.mono hB.size)
      have hrl := natIs_len T (show nbits (a % b) ≤ 64 * m by omega)
      have HT := Lib.hid T
      clear S T
      go_wp2_with fail
      refine (tell2 X q d w1).mono ?_
      rintro e w2 ⟨rfl, rfl⟩
      go_wp2_with fail
      go_roundg (a % b)
      case rel => exact ⟨A2, Y, m, r, c2, f, b, a % b, rfl, rfl, K.out.step b1, HT.out.in_, hs2, by omega, Nat.le_refl _, HN.out, B1⟩
      case measure => omega
/-- A slice of words has none of its words in another kind's own variable. -/
theorem Rd.box {u : World} {B G t : Nat} {A : Option Addr} {l : List Nat} {v : Value} (h : Rd .u64 u B A l) (hb : Boxed u G t v) (hv : ∀ k x, v ≠ .int k x) (y : Value) : Rd .u64 (u.setCell ⟨G, 0, none⟩ y) B A l := fun hl => by
  obtain ⟨b, off, rfl, hlt, hc⟩ := h hl
  refine ⟨b, off, rfl, hlt, fun j hj => ?_⟩
  have hne : b ≠ G := by
    rintro rfl
    have h1 := hc j hj
    have h2 : u.heap[b]? = some (.cells #[v] t (0, 0)) := hb
    simp only [World.cell?, h2] at h1
    rcases Nat.eq_zero_or_pos (off + j) with h0 | h0
    · rw [h0] at h1; simp at h1; exact hv _ _ h1
    · obtain ⟨o, ho⟩ : ∃ o, off + j = o := ⟨_, rfl⟩
      rw [ho] at h1 h0
      rw [if_neg (by simp), List.getElem?_toArray, List.getElem?_eq_none (by simp; omega)] at h1
      cases h1
  rw [← hc j hj]
  exact World.cell?_setCell_other _ _ _ _ (fun e => hne (by injection e with e1; exact e1.symm))
section
variable {u : World} {G t : Nat} {A : Option Addr} {n c V : Nat} {v : Value}
theorem NatIn.box (h : NatIn u A n c V) (hb : Boxed u G t v) (hv : ∀ k x, v ≠ .int k x) (y : Value) : NatIn (u.setCell ⟨G, 0, none⟩ y) A n c V := by
  obtain ⟨l, h1, h2, h3, h4, h5, h6⟩ := h
  refine ⟨l, h1, h2, h3, h4, ?_, h6⟩
  have := h5.box hb hv y
  simpa [World.setCell] using this
theorem NatIs.box (h : NatIs u A n c V) (hb : Boxed u G t v) (hv : ∀ k x, v ≠ .int k x) (y : Value) : NatIs (u.setCell ⟨G, 0, none⟩ y) A n c V := by
  obtain ⟨h1, h2, h3, h4⟩ := h
  refine ⟨h1, h2, ?_, h4⟩
  have := h3.box hb hv y
  simpa [World.setCell] using this
end
/-- The three variables that least's steps are told to. -/
structure Box2 (u : World) (L N S : Nat) (vl vn : Value) (less : Bool) : Prop where
  last : Boxed u L 23 vl
  next : Boxed u N 23 vn
  less : Boxed u S 4 (.bool less)
theorem Box2.kept {u u' : World} {L N S : Nat} {vl vn : Value} {less : Bool} (h : Box2 u L N S vl vn less) (hb : Below u.heap.size u u') : Box2 u' L N S vl vn less :=
  have hg : u.grownBy u' none := ⟨hb.os, hb.tape, hb.output, hb.size, fun i hi _ => hb.block i hi⟩
  ⟨h.last.kept hg (by simp), h.next.kept hg (by simp), h.less.kept hg (by simp)⟩
theorem Box2.turn {u : World} {L N S : Nat} {vl vn vl' vn' : Value} {less less' : Bool} (h : Box2 u L N S vl vn less) (h1 : L ≠ N) (h2 : L ≠ S) (h3 : N ≠ S) :
    Box2 (((u.setCell ⟨L, 0, none⟩ vl').setCell ⟨N, 0, none⟩ vn').setCell ⟨S, 0, none⟩ (.bool less')) L N S vl' vn' less' :=
  ⟨((h.last.set _).other h1 _).other h2 _, ((h.next.other h1.symm _).set _).other h3 _, ((h.less.other h2.symm _).other h3.symm _).set _⟩
theorem Box2.natIn {u : World} {L N S : Nat} {Xl Xn : Option Addr} {ql qn dl dn : Nat} {vl' vn' : Value} {less less' : Bool} (h : Box2 u L N S (.slice Xl ql dl) (.slice Xn qn dn) less) (h1 : L ≠ N) (h2 : L ≠ S) (h3 : N ≠ S) {A : Option Addr} {n c V : Nat} (k : NatIn u A n c V) :
    NatIn (((u.setCell ⟨L, 0, none⟩ vl').setCell ⟨N, 0, none⟩ vn').setCell ⟨S, 0, none⟩ (.bool less')) A n c V :=
  ((k.box h.last (by simp) _).box (h.next.other h1.symm _) (by simp) _).box ((h.less.other h2.symm _).other h3.symm _) (by simp) _
theorem Box2.natIs {u : World} {L N S : Nat} {Xl Xn : Option Addr} {ql qn dl dn : Nat} {vl' vn' : Value} {less less' : Bool} (h : Box2 u L N S (.slice Xl ql dl) (.slice Xn qn dn) less) (h1 : L ≠ N) (h2 : L ≠ S) (h3 : N ≠ S) {A : Option Addr} {n c V : Nat} (k : NatIs u A n c V) :
    NatIs (((u.setCell ⟨L, 0, none⟩ vl').setCell ⟨N, 0, none⟩ vn').setCell ⟨S, 0, none⟩ (.bool less')) A n c V :=
  ((k.box h.last (by simp) _).box (h.next.other h1.symm _) (by simp) _).box ((h.less.other h2.symm _).other h3.symm _) (by simp) _
/-- They hold these numbers. -/
def Told (u : World) (L N S last next : Nat) (less : Bool) : Prop := ∃ X n d Y r f, Box2 u L N S (.slice X n d) (.slice Y r f) less ∧ NatIs u X n d last ∧ NatIs u Y r f next
theorem Told.kept {u u' : World} {L N S last next : Nat} {less : Bool} (h : Told u L N S last next less) (hb : Below u.heap.size u u') : Told u' L N S last next less := by
  obtain ⟨X, n, d, Y, r, f, h1, h2, h3⟩ := h
  exact ⟨X, n, d, Y, r, f, h1.kept hb, h2.step hb, h3.step hb⟩
/-- What a step's telling comes to. -/
def OutTold (base L N S last next : Nat) (less : Bool) (w : World) (e : Ending) (w' : World) : Prop := e = .returned (.tuple #[]) ∧ Told w' L N S last next less ∧ (∀ A n c V, NatIn w A n c V → NatIn w' A n c V) ∧ Below base w w'
theorem norm_only {F : Fence} {n : Nat} {P : Program} {c : Code} {Q : Exit → Act → World → Prop} {a : Act} {w : World} (h : c.wpIn F n P (Exit.then (Q .normal) (fun _ _ _ => False)) a w) : c.wpIn F n P Q a w :=
  Go.wpIn_mono h fun e _ _ h => by cases e <;> first | exact h | exact h.elim
theorem till3 {i j k : Nat} {p q r : Addr} {x y z : Value} {listed : Array Bool} {w : World} (h1 : listed.getD i true = false → w.cell? p = some x) (h2 : listed.getD j true = false → w.cell? q = some y) (h3 : listed.getD k true = false → w.cell? r = some z) :
    Till [(i, p, x), (j, q, y), (k, r, z)] listed w := by
  intro e he
  rcases List.mem_cons.1 he with rfl | he
  · exact h1
  rcases List.mem_cons.1 he with rfl | he
  · exact h2
  rcases List.mem_cons.1 he with rfl | he
  · exact h3
  cases he
set_option maxHeartbeats 2000000 in
theorem tellNat (base L N S q last next m g : Nat) (Z : Option Addr) (less : Bool) (w : World) (h : Told w L N S last next less) (hz : NatIs w Z m g q) (h1 : L ≠ N) (h2 : L ≠ S) (h3 : N ≠ S) (hL : base ≤ L) (hN : base ≤ N) (hS : base ≤ S) (hq : m ≤ 10000) (hn : nbits next ≤ 640000) (hl : nbits last ≤ 640000) :
    Calls Try.prog 58 #[.slice Z m g, .pointer (some ⟨N, 0, none⟩), .pointer (some ⟨L, 0, none⟩), .pointer (some ⟨S, 0, none⟩)] w (OutTold base L N S next (last + q * next) (!less) w) := by
  obtain ⟨X, n, d, Y, r, f, hb, hX, hY⟩ := h
  have hbs : base ≤ w.heap.size := by have := hb.last.lt; omega
  have bd : Below w.heap.size w w.drew := (Drawn.more 1).below _
  have hbd := hb.kept bd
  have hXd := hX.step bd
  have hYd := hY.step bd
  have hZd := hz.step bd
  have hnl := natIs_len hX (K := 10000) (by omega)
  have hrl := natIs_len hY (K := 10000) (by omega)
  have c1 := hbd.last.cell
  have c2 := hbd.next.cell
  have c3 := hbd.less.cell
  have HM := Lib.hid (bMul hZd.in_ hYd.in_ hq hrl)
  have hmb := hz.in_.bits
  have hpb := nbits_mul q next
  have HB := Lib.hid hb
  have HX := Lib.hid hXd
  have HY := Lib.hid hYd
  have HBD := Lib.hid hbd
  have hmx : Try.prog.follows .mixedOrders = true := by kernel_rfl
  clear hb hX hY hz hbd hXd hYd hZd
  refine (callsIn_wide (n := 9)).1 ?_
  refine callsIn_of_wp Try.func58 rfl trivial ?_
  simp only [Try.ntmps58, List.size_toArray, List.length_cons, List.length_nil, Nat.reduceAdd, Nat.reduceSub, Array.replicate_succ, Array.replicate_zero, List.push_toArray, List.append_toArray, List.nil_append, List.cons_append]
  gi_wp2
  refine norm_only ?_
  refine wpIn_region_any hmx ?_
  change wpAnyIn _ _ _ _ _ _ _ _ _ (World.drew _)
  refine anyH.toAny (l := [(8, ⟨L, 0, none⟩, .slice X n d), (9, ⟨N, 0, none⟩, .slice Y r f), (10, ⟨S, 0, none⟩, .bool less)]) ?_
  refine anyH_take (i := 0) (s := 9) (v := .slice Y r f) (List.mem_cons_of_mem _ List.mem_cons_self) (by simp) rfl (by kernel_rfl) (by kernel_rfl) (by kernel_rfl) (by kernel_rfl) (by kernel_rfl) (by kernel_rfl) (fun _ _ _ h => h) ⟨by rfl, fun W' g1 => ⟨by go_simp, by rfl⟩⟩ ?_
  refine anyH_take (i := 1) (s := 8) (v := .slice X n d) (List.mem_cons_self) (by simp) rfl (by kernel_rfl) (by kernel_rfl) (by kernel_rfl) (by kernel_rfl) (by kernel_rfl) (by kernel_rfl) (fun _ _ _ h => h) ⟨by rfl, fun W' g1 => ⟨by go_simp, by rfl⟩⟩ ?_
  refine anyH_take (i := 2) (s := 9) (v := .slice Z m g) (List.mem_cons_of_mem _ List.mem_cons_self) (by simp) rfl (by kernel_rfl) (by kernel_rfl) (by kernel_rfl) (by kernel_rfl) (by kernel_rfl) (by kernel_rfl) (fun _ _ _ h => h) ⟨by rfl, fun W' g1 => ⟨by go_simp, by rfl⟩⟩ ?_
  refine anyH_take (i := 3) (s := 9) (v := .slice Y r f) (List.mem_cons_of_mem _ List.mem_cons_self) (by simp) rfl (by kernel_rfl) (by kernel_rfl) (by kernel_rfl) (by kernel_rfl) (by kernel_rfl) (by kernel_rfl) (fun _ _ _ h => h) ⟨by rfl, fun W' g1 => ⟨by go_simp, by rfl⟩⟩ ?_
  refine anyH_take (i := 6) (s := 10) (v := .bool less) (List.mem_cons_of_mem _ (List.mem_cons_of_mem _ List.mem_cons_self)) (by simp) rfl (by kernel_rfl) (by kernel_rfl) (by kernel_rfl) (by kernel_rfl) (by kernel_rfl) (by kernel_rfl) (fun _ _ _ h => h) ⟨by rfl, fun W' g1 => ⟨by go_simp, by rfl⟩⟩ ?_
  refine anyH_take (i := 7) (s := 10) (v := .bool (!less)) (List.mem_cons_of_mem _ (List.mem_cons_of_mem _ List.mem_cons_self)) (by simp) rfl (by kernel_rfl) (by kernel_rfl) (by kernel_rfl) (by kernel_rfl) (by kernel_rfl) (by kernel_rfl) (fun _ _ _ h => h) ⟨by rfl, fun W' g1 => ⟨by go_simp, by rfl⟩⟩ ?_
  refine anyH_one (i := 4) (by kernel_rfl) rfl (till3 (fun _ => c1) (fun _ => c2) (fun _ => c3)) (fun K hK => ?_)
  go_simp
  refine ⟨trivial, ?_⟩
  refine (callsIn_wide.2 HM.out).mono ?_
  rintro e w1 ⟨R, k, s, rfl, hR, _, b1⟩
  refine hK _ _ ?_
  clear hK K
  have hX1 := HX.out.step b1
  have hY1 := HY.out.step b1
  have hB1 := HBD.out.kept b1
  have hkl := hR.1
  have hkb := hR.2.1
  rw [length_wd] at hkl
  have HA := Lib.hid (bAdd hX1.in_ hR.in_ (by omega))
  refine anyH_one (i := 5) (by kernel_rfl) rfl (till3 (fun _ => hB1.last.cell) (fun _ => hB1.next.cell) (fun _ => hB1.less.cell)) (fun K hK => ?_)
  clear hX1 hR hB1 HM
  go_simp
  refine ⟨trivial, ?_⟩
  refine (callsIn_wide.2 HA.out).mono ?_
  rintro e w2 ⟨R2, k2, s2, rfl, hR2, _, b2⟩
  refine hK _ _ ?_
  clear hK K HA
  have hB2 := (HBD.out.kept b1).kept b2
  have hY2 := hY1.step b2
  have hBw : Below w.heap.size w w2 := (bd.trans (b1.mono bd.size)).trans (b2.mono (Nat.le_trans bd.size b1.size))
  have d1 := hB2.last
  have d2 := hB2.next
  have d3 := hB2.less
  refine anyH_one (i := 8) (by kernel_rfl) rfl (till3 (fun _ => d1.cell) (fun _ => d2.cell) (fun _ => d3.cell)) (fun K hK => ?_)
  have e1 := d1.cell
  have g1 := d1.frozen
  go_simp
  refine hK _ _ ?_
  clear hK K
  clear e1 g1
  have d1 := hB2.last.set (.slice Y r f)
  have d2 := hB2.next.other h1.symm (.slice Y r f)
  have d3 := hB2.less.other h2.symm (.slice Y r f)
  refine anyH_one (i := 9) (by kernel_rfl) rfl (till3 (fun h => by have h2 : (true : Bool) = false := h; cases h2) (fun _ => d2.cell) (fun _ => d3.cell)) (fun K hK => ?_)
  have e1 := d2.cell
  have g1 := d2.frozen
  go_simp
  refine hK _ _ ?_
  clear hK K e1 g1
  replace d1 := d1.other h1 (.slice R2 k2 s2)
  replace d2 := d2.set (.slice R2 k2 s2)
  replace d3 := d3.other h3.symm (.slice R2 k2 s2)
  refine anyH_one (i := 10) (by kernel_rfl) rfl (till3 (fun h => by have h2 : (true : Bool) = false := h; cases h2) (fun h => by have h2 : (true : Bool) = false := h; cases h2) (fun _ => d3.cell)) (fun K hK => ?_)
  have e1 := d3.cell
  have g1 := d3.frozen
  go_simp
  refine hK _ _ ?_
  clear hK K e1 g1
  refine anyH_done (by kernel_rfl) (till3 (fun h => by have h2 : (true : Bool) = false := h; cases h2) (fun h => by have h2 : (true : Bool) = false := h; cases h2) (fun h => by have h2 : (true : Bool) = false := h; cases h2)) ?_
  have HF := Lib.hid (show OutTold base L N S next (last + q * next) (!less) w (.returned (.tuple #[])) (((w2.setCell ⟨L, 0, none⟩ (.slice Y r f)).setCell ⟨N, 0, none⟩ (.slice R2 k2 s2)).setCell ⟨S, 0, none⟩ (.bool (!less))) from
    ⟨rfl, ⟨_, _, _, _, _, _, hB2.turn h1 h2 h3, hB2.natIs h1 h2 h3 hY2, hB2.natIs h1 h2 h3 hR2⟩, fun A n c V h => hB2.natIn h1 h2 h3 (h.step hBw), ((((hBw.mono hbs).setCell (p := ⟨L, 0, none⟩) hL _).setCell (p := ⟨N, 0, none⟩) hN _).setCell (p := ⟨S, 0, none⟩) hS _)⟩)
  simp only [Exit.then]
  go_end0
  exact HF.out
end Go.Proofs.Ytbgaboboakkimaa
/- gcd's least, and Gcd, Ext, Inv. Conditions: as typed (lengths that fit a machine). -/
namespace Go.Proofs.Ytbgaboboakkimaa
open Go.RowKit
set_option maxRecDepth 20000
set_option maxHeartbeats 1000000 in
theorem steps2_least (base L N S : Nat) (A A2 : Option Addr) (n m c c2 M V : Nat) (w : World) (h : NatIn w A n c M) (k : NatIn w A2 m c2 V) (hs : n ≤ 10000) (hs2 : m ≤ 10000) (hT : Told w L N S 1 0 false) (h1 : L ≠ N) (h2 : L ≠ S) (h3 : N ≠ S) (hL : base ≤ L) (hN : base ≤ N) (hS : base ≤ S) (hbs : base ≤ w.heap.size) :
    Calls Try.prog 34 #[.slice A n c, .slice A2 m c2, .func (.func 35) #[] #[], .func (.func 58) #[] #[.pointer (some ⟨N, 0, none⟩), .pointer (some ⟨L, 0, none⟩), .pointer (some ⟨S, 0, none⟩)]] w fun e w' =>
      ∃ X q d last next less, e = .returned (.slice X q d) ∧ NatIn w' X q d (Nat.gcd M V) ∧ q ≤ 10000 ∧ Told w' L N S last next less ∧ GMid M V (Nat.gcd M V) 0 last next less ∧ Below base w w' := by
  have hVb := k.bits
  have HT := Lib.hid hT
  clear hT
  go_enter Try.func34, Try.ntmps34
  go_wp2_with fail
  go_step3
  go_wp2_with fail
  go_step3
  go_wp2_with fail
  go_loopg [0, 1] V (fun k av bv wr => ∃ (A A2 : Option Addr) (n m c c2 a b last next : Nat) (less : Bool), av = .slice A n c ∧ bv = .slice A2 m c2 ∧ NatIn wr A n c a ∧ NatIn wr A2 m c2 b ∧ n ≤ 10000 ∧ m ≤ 10000 ∧ b ≤ k ∧ GMid M V a b last next less ∧ Told wr L N S last next less ∧ base ≤ wr.heap.size ∧ Below base w wr)
  case atStart => exact ⟨A, A2, n, m, c, c2, M, V, 1, 0, false, rfl, rfl, h, k, hs, hs2, Nat.le_refl _, GMid.start M V, HT.out, hbs, Below.refl _ _⟩
  case round =>
    clear h k hs HT
    obtain ⟨A, A2, n, m, c, c2, a, b, last, next, less, rfl, rfl, h, k, hs, hsm, hbk, hM, hT, hbw, hB⟩ := hrel
    by_cases h0 : b = 0
    · have D := Lib.hid (bDiv_zero h k h0 hs hsm)
      subst h0
      have HG := Lib.hid hM.end_gcd
      have HM := Lib.hid hM
      have H := Lib.hid h
      have HT := Lib.hid hT
      clear hM h k hT
      go_wp2_with fail
      refine (D.out).mono ?_
      rintro e w1 ⟨X, d, Y, f, rfl, b1⟩
      have B1 := hB.trans (b1.mono hbw)
      go_wp2_with fail
      rw [Exit.noGoto_ret]
      go_ret
      exact ⟨A, n, c, last, next, less, rfl, by rw [← HG.out]; exact H.out.step b1, hs, HT.out.kept b1, by rw [← HG.out]; exact HM.out, B1⟩
    · have D := Lib.hid (bDiv_ok h k h0 hs hsm)
      have hkb := k.bits
      have hrb := Nat.mod_lt a (Nat.pos_of_ne_zero h0)
      have hrn := nbits_mono (Nat.le_of_lt hrb)
      have hqn := nbits_div a b
      have hhb := h.bits
      have hnb := nbits_mono hM.next_le
      have hlb : nbits last ≤ 640000 := by
        rcases hM.last_le with h | h
        · have := nbits_mono h; omega
        · have := nbits_mono h; rw [show nbits 1 = 1 by decide] at this; omega
      have HN := Lib.hid (hM.step h0)
      have HT := Lib.hid hT
      have K := Lib.hid k
      clear h k hM hT
      go_wp2_with fail
      refine (D.out).mono ?_
      rintro e w1 ⟨X, q, d, Y, r, f, rfl, S1, T1, b1⟩
      have B1 := hB.trans (b1.mono hbw)
      have hrl := natIs_len T1 (show nbits (a % b) ≤ 64 * m by omega)
      have hql := natIs_len S1 (show nbits (a / b) ≤ 64 * n by omega)
      have hT1 := Lib.hid T1
      have TN := Lib.hid (tellNat base L N S (a / b) last next q d X less w1 (HT.out.kept b1) S1 h1 h2 h3 hL hN hS (by omega) (by omega) hlb)
      clear S1 T1
      go_wp2_with fail
      refine (TN.out).mono ?_
      rintro e w2 ⟨rfl, t2, k2, b2⟩
      have B2 := B1.trans b2
      have hbw2 : base ≤ w2.heap.size := by have := b1.size; have := b2.size; omega
      go_wp2_with fail
      go_roundg (a % b)
      case rel => exact ⟨A2, Y, m, r, c2, f, b, a % b, _, _, _, rfl, rfl, k2 _ _ _ _ (K.out.step b1), k2 _ _ _ _ hT1.out.in_, hsm, by omega, Nat.le_refl _, HN.out, t2, hbw2, B2⟩
      case measure => omega
section
variable {w : World} {A A2 : Option Addr} {n m c c2 M N : Nat}
theorem small_ok (h : NatIn w A n c M) (hM : M < 18446744073709551616) : Calls Try.prog 53 #[.slice A n c] w fun e w' => e = .returned (.tuple #[.int .u64 (M : Nat), .bool true]) ∧ Below w.heap.size w w' := by
  obtain ⟨l, rfl, rfl, h3, h4, h5, h6⟩ := h
  have h := natSmall_any A c l w h5 h3 (by omega) h6
  rwa [show smallV (natOf l) = ((natOf l : Nat) : Int) by simp [smallV, hM], show smallB (natOf l) = true by simp [smallB, hM]] at h
theorem small_no (h : NatIn w A n c M) (hM : ¬ M < 18446744073709551616) : Calls Try.prog 53 #[.slice A n c] w fun e w' => e = .returned (.tuple #[.int .u64 0, .bool false]) ∧ Below w.heap.size w w' := by
  obtain ⟨l, rfl, rfl, h3, h4, h5, h6⟩ := h
  have h := natSmall_any A c l w h5 h3 (by omega) h6
  rwa [show smallV (natOf l) = 0 by simp [smallV, hM], show smallB (natOf l) = false by simp [smallB, hM]] at h
theorem words_yes (h : NatIn w A n c M) (k : NatIn w A2 m c2 N) (hM : M < 18446744073709551616) (hN : N < 18446744073709551616) : Calls Try.prog 29 #[.slice A n c, .slice A2 m c2] w fun e w' => e = .returned (.tuple #[.int .u64 (M : Nat), .int .u64 (N : Nat), .bool true]) ∧ Below w.heap.size w w' := by
  have D := Lib.hid (small_ok h hM)
  go_enter Try.func29, Try.ntmps29
  go_wp2_with fail
  refine (D.out).mono ?_
  rintro e w1 ⟨rfl, b1⟩
  go_wp2_with fail
  refine (small_ok (k.step b1) hN).mono ?_
  rintro e w2 ⟨rfl, b2⟩
  go_wp2_with fail
  go_ret3
  exact ⟨rfl, below_step b1 b2⟩
theorem words_no (h : NatIn w A n c M) (k : NatIn w A2 m c2 N) (hMN : ¬ (M < 18446744073709551616 ∧ N < 18446744073709551616)) : Calls Try.prog 29 #[.slice A n c, .slice A2 m c2] w fun e w' => ∃ x y : Value, e = .returned (.tuple #[x, y, .bool false]) ∧ Below w.heap.size w w' := by
  by_cases hM : M < 18446744073709551616
  · have hN : ¬ N < 18446744073709551616 := fun hN => hMN ⟨hM, hN⟩
    have D := Lib.hid (small_ok h hM)
    go_enter Try.func29, Try.ntmps29
    go_wp2_with fail
    refine (D.out).mono ?_
    rintro e w1 ⟨rfl, b1⟩
    go_wp2_with fail
    refine (small_no (k.step b1) hN).mono ?_
    rintro e w2 ⟨rfl, b2⟩
    go_wp2_with fail
    go_ret3
    exact ⟨_, _, rfl, below_step b1 b2⟩
  · have D := Lib.hid (small_no h hM)
    have E : ∃ v b, ∀ u, Below w.heap.size w u → Calls Try.prog 53 #[.slice A2 m c2] u fun e w' => e = .returned (.tuple #[.int .u64 v, .bool b]) ∧ Below u.heap.size u w' := by
      by_cases hN : N < 18446744073709551616
      · exact ⟨_, _, fun u hu => small_ok (k.step hu) hN⟩
      · exact ⟨_, _, fun u hu => small_no (k.step hu) hN⟩
    obtain ⟨v, b, E⟩ := E
    have E := Lib.hid E
    go_enter Try.func29, Try.ntmps29
    go_wp2_with fail
    refine (D.out).mono ?_
    rintro e w1 ⟨rfl, b1⟩
    go_wp2_with fail
    refine (E.out _ b1).mono ?_
    rintro e w2 ⟨rfl, b2⟩
    go_wp2_with fail
    go_ret3
    exact ⟨_, _, rfl, below_step b1 b2⟩
/-- Gcd, and how often. -/
def OutLeast (M N : Nat) (w : World) (e : Ending) (w' : World) : Prop := ∃ X q d Y r f x, e = .returned (.tuple #[.slice X q d, .slice Y r f]) ∧ NatIs w' X q d (Nat.gcd M N) ∧ NatIs w' Y r f x ∧ LeastIs M N x ∧ Below w.heap.size w w'
set_option maxHeartbeats 2000000 in
theorem least_small (h : NatIn w A n c M) (k : NatIn w A2 m c2 N) (hM : M < 18446744073709551616) (hN : N < 18446744073709551616) : Calls Try.prog 38 #[.slice A n c, .slice A2 m c2] w (OutLeast M N w) := by
  have D := Lib.hid (words_yes h k hM hN)
  have hg : Nat.gcd M N < 18446744073709551616 := by
    rcases Nat.eq_zero_or_pos M with h0 | h0
    · rw [h0, Nat.gcd_zero_left]; exact hN
    · exact Nat.lt_of_le_of_lt (Nat.gcd_le_left N h0) hM
  clear h k
  go_enter Try.func38, Try.ntmps38
  go_wp2_with fail
  refine (D.out).mono ?_
  rintro e w1 ⟨rfl, b1⟩
  go_wp2_with fail
  refine (leastWord_any M N w1 hM hN).mono ?_
  rintro e w2 ⟨x, rfl, hL, hx, b2⟩
  have B2 := below_step b1 b2
  have HL := Lib.hid hL
  have HG := Lib.hid hg
  clear hL hg
  go_wp2_with fail
  refine (bOf w2 _ HG.out).mono ?_
  rintro e w3 ⟨X, q, d, rfl, S, _, b3⟩
  have B3 := below_step B2 b3
  go_wp2_with fail
  refine (bOf w3 x hx).mono ?_
  rintro e w4 ⟨Y, r, f, rfl, T, _, b4⟩
  have B4 := below_step B3 b4
  go_wp2_with fail
  go_ret2
  exact ⟨X, q, d, Y, r, f, x, rfl, S.step b4, T, HL.out, B4⟩
end
end Go.Proofs.Ytbgaboboakkimaa
/- gcd.least of many words; Gcd, Ext, Inv. Conditions: as typed (lengths that fit a machine). -/
namespace Go.Proofs.Ytbgaboboakkimaa
open Go.RowKit
set_option maxRecDepth 20000
section
variable {w : World} {A A2 : Option Addr} {n m c c2 M N : Nat}
set_option maxHeartbeats 2000000 in
theorem least_big (h : NatIn w A n c M) (k : NatIn w A2 m c2 N) (hs : n ≤ 10000) (hs2 : m ≤ 10000) (hMN : ¬ (M < 18446744073709551616 ∧ N < 18446744073709551616)) : Calls Try.prog 38 #[.slice A n c, .slice A2 m c2] w (OutLeast M N w) := by
  have D := Lib.hid (words_no h k hMN)
  have hnb := k.bits
  have H := Lib.hid h
  have K := Lib.hid k
  clear h k hMN
  go_enter Try.func38, Try.ntmps38
  go_wp2_with fail
  refine (D.out).mono ?_
  rintro e w1 ⟨x, y, rfl, b1⟩
  go_wp2_with fail
  refine (bOf w1 1 (by omega)).mono ?_
  rintro e w2 ⟨X, q, d, rfl, S, _, b2⟩
  have B2 := below_step b1 b2
  go_wp2_with fail
  refine (bOf w2 0 (by omega)).mono ?_
  rintro e w3 ⟨Y, r, f, rfl, T, _, b3⟩
  have B3 := below_step B2 b3
  have S3 := S.step b3
  have HB := Lib.hid B3
  have HS := Lib.hid S3
  have HT := Lib.hid T
  clear S T S3 B3 B2 b1 b2 b3
  go_wp2_with fail
  have bL := ((Boxed.new w3 23 (.slice X q d)).alloc (.cells #[.slice Y r f] 23)).alloc (.cells #[.bool false] 4)
  have bN := (Boxed.new (w3.alloc (.cells #[.slice X q d] 23)) 23 (.slice Y r f)).alloc (.cells #[.bool false] 4)
  have bS := Boxed.new ((w3.alloc (.cells #[.slice X q d] 23)).alloc (.cells #[.slice Y r f] 23)) 4 (.bool false)
  simp only [World.size_alloc] at bN bS
  obtain ⟨E, hE⟩ : ∃ E, ((w3.alloc (.cells #[.slice X q d] 23)).alloc (.cells #[.slice Y r f] 23)).alloc (.cells #[.bool false] 4) = E := ⟨_, rfl⟩
  have b3E : Below w3.heap.size w3 E := by rw [← hE]; exact (((Below.refl _ w3).alloc (Nat.le_refl _) _).alloc (by simp) _).alloc (by simp; omega) _
  rw [hE] at bL bN bS ⊢
  have hw3 := HB.out.size
  have BE := below_step HB.out b3E
  have hT : Told E w3.heap.size (w3.heap.size + 1) (w3.heap.size + 1 + 1) 1 0 false := ⟨X, q, d, Y, r, f, ⟨bL, bN, bS⟩, HS.out.step b3E, HT.out.step b3E⟩
  refine (steps2_least w.heap.size w3.heap.size (w3.heap.size + 1) (w3.heap.size + 1 + 1) A A2 n m c c2 M N E (H.out.step BE) (K.out.step BE) hs hs2 hT (by omega) (by omega) (by omega) hw3 (by omega) (by omega) BE.size).mono ?_
  clear hT bL bN bS hE HS HT
  rintro e w4 ⟨Z, z, g, last, next, less, rfl, hZ, hz, ⟨X, q, d, Y, r, f, hb, hX, hY⟩, hM, b4⟩
  have B4 := BE.trans b4
  have c1 := hb.last.cell
  have c2 := hb.next.cell
  have c3 := hb.less.cell
  have f1 := hb.last.frozen
  have HD := Lib.hid hM.done
  have HZ := Lib.hid hZ
  have HX := Lib.hid hX
  have HY := Lib.hid hY
  have HB4 := Lib.hid hb
  cases less
  · clear hM hZ hX hY hb
    go_wp2_with fail
    have bd : Below w4.heap.size w4 w4.drew := (Drawn.more 1).below _
    have HTr := Lib.hid (bTrim (HZ.out.step bd))
    go_region_with ((go_at_call 22; (with_reducible refine (HTr.out).mono ?_); rintro e w5 ⟨R, k, s, rfl, hR, _, b5⟩; have c5 := (HB4.out.kept (bd.trans (b5.mono bd.size))).last.cell))
    all_goals
      go_wp2_with fail
      go_ret2
      exact ⟨R, k, s, X, q, d, _, rfl, hR, (HX.out.step bd).step b5, HD.out, (B4.trans (bd.mono B4.size)).trans (b5.mono (by have := bd.size; have := B4.size; omega))⟩
  · have hle := hM.sub
    have HSb := Lib.hid (bSub_yes hY.in_ hX.in_ hle)
    clear hM hZ hX hY hb
    go_wp2_with fail
    refine (HSb.out).mono ?_
    rintro e w5 ⟨R, k, s, rfl, hR, _, b5⟩
    have hb5 := HB4.out.kept b5
    have c1 := hb5.last.cell
    have f1 := hb5.last.frozen
    clear HSb
    go_wp2_with fail
    have hs5 := hb5.last.set (.slice R k s)
    have hR5 := hR.box hb5.last (by simp) (.slice R k s)
    have hZ5 := (HZ.out.step b5).box hb5.last (by simp) (.slice R k s)
    have B5 := (B4.trans (b5.mono B4.size)).setCell (p := ⟨w3.heap.size, 0, none⟩) hw3 (.slice R k s)
    obtain ⟨F, hF⟩ : ∃ F, w5.setCell ⟨w3.heap.size, 0, none⟩ (.slice R k s) = F := ⟨_, rfl⟩
    rw [hF] at hs5 hR5 hZ5 B5 ⊢
    have bd : Below F.heap.size F F.drew := (Drawn.more 1).below _
    have HTr := Lib.hid (bTrim (hZ5.step bd))
    have HR5 := Lib.hid hR5
    have HS5 := Lib.hid hs5
    have c6 := (hs5.kept (row := none) ⟨bd.os, bd.tape, bd.output, bd.size, fun i hi _ => bd.block i hi⟩ (by simp)).cell
    clear c1 f1 hs5 hR5 hZ5 hR hF
    go_region_with ((go_at_call 22; (with_reducible refine (HTr.out).mono ?_); rintro e w6 ⟨R', k', s', rfl, hR', _, b6⟩; have c7 := (HS5.out.kept (row := none) ⟨bd.os, bd.tape, bd.output, bd.size, fun i hi _ => bd.block i hi⟩ (by simp)).kept (row := none) ⟨b6.os, b6.tape, b6.output, b6.size, fun i hi _ => b6.block i hi⟩ (by simp) |>.cell))
    all_goals
      go_wp2_with fail
      go_ret2
      exact ⟨R', k', s', R, k, s, _, rfl, hR', (HR5.out.step bd).step b6, HD.out, (B5.trans (bd.mono B5.size)).trans (b6.mono (by have := bd.size; have := B5.size; omega))⟩
end
end Go.Proofs.Ytbgaboboakkimaa
/- gcd's contracts, as laws use them. Conditions: as typed (lengths that fit a machine). -/
namespace Go.Proofs.Ytbgaboboakkimaa
open Go.RowKit
set_option maxRecDepth 20000
/-- The greatest common divisor, and the least x and y. -/
def OutExt (M N : Nat) (w : World) (e : Ending) (w' : World) : Prop := ∃ X q d Y r f Z s t x y, e = .returned (.tuple #[.slice X q d, .slice Y r f, .slice Z s t]) ∧ NatIs w' X q d (Nat.gcd M N) ∧ NatIs w' Y r f x ∧ NatIs w' Z s t y ∧ ExtIs M N x y ∧ Below w.heap.size w w'
def OutInv (M m : Nat) (w : World) (e : Ending) (w' : World) : Prop := ∃ X q d v, e = .returned (.tuple #[.slice X q d, .bool true]) ∧ NatIs w' X q d v ∧ v < m ∧ v * M % m = 1 % m ∧ Below w.heap.size w w'
def OutInvNo (w : World) (e : Ending) (w' : World) : Prop := ∃ X d, e = .returned (.tuple #[.slice X 0 d, .bool false]) ∧ Below w.heap.size w w'
theorem natIs_zero5 (w : World) (X : Option Addr) (d : Nat) : NatIs w X 0 d 0 := by
  have e : wd 0 = [] := List.eq_nil_of_length_eq_zero (by rw [length_wd, nbits_zero])
  exact ⟨by rw [e]; rfl, by omega, by rw [e]; exact Rd.nil, Nat.zero_le _⟩
theorem Turned.lower {w : World} {base base' n : Nat} {v : Value} (h : Turned w base v n) (hb : base' ≤ base) : Turned w base' v n := by
  obtain ⟨l, h1, h2, h3⟩ := h
  exact ⟨l, h1, h2, own_base h3 hb⟩
section
variable {w : World} {A A2 : Option Addr} {n m c c2 M N : Nat}
theorem gLeast (h : NatIn w A n c M) (k : NatIn w A2 m c2 N) (hs : n ≤ 10000) (hs2 : m ≤ 10000) : Calls Try.prog 38 #[.slice A n c, .slice A2 m c2] w (OutLeast M N w) := by
  by_cases hMN : M < 18446744073709551616 ∧ N < 18446744073709551616
  · exact least_small h k hMN.1 hMN.2
  · exact least_big h k hs hs2 hMN
set_option maxHeartbeats 1000000 in
theorem bGcd (h : NatIn w A n c M) (k : NatIn w A2 m c2 N) (hs : n ≤ 10000) (hs2 : m ≤ 10000) : Calls Try.prog 10 #[.slice A n c, .slice A2 m c2] w (OutN (Nat.gcd M N) w) := by
  by_cases hMN : M < 18446744073709551616 ∧ N < 18446744073709551616
  · have D := Lib.hid (words_yes h k hMN.1 hMN.2)
    obtain ⟨hM, hN⟩ := hMN
    have hg : Nat.gcd M N < 18446744073709551616 := by
      rcases Nat.eq_zero_or_pos M with h0 | h0
      · rw [h0, Nat.gcd_zero_left]; exact hN
      · exact Nat.lt_of_le_of_lt (Nat.gcd_le_left N h0) hM
    have HG := Lib.hid hg
    clear h k hg
    go_enter Try.func10, Try.ntmps10
    go_wp2_with fail
    refine (D.out).mono ?_
    rintro e w1 ⟨rfl, b1⟩
    go_wp2_with fail
    refine (steps1_plain M N w1 hM hN).mono ?_
    rintro e w2 ⟨rfl, b2⟩
    have B2 := below_step b1 b2
    go_wp2_with fail
    refine (bOf w2 _ HG.out).mono ?_
    rintro e w3 ⟨X, q, d, rfl, S, T, b3⟩
    have B3 := below_step B2 b3
    go_wp2_with fail
    go_ret
    exact ⟨X, q, d, rfl, S, T.lower B2.size, B3⟩
  · have D := Lib.hid (words_no h k hMN)
    have H := Lib.hid h
    have K := Lib.hid k
    clear h k hMN
    go_enter Try.func10, Try.ntmps10
    go_wp2_with fail
    refine (D.out).mono ?_
    rintro e w1 ⟨x, y, rfl, b1⟩
    go_wp2_with fail
    refine (steps2_plain A A2 n m c c2 M N w1 (H.out.step b1) (K.out.step b1) hs hs2).mono ?_
    rintro e w2 ⟨Z, z, g, rfl, hZ, _, b2⟩
    have B2 := below_step b1 b2
    go_wp2_with fail
    refine (bTrim hZ).mono ?_
    rintro e w3 ⟨X, q, d, rfl, S, T, b3⟩
    have B3 := below_step B2 b3
    go_wp2_with fail
    go_ret
    exact ⟨X, q, d, rfl, S, T.lower B2.size, B3⟩
set_option maxHeartbeats 1000000 in
theorem bExt (h : NatIn w A n c M) (k : NatIn w A2 m c2 N) (hs : n ≤ 4000) (hs2 : m ≤ 4000) : Calls Try.prog 11 #[.slice A n c, .slice A2 m c2] w (OutExt M N w) := by
  have D := Lib.hid (bBits h)
  have hhb := h.bits
  have hkb := k.bits
  by_cases h0 : M = 0
  · rw [h0, nbits_zero] at D
    have K := Lib.hid k
    have H0 := Lib.hid h0
    clear h k h0
    go_enter Try.func11, Try.ntmps11
    go_wp2_with fail
    refine (D.out).mono ?_
    rintro e w1 ⟨rfl, b1⟩
    go_wp2_with fail
    refine (bTrim (K.out.step b1)).mono ?_
    rintro e w2 ⟨X, q, d, rfl, S, _, b2⟩
    have HS := Lib.hid S
    clear S
    go_wp2_with fail
    go_ret3
    exact ⟨X, q, d, none, 0, 0, none, 0, 0, 0, 0, rfl, by rw [H0.out, Nat.gcd_zero_left]; exact HS.out, natIs_zero5 _ _ _, natIs_zero5 _ _ _, ⟨fun _ => ⟨rfl, rfl⟩, fun h => absurd H0.out h, fun h => absurd H0.out h, fun _ => rfl⟩, below_step b1 b2⟩
  · have hb0 : ((nbits M : Int) == 0) = false := by have := (nbits_iff M).2 h0; simp; omega
    have hg := nbits_mono (Nat.gcd_le_left N (Nat.pos_of_ne_zero h0))
    have H := Lib.hid h
    have K := Lib.hid k
    have H0 := Lib.hid h0
    have HL := Lib.hid (fun (u : World) (hu : Below w.heap.size w u) => gLeast (h.step hu) (k.step hu) (by omega) (by omega))
    clear h k h0
    go_enter Try.func11, Try.ntmps11
    go_wp2_with fail
    refine (D.out).mono ?_
    rintro e w1 ⟨rfl, b1⟩
    go_wp2_with fail
    refine (HL.out w1 b1).mono ?_
    rintro e w2 ⟨X, q, d, Y, r, f, x, rfl, S, T, hL, b2⟩
    have B2 := below_step b1 b2
    have hrl : r ≤ 4000 := by
      refine natIs_len T ?_
      rcases hL.le with h | h
      · have := nbits_mono h; omega
      · have := nbits_mono h; rw [show nbits 1 = 1 by decide] at this; omega
    have hxb := T.in_.bits
    have hle : Nat.gcd M N ≤ M * x := by
      obtain ⟨y, e⟩ := hL.eq H0.out
      omega
    have HLE := Lib.hid hle
    have HLL := Lib.hid hL
    have HS := Lib.hid S
    have HT := Lib.hid T
    have HMu := Lib.hid (bMul (H.out.step B2) T.in_ (by omega) (by omega))
    clear hle hL S T
    go_wp2_with fail
    refine (HMu.out).mono ?_
    rintro e w3 ⟨Z, z, g, rfl, U, _, b3⟩
    have B3 := below_step B2 b3
    have HSb := Lib.hid (bSub_yes U.in_ (HS.out.step b3).in_ HLE.out)
    have hpb := nbits_mul M x
    have hsub := nbits_mono (Nat.sub_le (M * x) (Nat.gcd M N))
    clear HMu U
    go_wp2_with fail
    refine (HSb.out).mono ?_
    rintro e w4 ⟨V, v, t, rfl, W, _, b4⟩
    have B4 := below_step B3 b4
    have hvl := natIs_len W (K := n + r + 1) (by omega)
    clear HSb
    by_cases hN : N = 0
    · have HDv := Lib.hid (bDiv_zero W.in_ (K.out.step B4) hN (by omega) (by omega))
      have HN := Lib.hid hN
      clear hN W
      go_wp2_with fail
      refine (HDv.out).mono ?_
      rintro e w5 ⟨P, p, Q, q5, rfl, b5⟩
      go_wp2_with fail
      go_ret3
      exact ⟨X, q, d, Y, r, f, P, 0, p, x, 0, rfl, ((HS.out.step b3).step b4).step b5, ((HT.out.step b3).step b4).step b5, natIs_zero5 _ _ _, HLL.out.ext H0.out 0 (by rw [if_pos HN.out]), below_step B4 b5⟩
    · have HDv := Lib.hid (bDiv_ok W.in_ (K.out.step B4) hN (by omega) (by omega))
      have HN := Lib.hid hN
      clear hN W
      go_wp2_with fail
      refine (HDv.out).mono ?_
      rintro e w5 ⟨P, p, o, Q, q5, o5, rfl, Y1, _, b5⟩
      go_wp2_with fail
      go_ret3
      exact ⟨X, q, d, Y, r, f, P, p, o, x, _, rfl, ((HS.out.step b3).step b4).step b5, ((HT.out.step b3).step b4).step b5, Y1, HLL.out.ext H0.out _ (by rw [if_neg HN.out]), below_step B4 b5⟩
theorem cmpS_ne {a b : Nat} (h : a ≠ b) : ((cmpS a b : Int) != 0) = true := by
  unfold cmpS
  split
  · rfl
  · rw [if_pos (by omega)]; rfl
set_option maxHeartbeats 1000000 in
theorem bInv_ok (h : NatIn w A n c M) (k : NatIn w A2 m c2 N) (h0 : N ≠ 0) (hg : Nat.gcd M N = 1) (hs : n ≤ 10000) (hs2 : m ≤ 10000) : Calls Try.prog 12 #[.slice A n c, .slice A2 m c2] w (OutInv M N w) := by
  have D := Lib.hid (bMod_ok h k h0 hs hs2)
  have hkb := k.bits
  have hrn := nbits_mono (Nat.le_of_lt (Nat.mod_lt M (Nat.pos_of_ne_zero h0)))
  have K := Lib.hid k
  have H0 := Lib.hid h0
  have HG := Lib.hid hg
  clear h k h0 hg
  go_enter Try.func12, Try.ntmps12
  go_wp2_with fail
  refine (D.out).mono ?_
  rintro e w1 ⟨Y, r, f, rfl, S, b1⟩
  have hrl := natIs_len S (K := 10000) (by omega)
  have HL := Lib.hid (gLeast S.in_ (K.out.step b1) hrl hs2)
  clear S
  go_wp2_with fail
  refine (HL.out).mono ?_
  rintro e w2 ⟨X, q, d, Z, s, t, x, rfl, U, V, hL, b2⟩
  rw [gcd_rest, HG.out] at U
  have B2 := below_step b1 b2
  have hsl : s ≤ 10000 := by
    refine natIs_len V ?_
    rcases hL.le with h | h
    · have := nbits_mono h; omega
    · have := nbits_mono h; rw [show nbits 1 = 1 by decide] at this; omega
  have HLL := Lib.hid hL
  have HU := Lib.hid U
  have HV := Lib.hid V
  clear HL hL U V
  go_wp2_with fail
  refine (bOf w2 1 (by omega)).mono ?_
  rintro e w3 ⟨O, o, p, rfl, W, _, b3⟩
  have B3 := below_step B2 b3
  have HC := Lib.hid (bCmp (HU.out.step b3).in_ W.in_)
  have hcm : cmpS 1 1 = 0 := rfl
  rw [hcm] at HC
  clear W hcm
  go_wp2_with fail
  refine (HC.out).mono ?_
  rintro e w4 ⟨rfl, b4⟩
  have B4 := below_step B3 b4
  have HM := Lib.hid (bMod_ok ((HV.out.step b3).step b4).in_ (K.out.step B4) H0.out hsl hs2)
  go_wp2_with fail
  refine (HM.out).mono ?_
  rintro e w5 ⟨P, u, v, rfl, R, b5⟩
  have HR := Lib.hid R
  clear R HC HM
  go_wp2_with fail
  go_ret2
  exact ⟨P, u, v, _, rfl, HR.out, Nat.mod_lt _ (Nat.pos_of_ne_zero H0.out), HLL.out.inv_rest HG.out, below_step B4 b5⟩
set_option maxHeartbeats 1000000 in
theorem bInv_no (h : NatIn w A n c M) (k : NatIn w A2 m c2 N) (h0 : N = 0 ∨ Nat.gcd M N ≠ 1) (hs : n ≤ 10000) (hs2 : m ≤ 10000) : Calls Try.prog 12 #[.slice A n c, .slice A2 m c2] w (OutInvNo w) := by
  by_cases hN : N = 0
  · have D := Lib.hid (bMod_zero h k hN hs hs2)
    clear h k h0 hN
    go_enter Try.func12, Try.ntmps12
    go_wp2_with fail
    refine (D.out).mono ?_
    rintro e w1 ⟨X, d, rfl, b1⟩
    go_wp2_with fail
    go_ret2
    exact ⟨none, 0, rfl, b1⟩
  · have hg : Nat.gcd M N ≠ 1 := h0.resolve_left hN
    have D := Lib.hid (bMod_ok h k hN hs hs2)
    have hkb := k.bits
    have hrn := nbits_mono (Nat.le_of_lt (Nat.mod_lt M (Nat.pos_of_ne_zero hN)))
    have K := Lib.hid k
    have HG := Lib.hid hg
    clear h k h0 hN hg
    go_enter Try.func12, Try.ntmps12
    go_wp2_with fail
    refine (D.out).mono ?_
    rintro e w1 ⟨Y, r, f, rfl, S, b1⟩
    have hrl := natIs_len S (K := 10000) (by omega)
    have HL := Lib.hid (gLeast S.in_ (K.out.step b1) hrl hs2)
    clear S
    go_wp2_with fail
    refine (HL.out).mono ?_
    rintro e w2 ⟨X, q, d, Z, s, t, x, rfl, U, V, hL, b2⟩
    rw [gcd_rest] at U
    have B2 := below_step b1 b2
    have HU := Lib.hid U
    clear HL hL U V
    go_wp2_with fail
    refine (bOf w2 1 (by omega)).mono ?_
    rintro e w3 ⟨O, o, p, rfl, W, _, b3⟩
    have B3 := below_step B2 b3
    have HC := Lib.hid (bCmp (HU.out.step b3).in_ W.in_)
    have hcm := cmpS_ne HG.out
    generalize cmpS (Nat.gcd M N) 1 = cm at *
    clear W
    go_wp2_with fail
    refine (HC.out).mono ?_
    rintro e w4 ⟨rfl, b4⟩
    go_wp2_with fail
    go_ret2
    exact ⟨none, 0, rfl, below_step B3 b4⟩
end
end Go.Proofs.Ytbgaboboakkimaa
/- The contract of the document's Gcd of chapter 5. Conditions: as typed (lengths that fit a machine). -/
namespace Go.Proofs.Ytbgaboboakkimaa
open Go.RowKit
set_option maxRecDepth 20000
set_option maxHeartbeats 1000000 in
theorem gcd05_any (A A2 : Option Addr) (c c2 : Nat) (a b : List Nat) (w : World) (hr : Rd .u64 w w.heap.size A a) (hw : Words a) (hl : a.length ≤ 10000) (hr2 : Rd .u64 w w.heap.size A2 b) (hw2 : Words b) (hl2 : b.length ≤ 10000) :
    Calls Try.prog 13 #[.slice A a.length c, .slice A2 b.length c2] w (OutNat (Nat.gcd (natOf a) (natOf b)) w) := by
  have hna := nbits_natOf a hw
  have hnb := nbits_natOf b hw2
  go_enter Try.func13, Try.ntmps13
  go_wp2_with fail
  refine (digits_any A c a w hr hw (by omega)).mono ?_
  rintro e w1 ⟨X, d, rfl, hd, R1, b1⟩
  have Q1 := rd_step hr2 b1
  go_wp2_with fail
  refine (digits_any A2 c2 b w1 Q1 hw2 (by omega)).mono ?_
  rintro e w2 ⟨Y, f, rfl, hf, R2, b2⟩
  have R1 := rd_step R1 b2
  have B2 := below_step b1 b2
  clear Q1 hr hr2
  go_wp2_with fail
  go_loopg [5, 6] (natOf b) (fun k u v wr => ∃ (P Q : Nat) (X Y : Option Addr) (d f : Nat), u = .slice X (nbits P) d ∧ v = .slice Y (nbits Q) f ∧ nbits P ≤ d ∧ nbits Q ≤ f ∧ nbits P ≤ 640000 ∧ Q ≤ k ∧ nbits Q ≤ 640000 ∧ Nat.gcd P Q = Nat.gcd (natOf a) (natOf b) ∧ Rd .u8 wr wr.heap.size X (dg P) ∧ Rd .u8 wr wr.heap.size Y (dg Q) ∧ Below w.heap.size w wr)
  case atStart => exact ⟨natOf a, natOf b, X, Y, d, f, rfl, rfl, hd, hf, by omega, Nat.le_refl _, by omega, rfl, R1, R2, B2⟩
  case round =>
    obtain ⟨P, Q, X, Y, d, f, rfl, rfl, hdP, hfQ, hP, hQ, hQb, hg, RX, RY, hb⟩ := hrel
    have HG := Lib.hid hg
    clear hg R1 R2
    by_cases h0 : Q = 0
    · subst h0
      have hz : ¬ (0 : Int) < (nbits 0 : Int) := by rw [nbits_zero]; simp
      have hz2 : ¬ 0 < nbits 0 := by rw [nbits_zero]; omega
      have HE := Lib.hid (show P = Nat.gcd (natOf a) (natOf b) by rw [← HG.out, Nat.gcd_zero_right])
      have HW := Lib.hid (wordsN_any X d P wr RX (by omega) hdP)
      clear RX RY
      go_wp2_with fail
      refine (HW.out).mono ?_
      rintro e w3 ⟨v, rfl, own, b3⟩
      obtain ⟨Z, g, rfl, hg3, _⟩ := own_form own
      have HO := Lib.hid (own_base own hb.size)
      clear own
      go_wp2_with fail
      go_ret
      exact ⟨_, rfl, by rw [← HE.out]; exact HO.out, hb.trans (b3.mono hb.size)⟩
    · have hz : 0 < nbits Q := (nbits_iff Q).2 h0
      have HQ := Lib.hid (quot02_any X Y d f P Q wr RX RY (by omega) (by omega) (by omega))
      have hr := nbits_mono (Nat.le_of_lt (Nat.mod_lt P (show 0 < Q by omega)))
      have hml := Nat.mod_lt P (show 0 < Q by omega)
      have HGN := Lib.hid (show Nat.gcd Q (P % Q) = Nat.gcd (natOf a) (natOf b) by rw [← HG.out, Nat.gcd_comm P Q, Nat.gcd_rec Q P, Nat.gcd_comm])
      clear RX
      go_wp2_with fail
      refine (HQ.out).mono ?_
      rintro e w3 ⟨Z, V, g, h, rfl, hg3, hh, R3, R4, b3⟩
      have RY := rd_step RY b3
      clear R3
      go_wp2_with fail
      go_roundg (P % Q)
      case rel => exact ⟨Q, P % Q, Y, V, f, h, rfl, rfl, hfQ, hh, hQb, Nat.le_refl _, by omega, HGN.out, RY, R4, hb.trans (b3.mono hb.size)⟩
      case measure => omega
end Go.Proofs.Ytbgaboboakkimaa
/- gcd's contracts in the form that laws use, and the small functions of chapter 5's laws. Conditions: as typed. -/
namespace Go.Proofs.Ytbgaboboakkimaa
open Go.RowKit
set_option maxRecDepth 20000
section
variable {w : World} {A A2 : Option Addr} {n m c c2 M N q d : Nat}
theorem bGcd5 (h : NatIn w A n c M) (k : NatIn w A2 m c2 N) (hs : n ≤ 10000) (hs2 : m ≤ 10000) : Calls Try.prog 13 #[.slice A n c, .slice A2 m c2] w (OutN (Nat.gcd M N) w) := by
  have hb := h.bits
  have kb := k.bits
  have hg := nbits_gcd M N
  obtain ⟨l, rfl, rfl, h3, h4, h5, h6⟩ := h
  obtain ⟨l2, rfl, rfl, k3, k4, k5, k6⟩ := k
  exact Calls.mono (gcd05_any A A2 c c2 l l2 w h5 h3 hs k5 k3 hs2) fun _ _ h => h.out (by omega)
/-- n -/
theorem hN (w : World) (x : Nat) (xi : Int) (hx : xi = (x : Int)) (hl : x < 18446744073709551616) : Calls Try.prog 15 #[.int .u64 xi] w (OutN x w) := by
  subst hx
  have O := Lib.hid (of02_any x w hl)
  have hb := nbits_of_lt x 64 hl
  go_enter Try.func15, Try.ntmps15
  go_wp2_with fail
  refine (O.out).mono ?_
  rintro e w1 h
  obtain ⟨X, q, d, rfl, S, T, b⟩ := h.out (by omega)
  go_wp2_with fail
  go_ret
  exact ⟨X, q, d, rfl, S, T, b⟩
theorem same_no {w : World} {A A2 : Option Addr} {n m c c2 M N : Nat} (h : NatIs w A n c M) (k : NatIs w A2 m c2 N) (hne : M ≠ N) : Calls Try.prog 14 #[.slice A n c, .slice A2 m c2] w fun e w' => e = .returned (.bool false) ∧ Below w.heap.size w w' := by
  obtain ⟨h1, h2, h3, h4⟩ := h
  obtain ⟨k1, k2, k3, k4⟩ := k
  have hc := same02_any A A2 c c2 (wd M) (wd N) w w.heap.size h3 k3 (by omega) (by omega)
  rw [h1, k1] at hc
  exact Calls.mono hc fun e w' ⟨he, hd⟩ => ⟨by rw [he, decide_eq_false (fun e => hne ((wd_inj _ _).1 e))], hd.below _⟩
theorem hIs_yes (h : NatIs w A q d M) (x : Nat) (xi : Int) (hx : xi = (x : Int)) (e : M = x) (hl : x < 18446744073709551616) : Calls Try.prog 18 #[.slice A q d, .int .u64 xi] w fun e w' => e = .returned (.bool true) ∧ Below w.heap.size w w' := by
  have O := Lib.hid (hN w x xi hx hl)
  have E := Lib.hid e
  clear hx e
  go_enter Try.func18, Try.ntmps18
  go_wp2_with fail
  refine (O.out).mono ?_
  rintro e w1 ⟨X, q1, d1, rfl, S, _, b1⟩
  have h := natIs_eq (h.step b1) E.out
  go_wp2_with fail
  refine (bSame h S).mono ?_
  rintro e w2 ⟨rfl, b2⟩
  go_wp2_with fail
  go_ret
  exact ⟨rfl, below_step b1 b2⟩
theorem hIs_no (h : NatIs w A q d M) (x : Nat) (xi : Int) (hx : xi = (x : Int)) (e : M ≠ x) (hl : x < 18446744073709551616) : Calls Try.prog 18 #[.slice A q d, .int .u64 xi] w fun e w' => e = .returned (.bool false) ∧ Below w.heap.size w w' := by
  have O := Lib.hid (hN w x xi hx hl)
  have E := Lib.hid e
  clear hx e
  go_enter Try.func18, Try.ntmps18
  go_wp2_with fail
  refine (O.out).mono ?_
  rintro e w1 ⟨X, q1, d1, rfl, S, _, b1⟩
  have h := h.step b1
  go_wp2_with fail
  refine (same_no h S E.out).mono ?_
  rintro e w2 ⟨rfl, b2⟩
  go_wp2_with fail
  go_ret
  exact ⟨rfl, below_step b1 b2⟩
theorem hNone_yes (h : NatIn w A n c M) (h0 : M = 0) : Calls Try.prog 24 #[.slice A n c] w fun e w' => e = .returned (.bool true) ∧ Below w.heap.size w w' := by
  go_enter Try.func24, Try.ntmps24
  go_wp2_with fail
  refine (bTrim h).mono ?_
  rintro e w1 ⟨X, q1, d1, rfl, S, _, b1⟩
  obtain rfl : q1 = 0 := by have h := S.1; rw [length_wd, h0, nbits_zero] at h; omega
  clear h0
  go_wp2_with fail
  go_ret
  exact ⟨rfl, b1⟩
theorem hNone_no (h : NatIn w A n c M) (h0 : M ≠ 0) : Calls Try.prog 24 #[.slice A n c] w fun e w' => e = .returned (.bool false) ∧ Below w.heap.size w w' := by
  go_enter Try.func24, Try.ntmps24
  go_wp2_with fail
  refine (bTrim h).mono ?_
  rintro e w1 ⟨X, q1, d1, rfl, S, _, b1⟩
  have hq : ((q1 : Int) == 0) = false := by have h := S.1; rw [length_wd] at h; have := (nbits_iff M).2 h0; simp; omega
  clear h0
  go_wp2_with fail
  go_ret
  exact ⟨rfl, b1⟩
/-- A number is answered. -/
def OutIs (N : Nat) (w : World) (e : Ending) (w' : World) : Prop := ∃ X q d, e = .returned (.slice X q d) ∧ NatIs w' X q d N ∧ Below w.heap.size w w'
theorem hLeft (h : NatIn w A n c M) (k : NatIn w A2 m c2 N) (h0 : N ≠ 0) (hs : n ≤ 10000) (hs2 : m ≤ 10000) : Calls Try.prog 28 #[.slice A n c, .slice A2 m c2] w (OutIs (M % N) w) := by
  have O := Lib.hid (bMod_ok h k h0 hs hs2)
  clear h0
  go_enter Try.func28, Try.ntmps28
  go_wp2_with fail
  refine (O.out).mono ?_
  rintro e w1 ⟨Y, r, f, rfl, S, b1⟩
  go_wp2_with fail
  go_ret
  exact ⟨Y, r, f, rfl, S, b1⟩
theorem hQuot (h : NatIn w A n c M) (k : NatIn w A2 m c2 N) (h0 : N ≠ 0) (hs : n ≤ 10000) (hs2 : m ≤ 10000) : Calls Try.prog 26 #[.slice A n c, .slice A2 m c2] w (OutIs (M / N) w) := by
  have O := Lib.hid (bDiv_ok h k h0 hs hs2)
  clear h0
  go_enter Try.func26, Try.ntmps26
  go_wp2_with fail
  refine (O.out).mono ?_
  rintro e w1 ⟨X, q, d, Y, r, f, rfl, S, T, b1⟩
  go_wp2_with fail
  go_ret
  exact ⟨X, q, d, rfl, S, b1⟩
/-- d goes into a. -/
theorem hGoes (h : NatIn w A n c M) (k : NatIn w A2 m c2 N) (hd : M ∣ N) (hs : n ≤ 10000) (hs2 : m ≤ 10000) : Calls Try.prog 21 #[.slice A n c, .slice A2 m c2] w fun e w' => e = .returned (.bool true) ∧ Below w.heap.size w w' := by
  by_cases h0 : N = 0
  · have O := Lib.hid (hNone_yes k h0)
    clear h0
    go_enter Try.func21, Try.ntmps21
    go_wp2_with fail
    refine (O.out).mono ?_
    rintro e w1 ⟨rfl, b1⟩
    go_wp2_with fail
    go_ret
    exact ⟨rfl, b1⟩
  · have hM : M ≠ 0 := fun e => by rw [e] at hd; exact h0 (Nat.eq_zero_of_zero_dvd hd)
    have hz := Nat.mod_eq_zero_of_dvd hd
    have O := Lib.hid (hNone_no k h0)
    have HM := Lib.hid hM
    have HZ := Lib.hid hz
    clear h0 hM hz hd
    go_enter Try.func21, Try.ntmps21
    go_wp2_with fail
    refine (O.out).mono ?_
    rintro e w1 ⟨rfl, b1⟩
    have h := h.step b1
    have k := k.step b1
    go_wp2_with fail
    refine (hNone_no h HM.out).mono ?_
    rintro e w2 ⟨rfl, b2⟩
    have h := h.step b2
    have k := k.step b2
    have B2 := below_step b1 b2
    go_wp2_with fail
    refine (hLeft k h HM.out hs2 hs).mono ?_
    rintro e w3 ⟨X, q, d, rfl, S, b3⟩
    have B3 := below_step B2 b3
    go_wp2_with fail
    refine (hNone_yes S.in_ HZ.out).mono ?_
    rintro e w4 ⟨rfl, b4⟩
    go_wp2_with fail
    go_ret
    exact ⟨rfl, below_step B3 b4⟩
end
end Go.Proofs.Ytbgaboboakkimaa
/- Chapter 5's examples. No condition. -/
namespace Go.Proofs.Ytbgaboboakkimaa
open Go.RowKit
set_option maxRecDepth 20000
theorem ext_a {x y : Nat} (h : ExtIs 12 18 x y) : x = 2 ∧ y = 1 := by
  have g : Nat.gcd 12 18 = 6 := by decide
  have h1 := h.eq (by omega)
  have h2 := h.least (by omega) 2 1 (by decide)
  have h3 := h.pos (by omega)
  rw [g] at h1
  omega
theorem ext_b {x y : Nat} (h : ExtIs 5 1 x y) : x = 1 ∧ y = 4 := by
  have g : Nat.gcd 5 1 = 1 := by decide
  have h1 := h.eq (by omega)
  have h2 := h.least (by omega) 1 4 (by decide)
  have h3 := h.pos (by omega)
  rw [g] at h1
  omega
theorem natIs_zero {w : World} {X : Option Addr} {q d : Nat} (h : NatIs w X q d 0) : q = 0 := by have h := h.1; rw [length_wd, nbits_zero] at h; omega
/-- Inv, whatever is found. -/
theorem bInv_any {w : World} {A A2 : Option Addr} {n m c c2 M N : Nat} (h : NatIn w A n c M) (k : NatIn w A2 m c2 N) (hs : n ≤ 10000) (hs2 : m ≤ 10000) : Calls Try.prog 12 #[.slice A n c, .slice A2 m c2] w fun e w' => ∃ X q d b, e = .returned (.tuple #[.slice X q d, .bool b]) ∧ Below w.heap.size w w' := by
  by_cases h0 : N = 0 ∨ Nat.gcd M N ≠ 1
  · exact Calls.mono (bInv_no h k h0 hs hs2) fun e w' ⟨X, d, he, hb⟩ => ⟨X, 0, d, false, he, hb⟩
  · exact Calls.mono (bInv_ok h k (fun e => h0 (.inl e)) (Classical.not_not.1 fun e => h0 (.inr e)) hs hs2) fun e w' ⟨X, q, d, v, he, _, _, _, hb⟩ => ⟨X, q, d, true, he, hb⟩
/-- Cmp, where the one is no less. -/
theorem cmp_ge {w : World} {A A2 : Option Addr} {n m c c2 M N : Nat} (h : NatIn w A n c M) (k : NatIn w A2 m c2 N) (hle : N ≤ M) : Calls Try.prog 27 #[.slice A n c, .slice A2 m c2] w fun e w' => ∃ t : Int, e = .returned (.int .i64 t) ∧ decide (0 ≤ t) = true ∧ Below w.heap.size w w' :=
  Calls.mono (bCmp h k) fun e w' ⟨he, hb⟩ => ⟨_, he, by have : 0 ≤ cmpS M N := by { unfold cmpS; split <;> try split
                                                                                    all_goals omega }
                                                        simp [this], hb⟩
set_option maxHeartbeats 2000000 in
theorem gcdWorks_any (w : World) : Calls Try.prog 8 #[] w fun e w' => e = .returned (.bool true) ∧ Below w.heap.size w w' := by
  go_enter Try.func8, Try.ntmps8
  go_wp2_with fail
  refine (hN w 12 _ rfl (by omega)).mono ?_
  rintro e w1 ⟨X1a, q1a, d1a, rfl, S1a, _, b1⟩
  have B1 := b1
  go_wp2_with fail
  refine (hN w1 18 _ rfl (by omega)).mono ?_
  rintro e w2 ⟨X1b, q1b, d1b, rfl, S1b, _, b2⟩
  have B2 := below_step B1 b2
  have S1a := S1a.step b2
  go_wp2_with fail
  refine (bExt S1a.in_ S1b.in_ (by have h := S1a.1; rw [length_wd] at h; have := nbits_of_lt 12 8 (by omega); omega) (by have h := S1b.1; rw [length_wd] at h; have := nbits_of_lt 18 8 (by omega); omega)).mono ?_
  rintro e w3 ⟨X1, q1, d1, Y1, r1, f1, Z1, s1, t1, x1, y1, rfl, G1, U1, V1, E1, b3⟩
  have B3 := below_step B2 b3
  have S1a := S1a.step b3
  have S1b := S1b.step b3
  obtain ⟨rfl, rfl⟩ := ext_a E1
  clear S1a S1b
  go_wp2_with fail
  refine (hN w3 5 _ rfl (by omega)).mono ?_
  rintro e w4 ⟨X2a, q2a, d2a, rfl, S2a, _, b4⟩
  have B4 := below_step B3 b4
  have G1 := G1.step b4
  have U1 := U1.step b4
  have V1 := V1.step b4
  go_wp2_with fail
  refine (hN w4 1 _ rfl (by omega)).mono ?_
  rintro e w5 ⟨X2b, q2b, d2b, rfl, S2b, _, b5⟩
  have B5 := below_step B4 b5
  have G1 := G1.step b5
  have U1 := U1.step b5
  have V1 := V1.step b5
  have S2a := S2a.step b5
  go_wp2_with fail
  refine (bExt S2a.in_ S2b.in_ (by have h := S2a.1; rw [length_wd] at h; have := nbits_of_lt 5 8 (by omega); omega) (by have h := S2b.1; rw [length_wd] at h; have := nbits_of_lt 1 8 (by omega); omega)).mono ?_
  rintro e w6 ⟨X2, q2, d2, Y2, r2, f2, Z2, s2, t2, x2, y2, rfl, G2, U2, V2, E2, b6⟩
  have B6 := below_step B5 b6
  have G1 := G1.step b6
  have U1 := U1.step b6
  have V1 := V1.step b6
  have S2a := S2a.step b6
  have S2b := S2b.step b6
  obtain ⟨rfl, rfl⟩ := ext_b E2
  clear S2a S2b
  go_wp2_with fail
  refine (hN w6 3 _ rfl (by omega)).mono ?_
  rintro e w7 ⟨X3a, q3a, d3a, rfl, S3a, _, b7⟩
  have B7 := below_step B6 b7
  have G1 := G1.step b7
  have U1 := U1.step b7
  have V1 := V1.step b7
  have G2 := G2.step b7
  have U2 := U2.step b7
  have V2 := V2.step b7
  go_wp2_with fail
  refine (hN w7 7 _ rfl (by omega)).mono ?_
  rintro e w8 ⟨X3b, q3b, d3b, rfl, S3b, _, b8⟩
  have B8 := below_step B7 b8
  have G1 := G1.step b8
  have U1 := U1.step b8
  have V1 := V1.step b8
  have G2 := G2.step b8
  have U2 := U2.step b8
  have V2 := V2.step b8
  have S3a := S3a.step b8
  go_wp2_with fail
  refine (bInv_ok S3a.in_ S3b.in_ (by omega) (by decide) (by have h := S3a.1; rw [length_wd] at h; have := nbits_of_lt 3 8 (by omega); omega) (by have h := S3b.1; rw [length_wd] at h; have := nbits_of_lt 7 8 (by omega); omega)).mono ?_
  rintro e w9 ⟨X3, q3, d3, v3, rfl, S3, hv3, he3, b9⟩
  have B9 := below_step B8 b9
  have G1 := G1.step b9
  have U1 := U1.step b9
  have V1 := V1.step b9
  have G2 := G2.step b9
  have U2 := U2.step b9
  have V2 := V2.step b9
  have S3a := S3a.step b9
  have S3b := S3b.step b9
  obtain rfl : v3 = 5 := by omega
  clear S3a S3b
  clear hv3 he3
  go_wp2_with fail
  refine (hN w9 2 _ rfl (by omega)).mono ?_
  rintro e w10 ⟨X4a, q4a, d4a, rfl, S4a, _, b10⟩
  have B10 := below_step B9 b10
  have G1 := G1.step b10
  have U1 := U1.step b10
  have V1 := V1.step b10
  have G2 := G2.step b10
  have U2 := U2.step b10
  have V2 := V2.step b10
  have S3 := S3.step b10
  go_wp2_with fail
  refine (hN w10 4 _ rfl (by omega)).mono ?_
  rintro e w11 ⟨X4b, q4b, d4b, rfl, S4b, _, b11⟩
  have B11 := below_step B10 b11
  have G1 := G1.step b11
  have U1 := U1.step b11
  have V1 := V1.step b11
  have G2 := G2.step b11
  have U2 := U2.step b11
  have V2 := V2.step b11
  have S3 := S3.step b11
  have S4a := S4a.step b11
  go_wp2_with fail
  refine (bInv_no S4a.in_ S4b.in_ (.inr (by decide)) (by have h := S4a.1; rw [length_wd] at h; have := nbits_of_lt 2 8 (by omega); omega) (by have h := S4b.1; rw [length_wd] at h; have := nbits_of_lt 4 8 (by omega); omega)).mono ?_
  rintro e w12 ⟨X4, d4, rfl, b12⟩
  have B12 := below_step B11 b12
  have G1 := G1.step b12
  have U1 := U1.step b12
  have V1 := V1.step b12
  have G2 := G2.step b12
  have U2 := U2.step b12
  have V2 := V2.step b12
  have S3 := S3.step b12
  have S4a := S4a.step b12
  have S4b := S4b.step b12
  clear S4a S4b
  go_wp2_with fail
  refine (hN w12 5 _ rfl (by omega)).mono ?_
  rintro e w13 ⟨X5a, q5a, d5a, rfl, S5a, _, b13⟩
  have B13 := below_step B12 b13
  have G1 := G1.step b13
  have U1 := U1.step b13
  have V1 := V1.step b13
  have G2 := G2.step b13
  have U2 := U2.step b13
  have V2 := V2.step b13
  have S3 := S3.step b13
  go_wp2_with fail
  refine (hN w13 1 _ rfl (by omega)).mono ?_
  rintro e w14 ⟨X5b, q5b, d5b, rfl, S5b, _, b14⟩
  have B14 := below_step B13 b14
  have G1 := G1.step b14
  have U1 := U1.step b14
  have V1 := V1.step b14
  have G2 := G2.step b14
  have U2 := U2.step b14
  have V2 := V2.step b14
  have S3 := S3.step b14
  have S5a := S5a.step b14
  go_wp2_with fail
  refine (bInv_ok S5a.in_ S5b.in_ (by omega) (by decide) (by have h := S5a.1; rw [length_wd] at h; have := nbits_of_lt 5 8 (by omega); omega) (by have h := S5b.1; rw [length_wd] at h; have := nbits_of_lt 1 8 (by omega); omega)).mono ?_
  rintro e w15 ⟨X5, q5, d5, v5, rfl, S5, hv5, he5, b15⟩
  have B15 := below_step B14 b15
  have G1 := G1.step b15
  have U1 := U1.step b15
  have V1 := V1.step b15
  have G2 := G2.step b15
  have U2 := U2.step b15
  have V2 := V2.step b15
  have S3 := S3.step b15
  have S5a := S5a.step b15
  have S5b := S5b.step b15
  obtain rfl : v5 = 0 := by omega
  obtain rfl := natIs_zero S5
  clear S5a S5b S5
  clear hv5 he5
  go_wp2_with fail
  refine (hN w15 12 _ rfl (by omega)).mono ?_
  rintro e w16 ⟨X6a, q6a, d6a, rfl, S6a, _, b16⟩
  have B16 := below_step B15 b16
  have G1 := G1.step b16
  have U1 := U1.step b16
  have V1 := V1.step b16
  have G2 := G2.step b16
  have U2 := U2.step b16
  have V2 := V2.step b16
  have S3 := S3.step b16
  go_wp2_with fail
  refine (hN w16 18 _ rfl (by omega)).mono ?_
  rintro e w17 ⟨X6b, q6b, d6b, rfl, S6b, _, b17⟩
  have B17 := below_step B16 b17
  have G1 := G1.step b17
  have U1 := U1.step b17
  have V1 := V1.step b17
  have G2 := G2.step b17
  have U2 := U2.step b17
  have V2 := V2.step b17
  have S3 := S3.step b17
  have S6a := S6a.step b17
  go_wp2_with fail
  refine (bGcd S6a.in_ S6b.in_ (by have h := S6a.1; rw [length_wd] at h; have := nbits_of_lt 12 8 (by omega); omega) (by have h := S6b.1; rw [length_wd] at h; have := nbits_of_lt 18 8 (by omega); omega)).mono ?_
  rintro e w18 ⟨X6, q6, d6, rfl, S6, _, b18⟩
  have B18 := below_step B17 b18
  have G1 := G1.step b18
  have U1 := U1.step b18
  have V1 := V1.step b18
  have G2 := G2.step b18
  have U2 := U2.step b18
  have V2 := V2.step b18
  have S3 := S3.step b18
  have S6a := S6a.step b18
  have S6b := S6b.step b18
  clear S6a S6b
  go_wp2_with fail
  refine (hIs_yes S6 6 _ rfl (by decide) (by omega)).mono ?_
  rintro e w19 ⟨rfl, b19⟩
  have B19 := below_step B18 b19
  have G1 := G1.step b19
  have U1 := U1.step b19
  have V1 := V1.step b19
  have G2 := G2.step b19
  have U2 := U2.step b19
  have V2 := V2.step b19
  have S3 := S3.step b19
  have S6 := S6.step b19
  clear S6
  go_wp2_with fail
  refine (hN w19 7 _ rfl (by omega)).mono ?_
  rintro e w20 ⟨X7b, q7b, d7b, rfl, S7b, _, b20⟩
  have B20 := below_step B19 b20
  have G1 := G1.step b20
  have U1 := U1.step b20
  have V1 := V1.step b20
  have G2 := G2.step b20
  have U2 := U2.step b20
  have V2 := V2.step b20
  have S3 := S3.step b20
  go_wp2_with fail
  refine (bGcd (natIn_nil w20) S7b.in_ (by omega) (by have h := S7b.1; rw [length_wd] at h; have := nbits_of_lt 7 8 (by omega); omega)).mono ?_
  rintro e w21 ⟨X7, q7, d7, rfl, S7, _, b21⟩
  have B21 := below_step B20 b21
  have G1 := G1.step b21
  have U1 := U1.step b21
  have V1 := V1.step b21
  have G2 := G2.step b21
  have U2 := U2.step b21
  have V2 := V2.step b21
  have S3 := S3.step b21
  have S7b := S7b.step b21
  clear S7b
  go_wp2_with fail
  refine (hIs_yes S7 7 _ rfl (by decide) (by omega)).mono ?_
  rintro e w22 ⟨rfl, b22⟩
  have B22 := below_step B21 b22
  have G1 := G1.step b22
  have U1 := U1.step b22
  have V1 := V1.step b22
  have G2 := G2.step b22
  have U2 := U2.step b22
  have V2 := V2.step b22
  have S3 := S3.step b22
  have S7 := S7.step b22
  clear S7
  go_wp2_with fail
  refine (hIs_yes G1 6 _ rfl (by decide) (by omega)).mono ?_
  rintro e w23 ⟨rfl, b23⟩
  have B23 := below_step B22 b23
  have G1 := G1.step b23
  have U1 := U1.step b23
  have V1 := V1.step b23
  have G2 := G2.step b23
  have U2 := U2.step b23
  have V2 := V2.step b23
  have S3 := S3.step b23
  clear G1
  go_wp2_with fail
  refine (hIs_yes U1 2 _ rfl (by decide) (by omega)).mono ?_
  rintro e w24 ⟨rfl, b24⟩
  have B24 := below_step B23 b24
  have U1 := U1.step b24
  have V1 := V1.step b24
  have G2 := G2.step b24
  have U2 := U2.step b24
  have V2 := V2.step b24
  have S3 := S3.step b24
  clear U1
  go_wp2_with fail
  refine (hIs_yes V1 1 _ rfl (by decide) (by omega)).mono ?_
  rintro e w25 ⟨rfl, b25⟩
  have B25 := below_step B24 b25
  have V1 := V1.step b25
  have G2 := G2.step b25
  have U2 := U2.step b25
  have V2 := V2.step b25
  have S3 := S3.step b25
  clear V1
  go_wp2_with fail
  refine (hIs_yes G2 1 _ rfl (by decide) (by omega)).mono ?_
  rintro e w26 ⟨rfl, b26⟩
  have B26 := below_step B25 b26
  have G2 := G2.step b26
  have U2 := U2.step b26
  have V2 := V2.step b26
  have S3 := S3.step b26
  clear G2
  go_wp2_with fail
  refine (hIs_yes U2 1 _ rfl (by decide) (by omega)).mono ?_
  rintro e w27 ⟨rfl, b27⟩
  have B27 := below_step B26 b27
  have U2 := U2.step b27
  have V2 := V2.step b27
  have S3 := S3.step b27
  clear U2
  go_wp2_with fail
  refine (hIs_yes V2 4 _ rfl (by decide) (by omega)).mono ?_
  rintro e w28 ⟨rfl, b28⟩
  have B28 := below_step B27 b28
  have V2 := V2.step b28
  have S3 := S3.step b28
  clear V2
  go_wp2_with fail
  refine (hIs_yes S3 5 _ rfl (by decide) (by omega)).mono ?_
  rintro e w29 ⟨rfl, b29⟩
  have B29 := below_step B28 b29
  have S3 := S3.step b29
  clear S3
  go_wp2_with fail
  go_ret
  exact ⟨rfl, B29⟩
end Go.Proofs.Ytbgaboboakkimaa

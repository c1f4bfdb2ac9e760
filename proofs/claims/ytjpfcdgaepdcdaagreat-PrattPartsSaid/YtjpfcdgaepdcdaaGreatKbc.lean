/- Several texts in one; each begins with a remark that says what it shows and on which conditions. -/
import Derived.Test.YtjpfcdgaepdcdaaGreatKat
import Derived.Test.YtjpfcdgaepdcdaaGreatKbb
import Derived.Test.YtjpfcdgaepdcdaaGreatKas
/- power.Jacobi. Conditions: as typed (lengths that fit a machine); math/bits' table lies as the row lists it. -/
namespace Go.Proofs.YtjpfcdgaepdcdaaGreat
open Go.RowKit
set_option maxRecDepth 20000
/-- A number, and no error. -/
def OutOk (V : Nat) (w : World) (e : Ending) (w' : World) : Prop := ∃ Y r f, e = .returned (.tuple #[.slice Y r f, .int .i64 0]) ∧ NatIs w' Y r f V ∧ Below w.heap.size w w'
section
variable {w : World} {A A2 : Option Addr} {n m c c2 M N : Nat}
/-- What is left, written otherwise. -/
theorem bMod_is (V : Nat) (h : NatIn w A n c M) (i : NatIn w A2 m c2 N) (e : M % N = V) (h0 : N ≠ 0) (hs : n ≤ 9500) (hs2 : m ≤ 9500) : Calls Tryz.prog 77 #[.slice A n c, .slice A2 m c2] w (OutOk V w) := by
  subst e
  exact Calls.mono (bMod_ok h i h0 (by omega) (by omega)) fun _ _ h => h
theorem small_ok8 (h : NatIn w A n c M) (hM : M < 18446744073709551616) : Calls Tryz.prog 39 #[.slice A n c] w fun e w' => e = .returned (.tuple #[.int .u64 (M : Nat), .bool true]) ∧ Below w.heap.size w w' := by
  obtain ⟨l, rfl, rfl, h3, h4, h5, h6⟩ := h
  have h := natSmall_any A c l w h5 h3 (by omega) h6
  rwa [show smallV (natOf l) = ((natOf l : Nat) : Int) by simp [smallV, hM], show smallB (natOf l) = true by simp [smallB, hM]] at h
theorem small_no8 (h : NatIn w A n c M) (hM : ¬ M < 18446744073709551616) : Calls Tryz.prog 39 #[.slice A n c] w fun e w' => e = .returned (.tuple #[.int .u64 0, .bool false]) ∧ Below w.heap.size w w' := by
  obtain ⟨l, rfl, rfl, h3, h4, h5, h6⟩ := h
  have h := natSmall_any A c l w h5 h3 (by omega) h6
  rwa [show smallV (natOf l) = 0 by simp [smallV, hM], show smallB (natOf l) = false by simp [smallB, hM]] at h
theorem natIs_len8 {X : Option Addr} {q d V K : Nat} (h : NatIs w X q d V) (hV : nbits V ≤ 64 * K) : q ≤ K := by
  have h1 := h.1
  rw [length_wd] at h1
  omega
end
end Go.Proofs.YtjpfcdgaepdcdaaGreat
/- power.fromHighest as what a loop over it may rely on; products of words by a word; power.raised of words. Conditions: as typed (a length that fits a machine). -/
namespace Go.Proofs.YtjpfcdgaepdcdaaGreat
open Go.RowKit Go.Shelf
set_option maxRecDepth 20000
attribute [local go_sem] Oper.semAt_some
/-- A bit. -/
abbrev BT := { x : Nat // x < 2 }
theorem bit_lt8 (E i : Nat) : bit E i < 2 := Nat.mod_lt _ (by omega)
def highAt (E : Nat) (j : Nat) : BT := ⟨bit E (nbits E - 1 - j), bit_lt8 _ _⟩
/-- What a round keeps: all that lay below n₀, and the iterator's box. -/
def KpB (n₀ p : Nat) (W W' : World) : Prop := Below n₀ W W' ∧ W'.heap[p]? = W.heap[p]?
theorem KpB.t {n₀ p : Nat} {A B C : World} (h : KpB n₀ p A B) (k : KpB n₀ p B C) : KpB n₀ p A C := ⟨h.1.trans k.1, k.2.trans h.2⟩
theorem KpB.b {n₀ p : Nat} {w : World} (hn : n₀ ≤ w.heap.size) (hp : p < w.heap.size) (W : World) (l : Nat) (o o' : Obj) (hl : w.heap.size ≤ l) (h : W.heap[l]? = some o) (h1 : o.isCells = false) (h2 : o.isWalk = false) : KpB n₀ p W (W.putObj l o') := by
  have hg := grownBy_putObj' W l o'
  have hlt := (Array.getElem?_eq_some_iff.1 h).1
  exact ⟨belowK_b hn W l o o' hl h h1 h2, hg.block p (by omega) (by simp; omega)⟩
theorem grown_of_below {W W' : World} (b : Below W.heap.size W W') : W.grownBy W' none := ⟨b.os, b.tape, b.output, b.size, fun i hi _ => b.block i hi⟩
set_option maxRecDepth 100000 in
set_option maxHeartbeats 2000000 in
theorem high1_in (n : Nat) (hn : 1 ≤ n) (l p n₀ q c E K : Nat) (A : Option Addr) (hK : Hid (nbits E = K)) (J Jx : List BT → World → Prop) (W : World) (hJ : AbidesFrom W.heap.size J)
    (hY : ∀ pre x W, J pre W → pre.length < K → YieldAt Fence.wide (n - 1) Tryz.prog l #[.int .u64 (x.1 : Int)] W fun e W' =>
      (e = .returned (.bool true) ∧ J (pre ++ [x]) W' ∧ KpB n₀ p W W') ∨ (e = .returned (.bool false) ∧ Jx (pre ++ [x]) W'))
    (hp : Boxed W p 33 (.slice A q c)) (hn₀ : n₀ ≤ W.heap.size) (hpn : p < W.heap.size) (hA : ∃ l : List Nat, l.length = q ∧ natOf l = E ∧ Words l ∧ q ≤ 50000 ∧ Rd .u64 W n₀ A l ∧ q ≤ c) (h0 : J [] W) :
    CallsIn Fence.wide n Tryz.prog 129 #[.func (.yield l) #[] #[], .pointer (some ⟨p, 0, none⟩)] W fun e W' => (∃ v, e = .returned v) ∧
      ((∃ ys, ys = upto (highAt E) K ∧ J ys W') ∨ (∃ pre, True ∧ Jx pre W')) := by
  have hpc := hp.cell
  obtain ⟨xs, rfl, hxE, hxw, hxl, hxr, hxc⟩ := hA
  have hKb : K ≤ 3200000 := by
    have h1 := nbits_natOf xs hxw
    rw [hxE, hK.out] at h1
    omega
  have HBt := Lib.hid (bits_q A c xs W n₀ hxr hxw (by omega) hxc)
  rw [hxE, hK.out] at HBt
  have HX := Lib.hid hxr
  have HXW := Lib.hid hxw
  have HXE := Lib.hid hxE
  clear hxr hxw hxE
  refine callsIn_of_wp Tryz.func129 rfl trivial ?_ rfl
  simp only [Tryz.ntmps129, List.size_toArray, List.length_cons, List.length_nil, Nat.reduceAdd, Nat.reduceSub, Array.replicate_succ, Array.replicate_zero, List.push_toArray, List.append_toArray, List.nil_append, List.cons_append]
  gi_wp2
  refine ⟨trivial, ?_⟩
  refine (callsIn_wide.2 HBt.out).mono ?_
  rintro e w' ⟨rfl, rfl⟩
  gi_wp2
  gi_loopw [3] (fun i wr => ∃ k : Nat, k ≤ K ∧ i = .int .i64 ((k : Int) - 1) ∧ J (upto (highAt E) (K - k)) wr ∧ KpB n₀ p W wr) (fun i _ => (intOf i + 1).toNat)
  case atStart => exact ⟨K, Nat.le_refl _, rfl, by simpa [upto] using h0, Below.refl _ _, rfl⟩
  case round =>
    obtain ⟨k, hk, rfl, hJs, hkp⟩ := hrel
    by_cases hlt : 0 < k
    · obtain ⟨i, rfl⟩ : ∃ i, k = i + 1 := ⟨k - 1, by omega⟩
      have hp1 : Boxed wr p 33 (.slice A xs.length c) := hkp.2.trans hp
      have hpc1 := hp1.cell
      have hsz := hkp.1.size
      have HBI := Lib.hid (bit_pf A c xs wr ((HX.out.below hkp.1).more (by omega)) HXW.out (by omega) (i : Int) (by unfold MaxI; omega))
      obtain ⟨bv, hbv⟩ : ∃ bv, bit E i = bv := ⟨_, rfl⟩
      rw [HXE.out, show bitS E (i : Int) = bv by unfold bitS; rw [if_neg (by omega), Int.toNat_natCast, hbv]] at HBI
      have hx : highAt E (K - (i + 1)) = ⟨bv, by rw [← hbv]; exact bit_lt8 _ _⟩ := by
        unfold highAt
        apply Subtype.ext
        show bit E (nbits E - 1 - (K - (i + 1))) = bv
        rw [hK.out, show K - 1 - (K - (i + 1)) = i by omega]
        exact hbv
      have HU := Lib.hid (upto_succ (highAt E) (K - (i + 1)))
      rw [hx, show K - (i + 1) + 1 = K - i by omega] at HU
      have HL := Lib.hid (show (upto (highAt E) (K - (i + 1))).length < K by rw [upto_length]; omega)
      have HKP := Lib.hid hkp
      have HJS := Lib.hid hJs
      clear hpc hp hp1 hJs hkp h0 hx
      rw [show ((i + 1 : Nat) : Int) - 1 = (i : Int) by omega]
      gi_wp2
      refine ⟨trivial, ?_⟩
      refine (callsIn_wide.2 HBI.out).mono ?_
      rintro e w2 ⟨rfl, b2⟩
      have hY1 := hY (upto (highAt E) (K - (i + 1))) ⟨bv, by rw [← hbv]; exact bit_lt8 _ _⟩ w2 (hJ _ _ _ none HJS.out (grown_of_below b2) (fun r e => by cases e)) HL.out
      dsimp only at hY1
      obtain ⟨fn, tmps, assign, body, hy, hR⟩ := hY1
      have HKP2 := Lib.hid (HKP.out.t (show KpB n₀ p wr w2 from ⟨b2.mono (by omega), b2.block p (by omega)⟩))
      gi_wp2
      refine hR.mono ?_
      rintro e W3 (⟨rfl, hJ3, hk3⟩ | ⟨rfl, hJx3⟩)
      · gi_wp2
        go_roundw
        case rel => exact ⟨i, by omega, rfl, by rw [HU.out]; exact hJ3, HKP2.out.t hk3⟩
        case measure => simp [intOf] <;> omega
      · gi_wp2
        refine bodyPost_ret (results_none rfl _ _ _) rfl ?_
        exact ⟨⟨_, rfl⟩, .inr ⟨_, trivial, hJx3⟩⟩
    · obtain rfl : k = 0 := by omega
      gi_wp2
      go_end0
      exact ⟨⟨_, rfl⟩, .inl ⟨_, by rw [Nat.sub_zero], hJs⟩⟩
set_option maxHeartbeats 1000000 in
theorem high_in (n : Nat) (A : Option Addr) (q c : Nat) (w : World) :
    CallsIn Fence.wide n Tryz.prog 119 #[.slice A q c] w fun e w' =>
      e = .returned (.func (.func 129) #[] #[.pointer (some ⟨w.heap.size, 0, none⟩)]) ∧ w.alloc (.cells #[.slice A q c] 33) = w' := by
  refine callsIn_of_wp Tryz.func119 rfl trivial ?_ rfl
  simp only [Tryz.ntmps119, List.size_toArray, List.length_cons, List.length_nil, Nat.reduceAdd, Nat.reduceSub, Array.replicate_succ, Array.replicate_zero, List.push_toArray, List.append_toArray, List.nil_append, List.cons_append]
  gi_wp2
  go_ret
  exact ⟨rfl, rfl⟩
/-- The number's bits, the highest one first; or a part of them. -/
theorem high_stops (n : Nat) (hn : 1 ≤ n) (p n₀ q c E K : Nat) (A : Option Addr) (hK : Hid (nbits E = K)) (w : World) (hp : Boxed w p 33 (.slice A q c)) (hn₀ : n₀ ≤ w.heap.size)
    (hA : ∃ l : List Nat, l.length = q ∧ natOf l = E ∧ Words l ∧ q ≤ 50000 ∧ Rd .u64 w n₀ A l ∧ q ≤ c) :
    SeqStopsK Fence.wide n Tryz.prog 129 #[.pointer (some ⟨p, 0, none⟩)] (fun x : BT => #[Value.int .u64 (x.1 : Int)]) (KpB n₀ p) (fun ys => ys = upto (highAt E) K) (fun _ => True) K w := fun l J Jx W hW hJ _ hY h0 =>
  high1_in n hn l p n₀ q c E K A hK J Jx W hJ hY ((hW.block p hp.lt).trans hp) (Nat.le_trans hn₀ hW.size) (Nat.lt_of_lt_of_le hp.lt hW.size)
    (by obtain ⟨xs, e1, e2, e3, e4, e5, e6⟩ := hA; exact ⟨xs, e1, e2, e3, e4, e5.below (hW.mono hn₀), e6⟩) h0
/-! Products of words by a word -/
set_option maxHeartbeats 1000000 in
theorem rem64_any (h l y : Nat) (w : World) (hh : h < 18446744073709551616) (hy0 : 0 < y) (hy : y < 18446744073709551616) (hl : l < 18446744073709551616) :
    Calls Tryz.prog 97 #[.int .u64 h, .int .u64 l, .int .u64 y] w fun e w' => e = .returned (.int .u64 ((h * 18446744073709551616 + l) % y : Nat)) ∧ Drawn w w' := by
  obtain ⟨r, hr⟩ : ∃ r, h % y = r := ⟨_, rfl⟩
  have hrl : r < y := by rw [← hr]; exact Nat.mod_lt _ hy0
  have hmI : (h : Int) % (y : Int) = (r : Int) := by rw [← hr]; simp
  have HD := Lib.hid (div64_any r l y w hrl hy hl)
  have hv := Lib.hid (show (r * 18446744073709551616 + l) % y = (h * 18446744073709551616 + l) % y by rw [← hr, Nat.add_mod, Nat.mod_mul_mod, ← Nat.add_mod])
  have hb : ((y : Int) == 0) = false := by simp; omega
  clear hr
  go_enter Tryz.func97, Tryz.ntmps97
  go_wp2_with fail
  refine (HD.out).mono ?_
  rintro e w' ⟨rfl, k, rfl⟩
  rw [hv.out]
  go_wp2_with fail
  go_ret
  exact ⟨rfl, Drawn.more k⟩
set_option maxHeartbeats 1000000 in
theorem exp1_any (x y m g : Nat) (hx : x < 18446744073709551616) (hy : y < 18446744073709551616) (hm0 : 0 < m) (hm : m < 18446744073709551616) (w : World) (hg : Boxed w g 27 (.int .u64 (m : Int))) :
    Calls Tryz.prog 96 #[.int .u64 x, .int .u64 y, .pointer (some ⟨g, 0, none⟩)] w fun e w' => e = .returned (.int .u64 (x * y % m : Nat)) ∧ Drawn w w' := by
  have hgc := hg.cell
  obtain ⟨hi, hhi⟩ : ∃ hi, x * y / 18446744073709551616 = hi := ⟨_, rfl⟩
  obtain ⟨lo, hlo⟩ : ∃ lo, x * y % 18446744073709551616 = lo := ⟨_, rfl⟩
  have M := Tryz.bits_Mul64 x y hx hy w
  rw [hhi, hlo] at M
  have h1 : hi < 18446744073709551616 := by
    rw [← hhi]
    refine Nat.div_lt_of_lt_mul ?_
    exact Nat.lt_of_le_of_lt (Nat.mul_le_mul (Nat.le_of_lt hx) (Nat.le_refl y)) (Nat.mul_lt_mul_of_pos_left hy (by omega))
  have h2 : lo < 18446744073709551616 := by rw [← hlo]; exact Nat.mod_lt _ (by omega)
  have h3 : (hi * 18446744073709551616 + lo) % m = x * y % m := by
    have := Nat.div_add_mod (x * y) 18446744073709551616
    rw [hhi, hlo, Nat.mul_comm] at this
    rw [this]
  have R := rem64_any hi lo m w h1 hm0 hm h2
  rw [h3] at R
  have HM := Lib.hid M
  have HR := Lib.hid R
  obtain ⟨z, hz⟩ : ∃ z, x * y % m = z := ⟨_, rfl⟩
  rw [hz] at HR ⊢
  clear M R h3 hhi hlo hz
  go_enter Tryz.func96, Tryz.ntmps96
  go_wp2_with fail
  refine (HM.out).mono ?_
  rintro e w' ⟨rfl, rfl⟩
  go_wp2_with fail
  refine (HR.out).mono ?_
  rintro e w' ⟨rfl, k, rfl⟩
  go_wp2_with fail
  go_ret
  exact ⟨rfl, Drawn.more k⟩
end Go.Proofs.YtjpfcdgaepdcdaaGreat
/- power.raised of words. Conditions: as typed (a length that fits a machine). -/
namespace Go.Proofs.YtjpfcdgaepdcdaaGreat
open Go.RowKit Go.Shelf
set_option maxRecDepth 20000
attribute [local go_sem] Oper.semAt_some
/-- The number whose bits have come, the highest one first. -/
def hv (l : List BT) : Nat := l.foldl (fun v x => 2 * v + x.1) 0
theorem hv_nil : hv [] = 0 := rfl
theorem hv_snoc (l : List BT) (x : BT) : hv (l ++ [x]) = 2 * hv l + x.1 := by simp [hv]
theorem hv_upto (E : Nat) : ∀ k, k ≤ nbits E → hv (upto (highAt E) k) = E / 2 ^ (nbits E - k) := by
  intro k
  induction k with
  | zero =>
    intro _
    rw [Nat.sub_zero, Nat.div_eq_of_lt (nbits_lt E)]
    rfl
  | succ k ih =>
    intro hk
    rw [upto_succ, hv_snoc, ih (by omega)]
    obtain ⟨i, hi⟩ : ∃ i, nbits E - (k + 1) = i := ⟨_, rfl⟩
    have e1 : (highAt E k).1 = E / 2 ^ i % 2 := by
      show bit E (nbits E - 1 - k) = _
      rw [show nbits E - 1 - k = i by omega]
      rfl
    rw [e1, show nbits E - k = i + 1 by omega, hi, Nat.pow_succ, ← Nat.div_div_eq_div_mul]
    omega
theorem hv_all (E : Nat) : hv (upto (highAt E) (nbits E)) = E := by rw [hv_upto E _ (Nat.le_refl _), Nat.sub_self, Nat.pow_zero, Nat.div_one]
theorem pow_twice (b v m : Nat) : (b ^ v % m) * (b ^ v % m) % m = b ^ (2 * v) % m := by rw [pow_sum_mod]; congr 2; omega
theorem pow_twice_one (b v m : Nat) : b ^ (2 * v) % m * (b % m) % m = b ^ (2 * v + 1) % m := by rw [← Nat.mul_mod, Nat.pow_succ]
theorem drawn_grown {W W1 : World} (d : Drawn W W1) : W.grownBy W1 none := by
  obtain ⟨k, rfl⟩ := d
  exact Drawn.grown W k
/-- Between two rounds of raised. -/
structure RaiMid (w : World) (g b m out : Nat) (W : World) : Prop where
  bb : Boxed W w.heap.size 27 (.int .u64 (b : Int))
  bt : Boxed W (w.heap.size + 1) 91 (.func (.func 96) #[] #[.pointer (some ⟨g, 0, none⟩)])
  bo : Boxed W (w.heap.size + 1 + 1) 27 (.int .u64 (out : Int))
  bm : Boxed W g 27 (.int .u64 (m : Int))
  below : Below w.heap.size w W
  size : w.heap.size + 4 ≤ W.heap.size
theorem RaiMid.kept {w W W' : World} {g b m out : Nat} {row : Option Nat} (h : RaiMid w g b m out W) (hg : W.grownBy W' row) (hr : ∀ k, row = some k → w.heap.size + 4 ≤ k) (hgw : g < w.heap.size) : RaiMid w g b m out W' where
  bb := h.bb.kept hg (by intro e; have := hr _ e.symm; omega)
  bt := h.bt.kept hg (by intro e; have := hr _ e.symm; omega)
  bo := h.bo.kept hg (by intro e; have := hr _ e.symm; omega)
  bm := h.bm.kept hg (by intro e; have := hr _ e.symm; omega)
  below := h.below.grown hg h.below.size (fun k e => by have := hr k e; omega)
  size := Nat.le_trans h.size hg.size
theorem RaiMid.put {w W : World} {g b m out : Nat} (h : RaiMid w g b m out W) (x : Nat) (hgw : g < w.heap.size) : RaiMid w g b m x (W.setCell ⟨w.heap.size + 1 + 1, 0, none⟩ (.int .u64 (x : Int))) where
  bb := h.bb.kept (grownBy_setCell' W (w.heap.size + 1 + 1) (.int .u64 (x : Int))) (by simp; omega)
  bt := h.bt.kept (grownBy_setCell' W (w.heap.size + 1 + 1) (.int .u64 (x : Int))) (by simp)
  bo := h.bo.set _
  bm := h.bm.kept (grownBy_setCell' W (w.heap.size + 1 + 1) (.int .u64 (x : Int))) (by simp; omega)
  below := h.below.setCell (p := ⟨w.heap.size + 1 + 1, 0, none⟩) (by simp; omega) _
  size := by simpa [World.setCell] using h.size
set_option maxRecDepth 100000 in
set_option maxHeartbeats 2000000 in
theorem raised1_pf (b m g E : Nat) (A : Option Addr) (q c : Nat) (w : World) (hE : NatIn w A q c E) (hb : b < 18446744073709551616) (hm0 : 0 < m) (hm : m < 18446744073709551616) (hg : Boxed w g 27 (.int .u64 (m : Int))) :
    Calls Tryz.prog 95 #[.int .u64 b, .int .u64 (1 % m : Nat), .slice A q c, .func (.func 96) #[] #[.pointer (some ⟨g, 0, none⟩)]] w fun e w' => e = .returned (.int .u64 (b ^ E % m : Nat)) ∧ Below w.heap.size w w' := by
  obtain ⟨K, hK⟩ : ∃ K, nbits E = K := ⟨_, rfl⟩
  obtain ⟨o1, ho1⟩ : ∃ o1, 1 % m = o1 := ⟨_, rfl⟩
  have HK := Lib.hid hK
  have HO := Lib.hid ho1
  have HE := Lib.hid hE
  have hgw := hg.lt
  rw [ho1]
  clear hK hE ho1
  refine (callsIn_wide (n := 9)).1 ?_
  refine callsIn_of_wp_marks Tryz.func95 rfl trivial ?_ rfl
  simp only [Tryz.ntmps95, List.size_toArray, List.length_cons, List.length_nil, Nat.reduceAdd, Nat.reduceSub, Array.replicate_succ, Array.replicate_zero, List.push_toArray, List.append_toArray, List.nil_append, List.cons_append]
  gi_wp2
  refine ⟨trivial, ?_⟩
  refine (high_in _ _ _ _ _).mono ?_
  rintro e w' ⟨rfl, rfl⟩
  have b1 := Boxed.new w 27 (.int .u64 (b : Int))
  have b2 := Boxed.new (w.alloc (.cells #[.int .u64 (b : Int)] 27)) 91 (.func (.func 96) #[] #[.pointer (some ⟨g, 0, none⟩)])
  have b3 := Boxed.new ((w.alloc (.cells #[.int .u64 (b : Int)] 27)).alloc (.cells #[.func (.func 96) #[] #[.pointer (some ⟨g, 0, none⟩)]] 91)) 27 (.int .u64 (o1 : Int))
  have b4 := Boxed.new (((w.alloc (.cells #[.int .u64 (b : Int)] 27)).alloc (.cells #[.func (.func 96) #[] #[.pointer (some ⟨g, 0, none⟩)]] 91)).alloc (.cells #[.int .u64 (o1 : Int)] 27)) 33 (.slice A q c)
  simp only [World.size_alloc] at b2 b3 b4
  obtain ⟨E0, hE0⟩ : ∃ E0, (((w.alloc (.cells #[.int .u64 (b : Int)] 27)).alloc (.cells #[.func (.func 96) #[] #[.pointer (some ⟨g, 0, none⟩)]] 91)).alloc (.cells #[.int .u64 (o1 : Int)] 27)).alloc (.cells #[.slice A q c] 33) = E0 := ⟨_, rfl⟩
  have hEs : E0.heap.size = w.heap.size + 4 := by rw [← hE0]; simp
  have hB : Below w.heap.size w E0 := by rw [← hE0]; exact ((((Below.refl _ w).alloc (Nat.le_refl _) _).alloc (by simp) _).alloc (by simp; omega) _).alloc (by simp; omega) _
  have hM0 : RaiMid w g b m o1 E0 := by
    refine ⟨?_, ?_, ?_, (hB.block g hgw).trans hg, hB, by omega⟩
    · rw [← hE0]; exact ((b1.alloc _).alloc _).alloc _
    · rw [← hE0]; exact (b2.alloc _).alloc _
    · rw [← hE0]; exact b3.alloc _
  have bE : Boxed E0 (w.heap.size + 1 + 1 + 1) 33 (.slice A q c) := by rw [← hE0]; exact b4
  have HEs := Lib.hid hEs
  clear b1 b2 b3 b4
  gi_wp2
  clear hE0
  refine wpIn_rangeFunc_ownG rfl (by omega) (gf := 129) (lb := #[.pointer (some ⟨w.heap.size + 1 + 1 + 1, 0, none⟩)]) rfl trivial (enters_of Tryz.func129 (by kernel_rfl) rfl)
    (high_stops 8 (by omega) (w.heap.size + 1 + 1 + 1) w.heap.size q c E K A HK E0 bE (by omega) (by obtain ⟨l, e1, e2, e3, e4, e5, e6⟩ := HE.out; exact ⟨l, e1, e2, e3, e4, e5.below hB, e6⟩))
    KpB.t (KpB.b (by omega) (by omega)) (Below.refl _ _) (fun _ => rfl)
    (fun pre W => RaiMid w g b m (b ^ hv pre % m) W)
    (fun _ _ _ => False)
    (fun s X Y row hs hg hr => hs.kept hg (fun k e => by have := (hr k e).1; omega) hgw)
    (fun _ _ _ _ _ hs _ _ => hs)
    (by rw [hv_nil, Nat.pow_zero, HO.out]; exact hM0)
    (fun x => { tmps := #[.int .u64 (b : Int), .int .u64 (o1 : Int), .slice A q c, .func (.func 96) #[] #[.pointer (some ⟨g, 0, none⟩)], .pointer (some ⟨w.heap.size, 0, none⟩), undef, undef, .pointer (some ⟨w.heap.size + 1, 0, none⟩), .int .u64 0, .pointer (some ⟨w.heap.size + 1 + 1, 0, none⟩),
      .int .u64 (x.1 : Int), .int .u64 (o1 : Int), .slice A q c, .func (.func 129) #[] #[.pointer (some ⟨w.heap.size + 1 + 1 + 1, 0, none⟩)], .int .u64 (x.1 : Int), undef, undef, undef, undef, undef, undef, undef, undef, undef, undef, undef], defers := [] }) ?assign ?body ?done ?stop
  case assign =>
    intro l x W K hK
    gi_wp2
    exact hK
  case body =>
    rintro l pre x W hM hlen
    obtain ⟨v, hv0⟩ : ∃ v, hv pre = v := ⟨_, rfl⟩
    obtain ⟨o, ho⟩ : ∃ o, b ^ v % m = o := ⟨_, rfl⟩
    obtain ⟨o2, ho2⟩ : ∃ o2, o * o % m = o2 := ⟨_, rfl⟩
    have h2 : b ^ (2 * v) % m = o2 := by rw [← ho2, ← ho, pow_twice]
    rw [hv0, ho] at hM
    have hol : o < m := by rw [← ho]; exact Nat.mod_lt _ hm0
    have ho2l : o2 < m := by rw [← ho2]; exact Nat.mod_lt _ hm0
    have X1 := exp1_any o o m g (by omega) (by omega) hm0 hm W hM.bm
    rw [ho2] at X1
    have HX1 := Lib.hid X1
    have HM := Lib.hid hM
    have HV := Lib.hid (hv_snoc pre x)
    rw [hv0] at HV
    have H2 := Lib.hid h2
    have hbc := hM.bb.cell
    have htc := hM.bt.cell
    have hoc := hM.bo.cell
    have hof := hM.bo.frozen
    have hWs := hM.size
    clear X1 hM hv0 ho ho2 h2 hlen hM0 bE
    gi_wp2
    refine ⟨trivial, ?_⟩
    refine (CallsIn.inRound l (callsIn_wide.2 HX1.out)).mono ?_
    rintro e W1 ⟨rfl, d1⟩
    have hM1 := HM.out.kept (drawn_grown d1) (fun k e => by cases e) hgw
    have K1 := KeepsOthers.of_grownBy (drawn_grown d1) (fun j o e => by cases e)
    have hM2 := hM1.put o2 hgw
    have hoc1 := hM1.bo.cell
    have hof1 := hM1.bo.frozen
    have K2 := K1.trans (KeepsOthers.setCell _ ⟨w.heap.size + 1 + 1, 0, none⟩ (.int .u64 (o2 : Int)))
    have P2 : KpB w.heap.size (w.heap.size + 1 + 1 + 1) W (W1.setCell ⟨w.heap.size + 1 + 1, 0, none⟩ (.int .u64 (o2 : Int))) :=
      ⟨(d1.below w.heap.size).setCell (p := ⟨w.heap.size + 1 + 1, 0, none⟩) (by simp; omega) _, ((grownBy_setCell' W1 (w.heap.size + 1 + 1) (.int .u64 (o2 : Int))).block _ (by have := hM1.size; omega) (by simp)).trans ((drawn_grown d1).block _ (by omega) (by simp))⟩
    have hbc2 := hM2.bb.cell
    have htc2 := hM2.bt.cell
    have hoc2 := hM2.bo.cell
    have hof2 := hM2.bo.frozen
    have hWs2 := hM2.size
    have HM2 := Lib.hid hM2
    have HK2 := Lib.hid K2
    have HP2 := Lib.hid P2
    clear hM1 hM2 K1 K2 P2
    rcases Nat.lt_or_ge x.1 1 with hx | hx
    · have hx0 : x.1 = 0 := by omega
      have hb0 : ((x.1 : Int) == 1) = false := by simp; omega
      have HF := Lib.hid (show KeepsFrom E0.heap.size W (W1.setCell ⟨w.heap.size + 1 + 1, 0, none⟩ (.int .u64 (o2 : Int))) ∧ KpB w.heap.size (w.heap.size + 1 + 1 + 1) W (W1.setCell ⟨w.heap.size + 1 + 1, 0, none⟩ (.int .u64 (o2 : Int))) ∧ RaiMid w g b m (b ^ hv (pre ++ [x]) % m) (W1.setCell ⟨w.heap.size + 1 + 1, 0, none⟩ (.int .u64 (o2 : Int))) from
        ⟨HK2.out.from _, HP2.out, by rw [HV.out, hx0, Nat.add_zero, H2.out]; exact HM2.out⟩)
      clear hx hx0
      gi_wp2
      exact HF.out
    · have hx1 : x.1 = 1 := by have := x.2; omega
      have hb0 : ((x.1 : Int) == 1) = true := by simp; omega
      obtain ⟨o3, ho3⟩ : ∃ o3, o2 * b % m = o3 := ⟨_, rfl⟩
      have h3 := Lib.hid (show b ^ (2 * v + 1) % m = o3 by rw [← pow_twice_one, H2.out, Nat.mul_mod_mod, ho3])
      have X2 := exp1_any o2 b m g (by omega) hb hm0 hm _ HM2.out.bm
      rw [ho3] at X2
      have HX2 := Lib.hid X2
      have HX1' := Lib.hid hx1
      clear X2 ho3 hx hx1
      gi_wp2
      refine ⟨trivial, ?_⟩
      refine (CallsIn.inRound l (callsIn_wide.2 HX2.out)).mono ?_
      rintro e W3 ⟨rfl, d3⟩
      have hM3 := HM2.out.kept (drawn_grown d3) (fun k e => by cases e) hgw
      have K3 := HK2.out.trans (KeepsOthers.of_grownBy (drawn_grown d3) (fun j o e => by cases e))
      have hM4 := hM3.put o3 hgw
      have K4 := K3.trans (KeepsOthers.setCell _ ⟨w.heap.size + 1 + 1, 0, none⟩ (.int .u64 (o3 : Int)))
      have P4 : KpB w.heap.size (w.heap.size + 1 + 1 + 1) (W1.setCell ⟨w.heap.size + 1 + 1, 0, none⟩ (.int .u64 (o2 : Int))) (W3.setCell ⟨w.heap.size + 1 + 1, 0, none⟩ (.int .u64 (o3 : Int))) :=
        ⟨(d3.below w.heap.size).setCell (p := ⟨w.heap.size + 1 + 1, 0, none⟩) (by simp; omega) _, ((grownBy_setCell' W3 (w.heap.size + 1 + 1) (.int .u64 (o3 : Int))).block _ (by have := hM3.size; omega) (by simp)).trans ((drawn_grown d3).block _ (by omega) (by simp))⟩
      have hoc3 := hM3.bo.cell
      have hof3 := hM3.bo.frozen
      have HF := Lib.hid (show KeepsFrom E0.heap.size W (W3.setCell ⟨w.heap.size + 1 + 1, 0, none⟩ (.int .u64 (o3 : Int))) ∧ KpB w.heap.size (w.heap.size + 1 + 1 + 1) W (W3.setCell ⟨w.heap.size + 1 + 1, 0, none⟩ (.int .u64 (o3 : Int))) ∧ RaiMid w g b m (b ^ hv (pre ++ [x]) % m) (W3.setCell ⟨w.heap.size + 1 + 1, 0, none⟩ (.int .u64 (o3 : Int))) from
        ⟨K4.from _, HP2.out.t P4, by rw [HV.out, HX1'.out, h3.out]; exact hM4⟩)
      clear hM3 hM4 K3 K4 P4
      gi_wp2
      exact HF.out
  case done =>
    rintro D ys W hD hys hM hKd
    have HKd := Lib.hid hKd
    have hv1 : hv ys = E := by rw [hys, ← HK.out, hv_all]
    rw [hv1] at hM
    have hoc := hM.bo.cell
    have hD2 : w.heap.size + 4 ≤ D := by have := HEs.out; omega
    have HB := Lib.hid (show Below w.heap.size w (W.putObj D (.deferred none)) from hM.below.trans (belowK_b (w := w) (Nat.le_refl _) W D _ _ (by omega) HKd.out rfl rfl))
    clear hys hKd hv1 hM hM0 bE
    gi_wp2
    refine ⟨by simp, .inl ⟨_, _, rfl, run_takeDeferred HKd.out, ?_⟩⟩
    exact ⟨_, results_tmp (t := 8) rfl _ _ _, rfl, HB.out⟩
  case stop =>
    rintro D c pre W _ _ h _
    exact h.elim
end Go.Proofs.YtjpfcdgaepdcdaaGreat
/- power.raised of numbers of many words. Conditions: as typed (lengths that fit a machine). -/
namespace Go.Proofs.YtjpfcdgaepdcdaaGreat
open Go.RowKit Go.Shelf
set_option maxRecDepth 20000
attribute [local go_sem] Oper.semAt_some
/-! Numbers in memory stay where variables of another kind are stored into, and where no cells are turned -/
theorem Rd.box8 {u : World} {B G t : Nat} {A : Option Addr} {l : List Nat} {v : Value} (h : Rd .u64 u B A l) (hb : Boxed u G t v) (hv : ∀ k x, v ≠ .int k x) (y : Value) : Rd .u64 (u.setCell ⟨G, 0, none⟩ y) B A l := fun hl => by
  obtain ⟨b, off, rfl, hlt, hc⟩ := h hl
  refine ⟨b, off, rfl, hlt, fun j hj => ?_⟩
  have hne : b ≠ G := by
    rintro rfl
    have h1 := hc j hj
    have h2 : u.heap[b]? = some (.cells #[v] t (0, 0)) := hb
    simp only [World.cell?, h2] at h1
    rcases Nat.eq_zero_or_pos (off + j) with h0 | h0
    · rw [h0] at h1; simp at h1; exact hv _ _ h1
    · obtain ⟨o, ho⟩ : ∃ o, off + j = o := ⟨_, rfl⟩
      rw [ho] at h1 h0
      rw [if_neg (by simp), List.getElem?_toArray, List.getElem?_eq_none (by simp; omega)] at h1
      cases h1
  rw [← hc j hj]
  exact World.cell?_setCell_other _ _ _ _ (fun e => hne (by injection e with e1; exact e1.symm))
theorem Rd.still8 {W W' : World} {B : Nat} {A : Option Addr} {l : List Nat} {row : Option Nat} (h : Rd .u64 W B A l) (hg : W.grownBy W' row) (hr : ∀ r, row = some r → ∃ o : Obj, W.heap[r]? = some o ∧ o.isCells = false) : Rd .u64 W' B A l := fun hl => by
  obtain ⟨b, off, e, hb, hc⟩ := h hl
  exact ⟨b, off, e, hb, fun j hj => cell_kept (hc j hj) hg hr⟩
section
variable {u u' : World} {G t : Nat} {A : Option Addr} {n c V : Nat} {v : Value} {row : Option Nat}
theorem NatIn.box8 (h : NatIn u A n c V) (hb : Boxed u G t v) (hv : ∀ k x, v ≠ .int k x) (y : Value) : NatIn (u.setCell ⟨G, 0, none⟩ y) A n c V := by
  obtain ⟨l, h1, h2, h3, h4, h5, h6⟩ := h
  refine ⟨l, h1, h2, h3, h4, ?_, h6⟩
  have := h5.box8 hb hv y
  simpa [World.setCell] using this
theorem NatIs.box8 (h : NatIs u A n c V) (hb : Boxed u G t v) (hv : ∀ k x, v ≠ .int k x) (y : Value) : NatIs (u.setCell ⟨G, 0, none⟩ y) A n c V := by
  obtain ⟨h1, h2, h3, h4⟩ := h
  refine ⟨h1, h2, ?_, h4⟩
  have := h3.box8 hb hv y
  simpa [World.setCell] using this
theorem NatIn.still8 (h : NatIn u A n c V) (hg : u.grownBy u' row) (hr : ∀ r, row = some r → ∃ o : Obj, u.heap[r]? = some o ∧ o.isCells = false) : NatIn u' A n c V := by
  obtain ⟨l, h1, h2, h3, h4, h5, h6⟩ := h
  exact ⟨l, h1, h2, h3, h4, (h5.still8 hg hr).more hg.size, h6⟩
theorem NatIs.still8 (h : NatIs u A n c V) (hg : u.grownBy u' row) (hr : ∀ r, row = some r → ∃ o : Obj, u.heap[r]? = some o ∧ o.isCells = false) : NatIs u' A n c V :=
  ⟨h.1, h.2.1, (h.2.2.1.still8 hg hr).more hg.size, h.2.2.2⟩
end
/-- A number. -/
def OutR (V : Nat) (w : World) (e : Ending) (w' : World) : Prop := ∃ Y r f, e = .returned (.slice Y r f) ∧ NatIs w' Y r f V ∧ Below w.heap.size w w'
set_option maxHeartbeats 2000000 in
theorem exp2_any {w : World} {A A2 A3 : Option Addr} {n m k c c2 c3 x y M g : Nat} (h : NatIn w A n c x) (i : NatIn w A2 m c2 y) (j : NatIn w A3 k c3 M) (hb : Boxed w g 33 (.slice A3 k c3)) (hM : M ≠ 0) (hs : n ≤ 4000) (hs2 : m ≤ 4000) (hs3 : k ≤ 9000) :
    Calls Tryz.prog 99 #[.slice A n c, .slice A2 m c2, .pointer (some ⟨g, 0, none⟩)] w (OutR (x * y % M) w) := by
  have bd : Below w.heap.size w w.drew := (Drawn.more 1).below _
  obtain ⟨z, hz⟩ : ∃ z, x * y % M = z := ⟨_, rfl⟩
  have hmul := nbits_mul x y
  have hxb := h.bits
  have hyb := i.bits
  have HM := Lib.hid (bMul (h.step bd) (i.step bd) (by omega) (by omega))
  have HJ := Lib.hid (j.step bd)
  have hb1 : Boxed w.drew g 33 (.slice A3 k c3) := hb.kept (grown_of_below bd) (by simp)
  have HB := Lib.hid hb1
  have hc0 := hb1.cell
  rw [hz]
  have HZ := Lib.hid hz
  clear h i j hb hb1 hz
  go_enter Tryz.func99, Tryz.ntmps99
  go_wp2_with fail
  go_region_with (first
    | (go_at_call 100; (with_reducible refine (HM.out).mono ?_); rintro e w1 ⟨X, q, d, rfl, hX, _, b1⟩; have c1 := (HB.out.kept (grown_of_below b1) (by simp)).cell; have hq := natIs_len8 (K := 8001) hX (by omega); have HD := Lib.hid (bMod_is z hX.in_ (HJ.out.step b1) HZ.out hM (by omega) (by omega)); clear hX)
    | (go_at_call 77; (with_reducible refine (HD.out).mono ?_); rintro e w2 ⟨Y, r, f, rfl, h2, b2⟩))
  all_goals
    go_wp2_with fail
    go_ret
    exact ⟨Y, r, f, rfl, h2, bd.trans ((b1.mono bd.size).trans (b2.mono (Nat.le_trans bd.size b1.size)))⟩
/-- Between two rounds of raised. -/
structure RaiMid2 (w : World) (g : Nat) (Ab Am Ao : Option Addr) (nb cb nm cm no co b M out : Nat) (W : World) : Prop where
  bb : Boxed W w.heap.size 33 (.slice Ab nb cb)
  bt : Boxed W (w.heap.size + 1) 68 (.func (.func 99) #[] #[.pointer (some ⟨g, 0, none⟩)])
  bo : Boxed W (w.heap.size + 1 + 1) 33 (.slice Ao no co)
  bm : Boxed W g 33 (.slice Am nm cm)
  hb : NatIn W Ab nb cb b
  hm : NatIn W Am nm cm M
  ho : NatIs W Ao no co out
  below : Below w.heap.size w W
  size : w.heap.size + 4 ≤ W.heap.size
section
variable {w W W' : World} {g : Nat} {Ab Am Ao : Option Addr} {nb cb nm cm no co b M out : Nat} {row : Option Nat}
theorem RaiMid2.kept (h : RaiMid2 w g Ab Am Ao nb cb nm cm no co b M out W) (hg : W.grownBy W' row) (hr : ∀ k, row = some k → w.heap.size + 4 ≤ k ∧ ∃ o : Obj, W.heap[k]? = some o ∧ o.isCells = false) (hgw : g < w.heap.size) : RaiMid2 w g Ab Am Ao nb cb nm cm no co b M out W' where
  bb := h.bb.kept hg (by intro e; have := (hr _ e.symm).1; omega)
  bt := h.bt.kept hg (by intro e; have := (hr _ e.symm).1; omega)
  bo := h.bo.kept hg (by intro e; have := (hr _ e.symm).1; omega)
  bm := h.bm.kept hg (by intro e; have := (hr _ e.symm).1; omega)
  hb := h.hb.still8 hg (fun k e => (hr k e).2)
  hm := h.hm.still8 hg (fun k e => (hr k e).2)
  ho := h.ho.still8 hg (fun k e => (hr k e).2)
  below := h.below.grown hg h.below.size (fun k e => by have := (hr k e).1; omega)
  size := Nat.le_trans h.size hg.size
theorem RaiMid2.put (h : RaiMid2 w g Ab Am Ao nb cb nm cm no co b M out W) {X : Option Addr} {q d x : Nat} (hx : NatIs W X q d x) (hgw : g < w.heap.size) : RaiMid2 w g Ab Am X nb cb nm cm q d b M x (W.setCell ⟨w.heap.size + 1 + 1, 0, none⟩ (.slice X q d)) where
  bb := h.bb.kept (grownBy_setCell' W (w.heap.size + 1 + 1) (.slice X q d)) (by simp; omega)
  bt := h.bt.kept (grownBy_setCell' W (w.heap.size + 1 + 1) (.slice X q d)) (by simp)
  bo := h.bo.set _
  bm := h.bm.kept (grownBy_setCell' W (w.heap.size + 1 + 1) (.slice X q d)) (by simp; omega)
  hb := h.hb.box8 h.bo (by simp) _
  hm := h.hm.box8 h.bo (by simp) _
  ho := hx.box8 h.bo (by simp) _
  below := h.below.setCell (p := ⟨w.heap.size + 1 + 1, 0, none⟩) (by simp; omega) _
  size := by simpa [World.setCell] using h.size
end
set_option maxRecDepth 100000 in
set_option maxHeartbeats 2000000 in
theorem raised2_pf (b M g E : Nat) (Ab Am A1 A : Option Addr) (nb cb nm cm n1 c1 q c : Nat) (w : World) (hE : NatIn w A q c E) (hb : NatIn w Ab nb cb b) (hm : NatIn w Am nm cm M) (ho : NatIs w A1 n1 c1 1) (hg : Boxed w g 33 (.slice Am nm cm))
    (hM : 1 < M) (hMb : nbits M ≤ 4096) (hnb : nb ≤ 4000) (hnm : nm ≤ 9000) :
    Calls Tryz.prog 98 #[.slice Ab nb cb, .slice A1 n1 c1, .slice A q c, .func (.func 99) #[] #[.pointer (some ⟨g, 0, none⟩)]] w (OutR (b ^ E % M) w) := by
  obtain ⟨K, hK⟩ : ∃ K, nbits E = K := ⟨_, rfl⟩
  have HK := Lib.hid hK
  have HE := Lib.hid hE
  have hgw := hg.lt
  have hn1 := natIs_len8 (K := 1) ho (by decide)
  have HMb := Lib.hid hMb
  clear hK hE hMb
  refine (callsIn_wide (n := 9)).1 ?_
  refine callsIn_of_wp_marks Tryz.func98 rfl trivial ?_ rfl
  simp only [Tryz.ntmps98, List.size_toArray, List.length_cons, List.length_nil, Nat.reduceAdd, Nat.reduceSub, Array.replicate_succ, Array.replicate_zero, List.push_toArray, List.append_toArray, List.nil_append, List.cons_append]
  gi_wp2
  refine ⟨trivial, ?_⟩
  refine (high_in _ _ _ _ _).mono ?_
  rintro e w' ⟨rfl, rfl⟩
  have b1 := Boxed.new w 33 (.slice Ab nb cb)
  have b2 := Boxed.new (w.alloc (.cells #[.slice Ab nb cb] 33)) 68 (.func (.func 99) #[] #[.pointer (some ⟨g, 0, none⟩)])
  have b3 := Boxed.new ((w.alloc (.cells #[.slice Ab nb cb] 33)).alloc (.cells #[.func (.func 99) #[] #[.pointer (some ⟨g, 0, none⟩)]] 68)) 33 (.slice A1 n1 c1)
  have b4 := Boxed.new (((w.alloc (.cells #[.slice Ab nb cb] 33)).alloc (.cells #[.func (.func 99) #[] #[.pointer (some ⟨g, 0, none⟩)]] 68)).alloc (.cells #[.slice A1 n1 c1] 33)) 33 (.slice A q c)
  simp only [World.size_alloc] at b2 b3 b4
  obtain ⟨E0, hE0⟩ : ∃ E0, (((w.alloc (.cells #[.slice Ab nb cb] 33)).alloc (.cells #[.func (.func 99) #[] #[.pointer (some ⟨g, 0, none⟩)]] 68)).alloc (.cells #[.slice A1 n1 c1] 33)).alloc (.cells #[.slice A q c] 33) = E0 := ⟨_, rfl⟩
  have hEs : E0.heap.size = w.heap.size + 4 := by rw [← hE0]; simp
  have hB : Below w.heap.size w E0 := by rw [← hE0]; exact ((((Below.refl _ w).alloc (Nat.le_refl _) _).alloc (by simp) _).alloc (by simp; omega) _).alloc (by simp; omega) _
  have hM0 : RaiMid2 w g Ab Am A1 nb cb nm cm n1 c1 b M 1 E0 := by
    refine ⟨?_, ?_, ?_, (hB.block g hgw).trans hg, hb.step hB, hm.step hB, ho.step hB, hB, by omega⟩
    · rw [← hE0]; exact ((b1.alloc _).alloc _).alloc _
    · rw [← hE0]; exact (b2.alloc _).alloc _
    · rw [← hE0]; exact b3.alloc _
  have bE : Boxed E0 (w.heap.size + 1 + 1 + 1) 33 (.slice A q c) := by rw [← hE0]; exact b4
  have HEs := Lib.hid hEs
  clear b1 b2 b3 b4
  gi_wp2
  clear hE0
  refine wpIn_rangeFunc_ownG rfl (by omega) (gf := 129) (lb := #[.pointer (some ⟨w.heap.size + 1 + 1 + 1, 0, none⟩)]) rfl trivial (enters_of Tryz.func129 (by kernel_rfl) rfl)
    (high_stops 8 (by omega) (w.heap.size + 1 + 1 + 1) w.heap.size q c E K A HK E0 bE (by omega) (by obtain ⟨l, e1, e2, e3, e4, e5, e6⟩ := HE.out; exact ⟨l, e1, e2, e3, e4, e5.below hB, e6⟩))
    KpB.t (KpB.b (by omega) (by omega)) (Below.refl _ _) (fun _ => rfl)
    (fun pre W => ∃ Ao no co, no ≤ 64 ∧ RaiMid2 w g Ab Am Ao nb cb nm cm no co b M (b ^ hv pre % M) W)
    (fun _ _ _ => False)
    (fun s X Y row hs hg hr => by
      obtain ⟨Ao, no, co, h1, h2⟩ := hs
      exact ⟨Ao, no, co, h1, h2.kept hg (fun k e => ⟨by have := (hr k e).1; omega, (hr k e).2⟩) hgw⟩)
    (fun _ _ _ _ _ hs _ _ => hs)
    ⟨A1, n1, c1, by omega, by rw [hv_nil, Nat.pow_zero, Nat.mod_eq_of_lt hM]; exact hM0⟩
    (fun x => { tmps := #[.slice Ab nb cb, .slice A1 n1 c1, .slice A q c, .func (.func 99) #[] #[.pointer (some ⟨g, 0, none⟩)], .pointer (some ⟨w.heap.size, 0, none⟩), undef, undef, .pointer (some ⟨w.heap.size + 1, 0, none⟩), .slice none 0 0, .pointer (some ⟨w.heap.size + 1 + 1, 0, none⟩),
      .int .u64 (x.1 : Int), .slice A1 n1 c1, .slice A q c, .func (.func 129) #[] #[.pointer (some ⟨w.heap.size + 1 + 1 + 1, 0, none⟩)], .int .u64 (x.1 : Int), undef, undef, undef, undef, undef, undef, undef, undef, undef, undef, undef], defers := [] }) ?assign ?body ?done ?stop
  case assign =>
    intro l x W K hK
    gi_wp2
    exact hK
  case body =>
    rintro l pre x W ⟨Ao, no, co, hno, hM1⟩ hlen
    obtain ⟨v, hv0⟩ : ∃ v, hv pre = v := ⟨_, rfl⟩
    obtain ⟨o, ho'⟩ : ∃ o, b ^ v % M = o := ⟨_, rfl⟩
    obtain ⟨o2, ho2⟩ : ∃ o2, o * o % M = o2 := ⟨_, rfl⟩
    have h2 : b ^ (2 * v) % M = o2 := by rw [← ho2, ← ho', pow_twice]
    rw [hv0, ho'] at hM1
    have ho2l : o2 < M := by rw [← ho2]; exact Nat.mod_lt _ (by omega)
    have ho2n := nbits_mono (Nat.le_of_lt ho2l)
    have X1 := exp2_any hM1.ho.in_ hM1.ho.in_ hM1.hm hM1.bm (by omega) (by omega) (by omega) hnm
    rw [ho2] at X1
    have HX1 := Lib.hid X1
    have HM := Lib.hid hM1
    have HV := Lib.hid (hv_snoc pre x)
    rw [hv0] at HV
    have H2 := Lib.hid h2
    have hbc := hM1.bb.cell
    have htc := hM1.bt.cell
    have hoc := hM1.bo.cell
    have hof := hM1.bo.frozen
    have hWs := hM1.size
    have HO2 := Lib.hid ho2n
    clear X1 hM1 hv0 ho' ho2 h2 hlen hM0 bE ho2n ho hb hm hg
    gi_wp2
    refine ⟨trivial, ?_⟩
    refine (CallsIn.inRound l (callsIn_wide.2 HX1.out)).mono ?_
    rintro e W1 ⟨Y, r, f, rfl, hY, d1⟩
    have hr64 := natIs_len8 (K := 64) hY (by have := HO2.out; have := HMb.out; omega)
    have hM1 := HM.out.kept (grown_of_below d1) (fun k e => by cases e) hgw
    have K1 := KeepsOthers.of_grownBy (grown_of_below d1) (fun j o e => by cases e)
    have hM2 := hM1.put hY hgw
    have hoc1 := hM1.bo.cell
    have hof1 := hM1.bo.frozen
    have K2 := K1.trans (KeepsOthers.setCell _ ⟨w.heap.size + 1 + 1, 0, none⟩ (.slice Y r f))
    have P2 : KpB w.heap.size (w.heap.size + 1 + 1 + 1) W (W1.setCell ⟨w.heap.size + 1 + 1, 0, none⟩ (.slice Y r f)) :=
      ⟨(d1.mono (by omega)).setCell (p := ⟨w.heap.size + 1 + 1, 0, none⟩) (by simp; omega) _, ((grownBy_setCell' W1 (w.heap.size + 1 + 1) (.slice Y r f)).block _ (by have := hM1.size; omega) (by simp)).trans ((grown_of_below d1).block _ (by omega) (by simp))⟩
    have hbc2 := hM2.bb.cell
    have htc2 := hM2.bt.cell
    have hoc2 := hM2.bo.cell
    have hof2 := hM2.bo.frozen
    have hWs2 := hM2.size
    have HM2 := Lib.hid hM2
    have HK2 := Lib.hid K2
    have HP2 := Lib.hid P2
    clear hM1 hM2 K1 K2 P2 hY
    rcases Nat.lt_or_ge x.1 1 with hx | hx
    · have hx0 : x.1 = 0 := by omega
      have hb0 : ((x.1 : Int) == 1) = false := by simp; omega
      have HF := Lib.hid (show KeepsFrom E0.heap.size W (W1.setCell ⟨w.heap.size + 1 + 1, 0, none⟩ (.slice Y r f)) ∧ KpB w.heap.size (w.heap.size + 1 + 1 + 1) W (W1.setCell ⟨w.heap.size + 1 + 1, 0, none⟩ (.slice Y r f)) ∧ ∃ Ao no co, no ≤ 64 ∧ RaiMid2 w g Ab Am Ao nb cb nm cm no co b M (b ^ hv (pre ++ [x]) % M) (W1.setCell ⟨w.heap.size + 1 + 1, 0, none⟩ (.slice Y r f)) from
        ⟨HK2.out.from _, HP2.out, Y, r, f, hr64, by rw [HV.out, hx0, Nat.add_zero, H2.out]; exact HM2.out⟩)
      clear hx hx0
      gi_wp2
      exact HF.out
    · have hx1 : x.1 = 1 := by have := x.2; omega
      have hb0 : ((x.1 : Int) == 1) = true := by simp; omega
      obtain ⟨o3, ho3⟩ : ∃ o3, o2 * b % M = o3 := ⟨_, rfl⟩
      have h3 := Lib.hid (show b ^ (2 * v + 1) % M = o3 by rw [← pow_twice_one, H2.out, Nat.mul_mod_mod, ho3])
      have ho3l : o3 < M := by rw [← ho3]; exact Nat.mod_lt _ (by omega)
      have HO3 := Lib.hid (nbits_mono (Nat.le_of_lt ho3l))
      have X2 := exp2_any HM2.out.ho.in_ HM2.out.hb HM2.out.hm HM2.out.bm (by omega) (by omega) (by omega) hnm
      rw [ho3] at X2
      have HX2 := Lib.hid X2
      have HX1' := Lib.hid hx1
      clear X2 ho3 hx hx1 ho3l
      gi_wp2
      refine ⟨trivial, ?_⟩
      refine (CallsIn.inRound l (callsIn_wide.2 HX2.out)).mono ?_
      rintro e W3 ⟨Z, s, y, rfl, hZ, d3⟩
      have hs64 := natIs_len8 (K := 64) hZ (by have := HO3.out; have := HMb.out; omega)
      have hM3 := HM2.out.kept (grown_of_below d3) (fun k e => by cases e) hgw
      have K3 := HK2.out.trans (KeepsOthers.of_grownBy (grown_of_below d3) (fun j o e => by cases e))
      have hM4 := hM3.put hZ hgw
      have K4 := K3.trans (KeepsOthers.setCell _ ⟨w.heap.size + 1 + 1, 0, none⟩ (.slice Z s y))
      have P4 : KpB w.heap.size (w.heap.size + 1 + 1 + 1) (W1.setCell ⟨w.heap.size + 1 + 1, 0, none⟩ (.slice Y r f)) (W3.setCell ⟨w.heap.size + 1 + 1, 0, none⟩ (.slice Z s y)) :=
        ⟨(d3.mono (by omega)).setCell (p := ⟨w.heap.size + 1 + 1, 0, none⟩) (by simp; omega) _, ((grownBy_setCell' W3 (w.heap.size + 1 + 1) (.slice Z s y)).block _ (by have := hM3.size; omega) (by simp)).trans ((grown_of_below d3).block _ (by omega) (by simp))⟩
      have hoc3 := hM3.bo.cell
      have hof3 := hM3.bo.frozen
      have HF := Lib.hid (show KeepsFrom E0.heap.size W (W3.setCell ⟨w.heap.size + 1 + 1, 0, none⟩ (.slice Z s y)) ∧ KpB w.heap.size (w.heap.size + 1 + 1 + 1) W (W3.setCell ⟨w.heap.size + 1 + 1, 0, none⟩ (.slice Z s y)) ∧ ∃ Ao no co, no ≤ 64 ∧ RaiMid2 w g Ab Am Ao nb cb nm cm no co b M (b ^ hv (pre ++ [x]) % M) (W3.setCell ⟨w.heap.size + 1 + 1, 0, none⟩ (.slice Z s y)) from
        ⟨K4.from _, HP2.out.t P4, Z, s, y, hs64, by rw [HV.out, HX1'.out, h3.out]; exact hM4⟩)
      clear hM3 hM4 K3 K4 P4 hZ
      gi_wp2
      exact HF.out
  case done =>
    rintro D ys W hD hys ⟨Ao, no, co, hno, hM1⟩ hKd
    have HKd := Lib.hid hKd
    have hv1 : hv ys = E := by rw [hys, ← HK.out, hv_all]
    rw [hv1] at hM1
    have hoc := hM1.bo.cell
    have hD2 : w.heap.size + 4 ≤ D := by have := HEs.out; omega
    have HB := Lib.hid (show Below w.heap.size w (W.putObj D (.deferred none)) from hM1.below.trans (belowK_b (w := w) (Nat.le_refl _) W D _ _ (by omega) HKd.out rfl rfl))
    have HN := Lib.hid (hM1.ho.still8 (grownBy_putObj' W D (.deferred none)) (fun r e => by cases e; exact ⟨_, HKd.out, rfl⟩))
    clear hys hKd hv1 hM1 hM0 bE ho hb hm hg
    gi_wp2
    refine ⟨by simp, .inl ⟨_, _, rfl, run_takeDeferred HKd.out, ?_⟩⟩
    exact ⟨_, results_tmp (t := 8) rfl _ _ _, Ao, no, co, rfl, HN.out, HB.out⟩
  case stop =>
    rintro D c pre W _ _ h _
    exact h.elim
end Go.Proofs.YtjpfcdgaepdcdaaGreat
/- A range over a function whose elements lie in memory: the iterator tells of each element what holds of it in the world in which it is handed over (En). Conditions: as typed; no function of the program is named. -/
namespace Go.Proofs.YtjpfcdgaepdcdaaGreat
open Go.RowKit Go.Shelf
set_option maxRecDepth 20000
section
variable {F : Fence} {n : Nat} {P : Program}
/-- An iterator's promise, where of each element something holds as it is handed over. -/
def SeqTold {α : Type} (F : Fence) (n : Nat) (P : Program) (g : Nat) (lb : Array Value) (encs : α → Array Value) (En : α → World → Prop) (Kp : World → World → Prop) (S Sp : List α → Prop) (w : World) : Prop :=
  ∀ (l : Nat) (J Jx : List α → World → Prop) (W : World), Below w.heap.size w W → AbidesFrom W.heap.size J → AbidesFrom W.heap.size Jx →
    (∀ pre x W1, J pre W1 → En x W1 → YieldAt F (n - 1) P l (encs x) W1 fun e W' =>
      (e = .returned (.bool true) ∧ J (pre ++ [x]) W' ∧ Kp W1 W') ∨ (e = .returned (.bool false) ∧ Jx (pre ++ [x]) W')) →
    J [] W →
    CallsIn F n P g (#[.func (.yield l) #[] #[]] ++ lb) W fun e W' => (∃ v, e = .returned v) ∧ ((∃ xs, S xs ∧ J xs W') ∨ (∃ pre, Sp pre ∧ Jx pre W'))
/-- Where a loop's two blocks lie, and what its record says. -/
def RecAt (k : Nat) (L : Loop) (W : World) : Prop := W.heap[k + 1]? = some (.loop L) ∧ W.heap[k]? = some (.deferred (some []))
theorem RecAt.lt {k : Nat} {L : Loop} {W : World} (h : RecAt k L W) : k + 1 < W.heap.size := (Array.getElem?_eq_some_iff.1 h.1).1
theorem RecAt.from {k : Nat} {L : Loop} {W W' : World} (h : RecAt k L W) (hk : KeepsFrom k W W') : RecAt k L W' := ⟨hk.same _ _ (by omega) h.1 rfl, hk.same _ _ (Nat.le_refl _) h.2 rfl⟩
theorem RecAt.put {k : Nat} {L : Loop} {W : World} (h : RecAt k L W) (L' : Loop) : RecAt k L' (W.putObj (k + 1) (.loop L')) := ⟨World.putObj_heap_same h.lt, (World.putObj_heap_other (by omega)).trans h.2⟩
theorem RecAt.walked {k : Nat} {L : Loop} {W W' : World} {row : Option Nat} (h : RecAt k L W) (hg : W.grownBy W' row) (hr : ∀ r, row = some r → ∃ o : Obj, W.heap[r]? = some o ∧ o.isWalk = true) : RecAt k L W' := ⟨(grownBy_keeps hg hr h.1 rfl).trans h.1, (grownBy_keeps hg hr h.2 rfl).trans h.2⟩
theorem RecAt.made (w : World) (L : Loop) : RecAt w.heap.size L ((w.alloc (.deferred (some []))).alloc (.loop L)) := by
  constructor
  · have := World.alloc_heap_new (w.alloc (.deferred (some []))) (.loop L)
    rwa [World.size_alloc] at this
  · exact (Below.heap_alloc _ _ _ (by simp)).trans (World.alloc_heap_new w _)
/-- A walk's block, turned by the iterator, is one that the caller's own words abide. -/
theorem own_walk {β : Type} {B B' : Nat} {I : β → World → Prop} (hI : OwnFrom B I) (hB : B ≤ B') {s : β} {X Y : World} {row : Option Nat} (hs : I s X) (hg : X.grownBy Y row) (hr : ∀ r, row = some r → B' ≤ r ∧ ∃ o : Obj, X.heap[r]? = some o ∧ o.isWalk = true) : I s Y :=
  hI s X Y row hs hg fun r e => by
    obtain ⟨h1, o, h2, h3⟩ := hr r e
    exact ⟨by omega, o, h2, Obj.not_cells_of_walk h3⟩
set_option maxHeartbeats 1000000 in
/-- A range over such an iterator, at a function's own level. -/
theorem range_told {α : Type} {g : Operand} {ps : Array Tmp} {assign body : Code} {Q : Exit → Act → World → Prop} {a : Act} {w : World}
    (hro : F.round = none) (h1 : 1 ≤ n) {gf : Nat} {lb : Array Value} (hg : a.eval g = .func (.func gf) #[] lb) (hFg : F.fn gf) (eg : ∀ args w, (callFunc gf args).run P w = .ok (.enter gf args) w)
    {encs : α → Array Value} {En : α → World → Prop} {Kp : World → World → Prop} {S Sp : List α → Prop} {w0 : World} (hseq : SeqTold F (n - 1) P gf lb encs En Kp S Sp w0)
    (hKt : ∀ {A B C : World}, Kp A B → Kp B C → Kp A C) (hKb : ∀ (W : World) (l : Nat) (o o' : Obj), w.heap.size ≤ l → W.heap[l]? = some o → o.isCells = false → o.isWalk = false → Kp W (W.putObj l o')) (hb0 : Below w0.heap.size w0 w) (hps : ∀ x, (encs x).size = ps.size)
    (hEn : OwnFrom w.heap.size En) (I : List α → World → Prop) (Ix : Code → List α → World → Prop) (hI : OwnFrom w.heap.size I) (hIx : ∀ c, OwnFrom w.heap.size (Ix c)) (h0 : I [] w) (a₁ : α → Act)
    (hassign : ∀ (l : Nat) (x : α) (W : World) (K : Act → World → Prop), K (a₁ x) W →
      assign.wpIn (F.inRound l) (n - 1 - 1) P (Exit.then K (fun _ _ _ => False)) { tmps := (ps.zip (encs x)).foldl (fun t (p, v) => t.setIfInBounds p v) a.tmps, defers := [] } W)
    (hbody : ∀ (l : Nat) (pre : List α) (x : α) (W : World), I pre W → En x W → body.wpIn (F.inRound l) (n - 1 - 1) P (ownPostG w.heap.size Kp I Ix (pre ++ [x]) W) (a₁ x) W)
    (hdone : ∀ (D : Nat) (xs : List α) (W : World), w.heap.size ≤ D → S xs → I xs W → W.heap[D]? = some (.deferred (some [])) → Q .normal { a with defers := { target := .collected D, args := #[] } :: a.defers } W)
    (hstop : ∀ (D : Nat) (c : Code) (pre : List α) (W : World), w.heap.size ≤ D → Sp pre → Ix c pre W → W.heap[D]? = some (.deferred (some [])) → c.wpIn F n P Q { a with defers := { target := .collected D, args := #[] } :: a.defers } W) :
    (Code.rangeFunc g ps assign body).wpIn F n P Q a w := by
  refine wpIn_rangeFunc fun fn hfn => ?_
  rw [hro]
  have hR : ∃ R : LoopState → Option Code → Loop, R = fun st pe => { state := st, pending := pe, fn, tmps := a.tmps, params := ps, assign, body, defers := w.heap.size } := ⟨_, rfl⟩
  obtain ⟨R, hR⟩ := hR
  have hM := RecAt.made w (R .ready none)
  have hB1 : Below w0.heap.size w0 ((w.alloc (.deferred (some []))).alloc (.loop (R .ready none))) := hb0.trans ((((Below.refl _ w).alloc (Nat.le_refl _) _).alloc (by simp) _).mono hb0.size)
  have hs1 : w.heap.size ≤ ((w.alloc (.deferred (some []))).alloc (.loop (R .ready none))).heap.size := by simp; omega
  have hi1 : I [] ((w.alloc (.deferred (some []))).alloc (.loop (R .ready none))) := hI.alloc _ (hI.alloc _ h0)
  have hent : (Instr.enterLoop fn a.tmps ps assign body none).run P w = .ok (w.heap.size + 1, [{ target := .collected w.heap.size, args := #[] }]) ((w.alloc (.deferred (some []))).alloc (.loop (R .ready none))) := by rw [hR]; exact run_enterLoop_outer _ _ _ _ _
  generalize (w.alloc (.deferred (some []))).alloc (.loop (R .ready none)) = W1 at hM hB1 hs1 hi1 hent
  refine ⟨w.heap.size + 1, [{ target := .collected w.heap.size, args := #[] }], W1, { target := .fn (.func gf) lb, args := #[.func (.yield (w.heap.size + 1)) #[] #[]] }, W1, gf,
    #[.func (.yield (w.heap.size + 1)) #[] #[]] ++ lb, W1, hent, ?_, ?_, ?_, fun _ => h1, ?_⟩
  · simp only [resolve, hg]
    simp [go_sem]
  · intro f' hf'; simp [Target.leads] at hf'; subst hf'; exact hFg
  · simp [invoke, go_sem, eg]
  · refine (hseq (w.heap.size + 1) (fun pre W => I pre W ∧ RecAt w.heap.size (R .ready none) W) (fun pre W => ∃ c, Ix c pre W ∧ RecAt w.heap.size (R .done (some c)) W) W1 hB1
      (fun s X Y row hs hg' hr => ⟨own_walk hI hs1 hs.1 hg' hr, hs.2.walked hg' fun r e => (hr r e).2⟩)
      (fun s X Y row ⟨c, hc, hs⟩ hg' hr => ⟨c, own_walk (hIx c) hs1 hc hg' hr, hs.walked hg' fun r e => (hr r e).2⟩) ?_ ⟨hi1, hM⟩).mono ?_
    · -- a round
      rintro pre x W ⟨hi, hl⟩ hx
      have hy := run_yield (P := P) (args := encs x) hl.1 (by rw [hR]; exact hps x)
      rw [hR] at hy
      refine ⟨fn, _, assign, body, hy, roundIn_of_wpIn hfn (hassign _ x W _ ?_)⟩
      refine ⟨_, run_beginRound hl.1 (by rw [hR]), ?_⟩
      rw [show ({ R .ready none with state := .busy } : Loop) = R .busy none by rw [hR]]
      have hlb := hl.put (R .busy none)
      have ho := Nat.le_succ w.heap.size
      refine wpIn_mono (hbody _ pre x _ (hI.putObj _ hi ho hl.1 rfl) (hEn.putObj _ hx ho hl.1 rfl)) ?_
      have hk1 : Kp W (W.putObj (w.heap.size + 1) (.loop (R .busy none))) := hKb _ _ _ _ ho hl.1 rfl rfl
      have fin : ∀ (jump : Option Code) (W3 : World), RecAt w.heap.size (R .busy none) W3 → (Instr.endRound (w.heap.size + 1) jump).run P W3 = .ok (.bool jump.isNone) (W3.putObj (w.heap.size + 1) (.loop (R (if jump.isNone then .ready else .done) jump))) := fun jump W3 h3 => by
        have := run_endRound (P := P) jump h3.1
        rw [hR] at this ⊢
        exact this
      have stop : ∀ (c : Code) (W3 : World), KeepsFrom w.heap.size (W.putObj (w.heap.size + 1) (.loop (R .busy none))) W3 → Ix c (pre ++ [x]) W3 → ∃ v w', (Instr.endRound (w.heap.size + 1) (some c)).run P W3 = .ok v w' ∧
          ((Ending.returned v = .returned (.bool true) ∧ (I (pre ++ [x]) w' ∧ RecAt w.heap.size (R .ready none) w') ∧ Kp W w') ∨ (Ending.returned v = .returned (.bool false) ∧ ∃ c, Ix c (pre ++ [x]) w' ∧ RecAt w.heap.size (R .done (some c)) w')) := fun c W3 hk hc =>
        have h3 := hlb.from hk
        ⟨_, _, fin (some c) W3 h3, .inr ⟨rfl, c, (hIx c).putObj _ hc ho h3.1 rfl, h3.put _⟩⟩
      rintro e a3 W3 hp
      cases e with
      | normal =>
        obtain ⟨hk3, hkp3, hi3⟩ := hp
        have h3 := hlb.from hk3
        exact ⟨_, _, fin none W3 h3, .inl ⟨rfl, ⟨hI.putObj _ hi3 ho h3.1 rfl, h3.put _⟩, hKt (hKt hk1 hkp3) (hKb _ _ _ _ ho h3.1 rfl rfl)⟩⟩
      | ret => exact stop _ _ hp.1 hp.2
      | exit id => exact stop _ _ hp.1 hp.2
      | goto t => exact stop _ _ hp.1 hp.2
      | panic ch => exact hp.elim
      | outgrown => exact hp.elim
    · -- behind the iterator
      have ho := Nat.le_succ w.heap.size
      have hend : ∀ (st : LoopState) (pe : Option Code) (W : World), st ≠ .busy → RecAt w.heap.size (R st pe) W → (Instr.endLoop (w.heap.size + 1)).run P W = .ok pe (W.putObj (w.heap.size + 1) (.loop (R .exhausted pe))) := fun st pe W hst h => by
        have := run_endLoop (P := P) h.1 (by rw [hR]; exact hst)
        rw [hR] at this ⊢
        exact this
      rintro e W2 ⟨⟨v, rfl⟩, (⟨xs, hS, hi, hl⟩ | ⟨pre, hSp, c, hi, hl⟩)⟩
      · exact ⟨none, _, hend _ _ _ (by simp) hl, hdone _ xs _ (Nat.le_refl _) hS (hI.putObj _ hi ho hl.1 rfl) (hl.put _).2⟩
      · exact ⟨some c, _, hend _ _ _ (by simp) hl, hstop _ c pre _ (Nat.le_refl _) hSp ((hIx c).putObj _ hi ho hl.1 rfl) (hl.put _).2⟩
end
end Go.Proofs.YtjpfcdgaepdcdaaGreat

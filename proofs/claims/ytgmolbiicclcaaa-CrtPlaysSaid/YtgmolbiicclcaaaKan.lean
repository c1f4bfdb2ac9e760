/- Several texts in one; each begins with a remark that says what it shows and on which conditions. -/
import Derived.Test.YtgmolbiicclcaaaKah
import Derived.Test.YtgmolbiicclcaaaKab
import Derived.Deep.RegionWith
import Derived.Deep.DeepCutAuto
import Derived.RangeFuncBox
/- mul.wordByWord: a product, a row for each word. Conditions: as typed (lengths that fit a machine). -/
namespace Go.Proofs.Ytgmolbiicclcaaa
open Go.RowKit
set_option maxRecDepth 20000
/-- So many words of a number are answered, in new memory. -/
def OutWords (K V : Nat) (w : World) (e : Ending) (w' : World) : Prop := ∃ A, e = .returned (.slice A K K) ∧ w'.ownsRow w.heap.size 24 1 (.slice A K K) K (ints .u64 (words K V)) ∧ Below w.heap.size w w'
theorem row_zero (w : World) (m : Nat) (hm : m ≤ 1000000) : (w.alloc (.cells (Array.replicate m (Value.int .u64 0)) 24)).ownsRow w.heap.size 24 1 (.slice (some ⟨w.heap.size, 0, none⟩) m m) m (ints .u64 (words m 0)) := by
  have h := row_new w m hm 0
  rwa [wsAt_zero, ← words_none] at h
set_option maxHeartbeats 2000000 in
theorem byWord_any (A A2 : Option Addr) (c c2 n m : Nat) (a b : List Nat) (w : World) (hn : a.length = n) (hm : b.length = m) (hr : Rd .u64 w w.heap.size A a) (hw : Words a) (hl : n ≤ 100000) (hr2 : Rd .u64 w w.heap.size A2 b) (hw2 : Words b) (hl2 : m ≤ 100000) :
    Calls Try.prog 44 #[.slice A n c, .slice A2 m c2] w (OutWords (n + m) (natOf a * natOf b) w) := by
  obtain ⟨K, hK⟩ : ∃ K, n + m = K := ⟨_, rfl⟩
  have HK := Lib.hid hK
  have hsum : (n : Int) + (m : Int) = (K : Int) := by omega
  have hK2 : K ≤ 200000 := by omega
  have hmk := fun u => make_row K u (by omega)
  have Hn := Lib.hid hn
  have Hm := Lib.hid hm
  rw [hK]
  clear hK hn hm
  go_enter Try.func44, Try.ntmps44
  go_wp2_with fail
  go_step3
  go_wp2_with fail
  go_step3
  go_wp2_with fail
  have hown0 := row_zero w K (by omega)
  obtain ⟨E, hE⟩ : ∃ E, w.alloc (.cells (Array.replicate K (Value.int .u64 0)) 24) = E := ⟨_, rfl⟩
  have hbE : Below w.heap.size w E := by rw [← hE]; exact (Below.refl _ w).alloc (Nat.le_refl _) _
  rw [hE] at hown0 ⊢
  clear hmk hE
  go_loopw [23] (fun v wr => ∃ I : Nat, I ≤ n ∧ v = .int .i64 I ∧ wr.ownsRow w.heap.size 24 1 (.slice (some ⟨w.heap.size, 0, none⟩) K K) K (ints .u64 (words K (natOf (a.take I) * natOf b))) ∧ Below w.heap.size w wr) (fun v _ => n - (intOf v).toNat)
  case atStart => exact ⟨0, Nat.zero_le _, rfl, by simpa [natOf] using hown0, hbE⟩
  case round =>
    obtain ⟨I, hI, rfl, hown, hb⟩ := hrel
    clear hown0 hbE
    obtain ⟨wo, hwo⟩ : ∃ wo : World, wo = wr := ⟨_, rfl⟩
    subst hwo
    by_cases hlt : I < n
    · have hnl := Hn.out
      have hml := Hm.out
      have hKe := HK.out
      obtain ⟨b1, o1, rfl, hb1, hcell1⟩ := hr (by omega)
      have hx1 := (hb.cell (p := ⟨b1, o1 + I, none⟩) hb1).trans (hcell1 I (by omega))
      have hxl := nth_lt a hw I
      obtain ⟨x, hx⟩ : ∃ x, nth a I = x := ⟨_, rfl⟩
      rw [hx] at hx1 hxl
      have HX := Lib.hid hx
      clear hcell1 hnl hx
      by_cases hx0 : x = 0
      · have e := row_none a b I (by rw [HX.out, hx0])
        rw [e] at hown
        have HO := Lib.hid hown
        subst hx0
        clear hown e
        go_wp2_with fail
        go_roundw
        case rel => exact ⟨I + 1, by omega, by go_num, HO.out, hb⟩
        case measure => simp [intOf]; omega
      · have hne : ((x : Int) == 0) = false := by simp; omega
        have hS0 := Sums.start K (I + m) (natOf (a.take I) * natOf b) (by have := row_lt a b hw hw2 I; rwa [hml] at this) (by omega) I
        have HS0 := Lib.hid hS0
        clear hS0 hml hKe
        have hIm : I + m < K := by have := HK.out; omega
        go_wp2_with fail
        rw [Nat.add_sub_cancel_left]
        go_loopw [39, 9] (fun v ov wr => ∃ (k O : Nat) (L : List Nat), k ≤ m ∧ v = .int .i64 k ∧ ov = .int .u64 O ∧ O < 18446744073709551616 ∧ Sums K (I + m) (I + k) O (natOf (a.take I) * natOf b + 18446744073709551616 ^ I * nth a I * natOf (b.take k)) L ∧ wr.ownsRow w.heap.size 24 1 (.slice (some ⟨w.heap.size, 0, none⟩) K K) K (ints .u64 L) ∧ Below w.heap.size w wr) (fun v _ _ => m - (intOf v).toNat)
        case atStart => exact ⟨0, 0, _, Nat.zero_le _, rfl, rfl, by omega, by simpa [natOf] using HS0.out, hown, hb⟩
        case round =>
          obtain ⟨k, O, L, hk, rfl, rfl, hO, hS, hown2, hb2⟩ := hrel
          have hll := hS.len
          clear hown hx1
          by_cases hkm : k < m
          · have hml := Hm.out
            obtain ⟨b2, o2, rfl, hbb2, hcell2⟩ := hr2 (by omega)
            have hy1 := (hb2.cell (p := ⟨b2, o2 + k, none⟩) hbb2).trans (hcell2 k (by omega))
            have hyl := nth_lt b hw2 k
            have hrl := nth_lt L hS.words (I + k)
            have hco : wr.cell? ⟨w.heap.size, I + k, none⟩ = some (.int .u64 (nth L (I + k) : Int)) := by rw [hown2.cellAt _ (by omega), ints_get _ _ _ (by omega)]
            have hfo : wr.frozen? ⟨w.heap.size, I + k, none⟩ = false := hown2.frozenAt _
            obtain ⟨e1, e2, e3, e4⟩ := word_step x (nth b k) O (nth L (I + k)) hxl hyl hO hrl
            have hSS := hS.step (by omega) (by omega) (nth a I * nth b k) _ rfl
            rw [row_step, HX.out] at hSS
            have M := Try.bits_Mul64 x (nth b k) hxl hyl wr
            have A1 : ∀ w : World, (callFunc 38 #[.int .u64 ((x * nth b k % 18446744073709551616 : Nat) : Int), .int .u64 (O : Int), .int .u64 0]).run Try.prog w = .ok (.value (.tuple #[.int .u64 (((x * nth b k % 18446744073709551616 + O) % 18446744073709551616 : Nat) : Int), .int .u64 (((x * nth b k % 18446744073709551616 + O) / 18446744073709551616 : Nat) : Int)])) w :=
              fun w => add64_run (x * nth b k % 18446744073709551616) O 0 (by omega) w
            have A2 : ∀ w : World, (callFunc 38 #[.int .u64 (nth L (I + k) : Int), .int .u64 (((x * nth b k % 18446744073709551616 + O) % 18446744073709551616 : Nat) : Int), .int .u64 0]).run Try.prog w = .ok (.value (.tuple #[.int .u64 (((nth L (I + k) + (x * nth b k % 18446744073709551616 + O) % 18446744073709551616) % 18446744073709551616 : Nat) : Int), .int .u64 (((nth L (I + k) + (x * nth b k % 18446744073709551616 + O) % 18446744073709551616) / 18446744073709551616 : Nat) : Int)])) w :=
              fun w => add64_run (nth L (I + k)) ((x * nth b k % 18446744073709551616 + O) % 18446744073709551616) 0 (by omega) w
            rw [e1] at A2
            rw [← e3] at hSS e4
            generalize (nth L (I + k) + x * nth b k + O) % 18446744073709551616 = s0 at *
            generalize (nth L (I + k) + (x * nth b k % 18446744073709551616 + O) % 18446744073709551616) / 18446744073709551616 = c2' at *
            generalize (x * nth b k % 18446744073709551616 + O) % 18446744073709551616 = l1 at *
            generalize (x * nth b k % 18446744073709551616 + O) / 18446744073709551616 = c1' at *
            generalize x * nth b k % 18446744073709551616 = lo at *
            generalize x * nth b k / 18446744073709551616 = hh at *
            clear e1 e3
            have hst := hown2.stored (I + k) (.int .u64 (s0 : Int))
            rw [ints_set] at hst
            have HO := Lib.hid hst.1
            have HS := Lib.hid hSS
            have HM := Lib.hid M
            clear hst hSS hown2 hcell2 hS M hml hll
            go_wp2_with fail
            refine (HM.out).mono ?_
            rintro e w' ⟨rfl, rfl⟩
            go_wp2_with fail
            go_roundw
            case rel => exact ⟨k + 1, hh + c1' + c2', L.set (I + k) s0, by omega, by go_num, by go_num, e4, by rw [HX.out]; exact HS.out, HO.out, hb2.setCell (p := ⟨w.heap.size, I + k, none⟩) (by simp) _⟩
            case measure => simp [intOf]; omega
          · obtain rfl : k = m := by omega
            have hml := Hm.out
            have hlast := hS.last hIm hO
            have e := row_end a b I
            rw [hml] at e
            rw [e] at hlast
            have hco : wr.cell? ⟨w.heap.size, I + k, none⟩ = some (.int .u64 (nth L (I + k) : Int)) := by rw [hown2.cellAt _ (by omega), ints_get _ _ _ (by omega)]
            have hfo : wr.frozen? ⟨w.heap.size, I + k, none⟩ = false := hown2.frozenAt _
            have hst := hown2.stored (I + k) (.int .u64 (O : Int))
            rw [ints_set, hlast] at hst
            have HO := Lib.hid hst.1
            clear hst hown2 hS hml hll e hlast hkm
            go_wp2_with fail
            go_roundw
            case rel => exact ⟨I + 1, by omega, by go_num, HO.out, hb2.setCell (p := ⟨w.heap.size, I + k, none⟩) (by simp) _⟩
            case measure => simp [intOf]; omega
    · obtain rfl : I = n := by omega
      have hnl := Hn.out
      rw [← hnl, take_full] at hown
      have HO := Lib.hid hown
      clear hown hnl
      go_wp2_with fail
      rw [Exit.noGoto_ret]
      go_ret
      exact ⟨_, rfl, HO.out, hb⟩
end Go.Proofs.Ytgmolbiicclcaaa
/- mul.product's closure, which calls itself: products of many words of halves. Conditions: as typed (lengths that fit a machine; its own variable holds it). -/
namespace Go.Proofs.Ytgmolbiicclcaaa
open Go.RowKit
set_option maxRecDepth 20000
/-- The closure, as its own variable holds it. -/
def tfn (G : Nat) : Value := .func (.func 42) #[] #[.pointer (some ⟨G, 0, none⟩)]
/-- Words of a product are answered, in new memory. -/
def OutTimes (V N : Nat) (w : World) (e : Ending) (w' : World) : Prop := ∃ A K, e = .returned (.slice A K K) ∧ w'.ownsRow w.heap.size 24 1 (.slice A K K) K (ints .u64 (words K V)) ∧ V < 18446744073709551616 ^ K ∧ K ≤ N ∧ Below w.heap.size w w'
/-- The shorter one of two first. -/
def OutPair (V N : Nat) (w : World) (e : Ending) (w' : World) : Prop := ∃ X n c Y m d x y, e = .returned (.tuple #[.slice X n c, .slice Y m d]) ∧ w = w' ∧ List.length x = n ∧ List.length y = m ∧ n ≤ m ∧ n + m ≤ N ∧ m ≤ 10000 ∧ n ≤ c ∧ m ≤ d ∧ Words x ∧ Words y ∧
  Rd .u64 w w.heap.size X x ∧ Rd .u64 w w.heap.size Y y ∧ natOf x * natOf y = V
theorem pair_any (A A2 : Option Addr) (c c2 N : Nat) (a b : List Nat) (w : World) (hN : a.length + b.length ≤ N) (hl : a.length ≤ 10000) (hl2 : b.length ≤ 10000) (hc : a.length ≤ c) (hc2 : b.length ≤ c2) (hw : Words a) (hw2 : Words b) (hr : Rd .u64 w w.heap.size A a) (hr2 : Rd .u64 w w.heap.size A2 b) :
    Calls Try.prog 43 #[.slice A (tl a) c, .slice A2 (tl b) c2] w (OutPair (natOf a * natOf b) N w) := by
  have h1 := tl_le a hw
  have h2 := tl_le b hw2
  have e1 : (a.take (tl a)).length = tl a := by rw [List.length_take]; omega
  have e2 : (b.take (tl b)).length = tl b := by rw [List.length_take]; omega
  have n1 : natOf (a.take (tl a)) = natOf a := by rw [take_wd a hw, natOf_wd]
  have n2 : natOf (b.take (tl b)) = natOf b := by rw [take_wd b hw2, natOf_wd]
  by_cases h : tl b < tl a
  · refine (shorter_yes A A2 (tl a) (tl b) c c2 w h).mono ?_
    rintro e w' ⟨rfl, rfl⟩
    exact ⟨A2, tl b, c2, A, tl a, c, b.take (tl b), a.take (tl a), rfl, rfl, e2, e1, by omega, by omega, by omega, by omega, by omega, hw2.take _, hw.take _, hr2.take _, hr.take _, by rw [n1, n2, Nat.mul_comm]⟩
  · refine (shorter_no A A2 (tl a) (tl b) c c2 w h).mono ?_
    rintro e w' ⟨rfl, rfl⟩
    exact ⟨A, tl a, c, A2, tl b, c2, a.take (tl a), b.take (tl b), rfl, rfl, e1, e2, by omega, by omega, by omega, by omega, by omega, hw.take _, hw2.take _, hr.take _, hr2.take _, by rw [n1, n2]⟩
/-- What the closure is held to for less than N words. -/
def TimesTo (G t N : Nat) : Prop := ∀ (A A2 : Option Addr) (c c2 n m : Nat) (a b : List Nat) (w : World), a.length = n → b.length = m → n + m < N → n ≤ 10000 → m ≤ 10000 → n ≤ c → m ≤ c2 → Words a → Words b → Rd .u64 w w.heap.size A a → Rd .u64 w w.heap.size A2 b → Boxed w G t (tfn G) →
  Calls Try.prog 42 #[.slice A n c, .slice A2 m c2, .pointer (some ⟨G, 0, none⟩)] w (OutTimes (natOf a * natOf b) (n + m) w)
theorem Rdx.rd {k : IntKind} {w : World} {g : Nat} {A : Option Addr} {l : List Nat} (h : Rdx k w g A l) : Rd k w w.heap.size A l := fun hl => by
  obtain ⟨b, off, rfl, _, hc⟩ := h hl
  exact ⟨b, off, rfl, cell_lt (hc 0 hl), hc⟩
theorem Rdx.step {k : IntKind} {w w' : World} {g : Nat} {A : Option Addr} {l : List Nat} (h : Rdx k w g A l) (b : Below w.heap.size w w') : Rdx k w' g A l := fun hl => by
  obtain ⟨x, off, rfl, hx, hc⟩ := h hl
  exact ⟨x, off, rfl, hx, fun j hj => (b.cell (p := ⟨x, off + j, none⟩) (cell_lt (hc j hj))).trans (hc j hj)⟩
theorem box_step {w w' : World} {G t : Nat} {v : Value} (h : Boxed w G t v) (b : Below w.heap.size w w') : Boxed w' G t v := (b.block G h.lt).trans h
theorem boxc {u : World} {G t : Nat} (h : Boxed u G t (tfn G)) : u.cell? ⟨G, 0, none⟩ = some (.func (.func 42) #[] #[.pointer (some ⟨G, 0, none⟩)]) := h.cell
/-- addAt, as it is called here: a product's words are added to a row. -/
theorem addAt_w (g K p V k P V' : Nat) (R : Option Addr) (w : World) (hown : w.ownsRow g 24 1 (.slice (some ⟨g, 0, none⟩) K K) K (ints .u64 (words K V))) (hx : Rdx .u64 w g R (words k P)) (c : Nat)
    (hp : p + k ≤ K) (hK : K ≤ 20000) (hP : P < 18446744073709551616 ^ k) (e : V + 18446744073709551616 ^ p * P = V') (hV : V' < 18446744073709551616 ^ K) :
    Calls Try.prog 45 #[.slice (some ⟨g, 0, none⟩) K K, .slice R k c, .int .i64 (p : Int)] w fun e w' => e = .returned (.tuple #[]) ∧
      w'.ownsRow g 24 1 (.slice (some ⟨g, 0, none⟩) K K) K (ints .u64 (words K V')) ∧ w.grownBy w' (some g) := by
  have hn : natOf (words k P) = P := by rw [natOf_words, Nat.mod_eq_of_lt hP]
  have h := addAt_any g g K p V k c (words K V) (words k P) R w hown (Sums.start K K V (by omega) (Nat.le_refl _) p) hx (words_words _ _) (length_words _ _) hp (by omega) (by rw [hn, e]; exact hV)
  rwa [hn, e] at h
theorem below_add {w0 w w' : World} {g : Nat} (hb : Below w0.heap.size w0 w) (hg : w.grownBy w' (some g)) (h : w0.heap.size ≤ g) : Below w0.heap.size w0 w' :=
  hb.grown hg hb.size (fun q e => by injection e with e; omega)
/-- Words of the number P, at most N, apart from block g. -/
def Got (g : Nat) (u : World) (v : Value) (N P : Nat) : Prop := ∃ R k, v = .slice R k k ∧ Rdx .u64 u g R (words k P) ∧ P < 18446744073709551616 ^ k ∧ k ≤ N
theorem Got.step {g N P : Nat} {u u' : World} {v : Value} (h : Got g u v N P) (b : Below u.heap.size u u') : Got g u' v N P := by
  obtain ⟨R, k, rfl, h1, h2⟩ := h
  exact ⟨R, k, rfl, h1.step b, h2⟩
theorem Got.grown {g N P : Nat} {u u' : World} {v : Value} (h : Got g u v N P) (b : u.grownBy u' (some g)) : Got g u' v N P := by
  obtain ⟨R, k, rfl, h1, h2⟩ := h
  exact ⟨R, k, rfl, h1.grown b, h2⟩
def OutGot (g N P : Nat) (w : World) (e : Ending) (w' : World) : Prop := ∃ v, e = .returned v ∧ Got g w' v N P ∧ Below w.heap.size w w'
/-- The slice is the words of S, none too many. -/
def Su (u : World) (R : Option Addr) (q d S : Nat) : Prop := (wd S).length = q ∧ q ≤ d ∧ Rd .u64 u u.heap.size R (wd S)
theorem Su.step {S q d : Nat} {u u' : World} {R : Option Addr} (h : Su u R q d S) (b : Below u.heap.size u u') : Su u' R q d S := ⟨h.1, h.2.1, (h.2.2.below b).more b.size⟩
def OutSu (S : Nat) (w : World) (e : Ending) (w' : World) : Prop := ∃ R q d, e = .returned (.slice R q d) ∧ Su w' R q d S ∧ Below w.heap.size w w'
theorem add_su (A A2 : Option Addr) (c c2 n m : Nat) (a b : List Nat) (w : World) (hn : a.length = n) (hm : b.length = m) (hl : n ≤ 10000) (hl2 : m ≤ 10000) (hc : n ≤ c) (hc2 : m ≤ c2) (hw : Words a) (hw2 : Words b) (hr : Rd .u64 w w.heap.size A a) (hr2 : Rd .u64 w w.heap.size A2 b) :
    Calls Try.prog 26 #[.slice A n c, .slice A2 m c2] w (OutSu (natOf a + natOf b) w) := by
  subst hn
  subst hm
  refine (natAdd_any A A2 c c2 a b w hr hw (by omega) hc hr2 hw2 (by omega) hc2).mono ?_
  rintro e w' ⟨v, rfl, hown, hb⟩
  obtain ⟨R, d, rfl, hd, _⟩ := own_form hown
  exact ⟨R, _, d, rfl, ⟨length_wd _, hd, Rd.own hown⟩, hb⟩
theorem times_got {G t N : Nat} (ih : TimesTo G t N) (g : Nat) (A A2 : Option Addr) (c c2 n m : Nat) (a b : List Nat) (u : World) (hn : a.length = n) (hm : b.length = m) (hN : n + m < N) (hl : n ≤ 10000) (hl2 : m ≤ 10000) (hc : n ≤ c) (hc2 : m ≤ c2) (hw : Words a) (hw2 : Words b) (hr : Rd .u64 u u.heap.size A a) (hr2 : Rd .u64 u u.heap.size A2 b) (hb : Boxed u G t (tfn G)) (hg : g < u.heap.size) :
    Calls Try.prog 42 #[.slice A n c, .slice A2 m c2, .pointer (some ⟨G, 0, none⟩)] u (OutGot g (n + m) (natOf a * natOf b) u) := by
  refine (ih A A2 c c2 n m a b u hn hm hN hl hl2 hc hc2 hw hw2 hr hr2 hb).mono ?_
  rintro e w' ⟨R, k, rfl, ho, hk, hkn, hb'⟩
  exact ⟨_, rfl, ⟨R, k, rfl, Rdx.own ho hg, hk, hkn⟩, hb'⟩
theorem room_of (P p K : Nat) (h : 18446744073709551616 ^ p * P < 18446744073709551616 ^ K) (hp : p ≤ K) : p + (nbits P + 63) / 64 ≤ K := by
  obtain ⟨q, rfl⟩ : ∃ q, K = p + q := ⟨K - p, by omega⟩
  rw [Nat.pow_add] at h
  have h1 : P < 18446744073709551616 ^ q := Nat.lt_of_mul_lt_mul_left h
  rw [pow_64_2] at h1
  have := nbits_of_lt _ _ h1
  omega
theorem sum_len (a b : List Nat) (h : Nat) (ha : Words a) (hb : Words b) (h1 : a.length ≤ h) (h2 : b.length ≤ h) : (wd (natOf a + natOf b)).length ≤ h + 1 := by
  have l1 := Nat.lt_of_lt_of_le (natOf_lt a ha) (Nat.pow_le_pow_right (show 0 < 18446744073709551616 by omega) h1)
  have l2 := Nat.lt_of_lt_of_le (natOf_lt b hb) (Nat.pow_le_pow_right (show 0 < 18446744073709551616 by omega) h2)
  have h3 : natOf a + natOf b < 18446744073709551616 ^ (h + 1) := by rw [Nat.pow_succ]; omega
  rw [pow_64_2] at h3
  have := nbits_of_lt _ _ h3
  rw [length_wd]
  omega
set_option maxRecDepth 100000 in
set_option maxHeartbeats 4000000 in
theorem times_step (G t N : Nat) (ih : TimesTo G t N) (A A2 : Option Addr) (c c2 : Nat) (a b : List Nat) (w : World) (hN : a.length + b.length ≤ N) (hl : a.length ≤ 10000) (hl2 : b.length ≤ 10000) (hc : a.length ≤ c) (hc2 : b.length ≤ c2) (hw : Words a) (hw2 : Words b) (hr : Rd .u64 w w.heap.size A a) (hr2 : Rd .u64 w w.heap.size A2 b) (hbox : Boxed w G t (tfn G)) :
    Calls Try.prog 42 #[.slice A a.length c, .slice A2 b.length c2, .pointer (some ⟨G, 0, none⟩)] w (OutTimes (natOf a * natOf b) (a.length + b.length) w) := by
  have T1 := Lib.hid (mtrim_any A c a w w.heap.size hr hw (by omega) hc)
  have T2 := Lib.hid (mtrim_any A2 c2 b w w.heap.size hr2 hw2 (by omega) hc2)
  have PP := Lib.hid (pair_any A A2 c c2 (a.length + b.length) a b w (Nat.le_refl _) hl hl2 hc hc2 hw hw2 hr hr2)
  obtain ⟨V, hV⟩ : ∃ V, natOf a * natOf b = V := ⟨_, rfl⟩
  obtain ⟨M, hM⟩ : ∃ M, a.length + b.length = M := ⟨_, rfl⟩
  rw [hV, hM] at PP ⊢
  rw [hM] at hN
  clear hr hr2 hw hw2 hc hc2 hV hM
  go_enter Try.func42, Try.ntmps42
  go_wp2_with fail
  refine (T1.out).mono ?_
  rintro e w' ⟨rfl, rfl⟩
  go_wp2_with fail
  refine (T2.out).mono ?_
  rintro e w' ⟨rfl, rfl⟩
  go_wp2_with fail
  refine (PP.out).mono ?_
  rintro e w' ⟨X, n, c, Y, m, d, x, y, rfl, rfl, hxn, hym, hnm, hM, hm, hnc, hmd, hwx, hwy, hrx, hry, hV⟩
  clear T1 T2 PP
  by_cases hn : n < 80
  · have HW := Lib.hid (byWord_any X Y c d n m x y w hxn hym hrx hwx (by omega) hry hwy (by omega))
    have hlt := mul_lt x y hwx hwy
    rw [hV, hxn, hym] at hlt
    rw [hV] at HW
    have HL := Lib.hid hlt
    clear hlt
    go_wp2_with fail
    refine (HW.out).mono ?_
    rintro e w' ⟨A', rfl, hown, hb⟩
    go_wp2_with fail
    go_ret
    exact ⟨_, _, rfl, hown, HL.out, hM, hb⟩
  · obtain ⟨h, hh⟩ : ∃ h, (m + 1) / 2 = h := ⟨_, rfl⟩
    have hhi : ((m : Int) + 1) / 2 = (h : Int) := by omega
    obtain ⟨yb, yo, rfl, hyb, hyc⟩ := hry (by omega)
    have hdh : ¬ d = h := by omega
    obtain ⟨K, hK⟩ : ∃ K, n + m = K := ⟨_, rfl⟩
    have hsum : (n : Int) + (m : Int) = (K : Int) := by omega
    have hK2 : K ≤ 20000 := by omega
    have hmk := fun u => make_row K u (by omega)
    have hhm : h < m := by omega
    have hown0 := row_zero w.drew K (by omega)
    obtain ⟨E, hE⟩ : ∃ E, w.drew.alloc (.cells (Array.replicate K (Value.int .u64 0)) 24) = E := ⟨_, rfl⟩
    have hbE : Below w.heap.size w E := by rw [← hE]; exact ((Drawn.more 1).below _).trans ((Below.refl _ w.drew).alloc (Nat.le_refl _) _)
    have hEs : E.heap.size = w.heap.size + 1 := by rw [← hE]; exact World.size_alloc _ _
    have hb0 : Boxed E G t (tfn G) := box_step hbox hbE
    rw [hE, show w.drew.heap.size = w.heap.size from rfl] at hown0
    have hyt := hry.take h
    have hyd := hry.drop (i := h) (cap := d) (by omega)
    rw [if_neg hdh, show (some (⟨yb, yo, none⟩ : Addr)).map (·.add h) = some ⟨yb, yo + h, none⟩ by simp [Addr.add_lit]] at hyd
    have hlt1 : (y.take h).length = h := by rw [List.length_take]; omega
    have hld1 : (y.drop h).length = m - h := by rw [List.length_drop]; omega
    have hwt := hwy.take h
    have hwd : Words (y.drop h) := fun z hz => hwy z (List.mem_of_mem_drop hz)
    have hyp := natOf_parts y h
    have HH := Lib.hid hh
    have HEs := Lib.hid hEs
    have hVK : V < 18446744073709551616 ^ K := by have := mul_lt x y hwx hwy; rwa [hV, hxn, hym, hK] at this
    have HVK := Lib.hid hVK
    clear hyc hh hEs hVK
    go_wp2_with fail
    rw [hhi]
    go_region
    by_cases hnh : n ≤ h
    · have hbc := hb0.cell
      rw [tfn] at hbc
      have T1 := ih X (some ⟨yb, yo, none⟩) c d n h x (y.take h) E hxn hlt1 (by omega) (by omega) (by omega) hnc (by omega) hwx hwt ((hrx.below hbE).more hbE.size) ((hyt.below hbE).more hbE.size) hb0
      have HT1 := Lib.hid T1
      clear T1
      go_wp2_with fail
      refine (HT1.out).mono ?_
      rintro e w1 ⟨R1, k1, rfl, ho1, hk1, hkn1, hb1⟩
      clear hbc HT1
      have hb2 := box_step hb0 hb1
      have hbc := hb2.cell
      rw [tfn] at hbc
      have ow1 := own_step hown0 hb1
      have hP1 : natOf x * natOf (y.take h) + 18446744073709551616 ^ h * (natOf x * natOf (y.drop h)) = V := by rw [← hV, hyp, half_two]
      have HA1 := Lib.hid (addAt_w w.heap.size K 0 0 k1 (natOf x * natOf (y.take h)) (natOf x * natOf (y.take h)) R1 w1 ow1 (Rdx.own ho1 (by have := HEs.out; omega)) k1 (by omega) hK2 hk1 (by rw [Nat.pow_zero, Nat.one_mul, Nat.zero_add]) (by have := HVK.out; omega))
      have HP := Lib.hid hP1
      clear hP1
      go_wp2_with fail
      refine (HA1.out).mono ?_
      rintro e w2 ⟨rfl, ow2, hg2⟩
      have hlt2 : w.heap.size < w1.heap.size := by have := HEs.out; have := hb1.size; omega
      have hB1 : Below w.heap.size w w1 := hbE.trans (hb1.mono hbE.size)
      have hB2 := below_add hB1 hg2 (Nat.le_refl _)
      clear hbc hb2 HA1
      have hb3 := box_step hbox hB2
      have hbc := hb3.cell
      rw [tfn] at hbc
      have HT2 := Lib.hid (ih X (some ⟨yb, yo + h, none⟩) c (d - h) n (m - h) x (y.drop h) w2 hxn hld1 (by omega) (by omega) (by omega) hnc (by omega) hwx hwd ((hrx.below hB2).more hB2.size) ((hyd.below hB2).more hB2.size) hb3)
      go_wp2_with fail
      refine (HT2.out).mono ?_
      rintro e w3 ⟨R2, k2, rfl, ho2, hk2, hkn2, hb4⟩
      clear HT2 hbc
      have ow3 := own_step ow2 hb4
      have HA2 := Lib.hid (addAt_w w.heap.size K h _ k2 (natOf x * natOf (y.drop h)) V R2 w3 ow3 (Rdx.own ho2 (by have := hg2.size; omega)) k2 (by omega) hK2 hk2 HP.out HVK.out)
      go_wp2_with fail
      refine (HA2.out).mono ?_
      rintro e w4 ⟨rfl, ow4, hg4⟩
      have hB3 : Below w.heap.size w w3 := hB2.trans (hb4.mono hB2.size)
      have hB4 := below_add hB3 hg4 (Nat.le_refl _)
      clear HA2 ho1 ho2 ow1 ow2 ow3
      go_wp2_with fail
      go_ret
      exact ⟨_, _, rfl, ow4, HVK.out, by omega, hB4⟩
    · obtain ⟨xb, xo, rfl, hxb, hxc⟩ := hrx (by omega)
      clear hxc
      have hch : ¬ c = h := by omega
      have hxt := hrx.take h
      have hxd := hrx.drop (i := h) (cap := c) (by omega)
      rw [if_neg hch, show (some (⟨xb, xo, none⟩ : Addr)).map (·.add h) = some ⟨xb, xo + h, none⟩ by simp [Addr.add_lit]] at hxd
      have hlt2 : (x.take h).length = h := by rw [List.length_take]; omega
      have hld2 : (x.drop h).length = n - h := by rw [List.length_drop]; omega
      have hwt2 := hwx.take h
      have hwd2 : Words (x.drop h) := fun z hz => hwx z (List.mem_of_mem_drop hz)
      have hxp := natOf_parts x h
      have hh2 : m ≤ 2 * h := by have := HH.out; omega
      have T1 : ∀ u, Below E.heap.size E u → Calls Try.prog 42 #[.slice (some ⟨xb, xo, none⟩) h c, .slice (some ⟨yb, yo, none⟩) h d, .pointer (some ⟨G, 0, none⟩)] u (OutGot w.heap.size (h + h) (natOf (x.take h) * natOf (y.take h)) u) := fun u hu => by
        have hB := hbE.trans (hu.mono hbE.size)
        exact times_got ih w.heap.size _ _ c d h h _ _ u hlt2 hlt1 (by omega) (by omega) (by omega) (by omega) (by omega) hwt2 hwt ((hxt.below hB).more hB.size) ((hyt.below hB).more hB.size) (box_step hb0 hu) (by have := HEs.out; have := hu.size; omega)
      have T2 : ∀ u, Below E.heap.size E u → Calls Try.prog 42 #[.slice (some ⟨xb, xo + h, none⟩) (n - h) (c - h), .slice (some ⟨yb, yo + h, none⟩) (m - h) (d - h), .pointer (some ⟨G, 0, none⟩)] u (OutGot w.heap.size (n - h + (m - h)) (natOf (x.drop h) * natOf (y.drop h)) u) := fun u hu => by
        have hB := hbE.trans (hu.mono hbE.size)
        exact times_got ih w.heap.size _ _ (c - h) (d - h) (n - h) (m - h) _ _ u hld2 hld1 (by omega) (by omega) (by omega) (by omega) (by omega) hwd2 hwd ((hxd.below hB).more hB.size) ((hyd.below hB).more hB.size) (box_step hb0 hu) (by have := HEs.out; have := hu.size; omega)
      have T3 : ∀ u, Below E.heap.size E u → Calls Try.prog 26 #[.slice (some ⟨xb, xo, none⟩) h c, .slice (some ⟨xb, xo + h, none⟩) (n - h) (c - h)] u (OutSu (natOf (x.take h) + natOf (x.drop h)) u) := fun u hu => by
        have hB := hbE.trans (hu.mono hbE.size)
        exact add_su _ _ c (c - h) h (n - h) _ _ u hlt2 hld2 (by omega) (by omega) (by omega) (by omega) hwt2 hwd2 ((hxt.below hB).more hB.size) ((hxd.below hB).more hB.size)
      have T4 : ∀ u, Below E.heap.size E u → Calls Try.prog 26 #[.slice (some ⟨yb, yo, none⟩) h d, .slice (some ⟨yb, yo + h, none⟩) (m - h) (d - h)] u (OutSu (natOf (y.take h) + natOf (y.drop h)) u) := fun u hu => by
        have hB := hbE.trans (hu.mono hbE.size)
        exact add_su _ _ d (d - h) h (m - h) _ _ u hlt1 hld1 (by omega) (by omega) (by omega) (by omega) hwt hwd ((hyt.below hB).more hB.size) ((hyd.below hB).more hB.size)
      have s1 := sum_len (x.take h) (x.drop h) h hwt2 hwd2 (by omega) (by omega)
      have s2 := sum_len (y.take h) (y.drop h) h hwt hwd (by omega) (by omega)
      have T5 : ∀ u R q d R' q' d', Below E.heap.size E u → Su u R q d (natOf (x.take h) + natOf (x.drop h)) → Su u R' q' d' (natOf (y.take h) + natOf (y.drop h)) → Calls Try.prog 42 #[.slice R q d, .slice R' q' d', .pointer (some ⟨G, 0, none⟩)] u (OutGot w.heap.size 20004 ((natOf (x.take h) + natOf (x.drop h)) * (natOf (y.take h) + natOf (y.drop h))) u) := fun u R q d R' q' d' hu h1 h2 => by
        have h3 := h1.1
        have h4 := h2.1
        have T := times_got ih w.heap.size R R' d d' q q' (wd (natOf (x.take h) + natOf (x.drop h))) (wd (natOf (y.take h) + natOf (y.drop h))) u h1.1 h2.1 (by omega) (by omega) (by omega) h1.2.1 h2.2.1 (wd_words _) (wd_words _) h1.2.2 h2.2.2 (box_step hb0 hu) (by have := HEs.out; have := hu.size; omega)
        rw [natOf_wd, natOf_wd] at T
        refine T.mono ?_
        rintro e w' ⟨v, rfl, ⟨R, k, rfl, h5, h6, h7⟩, hb'⟩
        exact ⟨_, rfl, ⟨R, k, rfl, h5, h6, by omega⟩, hb'⟩
      have hP := half_three (natOf (x.take h)) (natOf (x.drop h)) (natOf (y.take h)) (natOf (y.drop h)) (18446744073709551616 ^ h)
      rw [← hxp, ← hyp, hV, ← Nat.pow_add] at hP
      have hS := sub_two (natOf (x.take h)) (natOf (x.drop h)) (natOf (y.take h)) (natOf (y.drop h))
      have HK := Lib.hid hK
      have HM := Lib.hid hM
      generalize natOf (x.take h) = xl at *
      generalize natOf (x.drop h) = xd at *
      generalize natOf (y.take h) = yl at *
      generalize natOf (y.drop h) = yd at *
      have H1 := Lib.hid T1
      have H2 := Lib.hid T2
      have H3 := Lib.hid T3
      have H4 := Lib.hid T4
      have H5 := Lib.hid T5
      have HP := Lib.hid hP
      have HS := Lib.hid hS
      clear T1 T2 T3 T4 T5 hP hS s1 s2 hxt hxd hyt hyd hwt hwd hwt2 hwd2 hlt1 hlt2 hld1 hld2 hxp hyp hV
      go_wp2_with fail
      go_region
      go_upto_region 12 with fail
      have hu : Below E.heap.size E E.drew.drew := ((Drawn.more 1).below _).trans ((Drawn.more 1).below _)
      have hbc := boxc (box_step hb0 hu)
      go_cut [12, 13] (fun s1 s2 wx => Got w.heap.size wx s1 (h + h) (xl * yl) ∧ Got w.heap.size wx s2 (n - h + (m - h)) (xd * yd) ∧ Below E.heap.size E wx)
      case first =>
        go_region_with (first
          | (go_at_call 42; (with_reducible refine (H1.out _ hu).mono ?_); rintro e wa ⟨va, rfl, Ga, ba⟩; (try replace Gb := Gb.step ba); replace hu := hu.trans (ba.mono hu.size); replace hbc := boxc (box_step hb0 hu))
          | (go_at_call 42; (with_reducible refine (H2.out _ hu).mono ?_); rintro e wb ⟨vb, rfl, Gb, bb⟩; (try replace Ga := Ga.step bb); replace hu := hu.trans (bb.mono hu.size); replace hbc := boxc (box_step hb0 hu)))
        all_goals (go_wp2_with fail; go_meet; exact ⟨Ga, Gb, hu⟩)
      case rest =>
        obtain ⟨Ga, Gb, hu⟩ := hcut
        clear hbc
        go_upto_region 13 with fail
        replace hu : Below E.heap.size E wc.drew := hu.trans ((Drawn.more 1).below _)
        replace Ga : Got w.heap.size wc.drew u12 _ _ := Ga.step ((Drawn.more 1).below _)
        replace Gb : Got w.heap.size wc.drew u13 _ _ := Gb.step ((Drawn.more 1).below _)
        have hbc := boxc (box_step hb0 hu)
        go_cut [14] (fun s wx => Got w.heap.size wx s 20004 ((xl + xd) * (yl + yd)) ∧ Got w.heap.size wx u12 (h + h) (xl * yl) ∧ Got w.heap.size wx u13 (n - h + (m - h)) (xd * yd) ∧ Below E.heap.size E wx)
        case first =>
          go_region_with (first
            | (go_at_call 26; (with_reducible refine (H3.out _ hu).mono ?_); rintro e wa ⟨Ra, qa, da, rfl, Na, ba⟩; (try replace Nb := Nb.step ba); replace Ga := Ga.step ba; replace Gb := Gb.step ba; replace hu := hu.trans (ba.mono hu.size); replace hbc := boxc (box_step hb0 hu))
            | (go_at_call 26; (with_reducible refine (H4.out _ hu).mono ?_); rintro e wb ⟨Rb, qb, db, rfl, Nb, bb⟩; (try replace Na := Na.step bb); replace Ga := Ga.step bb; replace Gb := Gb.step bb; replace hu := hu.trans (bb.mono hu.size); replace hbc := boxc (box_step hb0 hu))
            | (go_at_call 42; (with_reducible refine (H5.out _ _ _ _ _ _ _ hu Na Nb).mono ?_); rintro e wd ⟨vd, rfl, Gd, bd⟩; replace Ga := Ga.step bd; replace Gb := Gb.step bd; replace hu := hu.trans (bd.mono hu.size)))
          all_goals (go_wp2_with fail; go_meet; exact ⟨Gd, Ga, Gb, hu⟩)
        case rest =>
          obtain ⟨Gd, Ga, Gb, hu⟩ := hcut
          clear hbc
          obtain ⟨Rd', kd, rfl, d1, d2, d3⟩ := Gd
          obtain ⟨Ra, ka, rfl, a1, a2, a3⟩ := Ga
          obtain ⟨Rb, kb, rfl, b1, b2, b3⟩ := Gb
          obtain ⟨q, hq⟩ : ∃ q, h + h = q := ⟨_, rfl⟩
          have hq2 : (2 : Int) * (h : Int) = (q : Int) := by omega
          have hPP := HP.out
          have hSS := HS.out
          obtain ⟨P3, h3⟩ : ∃ P3, (xl + xd) * (yl + yd) = P3 := ⟨_, rfl⟩
          obtain ⟨P1, h1⟩ : ∃ P1, xl * yl = P1 := ⟨_, rfl⟩
          obtain ⟨P2, h2⟩ : ∃ P2, xd * yd = P2 := ⟨_, rfl⟩
          rw [h3] at d1 d2
          rw [h1] at a1 a2
          rw [h2] at b1 b2
          rw [h1, h2, h3] at hPP hSS
          rw [hq] at hPP a3
          obtain ⟨Mi, hMi⟩ : ∃ Mi, P3 - P1 - P2 = Mi := ⟨_, rfl⟩
          rw [hMi] at hPP
          have hVK := HVK.out
          have hnn : ∀ k P, P < 18446744073709551616 ^ k → natOf (words k P) = P := fun k P hP => by rw [natOf_words, Nat.mod_eq_of_lt hP]
          have hK3 : q ≤ K := by omega
          have HA1 := Lib.hid (addAt_w w.heap.size K 0 0 ka P1 P1 Ra wc (own_step hown0 hu) a1 ka (by omega) hK2 a2 (by rw [Nat.pow_zero, Nat.one_mul, Nat.zero_add]) (by omega))
          have hrm := room_of Mi h K (by omega) (by omega)
          have Hrm := Lib.hid hrm
          have HPP := Lib.hid hPP
          have HMi := Lib.hid hMi
          have HSS := Lib.hid hSS
          have Hq := Lib.hid hq
          clear hPP hrm hMi hSS h1 h2 h3 HP HS H1 H2 H3 H4 H5 hVK hq
          go_wp2_with fail
          refine (HA1.out).mono ?_
          rintro e w2 ⟨rfl, ow2, hg2⟩
          have hBc : Below w.heap.size w wc := hbE.trans (hu.mono hbE.size)
          have hB2 := below_add hBc hg2 (Nat.le_refl _)
          have hsz2 : w.heap.size < w2.heap.size := by have := HEs.out; have := hu.size; have := hg2.size; omega
          replace a1 := a1.grown hg2
          replace b1 := b1.grown hg2
          replace d1 := d1.grown hg2
          have WO := without_any Rd' Ra Rb kd ka kb kd ka kb (words kd P3) (words ka P1) (words kb P2) w2 (length_words _ _) (length_words _ _) (length_words _ _) d1.rd (words_words _ _) (by rw [length_words]; omega) (by rw [length_words]; omega) a1.rd (words_words _ _) (by rw [length_words]; omega) (by rw [length_words]; omega) b1.rd (words_words _ _) (by rw [length_words]; omega) (by rw [length_words]; omega) (by rw [hnn _ _ a2, hnn _ _ b2, hnn _ _ d2]; exact HSS.out)
          rw [hnn _ _ a2, hnn _ _ b2, hnn _ _ d2, HMi.out] at WO
          have HWO := Lib.hid WO
          clear WO HA1 hnn
          go_wp2_with fail
          refine (HWO.out).mono ?_
          rintro e w3 ⟨v4, rfl, ho4, hb3⟩
          obtain ⟨R4, d4, rfl, hd4, _⟩ := own_form ho4
          have hB3 : Below w.heap.size w w3 := hB2.trans (hb3.mono hB2.size)
          have HA2 := Lib.hid (addAt_w w.heap.size K h P1 ((nbits Mi + 63) / 64) Mi (P1 + 18446744073709551616 ^ h * Mi) R4 w3 (own_step ow2 hb3) (Rdx.own ho4 hsz2) d4 Hrm.out hK2 (by rw [pow_64_2]; exact Nat.lt_of_lt_of_le (nbits_lt Mi) (Nat.pow_le_pow_right (by omega) (by omega))) rfl (by have := HVK.out; have := HPP.out; omega))
          replace b1 := b1.step hb3
          clear HWO
          go_wp2_with fail
          refine (HA2.out).mono ?_
          rintro e w4 ⟨rfl, ow4, hg4⟩
          have hB4 := below_add hB3 hg4 (Nat.le_refl _)
          replace b1 := b1.grown hg4
          have HA3 := Lib.hid (addAt_w w.heap.size K q (P1 + 18446744073709551616 ^ h * Mi) kb P2 V Rb w4 ow4 b1 kb (by have := Hq.out; omega) hK2 b2 HPP.out.symm HVK.out)
          clear HA2
          go_wp2_with fail
          refine (HA3.out).mono ?_
          rintro e w5 ⟨rfl, ow5, hg5⟩
          have hB5 := below_add hB4 hg5 (Nat.le_refl _)
          clear HA3 ow4 ow2
          go_wp2_with fail
          go_ret
          exact ⟨_, _, rfl, ow5, HVK.out, by have := HK.out; have := HM.out; omega, hB5⟩
end Go.Proofs.Ytgmolbiicclcaaa
/- Plain facts on products to the base 2: sums of columns, and what is carried. No condition but those typed; no program is named. -/
namespace Go.Proofs.Ytgmolbiicclcaaa
theorem bv_set (l : List Nat) (j d : Nat) (h : j < l.length) : bv (l.set j (nth l j + d)) = bv l + 2 ^ j * d := by
  induction l generalizing j with
  | nil => simp at h
  | cons x r ih =>
    cases j with
    | zero => simp [bv, nth]; omega
    | succ j =>
      have := ih j (by simpa using h)
      simp only [List.set_cons_succ, bv]
      rw [show nth (x :: r) (j + 1) = nth r j from rfl, this, Nat.pow_succ, Nat.mul_add, Nat.mul_comm (2 ^ j) 2, Nat.mul_assoc]
      omega
theorem bv_replicate (k : Nat) : bv (List.replicate k 0) = 0 := by
  induction k with
  | zero => rfl
  | succ k ih => simp [List.replicate_succ, bv, ih]
/-- The columns when rows 0 to i - 1 are done, and k of row i. -/
structure Cols (M N i k : Nat) (l : List Nat) : Prop where
  len : l.length = nbits M + nbits N
  val : bv l = (M % 2 ^ i) * N + 2 ^ i * (bit M i * (N % 2 ^ k))
  low : ∀ j, nth l j ≤ i + 1
  high : ∀ j, i + k ≤ j → nth l j ≤ i
theorem nth_replicate (k j : Nat) : nth (List.replicate k 0) j = 0 := by
  unfold nth
  rw [List.getD_eq_getElem?_getD, List.getElem?_replicate]
  split <;> rfl
theorem Cols.start (M N : Nat) : Cols M N 0 0 (List.replicate (nbits M + nbits N) 0) where
  len := by simp
  val := by rw [bv_replicate]; simp [Nat.mod_one]
  low := fun j => by rw [nth_replicate]; omega
  high := fun j _ => by rw [nth_replicate]; omega
/-- A digit of b more, where a's is 1. -/
theorem Cols.step {M N i k : Nat} {l : List Nat} (h : Cols M N i k l) (h1 : bit M i = 1) (hik : i + k < l.length) : Cols M N i (k + 1) (l.set (i + k) (nth l (i + k) + bit N k)) where
  len := by rw [List.length_set]; exact h.len
  val := by
    rw [bv_set l _ _ hik, h.val, h1, low_bit, Nat.one_mul, Nat.one_mul, Nat.mul_add, Nat.pow_add, Nat.mul_assoc]
    omega
  low := fun j => by
    rw [nth_set l _ _ _ hik]
    have := h.high (i + k) (Nat.le_refl _)
    have hb := bit_lt N k
    have := h.low j
    split <;> omega
  high := fun j hj => by
    rw [nth_set l _ _ _ hik, if_neg (by omega)]
    exact h.high j (by omega)
/-- The row is done. -/
theorem Cols.row {M N i k : Nat} {l : List Nat} (h : Cols M N i k l) (hk : bit M i = 0 ∨ nbits N ≤ k) : Cols M N (i + 1) 0 l where
  len := h.len
  val := by
    rw [h.val, low_bit, Nat.pow_zero, Nat.mod_one, Nat.mul_zero, Nat.mul_zero, Nat.add_zero, Nat.add_mul]
    rcases hk with hk | hk
    · rw [hk]; simp
    · rw [Nat.mod_eq_of_lt (Nat.lt_of_lt_of_le (nbits_lt N) (Nat.pow_le_pow_right (by omega) hk)), Nat.mul_assoc]
  low := fun j => by have := h.low j; omega
  high := fun j _ => by have := h.low j; omega
theorem Cols.all {M N : Nat} {l : List Nat} (h : Cols M N (nbits M) 0 l) : bv l = M * N := by
  rw [h.val, Nat.mod_eq_of_lt (nbits_lt M), Nat.pow_zero, Nat.mod_one]
  simp
theorem prod_lt (M N : Nat) : M * N < 2 ^ (nbits M + nbits N) := by
  have h1 := nbits_lt M
  have h2 := nbits_lt N
  rw [Nat.pow_add]
  exact Nat.mul_lt_mul_of_lt_of_le h1 (Nat.le_of_lt h2) (Nat.pow_pos (by omega))
theorem nbits_mul (M N : Nat) : nbits (M * N) ≤ nbits M + nbits N := nbits_of_lt _ _ (prod_lt M N)
end Go.Proofs.Ytgmolbiicclcaaa
/- The contract of the document's Times: the product of two numbers to the base 2. Conditions: as typed (lengths that fit a machine). -/
namespace Go.Proofs.Ytgmolbiicclcaaa
open Go.RowKit
set_option maxRecDepth 20000
end Go.Proofs.Ytgmolbiicclcaaa

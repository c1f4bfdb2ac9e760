/- Several texts in one; each begins with a remark that says what it shows and on which conditions. -/
import Derived.Test.YtjpfcdgaepdcdaaGreatKau
/- mul.wordByWord: a product, a row for each word. Conditions: as typed (lengths that fit a machine). -/
namespace Go.Proofs.YtjpfcdgaepdcdaaGreat
open Go.RowKit
set_option maxRecDepth 20000
/-- So many words of a number are answered, in new memory. -/
def OutWords (K V : Nat) (w : World) (e : Ending) (w' : World) : Prop := ∃ A, e = .returned (.slice A K K) ∧ w'.ownsRow w.heap.size 27 1 (.slice A K K) K (ints .u64 (words K V)) ∧ Below w.heap.size w w'
theorem row_zero (w : World) (m : Nat) (hm : m ≤ 1000000) : (w.alloc (.cells (Array.replicate m (Value.int .u64 0)) 27)).ownsRow w.heap.size 27 1 (.slice (some ⟨w.heap.size, 0, none⟩) m m) m (ints .u64 (words m 0)) := by
  have h := row_new w m hm 0
  rwa [wsAt_zero, ← words_none] at h
set_option maxHeartbeats 2000000 in
theorem byWord_any (A A2 : Option Addr) (c c2 n m : Nat) (a b : List Nat) (w : World) (hn : a.length = n) (hm : b.length = m) (hr : Rd .u64 w w.heap.size A a) (hw : Words a) (hl : n ≤ 100000) (hr2 : Rd .u64 w w.heap.size A2 b) (hw2 : Words b) (hl2 : m ≤ 100000) :
    Calls Tryz.prog 132 #[.slice A n c, .slice A2 m c2] w (OutWords (n + m) (natOf a * natOf b) w) := by
  obtain ⟨K, hK⟩ : ∃ K, n + m = K := ⟨_, rfl⟩
  have HK := Lib.hid hK
  have hsum : (n : Int) + (m : Int) = (K : Int) := by omega
  have hK2 : K ≤ 200000 := by omega
  have hmk := fun u => make_row K u (by omega)
  have Hn := Lib.hid hn
  have Hm := Lib.hid hm
  rw [hK]
  clear hK hn hm
  go_enter Tryz.func132, Tryz.ntmps132
  go_wp2_with fail
  go_step3
  go_wp2_with fail
  go_step3
  go_wp2_with fail
  have hown0 := row_zero w K (by omega)
  obtain ⟨E, hE⟩ : ∃ E, w.alloc (.cells (Array.replicate K (Value.int .u64 0)) 27) = E := ⟨_, rfl⟩
  have hbE : Below w.heap.size w E := by rw [← hE]; exact (Below.refl _ w).alloc (Nat.le_refl _) _
  rw [hE] at hown0 ⊢
  clear hmk hE
  go_loopw [23] (fun v wr => ∃ I : Nat, I ≤ n ∧ v = .int .i64 I ∧ wr.ownsRow w.heap.size 27 1 (.slice (some ⟨w.heap.size, 0, none⟩) K K) K (ints .u64 (words K (natOf (a.take I) * natOf b))) ∧ Below w.heap.size w wr) (fun v _ => n - (intOf v).toNat)
  case atStart => exact ⟨0, Nat.zero_le _, rfl, by simpa [natOf] using hown0, hbE⟩
  case round =>
    obtain ⟨I, hI, rfl, hown, hb⟩ := hrel
    clear hown0 hbE
    obtain ⟨wo, hwo⟩ : ∃ wo : World, wo = wr := ⟨_, rfl⟩
    subst hwo
    by_cases hlt : I < n
    · have hnl := Hn.out
      have hml := Hm.out
      have hKe := HK.out
      obtain ⟨b1, o1, rfl, hb1, hcell1⟩ := hr (by omega)
      have hx1 := (hb.cell (p := ⟨b1, o1 + I, none⟩) hb1).trans (hcell1 I (by omega))
      have hxl := nth_lt a hw I
      obtain ⟨x, hx⟩ : ∃ x, nth a I = x := ⟨_, rfl⟩
      rw [hx] at hx1 hxl
      have HX := Lib.hid hx
      clear hcell1 hnl hx
      by_cases hx0 : x = 0
      · have e := row_none a b I (by rw [HX.out, hx0])
        rw [e] at hown
        have HO := Lib.hid hown
        subst hx0
        clear hown e
        go_wp2_with fail
        go_roundw
        case rel => exact ⟨I + 1, by omega, by go_num, HO.out, hb⟩
        case measure => simp [intOf]; omega
      · have hne : ((x : Int) == 0) = false := by simp; omega
        have hS0 := Sums.start K (I + m) (natOf (a.take I) * natOf b) (by have := row_lt a b hw hw2 I; rwa [hml] at this) (by omega) I
        have HS0 := Lib.hid hS0
        clear hS0 hml hKe
        have hIm : I + m < K := by have := HK.out; omega
        go_wp2_with fail
        rw [Nat.add_sub_cancel_left]
        go_loopw [39, 9] (fun v ov wr => ∃ (k O : Nat) (L : List Nat), k ≤ m ∧ v = .int .i64 k ∧ ov = .int .u64 O ∧ O < 18446744073709551616 ∧ Sums K (I + m) (I + k) O (natOf (a.take I) * natOf b + 18446744073709551616 ^ I * nth a I * natOf (b.take k)) L ∧ wr.ownsRow w.heap.size 27 1 (.slice (some ⟨w.heap.size, 0, none⟩) K K) K (ints .u64 L) ∧ Below w.heap.size w wr) (fun v _ _ => m - (intOf v).toNat)
        case atStart => exact ⟨0, 0, _, Nat.zero_le _, rfl, rfl, by omega, by simpa [natOf] using HS0.out, hown, hb⟩
        case round =>
          obtain ⟨k, O, L, hk, rfl, rfl, hO, hS, hown2, hb2⟩ := hrel
          have hll := hS.len
          clear hown hx1
          by_cases hkm : k < m
          · have hml := Hm.out
            obtain ⟨b2, o2, rfl, hbb2, hcell2⟩ := hr2 (by omega)
            have hy1 := (hb2.cell (p := ⟨b2, o2 + k, none⟩) hbb2).trans (hcell2 k (by omega))
            have hyl := nth_lt b hw2 k
            have hrl := nth_lt L hS.words (I + k)
            have hco : wr.cell? ⟨w.heap.size, I + k, none⟩ = some (.int .u64 (nth L (I + k) : Int)) := by rw [hown2.cellAt _ (by omega), ints_get _ _ _ (by omega)]
            have hfo : wr.frozen? ⟨w.heap.size, I + k, none⟩ = false := hown2.frozenAt _
            obtain ⟨e1, e2, e3, e4⟩ := word_step x (nth b k) O (nth L (I + k)) hxl hyl hO hrl
            have hSS := hS.step (by omega) (by omega) (nth a I * nth b k) _ rfl
            rw [row_step, HX.out] at hSS
            have M := Tryz.bits_Mul64 x (nth b k) hxl hyl wr
            have A1 : ∀ w : World, (callFunc 66 #[.int .u64 ((x * nth b k % 18446744073709551616 : Nat) : Int), .int .u64 (O : Int), .int .u64 0]).run Tryz.prog w = .ok (.value (.tuple #[.int .u64 (((x * nth b k % 18446744073709551616 + O) % 18446744073709551616 : Nat) : Int), .int .u64 (((x * nth b k % 18446744073709551616 + O) / 18446744073709551616 : Nat) : Int)])) w :=
              fun w => add64_run (x * nth b k % 18446744073709551616) O 0 (by omega) w
            have A2 : ∀ w : World, (callFunc 66 #[.int .u64 (nth L (I + k) : Int), .int .u64 (((x * nth b k % 18446744073709551616 + O) % 18446744073709551616 : Nat) : Int), .int .u64 0]).run Tryz.prog w = .ok (.value (.tuple #[.int .u64 (((nth L (I + k) + (x * nth b k % 18446744073709551616 + O) % 18446744073709551616) % 18446744073709551616 : Nat) : Int), .int .u64 (((nth L (I + k) + (x * nth b k % 18446744073709551616 + O) % 18446744073709551616) / 18446744073709551616 : Nat) : Int)])) w :=
              fun w => add64_run (nth L (I + k)) ((x * nth b k % 18446744073709551616 + O) % 18446744073709551616) 0 (by omega) w
            rw [e1] at A2
            rw [← e3] at hSS e4
            generalize (nth L (I + k) + x * nth b k + O) % 18446744073709551616 = s0 at *
            generalize (nth L (I + k) + (x * nth b k % 18446744073709551616 + O) % 18446744073709551616) / 18446744073709551616 = c2' at *
            generalize (x * nth b k % 18446744073709551616 + O) % 18446744073709551616 = l1 at *
            generalize (x * nth b k % 18446744073709551616 + O) / 18446744073709551616 = c1' at *
            generalize x * nth b k % 18446744073709551616 = lo at *
            generalize x * nth b k / 18446744073709551616 = hh at *
            clear e1 e3
            have hst := hown2.stored (I + k) (.int .u64 (s0 : Int))
            rw [ints_set] at hst
            have HO := Lib.hid hst.1
            have HS := Lib.hid hSS
            have HM := Lib.hid M
            clear hst hSS hown2 hcell2 hS M hml hll
            go_wp2_with fail
            refine (HM.out).mono ?_
            rintro e w' ⟨rfl, rfl⟩
            go_wp2_with fail
            go_roundw
            case rel => exact ⟨k + 1, hh + c1' + c2', L.set (I + k) s0, by omega, by go_num, by go_num, e4, by rw [HX.out]; exact HS.out, HO.out, hb2.setCell (p := ⟨w.heap.size, I + k, none⟩) (by simp) _⟩
            case measure => simp [intOf]; omega
          · obtain rfl : k = m := by omega
            have hml := Hm.out
            have hlast := hS.last hIm hO
            have e := row_end a b I
            rw [hml] at e
            rw [e] at hlast
            have hco : wr.cell? ⟨w.heap.size, I + k, none⟩ = some (.int .u64 (nth L (I + k) : Int)) := by rw [hown2.cellAt _ (by omega), ints_get _ _ _ (by omega)]
            have hfo : wr.frozen? ⟨w.heap.size, I + k, none⟩ = false := hown2.frozenAt _
            have hst := hown2.stored (I + k) (.int .u64 (O : Int))
            rw [ints_set, hlast] at hst
            have HO := Lib.hid hst.1
            clear hst hown2 hS hml hll e hlast hkm
            go_wp2_with fail
            go_roundw
            case rel => exact ⟨I + 1, by omega, by go_num, HO.out, hb2.setCell (p := ⟨w.heap.size, I + k, none⟩) (by simp) _⟩
            case measure => simp [intOf]; omega
    · obtain rfl : I = n := by omega
      have hnl := Hn.out
      rw [← hnl, take_full] at hown
      have HO := Lib.hid hown
      clear hown hnl
      go_wp2_with fail
      rw [Exit.noGoto_ret]
      go_ret
      exact ⟨_, rfl, HO.out, hb⟩
end Go.Proofs.YtjpfcdgaepdcdaaGreat

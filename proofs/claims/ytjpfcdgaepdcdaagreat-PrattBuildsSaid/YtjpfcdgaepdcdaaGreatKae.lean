/- Several texts in one; each begins with a remark that says what it shows and on which conditions. -/
import Derived.Test.YtjpfcdgaepdcdaaGreatKad
import Derived.IntWalk
import Derived.Deep.RegionWith
import Derived.Deep.DeepCutAuto
/- nat.shifted, nat.shift: numbers that are shifted, in new memory. Conditions: as typed (lengths that fit a machine). -/
namespace Go.Proofs.YtjpfcdgaepdcdaaGreat
open Go.RowKit
set_option maxRecDepth 20000
/-- What Go's quotients come to at a shift. -/
theorem shift_nums (k : Int) : ∃ (t q : Int) (r : Nat), r < 64 ∧ k = 64 * q + r ∧ k.tmod 64 = t ∧ -63 ≤ t ∧ t ≤ 63 ∧ (t + 64) % 64 = (r : Int) ∧ (k - r).tdiv 64 = q := by
  have h1 := Int.tmod_add_mul_tdiv k 64
  have h0 : -63 ≤ k.tmod 64 ∧ k.tmod 64 ≤ 63 := by
    rcases Int.le_total 0 k with h | h
    · rw [Int.tmod_eq_emod_of_nonneg h]; omega
    · have e : k.tmod 64 = -((-k).tmod 64) := by rw [Int.neg_tmod]; omega
      rw [e, Int.tmod_eq_emod_of_nonneg (by omega)]; omega
  refine ⟨k.tmod 64, k / 64, (k % 64).toNat, by omega, by omega, rfl, h0.1, h0.2, ?_, ?_⟩
  · omega
  · rw [show k - ((k % 64).toNat : Int) = 64 * (k / 64) by omega, Int.mul_tdiv_cancel_left _ (by omega)]
set_option maxHeartbeats 400000 in
theorem shifted_any (A : Option Addr) (na c : Nat) (k q : Int) (r : Nat) (w : World) (hk0 : -1000000 ≤ k) (hk1 : k ≤ 1000000) (t : Int) (_hr : r < 64) (h1 : k.tmod 64 = t) (h2 : -63 ≤ t) (h3 : t ≤ 63) (h4 : (t + 64) % 64 = (r : Int)) (h5 : (k - r).tdiv 64 = q) (hq0 : -20000 ≤ q) (hq1 : q ≤ 20000) :
    Calls Tryz.prog 127 #[.slice A na c, .int .i64 k] w fun e w' =>
      e = .returned (.func (.func 135) #[] #[.pointer (some ⟨w.heap.size + 2, 0, none⟩), .pointer (some ⟨w.heap.size, 0, none⟩), .pointer (some ⟨w.heap.size + 1, 0, none⟩)]) ∧
      ((w.alloc (.cells #[.slice A na c] 33)).alloc (.cells #[.int .i64 r] 3)).alloc (.cells #[.int .i64 q] 3) = w' := by
  go_enter Tryz.func127, Tryz.ntmps127
  go_wp2
  go_ret
  exact ⟨rfl, rfl⟩
theorem wrap_u64 (x : Int) : IntKind.u64.wrap x = x % 18446744073709551616 := by simp [IntKind.wrap, IntKind.signed, IntKind.bits]
/-- The word at a place after a shift. -/
def shS (a : List Nat) (j : Int) (r : Nat) : Nat := (wordS a j * 2 ^ r % 18446744073709551616) ||| (wordS a (j - 1) / 2 ^ (64 - r))
theorem shS_int (a : List Nat) (ha : Words a) (j : Int) (r : Nat) (_ : r < 64) : bits .or .u64 ((wordS a j : Int) * 2 ^ r % 18446744073709551616) ((wordS a (j - 1) : Int) / 2 ^ (64 - r)) = ((shS a j r : Nat) : Int) := by
  have h1 := wordS_lt a ha (j - 1)
  have e1 : (wordS a j : Int) * 2 ^ r % 18446744073709551616 = ((wordS a j * 2 ^ r % 18446744073709551616 : Nat) : Int) := by simp
  have e2 : (wordS a (j - 1) : Int) / 2 ^ (64 - r) = ((wordS a (j - 1) / 2 ^ (64 - r) : Nat) : Int) := by simp
  rw [e1, e2]
  exact u64_or_nat _ _ (Nat.mod_lt _ (by omega)) (Nat.lt_of_le_of_lt (Nat.div_le_self _ _) h1)
set_option maxHeartbeats 1000000 in
theorem shifted1_any (A : Option Addr) (a : List Nat) (ha : Words a) (c pw pa pr i r : Nat) (q j : Int) (w : World) (B : Nat) (hrd : Rd .u64 w B A a) (hl : a.length ≤ 1000000) (hr : r < 64) (hi : i ≤ 1000000) (hq0 : -20000 ≤ q) (hq1 : q ≤ 20000) (hj : (i : Int) - q = j)
    (cw : w.cell? ⟨pw, 0, none⟩ = some (.int .i64 q)) (ca : w.cell? ⟨pa, 0, none⟩ = some (.slice A a.length c)) (cr : w.cell? ⟨pr, 0, none⟩ = some (.int .i64 (r : Int))) :
    Calls Tryz.prog 135 #[.int .i64 (i : Int), .pointer (some ⟨pw, 0, none⟩), .pointer (some ⟨pa, 0, none⟩), .pointer (some ⟨pr, 0, none⟩)] w fun e w' => e = .returned (.int .u64 (shS a j r : Nat)) ∧ Drawn w w' := by
  have hj0 : -2000000 ≤ j := by omega
  have hj1 : j ≤ 2000000 := by omega
  have s1 : IntKind.i64.wrap (j - 1) = j - 1 := IntWalk.i64_in _ (by omega)
  have s2 : IntKind.i64.wrap (64 - (r : Int)) = 64 - (r : Int) := IntWalk.i64_in _ (by omega)
  have s3 : 0 ≤ 64 - (r : Int) := by omega
  have hv := Lib.hid (shS_int a ha j r hr)
  go_enter Tryz.func135, Tryz.ntmps135
  go_wp2
  go_quiet ((go_at_call 67; exact Calls.quiet_of_same (Calls.mono (word_any _ _ _ _ _ B hrd hl) fun _ _ ⟨he, hw⟩ => ⟨he, hw.symm⟩)))
  go_wp2
  go_ret
  exact ⟨ret_num (by rw [← hv.out, wrap_u64]), Drawn.more _⟩
/-- The lowest i words, and noughts behind them. -/
def wsAt (N K i : Nat) : List Nat := words i N ++ List.replicate (K - i) 0
theorem length_wsAt (N K i : Nat) (h : i ≤ K) : (wsAt N K i).length = K := by simp [wsAt, length_words]; omega
theorem wsAt_zero (N K : Nat) : wsAt N K 0 = List.replicate K 0 := by simp [wsAt, words]
theorem wsAt_end (N K : Nat) : wsAt N K K = words K N := by simp [wsAt]
theorem wsAt_set (N K i : Nat) (h : i < K) : (wsAt N K i).set i (N / 18446744073709551616 ^ i % 18446744073709551616) = wsAt N K (i + 1) := by
  unfold wsAt
  rw [List.set_append_right _ _ (by rw [length_words]; exact Nat.le_refl _), length_words, Nat.sub_self, words_snoc, List.append_assoc]
  congr 1
  obtain ⟨d, hd⟩ : ∃ d, K - i = d + 1 := ⟨K - i - 1, by omega⟩
  rw [hd, show K - (i + 1) = d by omega, List.replicate_succ]
  rfl
theorem make_row (m : Nat) (u : World) (hm : m ≤ 1000000) : (Instr.makeSlice 33 (.int .i64 (m : Int)) (.int .i64 (m : Int))).run Tryz.prog u =
      .ok (.slice (some ⟨u.heap.size, 0, none⟩) m m) (u.alloc (.cells (List.replicate m (Value.int .u64 0)).toArray 27)) := by
  obtain ⟨i0, hi, hz0, hz1, hz2⟩ := info_parts num_info_u64
  have h := run_make (P := Tryz.prog) u 33 27 i0 (.int .u64 0) Tryz.underlying33 hi hz0 .i64 .i64 (m : Int) (m : Int) (by omega) (by omega) (by rw [hz2]; omega) (by omega)
  rw [Int.toNat_natCast, hz1, Nat.mul_one] at h
  rw [h, ← toList_madeCells_one]
  rfl
theorem row_new (w : World) (m : Nat) (hm : m ≤ 1000000) (N : Nat) : (w.alloc (.cells (Array.replicate m (Value.int .u64 0)) 27)).ownsRow w.heap.size 27 1 (.slice (some ⟨w.heap.size, 0, none⟩) m m) m (ints .u64 (wsAt N m 0)) := by
  rw [wsAt_zero]
  exact own_of_heap (cur := List.replicate m (Value.int .u64 0)) (by have h := heap_alloc_new w (.cells (Array.replicate m (Value.int .u64 0)) 27); simpa using h) (Nat.le_refl _) (Nat.le_refl _) (by unfold maxLen; omega) (by simp) (by simp [ints])
set_option maxHeartbeats 1000000 in
theorem shift_core (A : Option Addr) (a : List Nat) (ha : Words a) (c : Nat) (k q t : Int) (r nb N K : Nat) (w : World) (hrd : Rd .u64 w w.heap.size A a) (hl : a.length ≤ 100000) (hc : a.length ≤ c) (hk0 : -100000 ≤ k) (hk1 : k ≤ 100000)
    (hr : r < 64) (h1 : k.tmod 64 = t) (h2 : -63 ≤ t) (h3 : t ≤ 63) (h4 : (t + 64) % 64 = (r : Int)) (h5 : (k - r).tdiv 64 = q) (hq0 : -20000 ≤ q) (hq1 : q ≤ 20000)
    (hz : natOf a ≠ 0) (hnb : (nbits (natOf a) : Int) + k = (nb : Int)) (hnb0 : 0 < nb) (hN : nbits N = nb) (hK : (nb + 64 - 1) / 64 = K) (hw : ∀ i : Nat, shS a ((i : Int) - q) r = N / 18446744073709551616 ^ i % 18446744073709551616) :
    Calls Tryz.prog 107 #[.slice A a.length c, .int .i64 k] w (OutNat N w) := by
  have hsz := nbits_natOf a ha
  have hz2 : 0 < nbits (natOf a) := by
    rcases Nat.eq_zero_or_pos (nbits (natOf a)) with h | h
    · have := nbits_lt (natOf a); rw [h] at this; simp at this; omega
    · exact h
  have hK2 : K ≤ 200000 := by omega
  have Q := Lib.hid (bits_q A c a w w.heap.size hrd ha (by omega) hc)
  have P := parts_any nb 64 w (by omega) (by omega) (by omega)
  rw [hK] at P
  have HP := Lib.hid P
  have hmk := fun u => make_row K u (by omega)
  have SH := fun u => shifted_any A a.length c k q r u (by omega) (by omega) t hr h1 h2 h3 h4 h5 hq0 hq1
  have HSH := Lib.hid SH
  have HN := Lib.hid hN
  have HK := Lib.hid hK
  have HW := Lib.hid hw
  have hb0 : ((nbits (natOf a) : Int) == 0) = false := by simp; omega
  have hb1 : ¬ (nb : Int) ≤ 0 := by omega
  have hb2 : decide (nb = 0) = false := by simp; omega
  clear P SH hw h1 h4 h5 hN hK
  go_enter Tryz.func107, Tryz.ntmps107
  go_wp2_with fail
  refine (Q.out).mono ?_
  rintro e w' ⟨rfl, rfl⟩
  go_wp2_with fail
  refine (HP.out).mono ?_
  rintro e w' ⟨rfl, rfl⟩
  go_wp2_with fail
  refine (HSH.out _).mono ?_
  rintro e w' ⟨rfl, rfl⟩
  have hown0 := row_new w K (by omega) N
  obtain ⟨E, hE⟩ : ∃ E, (((w.alloc (.cells (Array.replicate K (Value.int .u64 0)) 27)).alloc (.cells #[.slice A a.length c] 33)).alloc (.cells #[.int .i64 (r : Int)] 3)).alloc (.cells #[.int .i64 q] 3) = E := ⟨_, rfl⟩
  have hbE : Below w.heap.size w E := by rw [← hE]; exact ((((Below.refl _ w).alloc (Nat.le_refl _) _).alloc (by simp) _).alloc (by simp; omega) _).alloc (by simp; omega) _
  have hownE : E.ownsRow w.heap.size 27 1 (.slice (some ⟨w.heap.size, 0, none⟩) K K) K (ints .u64 (wsAt N K 0)) := by rw [← hE]; exact ((hown0.alloc _).alloc _).alloc _
  have hEs : E.heap.size = w.heap.size + 4 := by rw [← hE]; simp
  have bxA : Boxed E (w.heap.size + 1) 33 (.slice A a.length c) := by
    rw [← hE]
    have h := Boxed.new (w.alloc (.cells (Array.replicate K (Value.int .u64 0)) 27)) 33 (.slice A a.length c)
    rw [World.size_alloc] at h
    exact (h.alloc _).alloc _
  have bxR : Boxed E (w.heap.size + 1 + 1) 3 (.int .i64 (r : Int)) := by
    rw [← hE]
    have h := Boxed.new ((w.alloc (.cells (Array.replicate K (Value.int .u64 0)) 27)).alloc (.cells #[.slice A a.length c] 33)) 3 (.int .i64 (r : Int))
    rw [World.size_alloc, World.size_alloc] at h
    exact h.alloc _
  have bxQ : Boxed E (w.heap.size + 1 + 2) 3 (.int .i64 q) := by
    rw [← hE]
    have h := Boxed.new (((w.alloc (.cells (Array.replicate K (Value.int .u64 0)) 27)).alloc (.cells #[.slice A a.length c] 33)).alloc (.cells #[.int .i64 (r : Int)] 3)) 3 (.int .i64 q)
    rw [World.size_alloc, World.size_alloc, World.size_alloc] at h
    exact h
  have HS := Lib.hid hEs
  clear hown0 hmk hEs
  go_wp2_with fail
  clear hE
  go_loopw [29] (fun j wr => ∃ i : Nat, i ≤ K ∧ j = .int .i64 i ∧ wr.ownsRow w.heap.size 27 1 (.slice (some ⟨w.heap.size, 0, none⟩) K K) K (ints .u64 (wsAt N K i)) ∧ Boxed wr (w.heap.size + 1) 33 (.slice A a.length c) ∧ Boxed wr (w.heap.size + 1 + 1) 3 (.int .i64 (r : Int)) ∧ Boxed wr (w.heap.size + 1 + 2) 3 (.int .i64 q) ∧ Below w.heap.size w wr) (fun j _ => K - (intOf j).toNat)
  case atStart => exact ⟨0, Nat.zero_le _, rfl, hownE, bxA, bxR, bxQ, hbE⟩
  case round =>
    obtain ⟨i, hi, rfl, hown, bA, bR, bQ, hb⟩ := hrel
    by_cases hlt : i < K
    · obtain ⟨jj, hjj⟩ : ∃ jj : Int, (i : Int) - q = jj := ⟨_, rfl⟩
      have S1 := shifted1_any A a ha c (w.heap.size + 1 + 2) (w.heap.size + 1) (w.heap.size + 1 + 1) i r q jj wr w.heap.size (hrd.below hb) (by omega) hr (by omega) hq0 hq1 hjj bQ.cell bA.cell bR.cell
      have hv := HW.out i
      rw [hjj] at hv
      rw [hv] at S1
      have HS1 := Lib.hid S1
      have hst := hown.stored i (.int .u64 ((N / 18446744073709551616 ^ i % 18446744073709551616 : Nat) : Int))
      rw [ints_set, wsAt_set N K i hlt] at hst
      have g1 := hst.2
      have hcell : wr.cell? ⟨w.heap.size, i, none⟩ = some (.int .u64 (nth (wsAt N K i) i : Int)) := by rw [hown.cellAt _ (by omega), ints_get _ _ _ (by rw [length_wsAt _ _ _ (by omega)]; exact hlt)]
      have hfz : wr.frozen? ⟨w.heap.size, i, none⟩ = false := hown.frozenAt _
      have HR := Lib.hid (show (wr.setCell ⟨w.heap.size, i, none⟩ (.int .u64 ((N / 18446744073709551616 ^ i % 18446744073709551616 : Nat) : Int))).ownsRow w.heap.size 27 1 (.slice (some ⟨w.heap.size, 0, none⟩) K K) K (ints .u64 (wsAt N K (i + 1))) ∧
        Boxed (wr.setCell ⟨w.heap.size, i, none⟩ (.int .u64 ((N / 18446744073709551616 ^ i % 18446744073709551616 : Nat) : Int))) (w.heap.size + 1) 33 (.slice A a.length c) ∧ Boxed (wr.setCell ⟨w.heap.size, i, none⟩ (.int .u64 ((N / 18446744073709551616 ^ i % 18446744073709551616 : Nat) : Int))) (w.heap.size + 1 + 1) 3 (.int .i64 (r : Int)) ∧
        Boxed (wr.setCell ⟨w.heap.size, i, none⟩ (.int .u64 ((N / 18446744073709551616 ^ i % 18446744073709551616 : Nat) : Int))) (w.heap.size + 1 + 2) 3 (.int .i64 q) ∧ Below w.heap.size w (wr.setCell ⟨w.heap.size, i, none⟩ (.int .u64 ((N / 18446744073709551616 ^ i % 18446744073709551616 : Nat) : Int))) from
        ⟨hst.1, bA.kept g1 (by simp), bR.kept g1 (by simp; omega), bQ.kept g1 (by simp; omega), hb.setCell (p := ⟨w.heap.size, i, none⟩) (by simp) _⟩)
      obtain ⟨v, hvv⟩ : ∃ v : Nat, N / 18446744073709551616 ^ i % 18446744073709551616 = v := ⟨_, rfl⟩
      rw [hvv] at HR HS1
      clear S1 hjj hv hst g1 hown bA bR bQ hb hvv
      go_wp2_with fail
      refine (HS1.out).mono ?_
      rintro e w' ⟨rfl, n2, rfl⟩
      go_wp2_with fail
      rw [show (wr.drewN n2).setCell ⟨w.heap.size, i, none⟩ (.int .u64 (v : Int)) = (wr.setCell ⟨w.heap.size, i, none⟩ (.int .u64 (v : Int))).drewN n2 from rfl]
      go_roundw
      case rel => exact ⟨i + 1, by omega, by go_num, (Drawn.more n2).own HR.out.1, HR.out.2.1, HR.out.2.2.1, HR.out.2.2.2.1, HR.out.2.2.2.2.trans ((Drawn.more n2).below _)⟩
      case measure => simp [intOf]; omega
    · obtain rfl : i = K := by omega
      rw [wsAt_end] at hown
      have e2 : (nbits N + 63) / 64 = i := by rw [HN.out, ← HK.out]; omega
      have HO := Lib.hid (show wr.ownsRow w.heap.size 27 1 (.slice (some ⟨w.heap.size, 0, none⟩) i i) ((nbits N + 63) / 64) (ints .u64 (wd N)) by rw [wd, e2]; exact hown)
      clear e2 hown
      go_wp2_with fail
      go_ret
      exact ⟨_, rfl, HO.out, hb⟩
end Go.Proofs.YtjpfcdgaepdcdaaGreat
/- nat.Shl, nat.Shr: so often twice, so often the half. Conditions: as typed (lengths that fit a machine). -/
namespace Go.Proofs.YtjpfcdgaepdcdaaGreat
open Go.RowKit
set_option maxRecDepth 20000
theorem nbits_up_eq (n k : Nat) (h : n ≠ 0) : nbits (2 ^ k * n) = nbits n + k := by
  have hp : 0 < 2 ^ k := Nat.pow_pos (by omega)
  have h1 := nbits_lt n
  have h2 := nbits_le n h
  refine nbits_eq _ _ ?_ fun _ => ?_
  · rw [Nat.pow_add, Nat.mul_comm (2 ^ k)]
    exact Nat.mul_lt_mul_of_pos_right h1 hp
  · have h0 : 0 < nbits n := by
      rcases Nat.eq_zero_or_pos (nbits n) with h' | h'
      · rw [h'] at h1; simp at h1; omega
      · exact h'
    rw [show nbits n + k - 1 = k + (nbits n - 1) by omega, Nat.pow_add]
    exact Nat.mul_le_mul_left _ h2
theorem nbits_down_eq (n k : Nat) (h : k < nbits n) : nbits (n / 2 ^ k) = nbits n - k := by
  have hn : n ≠ 0 := by intro h'; rw [h', nbits_zero] at h; omega
  have hp : 0 < 2 ^ k := Nat.pow_pos (by omega)
  have h1 := nbits_lt n
  have h2 := nbits_le n hn
  refine nbits_eq _ _ ?_ fun _ => ?_
  · rw [Nat.div_lt_iff_lt_mul hp, ← Nat.pow_add, show nbits n - k + k = nbits n by omega]
    exact h1
  · rw [Nat.le_div_iff_mul_le hp, ← Nat.pow_add, show nbits n - k - 1 + k = nbits n - 1 by omega]
    exact h2
theorem down_none (n k : Nat) (h : nbits n ≤ k) : n / 2 ^ k = 0 := Nat.div_eq_of_lt (Nat.lt_of_lt_of_le (nbits_lt n) (Nat.pow_le_pow_right (by omega) h))
theorem shS_nat (a : List Nat) (ha : Words a) (j r : Nat) (hr : r < 64) : shS a (j : Int) r = natOf a * 2 ^ r / 18446744073709551616 ^ j % 18446744073709551616 := by
  unfold shS
  rw [wordS_nat]
  exact shl_word a ha j r hr
theorem shS_up (a : List Nat) (ha : Words a) (Q r : Nat) (hr : r < 64) (i : Nat) : shS a ((i : Int) - (Q : Int)) r = 2 ^ (64 * Q + r) * natOf a / 18446744073709551616 ^ i % 18446744073709551616 := by
  rcases Nat.lt_or_ge i Q with h | h
  · unfold shS
    rw [wordS_neg a _ (by omega), wordS_neg a _ (by omega)]
    obtain ⟨d, rfl⟩ : ∃ d, Q = i + 1 + d := ⟨Q - (i + 1), by omega⟩
    have e : 2 ^ (64 * (i + 1 + d) + r) * natOf a = 18446744073709551616 ^ i * (18446744073709551616 * (2 ^ (64 * d + r) * natOf a)) := by
      rw [pow_64_2, show 64 * (i + 1 + d) + r = 64 * i + (64 + (64 * d + r)) by omega, Nat.pow_add, Nat.pow_add 2 64]
      simp only [Nat.mul_assoc]
    rw [e, Nat.mul_div_cancel_left _ (Nat.pow_pos (by omega)), Nat.mul_mod_right]
    simp
  · obtain ⟨j, rfl⟩ : ∃ j, i = Q + j := ⟨i - Q, by omega⟩
    rw [show ((Q + j : Nat) : Int) - (Q : Int) = (j : Int) by omega, shS_nat a ha j r hr]
    rw [Nat.pow_add 18446744073709551616 Q j, Nat.pow_add 2 (64 * Q) r, ← pow_64_2, Nat.mul_assoc, Nat.mul_div_mul_left _ _ (Nat.pow_pos (by omega)), Nat.mul_comm (2 ^ r)]
theorem shS_down (a : List Nat) (ha : Words a) (V s r : Nat) (hr : r < 64) (hs : s + r = 64 * V) (i : Nat) : shS a ((i : Int) + (V : Int)) r = natOf a / 2 ^ s / 18446744073709551616 ^ i % 18446744073709551616 := by
  rw [show (i : Int) + (V : Int) = ((i + V : Nat) : Int) by omega, shS_nat a ha _ r hr]
  have e : (18446744073709551616 : Nat) ^ (i + V) = 2 ^ s * 18446744073709551616 ^ i * 2 ^ r := by
    rw [Nat.pow_add, pow_64_2 V, ← hs, Nat.pow_add]
    simp only [Nat.mul_assoc, Nat.mul_comm, Nat.mul_left_comm]
  rw [e, Nat.mul_div_mul_right _ _ (Nat.pow_pos (by omega)), ← Nat.div_div_eq_div_mul]
theorem out_none (w : World) : OutNat 0 w (.returned (.slice none 0 0)) w := by
  refine ⟨_, rfl, ?_, Below.refl _ _⟩
  have e : wd 0 = [] := by simp [wd, nbits_zero, words]
  rw [nbits_zero, e]
  exact World.ownsRow_nil _ _ _ _
section
variable (A : Option Addr) (a : List Nat) (ha : Words a) (c : Nat) (w : World) (hrd : Rd .u64 w w.heap.size A a) (hl : a.length ≤ 100000) (hc : a.length ≤ c)
include ha hrd hl hc
set_option maxHeartbeats 400000 in
theorem shift_none (k : Int) (hk0 : -100000 ≤ k) (hk1 : k ≤ 100000) (h : natOf a = 0 ∨ (nbits (natOf a) : Int) + k ≤ 0) : Calls Tryz.prog 107 #[.slice A a.length c, .int .i64 k] w (OutNat 0 w) := by
  have hsz := nbits_natOf a ha
  have Q := bits_q A c a w w.heap.size hrd ha (by omega) hc
  have HO := Lib.hid (out_none w)
  by_cases h0 : nbits (natOf a) = 0
  · rw [h0] at Q
    have HQ := Lib.hid Q
    clear Q h h0
    go_enter Tryz.func107, Tryz.ntmps107
    go_wp2_with fail
    refine (HQ.out).mono ?_
    rintro e w' ⟨rfl, rfl⟩
    go_wp2_with fail
    go_ret
    exact HO.out
  · have h2 : (nbits (natOf a) : Int) + k ≤ 0 := by
      rcases h with h | h
      · rw [h, nbits_zero] at h0; omega
      · exact h
    have hb0 : ((nbits (natOf a) : Int) == 0) = false := by simp; omega
    have HQ := Lib.hid Q
    clear Q h h0
    go_enter Tryz.func107, Tryz.ntmps107
    go_wp2_with fail
    refine (HQ.out).mono ?_
    rintro e w' ⟨rfl, rfl⟩
    go_wp2_with fail
    go_ret
    exact HO.out
theorem shift_up (k : Nat) (hk : k ≤ 65536) : Calls Tryz.prog 107 #[.slice A a.length c, .int .i64 (k : Int)] w (OutNat (2 ^ k * natOf a) w) := by
  by_cases h0 : natOf a = 0
  · have := shift_none A a ha c w hrd hl hc (k : Int) (by omega) (by omega) (.inl h0)
    rwa [h0, Nat.mul_zero]
  · obtain ⟨t, q, r, hr, hk2, h1, h2, h3, h4, h5⟩ := shift_nums (k : Int)
    obtain ⟨Q, rfl⟩ := Int.eq_ofNat_of_zero_le (show 0 ≤ q by omega)
    have hb := nbits_up_eq (natOf a) k h0
    exact shift_core A a ha c (k : Int) (Q : Int) t r (nbits (natOf a) + k) (2 ^ k * natOf a) _ w hrd hl hc (by omega) (by omega) hr h1 h2 h3 h4 h5 (by omega) (by omega) h0 (by omega)
      (by have h1 := nbits_lt (natOf a); rcases Nat.eq_zero_or_pos (nbits (natOf a)) with h | h; rw [h] at h1; simp at h1; omega; omega) hb rfl
      (fun i => by rw [show k = 64 * Q + r by omega]; exact shS_up a ha Q r hr i)
theorem shift_down (k : Nat) (hk : k ≤ 65536) : Calls Tryz.prog 107 #[.slice A a.length c, .int .i64 (-(k : Int))] w (OutNat (natOf a / 2 ^ k) w) := by
  by_cases h0 : natOf a = 0
  · have := shift_none A a ha c w hrd hl hc (-(k : Int)) (by omega) (by omega) (.inl h0)
    rwa [h0, Nat.zero_div]
  · by_cases h6 : nbits (natOf a) ≤ k
    · have := shift_none A a ha c w hrd hl hc (-(k : Int)) (by omega) (by omega) (.inr (by omega))
      rwa [down_none _ _ h6]
    · obtain ⟨t, q, r, hr, hk2, h1, h2, h3, h4, h5⟩ := shift_nums (-(k : Int))
      obtain ⟨V, hV⟩ := Int.eq_ofNat_of_zero_le (show 0 ≤ -q by omega)
      have hb := nbits_down_eq (natOf a) k (by omega)
      exact shift_core A a ha c (-(k : Int)) q t r (nbits (natOf a) - k) (natOf a / 2 ^ k) _ w hrd hl hc (by omega) (by omega) hr h1 h2 h3 h4 h5 (by omega) (by omega) h0 (by omega) (by omega) hb rfl
        (fun i => by rw [show (i : Int) - q = (i : Int) + (V : Int) by omega]; exact shS_down a ha V k r hr (by omega) i)
set_option maxHeartbeats 400000 in
theorem shl_pf (k : Int) : Calls Tryz.prog 122 #[.slice A a.length c, .int .i64 k] w (OutNat (shlS (natOf a) k) w) := by
  by_cases h : 0 ≤ k ∧ k ≤ 65536
  · obtain ⟨j, rfl⟩ := Int.eq_ofNat_of_zero_le h.1
    have S := Lib.hid (shift_up A a ha c w hrd hl hc j (by omega))
    have e : shlS (natOf a) (j : Int) = 2 ^ j * natOf a := by unfold shlS; rw [if_pos h, Int.toNat_natCast]
    rw [e]
    have M := Lib.hid (mayShift_yes (j : Int) w h.1 h.2)
    clear h e
    go_enter Tryz.func122, Tryz.ntmps122
    go_wp2_with fail
    refine (M.out).mono ?_
    rintro e w' ⟨rfl, rfl⟩
    go_wp2_with fail
    refine (S.out).mono ?_
    rintro e w1 ⟨v, rfl, own, hb⟩
    obtain ⟨X, d, rfl, _⟩ := own_form own
    have HO := Lib.hid own
    clear own
    go_wp2_with fail
    go_ret
    exact ⟨_, rfl, HO.out, hb⟩
  · have e : shlS (natOf a) k = 0 := by unfold shlS; rw [if_neg h]
    rw [e]
    have M := Lib.hid (mayShift_no k w (by omega))
    have HO := Lib.hid (out_none w)
    clear h e
    go_enter Tryz.func122, Tryz.ntmps122
    go_wp2_with fail
    refine (M.out).mono ?_
    rintro e w' ⟨rfl, rfl⟩
    go_wp2_with fail
    go_ret
    exact HO.out
set_option maxHeartbeats 400000 in
theorem shr_pf (k : Int) : Calls Tryz.prog 80 #[.slice A a.length c, .int .i64 k] w (OutNat (shrS (natOf a) k) w) := by
  by_cases h : 0 ≤ k ∧ k ≤ 65536
  · obtain ⟨j, rfl⟩ := Int.eq_ofNat_of_zero_le h.1
    have S := Lib.hid (shift_down A a ha c w hrd hl hc j (by omega))
    have e : shrS (natOf a) (j : Int) = natOf a / 2 ^ j := by unfold shrS; rw [if_pos h, Int.toNat_natCast]
    rw [e]
    have M := Lib.hid (mayShift_yes (j : Int) w h.1 h.2)
    have hj : j ≤ 65536 := by omega
    clear h e
    go_enter Tryz.func80, Tryz.ntmps80
    go_wp2_with fail
    refine (M.out).mono ?_
    rintro e w' ⟨rfl, rfl⟩
    go_wp2_with fail
    refine (S.out).mono ?_
    rintro e w1 ⟨v, rfl, own, hb⟩
    obtain ⟨X, d, rfl, _⟩ := own_form own
    have HO := Lib.hid own
    clear own
    go_wp2_with fail
    go_ret
    exact ⟨_, rfl, HO.out, hb⟩
  · have e : shrS (natOf a) k = 0 := by unfold shrS; rw [if_neg h]
    rw [e]
    have M := Lib.hid (mayShift_no k w (by omega))
    have HO := Lib.hid (out_none w)
    clear h e
    go_enter Tryz.func80, Tryz.ntmps80
    go_wp2_with fail
    refine (M.out).mono ?_
    rintro e w' ⟨rfl, rfl⟩
    go_wp2_with fail
    go_ret
    exact HO.out
end
end Go.Proofs.YtjpfcdgaepdcdaaGreat
/- nat.Bytes, nat.FromBytes: digits to the base 256. Conditions: as typed (lengths that fit a machine). -/
namespace Go.Proofs.YtjpfcdgaepdcdaaGreat
open Go.RowKit
set_option maxRecDepth 20000
/-- Noughts, and the lowest i digits behind them. -/
def bsAt (N S i : Nat) : List Nat := List.replicate (S - i) 0 ++ be i N
theorem length_bsAt (N S i : Nat) (h : i ≤ S) : (bsAt N S i).length = S := by simp [bsAt, length_be]; omega
theorem bsAt_zero (N S : Nat) : bsAt N S 0 = List.replicate S 0 := by simp [bsAt, be]
theorem bsAt_end (N S : Nat) : bsAt N S S = be S N := by simp [bsAt]
theorem bsAt_set (N i d : Nat) : (bsAt N (i + 1 + d) i).set d (dig N i) = bsAt N (i + 1 + d) (i + 1) := by
  unfold bsAt
  rw [show i + 1 + d - i = d + 1 by omega, show i + 1 + d - (i + 1) = d by omega, List.replicate_succ', List.append_assoc, List.set_append_right _ _ (by simp), List.length_replicate, Nat.sub_self, be]
  rfl
theorem make_bytes (m : Nat) (u : World) (hm : m ≤ 10000000) : (Instr.makeSlice 56 (.int .i64 (m : Int)) (.int .i64 (m : Int))).run Tryz.prog u =
      .ok (.slice (some ⟨u.heap.size, 0, none⟩) m m) (u.alloc (.cells (List.replicate m (Value.int .u8 0)).toArray 5)) := by
  obtain ⟨i0, hi, hz0, hz1, hz2⟩ := info_parts num_info_u8
  have h := run_make (P := Tryz.prog) u 56 5 i0 (.int .u8 0) Tryz.underlying56 hi hz0 .i64 .i64 (m : Int) (m : Int) (by omega) (by omega) (by rw [hz2]; omega) (by omega)
  rw [Int.toNat_natCast, hz1, Nat.mul_one] at h
  rw [h, ← toList_madeCells_one]
  rfl
theorem brow_new (w : World) (m : Nat) (hm : m ≤ 10000000) (N : Nat) : (w.alloc (.cells (Array.replicate m (Value.int .u8 0)) 5)).ownsRow w.heap.size 5 1 (.slice (some ⟨w.heap.size, 0, none⟩) m m) m (ints .u8 (bsAt N m 0)) := by
  rw [bsAt_zero]
  exact own_of_heap (cur := List.replicate m (Value.int .u8 0)) (by have h := heap_alloc_new w (.cells (Array.replicate m (Value.int .u8 0)) 5); simpa using h) (Nat.le_refl _) (Nat.le_refl _) (by unfold maxLen; omega) (by simp) (by simp [ints])
set_option maxHeartbeats 1000000 in
theorem bytes_pf (A : Option Addr) (c : Nat) (a : List Nat) (w : World) (hr : Rd .u64 w w.heap.size A a) (hw : Words a) (hl : a.length ≤ 100000) (hc : a.length ≤ c) :
    Calls Tryz.prog 46 #[.slice A a.length c] w (OutBytes (natOf a) w) := by
  have hsz := nbits_natOf a hw
  have hbl := blen_natOf a hw
  have Q := Lib.hid (bits_q A c a w w.heap.size hr hw (by omega) hc)
  have P := parts_any (nbits (natOf a)) 8 w (by omega) (by omega) (by omega)
  rw [show (nbits (natOf a) + 8 - 1) / 8 = blen (natOf a) from nbits_blen _] at P
  have HP := Lib.hid P
  obtain ⟨S, hS⟩ : ∃ S, blen (natOf a) = S := ⟨_, rfl⟩
  rw [hS] at HP hbl
  have HS := Lib.hid hS
  have hmk := fun u => make_bytes S u (by omega)
  clear P hS
  go_enter Tryz.func46, Tryz.ntmps46
  go_wp2_with fail
  refine (Q.out).mono ?_
  rintro e w' ⟨rfl, rfl⟩
  go_wp2_with fail
  refine (HP.out).mono ?_
  rintro e w' ⟨rfl, rfl⟩
  go_wp2_with fail
  have hown0 := brow_new w S (by omega) (natOf a)
  obtain ⟨E, hE⟩ : ∃ E, w.alloc (.cells (Array.replicate S (Value.int .u8 0)) 5) = E := ⟨_, rfl⟩
  have hbE : Below w.heap.size w E := by rw [← hE]; exact (Below.refl _ w).alloc (Nat.le_refl _) _
  rw [hE] at hown0 ⊢
  clear hmk hE
  go_loopw [12] (fun j wr => ∃ i : Nat, i ≤ S ∧ j = .int .i64 i ∧ wr.ownsRow w.heap.size 5 1 (.slice (some ⟨w.heap.size, 0, none⟩) S S) S (ints .u8 (bsAt (natOf a) S i)) ∧ Below w.heap.size w wr) (fun j _ => S - (intOf j).toNat)
  case atStart => exact ⟨0, Nat.zero_le _, rfl, hown0, hbE⟩
  case round =>
    obtain ⟨i, hi, rfl, hown, hb⟩ := hrel
    by_cases hlt : i < S
    · obtain ⟨d, hd⟩ : ∃ d, S = i + 1 + d := ⟨S - (i + 1), by omega⟩
      obtain ⟨b, off, rfl, hbB, hcell⟩ := hr.below hb (by omega)
      have hx := hcell (i / 8) (by omega)
      have hxl := nth_lt a hw (i / 8)
      have hst := hown.stored d (.int .u8 ((dig (natOf a) i : Nat) : Int))
      rw [ints_set, hd, bsAt_set, ← hd] at hst
      have hc4 : wr.cell? ⟨w.heap.size, d, none⟩ = some (.int .u8 (nth (bsAt (natOf a) S i) d : Int)) := by rw [hown.cellAt _ (by omega), ints_get _ _ _ (by rw [length_bsAt _ _ _ (by omega)]; omega)]
      have hf4 : wr.frozen? ⟨w.heap.size, d, none⟩ = false := hown.frozenAt _
      have HO := Lib.hid hst.1
      have hidx : (S : Int) - 1 - (i : Int) = (d : Int) := by omega
      have hdS : d < S := by omega
      have HV := Lib.hid (word_byte_int a hw i)
      have hi8 : i / 8 < a.length := by omega
      clear hst hown hcell hd
      go_wp2_with fail
      rw [HV.out]
      go_roundw
      case rel => exact ⟨i + 1, by omega, by go_num, HO.out, hb.setCell (p := ⟨w.heap.size, d, none⟩) (by simp) _⟩
      case measure => simp [intOf]; omega
    · obtain rfl : i = S := by omega
      rw [bsAt_end] at hown
      have HO := Lib.hid (show wr.ownsRow w.heap.size 5 1 (.slice (some ⟨w.heap.size, 0, none⟩) i i) (blen (natOf a)) (ints .u8 (be (blen (natOf a)) (natOf a))) by rw [HS.out]; exact hown)
      clear hown
      go_wp2_with fail
      go_ret
      exact ⟨_, rfl, HO.out, hb⟩
end Go.Proofs.YtjpfcdgaepdcdaaGreat
/- nat's contracts, as laws use them. Conditions: as typed (lengths that fit a machine, a capacity that is not below its length). -/
namespace Go.Proofs.YtjpfcdgaepdcdaaGreat
open Go.RowKit
set_option maxRecDepth 20000
section
variable (A A2 : Option Addr) (c c2 : Nat) (a b : List Nat) (w : World) (hr : Rd .u64 w w.heap.size A a) (hw : Words a) (hl : a.length ≤ 100000) (hc : a.length ≤ c) (hr2 : Rd .u64 w w.heap.size A2 b) (hw2 : Words b) (hl2 : b.length ≤ 100000) (hc2 : b.length ≤ c2)
include hr hw hl hc
theorem natMay_any : Calls Tryz.prog 44 #[.slice A a.length c] w fun e w' => e = .returned (.bool (decide (a = wd (natOf a)))) ∧ Below w.heap.size w w' := may_pf A c a w hr hw hl hc
theorem natTrim_any : Calls Tryz.prog 101 #[.slice A a.length c] w (OutNat (natOf a) w) := trim_pf A c a w hr hw hl hc
theorem natSmall_any : Calls Tryz.prog 39 #[.slice A a.length c] w fun e w' =>
      e = .returned (.tuple #[.int .u64 (smallV (natOf a)), .bool (smallB (natOf a))]) ∧ Below w.heap.size w w' := small_pf A c a w hr hw hl hc
theorem natShl_any (k : Int) : Calls Tryz.prog 122 #[.slice A a.length c, .int .i64 k] w (OutNat (shlS (natOf a) k) w) := shl_pf A a hw c w hr hl hc k
theorem natShr_any (k : Int) : Calls Tryz.prog 80 #[.slice A a.length c, .int .i64 k] w (OutNat (shrS (natOf a) k) w) := shr_pf A a hw c w hr hl hc k
theorem natBits_any : Calls Tryz.prog 45 #[.slice A a.length c] w fun e w' => e = .returned (.int .i64 (nbits (natOf a))) ∧ Below w.heap.size w w' := Calls.mono (bits_q A c a w w.heap.size hr hw (by omega) hc) fun _ _ ⟨he, hq⟩ => ⟨he, hq ▸ Below.refl _ _⟩
theorem natBit_any (i : Int) (hi : MaxI i) : Calls Tryz.prog 47 #[.slice A a.length c, .int .i64 i] w fun e w' => e = .returned (.int .u64 (bitS (natOf a) i)) ∧ Below w.heap.size w w' := (fun _ => bit_pf A c a w hr hw hl i hi) hc
theorem natBytes_any : Calls Tryz.prog 46 #[.slice A a.length c] w (OutBytes (natOf a) w) := bytes_pf A c a w hr hw hl hc
include hr2 hw2 hl2 hc2
theorem natCmp_any : Calls Tryz.prog 21 #[.slice A a.length c, .slice A2 b.length c2] w fun e w' => e = .returned (.int .i64 (cmpS (natOf a) (natOf b))) ∧ Below w.heap.size w w' := cmp_pf A A2 c c2 a b w hr hw hl hc hr2 hw2 hl2 hc2
theorem natAdd_any : Calls Tryz.prog 38 #[.slice A a.length c, .slice A2 b.length c2] w (OutNat (natOf a + natOf b) w) := add_pf A A2 c c2 a b w hr hw hl hc hr2 hw2 hl2 hc2
theorem natSub_any : Calls Tryz.prog 48 #[.slice A a.length c, .slice A2 b.length c2] w (OutSub (natOf a) (natOf b) w) := sub_pf A A2 c c2 a b w hr hw hl hc hr2 hw2 hl2 hc2
end
theorem natOf_any (n : Nat) (w : World) (hn : n < 18446744073709551616) : Calls Tryz.prog 29 #[.int .u64 n] w (OutNat n w) := of_pf n w hn
end Go.Proofs.YtjpfcdgaepdcdaaGreat
/- The examples of chapter 2 ('works') hold, in whatever memory. No condition. -/
namespace Go.Proofs.YtjpfcdgaepdcdaaGreat
open Go.RowKit
set_option maxRecDepth 20000
/-- What is answered, as words that are written out. -/
theorem OutNat.lit {N : Nat} {w w' : World} {e : Ending} (h : OutNat N w e w') (l : List Nat) (hl : wd N = l) : ∃ X d, e = .returned (.slice X l.length d) ∧ Rd .u64 w' w'.heap.size X l ∧ Below w.heap.size w w' ∧ l.length ≤ d := by
  obtain ⟨v, rfl, own, b⟩ := h
  obtain ⟨X, d, rfl, hd, _⟩ := own_form own
  have hn : (nbits N + 63) / 64 = l.length := by rw [← hl, length_wd]
  rw [hl] at own
  exact ⟨X, d, by rw [hn], Rd.own own, b, by omega⟩
section
variable (w : World)
end
theorem below_step {w0 w w' : World} (h : Below w0.heap.size w0 w) (k : Below w.heap.size w w') : Below w0.heap.size w0 w' := h.trans (k.mono h.size)
theorem rd_step {k : IntKind} {w w' : World} {A : Option Addr} {l : List Nat} (h : Rd k w w.heap.size A l) (b : Below w.heap.size w w') : Rd k w' w'.heap.size A l := (h.below b).more b.size
end Go.Proofs.YtjpfcdgaepdcdaaGreat
/- NatWords' walk: it answers true, and writes nothing that was there. No condition but what the arguments' types give. -/
namespace Go.Proofs.YtjpfcdgaepdcdaaGreat
open Go.RowKit
set_option maxRecDepth 20000
/-- Words of the call's own, whatever they are by now. -/
def Turned (w : World) (base : Nat) (v : Value) (n : Nat) : Prop := ∃ l : List Nat, l.length = n ∧ Words l ∧ w.ownsRow base 27 1 v n (ints .u64 l)
theorem Turned.at_ {w : World} {base n i : Nat} {v : Value} (h : Turned w base v n) (hi : i < n) : ∃ (g c x : Nat), v = .slice (some ⟨g, 0, none⟩) n c ∧ base ≤ g ∧ x < 18446744073709551616 ∧ w.cell? ⟨g, i, none⟩ = some (.int .u64 (x : Int)) ∧ w.frozen? ⟨g, i, none⟩ = false ∧
    ∀ y : Nat, y < 18446744073709551616 → Turned (w.setCell ⟨g, i, none⟩ (.int .u64 (y : Int))) base v n := by
  obtain ⟨l, hl, hw, own⟩ := h
  obtain ⟨g, c, rfl, hg, _⟩ := own_pos2 own (by omega)
  refine ⟨g, c, nth l i, rfl, hg, hw _ (nth_mem l i (by omega)), ?_, own.frozenAt _, fun y hy => ?_⟩
  · rw [own.cellAt _ (by omega), ints_get _ _ _ (by omega)]
  · have hst := own.stored i (.int .u64 (y : Int))
    rw [ints_set] at hst
    refine ⟨l.set i y, by simp [hl], fun x hx => ?_, hst.1⟩
    rcases mem_set hx with rfl | h
    · exact hy
    · exact hw x h
end Go.Proofs.YtjpfcdgaepdcdaaGreat
/- nat's contracts in the form that laws use: a slice of words stands for a number. Conditions: as typed. -/
namespace Go.Proofs.YtjpfcdgaepdcdaaGreat
open Go.RowKit
set_option maxRecDepth 20000
/-- The slice at A, of n words, stands for N: words that may be, or not. -/
def NatIn (w : World) (A : Option Addr) (n c N : Nat) : Prop := ∃ l : List Nat, l.length = n ∧ natOf l = N ∧ Words l ∧ n ≤ 50000 ∧ Rd .u64 w w.heap.size A l ∧ n ≤ c
/-- The slice at A, of n words, is N's words. -/
def NatIs (w : World) (A : Option Addr) (n c N : Nat) : Prop := (wd N).length = n ∧ n ≤ 50000 ∧ Rd .u64 w w.heap.size A (wd N) ∧ n ≤ c
/-- The slice at A is N's digits. -/
def NumIs (w : World) (A : Option Addr) (n d N : Nat) : Prop := n = nbits N ∧ n ≤ d ∧ n ≤ 5000000 ∧ Rd .u8 w w.heap.size A (dg N)
section
variable {w w' : World} {A : Option Addr} {n c N d : Nat}
theorem NatIn.step (h : NatIn w A n c N) (b : Below w.heap.size w w') : NatIn w' A n c N := by
  obtain ⟨l, h1, h2, h3, h4, h5, h6⟩ := h
  exact ⟨l, h1, h2, h3, h4, rd_step h5 b, h6⟩
theorem NatIs.step (h : NatIs w A n c N) (b : Below w.heap.size w w') : NatIs w' A n c N := ⟨h.1, h.2.1, rd_step h.2.2.1 b, h.2.2.2⟩
theorem NumIs.step (h : NumIs w A n d N) (b : Below w.heap.size w w') : NumIs w' A n d N := ⟨h.1, h.2.1, h.2.2.1, rd_step h.2.2.2 b⟩
theorem NatIs.in_ (h : NatIs w A n c N) : NatIn w A n c N := ⟨wd N, h.1, natOf_wd N, wd_words N, h.2.1, h.2.2.1, h.2.2.2⟩
theorem NatIn.bits (h : NatIn w A n c N) : nbits N ≤ 64 * n := by
  obtain ⟨l, rfl, rfl, h3, _⟩ := h
  exact nbits_natOf l h3
theorem Turned.step {base : Nat} {v : Value} (h : Turned w base v n) (b : Below w.heap.size w w') : Turned w' base v n := by
  obtain ⟨l, h1, h2, h3⟩ := h
  refine ⟨l, h1, h2, h3.kept (row := none) ⟨b.os, b.tape, b.output, b.size, fun i hi _ => b.block i hi⟩ ?_⟩
  rcases hv : v.ownBlock with _ | x
  · exact .inl rfl
  · exact .inr (by simp)
end
theorem Turned.lt {w : World} {base n : Nat} {v : Value} (h : Turned w base v n) : ∀ g, v.ownBlock = some g → base ≤ g ∧ g < w.heap.size := by
  obtain ⟨l, _, _, h3⟩ := h
  exact h3.lt
/-- A number is answered, in new memory. -/
def OutN (N : Nat) (w : World) (e : Ending) (w' : World) : Prop := ∃ X q d, e = .returned (.slice X q d) ∧ NatIs w' X q d N ∧ Turned w' w.heap.size (.slice X q d) q ∧ Below w.heap.size w w'
theorem OutNat.out {N : Nat} {w w' : World} {e : Ending} (h : OutNat N w e w') (hn : nbits N ≤ 3200000) : OutN N w e w' := by
  obtain ⟨v, rfl, own, b⟩ := h
  obtain ⟨X, d, rfl, hd, _⟩ := own_form own
  exact ⟨X, _, d, rfl, ⟨length_wd N, by omega, Rd.own own, hd⟩, ⟨wd N, length_wd N, wd_words N, own⟩, b⟩
/-- Digits are answered. -/
def OutD (N : Nat) (w : World) (e : Ending) (w' : World) : Prop := ∃ X n d, e = .returned (.slice X n d) ∧ NumIs w' X n d N ∧ Below w.heap.size w w'
theorem OutNum.out {N : Nat} {w w' : World} {e : Ending} (h : OutNum N w e w') (hn : nbits N ≤ 5000000) : OutD N w e w' := by
  obtain ⟨X, d, rfl, hd, hR, b⟩ := h
  exact ⟨X, _, d, rfl, ⟨rfl, hd, hn, hR⟩, b⟩
theorem nbits_add (a b : Nat) : nbits (a + b) ≤ nbits a + nbits b + 1 := by
  have ha := nbits_lt a
  have hb := nbits_lt b
  refine nbits_of_lt _ _ ?_
  have h1 : 2 ^ nbits a ≤ 2 ^ (nbits a + nbits b) := Nat.pow_le_pow_right (by omega) (by omega)
  have h2 : 2 ^ nbits b ≤ 2 ^ (nbits a + nbits b) := Nat.pow_le_pow_right (by omega) (by omega)
  rw [Nat.pow_succ]
  omega
section
variable {w : World} {A A2 : Option Addr} {n m c c2 M N d d2 : Nat}
theorem bTrim (h : NatIn w A n c M) : Calls Tryz.prog 101 #[.slice A n c] w (OutN M w) := by
  have hb := h.bits
  obtain ⟨l, rfl, rfl, h3, h4, h5, h6⟩ := h
  exact Calls.mono (natTrim_any A c l w h5 h3 (by omega) h6) fun _ _ h => h.out (by omega)
theorem bAdd (h : NatIn w A n c M) (k : NatIn w A2 m c2 N) (hs : n + m ≤ 40000) : Calls Tryz.prog 38 #[.slice A n c, .slice A2 m c2] w (OutN (M + N) w) := by
  have hb := h.bits
  have kb := k.bits
  have hk := nbits_add M N
  obtain ⟨l, rfl, rfl, h3, h4, h5, h6⟩ := h
  obtain ⟨l2, rfl, rfl, k3, k4, k5, k6⟩ := k
  exact Calls.mono (natAdd_any A A2 c c2 l l2 w h5 h3 (by omega) h6 k5 k3 (by omega) k6) fun _ _ h => h.out (by omega)
theorem bCmp (h : NatIn w A n c M) (k : NatIn w A2 m c2 N) : Calls Tryz.prog 21 #[.slice A n c, .slice A2 m c2] w fun e w' => e = .returned (.int .i64 (cmpS M N)) ∧ Below w.heap.size w w' := by
  obtain ⟨l, rfl, rfl, h3, h4, h5, h6⟩ := h
  obtain ⟨l2, rfl, rfl, k3, k4, k5, k6⟩ := k
  exact natCmp_any A A2 c c2 l l2 w h5 h3 (by omega) h6 k5 k3 (by omega) k6
theorem bSub_yes (h : NatIn w A n c M) (k : NatIn w A2 m c2 N) (hle : N ≤ M) : Calls Tryz.prog 48 #[.slice A n c, .slice A2 m c2] w fun e w' =>
    ∃ X q d, e = .returned (.tuple #[.slice X q d, .bool true]) ∧ NatIs w' X q d (M - N) ∧ Turned w' w.heap.size (.slice X q d) q ∧ Below w.heap.size w w' := by
  have hb := h.bits
  have hm := nbits_mono (Nat.sub_le M N)
  obtain ⟨l, rfl, rfl, h3, h4, h5, h6⟩ := h
  obtain ⟨l2, rfl, rfl, k3, k4, k5, k6⟩ := k
  refine Calls.mono (natSub_any A A2 c c2 l l2 w h5 h3 (by omega) h6 k5 k3 (by omega) k6) fun e w' h => ?_
  obtain ⟨v, he, own⟩ := h.1 hle
  obtain ⟨X, d, rfl, hd, _⟩ := own_form own
  exact ⟨X, _, d, he, ⟨length_wd _, by omega, Rd.own own, hd⟩, ⟨wd _, length_wd _, wd_words _, own⟩, h.2.2⟩
theorem bShr (h : NatIn w A n c M) (k : Int) : Calls Tryz.prog 80 #[.slice A n c, .int .i64 k] w (OutN (shrS M k) w) := by
  have hb := h.bits
  obtain ⟨l, rfl, rfl, h3, h4, h5, h6⟩ := h
  refine Calls.mono (natShr_any A c l w h5 h3 (by omega) h6 k) fun _ _ h => h.out ?_
  unfold shrS
  split
  · have := nbits_mono (Nat.div_le_self (natOf l) (2 ^ k.toNat))
    omega
  · rw [nbits_zero]; omega
theorem bBits (h : NatIn w A n c M) : Calls Tryz.prog 45 #[.slice A n c] w fun e w' => e = .returned (.int .i64 (nbits M)) ∧ Below w.heap.size w w' := by
  obtain ⟨l, rfl, rfl, h3, h4, h5, h6⟩ := h
  exact natBits_any A c l w h5 h3 (by omega) h6
theorem bBit (h : NatIn w A n c M) (i : Int) (hi : MaxI i) : Calls Tryz.prog 47 #[.slice A n c, .int .i64 i] w fun e w' => e = .returned (.int .u64 (bitS M i)) ∧ Below w.heap.size w w' := by
  obtain ⟨l, rfl, rfl, h3, h4, h5, h6⟩ := h
  exact natBit_any A c l w h5 h3 (by omega) h6 i hi
end
/-- The slice at A, of n words, is the words l, whether they may be or not. -/
def RowIs (w : World) (A : Option Addr) (n c : Nat) (l : List Nat) : Prop := l.length = n ∧ Words l ∧ n ≤ 50000 ∧ Rd .u64 w w.heap.size A l ∧ n ≤ c
section
variable {w w' : World} {A A2 : Option Addr} {n c c2 : Nat} {l : List Nat}
theorem RowIs.step (h : RowIs w A n c l) (b : Below w.heap.size w w') : RowIs w' A n c l := ⟨h.1, h.2.1, h.2.2.1, rd_step h.2.2.2.1 b, h.2.2.2.2⟩
theorem RowIs.in_ (h : RowIs w A n c l) : NatIn w A n c (natOf l) := ⟨l, h.1, rfl, h.2.1, h.2.2.1, h.2.2.2.1, h.2.2.2.2⟩
end
end Go.Proofs.YtjpfcdgaepdcdaaGreat
/- NatLaws' walk: it answers true, and writes nothing that was there. No condition but what the arguments' types give. -/
namespace Go.Proofs.YtjpfcdgaepdcdaaGreat
open Go.RowKit
set_option maxRecDepth 20000
end Go.Proofs.YtjpfcdgaepdcdaaGreat
/- NatBytes' walk: it answers true, and writes nothing that was there. No condition but what the arguments' types give. -/
namespace Go.Proofs.YtjpfcdgaepdcdaaGreat
open Go.RowKit
set_option maxRecDepth 20000
/-- The slice at A, of q bytes, is M's bytes. -/
def BytIs (w : World) (A : Option Addr) (q M : Nat) : Prop := (be (blen M) M).length = q ∧ q ≤ 100000 ∧ Rd .u8 w w.heap.size A (be (blen M) M)
/-- The slice at A, of n bytes, is l. -/
def ByteRow (w : World) (A : Option Addr) (n : Nat) (l : List Nat) : Prop := l.length = n ∧ Bytes l ∧ n ≤ 100000 ∧ Rd .u8 w w.heap.size A l
def OutB (M : Nat) (w : World) (e : Ending) (w' : World) : Prop := ∃ X q d, e = .returned (.slice X q d) ∧ BytIs w' X q M ∧ Below w.heap.size w w'
def numS (M : Nat) := str (be (blen M) M)
def rowT (l : List Nat) := str l
section
variable {w w' : World} {A : Option Addr} {q n M d c : Nat} {l : List Nat}
theorem BytIs.step (h : BytIs w A q M) (b : Below w.heap.size w w') : BytIs w' A q M := ⟨h.1, h.2.1, rd_step h.2.2 b⟩
theorem ByteRow.step (h : ByteRow w A n l) (b : Below w.heap.size w w') : ByteRow w' A n l := ⟨h.1, h.2.1, h.2.2.1, rd_step h.2.2.2 b⟩
theorem BytIs.row (h : BytIs w A q M) : ByteRow w A q (be (blen M) M) := ⟨h.1, be_bytes _ _, h.2.1, h.2.2⟩
theorem ByteRow.str (h : ByteRow w A n l) : (convert 56 9 (.slice A n c)).run Tryz.prog w = .ok (.string (rowT l)) w := by
  obtain ⟨rfl, _, _, h4⟩ := h
  exact run_str (P := Tryz.prog) w 56 9 5 Tryz.underlying56 Tryz.underlying5 Tryz.underlying9 _ A _ c h4
theorem ByteRow.cell (h : ByteRow w A n l) {k : Nat} (hk : k < n) : ∃ b o, A = some ⟨b, o, none⟩ ∧ w.cell? ⟨b, o + k, none⟩ = some (.int .u8 (nth l k : Int)) := by
  obtain ⟨rfl, _, _, h4⟩ := h
  obtain ⟨b, o, rfl, _, hc⟩ := h4 (by omega)
  exact ⟨b, o, rfl, hc k hk⟩
theorem BytIs.str (h : BytIs w A q M) : (convert 56 9 (.slice A q c)).run Tryz.prog w = .ok (.string (numS M)) w := h.row.str
theorem bNB (h : NatIn w A n c M) (hn : n ≤ 12000) : Calls Tryz.prog 46 #[.slice A n c] w (OutB M w) := by
  have hb := h.bits
  have hq := nbits_blen M
  obtain ⟨l, rfl, rfl, h3, h4, h5, h6⟩ := h
  refine Calls.mono (natBytes_any A c l w h5 h3 (by omega) h6) fun e w' ⟨v, he, own, b⟩ => ?_
  obtain ⟨X, d, rfl, _⟩ := own_form own
  exact ⟨X, _, d, he, ⟨length_be _ _, by omega, Rd.own own⟩, b⟩
end
end Go.Proofs.YtjpfcdgaepdcdaaGreat

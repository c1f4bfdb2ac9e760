/- Several texts in one; each begins with a remark that says what it shows and on which conditions. -/
import Derived.Test.YtjeliomjnalpcaaDoorKbh
/- root.above, Sqrt, Cbrt, IsSquare. Conditions: as typed (lengths that fit a machine). -/
namespace Go.Proofs.YtjeliomjnalpcaaDoor
open Go.RowKit
set_option maxRecDepth 20000
/-- What Sqrt is held to for less than N words. -/
def RootTo2 (N : Nat) : Prop := ∀ (A : Option Addr) (n c M R : Nat) (w : World), NatIn w A n c M → n < N → n ≤ 4000 → IsRoot 2 M R → Calls Tryd.prog 23 #[.slice A n c] w (OutI R w)
/-- What Cbrt is held to for less than N words. -/
def RootTo3 (N : Nat) : Prop := ∀ (A : Option Addr) (n c M R : Nat) (w : World), NatIn w A n c M → n < N → n ≤ 4000 → IsRoot 3 M R → Calls Tryd.prog 24 #[.slice A n c] w (OutI R w)
/-- A number is answered whose power is above M. -/
def OutAbove (p M n : Nat) (w : World) (e : Ending) (w' : World) : Prop := ∃ X q d x, e = .returned (.slice X q d) ∧ NatIs w' X q d x ∧ M < x ^ p ∧ nbits x ≤ 64 * n + 64 ∧ Below w.heap.size w w'
theorem natIn_drop {w : World} {A : Option Addr} {n c M i : Nat} (h : NatIn w A n c M) (hi : i < n) : NatIn w (A.map (·.add i)) (n - i) (c - i) (M / 18446744073709551616 ^ i) := by
  obtain ⟨l, rfl, rfl, h3, h4, h5, h6⟩ := h
  have hr := h5.drop (i := i) h6
  rw [if_neg (by omega)] at hr
  have hp := natOf_parts l i
  have hlt : natOf (l.take i) < 18446744073709551616 ^ i := by
    have h1 := natOf_lt (l.take i) (fun x hx => h3 x (List.mem_of_mem_take hx))
    have h2 : (l.take i).length ≤ i := by rw [List.length_take]; omega
    exact Nat.lt_of_lt_of_le h1 (Nat.pow_le_pow_right (by omega) h2)
  refine ⟨l.drop i, by simp, ?_, fun x hx => h3 x (List.mem_of_mem_drop hx), by omega, hr, by omega⟩
  rw [hp, Nat.add_mul_div_left _ _ (Nat.pow_pos (by omega)), Nat.div_eq_of_lt hlt, Nat.zero_add]
theorem wd_up (k N : Nat) (h : 0 < N) : wd (N * 18446744073709551616 ^ k) = List.replicate k 0 ++ wd N := by
  have hw : Words (List.replicate k 0 ++ wd N) := fun x hx => by
    rcases List.mem_append.1 hx with h1 | h1
    · rw [(List.mem_replicate.1 h1).2]; omega
    · exact wd_words N x h1
  have hn : natOf (List.replicate k 0 ++ wd N) = N * 18446744073709551616 ^ k := by
    rw [natOf_parts _ k, List.take_left' (by simp), List.drop_left' (by simp), natOf_replicate, natOf_wd, Nat.zero_add, Nat.mul_comm]
  have hb : nbits (N * 18446744073709551616 ^ k) = nbits N + 64 * k := by
    rw [Nat.mul_comm, pow_64_2, nbits_up_eq _ _ (by omega)]
  have h1 := words_natOf _ hw
  rw [hn, List.length_append, List.length_replicate, length_wd] at h1
  rw [wd, hb, ← h1]
  congr 1
  omega
section
set_option maxHeartbeats 2000000
theorem above2_any (N : Nat) (ih : RootTo2 N) (A : Option Addr) (n c M : Nat) (w : World) (h : NatIn w A n c M) (hn : n ≤ N) (hs : n ≤ 4000) :
    Calls Tryd.prog 51 #[.slice A n c, .int .i64 2, .func (.func 23) #[] #[]] w (OutAbove 2 M n w) := by
  have B := Lib.hid (bBits h)
  have hnb := h.bits
  obtain ⟨k, hk⟩ : ∃ k, nbits M / 256 = k := ⟨_, rfl⟩
  have hkI : (nbits M : Int) / 256 = (k : Int) := by omega
  by_cases h0 : k = 0
  · subst h0
    have HA := Lib.hid (above_small (p := 2) (N := M) (by omega))
    clear h
    go_enter Tryd.func51, Tryd.ntmps51
    go_wp2_with fail
    refine (B.out).mono ?_
    rintro e w1 ⟨rfl, b1⟩
    obtain ⟨j, hj⟩ : ∃ j, (nbits M + 2 - 1) / 2 = j := ⟨_, rfl⟩
    rw [hj] at HA
    have hjl : j ≤ nbits M + 1 := by omega
    have hj2 : j ≤ 200 := by omega
    have hx := nbits_shl 1 j
    rw [Nat.mul_one] at hx
    have h11 := nbits_of_lt 1 1 (by omega)
    have hN2 : nbits M < 256 := by omega
    have e1 : IntKind.i64.wrap ((nbits M : Int) + 2) = (nbits M : Int) + 2 := by rw [IntKind.wrap_i64]; omega
    have e2 : IntKind.i64.wrap ((nbits M : Int) + 2 - 1) = (nbits M : Int) + 1 := by rw [IntKind.wrap_i64]; omega
    have e3 : ((nbits M : Int) + 1).tdiv 2 = (j : Int) := by rw [Int.tdiv_eq_ediv_of_nonneg (by omega)]; omega
    have e4 : IntKind.i64.wrap (j : Int) = (j : Int) := by rw [IntKind.wrap_i64]; omega
    have hO : Hid (Calls Tryd.prog 13 #[.int .u64 1] w1.drew (OutN 1 w1.drew)) := bOf w1.drew 1 (by omega)
    clear hk hkI hj
    go_wp2_with fail
    go_region_with (first
      | (go_at_call 13; (with_reducible refine (hO.out).mono ?_); rintro e w2 ⟨X, q, d, rfl, h2, _, b2⟩; have hq2 := natIs_len6 h2 (K := 1) (by omega); have HSh := bShl h2.in_ (j : Int) (by omega); rw [shlS_nat _ j (by omega), Nat.mul_one] at HSh; replace HSh := Lib.hid HSh)
      | (go_at_call 12; (with_reducible refine (HSh.out).mono ?_); rintro e w3 ⟨Y, r, f, rfl, h3, _, b3⟩))
    go_wp2_with fail
    go_ret
    exact ⟨Y, r, f, _, rfl, h3, HA.out, by omega, below_step b1 (((Drawn.more 1).below _).trans (below_step b2 b3))⟩
  · have hk2 : 2 * k < n := by omega
    have hc2 : ¬ c = 2 * k := by obtain ⟨l, _, _, _, _, _, h6⟩ := h; omega
    obtain ⟨r, hr⟩ := root_some 2 (M / 18446744073709551616 ^ (2 * k)) (by omega)
    have ihs := fun u b => ih _ _ _ _ _ u ((natIn_drop h hk2).step b) (by omega) (by omega) hr
    have HA := Lib.hid (above_great (B := 18446744073709551616) (by omega) hr)
    have hrb := hr.bits (by omega)
    rw [pow_64_2, nbits_down_eq _ _ (by omega)] at hrb
    have HI := Lib.hid ihs
    have hmk := fun u => make_row k u (by omega)
    obtain ⟨i0, hi, hz0, hz1, hz2⟩ := info_parts num_info_u64
    clear h hr ihs ih
    go_enter Tryd.func51, Tryd.ntmps51
    go_wp2_with fail
    refine (B.out).mono ?_
    rintro e w1 ⟨rfl, b1⟩
    go_wp2_with fail
    refine (HI.out w1 b1).mono ?_
    rintro e w2 ⟨X, q, d, rfl, h2, _, b2⟩
    have B2 := below_step b1 b2
    have H2 := Lib.hid h2
    clear h2 HI
    go_wp2_with fail
    refine (bOf w2 1 (by omega)).mono ?_
    rintro e w3 ⟨Y, s, f, rfl, h3, _, b3⟩
    have B3 := below_step B2 b3
    have hq := natIs_len6 H2.out (K := n) (by omega)
    have hs1 := natIs_len6 h3 (K := 1) (by have := nbits_of_lt 1 1 (by omega); omega)
    have HS := Lib.hid (bAdd (H2.out.step b3).in_ h3.in_ (by omega))
    have hab := nbits_add r 1
    have h11 := nbits_of_lt 1 1 (by omega)
    clear h3
    go_wp2_with fail
    refine (HS.out).mono ?_
    rintro e w4 ⟨Z, t, g, rfl, h4, _, b4⟩
    have B4 := below_step B3 b4
    have ht := natIs_len6 h4 (K := n + 1) (by omega)
    have hown := row_zero w4 k (by omega)
    obtain ⟨hz, _, hR, htg⟩ := h4
    have HR := Lib.hid hR
    have Hz := Lib.hid hz
    clear HS hR hz
    go_wp2_with (at_builtin; refine wpList_append_rd _ rfl (.tmp 37) (.tmp 38) _ rfl w4.heap.size 22 i0 _ 8 Tryd.underlying28 hi hz0 hz1 hz2 rfl (.slice (some ⟨w4.heap.size, 0, none⟩) k k) k (ints .u64 (words k 0)) rfl ?c1 .u64 w4.heap.size Z t g (wd (r + 1)) rfl ?c2 ?c3 ?c4 ?c5 ?c6 ?_)
    case c1 => exact hown
    case c2 => exact Hz.out
    case c3 => exact HR.out.below ((Below.refl _ _).alloc (Nat.le_refl _) _)
    case c4 => unfold maxLen; omega
    case c5 => omega
    case c6 => simp
    intro v1 w5 own1 hg1
    have b5 : Below w4.heap.size w4 w5 := ((Below.refl _ _).alloc (Nat.le_refl _) _).grown hg1 (by simp) (by simp [Value.ownBlock])
    have B5 := below_step B4 b5
    rw [← ints_append, words_none, ← wd_up k (r + 1) (by omega)] at own1
    obtain ⟨X1, d1, rfl, hd1, _⟩ := own_form own1
    have hx : nbits ((r + 1) * 18446744073709551616 ^ k) = nbits (r + 1) + 64 * k := by
      rw [Nat.mul_comm, pow_64_2, nbits_up_eq _ _ (by omega)]
    have hl : (wd ((r + 1) * 18446744073709551616 ^ k)).length = k + t := by rw [wd_up k _ (by omega), List.length_append, List.length_replicate, Hz.out]
    have HO := Lib.hid own1
    have Hl := Lib.hid hl
    clear own1 hown hg1 hl
    go_wp2_with fail
    go_ret
    have hsb : nbits (r + 1) ≤ 64 * t := by have := Hz.out; rw [length_wd] at this; omega
    exact ⟨X1, _, d1, _, rfl, ⟨Hl.out, by omega, Rd.own HO.out, hd1⟩, HA.out, by omega, B5⟩
theorem sqrt_next (N : Nat) (ih : RootTo2 N) : RootTo2 (N + 1) := by
  intro A n c M R w h hn hs hR
  have bx := Boxed.new w 28 (.slice A n c)
  obtain ⟨E, hE⟩ : ∃ E, w.alloc (.cells #[.slice A n c] 28) = E := ⟨_, rfl⟩
  have hb : Below w.heap.size w E := by rw [← hE]; exact (Below.refl _ w).alloc (Nat.le_refl _) _
  rw [hE] at bx
  have HB := Lib.hid bx
  have hc := bx.cell
  have hf := bx.frozen
  have HA := Lib.hid (above2_any N ih A n c M E (h.step hb) (by omega) hs)
  have H := Lib.hid (h.step hb)
  have HR := Lib.hid hR
  clear h ih hR bx
  go_enter Tryd.func23, Tryd.ntmps23
  go_wp2_with fail
  refine (HA.out).mono ?_
  rintro e w1 ⟨X, q, d, x, rfl, h1, hx, hxb, b1⟩
  have hRx := root_lt_above HR.out hx
  have HD := Lib.hid (descend2_any w.heap.size (n + 1) R (st2 M) (down_two HR.out) X q d x w1 h1 (by omega) (by omega) (fun u Y r f y hu hy hr => step2_any (box_kept (box_kept HB.out b1) hu) ((H.out.step b1).step hu) (by omega) hy.in_ (by omega)))
  clear h1 hx HA
  go_wp2_with fail
  refine (HD.out).mono ?_
  rintro e w2 ⟨Y, r, f, rfl, h2, _, b2⟩
  go_wp2_with fail
  go_ret
  exact ⟨Y, r, f, rfl, h2, trivial, (hb.trans (b1.mono hb.size)).trans (b2.mono (by have := b1.size; have := hb.size; omega))⟩
theorem sqrt_all (N : Nat) : RootTo2 N := by
  induction N with
  | zero => intro A n c M R w _ h; omega
  | succ N ih => exact sqrt_next N ih
theorem above3_any (N : Nat) (ih : RootTo3 N) (A : Option Addr) (n c M : Nat) (w : World) (h : NatIn w A n c M) (hn : n ≤ N) (hs : n ≤ 4000) :
    Calls Tryd.prog 51 #[.slice A n c, .int .i64 3, .func (.func 24) #[] #[]] w (OutAbove 3 M n w) := by
  have B := Lib.hid (bBits h)
  have hnb := h.bits
  obtain ⟨k, hk⟩ : ∃ k, nbits M / 384 = k := ⟨_, rfl⟩
  have hkI : (nbits M : Int) / 384 = (k : Int) := by omega
  by_cases h0 : k = 0
  · subst h0
    have HA := Lib.hid (above_small (p := 3) (N := M) (by omega))
    clear h
    go_enter Tryd.func51, Tryd.ntmps51
    go_wp2_with fail
    refine (B.out).mono ?_
    rintro e w1 ⟨rfl, b1⟩
    obtain ⟨j, hj⟩ : ∃ j, (nbits M + 3 - 1) / 3 = j := ⟨_, rfl⟩
    rw [hj] at HA
    have hjl : j ≤ nbits M + 1 := by omega
    have hj2 : j ≤ 200 := by omega
    have hx := nbits_shl 1 j
    rw [Nat.mul_one] at hx
    have h11 := nbits_of_lt 1 1 (by omega)
    have hN2 : nbits M < 384 := by omega
    have e1 : IntKind.i64.wrap ((nbits M : Int) + 3) = (nbits M : Int) + 3 := by rw [IntKind.wrap_i64]; omega
    have e2 : IntKind.i64.wrap ((nbits M : Int) + 3 - 1) = (nbits M : Int) + 2 := by rw [IntKind.wrap_i64]; omega
    have e3 : ((nbits M : Int) + 2).tdiv 3 = (j : Int) := by rw [Int.tdiv_eq_ediv_of_nonneg (by omega)]; omega
    have e4 : IntKind.i64.wrap (j : Int) = (j : Int) := by rw [IntKind.wrap_i64]; omega
    have hO : Hid (Calls Tryd.prog 13 #[.int .u64 1] w1.drew (OutN 1 w1.drew)) := bOf w1.drew 1 (by omega)
    clear hk hkI hj
    go_wp2_with fail
    go_region_with (first
      | (go_at_call 13; (with_reducible refine (hO.out).mono ?_); rintro e w2 ⟨X, q, d, rfl, h2, _, b2⟩; have hq2 := natIs_len6 h2 (K := 1) (by omega); have HSh := bShl h2.in_ (j : Int) (by omega); rw [shlS_nat _ j (by omega), Nat.mul_one] at HSh; replace HSh := Lib.hid HSh)
      | (go_at_call 12; (with_reducible refine (HSh.out).mono ?_); rintro e w3 ⟨Y, r, f, rfl, h3, _, b3⟩))
    go_wp2_with fail
    go_ret
    exact ⟨Y, r, f, _, rfl, h3, HA.out, by omega, below_step b1 (((Drawn.more 1).below _).trans (below_step b2 b3))⟩
  · have hk2 : 3 * k < n := by omega
    have hc2 : ¬ c = 3 * k := by obtain ⟨l, _, _, _, _, _, h6⟩ := h; omega
    obtain ⟨r, hr⟩ := root_some 3 (M / 18446744073709551616 ^ (3 * k)) (by omega)
    have ihs := fun u b => ih _ _ _ _ _ u ((natIn_drop h hk2).step b) (by omega) (by omega) hr
    have HA := Lib.hid (above_great (B := 18446744073709551616) (by omega) hr)
    have hrb := hr.bits (by omega)
    rw [pow_64_2, nbits_down_eq _ _ (by omega)] at hrb
    have HI := Lib.hid ihs
    have hmk := fun u => make_row k u (by omega)
    obtain ⟨i0, hi, hz0, hz1, hz2⟩ := info_parts num_info_u64
    clear h hr ihs ih
    go_enter Tryd.func51, Tryd.ntmps51
    go_wp2_with fail
    refine (B.out).mono ?_
    rintro e w1 ⟨rfl, b1⟩
    go_wp2_with fail
    refine (HI.out w1 b1).mono ?_
    rintro e w2 ⟨X, q, d, rfl, h2, _, b2⟩
    have B2 := below_step b1 b2
    have H2 := Lib.hid h2
    clear h2 HI
    go_wp2_with fail
    refine (bOf w2 1 (by omega)).mono ?_
    rintro e w3 ⟨Y, s, f, rfl, h3, _, b3⟩
    have B3 := below_step B2 b3
    have hq := natIs_len6 H2.out (K := n) (by omega)
    have hs1 := natIs_len6 h3 (K := 1) (by have := nbits_of_lt 1 1 (by omega); omega)
    have HS := Lib.hid (bAdd (H2.out.step b3).in_ h3.in_ (by omega))
    have hab := nbits_add r 1
    have h11 := nbits_of_lt 1 1 (by omega)
    clear h3
    go_wp2_with fail
    refine (HS.out).mono ?_
    rintro e w4 ⟨Z, t, g, rfl, h4, _, b4⟩
    have B4 := below_step B3 b4
    have ht := natIs_len6 h4 (K := n + 1) (by omega)
    have hown := row_zero w4 k (by omega)
    obtain ⟨hz, _, hR, htg⟩ := h4
    have HR := Lib.hid hR
    have Hz := Lib.hid hz
    clear HS hR hz
    go_wp2_with (at_builtin; refine wpList_append_rd _ rfl (.tmp 37) (.tmp 38) _ rfl w4.heap.size 22 i0 _ 8 Tryd.underlying28 hi hz0 hz1 hz2 rfl (.slice (some ⟨w4.heap.size, 0, none⟩) k k) k (ints .u64 (words k 0)) rfl ?c1 .u64 w4.heap.size Z t g (wd (r + 1)) rfl ?c2 ?c3 ?c4 ?c5 ?c6 ?_)
    case c1 => exact hown
    case c2 => exact Hz.out
    case c3 => exact HR.out.below ((Below.refl _ _).alloc (Nat.le_refl _) _)
    case c4 => unfold maxLen; omega
    case c5 => omega
    case c6 => simp
    intro v1 w5 own1 hg1
    have b5 : Below w4.heap.size w4 w5 := ((Below.refl _ _).alloc (Nat.le_refl _) _).grown hg1 (by simp) (by simp [Value.ownBlock])
    have B5 := below_step B4 b5
    rw [← ints_append, words_none, ← wd_up k (r + 1) (by omega)] at own1
    obtain ⟨X1, d1, rfl, hd1, _⟩ := own_form own1
    have hx : nbits ((r + 1) * 18446744073709551616 ^ k) = nbits (r + 1) + 64 * k := by
      rw [Nat.mul_comm, pow_64_2, nbits_up_eq _ _ (by omega)]
    have hl : (wd ((r + 1) * 18446744073709551616 ^ k)).length = k + t := by rw [wd_up k _ (by omega), List.length_append, List.length_replicate, Hz.out]
    have HO := Lib.hid own1
    have Hl := Lib.hid hl
    clear own1 hown hg1 hl
    go_wp2_with fail
    go_ret
    have hsb : nbits (r + 1) ≤ 64 * t := by have := Hz.out; rw [length_wd] at this; omega
    exact ⟨X1, _, d1, _, rfl, ⟨Hl.out, by omega, Rd.own HO.out, hd1⟩, HA.out, by omega, B5⟩
theorem cbrt_next (N : Nat) (ih : RootTo3 N) : RootTo3 (N + 1) := by
  intro A n c M R w h hn hs hR
  have bx := Boxed.new w 28 (.slice A n c)
  obtain ⟨E, hE⟩ : ∃ E, w.alloc (.cells #[.slice A n c] 28) = E := ⟨_, rfl⟩
  have hb : Below w.heap.size w E := by rw [← hE]; exact (Below.refl _ w).alloc (Nat.le_refl _) _
  rw [hE] at bx
  have HB := Lib.hid bx
  have hc := bx.cell
  have hf := bx.frozen
  have HA := Lib.hid (above3_any N ih A n c M E (h.step hb) (by omega) hs)
  have H := Lib.hid (h.step hb)
  have HR := Lib.hid hR
  clear h ih hR bx
  go_enter Tryd.func24, Tryd.ntmps24
  go_wp2_with fail
  refine (HA.out).mono ?_
  rintro e w1 ⟨X, q, d, x, rfl, h1, hx, hxb, b1⟩
  have hRx := root_lt_above HR.out hx
  have HD := Lib.hid (descend3_any w.heap.size (n + 1) R (st3 M) (down_three HR.out) X q d x w1 h1 (by omega) (by omega) (fun u Y r f y hu hy hr => step3_any (box_kept (box_kept HB.out b1) hu) ((H.out.step b1).step hu) (by omega) hy (by omega)))
  clear h1 hx HA
  go_wp2_with fail
  refine (HD.out).mono ?_
  rintro e w2 ⟨Y, r, f, rfl, h2, _, b2⟩
  go_wp2_with fail
  go_ret
  exact ⟨Y, r, f, rfl, h2, trivial, (hb.trans (b1.mono hb.size)).trans (b2.mono (by have := b1.size; have := hb.size; omega))⟩
theorem cbrt_all (N : Nat) : RootTo3 N := by
  induction N with
  | zero => intro A n c M R w _ h; omega
  | succ N ih => exact cbrt_next N ih
end
section
variable {w : World} {A : Option Addr} {n c M R : Nat}
theorem sqrt_pf (h : NatIn w A n c M) (hR : IsRoot 2 M R) (hs : n ≤ 4000) : Calls Tryd.prog 23 #[.slice A n c] w (OutI R w) := sqrt_all (n + 1) A n c M R w h (Nat.lt_succ_self _) hs hR
theorem cbrt_pf (h : NatIn w A n c M) (hR : IsRoot 3 M R) (hs : n ≤ 4000) : Calls Tryd.prog 24 #[.slice A n c] w (OutI R w) := cbrt_all (n + 1) A n c M R w h (Nat.lt_succ_self _) hs hR
end
end Go.Proofs.YtjeliomjnalpcaaDoor

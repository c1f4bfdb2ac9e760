/- OctetBack's walk: what was put is taken, whatever stands ahead and behind; what is taken is put as it stood: the law answers true, and writes nothing that was there. No condition but what the arguments' types give. -/
import Derived.Test.YticgcjfgonejpaaBackM
import Derived.StillTailTactics
namespace Go.Proofs.Yticgcjfgonejpaa
open Go.RowKit

theorem pow_wrap (k : Nat) (h : k < 8) : IntKind.u64.wrap (2 ^ (8 * k)) = ((256 ^ k : Nat) : Int) := by
  rw [IntKind.wrap_u64]
  have e : ((2 : Int) ^ (8 * k)) = ((256 ^ k : Nat) : Int) := by rw [pow_256]; simp
  have h1 : 256 ^ k ≤ 256 ^ 7 := Nat.pow_le_pow_right (by omega) (by omega)
  rw [e]
  generalize 256 ^ k = y at *
  omega

/-- PutNat behind a head whose length is known by another name. -/
theorem putNat_at (A A5 : Option Addr) (m c c5 : Nat) (l a : List Nat) (w : World) (hr : Rd .u8 w w.heap.size A l) (hm : l.length = m) (hl : m ≤ 1000000) (ha : Rd .u64 w w.heap.size A5 a) (hw : Words a) (hal : a.length ≤ 60) :
    Calls Try.prog 9 #[.slice A m c, .slice A5 a.length c5] w fun e w' =>
      ∃ X d, e = .returned (.tuple #[.slice X (m + (2 + blen (natOf a))) d, .int .i64 0]) ∧ Rd .u8 w' w'.heap.size X (l ++ long (natOf a)) ∧ Below w.heap.size w w' := by
  subst hm
  have hb := blen_natOf a hw
  refine Calls.mono (putNat_yes A A5 c c5 l a w hr (by omega) ha hw (by omega) (by omega)) fun e w' ⟨v, he, ho, hbl⟩ => ?_
  obtain ⟨X, d, rfl, _⟩ := own_form ho
  exact ⟨X, d, by rw [he, List.length_append, length_long], Rd.own ho, hbl⟩

/-- Take at a number that was put. -/
theorem take_at (X : Option Addr) (c m : Nat) (l0 : List Nat) (k n : Nat) (rest : List Nat) (w : World) (hr : Rd .u8 w w.heap.size X (l0 ++ (be k n ++ rest))) (hm : (l0 ++ (be k n ++ rest)).length = m) (hby : Bytes (l0 ++ (be k n ++ rest))) (hl : m ≤ 1000000) (h1 : 1 ≤ k) (h8 : k ≤ 8) (low : Nat) (hlow : n % 256 ^ k = low) :
    Calls Try.prog 16 #[.slice X m c, .int .i64 l0.length, .int .i64 k] w fun e w' => e = .returned (.tuple #[.int .u64 low, .int .i64 (l0.length + k : Nat), .int .i64 0]) ∧ Below w.heap.size w w' := by
  subst hm
  have hfit : l0.length + k ≤ (l0 ++ (be k n ++ rest)).length := by simp [length_be]
  refine Calls.mono (take_in X c _ l0.length k w hr hby (by omega) h1 h8 (by omega)) fun e w' h => ⟨?_, h.2.2⟩
  rw [h.1 hfit, val_put, hlow]

/-- TakeNat at a long number that was put. -/
theorem takeNat_at (X : Option Addr) (c m : Nat) (one : List Nat) (i : Int) (N : Nat) (tail : List Nat) (most : Int) (w : World) (hr : Rd .u8 w w.heap.size X (one ++ (long N ++ tail))) (hm : (one ++ (long N ++ tail)).length = m) (hby : Bytes (one ++ (long N ++ tail))) (hl : m ≤ 1000000)
    (hi : i = (one.length : Int)) (hN : blen N < 65536) (hmost : (blen N : Int) ≤ most) :
    Calls Try.prog 13 #[.slice X m c, .int .i64 i, .int .i64 most] w fun e w' =>
      ∃ A d, e = .returned (.tuple #[.slice A ((blen N + 7) / 8) d, .int .i64 (one.length + 2 + blen N : Nat), .int .i64 0]) ∧ Rd .u64 w' w'.heap.size A (words ((blen N + 7) / 8) N) ∧ Below w.heap.size w w' := by
  subst hm
  subst hi
  have h := takeNat_all X c _ (one.length : Int) most w hr hby (by omega)
  rw [take_long one N tail most hN hmost] at h
  exact Calls.mono h fun e w' ⟨A, d, he, hR, hb⟩ => ⟨A, d, by rw [he]; simp only [length_words], hR, hb⟩

/-- Same of the words that were taken and those that were put, trimmed. -/
theorem same_at (X A5 : Option Addr) (d c5 : Nat) (a : List Nat) (w : World) (B : Nat) (h1 : Rd .u64 w B X (words ((blen (natOf a) + 7) / 8) (natOf a))) (h2 : Rd .u64 w B A5 a) (hw : Words a) (hl : a.length ≤ 60) :
    Calls Try.prog 12 #[.slice X ((blen (natOf a) + 7) / 8) d, .slice A5 ((blen (natOf a) + 7) / 8) c5] w fun e w' => e = .returned (.bool true) ∧ Drawn w w' := by
  have hb := blen_natOf a hw
  have h2' := h2.take ((blen (natOf a) + 7) / 8)
  rw [← words_trim a hw] at h2'
  have h := same_any X A5 d c5 _ _ w B h1 h2' (by rw [length_words]; omega) (by rw [length_words]; omega)
  rw [length_words] at h
  exact Calls.mono h fun e w' ⟨he, hd⟩ => ⟨by rw [he]; simp, hd⟩

/-- TakeNat of any bytes from their beginning on: nothing stands there. -/
theorem takeNat_raw_no (A : Option Addr) (c : Nat) (l : List Nat) (w : World) (hr : Rd .u8 w w.heap.size A l) (hby : Bytes l) (hl : l.length ≤ 1000000) (h : takeNatS l 0 70000 = ([], 0, 3)) :
    Calls Try.prog 13 #[.slice A l.length c, .int .i64 0, .int .i64 70000] w fun e w' => ∃ X d, e = .returned (.tuple #[.slice X 0 d, .int .i64 0, .int .i64 3]) ∧ Below w.heap.size w w' := by
  have h' := takeNat_all A c l 0 70000 w hr hby (by omega)
  rw [h] at h'
  exact Calls.mono h' fun e w' ⟨X, d, he, _, hb⟩ => ⟨X, d, he, hb⟩
theorem takeNat_raw_yes (A : Option Addr) (c : Nat) (l : List Nat) (w : World) (hr : Rd .u8 w w.heap.size A l) (hby : Bytes l) (hl : l.length ≤ 1000000) (z : List Nat) (q : Nat) (h : takeNatS l 0 70000 = (z, (q : Int), 0)) :
    Calls Try.prog 13 #[.slice A l.length c, .int .i64 0, .int .i64 70000] w fun e w' => ∃ X d, e = .returned (.tuple #[.slice X z.length d, .int .i64 q, .int .i64 0]) ∧ Rd .u64 w' w'.heap.size X z ∧ Below w.heap.size w w' := by
  have h' := takeNat_all A c l 0 70000 w hr hby (by omega)
  rw [h] at h'
  exact Calls.mono h' fun e w' ⟨X, d, he, hR, hb⟩ => ⟨X, d, he, hR, hb⟩
/-- PutNat of the words that were taken. -/
theorem putNat_raw (X : Option Addr) (d : Nat) (z raw : List Nat) (w : World) (hr : Rd .u64 w w.heap.size X z) (hw : Words z) (hl : z.length ≤ 100000) (q : Nat) (hb : blen (natOf z) < 65536) (hlong : long (natOf z) = raw.take q) (hq : q ≤ raw.length) :
    Calls Try.prog 9 #[.slice none 0 0, .slice X z.length d] w fun e w' => ∃ Y f, e = .returned (.tuple #[.slice Y q f, .int .i64 0]) ∧ Rd .u8 w' w'.heap.size Y (raw.take q) ∧ Below w.heap.size w w' := by
  refine Calls.mono (putNat_yes none X 0 d [] z w Rd.nil (by decide) hr hw (by omega) (by omega)) fun e w' ⟨v, he, ho, hbl⟩ => ?_
  rw [List.nil_append, hlong] at ho
  obtain ⟨Y, f, rfl, _⟩ := own_form ho
  have hlen : (raw.take q).length = q := by simp; omega
  rw [hlen] at he ho
  exact ⟨Y, f, he, Rd.own (by rw [← hlen] at ho; rw [hlen] at ho; exact ho), hbl⟩

set_option maxHeartbeats 1000000 in
set_option maxRecDepth 100000 in
theorem octetBack_walk (A0 : Option Addr) (c0 : Nat) (l0 : List Nat) (A1 : Option Addr) (c1 : Nat) (l1 : List Nat) (A2 : Option Addr) (c2 : Nat) (l2 : List Nat) (a3 a4 : Int) (A5 : Option Addr) (c5 : Nat) (l5 : List Nat) (w : World)
    (r0 : Rd .u8 w w.heap.size A0 l0) (y0 : Bytes l0) (z0 : l0.length * 1 ≤ 140737488351232) (_u0 : l0.length ≤ c0) (r1 : Rd .u8 w w.heap.size A1 l1) (y1 : Bytes l1) (z1 : l1.length * 1 ≤ 140737488351232) (_u1 : l1.length ≤ c1)
    (r2 : Rd .u8 w w.heap.size A2 l2) (y2 : Bytes l2) (z2 : l2.length * 1 ≤ 140737488351232) (u2 : l2.length ≤ c2) (w3 : (Lit.int .u64 a3).wf = true) (w4 : (Lit.int .u8 a4).wf = true)
    (r5 : Rd .u64 w w.heap.size A5 l5) (y5 : Words l5) (z5 : l5.length * 8 ≤ 140737488351232) (u5 : l5.length ≤ c5) :
    Calls Try.prog 4 #[.slice A0 l0.length c0, .slice A1 l1.length c1, .slice A2 l2.length c2, .int .u64 a3, .int .u8 a4, .slice A5 l5.length c5] w fun e w' => e = .returned (.bool true) ∧ Below w.heap.size w w' := by
  have hx3 : 0 ≤ a3 ∧ a3 ≤ 18446744073709551615 := by simpa [Lit.wf, IntKind.min, IntKind.max, IntKind.signed, IntKind.bits] using w3
  have hx4 : 0 ≤ a4 ∧ a4 ≤ 255 := by simpa [Lit.wf, IntKind.min, IntKind.max, IntKind.signed, IntKind.bits] using w4
  obtain ⟨n, rfl⟩ := Int.eq_ofNat_of_zero_le hx3.1
  obtain ⟨sz, rfl⟩ := Int.eq_ofNat_of_zero_le hx4.1
  obtain ⟨_, n2⟩ := hx3
  obtain ⟨_, s2⟩ := hx4
  clear w3 w4
  by_cases h0 : 4096 < l0.length + l1.length + l2.length
  · go_enter Try.func4, Try.ntmps4
    go_wp2_with fail
    refine (works_any _).mono ?_
    rintro e w1 ⟨rfl, b1⟩
    go_wp2_with fail
    go_ret
    exact ⟨rfl, b1⟩
  · by_cases h1 : 60 < l5.length
    · go_enter Try.func4, Try.ntmps4
      go_wp2_with fail
      refine (works_any _).mono ?_
      rintro e w1 ⟨rfl, b1⟩
      go_wp2_with fail
      go_ret
      exact ⟨rfl, b1⟩
    · obtain ⟨k, hk⟩ : ∃ k : Nat, k = 1 + sz % 8 := ⟨_, rfl⟩
      have hki : 1 + (sz : Int) % 8 = (k : Int) := by omega
      have hk1 : 1 ≤ k := by omega
      have hk8 : k ≤ 8 := by omega
      clear hk
      by_cases h7 : k = 8
      · have Hlow : n % 256 ^ k = n := by rw [h7]; exact Nat.mod_eq_of_lt (by omega)
        have HL := Lib.hid Hlow
        have hnk : ¬ (k : Int) < 8 := by omega
        clear Hlow h7
        have n5 := blen_natOf l5 y5
        obtain ⟨i0, hi, hz0, hz1, hz2⟩ := info_parts info_u8
        go_enter Try.func4, Try.ntmps4
        go_wp2_with fail
        refine (put_any A0 c0 l0 n k w r0 (by omega) (by omega) (by omega) (by omega)).mono ?_
        rintro e w1 ⟨v1, rfl, own1, b1⟩
        obtain ⟨X1, d1, rfl, _⟩ := own_form own1
        have R1 := Rd.own own1
        clear own1
        go_wp2_with fail
        refine (putNat_at X1 A5 (l0.length + k) d1 c5 _ l5 w1 R1 (by simp [length_be]) (by omega) ((r5.below b1).more b1.size) y5 (by omega)).mono ?_
        rintro e w2 ⟨X2, d2, rfl, R2, b2⟩
        have b02 := b1.trans (b2.mono b1.size)
        have hlen2 : (l0 ++ be k n ++ long (natOf l5)).length = l0.length + k + (2 + blen (natOf l5)) := by simp [length_be, length_long]; omega
        have Hlen2 := Lib.hid hlen2
        clear hlen2
        go_wp2_with (at_builtin; refine wpList_append_rd _ rfl (.tmp 68) (.tmp 69) _ rfl w2.heap.size 5 i0 _ 1 Try.underlying22 hi hz0 hz1 hz2 rfl (.slice (some ⟨w2.heap.size, 0, none⟩) 0 0) 0 [] rfl ?c1 .u8 w2.heap.size X2 (l0.length + k + (2 + blen (natOf l5))) d2 (l0 ++ be k n ++ long (natOf l5)) rfl Hlen2.out ?c2 ?c3 ?c4 ?c5 ?_)
        case c1 => exact own_of_heap (cur := []) (heap_alloc_new w2 (.cells #[] 5)) (Nat.le_refl _) (Nat.le_refl _) (Nat.zero_le _) rfl rfl
        case c2 => exact R2.below ((Below.refl _ _).alloc (Nat.le_refl _) _)
        case c3 => unfold maxLen; omega
        case c4 => omega
        case c5 => simp
        intro v3 w3 own3 hg3
        have b3 : Below w2.heap.size w2 w3 := ((Below.refl _ _).alloc (Nat.le_refl _) _).grown hg3 (by simp) (by simp [Value.ownBlock])
        have b03 := b02.trans (b3.mono b02.size)
        have own3' : w3.ownsRow w2.heap.size 5 1 v3 (l0.length + k + (2 + blen (natOf l5))) (ints .u8 (l0 ++ be k n ++ long (natOf l5))) := by simpa [Nat.zero_add] using own3
        have Ho3 := Lib.hid own3'
        clear own3 own3' hg3
        go_wp2_with (at_builtin; refine wpList_append_rd _ rfl (.tmp 70) (.tmp 71) _ rfl w2.heap.size 5 i0 _ 1 Try.underlying22 hi hz0 hz1 hz2 rfl v3 (l0.length + k + (2 + blen (natOf l5))) _ rfl Ho3.out .u8 w.heap.size A1 l1.length c1 l1 rfl rfl (r1.below b03) ?e3 ?e4 ?e5 ?_)
        case e3 => unfold maxLen; omega
        case e4 => omega
        case e5 => exact b3.size
        intro v4 w4 own4 hg4
        have b4 : Below w2.heap.size w3 w4 := below_of_grown _ Ho3.out hg4 b3.size
        have b04 := b03.trans (b4.mono b02.size)
        rw [← ints_append] at own4
        obtain ⟨X4, d4, rfl, _⟩ := own_form own4
        have R4 := Rd.own own4
        rw [show l0 ++ (be k n ++ long (natOf l5)) ++ l1 = l0 ++ be k n ++ long (natOf l5) ++ l1 by simp] at R4
        have eL1 : l0 ++ be k n ++ long (natOf l5) ++ l1 = l0 ++ (be k n ++ (long (natOf l5) ++ l1)) := by simp
        have eL2 : l0 ++ be k n ++ long (natOf l5) ++ l1 = (l0 ++ be k n) ++ (long (natOf l5) ++ l1) := by simp
        have hB : Bytes (l0 ++ be k n ++ long (natOf l5) ++ l1) := fun x hx => by
          simp only [List.mem_append] at hx
          rcases hx with ((h | h) | h) | h
          · exact y0 x h
          · exact be_bytes k n x h
          · exact long_bytes _ x h
          · exact y1 x h
        have hLen : (l0 ++ be k n ++ long (natOf l5) ++ l1).length = l0.length + k + (2 + blen (natOf l5)) + l1.length := by rw [List.length_append, Hlen2.out]
        have T1 := fun (u : World) (h : Rd .u8 u u.heap.size X4 (l0 ++ be k n ++ long (natOf l5) ++ l1)) => take_at X4 d4 (l0.length + k + (2 + blen (natOf l5)) + l1.length) l0 k n (long (natOf l5) ++ l1) u (by rw [← eL1]; exact h) (by rw [← eL1]; exact hLen) (by rw [← eL1]; exact hB) (by omega) (by omega) (by omega) n HL.out
        have T2 := fun (u : World) (i : Int) (hi : i = ((l0 ++ be k n).length : Int)) (most : Int) (hm : (blen (natOf l5) : Int) ≤ most) (h : Rd .u8 u u.heap.size X4 (l0 ++ be k n ++ long (natOf l5) ++ l1)) => takeNat_at X4 d4 (l0.length + k + (2 + blen (natOf l5)) + l1.length) (l0 ++ be k n) i (natOf l5) l1 most u (by rw [← eL2]; exact h) (by rw [← eL2]; exact hLen) (by rw [← eL2]; exact hB) (by omega) hi (by omega) hm
        have HT1 := Lib.hid T1
        have HT2 := Lib.hid T2
        have hone : (l0 ++ be k n).length = l0.length + k := by simp [length_be]
        have Hone := Lib.hid hone
        clear T1 T2 own4 hg4 Ho3 R2 R1 eL1 eL2 hB hLen Hlen2 hi hz0 hz1 hz2 hone
        go_wp2_with fail
        refine (HT1.out w4 R4).mono ?_
        rintro e w5 ⟨rfl, b5⟩
        have b05 := b04.trans (b5.mono b04.size)
        have R5 := (R4.below b5).more b5.size
        go_wp2_with fail
        refine (HT2.out w5 _ (by rw [Hone.out]; omega) _ (by omega) R5).mono ?_
        rintro e w6 ⟨X6, d6, rfl, R6, b6⟩
        rw [Hone.out]
        have b06 := b05.trans (b6.mono b05.size)
        clear HT1 HT2 R4 R5
        go_wp2_with fail
        refine (trim_any A5 c5 l5 w6 _ (r5.below b06) y5 (by omega) u5).mono ?_
        rintro e w7 ⟨rfl, rfl⟩
        go_wp2_with fail
        refine (same_at X6 A5 d6 c5 l5 w6 w6.heap.size R6 ((r5.below b06).more b06.size) y5 (by omega)).mono ?_
        rintro e w7 ⟨rfl, dr⟩
        have b07 := b06.trans (dr.below _)
        clear dr R6 Hone
        go_wp2_with fail
        rcases take_raw l2 y2 with hraw | ⟨q1, q2, q3, q4, q5⟩
        · refine (takeNat_raw_no A2 c2 l2 w7 ((r2.below b07).more b07.size) y2 (by omega) hraw).mono ?_
          rintro e w8 ⟨X8, d8, rfl, b8⟩
          have b08 := b07.trans (b8.mono b07.size)
          clear hraw
          go_wp2_with fail
          refine (works_any _).mono ?_
          rintro e w9 ⟨rfl, b9⟩
          go_wp2_with fail
          go_ret
          exact ⟨rfl, b08.trans (b9.mono b08.size)⟩
        · have hzw := words_words ((cnt l2 0 + 7) / 8) (val ((l2.drop 2).take (cnt l2 0)))
          have hzl := length_words ((cnt l2 0 + 7) / 8) (val ((l2.drop 2).take (cnt l2 0)))
          generalize words ((cnt l2 0 + 7) / 8) (val ((l2.drop 2).take (cnt l2 0))) = z at *
          obtain ⟨q, hq⟩ : ∃ q, q = 2 + cnt l2 0 := ⟨_, rfl⟩
          rw [← hq] at q1 q3 q4
          have hzl2 : z.length ≤ 100000 := by omega
          have hb5 : blen (natOf z) < 65536 := by omega
          have hq2 : 2 ≤ q := by omega
          clear hzl hq q2 q5
          have Q3 := Lib.hid q3
          have Q4 := Lib.hid q4
          clear q3 q4
          refine (takeNat_raw_yes A2 c2 l2 w7 ((r2.below b07).more b07.size) y2 (by omega) z q Q3.out).mono ?_
          rintro e w8 ⟨X8, d8, rfl, R8, b8⟩
          have b08 := b07.trans (b8.mono b07.size)
          go_wp2_with fail
          refine (putNat_raw X8 d8 z l2 w8 R8 hzw hzl2 q hb5 Q4.out q1).mono ?_
          rintro e w9 ⟨Y9, f9, rfl, R9, b9⟩
          have b09 := b08.trans (b9.mono b08.size)
          have hlt : (l2.take q).length = q := by simp; omega
          have s1 := run_str (P := Try.prog) w9 22 9 5 Try.underlying22 Try.underlying5 Try.underlying9 _ Y9 _ f9 R9
          have s2' := run_str (P := Try.prog) w9 22 9 5 Try.underlying22 Try.underlying5 Try.underlying9 _ A2 _ c2 ((r2.below b09).take q)
          have s1d := run_str (P := Try.prog) w9.drew 22 9 5 Try.underlying22 Try.underlying5 Try.underlying9 _ Y9 _ f9 (show Rd .u8 w9.drew _ Y9 _ from R9)
          have s2d := run_str (P := Try.prog) w9.drew 22 9 5 Try.underlying22 Try.underlying5 Try.underlying9 _ A2 _ c2 (show Rd .u8 w9.drew _ A2 _ from (r2.below b09).take q)
          rw [hlt] at s1 s2' s1d s2d
          have hss := str_same (l2.take q)
          have hqi : (2 : Int) ≤ (q : Int) := by omega
          have hqc : q ≤ c2 := by omega
          clear hlt R8 R9 Q3 Q4 hzw
          go_wp2_with fail
          go_still_tail 22, (by kernel_rfl)
          have b09d := b09.drew
          clear s1 s2' s1d s2d hss
          change wpList _ _ _ _ _ w9.drew
          generalize w9.drew = w10 at *
          go_wp2_with fail
          refine (works_any _).mono ?_
          rintro e w11 ⟨rfl, b11⟩
          go_wp2_with fail
          go_ret
          exact ⟨rfl, b09d.trans (b11.mono b09d.size)⟩
      · obtain ⟨P, hP⟩ : ∃ P : Nat, P = 256 ^ k := ⟨_, rfl⟩
        have hwr : IntKind.u64.wrap (2 ^ (8 * k)) = (P : Int) := by rw [hP]; exact pow_wrap k (by omega)
        have hPp : 0 < P := by rw [hP]; exact Nat.pow_pos (by omega)
        have HL := Lib.hid (show n % 256 ^ k = n % P by rw [hP])
        have hnk : (k : Int) < 8 := by omega
        clear hP h7
        have n5 := blen_natOf l5 y5
        obtain ⟨i0, hi, hz0, hz1, hz2⟩ := info_parts info_u8
        go_enter Try.func4, Try.ntmps4
        go_wp2_with fail
        refine (put_any A0 c0 l0 n k w r0 (by omega) (by omega) (by omega) (by omega)).mono ?_
        rintro e w1 ⟨v1, rfl, own1, b1⟩
        obtain ⟨X1, d1, rfl, _⟩ := own_form own1
        have R1 := Rd.own own1
        clear own1
        go_wp2_with fail
        refine (putNat_at X1 A5 (l0.length + k) d1 c5 _ l5 w1 R1 (by simp [length_be]) (by omega) ((r5.below b1).more b1.size) y5 (by omega)).mono ?_
        rintro e w2 ⟨X2, d2, rfl, R2, b2⟩
        have b02 := b1.trans (b2.mono b1.size)
        have hlen2 : (l0 ++ be k n ++ long (natOf l5)).length = l0.length + k + (2 + blen (natOf l5)) := by simp [length_be, length_long]; omega
        have Hlen2 := Lib.hid hlen2
        clear hlen2
        go_wp2_with (at_builtin; refine wpList_append_rd _ rfl (.tmp 68) (.tmp 69) _ rfl w2.heap.size 5 i0 _ 1 Try.underlying22 hi hz0 hz1 hz2 rfl (.slice (some ⟨w2.heap.size, 0, none⟩) 0 0) 0 [] rfl ?c1 .u8 w2.heap.size X2 (l0.length + k + (2 + blen (natOf l5))) d2 (l0 ++ be k n ++ long (natOf l5)) rfl Hlen2.out ?c2 ?c3 ?c4 ?c5 ?_)
        case c1 => exact own_of_heap (cur := []) (heap_alloc_new w2 (.cells #[] 5)) (Nat.le_refl _) (Nat.le_refl _) (Nat.zero_le _) rfl rfl
        case c2 => exact R2.below ((Below.refl _ _).alloc (Nat.le_refl _) _)
        case c3 => unfold maxLen; omega
        case c4 => omega
        case c5 => simp
        intro v3 w3 own3 hg3
        have b3 : Below w2.heap.size w2 w3 := ((Below.refl _ _).alloc (Nat.le_refl _) _).grown hg3 (by simp) (by simp [Value.ownBlock])
        have b03 := b02.trans (b3.mono b02.size)
        have own3' : w3.ownsRow w2.heap.size 5 1 v3 (l0.length + k + (2 + blen (natOf l5))) (ints .u8 (l0 ++ be k n ++ long (natOf l5))) := by simpa [Nat.zero_add] using own3
        have Ho3 := Lib.hid own3'
        clear own3 own3' hg3
        go_wp2_with (at_builtin; refine wpList_append_rd _ rfl (.tmp 70) (.tmp 71) _ rfl w2.heap.size 5 i0 _ 1 Try.underlying22 hi hz0 hz1 hz2 rfl v3 (l0.length + k + (2 + blen (natOf l5))) _ rfl Ho3.out .u8 w.heap.size A1 l1.length c1 l1 rfl rfl (r1.below b03) ?e3 ?e4 ?e5 ?_)
        case e3 => unfold maxLen; omega
        case e4 => omega
        case e5 => exact b3.size
        intro v4 w4 own4 hg4
        have b4 : Below w2.heap.size w3 w4 := below_of_grown _ Ho3.out hg4 b3.size
        have b04 := b03.trans (b4.mono b02.size)
        rw [← ints_append] at own4
        obtain ⟨X4, d4, rfl, _⟩ := own_form own4
        have R4 := Rd.own own4
        rw [show l0 ++ (be k n ++ long (natOf l5)) ++ l1 = l0 ++ be k n ++ long (natOf l5) ++ l1 by simp] at R4
        have eL1 : l0 ++ be k n ++ long (natOf l5) ++ l1 = l0 ++ (be k n ++ (long (natOf l5) ++ l1)) := by simp
        have eL2 : l0 ++ be k n ++ long (natOf l5) ++ l1 = (l0 ++ be k n) ++ (long (natOf l5) ++ l1) := by simp
        have hB : Bytes (l0 ++ be k n ++ long (natOf l5) ++ l1) := fun x hx => by
          simp only [List.mem_append] at hx
          rcases hx with ((h | h) | h) | h
          · exact y0 x h
          · exact be_bytes k n x h
          · exact long_bytes _ x h
          · exact y1 x h
        have hLen : (l0 ++ be k n ++ long (natOf l5) ++ l1).length = l0.length + k + (2 + blen (natOf l5)) + l1.length := by rw [List.length_append, Hlen2.out]
        have T1 := fun (u : World) (h : Rd .u8 u u.heap.size X4 (l0 ++ be k n ++ long (natOf l5) ++ l1)) => take_at X4 d4 (l0.length + k + (2 + blen (natOf l5)) + l1.length) l0 k n (long (natOf l5) ++ l1) u (by rw [← eL1]; exact h) (by rw [← eL1]; exact hLen) (by rw [← eL1]; exact hB) (by omega) (by omega) (by omega) (n % P) HL.out
        have T2 := fun (u : World) (i : Int) (hi : i = ((l0 ++ be k n).length : Int)) (most : Int) (hm : (blen (natOf l5) : Int) ≤ most) (h : Rd .u8 u u.heap.size X4 (l0 ++ be k n ++ long (natOf l5) ++ l1)) => takeNat_at X4 d4 (l0.length + k + (2 + blen (natOf l5)) + l1.length) (l0 ++ be k n) i (natOf l5) l1 most u (by rw [← eL2]; exact h) (by rw [← eL2]; exact hLen) (by rw [← eL2]; exact hB) (by omega) hi (by omega) hm
        have HT1 := Lib.hid T1
        have HT2 := Lib.hid T2
        have hone : (l0 ++ be k n).length = l0.length + k := by simp [length_be]
        have Hone := Lib.hid hone
        clear T1 T2 own4 hg4 Ho3 R2 R1 eL1 eL2 hB hLen Hlen2 hi hz0 hz1 hz2 hone
        go_wp2_with fail
        refine (HT1.out w4 R4).mono ?_
        rintro e w5 ⟨rfl, b5⟩
        have b05 := b04.trans (b5.mono b04.size)
        have R5 := (R4.below b5).more b5.size
        go_wp2_with fail
        refine (HT2.out w5 _ (by rw [Hone.out]; omega) _ (by omega) R5).mono ?_
        rintro e w6 ⟨X6, d6, rfl, R6, b6⟩
        rw [Hone.out]
        have b06 := b05.trans (b6.mono b05.size)
        clear HT1 HT2 R4 R5
        go_wp2_with fail
        refine (trim_any A5 c5 l5 w6 _ (r5.below b06) y5 (by omega) u5).mono ?_
        rintro e w7 ⟨rfl, rfl⟩
        go_wp2_with fail
        refine (same_at X6 A5 d6 c5 l5 w6 w6.heap.size R6 ((r5.below b06).more b06.size) y5 (by omega)).mono ?_
        rintro e w7 ⟨rfl, dr⟩
        have b07 := b06.trans (dr.below _)
        clear dr R6 Hone
        go_wp2_with fail
        rcases take_raw l2 y2 with hraw | ⟨q1, q2, q3, q4, q5⟩
        · refine (takeNat_raw_no A2 c2 l2 w7 ((r2.below b07).more b07.size) y2 (by omega) hraw).mono ?_
          rintro e w8 ⟨X8, d8, rfl, b8⟩
          have b08 := b07.trans (b8.mono b07.size)
          clear hraw
          go_wp2_with fail
          refine (works_any _).mono ?_
          rintro e w9 ⟨rfl, b9⟩
          go_wp2_with fail
          go_ret
          exact ⟨rfl, b08.trans (b9.mono b08.size)⟩
        · have hzw := words_words ((cnt l2 0 + 7) / 8) (val ((l2.drop 2).take (cnt l2 0)))
          have hzl := length_words ((cnt l2 0 + 7) / 8) (val ((l2.drop 2).take (cnt l2 0)))
          generalize words ((cnt l2 0 + 7) / 8) (val ((l2.drop 2).take (cnt l2 0))) = z at *
          obtain ⟨q, hq⟩ : ∃ q, q = 2 + cnt l2 0 := ⟨_, rfl⟩
          rw [← hq] at q1 q3 q4
          have hzl2 : z.length ≤ 100000 := by omega
          have hb5 : blen (natOf z) < 65536 := by omega
          have hq2 : 2 ≤ q := by omega
          clear hzl hq q2 q5
          have Q3 := Lib.hid q3
          have Q4 := Lib.hid q4
          clear q3 q4
          refine (takeNat_raw_yes A2 c2 l2 w7 ((r2.below b07).more b07.size) y2 (by omega) z q Q3.out).mono ?_
          rintro e w8 ⟨X8, d8, rfl, R8, b8⟩
          have b08 := b07.trans (b8.mono b07.size)
          go_wp2_with fail
          refine (putNat_raw X8 d8 z l2 w8 R8 hzw hzl2 q hb5 Q4.out q1).mono ?_
          rintro e w9 ⟨Y9, f9, rfl, R9, b9⟩
          have b09 := b08.trans (b9.mono b08.size)
          have hlt : (l2.take q).length = q := by simp; omega
          have s1 := run_str (P := Try.prog) w9 22 9 5 Try.underlying22 Try.underlying5 Try.underlying9 _ Y9 _ f9 R9
          have s2' := run_str (P := Try.prog) w9 22 9 5 Try.underlying22 Try.underlying5 Try.underlying9 _ A2 _ c2 ((r2.below b09).take q)
          have s1d := run_str (P := Try.prog) w9.drew 22 9 5 Try.underlying22 Try.underlying5 Try.underlying9 _ Y9 _ f9 (show Rd .u8 w9.drew _ Y9 _ from R9)
          have s2d := run_str (P := Try.prog) w9.drew 22 9 5 Try.underlying22 Try.underlying5 Try.underlying9 _ A2 _ c2 (show Rd .u8 w9.drew _ A2 _ from (r2.below b09).take q)
          rw [hlt] at s1 s2' s1d s2d
          have hss := str_same (l2.take q)
          have hqi : (2 : Int) ≤ (q : Int) := by omega
          have hqc : q ≤ c2 := by omega
          clear hlt R8 R9 Q3 Q4 hzw
          go_wp2_with fail
          go_still_tail 22, (by kernel_rfl)
          have b09d := b09.drew
          clear s1 s2' s1d s2d hss
          change wpList _ _ _ _ _ w9.drew
          generalize w9.drew = w10 at *
          go_wp2_with fail
          refine (works_any _).mono ?_
          rintro e w11 ⟨rfl, b11⟩
          go_wp2_with fail
          go_ret
          exact ⟨rfl, b09d.trans (b11.mono b09d.size)⟩
end Go.Proofs.Yticgcjfgonejpaa

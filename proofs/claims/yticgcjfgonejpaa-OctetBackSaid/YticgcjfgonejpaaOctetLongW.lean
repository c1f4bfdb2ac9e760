/- OctetLong's walk: it answers true, and writes nothing that was there. No condition but what the arguments' types give. -/
import Derived.Test.YticgcjfgonejpaaWorks
import Derived.Test.YticgcjfgonejpaaRef5
namespace Go.Proofs.Yticgcjfgonejpaa
open Go.RowKit

/-- What stands at a place as a long number: its words, the place behind it, the error. -/
def takeNatS (l : List Nat) (i most : Int) : List Nat × Int × Int :=
  if i < 0 ∨ (l.length : Int) < i then ([], 0, 1)
  else if l.length < i.toNat + 2 then ([], 0, 3)
  else if most < (cnt l i.toNat : Int) then ([], 0, 4)
  else if stands l i.toNat = true then (words ((cnt l i.toNat + 7) / 8) (val ((l.drop (i.toNat + 2)).take (cnt l i.toNat))), (i.toNat + 2 + cnt l i.toNat : Nat), 0)
  else ([], 0, 3)

def TakeNatAll (S : List Nat × Int × Int) (w : World) (e : Ending) (w' : World) : Prop :=
  ∃ A c, e = .returned (.tuple #[.slice A S.1.length c, .int .i64 S.2.1, .int .i64 S.2.2]) ∧ Rd .u64 w' w'.heap.size A S.1 ∧ Below w.heap.size w w'
theorem takeNatAll_err {S : List Nat × Int × Int} {w w' : World} {e : Ending} {er : Int} (h : S = ([], 0, er)) (he : e = .returned (.tuple #[.slice none 0 0, .int .i64 0, .int .i64 er])) (hb : Below w.heap.size w w') : TakeNatAll S w e w' := by
  subst h
  exact ⟨none, 0, he, Rd.nil, hb⟩
theorem takeNatAll_ok {l : List Nat} {i : Nat} {S : List Nat × Int × Int} {w w' : World} {e : Ending} {v : Value} (h : S = (words ((cnt l i + 7) / 8) (val ((l.drop (i + 2)).take (cnt l i))), ((i + 2 + cnt l i : Nat) : Int), 0))
    (he : e = .returned (.tuple #[v, .int .i64 (i + 2 + cnt l i : Nat), .int .i64 0])) (ho : w'.ownsRow w.heap.size 35 1 v ((cnt l i + 7) / 8) (ints .u64 (words ((cnt l i + 7) / 8) (val ((l.drop (i + 2)).take (cnt l i))))))
    (hb : Below w.heap.size w w') : TakeNatAll S w e w' := by
  subst h
  obtain ⟨A, c, rfl, _⟩ := own_form ho
  exact ⟨A, c, by rw [he, length_words], Rd.own ho, hb⟩

theorem takeNat_all (A : Option Addr) (c : Nat) (l : List Nat) (i most : Int) (w : World) (hr : Rd .u8 w w.heap.size A l) (hby : Bytes l) (hl : l.length ≤ 1099511627776) :
    Calls Try.prog 13 #[.slice A l.length c, .int .i64 i, .int .i64 most] w (TakeNatAll (takeNatS l i most) w) := by
  by_cases h1 : i < 0 ∨ (l.length : Int) < i
  · exact Calls.mono (takeNat_arg A l.length c i most w h1) fun e w' ⟨he, hw⟩ => takeNatAll_err (by simp only [takeNatS, if_pos h1]) he (by rw [← hw]; exact Below.refl _ _)
  · obtain ⟨n, rfl⟩ := Int.eq_ofNat_of_zero_le (show 0 ≤ i by omega)
    by_cases h2 : l.length < n + 2
    · exact Calls.mono (takeNat_short A c l n most w hr hby hl (by omega) h2) fun e w' ⟨he, hb⟩ => takeNatAll_err (by simp only [takeNatS, if_neg h1, Int.toNat_natCast, if_pos h2]) he hb
    · by_cases h3 : most < (cnt l n : Int)
      · exact Calls.mono (takeNat_many A c l n most w hr hby hl (by omega) h3) fun e w' ⟨he, hb⟩ => takeNatAll_err (by simp only [takeNatS, if_neg h1, Int.toNat_natCast, if_neg h2, if_pos h3]) he hb
      · refine Calls.mono (takeNat_in A c l n most w hr hby hl (by omega) (by omega)) fun e w' ⟨hy, hn, hb⟩ => ?_
        by_cases h4 : stands l n = true
        · obtain ⟨v, he, ho⟩ := hy h4
          exact takeNatAll_ok (by simp only [takeNatS, if_neg h1, Int.toNat_natCast, if_neg h2, if_neg h3, if_pos h4]) he ho hb
        · exact takeNatAll_err (by simp only [takeNatS, if_neg h1, Int.toNat_natCast, if_neg h2, if_neg h3, if_neg h4]) (hn (by simpa using h4)) hb

theorem refTakeNat_all (A : Option Addr) (c : Nat) (l : List Nat) (i most : Int) (w : World) (hr : Rd .u8 w w.heap.size A l) (hby : Bytes l) (hl : l.length ≤ 1099511627776) :
    Calls Try.prog 14 #[.slice A l.length c, .int .i64 i, .int .i64 most] w (TakeNatAll (takeNatS l i most) w) := by
  by_cases h1 : i < 0 ∨ (l.length : Int) < i
  · exact Calls.mono (refTakeNat_arg A l.length c i most w h1) fun e w' ⟨he, hw⟩ => takeNatAll_err (by simp only [takeNatS, if_pos h1]) he (by rw [← hw]; exact Below.refl _ _)
  · obtain ⟨n, rfl⟩ := Int.eq_ofNat_of_zero_le (show 0 ≤ i by omega)
    by_cases h2 : l.length < n + 2
    · exact Calls.mono (refTakeNat_short A c l n most w hr hby hl (by omega) h2) fun e w' ⟨he, hb⟩ => takeNatAll_err (by simp only [takeNatS, if_neg h1, Int.toNat_natCast, if_pos h2]) he hb
    · by_cases h3 : most < (cnt l n : Int)
      · exact Calls.mono (refTakeNat_many A c l n most w hr hby hl (by omega) h3) fun e w' ⟨he, hb⟩ => takeNatAll_err (by simp only [takeNatS, if_neg h1, Int.toNat_natCast, if_neg h2, if_pos h3]) he hb
      · by_cases h4 : stands l n = true
        · exact Calls.mono (refTakeNat_ok A c l n most w hr hby hl (by omega) (by omega) h4) fun e w' ⟨v, he, ho, hb⟩ => takeNatAll_ok (by simp only [takeNatS, if_neg h1, Int.toNat_natCast, if_neg h2, if_neg h3, if_pos h4]) he ho hb
        · exact Calls.mono (refTakeNat_bad A c l n most w hr hby hl (by omega) (by omega) (by simpa using h4)) fun e w' ⟨he, hb⟩ => takeNatAll_err (by simp only [takeNatS, if_neg h1, Int.toNat_natCast, if_neg h2, if_neg h3, if_neg h4]) he hb
theorem takeNatS_short (l : List Nat) (h : Bytes l) (i most : Int) : (takeNatS l i most).1.length ≤ 8192 := by
  have := cnt_lt l h i.toNat
  unfold takeNatS
  split
  · simp
  · split
    · simp
    · split
      · simp
      · split
        · simp only [length_words]; omega
        · simp

set_option maxHeartbeats 1000000 in
theorem octetLong_walk (A0 : Option Addr) (c0 : Nat) (l0 : List Nat) (A1 : Option Addr) (c1 : Nat) (l1 : List Nat) (a2 a3 : Int) (w : World)
    (r0 : Rd .u8 w w.heap.size A0 l0) (y0 : Bytes l0) (_z0 : l0.length * 1 ≤ 140737488351232) (r1 : Rd .u64 w w.heap.size A1 l1) (y1 : Words l1) (_z1 : l1.length * 8 ≤ 140737488351232) (_w2 : (Lit.int .i64 a2).wf = true) (_w3 : (Lit.int .i64 a3).wf = true) :
    Calls Try.prog 3 #[.slice A0 l0.length c0, .slice A1 l1.length c1, .int .i64 a2, .int .i64 a3] w fun e w' => e = .returned (.bool true) ∧ Below w.heap.size w w' := by
  clear _w2 _w3
  by_cases h0 : 4096 < l0.length
  · go_enter Try.func3, Try.ntmps3
    go_wp2_with fail
    refine (works_any _).mono ?_
    rintro e w1 ⟨rfl, b1⟩
    go_wp2_with fail
    go_ret
    exact ⟨rfl, b1⟩
  · by_cases h1 : 60 < l1.length
    · go_enter Try.func3, Try.ntmps3
      go_wp2_with fail
      refine (works_any _).mono ?_
      rintro e w1 ⟨rfl, b1⟩
      go_wp2_with fail
      go_ret
      exact ⟨rfl, b1⟩
    · have n1 := blen_natOf l1 y1
      obtain ⟨i0, hi, hz0, hz1, hz2⟩ := info_parts info_u64
      go_enter Try.func3, Try.ntmps3
      go_wp2_with fail
      refine (roomy_any A0 c0 l0 w r0 (by omega)).mono ?_
      rintro e w1 ⟨rfl, m1, b1⟩
      have r1' := (r1.below b1).more b1.size
      go_wp2_with (at_builtin; refine wpList_append_rd _ rfl (.tmp 32) (.tmp 33) _ rfl w1.heap.size 35 i0 _ 8 Try.underlying24 hi hz0 hz1 hz2 rfl (.slice (some ⟨w1.heap.size, 0, none⟩) 0 0) 0 [] rfl ?c1 .u64 w1.heap.size A1 l1.length c1 l1 rfl rfl ?c2 ?c3 ?c4 ?c5 ?_)
      case c1 => exact own_of_heap (cur := []) (heap_alloc_new w1 (.cells #[] 35)) (Nat.le_refl _) (Nat.le_refl _) (Nat.zero_le _) rfl rfl
      case c2 => exact r1'.below ((Below.refl _ _).alloc (Nat.le_refl _) _)
      case c3 => unfold maxLen; omega
      case c4 => omega
      case c5 => simp
      intro v2 w2 own2 hg2
      have b2 : Below w1.heap.size w1 w2 := ((Below.refl _ _).alloc (Nat.le_refl _) _).grown hg2 (by simp) (by simp [Value.ownBlock])
      obtain ⟨X2, d2, rfl, _⟩ := own_form own2
      have R2 := Rd.own own2
      have m2 := m1.keep b2 m1.lt
      have b02 := b1.trans (b2.mono b1.size)
      have Hm2 := Lib.hid m2
      clear own2 hg2 m1 m2 r1' hi hz0 hz1 hz2
      go_wp2_with fail
      refine (putNat_yes _ X2 _ d2 l0 l1 w2 Hm2.out.rd (by omega) R2 y1 (by omega) (by omega)).mono ?_
      rintro e w3 ⟨v3, rfl, own3, b3⟩
      obtain ⟨X3, d3, rfl, _⟩ := own_form own3
      have R3 := Rd.own own3
      clear own3
      have b03 := b02.trans (b3.mono b02.size)
      go_wp2_with fail
      refine (refPutNat_yes A0 A1 c0 c1 l0 l1 w3 ((r0.below b03).more b03.size) (by omega) ((r1.below b03).more b03.size) y1 (by omega) (by omega)).mono ?_
      rintro e w4 ⟨v4, rfl, own4, b4⟩
      obtain ⟨X4, d4, rfl, _⟩ := own_form own4
      have R4 := Rd.own own4
      clear own4
      have b04 := b03.trans (b4.mono b03.size)
      have b24 := b3.trans (b4.mono b3.size)
      have Hm4 := Lib.hid (Hm2.out.keep b24 Hm2.out.lt)
      go_wp2_with fail
      refine (kept_any A0 c0 w.heap.size l0 w4 ((r0.below b04).more b04.size) Hm4.out (by omega)).mono ?_
      rintro e w5 ⟨rfl, rfl⟩
      have s3 := run_str (P := Try.prog) w4 22 9 5 Try.underlying22 Try.underlying5 Try.underlying9 _ X3 _ d3 (R3.below b4)
      have s4 := run_str (P := Try.prog) w4 22 9 5 Try.underlying22 Try.underlying5 Try.underlying9 _ X4 _ d4 R4
      rw [List.length_append] at s3 s4
      have hq := str_same (l0 ++ long (natOf l1))
      go_wp2_with fail
      refine (same_any X2 A1 _ c1 l1 l1 w4 w4.heap.size ((R2.below b24).more b24.size) ((r1.below b04).more b04.size) (by omega) (by omega)).mono ?_
      rintro e w5 ⟨rfl, dr⟩
      rw [show decide (l1 = l1) = true from by simp]
      have b05 := b04.trans (dr.below _)
      have Hm5 := Lib.hid (Hm4.out.keep (dr.below _) Hm4.out.lt)
      clear s3 s4 hq R2 R3 R4 Hm2 Hm4 dr
      go_wp2_with fail
      refine (takeNat_all _ _ l0 a2 a3 w5 Hm5.out.rd y0 (by omega)).mono ?_
      rintro e w6 ⟨X6, d6, rfl, R6, b6⟩
      have b06 := b05.trans (b6.mono b05.size)
      go_wp2_with fail
      refine (refTakeNat_all A0 c0 l0 a2 a3 w6 ((r0.below b06).more b06.size) y0 (by omega)).mono ?_
      rintro e w7 ⟨X7, d7, rfl, R7, b7⟩
      have b07 := b06.trans (b7.mono b06.size)
      have hsh := takeNatS_short l0 y0 a2 a3
      go_wp2_with fail
      refine (same_any X6 X7 d6 d7 (takeNatS l0 a2 a3).1 (takeNatS l0 a2 a3).1 w7 w7.heap.size ((R6.below b7).more b7.size) R7 (by omega) (by omega)).mono ?_
      rintro e w8 ⟨rfl, dr⟩
      rw [show decide ((takeNatS l0 a2 a3).1 = (takeNatS l0 a2 a3).1) = true from by simp]
      have b08 := b07.trans (dr.below _)
      clear R6 R7 dr hsh
      go_wp2_with fail
      refine (works_any _).mono ?_
      rintro e w9 ⟨rfl, b9⟩
      go_wp2_with fail
      go_ret
      exact ⟨rfl, b08.trans (b9.mono b08.size)⟩
end Go.Proofs.Yticgcjfgonejpaa

/- The contracts of the document's Put, Bytes and PutNat: they come to the same bytes. Conditions: as typed. -/
import Derived.Test.YticgcjfgonejpaaRef2
namespace Go.Proofs.Yticgcjfgonejpaa
open Go.RowKit

/-- Digits of a number, and of a word behind it. -/
theorem be_word (j N x : Nat) (hx : x < 18446744073709551616) : be j N ++ be 8 x = be (j + 8) (x + 18446744073709551616 * N) := by
  induction j with
  | zero =>
    have h := be_mod (x + 18446744073709551616 * N) 8 8 (Nat.le_refl _)
    rw [show (256 : Nat) ^ 8 = 18446744073709551616 from rfl, Nat.add_mul_mod_self_left, Nat.mod_eq_of_lt hx] at h
    simpa [be] using h
  | succ j ih =>
    rw [show j + 1 + 8 = (j + 8) + 1 by omega]
    show (dig N j :: be j N) ++ be 8 x = dig (x + 18446744073709551616 * N) (j + 8) :: be (j + 8) (x + 18446744073709551616 * N)
    rw [List.cons_append, ih]
    congr 1
    unfold dig
    rw [Nat.add_comm j 8, Nat.pow_add, ← Nat.div_div_eq_div_mul, show (256 : Nat) ^ 8 = 18446744073709551616 from rfl, Nat.add_mul_div_left _ _ (by omega), Nat.div_eq_of_lt hx, Nat.zero_add]
theorem dig_top (k n : Nat) (h : n < 256 ^ (k + 1)) : dig n k = 0 ↔ n < 256 ^ k := by
  unfold dig
  have hp : 0 < 256 ^ k := Nat.pow_pos (by omega)
  have h1 : n / 256 ^ k < 256 := (Nat.div_lt_iff_lt_mul hp).2 (by rw [Nat.pow_succ, Nat.mul_comm] at h; exact h)
  rw [Nat.mod_eq_of_lt h1, Nat.div_eq_zero_iff]
  exact ⟨fun h => h.resolve_left (by omega), fun h => .inr h⟩
theorem blen_top (k n : Nat) (h : n < 256 ^ (k + 1)) (h0 : dig n k ≠ 0) : blen n = k + 1 :=
  blen_eq _ _ h fun _ => by
    have := mt (dig_top k n h).2 h0
    simpa using this
theorem nth_be (k n : Nat) : nth (be (k + 1) n) 0 = dig n k := by simp [be, nth]
theorem be_drop (k n : Nat) : (be (k + 1) n).drop 1 = be k n := by simp [be]

set_option maxHeartbeats 400000 in
theorem refPut_any (A : Option Addr) (c : Nat) (l : List Nat) (n size : Nat) (w : World) (hr : Rd .u8 w w.heap.size A l) (hl : l.length ≤ 1099511627776) (h8 : size ≤ 8) :
    Calls Try.prog 23 #[.slice A l.length c, .int .u64 n, .int .i64 size] w fun e w' => ∃ v, e = .returned v ∧ w'.ownsRow w.heap.size 5 1 v (l.length + size) (ints .u8 (l ++ be size n)) ∧ Below w.heap.size w w' := by
  obtain ⟨i0, hi, hz0, hz1, hz2⟩ := info_parts info_u8
  have hd : decide ((size : Int) ≤ 8) = true := by simp; omega
  go_enter Try.func23, Try.ntmps23
  go_wp2_with (at_builtin; refine wpList_append_rd _ rfl (.tmp 9) (.tmp 10) _ rfl w.heap.size 5 i0 _ 1 Try.underlying22 hi hz0 hz1 hz2 rfl (.slice (some ⟨w.heap.size, 0, none⟩) 0 0) 0 [] rfl ?c1 .u8 w.heap.size A l.length c l rfl rfl ?c2 ?c3 ?c4 ?c5 ?_)
  case c1 => exact own_of_heap (cur := []) (heap_alloc_new w (.cells #[] 5)) (Nat.le_refl _) (Nat.le_refl _) (Nat.zero_le _) rfl rfl
  case c2 => exact hr.below ((Below.refl _ _).alloc (Nat.le_refl _) _)
  case c3 => unfold maxLen; omega
  case c4 => omega
  case c5 => simp
  intro v1 w1 hown1 hg1
  have hb1 : Below w.heap.size w w1 := ((Below.refl _ _).alloc (Nat.le_refl _) _).grown hg1 (by simp) (by simp [Value.ownBlock])
  clear hg1
  go_wp2_with fail
  go_loopw [7, 8] (fun u i wr => ∃ (k : Nat) (zs : List Nat), k ≤ size ∧ i = .int .i64 ((k : Int) - 1) ∧ zs.length + k = l.length + size ∧ zs ++ be k n = l ++ be size n ∧ wr.ownsRow w.heap.size 5 1 u zs.length (ints .u8 zs) ∧ Below w.heap.size w wr) (fun _ i _ => (intOf i + 1).toNat)
  case atStart => exact ⟨size, l, Nat.le_refl _, rfl, rfl, rfl, hown1, hb1⟩
  case round =>
    obtain ⟨k, zs, hk, rfl, hlen, hcat, hown, hb⟩ := hrel
    have Hlen := Lib.hid hlen
    have Hcat := Lib.hid hcat
    clear hlen hcat hown1
    by_cases h0 : k = 0
    · subst h0
      go_wp2_with fail
      go_ret
      refine ⟨_, rfl, ?_, hb⟩
      have h1 := Hcat.out
      have h2 := Hlen.out
      simp only [be, List.append_nil] at h1
      rw [← h1, ← h2]
      exact hown
    · obtain ⟨m, rfl⟩ : ∃ m, k = m + 1 := ⟨k - 1, by omega⟩
      go_wp2_with (at_builtin; refine wpList_append_one _ rfl _ _ 22 rfl w.heap.size 5 i0 (.int .u8 0) 1 Try.underlying22 hi hz0 hz1 hz2 rfl _ _ .u8 zs rfl hown _ (dig n m) ?d1 rfl ?d2 ?d3 ?d4 ?_)
      case d1 => exact dig_int n m
      case d2 => unfold maxLen; have := Hlen.out; omega
      case d3 => have := Hlen.out; omega
      case d4 => exact hb.size
      intro v' w3 hown2 _ hb3
      go_wp2
      go_roundw
      case rel => exact ⟨m, zs ++ [dig n m], by omega, rfl, by have := Hlen.out; simp; omega, by rw [← Hcat.out]; simp [be], by simpa using hown2, hb.trans hb3⟩
      case measure => simp [intOf] <;> omega

/-- A slice that reads as l, in new memory or old, is answered; nothing that was there has turned. -/
def OutRd (k : IntKind) (l : List Nat) (w : World) (e : Ending) (w' : World) : Prop := ∃ X d, e = .returned (.slice X l.length d) ∧ Rd k w' w'.heap.size X l ∧ Below w.heap.size w w'
theorem OutRd.mk {k : IntKind} {l : List Nat} {w w' : World} {X : Option Addr} {n d : Nat} {m : List Nat} (he : m = l) (hn : n = m.length) (hr : Rd k w' w'.heap.size X m) (hb : Below w.heap.size w w') : OutRd k l w (.returned (.slice X n d)) w' := by
  subst he; subst hn
  exact ⟨X, d, rfl, hr, hb⟩
/-- What is owned from a block on is owned from a lower one on. -/
theorem own_base {w : World} {base base' : Nat} {e : TypeId} {n : Nat} {v : Value} {xs : List Value} (h : w.ownsRow base e 1 v n xs) (hb : base' ≤ base) : w.ownsRow base' e 1 v n xs := by
  refine ⟨h.1, ?_⟩
  rcases h.2 with h | ⟨g, cap, cur, h1, h2, h3⟩
  · exact .inl h
  · exact .inr ⟨g, cap, cur, h1, Nat.le_trans hb h2, h3⟩
/-- The length in a slot, for a loop's measure. -/
def lenV : Value → Nat | .slice _ n _ => n | _ => 0

set_option maxHeartbeats 400000 in
theorem refBytes_any (A : Option Addr) (c : Nat) (a : List Nat) (w : World) (hr : Rd .u64 w w.heap.size A a) (hw : Words a) (hl : a.length ≤ 1000000) :
    Calls Try.prog 22 #[.slice A a.length c] w (OutRd .u8 (be (blen (natOf a)) (natOf a)) w) := by
  go_enter Try.func22, Try.ntmps22
  go_wp2_with fail
  go_loopw [3, 4] (fun v i wr => ∃ (k : Nat) (X : Option Addr) (d : Nat), k ≤ a.length ∧ i = .int .i64 ((k : Int) - 1) ∧ v = .slice X (8 * (a.length - k)) d ∧ 8 * (a.length - k) ≤ d ∧ Rd .u8 wr wr.heap.size X (be (8 * (a.length - k)) (natOf (a.drop k))) ∧ Below w.heap.size w wr) (fun _ i _ => (intOf i + 1).toNat)
  case atStart => exact ⟨a.length, none, 0, Nat.le_refl _, rfl, by simp, by omega, by rw [Nat.sub_self]; exact Rd.nil, Below.refl _ _⟩
  case round =>
    obtain ⟨k, X, d, hk, rfl, rfl, hd, hX, hb⟩ := hrel
    by_cases h0 : k = 0
    · subst h0
      rw [Nat.sub_zero, List.drop_zero] at hX
      rw [Nat.sub_zero] at hd
      have hN := natOf_lt a hw
      rw [pow_64] at hN
      have HN := Lib.hid hN
      clear hN
      rw [Nat.sub_zero, show (((0 : Nat) : Int) - 1) = -1 from by decide]
      go_wp2_with fail
      go_loop [3] (fun v => ∃ (k : Nat) (X : Option Addr) (d : Nat), v = .slice X k d ∧ k ≤ d ∧ k ≤ 8 * a.length ∧ natOf a < 256 ^ k ∧ Rd .u8 wr wr.heap.size X (be k (natOf a))) (fun v => lenV v)
      case atStart => exact ⟨8 * a.length, X, d, rfl, hd, Nat.le_refl _, HN.out, hX⟩
      case round =>
        obtain ⟨k, Y, f, rfl, hf, hk8, hlt, hY⟩ := hrel
        have Hlt := Lib.hid hlt
        clear hlt hX
        by_cases hk0 : k = 0
        · subst hk0
          have e : blen (natOf a) = 0 := by
            have := Hlt.out
            rw [Nat.pow_zero] at this
            rw [show natOf a = 0 by omega, blen_zero]
          have He := Lib.hid e
          clear e
          go_wp2_with fail
          go_ret
          exact OutRd.mk (m := []) (by rw [He.out]; rfl) rfl Rd.nil hb
        · obtain ⟨j, rfl⟩ : ∃ j, k = j + 1 := ⟨k - 1, by omega⟩
          obtain ⟨y, yo, rfl, hyB, hyc⟩ := hY (by rw [length_be]; omega)
          have hc0 := hyc 0 (by rw [length_be]; omega)
          rw [Nat.add_zero, nth_be] at hc0
          clear hyc
          by_cases hdg : dig (natOf a) j = 0
          · have hbq : (((dig (natOf a) j : Nat) : Int) == 0) = true := by simpa using hdg
            have Hdg := Lib.hid hdg
            clear hdg
            go_wp2_with fail
            go_round
            case rel =>
              refine ⟨j, _, _, rfl, by omega, by omega, (dig_top j (natOf a) Hlt.out).1 Hdg.out, ?_⟩
              have h := hY.drop (i := 1) (cap := f) (by rw [length_be]; exact hf)
              rw [be_drop] at h
              simpa [Addr.add] using h
            case measure => simp [lenV]
          · have hbq : (((dig (natOf a) j : Nat) : Int) == 0) = false := by simpa using hdg
            have He := Lib.hid (blen_top j (natOf a) Hlt.out hdg)
            clear hdg
            go_wp2_with fail
            go_ret
            exact OutRd.mk (m := be (j + 1) (natOf a)) (by rw [He.out]) (length_be _ _).symm hY hb
    · obtain ⟨m, rfl⟩ : ∃ m, k = m + 1 := ⟨k - 1, by omega⟩
      obtain ⟨b, off, rfl, hbB, hcell⟩ := (hr.below hb) (by omega)
      have hx := hcell m (by omega)
      have hxw := hw _ (nth_mem a m (by omega))
      clear hcell
      have hlen : (be (8 * (a.length - (m + 1))) (natOf (a.drop (m + 1)))).length = 8 * (a.length - (m + 1)) := length_be _ _
      have hput := refPut_any X d _ (nth a m) 8 wr hX (by rw [hlen]; omega) (by omega)
      rw [hlen] at hput
      have Hput := Lib.hid hput
      clear hput hlen
      go_wp2_with fail
      refine (Hput.out).mono ?_
      rintro e w1 ⟨v1, rfl, own1, b1⟩
      rw [be_word _ _ _ hxw, show nth a m + 18446744073709551616 * natOf (a.drop (m + 1)) = natOf (a.drop m) by rw [nth_eq a m (by omega), ← List.getElem_cons_drop (by omega : m < a.length), natOf]] at own1
      rw [show 8 * (a.length - (m + 1)) + 8 = 8 * (a.length - m) by omega] at own1
      obtain ⟨Y, f, rfl, hf, _⟩ := own_form own1
      have R := Rd.own own1
      clear own1
      go_wp2_with fail
      go_roundw
      case rel => exact ⟨m, Y, f, by omega, rfl, rfl, hf, R, hb.trans (b1.mono hb.size)⟩
      case measure => simp [intOf] <;> omega

theorem refPutNat_no (A A2 : Option Addr) (n c c2 : Nat) (a : List Nat) (w : World) (ha : Rd .u64 w w.heap.size A2 a) (hw : Words a) (hal : a.length ≤ 1000000) (h : 65535 < blen (natOf a)) :
    Calls Try.prog 10 #[.slice A n c, .slice A2 a.length c2] w fun e w' => e = .returned (.tuple #[.slice none 0 0, .int .i64 4]) ∧ Below w.heap.size w w' := by
  go_enter Try.func10, Try.ntmps10
  go_wp2_with fail
  refine (refBytes_any A2 c2 a w ha hw hal).mono ?_
  rintro e w1 ⟨X, d, rfl, _, b1⟩
  rw [length_be]
  go_wp2_with fail
  go_ret2
  exact ⟨rfl, b1⟩

set_option maxHeartbeats 400000 in
theorem refPutNat_yes (A A2 : Option Addr) (c c2 : Nat) (l a : List Nat) (w : World) (hr : Rd .u8 w w.heap.size A l) (hl : l.length ≤ 1000000) (ha : Rd .u64 w w.heap.size A2 a) (hw : Words a) (hal : a.length ≤ 1000000) (h : blen (natOf a) ≤ 65535) :
    Calls Try.prog 10 #[.slice A l.length c, .slice A2 a.length c2] w fun e w' =>
      ∃ v, e = .returned (.tuple #[v, .int .i64 0]) ∧ w'.ownsRow w.heap.size 5 1 v (l ++ long (natOf a)).length (ints .u8 (l ++ long (natOf a))) ∧ Below w.heap.size w w' := by
  obtain ⟨i0, hi, hz0, hz1, hz2⟩ := info_parts info_u8
  go_enter Try.func10, Try.ntmps10
  go_wp2_with fail
  refine (refBytes_any A2 c2 a w ha hw hal).mono ?_
  rintro e w1 ⟨X, d, rfl, RX, b1⟩
  rw [length_be]
  go_wp2_with fail
  refine (refPut_any A c l (blen (natOf a)) 2 w1 ((hr.below b1).more b1.size) (by omega) (by omega)).mono ?_
  rintro e w2 ⟨v2, rfl, own2, b2⟩
  have own3 : w2.ownsRow w.heap.size 5 1 v2 (l.length + 2) (ints .u8 (l ++ be 2 (blen (natOf a)))) := own_base own2 b1.size
  have R2 := RX.below b2
  have b12 := b1.trans (b2.mono b1.size)
  clear own2
  go_wp2_with (at_builtin; refine wpList_append_rd _ rfl _ _ _ rfl w.heap.size 5 i0 _ 1 Try.underlying22 hi hz0 hz1 hz2 rfl v2 (l.length + 2) _ rfl own3 .u8 w1.heap.size X (blen (natOf a)) d (be (blen (natOf a)) (natOf a)) rfl ?c1 R2 ?c3 ?c4 ?c5 ?_)
  case c1 => exact length_be _ _
  case c3 => unfold maxLen; omega
  case c4 => omega
  case c5 => exact b12.size
  intro v3 w3 own4 hg
  have b13 : Below w.heap.size w w3 := b12.trans (below_of_grown _ own3 hg b12.size)
  rw [← ints_append] at own4
  have Ho := Lib.hid own4
  clear own4 own3 hg
  go_wp2_with fail
  go_ret2
  refine ⟨v3, rfl, ?_, b13⟩
  have e : l ++ be 2 (blen (natOf a)) ++ be (blen (natOf a)) (natOf a) = l ++ long (natOf a) := by simp [long]
  rw [← e]
  have e2 : (l ++ be 2 (blen (natOf a)) ++ be (blen (natOf a)) (natOf a)).length = l.length + 2 + blen (natOf a) := by simp [length_be]; omega
  rw [e2]
  exact Ho.out
end Go.Proofs.Yticgcjfgonejpaa

/- Several texts in one; each begins with a remark that says what it shows and on which conditions. -/
import Derived.Test.YtgmolbiicclcaaaKax
import Derived.Deep.AppendLies
/- crt's may and tooLong, walked. Conditions: as typed (numbers of at most 1024 bits). -/
namespace Go.Proofs.Ytgmolbiicclcaaa
open Go.RowKit
set_option maxRecDepth 20000
/-- The first so many rests may be. -/
def OkTo21 (ss : List CR) (j : Nat) : Prop := AllOk (ss.take j)
theorem OkTo21.start (ss : List CR) : OkTo21 ss 0 := by simp [OkTo21, AllOk]
theorem OkTo21.next {ss : List CR} {j : Nat} (h : OkTo21 ss j) (hj : j < ss.length) (ho : ss[j].r < ss[j].m) : OkTo21 ss (j + 1) := fun s hs => by
  rw [List.take_succ_eq_append_getElem hj] at hs
  rcases List.mem_append.1 hs with h1 | h1
  · exact h s h1
  · rw [List.mem_singleton.1 h1]; exact ho
theorem OkTo21.all {ss : List CR} (h : OkTo21 ss ss.length) : AllOk ss := by
  unfold OkTo21 at h
  rwa [List.take_length] at h
def OkFlag21 (b : Bool) (ss : List CR) : Prop := b = true ↔ AllOk ss
theorem OkFlag21.no {b : Bool} {ss : List CR} (h : OkFlag21 b ss) {j : Nat} (hj : j < ss.length) (hn : ¬ ss[j].r < ss[j].m) : b = false := by
  cases hq : b with
  | false => rfl
  | true => exact absurd (h.1 hq _ (List.getElem_mem hj)) hn
theorem cmp_of21 (a b : Nat) : (a < b ∧ cmpS a b = -1) ∨ (¬ a < b ∧ cmpS a b = 0) ∨ (¬ a < b ∧ cmpS a b = 1) := by
  unfold cmpS
  rcases Nat.lt_trichotomy a b with h | h | h
  · exact .inl ⟨h, by rw [if_pos h]⟩
  · exact .inr (.inl ⟨by omega, by rw [if_neg (by omega), if_neg (by omega)]⟩)
  · exact .inr (.inr ⟨by omega, by rw [if_neg (by omega), if_pos h]⟩)
/-- The element that a round reads. -/
theorem RdRests.at21 {w : World} {A : Option Addr} {ss : List CR} (h : RdRests w A ss) {j : Nat} (hj : j < ss.length) : ∃ b off A1 q1 c1 A2 q2 c2, A = some ⟨b, off, none⟩ ∧ b < w.heap.size ∧
    w.cell? ⟨b, off + j * 2, none⟩ = some (.slice A1 q1 c1) ∧ w.cell? ⟨b, off + j * 2 + 1, none⟩ = some (.slice A2 q2 c2) ∧ NatIs w A1 q1 c1 ss[j].m ∧ NatIs w A2 q2 c2 ss[j].r := by
  obtain ⟨b, off, e, hb, hall⟩ := h (by omega)
  obtain ⟨vM, vR, h1, h2, ⟨A1, q1, c1, rfl, h3⟩, ⟨A2, q2, c2, rfl, h4⟩⟩ := hall j hj
  exact ⟨b, off, A1, q1, c1, A2, q2, c2, e, hb, h1, h2, h3, h4⟩
set_option maxHeartbeats 8000000 in
theorem crtMay_pf {w : World} {A : Option Addr} {n c : Nat} {ss : List CR} (h : RdRests w A ss) (hn : ss.length = n) (hf : FewC ss) (hl : n ≤ 1000) (b : Bool) (hb : OkFlag21 b ss) :
    Calls Try.prog 14 #[.slice A n c] w fun e w' => e = .returned (.bool b) ∧ Below w.heap.size w w' := by
  have HN := Lib.hid hn
  have HF := Lib.hid hf
  have HB := Lib.hid hb
  have HR := Lib.hid h
  have HO := Lib.hid (OkTo21.start ss)
  have HBe := Lib.hid (Below.refl w.heap.size w)
  clear h hn hf hb
  go_enter Try.func14, Try.ntmps14
  go_wp2_with fail
  go_loopw [7] (fun jv wr => ∃ j : Nat, jv = .int .i64 j ∧ j ≤ n ∧ Hid (Below w.heap.size w wr) ∧ Hid (OkTo21 ss j)) (fun jv _ => n - (intOf jv).toNat)
  case atStart => exact ⟨0, rfl, Nat.zero_le _, HBe, HO⟩
  case round =>
    clear HBe HO
    obtain ⟨j, rfl, hj, HBe, HO⟩ := hrel
    by_cases hlt : j < n
    · have hjs : j < ss.length := by rw [HN.out]; exact hlt
      obtain ⟨gA, oA, A1, q1, c1, A2, q2, c2, rfl, hgA, e1, e2, r1, r2⟩ := (HR.out.step HBe.out).at21 hjs
      obtain ⟨V, hV⟩ : ∃ V, wr.alloc (.cells #[.slice A1 q1 c1, .slice A2 q2 c2] 40) = V := ⟨_, rfl⟩
      have bV : Below wr.heap.size wr V := by rw [← hV]; exact (Below.refl _ wr).alloc (Nat.le_refl _) _
      obtain ⟨gS, hgS⟩ : ∃ k, wr.heap.size = k := ⟨_, rfl⟩
      have hX : BoxC V gS (.slice A1 q1 c1) (.slice A2 q2 c2) := by rw [← hV, ← hgS]; exact BoxC.new _ _ _
      have HX := Lib.hid hX
      have HBe := Lib.hid (below_step HBe.out bV)
      have R1 := Lib.hid (r1.step bV)
      have R2 := Lib.hid (r2.step bV)
      have C1 := Lib.hid (bMay R1.out)
      have x1 := hX.c0
      clear r1 r2 bV hX
      go_wp2_with fail
      refine (C1.out).mono ?_
      rintro e u1 ⟨rfl, b1⟩
      have HX := Lib.hid (HX.out.below b1)
      have HBe := Lib.hid (below_step HBe.out b1)
      have R1 := Lib.hid (R1.out.step b1)
      have R2 := Lib.hid (R2.out.step b1)
      have C2 := Lib.hid (bMay R2.out)
      have x2 := HX.out.c1
      clear b1 C1 x1 hV hgS e1 e2
      go_wp2_with fail
      refine (C2.out).mono ?_
      rintro e u2 ⟨rfl, b2⟩
      have HX := Lib.hid (HX.out.below b2)
      have HBe := Lib.hid (below_step HBe.out b2)
      have R1 := Lib.hid (R1.out.step b2)
      have R2 := Lib.hid (R2.out.step b2)
      have C3 := bCmp R2.out.in_ R1.out.in_
      have x1 := HX.out.c0
      have x2 := HX.out.c1
      obtain ⟨x, hx⟩ : ∃ x, cmpS ss[j].r ss[j].m = x := ⟨_, rfl⟩
      have hc := cmp_of21 ss[j].r ss[j].m
      rw [hx] at C3 hc
      have C3 := Lib.hid C3
      clear b2 C2 hx
      go_wp2_with fail
      refine (C3.out).mono ?_
      rintro e u3 ⟨rfl, b3⟩
      have HBe := Lib.hid (below_step HBe.out b3)
      clear b3 C3 x1 x2
      rcases hc with ⟨hlt2, rfl⟩ | ⟨hlt2, rfl⟩ | ⟨hlt2, rfl⟩
      · have HO := Lib.hid (HO.out.next hjs hlt2)
        clear hlt2
        go_wp2_with fail
        go_roundw
        case rel => exact ⟨_, by go_num, by omega, HBe, HO⟩
        case measure => simp [intOf]; omega
      · obtain rfl := HB.out.no hjs hlt2
        clear hlt2
        go_wp2_with fail
        go_ret
        exact ⟨rfl, HBe.out⟩
      · obtain rfl := HB.out.no hjs hlt2
        clear hlt2
        go_wp2_with fail
        go_ret
        exact ⟨rfl, HBe.out⟩
    · obtain rfl : j = n := by omega
      obtain rfl : b = true := HB.out.2 (OkTo21.all (by rw [HN.out]; exact HO.out))
      go_wp2_with fail
      go_ret
      exact ⟨rfl, HBe.out⟩
/-- All M together have more bits than may be? -/
def LongFlag21 (b : Bool) (ss : List CR) : Prop := b = true ↔ ¬ nbits (prodC ss) ≤ 1024
theorem prodC_take {ss : List CR} {j : Nat} (hj : j < ss.length) : prodC (ss.take (j + 1)) = prodC (ss.take j) * ss[j].m := by
  rw [List.take_succ_eq_append_getElem hj, prodC_snoc]
theorem prodC_part {ss : List CR} (h : AllOk ss) (j : Nat) : nbits (prodC (ss.take j)) ≤ nbits (prodC ss) := by
  refine nbits_mono (Nat.le_of_dvd (prodC_pos h) ⟨prodC (ss.drop j), ?_⟩)
  rw [← prodC_append, List.take_append_drop]
theorem LongFlag21.yes {b : Bool} {ss : List CR} (h : LongFlag21 b ss) (ho : AllOk ss) {j : Nat} (hn : ¬ nbits (prodC (ss.take j)) ≤ 1024) : b = true := h.2 fun k => hn (Nat.le_trans (prodC_part ho j) k)
theorem LongFlag21.no {b : Bool} {ss : List CR} (h : LongFlag21 b ss) (hn : nbits (prodC (ss.take ss.length)) ≤ 1024) : b = false := by
  rw [List.take_length] at hn
  cases hq : b with
  | false => rfl
  | true => exact absurd hn (h.1 hq)
set_option maxHeartbeats 8000000 in
theorem tooLong_pf {w : World} {A : Option Addr} {n c : Nat} {ss : List CR} (h : RdRests w A ss) (hn : ss.length = n) (hf : FewC ss) (hl : n ≤ 1000) (ho : AllOk ss) (b : Bool) (hb : LongFlag21 b ss) :
    Calls Try.prog 15 #[.slice A n c] w fun e w' => e = .returned (.bool b) ∧ Below w.heap.size w w' := by
  have HN := Lib.hid hn
  have HF := Lib.hid hf
  have HB := Lib.hid hb
  have HR := Lib.hid h
  have HO := Lib.hid ho
  have C0 := Lib.hid (bOf w 1 (by omega))
  clear h hn hf hb ho
  go_enter Try.func15, Try.ntmps15
  go_wp2_with fail
  refine (C0.out).mono ?_
  rintro e w1 ⟨Z, z, d, rfl, Y0, _, b1⟩
  have HBe := Lib.hid b1
  have HZ : Hid (NatIs w1 Z z d (prodC (ss.take 0))) := Lib.hid Y0
  have hz0 : nbits (prodC (ss.take 0)) ≤ 1024 := by rw [List.take_zero]; decide
  have HZB := Lib.hid hz0
  clear b1 Y0 C0 hz0
  go_wp2_with fail
  go_loopw [3, 9] (fun zv jv wr => ∃ (j : Nat) (Z : Option Addr) (z d : Nat), jv = .int .i64 j ∧ zv = .slice Z z d ∧ j ≤ n ∧ Hid (Below w.heap.size w wr) ∧ Hid (NatIs wr Z z d (prodC (ss.take j))) ∧ Hid (nbits (prodC (ss.take j)) ≤ 1024)) (fun _ jv _ => n - (intOf jv).toNat)
  case atStart => exact ⟨0, Z, z, d, rfl, rfl, Nat.zero_le _, HBe, HZ, HZB⟩
  case round =>
    clear HBe HZ HZB
    obtain ⟨j, Z, z, d, rfl, rfl, hj, HBe, HZ, HZB⟩ := hrel
    by_cases hlt : j < n
    · have hjs : j < ss.length := by rw [HN.out]; exact hlt
      obtain ⟨gA, oA, A1, q1, c1, A2, q2, c2, rfl, hgA, e1, e2, r1, r2⟩ := (HR.out.step HBe.out).at21 hjs
      obtain ⟨V, hV⟩ : ∃ V, wr.alloc (.cells #[.slice A1 q1 c1, .slice A2 q2 c2] 40) = V := ⟨_, rfl⟩
      have bV : Below wr.heap.size wr V := by rw [← hV]; exact (Below.refl _ wr).alloc (Nat.le_refl _) _
      obtain ⟨gS, hgS⟩ : ∃ k, wr.heap.size = k := ⟨_, rfl⟩
      have hX : BoxC V gS (.slice A1 q1 c1) (.slice A2 q2 c2) := by rw [← hV, ← hgS]; exact BoxC.new _ _ _
      have HX := Lib.hid hX
      have HBe := Lib.hid (below_step HBe.out bV)
      have R1 := Lib.hid (r1.step bV)
      have HZ := Lib.hid (HZ.out.step bV)
      obtain ⟨t, ht⟩ : ∃ t, nbits ss[j].m = t := ⟨_, rfl⟩
      have ht2 : t ≤ 1024 := by rw [← ht]; exact (HF.out _ (List.getElem_mem hjs)).1
      have hql := natIs_len16 r1 (by rw [ht]; exact ht2)
      have hzl := natIs_len16 HZ.out HZB.out
      have C1 := bBits R1.out.in_
      rw [ht] at C1
      have C1 := Lib.hid C1
      have ht3 : ¬ 1024 < t := by omega
      have x1 := hX.c0
      clear r1 r2 bV hX ht
      go_wp2_with fail
      refine (C1.out).mono ?_
      rintro e u1 ⟨rfl, b1⟩
      have HX := Lib.hid (HX.out.below b1)
      have HBe := Lib.hid (below_step HBe.out b1)
      have R1 := Lib.hid (R1.out.step b1)
      have HZ := Lib.hid (HZ.out.step b1)
      have C2 := bMul HZ.out.in_ R1.out.in_ (by omega) (by omega)
      rw [← prodC_take hjs] at C2
      have C2 := Lib.hid C2
      have x1 := HX.out.c0
      clear b1 C1 hV hgS e1 e2
      go_wp2_with fail
      refine (C2.out).mono ?_
      rintro e u2 ⟨Y, y, f, rfl, Y1, _, b2⟩
      have HBe := Lib.hid (below_step HBe.out b2)
      have HY := Lib.hid Y1
      obtain ⟨s, hs⟩ : ∃ s, nbits (prodC (ss.take (j + 1))) = s := ⟨_, rfl⟩
      have C3 := bBits Y1.in_
      rw [hs] at C3
      have C3 := Lib.hid C3
      clear b2 C2 x1 Y1 ht2 ht3
      by_cases hs2 : s ≤ 1024
      · have HYB := Lib.hid (show nbits (prodC (ss.take (j + 1))) ≤ 1024 by rw [hs]; exact hs2)
        have hs3 : ¬ 1024 < s := by omega
        clear hs
        go_wp2_with fail
        refine (C3.out).mono ?_
        rintro e u3 ⟨rfl, b3⟩
        have HBe := Lib.hid (below_step HBe.out b3)
        have HY := Lib.hid (HY.out.step b3)
        clear b3 C3
        go_wp2_with fail
        go_roundw
        case rel => exact ⟨_, _, _, _, by go_num, rfl, by omega, HBe, HY, HYB⟩
        case measure => simp [intOf]; omega
      · obtain rfl := HB.out.yes HO.out (j := j + 1) (by rw [hs]; exact hs2)
        have hs3 : 1024 < s := by omega
        clear hs
        go_wp2_with fail
        refine (C3.out).mono ?_
        rintro e u3 ⟨rfl, b3⟩
        have HBe := Lib.hid (below_step HBe.out b3)
        clear b3 C3
        go_wp2_with fail
        go_ret
        exact ⟨rfl, HBe.out⟩
    · obtain rfl : j = n := by omega
      obtain rfl : b = false := HB.out.no (by rw [HN.out]; exact HZB.out)
      go_wp2_with fail
      go_ret
      exact ⟨rfl, HBe.out⟩
end Go.Proofs.Ytgmolbiicclcaaa
/- crt.Join, walked. Conditions: as typed (numbers of at most 1024 bits, up to 1000 rests). -/
namespace Go.Proofs.Ytgmolbiicclcaaa
open Go.RowKit
set_option maxRecDepth 20000
/-- What Join answers. -/
def OutJoin (ss : List CR) (w : World) (e : Ending) (w' : World) : Prop := ∃ X q d Y r f, e = .returned (.tuple #[.slice X q d, .slice Y r f, .int .i64 (errC ss : Nat)]) ∧ NatIs w' X q d (ansR ss) ∧ NatIs w' Y r f (ansM ss) ∧ Below w.heap.size w w'
theorem OutJoin.err {ss : List CR} {w w' : World} {k : Int} (h : ((errC ss : Nat) : Int) = k) (h0 : k ≠ 0) (b : Below w.heap.size w w') : OutJoin ss w (.returned (.tuple #[.slice none 0 0, .slice none 0 0, .int .i64 k])) w' := by
  have hne : errC ss ≠ 0 := fun e => h0 (by rw [← h, e]; rfl)
  exact ⟨none, 0, 0, none, 0, 0, by rw [h], by rw [ansR_no hne]; exact natIs_zero5 _ _ _, by rw [ansM_no hne]; exact natIs_zero5 _ _ _, b⟩
/-- A number stands behind the stores into a rest's block. -/
theorem BoxC.nat21 {u : World} {g : Nat} {A1 A2 : Option Addr} {q1 q2 c1 c2 : Nat} (h : BoxC u g (.slice A1 q1 c1) (.slice A2 q2 c2)) {X : Option Addr} {q d n : Nat} (k : NatIs u X q d n) (y z : Value) : NatIs ((u.setCell ⟨g, 0, none⟩ y).setCell ⟨g, 1, none⟩ z) X q d n := by
  refine ⟨k.1, k.2.1, fun h0 => ?_, k.2.2.2⟩
  obtain ⟨b, off, rfl, hlt, hc⟩ := k.2.2.1 h0
  have hne : b ≠ g := by
    rintro rfl
    have h1 := hc 0 h0
    have h2 := h
    unfold BoxC at h2
    simp only [World.cell?, h2] at h1
    have h3 : off + 0 < 2 := by
      rcases Nat.lt_or_ge (off + 0) 2 with h | h
      · exact h
      · rw [Array.getElem?_eq_none (show (#[.slice A1 q1 c1, .slice A2 q2 c2] : Array Value).size ≤ off + 0 from h)] at h1
        cases h1
    rcases (show off + 0 = 0 ∨ off + 0 = 1 by omega) with e | e <;> rw [e] at h1 <;> cases h1
  refine ⟨b, off, rfl, by simp [World.setCell]; omega, fun j hj => ?_⟩
  rw [← hc j hj]
  refine World.cell?_of_block (a := ⟨b, off + j, none⟩) ?_
  rw [Below.heap_setCell _ _ _ _ hne, Below.heap_setCell _ _ _ _ hne]
/-- The world while rests are joined: the first so many are one, in block g. -/
structure JoinAt (w0 u : World) (g : Nat) (A1 A2 : Option Addr) (q1 q2 c1 c2 : Nat) (ss : List CR) (j r : Nat) : Prop where
  box : BoxC u g (.slice A1 q1 c1) (.slice A2 q2 c2)
  nM : NatIs u A1 q1 c1 (prodC (ss.take j))
  nR : NatIs u A2 q2 c2 r
  is : IsR (ss.take j) r
  cop : Cop (ss.take j)
  lo : w0.heap.size ≤ g
  be : Below w0.heap.size w0 u
section
variable {w0 u u' : World} {g : Nat} {A1 A2 : Option Addr} {q1 q2 c1 c2 : Nat} {ss : List CR} {j r : Nat}
theorem JoinAt.step (h : JoinAt w0 u g A1 A2 q1 q2 c1 c2 ss j r) (b : Below u.heap.size u u') : JoinAt w0 u' g A1 A2 q1 q2 c1 c2 ss j r :=
  ⟨h.box.below b, h.nM.step b, h.nR.step b, h.is, h.cop, h.lo, below_step h.be b⟩
theorem JoinAt.put (h : JoinAt w0 u g A1 A2 q1 q2 c1 c2 ss j r) (hj : j < ss.length) {X Y : Option Addr} {q d p f v : Nat} (hX : NatIs u X q d (prodC (ss.take j) * ss[j].m)) (hY : NatIs u Y p f (bothR (prodC (ss.take j)) r ss[j] v)) (hv : v * prodC (ss.take j) % ss[j].m = 1 % ss[j].m) (ho : ss[j].r < ss[j].m) (hg : Nat.gcd (prodC (ss.take j)) ss[j].m = 1) :
    JoinAt w0 ((u.setCell ⟨g, 0, none⟩ (.slice X q d)).setCell ⟨g, 1, none⟩ (.slice Y p f)) g X Y q p d f ss (j + 1) (bothR (prodC (ss.take j)) r ss[j] v) := by
  have h1 := below_set21 h.be h.be.size h.lo 0 (.slice X q d)
  refine ⟨(h.box.set0 _).set1 _, ?_, h.box.nat21 hY _ _, ?_, ?_, h.lo, below_set21 h1 h1.size h.lo 1 _⟩
  · rw [prodC_take hj]; exact h.box.nat21 hX _ _
  · rw [List.take_succ_eq_append_getElem hj]; exact isR_snoc h.is ho hv
  · rw [List.take_succ_eq_append_getElem hj]; exact cop_snoc.2 ⟨h.cop, hg⟩
theorem JoinAt.put_be (h : JoinAt w0 u g A1 A2 q1 q2 c1 c2 ss j r) (y z : Value) : Below w0.heap.size w0 ((u.setCell ⟨g, 0, none⟩ y).setCell ⟨g, 1, none⟩ z) := by
  have h1 := below_set21 h.be h.be.size h.lo 0 y
  exact below_set21 h1 h1.size h.lo 1 z
end
theorem not_cop21 {ss : List CR} {j : Nat} (hj : j < ss.length) (hg : Nat.gcd (prodC (ss.take j)) ss[j].m ≠ 1) : ¬ Cop ss := fun h => by
  have h1 : Cop (ss.take (j + 1)) := h.sublist (List.take_sublist _ _)
  rw [List.take_succ_eq_append_getElem hj] at h1
  exact hg (cop_snoc.1 h1).2
/-- The error that is told behind the loop. -/
def EndFlag21 (k : Int) (ss : List CR) : Prop := ((errC ss : Nat) : Int) = k
set_option maxHeartbeats 8000000 in
theorem join_arg {w : World} {A : Option Addr} {n c : Nat} {ss : List CR} (h : RdRests w A ss) (hn : ss.length = n) (hf : FewC ss) (hl : n ≤ 1000) (ho : ¬ AllOk ss) :
    Calls Try.prog 7 #[.slice A n c] w (OutJoin ss w) := by
  have C1 := Lib.hid (crtMay_pf (c := c) h hn hf hl false ⟨fun e => (by cases e), fun k => absurd k ho⟩)
  have HE := Lib.hid (show EndFlag21 1 ss from by unfold EndFlag21; rw [errC_arg ho]; rfl)
  clear h hn hf ho
  go_enter Try.func7, Try.ntmps7
  go_wp2_with fail
  refine (C1.out).mono ?_
  rintro e w1 ⟨rfl, b1⟩
  have B1 := Lib.hid b1
  clear b1 C1
  go_wp2_with fail
  go_ret3
  exact OutJoin.err HE.out (by omega) B1.out
set_option maxHeartbeats 8000000 in
theorem join_many {w : World} {A : Option Addr} {n c : Nat} {ss : List CR} (h : RdRests w A ss) (hn : ss.length = n) (hf : FewC ss) (hl : n ≤ 1000) (ho : AllOk ss) (hb : ¬ nbits (prodC ss) ≤ 1024) :
    Calls Try.prog 7 #[.slice A n c] w (OutJoin ss w) := by
  have C1 := Lib.hid (crtMay_pf (c := c) h hn hf hl true ⟨fun _ => ho, fun _ => rfl⟩)
  have C2 := Lib.hid fun (u : World) (b : Below w.heap.size w u) => tooLong_pf (c := c) (h.step b) hn hf hl ho true ⟨fun _ => hb, fun _ => rfl⟩
  have HE := Lib.hid (show EndFlag21 4 ss from by unfold EndFlag21; rw [errC_many ho hb]; rfl)
  clear h hn hf ho hb
  go_enter Try.func7, Try.ntmps7
  go_wp2_with fail
  refine (C1.out).mono ?_
  rintro e w1 ⟨rfl, b1⟩
  have B1 := Lib.hid b1
  clear b1 C1
  go_wp2_with fail
  refine (C2.out w1 B1.out).mono ?_
  rintro e w2 ⟨rfl, b2⟩
  have B2 := Lib.hid (below_step B1.out b2)
  clear b2 C2
  go_wp2_with fail
  go_ret3
  exact OutJoin.err HE.out (by omega) B2.out
set_option maxHeartbeats 16000000 in
theorem join_loop {w : World} {A : Option Addr} {n c : Nat} {ss : List CR} (h : RdRests w A ss) (hn : ss.length = n) (hf : FewC ss) (hl : n ≤ 1000) (ho : AllOk ss) (hb : nbits (prodC ss) ≤ 1024) :
    Calls Try.prog 7 #[.slice A n c] w (OutJoin ss w) := by
  have C1 := Lib.hid (crtMay_pf (c := c) h hn hf hl true ⟨fun _ => ho, fun _ => rfl⟩)
  have C2 := Lib.hid fun (u : World) (b : Below w.heap.size w u) => tooLong_pf (c := c) (h.step b) hn hf hl ho false ⟨fun e => (by cases e), fun k => absurd hb k⟩
  have C3 := Lib.hid fun u => bOf u 1 (by omega)
  have HN := Lib.hid hn
  have HF := Lib.hid hf
  have HR := Lib.hid h
  have HO := Lib.hid ho
  have HB := Lib.hid hb
  clear h hn hf ho hb
  go_enter Try.func7, Try.ntmps7
  go_wp2_with fail
  refine (C1.out).mono ?_
  rintro e w1 ⟨rfl, b1⟩
  have B1 := Lib.hid b1
  clear b1 C1
  go_wp2_with fail
  refine (C2.out w1 B1.out).mono ?_
  rintro e w2 ⟨rfl, b2⟩
  have B2 := Lib.hid (below_step B1.out b2)
  clear b2 C2
  go_wp2_with fail
  refine (C3.out w2).mono ?_
  rintro e w3 ⟨M, qm, dm, rfl, Y3, _, b3⟩
  have B3 := below_step B2.out b3
  obtain ⟨W, hW⟩ : ∃ W, w3.alloc (.cells #[.slice M qm dm, .slice none 0 0] 40) = W := ⟨_, rfl⟩
  have bW : Below w3.heap.size w3 W := by rw [← hW]; exact (Below.refl _ w3).alloc (Nat.le_refl _) _
  obtain ⟨g, hg⟩ : ∃ g, w3.heap.size = g := ⟨_, rfl⟩
  have hJ : JoinAt w W g M none qm 0 dm 0 ss 0 0 := by
    refine ⟨by rw [← hW, ← hg]; exact BoxC.new _ _ _, by rw [List.take_zero]; exact Y3.step bW, natIs_zero5 _ _ _, by rw [List.take_zero]; exact isR_nil, by rw [List.take_zero]; exact List.Pairwise.nil, by rw [← hg]; exact B3.size, below_step B3 bW⟩
  have HJ := Lib.hid hJ
  clear b3 C3 Y3 B3 bW hJ
  subst hW hg
  go_wp2_with fail
  generalize w3.alloc (.cells #[.slice M qm dm, .slice none 0 0] 40) = W at *
  generalize w3.heap.size = g at *
  go_loopw [18] (fun jv wr => ∃ (j r : Nat) (A1 A2 : Option Addr) (q1 q2 c1 c2 : Nat), jv = .int .i64 j ∧ j ≤ n ∧ Hid (JoinAt w wr g A1 A2 q1 q2 c1 c2 ss j r)) (fun jv _ => n - (intOf jv).toNat)
  case atStart => exact ⟨0, 0, M, none, qm, 0, dm, 0, rfl, Nat.zero_le _, HJ⟩
  case round =>
    clear HJ
    obtain ⟨j, r, A1, A2, q1, q2, c1, c2, rfl, hj, HJ⟩ := hrel
    by_cases hlt : j < n
    · have hjs : j < ss.length := by rw [HN.out]; exact hlt
      obtain ⟨gA, oA, A3, q3, c3, A4, q4, c4, rfl, hgA, e1, e2, r1, r2⟩ := (HR.out.step HJ.out.be).at21 hjs
      obtain ⟨V, hV⟩ : ∃ V, wr.alloc (.cells #[.slice A3 q3 c3, .slice A4 q4 c4] 40) = V := ⟨_, rfl⟩
      have bV : Below wr.heap.size wr V := by rw [← hV]; exact (Below.refl _ wr).alloc (Nat.le_refl _) _
      obtain ⟨gS, hgS⟩ : ∃ k, wr.heap.size = k := ⟨_, rfl⟩
      have hX : BoxC V gS (.slice A3 q3 c3) (.slice A4 q4 c4) := by rw [← hV, ← hgS]; exact BoxC.new _ _ _
      have HJ := Lib.hid (HJ.out.step bV)
      have R1 := Lib.hid (r1.step bV)
      have R2 := Lib.hid (r2.step bV)
      have hok := HO.out _ (List.getElem_mem hjs)
      have hfm := (HF.out _ (List.getElem_mem hjs)).1
      have hpb := Nat.le_trans (prodC_part HO.out j) HB.out
      have hrb := Nat.le_trans (nbits_mono (Nat.le_of_lt HJ.out.is.1)) hpb
      have x0 := hX.c0
      have x1 := hX.c1
      have z0 := HJ.out.box.c0
      have z1 := HJ.out.box.c1
      by_cases hg1 : Nat.gcd (prodC (ss.take j)) ss[j].m = 1
      · have C4 := Lib.hid (both_ok HJ.out.nM HJ.out.nR R1.out R2.out hpb hrb hfm hok hg1)
        have HG := Lib.hid hg1
        have HK := Lib.hid hok
        clear r1 r2 bV hX hok hfm hpb hrb hg1
        go_wp2_with fail
        refine (C4.out).mono ?_
        rintro e u1 ⟨X, q, d, Y, p, f, v, rfl, hXn, hYn, hv, b4⟩
        have HJ := Lib.hid (HJ.out.step b4)
        have z0 := HJ.out.box.c0
        have z1 := HJ.out.box.c1
        have y0 := HJ.out.box.soft 0
        have y1 := HJ.out.box.soft 1
        have HP := Lib.hid (HJ.out.put hjs hXn hYn hv HK.out HG.out)
        clear b4 C4 hXn hYn hv x0 x1 e1 e2 hV hgS HJ
        go_wp2_with fail
        go_roundw
        case rel => exact ⟨_, _, _, _, _, _, _, _, by go_num, by omega, HP⟩
        case measure => simp [intOf]; omega
      · have C4 := Lib.hid (both_no (A2 := A2) (q2 := q2) (c2 := c2) (A4 := A4) (q4 := q4) (c4 := c4) HJ.out.nM R1.out hpb hfm hg1)
        have HE := Lib.hid (show EndFlag21 10 ss from by unfold EndFlag21; rw [errC_inv HO.out HB.out (not_cop21 hjs hg1)]; rfl)
        clear r1 r2 bV hX hok hfm hpb hrb hg1
        go_wp2_with fail
        refine (C4.out).mono ?_
        rintro e u1 ⟨rfl, b4⟩
        have HJ := Lib.hid (HJ.out.step b4)
        have z0 := HJ.out.box.c0
        have z1 := HJ.out.box.c1
        have y0 := HJ.out.box.soft 0
        have y1 := HJ.out.box.soft 1
        have hP := HJ.out.put_be (.slice none 0 0) (.slice none 0 0)
        have HP := Lib.hid hP
        clear b4 C4 x0 x1 e1 e2 hV hgS hP
        go_wp2_with fail
        go_ret3
        exact OutJoin.err HE.out (by omega) HP.out
    · obtain rfl : j = n := by omega
      have hI := HJ.out.is
      have hC := HJ.out.cop
      have nM := HJ.out.nM
      rw [← HN.out, List.take_length] at hI hC nM
      have h0 : errC ss = 0 := errC_ok HO.out HB.out hC
      have HE := Lib.hid (show EndFlag21 0 ss from by unfold EndFlag21; rw [h0]; rfl)
      obtain ⟨V, hV⟩ : ∃ V, wr.drew = V := ⟨_, rfl⟩
      have bd : Below wr.heap.size wr V := by rw [← hV]; exact drawn21 1
      have HJ := Lib.hid (HJ.out.step bd)
      have HM := Lib.hid (show NatIs V A1 q1 c1 (ansM ss) by rw [ansM_ok h0]; exact nM.step bd)
      have HRr := Lib.hid (show NatIs V A2 q2 c2 (ansR ss) by rw [ansR_eq h0 hI]; exact HJ.out.nR)
      have z0 := HJ.out.box.c0
      have z1 := HJ.out.box.c1
      clear hI hC nM h0 bd
      go_wp2_with fail
      refine wp_region_any (by kernel_rfl) ?_
      change wpAny _ _ _ _ _ _ _ wr.drew
      rw [hV]
      clear hV
      refine anyK.toAny (B := fun u => u.cell? ⟨g, 0, none⟩ = some (.slice A1 q1 c1) ∧ u.cell? ⟨g, 1, none⟩ = some (.slice A2 q2 c2)) ?_
      refine anyK_take (i := 0) (d := 31) (v := .pointer (some ⟨g, 1, none⟩)) rfl rfl (by kernel_rfl) (by kernel_rfl) (by kernel_rfl) (fun _ _ _ h => h) ⟨by kernel_rfl, fun W hW => by obtain ⟨hW1, hW2⟩ := hW; go_simp⟩ ?_
      refine anyK_take (i := 1) (d := 32) (v := .slice A2 q2 c2) rfl rfl (by kernel_rfl) (by kernel_rfl) (by kernel_rfl) (fun _ _ _ h => h) ⟨by kernel_rfl, fun W hW => by obtain ⟨hW1, hW2⟩ := hW; go_simp⟩ ?_
      refine anyK_take (i := 2) (d := 33) (v := .pointer (some ⟨g, 0, none⟩)) rfl rfl (by kernel_rfl) (by kernel_rfl) (by kernel_rfl) (fun _ _ _ h => h) ⟨by kernel_rfl, fun W hW => by obtain ⟨hW1, hW2⟩ := hW; go_simp⟩ ?_
      refine anyK_take (i := 3) (d := 34) (v := .slice A1 q1 c1) rfl rfl (by kernel_rfl) (by kernel_rfl) (by kernel_rfl) (fun _ _ _ h => h) ⟨by kernel_rfl, fun W hW => by obtain ⟨hW1, hW2⟩ := hW; go_simp⟩ ?_
      refine anyK_take (i := 4) (d := 2) (v := .slice A2 q2 c2) rfl rfl (by kernel_rfl) (by kernel_rfl) (by kernel_rfl) (fun _ _ _ h => h) ⟨by kernel_rfl, fun W hW => by obtain ⟨hW1, hW2⟩ := hW; go_simp⟩ ?_
      refine anyK_take (i := 5) (d := 3) (v := .slice A1 q1 c1) rfl rfl (by kernel_rfl) (by kernel_rfl) (by kernel_rfl) (fun _ _ _ h => h) ⟨by kernel_rfl, fun W hW => by obtain ⟨hW1, hW2⟩ := hW; go_simp⟩ ?_
      refine anyK_take (i := 6) (d := 4) (v := .int .i64 0) rfl rfl (by kernel_rfl) (by kernel_rfl) (by kernel_rfl) (fun _ _ _ h => h) ⟨by kernel_rfl, fun W hW => by obtain ⟨hW1, hW2⟩ := hW; go_simp⟩ ?_
      refine anyK_done (by kernel_rfl) ⟨z0, z1⟩ ?_
      go_step
      go_simp
      go_wp2_with fail
      go_ret3
      refine ⟨A2, q2, c2, A1, q1, c1, ?_, HRr.out, HM.out, HJ.out.be⟩
      rw [HE.out]
      rfl
/-- Join. -/
theorem join_pf {w : World} {A : Option Addr} {n c : Nat} {ss : List CR} (h : RdRests w A ss) (hn : ss.length = n) (hf : FewC ss) (hl : n ≤ 1000) : Calls Try.prog 7 #[.slice A n c] w (OutJoin ss w) := by
  by_cases ho : AllOk ss
  · by_cases hb : nbits (prodC ss) ≤ 1024
    · exact join_loop h hn hf hl ho hb
    · exact join_many h hn hf hl ho hb
  · exact join_arg h hn hf hl ho
end Go.Proofs.Ytgmolbiicclcaaa
/- Rows of rests that grow: numbers in memory of their own, and append. Conditions: as typed. -/
namespace Go.Proofs.Ytgmolbiicclcaaa
open Go.RowKit
set_option maxRecDepth 20000
theorem rest_info21 : (Try.prog.info? 40).map (fun i => (i.zero, i.size, i.bytes)) = some (some (.agg #[.slice none 0 0, .slice none 0 0]), 2, 48) := by kernel_rfl
/-- A number in a block that holds nothing but words. -/
def NO (w : World) (v : Value) (n : Nat) : Prop := ∃ A q c, v = .slice A q c ∧ NatIs w A q c n ∧ ∃ l : List Nat, w.ownsRow 0 24 1 (.slice A q c) q (ints .u64 l) ∧ l = wd n
theorem NO.nv {w : World} {v : Value} {n : Nat} (h : NO w v n) : NV w v n := by
  obtain ⟨A, q, c, e, h, _⟩ := h
  exact ⟨A, q, c, e, h⟩
theorem NO.nil (w : World) : NO w (.slice none 0 0) 0 := by
  refine ⟨none, 0, 0, rfl, natIs_zero5 w none 0, [], World.ownsRow_nil w 0 24 1, ?_⟩
  exact (List.eq_nil_of_length_eq_zero (by rw [length_wd, nbits_zero])).symm
theorem natIs_row21 {w : World} {A : Option Addr} {q c n : Nat} (hq : (wd n).length = q) (h5 : q ≤ 50000) (h : w.ownsRow 0 24 1 (.slice A q c) q (ints .u64 (wd n))) : NatIs w A q c n := by
  refine ⟨hq, h5, Rd.own h, ?_⟩
  obtain ⟨A2, c2, e, hc, _⟩ := own_form h
  injection e with e1 e2 e3
  subst e3
  exact hc
/-- Whatever happens beside its own block. -/
theorem NO.kept {w w' : World} {v : Value} {n : Nat} {row : Option Nat} (h : NO w v n) (hg : w.grownBy w' row) (hne : v.ownBlock = none ∨ v.ownBlock ≠ row) : NO w' v n := by
  obtain ⟨A, q, c, rfl, hi, l, ho, rfl⟩ := h
  have h2 := ho.kept hg hne
  exact ⟨A, q, c, rfl, natIs_row21 hi.1 hi.2.1 h2, wd n, h2, rfl⟩
theorem NO.step {w w' : World} {v : Value} {n : Nat} (h : NO w v n) (b : Below w.heap.size w w') : NO w' v n := by
  refine h.kept (row := none) ⟨b.os, b.tape, b.output, b.size, fun i hi _ => b.block i hi⟩ ?_
  rcases hv : v.ownBlock with _ | x
  · exact .inl rfl
  · exact .inr (by simp)
/-- A row of rests lies elsewhere. -/
theorem NO.beside {w w' : World} {v u : Value} {n m base : Nat} {xs : List Value} (h : NO w v n) (o : w.ownsRow base 40 2 u m xs) (hg : w.grownBy w' u.ownBlock) : NO w' v n := by
  refine h.kept hg ?_
  obtain ⟨A, q, c, rfl, _, l, ho, _⟩ := h
  rcases ho.2 with ⟨h1, _⟩ | ⟨k, cap, cur, h1, _, hh, _⟩
  · left; rw [h1]; rfl
  · right
    rcases o.2 with ⟨rfl, _⟩ | ⟨k2, cap2, cur2, rfl, _, hh2, _⟩
    · rw [h1]; simp [Value.ownBlock]
    · rw [h1]
      intro e
      simp only [Value.ownBlock, Option.some.injEq] at e
      subst e
      rw [hh] at hh2
      injection hh2 with hh2
      injection hh2 with _ e2
      cases e2
/-- Values that are rests, two by two. -/
def Pairs (w : World) (xs : List Value) (ss : List CR) : Prop := ∀ j (hj : j < ss.length), ∃ vM vR, xs[j * 2]? = some vM ∧ xs[j * 2 + 1]? = some vR ∧ NO w vM ss[j].m ∧ NO w vR ss[j].r
/-- A row of rests of the call's own, with numbers of their own. -/
def OwnR (w : World) (base : Nat) (v : Value) (n : Nat) (ss : List CR) : Prop := ss.length = n ∧ ∃ xs, w.ownsRow base 40 2 v n xs ∧ Pairs w xs ss
theorem OwnR.nil (w : World) (base : Nat) : OwnR w base (.slice none 0 0) 0 [] := ⟨rfl, [], World.ownsRow_nil w base 40 2, fun j hj => by cases hj⟩
theorem OwnR.step {w w' : World} {base n : Nat} {v : Value} {ss : List CR} (h : OwnR w base v n ss) (b : Below w.heap.size w w') : OwnR w' base v n ss := by
  obtain ⟨hn, xs, ho, hp⟩ := h
  refine ⟨hn, xs, ho.kept (row := none) ⟨b.os, b.tape, b.output, b.size, fun i hi _ => b.block i hi⟩ ?_, fun j hj => ?_⟩
  · rcases hv : v.ownBlock with _ | x
    · exact .inl rfl
    · exact .inr (by simp)
  · obtain ⟨vM, vR, h1, h2, h3, h4⟩ := hp j hj
    exact ⟨vM, vR, h1, h2, h3.step b, h4.step b⟩
theorem OwnR.form {w : World} {base n : Nat} {v : Value} {ss : List CR} (h : OwnR w base v n ss) : ∃ A c, v = .slice A n c ∧ n ≤ c := by
  obtain ⟨hn, xs, ho, _⟩ := h
  rcases ho.2 with ⟨rfl, rfl⟩ | ⟨g, cap, cur, rfl, _, _, hc, _⟩
  · exact ⟨none, 0, rfl, Nat.le_refl _⟩
  · exact ⟨_, cap, rfl, hc⟩
theorem OwnR.rd {w : World} {base n : Nat} {A : Option Addr} {c : Nat} {ss : List CR} (h : OwnR w base (.slice A n c) n ss) : RdRests w A ss := fun h0 => by
  obtain ⟨rfl, xs, ho, hp⟩ := h
  rcases ho.2 with ⟨_, h1⟩ | ⟨g, cap, cur, hv, _, hh, _⟩
  · omega
  · injection hv with hA _ _
    subst hA
    refine ⟨g, 0, rfl, (Array.getElem?_eq_some_iff.1 hh).1, fun j hj => ?_⟩
    obtain ⟨vM, vR, h1, h2, h3, h4⟩ := hp j hj
    have hl := ho.1
    refine ⟨vM, vR, ?_, ?_, h3.nv, h4.nv⟩
    · rw [Nat.zero_add, ho.cellAt (j * 2) (by omega)]; exact h1
    · rw [Nat.zero_add, ho.cellAt (j * 2 + 1) (by omega)]; exact h2
theorem cells_two_new21 (w : World) (x y : Value) (t : TypeId) : ∀ j u, [x, y][j]? = some u → (w.alloc (.cells #[x, y] t)).cell? ((⟨w.heap.size, 0, none⟩ : Addr).add j) = some u := by
  intro j u hj
  rw [Addr.add_lit, Nat.zero_add, World.cell?_alloc_at _ _ _ _ rfl]
  simpa using hj
/-- append of one rest. -/
theorem OwnR.append {w : World} {base n : Nat} {v vM vR : Value} {ss : List CR} {m r : Nat} (h : OwnR w base v n ss) (hn : n ≤ 1000) (hb : base ≤ w.heap.size) (hM : NO w vM m) (hR : NO w vR r) (ty : TypeId) :
    ∃ g cap u, (Builtin.append_ #[32, 32] ty #[v, .slice (some ⟨w.heap.size, 0, none⟩) 1 1]).run Try.prog (w.alloc (.cells #[vM, vR] 40)) = .ok (.slice (some ⟨g, 0, none⟩) (n + 1) cap) u ∧
      OwnR u base (.slice (some ⟨g, 0, none⟩) (n + 1) cap) (n + 1) (ss ++ [⟨m, r⟩]) ∧ Below base w u := by
  obtain ⟨i0, hi, hz0, hz1, hz2⟩ := info_parts rest_info21
  obtain ⟨hsn, xs, ho, hp⟩ := h
  have ba : Below w.heap.size w (w.alloc (.cells #[vM, vR] 40)) := (Below.refl _ w).alloc (Nat.le_refl _) _
  have ho2 := ho.alloc (.cells #[vM, vR] 40)
  have one1 : ∀ {x : Value} {k : Nat}, NO w x k → x.oneCell' = true := by
    rintro x k ⟨A, q, c, rfl, _⟩
    rfl
  obtain ⟨g, cap, u, hrun, hown, hg, _, hlt⟩ := run_append_lies (P := Try.prog) (w.alloc (.cells #[vM, vR] 40)) 32 ty base 40 i0 _ 2 48 Try.underlying32 hi hz0 hz1 hz2 rfl (by omega) v n xs ho2
    ⟨w.heap.size, 0, none⟩ 1 1 [vM, vR] rfl (cells_two_new21 w vM vR _) (fun y hy => by
      rcases List.mem_cons.1 hy with rfl | hy
      · exact one1 hM
      · rw [List.mem_singleton.1 hy]; exact one1 hR) (by omega) (by unfold maxLen; omega) (by omega) (by simp; omega) _ rfl
  have keep : ∀ {x : Value} {k : Nat}, NO w x k → NO u x k := fun hx => (hx.step ba).beside ho2 hg
  have hxl : xs.length = n * 2 := ho.1
  refine ⟨g, cap, u, hrun, ⟨by simp [hsn], xs ++ [vM, vR], hown, fun j hj => ?_⟩, (ba.mono hb).grown hg (by simp; omega) fun k hk => (ho2.lt k hk).1⟩
  rcases Nat.lt_or_ge j n with h1 | h1
  · obtain ⟨xM, xR, e1, e2, h3, h4⟩ := hp j (by omega)
    refine ⟨xM, xR, by rw [List.getElem?_append_left (by omega)]; exact e1, by rw [List.getElem?_append_left (by omega)]; exact e2, ?_, ?_⟩
    · rw [List.getElem_append_left (by omega)]; exact keep h3
    · rw [List.getElem_append_left (by omega)]; exact keep h4
  · have : j = n := by simp at hj; omega
    subst this
    refine ⟨vM, vR, by rw [List.getElem?_append_right (by omega), hxl]; simp, by rw [List.getElem?_append_right (by omega), hxl]; simp [show j * 2 + 1 - j * 2 = 1 by omega], ?_, ?_⟩
    · rw [List.getElem_append_right (by omega)]; simpa using keep hM
    · rw [List.getElem_append_right (by omega)]; simpa using keep hR
end Go.Proofs.Ytgmolbiicclcaaa

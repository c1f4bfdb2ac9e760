/- NatBytes' walk: it answers true, and writes nothing that was there. No condition but what the arguments' types give. -/
import Derived.Test.YtnhoooadnpdnmaaNatLawsW
import Derived.Deep.RegionWith
import Derived.Deep.DeepCutAuto
namespace Go.Proofs.Ytnhoooadnpdnmaa
open Go.RowKit

/-- The slice at A, of q bytes, is M's bytes. -/
def BytIs (w : World) (A : Option Addr) (q M : Nat) : Prop := (be (blen M) M).length = q ∧ q ≤ 100000 ∧ Rd .u8 w w.heap.size A (be (blen M) M)
/-- The slice at A, of n bytes, is l. -/
def ByteRow (w : World) (A : Option Addr) (n : Nat) (l : List Nat) : Prop := l.length = n ∧ Bytes l ∧ n ≤ 100000 ∧ Rd .u8 w w.heap.size A l
def OutB (M : Nat) (w : World) (e : Ending) (w' : World) : Prop := ∃ X q d, e = .returned (.slice X q d) ∧ BytIs w' X q M ∧ Below w.heap.size w w'
def numS (M : Nat) := str (be (blen M) M)
def rowS (l : List Nat) := str l
theorem numS_same (M : Nat) : ((numS M).toList == (numS M).toList) = true := by simp
theorem rowS_same (l : List Nat) : ((rowS l).toList == (rowS l).toList) = true := by simp
section
variable {w w' : World} {A : Option Addr} {q n M d c : Nat} {l : List Nat}
theorem BytIs.step (h : BytIs w A q M) (b : Below w.heap.size w w') : BytIs w' A q M := ⟨h.1, h.2.1, rd_step h.2.2 b⟩
theorem ByteRow.step (h : ByteRow w A n l) (b : Below w.heap.size w w') : ByteRow w' A n l := ⟨h.1, h.2.1, h.2.2.1, rd_step h.2.2.2 b⟩
theorem BytIs.row (h : BytIs w A q M) : ByteRow w A q (be (blen M) M) := ⟨h.1, be_bytes _ _, h.2.1, h.2.2⟩
theorem ByteRow.str (h : ByteRow w A n l) : (convert 27 9 (.slice A n c)).run Try.prog w = .ok (.string (rowS l)) w := by
  obtain ⟨rfl, _, _, h4⟩ := h
  exact run_str (P := Try.prog) w 27 9 5 Try.underlying27 Try.underlying5 Try.underlying9 _ A _ c h4
theorem ByteRow.cell (h : ByteRow w A n l) {k : Nat} (hk : k < n) : ∃ b o, A = some ⟨b, o, none⟩ ∧ w.cell? ⟨b, o + k, none⟩ = some (.int .u8 (nth l k : Int)) := by
  obtain ⟨rfl, _, _, h4⟩ := h
  obtain ⟨b, o, rfl, _, hc⟩ := h4 (by omega)
  exact ⟨b, o, rfl, hc k hk⟩
theorem ByteRow.tailStr (h : ByteRow w A n l) (hc : n ≤ c) {k : Nat} (e : numS M = rowS (l.drop k)) : (convert 27 9 (.slice (if c = k then A else A.map (·.add k)) (n - k) (c - k))).run Try.prog w = .ok (.string (numS M)) w := by
  obtain ⟨rfl, _, _, h4⟩ := h
  rw [e]
  have h := run_str (P := Try.prog) w 27 9 5 Try.underlying27 Try.underlying5 Try.underlying9 _ _ _ (c - k) (h4.drop (i := k) hc)
  rw [List.length_drop] at h
  exact h
theorem ByteRow.tailIn {g o : Nat} (h : ByteRow w (some ⟨g, o, none⟩) n l) (hc : n ≤ c) {k : Nat} (hk : k < n) (e : numS M = rowS (l.drop k)) : (convert 27 9 (.slice (some ⟨g, o + k, none⟩) (n - k) (c - k))).run Try.prog w = .ok (.string (numS M)) w := by
  have h' := h.tailStr hc e
  rw [if_neg (show ¬ c = k by omega)] at h'
  have e2 : (some (⟨g, o, none⟩ : Addr)).map (·.add k) = some ⟨g, o + k, none⟩ := by by_cases h0 : k = 0 <;> simp [Addr.add, h0]
  rw [e2] at h'
  exact h'
theorem emptyStr (M : Nat) (e : numS M = rowS []) (A : Option Addr) (c : Nat) (u : World) : (convert 27 9 (.slice A 0 c)).run Try.prog u = .ok (.string (numS M)) u := by
  rw [e]
  exact run_str (P := Try.prog) u 27 9 5 Try.underlying27 Try.underlying5 Try.underlying9 0 A [] c (fun h => absurd h (Nat.lt_irrefl 0))
theorem BytIs.str (h : BytIs w A q M) : (convert 27 9 (.slice A q c)).run Try.prog w = .ok (.string (numS M)) w := h.row.str
theorem bNB (h : NatIn w A n c M) (hn : n ≤ 12000) : Calls Try.prog 34 #[.slice A n c] w (OutB M w) := by
  have hb := h.bits
  have hq := nbits_blen M
  obtain ⟨l, rfl, rfl, h3, h4, h5, h6⟩ := h
  refine Calls.mono (natBytes_any A c l w h5 h3 (by omega) h6) fun e w' ⟨v, he, own, b⟩ => ?_
  obtain ⟨X, d, rfl, _⟩ := own_form own
  exact ⟨X, _, d, he, ⟨length_be _ _, by omega, Rd.own own⟩, b⟩
theorem bRB (h : NumIs w A n d M) (hn : n ≤ 500000) : Calls Try.prog 35 #[.slice A n d] w (OutB M w) := by
  have hq := nbits_blen M
  obtain ⟨rfl, h2, h3, h4⟩ := h
  refine Calls.mono (bytes02_any A d M w h4 (by omega)) fun e w' ⟨v, he, own, b⟩ => ?_
  obtain ⟨X, d, rfl, _⟩ := own_form own
  exact ⟨X, _, d, he, ⟨length_be _ _, by omega, Rd.own own⟩, b⟩
theorem val_bits (l : List Nat) (h : Bytes l) : nbits (val l) ≤ 8 * l.length := by
  refine nbits_of_lt _ _ ?_
  rw [← pow_256]
  exact val_lt l h
theorem bNF (h : ByteRow w A n l) : Calls Try.prog 33 #[.slice A n c] w (OutN (val l) w) := by
  obtain ⟨rfl, h2, h3, h4⟩ := h
  have := val_bits l h2
  exact Calls.mono (natFromBytes_any A c l w h4 h2 (by omega)) fun _ _ h => h.out (by omega)
theorem bRF (h : ByteRow w A n l) : Calls Try.prog 32 #[.slice A n c] w (OutD (val l) w) := by
  obtain ⟨rfl, h2, h3, h4⟩ := h
  have := val_bits l h2
  exact Calls.mono (fromBytes02_any A c l w h4 h2 (by omega)) fun _ _ h => h.out (by omega)
end
theorem bNF_num {w : World} {A : Option Addr} {q M c : Nat} (h : BytIs w A q M) : Calls Try.prog 33 #[.slice A q c] w (OutN M w) := by
  have h' := bNF (c := c) h.row
  rwa [val_be, Nat.mod_eq_of_lt (blen_lt M)] at h'
/-- Behind the noughts ahead stand the number's bytes. -/
theorem drop_noughts (l : List Nat) (hb : Bytes l) (k : Nat) (hz : ∀ j, j < k → nth l j = 0) (hk : k ≤ l.length) (hn : k < l.length → nth l k ≠ 0) : numS (val l) = rowS (l.drop k) := by
  induction k generalizing l with
  | zero =>
    unfold numS rowS
    rw [List.drop_zero]
    cases l with
    | nil => rfl
    | cons x r =>
      have hx : x ≠ 0 := by simpa [nth] using hn (by simp)
      rw [blen_val x r hb hx, be_val _ hb]
  | succ k ih =>
    cases l with
    | nil => simp at hk
    | cons x r =>
      have hx : x = 0 := by simpa [nth] using hz 0 (by omega)
      subst hx
      have e : val (0 :: r) = val r := by simp [val]
      rw [e, List.drop_succ_cons]
      exact ih r (fun y hy => hb y (by simp [hy])) (fun j hj => by simpa [nth] using hz (j + 1) (by omega)) (by simpa using hk) (fun h => by simpa [nth] using hn (by simpa using h))

set_option maxHeartbeats 4000000 in
set_option maxRecDepth 100000 in
theorem natBytes_in (A0 : Option Addr) (c0 : Nat) (l0 : List Nat) (A1 : Option Addr) (c1 : Nat) (l1 : List Nat) (w : World) (P0 : RowIs w A0 l0.length c0 l0) (P1 : ByteRow w A1 l1.length l1) (hv : ¬ 40 < l0.length) (hv1 : ¬ 400 < l1.length) (u1 : l1.length ≤ c1) :
    Calls Try.prog 6 #[.slice A0 l0.length c0, .slice A1 l1.length c1] w fun e w' => e = .returned (.bool true) ∧ Below w.heap.size w w' := by
  obtain ⟨i0, hi, hz0, hz1, hz2⟩ := info_parts num_info_u8
  go_enter Try.func6, Try.ntmps6
  go_wp2_with fail
  refine (vast_no _ _ _ _ (by omega)).mono ?_
  rintro e w1 ⟨rfl, rfl⟩
  go_wp2_with fail
  refine (bDigits (c := c0) P0.in_).mono ?_
  rintro e w1 ⟨X1, n1, d1, rfl, D1, b1⟩
  have B1 := b1
  have P0 := P0.step b1
  have P1 := P1.step b1
  go_wp2_with fail
  refine (bRF (c := c1) P1).mono ?_
  rintro e w2 ⟨X2, n2, d2, rfl, D2, b2⟩
  have B2 := below_step B1 b2
  have P0 := P0.step b2
  have P1 := P1.step b2
  have D1 := D1.step b2
  have R1 := P1.2.2.2
  go_wp2_with (at_builtin; refine wpList_append_rd _ rfl (.tmp 22) (.tmp 23) _ rfl w2.heap.size 5 i0 _ 1 Try.underlying27 hi hz0 hz1 hz2 rfl (.slice (some ⟨w2.heap.size, 0, none⟩) 0 0) 0 [] rfl ?c1 .u8 w2.heap.size A1 l1.length c1 l1 rfl rfl ?c2 ?c3 ?c4 ?c5 ?_)
  case c1 => exact own_of_heap (cur := []) (heap_alloc_new w2 (.cells #[] 5)) (Nat.le_refl _) (Nat.le_refl _) (Nat.zero_le _) rfl rfl
  case c2 => exact R1.below ((Below.refl _ _).alloc (Nat.le_refl _) _)
  case c3 => unfold maxLen; omega
  case c4 => omega
  case c5 => simp
  intro v3 w3 own3 hg3
  have b3 : Below w2.heap.size w2 w3 := ((Below.refl _ _).alloc (Nat.le_refl _) _).grown hg3 (by simp) (by simp [Value.ownBlock])
  have B3 := below_step B2 b3
  have own3' : w3.ownsRow w2.heap.size 5 1 v3 l1.length (ints .u8 l1) := by simpa [Nat.zero_add] using own3
  obtain ⟨X3, d3, rfl, _⟩ := own_form own3'
  have P3 : ByteRow w3 X3 l1.length l1 := ⟨rfl, P1.2.1, P1.2.2.1, Rd.own own3'⟩
  clear own3 own3' hg3 R1 hi hz0 hz1 hz2
  have P0 := P0.step b3
  have P1 := P1.step b3
  have D1 := D1.step b3
  have D2 := D2.step b3
  go_wp2_with fail
  refine (bNF (c := d3) P3).mono ?_
  rintro e w4 ⟨X4, q4, d4, rfl, N4, _, b4⟩
  have B4 := below_step B3 b4
  have P0 := P0.step b4
  have P1 := P1.step b4
  have P3 := P3.step b4
  have D1 := D1.step b4
  have D2 := D2.step b4
  have hq4 : q4 ≤ 51 := by have h := val_bits l1 P1.2.1; have h1 := length_wd (val l1); have h2 := N4.1; omega
  have hn1b : n1 ≤ 5000 := by have h := P0.in_.bits; have h1 := D1.1; omega
  go_upto_region 7 with fail
  go_cut [46] (fun s wx => s = .bool false ∧ NumIs wx X1 n1 d1 (natOf l0) ∧ NatIs wx X4 q4 d4 (val l1) ∧ RowIs wx A0 l0.length c0 l0 ∧ ByteRow wx A1 l1.length l1 ∧ Below w.heap.size w wx)
  case first =>
    go_region_with (first
      | (go_at_call 34; refine (bNB (w := w4.drew) (c := c0) P0.in_ (by omega)).mono ?_; rintro e wa ⟨Xa, qa, da, rfl, Ba, ba⟩; have sa := Ba.str (c := da); have Bwa := below_step (w := w4.drew) B4.drew ba; have D1 := D1.step (w := w4.drew) ba; have D2 := D2.step (w := w4.drew) ba; have N4 := N4.step (w := w4.drew) ba; have P0 := P0.step (w := w4.drew) ba; have P1 := P1.step (w := w4.drew) ba; have P3 := P3.step (w := w4.drew) ba)
      | (go_at_call 35; refine (bRB D1 (by omega)).mono ?_; rintro e wb ⟨Xb, qb, db, rfl, Bb, bb⟩; have sb := Bb.str (c := db); have sa := (Ba.step bb).str (c := da); have Bwb := below_step Bwa bb; have D1 := D1.step bb; have D2 := D2.step bb; have N4 := N4.step bb; have P0 := P0.step bb; have P1 := P1.step bb; have P3 := P3.step bb)
      | (go_at_call 16; refine (bIs (c := d4) N4 D2).mono ?_; rintro e wc ⟨rfl, bc⟩; have Bwc := below_step Bwb bc; have D1 := D1.step bc; have N4 := N4.step bc; have P0 := P0.step bc; have P1 := P1.step bc; have P3 := P3.step bc; have sp := P3.str (c := d3); have sq := P1.str (c := c1)))
    all_goals clear sp sq sa sb
    all_goals (go_wp2_with fail; go_meet; exact ⟨rfl, D1, N4, P0, P1, Bwc⟩)
  case rest =>
    obtain ⟨rfl, D1, N4, P0, P1, B5⟩ := hcut
    go_wp2_with fail
    go_loopw [9] (fun j wr => ∃ k : Nat, k ≤ l1.length ∧ j = .int .i64 k ∧ (∀ t, t < k → nth l1 t = 0) ∧ wc = wr) (fun j _ => l1.length - (intOf j).toNat)
    case atStart => exact ⟨0, Nat.zero_le _, rfl, fun _ h => absurd h (Nat.not_lt_zero _), rfl⟩
    case round =>
      obtain ⟨k, hk, rfl, hz, rfl⟩ := hrel
      have HZ := Lib.hid hz
      clear hz
      by_cases hlt : k < l1.length
      · obtain ⟨g, o, rfl, hc⟩ := P1.cell hlt
        by_cases h0 : nth l1 k = 0
        · have HR := Lib.hid (show (∀ t, t < k + 1 → nth l1 t = 0) ∧ True from ⟨fun t ht => by
            by_cases h : t < k
            · exact HZ.out t h
            · obtain rfl : t = k := by omega
              exact h0, trivial⟩)
          rw [h0] at hc
          go_wp2_with fail
          go_roundw
          case rel => exact ⟨k + 1, by omega, by go_num, HR.out⟩
          case measure => simp [intOf]; omega
        · have hne : ((nth l1 k : Int) == 0) = false := by simp; omega
          have hs := drop_noughts l1 P1.2.1 k HZ.out hk (fun _ => h0)
          have st := P1.tailIn (w := wc.drew) u1 hlt hs
          have Hs := Lib.hid hs
          clear hs
          go_wp2_with fail
          go_region_with (first
            | (go_at_call_of 34 (Value.slice X4 q4 d4); refine (bNB (w := wc.drew) (c := d4) N4.in_ (by omega)).mono ?_; rintro e wd ⟨Xd, qd, dd, rfl, Bd, bd⟩; have sd := Bd.str (c := dd); have Bwd := below_step (w := wc.drew) B5.drew bd; have D1 := D1.step (w := wc.drew) bd; have P0 := P0.step (w := wc.drew) bd; have P1 := P1.step (w := wc.drew) bd; have st := P1.tailIn u1 hlt Hs.out)
            | (go_at_call_of 34 (Value.slice A0 l0.length c0); refine (bNB (c := c0) P0.in_ (by omega)).mono ?_; rintro e wf ⟨Xf, qf, df, rfl, Bf, bf⟩; have Bwf := below_step Bwd bf; have D1 := D1.step bf)
            | (go_at_call 33; refine (bNF_num (c := df) Bf).mono ?_; rintro e wg ⟨Xg, qg, dg, rfl, Ng, _, bg⟩; have Bwg := below_step Bwf bg; have D1 := D1.step bg)
            | (go_at_call 16; refine (bIs (c := dg) Ng D1).mono ?_; rintro e wh ⟨rfl, bh⟩; have Bwh := below_step Bwg bh)
            | (go_at_call 10; refine (natWorks_any _).mono ?_; rintro e wi ⟨rfl, bi⟩; have Bwi := below_step Bwh bi))
          all_goals (go_wp2_with fail; go_ret; exact ⟨rfl, Bwi⟩)
      · obtain rfl : k = l1.length := by omega
        have hs := drop_noughts l1 P1.2.1 l1.length HZ.out hk (fun h => absurd h hlt)
        rw [List.drop_length] at hs
        have st := emptyStr (val l1) hs
        clear hs HZ
        by_cases hck : c1 = l1.length
        all_goals
          go_wp2_with fail
          go_region_with (first
            | (go_at_call_of 34 (Value.slice X4 q4 d4); refine (bNB (w := wc.drew) (c := d4) N4.in_ (by omega)).mono ?_; rintro e wd ⟨Xd, qd, dd, rfl, Bd, bd⟩; have sd := Bd.str (c := dd); have Bwd := below_step (w := wc.drew) B5.drew bd; have D1 := D1.step (w := wc.drew) bd; have P0 := P0.step (w := wc.drew) bd; have P1 := P1.step (w := wc.drew) bd)
            | (go_at_call_of 34 (Value.slice A0 l0.length c0); refine (bNB (c := c0) P0.in_ (by omega)).mono ?_; rintro e wf ⟨Xf, qf, df, rfl, Bf, bf⟩; have Bwf := below_step Bwd bf; have D1 := D1.step bf)
            | (go_at_call 33; refine (bNF_num (c := df) Bf).mono ?_; rintro e wg ⟨Xg, qg, dg, rfl, Ng, _, bg⟩; have Bwg := below_step Bwf bg; have D1 := D1.step bg)
            | (go_at_call 16; refine (bIs (c := dg) Ng D1).mono ?_; rintro e wh ⟨rfl, bh⟩; have Bwh := below_step Bwg bh)
            | (go_at_call 10; refine (natWorks_any _).mono ?_; rintro e wi ⟨rfl, bi⟩; have Bwi := below_step Bwh bi))
          all_goals (go_wp2_with fail; go_ret; exact ⟨rfl, Bwi⟩)
theorem natBytes_walk (A0 : Option Addr) (c0 : Nat) (l0 : List Nat) (A1 : Option Addr) (c1 : Nat) (l1 : List Nat) (w : World) (r0 : Rd .u64 w w.heap.size A0 l0) (y0 : Words l0) (_z0 : l0.length * 8 ≤ 140737488351232) (u0 : l0.length ≤ c0)
    (r1 : Rd .u8 w w.heap.size A1 l1) (y1 : Bytes l1) (z1 : l1.length * 1 ≤ 140737488351232) (u1 : l1.length ≤ c1) :
    Calls Try.prog 6 #[.slice A0 l0.length c0, .slice A1 l1.length c1] w fun e w' => e = .returned (.bool true) ∧ Below w.heap.size w w' := by
  by_cases hv : 40 < l0.length
  · go_enter Try.func6, Try.ntmps6
    go_wp2_with fail
    refine (vast_yes _ _ _ _ hv).mono ?_
    rintro e w1 ⟨rfl, rfl⟩
    go_wp2_with fail
    refine (natWorks_any _).mono ?_
    rintro e w1 ⟨rfl, b1⟩
    go_wp2_with fail
    go_ret
    exact ⟨rfl, b1⟩
  · by_cases hv1 : 400 < l1.length
    · go_enter Try.func6, Try.ntmps6
      go_wp2_with fail
      refine (vast_no _ _ _ _ (by omega)).mono ?_
      rintro e w1 ⟨rfl, rfl⟩
      go_wp2_with fail
      refine (natWorks_any _).mono ?_
      rintro e w1 ⟨rfl, b1⟩
      go_wp2_with fail
      go_ret
      exact ⟨rfl, b1⟩
    · exact natBytes_in A0 c0 l0 A1 c1 l1 w ⟨rfl, y0, by omega, r0, u0⟩ ⟨rfl, y1, by omega, r1⟩ hv hv1 u1
end Go.Proofs.Ytnhoooadnpdnmaa

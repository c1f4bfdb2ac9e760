/- Several texts in one; each begins with a remark that says what it shows and on which conditions. -/
import Derived.Test.YtgmolbiicclcaaaKay
import Derived.Test.YtgmolbiicclcaaaKaz
import Derived.BigGuard
import Derived.BigCall
import Derived.BigQuiet
/- The small functions of chapter 21's laws: numbers of a word, Same, Small, the greatest common factor of words, rests as words. Conditions: as typed. -/
namespace Go.Proofs.Ytgmolbiicclcaaa
open Go.RowKit
set_option maxRecDepth 20000
/-- A number is answered, in a block of its own. -/
def OutO (x : Nat) (w : World) (e : Ending) (w' : World) : Prop := ∃ A q d, e = .returned (.slice A q d) ∧ NO w' (.slice A q d) x ∧ Below w.heap.size w w'
theorem wd_word21 (x : Nat) (h : x < 18446744073709551616) (h0 : x ≠ 0) : wd x = [x] := (wd_one x h h0).1
theorem nat16_any (w : World) (x : Nat) (hl : x < 18446744073709551616) : Calls Try.prog 13 #[.int .u64 (x : Int)] w (OutO x w) := by
  by_cases h0 : x = 0
  · subst h0
    go_enter Try.func13, Try.ntmps13
    go_wp2_with fail
    go_ret
    exact ⟨none, 0, 0, rfl, NO.nil w, Below.refl _ _⟩
  · have hb : ((x : Int) == 0) = false := by simp; omega
    have HS := Lib.hid (show NO (w.alloc (.cells #[.int .u64 (x : Int)] 24)) (.slice (some ⟨w.heap.size, 0, none⟩) 1 1) x from by
      have e := wd_word21 x hl h0
      have ho : (w.alloc (.cells #[.int .u64 (x : Int)] 24)).ownsRow 0 24 1 (.slice (some ⟨w.heap.size, 0, none⟩) 1 1) 1 (ints .u64 (wd x)) := by
        rw [e]
        exact own_of_heap (base := 0) (e := 24) (n := 1) (cap := 1) (cur := [.int .u64 (x : Int)]) (xs := ints .u64 [x]) (World.alloc_heap_new w _) (Nat.zero_le _) (Nat.le_refl _) (by unfold maxLen; omega) rfl rfl
      exact ⟨_, 1, 1, rfl, natIs_row21 (by rw [e]; rfl) (by omega) ho, wd x, ho, rfl⟩)
    clear h0
    go_enter Try.func13, Try.ntmps13
    go_wp2_with fail
    go_ret
    exact ⟨_, 1, 1, rfl, HS.out, (Below.refl _ w).alloc (Nat.le_refl _) _⟩
theorem nat21_any (w : World) (x : Nat) (hl : x < 18446744073709551616) : Calls Try.prog 11 #[.int .u64 (x : Int)] w (OutO x w) := by
  have C1 := Lib.hid (nat16_any w x hl)
  clear hl
  go_enter Try.func11, Try.ntmps11
  go_wp2_with fail
  refine (C1.out).mono ?_
  rintro e w1 ⟨A, q, d, rfl, h1, b1⟩
  have B1 := Lib.hid b1
  have H1 := Lib.hid h1
  clear b1 C1 h1
  go_wp2_with fail
  go_ret
  exact ⟨A, q, d, rfl, H1.out, B1.out⟩
set_option maxHeartbeats 400000 in
theorem same16_row (A A2 : Option Addr) (c c2 : Nat) (l m : List Nat) (w : World) (B : Nat) (h1 : Rd .u64 w B A l) (h2 : Rd .u64 w B A2 m) (hl : l.length ≤ 1099511627776) (_hm : m.length ≤ 1099511627776) :
    Calls Try.prog 10 #[.slice A l.length c, .slice A2 m.length c2] w fun e w' => e = .returned (.bool (decide (l = m))) ∧ Drawn w w' := by
  by_cases hne : l.length = m.length
  · have hb : ((l.length : Int) != (m.length : Int)) = false := by simp [hne]
    have Hne := Lib.hid hne
    clear hne
    go_enter Try.func10, Try.ntmps10
    go_wp2_with fail
    go_loopw [5] (fun i wr => ∃ k : Nat, k ≤ l.length ∧ i = .int .i64 k ∧ (∀ j, j < k → nth l j = nth m j) ∧ Drawn w wr) (fun i _ => l.length - (intOf i).toNat)
    case atStart => exact ⟨0, Nat.zero_le _, rfl, fun j hj => absurd hj (by omega), Drawn.refl w⟩
    case round =>
      obtain ⟨k, hk, rfl, hsame, nq, rfl⟩ := hrel
      have Hs := Lib.hid hsame
      clear hsame
      by_cases hlt : k < l.length
      · obtain ⟨b, off, rfl, _, hc⟩ := h1 (by omega)
        obtain ⟨b2, off2, rfl, _, hc2⟩ := h2 (by have := Hne.out; omega)
        have e1 := hc k hlt
        have e2 := hc2 k (by have := Hne.out; omega)
        have hkm : k < m.length := by have := Hne.out; omega
        clear hc hc2
        by_cases hx : nth l k = nth m k
        · have hxb : (((nth l k : Nat) : Int) != ((nth m k : Nat) : Int)) = false := by simp [hx]
          have Hx := Lib.hid hx
          clear hx
          go_wp2_with fail
          go_quiet (fail)
          go_wp2_with fail
          go_roundw
          case rel => exact ⟨k + 1, by omega, by go_num, fun j hj => by (rcases Nat.lt_succ_iff_lt_or_eq.1 hj with h | rfl); exact Hs.out j h; exact Hx.out, Drawn.more _⟩
          case measure => simp [intOf]; omega
        · have hxb : (((nth l k : Nat) : Int) != ((nth m k : Nat) : Int)) = true := by simp; omega
          have Hx := Lib.hid hx
          clear hx
          go_wp2_with fail
          go_quiet (fail)
          go_wp2_with fail
          go_ret
          refine ⟨?_, (Drawn.more _).draws _⟩
          have : l ≠ m := fun e => Hx.out (by rw [e])
          simp [this]
      · go_wp2_with fail
        go_ret
        refine ⟨?_, Drawn.more _⟩
        have : l = m := ext_nth _ _ Hne.out fun j hj => Hs.out j (by omega)
        simp [this]
  · have hb : ((l.length : Int) != (m.length : Int)) = true := by simp; omega
    have Hne := Lib.hid hne
    clear hne
    go_enter Try.func10, Try.ntmps10
    go_wp2_with fail
    go_ret
    refine ⟨?_, Drawn.refl _⟩
    have : l ≠ m := fun e => Hne.out (by rw [e])
    simp [this]
theorem same16_any {w : World} {A A2 : Option Addr} {n m c c2 M N : Nat} (h : NatIs w A n c M) (k : NatIs w A2 m c2 N) (b : Bool) (hb : b = true ↔ M = N) : Calls Try.prog 10 #[.slice A n c, .slice A2 m c2] w fun e w' => e = .returned (.bool b) ∧ Below w.heap.size w w' := by
  obtain ⟨h1, h2, h3, h4⟩ := h
  obtain ⟨k1, k2, k3, k4⟩ := k
  have hc := same16_row A A2 c c2 (wd M) (wd N) w w.heap.size h3 k3 (by omega) (by omega)
  rw [h1, k1] at hc
  have e2 : decide (wd M = wd N) = b := by rw [Bool.eq_iff_iff, decide_eq_true_eq, wd_inj, hb]
  exact Calls.mono hc fun e w' ⟨he, hd⟩ => ⟨by rw [he, e2], hd.below _⟩
set_option maxHeartbeats 1000000 in
theorem small16_any {w : World} {A : Option Addr} {n c M : Nat} (h : NatIs w A n c M) (hM : M < 4611686018427387904) : Calls Try.prog 12 #[.slice A n c] w fun e w' => e = .returned (.tuple #[.int .u64 (M : Int), .bool true]) ∧ Below w.heap.size w w' := by
  by_cases h0 : M = 0
  · subst h0
    obtain rfl : n = 0 := by have := h.1; rw [length_wd, nbits_zero] at this; omega
    clear h
    go_enter Try.func12, Try.ntmps12
    go_wp2_with fail
    go_ret2
    exact ⟨rfl, Below.refl _ _⟩
  · have e := wd_word21 M (by omega) h0
    obtain ⟨h1, _, h3, h4⟩ := h
    rw [e] at h1 h3
    obtain rfl : n = 1 := h1.symm
    obtain ⟨b, off, rfl, _, hc⟩ := h3 (by simp)
    have e0 : w.cell? ⟨b, off, none⟩ = some (.int .u64 (M : Int)) := hc 0 (by simp)
    have g1 : 0 < M := by omega
    have G1 := Lib.hid g1
    have G2 := Lib.hid hM
    clear hc h3 e h1 hM h0 g1
    go_enter Try.func12, Try.ntmps12
    obtain ⟨V, hV⟩ : ∃ V, w.drew = V := ⟨_, rfl⟩
    have bd : Below w.heap.size w V := by rw [← hV]; exact drawn21 1
    have e0V : V.cell? ⟨b, off, none⟩ = some (.int .u64 (M : Int)) := by rw [← hV]; exact e0
    have BD := Lib.hid bd
    clear bd
    go_wp2_with fail
    refine wp_region_any (by kernel_rfl) ?_
    change wpAny _ _ _ _ _ _ _ w.drew
    rw [hV]
    clear hV
    refine anyK.toAny (B := fun u => u.cell? ⟨b, off, none⟩ = some (.int .u64 (M : Int))) ?_
    refine anyK_take (i := 0) (d := 7) (v := .slice (some ⟨b, off, none⟩) 1 c) rfl rfl (by kernel_rfl) (by kernel_rfl) (by kernel_rfl) (fun _ _ _ h => h) ⟨by kernel_rfl, fun W hW => by go_simp⟩ ?_
    refine anyK_take (i := 1) (d := 8) (v := .pointer (some ⟨b, off, none⟩)) rfl rfl (by kernel_rfl) (by kernel_rfl) (by kernel_rfl) (fun _ _ _ h => h) ⟨by kernel_rfl, fun W hW => by go_simp⟩ ?_
    refine anyK_take (i := 2) (d := 9) (v := .int .u64 (M : Int)) rfl rfl (by kernel_rfl) (by kernel_rfl) (by kernel_rfl) (fun _ _ _ h => h) ⟨by kernel_rfl, fun W hW => by go_simp⟩ ?_
    refine anyK_take (i := 3) (d := 10) (v := .slice (some ⟨b, off, none⟩) 1 c) rfl rfl (by kernel_rfl) (by kernel_rfl) (by kernel_rfl) (fun _ _ _ h => h) ⟨by kernel_rfl, fun W hW => by go_simp⟩ ?_
    refine anyK_take (i := 4) (d := 11) (v := .int .i64 1) rfl rfl (by kernel_rfl) (by kernel_rfl) (by kernel_rfl) (fun _ _ _ h => h) ⟨by kernel_rfl, fun W hW => by go_simp⟩ ?_
    refine anyK_take (i := 5) (d := 12) (v := .bool true) rfl rfl (by kernel_rfl) (by kernel_rfl) (by kernel_rfl) (fun _ _ _ h => h) ⟨by kernel_rfl, fun W hW => by go_simp⟩ ?_
    refine anyK_take (i := 6) (d := 13) (v := .bool true) rfl rfl (by kernel_rfl) (by kernel_rfl) (by kernel_rfl) (fun _ _ _ h => h) ⟨by kernel_rfl, fun W hW => by go_simp⟩ ?_
    refine anyK_take (i := 7) (d := 14) (v := .slice (some ⟨b, off, none⟩) 1 c) rfl rfl (by kernel_rfl) (by kernel_rfl) (by kernel_rfl) (fun _ _ _ h => h) ⟨by kernel_rfl, fun W hW => by go_simp⟩ ?_
    refine anyK_take (i := 8) (d := 15) (v := .pointer (some ⟨b, off, none⟩)) rfl rfl (by kernel_rfl) (by kernel_rfl) (by kernel_rfl) (fun _ _ _ h => h) ⟨by kernel_rfl, fun W hW => by go_simp⟩ ?_
    refine anyK_take (i := 9) (d := 16) (v := .int .u64 (M : Int)) rfl rfl (by kernel_rfl) (by kernel_rfl) (by kernel_rfl) (fun _ _ _ h => h) ⟨by kernel_rfl, fun W hW => by go_simp⟩ ?_
    refine anyK_take (i := 10) (d := 17) (v := .bool true) rfl rfl (by kernel_rfl) (by kernel_rfl) (by kernel_rfl) (fun _ _ _ h => h) ⟨by kernel_rfl, fun W hW => by go_simp; exact G1.out⟩ ?_
    refine anyK_take (i := 11) (d := 18) (v := .bool true) rfl rfl (by kernel_rfl) (by kernel_rfl) (by kernel_rfl) (fun _ _ _ h => h) ⟨by kernel_rfl, fun W hW => by go_simp⟩ ?_
    refine anyK_take (i := 12) (d := 19) (v := .bool true) rfl rfl (by kernel_rfl) (by kernel_rfl) (by kernel_rfl) (fun _ _ _ h => h) ⟨by kernel_rfl, fun W hW => by go_simp⟩ ?_
    refine anyK_take (i := 13) (d := 20) (v := .slice (some ⟨b, off, none⟩) 1 c) rfl rfl (by kernel_rfl) (by kernel_rfl) (by kernel_rfl) (fun _ _ _ h => h) ⟨by kernel_rfl, fun W hW => by go_simp⟩ ?_
    refine anyK_take (i := 14) (d := 21) (v := .pointer (some ⟨b, off, none⟩)) rfl rfl (by kernel_rfl) (by kernel_rfl) (by kernel_rfl) (fun _ _ _ h => h) ⟨by kernel_rfl, fun W hW => by go_simp⟩ ?_
    refine anyK_take (i := 15) (d := 22) (v := .int .u64 (M : Int)) rfl rfl (by kernel_rfl) (by kernel_rfl) (by kernel_rfl) (fun _ _ _ h => h) ⟨by kernel_rfl, fun W hW => by go_simp⟩ ?_
    refine anyK_take (i := 16) (d := 23) (v := .bool true) rfl rfl (by kernel_rfl) (by kernel_rfl) (by kernel_rfl) (fun _ _ _ h => h) ⟨by kernel_rfl, fun W hW => by go_simp; have h := G2.out; omega⟩ ?_
    refine anyK_take (i := 17) (d := 24) (v := .bool true) rfl rfl (by kernel_rfl) (by kernel_rfl) (by kernel_rfl) (fun _ _ _ h => h) ⟨by kernel_rfl, fun W hW => by go_simp⟩ ?_
    refine anyK_take (i := 18) (d := 2) (v := .int .u64 (M : Int)) rfl rfl (by kernel_rfl) (by kernel_rfl) (by kernel_rfl) (fun _ _ _ h => h) ⟨by kernel_rfl, fun W hW => by go_simp⟩ ?_
    refine anyK_take (i := 19) (d := 3) (v := .bool true) rfl rfl (by kernel_rfl) (by kernel_rfl) (by kernel_rfl) (fun _ _ _ h => h) ⟨by kernel_rfl, fun W hW => by go_simp⟩ ?_
    refine anyK_done (by kernel_rfl) e0V ?_
    go_step
    go_simp
    go_wp2_with fail
    go_ret2
    exact ⟨rfl, BD.out⟩
theorem common21_any (w : World) (a b : Nat) (ha : a < 18446744073709551616) (hb : b < 18446744073709551616) : Calls Try.prog 18 #[.int .u64 (a : Int), .int .u64 (b : Int)] w fun e w' => e = .returned (.int .u64 (Nat.gcd a b : Nat)) ∧ Drawn w w' := by
  obtain ⟨G, hG⟩ : ∃ G, Nat.gcd a b = G := ⟨_, rfl⟩
  rw [hG]
  have HG := Lib.hid hG
  clear hG
  go_enter Try.func18, Try.ntmps18
  go_wp2_with fail
  go_loopw [0, 1] (fun av bv wr => ∃ x y : Nat, av = .int .u64 x ∧ bv = .int .u64 y ∧ Hid (Nat.gcd x y = G ∧ x < 18446744073709551616 ∧ y < 18446744073709551616) ∧ Drawn w wr) (fun _ bv _ => (intOf bv).toNat)
  case atStart => exact ⟨a, b, rfl, rfl, Lib.hid ⟨HG.out, ha, hb⟩, Drawn.refl w⟩
  case round =>
    clear ha hb HG
    obtain ⟨x, y, rfl, rfl, HG, nq, rfl⟩ := hrel
    by_cases h0 : y = 0
    · have HE := Lib.hid (show x = G by rw [← HG.out.1, h0, Nat.gcd_zero_right])
      subst h0
      go_wp2_with fail
      go_ret
      exact ⟨by rw [HE.out]; rfl, Drawn.more _⟩
    · have h1 : 0 < y := by omega
      have h2 : ((y : Int) == 0) = false := by simp; omega
      obtain ⟨z, hz⟩ : ∃ z, x % y = z := ⟨_, rfl⟩
      have hzl : z < y := by rw [← hz]; exact Nat.mod_lt x h1
      have hzi : (x : Int).tmod (y : Int) = (z : Int) := by rw [← hz]; rfl
      have hzi2 : (x : Int) % (y : Int) = (z : Int) := by rw [← hz]; rfl
      have HZ := Lib.hid hz
      have HL := Lib.hid hzl
      clear hz hzl
      go_wp2_with fail
      go_quiet (fail)
      go_wp2_with fail
      go_roundw
      case rel => exact ⟨y, z, rfl, rfl, Lib.hid ⟨by rw [← HZ.out, Nat.gcd_comm, gcd_rest]; exact HG.out.1, HG.out.2.2, by have := HG.out.2.2; have := HL.out; omega⟩, (Drawn.more _).draws _⟩
      case measure => have := HL.out; simp [intOf]; omega
end Go.Proofs.Ytgmolbiicclcaaa
/- Rests as words (the laws' out), walked. Conditions: as typed. -/
namespace Go.Proofs.Ytgmolbiicclcaaa
open Go.RowKit
set_option maxRecDepth 20000
theorem RdPairs.at21 {w : World} {A : Option Addr} {ss : List CR} (h : RdPairs w A ss) {j : Nat} (hj : j < ss.length) : ∃ b off, A = some ⟨b, off, none⟩ ∧ b < w.heap.size ∧
    w.cell? ⟨b, off + j * 2, none⟩ = some (.int .u64 (ss[j].m : Int)) ∧ w.cell? ⟨b, off + j * 2 + 1, none⟩ = some (.int .u64 (ss[j].r : Int)) := by
  obtain ⟨b, off, e, hb, hall⟩ := h (by omega)
  exact ⟨b, off, e, hb, hall j hj⟩
set_option maxHeartbeats 8000000 in
theorem out21 {w : World} {A : Option Addr} {n c : Nat} {ss : List CR} (h : RdPairs w A ss) (hw : WordC ss) (hn : ss.length = n) (hl : n ≤ 1000) :
    Calls Try.prog 8 #[.slice A n c] w fun e w' => ∃ X d, e = .returned (.slice X n d) ∧ RdRests w' X ss ∧ n ≤ d ∧ Below w.heap.size w w' := by
  have HN := Lib.hid hn
  have HR := Lib.hid h
  have HW := Lib.hid hw
  have HO := Lib.hid (show OwnR w w.heap.size (.slice none 0 0) 0 (ss.take 0) by rw [List.take_zero]; exact OwnR.nil w _)
  have HBe := Lib.hid (Below.refl w.heap.size w)
  clear h hn hw
  go_enter Try.func8, Try.ntmps8
  go_wp2_with fail
  go_loopw [3, 4] (fun tv jv wr => ∃ (j : Nat) (AT : Option Addr) (cT : Nat), jv = .int .i64 j ∧ tv = .slice AT j cT ∧ j ≤ n ∧ Hid (OwnR wr w.heap.size (.slice AT j cT) j (ss.take j)) ∧ Hid (Below w.heap.size w wr)) (fun _ jv _ => n - (intOf jv).toNat)
  case atStart => exact ⟨0, none, 0, rfl, rfl, Nat.zero_le _, HO, HBe⟩
  case round =>
    clear HO HBe
    obtain ⟨j, AT, cT, rfl, rfl, hj, HO, HBe⟩ := hrel
    by_cases hlt : j < n
    · have hjs : j < ss.length := by rw [HN.out]; exact hlt
      obtain ⟨gA, oA, rfl, hgA, e1, e2⟩ := HR.out.at21 hjs
      have hm64 := (HW.out _ (List.getElem_mem hjs)).1
      have hr64 := (HW.out _ (List.getElem_mem hjs)).2
      have HTk := Lib.hid (List.take_succ_eq_append_getElem hjs)
      obtain ⟨s, hs⟩ : ∃ s, ss[j] = s := ⟨_, rfl⟩
      rw [hs] at e1 e2 hm64 hr64 HTk
      obtain ⟨m, r⟩ := s
      simp only at e1 e2 hm64 hr64
      have hB : ∀ u, Below w.heap.size w u → u.cell? ⟨gA, oA + j * 2, none⟩ = some (.int .u64 (m : Int)) ∧ u.cell? ⟨gA, oA + j * 2 + 1, none⟩ = some (.int .u64 (r : Int)) := fun u b => ⟨(b.cell (p := ⟨gA, oA + j * 2, none⟩) hgA).trans e1, (b.cell (p := ⟨gA, oA + j * 2 + 1, none⟩) hgA).trans e2⟩
      have HB := Lib.hid hB
      obtain ⟨V, hV⟩ : ∃ V, wr.drew = V := ⟨_, rfl⟩
      have bd : Below wr.heap.size wr V := by rw [← hV]; exact drawn21 1
      have HO := Lib.hid (HO.out.step bd)
      have HBe := Lib.hid (below_step HBe.out bd)
      have C1 := Lib.hid (nat21_any V m hm64)
      have C2 := Lib.hid fun u => nat21_any u r hr64
      clear hB bd hs hm64 hr64 e1 e2
      go_wp2_with fail
      refine wp_region_any (by kernel_rfl) ?_
      change wpAny _ _ _ _ _ _ _ wr.drew
      rw [hV]
      clear hV
      refine anyK.toAny (B := fun u => u.cell? ⟨gA, oA + j * 2, none⟩ = some (.int .u64 (m : Int)) ∧ u.cell? ⟨gA, oA + j * 2 + 1, none⟩ = some (.int .u64 (r : Int))) ?_
      refine anyK_take (i := 0) (d := 11) (v := .slice AT j cT) rfl rfl (by kernel_rfl) (by kernel_rfl) (by kernel_rfl) (fun _ _ _ h => h) ⟨by kernel_rfl, fun W hW => by obtain ⟨hW1, hW2⟩ := hW; go_simp⟩ ?_
      refine anyK_take (i := 1) (d := 12) (v := .slice (some ⟨gA, oA, none⟩) n c) rfl rfl (by kernel_rfl) (by kernel_rfl) (by kernel_rfl) (fun _ _ _ h => h) ⟨by kernel_rfl, fun W hW => by obtain ⟨hW1, hW2⟩ := hW; go_simp⟩ ?_
      refine anyK_take (i := 2) (d := 13) (v := .int .i64 j) rfl rfl (by kernel_rfl) (by kernel_rfl) (by kernel_rfl) (fun _ _ _ h => h) ⟨by kernel_rfl, fun W hW => by obtain ⟨hW1, hW2⟩ := hW; go_simp⟩ ?_
      refine anyK_take (i := 3) (d := 14) (v := .pointer (some ⟨gA, oA + j * 2, none⟩)) rfl rfl (by kernel_rfl) (by kernel_rfl) (by kernel_rfl) (fun _ _ _ h => h) ⟨by kernel_rfl, fun W hW => by obtain ⟨hW1, hW2⟩ := hW; go_simp⟩ ?_
      refine anyK_take (i := 4) (d := 15) (v := .pointer (some ⟨gA, oA + j * 2, none⟩)) rfl rfl (by kernel_rfl) (by kernel_rfl) (by kernel_rfl) (fun _ _ _ h => h) ⟨by kernel_rfl, fun W hW => by obtain ⟨hW1, hW2⟩ := hW; go_simp⟩ ?_
      refine anyK_take (i := 5) (d := 16) (v := .int .u64 (m : Int)) rfl rfl (by kernel_rfl) (by kernel_rfl) (by kernel_rfl) (fun _ _ _ h => h) ⟨by kernel_rfl, fun W hW => by obtain ⟨hW1, hW2⟩ := hW; go_simp⟩ ?_
      refine anyK_take (i := 7) (d := 18) (v := .slice (some ⟨gA, oA, none⟩) n c) rfl rfl (by kernel_rfl) (by kernel_rfl) (by kernel_rfl) (fun _ _ _ h => h) ⟨by kernel_rfl, fun W hW => by obtain ⟨hW1, hW2⟩ := hW; go_simp⟩ ?_
      refine anyK_take (i := 8) (d := 19) (v := .int .i64 j) rfl rfl (by kernel_rfl) (by kernel_rfl) (by kernel_rfl) (fun _ _ _ h => h) ⟨by kernel_rfl, fun W hW => by obtain ⟨hW1, hW2⟩ := hW; go_simp⟩ ?_
      refine anyK_take (i := 9) (d := 20) (v := .pointer (some ⟨gA, oA + j * 2, none⟩)) rfl rfl (by kernel_rfl) (by kernel_rfl) (by kernel_rfl) (fun _ _ _ h => h) ⟨by kernel_rfl, fun W hW => by obtain ⟨hW1, hW2⟩ := hW; go_simp⟩ ?_
      refine anyK_take (i := 10) (d := 21) (v := .pointer (some ⟨gA, oA + j * 2 + 1, none⟩)) rfl rfl (by kernel_rfl) (by kernel_rfl) (by kernel_rfl) (fun _ _ _ h => h) ⟨by kernel_rfl, fun W hW => by obtain ⟨hW1, hW2⟩ := hW; go_simp⟩ ?_
      refine anyK_take (i := 11) (d := 22) (v := .int .u64 (r : Int)) rfl rfl (by kernel_rfl) (by kernel_rfl) (by kernel_rfl) (fun _ _ _ h => h) ⟨by kernel_rfl, fun W hW => by obtain ⟨hW1, hW2⟩ := hW; go_simp⟩ ?_
      refine anyK_one (i := 6) (by kernel_rfl) rfl (HB.out V HBe.out) (fun K hK => ?_)
      go_simp
      refine (C1.out).mono ?_
      rintro e u1 ⟨X1, q1, d1, rfl, h1, b1⟩
      have HO := Lib.hid (HO.out.step b1)
      have HBe := Lib.hid (below_step HBe.out b1)
      have H1 := Lib.hid h1
      clear b1 h1 C1
      refine hK _ _ ?_
      clear hK K
      refine anyK_one (i := 12) (by kernel_rfl) rfl (HB.out u1 HBe.out) (fun K hK => ?_)
      go_simp
      refine (C2.out u1).mono ?_
      rintro e u2 ⟨X2, q2, d2, rfl, h2, b2⟩
      have HO := Lib.hid (HO.out.step b2)
      have HBe := Lib.hid (below_step HBe.out b2)
      have H1 := Lib.hid (H1.out.step b2)
      obtain ⟨g, cap, u3, hrun, hown, hbel⟩ := HO.out.append (by omega) HBe.out.size H1.out h2 32
      have HBa := Lib.hid (show Below w.heap.size w (u2.alloc (.cells #[.slice X1 q1 d1, .slice X2 q2 d2] 40)) from below_step HBe.out ((Below.refl _ u2).alloc (Nat.le_refl _) _))
      have HB3 := Lib.hid (show Below w.heap.size w u3 from HBe.out.trans hbel)
      have HO3 := Lib.hid (show OwnR u3 w.heap.size (.slice (some ⟨g, 0, none⟩) (j + 1) cap) (j + 1) (ss.take (j + 1)) by rw [HTk.out]; exact hown)
      clear b2 h2 C2 hown hbel
      refine hK _ _ ?_
      clear hK K
      refine anyK_one (i := 13) (by kernel_rfl) rfl (HB.out u2 HBe.out) (fun K hK => ?_)
      go_simp
      refine hK _ _ ?_
      clear hK K
      refine anyK_one (i := 14) (by kernel_rfl) rfl (HB.out u2 HBe.out) (fun K hK => ?_)
      go_simp
      refine hK _ _ ?_
      clear hK K
      refine anyK_one (i := 15) (by kernel_rfl) rfl (HB.out _ HBa.out) (fun K hK => ?_)
      rw [if_pos (by kernel_rfl)]
      refine op_append11 _ _ _ rfl _ _ rfl rfl hrun ?_
      refine hK _ _ ?_
      clear hK K
      refine anyK_one (i := 16) (by kernel_rfl) rfl (HB.out u3 HB3.out) (fun K hK => ?_)
      go_simp
      refine hK _ _ ?_
      clear hK K
      refine anyK_done (by kernel_rfl) (HB.out u3 HB3.out) ?_
      clear hrun
      go_step
      go_simp
      go_wp2_with fail
      go_roundw
      case rel => exact ⟨j + 1, _, _, by go_num, rfl, by omega, HO3, HB3⟩
      case measure => simp [intOf]; omega
    · obtain rfl : j = n := by omega
      have hO := HO.out
      rw [← HN.out, List.take_length, HN.out] at hO
      obtain ⟨X, d, e, hd⟩ := hO.form
      injection e with e1 e2 e3
      subst e1 e3
      have HO := Lib.hid hO.rd
      clear hO e2
      go_wp2_with fail
      go_ret
      exact ⟨_, _, rfl, HO.out, hd, HBe.out⟩
end Go.Proofs.Ytgmolbiicclcaaa

/- Several texts in one; each begins with a remark that says what it shows and on which conditions. -/
import Derived.Test.YtgmolbiicclcaaaKba
/- The document's Join, proved. Conditions: as typed (where all rests may be, their product is below 2^31). -/
namespace Go.Proofs.Ytgmolbiicclcaaa
open Go.RowKit
set_option maxRecDepth 20000
def OutRef (ss : List CR) (w : World) (e : Ending) (w' : World) : Prop := e = .returned (.tuple #[.int .u64 (ansR ss : Nat), .int .u64 (ansM ss : Nat), .int .i64 (errC ss : Nat)]) ∧ Below w.heap.size w w'
theorem OutRef.err {ss : List CR} {w w' : World} {k : Int} (h : ((errC ss : Nat) : Int) = k) (h0 : k ≠ 0) (b : Below w.heap.size w w') : OutRef ss w (.returned (.tuple #[.int .u64 0, .int .u64 0, .int .i64 k])) w' := by
  have hne : errC ss ≠ 0 := fun e => h0 (by rw [← h, e]; rfl)
  exact ⟨by rw [ansR_no hne, ansM_no hne, h]; rfl, b⟩
theorem OutRef.ok {ss : List CR} {w w' : World} {r p : Nat} (h : errC ss = 0) (hr : IsR ss r) (hp : p = prodC ss) (b : Below w.heap.size w w') : OutRef ss w (.returned (.tuple #[.int .u64 (r : Int), .int .u64 (p : Int), .int .i64 0])) w' :=
  ⟨by rw [ansR_eq h hr, ansM_ok h, h, hp]; rfl, b⟩
theorem RdPairs.cells21 {w u : World} {gA oA : Nat} {ss : List CR} (h : RdPairs w (some ⟨gA, oA, none⟩) ss) (b : Below w.heap.size w u) {j : Nat} (hj : j < ss.length) : u.cell? ⟨gA, oA + j * 2, none⟩ = some (.int .u64 (ss[j].m : Int)) ∧ u.cell? ⟨gA, oA + j * 2 + 1, none⟩ = some (.int .u64 (ss[j].r : Int)) := by
  obtain ⟨g, o, e, hg, e1, e2⟩ := h.at21 hj
  injection e with e
  injection e with a1 a2 _
  subst a1 a2
  exact ⟨(b.cell (p := ⟨gA, oA + j * 2, none⟩) hg).trans e1, (b.cell (p := ⟨gA, oA + j * 2 + 1, none⟩) hg).trans e2⟩
/-- Below 2^31. -/
def LowP (p : Nat) : Prop := p < 2147483648
theorem LowP.bits {p : Nat} (h : LowP p) : nbits p ≤ 1024 := Nat.le_trans (nbits_of_lt p 31 h) (by omega)
theorem prodC_take_le {ss : List CR} (h : AllOk ss) (j : Nat) : prodC (ss.take j) ≤ prodC ss := by
  refine Nat.le_of_dvd (prodC_pos h) ⟨prodC (ss.drop j), ?_⟩
  rw [← prodC_append, List.take_append_drop]
/-- All m ahead have no factor in common with the one in hand. -/
def ApartTo (ss : List CR) (M k : Nat) : Prop := ∀ s ∈ ss.take k, Nat.gcd s.m M = 1
theorem ApartTo.start (ss : List CR) (M : Nat) : ApartTo ss M 0 := by simp [ApartTo]
theorem ApartTo.next {ss : List CR} {M k : Nat} (h : ApartTo ss M k) (hk : k < ss.length) (hg : Nat.gcd ss[k].m M = 1) : ApartTo ss M (k + 1) := fun s hs => by
  rw [List.take_succ_eq_append_getElem hk] at hs
  rcases List.mem_append.1 hs with h1 | h1
  · exact h s h1
  · rw [List.mem_singleton.1 h1]; exact hg
theorem ApartTo.cop {ss : List CR} {i : Nat} (hi : i < ss.length) (h : ApartTo ss ss[i].m i) (hc : Cop (ss.take i)) : Cop (ss.take (i + 1)) := by
  rw [List.take_succ_eq_append_getElem hi]
  exact cop_snoc.2 ⟨hc, gcd_prodC.2 h⟩
theorem cop_take_all {ss : List CR} (h : Cop (ss.take ss.length)) : Cop ss := by rwa [List.take_length] at h
theorem not_cop_two {ss : List CR} {i k : Nat} (hi : i < ss.length) (hk : k < i) (hg : Nat.gcd ss[i].m (ss[k]'(by omega)).m ≠ 1) : ¬ Cop ss := fun h => by
  have := List.pairwise_iff_getElem.1 h k i (by omega) hi hk
  exact hg ((Nat.gcd_comm _ _).trans this)
/-- What was tried does not leave the rest. -/
def NotYet (r0 b m q t : Nat) : Prop := ∀ k, k < t → (r0 + k * b) % m ≠ q
theorem some_step21 (r0 b m q : Nat) (hg : Nat.gcd b m = 1) (hq : q < m) : ∃ t, t < m ∧ (r0 + t * b) % m = q := by
  obtain ⟨v, _, hv⟩ := inv_some b m (by omega) hg
  exact ⟨(q + m - r0 % m) * v % m, Nat.mod_lt _ (by omega), bothR_right (s := ⟨m, q⟩) (m := b) (r := r0) hq hv⟩
theorem NotYet.lt {r0 b m q t : Nat} (h : NotYet r0 b m q t) (hg : Nat.gcd b m = 1) (hq : q < m) : t < m := by
  obtain ⟨k, hk, e⟩ := some_step21 r0 b m q hg hq
  rcases Nat.lt_or_ge k t with h1 | h1
  · exact absurd e (h k h1)
  · omega
theorem NotYet.next {r0 b m q t : Nat} (h : NotYet r0 b m q t) (hn : (r0 + t * b) % m ≠ q) : NotYet r0 b m q (t + 1) := fun k hk => by
  rcases Nat.lt_succ_iff_lt_or_eq.1 hk with h1 | rfl
  · exact h k h1
  · exact hn
theorem tried_lt21 {r0 b m t : Nat} (h0 : r0 < b) (ht : t < m) : r0 + t * b < b * m := by
  have h1 : (t + 1) * b ≤ m * b := Nat.mul_le_mul_right b ht
  rw [Nat.add_mul, Nat.one_mul] at h1
  rw [Nat.mul_comm b m]
  omega
theorem isR_tried {ss : List CR} {i r0 t : Nat} (hi : i < ss.length) (h : IsR (ss.take i) r0) (ht : t < ss[i].m) (hr : (r0 + t * prodC (ss.take i)) % ss[i].m = ss[i].r) : IsR (ss.take (i + 1)) (r0 + t * prodC (ss.take i)) := by
  refine ⟨by rw [prodC_take hi]; exact tried_lt21 h.1 ht, fun x hx => ?_⟩
  rw [List.take_succ_eq_append_getElem hi] at hx
  rcases List.mem_append.1 hx with h1 | h1
  · obtain ⟨k, hk⟩ := dvd_prodC h1
    rw [hk, show t * (x.m * k) = x.m * (t * k) by rw [Nat.mul_left_comm], Nat.add_mul_mod_self_left]
    exact h.2 x h1
  · rw [List.mem_singleton.1 h1]; exact hr
set_option maxHeartbeats 32000000 in
theorem ref21 {w : World} {A : Option Addr} {n c : Nat} {ss : List CR} (h : RdPairs w A ss) (hw : WordC ss) (hn : ss.length = n) (hl : n ≤ 1000) (hp : AllOk ss → LowP (prodC ss)) :
    Calls Try.prog 9 #[.slice A n c] w (OutRef ss w) := by
  have HN := Lib.hid hn
  have HR := Lib.hid h
  have HW := Lib.hid hw
  have HP := Lib.hid hp
  have HO := Lib.hid (OkTo21.start ss)
  have HBe := Lib.hid (Below.refl w.heap.size w)
  clear h hn hw hp
  go_enter Try.func9, Try.ntmps9
  go_wp2_with fail
  go_loopw [6] (fun iv wr => ∃ i : Nat, iv = .int .i64 i ∧ i ≤ n ∧ Hid (OkTo21 ss i) ∧ Hid (Below w.heap.size w wr)) (fun iv _ => n - (intOf iv).toNat)
  case atStart => exact ⟨0, rfl, Nat.zero_le _, HO, HBe⟩
  case round =>
    clear HO HBe
    obtain ⟨i, rfl, hi, HO, HBe⟩ := hrel
    by_cases hlt : i < n
    · have his : i < ss.length := by rw [HN.out]; exact hlt
      obtain ⟨gA, oA, rfl, hgA, _, _⟩ := HR.out.at21 his
      have hB := fun u (b : Below w.heap.size w u) => HR.out.cells21 b his
      have hlm := (HW.out _ (List.getElem_mem his)).1
      have HNx := Lib.hid (HO.out.next his)
      have HNo := Lib.hid (fun (k : ¬ ss[i].r < ss[i].m) (a : AllOk ss) => k (a _ (List.getElem_mem his)))
      obtain ⟨m, hm⟩ : ∃ m, ss[i].m = m := ⟨_, rfl⟩
      obtain ⟨r, hr⟩ : ∃ r, ss[i].r = r := ⟨_, rfl⟩
      rw [hm, hr] at HNx HNo
      simp only [hm, hr] at hB
      have HB := Lib.hid hB
      clear hB hm hr hlm
      by_cases h0 : m = 0
      · obtain ⟨V, hV⟩ : ∃ V, wr.drew = V := ⟨_, rfl⟩
        have bd : Below wr.heap.size wr V := by rw [← hV]; exact drawn21 1
        have HBe := Lib.hid (below_step HBe.out bd)
        clear bd
        subst h0
        go_wp2_with fail
        refine wp_region_any (by kernel_rfl) ?_
        change wpAny _ _ _ _ _ _ _ wr.drew
        rw [hV]
        clear hV
        refine anyK.toAny (B := fun u => u.cell? ⟨gA, oA + i * 2, none⟩ = some (.int .u64 ((0 : Nat) : Int)) ∧ u.cell? ⟨gA, oA + i * 2 + 1, none⟩ = some (.int .u64 (r : Int))) ?_
        refine anyK_take (i := 0) (d := 18) (v := .slice (some ⟨gA, oA, none⟩) n c) rfl rfl (by kernel_rfl) (by kernel_rfl) (by kernel_rfl) (fun _ _ _ h => h) ⟨by kernel_rfl, fun W hW => by obtain ⟨hW1, hW2⟩ := hW; go_simp⟩ ?_
        refine anyK_take (i := 1) (d := 19) (v := .int .i64 i) rfl rfl (by kernel_rfl) (by kernel_rfl) (by kernel_rfl) (fun _ _ _ h => h) ⟨by kernel_rfl, fun W hW => by obtain ⟨hW1, hW2⟩ := hW; go_simp⟩ ?_
        refine anyK_take (i := 2) (d := 20) (v := .pointer (some ⟨gA, oA + i * 2, none⟩)) rfl rfl (by kernel_rfl) (by kernel_rfl) (by kernel_rfl) (fun _ _ _ h => h) ⟨by kernel_rfl, fun W hW => by obtain ⟨hW1, hW2⟩ := hW; go_simp⟩ ?_
        refine anyK_take (i := 3) (d := 21) (v := .pointer (some ⟨gA, oA + i * 2, none⟩)) rfl rfl (by kernel_rfl) (by kernel_rfl) (by kernel_rfl) (fun _ _ _ h => h) ⟨by kernel_rfl, fun W hW => by obtain ⟨hW1, hW2⟩ := hW; go_simp⟩ ?_
        refine anyK_take (i := 4) (d := 22) (v := .int .u64 ((0 : Nat) : Int)) rfl rfl (by kernel_rfl) (by kernel_rfl) (by kernel_rfl) (fun _ _ _ h => h) ⟨by kernel_rfl, fun W hW => by obtain ⟨hW1, hW2⟩ := hW; go_simp⟩ ?_
        refine anyK_take (i := 5) (d := 23) (v := .bool true) rfl rfl (by kernel_rfl) (by kernel_rfl) (by kernel_rfl) (fun _ _ _ h => h) ⟨by kernel_rfl, fun W hW => by obtain ⟨hW1, hW2⟩ := hW; go_simp⟩ ?_
        refine anyK_take (i := 6) (d := 24) (v := .bool true) rfl rfl (by kernel_rfl) (by kernel_rfl) (by kernel_rfl) (fun _ _ _ h => h) ⟨by kernel_rfl, fun W hW => by obtain ⟨hW1, hW2⟩ := hW; go_simp⟩ ?_
        refine anyK_skip (i := 7) (d := 25) rfl rfl (by kernel_rfl) (by kernel_rfl) (by kernel_rfl) (fun _ _ _ h => h) (by kernel_rfl) ?_
        refine anyK_skip (i := 8) (d := 26) rfl rfl (by kernel_rfl) (by kernel_rfl) (by kernel_rfl) (fun _ _ _ h => h) (by kernel_rfl) ?_
        refine anyK_skip (i := 9) (d := 27) rfl rfl (by kernel_rfl) (by kernel_rfl) (by kernel_rfl) (fun _ _ _ h => h) (by kernel_rfl) ?_
        refine anyK_skip (i := 10) (d := 28) rfl rfl (by kernel_rfl) (by kernel_rfl) (by kernel_rfl) (fun _ _ _ h => h) (by kernel_rfl) ?_
        refine anyK_skip (i := 11) (d := 29) rfl rfl (by kernel_rfl) (by kernel_rfl) (by kernel_rfl) (fun _ _ _ h => h) (by kernel_rfl) ?_
        refine anyK_skip (i := 12) (d := 30) rfl rfl (by kernel_rfl) (by kernel_rfl) (by kernel_rfl) (fun _ _ _ h => h) (by kernel_rfl) ?_
        refine anyK_skip (i := 13) (d := 31) rfl rfl (by kernel_rfl) (by kernel_rfl) (by kernel_rfl) (fun _ _ _ h => h) (by kernel_rfl) ?_
        refine anyK_skip (i := 14) (d := 32) rfl rfl (by kernel_rfl) (by kernel_rfl) (by kernel_rfl) (fun _ _ _ h => h) (by kernel_rfl) ?_
        refine anyK_skip (i := 15) (d := 33) rfl rfl (by kernel_rfl) (by kernel_rfl) (by kernel_rfl) (fun _ _ _ h => h) (by kernel_rfl) ?_
        refine anyK_skip (i := 16) (d := 34) rfl rfl (by kernel_rfl) (by kernel_rfl) (by kernel_rfl) (fun _ _ _ h => h) (by kernel_rfl) ?_
        refine anyK_skip (i := 17) (d := 35) rfl rfl (by kernel_rfl) (by kernel_rfl) (by kernel_rfl) (fun _ _ _ h => h) (by kernel_rfl) ?_
        refine anyK_take (i := 18) (d := 36) (v := .bool true) rfl rfl (by kernel_rfl) (by kernel_rfl) (by kernel_rfl) (fun _ _ _ h => h) ⟨by kernel_rfl, fun W hW => by obtain ⟨hW1, hW2⟩ := hW; go_simp⟩ ?_
        refine anyK_done (by kernel_rfl) (HB.out V HBe.out) ?_
        go_step
        go_simp
        have HE := Lib.hid (show EndFlag21 1 ss from by unfold EndFlag21; rw [errC_arg (HNo.out (by omega))]; rfl)
        clear HNx HNo
        go_wp2_with fail
        go_ret3
        exact OutRef.err HE.out (by omega) HBe.out
      · by_cases h1 : r < m
        · obtain ⟨V, hV⟩ : ∃ V, wr.drew = V := ⟨_, rfl⟩
          have bd : Below wr.heap.size wr V := by rw [← hV]; exact drawn21 1
          have HBe := Lib.hid (below_step HBe.out bd)
          clear bd
          go_wp2_with fail
          refine wp_region_any (by kernel_rfl) ?_
          change wpAny _ _ _ _ _ _ _ wr.drew
          rw [hV]
          clear hV
          refine anyK.toAny (B := fun u => u.cell? ⟨gA, oA + i * 2, none⟩ = some (.int .u64 (m : Int)) ∧ u.cell? ⟨gA, oA + i * 2 + 1, none⟩ = some (.int .u64 (r : Int))) ?_
          refine anyK_take (i := 0) (d := 18) (v := .slice (some ⟨gA, oA, none⟩) n c) rfl rfl (by kernel_rfl) (by kernel_rfl) (by kernel_rfl) (fun _ _ _ h => h) ⟨by kernel_rfl, fun W hW => by obtain ⟨hW1, hW2⟩ := hW; go_simp⟩ ?_
          refine anyK_take (i := 1) (d := 19) (v := .int .i64 i) rfl rfl (by kernel_rfl) (by kernel_rfl) (by kernel_rfl) (fun _ _ _ h => h) ⟨by kernel_rfl, fun W hW => by obtain ⟨hW1, hW2⟩ := hW; go_simp⟩ ?_
          refine anyK_take (i := 2) (d := 20) (v := .pointer (some ⟨gA, oA + i * 2, none⟩)) rfl rfl (by kernel_rfl) (by kernel_rfl) (by kernel_rfl) (fun _ _ _ h => h) ⟨by kernel_rfl, fun W hW => by obtain ⟨hW1, hW2⟩ := hW; go_simp⟩ ?_
          refine anyK_take (i := 3) (d := 21) (v := .pointer (some ⟨gA, oA + i * 2, none⟩)) rfl rfl (by kernel_rfl) (by kernel_rfl) (by kernel_rfl) (fun _ _ _ h => h) ⟨by kernel_rfl, fun W hW => by obtain ⟨hW1, hW2⟩ := hW; go_simp⟩ ?_
          refine anyK_take (i := 4) (d := 22) (v := .int .u64 (m : Int)) rfl rfl (by kernel_rfl) (by kernel_rfl) (by kernel_rfl) (fun _ _ _ h => h) ⟨by kernel_rfl, fun W hW => by obtain ⟨hW1, hW2⟩ := hW; go_simp⟩ ?_
          refine anyK_take (i := 5) (d := 23) (v := .bool false) rfl rfl (by kernel_rfl) (by kernel_rfl) (by kernel_rfl) (fun _ _ _ h => h) ⟨by kernel_rfl, fun W hW => by obtain ⟨hW1, hW2⟩ := hW; go_simp <;> omega⟩ ?_
          refine anyK_take (i := 6) (d := 24) (v := .bool false) rfl rfl (by kernel_rfl) (by kernel_rfl) (by kernel_rfl) (fun _ _ _ h => h) ⟨by kernel_rfl, fun W hW => by obtain ⟨hW1, hW2⟩ := hW; go_simp⟩ ?_
          refine anyK_take (i := 7) (d := 25) (v := .slice (some ⟨gA, oA, none⟩) n c) rfl rfl (by kernel_rfl) (by kernel_rfl) (by kernel_rfl) (fun _ _ _ h => h) ⟨by kernel_rfl, fun W hW => by obtain ⟨hW1, hW2⟩ := hW; go_simp⟩ ?_
          refine anyK_take (i := 8) (d := 26) (v := .int .i64 i) rfl rfl (by kernel_rfl) (by kernel_rfl) (by kernel_rfl) (fun _ _ _ h => h) ⟨by kernel_rfl, fun W hW => by obtain ⟨hW1, hW2⟩ := hW; go_simp⟩ ?_
          refine anyK_take (i := 9) (d := 27) (v := .pointer (some ⟨gA, oA + i * 2, none⟩)) rfl rfl (by kernel_rfl) (by kernel_rfl) (by kernel_rfl) (fun _ _ _ h => h) ⟨by kernel_rfl, fun W hW => by obtain ⟨hW1, hW2⟩ := hW; go_simp⟩ ?_
          refine anyK_take (i := 10) (d := 28) (v := .pointer (some ⟨gA, oA + i * 2 + 1, none⟩)) rfl rfl (by kernel_rfl) (by kernel_rfl) (by kernel_rfl) (fun _ _ _ h => h) ⟨by kernel_rfl, fun W hW => by obtain ⟨hW1, hW2⟩ := hW; go_simp⟩ ?_
          refine anyK_take (i := 11) (d := 29) (v := .int .u64 (r : Int)) rfl rfl (by kernel_rfl) (by kernel_rfl) (by kernel_rfl) (fun _ _ _ h => h) ⟨by kernel_rfl, fun W hW => by obtain ⟨hW1, hW2⟩ := hW; go_simp⟩ ?_
          refine anyK_take (i := 12) (d := 30) (v := .slice (some ⟨gA, oA, none⟩) n c) rfl rfl (by kernel_rfl) (by kernel_rfl) (by kernel_rfl) (fun _ _ _ h => h) ⟨by kernel_rfl, fun W hW => by obtain ⟨hW1, hW2⟩ := hW; go_simp⟩ ?_
          refine anyK_take (i := 13) (d := 31) (v := .int .i64 i) rfl rfl (by kernel_rfl) (by kernel_rfl) (by kernel_rfl) (fun _ _ _ h => h) ⟨by kernel_rfl, fun W hW => by obtain ⟨hW1, hW2⟩ := hW; go_simp⟩ ?_
          refine anyK_take (i := 14) (d := 32) (v := .pointer (some ⟨gA, oA + i * 2, none⟩)) rfl rfl (by kernel_rfl) (by kernel_rfl) (by kernel_rfl) (fun _ _ _ h => h) ⟨by kernel_rfl, fun W hW => by obtain ⟨hW1, hW2⟩ := hW; go_simp⟩ ?_
          refine anyK_take (i := 15) (d := 33) (v := .pointer (some ⟨gA, oA + i * 2, none⟩)) rfl rfl (by kernel_rfl) (by kernel_rfl) (by kernel_rfl) (fun _ _ _ h => h) ⟨by kernel_rfl, fun W hW => by obtain ⟨hW1, hW2⟩ := hW; go_simp⟩ ?_
          refine anyK_take (i := 16) (d := 34) (v := .int .u64 (m : Int)) rfl rfl (by kernel_rfl) (by kernel_rfl) (by kernel_rfl) (fun _ _ _ h => h) ⟨by kernel_rfl, fun W hW => by obtain ⟨hW1, hW2⟩ := hW; go_simp⟩ ?_
          refine anyK_take (i := 17) (d := 35) (v := .bool false) rfl rfl (by kernel_rfl) (by kernel_rfl) (by kernel_rfl) (fun _ _ _ h => h) ⟨by kernel_rfl, fun W hW => by obtain ⟨hW1, hW2⟩ := hW; go_simp <;> omega⟩ ?_
          refine anyK_take (i := 18) (d := 36) (v := .bool false) rfl rfl (by kernel_rfl) (by kernel_rfl) (by kernel_rfl) (fun _ _ _ h => h) ⟨by kernel_rfl, fun W hW => by obtain ⟨hW1, hW2⟩ := hW; go_simp⟩ ?_
          refine anyK_done (by kernel_rfl) (HB.out V HBe.out) ?_
          go_step
          go_simp
          have HO2 := Lib.hid (HNx.out h1)
          clear HNx HNo
          go_wp2_with fail
          go_roundw
          case rel => exact ⟨_, by go_num, by omega, HO2, HBe⟩
          case measure => simp [intOf]; omega
        · obtain ⟨V, hV⟩ : ∃ V, wr.drew = V := ⟨_, rfl⟩
          have bd : Below wr.heap.size wr V := by rw [← hV]; exact drawn21 1
          have HBe := Lib.hid (below_step HBe.out bd)
          clear bd
          go_wp2_with fail
          refine wp_region_any (by kernel_rfl) ?_
          change wpAny _ _ _ _ _ _ _ wr.drew
          rw [hV]
          clear hV
          refine anyK.toAny (B := fun u => u.cell? ⟨gA, oA + i * 2, none⟩ = some (.int .u64 (m : Int)) ∧ u.cell? ⟨gA, oA + i * 2 + 1, none⟩ = some (.int .u64 (r : Int))) ?_
          refine anyK_take (i := 0) (d := 18) (v := .slice (some ⟨gA, oA, none⟩) n c) rfl rfl (by kernel_rfl) (by kernel_rfl) (by kernel_rfl) (fun _ _ _ h => h) ⟨by kernel_rfl, fun W hW => by obtain ⟨hW1, hW2⟩ := hW; go_simp⟩ ?_
          refine anyK_take (i := 1) (d := 19) (v := .int .i64 i) rfl rfl (by kernel_rfl) (by kernel_rfl) (by kernel_rfl) (fun _ _ _ h => h) ⟨by kernel_rfl, fun W hW => by obtain ⟨hW1, hW2⟩ := hW; go_simp⟩ ?_
          refine anyK_take (i := 2) (d := 20) (v := .pointer (some ⟨gA, oA + i * 2, none⟩)) rfl rfl (by kernel_rfl) (by kernel_rfl) (by kernel_rfl) (fun _ _ _ h => h) ⟨by kernel_rfl, fun W hW => by obtain ⟨hW1, hW2⟩ := hW; go_simp⟩ ?_
          refine anyK_take (i := 3) (d := 21) (v := .pointer (some ⟨gA, oA + i * 2, none⟩)) rfl rfl (by kernel_rfl) (by kernel_rfl) (by kernel_rfl) (fun _ _ _ h => h) ⟨by kernel_rfl, fun W hW => by obtain ⟨hW1, hW2⟩ := hW; go_simp⟩ ?_
          refine anyK_take (i := 4) (d := 22) (v := .int .u64 (m : Int)) rfl rfl (by kernel_rfl) (by kernel_rfl) (by kernel_rfl) (fun _ _ _ h => h) ⟨by kernel_rfl, fun W hW => by obtain ⟨hW1, hW2⟩ := hW; go_simp⟩ ?_
          refine anyK_take (i := 5) (d := 23) (v := .bool false) rfl rfl (by kernel_rfl) (by kernel_rfl) (by kernel_rfl) (fun _ _ _ h => h) ⟨by kernel_rfl, fun W hW => by obtain ⟨hW1, hW2⟩ := hW; go_simp <;> omega⟩ ?_
          refine anyK_take (i := 6) (d := 24) (v := .bool false) rfl rfl (by kernel_rfl) (by kernel_rfl) (by kernel_rfl) (fun _ _ _ h => h) ⟨by kernel_rfl, fun W hW => by obtain ⟨hW1, hW2⟩ := hW; go_simp⟩ ?_
          refine anyK_take (i := 7) (d := 25) (v := .slice (some ⟨gA, oA, none⟩) n c) rfl rfl (by kernel_rfl) (by kernel_rfl) (by kernel_rfl) (fun _ _ _ h => h) ⟨by kernel_rfl, fun W hW => by obtain ⟨hW1, hW2⟩ := hW; go_simp⟩ ?_
          refine anyK_take (i := 8) (d := 26) (v := .int .i64 i) rfl rfl (by kernel_rfl) (by kernel_rfl) (by kernel_rfl) (fun _ _ _ h => h) ⟨by kernel_rfl, fun W hW => by obtain ⟨hW1, hW2⟩ := hW; go_simp⟩ ?_
          refine anyK_take (i := 9) (d := 27) (v := .pointer (some ⟨gA, oA + i * 2, none⟩)) rfl rfl (by kernel_rfl) (by kernel_rfl) (by kernel_rfl) (fun _ _ _ h => h) ⟨by kernel_rfl, fun W hW => by obtain ⟨hW1, hW2⟩ := hW; go_simp⟩ ?_
          refine anyK_take (i := 10) (d := 28) (v := .pointer (some ⟨gA, oA + i * 2 + 1, none⟩)) rfl rfl (by kernel_rfl) (by kernel_rfl) (by kernel_rfl) (fun _ _ _ h => h) ⟨by kernel_rfl, fun W hW => by obtain ⟨hW1, hW2⟩ := hW; go_simp⟩ ?_
          refine anyK_take (i := 11) (d := 29) (v := .int .u64 (r : Int)) rfl rfl (by kernel_rfl) (by kernel_rfl) (by kernel_rfl) (fun _ _ _ h => h) ⟨by kernel_rfl, fun W hW => by obtain ⟨hW1, hW2⟩ := hW; go_simp⟩ ?_
          refine anyK_take (i := 12) (d := 30) (v := .slice (some ⟨gA, oA, none⟩) n c) rfl rfl (by kernel_rfl) (by kernel_rfl) (by kernel_rfl) (fun _ _ _ h => h) ⟨by kernel_rfl, fun W hW => by obtain ⟨hW1, hW2⟩ := hW; go_simp⟩ ?_
          refine anyK_take (i := 13) (d := 31) (v := .int .i64 i) rfl rfl (by kernel_rfl) (by kernel_rfl) (by kernel_rfl) (fun _ _ _ h => h) ⟨by kernel_rfl, fun W hW => by obtain ⟨hW1, hW2⟩ := hW; go_simp⟩ ?_
          refine anyK_take (i := 14) (d := 32) (v := .pointer (some ⟨gA, oA + i * 2, none⟩)) rfl rfl (by kernel_rfl) (by kernel_rfl) (by kernel_rfl) (fun _ _ _ h => h) ⟨by kernel_rfl, fun W hW => by obtain ⟨hW1, hW2⟩ := hW; go_simp⟩ ?_
          refine anyK_take (i := 15) (d := 33) (v := .pointer (some ⟨gA, oA + i * 2, none⟩)) rfl rfl (by kernel_rfl) (by kernel_rfl) (by kernel_rfl) (fun _ _ _ h => h) ⟨by kernel_rfl, fun W hW => by obtain ⟨hW1, hW2⟩ := hW; go_simp⟩ ?_
          refine anyK_take (i := 16) (d := 34) (v := .int .u64 (m : Int)) rfl rfl (by kernel_rfl) (by kernel_rfl) (by kernel_rfl) (fun _ _ _ h => h) ⟨by kernel_rfl, fun W hW => by obtain ⟨hW1, hW2⟩ := hW; go_simp⟩ ?_
          refine anyK_take (i := 17) (d := 35) (v := .bool true) rfl rfl (by kernel_rfl) (by kernel_rfl) (by kernel_rfl) (fun _ _ _ h => h) ⟨by kernel_rfl, fun W hW => by obtain ⟨hW1, hW2⟩ := hW; go_simp <;> omega⟩ ?_
          refine anyK_take (i := 18) (d := 36) (v := .bool true) rfl rfl (by kernel_rfl) (by kernel_rfl) (by kernel_rfl) (fun _ _ _ h => h) ⟨by kernel_rfl, fun W hW => by obtain ⟨hW1, hW2⟩ := hW; go_simp⟩ ?_
          refine anyK_done (by kernel_rfl) (HB.out V HBe.out) ?_
          go_step
          go_simp
          have HE := Lib.hid (show EndFlag21 1 ss from by unfold EndFlag21; rw [errC_arg (HNo.out (by omega))]; rfl)
          clear HNx HNo
          go_wp2_with fail
          go_ret3
          exact OutRef.err HE.out (by omega) HBe.out
    · obtain rfl : n = i := by omega
      have ha : AllOk ss := OkTo21.all (by rw [HN.out]; exact HO.out)
      have HA := Lib.hid ha
      have HLP := Lib.hid (HP.out ha)
      have HCp := Lib.hid (show Cop (ss.take 0) from List.Pairwise.nil)
      have HPe := Lib.hid (show 1 = prodC (ss.take 0) from rfl)
      clear ha HO HP
      go_wp2_with fail
      go_loopw [5, 7] (fun mv iv wr => ∃ i p : Nat, iv = .int .i64 i ∧ mv = .int .u64 p ∧ i ≤ n ∧ Hid (Cop (ss.take i)) ∧ Hid (p = prodC (ss.take i)) ∧ Hid (Below w.heap.size w wr)) (fun _ iv _ => n - (intOf iv).toNat)
      case atStart => exact ⟨0, 1, rfl, rfl, Nat.zero_le _, HCp, HPe, HBe⟩
      case round =>
        clear HCp HPe HBe
        obtain ⟨i, p, rfl, rfl, hi, HCp, HPe, HBe⟩ := hrel
        by_cases hlt : i < n
        · have his : i < ss.length := by rw [HN.out]; exact hlt
          obtain ⟨gA, oA, rfl, hgA, _, _⟩ := HR.out.at21 his
          obtain ⟨mi, hmi⟩ : ∃ m, ss[i].m = m := ⟨_, rfl⟩
          have HEm := Lib.hid hmi
          have hmp := HA.out _ (List.getElem_mem his)
          have hmw := (HW.out _ (List.getElem_mem his)).1
          have HMi := Lib.hid (show 0 < mi ∧ mi < 18446744073709551616 from ⟨by omega, by omega⟩)
          have HAp := Lib.hid (ApartTo.start ss mi)
          clear hmi hmp hmw
          go_wp2_with fail
          go_loopw [8] (fun kv wr => ∃ k : Nat, kv = .int .i64 k ∧ k ≤ i ∧ Hid (ApartTo ss mi k) ∧ Hid (Below w.heap.size w wr)) (fun kv _ => i - (intOf kv).toNat)
          case atStart => exact ⟨0, rfl, Nat.zero_le _, HAp, HBe⟩
          case round =>
            clear HAp HBe
            obtain ⟨k, rfl, hk, HAp, HBe⟩ := hrel
            by_cases hkl : k < i
            · have hkn : k < n := by omega
              have hks : k < ss.length := by rw [HN.out]; omega
              have hC := fun u (b : Below w.heap.size w u) => (⟨(HR.out.cells21 b his).1, (HR.out.cells21 b hks).1⟩ : u.cell? ⟨gA, oA + i * 2, none⟩ = some (.int .u64 (ss[i].m : Int)) ∧ u.cell? ⟨gA, oA + k * 2, none⟩ = some (.int .u64 (ss[k].m : Int)))
              have HNxt := Lib.hid (HAp.out.next hks)
              have HNo := Lib.hid (not_cop_two his hkl)
              have hkw := (HW.out _ (List.getElem_mem hks)).1
              obtain ⟨mk, hmk⟩ : ∃ m, ss[k].m = m := ⟨_, rfl⟩
              obtain ⟨G, hG⟩ : ∃ G, Nat.gcd mi mk = G := ⟨_, rfl⟩
              have hGp : 0 < G := by rw [← hG]; exact Nat.gcd_pos_of_pos_left mk HMi.out.1
              rw [hmk] at HNxt
              rw [HEm.out, hmk] at HNo
              rw [hG] at HNo
              rw [Nat.gcd_comm, hG] at HNxt
              simp only [HEm.out, hmk] at hC
              rw [hmk] at hkw
              have HC := Lib.hid hC
              have C1 := Lib.hid fun u => common21_any u mi mk HMi.out.2 hkw
              rw [hG] at C1
              clear hC hmk hkw hG
              obtain ⟨V, hV⟩ : ∃ V, wr.drew = V := ⟨_, rfl⟩
              have bd : Below wr.heap.size wr V := by rw [← hV]; exact drawn21 1
              have HBe := Lib.hid (below_step HBe.out bd)
              clear bd
              go_wp2_with fail
              refine wp_region_any (by kernel_rfl) ?_
              change wpAny _ _ _ _ _ _ _ wr.drew
              rw [hV]
              clear hV
              refine anyK.toAny (B := fun u => u.cell? ⟨gA, oA + i * 2, none⟩ = some (.int .u64 (mi : Int)) ∧ u.cell? ⟨gA, oA + k * 2, none⟩ = some (.int .u64 (mk : Int))) ?_
              refine anyK_take (i := 0) (d := 48) (v := .slice (some ⟨gA, oA, none⟩) n c) rfl rfl (by kernel_rfl) (by kernel_rfl) (by kernel_rfl) (fun _ _ _ h => h) ⟨by kernel_rfl, fun W hW => by obtain ⟨hW1, hW2⟩ := hW; go_simp⟩ ?_
              refine anyK_take (i := 1) (d := 49) (v := .int .i64 i) rfl rfl (by kernel_rfl) (by kernel_rfl) (by kernel_rfl) (fun _ _ _ h => h) ⟨by kernel_rfl, fun W hW => by obtain ⟨hW1, hW2⟩ := hW; go_simp⟩ ?_
              refine anyK_take (i := 2) (d := 50) (v := .pointer (some ⟨gA, oA + i * 2, none⟩)) rfl rfl (by kernel_rfl) (by kernel_rfl) (by kernel_rfl) (fun _ _ _ h => h) ⟨by kernel_rfl, fun W hW => by obtain ⟨hW1, hW2⟩ := hW; go_simp⟩ ?_
              refine anyK_take (i := 3) (d := 51) (v := .pointer (some ⟨gA, oA + i * 2, none⟩)) rfl rfl (by kernel_rfl) (by kernel_rfl) (by kernel_rfl) (fun _ _ _ h => h) ⟨by kernel_rfl, fun W hW => by obtain ⟨hW1, hW2⟩ := hW; go_simp⟩ ?_
              refine anyK_take (i := 4) (d := 52) (v := .int .u64 (mi : Int)) rfl rfl (by kernel_rfl) (by kernel_rfl) (by kernel_rfl) (fun _ _ _ h => h) ⟨by kernel_rfl, fun W hW => by obtain ⟨hW1, hW2⟩ := hW; go_simp⟩ ?_
              refine anyK_take (i := 5) (d := 53) (v := .slice (some ⟨gA, oA, none⟩) n c) rfl rfl (by kernel_rfl) (by kernel_rfl) (by kernel_rfl) (fun _ _ _ h => h) ⟨by kernel_rfl, fun W hW => by obtain ⟨hW1, hW2⟩ := hW; go_simp⟩ ?_
              refine anyK_take (i := 6) (d := 54) (v := .int .i64 k) rfl rfl (by kernel_rfl) (by kernel_rfl) (by kernel_rfl) (fun _ _ _ h => h) ⟨by kernel_rfl, fun W hW => by obtain ⟨hW1, hW2⟩ := hW; go_simp⟩ ?_
              refine anyK_take (i := 7) (d := 55) (v := .pointer (some ⟨gA, oA + k * 2, none⟩)) rfl rfl (by kernel_rfl) (by kernel_rfl) (by kernel_rfl) (fun _ _ _ h => h) ⟨by kernel_rfl, fun W hW => by obtain ⟨hW1, hW2⟩ := hW; go_simp⟩ ?_
              refine anyK_take (i := 8) (d := 56) (v := .pointer (some ⟨gA, oA + k * 2, none⟩)) rfl rfl (by kernel_rfl) (by kernel_rfl) (by kernel_rfl) (fun _ _ _ h => h) ⟨by kernel_rfl, fun W hW => by obtain ⟨hW1, hW2⟩ := hW; go_simp⟩ ?_
              refine anyK_take (i := 9) (d := 57) (v := .int .u64 (mk : Int)) rfl rfl (by kernel_rfl) (by kernel_rfl) (by kernel_rfl) (fun _ _ _ h => h) ⟨by kernel_rfl, fun W hW => by obtain ⟨hW1, hW2⟩ := hW; go_simp⟩ ?_
              refine anyK_one (i := 10) (by kernel_rfl) rfl (HC.out V HBe.out) (fun K hK => ?_)
              go_simp
              refine (C1.out V).mono ?_
              rintro e u1 ⟨rfl, b1⟩
              have HBe := Lib.hid (below_step HBe.out (b1.below _))
              clear b1 C1
              refine hK _ _ ?_
              clear hK K
              by_cases hG1 : 1 < G
              · refine anyK_take (i := 11) (d := 59) (v := .bool true) rfl rfl (by kernel_rfl) (by kernel_rfl) (by kernel_rfl) (fun _ _ _ h => h) ⟨by kernel_rfl, fun W hW => by obtain ⟨hW1, hW2⟩ := hW; go_simp <;> omega⟩ ?_
                refine anyK_done (by kernel_rfl) (HC.out u1 HBe.out) ?_
                go_step
                go_simp
                have HE := Lib.hid (show EndFlag21 10 ss from by unfold EndFlag21; rw [errC_inv HA.out (HLP.out.bits) (HNo.out (by omega))]; rfl)
                clear HNo HNxt
                go_wp2_with fail
                go_ret3
                exact OutRef.err HE.out (by omega) HBe.out
              · refine anyK_take (i := 11) (d := 59) (v := .bool false) rfl rfl (by kernel_rfl) (by kernel_rfl) (by kernel_rfl) (fun _ _ _ h => h) ⟨by kernel_rfl, fun W hW => by obtain ⟨hW1, hW2⟩ := hW; go_simp <;> omega⟩ ?_
                refine anyK_done (by kernel_rfl) (HC.out u1 HBe.out) ?_
                go_step
                go_simp
                have HAp := Lib.hid (HNxt.out (by omega))
                clear HNo HNxt
                go_wp2_with fail
                go_roundw
                case rel => exact ⟨_, by go_num, by omega, HAp, HBe⟩
                case measure => simp [intOf]; omega
            · obtain rfl : i = k := by omega
              have e1 := (HR.out.cells21 HBe.out his).1
              rw [HEm.out] at e1
              have hap := HAp.out
              rw [← HEm.out] at hap
              have HCp2 := Lib.hid (ApartTo.cop his hap HCp.out)
              have hpe := prodC_take his
              rw [HEm.out, ← HPe.out] at hpe
              have hple := prodC_take_le HA.out (i + 1)
              have hlow := HLP.out
              unfold LowP at hlow
              obtain ⟨p2, hp2⟩ : ∃ p2, p * mi = p2 := ⟨_, rfl⟩
              rw [hp2] at hpe
              have hp2l : p2 < 2147483648 := by omega
              have hpi : (p : Int) * (mi : Int) = (p2 : Int) := by rw [← hp2]; rfl
              have HPe2 := Lib.hid (show p2 = prodC (ss.take (i + 1)) from hpe.symm)
              clear hap hpe hple hlow hp2
              go_wp2_with fail
              go_roundw
              case rel => exact ⟨_, p2, by go_num, by go_num, by omega, HCp2, HPe2, HBe⟩
              case measure => simp [intOf]; omega
        · obtain rfl : n = i := by omega
          have HCop := Lib.hid (cop_take_all (by rw [HN.out]; exact HCp.out))
          have hpp := HPe.out
          rw [← HN.out, List.take_length] at hpp
          have HPp := Lib.hid hpp
          have HPb := Lib.hid (show 1 = prodC (ss.take 0) from rfl)
          have HIs := Lib.hid (show IsR (ss.take 0) 0 from isR_nil)
          clear hpp HCp HPe
          go_wp2_with fail
          go_loopw [9, 10, 11] (fun rv bv iv wr => ∃ i r0 b : Nat, iv = .int .i64 i ∧ rv = .int .u64 r0 ∧ bv = .int .u64 b ∧ i ≤ n ∧ Hid (b = prodC (ss.take i)) ∧ Hid (IsR (ss.take i) r0) ∧ Hid (Below w.heap.size w wr)) (fun _ _ iv _ => n - (intOf iv).toNat)
          case atStart => exact ⟨0, 0, 1, rfl, rfl, rfl, Nat.zero_le _, HPb, HIs, HBe⟩
          case round =>
            clear HPb HIs HBe
            obtain ⟨i, r0, b, rfl, rfl, rfl, hi, HPb, HIs, HBe⟩ := hrel
            by_cases hlt : i < n
            · have his : i < ss.length := by rw [HN.out]; exact hlt
              obtain ⟨gA, oA, rfl, hgA, _, _⟩ := HR.out.at21 his
              have hC := fun u (b : Below w.heap.size w u) => HR.out.cells21 b his
              obtain ⟨mi, hmi⟩ : ∃ m, ss[i].m = m := ⟨_, rfl⟩
              obtain ⟨q, hq⟩ : ∃ q, ss[i].r = q := ⟨_, rfl⟩
              have HEm := Lib.hid hmi
              have HEq := Lib.hid hq
              simp only [hmi, hq] at hC
              have HC := Lib.hid hC
              have hok := HA.out _ (List.getElem_mem his)
              have HMi := Lib.hid (show 0 < mi ∧ q < mi from ⟨by omega, by omega⟩)
              have hcp : Cop (ss.take (i + 1)) := HCop.out.sublist (List.take_sublist _ _)
              rw [List.take_succ_eq_append_getElem his] at hcp
              have hg := (cop_snoc.1 hcp).2
              rw [← HPb.out, hmi] at hg
              have HG := Lib.hid hg
              have HIs0 := Lib.hid (show r0 < b by rw [HPb.out]; exact HIs.out.1)
              have hb0 : 0 < b := by have := HIs0.out; omega
              have hple := prodC_take_le HA.out (i + 1)
              rw [prodC_take his, hmi, ← HPb.out] at hple
              have hlow := HLP.out
              unfold LowP at hlow
              obtain ⟨bm, hbm⟩ : ∃ bm, b * mi = bm := ⟨_, rfl⟩
              have HBM := Lib.hid hbm
              rw [hbm] at hple
              have hbml : bm < 2147483648 := by omega
              have hbi : (b : Int) * (mi : Int) = (bm : Int) := by rw [← hbm]; rfl
              have hble : b ≤ bm := by rw [← hbm]; exact Nat.le_mul_of_pos_right b HMi.out.1
              have HRt := Lib.hid (show r0 = r0 + 0 * b by omega)
              have HNy := Lib.hid (show NotYet r0 b mi q 0 from fun k hk => by omega)
              clear hmi hq hC hok hcp hg hple hlow hbm
              go_wp2_with fail
              go_loopw [9] (fun rv wr => ∃ r t : Nat, rv = .int .u64 r ∧ Hid (r = r0 + t * b) ∧ Hid (NotYet r0 b mi q t) ∧ Hid (Below w.heap.size w wr)) (fun rv _ => bm - (intOf rv).toNat)
              case atStart => exact ⟨r0, 0, rfl, HRt, HNy, HBe⟩
              case round =>
                clear HRt HNy HBe
                obtain ⟨r, t, rfl, HRt, HNy, HBe⟩ := hrel
                obtain ⟨z, hz⟩ : ∃ z, r % mi = z := ⟨_, rfl⟩
                have hzi : (r : Int).tmod (mi : Int) = (z : Int) := by rw [← hz]; rfl
                have hzi2 : (r : Int) % (mi : Int) = (z : Int) := by rw [← hz]; rfl
                have htl := HNy.out.lt HG.out HMi.out.2
                have hrl := tried_lt21 (b := b) (m := mi) (t := t) HIs0.out htl
                rw [HBM.out, ← HRt.out] at hrl
                have HTl := Lib.hid htl
                have hmn0 : mi ≠ 0 := by have := HMi.out.1; omega
                have hmn1 : ((mi : Int) == 0) = false := by simp; omega
                have HZ := Lib.hid hz
                clear hz htl
                by_cases hzq : z = q
                · obtain ⟨V, hV⟩ : ∃ V, wr.drew = V := ⟨_, rfl⟩
                  have bd : Below wr.heap.size wr V := by rw [← hV]; exact drawn21 1
                  have HBe := Lib.hid (below_step HBe.out bd)
                  clear bd
                  go_wp2_with fail
                  refine wp_region_any (by kernel_rfl) ?_
                  change wpAny _ _ _ _ _ _ _ wr.drew
                  rw [hV]
                  clear hV
                  refine anyK.toAny (B := fun u => u.cell? ⟨gA, oA + i * 2, none⟩ = some (.int .u64 (mi : Int)) ∧ u.cell? ⟨gA, oA + i * 2 + 1, none⟩ = some (.int .u64 (q : Int))) ?_
                  refine anyK_take (i := 0) (d := 73) (v := .int .u64 (r : Int)) rfl rfl (by kernel_rfl) (by kernel_rfl) (by kernel_rfl) (fun _ _ _ h => h) ⟨by kernel_rfl, fun W hW => by obtain ⟨hW1, hW2⟩ := hW; go_simp⟩ ?_
                  refine anyK_take (i := 1) (d := 74) (v := .slice (some ⟨gA, oA, none⟩) n c) rfl rfl (by kernel_rfl) (by kernel_rfl) (by kernel_rfl) (fun _ _ _ h => h) ⟨by kernel_rfl, fun W hW => by obtain ⟨hW1, hW2⟩ := hW; go_simp⟩ ?_
                  refine anyK_take (i := 2) (d := 75) (v := .int .i64 i) rfl rfl (by kernel_rfl) (by kernel_rfl) (by kernel_rfl) (fun _ _ _ h => h) ⟨by kernel_rfl, fun W hW => by obtain ⟨hW1, hW2⟩ := hW; go_simp⟩ ?_
                  refine anyK_take (i := 3) (d := 76) (v := .pointer (some ⟨gA, oA + i * 2, none⟩)) rfl rfl (by kernel_rfl) (by kernel_rfl) (by kernel_rfl) (fun _ _ _ h => h) ⟨by kernel_rfl, fun W hW => by obtain ⟨hW1, hW2⟩ := hW; go_simp⟩ ?_
                  refine anyK_take (i := 4) (d := 77) (v := .pointer (some ⟨gA, oA + i * 2, none⟩)) rfl rfl (by kernel_rfl) (by kernel_rfl) (by kernel_rfl) (fun _ _ _ h => h) ⟨by kernel_rfl, fun W hW => by obtain ⟨hW1, hW2⟩ := hW; go_simp⟩ ?_
                  refine anyK_take (i := 5) (d := 78) (v := .int .u64 (mi : Int)) rfl rfl (by kernel_rfl) (by kernel_rfl) (by kernel_rfl) (fun _ _ _ h => h) ⟨by kernel_rfl, fun W hW => by obtain ⟨hW1, hW2⟩ := hW; go_simp⟩ ?_
                  refine anyK_take (i := 6) (d := 79) (v := .int .u64 (z : Int)) rfl rfl (by kernel_rfl) (by kernel_rfl) (by kernel_rfl) (fun _ _ _ h => h) ⟨by kernel_rfl, fun W hW => by obtain ⟨hW1, hW2⟩ := hW; go_simp⟩ ?_
                  refine anyK_take (i := 7) (d := 80) (v := .slice (some ⟨gA, oA, none⟩) n c) rfl rfl (by kernel_rfl) (by kernel_rfl) (by kernel_rfl) (fun _ _ _ h => h) ⟨by kernel_rfl, fun W hW => by obtain ⟨hW1, hW2⟩ := hW; go_simp⟩ ?_
                  refine anyK_take (i := 8) (d := 81) (v := .int .i64 i) rfl rfl (by kernel_rfl) (by kernel_rfl) (by kernel_rfl) (fun _ _ _ h => h) ⟨by kernel_rfl, fun W hW => by obtain ⟨hW1, hW2⟩ := hW; go_simp⟩ ?_
                  refine anyK_take (i := 9) (d := 82) (v := .pointer (some ⟨gA, oA + i * 2, none⟩)) rfl rfl (by kernel_rfl) (by kernel_rfl) (by kernel_rfl) (fun _ _ _ h => h) ⟨by kernel_rfl, fun W hW => by obtain ⟨hW1, hW2⟩ := hW; go_simp⟩ ?_
                  refine anyK_take (i := 10) (d := 83) (v := .pointer (some ⟨gA, oA + i * 2 + 1, none⟩)) rfl rfl (by kernel_rfl) (by kernel_rfl) (by kernel_rfl) (fun _ _ _ h => h) ⟨by kernel_rfl, fun W hW => by obtain ⟨hW1, hW2⟩ := hW; go_simp⟩ ?_
                  refine anyK_take (i := 11) (d := 84) (v := .int .u64 (q : Int)) rfl rfl (by kernel_rfl) (by kernel_rfl) (by kernel_rfl) (fun _ _ _ h => h) ⟨by kernel_rfl, fun W hW => by obtain ⟨hW1, hW2⟩ := hW; go_simp⟩ ?_
                  refine anyK_take (i := 12) (d := 85) (v := .bool false) rfl rfl (by kernel_rfl) (by kernel_rfl) (by kernel_rfl) (fun _ _ _ h => h) ⟨by kernel_rfl, fun W hW => by obtain ⟨hW1, hW2⟩ := hW; go_simp <;> omega⟩ ?_
                  refine anyK_done (by kernel_rfl) (HC.out V HBe.out) ?_
                  go_step
                  go_simp
                  have hI := isR_tried his HIs.out (t := t) (by rw [HEm.out]; exact HTl.out) (by rw [HEm.out, HEq.out, ← HPb.out, ← HRt.out, HZ.out]; exact hzq)
                  rw [← HPb.out, ← HRt.out] at hI
                  have HI2 := Lib.hid hI
                  have e1 := (HC.out V HBe.out).1
                  have HPb2 := Lib.hid (show bm = prodC (ss.take (i + 1)) by rw [prodC_take his, HEm.out, ← HPb.out]; exact HBM.out.symm)
                  clear hI hzi hzi2
                  go_wp2_with fail
                  go_roundw
                  case rel => exact ⟨_, r, bm, by go_num, rfl, by go_num, by omega, HPb2, HI2, HBe⟩
                  case measure => simp [intOf]; omega
                · obtain ⟨V, hV⟩ : ∃ V, wr.drew = V := ⟨_, rfl⟩
                  have bd : Below wr.heap.size wr V := by rw [← hV]; exact drawn21 1
                  have HBe := Lib.hid (below_step HBe.out bd)
                  clear bd
                  go_wp2_with fail
                  refine wp_region_any (by kernel_rfl) ?_
                  change wpAny _ _ _ _ _ _ _ wr.drew
                  rw [hV]
                  clear hV
                  refine anyK.toAny (B := fun u => u.cell? ⟨gA, oA + i * 2, none⟩ = some (.int .u64 (mi : Int)) ∧ u.cell? ⟨gA, oA + i * 2 + 1, none⟩ = some (.int .u64 (q : Int))) ?_
                  refine anyK_take (i := 0) (d := 73) (v := .int .u64 (r : Int)) rfl rfl (by kernel_rfl) (by kernel_rfl) (by kernel_rfl) (fun _ _ _ h => h) ⟨by kernel_rfl, fun W hW => by obtain ⟨hW1, hW2⟩ := hW; go_simp⟩ ?_
                  refine anyK_take (i := 1) (d := 74) (v := .slice (some ⟨gA, oA, none⟩) n c) rfl rfl (by kernel_rfl) (by kernel_rfl) (by kernel_rfl) (fun _ _ _ h => h) ⟨by kernel_rfl, fun W hW => by obtain ⟨hW1, hW2⟩ := hW; go_simp⟩ ?_
                  refine anyK_take (i := 2) (d := 75) (v := .int .i64 i) rfl rfl (by kernel_rfl) (by kernel_rfl) (by kernel_rfl) (fun _ _ _ h => h) ⟨by kernel_rfl, fun W hW => by obtain ⟨hW1, hW2⟩ := hW; go_simp⟩ ?_
                  refine anyK_take (i := 3) (d := 76) (v := .pointer (some ⟨gA, oA + i * 2, none⟩)) rfl rfl (by kernel_rfl) (by kernel_rfl) (by kernel_rfl) (fun _ _ _ h => h) ⟨by kernel_rfl, fun W hW => by obtain ⟨hW1, hW2⟩ := hW; go_simp⟩ ?_
                  refine anyK_take (i := 4) (d := 77) (v := .pointer (some ⟨gA, oA + i * 2, none⟩)) rfl rfl (by kernel_rfl) (by kernel_rfl) (by kernel_rfl) (fun _ _ _ h => h) ⟨by kernel_rfl, fun W hW => by obtain ⟨hW1, hW2⟩ := hW; go_simp⟩ ?_
                  refine anyK_take (i := 5) (d := 78) (v := .int .u64 (mi : Int)) rfl rfl (by kernel_rfl) (by kernel_rfl) (by kernel_rfl) (fun _ _ _ h => h) ⟨by kernel_rfl, fun W hW => by obtain ⟨hW1, hW2⟩ := hW; go_simp⟩ ?_
                  refine anyK_take (i := 6) (d := 79) (v := .int .u64 (z : Int)) rfl rfl (by kernel_rfl) (by kernel_rfl) (by kernel_rfl) (fun _ _ _ h => h) ⟨by kernel_rfl, fun W hW => by obtain ⟨hW1, hW2⟩ := hW; go_simp⟩ ?_
                  refine anyK_take (i := 7) (d := 80) (v := .slice (some ⟨gA, oA, none⟩) n c) rfl rfl (by kernel_rfl) (by kernel_rfl) (by kernel_rfl) (fun _ _ _ h => h) ⟨by kernel_rfl, fun W hW => by obtain ⟨hW1, hW2⟩ := hW; go_simp⟩ ?_
                  refine anyK_take (i := 8) (d := 81) (v := .int .i64 i) rfl rfl (by kernel_rfl) (by kernel_rfl) (by kernel_rfl) (fun _ _ _ h => h) ⟨by kernel_rfl, fun W hW => by obtain ⟨hW1, hW2⟩ := hW; go_simp⟩ ?_
                  refine anyK_take (i := 9) (d := 82) (v := .pointer (some ⟨gA, oA + i * 2, none⟩)) rfl rfl (by kernel_rfl) (by kernel_rfl) (by kernel_rfl) (fun _ _ _ h => h) ⟨by kernel_rfl, fun W hW => by obtain ⟨hW1, hW2⟩ := hW; go_simp⟩ ?_
                  refine anyK_take (i := 10) (d := 83) (v := .pointer (some ⟨gA, oA + i * 2 + 1, none⟩)) rfl rfl (by kernel_rfl) (by kernel_rfl) (by kernel_rfl) (fun _ _ _ h => h) ⟨by kernel_rfl, fun W hW => by obtain ⟨hW1, hW2⟩ := hW; go_simp⟩ ?_
                  refine anyK_take (i := 11) (d := 84) (v := .int .u64 (q : Int)) rfl rfl (by kernel_rfl) (by kernel_rfl) (by kernel_rfl) (fun _ _ _ h => h) ⟨by kernel_rfl, fun W hW => by obtain ⟨hW1, hW2⟩ := hW; go_simp⟩ ?_
                  refine anyK_take (i := 12) (d := 85) (v := .bool true) rfl rfl (by kernel_rfl) (by kernel_rfl) (by kernel_rfl) (fun _ _ _ h => h) ⟨by kernel_rfl, fun W hW => by obtain ⟨hW1, hW2⟩ := hW; go_simp <;> omega⟩ ?_
                  refine anyK_done (by kernel_rfl) (HC.out V HBe.out) ?_
                  go_step
                  go_simp
                  have HNy2 := Lib.hid (HNy.out.next (by rw [← HRt.out, HZ.out]; exact hzq))
                  obtain ⟨s, hs⟩ : ∃ s, r + b = s := ⟨_, rfl⟩
                  have HRt2 := Lib.hid (show s = r0 + (t + 1) * b by rw [← hs, HRt.out, Nat.add_mul, Nat.one_mul, Nat.add_assoc])
                  have hrb : (r : Int) + (b : Int) = (s : Int) := by omega
                  have hrs : r < s := by omega
                  clear hzi hzi2 hs
                  go_wp2_with fail
                  go_roundw
                  case rel => exact ⟨s, t + 1, by go_num, HRt2, HNy2, HBe⟩
                  case measure => simp [intOf]; omega
            · obtain rfl : n = i := by omega
              have hI := HIs.out
              rw [← HN.out, List.take_length] at hI
              have h0 : errC ss = 0 := errC_ok HA.out HLP.out.bits HCop.out
              have HI := Lib.hid hI
              have H0 := Lib.hid h0
              clear hI h0
              go_wp2_with fail
              go_ret3
              exact OutRef.ok H0.out HI.out HPp.out HBe.out
end Go.Proofs.Ytgmolbiicclcaaa

/- Several texts in one; each begins with a remark that says what it shows and on which conditions. -/
import Derived.Test.YtjpfcdgaepdcdaaGreatKbo
import Derived.Test.YtjpfcdgaepdcdaaGreatKbk
import Derived.Test.YtjpfcdgaepdcdaaGreatKay
import Derived.Test.YtjpfcdgaepdcdaaGreatKae
import Derived.Test.YtjpfcdgaepdcdaaGreatKbe
import Derived.Deep.LoopGhost
/- rho's Factors. Conditions: as typed (words; up to a thousand draws). -/
namespace Go.Proofs.YtjpfcdgaepdcdaaGreat
open Go.RowKit
set_option maxRecDepth 20000
/-! What stands in the two lists -/
/-- What has been told, what waits, and what is in hand, multiplied, is the number. -/
structure FacMid (N : Nat) (ls us : List Nat) (k : Nat) : Prop where
  all : prodN ls * prodN us * k = N
  told : ∀ p ∈ ls, IsW p ∧ 2 ≤ p
  wait : ∀ u ∈ us, 2 ≤ u ∧ ¬ IsW u ∧ NoneBelow u 65536
/-- What may be put. -/
def MayPut (part : Nat) : Prop := part ≠ 1 → 2 ≤ part ∧ (¬ IsW part → NoneBelow part 65536)
theorem FacMid.put {N part k : Nat} {ls us ls' us' : List Nat} (h : FacMid N ls us (part * k)) (hm : MayPut part) (hp : PutIs part ls us ls' us') : FacMid N ls' us' k := by
  rcases hp with ⟨rfl, rfl, rfl⟩ | ⟨h1, h2, rfl, rfl⟩ | ⟨h1, h2, rfl, rfl⟩
  · exact ⟨by rw [← h.all, Nat.one_mul], h.told, h.wait⟩
  · refine ⟨by rw [← h.all, prodN_append, prodN_one]; simp only [Nat.mul_assoc, Nat.mul_left_comm, Nat.mul_comm], fun p hp => ?_, h.wait⟩
    rcases List.mem_append.1 hp with h3 | h3
    · exact h.told p h3
    · rw [List.mem_singleton.1 h3]; exact ⟨h2, (hm h1).1⟩
  · refine ⟨by rw [← h.all, prodN_append, prodN_one]; simp only [Nat.mul_assoc], h.told, fun u hu => ?_⟩
    rcases List.mem_append.1 hu with h3 | h3
    · exact h.wait u h3
    · rw [List.mem_singleton.1 h3]; exact ⟨(hm h1).1, h2, (hm h1).2 h2⟩
theorem FacMid.pos {N k : Nat} {ls us : List Nat} (h : FacMid N ls us k) (h0 : 0 < N) : 0 < prodN ls ∧ 0 < prodN us ∧ 0 < k := by
  have e := h.all
  refine ⟨?_, ?_, ?_⟩ <;> (apply Nat.pos_of_ne_zero; intro hz; rw [hz] at e; simp at e; omega)
theorem FacMid.few {N k : Nat} {ls us : List Nat} (h : FacMid N ls us k) (h0 : 0 < N) (hN : N < 18446744073709551616) : ls.length < 64 := by
  obtain ⟨h1, h2, h3⟩ := h.pos h0
  refine prodN_len (fun p hp => (h.told p hp).2) (Nat.lt_of_le_of_lt ?_ hN)
  rw [← h.all, Nat.mul_assoc]
  exact Nat.le_mul_of_pos_right _ (Nat.mul_pos h2 h3)
theorem FacMid.one {N k : Nat} {ls us : List Nat} (h : FacMid N ls us k) (h0 : 0 < N) (hN : N < 18446744073709551616) : us = [] ∨ ∃ u, us = [u] := by
  cases us with
  | nil => exact .inl rfl
  | cons u t =>
    cases t with
    | nil => exact .inr ⟨u, rfl⟩
    | cons v t =>
      exfalso
      have hu := h.wait u List.mem_cons_self
      have hv := h.wait v (List.mem_cons_of_mem _ List.mem_cons_self)
      have hg := two_great hu.2.2 hu.1 (fun hp => hu.2.1 (isW_prm hp)) hv.2.2 hv.1 (fun hp => hv.2.1 (isW_prm hp))
      obtain ⟨h1, h2, h3⟩ := h.pos h0
      have e := h.all
      rw [prodN_cons, prodN_cons] at e h2
      have ht : 0 < prodN t := by
        apply Nat.pos_of_ne_zero; intro hz; rw [hz] at h2; simp at h2
      have h4 : u * v ≤ prodN (u :: v :: t) := by
        rw [prodN_cons, prodN_cons, ← Nat.mul_assoc]; exact Nat.le_mul_of_pos_right _ ht
      have h5 : prodN (u :: v :: t) ≤ N := by
        rw [← h.all, Nat.mul_comm (prodN ls), Nat.mul_assoc]
        exact Nat.le_mul_of_pos_right _ (Nat.mul_pos h1 h3)
      omega
theorem FacMid.part {N k : Nat} {ls us : List Nat} (h : FacMid N ls us k) (h0 : 0 < N) : k ≤ N := Nat.le_of_dvd h0 (by rw [← h.all]; exact Nat.dvd_mul_left _ _)
theorem mayPut_trial {m : Nat} (h : IsTrial m 65535 0) (h0 : 0 < m) : MayPut m := fun h1 => ⟨by omega, fun hw d h2 h3 hz => by
  rcases h with ⟨_, h⟩ | ⟨h, _⟩
  · rcases Nat.lt_trichotomy d m with h4 | h4 | h4
    · exact h d h2 (by omega) (by omega) h4 hz
    · subst h4
      refine hw (isW_prm ⟨by omega, fun e he => ?_⟩)
      by_cases e1 : e = 1
      · exact .inl e1
      · rcases Nat.lt_or_ge e d with h5 | h5
        · exact absurd (Nat.mod_eq_zero_of_dvd he) (h e (by have := Nat.pos_of_dvd_of_pos he h0; omega) (by omega) (by omega) h5)
        · exact .inr (Nat.le_antisymm (Nat.le_of_dvd h0 he) h5)
    · rw [Nat.mod_eq_of_lt h4] at hz; omega
  · omega⟩
theorem mayPut_part {u d : Nat} (h : NoneBelow u 65536) (hd : d ∣ u) (hu : 0 < u) : MayPut d := fun h1 => ⟨by have := Nat.pos_of_dvd_of_pos hd hu; omega, fun _ => h.less hd⟩
theorem PutIs.mem {part : Nat} {ls us ls' us' : List Nat} (h : PutIs part ls us ls' us') : ∀ x ∈ us', x ∈ us ∨ x = part := fun x hx => by
  rcases h with ⟨_, _, rfl⟩ | ⟨_, _, _, rfl⟩ | ⟨_, _, _, rfl⟩
  · exact .inl hx
  · exact .inl hx
  · rcases List.mem_append.1 hx with h | h
    · exact .inl h
    · exact .inr (List.mem_singleton.1 h)
/-- How great what waits is. -/
def waitN (us : List Nat) : Nat := us.foldr (· + ·) 0
theorem waitN_lt {us : List Nat} {u : Nat} (h : us = [] ∨ ∃ x, us = [x]) (hx : ∀ x ∈ us, x < u) (hu : 0 < u) : waitN us < u := by
  rcases h with rfl | ⟨x, rfl⟩
  · exact hu
  · have := hx x List.mem_cons_self
    simpa [waitN] using this
theorem prodN_perm {l m : List Nat} (h : l.Perm m) : prodN l = prodN m := by
  induction h with
  | nil => rfl
  | cons a _ ih => rw [prodN_cons, prodN_cons, ih]
  | swap a b l => rw [prodN_cons, prodN_cons, prodN_cons, prodN_cons, Nat.mul_left_comm]
  | trans _ _ ih1 ih2 => exact ih1.trans ih2
theorem FacMid.tell {N rest er : Nat} {ls l2 : List Nat} (h : FacMid N ls [] rest) (hp : l2.Perm ls) (hr : l2.Pairwise (· ≤ ·)) (he : (er = 0 ∧ rest = 1) ∨ (er = 11 ∧ 1 < rest ∧ ¬ IsW rest ∧ NoneBelow rest 65536)) : Told10 IsW N l2 rest er where
  all := by have := h.all; rw [prodN_nil, Nat.mul_one] at this; rw [prodN_perm hp]; exact this
  tested := fun p hp2 => (h.told p (hp.mem_iff.1 hp2)).1
  great := fun p hp2 => (h.told p (hp.mem_iff.1 hp2)).2
  rise := hr
  ends := he
end Go.Proofs.YtjpfcdgaepdcdaaGreat
/- rho's Factors, walked. Conditions: as typed (words; up to a thousand draws). -/
namespace Go.Proofs.YtjpfcdgaepdcdaaGreat
open Go.RowKit
set_option maxRecDepth 20000
theorem own_mono10 {w : World} {b b' n : Nat} {e : TypeId} {v : Value} {xs : List Value} (h : w.ownsRow b e 1 v n xs) (hb : b' ≤ b) : w.ownsRow b' e 1 v n xs := by
  refine ⟨h.1, ?_⟩
  rcases h.2 with h2 | ⟨g, cap, cur, h1, h2, h3⟩
  · exact .inl h2
  · exact .inr ⟨g, cap, cur, h1, by omega, h3⟩
/-- The lists as they stand when the first number is put. -/
theorem FacAt.start {w w1 : World} {X : Option Addr} {d : Nat} {ls : List Nat} (gL : Nat) (hg : w.heap.size = gL) (own : w1.ownsRow (w.heap.size + 1) 27 1 (.slice X ls.length d) ls.length (ints .u64 ls)) (b : Below (w.heap.size + 1) (w.alloc (.cells #[.slice none 0 0] 24)) w1) :
    Boxed w1 gL 24 (.slice none 0 0) ∧ FacAt w gL w1.heap.size ((w1.setCell ⟨gL, 0, none⟩ (.slice X ls.length d)).alloc (.cells #[.slice none 0 0] 24)) (.slice X ls.length d) (.slice none 0 0) ls [] := by
  subst hg
  have h1 : Boxed w1 w.heap.size 24 (.slice none 0 0) := (b.block w.heap.size (by omega)).trans (Boxed.new w _ _)
  have hsz := b.size
  simp only [World.size_alloc] at hsz
  have h2 := boxed_set10 h1 (.slice X ls.length d)
  refine ⟨h1, ?_, ?_, ?_, World.ownsRow_nil _ _ _ _, fun k _ h => (by simp [Value.ownBlock] at h), by omega, ⟨Nat.le_refl _, by omega⟩, ?_⟩
  · exact (Below.heap_alloc _ _ _ (by simp [World.setCell]; omega)).trans h2
  · have := Boxed.new (w1.setCell ⟨w.heap.size, 0, none⟩ (.slice X ls.length d)) 24 (.slice none 0 0)
    simpa [World.setCell] using this
  · exact (own_set10 (own_mono10 own (by omega)) (own_box_ne10 own h1)).alloc _
  · refine ((((Below.refl w.heap.size w).alloc (Nat.le_refl _) _).trans (b.mono (by omega))).setCell (Nat.le_refl _) _).alloc ?_ _
    simp [World.setCell]
    omega
/-- One number waits, and is taken out. -/
theorem FacAt.pop {w0 wr : World} {gL gU cU u : Nat} {vL : Value} {AU : Option Addr} {ls : List Nat} (P : FacAt w0 gL gU wr vL (.slice AU 1 cU) ls [u]) :
    ∃ g, AU = some ⟨g, 0, none⟩ ∧ wr.cell? ⟨g, 0, none⟩ = some (.int .u64 (u : Int)) ∧ FacAt w0 gL gU (wr.setCell ⟨gU, 0, none⟩ (.slice (some ⟨g, 0, none⟩) 0 cU)) vL (.slice (some ⟨g, 0, none⟩) 0 cU) ls [] := by
  have oU := P.oU
  rcases oU.2 with ⟨_, h⟩ | ⟨g, cap, cur, hv, h1, h2, h3, h4, h5, h6⟩
  · simp at h
  · injection hv with hA _ hc
    subst hA
    refine ⟨g, rfl, ?_, ?_⟩
    · have := oU.cellAt 0 (by simp)
      rw [this]
      rfl
    · have hne := own_box_ne10 oU P.bU
      have o0 : wr.ownsRow w0.heap.size 27 1 (.slice (some ⟨g, 0, none⟩) 0 cU) 0 (ints .u64 []) := ⟨rfl, .inr ⟨g, cap, cur, by rw [hc], h1, h2, Nat.zero_le _, h4, h5, by simp [ints]⟩⟩
      exact ⟨(Below.heap_setCell _ _ _ _ P.ne).trans P.bL, boxed_set10 P.bU _, own_set10 P.oL (own_box_ne10 P.oL P.bU), own_set10 o0 hne, fun k hk => P.apart k hk, P.ne, P.lo, P.be.setCell P.lo.2 _⟩
theorem FacMid.last10 {N u : Nat} {ls : List Nat} (h : FacMid N ls [u] 1) (h0 : 0 < N) : u ≤ N := Nat.le_of_dvd h0 (by rw [← h.all, prodN_one, Nat.mul_one]; exact Nat.dvd_mul_left _ _)
theorem FacMid.popped {N u : Nat} {ls : List Nat} (h : FacMid N ls [u] 1) : FacMid N ls [] u := ⟨by rw [← h.all, prodN_one, prodN_nil, Nat.mul_one, Nat.mul_one], h.told, by simp⟩
theorem nth_word10 {l : List Nat} (h : Words l) (j : Nat) : nth l j < 18446744073709551616 := by
  unfold nth
  rw [List.getD_eq_getElem?_getD]
  cases hj : l[j]? with
  | none => simp
  | some y => simpa using h y (List.mem_of_getElem? hj)
theorem Told10.words10 {W : Nat → Prop} {N rest er : Nat} {l : List Nat} (h : Told10 W N l rest er) (h0 : 0 < N) (hN : N < 18446744073709551616) : Words l := fun x hx => by
  have := Nat.le_of_dvd h0 (Nat.dvd_trans (prodN_mem_dvd hx) (by rw [← h.all]; exact Nat.dvd_mul_right _ _))
  omega
/-- A store into a box leaves the row alone. -/
theorem OwnU.set11 {w : World} {base g t n : Nat} {A : Option Addr} {l : List Nat} {v0 : Value} (h : OwnU w base A n l) (b : Boxed w g t v0) (hv : ∀ k x, v0 ≠ .int k x) (v' : Value) : OwnU (w.setCell ⟨g, 0, none⟩ v') base A n l := by
  refine ⟨h.1, fun h0 => ?_⟩
  obtain ⟨gr, rfl, h1, h2, hc⟩ := h.2 h0
  have hne : gr ≠ g := by
    rintro rfl
    have h3 := (hc 0 h0).1
    rw [b.cell] at h3
    injection h3 with h3
    exact hv _ _ h3
  have hbk : (w.setCell ⟨g, 0, none⟩ v').heap[gr]? = w.heap[gr]? := Below.heap_setCell _ _ _ _ hne
  refine ⟨gr, rfl, h1, by simp [World.setCell]; omega, fun j hj => ?_⟩
  rw [World.cell?_of_block (a := ⟨gr, j, none⟩) hbk, World.frozen?_of_block (a := ⟨gr, j, none⟩) hbk]
  exact hc j hj
theorem results_box10 {fn : Func} {p u x : Tmp} {ty : TypeId} (h : fn.results = #[.cell p ty, .tmp u, .tmp x]) (tmps : Array Value) {P : Program} {w : World} {g : Nat} {A : Option Addr} {n c : Nat} (hp : tmps.getD p undef = .pointer (some ⟨g, 0, none⟩)) (hl : (loadVar ty ⟨g, 0, none⟩).run P w = .ok (.slice A n c) w) :
    (results fn tmps).run P w = .ok (.tuple #[.slice A n c, tmps.getD u undef, tmps.getD x undef]) w := by
  have e : (results fn tmps).run P w = ((asAddr (tmps.getD p undef)).run P w).andThen fun a w₁ => ((loadVar ty a).run P w₁).andThen fun v w₂ => .ok (.tuple #[v, tmps.getD u undef, tmps.getD x undef]) w₂ := by
    simp only [results, h]
    simp [Sem.run_bind, Result.andThen]
  rw [e, hp]
  have e2 : (asAddr (.pointer (some ⟨g, 0, none⟩))).run P w = .ok ⟨g, 0, none⟩ w := rfl
  rw [e2]
  show ((loadVar ty ⟨g, 0, none⟩).run P w).andThen _ = _
  rw [hl]
  rfl
theorem load_box10 {w : World} {g : Nat} {A : Option Addr} {n c : Nat} (hb : Boxed w g 24 (.slice A n c)) : (loadVar 24 ⟨g, 0, none⟩).run Tryz.prog w = .ok (.slice A n c) w := by
  have hc := hb.cell
  have hu : Tryz.prog.underlying 24 = some (.slice 27) := Tryz.underlying24
  go_simp
set_option maxHeartbeats 8000000 in
theorem factors10 {w : World} {A : Option Addr} {n c : Nat} {l : List Nat} (P : RowIs w A n c l) (hn : n ≤ 1000) (N : Nat) (hN0 : 0 < N) (hN : N < 18446744073709551616) :
    Calls Tryz.prog 17 #[.int .u64 N, .slice A n c] w fun e w' => ∃ X q d ls rest er, e = .returned (.tuple #[.slice X q d, .int .u64 ((rest : Nat) : Int), .int .i64 ((er : Nat) : Int)]) ∧ Told10 IsW N ls rest er ∧ RowIs w' X q d ls ∧ OwnU w' w.heap.size X q ls ∧ Below w.heap.size w w' := by
  have HPd := Lib.hid P
  have hz : ((N : Int) == 0) = false := by simp; omega
  have HT := Lib.hid (fun u : World => tried10 N hN0 hN u)
  clear P
  go_enter Tryz.func17, Tryz.ntmps17
  go_wp2_with fail
  go_step3
  go_wp2_with fail
  refine (HT.out _).mono ?_
  rintro e w1 ⟨ls0, m0, X0, d0, rfl, hTm, hTr, own1, b1⟩
  simp only [World.size_alloc] at own1 b1
  obtain ⟨gL, hgL⟩ : ∃ g, w.heap.size = g := ⟨_, rfl⟩
  obtain ⟨kb, hFA⟩ := FacAt.start gL hgL own1 b1
  have k1 := kb.cell
  have f1 := kb.frozen
  obtain ⟨gU, hgU⟩ : ∃ g, w1.heap.size = g := ⟨_, rfl⟩
  rw [hgU] at hFA
  have hm0 : m0 < 18446744073709551616 := by have := hTm.le hN0; omega
  have hl0 := hTm.few hN
  have HPut := Lib.hid (fun (wr : World) (vL vU : Value) (ls us : List Nat) (part : Nat) (P : Hid (FacAt w gL gU wr vL vU ls us)) (hp : part < 18446744073709551616) (hl : ls.length ≤ 1000) (hu : us.length ≤ 1000) => put10 w gL gU wr vL vU ls us P.out part hp hl hu)
  have C0 := Lib.hid (HPut.out _ _ _ ls0 [] m0 (Lib.hid hFA) hm0 (by omega) (by simp))
  have HMid := Lib.hid (show FacMid N ls0 [] (m0 * 1) from ⟨by rw [prodN_nil, Nat.mul_one, Nat.mul_one]; exact hTm.all, fun p hp => ⟨isW_prm (hTm.primes p hp), (hTm.primes p hp).1⟩, by simp⟩)
  have HMay := Lib.hid (mayPut_trial hTr hTm.pos)
  clear hTm hTr own1 b1 kb hFA hm0 hl0 HT
  go_wp2_with fail
  refine (C0.out).mono ?_
  rintro e w2 ⟨rfl, vL, vU, ls, us, hFA, hPut⟩
  have HFA := Lib.hid hFA
  have HM := Lib.hid (HMid.out.put HMay.out hPut)
  clear hFA hPut C0 HMid HMay k1 f1 hgU
  go_wp2_with fail
  go_step3
  go_wp2_with fail
  have hbox : True := trivial
  have HG := Lib.hid HFA.out.lo.1
  clear hbox
  go_loopg [5, 6] (waitN us) (fun k rv ev wr => ∃ (vL vU : Value) (ls us : List Nat), rv = .int .u64 1 ∧ ev = .int .i64 0 ∧ waitN us ≤ k ∧ Hid (FacAt w gL gU wr vL vU ls us) ∧ Hid (FacMid N ls us 1))
  case atStart => exact ⟨vL, vU, ls, us, rfl, rfl, Nat.le_refl _, HFA, HM⟩
  case round =>
    clear HFA HM
    obtain ⟨vL, vU, ls, us, rfl, rfl, hwk, HFA, HM⟩ := hrel
    rcases HM.out.one hN0 hN with hus | ⟨u, hus⟩
    · subst hus
      obtain ⟨AU, cU, rfl, _, _⟩ := own_form HFA.out.oU
      have kU := HFA.out.bU.cell
      simp only [List.length_nil] at kU
      obtain ⟨AL, cL, rfl, hcL, _⟩ := own_form HFA.out.oL
      have hlen := HM.out.few hN0 hN
      have CS := Lib.hid (sortRow8 HFA.out.oL (by omega) HFA.out.be.size)
      have kL := HFA.out.bL.cell
      have HL := Lib.hid HFA.out.bL
      have HNE := Lib.hid (own_box_ne10 HFA.out.oL HFA.out.bL)
      have HBe := Lib.hid HFA.out.be
      obtain ⟨q, hq⟩ : ∃ q, ls.length = q := ⟨_, rfl⟩
      have HQ := Lib.hid hq
      rw [hq] at CS kL HL HNE hcL hlen
      clear hq
      go_wp2_with fail
      refine (CS.out).mono ?_
      rintro e w5 ⟨rfl, l2, hperm, hrise, hrd, hbel, hblk, hown⟩
      have hL5 : Boxed w5 gL 24 (.slice AL q cL) := (hblk gL HL.out.lt (fun o h e => HNE.out (by rw [h, e]; rfl))).trans HL.out
      have k5 := hL5.cell
      have f5 := hL5.frozen
      have HL5 := Lib.hid hL5
      have HT10 := Lib.hid (FacMid.tell HM.out hperm hrise (.inl ⟨rfl, rfl⟩))
      have HRd := Lib.hid hrd
      have HB5 := Lib.hid (HBe.out.trans (hbel w.heap.size (Nat.le_refl _)))
      have HLe := Lib.hid (show l2.length = q by rw [← HQ.out]; exact hperm.length_eq)
      have HOw := Lib.hid hown
      clear hperm hrise hrd hbel hblk hL5 kL hown
      go_wp2_with fail
      rw [Exit.noGoto_ret]
      refine bodyPost_ret (results_box10 (p := 4) (u := 5) (x := 6) rfl _ rfl (load_box10 (boxed_set10 HL5.out (.slice AL q cL)))) rfl ?_
      exact ⟨AL, q, cL, l2, 1, 0, rfl, HT10.out, ⟨HLe.out, HT10.out.words10 hN0 hN, by omega, by have := HRd.out.box8 HL5.out (by intro k x h; cases h) (.slice AL q cL); simpa [World.setCell] using this, hcL⟩, HOw.out.set11 HL5.out (by intro k x h; cases h) _, HB5.out.setCell HG.out _⟩
    · subst hus
      obtain ⟨AU, cU, rfl, _, _⟩ := own_form HFA.out.oU
      simp only [List.length_cons, List.length_nil, Nat.zero_add] at HFA
      have kU := HFA.out.bU.cell
      have fU := HFA.out.bU.frozen
      obtain ⟨gR, rfl, hcell, hFP⟩ := FacAt.pop HFA.out
      have HFP := Lib.hid hFP
      have hu := Lib.hid (HM.out.wait u List.mem_cons_self)
      have huN : u < 18446744073709551616 := by have := (show u ≤ N from HM.out.last10 hN0); omega
      have hu2 : 2 ≤ u := hu.out.1
      clear hFP
      go_wp2_with fail
      have HM1 := Lib.hid (HM.out.popped)
      clear hcell
      go_loopw [41] (fun jv wr2 => ∃ j : Nat, jv = .int .i64 j ∧ j ≤ n ∧ Hid (FacAt w gL gU wr2 vL (.slice (some ⟨gR, 0, none⟩) 0 cU) ls [])) (fun jv _ => n - (intOf jv).toNat)
      case atStart => exact ⟨0, rfl, Nat.zero_le _, HFP⟩
      case round =>
        clear HFP
        obtain ⟨j, rfl, hjn, HF2⟩ := hrel
        by_cases hlt : j < n
        · have hP2 := HPd.out.step HF2.out.be
          obtain ⟨hll, hwl, _, hrd, _⟩ := hP2
          obtain ⟨gA, oA, hA, hgA, hcA⟩ := hrd (by omega)
          subst hA
          have hc1 := hcA j (by omega)
          obtain ⟨x, hx⟩ : ∃ x, nth l j = x := ⟨_, rfl⟩
          rw [hx] at hc1
          have hxl : x < 18446744073709551616 := by rw [← hx]; exact nth_word10 hwl j
          obtain ⟨R, hR⟩ : ∃ R, splitD u x 65536 = R := ⟨_, rfl⟩
          by_cases hR0 : R = 0
          · have CSp := Lib.hid (fun v => split10 u x 65536 huN hxl (by omega) R hR false ⟨fun h => (Bool.false_ne_true h).elim, fun h => absurd hR0 h⟩ v)
            clear hR hR0 hcA hrd hll hwl hx
            go_wp2_with fail
            refine (CSp.out _).mono ?_
            rintro e w3 ⟨rfl, b3⟩
            have HF3 := Lib.hid (HF2.out.keep b3)
            clear b3
            go_wp2_with fail
            go_roundw
            case rel => exact ⟨j + 1, by go_num, by omega, HF3⟩
            case measure => simp [intOf]; omega
          · have CSp := Lib.hid (fun v => split10 u x 65536 huN hxl (by omega) R hR true ⟨fun _ => hR0, fun _ => rfl⟩ v)
            obtain ⟨hd1, hd2, hd3⟩ := splitD_dvd (n := u) (c := x) (most := 65536) (by rw [hR]; exact hR0)
            rw [hR] at hd1 hd2 hd3
            obtain ⟨q, hq⟩ : ∃ q, u / R = q := ⟨_, rfl⟩
            have hqI : (u : Int) / (R : Int) = (q : Int) := by rw [← hq]; simp
            have hRz : ((R : Int) == 0) = false := by simp; omega
            have hqm : R * q = u := by rw [← hq]; exact Nat.mul_div_cancel' hd1
            have hqd : q ∣ u := ⟨R, by rw [← hqm, Nat.mul_comm]⟩
            have hql : q < u := by rw [← hq]; exact Nat.div_lt_self (by omega) hd2
            have HY1 := Lib.hid (mayPut_part hu.out.2.2 hd1 (by omega))
            have HY2 := Lib.hid (mayPut_part hu.out.2.2 hqd (by omega))
            have HM2 := Lib.hid (show FacMid N ls [] (R * (q * 1)) by rw [Nat.mul_one, hqm]; exact HM1.out)
            have hlsl := HM1.out.few hN0 hN
            clear hR hR0 hcA hrd hll hwl hx hq hqm hqd hd1
            go_wp2_with fail
            refine (CSp.out _).mono ?_
            rintro e w3 ⟨rfl, b3⟩
            have HF3 := Lib.hid (HF2.out.keep b3)
            clear b3
            go_wp2_with fail
            refine (HPut.out w3 _ _ ls [] R HF3 (by omega) (by omega) (by simp)).mono ?_
            rintro e w4 ⟨rfl, vL4, vU4, ls4, us4, hF4, hP4⟩
            have HF4 := Lib.hid hF4
            have HP4 := Lib.hid hP4
            have HM4 := Lib.hid (HM2.out.put HY1.out hP4)
            have hl4 := HM4.out.few hN0 hN
            have hu4 : us4.length ≤ 1000 := by rcases HM4.out.one hN0 hN with h | ⟨y, h⟩ <;> simp [h]
            clear hF4 hP4
            go_wp2_with fail
            refine (HPut.out w4 _ _ ls4 us4 q HF4 (by omega) (by omega) hu4).mono ?_
            rintro e w5 ⟨rfl, vL5, vU5, ls5, us5, hF5, hP5⟩
            have HF5 := Lib.hid hF5
            have HM5 := Lib.hid (HM4.out.put HY2.out hP5)
            have HWt := Lib.hid (show waitN us5 < u from waitN_lt (HM5.out.one hN0 hN) (fun y hy => by
              rcases hP5.mem y hy with h | h
              · rcases HP4.out.mem y h with h2 | h2
                · cases h2
                · omega
              · omega) (by omega))
            have HWk := Lib.hid (show u ≤ gk from by simpa [waitN] using hwk)
            clear hF5 hP5 hu4
            go_wp2_with fail
            go_roundg (waitN us5)
            case rel => exact ⟨vL5, vU5, ls5, us5, rfl, rfl, Nat.le_refl _, HF5, HM5⟩
            case measure => have h1 := HWt.out; have h2 := HWk.out; omega
        · obtain rfl : j = n := by omega
          have HF6 := HF2
          clear HF2
          obtain ⟨AL, cL, rfl, hcL, _⟩ := own_form HF6.out.oL
          have hlen := HM1.out.few hN0 hN
          have CS := Lib.hid (sortRow8 HF6.out.oL (by omega) HF6.out.be.size)
          have kL := HF6.out.bL.cell
          have HL := Lib.hid HF6.out.bL
          have HNE := Lib.hid (own_box_ne10 HF6.out.oL HF6.out.bL)
          have HBe := Lib.hid HF6.out.be
          obtain ⟨q, hq⟩ : ∃ q, ls.length = q := ⟨_, rfl⟩
          have HQ := Lib.hid hq
          rw [hq] at CS kL HL HNE hcL hlen
          clear hq
          go_wp2_with fail
          refine (CS.out).mono ?_
          rintro e w5 ⟨rfl, l2, hperm, hrise, hrd, hbel, hblk, hown⟩
          have hL5 : Boxed w5 gL 24 (.slice AL q cL) := (hblk gL HL.out.lt (fun o h e => HNE.out (by rw [h, e]; rfl))).trans HL.out
          have k5 := hL5.cell
          have f5 := hL5.frozen
          have HL5 := Lib.hid hL5
          have HT10 := Lib.hid (FacMid.tell HM1.out hperm hrise (.inr ⟨rfl, by omega, hu.out.2.1, hu.out.2.2⟩))
          have HRd := Lib.hid hrd
          have HB5 := Lib.hid (HBe.out.trans (hbel w.heap.size (Nat.le_refl _)))
          have HLe := Lib.hid (show l2.length = q by rw [← HQ.out]; exact hperm.length_eq)
          have HOw := Lib.hid hown
          clear hperm hrise hrd hbel hblk hL5 kL hown
          go_wp2_with fail
          rw [Exit.noGoto_ret]
          refine bodyPost_ret (results_box10 (p := 4) (u := 5) (x := 6) rfl _ rfl (load_box10 (boxed_set10 HL5.out (.slice AL q cL)))) rfl ?_
          exact ⟨AL, q, cL, l2, u, 11, rfl, HT10.out, ⟨HLe.out, HT10.out.words10 hN0 hN, by omega, by have := HRd.out.box8 HL5.out (by intro k x h; cases h) (.slice AL q cL); simpa [World.setCell] using this, hcL⟩, HOw.out.set11 HL5.out (by intro k x h; cases h) _, HB5.out.setCell HG.out _⟩
end Go.Proofs.YtjpfcdgaepdcdaaGreat
/- The document's rows and trying of chapter 10. Conditions: numbers below 2^62 (rows), below 2^32 (trying). -/
namespace Go.Proofs.YtjpfcdgaepdcdaaGreat
open Go.RowKit
set_option maxRecDepth 20000
end Go.Proofs.YtjpfcdgaepdcdaaGreat
/- rho's contracts, as laws use them. Conditions: as typed (words; up to a thousand draws). -/
namespace Go.Proofs.YtjpfcdgaepdcdaaGreat
open Go.RowKit
/-- What the row lists, as the contracts ask it: nothing, as long as no table is read. -/
def LaidR (_ : World) : Prop := True
theorem LaidR.below {w w' : World} (_ : LaidR w) (_ : Below w.heap.size w w') : LaidR w' := trivial
end Go.Proofs.YtjpfcdgaepdcdaaGreat
/- pratt's Build$1 (show), walked: it calls itself. Conditions: as typed; what prime.Is takes, up to M, are primes. -/
namespace Go.Proofs.YtjpfcdgaepdcdaaGreat
open Go.RowKit
open Go.Maps (Keyed int_keyed)
set_option maxRecDepth 20000
/-- Blocks of the call's own that are not written any more. -/
def In4 (lo : Nat) (u : World) (gL B : Nat) (vL : Value) (b : Nat) : Prop := lo ≤ b ∧ b < u.heap.size ∧ b ≠ gL ∧ b ≠ B ∧ vL.ownBlock ≠ some b
def ShownU (w : World) (b n : Nat) (la : List Nat) : Prop := SetAt Tryz.prog w 27 4 b n fun kl => ∃ m ∈ la, kl = .int .u64 (m : Int)
theorem shownU_key {la : List Nat} {m : Nat} : (∃ x ∈ la, (Lit.int .u64 (m : Int)) = .int .u64 (x : Int)) ↔ m ∈ la :=
  ⟨fun ⟨x, hx, e⟩ => by
    injection e with _ e
    have : m = x := by omega
    rw [this]; exact hx, fun h => ⟨m, h, rfl⟩⟩
theorem keyU11 {m : Nat} (h : m < 18446744073709551616) : keyOf Tryz.prog 27 (.int .u64 (m : Int)) = some (.int .u64 (m : Int)) := Go.Maps.keyOf_int_mk Tryz.underlying27 (by
  simp [Lit.wf, IntKind.min, IntKind.max, IntKind.signed, IntKind.bits]; omega)
theorem ShownU.look {w : World} {b n : Nat} {la : List Nat} (h : ShownU w b n la) {m : Nat} (hm : m < 18446744073709551616) (x : Bool) (hx : x = true ↔ m ∈ la) :
    (Instr.lookup 42 (.map (some b)) (.int .u64 (m : Int)) false).run Tryz.prog w = .ok (.bool x) w :=
  SetAt.look h (int_keyed Tryz.underlying27) Tryz.underlying42 Tryz.underlying4 (by kernel_rfl) (keyU11 hm) x (hx.trans shownU_key.symm)
theorem ShownU.put {w : World} {b n : Nat} {la : List Nat} (h : ShownU w b n la) (hn : n < maxLen) {m : Nat} (hm : m < 18446744073709551616) :
    ∃ w', (Instr.mapUpdate 42 (.map (some b)) (.int .u64 (m : Int)) (.bool true)).run Tryz.prog w = .ok () w' ∧ ShownU w' b (n + 1) (la ++ [m]) ∧ w.grownBy w' (some b) := by
  obtain ⟨w', h1, h2, h3⟩ := SetAt.put h (int_keyed Tryz.underlying27) Tryz.underlying42 Tryz.underlying4 hn (keyU11 hm)
  refine ⟨w', h1, h2.same fun kl => ?_, h3⟩
  constructor
  · rintro (rfl | ⟨x, hx, rfl⟩)
    · exact ⟨m, by simp, rfl⟩
    · exact ⟨x, List.mem_append_left _ hx, rfl⟩
  · rintro ⟨x, hx, rfl⟩
    rcases List.mem_append.1 hx with h4 | h4
    · exact .inr ⟨x, h4, rfl⟩
    · exact .inl (by rw [List.mem_singleton.1 h4])
theorem SetAt.ne_box {P : Program} {w : World} {k e : TypeId} {b n g : Nat} {S : Lit → Prop} {t : TypeId} {v : Value} (h : SetAt P w k e b n S) (hb : Boxed w g t v) : g ≠ b := by
  obtain ⟨D, ⟨es, clock, h1, _⟩, _⟩ := h
  rintro rfl
  have h2 : w.heap[g]? = some (.cells #[v] t (0, 0)) := hb
  rw [h1] at h2
  cases h2
theorem SetAt.ne_own {P : Program} {w : World} {k e : TypeId} {b n base size m : Nat} {S : Lit → Prop} {t : TypeId} {v : Value} {xs : List Value} (h : SetAt P w k e b n S) (o : w.ownsRow base t size v m xs) : v.ownBlock ≠ some b := by
  obtain ⟨D, ⟨es, clock, h1, _⟩, _⟩ := h
  rcases o.2 with ⟨rfl, _⟩ | ⟨g, cap, cur, rfl, _, hh, _⟩
  · simp [Value.ownBlock]
  · intro e
    simp only [Value.ownBlock, Option.some.injEq] at e
    subst e
    rw [h1] at hh
    cases hh
theorem Boxed.ne11 {w : World} {g g' : Nat} {t t' : TypeId} {v v' : Value} (h : Boxed w g t v) (k : Boxed w g' t' v') (ht : t ≠ t') : g ≠ g' := by
  rintro rfl
  have h1 : w.heap[g]? = some (.cells #[v] t (0, 0)) := h
  have h2 : w.heap[g]? = some (.cells #[v'] t' (0, 0)) := k
  rw [h1] at h2
  injection h2 with h2
  injection h2 with _ h2
  exact ht h2
/-- The closure's value, with what it holds. -/
def showFn (gM gD gS gL : Nat) : Value := .func (.func 16) #[] #[.pointer (some ⟨gM, 0, none⟩), .pointer (some ⟨gD, 0, none⟩), .pointer (some ⟨gS, 0, none⟩), .pointer (some ⟨gL, 0, none⟩)]
/-- The world while a certificate is built. -/
structure BAt (w0 u : World) (gM gD gS gL B : Nat) (AD : Option Addr) (nD cD : Nat) (ld : List Nat) (nm : Nat) (la : List Nat) (vL : Value) (ss : List SRaw) : Prop where
  bM : Boxed u gM 42 (.map (some B))
  bD : Boxed u gD 24 (.slice AD nD cD)
  bS : Boxed u gS 43 (showFn gM gD gS gL)
  bL : Boxed u gL 23 vL
  sh : ShownU u B nm la
  own : ∃ xs, u.ownsRow w0.heap.size 37 3 vL ss.length xs ∧ ∀ j (hj : j < ss.length), ∃ vP vG vQ, xs[j * 3]? = some vP ∧ xs[j * 3 + 1]? = some vG ∧ xs[j * 3 + 2]? = some vQ ∧
    NatS u (In4 w0.heap.size u gL B vL) vP ss[j].P ∧ NatS u (In4 w0.heap.size u gL B vL) vG ss[j].G ∧ QS u (In4 w0.heap.size u gL B vL) vQ ss[j].Q
  draws : Rd .u64 u w0.heap.size AD ld
  lo : w0.heap.size ≤ gL ∧ w0.heap.size ≤ B
  be : Below w0.heap.size w0 u
/-- What may have changed: the list, its row, the map. -/
structure Mv (gL B : Nat) (u : World) (vL : Value) (u' : World) (vL' : Value) : Prop where
  size : u.heap.size ≤ u'.heap.size
  same : ∀ b, b < u.heap.size → b ≠ gL → b ≠ B → vL.ownBlock ≠ some b → u'.heap[b]? = u.heap[b]?
  own : vL'.ownBlock = vL.ownBlock ∨ ∃ g, vL'.ownBlock = some g ∧ u.heap.size ≤ g
theorem Mv.of_below {gL B : Nat} {u u' : World} (vL : Value) (b : Below u.heap.size u u') : Mv gL B u vL u' vL := ⟨b.size, fun k hk _ _ _ => b.block k hk, .inl rfl⟩
theorem Mv.trans {gL B : Nat} {u u' u'' : World} {vL vL' vL'' : Value} (h : Mv gL B u vL u' vL') (k : Mv gL B u' vL' u'' vL'') : Mv gL B u vL u'' vL'' := by
  refine ⟨Nat.le_trans h.size k.size, fun b h1 h2 h3 h4 => (k.same b (Nat.lt_of_lt_of_le h1 h.size) h2 h3 ?_).trans (h.same b h1 h2 h3 h4), ?_⟩
  · rcases h.own with e | ⟨g, e, hg⟩
    · rw [e]; exact h4
    · rw [e]; intro e2; injection e2 with e2; omega
  · have := h.size
    rcases k.own with e | ⟨g, e, hg⟩
    · rw [e]; exact h.own
    · exact .inr ⟨g, e, by omega⟩
/-- A row of the call's own that is not written any more: the primes of one less. -/
def FAt (u : World) (gL B : Nat) (vL : Value) (A : Option Addr) (m : Nat) (qs : List Nat) : Prop :=
  0 < m → ∃ g, A = some ⟨g, 0, none⟩ ∧ g < u.heap.size ∧ g ≠ gL ∧ g ≠ B ∧ vL.ownBlock ≠ some g ∧ ∀ j, j < m → u.cell? ⟨g, j, none⟩ = some (.int .u64 (nth qs j : Int))
theorem FAt.mv {gL B m : Nat} {u u' : World} {vL vL' : Value} {A : Option Addr} {qs : List Nat} (h : FAt u gL B vL A m qs) (k : Mv gL B u vL u' vL') : FAt u' gL B vL' A m qs := fun h0 => by
  obtain ⟨g, e, h1, h2, h3, h4, h5⟩ := h h0
  refine ⟨g, e, Nat.lt_of_lt_of_le h1 k.size, h2, h3, ?_, fun j hj => (World.cell?_of_block (a := ⟨g, j, none⟩) (k.same g h1 h2 h3 h4)).trans (h5 j hj)⟩
  rcases k.own with e2 | ⟨g2, e2, hg⟩
  · rw [e2]; exact h4
  · rw [e2]; intro e3; injection e3 with e3; omega
section
variable {w0 u u' : World} {gM gD gS gL B : Nat} {AD : Option Addr} {nD cD : Nat} {ld : List Nat} {nm : Nat} {la : List Nat} {vL : Value} {ss : List SRaw}
theorem BAt.step (h : BAt w0 u gM gD gS gL B AD nD cD ld nm la vL ss) (b : Below u.heap.size u u') : BAt w0 u' gM gD gS gL B AD nD cD ld nm la vL ss := by
  have hk : ∀ k, In4 w0.heap.size u gL B vL k → u'.heap[k]? = u.heap[k]? := fun k hk => b.block k hk.2.1
  have hS : ∀ k, In4 w0.heap.size u gL B vL k → In4 w0.heap.size u' gL B vL k := fun k hk => ⟨hk.1, Nat.lt_of_lt_of_le hk.2.1 b.size, hk.2.2⟩
  obtain ⟨xs, h1, h2⟩ := h.own
  refine ⟨(b.block _ h.bM.lt).trans h.bM, (b.block _ h.bD.lt).trans h.bD, (b.block _ h.bS.lt).trans h.bS, (b.block _ h.bL.lt).trans h.bL, SetAt.below h.sh b,
    ⟨xs, h1.kept (row := none) ⟨b.os, b.tape, b.output, b.size, fun k hk _ => b.block k hk⟩ (by cases vL.ownBlock <;> simp), fun j hj => ?_⟩, h.draws.below (b.mono h.be.size), h.lo, below_step h.be b⟩
  obtain ⟨vP, vG, vQ, h3, h4, h5, h6, h7, h8⟩ := h2 j hj
  exact ⟨vP, vG, vQ, h3, h4, h5, h6.keep hk hS, h7.keep hk hS, h8.keep hk hS⟩
theorem BAt.fresh (h : BAt w0 u gM gD gS gL B AD nD cD ld nm la vL ss) (k : Nat) (hk : u.heap.size ≤ k ∧ k < u'.heap.size) : In4 w0.heap.size u' gL B vL k := by
  obtain ⟨xs, h1, _⟩ := h.own
  have h2 := h.bL.lt
  have h3 := SetAt.lt h.sh
  have h4 := h.be.size
  refine ⟨by omega, hk.2, by omega, by omega, fun e => ?_⟩
  have := (h1.lt k e).2
  omega
theorem step_info11 : (Tryz.prog.info? 37).map (fun i => (i.zero, i.size, i.bytes)) = some (some (.agg #[.slice none 0 0, .slice none 0 0, .slice none 0 0]), 3, 72) := by kernel_rfl
/-- Behind a step more. -/
theorem BAt.append (h : BAt w0 u gM gD gS gL B AD nD cD ld nm la vL ss) (hn : ss.length ≤ 1000) {AP AG AQ : Option Addr} {nP cP nG cG nQ cQ : Nat} {s : SRaw} (hP : NatS u (In4 w0.heap.size u gL B vL) (.slice AP nP cP) s.P) (hG : NatS u (In4 w0.heap.size u gL B vL) (.slice AG nG cG) s.G) (hQ : QS u (In4 w0.heap.size u gL B vL) (.slice AQ nQ cQ) s.Q) :
    ∃ v' u3, (Builtin.append_ #[23, 23] 23 #[vL, .slice (some ⟨u.heap.size, 0, none⟩) 1 1]).run Tryz.prog (u.alloc (.cells #[.slice AP nP cP, .slice AG nG cG, .slice AQ nQ cQ] 37)) = .ok v' u3 ∧ Boxed u3 gL 23 vL ∧
      BAt w0 (u3.setCell ⟨gL, 0, none⟩ v') gM gD gS gL B AD nD cD ld nm la v' (ss ++ [s]) ∧ Mv gL B u vL (u3.setCell ⟨gL, 0, none⟩ v') v' := by
  obtain ⟨i0, hi, hz0, hz1, hz2⟩ := info_parts step_info11
  obtain ⟨xs, own, hel⟩ := h.own
  have hsz := h.be.size
  obtain ⟨v', u3, hrun, own', hg, _, hb'⟩ := run_append_own_at (P := Tryz.prog) (u.alloc (.cells #[.slice AP nP cP, .slice AG nG cG, .slice AQ nQ cQ] 37)) w0.heap.size 23 23 37 i0 _ 3 72 Tryz.underlying23 hi hz0 hz1 hz2 rfl (by omega) vL ss.length xs (own.alloc _)
    ⟨u.heap.size, 0, none⟩ 1 1 [.slice AP nP cP, .slice AG nG cG, .slice AQ nQ cQ] rfl (fun j y hy => by
      have := (MapKept.heap_alloc u (.cells #[.slice AP nP cP, .slice AG nG cG, .slice AQ nQ cQ] 37)).1
      rcases j with _ | _ | _ | j
      · simp at hy; subst hy
        unfold World.cell?
        rw [show ((⟨u.heap.size, 0, none⟩ : Addr).add 0) = ⟨u.heap.size, 0, none⟩ from rfl, this]
        rfl
      · simp at hy; subst hy
        unfold World.cell?
        rw [show ((⟨u.heap.size, 0, none⟩ : Addr).add (0 + 1)) = ⟨u.heap.size, 1, none⟩ from rfl, this]
        rfl
      · simp at hy; subst hy
        unfold World.cell?
        rw [show ((⟨u.heap.size, 0, none⟩ : Addr).add (0 + 1 + 1)) = ⟨u.heap.size, 2, none⟩ from rfl, this]
        rfl
      · simp at hy) (fun y hy => by
      simp only [List.mem_cons, List.not_mem_nil, or_false] at hy
      rcases hy with rfl | rfl | rfl <;> rfl) (by unfold maxLen; omega) (by omega) (by simp; omega)
  have hblk : ∀ k, k < u.heap.size → vL.ownBlock ≠ some k → u3.heap[k]? = u.heap[k]? := fun k hk hne => (hg.block k (by simp; omega) (fun e => hne e.symm)).trans (Below.heap_alloc _ _ _ hk)
  have nb : ∀ {g : Nat} {t : TypeId} {v : Value}, Boxed u g t v → t ≠ 37 → vL.ownBlock ≠ some g := fun hb ht e => Boxed.not_row hb ht own e.symm
  have nL := nb h.bL (by decide)
  have bL3 : Boxed u3 gL 23 vL := (hblk _ h.bL.lt nL).trans h.bL
  have own3 : u3.ownsRow w0.heap.size 37 3 v' (ss.length + 1) (xs ++ [.slice AP nP cP, .slice AG nG cG, .slice AQ nQ cQ]) := own'
  have hne3 : v'.ownBlock ≠ some gL := fun e => Boxed.not_row bL3 (by decide) own3 e.symm
  have h3s : u.heap.size < u3.heap.size := by have := hg.size; simp at this; omega
  have hset : ∀ k, k ≠ gL → (u3.setCell ⟨gL, 0, none⟩ v').heap[k]? = u3.heap[k]? := fun k hk => Below.heap_setCell _ _ _ _ hk
  have hold : ∀ k, k < u.heap.size → k ≠ gL → vL.ownBlock ≠ some k → (u3.setCell ⟨gL, 0, none⟩ v').heap[k]? = u.heap[k]? := fun k h1 h2 h3 => (hset k h2).trans (hblk k h1 h3)
  have hbox : ∀ {g : Nat} {t : TypeId} {v : Value}, Boxed u g t v → t ≠ 37 → t ≠ 23 → Boxed (u3.setCell ⟨gL, 0, none⟩ v') g t v := fun hb h1 h2 =>
    (hold _ hb.lt (Boxed.ne11 hb h.bL h2) (nb hb h1)).trans hb
  have hk : ∀ k, In4 w0.heap.size u gL B vL k → (u3.setCell ⟨gL, 0, none⟩ v').heap[k]? = u.heap[k]? := fun k hk => hold k hk.2.1 hk.2.2.1 hk.2.2.2.2
  have hS : ∀ k, In4 w0.heap.size u gL B vL k → In4 w0.heap.size (u3.setCell ⟨gL, 0, none⟩ v') gL B v' k := fun k hk => by
    refine ⟨hk.1, by have := hk.2.1; simp [World.setCell]; omega, hk.2.2.1, hk.2.2.2.1, ?_⟩
    rcases hb' with e | e
    · rw [e]; exact hk.2.2.2.2
    · rw [e]; intro e2; injection e2 with e2; have := hk.2.1; simp at e2; omega
  have hgs : u3.grownBy (u3.setCell ⟨gL, 0, none⟩ v') (some gL) := ⟨rfl, rfl, rfl, by simp [World.setCell], fun k _ hk => hset k (fun e => hk (by rw [e]))⟩
  have nBL : gL ≠ B := SetAt.ne_box h.sh h.bL
  refine ⟨v', u3, hrun, bL3, ⟨hbox h.bM (by decide) (by decide), hbox h.bD (by decide) (by decide), hbox h.bS (by decide) (by decide), boxed_set10 bL3 v', ?_, ⟨xs ++ [.slice AP nP cP, .slice AG nG cG, .slice AQ nQ cQ], ?_, fun j hj => ?_⟩, ?_, h.lo, ?_⟩, ⟨by simp [World.setCell]; omega, fun b h1 h2 _ h4 => hold b h1 h2 h4, ?_⟩⟩
  · exact SetAt.kept (SetAt.kept (SetAt.kept h.sh (World.grownBy_alloc u _ none) (by simp)) hg (fun e => SetAt.ne_own h.sh own e.symm)) hgs (fun e => nBL (by injection e with e; exact e.symm))
  · have := own3.kept hgs (.inr hne3)
    simpa using this
  · have hxl : xs.length = ss.length * 3 := own.1
    rcases Nat.lt_or_ge j ss.length with h5 | h5
    · obtain ⟨vP, vG, vQ, h6, h7, h8, h9, ha, hb⟩ := hel j h5
      refine ⟨vP, vG, vQ, by rw [List.getElem?_append_left (by omega)]; exact h6, by rw [List.getElem?_append_left (by omega)]; exact h7, by rw [List.getElem?_append_left (by omega)]; exact h8, ?_⟩
      rw [List.getElem_append_left h5]
      exact ⟨h9.keep hk hS, ha.keep hk hS, hb.keep hk hS⟩
    · have : j = ss.length := by simp at hj; omega
      subst this
      refine ⟨.slice AP nP cP, .slice AG nG cG, .slice AQ nQ cQ, by rw [List.getElem?_append_right (by omega), hxl]; simp, by rw [List.getElem?_append_right (by omega), hxl, show ss.length * 3 + 1 - ss.length * 3 = 1 by omega]; rfl, by rw [List.getElem?_append_right (by omega), hxl, show ss.length * 3 + 2 - ss.length * 3 = 2 by omega]; rfl, ?_⟩
      rw [List.getElem_append_right (Nat.le_refl _)]
      simp only [Nat.sub_self, List.getElem_cons_zero]
      exact ⟨hP.keep hk hS, hG.keep hk hS, hQ.keep hk hS⟩
  · have b0 : Below w0.heap.size u (u3.setCell ⟨gL, 0, none⟩ v') := Below.setCell (Below.grown ((Below.refl _ u).alloc hsz _) hg (by simp; omega) fun k e => (own.lt k e).1) h.lo.1 _
    exact h.draws.below b0
  · exact Below.setCell (Below.grown (h.be.alloc hsz _) hg (by simp; omega) fun k e => (own.lt k e).1) h.lo.1 _
  · rcases hb' with e | e
    · exact .inl e
    · exact .inr ⟨_, e, by simp⟩
/-- Behind a number more in the map. -/
theorem BAt.put (h : BAt w0 u gM gD gS gL B AD nD cD ld nm la vL ss) {m : Nat} (sh : ShownU u' B (nm + 1) (la ++ [m])) (hg : u.grownBy u' (some B)) : BAt w0 u' gM gD gS gL B AD nD cD ld (nm + 1) (la ++ [m]) vL ss ∧ Mv gL B u vL u' vL := by
  have hblk : ∀ k, k < u.heap.size → k ≠ B → u'.heap[k]? = u.heap[k]? := fun k hk hne => hg.block k hk (fun e => hne (by injection e))
  obtain ⟨xs, own, hel⟩ := h.own
  have hk : ∀ k, In4 w0.heap.size u gL B vL k → u'.heap[k]? = u.heap[k]? := fun k hk => hblk k hk.2.1 hk.2.2.2.1
  have hS : ∀ k, In4 w0.heap.size u gL B vL k → In4 w0.heap.size u' gL B vL k := fun k hk => ⟨hk.1, Nat.lt_of_lt_of_le hk.2.1 hg.size, hk.2.2⟩
  have b0 : Below w0.heap.size u u' := (Below.refl w0.heap.size u).grown hg h.be.size fun k e => by injection e with e; rw [← e]; exact h.lo.2
  have hbox : ∀ {g : Nat} {t : TypeId} {v : Value}, Boxed u g t v → Boxed u' g t v := fun hb => (hblk _ hb.lt (SetAt.ne_box h.sh hb)).trans hb
  refine ⟨⟨hbox h.bM, hbox h.bD, hbox h.bS, hbox h.bL, sh, ⟨xs, own.kept hg (.inr (SetAt.ne_own h.sh own)), fun j hj => ?_⟩, h.draws.below b0, h.lo, h.be.trans b0⟩, ⟨hg.size, fun b h1 _ h3 _ => hblk b h1 h3, .inl rfl⟩⟩
  obtain ⟨vP, vG, vQ, h3, h4, h5, h6, h7, h8⟩ := hel j hj
  exact ⟨vP, vG, vQ, h3, h4, h5, h6.keep hk hS, h7.keep hk hS, h8.keep hk hS⟩
theorem BAt.row (h : BAt w0 u gM gD gS gL B AD nD cD ld nm la vL ss) (hl : ld.length = nD) (hw : Words ld) (hn : nD ≤ 1000) (hc : nD ≤ cD) : RowIs u AD nD cD ld := ⟨hl, hw, by omega, h.draws.more h.be.size, hc⟩
end
/-- The numbers that steps show. -/
def Ps (ss : List SRaw) : List Nat := ss.map fun s => natOf s.P
theorem Ps_append (ss tt : List SRaw) : Ps (ss ++ tt) = Ps ss ++ Ps tt := List.map_append
theorem mem_Ps {ss : List SRaw} {q : Nat} : q ∈ Ps ss ↔ ∃ s ∈ ss, natOf s.P = q := List.mem_map
/-- What show tells of p. -/
structure Told12 (p : Nat) (ss new : List SRaw) (er : Nat) : Prop where
  ends : er = 0 ∨ (er = 11 ∧ 4294967296 ≤ p)
  shown : er = 0 → ShownBy (ss ++ new) p
  few : new.length = 0 ∨ (0 < new.length ∧ 2 ^ (new.length + 15) ≤ p)
  last : er = 0 → 65536 ≤ p → p ∉ Ps ss → ∃ r s, new = r ++ [s] ∧ natOf s.P = p
def ShowOut (w0 u : World) (gM gD gS gL B : Nat) (AD : Option Addr) (nD cD : Nat) (ld : List Nat) (vL : Value) (ss : List SRaw) (p : Nat) (e : Ending) (u' : World) : Prop :=
  ∃ (er : Nat) (vL' : Value) (new : List SRaw), e = .returned (.int .i64 ((er : Nat) : Int)) ∧ BAt w0 u' gM gD gS gL B AD nD cD ld (ss ++ new).length (Ps (ss ++ new)) vL' (ss ++ new) ∧ Mv gL B u vL u' vL' ∧ Good (ss ++ new) ∧ Told12 p ss new er
theorem ShowOut.none {w0 u : World} {gM gD gS gL B : Nat} {AD : Option Addr} {nD cD : Nat} {ld : List Nat} {vL : Value} {ss : List SRaw} {p : Nat} (h : BAt w0 u gM gD gS gL B AD nD cD ld ss.length (Ps ss) vL ss) (hg : Good ss) (hs : ShownBy ss p) (hl : 65536 ≤ p → p ∈ Ps ss) : ShowOut w0 u gM gD gS gL B AD nD cD ld vL ss p (.returned (.int .i64 0)) u :=
  ⟨0, vL, [], rfl, by rw [List.append_nil]; exact h, ⟨Nat.le_refl _, fun _ _ _ _ _ => rfl, .inl rfl⟩, by rw [List.append_nil]; exact hg, ⟨.inl rfl, fun _ => by rw [List.append_nil]; exact hs, .inl rfl, fun _ h1 h2 => absurd (hl h1) h2⟩⟩
theorem told_word11 {p : Nat} {ls : List Nat} {rest er : Nat} (h : Told10 IsW (p - 1) ls rest er) (hp : 3 ≤ p) (he : er ≠ 0) : er = 11 ∧ 4294967296 ≤ p := by
  refine ⟨?_, ?_⟩
  · rcases h.ends with ⟨h1, _⟩ | ⟨h1, _⟩
    · exact absurd h1 he
    · exact h1
  · rcases Nat.lt_or_ge (p - 1) 4294967296 with h1 | h1
    · exact absurd (h.small isW_small (by omega) h1).1 he
    · omega
/-- All of the first so many are shown. -/
def ShownTo (ss : List SRaw) (qs : List Nat) (j : Nat) : Prop := ∀ i (hi : i < qs.length), i < j → ShownBy ss qs[i]
theorem ShownTo.next {ss new : List SRaw} {qs : List Nat} {j q : Nat} (h : ShownTo ss qs j) (hj : j < qs.length) (hq : qs[j] = q) (hs : ShownBy (ss ++ new) q) : ShownTo (ss ++ new) qs (j + 1) := fun i hi hlt => by
  rcases Nat.lt_succ_iff_lt_or_eq.1 hlt with h1 | rfl
  · exact (h i hi h1).more
  · rw [hq]; exact hs
theorem ShownTo.all {ss : List SRaw} {qs : List Nat} (h : ShownTo ss qs qs.length) : ∀ q ∈ qs, ShownBy ss q := fun q hq => by
  obtain ⟨i, hi, rfl⟩ := List.mem_iff_getElem.1 hq
  exact h i hi hi
def InFlagP (z : Bool) (p : Nat) (la : List Nat) : Prop := z = true ↔ p ∈ la
set_option maxHeartbeats 16000000 in
theorem show11 {w0 : World} {gM gD gS gL B : Nat} {AD : Option Addr} {nD cD : Nat} {ld : List Nat} {M : Nat} (hld : ld.length = nD) (hwd : Words ld) (hnD : nD ≤ 1000) (hcD : nD ≤ cD) (hW : ∀ x, x ≤ M → IsW x → Prm x) (hM : M ≤ 1099511627776) :
    ∀ (N p : Nat), p ≤ N → Prm p → p ≤ M → ∀ (u : World) (vL : Value) (ss : List SRaw), BAt w0 u gM gD gS gL B AD nD cD ld ss.length (Ps ss) vL ss → Good ss → 2 ^ ss.length * p ≤ 2 ^ 200 →
      Calls Tryz.prog 16 #[.int .u64 p, .pointer (some ⟨gM, 0, none⟩), .pointer (some ⟨gD, 0, none⟩), .pointer (some ⟨gS, 0, none⟩), .pointer (some ⟨gL, 0, none⟩)] u (ShowOut w0 u gM gD gS gL B AD nD cD ld vL ss p) := by
  intro N
  induction N with
  | zero => intro p hp hpr; have := hpr.1; omega
  | succ N ih =>
    intro p hpN hpr hpM u vL ss hD hg hct
    have HD := Lib.hid hD
    have HG := Lib.hid hg
    have HPR := Lib.hid hpr
    by_cases h16 : p ≤ 65535
    · have g1 : decide ((p : Int) ≤ 65535) = true := by simp; omega
      have HS := Lib.hid (show ShownBy ss p from .inl ⟨by omega, hpr⟩)
      clear hD hg hct ih hpr
      go_enter Tryz.func16, Tryz.ntmps16
      go_wp2_with fail
      go_ret
      exact ShowOut.none HD.out HG.out HS.out (fun h => by omega)
    have g1 : decide ((p : Int) ≤ 65535) = false := by simp; omega
    have hp64 : p < 18446744073709551616 := by omega
    have kM := hD.bM.cell
    obtain ⟨bS, hbS⟩ := some_flag11 (p ∈ Ps ss)
    have hlook := hD.sh.look hp64 bS hbS
    have HBS := Lib.hid (show InFlagP bS p (Ps ss) from hbS)
    cases bS with
    | true =>
      have HS := Lib.hid (show ShownBy ss p from .inr (mem_Ps.1 (HBS.out.1 rfl)))
      clear hD hg hct ih hpr hbS
      go_enter Tryz.func16, Tryz.ntmps16
      go_wp2_with fail
      go_ret
      exact ShowOut.none HD.out HG.out HS.out (fun _ => HBS.out.1 rfl)
    | false =>
      have h3 : 3 ≤ p := by omega
      obtain ⟨pm, hpm⟩ : ∃ k, p - 1 = k := ⟨_, rfl⟩
      have hpmI : (p : Int) - 1 = (pm : Int) := by omega
      have kD := hD.bD.cell
      have CF := factors10 (hD.row hld hwd hnD hcD) hnD pm (by omega) (by omega)
      have CF := Lib.hid CF
      have HIH := Lib.hid ih
      have HCT := Lib.hid hct
      have HPM := Lib.hid hpm
      have HW := Lib.hid hW
      have HNOT := Lib.hid (show p ∉ Ps ss from fun h => by have h2 := HBS.out.2 h; cases h2)
      clear hD hg hct ih hpr hbS hpm hW HBS
      go_enter Tryz.func16, Tryz.ntmps16
      go_wp2_with fail
      refine (CF.out).mono ?_
      rintro e u1 ⟨X, q, d, ls, rest, er, rfl, hT, hRow, hOwn, b1⟩
      clear hlook kM kD CF
      rw [← HPM.out] at hT
      have HD1 := Lib.hid (HD.out.step b1)
      have HMv1 := Lib.hid (Mv.of_below (gL := gL) (B := B) vL b1)
      by_cases her : er = 0
      · subst her
        have hqd := hRow.2.2.2.2
        have hq40 : q < 40 := by rw [← hRow.1]; exact hT.few (by omega) (show p - 1 < 2 ^ 40 by omega)
        have CC := Lib.hid (compact11 hOwn (by omega) hqd hT.rise)
        have HT := Lib.hid hT
        have HB1 := Lib.hid b1
        clear hT hRow hOwn b1
        go_wp2_with fail
        refine (CC.out).mono ?_
        rintro e u2 ⟨m, qs, rfl, hqm, hmq, hqr, hmem, hcell, hsz2, hbel⟩
        have b2 : Below u.heap.size u1 u2 := hbel u.heap.size (Nat.le_refl _) HB1.out.size
        have b12 : Below u.heap.size u u2 := HB1.out.trans b2
        have HPa := Lib.hid (Parts.of_told (fun x hx => HW.out x (by omega)) (by omega) HT.out hqr hmem)
        have HD2 := Lib.hid (HD.out.step b12)
        have HMv2 := Lib.hid (Mv.of_below (gL := gL) (B := B) vL b12)
        have HF2 := Lib.hid (show FAt u2 gL B vL X m qs from fun h0 => by
          obtain ⟨g, e, h1, h2, h3⟩ := hcell h0
          have hf := HD.out.fresh (u' := u2) g ⟨h1, h2⟩
          exact ⟨g, e, h2, hf.2.2.1, hf.2.2.2.1, hf.2.2.2.2, h3⟩)
        have HQM := Lib.hid hqm
        have hm40 : m ≤ 40 := by omega
        clear hcell hqr hmem b2 b12 hbel hqm HT CC hsz2 HD1 HMv1 HB1
        go_wp2_with fail
        go_loopw [9, 34] (fun ev jv wr => ∃ (j : Nat) (vL' : Value) (new : List SRaw), ev = .int .i64 0 ∧ jv = .int .i64 j ∧ j ≤ m ∧ Hid (BAt w0 wr gM gD gS gL B AD nD cD ld (ss ++ new).length (Ps (ss ++ new)) vL' (ss ++ new)) ∧ Hid (Mv gL B u vL wr vL') ∧ Hid (FAt wr gL B vL' X m qs) ∧ Hid (Good (ss ++ new)) ∧ Hid (FewNew new.length qs j) ∧ Hid (ShownTo (ss ++ new) qs j)) (fun _ jv _ => m - (intOf jv).toNat)
        case atStart => exact ⟨0, vL, [], rfl, rfl, Nat.zero_le _, by rw [List.append_nil]; exact HD2, HMv2, HF2, by rw [List.append_nil]; exact HG, Lib.hid (.inl rfl), Lib.hid (fun i _ h => by omega)⟩
        case round =>
          clear HD2 HMv2 HF2
          obtain ⟨j, vL', new, rfl, rfl, hj, HD, HMv, HF, HGn, HFew, HSh⟩ := hrel
          by_cases hlt : j < m
          · have hjq : j < qs.length := by rw [HQM.out]; exact hlt
            obtain ⟨gF, hX, hgF, _, _, _, hcF⟩ := HF.out (by omega)
            subst hX
            have hc := hcF j hlt
            obtain ⟨q2, hq2⟩ : ∃ q, qs[j] = q := ⟨_, rfl⟩
            rw [nth_eq _ _ hjq, hq2] at hc
            have hmemq : q2 ∈ qs := by rw [← hq2]; exact List.getElem_mem hjq
            have hq2p := (HPa.out.prm q2 hmemq).1
            have hq2l := HPa.out.lt h3 q2 hmemq
            have C1 := HIH.out q2 (by omega) hq2p (by omega) wr vL' (ss ++ new) HD.out HGn.out (by
              rw [List.length_append]
              exact HFew.out.count hjq hq2 HPa.out.ge (HPa.out.prod h3) HCT.out)
            have C1 := Lib.hid C1
            have HQ2 := Lib.hid hq2
            have HQ2l := Lib.hid hq2l
            have hFn := HD.out.bS.cell
            unfold showFn at hFn
            clear hcF hmemq hq2p hq2 hgF hq2l
            go_wp2_with fail
            refine (C1.out).mono ?_
            rintro e u3 ⟨er2, vL2, new2, rfl, hD3, hMv3, hG3, hT3⟩
            rw [List.append_assoc] at hD3 hG3
            have HD3 := Lib.hid hD3
            have HG3 := Lib.hid hG3
            have HMv3 := Lib.hid (HMv.out.trans hMv3)
            have HF3 := Lib.hid (HF.out.mv hMv3)
            have HT3 := Lib.hid hT3
            clear hD3 hG3 hMv3 C1 hFn hc
            by_cases her2 : er2 = 0
            · subst her2
              have HFew3 := Lib.hid (show FewNew (new ++ new2).length qs (j + 1) by
                rw [List.length_append]
                exact HFew.out.next hjq HQ2.out HPa.out.ge (fun h0 => by
                  subst h0
                  have := HPa.out.first HPR.out h3 hjq
                  rw [HQ2.out] at this
                  omega) hT3.few)
              have HSh3 := Lib.hid (show ShownTo (ss ++ (new ++ new2)) qs (j + 1) by
                rw [← List.append_assoc]
                exact HSh.out.next hjq HQ2.out (hT3.shown rfl))
              clear hT3
              go_wp2_with fail
              go_roundw
              case rel => exact ⟨j + 1, vL2, new ++ new2, rfl, by go_num, by omega, HD3, HMv3, HF3, HG3, HFew3, HSh3⟩
              case measure => simp [intOf]; omega
            · have hends := hT3.ends.resolve_left her2
              have hn : ((er2 : Int) == 0) = false := by simp; omega
              have HTold := Lib.hid (show Told12 p ss (new ++ new2) er2 from by
                have hFew3 : FewNew (new ++ new2).length qs (j + 1) := by
                  rw [List.length_append]
                  exact HFew.out.next hjq HQ2.out HPa.out.ge (fun h0 => by
                    subst h0
                    have := HPa.out.first HPR.out h3 hjq
                    rw [HQ2.out] at this
                    omega) hT3.few
                refine ⟨.inr ⟨hends.1, by have := HQ2l.out; omega⟩, fun h => absurd h her2, ?_, fun h => absurd h her2⟩
                rcases hFew3 with h | ⟨_, h⟩
                · exact .inl h
                · rcases Nat.eq_zero_or_pos (new ++ new2).length with h0 | h0
                  · exact .inl h0
                  · refine .inr ⟨h0, ?_⟩
                    have h4 := prodN_take_le11 (fun x hx => by have := HPa.out.ge x hx; omega) (j + 1) (l := qs)
                    have h5 := HPa.out.prod h3
                    have h6 : 2 ^ ((new ++ new2).length + 15) ≤ 2 ^ ((new ++ new2).length + 16) := Nat.pow_le_pow_right (by omega) (by omega)
                    omega)
              clear hT3 hends
              go_wp2_with fail
              go_ret
              exact ⟨er2, vL2, new ++ new2, rfl, HD3.out, HMv3.out, HG3.out, HTold.out⟩
          · obtain rfl : j = m := by omega
            obtain ⟨V, hV⟩ : ∃ V, wr.drew = V := ⟨_, rfl⟩
            have bV : Below wr.heap.size wr V := by rw [← hV]; exact (Drawn.more 1).below11
            have HD4 := Lib.hid (HD.out.step bV)
            have HMv4 := Lib.hid (HMv.out.trans (Mv.of_below vL' bV))
            have hF4 := HF.out.mv (Mv.of_below (gL := gL) (B := B) vL' bV)
            have CS := Lib.hid (step11 (AF := X) (c := d) (m := j) (p := p) (qs := qs) (w := V) (fun h0 => by
              obtain ⟨g, e, h1, _, _, _, h2⟩ := hF4 (by rw [← HQM.out]; exact h0)
              exact ⟨g, 0, e, h1, fun i hi => by rw [Nat.zero_add]; exact h2 i (by rw [← HQM.out]; exact hi)⟩) HQM.out (by omega) HPR.out h3 hp64 HPa.out.prm (HPa.out.two HPR.out h3))
            have hssl : (ss ++ new).length ≤ 1000 := by
              rw [List.length_append]
              have h1 : ss.length ≤ 200 := by
                rcases Nat.lt_or_ge 200 ss.length with h | h
                · exfalso
                  have h2 : 2 ^ 201 ≤ 2 ^ ss.length := Nat.pow_le_pow_right (by omega) (by omega)
                  have h4 : 2 ^ ss.length ≤ 2 ^ ss.length * p := Nat.le_mul_of_pos_right _ (by omega)
                  have h5 := HCT.out
                  have h6 : (2 : Nat) ^ 201 ≤ 2 ^ 200 := by omega
                  exact absurd h6 (by decide)
                · exact h
              have h2 : new.length ≤ 64 := by
                rcases HFew.out with h | ⟨_, h⟩
                · omega
                · rcases Nat.lt_or_ge 64 new.length with h4 | h4
                  · exfalso
                    have h5 : 2 ^ 81 ≤ 2 ^ (new.length + 16) := Nat.pow_le_pow_right (by omega) (by omega)
                    have h6 := prodN_take_le11 (fun x hx => by have := HPa.out.ge x hx; omega) j (l := qs)
                    have h7 := HPa.out.prod h3
                    have h8 : (2 : Nat) ^ 81 ≤ 18446744073709551616 := by omega
                    exact absurd h8 (by decide)
                  · exact h4
              omega
            obtain ⟨xsL, ownL, _⟩ := HD4.out.own
            obtain ⟨nL, hnL⟩ : ∃ n, (ss ++ new).length = n := ⟨_, rfl⟩
            rw [hnL] at ownL
            have hLf : ∃ A c, vL' = .slice A nL c := by
              rcases ownL.2 with ⟨e, h0⟩ | ⟨g, cap, cur, e, _⟩
              · exact ⟨none, 0, by rw [e, h0]⟩
              · exact ⟨_, cap, e⟩
            obtain ⟨AL, cL, rfl⟩ := hLf
            have kL := HD4.out.bL.cell
            have HSSL := Lib.hid hssl
            have HNL := Lib.hid hnL
            clear ownL hnL bV HD HMv hF4 hssl
            go_wp2_with fail
            refine wp_region_any (by kernel_rfl) ?_
            change wpAny _ _ _ _ _ _ _ wr.drew
            rw [hV]
            clear hV
            refine wpAny_takeD (i := 1) (d := 46) (v := .int .u64 (p : Int)) rfl (by kernel_rfl) (by kernel_rfl) (by kernel_rfl) (by kernel_rfl) (fun _ _ _ h => h) (Or.inl ⟨by kernel_rfl, fun W => by go_simp⟩) ?_
            refine wpAny_takeD (i := 2) (d := 47) (v := .slice X j d) rfl (by kernel_rfl) (by kernel_rfl) (by kernel_rfl) (by kernel_rfl) (fun _ _ _ h => h) (Or.inl ⟨by kernel_rfl, fun W => by go_simp⟩) ?_
            refine anyP.toAny (s := 5) (B := fun u => u.cell? ⟨gL, 0, none⟩ = some (.slice AL nL cL)) ?_
            refine anyP_take (i := 0) (d := 45) (v := .slice AL nL cL) rfl rfl (by kernel_rfl) (by kernel_rfl) (by kernel_rfl) (by kernel_rfl) (by kernel_rfl) (by kernel_rfl) (fun _ _ _ h => h) ⟨by kernel_rfl, fun W hW => by go_simp⟩ ?_
            refine anyP_one (i := 3) (by kernel_rfl) rfl (fun _ => kL) (fun K hK => ?_)
            go_simp
            refine (CS.out).mono ?_
            rintro e u5 ⟨vP, vG, vQ, x, rfl, hP, hG, hQ, hx2, hxp, hAr, b5⟩
            obtain ⟨AP, cP, rfl, _⟩ := id hP
            obtain ⟨AG, cG, rfl, _⟩ := id hG
            obtain ⟨AQ, cQ, rfl, _⟩ := id hQ
            have HD5 := Lib.hid (HD4.out.step b5)
            have HMv5 := Lib.hid (HMv4.out.trans (Mv.of_below _ b5))
            have hfr : ∀ b, V.heap.size ≤ b ∧ b < u5.heap.size → In4 w0.heap.size u5 gL B (.slice AL nL cL) b := fun b hb => HD4.out.fresh b hb
            obtain ⟨v6, u6, hrun, hbx, hD6, hMv6⟩ := HD5.out.append HSSL.out (s := stepRaw p x qs) (hP.keep (fun _ _ => rfl) hfr) (hG.keep (fun _ _ => rfl) hfr) (hQ.keep (fun _ _ => rfl) hfr)
            have kL5 := HD5.out.bL.cell
            obtain ⟨nP, hnP⟩ : ∃ n, (wd p).length = n := ⟨_, rfl⟩
            obtain ⟨nG, hnG⟩ : ∃ n, (wd x).length = n := ⟨_, rfl⟩
            obtain ⟨nQ, hnQ⟩ : ∃ n, (qs.map wd).length = n := ⟨_, rfl⟩
            rw [hnP, hnG, hnQ] at hrun ⊢
            have kL6 : (u5.alloc (.cells #[.slice AP nP cP, .slice AG nG cG, .slice AQ nQ cQ] 37)).cell? ⟨gL, 0, none⟩ = some (.slice AL nL cL) := (HD5.out.bL.alloc _).cell
            have kB := hbx.cell
            have kF := hbx.frozen
            have HD6 := Lib.hid hD6
            have HMv6 := Lib.hid (HMv5.out.trans hMv6)
            obtain ⟨u7, hrun7, hsh7, hgr7⟩ := HD6.out.sh.put (m := p) (by have := HSSL.out; unfold maxLen; omega) hp64
            obtain ⟨hD7, hMv7⟩ := HD6.out.put hsh7 hgr7
            have HD7 := Lib.hid hD7
            have HMv7 := Lib.hid (HMv6.out.trans hMv7)
            have k7 := HD6.out.bM.cell
            have HX := Lib.hid (And.intro hx2 (And.intro hxp hAr))
            obtain ⟨xs6, own6, _⟩ := HD6.out.own
            have hL6 : ∃ A n c, v6 = .slice A n c := by
              rcases own6.2 with ⟨e, h0⟩ | ⟨g, cap, cur, e, _⟩
              · exact ⟨none, 0, 0, e⟩
              · exact ⟨_, _, cap, e⟩
            obtain ⟨A6, n6, c6, rfl⟩ := hL6
            clear hP hG hQ b5 hfr hbx hD6 hMv6 hsh7 hgr7 hD7 hMv7 hnP hnG hnQ hx2 hxp hAr own6 kL CS
            refine hK _ _ ?_
            clear hK K
            refine anyP_one (i := 4) (by kernel_rfl) rfl (fun _ => kL5) (fun K hK => ?_)
            go_simp
            refine hK _ _ ?_
            clear hK K
            refine anyP_one (i := 5) (by kernel_rfl) rfl (fun _ => kL6) (fun K hK => ?_)
            rw [if_pos (by kernel_rfl)]
            refine op_append11 _ _ _ rfl _ _ rfl rfl hrun ?_
            refine hK _ _ ?_
            clear hK K hrun kL5 kL6
            refine anyP_one (i := 6) (by kernel_rfl) rfl (fun h => by cases h) (fun K hK => ?_)
            go_simp
            refine hK _ _ ?_
            clear hK K kB kF
            refine anyP_done (by kernel_rfl) (by kernel_rfl) ?_
            go_step
            go_simp
            go_wp2_with fail
            go_ret
            have e1 : (ss ++ new).length + 1 = (ss ++ (new ++ [stepRaw p x qs])).length := by simp only [List.length_append, List.length_singleton]; omega
            have e2 : Ps (ss ++ new) ++ [p] = Ps (ss ++ (new ++ [stepRaw p x qs])) := by
              rw [← List.append_assoc, Ps_append (ss ++ new)]
              show _ = _ ++ [natOf (wd p)]
              rw [natOf_wd]
            have hD7 := HD7.out
            rw [e1, e2, List.append_assoc] at hD7
            obtain ⟨hx2, hxp, hAr⟩ := HX.out
            have hql : ∀ q ∈ qs, q < 18446744073709551616 := fun q hq => by have := HPa.out.lt h3 q hq; omega
            have hraw := raw_ok11 (x := x) hp64 hxp hql (by rw [HQM.out]; exact hm40)
            have hsh := HSh.out
            rw [← HQM.out] at hsh
            have hG7 := HGn.out.append hraw.1 hraw.2 (stepOk_raw HPa.out HPR.out h3 hx2 hxp hAr hsh.all hp64)
            rw [List.append_assoc] at hG7
            refine ⟨0, _, new ++ [stepRaw p x qs], rfl, hD7, HMv7.out, hG7, ⟨.inl rfl, fun _ => .inr ⟨stepRaw p x qs, by simp, natOf_wd p⟩, .inr ⟨by simp, ?_⟩, fun _ _ _ => ⟨new, _, rfl, natOf_wd p⟩⟩⟩
            rw [List.length_append]
            have hfw := HFew.out
            rw [← HQM.out] at hfw
            exact hfw.last (HPa.out.prod h3) (by omega)
      · obtain ⟨h11, h32⟩ := told_word11 hT h3 her
        have hn : ((er : Int) == 0) = false := by simp; omega
        have HE := Lib.hid (And.intro h11 h32)
        clear hT hRow hOwn b1 h11 h32
        go_wp2_with fail
        go_ret
        exact ⟨er, vL, [], rfl, by rw [List.append_nil]; exact HD1.out, HMv1.out, by rw [List.append_nil]; exact HG.out, ⟨.inr HE.out, fun h => absurd h her, .inl rfl, fun h => absurd h her⟩⟩
end Go.Proofs.YtjpfcdgaepdcdaaGreat

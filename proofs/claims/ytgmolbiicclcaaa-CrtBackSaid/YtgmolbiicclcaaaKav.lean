/- Several texts in one; each begins with a remark that says what it shows and on which conditions. -/
import Derived.Test.YtgmolbiicclcaaaKas
/- Plain facts on rests: one number that leaves all of them, alone below the product; order and parts say nothing. No condition but those typed; no program is named. -/
namespace Go.Proofs.Ytgmolbiicclcaaa
/-- What a number leaves. -/
structure CR where
  m : Nat
  r : Nat
/-- All m, multiplied. -/
def prodC : List CR → Nat
  | [] => 1
  | s :: t => s.m * prodC t
/-- No two m have a common factor. -/
def Cop (ss : List CR) : Prop := ss.Pairwise fun a b => Nat.gcd a.m b.m = 1
def AllOk (ss : List CR) : Prop := ∀ s ∈ ss, s.r < s.m
/-- R is below the product and leaves all rests. -/
def IsR (ss : List CR) (R : Nat) : Prop := R < prodC ss ∧ ∀ s ∈ ss, R % s.m = s.r
theorem prodC_append (a b : List CR) : prodC (a ++ b) = prodC a * prodC b := by
  induction a with
  | nil => simp [prodC]
  | cons s t ih => simp only [List.cons_append, prodC, ih, Nat.mul_assoc]
theorem prodC_one (s : CR) : prodC [s] = s.m := by simp [prodC]
theorem prodC_snoc (a : List CR) (s : CR) : prodC (a ++ [s]) = prodC a * s.m := by rw [prodC_append, prodC_one]
theorem prodC_reverse (a : List CR) : prodC a.reverse = prodC a := by
  induction a with
  | nil => rfl
  | cons s t ih => rw [List.reverse_cons, prodC_snoc, ih, prodC, Nat.mul_comm]
theorem prodC_pos {a : List CR} (h : AllOk a) : 0 < prodC a := by
  induction a with
  | nil => simp [prodC]
  | cons s t ih =>
    have := h s (by simp)
    exact Nat.mul_pos (by omega) (ih fun x hx => h x (by simp [hx]))
theorem dvd_prodC {a : List CR} {s : CR} (h : s ∈ a) : s.m ∣ prodC a := by
  induction a with
  | nil => cases h
  | cons x t ih =>
    rcases List.mem_cons.1 h with rfl | h
    · exact Nat.dvd_mul_right _ _
    · exact Nat.dvd_trans (ih h) (Nat.dvd_mul_left _ _)
theorem gcd_prodC {a : List CR} {m : Nat} : Nat.gcd (prodC a) m = 1 ↔ ∀ s ∈ a, Nat.gcd s.m m = 1 := by
  constructor
  · intro h s hs
    exact Nat.Coprime.coprime_dvd_left (dvd_prodC hs) h
  · intro h
    induction a with
    | nil => simp [prodC]
    | cons x t ih => exact Nat.Coprime.mul_left (h x (by simp)) (ih fun s hs => h s (by simp [hs]))
theorem cop_snoc {a : List CR} {s : CR} : Cop (a ++ [s]) ↔ Cop a ∧ Nat.gcd (prodC a) s.m = 1 := by
  unfold Cop
  rw [List.pairwise_append, gcd_prodC]
  simp
theorem cop_reverse {a : List CR} : Cop a.reverse ↔ Cop a := by
  unfold Cop
  rw [List.pairwise_reverse]
  constructor <;> exact fun h => h.imp fun e => (Nat.gcd_comm _ _).trans e
theorem allOk_reverse {a : List CR} : AllOk a.reverse ↔ AllOk a := by
  unfold AllOk
  simp
/-- Two rests make one. -/
def bothR (m r : Nat) (s : CR) (v : Nat) : Nat := r + (s.r + s.m - r % s.m) * v % s.m * m
theorem bothR_lt {m r v : Nat} {s : CR} (hr : r < m) (hs : s.r < s.m) : bothR m r s v < m * s.m := by
  unfold bothR
  have h1 : (s.r + s.m - r % s.m) * v % s.m < s.m := Nat.mod_lt _ (by omega)
  generalize (s.r + s.m - r % s.m) * v % s.m = t at h1 ⊢
  have h2 : (t + 1) * m ≤ s.m * m := Nat.mul_le_mul_right m h1
  rw [Nat.add_mul, Nat.one_mul] at h2
  rw [Nat.mul_comm m s.m]
  omega
theorem bothR_left {m r v : Nat} {s : CR} (d : Nat) (hd : d ∣ m) : bothR m r s v % d = r % d := by
  unfold bothR
  obtain ⟨k, rfl⟩ := hd
  rw [show (s.r + s.m - r % s.m) * v % s.m * (d * k) = d * ((s.r + s.m - r % s.m) * v % s.m * k) by rw [Nat.mul_left_comm], Nat.add_mul_mod_self_left]
theorem bothR_right {m r v : Nat} {s : CR} (hs : s.r < s.m) (hv : v * m % s.m = 1 % s.m) : bothR m r s v % s.m = s.r := by
  have hlt := Nat.mod_lt r (show 0 < s.m by omega)
  have e : ((s.r + s.m - r % s.m) * v % s.m * m) % s.m = (s.r + s.m - r % s.m) % s.m := by
    rw [Nat.mod_mul_mod, Nat.mul_assoc, ← Nat.mul_mod_mod, hv, Nat.mul_mod_mod, Nat.mul_one]
  unfold bothR
  rw [Nat.add_mod, e, ← Nat.add_mod, Nat.add_mod r, ← Nat.add_mod, ← Nat.mod_add_mod, show r % s.m + (s.r + s.m - r % s.m) = s.r + s.m by omega, Nat.add_mod_right, Nat.mod_eq_of_lt hs]
theorem isR_snoc {a : List CR} {s : CR} {r v : Nat} (h : IsR a r) (hs : s.r < s.m) (hv : v * prodC a % s.m = 1 % s.m) : IsR (a ++ [s]) (bothR (prodC a) r s v) := by
  refine ⟨by rw [prodC_snoc]; exact bothR_lt h.1 hs, fun x hx => ?_⟩
  rcases List.mem_append.1 hx with hx | hx
  · rw [bothR_left _ (dvd_prodC hx), h.2 x hx]
  · rw [List.mem_singleton.1 hx]
    exact bothR_right hs hv
theorem isR_nil : IsR [] 0 := ⟨by simp [prodC], by simp⟩
theorem isR_unique {a : List CR} {R S : Nat} (hc : Cop a) (h : IsR a R) (k : IsR a S) : R = S := by
  have hd : ∀ (b : List CR), (∀ s ∈ b, (s.m : Int) ∣ (R : Int) - S) → Cop b → ((prodC b : Nat) : Int) ∣ (R : Int) - S := by
    intro b
    induction b with
    | nil => intro _ _; exact ⟨(R : Int) - S, by simp [prodC]⟩
    | cons s t ih =>
      intro h1 h2
      have h3 := ih (fun x hx => h1 x (by simp [hx])) (List.pairwise_cons.1 h2).2
      have h4 : Nat.Coprime s.m (prodC t) := by
        rw [Nat.Coprime, Nat.gcd_comm]
        exact gcd_prodC.2 fun x hx => (Nat.gcd_comm _ _).trans ((List.pairwise_cons.1 h2).1 x hx)
      have h5 := Int.ofNat_dvd_left.1 (h1 s (by simp))
      have h6 := Int.ofNat_dvd_left.1 h3
      exact Int.ofNat_dvd_left.2 (Nat.Coprime.mul_dvd_of_dvd_of_dvd h4 h5 h6)
  have h1 := hd a (fun s hs => by
    have e : R % s.m = S % s.m := (h.2 s hs).trans (k.2 s hs).symm
    have e2 : (R : Int) % s.m = (S : Int) % s.m := by exact_mod_cast e
    exact Int.dvd_of_emod_eq_zero ((Int.emod_emod_of_dvd _ (Int.dvd_refl _)) ▸ Int.emod_eq_emod_iff_emod_sub_eq_zero.1 e2)) hc
  have h2 := h.1
  have h3 := k.1
  have h4 := Int.ofNat_dvd_left.1 h1
  rcases Nat.lt_or_ge ((R : Int) - S).natAbs 1 with h5 | h5
  · omega
  · have := Nat.le_of_dvd (by omega) h4
    omega
theorem isR_some : ∀ (a : List CR), AllOk a → Cop a → ∃ R, IsR a R := by
  intro a
  have : ∀ n, ∀ a : List CR, a.length = n → AllOk a → Cop a → ∃ R, IsR a R := by
    intro n
    induction n with
    | zero =>
      intro a hn _ _
      rw [List.eq_nil_of_length_eq_zero hn]
      exact ⟨0, isR_nil⟩
    | succ n ih =>
      intro a hn ho hc
      obtain ⟨b, s, rfl⟩ : ∃ b s, a = b ++ [s] := by
        rcases List.eq_nil_or_concat a with rfl | ⟨b, s, e⟩
        · cases hn
        · exact ⟨b, s, by simpa using e⟩
      have h1 := cop_snoc.1 hc
      obtain ⟨R, hR⟩ := ih b (by simpa using hn) (fun x hx => ho x (by simp [hx])) h1.1
      have hs := ho s (by simp)
      obtain ⟨v, _, hv⟩ := inv_some (prodC b) s.m (by omega) h1.2
      exact ⟨_, isR_snoc hR hs hv⟩
  exact this a.length a rfl
theorem isR_reverse {a : List CR} {R : Nat} : IsR a.reverse R ↔ IsR a R := by
  unfold IsR
  rw [prodC_reverse]
  simp
/-! What Join answers -/
noncomputable def errC (ss : List CR) : Nat := @ite Nat (AllOk ss) (Classical.propDecidable _) (if nbits (prodC ss) ≤ 1024 then @ite Nat (Cop ss) (Classical.propDecidable _) 0 10 else 4) 1
theorem errC_arg {ss : List CR} (h : ¬ AllOk ss) : errC ss = 1 := if_neg h
theorem errC_many {ss : List CR} (h : AllOk ss) (k : ¬ nbits (prodC ss) ≤ 1024) : errC ss = 4 := by unfold errC; rw [if_pos h, if_neg k]
theorem errC_inv {ss : List CR} (h : AllOk ss) (k : nbits (prodC ss) ≤ 1024) (l : ¬ Cop ss) : errC ss = 10 := by unfold errC; rw [if_pos h, if_pos k, if_neg l]
theorem errC_ok {ss : List CR} (h : AllOk ss) (k : nbits (prodC ss) ≤ 1024) (l : Cop ss) : errC ss = 0 := by unfold errC; rw [if_pos h, if_pos k, if_pos l]
theorem errC_zero {ss : List CR} : errC ss = 0 ↔ AllOk ss ∧ nbits (prodC ss) ≤ 1024 ∧ Cop ss := by
  unfold errC
  constructor
  · intro h
    split at h
    · split at h
      · split at h
        · exact ⟨by assumption, by assumption, by assumption⟩
        · cases h
      · cases h
    · cases h
  · rintro ⟨h1, h2, h3⟩
    rw [if_pos h1, if_pos h2, if_pos h3]
/-- The number, and the product; 0 and 0 beside an error. -/
noncomputable def ansR (ss : List CR) : Nat := if h : errC ss = 0 then Classical.choose (isR_some ss (errC_zero.1 h).1 (errC_zero.1 h).2.2) else 0
noncomputable def ansM (ss : List CR) : Nat := if errC ss = 0 then prodC ss else 0
theorem ansR_ok {ss : List CR} (h : errC ss = 0) : IsR ss (ansR ss) := by
  unfold ansR
  rw [dif_pos h]
  exact Classical.choose_spec (isR_some ss (errC_zero.1 h).1 (errC_zero.1 h).2.2)
theorem ansM_ok {ss : List CR} (h : errC ss = 0) : ansM ss = prodC ss := if_pos h
theorem ansR_no {ss : List CR} (h : errC ss ≠ 0) : ansR ss = 0 := dif_neg h
theorem ansM_no {ss : List CR} (h : errC ss ≠ 0) : ansM ss = 0 := if_neg h
theorem ansR_eq {ss : List CR} {R : Nat} (h : errC ss = 0) (k : IsR ss R) : ansR ss = R := isR_unique (errC_zero.1 h).2.2 (ansR_ok h) k
theorem ansM_bits (ss : List CR) : nbits (ansM ss) ≤ 1024 := by
  by_cases h : errC ss = 0
  · rw [ansM_ok h]; exact (errC_zero.1 h).2.1
  · rw [ansM_no h, nbits_zero]; omega
theorem ansR_bits (ss : List CR) : nbits (ansR ss) ≤ 1024 := by
  by_cases h : errC ss = 0
  · exact Nat.le_trans (nbits_mono (Nat.le_of_lt (ansR_ok h).1)) (errC_zero.1 h).2.1
  · rw [ansR_no h, nbits_zero]; omega
/-! Order and parts -/
theorem errC_reverse (ss : List CR) : errC ss.reverse = errC ss := by
  by_cases h1 : AllOk ss
  · have k1 := allOk_reverse.2 h1
    by_cases h2 : nbits (prodC ss) ≤ 1024
    · have k2 : nbits (prodC ss.reverse) ≤ 1024 := by rw [prodC_reverse]; exact h2
      by_cases h3 : Cop ss
      · rw [errC_ok h1 h2 h3, errC_ok k1 k2 (cop_reverse.2 h3)]
      · rw [errC_inv h1 h2 h3, errC_inv k1 k2 (fun k => h3 (cop_reverse.1 k))]
    · rw [errC_many h1 h2, errC_many k1 (by rw [prodC_reverse]; exact h2)]
  · rw [errC_arg h1, errC_arg (fun k => h1 (allOk_reverse.1 k))]
theorem ansM_reverse (ss : List CR) : ansM ss.reverse = ansM ss := by
  unfold ansM
  rw [errC_reverse, prodC_reverse]
theorem ansR_reverse (ss : List CR) : ansR ss.reverse = ansR ss := by
  by_cases h : errC ss = 0
  · exact ansR_eq (by rw [errC_reverse]; exact h) (isR_reverse.2 (ansR_ok h))
  · rw [ansR_no h, ansR_no (by rw [errC_reverse]; exact h)]
theorem errC_take {ss : List CR} (k : Nat) (h : errC ss = 0) : errC (ss.take k) = 0 := by
  obtain ⟨h1, h2, h3⟩ := errC_zero.1 h
  refine errC_zero.2 ⟨fun s hs => h1 s (List.mem_of_mem_take hs), ?_, h3.sublist (List.take_sublist k ss)⟩
  refine Nat.le_trans (nbits_mono (Nat.le_of_dvd (prodC_pos h1) ⟨prodC (ss.drop k), ?_⟩)) h2
  rw [← prodC_append, List.take_append_drop]
/-- Those of a part, joined, and the others. -/
noncomputable def joinedC (ss : List CR) (k : Nat) : List CR := ⟨ansM (ss.take k), ansR (ss.take k)⟩ :: ss.drop k
theorem prodC_joined {ss : List CR} (k : Nat) (h : errC ss = 0) : prodC (joinedC ss k) = prodC ss := by
  unfold joinedC
  rw [prodC, ansM_ok (errC_take k h), ← prodC_append, List.take_append_drop]
theorem errC_joined {ss : List CR} (k : Nat) (h : errC ss = 0) : errC (joinedC ss k) = 0 := by
  obtain ⟨h1, h2, h3⟩ := errC_zero.1 h
  have h4 := errC_take k h
  refine errC_zero.2 ⟨fun s hs => ?_, by rw [prodC_joined k h]; exact h2, ?_⟩
  · rcases List.mem_cons.1 hs with rfl | hs
    · show ansR (ss.take k) < ansM (ss.take k)
      rw [ansM_ok h4]
      exact (ansR_ok h4).1
    · exact h1 s (List.mem_of_mem_drop hs)
  · refine List.pairwise_cons.2 ⟨fun s hs => ?_, h3.sublist (List.drop_sublist k ss)⟩
    show Nat.gcd (ansM (ss.take k)) s.m = 1
    rw [ansM_ok h4]
    refine gcd_prodC.2 fun x hx => ?_
    have h5 : Cop (ss.take k ++ ss.drop k) := by rw [List.take_append_drop]; exact h3
    exact (List.pairwise_append.1 h5).2.2 x hx s hs
theorem ansM_joined {ss : List CR} (k : Nat) (h : errC ss = 0) : ansM (joinedC ss k) = ansM ss := by rw [ansM_ok (errC_joined k h), prodC_joined k h, ansM_ok h]
theorem ansR_joined {ss : List CR} (k : Nat) (h : errC ss = 0) : ansR (joinedC ss k) = ansR ss := by
  refine ansR_eq (errC_joined k h) ⟨by rw [prodC_joined k h]; exact (ansR_ok h).1, fun s hs => ?_⟩
  have h4 := errC_take k h
  rcases List.mem_cons.1 hs with rfl | hs
  · show ansR ss % ansM (ss.take k) = ansR (ss.take k)
    have h5 := ansR_ok h
    have h7 := prodC_pos (errC_zero.1 h4).1
    rw [ansM_ok h4]
    refine (ansR_eq h4 ⟨Nat.mod_lt _ h7, fun x hx => ?_⟩).symm
    rw [Nat.mod_mod_of_dvd _ (dvd_prodC hx)]
    exact h5.2 x (List.mem_of_mem_take hx)
  · exact (ansR_ok h).2 s (List.mem_of_mem_drop hs)
/-- One more of M 1 changes nothing. -/
theorem errC_one {ss : List CR} (h : errC ss = 0) : errC (ss ++ [⟨1, 0⟩]) = 0 := by
  obtain ⟨h1, h2, h3⟩ := errC_zero.1 h
  refine errC_zero.2 ⟨fun s hs => ?_, by rw [prodC_snoc, Nat.mul_one]; exact h2, cop_snoc.2 ⟨h3, Nat.gcd_one_right _⟩⟩
  rcases List.mem_append.1 hs with hs | hs
  · exact h1 s hs
  · rw [List.mem_singleton.1 hs]; exact Nat.one_pos
theorem ansR_one {ss : List CR} (h : errC ss = 0) : ansR (ss ++ [⟨1, 0⟩]) = ansR ss := by
  refine ansR_eq (errC_one h) ⟨by rw [prodC_snoc, Nat.mul_one]; exact (ansR_ok h).1, fun s hs => ?_⟩
  rcases List.mem_append.1 hs with hs | hs
  · exact (ansR_ok h).2 s hs
  · rw [List.mem_singleton.1 hs]
    exact Nat.mod_one _
/-- What a number leaves leads back to it. -/
theorem ansR_back {ss : List CR} {n : Nat} (h : errC ss = 0) (hn : ∀ s ∈ ss, s.r = n % s.m) : ansR ss = n % prodC ss :=
  ansR_eq h ⟨Nat.mod_lt _ (prodC_pos (errC_zero.1 h).1), fun s hs => by rw [Nat.mod_mod_of_dvd _ (dvd_prodC hs), hn s hs]⟩
end Go.Proofs.Ytgmolbiicclcaaa

/- Several texts in one; each begins with a remark that says what it shows and on which conditions. -/
import Derived.Test.YtjpfcdgaepdcdaaGreatKbd
import Derived.Test.YtjpfcdgaepdcdaaGreatKay
import Derived.Maps.AppendAt
import Derived.WalkKit
import Derived.Lib.Hide
import Derived.Deep.Draws
import Derived.Sort.Grow
import Derived.Sort.AssemblyPlain
import Derived.Test.YtjpfcdgaepdcdaaGreatProg
import Derived.Deep.QuietTactic
import Derived.CellFam
import Derived.BigGuard
import Derived.BigCall
import Derived.BigQuiet
/- Numbers, and slices of numbers, that lie in given blocks of memory; a step's three fields in a block of their own. Conditions: as typed. -/
namespace Go.Proofs.YtjpfcdgaepdcdaaGreat
open Go.RowKit
set_option maxRecDepth 20000
/-- The slice at A reads as the numbers l, in a block of S. -/
def RdS (w : World) (S : Nat → Prop) (A : Option Addr) (l : List Nat) : Prop := 0 < l.length → ∃ b off, A = some ⟨b, off, none⟩ ∧ S b ∧ ∀ j, j < l.length → w.cell? ⟨b, off + j, none⟩ = some (.int .u64 (nth l j : Int))
def NatS (w : World) (S : Nat → Prop) (v : Value) (l : List Nat) : Prop := ∃ A c, v = .slice A l.length c ∧ RdS w S A l ∧ l.length ≤ c ∧ Words l ∧ l.length ≤ 17592186044416
def NatsS (w : World) (S : Nat → Prop) (A : Option Addr) (ms : List (List Nat)) : Prop :=
  0 < ms.length → ∃ b off, A = some ⟨b, off, none⟩ ∧ S b ∧ ∀ j (hj : j < ms.length), ∃ v, w.cell? ⟨b, off + j, none⟩ = some v ∧ NatS w S v ms[j]
def QS (w : World) (S : Nat → Prop) (v : Value) (ms : List (List Nat)) : Prop := ∃ A c, v = .slice A ms.length c ∧ NatsS w S A ms ∧ ms.length ≤ c ∧ ms.length ≤ 140737488351232
section
variable {w w' : World} {S S' : Nat → Prop} {v : Value} {A : Option Addr} {l : List Nat} {ms : List (List Nat)}
theorem RdS.keep (h : RdS w S A l) (hk : ∀ b, S b → w'.heap[b]? = w.heap[b]?) (hS : ∀ b, S b → S' b) : RdS w' S' A l := fun h0 => by
  obtain ⟨b, off, e, hb, hc⟩ := h h0
  exact ⟨b, off, e, hS b hb, fun j hj => (World.cell?_of_block (a := ⟨b, off + j, none⟩) (hk b hb)).trans (hc j hj)⟩
theorem NatS.keep (h : NatS w S v l) (hk : ∀ b, S b → w'.heap[b]? = w.heap[b]?) (hS : ∀ b, S b → S' b) : NatS w' S' v l := by
  obtain ⟨A, c, e, hr, h⟩ := h
  exact ⟨A, c, e, hr.keep hk hS, h⟩
theorem NatsS.keep (h : NatsS w S A ms) (hk : ∀ b, S b → w'.heap[b]? = w.heap[b]?) (hS : ∀ b, S b → S' b) : NatsS w' S' A ms := fun h0 => by
  obtain ⟨b, off, e, hb, hc⟩ := h h0
  refine ⟨b, off, e, hS b hb, fun j hj => ?_⟩
  obtain ⟨v, h1, h2⟩ := hc j hj
  exact ⟨v, (World.cell?_of_block (a := ⟨b, off + j, none⟩) (hk b hb)).trans h1, h2.keep hk hS⟩
theorem QS.keep (h : QS w S v ms) (hk : ∀ b, S b → w'.heap[b]? = w.heap[b]?) (hS : ∀ b, S b → S' b) : QS w' S' v ms := by
  obtain ⟨A, c, e, hr, h⟩ := h
  exact ⟨A, c, e, hr.keep hk hS, h⟩
theorem NatS.rd {B : Nat} (h : NatS w S v l) (hS : ∀ b, S b → b < B) : RdNat w B v l := by
  obtain ⟨A, c, e, hr, h⟩ := h
  exact ⟨A, c, e, hr.keep (S' := fun b => b < B) (fun _ _ => rfl) hS, h⟩
theorem QS.rd {B : Nat} (h : QS w S v ms) (hS : ∀ b, S b → b < B) : RdQ w B v ms := by
  obtain ⟨A, c, e, hr, h⟩ := h
  refine ⟨A, c, e, fun h0 => ?_, h⟩
  obtain ⟨b, off, e2, hb, hc⟩ := hr h0
  refine ⟨b, off, e2, hS b hb, fun j hj => ?_⟩
  obtain ⟨v, h1, h2⟩ := hc j hj
  exact ⟨v, h1, h2.rd hS⟩
end
/-- A number that a call has answered, in new memory. -/
theorem natS_out {w : World} {base : Nat} {X : Option Addr} {q d N : Nat} (h : NatIs w X q d N) (t : Turned w base (.slice X q d) q) : NatS w (fun b => base ≤ b ∧ b < w.heap.size) (.slice X q d) (wd N) := by
  obtain ⟨h1, h2, h3, h4⟩ := h
  refine ⟨X, d, by rw [h1], fun h0 => ?_, by omega, wd_words N, by omega⟩
  obtain ⟨b, off, rfl, hb, hc⟩ := h3 h0
  exact ⟨b, off, rfl, ⟨(t.lt b rfl).1, hb⟩, hc⟩
theorem NatS.is11 {w : World} {S : Nat → Prop} {X : Option Addr} {q d N : Nat} (h : NatS w S (.slice X q d) (wd N)) (hS : ∀ b, S b → b < w.heap.size) (hN : nbits N ≤ 1024) : NatIs w X q d N := by
  obtain ⟨A, c, e, hr, hc, _, _⟩ := h
  injection e with e1 e2 e3
  subst e1 e2 e3
  have hl := length_wd N
  exact ⟨rfl, by omega, hr.keep (S' := fun b => b < w.heap.size) (fun _ _ => rfl) hS, hc⟩
theorem okNat_wd11 {n : Nat} (h : n < 18446744073709551616) : OkNat (wd n) ∧ natOf (wd n) = n ∧ (wd n).length ≤ 1 := by
  have hb := nbits_of_lt n 64 h
  have hl := length_wd n
  exact ⟨⟨by rw [natOf_wd], by rw [natOf_wd]; omega⟩, natOf_wd n, by omega⟩
/-- A step's three fields fill block g. -/
def Box3 (w : World) (g : Nat) (vP vG vQ : Value) : Prop := w.heap[g]? = some (.cells #[vP, vG, vQ] 37 (0, 0))
section
variable {w w' : World} {g : Nat} {vP vG vQ : Value}
theorem Box3.lt (h : Box3 w g vP vG vQ) : g < w.heap.size := (Array.getElem?_eq_some_iff.1 h).1
theorem Box3.new (w : World) (vP vG vQ : Value) : Box3 (w.alloc (.cells #[vP, vG, vQ] 37)) w.heap.size vP vG vQ := (MapKept.heap_alloc w _).1
theorem Box3.keep (h : Box3 w g vP vG vQ) (hk : w'.heap[g]? = w.heap[g]?) : Box3 w' g vP vG vQ := hk.trans h
theorem Box3.cP (h : Box3 w g vP vG vQ) : w.cell? ⟨g, 0, none⟩ = some vP := by unfold Box3 at h; simp [World.cell?, h]
theorem Box3.cG (h : Box3 w g vP vG vQ) : w.cell? ⟨g, 1, none⟩ = some vG := by unfold Box3 at h; simp [World.cell?, h]
theorem Box3.cQ (h : Box3 w g vP vG vQ) : w.cell? ⟨g, 2, none⟩ = some vQ := by unfold Box3 at h; simp [World.cell?, h]
theorem Box3.soft (h : Box3 w g vP vG vQ) (k : Nat) : w.frozen? ⟨g, k, none⟩ = false := by unfold Box3 at h; simp [World.frozen?, h]
theorem Box3.setP (h : Box3 w g vP vG vQ) (v : Value) : Box3 (w.setCell ⟨g, 0, none⟩ v) g v vG vQ := by
  show (w.heap.modify g _)[g]? = _
  rw [Array.getElem?_modify, if_pos rfl, show w.heap[g]? = _ from h]
  rfl
theorem Box3.setG (h : Box3 w g vP vG vQ) (v : Value) : Box3 (w.setCell ⟨g, 1, none⟩ v) g vP v vQ := by
  show (w.heap.modify g _)[g]? = _
  rw [Array.getElem?_modify, if_pos rfl, show w.heap[g]? = _ from h]
  rfl
theorem Box3.setQ (h : Box3 w g vP vG vQ) (v : Value) : Box3 (w.setCell ⟨g, 2, none⟩ v) g vP vG v := by
  show (w.heap.modify g _)[g]? = _
  rw [Array.getElem?_modify, if_pos rfl, show w.heap[g]? = _ from h]
  rfl
theorem Box3.box (h : Box3 w g vP vG vQ) : StepBox w g vP vG vQ := ⟨h.cP, h.cG, h.cQ, h.lt⟩
/-- A row of numbers' slices is no step. -/
theorem Box3.ne_own {base n : Nat} {v : Value} {xs : List Value} (h : Box3 w g vP vG vQ) (o : w.ownsRow base 33 1 v n xs) : v.ownBlock ≠ some g := by
  rcases o.2 with ⟨rfl, _⟩ | ⟨k, cap, cur, rfl, _, hh, _⟩
  · simp [Value.ownBlock]
  · intro e
    simp only [Value.ownBlock, Option.some.injEq] at e
    subst e
    unfold Box3 at h
    rw [hh] at h
    injection h with h
    injection h with _ e2
    cases e2
end
end Go.Proofs.YtjpfcdgaepdcdaaGreat
/- Of each prime there is a number whose powers are all below it. No condition but those typed; no program is named. -/
namespace Go.Proofs.YtjpfcdgaepdcdaaGreat
theorem part11 {q : Nat} (hq : 2 ≤ q) : ∀ n, 0 < n → ∃ e c, n = q ^ e * c ∧ ¬ q ∣ c := by
  intro n
  induction n using Nat.strongRecOn with
  | ind n ih =>
    intro h0
    by_cases hd : q ∣ n
    · obtain ⟨m, rfl⟩ := hd
      have hm : 0 < m := Nat.pos_of_ne_zero fun e => by subst e; simp at h0
      have hlt : m < q * m := by
        have : 2 * m ≤ q * m := Nat.mul_le_mul_right m hq
        omega
      obtain ⟨e, c, h1, h2⟩ := ih m hlt hm
      exact ⟨e + 1, c, by rw [Nat.pow_succ, Nat.mul_comm (q ^ e) q, Nat.mul_assoc, ← h1], h2⟩
    · exact ⟨0, n, by rw [Nat.pow_zero, Nat.one_mul], hd⟩
/-- Not all powers by a part of p - 1 are 1. -/
theorem some_not11 {p k : Nat} (hp : Prm p) (h0 : 0 < k) (hk : k < p - 1) : ∃ a, 1 ≤ a ∧ a < p ∧ a ^ k % p ≠ 1 := by
  refine Classical.byContradiction fun hc => ?_
  have hall : ∀ a, 1 ≤ a → a < p → a ^ k % p = 1 := fun a h1 h2 => Classical.byContradiction fun h => hc ⟨a, h1, h2, h⟩
  obtain ⟨j, rfl⟩ : ∃ j, k = j + 1 := ⟨k - 1, by omega⟩
  have h := roots_le hp (j + 1) ((-1) :: xk j) (by rw [List.length_cons, xk_length]) (xk_last j _) (upTo (p - 1)) (nodup_upTo _) (fun r hr => by
    obtain ⟨h1, h2⟩ := mem_upTo.1 hr
    refine ⟨by omega, ?_⟩
    have h3 : Cong p ((r ^ (j + 1) : Nat) : Int) ((1 : Nat) : Int) := cong_mod.2 (by rw [hall r h1 (by omega), Nat.mod_eq_of_lt (by have := hp.1; omega)])
    have e : evalZ (r : Int) ((-1) :: xk j) = ((r ^ (j + 1) : Nat) : Int) - ((1 : Nat) : Int) := by
      show -1 + (r : Int) * evalZ (r : Int) (xk j) = _
      rw [xk_eval, Int.natCast_pow, Int.pow_succ]
      rw [Int.mul_comm]
      omega
    rw [e]
    exact h3)
  rw [length_upTo] at h
  omega
/-- A number whose power by the part that q takes out is 1 for all other primes, and not for q. -/
theorem comp11 {p q : Nat} (hp : Prm p) (hq : Prm q) (hd : q ∣ p - 1) : ∃ b, ¬ p ∣ b ∧ b ^ ((p - 1) / q) % p ≠ 1 ∧ ∀ r, Prm r → r ∣ p - 1 → r ≠ q → b ^ ((p - 1) / r) % p = 1 := by
  have hp2 := hp.1
  have hq2 := hq.1
  have hN : 0 < p - 1 := by omega
  obtain ⟨u, hu⟩ := hd
  have hu0 : 0 < u := Nat.pos_of_ne_zero fun e => by subst e; simp at hu; omega
  have hul : u < p - 1 := by
    have : 2 * u ≤ q * u := Nat.mul_le_mul_right u hq2
    omega
  obtain ⟨a, ha1, ha2, ha3⟩ := some_not11 hp hu0 hul
  have hna : ¬ p ∣ a := fun h => by have := Nat.le_of_dvd (by omega) h; omega
  have hf := fermat hp hna
  obtain ⟨e, c, hc, hnc⟩ := part11 hq2 (p - 1) hN
  have eu : (p - 1) / q = u := by rw [hu, Nat.mul_div_cancel_left _ (by omega)]
  refine ⟨a ^ c, fun h => hna (hp.pow a c h), ?_, fun r hr hrd hne => ?_⟩
  · rw [eu, ← Nat.pow_mul]
    intro h
    have h1 : a ^ (u * q) % p = 1 := by rw [Nat.mul_comm, ← hu]; exact hf
    have h2 : a ^ (u * c) % p = 1 := by rw [Nat.mul_comm]; exact h
    have h3 := one_gcd (by omega) (u * c) (u * q) h2 h1
    rw [Nat.gcd_mul_left, hq.gcd c hnc, Nat.mul_one] at h3
    exact ha3 h3
  · obtain ⟨v, hv⟩ := hrd
    have hr2 := hr.1
    have ev : (p - 1) / r = v := by rw [hv, Nat.mul_div_cancel_left _ (by omega)]
    rw [ev, ← Nat.pow_mul]
    have hqr : ¬ q ∣ r := fun h => by
      rcases hr.2 q h with h1 | h1
      · omega
      · exact hne h1.symm
    have hg : Nat.Coprime r q := hq.gcd r hqr
    have hg2 : Nat.Coprime (q ^ e) r := (hg.pow_right e).symm
    have h1 : q ^ e ∣ v := hg2.dvd_of_dvd_mul_left (show q ^ e ∣ r * v from by rw [← hv, hc]; exact Nat.dvd_mul_right _ _)
    obtain ⟨m, hm⟩ := h1
    have h2 : c * v = (p - 1) * m := by rw [hm, hc]; simp only [Nat.mul_comm, Nat.mul_left_comm]
    rw [h2]
    exact one_times (by omega) hf m
theorem pow_mul_mod11 (a b k p : Nat) : (a * b) ^ k % p = (a ^ k % p) * (b ^ k % p) % p := by rw [Nat.mul_pow, Nat.mul_mod]
theorem some_list11 {p : Nat} (hp : Prm p) : ∀ Q : List Nat, (∀ q ∈ Q, Prm q ∧ q ∣ p - 1) → ∃ g, ¬ p ∣ g ∧ (∀ q ∈ Q, g ^ ((p - 1) / q) % p ≠ 1) ∧ ∀ r, Prm r → r ∣ p - 1 → r ∉ Q → g ^ ((p - 1) / r) % p = 1 := by
  intro Q
  have hp2 := hp.1
  induction Q with
  | nil => intro _; exact ⟨1, hp.one_not, by simp, fun r _ _ _ => by rw [Nat.one_pow]; exact Nat.mod_eq_of_lt (by omega)⟩
  | cons q Q ih =>
    intro h
    obtain ⟨g, h1, h2, h3⟩ := ih fun x hx => h x (List.mem_cons_of_mem _ hx)
    by_cases hm : q ∈ Q
    · refine ⟨g, h1, fun x hx => ?_, fun r hr hd hn => h3 r hr hd fun h4 => hn (List.mem_cons_of_mem _ h4)⟩
      rcases List.mem_cons.1 hx with rfl | hx
      · exact h2 _ hm
      · exact h2 _ hx
    · obtain ⟨hq, hqd⟩ := h q List.mem_cons_self
      obtain ⟨b, b1, b2, b3⟩ := comp11 hp hq hqd
      refine ⟨g * b, fun hd => (hp.euclid _ _ hd).elim h1 b1, fun x hx => ?_, fun r hr hd hn => ?_⟩
      · rcases List.mem_cons.1 hx with rfl | hx
        · rw [pow_mul_mod11, h3 _ hq hqd hm, Nat.one_mul, Nat.mod_mod]
          exact b2
        · have hxp := h x (List.mem_cons_of_mem _ hx)
          rw [pow_mul_mod11, b3 x hxp.1 hxp.2 (fun e => hm (by rw [← e]; exact hx)), Nat.mul_one, Nat.mod_mod]
          exact h2 x hx
      · rw [pow_mul_mod11, h3 r hr hd fun h4 => hn (List.mem_cons_of_mem _ h4), b3 r hr hd fun e => hn (by rw [e]; exact List.mem_cons_self)]
        exact Nat.mod_eq_of_lt (by omega)
/-- Of each prime from 3 on there is a number from 2 on that shows it. -/
theorem root11 {p : Nat} (hp : Prm p) (h3 : 3 ≤ p) (Q : List Nat) (hQ : ∀ q ∈ Q, Prm q ∧ q ∣ p - 1) (h2 : 2 ∈ Q) : ∃ g, 2 ≤ g ∧ g < p ∧ g ^ (p - 1) % p = 1 ∧ ∀ q ∈ Q, g ^ ((p - 1) / q) % p ≠ 1 := by
  obtain ⟨g, g1, g2, _⟩ := some_list11 hp Q hQ
  have hm : ∀ k, (g % p) ^ k % p = g ^ k % p := fun k => (Nat.pow_mod g k p).symm
  have hlt : g % p < p := Nat.mod_lt _ (by omega)
  have h0 : g % p ≠ 0 := fun h => g1 (Nat.dvd_of_mod_eq_zero h)
  have h1 : g % p ≠ 1 := fun h => by
    have := g2 2 h2
    rw [← hm, h, Nat.one_pow] at this
    exact this (Nat.mod_eq_of_lt (by omega))
  exact ⟨g % p, by omega, hlt, by rw [hm]; exact fermat hp g1, fun q hq => by rw [hm]; exact g2 q hq⟩
end Go.Proofs.YtjpfcdgaepdcdaaGreat
/- pratt.step, walked: it ends, with a number whose powers are all below the prime. Conditions: as typed. -/
namespace Go.Proofs.YtjpfcdgaepdcdaaGreat
open Go.RowKit
set_option maxRecDepth 20000
/-- Blocks of the call's own that are not written any more. -/
def In3 (lo : Nat) (u : World) (gR gS : Nat) (vQ : Value) (b : Nat) : Prop := lo ≤ b ∧ b < u.heap.size ∧ b ≠ gS ∧ b ≠ gR ∧ vQ.ownBlock ≠ some b
/-- The world while a step is made: the result's block, the step's block, what stands in it. -/
structure StepAt (w0 u : World) (gR gS : Nat) (vP vG vQ : Value) (p x : Nat) (qs : List Nat) : Prop where
  bR : Box3 u gR (.slice none 0 0) (.slice none 0 0) (.slice none 0 0)
  bS : Box3 u gS vP vG vQ
  ne : gR ≠ gS
  lo : w0.heap.size ≤ gR ∧ w0.heap.size ≤ gS
  rP : NatS u (In3 w0.heap.size u gR gS vQ) vP (wd p)
  rG : NatS u (In3 w0.heap.size u gR gS vQ) vG (wd x)
  row : ∃ xs, u.ownsRow w0.heap.size 33 1 vQ qs.length xs ∧ ∀ j (hj : j < qs.length), ∃ v, xs[j]? = some v ∧ NatS u (In3 w0.heap.size u gR gS vQ) v (wd qs[j])
  be : Below w0.heap.size w0 u
section
variable {w0 u u' : World} {gR gS : Nat} {vP vG vQ : Value} {p x : Nat} {qs : List Nat}
theorem StepAt.step (h : StepAt w0 u gR gS vP vG vQ p x qs) (b : Below u.heap.size u u') : StepAt w0 u' gR gS vP vG vQ p x qs := by
  have hk : ∀ k, In3 w0.heap.size u gR gS vQ k → u'.heap[k]? = u.heap[k]? := fun k hk => b.block k hk.2.1
  have hS : ∀ k, In3 w0.heap.size u gR gS vQ k → In3 w0.heap.size u' gR gS vQ k := fun k hk => ⟨hk.1, Nat.lt_of_lt_of_le hk.2.1 b.size, hk.2.2⟩
  obtain ⟨xs, h1, h2⟩ := h.row
  refine ⟨h.bR.keep (b.block _ h.bR.lt), h.bS.keep (b.block _ h.bS.lt), h.ne, h.lo, h.rP.keep hk hS, h.rG.keep hk hS, ⟨xs, h1.kept (row := none) ⟨b.os, b.tape, b.output, b.size, fun k hk _ => b.block k hk⟩ (by cases vQ.ownBlock <;> simp), fun j hj => ?_⟩, below_step h.be b⟩
  obtain ⟨v, h3, h4⟩ := h2 j hj
  exact ⟨v, h3, h4.keep hk hS⟩
theorem StepAt.fresh (h : StepAt w0 u gR gS vP vG vQ p x qs) (hle : u.heap.size ≤ u'.heap.size) (k : Nat) (hk : u.heap.size ≤ k ∧ k < u'.heap.size) : In3 w0.heap.size u' gR gS vQ k := by
  obtain ⟨xs, h1, _⟩ := h.row
  have _ := hle
  have h2 := h.bR.lt
  have h3 := h.bS.lt
  have h4 := h.be.size
  refine ⟨by omega, hk.2, by omega, by omega, fun e => ?_⟩
  have := (h1.lt k e).2
  omega
theorem nat_info11 : (Tryz.prog.info? 33).map (fun i => (i.zero, i.size, i.bytes)) = some (some (.slice none 0 0), 1, 24) := by kernel_rfl
/-- Behind a number more. -/
theorem StepAt.append (h : StepAt w0 u gR gS vP vG vQ p x qs) (hq : qs.length ≤ 1000) {X : Option Addr} {nq cq q : Nat} (hv : NatS u (In3 w0.heap.size u gR gS vQ) (.slice X nq cq) (wd q)) :
    ∃ v' u3, (Builtin.append_ #[35, 35] 35 #[vQ, .slice (some ⟨u.heap.size, 0, none⟩) 1 1]).run Tryz.prog (u.alloc (.cells #[.slice X nq cq] 33)) = .ok v' u3 ∧ Box3 u3 gS vP vG vQ ∧ StepAt w0 (u3.setCell ⟨gS, 2, none⟩ v') gR gS vP vG v' p x (qs ++ [q]) := by
  obtain ⟨i0, hi, hz0, hz1, hz2⟩ := info_parts nat_info11
  obtain ⟨xs, own, hel⟩ := h.row
  have hsz := h.be.size
  obtain ⟨v', u3, hrun, own', hg, _, hb'⟩ := run_append_own_at (P := Tryz.prog) (u.alloc (.cells #[.slice X nq cq] 33)) w0.heap.size 35 35 33 i0 (.slice none 0 0) 1 24 Tryz.underlying35 hi hz0 hz1 hz2 rfl (by omega) vQ qs.length xs (own.alloc _)
    ⟨u.heap.size, 0, none⟩ 1 1 [.slice X nq cq] rfl (fun j y hy => by
      cases j with
      | zero =>
        simp at hy
        subst hy
        have := (MapKept.heap_alloc u (.cells #[.slice X nq cq] 33)).1
        unfold World.cell?
        rw [show ((⟨u.heap.size, 0, none⟩ : Addr).add 0) = ⟨u.heap.size, 0, none⟩ from rfl, this]
        rfl
      | succ j => simp at hy) (fun y hy => by rw [List.mem_singleton.1 hy]; rfl) (by unfold maxLen; omega) (by omega) (by simp; omega)
  have hblk : ∀ k, k < u.heap.size → vQ.ownBlock ≠ some k → u3.heap[k]? = u.heap[k]? := fun k hk hne => (hg.block k (by simp; omega) (fun e => hne e.symm)).trans (Below.heap_alloc _ _ _ hk)
  have nS := h.bS.ne_own own
  have nR := h.bR.ne_own own
  have bS3 : Box3 u3 gS vP vG vQ := h.bS.keep (hblk _ h.bS.lt nS)
  have bR3 := h.bR.keep (hblk _ h.bR.lt nR)
  have own3 : u3.ownsRow w0.heap.size 33 1 v' (qs.length + 1) (xs ++ [.slice X nq cq]) := own'
  have hne3 := bS3.ne_own own3
  have hk : ∀ k, In3 w0.heap.size u gR gS vQ k → (u3.setCell ⟨gS, 2, none⟩ v').heap[k]? = u.heap[k]? := fun k hk => (Below.heap_setCell _ _ _ _ hk.2.2.1).trans (hblk k hk.2.1 hk.2.2.2.2)
  have h3s : u.heap.size < u3.heap.size := by have := hg.size; simp at this; omega
  have hS : ∀ k, In3 w0.heap.size u gR gS vQ k → In3 w0.heap.size (u3.setCell ⟨gS, 2, none⟩ v') gR gS v' k := fun k hk => by
    refine ⟨hk.1, by have := hk.2.1; simp [World.setCell]; omega, hk.2.2.1, hk.2.2.2.1, ?_⟩
    rcases hb' with e | e
    · rw [e]; exact hk.2.2.2.2
    · rw [e]; intro e2; injection e2 with e2; have := hk.2.1; simp at e2; omega
  refine ⟨v', u3, hrun, bS3, bR3.keep (Below.heap_setCell _ _ _ _ h.ne), bS3.setQ v', h.ne, h.lo, h.rP.keep hk hS, h.rG.keep hk hS, ⟨xs ++ [.slice X nq cq], ?_, fun j hj => ?_⟩, ?_⟩
  · have := own3.kept (w' := u3.setCell ⟨gS, 2, none⟩ v') (row := some gS) ⟨rfl, rfl, rfl, by simp [World.setCell], fun k _ hk => Below.heap_setCell _ _ _ _ (fun e => hk (by rw [e]))⟩ (.inr hne3)
    simpa using this
  · have hxl : xs.length = qs.length := by have := own.1; omega
    rcases Nat.lt_or_ge j qs.length with h5 | h5
    · obtain ⟨v, h6, h7⟩ := hel j h5
      refine ⟨v, by rw [List.getElem?_append_left (by omega)]; exact h6, ?_⟩
      rw [List.getElem_append_left h5]
      exact h7.keep hk hS
    · have : j = qs.length := by simp at hj; omega
      subst this
      refine ⟨.slice X nq cq, by rw [List.getElem?_append_right (by omega), hxl]; simp, ?_⟩
      rw [List.getElem_append_right (Nat.le_refl _)]
      simpa using hv.keep hk hS
  · refine Below.setCell (Below.grown (h.be.alloc hsz _) hg (by simp; omega) fun k e => (own.lt k e).1) h.lo.2 _
/-- Behind another number in G's place. -/
theorem StepAt.setG (h : StepAt w0 u gR gS vP vG vQ p x qs) {v : Value} {y : Nat} (hv : NatS u (In3 w0.heap.size u gR gS vQ) v (wd y)) : StepAt w0 (u.setCell ⟨gS, 1, none⟩ v) gR gS vP v vQ p y qs := by
  obtain ⟨xs, own, hel⟩ := h.row
  have nS := h.bS.ne_own own
  have hk : ∀ k, In3 w0.heap.size u gR gS vQ k → (u.setCell ⟨gS, 1, none⟩ v).heap[k]? = u.heap[k]? := fun k hk => Below.heap_setCell _ _ _ _ hk.2.2.1
  have hS : ∀ k, In3 w0.heap.size u gR gS vQ k → In3 w0.heap.size (u.setCell ⟨gS, 1, none⟩ v) gR gS vQ k := fun k hk => by
    refine ⟨hk.1, ?_, hk.2.2⟩
    have := hk.2.1
    simpa [World.setCell] using this
  refine ⟨h.bR.keep (Below.heap_setCell _ _ _ _ h.ne), h.bS.setG v, h.ne, h.lo, h.rP.keep hk hS, hv.keep hk hS, ⟨xs, ?_, fun j hj => ?_⟩, h.be.setCell h.lo.2 _⟩
  · exact own.kept (row := some gS) ⟨rfl, rfl, rfl, by simp [World.setCell], fun k _ hk => Below.heap_setCell _ _ _ _ (fun e => hk (by rw [e]))⟩ (.inr nS)
  · obtain ⟨y, h6, h7⟩ := hel j hj
    exact ⟨y, h6, h7.keep hk hS⟩
end
theorem StepAt.row12 {w0 u : World} {gR gS : Nat} {vP vG vQ : Value} {p x : Nat} {qs : List Nat} (h : StepAt w0 u gR gS vP vG vQ p x qs) (hq : qs.length ≤ 1000) : QS u (fun b => (w0.heap.size ≤ b ∧ b < u.heap.size) ∧ b ≠ gR) vQ (qs.map wd) := by
  obtain ⟨xs, own, hel⟩ := h.row
  have nR := h.bR.ne_own own
  obtain ⟨A, c, rfl, hc, _⟩ := own_form own
  refine ⟨A, c, by rw [List.length_map], fun h0 => ?_, by rw [List.length_map]; exact hc, by rw [List.length_map]; omega⟩
  rw [List.length_map] at h0
  rcases own.2 with ⟨h1, h2⟩ | ⟨g, cap, cur, e, hbg, hh, _⟩
  · omega
  · injection e with e1 _ e3
    subst e1 e3
    refine ⟨g, 0, rfl, ⟨⟨hbg, (Array.getElem?_eq_some_iff.1 hh).1⟩, fun e => nR (by rw [e]; rfl)⟩, fun j hj => ?_⟩
    have hj' : j < qs.length := by simpa using hj
    obtain ⟨v, h3, h4⟩ := hel j hj'
    refine ⟨v, ?_, ?_⟩
    · rw [Nat.zero_add, own.cellAt j (by omega)]; exact h3
    · rw [List.getElem_map]
      exact h4.keep (fun _ _ => rfl) fun k hk => ⟨⟨hk.1, hk.2.1⟩, hk.2.2.2.1⟩
theorem StepAt.row11 {w0 u : World} {gR gS : Nat} {vP vG vQ : Value} {p x : Nat} {qs : List Nat} (h : StepAt w0 u gR gS vP vG vQ p x qs) (hq : qs.length ≤ 1000) : QS u (fun b => w0.heap.size ≤ b ∧ b < u.heap.size) vQ (qs.map wd) :=
  (h.row12 hq).keep (fun _ _ => rfl) fun _ h => h.1
/-- One result, that lies in memory. -/
theorem results_box11 {fn : Func} {p : Tmp} {ty : TypeId} (h : fn.results = #[.cell p ty]) (tmps : Array Value) {P : Program} {w : World} {g : Nat} {v : Value} (hp : tmps.getD p undef = .pointer (some ⟨g, 0, none⟩)) (hl : (loadVar ty ⟨g, 0, none⟩).run P w = .ok v w) :
    (results fn tmps).run P w = .ok v w := by
  have e : (results fn tmps).run P w = ((asAddr (tmps.getD p undef)).run P w).andThen fun a w₁ => (loadVar ty a).run P w₁ := by
    simp only [results, h]
    simp [Sem.run_bind, Result.andThen]
  rw [e, hp]
  exact hl
theorem load_box11 {w : World} {g : Nat} {vP vG vQ : Value} (hb : Box3 w g vP vG vQ) : (loadVar 37 ⟨g, 0, none⟩).run Tryz.prog w = .ok (.agg #[vP, vG, vQ]) w := by
  have h0 := hb.cP
  have h1 := hb.cG
  have h2 := hb.cQ
  go_simp
theorem map_wd11 {qs : List Nat} (h : ∀ q ∈ qs, q < 18446744073709551616) : (qs.map wd).map natOf = qs := by
  rw [List.map_map]
  conv => rhs; rw [← List.map_id qs]
  exact List.map_congr_left fun q hq => (okNat_wd11 (h q hq)).2.1
/-- What step answers: a step of p, with the primes, in new memory. -/
def StepOut (p : Nat) (qs : List Nat) (w : World) (e : Ending) (w' : World) : Prop :=
  ∃ vP vG vQ x, e = .returned (.agg #[vP, vG, vQ]) ∧ NatS w' (fun b => w.heap.size ≤ b ∧ b < w'.heap.size) vP (wd p) ∧ NatS w' (fun b => w.heap.size ≤ b ∧ b < w'.heap.size) vG (wd x) ∧ QS w' (fun b => w.heap.size ≤ b ∧ b < w'.heap.size) vQ (qs.map wd) ∧ 2 ≤ x ∧ x < p ∧ Around x p (p - 1) qs ∧ Below w.heap.size w w'
/-- A store into a step's block leaves a row of numbers alone. -/
theorem _root_.Go.Proofs.YtjpfcdgaepdcdaaGreat.Rd.box11 {u : World} {B g : Nat} {A : Option Addr} {l : List Nat} {vP vG vQ : Value} (h : Rd .u64 u B A l) (hb : Box3 u g vP vG vQ) (y : Value) (hv : ∀ k z, (vP = .int k z ∨ vG = .int k z ∨ vQ = .int k z) → False) (i : Nat) : Rd .u64 (u.setCell ⟨g, i, none⟩ y) B A l := fun hl => by
  obtain ⟨b, off, rfl, hlt, hc⟩ := h hl
  refine ⟨b, off, rfl, hlt, fun j hj => ?_⟩
  have hne : b ≠ g := by
    rintro rfl
    have h1 := hc 0 (by omega)
    unfold Box3 at hb
    simp only [World.cell?, hb] at h1
    have h3 : off + 0 < 3 := by
      rcases Nat.lt_or_ge (off + 0) 3 with h | h
      · exact h
      · rw [Array.getElem?_eq_none (show (#[vP, vG, vQ] : Array Value).size ≤ off + 0 from h)] at h1
        cases h1
    have : off = 0 ∨ off = 1 ∨ off = 2 := by omega
    rcases this with rfl | rfl | rfl <;> simp at h1
    · exact hv _ _ (.inl h1)
    · exact hv _ _ (.inr (.inl h1))
    · exact hv _ _ (.inr (.inr h1))
  exact (World.cell?_of_block (a := ⟨b, off + j, none⟩) (Below.heap_setCell _ _ _ _ hne)).trans (hc j hj)
set_option maxHeartbeats 8000000 in
theorem step11 {w : World} {AF : Option Addr} {m c p : Nat} {qs : List Nat} (hF : Rd .u64 w w.heap.size AF qs) (hm : qs.length = m) (hm2 : m ≤ 64) (hp : Prm p) (h3 : 3 ≤ p) (hpl : p < 18446744073709551616) (hQ : ∀ q ∈ qs, Prm q ∧ q ∣ p - 1) (h2 : 2 ∈ qs) :
    Calls Tryz.prog 19 #[.int .u64 p, .slice AF m c] w (StepOut p qs w) := by
  obtain ⟨g0, hg2, hgp, hg1, hgq⟩ := root11 hp h3 qs hQ h2
  have HG0 := Lib.hid (show Around g0 p (p - 1) qs from ⟨hg1, hgq⟩)
  have hql : ∀ q ∈ qs, q < 18446744073709551616 := fun q hq => by
    have := Nat.le_of_dvd (by omega) (hQ q hq).2
    omega
  have HQL := Lib.hid hql
  have HQP := Lib.hid hQ
  have HM := Lib.hid hm
  have HO := Lib.hid fun (u : World) (x : Nat) (hx : x < 18446744073709551616) => bOf u x hx
  obtain ⟨gR, hgR⟩ : ∃ k, w.heap.size = k := ⟨_, rfl⟩
  obtain ⟨W0, hW0⟩ : ∃ W0, w.alloc (.cells #[.slice none 0 0, .slice none 0 0, .slice none 0 0] 37) = W0 := ⟨_, rfl⟩
  have hbR : Box3 W0 gR (.slice none 0 0) (.slice none 0 0) (.slice none 0 0) := by rw [← hW0, ← hgR]; exact Box3.new _ _ _ _
  have hB0 : Below w.heap.size w W0 := by rw [← hW0]; exact (Below.refl _ w).alloc (Nat.le_refl _) _
  have HBR := Lib.hid hbR
  have HB0 := Lib.hid hB0
  have HF0 := Lib.hid hF
  have HF := Lib.hid (hF.below hB0)
  have HGR := Lib.hid hgR
  clear hF hQ hg1 hgq hql hp h2 hB0 hbR hm
  go_enter Tryz.func19, Tryz.ntmps19
  go_wp2_with fail
  refine (HO.out _ p (by omega)).mono ?_
  rintro e u1 ⟨X1, q1, d1, rfl, S1, T1, b1⟩
  have N1 := natS_out S1 T1
  have HB1 := Lib.hid (below_step HB0.out b1)
  have HBR1 := Lib.hid (HBR.out.keep (b1.block _ HBR.out.lt))
  have HF1 := Lib.hid (HF.out.below (b1.mono HB0.out.size))
  have hs1 := b1.size
  have HN1 := Lib.hid N1
  clear S1 T1 b1 N1 hW0
  go_wp2_with fail
  refine (HO.out u1 2 (by omega)).mono ?_
  rintro e u2 ⟨X2, q2, d2, rfl, S2, T2, b2⟩
  obtain ⟨gS, hgS⟩ : ∃ k, u2.heap.size = k := ⟨_, rfl⟩
  have hD : StepAt w (u2.alloc (.cells #[.slice X1 q1 d1, .slice X2 q2 d2, .slice none 0 0] 37)) gR gS (.slice X1 q1 d1) (.slice X2 q2 d2) (.slice none 0 0) p 2 [] := by
    have hsz := HB1.out.size
    have hs2 := b2.size
    have hlt := HBR1.out.lt
    have hlt0 := HBR.out.lt
    have hgr := HGR.out
    have hold : ∀ k, k < u2.heap.size → (u2.alloc (.cells #[.slice X1 q1 d1, .slice X2 q2 d2, .slice none 0 0] 37)).heap[k]? = u2.heap[k]? := fun k hk => Below.heap_alloc _ _ _ hk
    refine ⟨HBR1.out.keep ((hold _ (by omega)).trans (b2.block _ hlt)), by rw [← hgS]; exact Box3.new _ _ _ _, by omega, ⟨by omega, by omega⟩, ?_, ?_, ⟨[], World.ownsRow_nil _ _ _ _, fun j hj => by simp at hj⟩, (below_step HB1.out b2).alloc (by omega) _⟩
    · exact HN1.out.keep (fun k hk => (hold k (by omega)).trans (b2.block k hk.2)) fun k hk => ⟨by omega, by simp; omega, by omega, by omega, by simp [Value.ownBlock]⟩
    · exact (natS_out S2 T2).keep (fun k hk => hold k hk.2) fun k hk => ⟨by omega, by simp; omega, by omega, by omega, by simp [Value.ownBlock]⟩
  have HD := Lib.hid hD
  clear hD S2 T2 b2 HN1
  go_wp2_with fail
  clear hgS
  go_loopw [15] (fun jv wr => ∃ (j : Nat) (vQ : Value), jv = .int .i64 j ∧ j ≤ m ∧ Hid (StepAt w wr gR gS (.slice X1 q1 d1) (.slice X2 q2 d2) vQ p 2 (qs.take j))) (fun jv _ => m - (intOf jv).toNat)
  case atStart => exact ⟨0, .slice none 0 0, rfl, Nat.zero_le _, by rw [List.take_zero]; exact HD⟩
  case round =>
    clear HD
    obtain ⟨j, vQ, rfl, hj, HD⟩ := hrel
    by_cases hlt : j < m
    · have hjq : j < qs.length := by rw [HM.out]; exact hlt
      obtain ⟨gF, oF, hAF, hgF, hcF⟩ := (HF0.out.below HD.out.be) (by rw [HM.out]; omega)
      subst hAF
      have hc := hcF j hjq
      obtain ⟨q, hq⟩ : ∃ q, qs[j] = q := ⟨_, rfl⟩
      rw [nth_eq _ _ hjq, hq] at hc
      have hq64 : q < 18446744073709551616 := by rw [← hq]; exact HQL.out _ (List.getElem_mem hjq)
      obtain ⟨V, hV⟩ : ∃ V, wr.drew = V := ⟨_, rfl⟩
      have HD1 := Lib.hid (show StepAt w V gR gS (.slice X1 q1 d1) (.slice X2 q2 d2) vQ p 2 (qs.take j) by rw [← hV]; exact HD.out.step (Drawn.more 1).below11)
      obtain ⟨xs0, own0, _⟩ := HD1.out.row
      obtain ⟨n0, hn0⟩ : ∃ n, (qs.take j).length = n := ⟨_, rfl⟩
      rw [hn0] at own0
      obtain ⟨A0, c0, rfl, _, _⟩ := own_form own0
      have kQ := HD1.out.bS.cQ
      have hTk := Lib.hid (show qs.take j ++ [q] = qs.take (j + 1) by rw [← hq]; exact (List.take_succ_eq_append_getElem hjq).symm)
      clear hcF hgF hq own0 hn0
      go_wp2_with fail
      refine wp_region_any (by kernel_rfl) ?_
      change wpAny _ _ _ _ _ _ _ wr.drew
      rw [hV]
      clear hV hc
      refine wpAny_takeD (i := 0) (d := 19) (v := .pointer (some ⟨gS, 2, none⟩)) rfl (by kernel_rfl) (by kernel_rfl) (by kernel_rfl) (by kernel_rfl) (fun _ _ _ h => h) (Or.inl ⟨by kernel_rfl, fun W => by go_simp⟩) ?_
      refine wpAny_takeD (i := 2) (d := 21) (v := .int .u64 (q : Int)) rfl (by kernel_rfl) (by kernel_rfl) (by kernel_rfl) (by kernel_rfl) (fun _ _ _ h => h) (Or.inl ⟨by kernel_rfl, fun W => by go_simp⟩) ?_
      refine anyP.toAny (s := 5) (B := fun u => u.cell? ⟨gS, 2, none⟩ = some (.slice A0 n0 c0)) ?_
      refine anyP_take (i := 1) (d := 20) (v := .slice A0 n0 c0) rfl rfl (by kernel_rfl) (by kernel_rfl) (by kernel_rfl) (by kernel_rfl) (by kernel_rfl) (by kernel_rfl) (fun _ _ _ h => h) ⟨by kernel_rfl, fun W hW => by go_simp⟩ ?_
      refine anyP_one (i := 3) (by kernel_rfl) rfl (fun _ => kQ) (fun K hK => ?_)
      go_simp
      refine (HO.out V q (by omega)).mono ?_
      rintro e u3 ⟨X3, q3, d3, rfl, S3, T3, b3⟩
      have HD2 := Lib.hid (HD1.out.step b3)
      have hN3 := (natS_out S3 T3).keep (fun _ _ => rfl) (fun k hk => HD1.out.fresh b3.size k hk)
      obtain ⟨v4, u4, hrun, hbx, hD4⟩ := HD2.out.append (by rw [List.length_take]; omega) hN3
      have kQ3 := HD2.out.bS.cQ
      have kQ4 : (u3.alloc (.cells #[.slice X3 q3 d3] 33)).cell? ⟨gS, 2, none⟩ = some (.slice A0 n0 c0) := (HD2.out.bS.keep (Below.heap_alloc _ _ _ HD2.out.bS.lt)).cQ
      have kB := hbx.cQ
      have kF := hbx.soft 2
      have HD4 := Lib.hid (show StepAt w (u4.setCell ⟨gS, 2, none⟩ v4) gR gS (.slice X1 q1 d1) (.slice X2 q2 d2) v4 p 2 (qs.take (j + 1)) by rw [← hTk.out]; exact hD4)
      have hX4 := HD4.out.row
      clear S3 T3 b3 hN3 hD4 hbx kQ HD1
      obtain ⟨xs4, own4, _⟩ := hX4
      obtain ⟨n4, hn4⟩ : ∃ n, (qs.take (j + 1)).length = n := ⟨_, rfl⟩
      rw [hn4] at own4
      obtain ⟨A4, c4, rfl, _, _⟩ := own_form own4
      clear hn4
      clear own4
      refine hK _ _ ?_
      clear hK K
      refine anyP_one (i := 4) (by kernel_rfl) rfl (fun _ => kQ3) (fun K hK => ?_)
      go_simp
      refine hK _ _ ?_
      clear hK K
      refine anyP_one (i := 5) (by kernel_rfl) rfl (fun _ => kQ4) (fun K hK => ?_)
      rw [if_pos (by kernel_rfl)]
      refine op_append11 _ _ _ rfl _ _ rfl rfl hrun ?_
      refine hK _ _ ?_
      clear hK K hrun kQ3 kQ4
      refine anyP_one (i := 6) (by kernel_rfl) rfl (fun h => by cases h) (fun K hK => ?_)
      go_simp
      refine hK _ _ ?_
      clear hK K
      refine anyP_one (i := 7) (by kernel_rfl) rfl (fun h => by cases h) (fun K hK => ?_)
      go_simp
      refine hK _ _ ?_
      clear hK K kB kF
      refine anyP_done (by kernel_rfl) (by kernel_rfl) ?_
      go_step
      go_simp
      go_wp2_with fail
      go_roundw
      case rel => exact ⟨j + 1, _, by go_num, by omega, HD4⟩
      case measure => simp [intOf]; omega
    · obtain rfl : j = m := by omega
      have HD1 := Lib.hid (show StepAt w wr gR gS (.slice X1 q1 d1) (.slice X2 q2 d2) vQ p 2 qs by have := HD.out; rwa [List.take_of_length_le (by rw [HM.out]; exact Nat.le_refl _)] at this)
      obtain ⟨pm, hpm⟩ : ∃ k, p - 1 = k := ⟨_, rfl⟩
      have hpmI : (p : Int) - 1 = (pm : Int) := by omega
      clear HD
      go_wp2_with fail
      refine (HO.out wr pm (by omega)).mono ?_
      rintro e u5 ⟨X5, q5, d5, rfl, S5, T5, b5⟩
      have HD5 := Lib.hid (HD1.out.step b5)
      have HS5 := Lib.hid S5
      have HPM := Lib.hid hpm
      clear S5 T5 b5 HD1 hpmI hpm
      go_wp2_with fail
      obtain ⟨xsQ, ownQ, _⟩ := HD5.out.row
      obtain ⟨AQ, cQ, rfl, _, _⟩ := own_form ownQ
      clear ownQ
      obtain ⟨nQ, hnQ⟩ : ∃ k, qs.length = k := ⟨_, rfl⟩
      rw [hnQ] at HD5
      clear hnQ
      go_loopg [] (g0 - 2) (fun k wr => ∃ (x : Nat) (vG : Value) (X : Option Addr) (nG cG : Nat), vG = .slice X nG cG ∧ 2 ≤ x ∧ x ≤ g0 ∧ g0 - x ≤ k ∧ Hid (StepAt w wr gR gS (.slice X1 q1 d1) vG (.slice AQ nQ cQ) p x qs) ∧ Hid (NatIs wr X5 q5 d5 pm))
      case atStart => exact ⟨2, _, X2, q2, d2, rfl, Nat.le_refl _, hg2, Nat.le_refl _, HD5, HS5⟩
      case round =>
        clear HD5 HS5
        obtain ⟨x, vG, X, nG, cG, rfl, hx2, hxg, hxk, HD, HS⟩ := hrel
        have kP := HD.out.bS.cP
        have kG := HD.out.bS.cG
        have kQ := HD.out.bS.cQ
        have hsz := HD.out.be.size
        have hin : ∀ b, In3 w.heap.size wr gR gS (.slice AQ nQ cQ) b → b < wr.heap.size := fun b h => h.2.1
        obtain ⟨bA, hbA⟩ := some_flag11 (Around x p pm qs)
        have nb : ∀ y, y < 18446744073709551616 → nbits y ≤ 1024 := fun y hy => by have := nbits_of_lt y 64 hy; omega
        have CA := Lib.hid (goesAround11 HS.out (HD.out.rP.is11 hin (nb p (by omega))) (HD.out.rG.is11 hin (nb x (by omega))) ((HD.out.row11 (by rw [HM.out]; omega)).rd (fun b h => h.2)) (by omega) (nb p (by omega)) (nb x (by omega)) (nb pm (by have := HPM.out; omega))
          (fun l hl => by
            obtain ⟨q, hq, rfl⟩ := List.mem_map.1 hl
            obtain ⟨o1, o2, o3⟩ := okNat_wd11 (HQL.out q hq)
            exact ⟨o1, by omega, by rw [o2]; have := (HQP.out q hq).1.1; omega⟩) bA (by rw [map_wd11 HQL.out]; exact hbA))
        have HBA := Lib.hid (show (fun (_ : Unit) => bA = true ↔ Around x p pm qs) () from hbA)
        clear hbA hin nb
        go_wp2_with fail
        refine (CA.out).mono ?_
        rintro e u6 ⟨rfl, b6⟩
        have HD6 := Lib.hid (HD.out.step b6)
        have HS6 := Lib.hid (HS.out.step b6)
        clear b6 CA kP kG kQ hsz HD HS
        cases bA
        · have hxne : x ≠ g0 := fun h => by
            have h1 := HG0.out
            rw [HPM.out, ← h] at h1
            have h2 := HBA.out.2 h1
            cases h2
          obtain ⟨V, hV⟩ : ∃ V, u6.drew = V := ⟨_, rfl⟩
          have HD7 := Lib.hid (show StepAt w V gR gS (.slice X1 q1 d1) (.slice X nG cG) (.slice AQ nQ cQ) p x qs by rw [← hV]; exact HD6.out.step (Drawn.more 1).below11)
          have HS7 := Lib.hid (show NatIs V X5 q5 d5 pm by rw [← hV]; exact HS6.out.step (Drawn.more 1).below11)
          have kG := HD7.out.bS.cG
          clear HD6 HS6
          go_wp2_with fail
          refine wp_region_any (by kernel_rfl) ?_
          change wpAny _ _ _ _ _ _ _ u6.drew
          rw [hV]
          clear hV
          refine wpAny_takeD (i := 0) (d := 34) (v := .pointer (some ⟨gS, 1, none⟩)) rfl (by kernel_rfl) (by kernel_rfl) (by kernel_rfl) (by kernel_rfl) (fun _ _ _ h => h) (Or.inl ⟨by kernel_rfl, fun W => by go_simp⟩) ?_
          refine anyP.toAny (s := 3) (B := fun u => u.cell? ⟨gS, 1, none⟩ = some (.slice X nG cG)) ?_
          refine anyP_take (i := 1) (d := 35) (v := .slice X nG cG) rfl rfl (by kernel_rfl) (by kernel_rfl) (by kernel_rfl) (by kernel_rfl) (by kernel_rfl) (by kernel_rfl) (fun _ _ _ h => h) ⟨by kernel_rfl, fun W hW => by go_simp⟩ ?_
          refine anyP_one (i := 2) (by kernel_rfl) rfl (fun _ => kG) (fun K hK => ?_)
          go_simp
          refine (HO.out V 1 (by omega)).mono ?_
          rintro e v3 ⟨Y3, r3, f3, rfl, S3, _, b3⟩
          have HD8 := Lib.hid (HD7.out.step b3)
          have HS8 := Lib.hid (HS7.out.step b3)
          have kG3 := HD8.out.bS.cG
          have hx1 := HD8.out.rG.is11 (fun b h => h.2.1) (by have := nbits_of_lt x 64 (by omega); omega)
          have CAd := Lib.hid (bAdd hx1.in_ S3.in_ (by have h1 := hx1.len11 (by have := nbits_of_lt x 64 (by omega); omega); have h2 := S3.len11 (by have := nbits_of_lt 1 64 (by omega); omega); omega))
          clear S3 b3 kG HD7 HS7 hx1
          refine hK _ _ ?_
          clear hK K
          refine anyP_one (i := 3) (by kernel_rfl) rfl (fun _ => kG3) (fun K hK => ?_)
          go_simp
          refine (CAd.out).mono ?_
          rintro e v4 ⟨Y4, r4, f4, rfl, S4, T4, b4⟩
          have HD9 := Lib.hid (HD8.out.step b4)
          have HS9 := Lib.hid (HS8.out.step b4)
          have HDa := Lib.hid (HD9.out.setG ((natS_out S4 T4).keep (fun _ _ => rfl) (fun k hk => HD8.out.fresh b4.size k hk)))
          have HSa := Lib.hid (show NatIs (v4.setCell ⟨gS, 1, none⟩ (.slice Y4 r4 f4)) X5 q5 d5 pm from by
            obtain ⟨s1, s2, s3, s4⟩ := HS9.out
            exact ⟨s1, s2, by have := s3.box11 HD9.out.bS (.slice Y4 r4 f4) (by rintro k y (h | h | h) <;> cases h) 1; simpa [World.setCell] using this, s4⟩)
          have kB := HD9.out.bS.cG
          have kF := HD9.out.bS.soft 1
          clear S4 T4 b4 CAd HD8 HS8 kG3
          refine hK _ _ ?_
          clear hK K
          refine anyP_one (i := 4) (by kernel_rfl) rfl (fun h => by cases h) (fun K hK => ?_)
          go_simp
          refine hK _ _ ?_
          clear hK K
          refine anyP_one (i := 5) (by kernel_rfl) rfl (fun h => by cases h) (fun K hK => ?_)
          go_simp
          refine hK _ _ ?_
          clear hK K kB kF
          refine anyP_done (by kernel_rfl) (by kernel_rfl) ?_
          go_step
          go_simp
          go_wp2_with fail
          go_roundg (g0 - (x + 1))
          case rel => exact ⟨x + 1, _, Y4, r4, f4, rfl, by omega, by omega, Nat.le_refl _, HDa, HSa⟩
          case measure => omega
        · have HA := Lib.hid (show Around x p (p - 1) qs by rw [HPM.out]; exact HBA.out.1 rfl)
          have kP := HD6.out.bS.cP
          have kG := HD6.out.bS.cG
          have kQ := HD6.out.bS.cQ
          have rP := HD6.out.bR.cP
          have rG := HD6.out.bR.cG
          have rQ := HD6.out.bR.cQ
          have f0 := HD6.out.bR.soft 0
          have f1 := HD6.out.bR.soft 1
          have f2 := HD6.out.bR.soft 2
          go_wp2_with fail
          go_simp
          refine bodyPost_ret (results_box11 (p := 4) rfl _ rfl (load_box11 ((HD6.out.bR.setP (.slice X1 q1 d1)).setG (.slice X nG cG) |>.setQ (.slice AQ nQ cQ)))) rfl ?_
          have hk : ∀ k, k ≠ gR → (((u6.setCell ⟨gR, 0, none⟩ (.slice X1 q1 d1)).setCell ⟨gR, 1, none⟩ (.slice X nG cG)).setCell ⟨gR, 2, none⟩ (.slice AQ nQ cQ)).heap[k]? = u6.heap[k]? := fun k hk => by
            rw [Below.heap_setCell _ _ _ _ hk, Below.heap_setCell _ _ _ _ hk, Below.heap_setCell _ _ _ _ hk]
          have hz : (((u6.setCell ⟨gR, 0, none⟩ (.slice X1 q1 d1)).setCell ⟨gR, 1, none⟩ (.slice X nG cG)).setCell ⟨gR, 2, none⟩ (.slice AQ nQ cQ)).heap.size = u6.heap.size := by simp [World.setCell]
          have hS : ∀ k, In3 w.heap.size u6 gR gS (.slice AQ nQ cQ) k → w.heap.size ≤ k ∧ k < (((u6.setCell ⟨gR, 0, none⟩ (.slice X1 q1 d1)).setCell ⟨gR, 1, none⟩ (.slice X nG cG)).setCell ⟨gR, 2, none⟩ (.slice AQ nQ cQ)).heap.size := fun k hk => ⟨hk.1, by rw [hz]; exact hk.2.1⟩
          refine ⟨_, _, _, x, rfl, HD6.out.rP.keep (fun k h => hk k h.2.2.2.1) hS, HD6.out.rG.keep (fun k h => hk k h.2.2.2.1) hS, ?_, hx2, by omega, HA.out, ?_⟩
          · exact (HD6.out.row12 (by rw [HM.out]; omega)).keep (fun k h => hk k h.2) fun k h => ⟨h.1.1, by rw [hz]; exact h.1.2⟩
          · exact ((HD6.out.be.setCell HD6.out.lo.1 _).setCell HD6.out.lo.1 _).setCell HD6.out.lo.1 _
end Go.Proofs.YtjpfcdgaepdcdaaGreat
/- A row of words that a call sorts in place: the world behind draws, swaps and new blocks; steps of the plain sorting loops. Conditions: the row lies in a block that was there. No program is named. -/
namespace Go.Proofs.YtjpfcdgaepdcdaaGreat
open Go.RowKit Go.Sort
/-- The row at blk, off holds dk in wr, which is w but for that row, draws and new blocks. -/
def RowG (w : World) (blk off : Nat) (d : Array Int) (wr : World) (dk : Array Int) : Prop := dk.size = d.size ∧ ∃ n os, wr = grow (putRow (Value.int .u64) (Sort.ahead w n) blk off dk) os
/-- Which row: its cells, none frozen, in a block that was there. -/
structure RowOf (w : World) (blk off : Nat) (d : Array Int) : Prop where
  holds : Holds (Value.int .u64) w blk off d
  old : blk < w.heap.size
  fits : d.size < 4611686018427387904
section
variable {w wr : World} {blk off : Nat} {d dk : Array Int}
theorem RowG.self (H : RowOf w blk off d) : RowG w blk off d w d := ⟨rfl, 0, #[], by rw [grow_empty, ahead_zero]; exact (putRow_self _ _ _ _ _ H.holds).symm⟩
theorem RowG.of (H : RowOf w blk off d) (h : RowG w blk off d wr dk) : RowOf wr blk off dk := by
  obtain ⟨hs, n, os, rfl⟩ := h
  refine ⟨holds_grow _ _ _ _ _ _ (by simpa using H.old) (holds_putRow _ _ _ _ d dk (holds_ahead _ _ _ _ _ _ H.holds) hs), ?_, by rw [hs]; exact H.fits⟩
  have := H.old
  simp
  omega
theorem RowG.size (h : RowG w blk off d wr dk) : w.heap.size ≤ wr.heap.size := by
  obtain ⟨_, n, os, rfl⟩ := h
  simp
/-- The cells under a name of their own. -/
theorem RowOf.cells (H : RowOf w blk off d) : ∃ G : Nat → Int, Hid (∀ t, G t = d[t]!) ∧ (∀ t, t < d.size → w.cell? ⟨blk, off + t, none⟩ = some (.int .u64 (G t))) ∧ (∀ t, t < d.size → w.frozen? ⟨blk, off + t, none⟩ = false) :=
  ⟨fun t => d[t]!, fun _ => rfl, fun t ht => (H.holds t ht).1, fun t ht => (H.holds t ht).2⟩
theorem RowOf.cellAt (H : RowOf w blk off d) {G : Nat → Int} (hG : Hid (∀ t, G t = d[t]!)) : ∀ t, t < d.size → w.cell? ⟨blk, off + t, none⟩ = some (.int .u64 (G t)) := fun t ht => by rw [hG.out]; exact (H.holds t ht).1
theorem RowOf.soft (H : RowOf w blk off d) : ∀ t, t < d.size → w.frozen? ⟨blk, off + t, none⟩ = false := fun t ht => (H.holds t ht).2
theorem name_cells (d : Array Int) : ∃ G : Nat → Int, Hid (∀ t, G t = d[t]!) := ⟨fun t => d[t]!, fun _ => rfl⟩
theorem RowG.drew (h : RowG w blk off d wr dk) (q : Nat) : RowG w blk off d (wr.drewN q) dk := by
  obtain ⟨hs, n, os, rfl⟩ := h
  refine ⟨hs, n + q, os, ?_⟩
  rw [← ahead_ahead]
  rfl
theorem RowG.set (H : RowOf w blk off d) (h : RowG w blk off d wr dk) (i : Nat) (x : Int) (hi : i < dk.size) : RowG w blk off d (wr.setCell ⟨blk, off + i, none⟩ (.int .u64 x)) (dk.setIfInBounds i x) := by
  obtain ⟨hs, n, os, rfl⟩ := h
  refine ⟨by simpa using hs, n, os, ?_⟩
  rw [setCell_eq, mapBlock_grow _ _ _ _ (by simpa using H.old), ← setCell_eq]
  exact congrArg (grow · os) (putRow_set (Value.int .u64) _ blk off dk i x hi)
/-- data[j], data[k] = data[k], data[j] -/
theorem RowG.swap (H : RowOf w blk off d) (h : RowG w blk off d wr dk) {G : Nat → Int} (hG : Hid (∀ t, G t = dk[t]!)) (q j k : Nat) (hj : j < dk.size) (hk : k < dk.size) :
    RowG w blk off d (((wr.drewN q).setCell ⟨blk, off + j, none⟩ (.int .u64 (G k))).setCell ⟨blk, off + k, none⟩ (.int .u64 (G j))) (swp dk j k) := by
  rw [hG.out, hG.out]
  exact RowG.set H (RowG.set H (h.drew q) j _ hj) k _ (by simpa using hk)
/-- .. as a walk writes it behind one draw. -/
theorem RowG.swapD (H : RowOf w blk off d) (h : RowG w blk off d wr dk) {G : Nat → Int} (hG : Hid (∀ t, G t = dk[t]!)) (j k : Nat) (hj : j < dk.size) (hk : k < dk.size) :
    RowG w blk off d ((wr.setCell ⟨blk, off + j, none⟩ (.int .u64 (G k))).setCell ⟨blk, off + k, none⟩ (.int .u64 (G j))).drew (swp dk j k) := by
  have := RowG.drew (RowG.swap H h hG 0 j k hj hk) 1
  exact this
theorem RowG.trans (H : RowOf w blk off d) (h : RowG w blk off d wr dk) {w2 : World} {d2 : Array Int} (k : RowG wr blk off dk w2 d2) : RowG w blk off d w2 d2 := by
  obtain ⟨hs, n, os, rfl⟩ := h
  obtain ⟨ks, m, os2, rfl⟩ := k
  exact ⟨ks.trans hs, n + m, os ++ os2, grow_step_grow _ _ _ _ _ _ _ _ _ _ H.old ks⟩
theorem RowG.alloc (h : RowG w blk off d wr dk) (o : Obj) : RowG w blk off d (wr.alloc o) dk := by
  obtain ⟨hs, n, os, rfl⟩ := h
  exact ⟨hs, n, os ++ #[o], by rw [alloc_eq_grow, grow_grow]⟩
/-- A store into a block that was not there. -/
theorem RowG.fresh (h : RowG w blk off d wr dk) {g : Nat} (hg : w.heap.size ≤ g) (i : Nat) (v : Value) : RowG w blk off d (wr.setCell ⟨g, i, none⟩ v) dk := by
  obtain ⟨hs, n, os, rfl⟩ := h
  refine ⟨hs, n, os.modify (g - (putRow (Value.int .u64) (Sort.ahead w n) blk off dk).heap.size) (onCells (·.setIfInBounds i v)), ?_⟩
  rw [setCell_eq]
  exact mapBlock_grow_new _ _ _ _ (by simpa using hg)
end
def intOf7 : Value → Int | .int _ q => q | _ => 0
section
variable {lt : Int → Int → Bool}
theorem insInner_go7 {a j : Nat} {d : Array Int} (hj : a < j) (hl : lt d[j]! d[j - 1]! = true) : insInner lt a j d = insInner lt a (j - 1) (swp d j (j - 1)) := by
  obtain ⟨k, rfl⟩ : ∃ k, j = k + 1 := ⟨j - 1, by omega⟩
  simp only [Nat.add_sub_cancel] at hl ⊢
  rw [insInner, if_pos]
  simp [hj, hl]
theorem insInner_stop7 {a j : Nat} {d : Array Int} (h : j ≤ a ∨ lt d[j]! d[j - 1]! = false) : insInner lt a j d = d := by
  cases j with
  | zero => rfl
  | succ k =>
    rw [insInner, if_neg]
    simp only [Nat.add_sub_cancel] at h
    rcases h with h | h
    · simp [show ¬ k + 1 > a by omega]
    · simp [h]
theorem insOuter_go7 {a b i : Nat} {d : Array Int} (h : i < b) : insOuter lt a b i d = insOuter lt a b (i + 1) (insInner lt a i d) := by rw [insOuter, if_pos h]
theorem insOuter_stop7 {a b i : Nat} {d : Array Int} (h : ¬ i < b) : insOuter lt a b i d = d := by rw [insOuter, if_neg h]
theorem scanUp_go7 {p : Int → Bool} {d : Array Int} {j i : Nat} (h : i ≤ j) (hp : p d[i]! = true) : scanUp p d j i = scanUp p d j (i + 1) := by rw [scanUp, if_pos (by simp [h, hp])]
theorem scanUp_stop7 {p : Int → Bool} {d : Array Int} {j i : Nat} (h : j < i ∨ p d[i]! = false) : scanUp p d j i = i := by
  rw [scanUp, if_neg]
  rcases h with h | h
  · simp; intro h2; omega
  · simp [h]
theorem scanDown_go7 {p : Int → Bool} {d : Array Int} {i m : Nat} (h : i ≤ m) (h0 : 0 < m) (hp : p d[m]! = true) : scanDown p d i m = scanDown p d i (m - 1) := by
  obtain ⟨k, rfl⟩ : ∃ k, m = k + 1 := ⟨m - 1, by omega⟩
  rw [scanDown, if_pos (by simp [h, hp]), Nat.add_sub_cancel]
theorem scanDown_stop7 {p : Int → Bool} {d : Array Int} {i m : Nat} (h : m < i ∨ p d[m]! = false) : scanDown p d i m = m := by
  cases m with
  | zero => rfl
  | succ k =>
    rw [scanDown, if_neg]
    rcases h with h | h
    · simp; intro h2; omega
    · simp [h]
theorem partLoop_end7 {a i j k m : Nat} {d : Array Int} (hU : scanUp (fun x => lt x d[a]!) d j i = k) (hD : scanDown (fun x => !lt x d[a]!) d k j = m) (h : m < k) : partLoop lt a i j d = (m, d) := by
  rw [partLoop_eq, hU, hD, if_pos h]
theorem partLoop_on7 {a i j k m : Nat} {d : Array Int} (hU : scanUp (fun x => lt x d[a]!) d j i = k) (hD : scanDown (fun x => !lt x d[a]!) d k j = m) (h : ¬ m < k) : partLoop lt a i j d = partLoop lt a (k + 1) (m - 1) (swp d k m) := by
  rw [partLoop_eq, hU, hD, if_neg h]
theorem partEqLoop_end7 {a i j k m : Nat} {d : Array Int} (hU : scanUp (fun x => !lt d[a]! x) d j i = k) (hD : scanDown (fun x => lt d[a]! x) d k j = m) (h : m < k) : partEqLoop lt a i j d = (k, d) := by
  rw [partEqLoop_eq, hU, hD, if_pos h]
theorem partEqLoop_on7 {a i j k m : Nat} {d : Array Int} (hU : scanUp (fun x => !lt d[a]! x) d j i = k) (hD : scanDown (fun x => lt d[a]! x) d k j = m) (h : ¬ m < k) : partEqLoop lt a i j d = partEqLoop lt a (k + 1) (m - 1) (swp d k m) := by
  rw [partEqLoop_eq, hU, hD, if_neg h]
end
end Go.Proofs.YtjpfcdgaepdcdaaGreat
/- slices.Sort's parts at []uint64: cmp.Less, insertionSortOrdered. Conditions: the row lies in a block that was there, and has fewer than 2^62 elements. -/
namespace Go.Proofs.YtjpfcdgaepdcdaaGreat
open Go.RowKit Go.Sort
set_option maxRecDepth 20000
set_option maxHeartbeats 1000000 in
theorem isNaN7 (x : Int) (w : World) : Calls Tryz.prog 70 #[.int .u64 x] w fun e w' => e = .returned (.bool false) ∧ w' = w := by
  go_enter Tryz.func70, Tryz.ntmps70
  go_wp2_with fail
  go_ret
  exact ⟨by simp, rfl⟩
set_option maxHeartbeats 1000000 in
theorem less7 (x y : Int) (w : World) : Calls Tryz.prog 91 #[.int .u64 x, .int .u64 y] w fun e w' => e = .returned (.bool (ltInt x y)) ∧ w' = w := by
  go_enter Tryz.func91, Tryz.ntmps91
  go_wp2_with (go_at_call 70; refine (isNaN7 _ _).mono ?_; rintro e w' ⟨rfl, rfl⟩)
  go_ret
  exact ⟨rfl, rfl⟩
set_option maxHeartbeats 8000000 in
theorem insertionSort7 (blk off cap n a b : Nat) (d : Array Int) (w : World) (H : RowOf w blk off d) (hn : d.size = n) (hab : a ≤ b) (hb : b ≤ n) :
    Calls Tryz.prog 85 #[.slice (some ⟨blk, off, none⟩) n cap, .int .i64 a, .int .i64 b] w fun e w' => e = .returned (.tuple #[]) ∧ RowG w blk off d w' (insertionSort ltInt d a b) := by
  subst hn
  have HH := Lib.hid H
  have hsz := H.fits
  clear H
  go_enter Tryz.func85, Tryz.ntmps85
  go_wp2_with fail
  go_loopw [6] (fun vi wr => ∃ (i : Nat) (dk : Array Int), vi = .int .i64 i ∧ a < i ∧ i ≤ b + 1 ∧ Hid (RowG w blk off d wr dk) ∧ Hid (insOuter ltInt a b i dk = insOuter ltInt a b (a + 1) d)) (fun vi _ => b + 1 - (intOf7 vi).toNat)
  case atStart => exact ⟨a + 1, d, by go_num, by omega, by omega, Lib.hid (RowG.self HH.out), Lib.hid rfl⟩
  case round =>
    obtain ⟨i, dk, rfl, hai, hib, HR, HO⟩ := hrel
    by_cases hlt : i < b
    · have hsk := HR.out.1
      go_wp2_with fail
      go_loopw [7] (fun vj wr2 => ∃ (j : Nat) (dj : Array Int), vj = .int .i64 j ∧ a ≤ j ∧ j ≤ i ∧ Hid (RowG w blk off d wr2 dj) ∧ Hid (insInner ltInt a j dj = insInner ltInt a i dk)) (fun vj _ => (intOf7 vj).toNat)
      case atStart => exact ⟨i, dk, rfl, by omega, Nat.le_refl _, HR, Lib.hid rfl⟩
      case round =>
        obtain ⟨j, dj, rfl, haj, hji, HR2, HI⟩ := hrel
        have hsj := HR2.out.1
        obtain ⟨G, HG, hcw, hfw⟩ := (HR2.out.of HH.out).cells
        rw [hsj] at hcw hfw
        have OUT := Lib.hid (show (j ≤ a ∨ ltInt dj[j]! dj[j - 1]! = false) → insOuter ltInt a b (i + 1) dj = insOuter ltInt a b (a + 1) d from fun hs => by
          rw [← HO.out, insOuter_go7 hlt, ← HI.out, insInner_stop7 hs])
        have IN := Lib.hid (show a < j → ltInt dj[j]! dj[j - 1]! = true → insInner ltInt a (j - 1) (swp dj j (j - 1)) = insInner ltInt a i dk from fun h1 h2 => by
          rw [← HI.out, insInner_go7 h1 h2])
        clear HI
        by_cases hja : a < j
        · go_wp2_with fail
          go_quiet ((go_at_call 91; refine Calls.quiet_of_same (less7 _ _ _)))
          go_wp2_with fail
          · have hl : ltInt (G j) (G (j - 1)) = true := by assumption
            go_region
            all_goals go_wp2_with fail
            go_roundw
            case rel => exact ⟨j - 1, swp dj j (j - 1), by congr 1; omega, by omega, by omega, Lib.hid (HR2.out.swap HH.out HG (nq + 1) j (j - 1) (by omega) (by omega)), Lib.hid (IN.out hja (by rw [← HG.out, ← HG.out]; exact hl))⟩
            case measure => simp [intOf7]; omega
          · have hl : ltInt (G j) (G (j - 1)) = false := by assumption
            go_roundw
            case rel => exact ⟨i + 1, dj, by go_num, by omega, by omega, Lib.hid (HR2.out.drew _), Lib.hid (OUT.out (Or.inr (by rw [← HG.out, ← HG.out]; exact hl)))⟩
            case measure => simp [intOf7]; omega
        · go_wp2_with fail
          go_quiet ((go_at_call 91; refine Calls.quiet_of_same (less7 _ _ _)))
          go_wp2_with fail
          go_roundw
          case rel => exact ⟨i + 1, dj, by go_num, by omega, by omega, Lib.hid (HR2.out.drew _), Lib.hid (OUT.out (Or.inl (by omega)))⟩
          case measure => simp [intOf7]; omega
    · go_wp2_with fail
      go_end0
      exact ⟨rfl, by unfold insertionSort; rw [← HO.out, insOuter_stop7 hlt]; exact HR.out⟩
end Go.Proofs.YtjpfcdgaepdcdaaGreat

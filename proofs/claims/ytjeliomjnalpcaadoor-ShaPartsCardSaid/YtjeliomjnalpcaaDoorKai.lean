/- Several texts in one; each begins with a remark that says what it shows and on which conditions. -/
import Derived.Test.YtjeliomjnalpcaaDoorKag
import Derived.Test.YtjeliomjnalpcaaDoorKah
/- The document's SHA-256. Conditions: as typed. -/
namespace Go.Proofs.YtjeliomjnalpcaaDoor
open Go.RowKit
set_option maxRecDepth 20000
theorem or32 (a b : Nat) (ha : a < 4294967296) (hb : b < 4294967296) : bits .or .u32 (a : Int) (b : Int) = ((a ||| b : Nat) : Int) := by
  have hx : a ||| b < 2 ^ 32 := Nat.or_lt_two_pow (by omega) (by omega)
  have h1 : (BitVec.ofInt 32 (a : Int)).toNat = a := by rw [BitVec.ofInt_natCast, BitVec.toNat_ofNat]; exact Nat.mod_eq_of_lt (by omega)
  have h2 : (BitVec.ofInt 32 (b : Int)).toNat = b := by rw [BitVec.ofInt_natCast, BitVec.toNat_ofNat]; exact Nat.mod_eq_of_lt (by omega)
  show IntKind.u32.wrap ((BitVec.ofInt 32 (a : Int) ||| BitVec.ofInt 32 (b : Int)).toNat : Int) = _
  rw [BitVec.toNat_or, h1, h2, IntKind.wrap_u32]
  omega
theorem xor32 (a b : Nat) (ha : a < 4294967296) (hb : b < 4294967296) : bits .xor .u32 (a : Int) (b : Int) = ((a ^^^ b : Nat) : Int) := by
  have hx : a ^^^ b < 2 ^ 32 := Nat.xor_lt_two_pow (by omega) (by omega)
  have h1 : (BitVec.ofInt 32 (a : Int)).toNat = a := by rw [BitVec.ofInt_natCast, BitVec.toNat_ofNat]; exact Nat.mod_eq_of_lt (by omega)
  have h2 : (BitVec.ofInt 32 (b : Int)).toNat = b := by rw [BitVec.ofInt_natCast, BitVec.toNat_ofNat]; exact Nat.mod_eq_of_lt (by omega)
  show IntKind.u32.wrap ((BitVec.ofInt 32 (a : Int) ^^^ BitVec.ofInt 32 (b : Int)).toNat : Int) = _
  rw [BitVec.toNat_xor, h1, h2, IntKind.wrap_u32]
  omega
theorem and32 (a b : Nat) (ha : a < 4294967296) (hb : b < 4294967296) : bits .and .u32 (a : Int) (b : Int) = ((a &&& b : Nat) : Int) := by
  have hx : a &&& b < 2 ^ 32 := Nat.and_lt_two_pow _ (by omega)
  have h1 : (BitVec.ofInt 32 (a : Int)).toNat = a := by rw [BitVec.ofInt_natCast, BitVec.toNat_ofNat]; exact Nat.mod_eq_of_lt (by omega)
  have h2 : (BitVec.ofInt 32 (b : Int)).toNat = b := by rw [BitVec.ofInt_natCast, BitVec.toNat_ofNat]; exact Nat.mod_eq_of_lt (by omega)
  show IntKind.u32.wrap ((BitVec.ofInt 32 (a : Int) &&& BitVec.ofInt 32 (b : Int)).toNat : Int) = _
  rw [BitVec.toNat_and, h1, h2, IntKind.wrap_u32]
  omega
theorem rot32_lt (x k : Nat) (hx : x < 4294967296) : rot32 x k < 4294967296 := by
  have h1 := Nat.div_le_self x (2 ^ k)
  have h2 := Nat.mod_lt (x * 2 ^ (32 - k)) (show 0 < 4294967296 by omega)
  exact Nat.or_lt_two_pow (n := 32) (by omega) h2
theorem r07 (x k : Nat) (hx : x < 4294967296) (hk : k ≤ 32) (w : World) : Calls Tryd.prog 73 #[.int .u32 x, .int .u64 k] w fun e w' => e = .returned (.int .u32 (rot32 x k : Nat)) ∧ w = w' := by
  have h1 := Nat.div_le_self x (2 ^ k)
  have h2 := Nat.mod_lt (x * 2 ^ (32 - k)) (show 0 < 4294967296 by omega)
  have ho := or32 (x / 2 ^ k) (x * 2 ^ (32 - k) % 4294967296) (by omega) h2
  have e1 : (x : Int) / 2 ^ k = ((x / 2 ^ k : Nat) : Int) := by simp
  have e2 : (x : Int) * 2 ^ (32 - k) % 4294967296 = ((x * 2 ^ (32 - k) % 4294967296 : Nat) : Int) := by simp
  have e : bits .or .u32 ((x : Int) / 2 ^ k) ((x : Int) * 2 ^ (32 - k) % 4294967296) = ((rot32 x k : Nat) : Int) := by rw [e1, e2, ho]; rfl
  have HE := Lib.hid e
  clear ho e1 e2 h2 e
  go_enter Tryd.func73, Tryd.ntmps73
  go_wp2_with fail
  go_ret
  exact ⟨ret_num HE.out, rfl⟩
theorem r07_q (x k : Nat) (ki : Int) (hx : x < 4294967296) (hk : k ≤ 32) (e : ki = (k : Int)) : ∀ w : World, Calls Tryd.prog 73 #[.int .u32 x, .int .u64 ki] w fun e w' => e = .returned (.int .u32 (rot32 x k : Nat)) ∧ w' = w := fun w => e ▸ (r07 x k hx hk w).mono fun _ _ ⟨a, b⟩ => ⟨a, b.symm⟩
theorem not32 (e : Nat) (he : e < 4294967296) : bits .xor .u32 (if IntKind.u32.signed = true then -1 else IntKind.u32.max) (e : Int) = ((4294967295 - e : Nat) : Int) := by
  have h0 : (if IntKind.u32.signed = true then (-1 : Int) else IntKind.u32.max) = ((4294967295 : Nat) : Int) := by decide
  rw [h0, xor32 4294967295 e (by omega) he]
  congr 1
  have h1 : 4294967295 ^^^ e = 4294967295 - e := by
    apply Nat.eq_of_testBit_eq
    intro i
    rw [Nat.testBit_xor, show 4294967295 = 2 ^ 32 - 1 by decide, Nat.testBit_two_pow_sub_one, show 2 ^ 32 - 1 - e = 2 ^ 32 - (e + 1) by omega, Nat.testBit_two_pow_sub_succ (by omega)]
    by_cases h : i < 32
    · simp [h]
    · have : e.testBit i = false := Nat.testBit_lt_two_pow (Nat.lt_of_lt_of_le he (by rw [show 4294967296 = 2 ^ 32 by decide]; exact Nat.pow_le_pow_right (by omega) (by omega)))
      simp [h, this]
  exact h1
theorem xor_lt32 {a b : Nat} (ha : a < 4294967296) (hb : b < 4294967296) : a ^^^ b < 4294967296 := Nat.xor_lt_two_pow (n := 32) ha hb
theorem and_lt32 {a b : Nat} (hb : b < 4294967296) : a &&& b < 4294967296 := Nat.and_lt_two_pow (n := 32) _ hb
/-- So many numbers are answered, as an array. -/
def OutAgg (k : IntKind) (l : List Nat) (w : World) (e : Ending) (w' : World) : Prop := e = .returned (.agg (ints k l).toArray) ∧ Below w.heap.size w w'
theorem cell_lit7 (w : World) (cs : Array Value) (t : TypeId) (i : Nat) (v : Value) (h : cs[i]? = some v) : (w.alloc (.cells cs t)).cell? ⟨w.heap.size, i, none⟩ = some v := by
  have h1 : (w.alloc (.cells cs t)).heap[w.heap.size]? = some (.cells cs t (0, 0)) := World.alloc_heap_new w _
  unfold World.cell?
  rw [h1]
  exact h
theorem frozen_lit7 (w : World) (cs : Array Value) (t : TypeId) (i : Nat) : (w.alloc (.cells cs t)).frozen? ⟨w.heap.size, i, none⟩ = false := by
  have h1 : (w.alloc (.cells cs t)).heap[w.heap.size]? = some (.cells cs t (0, 0)) := World.alloc_heap_new w _
  unfold World.frozen?
  rw [h1]
  simp
theorem heap_set7 {W : World} {g : Nat} {cs : Array Value} {t : TypeId} {fr : Nat × Nat} (h : W.heap[g]? = some (.cells cs t fr)) (i : Nat) (v : Value) : (W.setCell ⟨g, i, none⟩ v).heap[g]? = some (.cells (cs.setIfInBounds i v) t fr) := by
  obtain ⟨hlt, hk⟩ := Array.getElem?_eq_some_iff.1 h
  show (W.heap.modify g _)[g]? = _
  rw [Array.getElem?_eq_getElem (by rw [Array.size_modify]; exact hlt), Array.getElem_modify_self, hk]
  rfl
theorem cell_lit72 (w : World) (cs : Array Value) (t : TypeId) (o : Obj) (i : Nat) (v : Value) (h : cs[i]? = some v) : ((w.alloc (.cells cs t)).alloc o).cell? ⟨w.heap.size, i, none⟩ = some v := by
  have hb : Below (w.alloc (.cells cs t)).heap.size (w.alloc (.cells cs t)) ((w.alloc (.cells cs t)).alloc o) := (Below.refl _ _).alloc (Nat.le_refl _) o
  exact (hb.cell (p := ⟨w.heap.size, i, none⟩) (by simp)).trans (cell_lit7 w cs t i v h)
set_option maxHeartbeats 1000000 in
theorem round07 (a b c d e f g h k u : Nat) (w : World) (ha : a < 4294967296) (hb : b < 4294967296) (hc : c < 4294967296) (_ : d < 4294967296) (he : e < 4294967296) (hf : f < 4294967296) (hg : g < 4294967296) (_ : h < 4294967296) (_ : k < 4294967296) (_ : u < 4294967296) :
    Calls Tryd.prog 46 #[.agg #[.int .u32 a, .int .u32 b, .int .u32 c, .int .u32 d, .int .u32 e, .int .u32 f, .int .u32 g, .int .u32 h], .int .u32 k, .int .u32 u] w (OutAgg .u32 (roundS [a, b, c, d, e, f, g, h] k u) w) := by
  have T0 := r07_q e 6 6 he (by omega) rfl
  have xT0 := rot32_lt e 6 he
  obtain ⟨rT0, hrT0⟩ : ∃ r, rot32 e 6 = r := ⟨_, rfl⟩
  rw [hrT0] at T0 xT0
  have T1 := r07_q e 11 11 he (by omega) rfl
  have xT1 := rot32_lt e 11 he
  obtain ⟨rT1, hrT1⟩ : ∃ r, rot32 e 11 = r := ⟨_, rfl⟩
  rw [hrT1] at T1 xT1
  have T2 := r07_q e 25 25 he (by omega) rfl
  have xT2 := rot32_lt e 25 he
  obtain ⟨rT2, hrT2⟩ : ∃ r, rot32 e 25 = r := ⟨_, rfl⟩
  rw [hrT2] at T2 xT2
  have U0 := r07_q a 2 2 ha (by omega) rfl
  have xU0 := rot32_lt a 2 ha
  obtain ⟨rU0, hrU0⟩ : ∃ r, rot32 a 2 = r := ⟨_, rfl⟩
  rw [hrU0] at U0 xU0
  have U1 := r07_q a 13 13 ha (by omega) rfl
  have xU1 := rot32_lt a 13 ha
  obtain ⟨rU1, hrU1⟩ : ∃ r, rot32 a 13 = r := ⟨_, rfl⟩
  rw [hrU1] at U1 xU1
  have U2 := r07_q a 22 22 ha (by omega) rfl
  have xU2 := rot32_lt a 22 ha
  obtain ⟨rU2, hrU2⟩ : ∃ r, rot32 a 22 = r := ⟨_, rfl⟩
  rw [hrU2] at U2 xU2
  have yp1 := xor32 rT0 rT1 xT0 xT1
  have lp1 := xor_lt32 xT0 xT1
  obtain ⟨p1, ep1⟩ : ∃ z, rT0 ^^^ rT1 = z := ⟨_, rfl⟩
  rw [ep1] at yp1 lp1
  have yp2 := xor32 p1 rT2 lp1 xT2
  have lp2 := xor_lt32 lp1 xT2
  obtain ⟨p2, ep2⟩ : ∃ z, p1 ^^^ rT2 = z := ⟨_, rfl⟩
  rw [ep2] at yp2 lp2
  have yp3 := and32 e f he hf
  have lp3 := and_lt32 (a := e) hf
  obtain ⟨p3, ep3⟩ : ∃ z, e &&& f = z := ⟨_, rfl⟩
  rw [ep3] at yp3 lp3
  have yn := not32 e he
  have ln : 4294967295 - e < 4294967296 := by omega
  obtain ⟨en, een⟩ : ∃ z, 4294967295 - e = z := ⟨_, rfl⟩
  rw [een] at yn ln
  have yp4 := and32 en g ln hg
  have lp4 := and_lt32 (a := en) hg
  obtain ⟨p4, ep4⟩ : ∃ z, en &&& g = z := ⟨_, rfl⟩
  rw [ep4] at yp4 lp4
  have yp5 := xor32 p3 p4 lp3 lp4
  have lp5 := xor_lt32 lp3 lp4
  obtain ⟨p5, ep5⟩ : ∃ z, p3 ^^^ p4 = z := ⟨_, rfl⟩
  rw [ep5] at yp5 lp5
  have yq1 := xor32 rU0 rU1 xU0 xU1
  have lq1 := xor_lt32 xU0 xU1
  obtain ⟨q1, eq1⟩ : ∃ z, rU0 ^^^ rU1 = z := ⟨_, rfl⟩
  rw [eq1] at yq1 lq1
  have yq2 := xor32 q1 rU2 lq1 xU2
  have lq2 := xor_lt32 lq1 xU2
  obtain ⟨q2, eq2⟩ : ∃ z, q1 ^^^ rU2 = z := ⟨_, rfl⟩
  rw [eq2] at yq2 lq2
  have yq3 := and32 a b ha hb
  have lq3 := and_lt32 (a := a) hb
  obtain ⟨q3, eq3⟩ : ∃ z, a &&& b = z := ⟨_, rfl⟩
  rw [eq3] at yq3 lq3
  have yq4 := and32 a c ha hc
  have lq4 := and_lt32 (a := a) hc
  obtain ⟨q4, eq4⟩ : ∃ z, a &&& c = z := ⟨_, rfl⟩
  rw [eq4] at yq4 lq4
  have yq5 := and32 b c hb hc
  have lq5 := and_lt32 (a := b) hc
  obtain ⟨q5, eq5⟩ : ∃ z, b &&& c = z := ⟨_, rfl⟩
  rw [eq5] at yq5 lq5
  have yq6 := xor32 q3 q4 lq3 lq4
  have lq6 := xor_lt32 lq3 lq4
  obtain ⟨q6, eq6⟩ : ∃ z, q3 ^^^ q4 = z := ⟨_, rfl⟩
  rw [eq6] at yq6 lq6
  have yq7 := xor32 q6 q5 lq6 lq5
  have lq7 := xor_lt32 lq6 lq5
  obtain ⟨q7, eq7⟩ : ∃ z, q6 ^^^ q5 = z := ⟨_, rfl⟩
  rw [eq7] at yq7 lq7
  have eT : tS e f g h k u = (h + p2 + p5 + k + u) % 4294967296 := by
    unfold tS Sig1 chS
    rw [hrT0, hrT1, hrT2, ep1, ep2, ep3, een, ep4, ep5]
  have eU : uS a b c = (q2 + q7) % 4294967296 := by
    unfold uS Sig0 majS
    rw [hrU0, hrU1, hrU2, eq1, eq2, eq3, eq4, eq5, eq6, eq7]
  have T0 := Lib.hid T0
  have T1 := Lib.hid T1
  have T2 := Lib.hid T2
  have U0 := Lib.hid U0
  have U1 := Lib.hid U1
  have U2 := Lib.hid U2
  have HT := Lib.hid eT
  have HU := Lib.hid eU
  clear eT eU hrT0 hrT1 hrT2 hrU0 hrU1 hrU2 een ep1 ep2 ep3 ep4 ep5 eq1 eq2 eq3 eq4 eq5 eq6 eq7
  obtain ⟨E, hE⟩ : ∃ E, (w.alloc (.cells #[.int .u32 a, .int .u32 b, .int .u32 c, .int .u32 d, .int .u32 e, .int .u32 f, .int .u32 g, .int .u32 h] 54)).alloc (.cells #[.int .u32 0, .int .u32 0, .int .u32 0, .int .u32 0, .int .u32 0, .int .u32 0, .int .u32 0, .int .u32 0] 54) = E := ⟨_, rfl⟩
  have c0 : E.cell? ⟨w.heap.size, 0, none⟩ = some (.int .u32 (a : Int)) := hE ▸ cell_lit72 w _ _ _ 0 _ rfl
  have c1 : E.cell? ⟨w.heap.size, 1, none⟩ = some (.int .u32 (b : Int)) := hE ▸ cell_lit72 w _ _ _ 1 _ rfl
  have c2 : E.cell? ⟨w.heap.size, 2, none⟩ = some (.int .u32 (c : Int)) := hE ▸ cell_lit72 w _ _ _ 2 _ rfl
  have c3 : E.cell? ⟨w.heap.size, 3, none⟩ = some (.int .u32 (d : Int)) := hE ▸ cell_lit72 w _ _ _ 3 _ rfl
  have c4 : E.cell? ⟨w.heap.size, 4, none⟩ = some (.int .u32 (e : Int)) := hE ▸ cell_lit72 w _ _ _ 4 _ rfl
  have c5 : E.cell? ⟨w.heap.size, 5, none⟩ = some (.int .u32 (f : Int)) := hE ▸ cell_lit72 w _ _ _ 5 _ rfl
  have c6 : E.cell? ⟨w.heap.size, 6, none⟩ = some (.int .u32 (g : Int)) := hE ▸ cell_lit72 w _ _ _ 6 _ rfl
  have c7 : E.cell? ⟨w.heap.size, 7, none⟩ = some (.int .u32 (h : Int)) := hE ▸ cell_lit72 w _ _ _ 7 _ rfl
  have f0 : E.cell? ⟨w.heap.size + 1, 0, none⟩ = some (.int .u32 0) := by have h := cell_lit7 (w.alloc (.cells #[.int .u32 a, .int .u32 b, .int .u32 c, .int .u32 d, .int .u32 e, .int .u32 f, .int .u32 g, .int .u32 h] 54)) #[.int .u32 0, .int .u32 0, .int .u32 0, .int .u32 0, .int .u32 0, .int .u32 0, .int .u32 0, .int .u32 0] 54 0 _ rfl; rw [hE, World.size_alloc] at h; exact h
  have f1 : E.cell? ⟨w.heap.size + 1, 1, none⟩ = some (.int .u32 0) := by have h := cell_lit7 (w.alloc (.cells #[.int .u32 a, .int .u32 b, .int .u32 c, .int .u32 d, .int .u32 e, .int .u32 f, .int .u32 g, .int .u32 h] 54)) #[.int .u32 0, .int .u32 0, .int .u32 0, .int .u32 0, .int .u32 0, .int .u32 0, .int .u32 0, .int .u32 0] 54 1 _ rfl; rw [hE, World.size_alloc] at h; exact h
  have f2 : E.cell? ⟨w.heap.size + 1, 2, none⟩ = some (.int .u32 0) := by have h := cell_lit7 (w.alloc (.cells #[.int .u32 a, .int .u32 b, .int .u32 c, .int .u32 d, .int .u32 e, .int .u32 f, .int .u32 g, .int .u32 h] 54)) #[.int .u32 0, .int .u32 0, .int .u32 0, .int .u32 0, .int .u32 0, .int .u32 0, .int .u32 0, .int .u32 0] 54 2 _ rfl; rw [hE, World.size_alloc] at h; exact h
  have f3 : E.cell? ⟨w.heap.size + 1, 3, none⟩ = some (.int .u32 0) := by have h := cell_lit7 (w.alloc (.cells #[.int .u32 a, .int .u32 b, .int .u32 c, .int .u32 d, .int .u32 e, .int .u32 f, .int .u32 g, .int .u32 h] 54)) #[.int .u32 0, .int .u32 0, .int .u32 0, .int .u32 0, .int .u32 0, .int .u32 0, .int .u32 0, .int .u32 0] 54 3 _ rfl; rw [hE, World.size_alloc] at h; exact h
  have f4 : E.cell? ⟨w.heap.size + 1, 4, none⟩ = some (.int .u32 0) := by have h := cell_lit7 (w.alloc (.cells #[.int .u32 a, .int .u32 b, .int .u32 c, .int .u32 d, .int .u32 e, .int .u32 f, .int .u32 g, .int .u32 h] 54)) #[.int .u32 0, .int .u32 0, .int .u32 0, .int .u32 0, .int .u32 0, .int .u32 0, .int .u32 0, .int .u32 0] 54 4 _ rfl; rw [hE, World.size_alloc] at h; exact h
  have f5 : E.cell? ⟨w.heap.size + 1, 5, none⟩ = some (.int .u32 0) := by have h := cell_lit7 (w.alloc (.cells #[.int .u32 a, .int .u32 b, .int .u32 c, .int .u32 d, .int .u32 e, .int .u32 f, .int .u32 g, .int .u32 h] 54)) #[.int .u32 0, .int .u32 0, .int .u32 0, .int .u32 0, .int .u32 0, .int .u32 0, .int .u32 0, .int .u32 0] 54 5 _ rfl; rw [hE, World.size_alloc] at h; exact h
  have f6 : E.cell? ⟨w.heap.size + 1, 6, none⟩ = some (.int .u32 0) := by have h := cell_lit7 (w.alloc (.cells #[.int .u32 a, .int .u32 b, .int .u32 c, .int .u32 d, .int .u32 e, .int .u32 f, .int .u32 g, .int .u32 h] 54)) #[.int .u32 0, .int .u32 0, .int .u32 0, .int .u32 0, .int .u32 0, .int .u32 0, .int .u32 0, .int .u32 0] 54 6 _ rfl; rw [hE, World.size_alloc] at h; exact h
  have f7 : E.cell? ⟨w.heap.size + 1, 7, none⟩ = some (.int .u32 0) := by have h := cell_lit7 (w.alloc (.cells #[.int .u32 a, .int .u32 b, .int .u32 c, .int .u32 d, .int .u32 e, .int .u32 f, .int .u32 g, .int .u32 h] 54)) #[.int .u32 0, .int .u32 0, .int .u32 0, .int .u32 0, .int .u32 0, .int .u32 0, .int .u32 0, .int .u32 0] 54 7 _ rfl; rw [hE, World.size_alloc] at h; exact h
  have z0 : E.frozen? ⟨w.heap.size + 1, 0, none⟩ = false := by have h := frozen_lit7 (w.alloc (.cells #[.int .u32 a, .int .u32 b, .int .u32 c, .int .u32 d, .int .u32 e, .int .u32 f, .int .u32 g, .int .u32 h] 54)) #[.int .u32 0, .int .u32 0, .int .u32 0, .int .u32 0, .int .u32 0, .int .u32 0, .int .u32 0, .int .u32 0] 54 0; rw [hE, World.size_alloc] at h; exact h
  have z1 : E.frozen? ⟨w.heap.size + 1, 1, none⟩ = false := by have h := frozen_lit7 (w.alloc (.cells #[.int .u32 a, .int .u32 b, .int .u32 c, .int .u32 d, .int .u32 e, .int .u32 f, .int .u32 g, .int .u32 h] 54)) #[.int .u32 0, .int .u32 0, .int .u32 0, .int .u32 0, .int .u32 0, .int .u32 0, .int .u32 0, .int .u32 0] 54 1; rw [hE, World.size_alloc] at h; exact h
  have z2 : E.frozen? ⟨w.heap.size + 1, 2, none⟩ = false := by have h := frozen_lit7 (w.alloc (.cells #[.int .u32 a, .int .u32 b, .int .u32 c, .int .u32 d, .int .u32 e, .int .u32 f, .int .u32 g, .int .u32 h] 54)) #[.int .u32 0, .int .u32 0, .int .u32 0, .int .u32 0, .int .u32 0, .int .u32 0, .int .u32 0, .int .u32 0] 54 2; rw [hE, World.size_alloc] at h; exact h
  have z3 : E.frozen? ⟨w.heap.size + 1, 3, none⟩ = false := by have h := frozen_lit7 (w.alloc (.cells #[.int .u32 a, .int .u32 b, .int .u32 c, .int .u32 d, .int .u32 e, .int .u32 f, .int .u32 g, .int .u32 h] 54)) #[.int .u32 0, .int .u32 0, .int .u32 0, .int .u32 0, .int .u32 0, .int .u32 0, .int .u32 0, .int .u32 0] 54 3; rw [hE, World.size_alloc] at h; exact h
  have z4 : E.frozen? ⟨w.heap.size + 1, 4, none⟩ = false := by have h := frozen_lit7 (w.alloc (.cells #[.int .u32 a, .int .u32 b, .int .u32 c, .int .u32 d, .int .u32 e, .int .u32 f, .int .u32 g, .int .u32 h] 54)) #[.int .u32 0, .int .u32 0, .int .u32 0, .int .u32 0, .int .u32 0, .int .u32 0, .int .u32 0, .int .u32 0] 54 4; rw [hE, World.size_alloc] at h; exact h
  have z5 : E.frozen? ⟨w.heap.size + 1, 5, none⟩ = false := by have h := frozen_lit7 (w.alloc (.cells #[.int .u32 a, .int .u32 b, .int .u32 c, .int .u32 d, .int .u32 e, .int .u32 f, .int .u32 g, .int .u32 h] 54)) #[.int .u32 0, .int .u32 0, .int .u32 0, .int .u32 0, .int .u32 0, .int .u32 0, .int .u32 0, .int .u32 0] 54 5; rw [hE, World.size_alloc] at h; exact h
  have z6 : E.frozen? ⟨w.heap.size + 1, 6, none⟩ = false := by have h := frozen_lit7 (w.alloc (.cells #[.int .u32 a, .int .u32 b, .int .u32 c, .int .u32 d, .int .u32 e, .int .u32 f, .int .u32 g, .int .u32 h] 54)) #[.int .u32 0, .int .u32 0, .int .u32 0, .int .u32 0, .int .u32 0, .int .u32 0, .int .u32 0, .int .u32 0] 54 6; rw [hE, World.size_alloc] at h; exact h
  have z7 : E.frozen? ⟨w.heap.size + 1, 7, none⟩ = false := by have h := frozen_lit7 (w.alloc (.cells #[.int .u32 a, .int .u32 b, .int .u32 c, .int .u32 d, .int .u32 e, .int .u32 f, .int .u32 g, .int .u32 h] 54)) #[.int .u32 0, .int .u32 0, .int .u32 0, .int .u32 0, .int .u32 0, .int .u32 0, .int .u32 0, .int .u32 0] 54 7; rw [hE, World.size_alloc] at h; exact h
  have hZ : E.heap[w.heap.size + 1]? = some (.cells #[.int .u32 0, .int .u32 0, .int .u32 0, .int .u32 0, .int .u32 0, .int .u32 0, .int .u32 0, .int .u32 0] 54 (0, 0)) := by have h := World.alloc_heap_new (w.alloc (.cells #[.int .u32 a, .int .u32 b, .int .u32 c, .int .u32 d, .int .u32 e, .int .u32 f, .int .u32 g, .int .u32 h] 54)) (.cells #[.int .u32 0, .int .u32 0, .int .u32 0, .int .u32 0, .int .u32 0, .int .u32 0, .int .u32 0, .int .u32 0] 54); rw [hE, World.size_alloc] at h; exact h
  have HZ := Lib.hid hZ
  clear hZ
  have bE : Below w.heap.size w E := hE ▸ ((Below.refl _ w).alloc (Nat.le_refl _) _).alloc (by simp) _
  go_enter Tryd.func46, Tryd.ntmps46
  go_wp2_with fail
  go_quiet ((first | (go_at_call 73; with_reducible exact Calls.quiet_of_same (T0.out _)) | (go_at_call 73; with_reducible exact Calls.quiet_of_same (T1.out _)) | (go_at_call 73; with_reducible exact Calls.quiet_of_same (T2.out _))))
  have c0 : (E.drewN nq).cell? ⟨w.heap.size, 0, none⟩ = some (.int .u32 (a : Int)) := c0
  have c1 : (E.drewN nq).cell? ⟨w.heap.size, 1, none⟩ = some (.int .u32 (b : Int)) := c1
  have c2 : (E.drewN nq).cell? ⟨w.heap.size, 2, none⟩ = some (.int .u32 (c : Int)) := c2
  have c3 : (E.drewN nq).cell? ⟨w.heap.size, 3, none⟩ = some (.int .u32 (d : Int)) := c3
  have c4 : (E.drewN nq).cell? ⟨w.heap.size, 4, none⟩ = some (.int .u32 (e : Int)) := c4
  have c5 : (E.drewN nq).cell? ⟨w.heap.size, 5, none⟩ = some (.int .u32 (f : Int)) := c5
  have c6 : (E.drewN nq).cell? ⟨w.heap.size, 6, none⟩ = some (.int .u32 (g : Int)) := c6
  have c7 : (E.drewN nq).cell? ⟨w.heap.size, 7, none⟩ = some (.int .u32 (h : Int)) := c7
  have f0 : (E.drewN nq).cell? ⟨w.heap.size + 1, 0, none⟩ = some (.int .u32 0) := f0
  have z0 : (E.drewN nq).frozen? ⟨w.heap.size + 1, 0, none⟩ = false := z0
  have f1 : (E.drewN nq).cell? ⟨w.heap.size + 1, 1, none⟩ = some (.int .u32 0) := f1
  have z1 : (E.drewN nq).frozen? ⟨w.heap.size + 1, 1, none⟩ = false := z1
  have f2 : (E.drewN nq).cell? ⟨w.heap.size + 1, 2, none⟩ = some (.int .u32 0) := f2
  have z2 : (E.drewN nq).frozen? ⟨w.heap.size + 1, 2, none⟩ = false := z2
  have f3 : (E.drewN nq).cell? ⟨w.heap.size + 1, 3, none⟩ = some (.int .u32 0) := f3
  have z3 : (E.drewN nq).frozen? ⟨w.heap.size + 1, 3, none⟩ = false := z3
  have f4 : (E.drewN nq).cell? ⟨w.heap.size + 1, 4, none⟩ = some (.int .u32 0) := f4
  have z4 : (E.drewN nq).frozen? ⟨w.heap.size + 1, 4, none⟩ = false := z4
  have f5 : (E.drewN nq).cell? ⟨w.heap.size + 1, 5, none⟩ = some (.int .u32 0) := f5
  have z5 : (E.drewN nq).frozen? ⟨w.heap.size + 1, 5, none⟩ = false := z5
  have f6 : (E.drewN nq).cell? ⟨w.heap.size + 1, 6, none⟩ = some (.int .u32 0) := f6
  have z6 : (E.drewN nq).frozen? ⟨w.heap.size + 1, 6, none⟩ = false := z6
  have f7 : (E.drewN nq).cell? ⟨w.heap.size + 1, 7, none⟩ = some (.int .u32 0) := f7
  have z7 : (E.drewN nq).frozen? ⟨w.heap.size + 1, 7, none⟩ = false := z7
  have HZ : Hid ((E.drewN nq).heap[w.heap.size + 1]? = some (.cells #[.int .u32 0, .int .u32 0, .int .u32 0, .int .u32 0, .int .u32 0, .int .u32 0, .int .u32 0, .int .u32 0] 54 (0, 0))) := Lib.hid HZ.out
  have bE : Below w.heap.size w (E.drewN nq) := bE.trans (((Drawn.more nq).below _).mono bE.size)
  obtain ⟨E2, hE2⟩ : ∃ E2, E.drewN nq = E2 := ⟨_, rfl⟩
  rw [hE2] at c0 c1 c2 c3 c4 c5 c6 c7 f0 f1 f2 f3 f4 f5 f6 f7 z0 z1 z2 z3 z4 z5 z6 z7 bE HZ ⊢
  clear hE2 hE
  go_wp2_with fail
  go_quiet ((first | (go_at_call 73; with_reducible exact Calls.quiet_of_same (U0.out _)) | (go_at_call 73; with_reducible exact Calls.quiet_of_same (U1.out _)) | (go_at_call 73; with_reducible exact Calls.quiet_of_same (U2.out _))))
  go_wp2_with fail
  have HZ2 : (E2.drewN nq).heap[w.heap.size + 1]? = some (.cells #[.int .u32 0, .int .u32 0, .int .u32 0, .int .u32 0, .int .u32 0, .int .u32 0, .int .u32 0, .int .u32 0] 54 (0, 0)) := HZ.out
  (try simp only [Exit.inBlock, Exit.then])
  refine bodyPost_ret (results_cell_row (p := 6) rfl _ _ (w.heap.size + 1) 54 _ (0, 0) _ rfl (heap_set7 (heap_set7 (heap_set7 (heap_set7 (heap_set7 (heap_set7 (heap_set7 (heap_set7 HZ2 0 _) 1 _) 2 _) 3 _) 4 _) 5 _) 6 _) 7 _) Tryd.underlying54 rfl (by kernel_rfl)) rfl ?_
  have B := bE.trans (((Drawn.more nq).below _).mono bE.size)
  have e0 : ((h : Int) + p2 + p5 + k + u + (q2 + q7)) % 4294967296 = (((tS e f g h k u + uS a b c) % 4294967296 : Nat) : Int) := by rw [HT.out, HU.out]; omega
  have e4 : ((d : Int) + (h + p2 + p5 + k + u)) % 4294967296 = (((d + tS e f g h k u) % 4294967296 : Nat) : Int) := by rw [HT.out]; omega
  have ev : Value.agg #[.int .u32 (((h : Int) + p2 + p5 + k + u + (q2 + q7)) % 4294967296), .int .u32 a, .int .u32 b, .int .u32 c, .int .u32 (((d : Int) + (h + p2 + p5 + k + u)) % 4294967296), .int .u32 e, .int .u32 f, .int .u32 g] = Value.agg (ints .u32 (roundS [a, b, c, d, e, f, g, h] k u)).toArray := by rw [e0, e4]; rfl
  refine ⟨Eq.trans ?_ (congrArg Ending.returned ev), ((((((((B.setCell (p := ⟨w.heap.size + 1, 0, none⟩) (Nat.le_succ _) _).setCell (p := ⟨w.heap.size + 1, 1, none⟩) (Nat.le_succ _) _).setCell (p := ⟨w.heap.size + 1, 2, none⟩) (Nat.le_succ _) _).setCell (p := ⟨w.heap.size + 1, 3, none⟩) (Nat.le_succ _) _).setCell (p := ⟨w.heap.size + 1, 4, none⟩) (Nat.le_succ _) _).setCell (p := ⟨w.heap.size + 1, 5, none⟩) (Nat.le_succ _) _).setCell (p := ⟨w.heap.size + 1, 6, none⟩) (Nat.le_succ _) _).setCell (p := ⟨w.heap.size + 1, 7, none⟩) (Nat.le_succ _) _)⟩
  rfl
end Go.Proofs.YtjeliomjnalpcaaDoor

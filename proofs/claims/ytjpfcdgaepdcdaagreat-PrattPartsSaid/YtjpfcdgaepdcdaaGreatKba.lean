/- Several texts in one; each begins with a remark that says what it shows and on which conditions. -/
import Derived.Test.YtjpfcdgaepdcdaaGreatKaz
import Derived.Test.YtjpfcdgaepdcdaaGreatKas
import Derived.Laws.EntriesVeiled
import Derived.Laws.Bits128
/- mul.product, Mul, Square. Conditions: as typed (lengths that fit a machine). -/
namespace Go.Proofs.YtjpfcdgaepdcdaaGreat
open Go.RowKit
set_option maxRecDepth 20000
theorem times_all (G t N : Nat) : TimesTo G t N := by
  induction N with
  | zero => intro A A2 c c2 n m a b w _ _ h; omega
  | succ N ih =>
    intro A A2 c c2 n m a b w hn hm hN hl hl2 hc hc2 hw hw2 hr hr2 hb
    subst hn
    subst hm
    exact times_step G t N ih A A2 c c2 a b w (by omega) hl hl2 hc hc2 hw hw2 hr hr2 hb
section
variable (A A2 : Option Addr) (c c2 : Nat) (a b : List Nat) (w : World) (hr : Rd .u64 w w.heap.size A a) (hw : Words a) (hl : a.length ≤ 10000) (hc : a.length ≤ c) (hr2 : Rd .u64 w w.heap.size A2 b) (hw2 : Words b) (hl2 : b.length ≤ 10000) (hc2 : b.length ≤ c2)
include hr hw hl hc hr2 hw2 hl2 hc2
set_option maxHeartbeats 1000000 in
theorem product_any : Calls Tryz.prog 121 #[.slice A a.length c, .slice A2 b.length c2] w (OutTimes (natOf a * natOf b) (a.length + b.length) w) := by
  have b1 : Below w.heap.size w (w.alloc (.cells #[tfn w.heap.size] 68)) := (Below.refl _ w).alloc (Nat.le_refl _) _
  have T := times_all w.heap.size 68 (a.length + b.length + 1) A A2 c c2 a.length b.length a b (w.alloc (.cells #[tfn w.heap.size] 68)) rfl rfl (Nat.lt_succ_self _) hl hl2 hc hc2 hw hw2 ((hr.below b1).more b1.size) ((hr2.below b1).more b1.size) (Boxed.new w _ _)
  rw [tfn] at T b1
  have hbx := Boxed.new w 68 .nilFunc
  have hco := hbx.cell
  have hfo := hbx.frozen
  have HT := Lib.hid T
  clear T hr hr2 hw hw2
  go_enter Tryz.func121, Tryz.ntmps121
  go_wp2_with fail
  refine (HT.out).mono ?_
  rintro e w1 ⟨R, K, rfl, ho, hV, hK, hb⟩
  have HO := Lib.hid (own_base ho b1.size)
  have HV := Lib.hid hV
  clear ho hV HT
  go_wp2_with fail
  go_ret
  exact ⟨R, K, rfl, HO.out, HV.out, hK, b1.trans (hb.mono b1.size)⟩
theorem mulMul_pf : Calls Tryz.prog 100 #[.slice A a.length c, .slice A2 b.length c2] w (OutNat (natOf a * natOf b) w) := by
  have P := Lib.hid (product_any A A2 c c2 a b w hr hw hl hc hr2 hw2 hl2 hc2)
  obtain ⟨M, hM⟩ : ∃ M, a.length + b.length = M := ⟨_, rfl⟩
  rw [hM] at P
  have hM2 : M ≤ 20000 := by omega
  clear hr hr2 hw hw2 hM
  go_enter Tryz.func100, Tryz.ntmps100
  go_wp2_with fail
  refine (P.out).mono ?_
  rintro e w1 ⟨R, K, rfl, ho, hV, hK, hb⟩
  have T := mtrim_any R K (words K (natOf a * natOf b)) w1 w1.heap.size (Rd.own ho) (words_words _ _) (by rw [length_words]; omega) (by rw [length_words]; exact Nat.le_refl _)
  rw [length_words, tl_words K _ hV] at T
  have HT := Lib.hid T
  have HO := Lib.hid (own_trim ho hV)
  clear T ho hV P
  go_wp2_with fail
  refine (HT.out).mono ?_
  rintro e w' ⟨rfl, rfl⟩
  go_wp2_with fail
  go_ret
  exact ⟨_, rfl, HO.out, hb⟩
omit hr2 hw2 hl2 hc2
end
end Go.Proofs.YtjpfcdgaepdcdaaGreat
/- mul.Power. Conditions: as typed (lengths that fit a machine). -/
namespace Go.Proofs.YtjpfcdgaepdcdaaGreat
open Go.RowKit
set_option maxRecDepth 20000
section
variable (A : Option Addr) (c : Nat) (a : List Nat) (w : World) (hr : Rd .u64 w w.heap.size A a) (hw : Words a) (hl : a.length ≤ 10000) (hc : a.length ≤ c)
include hr hw hl hc
end
end Go.Proofs.YtjpfcdgaepdcdaaGreat
/- mul's contracts, as laws use them. Conditions: as typed (lengths that fit a machine, a capacity that is not below its length). -/
namespace Go.Proofs.YtjpfcdgaepdcdaaGreat
open Go.RowKit
set_option maxRecDepth 20000
section
variable (A A2 : Option Addr) (c c2 : Nat) (a b : List Nat) (w : World) (hr : Rd .u64 w w.heap.size A a) (hw : Words a) (hl : a.length ≤ 10000) (hc : a.length ≤ c) (hr2 : Rd .u64 w w.heap.size A2 b) (hw2 : Words b) (hl2 : b.length ≤ 10000) (hc2 : b.length ≤ c2)
include hr hw hl hc
include hr2 hw2 hl2 hc2
theorem mulMul_any : Calls Tryz.prog 100 #[.slice A a.length c, .slice A2 b.length c2] w (OutNat (natOf a * natOf b) w) := mulMul_pf A A2 c c2 a b w hr hw hl hc hr2 hw2 hl2 hc2
end
end Go.Proofs.YtjpfcdgaepdcdaaGreat
/- mul's contracts in the form that laws use: a slice of words stands for a number. Conditions: as typed. -/
namespace Go.Proofs.YtjpfcdgaepdcdaaGreat
open Go.RowKit
set_option maxRecDepth 20000
section
variable {w : World} {A A2 : Option Addr} {n m c c2 M N d d2 : Nat}
theorem bMul (h : NatIn w A n c M) (k : NatIn w A2 m c2 N) (hs : n ≤ 10000) (hs2 : m ≤ 10000) : Calls Tryz.prog 100 #[.slice A n c, .slice A2 m c2] w (OutN (M * N) w) := by
  have hb := h.bits
  have kb := k.bits
  have hk := nbits_mul M N
  obtain ⟨l, rfl, rfl, h3, h4, h5, h6⟩ := h
  obtain ⟨l2, rfl, rfl, k3, k4, k5, k6⟩ := k
  exact Calls.mono (mulMul_any A A2 c c2 l l2 w h5 h3 hs h6 k5 k3 hs2 k6) fun _ _ h => h.out (by omega)
end
/-- What is answered where a literal was made first. -/
theorem OutN.made {N : Nat} {w w' : World} {e : Ending} {o : Obj} (h : OutN N (w.alloc o) e w') : OutN N w e w' := by
  obtain ⟨X, q, d, he, h1, ⟨l, t1, t2, t3⟩, hb⟩ := h
  exact ⟨X, q, d, he, h1, ⟨l, t1, t2, own_base t3 (by simp)⟩, ((Below.refl _ w).alloc (Nat.le_refl _) o).trans (hb.mono (by simp))⟩
theorem NatIn.made {w : World} {A : Option Addr} {n c N : Nat} (h : NatIn w A n c N) (o : Obj) : NatIn (w.alloc o) A n c N := h.step ((Below.refl _ w).alloc (Nat.le_refl _) o)
/-- A result whose words are known. -/
theorem NatIs.lit {w : World} {X : Option Addr} {q d N : Nat} (h : NatIs w X q d N) (l : List Nat) (e : wd N = l) : q = l.length ∧ Rd .u64 w w.heap.size X l := ⟨by rw [← h.1, e], by rw [← e]; exact h.2.2.1⟩
section
variable {w : World} {A : Option Addr} {c : Nat} {l : List Nat}
end
/-! The examples -/
end Go.Proofs.YtjpfcdgaepdcdaaGreat

/- Several texts in one; each begins with a remark that says what it shows and on which conditions. -/
import Derived.Test.YtgmolbiicclcaaaKan
import Derived.Test.YtgmolbiicclcaaaKac
import Derived.Test.YtgmolbiicclcaaaKam
import Derived.Laws.EntriesVeiled
import Derived.Laws.Bits128
/- The contract of the document's Power of chapter 3. Conditions: as typed (lengths that fit a machine). -/
namespace Go.Proofs.Ytgmolbiicclcaaa
open Go.RowKit
set_option maxRecDepth 20000
/-- Nothing, and an error's number. -/
def OutErr (x : Int) (w : World) (e : Ending) (w' : World) : Prop := ∃ X d, e = .returned (.tuple #[.slice X 0 d, .int .i64 x]) ∧ Below w.heap.size w w'
section
variable (A : Option Addr) (c : Nat) (a : List Nat) (w : World) (hr : Rd .u64 w w.heap.size A a) (hw : Words a) (hl : a.length ≤ 10000)
include hr hw hl
end
end Go.Proofs.Ytgmolbiicclcaaa
/- mul.product, Mul, Square. Conditions: as typed (lengths that fit a machine). -/
namespace Go.Proofs.Ytgmolbiicclcaaa
open Go.RowKit
set_option maxRecDepth 20000
theorem times_all (G t N : Nat) : TimesTo G t N := by
  induction N with
  | zero => intro A A2 c c2 n m a b w _ _ h; omega
  | succ N ih =>
    intro A A2 c c2 n m a b w hn hm hN hl hl2 hc hc2 hw hw2 hr hr2 hb
    subst hn
    subst hm
    exact times_step G t N ih A A2 c c2 a b w (by omega) hl hl2 hc hc2 hw hw2 hr hr2 hb
section
variable (A A2 : Option Addr) (c c2 : Nat) (a b : List Nat) (w : World) (hr : Rd .u64 w w.heap.size A a) (hw : Words a) (hl : a.length ≤ 10000) (hc : a.length ≤ c) (hr2 : Rd .u64 w w.heap.size A2 b) (hw2 : Words b) (hl2 : b.length ≤ 10000) (hc2 : b.length ≤ c2)
include hr hw hl hc hr2 hw2 hl2 hc2
set_option maxHeartbeats 1000000 in
theorem product_any : Calls Try.prog 33 #[.slice A a.length c, .slice A2 b.length c2] w (OutTimes (natOf a * natOf b) (a.length + b.length) w) := by
  have b1 : Below w.heap.size w (w.alloc (.cells #[tfn w.heap.size] 54)) := (Below.refl _ w).alloc (Nat.le_refl _) _
  have T := times_all w.heap.size 54 (a.length + b.length + 1) A A2 c c2 a.length b.length a b (w.alloc (.cells #[tfn w.heap.size] 54)) rfl rfl (Nat.lt_succ_self _) hl hl2 hc hc2 hw hw2 ((hr.below b1).more b1.size) ((hr2.below b1).more b1.size) (Boxed.new w _ _)
  rw [tfn] at T b1
  have hbx := Boxed.new w 54 .nilFunc
  have hco := hbx.cell
  have hfo := hbx.frozen
  have HT := Lib.hid T
  clear T hr hr2 hw hw2
  go_enter Try.func33, Try.ntmps33
  go_wp2_with fail
  refine (HT.out).mono ?_
  rintro e w1 ⟨R, K, rfl, ho, hV, hK, hb⟩
  have HO := Lib.hid (own_base ho b1.size)
  have HV := Lib.hid hV
  clear ho hV HT
  go_wp2_with fail
  go_ret
  exact ⟨R, K, rfl, HO.out, HV.out, hK, b1.trans (hb.mono b1.size)⟩
theorem mulMul_pf : Calls Try.prog 22 #[.slice A a.length c, .slice A2 b.length c2] w (OutNat (natOf a * natOf b) w) := by
  have P := Lib.hid (product_any A A2 c c2 a b w hr hw hl hc hr2 hw2 hl2 hc2)
  obtain ⟨M, hM⟩ : ∃ M, a.length + b.length = M := ⟨_, rfl⟩
  rw [hM] at P
  have hM2 : M ≤ 20000 := by omega
  clear hr hr2 hw hw2 hM
  go_enter Try.func22, Try.ntmps22
  go_wp2_with fail
  refine (P.out).mono ?_
  rintro e w1 ⟨R, K, rfl, ho, hV, hK, hb⟩
  have T := mtrim_any R K (words K (natOf a * natOf b)) w1 w1.heap.size (Rd.own ho) (words_words _ _) (by rw [length_words]; omega) (by rw [length_words]; exact Nat.le_refl _)
  rw [length_words, tl_words K _ hV] at T
  have HT := Lib.hid T
  have HO := Lib.hid (own_trim ho hV)
  clear T ho hV P
  go_wp2_with fail
  refine (HT.out).mono ?_
  rintro e w' ⟨rfl, rfl⟩
  go_wp2_with fail
  go_ret
  exact ⟨_, rfl, HO.out, hb⟩
omit hr2 hw2 hl2 hc2
end
end Go.Proofs.Ytgmolbiicclcaaa
/- mul.Power. Conditions: as typed (lengths that fit a machine). -/
namespace Go.Proofs.Ytgmolbiicclcaaa
open Go.RowKit
set_option maxRecDepth 20000
section
variable (A : Option Addr) (c : Nat) (a : List Nat) (w : World) (hr : Rd .u64 w w.heap.size A a) (hw : Words a) (hl : a.length ≤ 10000) (hc : a.length ≤ c)
include hr hw hl hc
end
end Go.Proofs.Ytgmolbiicclcaaa
/- mul's contracts, as laws use them. Conditions: as typed (lengths that fit a machine, a capacity that is not below its length). -/
namespace Go.Proofs.Ytgmolbiicclcaaa
open Go.RowKit
set_option maxRecDepth 20000
section
variable (A A2 : Option Addr) (c c2 : Nat) (a b : List Nat) (w : World) (hr : Rd .u64 w w.heap.size A a) (hw : Words a) (hl : a.length ≤ 10000) (hc : a.length ≤ c) (hr2 : Rd .u64 w w.heap.size A2 b) (hw2 : Words b) (hl2 : b.length ≤ 10000) (hc2 : b.length ≤ c2)
include hr hw hl hc
include hr2 hw2 hl2 hc2
theorem mulMul_any : Calls Try.prog 22 #[.slice A a.length c, .slice A2 b.length c2] w (OutNat (natOf a * natOf b) w) := mulMul_pf A A2 c c2 a b w hr hw hl hc hr2 hw2 hl2 hc2
end
end Go.Proofs.Ytgmolbiicclcaaa

/- Several texts in one; each begins with a remark that says what it shows and on which conditions. -/
import Derived.Test.YtjpfcdgaepdcdaaGreatKae
import Derived.Test.YtjpfcdgaepdcdaaGreatKbk
import Derived.RangeFuncBox
import Derived.BigQuiet
import Derived.IntWalk
/- gcd's steps of numbers of one word. Conditions: as typed. -/
namespace Go.Proofs.YtjpfcdgaepdcdaaGreat
open Go.RowKit
set_option maxRecDepth 20000
theorem divide_ok (a b : Nat) (w : World) (ha : a < 18446744073709551616) (h0 : b ≠ 0) : Calls Tryz.prog 110 #[.int .u64 a, .int .u64 b] w fun e w' => e = .returned (.tuple #[.int .u64 ((a / b : Nat) : Int), .int .u64 ((a % b : Nat) : Int), .int .i64 0]) ∧ Below w.heap.size w w' := by
  have hb0 : ((b : Int) == 0) = false := by simp; omega
  have hb1 : (b : Int) ≠ 0 := by omega
  have hql : a / b < 18446744073709551616 := Nat.lt_of_le_of_lt (Nat.div_le_self _ _) ha
  have hq : IntKind.u64.wrap ((a : Int) / (b : Int)) = ((a / b : Nat) : Int) := by rw [← Int.natCast_ediv]; generalize a / b = q at hql; rw [IntKind.wrap_u64]; omega
  go_enter Tryz.func110, Tryz.ntmps110
  go_wp2_with fail
  go_region
  go_wp2_with fail
  go_ret3
  exact ⟨by simp, (Drawn.more 1).below _⟩
theorem divide_no (a : Nat) (w : World) : Calls Tryz.prog 110 #[.int .u64 a, .int .u64 0] w fun e w' => e = .returned (.tuple #[.int .u64 0, .int .u64 0, .int .i64 5]) ∧ Below w.heap.size w w' := by
  go_enter Tryz.func110, Tryz.ntmps110
  go_wp2_with fail
  go_ret3
  exact ⟨rfl, Below.refl _ _⟩
theorem tell1 (q : Nat) (w : World) : Calls Tryz.prog 111 #[.int .u64 q] w fun e w' => e = .returned (.tuple #[]) ∧ w = w' := by
  go_enter Tryz.func111, Tryz.ntmps111
  go_wp2_with fail
  go_end0
  exact ⟨rfl, rfl⟩
set_option maxHeartbeats 1000000 in
theorem steps1_plain (M N : Nat) (w : World) (hM : M < 18446744073709551616) (hN : N < 18446744073709551616) : Calls Tryz.prog 109 #[.int .u64 M, .int .u64 N, .func (.func 110) #[] #[], .func (.func 111) #[] #[]] w fun e w' => e = .returned (.int .u64 (Nat.gcd M N : Nat)) ∧ Below w.heap.size w w' := by
  go_enter Tryz.func109, Tryz.ntmps109
  go_wp2_with fail
  go_step3
  go_wp2_with fail
  go_step3
  go_wp2_with fail
  go_loopw [0, 1] (fun av bv wr => ∃ a b : Nat, av = .int .u64 a ∧ bv = .int .u64 b ∧ a < 18446744073709551616 ∧ b < 18446744073709551616 ∧ Nat.gcd a b = Nat.gcd M N ∧ Below w.heap.size w wr) (fun _ bv _ => (intOf bv).toNat)
  case atStart => exact ⟨M, N, rfl, rfl, hM, hN, rfl, Below.refl _ _⟩
  case round =>
    obtain ⟨a, b, rfl, rfl, ha, hb, hg, hB⟩ := hrel
    by_cases h0 : b = 0
    · subst h0
      rw [Nat.gcd_zero_right] at hg
      have HG := Lib.hid hg
      clear hg
      go_wp2_with fail
      refine (divide_no a wr).mono ?_
      rintro e w1 ⟨rfl, b1⟩
      have B1 := hB.trans (b1.mono hB.size)
      go_wp2_with fail
      rw [Exit.noGoto_ret]
      go_ret
      exact ⟨by rw [← HG.out]; rfl, B1⟩
    · have D := Lib.hid (divide_ok a b wr ha h0)
      have hqb : a / b < 18446744073709551616 := Nat.lt_of_le_of_lt (Nat.div_le_self _ _) ha
      have hrb := Nat.mod_lt a (Nat.pos_of_ne_zero h0)
      have hn : Nat.gcd b (a % b) = Nat.gcd M N := by rw [gcd_next, hg]
      generalize a / b = q at *
      generalize a % b = r at *
      have HN := Lib.hid hn
      clear hn hg h0
      go_wp2_with fail
      refine (D.out).mono ?_
      rintro e w1 ⟨rfl, b1⟩
      have B1 := hB.trans (b1.mono hB.size)
      go_wp2_with fail
      refine (tell1 q w1).mono ?_
      rintro e w2 ⟨rfl, rfl⟩
      go_wp2_with fail
      go_roundw
      case rel => exact ⟨b, r, rfl, rfl, hb, by omega, HN.out, B1⟩
      case measure => simp [intOf]; omega
/-- The three variables that leastWord's steps are told to. -/
structure Box1 (u : World) (L N S : Nat) (last next : Nat) (less : Bool) : Prop where
  last : Boxed u L 27 (.int .u64 (last : Int))
  next : Boxed u N 27 (.int .u64 (next : Int))
  less : Boxed u S 4 (.bool less)
theorem Box1.kept {u u' : World} {L N S last next : Nat} {less : Bool} (h : Box1 u L N S last next less) (hb : Below u.heap.size u u') : Box1 u' L N S last next less :=
  have hg : u.grownBy u' none := ⟨hb.os, hb.tape, hb.output, hb.size, fun i hi _ => hb.block i hi⟩
  ⟨h.last.kept hg (by simp), h.next.kept hg (by simp), h.less.kept hg (by simp)⟩
end Go.Proofs.YtjpfcdgaepdcdaaGreat

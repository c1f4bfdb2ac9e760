/- The contracts of octet's small functions: isFixed, the byte taker, byteCount, copyWithRoom, addFixed. Conditions: as typed. -/
import Derived.Test.YticgcjfgonejpaaWords
import Derived.Test.YticgcjfgonejpaaProg
import Derived.Test.YticgcjfgonejpaaShelf
import Derived.BigQuiet
import Derived.Deep.QuietTactic
import Derived.Outline
namespace Go.Proofs.Yticgcjfgonejpaa
open Go.RowKit

/-- Is a size that of a fixed number? -/
def isFix (n : Int) : Bool := decide (1 ≤ n ∧ n ≤ 8)

theorem isFixed_any (n : Int) (w : World) :
    Calls Try.prog 26 #[.int .i64 n] w fun e w' => e = .returned (.bool (isFix n)) ∧ w = w' := by
  by_cases h1 : 1 ≤ n
  · by_cases h2 : n ≤ 8
    · have hx : isFix n = true := by simp [isFix, h1, h2]
      have Hx := Lib.hid hx; clear hx
      go_enter Try.func26, Try.ntmps26
      go_wp2
      go_ret
      exact ⟨by rw [Hx.out]; rfl, rfl⟩
    · have hx : isFix n = false := by simp [isFix, h2]
      have Hx := Lib.hid hx; clear hx
      go_enter Try.func26, Try.ntmps26
      go_wp2
      go_ret
      exact ⟨by rw [Hx.out]; rfl, rfl⟩
  · have hx : isFix n = false := by simp [isFix, h1]
    have Hx := Lib.hid hx; clear hx
    go_enter Try.func26, Try.ntmps26
    go_wp2
    go_ret
    exact ⟨by rw [Hx.out]; rfl, rfl⟩


/-- taker: two boxes, the bytes' and the place's; the closure that knows them. -/
theorem taker_any (A : Option Addr) (n c : Nat) (i : Int) (w : World) :
    Calls Try.prog 24 #[.slice A n c, .int .i64 i] w fun e w' =>
      e = .returned (.func (.func 28) #[] #[.pointer (some ⟨w.heap.size + 1, 0, none⟩), .pointer (some ⟨w.heap.size, 0, none⟩)]) ∧
      (w.alloc (.cells #[.slice A n c] 22)).alloc (.cells #[.int .i64 i] 3) = w' := by
  go_enter Try.func24, Try.ntmps24
  go_wp2
  go_ret
  exact ⟨rfl, rfl⟩

/-- the closure, behind the end -/
theorem take_no (p q : Nat) (A : Option Addr) (n c : Nat) (i : Int) (w : World) (hp : w.cell? ⟨p, 0, none⟩ = some (.int .i64 i)) (hq : w.cell? ⟨q, 0, none⟩ = some (.slice A n c)) (h : (n : Int) ≤ i) :
    Calls Try.prog 28 #[.pointer (some ⟨p, 0, none⟩), .pointer (some ⟨q, 0, none⟩)] w fun e w' =>
      e = .returned (.tuple #[.int .u8 0, .bool false]) ∧ w = w' := by
  go_enter Try.func28, Try.ntmps28
  go_wp2
  go_ret2
  exact ⟨rfl, rfl⟩

/-- the closure, at a byte -/
theorem take_yes (p q b off : Nat) (n c : Nat) (i : Nat) (x : Nat) (w : World) (hp : w.cell? ⟨p, 0, none⟩ = some (.int .i64 i)) (hpf : w.frozen? ⟨p, 0, none⟩ = false)
    (hq : w.cell? ⟨q, 0, none⟩ = some (.slice (some ⟨b, off, none⟩) n c)) (hn : n ≤ 1099511627776) (h : i < n) (hx : w.cell? ⟨b, off + i, none⟩ = some (.int .u8 x)) :
    Calls Try.prog 28 #[.pointer (some ⟨p, 0, none⟩), .pointer (some ⟨q, 0, none⟩)] w fun e w' =>
      e = .returned (.tuple #[.int .u8 x, .bool true]) ∧ w.setCell ⟨p, 0, none⟩ (.int .i64 (i + 1 : Nat)) = w' := by
  go_enter Try.func28, Try.ntmps28
  go_wp2
  go_ret2
  exact ⟨rfl, rfl⟩

end Go.Proofs.Yticgcjfgonejpaa

/- The contract of the document's Times: the product of two numbers to the base 2. Conditions: as typed (lengths that fit a machine). -/
import Derived.Test.YtjimnepjheppgaaTimM
import Derived.Test.YtjimnepjheppgaaN4
namespace Go.Proofs.Ytjimnepjheppgaa
open Go.RowKit
set_option maxRecDepth 20000

theorem num_info_int : (Try.prog.info? 3).map (fun i => (i.zero, i.size, i.bytes)) = some (some (.int .i64 0), 1, 8) := by kernel_rfl
theorem cols_new (w : World) (m : Nat) (hm : m ≤ 10000000) : (w.alloc (.cells (Array.replicate m (Value.int .i64 0)) 3)).ownsRow w.heap.size 3 1 (.slice (some ⟨w.heap.size, 0, none⟩) m m) m (ints .i64 (List.replicate m 0)) :=
  own_of_heap (cur := List.replicate m (Value.int .i64 0)) (by have h := heap_alloc_new w (.cells (Array.replicate m (Value.int .i64 0)) 3); simpa using h) (Nat.le_refl _) (Nat.le_refl _) (by unfold maxLen; omega) (by simp) (by simp [ints])

end Go.Proofs.Ytjimnepjheppgaa

/- Several texts in one; each begins with a remark that says what it shows and on which conditions. -/
import Derived.Test.YtjeliomjnalpcaaDoorKaa
/- Plain facts on bytes as strings: their letters, joined, compared. No condition but those typed. -/
namespace Go.Proofs.YtjeliomjnalpcaaDoor
theorem str_list (l : List Nat) : (str l).toList = l.map UInt8.ofNat := by unfold str; rw [ByteArray.toList_mk]
theorem str_size (l : List Nat) : (str l).size = l.length := by simp [str, ByteArray.size]
theorem str_append (l m : List Nat) : str l ++ str m = str (l ++ m) := by unfold str; rw [ByteArray.mk_append_mk, List.map_append]
end Go.Proofs.YtjeliomjnalpcaaDoor

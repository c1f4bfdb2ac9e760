/- Plain facts on bytes as strings: their letters, joined, compared. No condition but those typed. -/
import Derived.Test.YticgcjfgonejpaaMath
namespace Go.Proofs.Yticgcjfgonejpaa
theorem str_list (l : List Nat) : (str l).toList = l.map UInt8.ofNat := by unfold str; rw [ByteArray.toList_mk]
theorem str_size (l : List Nat) : (str l).size = l.length := by simp [str, ByteArray.size]
theorem str_append (l m : List Nat) : str l ++ str m = str (l ++ m) := by unfold str; rw [ByteArray.mk_append_mk, List.map_append]
theorem str_eq (l m : List Nat) (hl : Bytes l) (hm : Bytes m) : ((str l).toList == (str m).toList) = decide (l = m) := by
  rw [str_list, str_list, Bool.eq_iff_iff, beq_iff_eq, decide_eq_true_eq, map_ofNat_inj l m hl hm]
theorem str_same (l : List Nat) : ((str l).toList == (str l).toList) = true := by simp
theorem str_less (a b : Nat) (ha : blen a < 65536) (hb : blen b < 65536) : Op.bytesLess (str (long a)).toList (str (long b)).toList = decide (a < b) := by
  rw [str_list, str_list, long_less a b ha hb]
end Go.Proofs.Yticgcjfgonejpaa

/- Several texts in one; each begins with a remark that says what it shows and on which conditions. -/
import Derived.Test.YtjpfcdgaepdcdaaGreatKas
import Derived.Deep.RegionWith
import Derived.Deep.DeepCutAuto
/- NatLaws' walk: it answers true, and writes nothing that was there. No condition but what the arguments' types give. -/
namespace Go.Proofs.YtjpfcdgaepdcdaaGreat
open Go.RowKit
set_option maxRecDepth 20000
end Go.Proofs.YtjpfcdgaepdcdaaGreat
/- NatBytes' walk: it answers true, and writes nothing that was there. No condition but what the arguments' types give. -/
namespace Go.Proofs.YtjpfcdgaepdcdaaGreat
open Go.RowKit
set_option maxRecDepth 20000
/-- The slice at A, of q bytes, is M's bytes. -/
def BytIs (w : World) (A : Option Addr) (q M : Nat) : Prop := (be (blen M) M).length = q ∧ q ≤ 100000 ∧ Rd .u8 w w.heap.size A (be (blen M) M)
/-- The slice at A, of n bytes, is l. -/
def ByteRow (w : World) (A : Option Addr) (n : Nat) (l : List Nat) : Prop := l.length = n ∧ Bytes l ∧ n ≤ 100000 ∧ Rd .u8 w w.heap.size A l
def OutB (M : Nat) (w : World) (e : Ending) (w' : World) : Prop := ∃ X q d, e = .returned (.slice X q d) ∧ BytIs w' X q M ∧ Below w.heap.size w w'
def numS (M : Nat) := str (be (blen M) M)
def rowT (l : List Nat) := str l
section
variable {w w' : World} {A : Option Addr} {q n M d c : Nat} {l : List Nat}
theorem BytIs.step (h : BytIs w A q M) (b : Below w.heap.size w w') : BytIs w' A q M := ⟨h.1, h.2.1, rd_step h.2.2 b⟩
theorem ByteRow.step (h : ByteRow w A n l) (b : Below w.heap.size w w') : ByteRow w' A n l := ⟨h.1, h.2.1, h.2.2.1, rd_step h.2.2.2 b⟩
theorem BytIs.row (h : BytIs w A q M) : ByteRow w A q (be (blen M) M) := ⟨h.1, be_bytes _ _, h.2.1, h.2.2⟩
theorem ByteRow.str (h : ByteRow w A n l) : (convert 56 9 (.slice A n c)).run Tryz.prog w = .ok (.string (rowT l)) w := by
  obtain ⟨rfl, _, _, h4⟩ := h
  exact run_str (P := Tryz.prog) w 56 9 5 Tryz.underlying56 Tryz.underlying5 Tryz.underlying9 _ A _ c h4
theorem ByteRow.cell (h : ByteRow w A n l) {k : Nat} (hk : k < n) : ∃ b o, A = some ⟨b, o, none⟩ ∧ w.cell? ⟨b, o + k, none⟩ = some (.int .u8 (nth l k : Int)) := by
  obtain ⟨rfl, _, _, h4⟩ := h
  obtain ⟨b, o, rfl, _, hc⟩ := h4 (by omega)
  exact ⟨b, o, rfl, hc k hk⟩
theorem BytIs.str (h : BytIs w A q M) : (convert 56 9 (.slice A q c)).run Tryz.prog w = .ok (.string (numS M)) w := h.row.str
theorem bNB (h : NatIn w A n c M) (hn : n ≤ 12000) : Calls Tryz.prog 46 #[.slice A n c] w (OutB M w) := by
  have hb := h.bits
  have hq := nbits_blen M
  obtain ⟨l, rfl, rfl, h3, h4, h5, h6⟩ := h
  refine Calls.mono (natBytes_any A c l w h5 h3 (by omega) h6) fun e w' ⟨v, he, own, b⟩ => ?_
  obtain ⟨X, d, rfl, _⟩ := own_form own
  exact ⟨X, _, d, he, ⟨length_be _ _, by omega, Rd.own own⟩, b⟩
end
end Go.Proofs.YtjpfcdgaepdcdaaGreat

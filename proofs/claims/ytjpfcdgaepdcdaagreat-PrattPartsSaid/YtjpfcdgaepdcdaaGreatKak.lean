/- Several texts in one; each begins with a remark that says what it shows and on which conditions. -/
import Derived.Test.YtjpfcdgaepdcdaaGreatKab
/- Small powers. No condition but those typed; no program is named. -/
namespace Go.Proofs.YtjpfcdgaepdcdaaGreat
set_option maxRecDepth 20000
theorem w_few12 : (fN (prodP 16 1) fun W => chkN W 4096 49153) = true := by decide +kernel
theorem w_few13 : (fN (prodP 16 1) fun W => chkN W 4096 53249) = true := by decide +kernel
theorem w_few14 : (fN (prodP 16 1) fun W => chkN W 4096 57345) = true := by decide +kernel
theorem w_few15 : (fN (prodP 16 1) fun W => chkN W 3087 61441) = true := by decide +kernel
end Go.Proofs.YtjpfcdgaepdcdaaGreat

/- Several texts in one; each begins with a remark that says what it shows and on which conditions. -/
import Derived.Test.YtjpfcdgaepdcdaaGreatKab
/- Small powers. No condition but those typed; no program is named. -/
namespace Go.Proofs.YtjpfcdgaepdcdaaGreat
set_option maxRecDepth 20000
theorem w_few0 : (fN (prodP 16 1) fun W => chkN W 4096 1) = true := by decide +kernel
theorem w_few1 : (fN (prodP 16 1) fun W => chkN W 4096 4097) = true := by decide +kernel
theorem w_few2 : (fN (prodP 16 1) fun W => chkN W 4096 8193) = true := by decide +kernel
theorem w_few3 : (fN (prodP 16 1) fun W => chkN W 4096 12289) = true := by decide +kernel
theorem w_few4 : (fN (prodP 16 1) fun W => chkN W 4096 16385) = true := by decide +kernel
theorem w_few5 : (fN (prodP 16 1) fun W => chkN W 4096 20481) = true := by decide +kernel
end Go.Proofs.YtjpfcdgaepdcdaaGreat
/- Small powers. No condition but those typed; no program is named. -/
namespace Go.Proofs.YtjpfcdgaepdcdaaGreat
set_option maxRecDepth 20000
theorem w_few6 : (fN (prodP 16 1) fun W => chkN W 4096 24577) = true := by decide +kernel
theorem w_few7 : (fN (prodP 16 1) fun W => chkN W 4096 28673) = true := by decide +kernel
theorem w_few8 : (fN (prodP 16 1) fun W => chkN W 4096 32769) = true := by decide +kernel
theorem w_few9 : (fN (prodP 16 1) fun W => chkN W 4096 36865) = true := by decide +kernel
theorem w_few10 : (fN (prodP 16 1) fun W => chkN W 4096 40961) = true := by decide +kernel
theorem w_few11 : (fN (prodP 16 1) fun W => chkN W 4096 45057) = true := by decide +kernel
end Go.Proofs.YtjpfcdgaepdcdaaGreat

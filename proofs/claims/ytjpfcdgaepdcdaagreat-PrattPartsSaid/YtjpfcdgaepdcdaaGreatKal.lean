/- Several texts in one; each begins with a remark that says what it shows and on which conditions. -/
import Derived.Test.YtjpfcdgaepdcdaaGreatKab
/- Great primes. No condition but those typed; no program is named. -/
namespace Go.Proofs.YtjpfcdgaepdcdaaGreat
set_option maxRecDepth 20000
theorem w_great0 : (fN (prodP 19 1) fun W => chkO W 55168 65) = true := by decide +kernel
theorem w_great1 : (fN (prodP 19 1) fun W => chkO W 20416 110401) = true := by decide +kernel
end Go.Proofs.YtjpfcdgaepdcdaaGreat

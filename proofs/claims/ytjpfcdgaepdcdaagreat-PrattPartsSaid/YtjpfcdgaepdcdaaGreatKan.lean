/- Several texts in one; each begins with a remark that says what it shows and on which conditions. -/
import Derived.Test.YtjpfcdgaepdcdaaGreatKab
/- Great primes. No condition but those typed; no program is named. -/
namespace Go.Proofs.YtjpfcdgaepdcdaaGreat
set_option maxRecDepth 20000
theorem w_great4 : (fN (prodP 19 1) fun W => chkO W 11072 207297) = true := by decide +kernel
theorem w_great5 : (fN (prodP 19 1) fun W => chkO W 9920 229441) = true := by decide +kernel
end Go.Proofs.YtjpfcdgaepdcdaaGreat

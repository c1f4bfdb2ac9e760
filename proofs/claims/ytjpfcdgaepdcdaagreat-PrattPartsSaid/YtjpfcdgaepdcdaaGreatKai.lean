/- Several texts in one; each begins with a remark that says what it shows and on which conditions. -/
import Derived.Test.YtjpfcdgaepdcdaaGreatKab
/- Primes from 2^17 to 2^22. No condition but those typed; no program is named. -/
namespace Go.Proofs.YtjpfcdgaepdcdaaGreat
set_option maxRecDepth 20000
theorem w_mid42 : chkU 72832 3546369 = true := by decide +kernel
theorem w_mid43 : chkU 72960 3692033 = true := by decide +kernel
theorem w_mid44 : chkU 73088 3837953 = true := by decide +kernel
theorem w_mid45 : chkU 73216 3984129 = true := by decide +kernel
theorem w_mid46 : chkU 31872 4130561 = true := by decide +kernel
end Go.Proofs.YtjpfcdgaepdcdaaGreat

/- Several texts in one; each begins with a remark that says what it shows and on which conditions. -/
import Derived.Test.YtjpfcdgaepdcdaaGreatKab
/- Primes from 2^17 to 2^22. No condition but those typed; no program is named. -/
namespace Go.Proofs.YtjpfcdgaepdcdaaGreat
set_option maxRecDepth 20000
theorem w_mid21 : chkU 48320 766977 = true := by decide +kernel
theorem w_mid22 : chkU 52224 863617 = true := by decide +kernel
theorem w_mid23 : chkU 55680 968065 = true := by decide +kernel
theorem w_mid24 : chkU 58624 1079425 = true := by decide +kernel
theorem w_mid25 : chkU 61120 1196673 = true := by decide +kernel
theorem w_mid26 : chkU 63104 1318913 = true := by decide +kernel
theorem w_mid27 : chkU 64832 1445121 = true := by decide +kernel
end Go.Proofs.YtjpfcdgaepdcdaaGreat

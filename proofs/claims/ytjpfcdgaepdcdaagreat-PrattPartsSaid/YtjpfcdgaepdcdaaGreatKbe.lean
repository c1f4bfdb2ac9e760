/- Several texts in one; each begins with a remark that says what it shows and on which conditions. -/
import Derived.Test.YtjpfcdgaepdcdaaGreatKab
import Derived.Test.YtjpfcdgaepdcdaaGreatKbd
import Derived.Test.YtjpfcdgaepdcdaaGreatKbb
import Derived.Test.YtjpfcdgaepdcdaaGreatKbc
import Derived.Test.YtjpfcdgaepdcdaaGreatKaz
/- The reckoning of small primes, by how many twos stand in their orders, and of the few great ones. No condition; no program is named. -/
namespace Go.Proofs.YtjpfcdgaepdcdaaGreat
set_option maxRecDepth 20000
/-- Primes from 11 to 8192 that have as many twos in the orders of 2, 3, 5 and 7. -/
def tblD : List (Nat × List Nat) := [(266241, [107, 347, 443, 683, 827, 947, 1163, 1187, 1283, 1523, 1667, 1787, 2003, 2027, 2843, 2963, 3203, 3347, 3467, 3803, 4523, 4547, 4643, 5147, 5387, 5483, 5867, 5987, 6203, 6323, 6563, 6827, 7043, 7547, 7883, 7907]), (532610, [173, 293, 677, 773, 797, 1013, 1277, 1613, 1637, 1973, 2357, 2477, 2693, 2957, 3533, 3797, 4133, 4157, 4373, 4493, 4637, 4729, 4877, 4973, 5333, 5477, 5717, 5813, 6053, 6173, 6317, 6653, 7013, 7517, 7561, 7853]), (4161, [283, 307, 523, 643, 787, 1123, 1483, 1627, 1867, 1987, 2203, 2467, 2707, 2803, 3163, 3307, 3547, 3643, 4003, 4483, 4507, 4723, 4987, 5227, 5323, 5347, 5563, 5683, 5827, 6067, 6163, 6907, 7027, 7243, 7507, 7867]), (1, [59, 131, 251, 419, 971, 1091, 1259, 1571, 1811, 1931, 1979, 2099, 2411, 2579, 2819, 2939, 3251, 3491, 3659, 3779, 4091, 4259, 4451, 4931, 5099, 5171, 5939, 6011, 6131, 6299, 6779, 6971, 7019, 7451, 7691]), (266304, [127, 463, 487, 823, 967, 1087, 1303, 1327, 1423, 1663, 2143, 2503, 2647, 2767, 3343, 3607, 3823, 3847, 3943, 4327, 4447, 4663, 4783, 5023, 5167, 5503, 5527, 5623, 6007, 6343, 6367, 6703, 6967, 7207, 7687]), (266240, [23, 263, 743, 863, 1103, 1367, 1583, 1607, 2087, 2207, 2423, 2447, 2543, 2927, 3623, 3767, 4127, 4463, 4943, 4967, 5303, 5783, 5807, 5903, 6143, 6287, 6983, 7127, 7247, 7487, 7583, 7823, 8087]), (64, [31, 199, 271, 439, 1039, 1231, 1279, 1399, 1879, 1951, 2239, 2551, 2719, 2791, 3079, 3391, 3559, 3631, 3919, 4231, 4591, 4639, 4759, 5431, 5479, 6079, 6151, 6271, 6991, 7159, 7591, 7759, 7951]), (0, [311, 479, 719, 839, 1151, 1319, 1511, 1559, 2351, 2399, 2999, 3191, 3359, 3671, 3911, 4079, 4679, 4751, 4871, 4919, 5039, 5351, 5519, 5591, 5711, 5879, 6359, 6551, 6599, 6719, 7559, 8039, 8111]), (65, [19, 139, 619, 691, 811, 859, 1291, 1459, 1531, 1699, 2131, 2371, 2539, 2659, 2971, 3331, 3499, 4051, 4219, 4339, 4651, 5011, 5059, 5179, 5659, 5851, 6571, 6691, 7411, 7699, 8011, 8179]), (4096, [47, 167, 383, 503, 647, 887, 983, 1223, 1487, 1823, 1847, 2063, 2663, 2687, 2903, 3023, 3167, 3407, 3527, 3863, 4007, 4583, 4703, 5087, 5927, 6047, 6263, 6863, 7103, 7607, 7703, 7727]), (262144, [71, 191, 239, 359, 431, 599, 911, 1031, 1439, 1871, 2039, 2111, 2591, 2711, 2879, 3119, 3719, 4271, 4391, 4799, 5231, 5279, 5399, 5471, 5639, 6311, 6791, 6911, 6959, 7079, 7151, 7919]), (262208, [79, 151, 631, 751, 919, 991, 1471, 1759, 1831, 1999, 2311, 2671, 3271, 3319, 3511, 4111, 4159, 4519, 4831, 4951, 4999, 5119, 5791, 5839, 6199, 6679, 6871, 7039, 7351, 7639, 7879, 8191]), (262145, [11, 179, 491, 659, 1019, 1451, 1499, 1619, 2339, 2459, 2531, 2699, 3011, 3299, 3371, 3539, 3851, 4019, 4139, 4211, 4691, 5051, 5531, 5651, 6491, 6659, 6899, 7211, 7331, 7499, 8171]), (262209, [211, 331, 379, 499, 571, 739, 1051, 1171, 1579, 2011, 2179, 2251, 2731, 2851, 3019, 3259, 3571, 3691, 3739, 3931, 4099, 5419, 5779, 6091, 6211, 6379, 6451, 6619, 7219, 7459, 8059]), (266305, [43, 67, 163, 547, 883, 907, 1723, 1747, 2083, 2347, 2683, 3067, 3187, 3907, 4027, 4243, 4363, 4603, 5107, 5443, 5923, 6043, 6427, 6547, 6763, 6883, 7603, 7723, 7963]), (4097, [83, 227, 467, 563, 587, 1307, 1427, 1907, 2243, 2267, 3083, 3323, 3923, 3947, 4283, 4787, 5003, 5507, 5843, 6803, 6947, 7187, 7283, 7307, 7523, 7643, 8123, 8147]), (4160, [103, 223, 367, 607, 727, 1063, 1447, 1543, 1567, 1783, 2287, 2383, 2887, 3463, 3583, 3727, 3967, 4423, 4567, 4903, 5407, 5647, 5743, 6247, 6607, 6823, 7927, 8167]), (8322, [653, 1373, 1733, 1997, 2213, 2237, 2333, 2837, 4013, 4253, 4397, 4733, 5573, 5693, 6197, 6917, 7253, 7757, 8093]), (532546, [157, 397, 853, 997, 1693, 2917, 3037, 3517, 3877, 4357, 4597, 5197, 6037, 6277, 6373, 6397, 7213]), (532482, [13, 733, 1237, 2677, 3253, 3373, 3853, 4093, 4933, 5437, 5557, 6733, 7237, 7573, 7717, 8053]), (528514, [509, 1109, 1129, 1181, 1301, 2141, 3701, 3989, 5381, 5501, 5669, 6389, 7229, 7349, 7901, 8069]), (524418, [101, 269, 461, 941, 1949, 2309, 2621, 2789, 2861, 3461, 3821, 5309, 5981, 6221, 7829]), (270466, [53, 197, 317, 557, 1493, 1877, 3413, 3557, 3677, 3917, 4517, 5237, 7877, 8117]), (528386, [229, 1669, 2029, 2341, 3181, 5701, 5869, 6781, 6949, 7069, 7621, 7741]), (262274, [149, 2549, 5021, 5189, 5261, 5741, 5861, 6029, 6269, 6581, 7109]), (4226, [29, 701, 2069, 2741, 3389, 4229, 6101, 6869, 7589]), (266370, [821, 1229, 1709, 1901, 2381, 3221, 4421, 6701, 7949]), (8258, [37, 613, 877, 4813, 5077, 5653, 6637, 7933]), (528450, [61, 349, 661, 3541, 4261, 4549, 6709, 7549]), (270338, [277, 1117, 1597, 2557, 2797, 4957, 5413, 7333]), (270402, [373, 1933, 2053, 2293, 2437, 2521, 3613, 6133]), (8194, [757, 1093, 1213, 1453, 3637, 3733, 6997, 7477]), (798914, [857, 2777, 4073, 4793, 5417, 5897, 6473, 7433]), (524354, [1021, 1069, 1741, 1861, 2749, 3709, 6229, 7789]), (798913, [1097, 1193, 2393, 4217, 4457, 7577, 7817]), (2, [109, 1621, 3229, 5749, 6661, 7669]), (524290, [181, 829, 4021, 4861, 5101, 8089]), (130, [389, 1061, 2909, 3581, 4349, 7541]), (266306, [1549, 1789, 2389, 4789, 5581, 7309]), (66, [1429, 2269, 3109, 4621, 8101]), (1065219, [17, 2897, 6257, 6737]), (536770, [137, 2297, 5657, 7193]), (790722, [521, 761, 3209, 4889]), (262146, [541, 4909, 6421, 6469]), (4098, [709, 1381, 3469, 6301]), (8386, [809, 5849, 7001, 8009]), (12482, [2153, 2633, 5273, 7673]), (786624, [2441, 3449, 4409, 6089]), (794818, [41, 2729, 5801]), (266242, [421, 2221, 5821]), (536769, [617, 3833, 4937]), (803075, [977, 3361, 6833]), (798850, [1201, 2617, 3433]), (1331460, [97, 5857]), (536768, [233, 1913]), (1061059, [241, 2161]), (798722, [313, 1657]), (1331523, [353, 2273]), (1065218, [593, 5393]), (1061120, [881, 4721]), (798784, [937, 7993]), (274626, [953, 3593]), (536705, [1033, 2857]), (794817, [1049, 7481]), (1057027, [1361, 2609]), (1065217, [1553, 5297]), (1331524, [1697, 3617]), (790720, [1721, 5081]), (1065153, [1777, 4273]), (16579, [1873, 6673]), (798786, [1993, 2953]), (794752, [2089, 5689]), (794753, [2281, 6121]), (12418, [2377, 6217]), (1331392, [2593, 4513]), (1073541, [2753, 4673]), (1327428, [3041, 7649]), (532609, [3049, 5881]), (262210, [3301, 6829]), (1864070, [3457, 7297]), (798721, [3673, 5113]), (786498, [3769, 5449]), (790594, [4441, 7321]), (1069380, [5153, 7457]), (1597765, [5953, 7873]), (786625, [6569, 6761]), (278595, [7057, 8017]), (12354, [7177, 7417]), (798848, [73]), (794816, [89]), (278786, [113]), (811269, [193]), (2130436, [257]), (532673, [281]), (803008, [337]), (786691, [401]), (786562, [409]), (1064963, [433]), (1053061, [449]), (274562, [457]), (524482, [569]), (1597700, [577]), (794624, [601]), (1597894, [641]), (1069252, [673]), (2126087, [769]), (1323332, [929]), (536771, [1009]), (1864069, [1153]), (1597827, [1217]), (1327362, [1249]), (270528, [1289]), (802883, [1297]), (794626, [1321]), (549318, [1409]), (798912, [1433]), (8385, [1481]), (1056963, [1489]), (1589636, [1601]), (786560, [1609]), (798849, [1753]), (270400, [1801]), (1323331, [1889]), (1069316, [2017]), (1061188, [2081]), (1597762, [2113]), (790786, [2129]), (536642, [2137]), (540931, [2417]), (536641, [2473]), (807233, [2657]), (1593733, [2689]), (536706, [2713]), (4355, [2801]), (1065089, [2833]), (524480, [2969]), (790658, [3001]), (4162, [3061]), (798978, [3089]), (1052866, [3121]), (1073540, [3137]), (1327300, [3169]), (540866, [3217]), (12480, [3257]), (803010, [3313]), (1864199, [3329]), (8257, [3529]), (540675, [3697]), (536834, [3761]), (1065155, [3793]), (786626, [3881]), (794627, [3889]), (270530, [3929]), (799043, [4001]), (1061121, [4049]), (536640, [4057]), (1323012, [4129]), (536577, [4153]), (1065152, [4177]), (524416, [4201]), (1061123, [4241]), (1593732, [4289]), (798720, [4297]), (278787, [4337]), (1597892, [4481]), (790531, [4561]), (532674, [4649]), (16578, [4657]), (1593604, [4801]), (16642, [4817]), (790530, [4969]), (1339780, [4993]), (536835, [5009]), (532544, [5209]), (278658, [5233]), (1315012, [5281]), (1327493, [5441]), (1060995, [5521]), (786756, [5569]), (794754, [5641]), (274560, [5737]), (274434, [6073]), (807236, [6113]), (194, [6329]), (1335557, [6337]), (803072, [6353]), (790656, [6361]), (270593, [6449]), (1048769, [6481]), (528577, [6521]), (1859841, [6529]), (536576, [6553]), (803011, [6577]), (1061186, [6689]), (798785, [6793]), (266369, [6841]), (274624, [6857]), (1048771, [6961]), (1597829, [6977]), (798977, [7121]), (786561, [7129]), (794690, [7369]), (1069251, [7393]), (1589570, [7489]), (266432, [7529]), (1065091, [7537]), (1868232, [7681]), (536704, [7753]), (540930, [7793]), (1057091, [7841]), (2130439, [7937]), (1057025, [8081]), (1323267, [8161])]
/-- Primes above 2^16, with how often the order of all four goes into p - 1. -/
def exD : List (Nat × Nat) := [(65881, 4), (66361, 2), (66721, 2), (67219, 3), (67651, 5), (68041, 2), (68161, 2), (68881, 2), (69001, 2), (70921, 2), (71389, 3), (71761, 8), (74761, 2), (75289, 4), (75721, 2), (76441, 2), (76561, 2), (76801, 2), (76831, 3), (77641, 2), (78121, 2), (78241, 2), (78643, 3), (79801, 2), (80761, 2), (81001, 2), (81853, 3), (84121, 2), (84961, 2), (85201, 2), (87481, 2), (87721, 2), (88321, 2), (89041, 2), (90001, 2), (90841, 2), (91081, 2), (91381, 3), (91921, 2), (92401, 2), (92761, 2), (93241, 2), (93601, 2), (94201, 2), (94441, 2), (95881, 2), (96601, 2), (96769, 4), (97441, 2), (97561, 2), (98641, 2), (99241, 2), (99961, 2), (100801, 2), (101161, 2), (101641, 2), (102001, 2), (102481, 2), (102841, 2), (103681, 2), (104161, 2), (104281, 2), (105361, 2), (106669, 3), (106681, 2), (106801, 2), (107641, 2), (107881, 2), (109201, 2), (109321, 2), (110161, 2), (110881, 2), (111721, 2), (112921, 2), (113761, 2), (114601, 2), (115201, 2), (116041, 2), (116881, 2), (117721, 2), (118801, 2), (120121, 2), (121081, 2), (121321, 2), (121921, 2), (122761, 2), (123001, 2), (123601, 2), (126001, 2), (126961, 2), (127507, 3), (127681, 2), (128521, 2), (128831, 10), (129361, 2), (130201, 2), (131041, 2), (132001, 4), (132049, 4), (133447, 3), (145601, 5), (147289, 4), (148627, 3), (149197, 3), (152041, 4), (155521, 4), (156307, 3), (170809, 4), (184969, 4), (184999, 3), (191137, 3), (194431, 3), (194869, 3), (196681, 4), (211969, 4), (230449, 4), (232801, 4), (234361, 4), (236329, 4), (238681, 4), (241981, 5), (244561, 4), (247249, 4), (248089, 4)]
theorem r_small : chkT tblD = true := by decide +kernel
theorem r_signs : chkS tblD 8192 1 = true := by decide +kernel
theorem r_few1 : (fN (prodP 13 1) fun W => chkG W 1008 1) = true := by decide +kernel
theorem r_few2 : (fN (prodP 16 1) fun W => chkG W 3816 1) = true := by decide +kernel
def moreB (x : Nat × Nat) : Bool := cond (chk1 x.1 x.2) (cond (Nat.blt 0 x.2) (cond (Nat.beq (Nat.mod x.1 2) 1) (cond (Nat.beq (Nat.mod x.1 3) 0) false (Nat.blt x.1 248090)) false) false) false
theorem r_more : exD.all moreB = true := by decide +kernel
theorem more_all : ∀ x ∈ exD, chk1 x.1 x.2 = true ∧ 0 < x.2 ∧ x.1 % 2 = 1 ∧ x.1 % 3 ≠ 0 ∧ x.1 < 248090 := fun x hx => by
  have h := List.all_eq_true.1 r_more x hx
  unfold moreB at h
  cases h1 : chk1 x.1 x.2
  · rw [h1] at h; cases h
  rw [h1, cond_true] at h
  cases h2 : Nat.blt 0 x.2
  · rw [h2] at h; cases h
  rw [h2, cond_true] at h
  cases h3 : Nat.beq (Nat.mod x.1 2) 1
  · rw [h3] at h; cases h
  rw [h3, cond_true] at h
  cases h4 : Nat.beq (Nat.mod x.1 3) 0
  · rw [h4, cond_false] at h
    refine ⟨rfl, Nat.le_of_ble_eq_true h2, Nat.eq_of_beq_eq_true h3, fun e => ?_, Nat.le_of_ble_eq_true h⟩
    have : Nat.beq (Nat.mod x.1 3) 0 = true := beqP_of e
    rw [h4] at this
    cases this
  · rw [h4] at h; cases h
end Go.Proofs.YtjpfcdgaepdcdaaGreat
/- The reckoning of primes above 2^16. No condition; no program is named. -/
namespace Go.Proofs.YtjpfcdgaepdcdaaGreat
set_option maxRecDepth 20000
theorem r_great0 : (fN (prodP 16 1) fun W => fN (Nat.mul W (prodL exD)) fun W => chkK W 8190 2) = true := by decide +kernel
theorem r_great1 : (fN (prodP 16 1) fun W => fN (Nat.mul W (prodL exD)) fun W => chkK W 8192 8192) = true := by decide +kernel
theorem r_great2 : (fN (prodP 16 1) fun W => fN (Nat.mul W (prodL exD)) fun W => chkK W 8192 16384) = true := by decide +kernel
theorem r_great3 : (fN (prodP 16 1) fun W => fN (Nat.mul W (prodL exD)) fun W => chkK W 8192 24576) = true := by decide +kernel
theorem r_great4 : (fN (prodP 16 1) fun W => fN (Nat.mul W (prodL exD)) fun W => chkK W 8192 32768) = true := by decide +kernel
theorem r_great5 : (fN (prodP 16 1) fun W => fN (Nat.mul W (prodL exD)) fun W => chkK W 8192 40960) = true := by decide +kernel
theorem r_great6 : (fN (prodP 16 1) fun W => fN (Nat.mul W (prodL exD)) fun W => chkK W 8192 49152) = true := by decide +kernel
theorem r_great7 : (fN (prodP 16 1) fun W => fN (Nat.mul W (prodL exD)) fun W => chkK W 8192 57344) = true := by decide +kernel
theorem great_one {f k0 k : Nat} (h : (fN (prodP 16 1) fun W => fN (Nat.mul W (prodL exD)) fun W => chkK W f k0) = true) (h0 : k0 ≤ k) (h1 : k < k0 + f) (hg : Nat.gcd k 210 = 1) : GG (k - 1) ∣ prodP 16 1 * prodL exD := by
  rw [fN_eq, fN_eq] at h
  have := chkK_true f k0 h (k - k0) (by omega)
  rw [show k0 + (k - k0) = k by omega] at this
  exact this hg
theorem great_all : ∀ k, 2 ≤ k → k < 65536 → Nat.gcd k 210 = 1 → GG (k - 1) ∣ prodP 16 1 * prodL exD := fun k _ _ hg => by
  by_cases h0 : k < 8192
  · exact great_one r_great0 (by omega) (by omega) hg
  by_cases h1 : k < 16384
  · exact great_one r_great1 (by omega) (by omega) hg
  by_cases h2 : k < 24576
  · exact great_one r_great2 (by omega) (by omega) hg
  by_cases h3 : k < 32768
  · exact great_one r_great3 (by omega) (by omega) hg
  by_cases h4 : k < 40960
  · exact great_one r_great4 (by omega) (by omega) hg
  by_cases h5 : k < 49152
  · exact great_one r_great5 (by omega) (by omega) hg
  by_cases h6 : k < 57344
  · exact great_one r_great6 (by omega) (by omega) hg
  exact great_one r_great7 (by omega) (by omega) hg
end Go.Proofs.YtjpfcdgaepdcdaaGreat
/- What passes to 2, 3, 5 and 7 and is below 2^32 is a prime, or 3215031751; a prime passes to all bases that it does not divide. No condition but those typed; no program is named. -/
namespace Go.Proofs.YtjpfcdgaepdcdaaGreat
/-- What passes to the four bases. -/
theorem four_bases {n : Nat} (hn : 1 < n) (hlt : n < 4294967296) (h2 : Pass n 2) (h3 : Pass n 3) (h5 : Pass n 5) (h7 : Pass n 7) : Prm n ∨ n = 3215031751 :=
  four_of ⟨r_small, r_signs, r_few1, mid_all, r_few2, great_all, more_all⟩ hn hlt ⟨h2, h3, h5, h7⟩
/-- What squared leaves 1 leaves 1 or p - 1. -/
theorem Prm.root {p x : Nat} (hp : Prm p) (h : x * x % p = 1) : x % p = 1 ∨ x % p = p - 1 := by
  have h2 := hp.1
  obtain ⟨y, hy⟩ : ∃ y, x % p = y := ⟨_, rfl⟩
  rw [Nat.mul_mod, hy] at h
  rw [hy]
  have hlt : y < p := by rw [← hy]; exact Nat.mod_lt _ (by omega)
  rcases y with _ | y
  · rw [Nat.zero_mul, Nat.zero_mod] at h; omega
  · have hd : p ∣ y * (y + 2) := by
      have e : (y + 1) * (y + 1) = y * (y + 2) + 1 := by simp only [Nat.add_mul, Nat.mul_add]; omega
      have hm := Nat.div_add_mod ((y + 1) * (y + 1)) p
      rw [h, e] at hm
      exact ⟨_, (Nat.add_right_cancel hm).symm⟩
    rcases hp.euclid _ _ hd with h1 | h1
    · rcases Nat.eq_zero_or_pos y with h0 | h0
      · subst h0; exact .inl rfl
      · have := Nat.le_of_dvd h0 h1; omega
    · have := Nat.le_of_dvd (by omega) h1
      exact .inr (by omega)
/-- A prime passes. -/
theorem Prm.pass {p a : Nat} (hp : Prm p) (ho : p % 2 = 1) (ha : ¬ p ∣ a) : Pass p a := by
  have h2 := hp.1
  have hf := fermat hp ha
  have hodd : ∀ m, 0 < m → ∃ s d, m = 2 ^ s * d ∧ d % 2 = 1 := by
    intro m
    induction m using Nat.strongRecOn with
    | ind m ih =>
      intro hm
      rcases (show m % 2 = 0 ∨ m % 2 = 1 by omega) with h | h
      · obtain ⟨s, d, e, hd⟩ := ih (m / 2) (by omega) (by omega)
        refine ⟨s + 1, d, ?_, hd⟩
        rw [Nat.pow_succ, Nat.mul_assoc, Nat.mul_comm 2, ← Nat.mul_assoc, ← e]
        omega
      · exact ⟨0, m, by simp, h⟩
  obtain ⟨s, d, e, hd⟩ := hodd (p - 1) (by omega)
  refine ⟨s, d, e, hd, ?_⟩
  rw [e] at hf
  have key : ∀ s, a ^ (2 ^ s * d) % p = 1 → a ^ d % p = 1 ∨ ∃ i, i < s ∧ a ^ (2 ^ i * d) % p = p - 1 := by
    intro s
    induction s with
    | zero => intro h; rw [Nat.pow_zero, Nat.one_mul] at h; exact .inl h
    | succ s ih =>
      intro h
      have e2 : 2 ^ (s + 1) * d = 2 ^ s * d + 2 ^ s * d := by rw [Nat.pow_succ, Nat.mul_assoc, Nat.mul_comm 2 d, ← Nat.mul_assoc, ← Nat.mul_two]
      rw [e2, Nat.pow_add] at h
      rcases hp.root h with h1 | h1
      · rcases ih h1 with h3 | ⟨i, hi, h3⟩
        · exact .inl h3
        · exact .inr ⟨i, by omega, h3⟩
      · exact .inr ⟨s, by omega, h1⟩
  exact key s hf
end Go.Proofs.YtjpfcdgaepdcdaaGreat
/- Plain facts on trying, on passing to bases, and on primes between a number and twice it. No condition but those typed; no program is named. -/
namespace Go.Proofs.YtjpfcdgaepdcdaaGreat
theorem least_where (P : Nat → Prop) [DecidablePred P] : ∀ k, (∃ d, d < k ∧ P d ∧ ∀ e, e < d → ¬ P e) ∨ ∀ d, d < k → ¬ P d := by
  intro k
  induction k with
  | zero => exact .inr fun d h => by omega
  | succ k ih =>
    rcases ih with ⟨d, h1, h2, h3⟩ | h
    · exact .inl ⟨d, by omega, h2, h3⟩
    · by_cases hk : P k
      · exact .inl ⟨k, by omega, hk, h⟩
      · refine .inr fun d hd => ?_
        rcases Nat.lt_succ_iff_lt_or_eq.1 hd with h1 | rfl
        · exact h d h1
        · exact hk
/-- The least number from 2 to most, and to 65536, that divides n and is less; or 0. -/
def IsTrial (n most r : Nat) : Prop := (r = 0 ∧ ∀ d, 2 ≤ d → d ≤ most → d ≤ 65536 → d < n → n % d ≠ 0) ∨ (2 ≤ r ∧ r ≤ most ∧ r ≤ 65536 ∧ r < n ∧ n % r = 0 ∧ ∀ d, 2 ≤ d → d < r → n % d ≠ 0)
theorem isTrial_some (n most : Nat) : ∃ r, IsTrial n most r := by
  rcases least_where (fun d => 2 ≤ d ∧ d ≤ most ∧ d ≤ 65536 ∧ d < n ∧ n % d = 0) 65537 with ⟨d, _, ⟨h1, h2, h3, h4, h5⟩, h6⟩ | h
  · exact ⟨d, .inr ⟨h1, h2, h3, h4, h5, fun e he hd hz => h6 e hd ⟨he, by omega, by omega, by omega, hz⟩⟩⟩
  · exact ⟨0, .inl ⟨rfl, fun d h1 h2 h3 h4 h5 => h d (by omega) ⟨h1, h2, h3, h4, h5⟩⟩⟩
theorem isTrial_uniq {n most r s : Nat} (h : IsTrial n most r) (k : IsTrial n most s) : r = s := by
  rcases h with ⟨rfl, h⟩ | ⟨h1, h2, h3, h4, h5, h6⟩ <;> rcases k with ⟨rfl, k⟩ | ⟨k1, k2, k3, k4, k5, k6⟩
  · rfl
  · exact absurd k5 (h s k1 k2 k3 k4)
  · exact absurd h5 (k r h1 h2 h3 h4)
  · rcases Nat.lt_trichotomy r s with h7 | h7 | h7
    · exact absurd h5 (k6 r h1 h7)
    · exact h7
    · exact absurd k5 (h6 s k1 h7)
/-- A number passes, as the chapter says it. -/
def PassD (n a : Nat) : Prop := 3 ≤ n ∧ n % 2 = 1 ∧ Pass n a
theorem passD_iff {n a s d : Nat} (h3 : 3 ≤ n) (ho : n % 2 = 1) (he : n - 1 = 2 ^ s * d) (hd : d % 2 = 1) : PassD n a ↔ (a ^ d % n = 1 ∨ ∃ i, i < s ∧ a ^ (2 ^ i * d) % n = n - 1) := by
  refine ⟨?_, fun h => ⟨h3, ho, s, d, he, hd, h⟩⟩
  rintro ⟨_, _, t, e, h1, h2, h⟩
  obtain ⟨rfl, rfl⟩ := odd_uniq hd h2 (he.symm.trans h1)
  exact h
/-- A number passes to all of the bases that it does not divide, one at least; or it is 2. -/
def ProbD (n : Nat) (l : List Nat) : Prop := n = 2 ∨ ((∃ x ∈ l, ¬ (0 < n ∧ x % n = 0)) ∧ ∀ x ∈ l, ¬ (0 < n ∧ x % n = 0) → PassD n x)
/-! Primes by trying -/
theorem prm_iff_try {n : Nat} : Prm n ↔ 2 ≤ n ∧ ∀ d, 2 ≤ d → d * d ≤ n → n % d ≠ 0 := by
  constructor
  · intro h
    refine ⟨h.1, fun d h1 h2 h3 => ?_⟩
    rcases h.2 d (Nat.dvd_of_mod_eq_zero h3) with e | e
    · omega
    · subst e
      have : d * 2 ≤ d * d := Nat.mul_le_mul_left _ h1
      omega
  · rintro ⟨h2, h⟩
    obtain ⟨p, hp, hd⟩ := prm_factor n h2
    by_cases hpp : p * p ≤ n
    · exact absurd (Nat.mod_eq_zero_of_dvd hd) (h p hp.1 hpp)
    · obtain ⟨q, rfl⟩ := hd
      have hq : q < p := by
        rcases Nat.lt_or_ge q p with e | e
        · exact e
        · exact absurd (Nat.mul_le_mul_left p e) hpp
      have hp2 := hp.1
      rcases Nat.lt_or_ge q 2 with e | e
      · have : q = 1 := by
          rcases Nat.eq_zero_or_pos q with e0 | e0
          · subst e0; simp at h2
          · omega
        subst this
        rwa [Nat.mul_one]
      · exfalso
        refine h q e ?_ (Nat.mul_mod_left _ _)
        exact Nat.mul_le_mul_right q (Nat.le_of_lt hq)
/-- None from k on, so many, divides n. -/
def noneB (n : Nat) (f : Nat) : Nat → Bool := Nat.rec (motive := fun _ => Nat → Bool) (fun _ => true) (fun _ ih d => cond (Nat.beq (Nat.mod n d) 0) false (fN (Nat.succ d) ih)) f
theorem noneB_true {n : Nat} : ∀ f d, noneB n f d = true → ∀ e, d ≤ e → e < d + f → n % e ≠ 0 := by
  intro f
  induction f with
  | zero => intro d _ e h1 h2; omega
  | succ f ih =>
    intro d h e h1 h2
    have h' : cond (Nat.beq (Nat.mod n d) 0) false (fN (Nat.succ d) (noneB n f)) = true := h
    rw [fN_eq] at h'
    cases hb : Nat.beq (Nat.mod n d) 0 with
    | true => rw [hb] at h'; cases h'
    | false =>
      rw [hb] at h'
      rcases Nat.lt_or_ge d e with h3 | h3
      · exact ih (d + 1) h' e h3 (by omega)
      · obtain rfl : e = d := by omega
        intro h0
        have : Nat.beq (Nat.mod n e) 0 = true := beqP_of h0
        rw [this] at hb
        cases hb
theorem prm_tried {n f : Nat} (h2 : 2 ≤ n) (h : noneB n f 2 = true) (hf : n < (f + 2) * (f + 2)) : Prm n :=
  prm_iff_try.2 ⟨h2, fun d h1 h3 => noneB_true f 2 h d h1 (by
    rcases Nat.lt_or_ge d (2 + f) with e | e
    · exact e
    · have := Nat.mul_le_mul e e
      rw [Nat.add_comm 2 f] at this
      omega)⟩
end Go.Proofs.YtjpfcdgaepdcdaaGreat
/- prime's small functions: ofWord, fits, halvings. Conditions: as typed (lengths that fit a machine). -/
namespace Go.Proofs.YtjpfcdgaepdcdaaGreat
open Go.RowKit
set_option maxRecDepth 20000
/-- None from 2 on and below d divides. -/
def NoneTo (n d : Nat) : Prop := ∀ e, 2 ≤ e → e < d → n % e ≠ 0
theorem NoneTo.two (n : Nat) : NoneTo n 2 := fun e h1 h2 => by omega
theorem NoneTo.three {n : Nat} (h : n % 2 ≠ 0) : NoneTo n 3 := fun e h1 h2 => by
  obtain rfl : e = 2 := by omega
  exact h
theorem NoneTo.odd {n d : Nat} (h : NoneTo n d) (h3 : 3 ≤ d) (ho : d % 2 = 1) : NoneTo n (d + 2) ↔ n % d ≠ 0 := by
  refine ⟨fun k => k d (by omega) (by omega), fun hd e h1 h2 => ?_⟩
  rcases Nat.lt_or_ge e d with h4 | h4
  · exact h e h1 h4
  · rcases Nat.eq_or_lt_of_le h4 with rfl | h5
    · exact hd
    · obtain rfl : e = d + 1 := by omega
      intro h0
      have h6 : n % (d + 1) % 2 = n % 2 := Nat.mod_mod_of_dvd n (Nat.dvd_of_mod_eq_zero (by omega))
      rw [h0] at h6
      exact h 2 (by omega) (by omega) h6.symm
theorem NoneTo.next {n d : Nat} (h : NoneTo n d) (h2 : 2 ≤ d) (hd : n % d ≠ 0) (ho : d = 2 ∨ d % 2 = 1) : NoneTo n (d + (1 + d % 2)) := by
  rcases ho with rfl | ho
  · exact NoneTo.three hd
  · rw [ho]
    exact (h.odd (by omega) ho).2 hd
theorem trial_found {n most d : Nat} (h : NoneTo n d) (h2 : 2 ≤ d) (hm : d ≤ most) (hb : d ≤ 65536) (hn : d < n) (h0 : n % d = 0) : IsTrial n most d := .inr ⟨h2, hm, hb, hn, h0, h⟩
theorem trial_past {n most d : Nat} (h : NoneTo n d) (hm : most < d ∨ 65536 < d) : IsTrial n most 0 := .inl ⟨rfl, fun e h1 h2 h3 _ => h e h1 (by omega)⟩
theorem trial_root {n most d : Nat} (h : NoneTo n d) (hs : n < d * d) : IsTrial n most 0 := .inl ⟨rfl, fun e h1 _ _ h4 h0 => by
  rcases Nat.lt_or_ge e d with h5 | h5
  · exact h e h1 h5 h0
  · obtain ⟨f, rfl⟩ := Nat.dvd_of_mod_eq_zero h0
    have h6 : f < d := by
      rcases Nat.lt_or_ge f d with h7 | h7
      · exact h7
      · have := Nat.mul_le_mul h5 h7
        omega
    have h7 : 2 ≤ f := by
      rcases Nat.lt_or_ge f 2 with h8 | h8
      · have : e * f ≤ e * 1 := Nat.mul_le_mul_left e (by omega)
        omega
      · exact h8
    exact h f h7 h6 (Nat.mul_mod_left _ _)⟩
theorem trial_min {n most r : Nat} : IsTrial n (min most 65536) r ↔ IsTrial n most r := by
  unfold IsTrial
  constructor
  · rintro (⟨h1, h2⟩ | ⟨h1, h2, h3, h4⟩)
    · exact .inl ⟨h1, fun d h3 h4 h5 => h2 d h3 (by omega) h5⟩
    · exact .inr ⟨h1, by omega, h3, h4⟩
  · rintro (⟨h1, h2⟩ | ⟨h1, h2, h3, h4⟩)
    · exact .inl ⟨h1, fun d h3 h4 h5 => h2 d h3 (by omega) h5⟩
    · exact .inr ⟨h1, by omega, h3, h4⟩
set_option maxHeartbeats 1000000 in
theorem ofWord_any (n most r : Nat) (hn : n < 18446744073709551616) (hm : most ≤ 65536) (hr : IsTrial n most r) (b : Bool) (hb : b = true ↔ r ≠ 0) (w : World) :
    Calls Tryz.prog 51 #[.int .u64 n, .int .u64 most] w fun e w' => e = .returned (.tuple #[.int .u64 r, .bool b]) ∧ w = w' := by
  have HR := Lib.hid hr
  have HB := Lib.hid hb
  clear hr hb
  go_enter Tryz.func51, Tryz.ntmps51
  go_wp2_with fail
  go_loopw [6] (fun dv wr => ∃ d : Nat, dv = .int .u64 d ∧ 2 ≤ d ∧ d ≤ 65540 ∧ Hid (d = 2 ∨ d % 2 = 1) ∧ Hid (NoneTo n d) ∧ w = wr) (fun dv _ => 65542 - (intOf dv).toNat)
  case atStart => exact ⟨2, rfl, by omega, by omega, Lib.hid (.inl rfl), Lib.hid (NoneTo.two n), rfl⟩
  case round =>
    obtain ⟨d, rfl, h2, hd, ho, hN, rfl⟩ := hrel
    by_cases h1 : d ≤ most
    · obtain ⟨q, hq⟩ : ∃ q, d * d = q := ⟨_, rfl⟩
      have hql : q ≤ 65536 * 65536 := by rw [← hq]; exact Nat.mul_le_mul (by omega) (by omega)
      have hqi : (d : Int) * (d : Int) = (q : Int) := by rw [← hq]; simp
      have HQ := Lib.hid hq
      clear hq
      by_cases h3 : q ≤ n
      · obtain ⟨y, hy⟩ : ∃ y, n % d = y := ⟨_, rfl⟩
        have hyi : (n : Int) % (d : Int) = (y : Int) := by rw [← hy]; simp
        have HY := Lib.hid hy
        clear hy
        by_cases h4 : y = 0
        · subst h4
          have hdn : d < n := by
            have h5 := HQ.out
            have : d * 2 ≤ d * d := Nat.mul_le_mul_left d h2
            omega
          have hrd : r = d := isTrial_uniq HR.out (trial_found hN.out h2 h1 (by omega) hdn HY.out)
          have hbt : b = true := HB.out.2 (by omega)
          subst hrd
          subst hbt
          go_wp2_with fail
          go_ret2
          exact ⟨rfl, rfl⟩
        · have h4b : ((y : Int) == 0) = false := by simp; omega
          have HN := Lib.hid (hN.out.next h2 (by rw [HY.out]; exact h4) ho.out)
          have HO := Lib.hid (show d + (1 + d % 2) = 2 ∨ (d + (1 + d % 2)) % 2 = 1 by have := ho.out; omega)
          go_wp2_with fail
          go_roundw
          case rel => exact ⟨d + (1 + d % 2), by go_num, by omega, by omega, HO.out |> Lib.hid, HN, trivial⟩
          case measure => simp [intOf]; omega
      · have hr0 : r = 0 := isTrial_uniq HR.out (trial_root hN.out (by rw [HQ.out]; omega))
        have hbf : b = false := by
          rcases hb : b with _ | _
          · rfl
          · exact absurd hr0 (HB.out.1 hb)
        subst hr0
        subst hbf
        go_wp2_with fail
        go_ret2
        exact ⟨rfl, rfl⟩
    · have hr0 : r = 0 := isTrial_uniq HR.out (trial_past hN.out (by omega))
      have hbf : b = false := by
        rcases hb : b with _ | _
        · rfl
        · exact absurd hr0 (HB.out.1 hb)
      subst hr0
      subst hbf
      go_wp2_with fail
      go_ret2
      exact ⟨rfl, rfl⟩
/-! Which may be asked of by Strong -/
set_option maxHeartbeats 1000000 in
theorem fits_any {w : World} {A : Option Addr} {n c : Nat} {l : List Nat} (P : RowIs w A n c l) (b : Bool) (hb : b = true ↔ (l = wd (natOf l) ∧ nbits (natOf l) ≤ 1024)) :
    Calls Tryz.prog 78 #[.slice A n c] w fun e w' => e = .returned (.bool b) ∧ Below w.heap.size w w' := by
  have hN := P.in_
  have hbn := hN.bits
  have hnl := P.2.2.1
  have HB := Lib.hid fun (u : World) (e : Below w.heap.size w u) => bBits (hN.step e)
  have hM := natMay_any A c l w P.2.2.2.1 P.2.1 (by have := P.1; have := P.2.2.1; omega) (by have := P.1; have := P.2.2.2.2; omega)
  rw [P.1] at hM
  obtain ⟨s, hs⟩ : ∃ s, nbits (natOf l) = s := ⟨_, rfl⟩
  rw [hs] at hb HB hbn
  by_cases h1 : l = wd (natOf l)
  · rw [decide_eq_true h1] at hM
    have HM := Lib.hid hM
    have hb2 : decide (s ≤ 1024) = b := by
      rw [Bool.eq_iff_iff, decide_eq_true_eq, hb]
      exact ⟨fun h => ⟨h1, h⟩, fun h => h.2⟩
    have hb3 : decide ((s : Int) ≤ 1024) = b := by rw [← hb2]; exact decide_eq_decide.2 (by omega)
    clear hM hb h1 hN P hs
    go_enter Tryz.func78, Tryz.ntmps78
    go_wp2_with fail
    refine (HM.out).mono ?_
    rintro e w1 ⟨rfl, b1⟩
    go_wp2_with fail
    refine (HB.out _ b1).mono ?_
    rintro e w2 ⟨rfl, b2⟩
    go_wp2_with fail
    go_ret
    exact ⟨rfl, below_step b1 b2⟩
  · rw [decide_eq_false h1] at hM
    have HM := Lib.hid hM
    have hbf : b = false := by
      rcases h : b with _ | _
      · rfl
      · exact absurd (hb.1 h).1 h1
    subst hbf
    clear hM hb h1 hN P hs
    go_enter Tryz.func78, Tryz.ntmps78
    go_wp2_with fail
    refine (HM.out).mono ?_
    rintro e w1 ⟨rfl, b1⟩
    go_wp2_with fail
    go_ret
    exact ⟨rfl, b1⟩
/-! How often a number is even -/
theorem bit_twos (s d : Nat) (hd : d % 2 = 1) (k : Nat) (hk : k ≤ s) : bit (2 ^ s * d) k = if k = s then 1 else 0 := by
  unfold bit
  have e : 2 ^ s = 2 ^ k * 2 ^ (s - k) := by rw [← Nat.pow_add]; congr 1; omega
  rw [e, Nat.mul_assoc, Nat.mul_div_cancel_left _ (Nat.pow_pos (by omega))]
  split
  · rename_i h
    subst h
    rw [Nat.sub_self, Nat.pow_zero, Nat.one_mul]
    exact hd
  · rw [show s - k = (s - k - 1) + 1 by omega, Nat.pow_succ, Nat.mul_comm (2 ^ (s - k - 1)) 2, Nat.mul_assoc]
    omega
set_option maxHeartbeats 1000000 in
theorem halvings_any {w : World} {A : Option Addr} {n c M s d : Nat} (h : NatIn w A n c M) (e : M = 2 ^ s * d) (hd : d % 2 = 1) (hs : s ≤ 3200000) :
    Calls Tryz.prog 79 #[.slice A n c] w fun e w' => e = .returned (.int .i64 (s : Nat)) ∧ Below w.heap.size w w' := by
  have H := Lib.hid h
  have HE := Lib.hid e
  have HD := Lib.hid hd
  clear h e hd
  go_enter Tryz.func79, Tryz.ntmps79
  go_wp2_with fail
  go_loopw [3] (fun tv wr => ∃ k : Nat, tv = .int .i64 k ∧ k ≤ s ∧ Below w.heap.size w wr) (fun tv _ => s - (intOf tv).toNat)
  case atStart => exact ⟨0, rfl, Nat.zero_le _, Below.refl _ _⟩
  case round =>
    obtain ⟨k, rfl, hk, hb⟩ := hrel
    have B := bBit (H.out.step hb) (k : Int) (by unfold MaxI; omega)
    rw [HE.out, show bitS (2 ^ s * d) (k : Int) = ((if k = s then 1 else 0 : Nat)) by unfold bitS; rw [if_neg (by omega), Int.toNat_natCast, bit_twos s d HD.out k hk]] at B
    by_cases h1 : k = s
    · rw [if_pos h1] at B
      have HB := Lib.hid B
      clear B
      subst h1
      go_wp2_with fail
      refine (HB.out).mono ?_
      rintro e w1 ⟨rfl, b1⟩
      go_wp2_with fail
      go_ret
      exact ⟨rfl, below_step hb b1⟩
    · rw [if_neg h1] at B
      have HB := Lib.hid B
      clear B
      go_wp2_with fail
      refine (HB.out).mono ?_
      rintro e w1 ⟨rfl, b1⟩
      go_wp2_with fail
      go_roundw
      case rel => exact ⟨k + 1, by go_num, by omega, below_step hb b1⟩
      case measure => simp [intOf]; omega
end Go.Proofs.YtjpfcdgaepdcdaaGreat
/- prime's Trial: numbers of one word, and of more. Conditions: as typed (lengths that fit a machine). -/
namespace Go.Proofs.YtjpfcdgaepdcdaaGreat
open Go.RowKit
set_option maxRecDepth 20000
/-- Between two rounds of ofWords. -/
def TriMid (M most f : Nat) : Prop := (f ≤ most → NoneTo M f) ∧ (most < f → IsTrial M most 0)
theorem TriMid.three {M most : Nat} (h : M % 2 ≠ 0) : TriMid M most 3 := ⟨fun _ => NoneTo.three h, fun hm => trial_past (NoneTo.three h) (.inl hm)⟩
theorem TriMid.less {M most : Nat} (h : most < 2) : TriMid M most 3 := ⟨fun _ => by omega, fun _ => trial_past (NoneTo.two M) (.inl h)⟩
theorem TriMid.behind {M most f d : Nat} (h : NoneTo M d) (hd : d = f + 8 ∨ most < d) (hf : d ≤ f + 8) : TriMid M most (f + 8) := by
  rcases hd with rfl | hd
  · exact ⟨fun _ => h, fun hm => trial_past h (.inl hm)⟩
  · exact ⟨fun _ => by omega, fun _ => trial_past h (.inl hd)⟩
/-- The four odd numbers from f on, multiplied. -/
def four9 (f : Nat) : Nat := f * (f + 2) * (f + 4) * (f + 6)
theorem four9_dvd {f d : Nat} (h : d = f ∨ d = f + 2 ∨ d = f + 4 ∨ d = f + 6) : d ∣ four9 f := by
  unfold four9
  rcases h with rfl | rfl | rfl | rfl
  · rw [Nat.mul_assoc, Nat.mul_assoc]; exact Nat.dvd_mul_right _ _
  · rw [Nat.mul_assoc, Nat.mul_assoc, Nat.mul_left_comm]; exact Nat.dvd_mul_right _ _
  · exact Nat.dvd_trans (Nat.dvd_mul_left _ _) (Nat.dvd_mul_right _ _)
  · exact Nat.dvd_mul_left _ _
set_option maxRecDepth 100000 in
set_option maxHeartbeats 2000000 in
theorem ofWords_trial {w : World} {A : Option Addr} {n c M : Nat} (h : NatIn w A n c M) (hs : n ≤ 9500) (hM : 18446744073709551616 ≤ M) (most r : Nat) (hm : most ≤ 65536) (hr : IsTrial M most r) (b : Bool) (hb : b = true ↔ r ≠ 0) :
    Calls Tryz.prog 52 #[.slice A n c, .int .u64 most] w fun e w' => e = .returned (.tuple #[.int .u64 r, .bool b]) ∧ Below w.heap.size w w' := by
  have H := Lib.hid h
  have HR := Lib.hid hr
  have HM := Lib.hid hM
  have HBF := Lib.hid (show r = 0 → b = false from fun h => by
    rcases hb2 : b with _ | _
    · rfl
    · exact absurd h (hb.1 hb2))
  have HBT := Lib.hid (show r ≠ 0 → b = true from hb.2)
  clear h hr hb hM
  by_cases h2 : 2 ≤ most
  · have B := bBit H.out 0 (by unfold MaxI; omega)
    by_cases hp : M % 2 = 0
    · have hr2 : r = 2 := isTrial_uniq HR.out (trial_found (NoneTo.two M) (by omega) h2 (by omega) (by have := HM.out; omega) hp)
      have hbt := HBT.out (by omega)
      rw [show bitS M 0 = 0 by simp [bitS, bit, hp]] at B
      subst hr2
      subst hbt
      have HBB := Lib.hid B
      clear B hp
      go_enter Tryz.func52, Tryz.ntmps52
      go_wp2_with fail
      refine (HBB.out).mono ?_
      rintro e w1 ⟨rfl, b1⟩
      go_wp2_with fail
      go_ret2
      exact ⟨rfl, b1⟩
    · rw [show bitS M 0 = 1 by unfold bitS; rw [if_neg (by omega)]; show M / 1 % 2 = 1; rw [Nat.div_one]; omega] at B
      have HBB := Lib.hid B
      have H3 := Lib.hid (TriMid.three (most := most) hp)
      clear B hp
      go_enter Tryz.func52, Tryz.ntmps52
      go_wp2_with fail
      refine (HBB.out).mono ?_
      rintro e w1 ⟨rfl, b1⟩
      go_wp2_with fail
      go_loopw [6] (fun fv wr => ∃ f : Nat, fv = .int .u64 f ∧ f % 8 = 3 ∧ f ≤ 65547 ∧ Hid (TriMid M most f) ∧ Below w.heap.size w wr) (fun fv _ => 65548 - (intOf fv).toNat)
      case atStart => exact ⟨3, rfl, by omega, by omega, H3, b1⟩
      case round =>
        clear b1 HBB H3
        obtain ⟨f, rfl, hf, hfl, hT, hB⟩ := hrel
        by_cases h1 : f ≤ most
        · obtain ⟨p1, hp1⟩ : ∃ p, f * (f + 2) = p := ⟨_, rfl⟩
          have hp1l : p1 ≤ 65531 * 65533 := by rw [← hp1]; exact Nat.mul_le_mul (by omega) (by omega)
          obtain ⟨p2, hp2⟩ : ∃ p, p1 * (f + 4) = p := ⟨_, rfl⟩
          have hp2l : p2 ≤ 65531 * 65533 * 65535 := by rw [← hp2]; exact Nat.mul_le_mul hp1l (by omega)
          obtain ⟨p3, hp3⟩ : ∃ p, p2 * (f + 6) = p := ⟨_, rfl⟩
          have hp3l : p3 ≤ 65531 * 65533 * 65535 * 65537 := by rw [← hp3]; exact Nat.mul_le_mul hp2l (by omega)
          have h41 : four9 f = p3 := by unfold four9; rw [hp1, hp2, hp3]
          have hp3p : 0 < p3 := by
            rw [← hp3, ← hp2, ← hp1]
            exact Nat.mul_pos (Nat.mul_pos (Nat.mul_pos (by omega) (by omega)) (by omega)) (by omega)
          have i1 : (f : Int) * ((f : Int) + 2) = (p1 : Int) := by rw [← hp1]; simp
          have i2 : (p1 : Int) * ((f : Int) + 4) = (p2 : Int) := by rw [← hp2]; simp
          have i3 : (p2 : Int) * ((f : Int) + 6) = (p3 : Int) := by rw [← hp3]; simp
          obtain ⟨v, hv⟩ : ∃ v, v = M % p3 := ⟨_, rfl⟩
          have HV := Lib.hid (show ∀ d, (d = f ∨ d = f + 2 ∨ d = f + 4 ∨ d = f + 6) → v % d = M % d from fun d hd => by
            rw [hv, ← h41]; exact Nat.mod_mod_of_dvd M (four9_dvd hd))
          have hvl : v < 18446744073709551616 := by
            have : v < p3 := by rw [hv]; exact Nat.mod_lt _ hp3p
            omega
          have HW := Lib.hid (bWord_v (H.out.step hB) (by omega) p3 v hp3p (by omega) hv)
          have HT1 := Lib.hid (hT.out.1 h1)
          clear hp1 hp2 hp3 hv h41
          go_wp2_with fail
          refine (HW.out).mono ?_
          rintro e w2 hw
          obtain ⟨X, q, d0, rfl, S, b2⟩ := hw
          have B2 := below_step hB b2
          clear S
          go_wp2_with fail
          go_loopw [10] (fun dv wr => ∃ d : Nat, dv = .int .u64 d ∧ f ≤ d ∧ d ≤ f + 8 ∧ d % 2 = 1 ∧ Hid (NoneTo M d) ∧ w2 = wr) (fun dv _ => f + 9 - (intOf dv).toNat)
          case atStart => exact ⟨f, rfl, by omega, by omega, by omega, HT1, rfl⟩
          case round =>
            obtain ⟨d, rfl, h4, h5, h6, hN, rfl⟩ := hrel
            have hmin : min ((f : Int) + 6) (most : Int) = ((min (f + 6) most : Nat) : Int) := by omega
            obtain ⟨mn, hmn⟩ : ∃ mn, min (f + 6) most = mn := ⟨_, rfl⟩
            rw [hmn] at hmin
            by_cases h7 : d ≤ mn
            · obtain ⟨y, hy⟩ : ∃ y, v % d = y := ⟨_, rfl⟩
              have hyi : (v : Int) % (d : Int) = (y : Int) := by rw [← hy]; simp
              have HY := Lib.hid (show M % d = y by rw [← HV.out d (by omega), hy])
              have h8 : d ≤ most := by omega
              have h9 : d ≤ f + 6 := by omega
              have h10 : 0 < d := by omega
              clear hy hmn
              by_cases h11 : y = 0
              · subst h11
                have hrd : r = d := isTrial_uniq HR.out (trial_found hN.out (by omega) h8 (by omega) (by have := HM.out; omega) HY.out)
                have hbt : b = true := HBT.out (by omega)
                subst hrd
                subst hbt
                go_wp2_with fail
                go_ret2
                exact ⟨rfl, B2⟩
              · have h4b : ((y : Int) == 0) = false := by simp; omega
                have HN := Lib.hid ((hN.out.odd (by omega) h6).2 (by rw [HY.out]; exact h11))
                go_wp2_with fail
                go_roundw
                case rel => exact ⟨d + 2, by go_num, by omega, by omega, by omega, HN, trivial⟩
                case measure => simp [intOf]; omega
            · have HT2 := Lib.hid (TriMid.behind (most := most) (f := f) hN.out (by omega) h5)
              go_wp2_with fail
              go_roundw
              case rel => exact ⟨f + 8, by go_num, by omega, by omega, HT2, B2⟩
              case measure => simp [intOf]; omega
        · have hr0 : r = 0 := isTrial_uniq HR.out (hT.out.2 (by omega))
          have hbf : b = false := HBF.out hr0
          subst hr0
          subst hbf
          go_wp2_with fail
          go_ret2
          exact ⟨rfl, hB⟩
  · have hr0 : r = 0 := isTrial_uniq HR.out (trial_past (NoneTo.two M) (.inl (by omega)))
    have hbf : b = false := HBF.out hr0
    subst hr0
    subst hbf
    go_enter Tryz.func52, Tryz.ntmps52
    go_wp2_with fail
    go_loopw [6] (fun fv wr => fv = .int .u64 3 ∧ w = wr) (fun _ _ => 0)
    case atStart => exact ⟨rfl, rfl⟩
    case round =>
      obtain ⟨rfl, rfl⟩ := hrel
      go_wp2_with fail
      go_ret2
      exact ⟨rfl, Below.refl _ _⟩
/-! Trial -/
set_option maxHeartbeats 2000000 in
theorem trial_any {w : World} {A : Option Addr} {n c : Nat} {l : List Nat} (P : RowIs w A n c l) (hs : n ≤ 9500) (most r : Nat) (hm : most < 18446744073709551616) (hr : if l = wd (natOf l) then IsTrial (natOf l) most r else r = 0) (b : Bool) (hb : b = true ↔ r ≠ 0) :
    Calls Tryz.prog 30 #[.slice A n c, .int .u64 most] w fun e w' => e = .returned (.tuple #[.int .u64 r, .bool b]) ∧ Below w.heap.size w w' := by
  have hN := P.in_
  have hM := natMay_any A c l w P.2.2.2.1 P.2.1 (by have := P.1; omega) (by have := P.1; have := P.2.2.2.2; omega)
  rw [P.1] at hM
  by_cases h1 : l = wd (natOf l)
  · rw [if_pos h1, ← trial_min] at hr
    rw [decide_eq_true h1] at hM
    obtain ⟨mn, hmn⟩ : ∃ mn, min most 65536 = mn := ⟨_, rfl⟩
    have hmin : min (most : Int) 65536 = (mn : Int) := by omega
    have hmn2 : mn ≤ 65536 := by omega
    rw [hmn] at hr
    have HM := Lib.hid hM
    by_cases h2 : natOf l < 18446744073709551616
    · obtain ⟨V, hV⟩ : ∃ V, natOf l = V := ⟨_, rfl⟩
      have HS := Lib.hid fun (u : World) (e : Below w.heap.size w u) => small_ok8 (hN.step e) h2
      rw [hV] at HS hr h2
      have HO := Lib.hid (ofWord_any V mn r h2 hmn2 hr b hb)
      clear hM hr hb h1 hN P hV hmn
      go_enter Tryz.func30, Tryz.ntmps30
      go_wp2_with fail
      refine (HM.out).mono ?_
      rintro e w1 ⟨rfl, b1⟩
      go_wp2_with fail
      refine (HS.out _ b1).mono ?_
      rintro e w2 ⟨rfl, b2⟩
      go_wp2_with fail
      refine (HO.out _).mono ?_
      rintro e w3 ⟨rfl, rfl⟩
      go_wp2_with fail
      go_ret2
      exact ⟨rfl, below_step b1 b2⟩
    · have HS := Lib.hid fun (u : World) (e : Below w.heap.size w u) => small_no8 (hN.step e) h2
      have HO := Lib.hid fun (u : World) (e : Below w.heap.size w u) => ofWords_trial (hN.step e) hs (by omega) mn r hmn2 hr b hb
      clear hM hr hb h1 hN P hmn
      go_enter Tryz.func30, Tryz.ntmps30
      go_wp2_with fail
      refine (HM.out).mono ?_
      rintro e w1 ⟨rfl, b1⟩
      go_wp2_with fail
      refine (HS.out _ b1).mono ?_
      rintro e w2 ⟨rfl, b2⟩
      have B2 := below_step b1 b2
      go_wp2_with fail
      refine (HO.out _ B2).mono ?_
      rintro e w3 ⟨rfl, b3⟩
      go_wp2_with fail
      go_ret2
      exact ⟨rfl, below_step B2 b3⟩
  · rw [if_neg h1] at hr
    rw [decide_eq_false h1] at hM
    have HM := Lib.hid hM
    have hbf : b = false := by
      rcases h : b with _ | _
      · rfl
      · exact absurd hr (hb.1 h)
    subst hr
    subst hbf
    clear hM hb h1 hN P
    go_enter Tryz.func30, Tryz.ntmps30
    go_wp2_with fail
    refine (HM.out).mono ?_
    rintro e w1 ⟨rfl, b1⟩
    go_wp2_with fail
    go_ret2
    exact ⟨rfl, b1⟩
end Go.Proofs.YtjpfcdgaepdcdaaGreat
/- power.Exp. Conditions: as typed (lengths that fit a machine). -/
namespace Go.Proofs.YtjpfcdgaepdcdaaGreat
open Go.RowKit
set_option maxRecDepth 20000
theorem made_below8 (w : World) (o : Obj) : Below w.heap.size w (w.alloc o) := (Below.refl _ w).alloc (Nat.le_refl _) o
section
variable {w : World} {A A2 A3 : Option Addr} {n m k c c2 c3 B E M : Nat}
set_option maxHeartbeats 4000000 in
theorem exp_ok8 (h : NatIn w A n c B) (i : NatIn w A2 m c2 E) (j : NatIn w A3 k c3 M) (h0 : M ≠ 0) (hE : nbits E ≤ 4096) (hM : nbits M ≤ 4096) (hs : n ≤ 9000) (_ : m ≤ 9000) (hs3 : k ≤ 9000) :
    Calls Tryz.prog 63 #[.slice A n c, .slice A2 m c2, .slice A3 k c3] w (OutOk (B ^ E % M) w) := by
  have b0 := made_below8 w (.cells #[.slice A3 k c3] 33)
  have bm := Boxed.new w 33 (.slice A3 k c3)
  have hc := bm.cell
  obtain ⟨s, hsM⟩ : ∃ s, nbits M = s := ⟨_, rfl⟩
  obtain ⟨t, ht⟩ : ∃ t, nbits E = t := ⟨_, rfl⟩
  have hs0 : s ≠ 0 := by
    have := (nbits_iff M).2 (by omega)
    omega
  have HB := Lib.hid (bBits (j.step b0))
  have HI := Lib.hid fun (u : World) (e : Below w.heap.size w u) => bBits (i.step e)
  rw [hsM] at HB hM
  rw [ht] at HI hE
  have hsb : ((s : Int) == 0) = false := by simp; omega
  have h1d : decide ((4096 : Int) < (s : Int)) = false := by simp; omega
  have h2d : decide ((4096 : Int) < (t : Int)) = false := by simp; omega
  obtain ⟨v, hv⟩ : ∃ v, v = B % M := ⟨_, rfl⟩
  have hvM : v < M := by rw [hv]; exact Nat.mod_lt _ (by omega)
  have HV := Lib.hid (show v ^ E % M = B ^ E % M by rw [hv, pow_rest])
  have H := Lib.hid h
  have I := Lib.hid i
  have J := Lib.hid j
  have BM := Lib.hid bm
  by_cases hsm : M < 18446744073709551616
  · have HS := Lib.hid fun (u : World) (e : Below w.heap.size w u) => small_ok8 (j.step e) hsm
    have HW := Lib.hid fun (u : World) (e : Below w.heap.size w u) => bWord_v (h.step e) (by omega) M v (by omega) hsm hv
    obtain ⟨o1, ho1⟩ : ∃ o1, 1 % M = o1 := ⟨_, rfl⟩
    have hoI : (1 : Int) % (M : Int) = (o1 : Int) := by rw [← ho1]; simp
    have HR := Lib.hid fun (u : World) (g : Nat) (e : Below w.heap.size w u) (hg : Boxed u g 27 (.int .u64 (M : Int))) => raised1_pf v M g E A2 m c2 u (i.step e) (by omega) (by omega) hsm hg
    rw [ho1] at HR
    have hM0 : ((M : Int) == 0) = false := by simp; omega
    obtain ⟨z, hz⟩ : ∃ z, v ^ E % M = z := ⟨_, rfl⟩
    rw [hz] at HR HV
    have hzM : z < M := by rw [← hz]; exact Nat.mod_lt _ (by omega)
    clear h i j bm hsM ht hv ho1 hz
    go_enter Tryz.func63, Tryz.ntmps63
    go_wp2_with fail
    refine (HB.out).mono ?_
    rintro e w1 ⟨rfl, b1⟩
    have B1 := below_step b0 b1
    have hc1 := (BM.out.kept (grown_of_below b1) (by simp)).cell
    go_wp2_with fail
    refine (HI.out _ B1).mono ?_
    rintro e w2 ⟨rfl, b2⟩
    have B2 := below_step B1 b2
    have bm2 := (BM.out.kept (grown_of_below b1) (by simp)).kept (grown_of_below b2) (by simp)
    have hc2 := bm2.cell
    go_wp2_with fail
    refine (HS.out _ B2).mono ?_
    rintro e w3 ⟨rfl, b3⟩
    have B3 := below_step B2 b3
    go_wp2_with fail
    have bw := Boxed.new w3 27 (.int .u64 (M : Int))
    have B4 := below_step B3 (made_below8 w3 (.cells #[.int .u64 (M : Int)] 27))
    have hw4 := bw.cell
    refine (HW.out _ B4).mono ?_
    rintro e w5 hw
    obtain ⟨X, q, d, rfl, S, b5⟩ := hw
    have B5 := below_step B4 b5
    have bw5 := bw.kept (grown_of_below b5) (by simp)
    have hw5 := bw5.cell
    clear S
    go_wp2_with fail
    refine (HR.out w5 w3.heap.size B5 bw5).mono ?_
    rintro e w6 ⟨rfl, b6⟩
    have B6 := below_step B5 b6
    go_wp2_with fail
    refine (bOf w6 z (by omega)).mono ?_
    rintro e w7 ⟨Y, r, f, rfl, S7, _, b7⟩
    go_wp2_with fail
    go_ret2
    exact ⟨Y, r, f, rfl, by rw [← HV.out]; exact S7, below_step B6 b7⟩
  · have HS := Lib.hid fun (u : World) (e : Below w.heap.size w u) => small_no8 (j.step e) hsm
    have HW := Lib.hid fun (u : World) (e : Below w.heap.size w u) => bMod_is v (h.step e) (j.step e) hv.symm h0 (by omega) (by omega)
    have hvn := nbits_mono (Nat.le_of_lt hvM)
    have hM1 : 1 < M := by omega
    have hMn : nbits M ≤ 4096 := by omega
    have hvn2 : nbits v ≤ 4096 := by omega
    have HMn := Lib.hid hMn
    have HVn := Lib.hid hvn2
    clear h i j bm hsM ht hv hvn hvn2 hMn
    go_enter Tryz.func63, Tryz.ntmps63
    go_wp2_with fail
    refine (HB.out).mono ?_
    rintro e w1 ⟨rfl, b1⟩
    have B1 := below_step b0 b1
    have bm1 := BM.out.kept (grown_of_below b1) (by simp)
    have hc1 := bm1.cell
    go_wp2_with fail
    refine (HI.out _ B1).mono ?_
    rintro e w2 ⟨rfl, b2⟩
    have B2 := below_step B1 b2
    have bm2 := bm1.kept (grown_of_below b2) (by simp)
    have hc2 := bm2.cell
    go_wp2_with fail
    refine (HS.out _ B2).mono ?_
    rintro e w3 ⟨rfl, b3⟩
    have B3 := below_step B2 b3
    have bm3 := bm2.kept (grown_of_below b3) (by simp)
    have b4 := made_below8 w3 (.cells #[.int .u64 0] 27)
    have B4 := below_step B3 b4
    have bm4 := bm3.kept (grown_of_below b4) (by simp)
    have hc4 := bm4.cell
    go_wp2_with fail
    refine (HW.out _ B4).mono ?_
    rintro e w5 ⟨X, q, d, rfl, S, b5⟩
    have B5 := below_step B4 b5
    have bm5 := bm4.kept (grown_of_below b5) (by simp)
    have hc5 := bm5.cell
    have hq := natIs_len8 (K := 64) S (by have := HVn.out; omega)
    have HS5 := Lib.hid S
    clear S
    go_wp2_with fail
    refine (bOf w5 1 (by omega)).mono ?_
    rintro e w6 ⟨Y, r, f, rfl, S6, _, b6⟩
    have B6 := below_step B5 b6
    have bm6 := bm5.kept (grown_of_below b6) (by simp)
    have HR := Lib.hid (raised2_pf v M w.heap.size E X A3 Y A2 q d k c3 r f m c2 w6 (I.out.step B6) (HS5.out.step b6).in_ (J.out.step B6) S6 bm6 hM1 HMn.out (by omega) hs3)
    clear S6
    go_wp2_with fail
    refine (HR.out).mono ?_
    rintro e w7 ⟨Z, s', y, rfl, S7, b7⟩
    go_wp2_with fail
    go_ret2
    exact ⟨Z, s', y, rfl, by rw [← HV.out]; exact S7, below_step B6 b7⟩
end
end Go.Proofs.YtjpfcdgaepdcdaaGreat

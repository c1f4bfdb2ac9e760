/- Several texts in one; each begins with a remark that says what it shows and on which conditions. -/
import Derived.Test.YtjpfcdgaepdcdaaGreatKab
import Derived.Test.YtjpfcdgaepdcdaaGreatKac
import Derived.Test.YtjpfcdgaepdcdaaGreatKad
import Derived.Test.YtjpfcdgaepdcdaaGreatKae
import Derived.Test.YtjpfcdgaepdcdaaGreatKaf
import Derived.Test.YtjpfcdgaepdcdaaGreatKag
import Derived.Test.YtjpfcdgaepdcdaaGreatKah
import Derived.Test.YtjpfcdgaepdcdaaGreatKai
import Derived.Test.YtjpfcdgaepdcdaaGreatKaj
import Derived.Test.YtjpfcdgaepdcdaaGreatKak
import Derived.Test.YtjpfcdgaepdcdaaGreatKal
import Derived.Test.YtjpfcdgaepdcdaaGreatKam
import Derived.Test.YtjpfcdgaepdcdaaGreatKan
/- Great primes. No condition but those typed; no program is named. -/
namespace Go.Proofs.YtjpfcdgaepdcdaaGreat
set_option maxRecDepth 20000
theorem w_great6 : (fN (prodP 19 1) fun W => chkO W 6432 249281) = true := by decide +kernel
end Go.Proofs.YtjpfcdgaepdcdaaGreat
/- What passes to the first twelve primes, has no factor up to 64 and is at most 2^40, is a prime. No condition but those typed; no program is named. -/
namespace Go.Proofs.YtjpfcdgaepdcdaaGreat
set_option maxRecDepth 20000
theorem mid_one {f q0 q : Nat} (h : chkU f q0 = true) (h0 : q0 ≤ q) (h1 : q < q0 + 2 * f) (ho : q0 % 2 = 1) (hp : Prm q) (hl : 128 < q) (hz : Zl q (q - 1)) : chkM q = true := by
  have h2 : q % 2 = 1 := by
    rcases Nat.mod_two_eq_zero_or_one q with h3 | h3
    · rcases hp.2 2 (Nat.dvd_of_mod_eq_zero h3) with h4 | h4 <;> omega
    · exact h3
  have := chkU_true f q0 h ((q - q0) / 2) (by omega)
  rw [show q0 + 2 * ((q - q0) / 2) = q by omega] at this
  exact this hp hl hz
theorem few_one {f s0 s : Nat} (h : (fN (prodP 16 1) fun W => chkN W f s0) = true) (h0 : s0 ≤ s) (h1 : s < s0 + f) : one12 (prodP 16 1) s = true := by
  rw [fN_eq] at h
  have := chkN_true f s0 h (s - s0) (by omega)
  rwa [show s0 + (s - s0) = s by omega] at this
theorem great_oneL {f k0 k : Nat} (h : (fN (prodP 19 1) fun W => chkO W f k0) = true) (h0 : k0 ≤ k) (h1 : k < k0 + 2 * f) (ho : k0 % 2 = 1) (hk : k % 2 = 1) (hg : Nat.gcd k P61 = 1) : one12 (prodP 19 1) (k - 1) = true := by
  rw [fN_eq] at h
  have := chkO_true f k0 h ((k - k0) / 2) (by omega)
  rw [show k0 + 2 * ((k - k0) / 2) = k by omega] at this
  exact this hg
theorem mid_allL (q : Nat) (hp : Prm q) (h0 : 131072 < q) (h1 : q < 4194305) (hz : Zl q (q - 1)) : chkM q = true := by
  by_cases h2 : q < 137345
  · exact mid_one w_mid0 (by omega) (by omega) rfl hp (by omega) hz
  by_cases h3 : q < 144257
  · exact mid_one w_mid1 (by omega) (by omega) rfl hp (by omega) hz
  by_cases h4 : q < 151809
  · exact mid_one w_mid2 (by omega) (by omega) rfl hp (by omega) hz
  by_cases h5 : q < 160129
  · exact mid_one w_mid3 (by omega) (by omega) rfl hp (by omega) hz
  by_cases h6 : q < 169473
  · exact mid_one w_mid4 (by omega) (by omega) rfl hp (by omega) hz
  by_cases h7 : q < 179969
  · exact mid_one w_mid5 (by omega) (by omega) rfl hp (by omega) hz
  by_cases h8 : q < 191745
  · exact mid_one w_mid6 (by omega) (by omega) rfl hp (by omega) hz
  by_cases h9 : q < 205057
  · exact mid_one w_mid7 (by omega) (by omega) rfl hp (by omega) hz
  by_cases h10 : q < 220161
  · exact mid_one w_mid8 (by omega) (by omega) rfl hp (by omega) hz
  by_cases h11 : q < 237569
  · exact mid_one w_mid9 (by omega) (by omega) rfl hp (by omega) hz
  by_cases h12 : q < 257537
  · exact mid_one w_mid10 (by omega) (by omega) rfl hp (by omega) hz
  by_cases h13 : q < 280705
  · exact mid_one w_mid11 (by omega) (by omega) rfl hp (by omega) hz
  by_cases h14 : q < 307713
  · exact mid_one w_mid12 (by omega) (by omega) rfl hp (by omega) hz
  by_cases h15 : q < 339457
  · exact mid_one w_mid13 (by omega) (by omega) rfl hp (by omega) hz
  by_cases h16 : q < 376705
  · exact mid_one w_mid14 (by omega) (by omega) rfl hp (by omega) hz
  by_cases h17 : q < 420481
  · exact mid_one w_mid15 (by omega) (by omega) rfl hp (by omega) hz
  by_cases h18 : q < 471809
  · exact mid_one w_mid16 (by omega) (by omega) rfl hp (by omega) hz
  by_cases h19 : q < 531713
  · exact mid_one w_mid17 (by omega) (by omega) rfl hp (by omega) hz
  by_cases h20 : q < 600705
  · exact mid_one w_mid18 (by omega) (by omega) rfl hp (by omega) hz
  by_cases h21 : q < 679169
  · exact mid_one w_mid19 (by omega) (by omega) rfl hp (by omega) hz
  by_cases h22 : q < 766977
  · exact mid_one w_mid20 (by omega) (by omega) rfl hp (by omega) hz
  by_cases h23 : q < 863617
  · exact mid_one w_mid21 (by omega) (by omega) rfl hp (by omega) hz
  by_cases h24 : q < 968065
  · exact mid_one w_mid22 (by omega) (by omega) rfl hp (by omega) hz
  by_cases h25 : q < 1079425
  · exact mid_one w_mid23 (by omega) (by omega) rfl hp (by omega) hz
  by_cases h26 : q < 1196673
  · exact mid_one w_mid24 (by omega) (by omega) rfl hp (by omega) hz
  by_cases h27 : q < 1318913
  · exact mid_one w_mid25 (by omega) (by omega) rfl hp (by omega) hz
  by_cases h28 : q < 1445121
  · exact mid_one w_mid26 (by omega) (by omega) rfl hp (by omega) hz
  by_cases h29 : q < 1574785
  · exact mid_one w_mid27 (by omega) (by omega) rfl hp (by omega) hz
  by_cases h30 : q < 1707137
  · exact mid_one w_mid28 (by omega) (by omega) rfl hp (by omega) hz
  by_cases h31 : q < 1841793
  · exact mid_one w_mid29 (by omega) (by omega) rfl hp (by omega) hz
  by_cases h32 : q < 1978369
  · exact mid_one w_mid30 (by omega) (by omega) rfl hp (by omega) hz
  by_cases h33 : q < 2116481
  · exact mid_one w_mid31 (by omega) (by omega) rfl hp (by omega) hz
  by_cases h34 : q < 2256001
  · exact mid_one w_mid32 (by omega) (by omega) rfl hp (by omega) hz
  by_cases h35 : q < 2396545
  · exact mid_one w_mid33 (by omega) (by omega) rfl hp (by omega) hz
  by_cases h36 : q < 2538113
  · exact mid_one w_mid34 (by omega) (by omega) rfl hp (by omega) hz
  by_cases h37 : q < 2680449
  · exact mid_one w_mid35 (by omega) (by omega) rfl hp (by omega) hz
  by_cases h38 : q < 2823553
  · exact mid_one w_mid36 (by omega) (by omega) rfl hp (by omega) hz
  by_cases h39 : q < 2967169
  · exact mid_one w_mid37 (by omega) (by omega) rfl hp (by omega) hz
  by_cases h40 : q < 3111297
  · exact mid_one w_mid38 (by omega) (by omega) rfl hp (by omega) hz
  by_cases h41 : q < 3255937
  · exact mid_one w_mid39 (by omega) (by omega) rfl hp (by omega) hz
  by_cases h42 : q < 3400961
  · exact mid_one w_mid40 (by omega) (by omega) rfl hp (by omega) hz
  by_cases h43 : q < 3546369
  · exact mid_one w_mid41 (by omega) (by omega) rfl hp (by omega) hz
  by_cases h44 : q < 3692033
  · exact mid_one w_mid42 (by omega) (by omega) rfl hp (by omega) hz
  by_cases h45 : q < 3837953
  · exact mid_one w_mid43 (by omega) (by omega) rfl hp (by omega) hz
  by_cases h46 : q < 3984129
  · exact mid_one w_mid44 (by omega) (by omega) rfl hp (by omega) hz
  by_cases h47 : q < 4130561
  · exact mid_one w_mid45 (by omega) (by omega) rfl hp (by omega) hz
  exact mid_one w_mid46 (by omega) (by omega) rfl hp (by omega) hz
theorem few_all (s : Nat) (h0 : 1 ≤ s) (h1 : s < 64528) : one12 (prodP 16 1) s = true := by
  by_cases h2 : s < 4097
  · exact few_one w_few0 (by omega) (by omega)
  by_cases h3 : s < 8193
  · exact few_one w_few1 (by omega) (by omega)
  by_cases h4 : s < 12289
  · exact few_one w_few2 (by omega) (by omega)
  by_cases h5 : s < 16385
  · exact few_one w_few3 (by omega) (by omega)
  by_cases h6 : s < 20481
  · exact few_one w_few4 (by omega) (by omega)
  by_cases h7 : s < 24577
  · exact few_one w_few5 (by omega) (by omega)
  by_cases h8 : s < 28673
  · exact few_one w_few6 (by omega) (by omega)
  by_cases h9 : s < 32769
  · exact few_one w_few7 (by omega) (by omega)
  by_cases h10 : s < 36865
  · exact few_one w_few8 (by omega) (by omega)
  by_cases h11 : s < 40961
  · exact few_one w_few9 (by omega) (by omega)
  by_cases h12 : s < 45057
  · exact few_one w_few10 (by omega) (by omega)
  by_cases h13 : s < 49153
  · exact few_one w_few11 (by omega) (by omega)
  by_cases h14 : s < 53249
  · exact few_one w_few12 (by omega) (by omega)
  by_cases h15 : s < 57345
  · exact few_one w_few13 (by omega) (by omega)
  by_cases h16 : s < 61441
  · exact few_one w_few14 (by omega) (by omega)
  exact few_one w_few15 (by omega) (by omega)
theorem great_allL (k : Nat) (h0 : 65 ≤ k) (h1 : k < 262145) (hk : k % 2 = 1) (hg : Nat.gcd k P61 = 1) : one12 (prodP 19 1) (k - 1) = true := by
  by_cases h2 : k < 110401
  · exact great_oneL w_great0 (by omega) (by omega) rfl hk hg
  by_cases h3 : k < 151233
  · exact great_oneL w_great1 (by omega) (by omega) rfl hk hg
  by_cases h4 : k < 181825
  · exact great_oneL w_great2 (by omega) (by omega) rfl hk hg
  by_cases h5 : k < 207297
  · exact great_oneL w_great3 (by omega) (by omega) rfl hk hg
  by_cases h6 : k < 229441
  · exact great_oneL w_great4 (by omega) (by omega) rfl hk hg
  by_cases h7 : k < 249281
  · exact great_oneL w_great5 (by omega) (by omega) rfl hk hg
  exact great_oneL w_great6 (by omega) (by omega) rfl hk hg
theorem gcd_P61 {k : Nat} (h : ∀ p, Prm p → p ∣ k → 64 < p) : Nat.gcd k P61 = 1 := by
  rcases (show Nat.gcd k P61 = 0 ∨ Nat.gcd k P61 = 1 ∨ 2 ≤ Nat.gcd k P61 by omega) with h0 | h1 | h2
  · have := (Nat.gcd_eq_zero_iff.1 h0).2; cases this
  · exact h1
  · exfalso
    obtain ⟨p, hp, hd⟩ := prm_factor _ h2
    have h3 := h p hp (Nat.dvd_trans hd (Nat.gcd_dvd_left k P61))
    have h4 := Nat.dvd_trans (Nat.dvd_trans hd (Nat.gcd_dvd_right k P61)) (show P61 ∣ prodP 6 1 by decide +kernel)
    have := prodP_dvd hp 6 1 (by omega) h4
    omega
/-- Twelve bases are enough. -/
theorem twelve_bases {n : Nat} (hn : 1 < n) (hlt : n ≤ 1099511627776) (h : AllP n) (hs : ∀ p, Prm p → p ∣ n → 64 < p) : Prm n := by
  refine Classical.byContradiction fun hc => ?_
  have elim : lim40 = 1099511627776 := rfl
  by_cases hB : ∃ q, Prm q ∧ q ∣ n ∧ 131072 < q
  · obtain ⟨q, hq, hd, hb⟩ := hB
    obtain ⟨k, rfl⟩ := hd
    have hk1 : 1 < k := by
      rcases (show k = 0 ∨ k = 1 ∨ 1 < k by omega) with rfl | rfl | h1
      · omega
      · rw [Nat.mul_one] at hc; exact absurd hq hc
      · exact h1
    have hks : ∀ p, Prm p → p ∣ k → 64 < p := fun p hp hd => hs p hp (Nat.dvd_trans hd (Nat.dvd_mul_left k q))
    have hA : AtL (q * k) q := atL_of hn h hq (Nat.dvd_mul_right q k)
    have hkg := gcd_P61 hks
    by_cases hm : q < 4194305
    · have hS : ∀ s, 1 ≤ s → s ≤ 64527 → ¬ Zl q s := fun s s0 s1 hz => by
        have h1 := one12_true (few_all s s0 (by omega)) hz
        have := prodP_dvd hq 16 1 (by omega) h1
        omega
      exact okm_not (chkM_true (S := 64527) (mid_allL q hq hb hm hA.own) hA hk1 (by rw [elim]; omega) hkg hS (by omega) (by omega)) h
    · have hk2 : k < 262145 := by
        rcases Nat.lt_or_ge k 262145 with h1 | h1
        · exact h1
        · have : 4194305 * 262145 ≤ q * k := Nat.mul_le_mul (by omega) h1
          omega
      obtain ⟨r, hr, hrk⟩ := prm_factor k hk1
      have h64 := hks r hr hrk
      have hrle := Nat.le_of_dvd (by omega) hrk
      have hko : k % 2 = 1 := by
        rcases Nat.mod_two_eq_zero_or_one k with h3 | h3
        · skip
          have hp2 : Prm 2 := ⟨by omega, fun d hd => by
            have h7 := Nat.le_of_dvd (by omega) hd
            have h8 : d ≠ 0 := fun e => by subst e; have := Nat.eq_zero_of_zero_dvd hd; omega
            omega⟩
          have := hks 2 hp2 (Nat.dvd_of_mod_eq_zero h3)
          omega
        · exact h3
      have h1 := one12_true (great_allL k (by omega) hk2 hko hkg) (hA.other (by omega))
      have := prodP_dvd hq 19 1 (by omega) h1
      omega
  · exact tab_all.none hn (by rw [elim]; exact hlt) hc h fun p hp hd => ⟨hs p hp hd, by
      rcases Nat.lt_or_ge p 131072 with h1 | h1
      · exact h1
      · exfalso
        by_cases h2 : 131072 < p
        · exact hB ⟨p, hp, hd, h2⟩
        · have h3 : p = 131072 := by omega
          rcases hp.2 2 (by rw [h3]; decide) with h4 | h4 <;> omega⟩
end Go.Proofs.YtjpfcdgaepdcdaaGreat

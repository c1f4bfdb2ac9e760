package prime

import (
	"math"
	"math/big"
	"slices"
	"testing"

	"caltrop/api"
	"caltrop/mul"
	"caltrop/nat"
)

const (
	all      = math.MaxUint64 // a word whose bits are all 1
	top      = 1 << 63        // a word whose highest bit alone is 1
	most     = 65536          // that Trial tries
	lastOnes = all - 58       // the greatest prime of one word
)

// filled is so many words, each the same one.
func filled(count int, x uint64) api.Nat {
	return slices.Repeat(api.Nat{x}, count)
}

// oneAt is 2^place.
func oneAt(place int) api.Nat {
	a := make(api.Nat, place/64+1)
	a[place/64] = 1 << (place % 64)
	return a
}

// mixed is so many words without any order to be seen in them; another seed makes other ones.
func mixed(count int, seed uint64) api.Nat {
	a := make(api.Nat, count)
	x := seed
	for i := range a {
		x = x*6364136223846793005 + 1442695040888963407
		a[i] = x ^ x>>29
	}
	if count > 0 {
		a[count-1] |= 1 << 20
	}
	return a
}

// odd is a, or the number above it, that is odd.
func odd(a api.Nat) api.Nat {
	if len(a) == 0 {
		return api.Nat{1}
	}
	out := slices.Clone(a)
	out[0] |= 1
	return out
}

// less is a without so many; there are as many.
func less(a api.Nat, count uint64) api.Nat {
	out, _ := nat.Sub(a, nat.Of(count))
	return out
}

// loose is a's number in words that may not be, unless noughts is 0.
func loose(a api.Nat, noughts int) api.Nat {
	return append(slices.Clone(a), make(api.Nat, noughts)...)
}

// nothings are words of 0.
func nothings() []api.Nat {
	return []api.Nat{nil, {}, {0}, {0, 0}, make(api.Nat, 3), make(api.Nat, 100)}
}

// samples are numbers from 0 on, of few words and of many; primes, squares, powers of 2 and what passes to 2 among them.
func samples() []api.Nat {
	return []api.Nat{
		nil, {1}, {2}, {3}, {4}, {5}, {7}, {8}, {9}, {15}, {25}, {49}, {97}, {561}, {2047}, {1<<32 - 1}, {1 << 32}, {1<<32 + 1}, {1<<61 - 1}, {top - 1}, {top}, {top + 1}, {lastOnes}, {all - 1}, {all},
		{0, 1}, {1, 1}, {13, 1}, {all, 1}, {0, top}, {1, top}, {all, top - 1}, {1, all}, {all - 158, all}, {all, all},
		{0, 0, 1}, {1, 0, 1}, {all, 0, all}, {0, 6, 3}, {all, all, all}, {1, 0, 0, 0, 1},
		mixed(3, 1), odd(mixed(4, 3)), filled(5, all), oneAt(319), odd(mixed(7, 4)), mixed(8, 5),
	}
}

// longPrimes are primes of more than one word.
func longPrimes() []api.Nat {
	return []api.Nat{
		{13, 1},
		less(oneAt(89), 1), less(oneAt(107), 1), less(oneAt(127), 1), less(oneAt(521), 1), less(oneAt(607), 1),
		nat.Add(nat.Shl(nat.Of(3), 189), nat.Of(1)), nat.Add(nat.Shl(nat.Of(3), 276), nat.Of(1)), // p - 1 is even very often
	}
}

// longest is the greatest prime that has no more than MaxBits bits.
func longest() api.Nat { return less(oneAt(1024), 105) }

// passing are numbers that pass to all primes up to last, and are none.
func passing() []struct{ n, last uint64 } {
	return []struct{ n, last uint64 }{
		{2047, 2}, {3277, 2}, {4033, 2}, {4681, 2}, {8321, 2}, {15841, 2}, {29341, 2}, {42799, 2}, {49141, 2}, {52633, 2}, {65281, 2}, {1093 * 1093, 2}, {3511 * 3511, 2}, {1<<32 + 1, 2},
		{1373653, 3}, {1530787, 3}, {1987021, 3}, {2284453, 3}, {3116107, 3}, {5173601, 3}, {6787327, 3}, {11541307, 3}, {13694761, 3},
		{25326001, 5}, {161304001, 5}, {960946321, 5}, {1157839381, 5},
		{3215031751, 7}, {118670087467, 7},
		{2152302898747, 11}, {3474749660383, 13}, {341550071728321, 19}, {3825123056546413051, 31},
	}
}

// value is the number of words by the words of chapter 2 alone, in numbers of the library.
func value(a api.Nat) *big.Int {
	b := make([]byte, 0, 8*len(a))
	for _, x := range slices.Backward(a) {
		for shift := 56; shift >= 0; shift -= 8 {
			b = append(b, byte(x>>shift))
		}
	}
	return new(big.Int).SetBytes(b)
}

// prime asks the library.
func prime(a api.Nat) bool { return value(a).ProbablyPrime(20) }

// ofSieve tells of each number below end whether it is a prime: of what no lesser one was struck out.
func ofSieve(end int) []bool {
	is := slices.Repeat([]bool{true}, end)
	is[0], is[1] = false, false
	for p := range end {
		for i := p * p; is[p] && i < end; i += p {
			is[i] = false
		}
	}
	return is
}

// primesTo are the primes up to last.
func primesTo(last uint64) []uint64 {
	var out []uint64
	for p, is := range ofSieve(int(last) + 1) {
		if is {
			out = append(out, uint64(p))
		}
	}
	return out
}

// passes tells by the words of the chapter, in numbers of the library, whether n passes to base.
func passes(n, base *big.Int) bool {
	one := big.NewInt(1)
	if n.Bit(0) == 0 || n.Cmp(big.NewInt(3)) < 0 {
		return false
	}
	below := new(big.Int).Sub(n, one)
	twos := below.TrailingZeroBits()
	power := new(big.Int).Exp(base, new(big.Int).Rsh(below, twos), n)
	if power.Cmp(one) == 0 {
		return true
	}
	for range twos {
		if power.Cmp(below) == 0 {
			return true
		}
		power.Mod(power.Mul(power, power), n)
	}
	return false
}

// wantTrial asks Trial for what is written out; 0 is none.
func wantTrial(t *testing.T, n api.Nat, most, want uint64) {
	t.Helper()
	if d, is := Trial(n, most); d != want || is != (want != 0) {
		t.Errorf("P9.1: Trial of %x, %d: %d, %t, not %d", n, most, d, is, want)
	}
}

func wantStrong(t *testing.T, n, base api.Nat, want bool) {
	t.Helper()
	if got := Strong(n, base); got != want {
		t.Errorf("P9.2: Strong of %x, %x: %t", n, base, got)
	}
}

// wantPasses asks Strong for what the library's numbers say; both may be, and have no more than MaxBits bits.
func wantPasses(t *testing.T, n, base api.Nat) {
	t.Helper()
	wantStrong(t, n, base, passes(value(n), value(base)))
}

func wantProbable(t *testing.T, n api.Nat, bases []uint64, want bool) {
	t.Helper()
	if got := Probable(n, bases); got != want {
		t.Errorf("P9.2: Probable of %x and %d bases, %d: %t", n, len(bases), bases[:min(len(bases), 50)], got)
	}
}

func wantIs(t *testing.T, n uint64, want bool) {
	t.Helper()
	if got := Is(n); got != want {
		t.Errorf("P9.3: Is of %d: %t", n, got)
	}
}

func wantNext(t *testing.T, n, want uint64, wantErr api.Errno) {
	t.Helper()
	if got, err := Next(n); got != want || err != wantErr {
		t.Errorf("P9.3: Next of %d: %d, error %d, not %d, error %d", n, got, err, want, wantErr)
	}
}

func TestExamples(t *testing.T) {
	wantStrong(t, nat.Of(9), nat.Of(8), true)
	wantStrong(t, nat.Of(9), nat.Of(2), false)
	wantTrial(t, nat.Of(91), 100, 7)
	wantNext(t, 13, 17, api.OK)
}

func TestTrialTried(t *testing.T) {
	tries := []uint64{0, 1, 2, 3, 4, 5, 6, 7, 8, 9, 10, 11, 13, 16, 17, 18, 23, 30, 31, 100, most - 1, most, most + 1, all}
	for n := range uint64(2000) {
		least := uint64(0)
		for d := uint64(2); d < n && least == 0; d++ {
			if n%d == 0 {
				least = d
			}
		}
		for _, last := range tries {
			want := least
			if least > last {
				want = 0
			}
			wantTrial(t, nat.Of(n), last, want)
		}
	}
}

func TestTrialWrittenOut(t *testing.T) {
	for _, c := range []struct {
		n          api.Nat
		most, want uint64
	}{
		{nil, all, 0},
		{api.Nat{1}, all, 0},
		{api.Nat{2}, 2, 0},
		{api.Nat{2}, all, 0},
		{api.Nat{3}, all, 0},
		{api.Nat{4}, 1, 0},
		{api.Nat{4}, 2, 2},
		{api.Nat{9}, 2, 0},
		{api.Nat{9}, 3, 3},
		{api.Nat{97 * 97}, 96, 0},
		{api.Nat{97 * 97}, 97, 97},
		{api.Nat{97 * 97}, 98, 97},
		{api.Nat{97 * 101}, 96, 0},
		{api.Nat{97 * 101}, 97, 97},
		{api.Nat{97 * 101}, all, 97},
		{api.Nat{97}, all, 0},
		{api.Nat{65521}, all, 0},
		{api.Nat{65537}, all, 0},
		{api.Nat{65536}, 1, 0},
		{api.Nat{65536}, 65536, 2},
		{api.Nat{65521 * 65521}, 65520, 0},
		{api.Nat{65521 * 65521}, 65521, 65521},
		{api.Nat{65521 * 65521}, most, 65521},
		{api.Nat{65521 * 65537}, 65520, 0},
		{api.Nat{65521 * 65537}, most, 65521},
		{api.Nat{65521 * 65537}, all, 65521},
		{api.Nat{65537 * 65537}, most, 0},
		{api.Nat{65537 * 65537}, most + 1, 0},
		{api.Nat{65537 * 65539}, all, 0},
		{api.Nat{4294967291}, all, 0},
		{api.Nat{4294967291 * 4294967279}, all, 0},
		{api.Nat{lastOnes}, all, 0},
		{api.Nat{all}, 2, 0},
		{api.Nat{all}, 3, 3},
		{api.Nat{top}, 2, 2},
		{api.Nat{0, 1}, 0, 0},
		{api.Nat{0, 1}, 1, 0},
		{api.Nat{0, 1}, 2, 2},
		{api.Nat{0, 1}, all, 2},
		{api.Nat{1, 1}, most, 0}, // 274177 is the least one
		{api.Nat{1, 1}, all, 0},
		{api.Nat{2, 1}, 1, 0},
		{api.Nat{2, 1}, most, 2},
		{api.Nat{5, 1}, 2, 0},
		{api.Nat{5, 1}, 3, 3},
		{api.Nat{13, 1}, all, 0},
		{api.Nat{all, all}, 2, 0},
		{api.Nat{all, all}, all, 3},
	} {
		wantTrial(t, c.n, c.most, c.want)
	}
}

// The least divisor is d, and stands at each place of those that are tried; what is left has none that is tried.
func TestTrialOfProducts(t *testing.T) {
	rests := append(longPrimes(), nat.Of(1<<61-1), nat.Of(lastOnes), mul.Mul(nat.Of(lastOnes), nat.Of(65537)))
	primes := primesTo(most)
	for i, p := range append(primes[:60:60], primes[len(primes)-30:]...) {
		n := mul.Mul(nat.Of(p), rests[i%len(rests)])
		for _, last := range []uint64{0, 1, 2, p - 1} {
			if last < p {
				wantTrial(t, n, last, 0)
			}
		}
		for _, last := range []uint64{p, p + 1, p + 2, most - 1, most, most + 1, all} {
			wantTrial(t, n, last, p)
			wantTrial(t, mul.Mul(n, nat.Of(primes[len(primes)-1])), last, p)
			wantTrial(t, mul.Mul(n, nat.Of(p)), last, p)
		}
	}
}

func TestTrialBesideItsLimit(t *testing.T) {
	for _, rest := range []api.Nat{{1<<40 - 87}, {lastOnes}, {13, 1}, less(oneAt(607), 1)} {
		for _, p := range []uint64{65497, 65519, 65521} {
			n := mul.Mul(nat.Of(p), rest)
			wantTrial(t, n, p-1, 0)
			for _, last := range []uint64{p, most - 1, most, most + 1, top, all} {
				wantTrial(t, n, last, p)
			}
		}
		for _, p := range []uint64{65537, 65539, 65543, 65551} {
			n := mul.Mul(nat.Of(p), rest)
			for _, last := range []uint64{0, 2, most - 1, most, most + 1, p, top, all} {
				wantTrial(t, n, last, 0)
			}
		}
	}
}

func TestTrialOfManyWords(t *testing.T) {
	primes := primesTo(most)
	for i, length := range []int{2, 3, 5, 16, 17, 64, 300, 1000} {
		for seed := range uint64(4) {
			n := odd(mixed(length, 100*seed+uint64(i)))
			number, want := value(n), uint64(0)
			for _, p := range primes {
				if new(big.Int).Mod(number, new(big.Int).SetUint64(p)).Sign() == 0 {
					want = p
					break
				}
			}
			wantTrial(t, n, most, want)
			wantTrial(t, n, all, want)
			if want > 0 {
				wantTrial(t, n, want-1, 0)
				wantTrial(t, n, want, want)
			}
			wantTrial(t, nat.Add(n, nat.Of(1)), 1, 0)
			wantTrial(t, nat.Add(n, nat.Of(1)), 2, 2)
		}
	}
	wantTrial(t, longest(), all, 0)
	wantTrial(t, oneAt(70000), 2, 2)
	wantTrial(t, less(oneAt(70000), 1), 100, 3)
}

func TestTrialOfWordsThatMayNotBe(t *testing.T) {
	for _, n := range append(samples(), nothings()...) {
		for _, noughts := range []int{1, 2, 40} {
			for _, last := range []uint64{0, 1, 2, 3, 100, most, all} {
				wantTrial(t, loose(n, noughts), last, 0)
			}
		}
	}
	for _, nothing := range nothings() {
		wantTrial(t, nothing, all, 0)
	}
}

// By numbers of the language alone: the base is multiplied so often.
func TestStrongTried(t *testing.T) {
	power := func(b, e, n uint64) uint64 {
		product := 1 % n
		for range e {
			product = product * b % n
		}
		return product
	}
	for n := range uint64(150) {
		for base := range uint64(160) {
			want := false
			if n >= 3 && n%2 == 1 {
				d, s := n-1, 0
				for ; d%2 == 0; d /= 2 {
					s++
				}
				want = power(base, d, n) == 1
				for i := range s {
					want = want || power(base, d<<i, n) == n-1
				}
			}
			wantStrong(t, nat.Of(n), nat.Of(base), want)
		}
	}
}

func TestStrongWrittenOut(t *testing.T) {
	for _, c := range []struct {
		n, base api.Nat
		want    bool
	}{
		{nil, nil, false},
		{nil, api.Nat{2}, false},
		{api.Nat{1}, nil, false},
		{api.Nat{1}, api.Nat{1}, false},
		{api.Nat{1}, api.Nat{2}, false},
		{api.Nat{2}, api.Nat{1}, false},
		{api.Nat{2}, api.Nat{3}, false},
		{api.Nat{3}, nil, false},
		{api.Nat{3}, api.Nat{1}, true},
		{api.Nat{3}, api.Nat{2}, true},
		{api.Nat{3}, api.Nat{3}, false},
		{api.Nat{3}, api.Nat{4}, true},
		{api.Nat{4}, api.Nat{3}, false},
		{api.Nat{5}, api.Nat{2}, true},
		{api.Nat{9}, api.Nat{3}, false},
		{api.Nat{9}, api.Nat{10}, true},
		{api.Nat{15}, api.Nat{4}, false}, // 4 times 4 leaves 1, which comes too late
		{api.Nat{65}, api.Nat{8}, true},
		{api.Nat{65}, api.Nat{12}, false},
		{api.Nat{91}, api.Nat{10}, true},
		{api.Nat{561}, api.Nat{2}, false},
		{api.Nat{2047}, api.Nat{2}, true},
		{api.Nat{2047}, api.Nat{3}, false},
		{api.Nat{lastOnes}, api.Nat{lastOnes}, false},
		{api.Nat{lastOnes}, api.Nat{lastOnes - 1}, true},
		{api.Nat{lastOnes}, api.Nat{all}, true},
		{api.Nat{all}, api.Nat{2}, false},
		{api.Nat{1, 1}, api.Nat{2}, true}, // all of 2, doubled so often, and 1
		{api.Nat{1, 1}, api.Nat{3}, false},
		{api.Nat{1, 0, 0, 0, 1}, api.Nat{2}, true},
		{api.Nat{1, 0, 0, 0, 1}, api.Nat{3}, false},
		{api.Nat{0, 1}, api.Nat{1}, false},
		{api.Nat{0, 1}, api.Nat{3}, false},
	} {
		wantStrong(t, c.n, c.base, c.want)
	}
}

func TestStrongOfSamples(t *testing.T) {
	numbers := append(samples(), longPrimes()...)
	for i, n := range numbers {
		for k, base := range numbers {
			if nat.Bits(n) < 300 || (i+k)%8 == 0 {
				wantPasses(t, n, base)
				wantPasses(t, odd(n), base)
			}
		}
	}
}

// To 1, and to n less 1, each odd number from 3 on passes; to what it divides none does.
func TestStrongAboutTheBase(t *testing.T) {
	for _, n := range append(append(samples(), longPrimes()...), longest()) {
		n = odd(n)
		if len(n) == 1 && n[0] == 1 {
			continue
		}
		for _, base := range []api.Nat{{1}, less(n, 1), nat.Add(n, nat.Of(1)), less(nat.Shl(n, 1), 1)} {
			if nat.Bits(base) <= api.MaxBits {
				wantStrong(t, n, base, true)
			}
		}
		for _, base := range []api.Nat{nil, n, nat.Shl(n, 1), mul.Mul(n, nat.Of(3)), mul.Square(n)} {
			wantStrong(t, n, base, false)
		}
		for _, base := range []api.Nat{{2}, {3}, nat.Add(n, nat.Of(2)), nat.Add(nat.Shl(n, 1), nat.Of(3))} {
			if nat.Bits(base) <= api.MaxBits {
				wantPasses(t, n, base)
			}
		}
	}
}

func TestStrongOfEven(t *testing.T) {
	for _, base := range []api.Nat{nil, {1}, {2}, {3}, {5}, {7, 8}, {all}} {
		for n := uint64(0); n < 300; n += 2 {
			wantStrong(t, nat.Of(n), base, false)
		}
		for _, n := range samples() {
			wantStrong(t, nat.Shl(n, 1), base, false)
			wantStrong(t, nat.Shl(n, 70), base, false)
		}
	}
	for _, n := range samples() {
		even := nat.Shl(n, 1)
		wantStrong(t, even, nat.Add(even, nat.Of(1)), false)
		if len(n) > 0 {
			wantStrong(t, even, less(even, 1), false)
		}
	}
}

func TestStrongOfWordsThatMayNotBe(t *testing.T) {
	for _, n := range []api.Nat{nil, {1}, {2}, {3}, {7}, {9}, {97}, {lastOnes}, {13, 1}, less(oneAt(127), 1)} {
		for _, base := range []api.Nat{nil, {1}, {2}, {3}, {8}, {7, 8}} {
			for _, noughts := range []int{1, 2, 40} {
				wantStrong(t, loose(n, noughts), base, false)
				wantStrong(t, n, loose(base, noughts), false)
				wantStrong(t, loose(n, noughts), loose(base, noughts), false)
			}
		}
	}
}

func TestStrongLimits(t *testing.T) {
	p := longest()
	if nat.Bits(p) != api.MaxBits || !prime(p) {
		t.Fatal("P9.2: the number that is tested is another one")
	}
	above := nat.Add(oneAt(1024), nat.Of(1)) // it would pass to 2
	if !passes(value(above), big.NewInt(2)) {
		t.Fatal("P9.2: the number beyond the limit is another one")
	}
	for _, base := range []api.Nat{{1}, {2}, {97}, {7, 8, 9}, less(p, 1), oneAt(1023), filled(16, all)} {
		wantStrong(t, p, base, true)
		wantStrong(t, above, base, false)
		wantStrong(t, nat.Add(nat.Shl(p, 1), nat.Of(1)), base, false)
		wantPasses(t, filled(16, all), base)
		wantPasses(t, odd(oneAt(1023)), base)
	}
	wantStrong(t, above, less(above, 1), false)
	for _, n := range []uint64{3, 5, 7, 97, lastOnes} {
		// What leaves 1 by n is passed to, while it has so many bits.
		for _, bits := range []int{1000, 1023, 1024, 1025, 1026, 2000, 70000} {
			base := less(oneAt(bits), 1)
			rest := new(big.Int).Mod(value(base), new(big.Int).SetUint64(n)).Uint64()
			if rest != 1%n {
				base = nat.Add(less(base, rest), nat.Of(1))
			}
			if nat.Bits(base) != bits {
				continue
			}
			wantStrong(t, nat.Of(n), base, bits <= 1024)
		}
		wantStrong(t, nat.Of(n), oneAt(1024), false)
		wantStrong(t, nat.Of(n), odd(mixed(17, 6)), false)
	}
	wantStrong(t, nat.Of(3), oneAt(1023), true)
	wantStrong(t, nat.Of(3), oneAt(1024), false)
}

func TestStrongOfWhatPasses(t *testing.T) {
	for _, c := range passing() {
		if prime(nat.Of(c.n)) {
			t.Fatalf("P9.2: %d is a prime", c.n)
		}
		for _, p := range primesTo(60) {
			wantPasses(t, nat.Of(c.n), nat.Of(p))
			if p <= c.last {
				wantStrong(t, nat.Of(c.n), nat.Of(p), true)
			}
		}
	}
}

func TestProbableWrittenOut(t *testing.T) {
	for _, c := range []struct {
		n     api.Nat
		bases []uint64
		want  bool
	}{
		{nil, nil, false},
		{nil, []uint64{2}, false},
		{nil, []uint64{0}, false},
		{nil, []uint64{0, 1}, false},
		{nil, []uint64{2, 3, 5, 7}, false},
		{api.Nat{1}, nil, false},
		{api.Nat{1}, []uint64{0, 1}, false},
		{api.Nat{1}, []uint64{2, 3, 5, 7}, false},
		{api.Nat{2}, nil, true},
		{api.Nat{2}, []uint64{}, true},
		{api.Nat{2}, []uint64{0}, true},
		{api.Nat{2}, []uint64{2}, true},
		{api.Nat{2}, []uint64{3}, true},
		{api.Nat{2}, []uint64{2, 3, 5, 7}, true},
		{api.Nat{3}, nil, false},
		{api.Nat{3}, []uint64{}, false},
		{api.Nat{3}, []uint64{0}, false},
		{api.Nat{3}, []uint64{3}, false},
		{api.Nat{3}, []uint64{0, 3, 6, 9, 3}, false},
		{api.Nat{3}, []uint64{3, 2}, true},
		{api.Nat{3}, []uint64{2, 3}, true},
		{api.Nat{3}, []uint64{1}, true},
		{api.Nat{4}, []uint64{1}, false},
		{api.Nat{4}, []uint64{3, 5}, false},
		{api.Nat{5}, []uint64{2, 3, 5, 7}, true},
		{api.Nat{7}, []uint64{7, 14, 0}, false},
		{api.Nat{7}, []uint64{7, 14, 0, top}, true},
		{api.Nat{9}, []uint64{8}, true},
		{api.Nat{9}, []uint64{8, 1, 10}, true},
		{api.Nat{9}, []uint64{8, 1, 10, 9, 18}, true},
		{api.Nat{9}, []uint64{8, 2}, false},
		{api.Nat{9}, []uint64{2, 8}, false},
		{api.Nat{9}, []uint64{8, 3}, false},
		{api.Nat{9}, []uint64{9}, false},
		{api.Nat{97}, []uint64{97, 194}, false},
		{api.Nat{97}, []uint64{97, 194, 2}, true},
		{api.Nat{lastOnes}, []uint64{lastOnes}, false},
		{api.Nat{lastOnes}, []uint64{lastOnes, all}, true},
		{api.Nat{1, 1}, []uint64{2}, true},
		{api.Nat{1, 1}, []uint64{2, 4, 16, 1, 0}, true},
		{api.Nat{1, 1}, []uint64{2, 3}, false},
		{api.Nat{13, 1}, []uint64{0}, false},
		{api.Nat{13, 1}, nil, false},
		{api.Nat{13, 1}, []uint64{2, all}, true},
		{api.Nat{0, 1}, []uint64{1}, false},
	} {
		wantProbable(t, c.n, c.bases, c.want)
	}
}

// wantOfBases asks Probable for what the chapter's words say of each base.
func wantOfBases(t *testing.T, n api.Nat, bases []uint64) {
	t.Helper()
	number, others, want := value(n), 0, true
	for _, b := range bases {
		base := new(big.Int).SetUint64(b)
		if number.Sign() == 0 || new(big.Int).Mod(base, number).Sign() == 0 {
			continue
		}
		others++
		want = want && passes(number, base)
	}
	wantProbable(t, n, bases, number.Cmp(big.NewInt(2)) == 0 || want && others > 0)
}

func TestProbableTried(t *testing.T) {
	for n := range uint64(300) {
		for first := range uint64(24) {
			for second := range uint64(24) {
				wantOfBases(t, nat.Of(n), []uint64{first, second})
			}
			wantOfBases(t, nat.Of(n), []uint64{first})
			wantOfBases(t, nat.Of(n), []uint64{n, first, n - 1})
		}
		wantOfBases(t, nat.Of(n), nil)
		wantOfBases(t, nat.Of(n), []uint64{n})
		wantOfBases(t, nat.Of(n), []uint64{n, 2 * n, 3 * n, 0})
	}
}

func TestProbableOfSamples(t *testing.T) {
	for _, n := range append(append(samples(), longPrimes()...), longest()) {
		for _, n := range []api.Nat{n, odd(n)} {
			for _, bases := range [][]uint64{nil, {0}, {1}, {2}, {3, 2}, {2, 3, 5, 7}, {all}, {all, top, 6}} {
				wantOfBases(t, n, bases)
			}
			wantProbable(t, n, []uint64{2, 3, 5, 7, 11, 13, 17, 19, 23, 29, 31, 37}, prime(n))
		}
	}
}

// The one base that shows something stands behind many that do not.
func TestProbableOfManyBases(t *testing.T) {
	for _, n := range []api.Nat{{9}, {15}, {2047}, {all}, {1, 1}, odd(mixed(3, 7))} {
		ones := slices.Repeat([]uint64{1}, 3000)
		wantProbable(t, n, ones, true)
		wantProbable(t, n, append(slices.Clone(ones), 3), false)
		wantProbable(t, n, append([]uint64{3}, ones...), false)
		ones[1500] = 3
		wantProbable(t, n, ones, false)
	}
	for _, p := range []api.Nat{{7}, {97}, {lastOnes}, {13, 1}} {
		divided := make([]uint64, 3000)
		if len(p) == 1 {
			for i := range divided {
				divided[i] = p[0] * uint64(i%2)
			}
		}
		wantProbable(t, p, divided, false)
		wantProbable(t, p, append(slices.Clone(divided), 3), true)
		wantProbable(t, p, append([]uint64{3}, divided...), true)
	}
}

func TestProbableOfWhatPasses(t *testing.T) {
	for _, c := range passing() {
		bases := primesTo(c.last)
		wantProbable(t, nat.Of(c.n), bases, true)
		wantProbable(t, nat.Of(c.n), append(bases, c.n), true)
		wantProbable(t, nat.Of(c.n), []uint64{2, 3, 5, 7, 11, 13, 17, 19, 23, 29, 31, 37}, false)
	}
	for _, c := range []struct {
		n    api.Nat
		last uint64
	}{
		{mul.Mul(nat.Of(399165290221), nat.Of(798330580441)), 37},
		{mul.Mul(nat.Of(1287836182261), nat.Of(2575672364521)), 41},
	} {
		wantProbable(t, c.n, primesTo(c.last), true)
		wantProbable(t, c.n, primesTo(c.last+2), passes(value(c.n), value(nat.Of(c.last+2))))
		wantProbable(t, c.n, primesTo(100), false)
	}
}

func TestProbableOfWhatStrongDoesNotTake(t *testing.T) {
	above := nat.Add(oneAt(1024), nat.Of(1))
	wantProbable(t, above, []uint64{2}, false)
	wantProbable(t, above, []uint64{1, 2, 4}, false)
	wantProbable(t, above, nil, false)
	wantProbable(t, longest(), []uint64{2, 3}, true)
	for _, n := range []api.Nat{nil, {1}, {3}, {5}, {7}, {97}, {lastOnes}, {13, 1}} {
		for _, noughts := range []int{1, 2, 40} {
			for _, bases := range [][]uint64{nil, {0}, {1}, {2}, {2, 3, 5, 7}, {11}} {
				wantProbable(t, loose(n, noughts), bases, false)
			}
		}
	}
	for _, nothing := range nothings() {
		wantProbable(t, nothing, nil, false)
		wantProbable(t, nothing, []uint64{0, 1, 2, 3}, false)
	}
	// Chapter 2 takes these words for 2, and nothing has to be passed to.
	wantProbable(t, api.Nat{2, 0}, []uint64{3}, true)
	wantProbable(t, api.Nat{2, 1}, []uint64{3}, false)
}

func TestIsTried(t *testing.T) {
	for n, is := range ofSieve(1 << 17) {
		wantIs(t, uint64(n), is)
	}
}

func TestIsBesidePowersOfTwo(t *testing.T) {
	for _, middle := range []uint64{1 << 16, 1 << 24, 1 << 31, 1 << 32, 1 << 33, 1 << 48, 1 << 62, 1 << 63, 0} {
		for n := middle - 700; n != middle+700; n++ {
			wantIs(t, n, prime(nat.Of(n)))
		}
	}
	for _, p := range []uint64{65521, 65537, 1<<31 - 1, 1<<31 + 11, 1<<32 - 5, 1<<32 + 15, 1<<61 - 1, top - 25, top + 29, lastOnes} {
		wantIs(t, p, true)
	}
}

func TestIsOfProducts(t *testing.T) {
	about := func(middle uint64) []uint64 {
		var out []uint64
		for n := middle - 300; n < middle+300; n++ {
			if prime(nat.Of(n)) {
				out = append(out, n)
			}
		}
		return out
	}
	few, halves, words := about(1<<16), about(1<<31), about(1<<32-400)
	for i, p := range halves {
		wantIs(t, p*p, false)
		wantIs(t, p*halves[0], false)
		wantIs(t, p*few[i%len(few)], false)
		wantIs(t, p*words[i%len(words)], false)
		for _, q := range []uint64{2, 3, 5, 61, 67, 71, 73} {
			wantIs(t, p*q, false)
		}
	}
	for _, p := range words {
		wantIs(t, p*p, false)
		wantIs(t, p*words[0], false)
		wantIs(t, p*words[len(words)-1], false)
	}
	for _, p := range few {
		for _, q := range few {
			wantIs(t, p*q, false)
		}
	}
	for _, p := range primesTo(2000) {
		wantIs(t, p*p, false)
		wantIs(t, p*p*p, false)
		wantIs(t, p*2003, false)
	}
}

func TestIsOfWhatPasses(t *testing.T) {
	for _, c := range passing() {
		wantIs(t, c.n, false)
	}
	// Products of the kind of which most of those are: of p and some times p - 1, and 1.
	for p := uint64(3); p < 40000; p += 2 {
		for _, k := range []uint64{2, 3, 4, 5} {
			wantIs(t, p*(k*(p-1)+1), false)
		}
	}
	// Each prime that goes in, less 1, goes into n - 1.
	for _, n := range []uint64{561, 1105, 1729, 2465, 2821, 6601, 8911, 10585, 15841, 29341, 41041, 46657, 52633, 62745, 63973, 75361, 825265, 321197185, 5394826801, 232250619601, 9746347772161, 1436697831295441, 60977817398996785, 7156857700403137441} {
		wantIs(t, n, false)
	}
}

func TestNextTried(t *testing.T) {
	primes := primesTo(1 << 15)
	at := 0
	for n := uint64(0); n < primes[len(primes)-1]; n++ {
		if n == primes[at] {
			at++
		}
		wantNext(t, n, primes[at], api.OK)
	}
}

func TestNextBesideLongRows(t *testing.T) {
	for _, c := range [][2]uint64{
		{113, 127}, {1327, 1361}, {31397, 31469}, {370261, 370373}, {2010733, 2010881}, {20831323, 20831533}, {4302407359, 4302407713}, {1425172824437699411, 1425172824437700887}, {18361375334787046697, 18361375334787048247},
	} {
		p, q := c[0], c[1]
		before := p - 2
		for !prime(nat.Of(before)) {
			before -= 2
		}
		for n := before; n < p; n++ {
			wantNext(t, n, p, api.OK)
		}
		for _, n := range []uint64{p, p + 1, p + 2, p/2 + q/2, q - 2, q - 1} {
			wantNext(t, n, q, api.OK)
		}
		if after, err := Next(q); err != api.OK || after <= q || !prime(nat.Of(after)) {
			t.Errorf("P9.3: Next of %d: %d, error %d", q, after, err)
		}
	}
}

func TestNextBesidePowersOfTwo(t *testing.T) {
	for _, c := range [][3]uint64{{1 << 16, 65521, 65537}, {1 << 31, 1<<31 - 1, 1<<31 + 11}, {1 << 32, 1<<32 - 5, 1<<32 + 15}, {top, top - 25, top + 29}} {
		wantNext(t, c[1]-1, c[1], api.OK)
		for n := c[1]; n < c[2]; n++ {
			wantNext(t, n, c[2], api.OK)
		}
	}
}

func TestNextLimits(t *testing.T) {
	for n := uint64(lastOnes - 36); n < lastOnes; n++ {
		want := uint64(lastOnes)
		for q := n + 1; q < want; q++ {
			if prime(nat.Of(q)) {
				want = q
			}
		}
		wantNext(t, n, want, api.OK)
	}
	wantNext(t, lastOnes-1, lastOnes, api.OK)
	for n := uint64(lastOnes); ; n++ {
		wantNext(t, n, 0, api.ErrMany)
		if n == all {
			break
		}
	}
}

func TestPrimesPass(t *testing.T) {
	for _, p := range primesTo(300) {
		for base := range uint64(200) {
			if p > 2 && base%p != 0 {
				if !Strong(nat.Of(p), nat.Of(base)) || !Probable(nat.Of(p), []uint64{base}) {
					t.Errorf("P9.4: %d does not pass to %d", p, base)
				}
			}
		}
	}
	primes := append(longPrimes(), nat.Of(65537), nat.Of(1<<31-1), nat.Of(4294967291), nat.Of(1<<61-1), nat.Of(lastOnes))
	for _, p := range primes {
		for _, base := range append(samples(), primes...) {
			divided := new(big.Int).Mod(value(base), value(p)).Sign() == 0
			if Strong(p, base) == divided {
				t.Errorf("P9.4: %x, and the base %x: %t", p, base, divided)
			}
		}
	}
}

func TestFourBasesDecide(t *testing.T) {
	four := []uint64{2, 3, 5, 7}
	want := func(n uint64, prime bool) {
		if got := Probable(nat.Of(n), four); got != prime {
			t.Errorf("P9.4: Probable of %d, %d: %t", n, four, got)
		}
	}
	for n, is := range ofSieve(60000) {
		want(uint64(n), is)
	}
	for _, middle := range []uint64{1 << 20, 25326001, 1 << 30, 1 << 31, 3215031751 - 400} {
		for n := middle - 399; n < middle+399; n++ {
			want(n, prime(nat.Of(n)))
		}
	}
	for _, c := range passing() {
		if c.n < 3215031751 {
			want(c.n, false)
		}
	}
	want(3215031751, true)
}

// roomy copies a list into one with items of its own behind its end; whole is all of it.
func roomy[L ~[]uint64](a L) (list, whole L) {
	whole = append(slices.Clone(a), 11, 12, 13, 14)
	return whole[:len(a)], whole
}

func TestGivenStays(t *testing.T) {
	numbers := append(samples(), longPrimes()...)
	for i, a := range numbers {
		for k, b := range numbers {
			noughts := (i + k) % 3
			n, wholeN := roomy(loose(a, noughts))
			base, wholeBase := roomy(loose(b, noughts))
			bases, wholeBases := roomy([]uint64{uint64(i), 2, uint64(k), 3})
			beforeN, beforeBase, beforeBases := slices.Clone(wholeN), slices.Clone(wholeBase), slices.Clone(wholeBases)
			Trial(n, 50)
			Strong(n, base)
			Strong(n, n)
			Probable(n, bases)
			if !slices.Equal(wholeN, beforeN) || !slices.Equal(wholeBase, beforeBase) || !slices.Equal(wholeBases, beforeBases) {
				t.Fatalf("R3: a call of %x, %x changes what it is handed", a, b)
			}
		}
	}
	for _, n := range numbers {
		list, whole := roomy(n)
		before := slices.Clone(whole)
		Trial(list, all)
		if !slices.Equal(whole, before) {
			t.Fatalf("R3: Trial of %x changes what it is handed", n)
		}
	}
}

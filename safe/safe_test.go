package safe

import (
	"math"
	"math/big"
	"math/bits"
	"os"
	"runtime/debug"
	"slices"
	"strconv"
	"sync"
	"testing"

	"caltrop/api"
	"caltrop/count"
	"caltrop/curve"
	"caltrop/nat"
	"caltrop/prime"
)

const (
	all     = math.MaxUint64 // a word whose bits are all 1
	most40  = 1<<40 - 87     // the greatest prime of 40 bits
	least41 = 1<<40 + 15     // the least of 41 bits
	most31  = 1<<31 - 1      // the greatest of 31 bits
	most20  = 1<<20 - 3      // the greatest of 20 bits
)

// TestMain lets memory be looked through less often: nearly all of it is gone at once.
func TestMain(m *testing.M) {
	debug.SetGCPercent(400)
	os.Exit(m.Run())
}

// less is a without so many; there are as many.
func less(a api.Nat, count uint64) api.Nat {
	out, _ := nat.Sub(a, nat.Of(count))
	return out
}

// more is a and so many.
func more(a api.Nat, count uint64) api.Nat { return nat.Add(a, nat.Of(count)) }

// loose is a's number in words that may not be, unless noughts is 0.
func loose(a api.Nat, noughts int) api.Nat {
	return append(slices.Clone(a), make(api.Nat, noughts)...)
}

// oneAt is 2^place.
func oneAt(place int) api.Nat {
	a := make(api.Nat, place/64+1)
	a[place/64] = 1 << (place % 64)
	return a
}

// number is a number of the library's.
func number(x uint64) *big.Int { return new(big.Int).SetUint64(x) }

// numberOf is the number of words by the words of chapter 2 alone.
func numberOf(a api.Nat) *big.Int {
	out := new(big.Int)
	for _, x := range slices.Backward(a) {
		out.Lsh(out, 64).Add(out, number(x))
	}
	return out
}

// isPrime is the library's, which is right for all words.
func isPrime(p uint64) bool { return number(p).ProbablyPrime(0) }

// above is the least prime above a number, and below the greatest one below it.
func above(p uint64) uint64 {
	for p++; !isPrime(p); p++ {
	}
	return p
}

func below(p uint64) uint64 {
	for p--; !isPrime(p); p-- {
	}
	return p
}

// rowBelow makes numbers below p without any order to be seen in them; another seed makes another row.
func rowBelow(p, seed uint64) func() uint64 {
	return func() uint64 {
		seed = seed*6364136223846793005 + 1442695040888963407
		return (seed ^ seed>>29) % p
	}
}

// times is a product modulo p.
func times(a, b, p uint64) uint64 {
	high, low := bits.Mul64(a, b)
	return bits.Rem64(high, low, p)
}

// power is a to the power of k modulo p.
func power(a, k, p uint64) uint64 {
	return new(big.Int).Exp(number(a), number(k), number(p)).Uint64()
}

// over is a curve of three words.
func over(p, a, b uint64) api.Curve { return api.Curve{P: nat.Of(p), A: nat.Of(a), B: nat.Of(b)} }

// fits tells whether words may be, by chapter 2.
func fits(a api.Nat) bool { return len(a) == 0 || a[len(a)-1] != 0 }

// errorOf is May's error by the words of chapter 16.
func errorOf(c api.Curve) api.Errno {
	p, a, b := numberOf(c.P), numberOf(c.A), numberOf(c.B)
	if !fits(c.P) || !fits(c.A) || !fits(c.B) || p.Bit(0) == 0 || p.Cmp(number(5)) < 0 || p.BitLen() > api.MaxField || a.Cmp(p) >= 0 || b.Cmp(p) >= 0 {
		return api.ErrArg
	}
	ofA := new(big.Int).Exp(a, number(3), nil)
	bend := new(big.Int).Mul(b, b)
	bend.Add(bend.Mul(bend, number(27)), ofA.Mul(ofA, number(4)))
	if bend.Mod(bend, p).Sign() == 0 {
		return api.ErrCurve
	}
	return api.OK
}

// some is a curve modulo p that may be.
func some(p api.Nat) api.Curve {
	c := api.Curve{P: p, A: api.Nat{1}, B: api.Nat{1}}
	for errorOf(c) != api.OK {
		c.B = more(c.B, 1)
	}
	return c
}

// ends are those of the row of Hasse, by its words: so far from P and 1, at most, that the square is at most 4 P.
func ends(p uint64) (low, high uint64) {
	far := new(big.Int).Sqrt(number(4 * p)).Uint64()
	return p + 1 - far, p + 1 + far
}

// isOf tells whether a number is of the row of Hasse.
func isOf(p, n uint64) bool {
	low, high := ends(p)
	return low <= n && n <= high
}

// bend is 4 P - t^2.
func bend(p, n uint64) uint64 {
	t := int64(p+1) - int64(n)
	return uint64(int64(4*p) - t*t)
}

// facts are what is asked for of a P and an n that are primes: the greatest prime that divides the twist's count, the least k for which P^k is 1 modulo n, 0 if there is none, and what is left of 4 P - t^2 without squares.
type facts struct{ p, n, greatest, order, left uint64 }

// smallPrimes are all whose square has 42 bits at most.
var smallPrimes = sync.OnceValue(func() (out []uint64) {
	struck := make([]bool, 1<<21)
	for q := 2; q < len(struck); q++ {
		if !struck[q] {
			out = append(out, uint64(q))
			for k := q * q; k < len(struck); k += q {
				struck[k] = true
			}
		}
	}
	return out
})

// primesIn are those that a number of 42 bits at most is a product of, rising.
func primesIn(n uint64) (out []uint64) {
	for _, q := range smallPrimes() {
		if q*q > n {
			break
		}
		for n%q == 0 {
			out = append(out, q)
			n /= q
		}
	}
	if n > 1 {
		out = append(out, n)
	}
	return out
}

// orderOf is the least k from 1 on for which x^k is 1 modulo a prime; x is not 0.
func orderOf(x, n uint64) uint64 {
	k := n - 1
	for _, q := range primesIn(n - 1) {
		if power(x, k/q, n) == 1%n {
			k /= q
		}
	}
	return k
}

// leftOf is what is left of a number without squares.
func leftOf(n uint64) uint64 {
	out, l := uint64(1), primesIn(n)
	for i := 0; i < len(l); i++ {
		if i+1 < len(l) && l[i] == l[i+1] {
			i++
			continue
		}
		out *= l[i]
	}
	return out
}

// factsOf are those of two primes.
func factsOf(p, n uint64) facts {
	out := facts{p: p, n: n, left: leftOf(bend(p, n))}
	l := primesIn(2*p + 2 - n)
	out.greatest = l[len(l)-1]
	if n != p {
		out.order = orderOf(p%n, n)
	}
	return out
}

// bySteps are the same, and for small numbers: all divisors, all powers one after another and all squares are tried.
func bySteps(p, n uint64) facts {
	out := facts{p: p, n: n}
	other := 2*p + 2 - n
	for q := uint64(2); q <= other; q++ {
		if other%q == 0 && hasNoDivisor(q) {
			out.greatest = q
		}
	}
	for k, x := uint64(1), p%n; k < n && out.order == 0; k++ {
		if x == 1%n {
			out.order = k
		}
		x = x * p % n
	}
	for out.left = 1; !isTimesSquare(bend(p, n), out.left); out.left++ {
	}
	return out
}

// hasNoDivisor tells whether a number is a prime, by DOC's words.
func hasNoDivisor(n uint64) bool {
	for d := uint64(2); d < n; d++ {
		if n%d == 0 {
			return false
		}
	}
	return n >= 2
}

// isTimesSquare tells whether a number is a square's multiple by another one.
func isTimesSquare(n, by uint64) bool {
	s := uint64(0)
	for by*s*s < n {
		s++
	}
	return by*s*s == n
}

// told is what Check tells, by the words of the chapter.
func (f facts) told(b api.Bounds) int {
	switch {
	case !isPrime(f.p):
		return 1
	case !isPrime(f.n):
		return 2
	case f.n == f.p:
		return 3
	case f.greatest <= b.Twist:
		return 4
	case f.order > 0 && f.order <= uint64(b.Embed):
		return 5
	case f.left <= b.Disc:
		return 6
	}
	return 0
}

// embeds are bounds beside the order, and the ends.
func (f facts) embeds() (out []int) {
	for _, k := range []uint64{0, 1, f.order - 1, f.order, f.order + 1, 4095, 4096} {
		if k <= 4096 {
			out = append(out, int(k))
		}
	}
	return compact(out)
}

// twists are bounds beside the greatest prime, and the ends.
func (f facts) twists() []uint64 {
	return compact([]uint64{0, 1, 2, f.greatest - 1, f.greatest, f.greatest + 1, 1 << 63, all})
}

// discs are bounds beside what is left, and the ends.
func (f facts) discs() []uint64 {
	return compact([]uint64{0, 1, f.left - 1, f.left, f.left + 1, 1 << 63, all})
}

// compact sorts a list, and has each once.
func compact[T int | uint64](l []T) []T {
	slices.Sort(l)
	return slices.Compact(l)
}

// bounds are all that these are put together to.
func (f facts) bounds() (out []api.Bounds) {
	for _, k := range f.embeds() {
		for _, q := range f.twists() {
			for _, d := range f.discs() {
				out = append(out, api.Bounds{Embed: k, Twist: q, Disc: d})
			}
		}
	}
	return out
}

// beside are those of which one alone is not 0, and those that make two or three kinds so at once.
func (f facts) beside() (out []api.Bounds) {
	for _, k := range f.embeds() {
		out = append(out, api.Bounds{Embed: k})
	}
	for _, q := range f.twists() {
		out = append(out, api.Bounds{Twist: q})
	}
	for _, d := range f.discs() {
		out = append(out, api.Bounds{Disc: d}, api.Bounds{Embed: 4096, Disc: d}, api.Bounds{Twist: f.greatest - 1, Disc: d}, api.Bounds{Twist: f.greatest, Disc: d})
	}
	return append(out, api.Bounds{Embed: 4096, Twist: f.greatest, Disc: f.left}, api.Bounds{Embed: 4096, Twist: f.greatest - 1, Disc: f.left}, api.Bounds{Embed: 6, Twist: 1 << 16, Disc: 1 << 10})
}

// greats are bounds of all sizes.
func greats() []api.Bounds {
	return []api.Bounds{{}, {Embed: 6}, {Embed: 4096}, {Twist: 2}, {Twist: all}, {Disc: 3}, {Disc: all}, {Embed: 4096, Twist: 1 << 63, Disc: 1 << 63}, {Embed: 4096, Twist: all, Disc: all}}
}

// want holds what is told.
func want(t *testing.T, c api.Curve, n api.Nat, b api.Bounds, right int) {
	t.Helper()
	if got, e := Check(c, n, b); e != api.OK || got != right {
		t.Errorf("P25.1: Check of %v, %v, %v: %d, error %d, not %d", c, n, b, got, e, right)
	}
}

// wantError holds an error, beside which nothing is told.
func wantError(t *testing.T, c api.Curve, n api.Nat, b api.Bounds, right api.Errno) {
	t.Helper()
	if got, e := Check(c, n, b); e != right || got != 0 {
		t.Errorf("P25.1: Check of %v, %v, %v: %d, error %d, not error %d", c, n, b, got, e, right)
	}
}

// hold holds what is told of two numbers with several bounds.
func (f facts) hold(t *testing.T, list []api.Bounds) {
	t.Helper()
	c := some(nat.Of(f.p))
	for _, b := range list {
		want(t, c, nat.Of(f.n), b, f.told(b))
	}
}

// wrongEmbeds are those that may not be.
func wrongEmbeds() []int {
	return []int{-1, -2, -4096, -4097, math.MinInt, math.MinInt + 1, math.MinInt + 4096, -1 << 32, -1<<32 + 6, 4097, 4098, 8192, 1 << 16, 1<<16 + 6, 1<<31 - 1, 1 << 32, 1<<32 + 6, math.MaxInt - 1, math.MaxInt}
}

// wrongCounts are numbers of which none is of the row of Hasse of a P up to 40 bits, or words that may not be.
func wrongCounts(p uint64) (out []api.Nat) {
	low, high := ends(p)
	for _, n := range []uint64{0, 1, low - 1, high + 1, high + 2, 3 * p, p + 1 + 1<<32, p + 1 - 1<<32, p + 1 + 1<<33, p + 1 + 3<<32, p + 1 + 1<<62, p + 1 + 1<<63, p + 1 - 1<<63, p + 1<<40, p + 1<<41, all, all - 1, all - p, all - p - 1} {
		out = append(out, nat.Of(n))
	}
	for _, n := range []uint64{low, p, p + 1, high} {
		out = append(out, loose(nat.Of(n), 1), loose(nat.Of(n), 2), loose(nat.Of(n), 20), api.Nat{n, 1}, api.Nat{n, all}, api.Nat{n, 0, 1}, api.Nat{0, n}, append(loose(nat.Of(n), 15), 1), append(loose(nat.Of(n), 1024), 1), nat.Shl(nat.Of(n), 64), nat.Shl(nat.Of(n), 300))
	}
	return append(out, api.Nat{0}, make(api.Nat, 2), make(api.Nat, 40), oneAt(64), oneAt(1023), oneAt(1024), oneAt(65536), less(oneAt(64), 1), less(oneAt(128), 1))
}

func TestExamples(t *testing.T) {
	c := over(23, 1, 4)
	want(t, c, nat.Of(29), api.Bounds{}, 0)
	want(t, c, nat.Of(23), api.Bounds{}, 3)
	want(t, c, nat.Of(24), api.Bounds{}, 2)
	for _, n := range []uint64{0, 1, 2, 7, 14, 34, 35, 37, 48, 1 << 40} {
		wantError(t, c, nat.Of(n), api.Bounds{}, api.ErrArg)
	}
	for _, n := range []uint64{17, 19, 29, 31} {
		want(t, c, nat.Of(n), api.Bounds{}, 0)
	}
	want(t, over(5, 1, 1), nat.Of(9), api.Bounds{}, 2)
	want(t, over(7, 0, 1), nat.Of(12), api.Bounds{}, 2)
	wantError(t, over(7, 0, 0), nat.Of(7), api.Bounds{}, api.ErrCurve)
	want(t, over(15, 1, 1), nat.Of(17), api.Bounds{}, 1)
	// 29 of 48 are left for the twist: 19; 23^k is 1 modulo 29 for 7, and 92 less 25 is 67.
	for i, b := range []api.Bounds{{Embed: 6, Twist: 18, Disc: 66}, {Twist: 19}, {Embed: 7}, {Disc: 67}, {Embed: 7, Twist: 19, Disc: 67}, {Embed: 7, Disc: 67}} {
		want(t, c, nat.Of(29), b, []int{0, 4, 5, 6, 4, 5}[i])
	}
}

// refused are curves that may not be: with P of all lengths, prime or not.
func refused() (out []api.Curve) {
	for _, p := range []api.Nat{{7}, {13}, {15}, {most20}, {most40}, {1<<40 - 1}, {least41}, {1<<60 - 93}, {1<<63 - 25}, {13, 1}, {all - 188, all, all, all}, {all, all, all, all}} {
		a, b := less(p, 2), api.Nat{3}
		out = append(out, api.Curve{P: p}, api.Curve{P: p, A: less(p, 3), B: api.Nat{2}}, api.Curve{P: p, A: less(p, 3), B: less(p, 2)}) // 4 A^3 is -108, and 27 B^2 is 108
		for _, x := range []api.Nat{p, more(p, 1), nat.Shl(p, 1), loose(a, 1), loose(b, 3), {0}, {1, 0}, loose(p, 1), append(loose(p, 5-len(p)), 1), make(api.Nat, 300)} {
			out = append(out, api.Curve{P: p, A: x, B: b}, api.Curve{P: p, A: a, B: x}, api.Curve{P: p, A: x, B: x})
		}
		for _, x := range []api.Nat{nil, {0}, {1}, {2}, {3}, {4}, {1 << 39}, {1 << 40}, more(p, 1), loose(p, 1), loose(p, 4), nat.Shl(p, 300), append(loose(p, 4-len(p)), 1), oneAt(256), more(oneAt(256), 1), more(oneAt(256), 297), {1, 2, 3, 4, 5}} {
			out = append(out, api.Curve{P: x, A: a, B: b}, api.Curve{P: x, A: api.Nat{1}, B: api.Nat{1}}, api.Curve{P: x})
		}
	}
	return append(out, api.Curve{}, over(9, 0, 1), over(9, 3, 3), over(25, 15, 10), over(27, 3, 0), over(81, 9, 9), over(23, 22, 22), over(31, 1, 1), over(5, 0, 0), over(5, 2, 2), over(61, 0, 0))
}

// wordOf is a number's lowest word, or 7.
func wordOf(a api.Nat) uint64 {
	if len(a) == 0 {
		return 7
	}
	return a[0]
}

// TestRefused holds that a curve's error is ahead of all others.
func TestRefused(t *testing.T) {
	short, long := map[api.Errno]int{}, map[api.Errno]int{}
	for _, c := range refused() {
		right := errorOf(c)
		if e := curve.May(c); e != right {
			t.Errorf("P16.1: May of %v: error %d, not %d", c, e, right)
		}
		if numberOf(c.P).BitLen() > 40 {
			long[right]++
		} else {
			short[right]++
		}
		p := wordOf(c.P)
		for _, n := range []api.Nat{nat.Of(p), nat.Of(p + 1), nil, {0}, {p, 0}, {p, 1}, nat.Of(all), oneAt(256)} {
			for _, b := range append(greats(), api.Bounds{Embed: -1}, api.Bounds{Embed: 4097}, api.Bounds{Embed: math.MinInt, Twist: all, Disc: all}) {
				wantError(t, c, n, b, right)
			}
		}
	}
	if short[api.OK]+long[api.OK] > 0 || short[api.ErrArg] < 100 || short[api.ErrCurve] < 20 || long[api.ErrArg] < 100 || long[api.ErrCurve] < 15 {
		t.Errorf("of how many there is which error: %v with P of up to 40 bits, %v with others", short, long)
	}
}

// TestMany has P of 40 bits, and those that are longer.
func TestMany(t *testing.T) {
	for _, p := range []uint64{most40, below(most40), 1<<40 - 1, 1<<40 - 3, 1<<40 - 5, 1<<39 + 1} {
		for _, b := range greats() {
			f := facts{p: p, n: p}
			f.hold(t, []api.Bounds{b})
		}
		low, high := ends(p)
		for n := range 10 * uint64(2) {
			f := facts{p: p, n: low + n*(high-low)/19}
			if isPrime(p) && isPrime(f.n) {
				f = factsOf(p, f.n)
			}
			f.hold(t, f.beside())
		}
	}
	for _, p := range []api.Nat{{1<<40 + 1}, {least41}, {1<<41 - 21}, {1<<41 - 1}, {3<<39 + 1}, {1<<60 - 93}, {1<<63 + 29}, {all - 58}, {all}, {1, 1}, {7, 1}, {13, 1}, {23, 1}, {most40, 1}, {7, 0, 1}, {23, 1 << 63}, {all, all}, {7, 0, 0, 1}, {all - 188, all, all, all}, {all, all, all, all}} {
		c := some(p)
		for _, n := range append(wrongCounts(p[0]), p, more(p, 1), less(p, 1), nat.Of(7), nat.Of(8)) {
			for _, b := range append(greats(), api.Bounds{Embed: -1}, api.Bounds{Embed: 4097}, api.Bounds{Embed: math.MinInt, Twist: all, Disc: all}) {
				wantError(t, c, n, b, api.ErrMany)
			}
		}
	}
}

// TestTooLong has P that no curve has: the error is May's.
func TestTooLong(t *testing.T) {
	for _, p := range []api.Nat{more(oneAt(256), 1), more(oneAt(256), 297), less(oneAt(257), 1), more(oneAt(300), 7), more(oneAt(1024), 1), more(oneAt(2000), 1)} {
		for _, n := range []api.Nat{p, more(p, 1), nil, nat.Of(7), {0}} {
			for _, b := range append(greats(), api.Bounds{Embed: -1}) {
				wantError(t, api.Curve{P: p, A: api.Nat{1}, B: api.Nat{1}}, n, b, api.ErrArg)
			}
		}
	}
}

// rows are P whose row of Hasse is gone through: the smallest ones, squares, and some of 20, 31 and 40 bits.
func rows() []uint64 {
	return []uint64{5, 7, 9, 11, 13, 15, 17, 23, 25, 27, 49, 81, 121, 1<<19 + 1, most20, below(most20), 1023 * 1023, most31, below(most31), 46339 * 46339, 1<<31 - 3, most40, below(most40), 1048573 * 1048573, 1<<40 - 1}
}

// TestRow holds both ends of the row of Hasse.
func TestRow(t *testing.T) {
	for _, p := range rows() {
		c := some(nat.Of(p))
		low, high := ends(p)
		for _, n := range []uint64{low, low + 1, p, p + 1, high - 1, high} {
			f := facts{p: p, n: n}
			if isPrime(p) && isPrime(n) {
				f = factsOf(p, n)
			}
			f.hold(t, greats())
		}
		for _, n := range wrongCounts(p) {
			if fits(n) && len(n) == 1 && isOf(p, n[0]) {
				t.Fatalf("%v is of the row of %d", n, p)
			}
			for _, b := range append(greats(), api.Bounds{Embed: -1}, api.Bounds{Embed: 4097}) {
				wantError(t, c, n, b, api.ErrArg)
			}
		}
	}
	for _, c := range []struct{ p, low, high uint64 }{{5, 2, 10}, {7, 3, 13}, {9, 4, 16}, {25, 16, 36}, {most20, most20 + 1 - 2047, most20 + 1 + 2047}} {
		if low, high := ends(c.p); low != c.low || high != c.high {
			t.Errorf("the row of %d is from %d to %d, not from %d to %d", c.p, low, high, c.low, c.high)
		}
	}
	if bend(9, 4) != 0 || bend(9, 16) != 0 || bend(25, 16) != 0 || bend(25, 36) != 0 {
		t.Error("of a square 4 P - t^2 is not 0 at the ends")
	}
}

// TestWholeRow has all n up to some more than the row's last one.
func TestWholeRow(t *testing.T) {
	for p := uint64(5); p < 200; p += 2 {
		c := some(nat.Of(p))
		for n := range 2 * p {
			if !isOf(p, n) {
				wantError(t, c, nat.Of(n), api.Bounds{}, api.ErrArg)
			} else if _, e := Check(c, nat.Of(n), api.Bounds{}); e != api.OK {
				t.Errorf("P25.1: Check of %v, %d: error %d", c, n, e)
			}
		}
	}
}

// TestEmbedEnds tells which Embed may be, with all that may be wrong beside it.
func TestEmbedEnds(t *testing.T) {
	for _, p := range []uint64{5, 9, 15, 23, most20, most40, 1<<40 - 1} {
		c := some(nat.Of(p))
		low, _ := ends(p)
		for _, n := range []uint64{low, p, p + 1, above(p)} {
			for _, embed := range wrongEmbeds() {
				for _, b := range greats() {
					wantError(t, c, nat.Of(n), api.Bounds{Embed: embed, Twist: b.Twist, Disc: b.Disc}, api.ErrArg)
				}
				wantError(t, c, api.Nat{n, 0}, api.Bounds{Embed: embed}, api.ErrArg)
				wantError(t, c, nat.Of(low-1), api.Bounds{Embed: embed}, api.ErrArg)
				wantError(t, over(p, p, 1), nat.Of(n), api.Bounds{Embed: embed}, api.ErrArg)
				wantError(t, over(p, 0, 0), nat.Of(n), api.Bounds{Embed: embed}, api.ErrCurve)
				wantError(t, some(nat.Of(p+1<<41)), nat.Of(n), api.Bounds{Embed: embed}, api.ErrMany)
			}
			if !isOf(p, n) {
				continue
			}
			for _, embed := range []int{0, 1, 2, 6, 4095, 4096} {
				if _, e := Check(c, nat.Of(n), api.Bounds{Embed: embed}); e != api.OK {
					t.Errorf("P25.1: Check of %v, %d with Embed %d: error %d", c, n, embed, e)
				}
			}
		}
	}
}

// TestSmall has all small P, prime or not, with all n of the row, held against what trying tells.
func TestSmall(t *testing.T) {
	t.Parallel()
	for part := range uint64(8) {
		t.Run(strconv.FormatUint(part, 10), func(t *testing.T) {
			t.Parallel()
			for p := 5 + 2*part; p < 700; p += 16 {
				wantOfRow(t, p)
			}
		})
	}
}

// wantOfRow holds what is told of all n of a small P's row, and one beyond at each end.
func wantOfRow(t *testing.T, p uint64) {
	c := some(nat.Of(p))
	low, high := ends(p)
	wantError(t, c, nat.Of(low-1), api.Bounds{}, api.ErrArg)
	wantError(t, c, nat.Of(high+1), api.Bounds{}, api.ErrArg)
	for n := low; n <= high; n++ {
		switch {
		case !hasNoDivisor(p):
			for _, b := range greats() {
				want(t, c, nat.Of(n), b, 1)
			}
		case !hasNoDivisor(n):
			for _, b := range greats() {
				want(t, c, nat.Of(n), b, 2)
			}
		default:
			f := bySteps(p, n)
			if f != factsOf(p, n) {
				t.Errorf("facts of %d and %d: %v, and by steps %v", p, n, factsOf(p, n), f)
			}
			if p < 60 {
				f.hold(t, f.bounds())
			} else {
				f.hold(t, f.beside())
			}
		}
	}
}

// TestCounted has curves with their counts.
func TestCounted(t *testing.T) {
	t.Parallel()
	kinds := map[int]int{}
	for _, p := range []uint64{23, 101, 1009, 65521, most20, most31, most40} {
		next := rowBelow(p, p)
		for range 40 {
			c := over(p, next(), next())
			n, e := count.Of(c, 0)
			if e != api.OK {
				continue
			}
			f := facts{p: p, n: n[0]}
			if isPrime(f.n) && f.n != p {
				f = factsOf(p, f.n)
			}
			for _, b := range f.beside() {
				want(t, c, n, b, f.told(b))
				kinds[f.told(b)]++
			}
		}
	}
	if len(kinds) < 6 || kinds[0] < 20 || kinds[4] < 10 || kinds[6] < 10 {
		t.Errorf("of how many which kind is told: %v", kinds)
	}
}

// noPrimes are odd numbers of 40 bits at most: products of few primes, squares of primes and of others, powers, those that pass to the bases 2, 3, 5 and 7, and those that pass to 2 alone.
func noPrimes() []uint64 {
	return []uint64{9, 15, 21, 25, 27, 33, 49, 81, 91, 121, 225, 341, 561, 1105, 1729, 2047, 3277, 4033, 6561, 10201, 25326001, 161304001, 960946321, 1157839381,
		3215031751, 118670087467, 307768373641, 315962312077, 354864744877, 457453568161, 528929554561, 546348519181, 602248359169,
		65521 * 65521, 65537 * 65537, 65537 * 65539, 46337 * 46349, 1023 * 1023, 1048573 * 1048573, 1048573 * 1048571, 786431 * 1048573, 1<<40 - 1, 1<<40 - 3, 1<<39 + 1, 1<<35 - 1, 3 * 183251937943, 10007 * 10009 * 10037}
}

// TestNoPrimes is kind 1, with all that may be so beside it.
func TestNoPrimes(t *testing.T) {
	pass := 0
	for _, p := range noPrimes() {
		if isPrime(p) || p%2 == 0 || p>>40 > 0 {
			t.Fatalf("%d is a prime, even or too long", p)
		}
		if prime.Probable(nat.Of(p), []uint64{2, 3, 5, 7}) {
			pass++
		}
		c := some(nat.Of(p))
		low, high := ends(p)
		for _, n := range []uint64{p, p + 1, p - 1, p + 2, low, high, above(p), below(p), above(low), below(high)} {
			for _, b := range greats() {
				if isOf(p, n) {
					want(t, c, nat.Of(n), b, 1)
				}
			}
		}
	}
	if pass < 9 {
		t.Errorf("%d numbers that are no primes pass to four bases", pass)
	}
}

// nearTo is a prime with a number in its row, which is not itself.
func nearTo(n uint64) uint64 {
	if n%2 == 0 || n < 20 {
		return above(n)
	}
	return below(n)
}

// TestNoPrimeCounts is kind 2, with all that may be so beside it.
func TestNoPrimeCounts(t *testing.T) {
	list := append(noPrimes(), 4, 6, 8, 10, 12, 14, 16, 22, 26, 58, 100, 128, 1<<20, 1<<20-2, 1<<39, 1<<40-2, 1<<40-4, 1<<40, 1<<40+1, 1<<40-86, 2*(1<<39-7), 2*549755813881, 1048573*1048573, 1048433*1048721)
	for _, n := range list {
		p := nearTo(n)
		if n > most40 {
			p = most40
		}
		f := facts{p: p, n: n}
		if !isOf(p, n) || isPrime(n) {
			t.Fatalf("%d is a prime, or not of the row of %d", n, p)
		}
		f.hold(t, greats())
	}
	for _, p := range rows() {
		low, high := ends(p)
		for n := low; n <= min(high, low+100); n++ {
			if isPrime(p) && !isPrime(n) {
				facts{p: p, n: n}.hold(t, greats())
			}
		}
	}
}

// TestSameCount is kind 3: n is P.
func TestSameCount(t *testing.T) {
	for _, p := range []uint64{5, 7, 11, 13, 17, 19, 23, 29, 31, 101, 257, 65521, 65537, most20, most31, 1<<31 + 11, 1<<32 - 5, 1<<32 + 15, most40, below(most40)} {
		f := factsOf(p, p)
		f.hold(t, f.bounds())
		for _, b := range f.bounds() {
			want(t, some(nat.Of(p)), nat.Of(p), b, 3)
		}
	}
}

// TestBounds has some pairs of primes of all lengths with all bounds beside what they ask for.
func TestBounds(t *testing.T) {
	t.Parallel()
	kinds := map[int]int{}
	for size := 3; size <= 40; size++ {
		next := rowBelow(1<<size, uint64(size))
		for range 3 {
			p := above(min(1<<(size-1)+next()/2, most40-1))
			low, high := ends(p)
			n := above(low + next()%(high-low))
			if p>>40 > 0 || !isOf(p, n) || n == p {
				continue
			}
			f := factsOf(p, n)
			f.hold(t, f.bounds())
			for _, b := range f.bounds() {
				kinds[f.told(b)]++
			}
		}
	}
	if len(kinds) != 4 || kinds[0] < 1000 || kinds[4] < 1000 || kinds[5] < 100 || kinds[6] < 1000 {
		t.Errorf("of how many which kind is told: %v", kinds)
	}
}

// withTwist is a P, prime, and an n, prime, so that the twist's count is a number, if there are some near it.
func withTwist(other uint64) (facts, bool) {
	low, high := ends(other - 1)
	for p := below(min(high, 1<<40)); p > low; p = below(p) {
		n := 2*p + 2 - other
		if p >= 5 && isOf(p, n) && isPrime(n) && n != p {
			return factsOf(p, n), true
		}
	}
	return facts{}, false
}

// TestTwists is kind 4: twist's counts that are primes, their squares, powers of 3, products of primes of all sizes, and numbers without great primes.
func TestTwists(t *testing.T) {
	t.Parallel()
	found := 0
	for _, other := range []uint64{
		7, 11, 13, 31, 101, 65521, 65537, most20, most31, 1<<40 - 167, 1<<40 - 195, 1<<40 - 213, below(most40), // primes
		9, 25, 49, 121, 10201, 65521 * 65521, 65537 * 65537, 524287 * 524287, 1048571 * 1048571, 1048573 * 1048573, // their squares
		27, 81, 243, 729, 2187, 6561, 19683, 59049, 177147, 531441, 1594323, 14348907, 3486784401, 31381059609, 282429536481, // powers of 3
		15, 21, 33, 35, 143, 899, 3 * 65521, 65521 * 65537, 3 * 183251937943, 5 * 219902325521, 7 * 157073089681, 1048559 * 1048571, 1021 * 1073741789, // products of two
		105, 1001, 10007 * 10009, 3 * 5 * 65537, 10007 * 10009 * 10037, 3 * 3 * 524287, 101 * 101 * 103, 65537 * 3 * 3, 32749 * 3 * 3 * 3, 5 * 524287 * 262139, // of three and more
		3 * 5 * 7 * 11 * 13 * 17 * 19 * 23, 3 * 3 * 3 * 5 * 5 * 7 * 7 * 11 * 13, 7 * 7 * 7 * 7 * 7 * 7 * 7 * 7, 3 * 3 * 3 * 3 * 5 * 5 * 5 * 5 * 7 * 7 * 7 * 11 * 11, // of small ones
	} {
		f, is := withTwist(other)
		if !is {
			continue
		}
		found++
		l := primesIn(other)
		if 2*f.p+2-f.n != other || f.greatest != l[len(l)-1] {
			t.Fatalf("the twist's count of %v is not %d", f, other)
		}
		f.hold(t, f.beside())
		for _, b := range []uint64{0, 1, 2, f.greatest - 1} {
			want(t, some(nat.Of(f.p)), nat.Of(f.n), api.Bounds{Twist: b}, 0)
		}
		for _, b := range []uint64{f.greatest, f.greatest + 1, other, other + 1<<32, 1 << 63, all} {
			want(t, some(nat.Of(f.p)), nat.Of(f.n), api.Bounds{Twist: b}, 4)
			want(t, some(nat.Of(f.p)), nat.Of(f.n), api.Bounds{Embed: 4096, Twist: b, Disc: all}, 4)
		}
	}
	if found < 45 {
		t.Errorf("%d twist's counts are looked at alone", found)
	}
}

// TestTwo has the one n that is even.
func TestTwo(t *testing.T) {
	f := factsOf(5, 2)
	if f != (facts{5, 2, 5, 1, 1}) {
		t.Fatalf("of 5 and 2: %v", f)
	}
	f.hold(t, f.bounds())
}

// TestLongTwists has twist's counts of 41 bits: primes, and products of two of 20 and 21 bits.
func TestLongTwists(t *testing.T) {
	t.Parallel()
	primes, products := 0, 0
	for q := above(1 << 40); primes < 4; q = above(q) {
		if f, is := withTwist(q); is {
			f.hold(t, f.beside())
			want(t, some(nat.Of(f.p)), nat.Of(f.n), api.Bounds{Twist: q - 1}, 0)
			want(t, some(nat.Of(f.p)), nat.Of(f.n), api.Bounds{Twist: q}, 4)
			primes++
		}
	}
	for small := below(1 << 20); products < 6; small = below(small) {
		great := above(1 << 40 / small)
		f, is := withTwist(small * great)
		if !is {
			continue
		}
		if bits.Len64(small) != 20 || bits.Len64(great) != 21 || bits.Len64(small*great) != 41 || f.greatest != great {
			t.Fatalf("%d times %d, and %v", small, great, f)
		}
		f.hold(t, f.beside())
		for i, b := range []uint64{small - 1, small, great - 1, great, great + 1} {
			want(t, some(nat.Of(f.p)), nat.Of(f.n), api.Bounds{Twist: b}, []int{0, 0, 0, 4, 4}[i])
		}
		products++
	}
}

// byForm looks for two primes that a family tells, from a number on.
func byForm(from int64, family func(x int64) (p, n int64)) facts {
	for x := from; ; x++ {
		p, n := family(x)
		if p >= 5 && n >= 2 && isPrime(uint64(p)) && isPrime(uint64(n)) && isOf(uint64(p), uint64(n)) {
			return factsOf(uint64(p), uint64(n))
		}
	}
}

// families tell P and n with small orders, as Miyaji, Nakabayashi and Takano, and Barreto and Naehrig, found them.
func families(order uint64) []func(x int64) (p, n int64) {
	switch order {
	case 3:
		return []func(x int64) (p, n int64){
			func(x int64) (p, n int64) { return 12*x*x - 1, 12*x*x + 1 - 6*x },
			func(x int64) (p, n int64) { return 12*x*x - 1, 12*x*x + 1 + 6*x }}
	case 4:
		return []func(x int64) (p, n int64){
			func(x int64) (p, n int64) { return x*x + x + 1, x*x + 2*x + 2 },
			func(x int64) (p, n int64) { return x*x + x + 1, x*x + 1 }}
	case 6:
		return []func(x int64) (p, n int64){
			func(x int64) (p, n int64) { return 4*x*x + 1, 4*x*x + 1 - 2*x },
			func(x int64) (p, n int64) { return 4*x*x + 1, 4*x*x + 1 + 2*x }}
	}
	return []func(x int64) (p, n int64){
		func(x int64) (p, n int64) {
			return 36*x*x*x*x + 36*x*x*x + 24*x*x + 6*x + 1, 36*x*x*x*x + 36*x*x*x + 18*x*x + 6*x + 1
		},
		func(x int64) (p, n int64) {
			return 36*x*x*x*x - 36*x*x*x + 24*x*x - 6*x + 1, 36*x*x*x*x - 36*x*x*x + 18*x*x - 6*x + 1
		}}
}

// wantOrder holds what is told with Embed below, at and above an order.
func wantOrder(t *testing.T, f facts, order uint64) {
	t.Helper()
	if f.order != order || !isPrime(f.p) || !isPrime(f.n) {
		t.Fatalf("not of order %d: %v", order, f)
	}
	c, n := some(nat.Of(f.p)), nat.Of(f.n)
	for k := range 4097 {
		if uint64(k)+3 < order && k%97 > 0 || uint64(k) > order+2 && k < 4095 {
			continue
		}
		right := 0
		if uint64(k) >= order {
			right = 5
		}
		want(t, c, n, api.Bounds{Embed: k}, right)
		want(t, c, n, api.Bounds{Embed: k, Twist: f.greatest - 1, Disc: f.left - 1}, right)
		want(t, c, n, api.Bounds{Embed: k, Twist: f.greatest}, 4)
		if right == 0 {
			right = 6
		}
		want(t, c, n, api.Bounds{Embed: k, Disc: f.left}, right)
	}
	f.hold(t, f.beside())
}

// TestOrders is kind 5, with small orders and numbers of all lengths.
func TestOrders(t *testing.T) {
	t.Parallel()
	for _, c := range []struct{ p, n, order uint64 }{{5, 2, 1}, {7, 3, 1}, {5, 3, 2}, {13, 7, 2}} {
		wantOrder(t, factsOf(c.p, c.n), c.order)
	}
	for _, c := range []struct {
		order uint64
		from  []int64
	}{{3, []int64{1, 10, 100, 30000, 150000}}, {4, []int64{2, 10, 1000, 70000, 1 << 19}}, {6, []int64{2, 10, 1000, 40000, 250000}}, {12, []int64{1, 2, 10, 100, 105, 200}}} {
		for _, from := range c.from {
			for _, family := range families(c.order) {
				f := byForm(from, family)
				if from == c.from[len(c.from)-1] && f.n>>32 == 0 || f.p>>40 > 0 {
					t.Fatalf("%v is too short, or too long", f)
				}
				wantOrder(t, f, c.order)
			}
		}
	}
}

// ofOrder looks for two primes of an order, from a number on.
func ofOrder(order, from uint64) facts {
	for n := from/order*order + 1; ; n += order {
		if !isPrime(n) {
			continue
		}
		x := uint64(2)
		for orderOf(power(x, (n-1)/order, n), n) != order {
			x++
		}
		x = power(x, (n-1)/order, n)
		for k, y := uint64(1), x; k < order; k, y = k+1, times(y, x, n) {
			p := n + y
			if y > n/2 {
				p = y
			}
			if isOf(p, n) && isPrime(p) && orderOf(p%n, n) == order {
				return factsOf(p, n)
			}
		}
	}
}

// TestGreatOrders has orders up to 4096, and those that are no more, with small and with great numbers.
func TestGreatOrders(t *testing.T) {
	t.Parallel()
	for _, c := range []struct{ order, from uint64 }{{5, 1000}, {7, 1000}, {8, 1000}, {9, 1000}, {10, 1000}, {14, 1000}, {15, 1000}, {16, 1 << 16}, {24, 1 << 16}, {64, 1 << 20}, {100, 1 << 20}, {255, 1 << 20}, {256, 1 << 24}, {257, 1 << 24}, {1000, 1 << 30}, {1000, 1 << 33}, {2047, 1 << 30}, {2048, 1 << 33}, {4000, 1 << 38}, {4093, 1 << 36}, {4094, 1 << 36}, {4095, 1 << 36}, {4096, 1 << 20}, {4096, 1 << 33}, {4096, 1 << 37}, {4097, 1 << 20}, {4097, 1 << 36}, {4098, 1 << 35}, {5000, 1 << 36}, {8192, 1 << 36}} {
		t.Run(strconv.FormatUint(c.order, 10)+" from "+strconv.FormatUint(c.from, 10), func(t *testing.T) {
			t.Parallel()
			f := ofOrder(c.order, c.from)
			if f.p>>40 > 0 || f.n < c.from {
				t.Fatalf("%v is too long, or too short", f)
			}
			wantOrder(t, f, c.order)
		})
	}
}

// ofLeft looks for two primes for which t is odd, with a sign, and 4 P is t^2 and a number times a square: that of the first root, or of one of those behind it.
func ofLeft(left, root, from uint64, sign int64) (facts, bool) {
	for range 400 {
		for t := from | 1; t < from+2000; t += 2 {
			p := (t*t + left*root*root) / 4
			n := uint64(int64(p) + 1 - sign*int64(t))
			if p>>40 > 0 {
				break
			}
			if (t*t+left*root*root)%4 == 0 && p >= 5 && isOf(p, n) && n != p && isPrime(p) && isPrime(n) {
				return factsOf(p, n), true
			}
		}
		root += 2
	}
	return facts{}, false
}

// wantLeft holds what is told with Disc below, at and above what is left.
func wantLeft(t *testing.T, f facts, left uint64) {
	t.Helper()
	if f.left != left || !isPrime(f.p) || !isPrime(f.n) {
		t.Fatalf("%d is not left: %v", left, f)
	}
	c, n := some(nat.Of(f.p)), nat.Of(f.n)
	for _, d := range []uint64{0, 1, 2, left / 2, left - 1, left, left + 1, bend(f.p, f.n) - 1, bend(f.p, f.n), 1 << 42, 1 << 63, all} {
		right := 0
		if d >= left {
			right = 6
		}
		want(t, c, n, api.Bounds{Disc: d}, right)
		want(t, c, n, api.Bounds{Twist: f.greatest - 1, Disc: d}, right)
		want(t, c, n, api.Bounds{Twist: f.greatest, Disc: d}, 4)
		if f.order > 1 && f.order <= 4096 {
			want(t, c, n, api.Bounds{Embed: int(f.order) - 1, Disc: d}, right)
			want(t, c, n, api.Bounds{Embed: int(f.order), Disc: d}, 5)
		}
	}
	f.hold(t, f.beside())
}

// TestLefts is kind 6, with little left, of numbers of all lengths, t below 0 and above it.
func TestLefts(t *testing.T) {
	t.Parallel()
	wantLeft(t, factsOf(5, 2), 1)
	for _, left := range []uint64{3, 11, 19, 35, 43, 51, 59, 67, 83, 91, 115, 123, 163, 195, 427, 1155, 10027, 1000003} {
		for _, root := range []uint64{1, 3, 5, 9, 15, 101, 1001, 10001, 65521, 500001, 1000003} {
			for _, sign := range []int64{1, -1} {
				if f, is := ofLeft(left, root, root/3, sign); is {
					wantLeft(t, f, left)
				} else if left*root*root>>40 == 0 {
					t.Errorf("%d and %d: nothing found", left, root)
				}
			}
		}
	}
}

// TestSigns holds that t and what is as far below 0 have the same left.
func TestSigns(t *testing.T) {
	t.Parallel()
	both := 0
	for p := above(1 << 30); both < 40; p = above(p) {
		for _, far := range []uint64{1, 3, 9, 15, 105, 1001, 10001, 50001, 65001} {
			one, two := p+1-far, p+1+far
			if !isPrime(one) || !isPrime(two) || one == p {
				continue
			}
			left := leftOf(4*p - far*far)
			wantLeft(t, factsOf(p, one), left)
			wantLeft(t, factsOf(p, two), left)
			both++
		}
	}
}

// shape tells what 4 P - t^2 is a product of, if it is one of the shapes that are asked for.
func shape(n uint64) string {
	l := primesIn(n)
	last := l[len(l)-1]
	switch {
	case len(l) == 1:
		return "a prime"
	case len(l) == 2 && l[0] > 1<<16 && l[0] != last:
		return "two great primes"
	case len(l) > 2 && last > 1<<16 && l[len(l)-2] == last:
		return "a great prime's square"
	case len(l) == 3 && last > 1<<30 && l[0] == l[1]:
		return "a small square"
	case len(l) > 5 && last < 200:
		return "small primes"
	}
	return ""
}

// TestShapes has 4 P - t^2 of all shapes.
func TestShapes(t *testing.T) {
	t.Parallel()
	seen := map[string]int{}
	for p := below(1 << 40); len(seen) < 5 || seen["two great primes"] < 5 || seen["small primes"] < 1; p = below(p) {
		low, high := ends(p)
		for _, n := range []uint64{above(p), below(p), above(low), below(high), above(p - 1<<19), above(p + 1<<19)} {
			if name := shape(bend(p, n)); name != "" && n != p && isOf(p, n) && (seen[name] < 6) {
				wantLeft(t, factsOf(p, n), leftOf(bend(p, n)))
				seen[name]++
			}
		}
		if seen["a great prime's square"] == 0 {
			for i, q := range []uint64{999983, 786431, 524287, 1000003, 65537, 1048571} {
				f, is := ofLeft([]uint64{3, 3, 11, 3, 67, 3}[i], q, q/5, 1)
				if is && shape(bend(f.p, f.n)) == "a great prime's square" {
					wantLeft(t, f, f.left)
					seen["a great prime's square"]++
				}
			}
		}
	}
}

// TestNothingElse holds that A and B say nothing more than whether the curve may be.
func TestNothingElse(t *testing.T) {
	t.Parallel()
	for _, p := range []uint64{5, 7, 9, 11, 15, 23, 25} {
		low, high := ends(p)
		for n := low; n <= high; n++ {
			for _, b := range []api.Bounds{{}, {Embed: 2}, {Twist: 3}, {Disc: 11}, {Embed: 3, Twist: 5, Disc: 40}} {
				right, _ := Check(some(nat.Of(p)), nat.Of(n), b)
				for a := range p {
					for k := range p {
						if c := over(p, a, k); errorOf(c) == api.OK {
							want(t, c, nat.Of(n), b, right)
						} else {
							wantError(t, c, nat.Of(n), b, errorOf(c))
						}
					}
				}
			}
		}
	}
	for _, p := range []uint64{65521, 1<<31 - 1, 1<<31 + 1, most40, 1<<40 - 1} {
		next := rowBelow(p, p)
		for _, n := range []uint64{p, p + 1, above(p), below(p)} {
			f := factsOf(p, n)
			for range 20 {
				if c := over(p, next(), next()); errorOf(c) == api.OK {
					for _, b := range greats() {
						want(t, c, nat.Of(n), b, f.told(b))
					}
				}
			}
		}
	}
}

// greater are bounds of which one, two or all are greater.
func greater(b api.Bounds, next func() uint64) (out []api.Bounds) {
	for which := 1; which < 8; which++ {
		c := b
		if which&1 > 0 {
			c.Embed = min(4096, c.Embed+1+int(next()%uint64(1+b.Embed)))
		}
		if which&2 > 0 && c.Twist < all {
			c.Twist += 1 + next()%min(all-c.Twist, 1<<22)
		}
		if which&4 > 0 && c.Disc < all {
			c.Disc += 1 + next()%min(all-c.Disc, 1<<40)
		}
		out = append(out, c)
	}
	return out
}

// TestGreaterBounds holds P25.2: of what is not safe something is told with greater bounds, too, and no later kind.
func TestGreaterBounds(t *testing.T) {
	t.Parallel()
	unsafe, other := 0, 0
	for size := 4; size <= 40; size++ {
		next := rowBelow(1<<40, uint64(size))
		for range 12 {
			p := 1<<(size-1) | next()>>(40-size) | 1
			c := some(nat.Of(p))
			f := facts{p: p, n: p + next()%5}
			if q := above(p + next()%4); isPrime(p) && q != p && isOf(p, q) {
				f = factsOf(p, q)
			}
			for _, b := range append(f.beside(), greats()...) {
				what, _ := Check(c, nat.Of(f.n), b)
				for _, most := range greater(b, next) {
					got, e := Check(c, nat.Of(f.n), most)
					if e != api.OK || what > 0 && (got == 0 || got > what) {
						t.Errorf("P25.2: Check of %v, %d: %d with %v, but %d, error %d with %v", c, f.n, what, b, got, e, most)
					}
					if what > 0 {
						unsafe++
					} else if got > 0 {
						other++
					}
				}
			}
		}
	}
	if unsafe < 1000 || other < 1000 {
		t.Errorf("of %d bounds one is unsafe, and of %d it becomes so", unsafe, other)
	}
}

// asked is what Check is called with.
type asked struct {
	c api.Curve
	n api.Nat
	b api.Bounds
}

// questions are of all kinds: what is told, and what is an error.
func questions() (out []asked) {
	for _, p := range []api.Nat{{5}, {7}, {9}, {15}, {23}, {25}, {67}, {257}, {65521}, {most31}, {most40}, {1<<40 - 1}, {least41}, {all}, {13, 1}, {all, all}, {all - 188, all, all, all}} {
		for _, n := range []api.Nat{p, more(p, 1), nat.Of(above(p[0])), nat.Of(11), nil, loose(p, 1), {p[0], 1}} {
			for _, b := range append(greats(), api.Bounds{Embed: -1}, api.Bounds{Embed: 4097, Twist: 5}, api.Bounds{Embed: 7, Twist: 11, Disc: 100}) {
				out = append(out, asked{some(p), n, b})
			}
			out = append(out, asked{api.Curve{P: p}, n, api.Bounds{}}, asked{api.Curve{P: p, A: p}, n, api.Bounds{}}, asked{api.Curve{P: loose(p, 1), B: api.Nat{1}}, n, api.Bounds{}})
		}
	}
	return out
}

// lists are all numbers of a question.
func (q *asked) lists() []*api.Nat { return []*api.Nat{&q.c.P, &q.c.A, &q.c.B, &q.n} }

// roomy is the same in memory of its own, with room behind the end of each list.
func (q asked) roomy() asked {
	for _, x := range q.lists() {
		*x = append(slices.Clone(*x), 11, 12, 13, 14, 15)[:len(*x)]
	}
	return q
}

// whole are all lists, up to the end of their room.
func (q asked) whole() (out []api.Nat) {
	for _, x := range q.lists() {
		out = append(out, (*x)[:cap(*x)])
	}
	return out
}

// wantSame holds what was answered.
func wantSame(t *testing.T, q asked, right int, rightE api.Errno) {
	t.Helper()
	if got, e := Check(q.c, q.n, q.b); e != rightE || got != right {
		t.Errorf("R5: Check of %v: %d, error %d, not %d, error %d", q, got, e, right, rightE)
	}
}

// TestNothingBeside holds that with an error nothing is told, and what is told is a kind.
func TestNothingBeside(t *testing.T) {
	seen, errors := map[int]int{}, map[api.Errno]int{}
	for _, q := range questions() {
		what, e := Check(q.c, q.n, q.b)
		if e != api.OK && what != 0 || what < 0 || what > 6 {
			t.Errorf("R2: Check of %v: %d, error %d", q, what, e)
		}
		errors[e]++
		if e == api.OK {
			seen[what]++
		}
	}
	if len(seen) < 6 || len(errors) != 4 || errors[api.ErrMany] < 20 {
		t.Errorf("of how many there is which kind: %v, and which error: %v", seen, errors)
	}
}

// TestGivenStays holds R3 of what is handed in, the room behind a list's end too.
func TestGivenStays(t *testing.T) {
	for _, q := range questions() {
		in := q.roomy()
		var before []api.Nat
		for _, x := range in.whole() {
			before = append(before, slices.Clone(x))
		}
		right, e := Check(q.c, q.n, q.b)
		wantSame(t, in, right, e)
		if got := in.whole(); !slices.EqualFunc(got, before, slices.Equal[api.Nat]) {
			t.Errorf("R3: Check of %v: what was handed in became %v", before, got)
		}
	}
}

// TestNothingKept spoils what was handed in, and asks again.
func TestNothingKept(t *testing.T) {
	for _, q := range questions() {
		in := q.roomy()
		right, e := Check(in.c, in.n, in.b)
		for _, x := range in.whole() {
			for i := range x {
				x[i] = ^x[i]
			}
		}
		Check(in.c, in.n, in.b)
		wantSame(t, q, right, e)
	}
}

// TestSharedMemory hands in numbers that share memory with each other.
func TestSharedMemory(t *testing.T) {
	for _, p := range []api.Nat{{5}, {7}, {67}, {105}, {most31}, {most40}, {13, 1}, {all, all}} {
		x := less(p, 1)
		before := slices.Clone(p)
		for _, b := range append(greats(), api.Bounds{Embed: -1}) {
			right, e := Check(api.Curve{P: slices.Clone(p), A: slices.Clone(x), B: slices.Clone(x)}, slices.Clone(p), b)
			wantSame(t, asked{api.Curve{P: p, A: x, B: x}, p, b}, right, e)
			wantError(t, api.Curve{P: p, A: p, B: p}, p, b, api.ErrArg)
		}
		if !slices.Equal(p, before) || !slices.Equal(x, less(before, 1)) {
			t.Errorf("R3: what was handed in became %v, %v", p, x)
		}
	}
}

// TestSameAgain asks all in an order, and again in other ones.
func TestSameAgain(t *testing.T) {
	list := questions()
	answers, errors := make([]int, len(list)), make([]api.Errno, len(list))
	for i, q := range list {
		answers[i], errors[i] = Check(q.c, q.n, q.b)
	}
	for _, step := range []int{len(list) - 1, 7} {
		for i := range list {
			k := i * step % len(list)
			wantSame(t, list[k], answers[k], errors[k])
		}
	}
}

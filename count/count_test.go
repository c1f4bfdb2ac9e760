package count

import (
	"math"
	"math/big"
	"math/bits"
	"os"
	"runtime/debug"
	"slices"
	"strconv"
	"testing"

	"caltrop/api"
	"caltrop/curve"
	"caltrop/nat"
	"caltrop/rho"
	"caltrop/twist"
)

const (
	all     = math.MaxUint64 // a word whose bits are all 1
	least61 = 1<<60 + 33     // the least prime of 61 bits
	most60  = 1<<60 - 93     // the greatest of 60 bits
	most59  = 1<<59 - 55     // the greatest of 59 bits
)

// TestMain lets memory be looked through less often: nearly all of it is gone at once.
func TestMain(m *testing.M) {
	debug.SetGCPercent(400)
	os.Exit(m.Run())
}

// less is a without so many; there are as many.
func less(a api.Nat, count uint64) api.Nat {
	out, _ := nat.Sub(a, nat.Of(count))
	return out
}

// more is a and so many.
func more(a api.Nat, count uint64) api.Nat { return nat.Add(a, nat.Of(count)) }

// loose is a's number in words that may not be, unless noughts is 0.
func loose(a api.Nat, noughts int) api.Nat {
	return append(slices.Clone(a), make(api.Nat, noughts)...)
}

// oneAt is 2^place.
func oneAt(place int) api.Nat {
	a := make(api.Nat, place/64+1)
	a[place/64] = 1 << (place % 64)
	return a
}

// number is a number of the library's.
func number(x uint64) *big.Int { return new(big.Int).SetUint64(x) }

// numberOf is the number of words by the words of chapter 2 alone.
func numberOf(a api.Nat) *big.Int {
	out := new(big.Int)
	for _, x := range slices.Backward(a) {
		out.Lsh(out, 64).Add(out, number(x))
	}
	return out
}

// isPrime is the library's, which is right for all words.
func isPrime(p uint64) bool { return number(p).ProbablyPrime(0) }

// primesFrom are the primes from least to most.
func primesFrom(least, most uint64) (out []uint64) {
	for p := least; p <= most; p++ {
		if isPrime(p) {
			out = append(out, p)
		}
	}
	return out
}

// below is the greatest prime below a number that leaves rest by m, so that there is one.
func below(most, rest, m uint64) uint64 {
	for p := most - 1; ; p-- {
		if p%m == rest && isPrime(p) {
			return p
		}
	}
}

// rowBelow makes numbers below p without any order to be seen in them; another seed makes another row.
func rowBelow(p, seed uint64) func() uint64 {
	return func() uint64 {
		seed = seed*6364136223846793005 + 1442695040888963407
		return (seed ^ seed>>29) % p
	}
}

// times is a product modulo p.
func times(a, b, p uint64) uint64 {
	high, low := bits.Mul64(a, b)
	return bits.Rem64(high, low, p)
}

// power is a to the power of k modulo p.
func power(a, k, p uint64) uint64 {
	return new(big.Int).Exp(number(a), number(k), number(p)).Uint64()
}

// isSquare tells whether a number that is not 0 is one modulo a prime.
func isSquare(a, p uint64) bool { return power(a, (p-1)/2, p) == 1 }

// miss is the next number from so many on that is no square modulo a prime; 1 comes behind the last one below it.
func miss(from, p uint64) uint64 {
	for isSquare(from, p) {
		from = from%(p-1) + 1
	}
	return from
}

// over is a curve of three words.
func over(p, a, b uint64) api.Curve { return api.Curve{P: nat.Of(p), A: nat.Of(a), B: nat.Of(b)} }

// fits tells whether words may be, by chapter 2.
func fits(a api.Nat) bool { return len(a) == 0 || a[len(a)-1] != 0 }

// errorOf is May's error by the words of chapter 16.
func errorOf(c api.Curve) api.Errno {
	p, a, b := numberOf(c.P), numberOf(c.A), numberOf(c.B)
	if !fits(c.P) || !fits(c.A) || !fits(c.B) || p.Bit(0) == 0 || p.Cmp(number(5)) < 0 || p.BitLen() > api.MaxField || a.Cmp(p) >= 0 || b.Cmp(p) >= 0 {
		return api.ErrArg
	}
	ofA := new(big.Int).Exp(a, number(3), nil)
	bend := new(big.Int).Mul(b, b)
	bend.Add(bend.Mul(bend, number(27)), ofA.Mul(ofA, number(4)))
	if bend.Mod(bend, p).Sign() == 0 {
		return api.ErrCurve
	}
	return api.OK
}

// ends are those of the row of Hasse, by its words: so far from P and 1, at most, that the square is at most 4 P.
func ends(p uint64) (low, high uint64) {
	far := new(big.Int).Sqrt(number(4 * p)).Uint64()
	return p + 1 - far, p + 1 + far
}

// want holds a count, which is of the row of Hasse.
func want(t *testing.T, c api.Curve, split int, right uint64) {
	t.Helper()
	got, e := Of(c, split)
	if e != api.OK || !slices.Equal(got, api.Nat{right}) {
		t.Errorf("P23.1: Of %v, %d: %v, error %d, not %d", c, split, got, e, right)
	}
	if low, high := ends(c.P[0]); right < low || right > high {
		t.Errorf("P23.2: Of %v, %d: %d is not from %d to %d", c, split, right, low, high)
	}
}

// wantError holds an error, beside which there is nothing.
func wantError(t *testing.T, c api.Curve, split int, right api.Errno) {
	t.Helper()
	if got, e := Of(c, split); e != right || len(got) > 0 {
		t.Errorf("P23.1: Of %v, %d: %v, error %d, not error %d", c, split, got, e, right)
	}
}

// counted is what Of answers, which is held to be of the row of Hasse.
func counted(t *testing.T, c api.Curve, split int) uint64 {
	t.Helper()
	got, e := Of(c, split)
	if e != api.OK || len(got) != 1 {
		t.Fatalf("P23.1: Of %v, %d: %v, error %d", c, split, got, e)
	}
	if low, high := ends(c.P[0]); got[0] < low || got[0] > high {
		t.Errorf("P23.2: Of %v, %d: %d is not from %d to %d", c, split, got[0], low, high)
	}
	return got[0]
}

// tiny is a curve whose points are counted one by one.
type tiny struct{ p, a, b uint64 }

func (c tiny) curve() api.Curve { return over(c.p, c.a, c.b) }

func (c tiny) isSmooth() bool { return (4*c.a*c.a*c.a+27*c.b*c.b)%c.p != 0 }

func (c tiny) right(x uint64) uint64 { return (x*x%c.p*x + c.a*x + c.b) % c.p }

// pairs tells how many fulfil the equation, and one.
func (c tiny) pairs() uint64 {
	out := uint64(1)
	for x := range c.p {
		for y := range c.p {
			if y*y%c.p == c.right(x) {
				out++
			}
		}
	}
	return out
}

// roots tells how many the right side has.
func (c tiny) roots() (out int) {
	for x := range c.p {
		if c.right(x) == 0 {
			out++
		}
	}
	return out
}

// squares tells of how many numbers below p each one is the square.
func squares(p uint64) []uint64 {
	out := make([]uint64, p)
	for y := range p {
		out[y*y%p]++
	}
	return out
}

// bySquares tells the same as pairs.
func (c tiny) bySquares(squares []uint64) uint64 {
	out := uint64(1)
	for x := range c.p {
		out += squares[c.right(x)]
	}
	return out
}

// tinies are all curves modulo p that may be.
func tinies(p uint64) (out []tiny) {
	for a := range p {
		for b := range p {
			if c := (tiny{p, a, b}); c.isSmooth() {
				out = append(out, c)
			}
		}
	}
	return out
}

// splits are numbers of primes up to some tens.
func splits() []int { return []int{0, 1, 2, 3, 4, 5, 7, 10, 11, 13, 31, 58, 59, 60, 61} }

func TestExamples(t *testing.T) {
	for split := range 62 {
		want(t, over(5, 1, 1), split, 9)
		want(t, over(7, 0, 1), split, 12)
		want(t, over(23, 1, 4), split, 29)
		wantError(t, over(7, 0, 0), split, api.ErrCurve)
	}
	for _, c := range []struct {
		of    tiny
		right uint64
	}{{tiny{5, 1, 1}, 9}, {tiny{7, 0, 1}, 12}, {tiny{23, 1, 4}, 29}} {
		if got := c.of.pairs(); got != c.right {
			t.Errorf("%v has %d points, not %d", c.of, got, c.right)
		}
	}
}

// TestPairs has all curves over the smallest primes, those that may not be, too. All numbers of the row of Hasse are counts, both of its ends as well.
func TestPairs(t *testing.T) {
	t.Parallel()
	for _, p := range primesFrom(5, 47) {
		t.Run(strconv.FormatUint(p, 10), func(t *testing.T) {
			t.Parallel()
			seen := map[uint64]bool{}
			for a := range p {
				for b := range p {
					c := tiny{p, a, b}
					split := splits()[(a+3*b)%uint64(len(splits()))]
					if !c.isSmooth() {
						wantError(t, c.curve(), split, api.ErrCurve)
						continue
					}
					right := c.pairs()
					seen[right] = true
					want(t, c.curve(), 0, right)
					want(t, c.curve(), split, right)
				}
			}
			low, high := ends(p)
			for n := low; n <= high; n++ {
				if !seen[n] {
					t.Errorf("modulo %d no curve has %d points", p, n)
				}
			}
			if uint64(len(seen)) != high-low+1 {
				t.Errorf("modulo %d there are %d counts, but from %d to %d", p, len(seen), low, high)
			}
		})
	}
}

// TestAllSplits has all curves over the smallest primes with each split.
func TestAllSplits(t *testing.T) {
	t.Parallel()
	for _, p := range primesFrom(5, 17) {
		t.Run(strconv.FormatUint(p, 10), func(t *testing.T) {
			t.Parallel()
			for _, c := range tinies(p) {
				right := c.pairs()
				for split := range 62 {
					want(t, c.curve(), split, right)
				}
			}
		})
	}
}

// TestSquares has curves over all primes up to some thousands: A or B 0, and any.
func TestSquares(t *testing.T) {
	t.Parallel()
	for part := range uint64(8) {
		t.Run(strconv.FormatUint(part, 10), func(t *testing.T) {
			t.Parallel()
			for i, p := range primesFrom(47, 5000) {
				if uint64(i)%8 != part {
					continue
				}
				table := squares(p)
				next := rowBelow(p, p)
				for k, c := range []tiny{{p, 1, 1}, {p, 0, next()}, {p, next(), 0}, {p, p - 1, 0}, {p, 0, 1}, {p, p - 1, p - 1}, {p, next(), next()}, {p, next(), next()}} {
					if c.isSmooth() {
						right := c.bySquares(table)
						want(t, c.curve(), 0, right)
						if k > 3 {
							want(t, c.curve(), splits()[i%len(splits())], right)
						}
					}
				}
			}
		})
	}
}

// kinds are what a count may be, that some curves over small primes have.
func kinds(p, n uint64) (out []string) {
	low, high := ends(p)
	for kind, is := range map[string]bool{"least": n == low, "greatest": n == high, "one more than P": n == p+1, "P": n == p, "a power of 2": n&(n-1) == 0, "twice a prime": n%2 == 0 && isPrime(n/2), "a prime": isPrime(n)} {
		if is {
			out = append(out, kind)
		}
	}
	return out
}

// TestKinds looks for counts of all kinds over primes up to some hundreds, a few of each kind.
func TestKinds(t *testing.T) {
	t.Parallel()
	for _, p := range append(primesFrom(53, 163), 251, 257, 307, 311) {
		t.Run(strconv.FormatUint(p, 10), func(t *testing.T) {
			t.Parallel()
			table, seen := squares(p), map[string]int{}
			for _, c := range tinies(p) {
				right := c.bySquares(table)
				isNew := false
				for _, kind := range kinds(p, right) {
					seen[kind]++
					isNew = isNew || seen[kind] <= 5
				}
				if isNew {
					want(t, c.curve(), 0, right)
					want(t, c.curve(), 2, right)
					want(t, c.curve(), 5, right)
				}
			}
			for _, kind := range []string{"least", "greatest", "one more than P", "P"} {
				if seen[kind] == 0 {
					t.Errorf("modulo %d no count is %s", p, kind)
				}
			}
		})
	}
}

// exponent is the least number so many of each point as which are O.
func (c tiny) exponent() uint64 {
	out := uint64(1)
	for x := range c.p {
		p, is := twist.At(c.curve(), nat.Of(x), false)
		if !is {
			continue
		}
		order, sum := uint64(1), p
		for !sum.Far {
			sum, _ = curve.Add(c.curve(), sum, p)
			order++
		}
		out *= order / new(big.Int).GCD(nil, nil, number(out), number(order)).Uint64()
	}
	return out
}

// leaves tells how many numbers of the row of Hasse the points of a curve leave, and how many those of the twist leave of these.
func (c tiny) leaves() (one, both int) {
	d := miss(2, c.p)
	other := tiny{c.p, c.a * d * d % c.p, c.b * d % c.p * d % c.p * d % c.p}
	its, others := c.exponent(), other.exponent()
	low, high := ends(c.p)
	for n := low; n <= high; n++ {
		if n%its == 0 {
			one++
			if (2*c.p+2-n)%others == 0 {
				both++
			}
		}
	}
	return one, both
}

// TestTwoParts has all curves over small primes whose points leave more than one number of the row. Over some of these primes the twist's points do not decide either.
func TestTwoParts(t *testing.T) {
	t.Parallel()
	for _, p := range primesFrom(5, 43) {
		t.Run(strconv.FormatUint(p, 10), func(t *testing.T) {
			t.Parallel()
			several, undecided := 0, 0
			for _, c := range tinies(p) {
				one, both := c.leaves()
				if one == 1 {
					continue
				}
				several++
				if both > 1 {
					undecided++
				}
				right := c.pairs()
				for _, split := range splits() {
					want(t, c.curve(), split, right)
				}
			}
			if several == 0 {
				t.Errorf("modulo %d the points of no curve leave more than one number", p)
			}
			if is := slices.Contains([]uint64{5, 7, 11, 17, 23, 29}, p); is != (undecided > 0) {
				t.Errorf("modulo %d there are %d curves of which and of whose twists all points leave more than one number", p, undecided)
			}
		})
	}
}

// draws are for rho.
func draws() (out []uint64) {
	for draw := range uint64(40) {
		out = append(out, draw+1)
	}
	return out
}

// timesOf is so many times a point.
func timesOf(t *testing.T, c api.Curve, n uint64, p api.Point) api.Point {
	t.Helper()
	out, e := curve.Times(c, nat.Of(n), p)
	if e != api.OK {
		t.Fatalf("P16.4: Times of %v, %d, %v: error %d", c, n, p, e)
	}
	return out
}

// somePoints are points of a curve at numbers without any order.
func somePoints(c api.Curve, count int) (out []api.Point) {
	next := rowBelow(c.P[0], 77)
	for tries := 0; len(out) < count && tries < 400; tries++ {
		if p, is := twist.At(c, nat.Of(next()), tries%2 == 1); is {
			out = append(out, p)
		}
	}
	return out
}

// wantComing holds that so many of each point are O.
func wantComing(t *testing.T, c api.Curve, n uint64) {
	t.Helper()
	points := somePoints(c, 4)
	if len(points) == 0 {
		t.Errorf("no points of %v were found", c)
	}
	for _, p := range points {
		if !timesOf(t, c, n, p).Far {
			t.Errorf("P23.2: Of %v: %d, but so many of %v are not O", c, n, p)
		}
	}
}

// orderOf is that of a point so many of which are O, out of the prime factors of the number.
func orderOf(t *testing.T, c api.Curve, n uint64, p api.Point) uint64 {
	t.Helper()
	factors, _, e := rho.Factors(n, draws())
	if e != api.OK {
		t.Fatalf("P10.2: Factors of %d: error %d", n, e)
	}
	for _, q := range factors {
		if timesOf(t, c, n/q, p).Far {
			n /= q
		}
	}
	return n
}

// isShown tells whether some points show that n is the count: one has an order that goes into no other number of the row of Hasse, or one of the twist has, held against 2 P + 2 less n.
func isShown(t *testing.T, c api.Curve, n uint64) bool {
	t.Helper()
	p := c.P[0]
	other, _ := twist.Twist(c, nat.Of(miss(2, p)))
	shows := func(c api.Curve, n uint64) bool {
		low, high := ends(p)
		for _, q := range somePoints(c, 6) {
			if order := orderOf(t, c, n, q); timesOf(t, c, n, q).Far && n-low < order && high-n < order {
				return true
			}
		}
		return false
	}
	return shows(c, n) || shows(other, 2*p+2-n)
}

// wantShown counts, and holds the count by points.
func wantShown(t *testing.T, c api.Curve, split int) uint64 {
	t.Helper()
	n := counted(t, c, split)
	wantComing(t, c, n)
	if !isShown(t, c, n) {
		t.Errorf("P23.1: Of %v: %d, but no point shows it", c, n)
	}
	return n
}

// wantTwists holds P23.2 and P18.4 of the curve's twists: by squares and by others.
func wantTwists(t *testing.T, c api.Curve, n uint64, split int) {
	t.Helper()
	p := c.P[0]
	next := rowBelow(p-1, n)
	for range 2 {
		u := next() + 1
		for _, d := range []uint64{times(u, u, p), miss(u, p)} {
			other, e := twist.Twist(c, nat.Of(d))
			if e != api.OK {
				t.Fatalf("P18.1: Twist of %v, %d: error %d", c, d, e)
			}
			right := n
			if !isSquare(d, p) {
				right = 2*p + 2 - n
			}
			want(t, other, split, right)
		}
	}
}

// TestAnyCurves has curves over primes of all lengths, shown by their points, and their twists.
func TestAnyCurves(t *testing.T) {
	t.Parallel()
	for size := 10; size <= 60; size++ {
		t.Run(strconv.Itoa(size), func(t *testing.T) {
			t.Parallel()
			p := below(1<<size, 1, 2)
			next := rowBelow(p, uint64(size))
			for i := range 4 {
				c := over(p, next(), next())
				split := splits()[(size+5*i)%10]
				n := wantShown(t, c, split)
				want(t, c, 7, n)
				if i < 2 {
					wantTwists(t, c, n, 6)
				}
				if size < 20 {
					tiny := tiny{p, c.A[0], c.B[0]}
					want(t, c, 0, tiny.bySquares(squares(p)))
				}
			}
		})
	}
}

// TestOneMore has curves that have P + 1 points: where P leaves 2 by 3 each number is a third power once, and where it leaves 3 by 4 -1 is no square, so of x and -x just one has points.
func TestOneMore(t *testing.T) {
	t.Parallel()
	for size := 8; size <= 60; size++ {
		t.Run(strconv.Itoa(size), func(t *testing.T) {
			t.Parallel()
			for i := range uint64(3) {
				p := below(1<<size-i*(1<<(size-4)), 2, 3)
				next := rowBelow(p-1, p)
				for k, b := range []uint64{1, p - 1, next() + 1} {
					want(t, over(p, 0, b), splits()[(size+k)%10], p+1)
				}
				p = below(1<<size-i*(1<<(size-4)), 3, 4)
				for k, a := range []uint64{1, p - 1, next()%(p-1) + 1} {
					want(t, over(p, a, 0), splits()[(size+k)%10], p+1)
				}
			}
			p := below(1<<size, 11, 12) // both
			wantTwists(t, over(p, 0, 2), p+1, 5)
			wantTwists(t, over(p, 2, 0), p+1, 5)
		})
	}
}

// inParts tells a, b for which a^2 and d times b^2 come to a prime modulo which -d is a square; d is 1 or 3 (Cornacchia).
func inParts(p, d uint64) (a, b uint64) {
	rest := new(big.Int).ModSqrt(number(p-d), number(p)).Uint64()
	most := new(big.Int).Sqrt(number(p)).Uint64()
	a = p
	for a > most {
		a, rest = rest, a%rest
	}
	return a, new(big.Int).Sqrt(number((p - a*a) / d)).Uint64()
}

// family is all curves with A 0, or with B 0, up to twists by what makes no other curve of them, and the counts that they have together.
type family struct {
	curves []api.Curve
	counts []uint64
}

// counts are P and 1 less each trace, and with it, rising.
func counts(p uint64, traces ...int64) (out []uint64) {
	for _, t := range traces {
		out = append(out, p+1-uint64(t), p+1+uint64(t))
	}
	slices.Sort(out)
	return out
}

// sixOf are the curves with A 0 modulo a prime that leaves 1 by 3: B goes through powers of what is no square and no third power, of which six are six twists. With P as a^2 and 3 b^2 the traces are those of a number with this norm, times the six roots of 1.
func sixOf(p uint64) (out family) {
	g := uint64(2)
	for isSquare(g, p) || power(g, (p-1)/3, p) == 1 {
		g++
	}
	for b, i := uint64(1), 0; i < 6; b, i = times(b, g, p), i+1 {
		out.curves = append(out.curves, over(p, 0, b))
	}
	a, b := inParts(p, 3)
	out.counts = counts(p, int64(2*a), int64(a+3*b), int64(a)-int64(3*b))
	return out
}

// fourOf are the curves with B 0 modulo a prime that leaves 1 by 4: A goes through powers of what is no square, of which four are four twists. With P as a^2 and b^2 the traces are those of a number with this norm, times the four roots of 1.
func fourOf(p uint64) (out family) {
	g := miss(2, p)
	for a, i := uint64(1), 0; i < 4; a, i = times(a, g, p), i+1 {
		out.curves = append(out.curves, over(p, a, 0))
	}
	a, b := inParts(p, 1)
	out.counts = counts(p, int64(2*a), int64(2*b))
	return out
}

// isAlone tells whether of all counts of the family n alone brings points of a curve to O.
func (f family) isAlone(t *testing.T, c api.Curve, n uint64) bool {
	t.Helper()
	points := somePoints(c, 30)
	return !slices.ContainsFunc(f.counts, func(other uint64) bool {
		return other != n && !slices.ContainsFunc(points, func(p api.Point) bool { return !timesOf(t, c, other, p).Far })
	})
}

// hold counts all of the family: each has one of the counts, and no two have the same one. It tells how many of them the points of the curve alone decide.
func (f family) hold(t *testing.T, split int) (alone int) {
	t.Helper()
	var got []uint64
	for i, c := range f.curves {
		n := counted(t, c, split)
		got = append(got, n)
		wantComing(t, c, n)
		if f.isAlone(t, c, n) {
			alone++
		}
		want(t, c, splits()[i], n)
	}
	slices.Sort(got)
	if !slices.Equal(got, f.counts) {
		t.Errorf("P23.1: Of all of %v: %v, not %v", f.curves, got, f.counts)
	}
	return alone
}

// TestFamilies has all curves with A 0, and with B 0, over primes of all lengths where they do not have P + 1 points.
func TestFamilies(t *testing.T) {
	t.Parallel()
	for size := 8; size <= 60; size++ {
		t.Run(strconv.Itoa(size), func(t *testing.T) {
			t.Parallel()
			six, four := sixOf(below(1<<size, 1, 3)), fourOf(below(1<<size, 1, 4))
			if alone := six.hold(t, 7); alone < 5 && size > 12 {
				t.Errorf("but %d of six curves are decided by their points", alone)
			}
			if alone := four.hold(t, 7); alone < 3 && size > 12 {
				t.Errorf("but %d of four curves are decided by their points", alone)
			}
			for _, c := range []api.Curve{six.curves[0], six.curves[size%5+1], four.curves[0], four.curves[size%3+1]} {
				wantTwists(t, c, counted(t, c, 13), 11)
			}
		})
	}
}

// squareAnd is the greatest prime P up to a number that is n^2 less so many n, and 1, and its n.
func squareAnd(most, less uint64) (p, n uint64) {
	for n = new(big.Int).Sqrt(number(most)).Uint64(); ; n-- {
		if p = n*n - less*n + 1; isPrime(p) && p < most {
			return p, n
		}
	}
}

// wantEnds holds that a family has curves of the least and of the greatest count of the row of Hasse, and one of n^2 points, whose group is of two parts of n each: its points leave several numbers of the row.
func wantEnds(t *testing.T, f family, n uint64) {
	t.Helper()
	p := f.curves[0].P[0]
	low, high := ends(p)
	if f.counts[0] != low || f.counts[len(f.counts)-1] != high || !slices.Contains(f.counts, n*n) {
		t.Fatalf("modulo %d the counts are %v, the ends are %d and %d", p, f.counts, low, high)
	}
	f.hold(t, 5)
	for i, c := range f.curves {
		if counted(t, c, 7) != n*n {
			continue
		}
		for _, q := range somePoints(c, 10) {
			if !timesOf(t, c, n, q).Far {
				t.Errorf("modulo %d, %v is no point of two parts of %d", p, q, n)
			}
		}
		for _, split := range []int{0, 2, 3} {
			want(t, c, split, n*n)
		}
		wantTwists(t, c, n*n, splits()[i])
	}
}

// TestGreatEnds has curves over primes of all lengths at both ends of the row of Hasse, and groups of two parts that are the same: 4 P is a square and 4 where P is n^2 and 1, and a square and 3 where P is n^2 less n, and 1.
func TestGreatEnds(t *testing.T) {
	t.Parallel()
	for _, size := range []int{6, 8, 9, 10, 12, 15, 16, 20, 24, 28, 31, 32, 33, 36, 40, 44, 48, 52, 56, 59, 60} {
		t.Run(strconv.Itoa(size), func(t *testing.T) {
			t.Parallel()
			p, n := squareAnd(1<<size, 0)
			wantEnds(t, fourOf(p), n)
			p, n = squareAnd(1<<size, 1)
			wantEnds(t, sixOf(p), n)
		})
	}
}

// TestOrderTwo has curves with three points of order 2, with one, and with none: the count is a number of fours, even, or odd.
func TestOrderTwo(t *testing.T) {
	t.Parallel()
	seen := map[int]int{}
	for _, p := range primesFrom(5, 61) {
		next := rowBelow(p, p)
		for range 40 {
			if c := (tiny{p, next(), next()}); c.isSmooth() {
				seen[c.roots()]++
				for _, split := range []int{0, 1, 2, 3} {
					want(t, c.curve(), split, c.pairs())
				}
			}
		}
	}
	if len(seen) != 3 || min(seen[0], seen[1], seen[3]) < 10 {
		t.Errorf("so many curves have so many points of order 2: %v", seen)
	}
	for _, size := range []int{20, 31, 32, 33, 40, 48, 55, 60} {
		t.Run(strconv.Itoa(size), func(t *testing.T) {
			t.Parallel()
			p := below(1<<size, 1, 2)
			next := rowBelow(p, 9)
			for range 3 {
				// (x - u) (x - v) (x + u + v) and (x - u) (x^2 + u x + v) have no x^2
				u, v := next(), next()
				w := p - (u+v)%p
				three := over(p, (times(u, v, p)+times(u+v, w, p))%p, p-times(times(u, v, p), w, p))
				square := times(u, u, p)
				one := over(p, (v+p-square)%p, p-times(u, v, p))
				if n := counted(t, three, 0); n%4 != 0 || errorOf(three) != api.OK {
					t.Errorf("%v has three points of order 2, and not %d in all", three, n)
				}
				if n := counted(t, one, 0); n%2 != 0 || errorOf(one) != api.OK {
					t.Errorf("%v has a point of order 2, and not %d in all", one, n)
				}
			}
		})
	}
}

// TestSplits has each split, with P that is one of the primes up to it, too.
func TestSplits(t *testing.T) {
	t.Parallel()
	for _, p := range append(primesFrom(5, 67), 251, 1009, 65521, 1<<20-3, 1<<26-5, 1<<31-1) {
		t.Run(strconv.FormatUint(p, 10), func(t *testing.T) {
			t.Parallel()
			curves := []api.Curve{over(p, 1, 1), over(p, 0, 2), over(p, 3, 0), over(p, p-1, p-2), over(p, 2, p-3)}
			if p > 1<<20 {
				curves = curves[:1]
			}
			for _, c := range curves {
				if errorOf(c) != api.OK {
					continue
				}
				right := counted(t, c, 0)
				if p < 2000 {
					right = tiny{p, numberOf(c.A).Uint64(), numberOf(c.B).Uint64()}.pairs()
				}
				for split := range 62 {
					want(t, c, split, right)
				}
			}
		})
	}
}

// wrongSplits may not be.
func wrongSplits() []int {
	return []int{math.MinInt, math.MinInt + 1, math.MinInt + 61, -1 << 32, -1<<32 + 5, -62, -61, -3, -2, -1, 62, 63, 64, 65, 67, 71, 97, 127, 128, 256, 256 + 5, 1 << 16, 1<<31 - 1, 1 << 32, 1<<32 + 5, 1 << 62, math.MaxInt - 1, math.MaxInt}
}

// TestWrongSplits has all splits that may not be, with P of all lengths, and with those that are no primes.
func TestWrongSplits(t *testing.T) {
	for _, p := range []api.Nat{{5}, {7}, {9}, {61}, {67}, {1155}, {1<<31 - 1}, {most59}, {most60}, {1<<60 - 1}, {1<<60 + 1}, {least61}, {1<<61 - 1}, {1<<63 - 25}, {all - 58}, {all}, {13, 1}, {all, all}, less(oneAt(256), 189)} {
		for _, split := range wrongSplits() {
			wantError(t, api.Curve{P: p, A: nat.Of(1), B: nat.Of(1)}, split, api.ErrArg)
		}
		for split := -200; split < 0; split++ {
			wantError(t, api.Curve{P: p, A: nat.Of(1), B: nat.Of(1)}, split, api.ErrArg)
			wantError(t, api.Curve{P: p, A: nat.Of(1), B: nat.Of(1)}, 61-split, api.ErrArg)
		}
	}
}

// TestLongest has P of 59 and 60 bits with each split that leads to another number of primes, and some beside these.
func TestLongest(t *testing.T) {
	t.Parallel()
	for _, c := range []api.Curve{over(most59, 3, 8), over(most60, 5, 7), over(most60, 0, 1), over(below(most60, 1, 4), 2, 0)} {
		t.Run(strconv.FormatUint(c.P[0], 10), func(t *testing.T) {
			t.Parallel()
			right := wantShown(t, c, 0)
			for _, split := range []int{1, 2, 3, 4, 5, 6, 7, 10, 11, 13, 17, 19, 22, 23, 28, 29, 31, 58, 59, 60, 61} {
				want(t, c, split, right)
			}
		})
	}
}

// TestTooLong has P of 61 bits and more, whether they are primes or not, and P of 60 bits beside these.
func TestTooLong(t *testing.T) {
	t.Parallel()
	for _, p := range []api.Nat{{1<<60 + 1}, {1<<60 + 3}, {least61}, {1<<61 - 1}, {1<<61 + 1}, {1<<62 - 57}, {1<<63 - 25}, {1<<63 + 29}, {all - 58}, {all}, {1, 1}, {13, 1}, {most60, 1}, {5, 5}, {all - 158, all}, {all, all}, {1, 0, 1}, {133, 0, 0, 1}, {5, 0, 0, 5}, {all - 188, all, all, all}, {all, all, all, all}} {
		for _, c := range []api.Curve{{P: p, A: nat.Of(1), B: nat.Of(1)}, {P: p, A: nat.Of(2)}, {P: p, B: nat.Of(7)}, {P: p, A: less(p, 1), B: less(p, 2)}} {
			if e := errorOf(c); e != api.OK {
				t.Fatalf("%v: error %d", c, e)
			}
			for _, split := range []int{0, 1, 2, 3, 7, 31, 60, 61} {
				wantError(t, c, split, api.ErrMany)
			}
		}
	}
	for _, p := range []api.Nat{oneAt(256), more(oneAt(256), 297), less(oneAt(257), 93), more(oneAt(300), 157), append(make(api.Nat, 30), 5)} {
		for _, split := range []int{-1, 0, 5, 61, 62} {
			wantError(t, api.Curve{P: p, A: nat.Of(1), B: nat.Of(1)}, split, api.ErrArg)
		}
	}
	for _, p := range []uint64{most60, most59, below(most60, 1, 2), below(most59, 1, 2)} {
		if !isPrime(p) {
			t.Fatalf("%d is no prime", p)
		}
		for _, split := range []int{0, 2, 7} {
			wantComing(t, over(p, 1, 5), counted(t, over(p, 1, 5), split))
		}
	}
	if !isPrime(least61) || bits.Len64(least61) != 61 || bits.Len64(most60) != 60 || below(least61, 1, 2) != most60 {
		t.Errorf("%d and %d are not the primes beside 2^60", uint64(most60), uint64(least61))
	}
}

// refused are curves that may not be.
func refused() (out []api.Curve) {
	for _, p := range []api.Nat{{7}, {13}, {15}, {most60}, {least61}, {1<<61 - 1}, {1<<61 + 1}, {1<<63 - 25}, {13, 1}, {all - 188, all, all, all}, {all, all, all, all}} {
		a, b := less(p, 2), api.Nat{3}
		out = append(out, api.Curve{P: p}, api.Curve{P: p, A: less(p, 3), B: api.Nat{2}}, api.Curve{P: p, A: less(p, 3), B: less(p, 2)}) // 4 A^3 is -108, and 27 B^2 is 108
		for _, x := range []api.Nat{p, more(p, 1), nat.Shl(p, 1), loose(a, 1), loose(b, 3), {0}, {1, 0}, loose(p, 1), append(loose(p, 5-len(p)), 1), make(api.Nat, 300)} {
			out = append(out, api.Curve{P: p, A: x, B: b}, api.Curve{P: p, A: a, B: x}, api.Curve{P: p, A: x, B: x})
		}
		for _, x := range []api.Nat{nil, {0}, {1}, {2}, {3}, {4}, {1 << 59}, {1 << 60}, more(p, 1), loose(p, 1), loose(p, 4), nat.Shl(p, 300), append(loose(p, 4-len(p)), 1), oneAt(256), more(oneAt(256), 1), {1, 2, 3, 4, 5}} {
			out = append(out, api.Curve{P: x, A: a, B: b}, api.Curve{P: x, A: api.Nat{1}, B: api.Nat{1}}, api.Curve{P: x})
		}
	}
	return append(out, api.Curve{}, over(9, 0, 1), over(9, 3, 3), over(25, 15, 10), over(27, 3, 0), over(81, 9, 9), over(23, 22, 22), over(31, 1, 1), over(5, 0, 0), over(5, 2, 2), over(61, 0, 0))
}

// TestRefused has the curve's error ahead of all others: with splits that may not be, with P that are too long, and with P that are no primes.
func TestRefused(t *testing.T) {
	seen := map[api.Errno]int{}
	for _, c := range refused() {
		right := errorOf(c)
		if e := curve.May(c); e != right {
			t.Errorf("P16.1: May of %v: error %d, not %d", c, e, right)
		}
		if len(c.P) > 1 || len(c.P) == 1 && c.P[0] >= 1<<60 {
			seen[right]++
		}
		for _, split := range append(splits(), wrongSplits()...) {
			wantError(t, c, split, right)
		}
	}
	if seen[api.OK] > 0 || seen[api.ErrArg] < 100 || seen[api.ErrCurve] < 20 {
		t.Errorf("of how many with a P that is too long there is which error: %v", seen)
	}
}

// wantSome asks what P23.1 says of a P that is no prime: some number of the row of Hasse, or ErrNone. The same call tells the same again.
func wantSome(t *testing.T, c api.Curve, split int) {
	t.Helper()
	got, e := Of(c, split)
	switch low, high := ends(c.P[0]); {
	case e == api.OK && (len(got) != 1 || got[0] < low || got[0] > high):
		t.Errorf("P23.1: Of %v, %d: %v is not from %d to %d", c, split, got, low, high)
	case e != api.OK && (e != api.ErrNone || len(got) > 0):
		t.Errorf("P23.1: Of %v, %d: %v, error %d", c, split, got, e)
	}
	if again, otherE := Of(c, split); otherE != e || !slices.Equal(again, got) {
		t.Errorf("R5: Of %v, %d: %v, error %d, and then %v, error %d", c, split, got, e, again, otherE)
	}
}

// TestSmallNoPrimes has all curves modulo all odd numbers below 100 that are no primes.
func TestSmallNoPrimes(t *testing.T) {
	t.Parallel()
	for p := uint64(9); p < 100; p += 2 {
		if isPrime(p) {
			continue
		}
		t.Run(strconv.FormatUint(p, 10), func(t *testing.T) {
			t.Parallel()
			for a := range p {
				for b := range p {
					c := over(p, a, b)
					split := int(a+7*b) % 62
					if e := errorOf(c); e != api.OK {
						wantError(t, c, split, e)
						continue
					}
					wantSome(t, c, split)
					wantSome(t, c, 0)
				}
			}
		})
	}
}

// noPrimes are odd numbers of 60 bits at most that are none: products of two and of more, powers, Carmichael numbers, those that pass to many bases, products of the primes up to 61, and numbers whose bits are all 1.
func noPrimes() []uint64 {
	return []uint64{
		121, 125, 143, 169, 221, 243, 341, 1155, 2047, 3599, 4087, 15015, 65535, 255255,
		561, 1105, 1729, 2465, 2821, 6601, 8911, 10585, 15841, 29341, 41041, 62745, 172947529, 228842209, 1042789205881, 1061085945064681, 1149131566783366921,
		1373653, 25326001, 3215031751, 2152302898747, 3474749660383, 341550071728321,
		3 * 5 * 7 * 11 * 13 * 17 * 19 * 23, 3 * 5 * 7 * 11 * 13 * 17 * 19 * 23 * 29 * 31 * 37 * 41, 29 * 31 * 37 * 41 * 43 * 47 * 53 * 59 * 61, 43 * 47 * 53 * 59 * 61, 5 * 61, 59 * 61, 61 * 61, 53 * 59 * 61,
		43046721 * 3, 3 * 3 * 3 * 3 * 3 * 3 * 3 * 3 * 3 * 3 * 3 * 3 * 3, 1220703125, 1<<31 + 1, 1<<32 - 1, 1<<32 + 1, 1<<59 - 1, 1<<60 - 1, 1<<59 + 1,
		65521 * 65537, 65537 * 65537, 65521 * 65521 * 65521, (1<<31 - 1) * (1<<29 - 3), (1<<30 - 35) * (1<<30 - 35), (1<<30 - 35) * (1<<30 - 41), 1048573 * 1048573 * 1048571, 3 * (1<<58 - 27), 5 * (1<<57 - 13), 61 * (1<<54 - 33), 1<<20 - 1, 1<<40 - 1,
	}
}

// TestNoPrimes has curves modulo numbers of all kinds that are no primes: A or B 0, any, and those where all is 0, or bent, modulo a factor.
func TestNoPrimes(t *testing.T) {
	t.Parallel()
	for _, p := range noPrimes() {
		t.Run(strconv.FormatUint(p, 10), func(t *testing.T) {
			t.Parallel()
			if isPrime(p) || p%2 == 0 || p >= 1<<60 {
				t.Fatalf("%d is none of these numbers", p)
			}
			next := rowBelow(p, p)
			curves := []api.Curve{over(p, 1, 1), over(p, 0, 1), over(p, 1, 0), over(p, p-1, p-2), over(p, next(), next()), over(p, next(), next())}
			for _, q := range []uint64{3, 5, 7, 11, 13, 61, 65521, 65537, 1048573, 1<<30 - 35, 1<<31 - 1} {
				if p%q == 0 && p > q {
					rest := p / q
					curves = append(curves, over(p, q, q), over(p, 0, q), over(p, q, 0), over(p, rest, rest), over(p, rest, 1), over(p, 1, rest), over(p, q, 2), over(p, 2, q), over(p, (p+q-3)%p, 2), over(p, p-3, (q+2)%p), over(p, p-3, (rest+2)%p))
				}
			}
			for i, c := range curves {
				if e := errorOf(c); e != api.OK {
					wantError(t, c, i, e)
					continue
				}
				for _, split := range []int{0, 1, 2, 3, 7, 13, 61} {
					wantSome(t, c, split)
				}
				wantError(t, c, -1, api.ErrArg)
				wantError(t, c, 62, api.ErrArg)
			}
		})
	}
}

// TestAnyWords has words of all kinds in all places: nothing panics, and there is an answer just where the chapter has one.
func TestAnyWords(t *testing.T) {
	t.Parallel()
	lists := []api.Nat{nil, {}, {0}, {1}, {2}, {5}, {7}, {9}, {1, 0}, {61}, {1009}, {1<<60 - 1}, {least61}, {all}, {all - 58}, {all, all, all, all}, append(make(api.Nat, 4), 1), append(make(api.Nat, 300), 7), make(api.Nat, 300)}
	for i, p := range lists {
		for k, a := range lists {
			for m, b := range lists {
				c := api.Curve{P: p, A: a, B: b}
				right := errorOf(c)
				for _, split := range []int{-1 - i, 62 + k, (i + k + m) % 62, 61} {
					switch {
					case right != api.OK:
						wantError(t, c, split, right)
					case split < 0 || split > 61:
						wantError(t, c, split, api.ErrArg)
					case len(p) > 1 || p[0] >= 1<<60:
						wantError(t, c, split, api.ErrMany)
					case isPrime(p[0]):
						want(t, c, split, tiny{p[0], numberOf(a).Uint64(), numberOf(b).Uint64()}.bySquares(squares(p[0])))
					default:
						wantSome(t, c, split)
					}
				}
			}
		}
	}
}

// asked is what Of may be asked with.
type asked struct {
	c     api.Curve
	split int
}

// questions are many that have an answer, and some that have none.
func questions() (out []asked) {
	for i, p := range []api.Nat{{5}, {7}, {9}, {11}, {17}, {23}, {29}, {31}, {67}, {105}, {257}, {65521}, {1<<31 - 1}, {1<<40 - 87}, {1<<60 - 1}, {least61}, {1<<63 - 25}, {all}, {13, 1}, {all, all}, {all - 188, all, all, all}} {
		for _, c := range []api.Curve{{P: p, A: nat.Of(1), B: nat.Of(1)}, {P: p, B: nat.Of(3)}, {P: p, A: nat.Of(2)}, {P: p, A: less(p, 1), B: less(p, 2)}} {
			for _, split := range []int{-1, 0, 2, 7, 62} {
				out = append(out, asked{c, split})
			}
		}
		out = append(out, asked{api.Curve{P: p, A: nat.Of(3), B: nat.Of(1)}, i}, asked{api.Curve{P: p}, 5}, asked{api.Curve{P: p, A: p}, 3}, asked{api.Curve{P: loose(p, 1), B: api.Nat{1}}, 2})
	}
	return append(out, asked{over(11, 2, 0), 0}, asked{over(29, 25, 0), 0}, asked{over(most60, 1, 2), 7}, asked{over(most60, 1, 2), 11})
}

// lists are the curve's numbers.
func (q *asked) lists() []*api.Nat { return []*api.Nat{&q.c.P, &q.c.A, &q.c.B} }

// roomy is the same in memory of its own, with room behind the end of each list.
func (q asked) roomy() asked {
	for _, x := range q.lists() {
		*x = append(slices.Clone(*x), 11, 12, 13, 14, 15)[:len(*x)]
	}
	return q
}

// whole are all lists, up to the end of their room.
func (q asked) whole() (out []api.Nat) {
	for _, x := range q.lists() {
		out = append(out, (*x)[:cap(*x)])
	}
	return out
}

// wantSame holds what was answered.
func wantSame(t *testing.T, q asked, right api.Nat, rightE api.Errno) {
	t.Helper()
	if got, e := Of(q.c, q.split); e != rightE || !slices.Equal(got, right) {
		t.Errorf("R5: Of %v, %d: %v, error %d, not %v, error %d", q.c, q.split, got, e, right, rightE)
	}
}

// TestGivenStays holds R3 of what is handed in, the room behind a list's end too.
func TestGivenStays(t *testing.T) {
	t.Parallel()
	for _, q := range questions() {
		in := q.roomy()
		var before []api.Nat
		for _, x := range in.whole() {
			before = append(before, slices.Clone(x))
		}
		right, e := Of(q.c, q.split)
		wantSame(t, in, right, e)
		if got := in.whole(); !slices.EqualFunc(got, before, slices.Equal[api.Nat]) {
			t.Errorf("R3: Of %v, %d: what was handed in became %v", before, in.split, got)
		}
	}
}

// TestNothingKept spoils what was handed in, and asks again.
func TestNothingKept(t *testing.T) {
	t.Parallel()
	for _, q := range questions() {
		in := q.roomy()
		right, e := Of(in.c, in.split)
		before := slices.Clone(right)
		for _, x := range in.whole() {
			for i := range x {
				x[i] = ^x[i]
			}
		}
		if Of(in.c, in.split); !slices.Equal(right, before) {
			t.Errorf("R3: Of %v, %d: an answer became another one", q.c, q.split)
		}
		wantSame(t, q, before, e)
	}
}

// TestAnsweredIsNew spoils an answer, and the room behind its end: neither another answer nor what was handed in becomes another one.
func TestAnsweredIsNew(t *testing.T) {
	t.Parallel()
	for _, q := range questions() {
		in := q.roomy()
		before := in.roomy().whole()
		one, e := Of(in.c, in.split)
		two, _ := Of(in.c, in.split)
		right := slices.Clone(one)
		for i := range one[:cap(one)] {
			one[:cap(one)][i] = ^uint64(i)
		}
		if !slices.Equal(two, right) {
			t.Errorf("R3: Of %v, %d: an answer has memory of another one", q.c, q.split)
		}
		for i, x := range in.whole() {
			if k := len(*q.lists()[i]); !slices.Equal(x[:k], before[i][:k]) {
				t.Errorf("R3: Of %v, %d: an answer has memory of what was handed in", q.c, q.split)
			}
		}
		wantSame(t, in, right, e)
	}
}

// TestSharedMemory hands in numbers that share memory with each other.
func TestSharedMemory(t *testing.T) {
	for _, p := range []api.Nat{{5}, {7}, {67}, {105}, {1<<31 - 1}, {1<<60 - 1}, {13, 1}, {all, all}} {
		x := less(p, 1)
		before := slices.Clone(x)
		for _, split := range []int{-1, 0, 5, 11} {
			right, e := Of(api.Curve{P: slices.Clone(p), A: slices.Clone(x), B: slices.Clone(x)}, split)
			wantSame(t, asked{api.Curve{P: p, A: x, B: x}, split}, right, e)
			wantError(t, api.Curve{P: p, A: p, B: p}, split, api.ErrArg)
		}
		room := append(slices.Clone(p), 1, 1)
		right, e := Of(api.Curve{P: p, A: nat.Of(1), B: nat.Of(1)}, 3)
		wantSame(t, asked{api.Curve{P: room[:len(p)], A: room[len(p) : len(p)+1], B: room[len(p)+1:]}, 3}, right, e)
		if !slices.Equal(x, before) || !slices.Equal(room, append(slices.Clone(p), 1, 1)) {
			t.Errorf("R3: what was handed in became %v, %v", x, room)
		}
	}
}

// TestSameAgain asks all in an order, and again in other ones.
func TestSameAgain(t *testing.T) {
	t.Parallel()
	list := questions()
	answers, errors := make([]api.Nat, len(list)), make([]api.Errno, len(list))
	for i, q := range list {
		answers[i], errors[i] = Of(q.c, q.split)
	}
	for _, step := range []int{len(list) - 1, 7} {
		for i := range list {
			k := i * step % len(list)
			wantSame(t, list[k], answers[k], errors[k])
		}
	}
}

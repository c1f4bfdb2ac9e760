package steps

import (
	"crypto/elliptic"
	"math"
	"math/big"
	"os"
	"runtime/debug"
	"slices"
	"strconv"
	"testing"

	"caltrop/api"
	"caltrop/curve"
	"caltrop/jacob"
	"caltrop/nat"
	"caltrop/twist"
)

const all = math.MaxUint64 // a word whose bits are all 1

// TestMain lets memory be looked through less often: nearly all of it is gone at once.
func TestMain(m *testing.M) {
	debug.SetGCPercent(400)
	os.Exit(m.Run())
}

// less is a without so many; there are as many.
func less(a api.Nat, count uint64) api.Nat {
	out, _ := nat.Sub(a, nat.Of(count))
	return out
}

// more is a and so many.
func more(a api.Nat, count uint64) api.Nat { return nat.Add(a, nat.Of(count)) }

// loose is a's number in words that may not be, unless noughts is 0.
func loose(a api.Nat, noughts int) api.Nat {
	return append(slices.Clone(a), make(api.Nat, noughts)...)
}

// oneAt is 2^place.
func oneAt(place int) api.Nat {
	a := make(api.Nat, place/64+1)
	a[place/64] = 1 << (place % 64)
	return a
}

// rowBelow makes numbers below p without any order to be seen in them; another seed makes another row.
func rowBelow(p *big.Int, seed uint64) func() *big.Int {
	return func() *big.Int {
		out := new(big.Int)
		for range 5 {
			seed = seed*6364136223846793005 + 1442695040888963407
			out.Lsh(out, 64)
			out.Add(out, number(seed^seed>>29))
		}
		return out.Mod(out, p)
	}
}

// number is a number of the library's.
func number(x uint64) *big.Int { return new(big.Int).SetUint64(x) }

// numberOf is the number of words by the words of chapter 2 alone.
func numberOf(a api.Nat) *big.Int {
	out := new(big.Int)
	for _, x := range slices.Backward(a) {
		out.Lsh(out, 64).Add(out, number(x))
	}
	return out
}

// wordsOf is a number of the library's in words that may be.
func wordsOf(x *big.Int) api.Nat { return nat.FromBytes(x.Bytes()) }

// product is that of all.
func product(factors ...uint64) *big.Int {
	out := big.NewInt(1)
	for _, x := range factors {
		out.Mul(out, number(x))
	}
	return out
}

// smallPrimes are those from least to most.
func smallPrimes(least, most uint64) (out []uint64) {
	for p := least; p <= most; p++ {
		if number(p).ProbablyPrime(1) {
			out = append(out, p)
		}
	}
	return out
}

// over is a curve of three words.
func over(p, a, b uint64) api.Curve { return api.Curve{P: nat.Of(p), A: nat.Of(a), B: nat.Of(b)} }

// at is a point of two words.
func at(x, y uint64) api.Point { return api.Point{X: nat.Of(x), Y: nat.Of(y)} }

// far is O.
func far() api.Point { return api.Point{Far: true} }

// fits tells whether words may be, by chapter 2.
func fits(a api.Nat) bool { return len(a) == 0 || a[len(a)-1] != 0 }

// errorOf is May's error by the words of chapter 16.
func errorOf(c api.Curve) api.Errno {
	p, a, b := numberOf(c.P), numberOf(c.A), numberOf(c.B)
	if !fits(c.P) || !fits(c.A) || !fits(c.B) || p.Bit(0) == 0 || p.Cmp(number(5)) < 0 || p.BitLen() > api.MaxField || a.Cmp(p) >= 0 || b.Cmp(p) >= 0 {
		return api.ErrArg
	}
	ofA := new(big.Int).Exp(a, number(3), nil)
	bend := new(big.Int).Mul(b, b)
	bend.Add(bend.Mul(bend, number(27)), ofA.Mul(ofA, number(4)))
	if bend.Mod(bend, p).Sign() == 0 {
		return api.ErrCurve
	}
	return api.OK
}

// isOn tells whether a point is on a curve that may be, by the words of chapter 16.
func isOn(c api.Curve, p api.Point) bool {
	m, x, y := numberOf(c.P), numberOf(p.X), numberOf(p.Y)
	if p.Far {
		return len(p.X) == 0 && len(p.Y) == 0
	}
	if !fits(p.X) || !fits(p.Y) || x.Cmp(m) >= 0 || y.Cmp(m) >= 0 {
		return false
	}
	right := new(big.Int).Mul(x, x)
	right.Add(right, numberOf(c.A)).Mul(right, x).Add(right, numberOf(c.B)).Sub(right, y.Mul(y, y))
	return right.Mod(right, m).Sign() == 0
}

// ask is what Find may be asked with, beside the curve and the point.
type ask struct{ r, m, low, high uint64 }

// row tells the first number of the row and how many there are, or the error of the arguments or of too many.
func (a ask) row() (first *big.Int, count int64, e api.Errno) {
	if a.m == 0 || a.r >= a.m || a.low > a.high || a.high > 1<<62 {
		return nil, 0, api.ErrArg
	}
	low, m := number(a.low), number(a.m)
	first = new(big.Int).Sub(number(a.r), low)
	first.Add(first.Mod(first, m), low)
	rest := new(big.Int).Sub(number(a.high), first)
	if rest.Sign() < 0 {
		return first, 0, api.OK
	}
	if count = rest.Div(rest, m).Int64() + 1; count > 1<<32 {
		return nil, 0, api.ErrMany
	}
	return first, count, api.OK
}

// right is P22.1's answer for a point of that order.
//
// The number first + i m is one that the order goes into just for those i that lie gap apart, gap being the order without what it has in common with m; if what is in common goes into first.
func (a ask) right(order *big.Int) ([]uint64, api.Errno) {
	first, count, e := a.row()
	if e != api.OK || count == 0 {
		return nil, e
	}
	m := number(a.m)
	common := new(big.Int).GCD(nil, nil, m, order)
	quotient, rest := new(big.Int).DivMod(first, common, new(big.Int))
	if rest.Sign() != 0 {
		return nil, api.OK
	}
	gap, i := new(big.Int).Div(order, common), new(big.Int)
	if gap.Cmp(number(1)) > 0 {
		i.ModInverse(new(big.Int).Div(m, common), gap)
		i.Mul(i, quotient.Neg(quotient)).Mod(i, gap)
	}
	var out []uint64
	for ; i.Cmp(big.NewInt(count)) < 0; i.Add(i, gap) {
		if len(out) == 4096 {
			return nil, api.ErrMany
		}
		k := new(big.Int).Mul(i, m)
		out = append(out, k.Add(k, first).Uint64())
	}
	return out, api.OK
}

// tried is the same by trying each number, for rows of a few numbers: is tells whether a number brings the point to O.
func (a ask) tried(is func(k uint64) bool) ([]uint64, api.Errno) {
	var out []uint64
	for k := a.low; k <= a.high; k++ {
		if k%a.m == a.r && is(k) {
			out = append(out, k)
		}
	}
	if len(out) > 4096 {
		return nil, api.ErrMany
	}
	return out, api.OK
}

// want holds an answer, that is nothing beside an error.
func want(t *testing.T, c api.Curve, p api.Point, a ask, right []uint64, rightE api.Errno) {
	t.Helper()
	got, e := Find(c, p, a.r, a.m, a.low, a.high)
	if e != rightE || !slices.Equal(got, right) {
		t.Errorf("P22.1: Find of %x, %v, %+v: %d numbers %v, error %d, not %d numbers %v, error %d", c, p, a, len(got), got[:min(9, len(got))], e, len(right), right[:min(9, len(right))], rightE)
	}
}

// wantError holds an error, beside which there is nothing.
func wantError(t *testing.T, c api.Curve, p api.Point, a ask, e api.Errno) {
	t.Helper()
	want(t, c, p, a, nil, e)
}

// known is a point whose order is known.
type known struct {
	c     api.Curve
	p     api.Point
	order *big.Int
}

// hold asks for a row, and if it is but short tries each of its numbers, too.
func (k known) hold(t *testing.T, a ask) {
	t.Helper()
	right, e := a.right(k.order)
	want(t, k.c, k.p, a, right, e)
	if e == api.OK && a.high-a.low < 1000 {
		if tried, _ := a.tried(func(n uint64) bool { return new(big.Int).Mod(number(n), k.order).Sign() == 0 }); !slices.Equal(tried, right) {
			t.Fatalf("of order %v, %+v the test itself is wrong: %v, and %v by trying", k.order, a, right, tried)
		}
	}
}

// holdAll asks for several rows.
func (k known) holdAll(t *testing.T, asks ...ask) {
	t.Helper()
	for _, a := range asks {
		k.hold(t, a)
	}
}

// orderOf is the least number above 0 of so many of p that are O, by adding p again and again.
func orderOf(c api.Curve, p api.Point) (out uint64) {
	for sum := far(); ; out++ {
		if sum.Far && out > 0 {
			return out
		}
		sum, _ = curve.Add(c, sum, p)
	}
}

// curvesBy are all curves that may be modulo a small number.
func curvesBy(p uint64) (out []api.Curve) {
	for a := range p {
		for b := range p {
			if c := over(p, a, b); errorOf(c) == api.OK {
				out = append(out, c)
			}
		}
	}
	return out
}

// pointsOf are all points of a curve modulo a small number.
func pointsOf(c api.Curve) []api.Point {
	out := []api.Point{far()}
	for x := range c.P[0] {
		for y := range c.P[0] {
			if p := at(x, y); isOn(c, p) {
				out = append(out, p)
			}
		}
	}
	return out
}

// small are points, one of each order that there is modulo the smallest primes.
func small() (out map[uint64]known) {
	out = map[uint64]known{}
	for _, p := range smallPrimes(5, 23) {
		for _, c := range curvesBy(p) {
			points := pointsOf(c)
			if out[uint64(len(points))].order != nil {
				continue
			}
			for _, q := range points {
				if d := orderOf(c, q); out[d].order == nil {
					out[d] = known{c, q, number(d)}
				}
			}
		}
	}
	return out
}

// mersenne is a point of order 2^power on y^2 = x^3 + x modulo a prime P that is 2^size - 1: -1 is no square there, so of x and -x that are not 0 just one has points, and there are P + 1 with O and (0, 0). One alone has a Y of 0, so some have 2^size as their order: those of which the half as many are not O.
func mersenne(size, power int) known {
	c := api.Curve{P: less(oneAt(size), 1), A: nat.Of(1)}
	half, times := oneAt(size-1), oneAt(size-power)
	for x := uint64(1); ; x++ {
		p, is := twist.At(c, nat.Of(x), false)
		if !is {
			continue
		}
		if sum := timesOf(c, half, p); !sum.Far {
			return known{c, timesOf(c, times, p), numberOf(oneAt(power))}
		}
	}
}

// timesOf is so many times a point, on a curve modulo a prime.
func timesOf(c api.Curve, n api.Nat, p api.Point) api.Point {
	g, _ := jacob.New(c)
	out, _ := g.Times(n, p)
	return out
}

// isOrder tells whether a number that has just these prime factors is the order of a point.
func isOrder(c api.Curve, p api.Point, n *big.Int, factors []uint64) bool {
	return timesOf(c, wordsOf(n), p).Far && !slices.ContainsFunc(factors, func(q uint64) bool {
		return timesOf(c, wordsOf(new(big.Int).Div(n, number(q))), p).Far
	})
}

// ofOrder is a point whose order is the product of some primes, on y^2 = x^3 + B modulo a P of so many bits, or more, that leaves 2 by 3: there each number is a third power once, so P + 1 points are there.
func ofOrder(size int, b uint64, primes ...uint64) known {
	order := product(primes...)
	m := new(big.Int).Mul(order, number(6))
	p := numberOf(oneAt(size - 1))
	p.Sub(p, new(big.Int).Mod(p, m)).Sub(p, number(1)).Add(p, m)
	for !p.ProbablyPrime(10) {
		p.Add(p, m)
	}
	c := api.Curve{P: wordsOf(p), B: nat.Of(b)}
	times := new(big.Int).Add(p, number(1))
	times.Div(times, order)
	for x := uint64(1); ; x++ {
		q, is := twist.At(c, nat.Of(x), true)
		if !is {
			continue
		}
		if q = timesOf(c, wordsOf(times), q); isOrder(c, q, order, primes) {
			return known{c, q, order}
		}
	}
}

func TestExamples(t *testing.T) {
	c, p := over(5, 1, 1), at(0, 1)
	want(t, c, p, ask{0, 1, 0, 30}, []uint64{0, 9, 18, 27}, api.OK)
	want(t, c, p, ask{1, 2, 0, 30}, []uint64{9, 27}, api.OK)
	if d := orderOf(c, p); d != 9 {
		t.Errorf("(0, 1) has the order %d", d)
	}
}

// TestTried has all points of all curves modulo the smallest primes, each number held by curve.Times.
func TestTried(t *testing.T) {
	t.Parallel()
	for _, p := range smallPrimes(5, 13) {
		t.Run(strconv.FormatUint(p, 10), func(t *testing.T) {
			t.Parallel()
			for i, c := range curvesBy(p) {
				for _, q := range pointsOf(c) {
					var is []bool
					for k := range 4*p + 2 {
						sum, e := curve.Times(c, nat.Of(k), q)
						is = append(is, e == api.OK && sum.Far)
					}
					high := uint64(len(is)) - 1
					m := uint64(i)%7 + 2
					for _, a := range []ask{{0, 1, 0, high}, {0, 1, 1, high}, {0, 1, p / 2, 2*p + 3}, {0, m, 0, high}, {m - 1, m, 0, high}, {m / 2, m, p, high - 1}} {
						right, e := a.tried(func(k uint64) bool { return is[k] })
						want(t, c, q, a, right, e)
					}
				}
			}
		})
	}
}

// TestSmallPrimes has all points of some curves modulo other primes, with rows of all numbers up to a few times the order.
func TestSmallPrimes(t *testing.T) {
	t.Parallel()
	for _, p := range []uint64{17, 19, 23, 29, 31, 61, 101, 127} {
		t.Run(strconv.FormatUint(p, 10), func(t *testing.T) {
			t.Parallel()
			for _, c := range []api.Curve{over(p, 1, 1), over(p, 0, 1), over(p, 1, 0), over(p, p-1, 0), over(p, 2, p-3), over(p, p-1, p-1), over(p, 0, p-2)} {
				if errorOf(c) != api.OK {
					continue
				}
				for _, q := range pointsOf(c) {
					d := orderOf(c, q)
					k := known{c, q, number(d)}
					k.holdAll(t, ask{0, 1, 0, 4 * d}, ask{0, 1, 1, 3*d - 1}, ask{0, 1, d, d}, ask{d % 3, 3, d - 1, 5 * d}, ask{1, 2, 0, 4 * d}, ask{d % (p + 1), p + 1, 0, p * d})
				}
			}
		})
	}
}

// TestOrders has a point of each small order, with all rows up to a number, by all m and r up to a few.
func TestOrders(t *testing.T) {
	t.Parallel()
	points := small()
	for d := uint64(1); d <= 30; d++ {
		k, is := points[d]
		if !is {
			t.Fatalf("no point has the order %d", d)
		}
		t.Run(strconv.FormatUint(d, 10), func(t *testing.T) {
			t.Parallel()
			for m := uint64(1); m <= 13; m++ {
				for r := range m {
					k.holdAll(t, ask{r, m, 0, 3*d*m + r}, ask{r, m, d, 40}, ask{r, m, 1, d * m}, ask{r, m, d*m - r, d*m + r}, ask{r, m, d*m + r, 2*d*m + r - 1})
				}
			}
			for low := range 2*d + 2 {
				for high := low; high < 2*d+2; high += d/3 + 1 {
					k.hold(t, ask{0, 1, low, high})
				}
			}
			for _, m := range []uint64{d, 2 * d, d * d, 6 * d, 3*d - 1, 1 << 20, 1<<20 + 1} {
				k.holdAll(t, ask{0, m, 0, 7 * m}, ask{m / 2, m, 3, 50 * m}, ask{m - 1, m, m / 3, 100 * m}, ask{m / 3, m, 5 * m, 33*m + 5})
			}
		})
	}
}

// lengths are how many numbers the rows of some tests have: none, a few, squares, and one less and one more.
func lengths() (out []uint64) {
	for _, x := range []uint64{1, 2, 3, 4, 5, 10, 16, 17, 31, 64, 100, 256} {
		out = append(out, x*x-1, x*x, x*x+1)
	}
	return out
}

// TestLengths has rows of all lengths, that begin and end at numbers of the row or beside them, so that what is found lies at all places, the first and the last one too.
func TestLengths(t *testing.T) {
	t.Parallel()
	points := small()
	for _, k := range []known{points[1], points[2], points[3], points[4], points[9], points[16], points[17], points[25], mersenne(61, 7), mersenne(61, 12), mersenne(61, 61), ofOrder(40, 7, 101, 103), ofOrder(64, 3, 65537), ofOrder(33, 3, 257)} {
		t.Run(k.order.String(), func(t *testing.T) {
			t.Parallel()
			d := uint64(1000)
			if k.order.Cmp(number(100000)) < 0 {
				d = k.order.Uint64()
			}
			for _, count := range lengths() {
				for _, m := range []uint64{1, 2, 7, 16} {
					for _, start := range []uint64{0, 1, d, 2*d - 1, 3*d + 1} {
						r := start % m
						end := start + (count-1)*m
						if count == 0 {
							k.hold(t, ask{r, m, start + 1, max(start+1, start+m-1)})
							continue
						}
						k.holdAll(t, ask{r, m, start, end}, ask{r, m, start - min(start, m-1), end + m - 1})
						if back := 5 * d * m; end < back {
							k.hold(t, ask{0, m, back - (count-1)*m, back})
						}
					}
				}
			}
		})
	}
}

// TestEmptyRows has rows without any number, which is no error.
func TestEmptyRows(t *testing.T) {
	for _, k := range []known{small()[1], small()[2], small()[9], mersenne(61, 40), {over(5, 1, 1), far(), number(1)}} {
		for _, a := range []ask{{0, 2, 1, 1}, {1, 2, 0, 0}, {1, 2, 4, 4}, {0, 7, 1, 6}, {3, 7, 4, 9}, {3, 7, 11, 16}, {6, 7, 0, 5}, {5, 1 << 40, 6, 1 << 40}, {1, 1 << 62, 2, 1 << 62}, {1<<62 + 1, 1<<62 + 2, 0, 1 << 62}, {all - 1, all, 0, 1 << 62}, {all >> 1, 1 << 63, 5, 1 << 62}, {1 << 62, 1 << 63, 0, 1<<62 - 1}, {4, all, 5, 1 << 62}, {0, all, 1, 1 << 62}, {0, 1 << 63, 1, 1 << 62}} {
			if _, count, e := a.row(); count != 0 || e != api.OK {
				t.Fatalf("%+v has %d numbers, error %d", a, count, e)
			}
			want(t, k.c, k.p, a, nil, api.OK)
			k.hold(t, a)
		}
	}
}

// TestArguments has each of the numbers beside what may be.
func TestArguments(t *testing.T) {
	const most = 1 << 62
	points := small()
	for _, k := range []known{points[1], points[2], points[9], mersenne(61, 30), mersenne(61, 61), ofOrder(128, 2, 1000003, 7), {over(5, 1, 1), far(), number(1)}} {
		for _, a := range []ask{{0, 0, 0, 0}, {0, 0, 0, 30}, {5, 0, 0, 30}, {all, 0, 0, all}, {1, 1, 0, 30}, {2, 1, 0, 30}, {2, 2, 0, 30}, {3, 2, 0, 30}, {9, 8, 0, 30}, {1 << 32, 1 << 32, 0, 30}, {1<<32 + 1, 2, 0, 30}, {all, 1, 0, 30}, {all, all, 0, 30}, {1 << 63, 1 << 63, 0, 30}, {all, 1 << 63, 0, 30}, {all, all - 1, 0, 0},
			{0, 1, 1, 0}, {0, 1, 31, 30}, {0, 1, most, most - 1}, {0, 1, most + 1, most}, {0, 1, all, 0}, {0, 1, all, 30}, {0, 1, 1 << 63, most}, {0, 2, 2, 1},
			{0, 1, 0, most + 1}, {0, 1, 0, all}, {0, 1, most, most + 1}, {0, 1, most + 1, most + 1}, {0, 1, all, all}, {0, 1, 1 << 63, 1 << 63}, {0, 1 << 62, 0, most + 1}, {0, 1 << 63, 1 << 63, 1 << 63}, {0, 1, most + 5, most + 5}, {0, all, 0, all}, {1, 2, 0, 1 << 63}, {0, 1, most + 2, most + 1},
		} {
			wantError(t, k.c, k.p, a, api.ErrArg)
			k.hold(t, a)
		}
		for _, a := range []ask{{0, 1, 0, 0}, {0, 2, 0, 0}, {1, 2, 1, 1}, {0, 1, most, most}, {0, 1, most - 1, most}, {0, 1, most - 500, most}, {0, 1, most - 1, most - 1}, {0, 2, most, most}, {1, 2, most - 9, most}, {0, most, 0, most}, {0, most, most, most}, {0, most, 1, most}, {0, most, 0, most - 1}, {1, most, 0, most}, {most - 1, most, 0, most}, {most, most + 1, 0, most}, {most, most + 1, most, most}, {most, 1 << 63, 0, most}, {0, 1 << 63, 0, most}, {0, all, 0, most}, {9, all, 0, most}, {9, all, 9, 9}, {all - 1, all, 0, most}, {most, all, 7, most}, {1 << 61, 1 << 61 * 3, 0, most}, {5, 1 << 60, 0, most}, {8, 40, 0, 30}, {9, 40, 0, 30}, {9, 40, 9, 30}, {9, 40, 10, 30}, {0, 40, 0, 30}, {9, 1 << 63, 0, 30}, {all - 100, all, 0, 100}, {18, all, 0, 1000}} {
			if _, _, e := a.row(); e != api.OK {
				t.Fatalf("%+v has error %d", a, e)
			}
			k.hold(t, a)
		}
	}
}

// TestFar has O, which each number brings to O.
func TestFar(t *testing.T) {
	t.Parallel()
	for _, c := range []api.Curve{over(5, 1, 1), over(7, 0, 1), over(9, 1, 1), {P: less(oneAt(61), 1), A: nat.Of(1)}, {P: less(oneAt(127), 1), A: nat.Of(1)}, {P: less(oneAt(256), 189), A: nat.Of(1)}} {
		k := known{c, far(), number(1)}
		for _, m := range []uint64{1, 2, 3, 1000, 1 << 47, 1 << 48} {
			for _, start := range []uint64{0, 1, m - 1, m, 5 * m, 1000*m + m/2} {
				r := start % m
				for _, count := range []uint64{1, 2, 3, 4, 100, 4095, 4096} {
					end := start + (count-1)*m
					right := make([]uint64, count)
					for i := range right {
						right[i] = start + uint64(i)*m
					}
					want(t, k.c, k.p, ask{r, m, start, end}, right, api.OK)
					k.hold(t, ask{r, m, start, end + m - 1})
				}
				for _, count := range []uint64{4097, 4098, 5000, 1 << 13} {
					wantError(t, k.c, k.p, ask{r, m, start, start + (count-1)*m}, api.ErrMany)
				}
			}
		}
		for _, high := range []uint64{1<<32 - 2, 1<<32 - 1, 1 << 32, 1 << 62} {
			wantError(t, k.c, k.p, ask{0, 1, 0, high}, api.ErrMany)
		}
	}
}

// TestMostFound has points of small orders, so that 4096 numbers are found, and one more, and one less.
func TestMostFound(t *testing.T) {
	t.Parallel()
	for d, k := range small() {
		t.Run(strconv.FormatUint(d, 10), func(t *testing.T) {
			t.Parallel()
			end := 4096 * d
			for _, low := range []uint64{0, d, 7 * d} {
				for _, a := range []ask{{0, 1, low, low + end - 1}, {0, 1, low, low + end - d}, {0, 1, low + 1, low + end}} {
					k.hold(t, a)
					if got, e := Find(k.c, k.p, a.r, a.m, a.low, a.high); len(got) != 4096 || e != api.OK {
						t.Errorf("P22.1: Find of %x, %v, %+v: %d numbers, error %d", k.c, k.p, a, len(got), e)
					}
				}
				wantError(t, k.c, k.p, ask{0, 1, low, low + end}, api.ErrMany)
				k.holdAll(t, ask{0, 1, low + 1, low + end - 1}, ask{0, 2, low, low + 2*end - 1}, ask{0, d, low, low + end - 1}, ask{0, d, low, low + end}, ask{0, 3, low, low + 3*end}, ask{d % 5, 5, low, low + 5*end - 1})
			}
		})
	}
}

// TestLongRows has rows of as many numbers as may be looked at, and of one more, that begin and end at numbers of the row or beside them.
func TestLongRows(t *testing.T) {
	t.Parallel()
	const most = 1 << 32
	for _, k := range []known{small()[2], small()[9], mersenne(61, 20), mersenne(61, 60), ofOrder(50, 5, 1048573), ofOrder(60, 11, 1000003, 3)} {
		t.Run(k.order.String(), func(t *testing.T) {
			t.Parallel()
			for i, a := range []ask{
				{0, 1, 0, most - 1}, {0, 1, 1, most}, {0, 1, 1 << 40, 1<<40 + most - 1}, {0, 1, 1<<62 - most + 1, 1 << 62},
				{2, 3, 2, 2 + 3*(most-1)}, {2, 3, 0, 2 + 3*(most-1) + 2}, {6, 7, 7, 6 + 7*most}, {1, 1 << 30, 0, 1 << 62}, {1<<30 - 1, 1 << 30, 1<<30 - 1, 1 << 62},
			} {
				if _, count, _ := a.row(); count != most {
					t.Fatalf("%+v has %d numbers", a, count)
				}
				if i%3 == 0 || k.order.Cmp(number(1<<40)) < 0 { // a row is gone through whole, if there are not two numbers to be found
					k.hold(t, a)
				}
			}
			for _, a := range []ask{
				{0, 1, 0, most}, {0, 1, 1, most + 1}, {0, 1, 1 << 40, 1<<40 + most}, {0, 1, 1<<62 - most, 1 << 62},
				{2, 3, 2, 2 + 3*most}, {2, 3, 0, 2 + 3*most + 2}, {6, 7, 6, 6 + 7*most}, {6, 7, 0, 12 + 7*most}, {0, 1 << 30, 0, 1 << 62},
				{0, 1, 0, 1 << 62}, {1, 2, 0, 1 << 62}, {5, 1 << 29, 0, 1 << 62}, {0, 2, 0, 2 * most}, {1, 2, 0, 2*most + 1},
			} {
				wantError(t, k.c, k.p, a, api.ErrMany)
				k.hold(t, a)
			}
		})
	}
}

// TestMostOfLong has rows of many numbers, of which 4096 are found, and one more.
func TestMostOfLong(t *testing.T) {
	t.Parallel()
	for _, k := range []known{mersenne(61, 8), mersenne(61, 16), mersenne(61, 20), ofOrder(48, 7, 251), ofOrder(60, 5, 65521), ofOrder(64, 5, 65537), ofOrder(60, 5, 1009, 1013), ofOrder(96, 5, 499, 503)} {
		t.Run(k.order.String(), func(t *testing.T) {
			t.Parallel()
			d := k.order.Uint64()
			for _, a := range []ask{{0, 1, 0, 4096*d - 1}, {0, 1, 1, 4096 * d}, {0, 1, d, 4096 * d}, {2, 5, 2, 5*4096*d - 3}} {
				if right, e := a.right(k.order); len(right) != 4096 || e != api.OK {
					t.Fatalf("%+v has %d numbers that are found, error %d", a, len(right), e)
				}
				k.hold(t, a)
			}
			wantError(t, k.c, k.p, ask{0, 1, 0, 4096 * d}, api.ErrMany)
			wantError(t, k.c, k.p, ask{0, 1, d, 4097 * d}, api.ErrMany)
		})
	}
}

// greats are points whose orders have up to some 60 bits, modulo P of 1 to 4 words.
func greats() []known {
	return []known{
		ofOrder(34, 3, 536870909), ofOrder(40, 5, 1073741789), ofOrder(63, 3, 1073741827), ofOrder(64, 2, 999999937), ofOrder(65, 7, 1<<61-1), ofOrder(66, 2, 1152921504606846883), ofOrder(100, 3, 1073741789, 1073741827),
		ofOrder(128, 5, 1152921504606846883), ofOrder(129, 3, 65521, 65537, 65539), ofOrder(192, 2, 1<<61-1), ofOrder(193, 3, 1073741789), ofOrder(255, 2, 1073741827, 7), ofOrder(256, 7, 1152921504606846883), ofOrder(256, 3, 11, 13, 17, 19, 23), ofOrder(256, 3, 101),
		mersenne(31, 30), mersenne(61, 59), mersenne(127, 62), mersenne(127, 40), mersenne(127, 8), mersenne(19, 19), mersenne(13, 13),
	}
}

// TestGreat has rows of a few hundred numbers about the order of a point and what is a few times as much, far from 0.
func TestGreat(t *testing.T) {
	t.Parallel()
	for _, k := range greats() {
		t.Run(numberOf(k.c.P).Text(16)+" "+k.order.String(), func(t *testing.T) {
			t.Parallel()
			for _, times := range []uint64{0, 1, 2, 3, 1 << 20, 1<<31 - 1} {
				n := new(big.Int).Mul(k.order, number(times))
				if n.Cmp(number(1<<62-3000)) > 0 {
					continue
				}
				near := n.Uint64()
				for _, before := range []uint64{0, 1, 150, 400} {
					for _, behind := range []uint64{0, 1, 201} {
						low := near - min(near, before)
						k.holdAll(t, ask{0, 1, low, near + behind}, ask{near % 2, 2, low, near + 2*behind}, ask{(near + 1) % 3, 3, low, near + 3*behind}, ask{near % 11, 11, low, near + 11*behind}, ask{0, 1, low + before + 1, near + behind + 1})
					}
				}
				k.hold(t, ask{near % 10007, 10007, near - min(near, 5000), near + 2500})
			}
			k.holdAll(t, ask{0, 1, 1<<62 - 300, 1 << 62}, ask{0, 1 << 54, 0, 1 << 62}, ask{5, 1<<54 - 1, 0, 1 << 62}, ask{0, 1, 1, 40000}, ask{3, 64, 1 << 50, 1<<50 + 1<<20})
		})
	}
}

// TestWide has great rows about orders that are far from 0, so that what is found is far from the row's ends.
func TestWide(t *testing.T) {
	t.Parallel()
	for _, k := range []known{ofOrder(40, 5, 1073741789), ofOrder(66, 2, 1152921504606846883), mersenne(61, 30), mersenne(61, 59), ofOrder(256, 7, 1152921504606846883)} {
		t.Run(numberOf(k.c.P).Text(16)+" "+k.order.String(), func(t *testing.T) {
			t.Parallel()
			d := k.order.Uint64()
			for i, wide := range []uint64{1000, 1 << 14, 1<<17 - 5, 1<<20 + 3} {
				for _, share := range []uint64{0, 1, 5, 9, 10} {
					low := d - wide*share/10
					k.holdAll(t, ask{0, 1, low, low + wide}, ask{d % 101, 101, d - min(d-1, wide*share*10), d + 10*wide})
					if i < 3 {
						k.hold(t, ask{(d + 1) % 5, 5, low, low + 3*wide})
					}
				}
			}
		})
	}
}

// TestBeyond has points whose order is greater than all numbers that may be asked for: 0 alone brings them to O.
func TestBeyond(t *testing.T) {
	t.Parallel()
	points := []known{mersenne(127, 100), mersenne(127, 127), mersenne(127, 63), ofOrder(130, 3, 1<<61-1, 1152921504606846883)}
	for _, lib := range []elliptic.Curve{elliptic.P224(), elliptic.P256()} {
		n := lib.Params()
		points = append(points, known{api.Curve{P: wordsOf(n.P), A: wordsOf(new(big.Int).Sub(n.P, number(3))), B: wordsOf(n.B)}, api.Point{X: wordsOf(n.Gx), Y: wordsOf(n.Gy)}, n.N})
	}
	for _, k := range points {
		t.Run(numberOf(k.c.P).Text(16), func(t *testing.T) {
			t.Parallel()
			for _, m := range []uint64{1, 2, 3, 1 << 20, 1<<54 + 1} {
				want(t, k.c, k.p, ask{0, m, 0, 200 * m}, []uint64{0}, api.OK)
				want(t, k.c, k.p, ask{0, m, 1, 200 * m}, nil, api.OK)
				want(t, k.c, k.p, ask{m - 1, m, m, 255 * m}, nil, api.OK)
			}
			want(t, k.c, k.p, ask{0, 1, 1<<62 - 999, 1 << 62}, nil, api.OK)
			want(t, k.c, k.p, ask{0, 1, 0, 0}, []uint64{0}, api.OK)
		})
	}
}

// TestPointsOfNought has points whose X or Y, or both, are 0: (0, 0) isn't O.
func TestPointsOfNought(t *testing.T) {
	for _, p := range []api.Nat{{5}, {7}, {13}, {1<<31 - 1}, less(oneAt(61), 1), less(oneAt(127), 1), less(oneAt(256), 189)} {
		two := known{api.Curve{P: p, A: nat.Of(1)}, at(0, 0), number(2)}
		three := known{api.Curve{P: p, B: nat.Of(4)}, at(0, 2), number(3)}
		for _, k := range []known{two, three} {
			k.holdAll(t, ask{0, 1, 0, 0}, ask{0, 1, 0, 1}, ask{0, 1, 0, 2}, ask{0, 1, 0, 3}, ask{0, 1, 1, 6}, ask{0, 1, 0, 100}, ask{1, 2, 0, 100}, ask{0, 2, 0, 100}, ask{1, 3, 0, 100}, ask{0, 3, 0, 100}, ask{1, 6, 0, 100}, ask{3, 6, 0, 100}, ask{0, 1, 1 << 61, 1<<61 + 1000}, ask{0, 1, 0, 1 << 14}, ask{0, 1, 0, 1 << 31})
		}
	}
	for _, p := range smallPrimes(5, 13) {
		for _, c := range curvesBy(p) {
			for _, q := range pointsOf(c) {
				if !q.Far && len(q.Y) == 0 {
					known{c, q, number(2)}.holdAll(t, ask{0, 1, 0, 9}, ask{1, 2, 0, 9}, ask{2, 4, 1, 99})
				}
			}
		}
	}
}

// TestOneWord has points whose double has the same Y and the same X but for one word.
//
// By the slope m the double's X is m^2 less 2 X, and its Y is m times what X is more than that, less Y: so m is had from both X, Y as the half of that product, A from the slope, and B from the point.
func TestOneWord(t *testing.T) {
	for _, p := range []api.Nat{{1<<61 - 1}, {13, 1}, {all - 158, all}, {133, 0, 0, 1}, {all - 188, all, all, all}} {
		mod := numberOf(p)
		for place := range len(p) {
			for i := uint64(1); i < 20; i++ {
				x := numberOf(less(p, all>>2))
				x.Rsh(x, 1).Add(x, number(i))
				other := loose(wordsOf(x), len(p)-len(wordsOf(x)))
				other[place] ^= 6
				other = nat.Trim(other)
				m := new(big.Int).Add(x, x)
				if numberOf(other).Cmp(mod) >= 0 || m.ModSqrt(m.Add(m, numberOf(other)), mod) == nil {
					continue
				}
				y := new(big.Int).Sub(x, numberOf(other))
				y.Mul(y, m).Mul(y, new(big.Int).ModInverse(number(2), mod)).Mod(y, mod)
				square := new(big.Int).Mul(x, x)
				a := new(big.Int).Mul(y, m)
				a.Add(a, a).Sub(a, new(big.Int).Mul(square, number(3))).Mod(a, mod)
				b := new(big.Int).Mul(y, y)
				b.Sub(b, square.Add(square, a).Mul(square, x)).Mod(b, mod)
				c, q := api.Curve{P: p, A: wordsOf(a), B: wordsOf(b)}, api.Point{X: wordsOf(x), Y: wordsOf(y)}
				if sum, e := curve.Add(c, q, q); e != api.OK || !slices.Equal(sum.X, other) || !slices.Equal(sum.Y, q.Y) {
					t.Fatalf("the double of %v on %x is %v, error %d", q, c, sum, e)
				}
				for _, high := range []uint64{1, 2, 3, 8, 30, 300} {
					want(t, c, q, ask{0, 1, 0, high}, []uint64{0}, api.OK)
				}
			}
		}
	}
}

// TestCut cuts rows in two at each place: both parts find what the whole row finds.
func TestCut(t *testing.T) {
	t.Parallel()
	points := small()
	for _, k := range []known{points[1], points[2], points[7], points[12], points[30], ofOrder(61, 3, 257), mersenne(61, 6), mersenne(127, 5)} {
		for _, a := range []ask{{0, 1, 0, 130}, {0, 1, 37, 200}, {1, 3, 1, 300}, {2, 4, 5, 400}} {
			whole, e := Find(k.c, k.p, a.r, a.m, a.low, a.high)
			for cut := a.low; cut < a.high; cut++ {
				one, oneE := Find(k.c, k.p, a.r, a.m, a.low, cut)
				two, twoE := Find(k.c, k.p, a.r, a.m, cut+1, a.high)
				if e != api.OK || oneE != e || twoE != e || !slices.Equal(append(one, two...), whole) {
					t.Errorf("P22.1: Find of %x, %v, %+v: %v, error %d, but cut behind %d: %v, errors %d and %d", k.c, k.p, a, whole, e, cut, append(one, two...), oneE, twoE)
				}
			}
		}
	}
}

// TestTogether has the rows of all r modulo m: together they find what the row of m 1 finds.
func TestTogether(t *testing.T) {
	t.Parallel()
	points := small()
	for _, k := range []known{points[1], points[2], points[6], points[9], points[24], ofOrder(61, 3, 257), mersenne(61, 6), mersenne(61, 11), mersenne(127, 5)} {
		for _, a := range []ask{{0, 1, 0, 600}, {0, 1, 123, 4000}, {0, 1, 1<<62 - 2000, 1 << 62}} {
			whole, e := Find(k.c, k.p, 0, 1, a.low, a.high)
			for _, m := range []uint64{2, 3, 4, 6, 9, 35, 64, 257} {
				var parts []uint64
				for r := range m {
					part, partE := Find(k.c, k.p, r, m, a.low, a.high)
					if partE != api.OK || !slices.IsSorted(part) {
						t.Errorf("P22.1: Find of %x, %v, %d, %d, %d, %d: %v, error %d", k.c, k.p, r, m, a.low, a.high, part, partE)
					}
					parts = append(parts, part...)
				}
				if slices.Sort(parts); e != api.OK || !slices.Equal(parts, whole) {
					t.Errorf("P22.1: Find of %x, %v, %+v: %v, error %d, but %v of all r modulo %d", k.c, k.p, a, whole, e, parts, m)
				}
			}
		}
	}
}

// TestApart holds P22.2 by calls alone: any two that are found differ by what brings the point to O, and what is found of m 1 lies as far apart as the first number above 0 that is.
func TestApart(t *testing.T) {
	t.Parallel()
	for _, c := range []api.Curve{over(1009, 3, 5), over(10007, 2, 7), over(65521, 0, 5), over(65537, 3, 4), over(1<<19-1, 11, 4)} {
		next := rowBelow(numberOf(c.P), 5)
		for range 12 {
			p, is := twist.At(c, wordsOf(next()), true)
			if !is {
				continue
			}
			whole, e := Find(c, p, 0, 1, 0, 6*c.P[0])
			if e != api.OK || len(whole) < 5 || whole[0] != 0 {
				t.Fatalf("P22.1: Find of %x, %v: %v, error %d", c, p, whole, e)
			}
			for i, k := range whole {
				sum, e := curve.Times(c, nat.Of(k), p)
				if k != uint64(i)*whole[1] || e != api.OK || !sum.Far {
					t.Errorf("P22.2: Find of %x, %v: %v, but %d times it is %v, error %d", c, p, whole, k, sum, e)
				}
			}
			for m := uint64(2); m < 9; m++ {
				part, e := Find(c, p, 1, m, whole[1]/2, 9*m*c.P[0])
				for i, k := range part {
					if e != api.OK || k%m != 1 || k%whole[1] != 0 || i > 0 && (k-part[i-1])%whole[1] != 0 {
						t.Errorf("P22.2: Find of %x, %v, of 1 modulo %d: %v, error %d, the order is %d", c, p, m, part, e, whole[1])
					}
				}
			}
		}
	}
}

// refused are curves that may not be.
func refused() (out []api.Curve) {
	for _, p := range []api.Nat{{7}, {13}, {15}, {1<<63 - 25}, {13, 1}, {all - 188, all, all, all}, {all, all, all, all}} {
		a, b := less(p, 2), api.Nat{3}
		out = append(out, api.Curve{P: p}, api.Curve{P: p, A: less(p, 3), B: api.Nat{2}}, api.Curve{P: p, A: less(p, 3), B: less(p, 2)}) // 4 A^3 is -108, and 27 B^2 is 108
		for _, x := range []api.Nat{p, more(p, 1), nat.Shl(p, 1), loose(a, 1), loose(b, 3), {0}, {1, 0}, loose(p, 1), append(loose(p, 5-len(p)), 1), make(api.Nat, 300)} {
			out = append(out, api.Curve{P: p, A: x, B: b}, api.Curve{P: p, A: a, B: x}, api.Curve{P: p, A: x, B: x})
		}
		for _, x := range []api.Nat{nil, {0}, {1}, {2}, {3}, {4}, more(p, 1), loose(p, 1), loose(p, 4), nat.Shl(p, 300), append(loose(p, 4-len(p)), 1), oneAt(256), more(oneAt(256), 1), {1, 2, 3, 4, 5}} {
			out = append(out, api.Curve{P: x, A: a, B: b}, api.Curve{P: x, A: api.Nat{1}, B: api.Nat{1}}, api.Curve{P: x})
		}
	}
	return append(out, api.Curve{}, over(9, 0, 1), over(9, 3, 3), over(25, 15, 10), over(27, 3, 0), over(81, 9, 9), over(23, 22, 22), over(31, 1, 1), over(5, 0, 0), over(5, 2, 2), over(61, 0, 0))
}

// anyAsks are rows that may be, of too many numbers, and of all kinds that may not be.
func anyAsks() []ask {
	return []ask{{0, 1, 0, 30}, {1, 2, 0, 30}, {0, 1, 0, 1 << 32}, {0, 1, 0, 1 << 62}, {0, 0, 0, 0}, {0, 0, 0, 1 << 62}, {1, 1, 0, 30}, {5, 4, 0, 30}, {0, 1, 31, 30}, {0, 1, 0, 1<<62 + 1}, {0, 1, 0, all}, {all, all, all, all}, {all, 0, all, 0}, {0, 1 << 63, 1 << 63, 1 << 63}, {3, 9, 4, 4}}
}

// TestRefused has the curve's error ahead of all others.
func TestRefused(t *testing.T) {
	seen := map[api.Errno]int{}
	points := []api.Point{far(), {}, at(0, 1), at(1, 2), at(7, 7), {Far: true, X: nat.Of(1)}, {X: api.Nat{0}}, {X: api.Nat{all, all, all, all, all}, Y: api.Nat{1, 0}}}
	for _, c := range refused() {
		right := errorOf(c)
		seen[right]++
		if e := curve.May(c); e != right {
			t.Errorf("P16.1: May of %x: error %d, not %d", c, e, right)
		}
		for _, p := range points {
			for _, a := range anyAsks() {
				wantError(t, c, p, a, right)
			}
		}
	}
	if seen[api.OK] > 0 || seen[api.ErrArg] < 100 || seen[api.ErrCurve] < 20 {
		t.Errorf("of how many there is which error: %v", seen)
	}
}

// TestOff has points that are not on the curve, which goes ahead of all that is wrong with the row.
func TestOff(t *testing.T) {
	points := small()
	for _, k := range []known{points[9], points[2], points[30], mersenne(61, 61), mersenne(61, 1), mersenne(127, 40), ofOrder(64, 7, 65537), ofOrder(256, 7, 257), {over(15, 1, 1), at(0, 1), nil}, {api.Curve{P: api.Nat{all, all}, A: nat.Of(1), B: nat.Of(1)}, at(0, 14), nil}} {
		x, y, p := k.p.X, k.p.Y, k.c.P
		wrong := []api.Point{
			{X: x, Y: more(y, 1)}, {X: more(x, 1), Y: y}, {X: p, Y: y}, {X: x, Y: p}, {X: p, Y: p}, {X: nat.Add(x, p), Y: y}, {X: x, Y: nat.Add(y, p)}, {X: nat.Add(x, p), Y: nat.Add(y, p)}, {X: x, Y: more(p, 1)},
			{X: loose(x, 1), Y: y}, {X: x, Y: loose(y, 1)}, {X: loose(x, 2), Y: loose(y, 300)}, {X: api.Nat{0}, Y: y}, {X: x, Y: api.Nat{0}}, {X: append(loose(x, 4-len(x)), 1), Y: y}, {X: x, Y: append(loose(y, 4-len(y)), 1)}, {X: append(loose(x, 300-len(x)), 1), Y: y},
			{Far: true, X: x, Y: more(y, 1)}, {Far: true, X: nat.Of(1)}, {Far: true, Y: nat.Of(1)}, {Far: true, X: api.Nat{0}}, {Far: true, Y: api.Nat{0, 0}}, {Far: true, X: p, Y: p},
		}
		count := 0
		for _, q := range wrong {
			if isOn(k.c, q) {
				continue
			}
			count++
			for _, a := range anyAsks() {
				wantError(t, k.c, q, a, api.ErrPoint)
			}
		}
		if count < len(wrong)-2 {
			t.Errorf("%x: but %d points are wrong", k.c, count)
		}
	}
	for _, p := range smallPrimes(5, 7) {
		for _, c := range curvesBy(p) {
			for x := range p + 2 {
				for y := range p + 2 {
					if q := at(x, y); !isOn(c, q) {
						wantError(t, c, q, ask{0, 1, 0, 30}, api.ErrPoint)
						wantError(t, c, q, ask{0, 0, 0, 1 << 33}, api.ErrPoint)
					}
				}
			}
		}
	}
}

// TestErrorsInOrder has rows that may not be, and are too long too, and rows that are too long, with points of which more are found than may be.
func TestErrorsInOrder(t *testing.T) {
	points := small()
	for _, k := range []known{points[1], points[2], points[9], mersenne(61, 50), {over(5, 1, 1), far(), number(1)}, {over(15, 1, 1), at(0, 1), nil}} {
		for _, a := range []ask{{0, 0, 0, 1 << 62}, {1, 1, 0, 1 << 62}, {2, 2, 0, 1 << 62}, {0, 1, 0, 1<<62 + 1}, {0, 1, 0, all}, {0, 1, 1 << 61, 1 << 60}, {7, 3, 5, 1 << 61}} {
			wantError(t, k.c, k.p, a, api.ErrArg)
		}
		for _, a := range []ask{{0, 1, 0, 1 << 62}, {0, 1, 0, 1 << 32}, {1, 2, 1, 1<<33 + 1}, {0, 1 << 30, 0, 1 << 62}} {
			wantError(t, k.c, k.p, a, api.ErrMany)
		}
	}
}

// someOn are points that are on curves modulo any number: by their X, Y and A the B is told.
func someOn(p api.Nat, count int) (out []known) {
	m := numberOf(p)
	next := rowBelow(m, p[0])
	for _, xy := range [][2]*big.Int{{new(big.Int), number(1)}, {number(1), new(big.Int)}, {new(big.Int), new(big.Int)}, {next(), next()}, {next(), next()}, {next(), next()}, {number(2), next()}, {next(), number(1)}} {
		for _, a := range []*big.Int{next(), number(1), new(big.Int)} {
			x, y := xy[0], xy[1]
			b := new(big.Int).Mul(x, x)
			b.Add(b, a).Mul(b, x).Sub(new(big.Int).Mul(y, y), b).Mod(b, m)
			c := api.Curve{P: p, A: wordsOf(a), B: wordsOf(b)}
			if errorOf(c) == api.OK && len(out) < count {
				out = append(out, known{c, api.Point{X: wordsOf(x), Y: wordsOf(y)}, nil})
			}
		}
	}
	return append(out, known{out[0].c, far(), number(1)})
}

// wantSome asks what P22.1 says of a P that is no prime: some of the row, or ErrMany.
func wantSome(t *testing.T, c api.Curve, p api.Point, a ask) (got []uint64) {
	t.Helper()
	got, e := Find(c, p, a.r, a.m, a.low, a.high)
	_, _, right := a.row()
	if right == api.OK && e == api.ErrMany {
		right = e
	}
	if e != right || e != api.OK && len(got) > 0 || len(got) > 4096 {
		t.Errorf("P22.1: Find of %x, %v, %+v: %d numbers, error %d", c, p, a, len(got), e)
	}
	for i, k := range got {
		if k < a.low || k > a.high || k%a.m != a.r || i > 0 && k <= got[i-1] {
			t.Errorf("P22.1: Find of %x, %v, %+v: %v", c, p, a, got[:min(9, len(got))])
			break
		}
	}
	want(t, c, p, a, got, e)
	return got
}

// others are odd numbers that are no primes: products of small ones and of great ones, powers, and numbers whose bits are all 1.
func others() []api.Nat {
	return []api.Nat{
		{9}, {15}, {21}, {25}, {27}, {33}, {35}, {49}, {77}, {91}, {105}, {121}, {143}, {169}, {221}, {561}, {1155}, {3599}, {15015}, {65535},
		{1<<31 + 1}, {1<<32 - 1}, {1<<32 + 1}, {1<<63 - 1}, {1<<63 + 1}, {all}, {1, 1}, {all, 1}, {1, 2}, {all, all}, {all, all, 1}, {all, all, all}, {all, all, all, all},
		wordsOf(product(65521, 65537)), wordsOf(product(1<<31-1, 1<<32-5)), wordsOf(product(1<<61-1, all-58)), wordsOf(product(5, 1<<61-1)), wordsOf(product(all-58, all-58, all-58, all-58)), wordsOf(product(3, 3, 3, 3, 3, 3, 3, 3, 3, 3, 3, 3)), wordsOf(product(1<<61-1, 1<<61-1)),
	}
}

// TestNoPrimes has P that are no primes: calls end, with some of the row.
func TestNoPrimes(t *testing.T) {
	t.Parallel()
	for _, p := range others() {
		t.Run(numberOf(p).Text(16), func(t *testing.T) {
			t.Parallel()
			count := 24
			if len(p) > 1 {
				count = 8
			}
			for _, k := range someOn(p, count) {
				for _, a := range append(anyAsks(), ask{0, 1, 0, 200}, ask{0, 1, 1, 1000}, ask{2, 7, 3, 700}, ask{0, 1, 1<<62 - 300, 1 << 62}, ask{0, 1, 0, 1 << 16}, ask{0, 1, 0, 0}, ask{0, 1, 1, 1}, ask{5, 1 << 50, 0, 1 << 62}, ask{all - 3, all, 0, 1 << 62}) {
					wantSome(t, k.c, k.p, a)
				}
			}
		})
	}
}

// TestEnds has the longest rows modulo P that are no primes.
func TestEnds(t *testing.T) {
	t.Parallel()
	for _, p := range []api.Nat{{9}, {25}, {105}, {1<<31 + 1}, wordsOf(product(1<<31-1, 1<<29-3)), {all}} {
		t.Run(numberOf(p).Text(16), func(t *testing.T) {
			t.Parallel()
			for _, k := range someOn(p, 1) {
				wantSome(t, k.c, k.p, ask{0, 1, 0, 1<<32 - 1})
				wantSome(t, k.c, k.p, ask{1, 1 << 30, 0, 1 << 62})
			}
		})
	}
}

// TestSmallNoPrimes has all points of all curves modulo the smallest numbers that are no primes.
func TestSmallNoPrimes(t *testing.T) {
	t.Parallel()
	found := 0
	for _, p := range []uint64{9, 15, 21} {
		for _, c := range curvesBy(p) {
			for _, q := range pointsOf(c) {
				found += len(wantSome(t, c, q, ask{0, 1, 1, 60}))
				wantSome(t, c, q, ask{1, 3, 0, 60})
			}
		}
	}
	if found == 0 {
		t.Errorf("nothing was found")
	}
}

// TestAnyWords has words of all kinds in all places: nothing panics, and there is an answer just where the chapter has one.
func TestAnyWords(t *testing.T) {
	t.Parallel()
	lists := []api.Nat{nil, {0}, {1}, {2}, {5}, {7}, {9}, {1, 0}, {all}, {all - 58}, {all, all, all, all}, append(make(api.Nat, 4), 1), append(make(api.Nat, 300), 7), make(api.Nat, 300)}
	asks := anyAsks()
	for i, p := range lists {
		for k, a := range lists {
			for m, b := range lists {
				for n, x := range lists {
					c, q := api.Curve{P: p, A: a, B: b}, api.Point{Far: (i+m+n)%5 == 0, X: x, Y: lists[(i+k+m+n)%len(lists)]}
					of := asks[(i+k+m+n)%len(asks)]
					_, _, rowE := of.row()
					switch e := errorOf(c); {
					case e != api.OK:
						wantError(t, c, q, of, e)
					case !isOn(c, q):
						wantError(t, c, q, of, api.ErrPoint)
					case rowE != api.OK:
						wantError(t, c, q, of, rowE)
					default:
						wantSome(t, c, q, of)
					}
				}
			}
		}
	}
}

// call is one with all that it is handed.
type call struct {
	c api.Curve
	p api.Point
	a ask
}

func (x call) made() ([]uint64, api.Errno) { return Find(x.c, x.p, x.a.r, x.a.m, x.a.low, x.a.high) }

// calls are many that have an answer, and some that have none.
func calls() (out []call) {
	points := small()
	list := []known{points[1], points[2], points[3], points[9], points[30], mersenne(31, 9), mersenne(61, 5), mersenne(61, 60), mersenne(127, 6), ofOrder(64, 3, 257), ofOrder(256, 7, 101), {points[9].c, far(), nil}, {points[9].c, at(1, 77), nil}, {over(5, 0, 0), at(0, 0), nil}}
	for _, p := range []api.Nat{{15}, {105}, {all}, {all, all}, {all, all, all, all}} {
		list = append(list, someOn(p, 3)...)
	}
	for _, k := range list {
		for _, a := range append(anyAsks(), ask{0, 1, 0, 500}, ask{0, 1, 3, 4099}, ask{0, 1, 0, 5000}, ask{2, 3, 1, 600}) {
			out = append(out, call{k.c, k.p, a})
		}
	}
	return out
}

// lists are the numbers of words that a call is handed.
func (x *call) lists() []*api.Nat { return []*api.Nat{&x.c.P, &x.c.A, &x.c.B, &x.p.X, &x.p.Y} }

// roomy is the same in memory of its own, with room behind the end of each list.
func (x call) roomy() call {
	for _, l := range x.lists() {
		*l = append(slices.Clone(*l), 11, 12, 13, 14, 15)[:len(*l)]
	}
	return x
}

// whole are all lists, up to the end of their room.
func (x call) whole() (out []api.Nat) {
	for _, l := range x.lists() {
		out = append(out, (*l)[:cap(*l)])
	}
	return out
}

// TestGivenStays holds R3 of what is handed in, the room behind a list's end too.
func TestGivenStays(t *testing.T) {
	t.Parallel()
	for _, x := range calls() {
		in := x.roomy()
		var before []api.Nat
		for _, l := range in.whole() {
			before = append(before, slices.Clone(l))
		}
		right, e := x.made()
		want(t, in.c, in.p, in.a, right, e)
		if got := in.whole(); !slices.EqualFunc(got, before, slices.Equal[api.Nat]) {
			t.Errorf("R3: Find of %x, %+v: what was handed in became %x", before, in.a, got)
		}
	}
}

// TestNothingKept spoils what was handed in, and asks again.
func TestNothingKept(t *testing.T) {
	t.Parallel()
	for _, x := range calls() {
		in := x.roomy()
		right, e := in.made()
		before := slices.Clone(right)
		for _, l := range in.whole() {
			for i := range l {
				l[i] = ^l[i]
			}
		}
		if in.made(); !slices.Equal(right, before) {
			t.Errorf("R3: Find of %x, %v, %+v: an answer became another one", x.c, x.p, x.a)
		}
		want(t, x.c, x.p, x.a, before, e)
	}
}

// TestAnsweredIsNew spoils an answer, and the room behind its end: neither another answer nor what was handed in becomes another one.
func TestAnsweredIsNew(t *testing.T) {
	t.Parallel()
	for _, x := range calls() {
		in := x.roomy()
		before := in.roomy().whole()
		one, e := in.made()
		two, _ := in.made()
		right := slices.Clone(one)
		for i := range one[:cap(one)] {
			one[:cap(one)][i] = ^uint64(i)
		}
		if !slices.Equal(two, right) {
			t.Errorf("R3: Find of %x, %v, %+v: an answer has memory of another one", x.c, x.p, x.a)
		}
		for i, l := range in.whole() {
			if !slices.Equal(l[:len(*x.lists()[i])], before[i][:len(*x.lists()[i])]) {
				t.Errorf("R3: Find of %x, %v, %+v: an answer has memory of what was handed in", x.c, x.p, x.a)
			}
		}
		want(t, in.c, in.p, in.a, right, e)
	}
}

// TestSharedMemory hands in numbers that share memory with each other.
func TestSharedMemory(t *testing.T) {
	for _, p := range []api.Nat{{7}, {13}, {1<<31 - 1}, {13, 1}, {all, all}} {
		one := api.Nat{1}
		room := append(slices.Clone(p), 1, 1)
		c := api.Curve{P: room[:len(p)], A: one, B: one}
		right, e := Find(api.Curve{P: p, A: api.Nat{1}, B: api.Nat{1}}, api.Point{Y: api.Nat{1}}, 0, 1, 0, 300)
		want(t, c, api.Point{Y: one}, ask{0, 1, 0, 300}, right, e)
		if one[0] != 1 || !slices.Equal(room, append(slices.Clone(p), 1, 1)) {
			t.Errorf("R3: what was handed in became %x, %x", one, room)
		}
	}
}

// TestSameAgain asks all in an order, and again in other ones.
func TestSameAgain(t *testing.T) {
	t.Parallel()
	list := calls()
	answers, errors := make([][]uint64, len(list)), make([]api.Errno, len(list))
	for i, x := range list {
		answers[i], errors[i] = x.made()
	}
	for _, step := range []int{len(list) - 1, 7} {
		for i := range list {
			k := i * step % len(list)
			want(t, list[k].c, list[k].p, list[k].a, answers[k], errors[k])
		}
	}
}

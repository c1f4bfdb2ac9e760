package curve

import (
	"crypto/elliptic"
	"math"
	"math/big"
	"slices"
	"testing"

	"caltrop/api"
	"caltrop/nat"
)

const (
	all = math.MaxUint64 // a word whose bits are all 1
	top = 1 << 63        // a word whose highest bit alone is 1
)

// less is a without so many; there are as many.
func less(a api.Nat, count uint64) api.Nat {
	out, _ := nat.Sub(a, nat.Of(count))
	return out
}

// more is a and so many.
func more(a api.Nat, count uint64) api.Nat { return nat.Add(a, nat.Of(count)) }

// loose is a's number in words that may not be, unless noughts is 0.
func loose(a api.Nat, noughts int) api.Nat {
	return append(slices.Clone(a), make(api.Nat, noughts)...)
}

// oneAt is 2^place.
func oneAt(place int) api.Nat {
	a := make(api.Nat, place/64+1)
	a[place/64] = 1 << (place % 64)
	return a
}

// row makes numbers below p without any order to be seen in them; another seed makes another row.
func row(p *big.Int, seed uint64) func() *big.Int {
	return func() *big.Int {
		out := new(big.Int)
		for range 5 {
			seed = seed*6364136223846793005 + 1442695040888963407
			out.Lsh(out, 64)
			out.Add(out, new(big.Int).SetUint64(seed^seed>>29))
		}
		return out.Mod(out, p)
	}
}

// numberOf is the number of words by the words of chapter 2 alone, in numbers of the library.
func numberOf(a api.Nat) *big.Int {
	b := make([]byte, 0, 8*len(a))
	for _, x := range slices.Backward(a) {
		for shift := 56; shift >= 0; shift -= 8 {
			b = append(b, byte(x>>shift))
		}
	}
	return new(big.Int).SetBytes(b)
}

// wordsOf is a number of the library's in words that may be.
func wordsOf(x *big.Int) api.Nat { return nat.FromBytes(x.Bytes()) }

// hex is a number that is written to the base 16.
func hex(text string) api.Nat {
	x, _ := new(big.Int).SetString(text, 16)
	return wordsOf(x)
}

// primes are primes of 3 bits to MaxField, at the ends of words among them.
func primes() []api.Nat {
	return []api.Nat{
		{5}, {7}, {11}, {13}, {97}, {65537}, {1<<31 - 1}, {1<<32 - 5}, {1<<32 + 15}, {1<<61 - 1}, {1<<63 - 25}, {all - 58},
		{13, 1}, {all, 1<<63 - 1}, {all - 158, all}, {51, 0, 1}, {all, all - 1, all}, {133, 0, 0, 1},
		{all - 188, all, all, all}, {all, 1<<32 - 1, 0, 0xffffffff00000001},
	}
}

// divided is an odd number that is no prime, and a prime that goes into it.
type divided struct {
	p       api.Nat
	divisor uint64
}

// others are odd numbers that are no primes, of 4 bits to MaxField; all of their bits are 1 in many of them.
func others() []divided {
	return []divided{
		{api.Nat{9}, 3}, {api.Nat{15}, 5}, {api.Nat{25}, 5}, {api.Nat{27}, 3}, {api.Nat{105}, 7}, {api.Nat{1<<31 + 1}, 3}, {api.Nat{2147483637}, 3}, {api.Nat{1<<32 - 1}, 17},
		{api.Nat{1<<63 - 1}, 7}, {api.Nat{top + 1}, 19}, {api.Nat{all}, 5}, {api.Nat{all, 1}, 31}, {api.Nat{1, 2}, 3},
		{api.Nat{all, all}, 17}, {api.Nat{all, all, 1}, 7}, {api.Nat{all, all, all}, 5}, {api.Nat{all, all, all, all}, 257},
	}
}

// moduli are those that all calls are asked with.
func moduli() []api.Nat {
	out := primes()
	for _, o := range others() {
		out = append(out, o.p)
	}
	return out
}

// plane tells what becomes of points by the chapter's words, in numbers of the library.
type plane struct{ p, a, b *big.Int }

// dot is a point; it is O, if it has no x.
type dot struct{ x, y *big.Int }

// fits tells whether words may be.
func fits(a api.Nat) bool { return len(a) == 0 || a[len(a)-1] != 0 }

// below tells whether words may be, and are a number below p.
func below(a api.Nat, p *big.Int) bool { return fits(a) && numberOf(a).Cmp(p) < 0 }

// planeOf is P16.1.
func planeOf(c api.Curve) (plane, api.Errno) {
	p := numberOf(c.P)
	if !fits(c.P) || p.Bit(0) == 0 || p.Cmp(big.NewInt(5)) < 0 || p.BitLen() > api.MaxField || !below(c.A, p) || !below(c.B, p) {
		return plane{}, api.ErrArg
	}
	out := plane{p, numberOf(c.A), numberOf(c.B)}
	sum := new(big.Int).Exp(out.a, big.NewInt(3), nil)
	sum.Mul(sum, big.NewInt(4))
	square := new(big.Int).Mul(out.b, out.b)
	sum.Add(sum, square.Mul(square, big.NewInt(27)))
	if sum.Mod(sum, p).Sign() == 0 {
		return plane{}, api.ErrCurve
	}
	return out, api.OK
}

// curve is the plane in words.
func (c plane) curve() api.Curve { return api.Curve{P: wordsOf(c.p), A: wordsOf(c.a), B: wordsOf(c.b)} }

// mod takes a number for what it leaves.
func (c plane) mod(a *big.Int) *big.Int { return a.Mod(a, c.p) }

func (c plane) times(a, b *big.Int) *big.Int { return c.mod(new(big.Int).Mul(a, b)) }

func (c plane) minus(a, b *big.Int) *big.Int { return c.mod(new(big.Int).Sub(a, b)) }

// right is x^3 + A x + B.
func (c plane) right(x *big.Int) *big.Int {
	out := new(big.Int).Exp(x, big.NewInt(3), nil)
	out.Add(out, new(big.Int).Mul(c.a, x))
	return c.mod(out.Add(out, c.b))
}

// has is P16.2.
func (c plane) has(p api.Point) (dot, bool) {
	x, y := numberOf(p.X), numberOf(p.Y)
	switch {
	case p.Far:
		return dot{}, len(p.X) == 0 && len(p.Y) == 0
	case !below(p.X, c.p) || !below(p.Y, c.p) || c.times(y, y).Cmp(c.right(x)) != 0:
		return dot{}, false
	}
	return dot{x, y}, true
}

func (c plane) neg(p dot) dot {
	if p.x == nil {
		return dot{}
	}
	return dot{p.x, c.minus(new(big.Int), p.y)}
}

// add is P16.3.
func (c plane) add(p, q dot) (dot, bool) {
	switch {
	case p.x == nil:
		return q, true
	case q.x == nil:
		return p, true
	case q.is(c.neg(p)):
		return dot{}, true
	}
	rise, run := c.minus(q.y, p.y), c.minus(q.x, p.x)
	if p.is(q) {
		rise = c.times(p.x, p.x)
		rise = c.mod(rise.Add(rise.Mul(rise, big.NewInt(3)), c.a))
		run = c.times(p.y, big.NewInt(2))
	}
	inverse := new(big.Int).ModInverse(run, c.p)
	if inverse == nil {
		return dot{}, false
	}
	m := c.times(rise, inverse)
	x := c.minus(c.minus(c.times(m, m), p.x), q.x)
	return dot{x, c.minus(c.times(m, c.minus(p.x, x)), p.y)}, true
}

func (p dot) is(q dot) bool {
	if p.x == nil || q.x == nil {
		return p.x == nil && q.x == nil
	}
	return p.x.Cmp(q.x) == 0 && p.y.Cmp(q.y) == 0
}

// chain is the sum of k of p, made from the lowest bit on, by add; there may be none, if P is no prime.
func (c plane) chain(k *big.Int, p dot) (out dot, is bool) {
	for i := range k.BitLen() {
		if k.Bit(i) == 1 {
			if out, is = c.add(out, p); !is {
				return dot{}, false
			}
		}
		if i < k.BitLen()-1 {
			if p, is = c.add(p, p); !is {
				return dot{}, false
			}
		}
	}
	return out, true
}

// triple stands for the point X by Z, Y by Z; for O, if Z is 0. Its sums need no division: they are another way of reckoning than the chapter's.
type triple struct{ x, y, z *big.Int }

func tripleOf(p dot) triple {
	if p.x == nil {
		return triple{new(big.Int), big.NewInt(1), new(big.Int)}
	}
	return triple{p.x, p.y, big.NewInt(1)}
}

// twice is p and p.
func (c plane) twice(p triple) triple {
	w := c.times(p.x, p.x)
	w.Mul(w, big.NewInt(3))
	w = c.mod(w.Add(w, c.times(c.a, c.times(p.z, p.z))))
	s := c.times(p.y, p.z)
	b := c.times(c.times(p.x, p.y), s)
	b4 := c.times(b, big.NewInt(4))
	h := c.minus(c.times(w, w), c.times(b, big.NewInt(8)))
	ys := c.times(p.y, s)
	return triple{
		c.times(c.times(h, s), big.NewInt(2)),
		c.minus(c.times(w, c.minus(b4, h)), c.times(c.times(ys, ys), big.NewInt(8))),
		c.times(c.times(s, c.times(s, s)), big.NewInt(8)),
	}
}

// plus is p and q.
func (c plane) plus(p, q triple) triple {
	switch {
	case p.z.Sign() == 0:
		return q
	case q.z.Sign() == 0:
		return p
	}
	xz, yz := c.times(p.x, q.z), c.times(p.y, q.z)
	u, v := c.minus(c.times(q.y, p.z), yz), c.minus(c.times(q.x, p.z), xz)
	switch {
	case v.Sign() == 0 && u.Sign() == 0:
		return c.twice(p)
	case v.Sign() == 0:
		return tripleOf(dot{})
	}
	zz, vv := c.times(p.z, q.z), c.times(v, v)
	vvv, vvx := c.times(vv, v), c.times(vv, xz)
	a := c.minus(c.minus(c.times(c.times(u, u), zz), vvv), c.times(vvx, big.NewInt(2)))
	return triple{c.times(v, a), c.minus(c.times(u, c.minus(vvx, a)), c.times(vvv, yz)), c.times(vvv, zz)}
}

// many is the sum of k of p, if P is a prime, made from the lowest bit on.
func (c plane) many(k *big.Int, p dot) dot {
	out, next := tripleOf(dot{}), tripleOf(p)
	for i := range k.BitLen() {
		if k.Bit(i) == 1 {
			out = c.plus(out, next)
		}
		next = c.twice(next)
	}
	if out.z.Sign() == 0 {
		return dot{}
	}
	inverse := new(big.Int).ModInverse(out.z, c.p)
	return dot{c.times(out.x, inverse), c.times(out.y, inverse)}
}

// point is a dot in words.
func (p dot) point() api.Point {
	if p.x == nil {
		return api.Point{Far: true}
	}
	return api.Point{X: wordsOf(p.x), Y: wordsOf(p.y)}
}

// at is a point of two words.
func at(x, y uint64) api.Point { return api.Point{X: nat.Of(x), Y: nat.Of(y)} }

// over is a curve of three words.
func over(p, a, b uint64) api.Curve { return api.Curve{P: nat.Of(p), A: nat.Of(a), B: nat.Of(b)} }

// wantErr says what is wrong with an error.
func wantErr(t *testing.T, got, want api.Errno, call string, args ...any) {
	t.Helper()
	if got != want {
		t.Errorf("%s of %v: error %d, not %d", call, args, got, want)
	}
}

// wantPoint says what is wrong with an answer, if it is not that point, in these words, or has another error.
func wantPoint(t *testing.T, got api.Point, e api.Errno, want api.Point, wantE api.Errno, call string, args ...any) {
	t.Helper()
	wantErr(t, e, wantE, call, args...)
	if !same(got, want) {
		t.Errorf("%s of %v: %v, not %v", call, args, got, want)
	}
}

// same tells whether two points are the same, in the same words.
func same(p, q api.Point) bool {
	return p.Far == q.Far && slices.Equal(p.X, q.X) && slices.Equal(p.Y, q.Y)
}

// wantMay asks May.
func wantMay(t *testing.T, c api.Curve) {
	t.Helper()
	_, want := planeOf(c)
	wantErr(t, May(c), want, "P16.1: May", c)
}

// errorOf is what goes ahead: May's error, or that of a point that is not on the curve.
func errorOf(c api.Curve, points ...api.Point) (plane, []dot, api.Errno) {
	in, e := planeOf(c)
	if e != api.OK {
		return in, nil, e
	}
	var dots []dot
	for _, p := range points {
		d, is := in.has(p)
		if !is {
			return in, nil, api.ErrPoint
		}
		dots = append(dots, d)
	}
	return in, dots, api.OK
}

// wantNeg asks On and Neg.
func wantNeg(t *testing.T, c api.Curve, p api.Point) {
	t.Helper()
	in, dots, e := errorOf(c, p)
	if is := On(c, p); is != (e == api.OK) {
		t.Errorf("P16.2: On of %v, %v: %t", c, p, is)
	}
	var want api.Point
	if e == api.OK {
		want = in.neg(dots[0]).point()
	}
	got, gotE := Neg(c, p)
	wantPoint(t, got, gotE, want, e, "P16.2: Neg", c, p)
}

// wantAdd asks Add, both ways round.
func wantAdd(t *testing.T, c api.Curve, p, q api.Point) {
	t.Helper()
	in, dots, e := errorOf(c, p, q)
	var want api.Point
	if e == api.OK {
		sum, is := in.add(dots[0], dots[1])
		if want = sum.point(); !is {
			want, e = api.Point{}, api.ErrInv
		}
	}
	got, gotE := Add(c, p, q)
	wantPoint(t, got, gotE, want, e, "P16.3: Add", c, p, q)
	got, gotE = Add(c, q, p)
	wantPoint(t, got, gotE, want, e, "P16.3: Add", c, q, p)
	if e == api.OK && !On(c, got) {
		t.Errorf("P16.5: Add of %v, %v, %v: %v, which is not on the curve", c, q, p, got)
	}
}

// wantTimes asks Times.
func wantTimes(t *testing.T, c api.Curve, k api.Nat, p api.Point) {
	t.Helper()
	in, dots, e := errorOf(c, p)
	count := numberOf(k)
	if e == api.OK && (!fits(k) || count.BitLen() > api.MaxBits) {
		e = api.ErrArg
	}
	got, gotE := Times(c, k, p)
	switch {
	case e != api.OK:
		wantPoint(t, got, gotE, api.Point{}, e, "P16.4: Times", c, k, p)
	case in.p.ProbablyPrime(5):
		wantPoint(t, got, gotE, in.many(count, dots[0]).point(), api.OK, "P16.4: Times", c, k, p)
	case gotE == api.ErrInv:
		wantPoint(t, got, gotE, api.Point{}, api.ErrInv, "P16.4: Times", c, k, p)
	default:
		sum, is := in.chain(count, dots[0])
		if want := sum.point(); is {
			wantPoint(t, got, gotE, want, api.OK, "P16.4: Times of no prime", c, k, p)
		} else if gotE != api.OK || !On(c, got) {
			t.Errorf("P16.4: Times of no prime, %v, %v, %v: %v, error %d", c, k, p, got, gotE)
		}
	}
}

// smooth tells whether a curve may be.
func (c plane) smooth() bool {
	_, e := planeOf(c.curve())
	return e == api.OK
}

// through is the curve of that A on which that point is.
func through(p, a *big.Int, d dot) plane {
	c := plane{p, a, new(big.Int)}
	c.b = c.minus(c.times(d.y, d.y), c.right(d.x))
	return c
}

// throughBoth is the curve on which both points are; there is none, if the difference of their x has no inverse.
func throughBoth(p *big.Int, d, e dot) (c plane, is bool) {
	c = plane{p, new(big.Int), new(big.Int)}
	inverse := new(big.Int).ModInverse(c.minus(e.x, d.x), p)
	if inverse == nil {
		return c, false
	}
	// y^2 less x^3 is A x + B
	a := c.minus(c.minus(c.times(e.y, e.y), c.times(e.x, c.times(e.x, e.x))), c.minus(c.times(d.y, d.y), c.times(d.x, c.times(d.x, d.x))))
	return through(p, c.times(a, inverse), d), true
}

// samples are curves modulo p, each with a point that is on it, one whose y is 0 among them.
func samples(p api.Nat) (curves []plane, dots []dot) {
	whole := numberOf(p)
	next := row(whole, p[0])
	zero, last := new(big.Int), new(big.Int).Sub(whole, big.NewInt(1))
	for _, d := range []dot{{next(), next()}, {zero, next()}, {zero, zero}, {next(), zero}, {last, last}, {last, next()}, {next(), last}} {
		for _, a := range []*big.Int{zero, last, next(), new(big.Int).Sub(whole, big.NewInt(3))} {
			if c := through(whole, a, d); c.smooth() {
				curves, dots = append(curves, c), append(dots, d)
			}
		}
	}
	return curves, dots
}

func TestSamples(t *testing.T) {
	sizes := map[int]bool{}
	for _, p := range primes() {
		if sizes[nat.Bits(p)] = true; !numberOf(p).ProbablyPrime(20) {
			t.Errorf("%v is no prime", p)
		}
	}
	for _, size := range []int{3, 31, 63, 64, 65, 128, 129, api.MaxField} {
		if !sizes[size] {
			t.Errorf("no prime of %d bits", size)
		}
	}
	for _, o := range others() {
		divisor := new(big.Int).SetUint64(o.divisor)
		rest := new(big.Int).Mod(numberOf(o.p), divisor)
		if sizes[-nat.Bits(o.p)] = true; !divisor.ProbablyPrime(20) || numberOf(o.p).Cmp(divisor) <= 0 || rest.Sign() != 0 {
			t.Errorf("%d is no prime that goes into %v", o.divisor, o.p)
		}
	}
	for _, size := range []int{4, 31, 63, 64, 65, 128, 129, api.MaxField} {
		if !sizes[-size] {
			t.Errorf("no number of %d bits that is no prime", size)
		}
	}
	for _, p := range moduli() {
		if curves, _ := samples(p); len(curves) < 8 {
			t.Errorf("%d samples alone by %v", len(curves), p)
		}
	}
}

func TestExamples(t *testing.T) {
	c := over(5, 1, 1)
	wantErr(t, May(c), api.OK, "P16.1: May", c)
	got, e := Add(c, at(0, 1), at(0, 1))
	wantPoint(t, got, e, at(4, 2), api.OK, "P16.3: Add of (0, 1), (0, 1)")
	got, e = Add(c, at(0, 1), at(0, 4))
	wantPoint(t, got, e, api.Point{Far: true}, api.OK, "P16.3: Add of (0, 1), (0, 4)")
	got, e = Times(c, nat.Of(9), at(0, 1))
	wantPoint(t, got, e, api.Point{Far: true}, api.OK, "P16.4: Times 9 of (0, 1)")
	wantErr(t, May(over(7, 0, 0)), api.ErrCurve, "W1: May of P 7, A 0, B 0")
}

// TestMayByHand has answers that were not made by this file's other way.
func TestMayByHand(t *testing.T) {
	longest := api.Nat{all, all, all, all}
	for _, c := range []struct {
		c    api.Curve
		want api.Errno
	}{
		{api.Curve{}, api.ErrArg}, {api.Curve{P: api.Nat{}, A: nat.Of(1)}, api.ErrArg}, {over(1, 0, 0), api.ErrArg}, {over(3, 1, 1), api.ErrArg}, {over(3, 0, 0), api.ErrArg},
		{over(2, 1, 1), api.ErrArg}, {over(4, 1, 1), api.ErrArg}, {over(4, 0, 0), api.ErrArg}, {over(6, 1, 1), api.ErrArg}, {over(all-1, 1, 1), api.ErrArg},
		{over(5, 1, 1), api.OK}, {over(5, 4, 4), api.OK}, {over(5, 0, 1), api.OK}, {over(5, 4, 0), api.OK}, {over(5, 3, 0), api.OK}, {over(9, 1, 8), api.OK}, {over(15, 5, 3), api.OK},
		{over(5, 0, 0), api.ErrCurve}, {over(5, 2, 2), api.ErrCurve}, {over(7, 0, 0), api.ErrCurve}, {over(7, 4, 2), api.ErrCurve}, {over(23, 20, 2), api.ErrCurve}, // -3, 2
		{over(9, 0, 0), api.ErrCurve}, {over(9, 3, 1), api.ErrCurve}, {over(9, 6, 8), api.ErrCurve}, {over(27, 24, 13), api.ErrCurve}, {over(25, 5, 10), api.ErrCurve}, {over(35, 32, 2), api.ErrCurve}, // no primes
		{over(9, 0, 1), api.ErrCurve}, {over(27, 0, 1), api.ErrCurve}, {over(27, 6, 1), api.ErrCurve}, // 27 B^2 is 0 whatever B is
		{over(25, 5, 1), api.OK}, {over(35, 7, 5), api.OK}, {over(35, 0, 5), api.OK}, {over(27, 1, 0), api.OK}, // what is not 0, though it shares a divisor with P
		{over(5, 5, 1), api.ErrArg}, {over(5, 1, 5), api.ErrArg}, {over(5, 6, 1), api.ErrArg}, {over(5, 1, 6), api.ErrArg}, {over(5, all, 1), api.ErrArg}, {over(5, 1, all), api.ErrArg},
		{over(5, 5, 0), api.ErrArg}, {over(5, 0, 5), api.ErrArg}, {over(5, 5, 5), api.ErrArg}, {over(7, 4, 9), api.ErrArg}, {over(7, 11, 2), api.ErrArg}, // ahead of ErrCurve
		{api.Curve{P: nat.Of(5), A: api.Nat{0, 1}, B: nat.Of(1)}, api.ErrArg}, {api.Curve{P: nat.Of(5), A: nat.Of(1), B: api.Nat{1, 1}}, api.ErrArg},
		{api.Curve{P: api.Nat{5, 0}, A: nat.Of(1), B: nat.Of(1)}, api.ErrArg}, {api.Curve{P: api.Nat{5, 0, 0}}, api.ErrArg}, {api.Curve{P: api.Nat{0}}, api.ErrArg}, {api.Curve{P: make(api.Nat, 9)}, api.ErrArg},
		{api.Curve{P: nat.Of(5), A: api.Nat{1, 0}, B: nat.Of(1)}, api.ErrArg}, {api.Curve{P: nat.Of(5), A: nat.Of(1), B: api.Nat{1, 0}}, api.ErrArg},
		{api.Curve{P: nat.Of(5), A: api.Nat{0}, B: nat.Of(1)}, api.ErrArg}, {api.Curve{P: nat.Of(5), A: nat.Of(1), B: api.Nat{0, 0}}, api.ErrArg},
		{api.Curve{P: nat.Of(5), A: api.Nat{0}, B: api.Nat{0}}, api.ErrArg}, {api.Curve{P: nat.Of(5), A: api.Nat{0}}, api.ErrArg}, {api.Curve{P: nat.Of(5), B: api.Nat{0}}, api.ErrArg},
		{api.Curve{P: nat.Of(5), A: api.Nat{}, B: api.Nat{1}}, api.OK}, {api.Curve{P: nat.Of(5), A: api.Nat{}, B: api.Nat{}}, api.ErrCurve},
		{api.Curve{P: longest, A: less(longest, 1), B: less(longest, 1)}, api.OK}, {api.Curve{P: longest, A: nat.Of(1)}, api.OK}, {api.Curve{P: longest}, api.ErrCurve},
		{api.Curve{P: longest, A: less(longest, 3), B: nat.Of(2)}, api.ErrCurve}, {api.Curve{P: longest, A: longest, B: nat.Of(1)}, api.ErrArg}, {api.Curve{P: longest, A: nat.Of(1), B: longest}, api.ErrArg},
		{api.Curve{P: loose(longest, 1), A: nat.Of(1), B: nat.Of(1)}, api.ErrArg}, {api.Curve{P: less(longest, 1), A: nat.Of(1), B: nat.Of(1)}, api.ErrArg},
		{api.Curve{P: api.Nat{1, 0, 0, 0, 1}, A: nat.Of(1), B: nat.Of(1)}, api.ErrArg}, {api.Curve{P: api.Nat{all, all, all, all, 1}, A: nat.Of(1), B: nat.Of(1)}, api.ErrArg},
		{api.Curve{P: api.Nat{0, 0, 0, 0, 1}, A: nat.Of(1), B: nat.Of(1)}, api.ErrArg}, {api.Curve{P: append(make(api.Nat, 999), 1)}, api.ErrArg},
	} {
		wantErr(t, May(c.c), c.want, "P16.1: May", c.c)
		wantMay(t, c.c)
	}
}

// TestMayEdges has numbers at P, and curves that have no slope somewhere, by all lengths of P.
func TestMayEdges(t *testing.T) {
	for _, p := range moduli() {
		numbers := []api.Nat{nil, {}, {0}, {0, 0}, {1}, {1, 0}, {2}, {3}, less(p, 1), less(p, 2), less(p, 3), p, more(p, 1), nat.Shl(p, 1), nat.Shl(p, 64), nat.Add(nat.Shl(p, 64), nat.Of(1)), loose(p, 1), loose(less(p, 1), 1), loose(less(p, 1), 9), append(slices.Clone(p), 1)}
		for _, a := range numbers {
			for _, b := range numbers {
				wantMay(t, api.Curve{P: p, A: a, B: b})
			}
		}
		whole := numberOf(p)
		next := row(whole, 3)
		for range 20 { // -3 s^2 and 2 s^3
			s, c := next(), plane{whole, new(big.Int), new(big.Int)}
			c.a = c.minus(c.a, c.times(big.NewInt(3), c.times(s, s)))
			c.b = c.times(big.NewInt(2), c.times(s, c.times(s, s)))
			wantErr(t, May(c.curve()), api.ErrCurve, "P16.1: May", c.curve())
			c.b = c.mod(c.b.Add(c.b, big.NewInt(1)))
			wantMay(t, c.curve())
			wantMay(t, plane{whole, next(), next()}.curve())
		}
	}
	for _, o := range others() { // what is 0 by a divisor alone
		c := plane{new(big.Int).SetUint64(o.divisor), big.NewInt(-3), big.NewInt(2)}
		a, b := wordsOf(c.mod(c.a)), wordsOf(c.mod(c.b))
		wantMay(t, api.Curve{P: o.p, A: a, B: b})
	}
}

// tiny is a small curve, whose points and inverses are found by going through all numbers.
type tiny struct{ p, a, b int }

// spot is a point: O, if it is none of the plane's.
type spot struct{ x, y int }

var far0 = spot{-1, -1}

func (c tiny) curve() api.Curve { return over(uint64(c.p), uint64(c.a), uint64(c.b)) }

func (s spot) point() api.Point {
	if s == far0 {
		return api.Point{Far: true}
	}
	return at(uint64(s.x), uint64(s.y))
}

func (c tiny) mod(n int) int { return (n%c.p + c.p) % c.p }

func (c tiny) has(s spot) bool { return s == far0 || c.mod(s.y*s.y-s.x*s.x*s.x-c.a*s.x-c.b) == 0 }

// spots are all points, O ahead.
func (c tiny) spots() []spot {
	out := []spot{far0}
	for x := range c.p {
		for y := range c.p {
			if s := (spot{x, y}); c.has(s) {
				out = append(out, s)
			}
		}
	}
	return out
}

// inverse goes through all numbers.
func (c tiny) inverse(n int) (int, bool) {
	for i := range c.p {
		if c.mod(i*n) == 1 {
			return i, true
		}
	}
	return 0, false
}

func (c tiny) neg(s spot) spot {
	if s == far0 {
		return s
	}
	return spot{s.x, c.mod(-s.y)}
}

func (c tiny) add(s, q spot) (spot, bool) {
	switch {
	case s == far0:
		return q, true
	case q == far0:
		return s, true
	case q == c.neg(s):
		return far0, true
	}
	rise, run := q.y-s.y, q.x-s.x
	if s == q {
		rise, run = 3*s.x*s.x+c.a, 2*s.y
	}
	inverse, is := c.inverse(c.mod(run))
	if !is {
		return spot{}, false
	}
	m := c.mod(rise * inverse)
	x := c.mod(m*m - s.x - q.x)
	return spot{x, c.mod(m*(s.x-x) - s.y)}, true
}

// smalls are all curves modulo p that may be; of all others May's error is looked at.
func smalls(t *testing.T, p int) (out []tiny) {
	for a := range p {
		for b := range p {
			c := tiny{p, a, b}
			if c.mod(4*a*a*a+27*b*b) != 0 {
				wantErr(t, May(c.curve()), api.OK, "P16.1: May", c)
				out = append(out, c)
				continue
			}
			wantErr(t, May(c.curve()), api.ErrCurve, "P16.1: May", c)
			if On(c.curve(), api.Point{Far: true}) || On(c.curve(), at(0, 0)) {
				t.Errorf("P16.2: On of %v, which may not be", c)
			}
		}
	}
	return out
}

// TestSmallOnesWhole has all curves and all pairs of points, by small primes and by numbers that are none (by the greater ones of these not all curves).
func TestSmallOnesWhole(t *testing.T) {
	t.Parallel()
	for _, p := range []int{5, 7, 11, 13, 9, 15, 21, 25} {
		for i, c := range smalls(t, p) {
			if p > 15 && i%4 != 0 {
				continue
			}
			in, spots := c.curve(), c.spots()
			for x := range p + 2 {
				for y := range p + 2 {
					want := x < p && y < p && c.has(spot{x, y})
					if On(in, at(uint64(x), uint64(y))) != want {
						t.Errorf("P16.2: On of %v, %d, %d: not %t", c, x, y, want)
					}
				}
			}
			for _, s := range spots {
				if !On(in, s.point()) {
					t.Errorf("P16.2: On of %v, %v: false", c, s)
				}
				got, e := Neg(in, s.point())
				wantPoint(t, got, e, c.neg(s).point(), api.OK, "P16.2: Neg", c, s)
				for _, q := range spots {
					got, e := Add(in, s.point(), q.point())
					sum, is := c.add(s, q)
					if is {
						wantPoint(t, got, e, sum.point(), api.OK, "P16.3: Add", c, s, q)
					} else {
						wantPoint(t, got, e, api.Point{}, api.ErrInv, "P16.3: Add", c, s, q)
					}
				}
			}
		}
	}
}

// TestSmallCounts adds each point as often as it takes to come to O once more, and asks Times beside it.
func TestSmallCounts(t *testing.T) {
	t.Parallel()
	for _, p := range []int{5, 7, 11, 13} {
		for _, c := range smalls(t, p) {
			spots := c.spots()
			count := uint64(len(spots))
			for _, s := range spots {
				sum := far0
				for k := range 2*count + 2 {
					got, e := Times(c.curve(), nat.Of(k), s.point())
					wantPoint(t, got, e, sum.point(), api.OK, "P16.4: Times", c, k, s)
					if is := k%count == 0; is && sum != far0 {
						t.Errorf("%d of %v are not O, on a curve of as many, %v", k, s, c)
					}
					next, is := c.add(sum, s)
					if sum = next; !is {
						t.Fatalf("P16.5: no inverse by %d", p)
					}
				}
			}
		}
	}
}

// parts are the curves of the primes that go into P, of which those that have a slope everywhere tell sums.
func (c tiny) parts() (out []tiny) {
	for _, q := range []int{3, 5, 7} {
		part := tiny{q, c.a % q, c.b % q}
		if c.p%q == 0 && part.mod(4*c.a*c.a*c.a+27*c.b*c.b) != 0 {
			out = append(out, part)
		}
	}
	return out
}

// by is what a point leaves.
func (c tiny) by(p api.Point) spot {
	if p.Far {
		return far0
	}
	return spot{c.mod(int(numberOf(p.X).Int64())), c.mod(int(numberOf(p.Y).Int64()))}
}

// TestSmallCountsOfNoPrimes wants ErrInv, or what adding one by one comes to, as far as that goes; and what it comes to by each prime that goes into P.
func TestSmallCountsOfNoPrimes(t *testing.T) {
	t.Parallel()
	for _, p := range []int{9, 15, 21, 25, 35} {
		for i, c := range smalls(t, p) {
			if p > 15 && i%9 != 0 {
				continue
			}
			for _, s := range c.spots() {
				wantSums(t, c, s, 24)
			}
		}
	}
}

// wantSums asks Times where P is no prime.
func wantSums(t *testing.T, c tiny, s spot, most uint64) {
	t.Helper()
	parts := c.parts()
	var byPart []spot
	for range parts {
		byPart = append(byPart, far0)
	}
	sum, is := far0, true
	for k := range most {
		got, e := Times(c.curve(), nat.Of(k), s.point())
		if e == api.ErrInv {
			wantPoint(t, got, e, api.Point{}, api.ErrInv, "P16.4: Times", c, k, s)
		} else if e != api.OK || !On(c.curve(), got) || is && !same(got, sum.point()) {
			t.Errorf("P16.4: Times of %v, %d, %v: %v, error %d", c, k, s, got, e)
		}
		for i, part := range parts {
			if e == api.OK && part.by(got) != byPart[i] {
				t.Errorf("P16.4: Times of %v, %d, %v: %v, that is not %v by %d", c, k, s, got, byPart[i], part.p)
			}
			byPart[i], _ = part.add(byPart[i], part.by(s.point()))
		}
		if is {
			sum, is = c.add(sum, s)
		}
	}
}

// TestSmallBrackets has all sums of three points, in both brackets and in any order.
func TestSmallBrackets(t *testing.T) {
	t.Parallel()
	for _, p := range []int{5, 7} {
		for _, c := range smalls(t, p) {
			in, spots := c.curve(), c.spots()
			for i, s := range spots {
				for k, q := range spots {
					for _, r := range spots[k:] {
						one := added(t, in, added(t, in, s.point(), q.point()), r.point())
						two := added(t, in, s.point(), added(t, in, q.point(), r.point()))
						three := added(t, in, added(t, in, r.point(), s.point()), q.point())
						if !same(one, two) || !same(one, three) {
							t.Errorf("P16.5: %v, %v, %v, %v: %v, %v and %v", c, spots[i], q, r, one, two, three)
						}
					}
				}
			}
		}
	}
}

// added is the sum, of which there is one.
func added(t *testing.T, c api.Curve, p, q api.Point) api.Point {
	t.Helper()
	out, e := Add(c, p, q)
	if e != api.OK || !On(c, out) {
		t.Errorf("P16.5: Add of %v, %v, %v: %v, error %d", c, p, q, out, e)
	}
	return out
}

// counted is the sum of k of p, of which there is one.
func counted(t *testing.T, c api.Curve, k api.Nat, p api.Point) api.Point {
	t.Helper()
	out, e := Times(c, k, p)
	if e != api.OK || !On(c, out) {
		t.Errorf("P16.5: Times of %v, %v, %v: %v, error %d", c, k, p, out, e)
	}
	return out
}

// TestPointsByHand has answers that were not made by this file's other way.
func TestPointsByHand(t *testing.T) {
	far, c := api.Point{Far: true}, over(5, 1, 1) // (0, 1), (0, 4), (2, 1), (2, 4), (3, 1), (3, 4), (4, 2), (4, 3)
	one := nat.Of(1)
	for _, n := range []struct {
		p, want api.Point
		e       api.Errno
	}{
		{far, far, api.OK}, {api.Point{Far: true, X: api.Nat{}, Y: api.Nat{}}, far, api.OK}, {at(0, 1), at(0, 4), api.OK}, {api.Point{X: api.Nat{}, Y: one}, at(0, 4), api.OK}, {at(4, 3), at(4, 2), api.OK},
		{api.Point{}, api.Point{}, api.ErrPoint}, {at(1, 1), api.Point{}, api.ErrPoint}, {at(0, 2), api.Point{}, api.ErrPoint}, {at(1, 0), api.Point{}, api.ErrPoint},
		{api.Point{Far: true, Y: one}, api.Point{}, api.ErrPoint}, {api.Point{Far: true, X: nat.Of(2), Y: one}, api.Point{}, api.ErrPoint}, // (0, 1) and (2, 1), and Far
		{api.Point{Far: true, X: one}, api.Point{}, api.ErrPoint}, {api.Point{Far: true, X: api.Nat{0}}, api.Point{}, api.ErrPoint}, {api.Point{Far: true, Y: api.Nat{0}}, api.Point{}, api.ErrPoint},
		{at(5, 1), api.Point{}, api.ErrPoint}, {at(0, 6), api.Point{}, api.ErrPoint}, {at(7, 1), api.Point{}, api.ErrPoint}, {at(0, 9), api.Point{}, api.ErrPoint}, {at(5, 6), api.Point{}, api.ErrPoint},
		{api.Point{X: api.Nat{0}, Y: one}, api.Point{}, api.ErrPoint}, {api.Point{Y: api.Nat{1, 0}}, api.Point{}, api.ErrPoint}, {api.Point{X: api.Nat{2, 0, 0}, Y: one}, api.Point{}, api.ErrPoint},
		{api.Point{X: api.Nat{2, 1}, Y: one}, api.Point{}, api.ErrPoint}, {api.Point{X: nat.Of(2), Y: api.Nat{1, 1}}, api.Point{}, api.ErrPoint},
	} {
		if is := On(c, n.p); is != (n.e == api.OK) {
			t.Errorf("P16.2: On of %v: %t", n.p, is)
		}
		got, e := Neg(c, n.p)
		wantPoint(t, got, e, n.want, n.e, "P16.2: Neg", n.p)
		for _, q := range []api.Point{far, at(0, 1), at(3, 4), at(1, 1)} {
			if got, e = Add(c, n.p, q); n.e != api.OK {
				wantPoint(t, got, e, api.Point{}, n.e, "P16.3: Add", n.p, q)
			}
			if got, e = Add(c, q, n.p); n.e != api.OK {
				wantPoint(t, got, e, api.Point{}, n.e, "P16.3: Add", q, n.p)
			}
		}
		for _, k := range []api.Nat{nil, one, {0}, oneAt(api.MaxBits)} {
			if got, e = Times(c, k, n.p); n.e != api.OK {
				wantPoint(t, got, e, api.Point{}, n.e, "P16.4: Times, ErrPoint ahead of ErrArg", k, n.p)
			}
		}
	}
	for _, n := range []struct{ p, q, sum api.Point }{
		{far, far, far}, {far, at(2, 4), at(2, 4)}, {at(2, 4), far, at(2, 4)}, {at(2, 4), at(2, 1), far}, {at(2, 1), at(2, 1), at(2, 4)}, {at(0, 1), at(0, 1), at(4, 2)},
		{at(0, 1), at(4, 2), at(2, 1)}, {at(2, 1), at(0, 1), at(3, 4)}, {at(4, 2), at(4, 2), at(3, 4)},
	} {
		got, e := Add(c, n.p, n.q)
		wantPoint(t, got, e, n.sum, api.OK, "P16.3: Add", n.p, n.q)
	}
	for k, want := range []api.Point{far, at(0, 1), at(4, 2), at(2, 1), at(3, 4), at(3, 1), at(2, 4), at(4, 3), at(0, 4), far, at(0, 1)} {
		got, e := Times(c, nat.Of(uint64(k)), at(0, 1))
		wantPoint(t, got, e, want, api.OK, "P16.4: Times of (0, 1)", k)
	}
	c = over(5, 4, 0) // x (x - 1) (x + 1): (0, 0), (1, 0), (4, 0), (2, 1), (2, 4), (3, 2), (3, 3)
	for _, n := range []struct{ p, q, sum api.Point }{{at(0, 0), at(0, 0), far}, {at(1, 0), at(1, 0), far}, {at(0, 0), at(1, 0), at(4, 0)}, {at(0, 0), far, at(0, 0)}, {at(2, 1), at(2, 1), at(0, 0)}, {at(2, 1), at(3, 2), at(1, 0)}} {
		got, e := Add(c, n.p, n.q)
		wantPoint(t, got, e, n.sum, api.OK, "P16.3: Add of Y 0", n.p, n.q)
	}
	got, e := Neg(c, at(4, 0))
	wantPoint(t, got, e, at(4, 0), api.OK, "P16.2: Neg of Y 0")
}

// TestNoPrimesByHand has what is divided by and has no inverse, though it is not 0, on both ways of the slope; and where it has one.
func TestNoPrimesByHand(t *testing.T) {
	far, none := api.Point{Far: true}, api.Point{}
	for _, n := range []struct {
		c         api.Curve
		p, q, sum api.Point
		e         api.Errno
	}{
		{over(15, 0, 4), at(0, 2), at(0, 2), at(0, 13), api.OK},
		{over(15, 0, 4), at(0, 2), at(0, 13), far, api.OK},
		{over(15, 0, 4), at(11, 0), at(11, 0), far, api.OK},
		{over(15, 0, 4), at(0, 2), far, at(0, 2), api.OK},
		{over(15, 0, 4), far, at(5, 3), at(5, 3), api.OK},
		{over(15, 0, 4), at(0, 2), at(8, 6), at(11, 0), api.OK}, // 4 by 8 is 8, and 64 less 8 is 56
		{over(15, 0, 4), at(0, 2), at(8, 9), at(8, 6), api.OK},
		{over(15, 0, 4), at(5, 3), at(5, 12), far, api.OK},
		{over(15, 0, 4), at(5, 3), at(5, 3), none, api.ErrInv},   // 6 has none
		{over(15, 0, 4), at(6, 5), at(6, 5), none, api.ErrInv},   // 10 has none
		{over(15, 0, 4), at(0, 2), at(0, 7), none, api.ErrInv},   // 0 has none: the same X, and 7^2 is 4, too
		{over(15, 0, 4), at(0, 2), at(0, 8), none, api.ErrInv},   // nor here, where both Y are 10 together
		{over(15, 0, 4), at(0, 2), at(3, 1), none, api.ErrInv},   // 3 has none
		{over(15, 0, 4), at(0, 2), at(5, 12), none, api.ErrInv},  // 5 has none
		{over(15, 0, 4), at(3, 4), at(0, 13), none, api.ErrInv},  // 12 has none
		{over(35, 1, 1), at(0, 1), at(7, 1), none, api.ErrInv},   // 7 has none, and the difference of both Y is 0
		{over(35, 1, 1), at(0, 1), at(30, 9), none, api.ErrInv},  // 30 has none
		{over(35, 1, 1), at(0, 1), at(28, 29), none, api.ErrInv}, // 28 has none
		{over(35, 1, 1), at(0, 1), at(0, 1), at(9, 12), api.OK},  // 1 by 2 is 18, and 324 is 9
		{over(35, 1, 1), at(0, 1), at(2, 9), at(14, 13), api.OK}, // 4, and 16 less 2
		{over(25, 1, 1), at(0, 1), at(0, 1), at(19, 2), api.OK},
		{over(25, 1, 1), at(0, 1), at(5, 9), none, api.ErrInv},
		{over(9, 1, 1), at(0, 1), at(0, 1), at(7, 0), api.OK},
		{over(9, 1, 1), at(7, 3), at(7, 3), none, api.ErrInv}, // 6 has none
		{over(9, 1, 1), at(7, 0), at(7, 3), none, api.ErrInv}, // the same X, and Y 0
		{over(9, 1, 1), at(7, 0), at(7, 0), far, api.OK},
		{over(9, 1, 1), at(7, 3), at(7, 6), far, api.OK},
		{over(9, 1, 1), at(7, 3), at(1, 1), none, api.ErrPoint},
	} {
		got, e := Add(n.c, n.p, n.q)
		wantPoint(t, got, e, n.sum, n.e, "P16.3: Add", n.c, n.p, n.q)
		got, e = Add(n.c, n.q, n.p)
		wantPoint(t, got, e, n.sum, n.e, "P16.3: Add", n.c, n.q, n.p)
		wantAdd(t, n.c, n.p, n.q)
	}
	// (0, 1) and (0, 1) are (9, 12) by 35, and (2, 16) comes next: by 5 it is the sum of 3, and so it is by 7
	for k, want := range []api.Point{far, at(0, 1), at(9, 12), at(2, 16), at(28, 34)} {
		got, e := Times(over(35, 1, 1), nat.Of(uint64(k)), at(0, 1))
		if e == api.ErrInv {
			want = none
		} else if e != api.OK {
			t.Errorf("P16.4: Times of %d: error %d", k, e)
		}
		wantPoint(t, got, e, want, e, "P16.4: Times of no prime", k)
	}
}

// aside are points that may be asked with a point of a curve: itself, others of the curve, those beside it, and what is no point.
func aside(c plane, d dot) []api.Point {
	p := wordsOf(c.p)
	x, y := wordsOf(d.x), wordsOf(d.y)
	one := big.NewInt(1)
	out := []api.Point{
		{Far: true}, {Far: true, X: api.Nat{}, Y: api.Nat{}}, {}, {X: api.Nat{}, Y: api.Nat{}},
		{X: x, Y: y}, c.neg(d).point(), {X: y, Y: x}, {X: x, Y: wordsOf(c.mod(new(big.Int).Add(d.y, one)))}, {X: wordsOf(c.mod(new(big.Int).Add(d.x, one))), Y: y}, {X: x}, {Y: y},
		{Far: true, X: x, Y: y}, {Far: true, X: x}, {Far: true, Y: y}, {Far: true, X: api.Nat{0}}, {Far: true, Y: api.Nat{0, 0}}, {Far: true, X: p}, {Far: true, X: nat.Of(1), Y: nat.Of(1)},
		{X: nat.Add(x, p), Y: y}, {X: x, Y: nat.Add(y, p)}, {X: p, Y: y}, {X: x, Y: p}, {X: more(p, 1), Y: y}, {X: x, Y: more(p, 1)}, {X: p, Y: p},
		{X: loose(x, 1), Y: y}, {X: x, Y: loose(y, 1)}, {X: loose(x, 3), Y: loose(y, 2)}, {X: x, Y: loose(nat.Add(y, p), 1)},
		{X: append(loose(x, 4-len(x)), 1), Y: y}, {X: x, Y: append(loose(y, 4-len(y)), 1)},
	}
	for k := range int64(4) {
		if sum, is := c.chain(big.NewInt(k+2), d); is {
			out = append(out, sum.point(), c.neg(sum).point())
		}
	}
	return out
}

// TestPairs asks all pairs of points aside, of samples of all lengths.
func TestPairs(t *testing.T) {
	t.Parallel()
	for _, p := range moduli() {
		curves, dots := samples(p)
		for i, c := range curves {
			if i%4 != 1 && dots[i].x.Sign() != 0 {
				continue
			}
			points := aside(c, dots[i])
			for k, one := range points {
				wantNeg(t, c.curve(), one)
				wantTimes(t, c.curve(), nat.Of(uint64(k)), one)
				for _, two := range points[k:] {
					wantAdd(t, c.curve(), one, two)
				}
			}
		}
	}
}

// TestBothOnOne has two points without anything in common, on a curve through both.
func TestBothOnOne(t *testing.T) {
	for _, p := range moduli() {
		whole := numberOf(p)
		next := row(whole, 5)
		zero := new(big.Int)
		for i, found := 0, 0; found < 12; i++ {
			d, e := dot{next(), next()}, dot{next(), next()}
			switch i % 6 {
			case 0:
				d.y = zero
			case 1:
				e.x, d.y = zero, zero
			case 2:
				e.y = d.y
			case 3:
				e.y = new(big.Int).Mod(new(big.Int).Neg(d.y), whole)
			}
			c, is := throughBoth(whole, d, e)
			if i > 10000 {
				t.Fatalf("no curves by %v", p)
			}
			if !is || !c.smooth() {
				continue
			}
			found++
			wantAdd(t, c.curve(), d.point(), e.point())
			wantAdd(t, c.curve(), d.point(), d.point())
			wantAdd(t, c.curve(), d.point(), c.neg(e).point())
			wantTimes(t, c.curve(), nat.Of(uint64(i)), e.point())
		}
	}
}

// stuck is a curve modulo a number that is no prime, on which both points are, and whose X differ by a divisor. Their Y differ by m times that.
func stuck(o divided, m *big.Int, next func() *big.Int) (c plane, d, e dot) {
	step := new(big.Int).SetUint64(o.divisor)
	c = plane{p: numberOf(o.p)}
	d = dot{next(), next()}
	e = dot{c.mod(new(big.Int).Add(d.x, step)), c.mod(new(big.Int).Add(d.y, new(big.Int).Mul(step, m)))}
	// y^2 differs by so many times the divisor as m (both y) says, x^3 as x x and x x' and x' x' say
	a := c.mod(new(big.Int).Mul(m, new(big.Int).Add(d.y, e.y)))
	for _, product := range []*big.Int{c.times(d.x, d.x), c.times(d.x, e.x), c.times(e.x, e.x)} {
		a = c.minus(a, product)
	}
	return through(c.p, a, d), d, e
}

// TestWithoutInverse has ErrInv on both ways of the slope, by numbers of all lengths that are no primes.
func TestWithoutInverse(t *testing.T) {
	for _, o := range others() {
		next := row(numberOf(o.p), 8)
		divisor := new(big.Int).SetUint64(o.divisor)
		chords, tangents := 0, 0
		for i := 0; i < 2000 && chords+tangents < 24; i++ {
			m := []*big.Int{new(big.Int), big.NewInt(1), next()}[i%3]
			if c, d, e := stuck(o, m, next); chords < 12 && c.smooth() {
				chords++
				got, is := Add(c.curve(), d.point(), e.point())
				wantPoint(t, got, is, api.Point{}, api.ErrInv, "P16.3: Add", c.curve(), d.point(), e.point())
				wantAdd(t, c.curve(), d.point(), e.point())
			}
			d := dot{next(), divisor}
			if c := through(numberOf(o.p), next(), d); tangents < 12 && c.smooth() {
				tangents++
				got, is := Add(c.curve(), d.point(), d.point())
				wantPoint(t, got, is, api.Point{}, api.ErrInv, "P16.3: Add", c.curve(), d.point(), d.point())
				for _, k := range []uint64{0, 1, 2, 3, 4, all} {
					wantTimes(t, c.curve(), nat.Of(k), d.point())
				}
			}
		}
		if chords < 12 || tangents < 12 {
			t.Errorf("%d and %d curves alone by %v", chords, tangents, o.p)
		}
	}
}

// counts are numbers that a point may be taken times.
func counts(p api.Nat) []api.Nat {
	most := oneAt(api.MaxBits)
	return []api.Nat{
		nil, {}, {1}, {2}, {3}, {4}, {5}, {6}, {7}, {8}, {1<<32 + 1}, {top}, {all}, {0, 1}, {1, 1}, {all, all}, {0, 0, 5}, p, more(p, 1), less(p, 1), nat.Shl(p, 1),
		less(most, 1), nat.Shr(most, 1), most, more(most, 1), nat.Shl(most, 1), append(make(api.Nat, 99), 1),
		{0}, {0, 0}, {1, 0}, {2, 0, 0}, loose(p, 1), loose(less(most, 1), 1), make(api.Nat, 100),
	}
}

func TestCounts(t *testing.T) {
	t.Parallel()
	for _, p := range moduli() {
		curves, dots := samples(p)
		for i, c := range curves {
			if i%9 != 0 {
				continue
			}
			for _, k := range counts(p) {
				wantTimes(t, c.curve(), k, dots[i].point())
			}
		}
		c, k := curves[0].curve(), loose(api.Nat{3}, 1)
		for _, n := range []struct {
			k api.Nat
			p api.Point
			e api.Errno
		}{
			{nil, api.Point{Far: true}, api.OK}, {api.Nat{1}, api.Point{Far: true}, api.OK}, {less(oneAt(api.MaxBits), 1), api.Point{Far: true}, api.OK},
			{k, api.Point{Far: true}, api.ErrArg}, {oneAt(api.MaxBits), api.Point{Far: true}, api.ErrArg}, {api.Nat{0}, dots[0].point(), api.ErrArg}, {oneAt(api.MaxBits), dots[0].point(), api.ErrArg},
			{k, api.Point{Far: true, X: api.Nat{1}}, api.ErrPoint}, {oneAt(api.MaxBits), api.Point{X: p}, api.ErrPoint}, {nil, api.Point{Y: p}, api.ErrPoint},
		} {
			want := api.Point{Far: n.e == api.OK}
			got, e := Times(c, n.k, n.p)
			wantPoint(t, got, e, want, n.e, "P16.4: Times", c, n.k, n.p)
		}
	}
}

// TestErrorsAhead has curves that may not be, with points and numbers that may not be either.
func TestErrorsAhead(t *testing.T) {
	points := []api.Point{{}, {Far: true}, at(0, 1), at(1, 1), at(9, 9), {Far: true, X: api.Nat{1}}, {X: api.Nat{0}, Y: api.Nat{1}}}
	for _, c := range []struct {
		c    api.Curve
		want api.Errno
	}{
		{api.Curve{}, api.ErrArg}, {over(3, 1, 1), api.ErrArg}, {over(4, 1, 1), api.ErrArg}, {over(7, 7, 1), api.ErrArg}, {over(7, 1, 8), api.ErrArg}, {over(7, 7, 0), api.ErrArg},
		{api.Curve{P: api.Nat{7, 0}, B: api.Nat{1}}, api.ErrArg}, {api.Curve{P: oneAt(api.MaxField), B: api.Nat{1}}, api.ErrArg}, {api.Curve{P: more(oneAt(api.MaxField), 1), B: api.Nat{1}}, api.ErrArg},
		{over(7, 0, 0), api.ErrCurve}, {over(7, 4, 2), api.ErrCurve}, {over(9, 3, 1), api.ErrCurve}, {over(25, 5, 10), api.ErrCurve},
	} {
		wantErr(t, May(c.c), c.want, "P16.1: May", c.c)
		for _, p := range points {
			if On(c.c, p) {
				t.Errorf("P16.2: On of %v, %v: true", c.c, p)
			}
			got, e := Neg(c.c, p)
			wantPoint(t, got, e, api.Point{}, c.want, "P16.2: Neg", c.c, p)
			for _, q := range points {
				got, e = Add(c.c, p, q)
				wantPoint(t, got, e, api.Point{}, c.want, "P16.3: Add", c.c, p, q)
			}
			for _, k := range []api.Nat{nil, {1}, {0}, {2}, oneAt(api.MaxBits), {3, 0}} {
				got, e = Times(c.c, k, p)
				wantPoint(t, got, e, api.Point{}, c.want, "P16.4: Times", c.c, k, p)
			}
		}
	}
}

// TestAnyWords has words of all kinds in all places: nothing panics, and all that is answered is what the chapter says.
func TestAnyWords(t *testing.T) {
	t.Parallel()
	kinds := []api.Nat{nil, {0}, {1}, {5}, {7}, {9}, {1, 0}, {all}, {all, all, all, all}, append(make(api.Nat, 4), 1), append(make(api.Nat, 300), 7), make(api.Nat, 300)}
	for i, p := range kinds {
		for k, a := range kinds {
			for m, b := range kinds {
				c := api.Curve{P: p, A: a, B: b}
				wantMay(t, c)
				one := api.Point{X: kinds[(i+k)%len(kinds)], Y: kinds[(i+m)%len(kinds)], Far: m%3 == 0}
				two := api.Point{X: kinds[(k+m)%len(kinds)], Y: kinds[(2*i+m)%len(kinds)]}
				wantNeg(t, c, one)
				wantNeg(t, c, two)
				wantAdd(t, c, one, two)
				wantTimes(t, c, kinds[(i+2*k+m)%len(kinds)], two)
			}
		}
	}
}

// known are curves that are in use, with a point, and how many of it are O.
func known() (curves []api.Curve, points []api.Point, counts []api.Nat) {
	add := func(p, a, b, x, y, n string) {
		curves = append(curves, api.Curve{P: hex(p), A: hex(a), B: hex(b)})
		points, counts = append(points, api.Point{X: hex(x), Y: hex(y)}), append(counts, hex(n))
	}
	// secp256k1, secp112r1, secp128r1, brainpoolP160r1
	add("fffffffffffffffffffffffffffffffffffffffffffffffffffffffefffffc2f", "0", "7",
		"79be667ef9dcbbac55a06295ce870b07029bfcdb2dce28d959f2815b16f81798", "483ada7726a3c4655da4fbfc0e1108a8fd17b448a68554199c47d08ffb10d4b8",
		"fffffffffffffffffffffffffffffffebaaedce6af48a03bbfd25e8cd0364141")
	add("db7c2abf62e35e668076bead208b", "db7c2abf62e35e668076bead2088", "659ef8ba043916eede8911702b22", "09487239995a5ee76b55f9c2f098", "a89ce5af8724c0a23e0e0ff77500", "db7c2abf62e35e7628dfac6561c5")
	add("fffffffdffffffffffffffffffffffff", "fffffffdfffffffffffffffffffffffc", "e87579c11079f43dd824993c2cee5ed3", "161ff7528b899b2d0c28607ca52c5b86", "cf5ac8395bafeb13c02da292dded7a83", "fffffffe0000000075a30d1b9038a115")
	add("e95e4a5f737059dc60dfc7ad95b3d8139515620f", "340e7be2a280eb74e2be61bada745d97e8f7c300", "1e589a8595423412134faa2dbdec95c8d8675e58", "bed5af16ea3f6a4f62938c4631eb5af7bdbcdbc3", "1667cb477a1a8ec338f94741669c976316da6321", "e95e4a5f737059dc60df5991d45029409e60fc09")
	for _, c := range []elliptic.Curve{elliptic.P224(), elliptic.P256()} {
		n := c.Params()
		curves = append(curves, api.Curve{P: wordsOf(n.P), A: wordsOf(new(big.Int).Sub(n.P, big.NewInt(3))), B: wordsOf(n.B)})
		points, counts = append(points, api.Point{X: wordsOf(n.Gx), Y: wordsOf(n.Gy)}), append(counts, wordsOf(n.N))
	}
	return curves, points, counts
}

func TestKnownCounts(t *testing.T) {
	curves, points, counts := known()
	for i, c := range curves {
		p, n := points[i], counts[i]
		if !numberOf(c.P).ProbablyPrime(20) || !numberOf(n).ProbablyPrime(20) {
			t.Fatalf("%v, or %v, is no prime", c.P, n)
		}
		neg, e := Neg(c, p)
		wantErr(t, e, api.OK, "P16.2: Neg", c, p)
		double, e := Add(c, p, p)
		wantErr(t, e, api.OK, "P16.3: Add", c, p)
		last := nat.Shl(n, api.MaxBits-nat.Bits(n)) // so many bits as may be
		for _, k := range []struct {
			k    api.Nat
			want api.Point
		}{
			{nil, api.Point{Far: true}}, {api.Nat{1}, p}, {api.Nat{2}, double}, {n, api.Point{Far: true}}, {less(n, 1), neg}, {more(n, 1), p}, {more(n, 2), double},
			{nat.Shl(n, 1), api.Point{Far: true}}, {more(nat.Shl(n, 1), 1), p}, {last, api.Point{Far: true}}, {more(last, 1), p}, {less(last, 1), neg},
		} {
			got, e := Times(c, k.k, p)
			wantPoint(t, got, e, k.want, api.OK, "P16.4: Times", c, k.k, p)
		}
	}
}

// TestLibrary holds sums against the library's.
func TestLibrary(t *testing.T) {
	t.Parallel()
	curves, points, _ := known()
	for i, lib := range []elliptic.Curve{elliptic.P224(), elliptic.P256()} {
		c, p := curves[4+i], points[4+i]
		next := row(lib.Params().P, 6)
		x, y := lib.Params().Gx, lib.Params().Gy
		for range 20 {
			k := next()
			wantX, wantY := lib.ScalarMult(x, y, k.Bytes())
			got, e := Times(c, wordsOf(k), p)
			wantPoint(t, got, e, dot{wantX, wantY}.point(), api.OK, "P16.4: Times", c, k, p)
			sumX, sumY := lib.Add(wantX, wantY, x, y)
			sum, e := Add(c, got, p)
			wantPoint(t, sum, e, dot{sumX, sumY}.point(), api.OK, "P16.3: Add", c, got, p)
			x, y, p = wantX, wantY, got
		}
	}
}

// TestAsManyAsNumbers has curves of which all know how many points they have: P and one, where P leaves 2 by 3 and A is 0, or 3 by 4 and B is 0.
func TestAsManyAsNumbers(t *testing.T) {
	t.Parallel()
	for _, p := range primes() {
		whole := numberOf(p)
		next, n := row(whole, 4), more(p, 1)
		for range 4 {
			d := dot{next(), next()}
			var asked []plane
			if new(big.Int).Mod(whole, big.NewInt(3)).Int64() == 2 {
				asked = append(asked, through(whole, new(big.Int), d))
			}
			if inverse := new(big.Int).ModInverse(d.x, whole); p[0]%4 == 3 && inverse != nil { // A is y^2 less x^3, by x
				c := plane{whole, new(big.Int), new(big.Int)}
				c.a = c.minus(c.times(c.times(d.y, d.y), inverse), c.times(d.x, d.x))
				asked = append(asked, c)
			}
			for _, c := range asked {
				if !c.smooth() {
					continue
				}
				got, e := Times(c.curve(), n, d.point())
				wantPoint(t, got, e, api.Point{Far: true}, api.OK, "P16.4: Times", c.curve(), n, d.point())
				got, e = Times(c.curve(), p, d.point())
				wantPoint(t, got, e, c.neg(d).point(), api.OK, "P16.4: Times", c.curve(), p, d.point())
				got, e = Times(c.curve(), more(n, 1), d.point())
				wantPoint(t, got, e, d.point(), api.OK, "P16.4: Times", c.curve(), more(n, 1), d.point())
			}
		}
	}
}

// TestLaws has sums in any order and brackets, by primes of all lengths.
func TestLaws(t *testing.T) {
	t.Parallel()
	for _, p := range primes() {
		curves, dots := samples(p)
		for i, in := range curves {
			if i%6 != 0 {
				continue
			}
			c, p := in.curve(), dots[i].point()
			next := row(in.p, uint64(i))
			j, k := wordsOf(next()), wordsOf(next())
			q, r := counted(t, c, j, p), counted(t, c, k, p)
			neg, _ := Neg(c, q)
			back, _ := Neg(c, neg)
			both := nat.Add(j, k)
			for _, l := range []struct {
				name     string
				one, two api.Point
			}{
				{"any order", added(t, c, p, q), added(t, c, q, p)},
				{"brackets", added(t, c, added(t, c, p, q), r), added(t, c, p, added(t, c, q, r))},
				{"brackets of the same", added(t, c, added(t, c, q, q), r), added(t, c, q, added(t, c, q, r))},
				{"brackets with what comes to O", added(t, c, added(t, c, r, q), neg), r},
				{"and O", added(t, c, q, api.Point{Far: true}), q},
				{"a point and its negative", added(t, c, q, neg), api.Point{Far: true}},
				{"the negative's negative", back, q},
				{"a sum of counts", counted(t, c, both, p), added(t, c, q, r)},
				{"a count of a sum", counted(t, c, j, added(t, c, p, r)), added(t, c, q, counted(t, c, j, r))},
				{"a count of a count", counted(t, c, j, r), counted(t, c, k, q)},
				{"a count of the negative", counted(t, c, k, neg), counted(t, c, j, counted(t, c, k, must(Neg(c, p))))},
				{"twice", counted(t, c, api.Nat{2}, q), added(t, c, q, q)},
			} {
				if !same(l.one, l.two) {
					t.Errorf("P16.5: %s, of %v, %v, %v, %v: %v, not %v", l.name, c, p, j, k, l.one, l.two)
				}
			}
		}
	}
}

func must(p api.Point, _ api.Errno) api.Point { return p }

// handed is what a call may be asked with.
type handed struct {
	c    api.Curve
	k    api.Nat
	p, q api.Point
}

// numbers are all that a handed has.
func (h *handed) numbers() []*api.Nat {
	return []*api.Nat{&h.c.P, &h.c.A, &h.c.B, &h.k, &h.p.X, &h.p.Y, &h.q.X, &h.q.Y}
}

// roomy is a handed in memory of its own, with words behind the end of each number.
func (h handed) roomy() handed {
	for _, x := range h.numbers() {
		*x = append(slices.Clone(*x), 11, 12, 13, 14, 15)[:len(*x)]
	}
	return h
}

// words are all of a handed's numbers, up to the end of their room.
func (h handed) words() (out []api.Nat) {
	for _, x := range h.numbers() {
		out = append(out, slices.Clone((*x)[:cap(*x)]))
	}
	return out
}

// asked are some of which answers might be what was handed in.
func asked() (out []handed) {
	far := api.Point{Far: true}
	for _, p := range []api.Nat{{7}, {13}, {15}, {1<<63 - 25}, {13, 1}, {all - 188, all, all, all}, {all, all, all, all}} {
		curves, dots := samples(p)
		for i, c := range curves {
			d := dots[i].point()
			points := []api.Point{far, {Far: true, X: api.Nat{}, Y: api.Nat{}}, d, must(Neg(c.curve(), d)), must(Add(c.curve(), d, d)), {X: p, Y: p}}
			for k, q := range points {
				out = append(out, handed{c.curve(), nat.Of(uint64(k)), d, q}, handed{c.curve(), nat.Of(uint64(5 * k)), q, d})
			}
			out = append(out, handed{c.curve(), loose(p, 2), far, far}, handed{c.curve(), p, far, far}, handed{c.curve(), api.Nat{1}, d, d})
		}
		out = append(out, handed{api.Curve{P: p}, p, far, far}, handed{api.Curve{P: p, A: p, B: loose(p, 1)}, nil, far, far}, handed{api.Curve{P: loose(p, 1), B: api.Nat{1}}, nil, far, far})
	}
	return out
}

// answers are those of all calls.
func (h handed) answers() []api.Point {
	May(h.c)
	On(h.c, h.p)
	On(h.c, h.q)
	return []api.Point{
		must(Neg(h.c, h.p)), must(Neg(h.c, h.q)), must(Add(h.c, h.p, h.q)), must(Add(h.c, h.q, h.p)), must(Add(h.c, h.p, h.p)), must(Add(h.c, h.q, h.q)),
		must(Times(h.c, h.k, h.p)), must(Times(h.c, h.k, h.q)), must(Times(h.c, nil, h.p)), must(Times(h.c, api.Nat{1}, h.p)), must(Times(h.c, api.Nat{1}, h.q)),
	}
}

// sameLists tells whether two lists of numbers have the same words.
func sameLists(a, b []api.Nat) bool {
	return slices.EqualFunc(a, b, func(x, y api.Nat) bool { return slices.Equal(x, y) })
}

func TestGivenStays(t *testing.T) {
	for _, h := range asked() {
		in := h.roomy()
		before := in.words()
		in.answers()
		if got := in.words(); !sameLists(got, before) {
			t.Errorf("R3: %v: what was handed in became %v", before, got)
		}
	}
}

// spoil changes all words of a number, those behind its end too.
func spoil(a api.Nat) {
	a = a[:cap(a)]
	for i := range a {
		a[i] = ^a[i]
	}
}

// TestAnsweredIsNew changes each number of each answer, and looks at what was handed in and at all other numbers.
func TestAnsweredIsNew(t *testing.T) {
	for _, h := range asked() {
		in := h.roomy()
		before := in.words()
		points := in.answers()
		var numbers []api.Nat
		for _, p := range points {
			numbers = append(numbers, p.X, p.Y)
		}
		var want []api.Nat
		for _, x := range numbers {
			want = append(want, slices.Clone(x))
		}
		for i, x := range numbers {
			spoil(x)
			want[i] = slices.Clone(x)
			if !sameLists(numbers, want) {
				t.Fatalf("R3: %v: number %d of the answers has memory of another one", before, i)
			}
		}
		if got := in.words(); !sameLists(got, before) {
			t.Fatalf("R3: %v: an answer has memory of what was handed in, that became %v", before, got)
		}
	}
}

// TestNothingKept spoils what was handed in, and asks again.
func TestNothingKept(t *testing.T) {
	for _, h := range asked() {
		want := h.answers()
		in := h.roomy()
		got := in.answers()
		for _, x := range in.numbers() {
			spoil(*x)
		}
		if !slices.EqualFunc(got, want, same) {
			t.Errorf("R3: %v: answers became %v, not %v", h, got, want)
		}
		if again := h.answers(); !slices.EqualFunc(again, want, same) {
			t.Errorf("R5: %v: %v, not %v", h, again, want)
		}
	}
}

// TestSharedMemory hands in numbers that share memory with each other.
func TestSharedMemory(t *testing.T) {
	for _, p := range primes() {
		x := less(p, 2)
		c := api.Curve{P: p, A: x, B: x}
		point := api.Point{X: x, Y: x}
		wantMay(t, c)
		wantNeg(t, c, point)
		wantAdd(t, c, point, point)
		wantTimes(t, c, x, point)
		in := through(numberOf(p), numberOf(x), dot{numberOf(x), numberOf(x)}).curve()
		in.A = x
		wantNeg(t, in, point)
		wantAdd(t, in, point, point)
		wantTimes(t, in, x, point)
	}
}

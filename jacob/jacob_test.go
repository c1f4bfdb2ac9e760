package jacob

import (
	"crypto/elliptic"
	"math"
	"math/big"
	"slices"
	"testing"

	"caltrop/api"
	"caltrop/curve"
	"caltrop/nat"
)

const (
	all = math.MaxUint64 // a word whose bits are all 1
	top = 1 << 63        // a word whose highest bit alone is 1
)

// less is a without so many; there are as many.
func less(a api.Nat, count uint64) api.Nat {
	out, _ := nat.Sub(a, nat.Of(count))
	return out
}

// more is a and so many.
func more(a api.Nat, count uint64) api.Nat { return nat.Add(a, nat.Of(count)) }

// loose is a's number in words that may not be, unless noughts is 0.
func loose(a api.Nat, noughts int) api.Nat {
	return append(slices.Clone(a), make(api.Nat, noughts)...)
}

// oneAt is 2^place.
func oneAt(place int) api.Nat {
	a := make(api.Nat, place/64+1)
	a[place/64] = 1 << (place % 64)
	return a
}

// row makes numbers below p without any order to be seen in them; another seed makes another row.
func row(p *big.Int, seed uint64) func() *big.Int {
	return func() *big.Int {
		out := new(big.Int)
		for range 5 {
			seed = seed*6364136223846793005 + 1442695040888963407
			out.Lsh(out, 64)
			out.Add(out, new(big.Int).SetUint64(seed^seed>>29))
		}
		return out.Mod(out, p)
	}
}

// numberOf is the number of words by the words of chapter 2 alone, in numbers of the library.
func numberOf(a api.Nat) *big.Int {
	b := make([]byte, 0, 8*len(a))
	for _, x := range slices.Backward(a) {
		for shift := 56; shift >= 0; shift -= 8 {
			b = append(b, byte(x>>shift))
		}
	}
	return new(big.Int).SetBytes(b)
}

// wordsOf is a number of the library's in words that may be.
func wordsOf(x *big.Int) api.Nat { return nat.FromBytes(x.Bytes()) }

// hex is a number that is written to the base 16.
func hex(text string) api.Nat {
	x, _ := new(big.Int).SetString(text, 16)
	return wordsOf(x)
}

// primes are primes of 3 bits to MaxField, at the ends of words among them.
func primes() []api.Nat {
	return []api.Nat{
		{5}, {7}, {11}, {13}, {97}, {65537}, {1<<31 - 1}, {1<<32 - 5}, {1<<32 + 15}, {1<<61 - 1}, {1<<63 - 25}, {all - 58},
		{13, 1}, {all, 1<<63 - 1}, {all - 158, all}, {51, 0, 1}, {all, all - 1, all}, {133, 0, 0, 1},
		{all - 188, all, all, all}, {all, 1<<32 - 1, 0, 0xffffffff00000001},
	}
}

// divided is an odd number that is no prime, and a prime that goes into it.
type divided struct {
	p       api.Nat
	divisor uint64
}

// others are odd numbers that are no primes, of 4 bits to MaxField; all of their bits are 1 in many of them.
func others() []divided {
	return []divided{
		{api.Nat{9}, 3}, {api.Nat{15}, 5}, {api.Nat{25}, 5}, {api.Nat{27}, 3}, {api.Nat{105}, 7}, {api.Nat{1<<31 + 1}, 3}, {api.Nat{2147483637}, 3}, {api.Nat{1<<32 - 1}, 17},
		{api.Nat{1<<63 - 1}, 7}, {api.Nat{top + 1}, 19}, {api.Nat{all}, 5}, {api.Nat{all, 1}, 31}, {api.Nat{1, 2}, 3},
		{api.Nat{all, all}, 17}, {api.Nat{all, all, 1}, 7}, {api.Nat{all, all, all}, 5}, {api.Nat{all, all, all, all}, 257},
	}
}

// moduli are those that all calls are asked with.
func moduli() []api.Nat {
	out := primes()
	for _, o := range others() {
		out = append(out, o.p)
	}
	return out
}

// plane tells what becomes of points, and what stands for them, by the chapters' words, in numbers of the library.
type plane struct{ p, a, b *big.Int }

// dot is a point; it is O, if it has no x.
type dot struct{ x, y *big.Int }

// trio is a Proj.
type trio struct{ x, y, z *big.Int }

// fits tells whether words may be.
func fits(a api.Nat) bool { return len(a) == 0 || a[len(a)-1] != 0 }

// below tells whether words may be, and are a number below p.
func below(a api.Nat, p *big.Int) bool { return fits(a) && numberOf(a).Cmp(p) < 0 }

// planeOf is the curve that may be, or P16.1's error.
func planeOf(c api.Curve) (plane, api.Errno) {
	p := numberOf(c.P)
	if !fits(c.P) || p.Bit(0) == 0 || p.Cmp(big.NewInt(5)) < 0 || p.BitLen() > api.MaxField || !below(c.A, p) || !below(c.B, p) {
		return plane{}, api.ErrArg
	}
	out := plane{p, numberOf(c.A), numberOf(c.B)}
	sum := new(big.Int).Exp(out.a, big.NewInt(3), nil)
	sum.Mul(sum, big.NewInt(4))
	square := new(big.Int).Mul(out.b, out.b)
	sum.Add(sum, square.Mul(square, big.NewInt(27)))
	if sum.Mod(sum, p).Sign() == 0 {
		return plane{}, api.ErrCurve
	}
	return out, api.OK
}

// curve is the plane in words.
func (c plane) curve() api.Curve { return api.Curve{P: wordsOf(c.p), A: wordsOf(c.a), B: wordsOf(c.b)} }

// smooth tells whether a curve may be.
func (c plane) smooth() bool {
	_, e := planeOf(c.curve())
	return e == api.OK
}

// mod takes a number for what it leaves.
func (c plane) mod(a *big.Int) *big.Int { return a.Mod(a, c.p) }

// times is the product of all.
func (c plane) times(factors ...*big.Int) *big.Int {
	out := big.NewInt(1)
	for _, a := range factors {
		out = c.mod(out.Mul(out, a))
	}
	return out
}

func (c plane) plus(a, b *big.Int) *big.Int { return c.mod(new(big.Int).Add(a, b)) }

func (c plane) minus(a, b *big.Int) *big.Int { return c.mod(new(big.Int).Sub(a, b)) }

// has tells whether a point is on the curve, by P16.2.
func (c plane) has(p api.Point) (dot, bool) {
	if p.Far {
		return dot{}, len(p.X) == 0 && len(p.Y) == 0
	}
	s, is := c.trioOf(Proj{p.X, p.Y, api.Nat{1}})
	if !is {
		return dot{}, false
	}
	return dot{s.x, s.y}, true
}

// trioOf tells whether a Proj may be, by the chapter's words.
func (c plane) trioOf(j Proj) (trio, bool) {
	if !below(j.X, c.p) || !below(j.Y, c.p) || !below(j.Z, c.p) {
		return trio{}, false
	}
	s := trio{numberOf(j.X), numberOf(j.Y), numberOf(j.Z)}
	z2 := c.times(s.z, s.z)
	z4 := c.times(z2, z2)
	right := c.plus(c.plus(c.times(s.x, s.x, s.x), c.times(c.a, s.x, z4)), c.times(c.b, z4, z2))
	return s, c.times(s.y, s.y).Cmp(right) == 0
}

// stands tells for which point; there is none, if Z is not 0 and has no inverse.
func (c plane) stands(s trio) (dot, bool) {
	if s.z.Sign() == 0 {
		return dot{}, true
	}
	inverse := new(big.Int).ModInverse(s.z, c.p)
	if inverse == nil {
		return dot{}, false
	}
	return dot{c.times(s.x, inverse, inverse), c.times(s.y, inverse, inverse, inverse)}, true
}

// proj stands for a point, by that Z; for O it is z^2, z^3, 0.
func (c plane) proj(d dot, z *big.Int) Proj {
	if d.x == nil {
		return Proj{X: wordsOf(c.times(z, z)), Y: wordsOf(c.times(z, z, z))}
	}
	return Proj{wordsOf(c.times(d.x, z, z)), wordsOf(c.times(d.y, z, z, z)), wordsOf(z)}
}

func (c plane) neg(p dot) dot {
	if p.x == nil {
		return dot{}
	}
	return dot{p.x, c.minus(new(big.Int), p.y)}
}

// add is P16.3, with a division.
func (c plane) add(p, q dot) (dot, bool) {
	switch {
	case p.x == nil:
		return q, true
	case q.x == nil:
		return p, true
	case q.is(c.neg(p)):
		return dot{}, true
	}
	rise, run := c.minus(q.y, p.y), c.minus(q.x, p.x)
	if p.is(q) {
		rise, run = c.plus(c.times(big.NewInt(3), p.x, p.x), c.a), c.plus(p.y, p.y)
	}
	inverse := new(big.Int).ModInverse(run, c.p)
	if inverse == nil {
		return dot{}, false
	}
	m := c.times(rise, inverse)
	x := c.minus(c.minus(c.times(m, m), p.x), q.x)
	return dot{x, c.minus(c.times(m, c.minus(p.x, x)), p.y)}, true
}

func (p dot) is(q dot) bool {
	if p.x == nil || q.x == nil {
		return p.x == nil && q.x == nil
	}
	return p.x.Cmp(q.x) == 0 && p.y.Cmp(q.y) == 0
}

// point is a dot in words.
func (p dot) point() api.Point {
	if p.x == nil {
		return api.Point{Far: true}
	}
	return api.Point{X: wordsOf(p.x), Y: wordsOf(p.y)}
}

// through is the curve of that A on which that point is.
func through(p, a *big.Int, d dot) plane {
	c := plane{p, a, new(big.Int)}
	c.b = c.minus(c.minus(c.times(d.y, d.y), c.times(d.x, d.x, d.x)), c.times(a, d.x))
	return c
}

// samples are curves modulo p, each with a point that is on it; x or y is 0 in some.
func samples(p api.Nat) (curves []plane, dots []dot) {
	whole := numberOf(p)
	next := row(whole, p[0])
	zero, last := new(big.Int), new(big.Int).Sub(whole, big.NewInt(1))
	for _, d := range []dot{{next(), next()}, {zero, next()}, {next(), zero}, {zero, zero}, {last, last}, {last, next()}} {
		for _, a := range []*big.Int{next(), zero, last, new(big.Int).Sub(whole, big.NewInt(3))} {
			if c := through(whole, a, d); c.smooth() {
				curves, dots = append(curves, c), append(dots, d)
			}
		}
	}
	return curves, dots
}

// at is a point of two words.
func at(x, y uint64) api.Point { return api.Point{X: nat.Of(x), Y: nat.Of(y)} }

// of is a Proj of three words.
func of(x, y, z uint64) Proj { return Proj{nat.Of(x), nat.Of(y), nat.Of(z)} }

// over is a curve of three words.
func over(p, a, b uint64) api.Curve { return api.Curve{P: nat.Of(p), A: nat.Of(a), B: nat.Of(b)} }

// sameProj tells whether two Proj have the same words.
func sameProj(j, k Proj) bool {
	return slices.Equal(j.X, k.X) && slices.Equal(j.Y, k.Y) && slices.Equal(j.Z, k.Z)
}

// same tells whether two points are the same, in the same words.
func same(p, q api.Point) bool {
	return p.Far == q.Far && slices.Equal(p.X, q.X) && slices.Equal(p.Y, q.Y)
}

// wantErr says what is wrong with an error.
func wantErr(t *testing.T, got, want api.Errno, call string, args ...any) {
	t.Helper()
	if got != want {
		t.Errorf("%s of %v: error %d, not %d", call, args, got, want)
	}
}

// wantPoint says what is wrong with an answer, if it is not that point, in these words, or has another error.
func wantPoint(t *testing.T, got api.Point, e api.Errno, want api.Point, wantE api.Errno, call string, args ...any) {
	t.Helper()
	wantErr(t, e, wantE, call, args...)
	if !same(got, want) {
		t.Errorf("%s of %v: %v, not %v", call, args, got, want)
	}
}

// wantProj says what is wrong with an answer, if it is not that Proj, in these words, or has another error.
func wantProj(t *testing.T, got Proj, e api.Errno, want Proj, wantE api.Errno, call string, args ...any) {
	t.Helper()
	wantErr(t, e, wantE, call, args...)
	if !sameProj(got, want) {
		t.Errorf("%s of %v: %v, not %v", call, args, got, want)
	}
}

// asker asks a group, and knows what its answers should be.
type asker struct {
	*testing.T
	plane
	g       *Group
	isPrime bool
}

// groupOf is the group of a curve that may be.
func groupOf(t *testing.T, c api.Curve) *Group {
	t.Helper()
	g, e := New(c)
	if e != api.OK || g == nil {
		t.Fatalf("P17.1: New of %v: %v, error %d", c, g, e)
	}
	return g
}

// askerOf is that of a curve that may be.
func askerOf(t *testing.T, c plane) asker {
	t.Helper()
	return asker{t, c, groupOf(t, c.curve()), c.p.ProbablyPrime(1)}
}

// wantNew asks New.
func wantNew(t *testing.T, c api.Curve) {
	t.Helper()
	_, want := planeOf(c)
	g, e := New(c)
	wantErr(t, e, want, "P17.1: New", c)
	if (g != nil) != (want == api.OK) {
		t.Errorf("P17.1: New of %v: %v, error %d", c, g, e)
	}
	if may := curve.May(c); may != e {
		t.Errorf("P17.1: New of %v: error %d, May says %d", c, e, may)
	}
}

// in asks In, and Out for what it told.
func (w asker) in(p api.Point) {
	w.Helper()
	d, is := w.has(p)
	want, e := Proj{}, api.ErrPoint
	if is {
		want, e = w.proj(d, big.NewInt(1)), api.OK
	}
	got, gotE := w.g.In(p)
	wantProj(w.T, got, gotE, want, e, "P17.1: In", w.curve(), p)
	if is {
		back, backE := w.g.Out(got)
		wantPoint(w.T, back, backE, p, api.OK, "P17.1: Out of In", w.curve(), p)
	}
}

// out asks Out.
func (w asker) out(j Proj) {
	w.Helper()
	want, e := api.Point{}, api.ErrPoint
	if s, is := w.trioOf(j); is {
		e = api.ErrInv
		if d, is := w.stands(s); is {
			want, e = d.point(), api.OK
		}
	}
	got, gotE := w.g.Out(j)
	wantPoint(w.T, got, gotE, want, e, "P17.1: Out", w.curve(), j)
}

// twice asks Twice.
func (w asker) twice(j Proj) {
	w.Helper()
	s, is := w.trioOf(j)
	got, e := w.g.Twice(j)
	again, againE := w.g.Twice(j)
	wantProj(w.T, again, againE, got, e, "R5: Twice again", w.curve(), j)
	if !is {
		wantProj(w.T, got, e, Proj{}, api.ErrPoint, "P17.2: Twice", w.curve(), j)
		return
	}
	w.sum(got, e, s, s, "P17.2: Twice")
}

// plus asks Plus, both ways round.
func (w asker) plus(j, k Proj) {
	w.Helper()
	s, is := w.trioOf(j)
	u, isToo := w.trioOf(k)
	for range 2 {
		got, e := w.g.Plus(j, k)
		again, againE := w.g.Plus(j, k)
		wantProj(w.T, again, againE, got, e, "R5: Plus again", w.curve(), j, k)
		if !is || !isToo {
			wantProj(w.T, got, e, Proj{}, api.ErrPoint, "P17.2: Plus", w.curve(), j, k)
		} else {
			w.sum(got, e, s, u, "P17.2: Plus")
		}
		j, k, s, u = k, j, u, s
	}
}

// sum looks at a sum of two that may be: it may be, and stands for the sum, if P is a prime.
func (w asker) sum(got Proj, e api.Errno, s, u trio, call string) {
	w.Helper()
	wantErr(w.T, e, api.OK, call, w.curve(), s, u)
	told, may := w.trioOf(got)
	if !may {
		w.Errorf("%s of %v, %v, %v: %v, which may not be", call, w.curve(), s, u, got)
	}
	if !w.isPrime || !may {
		return
	}
	one, _ := w.stands(s)
	two, _ := w.stands(u)
	want, _ := w.add(one, two)
	if d, _ := w.stands(told); !d.is(want) {
		w.Errorf("%s of %v, %v, %v: %v, which stands for %v, not %v", call, w.curve(), s, u, got, d, want)
	}
	p, outE := w.g.Out(got)
	wantPoint(w.T, p, outE, want.point(), api.OK, "P17.1: Out of a sum", w.curve(), got)
}

// count asks Times: the same as curve.Times, or ErrInv where P is no prime.
func (w asker) count(n api.Nat, p api.Point) {
	w.Helper()
	d, is := w.has(p)
	got, e := w.g.Times(n, p)
	again, againE := w.g.Times(n, p)
	wantPoint(w.T, again, againE, got, e, "R5: Times again", w.curve(), n, p)
	want, wantE := curve.Times(w.curve(), n, p)
	switch {
	case !is:
		wantPoint(w.T, got, e, api.Point{}, api.ErrPoint, "P17.2: Times", w.curve(), n, p)
	case !fits(n) || numberOf(n).BitLen() > api.MaxBits:
		wantPoint(w.T, got, e, api.Point{}, api.ErrArg, "P17.2: Times", w.curve(), n, p)
	case w.isPrime:
		wantPoint(w.T, got, e, want, api.OK, "P17.2: Times, and curve.Times", w.curve(), n, p)
		wantPoint(w.T, got, e, w.many(numberOf(n), d).point(), api.OK, "P17.2: Times, and sums one by one", w.curve(), n, p)
	case e == api.ErrInv:
		wantPoint(w.T, got, e, api.Point{}, api.ErrInv, "P17.2: Times of no prime", w.curve(), n, p)
	default:
		wantPoint(w.T, got, e, want, wantE, "P17.2: Times of no prime, and curve.Times", w.curve(), n, p)
	}
}

// many is the sum of k of p, if P is a prime, made from the lowest bit on, with a division at each.
func (c plane) many(k *big.Int, p dot) (out dot) {
	for i := range k.BitLen() {
		if k.Bit(i) == 1 {
			out, _ = c.add(out, p)
		}
		p, _ = c.add(p, p)
	}
	return out
}

func TestSamples(t *testing.T) {
	sizes := map[int]bool{}
	for _, p := range primes() {
		if sizes[nat.Bits(p)] = true; !numberOf(p).ProbablyPrime(20) {
			t.Errorf("%v is no prime", p)
		}
	}
	for _, size := range []int{3, 31, 63, 64, 65, 128, 129, api.MaxField} {
		if !sizes[size] {
			t.Errorf("no prime of %d bits", size)
		}
	}
	for _, o := range others() {
		divisor := new(big.Int).SetUint64(o.divisor)
		rest := new(big.Int).Mod(numberOf(o.p), divisor)
		if sizes[-nat.Bits(o.p)] = true; !divisor.ProbablyPrime(20) || numberOf(o.p).Cmp(divisor) <= 0 || rest.Sign() != 0 {
			t.Errorf("%d is no prime that goes into %v", o.divisor, o.p)
		}
	}
	for _, size := range []int{4, 31, 63, 64, 65, 128, 129, api.MaxField} {
		if !sizes[-size] {
			t.Errorf("no number of %d bits that is no prime", size)
		}
	}
	for _, p := range moduli() {
		if curves, _ := samples(p); len(curves) < 8 {
			t.Errorf("%d samples alone by %v", len(curves), p)
		}
	}
}

func TestExamples(t *testing.T) {
	c := over(5, 1, 1)
	g := groupOf(t, c)
	double, e := g.Twice(of(0, 1, 1))
	wantErr(t, e, api.OK, "P17.2: Twice of (0, 1, 1)")
	got, e := g.Out(double)
	wantPoint(t, got, e, at(4, 2), api.OK, "P17.2: Twice of (0, 1, 1)")
	got, e = g.Times(nat.Of(9), at(0, 1))
	wantPoint(t, got, e, api.Point{Far: true}, api.OK, "P17.2: Times 9 of (0, 1)")
	none, e := New(over(7, 0, 0))
	if wantErr(t, e, api.ErrCurve, "P17.1: New of P 7, A 0, B 0"); none != nil {
		t.Errorf("P17.1: New of P 7, A 0, B 0: a group, %v", none)
	}
}

// TestByHand has answers that were not made by this file's other way.
func TestByHand(t *testing.T) {
	g := groupOf(t, over(5, 1, 1)) // (0, 1), (0, 4), (2, 1), (2, 4), (3, 1), (3, 4), (4, 2), (4, 3)
	far, none := api.Point{Far: true}, Proj{}
	one := nat.Of(1)
	for _, n := range []struct {
		p    api.Point
		want Proj
		e    api.Errno
	}{
		{far, of(1, 1, 0), api.OK}, {api.Point{Far: true, X: api.Nat{}, Y: api.Nat{}}, of(1, 1, 0), api.OK}, {at(0, 1), of(0, 1, 1), api.OK}, {api.Point{X: api.Nat{}, Y: one}, of(0, 1, 1), api.OK},
		{at(4, 3), of(4, 3, 1), api.OK}, {api.Point{}, none, api.ErrPoint}, {at(1, 1), none, api.ErrPoint}, {at(0, 2), none, api.ErrPoint},
		{api.Point{Far: true, Y: one}, none, api.ErrPoint}, {api.Point{Far: true, X: nat.Of(2), Y: one}, none, api.ErrPoint}, {api.Point{Far: true, X: one, Y: one}, none, api.ErrPoint},
		{api.Point{Far: true, X: one}, none, api.ErrPoint}, {api.Point{Far: true, X: api.Nat{0}}, none, api.ErrPoint}, {api.Point{Far: true, Y: api.Nat{0}}, none, api.ErrPoint},
		{at(5, 1), none, api.ErrPoint}, {at(0, 6), none, api.ErrPoint}, {at(7, 1), none, api.ErrPoint}, {at(5, 6), none, api.ErrPoint},
		{api.Point{X: api.Nat{0}, Y: one}, none, api.ErrPoint}, {api.Point{Y: api.Nat{1, 0}}, none, api.ErrPoint}, {api.Point{X: api.Nat{2, 1}, Y: one}, none, api.ErrPoint},
	} {
		got, e := g.In(n.p)
		wantProj(t, got, e, n.want, n.e, "P17.1: In", n.p)
		p, e := g.Times(api.Nat{0}, n.p)
		if want := n.e; want == api.ErrPoint {
			wantPoint(t, p, e, api.Point{}, want, "P17.2: Times, ErrPoint ahead of ErrArg", n.p)
		} else {
			wantPoint(t, p, e, api.Point{}, api.ErrArg, "P17.2: Times", n.p)
		}
	}
	for _, n := range []struct {
		j    Proj
		want api.Point
		e    api.Errno
	}{
		{none, far, api.OK}, {of(1, 1, 0), far, api.OK}, {of(1, 4, 0), far, api.OK}, {of(4, 3, 0), far, api.OK}, {of(4, 2, 0), far, api.OK}, {Proj{api.Nat{}, api.Nat{}, api.Nat{}}, far, api.OK},
		{of(0, 1, 1), at(0, 1), api.OK}, {of(0, 3, 2), at(0, 1), api.OK}, {of(0, 4, 4), at(0, 1), api.OK}, {of(1, 1, 2), at(4, 2), api.OK}, {of(1, 1, 3), at(4, 3), api.OK},
		{of(0, 1, 0), api.Point{}, api.ErrPoint}, {of(1, 0, 0), api.Point{}, api.ErrPoint}, {of(1, 2, 0), api.Point{}, api.ErrPoint}, {of(2, 1, 0), api.Point{}, api.ErrPoint}, {of(2, 4, 0), api.Point{}, api.ErrPoint},
		{of(0, 0, 1), api.Point{}, api.ErrPoint}, {of(1, 1, 1), api.Point{}, api.ErrPoint}, {of(0, 1, 2), api.Point{}, api.ErrPoint}, {of(4, 2, 2), api.Point{}, api.ErrPoint},
		{of(5, 1, 1), api.Point{}, api.ErrPoint}, {of(0, 6, 1), api.Point{}, api.ErrPoint}, {of(0, 1, 6), api.Point{}, api.ErrPoint}, {of(1, 1, 5), api.Point{}, api.ErrPoint}, {of(6, 1, 0), api.Point{}, api.ErrPoint}, {of(5, 5, 5), api.Point{}, api.ErrPoint},
		{Proj{api.Nat{0}, one, one}, api.Point{}, api.ErrPoint}, {Proj{nil, api.Nat{1, 0}, one}, api.Point{}, api.ErrPoint}, {Proj{nil, one, api.Nat{1, 0}}, api.Point{}, api.ErrPoint}, {Proj{one, one, api.Nat{0}}, api.Point{}, api.ErrPoint},
		{Proj{nil, one, api.Nat{1, 1}}, api.Point{}, api.ErrPoint}, {Proj{api.Nat{0, 1}, one, one}, api.Point{}, api.ErrPoint}, {Proj{api.Nat{0}, api.Nat{0}, api.Nat{0}}, api.Point{}, api.ErrPoint},
	} {
		got, e := g.Out(n.j)
		wantPoint(t, got, e, n.want, n.e, "P17.1: Out", n.j)
		for _, k := range []Proj{of(0, 3, 2), of(1, 1, 0), none, of(1, 1, 1)} {
			if n.e != api.OK {
				sum, e := g.Plus(n.j, k)
				wantProj(t, sum, e, none, n.e, "P17.2: Plus", n.j, k)
				sum, e = g.Plus(k, n.j)
				wantProj(t, sum, e, none, n.e, "P17.2: Plus", k, n.j)
				sum, e = g.Twice(n.j)
				wantProj(t, sum, e, none, n.e, "P17.2: Twice", n.j)
			}
		}
	}
	for _, n := range []struct {
		j, k Proj
		sum  api.Point
	}{
		{none, none, far}, {of(1, 1, 0), of(4, 3, 0), far}, {of(4, 2, 0), of(1, 1, 2), at(4, 2)}, {of(1, 1, 2), none, at(4, 2)}, {of(0, 1, 1), of(0, 1, 1), at(4, 2)}, {of(0, 1, 1), of(0, 3, 2), at(4, 2)},
		{of(0, 1, 1), of(0, 4, 1), far}, {of(0, 3, 2), of(0, 4, 1), far}, {of(0, 1, 1), of(4, 2, 1), at(2, 1)}, {of(0, 3, 2), of(1, 1, 2), at(2, 1)}, {of(4, 2, 1), of(1, 1, 2), at(3, 4)},
	} {
		sum, e := g.Plus(n.j, n.k)
		wantErr(t, e, api.OK, "P17.2: Plus", n.j, n.k)
		got, e := g.Out(sum)
		wantPoint(t, got, e, n.sum, api.OK, "P17.2: Plus", n.j, n.k)
	}
	for k, want := range []api.Point{far, at(0, 1), at(4, 2), at(2, 1), at(3, 4), at(3, 1), at(2, 4), at(4, 3), at(0, 4), far, at(0, 1)} {
		got, e := g.Times(nat.Of(uint64(k)), at(0, 1))
		wantPoint(t, got, e, want, api.OK, "P17.2: Times of (0, 1)", k)
	}
}

// TestNewByHand has what may not be, and what may.
func TestNewByHand(t *testing.T) {
	longest := api.Nat{all, all, all, all}
	for _, c := range []struct {
		c    api.Curve
		want api.Errno
	}{
		{api.Curve{}, api.ErrArg}, {over(3, 1, 1), api.ErrArg}, {over(4, 1, 1), api.ErrArg}, {over(1, 0, 0), api.ErrArg}, {over(all-1, 1, 1), api.ErrArg},
		{over(5, 1, 1), api.OK}, {over(9, 1, 8), api.OK}, {over(15, 5, 3), api.OK}, {over(5, 4, 0), api.OK}, {over(5, 0, 1), api.OK},
		{over(5, 0, 0), api.ErrCurve}, {over(7, 4, 2), api.ErrCurve}, {over(9, 3, 1), api.ErrCurve}, {over(35, 32, 2), api.ErrCurve},
		{over(5, 5, 1), api.ErrArg}, {over(5, 1, 5), api.ErrArg}, {over(5, 5, 0), api.ErrArg}, {over(7, 11, 2), api.ErrArg}, {over(5, all, all), api.ErrArg},
		{api.Curve{P: api.Nat{5, 0}, A: nat.Of(1), B: nat.Of(1)}, api.ErrArg}, {api.Curve{P: nat.Of(5), A: api.Nat{1, 0}, B: nat.Of(1)}, api.ErrArg}, {api.Curve{P: nat.Of(5), A: nat.Of(1), B: api.Nat{1, 0}}, api.ErrArg},
		{api.Curve{P: nat.Of(5), A: api.Nat{0}, B: nat.Of(1)}, api.ErrArg}, {api.Curve{P: nat.Of(5), A: nat.Of(1), B: api.Nat{0}}, api.ErrArg}, {api.Curve{P: nat.Of(5), B: api.Nat{1, 1}}, api.ErrArg},
		{api.Curve{P: longest, A: less(longest, 1), B: less(longest, 1)}, api.OK}, {api.Curve{P: longest}, api.ErrCurve}, {api.Curve{P: longest, A: longest, B: nat.Of(1)}, api.ErrArg},
		{api.Curve{P: more(oneAt(api.MaxField), 1), A: nat.Of(1), B: nat.Of(1)}, api.ErrArg}, {api.Curve{P: loose(longest, 1), A: nat.Of(1)}, api.ErrArg}, {api.Curve{P: append(make(api.Nat, 999), 1)}, api.ErrArg},
	} {
		g, e := New(c.c)
		if wantErr(t, e, c.want, "P17.1: New", c.c); (g != nil) != (c.want == api.OK) {
			t.Errorf("P17.1: New of %v: %v", c.c, g)
		}
		wantNew(t, c.c)
	}
	for _, p := range moduli() {
		numbers := []api.Nat{nil, {}, {0}, {1}, {1, 0}, {2}, less(p, 1), less(p, 3), p, more(p, 1), nat.Shl(p, 64), loose(less(p, 1), 1), append(slices.Clone(p), 1)}
		for _, a := range numbers {
			for _, b := range numbers {
				wantNew(t, api.Curve{P: p, A: a, B: b})
				wantNew(t, api.Curve{P: loose(p, 1), A: a, B: b})
			}
		}
	}
}

// tiny is a small curve, whose points and inverses are found by going through all numbers.
type tiny struct{ p, a, b int }

// spot is a point: O, if it is none of the plane's.
type spot struct{ x, y int }

var far0 = spot{-1, -1}

func (c tiny) curve() api.Curve { return over(uint64(c.p), uint64(c.a), uint64(c.b)) }

func (s spot) point() api.Point {
	if s == far0 {
		return api.Point{Far: true}
	}
	return at(uint64(s.x), uint64(s.y))
}

func (c tiny) mod(n int) int { return (n%c.p + c.p) % c.p }

// inverse goes through all numbers.
func (c tiny) inverse(n int) (int, bool) {
	for i := range c.p {
		if c.mod(i*n) == 1 {
			return i, true
		}
	}
	return 0, false
}

// add is the sum, if P is a prime.
func (c tiny) add(s, q spot) spot {
	switch {
	case s == far0:
		return q
	case q == far0:
		return s
	case q == (spot{s.x, c.mod(-s.y)}):
		return far0
	}
	rise, run := q.y-s.y, q.x-s.x
	if s == q {
		rise, run = 3*s.x*s.x+c.a, 2*s.y
	}
	inverse, _ := c.inverse(c.mod(run))
	m := c.mod(rise * inverse)
	x := c.mod(m*m - s.x - q.x)
	return spot{x, c.mod(m*(s.x-x) - s.y)}
}

// small is a Proj of small numbers.
type small [3]int

func (n small) proj() Proj { return of(uint64(n[0]), uint64(n[1]), uint64(n[2])) }

// smallOf is a Proj of small numbers that was told.
func smallOf(j Proj) (out small) {
	for i, a := range []api.Nat{j.X, j.Y, j.Z} {
		word, _ := nat.Small(a)
		out[i] = int(word)
	}
	return out
}

// may is the chapter's word, of numbers of any size.
func (c tiny) may(n small) bool {
	x, y, z := n[0], n[1], n[2]
	z2 := z * z % c.p
	return max(x, y, z) < c.p && c.mod(y*y-x*x*x-c.a*x*z2*z2-c.b*z2*z2%c.p*z2) == 0
}

// stands is the chapter's word, of one that may be.
func (c tiny) stands(n small) (spot, bool) {
	if n[2] == 0 {
		return far0, true
	}
	i, is := c.inverse(n[2])
	return spot{c.mod(n[0] * i * i), c.mod(n[1] * i * i % c.p * i)}, is
}

// smalls are all curves modulo p that may be.
func smalls(p int) (out []tiny) {
	for a := range p {
		for b := range p {
			if c := (tiny{p, a, b}); c.mod(4*a*a*a+27*b*b) != 0 {
				out = append(out, c)
			}
		}
	}
	return out
}

// table has all Proj of a small curve that may be, and the point of each that stands for one.
func (c tiny) table() (all []small, of map[small]spot) {
	of = map[small]spot{}
	for x := range c.p {
		for y := range c.p {
			for z := range c.p {
				n := small{x, y, z}
				if !c.may(n) {
					continue
				}
				all = append(all, n)
				if s, is := c.stands(n); is {
					of[n] = s
				}
			}
		}
	}
	return all, of
}

// TestSmallOut has all curves over the smallest primes, and over numbers that are none, with all numbers in all places, P and more among them.
func TestSmallOut(t *testing.T) {
	t.Parallel()
	for _, p := range []int{5, 7, 9, 15} {
		for i, c := range smalls(p) {
			if p > 7 && i%11 != 0 {
				continue
			}
			g := groupOf(t, c.curve())
			for x := range p + 2 {
				for y := range p + 2 {
					for z := range p + 2 {
						wantSmallOut(t, c, g, small{x, y, z})
					}
				}
			}
		}
	}
}

// wantSmallOut asks Out and Twice, and In of one with Z 1.
func wantSmallOut(t *testing.T, c tiny, g *Group, n small) {
	t.Helper()
	want, e := api.Point{}, api.ErrPoint
	if c.may(n) {
		if s, is := c.stands(n); is {
			want, e = s.point(), api.OK
		} else {
			e = api.ErrInv
		}
	}
	got, gotE := g.Out(n.proj())
	wantPoint(t, got, gotE, want, e, "P17.1: Out", c, n)
	double, gotE := g.Twice(n.proj())
	if e == api.ErrPoint {
		wantProj(t, double, gotE, Proj{}, e, "P17.2: Twice", c, n)
	} else {
		wantErr(t, gotE, api.OK, "P17.2: Twice", c, n)
	}
	if n[2] != 1 {
		return
	}
	in, gotE := g.In(at(uint64(n[0]), uint64(n[1])))
	if e == api.OK {
		wantProj(t, in, gotE, n.proj(), e, "P17.1: In", c, n)
	} else {
		wantProj(t, in, gotE, Proj{}, e, "P17.1: In", c, n)
	}
}

// TestSmallSums has all curves over the smallest primes with all Proj of two points, by the chapter's words; by greater ones not all curves.
func TestSmallSums(t *testing.T) {
	t.Parallel()
	for p, each := range map[int]int{5: 1, 7: 1, 11: 17, 13: 41} {
		for i, c := range smalls(p) {
			if i%each != 0 {
				continue
			}
			g := groupOf(t, c.curve())
			all, of := c.table()
			for _, j := range all {
				double, e := g.Twice(j.proj())
				wantSmall(t, c, double, e, of, c.add(of[j], of[j]), "P17.2: Twice", j, j)
				for _, k := range all {
					sum, e := g.Plus(j.proj(), k.proj())
					wantSmall(t, c, sum, e, of, c.add(of[j], of[k]), "P17.2, P17.3: Plus", j, k)
				}
			}
		}
	}
}

// wantSmall looks at a sum.
func wantSmall(t *testing.T, c tiny, got Proj, e api.Errno, of map[small]spot, want spot, call string, j, k small) {
	t.Helper()
	n := smallOf(got)
	s, may := of[n]
	if e != api.OK || !may || s != want || !sameProj(n.proj(), got) {
		t.Errorf("%s of %v, %v, %v: %v, error %d, which stands for %v, not %v", call, c, j, k, got, e, s, want)
	}
}

// TestSmallTimes adds each point as often as it takes to come to O twice, and asks Times beside it: the order, one less and one more are among that.
func TestSmallTimes(t *testing.T) {
	t.Parallel()
	for _, p := range []int{5, 7, 11, 13} {
		for _, c := range smalls(p) {
			g := groupOf(t, c.curve())
			_, of := c.table()
			for n, s := range of {
				if n[2] != 1 && n != (small{1, 1, 0}) {
					continue
				}
				sum, seen := far0, 0
				for k := uint64(0); seen < 3; k++ {
					if sum == far0 {
						seen++
					}
					got, e := g.Times(nat.Of(k), s.point())
					wantPoint(t, got, e, sum.point(), api.OK, "P17.2: Times", c, k, s)
					sum = c.add(sum, s)
				}
			}
		}
	}
}

// TestSmallOnesOfNoPrimes has sums of all kinds of Proj, also those that stand for nothing: what is told may be.
func TestSmallOnesOfNoPrimes(t *testing.T) {
	t.Parallel()
	for p, each := range map[int]int{9: 5, 15: 31, 21: 97, 25: 131, 27: 149, 35: 389} {
		for i, c := range smalls(p) {
			if i%each != 0 {
				continue
			}
			g := groupOf(t, c.curve())
			all, of := c.table()
			if len(of) == len(all) {
				t.Errorf("all Proj of %v have a point", c)
			}
			for m, j := range all {
				double, e := g.Twice(j.proj())
				wantMay(t, c, double, e, "P17.2: Twice", j, j)
				for _, k := range all[m%(each/5+1):] {
					if (k[0]+k[1]+k[2]+m)%(each/5+1) == 0 {
						sum, e := g.Plus(j.proj(), k.proj())
						wantMay(t, c, sum, e, "P17.2: Plus", j, k)
					}
				}
			}
		}
	}
}

// wantMay looks at a sum of no prime.
func wantMay(t *testing.T, c tiny, got Proj, e api.Errno, call string, j, k small) {
	t.Helper()
	if n := smallOf(got); e != api.OK || !c.may(n) || !sameProj(n.proj(), got) {
		t.Errorf("%s of %v, %v, %v: %v, error %d", call, c, j, k, got, e)
	}
}

// TestSmallTimesOfNoPrimes wants curve.Times, or ErrInv: it is easy to lose sight of what has no inverse, if all that comes of it is 0.
func TestSmallTimesOfNoPrimes(t *testing.T) {
	t.Parallel()
	for p, each := range map[int]int{9: 1, 15: 3, 21: 11, 25: 17, 27: 19, 35: 43, 45: 101, 105: 999} {
		for i, c := range smalls(p) {
			if i%each != 0 {
				continue
			}
			g := groupOf(t, c.curve())
			for x := range p {
				for y := range p {
					if c.may(small{x, y, 1}) {
						wantSmallTimes(t, c, g, spot{x, y}, 48)
					}
				}
			}
		}
	}
}

// wantSmallTimes asks Times of 0 to most.
func wantSmallTimes(t *testing.T, c tiny, g *Group, s spot, most uint64) {
	t.Helper()
	for k := range most {
		got, e := g.Times(nat.Of(k), s.point())
		if e == api.ErrInv && k > 1 {
			wantPoint(t, got, e, api.Point{}, api.ErrInv, "P17.2: Times", c, k, s)
			continue
		}
		want, wantE := curve.Times(c.curve(), nat.Of(k), s.point())
		wantPoint(t, got, e, want, wantE, "P17.2: Times", c, k, s)
	}
}

// kinds are what may stand for a point, and for O, by several Z, and what may not be.
func kinds(c plane, d dot) (out []Proj) {
	p := wordsOf(c.p)
	next := row(c.p, p[0]+9)
	one := big.NewInt(1)
	last := new(big.Int).Sub(c.p, one)
	double, _ := c.add(d, d)
	treble, _ := c.add(double, d)
	for _, z := range []*big.Int{one, big.NewInt(2), last, c.plus(one, next())} {
		out = append(out, c.proj(d, z))
		if len(out) < 3 {
			out = append(out, c.proj(c.neg(d), z), c.proj(dot{}, z), c.proj(double, next()), c.proj(treble, next()), c.proj(c.neg(double), last))
		}
	}
	return append(out, Proj{}, Proj{api.Nat{}, api.Nat{}, api.Nat{}})
}

// bad are Proj of which most may not be, close to one that may.
func bad(c plane, j Proj) (out []Proj) {
	p := wordsOf(c.p)
	numbers := func(j *Proj) []*api.Nat { return []*api.Nat{&j.X, &j.Y, &j.Z} }
	for i := range 3 {
		was := *numbers(&j)[i]
		for _, a := range []api.Nat{nil, {0}, {1}, p, more(p, 1), nat.Add(was, p), more(was, 1), loose(was, 1), loose(was, 7), append(loose(was, 4-len(was)), 1), nat.Shl(p, 64)} {
			k := j
			*numbers(&k)[i] = a
			out = append(out, k)
		}
	}
	return append(out, Proj{p, p, p}, Proj{p, p, nil}, Proj{j.Y, j.X, j.Z}, Proj{j.X, j.Y, nil}, Proj{loose(j.X, 1), loose(j.Y, 1), loose(j.Z, 1)}, Proj{api.Nat{0}, api.Nat{0}, api.Nat{0}})
}

// TestPairs asks all pairs of kinds, of samples of all lengths.
func TestPairs(t *testing.T) {
	t.Parallel()
	for _, p := range moduli() {
		curves, dots := samples(p)
		for i, c := range curves {
			if i%5 != 0 && dots[i].y.Sign() != 0 {
				continue
			}
			w := askerOf(t, c)
			list := kinds(c, dots[i])
			for m, j := range list {
				w.out(j)
				w.twice(j)
				for _, k := range list[m:] {
					w.plus(j, k)
				}
			}
		}
	}
}

// TestEdges asks with what may not be.
func TestEdges(t *testing.T) {
	t.Parallel()
	for _, p := range moduli() {
		curves, dots := samples(p)
		for i, c := range curves {
			if i%3 != 0 {
				continue
			}
			w := askerOf(t, c)
			good := c.proj(dots[i], row(c.p, 2)())
			for _, j := range []Proj{good, c.proj(dots[i], big.NewInt(1)), of(1, 1, 0)} {
				for _, k := range bad(c, j) {
					w.out(k)
					w.twice(k)
					w.plus(k, good)
					w.plus(k, k)
				}
			}
		}
	}
}

// TestPoints asks In and Times with points that are on the curve, and with others.
func TestPoints(t *testing.T) {
	t.Parallel()
	for _, p := range moduli() {
		curves, dots := samples(p)
		for i, c := range curves {
			w := askerOf(t, c)
			x, y := wordsOf(dots[i].x), wordsOf(dots[i].y)
			one := nat.Of(1)
			for k, point := range []api.Point{
				{Far: true}, {Far: true, X: api.Nat{}, Y: api.Nat{}}, {X: x, Y: y}, c.neg(dots[i]).point(),
				{}, {X: x}, {Y: y}, {X: y, Y: x}, {X: x, Y: more(y, 1)}, {X: more(x, 1), Y: y},
				{Far: true, X: x, Y: y}, {Far: true, X: one}, {Far: true, Y: one}, {Far: true, X: api.Nat{0}}, {Far: true, Y: api.Nat{0}}, {Far: true, X: one, Y: one},
				{X: nat.Add(x, p), Y: y}, {X: x, Y: nat.Add(y, p)}, {X: p, Y: y}, {X: x, Y: p}, {X: p, Y: p}, {X: more(p, 1), Y: y}, {X: x, Y: more(p, 1)},
				{X: loose(x, 1), Y: y}, {X: x, Y: loose(y, 1)}, {X: loose(x, 3), Y: loose(y, 2)}, {X: append(loose(x, 4-len(x)), 1), Y: y},
			} {
				w.in(point)
				for _, n := range []api.Nat{nat.Of(uint64(k)), {0}, oneAt(api.MaxBits)} {
					w.count(n, point)
				}
			}
		}
	}
}

// counts are numbers that a point may be taken times.
func counts(p api.Nat) []api.Nat {
	most := oneAt(api.MaxBits)
	return []api.Nat{
		nil, {}, {1}, {2}, {3}, {4}, {5}, {7}, {8}, {1<<32 + 1}, {top}, {all}, {0, 1}, {1, 1}, {all, all}, {0, 0, 5}, p, more(p, 1), less(p, 1),
		less(most, 1), nat.Shr(most, 1), most, more(most, 1), nat.Shl(most, 1), append(make(api.Nat, 99), 1),
		{0}, {0, 0}, {1, 0}, {2, 0, 0}, loose(p, 1), loose(less(most, 1), 1), make(api.Nat, 16), make(api.Nat, 17), make(api.Nat, 100),
	}
}

func TestCounts(t *testing.T) {
	t.Parallel()
	for _, p := range moduli() {
		curves, dots := samples(p)
		for i, c := range curves {
			if i%11 != 0 {
				continue
			}
			w := askerOf(t, c)
			for _, n := range counts(p) {
				w.count(n, dots[i].point())
				w.count(n, api.Point{Far: true})
				w.count(n, api.Point{X: p})
			}
		}
	}
}

// TestWithoutInverse has Z that is not 0 and has no inverse, by numbers of all lengths that are no primes.
func TestWithoutInverse(t *testing.T) {
	t.Parallel()
	for _, o := range others() {
		curves, dots := samples(o.p)
		beside := 0
		for i, c := range curves {
			w := askerOf(t, c)
			z := new(big.Int).SetUint64(o.divisor)
			rest := new(big.Int).Div(c.p, z)
			j, k := c.proj(dots[i], z), c.proj(dots[i], rest)
			for _, n := range []Proj{j, k} {
				got, e := w.g.Out(n)
				wantPoint(t, got, e, api.Point{}, api.ErrInv, "P17.1: Out", c.curve(), n)
				aside := Proj{n.X, more(n.Y, 1), n.Z}
				if _, is := c.trioOf(aside); !is && below(aside.Y, c.p) {
					beside++
					got, e = w.g.Out(aside)
					wantPoint(t, got, e, api.Point{}, api.ErrPoint, "P17.1: Out, ErrPoint ahead of ErrInv", c.curve(), aside)
				}
				w.twice(n)
				for _, other := range append(kinds(c, dots[i]), j, k) {
					w.plus(n, other)
				}
			}
		}
		if beside < 8 {
			t.Errorf("%d Proj alone by %v that do not fulfil the equation", beside, o.p)
		}
	}
}

// stuck is a point of a curve modulo a number that is no prime: two of it are O by the divisor, but not by all.
func stuck(o divided, next func() *big.Int) (plane, dot) {
	d := dot{next(), new(big.Int).SetUint64(o.divisor)}
	return through(numberOf(o.p), next(), d), d
}

// TestStuck has ErrInv alone from 2 on.
func TestStuck(t *testing.T) {
	for _, o := range others() {
		next := row(numberOf(o.p), 8)
		for found, tries := 0, 0; found < 5; tries++ {
			if tries > 10000 {
				t.Fatalf("no curves by %v", o.p)
			}
			c, d := stuck(o, next)
			if !c.smooth() {
				continue
			}
			found++
			g := groupOf(t, c.curve())
			for n := range uint64(9) {
				got, e := g.Times(nat.Of(n), d.point())
				switch n {
				case 0:
					wantPoint(t, got, e, api.Point{Far: true}, api.OK, "P17.2: Times", c.curve(), n, d.point())
				case 1:
					wantPoint(t, got, e, d.point(), api.OK, "P17.2: Times", c.curve(), n, d.point())
				default:
					wantPoint(t, got, e, api.Point{}, api.ErrInv, "P17.2: Times", c.curve(), n, d.point())
				}
			}
		}
	}
}

// known are curves that are in use, with a point, and how many of it are O.
func known() (curves []api.Curve, points []api.Point, counts []api.Nat) {
	add := func(p, a, b, x, y, n string) {
		curves = append(curves, api.Curve{P: hex(p), A: hex(a), B: hex(b)})
		points, counts = append(points, api.Point{X: hex(x), Y: hex(y)}), append(counts, hex(n))
	}
	// secp256k1, secp112r1, secp128r1, brainpoolP160r1
	add("fffffffffffffffffffffffffffffffffffffffffffffffffffffffefffffc2f", "0", "7",
		"79be667ef9dcbbac55a06295ce870b07029bfcdb2dce28d959f2815b16f81798", "483ada7726a3c4655da4fbfc0e1108a8fd17b448a68554199c47d08ffb10d4b8",
		"fffffffffffffffffffffffffffffffebaaedce6af48a03bbfd25e8cd0364141")
	add("db7c2abf62e35e668076bead208b", "db7c2abf62e35e668076bead2088", "659ef8ba043916eede8911702b22", "09487239995a5ee76b55f9c2f098", "a89ce5af8724c0a23e0e0ff77500", "db7c2abf62e35e7628dfac6561c5")
	add("fffffffdffffffffffffffffffffffff", "fffffffdfffffffffffffffffffffffc", "e87579c11079f43dd824993c2cee5ed3", "161ff7528b899b2d0c28607ca52c5b86", "cf5ac8395bafeb13c02da292dded7a83", "fffffffe0000000075a30d1b9038a115")
	add("e95e4a5f737059dc60dfc7ad95b3d8139515620f", "340e7be2a280eb74e2be61bada745d97e8f7c300", "1e589a8595423412134faa2dbdec95c8d8675e58", "bed5af16ea3f6a4f62938c4631eb5af7bdbcdbc3", "1667cb477a1a8ec338f94741669c976316da6321", "e95e4a5f737059dc60df5991d45029409e60fc09")
	for _, c := range []elliptic.Curve{elliptic.P224(), elliptic.P256()} {
		n := c.Params()
		curves = append(curves, api.Curve{P: wordsOf(n.P), A: wordsOf(new(big.Int).Sub(n.P, big.NewInt(3))), B: wordsOf(n.B)})
		points, counts = append(points, api.Point{X: wordsOf(n.Gx), Y: wordsOf(n.Gy)}), append(counts, wordsOf(n.N))
	}
	return curves, points, counts
}

// TestKnownCounts has great orders, one less and one more.
func TestKnownCounts(t *testing.T) {
	curves, points, counts := known()
	far := api.Point{Far: true}
	for i, c := range curves {
		p, n := points[i], counts[i]
		g := groupOf(t, c)
		neg, e := curve.Neg(c, p)
		wantErr(t, e, api.OK, "P16.2: Neg", c, p)
		double, e := curve.Add(c, p, p)
		wantErr(t, e, api.OK, "P16.3: Add", c, p)
		last := nat.Shl(n, api.MaxBits-nat.Bits(n)) // so many bits as may be
		for _, k := range []struct {
			n    api.Nat
			want api.Point
		}{
			{nil, far}, {api.Nat{1}, p}, {api.Nat{2}, double}, {n, far}, {less(n, 1), neg}, {more(n, 1), p}, {more(n, 2), double}, {nat.Shl(n, 1), far}, {more(nat.Shl(n, 1), 1), p}, {last, far}, {more(last, 1), p}, {less(last, 1), neg},
		} {
			got, e := g.Times(k.n, p)
			wantPoint(t, got, e, k.want, api.OK, "P17.2: Times", c, k.n, p)
		}
	}
}

// TestLibrary holds sums against the library's.
func TestLibrary(t *testing.T) {
	t.Parallel()
	curves, points, _ := known()
	for i, lib := range []elliptic.Curve{elliptic.P224(), elliptic.P256()} {
		c, p := curves[4+i], points[4+i]
		in, _ := planeOf(c)
		g := groupOf(t, c)
		next := row(lib.Params().P, 6)
		x, y := lib.Params().Gx, lib.Params().Gy
		for range 20 {
			n := next()
			wantX, wantY := lib.ScalarMult(x, y, n.Bytes())
			got, e := g.Times(wordsOf(n), p)
			wantPoint(t, got, e, dot{wantX, wantY}.point(), api.OK, "P17.2: Times", c, n, p)
			sumX, sumY := lib.Add(wantX, wantY, x, y)
			sum, e := g.Plus(in.proj(dot{wantX, wantY}, next()), in.proj(dot{x, y}, next()))
			wantErr(t, e, api.OK, "P17.2: Plus", c)
			out, e := g.Out(sum)
			wantPoint(t, out, e, dot{sumX, sumY}.point(), api.OK, "P17.2: Plus", c, got, p)
			doubleX, doubleY := lib.Double(x, y)
			sum, e = g.Twice(in.proj(dot{x, y}, next()))
			wantErr(t, e, api.OK, "P17.2: Twice", c)
			out, e = g.Out(sum)
			wantPoint(t, out, e, dot{doubleX, doubleY}.point(), api.OK, "P17.2: Twice", c, p)
			x, y, p = wantX, wantY, got
		}
	}
}

// TestChains goes on with what was told, whose Z is any number, and holds it against sums with divisions.
func TestChains(t *testing.T) {
	t.Parallel()
	for _, p := range primes() {
		curves, dots := samples(p)
		for i, c := range curves {
			if i%4 != 0 {
				continue
			}
			w := askerOf(t, c)
			first, _ := w.g.In(dots[i].point())
			j, d := first, dots[i]
			for step := range 24 {
				var e api.Errno
				var other Proj
				if step%3 == 1 {
					j, e = w.g.Plus(j, first)
					d, _ = c.add(d, dots[i])
				} else if step%3 == 2 {
					other, _ = w.g.Twice(first)
					j, e = w.g.Plus(other, j)
					twice, _ := c.add(dots[i], dots[i])
					d, _ = c.add(twice, d)
				} else {
					j, e = w.g.Twice(j)
					d, _ = c.add(d, d)
				}
				wantErr(t, e, api.OK, "P17.2: a sum", c, step)
				got, e := w.g.Out(j)
				wantPoint(t, got, e, d.point(), api.OK, "P17.2: a sum of sums", c, dots[i], step)
			}
		}
	}
}

// TestSameStandIns has sums of Proj that stand for the same points, in any order, by primes of all lengths.
func TestSameStandIns(t *testing.T) {
	t.Parallel()
	for _, p := range primes() {
		curves, dots := samples(p)
		for i, c := range curves {
			if i%5 != 0 {
				continue
			}
			g := groupOf(t, c.curve())
			next := row(c.p, uint64(i))
			factor := func() *big.Int {
				return c.plus(big.NewInt(1), new(big.Int).Mod(next(), new(big.Int).Sub(c.p, big.NewInt(1))))
			}
			points := []dot{dots[i], c.neg(dots[i]), {}, c.many(big.NewInt(2), dots[i]), c.many(next(), dots[i])}
			for _, one := range points {
				for _, two := range points {
					first := stood(t, g, c.proj(one, big.NewInt(1)), c.proj(two, big.NewInt(1)))
					for range 4 {
						j, k := c.proj(one, factor()), c.proj(two, factor())
						if got := stood(t, g, j, k); !same(got, first) {
							t.Errorf("P17.3: %v, %v, %v: %v, not %v", c, j, k, got, first)
						}
						if got := stood(t, g, k, j); !same(got, first) {
							t.Errorf("P17.3: %v, %v, %v: %v, not %v", c, k, j, got, first)
						}
					}
				}
			}
		}
	}
}

// stood is the point for which a sum stands.
func stood(t *testing.T, g *Group, j, k Proj) api.Point {
	t.Helper()
	sum, e := g.Plus(j, k)
	wantErr(t, e, api.OK, "P17.2: Plus", j, k)
	out, e := g.Out(sum)
	wantErr(t, e, api.OK, "P17.1: Out", sum)
	return out
}

// TestNoGroup has no group, and one that New did not make.
func TestNoGroup(t *testing.T) {
	long := append(make(api.Nat, 99), 1)
	for _, g := range []*Group{nil, new(Group), {}} {
		for _, p := range []api.Point{{}, {Far: true}, at(0, 1), {Far: true, X: api.Nat{1}}, {X: api.Nat{0}, Y: long}} {
			j, e := g.In(p)
			wantProj(t, j, e, Proj{}, api.ErrNil, "R4: In", p)
			for _, n := range []api.Nat{nil, {1}, {9}, {0}, long, oneAt(api.MaxBits)} {
				got, e := g.Times(n, p)
				wantPoint(t, got, e, api.Point{}, api.ErrNil, "R4: Times", n, p)
			}
		}
		list := []Proj{{}, of(1, 1, 0), of(0, 1, 1), of(1, 2, 3), {api.Nat{0}, nil, nil}, {long, long, long}}
		for _, j := range list {
			got, e := g.Out(j)
			wantPoint(t, got, e, api.Point{}, api.ErrNil, "R4: Out", j)
			sum, e := g.Twice(j)
			wantProj(t, sum, e, Proj{}, api.ErrNil, "R4: Twice", j)
			for _, k := range list {
				sum, e = g.Plus(j, k)
				wantProj(t, sum, e, Proj{}, api.ErrNil, "R4: Plus", j, k)
			}
		}
	}
}

// TestAnyWords has words of all kinds in all places: nothing panics, and all that is answered is what the chapter says.
func TestAnyWords(t *testing.T) {
	t.Parallel()
	words := []api.Nat{nil, {}, {0}, {1}, {2}, {5}, {1, 0}, {all}, {all, all, all, all}, append(make(api.Nat, 4), 1), append(make(api.Nat, 300), 7), make(api.Nat, 300)}
	var groups []asker
	for _, p := range []api.Nat{{5}, {7}, {9}, {all}, {all - 58}, {all, all, all, all}, {all - 188, all, all, all}} {
		curves, _ := samples(p)
		groups = append(groups, askerOf(t, curves[0]))
	}
	for i, x := range words {
		for k, y := range words {
			for m, z := range words {
				wantNew(t, api.Curve{P: x, A: y, B: z})
				w := groups[(i+k+m)%len(groups)]
				p := api.Point{X: x, Y: y, Far: m%3 == 0}
				w.in(p)
				w.count(z, p)
				j := Proj{x, y, z}
				w.out(j)
				w.twice(j)
				w.plus(j, Proj{z, x, y})
				w.plus(j, Proj{})
			}
		}
	}
}

// handed is what the calls may be asked with.
type handed struct {
	c    api.Curve
	n    api.Nat
	p    api.Point
	j, k Proj
}

// numbers are all that a handed has.
func (h *handed) numbers() []*api.Nat {
	return []*api.Nat{&h.c.P, &h.c.A, &h.c.B, &h.n, &h.p.X, &h.p.Y, &h.j.X, &h.j.Y, &h.j.Z, &h.k.X, &h.k.Y, &h.k.Z}
}

// roomy is a handed in memory of its own, with words behind the end of each number.
func (h handed) roomy() handed {
	for _, x := range h.numbers() {
		*x = append(slices.Clone(*x), 11, 12, 13, 14, 15)[:len(*x)]
	}
	return h
}

// words are all of a handed's numbers, up to the end of their room.
func (h handed) words() (out []api.Nat) {
	for _, x := range h.numbers() {
		out = append(out, slices.Clone((*x)[:cap(*x)]))
	}
	return out
}

// asked are some of which answers might be what was handed in.
func asked() (out []handed) {
	far := api.Point{Far: true}
	for _, p := range []api.Nat{{7}, {13}, {15}, {1<<63 - 25}, {13, 1}, {all - 188, all, all, all}, {all, all, all, all}} {
		curves, dots := samples(p)
		for i, c := range curves {
			if i%3 == 1 {
				continue
			}
			d := dots[i].point()
			list := kinds(c, dots[i])
			for m, j := range list {
				k := list[(m*5+i)%len(list)]
				out = append(out, handed{c.curve(), nat.Of(uint64(m)), d, j, k})
			}
			j := list[0]
			out = append(out, handed{c.curve(), p, far, j, of(1, 1, 0)}, handed{c.curve(), loose(p, 2), far, Proj{p, p, p}, j}, handed{c.curve(), less(p, 1), api.Point{X: p, Y: p}, bad(c, j)[7], j})
		}
		out = append(out, handed{api.Curve{P: p}, p, far, Proj{}, of(1, 1, 0)}, handed{api.Curve{P: loose(p, 1), B: api.Nat{1}}, nil, far, Proj{}, of(1, 1, 0)})
	}
	return out
}

// groupsOf are what New makes of all curves.
func groupsOf(list []handed) (out []*Group) {
	for _, h := range list {
		g, _ := New(h.c)
		out = append(out, g)
	}
	return out
}

// answers are the numbers of all answers of a group, each answer a list, and its point's Far as a number that is none of memory.
func (h handed) answers(g *Group) (out [][]api.Nat) {
	point := func(p api.Point, e api.Errno) {
		far := nat.Of(uint64(e))
		if p.Far {
			far = more(far, 100)
		}
		out = append(out, []api.Nat{p.X, p.Y, far})
	}
	proj := func(j Proj, e api.Errno) { out = append(out, []api.Nat{j.X, j.Y, j.Z, nat.Of(uint64(e))}) }
	proj(g.In(h.p))
	proj(g.In(api.Point{Far: true}))
	point(g.Out(h.j))
	point(g.Out(h.k))
	proj(g.Twice(h.j))
	proj(g.Twice(h.k))
	proj(g.Plus(h.j, h.k))
	proj(g.Plus(h.k, h.j))
	proj(g.Plus(h.j, h.j))
	proj(g.Plus(h.j, Proj{}))
	proj(g.Plus(Proj{}, h.k))
	point(g.Times(h.n, h.p))
	point(g.Times(nil, h.p))
	point(g.Times(api.Nat{1}, h.p))
	return out
}

// flat has copies of all numbers of all answers.
func flat(answers [][]api.Nat) (out []api.Nat) {
	for _, list := range answers {
		for _, a := range list {
			out = append(out, slices.Clone(a))
		}
	}
	return out
}

// sameLists tells whether two lists of numbers have the same words.
func sameLists(a, b []api.Nat) bool {
	return slices.EqualFunc(a, b, func(x, y api.Nat) bool { return slices.Equal(x, y) })
}

// spoil changes all words of a number, those behind its end too.
func spoil(a api.Nat) {
	a = a[:cap(a)]
	for i := range a {
		a[i] = ^a[i]
	}
}

func TestGivenStays(t *testing.T) {
	for _, h := range asked() {
		in := h.roomy()
		before := in.words()
		g, _ := New(in.c)
		in.answers(g)
		if got := in.words(); !sameLists(got, before) {
			t.Errorf("R3: %v: what was handed in became %v", before, got)
		}
	}
}

// TestAnsweredIsNew changes each number of each answer, and looks at what was handed in, at all other numbers, and at what the group tells then.
func TestAnsweredIsNew(t *testing.T) {
	for _, h := range asked() {
		in := h.roomy()
		before := in.words()
		g, _ := New(in.c)
		answers := in.answers(g)
		first := flat(answers)
		want := flat(answers)
		i := 0
		for _, list := range answers {
			for _, a := range list {
				spoil(a)
				want[i] = slices.Clone(a)
				i++
				if !sameLists(flat(answers), want) {
					t.Fatalf("R3: %v: number %d of the answers has memory of another one", before, i-1)
				}
			}
		}
		if got := in.words(); !sameLists(got, before) {
			t.Fatalf("R3: %v: an answer has memory of what was handed in, that became %v", before, got)
		}
		if again := flat(in.answers(g)); !sameLists(again, first) {
			t.Fatalf("R3: %v: an answer has memory of the group, that tells %v, not %v", before, again, first)
		}
	}
}

// TestNothingKept spoils what was handed in, the curve too, and asks again.
func TestNothingKept(t *testing.T) {
	list := asked()
	made := groupsOf(list)
	for i, h := range list {
		want := flat(h.answers(made[i]))
		in := h.roomy()
		g, _ := New(in.c)
		answers := in.answers(g)
		for _, x := range in.numbers() {
			spoil(*x)
		}
		if got := flat(answers); !sameLists(got, want) {
			t.Errorf("R3: %v: answers became %v, not %v", h, got, want)
		}
		if got := flat(h.answers(g)); !sameLists(got, want) {
			t.Errorf("R3: %v: the group tells %v, not %v, since its curve's words are others", h, got, want)
		}
		if again := flat(h.answers(made[i])); !sameLists(again, want) {
			t.Errorf("R5: %v: %v, not %v", h, again, want)
		}
	}
}

// TestSharedMemory hands in numbers that share memory with each other.
func TestSharedMemory(t *testing.T) {
	for _, p := range primes() {
		x := less(p, 2)
		in := through(numberOf(p), numberOf(x), dot{numberOf(x), numberOf(x)})
		if !in.smooth() {
			continue
		}
		c := api.Curve{P: p, A: x, B: wordsOf(in.b)}
		w := asker{t, in, groupOf(t, c), true}
		point := api.Point{X: x, Y: x}
		w.in(point)
		w.count(x, point)
		j := Proj{x, x, api.Nat{1}}
		w.plus(j, j)
		w.twice(j)
		w.out(j)
		for _, k := range []Proj{{x, x, x}, {c.B, x, c.B}} {
			w.plus(k, k)
			w.plus(k, j)
			w.twice(k)
			w.out(k)
		}
	}
}

package twist

import (
	"bytes"
	"crypto/elliptic"
	"math"
	"math/big"
	"slices"
	"testing"

	"caltrop/api"
	"caltrop/curve"
	"caltrop/nat"
)

const all = math.MaxUint64 // a word whose bits are all 1

// less is a without so many; there are as many.
func less(a api.Nat, count uint64) api.Nat {
	out, _ := nat.Sub(a, nat.Of(count))
	return out
}

// more is a and so many.
func more(a api.Nat, count uint64) api.Nat { return nat.Add(a, nat.Of(count)) }

// loose is a's number in words that may not be, unless noughts is 0.
func loose(a api.Nat, noughts int) api.Nat {
	return append(slices.Clone(a), make(api.Nat, noughts)...)
}

// oneAt is 2^place.
func oneAt(place int) api.Nat {
	a := make(api.Nat, place/64+1)
	a[place/64] = 1 << (place % 64)
	return a
}

// row makes numbers below p without any order to be seen in them; another seed makes another row.
func row(p *big.Int, seed uint64) func() *big.Int {
	return func() *big.Int {
		out := new(big.Int)
		for range 5 {
			seed = seed*6364136223846793005 + 1442695040888963407
			out.Lsh(out, 64)
			out.Add(out, new(big.Int).SetUint64(seed^seed>>29))
		}
		return out.Mod(out, p)
	}
}

// numberOf is the number of words by the words of chapter 2 alone, in numbers of the library.
func numberOf(a api.Nat) *big.Int {
	b := make([]byte, 0, 8*len(a))
	for _, x := range slices.Backward(a) {
		for shift := 56; shift >= 0; shift -= 8 {
			b = append(b, byte(x>>shift))
		}
	}
	return new(big.Int).SetBytes(b)
}

// wordsOf is a number of the library's in words that may be.
func wordsOf(x *big.Int) api.Nat { return nat.FromBytes(x.Bytes()) }

// hex is a number that is written to the base 16.
func hex(text string) api.Nat {
	x, _ := new(big.Int).SetString(text, 16)
	return wordsOf(x)
}

// sizes are the lengths of P, in bits, that are tested: those that fill a byte or a word, and others.
func sizes() []int {
	return []int{3, 7, 8, 9, 16, 17, 31, 32, 33, 63, 64, 65, 128, 129, 192, 193, 255, api.MaxField}
}

// primeFrom is the next prime from a number on, by steps that are 4, or 4 back, that leaves so much by 4.
func primeFrom(a api.Nat, rest, step int64) api.Nat {
	x := numberOf(a)
	x.Add(x, big.NewInt(rest-int64(a[0]%4)))
	for !x.ProbablyPrime(10) {
		x.Add(x, big.NewInt(step))
	}
	return wordsOf(x)
}

// primes are the least and the greatest of each length that leave 1, and 3, by 4, and some of which the number below is a product of a great power of 2.
func primes() (out []api.Nat) {
	for _, size := range sizes() {
		for _, rest := range []int64{1, 3} {
			out = append(out, primeFrom(oneAt(size-1), rest, 4), primeFrom(less(oneAt(size), 4), rest, -4))
		}
	}
	return append(out, api.Nat{17}, api.Nat{97}, api.Nat{65537}, api.Nat{3<<30 + 1}, api.Nat{27<<59 + 1}, api.Nat{1, 1<<64 - 1<<32, all, 1<<32 - 1})
}

// divided is an odd number that is no prime, and a prime that goes into it.
type divided struct {
	p       api.Nat
	divisor uint64
}

// others are odd numbers that are no primes, of 4 bits to MaxField; all of their bits are 1 in many of them.
func others() []divided {
	return []divided{
		{api.Nat{9}, 3}, {api.Nat{15}, 5}, {api.Nat{25}, 5}, {api.Nat{27}, 3}, {api.Nat{105}, 7}, {api.Nat{255}, 17}, {api.Nat{259}, 37}, {api.Nat{1<<31 - 3}, 5}, {api.Nat{1<<31 + 1}, 3}, {api.Nat{1<<32 - 1}, 17},
		{api.Nat{1<<63 - 1}, 7}, {api.Nat{1<<63 + 1}, 19}, {api.Nat{all}, 5}, {api.Nat{all, 1}, 31}, {api.Nat{1, 2}, 3},
		{api.Nat{all, all}, 17}, {api.Nat{all, all, 1}, 7}, {api.Nat{all, all, all}, 5}, {api.Nat{all, all, all, all}, 257},
	}
}

// moduli are those that all calls are asked with.
func moduli() []api.Nat {
	out := primes()
	for _, o := range others() {
		out = append(out, o.p)
	}
	return out
}

// plane tells what becomes of a curve, and of its points, by the chapters' words, in numbers of the library.
type plane struct{ p, a, b *big.Int }

// dot is a point; it is O, if it has no x.
type dot struct{ x, y *big.Int }

// fits tells whether words may be.
func fits(a api.Nat) bool { return len(a) == 0 || a[len(a)-1] != 0 }

// below tells whether words may be, and are a number below p.
func below(a api.Nat, p *big.Int) bool { return fits(a) && numberOf(a).Cmp(p) < 0 }

// planeOf is the curve that may be, or P16.1's error.
func planeOf(c api.Curve) (plane, api.Errno) {
	p := numberOf(c.P)
	if !fits(c.P) || p.Bit(0) == 0 || p.Cmp(big.NewInt(5)) < 0 || p.BitLen() > api.MaxField || !below(c.A, p) || !below(c.B, p) {
		return plane{}, api.ErrArg
	}
	out := plane{p, numberOf(c.A), numberOf(c.B)}
	if _, sum := out.parts(); sum.Sign() == 0 {
		return plane{}, api.ErrCurve
	}
	return out, api.OK
}

// curve is the plane in words.
func (c plane) curve() api.Curve { return api.Curve{P: wordsOf(c.p), A: wordsOf(c.a), B: wordsOf(c.b)} }

// smooth tells whether a curve may be.
func (c plane) smooth() bool {
	_, e := planeOf(c.curve())
	return e == api.OK
}

// mod takes a number for what it leaves.
func (c plane) mod(a *big.Int) *big.Int { return a.Mod(a, c.p) }

// times is the product of all.
func (c plane) times(factors ...*big.Int) *big.Int {
	out := big.NewInt(1)
	for _, a := range factors {
		out = c.mod(out.Mul(out, a))
	}
	return out
}

func (c plane) plus(a, b *big.Int) *big.Int { return c.mod(new(big.Int).Add(a, b)) }

func (c plane) minus(a, b *big.Int) *big.Int { return c.mod(new(big.Int).Sub(a, b)) }

// parts are 4 A^3, and that and 27 B^2.
func (c plane) parts() (ofA, sum *big.Int) {
	ofA = c.times(big.NewInt(4), c.a, c.a, c.a)
	return ofA, c.plus(ofA, c.times(big.NewInt(27), c.b, c.b))
}

// j is P18.1's, of a curve that may be.
func (c plane) j() (api.Nat, api.Errno) {
	ofA, sum := c.parts()
	inverse := new(big.Int).ModInverse(sum, c.p)
	if inverse == nil {
		return nil, api.ErrInv
	}
	return wordsOf(c.times(big.NewInt(1728), ofA, inverse)), api.OK
}

// twist is P18.1's, of a curve that may be.
func (c plane) twist(d api.Nat) (api.Curve, api.Errno) {
	if !below(d, c.p) || len(d) == 0 {
		return api.Curve{}, api.ErrArg
	}
	by := numberOf(d)
	out := plane{c.p, c.times(c.a, by, by), c.times(c.b, by, by, by)}
	if !out.smooth() {
		return api.Curve{}, api.ErrCurve
	}
	return out.curve(), api.OK
}

// right is the equation's right side.
func (c plane) right(x *big.Int) *big.Int {
	return c.plus(c.plus(c.times(x, x, x), c.times(c.a, x)), c.b)
}

// has tells whether a point is on the curve, by P16.2.
func (c plane) has(p api.Point) (dot, bool) {
	if p.Far {
		return dot{}, len(p.X) == 0 && len(p.Y) == 0
	}
	if !below(p.X, c.p) || !below(p.Y, c.p) {
		return dot{}, false
	}
	d := dot{numberOf(p.X), numberOf(p.Y)}
	return d, c.times(d.y, d.y).Cmp(c.right(d.x)) == 0
}

func (c plane) neg(d dot) dot { return dot{d.x, c.minus(new(big.Int), d.y)} }

// at is P18.2's, of a prime and a number below it, with the library's root.
func (c plane) at(x *big.Int, odd bool) (dot, bool) {
	y := new(big.Int).ModSqrt(c.right(x), c.p)
	if y == nil {
		return dot{}, false
	}
	d := dot{x, y}
	if y.Bit(0) == 1 != odd {
		d = c.neg(d)
	}
	return d, d.y.Bit(0) == 1 == odd
}

// pack is P18.3's, of a point that is on the curve.
func (c plane) pack(d dot) []byte {
	if d.x == nil {
		return []byte{0}
	}
	return append([]byte{byte(2 + d.y.Bit(0))}, d.x.FillBytes(make([]byte, (c.p.BitLen()+7)/8))...)
}

// unpack is P18.3's, of a prime.
func (c plane) unpack(b []byte) (dot, bool) {
	if len(b) == 1 && b[0] == 0 {
		return dot{}, true
	}
	if len(b) != 1+(c.p.BitLen()+7)/8 || b[0] != 2 && b[0] != 3 {
		return dot{}, false
	}
	x := new(big.Int).SetBytes(b[1:])
	if x.Cmp(c.p) >= 0 {
		return dot{}, false
	}
	return c.at(x, b[0] == 3)
}

// point is a dot in words.
func (d dot) point() api.Point {
	if d.x == nil {
		return api.Point{Far: true}
	}
	return api.Point{X: wordsOf(d.x), Y: wordsOf(d.y)}
}

// through is the curve of that A on which that point is.
func through(p, a *big.Int, d dot) plane {
	c := plane{p, a, new(big.Int)}
	c.b = c.minus(c.minus(c.times(d.y, d.y), c.times(d.x, d.x, d.x)), c.times(a, d.x))
	return c
}

// samples are curves modulo p, each with a point that is on it; A, B, x or y is 0 in some.
func samples(p api.Nat) (curves []plane, dots []dot) {
	whole := numberOf(p)
	next := row(whole, p[0])
	zero, last := new(big.Int), new(big.Int).Sub(whole, big.NewInt(1))
	add := func(c plane, d dot) {
		if c.smooth() {
			curves, dots = append(curves, c), append(dots, d)
		}
	}
	for _, d := range []dot{{next(), next()}, {zero, next()}, {next(), zero}, {zero, zero}, {last, last}, {last, next()}} {
		for _, a := range []*big.Int{next(), zero, last, new(big.Int).Sub(whole, big.NewInt(3))} {
			add(through(whole, a, d), d)
		}
	}
	x := next()
	add(plane{whole, x, zero}, dot{zero, zero})
	add(plane{whole, new(big.Int).Mod(new(big.Int).Neg(new(big.Int).Mul(x, x)), whole), zero}, dot{x, zero})
	return curves, dots
}

// at is a point of two words.
func at(x, y uint64) api.Point { return api.Point{X: nat.Of(x), Y: nat.Of(y)} }

// over is a curve of three words.
func over(p, a, b uint64) api.Curve { return api.Curve{P: nat.Of(p), A: nat.Of(a), B: nat.Of(b)} }

// same tells whether two points are the same, in the same words.
func same(p, q api.Point) bool {
	return p.Far == q.Far && slices.Equal(p.X, q.X) && slices.Equal(p.Y, q.Y)
}

// sameCurve tells whether two curves are the same, in the same words.
func sameCurve(c, d api.Curve) bool {
	return slices.Equal(c.P, d.P) && slices.Equal(c.A, d.A) && slices.Equal(c.B, d.B)
}

// want says what is wrong with an answer, if it is not the same, or has another error.
func want[A any](t *testing.T, is func(A, A) bool, got A, e api.Errno, right A, rightE api.Errno, call string, args ...any) {
	t.Helper()
	if e != rightE {
		t.Errorf("%s of %v: error %d, not %d", call, args, e, rightE)
	}
	if !is(got, right) {
		t.Errorf("%s of %v: %v, not %v", call, args, got, right)
	}
}

func wantNumber(t *testing.T, got api.Nat, e api.Errno, right api.Nat, rightE api.Errno, call string, args ...any) {
	t.Helper()
	want(t, slices.Equal[api.Nat], got, e, right, rightE, call, args...)
}

func wantCurve(t *testing.T, got api.Curve, e api.Errno, right api.Curve, rightE api.Errno, call string, args ...any) {
	t.Helper()
	want(t, sameCurve, got, e, right, rightE, call, args...)
}

func wantBytes(t *testing.T, got []byte, e api.Errno, right []byte, rightE api.Errno, call string, args ...any) {
	t.Helper()
	want(t, bytes.Equal, got, e, right, rightE, call, args...)
}

func wantPoint(t *testing.T, got api.Point, e api.Errno, right api.Point, rightE api.Errno, call string, args ...any) {
	t.Helper()
	want(t, same, got, e, right, rightE, call, args...)
}

// wantAt says what is wrong with an answer of At.
func wantAt(t *testing.T, got api.Point, is bool, right api.Point, rightIs bool, call string, args ...any) {
	t.Helper()
	if is != rightIs || !same(got, right) {
		t.Errorf("%s of %v: %v, %t, not %v, %t", call, args, got, is, right, rightIs)
	}
}

// asker asks of a curve, and knows what the answers should be. All is asked twice, so that it is the same again (R5).
type asker struct {
	*testing.T
	c       api.Curve
	in      plane
	e       api.Errno // the curve's
	isPrime bool
}

func askerOf(t *testing.T, c api.Curve) asker {
	in, e := planeOf(c)
	return asker{t, c, in, e, e == api.OK && in.p.ProbablyPrime(1)}
}

func (w asker) j() {
	w.Helper()
	right, e := api.Nat(nil), w.e
	if e == api.OK {
		right, e = w.in.j()
	}
	for range 2 {
		got, gotE := J(w.c)
		wantNumber(w.T, got, gotE, right, e, "P18.1: J", w.c)
	}
}

func (w asker) twist(d api.Nat) {
	w.Helper()
	right, e := api.Curve{}, w.e
	if e == api.OK {
		right, e = w.in.twist(d)
	}
	for range 2 {
		got, gotE := Twist(w.c, d)
		wantCurve(w.T, got, gotE, right, e, "P18.1: Twist", w.c, d)
	}
}

// at asks At, for an odd Y and for an even one.
func (w asker) at(x api.Nat) {
	w.Helper()
	for _, odd := range []bool{false, true} {
		got, is := At(w.c, x, odd)
		again, isAgain := At(w.c, x, odd)
		wantAt(w.T, again, isAgain, got, is, "R5: At", w.c, x, odd)
		switch {
		case w.e != api.OK || !below(x, w.in.p):
			wantAt(w.T, got, is, api.Point{}, false, "P18.2: At", w.c, x, odd)
		case w.isPrime:
			right, rightIs := api.Point{}, false
			if d, is := w.in.at(numberOf(x), odd); is {
				right, rightIs = d.point(), true
			}
			wantAt(w.T, got, is, right, rightIs, "P18.2: At", w.c, x, odd)
		case !is:
			wantAt(w.T, got, is, api.Point{}, false, "R2: At of no prime", w.c, x, odd)
		}
	}
}

// pack asks Pack, and Unpack for what it told.
func (w asker) pack(p api.Point) {
	w.Helper()
	right, e := []byte(nil), w.e
	if e == api.OK {
		e = api.ErrPoint
		if d, is := w.in.has(p); is {
			right, e = w.in.pack(d), api.OK
		}
	}
	for range 2 {
		got, gotE := Pack(w.c, p)
		wantBytes(w.T, got, gotE, right, e, "P18.3: Pack", w.c, p)
	}
	if e != api.OK {
		return
	}
	w.unpack(right)
	if w.isPrime {
		back, backE := Unpack(w.c, right)
		wantPoint(w.T, back, backE, p, api.OK, "P18.3: Unpack of Pack", w.c, p)
	}
}

// unpack asks Unpack, and Pack for what it told.
func (w asker) unpack(b []byte) {
	w.Helper()
	got, e := Unpack(w.c, b)
	again, againE := Unpack(w.c, b)
	wantPoint(w.T, again, againE, got, e, "R5: Unpack", w.c, b)
	right, rightE := api.Point{}, w.e
	if w.e == api.OK {
		rightE = api.ErrBytes
	}
	if w.isPrime {
		if d, is := w.in.unpack(b); is {
			right, rightE = d.point(), api.OK
		}
	} else if e == api.OK && w.e == api.OK {
		right, rightE = got, api.OK
		if _, is := w.in.has(got); !is {
			w.Errorf("P18.3: Unpack of %v, %x, of no prime: %v, which is not on it", w.c, b, got)
		}
	}
	wantPoint(w.T, got, e, right, rightE, "P18.3: Unpack", w.c, b)
	if rightE == api.OK {
		back, backE := Pack(w.c, got)
		wantBytes(w.T, back, backE, b, api.OK, "P18.3: Pack of Unpack", w.c, got)
	}
}

func TestSamples(t *testing.T) {
	type class struct{ size, rest int }
	found := map[class]bool{}
	for _, p := range primes() {
		found[class{nat.Bits(p), int(p[0] % 4)}] = true
		if !numberOf(p).ProbablyPrime(20) {
			t.Errorf("%v is no prime", p)
		}
	}
	for _, size := range []int{3, 8, 9, 31, 63, 64, 65, 128, 129, api.MaxField} {
		if !found[class{size, 1}] || !found[class{size, 3}] {
			t.Errorf("no primes of %d bits", size)
		}
	}
	for _, o := range others() {
		divisor := new(big.Int).SetUint64(o.divisor)
		found[class{nat.Bits(o.p), 0}] = true
		rest := new(big.Int).Mod(numberOf(o.p), divisor)
		if !divisor.ProbablyPrime(20) || numberOf(o.p).Cmp(divisor) <= 0 || rest.Sign() != 0 {
			t.Errorf("%d is no prime that goes into %v", o.divisor, o.p)
		}
	}
	for _, size := range []int{4, 8, 9, 31, 63, 64, 65, 128, 129, api.MaxField} {
		if !found[class{size, 0}] {
			t.Errorf("no number of %d bits that is no prime", size)
		}
	}
	for _, p := range moduli() {
		curves, dots := samples(p)
		zeros := [4]int{} // A, B, X, Y
		for i, c := range curves {
			if _, is := c.has(dots[i].point()); !is {
				t.Errorf("%v is not on %v", dots[i], c)
			}
			for k, a := range []*big.Int{c.a, c.b, dots[i].x, dots[i].y} {
				if a.Sign() == 0 {
					zeros[k]++
				}
			}
		}
		if p[0]%9 == 0 && len(p) == 1 { // 27 leaves nothing by 9: there is no curve without an A
			zeros[0]++
		}
		if len(curves) < 10 || slices.Min(zeros[:]) == 0 {
			t.Errorf("%d samples alone by %v, of which %v have a 0", len(curves), p, zeros)
		}
	}
}

func TestExamples(t *testing.T) {
	c := over(5, 1, 1)
	j, e := J(c)
	wantNumber(t, j, e, api.Nat{2}, api.OK, "P18.1: J", c)
	twin, e := Twist(c, api.Nat{2})
	wantCurve(t, twin, e, over(5, 4, 3), api.OK, "P18.1: Twist", c, 2)
	b, e := Pack(c, at(4, 2))
	wantBytes(t, b, e, []byte{2, 4}, api.OK, "P18.3: Pack", c, "(4, 2)")
}

// TestByHandJ and those behind it have answers that were not made by this file's other ways.
func TestByHandJ(t *testing.T) {
	for _, n := range []struct {
		c    api.Curve
		want uint64
		e    api.Errno
	}{
		{over(5, 1, 1), 2, api.OK}, {over(7, 1, 1), 1, api.OK}, {over(23, 1, 4), 11, api.OK},
		{over(5, 0, 1), 0, api.OK}, {over(7, 0, 1), 0, api.OK}, {over(1<<61-1, 0, 1), 0, api.OK},
		{over(5, 4, 0), 3, api.OK}, {over(7, 1, 0), 6, api.OK}, {over(1723, 1, 0), 5, api.OK}, {over(1733, 1, 0), 1728, api.OK}, {over(1<<61-1, 12345, 0), 1728, api.OK},
		// No primes: with an inverse, and without one.
		{over(15, 1, 1), 12, api.OK}, {over(15, 1, 0), 3, api.OK}, {over(9, 1, 8), 0, api.OK}, {over(15, 5, 3), 0, api.OK}, {over(35, 0, 1), 0, api.OK},
		{over(15, 0, 1), 0, api.ErrInv}, {over(25, 2, 2), 0, api.ErrInv}, {over(9, 0, 1), 0, api.ErrCurve}, {over(7, 4, 2), 0, api.ErrCurve}, {over(7, 0, 0), 0, api.ErrCurve},
	} {
		got, e := J(n.c)
		wantNumber(t, got, e, nat.Of(n.want), n.e, "P18.1: J", n.c)
		askerOf(t, n.c).j()
	}
}

func TestByHandTwist(t *testing.T) {
	none := api.Curve{}
	c := over(5, 1, 1)
	for _, n := range []struct {
		c    api.Curve
		d    api.Nat
		want api.Curve
		e    api.Errno
	}{
		{c, api.Nat{1}, c, api.OK}, {c, api.Nat{2}, over(5, 4, 3), api.OK}, {c, api.Nat{3}, over(5, 4, 2), api.OK}, {c, api.Nat{4}, over(5, 1, 4), api.OK},
		{over(5, 4, 3), api.Nat{3}, c, api.OK}, {over(7, 0, 1), api.Nat{3}, over(7, 0, 6), api.OK}, {over(7, 1, 0), api.Nat{3}, over(7, 2, 0), api.OK},
		{c, nil, none, api.ErrArg}, {c, api.Nat{}, none, api.ErrArg}, {c, api.Nat{0}, none, api.ErrArg}, {c, api.Nat{0, 0, 0}, none, api.ErrArg},
		{c, api.Nat{5}, none, api.ErrArg}, {c, api.Nat{6}, none, api.ErrArg}, {c, api.Nat{7}, none, api.ErrArg}, {c, api.Nat{all}, none, api.ErrArg},
		{c, api.Nat{2, 0}, none, api.ErrArg}, {c, api.Nat{2, 1}, none, api.ErrArg}, {c, api.Nat{0, 1}, none, api.ErrArg}, {c, oneAt(99999), none, api.ErrArg},
		// No primes: d has a factor in common with 15, and what comes of it may not be, or may.
		{over(15, 0, 1), api.Nat{5}, none, api.ErrCurve}, {over(15, 0, 1), api.Nat{10}, none, api.ErrCurve}, {over(15, 0, 1), api.Nat{3}, over(15, 0, 12), api.OK}, {over(15, 0, 1), api.Nat{6}, over(15, 0, 6), api.OK},
		{over(9, 1, 8), api.Nat{3}, none, api.ErrCurve}, {over(9, 1, 8), api.Nat{2}, over(9, 4, 1), api.OK}, {over(15, 0, 1), api.Nat{15}, none, api.ErrArg},
	} {
		got, e := Twist(n.c, n.d)
		wantCurve(t, got, e, n.want, n.e, "P18.1: Twist", n.c, n.d)
		askerOf(t, n.c).twist(n.d)
	}
}

func TestByHandAt(t *testing.T) {
	five, bent := over(5, 1, 1), over(5, 4, 0) // of bent (0, 0), (1, 0), (2, 1), (2, 4), (3, 2), (3, 3), (4, 0)
	none := api.Point{}
	for _, n := range []struct {
		c         api.Curve
		x         api.Nat
		even, odd api.Point
	}{
		{five, nil, at(0, 4), at(0, 1)}, {five, api.Nat{}, at(0, 4), at(0, 1)}, {five, api.Nat{1}, none, none}, {five, api.Nat{2}, at(2, 4), at(2, 1)}, {five, api.Nat{3}, at(3, 4), at(3, 1)}, {five, api.Nat{4}, at(4, 2), at(4, 3)},
		{five, api.Nat{5}, none, none}, {five, api.Nat{7}, none, none}, {five, api.Nat{2, 0}, none, none}, {five, api.Nat{2, 1}, none, none}, {five, api.Nat{0}, none, none}, {five, oneAt(99999), none, none},
		{bent, api.Nat{2}, at(2, 4), at(2, 1)}, {bent, api.Nat{3}, at(3, 2), at(3, 3)},
	} {
		got, is := At(n.c, n.x, false)
		wantAt(t, got, is, n.even, !same(n.even, none), "P18.2: At", n.c, n.x, "even")
		got, is = At(n.c, n.x, true)
		wantAt(t, got, is, n.odd, !same(n.odd, none), "P18.2: At", n.c, n.x, "odd")
	}
	for _, x := range []uint64{0, 1, 4} { // of 0, 0 there are the point's words alone to tell it from none
		got, is := At(bent, nat.Of(x), false)
		wantAt(t, got, is, at(x, 0), true, "P18.2: At", bent, x, "even")
		got, is = At(bent, nat.Of(x), true)
		wantAt(t, got, is, none, false, "P18.2: At", bent, x, "odd")
	}
}

// TestByHandBytes has all points of three curves, and what says nothing.
func TestByHandBytes(t *testing.T) {
	far := api.Point{Far: true}
	for _, n := range []struct {
		c api.Curve
		p api.Point
		b []byte
	}{
		{over(5, 1, 1), far, []byte{0}}, {over(5, 1, 1), at(0, 1), []byte{3, 0}}, {over(5, 1, 1), at(0, 4), []byte{2, 0}}, {over(5, 1, 1), at(2, 1), []byte{3, 2}}, {over(5, 1, 1), at(2, 4), []byte{2, 2}},
		{over(5, 1, 1), at(3, 1), []byte{3, 3}}, {over(5, 1, 1), at(3, 4), []byte{2, 3}}, {over(5, 1, 1), at(4, 2), []byte{2, 4}}, {over(5, 1, 1), at(4, 3), []byte{3, 4}},
		{over(5, 4, 0), far, []byte{0}}, {over(5, 4, 0), at(0, 0), []byte{2, 0}}, {over(5, 4, 0), at(1, 0), []byte{2, 1}}, {over(5, 4, 0), at(2, 1), []byte{3, 2}}, {over(5, 4, 0), at(2, 4), []byte{2, 2}},
		{over(5, 4, 0), at(3, 2), []byte{2, 3}}, {over(5, 4, 0), at(3, 3), []byte{3, 3}}, {over(5, 4, 0), at(4, 0), []byte{2, 4}},
		// One more bit than a byte has, and points whose X has one byte, two, none.
		{over(257, 0, 1), far, []byte{0}}, {over(257, 0, 1), at(0, 1), []byte{3, 0, 0}}, {over(257, 0, 1), at(0, 256), []byte{2, 0, 0}}, {over(257, 0, 1), at(2, 3), []byte{3, 0, 2}}, {over(257, 0, 1), at(2, 254), []byte{2, 0, 2}}, {over(257, 0, 1), at(256, 0), []byte{2, 1, 0}},
		{over(251, 0, 1), at(250, 0), []byte{2, 250}}, {over(65537, 0, 1), at(65536, 0), []byte{2, 1, 0, 0}}, {over(65521, 0, 1), at(65520, 0), []byte{2, 255, 240}},
		{over(all-58, 0, 1), at(2, 3), []byte{3, 0, 0, 0, 0, 0, 0, 0, 2}}, {api.Curve{P: api.Nat{13, 1}, B: api.Nat{1}}, at(2, 3), []byte{3, 0, 0, 0, 0, 0, 0, 0, 0, 2}}, {api.Curve{P: api.Nat{13, 1}, B: api.Nat{1}}, api.Point{X: api.Nat{12, 1}}, []byte{2, 1, 0, 0, 0, 0, 0, 0, 0, 12}},
	} {
		b, e := Pack(n.c, n.p)
		wantBytes(t, b, e, n.b, api.OK, "P18.3: Pack", n.c, n.p)
		p, e := Unpack(n.c, n.b)
		wantPoint(t, p, e, n.p, api.OK, "P18.3: Unpack", n.c, n.b)
	}
	for _, b := range [][]byte{
		nil, {}, {1}, {2}, {3}, {4}, {255}, {0, 0}, {0, 2}, {0, 0, 0}, {0, 4, 2}, {1, 2}, {4, 2}, {4, 0, 1}, {4, 2, 4}, {5, 2}, {6, 2}, {7, 2}, {18, 2}, {130, 2}, {131, 2},
		{2, 1}, {3, 1}, {2, 5}, {3, 5}, {2, 7}, {3, 7}, {2, 255}, {3, 255}, {2, 0, 2}, {3, 0, 2}, {2, 2, 0}, {3, 2, 0}, {2, 4, 4}, {2, 0, 0}, {3, 0, 0, 0, 0}, {2, 0, 0, 0, 0, 0, 0, 0, 0}, make([]byte, 9999), append([]byte{2}, make([]byte, 9999)...),
	} {
		p, e := Unpack(over(5, 1, 1), b)
		wantPoint(t, p, e, api.Point{}, api.ErrBytes, "P18.3: Unpack of P 5, A 1, B 1", b)
	}
	for _, p := range []api.Point{
		{}, at(0, 2), at(1, 1), at(1, 0), at(2, 2), at(4, 1), at(5, 1), at(0, 6), at(5, 6), at(7, 1), {X: api.Nat{2, 1}, Y: api.Nat{1}}, {X: api.Nat{2}, Y: api.Nat{1, 1}},
		{Far: true, Y: api.Nat{1}}, {Far: true, X: api.Nat{2}, Y: api.Nat{1}}, {Far: true, X: api.Nat{0}}, {Far: true, Y: api.Nat{0}},
		{X: api.Nat{0}, Y: api.Nat{1}}, {X: api.Nat{2, 0}, Y: api.Nat{1}}, {X: api.Nat{2}, Y: api.Nat{1, 0}},
	} {
		b, e := Pack(over(5, 1, 1), p)
		wantBytes(t, b, e, nil, api.ErrPoint, "P18.3: Pack of P 5, A 1, B 1", p)
	}
	for _, b := range [][]byte{{3, 0}, {3, 1}, {3, 4}} {
		p, e := Unpack(over(5, 4, 0), b)
		wantPoint(t, p, e, api.Point{}, api.ErrBytes, "P18.3: Unpack of P 5, A 4, B 0, an odd 0", b)
	}
}

// refused are curves that may not be.
func refused() (out []api.Curve) {
	one := api.Nat{1}
	longest := api.Nat{all, all, all, all}
	out = []api.Curve{
		{}, over(1, 0, 0), over(2, 1, 1), over(3, 1, 1), over(4, 1, 1), over(6, 1, 1), over(all-1, 1, 1), {P: api.Nat{0}, A: one, B: one}, {P: api.Nat{0, 1}, A: one, B: one},
		over(5, 5, 1), over(5, 1, 5), over(5, 6, 1), over(5, 1, 7), over(5, all, all), over(5, 5, 0), over(7, 11, 2),
		{P: api.Nat{5, 0}, A: one, B: one}, {P: api.Nat{5}, A: api.Nat{1, 0}, B: one}, {P: api.Nat{5}, A: one, B: api.Nat{1, 0}}, {P: api.Nat{5}, A: api.Nat{0}, B: one}, {P: api.Nat{5}, A: one, B: api.Nat{0}}, {P: api.Nat{5}, A: one, B: api.Nat{1, 1}},
		{P: more(oneAt(api.MaxField), 1), A: one, B: one}, {P: more(oneAt(api.MaxField), 297), A: one, B: one}, {P: append(longest, 1), A: one, B: one}, {P: loose(longest, 1), A: one, B: one}, {P: append(make(api.Nat, 999), 1), A: one}, {P: longest, A: longest, B: one},
		over(5, 0, 0), over(7, 0, 0), over(7, 4, 2), over(9, 3, 1), over(9, 0, 1), over(35, 32, 2), {P: longest}, {P: api.Nat{all - 188, all, all, all}},
	}
	for _, p := range moduli() {
		three, two := less(p, 3), api.Nat{2} // 4 times -27, and 27 times 4
		out = append(out, api.Curve{P: p, A: three, B: two}, api.Curve{P: p}, api.Curve{P: p, A: p, B: p}, api.Curve{P: loose(p, 1), A: three, B: one}, api.Curve{P: p, A: loose(three, 1), B: one}, api.Curve{P: p, A: one, B: nat.Shl(p, 64)})
	}
	return out
}

// TestRefused has May's error ahead of whatever else is wrong.
func TestRefused(t *testing.T) {
	seen := map[api.Errno]int{}
	for _, c := range refused() {
		w := askerOf(t, c)
		if seen[w.e]++; w.e == api.OK || curve.May(c) != w.e {
			t.Errorf("%v may be, or May says %d, not %d", c, curve.May(c), w.e)
		}
		w.j()
		for _, d := range []api.Nat{nil, {1}, {2}, {0}, {1, 0}, less(append(slices.Clone(c.P), 1), 1), c.P, more(c.P, 1)} {
			w.twist(d)
			w.at(d)
		}
		for _, p := range []api.Point{{Far: true}, {}, at(0, 1), at(1, 1), {Far: true, X: api.Nat{1}}, {X: c.P, Y: c.P}, {X: api.Nat{0}, Y: api.Nat{1, 0}}} {
			w.pack(p)
		}
		for _, b := range [][]byte{nil, {0}, {2}, {3}, {2, 0}, {3, 1}, {4, 1}, {0, 0}, append([]byte{2}, make([]byte, (nat.Bits(c.P)+7)/8)...), make([]byte, 99)} {
			w.unpack(b)
		}
	}
	if seen[api.ErrArg] < 20 || seen[api.ErrCurve] < 20 {
		t.Errorf("errors of what is refused: %v", seen)
	}
}

// tiny is a small curve, of which all is found by going through all numbers.
type tiny struct{ p, a, b int }

func (c tiny) curve() api.Curve { return over(uint64(c.p), uint64(c.a), uint64(c.b)) }

// steep is 4 A^3 and 27 B^2.
func (c tiny) steep() int { return (4*c.a*c.a*c.a + 27*c.b*c.b) % c.p }

// has is the equation, of numbers of any size.
func (c tiny) has(x, y int) bool {
	return x < c.p && y < c.p && (y*y-x*x*x-c.a*x-c.b)%c.p == 0
}

// count is that of all points, O among them.
func (c tiny) count() int {
	out := 1
	for x := range c.p {
		for y := range c.p {
			if c.has(x, y) {
				out++
			}
		}
	}
	return out
}

// j is the number by which what J divides by is what it divides, and whether there is one alone.
func (c tiny) j() (out int, is bool) {
	found := 0
	for j := range c.p {
		if (j*c.steep()-1728%c.p*(4*c.a*c.a*c.a%c.p))%c.p == 0 {
			out = j
			found++
		}
	}
	return out, found == 1
}

// isSquare tells whether d is that of a number.
func (c tiny) isSquare(d int) bool {
	return slices.ContainsFunc(c.numbers(), func(x int) bool { return x*x%c.p == d })
}

// numbers are those below P.
func (c tiny) numbers() (out []int) {
	for x := range c.p {
		out = append(out, x)
	}
	return out
}

// twist is what comes of the curve, whether it may be or not.
func (c tiny) twist(d int) tiny { return tiny{c.p, c.a * d * d % c.p, c.b * d * d * d % c.p} }

// tinies are all curves over p that may be.
func tinies(p int) (out []tiny) {
	for a := range p {
		for b := range p {
			if c := (tiny{p, a, b}); c.steep() != 0 {
				out = append(out, c)
			}
		}
	}
	return out
}

// point is a pair of small numbers in words.
func point(x, y int) api.Point { return at(uint64(x), uint64(y)) }

// TestSmallWhole has all calls of all curves over the smallest primes.
func TestSmallWhole(t *testing.T) {
	t.Parallel()
	for _, p := range []int{5, 7, 11, 13} {
		for _, c := range tinies(p) {
			j, is := c.j()
			if !is {
				t.Errorf("no J of %v", c)
			}
			got, e := J(c.curve())
			wantNumber(t, got, e, nat.Of(uint64(j)), api.OK, "P18.1: J", c)
			c.wantTwists(t)
			c.wantAt(t)
			c.wantPack(t)
			c.wantUnpacked(t)
		}
	}
}

// wantTwists asks Twist by all numbers up to some above P.
func (c tiny) wantTwists(t *testing.T) {
	t.Helper()
	for d := range c.p + 3 {
		right, e := c.twist(d).curve(), api.OK
		if d == 0 || d >= c.p {
			right, e = api.Curve{}, api.ErrArg
		} else if c.twist(d).steep() == 0 {
			right, e = api.Curve{}, api.ErrCurve
		}
		got, gotE := Twist(c.curve(), nat.Of(uint64(d)))
		wantCurve(t, got, gotE, right, e, "P18.1: Twist", c, d)
	}
}

// wantAt asks At with all numbers up to some above P, which is a prime.
func (c tiny) wantAt(t *testing.T) {
	t.Helper()
	for x := range c.p + 3 {
		right, is := [2]api.Point{}, [2]bool{}
		for y := range c.p {
			if c.has(x, y) {
				right[y%2], is[y%2] = point(x, y), true
			}
		}
		for i, odd := range []bool{false, true} {
			got, gotIs := At(c.curve(), nat.Of(uint64(x)), odd)
			wantAt(t, got, gotIs, right[i], is[i], "P18.2: At", c, x, odd)
		}
	}
}

// wantPack asks Pack with all numbers up to some above P.
func (c tiny) wantPack(t *testing.T) {
	t.Helper()
	for x := range c.p + 3 {
		for y := range c.p + 3 {
			right, e := []byte(nil), api.ErrPoint
			if c.has(x, y) {
				right, e = []byte{byte(2 + y%2), byte(x)}, api.OK
			}
			got, gotE := Pack(c.curve(), point(x, y))
			wantBytes(t, got, gotE, right, e, "P18.3: Pack", c, x, y)
		}
	}
}

// packed are the bytes of all points, that are found by the equation.
func (c tiny) packed() map[string]api.Point {
	out := map[string]api.Point{"\x00": {Far: true}}
	for x := range c.p {
		for y := range c.p {
			if c.has(x, y) {
				out[string([]byte{byte(2 + y%2), byte(x)})] = point(x, y)
			}
		}
	}
	return out
}

// wantUnpack asks Unpack, and knows all points by their bytes.
func (c tiny) wantUnpack(t *testing.T, packed map[string]api.Point, b ...byte) {
	t.Helper()
	right, is := packed[string(b)]
	e := api.ErrBytes
	if is {
		e = api.OK
	}
	got, gotE := Unpack(c.curve(), b)
	wantPoint(t, got, gotE, right, e, "P18.3: Unpack", c, b)
}

// wantUnpacked asks Unpack with numbers up to some above P, behind several first bytes.
func (c tiny) wantUnpacked(t *testing.T) {
	t.Helper()
	packed := c.packed()
	if len(packed) != c.count() {
		t.Errorf("%v: points share bytes", c)
	}
	c.wantUnpack(t, packed)
	for _, first := range []byte{0, 1, 2, 3, 4, 5, 6, 7, 255} {
		c.wantUnpack(t, packed, first)
		for x := range byte(c.p + 3) {
			c.wantUnpack(t, packed, first, x)
		}
		for x := range byte(c.p) {
			c.wantUnpack(t, packed, first, x, 0)
			c.wantUnpack(t, packed, first, 0, x)
		}
	}
}

// TestAllBytes has all bytes, up to two of them, of some curves.
func TestAllBytes(t *testing.T) {
	t.Parallel()
	for _, c := range []tiny{{5, 1, 1}, {5, 4, 0}, {7, 0, 1}, {13, 1, 0}, {97, 3, 5}, {251, 248, 7}} {
		packed := c.packed()
		c.wantUnpack(t, packed)
		for first := range 256 {
			c.wantUnpack(t, packed, byte(first))
			for x := range 256 {
				c.wantUnpack(t, packed, byte(first), byte(x))
			}
		}
	}
}

// TestTwoBytes has an X that needs two bytes, and all numbers behind 2 and 3 that stand in them, up to more than twice P.
func TestTwoBytes(t *testing.T) {
	t.Parallel()
	for _, c := range []tiny{{257, 0, 1}, {257, 3, 0}, {263, 1, 4}, {509, 506, 11}} {
		w := askerOf(t, c.curve())
		points := 1
		for x := range 65536 {
			if x > 1100 && x%97 > 0 && x < 65500 {
				continue
			}
			for _, first := range []byte{2, 3} {
				b := []byte{first, byte(x >> 8), byte(x)}
				if _, e := Unpack(w.c, b); e == api.OK {
					points++
				}
				w.unpack(b)
			}
		}
		if points != c.count() {
			t.Errorf("P18.3: of %v %d points are unpacked, not %d", c, points, c.count())
		}
	}
}

// TestSmallCounts holds P18.4 by all points, of all curves over the smallest primes with all d.
func TestSmallCounts(t *testing.T) {
	t.Parallel()
	for _, p := range []int{5, 7, 11, 13, 17} {
		counts := map[tiny]int{}
		for _, c := range tinies(p) {
			counts[c] = c.count()
		}
		for c := range counts {
			for d := 1; d < p; d++ {
				c.wantTwins(t, d, func(c tiny) int { return counts[c] })
			}
		}
	}
}

// TestSomeCounts goes on with some curves over greater primes.
func TestSomeCounts(t *testing.T) {
	t.Parallel()
	for _, p := range []int{97, 103, 251, 257, 263} {
		for i, c := range []tiny{{p, 1, 1}, {p, 0, 2}, {p, 3, 0}, {p, p - 3, 5}} {
			for _, d := range []int{1, 2, 3, 5, 7 + i, p / 2, p - 1} {
				c.wantTwins(t, d, tiny.count)
			}
		}
	}
}

// wantTwins holds a curve against its Twist.
func (c tiny) wantTwins(t *testing.T, d int, count func(tiny) int) {
	t.Helper()
	told, e := Twist(c.curve(), nat.Of(uint64(d)))
	twin := c.twist(d)
	wantCurve(t, told, e, twin.curve(), api.OK, "P18.1: Twist", c, d)
	if one, two := count(c), count(twin); c.isSquare(d) && one != two || !c.isSquare(d) && one+two != 2*c.p+2 {
		t.Errorf("P18.4: %v has %d points, its Twist by %d has %d", c, one, d, two)
	}
	wantSameJ(t, c.curve(), told)
	inverse := slices.IndexFunc(c.numbers(), func(x int) bool { return x*d%c.p == 1 })
	back, e := Twist(told, nat.Of(uint64(inverse)))
	wantCurve(t, back, e, c.curve(), api.OK, "P18.1: Twist by the inverse", told, inverse)
}

// wantSameJ holds the J of both.
func wantSameJ(t *testing.T, c, twin api.Curve) {
	t.Helper()
	one, e := J(c)
	two, twoE := J(twin)
	wantNumber(t, two, twoE, one, e, "P18.4: J of a Twist", c, twin)
}

// TestSmallOnesOfNoPrimes has all curves over the smallest odd numbers that are no primes.
func TestSmallOnesOfNoPrimes(t *testing.T) {
	t.Parallel()
	seen := map[string]int{}
	for _, p := range []int{9, 15, 21, 25, 27, 35} {
		for _, c := range tinies(p) {
			got, e := J(c.curve())
			if j, is := c.j(); is {
				wantNumber(t, got, e, nat.Of(uint64(j)), api.OK, "P18.1: J", c)
				seen["J"]++
			} else {
				wantNumber(t, got, e, nil, api.ErrInv, "P18.1: J", c)
				seen["no J"]++
			}
			c.wantTwists(t)
			if (c.a+c.b)%3 == 0 {
				c.wantPack(t)
			}
			w := askerOf(t, c.curve())
			for x := range p + 3 {
				w.at(nat.Of(uint64(x)))
				for _, first := range []byte{0, 1, 2, 3, 4} {
					w.unpack([]byte{first, byte(x)})
				}
			}
		}
	}
	if seen["J"] < 100 || seen["no J"] < 100 {
		t.Errorf("of how many there is a J: %v", seen)
	}
}

// factors are numbers by which a Twist may be asked for, and others.
func factors(p api.Nat) []api.Nat {
	next := row(numberOf(p), p[0]+1)
	d := next()
	square := new(big.Int).Mul(d, d)
	return []api.Nat{
		nil, {}, {1}, {2}, {3}, {4}, less(p, 1), less(p, 2), nat.Shr(p, 1), wordsOf(d), wordsOf(square.Mod(square, numberOf(p))), wordsOf(next()), wordsOf(next()),
		p, more(p, 1), nat.Add(p, p), nat.Shl(p, 64), append(slices.Clone(p), 1), append(loose(p, 4-len(p)), 1), oneAt(4096),
		{0}, {0, 0}, {1, 0}, {2, 0, 0}, loose(wordsOf(d), 1), loose(less(p, 1), 3), loose(p, 1), make(api.Nat, 300),
	}
}

// beside are points of which most are not on the curve, close to one that is.
func beside(p api.Nat, on api.Point) []api.Point {
	x, y := on.X, on.Y
	return []api.Point{
		{}, {X: x}, {Y: y}, {X: y, Y: x}, {X: x, Y: more(y, 1)}, {X: more(x, 1), Y: y}, {X: x, Y: nat.Shr(p, 1)},
		{Far: true, X: x, Y: y}, {Far: true, X: api.Nat{1}}, {Far: true, Y: api.Nat{1}}, {Far: true, X: api.Nat{0}}, {Far: true, Y: api.Nat{0}}, {Far: true, X: p, Y: p},
		{X: nat.Add(x, p), Y: y}, {X: x, Y: nat.Add(y, p)}, {X: p, Y: y}, {X: x, Y: p}, {X: p, Y: p}, {X: more(p, 1), Y: y}, {X: x, Y: more(p, 1)},
		{X: loose(x, 1), Y: y}, {X: x, Y: loose(y, 1)}, {X: loose(x, 3), Y: loose(y, 2)}, {X: append(loose(x, 4-len(x)), 1), Y: y}, {X: append(loose(x, 99), 1), Y: append(loose(y, 99), 1)},
	}
}

// shaped are bytes close to those of a point, of which most say nothing.
func shaped(p api.Nat, packed []byte) (out [][]byte) {
	digits := packed[1:]
	for _, first := range []byte{0, 1, 2, 3, 4, 5, 6, 7, 8, 127, 128, 130, 254, 255} {
		out = append(out, []byte{first}, append([]byte{first}, digits...))
	}
	size := len(digits)
	for _, first := range []byte{2, 3} {
		out = append(out, append([]byte{first}, digits[1:]...), append([]byte{first}, digits[:size-1]...), slices.Concat([]byte{first, 0}, digits), slices.Concat([]byte{first}, digits, []byte{0}), slices.Concat([]byte{first}, digits, digits), slices.Concat([]byte{first, 0}, digits[:size-1]))
		for _, x := range []api.Nat{nil, {1}, {2}, {255}, less(p, 1), p, more(p, 1), nat.Add(p, nat.FromBytes(digits)), less(oneAt(8*size), 1), oneAt(8*size - 1)} {
			if nat.Bits(x) <= 8*size {
				out = append(out, append([]byte{first}, numberOf(x).FillBytes(make([]byte, size))...))
			}
		}
	}
	return append(out, nil, []byte{}, []byte{0, 0}, make([]byte, size+1), append([]byte{4}, slices.Concat(digits, digits)...), make([]byte, 500))
}

// TestCurves asks all of samples of all lengths, primes and others.
func TestCurves(t *testing.T) {
	for _, p := range moduli() {
		t.Run(numberOf(p).Text(16), func(t *testing.T) {
			t.Parallel()
			curves, dots := samples(p)
			for i, c := range curves {
				w := askerOf(t, c.curve())
				w.j()
				on := dots[i].point()
				for _, x := range []api.Nat{on.X, nil, less(p, 1)} {
					w.at(x)
				}
				for _, q := range []api.Point{{Far: true}, {Far: true, X: api.Nat{}, Y: api.Nat{}}, on, c.neg(dots[i]).point()} {
					w.pack(q)
				}
				if i%4 == 2 {
					w.whole(on)
				}
			}
		})
	}
}

// whole asks with much, of which most is wrong.
func (w asker) whole(on api.Point) {
	w.Helper()
	for _, d := range factors(w.c.P) {
		w.twist(d)
		w.at(d)
	}
	for _, p := range beside(w.c.P, on) {
		w.pack(p)
	}
	d, _ := w.in.has(on)
	for _, b := range shaped(w.c.P, w.in.pack(d)) {
		w.unpack(b)
	}
}

// TestLowX has points whose X has noughts in its highest bytes: the first of each curve, and those at one more byte each.
func TestLowX(t *testing.T) {
	t.Parallel()
	for _, p := range primes() {
		curves, _ := samples(p)
		w := askerOf(t, curves[0].curve())
		for place := 0; place < nat.Bits(p); place += 8 {
			x := nat.Shl(api.Nat{1}, place)
			for range 3 {
				w.at(x)
				if q, is := At(w.c, x, place%16 == 0); is {
					w.pack(q)
				}
				x = more(x, 1)
			}
		}
	}
}

// TestLengths has how many bytes an X is, by lengths that were counted by hand.
func TestLengths(t *testing.T) {
	for _, n := range []struct {
		p    api.Nat
		want int
	}{
		{api.Nat{5}, 1}, {api.Nat{127}, 1}, {api.Nat{131}, 1}, {api.Nat{251}, 1}, {api.Nat{255}, 1}, {api.Nat{257}, 2}, {api.Nat{65521}, 2}, {api.Nat{65537}, 3}, {api.Nat{1<<24 - 3}, 3}, {api.Nat{1<<24 + 43}, 4},
		{api.Nat{1<<31 - 1}, 4}, {api.Nat{1<<32 - 5}, 4}, {api.Nat{1<<32 + 15}, 5}, {api.Nat{1<<56 - 5}, 7}, {api.Nat{1<<56 + 81}, 8}, {api.Nat{1<<63 - 25}, 8}, {api.Nat{all - 58}, 8}, {api.Nat{13, 1}, 9},
		{api.Nat{all, 1<<63 - 1}, 16}, {api.Nat{all - 158, all}, 16}, {api.Nat{51, 0, 1}, 17}, {api.Nat{all, all - 1, all}, 24}, {api.Nat{133, 0, 0, 1}, 25}, {api.Nat{1, 0, 0, 1 << 63}, 32}, {api.Nat{all - 188, all, all, all}, 32},
	} {
		c := api.Curve{P: n.p, B: api.Nat{1}}
		for _, q := range []api.Point{at(0, 1), at(2, 3), {X: less(n.p, 1)}} {
			b, e := Pack(c, q)
			if len(b) != 1+n.want || e != api.OK {
				t.Errorf("P18.3: Pack of %v, %v: %x, error %d", c, q, b, e)
			}
			askerOf(t, c).pack(q)
		}
	}
}

// TestGreatTwists holds P18.4 at each X alone: the right side of the Twist at d X is d^3 times that at X.
func TestGreatTwists(t *testing.T) {
	for _, p := range primes() {
		t.Run(numberOf(p).Text(16), func(t *testing.T) {
			t.Parallel()
			curves, dots := samples(p)
			for i, c := range curves {
				if i%5 == 0 {
					wantGreatTwins(t, c, dots[i])
				}
			}
		})
	}
}

// wantGreatTwins holds a curve against Twists by several d.
func wantGreatTwins(t *testing.T, c plane, on dot) {
	t.Helper()
	next := row(c.p, c.a.Uint64())
	one := big.NewInt(1)
	for k := range 6 {
		d := c.plus(one, new(big.Int).Mod(next(), new(big.Int).Sub(c.p, one)))
		if k%3 == 2 {
			d = c.times(d, d)
		}
		told, e := Twist(c.curve(), wordsOf(d))
		wantCurve(t, told, e, plane{c.p, c.times(c.a, d, d), c.times(c.b, d, d, d)}.curve(), api.OK, "P18.1: Twist", c, d)
		wantSameJ(t, c.curve(), told)
		back, e := Twist(told, wordsOf(new(big.Int).ModInverse(d, c.p)))
		wantCurve(t, back, e, c.curve(), api.OK, "P18.1: Twist by the inverse", told, d)
		for _, x := range []*big.Int{on.x, new(big.Int), next(), next(), next()} {
			here, there := pointsAt(c.curve(), x), pointsAt(told, c.times(d, x))
			if isSquare := big.Jacobi(d, c.p) == 1; isSquare && here != there || !isSquare && here+there != 2 {
				t.Errorf("P18.4: %v has %d points at %v, its Twist by %v has %d", c, here, x, d, there)
			}
		}
	}
}

// pointsAt tells how many points there are at an X, by At.
func pointsAt(c api.Curve, x *big.Int) (out int) {
	even, is := At(c, wordsOf(x), false)
	if _, isOdd := At(c, wordsOf(x), true); isOdd {
		out++
	}
	if is {
		out++
	}
	if is && len(even.Y) == 0 { // there is none on the other side, so it counts for both
		return 1
	}
	return out
}

// known is a curve that is in use, a point of it, and how many points there are: a prime.
type known struct {
	c api.Curve
	p api.Point
	n api.Nat
}

// knowns are secp256k1, secp112r1, secp128r1, brainpoolP160r1, P-224 and P-256.
func knowns() (out []known) {
	add := func(p, a, b, x, y, n string) {
		out = append(out, known{api.Curve{P: hex(p), A: hex(a), B: hex(b)}, api.Point{X: hex(x), Y: hex(y)}, hex(n)})
	}
	add("fffffffffffffffffffffffffffffffffffffffffffffffffffffffefffffc2f", "0", "7",
		"79be667ef9dcbbac55a06295ce870b07029bfcdb2dce28d959f2815b16f81798", "483ada7726a3c4655da4fbfc0e1108a8fd17b448a68554199c47d08ffb10d4b8",
		"fffffffffffffffffffffffffffffffebaaedce6af48a03bbfd25e8cd0364141")
	add("db7c2abf62e35e668076bead208b", "db7c2abf62e35e668076bead2088", "659ef8ba043916eede8911702b22", "09487239995a5ee76b55f9c2f098", "a89ce5af8724c0a23e0e0ff77500", "db7c2abf62e35e7628dfac6561c5")
	add("fffffffdffffffffffffffffffffffff", "fffffffdfffffffffffffffffffffffc", "e87579c11079f43dd824993c2cee5ed3", "161ff7528b899b2d0c28607ca52c5b86", "cf5ac8395bafeb13c02da292dded7a83", "fffffffe0000000075a30d1b9038a115")
	add("e95e4a5f737059dc60dfc7ad95b3d8139515620f", "340e7be2a280eb74e2be61bada745d97e8f7c300", "1e589a8595423412134faa2dbdec95c8d8675e58", "bed5af16ea3f6a4f62938c4631eb5af7bdbcdbc3", "1667cb477a1a8ec338f94741669c976316da6321", "e95e4a5f737059dc60df5991d45029409e60fc09")
	for _, c := range []elliptic.Curve{elliptic.P224(), elliptic.P256()} {
		n := c.Params()
		out = append(out, known{api.Curve{P: wordsOf(n.P), A: wordsOf(new(big.Int).Sub(n.P, big.NewInt(3))), B: wordsOf(n.B)}, api.Point{X: wordsOf(n.Gx), Y: wordsOf(n.Gy)}, wordsOf(n.N)})
	}
	return out
}

// TestKnownCounts holds P18.4 by great counts: so many of any point of a Twist come to O.
func TestKnownCounts(t *testing.T) {
	for _, k := range knowns() {
		t.Run(numberOf(k.c.P).Text(16), func(t *testing.T) {
			t.Parallel()
			askerOf(t, k.c).whole(k.p)
			other, _ := nat.Sub(nat.Shl(more(k.c.P, 1), 1), k.n)
			for d := uint64(2); d < 12; d++ {
				told, e := Twist(k.c, nat.Of(d))
				wantCurve(t, told, e, told, api.OK, "P18.1: Twist", k.c, d)
				wantSameJ(t, k.c, told)
				n, not := k.n, other
				if big.Jacobi(new(big.Int).SetUint64(d), numberOf(k.c.P)) == -1 {
					n, not = other, k.n
				}
				q := firstFrom(told, nat.Of(d))
				sum, e := curve.Times(told, n, q)
				wantPoint(t, sum, e, api.Point{Far: true}, api.OK, "P18.4: Times of a Twist's count", told, n, q)
				if sum, _ := curve.Times(told, not, q); sum.Far {
					t.Errorf("P18.4: of %v, %v times %v is O, too", told, not, q)
				}
			}
		})
	}
}

// firstFrom is the first point from an X on.
func firstFrom(c api.Curve, x api.Nat) api.Point {
	for ; ; x = more(x, 1) {
		if p, is := At(c, x, true); is {
			return p
		}
	}
}

// TestKnownBytes has bytes as they stand in what is told of a curve in use.
func TestKnownBytes(t *testing.T) {
	k := knowns()[0]
	digits := numberOf(k.p.X).Bytes()
	neg, _ := curve.Neg(k.c, k.p)
	for _, n := range []struct {
		p     api.Point
		first byte
	}{{k.p, 2}, {neg, 3}} {
		b, e := Pack(k.c, n.p)
		wantBytes(t, b, e, append([]byte{n.first}, digits...), api.OK, "P18.3: Pack of secp256k1's", n.p)
		p, e := Unpack(k.c, b)
		wantPoint(t, p, e, n.p, api.OK, "P18.3: Unpack of secp256k1's", b)
	}
	j, e := J(k.c)
	wantNumber(t, j, e, nil, api.OK, "P18.1: J of secp256k1")
}

// TestLibrary holds bytes against the library's, which are the same but for O.
func TestLibrary(t *testing.T) {
	t.Parallel()
	for i, lib := range []elliptic.Curve{elliptic.P224(), elliptic.P256()} {
		k := knowns()[4+i]
		next := row(lib.Params().P, 6)
		size := (lib.Params().BitSize + 7) / 8
		for range 60 {
			x, y := lib.ScalarBaseMult(next().Bytes())
			b, e := Pack(k.c, dot{x, y}.point())
			wantBytes(t, b, e, elliptic.MarshalCompressed(lib, x, y), api.OK, "P18.3: Pack", k.c, x, y)
			b = append([]byte{2 + b[size]%2}, next().FillBytes(make([]byte, size))...)
			right, rightE := api.Point{}, api.ErrBytes
			if x, y := elliptic.UnmarshalCompressed(lib, b); x != nil {
				right, rightE = dot{x, y}.point(), api.OK
			}
			p, e := Unpack(k.c, b)
			wantPoint(t, p, e, right, rightE, "P18.3: Unpack", k.c, b)
		}
	}
}

// TestNoPrimesFactors has d that has a factor in common with P, by numbers of all lengths that are no primes: what comes of it may be, or not.
func TestNoPrimesFactors(t *testing.T) {
	t.Parallel()
	for _, o := range others() {
		whole, divisor := numberOf(o.p), new(big.Int).SetUint64(o.divisor)
		rest := new(big.Int).Div(whole, divisor)
		curves, dots := samples(o.p)
		for i, c := range curves {
			w := askerOf(t, c.curve())
			for _, d := range []*big.Int{divisor, rest, new(big.Int).Sub(whole, divisor), c.times(rest, big.NewInt(2))} {
				w.twist(wordsOf(d))
			}
			// Of an A and a B that have all of P but the divisor in common there is no inverse.
			for _, shared := range []plane{{whole, new(big.Int), rest}, {whole, rest, new(big.Int)}, {whole, c.times(c.a, divisor), c.times(c.b, divisor)}} {
				n := askerOf(t, shared.curve())
				n.j()
				n.twist(api.Nat{2})
				n.twist(wordsOf(divisor))
				n.twist(wordsOf(rest))
				n.pack(dots[i].point())
			}
		}
	}
}

// TestErrors wants each error of Twist and J by great numbers that are no primes.
func TestErrors(t *testing.T) {
	for _, p := range []api.Nat{{15}, {1<<32 - 1}, {all, all}, {all, all, all, all}} { // 3 and 5 go into them, once each
		third := wordsOf(new(big.Int).Div(numberOf(p), big.NewInt(3)))
		fifth := wordsOf(new(big.Int).Div(numberOf(p), big.NewInt(5)))
		c := api.Curve{P: p, B: api.Nat{1}} // 27: 3 goes into it alone
		j, e := J(c)
		wantNumber(t, j, e, nil, api.ErrInv, "P18.1: J", c)
		twin, e := Twist(c, third)
		wantCurve(t, twin, e, api.Curve{}, api.ErrCurve, "P18.1: Twist", c, third)
		twin, e = Twist(c, fifth)
		if e != api.OK || len(twin.A) != 0 || slices.Equal(twin.B, c.B) || curve.May(twin) != api.OK {
			t.Errorf("P18.1: Twist of %v by %v: %v, error %d", c, fifth, twin, e)
		}
		c = api.Curve{P: p, A: api.Nat{1}} // 4 has an inverse
		j, e = J(c)
		wantNumber(t, j, e, wordsOf(new(big.Int).Mod(big.NewInt(1728), numberOf(p))), api.OK, "P18.1: J", c)
	}
}

// TestAnyWords has words of all kinds in all places: nothing panics, and all that is answered is what the chapter says.
func TestAnyWords(t *testing.T) {
	t.Parallel()
	words := []api.Nat{nil, {}, {0}, {1}, {2}, {5}, {1, 0}, {all}, {all, all, all, all}, append(make(api.Nat, 4), 1), append(make(api.Nat, 300), 7), make(api.Nat, 300)}
	var askers []asker
	for _, p := range []api.Nat{{5}, {7}, {9}, {all}, {all - 58}, {all, all, all, all}, {all - 188, all, all, all}} {
		curves, _ := samples(p)
		askers = append(askers, askerOf(t, curves[0].curve()))
	}
	for i, x := range words {
		for k, y := range words {
			for m, z := range words {
				q := api.Point{X: x, Y: y, Far: m%3 == 0}
				b := []byte{byte(m), byte(i), byte(k), byte(i * k)}[:(i+k)%5]
				for _, w := range []asker{askerOf(t, api.Curve{P: x, A: y, B: z}), askers[(i+k+m)%len(askers)]} {
					w.j()
					w.twist(z)
					w.at(z)
					w.pack(q)
					w.unpack(b)
				}
			}
		}
	}
}

// handed is what the calls may be asked with.
type handed struct {
	c    api.Curve
	d, x api.Nat
	p    api.Point
	b    []byte
}

// numbers are all that a handed has.
func (h *handed) numbers() []*api.Nat {
	return []*api.Nat{&h.c.P, &h.c.A, &h.c.B, &h.d, &h.x, &h.p.X, &h.p.Y}
}

// roomy is a handed in memory of its own, with room behind the end of each list.
func (h handed) roomy() handed {
	for _, x := range h.numbers() {
		*x = append(slices.Clone(*x), 11, 12, 13, 14, 15)[:len(*x)]
	}
	h.b = append(slices.Clone(h.b), 11, 12, 13, 14, 15)[:len(h.b)]
	return h
}

// whole are all lists of a handed, up to the end of their room.
func (h handed) whole() (out memory) {
	for _, x := range h.numbers() {
		out.words = append(out.words, (*x)[:cap(*x)])
	}
	out.bytes = [][]byte{h.b[:cap(h.b)]}
	return out
}

// memory is lists, as they stand.
type memory struct {
	words []api.Nat
	bytes [][]byte
}

func (m memory) copied() (out memory) {
	for _, a := range m.words {
		out.words = append(out.words, slices.Clone(a))
	}
	for _, b := range m.bytes {
		out.bytes = append(out.bytes, slices.Clone(b))
	}
	return out
}

func (m memory) is(other memory) bool {
	return slices.EqualFunc(m.words, other.words, slices.Equal[api.Nat]) && slices.EqualFunc(m.bytes, other.bytes, bytes.Equal)
}

// spoil changes all of a list, what is behind its end too.
func spoil[E byte | uint64](l []E) {
	l = l[:cap(l)]
	for i := range l {
		l[i] = ^l[i]
	}
}

// spoil changes all lists.
func (m memory) spoil() {
	for _, a := range m.words {
		spoil(a)
	}
	for _, b := range m.bytes {
		spoil(b)
	}
}

// answers are the lists of all answers, and what else they tell, as numbers that are none of their memory.
func (h handed) answers() (out memory) {
	add := func(e api.Errno, numbers ...api.Nat) {
		out.words = append(append(out.words, numbers...), nat.Of(uint64(e)))
	}
	addCurve := func(c api.Curve, e api.Errno) { add(e, c.P, c.A, c.B) }
	addPoint := func(p api.Point, e api.Errno) {
		if p.Far {
			e += 100
		}
		add(e, p.X, p.Y)
	}
	addBytes := func(b []byte, e api.Errno) {
		out.bytes = append(out.bytes, b)
		add(e)
	}
	addAt := func(p api.Point, is bool) {
		e := api.OK
		if is {
			e = 1
		}
		addPoint(p, e)
	}
	j, e := J(h.c)
	add(e, j)
	addCurve(Twist(h.c, h.d))
	addCurve(Twist(h.c, api.Nat{1}))
	addAt(At(h.c, h.x, false))
	addAt(At(h.c, h.x, true))
	addAt(At(h.c, h.p.X, false))
	addAt(At(h.c, h.p.X, true))
	addBytes(Pack(h.c, h.p))
	addBytes(Pack(h.c, api.Point{Far: true}))
	addPoint(Unpack(h.c, h.b))
	addPoint(Unpack(h.c, []byte{0}))
	return out
}

// asked are some of which answers might be what was handed in.
func asked() (out []handed) {
	far := api.Point{Far: true}
	for _, p := range []api.Nat{{7}, {13}, {15}, {257}, {1<<63 - 25}, {13, 1}, {all - 188, all, all, all}, {all, all, all, all}} {
		curves, dots := samples(p)
		for i, c := range curves {
			on := dots[i].point()
			b := c.pack(dots[i])
			out = append(out, handed{c.curve(), api.Nat{1}, on.X, on, b}, handed{c.curve(), less(p, 1), on.Y, c.neg(dots[i]).point(), append([]byte{5 - b[0]}, b[1:]...)})
			if i%5 == 0 {
				list, bad := factors(p), beside(p, on)
				for k, b := range shaped(p, b) {
					out = append(out, handed{c.curve(), list[k%len(list)], list[k*3%len(list)], bad[k%len(bad)], b})
				}
				out = append(out, handed{c.curve(), nil, nil, far, []byte{0}})
			}
		}
		out = append(out, handed{api.Curve{P: p}, api.Nat{1}, api.Nat{1}, far, []byte{0}}, handed{api.Curve{P: loose(p, 1), B: api.Nat{1}}, api.Nat{1}, nil, far, []byte{2, 0}})
	}
	return out
}

func TestGivenStays(t *testing.T) {
	for _, h := range asked() {
		in := h.roomy()
		before := in.whole().copied()
		in.answers()
		if got := in.whole(); !got.is(before) {
			t.Errorf("R3: %v: what was handed in became %v", before, got)
		}
	}
}

// TestAnsweredIsNew changes each list of each answer, and looks at what was handed in, at all other lists, and at what is told then.
func TestAnsweredIsNew(t *testing.T) {
	for _, h := range asked() {
		in := h.roomy()
		before := in.whole().copied()
		answers := in.answers()
		first, right := answers.copied(), answers.copied()
		look := func() {
			if !answers.is(right) {
				t.Fatalf("R3: %v: an answer has memory of another one: %v, not %v", before, answers, right)
			}
		}
		for i, a := range answers.words {
			spoil(a)
			right.words[i] = slices.Clone(a)
			look()
		}
		for i, b := range answers.bytes {
			spoil(b)
			right.bytes[i] = slices.Clone(b)
			look()
		}
		if got := in.whole(); !got.is(before) {
			t.Fatalf("R3: %v: an answer has memory of what was handed in, that became %v", before, got)
		}
		if again := in.answers(); !again.is(first) {
			t.Fatalf("R5: %v: %v, not %v", before, again, first)
		}
	}
}

// TestNothingKept spoils what was handed in, and asks again.
func TestNothingKept(t *testing.T) {
	for _, h := range asked() {
		right := h.answers().copied()
		in := h.roomy()
		answers := in.answers()
		in.whole().spoil()
		if !answers.is(right) {
			t.Errorf("R3: %v: answers became %v, not %v", h, answers, right)
		}
		if again := h.answers(); !again.is(right) {
			t.Errorf("R5: %v: %v, not %v", h, again, right)
		}
	}
}

// TestSharedMemory hands in numbers that share memory with each other.
func TestSharedMemory(t *testing.T) {
	for _, p := range moduli() {
		for k := uint64(1); k < 4; k++ {
			x := less(p, k)
			for _, c := range []api.Curve{{P: p, A: x, B: x}, through(numberOf(p), numberOf(x), dot{numberOf(x), numberOf(x)}).curve()} {
				before := slices.Clone(x)
				w := askerOf(t, c)
				w.j()
				w.twist(c.A)
				w.twist(c.P)
				w.at(c.B)
				w.at(c.P)
				w.pack(api.Point{X: x, Y: x})
				w.pack(api.Point{X: c.P, Y: c.P})
				if !slices.Equal(x, before) {
					t.Errorf("R3: %v became %v", before, x)
				}
			}
		}
	}
}

package divpoly

import (
	"math"
	"math/big"
	"os"
	"runtime/debug"
	"slices"
	"strconv"
	"testing"

	"caltrop/api"
	"caltrop/curve"
	"caltrop/nat"
)

const all = math.MaxUint64 // a word whose bits are all 1

// TestMain lets memory be looked through less often: nearly all of it is gone at once, and it takes half of the time else.
func TestMain(m *testing.M) {
	debug.SetGCPercent(400)
	os.Exit(m.Run())
}

// less is a without so many; there are as many.
func less(a api.Nat, count uint64) api.Nat {
	out, _ := nat.Sub(a, nat.Of(count))
	return out
}

// more is a and so many.
func more(a api.Nat, count uint64) api.Nat { return nat.Add(a, nat.Of(count)) }

// loose is a's number in words that may not be, unless noughts is 0.
func loose(a api.Nat, noughts int) api.Nat {
	return append(slices.Clone(a), make(api.Nat, noughts)...)
}

// oneAt is 2^place.
func oneAt(place int) api.Nat {
	a := make(api.Nat, place/64+1)
	a[place/64] = 1 << (place % 64)
	return a
}

// row makes numbers below p without any order to be seen in them; another seed makes another row.
func row(p *big.Int, seed uint64) func() *big.Int {
	return func() *big.Int {
		out := new(big.Int)
		for range 5 {
			seed = seed*6364136223846793005 + 1442695040888963407
			out.Lsh(out, 64)
			out.Add(out, new(big.Int).SetUint64(seed^seed>>29))
		}
		return out.Mod(out, p)
	}
}

// numberOf is the number of words by the words of chapter 2 alone, in numbers of the library.
func numberOf(a api.Nat) *big.Int {
	b := make([]byte, 0, 8*len(a))
	for _, x := range slices.Backward(a) {
		for shift := 56; shift >= 0; shift -= 8 {
			b = append(b, byte(x>>shift))
		}
	}
	return new(big.Int).SetBytes(b)
}

// wordsOf is a number of the library's in words that may be.
func wordsOf(x *big.Int) api.Nat { return nat.FromBytes(x.Bytes()) }

// hex is a number that is written to the base 16.
func hex(text string) api.Nat {
	x, _ := new(big.Int).SetString(text, 16)
	return wordsOf(x)
}

// sizes are the lengths of P, in bits, that are tested.
func sizes() []int {
	return []int{3, 4, 7, 8, 16, 17, 31, 32, 33, 63, 64, 65, 127, 128, 129, 192, 193, 255, api.MaxField}
}

// nextPrime is the next prime from a number on, by steps that are 2, or 2 back.
func nextPrime(a api.Nat, step int64) api.Nat {
	x := numberOf(a)
	x.SetBit(x, 0, 1)
	for !x.ProbablyPrime(10) {
		x.Add(x, big.NewInt(step))
	}
	return wordsOf(x)
}

// primes are the least and the greatest of each length, and primes with many noughts or ones in their bits.
func primes() (out []api.Nat) {
	for _, size := range sizes() {
		out = append(out, nextPrime(oneAt(size-1), 2), nextPrime(less(oneAt(size), 1), -2))
	}
	return append(out, api.Nat{65537}, api.Nat{3<<30 + 1}, api.Nat{1, 1<<64 - 1<<32, all, 1<<32 - 1})
}

// smallPrimes are those from 5 on up to most.
func smallPrimes(most int) (out []int) {
	for p := 5; p <= most; p += 2 {
		if big.NewInt(int64(p)).ProbablyPrime(1) {
			out = append(out, p)
		}
	}
	return out
}

// product is that of all.
func product(factors ...api.Nat) api.Nat {
	out := big.NewInt(1)
	for _, a := range factors {
		out.Mul(out, numberOf(a))
	}
	return wordsOf(out)
}

// power is so many times a.
func power(a api.Nat, count int) api.Nat { return product(slices.Repeat([]api.Nat{a}, count)...) }

// others are odd numbers that are no primes: products of small ones, powers, products of two great ones, and numbers whose bits are all 1.
func others() []api.Nat {
	return []api.Nat{
		{9}, {15}, {21}, {25}, {27}, {33}, {35}, {45}, {49}, {63}, {75}, {77}, {81}, {99}, {105}, {121}, {125}, {315}, {1155}, {3465}, {3599}, {15015}, {65535},
		{1<<31 + 1}, {1<<32 - 1}, {1<<63 - 1}, {1<<63 + 1}, {all}, {all, 1}, {1, 2}, {all, all}, {all, all, 1}, {all, all, all}, {all, all, all, all},
		power(api.Nat{3}, 40), power(api.Nat{5}, 27), power(api.Nat{3}, 161), power(api.Nat{5}, 110), power(api.Nat{7}, 91), power(api.Nat{61}, 43), power(api.Nat{1<<31 - 1}, 2), power(api.Nat{1<<61 - 1}, 2), power(api.Nat{all - 58}, 4),
		product(api.Nat{65521}, api.Nat{65537}), product(api.Nat{1<<31 - 1}, api.Nat{1<<32 - 5}), product(api.Nat{1<<61 - 1}, api.Nat{all - 58}), product(api.Nat{all, 1<<63 - 1}, api.Nat{all - 158, all}),
		product(api.Nat{3}, api.Nat{5}, api.Nat{7}, api.Nat{11}, api.Nat{13}, api.Nat{17}, api.Nat{19}, api.Nat{23}, api.Nat{29}, api.Nat{31}, api.Nat{37}, api.Nat{41}, api.Nat{43}, api.Nat{47}, api.Nat{53}, api.Nat{59}, api.Nat{61}),
	}
}

// list is a polynomial of a ring: numbers below p, the lowest one first, without noughts at the end.
type list = []*big.Int

// ring reckons with polynomials by the chapter's words, in numbers of the library, modulo p.
type ring struct{ p *big.Int }

func ringOf(p api.Nat) ring { return ring{numberOf(p)} }

// of is the polynomial of numbers.
func (r ring) of(a ...*big.Int) list {
	out := make(list, len(a))
	for i, x := range a {
		out[i] = new(big.Int).Mod(x, r.p)
	}
	for len(out) > 0 && out[len(out)-1].Sign() == 0 {
		out = out[:len(out)-1]
	}
	return out
}

func (r ring) minus(a, b list) list {
	out := make(list, max(len(a), len(b)))
	for i := range out {
		out[i] = new(big.Int)
		if i < len(a) {
			out[i].Add(out[i], a[i])
		}
		if i < len(b) {
			out[i].Sub(out[i], b[i])
		}
	}
	return r.of(out...)
}

// times sums up the products of each number and each other one.
func (r ring) times(a, b list) list {
	if len(a) == 0 || len(b) == 0 {
		return nil
	}
	if r.p.BitLen() <= 16 {
		return r.shortTimes(a, b)
	}
	out := make(list, len(a)+len(b)-1)
	for i := range out {
		out[i] = new(big.Int)
	}
	product := new(big.Int)
	for i, x := range a {
		for k, y := range b {
			out[i+k].Add(out[i+k], product.Mul(x, y))
		}
	}
	return r.of(out...)
}

// shortTimes is times of numbers of 16 bits, in words: no list here has so many that their sum goes round.
func (r ring) shortTimes(a, b list) list {
	sums := make([]uint64, len(a)+len(b)-1)
	for i, x := range a {
		for k, y := range b {
			sums[i+k] += x.Uint64() * y.Uint64()
		}
	}
	out := make(list, len(sums))
	for i, x := range sums {
		out[i] = new(big.Int).SetUint64(x)
	}
	return r.of(out...)
}

// product is that of all, from the first one on.
func (r ring) product(factors ...list) list {
	out := r.of(big.NewInt(1))
	for _, a := range factors {
		out = r.times(out, a)
	}
	return out
}

// at is the value at a place, which is a polynomial of one number at most.
func (r ring) at(a list, x *big.Int) list {
	if r.p.BitLen() <= 16 {
		return r.shortAt(a, x.Uint64())
	}
	sum := new(big.Int)
	for _, y := range slices.Backward(a) {
		sum.Mul(sum, x)
		sum.Add(sum, y)
		sum.Mod(sum, r.p)
	}
	return r.of(sum)
}

// shortAt is at, of numbers of 16 bits, in words.
func (r ring) shortAt(a list, x uint64) list {
	p, sum := r.p.Uint64(), uint64(0)
	for _, y := range slices.Backward(a) {
		sum = (sum*x + y.Uint64()) % p
	}
	return r.of(new(big.Int).SetUint64(sum))
}

// plane is a curve in numbers of the library.
type plane struct {
	ring
	a, b *big.Int
}

// fits tells whether words may be.
func fits(a api.Nat) bool { return len(a) == 0 || a[len(a)-1] != 0 }

// below tells whether words may be, and are a number below p.
func below(a api.Nat, p *big.Int) bool { return fits(a) && numberOf(a).Cmp(p) < 0 }

// planeOf is the curve that may be, or P16.1's error.
func planeOf(c api.Curve) (plane, api.Errno) {
	p := numberOf(c.P)
	if !fits(c.P) || p.Bit(0) == 0 || p.Cmp(big.NewInt(5)) < 0 || p.BitLen() > api.MaxField || !below(c.A, p) || !below(c.B, p) {
		return plane{}, api.ErrArg
	}
	out := plane{ring{p}, numberOf(c.A), numberOf(c.B)}
	if !out.smooth() {
		return plane{}, api.ErrCurve
	}
	return out, api.OK
}

// smooth tells whether 4 A^3 + 27 B^2 is other than 0.
func (c plane) smooth() bool {
	ofA, ofB := new(big.Int).Exp(c.a, big.NewInt(3), nil), new(big.Int).Exp(c.b, big.NewInt(2), nil)
	sum := new(big.Int).Add(ofA.Mul(ofA, big.NewInt(4)), ofB.Mul(ofB, big.NewInt(27)))
	return sum.Mod(sum, c.p).Sign() != 0
}

// curve is the plane in words.
func (c plane) curve() api.Curve { return api.Curve{P: wordsOf(c.p), A: wordsOf(c.a), B: wordsOf(c.b)} }

// term is so many times a product of numbers.
func term(count int64, factors ...*big.Int) *big.Int {
	out := big.NewInt(count)
	for _, x := range factors {
		out.Mul(out, x)
	}
	return out
}

// begun are w, F3 and F4, as they stand in the chapter.
func (c plane) begun() (w, third, fourth list) {
	a, b := c.a, c.b
	last := term(-8, b, b)
	last.Sub(last, term(1, a, a, a))
	w = c.of(b, a, term(0), term(1))
	third = c.of(term(-1, a, a), term(12, b), term(6, a), term(0), term(3))
	fourth = c.product(c.of(term(2)), c.of(last, term(-4, a, b), term(-5, a, a), term(20, b), term(5, a), term(0), term(1)))
	return w, third, fourth
}

// grown are F0 to Fmost, each made of those ahead of it.
func (r ring) grown(w, third, fourth list, most int) []list {
	one := r.of(big.NewInt(1))
	out := []list{nil, one, one, third, fourth}
	extra := r.product(r.of(big.NewInt(16)), w, w)
	for n := 5; n <= most; n++ {
		m := n / 2
		if n%2 == 0 {
			out = append(out, r.times(out[m], r.minus(r.product(out[m+2], out[m-1], out[m-1]), r.product(out[m-2], out[m+1], out[m+1]))))
			continue
		}
		first := r.product(out[m+2], out[m], out[m], out[m])
		second := r.product(out[m-1], out[m+1], out[m+1], out[m+1])
		if m%2 == 0 {
			first = r.times(first, extra)
		} else {
			second = r.times(second, extra)
		}
		out = append(out, r.minus(first, second))
	}
	return out[:most+1]
}

// table are the polynomials.
func (c plane) table(most int) []list {
	w, third, fourth := c.begun()
	return c.grown(w, third, fourth, most)
}

// valuesAt are the values of all polynomials at a place, made of numbers alone.
func (c plane) valuesAt(x *big.Int, most int) []list {
	w, third, fourth := c.begun()
	return c.grown(c.at(w, x), c.at(third, x), c.at(fourth, x), most)
}

// words is a polynomial in words that may be.
func words(a list) []api.Nat {
	out := make([]api.Nat, len(a))
	for i, x := range a {
		out[i] = wordsOf(x)
	}
	return out
}

// listOf is a polynomial in numbers of the library.
func listOf(a []api.Nat) list {
	out := make(list, len(a))
	for i, x := range a {
		out[i] = numberOf(x)
	}
	return out
}

// small is a polynomial of numbers of one word.
func small(numbers ...uint64) []api.Nat {
	out := make([]api.Nat, len(numbers))
	for i, x := range numbers {
		out[i] = nat.Of(x)
	}
	return out
}

// same tells whether two polynomials have the same numbers, in the same words.
func same(a, b []api.Nat) bool { return slices.EqualFunc(a, b, slices.Equal[api.Nat]) }

// brief tells a polynomial, of a long one its ends alone.
func brief(a []api.Nat) string {
	text := func(l []api.Nat) (out string) {
		for _, x := range l {
			out += " " + numberOf(x).Text(16)
		}
		return out
	}
	if len(a) <= 16 {
		return "[" + text(a) + " ]"
	}
	return "[" + text(a[:5]) + " .." + text(a[len(a)-5:]) + " ], " + strconv.Itoa(len(a)) + " numbers"
}

// want says what is wrong with an answer, if it is not the same, or has another error.
func want(t *testing.T, got []api.Nat, e api.Errno, right []api.Nat, rightE api.Errno, call string, c api.Curve, n int) {
	t.Helper()
	if e != rightE {
		t.Errorf("%s of %x, %d: error %d, not %d", call, c, n, e, rightE)
	}
	if !same(got, right) {
		t.Errorf("%s of %x, %d: %s, not %s", call, c, n, brief(got), brief(right))
	}
}

// told is the polynomial of a number, which has to be one that may be: in words that may be, below P, without a nought at its end.
func told(t *testing.T, c api.Curve, n int) []api.Nat {
	t.Helper()
	got, e := Of(c, n)
	if e != api.OK {
		t.Fatalf("P19.1: Of %x, %d: error %d", c, n, e)
	}
	p := numberOf(c.P)
	if slices.ContainsFunc(got, func(x api.Nat) bool { return !below(x, p) }) {
		t.Errorf("P19.1: Of %x, %d: %s has numbers that may not be", c, n, brief(got))
	}
	if len(got) > 0 && len(got[len(got)-1]) == 0 {
		t.Errorf("P19.1: Of %x, %d: %s has 0 at its end", c, n, brief(got))
	}
	return got
}

// wantTable holds all n up to most against the chapter's words.
func wantTable(t *testing.T, c plane, most int) {
	t.Helper()
	for n, right := range c.table(most) {
		want(t, told(t, c.curve(), n), api.OK, words(right), api.OK, "P19.1: Of", c.curve(), n)
	}
}

// wantValues holds some n against the chapter's words at some places alone.
func wantValues(t *testing.T, c plane, numbers []int, places ...*big.Int) {
	t.Helper()
	values := make([][]list, len(places))
	for i, x := range places {
		values[i] = c.valuesAt(x, 64)
	}
	for _, n := range numbers {
		got := listOf(told(t, c.curve(), n))
		for i, x := range places {
			if value := c.at(got, x); !same(words(value), words(values[i][n])) {
				t.Errorf("P19.1: Of %x, %d: %x at %x, not %x", c.curve(), n, value, x, values[i][n])
			}
		}
	}
}

// some are all n, or, where P is so great that all would take long, 0 and those that leave one rest by 7, another one for another P.
func some(p api.Nat) []int {
	return slices.DeleteFunc(upTo(64), func(n int) bool {
		return len(p) > 1 && n > 0 && n%7 != int((p[0]/2+p[len(p)-1]/2)%7)
	})
}

// upTo are all numbers from 0 to most.
func upTo(most int) (out []int) {
	for n := range most + 1 {
		out = append(out, n)
	}
	return out
}

// samples are curves modulo p: of A and B 0, P - 1, others, and one of them 0.
func samples(p api.Nat) (out []plane) {
	r := ringOf(p)
	next := row(r.p, p[0])
	zero, one, last := new(big.Int), big.NewInt(1), new(big.Int).Sub(r.p, big.NewInt(1))
	for _, c := range []plane{{r, next(), next()}, {r, zero, next()}, {r, next(), zero}, {r, last, last}, {r, last, next()}, {r, next(), last}, {r, one, one}, {r, zero, one}, {r, one, zero}, {r, zero, last}, {r, last, zero}} {
		if c.smooth() {
			out = append(out, c)
		}
	}
	return out
}

// over is a curve of three words.
func over(p, a, b uint64) api.Curve { return api.Curve{P: nat.Of(p), A: nat.Of(a), B: nat.Of(b)} }

func TestExample(t *testing.T) {
	got, e := Of(over(5, 1, 1), 3)
	want(t, got, e, small(4, 2, 1, 0, 3), api.OK, "P19.1: Of", over(5, 1, 1), 3)
}

// TestFirst has the polynomials that are not made of others, reckoned by hand.
func TestFirst(t *testing.T) {
	for _, one := range []struct {
		c             api.Curve
		third, fourth []api.Nat
	}{
		{over(5, 1, 1), small(4, 2, 1, 0, 3), small(2, 2, 0, 0, 0, 0, 2)},                                    // 2 times -9, -4, -5, 20, 5, 0, 1
		{over(7, 0, 1), small(0, 5, 0, 0, 3), small(5, 0, 0, 5, 0, 0, 2)},                                    // 2 times -8, 0, 0, 20, 0, 0, 1
		{over(7, 1, 0), small(6, 0, 6, 0, 3), small(5, 0, 4, 0, 3, 0, 2)},                                    // 2 times -1, 0, -5, 0, 5, 0, 1
		{over(9, 1, 1), small(8, 3, 6, 0, 3), small(0, 1, 8, 4, 1, 0, 2)},                                    // 2 times -9, -4, -5, 20, 5, 0, 1
		{over(1009, 2, 3), small(1005, 36, 12, 0, 3), small(849, 961, 969, 120, 20, 0, 2)},                   // 2 times -80, -24, -20, 60, 10, 0, 1
		{over(1009, 1008, 1008), small(1008, 997, 1003, 0, 3), small(995, 1001, 999, 969, 999, 0, 2)},        // 2 times -7, -4, -5, -20, -5, 0, 1
		{over(1<<32-5, 0, 1), small(0, 12, 0, 0, 3), small(1<<32-21, 0, 0, 40, 0, 0, 2)},                     // 2 times -8, 0, 0, 20, 0, 0, 1
		{over(all-58, 1, 0), small(all-59, 0, 6, 0, 3), small(all-60, 0, all-68, 0, 10, 0, 2)},               // 2 times -1, 0, -5, 0, 5, 0, 1
		{over(all, 1, 2), small(all-1, 24, 6, 0, 3), small(all-66, all-16, all-10, 80, 10, 0, 2)},            // 2 times -33, -8, -5, 40, 5, 0, 1
		{over(1<<63-1, 1, 1), small(1<<63-2, 12, 6, 0, 3), small(1<<63-19, 1<<63-9, 1<<63-11, 40, 10, 0, 2)}, // 2 times -9, -4, -5, 20, 5, 0, 1
	} {
		for n, right := range [][]api.Nat{nil, small(1), small(1), one.third, one.fourth} {
			got, e := Of(one.c, n)
			want(t, got, e, right, api.OK, "P19.1: Of", one.c, n)
		}
	}
}

// fifth is F5 as it is printed where such polynomials are told of, in A and B; no other one is asked.
func (c plane) fifth() list {
	a, b := c.a, c.b
	sum := func(terms ...*big.Int) *big.Int {
		out := new(big.Int)
		for _, x := range terms {
			out.Add(out, x)
		}
		return out
	}
	return c.of(
		sum(term(1, a, a, a, a, a, a), term(-32, a, a, a, b, b), term(-256, b, b, b, b)),
		sum(term(-100, a, a, a, a, b), term(-640, a, b, b, b)),
		sum(term(-50, a, a, a, a, a), term(-240, a, a, b, b)),
		sum(term(-80, a, a, a, b), term(-1600, b, b, b)),
		sum(term(-125, a, a, a, a), term(-1920, a, b, b)),
		term(-696, a, a, b),
		sum(term(-300, a, a, a), term(-240, b, b)),
		term(240, a, b),
		term(-105, a, a),
		term(380, b),
		term(62, a),
		new(big.Int),
		term(5),
	)
}

func TestFifth(t *testing.T) {
	for _, p := range append(primes(), others()...) {
		for _, c := range samples(p) {
			got, e := Of(c.curve(), 5)
			want(t, got, e, words(c.fifth()), api.OK, "P19.1: Of", c.curve(), 5)
		}
	}
}

// TestNumbers has each n at which something ends, and others far away.
func TestNumbers(t *testing.T) {
	for _, p := range []api.Nat{{5}, {9}, {67}, {1<<63 - 25}, {all}, {13, 1}, {all, all, all, all}} {
		for _, plane := range samples(p) {
			c := plane.curve()
			for _, n := range []int{math.MinInt, math.MinInt + 1, math.MinInt + 3, math.MinInt32, -1 << 32, -65, -64, -3, -2, -1, 65, 66, 67, 127, 128, 255, 256, 259, 1<<16 + 3, math.MaxInt32, 1 << 32, 1<<32 + 3, 1<<62 + 3, math.MaxInt - 1, math.MaxInt} {
				got, e := Of(c, n)
				want(t, got, e, nil, api.ErrArg, "P19.1: Of", c, n)
			}
			want(t, told(t, c, 0), api.OK, nil, api.OK, "P19.1: Of", c, 0)
			want(t, told(t, c, 1), api.OK, small(1), api.OK, "P19.1: Of", c, 1)
			want(t, told(t, c, 2), api.OK, small(1), api.OK, "P19.1: Of", c, 2)
		}
		wantValues(t, samples(p)[0], []int{62, 63, 64}, big.NewInt(2), big.NewInt(3))
	}
}

// refused are curves that may not be.
func refused() (out []api.Curve) {
	for _, p := range []api.Nat{{7}, {13}, {15}, {1<<63 - 25}, {13, 1}, {all - 188, all, all, all}, {all, all, all, all}} {
		a, b := less(p, 2), api.Nat{3}
		out = append(out, api.Curve{P: p}, api.Curve{P: p, A: less(p, 3), B: api.Nat{2}}, api.Curve{P: p, A: less(p, 3), B: less(p, 2)}) // 4 A^3 is -108, and 27 B^2 is 108
		for _, x := range []api.Nat{p, more(p, 1), nat.Shl(p, 1), loose(a, 1), loose(b, 3), {0}, {1, 0}, loose(p, 1), append(loose(p, 5-len(p)), 1), make(api.Nat, 300)} {
			out = append(out, api.Curve{P: p, A: x, B: b}, api.Curve{P: p, A: a, B: x}, api.Curve{P: p, A: x, B: x})
		}
		for _, x := range []api.Nat{nil, {0}, {1}, {2}, {3}, {4}, more(p, 1), loose(p, 1), loose(p, 4), nat.Shl(p, 300), append(loose(p, 4-len(p)), 1), oneAt(256), more(oneAt(256), 1), {1, 2, 3, 4, 5}} {
			out = append(out, api.Curve{P: x, A: a, B: b}, api.Curve{P: x, A: api.Nat{1}, B: api.Nat{1}}, api.Curve{P: x})
		}
	}
	return append(out, api.Curve{}, over(9, 0, 1), over(9, 3, 3), over(25, 15, 10), over(27, 3, 0), over(81, 9, 9), over(23, 22, 22), over(31, 1, 1))
}

// TestRefused has the curve's error ahead of an n that may not be.
func TestRefused(t *testing.T) {
	seen := map[api.Errno]int{}
	for _, c := range refused() {
		_, right := planeOf(c)
		seen[right]++
		if e := curve.May(c); e != right {
			t.Errorf("P16.1: May of %x: error %d, not %d", c, e, right)
		}
		for _, n := range []int{math.MinInt, -1, 0, 1, 2, 3, 4, 5, 6, 31, 63, 64, 65, math.MaxInt} {
			got, e := Of(c, n)
			want(t, got, e, nil, right, "P19.1: Of", c, n)
		}
	}
	if seen[api.OK] > 0 || seen[api.ErrArg] < 100 || seen[api.ErrCurve] < 20 {
		t.Errorf("of how many there is which error: %v", seen)
	}
}

// TestSchoolbook has all n over some curves of each kind, by the chapter's words alone.
func TestSchoolbook(t *testing.T) {
	for i, p := range []api.Nat{{1<<31 - 1}, {all - 58}, {13, 1}, {all - 188, all, all, all}, power(api.Nat{3}, 40), product(api.Nat{1<<61 - 1}, api.Nat{all - 58}), {all, all, all, all}} {
		t.Run(numberOf(p).Text(16), func(t *testing.T) {
			t.Parallel()
			wantTable(t, samples(p)[i%5], 64)
		})
	}
}

// TestSmallModuli has all n over curves of small P: primes that are n, that go into it, that are below and above it, and others that go into numbers of the formulas.
func TestSmallModuli(t *testing.T) {
	var moduli []api.Nat
	for _, p := range smallPrimes(71) {
		moduli = append(moduli, nat.Of(uint64(p)))
	}
	for _, p := range others() {
		if nat.Bits(p) <= 16 {
			moduli = append(moduli, p)
		}
	}
	for _, p := range append(moduli, api.Nat{251}, api.Nat{257}, api.Nat{65521}) {
		t.Run(numberOf(p).String(), func(t *testing.T) {
			t.Parallel()
			for i, c := range samples(p) {
				if i%6 == int(p[0]/2%6) {
					wantTable(t, c, 64)
				}
			}
		})
	}
}

// tinies are all curves modulo p.
func tinies(p int) (out []plane) {
	r := ring{big.NewInt(int64(p))}
	for a := range p {
		for b := range p {
			if c := (plane{r, big.NewInt(int64(a)), big.NewInt(int64(b))}); c.smooth() {
				out = append(out, c)
			}
		}
	}
	return out
}

// TestAllCurves has all curves modulo the smallest numbers.
func TestAllCurves(t *testing.T) {
	for _, p := range []int{5, 7, 9, 11, 13, 15, 21, 25} {
		t.Run(strconv.Itoa(p), func(t *testing.T) {
			t.Parallel()
			for _, c := range tinies(p) {
				wantTable(t, c, 18)
			}
		})
	}
}

// TestFallenAway has first numbers that P divides: noughts that would stand at the end are not there.
func TestFallenAway(t *testing.T) {
	for _, p := range append(others(), api.Nat{5}, api.Nat{7}, api.Nat{11}, api.Nat{13}, api.Nat{31}, api.Nat{61}) {
		t.Run(numberOf(p).Text(16), func(t *testing.T) {
			t.Parallel()
			c := samples(p)[0]
			for _, n := range some(p)[1:] {
				degree, first := shape(n)
				got := told(t, c.curve(), n)
				if left := c.of(big.NewInt(first)); len(left) == 0 && len(got) > degree {
					t.Errorf("P19.1: Of %x, %d: %s has a number for x^%d, which P divides", c.curve(), n, brief(got), degree)
				} else if len(left) == 1 {
					wantShape(t, c, n, got)
				}
			}
		})
	}
}

// shape is the degree and the first number of P19.2, of an n above 0, ahead of what P takes away.
func shape(n int) (degree int, first int64) {
	if n%2 == 0 {
		return (n*n - 4) / 2, int64(n / 2)
	}
	return (n*n - 1) / 2, int64(n)
}

// wantShape holds a degree and a first number against P19.2.
func wantShape(t *testing.T, c plane, n int, got []api.Nat) {
	t.Helper()
	degree, first := shape(n)
	if len(got) != degree+1 || !same(got[degree:], words(c.of(big.NewInt(first)))) {
		t.Errorf("P19.2: Of %x, %d: %s, not of degree %d with the first number %d", c.curve(), n, brief(got), degree, first)
	}
}

// TestEachLength has P of all lengths: all samples by tables of the first n, some by values at places, for all n.
func TestEachLength(t *testing.T) {
	for _, p := range append(primes(), others()...) {
		t.Run(numberOf(p).Text(16), func(t *testing.T) {
			t.Parallel()
			next := row(numberOf(p), p[0]+7)
			for i, c := range samples(p) {
				wantTable(t, c, 12)
				places := []*big.Int{new(big.Int), big.NewInt(1), new(big.Int).Sub(c.p, big.NewInt(1)), next(), next(), next()}
				if i == 0 {
					wantValues(t, c, some(p), places...)
				} else {
					wantValues(t, c, []int{15 + i}, places[i%3:]...)
				}
			}
		})
	}
}

// TestShape holds degrees and first numbers for the n that primes of all lengths are above.
func TestShape(t *testing.T) {
	for _, p := range append(primes(), smallNats(71)...) {
		t.Run(numberOf(p).Text(16), func(t *testing.T) {
			t.Parallel()
			numbers := some(p)
			if slices.Contains([]int{65, 129, api.MaxField}, nat.Bits(p)) {
				numbers = upTo(64)
			}
			curves := samples(p)
			for _, n := range numbers {
				if len(p) == 1 && p[0] <= uint64(n) {
					break
				}
				c := curves[n%len(curves)]
				got := told(t, c.curve(), n)
				if n == 0 {
					want(t, got, api.OK, nil, api.OK, "P19.1: Of", c.curve(), n)
				} else {
					wantShape(t, c, n, got)
				}
			}
		})
	}
}

// smallNats are smallPrimes in words.
func smallNats(most int) (out []api.Nat) {
	for _, p := range smallPrimes(most) {
		out = append(out, nat.Of(uint64(p)))
	}
	return out
}

// points are all points of a curve modulo a small p, without O, by the equation.
func (c plane) points() (out []api.Point) {
	p, a, b := c.p.Uint64(), c.a.Uint64(), c.b.Uint64()
	for x := range p {
		for y := range p {
			if y*y%p == (x*x*x+a*x+b)%p {
				out = append(out, api.Point{X: nat.Of(x), Y: nat.Of(y)})
			}
		}
	}
	return out
}

// wantPoint holds a polynomial against what becomes of a point by curve.Times; it tells whether that is O.
func wantPoint(t *testing.T, c plane, n int, got list, p api.Point) bool {
	t.Helper()
	sum, e := curve.Times(c.curve(), nat.Of(uint64(n)), p)
	if e != api.OK {
		t.Fatalf("P16.4: Times of %x, %d, %v: error %d", c.curve(), n, p, e)
	}
	isRoot := len(c.at(got, numberOf(p.X))) == 0
	if right := isRoot || n%2 == 0 && len(p.Y) == 0; right != sum.Far {
		t.Errorf("P19.2: Of %x, %d: a root at %v: %t, but Times tells %v", c.curve(), n, p, isRoot, sum)
	}
	return sum.Far
}

// wantPoints holds all n up to most against all points; it tells of how many n come to O.
func wantPoints(t *testing.T, c plane, most int) (far int) {
	t.Helper()
	points := c.points()
	for n := range most + 1 {
		got := told(t, c.curve(), n)
		if n > 0 {
			wantShape(t, c, n, got)
		}
		polynomial := listOf(got)
		for _, p := range points {
			if wantPoint(t, c, n, polynomial, p) && n > 0 {
				far++
			}
		}
	}
	return far
}

// TestAllPoints has all curves over the smallest primes, and all n below them.
func TestAllPoints(t *testing.T) {
	for _, p := range smallPrimes(19) {
		t.Run(strconv.Itoa(p), func(t *testing.T) {
			t.Parallel()
			far := 0
			for _, c := range tinies(p) {
				far += wantPoints(t, c, p-1)
			}
			if far < 5*p {
				t.Errorf("P19.2: of %d points alone n come to O", far)
			}
		})
	}
}

// TestSomePoints goes on with some curves over greater primes, whose points come to O by greater n.
func TestSomePoints(t *testing.T) {
	for _, p := range []int{23, 29, 31, 37, 41, 43, 47, 53, 59, 61, 67, 71, 73, 127} {
		t.Run(strconv.Itoa(p), func(t *testing.T) {
			t.Parallel()
			far := 0
			for _, c := range samples(nat.Of(uint64(p)))[:4] {
				far += wantPoints(t, c, min(p-1, 64))
			}
			if far < 20 {
				t.Errorf("P19.2: of %d points alone n come to O", far)
			}
		})
	}
}

// rich is a prime of so many bits that leaves -1 by 12 and by all of numbers: over it there are curves of P and 1 points, of which many come to O by those numbers.
func rich(size int, numbers []int) api.Nat {
	step := big.NewInt(12)
	for _, n := range numbers {
		x := big.NewInt(int64(n))
		step.Mul(step, x).Div(step, new(big.Int).GCD(nil, nil, x, new(big.Int).Div(step, x)))
	}
	p := numberOf(oneAt(size))
	p.Sub(p, new(big.Int).Mod(p, step)).Sub(p, big.NewInt(1))
	for !p.ProbablyPrime(10) {
		p.Sub(p, step)
	}
	return wordsOf(p)
}

// plentiful are curves of P and 1 points, where P leaves -1 by 12: each number has one cube root, and of x and P less x one is a square. The last of them is two steps from one with an A of 0, so it has as many points.
func plentiful(p api.Nat) []plane {
	r := ringOf(p)
	s := row(r.p, 5)()
	mod := func(x *big.Int) *big.Int { return x.Mod(x, r.p) }
	return []plane{
		{r, new(big.Int), s},
		{r, s, new(big.Int)},
		{r, mod(term(-1, s, s)), new(big.Int)},
		{r, mod(term(-15, s, s)), mod(term(22, s, s, s))},
	}
}

// somePoint is a point with some X from a row.
func (c plane) somePoint(next func() *big.Int) api.Point {
	for {
		x := next()
		right := new(big.Int).Mod(new(big.Int).Add(term(1, x, x, x), term(1, c.a, x)), c.p)
		right.Add(right, c.b).Mod(right, c.p)
		if y := new(big.Int).ModSqrt(right, c.p); y != nil {
			return api.Point{X: wordsOf(x), Y: wordsOf(y)}
		}
	}
}

// many is curve.Times.
func (c plane) many(t *testing.T, k *big.Int, p api.Point) api.Point {
	t.Helper()
	out, e := curve.Times(c.curve(), wordsOf(k), p)
	if e != api.OK {
		t.Fatalf("P16.4: Times of %x, %x, %v: error %d", c.curve(), k, p, e)
	}
	return out
}

// TestGreatPoints has points of great curves of which n come to O, for all n from 2 on, and what else comes of them.
func TestGreatPoints(t *testing.T) {
	for _, one := range []struct {
		size    int
		numbers []int
	}{
		{31, upTo(16)[2:]}, {32, upTo(16)[2:]}, {63, upTo(32)[2:]}, {64, upTo(32)[2:]}, {64, []int{37, 41, 43, 47, 53, 59, 61}}, {65, []int{37, 41, 43, 47, 53, 59, 61, 62, 63}}, {128, upTo(64)[2:]}, {129, upTo(64)[2:]}, {api.MaxField, upTo(64)[2:]},
	} {
		p := rich(one.size, one.numbers)
		if nat.Bits(p) != one.size {
			t.Fatalf("%x has not %d bits", p, one.size)
		}
		for i, c := range plentiful(p) {
			if i < 3 && i != one.size%3 { // all would take long
				continue
			}
			t.Run(strconv.Itoa(one.size)+" "+strconv.Itoa(i), func(t *testing.T) {
				t.Parallel()
				wantTorsion(t, c, one.numbers)
			})
		}
	}
}

// wantTorsion holds all n against points of which one of numbers comes to O.
func wantTorsion(t *testing.T, c plane, numbers []int) {
	t.Helper()
	var polynomials []list
	for n := range 65 {
		polynomials = append(polynomials, listOf(told(t, c.curve(), n)))
	}
	count := new(big.Int).Add(c.p, big.NewInt(1))
	next := row(c.p, 3)
	for _, n := range numbers {
		far := 0
		for try := 0; try < 60 && far < 2; try++ { // where all points whose double is O are there, the half of the count does for all
			p := c.many(t, new(big.Int).Div(count, big.NewInt(int64(n*(1+try%2)))), c.somePoint(next))
			if p.Far {
				continue
			}
			for _, k := range []int{n, n - 1, n + 1, n / 2, n / 3, 2 * n, 3 * n, n * n, 1, 64} {
				if k <= 64 && wantPoint(t, c, k, polynomials[k], p) && k == n {
					far++
				}
			}
		}
		if far == 0 {
			t.Errorf("P19.2: over %x there is no point of which %d come to O", c.curve(), n)
		}
	}
}

// TestKnownCurves has points of curves in use: their count is a prime, so n of a point come to O for no n but 0.
func TestKnownCurves(t *testing.T) {
	for _, one := range []struct{ p, a, b, x, y string }{
		{"db7c2abf62e35e668076bead208b", "db7c2abf62e35e668076bead2088", "659ef8ba043916eede8911702b22", "09487239995a5ee76b55f9c2f098", "a89ce5af8724c0a23e0e0ff77500"},
		{"fffffffdffffffffffffffffffffffff", "fffffffdfffffffffffffffffffffffc", "e87579c11079f43dd824993c2cee5ed3", "161ff7528b899b2d0c28607ca52c5b86", "cf5ac8395bafeb13c02da292dded7a83"},
		{"fffffffffffffffffffffffffffffffffffffffffffffffffffffffefffffc2f", "0", "7", "79be667ef9dcbbac55a06295ce870b07029bfcdb2dce28d959f2815b16f81798", "483ada7726a3c4655da4fbfc0e1108a8fd17b448a68554199c47d08ffb10d4b8"},
	} {
		t.Run(one.p, func(t *testing.T) {
			t.Parallel()
			c, _ := planeOf(api.Curve{P: hex(one.p), A: hex(one.a), B: hex(one.b)})
			p := api.Point{X: hex(one.x), Y: hex(one.y)}
			for n := range 65 {
				if far := wantPoint(t, c, n, listOf(told(t, c.curve(), n)), p); far != (n == 0) {
					t.Errorf("P19.2: %d of %v come to O: %t", n, p, far)
				}
			}
		})
	}
}

// TestSums holds polynomials against sums: m and n of a point are the same, or each other's Neg, just where F(m+n) or F(m-n) is 0.
func TestSums(t *testing.T) {
	t.Parallel()
	for _, c := range append(samples(api.Nat{67})[:3], samples(api.Nat{71})[:3]...) {
		var polynomials []list
		for n := range 65 {
			polynomials = append(polynomials, listOf(told(t, c.curve(), n)))
		}
		for _, p := range c.points()[:6] {
			x := numberOf(p.X)
			var sums []api.Point
			for n := range 65 {
				sums = append(sums, c.many(t, big.NewInt(int64(n)), p))
			}
			for m := 1; m <= 40; m += 3 {
				for n := 1; n < m && m+n <= 64; n++ {
					one, other := sums[m], sums[n]
					is := false
					for _, k := range []int{m + n, m - n} {
						is = is || len(c.at(polynomials[k], x)) == 0 || k%2 == 0 && len(p.Y) == 0
					}
					if right := one.Far == other.Far && slices.Equal(one.X, other.X); is != right {
						t.Errorf("P19.2: over %x, %d and %d of %v have the same X: %t, not %t", c.curve(), m, n, p, is, right)
					}
				}
			}
		}
	}
}

// TestAnyWords has words of all kinds in all places: nothing panics, and there is an answer just where the chapter has one.
func TestAnyWords(t *testing.T) {
	t.Parallel()
	lists := []api.Nat{nil, {}, {0}, {1}, {2}, {5}, {9}, {1, 0}, {all}, {all, all, all, all}, append(make(api.Nat, 4), 1), append(make(api.Nat, 300), 7), make(api.Nat, 300)}
	for i, p := range lists {
		for k, a := range lists {
			for m, b := range lists {
				c := api.Curve{P: p, A: a, B: b}
				in, right := planeOf(c)
				for _, n := range []int{-1 - i, (i + k + m) % 9, 65 + k} {
					got, e := Of(c, n)
					switch {
					case right != api.OK:
						want(t, got, e, nil, right, "P19.1: Of", c, n)
					case n < 0 || n > 64:
						want(t, got, e, nil, api.ErrArg, "P19.1: Of", c, n)
					default:
						want(t, got, e, words(in.table(9)[n]), api.OK, "P19.1: Of", c, n)
					}
				}
			}
		}
	}
}

// asked is what Of may be asked with.
type asked struct {
	c api.Curve
	n int
}

// questions are many that have an answer, and some that have none.
func questions() (out []asked) {
	for i, p := range []api.Nat{{5}, {7}, {9}, {67}, {105}, {257}, {1<<31 - 1}, {1<<63 - 25}, {all}, {13, 1}, {all, all}, {all - 188, all, all, all}, {all, all, all, all}} {
		for k, c := range samples(p)[:5] {
			for _, n := range []int{-1, 0, 1, 2, 3, 4, 5, 6, 7, 8, 9 + i, 12 + k, 65} {
				out = append(out, asked{c.curve(), n})
			}
		}
		out = append(out, asked{samples(p)[0].curve(), 47 + i}, asked{api.Curve{P: p}, 5}, asked{api.Curve{P: p, A: p}, 3}, asked{api.Curve{P: loose(p, 1), B: api.Nat{1}}, 4})
	}
	return out
}

// lists are the curve's numbers.
func (q *asked) lists() []*api.Nat { return []*api.Nat{&q.c.P, &q.c.A, &q.c.B} }

// roomy is the same in memory of its own, with room behind the end of each list.
func (q asked) roomy() asked {
	for _, x := range q.lists() {
		*x = append(slices.Clone(*x), 11, 12, 13, 14, 15)[:len(*x)]
	}
	return q
}

// whole are all lists, up to the end of their room.
func (q asked) whole() (out []api.Nat) {
	for _, x := range q.lists() {
		out = append(out, (*x)[:cap(*x)])
	}
	return out
}

// copied is a list of lists in memory of its own.
func copied(a []api.Nat) []api.Nat {
	out := make([]api.Nat, len(a))
	for i, x := range a {
		out[i] = slices.Clone(x)
	}
	return out
}

// spoil changes all of a number, what is behind its end too.
func spoil(a api.Nat) {
	a = a[:cap(a)]
	for i := range a {
		a[i] = ^a[i]
	}
}

// TestGivenStays holds R3 of what is handed in.
func TestGivenStays(t *testing.T) {
	for _, q := range questions() {
		in := q.roomy()
		before := copied(in.whole())
		Of(in.c, in.n)
		if got := in.whole(); !same(got, before) {
			t.Errorf("R3: Of %x, %d: what was handed in became %x", before, in.n, got)
		}
	}
}

// TestAnsweredIsNew changes each number of an answer, what is behind the end of the list too, and looks at what was handed in, at all other numbers, and at other answers.
func TestAnsweredIsNew(t *testing.T) {
	for _, q := range questions() {
		in := q.roomy()
		before := copied(in.whole())
		got, e := Of(in.c, in.n)
		other, otherE := Of(in.c, in.n)
		first := copied(got)
		want(t, other, otherE, first, e, "R5: Of", q.c, q.n)
		right := copied(got)
		for i, x := range got {
			spoil(x)
			spoil(right[i])
			if !same(got, right) {
				t.Fatalf("R3: Of %x, %d: the number at %d has memory of another one", q.c, q.n, i)
			}
		}
		room := got[len(got):cap(got)]
		for i := range room {
			room[i] = api.Nat{7}
		}
		clear(got)
		if !same(other, first) {
			t.Fatalf("R3: Of %x, %d: two answers share memory", q.c, q.n)
		}
		if !same(in.whole(), before) {
			t.Fatalf("R3: Of %x, %d: an answer has memory of what was handed in", q.c, q.n)
		}
		again, e := Of(in.c, in.n)
		want(t, again, e, first, otherE, "R5: Of", q.c, q.n)
	}
}

// TestNothingKept spoils what was handed in, and asks again.
func TestNothingKept(t *testing.T) {
	for _, q := range questions() {
		in := q.roomy()
		got, e := Of(in.c, in.n)
		right := copied(got)
		for _, x := range in.whole() {
			spoil(x)
		}
		want(t, got, e, right, e, "R3: Of", q.c, q.n)
		again, againE := Of(q.c, q.n)
		want(t, again, againE, right, e, "R5: Of", q.c, q.n)
	}
}

// TestSharedMemory hands in numbers that share memory with each other.
func TestSharedMemory(t *testing.T) {
	for _, p := range append(primes(), others()...) {
		x := less(p, 1)
		before := slices.Clone(x)
		c := api.Curve{P: p, A: x, B: x}
		for n, right := range (plane{ringOf(p), numberOf(x), numberOf(x)}).table(9) {
			got, e := Of(c, n)
			want(t, got, e, words(right), api.OK, "P19.1: Of", c, n)
			got, e = Of(api.Curve{P: p, A: p, B: p}, n)
			want(t, got, e, nil, api.ErrArg, "P19.1: Of", c, n)
		}
		if !slices.Equal(x, before) {
			t.Errorf("R3: %x became %x", before, x)
		}
	}
}

// TestSameAgain asks all in an order, and again in another one.
func TestSameAgain(t *testing.T) {
	t.Parallel()
	list := questions()
	answers := make([][]api.Nat, len(list))
	errors := make([]api.Errno, len(list))
	for i, q := range list {
		answers[i], errors[i] = Of(q.c, q.n)
	}
	first := make([][]api.Nat, len(list))
	for i, a := range answers {
		first[i] = copied(a)
	}
	for _, step := range []int{len(list) - 1, 7, 101} {
		for i := range list {
			k := i * step % len(list)
			got, e := Of(list[k].c, list[k].n)
			want(t, got, e, first[k], errors[k], "R5: Of", list[k].c, list[k].n)
		}
	}
	for i, a := range answers {
		want(t, a, errors[i], first[i], errors[i], "R3: Of", list[i].c, list[i].n)
	}
}

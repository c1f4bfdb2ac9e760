package poly

import (
	"math"
	"math/big"
	"slices"
	"testing"

	"caltrop/api"
	"caltrop/fp"
	"caltrop/mul"
	"caltrop/nat"
)

const (
	all = math.MaxUint64 // a word whose bits are all 1
	top = 1 << 63        // a word whose highest bit alone is 1
)

// less is a without so many; there are as many.
func less(a api.Nat, count uint64) api.Nat {
	out, _ := nat.Sub(a, nat.Of(count))
	return out
}

// more is a and so many.
func more(a api.Nat, count uint64) api.Nat { return nat.Add(a, nat.Of(count)) }

// row makes words without any order to be seen in them; another seed makes another row.
func row(seed uint64) func() uint64 {
	return func() uint64 {
		seed = seed*6364136223846793005 + 1442695040888963407
		return seed ^ seed>>29
	}
}

// numbers is a list of so many numbers below p, without any order to be seen in them; the last one is not 0.
func numbers(p api.Nat, count int, seed uint64) []api.Nat {
	next, whole := row(seed), numberOf(p)
	out := make([]api.Nat, count)
	for i := range out {
		for {
			x := make(api.Nat, len(p)+1)
			for k := range x {
				x[k] = next()
			}
			rest := numberOf(x)
			out[i] = wordsOf(rest.Mod(rest, whole))
			if i < count-1 || len(out[i]) > 0 {
				break
			}
		}
	}
	return out
}

// small is a list of numbers of one word.
func small(l ...uint64) []api.Nat {
	out := make([]api.Nat, len(l))
	for i, n := range l {
		out[i] = nat.Of(n)
	}
	return out
}

// loose is a's number in words that may not be, unless noughts is 0.
func loose(a api.Nat, noughts int) api.Nat {
	return append(slices.Clone(a), make(api.Nat, noughts)...)
}

// spread is the polynomial of a in other numbers: more times p, in words that may not be, with noughts and p at the end.
func spread(p api.Nat, a []api.Nat) []api.Nat {
	out := make([]api.Nat, len(a), len(a)+4)
	for i, x := range a {
		out[i] = loose(nat.Add(x, mul.Mul(p, nat.Of(uint64(i%3)*(1<<63+5)))), i%4)
	}
	return append(out, nil, p, loose(nil, 2), loose(nat.Shl(p, 100), 1))
}

// primes are primes of 3 bits to MaxField, at the ends of words among them.
func primes() []api.Nat {
	return []api.Nat{
		{5}, {7}, {11}, {13}, {97}, {65537}, {1<<31 - 1}, {1<<32 - 5}, {1<<32 + 15}, {1<<61 - 1}, {1<<63 - 25}, {all - 58},
		{13, 1}, {all, 1<<63 - 1}, {all - 158, all}, {51, 0, 1}, {all, all - 1, all}, {133, 0, 0, 1},
		{all - 188, all, all, all}, {all, 1<<32 - 1, 0, 0xffffffff00000001},
	}
}

// divided is an odd number that is no prime, and a number between 1 and itself that goes into it.
type divided struct {
	p       api.Nat
	divisor uint64
}

// others are odd numbers that are no primes, of 4 bits to MaxField; all of their bits are 1 in many of them.
func others() []divided {
	return []divided{
		{api.Nat{9}, 3}, {api.Nat{15}, 5}, {api.Nat{25}, 5}, {api.Nat{27}, 9}, {api.Nat{105}, 21}, {api.Nat{1<<31 + 1}, 3}, {api.Nat{1<<32 - 1}, 3},
		{api.Nat{1<<33 - 1}, 7}, {api.Nat{1<<63 - 1}, 7}, {api.Nat{top + 1}, 3}, {api.Nat{all}, 3}, {api.Nat{all, 1}, 31}, {api.Nat{1, 2}, 3},
		{api.Nat{all, all}, 3}, {api.Nat{all, all, 1}, 7}, {api.Nat{all, all, all}, 3}, {api.Nat{all, all, all, 1}, 13821503}, {api.Nat{all, all, all, all}, 3},
	}
}

// moduli are those that all calls are asked with.
func moduli() []api.Nat {
	out := primes()
	for _, o := range others() {
		out = append(out, o.p)
	}
	return out
}

// numberOf is the number of words by the words of chapter 2 alone, in numbers of the library.
func numberOf(a api.Nat) *big.Int {
	b := make([]byte, 0, 8*len(a))
	for _, x := range slices.Backward(a) {
		for shift := 56; shift >= 0; shift -= 8 {
			b = append(b, byte(x>>shift))
		}
	}
	return new(big.Int).SetBytes(b)
}

// wordsOf is a number of the library's in words that may be.
func wordsOf(x *big.Int) api.Nat { return nat.FromBytes(x.Bytes()) }

// made is the field of p.
func made(t *testing.T, p api.Nat) *fp.Field {
	t.Helper()
	f, e := fp.New(p)
	if f == nil || e != api.OK {
		t.Fatalf("fp.New of %x: error %d", p, e)
	}
	return f
}

// ring tells what becomes of polynomials by the chapter's words, in numbers of the library.
type ring struct{ p *big.Int }

type list = []*big.Int

// rest is what a number leaves, from 0 on.
func (r ring) rest(x *big.Int) *big.Int { return new(big.Int).Mod(x, r.p) }

// of takes a list for its polynomial.
func (r ring) of(a []api.Nat) list {
	var out list
	for _, x := range a {
		out = append(out, numberOf(x))
	}
	return r.trimmed(out)
}

// trimmed is of what the numbers leave, without noughts at the end.
func (r ring) trimmed(a list) list {
	out := make(list, len(a))
	for i, x := range a {
		out[i] = r.rest(x)
	}
	for len(out) > 0 && out[len(out)-1].Sign() == 0 {
		out = out[:len(out)-1]
	}
	return out
}

// and is a and so many times b.
func (r ring) and(a, b list, count int64) list {
	out := make(list, max(len(a), len(b)))
	for i := range out {
		out[i] = new(big.Int)
		if i < len(a) {
			out[i].Set(a[i])
		}
		if i < len(b) {
			out[i].Add(out[i], new(big.Int).Mul(b[i], big.NewInt(count)))
		}
	}
	return r.trimmed(out)
}

// times sums up the products of each number and each other one.
func (r ring) times(a, b list) list {
	if len(a) == 0 || len(b) == 0 {
		return nil
	}
	out := make(list, len(a)+len(b)-1)
	for i := range out {
		out[i] = new(big.Int)
	}
	product := new(big.Int)
	for i, x := range a {
		for k, y := range b {
			out[i+k].Add(out[i+k], product.Mul(x, y))
		}
	}
	return r.trimmed(out)
}

// packed is a number that has a's numbers in its bytes, so many bytes for each.
func packed(a list, size int) *big.Int {
	out := make([]byte, size*len(a))
	for i, x := range a {
		x.FillBytes(out[size*(len(a)-1-i):][:size])
	}
	return new(big.Int).SetBytes(out)
}

// longTimes is times by one product of two numbers, in which all numbers stand apart.
func (r ring) longTimes(a, b list) list {
	size := 2*len(r.p.Bytes()) + 4
	out := make(list, len(a)+len(b))
	whole := new(big.Int).Mul(packed(a, size), packed(b, size)).FillBytes(make([]byte, size*len(out)))
	for i := range out {
		out[i] = new(big.Int).SetBytes(whole[size*(len(out)-1-i):][:size])
	}
	return r.trimmed(out)
}

// by takes b away, as often as it goes.
func (r ring) by(a, b list) (q, rest list, e api.Errno) {
	if len(b) == 0 {
		return nil, nil, api.ErrZero
	}
	inverse := new(big.Int).ModInverse(b[len(b)-1], r.p)
	if inverse == nil {
		return nil, nil, api.ErrInv
	}
	rest = r.trimmed(a)
	for len(rest) >= len(b) {
		place := len(rest) - len(b)
		count := r.rest(new(big.Int).Mul(rest[len(rest)-1], inverse))
		for len(q) <= place {
			q = append(q, new(big.Int))
		}
		q[place] = count
		for i, x := range b {
			rest[place+i].Sub(rest[place+i], new(big.Int).Mul(count, x))
		}
		rest = r.trimmed(rest)
	}
	return q, rest, api.OK
}

// common goes on as long as b is not 0.
func (r ring) common(a, b list) (list, api.Errno) {
	for len(b) > 0 {
		_, rest, e := r.by(a, b)
		if e != api.OK {
			return nil, e
		}
		a, b = b, rest
	}
	if len(a) == 0 {
		return nil, api.OK
	}
	inverse := new(big.Int).ModInverse(a[len(a)-1], r.p)
	if inverse == nil {
		return nil, api.ErrInv
	}
	return r.times(a, list{inverse}), api.OK
}

// at is the sum of a's numbers times their powers of x.
func (r ring) at(a list, x *big.Int) *big.Int {
	sum, power := new(big.Int), big.NewInt(1)
	for _, y := range a {
		sum.Add(sum, new(big.Int).Mul(y, power))
		power = r.rest(new(big.Int).Mul(power, x))
	}
	return r.rest(sum)
}

// wantList says what is wrong with an answer, if it is not that polynomial, in numbers that may be.
func wantList(t *testing.T, got []api.Nat, want list, call string, args ...any) {
	t.Helper()
	is := len(got) == len(want)
	for i := 0; is && i < len(got); i++ {
		is = nat.May(got[i]) && numberOf(got[i]).Cmp(want[i]) == 0
	}
	if !is {
		t.Errorf("%s of %x: %x, not %x", call, args, got, want)
	}
}

// wantWords says what is wrong with an answer, if it is not these numbers, in these words.
func wantWords(t *testing.T, got, want []api.Nat, call string, args ...any) {
	t.Helper()
	if !same(got, want) {
		t.Errorf("%s of %x: %x, not %x", call, args, got, want)
	}
}

// same tells whether two lists have the same numbers, in the same words.
func same(a, b []api.Nat) bool {
	return slices.EqualFunc(a, b, func(x, y api.Nat) bool { return slices.Equal(x, y) })
}

// wantErr says what is wrong with an error, and with what stands beside it.
func wantErr(t *testing.T, got, want api.Errno, call string, args ...any) {
	t.Helper()
	if got != want {
		t.Errorf("%s of %x: error %d, not %d", call, args, got, want)
	}
}

// wantTrim asks Trim of p.
func wantTrim(t *testing.T, f *fp.Field, p api.Nat, a []api.Nat) {
	t.Helper()
	r := ring{numberOf(p)}
	wantList(t, Trim(f, a), r.of(a), "P14.1: Trim", p, a)
}

// wantSums asks Add and Sub of p.
func wantSums(t *testing.T, f *fp.Field, p api.Nat, a, b []api.Nat) {
	t.Helper()
	r := ring{numberOf(p)}
	x, y := r.of(a), r.of(b)
	wantList(t, Add(f, a, b), r.and(x, y, 1), "P14.2: Add", p, a, b)
	wantList(t, Sub(f, a, b), r.and(x, y, -1), "P14.2: Sub", p, a, b)
}

// wantMul asks Mul of p.
func wantMul(t *testing.T, f *fp.Field, p api.Nat, a, b []api.Nat) {
	t.Helper()
	r := ring{numberOf(p)}
	wantList(t, Mul(f, a, b), r.times(r.of(a), r.of(b)), "P14.2: Mul", p, a, b)
}

// wantNumber asks Scale and Eval of p.
func wantNumber(t *testing.T, f *fp.Field, p api.Nat, a []api.Nat, x api.Nat) {
	t.Helper()
	r := ring{numberOf(p)}
	wantList(t, Scale(f, a, x), r.times(r.of(a), list{numberOf(x)}), "P14.2: Scale", p, a, x)
	want := wordsOf(r.at(r.of(a), numberOf(x)))
	if got := Eval(f, a, x); !slices.Equal(got, want) {
		t.Errorf("P14.2: Eval of %x, %x at %x: %x, not %x", p, a, x, got, want)
	}
}

// wantDiv asks Div of p.
func wantDiv(t *testing.T, f *fp.Field, p api.Nat, a, b []api.Nat) {
	t.Helper()
	r := ring{numberOf(p)}
	wantQ, wantR, want := r.by(r.of(a), r.of(b))
	q, rest, e := Div(f, a, b)
	wantErr(t, e, want, "P14.3: Div", p, a, b)
	wantList(t, q, wantQ, "P14.3: Div's q", p, a, b)
	wantList(t, rest, wantR, "P14.3: Div's r", p, a, b)
}

// wantGcd asks Gcd of p.
func wantGcd(t *testing.T, f *fp.Field, p api.Nat, a, b []api.Nat) {
	t.Helper()
	r := ring{numberOf(p)}
	want, wantE := r.common(r.of(a), r.of(b))
	got, e := Gcd(f, a, b)
	wantErr(t, e, wantE, "P14.4: Gcd", p, a, b)
	wantList(t, got, want, "P14.4: Gcd", p, a, b)
}

// wantBoth asks all calls of two polynomials.
func wantBoth(t *testing.T, f *fp.Field, p api.Nat, a, b []api.Nat) {
	t.Helper()
	wantSums(t, f, p, a, b)
	wantMul(t, f, p, a, b)
	wantDiv(t, f, p, a, b)
	wantGcd(t, f, p, a, b)
}

func TestSamples(t *testing.T) {
	for _, p := range primes() {
		if !numberOf(p).ProbablyPrime(20) {
			t.Errorf("%x is no prime", p)
		}
	}
	for _, o := range others() {
		rest := new(big.Int).Mod(numberOf(o.p), new(big.Int).SetUint64(o.divisor))
		if o.divisor < 2 || nat.Cmp(o.p, nat.Of(o.divisor)) <= 0 || rest.Sign() != 0 {
			t.Errorf("%d does not go into %x", o.divisor, o.p)
		}
	}
	sizes := map[int]bool{}
	for _, p := range moduli() {
		sizes[nat.Bits(p)] = true
	}
	for _, size := range []int{3, 31, 32, 33, 63, 64, 65, 128, 129, 192, 193, api.MaxField} {
		if !sizes[size] {
			t.Errorf("no number of %d bits", size)
		}
	}
	for _, p := range []api.Nat{{7}, {all}, {all, all, all, all}} { // the quick way of products is the words' way
		r := ring{numberOf(p)}
		for _, count := range []int{1, 2, 5, 30} {
			a, b := r.of(numbers(p, count, 1)), r.of(numbers(p, 17, 2))
			if got, want := r.longTimes(a, b), r.times(a, b); !slices.EqualFunc(got, want, func(x, y *big.Int) bool { return x.Cmp(y) == 0 }) {
				t.Errorf("%x times %x: %x, not %x", a, b, got, want)
			}
		}
	}
}

func TestExamples(t *testing.T) {
	f := made(t, api.Nat{7})
	wantWords(t, Mul(f, small(1, 1), small(6, 1)), []api.Nat{{6}, nil, {1}}, "P14.2: Mul")
	wantWords(t, Trim(f, small(8, 7, 0)), small(1), "P14.1: Trim")
	q, r, e := Div(f, []api.Nat{{6}, {0}, {1}}, small(1, 1))
	wantErr(t, e, api.OK, "P14.3: Div")
	wantWords(t, q, small(6, 1), "P14.3: Div's q")
	wantWords(t, r, nil, "P14.3: Div's r")
	q, r, e = Div(f, small(1), small(0))
	wantErr(t, e, api.ErrZero, "P14.3: Div of 1, 0")
	wantWords(t, slices.Concat(q, r), nil, "P14.3: Div of 1, 0")
	for _, c := range []struct{ a, b, want []api.Nat }{
		{small(6, 0, 1), small(1, 2, 1), small(1, 1)},
		{nil, small(2, 4), small(4, 1)},
		{nil, nil, nil},
	} {
		got, e := Gcd(f, c.a, c.b)
		wantErr(t, e, api.OK, "P14.4: Gcd", c.a, c.b)
		wantWords(t, got, c.want, "P14.4: Gcd", c.a, c.b)
	}
	if got := Eval(f, small(6, 0, 1), api.Nat{3}); !slices.Equal(got, api.Nat{1}) {
		t.Errorf("P14.2: Eval of 6 0 1 at 3: %x, not 1", got)
	}
}

// TestWrittenOut has answers that were made by hand.
func TestWrittenOut(t *testing.T) {
	f := made(t, api.Nat{7})
	wantWords(t, Add(f, small(1, 2, 3), small(6, 5, 4)), nil, "P14.2: Add")
	wantWords(t, Add(f, small(1, 2, 3), small(1, 0, 4)), small(2, 2), "P14.2: Add")
	wantWords(t, Sub(f, small(1), small(2, 3)), small(6, 4), "P14.2: Sub")
	wantWords(t, Sub(f, small(1, 9), small(3, 2, 7)), small(5), "P14.2: Sub")
	wantWords(t, Scale(f, small(1, 2, 3), api.Nat{10}), small(3, 6, 2), "P14.2: Scale")
	wantWords(t, Mul(f, small(1, 2), small(3, 4, 5)), small(3, 3, 6, 3), "P14.2: Mul")
	q, r, e := Div(f, small(1, 2, 3, 4), small(5, 2)) // 4 x^3 + 3 x^2 + 2 x + 1 is (2 x^2 + 1) (2 x + 5), and 3, modulo 7: 4 x^3 + 10 x^2 + 2 x + 5 and 3
	wantErr(t, e, api.OK, "P14.3: Div")
	wantWords(t, q, []api.Nat{{1}, nil, {2}}, "P14.3: Div's q")
	wantWords(t, r, small(3), "P14.3: Div's r")
	q, r, e = Div(f, small(3, 1), small(1, 2, 3))
	wantErr(t, e, api.OK, "P14.3: Div by a longer one")
	wantWords(t, q, nil, "P14.3: Div's q by a longer one")
	wantWords(t, r, small(3, 1), "P14.3: Div's r by a longer one")

	f = made(t, api.Nat{9}) // no prime
	wantWords(t, Mul(f, small(1, 3), small(1, 3)), small(1, 6), "P14.2: Mul")
	wantWords(t, Mul(f, small(3, 6, 3), small(3, 6)), nil, "P14.2: Mul")
	wantWords(t, Scale(f, small(1, 3, 6), api.Nat{3}), small(3), "P14.2: Scale")
	for _, c := range []struct {
		a, b []api.Nat
		e    api.Errno
	}{
		{small(1, 2, 1), small(1, 3), api.ErrInv}, {small(1), small(1, 1, 6), api.ErrInv}, {nil, small(3), api.ErrInv}, {small(1), small(0, 18), api.ErrZero},
		{nil, nil, api.ErrZero}, {small(3), small(2, 9), api.OK},
	} {
		q, r, e := Div(f, c.a, c.b)
		wantErr(t, e, c.e, "P14.3: Div", c.a, c.b)
		if e != api.OK {
			wantWords(t, slices.Concat(q, r), nil, "P14.3: Div", c.a, c.b)
		}
	}
	for _, c := range []struct {
		a, b, want []api.Nat
		e          api.Errno
	}{
		{small(3), nil, nil, api.ErrInv},                   // the last one's first number has no inverse
		{small(1, 3), small(0, 0), nil, api.ErrInv},        // nor here, where another one has
		{nil, small(1, 3), nil, api.ErrInv},                // the first step's Div has none
		{small(3, 0, 1), small(0, 1), nil, api.ErrInv},     // the second one's has none, by 3
		{small(4, 0, 1), small(1, 1), small(1), api.OK},    // what is left is 5, and 1 by it
		{small(8, 0, 1), small(1, 1), small(1, 1), api.OK}, // nothing is left
		{small(2, 4), nil, small(5, 1), api.OK},
	} {
		got, e := Gcd(f, c.a, c.b)
		wantErr(t, e, c.e, "P14.4: Gcd", c.a, c.b)
		wantWords(t, got, c.want, "P14.4: Gcd", c.a, c.b)
	}
}

// shorter are all lists of at most so many numbers, each below most.
func shorter(most uint64, count int) [][]api.Nat {
	out := [][]api.Nat{nil}
	for from := 0; count > 0; count-- {
		next := len(out)
		for _, l := range out[from:next] {
			for n := range most {
				out = append(out, append(slices.Clone(l), nat.Of(n)))
			}
		}
		from = next
	}
	return out
}

func TestSmallFieldsWhole(t *testing.T) {
	for _, c := range []struct {
		p, most uint64
		count   int
	}{{5, 5, 3}, {7, 8, 2}, {9, 9, 2}, {15, 15, 1}, {5, 11, 1}, {5, 2, 5}, {9, 4, 3}} {
		p := api.Nat{c.p}
		f := made(t, p)
		lists := shorter(c.most, c.count)
		for _, a := range lists {
			wantTrim(t, f, p, a)
			for n := range 2*c.p + 1 {
				wantNumber(t, f, p, a, nat.Of(n))
			}
			for _, b := range lists {
				wantBoth(t, f, p, a, b)
			}
		}
	}
}

// edges are lists of noughts, with noughts and what leaves 0 at their end, with words that may not be, with the least and the greatest numbers, and with some that have no inverse.
func edges(p api.Nat, divisor uint64) [][]api.Nat {
	one, d, last := api.Nat{1}, nat.Of(divisor), less(p, 1)
	long := more(mul.Mul(p, numbers(api.Nat{0, 0, 0, 0, 0, 0, 0, 0, 0, 0, 0, 1}, 1, 7)[0]), 3) // leaves 3
	return [][]api.Nat{
		nil, {}, {nil}, {{}}, {{0}}, {nil, {0}, {0, 0, 0}}, {p}, {p, nat.Shl(p, 1), mul.Square(p), loose(p, 2), nat.Shl(p, 700)},
		{one}, {{2}}, {last}, {more(p, 1)}, {{1, 0}, p}, {loose(last, 3), {0}, mul.Square(p)}, {d}, {long},
		{nil, one}, {one, one}, {last, one}, {one, last}, {last, last}, {last, last, last}, {nil, nil, one}, {one, {0, 0}, last}, {one, nil, {}, nat.Shl(p, 3), p},
		{d, one}, {one, d}, {one, one, d}, {d, d}, {d, nil, one}, {one, p, d, p}, {nat.Add(p, d), nil, more(p, 2)},
		{{3}, {1}, {2}, {5, 0}}, {{all}, {0, 1}, {all, all}, {0, 0, 0, 0, 1}}, {long, long, {0, 0, 0, 0, 0}, long, nil}, spread(p, numbers(p, 6, 3)),
	}
}

func TestEdges(t *testing.T) {
	ask := func(p api.Nat, divisor uint64) {
		f := made(t, p)
		lists := edges(p, divisor)
		for _, a := range lists {
			wantTrim(t, f, p, a)
			for _, b := range lists {
				wantBoth(t, f, p, a, b)
			}
			for _, x := range []api.Nat{nil, {0}, {1}, {1, 0}, {2}, nat.Of(divisor), less(p, 1), p, loose(p, 1), more(p, 1), nat.Shl(p, 1), {all}, {0, 1}, {7, 7, 7, 7, 7}, more(nat.Shl(p, 700), 2)} {
				wantNumber(t, f, p, a, x)
			}
		}
	}
	for _, p := range primes() {
		ask(p, 4)
	}
	for _, o := range others() {
		ask(o.p, o.divisor)
	}
}

// TestLastNumbersGo has sums, differences and products whose last numbers come to 0: some of them, and all.
func TestLastNumbersGo(t *testing.T) {
	for _, p := range moduli() {
		f, r := made(t, p), ring{numberOf(p)}
		a := numbers(p, 9, 4)
		for gone := range 10 {
			b, c := slices.Clone(a), slices.Clone(a)
			for i := range c {
				if i < 9-gone {
					c[i] = more(c[i], 1)
				}
				b[i] = f.Neg(c[i])
			}
			got := Add(f, a, b)
			wantList(t, got, r.and(r.of(a), r.of(b), 1), "P14.2: Add", p, a, b)
			if len(got) != 9-gone {
				t.Errorf("P14.2: Add of %x, %x, %x: %d numbers, not %d", p, a, b, len(got), 9-gone)
			}
			wantWords(t, Sub(f, a, c), got, "P14.2: Sub", p, a, c)
		}
	}
	for _, o := range others() { // the product of d and of what d goes into P so often, modulo P
		f := made(t, o.p)
		often := wordsOf(new(big.Int).Div(numberOf(o.p), new(big.Int).SetUint64(o.divisor)))
		for _, count := range []int{1, 2, 30, long, long + 1, 3*long + 1} {
			a, b := slices.Repeat(small(o.divisor), count), slices.Repeat([]api.Nat{often}, count)
			wantWords(t, Mul(f, a, b), nil, "P14.2: Mul", o.p, a, b)
			wantWords(t, Scale(f, a, often), nil, "P14.2: Scale", o.p, a, often)
			a[0], b[0] = api.Nat{1}, api.Nat{1} // only the lower ones are left: both, less 1
			want := slices.Clone(Add(f, a, b))
			want[0] = api.Nat{1}
			wantWords(t, Mul(f, a, b), Trim(f, want), "P14.2: Mul", o.p, a, b)
		}
	}
}

// TestMulOfEachLength goes well beyond the length from which products are made of three.
func TestMulOfEachLength(t *testing.T) {
	for _, p := range []api.Nat{{5}, {all - 58}, {all}, {13, 1}, {all, all, all, all}} {
		f, r := made(t, p), ring{numberOf(p)}
		manyA, manyB := numbers(p, 17*long, 1), numbers(p, 17*long, 2)
		for i := range manyA {
			if i%7 == 3 {
				manyA[i] = nil
			}
		}
		ask := func(one, other int) {
			t.Helper()
			a, b := append(manyA[:one:one], api.Nat{1}), append(manyB[:other:other], api.Nat{2})
			wantList(t, Mul(f, a, b), r.longTimes(r.of(a), r.of(b)), "P14.2: Mul", p, one, other)
		}
		for count := range 3*long + 10 {
			ask(count, count)
			ask(count, long-1)
			ask(long-2, count)
		}
		for _, one := range []int{0, 1, 2, long - 2, long - 1, long, 2*long - 2, 2*long - 1, 2 * long, 4*long - 2, 4*long - 1, 4*long + 2} {
			for _, other := range []int{0, 1, long - 2, long - 1, long, 2*long - 1, 2 * long, 5*long + 2, 8*long - 2, 8*long - 1, 8 * long, 16*long + 1} {
				ask(one, other)
				ask(other, one)
			}
		}
	}
}

// TestMulOfGreatest has the greatest numbers, which sum up to the greatest sums, and noughts between.
func TestMulOfGreatest(t *testing.T) {
	for _, p := range moduli() {
		f, r := made(t, p), ring{numberOf(p)}
		for _, count := range []int{1, 2, 3, 17, long - 1, long, long + 1, 5*long + 3} {
			a := slices.Repeat([]api.Nat{less(p, 1)}, count)
			b := slices.Clone(a)
			wantList(t, Mul(f, a, b), r.longTimes(r.of(a), r.of(b)), "P14.2: Mul of P - 1", p, count)
			for i := range b {
				if i%2 == 0 {
					a[i] = less(p, 2)
				} else if i < count-1 {
					b[i] = nil
				}
			}
			wantList(t, Mul(f, a, b), r.longTimes(r.of(a), r.of(b)), "P14.2: Mul of P - 1, P - 2 and 0", p, count)
			clear(a[:count-1])
			clear(b[:count/2])
			wantList(t, Mul(f, a, b), r.longTimes(r.of(a), r.of(b)), "P14.2: Mul of many noughts", p, count)
		}
	}
}

// TestCarries has numbers whose products, and the sums of them, go on to each word ahead.
func TestCarries(t *testing.T) {
	for _, p := range moduli() {
		if len(p) < 2 {
			continue
		}
		f := made(t, p)
		var parts []api.Nat
		for _, x := range []uint64{0, 1, 2, top, all - 1, all} {
			for _, y := range []uint64{0, 1, all} {
				z := slices.Repeat(api.Nat{y}, len(p))
				z[0], z[len(p)-2] = x, x
				parts = append(parts, z, slices.Repeat(api.Nat{x}, len(p)-1))
			}
		}
		for i := range parts {
			a := slices.Concat(parts[i:], parts[:i])[:8]
			for k := range 9 {
				wantMul(t, f, p, a, parts[2*k:2*k+7])
			}
		}
	}
}

func TestSumsOfEachLength(t *testing.T) {
	for _, p := range moduli() {
		f := made(t, p)
		for _, one := range []int{0, 1, 2, 3, 10, 100, 333} {
			for _, other := range []int{0, 1, 2, 3, 11, 100, 250} {
				wantSums(t, f, p, numbers(p, one, uint64(one)), numbers(p, other, uint64(other)+77))
			}
		}
	}
}

func TestNumbersOfEachLength(t *testing.T) {
	for _, p := range moduli() {
		f := made(t, p)
		for _, count := range []int{0, 1, 2, 3, 10, 79, 80, 81, 250} {
			a := numbers(p, count, uint64(count))
			for _, x := range []api.Nat{nil, {1}, {2}, less(p, 1), p, numbers(p, 1, 9)[0], mul.Mul(p, numbers(p, 1, 10)[0]), numbers(api.Nat{0, 0, 0, 0, 0, 1}, 1, 11)[0]} {
				wantNumber(t, f, p, a, x)
				wantNumber(t, f, p, spread(p, a), x)
			}
		}
	}
}

func TestDivOfEachLength(t *testing.T) {
	for _, p := range []api.Nat{{5}, {97}, {all - 58}, {13, 1}, {all - 188, all, all, all}} {
		f := made(t, p)
		for one := range 25 {
			for other := range 25 {
				a, b := numbers(p, one, uint64(one)), numbers(p, other, uint64(other)+55)
				wantDiv(t, f, p, a, b)
				wantDiv(t, f, p, spread(p, a), spread(p, b))
			}
		}
		for _, one := range []int{1, long, 2*long - 1, 2 * long, 2*long + 1, 4*long + 1} {
			for _, other := range []int{1, 2, long - 1, long, long + 1, 2*long + 1, 2*long + 2} {
				wantDiv(t, f, p, numbers(p, one, uint64(one)), numbers(p, other, uint64(other)+99))
			}
		}
	}
}

// TestDivOfProducts has what goes up, and what is left is known.
func TestDivOfProducts(t *testing.T) {
	for _, p := range moduli() {
		f := made(t, p)
		for _, one := range []int{0, 1, 2, 5, 40, 3 * long} {
			for _, other := range []int{1, 2, 5, 60, 2*long + 1} {
				q, b := numbers(p, one, 1), numbers(p, other, 2)
				for _, first := range []api.Nat{{1}, {4}, less(p, 2)} { // these have inverses, P being odd
					b[other-1] = first
					for _, count := range []int{0, other - 1} {
						r := numbers(p, count, 3)
						got, rest, e := Div(f, Add(f, Mul(f, q, b), r), b)
						wantErr(t, e, api.OK, "P14.3: Div of a product", p, q, b, r)
						wantWords(t, got, q, "P14.3: Div's q of a product", p, q, b, r)
						wantWords(t, rest, r, "P14.3: Div's r of a product", p, q, b, r)
					}
				}
			}
		}
	}
}

// TestDivErrors has first numbers without an inverse, and those that leave 0 behind the first one.
func TestDivErrors(t *testing.T) {
	for _, o := range others() {
		f := made(t, o.p)
		for _, count := range []int{0, 1, 2, 3, 200} {
			a := numbers(o.p, count, 6)
			for _, before := range []int{0, 1, 2, 5, 150} {
				b := append(numbers(o.p, before, 7), nat.Of(o.divisor))
				for _, c := range [][]api.Nat{b, spread(o.p, b), append(slices.Clone(b), o.p, nil)} {
					q, r, e := Div(f, a, c)
					wantErr(t, e, api.ErrInv, "P14.3: Div", o.p, a, c)
					wantWords(t, slices.Concat(q, r), nil, "P14.3: Div beside an error", o.p, a, c)
				}
			}
			for _, c := range [][]api.Nat{nil, {}, {nil}, {o.p, nat.Shl(o.p, 1)}} {
				q, r, e := Div(f, a, c)
				wantErr(t, e, api.ErrZero, "P14.3: Div", o.p, a, c)
				wantWords(t, slices.Concat(q, r), nil, "P14.3: Div beside an error", o.p, a, c)
			}
		}
	}
}

func TestGcdOfEachLength(t *testing.T) {
	for _, p := range moduli() {
		f := made(t, p)
		for one := range 9 {
			for other := range 9 {
				wantGcd(t, f, p, numbers(p, one, uint64(one)), numbers(p, other, uint64(other)+55))
			}
		}
	}
	for _, p := range []api.Nat{{7}, {1<<61 - 1}, {all - 58}, {all}, {13, 1}, {all - 188, all, all, all}} {
		f := made(t, p)
		for _, one := range []int{1, 20, 50} {
			for _, other := range []int{2, 21, 40} {
				wantGcd(t, f, p, numbers(p, one, 5), spread(p, numbers(p, other, 6)))
			}
		}
	}
}

// TestGcdOfCommonRoots makes polynomials of their roots, of which some are common.
func TestGcdOfCommonRoots(t *testing.T) {
	of := func(f *fp.Field, roots []api.Nat) []api.Nat {
		out := small(1)
		for _, x := range roots {
			out = Mul(f, out, []api.Nat{f.Neg(x), {1}})
		}
		return out
	}
	for _, p := range primes() {
		f := made(t, p)
		var roots []api.Nat // none twice
		for _, x := range []uint64{0, 1, 2, 3, 4, 5, 6} {
			if nat.Cmp(nat.Of(x), p) < 0 {
				roots = append(roots, f.Mul(nat.Of(x), less(p, 1)))
			}
		}
		for from := range 3 {
			for to := from; to <= 4; to++ {
				one, other, both := slices.Concat(roots[:to], roots[:min(to, 1)]), roots[from:], roots[from:to] // one of them twice
				a, b := Scale(f, of(f, one), api.Nat{3}), Scale(f, of(f, other), less(p, 2))
				for range 2 {
					got, e := Gcd(f, a, b)
					wantErr(t, e, api.OK, "P14.4: Gcd", p, a, b)
					wantWords(t, got, of(f, both), "P14.4: Gcd of roots", p, one, other)
					a, b = b, a
				}
				got, e := Gcd(f, a, a)
				wantErr(t, e, api.OK, "P14.4: Gcd of one and itself", p, a)
				wantWords(t, got, of(f, one), "P14.4: Gcd of one and itself", p, a)
			}
		}
	}
}

// TestGcdErrors has steps whose Div has ErrInv, and a last one whose first number has no inverse.
func TestGcdErrors(t *testing.T) {
	for _, o := range others() {
		f, d := made(t, o.p), nat.Of(o.divisor)
		last := append(numbers(o.p, 4, 8), d) // its first number has none
		whole := numbers(o.p, 3, 9)
		whole[2] = api.Nat{1}
		for _, c := range []struct{ a, b []api.Nat }{
			{last, nil}, {last, []api.Nat{o.p}}, {nil, last}, {whole, last}, {last, last}, {[]api.Nat{d}, nil}, {nil, []api.Nat{d}}, {whole, []api.Nat{d}},
			{Add(f, Mul(f, whole, small(1, 1, 1)), []api.Nat{{1}, d}), whole}, // what the first step leaves is d x + 1
			{Add(f, Mul(f, whole, small(3, 1)), []api.Nat{d}), whole},         // and here it is d
		} {
			got, e := Gcd(f, c.a, c.b)
			wantErr(t, e, api.ErrInv, "P14.4: Gcd", o.p, c.a, c.b)
			wantWords(t, got, nil, "P14.4: Gcd beside an error", o.p, c.a, c.b)
			wantGcd(t, f, o.p, c.a, c.b)
		}
		got, e := Gcd(f, whole, nil) // but none is asked for where it has one
		wantErr(t, e, api.OK, "P14.4: Gcd", o.p, whole)
		wantWords(t, got, whole, "P14.4: Gcd", o.p, whole)
	}
}

// TestLongOnes has great numbers of numbers.
func TestLongOnes(t *testing.T) {
	for _, p := range []api.Nat{{7}, {1<<61 - 1}, {all - 58}, {13, 1}, {all - 188, all, all, all}} {
		f, r := made(t, p), ring{numberOf(p)}
		a, b := numbers(p, 1861, 1), numbers(p, 1860, 2)
		whole := Mul(f, a, b)
		wantList(t, whole, r.longTimes(r.of(a), r.of(b)), "P14.2: Mul", p, 1861, 1860)
		left := numbers(p, 1859, 3)
		q, rest, e := Div(f, Add(f, whole, left), b)
		wantErr(t, e, api.OK, "P14.3: Div", p, 3720, 1860)
		wantWords(t, q, a, "P14.3: Div's q", p, 3720, 1860)
		wantWords(t, rest, left, "P14.3: Div's r", p, 3720, 1860)

		a, b = a[:200], b[:201]
		common := append(numbers(p, 40, 4), api.Nat{1})
		divisor, e := Gcd(f, Mul(f, a, common), Mul(f, b, common))
		wantErr(t, e, api.OK, "P14.4: Gcd", p, 240, 241)
		one, left, e := Div(f, divisor, common)
		wantErr(t, e, api.OK, "P14.4: Gcd", p, 240, 241)
		wantWords(t, left, nil, "P14.4: Gcd of what goes into both", p, 240, 241)
		if nat.Bits(p) > 60 { // others have something in common only by a rare chance
			wantWords(t, one, small(1), "P14.4: Gcd of what goes into both", p, 240, 241)
		}
	}
	many := slices.Repeat(small(1), 100000)
	f := made(t, api.Nat{97})
	wantWords(t, Mul(f, many, small(1, 96)), append(append(small(1), make([]api.Nat, 99999)...), api.Nat{96}), "P14.2: Mul of 100000 numbers")
	if got := Eval(f, many, api.Nat{1}); !slices.Equal(got, api.Nat{100000 % 97}) {
		t.Errorf("P14.2: Eval of 100000 numbers: %x", got)
	}
}

func TestLaws(t *testing.T) {
	for _, p := range moduli() {
		f := made(t, p)
		for _, sizes := range [][3]int{{0, 1, 2}, {1, 1, 1}, {3, 2, 4}, {20, 5, 9}, {long, long + 1, 2 * long}} {
			a, b, c := numbers(p, sizes[0], 1), numbers(p, sizes[1], 2), numbers(p, sizes[2], 3)
			for _, l := range []struct {
				name     string
				one, two []api.Nat
			}{
				{"a and b is b and a", Add(f, a, b), Add(f, b, a)},
				{"sums in brackets", Add(f, Add(f, a, b), c), Add(f, a, Add(f, b, c))},
				{"a and b, less b", Sub(f, Add(f, a, b), b), Trim(f, a)},
				{"a less b is nothing less (b less a)", Sub(f, a, b), Sub(f, nil, Sub(f, b, a))},
				{"a b is b a", Mul(f, a, b), Mul(f, b, a)},
				{"products in brackets", Mul(f, Mul(f, a, b), c), Mul(f, a, Mul(f, b, c))},
				{"a product of a sum", Mul(f, a, Add(f, b, c)), Add(f, Mul(f, a, b), Mul(f, a, c))},
				{"a product of a difference", Mul(f, a, Sub(f, b, c)), Sub(f, Mul(f, a, b), Mul(f, a, c))},
				{"twice a", Scale(f, a, api.Nat{2}), Add(f, a, a)},
				{"a and so many times P less 1 of it", Add(f, a, Scale(f, a, less(p, 1))), nil},
				{"1 times a", Mul(f, a, small(1)), Trim(f, a)},
			} {
				if !same(l.one, l.two) {
					t.Errorf("P14.5: %s, of %x, %x, %x, %x: %x, not %x", l.name, p, a, b, c, l.one, l.two)
				}
			}
			for _, x := range []api.Nat{nil, {1}, {2}, less(p, 1), numbers(p, 1, 4)[0]} {
				at := func(l []api.Nat) api.Nat { return Eval(f, l, x) }
				if got, want := at(Add(f, a, b)), f.Add(at(a), at(b)); !slices.Equal(got, want) {
					t.Errorf("P14.5: the sum of %x, %x, %x at %x: %x, not %x", p, a, b, x, got, want)
				}
				if got, want := at(Sub(f, a, b)), f.Sub(at(a), at(b)); !slices.Equal(got, want) {
					t.Errorf("P14.5: the difference of %x, %x, %x at %x: %x, not %x", p, a, b, x, got, want)
				}
				if got, want := at(Mul(f, a, b)), f.Mul(at(a), at(b)); !slices.Equal(got, want) {
					t.Errorf("P14.5: the product of %x, %x, %x at %x: %x, not %x", p, a, b, x, got, want)
				}
				if got, want := at(Scale(f, a, api.Nat{3})), f.Mul(at(a), api.Nat{3}); !slices.Equal(got, want) {
					t.Errorf("P14.5: 3 times %x, %x at %x: %x, not %x", p, a, x, got, want)
				}
			}
		}
	}
}

// TestCommonDivisors holds Gcd against all polynomials that go into both.
func TestCommonDivisors(t *testing.T) {
	for _, c := range []struct {
		p     uint64
		count int
	}{{5, 3}, {7, 2}, {11, 2}} {
		f := made(t, api.Nat{c.p})
		lists := shorter(c.p, c.count)
		goesInto := func(d, a []api.Nat) bool {
			if d = Trim(f, d); len(d) == 0 { // 0 goes into 0 alone
				return len(Trim(f, a)) == 0
			}
			_, r, e := Div(f, a, d)
			wantErr(t, e, api.OK, "P14.5: Div of a prime", c.p, a, d)
			return len(r) == 0
		}
		goes := make([][]bool, len(lists)) // by d, of all lists
		for i, d := range lists {
			for _, a := range lists {
				goes[i] = append(goes[i], goesInto(d, a))
			}
		}
		for i, a := range lists {
			for k, b := range lists {
				g, e := Gcd(f, a, b)
				wantErr(t, e, api.OK, "P14.5: Gcd of a prime", c.p, a, b)
				if !goesInto(g, a) || !goesInto(g, b) {
					t.Errorf("P14.5: Gcd of %d, %x, %x: %x, which does not go into both", c.p, a, b, g)
				}
				place := slices.IndexFunc(lists, func(l []api.Nat) bool { return same(l, g) })
				for n := range lists {
					if goes[n][i] && goes[n][k] && !goes[n][place] {
						t.Errorf("P14.5: Gcd of %d, %x, %x: %x, into which %x does not go", c.p, a, b, g, lists[n])
					}
				}
			}
		}
	}
}

func TestNoErrInvOfPrimes(t *testing.T) {
	for _, p := range primes() {
		f := made(t, p)
		for one := range 12 {
			for other := range 12 {
				a, b := numbers(p, one, uint64(one)+3), numbers(p, other, uint64(other)+8)
				_, e := Gcd(f, a, b)
				wantErr(t, e, api.OK, "P14.5: Gcd of a prime", p, a, b)
				want := api.OK
				if len(b) == 0 {
					want = api.ErrZero
				}
				_, _, e = Div(f, a, b)
				wantErr(t, e, want, "P14.5: Div of a prime", p, a, b)
			}
		}
	}
}

// nones are no fields: New made none of them.
func nones() []*fp.Field { return []*fp.Field{nil, {}, new(fp.Field)} }

func TestNoField(t *testing.T) {
	for _, f := range nones() {
		for _, a := range [][]api.Nat{nil, {}, {nil}, small(0), small(1), small(1, 2, 3), {{0, 0}, {all, all, 1}}, numbers(api.Nat{all}, 200, 1)} {
			for _, b := range [][]api.Nat{nil, small(0, 0), small(2), small(3, 5), a} {
				wantWords(t, Trim(f, a), nil, "P14.1: Trim of no field", a)
				wantWords(t, Add(f, a, b), nil, "P14.2: Add of no field", a, b)
				wantWords(t, Sub(f, a, b), nil, "P14.2: Sub of no field", a, b)
				wantWords(t, Mul(f, a, b), nil, "P14.2: Mul of no field", a, b)
				q, r, e := Div(f, a, b)
				wantErr(t, e, api.ErrNil, "P14.3: Div of no field", a, b)
				wantWords(t, slices.Concat(q, r), nil, "P14.3: Div of no field", a, b)
				q, e = Gcd(f, a, b)
				wantErr(t, e, api.ErrNil, "P14.4: Gcd of no field", a, b)
				wantWords(t, q, nil, "P14.4: Gcd of no field", a, b)
			}
			for _, x := range []api.Nat{nil, {0}, {1}, {5, 5}} {
				wantWords(t, Scale(f, a, x), nil, "P14.2: Scale of no field", a, x)
				if got := Eval(f, a, x); len(got) != 0 {
					t.Errorf("P14.2: Eval of no field, %x, %x: %x", a, x, got)
				}
			}
		}
	}
}

// answered are all lists that the calls answer, each in a place of its own; Eval's number stands in a list.
func answered(f *fp.Field, a, b []api.Nat, x api.Nat) [][]api.Nat {
	q, r, _ := Div(f, a, b)
	divisor, _ := Gcd(f, a, b)
	return [][]api.Nat{Trim(f, a), Add(f, a, b), Sub(f, a, b), Mul(f, a, b), Scale(f, a, x), {Eval(f, a, x)}, q, r, divisor}
}

// handed are pairs of which answers might be what was handed in.
func handed(p api.Nat) (out [][2][]api.Nat) {
	long := numbers(p, 90, 1)
	long[89] = api.Nat{1}
	lists := [][]api.Nat{nil, {}, {{}}, small(1), small(3, 1), {less(p, 1), nil, {1}}, numbers(p, 4, 1), {p, more(p, 1), p}, spread(p, numbers(p, 3, 2)), {{0, 0}, {1, 0}, {0}}, long}
	for _, a := range lists {
		for _, b := range lists {
			out = append(out, [2][]api.Nat{a, b})
		}
	}
	return out
}

// roomy is a list in memory of its own, with numbers behind its end, and words behind the end of each number.
func roomy(a []api.Nat) (short, whole []api.Nat) {
	number := func(x api.Nat) api.Nat { return append(slices.Clone(x), 11, 12, 13, 14, 15)[:len(x)] }
	for _, x := range a {
		whole = append(whole, number(x))
	}
	whole = append(whole, number(api.Nat{21}), number(api.Nat{22, 23}), number(nil), number(api.Nat{24}))
	return whole[:len(a):len(whole)], whole
}

// copied are all words up to the end of each number's room.
func copied(whole []api.Nat) (out []api.Nat) {
	for _, x := range whole {
		out = append(out, slices.Clone(x[:cap(x)]))
	}
	return out
}

// kept tells whether a list has its lengths and all its words, those behind the ends too.
func kept(whole, before []api.Nat, lengths []int) bool {
	for i, x := range whole {
		if len(x) != lengths[i] || cap(x) < len(before[i]) || !slices.Equal(x[:len(before[i])], before[i]) {
			return false
		}
	}
	return true
}

func lengths(whole []api.Nat) (out []int) {
	for _, x := range whole {
		out = append(out, len(x))
	}
	return out
}

func TestGivenStays(t *testing.T) {
	for _, p := range []api.Nat{{7}, {9}, {all}, {13, 1}, {all, all, all, all}} {
		f := made(t, p)
		for _, c := range handed(p) {
			a, wholeA := roomy(c[0])
			b, wholeB := roomy(c[1])
			numbers, wholeX := roomy([]api.Nat{more(p, 5)})
			whole := slices.Concat(wholeA, wholeB, wholeX)
			before, sizes := copied(whole), lengths(whole)
			answered(f, a, b, numbers[0])
			answered(f, a, a, numbers[0])
			whole = slices.Concat(wholeA, wholeB, wholeX)
			if !kept(whole, before, sizes) {
				t.Errorf("R3: %x, %x, %x: what was handed in became %x", p, c[0], c[1], whole)
			}
			if !slices.Equal(f.P(), p) {
				t.Errorf("R3: P became %x, not %x", f.P(), p)
			}
		}
	}
}

// spoil changes all words of a number, those behind its end too.
func spoil(a api.Nat) {
	a = a[:cap(a)]
	for i := range a {
		a[i] = ^a[i]
	}
}

// spoilList changes all numbers of a list and the list, up to the end of its room.
func spoilList(l []api.Nat) {
	for _, x := range l {
		spoil(x)
	}
	l = l[:cap(l)]
	for i := range l {
		l[i] = api.Nat{77}
	}
}

func clones(lists [][]api.Nat) (out [][]api.Nat) {
	for _, l := range lists {
		var c []api.Nat
		for _, x := range l {
			c = append(c, slices.Clone(x))
		}
		out = append(out, c)
	}
	return out
}

// TestAnsweredIsNew changes each answer, and looks at what was handed in and at all other answers.
func TestAnsweredIsNew(t *testing.T) {
	for _, p := range []api.Nat{{7}, {9}, {all}, {13, 1}, {all, all, all, all}} {
		f := made(t, p)
		x := more(p, 5)
		for _, c := range handed(p) {
			a, wholeA := roomy(c[0])
			b, wholeB := roomy(c[1])
			whole := append(slices.Concat(wholeA, wholeB), x)
			before, sizes := copied(whole), lengths(whole)
			lists := answered(f, a, b, x)
			want := clones(lists)
			for i := range lists {
				spoilList(lists[i])
				for k := i + 1; k < len(lists); k++ {
					if !same(lists[k], want[k]) {
						t.Fatalf("R3: %x, %x, %x: answer %d has memory of answer %d", p, c[0], c[1], i, k)
					}
				}
			}
			if whole = append(slices.Concat(wholeA, wholeB), x); !kept(whole, before, sizes) {
				t.Errorf("R3: %x, %x, %x: an answer has memory of what was handed in", p, c[0], c[1])
			}
			if again := answered(f, a, b, x); !slices.EqualFunc(again, want, same) {
				t.Errorf("R5: %x, %x, %x: %x, not %x", p, c[0], c[1], again, want)
			}
		}
	}
}

// TestNumbersApart changes each number of an answer, and looks at all others of it.
func TestNumbersApart(t *testing.T) {
	for _, p := range []api.Nat{{7}, {all}, {13, 1}, {all, all, all, all}} {
		f := made(t, p)
		for _, c := range handed(p) {
			for i, l := range answered(f, c[0], c[1], api.Nat{3}) {
				want := clones([][]api.Nat{l})[0]
				for k := range l {
					spoil(l[k])
					want[k] = slices.Clone(l[k])
					if !same(l, want) {
						t.Fatalf("R3: %x, %x, %x: number %d of answer %d has memory of another one", p, c[0], c[1], k, i)
					}
				}
			}
		}
	}
}

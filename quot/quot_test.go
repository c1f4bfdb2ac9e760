package quot

import (
	"math"
	"math/big"
	"slices"
	"testing"

	"caltrop/api"
	"caltrop/fp"
	"caltrop/mul"
	"caltrop/nat"
	"caltrop/poly"
)

const (
	all = math.MaxUint64 // a word whose bits are all 1
	top = 1 << 63        // a word whose highest bit alone is 1
)

// less is a without so many; there are as many.
func less(a api.Nat, count uint64) api.Nat {
	out, _ := nat.Sub(a, nat.Of(count))
	return out
}

// more is a and so many.
func more(a api.Nat, count uint64) api.Nat { return nat.Add(a, nat.Of(count)) }

// row makes words without any order to be seen in them; another seed makes another row.
func row(seed uint64) func() uint64 {
	return func() uint64 {
		seed = seed*6364136223846793005 + 1442695040888963407
		return seed ^ seed>>29
	}
}

// numbers is a list of so many numbers below p, without any order to be seen in them; the last one is not 0.
func numbers(p api.Nat, count int, seed uint64) []api.Nat {
	next, whole := row(seed), numberOf(p)
	out := make([]api.Nat, count)
	for i := range out {
		for {
			x := make(api.Nat, len(p)+1)
			for k := range x {
				x[k] = next()
			}
			rest := numberOf(x)
			out[i] = wordsOf(rest.Mod(rest, whole))
			if i < count-1 || len(out[i]) > 0 {
				break
			}
		}
	}
	return out
}

// modulusOf is an h of so many numbers, whose first number is one that has an inverse by each odd number.
func modulusOf(p api.Nat, count int, seed uint64) []api.Nat {
	out := numbers(p, count, seed)
	out[count-1] = []api.Nat{{1}, {2}, {4}, less(p, 1), less(p, 2)}[seed%5]
	return out
}

// small is a list of numbers of one word.
func small(l ...uint64) []api.Nat {
	out := make([]api.Nat, len(l))
	for i, n := range l {
		out[i] = nat.Of(n)
	}
	return out
}

// loose is a's number in words that may not be, unless noughts is 0.
func loose(a api.Nat, noughts int) api.Nat {
	return append(slices.Clone(a), make(api.Nat, noughts)...)
}

// spread is the polynomial of a in other numbers: more times p, in words that may not be, with noughts and p at the end.
func spread(p api.Nat, a []api.Nat) []api.Nat {
	out := make([]api.Nat, len(a), len(a)+4)
	for i, x := range a {
		out[i] = loose(nat.Add(x, mul.Mul(p, nat.Of(uint64(i%3)*(1<<63+5)))), i%4)
	}
	return append(out, nil, p, loose(nil, 2), loose(nat.Shl(p, 100), 1))
}

// primes are primes of 3 bits to MaxField, at the ends of words among them.
func primes() []api.Nat {
	return []api.Nat{
		{5}, {7}, {11}, {13}, {97}, {65537}, {1<<31 - 1}, {1<<32 - 5}, {1<<32 + 15}, {1<<61 - 1}, {1<<63 - 25}, {all - 58},
		{13, 1}, {all, 1<<63 - 1}, {all - 158, all}, {51, 0, 1}, {all, all - 1, all}, {133, 0, 0, 1},
		{all - 188, all, all, all}, {all, 1<<32 - 1, 0, 0xffffffff00000001},
	}
}

// divided is an odd number that is no prime, and a number between 1 and itself that goes into it.
type divided struct {
	p       api.Nat
	divisor uint64
}

// others are odd numbers that are no primes, of 4 bits to MaxField; all of their bits are 1 in many of them.
func others() []divided {
	return []divided{
		{api.Nat{9}, 3}, {api.Nat{15}, 5}, {api.Nat{25}, 5}, {api.Nat{27}, 9}, {api.Nat{105}, 21}, {api.Nat{1<<31 + 1}, 3}, {api.Nat{1<<32 - 1}, 3},
		{api.Nat{1<<63 - 1}, 7}, {api.Nat{top + 1}, 3}, {api.Nat{all}, 3}, {api.Nat{all, 1}, 31}, {api.Nat{1, 2}, 3},
		{api.Nat{all, all}, 3}, {api.Nat{all, all, 1}, 7}, {api.Nat{all, all, all}, 3}, {api.Nat{all, all, all, all}, 3},
	}
}

// moduli are those that all calls are asked with.
func moduli() []api.Nat {
	out := primes()
	for _, o := range others() {
		out = append(out, o.p)
	}
	return out
}

// numberOf is the number of words by the words of chapter 2 alone, in numbers of the library.
func numberOf(a api.Nat) *big.Int {
	b := make([]byte, 0, 8*len(a))
	for _, x := range slices.Backward(a) {
		for shift := 56; shift >= 0; shift -= 8 {
			b = append(b, byte(x>>shift))
		}
	}
	return new(big.Int).SetBytes(b)
}

// wordsOf is a number of the library's in words that may be.
func wordsOf(x *big.Int) api.Nat { return nat.FromBytes(x.Bytes()) }

// made is the field of p.
func made(t *testing.T, p api.Nat) *fp.Field {
	t.Helper()
	f, e := fp.New(p)
	if f == nil || e != api.OK {
		t.Fatalf("fp.New of %x: error %d", p, e)
	}
	return f
}

// ring tells what becomes of polynomials by the chapters' words, in numbers of the library.
type ring struct{ p *big.Int }

type list = []*big.Int

// of takes a list for its polynomial.
func (r ring) of(a []api.Nat) list {
	var out list
	for _, x := range a {
		out = append(out, numberOf(x))
	}
	return r.trimmed(out)
}

// trimmed is of what the numbers leave, without noughts at the end.
func (r ring) trimmed(a list) list {
	out := make(list, len(a))
	for i, x := range a {
		out[i] = new(big.Int).Mod(x, r.p)
	}
	for len(out) > 0 && out[len(out)-1].Sign() == 0 {
		out = out[:len(out)-1]
	}
	return out
}

// and is a and so many times b.
func (r ring) and(a, b list, count *big.Int) list {
	out := make(list, max(len(a), len(b)))
	for i := range out {
		out[i] = new(big.Int)
		if i < len(a) {
			out[i].Set(a[i])
		}
		if i < len(b) {
			out[i].Add(out[i], new(big.Int).Mul(b[i], count))
		}
	}
	return r.trimmed(out)
}

// times sums up the products of each number and each other one.
func (r ring) times(a, b list) list {
	if len(a) == 0 || len(b) == 0 {
		return nil
	}
	out := make(list, len(a)+len(b)-1)
	for i := range out {
		out[i] = new(big.Int)
	}
	product := new(big.Int)
	for i, x := range a {
		for k, y := range b {
			out[i+k].Add(out[i+k], product.Mul(x, y))
		}
	}
	return r.trimmed(out)
}

// rest takes b away, as often as it goes; none is told if b's first number has no inverse, or b is 0.
func (r ring) rest(a, b list) (out list, is bool) {
	if len(b) == 0 {
		return nil, false
	}
	inverse := new(big.Int).ModInverse(b[len(b)-1], r.p)
	if inverse == nil {
		return nil, false
	}
	out = r.trimmed(a)
	for len(out) >= len(b) {
		place := len(out) - len(b)
		count := new(big.Int).Mul(out[len(out)-1], inverse)
		count.Mod(count, r.p)
		product := new(big.Int)
		for i, x := range b {
			out[place+i].Sub(out[place+i], product.Mul(count, x))
		}
		out = r.trimmed(out)
	}
	return out, true
}

// may tells whether h may be.
func (r ring) may(h list) bool {
	return len(h) >= 2 && new(big.Int).ModInverse(h[len(h)-1], r.p) != nil
}

// common is poly.Gcd: it goes on as long as b is not 0. It has an error, if there is none.
func (r ring) common(a, b list) (list, bool) {
	for len(b) > 0 {
		rest, is := r.rest(a, b)
		if !is {
			return nil, false
		}
		a, b = b, rest
	}
	if len(a) == 0 {
		return nil, true
	}
	inverse := new(big.Int).ModInverse(a[len(a)-1], r.p)
	if inverse == nil {
		return nil, false
	}
	return r.times(a, list{inverse}), true
}

// by is what the product leaves by h, which may be.
func (r ring) by(h, a, b list) list {
	out, _ := r.rest(r.times(a, b), h)
	return out
}

// power goes from the lowest bit on, and quot from the highest one.
func (r ring) power(h, a list, k *big.Int) list {
	out, _ := r.rest(list{big.NewInt(1)}, h)
	square, _ := r.rest(a, h)
	for i := range k.BitLen() {
		if k.Bit(i) == 1 {
			out = r.by(h, out, square)
		}
		square = r.by(h, square, square)
	}
	return out
}

// at is the sum of a's numbers times their powers of b.
func (r ring) at(h, a, b list) (sum list) {
	power := list{big.NewInt(1)}
	for _, x := range a {
		sum = r.and(sum, power, x)
		power = r.by(h, power, b)
	}
	return sum
}

// wantList says what is wrong with an answer, if it is not that polynomial, in numbers that may be.
func wantList(t *testing.T, got []api.Nat, want list, call string, args ...any) {
	t.Helper()
	is := len(got) == len(want)
	for i := 0; is && i < len(got); i++ {
		is = nat.May(got[i]) && numberOf(got[i]).Cmp(want[i]) == 0
	}
	if !is {
		t.Errorf("%s of %x: %x, not %x", call, args, got, want)
	}
}

// wantWords says what is wrong with an answer, if it is not these numbers, in these words.
func wantWords(t *testing.T, got, want []api.Nat, call string, args ...any) {
	t.Helper()
	if !same(got, want) {
		t.Errorf("%s of %x: %x, not %x", call, args, got, want)
	}
}

// same tells whether two lists have the same numbers, in the same words.
func same(a, b []api.Nat) bool {
	return slices.EqualFunc(a, b, func(x, y api.Nat) bool { return slices.Equal(x, y) })
}

// wantErr says what is wrong with an error.
func wantErr(t *testing.T, got, want api.Errno, call string, args ...any) {
	t.Helper()
	if got != want {
		t.Errorf("%s of %x: error %d, not %d", call, args, got, want)
	}
}

// wantOf asks Of by h.
func wantOf(t *testing.T, f *fp.Field, h, a []api.Nat) {
	t.Helper()
	r := ring{numberOf(f.P())}
	var want list
	wantE := api.ErrArg
	if r.may(r.of(h)) {
		want, _ = r.rest(r.of(a), r.of(h))
		wantE = api.OK
	}
	got, e := Of(f, h, a)
	wantErr(t, e, wantE, "P15.1: Of", f.P(), h, a)
	wantList(t, got, want, "P15.1: Of", f.P(), h, a)
}

// wantMul asks Mul by h.
func wantMul(t *testing.T, f *fp.Field, h, a, b []api.Nat) {
	t.Helper()
	r := ring{numberOf(f.P())}
	var want list
	wantE := api.ErrArg
	if r.may(r.of(h)) {
		want = r.by(r.of(h), r.of(a), r.of(b))
		wantE = api.OK
	}
	got, e := Mul(f, h, a, b)
	wantErr(t, e, wantE, "P15.2: Mul", f.P(), h, a, b)
	wantList(t, got, want, "P15.2: Mul", f.P(), h, a, b)
}

// wantExp asks Exp by h.
func wantExp(t *testing.T, f *fp.Field, h, a []api.Nat, k api.Nat) {
	t.Helper()
	r := ring{numberOf(f.P())}
	var want list
	wantE := api.OK
	switch {
	case !r.may(r.of(h)):
		wantE = api.ErrArg
	case numberOf(k).BitLen() > 4*api.MaxBits:
		wantE = api.ErrMany
	default:
		want = r.power(r.of(h), r.of(a), numberOf(k))
	}
	got, e := Exp(f, h, a, k)
	wantErr(t, e, wantE, "P15.2: Exp", f.P(), h, a, k)
	wantList(t, got, want, "P15.2: Exp", f.P(), h, a, k)
}

// wantCompose asks Compose by h.
func wantCompose(t *testing.T, f *fp.Field, h, a, b []api.Nat) {
	t.Helper()
	r := ring{numberOf(f.P())}
	var want list
	wantE := api.ErrArg
	if r.may(r.of(h)) {
		want = r.at(r.of(h), r.of(a), r.of(b))
		wantE = api.OK
	}
	got, e := Compose(f, h, a, b)
	wantErr(t, e, wantE, "P15.2: Compose", f.P(), h, a, b)
	wantList(t, got, want, "P15.2: Compose", f.P(), h, a, b)
}

// wantInv asks Inv by h. There is but one polynomial shorter than h whose product with a leaves 1: of two, the one times a times the other one is both.
func wantInv(t *testing.T, f *fp.Field, h, a []api.Nat) (inv []api.Nat) {
	t.Helper()
	r := ring{numberOf(f.P())}
	whole := r.of(h)
	inv, common, e := Inv(f, h, a)
	if !r.may(whole) {
		wantErr(t, e, api.ErrArg, "P15.3: Inv", f.P(), h, a)
		wantWords(t, slices.Concat(inv, common), nil, "P15.3: Inv beside ErrArg", f.P(), h, a)
		return nil
	}
	rest, _ := r.rest(r.of(a), whole)
	want, is := r.common(whole, rest)
	switch {
	case !is:
		wantErr(t, e, api.ErrPrime, "P15.3: Inv", f.P(), h, a)
		wantWords(t, slices.Concat(inv, common), nil, "P15.3: Inv beside ErrPrime", f.P(), h, a)
	case len(want) > 1:
		wantErr(t, e, api.ErrInv, "P15.3: Inv", f.P(), h, a)
		wantWords(t, inv, nil, "P15.3: Inv beside ErrInv", f.P(), h, a)
		wantList(t, common, want, "P15.3: Inv's common", f.P(), h, a)
	default:
		wantErr(t, e, api.OK, "P15.3: Inv", f.P(), h, a)
		wantWords(t, common, nil, "P15.3: Inv's common", f.P(), h, a)
		wantList(t, inv, r.of(inv), "P15.3: Inv, which may be", f.P(), h, a)
		if len(inv) >= len(whole) {
			t.Errorf("P15.3: Inv of %x, %x, %x: %x, which is not shorter", f.P(), h, a, inv)
		}
		product, _ := Mul(f, h, a, inv)
		wantWords(t, product, small(1), "P15.3: Inv times a", f.P(), h, a, inv)
		wantList(t, product, r.by(whole, rest, r.of(inv)), "P15.3: Inv times a", f.P(), h, a, inv)
	}
	return inv
}

// exponents are few, and quickly gone through.
func exponents(p api.Nat) []api.Nat {
	return []api.Nat{nil, {0}, {0, 0, 0}, {1}, {1, 0}, {2}, {3}, {4}, {5}, {7}, {8}, {9}, {all, 0}, {0, 1}, {1, 1, 0, 0}, p, less(p, 1)}
}

// wantAll asks all calls by h.
func wantAll(t *testing.T, f *fp.Field, h, a, b []api.Nat) {
	t.Helper()
	wantOf(t, f, h, a)
	wantMul(t, f, h, a, b)
	wantCompose(t, f, h, a, b)
	wantInv(t, f, h, a)
}

func TestSamples(t *testing.T) {
	for _, p := range primes() {
		if !numberOf(p).ProbablyPrime(20) {
			t.Errorf("%x is no prime", p)
		}
	}
	for _, o := range others() {
		rest := new(big.Int).Mod(numberOf(o.p), new(big.Int).SetUint64(o.divisor))
		if o.divisor < 2 || nat.Cmp(o.p, nat.Of(o.divisor)) <= 0 || rest.Sign() != 0 {
			t.Errorf("%d does not go into %x", o.divisor, o.p)
		}
	}
	sizes := map[int]bool{}
	for _, p := range moduli() {
		sizes[nat.Bits(p)] = true
	}
	for _, size := range []int{3, 31, 63, 64, 65, 128, 129, api.MaxField} {
		if !sizes[size] {
			t.Errorf("no number of %d bits", size)
		}
	}
}

func TestExamples(t *testing.T) {
	f, h := made(t, api.Nat{7}), small(1, 0, 1)
	got, e := Of(f, h, small(0, 0, 1))
	wantErr(t, e, api.OK, "P15.1: Of")
	wantWords(t, got, small(6), "P15.1: Of")
	got, e = Mul(f, h, small(0, 1), small(0, 1))
	wantErr(t, e, api.OK, "P15.2: Mul")
	wantWords(t, got, small(6), "P15.2: Mul")
	got, e = Exp(f, h, small(0, 1), api.Nat{4})
	wantErr(t, e, api.OK, "P15.2: Exp")
	wantWords(t, got, small(1), "P15.2: Exp")
	got, e = Compose(f, h, small(1, 0, 1), small(0, 1))
	wantErr(t, e, api.OK, "P15.2: Compose")
	wantWords(t, got, nil, "P15.2: Compose")
	inv, common, e := Inv(f, h, small(0, 1))
	wantErr(t, e, api.OK, "P15.3: Inv")
	wantWords(t, inv, []api.Nat{nil, {6}}, "P15.3: Inv")
	wantWords(t, common, nil, "P15.3: Inv's common")
	inv, common, e = Inv(f, small(6, 1), small(6, 0, 1))
	wantErr(t, e, api.ErrInv, "P15.3: Inv of 6 0 1 by 6 1")
	wantWords(t, inv, nil, "P15.3: Inv of 6 0 1 by 6 1")
	wantWords(t, common, small(6, 1), "P15.3: Inv's common of 6 0 1 by 6 1")
}

// TestWrittenOut has answers that were made by hand.
func TestWrittenOut(t *testing.T) {
	f, h := made(t, api.Nat{7}), small(5, 3, 0, 2) // x^3 leaves 2 x + 1
	for _, c := range []struct{ a, want []api.Nat }{
		{nil, nil}, {small(0, 7), nil}, {small(9, 8), small(2, 1)}, {small(0, 0, 3), small(0, 0, 3)}, {small(0, 0, 0, 1), small(1, 2)},
		{small(0, 0, 0, 0, 1), small(0, 1, 2)}, {small(0, 0, 0, 0, 0, 1), small(2, 4, 1)}, {h, nil}, {small(6, 3, 0, 2), small(1)},
	} {
		got, e := Of(f, h, c.a)
		wantErr(t, e, api.OK, "P15.1: Of", c.a)
		wantWords(t, got, c.want, "P15.1: Of", c.a)
	}
	for _, c := range []struct{ a, b, product, at []api.Nat }{
		{small(0, 1), small(0, 0, 1), small(1, 2), small(0, 0, 1)},
		{small(0, 0, 1), small(0, 0, 1), small(0, 1, 2), small(0, 1, 2)},
		{small(1, 1), small(3, 0, 5), small(1, 6, 5), small(4, 0, 5)},
		{small(2, 0, 0, 0, 1), nil, nil, small(2)},           // at nothing
		{small(3), small(1, 2, 3), small(3, 6, 2), small(3)}, // a number at any place
		{small(0, 0, 0, 1), small(0, 1), small(0, 1, 2), small(1, 2)},
	} {
		got, e := Mul(f, h, c.a, c.b)
		wantErr(t, e, api.OK, "P15.2: Mul", c.a, c.b)
		wantWords(t, got, c.product, "P15.2: Mul", c.a, c.b)
		got, e = Compose(f, h, c.a, c.b)
		wantErr(t, e, api.OK, "P15.2: Compose", c.a, c.b)
		wantWords(t, got, c.at, "P15.2: Compose", c.a, c.b)
	}
	f, h = made(t, api.Nat{7}), small(6, 0, 1)                                       // x^2 is 1
	for k, want := range [][]api.Nat{small(1), small(3, 1), small(3, 6), small(1)} { // (x + 3) (6 x + 3) is 6 x^2 + 21 x + 9
		got, e := Exp(f, h, small(3, 1), nat.Of(uint64(k)))
		wantErr(t, e, api.OK, "P15.2: Exp", k)
		wantWords(t, got, want, "P15.2: Exp", k)
	}
	// what is taken as it is: x^2 leaves 1 by x^2 - 1, but at 2 x it is 4 x^2
	got, e := Compose(f, h, small(0, 0, 1), small(0, 2))
	wantErr(t, e, api.OK, "P15.2: Compose of x^2 at 2 x")
	wantWords(t, got, small(4), "P15.2: Compose of x^2 at 2 x")

	f, h = made(t, api.Nat{9}), small(2, 0, 1) // no prime
	for _, c := range []struct {
		h, a, inv, common []api.Nat
		e                 api.Errno
	}{
		{h, small(0, 3), nil, nil, api.ErrPrime},              // the first step's Div has no inverse of 3
		{small(6, 0, 1), small(0, 1), nil, nil, api.ErrPrime}, // the second one's has none: 6 is left
		{h, small(3), nil, nil, api.ErrPrime},
		{h, small(4), small(7), nil, api.OK},
		{h, small(0, 1), small(0, 4), nil, api.OK}, // 4 x^2 is -8, and 1
		{h, nil, nil, small(2, 0, 1), api.ErrInv},
		{small(4, 0, 2), nil, nil, small(2, 0, 1), api.ErrInv},
		{small(8, 0, 1), small(2, 2), nil, small(1, 1), api.ErrInv},
		{small(1, 3), small(1), nil, nil, api.ErrArg},
	} {
		inv, common, e := Inv(f, c.h, c.a)
		wantErr(t, e, c.e, "P15.3: Inv", c.h, c.a)
		wantWords(t, inv, c.inv, "P15.3: Inv", c.h, c.a)
		wantWords(t, common, c.common, "P15.3: Inv's common", c.h, c.a)
	}
}

// shorter are all lists of at most so many numbers, each below most.
func shorter(most uint64, count int) [][]api.Nat {
	out := [][]api.Nat{nil}
	for from := 0; count > 0; count-- {
		next := len(out)
		for _, l := range out[from:next] {
			for n := range most {
				out = append(out, append(slices.Clone(l), nat.Of(n)))
			}
		}
		from = next
	}
	return out
}

// TestSmallFieldsWhole has lists of noughts alone, with noughts at their end, and with numbers from P on among them.
func TestSmallFieldsWhole(t *testing.T) {
	t.Parallel()
	for _, c := range []struct {
		p, most uint64
		h, a, b int // how many numbers at most
	}{{5, 5, 3, 3, 1}, {5, 5, 3, 2, 2}, {7, 8, 2, 2, 1}, {7, 7, 3, 1, 1}, {9, 9, 2, 2, 1}, {9, 3, 4, 2, 2}, {15, 15, 2, 2, 0}, {5, 2, 4, 4, 3}, {5, 11, 2, 1, 1}} {
		f := made(t, api.Nat{c.p})
		for _, h := range shorter(c.most, c.h) {
			for _, a := range shorter(c.most, c.a) {
				wantOf(t, f, h, a)
				wantInv(t, f, h, a)
				for _, b := range shorter(c.most, c.b) {
					wantMul(t, f, h, a, b)
					wantCompose(t, f, h, a, b)
				}
			}
		}
	}
}

// TestPowersOneByOne multiplies as often as the exponent says.
func TestPowersOneByOne(t *testing.T) {
	t.Parallel()
	for _, c := range []struct {
		p    uint64
		h, a int
	}{{5, 3, 2}, {7, 2, 2}, {9, 2, 2}} {
		f := made(t, api.Nat{c.p})
		r := ring{new(big.Int).SetUint64(c.p)}
		for _, h := range shorter(c.p, c.h) {
			if !r.may(r.of(h)) {
				continue
			}
			for _, a := range shorter(c.p, c.a) {
				want := list{big.NewInt(1)}
				for k := range uint64(27) {
					got, e := Exp(f, h, a, nat.Of(k))
					wantErr(t, e, api.OK, "P15.2: Exp", c.p, h, a, k)
					wantList(t, got, want, "P15.2: Exp", c.p, h, a, k)
					want = r.by(r.of(h), want, r.of(a))
				}
			}
		}
	}
}

// TestInversesBySearch looks for each inverse among all polynomials that are shorter than h. Of a prime there is none just if both have something in common.
func TestInversesBySearch(t *testing.T) {
	t.Parallel()
	for _, c := range []struct {
		p uint64
		h int
	}{{5, 3}, {7, 3}, {9, 2}, {15, 2}} {
		f := made(t, api.Nat{c.p})
		r := ring{new(big.Int).SetUint64(c.p)}
		lists := slices.DeleteFunc(shorter(c.p, c.h-1), func(l []api.Nat) bool { return len(l) != len(r.of(l)) })
		for _, h := range shorter(c.p, c.h) {
			whole := r.of(h)
			if !r.may(whole) {
				continue
			}
			for _, a := range lists {
				var found [][]api.Nat
				for _, b := range lists {
					product := r.by(whole, r.of(a), r.of(b))
					if len(b) < len(whole) && len(product) == 1 && product[0].Cmp(big.NewInt(1)) == 0 {
						found = append(found, b)
					}
				}
				inv, _, e := Inv(f, h, a)
				switch isPrime := r.p.ProbablyPrime(20); {
				case e == api.OK && len(found) == 1:
					wantWords(t, inv, found[0], "P15.3: Inv", c.p, h, a)
				case e == api.ErrInv && len(found) == 0, e == api.ErrPrime && !isPrime:
				default:
					t.Errorf("P15.3: Inv of %d, %x, %x: error %d, but %x were found", c.p, h, a, e, found)
				}
			}
		}
	}
}

// hs are polynomials that may be an h, and some that may not.
func hs(p api.Nat, divisor uint64) [][]api.Nat {
	one, d, last := api.Nat{1}, nat.Of(divisor), less(p, 1)
	return [][]api.Nat{
		nil, {}, {nil}, {{0}}, {nil, {0}, {0, 0, 0}}, {p}, {p, nat.Shl(p, 1), mul.Square(p), loose(p, 2)}, // 0
		{one}, {last}, {d}, {{1, 0}, p}, {more(p, 1), nil, {0, 0}, nat.Shl(p, 3)}, // of one number
		{nil, one}, {one, one}, {last, one}, {one, last}, {last, {2}}, {d, one}, {one, d}, {nil, d}, {more(p, 5), nat.Add(p, d)}, // of two
		{one, one, p}, {{3}, last, nil, {0, 0}}, {d, {4}, loose(p, 1), nat.Shl(p, 64)}, // that become two
		{one, d, p}, {one, one, d, nil}, {one, {5}, last, nat.Add(nat.Shl(p, 1), d)}, // whose first number is d
		{one, nil, one}, {last, nil, {2}}, {d, d, one}, {d, one, more(p, 2)}, {nil, nil, one}, {nil, nil, nil, last}, {one, {2}, {1, 0, 0}}, // of several
		{{5}, {all}, {0, 1}, {all, all}, nat.Add(mul.Square(p), less(p, 2)), p},
		spread(p, modulusOf(p, 6, 3)),
	}
}

// as are polynomials that are shorter than some of hs, as long and longer, with noughts and what leaves 0 at their end, in words that may not be.
func as(p api.Nat, divisor uint64) [][]api.Nat {
	one, d, last := api.Nat{1}, nat.Of(divisor), less(p, 1)
	return [][]api.Nat{
		nil, {nil, {0, 0}, p}, {one}, {{2}}, {last}, {more(p, 1), nil}, {d}, {p, one}, {one, one}, {last, one}, {d, one, {0}}, {one, d}, {d, d},
		{one, {2, 0}, more(p, 1)}, {last, nil, loose(last, 2)}, {d, nil, one}, {one, one, d}, {nil, nil, nil, {3}},
		{{all}, {0, 1}, {all, all}, {0, 0, 0, 0, 1}, {7, 0}}, spread(p, numbers(p, 9, 3)),
	}
}

func TestEdges(t *testing.T) {
	t.Parallel()
	ask := func(p api.Nat, divisor uint64) {
		f := made(t, p)
		lists := as(p, divisor)
		for _, h := range hs(p, divisor) {
			for i, a := range lists {
				for k := range 5 {
					wantAll(t, f, h, a, lists[(i+k*k)%len(lists)])
				}
				k := exponents(p)[i%len(exponents(p))]
				wantExp(t, f, h, a, k)
				wantExp(t, f, h, a, nil)
			}
		}
	}
	for _, p := range primes() {
		ask(p, 4)
	}
	for _, o := range others() {
		ask(o.p, o.divisor)
	}
}

// TestWhichMayBe tells by hand which h may be.
func TestWhichMayBe(t *testing.T) {
	ask := func(f *fp.Field, h []api.Nat, want api.Errno) {
		t.Helper()
		for _, a := range [][]api.Nat{nil, small(1), small(1, 2, 3)} {
			_, e := Of(f, h, a)
			wantErr(t, e, want, "P15.1: Of", f.P(), h, a)
			_, e = Mul(f, h, a, a)
			wantErr(t, e, want, "P15.1: Mul", f.P(), h, a)
			_, e = Exp(f, h, a, api.Nat{3})
			wantErr(t, e, want, "P15.1: Exp", f.P(), h, a)
			_, e = Compose(f, h, a, a)
			wantErr(t, e, want, "P15.1: Compose", f.P(), h, a)
			if _, _, e = Inv(f, h, a); (e == api.ErrArg) != (want == api.ErrArg) || e == api.ErrNil || e == api.ErrMany {
				t.Errorf("P15.1: Inv of %x, %x, %x: error %d, not %d", f.P(), h, a, e, want)
			}
		}
	}
	for _, p := range moduli() {
		f := made(t, p)
		for _, h := range [][]api.Nat{nil, {}, {nil}, {{}}, {{0, 0}}, {p}, {{1}}, {less(p, 1)}, {p, p, p}, {{1}, nil}, {{2}, p}, {{3}, {0}, mul.Square(p)}, make([]api.Nat, 100)} {
			ask(f, h, api.ErrArg)
		}
		for _, h := range [][]api.Nat{{nil, {1}}, {p, {1, 0}}, {{1}, less(p, 1)}, {{5}, {2}, nil, p}, {nil, nil, {4}}, {nil, more(p, 1)}, append(make([]api.Nat, 50), less(p, 2))} {
			ask(f, h, api.OK)
		}
	}
	for _, o := range others() {
		f, d := made(t, o.p), nat.Of(o.divisor)
		for _, h := range [][]api.Nat{{{1}, d}, {{1}, {1}, d}, {d, d}, {{1}, nat.Add(o.p, d)}, {{1}, {1}, nat.Shl(d, 1), nil, o.p}, append(make([]api.Nat, 50), d)} {
			ask(f, h, api.ErrArg)
		}
		for _, h := range [][]api.Nat{{d, {1}}, {d, d, {2}}, {nil, d, less(o.p, 1)}} {
			ask(f, h, api.OK)
		}
	}
}

func TestExpOfMany(t *testing.T) {
	t.Parallel()
	for _, p := range moduli() {
		f := made(t, p)
		for _, h := range [][]api.Nat{{{3}, {1}}, {p, {2}}, {{1}, {0}, {1}}, modulusOf(p, 5, 7)} {
			for _, a := range [][]api.Nat{nil, {p}, {{1}}, {nil, {1}}, numbers(p, 11, 6)} {
				for _, k := range exponents(p) {
					wantExp(t, f, h, a, k)
				}
			}
			a := spread(p, numbers(p, 3, 4))
			for _, shift := range []int{2, 5, 31, 63, 64, 65, 128} {
				power := nat.Shl(nat.Of(1), shift)
				wantExp(t, f, h, a, power)
				wantExp(t, f, h, a, less(power, 1))
				wantExp(t, f, h, a, loose(more(power, 1), shift%3))
			}
		}
	}
}

// TestExpLimit has exponents of 4 times MaxBits bits, and of one more.
func TestExpLimit(t *testing.T) {
	t.Parallel()
	words := 4 * api.MaxBits / 64
	whole, highest, over := slices.Repeat(api.Nat{all}, words), append(make(api.Nat, words-1), top), append(make(api.Nat, words), 1)
	for _, p := range []api.Nat{{7}, {9}, {all - 58}, {13, 1}, {all - 188, all, all, all}} {
		f := made(t, p)
		for _, h := range [][]api.Nat{{{3}, {2}}, modulusOf(p, 4, 2)} {
			for _, k := range []api.Nat{whole, highest, loose(whole, 5), less(highest, 1), more(highest, 1), over, loose(over, 1), append(slices.Clone(whole), 1), append(slices.Clone(whole), all), append(make(api.Nat, 3*words), 1, 0)} {
				wantExp(t, f, h, spread(p, numbers(p, 3, 9)), k)
				wantExp(t, f, small(1), small(1, 1), k) // ErrArg ahead of ErrMany
				wantExp(t, f, nil, nil, k)
				if got, e := Exp(nil, h, small(1), k); e != api.ErrNil || len(got) > 0 {
					t.Errorf("P15.1: Exp of no field: %x, error %d", got, e)
				}
			}
			for _, k := range []api.Nat{whole, highest} {
				_, e := Exp(f, h, nil, k)
				wantErr(t, e, api.OK, "P15.2: Exp", p, h, k)
			}
			for _, k := range []api.Nat{over, loose(over, 1)} {
				got, e := Exp(f, h, small(1), k)
				wantErr(t, e, api.ErrMany, "P15.2: Exp", p, h, k)
				wantWords(t, got, nil, "P15.2: Exp beside ErrMany", p, h, k)
				_, e = Exp(f, small(1), small(1), k)
				wantErr(t, e, api.ErrArg, "P15.1: Exp ahead of ErrMany", p, k)
			}
		}
	}
	for _, o := range others() { // an h whose first number has no inverse
		_, e := Exp(made(t, o.p), small(1, o.divisor), small(1), over)
		wantErr(t, e, api.ErrArg, "P15.1: Exp ahead of ErrMany", o.p)
	}
}

// TestComposeOfLong has an a with far more numbers than h.
func TestComposeOfLong(t *testing.T) {
	t.Parallel()
	for _, p := range moduli() {
		f := made(t, p)
		for _, h := range [][]api.Nat{modulusOf(p, 2, 1), modulusOf(p, 3, 2), modulusOf(p, 7, 4)} {
			for _, count := range []int{0, 1, 2, 3, 4, 5, 6, 8, 9, 10, 15, 16, 17, 60} {
				a := numbers(p, count, uint64(count))
				for _, b := range [][]api.Nat{nil, {{1}}, {nil, {1}}, numbers(p, 2, 3), numbers(p, 9, 5)} {
					wantCompose(t, f, h, a, b)
					wantCompose(t, f, h, spread(p, a), spread(p, b))
				}
			}
		}
	}
	// a root of h: what is left is a number, that of a's value
	f := made(t, api.Nat{97})
	many := slices.Repeat(small(1), 100000)
	got, e := Compose(f, small(96, 1), many, small(0, 1))
	wantErr(t, e, api.OK, "P15.2: Compose of 100000 numbers")
	wantWords(t, got, small(100000%97), "P15.2: Compose of 100000 numbers")
	got, e = Compose(f, small(96, 0, 1), many, small(0, 1))
	wantErr(t, e, api.OK, "P15.2: Compose of 100000 numbers")
	wantWords(t, got, small(50000%97, 50000%97), "P15.2: Compose of 100000 numbers")
}

func TestEachLength(t *testing.T) {
	t.Parallel()
	for _, p := range moduli() {
		f := made(t, p)
		for count := 2; count < 12; count++ {
			h := modulusOf(p, count, uint64(count))
			for _, one := range []int{0, 1, count - 1, count, count + 1, 2*count + 3} {
				a, b := numbers(p, one, 5), numbers(p, 14-count, 6)
				wantAll(t, f, h, a, b)
				wantAll(t, f, spread(p, h), spread(p, a), spread(p, b))
				wantMul(t, f, h, b, a)
				wantMul(t, f, h, a, a)
				multiple := poly.Mul(f, h, a)
				wantAll(t, f, h, multiple, b)
				if got, e := Of(f, h, multiple); e != api.OK || len(got) > 0 {
					t.Errorf("P15.1: Of a multiple, %x, %x, %x: %x, error %d", p, h, a, got, e)
				}
				got, e := Of(f, h, poly.Add(f, multiple, small(1, 4)[:count/2%2+1]))
				want, _ := Of(f, h, small(1, 4)[:count/2%2+1])
				wantErr(t, e, api.OK, "P15.1: Of a multiple and more", p, h, a)
				wantWords(t, got, want, "P15.1: Of a multiple and more", p, h, a)
			}
		}
	}
}

// ofRoots has a factor for each of the roots.
func ofRoots(f *fp.Field, roots []api.Nat) []api.Nat {
	out := small(1)
	for _, x := range roots {
		out = poly.Mul(f, out, []api.Nat{f.Neg(x), {1}})
	}
	return out
}

// TestInvOfCommonRoots makes h and a of their roots, of which some are common, and one of h's is there twice.
func TestInvOfCommonRoots(t *testing.T) {
	for _, p := range primes() {
		f := made(t, p)
		var roots []api.Nat // none twice
		for _, x := range []uint64{0, 1, 2, 3, 4, 5, 6} {
			if nat.Cmp(nat.Of(x), p) < 0 {
				roots = append(roots, f.Mul(nat.Of(x), less(p, 1)))
			}
		}
		for from := range 5 {
			for to := 1; to <= 4; to++ {
				ofH, ofA := slices.Concat(roots[:to], roots[:1]), slices.Concat(roots[from:], roots[from:])
				both := roots[min(from, to):to]
				if from == 0 { // both have it twice
					both = ofH
				}
				h, a := poly.Scale(f, ofRoots(f, ofH), api.Nat{3}), poly.Scale(f, ofRoots(f, ofA), less(p, 2))
				for _, x := range [][]api.Nat{a, poly.Add(f, a, poly.Mul(f, h, small(2, 1)))} {
					inv, common, e := Inv(f, h, x)
					if len(both) > 0 {
						wantErr(t, e, api.ErrInv, "P15.3: Inv", p, h, x)
						wantWords(t, inv, nil, "P15.3: Inv", p, h, x)
						wantWords(t, common, ofRoots(f, both), "P15.3: Inv's common", p, h, x)
					} else {
						wantErr(t, e, api.OK, "P15.3: Inv", p, h, x)
						wantWords(t, common, nil, "P15.3: Inv's common", p, h, x)
					}
					wantInv(t, f, h, x)
				}
			}
		}
	}
}

func TestInvOfFew(t *testing.T) {
	for _, p := range moduli() {
		f := made(t, p)
		for _, h := range [][]api.Nat{{{3}, {4}}, {nil, {1}}, modulusOf(p, 4, 8), spread(p, modulusOf(p, 9, 4))} {
			monic := poly.Trim(f, h)
			scale, _ := f.Inv(monic[len(monic)-1])
			monic = poly.Scale(f, monic, scale)
			for _, a := range [][]api.Nat{nil, {p, {0}}, h, poly.Mul(f, h, numbers(p, 5, 5)), spread(p, monic)} { // 0
				inv, common, e := Inv(f, h, a)
				wantErr(t, e, api.ErrInv, "P15.3: Inv of 0", p, h, a)
				wantWords(t, inv, nil, "P15.3: Inv of 0", p, h, a)
				wantWords(t, common, monic, "P15.3: Inv's common with 0", p, h, a)
			}
			for _, n := range []api.Nat{{1}, {2}, {4}, less(p, 1), less(p, 2)} { // numbers with an inverse
				want, _ := f.Inv(n)
				for _, a := range [][]api.Nat{{n}, {nat.Add(n, p), p}, poly.Add(f, h, []api.Nat{n})} {
					inv, common, e := Inv(f, h, a)
					wantErr(t, e, api.OK, "P15.3: Inv of a number", p, h, a)
					wantWords(t, inv, []api.Nat{want}, "P15.3: Inv of a number", p, h, a)
					wantWords(t, common, nil, "P15.3: Inv of a number", p, h, a)
				}
			}
		}
	}
}

// TestInvOfNoPrime has steps without an inverse, the first one and later ones, and some that have one at each step.
func TestInvOfNoPrime(t *testing.T) {
	for _, o := range others() {
		f, d := made(t, o.p), nat.Of(o.divisor)
		a := modulusOf(o.p, 4, 3)
		for _, c := range []struct {
			h, a []api.Nat
			want api.Errno
		}{
			{modulusOf(o.p, 3, 1), []api.Nat{d}, api.ErrPrime},
			{modulusOf(o.p, 2, 1), []api.Nat{d}, api.ErrPrime},
			{modulusOf(o.p, 5, 2), append(numbers(o.p, 2, 2), d), api.ErrPrime},
			{modulusOf(o.p, 5, 2), append(numbers(o.p, 1, 2), nil, nil, d), api.ErrPrime},
			{poly.Add(f, poly.Mul(f, a, small(3, 1)), []api.Nat{{1}, d}), a, api.ErrPrime}, // the first step leaves d x + 1
			{poly.Add(f, poly.Mul(f, a, small(1, 2)), []api.Nat{d}), a, api.ErrPrime},      // and here d
			{poly.Add(f, poly.Mul(f, a, small(1, 2)), small(2)), a, api.OK},                // and here a number that is made 1
			{poly.Mul(f, a, small(1, 2)), a, api.ErrInv},
			{poly.Mul(f, small(1, 1), small(1, 1)), small(2, 2), api.ErrInv}, // a factor twice
			{poly.Mul(f, small(1, 1), small(1, 1)), small(1, 2), api.OK},
		} {
			_, _, e := Inv(f, c.h, c.a)
			wantErr(t, e, c.want, "P15.3: Inv of no prime", o.p, c.h, c.a)
			wantInv(t, f, c.h, c.a)
			wantInv(t, f, spread(o.p, c.h), spread(o.p, c.a))
		}
	}
}

// wantAt says what is wrong with an answer that is not shorter than h, or has another value at a root of h.
func wantAt(t *testing.T, f *fp.Field, roots, got []api.Nat, e api.Errno, want func(x api.Nat) api.Nat, call string) {
	t.Helper()
	wantErr(t, e, api.OK, call, f.P(), len(roots))
	if len(got) > len(roots) || !same(got, poly.Trim(f, got)) {
		t.Errorf("%s of %x, %d: %d numbers", call, f.P(), len(roots), len(got))
	}
	for _, x := range roots {
		if y := poly.Eval(f, got, x); !slices.Equal(y, want(x)) {
			t.Fatalf("%s of %x, %d: %x at %x, not %x", call, f.P(), len(roots), y, x, want(x))
		}
	}
}

// TestLongOnes has an h that is made of its roots, each once: but one polynomial that is shorter than h has the values at all of them.
func TestLongOnes(t *testing.T) {
	t.Parallel()
	for _, p := range []api.Nat{{65537}, {1<<61 - 1}, {all - 58}, {13, 1}, {all - 188, all, all, all}} {
		f := made(t, p)
		for _, count := range []int{1, 2, 79, 80, 130} {
			var roots []api.Nat
			for i := range count {
				roots = append(roots, f.Mul(nat.Of(uint64(i)+3), less(p, 7)))
			}
			h := poly.Scale(f, ofRoots(f, roots), less(p, 5))
			a, b := numbers(p, count+90, 1), numbers(p, count+1, 2)
			at := func(l []api.Nat, x api.Nat) api.Nat { return poly.Eval(f, l, x) }
			got, e := Of(f, h, a)
			wantAt(t, f, roots, got, e, func(x api.Nat) api.Nat { return at(a, x) }, "P15.1: Of")
			got, e = Mul(f, h, a, b)
			wantAt(t, f, roots, got, e, func(x api.Nat) api.Nat { return f.Mul(at(a, x), at(b, x)) }, "P15.2: Mul")
			for _, k := range []api.Nat{p, {3, 1 << 40}} {
				got, e = Exp(f, h, b, k)
				wantAt(t, f, roots, got, e, func(x api.Nat) api.Nat {
					out, _ := f.Exp(at(b, x), k)
					return out
				}, "P15.2: Exp")
			}
			got, e = Compose(f, h, a, b)
			wantAt(t, f, roots, got, e, func(x api.Nat) api.Nat { return at(a, at(b, x)) }, "P15.2: Compose")
			inv, common, e := Inv(f, h, a)
			wantWords(t, common, nil, "P15.3: Inv's common", p, count)
			wantAt(t, f, roots, inv, e, func(x api.Nat) api.Nat {
				out, _ := f.Inv(at(a, x))
				return out
			}, "P15.3: Inv")
			inv, common, e = Inv(f, h, poly.Mul(f, a, ofRoots(f, roots[count/2:])))
			wantErr(t, e, api.ErrInv, "P15.3: Inv", p, count)
			wantWords(t, inv, nil, "P15.3: Inv", p, count)
			wantWords(t, common, ofRoots(f, roots[count/2:]), "P15.3: Inv's common", p, count)
		}
	}
}

// TestGreatOnes holds long ones of many words against the library's numbers.
func TestGreatOnes(t *testing.T) {
	t.Parallel()
	for _, p := range []api.Nat{{all}, {all, all}, {133, 0, 0, 1}, {all, all, all, all}} {
		f := made(t, p)
		h, a, b := modulusOf(p, 90, 1), modulusOf(p, 170, 4), numbers(p, 89, 3)
		wantOf(t, f, h, a)
		wantMul(t, f, h, a, b)
		wantExp(t, f, h, b, api.Nat{1<<10 + 5})
		wantCompose(t, f, modulusOf(p, 30, 2), a, b)
		wantInv(t, f, modulusOf(p, 30, 2), b)
	}
}

// TestFermat has an h without divisors: the power that is as high as there are polynomials shorter than h is the polynomial itself.
func TestFermat(t *testing.T) {
	for _, p := range primes() {
		if p[0]%4 != 3 { // -1 is no square
			continue
		}
		f, h := made(t, p), small(1, 0, 1)
		for seed := range uint64(5) {
			a := numbers(p, 2, seed)
			got, e := Exp(f, h, a, mul.Square(p))
			wantErr(t, e, api.OK, "P15.4: Exp of all", p, a)
			wantWords(t, got, a, "P15.4: Exp of all", p, a)
			got, e = Exp(f, h, a, less(mul.Square(p), 2))
			inv := wantInv(t, f, h, a)
			wantErr(t, e, api.OK, "P15.4: Exp of all less 2", p, a)
			wantWords(t, got, inv, "P15.4: Exp of all less 2", p, a)
			got, e = Exp(f, h, a, p)
			wantErr(t, e, api.OK, "P15.4: Exp of P", p, a)
			wantWords(t, got, []api.Nat{a[0], f.Neg(a[1])}, "P15.4: Exp of P", p, a)
		}
	}
}

func TestLaws(t *testing.T) {
	t.Parallel()
	for _, p := range moduli() {
		f := made(t, p)
		for _, sizes := range [][4]int{{2, 0, 1, 2}, {3, 1, 1, 1}, {4, 3, 2, 4}, {7, 20, 5, 9}, {85, 84, 90, 60}} {
			h, a, b, c := modulusOf(p, sizes[0], 9), numbers(p, sizes[1], 1), numbers(p, sizes[2], 2), numbers(p, sizes[3], 3)
			sure := func(l []api.Nat, e api.Errno) []api.Nat {
				wantErr(t, e, api.OK, "P15.4", p, h, a, b, c)
				return l
			}
			of := func(l []api.Nat) []api.Nat { return sure(Of(f, h, l)) }
			times := func(x, y []api.Nat) []api.Nat { return sure(Mul(f, h, x, y)) }
			power := func(x []api.Nat, k uint64) []api.Nat { return sure(Exp(f, h, x, nat.Of(k))) }
			at := func(x, y []api.Nat) []api.Nat { return sure(Compose(f, h, x, y)) }
			for _, l := range []struct {
				name     string
				one, two []api.Nat
			}{
				{"what is left, once more", of(of(a)), of(a)},
				{"a sum", of(poly.Add(f, a, b)), poly.Add(f, of(a), of(b))},
				{"a difference", of(poly.Sub(f, a, b)), poly.Sub(f, of(a), of(b))},
				{"a b is b a", times(a, b), times(b, a)},
				{"a b of what is left", times(of(a), of(b)), of(poly.Mul(f, a, b))},
				{"products in brackets", times(times(a, b), c), times(a, times(b, c))},
				{"a product of a sum", times(a, poly.Add(f, b, c)), poly.Add(f, times(a, b), times(a, c))},
				{"1 times a", times(small(1), a), of(a)},
				{"0 times a", times(nil, a), nil},
				{"the power of 0", power(a, 0), small(1)},
				{"the power of 1", power(a, 1), of(a)},
				{"the power of 2", power(a, 2), times(a, a)},
				{"a power of a sum of exponents", power(a, 28), times(power(a, 11), power(a, 17))},
				{"a power of a power", power(power(a, 5), 7), power(a, 35)},
				{"a power of a product", power(times(a, b), 13), times(power(a, 13), power(b, 13))},
				{"a at x", at(a, small(0, 1)), of(a)},
				{"a sum at b", at(poly.Add(f, a, c), b), poly.Add(f, at(a, b), at(c, b))},
				{"a product at b", at(poly.Mul(f, a, c), b), times(at(a, b), at(c, b))},
				{"x to the power of 6, at b", at(append(make([]api.Nat, 6), api.Nat{1}), b), power(b, 6)},
				{"a at b at c", at(a, at(b, c)), at(poly.Trim(f, a), at(b, of(c)))},
			} {
				if !same(l.one, l.two) {
					t.Errorf("P15.4: %s, of %x, %x, %x, %x, %x: %x, not %x", l.name, p, h, a, b, c, l.one, l.two)
				}
			}
		}
	}
}

// TestInverses has inverses, and inverses of them. Where P is no prime some have none; but an inverse always has one, since its divisions have the quotients of the first ones, from the last one on.
func TestInverses(t *testing.T) {
	for _, p := range moduli() {
		f := made(t, p)
		for _, count := range []int{2, 3, 4, 7, 30} {
			h := modulusOf(p, count, uint64(count)+1)
			var last []api.Nat
			for seed := range uint64(8) {
				a := numbers(p, int(seed)*2+1, seed)
				inv, _, e := Inv(f, h, a)
				if e != api.OK {
					continue
				}
				whole, _ := Of(f, h, a)
				again, common, e := Inv(f, h, inv)
				wantErr(t, e, api.OK, "P15.4: Inv of an inverse", p, h, a)
				wantWords(t, again, whole, "P15.4: Inv of an inverse", p, h, a)
				wantWords(t, common, nil, "P15.4: Inv of an inverse", p, h, a)
				if last != nil { // the product of inverses is the product's
					product, _ := Mul(f, h, a, last)
					one, _, e := Inv(f, h, product)
					ofLast, _, _ := Inv(f, h, last)
					if both, _ := Mul(f, h, inv, ofLast); e == api.OK {
						wantWords(t, one, both, "P15.4: Inv of a product", p, h, a, last)
					} else if e == api.ErrInv || numberOf(p).ProbablyPrime(20) {
						t.Errorf("P15.4: Inv of a product, %x, %x, %x, %x: error %d", p, h, a, last, e)
					}
				}
				last = a
			}
		}
	}
}

// nones are no fields: New made none of them.
func nones() []*fp.Field { return []*fp.Field{nil, {}, new(fp.Field)} }

func TestNoField(t *testing.T) {
	over := append(make(api.Nat, 4*api.MaxBits/64), 1)
	lists := [][]api.Nat{nil, {}, {nil}, small(0), small(1), small(1, 2, 3), {{0, 0}, {all, all, 1}}, numbers(api.Nat{all}, 100, 1)}
	for _, f := range nones() {
		for _, h := range lists {
			for _, a := range lists {
				for _, k := range []api.Nat{nil, {1}, {5, 5}, over} {
					got, e := Exp(f, h, a, k)
					wantErr(t, e, api.ErrNil, "P15.1: Exp of no field", h, a, k)
					wantWords(t, got, nil, "P15.1: Exp of no field", h, a, k)
				}
				for _, b := range lists[:6] {
					got, e := Mul(f, h, a, b)
					wantErr(t, e, api.ErrNil, "P15.1: Mul of no field", h, a, b)
					wantWords(t, got, nil, "P15.1: Mul of no field", h, a, b)
					got, e = Compose(f, h, a, b)
					wantErr(t, e, api.ErrNil, "P15.1: Compose of no field", h, a, b)
					wantWords(t, got, nil, "P15.1: Compose of no field", h, a, b)
				}
				got, e := Of(f, h, a)
				wantErr(t, e, api.ErrNil, "P15.1: Of of no field", h, a)
				wantWords(t, got, nil, "P15.1: Of of no field", h, a)
				inv, common, e := Inv(f, h, a)
				wantErr(t, e, api.ErrNil, "P15.1: Inv of no field", h, a)
				wantWords(t, slices.Concat(inv, common), nil, "P15.1: Inv of no field", h, a)
			}
		}
	}
}

// answered are all lists that the calls answer, each in a place of its own.
func answered(f *fp.Field, h, a, b []api.Nat, k api.Nat) [][]api.Nat {
	rest, _ := Of(f, h, a)
	product, _ := Mul(f, h, a, b)
	power, _ := Exp(f, h, a, k)
	none, _ := Exp(f, h, b, nil)
	once, _ := Exp(f, h, b, small(1)[0])
	at, _ := Compose(f, h, a, b)
	inv, common, _ := Inv(f, h, a)
	other, both, _ := Inv(f, h, b)
	return [][]api.Nat{rest, product, power, none, once, at, inv, common, other, both}
}

// handed are lists of which answers might be what was handed in: h, a and b.
func handed(p api.Nat) (out [][3][]api.Nat) {
	lists := [][]api.Nat{nil, {}, {{}}, small(1), small(3, 1), {less(p, 1), nil, {1}}, numbers(p, 4, 1), {p, more(p, 1), p}, spread(p, numbers(p, 3, 2)), {{0, 0}, {1, 0}, {0}}, modulusOf(p, 90, 1)}
	for _, h := range [][]api.Nat{{{1}}, small(4, 1), {{0, 0}, {1, 0}, {0}}, {less(p, 1), nil, {1}}, spread(p, modulusOf(p, 5, 3)), modulusOf(p, 20, 4)} {
		for _, a := range lists {
			for _, b := range lists {
				out = append(out, [3][]api.Nat{h, a, b})
			}
		}
	}
	return out
}

// roomy is a list in memory of its own, with numbers behind its end, and words behind the end of each number.
func roomy(a []api.Nat) (short, whole []api.Nat) {
	number := func(x api.Nat) api.Nat { return append(slices.Clone(x), 11, 12, 13, 14, 15)[:len(x)] }
	for _, x := range a {
		whole = append(whole, number(x))
	}
	whole = append(whole, number(api.Nat{21}), number(api.Nat{22, 23}), number(nil), number(api.Nat{24}))
	return whole[:len(a):len(whole)], whole
}

// copied are all words up to the end of each number's room.
func copied(whole []api.Nat) (out []api.Nat) {
	for _, x := range whole {
		out = append(out, slices.Clone(x[:cap(x)]))
	}
	return out
}

// kept tells whether a list has its lengths and all its words, those behind the ends too.
func kept(whole, before []api.Nat, lengths []int) bool {
	for i, x := range whole {
		if len(x) != lengths[i] || cap(x) < len(before[i]) || !slices.Equal(x[:len(before[i])], before[i]) {
			return false
		}
	}
	return true
}

func lengths(whole []api.Nat) (out []int) {
	for _, x := range whole {
		out = append(out, len(x))
	}
	return out
}

func TestGivenStays(t *testing.T) {
	for _, p := range []api.Nat{{7}, {9}, {all}, {13, 1}, {all, all, all, all}} {
		f := made(t, p)
		for _, c := range handed(p) {
			h, wholeH := roomy(c[0])
			a, wholeA := roomy(c[1])
			b, wholeB := roomy(c[2])
			exponent, wholeK := roomy([]api.Nat{{13, 0}})
			whole := slices.Concat(wholeH, wholeA, wholeB, wholeK)
			before, sizes := copied(whole), lengths(whole)
			answered(f, h, a, b, exponent[0])
			answered(f, h, h, a, exponent[0])
			answered(f, h, a, a, exponent[0])
			whole = slices.Concat(wholeH, wholeA, wholeB, wholeK)
			if !kept(whole, before, sizes) {
				t.Errorf("R3: %x, %x: what was handed in became %x", p, c, whole)
			}
			if !slices.Equal(f.P(), p) {
				t.Errorf("R3: P became %x, not %x", f.P(), p)
			}
		}
	}
}

// spoil changes all words of a number, those behind its end too.
func spoil(a api.Nat) {
	a = a[:cap(a)]
	for i := range a {
		a[i] = ^a[i]
	}
}

// spoilList changes all numbers of a list and the list, up to the end of its room.
func spoilList(l []api.Nat) {
	for _, x := range l {
		spoil(x)
	}
	l = l[:cap(l)]
	for i := range l {
		l[i] = api.Nat{77}
	}
}

func clones(lists [][]api.Nat) (out [][]api.Nat) {
	for _, l := range lists {
		var c []api.Nat
		for _, x := range l {
			c = append(c, slices.Clone(x))
		}
		out = append(out, c)
	}
	return out
}

// TestAnsweredIsNew changes each answer, and looks at what was handed in and at all other answers.
func TestAnsweredIsNew(t *testing.T) {
	for _, p := range []api.Nat{{7}, {9}, {all}, {13, 1}, {all, all, all, all}} {
		f, k := made(t, p), api.Nat{6}
		for _, c := range handed(p) {
			h, wholeH := roomy(c[0])
			a, wholeA := roomy(c[1])
			b, wholeB := roomy(c[2])
			whole := append(slices.Concat(wholeH, wholeA, wholeB), k)
			before, sizes := copied(whole), lengths(whole)
			lists := answered(f, h, a, b, k)
			want := clones(lists)
			for i := range lists {
				spoilList(lists[i])
				for k := i + 1; k < len(lists); k++ {
					if !same(lists[k], want[k]) {
						t.Fatalf("R3: %x, %x: answer %d has memory of answer %d", p, c, i, k)
					}
				}
			}
			if whole = append(slices.Concat(wholeH, wholeA, wholeB), k); !kept(whole, before, sizes) {
				t.Errorf("R3: %x, %x: an answer has memory of what was handed in", p, c)
			}
			if again := answered(f, h, a, b, k); !slices.EqualFunc(again, want, same) {
				t.Errorf("R5: %x, %x: %x, not %x", p, c, again, want)
			}
		}
	}
}

// TestNumbersApart changes each number of an answer, and looks at all others of it.
func TestNumbersApart(t *testing.T) {
	for _, p := range []api.Nat{{7}, {all}, {13, 1}, {all, all, all, all}} {
		f := made(t, p)
		for _, c := range handed(p) {
			for i, l := range answered(f, c[0], c[1], c[2], api.Nat{3}) {
				want := clones([][]api.Nat{l})[0]
				for k := range l {
					spoil(l[k])
					want[k] = slices.Clone(l[k])
					if !same(l, want) {
						t.Fatalf("R3: %x, %x: number %d of answer %d has memory of another one", p, c, k, i)
					}
				}
			}
		}
	}
}

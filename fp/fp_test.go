package fp

import (
	"math"
	"math/big"
	"slices"
	"testing"

	"caltrop/api"
	"caltrop/gcd"
	"caltrop/mul"
	"caltrop/nat"
)

const (
	all     = math.MaxUint64 // a word whose bits are all 1
	top     = 1 << 63        // a word whose highest bit alone is 1
	longest = 4096           // bits of an exponent: 4 times MaxBits
	field   = 256            // bits of P: MaxField
	number  = 1024           // bits of a number: MaxBits
)

// filled is so many words, each the same one.
func filled(count int, x uint64) api.Nat {
	return slices.Repeat(api.Nat{x}, count)
}

// oneAt is 2^place.
func oneAt(place int) api.Nat {
	a := make(api.Nat, place/64+1)
	a[place/64] = 1 << (place % 64)
	return a
}

// ones is the number of so many bits that are all 1.
func ones(count int) api.Nat { return less(oneAt(count), 1) }

// less is a without so many; there are as many.
func less(a api.Nat, count uint64) api.Nat {
	out, _ := nat.Sub(a, nat.Of(count))
	return out
}

// more is a and so many.
func more(a api.Nat, count uint64) api.Nat { return nat.Add(a, nat.Of(count)) }

// row makes words without any order to be seen in them; another seed makes another row.
func row(seed uint64) func() uint64 {
	return func() uint64 {
		seed = seed*6364136223846793005 + 1442695040888963407
		return seed ^ seed>>29
	}
}

// mixed is so many words of a row.
func mixed(count int, seed uint64) api.Nat {
	a, next := make(api.Nat, count), row(seed)
	for i := range a {
		a[i] = next()
	}
	if count > 0 {
		a[count-1] |= 1 << 20
	}
	return a
}

// oddOf is an odd number of so many bits, without any order to be seen in them.
func oddOf(size int, seed uint64) api.Nat {
	a := mixed((size+63)/64, seed)
	last, rest := len(a)-1, (size-1)%64
	a[last] = a[last]&(1<<rest-1) | 1<<rest
	a[0] |= 1
	return a
}

// loose is a's number in words that may not be, unless noughts is 0.
func loose(a api.Nat, noughts int) api.Nat {
	return append(slices.Clone(a), make(api.Nat, noughts)...)
}

// nothings are words of 0.
func nothings() []api.Nat {
	return []api.Nat{nil, {}, {0}, {0, 0}, make(api.Nat, 4), make(api.Nat, 5), make(api.Nat, 100)}
}

// primes are primes of 3 bits to MaxField.
func primes() []api.Nat {
	return []api.Nat{
		{5}, {7}, {11}, {13}, {97}, {65537}, {1<<31 - 1}, {1<<61 - 1}, {1<<63 - 25}, {all - 58},
		{13, 1}, {all - 16, 1<<40 - 1}, {all, 1<<63 - 1}, {all - 158, all}, {51, 0, 1},
		{all, all - 1, all}, {133, 0, 0, 1}, {1, 0xffffffff00000000, all, 1<<32 - 1}, {all - 18, all, all, 1<<63 - 1},
		{all - 188, all, all, all}, {all, 1<<32 - 1, 0, 0xffffffff00000001}, {0xfffffffefffffc2f, all, all, all},
	}
}

// others are odd numbers that are no primes, of 4 bits to MaxField.
func others() []api.Nat {
	return []api.Nat{
		{9}, {15}, {21}, {25}, {49}, {105}, {1<<32 - 1}, {1<<62 + 1}, {1<<63 - 1}, {top + 1}, {all},
		{1, 1}, {all, 1}, {9, 1 << 20}, {1, 1 << 62}, {1, top}, {all - 2, all}, {all, all}, {1, 0, 1}, {all, 0, 1}, {all, all, 1},
		{9, 0, top}, {all, 0, all}, {all, all, all}, {1, 0, 0, 1}, {all, all, all, 1}, {all, 0, 0, 1 << 40},
		{3, 0, 0, top}, {9, 0, all, top}, {all, 0, 0, top}, {1, all, 0, all}, {all - 2, all, all, all}, {all, all, all, all},
	}
}

// moduli are those that all calls are asked with.
func moduli() []api.Nat {
	return slices.Concat(primes(), others(), []api.Nat{oddOf(100, 1), oddOf(180, 2), oddOf(255, 3), oddOf(256, 4)})
}

// value is the number of words by the words of chapter 2 alone, in numbers of the library.
func value(a api.Nat) *big.Int {
	b := make([]byte, 0, 8*len(a))
	for _, x := range slices.Backward(a) {
		for shift := 56; shift >= 0; shift -= 8 {
			b = append(b, byte(x>>shift))
		}
	}
	return new(big.Int).SetBytes(b)
}

// around are numbers about 0, about p and about many times p, the ends of words, and of as many bits as a number may have, and more.
func around(p api.Nat) []api.Nat {
	half, twice, square := nat.Shr(p, 1), nat.Shl(p, 1), mul.Square(p)
	return []api.Nat{
		nil, {1}, {2}, {3}, half, more(half, 1), less(p, 2), less(p, 1), p, more(p, 1), less(twice, 1), twice, more(twice, 1),
		less(square, 1), square, mul.Mul(p, mixed(3, 5)), more(mul.Mul(p, filled(9, all)), 1), oneAt(nat.Bits(p) - 1),
		oneAt(64 * len(p)), filled(len(p), all), {all}, {0, 1}, {0, 0, 1}, mixed(1, 6), mixed(3, 7), mixed(4, 8), mixed(5, 9),
		ones(number), oneAt(number - 1), oneAt(number), mixed(17, 10), mixed(40, 11),
	}
}

// made is the field of p.
func made(t *testing.T, p api.Nat) *Field {
	t.Helper()
	f, e := New(p)
	if f == nil || e != api.OK {
		t.Fatalf("P12.1: New of %x: error %d", p, e)
	}
	return f
}

// wantNat says what is wrong with an answer, if it is not that number, in words that may be.
func wantNat(t *testing.T, got api.Nat, want *big.Int, call string, args ...any) {
	t.Helper()
	if len(got) > 0 && got[len(got)-1] == 0 {
		t.Errorf("%s of %x: %x may not be", call, args, got)
	}
	if value(got).Cmp(want) != 0 {
		t.Errorf("%s of %x: %x, not %x", call, args, got, want)
	}
}

// wantWords says what is wrong with an answer, if it is not these words.
func wantWords(t *testing.T, got, want api.Nat, call string, args ...any) {
	t.Helper()
	if !slices.Equal(got, want) {
		t.Errorf("%s of %x: %x, not %x", call, args, got, want)
	}
}

// wantOne asks all calls of one number for what the library's numbers say.
func wantOne(t *testing.T, f *Field, p, a api.Nat) {
	t.Helper()
	by, x := value(p), value(a)
	wantNat(t, f.Of(a), new(big.Int).Mod(x, by), "P12.1: Of", p, a)
	minus := new(big.Int).Neg(x)
	wantNat(t, f.Neg(a), minus.Mod(minus, by), "P12.2: Neg", p, a)
	want := new(big.Int)
	wantIs := new(big.Int).GCD(nil, nil, x, by).Cmp(big.NewInt(1)) == 0
	if wantIs {
		want.ModInverse(x, by)
	}
	got, is := f.Inv(a)
	wantNat(t, got, want, "P12.2: Inv", p, a)
	if is != wantIs {
		t.Errorf("P12.2: Inv of %x, %x: %t", p, a, is)
	}
}

// wantTwo asks all calls of two numbers for what the library's numbers say.
func wantTwo(t *testing.T, f *Field, p, a, b api.Nat) {
	t.Helper()
	by, x, y, want := value(p), value(a), value(b), new(big.Int)
	wantNat(t, f.Add(a, b), want.Mod(want.Add(x, y), by), "P12.2: Add", p, a, b)
	wantNat(t, f.Sub(a, b), want.Mod(want.Sub(x, y), by), "P12.2: Sub", p, a, b)
	wantNat(t, f.Mul(a, b), want.Mod(want.Mul(x, y), by), "P12.2: Mul", p, a, b)
}

// wantPower asks Exp for what the library's numbers say.
func wantPower(t *testing.T, f *Field, p, a, e api.Nat) {
	t.Helper()
	got, err := f.Exp(a, e)
	if err != api.OK {
		t.Errorf("P12.3: Exp of %x, %x, %x: error %d", p, a, e, err)
	}
	wantNat(t, got, new(big.Int).Exp(value(a), value(e), value(p)), "P12.3: Exp", p, a, e)
}

// powerOf is Exp where it has no error.
func powerOf(t *testing.T, f *Field, a, e api.Nat) api.Nat {
	t.Helper()
	got, err := f.Exp(a, e)
	if err != api.OK {
		t.Errorf("P12.3: Exp of %x, %x, %x: error %d", f.P(), a, e, err)
	}
	return got
}

// The numbers that the tests are made of are what their names say.
func TestSamples(t *testing.T) {
	if longest != 4*api.MaxBits || field != api.MaxField || number != api.MaxBits {
		t.Error("the limits that are tested are other ones")
	}
	sizes := make(map[int]bool)
	for _, p := range moduli() {
		if !nat.May(p) || p[0]%2 == 0 {
			t.Errorf("%x is no number of a field", p)
		}
		sizes[nat.Bits(p)] = true
	}
	for _, size := range []int{3, 63, 64, 65, 127, 128, 129, 192, 193, 256} {
		if !sizes[size] {
			t.Errorf("no field of %d bits is tested", size)
		}
	}
	for _, p := range primes() {
		if !value(p).ProbablyPrime(20) {
			t.Errorf("%x is no prime", p)
		}
	}
	for _, p := range others() {
		if value(p).ProbablyPrime(20) {
			t.Errorf("%x is a prime", p)
		}
	}
}

func TestExamples(t *testing.T) {
	f := made(t, api.Nat{7})
	wantWords(t, f.Add(api.Nat{5}, api.Nat{9}), nil, "P12.2: Add", 5, 9)
	wantWords(t, f.Sub(api.Nat{2}, api.Nat{5}), api.Nat{4}, "P12.2: Sub", 2, 5)
	wantWords(t, f.Neg(nil), nil, "P12.2: Neg", 0)
	wantWords(t, f.Mul(api.Nat{10}, api.Nat{10}), api.Nat{2}, "P12.2: Mul", 10, 10)
	if got, is := f.Inv(api.Nat{3}); !slices.Equal(got, api.Nat{5}) || !is {
		t.Errorf("P12.2: Inv of 3: %v, %t", got, is)
	}
	if got, is := f.Inv(api.Nat{14}); len(got) != 0 || is {
		t.Errorf("P12.2: Inv of 14: %v, %t", got, is)
	}
	if got, e := f.Exp(api.Nat{3}, api.Nat{6}); !slices.Equal(got, api.Nat{1}) || e != api.OK {
		t.Errorf("P12.3: Exp of 3, 6: %v, error %d", got, e)
	}
	wantNone(t, api.Nat{3})
	wantField(t, api.Nat{9})
	wantNone(t, api.Nat{8})
	wantNone(t, more(oneAt(256), 1))
}

// wantNone wants ErrArg and no field.
func wantNone(t *testing.T, p api.Nat) {
	t.Helper()
	if f, e := New(p); f != nil || e != api.ErrArg {
		t.Errorf("P12.1: New of %x: %v, error %d", p, f, e)
	}
}

// wantField wants a field of just that number.
func wantField(t *testing.T, p api.Nat) {
	t.Helper()
	f := made(t, p)
	wantWords(t, f.P(), p, "P12.1: P", p)
	wantWords(t, f.Of(p), nil, "P12.1: Of", p, p)
	wantWords(t, f.Of(less(p, 1)), less(p, 1), "P12.1: Of", p, less(p, 1))
}

func TestNew(t *testing.T) {
	for n := range uint64(2000) {
		switch p := nat.Of(n); {
		case n >= 5 && n%2 == 1:
			wantField(t, p)
		default:
			wantNone(t, p)
		}
		wantNone(t, loose(nat.Of(n), 1))
		wantNone(t, api.Nat{n, 0, 0})
	}
	for _, p := range moduli() {
		wantField(t, p)
		wantNone(t, less(p, 1))
		for _, noughts := range []int{1, 2, 4, 100} {
			wantNone(t, loose(p, noughts))
		}
	}
	for _, nothing := range nothings() {
		wantNone(t, nothing)
	}
}

// What is odd and from 5 on by its lowest word, or by all, is told apart.
func TestNewByItsWords(t *testing.T) {
	for _, word := range []uint64{1, 3} { // too few alone, but not with words behind them
		wantNone(t, api.Nat{word})
		for _, p := range []api.Nat{{word, 1}, {word, 0, 1}, {word, 0, 0, 1}, {word, 0, 0, top}, {word, all, all, all}} {
			wantField(t, p)
		}
	}
	for _, word := range []uint64{0, 2, 4, 6, top, all - 1} { // even, whatever stands behind
		for _, p := range []api.Nat{{word}, {word, 1}, {word, 1, 1}, {word, 0, 0, 1}, {word, 1, 1, all}} {
			wantNone(t, p)
		}
	}
}

func TestNewLimits(t *testing.T) {
	for size := 3; size <= field; size++ {
		wantField(t, ones(size))
		wantField(t, more(oneAt(size-1), 1))
		wantField(t, oddOf(size, uint64(size)))
	}
	for _, size := range []int{257, 258, 300, 319, 320, 321, 512, 1023, 1024, 1025, 4096, 70000} {
		wantNone(t, ones(size))
		wantNone(t, oneAt(size-1))
		wantNone(t, more(oneAt(size-1), 1))
		wantNone(t, oddOf(size, 12))
	}
	wantNone(t, more(oneAt(256), 1))
	wantNone(t, loose(ones(256), 1))
	wantNone(t, make(api.Nat, 5000))
}

// Each number of a small field, and each one up to twice P and more, is asked for by the chapter's words.
func TestSmallFieldsWhole(t *testing.T) {
	of := func(n int) api.Nat { return nat.Of(uint64(n)) }
	for p := 5; p < 48; p += 2 {
		f := made(t, of(p))
		for a := range 2*p + 3 {
			x := loose(of(a), a%3)
			wantWords(t, f.Of(x), of(a%p), "P12.1: Of", p, a)
			wantWords(t, f.Neg(x), of((p-a%p)%p), "P12.2: Neg", p, a)
			wantTriedInverse(t, f, p, a)
			for b := range 2*p + 3 {
				y := loose(of(b), b%2)
				wantWords(t, f.Add(x, y), of((a+b)%p), "P12.2: Add", p, a, b)
				wantWords(t, f.Sub(x, y), of((a+3*p-b)%p), "P12.2: Sub", p, a, b)
				wantWords(t, f.Mul(x, y), of(a*b%p), "P12.2: Mul", p, a, b)
			}
			product := 1
			for e := range 2*p + 3 {
				wantWords(t, powerOf(t, f, x, loose(of(e), e%4)), of(product), "P12.3: Exp", p, a, e)
				product = product * a % p
			}
		}
	}
}

// wantTriedInverse tries all numbers.
func wantTriedInverse(t *testing.T, f *Field, p, a int) {
	t.Helper()
	want, wantIs := 0, false
	for k := range p {
		if k*a%p == 1 {
			want, wantIs = k, true
		}
	}
	got, is := f.Inv(nat.Of(uint64(a)))
	wantWords(t, got, nat.Of(uint64(want)), "P12.2: Inv", p, a)
	if is != wantIs {
		t.Errorf("P12.2: Inv of %d, %d: %t", p, a, is)
	}
}

func TestOfSamples(t *testing.T) {
	for _, p := range moduli() {
		f := made(t, p)
		for _, a := range around(p) {
			wantOne(t, f, p, a)
			wantOne(t, f, p, loose(a, 1))
			wantOne(t, f, p, loose(a, 70))
			for _, b := range around(p) {
				wantTwo(t, f, p, a, b)
			}
			wantTwo(t, f, p, a, a)
			wantTwo(t, f, p, loose(a, 1), loose(less(p, 1), 6))
			wantTwo(t, f, p, loose(less(p, 1), 2), loose(a, 3))
		}
		for _, nothing := range nothings() {
			wantOne(t, f, p, nothing)
			wantTwo(t, f, p, nothing, less(p, 1))
			wantTwo(t, f, p, less(p, 1), nothing)
			wantTwo(t, f, p, nothing, nothing)
		}
	}
}

func TestOfEachLength(t *testing.T) {
	for size := 3; size <= field; size++ {
		for _, p := range []api.Nat{ones(size), more(oneAt(size-1), 1), oddOf(size, 13), oddOf(size, 14)} {
			f := made(t, p)
			below, half := less(p, 1), nat.Shr(p, 1)
			for _, a := range []api.Nat{{1}, below, half, p, mixed(4, 15), mixed(16, 16), oneAt(64 * len(p))} {
				wantOne(t, f, p, a)
				for _, b := range []api.Nat{{2}, below, more(half, 1), mixed(3, 17)} {
					wantTwo(t, f, p, a, b)
				}
				wantPower(t, f, p, a, below)
				wantPower(t, f, p, a, mixed(1, 18))
			}
		}
	}
}

// picked is a word of those at whose ends carries begin and end, or another one.
func picked(next func() uint64) uint64 {
	words := []uint64{0, 0, 1, 2, top - 1, top, top + 1, all - 1, all, all, next()}
	return words[next()>>20%uint64(len(words))]
}

// Words of noughts and of ones, in all places and in any order: carries go on from each word into the next one, and beyond the last one, or end there.
func TestCarries(t *testing.T) {
	next := row(19)
	some := func(count int) api.Nat {
		a := make(api.Nat, count)
		for i := range a {
			a[i] = picked(next)
		}
		return a
	}
	for range 12000 {
		p := some(1 + int(next()>>20%4))
		p[0] |= 1
		p = nat.Trim(p)
		if len(p) == 1 && p[0] < 5 {
			continue
		}
		f := made(t, p)
		for range 3 {
			a, b := some(len(p)), some(len(p))
			wantTwo(t, f, p, a, b)
			wantTwo(t, f, p, nat.Add(p, a), nat.Add(p, b))
			// Both a little below P, so that their sum and their product come near to what there is room for.
			wantTwo(t, f, p, f.Neg(nat.Of(a[0])), f.Neg(nat.Of(b[0])))
			wantPower(t, f, p, a, b[:1])
		}
	}
}

// All words of two are gone through, at P and at both numbers.
func TestCarriesOfTwoWords(t *testing.T) {
	words := []uint64{0, 1, top - 1, top, all - 1, all}
	var pairs []api.Nat
	for _, low := range words {
		for _, high := range words {
			pairs = append(pairs, api.Nat{low, high})
		}
	}
	for _, p := range pairs {
		if p[0]%2 == 0 || p[1] == 0 {
			continue
		}
		f := made(t, p)
		for _, a := range pairs {
			for _, b := range pairs {
				wantTwo(t, f, p, a, b)
			}
		}
	}
}

// Sums, differences and products that leave nothing, or just what is below P.
func TestAnswersAtTheEnds(t *testing.T) {
	for _, p := range moduli() {
		f := made(t, p)
		below := less(p, 1)
		for _, a := range around(p) {
			rest := f.Of(a)
			other, _ := nat.Sub(p, rest)
			wantWords(t, f.Add(a, other), nil, "P12.2: Add", p, a, other)
			wantWords(t, f.Add(other, a), nil, "P12.2: Add", p, other, a)
			wantWords(t, f.Add(a, f.Neg(a)), nil, "P12.2: Add", p, a, f.Neg(a))
			wantWords(t, f.Add(a, f.Sub(below, a)), below, "P12.2: Add", p, a, f.Sub(below, a))
			wantWords(t, f.Sub(a, a), nil, "P12.2: Sub", p, a, a)
			wantWords(t, f.Sub(a, rest), nil, "P12.2: Sub", p, a, rest)
			wantWords(t, f.Sub(rest, a), nil, "P12.2: Sub", p, rest, a)
			wantWords(t, f.Sub(a, more(rest, 1)), below, "P12.2: Sub", p, a, more(rest, 1))
			for _, zero := range []api.Nat{nil, {0}, p, nat.Shl(p, 1), mul.Mul(p, a)} {
				wantWords(t, f.Mul(a, zero), nil, "P12.2: Mul", p, a, zero)
				wantWords(t, f.Mul(zero, a), nil, "P12.2: Mul", p, zero, a)
				wantWords(t, f.Add(a, zero), rest, "P12.2: Add", p, a, zero)
				wantWords(t, f.Sub(a, zero), rest, "P12.2: Sub", p, a, zero)
				wantWords(t, f.Sub(zero, a), f.Neg(a), "P12.2: Sub", p, zero, a)
			}
			wantWords(t, f.Mul(a, below), f.Neg(a), "P12.2: Mul", p, a, below)
			wantWords(t, f.Mul(a, api.Nat{1}), rest, "P12.2: Mul", p, a, 1)
		}
		wantWords(t, f.Mul(below, below), api.Nat{1}, "P12.2: Mul", p, below, below)
		wantWords(t, f.Add(below, api.Nat{1}), nil, "P12.2: Add", p, below, 1)
	}
}

// Two numbers that are not 0 and whose product is P: no number but P itself is left before it is taken away.
func TestProductsThatAreP(t *testing.T) {
	for _, c := range [][2]api.Nat{
		{{3}, {5}}, {{7}, {7}}, {{1<<31 - 1}, {1<<32 - 5}}, {{1<<32 - 5}, {1<<32 - 5}}, {{all - 58}, {3}}, {{all - 58}, {all - 58}}, {{1, 1}, {all}},
		{{13, 1}, {7, 1}}, {{all, 1<<63 - 1}, {all - 158, all}}, {{all - 158, all}, {all - 158, all}}, {{51, 0, 1}, {13, 1}}, {{3}, {all - 16, 1<<40 - 1}},
	} {
		a, b := c[0], c[1]
		p := mul.Mul(a, b)
		f := made(t, p)
		wantWords(t, f.Mul(a, b), nil, "P12.2: Mul", p, a, b)
		wantWords(t, f.Mul(b, a), nil, "P12.2: Mul", p, b, a)
		wantWords(t, f.Mul(nat.Shl(a, 1), b), nil, "P12.2: Mul", p, nat.Shl(a, 1), b)
		for _, factor := range []api.Nat{a, b, f.Neg(a), f.Neg(b), f.Mul(a, mixed(3, 20)), nat.Add(p, a)} {
			if got, is := f.Inv(factor); len(got) != 0 || is {
				t.Errorf("P12.2: Inv of %x, %x: %x, %t", p, factor, got, is)
			}
			wantOne(t, f, p, factor)
			wantTwo(t, f, p, factor, b)
			for _, e := range []api.Nat{nil, {1}, {2}, {3}, {6}, less(p, 1), p, mixed(2, 21)} {
				wantPower(t, f, p, factor, e)
			}
		}
		if slices.Equal(a, b) {
			wantWords(t, powerOf(t, f, a, api.Nat{2}), nil, "P12.3: Exp", p, a, 2)
		}
	}
}

func TestInvAtTheEnds(t *testing.T) {
	for _, p := range moduli() {
		f := made(t, p)
		for _, c := range []struct {
			a, want api.Nat
			is      bool
		}{
			{nil, nil, false},
			{api.Nat{0}, nil, false},
			{p, nil, false},
			{loose(p, 2), nil, false},
			{mul.Mul(p, mixed(5, 22)), nil, false},
			{api.Nat{1}, api.Nat{1}, true},
			{more(p, 1), api.Nat{1}, true},
			{api.Nat{2}, more(nat.Shr(p, 1), 1), true},
			{less(p, 1), less(p, 1), true},
			{loose(less(p, 1), 1), less(p, 1), true},
			{less(nat.Shl(p, 1), 1), less(p, 1), true},
		} {
			if got, is := f.Inv(c.a); !slices.Equal(got, c.want) || is != c.is {
				t.Errorf("P12.2: Inv of %x, %x: %x, %t", p, c.a, got, is)
			}
		}
	}
}

func TestExpAtTheEnds(t *testing.T) {
	one := api.Nat{1}
	for _, p := range moduli() {
		f := made(t, p)
		below := less(p, 1)
		for _, nothing := range nothings() {
			for _, a := range append(around(p), nothings()...) {
				wantWords(t, powerOf(t, f, a, nothing), one, "P12.3: Exp", p, a, nothing)
			}
			wantWords(t, powerOf(t, f, nothing, one), nil, "P12.3: Exp", p, nothing, 1)
		}
		for _, a := range around(p) {
			wantWords(t, powerOf(t, f, a, one), f.Of(a), "P12.3: Exp", p, a, 1)
			wantWords(t, powerOf(t, f, a, api.Nat{2}), f.Mul(a, a), "P12.3: Exp", p, a, 2)
			wantWords(t, powerOf(t, f, a, api.Nat{3, 0}), f.Mul(a, f.Mul(a, a)), "P12.3: Exp", p, a, 3)
		}
		for _, e := range []api.Nat{{1}, {2}, {3}, {64}, {all}, {0, 1}, {1, 1}, below, p, mixed(3, 23), ones(longest), oneAt(longest - 1)} {
			want := one
			if e[0]%2 == 1 {
				want = below
			}
			wantWords(t, powerOf(t, f, below, e), want, "P12.3: Exp", p, below, e)
			wantWords(t, powerOf(t, f, one, e), one, "P12.3: Exp", p, 1, e)
			wantWords(t, powerOf(t, f, more(p, 1), e), one, "P12.3: Exp", p, more(p, 1), e)
			wantWords(t, powerOf(t, f, p, e), nil, "P12.3: Exp", p, p, e)
			wantWords(t, powerOf(t, f, mul.Mul(p, mixed(5, 24)), e), nil, "P12.3: Exp", p, 0, e)
		}
	}
}

func TestExpOfSamples(t *testing.T) {
	for i, p := range moduli() {
		f := made(t, p)
		for _, a := range around(p) {
			for _, e := range []api.Nat{{5}, {top}, {all}, less(p, 1), p, more(p, 1), {0, 0, 1}, mixed(1+i%5, 25)} {
				wantPower(t, f, p, a, e)
			}
			wantPower(t, f, p, loose(a, 3), loose(less(p, 1), 2))
		}
	}
}

// Exponents of each length, of which all bits are 1, or the first one alone.
func TestExpOfEachLength(t *testing.T) {
	for _, p := range []api.Nat{{5}, {97}, {all - 58}, {all}, {13, 1}, {all, all}, {1, 0, 1}, {all - 188, all, all, all}, {3, 0, 0, top}} {
		f := made(t, p)
		for _, a := range []api.Nat{{2}, {all}, mixed(4, 26)} {
			for size := 1; size < 140; size++ {
				wantPower(t, f, p, a, oneAt(size-1))
				wantPower(t, f, p, a, ones(size))
			}
			wantPower(t, f, p, a, mixed(20, 27))
		}
	}
}

func TestExpLimits(t *testing.T) {
	for _, p := range moduli() {
		f := made(t, p)
		for _, a := range []api.Nat{nil, {1}, {3}, less(p, 1), p, mixed(17, 28)} {
			wantPower(t, f, p, a, ones(longest))
			wantPower(t, f, p, a, oneAt(longest-1))
			wantPower(t, f, p, a, mixed(longest/64, 29))
			wantPower(t, f, p, a, loose(ones(longest), 1))
			wantPower(t, f, p, a, loose(oneAt(longest-1), 300))
			for _, e := range []api.Nat{oneAt(longest), ones(longest + 1), more(oneAt(longest), 1), oneAt(longest + 63), oneAt(longest + 64), oneAt(70000), mixed(65, 30), loose(oneAt(longest), 2)} {
				if got, err := f.Exp(a, e); len(got) != 0 || err != api.ErrMany {
					t.Errorf("P12.3: Exp of %x, %x and an exponent of %d bits: %x, error %d", p, a, nat.Bits(e), got, err)
				}
			}
		}
	}
}

// Of a number there is no limit.
func TestOfLongNumbers(t *testing.T) {
	for _, p := range []api.Nat{{5}, {all}, {13, 1}, {1, 0, 1}, {all, all, all, all}, oddOf(250, 31)} {
		f := made(t, p)
		for _, a := range []api.Nat{oneAt(longest), filled(65, all), mixed(3000, 32), append(make(api.Nat, 1500), 1), loose(nat.Of(3), 2000), mul.Mul(p, mixed(200, 33))} {
			wantOne(t, f, p, a)
			wantTwo(t, f, p, a, mixed(700, 34))
			wantTwo(t, f, p, api.Nat{6}, a)
			wantTwo(t, f, p, a, a)
			wantPower(t, f, p, a, api.Nat{11})
		}
	}
}

// law tells whether two ways lead to the same number.
func law(t *testing.T, got, want api.Nat, what string, args ...any) {
	t.Helper()
	if !slices.Equal(got, want) {
		t.Errorf("P12.4: %s of %x: %x and %x", what, args, got, want)
	}
}

func TestLaws(t *testing.T) {
	for _, p := range moduli() {
		f := made(t, p)
		numbers := []api.Nat{nil, {1}, {2}, nat.Shr(p, 1), less(p, 1), p, oneAt(nat.Bits(p) - 1), mixed(3, 35), mixed(4, 36), mixed(16, 37)}
		for _, a := range numbers {
			for _, b := range numbers {
				law(t, f.Add(a, b), f.Add(b, a), "sums", p, a, b)
				law(t, f.Mul(a, b), f.Mul(b, a), "products", p, a, b)
				law(t, f.Sub(f.Add(a, b), b), f.Of(a), "what is added and taken away", p, a, b)
				law(t, f.Add(f.Sub(a, b), b), f.Of(a), "what is taken away and added", p, a, b)
				law(t, f.Sub(a, b), f.Add(a, f.Neg(b)), "differences", p, a, b)
				law(t, f.Neg(f.Sub(a, b)), f.Sub(b, a), "differences turned", p, a, b)
				if inverse, is := f.Inv(b); is {
					law(t, f.Mul(f.Mul(a, b), inverse), f.Of(a), "what is multiplied forth and back", p, a, b)
				}
				for _, c := range numbers {
					law(t, f.Add(f.Add(a, b), c), f.Add(a, f.Add(b, c)), "sums", p, a, b, c)
					law(t, f.Mul(f.Mul(a, b), c), f.Mul(a, f.Mul(b, c)), "products", p, a, b, c)
					law(t, f.Mul(f.Add(a, b), c), f.Add(f.Mul(a, c), f.Mul(b, c)), "products of a sum", p, a, b, c)
				}
			}
		}
	}
}

func TestLawsOfPowers(t *testing.T) {
	exponents := []api.Nat{nil, {1}, {2}, {all}, {7, 8}, mixed(4, 38)}
	for _, p := range moduli() {
		f := made(t, p)
		for _, a := range []api.Nat{{2}, less(p, 2), nat.Shr(p, 1), mixed(4, 39)} {
			for _, d := range exponents {
				for _, e := range exponents {
					product := f.Mul(powerOf(t, f, a, d), powerOf(t, f, a, e))
					law(t, powerOf(t, f, a, nat.Add(d, e)), product, "powers", p, a, d, e)
				}
				b := mixed(3, 40)
				both := f.Mul(powerOf(t, f, a, d), powerOf(t, f, b, d))
				law(t, powerOf(t, f, f.Mul(a, b), d), both, "powers of a product", p, a, b, d)
			}
		}
	}
}

func TestInverses(t *testing.T) {
	one := api.Nat{1}
	for _, p := range moduli() {
		f := made(t, p)
		for _, a := range append(around(p), mixed(2, 41), mixed(4, 42), mul.Mul(api.Nat{105}, mixed(3, 43))) {
			inverse, is := f.Inv(a)
			if is != slices.Equal(gcd.Gcd(a, p), one) {
				t.Errorf("P12.2: Inv of %x, %x: %t", p, a, is)
			}
			if !is {
				continue
			}
			law(t, f.Mul(a, inverse), one, "a number and its inverse", p, a)
			again, _ := f.Inv(inverse)
			law(t, again, f.Of(a), "an inverse's inverse", p, a)
		}
	}
}

// Modulo a prime everything but 0 has an inverse, its power of P - 2, and is its own power of P.
func TestPrimes(t *testing.T) {
	one := api.Nat{1}
	for _, p := range primes() {
		f := made(t, p)
		for _, a := range append(around(p), mixed(1, 44), mixed(2, 45), mixed(4, 46), mixed(16, 47)) {
			rest := f.Of(a)
			law(t, powerOf(t, f, a, p), rest, "the power of P", p, a)
			inverse, is := f.Inv(a)
			if is != (len(rest) > 0) {
				t.Errorf("P12.4: Inv of %x, %x: %t", p, a, is)
			}
			if is {
				law(t, powerOf(t, f, a, less(p, 1)), one, "the power of P - 1", p, a)
				law(t, powerOf(t, f, a, less(p, 2)), inverse, "the power of P - 2", p, a)
			}
		}
	}
}

// noFields are those that New did not make.
func noFields() []*Field {
	var blank Field
	return []*Field{nil, {}, new(Field), &blank}
}

func TestNoField(t *testing.T) {
	numbers := append(nothings(), api.Nat{1}, api.Nat{5}, api.Nat{1, 0}, mixed(4, 48), mixed(100, 49), ones(longest), oneAt(longest))
	for _, f := range noFields() {
		if got := f.P(); len(got) != 0 {
			t.Errorf("P12.1: P of no field: %x", got)
		}
		for _, a := range numbers {
			if got, is := f.Inv(a); len(got) != 0 || is {
				t.Errorf("P12.2: Inv of no field, %x: %x, %t", a, got, is)
			}
			for _, b := range numbers {
				for _, got := range []api.Nat{f.Of(a), f.Neg(a), f.Add(a, b), f.Sub(a, b), f.Mul(a, b)} {
					if len(got) != 0 {
						t.Errorf("P12.1, P12.2: of no field, %x, %x: %x", a, b, got)
					}
				}
				if got, e := f.Exp(a, b); len(got) != 0 || e != api.ErrNil {
					t.Errorf("P12.3: Exp of no field, %x, %x: %x, error %d", a, b, got, e)
				}
			}
		}
	}
}

// roomy copies a into a list with words of its own behind its end; whole is all of it.
func roomy(a api.Nat) (list, whole api.Nat) {
	whole = append(slices.Clone(a), 11, 12, 13, 14, 15, 16)
	return whole[:len(a)], whole
}

// spoil writes over a list, and over the room behind its end.
func spoil(l api.Nat) {
	l = l[:cap(l)]
	for i := range l {
		l[i] = ^l[i]
	}
}

// answers are all lists that all calls answer of a field and two numbers.
func answers(f *Field, a, b api.Nat) []api.Nat {
	inverse, _ := f.Inv(a)
	power, _ := f.Exp(a, b)
	return []api.Nat{f.P(), f.Of(a), f.Add(a, b), f.Sub(a, b), f.Neg(a), f.Mul(a, b), inverse, power}
}

// copied are lists in memory of their own.
func copied(lists []api.Nat) []api.Nat {
	var out []api.Nat
	for _, l := range lists {
		out = append(out, slices.Clone(l))
	}
	return out
}

// handed are the numbers that R3 is asked of, in a field of p: those that are answered as they stand, and others.
func handed(p api.Nat) []api.Nat {
	return []api.Nat{nil, {0}, {1}, {2, 0}, less(p, 1), p, loose(p, 2), more(p, 1), nat.Shr(p, 1), mixed(3, 50), mixed(5, 51), ones(number)}
}

func TestGivenStays(t *testing.T) {
	for _, p := range moduli() {
		given, whole := roomy(p)
		before := slices.Clone(whole)
		f := made(t, given)
		made(t, given)
		for _, a := range handed(p) {
			for _, b := range handed(p) {
				x, wholeX := roomy(a)
				y, wholeY := roomy(b)
				beforeX, beforeY := slices.Clone(wholeX), slices.Clone(wholeY)
				answers(f, x, y)
				answers(f, x, x)
				answers(f, given, given)
				if !slices.Equal(wholeX, beforeX) || !slices.Equal(wholeY, beforeY) {
					t.Fatalf("R3: a call of %x, %x, %x changes what it is handed", p, a, b)
				}
			}
		}
		if !slices.Equal(whole, before) {
			t.Fatalf("R3: New of %x, or a call of its field, changes what it is handed", p)
		}
	}
	for _, p := range []api.Nat{nil, {4}, {7, 0}, ones(257)} {
		given, whole := roomy(p)
		before := slices.Clone(whole)
		New(given)
		if !slices.Equal(whole, before) {
			t.Fatalf("R3: New of %x changes what it is handed", p)
		}
	}
}

// P is that of the list when it was handed in, whatever becomes of the list.
func TestFieldStays(t *testing.T) {
	for _, p := range moduli() {
		given, whole := roomy(p)
		f := made(t, given)
		want := copied(answers(f, mixed(3, 52), less(p, 1)))
		spoil(whole)
		wantWords(t, f.P(), p, "P12.1: P of a list that was changed,", p)
		for i, got := range answers(f, mixed(3, 52), less(p, 1)) {
			wantWords(t, got, want[i], "R3: a call behind a change of the list", p, i)
		}
	}
}

func TestAnsweredIsNew(t *testing.T) {
	for _, p := range moduli() {
		f := made(t, p)
		for _, a := range handed(p) {
			for _, b := range []api.Nat{nil, {1}, {3, 0}, less(p, 1), mixed(4, 53)} {
				x, wholeX := roomy(a)
				y, wholeY := roomy(b)
				beforeX, beforeY := slices.Clone(wholeX), slices.Clone(wholeY)
				want := copied(answers(f, x, y))
				for spoiled := range want {
					got := answers(f, x, y)
					spoil(got[spoiled])
					if !slices.Equal(wholeX, beforeX) || !slices.Equal(wholeY, beforeY) {
						t.Fatalf("R3: answer %d of %x, %x, %x is what was handed in", spoiled, p, a, b)
					}
					for i := range got {
						if i != spoiled && !slices.Equal(got[i], want[i]) {
							t.Fatalf("R3: of %x, %x, %x answers %d and %d share memory", p, a, b, spoiled, i)
						}
					}
				}
				wantAgain(t, f, x, y, want)
				got := answers(f, x, y)
				spoil(wholeX)
				spoil(wholeY)
				for i := range got {
					wantWords(t, got[i], want[i], "R3: an answer behind a change of what was handed in", p, a, b, i)
				}
			}
		}
	}
}

// wantAgain asks for the same answers once more.
func wantAgain(t *testing.T, f *Field, a, b api.Nat, want []api.Nat) {
	t.Helper()
	for i, got := range answers(f, a, b) {
		wantWords(t, got, want[i], "R5: an answer that is asked for again", f.P(), a, b, i)
	}
}

// Fields have nothing in common, those of one number neither.
func TestFieldsApart(t *testing.T) {
	a, b := mixed(5, 54), mixed(2, 55)
	var fields []*Field
	var want [][]api.Nat
	for _, p := range append(moduli(), moduli()...) {
		f := made(t, p)
		if slices.Contains(fields, f) {
			t.Fatalf("R3: New of %x answers a field that it answered before", p)
		}
		fields = append(fields, f)
		want = append(want, copied(answers(f, a, b)))
	}
	for i, f := range fields {
		for _, l := range answers(f, a, b) {
			spoil(l)
		}
		for k := range fields[:i+1] {
			wantAgain(t, fields[k], a, b, want[k])
		}
	}
}

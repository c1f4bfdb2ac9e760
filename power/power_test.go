package power

import (
	"math"
	"math/big"
	"slices"
	"testing"

	"caltrop/api"
	"caltrop/div"
	"caltrop/gcd"
	"caltrop/mul"
	"caltrop/nat"
)

const (
	all  = math.MaxUint64 // a word whose bits are all 1
	top  = 1 << 63        // a word whose highest bit alone is 1
	most = 4096           // 4 times MaxBits
)

// filled is so many words, each the same one.
func filled(count int, x uint64) api.Nat {
	return slices.Repeat(api.Nat{x}, count)
}

// oneAt is 2^place.
func oneAt(place int) api.Nat {
	a := make(api.Nat, place/64+1)
	a[place/64] = 1 << (place % 64)
	return a
}

// mixed is so many words without any order to be seen in them; another seed makes other ones.
func mixed(count int, seed uint64) api.Nat {
	a := make(api.Nat, count)
	x := seed
	for i := range a {
		x = x*6364136223846793005 + 1442695040888963407
		a[i] = x ^ x>>29
	}
	if count > 0 {
		a[count-1] |= 1 << 20
	}
	return a
}

// odd is a, or the number above it, that is odd.
func odd(a api.Nat) api.Nat {
	if len(a) == 0 {
		return api.Nat{1}
	}
	out := slices.Clone(a)
	out[0] |= 1
	return out
}

// rested is a with other lowest bits, so that it leaves rest by 8.
func rested(a api.Nat, rest uint64) api.Nat {
	out := odd(a)
	out[0] = out[0]&^7 | rest
	return out
}

// loose is a's number in words that may not be, unless noughts is 0.
func loose(a api.Nat, noughts int) api.Nat {
	return append(slices.Clone(a), make(api.Nat, noughts)...)
}

// nothings are words of 0.
func nothings() []api.Nat {
	return []api.Nat{nil, {}, {0}, {0, 0}, make(api.Nat, 3), make(api.Nat, 100)}
}

// samples are numbers from 0 on, of few words and of many, with all kinds of ends; primes, squares and powers of 2 among them.
func samples() []api.Nat {
	return []api.Nat{
		nil, {1}, {2}, {3}, {4}, {5}, {7}, {8}, {9}, {15}, {49}, {97}, {105}, {1<<32 - 1}, {1 << 32}, {1<<61 - 1}, {top - 1}, {top}, {top + 1}, {all - 58}, {all - 1}, {all},
		{0, 1}, {1, 1}, {all, 1}, {0, top}, {1, top}, {all, top - 1}, {1, all}, {all - 1, all}, {all, all},
		{0, 0, 1}, {1, 0, 1}, {all, 0, all}, {0, 6, 3}, {0, 0, 5}, {all, all, all},
		mixed(3, 1), mixed(4, 2), odd(mixed(4, 3)), filled(5, all), oneAt(319), odd(mixed(7, 4)), mixed(8, 5),
	}
}

// value is the number of words by the words of chapter 2 alone, in numbers of the library.
func value(a api.Nat) *big.Int {
	b := make([]byte, 0, 8*len(a))
	for _, x := range slices.Backward(a) {
		for shift := 56; shift >= 0; shift -= 8 {
			b = append(b, byte(x>>shift))
		}
	}
	return new(big.Int).SetBytes(b)
}

// wantExp asks Exp for what the library's numbers say; m is not 0.
func wantExp(t *testing.T, b, e, m api.Nat) {
	t.Helper()
	got, err := Exp(b, e, m)
	if err != api.OK {
		t.Errorf("P8.1: Exp of %x, %x, %x: error %d", b, e, m, err)
		return
	}
	if len(got) > 0 && got[len(got)-1] == 0 {
		t.Errorf("P8.1: Exp of %x, %x, %x: %x may not be", b, e, m, got)
	}
	if want := new(big.Int).Exp(value(b), value(e), value(m)); value(got).Cmp(want) != 0 {
		t.Errorf("P8.1: Exp of %x, %x, %x: %x, not %x", b, e, m, got, want)
	}
}

// wantPower asks Exp for what is written out.
func wantPower(t *testing.T, b, e, m, want api.Nat, wantErr api.Errno) {
	t.Helper()
	if got, err := Exp(b, e, m); !slices.Equal(got, want) || err != wantErr {
		t.Errorf("P8.1: Exp of %x, %x, %x: %x, error %d", b, e, m, got, err)
	}
}

// wantJacobi asks Jacobi for what the library's numbers say; n is odd.
func wantJacobi(t *testing.T, a, n api.Nat) {
	t.Helper()
	wantSymbol(t, a, n, big.Jacobi(value(a), value(n)), api.OK)
}

// wantSymbol asks Jacobi for what is written out.
func wantSymbol(t *testing.T, a, n api.Nat, want int, wantErr api.Errno) {
	t.Helper()
	if got, err := Jacobi(a, n); got != want || err != wantErr {
		t.Errorf("P8.2: Jacobi of %x, %x: %d, error %d, not %d, error %d", a, n, got, err, want, wantErr)
	}
}

// powerOf is Exp where it has no error.
func powerOf(t *testing.T, b, e, m api.Nat) api.Nat {
	t.Helper()
	got, err := Exp(b, e, m)
	if err != api.OK {
		t.Errorf("P8.1: Exp of %x, %x, %x: error %d", b, e, m, err)
	}
	return got
}

// symbolOf is Jacobi where it has no error.
func symbolOf(t *testing.T, a, n api.Nat) int {
	t.Helper()
	got, err := Jacobi(a, n)
	if err != api.OK {
		t.Errorf("P8.2: Jacobi of %x, %x: error %d", a, n, err)
	}
	return got
}

// rest is what a leaves by b, which is not 0.
func rest(t *testing.T, a, b api.Nat) api.Nat {
	t.Helper()
	r, err := div.Mod(a, b)
	if err != api.OK {
		t.Errorf("Mod of %v, %v: error %d", a, b, err)
	}
	return r
}

func TestExamples(t *testing.T) {
	wantPower(t, api.Nat{3}, api.Nat{200}, api.Nat{1000}, api.Nat{1}, api.OK)
	wantPower(t, api.Nat{5}, nil, api.Nat{1}, nil, api.OK)
	wantPower(t, api.Nat{5}, api.Nat{1}, nil, nil, api.ErrZero)
	wantSymbol(t, api.Nat{2}, api.Nat{15}, 1, api.OK)
	wantSymbol(t, api.Nat{7}, api.Nat{15}, -1, api.OK)
	wantSymbol(t, api.Nat{5}, api.Nat{15}, 0, api.OK)
	wantSymbol(t, api.Nat{1}, api.Nat{1}, 1, api.OK)
	wantSymbol(t, api.Nat{1}, api.Nat{4}, 0, api.ErrArg)
}

func TestExpWrittenOut(t *testing.T) {
	for _, c := range []struct{ b, e, m, want api.Nat }{
		{nil, nil, api.Nat{1}, nil},
		{nil, nil, api.Nat{2}, api.Nat{1}},
		{nil, nil, api.Nat{7, 8, 9}, api.Nat{1}},
		{nil, api.Nat{1}, api.Nat{7}, nil},
		{nil, api.Nat{0, 1}, api.Nat{7, 8, 9}, nil},
		{api.Nat{7, 8, 9}, nil, api.Nat{1}, nil},
		{api.Nat{7, 8, 9}, api.Nat{7, 8, 9}, api.Nat{1}, nil},
		{api.Nat{7, 8, 9}, nil, api.Nat{7, 8, 9}, api.Nat{1}},
		{api.Nat{7}, api.Nat{1}, api.Nat{7}, nil},
		{api.Nat{6}, api.Nat{1}, api.Nat{7}, api.Nat{6}},
		{api.Nat{8}, api.Nat{1}, api.Nat{7}, api.Nat{1}},
		{api.Nat{7, 8, 9}, api.Nat{1}, api.Nat{7, 8, 9}, nil},
		{api.Nat{6, 8, 9}, api.Nat{1}, api.Nat{7, 8, 9}, api.Nat{6, 8, 9}},
		{api.Nat{6, 8, 9}, api.Nat{2}, api.Nat{7, 8, 9}, api.Nat{1}},
		{api.Nat{9, 8, 9}, api.Nat{10}, api.Nat{7, 8, 9}, api.Nat{1024}},
		{api.Nat{2}, api.Nat{63}, api.Nat{all}, api.Nat{top}},
		{api.Nat{2}, api.Nat{64}, api.Nat{all}, api.Nat{1}},
		{api.Nat{2}, api.Nat{64}, api.Nat{0, 1}, nil},
		{api.Nat{2}, api.Nat{63}, api.Nat{0, 1}, api.Nat{top}},
		{api.Nat{2}, api.Nat{64}, api.Nat{1, 1}, api.Nat{0, 1}},
		{api.Nat{2}, api.Nat{128}, api.Nat{1, 1}, api.Nat{1}},
		{api.Nat{all}, api.Nat{all}, api.Nat{0, 1}, api.Nat{all}},
		{api.Nat{all}, api.Nat{0, 1}, api.Nat{0, 1}, api.Nat{1}},
		{api.Nat{3}, api.Nat{1 << 62}, api.Nat{0, 1}, api.Nat{1}},
		{api.Nat{3}, api.Nat{1 << 61}, api.Nat{0, 1}, api.Nat{top + 1}},
		{api.Nat{3}, api.Nat{1<<61 - 2}, api.Nat{1<<61 - 1}, api.Nat{1}}, // what is divided by is a prime
		{api.Nat{3}, api.Nat{all - 59}, api.Nat{all - 58}, api.Nat{1}},   // here too
		{api.Nat{3}, api.Nat{all - 1, 1<<63 - 1}, api.Nat{all, 1<<63 - 1}, api.Nat{1}},
	} {
		wantPower(t, c.b, c.e, c.m, c.want, api.OK)
		wantPower(t, loose(c.b, 1), loose(c.e, 2), loose(c.m, 3), c.want, api.OK)
	}
}

func TestExpTried(t *testing.T) {
	for m := uint64(1); m < 40; m++ {
		for b := range uint64(60) {
			product := 1 % m
			for e := range uint64(30) {
				wantPower(t, nat.Of(b), nat.Of(e), nat.Of(m), nat.Of(product), api.OK)
				wantPower(t, loose(nat.Of(b), 1), loose(nat.Of(e), 2), loose(nat.Of(m), 1), nat.Of(product), api.OK)
				product = product * b % m
			}
		}
	}
}

// The same by numbers of many words.
func TestExpTriedInManyWords(t *testing.T) {
	for _, m := range []api.Nat{{0, 1}, {1, 1}, {all, all}, oneAt(300), mixed(3, 1), odd(mixed(5, 2))} {
		for _, b := range []api.Nat{nil, {1}, {2}, {0, 1}, m, nat.Add(m, nat.Of(3)), mixed(2, 3), mixed(9, 4)} {
			product := api.Nat{1}
			for e := range uint64(20) {
				wantPower(t, b, nat.Of(e), m, product, api.OK)
				wantPower(t, loose(b, 2), loose(nat.Of(e), 3), loose(m, 1), product, api.OK)
				product = rest(t, mul.Mul(product, b), m)
			}
		}
	}
}

func TestExpOfSamples(t *testing.T) {
	numbers := samples()
	for i, m := range numbers[1:] {
		for j, b := range numbers {
			e := numbers[(i*7+j*5)%len(numbers)]
			for _, e := range []api.Nat{nil, {1}, {6}, {top}, {all}, {0, 1}, e} {
				wantExp(t, b, e, m)
			}
			wantExp(t, loose(b, 2), loose(e, 1), loose(m, 40))
		}
	}
}

// Exponents of each length, of which all bits are 1, or the first one alone.
func TestExpOfEachLength(t *testing.T) {
	for _, m := range []api.Nat{{1}, {2}, {97}, {all - 58}, {all}, {1 << 40}, {5, 1}, {all, all}, {0, 0, 8}, mixed(4, 6)} {
		for _, b := range []api.Nat{{2}, {3}, {all}, {all, 7}, mixed(6, 7)} {
			for length := 1; length < 140; length++ {
				single := oneAt(length - 1)
				ones, _ := nat.Sub(oneAt(length), nat.Of(1))
				wantExp(t, b, single, m)
				wantExp(t, b, ones, m)
			}
			wantExp(t, b, oneAt(700), m)
			wantExp(t, b, filled(11, all), m)
			wantExp(t, b, mixed(20, 8), m)
		}
	}
}

// A base about m, and about twice m: it leaves 0 by m, 1 or m less 1.
func TestExpAboutTheBase(t *testing.T) {
	one := nat.Of(1)
	for _, m := range samples()[2:] {
		below, _ := nat.Sub(m, one)
		above := nat.Add(m, one)
		twice := nat.Shl(m, 1)
		for _, e := range []api.Nat{{1}, {2}, {3}, {64}, {all}, {0, 1}, {1, 1}, mixed(3, 9)} {
			wantPower(t, m, e, m, nil, api.OK)
			wantPower(t, twice, e, m, nil, api.OK)
			wantPower(t, above, e, m, one, api.OK)
			wantPower(t, nat.Add(twice, one), e, m, one, api.OK)
			wantPower(t, mul.Mul(m, mixed(5, 10)), e, m, nil, api.OK)
			want := one
			if e[0]%2 == 1 {
				want = below
			}
			wantPower(t, below, e, m, rest(t, want, m), api.OK)
		}
	}
}

func TestExpOfNothing(t *testing.T) {
	one := nat.Of(1)
	for _, nothing := range nothings() {
		for _, m := range samples()[1:] {
			for _, noughts := range []int{0, 2} {
				wantPower(t, nothing, nothing, loose(m, noughts), rest(t, one, m), api.OK)
				wantPower(t, mixed(3, 11), nothing, loose(m, noughts), rest(t, one, m), api.OK)
				wantPower(t, m, nothing, loose(m, noughts), rest(t, one, m), api.OK)
				wantPower(t, nothing, one, loose(m, noughts), nil, api.OK)
				wantPower(t, nothing, mixed(3, 12), loose(m, noughts), nil, api.OK)
			}
		}
	}
}

func TestExpByNothing(t *testing.T) {
	for _, nothing := range nothings() {
		for _, b := range append(samples(), nothings()...) {
			for _, e := range []api.Nat{nil, {0}, {1}, {all, 4}, oneAt(most - 1), oneAt(most), filled(200, all)} {
				wantPower(t, b, e, nothing, nil, api.ErrZero)
			}
		}
	}
}

func TestExpLimits(t *testing.T) {
	if most != 4*api.MaxBits {
		t.Fatal("P8.1: the limit that is tested is another one")
	}
	ones := filled(most/64, all)
	wantExp(t, nat.Of(3), ones, nat.Of(all-58))
	wantExp(t, nat.Of(3), oneAt(most-1), odd(mixed(2, 13)))
	wantExp(t, nat.Of(3), loose(ones, 5), nat.Of(1000))
	wantExp(t, mixed(64, 14), nat.Of(5), ones)
	wantExp(t, mixed(64, 14), nat.Of(5), oneAt(most-1))
	wantExp(t, mixed(70, 15), nat.Of(65537), loose(ones, 5))
	wantExp(t, mixed(64, 16), filled(64, 1<<63+1), filled(64, top))
	for _, many := range []api.Nat{oneAt(most), odd(oneAt(most)), filled(65, all), oneAt(most + 63), oneAt(70000), loose(oneAt(most), 2)} {
		for _, b := range []api.Nat{nil, {1}, {7}, mixed(80, 17)} {
			for _, m := range []api.Nat{{1}, {2}, {97}, {7, 8, 9}, ones, many} {
				wantPower(t, b, many, m, nil, api.ErrMany)
			}
			for _, e := range []api.Nat{nil, {1}, {97}, {7, 8, 9}, ones, many} {
				wantPower(t, b, e, many, nil, api.ErrMany)
			}
			wantPower(t, b, many, nil, nil, api.ErrZero)
			wantPower(t, b, many, make(api.Nat, 66), nil, api.ErrZero)
		}
	}
}

// Of a base there is no limit.
func TestExpOfLongBases(t *testing.T) {
	for _, b := range []api.Nat{oneAt(most), filled(65, all), mixed(3000, 18), append(make(api.Nat, 1500), 1), loose(nat.Of(3), 2000)} {
		for _, m := range []api.Nat{{1}, {1000}, {all}, {0, 1}, odd(mixed(9, 19)), filled(64, all)} {
			wantExp(t, b, nil, m)
			wantExp(t, b, nat.Of(1), m)
			wantExp(t, b, nat.Of(11), m)
		}
	}
}

// triedSymbol is Jacobi's symbol by its words: all squares modulo each prime are tried.
func triedSymbol(a, n int) int {
	symbol := 1
	for p := 2; n > 1; p++ {
		for n%p == 0 {
			symbol *= triedLegendre(a, p)
			n /= p
		}
	}
	return symbol
}

func triedLegendre(a, p int) int {
	if a%p == 0 {
		return 0
	}
	for x := range p {
		if x*x%p == a%p {
			return 1
		}
	}
	return -1
}

func TestJacobiTried(t *testing.T) {
	of := func(n int) api.Nat { return nat.Of(uint64(n)) }
	for n := 1; n < 400; n += 2 {
		for a := range 420 {
			want := triedSymbol(a, n)
			wantSymbol(t, of(a), of(n), want, api.OK)
			wantSymbol(t, loose(of(a), a%4), loose(of(n), 1+n%3), want, api.OK)
		}
	}
}

// Small numbers on one side, and the same ones some times the other number, or its square, more.
func TestJacobiTriedInManyWords(t *testing.T) {
	of := func(n int) api.Nat { return nat.Of(uint64(n)) }
	for n := 1; n < 120; n += 2 {
		for a := range 60 {
			want := triedSymbol(a, n)
			for _, k := range []api.Nat{{1}, {all}, {0, 1}, oneAt(200), mixed(3, 20)} {
				wantSymbol(t, nat.Add(of(a), mul.Mul(k, of(n))), of(n), want, api.OK)
			}
			// A square below adds nothing, if both have no divisor in common.
			if k := odd(mixed(2, 21)); slices.Equal(gcd.Gcd(of(a), k), nat.Of(1)) {
				wantSymbol(t, of(a), mul.Mul(of(n), mul.Square(k)), want, api.OK)
			}
		}
	}
}

func TestJacobiWrittenOut(t *testing.T) {
	for _, c := range []struct {
		a, n api.Nat
		want int
	}{
		{nil, api.Nat{1}, 1},
		{api.Nat{2}, api.Nat{1}, 1},
		{api.Nat{7, 8, 9}, api.Nat{1}, 1},
		{nil, api.Nat{3}, 0},
		{nil, api.Nat{1, 1}, 0},
		{nil, api.Nat{7, 8, 9}, 0},
		{api.Nat{3}, api.Nat{3}, 0},
		{api.Nat{6}, api.Nat{3}, 0},
		{api.Nat{1, 1}, api.Nat{1, 1}, 0},
		{api.Nat{2, 2}, api.Nat{1, 1}, 0},
		{api.Nat{1}, api.Nat{3}, 1},
		{api.Nat{2}, api.Nat{3}, -1},
		{api.Nat{1}, api.Nat{1, 1}, 1},
		{api.Nat{1}, api.Nat{all, all}, 1},
		{api.Nat{2}, api.Nat{9}, 1},
		{api.Nat{3}, api.Nat{9}, 0},
		{api.Nat{2}, api.Nat{27}, -1},
		{api.Nat{2}, api.Nat{all}, 1},
		{api.Nat{2}, api.Nat{top + 1}, 1},
		{api.Nat{2}, api.Nat{3, 1}, -1},
		{api.Nat{2}, api.Nat{5, 1}, -1},
		{api.Nat{2}, api.Nat{7, 1}, 1},
		{api.Nat{2}, api.Nat{1, 1}, 1},
		{api.Nat{0, 1}, api.Nat{3, 1}, 1},
		{api.Nat{0, 2}, api.Nat{3, 1}, -1},
		{api.Nat{1001}, api.Nat{9907}, -1},
		{api.Nat{19}, api.Nat{45}, 1},
		{api.Nat{8}, api.Nat{21}, -1},
		{api.Nat{5}, api.Nat{21}, 1},
	} {
		wantSymbol(t, c.a, c.n, c.want, api.OK)
		wantSymbol(t, loose(c.a, 1), loose(c.n, 2), c.want, api.OK)
	}
}

func TestJacobiOfEven(t *testing.T) {
	numbers := append(samples(), nothings()...)
	for _, a := range append(numbers, odd(mixed(300, 22))) {
		for _, n := range numbers {
			if len(n) > 0 && n[0]%2 == 1 {
				continue
			}
			wantSymbol(t, a, n, 0, api.ErrArg)
			wantSymbol(t, a, loose(n, 2), 0, api.ErrArg)
		}
	}
	for n := uint64(0); n < 300; n += 2 {
		wantSymbol(t, nat.Of(1), nat.Of(n), 0, api.ErrArg)
		wantSymbol(t, nat.Of(n), nat.Of(n), 0, api.ErrArg)
	}
}

func TestJacobiOfNothing(t *testing.T) {
	for _, nothing := range nothings() {
		wantSymbol(t, nothing, nat.Of(1), 1, api.OK)
		wantSymbol(t, nothing, loose(nat.Of(1), 3), 1, api.OK)
		for _, n := range samples()[3:] {
			wantSymbol(t, nothing, odd(n), 0, api.OK)
			wantSymbol(t, nothing, loose(odd(n), 2), 0, api.OK)
		}
	}
}

func TestJacobiOfSamples(t *testing.T) {
	for _, a := range samples() {
		for _, n := range samples() {
			for rest := uint64(1); rest < 8; rest += 2 {
				wantJacobi(t, a, rested(n, rest))
			}
			wantJacobi(t, a, odd(n))
			wantJacobi(t, loose(a, 2), loose(odd(n), 1))
			wantJacobi(t, loose(a, 1), loose(odd(n), 40))
		}
	}
}

func TestJacobiOfEachLength(t *testing.T) {
	for lengthA := range 14 {
		for lengthN := range 14 {
			wantJacobi(t, mixed(lengthA, 23), odd(mixed(lengthN, 24)))
			wantJacobi(t, filled(lengthA, all), odd(mixed(lengthN, 25)))
			wantJacobi(t, filled(lengthA, all), odd(filled(lengthN, all)))
			wantJacobi(t, mixed(lengthA, 26), odd(oneAt(64*lengthN)))
			wantJacobi(t, oneAt(64*lengthA+lengthN), rested(mixed(lengthN, 27), 3))
		}
	}
}

// A power of 2, and an odd number times it, for an n that leaves each odd number by 8: of the odd powers alone, and of those n alone that leave 3 or 5, 2 adds anything.
func TestJacobiOfTwos(t *testing.T) {
	one := nat.Of(1)
	for _, n := range []api.Nat{{1}, {41}, {1 << 40}, {all}, {0, 1}, {5, all}, mixed(3, 28), mixed(6, 29), oneAt(640)} {
		for left := uint64(1); left < 8; left += 2 {
			by := rested(n, left)
			two := 1
			if left == 3 || left == 5 {
				two = -1
			}
			for _, place := range []int{0, 1, 2, 3, 4, 31, 62, 63, 64, 65, 66, 127, 128, 129, 500, 501, 4096, 4097} {
				want := 1
				if place%2 == 1 {
					want = two
				}
				wantSymbol(t, nat.Shl(one, place), by, want, api.OK)
				wantSymbol(t, loose(nat.Shl(one, place), 3), loose(by, 1), want, api.OK)
				for _, factor := range []api.Nat{{3}, {5}, {7}, {9}, {all}, {7, 1}, odd(mixed(4, 30))} {
					wantSymbol(t, nat.Shl(factor, place), by, want*symbolOf(t, factor, by), api.OK)
					wantJacobi(t, nat.Shl(factor, place), by)
				}
			}
		}
	}
}

// More twos than a shift may take away at once; n is longer still, so that they are there when the symbol is made.
func TestJacobiOfManyTwos(t *testing.T) {
	for _, place := range []int{nat.MaxShift - 1, nat.MaxShift, nat.MaxShift + 1, nat.MaxShift + 65, 2*nat.MaxShift + 3} {
		for _, left := range []uint64{1, 3, 5, 7} {
			n := rested(oneAt(place+64), left)
			wantJacobi(t, oneAt(place), n)
			n[1] = 6
			three := oneAt(place)
			three[len(three)-1] *= 3
			wantJacobi(t, three, n)
		}
	}
}

func TestJacobiWithCommonDivisors(t *testing.T) {
	for _, a := range samples() {
		for _, n := range samples() {
			for _, k := range []api.Nat{{3}, {5}, {49}, {all}, {1, 1}, {7, 8, 9}, odd(mixed(5, 31))} {
				wantSymbol(t, mul.Mul(a, k), mul.Mul(odd(n), k), 0, api.OK)
				wantSymbol(t, loose(mul.Mul(a, k), 1), loose(k, 1), 0, api.OK)
				wantSymbol(t, k, k, 0, api.OK)
			}
		}
	}
}

// Of the square of n each symbol is 1, or 0; of another power of n it is that of n, by its exponent.
func TestJacobiOfPowers(t *testing.T) {
	one := nat.Of(1)
	for _, n := range []api.Nat{{3}, {5}, {7}, {11}, {15}, {97}, {all - 58}, {all}, {1, 1}, {all, 1<<63 - 1}, odd(mixed(3, 32))} {
		for _, a := range append(samples(), n) {
			want := 0
			if slices.Equal(gcd.Gcd(a, n), one) {
				want = 1
			}
			wantSymbol(t, a, mul.Square(n), want, api.OK)
			wantSymbol(t, mul.Square(a), n, want, api.OK)
			for k := 1; k < 6; k++ {
				power, _ := mul.Power(n, k)
				if k%2 == 1 {
					want = symbolOf(t, a, n)
				} else {
					want *= want
				}
				wantSymbol(t, a, power, want, api.OK)
			}
		}
	}
}

// Euler's rule: of a prime p the symbol of a is what a leaves by p, so often as half of p - 1.
func TestJacobiOfPrimes(t *testing.T) {
	one := nat.Of(1)
	for _, p := range []api.Nat{{3}, {97}, {65537}, {1<<61 - 1}, {all - 58}, {all, 1<<63 - 1}, {all - 158, all}} {
		below, _ := nat.Sub(p, one)
		half := nat.Shr(p, 1)
		for _, a := range append(samples(), mixed(20, 33)) {
			want := 0
			switch r := powerOf(t, a, half, p); {
			case slices.Equal(r, one):
				want = 1
			case slices.Equal(r, below):
				want = -1
			case len(r) != 0:
				t.Errorf("P8.1: Exp of %x, %x, %x: %x", a, half, p, r)
			}
			wantSymbol(t, a, p, want, api.OK)
		}
	}
}

func TestJacobiOfManyWords(t *testing.T) {
	for _, lengths := range [][2]int{{60, 60}, {61, 59}, {30, 70}, {1000, 1}, {1, 1000}, {1000, 2}, {3, 1000}, {300, 20}, {20, 300}, {0, 1000}, {1000, 0}} {
		a, n := lengths[0], lengths[1]
		for _, left := range []uint64{3, 5} {
			wantJacobi(t, mixed(a, 34), rested(mixed(n, 35), left))
		}
		wantJacobi(t, filled(a, all), odd(mixed(n, 36)))
		wantJacobi(t, loose(mixed(a, 37), 700), loose(odd(mixed(n, 38)), 2000))
	}
}

func TestSumOfExponents(t *testing.T) {
	for _, m := range samples()[1:] {
		for _, b := range []api.Nat{nil, {1}, {2}, {all}, {6, 7}, mixed(5, 39)} {
			for _, pair := range [][2]api.Nat{{nil, nil}, {nil, {5}}, {{1}, {all}}, {{top}, {top}}, {{3, 4}, {5}}, {mixed(3, 40), mixed(2, 41)}} {
				x, y := pair[0], pair[1]
				product := mul.Mul(powerOf(t, b, x, m), powerOf(t, b, y, m))
				if got := powerOf(t, b, nat.Add(x, y), m); !slices.Equal(got, rest(t, product, m)) {
					t.Errorf("P8.3: Exp of %x, the sum of %x and %x, %x: %x", b, x, y, m, got)
				}
			}
		}
	}
}

func TestSymbolsOfProducts(t *testing.T) {
	few := []api.Nat{nil, {1}, {2}, {3}, {7}, {15}, {97}, {top}, {all}, {0, 1}, {1, 1}, {all, all}, mixed(4, 42)}
	for _, a := range few {
		for _, b := range few {
			for _, n := range samples() {
				n = odd(n)
				if got := symbolOf(t, mul.Mul(a, b), n); got != symbolOf(t, a, n)*symbolOf(t, b, n) {
					t.Errorf("P8.3: Jacobi of %x times %x, %x: %d", a, b, n, got)
				}
				x, y := odd(a), odd(b)
				if got := symbolOf(t, n, mul.Mul(x, y)); got != symbolOf(t, n, x)*symbolOf(t, n, y) {
					t.Errorf("P8.3: Jacobi of %x, %x times %x: %d", n, x, y, got)
				}
			}
		}
	}
}

func TestSymbolOfWhatIsLeft(t *testing.T) {
	for _, a := range append(samples(), mixed(50, 43)) {
		for _, n := range samples() {
			n = odd(n)
			want := symbolOf(t, a, n)
			if got := symbolOf(t, rest(t, a, n), n); got != want {
				t.Errorf("P8.3: Jacobi of %x, %x: %d; of what is left: %d", a, n, want, got)
			}
			for _, k := range []api.Nat{{1}, {2}, {3}, {all}, {5, 6, 7}} {
				if got := symbolOf(t, nat.Add(a, mul.Mul(n, k)), n); got != want {
					t.Errorf("P8.3: Jacobi of %x, %x: %d; of %x times that more: %d", a, n, want, k, got)
				}
			}
		}
	}
}

func TestSymbolsTurned(t *testing.T) {
	one := nat.Of(1)
	for _, a := range samples() {
		for _, n := range samples() {
			for left := uint64(0); left < 16; left++ {
				x, y := rested(a, left/4*2+1), rested(n, left%4*2+1)
				got, turned := symbolOf(t, x, y), symbolOf(t, y, x)
				if x[0]%4 == 3 && y[0]%4 == 3 {
					turned = -turned
				}
				if !slices.Equal(gcd.Gcd(x, y), one) {
					turned = 0
				}
				if got != turned {
					t.Errorf("P8.3: Jacobi of %x, %x: %d, by the other one %d", x, y, got, turned)
				}
			}
		}
	}
}

// roomy copies a into a list with words of its own behind its end; whole is all of it.
func roomy(a api.Nat) (list, whole api.Nat) {
	whole = append(slices.Clone(a), 11, 12, 13, 14)
	return whole[:len(a)], whole
}

// spoil writes over a list, and over the room behind its end.
func spoil(l api.Nat) {
	l = l[:cap(l)]
	for i := range l {
		l[i] = ^l[i]
	}
}

// handed are the triples that R3 is asked of: each sample stands at each of three places, and all small ones beside all.
func handed() [][3]api.Nat {
	var out [][3]api.Nat
	small := []api.Nat{nil, {0}, {1}, {2}, {3}, {7, 1}, {0, 0, 1}}
	for _, a := range small {
		for _, b := range small {
			for _, c := range small {
				out = append(out, [3]api.Nat{a, b, c})
			}
		}
	}
	numbers := samples()
	for i, a := range numbers {
		for k := range numbers {
			out = append(out, [3]api.Nat{a, numbers[(i+k)%len(numbers)], numbers[k]})
		}
	}
	return out
}

func TestGivenStays(t *testing.T) {
	for _, c := range handed() {
		for _, noughts := range []int{0, 2} {
			b, wholeB := roomy(loose(c[0], noughts))
			e, wholeE := roomy(loose(c[1], noughts))
			m, wholeM := roomy(loose(c[2], noughts))
			beforeB, beforeE, beforeM := slices.Clone(wholeB), slices.Clone(wholeE), slices.Clone(wholeM)
			Exp(b, e, m)
			Exp(m, m, m)
			Jacobi(b, m)
			Jacobi(e, b)
			Jacobi(m, m)
			if !slices.Equal(wholeB, beforeB) || !slices.Equal(wholeE, beforeE) || !slices.Equal(wholeM, beforeM) {
				t.Fatalf("R3: a call of %x changes what it is handed", c)
			}
		}
	}
}

func TestAnsweredIsNew(t *testing.T) {
	for _, c := range handed() {
		b, wholeB := roomy(c[0])
		e, wholeE := roomy(c[1])
		m, wholeM := roomy(c[2])
		beforeB, beforeE, beforeM := slices.Clone(wholeB), slices.Clone(wholeE), slices.Clone(wholeM)
		want, _ := Exp(b, e, m)
		want = slices.Clone(want)
		got, _ := Exp(b, e, m)
		spoil(got)
		if !slices.Equal(wholeB, beforeB) || !slices.Equal(wholeE, beforeE) || !slices.Equal(wholeM, beforeM) {
			t.Fatalf("R3: Exp of %x answers what it was handed", c)
		}
		got, _ = Exp(b, e, m)
		if !slices.Equal(got, want) {
			t.Errorf("R3: Exp of %x: its answer is kept", c)
		}
		spoil(wholeB)
		spoil(wholeE)
		spoil(wholeM)
		if !slices.Equal(got, want) {
			t.Errorf("R3: Exp of %x does not answer in memory of its own", c)
		}
	}
}

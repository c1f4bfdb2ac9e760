package gcd

import (
	"math"
	"math/big"
	"slices"
	"testing"

	"caltrop/api"
	"caltrop/div"
	"caltrop/mul"
	"caltrop/nat"
)

const (
	all = math.MaxUint64 // a word whose bits are all 1
	top = 1 << 63        // a word whose highest bit alone is 1
)

// filled is so many words, each the same one.
func filled(count int, x uint64) api.Nat {
	return slices.Repeat(api.Nat{x}, count)
}

// oneAt is 2^place.
func oneAt(place int) api.Nat {
	a := make(api.Nat, place/64+1)
	a[place/64] = 1 << (place % 64)
	return a
}

// mixed is so many words without any order to be seen in them; another seed makes other ones.
func mixed(count int, seed uint64) api.Nat {
	a := make(api.Nat, count)
	x := seed
	for i := range a {
		x = x*6364136223846793005 + 1442695040888963407
		a[i] = x ^ x>>29
	}
	if count > 0 {
		a[count-1] |= 1 << 20
	}
	return a
}

// loose is a's number in words that may not be, unless noughts is 0.
func loose(a api.Nat, noughts int) api.Nat {
	return append(slices.Clone(a), make(api.Nat, noughts)...)
}

// samples are numbers from 0 on, of few words and of many, with all kinds of ends and of common divisors.
func samples() []api.Nat {
	return []api.Nat{
		nil, {1}, {2}, {3}, {4}, {6}, {10}, {12}, {18}, {97}, {360}, {1<<32 - 1}, {1 << 32}, {top - 1}, {top}, {top + 1}, {all - 1}, {all},
		{0, 1}, {1, 1}, {all, 1}, {0, top}, {1, top}, {all, top}, {1, all}, {all - 1, all}, {all, all},
		{0, 0, 1}, {1, 0, 1}, {all, 0, 1}, {0, 6, 3}, {0, 1, top}, {all, 0, all}, {all, all, all},
		mixed(3, 1), mixed(4, 2), mixed(5, 3), filled(5, all), oneAt(319), mixed(8, 4), oneAt(640), mixed(17, 5), filled(17, all),
	}
}

// fibonacci is the row 1, 2, 3, 5, 8 .., so many of it: two neighbours need the most steps of all numbers of their size.
func fibonacci(count int) []api.Nat {
	row := []api.Nat{{1}, {2}}
	for len(row) < count {
		row = append(row, nat.Add(row[len(row)-2], row[len(row)-1]))
	}
	return row
}

// value is the number of words by the words of chapter 2 alone, in numbers of the library.
func value(a api.Nat) *big.Int {
	b := make([]byte, 0, 8*len(a))
	for _, x := range slices.Backward(a) {
		for shift := 56; shift >= 0; shift -= 8 {
			b = append(b, byte(x>>shift))
		}
	}
	return new(big.Int).SetBytes(b)
}

// wantNat says what is wrong with an answer, if it is not that number, in words that may be.
func wantNat(t *testing.T, got api.Nat, want *big.Int, call string, args ...any) {
	t.Helper()
	if len(got) > 0 && got[len(got)-1] == 0 {
		t.Errorf("%s of %v: %v may not be", call, args, got)
	}
	if value(got).Cmp(want) != 0 {
		t.Errorf("%s of %v: %v, not %v", call, args, got, want)
	}
}

// extOf is what Ext promises, by the library's numbers: a x leaves g by b just if a by g times x leaves 1 by b by g.
func extOf(a, b *big.Int) (g, x, y *big.Int) {
	g, x, y = new(big.Int).GCD(nil, nil, a, b), new(big.Int), new(big.Int)
	if a.Sign() == 0 {
		return g, x, y
	}
	if b.Sign() == 0 {
		return g, x.SetInt64(1), y
	}
	partA, partB := new(big.Int).Quo(a, g), new(big.Int).Quo(b, g)
	if x.ModInverse(partA, partB); x.Sign() == 0 {
		x.SetInt64(1) // 0 times a is below g
	}
	y.Mul(a, x)
	y.Sub(y, g)
	return g, x, y.Quo(y, b)
}

// wantAll asks all calls for both numbers.
func wantAll(t *testing.T, a, b api.Nat) {
	t.Helper()
	wantG, wantX, wantY := extOf(value(a), value(b))
	wantNat(t, Gcd(a, b), wantG, "P5.1: Gcd", a, b)
	g, x, y := Ext(a, b)
	wantNat(t, g, wantG, "P5.2: Ext, g,", a, b)
	wantNat(t, x, wantX, "P5.2: Ext, x,", a, b)
	wantNat(t, y, wantY, "P5.2: Ext, y,", a, b)
	wantInv(t, a, b)
}

func wantInv(t *testing.T, a, m api.Nat) {
	t.Helper()
	number, by, want := value(a), value(m), new(big.Int)
	is := by.Sign() != 0 && new(big.Int).GCD(nil, nil, number, by).IsInt64() && new(big.Int).GCD(nil, nil, number, by).Int64() == 1
	if is {
		want.ModInverse(number, by)
	}
	got, gotIs := Inv(a, m)
	wantNat(t, got, want, "P5.3: Inv", a, m)
	if gotIs != is {
		t.Errorf("P5.3: Inv of %v, %v: %v", a, m, gotIs)
	}
}

// wantExt asks Gcd and Ext for what is written out.
func wantExt(t *testing.T, a, b, g, x, y api.Nat) {
	t.Helper()
	if got := Gcd(a, b); !slices.Equal(got, g) {
		t.Errorf("P5.1: Gcd of %x, %x: %x", a, b, got)
	}
	if gotG, gotX, gotY := Ext(a, b); !slices.Equal(gotG, g) || !slices.Equal(gotX, x) || !slices.Equal(gotY, y) {
		t.Errorf("P5.2: Ext of %x, %x: %x, %x, %x", a, b, gotG, gotX, gotY)
	}
}

// wantInverse asks Inv for what is written out.
func wantInverse(t *testing.T, a, m, want api.Nat, wantIs bool) {
	t.Helper()
	if got, is := Inv(a, m); !slices.Equal(got, want) || is != wantIs {
		t.Errorf("P5.3: Inv of %x, %x: %x, %v", a, m, got, is)
	}
}

func TestExamples(t *testing.T) {
	for _, c := range []struct{ a, b, g api.Nat }{
		{api.Nat{12}, api.Nat{18}, api.Nat{6}},
		{nil, api.Nat{7}, api.Nat{7}},
		{nil, nil, nil},
	} {
		if got := Gcd(c.a, c.b); !slices.Equal(got, c.g) {
			t.Errorf("P5.1: Gcd of %v, %v: %v", c.a, c.b, got)
		}
	}
	wantExt(t, api.Nat{12}, api.Nat{18}, api.Nat{6}, api.Nat{2}, api.Nat{1})
	wantExt(t, api.Nat{7}, nil, api.Nat{7}, api.Nat{1}, nil)
	wantExt(t, nil, api.Nat{7}, api.Nat{7}, nil, nil)
	wantExt(t, api.Nat{5}, api.Nat{1}, api.Nat{1}, api.Nat{1}, api.Nat{4})
	wantInverse(t, api.Nat{3}, api.Nat{7}, api.Nat{5}, true)
	wantInverse(t, api.Nat{2}, api.Nat{4}, nil, false)
	wantInverse(t, api.Nat{5}, api.Nat{1}, nil, true)
	wantInverse(t, api.Nat{5}, nil, nil, false)
}

func TestExtWrittenOut(t *testing.T) {
	for _, c := range []struct{ a, b, g, x, y api.Nat }{
		{nil, nil, nil, nil, nil},
		{nil, api.Nat{1}, api.Nat{1}, nil, nil},
		{nil, api.Nat{0, 1}, api.Nat{0, 1}, nil, nil},
		{api.Nat{1}, nil, api.Nat{1}, api.Nat{1}, nil},
		{api.Nat{3, 2}, nil, api.Nat{3, 2}, api.Nat{1}, nil},
		{api.Nat{1}, api.Nat{1}, api.Nat{1}, api.Nat{1}, nil},
		{api.Nat{7}, api.Nat{7}, api.Nat{7}, api.Nat{1}, nil},
		{api.Nat{3, 2}, api.Nat{3, 2}, api.Nat{3, 2}, api.Nat{1}, nil},
		{api.Nat{3}, api.Nat{12}, api.Nat{3}, api.Nat{1}, nil},
		{api.Nat{12}, api.Nat{3}, api.Nat{3}, api.Nat{1}, api.Nat{3}},
		{api.Nat{1}, api.Nat{all}, api.Nat{1}, api.Nat{1}, nil},
		{api.Nat{all}, api.Nat{1}, api.Nat{1}, api.Nat{1}, api.Nat{all - 1}},
		{api.Nat{2}, api.Nat{3}, api.Nat{1}, api.Nat{2}, api.Nat{1}},
		{api.Nat{3}, api.Nat{2}, api.Nat{1}, api.Nat{1}, api.Nat{1}},
		{api.Nat{all}, api.Nat{all - 1}, api.Nat{1}, api.Nat{1}, api.Nat{1}},
		{api.Nat{all - 1}, api.Nat{all}, api.Nat{1}, api.Nat{all - 1}, api.Nat{all - 2}},
		{api.Nat{all}, api.Nat{0, 1}, api.Nat{1}, api.Nat{all}, api.Nat{all - 1}},
		{api.Nat{0, 1}, api.Nat{all}, api.Nat{1}, api.Nat{1}, api.Nat{1}},
		{api.Nat{0, 1}, api.Nat{2}, api.Nat{2}, api.Nat{1}, api.Nat{top - 1}},
		{api.Nat{2}, api.Nat{0, 1}, api.Nat{2}, api.Nat{1}, nil},
		{api.Nat{0, 0, 1}, api.Nat{0, 1, 1}, api.Nat{0, 1}, api.Nat{0, 1}, api.Nat{all}},
	} {
		wantExt(t, c.a, c.b, c.g, c.x, c.y)
		wantExt(t, loose(c.a, 2), loose(c.b, 3), c.g, c.x, c.y)
	}
}

// goesInto is whether k times something is n.
func goesInto(k, n int) bool { return n == 0 || k != 0 && n%k == 0 }

// triedGcd tries all numbers: into 0 and 0 each one goes, and chapter 5 says 0.
func triedGcd(a, b int) int {
	for k := max(a, b); k > 0; k-- {
		if goesInto(k, a) && goesInto(k, b) {
			return k
		}
	}
	return 0
}

// triedExt tries all numbers, from the least one on: x above b, or y above a, would not be the least ones.
func triedExt(a, b, g int) (x, y int) {
	for x := range b + 2 {
		for y := range a + 2 {
			if a*x == g+b*y {
				return x, y
			}
		}
	}
	return 0, 0
}

func triedInv(a, m int) (inverse int, is bool) {
	for k := range m {
		if k*a%m == 1%m {
			return k, true
		}
	}
	return 0, false
}

func TestTried(t *testing.T) {
	of := func(n int) api.Nat { return nat.Of(uint64(n)) }
	for a := range 90 {
		for b := range 60 {
			g := triedGcd(a, b)
			x, y := triedExt(a, b, g)
			wantExt(t, of(a), of(b), of(g), of(x), of(y))
			wantExt(t, loose(of(a), a%3), loose(of(b), b%4), of(g), of(x), of(y))
			inverse, is := triedInv(a, b)
			wantInverse(t, of(a), of(b), of(inverse), is)
			wantInverse(t, loose(of(a), a%3), loose(of(b), b%4), of(inverse), is)
		}
	}
}

// The same steps as of small numbers, in numbers of many words: all is multiplied alike.
func TestTriedInManyWords(t *testing.T) {
	of := func(n int) api.Nat { return nat.Of(uint64(n)) }
	for _, by := range []api.Nat{{0, 1}, oneAt(300), mixed(3, 1)} {
		for a := range 40 {
			for b := range 40 {
				g := triedGcd(a, b)
				x, y := triedExt(a, b, g)
				wantExt(t, mul.Mul(of(a), by), mul.Mul(of(b), by), mul.Mul(of(g), by), of(x), of(y))
				wantInverse(t, mul.Mul(of(a), by), mul.Mul(of(b), by), nil, false)
			}
		}
	}
}

func TestOfSamples(t *testing.T) {
	for _, a := range samples() {
		for _, b := range samples() {
			for _, noughts := range [][2]int{{0, 0}, {1, 0}, {0, 1}, {2, 3}, {0, 40}} {
				wantAll(t, loose(a, noughts[0]), loose(b, noughts[1]))
			}
		}
	}
}

func TestOfEachLength(t *testing.T) {
	for lengthA := range 14 {
		for lengthB := range 14 {
			wantAll(t, mixed(lengthA, 1), mixed(lengthB, 2))
			wantAll(t, filled(lengthA, all), mixed(lengthB, 3))
			wantAll(t, filled(lengthA, all), filled(lengthB, all))
			wantAll(t, mixed(lengthA, 4), oneAt(64*lengthB))
		}
	}
}

// Numbers about the ends of words, all beside all: sums of one word come as near to its end as they may.
func TestAboutTheEndsOfWords(t *testing.T) {
	var numbers []api.Nat
	for _, place := range []int{1, 31, 32, 62, 63, 64, 65, 127, 128} {
		for _, off := range []uint64{1, 2, 3, 5, 59} {
			numbers = append(numbers, nat.Add(oneAt(place), nat.Of(off)))
			if less, is := nat.Sub(oneAt(place), nat.Of(off)); is {
				numbers = append(numbers, less)
			}
		}
	}
	for _, a := range numbers {
		for _, b := range numbers {
			wantAll(t, a, b)
		}
	}
}

func TestOfManyWords(t *testing.T) {
	for _, lengths := range [][2]int{{120, 120}, {121, 119}, {60, 130}, {1000, 1}, {1, 1000}, {1000, 2}, {3, 1000}, {600, 20}, {20, 600}, {0, 1000}, {1000, 0}} {
		m, n := lengths[0], lengths[1]
		wantAll(t, mixed(m, 7), mixed(n, 8))
		wantAll(t, filled(m, all), mixed(n, 9))
		wantAll(t, filled(m, all), filled(n, all))
		wantAll(t, loose(mixed(m, 10), 700), loose(mixed(n, 11), 2000))
	}
}

// Neighbours in Fibonacci's row, and those that lie further apart; each quotient is 1 till the last one, and steps end by turns in both ways.
func TestFibonacci(t *testing.T) {
	row := fibonacci(400)
	for i := 1; i < len(row); i++ {
		wantAll(t, row[i-1], row[i])
		wantAll(t, row[i], row[i-1])
		wantAll(t, row[i], row[i/2])
		six := nat.Of(6)
		wantAll(t, mul.Mul(row[i-1], six), mul.Mul(row[i], six))
	}
	row = fibonacci(8001)
	wantAll(t, row[7999], row[8000])
	wantAll(t, row[8000], row[7999])
}

// By Cassini's rule of the row 1, 2, 3, 5, 8 .., counted from 0 on, the square of a place and the product of its neighbours are 1 apart, by turns the one and the other one greater: it gives both numbers of Ext.
func TestFibonacciWrittenOut(t *testing.T) {
	row := fibonacci(300)
	one := api.Nat{1}
	for i := 3; i < len(row); i++ {
		x, y := row[i-1], row[i-2]
		if i%2 == 1 {
			x, y = row[i-2], row[i-3]
		}
		// Of row[i-1] and row[i] the least x is row[i-1] or row[i-2], with the y behind it.
		wantExt(t, row[i-1], row[i], one, x, y)
		wantInverse(t, row[i-1], row[i], x, true)
	}
}

func TestTheOneGoesIntoTheOther(t *testing.T) {
	one := nat.Of(1)
	for _, a := range samples()[1:] {
		wantExt(t, a, a, a, one, nil)
		wantExt(t, a, loose(a, 2), a, one, nil)
		wantExt(t, a, nil, a, one, nil)
		wantExt(t, nil, a, a, nil, nil)
		wantExt(t, make(api.Nat, 3), a, a, nil, nil)
		for _, k := range samples()[1:] {
			product := mul.Mul(a, k)
			less, _ := nat.Sub(k, one)
			wantExt(t, product, a, a, one, less)
			if !slices.Equal(k, one) {
				wantExt(t, a, product, a, one, nil)
			}
		}
	}
}

func TestInvWrittenOut(t *testing.T) {
	for _, c := range []struct {
		a, m, inverse api.Nat
		is            bool
	}{
		{nil, nil, nil, false},
		{api.Nat{1}, nil, nil, false},
		{api.Nat{1}, api.Nat{0}, nil, false},
		{api.Nat{0, 1}, api.Nat{0, 0}, nil, false},
		{nil, api.Nat{1}, nil, true},
		{api.Nat{1}, api.Nat{1}, nil, true},
		{api.Nat{7, 8, 9}, api.Nat{1}, nil, true},
		{nil, api.Nat{2}, nil, false},
		{api.Nat{1}, api.Nat{2}, api.Nat{1}, true},
		{api.Nat{2}, api.Nat{2}, nil, false},
		{api.Nat{3}, api.Nat{2}, api.Nat{1}, true},
		{api.Nat{0, 1}, api.Nat{2}, nil, false},
		{api.Nat{1, 1}, api.Nat{2}, api.Nat{1}, true},
		{nil, api.Nat{7}, nil, false},
		{api.Nat{7}, api.Nat{7}, nil, false},
		{api.Nat{10}, api.Nat{7}, api.Nat{5}, true},
		{api.Nat{21}, api.Nat{7}, nil, false},
		{api.Nat{15}, api.Nat{9}, nil, false},
		{api.Nat{all - 1}, api.Nat{all}, api.Nat{all - 1}, true},
		{api.Nat{2}, api.Nat{all}, api.Nat{top}, true},
		{api.Nat{2}, api.Nat{1, 1}, api.Nat{top + 1}, true},
		{api.Nat{0, 1}, api.Nat{1, 1}, api.Nat{0, 1}, true},
		{api.Nat{0, 1}, api.Nat{all}, api.Nat{1}, true},
		{api.Nat{0, 1}, api.Nat{all, all}, api.Nat{0, 1}, true},
		{api.Nat{0, 2}, api.Nat{0, 3}, nil, false},
	} {
		wantInverse(t, c.a, c.m, c.inverse, c.is)
		wantInverse(t, loose(c.a, 1), loose(c.m, 2), c.inverse, c.is)
	}
}

func TestInvByNothing(t *testing.T) {
	numbers := append(samples(), api.Nat{0}, api.Nat{0, 0, 0}, api.Nat{1, 0}, mixed(500, 12))
	for _, a := range numbers {
		for _, nothing := range []api.Nat{nil, {}, {0}, {0, 0}, make(api.Nat, 100)} {
			if got, is := Inv(a, nothing); len(got) != 0 || is {
				t.Errorf("P5.3: Inv of %v and %d words 0: %v, %v", a, len(nothing), got, is)
			}
		}
	}
}

// rest is what a leaves by b, which is not 0.
func rest(t *testing.T, a, b api.Nat) api.Nat {
	t.Helper()
	r, e := div.Mod(a, b)
	if e != api.OK {
		t.Errorf("Mod of %v, %v: error %d", a, b, e)
	}
	return r
}

func TestInvOfInv(t *testing.T) {
	one := nat.Of(1)
	for _, a := range append(samples(), mixed(40, 13)) {
		for _, m := range append(samples()[1:], mixed(30, 14), filled(20, all)) {
			inverse, is := Inv(a, m)
			if is != slices.Equal(Gcd(a, m), one) {
				t.Errorf("P5.3: Inv of %v, %v: %v", a, m, is)
			}
			if !is {
				continue
			}
			if nat.Cmp(inverse, m) >= 0 {
				t.Errorf("P5.3: Inv of %v, %v: %v is not below that", a, m, inverse)
			}
			if got := rest(t, mul.Mul(a, inverse), m); !slices.Equal(got, rest(t, one, m)) {
				t.Errorf("P5.3: Inv of %v, %v: %v, whose product leaves %v", a, m, inverse, got)
			}
			if again, is := Inv(inverse, m); !is || !slices.Equal(again, rest(t, a, m)) {
				t.Errorf("P5.4: Inv of %v, which is Inv of %v, %v: %v, %v", inverse, a, m, again, is)
			}
		}
	}
}

// What goes into both goes into Gcd, and both by Gcd have Gcd 1.
func TestCommonDivisors(t *testing.T) {
	for _, a := range samples() {
		for _, b := range samples() {
			if len(a) == 0 && len(b) == 0 {
				continue
			}
			for _, k := range []api.Nat{{1}, {2}, {6}, {97}, {top}, {all}, {0, 1}, {5, 6, 7}, oneAt(200), mixed(6, 15)} {
				g := Gcd(mul.Mul(a, k), mul.Mul(b, k))
				q, left, e := div.Div(g, k)
				if e != api.OK || len(left) != 0 || !slices.Equal(q, Gcd(a, b)) {
					t.Errorf("P5.4: %v goes into both %v and %v times it, and leaves %v of Gcd %v, error %d", k, a, b, left, g, e)
				}
				partA, leftA, _ := div.Div(mul.Mul(a, k), g)
				partB, leftB, _ := div.Div(mul.Mul(b, k), g)
				if len(leftA) != 0 || len(leftB) != 0 {
					t.Errorf("P5.1: Gcd %v of %v and %v times %v leaves %v and %v", g, a, b, k, leftA, leftB)
				}
				if got := Gcd(partA, partB); !slices.Equal(got, nat.Of(1)) {
					t.Errorf("P5.4: Gcd of %v and %v, both by their Gcd: %v", partA, partB, got)
				}
			}
		}
	}
}

// Each number that goes into both of two small ones is tried.
func TestAllCommonDivisors(t *testing.T) {
	for a := range uint64(130) {
		for b := range uint64(130) {
			if a == 0 && b == 0 {
				continue
			}
			g, _ := nat.Small(Gcd(nat.Of(a), nat.Of(b)))
			for k := uint64(1); k < 130; k++ {
				if both := a%k == 0 && b%k == 0; both != (g%k == 0) {
					t.Errorf("P5.4: %d goes into %d and %d: %v; Gcd is %d", k, a, b, both, g)
				}
			}
		}
	}
}

// roomy copies a into a list with words of its own behind its end; whole is all of it.
func roomy(a api.Nat) (list, whole api.Nat) {
	whole = append(slices.Clone(a), 11, 12, 13, 14)
	return whole[:len(a)], whole
}

// spoil writes over a list, and over the room behind its end.
func spoil(l api.Nat) {
	l = l[:cap(l)]
	for i := range l {
		l[i] = ^l[i]
	}
}

// answers are all lists that all calls answer of both numbers.
func answers(a, b api.Nat) []api.Nat {
	g, x, y := Ext(a, b)
	inverse, _ := Inv(a, b)
	return []api.Nat{Gcd(a, b), g, x, y, inverse}
}

func TestGivenStays(t *testing.T) {
	for _, a := range samples() {
		for _, b := range samples() {
			for _, noughts := range []int{0, 2} {
				x, wholeX := roomy(loose(a, noughts))
				y, wholeY := roomy(loose(b, noughts))
				beforeX, beforeY := slices.Clone(wholeX), slices.Clone(wholeY)
				answers(x, y)
				answers(x, x)
				if !slices.Equal(wholeX, beforeX) || !slices.Equal(wholeY, beforeY) {
					t.Fatalf("R3: a call of %v, %v changes what it is handed", a, b)
				}
			}
		}
	}
}

func TestAnsweredIsNew(t *testing.T) {
	for _, a := range samples() {
		for _, b := range samples() {
			x, wholeX := roomy(a)
			y, wholeY := roomy(b)
			beforeX, beforeY := slices.Clone(wholeX), slices.Clone(wholeY)
			want := answers(x, y)
			for spoiled := range want {
				got := answers(x, y)
				spoil(got[spoiled])
				if !slices.Equal(wholeX, beforeX) || !slices.Equal(wholeY, beforeY) {
					t.Fatalf("R3: a call of %v, %v answers what it was handed", a, b)
				}
				for i := range got {
					if i != spoiled && !slices.Equal(got[i], want[i]) {
						t.Errorf("R3: of %v, %v answers %d and %d share memory", a, b, spoiled, i)
					}
				}
			}
			got := answers(x, y)
			spoil(wholeX)
			spoil(wholeY)
			for i := range got {
				if !slices.Equal(got[i], want[i]) {
					t.Errorf("R3: of %v, %v answer %d is not in memory of its own", a, b, i)
				}
			}
		}
	}
}

package root

import (
	"math"
	"math/big"
	"slices"
	"testing"

	"caltrop/api"
	"caltrop/mul"
	"caltrop/nat"
)

const (
	all = math.MaxUint64 // a word whose bits are all 1
	top = 1 << 63        // a word whose highest bit alone is 1
)

// filled is so many words, each the same one.
func filled(count int, x uint64) api.Nat {
	return slices.Repeat(api.Nat{x}, count)
}

// oneAt is 2^place.
func oneAt(place int) api.Nat {
	a := make(api.Nat, place/64+1)
	a[place/64] = 1 << (place % 64)
	return a
}

// mixed is so many words without any order to be seen in them; another seed makes other ones.
func mixed(count int, seed uint64) api.Nat {
	a := make(api.Nat, count)
	x := seed
	for i := range a {
		x = x*6364136223846793005 + 1442695040888963407
		a[i] = x ^ x>>29
	}
	if count > 0 {
		a[count-1] |= 1 << 20
	}
	return a
}

// loose is a's number in words that may not be, unless noughts is 0.
func loose(a api.Nat, noughts int) api.Nat {
	return append(slices.Clone(a), make(api.Nat, noughts)...)
}

// nothings are words of 0.
func nothings() []api.Nat {
	return []api.Nat{nil, {}, {0}, {0, 0}, make(api.Nat, 3), make(api.Nat, 4), make(api.Nat, 7), make(api.Nat, 100)}
}

// samples are numbers from 0 on, of few words and of many, with all kinds of ends; squares and cubes among them.
func samples() []api.Nat {
	return []api.Nat{
		nil, {1}, {2}, {3}, {4}, {7}, {8}, {9}, {24}, {26}, {27}, {64}, {729}, {1<<32 - 1}, {1 << 32}, {top - 1}, {top}, {all - 1}, {all},
		{0, 1}, {1, 1}, {all, 1}, {0, top}, {1, all - 1}, {all - 1, all}, {all, all},
		{0, 0, 1}, {1, 0, 1}, {all, 0, 1}, {0, all, 1}, {all, all, 1}, {all, 0, all}, {all, all, all},
		{0, 0, 0, 1}, mixed(4, 1), filled(4, all), mixed(5, 2), mixed(6, 3), filled(6, all), mixed(7, 4), oneAt(448), mixed(8, 5), oneAt(640), mixed(17, 6), filled(17, all), mixed(40, 7),
	}
}

// value is the number of words by the words of chapter 2 alone, in numbers of the library.
func value(a api.Nat) *big.Int {
	b := make([]byte, 0, 8*len(a))
	for _, x := range slices.Backward(a) {
		for shift := 56; shift >= 0; shift -= 8 {
			b = append(b, byte(x>>shift))
		}
	}
	return new(big.Int).SetBytes(b)
}

// power is so often n, multiplied.
func power(n *big.Int, k int64) *big.Int {
	return new(big.Int).Exp(n, big.NewInt(k), nil)
}

// wantRoot says what is wrong with an answer, if it is not the greatest number whose power is not above a's.
func wantRoot(t *testing.T, got, a api.Nat, k int64, call string) {
	t.Helper()
	if len(got) > 0 && got[len(got)-1] == 0 {
		t.Errorf("%s of %x: %x may not be", call, a, got)
	}
	number, root := value(a), value(got)
	if power(root, k).Cmp(number) > 0 {
		t.Errorf("%s of %x: %x, which is too great", call, a, got)
	}
	if root.Add(root, big.NewInt(1)); power(root, k).Cmp(number) <= 0 {
		t.Errorf("%s of %x: %x, which is too little", call, a, got)
	}
}

// wantAll asks all calls for a number.
func wantAll(t *testing.T, a api.Nat) {
	t.Helper()
	wantRoot(t, Sqrt(a), a, 2, "P6.1: Sqrt")
	wantRoot(t, Cbrt(a), a, 3, "P6.2: Cbrt")
	root := new(big.Int).Sqrt(value(a))
	wantIs := power(root, 2).Cmp(value(a)) == 0
	if !wantIs {
		root.SetInt64(0)
	}
	r, is := IsSquare(a)
	if is != wantIs || value(r).Cmp(root) != 0 || len(r) > 0 && r[len(r)-1] == 0 {
		t.Errorf("P6.1: IsSquare of %x: %x, %v", a, r, is)
	}
}

// wantSqrt asks Sqrt and IsSquare for what is written out.
func wantSqrt(t *testing.T, a, root api.Nat, wantIs bool) {
	t.Helper()
	if got := Sqrt(a); !slices.Equal(got, root) {
		t.Errorf("P6.1: Sqrt of %x: %x, not %x", a, got, root)
	}
	if !wantIs {
		root = nil
	}
	if r, is := IsSquare(a); !slices.Equal(r, root) || is != wantIs {
		t.Errorf("P6.1: IsSquare of %x: %x, %v", a, r, is)
	}
}

func wantCbrt(t *testing.T, a, root api.Nat) {
	t.Helper()
	if got := Cbrt(a); !slices.Equal(got, root) {
		t.Errorf("P6.2: Cbrt of %x: %x, not %x", a, got, root)
	}
}

// less is one less than a number that is not 0, and more one more.
func less(a api.Nat) api.Nat {
	b, _ := nat.Sub(a, nat.Of(1))
	return b
}

func more(a api.Nat) api.Nat { return nat.Add(a, nat.Of(1)) }

func cube(a api.Nat) api.Nat { return mul.Mul(mul.Square(a), a) }

func TestExamples(t *testing.T) {
	for _, c := range []struct{ a, root api.Nat }{
		{nil, nil},
		{api.Nat{24}, api.Nat{4}},
		{api.Nat{25}, api.Nat{5}},
		{api.Nat{0, 0, 1}, api.Nat{0, 1}},
	} {
		if got := Sqrt(c.a); !slices.Equal(got, c.root) {
			t.Errorf("P6.1: Sqrt of %v: %v", c.a, got)
		}
	}
	if r, is := IsSquare(api.Nat{49}); !slices.Equal(r, api.Nat{7}) || !is {
		t.Error("P6.1: IsSquare of 49:", r, is)
	}
	if r, is := IsSquare(api.Nat{50}); len(r) != 0 || is {
		t.Error("P6.1: IsSquare of 50:", r, is)
	}
	for _, c := range []struct{ a, root api.Nat }{
		{api.Nat{26}, api.Nat{2}},
		{api.Nat{27}, api.Nat{3}},
		{api.Nat{0, 1 << 32}, api.Nat{1 << 32}},
	} {
		if got := Cbrt(c.a); !slices.Equal(got, c.root) {
			t.Errorf("P6.2: Cbrt of %v: %v", c.a, got)
		}
	}
}

func TestSqrtWrittenOut(t *testing.T) {
	for _, c := range []struct {
		a, root api.Nat
		is      bool
	}{
		{api.Nat{1}, api.Nat{1}, true},
		{api.Nat{2}, api.Nat{1}, false},
		{api.Nat{3}, api.Nat{1}, false},
		{api.Nat{4}, api.Nat{2}, true},
		{api.Nat{top}, api.Nat{3037000499}, false},
		{api.Nat{1<<64 - 1<<33}, api.Nat{1<<32 - 2}, false},
		{api.Nat{1<<64 - 1<<33 + 1}, api.Nat{1<<32 - 1}, true},
		{api.Nat{1<<64 - 1<<33 + 2}, api.Nat{1<<32 - 1}, false},
		{api.Nat{all}, api.Nat{1<<32 - 1}, false},
		{api.Nat{0, 1}, api.Nat{1 << 32}, true},
		{api.Nat{1, 1}, api.Nat{1 << 32}, false},
		{api.Nat{0, 2}, api.Nat{6074000999}, false},
		{api.Nat{7766279631452241920, 5}, api.Nat{10000000000}, true}, // 10^20
		{api.Nat{0, top}, api.Nat{13043817825332782212}, false},
		{api.Nat{0, all - 1}, api.Nat{all - 1}, false},
		{api.Nat{1, all - 1}, api.Nat{all}, true},
		{api.Nat{2, all - 1}, api.Nat{all}, false},
		{api.Nat{all, all}, api.Nat{all}, false},
		{api.Nat{0, 0, 1}, api.Nat{0, 1}, true},
		{api.Nat{1, 0, 1}, api.Nat{0, 1}, false},
		{api.Nat{0, 2, 1}, api.Nat{0, 1}, false},
		{api.Nat{1, 2, 1}, api.Nat{1, 1}, true},
		{api.Nat{0, 0, 2}, api.Nat{7640891576956012808, 1}, false},                                      // the bits of the root of 2
		{api.Nat{13399722918938673152, 7145508105175220139, 29}, api.Nat{7766279631452241920, 5}, true}, // 10^40
		{api.Nat{0, 0, 0, 0, 1}, api.Nat{0, 0, 1}, true},
		{api.Nat{all, all, all, all}, api.Nat{all, all}, false},
	} {
		wantSqrt(t, c.a, c.root, c.is)
		wantSqrt(t, loose(c.a, 1), c.root, c.is)
		wantSqrt(t, loose(c.a, 9), c.root, c.is)
	}
}

func TestCbrtWrittenOut(t *testing.T) {
	for _, c := range []struct{ a, root api.Nat }{
		{nil, nil},
		{api.Nat{1}, api.Nat{1}},
		{api.Nat{7}, api.Nat{1}},
		{api.Nat{8}, api.Nat{2}},
		{api.Nat{9}, api.Nat{2}},
		{api.Nat{28}, api.Nat{3}},
		{api.Nat{1<<63 - 1}, api.Nat{1<<21 - 1}},
		{api.Nat{1 << 63}, api.Nat{1 << 21}},
		{api.Nat{all}, api.Nat{2642245}},
		{api.Nat{0, 1}, api.Nat{2642245}},
		{api.Nat{0, 2}, api.Nat{3329021}},
		{api.Nat{11515845246265065471, 54210108}, api.Nat{999999999}}, // 10^27 - 1
		{api.Nat{11515845246265065472, 54210108}, api.Nat{1000000000}},
		{api.Nat{0, top}, api.Nat{5541191377756}},
		{api.Nat{0, 0, 1}, api.Nat{6981463658331}},
		{api.Nat{all, all, all}, api.Nat{all}},
		{api.Nat{0, 0, 0, 1}, api.Nat{0, 1}},
		{api.Nat{0, 3, 3, 1}, api.Nat{0, 1}},
		{api.Nat{1, 3, 3, 1}, api.Nat{1, 1}},
		{api.Nat{0, 0, 0, 2}, api.Nat{4794697086780616226, 1}}, // the bits of the cube root of 2
		{api.Nat{0, 0, 0, 4}, api.Nat{10835636874285140011, 1}},
		{api.Nat{all, all, all, all, all, all}, api.Nat{all, all}},
		{api.Nat{0, 0, 0, 0, 0, 0, 1}, api.Nat{0, 0, 1}},
	} {
		wantCbrt(t, c.a, c.root)
		wantCbrt(t, loose(c.a, 1), c.root)
		wantCbrt(t, loose(c.a, 9), c.root)
	}
}

func TestOfNothing(t *testing.T) {
	for _, nothing := range nothings() {
		wantSqrt(t, nothing, nil, true)
		wantCbrt(t, nothing, nil)
	}
}

// Each small number is held against trying: the roots go on by one where a square, or a cube, is come to.
func TestTried(t *testing.T) {
	var square, third uint64
	for n := range uint64(20000) {
		if (square+1)*(square+1) == n {
			square++
		}
		if (third+1)*(third+1)*(third+1) == n {
			third++
		}
		for _, noughts := range []int{0, int(n%4) + 1} {
			a := loose(nat.Of(n), noughts)
			wantSqrt(t, a, nat.Of(square), square*square == n)
			wantCbrt(t, a, nat.Of(third))
		}
	}
}

func TestOfSamples(t *testing.T) {
	for _, a := range samples() {
		for _, noughts := range []int{0, 1, 2, 3, 40} {
			wantAll(t, loose(a, noughts))
		}
	}
}

// bases are numbers from 1 on, of which powers are made: small ones, those about the ends of words, and long ones.
func bases() []api.Nat {
	out := samples()[1:]
	for n := range uint64(50) {
		out = append(out, nat.Of(n+10))
	}
	for place := 1; place < 330; place++ {
		out = append(out, less(oneAt(place)), oneAt(place), more(oneAt(place)))
	}
	for length := 1; length < 25; length++ {
		out = append(out, mixed(length, 8), filled(length, all), filled(length, 1))
	}
	return out
}

// The root of a square is what was squared, and so it is till twice what was squared is behind it; then it is one more.
func TestAboutSquares(t *testing.T) {
	one := nat.Of(1)
	for _, n := range bases() {
		square := mul.Square(n)
		last := nat.Add(square, nat.Shl(n, 1))
		for _, noughts := range []int{0, 1, 6} {
			wantSqrt(t, loose(less(square), noughts), less(n), slices.Equal(n, one))
			wantSqrt(t, loose(square, noughts), n, true)
			wantSqrt(t, loose(more(square), noughts), n, false)
			wantSqrt(t, loose(nat.Add(square, n), noughts), n, false)
			wantSqrt(t, loose(less(last), noughts), n, false)
			wantSqrt(t, loose(last, noughts), n, false)
			wantSqrt(t, loose(more(last), noughts), more(n), true)
		}
	}
}

// The same of 0: its square and twice it are 0.
func TestAboutSquareOfNothing(t *testing.T) {
	wantSqrt(t, mul.Square(nil), nil, true)
	wantSqrt(t, more(mul.Square(nil)), nat.Of(1), true)
}

func TestAboutCubes(t *testing.T) {
	for _, n := range bases() {
		whole := cube(n)
		last := less(cube(more(n)))
		for _, noughts := range []int{0, 1, 6} {
			wantCbrt(t, loose(less(whole), noughts), less(n))
			wantCbrt(t, loose(whole, noughts), n)
			wantCbrt(t, loose(more(whole), noughts), n)
			wantCbrt(t, loose(less(last), noughts), n)
			wantCbrt(t, loose(last, noughts), n)
			wantCbrt(t, loose(more(last), noughts), more(n))
		}
	}
}

// wantPowerOf2 asks for the roots of 2^place, and of its neighbours.
func wantPowerOf2(t *testing.T, place int) {
	t.Helper()
	a := oneAt(place)
	wantAll(t, less(a))
	wantAll(t, a)
	wantAll(t, more(a))
	if r, is := IsSquare(a); is != (place%2 == 0) || is && !slices.Equal(r, oneAt(place/2)) {
		t.Errorf("P6.1: IsSquare of 2^%d: %x, %v", place, r, is)
	}
	if place%2 == 0 {
		wantSqrt(t, a, oneAt(place/2), true)
	}
	if place%3 == 0 {
		wantCbrt(t, a, oneAt(place/3))
	}
}

func TestPowersOf2(t *testing.T) {
	for place := range 1300 {
		wantPowerOf2(t, place)
	}
}

// Of these the roots have more bits than a shift may go.
func TestBeyondAShift(t *testing.T) {
	for _, place := range []int{2 * nat.MaxShift, 3 * nat.MaxShift} {
		for off := range 4 {
			wantPowerOf2(t, place+off)
		}
	}
}

func TestOfEachLength(t *testing.T) {
	for length := range 60 {
		for seed := range uint64(6) {
			wantAll(t, mixed(length, seed))
		}
		wantAll(t, filled(length, all))
		wantAll(t, filled(length, 1))
		wantAll(t, append(make(api.Nat, length), all))
		wantAll(t, append(filled(length, all), 1))
	}
}

// Each place of the highest bit, behind which there are noughts, ones, or no order.
func TestOfEachHighestBit(t *testing.T) {
	for place := range 900 {
		wantAll(t, nat.Shr(mixed(15, uint64(place)), 960-place))
		wantAll(t, nat.Add(oneAt(place+1), oneAt(place)))
		wantAll(t, nat.Add(oneAt(place), nat.Shr(mixed(15, 9), 960-place)))
	}
}

func TestOfManyWords(t *testing.T) {
	for _, length := range []int{100, 333, 1000, 1001, 1999, 4000} {
		wantAll(t, mixed(length, 10))
		wantAll(t, filled(length, all))
		wantAll(t, loose(mixed(length, 11), 5000))
	}
}

// Squares and cubes of so many words that their roots are longer than a shift may go, and what stands about them.
func TestAboutPowersOfManyWords(t *testing.T) {
	for _, n := range []api.Nat{mixed(100, 12), mixed(1100, 13), filled(1100, all), mixed(2100, 14), append(make(api.Nat, 1500), 1)} {
		square, whole := mul.Square(n), cube(n)
		last := nat.Add(square, nat.Shl(n, 1))
		wantSqrt(t, less(square), less(n), false)
		wantSqrt(t, square, n, true)
		wantSqrt(t, loose(square, 3), n, true)
		wantSqrt(t, more(square), n, false)
		wantSqrt(t, last, n, false)
		wantSqrt(t, more(last), more(n), true)
		wantCbrt(t, less(whole), less(n))
		wantCbrt(t, whole, n)
		wantCbrt(t, loose(whole, 3), n)
		wantCbrt(t, more(whole), n)
	}
}

// roomy copies a into a list with words of its own behind its end; whole is all of it.
func roomy(a api.Nat) (list, whole api.Nat) {
	whole = append(slices.Clone(a), 11, 12, 13, 14)
	return whole[:len(a)], whole
}

// spoil writes over a list, and over the room behind its end.
func spoil(l api.Nat) {
	l = l[:cap(l)]
	for i := range l {
		l[i] = ^l[i]
	}
}

// answers are all lists that all calls answer of a number.
func answers(a api.Nat) []api.Nat {
	r, _ := IsSquare(a)
	return []api.Nat{Sqrt(a), r, Cbrt(a)}
}

// handed are the numbers that R3 is asked of: long squares and cubes are among them.
func handed() []api.Nat {
	out := append(samples(), nothings()...)
	for length := 1; length < 12; length++ {
		out = append(out, mul.Square(mixed(length, 15)), cube(mixed(length, 16)))
	}
	return out
}

func TestGivenStays(t *testing.T) {
	for _, a := range handed() {
		for _, noughts := range []int{0, 2} {
			x, whole := roomy(loose(a, noughts))
			before := slices.Clone(whole)
			answers(x)
			if !slices.Equal(whole, before) {
				t.Fatalf("R3: a call of %x changes what it is handed", a)
			}
		}
	}
}

func TestAnsweredIsNew(t *testing.T) {
	for _, a := range handed() {
		x, whole := roomy(a)
		before := slices.Clone(whole)
		want := answers(x)
		for spoiled := range want {
			got := answers(x)
			spoil(got[spoiled])
			if !slices.Equal(whole, before) {
				t.Fatalf("R3: a call of %x answers what it was handed", a)
			}
			for i := range got {
				if i != spoiled && !slices.Equal(got[i], want[i]) {
					t.Errorf("R3: of %x answers %d and %d share memory", a, spoiled, i)
				}
			}
			if again := answers(x); !slices.Equal(again[spoiled], want[spoiled]) {
				t.Errorf("R3: of %x answer %d is kept", a, spoiled)
			}
		}
		got := answers(x)
		spoil(whole)
		for i := range got {
			if !slices.Equal(got[i], want[i]) {
				t.Errorf("R3: of %x answer %d is not in memory of its own", a, i)
			}
		}
	}
}

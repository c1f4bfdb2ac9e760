package mul

import (
	"math"
	"math/big"
	"slices"
	"testing"

	"caltrop/api"
	"caltrop/nat"
)

const all = math.MaxUint64 // a word whose bits are all 1

// filled is so many words, each the same one.
func filled(count int, x uint64) api.Nat {
	return slices.Repeat(api.Nat{x}, count)
}

// oneAt is 2^place.
func oneAt(place int) api.Nat {
	a := make(api.Nat, place/64+1)
	a[place/64] = 1 << (place % 64)
	return a
}

// mixed is so many words without any order to be seen in them; another seed makes other ones.
func mixed(count int, seed uint64) api.Nat {
	a := make(api.Nat, count)
	x := seed
	for i := range a {
		x = x*6364136223846793005 + 1442695040888963407
		a[i] = x ^ x>>29
	}
	if count > 0 {
		a[count-1] |= 1 << 20
	}
	return a
}

// hollow has words 0 between its first and its last one, so that halves of it are 0, or short.
func hollow(count int, first, last uint64) api.Nat {
	a := make(api.Nat, count)
	a[0] = first
	a[count-1] |= last
	return a
}

// loose is a's number in words that may not be, unless noughts is 0.
func loose(a api.Nat, noughts int) api.Nat {
	return append(slices.Clone(a), make(api.Nat, noughts)...)
}

// short are numbers of few words, with all kinds of ends.
func short() []api.Nat {
	return []api.Nat{
		nil, {1}, {2}, {3}, {10}, {1<<32 - 1}, {1 << 32}, {1<<32 + 1}, {1 << 63}, {all - 1}, {all},
		{0, 1}, {1, 1}, {all, 1}, {0, 1 << 63}, {1, all}, {all - 1, all}, {all, all},
		{0, 0, 1}, {1, 0, 1}, {all, 0, 1}, {0, all, 1}, {all, 0, all}, {all, all, all},
		mixed(4, 1), mixed(5, 2), mixed(8, 3), filled(9, all), mixed(17, 4), oneAt(1100),
	}
}

// edgeLengths are those about which products begin to be made of three, once, of their halves again, and where one number is about twice as long as the other one.
func edgeLengths() []int {
	return []int{
		1, 2, long/2 - 1, long / 2, long/2 + 1, long - 2, long - 1, long, long + 1, long + 2,
		2*long - 3, 2*long - 2, 2*long - 1, 2 * long, 2*long + 1, 2*long + 2, 4*long - 1, 4 * long, 4*long + 3,
	}
}

// kinds are numbers of so many words.
func kinds(count int) []api.Nat {
	return []api.Nat{mixed(count, uint64(count)), filled(count, all), hollow(count, all, 1), hollow(count, 0, 1<<63)}
}

// value is the number of words by the words of chapter 2 alone, in numbers of the library.
func value(a api.Nat) *big.Int {
	b := make([]byte, 0, 8*len(a))
	for _, x := range slices.Backward(a) {
		for shift := 56; shift >= 0; shift -= 8 {
			b = append(b, byte(x>>shift))
		}
	}
	return new(big.Int).SetBytes(b)
}

// wantNat says what is wrong with an answer, if it is not that number, in words that may be.
func wantNat(t *testing.T, got api.Nat, want *big.Int, call string, args ...any) {
	t.Helper()
	if len(got) > 0 && got[len(got)-1] == 0 {
		t.Errorf("%s of %v: %v may not be", call, args, got)
	}
	if value(got).Cmp(want) != 0 {
		t.Errorf("%s of %v: %v, not %v", call, args, got, want)
	}
}

// wantProduct asks for both orders of a product.
func wantProduct(t *testing.T, a, b api.Nat) {
	t.Helper()
	want := new(big.Int).Mul(value(a), value(b))
	wantNat(t, Mul(a, b), want, "P3.1: Mul", a, b)
	wantNat(t, Mul(b, a), want, "P3.1: Mul", b, a)
}

func TestExamples(t *testing.T) {
	if got := Mul(api.Nat{all}, api.Nat{all}); !slices.Equal(got, api.Nat{1, all - 1}) {
		t.Error("P3.1: Mul of 2^64 - 1, 2^64 - 1:", got)
	}
	if got, e := Power(api.Nat{10}, 20); !slices.Equal(got, api.Nat{7766279631452241920, 5}) || e != api.OK {
		t.Error("P3.1: Power of 10, 20:", got, e)
	}
	if got, e := Power(nil, 0); !slices.Equal(got, api.Nat{1}) || e != api.OK {
		t.Error("P3.1: Power of 0, 0:", got, e)
	}
	if got, e := Power(api.Nat{3}, -1); len(got) != 0 || e != api.ErrArg {
		t.Error("P3.1: Power of 3, -1:", got, e)
	}
}

func TestMulOfNothing(t *testing.T) {
	for _, nothing := range []api.Nat{nil, {}, {0}, {0, 0, 0}, make(api.Nat, long), make(api.Nat, 3*long)} {
		for _, a := range []api.Nat{nil, {}, {0}, {1}, {all}, {7, 0}, mixed(long-1, 1), filled(long, all), mixed(5*long, 2), make(api.Nat, 2*long)} {
			if got := Mul(a, nothing); len(got) != 0 {
				t.Errorf("P3.1: Mul of %v and %d words 0: %v", a, len(nothing), got)
			}
			if got := Mul(nothing, a); len(got) != 0 {
				t.Errorf("P3.1: Mul of %d words 0 and %v: %v", len(nothing), a, got)
			}
		}
		if got := Square(nothing); len(got) != 0 {
			t.Errorf("P3.1: Square of %d words 0: %v", len(nothing), got)
		}
	}
}

func TestMulOfOneWord(t *testing.T) {
	for _, c := range []struct {
		a, b uint64
		want api.Nat
	}{
		{1, 1, api.Nat{1}},
		{2, 3, api.Nat{6}},
		{1 << 32, 1<<32 - 1, api.Nat{0xffffffff00000000}},
		{1 << 32, 1 << 32, api.Nat{0, 1}},
		{1<<32 + 1, 1<<32 + 1, api.Nat{0x200000001, 1}},
		{1 << 63, 2, api.Nat{0, 1}},
		{1 << 63, 1 << 63, api.Nat{0, 1 << 62}},
		{all, 1, api.Nat{all}},
		{all, 2, api.Nat{all - 1, 1}},
		{all, all - 1, api.Nat{2, all - 2}},
	} {
		if got := Mul(api.Nat{c.a}, api.Nat{c.b}); !slices.Equal(got, c.want) {
			t.Errorf("P3.1: Mul of %d, %d: %v", c.a, c.b, got)
		}
		if got := Mul(api.Nat{c.b}, api.Nat{c.a}); !slices.Equal(got, c.want) {
			t.Errorf("P3.1: Mul of %d, %d: %v", c.b, c.a, got)
		}
	}
}

func TestMulOfShort(t *testing.T) {
	for _, a := range short() {
		for _, b := range short() {
			for _, noughts := range [][2]int{{0, 0}, {1, 0}, {0, 3}, {2, 2}} {
				wantProduct(t, loose(a, noughts[0]), loose(b, noughts[1]))
			}
		}
	}
}

func TestMulAboutLong(t *testing.T) {
	for _, lengthA := range edgeLengths() {
		for _, lengthB := range edgeLengths() {
			for i, a := range kinds(lengthA) {
				for k, b := range kinds(lengthB) {
					wantProduct(t, a, b)
					if i == k {
						wantProduct(t, loose(a, 1), loose(b, 2*long))
					}
				}
			}
		}
	}
}

// Each length from few words to well above those of which products are made of three, so that no rounding of halves is left out.
func TestMulOfEachLength(t *testing.T) {
	for length := 1; length <= 2*long+10; length++ {
		for _, other := range []int{length, length + 1, length + length/2, 2*length - 1, 2 * length, 2*length + 1} {
			wantProduct(t, mixed(length, 5), mixed(other, 6))
			wantProduct(t, filled(length, all), filled(other, all))
		}
	}
}

// Halves whose sums carry into a word more, and halves that are 0.
func TestMulOfHalves(t *testing.T) {
	for _, length := range []int{long, long + 1, 2 * long, 2*long + 1} {
		for cut := 1; cut < length; cut++ {
			low := append(filled(cut, all), make(api.Nat, length-cut)...)
			low[length-1] = 1
			high := append(make(api.Nat, cut), filled(length-cut, all)...)
			for _, b := range []api.Nat{low, high, filled(length, all)} {
				wantProduct(t, low, b)
				wantProduct(t, high, b)
			}
		}
	}
}

// Of 2^h + 2, h being a half's bits, and of a number whose lower half and twice its upper one are 2^h - 1: the part between the halves' products is all ones, and one more comes to it from below, so that its carry goes on behind its end.
func TestMulCarriesBehindTheMiddle(t *testing.T) {
	for _, half := range []int{long - 1, long, long + 1, 2 * long} {
		a := hollow(half+1, 2, 1)
		for _, length := range []int{2*half - 1, 2 * half} {
			top := length - half - 1 // the upper half is 2^64 times itself so often
			low := filled(half, all)
			low[top] -= 2
			b := append(append(low, make(api.Nat, top)...), 1)
			wantProduct(t, a, b)
		}
	}
}

func TestMulOfLengthsThatDiffer(t *testing.T) {
	for _, lengths := range [][2]int{
		{1, 5000}, {2, 3000}, {long - 1, 3000}, {long, 3000}, {long, 3001}, {long + 1, 4999}, {3 * long, 2000}, {500, 3000}, {2000, 2000},
	} {
		wantProduct(t, mixed(lengths[0], 7), mixed(lengths[1], 8))
		wantProduct(t, filled(lengths[0], all), filled(lengths[1], all))
		wantProduct(t, filled(lengths[0], all), hollow(lengths[1], 3, 5))
	}
}

// What words that are all ones come to is known ahead: (2^m - 1) (2^n - 1) = 2^(m+n) - 2^m - 2^n + 1.
func TestMulOfOnes(t *testing.T) {
	for _, lengths := range [][2]int{{1, 1}, {1, 2}, {2, 2}, {3, 7}, {long, long}, {long, long + 1}, {long, 3 * long}, {1000, 1000}} {
		m, n := lengths[0], lengths[1]
		want := append(api.Nat{1}, make(api.Nat, m-1)...)
		want = append(want, filled(n-m, all)...)
		want = append(want, filled(m, all)...)
		want[n] = all - 1
		if got := Mul(filled(m, all), filled(n, all)); !slices.Equal(got, want) {
			t.Errorf("P3.1: Mul of %d and %d full words: %x", m, n, got)
		}
	}
}

func TestSquare(t *testing.T) {
	if got := Square(api.Nat{all}); !slices.Equal(got, api.Nat{1, all - 1}) {
		t.Error("P3.1: Square of 2^64 - 1:", got)
	}
	numbers := short()
	for _, length := range edgeLengths() {
		numbers = append(numbers, kinds(length)...)
	}
	for _, a := range numbers {
		want := new(big.Int).Mul(value(a), value(a))
		for _, noughts := range []int{0, 1, long} {
			wantNat(t, Square(loose(a, noughts)), want, "P3.1: Square", a, noughts)
		}
		if !slices.Equal(Square(a), Mul(a, a)) {
			t.Errorf("P3.1: Square of %v is not its product with itself", a)
		}
	}
}

func TestPower(t *testing.T) {
	for _, a := range short() {
		for _, k := range []int{0, 1, 2, 3, 4, 5, 7, 8, 15, 16, 17, 31, 33, 50} {
			if k*value(a).BitLen() > 65536 {
				continue
			}
			want := new(big.Int).Exp(value(a), big.NewInt(int64(k)), nil)
			for _, noughts := range []int{0, 1, 2000} {
				got, e := Power(loose(a, noughts), k)
				wantNat(t, got, want, "P3.1: Power", a, noughts, k)
				if e != api.OK {
					t.Errorf("P3.1: Power of %v and %d words 0, %d: error %d", a, noughts, k, e)
				}
			}
		}
	}
}

// Powers of exponents 0 and 1, and of 0 and 1, written out.
func TestPowerWrittenOut(t *testing.T) {
	full := mixed(1024, 9) // of just as many bits as there may be
	full[1023] |= 1 << 63
	over := oneAt(65536)
	for _, c := range []struct {
		a    api.Nat
		k    int
		want api.Nat
		e    api.Errno
	}{
		{nil, 0, api.Nat{1}, api.OK},
		{api.Nat{}, 0, api.Nat{1}, api.OK},
		{api.Nat{0, 0}, 0, api.Nat{1}, api.OK},
		{nil, 1, nil, api.OK},
		{api.Nat{0, 0}, 1, nil, api.OK},
		{nil, 2, nil, api.OK},
		{nil, 65537, nil, api.OK},
		{api.Nat{0}, math.MaxInt, nil, api.OK},
		{nil, math.MaxInt, nil, api.OK},
		{api.Nat{1}, 0, api.Nat{1}, api.OK},
		{api.Nat{1}, 1, api.Nat{1}, api.OK},
		{api.Nat{1}, 65535, api.Nat{1}, api.OK},
		{api.Nat{1}, 65536, api.Nat{1}, api.OK},
		{api.Nat{1, 0}, 65536, api.Nat{1}, api.OK},
		{api.Nat{1}, 65537, nil, api.ErrMany},
		{api.Nat{7}, 0, api.Nat{1}, api.OK},
		{api.Nat{7}, 1, api.Nat{7}, api.OK},
		{api.Nat{7, 0, 0}, 1, api.Nat{7}, api.OK},
		{full, 0, api.Nat{1}, api.OK},
		{full, 1, full, api.OK},
		{full, 2, nil, api.ErrMany},
		{over, 0, api.Nat{1}, api.OK},
		{over, 1, nil, api.ErrMany},
		{over, math.MaxInt, nil, api.ErrMany},
		{over, -1, nil, api.ErrArg},
		{filled(3000, all), 0, api.Nat{1}, api.OK},
		{filled(3000, all), 1, nil, api.ErrMany},
	} {
		if got, e := Power(c.a, c.k); !slices.Equal(got, c.want) || e != c.e {
			t.Errorf("P3.1: Power of %v, %d: %v, error %d", c.a, c.k, got, e)
		}
	}
}

// k times the bits at 65536 is still allowed, above it is not (R7).
func TestPowerAtItsLimit(t *testing.T) {
	for _, a := range []api.Nat{{2}, {3}, {7}, {15}, {1<<16 - 1}, {1 << 63}, {all}, {0, 1}, {all, all}, mixed(3, 1), filled(16, all), filled(100, all), oneAt(32767), oneAt(32768), filled(512, all)} {
		bits := value(a).BitLen()
		k := 65536 / bits
		want := new(big.Int).Exp(value(a), big.NewInt(int64(k)), nil)
		got, e := Power(a, k)
		wantNat(t, got, want, "P3.1: Power", a, k)
		if e != api.OK {
			t.Errorf("P3.1: Power of %v, %d, %d bits in all: error %d", a, k, k*bits, e)
		}
		for _, more := range []int{1, 2, 1000} {
			if got, e := Power(a, k+more); len(got) != 0 || e != api.ErrMany {
				t.Errorf("P3.1: Power of %v, %d, %d bits in all: %d words, error %d", a, k+more, (k+more)*bits, len(got), e)
			}
		}
	}
	// One less than the limit, by several exponents.
	for _, c := range []struct{ bits, k int }{{255, 257}, {257, 255}, {17, 3855}, {65535, 1}} {
		got, e := Power(oneAt(c.bits-1), c.k)
		if !slices.Equal(got, oneAt((c.bits-1)*c.k)) || e != api.OK {
			t.Errorf("P3.1: Power of 2^%d, %d: %d words, error %d", c.bits-1, c.k, len(got), e)
		}
	}
	// 65537 is a prime, so just one above the limit is come to by 1 alone, and by 1 time alone.
	for _, c := range []struct{ bits, k int }{{1, 65537}, {65537, 1}, {2, 32769}, {32769, 2}, {64, 1025}, {1025, 64}} {
		if got, e := Power(oneAt(c.bits-1), c.k); len(got) != 0 || e != api.ErrMany {
			t.Errorf("P3.1: Power of 2^%d, %d: %d words, error %d", c.bits-1, c.k, len(got), e)
		}
	}
}

// Exponents whose product with the bits goes round in an int: to 0, to a small number, below 0.
func TestPowerOfGreatExponents(t *testing.T) {
	for _, k := range []int{1 << 32, 1<<61 + 1, 1 << 62, 1<<62 + 1, 1<<62 + 5, math.MaxInt - 1, math.MaxInt} {
		for _, a := range []api.Nat{{1}, {2}, {3}, {1 << 2}, {1 << 3}, {1 << 7}, {1 << 63}, {all}, {0, 1 << 63}, oneAt(1023), oneAt(65535)} {
			if got, e := Power(a, k); len(got) != 0 || e != api.ErrMany {
				t.Errorf("P3.1: Power of %v, %d: %d words, error %d", a, k, len(got), e)
			}
		}
	}
}

func TestPowerBelowNothing(t *testing.T) {
	for _, k := range []int{-1, -2, -64, -65536, math.MinInt + 1, math.MinInt} {
		for _, a := range []api.Nat{nil, {0}, {1}, {2}, {all}, {3, 0}, oneAt(65536), filled(2000, all)} {
			if got, e := Power(a, k); len(got) != 0 || e != api.ErrArg {
				t.Errorf("P3.1: Power of %v, %d: %v, error %d", a, k, got, e)
			}
		}
	}
}

// mids are few numbers of all lengths, for what holds of three of them.
func mids() []api.Nat {
	return []api.Nat{
		nil, {1}, {all}, {0, 1}, mixed(3, 1), filled(7, all), mixed(long-1, 2), filled(long, all),
		mixed(long+1, 3), hollow(2*long, 1, all), mixed(2*long+3, 4), oneAt(64*long + 5), filled(5*long, all),
	}
}

func TestOrderSaysNothing(t *testing.T) {
	for _, a := range mids() {
		for _, b := range mids() {
			both := Mul(a, b)
			if !slices.Equal(both, Mul(b, a)) {
				t.Errorf("P3.2: Mul of %v and %v hangs on their order", a, b)
			}
			for _, c := range mids() {
				if !slices.Equal(Mul(both, c), Mul(a, Mul(b, c))) {
					t.Errorf("P3.2: Mul of %v, %v and %v hangs on their order", a, b, c)
				}
			}
		}
	}
}

func TestProductOfSum(t *testing.T) {
	for _, a := range mids() {
		for _, b := range mids() {
			for _, c := range mids() {
				sum := nat.Add(Mul(a, c), Mul(b, c))
				if !slices.Equal(Mul(nat.Add(a, b), c), sum) {
					t.Errorf("P3.2: the sum of %v and %v, times %v, is not the sum of products", a, b, c)
				}
				if !slices.Equal(Mul(c, nat.Add(a, b)), sum) {
					t.Errorf("P3.2: %v times the sum of %v and %v is not the sum of products", c, a, b)
				}
			}
		}
	}
}

func TestProductByPowerOfTwoIsShift(t *testing.T) {
	for _, a := range append(short(), mids()...) {
		for _, k := range []int{0, 1, 2, 31, 32, 63, 64, 65, 127, 128, 1000, 64*long - 65, 64*long - 64, 64*long - 1, 64 * long, 64*long + 1, 10001, nat.MaxShift} {
			want := nat.Shl(a, k)
			if got := Mul(a, oneAt(k)); !slices.Equal(got, want) {
				t.Errorf("P3.2: %v times 2^%d is not the shift", a, k)
			}
			if got := Mul(oneAt(k), a); !slices.Equal(got, want) {
				t.Errorf("P3.2: 2^%d times %v is not the shift", k, a)
			}
		}
	}
	for _, k := range []int{0, 1, 63, 64, 65, 1000, 32768} {
		if got, e := Power(api.Nat{2}, k); !slices.Equal(got, nat.Shl(api.Nat{1}, k)) || e != api.OK {
			t.Errorf("P3.2: Power of 2, %d is not the shift, error %d", k, e)
		}
	}
}

func TestPowersAddUp(t *testing.T) {
	for _, a := range []api.Nat{nil, {1}, {3}, {all}, {1, all}, mixed(5, 1)} {
		for i := range 20 {
			for k := range 20 {
				first, _ := Power(a, i)
				second, _ := Power(a, k)
				both, _ := Power(a, i+k)
				if !slices.Equal(Mul(first, second), both) {
					t.Errorf("P3.1: Power of %v, %d and %d do not add up", a, i, k)
				}
			}
		}
	}
}

// Each call, of two numbers and an exponent.
func calls() map[string]func(a, b api.Nat, k int) api.Nat {
	return map[string]func(a, b api.Nat, k int) api.Nat{
		"Mul":    func(a, b api.Nat, k int) api.Nat { return Mul(a, b) },
		"Square": func(a, b api.Nat, k int) api.Nat { return Square(a) },
		"Power":  func(a, b api.Nat, k int) api.Nat { p, _ := Power(a, k); return p },
	}
}

// roomy copies a into a list with words of its own behind its end; whole is all of it.
func roomy(a api.Nat) (list, whole api.Nat) {
	whole = append(slices.Clone(a), 11, 12, 13, 14)
	return whole[:len(a)], whole
}

// spoil writes over a list, and over the room behind its end.
func spoil(l api.Nat) {
	l = l[:cap(l)]
	for i := range l {
		l[i] = ^l[i]
	}
}

func TestGivenStays(t *testing.T) {
	for _, a := range mids() {
		for _, b := range mids() {
			for _, noughts := range []int{0, 1} {
				x, wholeX := roomy(loose(a, noughts))
				y, wholeY := roomy(loose(b, 2*noughts))
				beforeX, beforeY := slices.Clone(wholeX), slices.Clone(wholeY)
				for name, call := range calls() {
					for _, k := range []int{-1, 0, 1, 2, 3, math.MaxInt} {
						call(x, y, k)
						call(y, x, k)
						call(x, x, k)
						if !slices.Equal(wholeX, beforeX) || !slices.Equal(wholeY, beforeY) {
							t.Fatalf("R3: %s of %v, %v, %d changes what it is handed", name, a, b, k)
						}
					}
				}
			}
		}
	}
}

func TestAnsweredIsNew(t *testing.T) {
	for name, call := range calls() {
		for _, a := range mids() {
			for _, b := range mids() {
				for _, k := range []int{0, 1, 2} {
					x, wholeX := roomy(a)
					y, wholeY := roomy(b)
					beforeX, beforeY := slices.Clone(wholeX), slices.Clone(wholeY)
					first, second := call(x, y, k), call(x, y, k)
					kept := slices.Clone(second)
					spoil(first)
					if !slices.Equal(wholeX, beforeX) || !slices.Equal(wholeY, beforeY) {
						t.Errorf("R3: %s of %v, %v, %d answers what it was handed", name, a, b, k)
					}
					spoil(wholeX)
					spoil(wholeY)
					if !slices.Equal(second, kept) {
						t.Errorf("R3: %s of %v, %v, %d answers memory that is not its own", name, a, b, k)
					}
				}
			}
		}
	}
}

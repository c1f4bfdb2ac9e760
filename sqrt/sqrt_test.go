package sqrt

import (
	"math"
	"math/big"
	"slices"
	"testing"

	"caltrop/api"
	"caltrop/fp"
	"caltrop/mul"
	"caltrop/nat"
)

const (
	all   = math.MaxUint64 // a word whose bits are all 1
	top   = 1 << 63        // a word whose highest bit alone is 1
	field = 256            // bits of P: MaxField
)

// oneAt is 2^place.
func oneAt(place int) api.Nat {
	a := make(api.Nat, place/64+1)
	a[place/64] = 1 << (place % 64)
	return a
}

// ones is the number of so many bits that are all 1.
func ones(count int) api.Nat { return less(oneAt(count), 1) }

// less is a without so many; there are as many.
func less(a api.Nat, count uint64) api.Nat {
	out, _ := nat.Sub(a, nat.Of(count))
	return out
}

// more is a and so many.
func more(a api.Nat, count uint64) api.Nat { return nat.Add(a, nat.Of(count)) }

// mixed is so many words without any order to be seen in them; another seed makes other ones.
func mixed(count int, seed uint64) api.Nat {
	a := make(api.Nat, count)
	for i := range a {
		seed = seed*6364136223846793005 + 1442695040888963407
		a[i] = seed ^ seed>>29
	}
	if count > 0 {
		a[count-1] |= 1 << 20
	}
	return a
}

// loose is a's number in words that may not be, unless noughts is 0.
func loose(a api.Nat, noughts int) api.Nat {
	return append(slices.Clone(a), make(api.Nat, noughts)...)
}

// value is the number of words by the words of chapter 2 alone, in numbers of the library.
func value(a api.Nat) *big.Int {
	b := make([]byte, 0, 8*len(a))
	for _, x := range slices.Backward(a) {
		for shift := 56; shift >= 0; shift -= 8 {
			b = append(b, byte(x>>shift))
		}
	}
	return new(big.Int).SetBytes(b)
}

// words is a number of the library's in words that may be.
func words(x *big.Int) api.Nat { return nat.FromBytes(x.Bytes()) }

// square is what the square of a leaves by p.
func square(p, a api.Nat) api.Nat {
	x := value(a)
	return words(x.Mod(x.Mul(x, x), value(p)))
}

// primeFrom is the least prime from a number on that leaves so much by 8.
func primeFrom(a api.Nat, rest uint64) api.Nat {
	x := value(a)
	x.Add(x, big.NewInt(int64(rest)-int64(a[0]%8)))
	for !x.ProbablyPrime(10) {
		x.Add(x, big.NewInt(8))
	}
	return words(x)
}

// sizes are the lengths of P, in bits, whose ends of words are tested.
func sizes() []int { return []int{62, 63, 64, 65, 127, 128, 129, 191, 192, 193, 255, field} }

// everyday are primes of each length and of each rest by 8.
func everyday() (out []api.Nat) {
	for i, size := range sizes() {
		for _, rest := range []uint64{1, 3, 5, 7} {
			seed := mixed((size+63)/64, uint64(100*i)+rest)
			seed = nat.Shr(seed, 64*len(seed)-size+2) // so that a prime is found below its end
			out = append(out, primeFrom(nat.Add(oneAt(size-1), seed), rest))
		}
	}
	return out
}

// above are primes that are 1 and a product of a great power of 2.
func above() []api.Nat {
	return []api.Nat{
		{5}, {13}, {17}, {97}, {193}, {257}, {7681}, {12289}, {40961}, {65537}, {786433}, {3<<30 + 1}, {3<<41 + 1},
		{87<<56 + 1}, {27<<59 + 1}, {15<<60 + 1, 1}, {1, 81 << 57}, {1, 3 << 61, 1}, {1, 0, 13 << 60}, {1, 0, 3 << 62, 1}, {1, 0, 0, 207 << 56},
		{1, 1<<64 - 1<<32, all, 1<<32 - 1},
	}
}

// late are primes modulo which many numbers from 1 on are squares, and how many.
func late() (out []api.Nat, squares []uint64) {
	for _, c := range []struct {
		squares uint64
		p       api.Nat
	}{
		{2, api.Nat{7}}, {4, api.Nat{23}}, {6, api.Nat{71}}, {10, api.Nat{311}}, {12, api.Nat{479}}, {16, api.Nat{1559}},
		{18, api.Nat{5711}}, {22, api.Nat{10559}}, {28, api.Nat{18191}}, {30, api.Nat{31391}}, {42, api.Nat{366791}},
		{10, api.Nat{1009}}, {16, api.Nat{8089}}, {46, api.Nat{3818929}}, {58, api.Nat{22000801}},
		{78, api.Nat{0x51b5d9614cb1cef1}}, {88, api.Nat{0x5ffb56b58c4e4577}}, {112, api.Nat{0x94709d7a85e0b3c9}}, {96, api.Nat{0xb079e274db750527}},
		{130, api.Nat{0xa1fc6f1473671a69, 0xe30213b06103eb86}},
		{112, api.Nat{0xacf1872620e976c7, 0xa5286dd9c8bb14bc}},
		{178, api.Nat{0xa8991f920e2be261, 0xa48397e89c4be5f8, 0xd18f8abb06e0365b}},
		{172, api.Nat{0x2dec6ba4c00f1577, 0xde6b040f2567c8e7, 0xab06ee45e715e416}},
		{270, api.Nat{0x37cccd78551fd179, 0xf84f735dc8949ed, 0x5b55002125124b48, 0xd7d5944fecac1fb1}},
		{238, api.Nat{0x9f53efcb73abc487, 0xe3982ef2924bb38d, 0x6b521737f1dbc5cb, 0xcc2da48b18e8ff91}},
		// And 1 and a product of a great power of 2, besides.
		{102, api.Nat{0x2000000000000001, 0xaa04f6dccbb96176}},
		{148, api.Nat{1, 0, 0xd73e87e5e992a70b, 0xa5ea0c0d73a2ed9f}},
		{198, api.Nat{1, 0x409e941ea55eebd2, 0x62efc47fa0ca6771, 0xdd739f15790677d3}},
	} {
		out, squares = append(out, c.p), append(squares, c.squares)
	}
	return out, squares
}

// known are primes of which much is said elsewhere: of curves that are in use, and just below powers of 2.
func known() []api.Nat {
	return []api.Nat{
		{1<<31 - 1}, {1<<61 - 1}, {1<<63 - 25}, {all - 58}, {13, 1}, {all, 1<<63 - 1}, {all - 158, all}, {51, 0, 1}, {all, all - 1, all}, {133, 0, 0, 1},
		{all - 18, all, all, 1<<63 - 1}, {all - 188, all, all, all}, {all, 1<<32 - 1, 0, 0xffffffff00000001}, {0xfffffffefffffc2f, all, all, all},
	}
}

// primes are those that all calls are asked of.
func primes() []api.Nat {
	out, _ := late()
	return slices.Concat(everyday(), above(), out, known())
}

// smallPrimes are those from 5 to below most.
func smallPrimes(most uint64) (out []uint64) {
	for p := uint64(5); p < most; p += 2 {
		if new(big.Int).SetUint64(p).ProbablyPrime(5) {
			out = append(out, p)
		}
	}
	return out
}

// made is the field of p.
func made(t *testing.T, p api.Nat) *fp.Field {
	t.Helper()
	f, e := fp.New(p)
	if f == nil || e != api.OK {
		t.Fatalf("there is no field of %x: error %d", p, e)
	}
	return f
}

// wantIs says what is wrong with Is, if it does not tell that.
func wantIs(t *testing.T, f *fp.Field, a api.Nat, want bool) {
	t.Helper()
	if got := Is(f, a); got != want {
		t.Errorf("P13.1: Is of %x, %x: %t", f.P(), a, got)
	}
}

// wantRoot says what is wrong with Root, if it does not tell that.
func wantRoot(t *testing.T, f *fp.Field, a, want api.Nat) {
	t.Helper()
	if got, is := Root(f, a); !slices.Equal(got, want) || !is {
		t.Errorf("P13.1: Root of %x, %x: %x, %t, not %x", f.P(), a, got, is, want)
	}
}

// wantNone wants that a is no square.
func wantNone(t *testing.T, f *fp.Field, a api.Nat) {
	t.Helper()
	wantIs(t, f, a, false)
	if got, is := Root(f, a); len(got) != 0 || is {
		t.Errorf("P13.1: Root of %x, %x: %x, %t", f.P(), a, got, is)
	}
}

// wantMiss says what is wrong with Miss, if it does not tell that.
func wantMiss(t *testing.T, f *fp.Field, want api.Nat) {
	t.Helper()
	if got, is := Miss(f); !slices.Equal(got, want) || !is {
		t.Errorf("P13.1: Miss of %x: %x, %t, not %x", f.P(), got, is, want)
	}
}

// wantByLibrary asks Is and Root of a number below a prime for what the library's numbers say.
func wantByLibrary(t *testing.T, f *fp.Field, a api.Nat) {
	t.Helper()
	p := value(f.P())
	root := new(big.Int).ModSqrt(value(a), p)
	if root == nil {
		wantNone(t, f, a)
		return
	}
	if root.Bit(0) == 1 {
		root.Sub(p, root)
	}
	wantIs(t, f, a, true)
	wantRoot(t, f, a, words(root))
}

// below are numbers below p: about 0, about half of it and about its end, powers of 2, and others.
func below(p api.Nat) (out []api.Nat) {
	half := nat.Shr(p, 1)
	numbers := []api.Nat{
		nil, {1}, {2}, {3}, {4}, {5}, {9}, less(half, 1), half, more(half, 1), less(p, 4), less(p, 3), less(p, 2), less(p, 1), oneAt(nat.Bits(p) - 1),
		oneAt(64 * (len(p) - 1)), ones(nat.Bits(p) - 1), ones(63), ones(64), oneAt(64), oneAt(63), {all - 1},
	}
	for seed := range uint64(6) {
		numbers = append(numbers, mixed(1, seed), mixed(len(p), 10+seed), nat.Shr(mixed(len(p), 20+seed), 3))
	}
	for _, a := range numbers {
		if nat.Cmp(a, p) < 0 {
			out = append(out, a)
		}
	}
	return out
}

// The numbers that the tests are made of are what their names say.
func TestSamples(t *testing.T) {
	if field != api.MaxField {
		t.Error("the limit that is tested is another one")
	}
	seen := make(map[int]bool)
	for _, p := range append(primes(), others()...) {
		if !nat.May(p) || p[0]%2 == 0 || nat.Bits(p) > field {
			t.Errorf("%x is no number of a field", p)
		}
		seen[nat.Bits(p)] = true
	}
	for _, size := range append(sizes(), 3) {
		if !seen[size] {
			t.Errorf("no field of %d bits is tested", size)
		}
	}
	for _, p := range primes() {
		if !value(p).ProbablyPrime(20) {
			t.Errorf("%x is no prime", p)
		}
	}
	for _, p := range others() {
		if value(p).ProbablyPrime(20) {
			t.Errorf("%x is a prime", p)
		}
	}
	for i, p := range everyday() {
		if nat.Bits(p) != sizes()[i/4] || p[0]%8 != uint64(2*(i%4)+1) {
			t.Errorf("%x is not of %d bits, or leaves %d by 8", p, sizes()[i/4], p[0]%8)
		}
	}
}

func TestExamples(t *testing.T) {
	f := made(t, api.Nat{23})
	wantIs(t, f, api.Nat{2}, true)
	wantRoot(t, f, api.Nat{2}, api.Nat{18})
	wantNone(t, f, api.Nat{5})
	wantMiss(t, f, api.Nat{5})
}

func TestLeastFields(t *testing.T) {
	f := made(t, api.Nat{5})
	wantRoot(t, f, nil, nil)
	wantRoot(t, f, api.Nat{1}, api.Nat{4})
	wantNone(t, f, api.Nat{2})
	wantNone(t, f, api.Nat{3})
	wantRoot(t, f, api.Nat{4}, api.Nat{2})
	wantNone(t, f, api.Nat{5})
	wantNone(t, f, api.Nat{6})
	wantMiss(t, f, api.Nat{2})
	f = made(t, api.Nat{7})
	wantRoot(t, f, nil, nil)
	wantRoot(t, f, api.Nat{1}, api.Nat{6})
	wantRoot(t, f, api.Nat{2}, api.Nat{4})
	wantNone(t, f, api.Nat{3})
	wantRoot(t, f, api.Nat{4}, api.Nat{2})
	wantNone(t, f, api.Nat{5})
	wantNone(t, f, api.Nat{6})
	wantNone(t, f, api.Nat{7})
	wantNone(t, f, api.Nat{8})
	wantMiss(t, f, api.Nat{3})
}

// Each number of a small field, and each one up to twice P, is asked for by the chapter's words: squares are looked for among all there are.
func TestSmallFieldsWhole(t *testing.T) {
	for _, p := range smallPrimes(700) {
		f := made(t, api.Nat{p})
		roots := make(map[uint64]uint64) // of each square, the even root
		for x := uint64(0); x < p; x += 2 {
			roots[x*x%p] = x
		}
		least := uint64(0)
		for a := range 2 * p {
			root, is := roots[a]
			wantIs(t, f, nat.Of(a), is)
			if is {
				wantRoot(t, f, nat.Of(a), nat.Of(root))
			} else {
				wantNone(t, f, nat.Of(a))
			}
			if !is && least == 0 {
				least = a
			}
			if a < 10 {
				wantNone(t, f, api.Nat{a, 0})
			}
		}
		wantMiss(t, f, nat.Of(least))
		if len(roots) != int(p/2)+1 {
			t.Errorf("P13.2: %d squares of %d", len(roots), p)
		}
	}
}

func TestOfSamples(t *testing.T) {
	for _, p := range primes() {
		f := made(t, p)
		for _, a := range below(p) {
			wantByLibrary(t, f, a)
		}
	}
}

func TestRootsOfSquares(t *testing.T) {
	for _, p := range primes() {
		f := made(t, p)
		for _, a := range below(p) {
			wantSquareOf(t, f, a)
			wantSquareOf(t, f, f.Neg(a))
		}
	}
}

// Many primes that begin behind a power of 2, of each length: what is odd of P - 1 is short and long.
func TestOfEachLength(t *testing.T) {
	for size := 4; size <= field; size++ {
		begin := oneAt(size - 1)
		if size > 20 {
			begin = nat.Add(begin, nat.Shl(api.Nat{uint64(size)*2654435761%1024 + 1}, (size-12)/2))
		}
		for _, rest := range []uint64{1, 7} {
			p := primeFrom(begin, rest)
			if nat.Bits(p) > field {
				continue
			}
			f := made(t, p)
			for _, a := range []api.Nat{{1}, {2}, {3}, less(p, 1), less(p, 2), nat.Shr(p, 1), nat.Shr(p, 2)} {
				wantByLibrary(t, f, a)
				wantByLibrary(t, f, square(p, a))
			}
			wantMissByLibrary(t, f)
		}
	}
}

// What goes just so far: each power of 2 that divides P - 1 is how far some number goes.
func TestEachWayToGo(t *testing.T) {
	one := api.Nat{1}
	for _, p := range above() {
		f := made(t, p)
		first, _ := Miss(f)
		odd := less(p, 1)
		for odd[0]%2 == 0 {
			odd = nat.Shr(odd, 1)
		}
		root, _ := f.Exp(first, odd)
		wantNone(t, f, root)
		for ; !slices.Equal(root, one); root = square(p, root) {
			wantSquareOf(t, f, root)
			wantSquareOf(t, f, f.Mul(root, nat.Shr(p, 1)))
		}
	}
}

// wantSquareOf wants the root of a's square: the even one of a and P less a.
func wantSquareOf(t *testing.T, f *fp.Field, a api.Nat) {
	t.Helper()
	p := f.P()
	want := a
	if nat.Bit(a, 0) == 1 {
		want, _ = nat.Sub(p, a)
	}
	wantIs(t, f, square(p, a), true)
	wantRoot(t, f, square(p, a), want)
}

// wantMissByLibrary asks Miss for what the library's symbols say.
func wantMissByLibrary(t *testing.T, f *fp.Field) {
	t.Helper()
	p := value(f.P())
	n := int64(2)
	for big.Jacobi(big.NewInt(n), p) != -1 {
		n++
	}
	wantMiss(t, f, api.Nat{uint64(n)})
}

func TestMiss(t *testing.T) {
	for _, p := range primes() {
		wantMissByLibrary(t, made(t, p))
	}
	for _, p := range smallPrimes(20000) {
		wantMissByLibrary(t, made(t, api.Nat{p}))
	}
	list, squares := late()
	for i, p := range list {
		f := made(t, p)
		wantMiss(t, f, api.Nat{squares[i] + 1})
		for a := range squares[i] {
			wantIs(t, f, nat.Of(a+1), true)
		}
		wantNone(t, f, api.Nat{squares[i] + 1})
	}
}

// What is not below P, or may not be, is no square here, whatever it leaves by P.
func TestWhatMayNotBe(t *testing.T) {
	for _, p := range primes() {
		f := made(t, p)
		for _, a := range []api.Nat{
			p, more(p, 1), more(p, 4), more(p, 9), nat.Shl(p, 1), more(nat.Shl(p, 1), 1), more(nat.Shl(p, 1), 4), nat.Add(p, less(p, 1)), mul.Square(p),
			more(mul.Square(p), 1), more(mul.Square(p), 4), oneAt(64 * len(p)), oneAt(128 * len(p)), mul.Square(more(p, 2)), oneAt(256), oneAt(1024),
			mul.Square(mixed(40, 30)), mixed(70, 31), mixed(71, 32), mixed(72, 33),
		} {
			wantNone(t, f, a)
		}
		for _, noughts := range []int{1, 2, 5, 100} {
			for _, a := range []api.Nat{nil, {1}, {4}, less(p, 1), square(p, nat.Shr(p, 1)), square(p, less(p, 2)), p, more(p, 1)} {
				wantNone(t, f, loose(a, noughts))
			}
		}
		wantRoot(t, f, nil, nil)
		wantRoot(t, f, api.Nat{}, nil)
		wantIs(t, f, api.Nat{}, true)
	}
}

// Two that are no squares make one, multiplied; a square and one that is none make none, and two squares make one.
func TestProducts(t *testing.T) {
	for _, p := range primes() {
		f := made(t, p)
		numbers := below(p)
		for _, a := range numbers {
			for _, b := range numbers {
				if len(a) == 0 || len(b) == 0 {
					continue
				}
				if Is(f, f.Mul(a, b)) != (Is(f, a) == Is(f, b)) {
					t.Errorf("P13.2: a product of %x, %x, %x", p, a, b)
				}
			}
		}
	}
	for _, p := range smallPrimes(100) {
		f := made(t, api.Nat{p})
		for a := uint64(1); a < p; a++ {
			for b := uint64(1); b < p; b++ {
				if Is(f, nat.Of(a*b%p)) != (Is(f, nat.Of(a)) == Is(f, nat.Of(b))) {
					t.Errorf("P13.2: a product of %d, %d, %d", p, a, b)
				}
			}
		}
	}
}

// Half of all are squares: of small fields all are asked, of others each number and its product with the one that Miss tells.
func TestHalf(t *testing.T) {
	for _, p := range append(smallPrimes(400), 7681, 12289) {
		f := made(t, api.Nat{p})
		are, roots := uint64(0), uint64(0)
		for a := uint64(1); a < p; a++ {
			if Is(f, api.Nat{a}) {
				are++
			}
			if _, is := Root(f, api.Nat{a}); is {
				roots++
			}
		}
		if are != p/2 || roots != p/2 {
			t.Errorf("P13.2: of %d there are %d squares and %d roots", p, are, roots)
		}
	}
	for _, p := range primes() {
		f := made(t, p)
		miss, _ := Miss(f)
		for _, a := range below(p) {
			if len(a) > 0 && Is(f, a) == Is(f, f.Mul(a, miss)) {
				t.Errorf("P13.2: %x, and so many times %x, are alike by %x", a, miss, p)
			}
		}
	}
}

// squares are squares of primes, and of other numbers; of 1093 and 3511, 2 is the power of them that it is modulo their squares.
func squares() (out []api.Nat) {
	for _, a := range slices.Concat(everyday(), above(), known(), []api.Nat{
		{3}, {7}, {9}, {11}, {15}, {1093}, {3511}, {1093 * 3511}, {1006003}, {1<<32 - 1}, {all}, {1, 1}, {all, all}, {1e18 + 9, 0x1000}, mixed(2, 40),
		{0xa1fc6f1473671a69, 0xe30213b06103eb86}, {0xacf1872620e976c7, 0xa5286dd9c8bb14bc}, {0x5ffb56b58c4e4577}, {0x94709d7a85e0b3c9},
	}) {
		a[0] |= 1
		if nat.Bits(a) <= field/2 {
			out = append(out, mul.Square(a))
		}
	}
	return out
}

// products are those of two primes and of three, and powers of 3.
func products() (out []api.Nat) {
	some := slices.Concat(everyday(), above(), known(), []api.Nat{
		{3}, {7}, {11}, {31}, {0x51b5d9614cb1cef1}, {0x5ffb56b58c4e4577}, {0x94709d7a85e0b3c9}, {0xb079e274db750527},
		{0xa1fc6f1473671a69, 0xe30213b06103eb86}, {0xacf1872620e976c7, 0xa5286dd9c8bb14bc},
		{0xa8991f920e2be261, 0xa48397e89c4be5f8, 0xd18f8abb06e0365b},
	})
	for i, a := range some {
		for k, b := range some[:i] {
			two := mul.Mul(a, b)
			if nat.Bits(two) > field || i > 30 && k%4 != 0 {
				continue
			}
			out = append(out, two)
			if three := mul.Mul(two, some[(i*k+1)%len(some)]); nat.Bits(three) <= field {
				out = append(out, three)
			}
		}
	}
	power := api.Nat{9}
	for nat.Bits(power) <= field {
		out = append(out, power)
		power = mul.Mul(power, api.Nat{3})
	}
	return out
}

// passing are numbers that pass for primes to some bases, or to all that have no divisor in common with them; the last ones to as many, and each number up to 7, 23, 41 and 47 is a square modulo all primes that divide them.
func passing() []api.Nat {
	return []api.Nat{
		{341}, {561}, {645}, {1105}, {1387}, {1729}, {2047}, {2465}, {2821}, {6601}, {8911}, {10585}, {15841}, {29341}, {46657}, {162401}, {410041},
		{1373653}, {25326001}, {3215031751}, {2152302898747}, {3474749660383}, {341550071728321}, {3825123056546413051},
		{0xe92817f9fc85b7e5, 0x437a}, {0x51adc5b22410a5fd, 0x2be69},
		{0xfea603ca2690e401}, {0x23b877c4e908cea1, 0x500693e7f8e78350}, {0x234c455133554a61, 0x94d35579721a4feb, 0x6d584e4495eb8b62},
		{0x44d122ad7b0121a1, 0xbdb7c2dfa9a1d1a1, 0xfbf8d46daadf2e84, 0x68af6f3608f70b4},
	}
}

// others are odd numbers that are no primes.
func others() []api.Nat {
	return slices.Concat(squares(), products(), passing(), []api.Nat{
		{15}, {21}, {105}, {1<<32 - 1}, {1<<62 + 1}, {1<<63 - 1}, {top + 1}, {all}, {1, 1}, {all, 1}, {9, 1 << 20}, {1, 1 << 62}, {1, top}, {all, all},
		{1, 0, 1}, {all, 0, 1}, {all, all, all}, {1, 0, 0, 1}, {3, 0, 0, top}, {all, 0, 0, top}, {all, all, all, all},
	})
}

// wantSound wants of a field whose P is no prime that calls end, and that what Root tells, squared, is a.
func wantSound(t *testing.T, f *fp.Field, a api.Nat) {
	t.Helper()
	Is(f, a)
	p := f.P()
	got, is := Root(f, a)
	switch {
	case !is && len(got) != 0:
		t.Errorf("P13.1: Root of %x, %x: none, and %x", p, a, got)
	case is && (!nat.May(got) || nat.Cmp(got, p) >= 0 || !slices.Equal(square(p, got), a)):
		t.Errorf("P13.1: Root of %x, %x: %x", p, a, got)
	case is && nat.Bit(got, 0) == 1:
		t.Errorf("P13.1: Root of %x, %x: %x, not the even one", p, a, got)
	}
}

// wantEnd wants that Miss ends, too; where it tells a number, that is from 2 on and below P.
func wantEnd(t *testing.T, f *fp.Field) {
	t.Helper()
	got, is := Miss(f)
	if !is && len(got) != 0 || is && (!nat.May(got) || nat.Cmp(got, api.Nat{2}) < 0 || nat.Cmp(got, f.P()) >= 0) {
		t.Errorf("P13.1: Miss of %x: %x, %t", f.P(), got, is)
	}
}

func TestNoPrimesWhole(t *testing.T) {
	for p := uint64(9); p < 1500; p += 2 {
		if new(big.Int).SetUint64(p).ProbablyPrime(5) {
			continue
		}
		f := made(t, api.Nat{p})
		for a := range p + 3 {
			wantSound(t, f, nat.Of(a))
		}
		wantEnd(t, f)
		for _, a := range []api.Nat{{p}, {p + 1}, {p + 4}, {1, 0}, {0}, {4, 0}, {1, 1}, oneAt(256)} {
			wantNone(t, f, a)
		}
		wantRoot(t, f, nil, nil)
	}
}

func TestNoPrimes(t *testing.T) {
	for _, p := range others() {
		f := made(t, p)
		wantEnd(t, f)
		for _, a := range below(p) {
			wantSound(t, f, a)
			wantSound(t, f, square(p, a))
		}
		for _, a := range []api.Nat{{3}, {7}, {9}, {11}, {1093}, {3511}, {65537}, {all - 58}, {13, 1}, {all - 158, all}} {
			wantSound(t, f, f.Of(a))
			wantSound(t, f, f.Mul(a, mixed(3, 50)))
		}
		for _, a := range []api.Nat{p, more(p, 1), more(p, 4), oneAt(64 * len(p)), {1, 0}, {0}, loose(less(p, 1), 1), mixed(60, 51)} {
			wantNone(t, f, a)
		}
		wantRoot(t, f, nil, nil)
	}
}

// noFields are those that fp.New did not make.
func noFields() []*fp.Field {
	var blank fp.Field
	return []*fp.Field{nil, {}, new(fp.Field), &blank}
}

func TestNoField(t *testing.T) {
	for _, f := range noFields() {
		for _, a := range []api.Nat{nil, {}, {0}, {1}, {4}, {5}, {1, 0}, mixed(4, 60), mixed(100, 61), oneAt(256)} {
			wantNone(t, f, a)
		}
		if got, is := Miss(f); len(got) != 0 || is {
			t.Errorf("P13.1: Miss of no field: %x, %t", got, is)
		}
	}
}

// roomy copies a into a list with words of its own behind its end; whole is all of it.
func roomy(a api.Nat) (list, whole api.Nat) {
	whole = append(slices.Clone(a), 11, 12, 13, 14, 15, 16)
	return whole[:len(a)], whole
}

// spoil writes over a list, and over the room behind its end.
func spoil(l api.Nat) {
	l = l[:cap(l)]
	for i := range l {
		l[i] = ^l[i]
	}
}

// handed are the numbers that R3 is asked of, in a field of p.
func handed(p api.Nat) []api.Nat {
	return append(below(p), p, more(p, 1), api.Nat{0}, api.Nat{4, 0}, square(p, nat.Shr(p, 1)), loose(less(p, 1), 2), mixed(9, 70))
}

// fields are the numbers whose fields R3 is asked of.
func fields() []api.Nat {
	return slices.Concat([]api.Nat{{5}, {7}, {23}, {97}, {65537}, {9}, {15}, {1093 * 1093}, {561}}, known(), above(), passing()[20:])
}

func TestGivenStays(t *testing.T) {
	for _, p := range fields() {
		f := made(t, p)
		for _, a := range handed(p) {
			given, whole := roomy(a)
			before := slices.Clone(whole)
			Is(f, given)
			Root(f, given)
			Miss(f)
			if !slices.Equal(whole, before) {
				t.Fatalf("R3: a call of %x, %x changes what it is handed", p, a)
			}
			if !slices.Equal(f.P(), p) || !slices.Equal(f.Mul(less(p, 1), less(p, 1)), api.Nat{1}) {
				t.Fatalf("R3: a call of %x, %x changes the field", p, a)
			}
		}
	}
}

func TestAnsweredIsNew(t *testing.T) {
	for _, p := range fields() {
		f := made(t, p)
		miss, _ := Miss(f)
		want := slices.Clone(miss)
		for _, a := range handed(p) {
			given, whole := roomy(a)
			before := slices.Clone(whole)
			root, is := Root(f, given)
			wantAgain := slices.Clone(root)
			spoil(root)
			spoil(miss)
			if !slices.Equal(whole, before) {
				t.Fatalf("R3: Root of %x, %x answers what it was handed", p, a)
			}
			again, isAgain := Root(f, given)
			if !slices.Equal(again, wantAgain) || isAgain != is {
				t.Fatalf("R3: Root of %x, %x keeps what it answers", p, a)
			}
			miss, _ = Miss(f)
			if !slices.Equal(miss, want) {
				t.Fatalf("R3: Miss of %x keeps what it answers", p)
			}
			spoil(whole)
			if !slices.Equal(again, wantAgain) || !slices.Equal(miss, want) {
				t.Fatalf("R3: of %x, %x an answer is what was handed in", p, a)
			}
		}
	}
}

package seed

import (
	"bytes"
	"crypto/sha256"
	"math"
	"math/big"
	"os"
	"runtime/debug"
	"slices"
	"strconv"
	"testing"

	"caltrop/api"
	"caltrop/curve"
	"caltrop/fp"
	"caltrop/nat"
)

const all = math.MaxUint64 // a word whose bits are all 1

// TestMain lets memory be looked through less often: nearly all of it is gone at once.
func TestMain(m *testing.M) {
	debug.SetGCPercent(400)
	os.Exit(m.Run())
}

// less is a without so many; there are as many.
func less(a api.Nat, count uint64) api.Nat {
	out, _ := nat.Sub(a, nat.Of(count))
	return out
}

// more is a and so many.
func more(a api.Nat, count uint64) api.Nat { return nat.Add(a, nat.Of(count)) }

// loose is a's number in words that may not be, unless noughts is 0.
func loose(a api.Nat, noughts int) api.Nat {
	return append(slices.Clone(a), make(api.Nat, noughts)...)
}

// oneAt is 2^place.
func oneAt(place int) api.Nat {
	a := make(api.Nat, place/64+1)
	a[place/64] = 1 << (place % 64)
	return a
}

// number is a number of the library's.
func number(x uint64) *big.Int { return new(big.Int).SetUint64(x) }

// numberOf is the number of words by the words of chapter 2 alone.
func numberOf(a api.Nat) *big.Int {
	out := new(big.Int)
	for _, x := range slices.Backward(a) {
		out.Lsh(out, 64).Add(out, number(x))
	}
	return out
}

// wordsOf are the words of a number.
func wordsOf(x *big.Int) (out api.Nat) {
	for rest := new(big.Int).Set(x); rest.Sign() > 0; rest.Rsh(rest, 64) {
		out = append(out, new(big.Int).And(rest, number(all)).Uint64())
	}
	return out
}

// over is a curve of three words.
func over(p, a, b uint64) api.Curve { return api.Curve{P: nat.Of(p), A: nat.Of(a), B: nat.Of(b)} }

// fits tells whether words may be, by chapter 2.
func fits(a api.Nat) bool { return len(a) == 0 || a[len(a)-1] != 0 }

// isModulus tells whether fp.New takes a number, by the words of chapter 12.
func isModulus(p api.Nat) bool {
	x := numberOf(p)
	return fits(p) && x.Bit(0) == 1 && x.Cmp(number(5)) >= 0 && x.BitLen() <= api.MaxField
}

// errorOf is May's error by the words of chapter 16.
func errorOf(c api.Curve) api.Errno {
	p, a, b := numberOf(c.P), numberOf(c.A), numberOf(c.B)
	if !isModulus(c.P) || !fits(c.A) || !fits(c.B) || a.Cmp(p) >= 0 || b.Cmp(p) >= 0 {
		return api.ErrArg
	}
	ofA := new(big.Int).Exp(a, number(3), nil)
	bend := new(big.Int).Mul(b, b)
	bend.Add(bend.Mul(bend, number(27)), ofA.Mul(ofA, number(4)))
	if bend.Mod(bend, p).Sign() == 0 {
		return api.ErrCurve
	}
	return api.OK
}

// row makes bytes without any order to be seen in them; another seed makes another row.
func row(seed uint64) func(size int) []byte {
	return func(size int) []byte {
		out := make([]byte, size)
		for i := range out {
			seed = seed*6364136223846793005 + 1442695040888963407
			out[i] = byte(seed >> 37)
		}
		return out
	}
}

// seeded is a seed of so many bytes that has a number.
func seeded(size, number int) []byte { return row(uint64(number))(size) }

// filled are so many of one byte.
func filled(size int, x byte) []byte { return bytes.Repeat([]byte{x}, size) }

// isSeed tells whether a seed may be, by the words of the chapter.
func isSeed(s []byte) bool { return 32 <= len(s) && len(s) <= 64 }

// counted is a seed as a number, counted on, as so many bytes.
func counted(s []byte, by uint64) []byte {
	x := new(big.Int).SetBytes(s)
	x.Add(x, number(by))
	x.Mod(x, new(big.Int).Lsh(number(1), uint(8*len(s))))
	return x.FillBytes(make([]byte, len(s)))
}

// made is r by the words of P24.1: t is how many bits P has.
func made(s []byte, t int) *big.Int {
	behind := (t - 1) / 256
	v := uint(t - 256*behind)
	first := sha256.Sum256(s)
	r := new(big.Int).SetBytes(first[:])
	r.Mod(r, new(big.Int).Lsh(number(1), v))
	r.SetBit(r, int(v-1), 0)
	for i := range behind {
		next := sha256.Sum256(counted(s, uint64(i+1)))
		r.Lsh(r, 256).Add(r, new(big.Int).SetBytes(next[:]))
	}
	return r
}

// derive is what Derive answers, by the words of P24.1.
func derive(p api.Nat, s []byte) (*big.Int, api.Errno) {
	if !isModulus(p) || !isSeed(s) {
		return new(big.Int), api.ErrArg
	}
	return made(s, numberOf(p).BitLen()), api.OK
}

// curveOf is what Curve answers, by the words of P24.2.
func curveOf(p api.Nat, s []byte) (api.Curve, api.Errno) {
	r, e := derive(p, s)
	if e != api.OK {
		return api.Curve{}, e
	}
	c := api.Curve{P: p, A: wordsOf(r), B: wordsOf(r)}
	if r.Sign() == 0 || r.Cmp(numberOf(p)) >= 0 || errorOf(c) != api.OK {
		return api.Curve{}, api.ErrCurve
	}
	return c, api.OK
}

// isVerified is what Verify answers, by the words of P24.3.
func isVerified(c api.Curve, s []byte) bool {
	if errorOf(c) != api.OK || !isSeed(s) {
		return false
	}
	p, a, b := numberOf(c.P), numberOf(c.A), numberOf(c.B)
	rest := new(big.Int).Mul(b, b)
	rest.Mul(rest, made(s, p.BitLen()))
	rest.Sub(rest, new(big.Int).Exp(a, number(3), nil))
	return rest.Mod(rest, p).Sign() == 0
}

// isSame holds three numbers, word by word.
func isSame(c, d api.Curve) bool {
	return slices.Equal(c.P, d.P) && slices.Equal(c.A, d.A) && slices.Equal(c.B, d.B)
}

// wantDerive holds r, which is below P and below a power of 2; it answers r.
func wantDerive(t *testing.T, p api.Nat, s []byte) *big.Int {
	t.Helper()
	right, rightE := derive(p, s)
	got, e := Derive(p, s)
	if e != rightE || !slices.Equal(got, wordsOf(right)) {
		t.Errorf("P24.1: Derive of %v, %x: %v, error %d, not %v, error %d", p, s, got, e, right, rightE)
	}
	if e == api.OK && (numberOf(got).Cmp(numberOf(p)) >= 0 || numberOf(got).BitLen() >= numberOf(p).BitLen()) {
		t.Errorf("P24.1: Derive of %v, %x: %v is too great", p, s, got)
	}
	return right
}

// wantCurve holds what Curve answers, and that it is verified; it answers the error.
func wantCurve(t *testing.T, p api.Nat, s []byte) api.Errno {
	t.Helper()
	right, rightE := curveOf(p, s)
	got, e := Curve(p, s)
	if e != rightE || !isSame(got, right) {
		t.Errorf("P24.2: Curve of %v, %x: %v, error %d, not %v, error %d", p, s, got, e, right, rightE)
	}
	if is := Verify(got, s); is != (rightE == api.OK) {
		t.Errorf("P24.4: Curve of %v, %x: %v, error %d, and Verify of it: %t", p, s, got, e, is)
	}
	return rightE
}

// wantVerify holds what Verify answers; it answers that.
func wantVerify(t *testing.T, c api.Curve, s []byte) bool {
	t.Helper()
	right := isVerified(c, s)
	if got := Verify(c, s); got != right {
		t.Errorf("P24.3: Verify of %v, %x: %t, not %t", c, s, got, right)
	}
	return right
}

// wantNext holds a seed counted on.
func wantNext(t *testing.T, s []byte, right []byte) {
	t.Helper()
	if got := Next(s); !bytes.Equal(got, right) {
		t.Errorf("P24.3: Next of %x: %x, not %x", s, got, right)
	}
}

// lengths are how many bits a P may have, with those beside the ends of bytes and of words.
func lengths() []int {
	return []int{3, 4, 5, 6, 7, 8, 9, 15, 16, 17, 31, 32, 33, 63, 64, 65, 127, 128, 129, 191, 192, 193, 247, 248, 249, 254, 255, 256}
}

// moduli are the least and the greatest number of so many bits that may be a P, some beside them, and the least and the greatest prime.
func moduli(size int) (out []api.Nat) {
	least, most := oneAt(size-1), less(oneAt(size), 1)
	for _, p := range []api.Nat{more(least, 1), most, more(least, 3), less(most, 2), beside(least, 1), beside(oneAt(size), -1)} {
		if isModulus(p) && nat.Bits(p) == size {
			out = append(out, p)
		}
	}
	return out
}

// beside is the next prime on one side of a number.
func beside(a api.Nat, step int64) api.Nat {
	x := numberOf(a)
	for x.Add(x, big.NewInt(step)); !x.ProbablyPrime(10); {
		x.Add(x, big.NewInt(step))
	}
	return wordsOf(x)
}

// seeds are of all lengths that may be, of one byte alone, and with noughts ahead and behind.
func seeds() (out [][]byte) {
	for size := 32; size <= 64; size++ {
		out = append(out, seeded(size, size), filled(size, 0), filled(size, 255))
	}
	for _, size := range []int{32, 33, 63, 64} {
		out = append(out, append(filled(size-1, 0), 1), append([]byte{1}, filled(size-1, 0)...), append(filled(size-2, 7), 0, 0), filled(size, 1), filled(size, 128))
	}
	return out
}

// wrongSeeds may not be.
func wrongSeeds() [][]byte {
	out := [][]byte{nil, {}, {0}, {255}, filled(65, 0), filled(65, 255), filled(31, 0), filled(31, 255)}
	for _, size := range []int{1, 2, 16, 20, 30, 31, 65, 66, 96, 100, 128, 255, 256, 32 * 256, 64 * 256, 1<<16 + 32} {
		out = append(out, seeded(size, size))
	}
	return out
}

// wrongModuli are no P.
func wrongModuli() []api.Nat {
	out := []api.Nat{nil, {}, {0}, {1}, {2}, {3}, {4}, {6}, {8}, {10}, {256}, {1 << 63}, {all - 1}, {0, 1}, {2, 1}, {0, 0, 1}, {4, 5, 6}, {0, 0, 0, 1}, {all - 1, all, all, all}}
	for _, p := range []api.Nat{{5}, {7}, {all}, {13, 1}, {1, 2, 3}, {all, all, all, all}} {
		out = append(out, loose(p, 1), loose(p, 2), loose(p, 5-len(p)), append(loose(p, 4-len(p)), 1), append(loose(p, 20), 1))
	}
	for _, size := range []int{257, 258, 300, 511, 512, 513, 1023, 1024, 1025, 2048, 65536} {
		out = append(out, more(oneAt(size-1), 1), less(oneAt(size), 1), oneAt(size-1))
	}
	return append(out, more(oneAt(256), 297), make(api.Nat, 4), make(api.Nat, 300))
}

func TestExamples(t *testing.T) {
	wantNext(t, filled(32, 255), make([]byte, 32))
	short := seeded(31, 1)
	if r, e := Derive(nat.Of(7), short); e != api.ErrArg || len(r) > 0 {
		t.Errorf("Derive of a seed of 31 bytes: %v, error %d", r, e)
	}
	if c, e := Curve(nat.Of(7), short); e != api.ErrArg || !isSame(c, api.Curve{}) {
		t.Errorf("Curve of a seed of 31 bytes: %v, error %d", c, e)
	}
	for i := range 100 {
		if Verify(over(7, 0, 0), seeded(32, i)) {
			t.Error("Verify of P 7, A 0, B 0: true")
		}
	}
	// The sum of 32 noughts begins with 66687aad, and ends with 0d5f2925.
	for _, c := range []struct{ p, right uint64 }{{5, 1}, {7, 1}, {9, 5}, {29, 5}, {61, 5}, {127, 37}, {255, 37}, {257, 37}, {1<<16 + 1, 0x2925}, {1<<32 - 1, 0x0d5f2925}, {1<<28 - 1, 0x055f2925}} {
		if r, e := Derive(nat.Of(c.p), make([]byte, 32)); e != api.OK || !slices.Equal(r, nat.Of(c.right)) {
			t.Errorf("P24.1: Derive of %d, 32 noughts: %v, error %d, not %d", c.p, r, e, c.right)
		}
	}
	most := less(oneAt(256), 1)
	if r, e := Derive(most, make([]byte, 32)); e != api.OK || numberOf(r).Text(16) != "66687aadf862bd776c8fc18b8e9f8e20089714856ee233b3902a591d0d5f2925" {
		t.Errorf("P24.1: Derive of 256 bits, 32 noughts: %v, error %d", r, e)
	}
}

// TestDerive has P of all lengths that are asked for, prime or not, with seeds of all lengths.
func TestDerive(t *testing.T) {
	t.Parallel()
	for _, size := range lengths() {
		t.Run(strconv.Itoa(size), func(t *testing.T) {
			t.Parallel()
			list := moduli(size)
			if len(list) < 2 || nat.Bits(list[0]) != size || nat.Bits(list[1]) != size {
				t.Fatalf("there are not enough P of %d bits: %v", size, list)
			}
			for _, p := range list {
				for _, s := range seeds() {
					wantDerive(t, p, s)
				}
			}
		})
	}
}

// TestBits looks for sums whose highest bit, of those that are taken, is 1 and 0, for r with noughts ahead, and, where P is short, for r that are 0.
func TestBits(t *testing.T) {
	t.Parallel()
	for _, size := range lengths() {
		high, low, short, none := 0, 0, 0, 0
		p := moduli(size)[1]
		for i := range 300 {
			s := seeded(32+i%33, i)
			r := wantDerive(t, p, s)
			sum := sha256.Sum256(s)
			if new(big.Int).SetBytes(sum[:]).Bit(size-1) == 1 {
				high++
			} else {
				low++
			}
			if r.BitLen() < size-1 {
				short++
			}
			if r.Sign() == 0 {
				none++
			}
		}
		if high < 50 || low < 50 || short < 50 || size < 6 && none == 0 {
			t.Errorf("of %d bits: %d sums with the highest bit, %d without it, %d r with noughts ahead, %d r 0", size, high, low, short, none)
		}
	}
}

// TestAllLengths has a P of each length that may be.
func TestAllLengths(t *testing.T) {
	t.Parallel()
	for size := 3; size <= 256; size++ {
		for i, p := range []api.Nat{more(oneAt(size-1), 1), less(oneAt(size), 1)} {
			for k := range 4 {
				s := seeded(32+(size+k)%33, 4*size+k)
				wantDerive(t, p, s)
				if i == 0 || k == 0 {
					wantCurve(t, p, s)
				}
			}
		}
	}
}

// TestLonger holds what P24.1 says of P of more than 256 bits, which fp.New takes none of: sums of the seed and i stand behind the first one.
func TestLonger(t *testing.T) {
	t.Parallel()
	for _, s := range append(seeds(), append(filled(31, 255), 254), append(filled(30, 255), 254, 255)) {
		for _, size := range []int{1, 2, 3, 64, 255, 256, 257, 258, 264, 320, 511, 512, 513, 514, 768, 769, 1000, 1024, 1025} {
			before := slices.Clone(s)
			if got, right := derived(s, size), wordsOf(made(s, size)); !slices.Equal(got, right) || !bytes.Equal(s, before) {
				t.Errorf("P24.1: %x and %d bits: %v, not %v", s, size, got, right)
			}
		}
	}
}

// TestWrongNumbers has all P that may not be, with seeds that may be and with others.
func TestWrongNumbers(t *testing.T) {
	for _, p := range wrongModuli() {
		if isModulus(p) {
			t.Fatalf("%v may be a P", p)
		}
		for _, s := range append(seeds(), wrongSeeds()...) {
			wantDerive(t, p, s)
			if e := wantCurve(t, p, s); e != api.ErrArg {
				t.Errorf("P24.2: Curve of %v: error %d", p, e)
			}
			for _, c := range []api.Curve{{P: p}, {P: p, A: api.Nat{1}, B: api.Nat{1}}, {P: p, B: api.Nat{1}}} {
				if wantVerify(t, c, s) {
					t.Errorf("P24.3: %v is verified", c)
				}
			}
		}
	}
}

// TestWrongSeeds has all seeds that may not be, with P that may be: those of curves that are verified with all seeds that may be, too.
func TestWrongSeeds(t *testing.T) {
	for _, s := range wrongSeeds() {
		if isSeed(s) {
			t.Fatalf("a seed of %d bytes may be", len(s))
		}
		for _, size := range lengths() {
			for _, p := range moduli(size) {
				wantDerive(t, p, s)
				if e := wantCurve(t, p, s); e != api.ErrArg {
					t.Errorf("P24.2: Curve of %v, %d bytes: error %d", p, len(s), e)
				}
				r := wordsOf(made(s, size))
				for _, c := range []api.Curve{{P: p, A: r, B: r}, {P: p, A: api.Nat{1}, B: api.Nat{1}}, {P: p}} {
					if wantVerify(t, c, s) {
						t.Errorf("P24.3: %v is verified by %d bytes", c, len(s))
					}
				}
			}
		}
	}
}

// TestSeedLengths tells which lengths are ErrArg.
func TestSeedLengths(t *testing.T) {
	for size := range 130 {
		for _, s := range [][]byte{seeded(size, size), filled(size, 0), filled(size, 255)} {
			right := api.ErrArg
			if size >= 32 && size <= 64 {
				right = api.OK
			}
			if r, e := Derive(nat.Of(all), s); e != right || e != api.OK && len(r) > 0 {
				t.Errorf("P24.1: Derive of %d bytes: %v, error %d, not error %d", size, r, e, right)
			}
			if c, e := Curve(nat.Of(all), s); e != right || e != api.OK && !isSame(c, api.Curve{}) {
				t.Errorf("P24.2: Curve of %d bytes: %v, error %d, not error %d", size, c, e, right)
			}
			if c, _ := curveOf(nat.Of(all), append(s, make([]byte, 32)...)[:32]); isSame(c, api.Curve{}) {
				t.Errorf("P24.2: no curve of %d bytes to look at", size)
			}
		}
	}
}

// TestSmall has all P up to some hundreds, prime or not, with some hundreds of seeds each. There are curves, r 0, and r whose curve may not be.
func TestSmall(t *testing.T) {
	t.Parallel()
	none, bent := 0, 0
	for p := uint64(5); p < 400; p += 2 {
		seen := map[api.Errno]int{}
		for i := range 250 {
			s := seeded(32+i%33, int(p)*1000+i)
			r := wantDerive(t, nat.Of(p), s)
			e := wantCurve(t, nat.Of(p), s)
			seen[e]++
			switch {
			case e == api.OK:
			case r.Sign() == 0:
				none++
			default:
				bent++
			}
		}
		if seen[api.OK] < 50 || p < 20 && seen[api.ErrCurve] == 0 || len(seen) > 2 {
			t.Errorf("of %d: %v", p, seen)
		}
	}
	if none < 500 || bent < 500 {
		t.Errorf("there are %d r 0, and %d whose curve may not be", none, bent)
	}
}

// TestBent looks for seeds with all r whose curve may not be, over small primes and over P that are no primes: multiples of squares among them, where r r or 4 r^3 + 27 r^2 leaves 0.
func TestBent(t *testing.T) {
	t.Parallel()
	for _, p := range []uint64{5, 7, 9, 11, 13, 15, 17, 19, 21, 23, 25, 27, 31, 35, 45, 49, 63, 75, 81, 99, 121, 125, 135, 147, 169, 175, 189, 225, 243, 245, 255, 289, 315, 343, 361, 405, 441, 625, 675, 729, 841, 1225, 2025, 2187, 3125, 3969} {
		bent, seen := map[uint64]bool{0: true}, map[uint64]bool{}
		for r := uint64(1); r < 1<<(number(p).BitLen()-1); r++ {
			bent[r] = errorOf(over(p, r, r)) == api.ErrCurve
		}
		for i := range 30000 {
			s := seeded(32+i%33, i)
			r := made(s, number(p).BitLen()).Uint64()
			if !bent[r] || seen[r] {
				continue
			}
			seen[r] = true
			if e := wantCurve(t, nat.Of(p), s); e != api.ErrCurve {
				t.Errorf("P24.2: Curve of %d with r %d: error %d", p, r, e)
			}
			if wantVerify(t, over(p, r%p, r%p), s) {
				t.Errorf("P24.3: of %d with r %d is verified", p, r)
			}
		}
		for r, is := range bent {
			if is && !seen[r] {
				t.Errorf("of %d no seed has r %d", p, r)
			}
		}
	}
}

// TestCurve has P of all lengths, with seeds of all lengths.
func TestCurve(t *testing.T) {
	t.Parallel()
	for _, size := range lengths() {
		t.Run(strconv.Itoa(size), func(t *testing.T) {
			t.Parallel()
			for _, p := range moduli(size) {
				for _, s := range seeds() {
					if e := wantCurve(t, p, s); e != api.OK && size > 17 {
						t.Errorf("P24.2: Curve of %v, %x: error %d", p, s, e)
					}
				}
			}
		})
	}
}

// TestVerifyAll holds all curves of small P, those that may not be, too, against the words of the chapter, with a seed of each r that there may be.
func TestVerifyAll(t *testing.T) {
	t.Parallel()
	for _, p := range []uint64{5, 7, 9, 11, 13, 15, 17, 19, 21, 23, 25, 27, 33, 35, 37, 45, 49} {
		t.Run(strconv.FormatUint(p, 10), func(t *testing.T) {
			t.Parallel()
			seen, yes := map[uint64]bool{}, 0
			for i := range 1000 {
				s := seeded(32+i%33, i)
				if r := made(s, number(p).BitLen()).Uint64(); !seen[r] {
					seen[r] = true
					for a := range p {
						for b := range p {
							if wantVerify(t, over(p, a, b), s) {
								yes++
							}
						}
					}
				}
			}
			if len(seen) != 1<<(number(p).BitLen()-1) || yes < len(seen) {
				t.Errorf("of %d there are %d r, and %d curves that are verified", p, len(seen), yes)
			}
		})
	}
}

// TestNought has seeds with r 0, with which A 0 is verified with any B that may be, and others, with which A 0 or B 0 is not over a prime.
func TestNought(t *testing.T) {
	t.Parallel()
	for _, p := range []uint64{5, 7, 11, 13, 17, 31, 61, 101, 251} {
		none, some := 0, 0
		for i := range 2000 {
			s := seeded(32+i%33, i)
			r := made(s, number(p).BitLen()).Uint64()
			if r == 0 && none > 2 || r > 0 && some > 40 {
				continue
			}
			if r == 0 {
				none++
			} else {
				some++
			}
			for x := uint64(1); x < p; x++ {
				if is := wantVerify(t, over(p, 0, x), s); is != (r == 0) {
					t.Errorf("P24.3: P %d, r %d, A 0, B %d: %t", p, r, x, is)
				}
				if wantVerify(t, over(p, x, 0), s) {
					t.Errorf("P24.3: P %d, r %d, A %d, B 0 is verified", p, r, x)
				}
			}
			if wantVerify(t, over(p, 0, 0), s) {
				t.Errorf("P24.3: P %d, r %d, A 0, B 0 is verified", p, r)
			}
		}
		if none == 0 || some < 20 {
			t.Errorf("of %d there are %d seeds with r 0, and %d others", p, none, some)
		}
	}
}

// scaled is the curve of A u^2 and B u^3.
func scaled(c api.Curve, u *big.Int) api.Curve {
	p := numberOf(c.P)
	square := new(big.Int).Mul(u, u)
	a := new(big.Int).Mul(numberOf(c.A), square)
	b := new(big.Int).Mul(numberOf(c.B), new(big.Int).Mul(u, square))
	return api.Curve{P: c.P, A: wordsOf(a.Mod(a, p)), B: wordsOf(b.Mod(b, p))}
}

// TestScaled holds the curves of A u^2 and B u^3 for all u of small P: each u that has an inverse leads to a curve that is verified.
func TestScaled(t *testing.T) {
	t.Parallel()
	with, without := 0, 0
	for p := uint64(5); p < 130; p += 2 {
		for i := range 12 {
			s := seeded(32+i%33, i)
			c, e := Curve(nat.Of(p), s)
			if e != api.OK {
				continue
			}
			for u := uint64(0); u <= p+2; u++ {
				is := wantVerify(t, scaled(c, number(u)), s)
				if new(big.Int).GCD(nil, nil, number(u), number(p)).Cmp(number(1)) != 0 {
					without++
					continue
				}
				with++
				if !is {
					t.Errorf("P24.4: %v is not verified with u %d", c, u)
				}
			}
		}
	}
	if with < 5000 || without < 1000 {
		t.Errorf("%d u have an inverse, and %d have none", with, without)
	}
}

// TestScaledLong has some u over long P, prime or not.
func TestScaledLong(t *testing.T) {
	t.Parallel()
	for _, size := range []int{17, 33, 63, 64, 65, 128, 129, 192, 193, 255, 256} {
		for i, p := range moduli(size) {
			s := seeded(32+(size+i)%33, size)
			c, e := Curve(p, s)
			if e != api.OK {
				t.Fatalf("P24.2: Curve of %v, %x: error %d", p, s, e)
			}
			for k := range 40 {
				u := new(big.Int).SetBytes(seeded(40, k))
				if k < 10 {
					u.SetUint64(uint64(k + 1))
				}
				if k >= 10 && k < 20 {
					u.Sub(numberOf(p), number(uint64(k-9)))
				}
				is := wantVerify(t, scaled(c, u), s)
				if new(big.Int).GCD(nil, nil, u, numberOf(p)).Cmp(number(1)) == 0 && !is {
					t.Errorf("P24.4: %v is not verified with u %v", c, u)
				}
			}
		}
	}
}

// TestNearly has what is verified, with another seed, with each bit of the seed turned, with a byte more and a byte less, and with A or B one more or one less.
func TestNearly(t *testing.T) {
	t.Parallel()
	for _, size := range []int{63, 64, 65, 128, 192, 193, 255, 256} {
		for i, p := range moduli(size) {
			s := seeded(32+(3*size+i)%33, size+i)
			r, _ := Curve(p, s)
			c := scaled(r, number(uint64(size)))
			for _, c := range []api.Curve{r, c} {
				if !wantVerify(t, c, s) {
					t.Errorf("P24.4: %v is not verified", c)
				}
				others := [][]byte{Next(s), seeded(32, 99), append(slices.Clone(s), 0), append(slices.Clone(s), s[0]), s[:len(s)-1], s[1:], append([]byte{0}, s...)}
				for bit := range 8 * len(s) {
					turned := slices.Clone(s)
					turned[bit/8] ^= 1 << (bit % 8)
					others = append(others, turned)
				}
				for _, other := range others {
					if wantVerify(t, c, other) {
						t.Errorf("P24.3: %v is verified by %x, too", c, other)
					}
				}
				for _, d := range []api.Curve{{P: p, A: more(c.A, 1), B: c.B}, {P: p, A: c.A, B: more(c.B, 1)}, {P: p, A: less(c.A, 1), B: c.B}, {P: p, A: c.A, B: less(c.B, 1)}, {P: p, A: c.A}, {P: p, B: c.B}, {P: p, A: c.B, B: less(p, 1)}} {
					if wantVerify(t, d, s) {
						t.Errorf("P24.3: %v is verified, too", d)
					}
				}
			}
		}
	}
}

// refused are curves that may not be.
func refused() (out []api.Curve) {
	for _, p := range []api.Nat{{7}, {13}, {15}, {all - 58}, {13, 1}, {all - 188, all, all, all}, {all, all, all, all}} {
		s := seeded(32, 1)
		r, _ := curveOf(p, s)
		out = append(out, api.Curve{P: p}, api.Curve{P: p, A: less(p, 3), B: api.Nat{2}}, api.Curve{P: p, A: less(p, 3), B: less(p, 2)}) // 4 A^3 is -108, and 27 B^2 is 108
		for _, x := range []api.Nat{p, more(p, 1), nat.Shl(p, 1), nat.Add(p, r.A), loose(r.A, 1), loose(r.B, 3), {0}, {1, 0}, loose(p, 1), append(loose(p, 5-len(p)), 1), make(api.Nat, 300)} {
			out = append(out, api.Curve{P: p, A: x, B: r.B}, api.Curve{P: p, A: r.A, B: x}, api.Curve{P: p, A: x, B: x})
		}
		for _, x := range []api.Nat{nil, {0}, {1}, {2}, {3}, {4}, more(p, 1), loose(p, 1), loose(p, 4), nat.Shl(p, 300), append(loose(p, 4-len(p)), 1), oneAt(256), more(oneAt(256), 1), {1, 2, 3, 4, 5}} {
			out = append(out, api.Curve{P: x, A: r.A, B: r.B}, api.Curve{P: x, A: api.Nat{1}, B: api.Nat{1}}, api.Curve{P: x})
		}
	}
	return append(out, api.Curve{}, over(9, 0, 1), over(9, 3, 3), over(25, 15, 10), over(27, 3, 0), over(81, 9, 9), over(23, 22, 22), over(31, 1, 1), over(5, 0, 0), over(5, 2, 2), over(61, 0, 0))
}

// TestRefused has curves that may not be, of each kind, with seeds of all kinds: nothing verifies them.
func TestRefused(t *testing.T) {
	seen := map[api.Errno]int{}
	for _, c := range refused() {
		right := errorOf(c)
		if e := curve.May(c); e != right {
			t.Errorf("P16.1: May of %v: error %d, not %d", c, e, right)
		}
		seen[right]++
		for _, s := range append(seeds(), wrongSeeds()...) {
			if wantVerify(t, c, s) {
				t.Errorf("P24.3: %v is verified", c)
			}
		}
	}
	if seen[api.OK] > 0 || seen[api.ErrArg] < 100 || seen[api.ErrCurve] < 20 {
		t.Errorf("of how many curves there is which error: %v", seen)
	}
}

// TestRefusedRight has what would be verified but for its words, or since it is not below P.
func TestRefusedRight(t *testing.T) {
	for _, p := range []api.Nat{{31}, {255}, {all - 58}, {all, 1}, {all - 188, all, all, all}} {
		s := seeded(40, 3)
		for i := 4; wantCurve(t, p, s) != api.OK; i++ {
			s = seeded(40, i)
		}
		c, _ := curveOf(p, s)
		if !wantVerify(t, c, s) {
			t.Fatalf("P24.4: %v is not verified", c)
		}
		for _, d := range []api.Curve{{P: loose(p, 1), A: c.A, B: c.B}, {P: p, A: loose(c.A, 1), B: c.B}, {P: p, A: c.A, B: loose(c.B, 2)}, {P: p, A: nat.Add(c.A, p), B: c.B}, {P: p, A: c.A, B: nat.Add(c.B, p)}, {P: nat.Shl(p, 1), A: c.A, B: c.B}} {
			if wantVerify(t, d, s) {
				t.Errorf("P24.3: %v is verified", d)
			}
		}
	}
}

// TestNext holds bytes of all lengths and endings.
func TestNext(t *testing.T) {
	if got := Next(nil); len(got) > 0 {
		t.Errorf("P24.3: Next of nil: %x", got)
	}
	wantNext(t, []byte{}, nil)
	for x := range 256 {
		wantNext(t, []byte{byte(x)}, []byte{byte(x + 1)})
		wantNext(t, []byte{byte(x), 254}, []byte{byte(x), 255})
		wantNext(t, []byte{byte(x), 255}, []byte{byte(x + 1), 0})
		wantNext(t, append([]byte{7, byte(x)}, filled(40, 255)...), append([]byte{7 + byte((x+1)/256), byte(x + 1)}, make([]byte, 40)...))
	}
	for size := 1; size <= 100; size++ {
		wantNext(t, filled(size, 255), make([]byte, size))
		wantNext(t, make([]byte, size), append(make([]byte, size-1), 1))
		for ends := range size + 1 {
			s := append(seeded(size-ends, size), filled(ends, 255)...)
			wantNext(t, s, counted(s, 1))
		}
	}
	for _, size := range []int{63, 64, 65, 66, 128, 255, 256, 257, 1000, 65536} {
		for i := range 20 {
			s := seeded(size, i)
			wantNext(t, s, counted(s, 1))
		}
		wantNext(t, filled(size, 255), make([]byte, size))
	}
}

// TestNextAgain counts on many times, so that all bytes behind the first ones go round.
func TestNextAgain(t *testing.T) {
	for _, s := range [][]byte{{0}, {200}, make([]byte, 2), filled(2, 255), seeded(3, 1), append(seeded(29, 1), 255, 255, 250), filled(32, 255), make([]byte, 32), seeded(64, 2), append(filled(1, 9), filled(64, 255)...)} {
		got := s
		for i := 1; i <= 1<<16+300; i++ {
			got = Next(got)
			if i == 1 || i == 255 || i == 256 || i == 257 || i >= 1<<16-1 && i <= 1<<16+1 || i == 1<<16+300 {
				if right := counted(s, uint64(i)); !bytes.Equal(got, right) {
					t.Errorf("P24.3: Next, %d times, of %x: %x, not %x", i, s, got, right)
				}
			}
		}
	}
}

// TestNextIsCopy hands in bytes with room behind: they and the room stay, and an answer has no memory of theirs.
func TestNextIsCopy(t *testing.T) {
	for size := range 100 {
		for _, s := range [][]byte{seeded(size, size), filled(size, 255), filled(size, 0)} {
			in := append(slices.Clone(s), 1, 2, 3, 4, 5)
			before := slices.Clone(in)
			one, two := Next(in[:size]), Next(in[:size])
			right := slices.Clone(one)
			for i := range one[:cap(one)] {
				one[:cap(one)][i] ^= 85
			}
			if !bytes.Equal(in, before) || !bytes.Equal(two, right) {
				t.Errorf("R3: Next of %x has memory of what was handed in, or of another answer", s)
			}
			for i := range in {
				in[i] ^= 85
			}
			if !bytes.Equal(two, right) {
				t.Errorf("R3: Next of %x keeps what was handed in", s)
			}
		}
	}
}

// TestAnyWords has words of all kinds in all places, with seeds of all kinds: nothing panics, and all answers are by the words of the chapter.
func TestAnyWords(t *testing.T) {
	t.Parallel()
	lists := []api.Nat{nil, {}, {0}, {1}, {2}, {5}, {7}, {9}, {1, 0}, {61}, {1009}, {1<<60 - 1}, {all}, {all - 58}, {all, all, all, all}, append(make(api.Nat, 4), 1), append(make(api.Nat, 300), 7), make(api.Nat, 300)}
	for i, p := range lists {
		for k, s := range [][]byte{nil, {}, {1}, seeded(31, i), seeded(32, i), seeded(40+i, i), seeded(64, i), seeded(65, i), make([]byte, 1000)} {
			wantDerive(t, p, s)
			wantCurve(t, p, s)
			wantNext(t, s, counted(s, uint64(min(len(s), 1))))
			for _, a := range lists {
				wantVerify(t, api.Curve{P: p, A: a, B: lists[(i+k)%len(lists)]}, s)
				wantVerify(t, api.Curve{P: p, A: a, B: a}, s)
			}
		}
	}
}

// asked is what all calls may be asked with.
type asked struct {
	c    api.Curve
	seed []byte
}

// questions are many that have answers, and some that have none.
func questions() (out []asked) {
	for i, p := range []api.Nat{nil, {3}, {5}, {7}, {9}, {15}, {17}, {105}, {255}, {257}, {65521}, {1<<31 - 1}, {1<<40 - 87}, {1<<63 - 25}, {all}, {13, 1}, {all, all}, {1, 0, 1}, {all - 188, all, all, all}, {all, all, all, all}, {1, 0, 0, 0, 1}, {7, 0}} {
		for k, s := range [][]byte{nil, seeded(31, i), seeded(32, i), seeded(33+i, i), seeded(64, i), filled(48, 255), filled(65, 255)} {
			r := wordsOf(made(s, max(1, numberOf(p).BitLen())))
			out = append(out, asked{api.Curve{P: p, A: r, B: r}, s}, asked{api.Curve{P: p, A: api.Nat{1}, B: nat.Of(uint64(k))}, s})
		}
	}
	return out
}

// answers are those of all calls.
type answers struct {
	r            api.Nat
	c            api.Curve
	next         []byte
	is           bool
	rError, cErr api.Errno
}

func (q asked) answered() (out answers) {
	out.r, out.rError = Derive(q.c.P, q.seed)
	out.c, out.cErr = Curve(q.c.P, q.seed)
	out.is = Verify(q.c, q.seed)
	out.next = Next(q.seed)
	return out
}

// lists are an answer's lists of words.
func (a *answers) lists() []*api.Nat { return []*api.Nat{&a.r, &a.c.P, &a.c.A, &a.c.B} }

// copied are the same in memory of their own.
func (a answers) copied() answers {
	for _, x := range a.lists() {
		*x = slices.Clone(*x)
	}
	a.next = slices.Clone(a.next)
	return a
}

func (a answers) isSame(b answers) bool {
	return slices.Equal(a.r, b.r) && isSame(a.c, b.c) && bytes.Equal(a.next, b.next) && a.is == b.is && a.rError == b.rError && a.cErr == b.cErr
}

// lists are the curve's numbers.
func (q *asked) lists() []*api.Nat { return []*api.Nat{&q.c.P, &q.c.A, &q.c.B} }

// roomy is the same in memory of its own, with room behind the end of each list.
func (q asked) roomy() asked {
	for _, x := range q.lists() {
		*x = append(slices.Clone(*x), 11, 12, 13, 14, 15)[:len(*x)]
	}
	q.seed = append(slices.Clone(q.seed), bytes.Repeat([]byte{7, 8, 9}, 20)...)[:len(q.seed)]
	return q
}

// whole is all that is handed in, up to the end of its room, in memory of its own.
func (q asked) whole() asked {
	for _, x := range q.lists() {
		*x = slices.Clone((*x)[:cap(*x)])
	}
	q.seed = slices.Clone(q.seed[:cap(q.seed)])
	return q
}

func (q asked) isSame(other asked) bool {
	return isSame(q.c, other.c) && bytes.Equal(q.seed, other.seed)
}

// spoil makes other words and bytes of all that is handed in, and of its room.
func (q asked) spoil() {
	for _, x := range q.lists() {
		for i := range (*x)[:cap(*x)] {
			(*x)[:cap(*x)][i] ^= all
		}
	}
	for i := range q.seed[:cap(q.seed)] {
		q.seed[:cap(q.seed)][i] ^= 255
	}
}

// wantSame holds what was answered.
func wantSame(t *testing.T, q asked, right answers) {
	t.Helper()
	if got := q.answered(); !got.isSame(right) {
		t.Errorf("R5: of %v: %v, not %v", q, got, right)
	}
}

// TestNothingBeside holds that with an error all other answers are nothing.
func TestNothingBeside(t *testing.T) {
	wrong := 0
	for _, q := range questions() {
		a := q.answered()
		if a.rError != api.OK && len(a.r) > 0 || a.cErr != api.OK && !isSame(a.c, api.Curve{}) {
			t.Errorf("R2: of %v: %v", q, a)
		}
		if a.rError != api.OK && a.cErr != a.rError {
			t.Errorf("P24.2: of %v: error %d, and of Derive %d", q, a.cErr, a.rError)
		}
		if a.cErr != api.OK {
			wrong++
		}
	}
	if wrong < 50 {
		t.Errorf("there are %d errors alone", wrong)
	}
}

// TestGivenStays holds R3 of what is handed in, the room behind a list's end too.
func TestGivenStays(t *testing.T) {
	for _, q := range questions() {
		in := q.roomy()
		before := in.whole()
		wantSame(t, in, q.answered())
		if got := in.whole(); !got.isSame(before) {
			t.Errorf("R3: of %v: what was handed in became %v", q, got)
		}
	}
}

// TestNothingKept spoils what was handed in, and asks again.
func TestNothingKept(t *testing.T) {
	for _, q := range questions() {
		in := q.roomy()
		got := in.answered()
		right := got.copied()
		in.spoil()
		in.answered()
		if !got.isSame(right) {
			t.Errorf("R3: of %v: an answer became another one", q)
		}
		wantSame(t, q, right)
	}
}

// TestAnsweredIsNew spoils each list of an answer, and the room behind its end: neither the answer's other lists nor another answer nor what was handed in become other ones.
func TestAnsweredIsNew(t *testing.T) {
	for _, q := range questions() {
		in := q.roomy()
		before := in.whole()
		one, two := in.answered(), in.answered()
		right := one.copied()
		for i, x := range one.lists() {
			for k := range (*x)[:cap(*x)] {
				(*x)[:cap(*x)][k] ^= all
			}
			for k, y := range one.lists() {
				if k > i && !slices.Equal(*y, *right.lists()[k]) {
					t.Errorf("R3: of %v: an answer's lists share memory", q)
				}
			}
		}
		for k := range one.next[:cap(one.next)] {
			one.next[:cap(one.next)][k] ^= 255
		}
		if !two.isSame(right) || !in.whole().isSame(before) {
			t.Errorf("R3: of %v: an answer has memory of another one, or of what was handed in", q)
		}
		wantSame(t, in, right)
	}
}

// TestSharedMemory hands in numbers that share memory with each other.
func TestSharedMemory(t *testing.T) {
	for _, p := range []api.Nat{{5}, {7}, {67}, {105}, {1<<31 - 1}, {13, 1}, {all, all}, {all, all, all, all}} {
		x := less(p, 1)
		s := seeded(32, 5)
		before := slices.Clone(x)
		right := asked{api.Curve{P: slices.Clone(p), A: slices.Clone(x), B: slices.Clone(x)}, s}.answered()
		wantSame(t, asked{api.Curve{P: p, A: x, B: x}, s}, right)
		if !slices.Equal(x, before) {
			t.Errorf("R3: what was handed in became %v", x)
		}
		if Verify(api.Curve{P: p, A: p, B: p}, s) {
			t.Errorf("P24.3: P, A and B %v are verified", p)
		}
	}
}

// TestSameAgain asks all in an order, and again in other ones.
func TestSameAgain(t *testing.T) {
	list := questions()
	right := make([]answers, len(list))
	for i, q := range list {
		right[i] = q.answered()
	}
	for _, step := range []int{len(list) - 1, 5} {
		for i := range list {
			k := i * step % len(list)
			wantSame(t, list[k], right[k])
		}
	}
}

// TestTaken holds which numbers Derive takes against fp.New.
func TestTaken(t *testing.T) {
	lists := wrongModuli()
	for _, size := range lengths() {
		lists = append(lists, moduli(size)...)
	}
	for n := range uint64(300) {
		lists = append(lists, nat.Of(n), api.Nat{n, 1}, api.Nat{n, 0})
	}
	for _, p := range lists {
		_, right := fp.New(p)
		if _, e := Derive(p, make([]byte, 32)); e != right || isModulus(p) != (e == api.OK) {
			t.Errorf("P24.1: Derive of %v: error %d, and New of it: error %d", p, e, right)
		}
	}
}

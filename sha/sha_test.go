package sha

import (
	"bytes"
	"crypto/sha256"
	"encoding"
	"encoding/binary"
	"encoding/hex"
	"math"
	"math/big"
	"slices"
	"strings"
	"testing"

	"caltrop/api"
)

const all = math.MaxUint64 // a word whose bits are all 1

// mixed is so many bytes without any order to be seen in them; another seed makes other ones.
func mixed(count int, seed uint64) []byte {
	b := make([]byte, count)
	x := seed
	for i := range b {
		x = x*6364136223846793005 + 1442695040888963407
		b[i] = byte(x >> 56)
	}
	return b
}

// filled is so many bytes, each the same one.
func filled(count int, x byte) []byte { return bytes.Repeat([]byte{x}, count) }

// edges are the lengths about which a message's last block is come to.
func edges() []int {
	return []int{0, 1, 2, 54, 55, 56, 57, 62, 63, 64, 65, 66, 118, 119, 120, 121, 126, 127, 128, 129, 183, 184, 191, 192, 193}
}

// messages are those of the lengths, of bytes of each kind.
func messages(lengths ...int) [][]byte {
	var out [][]byte
	for _, length := range lengths {
		out = append(out, mixed(length, uint64(length)), filled(length, 0), filled(length, 255), filled(length, 0x80))
	}
	return out
}

// primes are so many, from 2 on, found by trying.
func primes(count int) []uint64 {
	var out []uint64
	for n := uint64(2); len(out) < count; n++ {
		if !slices.ContainsFunc(out, func(p uint64) bool { return n%p == 0 }) {
			out = append(out, n)
		}
	}
	return out
}

// unhex is the sum that is written so.
func unhex(t *testing.T, text string) (sum [32]byte) {
	t.Helper()
	b, err := hex.DecodeString(strings.ReplaceAll(text, " ", ""))
	if err != nil || len(b) != len(sum) {
		t.Fatal("no sum:", text)
	}
	copy(sum[:], b)
	return sum
}

// wantOK writes.
func wantOK(t *testing.T, h *Hash, b []byte) {
	t.Helper()
	if e := h.Write(b); e != api.OK {
		t.Errorf("P7.3: Write of %d bytes: %v", len(b), e)
	}
}

// wantSum asks a hash to which that was written; twice, since asking changes nothing.
func wantSum(t *testing.T, h *Hash, written []byte, call string) {
	t.Helper()
	want := sha256.Sum256(written)
	for range 2 {
		if got := h.Sum(); got != want {
			t.Fatalf("%s: of %d bytes %x, not %x", call, len(written), got, want)
		}
	}
}

// wantFraction holds an answer against what the chapter says of it, in numbers of the library: 2^32 times the root is not below whole, and less than whole and one.
func wantFraction(t *testing.T, p uint64, third bool) {
	t.Helper()
	k := int64(2)
	if third {
		k = 3
	}
	number := new(big.Int).Lsh(new(big.Int).SetUint64(p), uint(32*k))
	power := func(n *big.Int) *big.Int { return new(big.Int).Exp(n, big.NewInt(k), nil) }
	whole := new(big.Int)
	for place := 64; place >= 0; place-- {
		if tried := new(big.Int).SetBit(whole, place, 1); power(tried).Cmp(number) <= 0 {
			whole = tried
		}
	}
	want := uint32(whole.Uint64())
	if got := Fraction(p, third); got != want {
		t.Errorf("P7.1: Fraction of %d, %v: %08x, not %08x", p, third, got, want)
	}
}

func TestExamples(t *testing.T) {
	if x := Fraction(2, false); x != 0x6a09e667 {
		t.Errorf("P7.1: Fraction of 2, square: %08x", x)
	}
	if x := Fraction(3, true); x != 0x71374491 {
		t.Errorf("P7.1: Fraction of 3, cube: %08x", x)
	}
	for _, c := range []struct{ message, sum string }{
		{"", "e3b0c442 98fc1c14 9afbf4c8 996fb924 27ae41e4 649b934c a495991b 7852b855"},
		{"abc", "ba7816bf 8f01cfea 414140de 5dae2223 b00361a3 96177a9c b410ff61 f20015ad"},
	} {
		if got := Sum([]byte(c.message)); got != unhex(t, c.sum) {
			t.Errorf("P7.2: Sum of %q: %x", c.message, got)
		}
	}
}

func TestFractionWrittenOut(t *testing.T) {
	for _, c := range []struct {
		p     uint64
		third bool
		want  uint32
	}{
		{0, false, 0}, {1, false, 0}, {4, false, 0}, {9, false, 0}, {100, false, 0}, {1 << 32, false, 0}, {1 << 62, false, 0},
		{1<<64 - 1<<33 + 1, false, 0},
		{0, true, 0}, {1, true, 0}, {8, true, 0}, {27, true, 0}, {1000, true, 0}, {1 << 63, true, 0},
		{18446724184312856125, true, 0}, // 2642245 times itself, twice
		{3, false, 0xbb67ae85}, {5, false, 0x3c6ef372}, {19, false, 0x5be0cd19},
		{2, true, 0x428a2f98}, {5, true, 0xb5c0fbcf}, {311, true, 0xc67178f2},
		{8, false, 0xd413cccf}, // twice the root of 2
		{16, true, 0x85145f31}, // twice the cube root of 2
		{all, false, 0xffffffff},
		{1<<64 - 1<<33, false, 0xffffffff},
	} {
		if got := Fraction(c.p, c.third); got != c.want {
			t.Errorf("P7.1: Fraction of %d, %v: %08x, not %08x", c.p, c.third, got, c.want)
		}
	}
}

func TestFractionOfSmall(t *testing.T) {
	for p := range uint64(2000) {
		wantFraction(t, p, false)
		wantFraction(t, p, true)
	}
}

// Of squares and of cubes there is nothing behind the point; of what stands about them there is little, or nearly all.
func TestFractionAboutPowers(t *testing.T) {
	var roots []uint64
	for place := range 32 {
		roots = append(roots, 1<<place-1, 1<<place, 1<<place+1)
	}
	roots = append(roots, 10, 1000, 1000000, 2642244, 2642245, 65521, 4294967295, 3037000499, 3037000500)
	for _, n := range roots {
		ps := []uint64{n * n}
		if n <= 2642245 {
			ps = append(ps, n*n*n)
		}
		for k, p := range ps {
			if x := Fraction(p, k == 1); x != 0 {
				t.Errorf("P7.1: Fraction of %d, %v: %08x", p, k == 1, x)
			}
			for _, third := range []bool{false, true} {
				wantFraction(t, p-1, third)
				wantFraction(t, p, third)
				wantFraction(t, p+1, third)
			}
		}
	}
}

func TestFractionOfGreat(t *testing.T) {
	for off := range uint64(300) {
		for _, third := range []bool{false, true} {
			wantFraction(t, all-off, third)
			wantFraction(t, 1<<63+off, third)
			wantFraction(t, 1<<63-off, third)
			wantFraction(t, 1<<32+off, third)
			wantFraction(t, 1<<32-off, third)
			wantFraction(t, off*0x9e3779b97f4a7c15, third)
		}
	}
}

func TestConstants(t *testing.T) {
	first, steps := Constants()
	for i, p := range primes(len(steps)) {
		if i < len(first) && first[i] != Fraction(p, false) {
			t.Errorf("P7.1: Constants: first %d is %08x", i, first[i])
		}
		if steps[i] != Fraction(p, true) {
			t.Errorf("P7.1: Constants: step %d is %08x", i, steps[i])
		}
	}
}

func TestSumWrittenOut(t *testing.T) {
	for _, c := range []struct{ message, sum string }{
		{"a", "ca978112 ca1bbdca fac231b3 9a23dc4d a786eff8 147c4e72 b9807785 afee48bb"},
		{"\x00", "6e340b9c ffb37a98 9ca544e6 bb780a2c 78901d3f b3373876 8511a306 17afa01d"},
		{"abcdbcdecdefdefgefghfghighijhijkijkljklmklmnlmnomnopnopq", "248d6a61 d20638b8 e5c02693 0c3e6039 a33ce459 64ff2167 f6ecedd4 19db06c1"},
		{"abcdefghbcdefghicdefghijdefghijkefghijklfghijklmghijklmnhijklmnoijklmnopjklmnopqklmnopqrlmnopqrsmnopqrstnopqrstu", "cf5b16a7 78af8380 036ce59e 7b049237 0b249b11 e8f07a51 afac4503 7afee9d1"},
		{strings.Repeat("a", 1000000), "cdc76e5c 9914fb92 81a1c7e2 84d73e67 f1809a48 a497200e 046d39cc c7112cd0"},
	} {
		if got := Sum([]byte(c.message)); got != unhex(t, c.sum) {
			t.Errorf("P7.2: Sum of %.20q: %x", c.message, got)
		}
	}
}

func TestSumOfEachLength(t *testing.T) {
	for length := range 700 {
		for _, m := range messages(length) {
			if got, want := Sum(m), sha256.Sum256(m); got != want {
				t.Fatalf("P7.2: Sum of %x: %x, not %x", m, got, want)
			}
		}
	}
}

func TestSumOfNothing(t *testing.T) {
	if Sum(nil) != Sum([]byte{}) || Sum(nil) != sha256.Sum256(nil) {
		t.Error("P7.2: Sum of nothing")
	}
}

func TestSumOfMany(t *testing.T) {
	for _, m := range messages(4095, 4096, 4097, 65535, 100000, 1<<20, 3<<20+55, 3<<20+56) {
		if Sum(m) != sha256.Sum256(m) {
			t.Errorf("P7.2: Sum of %d bytes, the first %x", len(m), m[0])
		}
	}
}

// Each bit of a message, that is changed, changes the sum as it does the library's.
func TestSumOfEachBit(t *testing.T) {
	m := mixed(130, 1)
	for i := range 8 * len(m) {
		m[i/8] ^= 1 << (i % 8)
		if Sum(m) != sha256.Sum256(m) {
			t.Errorf("P7.2: Sum with bit %d turned", i)
		}
		m[i/8] ^= 1 << (i % 8)
	}
}

// A length whose bits need more than 4 bytes: both hashes are told that so much was written, which takes too long to do.
func TestSumOfGreatLength(t *testing.T) {
	m := mixed(64+30, 2)
	for _, length := range []uint64{1 << 28, 1<<29 - 64, 1 << 29, 1<<29 + 64, 1 << 30, 1<<31 - 128, 1 << 40, 1 << 60} {
		h := New()
		wantOK(t, h, m)
		h.length += length
		library := sha256.New()
		library.Write(m)
		state, err := library.(encoding.BinaryMarshaler).MarshalBinary()
		if err != nil {
			t.Fatal(err)
		}
		end := state[len(state)-8:]
		binary.BigEndian.PutUint64(end, binary.BigEndian.Uint64(end)+length)
		if err := library.(encoding.BinaryUnmarshaler).UnmarshalBinary(state); err != nil {
			t.Fatal(err)
		}
		if got := h.Sum(); !bytes.Equal(got[:], library.Sum(nil)) {
			t.Errorf("P7.3: Sum of %d bytes more: %x, not %x", length, got, library.Sum(nil))
		}
	}
}

func TestNothingWritten(t *testing.T) {
	h := New()
	wantSum(t, h, nil, "P7.3: Sum of a new hash")
	for _, nothing := range [][]byte{nil, {}, make([]byte, 0, 9)} {
		wantOK(t, h, nothing)
		wantSum(t, h, nil, "P7.3: Sum behind empty writes")
	}
	wantOK(t, h, []byte("abc"))
	wantSum(t, h, []byte("abc"), "P7.3: Sum behind empty writes, and one")
}

// An empty write says nothing, wherever it stands in a block.
func TestEmptyWrites(t *testing.T) {
	for _, length := range edges() {
		m := mixed(length, 3)
		h := New()
		wantOK(t, h, m)
		wantOK(t, h, nil)
		wantSum(t, h, m, "P7.3: an empty write behind others")
		wantOK(t, h, []byte{})
		wantOK(t, h, m)
		wantSum(t, h, slices.Concat(m, m), "P7.3: an empty write between others")
	}
}

func TestEachCut(t *testing.T) {
	for _, length := range []int{1, 2, 63, 64, 65, 127, 128, 129, 200, 300} {
		m := mixed(length, 4)
		for cut := range length + 1 {
			h := New()
			wantOK(t, h, m[:cut])
			wantOK(t, h, m[cut:])
			wantSum(t, h, m, "P7.4: two parts")
		}
	}
}

func TestThreeParts(t *testing.T) {
	for _, first := range edges() {
		for _, second := range edges() {
			for _, third := range edges() {
				m := mixed(first+second+third, uint64(first))
				h := New()
				wantOK(t, h, m[:first])
				wantOK(t, h, m[first:first+second])
				wantOK(t, h, m[first+second:])
				wantSum(t, h, m, "P7.4: three parts")
			}
		}
	}
}

// Parts of one length each; the sum is asked behind each of them, and more is written then.
func TestPartsOfALength(t *testing.T) {
	m := mixed(1000, 5)
	for _, length := range append(edges(), 3, 7, 17, 31, 32, 33, 500, 999, 1000)[1:] {
		h := New()
		written := 0
		for part := range slices.Chunk(m, length) {
			wantOK(t, h, part)
			written += len(part)
			wantSum(t, h, m[:written], "P7.3: Sum between writes")
		}
	}
}

func TestPartsOfAnyLength(t *testing.T) {
	for seed := range uint64(50) {
		lengths := mixed(60, seed)
		h := New()
		var written []byte
		for i, length := range lengths {
			part := mixed(int(length), uint64(i))
			wantOK(t, h, part)
			written = append(written, part...)
			if length%4 == 0 {
				wantSum(t, h, written, "P7.4: parts of any length, asked between")
			}
		}
		if h.Sum() != Sum(written) {
			t.Errorf("P7.4: parts of any length, seed %d", seed)
		}
	}
}

func TestReset(t *testing.T) {
	for _, length := range edges() {
		for _, often := range []int{1, 2} {
			h := New()
			for _, m := range [][]byte{nil, mixed(length, 6), mixed(3, 7), filled(length, 255), mixed(200, 8)} {
				for range often {
					h.Reset()
				}
				wantSum(t, h, nil, "P7.3: Sum behind Reset")
				wantOK(t, h, m)
				wantSum(t, h, m, "P7.3: Sum of what was written behind Reset")
			}
		}
	}
}

// Of the same, but that the sum is not asked between.
func TestResetUnasked(t *testing.T) {
	h := New()
	h.Reset()
	for _, length := range edges() {
		wantOK(t, h, filled(length, 77))
		h.Reset()
		wantOK(t, h, mixed(length, 9))
		wantSum(t, h, mixed(length, 9), "P7.3: Reset between writes")
		h.Reset()
		h.Reset()
	}
}

func TestSideBySide(t *testing.T) {
	for _, length := range edges() {
		one, other, third := New(), New(), New()
		a, b := mixed(length, 10), mixed(length+7, 11)
		wantOK(t, one, a)
		wantOK(t, other, b)
		wantOK(t, one, b)
		third.Reset()
		wantSum(t, one, slices.Concat(a, b), "P7.3: one of two hashes")
		wantOK(t, other, a)
		one.Reset()
		wantSum(t, other, slices.Concat(b, a), "P7.3: the other hash, behind Reset of one")
		wantSum(t, one, nil, "P7.3: a hash behind Reset")
		wantSum(t, third, nil, "P7.3: a third hash")
	}
}

func TestNoHash(t *testing.T) {
	var h *Hash
	for _, b := range [][]byte{nil, {}, {1}, mixed(64, 12), mixed(1000, 13)} {
		if e := h.Write(b); e != api.ErrNil {
			t.Errorf("P7.3: Write of %d bytes to no hash: %v", len(b), e)
		}
		h.Reset()
		if h.Sum() != [32]byte{} {
			t.Errorf("P7.3: Sum of no hash: %x", h.Sum())
		}
	}
}

func TestGivenStays(t *testing.T) {
	for _, length := range append(edges(), 1000) {
		m := mixed(length, 14)
		whole := append(slices.Clone(m), 11, 12, 13, 14)
		before := slices.Clone(whole)
		h := New()
		for range 3 {
			Sum(whole[:length])
			wantOK(t, h, whole[:length])
			h.Sum()
		}
		h.Reset()
		if !bytes.Equal(whole, before) {
			t.Fatalf("R3: a call of %d bytes changes what it is handed", length)
		}
	}
}

// What was written is turned, and the room behind it, before the sum is asked and before more is written.
func TestGivenIsNotKept(t *testing.T) {
	for _, length := range append(edges(), 1000) {
		m := mixed(length, 15)
		whole := append(slices.Clone(m), filled(100, 16)...)
		h := New()
		wantOK(t, h, whole[:length])
		for i := range whole {
			whole[i] = ^whole[i]
		}
		wantSum(t, h, m, "R3: Sum of what was turned afterwards")
		wantOK(t, h, whole[:length])
		want := slices.Concat(m, whole[:length])
		clear(whole)
		wantSum(t, h, want, "R3: Sum of both that were turned afterwards")
	}
}

func TestAnsweredIsNew(t *testing.T) {
	first, steps := Constants()
	wantFirst, wantSteps := first, steps
	clear(first[:])
	clear(steps[:])
	if again, more := Constants(); again != wantFirst || more != wantSteps {
		t.Error("R3: Constants answers what is kept")
	}
	if Sum(nil) != sha256.Sum256(nil) {
		t.Error("R3: what Constants answers is what Sum begins with")
	}
	h := New()
	wantOK(t, h, []byte("abc"))
	got := h.Sum()
	clear(got[:])
	wantSum(t, h, []byte("abc"), "R3: Sum whose answer was written over")
}

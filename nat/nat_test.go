package nat

import (
	"bytes"
	"math"
	"math/big"
	"slices"
	"testing"

	"caltrop/api"
)

const all = math.MaxUint64 // a word whose bits are all 1

// filled is so many words, each the same one.
func filled(count int, x uint64) api.Nat {
	return slices.Repeat(api.Nat{x}, count)
}

// oneAt is 2^place.
func oneAt(place int) api.Nat {
	a := make(api.Nat, place/64+1)
	a[place/64] = 1 << (place % 64)
	return a
}

// loose is a's number in words that may not be, unless noughts is 0.
func loose(a api.Nat, noughts int) api.Nat {
	return append(slices.Clone(a), make(api.Nat, noughts)...)
}

// samples are words that may be: small numbers, those about 2^64 and 2^128, and long ones, with all kinds of ends.
func samples() []api.Nat {
	out := []api.Nat{
		nil, {1}, {2}, {3}, {7}, {255}, {256}, {1<<32 - 1}, {1 << 32}, {1<<63 - 1}, {1 << 63}, {all - 1}, {all},
		{0, 1}, {1, 1}, {all, 1}, {0, 1 << 63}, {1, all}, {all - 1, all}, {all, all},
		{0, 0, 1}, {1, 0, 1}, {all, 0, 1}, {0, all, 1}, {all, all, 1}, {all, 0, all}, {all, all, all},
		{0x0123456789abcdef, 0xfedcba9876543210, 0x0f1e2d3c4b5a6978, 0x80},
	}
	x := uint64(1)
	for _, count := range []int{2, 3, 5, 17, 40} {
		a := make(api.Nat, count)
		for i := range a {
			x = x*6364136223846793005 + 1442695040888963407
			a[i] = x
		}
		a[count-1] |= 1
		out = append(out, a, filled(count, all), oneAt(64*count))
	}
	return out
}

// value is the number of words by the chapter's words alone, in numbers of the library.
func value(a api.Nat) *big.Int {
	sum := new(big.Int)
	for _, x := range slices.Backward(a) {
		sum.Lsh(sum, 64)
		sum.Or(sum, new(big.Int).SetUint64(x))
	}
	return sum
}

// wantNat says what is wrong with an answer, if it is not that number, in words that may be.
func wantNat(t *testing.T, got api.Nat, want *big.Int, call string, args ...any) {
	t.Helper()
	if len(got) > 0 && got[len(got)-1] == 0 {
		t.Errorf("%s of %v: %v may not be", call, args, got)
	}
	if value(got).Cmp(want) != 0 {
		t.Errorf("%s of %v: %v, not %v", call, args, got, want)
	}
}

func TestExamples(t *testing.T) {
	if got := Add(api.Nat{all}, api.Nat{1}); !slices.Equal(got, api.Nat{0, 1}) {
		t.Error("P2.2: Add of 2^64 - 1, 1:", got)
	}
	if got, is := Sub(api.Nat{0, 1}, api.Nat{1}); !slices.Equal(got, api.Nat{all}) || !is {
		t.Error("P2.2: Sub of 2^64, 1:", got, is)
	}
	if got, is := Sub(nil, api.Nat{1}); len(got) != 0 || is {
		t.Error("P2.2: Sub of 0, 1:", got, is)
	}
	three := Shl(api.Nat{3}, 63)
	if !slices.Equal(three, api.Nat{1 << 63, 1}) {
		t.Error("P2.3: Shl of 3, 63:", three)
	}
	one := Shr(three, 64)
	if !slices.Equal(one, api.Nat{1}) || Bits(one) != 1 {
		t.Error("P2.3: Shr of that, 64; Bits of that:", one, Bits(one))
	}
	if got := Bytes(api.Nat{256}); string(got) != "\x01\x00" {
		t.Errorf("P2.4: Bytes of 256: %x", got)
	}
	if got := FromBytes([]byte{0, 1, 0}); !slices.Equal(got, api.Nat{256}) {
		t.Error("P2.4: FromBytes of 00 01 00:", got)
	}
	if May(api.Nat{0}) {
		t.Error("P2.1: the word 0 may be")
	}
	if MaxShift != 65536 {
		t.Error("MaxShift is", MaxShift)
	}
}

func TestMayAndTrim(t *testing.T) {
	for _, c := range []struct {
		a    api.Nat
		may  bool
		trim api.Nat
	}{
		{nil, true, nil},
		{api.Nat{}, true, nil},
		{api.Nat{0}, false, nil},
		{api.Nat{0, 0, 0}, false, nil},
		{api.Nat{1}, true, api.Nat{1}},
		{api.Nat{all}, true, api.Nat{all}},
		{api.Nat{1, 0}, false, api.Nat{1}},
		{api.Nat{1, 0, 0, 0}, false, api.Nat{1}},
		{api.Nat{0, 1}, true, api.Nat{0, 1}},
		{api.Nat{0, 0, 1, 0}, false, api.Nat{0, 0, 1}},
		{api.Nat{5, 0, 1 << 63}, true, api.Nat{5, 0, 1 << 63}},
		{loose(oneAt(4096), 500), false, oneAt(4096)},
	} {
		if got := May(c.a); got != c.may {
			t.Errorf("P2.1: May(%v): %v", c.a, got)
		}
		if got := Trim(c.a); !slices.Equal(got, c.trim) {
			t.Errorf("P2.1: Trim(%v): %v", c.a, got)
		}
	}
}

func TestOfAndSmall(t *testing.T) {
	if got := Of(0); len(got) != 0 {
		t.Error("P2.1: Of(0):", got)
	}
	for _, n := range []uint64{1, 2, 255, 1 << 32, 1 << 63, all - 1, all} {
		if got := Of(n); !slices.Equal(got, api.Nat{n}) {
			t.Errorf("P2.1: Of(%d): %v", n, got)
		}
	}
	for _, noughts := range []int{0, 1, 3} {
		for _, n := range []uint64{0, 1, 2, 255, 1 << 32, 1 << 63, all - 1, all} {
			if got, is := Small(loose(Of(n), noughts)); got != n || !is {
				t.Errorf("P2.1: Small of %d and %d words 0: %d, %v", n, noughts, got, is)
			}
		}
		for _, a := range []api.Nat{{0, 1}, {1, 1}, {7, 1 << 63}, {0, 0, 1}, {7, 0, 1}, {all, all, all, all}} {
			if got, is := Small(loose(a, noughts)); got != 0 || is {
				t.Errorf("P2.1: Small of %v and %d words 0: %d, %v", a, noughts, got, is)
			}
		}
	}
	if got, is := Small(api.Nat{}); got != 0 || !is {
		t.Error("P2.1: Small of no words:", got, is)
	}
}

func TestCmp(t *testing.T) {
	rising := []api.Nat{
		nil, {1}, {2}, {1 << 63}, {all - 1}, {all},
		{0, 1}, {1, 1}, {all, 1}, {0, 2}, {0, 1 << 63}, {5, all}, {all, all},
		{0, 0, 1}, {1, 0, 1}, {all, 0, 1}, {0, 1, 1}, {all, all, 1}, {0, 0, 2}, filled(3, all), oneAt(192),
	}
	for i, a := range rising {
		for k, b := range rising {
			want := 0
			switch {
			case i < k:
				want = -1
			case i > k:
				want = 1
			}
			for _, noughts := range [][2]int{{0, 0}, {1, 0}, {0, 1}, {2, 5}, {5, 2}} {
				x, y := loose(a, noughts[0]), loose(b, noughts[1])
				if got := Cmp(x, y); got != want {
					t.Errorf("P2.2: Cmp(%v, %v): %d", x, y, got)
				}
			}
		}
	}
	if got := Cmp(nil, api.Nat{}); got != 0 {
		t.Error("P2.2: Cmp of nil and no words:", got)
	}
}

// Carries and borrows that go through all words, written out.
func TestCarriesGoThrough(t *testing.T) {
	one := api.Nat{1}
	for _, count := range []int{1, 2, 3, 8, 100} {
		full, next := filled(count, all), oneAt(64*count)
		if got := Add(full, one); !slices.Equal(got, next) {
			t.Errorf("P2.2: Add of %d full words, 1: %v", count, got)
		}
		if got := Add(one, full); !slices.Equal(got, next) {
			t.Errorf("P2.2: Add of 1, %d full words: %v", count, got)
		}
		twice := filled(count, all)
		twice[0]--
		twice = append(twice, 1)
		if got := Add(full, full); !slices.Equal(got, twice) {
			t.Errorf("P2.2: Add of %d full words twice: %v", count, got)
		}
		if got, is := Sub(next, one); !slices.Equal(got, full) || !is {
			t.Errorf("P2.2: Sub of 2^%d, 1: %v, %v", 64*count, got, is)
		}
		if got, is := Sub(next, full); !slices.Equal(got, one) || !is {
			t.Errorf("P2.2: Sub of 2^%d, %d full words: %v, %v", 64*count, count, got, is)
		}
		if got, is := Sub(full, next); len(got) != 0 || is {
			t.Errorf("P2.2: Sub of %d full words, 2^%d: %v, %v", count, 64*count, got, is)
		}
		if got, is := Sub(next, next); len(got) != 0 || !is {
			t.Errorf("P2.2: Sub of 2^%d and itself: %v, %v", 64*count, got, is)
		}
	}
}

func TestAddAndSub(t *testing.T) {
	for _, a := range samples() {
		for _, b := range samples() {
			for _, noughts := range [][2]int{{0, 0}, {1, 0}, {0, 3}, {2, 2}} {
				x, y := loose(a, noughts[0]), loose(b, noughts[1])
				wantNat(t, Add(x, y), new(big.Int).Add(value(a), value(b)), "P2.2: Add", x, y)
				got, is := Sub(x, y)
				left := new(big.Int).Sub(value(a), value(b))
				if left.Sign() < 0 {
					if len(got) != 0 || is {
						t.Errorf("P2.2: Sub(%v, %v), the second one being greater: %v, %v", x, y, got, is)
					}
					continue
				}
				wantNat(t, got, left, "P2.2: Sub", x, y)
				if !is {
					t.Errorf("P2.2: Sub(%v, %v): false", x, y)
				}
			}
		}
	}
}

func TestShifts(t *testing.T) {
	for _, a := range samples() {
		for _, k := range []int{0, 1, 2, 7, 31, 32, 62, 63, 64, 65, 66, 127, 128, 129, 191, 192, 193, 1000, 2559, 2560, 2561, MaxShift - 1, MaxShift} {
			for _, noughts := range []int{0, 1, 4} {
				x := loose(a, noughts)
				wantNat(t, Shl(x, k), new(big.Int).Lsh(value(a), uint(k)), "P2.3: Shl", x, k)
				wantNat(t, Shr(x, k), new(big.Int).Rsh(value(a), uint(k)), "P2.3: Shr", x, k)
			}
		}
		for _, k := range []int{-1, -63, -64, -65, -MaxShift, math.MinInt, MaxShift + 1, MaxShift + 64, 2 * MaxShift, 1 << 32, math.MaxInt} {
			if got := Shl(a, k); len(got) != 0 {
				t.Errorf("P2.3: Shl(%v, %d): %v", a, k, got)
			}
			if got := Shr(a, k); len(got) != 0 {
				t.Errorf("P2.3: Shr(%v, %d): %v", a, k, got)
			}
		}
	}
}

// Numbers that still have something left behind the longest shift.
func TestLongestShift(t *testing.T) {
	far := append(make(api.Nat, MaxShift/64), 5, 6)
	if got := Shr(far, MaxShift); !slices.Equal(got, api.Nat{5, 6}) {
		t.Error("P2.3: Shr by MaxShift:", got)
	}
	if got := Shl(api.Nat{5, 6}, MaxShift); !slices.Equal(got, far) {
		t.Error("P2.3: Shl by MaxShift:", len(got), "words")
	}
	if got := Shr(oneAt(MaxShift), MaxShift); !slices.Equal(got, api.Nat{1}) {
		t.Error("P2.3: Shr of 2^MaxShift by it:", got)
	}
	if got := Shr(filled(MaxShift/64, all), MaxShift); len(got) != 0 {
		t.Error("P2.3: Shr of 2^MaxShift - 1 by MaxShift:", got)
	}
	if got := Shr(far, MaxShift+1); len(got) != 0 {
		t.Error("P2.3: Shr by one more than MaxShift:", got)
	}
	if got := Shr(far, -1); len(got) != 0 {
		t.Error("P2.3: Shr by -1:", len(got), "words")
	}
}

func TestShiftsWrittenOut(t *testing.T) {
	a := api.Nat{0x8000000000000001, 0xc000000000000003}
	for _, c := range []struct {
		k        int
		up, down api.Nat
	}{
		{0, a, a},
		{1, api.Nat{2, 0x8000000000000007, 1}, api.Nat{0xc000000000000000, 0x6000000000000001}},
		{63, api.Nat{1 << 63, 0xc000000000000000, 0x6000000000000001}, api.Nat{0x8000000000000007, 1}},
		{64, api.Nat{0, 0x8000000000000001, 0xc000000000000003}, api.Nat{0xc000000000000003}},
		{65, api.Nat{0, 2, 0x8000000000000007, 1}, api.Nat{0x6000000000000001}},
		{127, api.Nat{0, 1 << 63, 0xc000000000000000, 0x6000000000000001}, api.Nat{1}},
		{128, api.Nat{0, 0, 0x8000000000000001, 0xc000000000000003}, nil},
	} {
		if got := Shl(a, c.k); !slices.Equal(got, c.up) {
			t.Errorf("P2.3: Shl by %d: %x", c.k, got)
		}
		if got := Shr(a, c.k); !slices.Equal(got, c.down) {
			t.Errorf("P2.3: Shr by %d: %x", c.k, got)
		}
	}
}

func TestBits(t *testing.T) {
	for _, noughts := range []int{0, 1, 4} {
		if got := Bits(make(api.Nat, noughts)); got != 0 {
			t.Errorf("P2.3: Bits of %d words 0: %d", noughts, got)
		}
		for place := range 300 {
			a := oneAt(place)
			if got := Bits(loose(a, noughts)); got != place+1 {
				t.Errorf("P2.3: Bits of 2^%d and %d words 0: %d", place, noughts, got)
			}
			below, _ := Sub(a, api.Nat{1})
			if got := Bits(loose(below, noughts)); got != place {
				t.Errorf("P2.3: Bits of 2^%d - 1 and %d words 0: %d", place, noughts, got)
			}
		}
		for _, a := range samples() {
			if got := Bits(loose(a, noughts)); got != value(a).BitLen() {
				t.Errorf("P2.3: Bits of %v and %d words 0: %d", a, noughts, got)
			}
		}
	}
}

func TestBit(t *testing.T) {
	for _, a := range samples() {
		for _, noughts := range []int{0, 1, 4} {
			x := loose(a, noughts)
			for i := range 64*len(x) + 130 {
				if got := Bit(x, i); got != uint64(value(a).Bit(i)) {
					t.Errorf("P2.3: Bit(%v, %d): %d", x, i, got)
				}
			}
			for _, i := range []int{-1, -2, -63, -64, -65, -128, math.MinInt, MaxShift, MaxShift + 1, 1 << 32, math.MaxInt - 1, math.MaxInt} {
				if got := Bit(x, i); got != 0 {
					t.Errorf("P2.3: Bit(%v, %d): %d", x, i, got)
				}
			}
		}
	}
	if got := Bit(oneAt(2*MaxShift), 2*MaxShift); got != 1 {
		t.Error("P2.3: Bit of a place above MaxShift:", got)
	}
}

func TestBytes(t *testing.T) {
	for _, c := range []struct {
		a    api.Nat
		want string
	}{
		{nil, ""},
		{api.Nat{}, ""},
		{api.Nat{0}, ""},
		{api.Nat{0, 0}, ""},
		{api.Nat{1}, "\x01"},
		{api.Nat{255}, "\xff"},
		{api.Nat{256}, "\x01\x00"},
		{api.Nat{256, 0, 0}, "\x01\x00"},
		{api.Nat{1<<56 - 1}, "\xff\xff\xff\xff\xff\xff\xff"},
		{api.Nat{1 << 56}, "\x01\x00\x00\x00\x00\x00\x00\x00"},
		{api.Nat{all}, "\xff\xff\xff\xff\xff\xff\xff\xff"},
		{api.Nat{0, 1}, "\x01\x00\x00\x00\x00\x00\x00\x00\x00"},
		{api.Nat{0x0102030405060708, 0x090a, 0}, "\x09\x0a\x01\x02\x03\x04\x05\x06\x07\x08"},
	} {
		if got := Bytes(c.a); string(got) != c.want {
			t.Errorf("P2.4: Bytes(%v): %x", c.a, got)
		}
		for _, noughts := range []int{0, 1, 7, 8, 9, 40} {
			b := append(make([]byte, noughts), c.want...)
			if got := FromBytes(b); !slices.Equal(got, Trim(c.a)) {
				t.Errorf("P2.4: FromBytes(%x): %v", b, got)
			}
		}
	}
	if got := FromBytes(nil); len(got) != 0 {
		t.Error("P2.4: FromBytes of nil:", got)
	}
	for _, a := range samples() {
		if got := Bytes(loose(a, 2)); !bytes.Equal(got, value(a).Bytes()) {
			t.Errorf("P2.4: Bytes(%v): %x", a, got)
		}
	}
}

func TestWhatIsAddedIsLeft(t *testing.T) {
	for _, a := range samples() {
		for _, b := range samples() {
			sum := Add(a, b)
			if got, is := Sub(sum, b); Cmp(got, a) != 0 || !is {
				t.Errorf("P2.5: %v and %v less the second one: %v, %v", a, b, got, is)
			}
			if !slices.Equal(sum, Add(b, a)) {
				t.Errorf("P2.5: Add of %v and %v hangs on their order", a, b)
			}
			for _, c := range samples() {
				if !slices.Equal(Add(sum, c), Add(a, Add(b, c))) {
					t.Errorf("P2.5: Add of %v, %v and %v hangs on their order", a, b, c)
				}
			}
		}
	}
}

func TestForthAndBack(t *testing.T) {
	for _, a := range samples() {
		for _, k := range []int{0, 1, 63, 64, 65, 128, 1000, MaxShift} {
			for _, noughts := range []int{0, 2} {
				if got := Shr(Shl(loose(a, noughts), k), k); !slices.Equal(got, a) {
					t.Errorf("P2.5: %v, shifted by %d forth and back: %v", a, k, got)
				}
			}
		}
		for _, noughts := range []int{0, 1, 9} {
			if got := FromBytes(append(make([]byte, noughts), Bytes(loose(a, noughts))...)); !slices.Equal(got, a) {
				t.Errorf("P2.5: bytes of %v lead to %v", a, got)
			}
		}
	}
}

// Each call that answers words, of two numbers and a shift.
func natCalls() map[string]func(a, b api.Nat, k int) api.Nat {
	return map[string]func(a, b api.Nat, k int) api.Nat{
		"Trim": func(a, b api.Nat, k int) api.Nat { return Trim(a) },
		"Add":  func(a, b api.Nat, k int) api.Nat { return Add(a, b) },
		"Sub":  func(a, b api.Nat, k int) api.Nat { d, _ := Sub(a, b); return d },
		"Shl":  func(a, b api.Nat, k int) api.Nat { return Shl(a, k) },
		"Shr":  func(a, b api.Nat, k int) api.Nat { return Shr(a, k) },
		"Of":   func(a, b api.Nat, k int) api.Nat { return Of(uint64(k)) },
	}
}

// roomy copies a into a list with words of its own behind its end; whole is all of it.
func roomy(a api.Nat) (list, whole api.Nat) {
	whole = append(slices.Clone(a), 11, 12, 13, 14)
	return whole[:len(a)], whole
}

func TestGivenStays(t *testing.T) {
	for _, a := range samples() {
		for _, b := range []api.Nat{nil, {1}, {0, 1}, filled(3, all), a} {
			x, wholeX := roomy(loose(a, 1))
			y, wholeY := roomy(loose(b, 2))
			beforeX, beforeY := slices.Clone(wholeX), slices.Clone(wholeY)
			for _, k := range []int{-1, 0, 63, 64, 65, MaxShift, MaxShift + 1} {
				for _, call := range natCalls() {
					call(x, y, k)
					call(y, x, k)
					call(x, x, k)
				}
				Bit(x, k)
			}
			May(x)
			Small(x)
			Cmp(x, y)
			Bits(x)
			Bytes(x)
			if !slices.Equal(wholeX, beforeX) || !slices.Equal(wholeY, beforeY) {
				t.Errorf("R3: %v and %v are %v and %v now", beforeX, beforeY, wholeX, wholeY)
			}
		}
	}
	whole := []byte("\x00\x01\x02\x03\x04\x05\x06\x07\x08\x09behind the end")
	before := slices.Clone(whole)
	FromBytes(whole[:10])
	FromBytes(whole[:0])
	if !bytes.Equal(whole, before) {
		t.Errorf("R3: the bytes that were handed in are %q now", whole)
	}
}

// spoil writes over a list, and over the room behind its end.
func spoil[T ~[]E, E byte | uint64](l T) {
	l = l[:cap(l)]
	for i := range l {
		l[i] = ^l[i]
	}
}

func TestAnsweredIsNew(t *testing.T) {
	for name, call := range natCalls() {
		for _, a := range samples() {
			for _, b := range []api.Nat{nil, {1}, a} {
				for _, k := range []int{0, 1, 64} {
					x, wholeX := roomy(a)
					y, wholeY := roomy(b)
					first, second := call(x, y, k), call(x, y, k)
					kept := slices.Clone(second)
					spoil(first)
					if Cmp(x, a) != 0 || Cmp(y, b) != 0 || !slices.Equal(wholeX[len(a):], api.Nat{11, 12, 13, 14}) || !slices.Equal(wholeY[len(b):], api.Nat{11, 12, 13, 14}) {
						t.Errorf("R3: %s of %v, %v, %d answers what it was handed", name, a, b, k)
					}
					spoil(wholeX)
					spoil(wholeY)
					if !slices.Equal(second, kept) {
						t.Errorf("R3: %s of %v, %v, %d answers memory that is not its own", name, a, b, k)
					}
				}
			}
		}
	}
}

func TestAnsweredIsNewOfBytes(t *testing.T) {
	for _, a := range samples() {
		x, _ := roomy(a)
		first, second := Bytes(x), Bytes(x)
		kept := slices.Clone(second)
		spoil(first)
		if !slices.Equal(x, a) || !bytes.Equal(second, kept) {
			t.Errorf("R3: Bytes of %v answers memory that is not its own", a)
		}
		one, two := FromBytes(second), FromBytes(second)
		spoil(one)
		if !bytes.Equal(second, kept) || !slices.Equal(two, a) {
			t.Errorf("R3: FromBytes of %x answers memory that is not its own", kept)
		}
		spoil(second)
		if !slices.Equal(two, a) {
			t.Errorf("R3: FromBytes of %x keeps what it was handed", kept)
		}
	}
}

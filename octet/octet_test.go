package octet

import (
	"bytes"
	"math"
	"slices"
	"strings"
	"testing"

	"caltrop/api"
)

// lowBytes keeps what a fixed number of so many bytes can hold.
func lowBytes(n uint64, size int) uint64 {
	if size == 8 {
		return n
	}
	return n & (1<<(8*size) - 1)
}

// roomy copies b into a list with bytes of its own behind its end; whole is all of it.
func roomy(b []byte) (list, whole []byte) {
	whole = append(slices.Clone(b), "behind the end of the list"...)
	return whole[:len(b)], whole
}

// natOfBytes is a number that needs just so many bytes, each of them told apart from its neighbours.
func natOfBytes(size int) api.Nat {
	a := make(api.Nat, (size+7)/8)
	for i := range size {
		a[i/8] |= uint64(i%255+1) << (8 * (i % 8))
	}
	return a
}

func TestPut(t *testing.T) {
	for _, c := range []struct {
		b    string
		n    uint64
		size int
		want string
	}{
		{"", 258, 3, "\x00\x01\x02"},
		{"", 0, 1, "\x00"},
		{"", 255, 1, "\xff"},
		{"", 256, 1, "\x00"},
		{"xy", 258, 1, "xy\x02"},
		{"xy", 258, 2, "xy\x01\x02"},
		{"xy", 0x0102030405060708, 5, "xy\x04\x05\x06\x07\x08"},
		{"xy", 0x0102030405060708, 7, "xy\x02\x03\x04\x05\x06\x07\x08"},
		{"xy", 0x0102030405060708, 8, "xy\x01\x02\x03\x04\x05\x06\x07\x08"},
		{"", math.MaxUint64, 8, "\xff\xff\xff\xff\xff\xff\xff\xff"},
		{"xy", 258, 0, "xy"},
		{"xy", 258, -1, "xy"},
		{"xy", 258, 9, "xy"},
		{"xy", 258, math.MaxInt, "xy"},
		{"xy", 258, math.MinInt, "xy"},
		{"", 258, 0, ""},
		{"", 258, 9, ""},
	} {
		if got := Put([]byte(c.b), c.n, c.size); string(got) != c.want {
			t.Errorf("P1.1: Put(%q, %d, %d): %q, not %q", c.b, c.n, c.size, got, c.want)
		}
	}
	if got := Put(nil, 258, 2); string(got) != "\x01\x02" {
		t.Errorf("P1.1: Put behind nil: %q", got)
	}
	if got := Put(nil, 258, 0); len(got) != 0 {
		t.Errorf("P1.1: Put of nothing behind nil: %q", got)
	}
}

func TestTake(t *testing.T) {
	for _, c := range []struct {
		b        string
		at, size int
		n        uint64
		next     int
		e        api.Errno
	}{
		{"\x01\x02", 0, 2, 258, 2, api.OK},
		{"\x01\x02", 0, 1, 1, 1, api.OK},
		{"\x01\x02", 1, 1, 2, 2, api.OK},
		{"\x00\x00\x07", 0, 3, 7, 3, api.OK},
		{"x\xff\xff\xff\xff\xff\xff\xff\xfey", 1, 8, math.MaxUint64 - 1, 9, api.OK},
		{"x\x01\x02\x03\x04\x05\x06\x07", 1, 7, 0x01020304050607, 8, api.OK},
		{"\x01", 0, 2, 0, 0, api.ErrBytes},
		{"12345678", 1, 8, 0, 0, api.ErrBytes},
		{"12345678", 7, 2, 0, 0, api.ErrBytes},
		{"12", 2, 1, 0, 0, api.ErrBytes},
		{"", 0, 1, 0, 0, api.ErrBytes},
		{"", 0, 8, 0, 0, api.ErrBytes},
		{"12", 3, 1, 0, 0, api.ErrArg},
		{"12", -1, 1, 0, 0, api.ErrArg},
		{"12", math.MaxInt, 8, 0, 0, api.ErrArg},
		{"12", math.MinInt, 8, 0, 0, api.ErrArg},
		{"", 1, 1, 0, 0, api.ErrArg},
		{"1234567890", 0, 0, 0, 0, api.ErrArg},
		{"1234567890", 0, -1, 0, 0, api.ErrArg},
		{"1234567890", 0, 9, 0, 0, api.ErrArg},
		{"1234567890", 0, math.MaxInt, 0, 0, api.ErrArg},
		{"1234567890", 0, math.MinInt, 0, 0, api.ErrArg},
		// ErrArg is named ahead of ErrBytes.
		{"", 0, 9, 0, 0, api.ErrArg},
		{"", 0, 0, 0, 0, api.ErrArg},
		{"12", 3, 9, 0, 0, api.ErrArg},
	} {
		n, next, e := Take([]byte(c.b), c.at, c.size)
		if n != c.n || next != c.next || e != c.e {
			t.Errorf("P1.1: Take(%q, %d, %d): %d, %d, %d", c.b, c.at, c.size, n, next, int(e))
		}
	}
	if n, next, e := Take(nil, 0, 1); n != 0 || next != 0 || e != api.ErrBytes {
		t.Error("P1.1: Take of nil:", n, next, int(e))
	}
}

func TestPutNat(t *testing.T) {
	for _, c := range []struct {
		b    string
		a    api.Nat
		want string
	}{
		{"", nil, "\x00\x00"},
		{"", api.Nat{}, "\x00\x00"},
		{"", api.Nat{0}, "\x00\x00"},
		{"", api.Nat{0, 0, 0}, "\x00\x00"},
		{"", api.Nat{256}, "\x00\x02\x01\x00"},
		{"xy", api.Nat{1}, "xy\x00\x01\x01"},
		{"xy", api.Nat{255, 0}, "xy\x00\x01\xff"},
		{"xy", api.Nat{1<<56 - 1}, "xy\x00\x07\xff\xff\xff\xff\xff\xff\xff"},
		{"xy", api.Nat{1 << 56}, "xy\x00\x08\x01\x00\x00\x00\x00\x00\x00\x00"},
		{"xy", api.Nat{math.MaxUint64, 0, 0}, "xy\x00\x08\xff\xff\xff\xff\xff\xff\xff\xff"},
		{"xy", api.Nat{0, 1}, "xy\x00\x09\x01\x00\x00\x00\x00\x00\x00\x00\x00"},
		{"xy", api.Nat{0x0102030405060708, 0x090a}, "xy\x00\x0a\x09\x0a\x01\x02\x03\x04\x05\x06\x07\x08"},
	} {
		got, e := PutNat([]byte(c.b), c.a)
		if string(got) != c.want || e != api.OK {
			t.Errorf("P1.2: PutNat(%q, %v): %q, %d", c.b, c.a, got, int(e))
		}
	}
	if got, e := PutNat(nil, nil); string(got) != "\x00\x00" || e != api.OK {
		t.Errorf("P1.2: PutNat of nil and nil: %q, %d", got, int(e))
	}
}

func TestPutNatLimit(t *testing.T) {
	greatest := natOfBytes(65535)
	got, e := PutNat([]byte("x"), append(slices.Clone(greatest), 0, 0))
	if e != api.OK || len(got) != 1+2+65535 || string(got[:3]) != "x\xff\xff" {
		t.Fatalf("P1.2: PutNat of 65535 bytes: %d bytes, %d", len(got), int(e))
	}
	for i := range 65535 {
		if got[len(got)-1-i] != byte(i%255+1) {
			t.Fatalf("P1.2: PutNat of 65535 bytes: byte %d is %d", i, got[len(got)-1-i])
		}
	}
	least := make(api.Nat, 8192)
	least[8191] = 1 << 56
	for name, a := range map[string]api.Nat{"65536": natOfBytes(65536), "65536, but for one bit 0": least, "65537": natOfBytes(65537), "80000": natOfBytes(80000)} {
		if got, e := PutNat([]byte("x"), a); len(got) != 0 || e != api.ErrMany {
			t.Errorf("P1.2: PutNat of %s bytes: %d bytes, %d", name, len(got), int(e))
		}
	}
	if got, e := PutNat([]byte("x"), make(api.Nat, 9000)); string(got) != "x\x00\x00" || e != api.OK {
		t.Errorf("P1.2: PutNat of 9000 words 0: %q, %d", got, int(e))
	}
}

func TestTakeNat(t *testing.T) {
	for _, c := range []struct {
		b        string
		at, most int
		a        api.Nat
		next     int
	}{
		{"\x00\x02\x01\x00", 0, 9, api.Nat{256}, 4},
		{"\x00\x00", 0, 9, nil, 2},
		{"\x00\x00", 0, 0, nil, 2},
		{"x\x00\x00\x07", 1, 0, nil, 3},
		{"\x00\x01\x07", 0, 1, api.Nat{7}, 3},
		{"\x00\x02\x01\x00", 0, 2, api.Nat{256}, 4},
		{"\x00\x02\x01\x00", 0, math.MaxInt, api.Nat{256}, 4},
		{"\x00\x08\x80\x00\x00\x00\x00\x00\x00\x01y", 0, 8, api.Nat{1<<63 + 1}, 10},
		{"xy\x00\x09\x01\x00\x00\x00\x00\x00\x00\x00\x02z", 2, 9, api.Nat{2, 1}, 13},
		{"\x00\x0a\x09\x0a\x01\x02\x03\x04\x05\x06\x07\x08", 0, 10, api.Nat{0x0102030405060708, 0x090a}, 12},
	} {
		a, next, e := TakeNat([]byte(c.b), c.at, c.most)
		if !slices.Equal(a, c.a) || next != c.next || e != api.OK {
			t.Errorf("P1.2: TakeNat(%q, %d, %d): %v, %d, %d", c.b, c.at, c.most, a, next, int(e))
		}
	}
}

func TestTakeNatWrong(t *testing.T) {
	for _, c := range []struct {
		b        string
		at, most int
		e        api.Errno
	}{
		{"\x00\x02\x00\x01", 0, 9, api.ErrBytes},
		{"\x00\x01\x00", 0, 9, api.ErrBytes},
		{"\x00\x01", 0, 9, api.ErrBytes},
		{"\x00\x02\x01", 0, 9, api.ErrBytes},
		{"\x00\x09\x01\x00\x00\x00\x00\x00\x00\x00", 0, 9, api.ErrBytes},
		{"\xff\xff\x01", 0, 65535, api.ErrBytes},
		{"\xff\xff\x01", 0, math.MaxInt, api.ErrBytes},
		{"\x00", 0, 9, api.ErrBytes},
		{"", 0, 9, api.ErrBytes},
		{"\x00\x02\x01\x00", 4, 9, api.ErrBytes},
		{"\x00\x02\x01\x00", 3, 9, api.ErrBytes},
		{"\x00\x02\x01\x00", 5, 9, api.ErrArg},
		{"\x00\x02\x01\x00", -1, 9, api.ErrArg},
		{"\x00\x02\x01\x00", math.MaxInt, 9, api.ErrArg},
		{"\x00\x02\x01\x00", math.MinInt, 9, api.ErrArg},
		{"", 1, 9, api.ErrArg},
		{"\x00\x02\x01\x00", 0, 1, api.ErrMany},
		{"\x00\x02\x01\x00", 0, 0, api.ErrMany},
		{"\x01\x00\x01", 0, 255, api.ErrMany},
		{"\x00\x00", 0, -1, api.ErrMany},
		{"\x00\x00", 0, math.MinInt, api.ErrMany},
		{"\xff\xff", 0, 65534, api.ErrMany},
		// ErrMany is named ahead of ErrBytes, ErrArg ahead of both; where fewer than 2 bytes stand nothing says more than most.
		{"\x00\x02\x00\x01", 0, 1, api.ErrMany},
		{"\x00\x02", 0, 1, api.ErrMany},
		{"\x00", 0, -1, api.ErrBytes},
		{"\xff", 0, 9, api.ErrBytes},
		{"", 0, -1, api.ErrBytes},
		{"\x00\x00", 3, -1, api.ErrArg},
		{"\x00\x00", -1, -1, api.ErrArg},
	} {
		a, next, e := TakeNat([]byte(c.b), c.at, c.most)
		if len(a) != 0 || next != 0 || e != c.e {
			t.Errorf("P1.2: TakeNat(%q, %d, %d): %v, %d, %d, not %d", c.b, c.at, c.most, a, next, int(e), int(c.e))
		}
	}
	if a, next, e := TakeNat(nil, 0, 9); len(a) != 0 || next != 0 || e != api.ErrBytes {
		t.Error("P1.2: TakeNat of nil:", a, next, int(e))
	}
}

func TestTakeNatLimit(t *testing.T) {
	greatest := natOfBytes(65535)
	b, _ := PutNat(nil, greatest)
	if a, next, e := TakeNat(b, 0, 65535); !slices.Equal(a, greatest) || next != 65537 || e != api.OK {
		t.Errorf("P1.2: TakeNat of 65535 bytes: %d words, %d, %d", len(a), next, int(e))
	}
	if a, next, e := TakeNat(b, 0, 65534); len(a) != 0 || next != 0 || e != api.ErrMany {
		t.Errorf("P1.2: TakeNat of one byte more than most: %d words, %d, %d", len(a), next, int(e))
	}
	if a, next, e := TakeNat(b[:len(b)-1], 0, 65535); len(a) != 0 || next != 0 || e != api.ErrBytes {
		t.Errorf("P1.2: TakeNat of one byte less than is said: %d words, %d, %d", len(a), next, int(e))
	}
}

func TestFixedGoesRound(t *testing.T) {
	for _, ahead := range []string{"", "\x00", "\xff\xff", "some bytes"} {
		for _, behind := range []string{"", "\x00", "\xff", "more bytes"} {
			for _, n := range []uint64{0, 1, 255, 256, 0x0102030405060708, 1 << 63, math.MaxUint64} {
				for size := 1; size <= 8; size++ {
					b := append(Put([]byte(ahead), n, size), behind...)
					got, next, e := Take(b, len(ahead), size)
					if got != lowBytes(n, size) || next != len(ahead)+size || e != api.OK {
						t.Errorf("P1.3: %d in %d bytes, between %q and %q: %d, %d, %d", n, size, ahead, behind, got, next, int(e))
					}
				}
			}
		}
	}
}

func TestNatGoesRound(t *testing.T) {
	for _, ahead := range []string{"", "\x00", "\xff\xff", "some bytes"} {
		for _, behind := range []string{"", "\x00", "\xff", "more bytes"} {
			for size := range 70 {
				for _, noughts := range []int{0, 1, 3} {
					a := natOfBytes(size)
					b, _ := PutNat([]byte(ahead), append(slices.Clone(a), make(api.Nat, noughts)...))
					got, next, e := TakeNat(append(b, behind...), len(ahead), size)
					if !slices.Equal(got, a) || next != len(ahead)+2+size || e != api.OK {
						t.Errorf("P1.3: a number of %d bytes, between %q and %q: %v, %d, %d", size, ahead, behind, got, next, int(e))
					}
				}
			}
		}
	}
}

// Of all short lists of a few bytes: what is taken stands as it would be put, and only where a long number stands something is taken.
func TestTakenIsPutAsItStood(t *testing.T) {
	const letters = "\x00\x01\x02\x80"
	taken := 0
	var look func(b []byte)
	look = func(b []byte) {
		for at := range len(b) + 1 {
			for size := 1; size <= 8; size++ {
				if n, next, e := Take(b, at, size); e == api.OK && !bytes.Equal(Put(b[:at], n, size), b[:next]) {
					t.Errorf("P1.3: Take(%q, %d, %d) is not put as it stood", b, at, size)
				}
			}
			a, next, e := TakeNat(b, at, 65535)
			if e == api.OK {
				taken++
				if back, e := PutNat(b[:at], a); e != api.OK || !bytes.Equal(back, b[:next]) {
					t.Errorf("P1.3: TakeNat(%q, %d) is not put as it stood", b, at)
				}
				if len(a) > 0 && a[len(a)-1] == 0 {
					t.Errorf("P1.2: TakeNat(%q, %d) has a last word 0", b, at)
				}
			}
			if stands := longStands(b[at:]); stands != (e == api.OK) {
				t.Errorf("P1.2: TakeNat(%q, %d): %d", b, at, int(e))
			}
		}
		for i := range len(letters) {
			if len(b) < 6 {
				look(append(slices.Clone(b), letters[i]))
			}
		}
	}
	look(nil)
	if taken == 0 {
		t.Error("P1.3: nothing was taken at all")
	}
}

// longStands says by the words of the chapter alone whether a long number stands at the beginning of b.
func longStands(b []byte) bool {
	if len(b) < 2 {
		return false
	}
	size := int(b[0])*256 + int(b[1])
	return len(b)-2 >= size && (size == 0 || b[2] != 0)
}

func TestGivenStays(t *testing.T) {
	text := []byte("ahead\x00\x02\x01\x00")
	b, whole := roomy(text)
	before := slices.Clone(whole)
	words := append(natOfBytes(20), 0, 5, 6)
	a, wordsBefore := words[:4], slices.Clone(words)
	for size := -1; size <= 9; size++ {
		Put(b, math.MaxUint64, size)
		Take(b, 5, size)
	}
	PutNat(b, a)
	PutNat(b, natOfBytes(65536))
	TakeNat(b, 5, 9)
	TakeNat(b, 5, 1)
	TakeNat(b, 0, 65535)
	if !bytes.Equal(whole, before) {
		t.Errorf("R3: the bytes that were handed in are %q now", whole)
	}
	if !slices.Equal(words, wordsBefore) {
		t.Errorf("R3: the words that were handed in are %v now", words)
	}
}

func TestAnsweredIsNew(t *testing.T) {
	for _, size := range []int{-1, 0, 1, 8, 9} {
		b, whole := roomy([]byte("ahead"))
		first := Put(b, 7, size)
		second := Put(b, 7, size)
		kept := string(second)
		spoil(first)
		if string(second) != kept || !strings.HasPrefix(string(whole), "aheadbehind") {
			t.Errorf("R3: Put of %d bytes answers memory that is not its own", size)
		}
		spoil(b)
		if string(second) != kept {
			t.Errorf("R3: Put of %d bytes keeps what it was handed", size)
		}
	}
	b, whole := roomy([]byte("ahead"))
	a := natOfBytes(9)
	first, _ := PutNat(b, a)
	second, _ := PutNat(b, a)
	kept := string(second)
	spoil(first)
	if string(second) != kept || !strings.HasPrefix(string(whole), "aheadbehind") || !slices.Equal(a, natOfBytes(9)) {
		t.Error("R3: PutNat answers memory that is not its own")
	}
	x, _, _ := TakeNat(second, 5, 9)
	y, _, _ := TakeNat(second, 5, 9)
	spoil(second)
	spoil(x)
	if !slices.Equal(y, a) {
		t.Error("R3: TakeNat answers memory that is not its own")
	}
}

// spoil writes over a list, and over the room behind its end.
func spoil[T ~[]E, E byte | uint64](l T) {
	l = l[:cap(l)]
	for i := range l {
		l[i] = ^l[i]
	}
}

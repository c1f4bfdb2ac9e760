package div

import (
	"math"
	"math/big"
	"slices"
	"testing"

	"caltrop/api"
	"caltrop/mul"
	"caltrop/nat"
)

const (
	all = math.MaxUint64 // a word whose bits are all 1
	top = 1 << 63        // a word whose highest bit alone is 1
)

// filled is so many words, each the same one.
func filled(count int, x uint64) api.Nat {
	return slices.Repeat(api.Nat{x}, count)
}

// oneAt is 2^place.
func oneAt(place int) api.Nat {
	a := make(api.Nat, place/64+1)
	a[place/64] = 1 << (place % 64)
	return a
}

// mixed is so many words without any order to be seen in them; another seed makes other ones.
func mixed(count int, seed uint64) api.Nat {
	a := make(api.Nat, count)
	x := seed
	for i := range a {
		x = x*6364136223846793005 + 1442695040888963407
		a[i] = x ^ x>>29
	}
	if count > 0 {
		a[count-1] |= 1 << 20
	}
	return a
}

// loose is a's number in words that may not be, unless noughts is 0.
func loose(a api.Nat, noughts int) api.Nat {
	return append(slices.Clone(a), make(api.Nat, noughts)...)
}

// samples are numbers from 0 on, of few words and of many, with all kinds of ends.
func samples() []api.Nat {
	return []api.Nat{
		nil, {1}, {2}, {3}, {10}, {1<<32 - 1}, {1 << 32}, {top - 1}, {top}, {top + 1}, {all - 1}, {all},
		{0, 1}, {1, 1}, {all, 1}, {0, top}, {1, top}, {all, top}, {1, all}, {all - 1, all}, {all, all},
		{0, 0, 1}, {1, 0, 1}, {all, 0, 1}, {0, all, 1}, {0, 1, top}, {all, 0, all}, {all, all, all},
		mixed(3, 1), mixed(4, 2), mixed(5, 3), filled(5, all), oneAt(319), mixed(8, 4), oneAt(640),
		mixed(17, 5), filled(17, all), append(make(api.Nat, 16), all), mixed(33, 6),
	}
}

// words are divisors of one word.
func words() []uint64 {
	return []uint64{1, 2, 3, 7, 10, 1<<32 - 1, 1 << 32, 1<<32 + 1, 1<<40 + 15, top - 1, top, top + 1, all - 1, all}
}

// value is the number of words by the words of chapter 2 alone, in numbers of the library.
func value(a api.Nat) *big.Int {
	b := make([]byte, 0, 8*len(a))
	for _, x := range slices.Backward(a) {
		for shift := 56; shift >= 0; shift -= 8 {
			b = append(b, byte(x>>shift))
		}
	}
	return new(big.Int).SetBytes(b)
}

// wantNat says what is wrong with an answer, if it is not that number, in words that may be.
func wantNat(t *testing.T, got api.Nat, want *big.Int, call string, args ...any) {
	t.Helper()
	if len(got) > 0 && got[len(got)-1] == 0 {
		t.Errorf("%s of %v: %v may not be", call, args, got)
	}
	if value(got).Cmp(want) != 0 {
		t.Errorf("%s of %v: %v, not %v", call, args, got, want)
	}
}

// wantDiv asks Div and Mod for both numbers, b not 0, and Word, if b is of one word.
func wantDiv(t *testing.T, a, b api.Nat) {
	t.Helper()
	wantQ, wantR := new(big.Int).QuoRem(value(a), value(b), new(big.Int))
	q, r, e := Div(a, b)
	wantNat(t, q, wantQ, "P4.1: Div, how often,", a, b)
	wantNat(t, r, wantR, "P4.1: Div, what is left,", a, b)
	if e != api.OK {
		t.Errorf("P4.1: Div of %v, %v: error %d", a, b, e)
	}
	r, e = Mod(a, b)
	wantNat(t, r, wantR, "P4.1: Mod", a, b)
	if e != api.OK {
		t.Errorf("P4.1: Mod of %v, %v: error %d", a, b, e)
	}
	if word := value(b); word.IsUint64() {
		wantWord(t, a, word.Uint64())
	}
}

func wantWord(t *testing.T, a api.Nat, b uint64) {
	t.Helper()
	wantQ, wantR := new(big.Int).QuoRem(value(a), new(big.Int).SetUint64(b), new(big.Int))
	q, r, e := Word(a, b)
	wantNat(t, q, wantQ, "P4.1: Word, how often,", a, b)
	if r != wantR.Uint64() || e != api.OK {
		t.Errorf("P4.1: Word of %v, %d: %d is left, error %d", a, b, r, e)
	}
}

// wantQR asks Div and Mod for what is written out.
func wantQR(t *testing.T, a, b, q, r api.Nat) {
	t.Helper()
	if gotQ, gotR, e := Div(a, b); !slices.Equal(gotQ, q) || !slices.Equal(gotR, r) || e != api.OK {
		t.Errorf("P4.1: Div of %x, %x: %x, %x, error %d", a, b, gotQ, gotR, e)
	}
	if got, e := Mod(a, b); !slices.Equal(got, r) || e != api.OK {
		t.Errorf("P4.1: Mod of %x, %x: %x, error %d", a, b, got, e)
	}
}

func product(t *testing.T, a, b api.Nat) api.Nat {
	t.Helper()
	got := mul.Mul(a, b)
	wantNat(t, got, new(big.Int).Mul(value(a), value(b)), "P3.1: Mul", a, b)
	return got
}

func TestExamples(t *testing.T) {
	wantQR(t, api.Nat{17}, api.Nat{5}, api.Nat{3}, api.Nat{2})
	wantQR(t, api.Nat{5}, api.Nat{17}, nil, api.Nat{5})
	if q, r, e := Div(api.Nat{5}, nil); len(q) != 0 || len(r) != 0 || e != api.ErrZero {
		t.Error("P4.1: Div of 5, 0:", q, r, e)
	}
	wantQR(t, api.Nat{all, all}, api.Nat{1, 1}, api.Nat{all}, nil)
	q, r, e := Word(api.Nat{7766279631452241920, 5}, 7) // 10^20
	wantNat(t, q, new(big.Int).SetUint64(14285714285714285714), "P4.1: Word", "10^20", 7)
	if r != 2 || e != api.OK {
		t.Error("P4.1: Word of 10^20, 7:", r, e)
	}
}

func TestDivWrittenOut(t *testing.T) {
	for _, c := range []struct{ a, b, q, r api.Nat }{
		{nil, api.Nat{1}, nil, nil},
		{nil, api.Nat{0, 1}, nil, nil},
		{api.Nat{0, 0}, api.Nat{7, 0}, nil, nil},
		{api.Nat{0, 0, 0}, api.Nat{7, 1, 0}, nil, nil},
		{api.Nat{7}, api.Nat{1}, api.Nat{7}, nil},
		{api.Nat{7}, api.Nat{7}, api.Nat{1}, nil},
		{api.Nat{6}, api.Nat{7}, nil, api.Nat{6}},
		{api.Nat{8}, api.Nat{7}, api.Nat{1}, api.Nat{1}},
		{api.Nat{all}, api.Nat{0, 1}, nil, api.Nat{all}},
		{api.Nat{0, 1}, api.Nat{0, 1}, api.Nat{1}, nil},
		{api.Nat{0, 1}, api.Nat{all}, api.Nat{1}, api.Nat{1}},
		{api.Nat{0, 1}, api.Nat{2}, api.Nat{top}, nil},
		{api.Nat{5, 6}, api.Nat{0, 1}, api.Nat{6}, api.Nat{5}},
		{api.Nat{5, 6, 7}, api.Nat{0, 1}, api.Nat{6, 7}, api.Nat{5}},
		{api.Nat{5, 6, 7}, api.Nat{0, 0, 1}, api.Nat{7}, api.Nat{5, 6}},
		{api.Nat{5, 6, 7, 0, 0}, api.Nat{0, 0, 1, 0}, api.Nat{7}, api.Nat{5, 6}},
		{api.Nat{0, 0, 1}, api.Nat{1, 1}, api.Nat{all}, api.Nat{1}},
		{api.Nat{0, 0, 0, 1}, api.Nat{0, top}, api.Nat{0, 2}, nil},
	} {
		wantQR(t, c.a, c.b, c.q, c.r)
		wantQR(t, loose(c.a, 2), loose(c.b, 3), c.q, c.r)
	}
}

func TestDivOfSamples(t *testing.T) {
	for _, a := range samples() {
		for _, b := range samples() {
			if len(b) == 0 {
				continue
			}
			for _, noughts := range [][2]int{{0, 0}, {1, 0}, {0, 1}, {2, 3}, {0, 40}} {
				wantDiv(t, loose(a, noughts[0]), loose(b, noughts[1]))
			}
		}
	}
}

// Each length beside each length, and all places of the divisor's highest bit.
func TestDivOfEachLength(t *testing.T) {
	for lengthA := range 24 {
		for lengthB := 1; lengthB < 24; lengthB++ {
			wantDiv(t, mixed(lengthA, 1), mixed(lengthB, 2))
			wantDiv(t, filled(lengthA, all), mixed(lengthB, 3))
			wantDiv(t, filled(lengthA, all), filled(lengthB, all))
			wantDiv(t, mixed(lengthA, 4), oneAt(64*lengthB-1))
		}
	}
	for place := range 200 {
		for _, a := range []api.Nat{mixed(6, 5), filled(6, all), oneAt(200), oneAt(383)} {
			wantDiv(t, a, oneAt(place))
			less, _ := nat.Sub(oneAt(place+1), oneAt(0))
			wantDiv(t, a, less)
			wantDiv(t, a, nat.Add(oneAt(place), nat.Shr(mixed(4, 6), 255-place)))
		}
	}
}

func TestDivOfLengthsThatDiffer(t *testing.T) {
	for _, lengths := range [][2]int{{5000, 1}, {5000, 2}, {3000, 3}, {3000, 1500}, {2001, 1000}, {1000, 999}, {1000, 1000}, {999, 1000}, {2, 5000}, {1, 5000}, {0, 5000}} {
		m, n := lengths[0], lengths[1]
		wantDiv(t, mixed(m, 7), mixed(n, 8))
		wantDiv(t, filled(m, all), mixed(n, 9))
		wantDiv(t, filled(m, all), filled(n, all))
		wantDiv(t, loose(mixed(m, 10), 700), loose(mixed(n, 11), 6000))
	}
}

// About each product of b: one less, itself, one more.
func TestDivAboutProducts(t *testing.T) {
	one := api.Nat{1}
	for _, b := range samples()[1:] {
		for _, q := range samples()[1:] {
			a := product(t, q, b)
			wantQR(t, a, b, q, nil)
			lessQ, _ := nat.Sub(q, one)
			lessB, _ := nat.Sub(b, one)
			lessA, _ := nat.Sub(a, one)
			wantQR(t, lessA, b, lessQ, lessB)
			if slices.Equal(b, one) {
				wantQR(t, nat.Add(a, one), b, nat.Add(q, one), nil)
			} else {
				wantQR(t, nat.Add(a, one), b, q, one)
			}
			wantQR(t, nat.Add(a, lessB), b, q, lessB)
		}
	}
}

func TestDivOfEqualAndBelow(t *testing.T) {
	for _, b := range samples()[1:] {
		wantQR(t, b, b, api.Nat{1}, nil)
		wantQR(t, loose(b, 1), b, api.Nat{1}, nil)
		wantQR(t, b, loose(b, 2), api.Nat{1}, nil)
		less, _ := nat.Sub(b, api.Nat{1})
		wantQR(t, less, b, nil, less)
		wantQR(t, loose(less, 3), b, nil, less)
		half := nat.Shr(b, 1)
		wantQR(t, half, b, nil, half)
	}
}

// tooGreat counts how often a place's guess by two words is too great by 0, by 1 and by 2, by the library's numbers alone: both are shifted, so that the divisor's highest bit is the highest one of its word, and a guess is the two highest words of what is left by the divisor's highest one, at most 2^64 - 1. b has two words or more.
func tooGreat(a, b api.Nat) (count [3]int) {
	left, by := value(a), value(b)
	shift := uint(-by.BitLen()) % 64
	left.Lsh(left, shift)
	by.Lsh(by, shift)
	below := uint(by.BitLen() - 64)
	first := new(big.Int).Rsh(by, below)
	for place := len(a); place >= 0; place-- {
		part := new(big.Int).Rsh(left, uint(64*place))
		times := new(big.Int).Quo(part, by)
		guess := part.Rsh(part, below)
		guess.Quo(guess, first)
		if !guess.IsUint64() {
			guess.SetUint64(all)
		}
		count[guess.Sub(guess, times).Int64()]++
		times.Mul(times, by)
		left.Sub(left, times.Lsh(times, uint(64*place)))
	}
	return count
}

// Guesses that are right, too great once, and too great twice, written out; those above the highest word too, and those of several places.
func TestGuessesWrittenOut(t *testing.T) {
	for _, c := range []struct {
		a, b, q, r  api.Nat
		once, twice int
	}{
		{api.Nat{0, 0, 1}, api.Nat{0, top}, api.Nat{2}, nil, 0, 0},
		{api.Nat{0, 0, top - 1}, api.Nat{0, top}, api.Nat{all - 1}, nil, 0, 0},
		{api.Nat{0, 0, top}, api.Nat{1, top}, api.Nat{all}, api.Nat{1, top - 1}, 0, 0},
		{api.Nat{0, 0, 1}, api.Nat{1, top}, api.Nat{1}, api.Nat{all, top - 1}, 1, 0},
		{api.Nat{0, top}, api.Nat{1, top}, nil, api.Nat{0, top}, 1, 0},
		{api.Nat{0, 0, top}, api.Nat{top + 1, top}, api.Nat{all - 1}, api.Nat{2, top}, 1, 0},
		{api.Nat{0, 0, top}, api.Nat{all - 1, top}, api.Nat{all - 1}, api.Nat{all - 3, 3}, 1, 0},
		{api.Nat{0, 0, top - 1}, api.Nat{all - 1, top}, api.Nat{all - 3}, api.Nat{all - 7, 5}, 0, 1},
		{api.Nat{0, top, top - 1}, api.Nat{all - 1, top}, api.Nat{all - 2}, api.Nat{all - 5, 4}, 0, 1},
		{api.Nat{3, 0, top}, api.Nat{1, 0, 1 << 61}, api.Nat{3}, api.Nat{0, 0, 1 << 61}, 1, 0},
	} {
		count := tooGreat(c.a, c.b)
		if count[1] < c.once || count[2] < c.twice {
			t.Errorf("of %x, %x guesses are too great: %v", c.a, c.b, count)
		}
		sum := new(big.Int).Mul(value(c.b), value(c.q))
		wantNat(t, c.a, sum.Add(sum, value(c.r)), "a number written out", c.b, c.q, c.r)
		wantQR(t, c.a, c.b, c.q, c.r)
	}
}

// lists are all lists of so many words of few ones.
func lists(count int, of ...uint64) []api.Nat {
	out := []api.Nat{nil}
	for range count {
		var more []api.Nat
		for _, l := range out {
			for _, x := range of {
				more = append(more, append(slices.Clone(l), x))
			}
		}
		out = more
	}
	return out
}

// Numbers whose words are nearly all ones or noughts, all of few words: guesses are too great once and twice among them, at several places of one number too.
func TestGuessesOfOnesAndNoughts(t *testing.T) {
	edges := []uint64{0, 1, top - 1, top, all - 1, all}
	var wrong, several [3]int
	check := func(numbers, divisors []api.Nat) {
		for _, b := range divisors {
			if b[len(b)-1] == 0 {
				continue
			}
			for _, a := range numbers {
				wantDiv(t, a, b)
				for by, count := range tooGreat(a, b) {
					wrong[by] += count
					if count > 1 {
						several[by]++
					}
				}
			}
		}
	}
	check(lists(3, edges...), lists(2, edges...))
	check(lists(4, edges...), lists(2, 1, top, top+1, all))
	check(lists(4, 0, 1, top, all), lists(3, 0, top, all-1, all))
	check(lists(6, 0, top-1, all), lists(3, 0, top, all))
	for by := range wrong {
		if wrong[by] == 0 || several[by] == 0 {
			t.Errorf("no guess is too great by %d, or never at several places: %v, %v", by, wrong, several)
		}
	}
}

// Guesses that only the divisor's lowest words show to be wrong: those above them are noughts.
func TestGuessesThatLowWordsShow(t *testing.T) {
	for length := 3; length < 12; length++ {
		b := oneAt(64*length - 1)
		b[0] = 1
		for _, times := range []uint64{1, 2, 3, 1 << 32, top - 1, top, all - 1, all} {
			q := api.Nat{times}
			almost := product(t, oneAt(64*length-1), q) // below q times b
			wantDiv(t, almost, b)
			if count := tooGreat(almost, b); count[1] == 0 {
				t.Errorf("of %x, %x no guess is too great: %v", almost, b, count)
			}
			wantDiv(t, append(make(api.Nat, 3), almost...), b)
		}
	}
}

func TestWord(t *testing.T) {
	numbers := append(samples(), mixed(500, 12), filled(500, all), oneAt(10000))
	for _, a := range numbers {
		for _, b := range words() {
			for _, noughts := range []int{0, 1, 5} {
				wantWord(t, loose(a, noughts), b)
			}
		}
	}
}

func TestWordWrittenOut(t *testing.T) {
	for _, c := range []struct {
		a api.Nat
		b uint64
		q api.Nat
		r uint64
	}{
		{nil, 1, nil, 0},
		{nil, all, nil, 0},
		{api.Nat{0, 0}, 7, nil, 0},
		{api.Nat{6}, 7, nil, 6},
		{api.Nat{7}, 7, api.Nat{1}, 0},
		{api.Nat{8, 0, 0}, 7, api.Nat{1}, 1},
		{api.Nat{all}, 1, api.Nat{all}, 0},
		{api.Nat{5, 6, 7}, 1, api.Nat{5, 6, 7}, 0},
		{api.Nat{all - 1}, all, nil, all - 1},
		{api.Nat{all}, all, api.Nat{1}, 0},
		{api.Nat{0, 1}, all, api.Nat{1}, 1},
		{api.Nat{all, all}, all, api.Nat{1, 1}, 0},
		{api.Nat{all, all - 1}, all, api.Nat{all}, all - 1},
		{api.Nat{0, 1}, 1 << 63, api.Nat{2}, 0},
		{api.Nat{all}, 1 << 63, api.Nat{1}, 1<<63 - 1},
		{api.Nat{all, 1<<63 - 1}, 1 << 63, api.Nat{all}, 1<<63 - 1},
		{api.Nat{3, 1 << 63}, 1 << 63, api.Nat{0, 1}, 3},
	} {
		if q, r, e := Word(c.a, c.b); !slices.Equal(q, c.q) || r != c.r || e != api.OK {
			t.Errorf("P4.1: Word of %x, %x: %x, %x, error %d", c.a, c.b, q, r, e)
		}
	}
}

func TestByNothing(t *testing.T) {
	numbers := append(samples(), api.Nat{0}, api.Nat{0, 0, 0}, api.Nat{5, 0}, mixed(2000, 13))
	for _, a := range numbers {
		for _, nothing := range []api.Nat{nil, {}, {0}, {0, 0}, make(api.Nat, 100)} {
			if q, r, e := Div(a, nothing); len(q) != 0 || len(r) != 0 || e != api.ErrZero {
				t.Errorf("P4.1: Div of %v and %d words 0: %v, %v, error %d", a, len(nothing), q, r, e)
			}
			if r, e := Mod(a, nothing); len(r) != 0 || e != api.ErrZero {
				t.Errorf("P4.1: Mod of %v and %d words 0: %v, error %d", a, len(nothing), r, e)
			}
		}
		if q, r, e := Word(a, 0); len(q) != 0 || r != 0 || e != api.ErrZero {
			t.Errorf("P4.1: Word of %v, 0: %v, %d, error %d", a, q, r, e)
		}
	}
}

func TestProductsGoBack(t *testing.T) {
	numbers := append(samples(), mixed(100, 14), filled(200, all), oneAt(9999))
	for _, a := range numbers {
		for _, b := range numbers {
			if len(b) == 0 {
				continue
			}
			both := product(t, a, b)
			if q, r, e := Div(both, b); !slices.Equal(q, a) || len(r) != 0 || e != api.OK {
				t.Errorf("P4.2: Div of %v times %v, by that: %v, %v, error %d", a, b, q, r, e)
			}
			if r, e := Mod(both, b); len(r) != 0 || e != api.OK {
				t.Errorf("P4.2: Mod of %v times %v, by that: %v, error %d", a, b, r, e)
			}
			if word, is := nat.Small(b); is {
				if q, r, e := Word(both, word); !slices.Equal(q, a) || r != 0 || e != api.OK {
					t.Errorf("P4.2: Word of %v times %d, by that: %v, %d, error %d", a, word, q, r, e)
				}
			}
		}
	}
}

// left is what is left, of a b that is not 0.
func left(t *testing.T, a, b api.Nat) api.Nat {
	t.Helper()
	r, e := Mod(a, b)
	if e != api.OK {
		t.Errorf("P4.2: Mod of %v, %v: error %d", a, b, e)
	}
	if _, other, _ := Div(a, b); !slices.Equal(r, other) {
		t.Errorf("P4.1: of %v, %v is left %v by Mod, and %v by Div", a, b, r, other)
	}
	return r
}

func TestWhatIsLeftOfSums(t *testing.T) {
	for _, a := range samples() {
		for _, c := range samples() {
			for _, b := range samples()[1:] {
				rests := nat.Add(left(t, a, b), left(t, c, b))
				if got, want := left(t, nat.Add(a, c), b), left(t, rests, b); !slices.Equal(got, want) {
					t.Errorf("P4.2: of %v and %v by %v is left %v, not %v", a, c, b, got, want)
				}
			}
			for _, b := range words() {
				_, restA, _ := Word(a, b)
				_, restC, _ := Word(c, b)
				_, want, _ := Word(nat.Add(nat.Of(restA), nat.Of(restC)), b)
				if _, got, e := Word(nat.Add(a, c), b); got != want || e != api.OK {
					t.Errorf("P4.2: of %v and %v by %d is left %d, not %d, error %d", a, c, b, got, want, e)
				}
			}
		}
	}
}

// roomy copies a into a list with words of its own behind its end; whole is all of it.
func roomy(a api.Nat) (list, whole api.Nat) {
	whole = append(slices.Clone(a), 11, 12, 13, 14)
	return whole[:len(a)], whole
}

// spoil writes over a list, and over the room behind its end.
func spoil(l api.Nat) {
	l = l[:cap(l)]
	for i := range l {
		l[i] = ^l[i]
	}
}

// answers are all lists that all calls answer of both numbers.
func answers(a, b api.Nat) []api.Nat {
	q, r, _ := Div(a, b)
	mod, _ := Mod(a, b)
	var word uint64
	if len(b) > 0 {
		word = b[0]
	}
	byWord, _, _ := Word(a, word)
	return []api.Nat{q, r, mod, byWord}
}

func TestGivenStays(t *testing.T) {
	for _, a := range samples() {
		for _, b := range samples() {
			for _, noughts := range []int{0, 2} {
				x, wholeX := roomy(loose(a, noughts))
				y, wholeY := roomy(loose(b, noughts))
				beforeX, beforeY := slices.Clone(wholeX), slices.Clone(wholeY)
				answers(x, y)
				answers(x, x)
				if !slices.Equal(wholeX, beforeX) || !slices.Equal(wholeY, beforeY) {
					t.Fatalf("R3: a call of %v, %v changes what it is handed", a, b)
				}
			}
		}
	}
}

func TestAnsweredIsNew(t *testing.T) {
	for _, a := range samples() {
		for _, b := range samples() {
			x, wholeX := roomy(a)
			y, wholeY := roomy(b)
			beforeX, beforeY := slices.Clone(wholeX), slices.Clone(wholeY)
			want := answers(x, y)
			for spoiled := range want {
				got := answers(x, y)
				spoil(got[spoiled])
				if !slices.Equal(wholeX, beforeX) || !slices.Equal(wholeY, beforeY) {
					t.Fatalf("R3: a call of %v, %v answers what it was handed", a, b)
				}
				for i := range got {
					if i != spoiled && !slices.Equal(got[i], want[i]) {
						t.Errorf("R3: of %v, %v answers %d and %d share memory", a, b, spoiled, i)
					}
				}
			}
			got := answers(x, y)
			spoil(wholeX)
			spoil(wholeY)
			for i := range got {
				if !slices.Equal(got[i], want[i]) {
					t.Errorf("R3: of %v, %v answer %d is not in memory of its own", a, b, i)
				}
			}
		}
	}
}

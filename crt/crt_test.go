package crt

import (
	"math"
	"math/big"
	"slices"
	"strconv"
	"testing"

	"caltrop/api"
	"caltrop/div"
	"caltrop/mul"
	"caltrop/nat"
)

const (
	all = math.MaxUint64 // a word whose bits are all 1
	top = 1 << 63        // a word whose highest bit alone is 1
)

// oneAt is 2^place.
func oneAt(place int) api.Nat {
	a := make(api.Nat, place/64+1)
	a[place/64] = 1 << (place % 64)
	return a
}

// less is a without so many; there are as many.
func less(a api.Nat, count uint64) api.Nat {
	out, _ := nat.Sub(a, nat.Of(count))
	return out
}

// more is a and so many.
func more(a api.Nat, count uint64) api.Nat { return nat.Add(a, nat.Of(count)) }

// loose is a's number in words that may not be, unless noughts is 0.
func loose(a api.Nat, noughts int) api.Nat {
	return append(slices.Clone(a), make(api.Nat, noughts)...)
}

// fits tells whether words may be, by chapter 2.
func fits(a api.Nat) bool { return len(a) == 0 || a[len(a)-1] != 0 }

// numberOf is the number of words by the words of chapter 2 alone, in numbers of the library.
func numberOf(a api.Nat) *big.Int {
	out := new(big.Int)
	for _, x := range slices.Backward(a) {
		out.Lsh(out, 64).Add(out, new(big.Int).SetUint64(x))
	}
	return out
}

// wordsOf is a number of the library's in words that may be.
func wordsOf(x *big.Int) api.Nat { return nat.FromBytes(x.Bytes()) }

// product is that of all.
func product(factors ...api.Nat) api.Nat {
	out := big.NewInt(1)
	for _, a := range factors {
		out.Mul(out, numberOf(a))
	}
	return wordsOf(out)
}

// power is so many times a.
func power(a api.Nat, count int) api.Nat { return product(slices.Repeat([]api.Nat{a}, count)...) }

// row makes numbers of so many bits at most, without any order to be seen in them; another seed makes another row.
func row(seed uint64) func(size int) *big.Int {
	return func(size int) *big.Int {
		out := new(big.Int)
		for range size/64 + 1 {
			seed = seed*6364136223846793005 + 1442695040888963407
			out.Lsh(out, 64).Add(out, new(big.Int).SetUint64(seed^seed>>29))
		}
		return out.Rsh(out, uint(64-size%64))
	}
}

// picks makes numbers from 0 on below one, in a row.
func picks(seed uint64) func(below int) int {
	next := row(seed)
	return func(below int) int { return int(next(40).Int64() % int64(below)) }
}

// shuffled is l in another order.
func shuffled(l []Rest, pick func(below int) int) []Rest {
	out := slices.Clone(l)
	for i := range out {
		k := pick(i + 1)
		out[i], out[k] = out[k], out[i]
	}
	return out
}

// primes are so many, from a number on.
func primes(from api.Nat, count int) (out []api.Nat) {
	one := big.NewInt(1)
	for x := numberOf(from); len(out) < count; x.Add(x, one) {
		if x.ProbablyPrime(10) {
			out = append(out, wordsOf(x))
		}
	}
	return out
}

// rest is one of two words.
func rest(m, r uint64) Rest { return Rest{nat.Of(m), nat.Of(r)} }

// restsOf is what x leaves by all of ms, none of which is 0.
func restsOf(x *big.Int, ms ...api.Nat) []Rest {
	out := make([]Rest, len(ms))
	for i, m := range ms {
		out[i] = Rest{slices.Clone(m), wordsOf(new(big.Int).Mod(x, numberOf(m)))}
	}
	return out
}

// joined is what Join answers, and right what it should.
type joined struct {
	r, m *big.Int
	e    api.Errno
}

func refused(e api.Errno) joined { return joined{new(big.Int), new(big.Int), e} }

// rightOf is what Join promises, by the chapter's words and the library's numbers: R times all the other M and their inverse leaves R by M, and nothing by the others.
func rightOf(l []Rest) joined {
	one, m, r := big.NewInt(1), big.NewInt(1), new(big.Int)
	for _, x := range l {
		if !fits(x.M) || !fits(x.R) || len(x.M) == 0 || numberOf(x.R).Cmp(numberOf(x.M)) >= 0 {
			return refused(api.ErrArg)
		}
	}
	for _, x := range l {
		m.Mul(m, numberOf(x.M))
	}
	if m.BitLen() > api.MaxBits {
		return refused(api.ErrMany)
	}
	for i := range l {
		for k := range i {
			if new(big.Int).GCD(nil, nil, numberOf(l[i].M), numberOf(l[k].M)).Cmp(one) > 0 {
				return refused(api.ErrInv)
			}
		}
	}
	for _, x := range l {
		by := numberOf(x.M)
		if by.Cmp(one) == 0 {
			continue
		}
		others := new(big.Int).Quo(m, by)
		inverse := new(big.Int).ModInverse(others, by)
		r.Add(r, others.Mul(others, inverse).Mul(others, numberOf(x.R)))
	}
	return joined{r.Mod(r, m), m, api.OK}
}

// digits are those of a number to the base 16, words that may not be told as such; of a very long one how many bits there are.
func digits(a api.Nat) string {
	out := "0x" + numberOf(a[:min(len(a), 64)]).Text(16)
	if len(a) > 64 {
		out = "a number of " + strconv.Itoa(nat.Bits(a)) + " bits"
	}
	if !fits(a) {
		out += " in " + strconv.Itoa(len(a)) + " words"
	}
	return out
}

// text tells rests in some words, and how many they are.
func text(l []Rest) string {
	out := strconv.Itoa(len(l)) + " rests"
	for _, x := range l[:min(len(l), 8)] {
		out += ", " + digits(x.R) + " modulo " + digits(x.M)
	}
	return out
}

// hold holds Join against what is known.
func hold(t *testing.T, right joined, l ...Rest) {
	t.Helper()
	r, m, e := Join(l...)
	if !fits(r) || !fits(m) {
		t.Errorf("P21.1: Join of %s: the words %x, %x may not be", text(l), r, m)
	}
	if e != right.e || numberOf(r).Cmp(right.r) != 0 || numberOf(m).Cmp(right.m) != 0 {
		t.Errorf("P21.1: Join of %s: %s modulo %s, error %d, not %#x modulo %#x, error %d", text(l), digits(r), digits(m), e, right.r, right.m, right.e)
	}
	if e != api.OK && (len(r) != 0 || len(m) != 0) {
		t.Errorf("R2: Join of %s: error %d, and the words %x, %x", text(l), e, r, m)
	}
}

// want holds Join against what is written out.
func want(t *testing.T, r, m api.Nat, l ...Rest) {
	t.Helper()
	hold(t, joined{numberOf(r), numberOf(m), api.OK}, l...)
}

// wantError holds an error, beside which there is nothing.
func wantError(t *testing.T, e api.Errno, l ...Rest) {
	t.Helper()
	hold(t, refused(e), l...)
}

// wantRight holds Join against rightOf.
func wantRight(t *testing.T, l ...Rest) {
	t.Helper()
	hold(t, rightOf(l), l...)
}

// with is l with x ahead of the rest at a place, or behind all.
func with(l []Rest, place int, x ...Rest) []Rest { return slices.Insert(slices.Clone(l), place, x...) }

// turned is l from a place on, and what is ahead of it behind that.
func turned(l []Rest, place int) []Rest { return append(slices.Clone(l[place:]), l[:place]...) }

// backward is l, the last one first.
func backward(l []Rest) []Rest {
	out := slices.Clone(l)
	slices.Reverse(out)
	return out
}

func TestExamples(t *testing.T) {
	want(t, nat.Of(8), nat.Of(15), rest(3, 2), rest(5, 3))
	want(t, nil, nat.Of(1))
}

func TestOfNone(t *testing.T) {
	want(t, nil, nat.Of(1), []Rest(nil)...)
	want(t, nil, nat.Of(1), []Rest{}...)
	want(t, nil, nat.Of(1), []Rest{rest(0, 0)}[:0]...)
}

func TestWrittenOut(t *testing.T) {
	for _, c := range []struct {
		r, m api.Nat
		l    []Rest
	}{
		{nat.Of(23), nat.Of(105), []Rest{rest(3, 2), rest(5, 3), rest(7, 2)}},
		{nat.Of(1), nat.Of(2), []Rest{rest(2, 1)}},
		{nat.Of(0), nat.Of(6), []Rest{rest(2, 0), rest(3, 0)}},
		{nat.Of(1), nat.Of(6), []Rest{rest(2, 1), rest(3, 1)}},
		{nat.Of(5), nat.Of(6), []Rest{rest(2, 1), rest(3, 2)}},
		{nat.Of(4), nat.Of(6), []Rest{rest(3, 1), rest(2, 0)}},
		{nat.Of(39), nat.Of(60), []Rest{rest(3, 0), rest(4, 3), rest(5, 4)}},
		{nat.Of(11), nat.Of(72), []Rest{rest(9, 2), rest(8, 3)}},
		{nat.Of(59), nat.Of(60), []Rest{rest(5, 4), rest(12, 11)}},
		{nat.Of(301), nat.Of(420), []Rest{rest(60, 1), rest(7, 0)}},
		{nat.Of(34), nat.Of(35), []Rest{rest(5, 4), rest(1, 0), rest(7, 6)}},
		{api.Nat{1, all - 1}, api.Nat{0, all}, []Rest{{oneAt(64), nat.Of(1)}, rest(all, 0)}},
		{api.Nat{0, 1}, api.Nat{0, all}, []Rest{rest(all, 1), {oneAt(64), nil}}},
		{api.Nat{all - 1, all - 1}, api.Nat{0, all}, []Rest{{oneAt(64), nat.Of(all - 1)}, rest(all, all-1-1)}},
		{api.Nat{0, 0, 1}, api.Nat{0, 0, all, all}, []Rest{{oneAt(128), nil}, {api.Nat{all, all}, nat.Of(1)}}},
		{api.Nat{all, all, all - 1, all}, api.Nat{0, 0, all, all}, []Rest{{oneAt(128), api.Nat{all, all}}, {api.Nat{all, all}, api.Nat{all - 1, all}}}},
	} {
		want(t, c.r, c.m, c.l...)
		want(t, c.r, c.m, backward(c.l)...)
	}
}

// edges are lists of rests of one M, from M 0 to most, with all R up to M and one above it.
func edges(most uint64) (out []Rest) {
	for m := range most + 1 {
		for r := range m + 2 {
			out = append(out, rest(m, r))
		}
	}
	return out
}

// tried tries all numbers below the product; a list of small rests that may not be is refused by the chapter's words.
func tried(l []Rest) joined {
	var ms, rs []uint64
	m := uint64(1)
	for _, x := range l {
		by, _ := nat.Small(x.M)
		left, _ := nat.Small(x.R)
		if left >= by {
			return refused(api.ErrArg)
		}
		ms, rs, m = append(ms, by), append(rs, left), m*by
	}
	for d := uint64(2); d <= m; d++ {
		if count := len(slices.DeleteFunc(slices.Clone(ms), func(by uint64) bool { return by%d != 0 })); count > 1 {
			return refused(api.ErrInv)
		}
	}
	for x := range m {
		if leaves(x, ms, rs) {
			return joined{new(big.Int).SetUint64(x), new(big.Int).SetUint64(m), api.OK}
		}
	}
	panic("no number leaves all of them")
}

func leaves(x uint64, ms, rs []uint64) bool {
	for i, m := range ms {
		if x%m != rs[i] {
			return false
		}
	}
	return true
}

// Small lists whole: all M up to a few, all R, of one rest to four.
func TestTried(t *testing.T) {
	for _, a := range edges(40) {
		hold(t, tried([]Rest{a}), a)
	}
	for _, a := range edges(14) {
		for _, b := range edges(14) {
			hold(t, tried([]Rest{a, b}), a, b)
		}
	}
	for _, a := range edges(6) {
		for _, b := range edges(6) {
			for _, c := range edges(6) {
				hold(t, tried([]Rest{a, b, c}), a, b, c)
			}
		}
	}
	for _, a := range edges(3) {
		for _, b := range edges(4) {
			for _, c := range edges(5) {
				for _, d := range edges(3) {
					hold(t, tried([]Rest{a, b, c, d}), a, b, c, d)
				}
			}
		}
	}
}

// Three and four M of which no two have a common factor, with all numbers below their product.
func TestAllBelowTheProduct(t *testing.T) {
	for _, ms := range [][]api.Nat{{{2}, {3}, {5}}, {{4}, {9}, {5}}, {{7}, {8}, {9}}, {{16}, {15}, {7}}, {{2}, {3}, {5}, {7}}, {{11}, {1}, {6}, {5}}, {{13}, {12}, {5}}, {{1}, {31}, {30}}} {
		m := numberOf(product(ms...))
		for x := new(big.Int); x.Cmp(m) < 0; x.Add(x, big.NewInt(1)) {
			l := restsOf(x, ms...)
			want(t, wordsOf(x), wordsOf(m), l...)
			want(t, wordsOf(x), wordsOf(m), backward(l)...)
		}
	}
}

// samples are M from 1 on, of one word and of more, with all kinds of ends.
func samples() []api.Nat {
	out := []api.Nat{
		{1}, {2}, {3}, {4}, {5}, {6}, {7}, {8}, {9}, {10}, {97}, {360}, {65521}, {1<<31 - 1}, {1<<32 - 1}, {1 << 32}, {1<<32 + 1}, {1<<61 - 1},
		{top - 1}, {top}, {top + 1}, {all - 58}, {all - 1}, {all}, {0, 1}, {1, 1}, {13, 1}, {all, 1}, {0, top}, {1, top}, {all, top}, {all - 1, all}, {all, all},
		{0, 0, 1}, {1, 0, 1}, {51, 0, 1}, {all, all, all}, power(api.Nat{3}, 81), power(api.Nat{3}, 200), power(api.Nat{5}, 110), power(api.Nat{2}, 255), less(oneAt(521), 1), less(oneAt(511), 1), oneAt(512), more(oneAt(512), 1),
	}
	return out
}

// restsBy are what may be left by m, and some words more: 0, 1, the half, the greatest ones, m itself, and what is above it, and longer.
func restsBy(m api.Nat) []api.Nat {
	out := []api.Nat{nil, {1}, nat.Shr(m, 1), less(m, 1), m, more(m, 1), product(m, m), append(slices.Clone(m), 1), oneAt(64 * len(m)), oneAt(2000)}
	if nat.Bits(m) > 1 {
		out = append(out, less(m, 2), nat.Shr(m, nat.Bits(m)/2))
	}
	return out
}

func TestOfOne(t *testing.T) {
	for _, m := range samples() {
		for _, r := range restsBy(m) {
			if nat.Cmp(r, m) < 0 {
				want(t, r, m, Rest{m, r})
			} else {
				wantError(t, api.ErrArg, Rest{m, r})
			}
		}
	}
}

// All pairs of samples, most of which have no common factor.
func TestOfTwo(t *testing.T) {
	for _, m := range samples() {
		for _, n := range samples() {
			for i, r := range restsBy(m) {
				by := restsBy(n)
				wantRight(t, Rest{m, r}, Rest{n, by[i%len(by)]})
				wantRight(t, Rest{m, r}, Rest{n, by[(i+1)%4]})
			}
		}
	}
}

func TestOfThree(t *testing.T) {
	next := row(1)
	for i, a := range samples() {
		for k, b := range samples() {
			for _, c := range samples()[(i+k)%3:] {
				wantRight(t, restsOf(next(600), a, b, c)...)
			}
		}
	}
}

// base are rests that join, to 23 modulo 105.
func base() []Rest { return []Rest{rest(3, 2), rest(5, 3), rest(7, 2)} }

func TestNoM(t *testing.T) {
	for _, r := range []api.Nat{nil, {}, {1}, {2}, {all}, {0, 1}, oneAt(1024)} {
		for _, none := range []api.Nat{nil, {}} {
			wantError(t, api.ErrArg, Rest{none, r})
			wantError(t, api.ErrArg, Rest{none, r}, Rest{none, r})
			for place := range 4 {
				wantError(t, api.ErrArg, with(base(), place, Rest{none, r})...)
			}
		}
	}
}

func TestMOfOne(t *testing.T) {
	one := rest(1, 0)
	for count := range 6 {
		want(t, nil, nat.Of(1), slices.Repeat([]Rest{one}, count)...)
		for place := range 4 {
			want(t, nat.Of(23), nat.Of(105), with(base(), place, slices.Repeat([]Rest{one}, count)...)...)
		}
	}
	want(t, nat.Of(23), nat.Of(105), one, rest(3, 2), one, one, rest(5, 3), one, rest(7, 2), one)
	for _, r := range []api.Nat{{1}, {2}, {all}, {0, 1}, {1, 1}} {
		wantError(t, api.ErrArg, Rest{nat.Of(1), r})
		for place := range 4 {
			wantError(t, api.ErrArg, with(base(), place, Rest{nat.Of(1), r})...)
		}
	}
	for _, m := range samples() {
		want(t, less(m, 1), m, one, Rest{m, less(m, 1)})
		want(t, less(m, 1), m, Rest{m, less(m, 1)}, one, one)
	}
}

func TestMOfTwo(t *testing.T) {
	want(t, nil, nat.Of(2), rest(2, 0))
	want(t, nat.Of(1), nat.Of(2), rest(2, 1))
	wantError(t, api.ErrArg, rest(2, 2))
	wantError(t, api.ErrArg, rest(2, 3))
	wantError(t, api.ErrInv, rest(2, 1), rest(2, 1))
	for place := range 4 {
		want(t, nat.Of(128), nat.Of(210), with(base(), place, rest(2, 0))...)
		want(t, nat.Of(23), nat.Of(210), with(base(), place, rest(2, 1))...)
		wantError(t, api.ErrArg, with(base(), place, rest(2, 2))...)
	}
}

// The greatest R that may be, and the least that may not, at each place.
func TestRBesideM(t *testing.T) {
	for _, m := range []api.Nat{{11}, {1<<32 - 5}, {1 << 32}, {all - 58}, {0, 1}, {13, 1}, {all, all, 7}, less(oneAt(521), 1), oneAt(521)} {
		l := base()
		for place := range len(l) + 1 {
			wantRight(t, with(l, place, Rest{m, less(m, 1)})...)
			for _, r := range []api.Nat{m, more(m, 1), more(m, all), product(m, nat.Of(2)), append(slices.Clone(m), 1), oneAt(64 * len(m)), oneAt(1024), oneAt(5000)} {
				wantError(t, api.ErrArg, with(l, place, Rest{m, r})...)
			}
		}
	}
	// R below M by its lowest words alone, and above M by them alone.
	want(t, api.Nat{4, 9, 7}, api.Nat{5, 9, 7}, Rest{api.Nat{5, 9, 7}, api.Nat{4, 9, 7}})
	want(t, api.Nat{all, all, 6}, api.Nat{0, 0, 7}, Rest{api.Nat{0, 0, 7}, api.Nat{all, all, 6}})
	wantError(t, api.ErrArg, Rest{api.Nat{5, 9, 7}, api.Nat{6, 9, 7}})
	wantError(t, api.ErrArg, Rest{api.Nat{5, 9, 7}, api.Nat{0, 0, 8}})
}

// faulty are rests whose words may not be.
func faulty() (out []Rest) {
	for _, noughts := range []int{1, 2, 40} {
		for _, m := range []api.Nat{{11}, {0, 1}, {all, all}, oneAt(700)} {
			out = append(out, Rest{loose(m, noughts), less(m, 1)}, Rest{m, loose(less(m, 1), noughts)}, Rest{m, loose(nil, noughts)}, Rest{loose(m, noughts), nil}, Rest{loose(m, noughts), loose(nat.Of(1), noughts)})
		}
		out = append(out, Rest{loose(nil, noughts), nil}, Rest{loose(nil, noughts), loose(nil, noughts)}, Rest{nil, loose(nil, noughts)}, Rest{nat.Of(1), loose(nil, noughts)}, Rest{loose(nat.Of(1), noughts), nil}, Rest{loose(oneAt(1024), noughts), nil}, Rest{oneAt(1024), loose(nil, noughts)})
	}
	return out
}

func TestWordsThatMayNotBe(t *testing.T) {
	tooLong, common := []Rest{{oneAt(1000), nil}, {power(api.Nat{3}, 30), nil}}, []Rest{rest(6, 1), rest(15, 1)}
	for _, x := range faulty() {
		wantError(t, api.ErrArg, x)
		wantError(t, api.ErrArg, x, x)
		for _, l := range [][]Rest{base(), tooLong, common, append(slices.Clone(tooLong), common...), {rest(1, 0), rest(1, 0)}, {{oneAt(1024), nil}}, {rest(5, 5)}, {{}}} {
			for place := range len(l) + 1 {
				wantError(t, api.ErrArg, with(l, place, x)...)
			}
		}
	}
}

// An R that is not below its M behind other faults, and ahead of them.
func TestArgAheadOfAll(t *testing.T) {
	tooLong, common := []Rest{{oneAt(1000), nil}, {power(api.Nat{3}, 30), nil}}, []Rest{rest(6, 1), rest(15, 2)}
	for _, x := range []Rest{{}, rest(0, 1), rest(1, 1), rest(5, 5), rest(5, 6), {oneAt(1024), oneAt(1024)}, {oneAt(2000), oneAt(3000)}, {nat.Of(7), oneAt(64)}} {
		for _, l := range [][]Rest{tooLong, common, append(slices.Clone(common), tooLong...), append(slices.Clone(tooLong), common...)} {
			for place := range len(l) + 1 {
				wantError(t, api.ErrArg, with(l, place, x)...)
			}
		}
	}
}

// ofBits are so many primes from 3 on, and a power of 2 that brings their product to so many bits.
func ofBits(size, count int) []api.Nat {
	out := primes(nat.Of(3), count)
	return append(out, oneAt(size-nat.Bits(product(out...))))
}

func TestMostBits(t *testing.T) {
	const most = api.MaxBits
	next := row(2)
	for _, count := range []int{0, 1, 2, 3, 10, 50, 100, 129} {
		for _, size := range []int{most - 1, most, most + 1, most + 2, most + 64, 2 * most} {
			ms := ofBits(size, count)
			if got := nat.Bits(product(ms...)); got != size {
				t.Fatalf("the product has %d bits, not %d", got, size)
			}
			l := restsOf(next(size), ms...)
			for _, l := range [][]Rest{l, backward(l), turned(l, len(l)/2)} {
				wantRight(t, l...)
				if _, _, e := Join(l...); (e == api.ErrMany) != (size > most) || size <= most && e != api.OK {
					t.Errorf("P21.1: Join of %s, whose product has %d bits: error %d", text(l), size, e)
				}
				wantRight(t, append(slices.Clone(l), rest(1, 0))...)
				wantRight(t, append(slices.Repeat([]Rest{rest(1, 0)}, 3), l...)...)
				wantError(t, api.ErrArg, append(slices.Clone(l), rest(0, 0))...)
				wantError(t, api.ErrArg, with(l, len(l)/2, rest(0, 0))...)
				wantError(t, api.ErrArg, append(slices.Clone(l), rest(1, 1))...)
			}
		}
	}
}

// Products beside 2^1024: bits of single M tell nothing, since those of a product are as many as theirs together or one less.
func TestProductsBesideTheMost(t *testing.T) {
	greatest := less(oneAt(1024), 1) // the product of 2^512 - 1 and 2^512 + 1
	want(t, less(greatest, 1), greatest, Rest{greatest, less(greatest, 1)})
	want(t, less(greatest, 1), greatest, Rest{less(oneAt(512), 1), less(oneAt(512), 2)}, Rest{more(oneAt(512), 1), oneAt(512)})
	want(t, oneAt(512), greatest, Rest{less(oneAt(512), 1), nat.Of(1)}, Rest{more(oneAt(512), 1), oneAt(512)})
	want(t, nat.Of(9), oneAt(1023), Rest{oneAt(1023), nat.Of(9)})
	wantError(t, api.ErrMany, Rest{oneAt(1024), nil})
	wantError(t, api.ErrMany, Rest{more(oneAt(1024), 1), oneAt(1024)})
	wantError(t, api.ErrMany, Rest{oneAt(512), nil}, Rest{more(oneAt(512), 1), nil})
	wantRight(t, Rest{oneAt(512), less(oneAt(512), 1)}, Rest{less(oneAt(512), 1), oneAt(511)})
	wantRight(t, Rest{oneAt(512), less(oneAt(512), 1)}, Rest{more(oneAt(511), 1), oneAt(511)})
	wantError(t, api.ErrMany, Rest{oneAt(1023), nil}, rest(3, 1))
	wantRight(t, Rest{oneAt(1022), oneAt(1021)}, rest(3, 1))
	wantError(t, api.ErrMany, Rest{oneAt(1022), oneAt(1021)}, rest(5, 1))
	wantError(t, api.ErrMany, Rest{greatest, nil}, rest(2, 1))
	wantError(t, api.ErrMany, rest(2, 1), Rest{greatest, nil})
	want(t, nil, greatest, rest(1, 0), Rest{greatest, nil}, rest(1, 0))
	// The greatest power of 3 that may be is 3^645, the greatest of 5 5^441.
	wantRight(t, Rest{power(api.Nat{3}, 645), oneAt(1000)}, rest(2, 1))
	wantError(t, api.ErrMany, Rest{power(api.Nat{3}, 646), nil}, rest(2, 1))
	wantError(t, api.ErrMany, Rest{power(api.Nat{5}, 441), nil}, rest(2, 1))
	wantRight(t, Rest{power(api.Nat{5}, 440), oneAt(1000)}, rest(2, 1))
}

// An M that alone is too long, by far, too: nothing is asked of factors, nothing takes long.
func TestTooLongAlone(t *testing.T) {
	for _, size := range []int{1024, 1025, 1087, 1088, 2048, 65536, 65600, 1 << 23} {
		m := oneAt(size)
		for place := range 4 {
			wantError(t, api.ErrMany, with(base(), place, Rest{m, nil})...)
			wantError(t, api.ErrMany, with(base(), place, Rest{m, nat.Of(5)}, rest(1, 0))...)
			wantError(t, api.ErrMany, with(base(), place, Rest{m, less(m, 1)}, Rest{m, nil})...)
			wantError(t, api.ErrArg, with(base(), place, Rest{m, nil}, rest(0, 0))...)
			wantError(t, api.ErrArg, with(base(), place, Rest{m, m})...)
		}
	}
}

// A product that is too long goes ahead of a common factor, wherever both stand.
func TestManyAheadOfInv(t *testing.T) {
	great, prime := power(api.Nat{3}, 600), less(oneAt(521), 1)
	for _, l := range [][]Rest{
		{{great, nil}, {great, nil}},
		{{prime, nat.Of(5)}, {prime, nat.Of(5)}},
		{{prime, nat.Of(5)}, {prime, nat.Of(6)}},
		{rest(2, 1), rest(2, 1), {oneAt(1023), nil}},
		{rest(6, 1), rest(15, 1), {great, nil}, {oneAt(100), nil}},
		{rest(6, 1), {great, nil}, {oneAt(100), nil}, rest(35, 1)},
		{{oneAt(1022), nil}, rest(4, 0), rest(1, 0)},
		{{oneAt(1024), nil}, {oneAt(1024), nil}},
	} {
		for place := range l {
			wantError(t, api.ErrMany, turned(l, place)...)
			wantError(t, api.ErrMany, backward(turned(l, place))...)
		}
	}
	// One bit less, and it is the common factor that is told.
	wantError(t, api.ErrInv, Rest{oneAt(1022), nil}, rest(2, 0), rest(1, 0))
	wantError(t, api.ErrInv, rest(2, 1), Rest{oneAt(1022), nat.Of(1)})
	wantError(t, api.ErrInv, Rest{oneAt(511), nil}, Rest{oneAt(512), nil})
}

// Two M that have a common factor, with rests of one number, which fit together, and with other ones.
func TestCommonFactors(t *testing.T) {
	p, q := nat.Of(all-58), less(oneAt(521), 1)
	between := restsOf(big.NewInt(1000), nat.Of(11), nat.Of(1), nat.Of(13), nat.Of(17), nat.Of(1))
	for _, c := range [][2]api.Nat{
		{{2}, {2}}, {{3}, {3}}, {{4}, {6}}, {{6}, {4}}, {{2}, {4}}, {{4}, {2}}, {{9}, {3}}, {{6}, {15}}, {{10}, {15}}, {{25}, {35}}, {{all}, {all}}, {{all}, {3}}, {{5}, {all}},
		{p, p}, {p, product(p, p)}, {product(p, nat.Of(2)), product(p, nat.Of(3))}, {product(p, oneAt(70)), product(p, nat.Of(3))}, {p, product(p, nat.Of(15))},
		{{0, 1}, {2}}, {{0, 1}, {0, 1}}, {{0, 1}, {6}}, {oneAt(200), {top}}, {oneAt(64), oneAt(128)}, {power(api.Nat{3}, 100), power(api.Nat{3}, 41)}, {power(api.Nat{3}, 100), {6}},
		{q, product(q, nat.Of(1))}, {{1, 1}, {274177}}, {{67280421310721}, {1, 1}}, {less(oneAt(127), 1), product(less(oneAt(127), 1), nat.Of(4))},
	} {
		right := api.ErrInv
		if nat.Bits(product(c[0], c[1], nat.Of(11*13*17))) > api.MaxBits {
			right = api.ErrMany
		}
		for _, x := range []*big.Int{big.NewInt(0), big.NewInt(1), numberOf(oneAt(90)), numberOf(less(c[0], 1))} {
			l := restsOf(x, c[0], c[1])
			far := slices.Concat(l[:1], between, l[1:])
			if right == api.ErrInv {
				wantError(t, right, l...)
				wantError(t, right, backward(l)...)
			}
			wantError(t, right, far...)
			wantError(t, right, backward(far)...)
			wantError(t, right, turned(far, 3)...)
			other := Rest{c[1], wordsOf(new(big.Int).Mod(new(big.Int).Add(x, big.NewInt(1)), numberOf(c[1])))}
			far[len(far)-1] = other
			wantError(t, right, far...)
			wantError(t, right, turned(far, 5)...)
		}
	}
}

// No two are without a common factor, or two alone are with one; all together have none.
func TestCommonFactorsOfSome(t *testing.T) {
	for _, l := range [][]uint64{{6, 10, 15}, {15, 6, 10}, {14, 21, 6}, {35, 10, 14}, {6, 35, 10}, {2, 3, 4}, {4, 3, 2}, {3, 4, 2}, {3, 5, 7, 11, 13, 39}, {39, 3, 5, 7, 11}, {5, 7, 77, 3, 2, 11}, {30, 77, 13, 1, 17, 19, 34}} {
		var ms []api.Nat
		for _, m := range l {
			ms = append(ms, nat.Of(m))
		}
		for _, x := range []int64{0, 1, 29, 1000} {
			rests := restsOf(big.NewInt(x), ms...)
			for place := range rests {
				wantError(t, api.ErrInv, turned(rests, place)...)
				wantError(t, api.ErrInv, backward(turned(rests, place))...)
			}
		}
	}
}

// 120 primes, one of which comes twice, wherever its two places are.
func TestOneTwiceAmongMany(t *testing.T) {
	ms := primes(nat.Of(2), 120)
	l := restsOf(row(3)(1000), ms...)
	wantRight(t, l...)
	for i := 0; i < len(l); i += 7 {
		for place := 0; place <= len(l); place += 11 {
			wantError(t, api.ErrInv, with(l, place, l[i])...)
			wantError(t, api.ErrInv, with(l, place, Rest{l[i].M, nil})...)
		}
	}
}

// Primes of each count up to what may be, and more, alone and as a few hundred rests, with M 1 between them.
func TestManyRests(t *testing.T) {
	ms := primes(nat.Of(2), 140)
	next := row(4)
	for count := range ms {
		x := next(1100)
		l := restsOf(x, ms[:count]...)
		wantRight(t, l...)
		wantRight(t, backward(l)...)
		var between []Rest
		for _, one := range l {
			between = append(between, rest(1, 0), one, rest(1, 0))
		}
		wantRight(t, between...)
		right := rightOf(l)
		if isLong := nat.Bits(product(ms[:count]...)) > api.MaxBits; isLong != (right.e == api.ErrMany) || !isLong && right.e != api.OK {
			t.Errorf("P21.1: %d primes: error %d", count, right.e)
		}
	}
}

// As many rests as one likes, if nearly all are of M 1.
func TestVeryManyRests(t *testing.T) {
	l := slices.Repeat([]Rest{rest(1, 0)}, 100000)
	want(t, nil, nat.Of(1), l...)
	l[0], l[50000], l[len(l)-1] = rest(3, 2), rest(5, 3), rest(7, 2)
	want(t, nat.Of(23), nat.Of(105), l...)
	l[70000] = rest(10, 3)
	wantError(t, api.ErrInv, l...)
	l[80000] = Rest{oneAt(1023), nil}
	wantError(t, api.ErrMany, l...)
	l[90000] = rest(1, 1)
	wantError(t, api.ErrArg, l...)
}

func TestPowers(t *testing.T) {
	next := row(5)
	for i := 0; i <= 512; i += 1 + i/16 {
		for k := 0; k <= 322; k += 1 + k/5 {
			two, three := oneAt(i), power(api.Nat{3}, k)
			l := restsOf(next(1024), two, three)
			wantRight(t, l...)
			wantRight(t, l[1], l[0])
		}
	}
	// A power, and all powers of other primes beside it.
	l := restsOf(next(1000), oneAt(64), power(api.Nat{3}, 41), power(api.Nat{5}, 28), power(api.Nat{7}, 23), power(api.Nat{11}, 19), power(api.Nat{13}, 18), power(api.Nat{61}, 20))
	for place := range l {
		wantRight(t, turned(l, place)...)
	}
}

// n and n + 1 never have a common factor; n and n + 2 have one just if n is even.
func TestNeighbours(t *testing.T) {
	next := row(6)
	for _, place := range []int{1, 2, 3, 8, 16, 31, 32, 33, 62, 63, 64, 65, 95, 96, 127, 128, 129, 192, 255, 256, 400, 510, 511} {
		for off := range uint64(6) {
			n := more(oneAt(place), off)
			if place > 3 {
				n = less(n, 3)
			}
			for _, x := range []*big.Int{new(big.Int), big.NewInt(1), numberOf(n), next(1000)} {
				l := restsOf(x, n, more(n, 1))
				wantRight(t, l...)
				wantRight(t, backward(l)...)
				if _, _, e := Join(l...); e != api.OK {
					t.Errorf("P21.1: Join of %s: error %d", text(l), e)
				}
				l = restsOf(x, n, more(n, 2))
				wantRight(t, l...)
				if _, _, e := Join(l...); (e == api.ErrInv) != (numberOf(n).Bit(0) == 0) {
					t.Errorf("P21.1: Join of %s: error %d", text(l), e)
				}
			}
		}
	}
}

// Great primes of one word to eight, beside each other and beside small ones.
func TestGreatPrimes(t *testing.T) {
	next := row(7)
	for _, size := range []int{16, 31, 32, 33, 62, 63, 64, 65, 127, 128, 129, 191, 192, 193, 255, 256, 257, 340, 500, 511} {
		ms := primes(oneAt(size), 2)
		ms = append(ms, primes(less(oneAt(size), 100), 1)...)
		for count := range 4 {
			for _, x := range []*big.Int{new(big.Int), big.NewInt(1), numberOf(less(ms[0], 1)), next(size), next(1100)} {
				l := restsOf(x, ms[:count]...)
				wantRight(t, l...)
				wantRight(t, append(l, restsOf(x, nat.Of(2), nat.Of(3), nat.Of(61))...)...)
				wantRight(t, append(restsOf(x, nat.Of(2), nat.Of(3), nat.Of(61)), l...)...)
			}
		}
	}
}

// wholes tells by the layers below what P21.1 asks of an answer: m is the product, r is below m, and leaves R by M, of each.
func wholes(t *testing.T, l []Rest) {
	t.Helper()
	r, m, e := Join(l...)
	if e != api.OK {
		t.Errorf("P21.1: Join of %s: error %d", text(l), e)
		return
	}
	right := nat.Of(1)
	for _, x := range l {
		right = mul.Mul(right, x.M)
		if left, _ := div.Mod(r, x.M); !slices.Equal(left, x.R) {
			t.Errorf("P21.1: Join of %s: %x leaves %x by %x, not %x", text(l), r, left, x.M, x.R)
		}
	}
	if !slices.Equal(m, right) {
		t.Errorf("P21.1: Join of %s: modulo %x, not %x", text(l), m, right)
	}
	if nat.Cmp(r, m) >= 0 {
		t.Errorf("P21.1: Join of %s: %x is not below %x", text(l), r, m)
	}
}

// lists are M of which no two have a common factor.
func lists() [][]api.Nat {
	return [][]api.Nat{
		nil, {{1}}, {{2}}, {{360}}, {{2}, {3}}, {{1}, {1}, {5}, {1}}, primes(nat.Of(2), 18), primes(nat.Of(2), 131), primes(nat.Of(1<<16), 60), primes(nat.Of(1<<32), 31), primes(nat.Of(1<<60), 16), primes(nat.Of(all-1000), 15),
		primes(oneAt(64), 15), primes(oneAt(127), 8), primes(oneAt(340), 3), {less(oneAt(521), 1), oneAt(503)}, {less(oneAt(127), 1), less(oneAt(521), 1), less(oneAt(89), 1), oneAt(280)},
		{{4294967291}, {1 << 32}, {1<<32 + 1}}, {{all}, {0, 1}, {1, 1}}, {{top - 1}, {top}, {top + 1}, {7919}}, {{all, all}, {0, 0, 1}, {1, 0, 1}}, {power(api.Nat{2}, 200), power(api.Nat{3}, 200), power(api.Nat{5}, 200)},
		{more(oneAt(1), 1), more(oneAt(2), 1), more(oneAt(4), 1), more(oneAt(8), 1), more(oneAt(16), 1), more(oneAt(32), 1), more(oneAt(64), 1), more(oneAt(128), 1), more(oneAt(256), 1), oneAt(512)},
	}
}

func TestGreat(t *testing.T) {
	next := row(8)
	for _, ms := range lists() {
		for range 20 {
			l := make([]Rest, len(ms))
			for i, m := range ms {
				l[i] = Rest{m, wordsOf(new(big.Int).Mod(next(1100), numberOf(m)))}
			}
			wholes(t, l)
			wantRight(t, l...)
		}
	}
}

// The rests of a number below the product lead back to it.
func TestLeadsBack(t *testing.T) {
	next := row(9)
	for _, ms := range lists() {
		m := numberOf(product(ms...))
		numbers := []*big.Int{new(big.Int), new(big.Int).Sub(m, big.NewInt(1)), new(big.Int).Rsh(m, 1)}
		for size := 1; size < m.BitLen(); size += 1 + size/8 {
			numbers = append(numbers, next(size), numberOf(oneAt(size-1)), numberOf(less(oneAt(size), 1)))
		}
		for _, x := range numbers {
			want(t, wordsOf(x), wordsOf(m), restsOf(x, ms...)...)
		}
	}
}

func TestOrderSaysNothing(t *testing.T) {
	next, pick := row(10), picks(14)
	for _, ms := range lists() {
		l := restsOf(next(1000), ms...)
		right := rightOf(l)
		hold(t, right, backward(l)...)
		for range 12 {
			hold(t, right, shuffled(l, pick)...)
		}
	}
	for _, l := range [][]Rest{{rest(2, 1), rest(6, 1), rest(5, 1), rest(7, 0)}, {rest(5, 5), rest(2, 0), rest(2, 1), {oneAt(1024), nil}}, {{oneAt(1000), nil}, rest(9, 0), rest(27, 1), {power(api.Nat{5}, 20), nil}}} {
		right := rightOf(l)
		for range 30 {
			hold(t, right, shuffled(l, pick)...)
		}
	}
}

// Those of a part, joined, join with the others to the same.
func TestParts(t *testing.T) {
	next := row(11)
	for _, ms := range lists() {
		l := restsOf(next(1000), ms...)
		right := rightOf(l)
		for from := 0; from <= len(l); from += 1 + len(l)/12 {
			for to := from; to <= len(l); to += 1 + len(l)/12 {
				r, m, e := Join(l[from:to]...)
				if e != api.OK {
					t.Errorf("P21.1: Join of %s: error %d", text(l[from:to]), e)
				}
				hold(t, right, slices.Concat(l[:from], []Rest{{m, r}}, l[to:])...)
				r2, m2, _ := Join(l[:from]...)
				r3, m3, _ := Join(l[to:]...)
				hold(t, right, Rest{m3, r3}, Rest{m, r}, Rest{m2, r2})
			}
		}
	}
}

// mixed is a rest of any kind: now and then it has a fault.
func mixed(next func(size int) *big.Int, pick func(below int) int) Rest {
	m, r := wordsOf(next(1+pick(1+pick(500)))), next(500)
	if len(m) > 0 && pick(40) > 0 {
		r.Mod(r, numberOf(m))
	}
	return Rest{loose(m, pick(60)/59), loose(wordsOf(r), pick(60)/59)}
}

// Lists of all kinds: some with faults, some with common factors, some too long.
func TestMixed(t *testing.T) {
	next, pick := row(12), picks(13)
	found := map[api.Errno]int{}
	for range 20000 {
		l := make([]Rest, pick(12))
		for i := range l {
			l[i] = mixed(next, pick)
		}
		right := rightOf(l)
		found[right.e]++
		hold(t, right, l...)
	}
	for _, e := range []api.Errno{api.OK, api.ErrArg, api.ErrMany, api.ErrInv} {
		if found[e] < 1000 {
			t.Errorf("of error %d there are %d lists alone", e, found[e])
		}
	}
}

// calls are lists of which some join and some do not.
func calls() [][]Rest {
	out := [][]Rest{
		nil, {rest(1, 0)}, {rest(2, 1)}, base(), {rest(3, 2), rest(5, 3)}, {rest(7, 0), rest(1, 0), rest(9, 0)}, {{oneAt(64), nat.Of(1)}, rest(all, 0)}, {{oneAt(1023), oneAt(1022)}}, {{less(oneAt(1024), 1), oneAt(1023)}},
		{rest(0, 0)}, {rest(3, 3)}, {{loose(nat.Of(3), 1), nat.Of(1)}, rest(5, 2)}, {rest(5, 2), {nat.Of(3), loose(nat.Of(1), 2)}}, {rest(2, 1), rest(2, 1)}, {rest(6, 1), rest(15, 1), rest(7, 2)}, {{oneAt(1024), nil}}, {{oneAt(600), nat.Of(3)}, {oneAt(600), nat.Of(3)}},
	}
	next := row(13)
	for _, ms := range lists() {
		out = append(out, restsOf(next(1000), ms...))
	}
	return out
}

// The same call tells the same again, whatever was called between.
func TestTheSameAgain(t *testing.T) {
	asked := calls()
	var rights []joined
	for _, l := range asked {
		rights = append(rights, rightOf(l))
	}
	for i, l := range asked {
		for k, other := range asked {
			hold(t, rights[i], l...)
			hold(t, rights[k], other...)
		}
		hold(t, rights[i], l...)
	}
}

// roomy copies a into a list with words of its own behind its end.
func roomy(a api.Nat) api.Nat { return append(slices.Clone(a), 11, 12, 13, 14)[:len(a)] }

// handed is l in memory of its own, with rests behind its end, and each number with words behind its end.
func handed(l []Rest) []Rest {
	out := make([]Rest, 0, len(l)+3)
	for _, x := range l {
		out = append(out, Rest{roomy(x.M), roomy(x.R)})
	}
	return append(out, Rest{roomy(nat.Of(21)), roomy(nat.Of(20))}, rest(22, 1), Rest{})[:len(l)]
}

// kept tells later whether l is still what it is now: its rests, each list at its place, as long as it was and with the same words, and what is behind its end and behind theirs.
func kept(l []Rest) func() bool {
	l = l[:cap(l)]
	lists := func() (out []api.Nat) {
		for _, x := range l {
			out = append(out, x.M, x.R)
		}
		return out
	}
	before, words := lists(), []api.Nat{}
	for _, a := range before {
		words = append(words, slices.Clone(a[:cap(a)]))
	}
	return func() bool {
		for i, a := range lists() {
			if !isOne(a, before[i]) || !slices.Equal(a[:cap(a)], words[i]) {
				return false
			}
		}
		return true
	}
}

// isOne tells whether both lists are one: as long, with as much room, at one place.
func isOne(a, b api.Nat) bool {
	return len(a) == len(b) && cap(a) == cap(b) && (a == nil) == (b == nil) && (cap(a) == 0 || &a[:1][0] == &b[:1][0])
}

// spoil writes over a list, and over the room behind its end.
func spoil(l api.Nat) {
	l = l[:cap(l)]
	for i := range l {
		l[i] = ^l[i]
	}
}

func TestGivenStays(t *testing.T) {
	for _, l := range calls() {
		given := handed(l)
		isKept, right := kept(given), rightOf(l)
		for range 3 {
			hold(t, right, given...)
		}
		if !isKept() {
			t.Errorf("R3: Join of %s changes what it is handed", text(l))
		}
	}
}

// Rests that share memory with each other are read alone, too.
func TestGivenShares(t *testing.T) {
	whole := api.Nat{7, 9, 11, 13, 1, 5}
	before := slices.Clone(whole)
	l := []Rest{{whole[1:2], whole[0:1]}, {whole[2:3], whole[0:1]}, {whole[3:4], whole[1:2]}, {whole[4:6], whole[2:4]}}
	wantRight(t, l...)
	hold(t, joined{numberOf(api.Nat{9, 11}), numberOf(whole[2:5]), api.OK}, Rest{whole[2:5], whole[1:3]})
	if !slices.Equal(whole, before) {
		t.Error("R3: Join changes what it is handed")
	}
	for _, m := range samples() {
		x := Rest{m, less(m, 1)}
		wantRight(t, x, x)
		wantRight(t, x, Rest{more(m, 1), m})
	}
}

func TestAnsweredIsNew(t *testing.T) {
	for _, l := range calls() {
		right, given := rightOf(l), handed(l)
		isKept := kept(given)
		r, m, _ := Join(given...)
		r2, m2, _ := Join(given...)
		spoil(r)
		if numberOf(m).Cmp(right.m) != 0 {
			t.Errorf("R3: of %s both answers share memory", text(l))
		}
		spoil(m)
		if !isKept() {
			t.Errorf("R3: Join of %s answers what it was handed", text(l))
		}
		hold(t, right, given...)
		for _, x := range given[:cap(given)] {
			spoil(x.M)
			spoil(x.R)
		}
		if numberOf(r2).Cmp(right.r) != 0 || numberOf(m2).Cmp(right.m) != 0 {
			t.Errorf("R3: of %s an answer is not in memory of its own", text(l))
		}
	}
}

// What was told stays, though the list that it was told of goes on with other rests.
func TestListGoesOn(t *testing.T) {
	l := handed(base())
	r, m, e := Join(l...)
	for i := range l {
		l[i] = rest(2, 1)
	}
	if e != api.OK || !slices.Equal(r, nat.Of(23)) || !slices.Equal(m, nat.Of(105)) {
		t.Errorf("R3: Join: %v modulo %v, error %d", r, m, e)
	}
	want(t, nat.Of(1), nat.Of(2), l[0])
	wantError(t, api.ErrInv, l...)
}

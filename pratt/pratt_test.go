package pratt

import (
	"math"
	"math/big"
	"slices"
	"testing"

	"caltrop/api"
	"caltrop/nat"
	"caltrop/rho"
)

const (
	all       = math.MaxUint64 // a word whose bits are all 1
	top       = 1 << 63        // a word whose highest bit alone is 1
	lastOnes  = all - 58       // the greatest prime of one word
	lastKnown = 65521          // the greatest prime that needs no step
	firstLong = 65537          // the least one that needs one
)

// few are draws that do for each number that is tested with them.
func few() []uint64 {
	return []uint64{1, 2, 3, 5, 7, 8, 9, 10, 11, 12, 13, 15}
}

// stuck are draws whose rows come round at once, by n and by all that divides it: 2, 2; 2, -2, -2; 2, -3, 2. Of no n without a factor up to 5 they tell anything.
func stuck(n uint64) []uint64 {
	return []uint64{n - 2, n - 6, n - 7}
}

// mixed are so many words without any order to be seen in them; another seed makes other ones.
func mixed(count int, seed uint64) []uint64 {
	a := make([]uint64, count)
	x := seed
	for i := range a {
		x = x*6364136223846793005 + 1442695040888963407
		a[i] = x ^ x>>29
	}
	return a
}

// word is one in numbers of the library.
func word(n uint64) *big.Int { return new(big.Int).SetUint64(n) }

// value is the number of words, whether they may be or not, in numbers of the library.
func value(a api.Nat) *big.Int {
	out := new(big.Int)
	for _, x := range slices.Backward(a) {
		out.Or(out.Lsh(out, 64), word(x))
	}
	return out
}

// number is that of the library in words.
func number(a *big.Int) api.Nat { return nat.FromBytes(a.Bytes()) }

// isPrime asks the library.
func isPrime(n uint64) bool { return word(n).ProbablyPrime(20) }

// primesFrom are so many primes, the first ones from n on.
func primesFrom(n uint64, count int) []uint64 {
	var out []uint64
	for ; len(out) < count; n++ {
		if isPrime(n) {
			out = append(out, n)
		}
	}
	return out
}

// primesTo are so many primes, the last ones up to n.
func primesTo(n uint64, count int) []uint64 {
	var out []uint64
	for ; len(out) < count; n-- {
		if isPrime(n) {
			out = append(out, n)
		}
	}
	return out
}

// above is the least prime that is one more than an even multiple of a, the first of them from times on, and that is a word.
func above(a, times uint64) uint64 {
	for times += times % 2; ; times += 2 {
		if isPrime(times*a + 1) {
			return times*a + 1
		}
	}
}

// words are numbers' words.
func words(numbers ...uint64) []api.Nat {
	var out []api.Nat
	for _, n := range numbers {
		out = append(out, nat.Of(n))
	}
	return out
}

// made is a step of words.
func made(p, g uint64, q ...uint64) api.Step {
	return api.Step{P: nat.Of(p), G: nat.Of(g), Q: words(q...)}
}

// less is a without so many; there are as many.
func less(a api.Nat, count uint64) api.Nat {
	out, _ := nat.Sub(a, nat.Of(count))
	return out
}

// loose is a's number in words that may not be, unless noughts is 0.
func loose(a api.Nat, noughts int) api.Nat {
	return append(slices.Clone(a), make(api.Nat, noughts)...)
}

// copied are steps in memory of their own.
func copied(l []api.Step) []api.Step {
	out := slices.Clone(l)
	for i, s := range out {
		out[i] = api.Step{P: slices.Clone(s.P), G: slices.Clone(s.G)}
		for _, q := range s.Q {
			out[i].Q = append(out[i].Q, slices.Clone(q))
		}
	}
	return out
}

// same tells whether steps are the same, word by word.
func same(a, b []api.Step) bool {
	return slices.EqualFunc(a, b, func(x, y api.Step) bool {
		return slices.Equal(x.P, y.P) && slices.Equal(x.G, y.G) && slices.EqualFunc(x.Q, y.Q, slices.Equal[api.Nat])
	})
}

// isSmall tells whether a number is a prime below 2^16.
func isSmall(a *big.Int) bool {
	return a.BitLen() <= 16 && a.ProbablyPrime(0)
}

// byWords is Check by the words of the chapter.
func byWords(p api.Nat, l []api.Step) bool {
	if len(l) == 0 {
		return isSmall(value(p))
	}
	for i, s := range l {
		if !holdsByWords(s, l[:i]) {
			return false
		}
	}
	return value(l[len(l)-1].P).Cmp(value(p)) == 0
}

// holdsByWords tells of one step what the chapter asks of each.
func holdsByWords(s api.Step, ahead []api.Step) bool {
	for _, a := range append([]api.Nat{s.P, s.G}, s.Q...) {
		if len(a) > 0 && a[len(a)-1] == 0 || value(a).BitLen() > 1024 {
			return false
		}
	}
	p, g, one := value(s.P), value(s.G), word(1)
	if p.Bit(0) == 0 || p.Cmp(word(3)) < 0 || g.Sign() == 0 || g.Cmp(p) >= 0 {
		return false
	}
	below := new(big.Int).Sub(p, one)
	left, rest, last := new(big.Int).Set(below), new(big.Int), word(0)
	for _, a := range s.Q {
		q := value(a)
		isAhead := slices.ContainsFunc(ahead, func(s api.Step) bool { return value(s.P).Cmp(q) == 0 })
		if q.Cmp(last) <= 0 || !isSmall(q) && !isAhead || rest.Mod(below, q).Sign() != 0 {
			return false
		}
		last = q
		for rest.Mod(left, q).Sign() == 0 {
			left.Div(left, q)
		}
		if rest.Exp(g, rest.Div(below, q), p).Cmp(one) == 0 {
			return false
		}
	}
	return left.Cmp(one) == 0 && rest.Exp(g, below, p).Cmp(one) == 0
}

// wantCheck asks Check for what is known, and looks whether the chapter's words say so.
func wantCheck(t *testing.T, p api.Nat, l []api.Step, want bool) {
	t.Helper()
	if byWords(p, l) != want {
		t.Errorf("the test itself is wrong about %x, %x", p, l)
	}
	if is := Check(p, l); is != want {
		t.Errorf("P11.1: Check of %x, %x: %t", p, l, is)
	}
}

// wantTried asks Check for what the chapter's words say, and wants primes of what is taken.
func wantTried(t *testing.T, p api.Nat, l []api.Step) (is bool) {
	t.Helper()
	is = Check(p, l)
	if is != byWords(p, l) {
		t.Fatalf("P11.1: Check of %x, %x: %t", p, l, is)
	}
	if is {
		wantPrimes(t, p, l)
	}
	return is
}

// wantPrimes looks whether what was taken are primes.
func wantPrimes(t *testing.T, p api.Nat, l []api.Step) {
	t.Helper()
	if !value(p).ProbablyPrime(1) {
		t.Errorf("P11.3: Check takes %x, which is no prime", p)
	}
	for _, s := range l {
		if !value(s.P).ProbablyPrime(1) {
			t.Errorf("P11.3: Check takes a certificate with the step of %x, which is no prime", s.P)
		}
	}
}

// wantBuilt asks Build for a certificate, and looks whether Check takes it, and what is ahead in it of each of its steps.
func wantBuilt(t *testing.T, p uint64, draws []uint64) []api.Step {
	t.Helper()
	l, e := Build(p, draws)
	if e != api.OK || len(l) == 0 != (p < 1<<16) {
		t.Errorf("P11.2: Build of %d, %d: %d steps, error %d", p, draws, len(l), e)
	}
	wantTaken(t, p, l)
	return l
}

// wantTaken looks whether Check takes what was built.
func wantTaken(t *testing.T, p uint64, l []api.Step) {
	t.Helper()
	if !Check(nat.Of(p), l) || !byWords(nat.Of(p), l) {
		t.Errorf("P11.2: what is built for %d shows nothing: %d", p, l)
	}
	for i, s := range l {
		if !wantTried(t, s.P, l[:i+1]) {
			t.Errorf("P11.2: what is built for %d shows nothing by its step of %d: %d", p, s.P, l)
		}
	}
}

// wantError asks Build for an error, and no steps.
func wantError(t *testing.T, p uint64, draws []uint64, want api.Errno) {
	t.Helper()
	if l, e := Build(p, draws); e != want || len(l) > 0 {
		t.Errorf("P11.2: Build of %d, %d: %d, error %d, not %d", p, draws, l, e, want)
	}
}

// does tells whether rho.Factors does with draws, for each prime that needs a step.
func does(p uint64, draws []uint64) bool {
	if p < 1<<16 {
		return true
	}
	l, _, e := rho.Factors(p-1, draws)
	for _, q := range l {
		if e == api.OK && !does(q, draws) {
			return false
		}
	}
	return e == api.OK
}

// wantAsDrawn asks Build for what the draws let it find.
func wantAsDrawn(t *testing.T, p uint64, draws []uint64) {
	t.Helper()
	switch {
	case !isPrime(p):
		wantError(t, p, draws, api.ErrPrime)
	case does(p, draws):
		wantBuilt(t, p, draws)
	default:
		wantError(t, p, draws, api.ErrFuel)
	}
}

// longPrimes are primes c 2^k + 1 of so many bits, with what shows it.
func longPrimes() map[int]api.Step {
	list := func(c uint64, k int, g uint64, q ...uint64) api.Step {
		return api.Step{P: nat.Add(nat.Shl(nat.Of(c), k), nat.Of(1)), G: nat.Of(g), Q: words(q...)}
	}
	return map[int]api.Step{
		64:   list(27, 59, 5, 2, 3),
		65:   list(31, 60, 3, 2, 31),
		128:  list(81, 121, 5, 2, 3),
		129:  list(11, 125, 3, 2, 11),
		256:  list(207, 248, 5, 2, 3, 23),
		512:  list(2401, 500, 3, 2, 7),
		1000: list(95, 993, 3, 2, 5, 19),
		1010: list(363, 1001, 13, 2, 3, 11),
		1023: list(273, 1014, 10, 2, 3, 7, 13),
		1024: list(1331, 1013, 3, 2, 11),
		1025: list(75, 1018, 11, 2, 3, 5),
		1026: list(715, 1016, 3, 2, 5, 11, 13),
	}
}

// longest is a prime of MaxBits bits, and what shows it with one of 1010 bits; longer is one of a bit more.
func longest() (l []api.Step) { return besideLong(11680, 3, 2, 5, 73) }

func longer() (l []api.Step) { return besideLong(23424, 11, 2, 3, 61) }

func besideLong(times, g uint64, q ...uint64) []api.Step {
	ahead := longPrimes()[1010]
	p := value(ahead.P)
	p.Mul(p, word(times)).Add(p, word(1))
	return []api.Step{ahead, {P: number(p), G: nat.Of(g), Q: append(words(q...), ahead.P)}}
}

// ofMany is a step of a prime of MaxBits bits with 130 Q.
func ofMany() api.Step {
	primes := primesFrom(2, 129)
	p := word(12459057) // 3, 13, 101 and 3163 go into it
	for _, q := range primes {
		p.Mul(p, word(q))
	}
	return api.Step{P: number(p.Add(p, word(1))), G: nat.Of(3), Q: words(append(primes, 3163)...)}
}

// shown is the step of a prime, with the least G that does.
func shown(p uint64) api.Step {
	s := made(p, 1, divisors(p-1)...)
	for !showsByWords(s) {
		s.G[0]++
	}
	return s
}

// showsByWords tells whether a step holds, whether its Q were shown or not.
func showsByWords(s api.Step) bool {
	var ahead []api.Step
	for _, q := range s.Q {
		ahead = append(ahead, api.Step{P: q})
	}
	return holdsByWords(s, ahead)
}

// divisors are the primes that divide a number, rising, each once.
func divisors(n uint64) []uint64 {
	var out []uint64
	for d := uint64(2); n > 1; d++ {
		if d*d > n {
			return append(out, n)
		}
		if n%d == 0 {
			out = append(out, d)
		}
		for n%d == 0 {
			n /= d
		}
	}
	return out
}

// sublists tells all lists of what is in a list, in its order, one by one.
func sublists(l []uint64, tell func(part []uint64)) {
	for chosen := range 1 << len(l) {
		var part []uint64
		for i, x := range l {
			if chosen>>i&1 == 1 {
				part = append(part, x)
			}
		}
		tell(part)
	}
}

func TestExamples(t *testing.T) {
	wantCheck(t, nat.Of(7), nil, true)
	wantCheck(t, nat.Of(9), nil, false)
	wantCheck(t, nat.Of(7), []api.Step{made(7, 3, 2, 3)}, true)
	wantCheck(t, nat.Of(7), []api.Step{made(7, 2, 2, 3)}, false)
}

func TestCheckOfNoSteps(t *testing.T) {
	for _, n := range []uint64{2, 3, 5, 7, 11, 13, 251, 257, 46337, 65519, lastKnown} {
		wantCheck(t, nat.Of(n), nil, true)
		wantCheck(t, nat.Of(n), []api.Step{}, true)
		wantCheck(t, nat.Of(n), []api.Step{made(9, 2, 2)}[:0], true)
		wantCheck(t, loose(nat.Of(n), 1), nil, true)
		wantCheck(t, loose(nat.Of(n), 20), nil, true)
		wantCheck(t, api.Nat{n, 1}, nil, false)
		wantCheck(t, api.Nat{n, 0, 1, 0}, nil, false)
		wantCheck(t, api.Nat{0, n}, nil, false)
	}
	for _, n := range []uint64{0, 1, 4, 6, 8, 9, 25, 561, 2047, 65025, 65520, 65523, 65533, 65535, 65536, firstLong, 65539, 1<<16 + 2, 1<<32 + 2, 1<<32 + 15, 1<<61 - 1, top + 2, top + 29, lastOnes, all} {
		wantCheck(t, nat.Of(n), nil, false)
		wantCheck(t, loose(nat.Of(n), 2), []api.Step{}, false)
	}
	for _, s := range longPrimes() {
		wantCheck(t, s.P, nil, false)
	}
	for n := range uint64(70000) {
		wantTried(t, nat.Of(n), nil)
	}
}

func TestCheckOfOneStep(t *testing.T) {
	for _, s := range []api.Step{
		made(3, 2, 2), // G is P - 1
		made(5, 2, 2), made(5, 3, 2),
		made(7, 3, 2, 3), made(7, 5, 2, 3),
		made(11, 2, 2, 5), made(11, 8, 2, 5),
		made(13, 2, 2, 3),
		made(17, 3, 2), made(257, 3, 2), made(firstLong, 3, 2), // P - 1 is a power
		made(31, 3, 2, 3, 5), made(211, 2, 2, 3, 5, 7), made(2311, 3, 2, 3, 5, 7, 11),
		made(19, 2, 2, 3), made(163, 2, 2, 3), made(487, 3, 2, 3), // P - 1 has 3 many times
		made(lastKnown, 17, 2, 3, 5, 7, 13), made(65539, 2, 2, 3, 11, 331), made(65543, 5, 2, 32771), made(131071, 3, 2, 3, 5, 17, 257),
		shown(above(lastKnown, 2)), // the greatest Q that needs no step
	} {
		wantCheck(t, s.P, []api.Step{s}, true)
		wantCheck(t, loose(s.P, 2), []api.Step{s}, true)
	}
	for _, s := range []api.Step{
		{}, made(0, 0), made(0, 1), made(0, 1, 2), made(1, 0), made(1, 1), made(1, 1, 2), made(1, 1, 1), made(1, 2), // P of 0 and 1
		made(2, 1), made(2, 1, 2), made(2, 1, 1), made(2, 3), // 2 would do, if it were odd
		made(4, 3, 3), made(4, 2, 3), made(6, 5, 5), made(8, 3, 7), made(65536, 3, 3, 5, 17, 257), made(1<<32, 3, 3, 5, 17, 257),
		made(3, 0, 2), made(3, 1, 2), made(3, 3, 2), made(3, 4, 2), made(3, 5, 2), made(3, all, 2),
		made(7, 0, 2, 3), made(7, 1, 2, 3), made(7, 6, 2, 3), made(7, 7, 2, 3), made(7, 8, 2, 3), made(7, 10, 2, 3), made(7, 12, 2, 3), made(7, 7*3+3, 2, 3), // 10, 12 and 24 leave what does
		made(9, 2, 2), made(9, 5, 2), made(9, 3, 2), made(9, 8, 2), made(15, 2, 2, 7), made(25, 2, 2, 3), made(561, 2, 2, 5, 7), made(2047, 2, 2, 3, 11, 31), // no primes
		made(3, 2), made(5, 2), made(7, 3), made(firstLong, 3), // no Q
		made(5, 2, 4), made(17, 3, 4), made(17, 3, 16), made(17, 3, 8), made(7, 3, 6), made(7, 3, 2, 6), made(7, 3, 3, 6), made(13, 2, 12), made(13, 2, 3, 4), made(13, 2, 2, 6), made(firstLong, 3, 65536), made(firstLong, 3, 16), made(firstLong, 3, 2, 16), // a Q that is no prime
		made(7, 3, 1, 2, 3), made(7, 3, 0, 2, 3), made(7, 3, 0), made(7, 3, 1), made(3, 2, 0, 2), made(3, 2, 1, 2),
		made(7, 3, 3, 2), made(7, 3, 2, 2, 3), made(7, 3, 2, 3, 3), made(7, 3, 2, 3, 2), made(31, 3, 2, 5, 3), made(31, 3, 3, 2, 5), made(31, 3, 2, 2, 3, 5), made(31, 3, 2, 3, 3, 5), made(31, 3, 2, 3, 5, 5), made(5, 2, 2, 2), // not rising
		made(7, 3, 2, 3, 5), made(7, 3, 2, 3, 7), made(5, 2, 2, 3), made(5, 2, 2, 5), made(11, 2, 2, 3, 5), made(31, 3, 2, 3, 5, 7), made(31, 3, 2, 3, 5, 29), made(31, 3, 2, 3, 5, 31), made(31, 3, 2, 3, 5, lastKnown), // what P - 1 is no multiple of
		made(7, 3, 2), made(7, 3, 3), made(11, 2, 2), made(11, 2, 5), made(31, 3, 2, 3), made(31, 3, 2, 5), made(31, 3, 3, 5), made(13, 2, 2), made(13, 2, 3), made(lastKnown, 17, 2, 3, 5, 7), made(lastKnown, 17, 2, 3, 5, 13), made(lastKnown, 17, 3, 5, 7, 13), // one left out
		made(31, 7, 2, 3, 5), made(31, 15, 2, 3, 5), made(31, 6, 2, 3, 5), // the power with a part of P - 1 is 1, for one Q alone
		made(2311, 2, 2, 3, 5, 7, 11), made(2311, 15, 2, 3, 5, 7, 11), made(2311, 12, 2, 3, 5, 7, 11), made(2311, 35, 2, 3, 5, 7, 11), made(2311, 135, 2, 3, 5, 7, 11),
		made(131071, 1, 2, 3, 5, 17, 257), made(131071, 131070, 2, 3, 5, 17, 257),
	} {
		wantCheck(t, s.P, []api.Step{s}, false)
	}
	for _, p := range []api.Nat{nil, {0}, {1}, {2}, {3}, {5}, {6}, {8}, {14}, {11}, {all}, {7, 1}, {0, 7}, {7, 0, 1}} {
		wantCheck(t, p, []api.Step{made(7, 3, 2, 3)}, false)
	}
}

func TestCheckOfOneStepTried(t *testing.T) {
	taken := 0
	tell := func(p, g uint64, q ...uint64) {
		if wantTried(t, nat.Of(p), []api.Step{made(p, g, q...)}) {
			taken++
		}
	}
	for p := range uint64(12) {
		for g := range p + 2 {
			tell(p, g)
			for a := range p + 1 {
				tell(p, g, a)
				for b := range p + 1 {
					tell(p, g, a, b)
					for c := range p + 1 {
						tell(p, g, a, b, c)
					}
				}
			}
		}
	}
	for p := uint64(12); p < 80; p++ {
		var parts []uint64
		for d := uint64(1); d <= p; d++ {
			if (p-1)%d == 0 && len(parts) < 7 {
				parts = append(parts, d)
			}
		}
		for g := range p + 2 {
			sublists(append(parts, 41), func(q []uint64) { tell(p, g, q...) })
		}
	}
	if taken < 250 {
		t.Errorf("the test itself is too narrow: %d certificates are taken", taken)
	}
}

func TestCheckOfEachG(t *testing.T) {
	for p := uint64(3); p < 300; p += 2 {
		q := divisors(p - 1)
		taken := 0
		for g := range p + 3 {
			if wantTried(t, nat.Of(p), []api.Step{made(p, g, q...)}) {
				taken++
			}
		}
		if taken > 0 != isPrime(p) {
			t.Errorf("P11.1: Check takes %d G of %d", taken, p)
		}
	}
}

// What passes to so many bases, or of which a power is 1 for all that have no factor in common with it, is no prime nevertheless.
func TestCheckOfNoPrimes(t *testing.T) {
	for _, p := range []uint64{561, 1105, 1729, 2465, 2821, 6601, 8911, 341, 645, 2047, 3277, 1373653, 25326001, 3215031751, 1093 * 1093, 1<<32 + 1, 65521 * 65519, firstLong * firstLong} {
		q := divisors(p - 1)
		var ahead []api.Step
		if last := q[len(q)-1]; last > lastKnown {
			ahead = append(ahead, shown(last))
		}
		for g := range min(p+1, 1000) {
			if wantTried(t, nat.Of(p), append(ahead, made(p, g, q...))) {
				t.Errorf("P11.3: Check takes %d, which is no prime, with %d", p, g)
			}
		}
	}
}

// tower are steps each of which but the first has the P of the one ahead of it among its Q.
func tower() []api.Step {
	l := []api.Step{made(firstLong, 3, 2)}
	for p := uint64(firstLong); len(l) < 8; {
		p = above(p, 2)
		l = append(l, shown(p))
	}
	return l
}

// pair are a prime with two Q above 2^16, and what shows them, the lesser one first.
func pair() (lesser, greater, p api.Step) {
	return made(firstLong, 3, 2), made(65539, 2, 2, 3, 11, 331), shown(above(firstLong*65539, 2))
}

func TestCheckOfManySteps(t *testing.T) {
	l := tower()
	for i, s := range l {
		wantCheck(t, s.P, l[:i+1], true)
		wantCheck(t, s.P, slices.Concat(l[:i+1], l[:i+1]), true) // all of them twice
		wantCheck(t, loose(s.P, i), slices.Concat(l, l[i:i+1]), true)
		if i == 0 {
			continue
		}
		wantCheck(t, s.P, l[i:i+1], false)     // what is ahead is missing
		wantCheck(t, s.P, l[1:i+1], false)     // the first one is
		wantCheck(t, l[i-1].P, l[:i+1], false) // p is the P of a step ahead alone
		wantCheck(t, s.P, slices.Concat(l[:i-1], l[i:i+1]), false)
		wantCheck(t, s.P, slices.Concat(l[:i-1], l[i:i+1], l[i-1:i]), false)
		wantCheck(t, l[i-1].P, slices.Concat(l[:i-1], l[i:i+1], l[i-1:i]), false) // a Q is shown behind
		wantCheck(t, s.P, slices.Concat(l[:i-1], l[i:i+1], l[i-1:i+1]), false)    // behind, and once more
		wantCheck(t, s.P, slices.Concat(l[:i], l[i-1:i+1]), true)                 // the one ahead twice
		wantCheck(t, s.P, slices.Concat(l[:i+1], l[i:i+1]), true)                 // the last one twice
	}
	wantCheck(t, nat.Of(7), l, false)
	wantCheck(t, nil, l, false)
}

func TestCheckOfTwoAhead(t *testing.T) {
	a, b, p := pair()
	for _, l := range [][]api.Step{{a, b, p}, {b, a, p}, {a, a, b, p}, {a, b, b, p}, {a, b, a, p}, {a, b, p, p}, {a, b, p, a, p}} {
		wantCheck(t, p.P, l, true)
	}
	for _, l := range [][]api.Step{{p}, {a, p}, {b, p}, {a, p, b}, {b, p, a}, {p, a, b}, {p, a, b, p}, {a, p, b, p}, {a, b, p, a}, {a, b}} {
		wantCheck(t, p.P, l, false)
	}
	wantCheck(t, a.P, []api.Step{a, b, p, a}, true)
	wantCheck(t, b.P, []api.Step{a, b, p, b}, true)
	turned := p
	turned.Q = slices.Clone(p.Q)
	slices.Reverse(turned.Q)
	wantCheck(t, p.P, []api.Step{a, b, turned}, false)
	for i := range p.Q {
		part := p
		part.Q = slices.Delete(slices.Clone(p.Q), i, i+1)
		wantCheck(t, p.P, []api.Step{a, b, part}, false)
		part.Q = slices.Insert(slices.Clone(p.Q), i, p.Q[i])
		wantCheck(t, p.P, []api.Step{a, b, part}, false)
	}
	own := p // its own P as a Q, shown by a step of the same P as well
	own.Q = append(slices.Clone(p.Q), p.P)
	wantCheck(t, p.P, []api.Step{a, b, own}, false)
	wantCheck(t, p.P, []api.Step{a, b, p, own}, false)
	wantCheck(t, p.P, []api.Step{a, b, own, p}, false)
}

func TestCheckOfStepsThatNothingNeeds(t *testing.T) {
	seven, nine, wrong := made(7, 3, 2, 3), made(9, 2, 2), made(7, 2, 2, 3)
	l := tower()[:3]
	last := l[2].P
	for i := range 3 {
		wantCheck(t, last, slices.Insert(slices.Clone(l), i, seven), true)
		wantCheck(t, last, slices.Insert(slices.Clone(l), i, seven, seven), true)
		wantCheck(t, last, slices.Insert(slices.Clone(l), i, longPrimes()[128]), true)
		for _, s := range []api.Step{nine, wrong, {}, made(2, 1), made(1, 1), made(4, 3, 3)} {
			wantCheck(t, last, slices.Insert(slices.Clone(l), i, s), false)
			wantCheck(t, last, slices.Insert(slices.Clone(l), i, seven, s), false)
		}
	}
	for _, s := range []api.Step{nine, wrong, {}} {
		wantCheck(t, s.P, append(slices.Clone(l), s), false)
		wantCheck(t, last, append(slices.Clone(l), s), false)
		wantCheck(t, s.P, []api.Step{seven, s}, false)
		wantCheck(t, nat.Of(7), []api.Step{s, seven}, false)
		wantCheck(t, nat.Of(7), []api.Step{seven, s, seven}, false)
	}
	wantCheck(t, seven.P, append(slices.Clone(l), seven), true)
	// What is below 2^16 needs no step, and is the better for none.
	wantCheck(t, nat.Of(29), []api.Step{seven, shown(29)}, true)
	wantCheck(t, nat.Of(29), []api.Step{shown(29)}, true)
	wantCheck(t, nat.Of(29), []api.Step{wrong, shown(29)}, false)
	// What is no prime is not shown by a step that doesn't hold.
	square := shown(above(firstLong*firstLong, 2))
	square.Q = []api.Nat{nat.Of(2), nat.Of(firstLong * firstLong)}
	wantCheck(t, square.P, []api.Step{made(firstLong, 3, 2), made(firstLong*firstLong, 3, 2), square}, false)
}

func TestCheckOfListsTried(t *testing.T) {
	a, b, p := pair()
	next := shown(above(firstLong, 80))
	pool := []api.Step{
		a, b, p, next, made(firstLong, 2, 2), made(firstLong, 5, 2), made(firstLong, 3, 4), made(65539, 2, 2, 3, 11), made(7, 3, 2, 3), made(7, 6, 2, 3), {},
		{P: next.P, G: next.G, Q: slices.Concat(next.Q, words(65539))}, {P: next.P, G: nat.Of(1), Q: next.Q}, {P: p.P, G: p.G, Q: slices.Concat(p.Q, p.Q[:1])},
	}
	taken := 0
	tell := func(l ...api.Step) {
		for _, s := range l {
			if wantTried(t, s.P, l) {
				taken++
			}
		}
	}
	for _, x := range pool {
		tell(x)
		for _, y := range pool {
			tell(x, y)
			for _, z := range pool {
				tell(x, y, z)
				tell(a, b, x, y, z)
			}
		}
	}
	if taken < 300 {
		t.Errorf("the test itself is too narrow: %d certificates are taken", taken)
	}
}

// changed tells lists of steps that differ from this one in one place, one by one.
func changed(l []api.Step, tell func(l []api.Step)) {
	change := func(i int, to func(s *api.Step)) {
		other := copied(l)
		to(&other[i])
		tell(other)
	}
	for i, s := range l {
		for _, by := range []uint64{1, 2, 3, 5, 1 << 16, 1 << 40, top} {
			change(i, func(s *api.Step) { s.P[0] ^= by })
			change(i, func(s *api.Step) { s.G[0] ^= by })
			for k := range s.Q {
				change(i, func(s *api.Step) { s.Q[k][0] ^= by })
			}
		}
		change(i, func(s *api.Step) { s.P = nil })
		change(i, func(s *api.Step) { s.G = nil })
		change(i, func(s *api.Step) { s.Q = nil })
		change(i, func(s *api.Step) { s.G, _ = nat.Sub(s.P, s.G) })
		change(i, func(s *api.Step) { s.G = nat.Add(s.P, s.G) })
		change(i, func(s *api.Step) { s.P, s.G = s.G, s.P })
		for k, q := range s.Q {
			change(i, func(s *api.Step) { s.Q = slices.Delete(s.Q, k, k+1) })
			change(i, func(s *api.Step) { s.Q = slices.Insert(s.Q, k, q) })
			change(i, func(s *api.Step) { s.Q[k] = nat.Add(q, q) })
			change(i, func(s *api.Step) { s.Q[k], s.Q[0] = s.Q[0], s.Q[k] })
			change(i, func(s *api.Step) { s.Q[k] = s.P })
			change(i, func(s *api.Step) { s.Q[k] = divided(s.P, q) })
		}
		tell(slices.Delete(copied(l), i, i+1))
		tell(slices.Insert(copied(l), i, l[0]))
		tell(slices.Insert(copied(l), i, l[len(l)-1]))
	}
}

// divided is the number below p by q.
func divided(p, q api.Nat) api.Nat {
	below := value(p)
	return number(below.Div(below.Sub(below, word(1)), value(q)))
}

func TestCheckOfChanged(t *testing.T) {
	lists := [][]api.Step{tower()[:4], {longPrimes()[65], longPrimes()[256]}}
	for _, p := range []uint64{1<<40 + 15, 9223372036854775337, lastOnes} {
		lists = append(lists, wantBuilt(t, p, few()))
	}
	for _, l := range lists {
		p := l[len(l)-1].P
		wantCheck(t, p, l, true)
		kept := 0
		changed(l, func(other []api.Step) {
			if wantTried(t, p, other) {
				kept++
			}
			if len(other) > 0 {
				wantTried(t, other[len(other)-1].P, other)
			}
		})
		if kept == 0 {
			t.Errorf("the test itself is too narrow: nothing else is taken for %x", p)
		}
	}
}

func TestCheckOfWordsThatMayNotBe(t *testing.T) {
	for _, l := range [][]api.Step{{made(7, 3, 2, 3)}, tower()[:3], longest(), {longPrimes()[65], longPrimes()[129]}} {
		p := l[len(l)-1].P
		for _, noughts := range []int{0, 1, 2, 16, 17, 100} {
			want := noughts == 0
			wantCheck(t, loose(p, noughts), l, true)
			for i, s := range l {
				other := copied(l)
				other[i].P = loose(s.P, noughts)
				wantCheck(t, p, other, want)
				wantCheck(t, other[len(l)-1].P, other, want)
				other = copied(l)
				other[i].G = loose(s.G, noughts)
				wantCheck(t, p, other, want)
				for k, q := range s.Q {
					other = copied(l)
					other[i].Q[k] = loose(q, noughts)
					wantCheck(t, p, other, want)
				}
			}
		}
	}
	for _, nothing := range []api.Nat{nil, {}, {0}, {0, 0}, make(api.Nat, 40)} {
		wantCheck(t, nothing, nil, false)
		wantCheck(t, nothing, []api.Step{{P: nothing, G: nothing, Q: []api.Nat{nothing}}}, false)
		wantCheck(t, nat.Of(3), []api.Step{{P: nat.Of(3), G: nothing, Q: words(2)}}, false)
		wantCheck(t, nat.Of(3), []api.Step{{P: nat.Of(3), G: nat.Of(2), Q: []api.Nat{nothing, nat.Of(2)}}}, false)
		wantCheck(t, nat.Of(3), []api.Step{{P: nat.Of(3), G: nat.Of(2), Q: []api.Nat{nothing}}}, false)
		wantCheck(t, nat.Of(1), []api.Step{{P: nat.Of(1), G: nothing}}, false)
	}
}

func TestCheckLimits(t *testing.T) {
	for bits, s := range longPrimes() {
		if nat.Bits(s.P) != bits || !showsByWords(s) != (bits > api.MaxBits) {
			t.Errorf("the test itself is wrong about %d bits", bits)
		}
		wantCheck(t, s.P, []api.Step{s}, bits <= api.MaxBits)
		wantCheck(t, nat.Of(7), []api.Step{s, made(7, 3, 2, 3)}, bits <= api.MaxBits)
	}
	l, above := longest(), longer()
	if nat.Bits(l[1].P) != api.MaxBits || nat.Bits(above[1].P) != api.MaxBits+1 {
		t.Error("the test itself is wrong about longest and longer")
	}
	wantCheck(t, l[1].P, l, true)
	wantCheck(t, l[1].P, l[1:], false)
	wantCheck(t, above[1].P, above, false)
	wantCheck(t, above[0].P, append(above, above[0]), false)
	wantCheck(t, ofMany().P, []api.Step{ofMany()}, true)
}

func TestCheckLimitsOfG(t *testing.T) {
	s := longPrimes()[1024]
	for _, g := range []api.Nat{
		nat.Shl(nat.Of(1), 1024), nat.Shl(nat.Of(1), 1025), nat.Shl(nat.Of(3), 5000), nat.Add(s.P, s.G), nat.Add(nat.Add(s.P, s.P), s.G), // too long
		s.P, nat.Add(s.P, nat.Of(1)), nat.Add(s.P, nat.Of(2)), less(nat.Shl(nat.Of(1), 1024), 1), // of as many bits as may be, but not below P
		less(s.P, 1), nat.Of(1), nil,
	} {
		wantCheck(t, s.P, []api.Step{{P: s.P, G: g, Q: s.Q}}, false)
		wantCheck(t, nat.Of(7), []api.Step{{P: nat.Of(7), G: g, Q: words(2, 3)}}, false)
	}
	// P leaves 1 by 4: so what is left of P by G shows as much as G.
	wantCheck(t, s.P, []api.Step{{P: s.P, G: less(s.P, 3), Q: s.Q}}, true)
}

func TestCheckLimitsOfQ(t *testing.T) {
	l := longest()
	long := longPrimes()[1024]
	for _, q := range []api.Nat{l[1].P, less(l[1].P, 1), long.P, longPrimes()[1025].P, longPrimes()[1026].P, nat.Shl(nat.Of(1), 1023), nat.Shl(nat.Of(1), 1024), nat.Shl(nat.Of(1), 66000), less(nat.Shl(nat.Of(1), 1024), 1)} {
		last := l[1]
		last.Q = append(slices.Clone(l[1].Q), q)
		wantCheck(t, last.P, []api.Step{long, l[0], last}, false)
		wantCheck(t, last.P, []api.Step{long, l[0], l[1], last}, false)
		wantCheck(t, nat.Of(7), []api.Step{long, {P: nat.Of(7), G: nat.Of(3), Q: append(words(2, 3), q)}}, false)
		wantCheck(t, nat.Of(7), []api.Step{long, {P: nat.Of(7), G: nat.Of(3), Q: []api.Nat{q}}}, false)
	}
}

func TestCheckOfManyQ(t *testing.T) {
	many := primesFrom(2, 6000)
	wantCheck(t, nat.Of(7), []api.Step{made(7, 3, many...)}, false)
	wantCheck(t, nat.Of(7), []api.Step{made(7, 3, mixed(100000, 1)...)}, false)
	wantCheck(t, nat.Of(7), []api.Step{made(7, 3, make([]uint64, 100000)...)}, false)
	s := ofMany()
	for _, i := range []int{0, 1, 60, len(s.Q) - 2, len(s.Q) - 1} {
		part := s
		part.Q = slices.Delete(slices.Clone(s.Q), i, i+1)
		wantCheck(t, s.P, []api.Step{part}, false)
	}
	s.Q = append(slices.Clone(s.Q), words(3167)...)
	wantCheck(t, s.P, []api.Step{s}, false)
}

func TestCheckOfLongLists(t *testing.T) {
	var l []api.Step
	for _, p := range primesFrom(3, 1000) {
		l = append(l, shown(p))
	}
	wantCheck(t, l[len(l)-1].P, l, true)
	wantCheck(t, l[0].P, l, false)
	l[500].G = nat.Of(1)
	wantCheck(t, l[len(l)-1].P, l, false)
}

func TestBuildWrittenOut(t *testing.T) {
	for _, p := range []uint64{2, 3, 5, 7, 11, 257, 65519, lastKnown} {
		for _, draws := range [][]uint64{nil, {}, {0}, few()} {
			if l, e := Build(p, draws); len(l) > 0 || e != api.OK {
				t.Errorf("P11.2: Build of %d, %d: %d, error %d", p, draws, l, e)
			}
		}
	}
	for _, n := range []uint64{0, 1, 4, 6, 8, 9, 15, 25, 561, 2047, 65533, 65535, 65536, firstLong + 1, lastKnown * 2, lastKnown * lastKnown, firstLong * firstLong, 1 << 24, 1<<32 + 1, 1<<40 + 1, top, lastOnes - 2, lastOnes + 2, all} {
		for _, draws := range [][]uint64{nil, {}, {0}, few()} {
			wantError(t, n, draws, api.ErrPrime)
		}
	}
	for _, p := range []uint64{firstLong, 65539, 65543, 131071, 1<<24 - 3, 1<<24 + 43, 1<<31 - 1, 1<<31 + 11, 1<<32 - 5, 1<<32 - 17} {
		for _, draws := range [][]uint64{nil, {}, {0}, few()} {
			wantBuilt(t, p, draws)
		}
	}
	for _, p := range []uint64{1<<32 + 15, 1<<40 - 87, 1<<40 + 15, 1<<61 - 1, top - 25, top + 29, lastOnes} {
		wantBuilt(t, p, few())
	}
}

func TestBuildTried(t *testing.T) {
	for n := range uint64(80000) {
		switch {
		case isPrime(n):
			wantBuilt(t, n, nil)
		default:
			wantError(t, n, nil, api.ErrPrime)
		}
	}
}

func TestBuildBesideSizes(t *testing.T) {
	for _, size := range []uint64{1 << 16, 1 << 20, 1 << 24, 1 << 31, 1 << 32, 1 << 33, 1 << 40, 1 << 48, top, all - 200} {
		for n := size - 200; n <= size+200 && n > 200; n++ {
			wantAsDrawn(t, n, nil)
			wantAsDrawn(t, n, few())
		}
	}
	for _, n := range append(mixed(2000, 7), 1) {
		for _, bits := range []int{17, 20, 24, 28, 31, 32, 33, 36, 40, 48, 63, 64} {
			wantAsDrawn(t, n>>(64-bits)|1, few())
		}
	}
}

// Below 2^32 no draw is asked for: each number without a factor below 2^16 is a prime.
func TestBuildWithoutDraws(t *testing.T) {
	for _, n := range mixed(300, 9) {
		p := primesTo(n>>32, 1)[0]
		wantBuilt(t, p, nil)
		if n := n>>32 | 1; !isPrime(n) {
			wantError(t, n, nil, api.ErrPrime)
		}
	}
	for _, q := range append(primesTo(1<<31, 20), primesFrom(firstLong, 20)...) {
		for p := above(q, 2); p < 1<<32; p = above(q, (p-1)/q+2) {
			wantBuilt(t, p, nil)
			if p > q*40 {
				break
			}
		}
	}
}

// Each prime of such a row is twice the one ahead of it, and one more: so no draw is asked for.
func TestBuildOfTwiceAPrime(t *testing.T) {
	for p, length := range map[uint64]int{2: 5, 89: 6, 1122659: 7, 19099919: 8, 85864769: 9, 26089808579: 10, 665043081119: 11, 554688278429: 12} {
		for range length {
			wantBuilt(t, p, nil)
			p = 2*p + 1
		}
		if isPrime(p) {
			t.Errorf("the test itself ends its row ahead of %d", p)
		}
	}
}

func TestBuildOfPowersOfTwo(t *testing.T) {
	built := 0
	for _, times := range append(primesFrom(3, 40), 1, 9, 15, 27, 45, 49, 81, 105, 243, 625, 3125, 15015, 65535) {
		for p := times << 1; p < top; p <<= 1 {
			if isPrime(p + 1) {
				wantBuilt(t, p+1, nil)
				built++
			}
		}
	}
	if built < 200 {
		t.Errorf("the test itself is too narrow: %d certificates are built", built)
	}
}

func TestBuildOfManySmallPrimes(t *testing.T) {
	product := uint64(1)
	for _, q := range primesFrom(2, 15) { // of these the product is a word
		product *= q
		if product > 1<<16 && product < 1<<58 {
			p := above(product/2, 2)
			for range 5 {
				wantBuilt(t, p, nil)
				p = above(product/2, 2*((p-1)/product)+2)
			}
		}
	}
	wantBuilt(t, 200560490131, nil) // the product of all primes up to 31, and one more
	for _, q := range []uint64{3, 5, 7, 251, 65521} {
		for power := q * q * q; power < 1<<48; power *= q {
			wantBuilt(t, above(power, 2), nil)
		}
	}
}

func TestBuildWantsDraws(t *testing.T) {
	for _, q := range [][2]uint64{{firstLong, 65539}, {firstLong, firstLong}, {65539, 65543}, {firstLong, 1<<24 - 3}, {1<<20 - 3, 1<<20 + 7}, {1<<24 + 43, 1<<24 - 3}, {1<<28 - 57, 1<<28 + 3}} {
		part := q[0] * q[1]
		p := above(part, 2)
		wantError(t, p, nil, api.ErrFuel)
		wantError(t, p, []uint64{}, api.ErrFuel)
		for _, draw := range stuck(part) {
			wantError(t, p, []uint64{draw}, api.ErrFuel)
		}
		wantError(t, p, stuck(part), api.ErrFuel)
		wantError(t, p, slices.Repeat(stuck(part), 5), api.ErrFuel)
		wantBuilt(t, p, few())
		wantBuilt(t, p, append(stuck(part), few()...))
		wantBuilt(t, p, append(few(), stuck(part)...))
		for _, draw := range few() {
			wantAsDrawn(t, p, []uint64{draw})
			wantAsDrawn(t, p, append(stuck(part), draw))
		}
	}
}

// What is asked for draws is a prime that divides P - 1, or one that divides that less one, and so on.
func TestBuildWantsDrawsFurtherOn(t *testing.T) {
	part := uint64(firstLong * 65539)
	first := above(part, 2)
	for _, p := range []uint64{above(first, 2), above(first*3, 2), above(above(first, 2), 2), above(first*firstLong, 2)} {
		wantAsDrawn(t, p, nil)
		wantError(t, p, nil, api.ErrFuel)
		wantError(t, p, stuck(part), api.ErrFuel)
		wantBuilt(t, p, few())
		wantBuilt(t, p, append(stuck(part), few()...))
	}
	// Two numbers ask, P - 1 and the prime's: what is stuck at one of them does at the other one.
	both := first * firstLong
	p := above(both, 2)
	if _, _, e := rho.Factors(p-1, stuck(part)); e != api.OK {
		t.Error("the test itself is wrong about P - 1")
	}
	if !does(first, stuck(both)) {
		t.Error("the test itself is wrong about the prime ahead")
	}
	wantError(t, p, stuck(both), api.ErrFuel)
	wantError(t, p, stuck(part), api.ErrFuel)
	wantBuilt(t, p, append(stuck(part), stuck(both)...))
	wantBuilt(t, p, append(stuck(both), stuck(part)...))
}

// A prime that divides more than one P - 1 is ahead of all that need it.
func TestBuildOfPrimesThatComeAgain(t *testing.T) {
	for _, r := range primesFrom(firstLong, 6) {
		for _, times := range []uint64{2, 10, 40} {
			q, other := above(r, times), above(r, 100)
			for _, product := range []uint64{r * q, q * other, 3 * r * other, r * r, q * q, r * r * r} {
				wantBuilt(t, above(product, 2), few())
			}
		}
	}
}

// roomy copies a list into one with items of its own behind its end; whole is all of it.
func roomy[L ~[]I, I any](list L, more ...I) (out, whole L) {
	whole = append(slices.Clone(list), more...)
	return whole[:len(list)], whole
}

// roomySteps copies steps into lists all of which have items of their own behind their ends.
func roomySteps(l []api.Step) []api.Step {
	words := func(a api.Nat) api.Nat {
		list, _ := roomy(a, 11, 12, 13)
		return list
	}
	var out []api.Step
	for _, s := range l {
		var q []api.Nat
		for _, a := range s.Q {
			q = append(q, words(a))
		}
		q, _ = roomy(q, words(api.Nat{5}), words(api.Nat{6}))
		out = append(out, api.Step{P: words(s.P), G: words(s.G), Q: q})
	}
	out, _ = roomy(out, made(9, 2, 2), made(5, 2, 2))
	return out
}

// wholes are steps, and what is behind their lists' ends, in memory of their own.
func wholes(l []api.Step) []api.Step {
	whole := func(a api.Nat) api.Nat { return slices.Clone(a[:cap(a)]) }
	var out []api.Step
	for _, s := range l[:cap(l)] {
		var q []api.Nat
		for _, a := range s.Q[:cap(s.Q)] {
			q = append(q, whole(a))
		}
		out = append(out, api.Step{P: whole(s.P), G: whole(s.G), Q: q})
	}
	return out
}

func TestGivenStaysByCheck(t *testing.T) {
	a, b, p := pair()
	for _, l := range [][]api.Step{{made(7, 3, 2, 3)}, {made(7, 2, 2, 3)}, {made(9, 2, 2)}, {a, b, p}, {a, p, b}, {b, p}, tower(), longest(), longer(), {ofMany()}, {made(7, 3, 3, 2)}, {}, {{}}} {
		last := api.Nat{7}
		if len(l) > 0 {
			last = l[len(l)-1].P
		}
		for _, noughts := range []int{0, 2} {
			given := roomySteps(l)
			before, beforeWhole := copied(given), wholes(given)
			number, whole := roomy(loose(last, noughts), 11, 12)
			beforeNumber := slices.Clone(whole)
			Check(number, given)
			if !same(given, before) || !same(wholes(given), beforeWhole) || !slices.Equal(whole, beforeNumber) {
				t.Errorf("R3: Check of %x, %x changes what it is handed", last, l)
			}
		}
	}
}

// asked are numbers with draws that do, and that do not, for them.
func asked() map[uint64][]uint64 {
	return map[uint64][]uint64{
		0:                          {3, 2, 1},
		7:                          {3, 2, 1},
		9:                          {3, 2, 1},
		lastKnown:                  {5},
		firstLong:                  {},
		1<<40 + 15:                 few(),
		1<<61 - 1:                  few(),
		lastOnes:                   few(),
		9223372036854775337:        {9, 1, 2, 3, 8, 7, 5},
		554688278429:               {9, 8},
		above(firstLong*65539, 2):  stuck(firstLong * 65539),
		above(firstLong*65543, 2):  append(stuck(firstLong*65543), few()...),
		above(above(65539, 99), 2): {},
	}
}

func TestGivenStaysByBuild(t *testing.T) {
	for p, draws := range asked() {
		list, whole := roomy(draws, 11, 12, 13, 14)
		before := slices.Clone(whole)
		Build(p, list)
		if !slices.Equal(whole, before) {
			t.Errorf("R3: Build of %d, %d changes what it is handed", p, draws)
		}
	}
}

// spoil overwrites words, and what is behind their end.
func spoil(a api.Nat) {
	a = a[:cap(a)]
	for i := range a {
		a[i] = ^a[i]
	}
}

func TestAnsweredIsNew(t *testing.T) {
	for p, draws := range asked() {
		list, whole := roomy(draws, 11, 12, 13, 14)
		before := slices.Clone(whole)
		want, _ := Build(p, list)
		first, _ := Build(p, list)
		second, _ := Build(p, list)
		for _, s := range first[:cap(first)] {
			spoil(s.P)
			spoil(s.G)
			for _, q := range s.Q[:cap(s.Q)] {
				spoil(q)
			}
			clear(s.Q[:cap(s.Q)])
		}
		clear(first[:cap(first)])
		if !slices.Equal(whole, before) {
			t.Errorf("R3: Build of %d, %d answers what it was handed", p, draws)
		}
		clear(whole)
		if !same(second, want) {
			t.Errorf("R3: what Build of %d, %d answers is not in memory of its own", p, draws)
		}
		wantApart(t, p, second)
	}
}

// wantApart looks whether no two lists of an answer share memory: one of them is spoiled, and the others stay.
func wantApart(t *testing.T, p uint64, l []api.Step) {
	t.Helper()
	numbers := func(l []api.Step) (out []api.Nat) {
		for _, s := range l {
			out = append(out, s.P, s.G)
			out = append(out, s.Q...)
		}
		return out
	}
	for i := range numbers(l) {
		before := numbers(copied(l))
		spoil(numbers(l)[i])
		for k, a := range numbers(l) {
			if slices.Equal(a, before[k]) == (k == i) {
				t.Errorf("R3: what Build of %d answers has two lists that share memory", p)
			}
		}
		spoil(numbers(l)[i])
	}
	for i := range l {
		before := copied(l)
		q := l[i].Q
		l[i].Q = nil
		clear(q[:cap(q)])
		before[i].Q = nil
		if !same(l, before) {
			t.Errorf("R3: what Build of %d answers has two lists that share memory", p)
		}
	}
}

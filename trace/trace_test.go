package trace

import (
	"crypto/elliptic"
	"math"
	"math/big"
	"os"
	"runtime/debug"
	"slices"
	"strconv"
	"sync"
	"testing"

	"caltrop/api"
	"caltrop/curve"
	"caltrop/divpoly"
	"caltrop/nat"
	"caltrop/twist"
)

const all = math.MaxUint64 // a word whose bits are all 1

// TestMain lets memory be looked through less often: nearly all of it is gone at once.
func TestMain(m *testing.M) {
	debug.SetGCPercent(400)
	os.Exit(m.Run())
}

// less is a without so many; there are as many.
func less(a api.Nat, count uint64) api.Nat {
	out, _ := nat.Sub(a, nat.Of(count))
	return out
}

// more is a and so many.
func more(a api.Nat, count uint64) api.Nat { return nat.Add(a, nat.Of(count)) }

// loose is a's number in words that may not be, unless noughts is 0.
func loose(a api.Nat, noughts int) api.Nat {
	return append(slices.Clone(a), make(api.Nat, noughts)...)
}

// oneAt is 2^place.
func oneAt(place int) api.Nat {
	a := make(api.Nat, place/64+1)
	a[place/64] = 1 << (place % 64)
	return a
}

// row makes numbers below p without any order to be seen in them; another seed makes another row.
func row(p *big.Int, seed uint64) func() *big.Int {
	return func() *big.Int {
		out := new(big.Int)
		for range 5 {
			seed = seed*6364136223846793005 + 1442695040888963407
			out.Lsh(out, 64)
			out.Add(out, new(big.Int).SetUint64(seed^seed>>29))
		}
		return out.Mod(out, p)
	}
}

// numberOf is the number of words by the words of chapter 2 alone, in numbers of the library.
func numberOf(a api.Nat) *big.Int {
	out := new(big.Int)
	for _, x := range slices.Backward(a) {
		out.Lsh(out, 64).Add(out, new(big.Int).SetUint64(x))
	}
	return out
}

// wordsOf is a number of the library's in words that may be.
func wordsOf(x *big.Int) api.Nat { return nat.FromBytes(x.Bytes()) }

// hex is a number that is written to the base 16.
func hex(text string) api.Nat {
	x, _ := new(big.Int).SetString(text, 16)
	return wordsOf(x)
}

// sum is that of some factors' product and a number.
func sum(a int64, factors ...*big.Int) *big.Int {
	out := big.NewInt(1)
	for _, x := range factors {
		out.Mul(out, x)
	}
	return out.Add(out, big.NewInt(a))
}

// sizes are the lengths of P, in bits, of great primes that are tested.
func sizes() []int { return []int{31, 32, 33, 63, 64, 65, 127, 128, 129, 192, 255, api.MaxField} }

// nextPrime is the next prime from a number on, by steps that may be below 0.
func nextPrime(a api.Nat, step int64) api.Nat {
	x := numberOf(a)
	for !x.ProbablyPrime(10) {
		x.Add(x, big.NewInt(step))
	}
	return wordsOf(x)
}

// great is the greatest prime of so many bits that leaves rest by m.
func great(size int, rest, m uint64) api.Nat {
	x := less(oneAt(size), 1)
	for new(big.Int).Mod(numberOf(x), new(big.Int).SetUint64(m)).Uint64() != rest {
		x = less(x, 1)
	}
	return nextPrime(x, -int64(m))
}

// smallPrimes are those from least to most.
func smallPrimes(least, most int) (out []int) {
	for p := least; p <= most; p++ {
		if big.NewInt(int64(p)).ProbablyPrime(1) {
			out = append(out, p)
		}
	}
	return out
}

// mayBe are the l that may be asked for, up to most.
func mayBe(most int) []int { return smallPrimes(2, most) }

// product is that of all.
func product(factors ...api.Nat) api.Nat {
	out := big.NewInt(1)
	for _, a := range factors {
		out.Mul(out, numberOf(a))
	}
	return wordsOf(out)
}

// power is so many times a.
func power(a api.Nat, count int) api.Nat { return product(slices.Repeat([]api.Nat{a}, count)...) }

// others are odd numbers that are no primes: products of small ones, powers, products of two great ones, and numbers whose bits are all 1.
func others() []api.Nat {
	return []api.Nat{
		{9}, {15}, {21}, {25}, {27}, {33}, {35}, {45}, {49}, {63}, {75}, {77}, {81}, {91}, {99}, {105}, {119}, {121}, {125}, {143}, {169}, {221}, {315}, {341}, {561}, {1105}, {1155}, {2047}, {3599}, {15015}, {65535},
		{1<<31 + 1}, {1<<32 - 1}, {1<<32 + 1}, {1<<63 - 1}, {1<<63 + 1}, {all}, {1, 1}, {all, 1}, {1, 2}, {all, all}, {all, all, 1}, {all, all, all}, {all, all, all, all},
		power(api.Nat{3}, 40), power(api.Nat{5}, 27), power(api.Nat{3}, 161), power(api.Nat{5}, 110), power(api.Nat{7}, 91), power(api.Nat{61}, 43), power(api.Nat{1<<31 - 1}, 2), power(api.Nat{1<<61 - 1}, 2), power(api.Nat{all - 58}, 4),
		product(api.Nat{65521}, api.Nat{65537}), product(api.Nat{1<<31 - 1}, api.Nat{1<<32 - 5}), product(api.Nat{1<<61 - 1}, api.Nat{all - 58}), product(api.Nat{all, 1<<63 - 1}, api.Nat{all - 158, all}),
		product(api.Nat{3}, api.Nat{1<<61 - 1}), product(api.Nat{5}, api.Nat{1<<61 - 1}), product(api.Nat{7}, api.Nat{13, 1}), product(api.Nat{11}, api.Nat{all - 188, all, all}), product(api.Nat{61}, api.Nat{all - 58}),
	}
}

// over is a curve of three words.
func over(p, a, b uint64) api.Curve { return api.Curve{P: nat.Of(p), A: nat.Of(a), B: nat.Of(b)} }

// of is a curve of the library's numbers, all of them taken modulo p.
func of(p, a, b *big.Int) api.Curve {
	return api.Curve{P: wordsOf(p), A: wordsOf(new(big.Int).Mod(a, p)), B: wordsOf(new(big.Int).Mod(b, p))}
}

// fits tells whether words may be, by chapter 2.
func fits(a api.Nat) bool { return len(a) == 0 || a[len(a)-1] != 0 }

// errorOf is May's error by the words of chapter 16.
func errorOf(c api.Curve) api.Errno {
	p, a, b := numberOf(c.P), numberOf(c.A), numberOf(c.B)
	if !fits(c.P) || !fits(c.A) || !fits(c.B) || p.Bit(0) == 0 || p.Cmp(big.NewInt(5)) < 0 || p.BitLen() > api.MaxField || a.Cmp(p) >= 0 || b.Cmp(p) >= 0 {
		return api.ErrArg
	}
	bend := new(big.Int).Add(sum(0, big.NewInt(4), a, a, a), sum(0, big.NewInt(27), b, b))
	if bend.Mod(bend, p).Sign() == 0 {
		return api.ErrCurve
	}
	return api.OK
}

// want holds a trace, or an error, beside which the answer is 0.
func want(t *testing.T, c api.Curve, l, right int, rightE api.Errno) {
	t.Helper()
	if got, e := Mod(c, l); got != right || e != rightE {
		t.Errorf("P20.1: Mod of %x, %d: %d, error %d, not %d, error %d", c, l, got, e, right, rightE)
	}
}

// wantTrace holds the traces modulo all of ls against a trace that is known; l that is P is refused.
func wantTrace(t *testing.T, c api.Curve, trace *big.Int, ls []int) {
	t.Helper()
	for _, l := range ls {
		if numberOf(c.P).Cmp(big.NewInt(int64(l))) == 0 {
			want(t, c, l, 0, api.ErrArg)
			continue
		}
		want(t, c, l, int(new(big.Int).Mod(trace, big.NewInt(int64(l))).Int64()), api.OK)
	}
}

// tiny is a curve whose points are counted one by one.
type tiny struct{ p, a, b int }

func (c tiny) curve() api.Curve { return over(uint64(c.p), uint64(c.a), uint64(c.b)) }

func (c tiny) isSmooth() bool { return (4*c.a*c.a*c.a+27*c.b*c.b)%c.p != 0 }

func (c tiny) right(x int) int { return (x*x%c.p*x + c.a*x + c.b) % c.p }

// roots tells how many the right side has.
func (c tiny) roots() (out int) {
	for x := range c.p {
		if c.right(x) == 0 {
			out++
		}
	}
	return out
}

// trace is P and 1 less how many points there are: O, and all pairs that fulfil the equation.
func (c tiny) trace() int {
	squares := make([]int, c.p)
	for y := range c.p {
		squares[y*y%c.p]++
	}
	count := 1
	for x := range c.p {
		count += squares[c.right(x)]
	}
	return c.p + 1 - count
}

// points are all but O.
func (c tiny) points() (out []api.Point) {
	for x := range c.p {
		for y := range c.p {
			if y*y%c.p == c.right(x) {
				out = append(out, api.Point{X: nat.Of(uint64(x)), Y: nat.Of(uint64(y))})
			}
		}
	}
	return out
}

// hasAll tells whether all l^2 points of which l come to O are over P.
func (c tiny) hasAll(l int) bool {
	count := 1
	for _, p := range c.points() {
		if q, e := curve.Times(c.curve(), nat.Of(uint64(l)), p); e == api.OK && q.Far {
			count++
		}
	}
	return count == l*l
}

// tinies are all curves modulo p.
func tinies(p int) (out []tiny) {
	for a := range p {
		for b := range p {
			if c := (tiny{p, a, b}); c.isSmooth() {
				out = append(out, c)
			}
		}
	}
	return out
}

// someTinies are curves modulo p of A and B 0, P - 1, 1 and others.
func someTinies(p int) (out []tiny) {
	k := p*p/7 + 2
	for _, c := range []tiny{{p, k % p, (k + 5) % p}, {p, 0, k % p}, {p, k % p, 0}, {p, p - 1, p - 1}, {p, 1, 1}, {p, (3*k + 1) % p, p - 1}, {p, p - 1, (k + 2) % p}, {p, 0, 1}, {p, 1, 0}, {p, 0, p - 1}, {p, p - 1, 0}} {
		if c.isSmooth() {
			out = append(out, c)
		}
	}
	return out
}

// wantAll holds traces modulo all of ls against points that are counted.
func (c tiny) wantAll(t *testing.T, ls []int) {
	t.Helper()
	wantTrace(t, c.curve(), big.NewInt(int64(c.trace())), ls)
}

func TestExamples(t *testing.T) {
	c := over(5, 1, 1)
	want(t, c, 2, 1, api.OK)
	want(t, c, 3, 0, api.OK)
	want(t, c, 5, 0, api.ErrArg)
	want(t, c, 7, 4, api.OK) // nine points: the trace is -3
	if got := (tiny{5, 1, 1}).trace(); got != -3 {
		t.Errorf("the trace of nine points over 5 is -3, not %d", got)
	}
	wantTrace(t, over(7, 0, 1), big.NewInt(-4), mayBe(31))  // 12 points
	wantTrace(t, over(23, 1, 4), big.NewInt(-5), mayBe(31)) // 29 points
}

// TestNumbers has all l that may not be, with several curves, and l that is P.
func TestNumbers(t *testing.T) {
	wrong := []int{math.MinInt, math.MinInt + 1, math.MinInt + 3, -1 << 32, -61, -7, -5, -3, -2, -1, 0, 1, 4, 6, 8, 9, 10, 12, 14, 15, 21, 25, 27, 33, 35, 39, 45, 49, 50, 51, 55, 57, 58, 60, 62, 63, 64, 65, 67, 71, 77, 97, 121, 127, 128 + 3, 251, 256 + 3, 257, 65537, 1<<16 + 3, 1<<31 - 1, 1<<32 + 1, 1<<32 + 2, 1<<32 + 3, 1<<32 + 15, 1<<61 - 1, 1<<62 + 3, math.MaxInt - 1, math.MaxInt}
	for _, c := range []api.Curve{over(5, 1, 1), over(7, 0, 1), over(61, 2, 3), over(67, 2, 3), over(71, 1, 0), over(9, 1, 1), over(49, 1, 1), over(25, 1, 1), over(1<<63-25, 4, 9), {P: great(256, 1, 2), A: api.Nat{2}}} {
		for _, l := range wrong {
			want(t, c, l, 0, api.ErrArg)
		}
		for l := range 300 {
			if l > 61 || !slices.Contains(mayBe(61), l) {
				want(t, c, l, 0, api.ErrArg)
			}
			want(t, c, -l, 0, api.ErrArg)
		}
	}
	for _, p := range smallPrimes(5, 67) {
		for _, c := range someTinies(p) {
			if p <= 61 {
				want(t, c.curve(), p, 0, api.ErrArg)
			}
			c.wantAll(t, []int{2, 3})
		}
	}
}

// TestEachNumber has each l that may be.
func TestEachNumber(t *testing.T) {
	t.Parallel()
	for i, l := range mayBe(61) {
		t.Run(strconv.Itoa(l), func(t *testing.T) {
			t.Parallel()
			list := someTinies([]int{67, 211, 1009}[i%3])
			list[i%len(list)].wantAll(t, []int{l})
		})
	}
}

// refused are curves that may not be.
func refused() (out []api.Curve) {
	for _, p := range []api.Nat{{7}, {13}, {15}, {1<<63 - 25}, {13, 1}, {all - 188, all, all, all}, {all, all, all, all}} {
		a, b := less(p, 2), api.Nat{3}
		out = append(out, api.Curve{P: p}, api.Curve{P: p, A: less(p, 3), B: api.Nat{2}}, api.Curve{P: p, A: less(p, 3), B: less(p, 2)}) // 4 A^3 is -108, and 27 B^2 is 108
		for _, x := range []api.Nat{p, more(p, 1), nat.Shl(p, 1), loose(a, 1), loose(b, 3), {0}, {1, 0}, loose(p, 1), append(loose(p, 5-len(p)), 1), make(api.Nat, 300)} {
			out = append(out, api.Curve{P: p, A: x, B: b}, api.Curve{P: p, A: a, B: x}, api.Curve{P: p, A: x, B: x})
		}
		for _, x := range []api.Nat{nil, {0}, {1}, {2}, {3}, {4}, more(p, 1), loose(p, 1), loose(p, 4), nat.Shl(p, 300), append(loose(p, 4-len(p)), 1), oneAt(256), more(oneAt(256), 1), {1, 2, 3, 4, 5}} {
			out = append(out, api.Curve{P: x, A: a, B: b}, api.Curve{P: x, A: api.Nat{1}, B: api.Nat{1}}, api.Curve{P: x})
		}
	}
	return append(out, api.Curve{}, over(9, 0, 1), over(9, 3, 3), over(25, 15, 10), over(27, 3, 0), over(81, 9, 9), over(23, 22, 22), over(31, 1, 1), over(5, 0, 0), over(5, 2, 2), over(61, 0, 0))
}

// TestRefused has the curve's error ahead of an l that may not be, and of one that is P.
func TestRefused(t *testing.T) {
	seen := map[api.Errno]int{}
	for _, c := range refused() {
		right := errorOf(c)
		seen[right]++
		if e := curve.May(c); e != right {
			t.Errorf("P16.1: May of %x: error %d, not %d", c, e, right)
		}
		for _, l := range []int{math.MinInt, -1, 0, 1, 2, 3, 4, 5, 6, 7, 9, 13, 23, 31, 49, 59, 60, 61, 62, 67, math.MaxInt} {
			want(t, c, l, 0, right)
		}
	}
	if seen[api.OK] > 0 || seen[api.ErrArg] < 100 || seen[api.ErrCurve] < 20 {
		t.Errorf("of how many there is which error: %v", seen)
	}
}

// seen counts of which kinds the curves of a test are.
type seen struct {
	sync.Mutex
	counts map[string]int
}

// note says to which of the kinds a curve belongs that are told apart by its trace, P and l.
func (s *seen) note(c tiny, l int) {
	trace := c.trace()
	s.Lock()
	defer s.Unlock()
	add := func(kind string, is bool) {
		if is {
			s.counts[strconv.Itoa(l)+": "+kind]++
		}
	}
	add("trace 0", trace == 0)
	add("trace 0 modulo l alone", trace != 0 && trace%l == 0)
	add("square 4 P", (trace*trace-4*c.p)%l == 0)
	add("point over P", (c.p+1-trace)%l == 0)
	add("no point over P", (c.p+1-trace)%l != 0)
	add("all points over P", (c.p+1-trace)%(l*l) == 0 && c.p%l == 1 && c.hasAll(l))
	add("P leaves 1", c.p%l == 1)
	add("P leaves l less 1", c.p%l == l-1)
	add("roots "+strconv.Itoa(c.roots()), true)
}

// wantKinds asks that there were some of each kind.
func (s *seen) wantKinds(t *testing.T, l int, kinds ...string) {
	t.Helper()
	for _, kind := range kinds {
		if name := strconv.Itoa(l) + ": " + kind; s.counts[name] == 0 {
			t.Errorf("no curve of the kind %s was there", name)
		}
	}
}

// TestAllCurves has all curves modulo the smallest primes with the smallest l, and asks whether all kinds were there.
func TestAllCurves(t *testing.T) {
	t.Parallel()
	kinds := seen{counts: map[string]int{}}
	t.Run("whole", func(t *testing.T) {
		for _, p := range smallPrimes(5, 43) {
			t.Run(strconv.Itoa(p), func(t *testing.T) {
				t.Parallel()
				for _, c := range tinies(p) {
					for l, most := range map[int]int{2: 43, 3: 43, 5: 43, 7: 31, 11: 17, 13: 13} {
						if p <= most {
							c.wantAll(t, []int{l})
							kinds.note(c, l)
						}
					}
				}
			})
		}
	})
	kinds.wantKinds(t, 2, "roots 0", "roots 1", "roots 3", "trace 0", "trace 0 modulo l alone")
	for _, l := range []int{3, 5, 7} {
		kinds.wantKinds(t, l, "trace 0", "trace 0 modulo l alone", "square 4 P", "point over P", "no point over P", "P leaves 1", "P leaves l less 1")
	}
	kinds.wantKinds(t, 3, "all points over P")
	kinds.wantKinds(t, 5, "all points over P")
	kinds.wantKinds(t, 11, "trace 0", "square 4 P", "point over P")
	kinds.wantKinds(t, 13, "trace 0", "square 4 P", "point over P")
}

// TestAllPointsOver has curves that have all points of l over P.
func TestAllPointsOver(t *testing.T) {
	t.Parallel()
	for l, p := range map[int]int{3: 7, 5: 31, 7: 43, 13: 157} {
		found := 0
		for _, c := range tinies(p) {
			if trace := c.trace(); (p+1-trace)%(l*l) == 0 && c.a*c.b%5 == 0 && c.hasAll(l) {
				found++
				c.wantAll(t, []int{2, 3, 5, 7, l})
			}
			if found == 6 {
				break
			}
		}
		if found == 0 {
			t.Errorf("over %d no curve has all points of %d", p, l)
		}
	}
}

// TestAboveP has l that are greater than P.
func TestAboveP(t *testing.T) {
	t.Parallel()
	for _, p := range smallPrimes(5, 59) {
		t.Run(strconv.Itoa(p), func(t *testing.T) {
			t.Parallel()
			list := someTinies(p)
			for i, l := range mayBe(61) {
				if l > p && (l < 37 || p == 5 || (l-p)%10 == 0) {
					list[i%len(list)].wantAll(t, []int{l})
				}
				if l > p && l < 20 {
					for _, c := range list {
						c.wantAll(t, []int{l})
					}
				}
			}
		})
	}
}

// TestNeighbours has P just above l, and P that leave 1 by l, and l less 1.
func TestNeighbours(t *testing.T) {
	t.Parallel()
	for i, l := range mayBe(61) {
		t.Run(strconv.Itoa(l), func(t *testing.T) {
			t.Parallel()
			from := uint64(max(l, 4))
			for k, start := range []api.Nat{nat.Of(from + 1), nat.Of(from*uint64(l) + 1), nat.Of(from*uint64(l) - 1)} {
				step := []int64{1, int64(l), int64(l)}[k]
				p := int(nextPrime(start, step)[0])
				list := someTinies(p)
				for n, c := range list {
					if l < 20 || n == i%len(list) && (l < 43 || k == i%3) {
						c.wantAll(t, []int{l})
					}
				}
			}
		})
	}
}

// TestElevenBits has some curves over primes of up to 11 bits.
func TestElevenBits(t *testing.T) {
	t.Parallel()
	for _, p := range []int{127, 131, 251, 257, 509, 521, 1009, 1019, 1021, 1031, 2003, 2011, 2027, 2029, 2039} {
		t.Run(strconv.Itoa(p), func(t *testing.T) {
			t.Parallel()
			for i, c := range someTinies(p) {
				c.wantAll(t, mayBe([]int{23, 13, 11, 11}[i%4]))
			}
			someTinies(p)[p%5].wantAll(t, []int{29})
		})
	}
	for _, l := range mayBe(61) {
		t.Run("2039 "+strconv.Itoa(l), func(t *testing.T) {
			t.Parallel()
			tiny{2039, 5, 8}.wantAll(t, []int{l})
		})
	}
}

// TestNoTrace has curves of P and 1 points: their trace is 0 modulo all l.
func TestNoTrace(t *testing.T) {
	t.Parallel()
	for _, p := range smallPrimes(5, 60) {
		for k := 1; k < p; k += 1 + p/7 {
			if p%4 == 3 {
				wantTrace(t, tiny{p, k, 0}.curve(), new(big.Int), mayBe(13))
			}
			if p%3 == 2 {
				wantTrace(t, tiny{p, 0, k}.curve(), new(big.Int), mayBe(13))
			}
		}
	}
	for _, size := range sizes() {
		t.Run(strconv.Itoa(size), func(t *testing.T) {
			t.Parallel()
			ls := mayBe(11)
			if size <= 64 {
				ls = mayBe(23)
			}
			for _, rest := range []uint64{5, 7, 11} { // by 12
				p := numberOf(great(size, rest, 12))
				k := row(p, rest)()
				if rest%4 == 3 {
					wantTrace(t, of(p, k, new(big.Int)), new(big.Int), ls)
				}
				if rest%3 == 2 {
					wantTrace(t, of(p, new(big.Int), k), new(big.Int), ls)
				}
				ls = mayBe(7)
			}
		})
	}
}

// TestTwoByHand has right sides with no root, with one, and with three, over great primes.
func TestTwoByHand(t *testing.T) {
	t.Parallel()
	for _, size := range sizes() {
		t.Run(strconv.Itoa(size), func(t *testing.T) {
			t.Parallel()
			for _, rest := range []uint64{1, 5, 7, 11} { // by 12
				wantTwo(t, numberOf(great(size, rest, 12)))
			}
		})
	}
}

// wantTwo makes right sides of their roots, and some that have none, since not all numbers are cubes.
func wantTwo(t *testing.T, p *big.Int) {
	t.Helper()
	next := row(p, 7)
	seen := [4]int{}
	for range 8 {
		u, v := next(), next()
		three := of(p, new(big.Int).Sub(sum(0, big.NewInt(-1), u, u), new(big.Int).Add(sum(0, u, v), sum(0, v, v))), new(big.Int).Add(sum(0, u, u, v), sum(0, u, v, v))) // (x - u) (x - v) (x + u + v)
		if errorOf(three) == api.OK {
			seen[3]++
			want(t, three, 2, 0, api.OK)
		}
		one := of(p, new(big.Int).Sub(v, sum(0, u, u)), sum(0, big.NewInt(-1), u, v)) // (x - u) (x^2 + u x + v)
		if errorOf(one) == api.OK && big.Jacobi(new(big.Int).Sub(sum(0, u, u), sum(0, big.NewInt(4), v)), p) == -1 {
			seen[1]++
			want(t, one, 2, 0, api.OK)
		}
		third := new(big.Int).Div(new(big.Int).Sub(p, big.NewInt(1)), big.NewInt(3))
		if u.Sign() != 0 && new(big.Int).Mod(p, big.NewInt(3)).Int64() == 1 && new(big.Int).Exp(u, third, p).Cmp(big.NewInt(1)) != 0 { // u is no cube, and neither is -u
			seen[0]++
			want(t, of(p, new(big.Int), u), 2, 1, api.OK)
		}
	}
	if seen[3] == 0 || seen[1] == 0 || seen[0] == 0 && new(big.Int).Mod(p, big.NewInt(3)).Int64() == 1 {
		t.Errorf("of how many curves over %x there are how many roots: %v", p, seen)
	}
}

// greatCurves are curves of P: of A and B both others, one of them 0, and both P - 1.
func greatCurves(p api.Nat) (out []api.Curve) {
	x := numberOf(p)
	next := row(x, p[0])
	zero, last := new(big.Int), big.NewInt(-1)
	for _, c := range []api.Curve{of(x, next(), next()), of(x, last, last), of(x, zero, next()), of(x, next(), zero), of(x, big.NewInt(1), big.NewInt(1)), of(x, next(), next())} {
		if errorOf(c) == api.OK {
			out = append(out, c)
		}
	}
	return out
}

// TestTwists holds P20.2: the traces of a curve and of its twist by what is no square come to 0 together; by a square both are the same.
func TestTwists(t *testing.T) {
	t.Parallel()
	for i, size := range sizes() {
		t.Run(strconv.Itoa(size), func(t *testing.T) {
			t.Parallel()
			p := great(size, uint64(1+2*(i%2)), 4)
			d := uint64(2)
			for big.Jacobi(new(big.Int).SetUint64(d), numberOf(p)) == 1 {
				d++
			}
			for k, c := range greatCurves(p) {
				ls := mayBe(5)
				if k == i%4 || size <= 64 {
					ls = mayBe(11)
				}
				wantTwins(t, c, d, ls)
				wantTwins(t, c, 4, mayBe(3))
			}
		})
	}
	for _, p := range smallPrimes(5, 19) {
		for _, c := range tinies(p) {
			wantTwins(t, c.curve(), uint64(p-1), mayBe(5))
			wantTwins(t, c.curve(), 2, mayBe(5))
		}
	}
}

func wantTwins(t *testing.T, c api.Curve, d uint64, ls []int) {
	t.Helper()
	other, e := twist.Twist(c, nat.Of(d))
	if e != api.OK {
		t.Fatalf("P18.1: Twist of %x, %d: error %d", c, d, e)
	}
	isSquare := big.Jacobi(new(big.Int).SetUint64(d), numberOf(c.P)) == 1
	for _, l := range ls {
		if slices.Equal(c.P, nat.Of(uint64(l))) {
			continue
		}
		one, e := Mod(c, l)
		two, otherE := Mod(other, l)
		switch {
		case e != api.OK || otherE != api.OK || one < 0 || one >= l || two < 0 || two >= l:
			t.Errorf("P20.1: Mod of %x and of its twist by %d, %d: %d, error %d, and %d, error %d", c, d, l, one, e, two, otherE)
		case isSquare && one != two || !isSquare && (one+two)%l != 0:
			t.Errorf("P20.2: Mod of %x and of its twist by %d, %d: %d and %d", c, d, l, one, two)
		}
	}
}

// known is a curve in use, and how many points it has.
type known struct {
	c api.Curve
	n api.Nat
}

// knowns are secp256k1, secp112r1, secp128r1, brainpoolP160r1, P-224 and P-256.
func knowns() (out []known) {
	add := func(p, a, b, n string) {
		out = append(out, known{api.Curve{P: hex(p), A: hex(a), B: hex(b)}, hex(n)})
	}
	add("fffffffffffffffffffffffffffffffffffffffffffffffffffffffefffffc2f", "0", "7", "fffffffffffffffffffffffffffffffebaaedce6af48a03bbfd25e8cd0364141")
	add("db7c2abf62e35e668076bead208b", "db7c2abf62e35e668076bead2088", "659ef8ba043916eede8911702b22", "db7c2abf62e35e7628dfac6561c5")
	add("fffffffdffffffffffffffffffffffff", "fffffffdfffffffffffffffffffffffc", "e87579c11079f43dd824993c2cee5ed3", "fffffffe0000000075a30d1b9038a115")
	add("e95e4a5f737059dc60dfc7ad95b3d8139515620f", "340e7be2a280eb74e2be61bada745d97e8f7c300", "1e589a8595423412134faa2dbdec95c8d8675e58", "e95e4a5f737059dc60df5991d45029409e60fc09")
	for _, c := range []elliptic.Curve{elliptic.P224(), elliptic.P256()} {
		n := c.Params()
		out = append(out, known{of(n.P, big.NewInt(-3), n.B), wordsOf(n.N)})
	}
	return out
}

// TestKnownCounts has curves in use, and twists of them.
func TestKnownCounts(t *testing.T) {
	t.Parallel()
	for i, k := range knowns() {
		t.Run(numberOf(k.c.P).Text(16), func(t *testing.T) {
			t.Parallel()
			trace := new(big.Int).Sub(sum(1, numberOf(k.c.P)), numberOf(k.n))
			ls := mayBe([]int{13, 23, 23, 17, 13, 17}[i])
			wantTrace(t, k.c, trace, ls)
			d := uint64(2)
			for big.Jacobi(new(big.Int).SetUint64(d), numberOf(k.c.P)) == 1 {
				d++
			}
			other, _ := twist.Twist(k.c, nat.Of(d))
			wantTrace(t, other, trace.Neg(trace), mayBe(7))
		})
	}
}

// residues are what numbers leave by all of ls, told as texts that are sorted.
func residues(numbers []*big.Int, ls []int) (out []string) {
	for _, x := range numbers {
		text := ""
		for _, l := range ls {
			text += " " + new(big.Int).Mod(x, big.NewInt(int64(l))).String()
		}
		out = append(out, text)
	}
	slices.Sort(out)
	return out
}

// wantFamily asks that the traces of some curves are these, in an order that nobody says.
func wantFamily(t *testing.T, curves []api.Curve, traces []*big.Int, ls []int) {
	t.Helper()
	var got []string
	for _, c := range curves {
		text := ""
		for _, l := range ls {
			x, e := Mod(c, l)
			if e != api.OK {
				t.Errorf("P20.1: Mod of %x, %d: error %d", c, l, e)
			}
			text += " " + strconv.Itoa(x)
		}
		got = append(got, text)
	}
	slices.Sort(got)
	if right := residues(traces, ls); !slices.Equal(got, right) {
		t.Errorf("P20.1: Mod of %x and the like, %v: %q, not %q", curves[0], ls, got, right)
	}
}

// noPower is the least number from 2 on whose power of P - 1 by n is not 1 for any of some n.
func noPower(p *big.Int, ns ...int64) *big.Int {
	last := new(big.Int).Sub(p, big.NewInt(1))
	for g := int64(2); ; g++ {
		if !slices.ContainsFunc(ns, func(n int64) bool {
			return new(big.Int).Exp(big.NewInt(g), new(big.Int).Div(last, big.NewInt(n)), p).Cmp(big.NewInt(1)) == 0
		}) {
			return big.NewInt(g)
		}
	}
}

// someRoot is a number of about so many hundredths of the root of 2^size, that leaves rest by m.
func someRoot(size, share int, rest, m int64) *big.Int {
	x := new(big.Int).Sqrt(sum(0, big.NewInt(int64(share*share)), numberOf(oneAt(size))))
	x.Div(x, big.NewInt(100))
	x.Sub(x, new(big.Int).Mod(x, big.NewInt(m)))
	return x.Add(x, big.NewInt(rest))
}

// TestSquaresTogether has primes that are a^2 and b^2, whose curves of B 0 have the traces 2 a, 2 b and both less than 0. Where b is 0 and a is 1 modulo 105, one of them has all points of 3, 5 and 7 over P; where both are 2 modulo 5 one has a point of 5.
func TestSquaresTogether(t *testing.T) {
	t.Parallel()
	for _, size := range []int{31, 32, 63, 64, 65, 128, 129, api.MaxField} {
		t.Run(strconv.Itoa(size), func(t *testing.T) {
			t.Parallel()
			for _, rests := range [][2]int64{{1, 0}, {2, 2}, {0, 1}} {
				a, b := someRoot(size, 65, rests[0], 105), someRoot(size, 50, rests[1], 105)
				p := new(big.Int).Add(sum(0, a, a), sum(0, b, b))
				for p.Bit(0) == 0 || !p.ProbablyPrime(10) {
					if b.Add(b, big.NewInt(105)); b.Bit(1) == 1 {
						a.Add(a, big.NewInt(105))
					}
					p = new(big.Int).Add(sum(0, a, a), sum(0, b, b))
				}
				if p.BitLen() != size {
					t.Fatalf("%x has %d bits", p, p.BitLen())
				}
				g, k := noPower(p, 2), big.NewInt(1)
				var curves []api.Curve
				for range 4 {
					curves = append(curves, of(p, k, new(big.Int)))
					k = sum(0, k, g)
				}
				two := big.NewInt(2)
				wantFamily(t, curves, []*big.Int{sum(0, two, a), sum(0, big.NewInt(-2), a), sum(0, two, b), sum(0, big.NewInt(-2), b)}, mayBe(11))
			}
		})
	}
}

// TestThreeTogether has primes 4 P = a^2 + 27 b^2, whose curves of A 0 have the traces a, half of a + 9 b, half of a - 9 b, and these less than 0.
func TestThreeTogether(t *testing.T) {
	t.Parallel()
	for _, size := range []int{31, 32, 63, 64, 65, 128, 129, api.MaxField} {
		t.Run(strconv.Itoa(size), func(t *testing.T) {
			t.Parallel()
			a, b := someRoot(size, 100, 1, 210), someRoot(size, 27, 1, 2)
			of4 := func() *big.Int { return new(big.Int).Add(sum(0, a, a), sum(0, big.NewInt(27), b, b)) }
			p := new(big.Int).Rsh(of4(), 2)
			for !p.ProbablyPrime(10) {
				b.Add(b, big.NewInt(2))
				p.Rsh(of4(), 2)
			}
			if p.BitLen() != size {
				t.Fatalf("%x has %d bits", p, p.BitLen())
			}
			g, k := noPower(p, 2, 3), big.NewInt(1)
			var curves []api.Curve
			for range 6 {
				curves = append(curves, of(p, new(big.Int), k))
				k = sum(0, k, g)
			}
			nine := sum(0, big.NewInt(9), b)
			more, less := new(big.Int).Add(a, nine), new(big.Int).Sub(a, nine)
			traces := []*big.Int{a, more.Rsh(more, 1), less.Rsh(less, 1)}
			for _, x := range traces[:3] {
				traces = append(traces, new(big.Int).Neg(x))
			}
			wantFamily(t, curves, traces, mayBe(11))
		})
	}
}

// TestJoined joins what a trace leaves modulo so many l that there is one number alone, and asks whether so many of each point come to O as there have to be points then.
func TestJoined(t *testing.T) {
	t.Parallel()
	for _, size := range []int{31, 32, 40, 60, 63, 64} {
		for i, c := range greatCurves(nextPrime(less(oneAt(size), uint64(size)*2+1), -2))[size%2 : 2] {
			t.Run(strconv.Itoa(size)+" "+strconv.Itoa(i), func(t *testing.T) {
				t.Parallel()
				wantJoined(t, c)
			})
		}
	}
}

func wantJoined(t *testing.T, c api.Curve) {
	t.Helper()
	p := numberOf(c.P)
	m, trace := big.NewInt(1), new(big.Int)
	for _, l := range mayBe(61) {
		if new(big.Int).Mul(m, m).Cmp(sum(0, big.NewInt(16), p)) > 0 {
			break
		}
		got, e := Mod(c, l)
		if e != api.OK {
			t.Fatalf("P20.1: Mod of %x, %d: error %d", c, l, e)
		}
		for new(big.Int).Mod(trace, big.NewInt(int64(l))).Int64() != int64(got) {
			trace.Add(trace, m)
		}
		m.Mul(m, big.NewInt(int64(l)))
	}
	if sum(0, big.NewInt(2), trace).Cmp(m) > 0 {
		trace.Sub(trace, m)
	}
	if sum(0, trace, trace).Cmp(sum(0, big.NewInt(4), p)) > 0 {
		t.Errorf("P20.1: the trace of %x would be %v", c, trace)
	}
	count := new(big.Int).Sub(sum(1, p), trace)
	for x, points := uint64(1), 0; points < 4; x++ {
		q, is := twist.At(c, nat.Of(x), true)
		if !is {
			continue
		}
		points++
		if far, e := curve.Times(c, wordsOf(count), q); e != api.OK || !far.Far {
			t.Errorf("P20.1: the trace of %x would be %v, but %v times %v is %v, error %d", c, trace, count, q, far, e)
		}
	}
}

// degrees are those of the polynomials that Mod goes through, each a part of the one ahead, and how it ends.
func degrees(t *testing.T, c api.Curve, l int) (out []int, e api.Errno) {
	t.Helper()
	g, e := groundOf(c)
	h, hE := divpoly.Of(c, l)
	if e != api.OK || hE != api.OK {
		t.Fatalf("%x, %d: error %d, error %d", c, l, e, hE)
	}
	for {
		r := ring{ground: g, h: h}
		r.trace(l)
		if out = append(out, len(h)-1); r.e != api.ErrInv {
			return out, r.e
		}
		h = r.part
	}
}

// TestSplit has curves whose polynomial is split: only if the trace's square is 4 P modulo l, and not if all points are multiplied by one number. What is left are the points of one line.
func TestSplit(t *testing.T) {
	t.Parallel()
	for l, most := range map[int]int{3: 31, 5: 23, 7: 19, 11: 13, 13: 17} {
		t.Run(strconv.Itoa(l), func(t *testing.T) {
			t.Parallel()
			seen := map[string]int{}
			for _, p := range smallPrimes(5, most) {
				if p == l {
					continue
				}
				for _, c := range tinies(p) {
					trace := c.trace()
					got, e := degrees(t, c.curve(), l)
					whole := []int{(l*l - 1) / 2}
					switch {
					case e == api.OK && slices.Equal(got, whole):
						seen["whole"]++
					case e == api.OK && slices.Equal(got, append(whole, (l-1)/2)) && (trace*trace-4*p)%l == 0:
						seen["split"]++
						c.wantAll(t, []int{l})
					default:
						t.Errorf("%v of trace %d, %d: polynomials of degrees %v, error %d", c, trace, l, got, e)
					}
				}
			}
			if seen["whole"] == 0 || seen["split"] == 0 {
				t.Errorf("%d: %v", l, seen)
			}
		})
	}
}

// TestGreatSplit has great curves, some of which have a polynomial that is split, held against their twists.
func TestGreatSplit(t *testing.T) {
	t.Parallel()
	for _, size := range []int{31, 64, 65, 128, api.MaxField} {
		t.Run(strconv.Itoa(size), func(t *testing.T) {
			t.Parallel()
			p := great(size, 19, 60) // a square modulo 3 and 5, and -1 is none modulo p
			x := numberOf(p)
			next := row(x, 11)
			splits := 0
			for range 10 {
				c := of(x, next(), next())
				for _, l := range []int{3, 5} {
					if got, _ := degrees(t, c, l); len(got) > 1 {
						splits++
						other, _ := twist.Twist(c, less(p, 1))
						one, e := Mod(c, l)
						two, otherE := Mod(other, l)
						if square := new(big.Int).Mod(sum(int64(-one*one), big.NewInt(4), x), big.NewInt(int64(l))); e != api.OK || otherE != api.OK || (one+two)%l != 0 || square.Sign() != 0 {
							t.Errorf("P20.2: Mod of %x and of its twist, %d: %d, error %d, and %d, error %d", c, l, one, e, two, otherE)
						}
					}
				}
			}
			if splits < 2 {
				t.Errorf("there were but %d curves with a polynomial that is split", splits)
			}
		})
	}
}

// wantSome asks what P20.1 says of a P that is no prime.
func wantSome(t *testing.T, c api.Curve, l int) (e api.Errno) {
	t.Helper()
	got, e := Mod(c, l)
	if e != api.OK && (e != api.ErrNone || got != 0) || got < 0 || got >= l {
		t.Errorf("P20.1: Mod of %x, %d: %d, error %d", c, l, got, e)
	}
	if again, otherE := Mod(c, l); again != got || otherE != e {
		t.Errorf("R5: Mod of %x, %d: %d, error %d, and then %d, error %d", c, l, got, e, again, otherE)
	}
	return e
}

// TestSplitTwice has polynomials that are split more than once. Over a prime no part of one that was split is split again, since all its points are on one line.
func TestSplitTwice(t *testing.T) {
	for _, one := range []struct {
		c     api.Curve
		l     int
		right api.Errno
	}{{over(119, 23, 38), 5, api.OK}, {over(119, 23, 4), 5, api.OK}, {over(119, 11, 18), 5, api.ErrNone}, {over(119, 22, 43), 5, api.ErrNone}} {
		if got, _ := degrees(t, one.c, one.l); len(got) != 3 {
			t.Errorf("%x, %d: polynomials of degrees %v", one.c, one.l, got)
		}
		if e := wantSome(t, one.c, one.l); e != one.right {
			t.Errorf("P20.1: Mod of %x, %d: error %d, not %d", one.c, one.l, e, one.right)
		}
	}
}

// TestNoPrimes has P that are no primes, those that l divides too.
func TestNoPrimes(t *testing.T) {
	t.Parallel()
	for _, p := range others() {
		t.Run(numberOf(p).Text(16), func(t *testing.T) {
			t.Parallel()
			ls := mayBe(7)
			if len(p) == 1 {
				ls = mayBe(17)
			}
			if nat.Bits(p) < 8 {
				ls = mayBe(31)
			}
			for _, c := range greatCurves(p)[:min(4, len(greatCurves(p)))] {
				for _, l := range ls {
					wantSome(t, c, l)
				}
			}
		})
	}
	t.Run("all l", func(t *testing.T) {
		t.Parallel()
		for i, p := range []uint64{1<<31 + 1, 91, 49, 15, 9, 61 * 59, 61 * 61} {
			wantSome(t, over(p, 1, 1), []int{37, 41, 43, 47, 53, 59, 61}[i])
		}
	})
}

// TestSmallNoPrimes has all curves modulo the smallest numbers that are no primes.
func TestSmallNoPrimes(t *testing.T) {
	t.Parallel()
	seen := map[api.Errno]int{}
	for _, p := range []int{9, 15, 21, 25, 27, 33, 35, 49} {
		for _, c := range tinies(p) {
			for _, l := range []int{2, 3, 5, 7} {
				seen[wantSome(t, c.curve(), l)]++
			}
		}
	}
	if seen[api.OK] == 0 || seen[api.ErrNone] == 0 {
		t.Errorf("of how many there is which error: %v", seen)
	}
}

// TestDivided has P that l divides: the polynomial's first number, l, has no inverse.
func TestDivided(t *testing.T) {
	t.Parallel()
	for _, l := range mayBe(61)[1:] {
		n := api.Nat{uint64(l)}
		for _, p := range []api.Nat{product(n, n), product(n, api.Nat{3}), product(n, api.Nat{67}), product(n, n, n), product(n, api.Nat{1<<61 - 1}), product(n, api.Nat{all - 58, 1<<61 - 1})} {
			want(t, greatCurves(p)[0], l, 0, api.ErrNone)
		}
	}
}

// TestAnyWords has words of all kinds in all places: nothing panics, and there is an answer just where the chapter has one.
func TestAnyWords(t *testing.T) {
	t.Parallel()
	lists := []api.Nat{nil, {}, {0}, {1}, {2}, {5}, {7}, {9}, {1, 0}, {all}, {all - 58}, {all, all, all, all}, append(make(api.Nat, 4), 1), append(make(api.Nat, 300), 7), make(api.Nat, 300)}
	for i, p := range lists {
		for k, a := range lists {
			for m, b := range lists {
				c := api.Curve{P: p, A: a, B: b}
				right := errorOf(c)
				for _, l := range []int{-1 - i, 4, 62 + k, mayBe(7)[(i+k+m)%4]} {
					switch {
					case right != api.OK:
						want(t, c, l, 0, right)
					case !slices.Contains(mayBe(61), l) || slices.Equal(p, nat.Of(uint64(l))):
						want(t, c, l, 0, api.ErrArg)
					default:
						wantSome(t, c, l)
					}
				}
			}
		}
	}
}

// asked is what Mod may be asked with.
type asked struct {
	c api.Curve
	l int
}

// questions are many that have an answer, and some that have none.
func questions() (out []asked) {
	for i, p := range []api.Nat{{5}, {7}, {9}, {31}, {67}, {105}, {119}, {257}, {1<<31 - 1}, {1<<63 - 25}, {all - 58}, {all}, {13, 1}, {all, all}, {all - 188, all, all, all}, {all, all, all, all}} {
		for _, c := range greatCurves(p) {
			for _, l := range []int{-1, 0, 2, 3, 4, 5, 7, 62} {
				out = append(out, asked{c, l})
			}
		}
		out = append(out, asked{greatCurves(p)[0], mayBe(17)[i%7]}, asked{api.Curve{P: p}, 5}, asked{api.Curve{P: p, A: p}, 3}, asked{api.Curve{P: loose(p, 1), B: api.Nat{1}}, 2})
	}
	return append(out, asked{over(119, 23, 38), 5})
}

// lists are the curve's numbers.
func (q *asked) lists() []*api.Nat { return []*api.Nat{&q.c.P, &q.c.A, &q.c.B} }

// roomy is the same in memory of its own, with room behind the end of each list.
func (q asked) roomy() asked {
	for _, x := range q.lists() {
		*x = append(slices.Clone(*x), 11, 12, 13, 14, 15)[:len(*x)]
	}
	return q
}

// whole are all lists, up to the end of their room.
func (q asked) whole() (out []api.Nat) {
	for _, x := range q.lists() {
		out = append(out, (*x)[:cap(*x)])
	}
	return out
}

// TestGivenStays holds R3 of what is handed in, the room behind a list's end too.
func TestGivenStays(t *testing.T) {
	t.Parallel()
	for _, q := range questions() {
		in := q.roomy()
		var before []api.Nat
		for _, x := range in.whole() {
			before = append(before, slices.Clone(x))
		}
		right, rightE := Mod(q.c, q.l)
		want(t, in.c, in.l, right, rightE)
		if got := in.whole(); !slices.EqualFunc(got, before, slices.Equal[api.Nat]) {
			t.Errorf("R3: Mod of %x, %d: what was handed in became %x", before, in.l, got)
		}
	}
}

// TestNothingKept spoils what was handed in, and asks again.
func TestNothingKept(t *testing.T) {
	t.Parallel()
	for _, q := range questions() {
		in := q.roomy()
		right, rightE := Mod(in.c, in.l)
		for _, x := range in.whole() {
			for i := range x {
				x[i] = ^x[i]
			}
		}
		Mod(in.c, in.l)
		want(t, q.c, q.l, right, rightE)
	}
}

// TestSharedMemory hands in numbers that share memory with each other.
func TestSharedMemory(t *testing.T) {
	for _, p := range []api.Nat{{5}, {7}, {67}, {1<<31 - 1}, {13, 1}, {all - 188, all, all, all}, {all, all}} {
		x := less(p, 1)
		before := slices.Clone(x)
		for _, l := range []int{2, 3, 5} {
			if !slices.Equal(p, nat.Of(uint64(l))) {
				right, rightE := Mod(api.Curve{P: p, A: slices.Clone(x), B: slices.Clone(x)}, l)
				want(t, api.Curve{P: p, A: x, B: x}, l, right, rightE)
			}
			want(t, api.Curve{P: p, A: p, B: p}, l, 0, api.ErrArg)
		}
		if !slices.Equal(x, before) {
			t.Errorf("R3: %x became %x", before, x)
		}
	}
}

// TestSameAgain asks all in an order, and again in other ones.
func TestSameAgain(t *testing.T) {
	t.Parallel()
	list := questions()
	answers := make([]int, len(list))
	errors := make([]api.Errno, len(list))
	for i, q := range list {
		answers[i], errors[i] = Mod(q.c, q.l)
	}
	for _, step := range []int{len(list) - 1, 7} {
		for i := range list {
			k := i * step % len(list)
			want(t, list[k].c, list[k].l, answers[k], errors[k])
		}
	}
}

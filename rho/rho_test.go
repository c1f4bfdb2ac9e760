package rho

import (
	"math"
	"math/big"
	"slices"
	"testing"

	"caltrop/api"
)

const (
	all      = math.MaxUint64 // a word whose bits are all 1
	top      = 1 << 63        // a word whose highest bit alone is 1
	lastOnes = all - 58       // the greatest prime of one word
	lastHalf = 1<<32 - 5      // that of half a word
	nextHalf = 1<<32 - 17     // the one below it
)

// few are draws of which one does, or some together do, of each number that is tested with them.
func few() []uint64 {
	return []uint64{1, 2, 3, 5, 7, 8, 9, 10, 11, 12, 13, 15}
}

// stuck are draws whose rows come round at once, by n and by all that divides it: 2, 2; 2, -2, -2; 2, -3, 2. Of no n without a factor up to 5 they tell anything.
func stuck(n uint64) []uint64 {
	return []uint64{n - 2, n - 6, n - 7}
}

// mixed are so many words without any order to be seen in them; another seed makes other ones.
func mixed(count int, seed uint64) []uint64 {
	a := make([]uint64, count)
	x := seed
	for i := range a {
		x = x*6364136223846793005 + 1442695040888963407
		a[i] = x ^ x>>29
	}
	return a
}

// word is one in numbers of the library.
func word(n uint64) *big.Int { return new(big.Int).SetUint64(n) }

// isPrime asks the library.
func isPrime(n uint64) bool { return word(n).ProbablyPrime(20) }

// primesFrom are so many primes, the first ones from n on.
func primesFrom(n uint64, count int) []uint64 {
	var out []uint64
	for ; len(out) < count; n++ {
		if isPrime(n) {
			out = append(out, n)
		}
	}
	return out
}

// firstOf goes along the row by the words of the chapter: the first step up to most whose distance has a factor above 1 in common with n, and the greatest one; 0 and 0, if there is none.
func firstOf(n, draw uint64, most int) (step int, factor uint64) {
	if n > 1<<32 {
		return firstOfLong(n, draw, most)
	}
	next := func(x uint64) uint64 { return (x*x + draw%n) % n }
	slow, fast := uint64(2), uint64(2)
	for i := 1; i <= most; i++ {
		slow, fast = next(slow), next(next(fast))
		a, b := n, max(slow, fast)-min(slow, fast)
		for b != 0 {
			a, b = b, a%b
		}
		if a > 1 {
			return i, a
		}
	}
	return 0, 0
}

// firstOfLong is firstOf where a square is more than a word.
func firstOfLong(n, draw uint64, most int) (step int, factor uint64) {
	number, add := word(n), word(draw)
	next := func(x *big.Int) {
		x.Mul(x, x)
		x.Add(x, add)
		x.Mod(x, number)
	}
	slow, fast, common := word(2), word(2), new(big.Int)
	for i := 1; i <= most; i++ {
		next(slow)
		next(fast)
		next(fast)
		common.Sub(slow, fast)
		common.GCD(nil, nil, common.Abs(common), number)
		if !common.IsUint64() || common.Uint64() > 1 {
			return i, common.Uint64()
		}
	}
	return 0, 0
}

// wantSplit asks Split for what is written out; 0 is none.
func wantSplit(t *testing.T, n, draw uint64, most int, want uint64) {
	t.Helper()
	if d, is := Split(n, draw, most); d != want || is != (want != 0) {
		t.Errorf("P10.1: Split of %d, %d, %d: %d, %t, not %d", n, draw, most, d, is, want)
	}
}

// wantAtStep asks Split with a most below, at and above the step that tells by the words of the chapter; or with that most alone, if there is no such step up to it.
func wantAtStep(t *testing.T, n, draw uint64, most int) (step int) {
	t.Helper()
	step, want := firstOf(n, draw, most)
	if step == 0 {
		wantSplit(t, n, draw, most, 0)
		return step
	}
	if want == n {
		want = 0
	}
	for _, less := range []int{math.MinInt, -1, 0, step / 2, step - 1} {
		wantSplit(t, n, draw, less, 0)
	}
	for _, more := range []int{step, step + 1, step + 2, 2 * step, 1 << 20, 1<<20 + 1, math.MaxInt} {
		wantSplit(t, n, draw, more, want)
	}
	return step
}

// drawsAbout are draws at the edges of n, and beyond it.
func drawsAbout(n uint64) []uint64 {
	return []uint64{0, 1, 2, 3, n - 7, n - 6, n - 3, n - 2, n - 1, n, n + 1, 2 * n, 2*n - 2, 1<<32 - 1, 1 << 32, top - 1, top, all - 1, all}
}

// wantFactors asks Factors for what is written out: with an error, if rest is not 1.
func wantFactors(t *testing.T, n uint64, draws, want []uint64, rest uint64) {
	t.Helper()
	err := api.OK
	if rest != 1 {
		err = api.ErrFuel
	}
	l, left, e := Factors(n, draws)
	if !slices.Equal(l, want) || left != rest || e != err {
		t.Errorf("P10.2: Factors of %d and %d draws, %d: %d, %d, error %d, not %d, %d, error %d", n, len(draws), draws[:min(len(draws), 20)], l, left, e, want, rest, err)
	}
	wantProduct(t, n, l, left)
}

// wantPrimes asks Factors for primes, rising, whose product is n: there is but one such list.
func wantPrimes(t *testing.T, n uint64, draws []uint64) {
	t.Helper()
	l, rest, e := Factors(n, draws)
	if e != api.OK || rest != 1 || !slices.IsSorted(l) {
		t.Errorf("P10.2: Factors of %d, %d: %d, %d, error %d", n, draws, l, rest, e)
	}
	for _, p := range l {
		if !isPrime(p) {
			t.Errorf("P10.2: Factors of %d, %d: %d is no prime", n, draws, p)
		}
	}
	wantProduct(t, n, l, rest)
}

func wantProduct(t *testing.T, n uint64, l []uint64, rest uint64) {
	t.Helper()
	product := word(rest)
	for _, p := range l {
		product.Mul(product, word(p))
	}
	if product.Cmp(word(n)) != 0 {
		t.Errorf("P10.3: %d and the rest %d, multiplied, are not %d", l, rest, n)
	}
}

// tryAll tells the factors of n up to most by trying, and what is left of it, which is 1, if it is a prime.
func tryAll(n, most uint64) (l []uint64, rest uint64) {
	for d := uint64(2); d <= most && d*d <= n; d++ {
		for n%d == 0 {
			l = append(l, d)
			n /= d
		}
	}
	if isPrime(n) {
		return append(l, n), 1
	}
	return l, n
}

// wantTried asks Factors without a draw, and with draws that do not do.
func wantTried(t *testing.T, n uint64) {
	t.Helper()
	l, rest := tryAll(n, 65535)
	wantFactors(t, n, nil, l, rest)
	wantFactors(t, n, []uint64{}, l, rest)
	wantFactors(t, n, stuck(rest), l, rest)
}

func TestExamples(t *testing.T) {
	wantFactors(t, 360, nil, []uint64{2, 2, 2, 3, 3, 5}, 1)
	wantFactors(t, 1, nil, nil, 1)
	wantSplit(t, 91, 1, 100, 7)
}

func TestSplitWrittenOut(t *testing.T) {
	for _, c := range []struct {
		n, draw uint64
		most    int
		want    uint64
	}{
		// Behind each one: the row from x1 on.
		{4, 0, 9, 0},    // 0, 0
		{4, 1, 1, 0},    // 1, 2
		{4, 1, 9, 0},    // 1, 2, 1, 2
		{4, 2, 9, 0},    // 2, 2
		{4, 3, 9, 0},    // 3, 0, 3, 0
		{4, all, 9, 0},  // the same
		{6, 0, 9, 0},    // 4, 4
		{6, 1, 0, 0},    // 5, 2
		{6, 1, 1, 3},    //
		{6, 2, 1, 2},    // 0, 2
		{6, 3, 1, 3},    // 1, 4
		{6, 4, 9, 0},    // 2, 2
		{6, 5, 9, 0},    // 3, 2, 3, 2
		{8, 0, 9, 4},    // 4, 0
		{8, 1, 9, 0},    // 5, 2, 5, 2
		{8, 2, 9, 0},    // 6, 6
		{8, 4, 1, 4},    // 0, 4
		{8, 7, 9, 0},    // 3, 0, 7, 0
		{9, 0, 1, 3},    // 4, 7
		{9, 1, 1, 3},    // 5, 8
		{9, 2, 9, 0},    // 6, 2, 6, 2
		{15, 1, 1, 3},   // 5, 11
		{91, 1, -1, 0},  // 5, 26
		{91, 1, 0, 0},   //
		{91, 1, 1, 7},   //
		{91, 92, 1, 7},  //
		{91, 911, 1, 7}, //
		{91, 89, 99, 0}, // 2, 2
		{91, 85, 99, 0}, // 89, 89
		{91, 84, 99, 0}, // 88, 2, 88, 2
	} {
		wantSplit(t, c.n, c.draw, c.most, c.want)
	}
}

func TestSplitOfLessThanFour(t *testing.T) {
	for n := range uint64(4) {
		for _, draw := range append(drawsAbout(n), few()...) {
			for _, most := range []int{math.MinInt, -1, 0, 1, 2, 100, 1 << 20, 1<<20 + 1, math.MaxInt} {
				wantSplit(t, n, draw, most, 0)
			}
		}
	}
}

// A row comes round by n within n steps, so there is a step that tells.
func TestSplitTried(t *testing.T) {
	for n := uint64(4); n < 300; n++ {
		for draw := uint64(0); draw < n+5; draw += 1 + n/40 {
			if wantAtStep(t, n, draw, int(n)) == 0 {
				t.Errorf("P10.1: by the words of the chapter no step tells of %d, %d", n, draw)
			}
		}
		for _, draw := range drawsAbout(n) {
			wantAtStep(t, n, draw, int(n))
		}
	}
	for n := uint64(4); n < 20000; n++ {
		step, want := firstOf(n, n%29, 60)
		if step > 0 && want < n {
			wantSplit(t, n, n%29, step-1, 0)
			wantSplit(t, n, n%29, step, want)
		} else {
			wantSplit(t, n, n%29, 60, 0)
		}
	}
}

func TestSplitOfPrimes(t *testing.T) {
	for _, p := range primesFrom(5, 300) {
		for _, draw := range drawsAbout(p) {
			wantSplit(t, p, draw, math.MaxInt, 0)
		}
	}
	for _, p := range []uint64{65521, 65537, 1<<31 - 1, lastHalf, 1<<61 - 1, top - 25, top + 29, lastOnes} {
		for _, draw := range drawsAbout(p) {
			wantSplit(t, p, draw, 70000, 0)
		}
		wantSplit(t, p, 1, math.MaxInt, 0)
	}
}

func TestSplitOfEvenOnes(t *testing.T) {
	for _, half := range []uint64{2, 3, 4, 32, 97, 65521, 65537, 1 << 31, 1<<31 - 1, lastHalf, 1 << 62, 1<<62 - 57, top - 25, top - 1} {
		for _, draw := range append(drawsAbout(2*half), drawsAbout(half)...) {
			wantAtStep(t, 2*half, draw, 300)
		}
	}
}

func TestSplitOfSquares(t *testing.T) {
	primes := append(primesFrom(2, 60), 65521, 65537, 65539)
	for _, p := range primes {
		for _, draw := range append(drawsAbout(p*p), p-2, p, p*(p-1)+1) {
			wantAtStep(t, p*p, draw, 3000)
		}
		for _, draw := range few() {
			wantAtStep(t, p*p*p, draw, 3000)
		}
	}
	wantAtStep(t, lastHalf*lastHalf, lastHalf-2, 10)
	wantAtStep(t, lastHalf*lastHalf, lastHalf*lastHalf-2, 10)
	wantAtStep(t, lastHalf*lastHalf, 1, 100000)
}

func TestSplitOfProducts(t *testing.T) {
	for _, middle := range []uint64{1 << 8, 1 << 12, 1<<16 - 60, 1 << 20} {
		primes := primesFrom(middle, 6)
		for i, p := range primes {
			for _, q := range primes[:i] {
				for _, draw := range append(drawsAbout(p*q), mixed(4, p+q)...) {
					wantAtStep(t, p*q, draw, 5000)
				}
				for _, draw := range []uint64{p - 2, q - 6, p*q - 7, p, q, 2*q - 2} {
					wantAtStep(t, p*q, draw, 5000)
				}
			}
		}
	}
}

func TestSplitOfLongProducts(t *testing.T) {
	for _, c := range [][2]uint64{{1<<31 - 1, 1<<31 + 11}, {1<<31 - 19, 1<<31 - 1}, {lastHalf, nextHalf}, {65537, 1<<47 - 115}} {
		for _, draw := range []uint64{0, 1, all} {
			wantAtStep(t, c[0]*c[1], draw, 60000)
		}
		for _, draw := range append(drawsAbout(c[0]*c[1]), c[0]-2, c[1]-2, c[0]-6, c[1]-7) {
			wantAtStep(t, c[0]*c[1], draw, 30)
		}
	}
}

func TestSplitBesideLongPowersOfTwo(t *testing.T) {
	for _, middle := range []uint64{1 << 32, 1 << 63, 0} {
		for n := middle - 40; n != middle+40; n++ {
			for i, draw := range drawsAbout(n) {
				if n > 4 && (n+uint64(i))%4 == 0 {
					wantAtStep(t, n, draw, 500)
				}
			}
		}
	}
}

// All steps up to some hundreds are the first ones that tell, of some draw.
func TestSplitAtEachStep(t *testing.T) {
	seen := make([]bool, 400)
	for _, n := range []uint64{251 * 257, 4093 * 4099, 65519 * 65521} {
		for draw := range uint64(4000) {
			step, want := firstOf(n, draw, len(seen)-1)
			if step > 0 && !seen[step] && want < n {
				seen[step] = true
				wantAtStep(t, n, draw, step)
			}
		}
	}
	if at := slices.Index(seen[1:260], false); at >= 0 {
		t.Errorf("P10.1: no draw is tested whose step is %d", at+1)
	}
}

// By a draw of 0 x(i) is 2, squared i times: what the row is at a far step is told without going there.
func TestSplitLimit(t *testing.T) {
	roundAfter := func(p uint64, steps int) bool {
		prime, two, below := word(p), word(2), word(p-1)
		once := new(big.Int).Exp(two, word(uint64(steps)), below)
		twice := new(big.Int).Exp(two, word(uint64(2*steps)), below)
		return once.Exp(two, once, prime).Cmp(twice.Exp(two, twice, prime)) == 0
	}
	for _, c := range []struct {
		p, q  uint64
		steps int
	}{
		{2256803987489, 2099927, 1 << 20},
		{1207960717, 33554519, 1<<20 + 1},
	} {
		if !isPrime(c.p) || !isPrime(c.q) || !roundAfter(c.p, c.steps) || roundAfter(c.q, c.steps) {
			t.Fatalf("P10.1: step %d does not tell of %d, %d", c.steps, c.p, c.q)
		}
		for _, most := range []int{65536, c.steps / 2, c.steps - 1, c.steps, c.steps + 1, 2 * c.steps, math.MaxInt} {
			want := uint64(0)
			if most >= c.steps && c.steps <= 1<<20 {
				want = c.p
			}
			wantSplit(t, c.p*c.q, 0, most, want)
		}
	}
}

func TestFactorsOfNothing(t *testing.T) {
	for _, draws := range [][]uint64{nil, {}, {1}, few(), mixed(100, 1)} {
		if l, rest, e := Factors(0, draws); len(l) != 0 || rest != 0 || e != api.ErrArg {
			t.Errorf("P10.2: Factors of 0 and %d draws: %d, %d, error %d", len(draws), l, rest, e)
		}
	}
}

func TestFactorsWrittenOut(t *testing.T) {
	for _, c := range []struct {
		n    uint64
		want []uint64
	}{
		{1, nil},
		{2, []uint64{2}},
		{3, []uint64{3}},
		{4, []uint64{2, 2}},
		{6, []uint64{2, 3}},
		{8, []uint64{2, 2, 2}},
		{9, []uint64{3, 3}},
		{97 * 97, []uint64{97, 97}},
		{614889782588491410, []uint64{2, 3, 5, 7, 11, 13, 17, 19, 23, 29, 31, 37, 41, 43, 47}},
		{3 * 3 * 5 * 5 * 7 * 7 * 11 * 11 * 13 * 13 * 17 * 17 * 19 * 19 * 23, []uint64{3, 3, 5, 5, 7, 7, 11, 11, 13, 13, 17, 17, 19, 19, 23}},
		{12157665459056928801, slices.Repeat([]uint64{3}, 40)},
		{65519, []uint64{65519}},
		{65521, []uint64{65521}},
		{65536, slices.Repeat([]uint64{2}, 16)},
		{65537, []uint64{65537}},
		{65539, []uint64{65539}},
		{65519 * 65521, []uint64{65519, 65521}},
		{65521 * 65521, []uint64{65521, 65521}},
		{65521 * 65521 * 65521, []uint64{65521, 65521, 65521}},
		{65521 * 65521 * 65521 * 65521, []uint64{65521, 65521, 65521, 65521}},
		{65521 * 65537, []uint64{65521, 65537}},
		{2 * 65537, []uint64{2, 65537}},
		{65521 * 65521 * lastHalf, []uint64{65521, 65521, lastHalf}},
		{65521 * 281474976710597, []uint64{65521, 281474976710597}},
		{1<<31 - 1, []uint64{1<<31 - 1}},
		{lastHalf, []uint64{lastHalf}},
		{1<<32 - 1, []uint64{3, 5, 17, 257, 65537}},
		{1<<32 + 1, []uint64{641, 6700417}},
		{2 * lastHalf, []uint64{2, lastHalf}},
		{1<<61 - 1, []uint64{1<<61 - 1}},
		{7 * (1<<61 - 1), []uint64{7, 1<<61 - 1}},
		{top - 25, []uint64{top - 25}},
		{lastOnes, []uint64{lastOnes}},
	} {
		for _, draws := range [][]uint64{nil, {}, {0}, {c.n - 2}, few()} {
			wantFactors(t, c.n, draws, c.want, 1)
		}
	}
	for k := range 64 {
		wantFactors(t, 1<<k, nil, slices.Repeat([]uint64{2}, k), 1)
	}
}

func TestFactorsTried(t *testing.T) {
	for n := uint64(1); n < 40000; n++ {
		l, rest := tryAll(n, n)
		wantFactors(t, n, nil, l, rest)
	}
	for n := uint64(1); n < 3000; n++ {
		l, rest := tryAll(n, n)
		wantFactors(t, n, few(), l, rest)
		wantFactors(t, n, []uint64{n, 0, n - 2, all}, l, rest)
	}
}

func TestFactorsOfPowersOfPrimes(t *testing.T) {
	for _, p := range append(primesFrom(2, 100), primesFrom(65480, 3)...) {
		n, want := p, []uint64{p}
		for {
			wantFactors(t, n, nil, want, 1)
			wantFactors(t, n, few(), want, 1)
			if n > all/p {
				break
			}
			n *= p
			want = append(want, p)
		}
	}
}

func TestFactorsWithoutDraws(t *testing.T) {
	for _, middle := range []uint64{1 << 32, 1 << 33, 1 << 48, 1 << 63, 0} {
		for n := middle - 100; n != middle+100; n++ {
			if n > 0 && (n > 1000 || n%8 == 0) {
				wantTried(t, n)
			}
		}
	}
	for n := uint64(1<<32 - 700); n < 1<<32; n++ {
		l, rest, e := Factors(n, nil)
		if e != api.OK || rest != 1 {
			t.Errorf("P10.2: Factors of %d without a draw: %d, %d, error %d", n, l, rest, e)
		}
	}
	for _, n := range mixed(300, 3) {
		wantTried(t, n|1)
		wantTried(t, n>>20)
	}
}

func TestFactorsBesideLongPowersOfTwo(t *testing.T) {
	for _, middle := range []uint64{1 << 32, 1 << 48, 1 << 63, 0} {
		for n := middle - 150; n != middle+150; n++ {
			if n > 0 {
				wantPrimes(t, n, few())
			}
		}
	}
	for _, n := range mixed(400, 2) {
		wantPrimes(t, n, few())
		wantPrimes(t, n>>7|1, few())
	}
	wantFactors(t, all, few(), []uint64{3, 5, 17, 257, 641, 65537, 6700417}, 1)
	wantFactors(t, all, nil, []uint64{3, 5, 17, 257, 641}, 65537*6700417)
	wantFactors(t, top-1, few(), []uint64{7, 7, 73, 127, 337, 92737, 649657}, 1)
	wantFactors(t, top-1, nil, []uint64{7, 7, 73, 127, 337}, 92737*649657)
}

func TestFactorsBesideTheGreatestTried(t *testing.T) {
	below, above := primesFrom(65449, 5), primesFrom(65537, 5)
	if below[4] != 65521 {
		t.Fatal("P10.2: the primes that are tested are other ones")
	}
	for _, p := range below {
		for _, q := range append(above, lastHalf, 1<<40-87) {
			wantFactors(t, p*q, nil, []uint64{p, q}, 1)
			wantFactors(t, 6*p*q, nil, []uint64{2, 3, p, q}, 1)
		}
	}
	for i, p := range above {
		for _, q := range append(above[i:], lastHalf, 1<<40-87) {
			wantFactors(t, p*q, nil, nil, p*q)
			wantFactors(t, 6*p*q, nil, []uint64{2, 3}, p*q)
			wantFactors(t, p*q, few(), []uint64{p, q}, 1)
			wantFactors(t, 6*p*q, few(), []uint64{2, 3, p, q}, 1)
		}
		wantFactors(t, 65521*p*p, nil, []uint64{65521}, p*p)
		wantFactors(t, 65521*p*p, few(), []uint64{65521, p, p}, 1)
	}
}

// None of the primes is found by trying: with a draw that does, ahead of others that do not, and behind them.
func TestFactorsOfTwoPrimes(t *testing.T) {
	for _, c := range [][2]uint64{{65537, 65537}, {65537, 65539}, {65539, 1048583}, {65537, 281470681808891}, {1<<31 - 1, 1<<31 - 1}, {1<<31 - 1, 1<<31 + 11}, {nextHalf, lastHalf}, {lastHalf, lastHalf}} {
		p, q := c[0], c[1]
		n := p * q
		wantFactors(t, n, nil, nil, n)
		for _, draw := range stuck(n) {
			wantFactors(t, n, []uint64{draw}, nil, n)
		}
		wantFactors(t, n, stuck(n), nil, n)
		wantFactors(t, n, slices.Repeat(stuck(n), 1000), nil, n)
		wantFactors(t, n, few(), []uint64{p, q}, 1)
		wantFactors(t, n, append(stuck(n), few()...), []uint64{p, q}, 1)
		wantFactors(t, n, append(slices.Repeat(stuck(n), 1000), few()...), []uint64{p, q}, 1)
		wantFactors(t, n, append(few(), stuck(n)...), []uint64{p, q}, 1)
		// The row comes round by p or q at once, and by the other one not.
		for _, draw := range []uint64{p - 2, p - 6, p - 7, q - 2, q - 6, q - 7} {
			wantFactors(t, n, []uint64{draw}, []uint64{p, q}, 1)
			wantFactors(t, n, append(stuck(n), draw), []uint64{p, q}, 1)
		}
	}
}

// The row of a draw that leaves what 2 less than 0 does by q times r comes round by both at once: that sets p apart, and q and r not.
func TestFactorsOfThreePrimes(t *testing.T) {
	for _, c := range [][3]uint64{{65537, 65539, 65543}, {65539, 65537, 1048583}, {1048583, 65539, 65537}, {65537, 65539, 4294705157}, {4294705157, 65537, 65539}, {2642239, 65537, 100003}, {65537, 1048583, 1048583}, {1048583, 65537, 65537}} {
		p, q, r := c[0], c[1], c[2]
		n := p * q * r
		primes := []uint64{p, q, r}
		slices.Sort(primes)
		wantFactors(t, n, nil, nil, n)
		wantFactors(t, n, stuck(n), nil, n)
		wantFactors(t, n, few(), primes, 1)
		wantFactors(t, n, append(stuck(n), few()...), primes, 1)
		for _, apart := range []uint64{q*r - 2, q*r - 6} {
			wantFactors(t, n, []uint64{apart}, []uint64{p}, q*r)
			wantFactors(t, n, append(stuck(n), apart), []uint64{p}, q*r)
			wantFactors(t, n, append([]uint64{apart}, stuck(n)...), []uint64{p}, q*r)
			wantFactors(t, n, append([]uint64{apart}, stuck(q*r)...), []uint64{p}, q*r)
			wantFactors(t, n, []uint64{apart, q - 7}, primes, 1)
			wantFactors(t, n, append([]uint64{n - 2, apart, n - 6}, few()...), primes, 1)
			wantFactors(t, n, append(few(), apart), primes, 1)
		}
	}
}

func TestFactorsFoundAndLeft(t *testing.T) {
	for _, small := range []struct {
		n uint64
		l []uint64
	}{{2, []uint64{2}}, {3 * 5 * 5, []uint64{3, 5, 5}}, {64, slices.Repeat([]uint64{2}, 6)}, {65521, []uint64{65521}}, {2 * 3 * 5 * 7 * 11 * 13, []uint64{2, 3, 5, 7, 11, 13}}} {
		for _, c := range [][3]uint64{{65537, 65539, 65543}, {65543, 65539, 65537}, {65539, 65537, 65543}} {
			p, left := c[0], c[1]*c[2]
			if small.n > all/p/left {
				continue
			}
			wantFactors(t, small.n*p*left, []uint64{left - 2}, append(slices.Clone(small.l), p), left)
			wantFactors(t, small.n*p*left, stuck(p*left), small.l, p*left)
			wantFactors(t, small.n*left, stuck(left), small.l, left)
			wantFactors(t, small.n*left, nil, small.l, left)
		}
	}
}

// Of a prime's square, or third power, too, what the draws do not do is left.
func TestFactorsOfPowersAboveThoseTried(t *testing.T) {
	for _, p := range []uint64{65537, 65539, 65543, 100003, 1048583, 2642239} {
		square, third := p*p, p*p*p
		for _, c := range []struct {
			n     uint64
			draws []uint64
			want  []uint64
			rest  uint64
		}{
			{square, nil, nil, square},
			{square, stuck(square), nil, square},
			{square, []uint64{p - 2}, []uint64{p, p}, 1},
			{square, append(stuck(square), p-6), []uint64{p, p}, 1},
			{square, few(), []uint64{p, p}, 1},
			{third, nil, nil, third},
			{third, stuck(third), nil, third},
			{third, []uint64{square - 2}, []uint64{p}, square},
			{third, []uint64{square - 2, square - 6, third - 2}, []uint64{p}, square},
			{third, []uint64{square - 2, p - 2}, []uint64{p, p, p}, 1},
			{third, []uint64{p - 2}, []uint64{p, p, p}, 1},
			{third, few(), []uint64{p, p, p}, 1},
		} {
			wantFactors(t, c.n, c.draws, c.want, c.rest)
		}
	}
	for _, p := range []uint64{1<<31 - 1, nextHalf, lastHalf} {
		wantFactors(t, p*p, nil, nil, p*p)
		wantFactors(t, p*p, stuck(p*p), nil, p*p)
		wantFactors(t, p*p, []uint64{p - 2}, []uint64{p, p}, 1)
		wantFactors(t, p*p, few(), []uint64{p, p}, 1)
	}
}

// Rows whose steps that tell are beside the last one that Factors asks for.
func TestFactorsLimit(t *testing.T) {
	const n = lastHalf * nextHalf
	for _, c := range []struct {
		draw uint64
		step int
	}{{49341, 65535}, {32999, 65536}, {73561, 65537}} {
		if step, _ := firstOf(n, c.draw, 65537); step != c.step {
			t.Fatalf("P10.2: by the words of the chapter step %d tells, not %d", step, c.step)
		}
		wantAtStep(t, n, c.draw, c.step)
		if c.step <= 65536 {
			wantFactors(t, n, []uint64{c.draw}, []uint64{nextHalf, lastHalf}, 1)
			wantFactors(t, n, []uint64{73561, c.draw}, []uint64{nextHalf, lastHalf}, 1)
		} else {
			wantFactors(t, n, []uint64{c.draw}, nil, n)
			wantFactors(t, n, []uint64{c.draw, n - 2, c.draw}, nil, n)
		}
	}
}

// roomy copies draws into a list with items of its own behind its end; whole is all of it.
func roomy(draws []uint64) (list, whole []uint64) {
	whole = append(slices.Clone(draws), 11, 12, 13, 14)
	return whole[:len(draws)], whole
}

// asked are numbers with draws that do, and that do not, for them.
func asked() map[uint64][]uint64 {
	return map[uint64][]uint64{
		0:                     {3, 2, 1},
		1:                     {3, 2, 1},
		360:                   {5, 3, 2},
		97:                    {},
		lastOnes:              {9, 8},
		65537 * 65539:         {65537*65539 - 2, 9, 1},
		65537 * 65537:         {65537*65537 - 2},
		65537 * 65539 * 65543: {65539*65543 - 2, 65537*65539*65543 - 2},
		30 * 65537 * 65539:    {},
		lastHalf * nextHalf:   few(),
		all:                   few(),
	}
}

func TestGivenStays(t *testing.T) {
	for n, draws := range asked() {
		list, whole := roomy(draws)
		before := slices.Clone(whole)
		Factors(n, list)
		if !slices.Equal(whole, before) {
			t.Errorf("R3: Factors of %d, %d changes what it is handed", n, draws)
		}
	}
}

func TestAnsweredIsNew(t *testing.T) {
	for n, draws := range asked() {
		list, whole := roomy(draws)
		before := slices.Clone(whole)
		want, _, _ := Factors(n, list)
		first, _, _ := Factors(n, list)
		second, _, _ := Factors(n, list)
		first = first[:cap(first)]
		for i := range first {
			first[i] = ^first[i]
		}
		if !slices.Equal(whole, before) {
			t.Errorf("R3: Factors of %d, %d answers what it was handed", n, draws)
		}
		clear(whole)
		if !slices.Equal(second, want) {
			t.Errorf("R3: what Factors of %d, %d answers is not in memory of its own", n, draws)
		}
	}
}

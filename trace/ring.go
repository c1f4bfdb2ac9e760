package trace

import (
	"math/bits"
	"slices"

	"caltrop/api"
	"caltrop/poly"
	"caltrop/quot"
)

// ring is that of the polynomials modulo h. Each stands for its values at all roots of h at once; Q is the point (x, y) at each of them.
//
// The first error of its calls is kept, and what they answer after one says nothing. It is ErrInv, if what was to have an inverse is 0 at some of the roots: part goes into h, and has these roots alone. It is another one only if P is no prime.
type ring struct {
	ground
	h    []api.Nat
	part []api.Nat
	e    api.Errno
}

// point is O, or has an X, and a Y that is so many times the y of Q.
type point struct {
	isFar bool
	x, y  []api.Nat
}

// trace is the t for which Q, raised to the power of P twice, and P of Q together are t of Q raised once. Of all these points l come to O, so P and t are told by what they leave by l.
func (r *ring) trace(l int) int {
	once, twice := r.raised()
	count := rest(r.c.P, l)
	if count > l/2 {
		count -= l
	}
	t, is := r.search(once, r.plus(twice, r.many(count)), l)
	if !is {
		r.keep(api.ErrNone)
	}
	return t
}

// raised is Q with X and Y raised to the power of P, once and twice. What a polynomial a is raised to is a at x^P, too; a P of one word asks for so few products that this is not the quicker way.
func (r *ring) raised() (once, twice point) {
	two, _ := r.f.Inv(api.Nat{2})
	half := r.f.Neg(two) // of P - 1: what is twice as much leaves -1
	once = point{x: r.power(line(), r.c.P), y: r.power(r.right(), half)}
	again := func(a []api.Nat) []api.Nat { return r.power(a, r.c.P) }
	if len(r.c.P) > 1 {
		again = func(a []api.Nat) []api.Nat { return r.at(a, once.x) }
	}
	return once, point{x: again(once.x), y: r.times(again(once.y), once.y)}
}

// many is so many of Q, or of the point on its other side, if count is below 0. It doubles and adds along the bits of count.
func (r *ring) many(count int) point {
	q, out := point{x: r.rest(line()), y: []api.Nat{{1}}}, point{isFar: true}
	if count < 0 {
		q, count = r.neg(q), -count
	}
	for i := bits.Len(uint(count)) - 1; i >= 0; i-- {
		out = r.plus(out, out)
		if count>>i&1 == 1 {
			out = r.plus(out, q)
		}
	}
	return out
}

// search tells how many of step are sum, from 0 to l - 1, and false if no number does. It has the first few of step on both sides of O, and adds to sum as many of step at once as there are of these, until it is one of them.
func (r *ring) search(step, sum point, l int) (int, bool) {
	reach := 1
	for (2*reach+1)*(2*reach+1) < l { // so there are about as many steps as sums
		reach++
	}
	few := []point{{isFar: true}}
	for i := range reach + 1 {
		few = append(few, r.plus(few[i], step))
	}
	stride := r.plus(few[reach], few[reach+1])
	for added := 0; added < l; added += 2*reach + 1 {
		for i, p := range few[:reach+1] {
			switch {
			case isSame(sum, p):
				return (l + i - added) % l, true
			case isSame(sum, r.neg(p)):
				return (2*l - i - added) % l, true
			}
		}
		sum = r.plus(sum, stride)
	}
	return 0, false
}

// plus is the sum of two points.
func (r *ring) plus(p, q point) point {
	switch {
	case r.e != api.OK:
		return point{}
	case p.isFar:
		return q
	case q.isFar:
		return p
	case isSame(q, r.neg(p)):
		return point{isFar: true}
	}
	f, m := r.f, r.slope(p, q)
	x := poly.Sub(f, r.times(r.right(), r.times(m, m)), poly.Add(f, p.x, q.x))
	y := poly.Sub(f, r.times(m, poly.Sub(f, p.x, x)), p.y)
	return point{x: x, y: y}
}

// slope is that of the line through two points, so many times y. Where both have the same X at all roots, but are not on other sides of O at all of them, it is the line that lies at the curve: at roots where they are on other sides, its run is 0.
func (r *ring) slope(p, q point) []api.Nat {
	f := r.f
	rise, run := poly.Sub(f, q.y, p.y), poly.Sub(f, q.x, p.x)
	if len(run) == 0 {
		rise = poly.Add(f, poly.Scale(f, r.times(p.x, p.x), api.Nat{3}), []api.Nat{r.c.A})
		run = r.times(r.right(), poly.Add(f, p.y, q.y))
	}
	return r.times(rise, r.inverse(run))
}

func (r *ring) neg(p point) point {
	return point{isFar: p.isFar, x: p.x, y: poly.Sub(r.f, nil, p.y)}
}

func isSame(p, q point) bool {
	return p.isFar == q.isFar && isEqual(p.x, q.x) && isEqual(p.y, q.y)
}

func isEqual(a, b []api.Nat) bool { return slices.EqualFunc(a, b, slices.Equal[api.Nat]) }

func (r *ring) rest(a []api.Nat) []api.Nat { return r.kept(quot.Of(r.f, r.h, a)) }

func (r *ring) times(a, b []api.Nat) []api.Nat { return r.kept(quot.Mul(r.f, r.h, a, b)) }

func (r *ring) power(a []api.Nat, k api.Nat) []api.Nat { return r.kept(quot.Exp(r.f, r.h, a, k)) }

// at is a at b.
func (r *ring) at(a, b []api.Nat) []api.Nat { return r.kept(quot.Compose(r.f, r.h, a, b)) }

// inverse tells the part of h, if there is none. If a is 0 at all roots that part is all of h, and P is no prime.
func (r *ring) inverse(a []api.Nat) []api.Nat {
	out, common, e := quot.Inv(r.f, r.h, a)
	if len(common) == len(r.h) {
		e = api.ErrNone
	}
	r.part = common
	return r.kept(out, e)
}

// kept is what a call answered, when its error is kept.
func (r *ring) kept(a []api.Nat, e api.Errno) []api.Nat {
	r.keep(e)
	return a
}

// keep keeps the first error.
func (r *ring) keep(e api.Errno) {
	if r.e == api.OK {
		r.e = e
	}
}

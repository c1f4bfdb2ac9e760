// Package octet is layer 1: see shared/doc/01-octet.md.
package octet

import (
	"math/bits"

	"caltrop/api"
)

const (
	wordSize  = 8     // bytes of a word, and the most of a fixed number
	countSize = 2     // bytes in which a long number's count stands
	maxCount  = 65535 // the greatest count for which they have room
)

// Put: bytes with a fixed number behind them. (P1.1)
func Put(b []byte, n uint64, size int) []byte {
	if !isFixed(size) {
		size = 0
	}
	return addFixed(copyWithRoom(b, size), n, size)
}

// Take: the fixed number at a place. (P1.1)
func Take(b []byte, at, size int) (n uint64, next int, e api.Errno) {
wrong:
	switch {
	case !isFixed(size) || at < 0 || at > len(b):
		e = api.ErrArg
	default:
		take := taker(b, at)
		for range size {
			x, is := take()
			if !is {
				e = api.ErrBytes
				break wrong
			}
			n = n<<8 | uint64(x)
		}
		return n, at + size, api.OK
	}
	return 0, 0, e
}

// PutNat: bytes with a long number behind them. (P1.2)
func PutNat(b []byte, a api.Nat) ([]byte, api.Errno) {
	size := byteCount(a)
	if size > maxCount {
		return nil, api.ErrMany
	}
	out := addFixed(copyWithRoom(b, countSize+size), uint64(size), countSize)
	for i := size - 1; i >= 0; i-- {
		out = append(out, byte(a[i/wordSize]>>(8*(i%wordSize))))
	}
	return out, api.OK
}

// TakeNat: the long number at a place. (P1.2)
func TakeNat(b []byte, at, most int) (a api.Nat, next int, e api.Errno) {
	count, from, e := Take(b, at, countSize)
	size := int(count)
wrong:
	switch {
	case e != api.OK:
		// Take's errors are just those of a place that may not be, and of a count that is not there.
	case size > most:
		e = api.ErrMany
	default:
		a = make(api.Nat, (size+wordSize-1)/wordSize)
		take := taker(b, from)
		for i := size - 1; i >= 0; i-- {
			x, is := take()
			if !is || x == 0 && i == size-1 {
				e = api.ErrBytes
				break wrong
			}
			a[i/wordSize] |= uint64(x) << (8 * (i % wordSize))
		}
		return a, from + size, api.OK
	}
	return nil, 0, e
}

// taker takes the bytes of b off one by one, from at on: where it is, it remembers itself, so that those who read need not look where b ends.
func taker(b []byte, at int) func() (x byte, is bool) {
	return func() (byte, bool) {
		if at >= len(b) {
			return 0, false
		}
		x := b[at]
		at++
		return x, true
	}
}

func isFixed(size int) bool { return size >= 1 && size <= wordSize }

// copyWithRoom makes the room at once: appending to b itself might write behind its end, into memory that is the caller's.
func copyWithRoom(b []byte, more int) []byte {
	out := make([]byte, len(b), len(b)+more)
	copy(out, b)
	return out
}

func addFixed(out []byte, n uint64, size int) []byte {
	for i := size - 1; i >= 0; i-- {
		out = append(out, byte(n>>(8*i)))
	}
	return out
}

// byteCount passes words 0 at the end over: they may not be, but are taken for the number that they are.
func byteCount(a api.Nat) int {
	for i := len(a) - 1; i >= 0; i-- {
		if a[i] != 0 {
			return i*wordSize + (bits.Len64(a[i])+7)/8
		}
	}
	return 0
}

// Package sat is layer 1: see shared/doc/01-sat.md.
package sat

import (
	"math"
	"math/bits"
)

// Add is the sum, at its end.
func Add(a, b int64) int64 {
	switch {
	case b > 0 && a > math.MaxInt64-b:
		return math.MaxInt64
	case b < 0 && a < math.MinInt64-b:
		return math.MinInt64
	}
	return a + b
}

// Sub is the difference, at its end. It is no Add of a negative: that of the least number is beyond the ends.
func Sub(a, b int64) int64 {
	switch {
	case b > 0 && a < math.MinInt64+b:
		return math.MinInt64
	case b < 0 && a > math.MaxInt64+b:
		return math.MaxInt64
	}
	return a - b
}

// Mul is the product, at its end.
func Mul(a, b int64) int64 {
	over, size := bits.Mul64(sizeOf(a), sizeOf(b))
	if (a < 0) != (b < 0) {
		return below(over, size)
	}
	return above(over, size)
}

// sizeOf takes a number's size as unsigned: the least number's fits there alone.
func sizeOf(a int64) uint64 {
	if a < 0 {
		return -uint64(a)
	}
	return uint64(a)
}

// above is the number of that size, not below 0; over is what the size has beyond 64 bits.
func above(over, size uint64) int64 {
	if over > 0 || size > math.MaxInt64 {
		return math.MaxInt64
	}
	return int64(size)
}

// below is the number of that size, not above 0; the size of the least number is itself at the end.
func below(over, size uint64) int64 {
	if over > 0 || size > math.MaxInt64 {
		return math.MinInt64
	}
	return -int64(size)
}

// Neg is the negative, at its end.
func Neg(a int64) int64 {
	return Sub(0, a)
}

// Abs is the size, at its end.
func Abs(a int64) int64 {
	if a < 0 {
		return Neg(a)
	}
	return a
}

// Div is the greatest whole number that is not above the quotient, at its end; 0, if b is 0.
func Div(a, b int64) int64 {
	switch b {
	case 0:
		return 0
	case -1: // the least number's quotient is the only one beyond the ends
		return Neg(a)
	}
	q, rest := a/b, a%b
	if rest != 0 && (rest < 0) != (b < 0) { // Go cuts towards 0, which is above such a quotient
		q--
	}
	return q
}

// Mod is what Div leaves, of b above 0; else 0. It takes Go's rest, as b times Div may be beyond the ends.
func Mod(a, b int64) int64 {
	if b <= 0 {
		return 0
	}
	rest := a % b
	if rest < 0 {
		rest += b
	}
	return rest
}

// Clamp is x, or the end of lo and hi that it is beyond; lo, if there is nothing between them.
func Clamp(x, lo, hi int64) int64 {
	switch {
	case x < lo || hi < lo:
		return lo
	case x > hi:
		return hi
	}
	return x
}

// Sum adds one by one, each step at its end: so it hangs on the order.
func Sum(l ...int64) int64 {
	var all int64
	for _, x := range l {
		all = Add(all, x)
	}
	return all
}

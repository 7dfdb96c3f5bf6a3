// Package num is layer 1: see shared/doc/01-num.md.
package num

import (
	"meridian/api"
)

const (
	most  = 1<<63 - 1
	least = -1 << 63

	width = 32
	low   = 1<<width - 1
)

// Add is a sum.
func Add(a, b int) (int, api.Errno) { return Sum(a, b) }

// Sub is a difference.
func Sub(a, b int) (int, api.Errno) { return split(a).minus(split(b)).whole() }

// Mul is a product.
func Mul(a, b int) (int, api.Errno) {
	product, fits := times(size(a), size(b))
	if !fits {
		return 0, api.ErrOver
	}
	return signed(product, (a < 0) != (b < 0))
}

// Div is how often a number is in another one, rounded down.
func Div(a, b int) (int, api.Errno) {
	if b == 0 {
		return 0, api.ErrArg
	}
	if a == least && b == -1 {
		return 0, api.ErrOver
	}
	q := a / b
	if crosses(a%b, b) {
		q--
	}
	return q, api.OK
}

// Mod is what is left of that.
func Mod(a, b int) (int, api.Errno) {
	if b == 0 {
		return 0, api.ErrArg
	}
	r := a % b
	if crosses(r, b) {
		r += b
	}
	return r, api.OK
}

// Sum is the sum of all, whatever the order.
func Sum(l ...int) (int, api.Errno) {
	var total halves
	for _, n := range l {
		total = total.plus(split(n))
	}
	return total.whole()
}

// crosses tells that a rest lies on the other side of 0 than the divisor: the language rounds towards 0, the document down.
func crosses(rest, divisor int) bool { return rest != 0 && (rest < 0) != (divisor < 0) }

// Package calc is layer 01: see shared/doc/01-calc.md.
package calc

import (
	"wheelhouse/api"
)

// Is tells whether a number may be a tick.
func Is(n int) bool {
	return n >= 0 && n <= api.MaxTick
}

// Add is the sum of two ticks.
func Add(a, b int) (int, api.Code) {
	if !Is(a) || !Is(b) {
		return 0, api.ErrArg
	}
	return tick(a + b)
}

// Sub is how much one tick is more than another one.
func Sub(a, b int) (int, api.Code) {
	if !Is(a) || !Is(b) {
		return 0, api.ErrArg
	}
	return tick(a - b)
}

// tick is a number that may be a tick, or the code of one that may not.
func tick(n int) (int, api.Code) {
	if !Is(n) {
		return 0, api.ErrRange
	}
	return n, api.OK
}

// Total is all ticks together.
func Total(l ...int) (int, api.Code) {
	sum := 0
	for _, n := range l {
		next, code := Add(sum, n)
		if code != api.OK {
			return 0, code
		}
		sum = next
	}
	return sum, api.OK
}

// Mul is the product of two ticks.
func Mul(a, b int) (int, api.Code) {
	if !Is(a) || !Is(b) {
		return 0, api.ErrArg
	}
	// A product of two ticks may be more than an int holds, so its room is asked ahead of it.
	if a > 0 && b > api.MaxTick/a {
		return 0, api.ErrRange
	}
	return a * b, api.OK
}

// Div is how often one tick is in another one, and what is left.
func Div(a, b int) (int, int, api.Code) {
	if !Is(a) || !Is(b) || b == 0 {
		return 0, 0, api.ErrArg
	}
	return a / b, a % b, api.OK
}

// Double is a tick, doubled so often, and no more than another one.
func Double(base, n, most int) (int, api.Code) {
	if !Is(base) || !Is(most) || base > most || n < 0 {
		return 0, api.ErrArg
	}
	// most is halved, rather than base doubled: that has room, however large n is.
	if base > most>>n {
		return most, api.OK
	}
	return base << n, api.OK
}

// Hold is a number, held between two.
func Hold(n, low, high int) int {
	switch {
	case n < low || low > high:
		return low
	case n > high:
		return high
	}
	return n
}

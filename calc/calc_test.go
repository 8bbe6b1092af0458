package calc

import (
	"math"
	"slices"
	"testing"

	"wheelhouse/api"
)

const (
	last = 1 << 40
	none = last + 1
)

// edges: ticks and others, ordinary ones and those at which something turns.
var edges = []int{
	math.MinInt, math.MinInt + 1, -last - 1, -last, -last + 1, -2, -1,
	0, 1, 2, 3, 7, 40, 41, 63, 64, 1000, 1<<20 - 1, 1 << 20, 1<<20 + 1,
	last/2 - 1, last / 2, last/2 + 1, last - 1, last, none, 2 * last, 1 << 62, math.MaxInt - 1, math.MaxInt,
}

// ticks: those of edges that are ticks.
func ticks() []int {
	var l []int
	for _, n := range edges {
		if n >= 0 && n <= last {
			l = append(l, n)
		}
	}
	return l
}

// pair is two arguments, and what is answered.
type pair struct {
	a, b, want int
	code       api.Code
}

func tryPairs(t *testing.T, call func(a, b int) (int, api.Code), l []pair) {
	t.Helper()
	for _, x := range l {
		if got, code := call(x.a, x.b); got != x.want || code != x.code {
			t.Errorf("of %d and %d: %d, code %d; want %d, code %d", x.a, x.b, got, code, x.want, x.code)
		}
	}
}

// refuses: of any pair of which one is no tick, call answers ErrArg and 0.
func refuses(t *testing.T, call func(a, b int) (int, api.Code)) {
	t.Helper()
	for _, bad := range edges {
		if bad >= 0 && bad <= last {
			continue
		}
		for _, n := range edges {
			tryPairs(t, call, []pair{{bad, n, 0, api.ErrArg}, {n, bad, 0, api.ErrArg}})
		}
	}
}

// Promise 1.1: which numbers are ticks.
func TestIs(t *testing.T) {
	if api.MaxTick != last {
		t.Fatal("the last tick is", api.MaxTick)
	}
	for n, want := range map[int]bool{
		0: true, 1: true, 86400: true, last - 1: true, last: true,
		none: false, 2 * last: false, math.MaxInt: false,
		-1: false, -last: false, math.MinInt: false,
	} {
		if Is(n) != want {
			t.Errorf("Is(%d) is %v", n, !want)
		}
	}
}

// Promise 1.1: sums.
func TestAdd(t *testing.T) {
	tryPairs(t, Add, []pair{
		{2, 3, 5, api.OK},
		{0, 0, 0, api.OK},
		{0, last, last, api.OK},
		{last, 0, last, api.OK},
		{last - 1, 1, last, api.OK},
		{last / 2, last / 2, last, api.OK},
		{last / 2, last/2 + 1, 0, api.ErrRange},
		{last, 1, 0, api.ErrRange},
		{1, last, 0, api.ErrRange},
		{last, last, 0, api.ErrRange},
		// The sum of two that are no ticks may well be one.
		{-1, 1, 0, api.ErrArg},
		{none, -1, 0, api.ErrArg},
		{math.MinInt, math.MinInt, 0, api.ErrArg},
		{math.MaxInt, math.MinInt, 0, api.ErrArg},
		// What is no tick is told ahead of a sum that is none.
		{none, last, 0, api.ErrArg},
		{last, none, 0, api.ErrArg},
	})
	refuses(t, Add)
}

// Promise 1.1: differences.
func TestSub(t *testing.T) {
	tryPairs(t, Sub, []pair{
		{5, 3, 2, api.OK},
		{0, 0, 0, api.OK},
		{7, 0, 7, api.OK},
		{last, last, 0, api.OK},
		{last, 0, last, api.OK},
		{last, last - 1, 1, api.OK},
		{3, 5, 0, api.ErrRange},
		{0, 1, 0, api.ErrRange},
		{0, last, 0, api.ErrRange},
		{last - 1, last, 0, api.ErrRange},
		{-1, -2, 0, api.ErrArg},
		{none, 1, 0, api.ErrArg},
		{math.MinInt, 1, 0, api.ErrArg},
		{math.MaxInt, math.MaxInt, 0, api.ErrArg},
		// What is no tick is told ahead of one that is more than the other.
		{3, none, 0, api.ErrArg},
		{-1, 5, 0, api.ErrArg},
	})
	refuses(t, Sub)
}

// Promise 1.1: sums of many, of which the first code is told.
func TestTotal(t *testing.T) {
	for _, x := range []struct {
		l    []int
		want int
		code api.Code
	}{
		{nil, 0, api.OK},
		{[]int{}, 0, api.OK},
		{[]int{0}, 0, api.OK},
		{[]int{7}, 7, api.OK},
		{[]int{1, 2, 3}, 6, api.OK},
		{[]int{last}, last, api.OK},
		{[]int{last, 0, 0}, last, api.OK},
		{[]int{last - 3, 1, 2}, last, api.OK},
		{[]int{last, 1}, 0, api.ErrRange},
		{[]int{last, 1, 5}, 0, api.ErrRange},
		{[]int{-1}, 0, api.ErrArg},
		{[]int{none}, 0, api.ErrArg},
		{[]int{1, -1}, 0, api.ErrArg},
		{[]int{-1, 1}, 0, api.ErrArg},
		{[]int{5, math.MinInt}, 0, api.ErrArg},
		{[]int{math.MaxInt, 1}, 0, api.ErrArg},
		// The first code is told, whichever it is, and whatever stands behind.
		{[]int{last, 1, -1}, 0, api.ErrRange},
		{[]int{-1, last, 1}, 0, api.ErrArg},
		{[]int{1, none, last, last}, 0, api.ErrArg},
		// What would come back to a tick further on is refused all the same.
		{[]int{last, 1, -1, 0}, 0, api.ErrRange},
		{[]int{3, -2, 2}, 0, api.ErrArg},
	} {
		given := slices.Clone(x.l)
		if got, code := Total(x.l...); got != x.want || code != x.code {
			t.Errorf("Total(%v): %d, code %d; want %d, code %d", given, got, code, x.want, x.code)
		}
		if !slices.Equal(given, x.l) {
			t.Errorf("Total(%v) made of its list %v", given, x.l)
		}
	}
	if got, code := Total(); got != 0 || code != api.OK {
		t.Error("of none at all:", got, code)
	}
}

// Promise 1.1: what stands behind a list's length is not read (R3).
func TestTotalLength(t *testing.T) {
	l := []int{1, 2, 3, -1, last}
	if got, code := Total(l[:3]...); got != 6 || code != api.OK {
		t.Error(got, code)
	}
}

// Promise 1.1: a Total is a chain of Add.
func TestTotalIsAdd(t *testing.T) {
	for _, a := range edges {
		for _, b := range edges {
			want, code := Add(0, a)
			if code == api.OK {
				want, code = Add(want, b)
			}
			if got, c := Total(a, b); got != want || c != code {
				t.Errorf("Total(%d, %d): %d, code %d; want %d, code %d", a, b, got, c, want, code)
			}
		}
	}
}

// Promise 1.2: products.
func TestMul(t *testing.T) {
	tryPairs(t, Mul, []pair{
		{6, 7, 42, api.OK},
		{0, 0, 0, api.OK},
		{0, 9, 0, api.OK},
		{9, 0, 0, api.OK},
		{0, last, 0, api.OK},
		{last, 0, 0, api.OK},
		{1, last, last, api.OK},
		{last, 1, last, api.OK},
		{1 << 20, 1 << 20, last, api.OK},
		{last / 2, 2, last, api.OK},
		{2, last / 2, last, api.OK},
		{3, (last - 1) / 3, last - 1, api.OK},
		{3, (last-1)/3 + 1, 0, api.ErrRange},
		{1<<20 + 1, 1 << 20, 0, api.ErrRange},
		{1 << 20, 1<<20 + 1, 0, api.ErrRange},
		{last, 2, 0, api.ErrRange},
		{2, last, 0, api.ErrRange},
		{2, last/2 + 1, 0, api.ErrRange},
		// These wrap round in an int, to 0, or to less than a tick may be.
		{1 << 32, 1 << 32, 0, api.ErrRange},
		{last, last, 0, api.ErrRange},
		{1<<32 + 1, 1 << 32, 0, api.ErrRange},
		{1 << 33, 1<<31 + 1, 0, api.ErrRange},
		{-2, -3, 0, api.ErrArg},
		{-1, 0, 0, api.ErrArg},
		{0, -1, 0, api.ErrArg},
		{0, none, 0, api.ErrArg},
		{none, 0, 0, api.ErrArg},
		{math.MinInt, -1, 0, api.ErrArg},
		// What is no tick is told ahead of a product that is none.
		{last, none, 0, api.ErrArg},
		{none, last, 0, api.ErrArg},
		{math.MaxInt, math.MaxInt, 0, api.ErrArg},
	})
	refuses(t, Mul)
}

// Promise 1.2: how often, and what is left.
func TestDiv(t *testing.T) {
	for _, x := range []struct {
		a, b, often, left int
		code              api.Code
	}{
		{7, 2, 3, 1, api.OK},
		{6, 2, 3, 0, api.OK},
		{2, 7, 0, 2, api.OK},
		{0, 1, 0, 0, api.OK},
		{0, last, 0, 0, api.OK},
		{1, last, 0, 1, api.OK},
		{last, 1, last, 0, api.OK},
		{last, last, 1, 0, api.OK},
		{last, last - 1, 1, 1, api.OK},
		{last - 1, last, 0, last - 1, api.OK},
		{last, 3, last / 3, 1, api.OK},
		{7, 0, 0, 0, api.ErrArg},
		{0, 0, 0, 0, api.ErrArg},
		{last, 0, 0, 0, api.ErrArg},
		{-1, 0, 0, 0, api.ErrArg},
		{-7, 2, 0, 0, api.ErrArg},
		{7, -2, 0, 0, api.ErrArg},
		{none, 2, 0, 0, api.ErrArg},
		{2, none, 0, 0, api.ErrArg},
		{math.MinInt, -1, 0, 0, api.ErrArg},
		{math.MaxInt, 1, 0, 0, api.ErrArg},
	} {
		often, left, code := Div(x.a, x.b)
		if often != x.often || left != x.left || code != x.code {
			t.Errorf("Div(%d, %d): %d, %d, code %d", x.a, x.b, often, left, code)
		}
	}
	refuses(t, func(a, b int) (int, api.Code) {
		often, left, code := Div(a, b)
		return often | left, code
	})
}

// Promise 1.3: doublings, up to a cap.
func TestDouble(t *testing.T) {
	for _, x := range []struct {
		base, n, most, want int
		code                api.Code
	}{
		{3, 4, 40, 40, api.OK},
		{3, 3, 40, 24, api.OK},
		{3, 0, 40, 3, api.OK},
		{3, 4, 48, 48, api.OK},
		{3, 4, 49, 48, api.OK},
		{3, 4, 47, 47, api.OK},
		{5, 0, 5, 5, api.OK},
		{5, 9, 5, 5, api.OK},
		{1, 39, last, last / 2, api.OK},
		{1, 40, last, last, api.OK},
		{1, 40, last - 1, last - 1, api.OK},
		{1, 41, last, last, api.OK},
		{1, 1 << 40, last, last, api.OK},
		{last, 0, last, last, api.OK},
		{last, 1, last, last, api.OK},
		{last - 1, 1, last, last, api.OK},
		// Doubled so often, an int wraps round.
		{1, 62, 9, 9, api.OK},
		{1, 63, 9, 9, api.OK},
		{1, 64, 9, 9, api.OK},
		{3, 63, last, last, api.OK},
		{last, 24, last, last, api.OK},
		{last, math.MaxInt, last, last, api.OK},
		{1, math.MaxInt, 1, 1, api.OK},
		// Nothing, doubled, is nothing.
		{0, 0, 0, 0, api.OK},
		{0, 7, 0, 0, api.OK},
		{0, 0, last, 0, api.OK},
		{0, 1, last, 0, api.OK},
		{0, 64, last, 0, api.OK},
		{0, math.MaxInt, last, 0, api.OK},
		{3, 4, 2, 0, api.ErrArg},
		{1, 0, 0, 0, api.ErrArg},
		{last, 0, last - 1, 0, api.ErrArg},
		{-1, 0, 5, 0, api.ErrArg},
		{-1, 0, -1, 0, api.ErrArg},
		{math.MinInt, 1, 5, 0, api.ErrArg},
		{none, 0, none, 0, api.ErrArg},
		{3, 1, none, 0, api.ErrArg},
		{3, 1, math.MaxInt, 0, api.ErrArg},
		{0, 1, none, 0, api.ErrArg},
		{0, 0, -1, 0, api.ErrArg},
		{3, -1, 40, 0, api.ErrArg},
		{0, -1, 0, 0, api.ErrArg},
		{3, math.MinInt, 40, 0, api.ErrArg},
	} {
		got, code := Double(x.base, x.n, x.most)
		if got != x.want || code != x.code {
			t.Errorf("Double(%d, %d, %d): %d, code %d; want %d, code %d", x.base, x.n, x.most, got, code, x.want, x.code)
		}
	}
	refuses(t, func(a, b int) (int, api.Code) { return Double(a, 1, b) })
}

// Promise 1.3: doubled step by step, it is the same.
func TestDoubleSteps(t *testing.T) {
	for _, base := range ticks() {
		for _, most := range ticks() {
			if base > most {
				continue
			}
			want := base
			for n := range 70 {
				if got, code := Double(base, n, most); got != want || code != api.OK {
					t.Errorf("Double(%d, %d, %d): %d, code %d; want %d", base, n, most, got, code, want)
				}
				want = min(2*want, most)
			}
		}
	}
}

// Promise 1.3: numbers held between two, ticks or not.
func TestHold(t *testing.T) {
	for _, x := range []struct{ n, low, high, want int }{
		{5, 1, 9, 5},
		{1, 1, 9, 1},
		{9, 1, 9, 9},
		{0, 1, 9, 1},
		{10, 1, 9, 9},
		{5, 5, 5, 5},
		{4, 5, 5, 5},
		{6, 5, 5, 5},
		{-5, -9, -1, -5},
		{-10, -9, -1, -9},
		{0, -9, -1, -1},
		{none, 0, last, last},
		{math.MaxInt, math.MinInt, math.MaxInt, math.MaxInt},
		{math.MinInt, math.MinInt, math.MaxInt, math.MinInt},
		{math.MaxInt, math.MinInt, 0, 0},
		{math.MinInt, 0, math.MaxInt, 0},
		// Low is more than high: low, wherever n is.
		{5, 9, 1, 9},
		{0, 9, 1, 9},
		{10, 9, 1, 9},
		{9, 9, 1, 9},
		{1, 9, 1, 9},
		{9, 9, 8, 9},
		{math.MaxInt, 3, math.MinInt, 3},
		{0, math.MaxInt, math.MinInt, math.MaxInt},
	} {
		if got := Hold(x.n, x.low, x.high); got != x.want {
			t.Errorf("Hold(%d, %d, %d): %d; want %d", x.n, x.low, x.high, got, x.want)
		}
	}
}

// Promise 1.4: what was put to a tick, and is taken away again, leaves it.
func TestAddSub(t *testing.T) {
	for _, a := range ticks() {
		for _, b := range ticks() {
			sum, code := Add(a, b)
			if (code == api.OK) != (a+b <= last) {
				t.Errorf("Add(%d, %d): code %d", a, b, code)
			}
			if code != api.OK {
				continue
			}
			if got, code := Sub(sum, b); got != a || code != api.OK {
				t.Errorf("Add(%d, %d), less %d: %d, code %d", a, b, b, got, code)
			}
		}
	}
}

// Promise 1.4: a product, divided, gives back; what is divided, and put together, too.
func TestMulDiv(t *testing.T) {
	for _, a := range ticks() {
		for _, b := range ticks() {
			if b == 0 {
				continue
			}
			if product, code := Mul(a, b); code == api.OK {
				if often, left, code := Div(product, b); often != a || left != 0 || code != api.OK {
					t.Errorf("Mul(%d, %d), by %d: %d, %d, code %d", a, b, b, often, left, code)
				}
			}
			often, left, _ := Div(a, b)
			product, code := Mul(often, b)
			if sum, c := Add(product, left); sum != a || left >= b || code != api.OK || c != api.OK {
				t.Errorf("Div(%d, %d): %d, %d", a, b, often, left)
			}
		}
	}
}

// Promise 1.4: doubled once more is no more than twice as much, and no less than before.
func TestDoubleOnce(t *testing.T) {
	for _, base := range ticks() {
		for _, most := range ticks() {
			for _, n := range []int{0, 1, 2, 20, 38, 39, 40, 41, 62, 63, 64, math.MaxInt - 1} {
				if base > most {
					continue
				}
				one, c1 := Double(base, n, most)
				two, c2 := Double(base, n+1, most)
				if c1 != api.OK || c2 != api.OK || two > 2*one || two < one {
					t.Errorf("Double(%d, %d, %d): %d, then %d", base, n, most, one, two)
				}
			}
		}
	}
}

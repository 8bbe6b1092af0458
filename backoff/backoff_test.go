package backoff

import (
	"fmt"
	"math"
	"math/big"
	"math/rand"
	"testing"

	"wheelhouse/api"
)

const most = 1 << 40 // The greatest tick.

// made is New's wait, of a rule that may be.
func made(t *testing.T, r Rule) *Wait {
	t.Helper()
	w, code := New(r)
	if code != api.OK || w == nil {
		t.Fatalf("New(%v): %v, %d", r, w, code)
	}
	stands(t, w, r, 0)
	return w
}

// stands: this is the rule of a wait, and how many failures it has.
func stands(t *testing.T, w *Wait, r Rule, tries int) {
	t.Helper()
	if w.Rule != r || w.Tries() != tries {
		t.Errorf("Rule %v, Tries %d; want %v, %d", w.Rule, w.Tries(), r, tries)
	}
}

// bounds: a rule has these behind so many failures.
func bounds(t *testing.T, r Rule, n, low, high int) {
	t.Helper()
	if a, b := r.Bounds(n); a != low || b != high {
		t.Errorf("%v.Bounds(%d): %d, %d; want %d, %d", r, n, a, b, low, high)
	}
}

// fails: a failure is noted, and it is waited until then, between what Bounds tells ahead of it (18.3).
func fails(t *testing.T, w *Wait, now, r, want int) {
	t.Helper()
	tries := w.Tries()
	low, high := w.Bounds(tries)
	at, code := w.Fail(now, r)
	if at != want || code != api.OK {
		t.Errorf("%v behind %d failures: Fail(%d, %d): %d, %d; want %d, 0", w.Rule, tries, now, r, at, code, want)
	}
	if at < now+low || at > now+high {
		t.Errorf("%v behind %d failures: Fail(%d, %d): %d, which is not from %d to %d", w.Rule, tries, now, r, at, now+low, now+high)
	}
	if w.Tries() != tries+1 {
		t.Errorf("%v behind %d failures: Fail(%d, %d): Tries %d", w.Rule, tries, now, r, w.Tries())
	}
}

// refuses: Fail has a code, and nothing is noted.
func refuses(t *testing.T, w *Wait, now, r int, want api.Code) {
	t.Helper()
	ahead := *w
	if at, code := w.Fail(now, r); at != 0 || code != want {
		t.Errorf("%v: Fail(%d, %d): %d, %d; want 0, %d", ahead, now, r, at, code, want)
	}
	if *w != ahead || w.Tries() != ahead.Tries() {
		t.Errorf("%v: Fail(%d, %d) noted %v", ahead, now, r, *w)
	}
}

// plainBounds is Bounds as the words say it, in numbers that have no end.
func plainBounds(r Rule, n int) (int, int) {
	least := big.NewInt(int64(r.Base))
	least.Lsh(least, uint(min(n, 1000)))
	if high := big.NewInt(int64(r.Cap)); high.Cmp(least) < 0 {
		least = high
	}
	low := int(least.Int64())
	return low, low + r.Jitter
}

// plainLeft is what is left of n, divided by Jitter and 1: what a multiple of these at most is less than n.
func plainLeft(r Rule, n int) int {
	rest := new(big.Int)
	new(big.Int).DivMod(big.NewInt(int64(n)), big.NewInt(int64(r.Jitter)+1), rest)
	return int(rest.Int64())
}

// plainCode is Check's, by the bounds as the chapter writes them.
func plainCode(r Rule) api.Code {
	switch {
	case r.Base < 1, r.Base > 3600, r.Cap < r.Base, r.Cap > 86400, r.Jitter < 0, r.Jitter > 3600:
		return 2
	}
	return 0
}

// far is numbers of all kinds: next to 0, to what bounds there are, and to where an int ends.
func far() []int {
	l := []int{math.MinInt, math.MinInt + 1, -1 << 62, -most, -1 << 32, -86400, -3601, -3600, -5, -4, -3, -2, -1, 0, 1, 2, 3, 4, 5, 7, 8, 15, 100}
	for _, n := range []int{3600, 86400, 1 << 16, 1 << 31, 1 << 32, most, 1 << 62} {
		l = append(l, n-1, n, n+1)
	}
	return append(l, math.MaxInt-1, math.MaxInt)
}

// some is rules that may be, at all their edges.
func some() []Rule {
	var l []Rule
	for _, base := range []int{1, 2, 3, 5, 1000, 3599, 3600} {
		for _, high := range []int{base, base + 1, 2*base - 1, 2 * base, 2*base + 1, 10, 64, 4 * base, 86399, 86400} {
			for _, jitter := range []int{0, 1, 2, 3, 4, 3599, 3600} {
				if high >= base {
					l = append(l, Rule{Base: base, Cap: high, Jitter: jitter})
				}
			}
		}
	}
	return l
}

// Promises 18.1 to 18.3: the chapter's example: each tick of each of its rows is waited for some r, and no other one.
func TestExample(t *testing.T) {
	rule := Rule{Base: 2, Cap: 10, Jitter: 3}
	for r := range 4 {
		w := made(t, rule)
		for i, low := range []int{2, 4, 8, 10, 10, 10} {
			bounds(t, rule, i, low, low+3)
			fails(t, w, 1000*i, r, 1000*i+low+r)
			stands(t, w, rule, i+1)
		}
		w.Good()
		stands(t, w, rule, 0)
		fails(t, w, 0, r, 2+r)
		fails(t, w, 0, r, 4+r)
	}
}

// Promise 18.1: each field at its bounds and beyond, with the others at theirs; and New's code is Check's (18.2).
func TestCheck(t *testing.T) {
	for _, base := range far() {
		for _, high := range append(far(), base-1, base, base+1) {
			for _, jitter := range far() {
				r := Rule{Base: base, Cap: high, Jitter: jitter}
				want := plainCode(r)
				if got := Check(r); got != want {
					t.Fatalf("Check(%v): %d; want %d", r, got, want)
				}
				w, code := New(r)
				if code != want || (w == nil) != (want != api.OK) {
					t.Fatalf("New(%v): %v, %d; want code %d", r, w, code, want)
				}
			}
		}
	}
}

// Promise 18.1: the bounds of each number, one by one.
func TestCheckEdges(t *testing.T) {
	for _, x := range []struct {
		r    Rule
		code api.Code
	}{
		{Rule{1, 1, 0}, 0}, {Rule{0, 1, 0}, 2}, {Rule{-1, 1, 0}, 2}, {Rule{0, 0, 0}, 2}, {Rule{1, 0, 0}, 2}, {Rule{1, 1, -1}, 2},
		{Rule{3600, 86400, 3600}, 0}, {Rule{3601, 86400, 3600}, 2}, {Rule{3600, 86401, 3600}, 2}, {Rule{3600, 86400, 3601}, 2},
		{Rule{3600, 3600, 0}, 0}, {Rule{3600, 3599, 0}, 2}, {Rule{1, 86400, 0}, 0}, {Rule{1, 86401, 0}, 2}, {Rule{3601, 3601, 0}, 2},
		{Rule{2, 10, 3}, 0}, {Rule{10, 2, 3}, 2}, {Rule{}, 2},
	} {
		if got := Check(x.r); got != x.code {
			t.Errorf("Check(%v): %d; want %d", x.r, got, x.code)
		}
	}
}

// Promise 18.1: Bounds of rules at their edges, however many failures there were.
func TestBounds(t *testing.T) {
	for _, r := range some() {
		w := made(t, r)
		for n := range 130 {
			low, high := plainBounds(r, n)
			bounds(t, r, n, low, high)
			if a, b := w.Bounds(n); a != low || b != high {
				t.Errorf("a wait of %v: Bounds(%d): %d, %d; want %d, %d", r, n, a, b, low, high)
			}
		}
		for _, n := range far() {
			if n >= 0 {
				low, high := plainBounds(r, n)
				bounds(t, r, n, low, high)
				if n > 17 && low != r.Cap {
					t.Errorf("%v.Bounds(%d): %d ahead of Cap", r, n, low)
				}
			}
		}
		stands(t, w, r, 0)
	}
	for base := 1; base <= 3600; base++ {
		r := Rule{Base: base, Cap: min(base*37, 86400), Jitter: base}
		for n := range 20 {
			low, high := plainBounds(r, n)
			bounds(t, r, n, low, high)
		}
	}
}

// Promise 18.1: twice as long each time, up to Cap; the first time as long as Base.
func TestBoundsTwice(t *testing.T) {
	for _, r := range some() {
		want := r.Base
		for n := range 40 {
			bounds(t, r, n, want, want+r.Jitter)
			want = min(2*want, r.Cap)
		}
	}
}

// No panic ever: rules that may not be, and fewer failures than none, of which nothing is promised: no bounds.
func TestBoundsOfNone(t *testing.T) {
	for _, n := range far() {
		for _, r := range []Rule{{}, {0, 5, 2}, {-1, 5, 0}, {5, 1, 3}, {1, 1, -1}, {3601, 86400, 0}, {1, 86401, 0}, {1, 5, 3601}, {1, 5, math.MaxInt}, {math.MaxInt, math.MaxInt, math.MaxInt}, {math.MinInt, math.MaxInt, math.MaxInt}, {most, most, most}} {
			bounds(t, r, n, 0, 0)
		}
		if n < 0 {
			bounds(t, Rule{Base: 1, Cap: 5, Jitter: 2}, n, 0, 0)
		}
	}
}

// Promise 18.2: the failures that were noted ahead tell how long is waited, until it went well.
func TestFail(t *testing.T) {
	for _, rule := range some() {
		w := made(t, rule)
		for _, row := range []int{1, 0, 3, 25} {
			for n := range row {
				low, _ := plainBounds(rule, n)
				fails(t, w, 10*n, 0, 10*n+low)
				stands(t, w, rule, n+1)
			}
			w.Good()
			stands(t, w, rule, 0)
			w.Good()
			stands(t, w, rule, 0)
		}
	}
}

// Promise 18.2: what is left of any r, from 0 on; between Bounds (18.3).
func TestFailR(t *testing.T) {
	for _, rule := range some() {
		for _, r := range far() {
			w := made(t, rule)
			fails(t, w, 7, r, 7+rule.Base+plainLeft(rule, r))
			low, _ := plainBounds(rule, 1)
			fails(t, w, 0, r, low+plainLeft(rule, r))
		}
	}
	rule := Rule{Base: 1, Cap: 1, Jitter: 4}
	for r, want := range map[int]int{0: 0, 1: 1, 4: 4, 5: 0, 6: 1, 9: 4, 10: 0, -1: 4, -2: 3, -4: 1, -5: 0, -6: 4, -10: 0, math.MaxInt: 2, math.MinInt: 2} {
		fails(t, made(t, rule), 50, r, 51+want)
	}
	for _, r := range far() {
		fails(t, made(t, Rule{Base: 9, Cap: 9}), 50, r, 59)
	}
}

// Promise 18.3: of all r each tick between Bounds is waited as often as any other one.
func TestFailEach(t *testing.T) {
	for _, rule := range []Rule{{1, 1, 0}, {1, 4, 1}, {2, 10, 3}, {1, 64, 4}, {7, 100, 59}, {3600, 86400, 3600}} {
		for tries := range 4 {
			low, high := rule.Bounds(tries)
			count := map[int]int{}
			span := rule.Jitter + 1
			for r := -2 * span; r < span; r++ {
				w := made(t, rule)
				for range tries {
					w.Fail(0, 0)
				}
				at, code := w.Fail(100, r)
				if code != api.OK {
					t.Fatal(code)
				}
				count[at-100]++
			}
			for n := low; n <= high; n++ {
				if count[n] != 3 {
					t.Fatalf("%v behind %d failures: %d is waited %d times", rule, tries, n, count[n])
				}
			}
			if len(count) != span {
				t.Errorf("%v behind %d failures: %d times that differ", rule, tries, len(count))
			}
		}
	}
}

// Promise 18.2: what is no tick, whatever r is: nothing is noted.
func TestFailArg(t *testing.T) {
	for _, rule := range some() {
		w := made(t, rule)
		for tries := range 3 {
			for _, now := range []int{math.MinInt, -most, -86400, -2, -1, most + 1, most + 2, 2 * most, 1 << 62, math.MaxInt - 1, math.MaxInt} {
				for _, r := range []int{math.MinInt, -1, 0, 1, 3, most, math.MaxInt} {
					refuses(t, w, now, r, api.ErrArg)
				}
			}
			stands(t, w, rule, tries)
			low, _ := plainBounds(rule, tries)
			fails(t, w, 0, 0, low)
		}
	}
}

// Promise 18.2: as late as has room, and a tick later: nothing is noted, and what has room is noted as if it had not been asked.
func TestFailRange(t *testing.T) {
	for _, rule := range some() {
		w := made(t, rule)
		for tries := range 4 {
			low, high := plainBounds(rule, tries)
			for _, more := range []int{0, rule.Jitter / 2, rule.Jitter} {
				room := most - low - more
				for _, now := range []int{room + 1, room + 2, most - 1, most} {
					if now > room && now <= most {
						refuses(t, w, now, more, api.ErrRange)
						refuses(t, w, now, more-rule.Jitter-1, api.ErrRange)
					}
				}
				one := *w
				fails(t, &one, room, more, most)
				one = *w
				fails(t, &one, room-1, more, most-1)
			}
			stands(t, w, rule, tries)
			fails(t, w, most-high, rule.Jitter, most)
		}
	}
	// Whether there is room hangs on r.
	w := made(t, Rule{Base: 2, Cap: 10, Jitter: 3})
	refuses(t, w, most-4, 3, api.ErrRange)
	refuses(t, w, most-4, -1, api.ErrRange)
	refuses(t, w, most-1, 0, api.ErrRange)
	fails(t, w, most-4, 2, most)
	refuses(t, w, most-4, 1, api.ErrRange)
	fails(t, w, most-4, 0, most)
	refuses(t, w, most-4, 0, api.ErrRange)
	w.Good()
	fails(t, w, most-2, 4, most)
}

// Promise 18.2: a wait that nobody made, with a rule or without one.
func TestNobody(t *testing.T) {
	var none *Wait
	rules := append(some(), Rule{}, Rule{Jitter: -1}, Rule{-1, -1, -1}, Rule{most, most, most})
	l := []*Wait{none, new(Wait)}
	for _, r := range rules {
		l = append(l, &Wait{Rule: r})
	}
	for _, w := range l {
		var ahead Wait
		if w != nil {
			ahead = *w
		}
		for range 2 {
			for _, now := range []int{math.MinInt, -1, 0, 1, 100, most, most + 1, math.MaxInt} {
				for _, r := range []int{math.MinInt, -1, 0, 1, math.MaxInt} {
					if at, code := w.Fail(now, r); at != 0 || code != api.ErrNil {
						t.Errorf("%v: Fail(%d, %d): %d, %d", w, now, r, at, code)
					}
				}
			}
			if got := w.Tries(); got != 0 {
				t.Errorf("%v: Tries %d", w, got)
			}
			w.Good()
			if w != nil && *w != ahead {
				t.Errorf("%v: is %v now", ahead, *w)
			}
		}
	}
}

// Rule R3: waits do not come into each other, nor do their copies.
func TestAlone(t *testing.T) {
	rule := Rule{Base: 2, Cap: 10, Jitter: 3}
	a, b := made(t, rule), made(t, rule)
	fails(t, a, 0, 0, 2)
	fails(t, a, 0, 0, 4)
	stands(t, b, rule, 0)
	c := *a
	fails(t, &c, 0, 0, 8)
	stands(t, a, rule, 2)
	fails(t, b, 0, 1, 3)
	a.Good()
	stands(t, b, rule, 1)
	stands(t, &c, rule, 3)
	fails(t, a, 0, 0, 2)
	fails(t, b, 0, 0, 4)
	fails(t, &c, 0, 0, 10)
}

// No panic ever: the rule of a wait that was made is written to from outside; the failures stay.
func TestWritten(t *testing.T) {
	for _, other := range []Rule{{}, {0, 0, -1}, {1, 1, -1}, {5, 4, 0}, {1, 5, math.MaxInt}, {1, 5, math.MinInt}, {math.MaxInt, math.MaxInt, math.MaxInt}} {
		w := made(t, Rule{Base: 2, Cap: 10, Jitter: 3})
		fails(t, w, 0, 0, 2)
		w.Rule = other
		for _, r := range far() {
			refuses(t, w, -1, r, api.ErrArg)
			refuses(t, w, 5, r, api.ErrRange)
		}
		stands(t, w, other, 1)
		w.Rule = Rule{Base: 3, Cap: 7, Jitter: 1}
		fails(t, w, 5, 1, 12)
		w.Good()
		fails(t, w, 5, 1, 9)
	}
}

// Rule R7: many failures.
func TestMany(t *testing.T) {
	rule := Rule{Base: 1, Cap: 64, Jitter: 4}
	w := made(t, rule)
	for n := range 1 << 20 {
		at, code := w.Fail(n, n)
		if want := n + min(1<<min(n, 10), 64) + n%5; at != want || code != api.OK {
			t.Fatalf("failure %d: %d, %d; want %d", n, at, code, want)
		}
	}
	stands(t, w, rule, 1<<20)
	w.Good()
	stands(t, w, rule, 0)
	fails(t, w, 0, 0, 1)
}

// asPlainly: a failure as the words say it, of a wait behind so many: how many there are then.
func asPlainly(t *testing.T, w *Wait, rule Rule, tries, now, r int) int {
	t.Helper()
	if now < 0 || now > most {
		refuses(t, w, now, r, api.ErrArg)
		return tries
	}
	low, _ := plainBounds(rule, tries)
	until := now + low + plainLeft(rule, r)
	if until > most {
		refuses(t, w, now, r, api.ErrRange)
		return tries
	}
	fails(t, w, now, r, until)
	return tries + 1
}

// Promises 18.1 to 18.3: rules, times and r by chance, good ones among the failures.
func TestChance(t *testing.T) {
	chance := rand.New(rand.NewSource(18))
	for range 20000 {
		base := 1 + chance.Intn(1<<chance.Intn(12))
		rule := Rule{Base: min(base, 3600), Jitter: min(chance.Intn(1<<chance.Intn(13)), 3600)}
		rule.Cap = min(rule.Base+chance.Intn(1<<chance.Intn(17)), 86400)
		w, tries := made(t, rule), 0
		for range chance.Intn(40) {
			now, r := chance.Intn(1<<chance.Intn(41)), int(chance.Uint64())>>chance.Intn(64)
			switch chance.Intn(12) {
			case 0:
				w.Good()
				tries = 0
			case 1:
				now = most - chance.Intn(2*(rule.Cap+rule.Jitter))
			case 2:
				now = []int{-1 - now, most + 1 + now}[chance.Intn(2)]
			}
			tries = asPlainly(t, w, rule, tries, now, r)
			stands(t, w, rule, tries)
		}
	}
}

// Promises 18.1 to 18.3, of numbers that come as they like.
func FuzzWait(f *testing.F) {
	f.Add(2, 10, 3, 100, 7, uint8(5))
	f.Add(1, 1, 0, most, -1, uint8(0))
	f.Add(3600, 86400, 3600, most-90000, math.MinInt, uint8(255))
	f.Add(0, 5, -1, -1, math.MaxInt, uint8(64))
	f.Fuzz(func(t *testing.T, base, high, jitter, now, r int, many uint8) {
		rule := Rule{Base: base, Cap: high, Jitter: jitter}
		want := plainCode(rule)
		w, code := New(rule)
		if code != want || Check(rule) != want || (w == nil) != (want != api.OK) {
			t.Fatal(fmt.Sprint(rule, w, code, want))
		}
		if w == nil {
			rule.Bounds(r)
			return
		}
		tries := 0
		for range many {
			tries = asPlainly(t, w, rule, tries, now, r)
			tries = asPlainly(t, w, rule, tries, 0, -r)
		}
		stands(t, w, rule, tries)
		w.Good()
		stands(t, w, rule, 0)
	})
}

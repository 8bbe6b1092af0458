package timer

import (
	"cmp"
	"math"
	"slices"
	"testing"

	"wheelhouse/api"
)

const last = 1 << 40

// noTicks: numbers that are no ticks.
var noTicks = []int{math.MinInt, math.MinInt + 1, -last, -2, -1, last + 1, last + 2, 2 * last, 1 << 62, math.MaxInt}

// someIDs: any number may be waited for.
var someIDs = []int{
	math.MinInt, math.MinInt + 1, -last, -2, -1, 0, 1, 2, 7, 4095, 4096, 4097,
	1 << 32, 1<<32 + 1, last, last + 1, math.MaxInt - 1, math.MaxInt,
}

// made is a timer for so many.
func made(t *testing.T, most int) *Timer {
	t.Helper()
	x, code := New(most)
	if code != api.OK || x == nil {
		t.Fatalf("New(%d): code %d, a timer: %t", most, code, x != nil)
	}
	return x
}

// pair is who is waited for, and until when.
type pair struct{ id, at int }

// set is a timer for so many, in which these were set, one behind the other.
func set(t *testing.T, most int, l ...pair) *Timer {
	t.Helper()
	x := made(t, most)
	for _, p := range l {
		if code := x.Set(p.id, p.at); code != api.OK {
			t.Fatalf("Set(%d, %d): code %d", p.id, p.at, code)
		}
	}
	return x
}

// plain is a timer as the document says what one is: all who are waited for, in no order, gone through each time.
type plain struct {
	most int
	list []pair
}

func (p *plain) find(id int) int {
	return slices.IndexFunc(p.list, func(x pair) bool { return x.id == id })
}

func (p *plain) set(id, at int) api.Code {
	if at < 0 || at > last {
		return api.ErrArg
	}
	if i := p.find(id); i >= 0 {
		p.list[i].at = at
		return api.OK
	}
	if len(p.list) == p.most {
		return api.ErrFull
	}
	p.list = append(p.list, pair{id, at})
	return api.OK
}

func (p *plain) cancel(id int) bool {
	i := p.find(id)
	if i < 0 {
		return false
	}
	p.list = slices.Delete(p.list, i, i+1)
	return true
}

// sorted is all, in the order in which they are due.
func (p *plain) sorted() []pair {
	l := slices.Clone(p.list)
	slices.SortFunc(l, func(a, b pair) int {
		return cmp.Or(cmp.Compare(a.at, b.at), cmp.Compare(a.id, b.id))
	})
	return l
}

func (p *plain) due(now int) []int {
	var l []int
	for _, x := range p.sorted() {
		if x.at <= now {
			l = append(l, x.id)
			p.cancel(x.id)
		}
	}
	return l
}

// same holds what a timer tells, and changes nothing by it, against those who are waited for, in their order.
func same(t *testing.T, x *Timer, want []pair) {
	t.Helper()
	if x.Len() != len(want) {
		t.Fatalf("%d are waited for; want %v", x.Len(), want)
	}
	for range 2 {
		id, at, ok := x.Next()
		if len(want) == 0 && (id != 0 || at != 0 || ok) || len(want) > 0 && (id != want[0].id || at != want[0].at || !ok) {
			t.Fatalf("Next: %d, %d, %t; want the first of %v", id, at, ok, want)
		}
	}
	for _, p := range want {
		if at, ok := x.At(p.id); at != p.at || !ok {
			t.Fatalf("At(%d): %d, %t; want %v", p.id, at, ok, p)
		}
	}
}

// absent: nobody of these is waited for.
func absent(t *testing.T, x *Timer, ids ...int) {
	t.Helper()
	before := x.Len()
	for _, id := range ids {
		if at, ok := x.At(id); at != 0 || ok {
			t.Fatalf("At(%d): %d, %t", id, at, ok)
		}
		if x.Cancel(id) {
			t.Fatalf("Cancel(%d): true", id)
		}
	}
	if x.Len() != before {
		t.Fatalf("%d were waited for, now %d", before, x.Len())
	}
}

// empties takes out all by Due, and holds them against these.
func empties(t *testing.T, x *Timer, want ...int) {
	t.Helper()
	if got := x.Due(last); !slices.Equal(got, want) {
		t.Fatalf("due are %v; want %v", got, want)
	}
	same(t, x, nil)
	if got := x.Due(last); len(got) != 0 {
		t.Fatalf("due again are %v", got)
	}
}

// Promise 6.1: how many may be waited for.
func TestNew(t *testing.T) {
	if api.MaxMany != 4096 {
		t.Error(api.MaxMany)
	}
	for _, most := range []int{1, 2, 3, 200, 4095, 4096} {
		x := made(t, most)
		same(t, x, nil)
		absent(t, x, someIDs...)
		empties(t, x)
	}
	for _, most := range []int{math.MinInt, -4096, -2, -1, 0, 4097, 4098, 8192, 1<<32 + 1, last, math.MaxInt} {
		if x, code := New(most); x != nil || code != api.ErrRange {
			t.Errorf("New(%d): code %d, a timer: %t", most, code, x != nil)
		}
	}
}

// Promise 6.1: until which time somebody may be waited for.
func TestSetTicks(t *testing.T) {
	for _, at := range []int{0, 1, 2, 1 << 31, 1 << 32, last - 1, last} {
		x := set(t, 1, pair{7, at})
		same(t, x, []pair{{7, at}})
		empties(t, x, 7)
	}
	for _, at := range noTicks {
		x := made(t, 2)
		if code := x.Set(7, at); code != api.ErrArg {
			t.Errorf("Set(7, %d): code %d", at, code)
		}
		same(t, x, nil)
		absent(t, x, 7)
		// Whoever is waited for already is so until the time that was told last.
		x = set(t, 2, pair{7, 5}, pair{8, 6})
		for _, id := range []int{7, 8, 9} {
			// What is no tick is told ahead of there being no room.
			if code := x.Set(id, at); code != api.ErrArg {
				t.Errorf("Set(%d, %d): code %d", id, at, code)
			}
		}
		same(t, x, []pair{{7, 5}, {8, 6}})
		absent(t, x, 9)
	}
}

// Promise 6.1: whoever is waited for may be any number.
func TestAnyNumber(t *testing.T) {
	x := made(t, len(someIDs))
	var want []pair
	for i := range someIDs {
		id := someIDs[len(someIDs)-1-i]
		if code := x.Set(id, 3); code != api.OK {
			t.Fatal(id, code)
		}
		want = append([]pair{{id, 3}}, want...)
		same(t, x, want)
	}
	for _, id := range someIDs {
		if !x.Cancel(id) {
			t.Errorf("Cancel(%d): false", id)
		}
		want = want[1:]
		same(t, x, want)
		absent(t, x, id)
	}
}

// Promise 6.1: set once more, somebody is waited for until the later time, or the earlier one, and just once.
func TestSetAgain(t *testing.T) {
	for _, x := range []struct {
		l    []pair
		want []pair
	}{
		{[]pair{{5, 30}, {7, 20}, {5, 10}}, []pair{{5, 10}, {7, 20}}},
		{[]pair{{5, 10}, {7, 20}, {5, 30}}, []pair{{7, 20}, {5, 30}}},
		{[]pair{{5, 10}, {7, 20}, {5, 20}}, []pair{{5, 20}, {7, 20}}},
		{[]pair{{7, 10}, {5, 20}, {7, 20}}, []pair{{5, 20}, {7, 20}}},
		{[]pair{{5, 10}, {5, 10}, {5, 10}}, []pair{{5, 10}}},
		{[]pair{{5, 10}, {5, 0}, {5, last}}, []pair{{5, last}}},
		{[]pair{{1, 1}, {2, 2}, {3, 3}, {1, 4}, {2, 5}, {3, 6}}, []pair{{1, 4}, {2, 5}, {3, 6}}},
		{[]pair{{1, 4}, {2, 5}, {3, 6}, {3, 1}, {2, 1}, {1, 1}}, []pair{{1, 1}, {2, 1}, {3, 1}}},
		{[]pair{{1, 1}, {2, 2}, {3, 3}, {4, 4}, {5, 5}, {3, 0}, {1, 9}}, []pair{{3, 0}, {2, 2}, {4, 4}, {5, 5}, {1, 9}}},
	} {
		timer := set(t, 9, x.l...)
		same(t, timer, x.want)
		var ids []int
		for _, p := range x.want {
			ids = append(ids, p.id)
		}
		empties(t, timer, ids...)
	}
}

// Promise 6.1: as many as may be, and one more; whoever is there already needs no room.
func TestFull(t *testing.T) {
	for _, most := range []int{1, 2, 3, 100, 4096} {
		x := made(t, most)
		for i := range most {
			if code := x.Set(i, i); code != api.OK {
				t.Fatalf("of %d, Set(%d, %d): code %d", most, i, i, code)
			}
		}
		for _, id := range []int{-1, most, math.MaxInt} {
			if code := x.Set(id, 0); code != api.ErrFull {
				t.Errorf("of %d, Set(%d, 0): code %d", most, id, code)
			}
			absent(t, x, id)
		}
		if x.Len() != most {
			t.Fatal(most, x.Len())
		}
		if code := x.Set(most-1, last); code != api.OK {
			t.Errorf("of %d, set again: code %d", most, code)
		}
		if at, ok := x.At(most - 1); at != last || !ok || x.Len() != most {
			t.Errorf("of %d, set again: %d, %t", most, at, ok)
		}
		// Whoever is waited for no more leaves room for one other.
		if !x.Cancel(0) || x.Set(-1, 0) != api.OK || x.Set(-2, 0) != api.ErrFull {
			t.Errorf("of %d: one went", most)
		}
		if got := x.Due(0); !slices.Equal(got, []int{-1}) {
			t.Errorf("of %d: due %v", most, got)
		}
		if x.Set(-3, 0) != api.OK || x.Set(-4, 0) != api.ErrFull || x.Len() != most {
			t.Errorf("of %d: one was due", most)
		}
	}
}

// Promise 6.1: whoever is waited for no more is so once.
func TestCancel(t *testing.T) {
	all := []pair{{1, 1}, {6, 1}, {2, 2}, {5, 3}, {3, 4}, {4, 5}, {0, 6}}
	for i, p := range all {
		x := set(t, 9, all...)
		if !x.Cancel(p.id) {
			t.Fatalf("Cancel(%d): false", p.id)
		}
		absent(t, x, p.id)
		want := slices.Delete(slices.Clone(all), i, i+1)
		same(t, x, want)
		// They may be waited for again.
		if code := x.Set(p.id, last); code != api.OK {
			t.Fatal(code)
		}
		same(t, x, append(want, pair{p.id, last}))
		for range all {
			id, _, ok := x.Next()
			if !ok || !x.Cancel(id) {
				t.Fatalf("Next: %d, %t", id, ok)
			}
		}
		same(t, x, nil)
	}
}

// Promise 6.1: of a timer that is nil: nobody is waited for, whatever is asked.
func TestNil(t *testing.T) {
	var x *Timer
	for _, id := range someIDs {
		for _, at := range append([]int{0, 1, last}, noTicks...) {
			if code := x.Set(id, at); code != api.ErrNil {
				t.Errorf("Set(%d, %d): code %d", id, at, code)
			}
			if got := x.Due(at); len(got) != 0 {
				t.Errorf("Due(%d): %v", at, got)
			}
		}
		absent(t, x, id)
	}
	same(t, x, nil)
}

// Of a timer that New did not make nothing is promised; but no call panics.
func TestNotMade(t *testing.T) {
	x := &Timer{}
	for _, at := range []int{-1, 0, 1, last, last + 1} {
		x.Set(1, at)
		x.Cancel(1)
		x.Set(1, at)
		x.Set(1, at)
		x.Next()
		x.At(1)
		x.Due(at)
		x.Len()
	}
}

// Promise 6.2: the one who is waited for the shortest; of alike times the least number, whoever was set first.
func TestNext(t *testing.T) {
	for _, x := range []struct {
		l    []pair
		want pair
	}{
		{[]pair{{0, 0}}, pair{0, 0}},
		{[]pair{{1, 2}, {2, 1}}, pair{2, 1}},
		{[]pair{{2, 1}, {1, 2}}, pair{2, 1}},
		{[]pair{{2, 1}, {1, 1}}, pair{1, 1}},
		{[]pair{{1, 1}, {2, 1}}, pair{1, 1}},
		{[]pair{{1, 1}, {-1, 1}, {0, 1}}, pair{-1, 1}},
		{[]pair{{0, 9}, {math.MinInt, 9}, {math.MaxInt, 9}}, pair{math.MinInt, 9}},
		{[]pair{{math.MaxInt, 8}, {math.MinInt, 9}}, pair{math.MaxInt, 8}},
		{[]pair{{math.MinInt, last}, {math.MaxInt, last - 1}}, pair{math.MaxInt, last - 1}},
		{[]pair{{5, last}, {4, last}}, pair{4, last}},
	} {
		timer := set(t, 4, x.l...)
		if id, at, ok := timer.Next(); id != x.want.id || at != x.want.at || !ok {
			t.Errorf("of %v: %d, %d, %t", x.l, id, at, ok)
		}
	}
}

// Promise 6.3: the chapter's example, and who is due, wherever now is.
func TestDue(t *testing.T) {
	x := set(t, 2, pair{5, 30}, pair{7, 20}, pair{5, 10})
	same(t, x, []pair{{5, 10}, {7, 20}})
	if got := x.Due(20); !slices.Equal(got, []int{5, 7}) {
		t.Error(got)
	}
	same(t, x, nil)
	absent(t, x, 5, 7)
	all := []pair{{9, 0}, {3, 10}, {4, 10}, {1, 20}, {2, 30}, {8, last}}
	for _, y := range []struct {
		now, count int
	}{
		{math.MinInt, 0}, {-1, 0}, {0, 1}, {1, 1}, {9, 1}, {10, 3}, {11, 3}, {19, 3}, {20, 4}, {29, 4}, {30, 5},
		{31, 5}, {last - 1, 5}, {last, 6}, {last + 1, 6}, {math.MaxInt, 6},
	} {
		x := set(t, 6, all...)
		got := x.Due(y.now)
		if !slices.Equal(got, []int{9, 3, 4, 1, 2, 8}[:y.count]) {
			t.Errorf("Due(%d): %v", y.now, got)
		}
		same(t, x, all[y.count:])
		absent(t, x, got...)
		if again := x.Due(y.now); len(again) != 0 {
			t.Errorf("Due(%d), again: %v", y.now, again)
		}
	}
}

// Promise 6.3: what was told is theirs who asked.
func TestDueIsNew(t *testing.T) {
	x := set(t, 4, pair{1, 1}, pair{2, 2}, pair{3, 3}, pair{4, 4})
	first := x.Due(2)
	first[0] = 99
	_ = append(first[:1], 98, 97, 96)
	same(t, x, []pair{{3, 3}, {4, 4}})
	second := x.Due(9)
	if first[0] != 99 || !slices.Equal(second, []int{3, 4}) {
		t.Error(first, second)
	}
}

// Promises 6.3 and 6.4: as many as may be, in orders of all kinds, are due in one order, at once or one by one.
func TestMany(t *testing.T) {
	const most = 4096
	for _, step := range []int{1, 3, 5, 1365, 2047, 4095} {
		for _, alike := range []int{1, 2, 7, most} {
			once, bit := made(t, most), made(t, most)
			p := &plain{most: most}
			for i := range most {
				// step is odd, and most a power of two, so each number comes once.
				id := i * step % most
				once.Set(id, id/alike)
				bit.Set(id, id/alike)
				p.list = append(p.list, pair{id, id / alike})
			}
			want := p.due(last)
			var got []int
			for {
				_, at, ok := bit.Next()
				if !ok {
					break
				}
				got = append(got, bit.Due(at)...)
			}
			if !slices.Equal(got, want) {
				t.Errorf("by %d, %d alike: bit by bit, another order", step, alike)
			}
			empties(t, once, want...)
		}
	}
}

// Promise 6.1: no timer knows of another one.
func TestApart(t *testing.T) {
	x, y := set(t, 2, pair{1, 1}), set(t, 2, pair{1, 2}, pair{2, 3})
	x.Set(3, 0)
	x.Cancel(1)
	same(t, y, []pair{{1, 2}, {2, 3}})
	y.Due(9)
	same(t, x, []pair{{3, 0}})
}

// steps is what may be done to a small timer: each is done to the timer and to the plain one, and both are held together.
func steps(t *testing.T, x *Timer, p *plain) []func() {
	var l []func()
	for id := range 3 {
		for at := range 3 {
			l = append(l, func() {
				if got, want := x.Set(id, at), p.set(id, at); got != want {
					t.Fatalf("Set(%d, %d): code %d; want %d", id, at, got, want)
				}
			})
		}
		l = append(l, func() {
			if got, want := x.Cancel(id), p.cancel(id); got != want {
				t.Fatalf("Cancel(%d): %t", id, got)
			}
		})
	}
	for now := range 2 {
		l = append(l, func() {
			if got, want := x.Due(now), p.due(now); !slices.Equal(got, want) {
				t.Fatalf("Due(%d): %v; want %v", now, got, want)
			}
		})
	}
	return l
}

// Promises 6.1 to 6.4: all rows of four steps, of timers for 1 to 3.
func TestShort(t *testing.T) {
	for most := 1; most <= 3; most++ {
		count := len(steps(t, nil, nil))
		for row := range count * count * count * count {
			x, p := made(t, most), &plain{most: most}
			l := steps(t, x, p)
			for range 4 {
				l[row%count]()
				row /= count
				same(t, x, p.sorted())
			}
		}
	}
}

// Promises 6.1 to 6.4: long rows of steps, of greater timers, some of which are full most of the time.
func TestLong(t *testing.T) {
	// A row of numbers that looks like chance, and is the same each time.
	seed := uint32(1)
	draw := func(n int) int {
		seed = seed*1664525 + 1013904223
		return int(seed>>8) % n
	}
	for _, most := range []int{1, 5, 30, 60} {
		x, p := made(t, most), &plain{most: most}
		now := 0
		for range 20000 {
			switch id, at := draw(60)-20, now+draw(100); draw(10) {
			case 0, 1:
				if got, want := x.Cancel(id), p.cancel(id); got != want {
					t.Fatalf("Cancel(%d): %t", id, got)
				}
			case 2:
				now += draw(20)
				if got, want := x.Due(now), p.due(now); !slices.Equal(got, want) {
					t.Fatalf("Due(%d): %v; want %v", now, got, want)
				}
			case 3:
				if code := x.Set(id, -1-at); code != api.ErrArg {
					t.Fatalf("Set(%d, %d): code %d", id, -1-at, code)
				}
			default:
				if got, want := x.Set(id, at), p.set(id, at); got != want {
					t.Fatalf("Set(%d, %d): code %d; want %d", id, at, got, want)
				}
			}
			same(t, x, p.sorted())
		}
	}
}

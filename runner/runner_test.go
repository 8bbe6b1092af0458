package runner

import (
	"fmt"
	"math"
	"math/big"
	"math/rand"
	"slices"
	"strings"
	"testing"

	"wheelhouse/api"
	"wheelhouse/brk"
)

const most = 1 << 40 // The greatest tick.

// sends, waits and breaks are steps as 14.1 tells of them.
func sends(s string) api.Op { return api.Op{Kind: 1, S: s} }

func waits(n int) api.Op { return api.Op{Kind: 2, N: n} }

func breaks() api.Op { return api.Op{Kind: 3} }

// steps is a list of them.
func steps(l ...api.Op) []api.Op { return l }

// short is what is told of steps in a test's complaint.
func short(l []api.Op) string {
	return fmt.Sprintf("%d steps, %.300q", len(l), fmt.Sprint(l[:min(len(l), 20)]))
}

// begun is New's runner, of steps and a time for which there is one.
func begun(t *testing.T, l []api.Op, now int) *Runner {
	t.Helper()
	r, code := New(l, now)
	if code != api.OK || r == nil {
		t.Fatalf("New(%s, %d): %v, %d", short(l), now, r, code)
	}
	return r
}

// refuses: New has a code, and no runner.
func refuses(t *testing.T, want api.Code, now int, l ...api.Op) {
	t.Helper()
	if r, code := New(l, now); code != want || r != nil {
		t.Errorf("New(%s, %d): %v, %d; want %d", short(l), now, r, code, want)
	}
}

// tells: Step tells these.
func tells(t *testing.T, r *Runner, now int, want ...api.Op) {
	t.Helper()
	if got := r.Step(now); !slices.Equal(got, want) {
		t.Errorf("Step(%d): %s; want %s", now, short(got), short(want))
	}
}

// stands: it is not Done; this is what Next tells, and what Ends tells.
func stands(t *testing.T, r *Runner, next, ends int) {
	t.Helper()
	at, ok := r.Next()
	if r.Done() || at != next || !ok || r.Ends() != ends {
		t.Errorf("Done %v, Next %d %v, Ends %d; want false, %d true, %d", r.Done(), at, ok, r.Ends(), next, ends)
	}
}

// isDone: it is Done, and this is what Ends tells.
func isDone(t *testing.T, r *Runner, ends int) {
	t.Helper()
	at, ok := r.Next()
	if !r.Done() || at != 0 || ok || r.Ends() != ends {
		t.Errorf("Done %v, Next %d %v, Ends %d; want true, 0 false, %d", r.Done(), at, ok, r.Ends(), ends)
	}
}

// Promises 17.1 to 17.3: the chapter's example, asked at each tick.
func TestExample(t *testing.T) {
	r := begun(t, steps(sends("a"), waits(3), breaks()), 10)
	stands(t, r, 10, 13)
	tells(t, r, 10, sends("a"))
	for now := 10; now < 13; now++ {
		tells(t, r, now)
		stands(t, r, 13, 13)
	}
	tells(t, r, 13, breaks())
	isDone(t, r, 13)
	for _, now := range []int{13, 14, 1000, most} {
		tells(t, r, now)
		isDone(t, r, 13)
	}
}

// Promises 17.2 and 17.3: what is due is told in order, with all that lies between, whenever it is asked.
func TestStep(t *testing.T) {
	l := steps(waits(2), sends("a"), sends("b"), breaks(), waits(1), waits(4), breaks(), breaks(), sends("c"), waits(3), sends("d"), waits(6))
	first, second, third := steps(sends("a"), sends("b"), breaks()), steps(breaks(), breaks(), sends("c")), steps(sends("d"))

	r := begun(t, l, 100)
	for _, x := range []struct {
		now  int
		told []api.Op
		next int
	}{
		{100, nil, 102}, {101, nil, 102}, {101, nil, 102}, {102, first, 107}, {102, nil, 107}, {103, nil, 107}, {106, nil, 107}, {107, second, 110},
		{107, nil, 110}, {109, nil, 110}, {110, third, 116}, {110, nil, 116}, {111, nil, 116}, {115, nil, 116},
	} {
		tells(t, r, x.now, x.told...)
		stands(t, r, x.next, 116)
	}
	tells(t, r, 116)
	isDone(t, r, 116)
	tells(t, r, 116)
	isDone(t, r, 116)

	all := slices.Concat(first, second, third)
	for now := 100; now < 130; now++ {
		n := 0
		for _, x := range []struct{ at, told int }{{102, 3}, {107, 3}, {110, 1}} {
			if x.at <= now {
				n += x.told
			}
		}
		r = begun(t, l, 100)
		tells(t, r, now, all[:n]...)
		tells(t, r, most, all[n:]...)
		isDone(t, r, 116)
	}

	r = begun(t, l, 100)
	tells(t, r, 105, first...)
	stands(t, r, 107, 116)
	tells(t, r, 108, second...)
	stands(t, r, 110, 116)
	tells(t, r, 112, third...)
	stands(t, r, 116, 116)
	tells(t, r, 117)
	isDone(t, r, 116)

	r = begun(t, l, 100)
	tells(t, r, 107, slices.Concat(first, second)...)
	stands(t, r, 110, 116)
	tells(t, r, 1<<30, third...)
	isDone(t, r, 116)
}

// Promises 17.1 to 17.3: nothing to be told: it is done when it was asked, and all was waited.
func TestNothing(t *testing.T) {
	for _, now := range []int{0, 1, 10, most - 1, most} {
		r := begun(t, nil, now)
		stands(t, r, now, now)
		stands(t, r, now, now)
		tells(t, r, now)
		isDone(t, r, now)
		tells(t, r, now)

		r = begun(t, []api.Op{}, now)
		stands(t, r, now, now)
		tells(t, r, most)
		isDone(t, r, now)

		if now > most-10 {
			continue
		}
		for _, l := range [][]api.Op{steps(waits(7)), steps(waits(3), waits(4)), steps(waits(1), waits(1), waits(1), waits(4))} {
			r = begun(t, l, now)
			for i := range 7 {
				stands(t, r, now+7, now+7)
				tells(t, r, now+i)
			}
			stands(t, r, now+7, now+7)
			tells(t, r, now+7)
			isDone(t, r, now+7)
		}
	}
}

// Promise 17.3: what is due at once is told at once, but it is not done ahead of being asked.
func TestAtOnce(t *testing.T) {
	for _, now := range []int{0, 1, 10, most} {
		for _, l := range [][]api.Op{steps(breaks()), steps(sends("a")), steps(sends("a"), sends("a")), steps(breaks(), breaks(), sends("\x00\xff"), breaks())} {
			r := begun(t, l, now)
			stands(t, r, now, now)
			tells(t, r, now, l...)
			isDone(t, r, now)
			tells(t, r, now)
			tells(t, r, most)
			isDone(t, r, now)
		}
	}
}

// Promise 17.3: all was told, but not all was waited; and what waits at the end alone is waited for, too.
func TestWaitsAtTheEnd(t *testing.T) {
	r := begun(t, steps(sends("a"), waits(1), breaks(), waits(1), waits(1)), 0)
	stands(t, r, 0, 3)
	tells(t, r, 0, sends("a"))
	stands(t, r, 1, 3)
	tells(t, r, 1, breaks())
	stands(t, r, 3, 3)
	tells(t, r, 2)
	stands(t, r, 3, 3)
	tells(t, r, 3)
	isDone(t, r, 3)

	r = begun(t, steps(sends("a"), waits(most)), 0)
	tells(t, r, most-1, sends("a"))
	stands(t, r, most, most)
	tells(t, r, most)
	isDone(t, r, most)
}

// Promise 17.3: a runner that nobody made has no steps, and is Done.
func TestNobody(t *testing.T) {
	var none *Runner
	var empty Runner
	for _, r := range []*Runner{none, &empty, new(Runner)} {
		for _, now := range []int{math.MinInt, -1, 0, 1, 10, most, most + 1, math.MaxInt} {
			isDone(t, r, 0)
			tells(t, r, now)
		}
		isDone(t, r, 0)
	}
}

// Promise 17.1: what is no tick to begin at, whatever the steps are; and the edges.
func TestNewNow(t *testing.T) {
	for _, now := range []int{math.MinInt, -most, -2, -1, most + 1, most + 2, 2 * most, math.MaxInt} {
		for _, l := range [][]api.Op{nil, steps(sends("a")), steps(waits(1)), steps(waits(most)), steps(waits(math.MaxInt)), steps(sends("a"), waits(2), breaks()), steps(api.Op{}), steps(waits(-1)), steps(waits(-now))} {
			refuses(t, api.ErrArg, now, l...)
		}
	}
	for _, now := range []int{0, 1, 2, 10, 1 << 31, 1 << 32, most - 1, most} {
		stands(t, begun(t, steps(sends("a"), breaks()), now), now, now)
	}
}

// wrong is all that may be no step, of some kinds, bytes and numbers: all but what 14.1 names.
func wrong() []api.Op {
	var l []api.Op
	for _, kind := range []int{math.MinInt, -3, -2, -1, 0, 1, 2, 3, 4, 5, 1<<32 + 1, 1<<32 + 2, math.MaxInt} {
		for _, s := range []string{"", "a", "\x00", "long and long"} {
			for _, n := range []int{math.MinInt, -most, -2, -1, 0, 1, 2, 13, most, most + 1, math.MaxInt} {
				x := api.Op{Kind: kind, S: s, N: n}
				switch {
				case kind == 1 && s != "" && n == 0, kind == 2 && s == "" && n >= 1, kind == 3 && s == "" && n == 0:
				default:
					l = append(l, x)
				}
			}
		}
	}
	return l
}

// Promise 17.1: what may be no step, by itself, and at each place of others.
func TestNewSteps(t *testing.T) {
	rows := [][]api.Op{nil, steps(sends("a")), steps(waits(5)), steps(breaks()), steps(sends("a"), waits(3), breaks()), steps(waits(1), waits(2), sends("b"), sends("c"), breaks(), breaks(), waits(9))}
	for _, x := range wrong() {
		for _, l := range rows {
			for i := range len(l) + 1 {
				refuses(t, api.ErrArg, 10, slices.Insert(slices.Clone(l), i, x)...)
				refuses(t, api.ErrArg, 0, slices.Insert(slices.Clone(l), i, x, api.Op{}, x)...)
			}
		}
		refuses(t, api.ErrArg, most, x)
	}
	// Steps are what they are, however long what they send is, and whatever stands side by side.
	long := strings.Repeat("long \x00\xff", 100000)
	for _, l := range [][]api.Op{steps(sends(long)), steps(sends("a"), sends("b")), steps(sends("\\"), sends("\x00")), steps(breaks(), breaks(), breaks())} {
		tells(t, begun(t, l, 3), 3, l...)
	}
}

// Promise 17.1: as much as has room, and a tick more.
func TestNewRange(t *testing.T) {
	for _, now := range []int{0, 1, 2, 10, most / 2, most - 3, most - 2, most - 1, most} {
		room := most - now
		for _, n := range []int{room - 3, room - 2, room - 1, room} {
			if n < 1 {
				continue
			}
			r := begun(t, steps(sends("a"), waits(n), breaks()), now)
			tells(t, r, now, sends("a"))
			tells(t, r, now+n-1)
			stands(t, r, now+n, now+n)
			tells(t, r, now+n, breaks())
			isDone(t, r, now+n)
			for ahead := range min(n, 5) {
				if ahead > 0 {
					r = begun(t, steps(waits(ahead), sends("a"), waits(n-ahead)), now)
					stands(t, r, now+ahead, now+n)
				}
			}
		}
		for _, n := range []int{room + 1, room + 2, 2*room + 1, most, most + 1, most + 2, 1 << 41, 1 << 62, math.MaxInt - most, math.MaxInt - now, math.MaxInt - now + 1, math.MaxInt - 1, math.MaxInt} {
			if n <= room || n < 0 {
				continue
			}
			refuses(t, api.ErrRange, now, waits(n))
			refuses(t, api.ErrRange, now, sends("a"), waits(n), breaks())
			refuses(t, api.ErrRange, now, waits(n), waits(n))
			refuses(t, api.ErrRange, now, waits(n), waits(1), waits(n), sends("a"))
			refuses(t, api.ErrRange, now, waits(1), waits(n))
			refuses(t, api.ErrRange, now, waits(n), waits(math.MaxInt), waits(math.MaxInt))
		}
		if room > 0 {
			refuses(t, api.ErrRange, now, waits(room), sends("a"), waits(1))
			refuses(t, api.ErrRange, now, waits(1), breaks(), waits(room))
			refuses(t, api.ErrRange, now, waits(1), breaks(), waits(room), sends("a"), waits(1))
		}
		begun(t, steps(breaks(), breaks(), sends("a")), now)
	}
	// Waits that together are beyond what an int holds, and would come back to a tick.
	for _, n := range []int{1 << 62, math.MaxInt/2 + 1, math.MaxInt} {
		refuses(t, api.ErrRange, 5, slices.Repeat(steps(waits(n)), 4)...)
		refuses(t, api.ErrRange, 5, slices.Repeat(steps(waits(n)), 2)...)
		refuses(t, api.ErrRange, 5, slices.Repeat(steps(waits(n), sends("a")), 8)...)
	}
}

// Promise 17.1: of several wrong ones the first one in l is told.
func TestNewFirst(t *testing.T) {
	long := []api.Op{waits(most - 9), waits(most), waits(most + 1), waits(math.MaxInt)}
	for _, x := range wrong() {
		for _, n := range long {
			refuses(t, api.ErrArg, 10, x, n)
			refuses(t, api.ErrRange, 10, n, x)
			refuses(t, api.ErrArg, 10, sends("a"), waits(3), x, n, breaks())
			refuses(t, api.ErrRange, 10, sends("a"), waits(3), n, breaks(), x)
			refuses(t, api.ErrArg, -1, n, x)
			refuses(t, api.ErrArg, most+1, n, x)
		}
		// Two waits have room, but not the third: what lies ahead of it, or behind it, is told by its place.
		refuses(t, api.ErrRange, 0, waits(most-1), waits(1), waits(1), x)
		refuses(t, api.ErrArg, 0, waits(most-1), waits(1), x, waits(1))
		refuses(t, api.ErrArg, most, sends("a"), x, waits(1))
		refuses(t, api.ErrRange, most, sends("a"), waits(1), x)
	}
}

// plain is a runner as the chapter's words say it: what is due when is counted anew whenever it is asked.
type plain struct {
	l           []api.Op
	began, last int // last is when Step was asked, or -1.
}

// dues is when each step is due, and behind them the end.
func (p *plain) dues() []int {
	l, at := []int{p.began}, big.NewInt(int64(p.began))
	for _, x := range p.l {
		if x.Kind == 2 {
			at.Add(at, big.NewInt(int64(x.N)))
		}
		l = append(l, int(at.Int64()))
	}
	return l
}

func (p *plain) ends() int { return p.dues()[len(p.l)] }

// code is New's.
func (p *plain) code() api.Code {
	if p.began < 0 || p.began > most {
		return api.ErrArg
	}
	sum := big.NewInt(int64(p.began))
	for _, x := range p.l {
		if x != sends(x.S) && x != waits(x.N) && x != breaks() || x == sends("") || x.Kind == 2 && x.N < 1 {
			return api.ErrArg
		}
		if sum.Add(sum, big.NewInt(int64(x.N))).Cmp(big.NewInt(most)) > 0 {
			return api.ErrRange
		}
	}
	return api.OK
}

// step is what is due behind when it was asked last, and until now.
func (p *plain) step(now int) []api.Op {
	var told []api.Op
	for i, at := range p.dues()[:len(p.l)] {
		if p.l[i].Kind != 2 && at > p.last && at <= now {
			told = append(told, p.l[i])
		}
	}
	p.last = now
	return told
}

func (p *plain) next() (int, bool) {
	if p.last >= p.ends() {
		return 0, false
	}
	for i, at := range p.dues()[:len(p.l)] {
		if p.l[i].Kind != 2 && at > p.last {
			return at, true
		}
	}
	return p.ends(), true
}

// asPlainly: a runner of these steps, asked at these ticks, which never fall, tells what it is to tell, and all but once (17.4).
func asPlainly(t *testing.T, l []api.Op, now int, asked []int) {
	t.Helper()
	p := &plain{l: l, began: now, last: -1}
	if want := p.code(); want != api.OK {
		refuses(t, want, now, l...)
		return
	}
	r := begun(t, l, now)
	var all []api.Op
	for i := range len(asked) + 1 {
		at, ok := r.Next()
		next, more := p.next()
		if at != next || ok != more || r.Done() == more || r.Ends() != p.ends() {
			t.Errorf("New(%s, %d), asked at %v: Next %d %v, Done %v, Ends %d; want %d %v, %v, %d", short(l), now, asked[:i], at, ok, r.Done(), r.Ends(), next, more, !more, p.ends())
		}
		if i == len(asked) {
			break
		}
		got, want := r.Step(asked[i]), p.step(asked[i])
		if !slices.Equal(got, want) {
			t.Errorf("New(%s, %d), asked at %v: %s; want %s", short(l), now, asked[:i+1], short(got), short(want))
		}
		all = append(all, got...)
	}
	all = append(all, r.Step(most)...)
	if want := slices.DeleteFunc(slices.Clone(l), func(x api.Op) bool { return x.Kind == 2 }); !slices.Equal(all, want) {
		t.Errorf("New(%s, %d), asked at %v: in all %s", short(l), now, asked, short(all))
	}
	isDone(t, r, p.ends())
}

// schedules is all rows of ticks from low to high, each of them asked never, once or twice.
func schedules(low, high int) [][]int {
	if low > high {
		return [][]int{nil}
	}
	var all [][]int
	for _, l := range schedules(low+1, high) {
		all = append(all, l, append([]int{low}, l...), append([]int{low, low}, l...))
	}
	return all
}

// Promises 17.1 to 17.4: all short rows of some steps, at all short rows of ticks.
func TestAll(t *testing.T) {
	some := steps(sends("a"), sends("b"), waits(1), waits(2), breaks())
	rows, asked := [][]api.Op{nil}, schedules(7, 11)
	for range 4 {
		for _, l := range rows {
			for _, s := range asked {
				asPlainly(t, l, 7, s)
			}
		}
		var longer [][]api.Op
		for _, l := range rows {
			for _, x := range some {
				longer = append(longer, append(slices.Clone(l), x))
			}
		}
		rows = longer
	}
	for i, l := range rows {
		asPlainly(t, l, 7, asked[i%len(asked)])
		asPlainly(t, l, 7, []int{8, 9, 9, 12, 15})
		asPlainly(t, l, 0, []int{0, 1, 2, 3, 4, 5, 6, 7, 8, 9})
		asPlainly(t, l, most-i%9, []int{most - i%9, most - i%3, most})
	}
}

// Promises 17.1 to 17.4: longer rows by chance, with ticks by chance, some of them where something is due.
func TestChance(t *testing.T) {
	chance := rand.New(rand.NewSource(174))
	for range 20000 {
		now := chance.Intn(50)
		if chance.Intn(4) == 0 {
			now = most - chance.Intn(200)
		}
		var l []api.Op
		edges := []int{now}
		for range chance.Intn(30) {
			last := edges[len(edges)-1]
			switch chance.Intn(4) {
			case 0:
				l = append(l, sends(strings.Repeat("x", 1+chance.Intn(5))))
			case 1:
				l = append(l, breaks())
			default:
				n := 1 + chance.Intn(12)
				l, edges = append(l, waits(n)), append(edges, min(last+n, most))
			}
			if chance.Intn(200) == 0 {
				l = append(l, []api.Op{{}, sends(""), waits(0), waits(-1), waits(most), waits(math.MaxInt), {Kind: 3, N: 1}}[chance.Intn(7)])
			}
		}
		var asked []int
		for range chance.Intn(20) {
			at := edges[chance.Intn(len(edges))] + chance.Intn(3) - 1
			asked = append(asked, max(now, min(at, most)))
		}
		slices.Sort(asked)
		asPlainly(t, l, now, asked)
	}
}

// Promise 17.4: asked at what Next tells, again and again, all is told, each when it is due; as brk has the steps.
func TestByNext(t *testing.T) {
	for _, s := range []string{"", "a", `\d`, `\z`, `a\w12\d\z`, `\w99\w99\dab\z\zc`, `login\r\w05\x03\d\z\z\d`, strings.Repeat(`a\d`, 85), strings.Repeat(`\w99`, 63)} {
		l, code := brk.Read(s)
		if code != api.OK {
			t.Fatal(s, code)
		}
		r := begun(t, l, 1000)
		if r.Ends() != 1000+brk.Cost(l) {
			t.Errorf("%q: Ends %d", s, r.Ends())
		}
		bytes, last, asks := "", 999, 0
		for now, ok := r.Next(); ok; now, ok = r.Next() {
			if now <= last || asks > 300 {
				t.Fatalf("%q: Next %d behind %d", s, now, last)
			}
			last = now
			asks++
			for _, x := range r.Step(now) {
				bytes += x.S
			}
		}
		if !r.Done() || last != r.Ends() || bytes != brk.Bytes(l) {
			t.Errorf("%q: %q, at last at %d; Ends %d", s, bytes, last, r.Ends())
		}
	}
}

// Promise P0 and rule R7: many steps, asked often, end soon.
func TestMany(t *testing.T) {
	const many = 1 << 20
	r := begun(t, slices.Repeat(steps(waits(1)), many), 0)
	for now := range many {
		if at, ok := r.Next(); at != many || !ok {
			t.Fatalf("Next: %d, %v", at, ok)
		}
		if got := r.Step(now); len(got) != 0 || r.Done() {
			t.Fatalf("Step(%d): %s", now, short(got))
		}
	}
	tells(t, r, many)
	isDone(t, r, many)

	l := slices.Repeat(steps(sends("a"), waits(1), breaks()), many)
	r = begun(t, l, 5)
	tells(t, r, 5, sends("a"))
	for now := 6; now < many+5; now++ {
		if at, ok := r.Next(); at != now || !ok {
			t.Fatalf("Next: %d, %v", at, ok)
		}
		if got := r.Step(now); len(got) != 2 || got[0] != breaks() || got[1] != sends("a") {
			t.Fatalf("Step(%d): %s", now, short(got))
		}
		if len(r.Step(now)) != 0 {
			t.Fatalf("Step(%d) told twice", now)
		}
	}
	tells(t, r, many+5, breaks())
	isDone(t, r, many+5)

	r = begun(t, l, 5)
	if got := r.Step(many + 4); len(got) != 2*many-1 {
		t.Errorf("%d steps at once", len(got))
	}
	stands(t, r, many+5, many+5)
}

// Rule R3: what is handed in is neither changed nor kept, and what lies behind a list's length is not asked.
func TestKept(t *testing.T) {
	bad := api.Op{Kind: 9, S: "\n", N: -7}
	l := steps(sends("a"), waits(3), breaks(), waits(2), sends("b"))
	longer := append(slices.Clone(l), bad, waits(most), sends("x"), bad)
	whole := slices.Clone(longer)

	r := begun(t, longer[:len(l)], 10)
	other := begun(t, longer[:len(l)], 20)
	none := begun(t, longer[:0], 10)
	if !slices.Equal(longer, whole) {
		t.Errorf("New changed %v into %v", whole, longer)
	}
	for i := range longer {
		longer[i] = bad
	}
	stands(t, r, 10, 15)
	tells(t, none, 10)
	isDone(t, none, 10)

	// Whoever has an answer may do with it what they like; nor does one runner come into another one.
	got := r.Step(10)
	got[0] = bad
	_ = append(got, bad, bad, bad)
	got = r.Step(14)
	if !slices.Equal(got, steps(breaks())) {
		t.Errorf("Step(14): %s", short(got))
	}
	clear(got[:cap(got)])
	tells(t, r, 15, sends("b"))
	isDone(t, r, 15)
	stands(t, other, 20, 25)
	first := other.Step(24)
	second := other.Step(25)
	clear(second[:cap(second)])
	if !slices.Equal(first, steps(sends("a"), breaks())) {
		t.Errorf("what was answered was written to: %s", short(first))
	}
	for i := range longer {
		if longer[i] != bad {
			t.Errorf("what was handed in was written to: %v", longer)
		}
	}
}

// Promises 17.1 to 17.4, of steps and ticks that come as they like: each byte is a step, or tells how many ticks go on.
func FuzzRunner(f *testing.F) {
	f.Add("a\x03z", 10, 1<<40, "\x00\x01\x02")
	f.Add("", 0, 0, "")
	f.Add("\x01z\x0a!a\x00", most-20, 3, "\x05\x05\x05\x05")
	f.Add("a?z", most, 1, "\x00")
	f.Fuzz(func(t *testing.T, s string, now, n int, ticks string) {
		if len(s) > 300 || len(ticks) > 300 {
			return
		}
		var l []api.Op
		for i, c := range []byte(s) {
			switch {
			case c == 'z':
				l = append(l, breaks())
			case c == '?':
				l = append(l, waits(n))
			case c == '!':
				l = append(l, api.Op{Kind: n, S: s[:i], N: now})
			case c > 0 && c < 32:
				l = append(l, waits(int(c)))
			default:
				l = append(l, sends(s[i:i+1]))
			}
		}
		var asked []int
		for i, at := 0, now; i < len(ticks); i++ {
			at = min(at+int(ticks[i])/2, most)
			asked = append(asked, at)
		}
		asPlainly(t, l, now, asked)
	})
}

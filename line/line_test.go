package line

import (
	"fmt"
	"math"
	"math/rand"
	"slices"
	"strings"
	"testing"

	"wheelhouse/api"
	"wheelhouse/backoff"
	"wheelhouse/brk"
)

// The greatest tick, and the last one at which something befalls a line.
const (
	mostTick = 1 << 40
	lastTick = 1 << 39
)

// sends, waits and breaks are steps as 14.1 tells of them.
func sends(s string) api.Op { return api.Op{Kind: 1, S: s} }

func waits(n int) api.Op { return api.Op{Kind: 2, N: n} }

func breaks() api.Op { return api.Op{Kind: 3} }

// opens, closes, writes and pulses are what is done to a line.
func opens() api.Out { return api.Out{Kind: 1} }

func closes() api.Out { return api.Out{Kind: 2} }

func writes(s string) api.Out { return api.Out{Kind: 3, S: s} }

func pulses() api.Out { return api.Out{Kind: 4} }

// outs is a list of them.
func outs(l ...api.Out) []api.Out { return l }

// console is a console of a rule, and of what it is sent first.
func console(base, high, jitter int, init string) api.Console {
	return api.Console{Name: "a", Kind: api.Serial, Lines: 20, Bytes: 4096, Gens: 3, Size: 4096, Base: base, Cap: high, Jitter: jitter, Init: init}
}

// usual is a console that waits 2 ticks, 4, 8 and 9, and some more, and is sent i, and j 5 ticks later.
func usual() api.Console { return console(2, 9, 3, `i\w05j`) }

// made is New's line, of a console for which there is one.
func made(t *testing.T, c api.Console) *Line {
	t.Helper()
	l, code := New(c)
	if code != api.OK || l == nil {
		t.Fatalf("New(%v): %v, %d", c, l, code)
	}
	return l
}

// refuses: New has a code, and no line.
func refuses(t *testing.T, c api.Console, want api.Code) {
	t.Helper()
	if l, code := New(c); code != want || l != nil {
		t.Errorf("New(%v): %v, %d; want %d", c, l, code, want)
	}
}

// short is what is told of a list in a test's complaint.
func short(l []api.Out) string {
	return fmt.Sprintf("%d things, %.300q", len(l), fmt.Sprint(l[:min(len(l), 20)]))
}

// does: this is what is done to a line.
func does(t *testing.T, what string, got []api.Out, want ...api.Out) {
	t.Helper()
	if !slices.Equal(got, want) {
		t.Errorf("%s: %s; want %s", what, short(got), short(want))
	}
}

// stands: this is the state of a line, so many bytes wait, and this is what Next tells (-1: nothing).
func stands(t *testing.T, l *Line, state, held, next int) {
	t.Helper()
	at, ok := l.Next()
	if l.State() != state || l.Held() != held || ok != (next >= 0) || at != max(next, 0) {
		t.Errorf("State %d, Held %d, Next %d %v; want %d, %d, %d", l.State(), l.Held(), at, ok, state, held, next)
	}
}

// tries: so many failures were noted.
func tries(t *testing.T, l *Line, want int) {
	t.Helper()
	if got := l.Tries(); got != want {
		t.Errorf("Tries %d; want %d", got, want)
	}
}

// took: these bytes were taken, and this was done.
func took(t *testing.T, l *Line, s string, want ...api.Out) {
	t.Helper()
	got, ok := l.Send(s)
	if !ok || !slices.Equal(got, want) {
		t.Errorf("Send(%.40q): %s, %v; want %s, true", s, short(got), ok, short(want))
	}
}

// left: these bytes were not taken.
func left(t *testing.T, l *Line, s string) {
	t.Helper()
	if got, ok := l.Send(s); ok || len(got) != 0 {
		t.Errorf("Send(%.40q): %s, %v; want nothing, false", s, short(got), ok)
	}
}

// begins: a break sequence began, and this was done.
func begins(t *testing.T, l *Line, now int, ops []api.Op, want ...api.Out) {
	t.Helper()
	got, code := l.Break(now, ops)
	if code != api.OK || !slices.Equal(got, want) {
		t.Errorf("Break(%d, %v): %s, %d; want %s, 0", now, ops, short(got), code, short(want))
	}
}

// begunNot: Break has a code, and nothing was done.
func begunNot(t *testing.T, l *Line, now int, ops []api.Op, want api.Code) {
	t.Helper()
	if got, code := l.Break(now, ops); code != want || len(got) != 0 {
		t.Errorf("Break(%d, %.200q): %s, %d; want nothing, %d", now, fmt.Sprint(ops), short(got), code, want)
	}
}

// inState is a line of the usual console that has one failure, or none where it was opened, since time 100, and where something waits if it can.
func inState(t *testing.T, state int) *Line {
	t.Helper()
	l := made(t, usual())
	if state == api.LineOff {
		l.Fail(0, 0)
		return l
	}
	l.Start()
	if l.Opened(98, false, 0); state == api.LineWait {
		stands(t, l, 1, 0, 100)
		return l
	}
	if l.Tick(100); state == api.LineOpening {
		stands(t, l, 2, 0, -1)
		return l
	}
	does(t, "Opened", l.Opened(100, true, 0), writes("i"))
	if state == api.LineInit {
		took(t, l, "held")
		stands(t, l, 3, 4, 105)
		return l
	}
	does(t, "Tick", l.Tick(105), writes("j"))
	if state == api.LineUp {
		stands(t, l, 4, 0, -1)
		return l
	}
	begins(t, l, 105, []api.Op{breaks(), waits(2), sends("k"), breaks()}, pulses())
	took(t, l, "held")
	stands(t, l, 5, 4, 107)
	return l
}

// The states, and the times at which nothing befalls a line.
var (
	states  = []int{api.LineOff, api.LineWait, api.LineOpening, api.LineInit, api.LineUp, api.LineBreak}
	noTimes = []int{math.MinInt, math.MinInt + 1, -mostTick, -lastTick, -1 << 32, -100, -2, -1, lastTick + 1, lastTick + 2, mostTick - 1, mostTick, mostTick + 1, 1 << 62, math.MaxInt - 1, math.MaxInt}
)

// seen is all that can be seen of a line.
type seen struct {
	state, held, next, tries int
	wanted                   bool
	rule                     backoff.Rule
}

func see(l *Line) seen {
	next, wanted := l.Next()
	return seen{state: l.State(), held: l.Held(), next: next, wanted: wanted, tries: l.Tries(), rule: l.Rule}
}

// same: nothing that can be seen of a line is another thing than it was.
func same(t *testing.T, what string, l *Line, ahead seen) {
	t.Helper()
	if now := see(l); now != ahead {
		t.Errorf("%s: %+v; want %+v", what, now, ahead)
	}
}

// end is what a line tells from here on, until it is up, from a time on.
func end(l *Line, now int) string {
	all := ""
	for range 20 {
		next, ok := l.Next()
		if !ok && l.State() != api.LineOpening {
			break
		}
		if now = max(now, next); l.State() == api.LineOpening {
			all += fmt.Sprint(now, l.Opened(now, true, 0), ";")
		} else {
			all += fmt.Sprint(now, l.Tick(now), ";")
		}
	}
	return fmt.Sprint(all, l.State(), l.Tries())
}

// The numbers that the chapter names.
func TestConstants(t *testing.T) {
	if Most != 4096 || Late != lastTick {
		t.Error(Most, Late)
	}
	for i, state := range states {
		if i != state {
			t.Errorf("state %d is %d", i, state)
		}
	}
}

// Promises 19.1 to 19.4: the chapter's example, and what follows on it.
func TestExample(t *testing.T) {
	l := made(t, console(2, 64, 0, ""))
	stands(t, l, 0, 0, -1)
	does(t, "Start", l.Start(), opens())
	stands(t, l, 2, 0, -1)
	does(t, "Opened", l.Opened(10, false, 0))
	stands(t, l, 1, 0, 12)
	does(t, "Tick", l.Tick(11))
	stands(t, l, 1, 0, 12)
	does(t, "Tick", l.Tick(12), opens())
	stands(t, l, 2, 0, -1)
	does(t, "Opened", l.Opened(12, false, 0))
	stands(t, l, 1, 0, 16)
	does(t, "Tick", l.Tick(20), opens())
	does(t, "Opened", l.Opened(20, true, 0))
	stands(t, l, 4, 0, -1)
	took(t, l, "ls\n", writes("ls\n"))
	does(t, "Stop", l.Stop(), closes())
	stands(t, l, 0, 0, -1)
}

// DOC.md's seventh example: behind 1 to 5 ticks, then 2 to 6, 4 to 8, up to 64 to 68.
func TestLater(t *testing.T) {
	for r := range 10 {
		l := made(t, console(1, 64, 4, ""))
		l.Start()
		l.Opened(1000, true, 9)
		if !l.Lost(1000, r) {
			t.Error("not lost")
		}
		now := 1000
		for i, low := range []int{1, 2, 4, 8, 16, 32, 64, 64, 64} {
			now += low + r%5
			stands(t, l, 1, 0, now)
			tries(t, l, i+1)
			does(t, "Tick", l.Tick(now-1))
			does(t, "Tick", l.Tick(now), opens())
			does(t, "Opened", l.Opened(now, false, r))
		}
		l.Tick(now + 68)
		does(t, "Opened", l.Opened(now+68, true, 0))
		tries(t, l, 0)
		if !l.Lost(now+70, 0) {
			t.Error("not lost")
		}
		stands(t, l, 1, 0, now+71)
	}
}

// Promise 19.1: a new line is off, nothing waits, and its wait is of the console's rule; what else a console has does not matter.
func TestNew(t *testing.T) {
	for _, c := range []api.Console{usual(), console(1, 1, 0, ""), console(3600, 86400, 3600, strings.Repeat("x", 255)), console(5, 5, 7, `\d`), {Base: 1, Cap: 2, Jitter: 3}, {Name: "*", Kind: 9, Lines: -1, Bytes: -1, Gens: -1, Size: -1, Base: 7, Cap: 8, Jitter: 9, Init: `\z`}} {
		l := made(t, c)
		stands(t, l, 0, 0, -1)
		tries(t, l, 0)
		if want := (backoff.Rule{Base: c.Base, Cap: c.Cap, Jitter: c.Jitter}); l.Wait == nil || l.Rule != want || l.Wait.Rule != want {
			t.Errorf("Rule %v; want %v", l.Rule, want)
		}
		for range 2 {
			does(t, "Stop", l.Stop())
			does(t, "Opened", l.Opened(10, true, 0))
			does(t, "Opened", l.Opened(10, false, 0))
			does(t, "Tick", l.Tick(lastTick))
			if l.Lost(10, 0) {
				t.Error("what is off was lost")
			}
			left(t, l, "a")
			left(t, l, "")
			begunNot(t, l, 10, nil, api.ErrState)
			stands(t, l, 0, 0, -1)
			tries(t, l, 0)
		}
		does(t, "Start", l.Start(), opens())
	}
}

// Promise 19.1: what backoff refuses, at each bound of each number, whatever Init is.
func TestNewRule(t *testing.T) {
	far := []int{math.MinInt, -1, 0, 1, 2, 3599, 3600, 3601, 86399, 86400, 86401, 1 << 32, mostTick, math.MaxInt}
	for _, base := range far {
		for _, high := range append(far, base-1, base, base+1) {
			for _, jitter := range far {
				want := api.OK
				if base < 1 || base > 3600 || high < base || high > 86400 || jitter < 0 || jitter > 3600 {
					want = api.ErrRange
				}
				for _, init := range []string{"", `a\z\w12`} {
					if c := console(base, high, jitter, init); want != api.OK {
						refuses(t, c, want)
					} else {
						stands(t, made(t, c), 0, 0, -1)
					}
				}
				if want != api.OK {
					refuses(t, console(base, high, jitter, `\q`), want)
					refuses(t, console(base, high, jitter, strings.Repeat("x", 256)), want)
				}
			}
		}
	}
}

// Promise 19.1: what brk.Read refuses, with its code.
func TestNewInit(t *testing.T) {
	for s, want := range map[string]api.Code{
		`\`: api.ErrForm, `a\q`: api.ErrForm, `\w00`: api.ErrForm, `\w1`: api.ErrForm, `\xFF`: api.ErrForm, "\x00": api.ErrForm, "\n": api.ErrForm, "\x7f": api.ErrForm, "é": api.ErrForm,
		strings.Repeat("x", 256): api.ErrSize, strings.Repeat("\n", 256): api.ErrSize, strings.Repeat(`\d`, 128): api.ErrSize,
		strings.Repeat("x", 254) + "\n": api.ErrForm, strings.Repeat("x", 254) + `\`: api.ErrForm,
	} {
		refuses(t, console(2, 9, 3, s), want)
		refuses(t, console(1, 1, 0, s), want)
		refuses(t, console(0, 1, 0, s), api.ErrRange)
		if _, code := brk.Read(s); code != want {
			t.Errorf("brk.Read(%q): %d", s, code)
		}
	}
	for c := range 256 {
		for _, s := range []string{string([]byte{byte(c)}), `\` + string([]byte{byte(c)})} {
			if _, code := brk.Read(s); code != api.OK {
				refuses(t, console(2, 9, 3, s), code)
			} else {
				made(t, console(2, 9, 3, s))
			}
		}
	}
}

// Promise 19.2: who is off is opening; in all other states nothing is done.
func TestStart(t *testing.T) {
	for _, state := range states {
		l := inState(t, state)
		ahead := see(l)
		if state != api.LineOff {
			does(t, "Start", l.Start())
			same(t, "Start", l, ahead)
			continue
		}
		tries(t, l, 1)
		does(t, "Start", l.Start(), opens())
		stands(t, l, 2, 0, -1)
		tries(t, l, 0)
		does(t, "Start", l.Start())
		stands(t, l, 2, 0, -1)
		does(t, "Opened", l.Opened(10, false, 0))
		stands(t, l, 1, 0, 12)
	}
}

// Promise 19.2: who was neither off nor waited is closed; nothing waits behind it, and failures do not count from there on.
func TestStop(t *testing.T) {
	for _, state := range states {
		l := inState(t, state)
		failures := l.Tries()
		want := outs(closes())
		if state == api.LineOff || state == api.LineWait {
			want = nil
		}
		does(t, "Stop", l.Stop(), want...)
		for range 2 {
			stands(t, l, 0, 0, -1)
			tries(t, l, failures)
			does(t, "Stop", l.Stop())
			left(t, l, "a")
			begunNot(t, l, 200, nil, api.ErrState)
			does(t, "Tick", l.Tick(200))
			does(t, "Opened", l.Opened(200, true, 0))
			if l.Lost(200, 0) {
				t.Error("what is off was lost")
			}
		}
		does(t, "Start", l.Start(), opens())
		tries(t, l, 0)
		stands(t, l, 2, 0, -1)
		does(t, "Opened", l.Opened(200, true, 0), writes("i"))
		stands(t, l, 3, 0, 205)
		does(t, "Tick", l.Tick(205), writes("j"))
		stands(t, l, 4, 0, -1)
	}
}

// Promise 19.2: who was stopped and started again waits as if it had never failed.
func TestStartAgain(t *testing.T) {
	l := made(t, usual())
	for range 3 {
		does(t, "Start", l.Start(), opens())
		for i, next := range []int{12, 14, 18, 19, 19} {
			does(t, "Opened", l.Opened(10, false, 0))
			stands(t, l, 1, 0, next)
			tries(t, l, i+1)
			if i < 4 {
				l.Tick(next)
			}
		}
		does(t, "Stop", l.Stop())
	}
}

// Promise 19.3: whether it could be opened matters to who is opening alone.
func TestOpened(t *testing.T) {
	for _, state := range states {
		for _, ok := range []bool{false, true} {
			l := inState(t, state)
			ahead := see(l)
			got := l.Opened(110, ok, 6)
			switch {
			case state != api.LineOpening:
				does(t, "Opened", got)
				same(t, "Opened", l, ahead)
			case ok:
				does(t, "Opened", got, writes("i"))
				stands(t, l, 3, 0, 115)
				tries(t, l, 0)
			default:
				does(t, "Opened", got)
				stands(t, l, 1, 0, 116)
				tries(t, l, 2)
			}
		}
	}
}

// Promise 19.3: what is waited is what the wait's Fail tells, of any r.
func TestFailed(t *testing.T) {
	for _, c := range []api.Console{usual(), console(1, 1, 0, ""), console(1, 64, 4, ""), console(3600, 86400, 3600, "a"), console(7, 20, 59, `\d`)} {
		for _, r := range []int{math.MinInt, -61, -2, -1, 0, 1, 2, 3, 4, 5, 59, 60, 3600, 3601, 1 << 32, math.MaxInt} {
			l := made(t, c)
			w, _ := backoff.New(backoff.Rule{Base: c.Base, Cap: c.Cap, Jitter: c.Jitter})
			l.Start()
			now := 5
			for i := range 20 {
				want, _ := w.Fail(now, r)
				low, high := w.Bounds(i)
				does(t, "Opened", l.Opened(now, false, r))
				stands(t, l, 1, 0, want)
				tries(t, l, i+1)
				if want < now+low || want > now+high {
					t.Errorf("%v: %d behind %d, not from %d to %d", c, want, now, low, high)
				}
				does(t, "Tick", l.Tick(want-1))
				if now = want; i%2 == 0 {
					now += 3
				}
				does(t, "Tick", l.Tick(now), opens())
				stands(t, l, 2, 0, -1)
			}
		}
	}
}

// Promise 19.3: lost is who was opened, whatever it does; then nothing waits to be written, and what was begun is over.
func TestLost(t *testing.T) {
	for _, state := range states {
		for _, r := range []int{-1, 0, 2, 7} {
			l := inState(t, state)
			ahead := see(l)
			got := l.Lost(110, r)
			if want := state >= api.LineInit; got != want {
				t.Errorf("state %d: Lost %v", state, got)
			}
			if state < api.LineInit {
				same(t, "Lost", l, ahead)
				continue
			}
			next := 112 + (r+4)%4
			stands(t, l, 1, 0, next)
			tries(t, l, 1)
			left(t, l, "a")
			begunNot(t, l, 110, nil, api.ErrState)
			if l.Lost(110, r) {
				t.Error("lost twice")
			}
			does(t, "Opened", l.Opened(110, true, 0))
			does(t, "Tick", l.Tick(next-1))
			stands(t, l, 1, 0, next)
			does(t, "Tick", l.Tick(next), opens())
			does(t, "Opened", l.Opened(next, true, 0), writes("i"))
			does(t, "Tick", l.Tick(next+5), writes("j"))
			stands(t, l, 4, 0, -1)
			tries(t, l, 0)
		}
	}
}

// Promise 19.3: a tick ahead of Next, or where there is none, does nothing; then it does what is wanted.
func TestTick(t *testing.T) {
	want := [][]api.Out{nil, outs(opens()), nil, outs(writes("j"), writes("held")), nil, outs(writes("k"), pulses(), writes("held"))}
	then := []int{0, 2, 2, 4, 4, 4}
	for _, state := range states {
		for _, late := range []int{0, 1, 2, 1000, lastTick - 200} {
			l := inState(t, state)
			next, ok := l.Next()
			if !ok {
				next = 105
			}
			ahead := see(l)
			for now := 100; now < next; now++ {
				if state != api.LineBreak || now >= 105 {
					does(t, "Tick", l.Tick(now))
					same(t, "Tick", l, ahead)
				}
			}
			failures := l.Tries()
			does(t, "Tick", l.Tick(next+late), want[state]...)
			stands(t, l, then[state], 0, -1)
			tries(t, l, failures)
			does(t, "Tick", l.Tick(next+late))
			stands(t, l, then[state], 0, -1)
		}
	}
}

// Promise 19.1: at other times than from 0 to Late nothing befalls a line; and 19.5: that is ErrArg of a break.
func TestTimes(t *testing.T) {
	for _, state := range states {
		for _, now := range noTimes {
			l := inState(t, state)
			ahead := see(l)
			does(t, "Opened", l.Opened(now, true, 1))
			does(t, "Opened", l.Opened(now, false, 1))
			does(t, "Tick", l.Tick(now))
			if l.Lost(now, 1) {
				t.Errorf("lost at %d", now)
			}
			code := api.ErrState
			if state == api.LineUp {
				code = api.ErrArg
			}
			begunNot(t, l, now, []api.Op{sends("a")}, code)
			begunNot(t, l, now, []api.Op{waits(math.MaxInt)}, code)
			same(t, "all", l, ahead)
			if got, want := end(l, 110), end(inState(t, state), 110); got != want {
				t.Errorf("state %d, %d: %s; want %s", state, now, got, want)
			}
		}
	}
}

// Promise 19.1: from 0 on, and at Late, all befalls a line.
func TestFirstAndLastTimes(t *testing.T) {
	for _, now := range []int{0, 1, lastTick - 1, lastTick} {
		l := made(t, usual())
		l.Start()
		does(t, "Opened", l.Opened(now, false, 3))
		stands(t, l, 1, 0, now+5)
		l.Stop()
		l.Start()
		does(t, "Opened", l.Opened(now, true, 0), writes("i"))
		stands(t, l, 3, 0, now+5)
		if !l.Lost(now, 2) {
			t.Errorf("not lost at %d", now)
		}
		stands(t, l, 1, 0, now+4)
		does(t, "Tick", l.Tick(now))
		stands(t, l, 1, 0, now+4)

		l = made(t, console(2, 9, 3, ""))
		l.Start()
		does(t, "Opened", l.Opened(now, true, 0))
		begins(t, l, now, []api.Op{breaks(), waits(1)}, pulses())
		stands(t, l, 5, 0, now+1)
		if !l.Lost(now, 0) {
			t.Errorf("not lost at %d", now)
		}
		stands(t, l, 1, 0, now+2)
	}
	// A tick at Late is one, whatever it does; a tick later is none, though it is waited until then.
	for _, ahead := range []int{2, 3} {
		l := made(t, usual())
		l.Start()
		l.Opened(lastTick-ahead, false, 0)
		does(t, "Tick", l.Tick(lastTick), opens())
		l.Opened(lastTick, false, 0)
		stands(t, l, 1, 0, lastTick+4)
		does(t, "Tick", l.Tick(lastTick+4))
		stands(t, l, 1, 0, lastTick+4)

		l = made(t, usual())
		l.Start()
		l.Opened(lastTick-5, true, 0)
		took(t, l, "x")
		does(t, "Tick", l.Tick(lastTick), writes("j"), writes("x"))
		l.Stop()
		l.Start()
		does(t, "Opened", l.Opened(lastTick, true, 0), writes("i"))
		does(t, "Tick", l.Tick(lastTick+5))
		stands(t, l, 3, 0, lastTick+5)
	}
	l := made(t, usual())
	l.Start()
	l.Opened(0, false, 0)
	does(t, "Tick", l.Tick(0))
	does(t, "Tick", l.Tick(1))
	does(t, "Tick", l.Tick(2), opens())
}

// Promise 19.3: the longest that Init can wait has room at Late.
func TestLongInit(t *testing.T) {
	l := made(t, console(2, 9, 3, strings.Repeat(`\w99`, 63)+"abc"))
	l.Start()
	does(t, "Opened", l.Opened(lastTick, true, 0))
	stands(t, l, 3, 0, lastTick+63*99)
}

// Promise 19.3: steps are told when they are due: each send in an OutWrite of its own; and then what waited, in one.
func TestSteps(t *testing.T) {
	for _, x := range []struct {
		init  string
		now   int
		first []api.Out
		state int
		next  int
	}{
		{"", 0, nil, 4, -1}, {"a", 7, outs(writes("a")), 4, -1}, {`\z`, 7, outs(pulses()), 4, -1}, {`a\zb\z\z`, 7, outs(writes("a"), pulses(), writes("b"), pulses(), pulses()), 4, -1},
		{`\x00\xff\\`, 7, outs(writes("\x00\xff\\")), 4, -1}, {`\d`, 7, nil, 3, 8}, {`a\d`, 7, outs(writes("a")), 3, 8}, {`\w20a\z\d`, 7, nil, 3, 27}, {`\z\w20a`, 7, outs(pulses()), 3, 27},
		{strings.Repeat("x", 255), 7, outs(writes(strings.Repeat("x", 255))), 4, -1},
	} {
		l := made(t, console(2, 9, 3, x.init))
		l.Start()
		does(t, x.init, l.Opened(x.now, true, 0), x.first...)
		stands(t, l, x.state, 0, x.next)
	}
	l := made(t, console(2, 9, 3, `a\d\zb\w02c\z\w03`))
	l.Start()
	does(t, "Opened", l.Opened(50, true, 0), writes("a"))
	stands(t, l, 3, 0, 51)
	took(t, l, "1")
	does(t, "Tick", l.Tick(51), pulses(), writes("b"))
	stands(t, l, 3, 1, 53)
	took(t, l, "23")
	does(t, "Tick", l.Tick(52))
	does(t, "Tick", l.Tick(55), writes("c"), pulses())
	stands(t, l, 3, 3, 56)
	took(t, l, "")
	took(t, l, "4")
	does(t, "Tick", l.Tick(55))
	does(t, "Tick", l.Tick(56), writes("1234"))
	stands(t, l, 4, 0, -1)
	took(t, l, "5", writes("5"))

	l.Stop()
	l.Start()
	l.Opened(60, true, 0)
	took(t, l, "678")
	does(t, "Tick", l.Tick(70), pulses(), writes("b"), writes("c"), pulses(), writes("678"))
	stands(t, l, 4, 0, -1)
}

// Promise 19.4: in each state.
func TestSend(t *testing.T) {
	for _, s := range []string{"a", "", "\x00\xff\n", strings.Repeat("long", 1023), strings.Repeat("long", 1024), strings.Repeat("long", 1<<18)} {
		for _, state := range states {
			l := inState(t, state)
			ahead := see(l)
			switch {
			case state == api.LineUp && s == "":
				took(t, l, s)
			case state == api.LineUp:
				took(t, l, s, writes(s))
				took(t, l, s+"b", writes(s+"b"))
			case state < api.LineInit || len(s) > 4092:
				left(t, l, s)
			default:
				took(t, l, s)
				stands(t, l, state, 4+len(s), ahead.next)
				want := map[int][]api.Out{3: outs(writes("j")), 5: outs(writes("k"), pulses())}[state]
				does(t, "Tick", l.Tick(ahead.next), append(want, writes("held"+s))...)
				stands(t, l, 4, 0, -1)
				continue
			}
			same(t, "Send", l, ahead)
		}
	}
}

// Promise 19.4: as many bytes as may wait, and one more: all or none.
func TestSendMost(t *testing.T) {
	for _, n := range []int{0, 1, 2, 100, 4095, 4096} {
		for _, ops := range [][]api.Op{nil, {waits(1)}} {
			l := made(t, console(2, 9, 3, `\d`))
			l.Start()
			l.Opened(10, true, 0)
			if ops != nil {
				l.Tick(11)
				begins(t, l, 10, ops)
			}
			state := l.State()
			all := strings.Repeat("x", n)
			took(t, l, all)
			stands(t, l, state, n, 11)
			for _, more := range []int{4097 - n, 4098 - n, 4097, 8192, 1 << 20} {
				left(t, l, strings.Repeat("y", more))
				stands(t, l, state, n, 11)
			}
			rest := strings.Repeat("z", 4096-n)
			took(t, l, rest)
			stands(t, l, state, 4096, 11)
			left(t, l, "a")
			took(t, l, "")
			stands(t, l, state, 4096, 11)
			does(t, "Tick", l.Tick(11), writes(all+rest))
			stands(t, l, 4, 0, -1)
			took(t, l, strings.Repeat("y", 5000), writes(strings.Repeat("y", 5000)))
			begins(t, l, 12, []api.Op{waits(1)})
			took(t, l, strings.Repeat("y", 4096))
			left(t, l, "a")
		}
	}
}

// Promise 19.5: which code is told, in which order; nothing is done then.
func TestBreakCodes(t *testing.T) {
	wrong := []api.Op{{}, {Kind: 1}, {Kind: 1, S: "a", N: 1}, {Kind: 2}, {Kind: 2, N: -1}, {Kind: 2, S: "a", N: 1}, {Kind: 3, S: "a"}, {Kind: 3, N: 1}, {Kind: 4}, {Kind: -1, S: "a"}}
	for _, state := range states {
		l := inState(t, state)
		ahead := see(l)
		tell := func(code api.Code) api.Code {
			if state != api.LineUp {
				return api.ErrState
			}
			return code
		}
		for _, x := range wrong {
			for _, ops := range [][]api.Op{{x}, {sends("a"), waits(3), x}, {x, waits(mostTick)}} {
				begunNot(t, l, 110, ops, tell(api.ErrArg))
				begunNot(t, l, -1, ops, tell(api.ErrArg))
			}
			begunNot(t, l, 110, []api.Op{waits(mostTick), x}, tell(api.ErrRange))
			begunNot(t, l, -1, []api.Op{waits(mostTick), x}, tell(api.ErrArg))
			begunNot(t, l, lastTick+1, []api.Op{waits(mostTick)}, tell(api.ErrArg))
		}
		for _, ops := range [][]api.Op{{waits(mostTick - 109)}, {sends("a"), waits(mostTick - 110), breaks(), waits(1)}, {waits(math.MaxInt), waits(math.MaxInt)}} {
			begunNot(t, l, 110, ops, tell(api.ErrRange))
		}
		if state != api.LineUp {
			begunNot(t, l, 110, nil, api.ErrState)
			begunNot(t, l, 110, []api.Op{breaks()}, api.ErrState)
		}
		same(t, "Break", l, ahead)
	}
	l := inState(t, api.LineUp)
	begins(t, l, 110, []api.Op{waits(mostTick - 110)})
	stands(t, l, 5, 0, mostTick)
	does(t, "Tick", l.Tick(lastTick))
	stands(t, l, 5, 0, mostTick)
	l = inState(t, api.LineUp)
	begunNot(t, l, lastTick, []api.Op{waits(lastTick), waits(1)}, api.ErrRange)
	begins(t, l, lastTick, []api.Op{sends("a"), waits(lastTick)}, writes("a"))
	stands(t, l, 5, 0, mostTick)
}

// Promise 19.5: steps that are due at once are told at once; behind the last one the line is up again.
func TestBreak(t *testing.T) {
	for _, x := range []struct {
		ops   []api.Op
		first []api.Out
		next  int
		then  []api.Out
	}{
		{nil, nil, -1, nil}, {[]api.Op{}, nil, -1, nil}, {[]api.Op{breaks()}, outs(pulses()), -1, nil}, {[]api.Op{sends("a")}, outs(writes("a")), -1, nil},
		{[]api.Op{sends("a"), sends("b"), breaks(), breaks()}, outs(writes("a"), writes("b"), pulses(), pulses()), -1, nil},
		{[]api.Op{waits(1)}, nil, 111, nil}, {[]api.Op{waits(1), waits(4)}, nil, 115, nil}, {[]api.Op{waits(3), sends("a"), sends("b")}, nil, 113, outs(writes("a"), writes("b"))},
		{[]api.Op{sends("a"), waits(3), breaks()}, outs(writes("a")), 113, outs(pulses())}, {[]api.Op{breaks(), waits(9)}, outs(pulses()), 119, nil},
	} {
		for _, held := range []string{"", "x", "xyz"} {
			l := inState(t, api.LineUp)
			begins(t, l, 110, x.ops, x.first...)
			if x.next < 0 {
				stands(t, l, 4, 0, -1)
				took(t, l, "b", writes("b"))
				continue
			}
			stands(t, l, 5, 0, x.next)
			took(t, l, held)
			begunNot(t, l, 110, x.ops, api.ErrState)
			does(t, "Tick", l.Tick(x.next-1))
			want := slices.Clone(x.then)
			if held != "" {
				want = append(want, writes(held))
			}
			does(t, "Tick", l.Tick(x.next), want...)
			stands(t, l, 4, 0, -1)
			tries(t, l, 0)
			took(t, l, "b", writes("b"))
			begins(t, l, x.next, x.ops, x.first...)
		}
	}
}

// Between brackets: a line that nobody made, also with a wait, is off, and nothing befalls it.
func TestNobody(t *testing.T) {
	var none *Line
	wait, _ := backoff.New(backoff.Rule{Base: 2, Cap: 9, Jitter: 3})
	for _, l := range []*Line{none, {}, new(Line), {Wait: wait}, {Wait: new(backoff.Wait)}} {
		for range 2 {
			stands(t, l, 0, 0, -1)
			does(t, "Start", l.Start())
			for _, now := range append(noTimes, 0, 1, 100, lastTick) {
				for _, r := range []int{math.MinInt, 0, 5} {
					does(t, "Opened", l.Opened(now, true, r))
					does(t, "Opened", l.Opened(now, false, r))
					if l.Lost(now, r) {
						t.Error("what nobody made was lost")
					}
				}
				does(t, "Tick", l.Tick(now))
				begunNot(t, l, now, nil, api.ErrNil)
				begunNot(t, l, now, []api.Op{breaks()}, api.ErrNil)
				begunNot(t, l, now, []api.Op{{}, waits(mostTick)}, api.ErrNil)
			}
			left(t, l, "")
			left(t, l, "a")
			does(t, "Stop", l.Stop())
			stands(t, l, 0, 0, -1)
		}
	}
	if wait.Tries() != 0 {
		t.Errorf("%d failures", wait.Tries())
	}
}

// Promise 19.1, and 'Ways': the wait's methods are the line's: what is noted by them counts, too.
func TestOwn(t *testing.T) {
	l := made(t, usual())
	l.Start()
	for i, until := range []int{2, 4, 8, 9} {
		if at, code := l.Fail(0, 0); at != until || code != api.OK {
			t.Errorf("Fail: %d, %d", at, code)
		}
		tries(t, l, i+1)
		stands(t, l, 2, 0, -1)
	}
	l.Good()
	tries(t, l, 0)
	l.Fail(0, 0)
	does(t, "Opened", l.Opened(10, false, 1))
	stands(t, l, 1, 0, 15)
	if low, high := l.Bounds(l.Tries()); low != 8 || high != 11 {
		t.Errorf("Bounds: %d, %d", low, high)
	}
	l.Good()
	stands(t, l, 1, 0, 15)
	does(t, "Tick", l.Tick(15), opens())
	l.Fail(0, 0)
	does(t, "Opened", l.Opened(15, true, 1), writes("i"))
	tries(t, l, 0)
	l.Fail(0, 0)
	l.Tick(20)
	tries(t, l, 1)
	if !l.Lost(30, 0) {
		t.Error("not lost")
	}
	stands(t, l, 1, 0, 34)
}

// Promise 19.3: until api.MaxTick is waited, if Fail has a code: it can have one if somebody wrote to the line's wait.
func TestUntilTheEnd(t *testing.T) {
	for _, spoil := range []func(l *Line){func(l *Line) { l.Cap = 0 }, func(l *Line) { l.Wait.Jitter = -1 }, func(l *Line) { l.Wait = nil }, func(l *Line) { l.Wait = &backoff.Wait{} }} {
		l := inState(t, api.LineOpening)
		spoil(l)
		does(t, "Opened", l.Opened(110, false, 3))
		stands(t, l, 1, 0, mostTick)
		does(t, "Tick", l.Tick(lastTick))
		does(t, "Tick", l.Tick(mostTick))
		stands(t, l, 1, 0, mostTick)
		does(t, "Stop", l.Stop())
		does(t, "Start", l.Start(), opens())
		for _, state := range []int{api.LineInit, api.LineUp, api.LineBreak} {
			l = inState(t, state)
			spoil(l)
			if !l.Lost(110, 0) {
				t.Error("not lost")
			}
			stands(t, l, 1, 0, mostTick)
		}
		does(t, "Stop", l.Stop())
		does(t, "Start", l.Start(), opens())
		does(t, "Opened", l.Opened(120, true, 0), writes("i"))
		does(t, "Tick", l.Tick(125), writes("j"))
		stands(t, l, 4, 0, -1)
	}
}

// plain is a line as the chapter's words say it, with numbers of its own for its wait and its steps.
type plain struct {
	c               api.Console
	state, failures int
	until           int
	begun           []due // What was not told yet.
	ends            int
	held            string
}

// due is a step, and when it is due.
type due struct {
	at int
	x  api.Op
}

// next is what Next tells, or -1.
func (p *plain) next() int {
	switch {
	case p.state == 1:
		return p.until
	case p.state != 3 && p.state != 5:
		return -1
	case len(p.begun) > 0:
		return p.begun[0].at
	}
	return p.ends
}

func (p *plain) start() []api.Out {
	if p.state != 0 {
		return nil
	}
	p.failures, p.state = 0, 2
	return outs(opens())
}

func (p *plain) stop() []api.Out {
	was := p.state
	p.state, p.held = 0, ""
	if was > 1 {
		return outs(closes())
	}
	return nil
}

func (p *plain) fail(now, r int) {
	ticks := p.c.Base
	for range p.failures {
		ticks = min(2*ticks, p.c.Cap)
	}
	span := p.c.Jitter + 1
	p.until = now + ticks + (r%span+span)%span
	p.failures++
	p.state, p.held = 1, ""
}

func inTime(now int) bool { return now >= 0 && now <= lastTick }

func (p *plain) opened(now int, ok bool, r int) []api.Out {
	if p.state != 2 || !inTime(now) {
		return nil
	}
	if !ok {
		p.fail(now, r)
		return nil
	}
	p.failures = 0
	ops, _ := brk.Read(p.c.Init)
	return p.begin(3, now, ops)
}

func (p *plain) lost(now, r int) bool {
	if p.state < 3 || !inTime(now) {
		return false
	}
	p.fail(now, r)
	return true
}

func (p *plain) begin(state, now int, ops []api.Op) []api.Out {
	p.state, p.ends, p.begun = state, now, nil
	for _, x := range ops {
		if x.Kind == 2 {
			p.ends += x.N
			continue
		}
		p.begun = append(p.begun, due{at: p.ends, x: x})
	}
	return p.goOn(now)
}

func (p *plain) goOn(now int) []api.Out {
	var l []api.Out
	for ; len(p.begun) > 0 && p.begun[0].at <= now; p.begun = p.begun[1:] {
		if x := p.begun[0].x; x.Kind == 1 {
			l = append(l, writes(x.S))
		} else {
			l = append(l, pulses())
		}
	}
	if now < p.ends {
		return l
	}
	if p.held != "" {
		l = append(l, writes(p.held))
	}
	p.state, p.held = 4, ""
	return l
}

func (p *plain) tick(now int) []api.Out {
	next := p.next()
	if next < 0 || next > now || !inTime(now) {
		return nil
	}
	if p.state == 1 {
		p.state = 2
		return outs(opens())
	}
	return p.goOn(now)
}

func (p *plain) send(s string) ([]api.Out, bool) {
	switch {
	case p.state == 4 && s == "":
		return nil, true
	case p.state == 4:
		return outs(writes(s)), true
	case p.state < 3 || len(p.held)+len(s) > 4096:
		return nil, false
	}
	p.held += s
	return nil, true
}

func (p *plain) brk(now int, ops []api.Op) ([]api.Out, api.Code) {
	if p.state != 4 {
		return nil, api.ErrState
	}
	if !inTime(now) {
		return nil, api.ErrArg
	}
	sum := now
	for _, x := range ops {
		if x != sends(x.S) && x != waits(x.N) && x != breaks() || x == sends("") || x == waits(x.N) && x.N < 1 {
			return nil, api.ErrArg
		}
		if x.N > mostTick-sum {
			return nil, api.ErrRange
		}
		sum += x.N
	}
	return p.begin(5, now, ops), api.OK
}

// call is something that befalls a line, or is asked of it.
type call struct {
	kind, now, r int
	ok           bool
	s            string
	ops          []api.Op
}

// The kinds of calls.
const (
	callStart = iota
	callStop
	callOpened
	callLost
	callTick
	callSend
	callBreak
	kinds
)

// both does a call to a line and to what it is held against: what each of them tells.
func both(l *Line, p *plain, x call) (got, want string) {
	var a, b []api.Out
	more, other := "", ""
	switch x.kind {
	case callStart:
		a, b = l.Start(), p.start()
	case callStop:
		a, b = l.Stop(), p.stop()
	case callOpened:
		a, b = l.Opened(x.now, x.ok, x.r), p.opened(x.now, x.ok, x.r)
	case callLost:
		more, other = fmt.Sprint(l.Lost(x.now, x.r)), fmt.Sprint(p.lost(x.now, x.r))
	case callTick:
		a, b = l.Tick(x.now), p.tick(x.now)
	case callSend:
		var ok, may bool
		a, ok = l.Send(x.s)
		b, may = p.send(x.s)
		more, other = fmt.Sprint(ok), fmt.Sprint(may)
	case callBreak:
		var code, tells api.Code
		a, code = l.Break(x.now, x.ops)
		b, tells = p.brk(x.now, x.ops)
		more, other = fmt.Sprint(code), fmt.Sprint(tells)
	}
	next, ok := l.Next()
	if !ok {
		// What is held against it has -1 where there is nothing.
		next--
	}
	got = fmt.Sprintf("%v %s, state %d, held %d, next %d, tries %d", a, more, l.State(), l.Held(), next, l.Tries())
	want = fmt.Sprintf("%v %s, state %d, held %d, next %d, tries %d", b, other, p.state, len(p.held), p.next(), p.failures)
	return got, want
}

// asPlainly: a line of a console, to which all of these are done, tells what it is to tell.
func asPlainly(t *testing.T, c api.Console, calls []call) {
	t.Helper()
	l, p := made(t, c), &plain{c: c}
	for i, x := range calls {
		if got, want := both(l, p, x); got != want {
			t.Fatalf("%v: %.2000q: %.1000s; want %.1000s", c, fmt.Sprint(calls[:i+1]), got, want)
		}
	}
}

// Promises 19.1 to 19.5: all short rows of some calls, of which each tells of a time later by a tick, or by none.
func TestAll(t *testing.T) {
	some := []call{
		{kind: callStart}, {kind: callStop}, {kind: callOpened, ok: true, r: 1}, {kind: callOpened, r: 2}, {kind: callLost}, {kind: callTick}, {kind: callTick, now: 1}, {kind: callTick, now: 2},
		{kind: callSend, s: "x"}, {kind: callBreak, ops: []api.Op{breaks()}}, {kind: callBreak, ops: []api.Op{sends("b"), waits(1), breaks()}},
	}
	for _, c := range []api.Console{console(1, 2, 1, ""), console(1, 3, 0, `i\dj`)} {
		rows := [][]call{{{kind: callStart}}}
		for range 5 {
			var longer [][]call
			for _, row := range rows {
				for _, x := range some {
					x.now += row[len(row)-1].now
					longer = append(longer, append(slices.Clip(row), x))
				}
			}
			rows = longer
		}
		for _, row := range rows {
			asPlainly(t, c, row)
		}
	}
}

// chooser is a source of calls by chance.
type chooser struct {
	*rand.Rand
	now int
}

func chance(seed int) *chooser { return &chooser{Rand: rand.New(rand.NewSource(int64(seed)))} }

// text is that of a sequence.
func (x *chooser) text() string {
	s := ""
	for range x.Intn(6) {
		s += []string{"a", "bc", `\d`, `\w02`, `\w05`, `\z`, `\x00`}[x.Intn(7)]
	}
	return s
}

// ops is steps, now and then one that may be none.
func (x *chooser) ops() []api.Op {
	var l []api.Op
	for range x.Intn(5) {
		switch n := x.Intn(20); {
		case n < 6:
			l = append(l, sends(strings.Repeat("s", 1+n)))
		case n < 13:
			l = append(l, waits(n-5))
		case n < 18:
			l = append(l, breaks())
		case n == 18:
			l = append(l, waits(mostTick-x.Intn(100)))
		default:
			l = append(l, api.Op{Kind: x.Intn(5), N: x.Intn(3) - 1})
		}
	}
	return l
}

// call is a call, at a time that is not below the one ahead, now and then at none.
func (x *chooser) call() call {
	if x.now += x.Intn(4); x.Intn(50) == 0 {
		x.now += x.Intn(200)
	}
	x.now = min(x.now, lastTick)
	now := x.now
	if x.Intn(20) == 0 {
		now = noTimes[x.Intn(len(noTimes))]
	}
	kind := []int{callTick, callTick, callTick, callOpened, callOpened, callOpened, callSend, callSend, callBreak, callStart, callLost, callStop}[x.Intn(12)]
	// What takes a line down befalls it more seldom, so that it gets far.
	if (kind == callStop || kind == callLost) && x.Intn(4) > 0 {
		kind = callTick
	}
	long := []int{0, 1, 1, 2, 3, 7, 1000, 4095, 4096, 4097}[x.Intn(10)]
	return call{kind: kind, now: now, r: x.Intn(100) - 20, ok: x.Intn(3) > 0, s: strings.Repeat(string(rune('A'+x.Intn(26))), long), ops: x.ops()}
}

// Promises 19.1 to 19.5: rows of calls by chance.
func TestChance(t *testing.T) {
	reached := [6]int{}
	for seed := range 6000 {
		x := chance(seed)
		base := 1 + x.Intn(4)
		c := console(base, base+x.Intn(20), x.Intn(5), x.text())
		if seed%5 == 0 {
			x.now = lastTick - x.Intn(120)
		}
		l, p := made(t, c), &plain{c: c}
		var row []call
		for range 60 {
			row = append(row, x.call())
			if got, want := both(l, p, row[len(row)-1]); got != want {
				t.Fatalf("%v: %.2000q: %.1000s; want %.1000s", c, fmt.Sprint(row), got, want)
			}
			reached[l.State()]++
		}
	}
	for state, n := range reached {
		if n < 5000 {
			t.Errorf("state %d was reached %d times", state, n)
		}
	}
}

// Promise 19.6: a line that can be opened comes up, when all that its Init waits is over; and what is taken is written once, in order, and whole.
func TestComesUp(t *testing.T) {
	for seed := range 3000 {
		x := chance(seed)
		c := console(1+x.Intn(3), 9, x.Intn(4), x.text())
		ops, _ := brk.Read(c.Init)
		l := made(t, c)
		l.Start()
		now, taken, sent := x.Intn(100), "", ""
		do := func(l []api.Out) {
			for _, o := range l {
				if o.Kind == api.OutWrite {
					sent += o.S
				}
			}
		}
		for range x.Intn(5) {
			l.Opened(now, false, x.Intn(9))
			next, _ := l.Next()
			if now = next; len(l.Tick(now)) != 1 {
				t.Fatalf("%v: not opened at %d", c, now)
			}
		}
		opened := now
		do(l.Opened(now, true, 0))
		// What is sent first has no letters that are typed here, so that both can be told apart.
		for i := 0; l.State() == api.LineInit || i < 20; i++ {
			if s := strings.Repeat(string(rune('A'+i%26)), x.Intn(3)); x.Intn(2) == 0 {
				got, ok := l.Send(s)
				if do(got); ok {
					taken += s
				}
			}
			if l.State() == api.LineUp && x.Intn(5) == 0 {
				got, _ := l.Break(now, []api.Op{breaks(), waits(1 + x.Intn(3)), breaks()})
				do(got)
			}
			now++
			state := l.State()
			do(l.Tick(now))
			if state == api.LineInit && (l.State() == api.LineUp) != (now >= opened+brk.Cost(ops)) {
				t.Fatalf("%v: opened at %d, state %d at %d", c, opened, l.State(), now)
			}
		}
		do(l.Tick(now + 3))
		typed := strings.Map(func(r rune) rune {
			if r >= 'A' && r <= 'Z' {
				return r
			}
			return -1
		}, sent)
		if l.State() != api.LineUp || l.Held() != 0 || typed != taken || strings.Count(sent, "a") != strings.Count(c.Init, "a") {
			t.Fatalf("%v: state %d; written %q, taken %q", c, l.State(), sent, taken)
		}
	}
}

// Promise P5: with ticks at Next alone a line comes up again and again, however often it is lost.
func TestAgain(t *testing.T) {
	l := made(t, usual())
	l.Start()
	now := 0
	for i := range 100000 {
		does(t, "Opened", l.Opened(now, true, 0), writes("i"))
		does(t, "Tick", l.Tick(now+5), writes("j"))
		if !l.Lost(now+7, i) {
			t.Fatal("not lost")
		}
		stands(t, l, 1, 0, now+9+i%4)
		now += 9 + i%4
		does(t, "Tick", l.Tick(now), opens())
	}
}

// Promise P0 and rule R7: many bytes one by one, and many steps, end soon.
func TestMany(t *testing.T) {
	l := made(t, console(2, 9, 3, `\d`))
	l.Start()
	l.Opened(0, true, 0)
	all := ""
	for i := range 1 << 20 {
		s := string([]byte{byte(i)})
		if _, ok := l.Send(s); ok != (i < 4096) {
			t.Fatalf("byte %d: %v", i, ok)
		}
		if i < 4096 {
			all += s
		}
	}
	does(t, "Tick", l.Tick(1), writes(all))
	ops := slices.Repeat([]api.Op{sends("a"), waits(1), breaks()}, 1<<18)
	got, code := l.Break(1, ops)
	for now := 2; now <= 1<<18; now++ {
		got = append(got, l.Tick(now)...)
	}
	if code != api.OK || len(got) != 1<<19-1 {
		t.Errorf("%d things, %d", len(got), code)
	}
	stands(t, l, 5, 0, 1<<18+1)
	does(t, "Tick", l.Tick(1<<18+1), pulses())
	stands(t, l, 4, 0, -1)
}

// Rule R3: what is handed in is neither changed nor kept, what lies behind its length does not matter, and answers are nobody else's.
func TestKept(t *testing.T) {
	bad := api.Op{Kind: 9, S: "\n", N: -7}
	ops := []api.Op{sends("a"), waits(3), breaks(), sends("b")}
	longer := append(slices.Clone(ops), bad, waits(mostTick), bad)
	whole := slices.Clone(longer)
	l, other := inState(t, api.LineUp), inState(t, api.LineUp)

	begins(t, other, 110, longer[:len(ops)], writes("a"))
	got, code := l.Break(110, longer[:len(ops)])
	if code != api.OK || !slices.Equal(longer, whole) {
		t.Errorf("Break: %d; %v is %v", code, whole, longer)
	}
	for i := range longer {
		longer[i] = bad
	}
	clear(got[:cap(got)])
	took(t, l, "x")
	took(t, other, "yy")
	got = l.Tick(113)
	does(t, "Tick", got, pulses(), writes("b"), writes("x"))
	clear(got[:cap(got)])
	does(t, "Tick", other.Tick(113), pulses(), writes("b"), writes("yy"))
	for i := range longer {
		if longer[i] != bad {
			t.Errorf("what was handed in was written to: %v", longer)
		}
	}
	// What Init tells is told anew each time, whatever was done to what was answered.
	for range 3 {
		l.Stop()
		clear(l.Start())
		got = l.Opened(200, true, 0)
		does(t, "Opened", got, writes("i"))
		clear(got[:cap(got)])
		does(t, "Tick", l.Tick(205), writes("j"))
	}
}

// Lines do not come into each other, though they are of one console.
func TestAlone(t *testing.T) {
	a, b := made(t, usual()), made(t, usual())
	a.Start()
	stands(t, b, 0, 0, -1)
	a.Opened(10, false, 0)
	b.Start()
	stands(t, b, 2, 0, -1)
	tries(t, b, 0)
	b.Opened(10, true, 0)
	took(t, b, "x")
	stands(t, a, 1, 0, 12)
	tries(t, a, 1)
	a.Tick(12)
	does(t, "Opened", a.Opened(12, true, 0), writes("i"))
	does(t, "Tick", a.Tick(17), writes("j"))
	stands(t, b, 3, 1, 15)
	does(t, "Tick", b.Tick(17), writes("j"), writes("x"))
}

// Promises 19.1 to 19.5, of calls that come as they like: each byte is one, and tells how many ticks it is later.
func FuzzLine(f *testing.F) {
	f.Add("\x00\x0a\x04\x0c", `i\dj`, 2, 9, 3, 10)
	f.Add("\x00\x02\x05\x09\x06\x1c\x01", "", 1, 1, 0, lastTick-3)
	f.Add("\x00\x0a\x06\x05\x26\x0c\x03\x24", `\z\w02`, 3600, 86400, 3600, 0)
	f.Fuzz(func(t *testing.T, s, init string, base, high, jitter, now int) {
		c := console(base, high, jitter, init)
		if _, code := New(c); code != api.OK || len(s) > 200 {
			return
		}
		if !inTime(now) {
			now = 0
		}
		var calls []call
		for i, n := range []byte(s) {
			// The kind, whether it went well, and how much later it is.
			x := call{kind: int(n&7) % kinds, ok: n&8 != 0, r: int(n) * (i - 5), s: s[:i]}
			now = min(now+int(n>>4), lastTick)
			x.now = now
			x.ops, _ = brk.Read(init)
			if x.ok {
				x.ops = append(x.ops, waits(i), sends(s[i:]))
			}
			calls = append(calls, x)
		}
		asPlainly(t, c, calls)
	})
}

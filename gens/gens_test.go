package gens

import (
	"errors"
	"fmt"
	"maps"
	"math"
	"math/rand"
	"slices"
	"strings"
	"testing"

	"wheelhouse/api"
	"wheelhouse/fault"
	"wheelhouse/store"
)

// counts: how many generations there are to be, with how many that comes to.
var counts = map[int]int{
	math.MinInt: 1, math.MinInt + 1: 1, -1 << 32: 1, -257: 1, -17: 1, -16: 1, -15: 1, -2: 1, -1: 1, 0: 1,
	1: 1, 2: 2, 3: 3, 4: 4, 5: 5, 6: 6, 7: 7, 8: 8, 9: 9, 10: 10, 11: 11, 12: 12, 13: 13, 14: 14, 15: 15, 16: 16,
	17: 16, 18: 16, 32: 16, 33: 16, 100: 16, 255: 16, 256: 16, 257: 16, 1<<16 + 2: 16, 1<<32 + 1: 16, 1<<32 + 3: 16, 1 << 62: 16, math.MaxInt: 16,
}

// near are names that look like generations of a, and are none of its first sixteen ones.
var near = []string{"a.", "a.0", "a.00", "a.01", "a.-1", "a.+1", "a.1.", "a.1.1", "a1", "a-1", "a.x", "a.16", "a.17", "a.100", "aa", "aa.1", "A", "A.1", "b", "b.1", ".1", ".a", "1", "1.a", "a..1", "a,1"}

// bases are what a log's name may be, whether files may be named so or not.
var bases = []string{
	"a", "b", "a.1", "a.0", ".", "..", "1", "-", "~", "!", `\`, "%s%d", "web1.log", "",
	"a/b", "/", "a ", " a", "a\n", "\x00", "\x7f", "\x80", "\xff", "\u00e9", "a\tb",
	strings.Repeat("l", 60), strings.Repeat("l", 61), strings.Repeat("l", 62), strings.Repeat("l", 63), strings.Repeat("l", 64), strings.Repeat("l", 65), strings.Repeat("l", 1000),
}

// kept is a file: its bytes, and how many of them are sure.
type kept struct {
	bytes string
	sure  int
}

// files are files by their names.
type files map[string]kept

// disk is a store with these files.
func disk(t *testing.T, l files) *store.Store {
	t.Helper()
	s, err := store.New(store.Most)
	if err != nil {
		t.Fatal(err)
	}
	for name, k := range l {
		did(t, s.Append(name, k.bytes[:k.sure]))
		did(t, s.Sync(name))
		did(t, s.Append(name, k.bytes[k.sure:]))
	}
	return s
}

// did: nothing was wrong.
func did(t *testing.T, err error) {
	t.Helper()
	if err != nil {
		t.Fatal(err)
	}
}

// told: an error is the store's own, of a code; nothing is said around it.
func told(t *testing.T, err error, c api.Code) {
	t.Helper()
	if c == api.OK {
		if err != nil {
			t.Fatalf("%v, not nil", err)
		}
		return
	}
	if err == nil {
		t.Fatalf("nil, not %s", fault.Word(c))
	}
	var f *fault.Fault
	if fault.Of(err) != c || fault.Line(err) != 0 || err.Error() != fault.Word(c) || !errors.As(err, &f) {
		t.Fatalf("%q, not %s alone", err, fault.Word(c))
	}
}

// holds: a store has these files, and no others.
func holds(t *testing.T, s *store.Store, l files) {
	t.Helper()
	if got, want := s.Names(), slices.Sorted(maps.Keys(l)); !slices.Equal(got, want) {
		t.Fatalf("files %q; want %q", got, want)
	}
	total := 0
	for name, k := range l {
		bytes, _ := s.Read(name)
		n, sure := s.Size(name)
		if bytes != k.bytes || n != len(k.bytes) || sure != k.sure {
			t.Fatalf("%s: %q, %d, %d; want %q, %d", name, bytes, n, sure, k.bytes, k.sure)
		}
		total += n
	}
	if s.Total() != total {
		t.Fatalf("%d bytes in all; want %d", s.Total(), total)
	}
}

// fails: so many calls of a store are to fail, and no more.
func fails(t *testing.T, s *store.Store, n int) {
	t.Helper()
	before := s.Copy()
	for i := range n + 1 {
		err := before.Append("probe", "")
		if got := err != nil; got != (i < n) {
			t.Fatalf("call %d of %d that are to fail: %v", i, n, err)
		}
	}
}

// called is the name of a generation, as the document has it.
func called(base string, i int) string {
	if i < 1 {
		return base
	}
	return fmt.Sprintf("%s.%d", base, i)
}

// listed: these are the generations of a log, with these bytes, the oldest first.
func listed(t *testing.T, s *store.Store, base string, n int, names, bytes []string) {
	t.Helper()
	for range 2 {
		if got := Names(s, base, n); !slices.Equal(got, names) {
			t.Fatalf("Names(%.99q, %d): %.999q; want %.999q", base, n, got, names)
		}
		if got := All(s, base, n); !slices.Equal(got, bytes) {
			t.Fatalf("All(%.99q, %d): %.999q; want %.999q", base, n, got, bytes)
		}
	}
}

// plainly lists the generations of a log by going through their numbers.
func plainly(l files, base string, n int) (names, bytes []string) {
	for i := counts[n] - 1; i >= 0; i-- {
		if k, ok := l[called(base, i)]; ok {
			names = append(names, called(base, i))
			bytes = append(bytes, k.bytes)
		}
	}
	return names, bytes
}

// mayName: may a file have this name?
func mayName(s string) bool {
	bad := func(r rune) bool { return r < 33 || r > 126 || r == '/' }
	return len(s) >= 1 && len(s) <= 64 && !strings.ContainsFunc(s, bad)
}

// turned is what files become when a log is turned, what that tells, and how many calls it needs.
func turned(l files, base string, n int) (files, api.Code, int) {
	var there []int
	for i := counts[n] - 1; i >= 0; i-- {
		if _, ok := l[called(base, i)]; ok {
			there = append(there, i)
		}
	}
	after := maps.Clone(l)
	for calls, i := range there {
		name, to := called(base, i), called(base, i+1)
		if i < counts[n]-1 && !mayName(to) {
			return after, api.ErrArg, calls + 1
		}
		delete(after, name)
		if i < counts[n]-1 {
			after[to] = l[name]
		}
	}
	return after, api.OK, len(there)
}

// turns: a log is turned as the document says: as it is, and while so many calls are to fail.
func turns(t *testing.T, l files, base string, n int) {
	t.Helper()
	s := disk(t, l)
	names, bytes := plainly(l, base, n)
	listed(t, s, base, n, names, bytes)
	holds(t, s, l)
	after, c, calls := turned(l, base, n)
	for fail := range 3 {
		s := disk(t, l)
		s.Fail(fail)
		if fail > 0 && calls > 0 {
			told(t, Turn(s, base, n), api.ErrIO)
			fails(t, s, fail-1)
			s.Fail(0)
			holds(t, s, l)
		}
		told(t, Turn(s, base, n), c)
		if fail > 0 && calls == 0 {
			fails(t, s, fail)
		} else {
			fails(t, s, 0)
		}
		holds(t, s, after)
		names, bytes := plainly(after, base, n)
		listed(t, s, base, n, names, bytes)
	}
}

// log is the files of those generations whose bits are set, each with bytes of its own; all but their first ones are not sure.
func log(base string, bits int) files {
	l := files{}
	for i := 0; bits>>i != 0; i++ {
		if bits>>i&1 == 1 {
			bytes := strings.Repeat("x", i%4) + fmt.Sprint(i)
			l[called(base, i)] = kept{bytes, len(bytes) - 1}
		}
	}
	return l
}

// The chapter's example.
func TestExample(t *testing.T) {
	s := disk(t, files{"a": {"three", 5}, "a.1": {"two", 2}, "a.2": {"one", 0}})
	listed(t, s, "a", 3, []string{"a.2", "a.1", "a"}, []string{"one", "two", "three"})
	told(t, Turn(s, "a", 3), api.OK)
	holds(t, s, files{"a.1": {"three", 5}, "a.2": {"two", 2}})
	listed(t, s, "a", 3, []string{"a.2", "a.1"}, []string{"two", "three"})
}

// Promise 21.2: the constant.
func TestConstant(t *testing.T) {
	if Most != 16 {
		t.Error(Most)
	}
}

// Promise 21.1: the base, with nothing behind it, of 0 and of what is less; else with a point and the number.
func TestName(t *testing.T) {
	for i, behind := range map[int]string{
		0: "", -1: "", -2: "", -15: "", -16: "", -17: "", -1 << 32: "", math.MinInt + 1: "", math.MinInt: "",
		1: ".1", 2: ".2", 3: ".3", 8: ".8", 9: ".9", 10: ".10", 11: ".11", 15: ".15", 16: ".16", 17: ".17", 19: ".19", 20: ".20", 99: ".99", 100: ".100", 101: ".101",
		255: ".255", 256: ".256", 4096: ".4096", 1 << 32: ".4294967296", 1<<40 + 1: ".1099511627777", math.MaxInt - 1: ".9223372036854775806", math.MaxInt: ".9223372036854775807",
	} {
		for _, base := range bases {
			if got := Name(base, i); got != base+behind {
				t.Errorf("Name(%.99q, %d): %.99q; want %.99q", base, i, got, base+behind)
			}
		}
	}
	for i := -300; i < 3000; i++ {
		if got := Name("web1", i); got != called("web1", i) {
			t.Errorf("Name(%d): %q", i, got)
		}
	}
}

// Promise 21.2: those that there are, the oldest first, of so many as there may be, from 1 to 16.
func TestCounts(t *testing.T) {
	l := log("a", 1<<40-1)
	s := disk(t, l)
	for n, most := range counts {
		var names, bytes []string
		for i := most - 1; i >= 0; i-- {
			names = append(names, called("a", i))
			bytes = append(bytes, strings.Repeat("x", i%4)+fmt.Sprint(i))
		}
		listed(t, s, "a", n, names, bytes)
		holds(t, s, l)
	}
}

// Promise 21.2: some logs, with what is told of them.
func TestListed(t *testing.T) {
	l := files{"a": {"new", 0}, "a.1": {"", 0}, "a.3": {"old\n", 4}, "a.15": {"\x00\xff", 1}, "a.16": {"gone", 4}, "b.1": {"b", 0}}
	s := disk(t, l)
	for _, x := range []struct {
		base         string
		n            int
		names, bytes []string
	}{
		{"a", -1, []string{"a"}, []string{"new"}},
		{"a", 0, []string{"a"}, []string{"new"}},
		{"a", 1, []string{"a"}, []string{"new"}},
		{"a", 2, []string{"a.1", "a"}, []string{"", "new"}},
		{"a", 3, []string{"a.1", "a"}, []string{"", "new"}},
		{"a", 4, []string{"a.3", "a.1", "a"}, []string{"old\n", "", "new"}},
		{"a", 15, []string{"a.3", "a.1", "a"}, []string{"old\n", "", "new"}},
		{"a", 16, []string{"a.15", "a.3", "a.1", "a"}, []string{"\x00\xff", "old\n", "", "new"}},
		{"a", 17, []string{"a.15", "a.3", "a.1", "a"}, []string{"\x00\xff", "old\n", "", "new"}},
		{"b", 1, nil, nil},
		{"b", 2, []string{"b.1"}, []string{"b"}},
		{"a.1", 16, []string{"a.1"}, []string{""}},
		{"c", 16, nil, nil},
		{"", 16, nil, nil},
		{"a.", 16, nil, nil},
	} {
		listed(t, s, x.base, x.n, x.names, x.bytes)
	}
	holds(t, s, l)
}

// Promise 21.2: nobody is told of files that are no generations; calls that are to fail still are.
func TestListedAlone(t *testing.T) {
	l := files{}
	for _, name := range near {
		l[name] = kept{name, 0}
	}
	s := disk(t, l)
	s.Fail(2)
	for n := range counts {
		listed(t, s, "a", n, nil, nil)
	}
	fails(t, s, 2)
	s.Fail(0)
	l["a.7"] = kept{"here", 0}
	did(t, s.Append("a.7", "here"))
	for n, most := range counts {
		var names, bytes []string
		if most > 7 {
			names, bytes = []string{"a.7"}, []string{"here"}
		}
		listed(t, s, "a", n, names, bytes)
	}
	holds(t, s, l)
}

// Promise 21.3: some logs that are turned, with what becomes of them.
func TestTurn(t *testing.T) {
	for _, x := range []struct {
		n           int
		ahead, then files
	}{
		{1, files{}, files{}},
		{1, files{"a": {"1", 1}}, files{}},
		{1, files{"a": {"1", 1}, "a.1": {"2", 0}, "a.2": {"3", 1}}, files{"a.1": {"2", 0}, "a.2": {"3", 1}}},
		{2, files{"a": {"1", 0}}, files{"a.1": {"1", 0}}},
		{2, files{"a": {"12", 1}, "a.1": {"3", 1}}, files{"a.1": {"12", 1}}},
		{2, files{"a.1": {"3", 1}}, files{}},
		{2, files{"a": {"1", 0}, "a.1": {"2", 0}, "a.2": {"3", 0}}, files{"a.1": {"1", 0}, "a.2": {"3", 0}}},
		{3, files{"a": {"1", 1}, "a.1": {"22", 2}, "a.2": {"333", 3}}, files{"a.1": {"1", 1}, "a.2": {"22", 2}}},
		{3, files{"a": {"1", 1}, "a.2": {"333", 3}}, files{"a.1": {"1", 1}}},
		{3, files{"a.1": {"22", 1}}, files{"a.2": {"22", 1}}},
		{4, files{"a": {"1", 1}, "a.2": {"333", 3}}, files{"a.1": {"1", 1}, "a.3": {"333", 3}}},
		{4, files{"a": {"", 0}, "a.1": {"", 0}, "a.3": {"", 0}}, files{"a.1": {"", 0}, "a.2": {"", 0}}},
		{9, files{"a.7": {"7", 1}, "a.8": {"8", 0}, "a.9": {"9", 0}}, files{"a.8": {"7", 1}, "a.9": {"9", 0}}},
		{11, files{"a.1": {"1", 0}, "a.9": {"9", 1}, "a.10": {"10", 0}}, files{"a.2": {"1", 0}, "a.10": {"9", 1}}},
		{16, files{"a.14": {"14", 0}, "a.15": {"15", 0}, "a.16": {"16", 0}}, files{"a.15": {"14", 0}, "a.16": {"16", 0}}},
	} {
		s := disk(t, x.ahead)
		told(t, Turn(s, "a", x.n), api.OK)
		holds(t, s, x.then)
		turns(t, x.ahead, "a", x.n)
	}
}

// Promise 21.3: how many generations there are is held from 1 to 16.
func TestTurnCounts(t *testing.T) {
	for n, most := range counts {
		l := log("a", 1<<20-1)
		s := disk(t, l)
		told(t, Turn(s, "a", n), api.OK)
		then := maps.Clone(l)
		for i := range most - 1 {
			then[called("a", i+1)] = l[called("a", i)]
		}
		delete(then, "a")
		holds(t, s, then)
		turns(t, l, "a", n)
	}
}

// Promises 21.2 and 21.3: each choice of some generations, of each number that there may be.
func TestEachChoice(t *testing.T) {
	for n := -1; n <= 8; n++ {
		for bits := range 1 << 9 {
			turns(t, log("web1.log", bits), "web1.log", n)
		}
	}
	for bits := range 1 << 10 {
		turns(t, log("a", bits<<9|1), "a", 16)
	}
}

// Promise 21.3: other files stay as they are.
func TestTurnAlone(t *testing.T) {
	for n := range counts {
		for _, bits := range []int{0, 1, 2, 3, 7, 1 << 15, 1<<15 | 1, 1<<16 - 1} {
			l := log("a", bits)
			for i, name := range near {
				l[name] = kept{name, i % len(name)}
			}
			turns(t, l, "a", n)
		}
	}
}

// Promise 21.3: the first call that tells an error ends it, and is told as the store tells it; nothing else is done.
func TestTurnFails(t *testing.T) {
	l := files{"a": {"1", 1}, "a.1": {"22", 1}, "a.2": {"333", 0}}
	for _, n := range []int{1, 2, 3, 4, 16} {
		s := disk(t, l)
		s.Fail(3)
		for left := 2; left >= 0; left-- {
			told(t, Turn(s, "a", n), api.ErrIO)
			fails(t, s, left)
			holds(t, s, l)
		}
		told(t, Turn(s, "a", n), api.OK)
		after, _, _ := turned(l, "a", n)
		holds(t, s, after)
	}
}

// Promise 21.3: where nothing is, nothing is called: so nothing fails.
func TestTurnNothing(t *testing.T) {
	for n := range counts {
		for _, l := range []files{{}, {"b": {"1", 0}, "a.16": {"2", 1}, "a.01": {"3", 0}}} {
			s := disk(t, l)
			s.Fail(3)
			told(t, Turn(s, "a", n), api.OK)
			fails(t, s, 3)
			holds(t, s, l)
		}
	}
}

// Promise 21.3: a generation that is there and would get a name that no file may have stays, with all the newer ones; the oldest one, which goes, needs none.
func TestTurnTooLong(t *testing.T) {
	for long, last := range map[int]int{61: 15, 62: 9, 63: 0, 64: 0} {
		base := strings.Repeat("l", long)
		for n, most := range counts {
			s := disk(t, log(base, 1<<(last+1)-1))
			c := api.ErrArg
			if most <= last+1 {
				c = api.OK
			}
			told(t, Turn(s, base, n), c)
			if c == api.ErrArg {
				holds(t, s, log(base, 1<<(last+1)-1))
			}
			turns(t, log(base, 1<<(last+1)-1), base, n)
			// Is the last one that may have a name not there, the others find room.
			turns(t, log(base, 1<<last-1), base, n)
			turns(t, log(base, 1<<last), base, n)
		}
	}
	s := disk(t, log(strings.Repeat("l", 62), 1<<10-1))
	s.Fail(1)
	told(t, Turn(s, strings.Repeat("l", 62), 11), api.ErrIO)
	told(t, Turn(s, strings.Repeat("l", 62), 11), api.ErrArg)
}

// Promises 21.2 and 21.3: whatever a log's name is, those of its generations count that may be files.
func TestBases(t *testing.T) {
	for _, base := range bases {
		l := files{"a": {"other", 2}, "a.1": {"more", 0}}
		for i := range 18 {
			if name := called(base, i); mayName(name) {
				l[name] = kept{fmt.Sprint(i), 1}
			}
		}
		for n := range counts {
			turns(t, l, base, n)
			turns(t, files{}, base, n)
		}
	}
	// Without a name the newest one is no file; the others may be.
	s := disk(t, files{".1": {"one", 0}, ".2": {"two", 3}})
	listed(t, s, "", 3, []string{".2", ".1"}, []string{"two", "one"})
	told(t, Turn(s, "", 3), api.OK)
	holds(t, s, files{".2": {"one", 0}})
}

// Promise 11.1, of what nobody made: it has nothing, so nothing is called.
func TestNoStore(t *testing.T) {
	for _, s := range []*store.Store{nil, {}} {
		for n := range counts {
			for _, base := range bases {
				listed(t, s, base, n, nil, nil)
				told(t, Turn(s, base, n), api.OK)
			}
		}
	}
}

// Promise 21.4: turned again and again, the newest ones stay, in their order.
func TestOrder(t *testing.T) {
	for n, most := range counts {
		s := disk(t, nil)
		var want []string
		for i := range 40 {
			did(t, s.Append("a", fmt.Sprint(i)))
			want = append(want, fmt.Sprint(i))
			want = want[max(0, len(want)-most):]
			if got := All(s, "a", n); !slices.Equal(got, want) {
				t.Fatalf("%d, %d: %q; want %q", n, i, got, want)
			}
			s.Fail(i % 3)
			for range i % 3 {
				told(t, Turn(s, "a", n), api.ErrIO)
				listed(t, s, "a", n, Names(s, "a", n), want)
			}
			told(t, Turn(s, "a", n), api.OK)
		}
	}
}

// Promise 21.4: whatever is there, and whatever fails: what is there behind is a piece of what was, and ends with it.
func TestChance(t *testing.T) {
	r := rand.New(rand.NewSource(21))
	numbers := slices.Sorted(maps.Keys(counts))
	for range 3000 {
		base := bases[r.Intn(8)]
		n := numbers[r.Intn(len(numbers))]
		s := disk(t, log(base, r.Intn(1<<18)))
		for range 12 {
			ahead := All(s, base, n)
			oldest := slices.Contains(Names(s, base, n), called(base, counts[n]-1))
			s.Fail(r.Intn(3) - 1)
			err := Turn(s, base, n)
			s.Fail(0)
			if err == nil && oldest {
				ahead = ahead[1:]
			}
			if got := All(s, base, n); !slices.Equal(got, ahead) {
				t.Fatalf("%q, %d, %v: %q; want %q", base, n, err, got, ahead)
			}
			if r.Intn(2) == 0 {
				did(t, s.Append(base, fmt.Sprint(r.Intn(100))))
			}
		}
	}
}

// Promise 21.3: that a file has a name is sure at once, of its bytes those stay that were sure.
func TestCrash(t *testing.T) {
	s := disk(t, files{"a": {"abcd", 1}, "a.1": {"efgh", 2}, "a.2": {"ij", 2}})
	told(t, Turn(s, "a", 3), api.OK)
	s.Crash(1)
	holds(t, s, files{"a.1": {"ab", 2}, "a.2": {"ef", 2}})
	listed(t, s, "a", 3, []string{"a.2", "a.1"}, []string{"ef", "ab"})
}

// Rule R3: what was answered is nobody else's, and stays as it was.
func TestKept(t *testing.T) {
	s := disk(t, files{"a": {"1", 0}, "a.1": {"2", 0}})
	names, bytes := Names(s, "a", 3), All(s, "a", 3)
	other, more := Names(s, "a", 3), All(s, "a", 3)
	clear(other)
	clear(more)
	told(t, Turn(s, "a", 3), api.OK)
	did(t, s.Append("a", "3"))
	did(t, s.Append("a.1", "4"))
	if !slices.Equal(names, []string{"a.1", "a"}) || !slices.Equal(bytes, []string{"2", "1"}) {
		t.Errorf("%q, %q", names, bytes)
	}
	listed(t, s, "a", 3, []string{"a.2", "a.1", "a"}, []string{"2", "14", "3"})
}

// Stores do not come into each other, nor do the logs of one store.
func TestApart(t *testing.T) {
	l := files{"a": {"1", 1}, "a.1": {"2", 0}, "b": {"3", 0}, "b.1": {"4", 1}}
	s := disk(t, l)
	c := s.Copy()
	told(t, Turn(s, "a", 2), api.OK)
	told(t, Turn(s, "b", 3), api.OK)
	holds(t, c, l)
	holds(t, s, files{"a.1": {"1", 1}, "b.1": {"3", 0}, "b.2": {"4", 1}})
	// A log whose name is that of another one's generation has that as its newest one.
	told(t, Turn(c, "a.1", 2), api.OK)
	holds(t, c, files{"a": {"1", 1}, "a.1.1": {"2", 0}, "b": {"3", 0}, "b.1": {"4", 1}})
}

// Promise P0: long files and many turns end soon.
func TestMany(t *testing.T) {
	const long = 1 << 20
	s := disk(t, nil)
	for i := range 64 {
		told(t, Turn(s, "a", 15), api.OK)
		did(t, s.Append("a", strings.Repeat(string([]byte{byte('0' + i)}), long)))
	}
	all := All(s, "a", 15)
	if len(all) != 15 || s.Total() != 15*long {
		t.Fatal(len(all), s.Total())
	}
	for i, bytes := range all {
		if bytes != strings.Repeat(string([]byte{byte('0' + 49 + i)}), long) {
			t.Errorf("%d: %.9q", i, bytes)
		}
	}
	for i := range 1 << 14 {
		did(t, s.Append(fmt.Sprintf("b.%d", i), ""))
	}
	for range 1 << 13 {
		did(t, s.Append("b", "x"))
		told(t, Turn(s, "b", 16), api.OK)
	}
	var names []string
	for i := 15; i > 0; i-- {
		names = append(names, called("b", i))
	}
	listed(t, s, "b", 16, names, slices.Repeat([]string{"x"}, 15))
}

// Promises 21.1 to 21.4, of logs that come as they like.
func FuzzTurn(f *testing.F) {
	numbers := slices.Sorted(maps.Keys(counts))
	f.Add("a", "a.1|a|b", byte(12), 0, uint(7))
	f.Add("", ".1|x", byte(11), 1, uint(6))
	f.Add(strings.Repeat("l", 62), "a.15", byte(25), 15, uint(1023))
	f.Add("x/y", "x", byte(0), -1, uint(0))
	f.Fuzz(func(t *testing.T, base, others string, which byte, i int, bits uint) {
		if got := Name(base, i); got != called(base, i) {
			t.Fatalf("Name(%q, %d): %q", base, i, got)
		}
		l := log(base, int(bits&(1<<18-1)))
		for _, name := range strings.Split(others, "|") {
			l[name] = kept{name, len(name) / 2}
		}
		maps.DeleteFunc(l, func(name string, _ kept) bool { return !mayName(name) })
		turns(t, l, base, numbers[int(which)%len(numbers)])
	})
}

package restore

import (
	"encoding/binary"
	"errors"
	"fmt"
	"maps"
	"math"
	"math/big"
	"math/rand"
	"regexp"
	"slices"
	"strconv"
	"strings"
	"testing"

	"wheelhouse/api"
	"wheelhouse/fault"
	"wheelhouse/journal"
	"wheelhouse/store"
	"wheelhouse/tail"
)

// last is the last tick.
const last = 1 << 40

// counts: how many generations there are to be, with how many that comes to.
var counts = map[int]int{
	math.MinInt: 1, math.MinInt + 1: 1, -1 << 32: 1, -257: 1, -17: 1, -16: 1, -15: 1, -2: 1, -1: 1, 0: 1,
	1: 1, 2: 2, 3: 3, 4: 4, 5: 5, 6: 6, 7: 7, 8: 8, 9: 9, 10: 10, 11: 11, 12: 12, 13: 13, 14: 14, 15: 15, 16: 16,
	17: 16, 18: 16, 32: 16, 33: 16, 100: 16, 255: 16, 256: 16, 257: 16, 1<<16 + 2: 16, 1<<32 + 1: 16, 1<<32 + 3: 16, 1 << 62: 16, math.MaxInt: 16,
}

// noNames are texts that may be no file's name.
var noNames = []string{"", "a/b", "/", "a ", " a", "a\n", "\x00", "\x7f", "\x80", "\xff", "\u00e9", strings.Repeat("l", 65), strings.Repeat("l", 1000)}

// near are names that look like generations of a, and are none of its first sixteen ones.
var near = []string{"a.", "a.0", "a.00", "a.01", "a.-1", "a.+1", "a.1.", "a.1.1", "a1", "a-1", "a.x", "a.16", "a.17", "aa", "aa.1", "A", "A.1", "b", ".1", "1", "a..1"}

// bytesOf is items' bytes, put together by hand.
func bytesOf(l ...api.Item) string {
	var all []byte
	for _, x := range l {
		b := []byte{'W', byte(x.Kind)}
		b = append(b, binary.BigEndian.AppendUint64(nil, uint64(x.At))[2:]...)
		b = binary.BigEndian.AppendUint16(b, uint16(len(x.Body)))
		b = append(b, x.Body...)
		n := uint64(0)
		for _, c := range b {
			n = (n*257 + uint64(c) + 1) % 2147483647
		}
		all = append(all, binary.BigEndian.AppendUint32(b, uint32(n))...)
	}
	return string(all)
}

// data, note and gap are items.
func data(at int, body string) api.Item { return api.Item{Kind: 1, At: at, Body: body} }
func note(at int, body string) api.Item { return api.Item{Kind: 2, At: at, Body: body} }
func gap(at int, body string) api.Item  { return api.Item{Kind: 3, At: at, Body: body} }

// called is the name of a generation, as the document has it.
func called(base string, i int) string {
	if i < 1 {
		return base
	}
	return fmt.Sprintf("%s.%d", base, i)
}

// mayName: may a file have this name?
func mayName(s string) bool {
	bad := func(r rune) bool { return r < 33 || r > 126 || r == '/' }
	return len(s) >= 1 && len(s) <= 64 && !strings.ContainsFunc(s, bad)
}

// kept is a file: its bytes, and how many of them are sure.
type kept struct {
	bytes string
	sure  int
}

// files are files by their names.
type files map[string]kept

// disk is a store with these files.
func disk(t *testing.T, l files) *store.Store {
	t.Helper()
	s, err := store.New(store.Most)
	did(t, err)
	for name, k := range l {
		did(t, s.Append(name, k.bytes[:k.sure]))
		did(t, s.Sync(name))
		did(t, s.Append(name, k.bytes[k.sure:]))
	}
	return s
}

// did: nothing was wrong.
func did(t *testing.T, err error) {
	t.Helper()
	if err != nil {
		t.Fatal(err)
	}
}

// told: an error is the store's own, of a code; nothing is said around it.
func told(t *testing.T, err error, c api.Code) {
	t.Helper()
	if c == api.OK {
		did(t, err)
		return
	}
	if err == nil {
		t.Fatalf("nil, not %s", fault.Word(c))
	}
	var f *fault.Fault
	if fault.Of(err) != c || fault.Line(err) != 0 || err.Error() != fault.Word(c) || !errors.As(err, &f) {
		t.Fatalf("%q, not %s alone", err, fault.Word(c))
	}
}

// holds: a store has these files, and no others.
func holds(t *testing.T, s *store.Store, l files) {
	t.Helper()
	if got, want := s.Names(), slices.Sorted(maps.Keys(l)); !slices.Equal(got, want) {
		t.Fatalf("files %.999q; want %.999q", got, want)
	}
	for name, k := range l {
		bytes, _ := s.Read(name)
		n, sure := s.Size(name)
		if bytes != k.bytes || n != len(k.bytes) || sure != k.sure {
			t.Fatalf("%s: %.999q, %d, %d; want %.999q, %d", name, bytes, n, sure, k.bytes, k.sure)
		}
	}
}

// fails: so many calls of a store are to fail, and no more.
func fails(t *testing.T, s *store.Store, n int) {
	t.Helper()
	c := s.Copy()
	for i := range n + 1 {
		if err := c.Append("probe", ""); (err != nil) != (i < n) {
			t.Fatalf("call %d of %d that are to fail: %v", i, n, err)
		}
	}
}

// loads: Load tells these items, so many bytes that are torn, and so many items that were lost; however often it is asked, and whatever is done to what it told.
func loads(t *testing.T, s *store.Store, base string, n int, items []api.Item, torn, lost int) {
	t.Helper()
	for range 2 {
		got := Load(s, base, n)
		if !slices.Equal(got.Items, items) || got.Torn != torn || got.Lost != lost {
			t.Fatalf("Load(%.99q, %d): %.999v, torn %d, lost %d; want %.999v, %d, %d", base, n, got.Items, got.Torn, got.Lost, items, torn, lost)
		}
		all := got.Items[:cap(got.Items)]
		for i := range all {
			all[i] = data(-7, "other")
		}
	}
}

// whole is the item that bytes begin with, if one does.
func whole(s string) (api.Item, bool) {
	if len(s) < 14 || s[0] != 'W' {
		return api.Item{}, false
	}
	at := binary.BigEndian.Uint64([]byte("\x00\x00" + s[2:8]))
	n := int(binary.BigEndian.Uint16([]byte(s[8:10])))
	if s[1] < 1 || s[1] > 15 || at > last || n > 4096 || len(s) < 14+n {
		return api.Item{}, false
	}
	x := api.Item{Kind: int(s[1]), At: int(at), Body: s[10 : 10+n]}
	return x, bytesOf(x) == s[:14+n]
}

// number is what digits are the number of, if they are as a tick is written.
var number = regexp.MustCompile(`\A(0|[1-9][0-9]{0,12})\z`)

// lostIn is how many items were lost, as far as items tell it.
func lostIn(l []api.Item) int {
	all, most := new(big.Int), big.NewInt(last)
	for _, x := range l {
		if x.Kind == 3 && number.MatchString(x.Body) {
			n, _ := new(big.Int).SetString(x.Body, 10)
			if n.Cmp(most) <= 0 {
				all.Add(all, n)
			}
		}
	}
	if all.Cmp(most) > 0 {
		return last
	}
	return int(all.Int64())
}

// plainly is what a log tells, as the document says it.
func plainly(l files, base string, n int) (items []api.Item, torn, lost int) {
	for i := counts[n] - 1; i >= 0; i-- {
		left := l[called(base, i)].bytes
		for {
			x, ok := whole(left)
			if !ok {
				break
			}
			items = append(items, x)
			left = left[14+len(x.Body):]
		}
		torn += len(left)
	}
	return items, torn, lostIn(items)
}

// turned is what files become when a log is turned, and what that tells.
func turned(l files, base string, n int) (files, api.Code) {
	after := maps.Clone(l)
	for i := counts[n] - 1; i >= 0; i-- {
		name, to := called(base, i), called(base, i+1)
		k, ok := l[name]
		switch {
		case !ok:
		case i == counts[n]-1:
			delete(after, name)
		case !mayName(to):
			return after, api.ErrArg
		default:
			delete(after, name)
			after[to] = k
		}
	}
	return after, api.OK
}

// begun is what files become when a log is begun anew, and what that tells.
func begun(l files, base string, n int) (files, api.Code) {
	if _, ok := l[base]; !ok {
		return l, api.OK
	}
	return turned(l, base, n)
}

// begins: a log is begun anew as the document says: as it is, and while so many calls are to fail.
func begins(t *testing.T, l files, base string, n int) {
	t.Helper()
	after, c := begun(l, base, n)
	_, newest := l[base]
	for fail := range 3 {
		s := disk(t, l)
		s.Fail(fail)
		switch {
		case fail == 0:
			told(t, Begin(s, base, n), c)
			holds(t, s, after)
		case newest:
			told(t, Begin(s, base, n), api.ErrIO)
			fails(t, s, fail-1)
			holds(t, s, l)
		default:
			told(t, Begin(s, base, n), api.OK)
			fails(t, s, fail)
			holds(t, s, l)
		}
		s.Fail(0)
		told(t, Begin(s, base, n), c)
		holds(t, s, after)
	}
}

// The chapter's example.
func TestExample(t *testing.T) {
	x, y := data(1, "one"), data(2, "two")
	s := disk(t, files{"log": {bytesOf(x, y), len(bytesOf(x))}})
	s.Crash(5)
	loads(t, s, "log", 3, []api.Item{x}, 5, 0)
}

// Promise 23.1: some logs, with what they tell.
func TestLoad(t *testing.T) {
	a, b, c, d := data(1, "a\n"), note(2, ""), data(3, strings.Repeat("W", 40)), gap(4, "5")
	bytes := bytesOf(a)
	for _, x := range []struct {
		l          files
		n          int
		items      []api.Item
		torn, lost int
	}{
		{files{}, 3, nil, 0, 0},
		{files{"a": {"", 0}}, 3, nil, 0, 0},
		{files{"a": {bytes, 0}}, 1, []api.Item{a}, 0, 0},
		{files{"a": {bytesOf(a, b, c, d), 20}}, 1, []api.Item{a, b, c, d}, 0, 5},
		{files{"a": {bytesOf(d), 0}, "a.1": {bytesOf(c, b), 9}, "a.2": {bytesOf(a), 16}}, 3, []api.Item{a, c, b, d}, 0, 5},
		{files{"a": {bytesOf(d), 0}, "a.1": {bytesOf(c, b), 9}, "a.2": {bytesOf(a), 16}}, 2, []api.Item{c, b, d}, 0, 5},
		{files{"a": {bytesOf(d), 0}, "a.1": {bytesOf(c, b), 9}, "a.2": {bytesOf(a), 16}}, 1, []api.Item{d}, 0, 5},
		// Not all generations have to be there; not even the newest.
		{files{"a": {bytesOf(d), 0}, "a.5": {bytesOf(c), 0}, "a.15": {bytesOf(a), 16}}, 16, []api.Item{a, c, d}, 0, 5},
		{files{"a.1": {bytesOf(c), 0}, "a.2": {bytesOf(d), 0}}, 16, []api.Item{d, c}, 0, 5},
		{files{"a": {"", 0}, "a.1": {bytesOf(c), 0}, "a.2": {"", 0}, "a.3": {bytesOf(d), 0}}, 4, []api.Item{d, c}, 0, 5},
		// The same item again and again is as many items.
		{files{"a": {bytesOf(d, d), 0}, "a.1": {bytesOf(d), 0}}, 2, []api.Item{d, d, d}, 0, 15},
		// What is torn ends what its generation tells, and no other's.
		{files{"a": {bytes[:1], 0}}, 1, nil, 1, 0},
		{files{"a": {bytes[:15], 0}}, 1, nil, 15, 0},
		{files{"a": {"x", 0}}, 1, nil, 1, 0},
		{files{"a": {"x" + bytesOf(a, d), 0}}, 1, nil, 32, 0},
		{files{"a": {bytesOf(d) + bytes[:15] + bytesOf(c, d), 0}}, 1, []api.Item{d}, 15 + 54 + 15, 5},
		{files{"a": {bytesOf(d) + bytes[:9], 0}, "a.1": {bytesOf(c, d) + bytes[:4], 0}, "a.2": {bytes[:7], 0}, "a.3": {bytesOf(b) + "\n", 0}}, 4, []api.Item{b, c, d, d}, 21, 10},
		{files{"a": {bytesOf(a), 0}, "a.1": {bytes[:7] + bytesOf(d), 0}, "a.2": {bytesOf(d), 0}}, 3, []api.Item{d, a}, 22, 5},
		// The end of an item in one generation, and what it lacks in the next one, are no item.
		{files{"a": {bytes[8:] + bytesOf(b), 0}, "a.1": {bytesOf(d) + bytes[:8], 0}}, 2, []api.Item{d}, 8 + 8 + 14, 5},
		// What is torn in a generation that does not count is not told.
		{files{"a": {bytes[:5], 0}, "a.1": {bytes[:6], 0}, "a.2": {bytes[:7], 0}}, 2, nil, 11, 0},
	} {
		s := disk(t, x.l)
		s.Fail(2)
		loads(t, s, "a", x.n, x.items, x.torn, x.lost)
		fails(t, s, 2)
		holds(t, s, x.l)
	}
}

// Promise 23.1: of so many generations as there may be, from 1 to 16; no other file counts.
func TestLoadCounts(t *testing.T) {
	l := files{}
	for _, name := range near {
		l[name] = kept{bytesOf(gap(9, "1000000")) + "torn", 3}
	}
	s := disk(t, l)
	for n := range counts {
		loads(t, s, "a", n, nil, 0, 0)
	}
	for i := range 16 {
		l[called("a", i)] = kept{bytesOf(data(i, "x"), gap(i, strconv.Itoa(1<<i))) + strings.Repeat("t", i+1), i}
	}
	s = disk(t, l)
	for n, most := range counts {
		var items []api.Item
		for i := most - 1; i >= 0; i-- {
			items = append(items, data(i, "x"), gap(i, strconv.Itoa(1<<i)))
		}
		loads(t, s, "a", n, items, most*(most+1)/2, 1<<most-1)
	}
	holds(t, s, l)
}

// Promise 23.1: items of each kind, time and body come back as they were.
func TestLoadItems(t *testing.T) {
	ats := []int{0, 1, 255, 256, 86400, 1<<32 + 1, last - 1, last}
	bodies := []string{"", "a", "hi\r\n", "\x00\xff", "W", "12", strings.Repeat("x", 4095), strings.Repeat("y", 4096)}
	var items []api.Item
	for kind := 1; kind <= 15; kind++ {
		for _, at := range ats {
			for _, body := range bodies {
				items = append(items, api.Item{Kind: kind, At: at, Body: body})
			}
		}
	}
	loads(t, disk(t, files{"a": {bytesOf(items...), 0}}), "a", 1, items, 0, 12*len(ats))
	half := len(items) / 2
	loads(t, disk(t, files{"a": {bytesOf(items[half:]...), 0}, "a.1": {bytesOf(items[:half]...), 0}}), "a", 2, items, 0, 12*len(ats))
	// What may be no item is none.
	for _, x := range []api.Item{{Kind: 0, Body: "x"}, {Kind: 16}, {Kind: 255}, {Kind: 1, At: last + 1}, {Kind: 3, At: 1<<48 - 1, Body: "5"}, {Kind: 1, Body: strings.Repeat("z", 4097)}} {
		bytes := bytesOf(x)
		loads(t, disk(t, files{"a": {bytesOf(gap(1, "2")) + bytes, 0}}), "a", 1, []api.Item{gap(1, "2")}, len(bytes), 2)
	}
}

// Promise 23.1: a generation that is cut off at each of its bytes, or of which one was turned.
func TestLoadCuts(t *testing.T) {
	items := []api.Item{gap(1, "7"), data(2, "hello\n"), note(3, ""), gap(4, "30"), data(5, "W\x01")}
	bytes, old, new := bytesOf(items...), bytesOf(data(0, "old")), bytesOf(gap(6, "400"))
	for at := range len(bytes) {
		l := files{"a": {new, 0}, "a.1": {bytes[:at], 0}, "a.2": {old, 0}}
		n := 0
		for n < len(items) && len(bytesOf(items[:n+1]...)) <= at {
			n++
		}
		want := slices.Concat([]api.Item{data(0, "old")}, items[:n], []api.Item{gap(6, "400")})
		torn := at - len(bytesOf(items[:n]...))
		loads(t, disk(t, l), "a", 3, want, torn, lostIn(want))
		for _, bit := range []byte{1, 2, 128} {
			turnedByte := []byte(bytes)
			turnedByte[at] ^= bit
			l["a.1"] = kept{string(turnedByte), 0}
			loads(t, disk(t, l), "a", 3, want, len(bytes)-len(bytesOf(items[:n]...)), lostIn(want))
		}
	}
}

// Promise 23.1: which numbers are told to be lost, and by which items.
func TestLost(t *testing.T) {
	for body, lost := range map[string]int{
		"0": 0, "1": 1, "2": 2, "9": 9, "10": 10, "12": 12, "4096": 4096, "999999999999": 999999999999,
		"1099511627774": last - 2, "1099511627775": last - 1, "1099511627776": last,
		"1099511627777": 0, "1099511627786": 0, "2000000000000": 0, "9999999999999": 0, "10000000000000": 0, "9223372036854775807": 0, "9223372036854775808": 0, "18446744073709551616": 0, "18446744073709551621": 0, strings.Repeat("9", 4096): 0, strings.Repeat("0", 4096): 0, strings.Repeat("0", 4095) + "1": 0,
		"": 0, "00": 0, "01": 0, "007": 0, "-0": 0, "-1": 0, "+1": 0, " 1": 0, "1 ": 0, "1\n": 0, "\n": 0, "\x00": 0, "1\x00": 0, "1.0": 0, "1e3": 0, "0x1": 0, "1_0": 0, "1,000": 0, "a": 0, "1a": 0, "a1": 0, "5 lost": 0, ":": 0, "/": 0, "\xb1": 0, "\u0661": 0, "\uff11": 0,
	} {
		one, two := gap(8, body), gap(9, "3")
		for kind := 1; kind <= 15; kind++ {
			one.Kind = kind
			alone := 0
			if kind == 3 {
				alone = lost
			}
			both := min(3+alone, last)
			loads(t, disk(t, files{"a": {bytesOf(one), 0}}), "a", 1, []api.Item{one}, 0, alone)
			loads(t, disk(t, files{"a": {bytesOf(one, two), 0}}), "a", 1, []api.Item{one, two}, 0, both)
			loads(t, disk(t, files{"a": {bytesOf(one), 0}, "a.1": {bytesOf(two), 0}}), "a", 2, []api.Item{two, one}, 0, both)
		}
	}
}

// Promise 23.1: not more than the last tick are told to be lost, however many they are together.
func TestLostMost(t *testing.T) {
	most := strconv.Itoa(last)
	for _, x := range []struct {
		bodies []string
		lost   int
	}{
		{[]string{"1099511627775", "1"}, last}, {[]string{"1099511627775", "0"}, last - 1}, {[]string{"1", "1099511627775"}, last}, {[]string{"1099511627774", "1"}, last - 1},
		{[]string{"1099511627775", "2"}, last}, {[]string{most, "1"}, last}, {[]string{"1", most}, last}, {[]string{most, most}, last}, {[]string{most, "0"}, last}, {[]string{most, "x"}, last},
		{[]string{"549755813888", "549755813888"}, last}, {[]string{"549755813888", "549755813887"}, last - 1}, {[]string{"549755813888", "549755813889"}, last},
		{[]string{most, "1099511627777", "1"}, last}, {[]string{"1099511627777", "1"}, 1}, {slices.Repeat([]string{most}, 1000), last}, {slices.Repeat([]string{"1"}, 1000), 1000},
	} {
		var items []api.Item
		for i, body := range x.bodies {
			items = append(items, gap(i, body), data(i, "9"))
		}
		loads(t, disk(t, files{"a": {bytesOf(items...), 0}}), "a", 1, items, 0, x.lost)
		loads(t, disk(t, files{"a": {bytesOf(items[2:]...), 0}, "a.3": {bytesOf(items[:2]...), 1}}), "a", 4, items, 0, x.lost)
	}
}

// Promise 23.1, of a log whose name may be no file's, and of a store that nobody made: it tells nothing.
func TestLoadNothing(t *testing.T) {
	s := disk(t, files{"a": {bytesOf(gap(1, "1")), 0}, "l": {"torn", 1}})
	for _, base := range noNames {
		loads(t, s, base, 1, nil, 0, 0)
	}
	for _, base := range append(noNames, "a", "b") {
		for n := range counts {
			loads(t, &store.Store{}, base, n, nil, 0, 0)
			loads(t, nil, base, n, nil, 0, 0)
		}
	}
	// The older generations may have names, though the newest has none.
	loads(t, disk(t, files{".1": {bytesOf(gap(1, "1")) + "t", 0}, ".2": {bytesOf(gap(0, "2")), 0}}), "", 3, []api.Item{gap(0, "2"), gap(1, "1")}, 1, 3)
}

// Rule R4: generations can be gone through again, and be left at any place.
func TestGenerations(t *testing.T) {
	l := files{}
	for i := range 5 {
		l[called("a", i)] = kept{bytesOf(data(i, "x")) + strings.Repeat("t", i), 0}
	}
	all := generations(disk(t, l), "a", 5)
	for most := 1; most <= 5; most++ {
		seen := 0
		for items, torn := range all {
			if i := 4 - seen; torn != i || !slices.Equal(items, []api.Item{data(i, "x")}) {
				t.Fatal(items, torn)
			}
			seen++
			if seen == most {
				break
			}
		}
		if seen != most {
			t.Fatalf("%d of %d", seen, most)
		}
	}
}

// lastOf is the longest end of a text that has at most so many lines and bytes.
func lastOf(s string, lines, bytes int) string {
	s = s[max(0, len(s)-bytes):]
	all := strings.SplitAfter(s, "\n")
	if all[len(all)-1] == "" {
		all = all[:len(all)-1]
	}
	return strings.Join(all[max(0, len(all)-lines):], "")
}

// tails: Tail tells the last lines of what the ItemData have in their bodies, and changes nothing of what it is handed.
func tails(t *testing.T, l []api.Item, lines, bytes int) {
	t.Helper()
	all := ""
	for _, x := range l {
		if x.Kind == 1 {
			all += x.Body
		}
	}
	before := slices.Clone(l)
	got, code := Tail(l, lines, bytes)
	if code != api.OK || got == nil {
		t.Fatalf("Tail of %.999v, %d, %d: code %d", l, lines, bytes, code)
	}
	if want := lastOf(all, lines, bytes); got.Text() != want || got.Came() != len(all) {
		t.Fatalf("Tail of %.999v, %d, %d: %.999q of %d; want %.999q of %d", l, lines, bytes, got.Text(), got.Came(), want, len(all))
	}
	if !slices.Equal(l, before) {
		t.Fatalf("%.999v became %.999v", before, l)
	}
	// What comes later comes behind; another tail has nothing of it.
	got.Feed("x\ny")
	if want := lastOf(all+"x\ny", lines, bytes); got.Text() != want || got.Came() != len(all)+3 {
		t.Fatalf("fed: %.999q of %d; want %.999q", got.Text(), got.Came(), want)
	}
	if got, _ := Tail(l, lines, bytes); got.Came() != len(all) {
		t.Fatal("a tail has what came to another one")
	}
}

// Promise 23.2: the codes of tail.New, whatever the items are.
func TestTailCodes(t *testing.T) {
	for _, l := range [][]api.Item{nil, {data(1, "a\nb")}, {{Kind: -1}}} {
		for lines, right := range map[int]bool{math.MinInt: false, -1: false, 0: false, 1: true, 2: true, 1023: true, 1024: true, 1025: false, 1 << 16: false, 1<<32 + 1: false, math.MaxInt: false} {
			for bytes, fits := range map[int]bool{math.MinInt: false, -1: false, 0: false, 1: true, 2: true, 1024: true, 1025: true, 1<<16 - 1: true, 1 << 16: true, 1<<16 + 1: false, 1 << 20: false, 1<<32 + 1: false, math.MaxInt: false} {
				if right && fits {
					tails(t, l, lines, bytes)
				} else if got, code := Tail(l, lines, bytes); got != nil || code != api.ErrRange {
					t.Fatalf("Tail of %d, %d: code %d", lines, bytes, code)
				}
			}
		}
	}
	if tail.MostLines != 1024 || tail.MostBytes != 1<<16 {
		t.Error(tail.MostLines, tail.MostBytes)
	}
}

// Promise 23.2: just the bodies of ItemData, in order, also of such as may be no items.
func TestTail(t *testing.T) {
	got, code := Tail([]api.Item{data(1, "ab\n"), note(2, "in\n"), data(3, "cd\ne"), gap(4, "7"), data(5, "f")}, 2, 8)
	if code != api.OK || got.Text() != "cd\nef" || got.Came() != 8 || got.Len() != 5 || !slices.Equal(got.Lines(), []string{"cd\n", "ef"}) {
		t.Fatal(got.Text(), code)
	}
	var items []api.Item
	for _, kind := range []int{1, 2, 3, 0, 4, 15, 16, 17, 129, 255, 256, 257, 1<<32 + 1, -1, -2, math.MinInt, math.MaxInt, math.MinInt + 1} {
		for _, at := range []int{0, 1, last, -1, last + 1, math.MinInt, math.MaxInt} {
			for _, body := range []string{"", "a", "b\n", "\n", "c\r\nd", "\x00\xff", fmt.Sprint(kind, at)} {
				items = append(items, api.Item{Kind: kind, At: at, Body: body})
			}
		}
	}
	items = append(items, data(0, strings.Repeat("x\n", 3000)), data(-1, strings.Repeat("y", 5000)), data(1, "\nz"))
	rand.New(rand.NewSource(1)).Shuffle(len(items), func(i, k int) { items[i], items[k] = items[k], items[i] })
	for n := range len(items) + 1 {
		// What lies behind a list's length is not there.
		tails(t, items[:n], 1+n%5, 1+n%70)
		tails(t, items[n:], 1+n%1024, 1+n*31)
		tails(t, items[:n:n], 1024, 1<<16)
	}
	for _, one := range items {
		tails(t, []api.Item{one}, 2, 6)
	}
	tails(t, nil, 1, 1)
	tails(t, items[:0], 1, 1)
}

// Promises 23.1 and 23.2: it does not matter how what a console told is parted into items, nor these into generations.
func TestTailPieces(t *testing.T) {
	text := "one\n\ntwo\nthree"
	for cut := range len(text) + 1 {
		for cut2 := cut; cut2 <= len(text); cut2++ {
			x, y, z := data(1, text[:cut]), data(2, text[cut:cut2]), data(3, text[cut2:])
			s := disk(t, files{"a": {bytesOf(z), 0}, "a.1": {bytesOf(y, note(2, "n\n")), 0}, "a.2": {bytesOf(x) + "torn", 0}})
			for lines := 1; lines < 6; lines++ {
				for bytes := 1; bytes < 17; bytes++ {
					got, code := Tail(Load(s, "a", 3).Items, lines, bytes)
					if want := lastOf(text, lines, bytes); code != api.OK || got.Text() != want {
						t.Fatalf("%q, %d, %d: %q; want %q", text, lines, bytes, got.Text(), want)
					}
				}
			}
		}
	}
}

// Promise 23.3: some logs that are begun anew, with what becomes of them.
func TestBegin(t *testing.T) {
	for _, x := range []struct {
		n           int
		ahead, then files
	}{
		// Without a newest generation nothing is done.
		{1, files{}, files{}},
		{3, files{}, files{}},
		{3, files{"a.1": {"1", 0}}, files{"a.1": {"1", 0}}},
		{2, files{"a.1": {"1", 0}}, files{"a.1": {"1", 0}}},
		{3, files{"a.1": {"1", 1}, "a.2": {"2", 0}, "b": {"x", 0}}, files{"a.1": {"1", 1}, "a.2": {"2", 0}, "b": {"x", 0}}},
		// With one all are turned.
		{1, files{"a": {"0", 0}}, files{}},
		{1, files{"a": {"0", 0}, "a.1": {"1", 0}}, files{"a.1": {"1", 0}}},
		{2, files{"a": {"01", 1}}, files{"a.1": {"01", 1}}},
		{2, files{"a": {"01", 1}, "a.1": {"1", 1}}, files{"a.1": {"01", 1}}},
		{3, files{"a": {"01", 1}, "a.1": {"1", 1}, "a.2": {"2", 0}, "a.3": {"3", 0}, "b": {"x", 0}}, files{"a.1": {"01", 1}, "a.2": {"1", 1}, "a.3": {"3", 0}, "b": {"x", 0}}},
		{4, files{"a": {"01", 1}, "a.2": {"2", 0}}, files{"a.1": {"01", 1}, "a.3": {"2", 0}}},
		// One without bytes is there, too; and it does not matter what stands in it.
		{1, files{"a": {"", 0}}, files{}},
		{2, files{"a": {"", 0}, "a.1": {"1", 1}}, files{"a.1": {"", 0}}},
		{3, files{"a": {"", 0}, "a.1": {"", 0}}, files{"a.1": {"", 0}, "a.2": {"", 0}}},
		{2, files{"a": {bytesOf(data(1, "x")), 15}}, files{"a.1": {bytesOf(data(1, "x")), 15}}},
		{2, files{"a": {bytesOf(data(1, "x")) + "W", 16}}, files{"a.1": {bytesOf(data(1, "x")) + "W", 16}}},
	} {
		s := disk(t, x.ahead)
		// Once it is begun, it is begun: there is no newest one any more.
		for range 3 {
			told(t, Begin(s, "a", x.n), api.OK)
			holds(t, s, x.then)
		}
		begins(t, x.ahead, "a", x.n)
	}
}

// Promise 23.3: each choice of some generations, of each number that there may be; how many there are is held from 1 to 16.
func TestBeginEach(t *testing.T) {
	log := func(base string, bits int) files {
		l := files{}
		for i := 0; bits>>i != 0; i++ {
			if bits>>i&1 == 1 {
				bytes := strings.Repeat("x", i%4)
				l[called(base, i)] = kept{bytes, len(bytes) / 2}
			}
		}
		return l
	}
	for n := -1; n <= 7; n++ {
		for bits := range 1 << 8 {
			begins(t, log("web1.log", bits), "web1.log", n)
		}
	}
	for n := range counts {
		for _, bits := range []int{0, 1, 2, 3, 1<<15 - 2, 1<<15 - 1, 1 << 15, 1<<15 | 1, 1<<16 - 2, 1<<16 - 1, 1<<20 - 2, 1<<20 - 1} {
			l := log("a", bits)
			for i, name := range near {
				if _, ok := l[name]; !ok {
					l[name] = kept{name, i % len(name)}
				}
			}
			begins(t, l, "a", n)
		}
	}
	// Where an older one would get a name that no file may have, that is told, and nothing is done.
	for size, most := range map[int]int{60: 17, 61: 15, 62: 9, 63: 0, 64: 0} {
		base := strings.Repeat("l", size)
		for n := range counts {
			begins(t, log(base, 1<<(most+1)-1), base, n)
			begins(t, log(base, 1<<(most+1)-2), base, n)
			begins(t, log(base, 1), base, n)
		}
	}
	s := disk(t, log(strings.Repeat("l", 63), 1))
	told(t, Begin(s, strings.Repeat("l", 63), 2), api.ErrArg)
	s.Fail(1)
	told(t, Begin(s, strings.Repeat("l", 63), 2), api.ErrIO)
}

// Promise 23.3: an error of any call of the store is told, and ends it.
func TestBeginFails(t *testing.T) {
	l := files{"a": {"0", 0}, "a.1": {"11", 1}, "a.2": {"222", 0}}
	for _, n := range []int{1, 2, 3, 4, 16} {
		s := disk(t, l)
		s.Fail(3)
		for left := 2; left >= 0; left-- {
			told(t, Begin(s, "a", n), api.ErrIO)
			fails(t, s, left)
			holds(t, s, l)
		}
		told(t, Begin(s, "a", n), api.OK)
		after, _ := turned(l, "a", n)
		holds(t, s, after)
	}
}

// Promise 23.3, of a log whose name may be no file's, and of a store that nobody made: there is no newest generation.
func TestBeginNothing(t *testing.T) {
	l := files{"a": {"abc", 1}, ".1": {"d", 0}, ".2": {"e", 1}}
	s := disk(t, l)
	s.Fail(1)
	for n := range counts {
		for _, base := range noNames {
			told(t, Begin(s, base, n), api.OK)
			told(t, Begin(&store.Store{}, base, n), api.OK)
		}
		told(t, Begin(nil, "a", n), api.OK)
		told(t, Begin(&store.Store{}, "a", n), api.OK)
	}
	fails(t, s, 1)
	holds(t, s, l)
}

// Promise 23.4: the time of the last one, whatever it is, and whatever the others are.
func TestLast(t *testing.T) {
	ats := []int{0, 1, 7, last - 1, last, last + 1, -1, math.MinInt, math.MaxInt}
	for _, at := range ats {
		for _, kind := range []int{0, 1, 2, 3, 15, 16, -1} {
			x := api.Item{Kind: kind, At: at, Body: "9"}
			for _, other := range ats {
				y := data(other, "y")
				for _, l := range [][]api.Item{{x}, {y, x}, {x, y, x}, {y, y, y, x}, []api.Item{x, y}[:1], []api.Item{y, x, y, y}[:2]} {
					if got := Last(l); got != at {
						t.Fatalf("Last of %v: %d", l, got)
					}
				}
			}
			if got := Last([]api.Item{x}[:0]); got != 0 {
				t.Fatal(got)
			}
		}
	}
	for _, l := range [][]api.Item{nil, {}} {
		if got := Last(l); got != 0 {
			t.Fatal(got)
		}
	}
	long := make([]api.Item, 1<<20)
	long[len(long)-1].At = 5
	if got := Last(long); got != 5 {
		t.Fatal(got)
	}
}

// chance is the bytes of a generation by chance: items, some of which may not be, some bytes turned, the end cut off.
func chance(r *rand.Rand) string {
	bodies := []string{"", "1", "12", "007", "1099511627776", "549755813888", "a\nb", "W", "\x00"}
	var l []api.Item
	for range r.Intn(6) {
		x := api.Item{Kind: 1 + r.Intn(4), At: r.Intn(1000), Body: bodies[r.Intn(len(bodies))]}
		switch r.Intn(30) {
		case 0:
			x.Kind = r.Intn(256)
		case 1:
			x.At = last + r.Intn(3) - 1
		case 2:
			x.Body = strings.Repeat("z", 4090+r.Intn(10))
		}
		l = append(l, x)
	}
	bytes := []byte(bytesOf(l...))
	if len(bytes) > 0 && r.Intn(4) == 0 {
		bytes[r.Intn(len(bytes))] ^= 1 << r.Intn(8)
	}
	if r.Intn(3) == 0 {
		bytes = bytes[:r.Intn(len(bytes)+1)]
	}
	return string(bytes)
}

// Promises 23.1 to 23.4: logs by chance, loaded, begun anew, and loaded again.
func TestChance(t *testing.T) {
	r := rand.New(rand.NewSource(23))
	bases := []string{"a", "a.1", "web1.log", strings.Repeat("l", 61), strings.Repeat("l", 62), strings.Repeat("l", 63)}
	for range 4000 {
		base, n := bases[r.Intn(len(bases))], r.Intn(20)-1
		if _, ok := counts[n]; !ok {
			n = 1 << 62
		}
		l := files{}
		for i := range 18 {
			if name := called(base, i); mayName(name) && r.Intn(3) > 0 {
				bytes := chance(r)
				l[name] = kept{bytes, r.Intn(len(bytes) + 1)}
			}
		}
		s := disk(t, l)
		items, torn, lost := plainly(l, base, n)
		loads(t, s, base, n, items, torn, lost)
		tails(t, items, 1+r.Intn(6), 1+r.Intn(40))
		begins(t, l, base, n)
		after, c := begun(l, base, n)
		told(t, Begin(s, base, n), c)
		items, torn, lost = plainly(after, base, n)
		loads(t, s, base, n, items, torn, lost)
	}
}

// life is a log over crashes: what it took that no crash cut off, all items unlike one another; and how many of the first ones are sure.
type life struct {
	s    *store.Store
	j    *journal.Journal
	base string
	n    int
	size int
	took []api.Item
	sure int
	next int
}

// anew begins the log anew, as a console does.
func (k *life) anew(t *testing.T) {
	t.Helper()
	before := Load(k.s, k.base, k.n).Items
	did(t, Begin(k.s, k.base, k.n))
	// The oldest generation may have gone by that: what is left is the end of what there was.
	left := Load(k.s, k.base, k.n).Items
	if from := len(before) - len(left); from < 0 || !slices.Equal(left, before[from:]) {
		t.Fatalf("%v is not the end of %v", left, before)
	}
	k.took, k.sure = left, len(left)
	j, code := journal.New(k.s, k.base, k.n, k.size)
	if code != api.OK || j == nil {
		t.Fatal(code)
	}
	k.j = j
	if _, ok := k.s.Read(k.base); ok {
		t.Fatal("what comes does not begin a generation")
	}
}

// add is one item more.
func (k *life) add(size int) {
	k.next++
	if x := (api.Item{Kind: 1 + k.next%2, At: k.next, Body: strings.Repeat("b", size)}); k.j.Add(x) {
		k.took = append(k.took, x)
	}
}

// reopen tells what was lost, if anything was.
func (k *life) reopen() {
	k.next++
	lost := k.j.Lost()
	if k.j.Reopen(k.next) && lost > 0 {
		k.took = append(k.took, gap(k.next, strconv.Itoa(lost)))
	}
}

// piece: what a log tells is a piece of what it took, without a hole, up to what was sure at least.
func (k *life) piece(t *testing.T, s *store.Store) (from, to int) {
	t.Helper()
	got := Load(s, k.base, k.n)
	if len(got.Items) == 0 {
		if k.n > 1 && k.sure > 0 {
			t.Fatalf("nothing is told; %d of %d items were sure", k.sure, len(k.took))
		}
		return 0, 0
	}
	from = slices.Index(k.took, got.Items[0])
	to = from + len(got.Items)
	if from < 0 || to > len(k.took) || !slices.Equal(got.Items, k.took[from:to]) {
		t.Fatalf("%v is no piece of %v", got.Items, k.took)
	}
	if to < k.sure {
		t.Fatalf("ends behind %d items; %d were sure", to, k.sure)
	}
	if got.Lost != lostIn(k.took[from:to]) || Last(got.Items) != k.took[to-1].At {
		t.Fatalf("lost %d, last %d", got.Lost, Last(got.Items))
	}
	return from, to
}

// crash cuts off what was not sure, but for so many bytes of it.
func (k *life) crash(t *testing.T, keep int) {
	t.Helper()
	k.s.Crash(slices.Repeat([]int{keep}, len(k.s.Names()))...)
	_, to := k.piece(t, k.s)
	k.took, k.sure = k.took[:to], to
}

// Promise 23.5: life behind life, each cut off by a crash, however much of it that leaves.
func TestLives(t *testing.T) {
	r := rand.New(rand.NewSource(7))
	for range 400 {
		k := &life{base: "web1.log", n: 1 + r.Intn(5), size: 64 + r.Intn(100)}
		k.s = disk(t, files{})
		for range 10 {
			k.anew(t)
			for range r.Intn(25) {
				k.add(r.Intn(30))
				if r.Intn(9) == 0 && k.j.Sync() {
					k.sure = len(k.took)
				}
				if r.Intn(12) == 0 {
					k.s.Fail(1 + r.Intn(3))
				}
				if r.Intn(9) == 0 {
					k.reopen()
				}
				if _, to := k.piece(t, k.s); to != len(k.took) && !(k.n == 1 && to == 0) {
					t.Fatalf("without a crash it ends behind %d of %d items", to, len(k.took))
				}
			}
			k.crash(t, r.Intn(60))
		}
	}
}

// Promise 23.5: two crashes, each at each place.
func TestEachTwoCuts(t *testing.T) {
	for first := range 46 {
		for second := range 46 {
			k := &life{s: disk(t, files{}), base: "a", n: 3, size: 64}
			all := 0
			for _, keep := range []int{first, second} {
				k.anew(t)
				k.add(0)
				if k.j.Sync() {
					k.sure = len(k.took)
				}
				k.add(1)
				k.add(2)
				k.crash(t, keep)
				// Of what is not sure there are 15 bytes, and 16.
				ends := 1
				if keep >= 15 {
					ends = 2
				}
				if keep >= 31 {
					ends = 3
				}
				torn := min(keep, 31) - []int{0, 0, 15, 31}[ends]
				if got := Load(k.s, "a", 1); len(got.Items) != ends || got.Torn != torn {
					t.Fatalf("%d bytes left: %v", keep, got)
				}
				all += ends
			}
			// Nothing of the first life goes: of three generations two are there.
			if from, to := k.piece(t, k.s); from != 0 || to != all {
				t.Fatalf("%d and %d bytes left: items from %d to %d of %d", first, second, from, to, all)
			}
		}
	}
}

// Promise 23.5: what is begun anew without anything that comes goes no further.
func TestNothingComes(t *testing.T) {
	k := &life{s: disk(t, files{}), base: "a", n: 2, size: 64}
	k.anew(t)
	k.add(5)
	k.crash(t, 100)
	for range 20 {
		k.anew(t)
		k.crash(t, 0)
		loads(t, k.s, "a", 2, k.took, 0, 0)
		if len(k.took) != 1 {
			t.Fatal(k.took)
		}
	}
}

// Promise P0: many items, and long ones, end soon.
func TestMany(t *testing.T) {
	l, one := files{}, bytesOf(gap(5, "1"))
	for i := range 16 {
		l[called("a", i)] = kept{strings.Repeat(one, 1<<16) + "W", 0}
	}
	s := disk(t, l)
	got := Load(s, "a", 16)
	if len(got.Items) != 1<<20 || got.Torn != 16 || got.Lost != 1<<20 || Last(got.Items) != 5 {
		t.Error(len(got.Items), got.Torn, got.Lost)
	}
	s = disk(t, files{"a": {strings.Repeat("W", store.Most), 0}})
	loads(t, s, "a", 16, nil, store.Most, 0)
	long := slices.Repeat([]api.Item{data(1, strings.Repeat("x", 4095)+"\n")}, 1<<14)
	w, code := Tail(long, 1024, 1<<16)
	if code != api.OK || w.Came() != 1<<26 || w.Len() != 1<<16 {
		t.Error(code, w.Came(), w.Len())
	}
	w, code = Tail(slices.Repeat([]api.Item{data(1, "\n")}, 1<<21), 1024, 1<<16)
	if code != api.OK || w.Came() != 1<<21 || w.Len() != 1024 {
		t.Error(code, w.Came(), w.Len())
	}
}

// Promises 23.1 to 23.4, of any bytes.
func FuzzRestore(f *testing.F) {
	f.Add(bytesOf(data(1, "a\n"), gap(2, "3")), bytesOf(note(5, "x"))+"W\x01", "x", 3, 2, 8)
	f.Add("W", "", bytesOf(gap(9, "1099511627776"), gap(last, "1")), 2, 1, 1)
	f.Add("", bytesOf(gap(0, "01"), data(1, "W")), "WW", 1, 1024, 1<<16)
	f.Fuzz(func(t *testing.T, newest, older, oldest string, n, lines, bytes int) {
		n = min(max(n, -1), 18)
		l := files{"a": {newest, len(newest) / 2}, "a.1": {older, len(older)}, "a.2": {oldest, 0}}
		items, torn, lost := plainly(l, "a", n)
		loads(t, disk(t, l), "a", n, items, torn, lost)
		if lines >= 1 && lines <= 1024 && bytes >= 1 && bytes <= 1<<16 {
			tails(t, items, lines, bytes)
		}
		begins(t, l, "a", n)
		delete(l, "a")
		begins(t, l, "a", n)
		if len(items) > 0 && Last(items) != items[len(items)-1].At {
			t.Fatal(Last(items))
		}
	})
}

package mark

import (
	"fmt"
	"math"
	"math/rand"
	"slices"
	"strings"
	"testing"
	"time"

	"wheelhouse/api"
)

const (
	lastStamp = 252455615999  // the last tick that has a stamp
	lastTick  = 1099511627776 // the last tick of all
	first     = "[2000-01-01 00:00:00] "
	second    = "[2000-01-01 00:00:01] "
	third     = "[2000-01-01 00:00:02] "
)

// stampless: times that have no stamp, ticks or not.
var stampless = []int{math.MinInt, math.MinInt + 1, -lastTick, -lastStamp, -86400, -2, -1, lastStamp + 1, lastStamp + 2, lastTick - 1, lastTick, lastTick + 1, 1 << 62, math.MaxInt}

// otherKinds: kinds of which there is no text, such as end as those of which there is one, too.
var otherKinds = []int{
	math.MinInt, math.MinInt + 1, -1 << 32, -257, -255, -3, -2, -1, 0, 4, 5, 6, 7, 8, 9, 10, 11, 12, 13, 14, 15, 16, 17, 65, 87, 129,
	255, 256, 257, 258, 259, 1<<16 + 1, 1<<16 + 2, 1<<32 + 1, 1<<32 + 2, 1<<32 + 3, math.MaxInt,
}

// someTexts: bytes and how they are shown, ordinary ones and such as look like something else.
var someTexts = []string{
	"", "a", "ab", "ann in", "7", "12 lost", " ", "  ", "--", " -- ", "lost", "[", "] ", first, second + "-- ann in --", first + "ab\n", `\`, `\n`, `\x00`, "a\\",
	"\n", "\n\n", "\n\n\n", "a\n", "\na", "a\nb", "a\n\nb\n", "\n\na\n\nb\n\n", "login: root\r\nPassword:", "\r", "\r\n", "\n\r", "\r\r\n\n", "a\rb", "\t", "\v\f", "\x00", "\x00\n", "\n\x00",
	"\x1b[0m", "\x7f\n", "\x80", "\xff\n\xff", "\xc3\xa9", "\u00e9\n\u20ac", "\u2028", "\u0085", "\xc2\n\x85", "\x8a", "\x0a", "\xe2\x80", "%s%d%!", "\"'`",
}

// data, note and gap are items of these kinds; kind is one of some other.
func data(at int, s string) api.Item { return api.Item{Kind: 1, At: at, Body: s} }

func note(at int, s string) api.Item { return api.Item{Kind: 2, At: at, Body: s} }

func gap(at int, s string) api.Item { return api.Item{Kind: 3, At: at, Body: s} }

func kind(n, at int, s string) api.Item { return api.Item{Kind: n, At: at, Body: s} }

// items are items, one behind the other.
func items(l ...api.Item) []api.Item { return l }

// stamped is a time's stamp, as package time tells it.
func stamped(at int) string {
	if at < 0 || at > lastStamp {
		return "[] "
	}
	return time.Unix(946684800+int64(at), 0).UTC().Format("[2006-01-02 15:04:05] ")
}

// shown is bytes as signs that can be seen.
func shown(s string) string {
	signs := ""
	for _, c := range []byte(s) {
		switch {
		case c == '\\':
			signs += "\\\\"
		case c == 10:
			signs += "\\n"
		case c == 13:
			signs += "\\r"
		case c == 9:
			signs += "\\t"
		case c >= 32 && c <= 126:
			signs += string(rune(c))
		default:
			signs += fmt.Sprintf("\\x%02x", c)
		}
	}
	return signs
}

// begun: was there any text, and did it not end with a line feed?
func begun(text string) bool {
	return text != "" && !strings.HasSuffix(text, "\n")
}

// plain is an item's text behind that of all ahead, byte by byte.
func plain(ahead string, x api.Item) string {
	text := ahead
	own := ""
	switch x.Kind {
	case 1:
		for _, c := range []byte(x.Body) {
			if !begun(text) {
				text += stamped(x.At)
			}
			text += string([]byte{c})
		}
		return text[len(ahead):]
	case 2:
		own = stamped(x.At) + "-- " + shown(x.Body) + " --\n"
	case 3:
		own = stamped(x.At) + "-- " + shown(x.Body) + " lost --\n"
	}
	if own != "" && begun(ahead) {
		own = "\n" + own
	}
	return own
}

// adds: an item has this text behind those that the marker was handed ahead, and a line is begun, or not.
func adds(t *testing.T, m *Marker, x api.Item, want string, open bool) {
	t.Helper()
	if got := m.Add(x); got != want {
		t.Errorf("Add(%.100q): %.300q; want %.300q", fmt.Sprint(x), got, want)
	}
	stands(t, m, open)
}

// stands: a line is begun, or not.
func stands(t *testing.T, m *Marker, open bool) {
	t.Helper()
	for range 2 {
		if got := m.Open(); got != open {
			t.Errorf("Open: %v; want %v", got, open)
		}
	}
}

// reads: items have this text.
func reads(t *testing.T, want string, l ...api.Item) {
	t.Helper()
	if got := All(l); got != want {
		t.Errorf("All(%.200q): %.300q; want %.300q", fmt.Sprint(l), got, want)
	}
}

// markers are one that has no line begun, as var makes it, and such as come to the same by items, each with what it was handed.
func markers(l ...[]api.Item) []*Marker {
	var m Marker
	made := []*Marker{&m}
	for _, ahead := range l {
		var m Marker
		for _, x := range ahead {
			m.Add(x)
		}
		made = append(made, &m)
	}
	return made
}

// closed are markers that have no line begun; open are such that have one.
func closed() []*Marker {
	return markers(nil, items(data(5, "")), items(data(5, "a\n")), items(data(5, "\n")), items(data(5, "ab"), data(6, "\n")),
		items(note(5, "a")), items(gap(5, "a")), items(data(5, "a"), note(5, "")), items(data(5, "a"), gap(5, "")), items(kind(4, 5, "a")))
}

func open() []*Marker {
	return markers(items(data(5, "a")), items(data(5, "\na")), items(data(5, "a\nb"), data(5, "")), items(data(5, "a\n"), data(6, "b")),
		items(note(5, "a"), data(5, "\r")), items(gap(5, "a"), data(5, "\x00")), items(data(-1, "a")), items(data(5, "a"), kind(0, 5, "\n")))[1:]
}

// The chapter's example.
func TestExample(t *testing.T) {
	reads(t, "[2000-01-01 00:00:00] ab\n[2000-01-01 00:00:00] c\n[2000-01-01 00:00:01] -- ann in --\n", data(0, "ab\nc"), note(1, "ann in"))
	var m Marker
	adds(t, &m, data(0, "ab\nc"), "[2000-01-01 00:00:00] ab\n[2000-01-01 00:00:00] c", true)
	adds(t, &m, note(1, "ann in"), "\n[2000-01-01 00:00:01] -- ann in --\n", false)
}

// Promise 20.1: the kinds are those of the document.
func TestKinds(t *testing.T) {
	if api.ItemData != 1 || api.ItemNote != 2 || api.ItemGap != 3 {
		t.Error(api.ItemData, api.ItemNote, api.ItemGap)
	}
}

// Promise 20.1: as var makes it a marker has no line begun, and asking does not begin one.
func TestNew(t *testing.T) {
	var m Marker
	stands(t, &m, false)
	adds(t, &m, data(0, "a"), first+"a", true)
	stands(t, new(Marker), false)
	stands(t, &Marker{}, false)
}

// Promise 20.1: what a console told, where no line is begun: a stamp ahead of each byte with which one begins.
func TestData(t *testing.T) {
	for _, x := range []struct {
		body, want string
		open       bool
	}{
		{"", "", false},
		{"a", second + "a", true},
		{"abc", second + "abc", true},
		{"a\n", second + "a\n", false},
		{"ab\ncd", second + "ab\n" + second + "cd", true},
		{"ab\ncd\n", second + "ab\n" + second + "cd\n", false},
		{"\n", second + "\n", false},
		{"\n\n", second + "\n" + second + "\n", false},
		{"\n\n\na", second + "\n" + second + "\n" + second + "\n" + second + "a", true},
		{"a\n\nb", second + "a\n" + second + "\n" + second + "b", true},
		{"\na", second + "\n" + second + "a", true},
		// No other byte ends a line, and none is told in another way.
		{"a\r\nb\r\n", second + "a\r\n" + second + "b\r\n", false},
		{"\r", second + "\r", true},
		{"a\rb", second + "a\rb", true},
		{"a\n\rb", second + "a\n" + second + "\rb", true},
		{"a\v\f\x00\x85\u2028\u0085b", second + "a\v\f\x00\x85\u2028\u0085b", true},
		{"\\n", second + "\\n", true},
		{"\x00\n\xff", second + "\x00\n" + second + "\xff", true},
		{first + "a\n" + first + "b", second + first + "a\n" + second + first + "b", true},
		{"-- ann in --\n", second + "-- ann in --\n", false},
	} {
		for _, m := range closed() {
			adds(t, m, data(1, x.body), x.want, x.open)
		}
	}
}

// Promise 20.1: what a console told, where a line is begun: that line has its stamp, of another time or not.
func TestDataGoesOn(t *testing.T) {
	for _, x := range []struct {
		body, want string
		open       bool
	}{
		{"", "", true},
		{"b", "b", true},
		{"\n", "\n", false},
		{"b\n", "b\n", false},
		{"b\nc", "b\n" + second + "c", true},
		{"\nc", "\n" + second + "c", true},
		{"\n\n", "\n" + second + "\n", false},
		{"\n\nc\nd", "\n" + second + "\n" + second + "c\n" + second + "d", true},
		{"\r", "\r", true},
		{"\r\n", "\r\n", false},
		{first, first, true},
	} {
		for _, m := range open() {
			adds(t, m, data(1, x.body), x.want, x.open)
		}
	}
}

// Promise 20.1: a line has the time at which it began, not that at which it went on, or the one ahead ended.
func TestDataTimes(t *testing.T) {
	var m Marker
	adds(t, &m, data(0, "a"), first+"a", true)
	adds(t, &m, data(1, "b"), "b", true)
	adds(t, &m, data(2, "c\n"), "c\n", false)
	adds(t, &m, data(1, ""), "", false)
	adds(t, &m, data(0, "d\ne"), first+"d\n"+first+"e", true)
	adds(t, &m, data(2, "f\ng"), "f\n"+third+"g", true)
	adds(t, &m, data(1, "\n"), "\n", false)
	adds(t, &m, data(1, "\n"), second+"\n", false)
	// Times may fall.
	adds(t, &m, data(0, "h"), first+"h", true)
	adds(t, &m, data(lastStamp, "\ni"), "\n[9999-12-31 23:59:59] i", true)
}

// Promise 20.1: a note is a line of its own, ahead of which one that is begun ends.
func TestNote(t *testing.T) {
	for body, show := range map[string]string{
		"": "", "ann in": "ann in", "a\nb\n": `a\nb\n`, "\n": `\n`, "\r\t\\": `\r\t\\`, "\x00\x1f\x7f\x80\xff": `\x00\x1f\x7f\x80\xff`,
		"-- a --": "-- a --", " ": " ", "3 lost": "3 lost", "\xc3\xa9": `\xc3\xa9`, first: first,
	} {
		for _, m := range closed() {
			adds(t, m, note(1, body), second+"-- "+show+" --\n", false)
			adds(t, m, note(2, body), third+"-- "+show+" --\n", false)
		}
		for _, m := range open() {
			adds(t, m, note(1, body), "\n"+second+"-- "+show+" --\n", false)
			adds(t, m, note(2, body), third+"-- "+show+" --\n", false)
		}
	}
}

// Promise 20.1: a gap is likewise one, with a blank and lost behind what it says.
func TestGap(t *testing.T) {
	for body, show := range map[string]string{
		"": "", "3": "3", "12": "12", "a\nb\n": `a\nb\n`, "\n": `\n`, "\r\t\\": `\r\t\\`, "\x00\x1f\x7f\x80\xff": `\x00\x1f\x7f\x80\xff`,
		"lost": "lost", " ": " ", "3 lost": "3 lost", "\xc3\xa9": `\xc3\xa9`,
	} {
		for _, m := range closed() {
			adds(t, m, gap(1, body), second+"-- "+show+" lost --\n", false)
			adds(t, m, gap(2, body), third+"-- "+show+" lost --\n", false)
		}
		for _, m := range open() {
			adds(t, m, gap(1, body), "\n"+second+"-- "+show+" lost --\n", false)
			adds(t, m, gap(2, body), third+"-- "+show+" lost --\n", false)
		}
	}
}

// Promise 20.1: of other kinds there is nothing, and what is begun is so still.
func TestOthers(t *testing.T) {
	for _, n := range otherKinds {
		for _, body := range someTexts {
			x := kind(n, 1, body)
			for _, m := range closed()[:3] {
				adds(t, m, x, "", false)
			}
			for _, m := range open()[:3] {
				adds(t, m, x, "", true)
			}
			reads(t, "", x, x)
			reads(t, first+"ab\n", data(0, "a"), x, data(1, "b\n"), x)
			reads(t, first+"a\n"+first+"b\n"+second+"-- c --\n", data(0, "a\n"), x, data(0, "b"), x, note(1, "c"), x)
			if got := Data(items(data(0, "a"), x, data(0, "b"), x)); got != "ab" {
				t.Errorf("Data with kind %d between: %q", n, got)
			}
		}
	}
	if got := new(Marker).Add(api.Item{}); got != "" {
		t.Errorf("Add of no item: %q", got)
	}
}

// Promise 20.1: what has no stamp has an empty one between the brackets; what begins with it is begun none the less.
func TestStampless(t *testing.T) {
	for _, at := range stampless {
		var m Marker
		adds(t, &m, data(at, "a\nb"), "[] a\n[] b", true)
		adds(t, &m, data(at, "c"), "c", true)
		adds(t, &m, note(at, "ann in"), "\n[] -- ann in --\n", false)
		adds(t, &m, gap(at, "3"), "[] -- 3 lost --\n", false)
		adds(t, &m, data(at, "\n"), "[] \n", false)
	}
}

// Promise 20.1: stamps of ordinary times, and of the first and the last one.
func TestStamps(t *testing.T) {
	for at, stamp := range map[int]string{
		0: first, 1: second, 59: "[2000-01-01 00:00:59] ", 86399: "[2000-01-01 23:59:59] ", 86400: "[2000-01-02 00:00:00] ",
		86400 * 59: "[2000-02-29 00:00:00] ", 848343905: "[2026-11-18 19:05:05] ", lastStamp - 1: "[9999-12-31 23:59:58] ", lastStamp: "[9999-12-31 23:59:59] ",
	} {
		var m Marker
		adds(t, &m, data(at, "a\nb"), stamp+"a\n"+stamp+"b", true)
		adds(t, &m, note(at, "ann in"), "\n"+stamp+"-- ann in --\n", false)
		adds(t, &m, gap(at, "3"), stamp+"-- 3 lost --\n", false)
	}
	step := lastStamp/20011 | 1
	for at := 0; at <= lastStamp; at += step {
		stamp := stamped(at)
		reads(t, stamp+"a\n"+stamp+"-- b --\n"+stamp+"-- c lost --\n", data(at, "a"), note(at, "b"), gap(at, "c"))
	}
}

// Promise 20.1: each byte, told, noted and lost.
func TestEachByte(t *testing.T) {
	for c := range 256 {
		s := string([]byte{byte(c)})
		ends := s == "\n"
		for _, m := range closed() {
			adds(t, m, data(1, s), second+s, !ends)
		}
		for _, m := range open() {
			adds(t, m, data(1, s), s, !ends)
		}
		between := "a" + s + "b"
		if ends {
			between = "a\n" + first + "b"
		}
		reads(t, first+between, data(0, "a"+s+"b"))
		reads(t, first+"-- a"+shown(s)+"b --\n", note(0, "a"+s+"b"))
		reads(t, first+"-- a"+shown(s)+"b lost --\n", gap(0, "a"+s+"b"))
	}
}

// Promise 20.1: a marker that is nil tells nothing.
func TestNil(t *testing.T) {
	var m *Marker
	for _, n := range append([]int{1, 2, 3}, otherKinds...) {
		for _, body := range someTexts {
			adds(t, m, kind(n, 0, body), "", false)
		}
	}
}

// Promise 20.2: the texts of all, one behind the other.
func TestAll(t *testing.T) {
	reads(t, "")
	reads(t, "", items()...)
	reads(t, "", data(0, ""), data(1, ""))
	reads(t, first+"a", data(0, "a"))
	reads(t, first+"-- a --\n", note(0, "a"))
	reads(t, first+"-- a lost --\n", gap(0, "a"))
	reads(t, first+"ab\n"+third+"c", data(0, "a"), data(1, "b"), data(2, "\nc"))
	reads(t, first+"a\n"+second+"-- b --\n"+third+"c\n"+first+"-- 4 lost --\n"+second+"-- e --\n", data(0, "a"), note(1, "b"), data(2, "c\n"), gap(0, "4"), note(1, "e"))
	reads(t, first+"-- a --\n"+second+"-- 2 lost --\n"+third+"b\n"+first+"-- 3 lost --\n", note(0, "a"), gap(1, "2"), data(2, "b"), gap(0, "3"))
	reads(t, first+"\n"+second+"\n"+third+"\n", data(0, "\n"), data(1, "\n"), data(2, "\n"))
	// Each call begins anew, whatever the one ahead ended with.
	for range 3 {
		reads(t, first+"a", data(0, "a"))
		reads(t, second+"b", data(1, "b"))
		reads(t, first+"-- a --\n", note(0, "a"))
	}
}

// tells: these are the bytes that a console told.
func tells(t *testing.T, want string, l ...api.Item) {
	t.Helper()
	if got := Data(l); got != want {
		t.Errorf("Data(%.200q): %.300q; want %.300q", fmt.Sprint(l), got, want)
	}
}

// Promise 20.2: the bytes that a console told, as they came, whenever that was.
func TestBytes(t *testing.T) {
	tells(t, "")
	tells(t, "", items()...)
	tells(t, "", data(0, ""), data(1, ""))
	tells(t, "", note(0, "a"), gap(1, "2"), kind(4, 0, "b"), kind(0, 0, "c"))
	tells(t, "ab\nc", data(0, "ab\nc"))
	tells(t, "ab\nc", data(0, "a"), note(1, "ann in"), data(2, "b"), gap(0, "3"), data(-7, "\n"), kind(15, 0, "x"), data(lastTick, "c"))
	all := ""
	var l []api.Item
	for i, s := range someTexts {
		all += s
		l = append(l, note(i, s), data(i, s), gap(i, s))
	}
	tells(t, all, l...)
	for c := range 256 {
		tells(t, string([]byte{byte(c), byte(c)}), data(c, string([]byte{byte(c)})), data(c, string([]byte{byte(c)})))
	}
}

// asPlainly: items have the text that they have byte by byte, one by one and all at once.
func asPlainly(t *testing.T, l []api.Item) {
	t.Helper()
	var m Marker
	text, all := "", ""
	for i, x := range l {
		want := plain(text, x)
		if got := m.Add(x); got != want {
			t.Fatalf("Add(%.200q) behind %.300q: %.300q; want %.300q", fmt.Sprint(x), text, got, want)
		}
		text += want
		if m.Open() != begun(text) {
			t.Fatalf("Open behind %.300q: %v", text, m.Open())
		}
		if got := All(l[:i+1]); got != text {
			t.Fatalf("All(%.300q): %.300q; want %.300q", fmt.Sprint(l[:i+1]), got, text)
		}
		if x.Kind == 1 {
			all += x.Body
		}
		if got := Data(l[:i+1]); got != all {
			t.Fatalf("Data(%.300q): %.300q; want %.300q", fmt.Sprint(l[:i+1]), got, all)
		}
	}
	stampEach(t, text, l)
}

// stampEach: each line of a text begins with the stamp of one of the items' times.
func stampEach(t *testing.T, text string, l []api.Item) {
	t.Helper()
	stamps := map[string]bool{}
	for _, x := range l {
		stamps[stamped(x.At)] = true
	}
	for _, line := range strings.Split(strings.TrimSuffix(text, "\n"), "\n") {
		stamp, _, ok := strings.Cut(line, "] ")
		if text != "" && (!ok || !stamps[stamp+"] "]) {
			t.Fatalf("a line begins without a stamp: %.300q", line)
		}
	}
}

// Promises 20.1 to 20.3: each row of so many items of some.
func TestRows(t *testing.T) {
	some := items(data(0, ""), data(1, "a"), data(2, "\n"), data(3, "b\n"), data(4, "\nc"), data(5, "d\ne"), note(6, ""), note(7, "f\n"), gap(8, "9"), kind(4, 9, "g\n"), data(-1, "\nh\n"))
	var rows func(l []api.Item)
	rows = func(l []api.Item) {
		asPlainly(t, l)
		if len(l) == 4 {
			return
		}
		for _, x := range some {
			rows(append(slices.Clone(l), x))
		}
	}
	rows(nil)
	for _, a := range someTexts {
		for _, b := range someTexts {
			asPlainly(t, items(data(0, a), data(1, b), note(2, a), data(3, b), gap(4, b), data(5, a+b)))
		}
	}
}

// Promise 20.3: it does not matter in which pieces bytes come.
func TestPieces(t *testing.T) {
	for _, whole := range append(someTexts, "ab\n\ncd\r\nef\n\n", strings.Join(someTexts, ""), strings.Join(someTexts, "\n")) {
		want := All(items(data(1, whole)))
		for i := range len(whole) + 1 {
			reads(t, want, data(1, whole[:i]), data(1, whole[i:]))
			reads(t, want, data(1, whole[:i]), data(1, ""), kind(4, 2, "x"), data(1, whole[i:]))
			middle := i + (len(whole)-i)/2
			reads(t, want, data(1, whole[:i]), data(1, whole[i:middle]), data(1, whole[middle:]))
		}
		var each []api.Item
		for i := range len(whole) {
			each = append(each, data(1, whole[i:i+1]))
		}
		reads(t, want, each...)
		tells(t, whole, each...)
		// What comes behind is as well the same.
		reads(t, All(items(data(1, whole), note(2, "x"))), append(each, note(2, "x"))...)
		reads(t, All(items(data(1, whole), data(2, "x\ny"))), append(each, data(2, "x\ny"))...)
	}
}

// Promise 20.3: in all pieces there are of some bytes.
func TestAllPieces(t *testing.T) {
	for _, whole := range []string{"a\n\nbc\n", "\n\n\n\n", "ab\ncd\ne", "abcdefg"} {
		want := All(items(data(1, whole)))
		// Each bit tells whether a piece ends behind that byte.
		for ends := range 1 << len(whole) {
			var l []api.Item
			from := 0
			for i := range len(whole) {
				if ends>>i&1 == 1 || i == len(whole)-1 {
					l = append(l, data(1, whole[from:i+1]))
					from = i + 1
				}
			}
			reads(t, want, l...)
		}
	}
}

// chosen is an item, as chance has it: short, mostly of the kinds that have a text.
func chosen(r *rand.Rand) api.Item {
	const bytes = "\n\n\nab \\\r\x00\xff-[]"
	body := make([]byte, r.Intn(8))
	for i := range body {
		body[i] = bytes[r.Intn(len(bytes))]
	}
	x := api.Item{Kind: 1, At: r.Intn(lastStamp + 1), Body: string(body)}
	switch r.Intn(8) {
	case 0:
		x.Kind = 2
	case 1:
		x.Kind = 3
	case 2:
		x.Kind = otherKinds[r.Intn(len(otherKinds))]
	case 3:
		x.At = stampless[r.Intn(len(stampless))]
	}
	return x
}

// Promises 20.1 to 20.3: rows of items by chance.
func TestChance(t *testing.T) {
	r := rand.New(rand.NewSource(20))
	for range 3000 {
		var l []api.Item
		for range r.Intn(30) {
			l = append(l, chosen(r))
		}
		asPlainly(t, l)
	}
}

// Rule R3: what is handed in is neither changed nor kept, and what lies behind a list's length does not matter.
func TestKept(t *testing.T) {
	whole := items(data(0, "a\nb"), note(1, "c"), gap(2, "3"), data(0, "d"), data(2, "hidden"), note(2, "hidden"))
	l := slices.Clone(whole)
	wantText, wantBytes := first+"a\n"+first+"b\n"+second+"-- c --\n"+third+"-- 3 lost --\n"+first+"d", "a\nbd"
	text, bytes := All(l[:4]), Data(l[:4])
	if !slices.Equal(l, whole) {
		t.Errorf("%v became %v", whole, l)
	}
	clear(l)
	if text != wantText || bytes != wantBytes {
		t.Errorf("%q, %q; want %q, %q", text, bytes, wantText, wantBytes)
	}
	// What a list shares its memory with is no other's.
	l = slices.Clone(whole)
	clear(l[4:])
	reads(t, wantText, l[:4]...)
	tells(t, wantBytes, l[:4]...)
}

// Markers do not come into each other; a copy goes its own way.
func TestAlone(t *testing.T) {
	var a, b Marker
	adds(t, &a, data(0, "a"), first+"a", true)
	stands(t, &b, false)
	adds(t, &b, note(1, "b"), second+"-- b --\n", false)
	stands(t, &a, true)
	reads(t, third+"c", data(2, "c"))
	stands(t, &b, false)
	c := a
	adds(t, &c, data(1, "\n"), "\n", false)
	adds(t, &a, note(1, "d"), "\n"+second+"-- d --\n", false)
	adds(t, &c, note(1, "d"), second+"-- d --\n", false)
}

// Promise P0 and rule R7: long bodies and many items end soon.
func TestMany(t *testing.T) {
	const many = 1 << 19
	reads(t, first+strings.Repeat("a", 64*many), data(0, strings.Repeat("a", 64*many)))
	reads(t, strings.Repeat(first+"\n", many), data(0, strings.Repeat("\n", many)))
	reads(t, first+"-- "+strings.Repeat(`\n`, many)+" --\n", note(0, strings.Repeat("\n", many)))
	reads(t, first+"-- "+strings.Repeat(`\xff`, many)+" lost --\n", gap(0, strings.Repeat("\xff", many)))
	reads(t, first+strings.Repeat("a", many), slices.Repeat(items(data(0, "a")), many)...)
	reads(t, strings.Repeat(first+"a\n"+second+"-- b --\n", many), slices.Repeat(items(data(0, "a"), note(1, "b")), many)...)
	reads(t, "", slices.Repeat(items(kind(4, 0, "a"), data(0, "")), many)...)
	tells(t, strings.Repeat("ab\n", many), slices.Repeat(items(data(0, "ab\n"), note(1, "b")), many)...)
	var m Marker
	size := 0
	for range many {
		size += len(m.Add(data(0, "a"))) + len(m.Add(data(lastStamp, "b\nc")))
	}
	if want := many*(4+len(first)) + len(first); size != want || !m.Open() {
		t.Errorf("%d bytes; want %d", size, want)
	}
}

// Promises 20.1 to 20.3, of items that come as they like.
func FuzzMarker(f *testing.F) {
	f.Add("ab\nc|ann in|3", "\x01\x02\x03", 0, 1)
	f.Add("\n||\n|\\\r\x00|a\n\n", "\x01\x01\x02\x01\x03", lastStamp, 1)
	f.Add("a|b|c|d", "\x01\x04\x00\x01", -1, 86400)
	f.Fuzz(func(t *testing.T, bodies, kinds string, at, step int) {
		if len(bodies) > 300 {
			return
		}
		var l []api.Item
		for i, body := range strings.Split(bodies, "|") {
			x := data(at+i*step, body)
			if i < len(kinds) {
				x.Kind = int(int8(kinds[i]))
			}
			l = append(l, x)
		}
		asPlainly(t, l)
	})
}

package text

import (
	"fmt"
	"math"
	"math/rand"
	"runtime"
	"slices"
	"strings"
	"testing"

	"wheelhouse/api"
)

// line is a line with a text; size and form are lines that are wrong.
func line(s string) api.Line { return api.Line{Text: s} }

func size() api.Line { return api.Line{Code: 5} }

func form() api.Line { return api.Line{Code: 3} }

// short is lines as they are told of when they are others than they ought to be.
func short(l []api.Line) string {
	s := fmt.Sprint(len(l), " lines:")
	for _, x := range l[:min(len(l), 20)] {
		s += fmt.Sprintf(" %.40q(%d)", x.Text, x.Code)
	}
	return s
}

// made is a framer of so many bytes to which nothing came.
func made(t *testing.T, most int) *Framer {
	t.Helper()
	f, code := New(most)
	if code != api.OK || f == nil {
		t.Fatalf("New(%d): code %d, a framer: %t", most, code, f != nil)
	}
	left(t, f, 0)
	return f
}

// left: so many bytes wait, and no more are kept.
func left(t *testing.T, f *Framer, want int) {
	t.Helper()
	if got := f.Left(); got != want {
		t.Errorf("Left %d; want %d", got, want)
	}
	if len(f.kept) > want {
		t.Errorf("%d bytes are kept; want %d", len(f.kept), want)
	}
}

// feeds: bytes come, and these lines end in them.
func feeds(t *testing.T, f *Framer, s string, want ...api.Line) {
	t.Helper()
	if got := f.Feed(s); !slices.Equal(got, want) {
		t.Errorf("Feed(%.60q): %s; want %s", s, short(got), short(want))
	}
}

// asLine is what came between two line feeds as a line, as the chapter says it.
func asLine(s string, most int) api.Line {
	s = strings.TrimSuffix(s, "\r")
	if len(s) > most {
		return size()
	}
	for _, c := range []byte(s) {
		if c != 9 && (c < 32 || c > 126) {
			return form()
		}
	}
	return line(s)
}

// plain is the lines of all that came, and how many bytes are left.
func plain(all string, most int) ([]api.Line, int) {
	pieces := strings.Split(all, "\n")
	last := len(pieces) - 1
	var l []api.Line
	for _, s := range pieces[:last] {
		l = append(l, asLine(s, most))
	}
	return l, min(len(pieces[last]), most+1)
}

// asPlainly: of pieces that come one behind the other, a framer tells each line just when it ends.
func asPlainly(t *testing.T, most int, pieces ...string) {
	t.Helper()
	f := made(t, most)
	all := ""
	told := 0
	for _, s := range pieces {
		all += s
		want, rest := plain(all, most)
		got := f.Feed(s)
		if !slices.Equal(got, want[told:]) || f.Left() != rest || len(f.kept) > rest {
			t.Fatalf("of %d bytes, %.60q as the last of %.200q: %s, %d left, %d kept; want %s, %d", most, s, pieces, short(got), f.Left(), len(f.kept), short(want[told:]), rest)
		}
		told = len(want)
	}
}

// texts is all texts of so many bytes, each of them one of these.
func texts(count int, bytes string) []string {
	l := []string{""}
	for range count {
		var longer []string
		for _, s := range l {
			for i := range len(bytes) {
				longer = append(longer, s+bytes[i:i+1])
			}
		}
		l = longer
	}
	return l
}

// cutBy is a text in pieces of so many bytes.
func cutBy(s string, piece int) []string {
	var l []string
	for at := 0; at < len(s); at += piece {
		l = append(l, s[at:min(at+piece, len(s))])
	}
	return l
}

// cutAt is a text in pieces: each bit of cuts tells whether there is a cut behind a byte; empty pieces stand between them.
func cutAt(s string, cuts int) []string {
	l := []string{""}
	from := 0
	for at := 1; at <= len(s); at++ {
		if at == len(s) || cuts>>(at-1)&1 == 1 {
			l = append(l, s[from:at], "")
			from = at
		}
	}
	return l
}

// plainBytes is all bytes that may be in a line.
func plainBytes() string {
	s := "\t"
	for c := ' '; c <= '~'; c++ {
		s += string(c)
	}
	return s
}

// Promises 24.1 and 24.2: the chapter's example, and one that just has room.
func TestExample(t *testing.T) {
	f := made(t, 5)
	feeds(t, f, "123456\n", size())
	feeds(t, f, "12345\n", line("12345"))
	left(t, f, 0)
}

// Promise 24.1: of each number that may be, a framer, whose lines have just so many bytes.
func TestNew(t *testing.T) {
	if Most != 4096 {
		t.Error(Most)
	}
	all := strings.Repeat("x", 4099)
	for most := 1; most <= 4096; most++ {
		f := made(t, most)
		feeds(t, f, "")
		left(t, f, 0)
		feeds(t, f, all[:most]+"\n", line(all[:most]))
		feeds(t, f, all[:most+1]+"\n", size())
		feeds(t, f, all[:most]+"\r\n", line(all[:most]))
		left(t, f, 0)
		feeds(t, f, all[:most])
		left(t, f, most)
		feeds(t, f, "y")
		left(t, f, most+1)
		feeds(t, f, "z")
		left(t, f, most+1)
	}
}

// Promise 24.1: numbers that may not be.
func TestNewRefuses(t *testing.T) {
	for _, most := range []int{
		math.MinInt, math.MinInt + 1, -1 << 40, -1<<32 + 1, -1 << 32, -65536, -4097, -4096, -4095, -256, -2, -1, 0,
		4097, 4098, 5000, 8192, 65535, 65536, 65537, 1 << 31, 1 << 32, 1<<32 + 1, 1<<32 + 256, 1<<32 + 4096, 1 << 40, 1<<62 + 1, math.MaxInt - 1, math.MaxInt,
	} {
		if f, code := New(most); f != nil || code != api.ErrRange {
			t.Errorf("New(%d): code %d, a framer: %t", most, code, f != nil)
		}
	}
}

// Promises 24.1 and 24.2: a framer that nobody made tells nothing, and 0, whatever came.
func TestNobody(t *testing.T) {
	var none *Framer
	var zero Framer
	for _, f := range []*Framer{none, &zero, {}, new(Framer)} {
		for range 2 {
			for _, s := range []string{"", "a", "\n", "\r\n", "ab\r\n", "a\nb\n", "\x00\n", "abc\ndef", strings.Repeat("x", 5000), strings.Repeat("\n", 5000)} {
				if got := f.Feed(s); len(got) != 0 {
					t.Errorf("Feed(%.40q): %s", s, short(got))
				}
				if f.Left() != 0 {
					t.Errorf("behind %.40q: Left %d", s, f.Left())
				}
			}
		}
	}
}

// Promise 24.1: all that came behind the last line feed is counted, in whatever pieces, but not beyond one more than there may be.
func TestLeft(t *testing.T) {
	f := made(t, 4)
	for _, x := range []struct {
		s    string
		want int
	}{
		{"", 0}, {"a", 1}, {"", 1}, {"bc", 3}, {"d", 4}, {"", 4}, {"e", 5}, {"f", 5}, {"", 5}, {"ghijklmn", 5}, {"\n", 0},
		{"abcdefgh", 5}, {"\nab", 2}, {"\n\n", 0}, {"\n\nabc", 3}, {"\nabcd", 4}, {"\nabcde", 5}, {"\nabcdef", 5}, {"\na\nb", 1}, {"\n", 0},
		{"\r", 1}, {"\r", 2}, {"\r\r\r", 5}, {"\r", 5}, {"\n\r", 1}, {"\n", 0}, {"abc\r", 4}, {"\r", 5}, {"\n", 0}, {"abcd\r", 5}, {"e", 5}, {"\n", 0},
		{"\x00", 1}, {"\xff\x80", 3}, {"\t\x7f", 5}, {"\x00", 5}, {"\n", 0}, {"", 0},
	} {
		f.Feed(x.s)
		if f.Left() != x.want {
			t.Errorf("behind %q: Left %d; want %d", x.s, f.Left(), x.want)
		}
		left(t, f, x.want)
	}
}

// Promise 24.1: to be asked changes nothing.
func TestLeftChangesNothing(t *testing.T) {
	f := made(t, 4)
	for _, s := range []string{"a", "b", "c", "d", "\r"} {
		feeds(t, f, s)
		for range 5 {
			f.Left()
		}
	}
	left(t, f, 5)
	feeds(t, f, "\n", line("abcd"))
	for range 5 {
		left(t, f, 0)
	}
	feeds(t, f, "e\n", line("e"))
}

// Promise 24.2: ordinary lines, none, one, or more at once; what is behind the last line feed is no line.
func TestLines(t *testing.T) {
	for _, x := range []struct {
		s    string
		want []api.Line
		left int
	}{
		{"", nil, 0},
		{"call web1", nil, 9},
		{"call web1\n", []api.Line{line("call web1")}, 0},
		{"call web1\r\n", []api.Line{line("call web1")}, 0},
		{"call web1\nquit", []api.Line{line("call web1")}, 4},
		{"call web1\r\nquit\r\n", []api.Line{line("call web1"), line("quit")}, 0},
		{"\n", []api.Line{line("")}, 0},
		{"\r\n", []api.Line{line("")}, 0},
		{"\n\n\n", []api.Line{line(""), line(""), line("")}, 0},
		{"\n\r\n\r", []api.Line{line(""), line("")}, 1},
		{"\na", []api.Line{line("")}, 1},
		{"a\n\nb\n", []api.Line{line("a"), line(""), line("b")}, 0},
		{" \n\t\n  a \t \r\n", []api.Line{line(" "), line("\t"), line("  a \t ")}, 0},
		{"login bob \"x\\y\" #;{}\n", []api.Line{line("login bob \"x\\y\" #;{}")}, 0},
		{"~\n!\n", []api.Line{line("~"), line("!")}, 0},
	} {
		f := made(t, 80)
		feeds(t, f, x.s, x.want...)
		left(t, f, x.left)
		asPlainly(t, 80, x.s)
	}
}

// Promise 24.2: a line that comes in pieces ends with its line feed, and is as if it came at once.
func TestGoesOn(t *testing.T) {
	f := made(t, 9)
	feeds(t, f, "ca")
	feeds(t, f, "")
	feeds(t, f, "ll web1")
	feeds(t, f, "\r")
	left(t, f, 10)
	feeds(t, f, "\n", line("call web1"))
	feeds(t, f, "l")
	feeds(t, f, "ist\nwho\nqu", line("list"), line("who"))
	feeds(t, f, "it")
	feeds(t, f, "\r\n\r", line("quit"))
	feeds(t, f, "\n", line(""))
	left(t, f, 0)
}

// Promise 24.2: just a 13 at the end goes, and one at most; any other is a byte that may not be.
func TestReturn(t *testing.T) {
	for _, x := range []struct {
		s    string
		want api.Line
	}{
		{"\r", line("")},
		{"\r\r", form()},
		{"\r\r\r", form()},
		{"a\r", line("a")},
		{"a\r\r", form()},
		{"a\r\r\r", form()},
		{"\ra", form()},
		{"\ra\r", form()},
		{"a\rb", form()},
		{"a\rb\r", form()},
		{"a\r ", form()},
		{"a \r", line("a ")},
		{"abcd", line("abcd")},
		{"abcd\r", line("abcd")},
		{"abc\r", line("abc")},
		{"abc\r\r", form()},
		{"abcd\r\r", size()},
		{"abcde", size()},
		{"abcde\r", size()},
		{"\r\r\r\r", form()},
		{"\r\r\r\r\r", form()},
		{"\r\r\r\r\r\r", size()},
		{"\rabcd", size()},
		{"\rabc", form()},
		{"\rabc\r", form()},
		{"abcd\re", size()},
		{"abcd\re\r", size()},
		{"abcd\refgh\r", size()},
	} {
		s := x.s + "\n"
		feeds(t, made(t, 4), s, x.want)
		for cuts := range 1 << (len(s) - 1) {
			asPlainly(t, 4, cutAt(s, cuts)...)
		}
	}
}

// Promise 24.2: a line feed that is not at the end of a piece ends its line alone: a 13 behind it is the next line's.
func TestReturnBehind(t *testing.T) {
	f := made(t, 4)
	feeds(t, f, "a\n\rb\n", line("a"), form())
	feeds(t, f, "a\n\r\nb\n", line("a"), line(""), line("b"))
	feeds(t, f, "a\n\r", line("a"))
	feeds(t, f, "b\n", form())
	feeds(t, f, "ab\r\ncd\r\n", line("ab"), line("cd"))
}

// Promise 24.2: a line of as many bytes as there may be, fewer, and more, with none, one or more of 13 at its end, in whatever pieces.
func TestSize(t *testing.T) {
	for _, most := range []int{1, 2, 3, 5, 16, 80, 255, 256, 257, 4095, 4096} {
		for _, count := range []int{0, 1, most - 1, most, most + 1, most + 2, most + 3, 2*most + 1, 10 * most, 5000} {
			for _, ends := range []string{"\n", "\r\n", "\r\r\n", "\r\r\r\n"} {
				s := strings.Repeat("x", count) + ends
				want := line(s[:count])
				switch {
				case count+len(ends)-2 > most, count > most:
					want = size()
				case len(ends) > 2:
					want = form()
				}
				f := made(t, most)
				feeds(t, f, s, want)
				left(t, f, 0)
				for _, piece := range []int{1, 2, 3, most - 1, most, most + 1, most + 2} {
					if piece > 0 && len(s)/piece < 600 {
						asPlainly(t, most, cutBy(s, piece)...)
					}
				}
			}
		}
	}
}

// Promise 24.2: each byte, at each place of a line, and by itself.
func TestEachByte(t *testing.T) {
	good := plainBytes()
	for c := range 256 {
		one := string([]byte{byte(c)})
		for _, ahead := range []string{"", "a", "ab", "abc"} {
			for _, behind := range []string{"", "x", "xy", "\r", "x\r"} {
				s := ahead + one + behind
				want := []api.Line{form()}
				switch {
				case c == 10:
					want = []api.Line{line(ahead), line(strings.TrimSuffix(behind, "\r"))}
				case strings.Contains(good, one):
					want = []api.Line{line(strings.TrimSuffix(s, "\r"))}
				case c == 13 && behind == "":
					want = []api.Line{line(ahead)}
				}
				f := made(t, 6)
				feeds(t, f, s+"\n", want...)
				left(t, f, 0)
				feeds(t, f, "good\n", line("good"))
				asPlainly(t, 6, cutBy(s+"\n", 1)...)
			}
		}
	}
}

// Promise 24.2: all bytes that may be in a line, at once, and each that may not, among these.
func TestAllBytes(t *testing.T) {
	good := plainBytes()
	if len(good) != 96 {
		t.Fatal(len(good))
	}
	feeds(t, made(t, 96), good+"\n", line(good))
	feeds(t, made(t, 96), good+"\r\n", line(good))
	feeds(t, made(t, 95), good+"\n", size())
	for c := range 256 {
		one := string([]byte{byte(c)})
		if c == '\n' || strings.Contains(good, one) {
			continue
		}
		f := made(t, 97)
		feeds(t, f, one+good+"\n", form())
		feeds(t, f, good[:40]+one+good[40:]+"\n", form())
		feeds(t, f, good+one+" \n", size())
		feeds(t, f, good[1:]+one+" \n", form())
		feeds(t, f, good+"\n", line(good))
	}
}

// Promise 24.2: signs of several bytes are bytes like others, and may not be.
func TestSigns(t *testing.T) {
	for _, s := range []string{"é", "€", "\u0085", "\u2028", "\ufeff", "a\u00a0b", "ÿ", "\U0001f600", "\xc3\x28", "\xe2\x80", "\u010a", "\u0a00", "\u0d0a", "\u010d", "\u0100", "\u0109", "\u0120", "\u0161"} {
		f := made(t, 8)
		feeds(t, f, s+"\n", form())
		feeds(t, f, s+"\r\n", form())
		f = made(t, len(s)-1)
		feeds(t, f, s+"\n", size())
	}
}

// Promise 24.2: what is too long is told so, whatever bytes are in it, and wherever they stand.
func TestSizeAheadOfForm(t *testing.T) {
	for _, bad := range []string{"\x00", "\x1f", "\x7f", "\x80", "\xff", "\r", "\v", "\b"} {
		for at := range 9 {
			s := strings.Repeat("x", 9)
			s = s[:at] + bad + s[at:]
			for most := 1; most <= 12; most++ {
				want := form()
				if most < 10 {
					want = size()
				}
				feeds(t, made(t, most), s+"\n", want)
				asPlainly(t, most, cutBy(s+"\n", 1)...)
			}
		}
	}
	feeds(t, made(t, 4), "\x00\x00\x00\x00\x00\n", size())
	feeds(t, made(t, 4), "\x00\x00\x00\x00\n", form())
	feeds(t, made(t, 4), "\x00\x00\x00\x00\r\n", form())
}

// Promises 24.2 and 24.3: wrong lines, and good ones, in any order: each is what it is by itself.
func TestWrongHurtsNone(t *testing.T) {
	all := []string{"", "a", "abcd", "abcd\r", "abcde", "abcd\re", strings.Repeat("x", 50), strings.Repeat("x", 50) + "\r", "\x00", "a\rb", "\r\r", "\xff\xff\xff\xff", "\xff\xff\xff\xff\xff"}
	for _, a := range all {
		for _, b := range all {
			for _, c := range all {
				s := a + "\n" + b + "\n" + c + "\n"
				f := made(t, 4)
				feeds(t, f, s, asLine(a, 4), asLine(b, 4), asLine(c, 4))
				left(t, f, 0)
				for _, p := range []string{a, b, c} {
					feeds(t, f, p)
					left(t, f, min(len(p), 5))
					feeds(t, f, "\n", asLine(p, 4))
				}
			}
		}
	}
}

// Promise 24.3: a line that never ends is not kept, and the one behind it is told as if it had not been.
func TestNeverMore(t *testing.T) {
	for _, most := range []int{1, 4, 256, 4096} {
		f := made(t, most)
		for n := 1; n <= 3*most; n++ {
			feeds(t, f, "x")
			left(t, f, min(n, most+1))
		}
		for range 50 {
			feeds(t, f, strings.Repeat("y", 1<<16))
			left(t, f, most+1)
		}
		feeds(t, f, "\r")
		feeds(t, f, "\nok", size())
		feeds(t, f, "\n", asLine("ok", most))
		left(t, f, 0)
	}
}

// Promise 24.3: however much came, no more memory is held than the bytes that wait need.
func TestHolds(t *testing.T) {
	var l []*Framer
	s := strings.Repeat("x", 1<<20)
	var ahead, behind runtime.MemStats
	runtime.GC()
	runtime.ReadMemStats(&ahead)
	for range 64 {
		f := made(t, 256)
		feeds(t, f, s)
		feeds(t, f, "\n"+s, size())
		l = append(l, f)
	}
	runtime.GC()
	runtime.ReadMemStats(&behind)
	if behind.HeapAlloc > ahead.HeapAlloc+1<<20 {
		t.Errorf("%d bytes more are held", behind.HeapAlloc-ahead.HeapAlloc)
	}
	for _, f := range l {
		left(t, f, 257)
	}
	runtime.KeepAlive(s)
}

// Promises 24.1 to 24.3: all short texts of bytes of each kind, of small framers, cut once, wherever they are cut.
func TestShort(t *testing.T) {
	for count := range 7 {
		for _, all := range texts(count, "a\r\n\x00") {
			for most := 1; most <= 4; most++ {
				for at := range count + 1 {
					asPlainly(t, most, all[:at], all[at:])
				}
			}
		}
	}
}

// Promises 24.2 and 24.3: all short texts, in whatever pieces they come, with empty ones between them.
func TestAllPieces(t *testing.T) {
	const count = 6
	for _, all := range texts(count, "a\r\n\xff") {
		for cuts := range 1 << (count - 1) {
			asPlainly(t, 2, cutAt(all, cuts)...)
		}
	}
	for _, all := range texts(9, "a\r\n") {
		for _, piece := range []int{1, 2, 3, 4, 9} {
			asPlainly(t, 3, cutBy(all, piece)...)
		}
	}
}

// Promises 24.2 and 24.3: a long text, in pieces of all kinds, of framers of all kinds.
func TestPieces(t *testing.T) {
	all := strings.Repeat("call web1\r\n\nwho\nlist \x00\r\r\n\ttell web* back at noon\nquit", 10)
	for _, most := range []int{1, 2, 3, 4, 8, 9, 10, 11, 23, 24, 25, 27, 28, 29, 80, 256, 4096} {
		for _, piece := range []int{1, 2, 3, 5, 8, 13, 50, len(all)} {
			asPlainly(t, most, cutBy(all, piece)...)
		}
	}
}

// chance is a text by chance: mostly such bytes as may be in a line, and some of each other kind.
func chance(r *rand.Rand, count int) string {
	bytes := make([]byte, r.Intn(count+1))
	ends := 1 + r.Intn(20)
	for i := range bytes {
		switch n := r.Intn(20); {
		case r.Intn(ends) == 0:
			bytes[i] = '\n'
		case n < 15:
			bytes[i] = byte(32 + r.Intn(95))
		case n < 18:
			bytes[i] = "\r\r\t"[r.Intn(3)]
		case n == 18 && r.Intn(5) == 0:
			bytes[i] = byte(r.Intn(256))
		default:
			bytes[i] = "a \x1f\x7f~!\x80\n\r"[r.Intn(9)]
		}
		if i > 0 && bytes[i] == '\n' && r.Intn(2) == 0 {
			bytes[i-1] = '\r'
		}
	}
	return string(bytes)
}

// Promises 24.1 to 24.3: rows of pieces by chance, to framers by chance.
func TestChance(t *testing.T) {
	r := rand.New(rand.NewSource(24))
	for range 4000 {
		most := 1 + r.Intn(1+r.Intn(40))
		if r.Intn(40) == 0 {
			most = 1 + r.Intn(4096)
		}
		var pieces []string
		for range r.Intn(20) {
			pieces = append(pieces, chance(r, 1+r.Intn(3*most+2)))
			if r.Intn(4) == 0 {
				pieces = append(pieces, "\n")
			}
		}
		asPlainly(t, most, pieces...)
	}
}

// Promises 24.2 and 24.3: what was told stays as it was, whatever comes later, and whatever is done to it.
func TestToldStays(t *testing.T) {
	f := made(t, 4)
	feeds(t, f, "ab")
	first := f.Feed("cd\nef\r\nwxyz!\n\x00\ngh")
	want := []api.Line{line("abcd"), line("ef"), size(), form()}
	second := f.Feed("ij\nklmn\nop")
	first = append(first[:4:4], f.Feed("qr\nstuv\r\n")...)
	want = append(want, line("opqr"), line("stuv"))
	if !slices.Equal(first, want) {
		t.Errorf("told first: %s", short(first))
	}
	for i := range second {
		second[i] = line("changed")
	}
	_ = append(second[:1], line("changed"))
	feeds(t, f, "12")
	feeds(t, f, "34\r\n", line("1234"))
	if !slices.Equal(first, want) {
		t.Errorf("told first: %s", short(first))
	}
}

// Promise 24.2: what comes is not held on to: bytes that are put together anew are no part of what was told, or waits.
func TestKept(t *testing.T) {
	bytes := []byte("abc\ndefg")
	f := made(t, 8)
	got := f.Feed(string(bytes))
	copy(bytes, "12345678")
	feeds(t, f, string(bytes[:2])+"\n", line("defg12"))
	if !slices.Equal(got, []api.Line{line("abc")}) {
		t.Errorf("told: %s", short(got))
	}
}

// Promise 24.2: no framer knows of another one.
func TestAlone(t *testing.T) {
	a, b, c := made(t, 4), made(t, 4), made(t, 2)
	feeds(t, a, "ab")
	feeds(t, b, "wx")
	feeds(t, c, "123")
	feeds(t, a, "cd")
	left(t, b, 2)
	feeds(t, c, "\n", size())
	feeds(t, b, "\n", line("wx"))
	feeds(t, a, "\n", line("abcd"))
	feeds(t, c, "45\n", line("45"))
	left(t, a, 0)
	left(t, b, 0)
	left(t, c, 0)
}

// Promise 24.2: many lines at once, and a long text byte by byte.
func TestMany(t *testing.T) {
	const count = 1 << 18
	f := made(t, 3)
	got := f.Feed(strings.Repeat("\n", count))
	got = append(got, f.Feed(strings.Repeat("ab\r\n", count))...)
	got = append(got, f.Feed(strings.Repeat("abcd\n", count))...)
	if len(got) != 3*count {
		t.Fatal(len(got))
	}
	for i, x := range got {
		if want := []api.Line{line(""), line("ab"), size()}[i/count]; x != want {
			t.Fatalf("line %d: %v; want %v", i, x, want)
		}
	}
	f = made(t, 4096)
	lines := 0
	s := strings.Repeat("x", 4095) + "y\r\n"
	for range 200 {
		for i := range len(s) {
			for _, x := range f.Feed(s[i : i+1]) {
				if x != line(s[:4096]) {
					t.Fatalf("a line of %d bytes, code %d", len(x.Text), x.Code)
				}
				lines++
			}
		}
	}
	if lines != 200 {
		t.Error(lines)
	}
}

// FuzzFramer: texts cut twice, of any number of bytes at most.
func FuzzFramer(f *testing.F) {
	f.Add(5, "123456\n", 0, 0)
	f.Add(5, "call\r\n", 2, 5)
	f.Add(4, "abcd\r\r\n\x00\nab\rc\r\n\n", 5, 6)
	f.Add(0, "a\n", 1, 2)
	f.Add(4097, "a\n", 1, 2)
	f.Fuzz(func(t *testing.T, most int, s string, a, b int) {
		if most < 1 || most > 4096 {
			if x, code := New(most); x != nil || code != api.ErrRange {
				t.Errorf("New(%d): code %d", most, code)
			}
			return
		}
		a = max(0, min(a, len(s)))
		b = max(a, min(b, len(s)))
		asPlainly(t, most, s[:a], s[a:b], s[b:])
		asPlainly(t, most, s)
		asPlainly(t, most, cutBy(s, 1)...)
	})
}

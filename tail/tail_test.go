package tail

import (
	"math"
	"slices"
	"strings"
	"testing"

	"wheelhouse/api"
)

// made is a tail of so many lines and bytes.
func made(t *testing.T, lines, bytes int) *Tail {
	t.Helper()
	x, code := New(lines, bytes)
	if code != api.OK || x == nil {
		t.Fatalf("New(%d, %d): code %d", lines, bytes, code)
	}
	return x
}

// fed is a tail to which these came, one behind the other.
func fed(t *testing.T, lines, bytes int, pieces ...string) *Tail {
	t.Helper()
	x := made(t, lines, bytes)
	for _, s := range pieces {
		x.Feed(s)
	}
	return x
}

// cut is the lines of a text, as the document says what lines are.
func cut(s string) []string {
	l := strings.SplitAfter(s, "\n")
	if l[len(l)-1] == "" {
		l = l[:len(l)-1]
	}
	return l
}

// longest is the longest end of all that came that has neither too many bytes nor too many lines: each end is tried.
func longest(all string, lines, bytes int) string {
	for from := range len(all) {
		if s := all[from:]; len(s) <= bytes && len(cut(s)) <= lines {
			return s
		}
	}
	return ""
}

// same holds all that a tail tells against what it ought to tell.
func same(t *testing.T, x *Tail, came int, text string) {
	t.Helper()
	if x.Came() != came || x.Text() != text || x.Len() != len(text) {
		t.Fatalf("%d came, %d there: %.40q; want %d, %d: %.40q", x.Came(), x.Len(), x.Text(), came, len(text), text)
	}
	want := cut(text)
	if got := x.Lines(); !slices.Equal(got, want) {
		t.Fatalf("the lines of %.40q: %.40q", text, got)
	}
	for n := range len(want) + 2 {
		l := want[max(0, len(want)-n):]
		if got := x.Last(n); got != strings.Join(l, "") {
			t.Fatalf("the last %d lines of %.40q: %.40q", n, text, got)
		}
	}
}

// texts is all texts of so many bytes, each of them one of these.
func texts(size int, bytes string) []string {
	l := []string{""}
	for range size {
		var longer []string
		for _, s := range l {
			for i := range len(bytes) {
				longer = append(longer, s+bytes[i:i+1])
			}
		}
		l = longer
	}
	return l
}

// Promise 5.1: how many lines and bytes there may be, each of both with each of the other.
func TestNew(t *testing.T) {
	if MostLines != 1024 || MostBytes != 65536 {
		t.Error(MostLines, MostBytes)
	}
	for _, lines := range []int{1, 2, 3, 24, 1023, 1024} {
		for _, bytes := range []int{1, 2, 3, 80, 4096, 65535, 65536} {
			same(t, made(t, lines, bytes), 0, "")
		}
	}
}

// Promise 5.1: what no tail may have, be it in lines, in bytes or in both.
func TestNewRefuses(t *testing.T) {
	refused := func(lines, bytes int) {
		t.Helper()
		if x, code := New(lines, bytes); x != nil || code != api.ErrRange {
			t.Errorf("New(%d, %d): code %d, a tail: %t", lines, bytes, code, x != nil)
		}
	}
	low := []int{math.MinInt, -65536, -1024, -2, -1, 0}
	noLines := append([]int{1025, 1026, 2048, 65536, 1<<32 + 1, 1 << 40, math.MaxInt}, low...)
	noBytes := append([]int{65537, 65538, 1 << 20, 1<<20 + 1, 1<<32 + 1, 1 << 40, math.MaxInt}, low...)
	for _, lines := range noLines {
		refused(lines, 1)
		refused(lines, 65536)
		for _, bytes := range noBytes {
			refused(lines, bytes)
		}
	}
	for _, bytes := range noBytes {
		refused(1, bytes)
		refused(1024, bytes)
	}
}

// Promise 5.1: all that came is counted, also what is there no more, and what never was.
func TestCame(t *testing.T) {
	x := made(t, 2, 4)
	for _, step := range []struct {
		s    string
		came int
		text string
	}{
		{"", 0, ""},
		{"a", 1, "a"},
		{"", 1, "a"},
		{"\n", 2, "a\n"},
		{"bc", 4, "a\nbc"},
		{"d", 5, "\nbcd"},
		{"\n", 6, "bcd\n"},
		{"e\n", 8, "d\ne\n"},
		{"f", 9, "e\nf"},
		{"\n", 10, "e\nf\n"},
		{"0123456789", 20, "6789"},
		{"\n\n\n", 23, "\n\n"},
		{"", 23, "\n\n"},
		{strings.Repeat("x\n", 1<<17), 23 + 1<<18, "x\nx\n"},
	} {
		x.Feed(step.s)
		same(t, x, step.came, step.text)
	}
}

// Promise 5.1: to a tail that is nil nothing comes.
func TestNil(t *testing.T) {
	var x *Tail
	for _, s := range []string{"", "a", "\n", "ab\ncd\nef"} {
		x.Feed(s)
		if x.Came() != 0 || x.Text() != "" || x.Len() != 0 || len(x.Lines()) != 0 {
			t.Errorf("behind %q: %d came, %q, %q", s, x.Came(), x.Text(), x.Lines())
		}
		for _, n := range []int{math.MinInt, -1, 0, 1, 2, MostLines, math.MaxInt} {
			if got := x.Last(n); got != "" {
				t.Errorf("behind %q, Last(%d): %q", s, n, got)
			}
		}
	}
}

// Of a tail that New did not make nothing is promised; but no call panics.
func TestNotMade(t *testing.T) {
	x := &Tail{}
	for _, s := range []string{"", "a", "ab\ncd\nef"} {
		x.Feed(s)
		for _, n := range []int{math.MinInt, -1, 0, 1, math.MaxInt} {
			x.Last(n)
		}
		if x.Text() != "" || x.Len() != 0 || len(x.Lines()) != 0 {
			t.Errorf("behind %q: %q", s, x.Text())
		}
	}
}

// Promise 5.2: the chapter's example, and what bounds the end: bytes, lines, or none of both.
func TestText(t *testing.T) {
	for _, x := range []struct {
		lines, bytes int
		all, want    string
	}{
		{2, 8, "ab\ncd\nef", "cd\nef"},
		{2, 8, "ab\ncd\nef\n", "cd\nef\n"},
		{2, 8, "ab\ncd\nef\n\n", "ef\n\n"},
		{3, 8, "ab\ncd\nef", "ab\ncd\nef"},
		{3, 8, "ab\ncd\nef\n", "b\ncd\nef\n"},
		{3, 8, "ab\ncd\nefgh", "\ncd\nefgh"},
		{3, 8, "ab\ncd\nefghi", "cd\nefghi"},
		{2, 8, "ab\ncd\nefgh", "cd\nefgh"},
		{2, 8, "0123456789", "23456789"},
		{2, 8, "01234567", "01234567"},
		{2, 8, "0123456\n", "0123456\n"},
		{2, 8, "01234567\n", "1234567\n"},
		{2, 8, "012345678\n9", "345678\n9"},
		{1, 8, "ab\ncd", "cd"},
		{1, 8, "ab\ncd\n", "cd\n"},
		{1, 8, "ab\n", "ab\n"},
		{1, 8, "\n", "\n"},
		{1, 8, "\n\n", "\n"},
		{1, 8, "\na", "a"},
		{1, 1, "ab", "b"},
		{1, 1, "a\n", "\n"},
		{1, 1, "\na", "a"},
		{1, 1, "\n\n", "\n"},
		{1024, 1, "a\nb\n", "\n"},
		{1024, 3, "\n\n\n\n", "\n\n\n"},
		{2, 65536, "\n\n\n\n", "\n\n"},
		{2, 65536, "a\nb", "a\nb"},
	} {
		same(t, fed(t, x.lines, x.bytes, x.all), len(x.all), x.want)
	}
}

// Promise 5.2: just a line feed ends a line; any other bytes are as good.
func TestBytes(t *testing.T) {
	var others []byte
	for c := range 256 {
		if c != '\n' {
			others = append(others, byte(c))
		}
	}
	s := string(others)
	same(t, fed(t, 1, 256, s), 255, s)
	same(t, fed(t, 1, 256, s, "\n"), 256, s+"\n")
	same(t, fed(t, 2, 512, "a\n", s, "\n", s), 513, s+"\n"+s)
	for c := range 256 {
		one := string([]byte{byte(c)})
		want := "a" + one + "b"
		if c == '\n' {
			want = "b"
		}
		same(t, fed(t, 1, 8, "a", one, "b"), 3, want)
	}
}

// Promise 5.2: as many lines and bytes as there may be at most, and one more of each.
func TestMost(t *testing.T) {
	full := strings.Repeat(strings.Repeat("x", 63)+"\n", 1024)
	same(t, fed(t, 1024, 65536, full), 65536, full)
	same(t, fed(t, 1024, 65536, "y", full), 65537, full)
	same(t, fed(t, 1024, 65536, full, "y"), 65537, full[64:]+"y")
	same(t, fed(t, 1023, 65536, full), 65536, full[64:])
	same(t, fed(t, 1024, 65535, full), 65536, full[1:])
	feeds := strings.Repeat("\n", 65536)
	same(t, fed(t, 1024, 65536, feeds), 65536, feeds[:1024])
	same(t, fed(t, 1, 65536, feeds, "a"), 65537, "a")
	one := strings.Repeat("z", 65536)
	same(t, fed(t, 1, 65536, one), 65536, one)
	same(t, fed(t, 1, 65536, one, "\n"), 65537, one[1:]+"\n")
	same(t, fed(t, 1, 65536, one, "\n", "a"), 65538, "a")
}

// Promise 5.2: the lines are those of the end, the first of which may lack its beginning, the last its line feed.
func TestLines(t *testing.T) {
	for _, x := range []struct {
		all  string
		want []string
	}{
		{"", nil},
		{"a", []string{"a"}},
		{"a\n", []string{"a\n"}},
		{"\n", []string{"\n"}},
		{"\na", []string{"\n", "a"}},
		{"a\nb", []string{"a\n", "b"}},
		{"a\nb\n", []string{"a\n", "b\n"}},
		{"a\n\nb", []string{"a\n", "\n", "b"}},
		{"\n\n\n", []string{"\n", "\n", "\n"}},
		{"\n\n\n\n", []string{"\n", "\n", "\n"}},
		{"a\nb\nc\nd", []string{"b\n", "c\n", "d"}},
		{"abcdef\ng", []string{"cdef\n", "g"}},
		{"abcdefg\r\n", []string{"defg\r\n"}},
	} {
		if got := fed(t, 3, 6, x.all).Lines(); !slices.Equal(got, x.want) {
			t.Errorf("of %q: %q; want %q", x.all, got, x.want)
		}
	}
}

// Promise 5.2: lines that were told are theirs who asked: what they do to them is not seen by the tail.
func TestLinesAreNew(t *testing.T) {
	x := fed(t, 3, 80, "a\nb\nc")
	first, second := x.Lines(), x.Lines()
	first[0], first[2] = "changed", "changed"
	_ = append(first[:1], "changed")
	if !slices.Equal(second, []string{"a\n", "b\n", "c"}) {
		t.Errorf("told before: %q", second)
	}
	same(t, x, 5, "a\nb\nc")
}

// Promise 5.2: what was told stays as it was, whatever comes later, and no tail knows of another one.
func TestToldStays(t *testing.T) {
	x, other := fed(t, 2, 4, "a\nbc"), fed(t, 2, 4, "w\nx")
	text, lines, last := x.Text(), x.Lines(), x.Last(1)
	x.Feed("\ndefgh")
	if text != "a\nbc" || !slices.Equal(lines, []string{"a\n", "bc"}) || last != "bc" {
		t.Errorf("%q, %q, %q", text, lines, last)
	}
	same(t, x, 10, "efgh")
	same(t, other, 3, "w\nx")
}

// Promise 5.3: so many lines, all, or none.
func TestLast(t *testing.T) {
	for _, x := range []struct {
		all  string
		want [4]string // Of 1 to 4 lines.
	}{
		{"", [4]string{}},
		{"a", [4]string{"a", "a", "a", "a"}},
		{"a\n", [4]string{"a\n", "a\n", "a\n", "a\n"}},
		{"\n", [4]string{"\n", "\n", "\n", "\n"}},
		{"a\nb", [4]string{"b", "a\nb", "a\nb", "a\nb"}},
		{"a\nb\n", [4]string{"b\n", "a\nb\n", "a\nb\n", "a\nb\n"}},
		{"\n\n\n", [4]string{"\n", "\n\n", "\n\n\n", "\n\n\n"}},
		{"a\nb\nc\nd", [4]string{"d", "c\nd", "b\nc\nd", "b\nc\nd"}},
		{"abcdef\nghi", [4]string{"ghi", "cdef\nghi", "cdef\nghi", "cdef\nghi"}},
	} {
		tail := fed(t, 3, 8, x.all)
		for i, want := range x.want {
			if got := tail.Last(i + 1); got != want {
				t.Errorf("of %q, Last(%d): %q; want %q", x.all, i+1, got, want)
			}
		}
		for _, n := range []int{math.MinInt, math.MinInt + 1, -MostLines, -2, -1, 0} {
			if got := tail.Last(n); got != "" {
				t.Errorf("of %q, Last(%d): %q", x.all, n, got)
			}
		}
		for _, n := range []int{MostLines, MostLines + 1, 1 << 32, 1<<32 + 1, math.MaxInt - 1, math.MaxInt} {
			if got := tail.Last(n); got != tail.Text() {
				t.Errorf("of %q, Last(%d): %q", x.all, n, got)
			}
		}
		same(t, tail, len(x.all), tail.Text())
	}
}

// Promises 5.2 to 5.4: all short texts, of small tails of all kinds, in two pieces, wherever they are cut.
func TestShort(t *testing.T) {
	for size := range 8 {
		for _, all := range texts(size, "a\n") {
			for lines := 1; lines <= 4; lines++ {
				for bytes := 1; bytes <= 8; bytes++ {
					want := longest(all, lines, bytes)
					for at := range size + 1 {
						same(t, fed(t, lines, bytes, all[:at], all[at:]), size, want)
					}
				}
			}
		}
	}
}

// Promise 5.4: in whatever pieces a short text comes, with empty ones between them.
func TestAllPieces(t *testing.T) {
	const size = 7
	for _, all := range texts(size, "a\n") {
		want := longest(all, 2, 4)
		// Each bit tells whether there is a cut behind a byte.
		for cuts := range 1 << (size - 1) {
			x := made(t, 2, 4)
			from := 0
			for at := 1; at <= size; at++ {
				if at == size || cuts>>(at-1)&1 == 1 {
					x.Feed(all[from:at])
					x.Feed("")
					from = at
				}
			}
			same(t, x, size, want)
		}
	}
}

// Promise 5.4: in whatever pieces a long text comes, asked between them or not.
func TestPieces(t *testing.T) {
	text := strings.Repeat("The wheel turns,\nand turns;\r\n\n\x00\xff and\nturns", 30)
	for _, lines := range []int{1, 2, 3, 10, 100, 120, 121, 122, 1000} {
		for _, bytes := range []int{1, 2, 10, 46, 47, 100, len(text) - 1, len(text), len(text) + 1, MostBytes} {
			want := longest(text, lines, bytes)
			for _, piece := range []int{1, 2, 3, 7, 46, 47, 100, 999, len(text)} {
				x, asked := made(t, lines, bytes), made(t, lines, bytes)
				for at := 0; at < len(text); at += piece {
					s := text[at:min(at+piece, len(text))]
					x.Feed(s)
					asked.Feed(s)
					asked.Lines()
					asked.Last(1)
				}
				if x.Text() != want || asked.Text() != want || x.Came() != len(text) || asked.Came() != len(text) {
					t.Errorf("of %d lines and %d bytes, by %d: %d there; want %d", lines, bytes, piece, x.Len(), len(want))
				}
			}
		}
	}
}

package ring

import (
	"math"
	"strings"
	"testing"

	"wheelhouse/api"
)

// made is a ring of most bytes.
func made(t *testing.T, most int) *Ring {
	t.Helper()
	r, code := New(most)
	if code != api.OK || r == nil {
		t.Fatalf("New(%d): code %d", most, code)
	}
	return r
}

// plain is what the document says of a ring, told by a text that has no end to go around.
type plain struct {
	most, gone int
	text       string
}

func (p *plain) put(s string) bool {
	if len(p.text)+len(s) > p.most {
		return false
	}
	p.text += s
	return true
}

func (p *plain) force(s string) int {
	p.text += s
	n := max(0, len(p.text)-p.most)
	p.text = p.text[n:]
	p.gone += n
	return n
}

func (p *plain) peek(n int) string {
	return p.text[:max(0, min(n, len(p.text)))]
}

func (p *plain) take(n int) string {
	s := p.peek(n)
	p.text = p.text[len(s):]
	p.gone += len(s)
	return s
}

// same holds all that a ring tells against what it ought to tell.
func same(t *testing.T, r *Ring, p plain) {
	t.Helper()
	if r.Len() != len(p.text) || r.Room() != p.most-len(p.text) || r.Gone() != p.gone || r.Text() != p.text {
		t.Fatalf("%d bytes, room for %d, %d gone: %.40q; want %d, %d gone: %.40q", r.Len(), r.Room(), r.Gone(), r.Text(), len(p.text), p.gone, p.text)
	}
	for i := range len(p.text) {
		if c, ok := r.At(i); c != p.text[i] || !ok {
			t.Fatalf("At(%d) of %.40q: %d, %t", i, p.text, c, ok)
		}
	}
	for _, i := range []int{math.MinInt, -p.most - 1, -p.most, -2, -1, len(p.text), len(p.text) + 1, p.most, p.most + 1, 2 * p.most, 1 << 40, math.MaxInt} {
		if c, ok := r.At(i); (c != 0 || ok) && (i < 0 || i >= len(p.text)) {
			t.Fatalf("At(%d) of %.40q: %d, %t", i, p.text, c, ok)
		}
	}
}

// both does one thing, which a number from 0 on tells, to a ring and to what it ought to be.
func both(t *testing.T, r *Ring, p *plain, n int) {
	t.Helper()
	kind, size, seed := n%5, n/5%(p.most+3), n/5/(p.most+3)
	s := make([]byte, size)
	for i := range s {
		s[i] = byte(seed*31 + i*7 + n)
	}
	text := string(s)
	switch kind {
	case 0:
		if got, want := r.Put(text), p.put(text); got != want {
			t.Fatalf("Put of %d bytes: %t", size, got)
		}
	case 1:
		if got, want := r.Force(text), p.force(text); got != want {
			t.Fatalf("Force of %d bytes: %d; want %d", size, got, want)
		}
	case 2:
		if got, want := r.Take(size-1), p.take(size-1); got != want {
			t.Fatalf("Take(%d): %q; want %q", size-1, got, want)
		}
	case 3:
		if got, want := r.Drop(size-1), len(p.take(size-1)); got != want {
			t.Fatalf("Drop(%d): %d; want %d", size-1, got, want)
		}
	case 4:
		if got, want := r.Peek(size-1), p.peek(size-1); got != want {
			t.Fatalf("Peek(%d): %q; want %q", size-1, got, want)
		}
	}
}

// Promise 4.1: how many bytes there may be.
func TestNew(t *testing.T) {
	if Most != 1048576 {
		t.Error(Most)
	}
	for _, most := range []int{1, 2, 3, 4, 7, 64, 1000, 1 << 15, 1 << 16, Most - 1, Most} {
		r := made(t, most)
		same(t, r, plain{most: most})
		if s := strings.Repeat("x", most); !r.Put(s) || r.Put("y") || r.Text() != s || r.Room() != 0 {
			t.Errorf("a ring of %d bytes has not just that room", most)
		}
	}
}

// Promise 4.1: what no ring may have room for.
func TestNewRefuses(t *testing.T) {
	for _, most := range []int{math.MinInt, -Most, -2, -1, 0, Most + 1, Most + 2, 2 * Most, 1 << 32, 1<<32 + 1, 1 << 40, math.MaxInt} {
		if r, code := New(most); r != nil || code != api.ErrRange {
			t.Errorf("New(%d): code %d, a ring: %t", most, code, r != nil)
		}
	}
}

// Promise 4.1: how many bytes there are, how many more there may be, which they are, and how many went by each call.
func TestTold(t *testing.T) {
	r := made(t, 6)
	p := plain{most: 6}
	step := func(what string, ok bool, text string, gone int) {
		t.Helper()
		if !ok {
			t.Error(what)
		}
		p.text, p.gone = text, gone
		same(t, r, p)
	}
	step("Put abcd", r.Put("abcd"), "abcd", 0)
	step("Put efg", !r.Put("efg"), "abcd", 0)
	step("Drop 1", r.Drop(1) == 1, "bcd", 1)
	step("Take 1", r.Take(1) == "b", "cd", 2)
	step("Peek 1", r.Peek(1) == "c", "cd", 2)
	step("Force efghi", r.Force("efghi") == 1, "defghi", 3)
	step("Force more than there may be", r.Force("0123456789") == 10, "456789", 13)
	step("Take all", r.Take(6) == "456789", "", 19)
	step("Force jk", r.Force("jk") == 0, "jk", 19)
}

// Promise 4.1: any bytes, and each of its place, also around the end.
func TestAt(t *testing.T) {
	var all []byte
	for c := range 256 {
		all = append(all, byte(c))
	}
	s := string(all)
	r := made(t, 256)
	for turned := range 257 {
		same(t, r, plain{most: 256, gone: r.Gone(), text: r.Text()})
		if r.Force(s); r.Text() != s {
			t.Fatalf("behind %d turns: %q", turned, r.Text())
		}
		r.Drop(255)
		r.Force(s[:1])
	}
}

// Promise 4.1: a ring that is nil has nothing, and takes nothing.
func TestNil(t *testing.T) {
	var r *Ring
	for range 2 {
		if r.Len() != 0 || r.Room() != 0 || r.Gone() != 0 || r.Text() != "" {
			t.Error("a ring that is nil has bytes, or room")
		}
		for _, n := range []int{math.MinInt, -1, 0, 1, 2, Most, math.MaxInt} {
			if c, ok := r.At(n); c != 0 || ok {
				t.Errorf("At(%d): %d, %t", n, c, ok)
			}
			if r.Take(n) != "" || r.Peek(n) != "" || r.Drop(n) != 0 {
				t.Errorf("of nil, %d bytes are taken", n)
			}
		}
		for _, s := range []string{"", "a", "abc"} {
			if r.Put(s) || r.Force(s) != 0 {
				t.Errorf("nil takes %q", s)
			}
		}
	}
}

// Of a ring that New did not make nothing is promised; but no call panics.
func TestNotMade(t *testing.T) {
	for _, s := range []string{"", "abc"} {
		r := &Ring{}
		r.Put(s)
		r.Force(s)
		for _, n := range []int{math.MinInt, -1, 0, 1, math.MaxInt} {
			r.At(n)
			r.Peek(n)
			r.Take(n)
			r.Drop(n)
		}
		if r.Text() != "" || r.Len() != 0 || r.Room() != 0 {
			t.Error("a ring that was not made has bytes, or room")
		}
	}
}

// Promise 4.2: all is put, or nothing.
func TestPut(t *testing.T) {
	r := made(t, 4)
	for _, x := range []struct {
		s    string
		want bool
		text string
	}{
		{"", true, ""},
		{"abcde", false, ""},
		{strings.Repeat("x", 2*Most), false, ""},
		{"a", true, "a"},
		{"bcde", false, "a"},
		{"bcd", true, "abcd"},
		{"", true, "abcd"},
		{"e", false, "abcd"},
		{"abcd", false, "abcd"},
	} {
		if got := r.Put(x.s); got != x.want || r.Text() != x.text || r.Gone() != 0 {
			t.Errorf("Put(%.10q): %t, %q, %d gone; want %t, %q", x.s, got, r.Text(), r.Gone(), x.want, x.text)
		}
	}
}

// Promise 4.2: the first bytes go for those that are forced in, of these, too.
func TestForce(t *testing.T) {
	for _, x := range []struct {
		there, s string
		want     int
		text     string
	}{
		{"", "", 0, ""},
		{"", "ab", 0, "ab"},
		{"", "abcd", 0, "abcd"},
		{"", "abcde", 1, "bcde"},
		{"", "abcdefghij", 6, "ghij"},
		{"a", "bcd", 0, "abcd"},
		{"abc", "", 0, "abc"},
		{"abc", "de", 1, "bcde"},
		{"abc", "defg", 3, "defg"},
		{"abc", "defgh", 4, "efgh"},
		{"abcd", "", 0, "abcd"},
		{"abcd", "e", 1, "bcde"},
		{"abcd", "efgh", 4, "efgh"},
		{"abcd", "efghijklm", 9, "jklm"},
		{"a\x00\n\xff", "\x80", 1, "\x00\n\xff\x80"},
	} {
		r := made(t, 4)
		if !r.Put(x.there) {
			t.Fatalf("no room for %q", x.there)
		}
		if got := r.Force(x.s); got != x.want || r.Text() != x.text || r.Gone() != x.want {
			t.Errorf("%q, and Force(%q): %d, %q, %d gone; want %d, %q", x.there, x.s, got, r.Text(), r.Gone(), x.want, x.text)
		}
	}
}

// Promise 4.2: the chapter's example.
func TestExample(t *testing.T) {
	r := made(t, 4)
	if !r.Put("abc") || r.Put("de") || r.Text() != "abc" {
		t.Errorf("Put: %q", r.Text())
	}
	if n := r.Force("de"); n != 1 || r.Text() != "bcde" {
		t.Errorf("Force: %d went, %q", n, r.Text())
	}
}

// Promise 4.3: what is taken, seen and dropped, also around the end.
func TestFirst(t *testing.T) {
	for n, want := range map[int]string{
		math.MinInt: "", -5: "", -1: "", 0: "", 1: "b", 2: "bc", 3: "bcd", 4: "bcde", 5: "bcde", Most + 1: "bcde", math.MaxInt: "bcde",
	} {
		for turned := range 5 {
			full := func() *Ring {
				r := made(t, 4)
				r.Force(strings.Repeat("x", turned))
				r.Drop(turned)
				r.Force("abcde")
				return r
			}
			r := full()
			gone := r.Gone()
			if got := r.Peek(n); got != want || r.Text() != "bcde" || r.Gone() != gone {
				t.Errorf("Peek(%d): %q, %q stays", n, got, r.Text())
			}
			if got := r.Take(n); got != want || r.Text() != "bcde"[len(want):] || r.Gone() != gone+len(want) {
				t.Errorf("Take(%d): %q, %q stays", n, got, r.Text())
			}
			r = full()
			if got := r.Drop(n); got != len(want) || r.Text() != "bcde"[len(want):] || r.Gone() != gone+len(want) {
				t.Errorf("Drop(%d): %d, %q stays", n, got, r.Text())
			}
		}
	}
}

// Promise 4.3: of an empty ring nothing is taken, whether it ever had bytes or not.
func TestFirstOfNothing(t *testing.T) {
	fresh, emptied := made(t, 4), made(t, 4)
	emptied.Force("abcdef")
	emptied.Drop(4)
	for _, r := range []*Ring{fresh, emptied} {
		gone := r.Gone()
		for _, n := range []int{math.MinInt, -1, 0, 1, 4, 5, math.MaxInt} {
			if r.Take(n) != "" || r.Peek(n) != "" || r.Drop(n) != 0 || r.Gone() != gone {
				t.Errorf("of nothing, %d bytes are taken", n)
			}
		}
	}
}

// Promises 4.1 to 4.3: whatever is called behind whatever else.
func TestSteps(t *testing.T) {
	for _, most := range []int{1, 2, 3, 5, 8, 17, 64} {
		r, p := made(t, most), &plain{most: most}
		n := most
		for range 6000 {
			n = (n*1103515245 + 12345) & (1<<31 - 1)
			both(t, r, p, n>>16)
			same(t, r, *p)
		}
	}
}

// Promises 4.1 to 4.3: all rows of three calls of a small ring, of each place at which its bytes may begin.
func TestAllSteps(t *testing.T) {
	const most, calls = 3, 5 * 6
	for turned := range most {
		for row := range calls * calls * calls {
			r, p := made(t, most), &plain{most: most}
			r.Force("xyz"[:turned])
			r.Drop(turned)
			p.force("xyz"[:turned])
			p.take(turned)
			for rest, i := row, 0; i < 3; i++ {
				both(t, r, p, rest%calls)
				rest /= calls
			}
			same(t, r, *p)
		}
	}
}

// Promise 4.3: what was taken stays as it was, whatever comes later, and no ring knows of another one.
func TestTakenStays(t *testing.T) {
	r, other := made(t, 4), made(t, 4)
	r.Put("abcd")
	other.Put("wxyz")
	text, seen, taken := r.Text(), r.Peek(3), r.Take(2)
	r.Force("efghijkl")
	if text != "abcd" || seen != "abc" || taken != "ab" || r.Text() != "ijkl" || other.Text() != "wxyz" {
		t.Errorf("%q, %q, %q, %q, %q", text, seen, taken, r.Text(), other.Text())
	}
}

// Promise 4.4: in whatever pieces bytes are forced in, the last ones are there, and all others went.
func TestForcedLast(t *testing.T) {
	text := strings.Repeat("The wheel turns, and turns;\r\n\x00\xff", 40)
	for _, most := range []int{1, 2, 3, 10, 31, 32, 33, 100, 1000, len(text) - 1, len(text), len(text) + 1, Most} {
		for _, piece := range []int{1, 2, 3, 7, 31, 32, 33, 64, 100, 999, 1000, len(text)} {
			r := made(t, most)
			went := 0
			for at := 0; at < len(text); at += piece {
				went += r.Force(text[at:min(at+piece, len(text))])
			}
			gone := max(0, len(text)-most)
			if r.Text() != text[gone:] || went != gone || r.Gone() != gone {
				t.Errorf("of %d bytes, by %d: %d went, %d told, %d there", most, piece, r.Gone(), went, r.Len())
			}
		}
	}
}

// Promise 4.4: the greatest ring, forced full in pieces and at once.
func TestForcedMost(t *testing.T) {
	piece := strings.Repeat("0123456789abcde", 1<<12)
	r := made(t, Most)
	all := ""
	for range 40 {
		r.Force(piece)
		all += piece
	}
	if r.Text() != all[len(all)-Most:] || r.Gone() != len(all)-Most || r.Room() != 0 {
		t.Errorf("by pieces: %d there, %d gone", r.Len(), r.Gone())
	}
	r = made(t, Most)
	r.Put("abc")
	if went := r.Force(all); went != len(all)+3-Most || r.Text() != all[len(all)-Most:] || r.Gone() != went {
		t.Errorf("at once: %d there, %d gone", r.Len(), r.Gone())
	}
}

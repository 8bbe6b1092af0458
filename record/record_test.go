package record

import (
	"encoding/binary"
	"math"
	"slices"
	"strings"
	"testing"

	"wheelhouse/api"
	"wheelhouse/sum"
)

// last, most: the last tick, and how many bytes a body may have, in digits.
const (
	last = 1099511627776
	most = 4096
)

// noKinds, noTicks, noBodies: what may not be a kind, a time and a body.
var (
	noKinds  = []int{math.MinInt, -257, -256, -255, -15, -1, 0, 16, 17, 87, 255, 256, 257, 271, 1 << 32, 1<<32 + 1, math.MaxInt}
	noTicks  = []int{math.MinInt, math.MinInt + 1, -last, -1 << 16, -1, last + 1, 2 * last, 1<<48 - 1, 1 << 48, 1<<48 + 1, math.MaxInt}
	noBodies = []string{strings.Repeat("x", most+1), strings.Repeat("x", 1<<16), strings.Repeat("x", 1<<16+3)}
)

// someTicks: ordinary times, and such at which something turns.
var someTicks = []int{
	0, 1, 2, 86, 87, 127, 128, 255, 256, 257, 258, 65535, 65536, 86400, 1<<24 - 1, 1 << 24, 1<<32 - 1, 1 << 32, 1<<32 + 1,
	0x0102030405, 0x8080808080, 1<<39 - 1, 1 << 39, last - 1, last,
}

// someBodies: ordinary bodies, and such at which something turns.
func someBodies() []string {
	l := []string{
		"", "a", "hi", "W", "WW", "WWWWWWWWWWWWWWWWWWWW", "\x00", "\x00\x00\x00\x00", "\xff", "\xff\xff\xff\xff", "login: root\r\n",
		"line one\nline two\n", "\xc3\xa9", "\xff\xfe\x80\x7f", item(1, 258, "hi"), item(2, last, ""), item(1, 258, "hi")[:15],
	}
	for _, n := range []int{127, 128, 255, 256, 257, 511, 512, 1000, most - 1, most} {
		l = append(l, strings.Repeat("\xff", n), strings.Repeat("wheelhouse ", 400)[:n])
	}
	return l
}

// sums is the sum of bytes, in the plainest way.
func sums(s string) uint32 {
	n := uint64(0)
	for i := 0; i < len(s); i++ {
		n = (n*257 + uint64(s[i]) + 1) % 2147483647
	}
	return uint32(n)
}

// head is how an item begins, whatever may be wrong with it: just the last bytes of its numbers.
func head(kind, at, size int) string {
	tick := binary.BigEndian.AppendUint64(nil, uint64(at))
	s := append([]byte{'W', byte(kind)}, tick[2:]...)
	return string(binary.BigEndian.AppendUint16(s, uint16(size)))
}

// summed is bytes, and their sum.
func summed(s string) string {
	return string(binary.BigEndian.AppendUint32([]byte(s), sums(s)))
}

// item is an item's bytes, put together by other means than Put's.
func item(kind, at int, body string) string {
	return summed(head(kind, at, len(body)) + body)
}

// someItems: items of each kind, time and body that is named.
func someItems() []api.Item {
	var l []api.Item
	for _, body := range someBodies() {
		for _, at := range []int{0, 258, last} {
			l = append(l, api.Item{Kind: 1, At: at, Body: body})
		}
	}
	for _, at := range someTicks {
		for kind := 1; kind <= 15; kind++ {
			l = append(l, api.Item{Kind: kind, At: at, Body: "hi"})
		}
	}
	return l
}

// reads: Read of s is this item, of so many bytes.
func reads(t *testing.T, s string, want api.Item, size int) {
	t.Helper()
	if x, n, code := Read(s); x != want || n != size || code != api.OK {
		t.Errorf("Read(%.40q): %.40q, %d, code %d; want %.40q, %d", s, show(x), n, code, show(want), size)
	}
}

// refuses: Read of s is this code, and nothing else; Scan finds nothing there.
func refuses(t *testing.T, s string, want api.Code) {
	t.Helper()
	if x, n, code := Read(s); x != (api.Item{}) || n != 0 || code != want {
		t.Errorf("Read(%.40q), of %d bytes: %.40q, %d, code %d; want code %d", s, len(s), show(x), n, code, want)
	}
	scans(t, s, nil, 0)
}

// scans: Scan of s is these items, which have so many bytes.
func scans(t *testing.T, s string, want []api.Item, size int) {
	t.Helper()
	if l, n := Scan(s); !slices.Equal(l, want) || n != size {
		t.Errorf("Scan(%.40q), of %d bytes: %d items, %d bytes; want %d, %d", s, len(s), len(l), n, len(want), size)
	}
}

// show is an item as a text.
func show(x api.Item) string {
	return string(rune('0'+x.Kind)) + " " + x.Body
}

// Promise 8.1: which items may be.
func TestCheck(t *testing.T) {
	for _, x := range someItems() {
		if code := Check(x); code != api.OK {
			t.Errorf("Check of %d, %d, %.40q: code %d", x.Kind, x.At, x.Body, code)
		}
	}
	for _, kind := range []int{api.ItemData, api.ItemNote, api.ItemGap, 4, 14, 15} {
		for _, body := range []string{"", strings.Repeat("\xff", most)} {
			if code := Check(api.Item{Kind: kind, At: last, Body: body}); code != api.OK {
				t.Errorf("Check of kind %d: code %d", kind, code)
			}
		}
	}
	if code := Check(api.Item{}); code != api.ErrArg {
		t.Error("Check of no item:", code)
	}
}

// isRefused: of an item neither Check, nor Put, nor All has anything but this code.
func isRefused(t *testing.T, x api.Item, want api.Code) {
	t.Helper()
	if code := Check(x); code != want {
		t.Errorf("Check of %d, %d, %.40q: code %d; want %d", x.Kind, x.At, x.Body, code, want)
	}
	if s, code := Put(x); s != "" || code != want {
		t.Errorf("Put of %d, %d, %.40q: %.40q, code %d; want code %d", x.Kind, x.At, x.Body, s, code, want)
	}
	if s, code := All([]api.Item{{Kind: 1}, x}); s != "" || code != want {
		t.Errorf("All with %d, %d, %.40q: %.40q, code %d; want code %d", x.Kind, x.At, x.Body, s, code, want)
	}
}

// Promise 8.1: which ones may not, and what is told first where more than one thing is wrong.
func TestCheckRefuses(t *testing.T) {
	for _, kind := range noKinds {
		isRefused(t, api.Item{Kind: kind}, api.ErrArg)
		isRefused(t, api.Item{Kind: kind, At: last, Body: "hi"}, api.ErrArg)
		for _, at := range noTicks {
			isRefused(t, api.Item{Kind: kind, At: at, Body: "hi"}, api.ErrArg)
			isRefused(t, api.Item{Kind: kind, At: at, Body: noBodies[0]}, api.ErrArg)
		}
		for _, body := range noBodies {
			isRefused(t, api.Item{Kind: kind, At: 1, Body: body}, api.ErrArg)
		}
	}
	for _, at := range noTicks {
		isRefused(t, api.Item{Kind: 1, At: at}, api.ErrRange)
		isRefused(t, api.Item{Kind: 15, At: at, Body: "hi"}, api.ErrRange)
		for _, body := range noBodies {
			isRefused(t, api.Item{Kind: 15, At: at, Body: body}, api.ErrRange)
		}
	}
	for _, body := range noBodies {
		isRefused(t, api.Item{Kind: 1, At: 0, Body: body}, api.ErrSize)
		isRefused(t, api.Item{Kind: 15, At: last, Body: body}, api.ErrSize)
	}
}

// Promise 8.1: the limits that the chapter names in digits.
func TestLimits(t *testing.T) {
	if api.MaxTick != last || api.MaxText != most {
		t.Error(api.MaxTick, api.MaxText)
	}
}

// putRead: an item is put as these bytes, and read back from them.
func putRead(t *testing.T, x api.Item, want string) {
	t.Helper()
	if s, code := Put(x); s != want || code != api.OK {
		t.Errorf("Put of %.40q at %d: %.40q, code %d; want %.40q", show(x), x.At, s, code, want)
	}
	reads(t, want, x, len(want))
}

// Promise 8.1: items' bytes that were worked out by hand.
func TestPut(t *testing.T) {
	for _, x := range []struct {
		item api.Item
		want string
	}{
		{api.Item{Kind: 1, At: 258, Body: "hi"}, "W\x01\x00\x00\x00\x00\x01\x02\x00\x02hi"},
		{api.Item{Kind: 1}, "W\x01\x00\x00\x00\x00\x00\x00\x00\x00"},
		{api.Item{Kind: 15, At: 1}, "W\x0f\x00\x00\x00\x00\x00\x01\x00\x00"},
		{api.Item{Kind: 2, At: 0x0102030405, Body: "W"}, "W\x02\x00\x01\x02\x03\x04\x05\x00\x01W"},
		{api.Item{Kind: 3, At: last, Body: "7"}, "W\x03\x01\x00\x00\x00\x00\x00\x00\x017"},
		{api.Item{Kind: 3, At: last - 1, Body: "\x00"}, "W\x03\x00\xff\xff\xff\xff\xff\x00\x01\x00"},
		{api.Item{Kind: 4, At: 9, Body: strings.Repeat("\xff", 258)}, "W\x04\x00\x00\x00\x00\x00\x09\x01\x02" + strings.Repeat("\xff", 258)},
		{api.Item{Kind: 5, At: 9, Body: strings.Repeat("a", most)}, "W\x05\x00\x00\x00\x00\x00\x09\x10\x00" + strings.Repeat("a", most)},
	} {
		putRead(t, x.item, x.want+sum.Put(sum.Of(x.want)))
	}
	// With the sum written out, too.
	putRead(t, api.Item{Kind: 1, At: 258, Body: "hi"}, "W\x01\x00\x00\x00\x00\x01\x02\x00\x02hi\x6c\x67\x7c\x1c")
	putRead(t, api.Item{Kind: 1}, "W\x01\x00\x00\x00\x00\x00\x00\x00\x00\x3f\x6c\xc1\x5f")
	putRead(t, api.Item{Kind: 15, At: 1}, "W\x0f\x00\x00\x00\x00\x00\x01\x00\x00\x34\x0c\x5b\x56")
}

// Promises 8.1 and 8.2: every item is put as the chapter says, has as many bytes as Len says, and is read back.
func TestPutRead(t *testing.T) {
	for _, x := range someItems() {
		want := item(x.Kind, x.At, x.Body)
		putRead(t, x, want)
		if Len(x) != len(want) {
			t.Errorf("Len of %.40q: %d; it has %d", show(x), Len(x), len(want))
		}
	}
}

// Promise 8.1: how many bytes, whatever else an item is.
func TestLen(t *testing.T) {
	for body, want := range map[string]int{
		"": 14, "a": 15, "hi": 16, "\x00\x00": 16, "\xc3\xa9": 16, "login: ": 21, strings.Repeat("x", most): most + 14,
	} {
		for _, kind := range []int{1, 3, 15} {
			for _, at := range []int{0, 258, last} {
				if got := Len(api.Item{Kind: kind, At: at, Body: body}); got != want {
					t.Errorf("Len of %.40q: %d; want %d", body, got, want)
				}
			}
		}
	}
	// The words make no difference between items that may be and others.
	if got := Len(api.Item{}); got != 14 {
		t.Error("Len of no item:", got)
	}
	if got := Len(api.Item{Kind: -1, At: -1, Body: noBodies[0]}); got != most+15 {
		t.Error("Len of one that may not be:", got)
	}
}

// Promise 8.2: what stands behind an item is not looked at.
func TestReadBehind(t *testing.T) {
	for _, x := range someItems() {
		s := item(x.Kind, x.At, x.Body)
		for _, behind := range []string{"\x00", "W", "x", s, s[:len(s)-1], "\xff\xff\xff\xff", strings.Repeat("\x00", 100)} {
			reads(t, s+behind, x, len(s))
		}
	}
}

// Promise 8.2: what does not begin with W, however much there is of it.
func TestReadForm(t *testing.T) {
	refuses(t, "", api.ErrCut)
	x := item(1, 258, "hi")
	for c := range 256 {
		first := string([]byte{byte(c)})
		want := api.ErrForm
		if first == "W" {
			want = api.ErrCut
		}
		for n := 1; n < len(x); n++ {
			refuses(t, first+x[1:n], want)
		}
		if first != "W" {
			refuses(t, first+x[1:], api.ErrForm)
			refuses(t, summed(first+x[1:12]), api.ErrForm)
		}
	}
	for _, s := range []string{"w", "hello", " W", " " + x, x[1:], summed("\x00"), strings.Repeat("\x00", 5000)} {
		refuses(t, s, api.ErrForm)
	}
}

// Promise 8.2: what is cut off within the first ten bytes, whatever these tell.
func TestReadCutHead(t *testing.T) {
	for n := range 10 {
		refuses(t, item(1, 258, "hi")[:n], api.ErrCut)
		refuses(t, head(0, last+1, most+1)[:n], api.ErrCut)
		refuses(t, ("W" + strings.Repeat("\xff", 9))[:n], api.ErrCut)
		refuses(t, ("W" + strings.Repeat("\x00", 9))[:n], api.ErrCut)
	}
}

// Promise 8.2: kinds, times and lengths that may not be, with and without what follows; the first one is told.
func TestReadHead(t *testing.T) {
	behind := strings.Repeat("x", 1<<16+20)
	wrong := func(kind, at, size int, want api.Code) {
		t.Helper()
		s := head(kind, at, size)
		refuses(t, s, want)
		refuses(t, s+behind[:size], want)
		refuses(t, summed(s+behind[:size]), want)
		refuses(t, s+behind, want)
	}
	for kind := range 256 {
		if kind >= 1 && kind <= 15 {
			continue
		}
		wrong(kind, 258, 2, api.ErrArg)
		wrong(kind, last+1, 2, api.ErrArg)
		wrong(kind, 258, most+1, api.ErrArg)
		wrong(kind, 1<<48-1, 1<<16-1, api.ErrArg)
	}
	for _, kind := range []int{1, 2, 3, 15} {
		for _, at := range []int{last + 1, last + 255, last + 256, 1 << 41, 1 << 42, 1<<47 - 1, 1 << 47, 1<<48 - 1} {
			wrong(kind, at, 0, api.ErrRange)
			wrong(kind, at, 2, api.ErrRange)
			wrong(kind, at, most+1, api.ErrRange)
		}
		for _, size := range []int{most + 1, most + 2, most + 256, 2 * most, 1<<15 - 1, 1 << 15, 1<<16 - 1} {
			wrong(kind, 0, size, api.ErrSize)
			wrong(kind, last, size, api.ErrSize)
		}
	}
}

// Promise 8.2: a body, or a sum, that is not there whole is told ahead of a sum that is wrong.
func TestReadCut(t *testing.T) {
	for _, size := range []int{0, 1, 2, 3, 4, 5, 255, 256, 257, most - 1, most} {
		s := item(3, last, strings.Repeat("W", size))
		for n := 10; n < len(s); n++ {
			if n > 30 && n < len(s)-10 && n%97 != 0 {
				continue
			}
			refuses(t, s[:n], api.ErrCut)
			refuses(t, head(3, last, size)+strings.Repeat("x", n-10), api.ErrCut)
		}
	}
	// What is there would be a whole item of fewer bytes, were its length not told.
	s := summed(head(1, 258, 5) + "hi")
	refuses(t, s, api.ErrCut)
}

// Promise 8.2: sums that are not those of what is ahead.
func TestReadSum(t *testing.T) {
	for _, x := range someItems() {
		s := head(x.Kind, x.At, len(x.Body)) + x.Body
		n := sums(s)
		for i := range 32 {
			refuses(t, string(binary.BigEndian.AppendUint32([]byte(s), n^1<<i)), api.ErrSum)
		}
		// A sum and 2^31 less 1 tell no sum, and the highest byte is the first one.
		refuses(t, string(binary.BigEndian.AppendUint32([]byte(s), n+2147483647)), api.ErrSum)
		if other := string(binary.LittleEndian.AppendUint32([]byte(s), n)); other != item(x.Kind, x.At, x.Body) {
			refuses(t, other, api.ErrSum)
		}
	}
	refuses(t, head(1, 258, 2)+"hi\x00\x00\x00\x00", api.ErrSum)
	refuses(t, head(1, 258, 2)+"hi\x00\x00\x00\x00"+item(1, 258, "hi"), api.ErrSum)
	// It is the sum of all ahead of it, not of the body, nor of all but the first byte.
	refuses(t, head(1, 258, 2)+summed("hi"), api.ErrSum)
	s := head(1, 258, 2) + "hi"
	refuses(t, s+summed(s[1:])[len(s)-1:], api.ErrSum)
	// What no item may end with, as it is no sum.
	for _, at := range someTicks {
		refuses(t, head(1, at, 0)+"\x7f\xff\xff\xff", api.ErrSum)
		refuses(t, head(1, at, 0)+"\xff\xff\xff\xff", api.ErrSum)
	}
}

// chain: items one behind the other, their bytes, and where each one ends.
func chain() ([]api.Item, string, []int) {
	l := []api.Item{
		{Kind: 1, At: 258, Body: "hi"},
		{Kind: 2, At: 0, Body: ""},
		{Kind: 3, At: last, Body: "WW\n\x00\xff"},
		{Kind: 15, At: 65536, Body: item(1, 258, "hi")},
		{Kind: 1, At: 258, Body: "hi"},
		{Kind: 1, At: 87, Body: strings.Repeat("W", 300)},
		{Kind: 4, At: 1, Body: "$"},
	}
	s := ""
	var ends []int
	for _, x := range l {
		s += item(x.Kind, x.At, x.Body)
		ends = append(ends, len(s))
	}
	return l, s, ends
}

// until is how many of these ends are at n, or ahead of it.
func until(ends []int, n int) int {
	return len(slices.DeleteFunc(slices.Clone(ends), func(end int) bool { return end > n }))
}

// size is how many bytes the first items have.
func size(ends []int, items int) int {
	if items == 0 {
		return 0
	}
	return ends[items-1]
}

// Promise 8.3: all items that there are, one behind the other, up to what is none.
func TestScan(t *testing.T) {
	l, s, ends := chain()
	scans(t, "", nil, 0)
	scans(t, s, l, len(s))
	for i := range l {
		scans(t, s[ends[i]:], l[i+1:], len(s)-ends[i])
		for _, wrong := range []string{
			"\x00", "x", "W", "Wx", head(1, 258, 2), "x" + item(1, 258, "hi"), head(0, 258, 0), head(1, last+1, 0), head(1, 0, most+1),
			head(1, 258, 2) + "hi\x00\x00\x00\x00", item(1, 258, "hi")[:15], item(1, 258, "hi")[1:], summed(head(16, 0, 0)),
		} {
			// Whole items behind what is none do not come back.
			scans(t, s[:ends[i]]+wrong, l[:i+1], ends[i])
			if !strings.HasPrefix(wrong, "W") {
				scans(t, s[:ends[i]]+wrong+s, l[:i+1], ends[i])
			}
		}
		scans(t, s[:ends[i]]+summed(head(16, 0, 0))+s, l[:i+1], ends[i])
	}
	many := strings.Repeat(s, 200)
	if got, n := Scan(many); len(got) != 200*len(l) || n != len(many) || !slices.Equal(got[len(got)-len(l):], l) {
		t.Error("of many:", len(got), n)
	}
}

// Promise 8.3: Scan is Read, as long as that has no error.
func TestScanIsRead(t *testing.T) {
	_, s, _ := chain()
	for at := range len(s) + 1 {
		var want []api.Item
		n := 0
		for x, size, code := Read(s[at:]); code == api.OK; x, size, code = Read(s[at+n:]) {
			want = append(want, x)
			n += size
		}
		scans(t, s[at:], want, n)
	}
}

// Promise 8.3: items put one behind the other, which come back.
func TestAll(t *testing.T) {
	l, want, _ := chain()
	for i := range l {
		for j := i; j <= len(l); j++ {
			s := ""
			for _, x := range l[i:j] {
				one, _ := Put(x)
				s += one
			}
			if got, code := All(l[i:j]); got != s || code != api.OK {
				t.Errorf("All of %d to %d: %.40q, code %d", i, j, got, code)
			}
		}
	}
	if got, code := All(l); got != want || code != api.OK {
		t.Errorf("All: %.40q, code %d", got, code)
	}
	l = someItems()
	s, code := All(l)
	if code != api.OK {
		t.Error("All of many:", code)
	}
	scans(t, s, l, len(s))
}

// Promise 8.3: of no items there are no bytes.
func TestAllNone(t *testing.T) {
	for _, l := range [][]api.Item{nil, {}} {
		if s, code := All(l); s != "" || code != api.OK {
			t.Errorf("All of none: %q, code %d", s, code)
		}
	}
}

// Promise 8.3: the code of the first item that may not be, beside which there are no bytes.
func TestAllRefuses(t *testing.T) {
	good := api.Item{Kind: 1, At: 258, Body: "hi"}
	kind := api.Item{Kind: 16, At: -1, Body: noBodies[0]}
	at := api.Item{Kind: 1, At: -1, Body: noBodies[0]}
	body := api.Item{Kind: 1, At: 1, Body: noBodies[0]}
	for _, x := range []struct {
		l    []api.Item
		want api.Code
	}{
		{[]api.Item{kind}, api.ErrArg},
		{[]api.Item{{}}, api.ErrArg},
		{[]api.Item{at}, api.ErrRange},
		{[]api.Item{body}, api.ErrSize},
		{[]api.Item{good, kind}, api.ErrArg},
		{[]api.Item{at, good}, api.ErrRange},
		{[]api.Item{good, body, good}, api.ErrSize},
		// The first one's code is told, not that which a chapter names first.
		{[]api.Item{body, at, kind}, api.ErrSize},
		{[]api.Item{good, at, kind, body}, api.ErrRange},
		{[]api.Item{kind, body, at}, api.ErrArg},
	} {
		if s, code := All(x.l); s != "" || code != x.want {
			t.Errorf("All of %d, with wrong ones: %.40q, code %d; want code %d", len(x.l), s, code, x.want)
		}
	}
}

// Promises 8.1 and 8.3: what is handed in is left as it was, and not read behind its length (R3).
func TestAllLength(t *testing.T) {
	l, want, ends := chain()
	bad := append(slices.Clone(l), api.Item{Kind: 99})
	given := slices.Clone(bad)
	if s, code := All(bad[:len(l)]); s != want || code != api.OK {
		t.Errorf("All ahead of a wrong one: %.40q, code %d", s, code)
	}
	if s, code := All(bad[:2]); s != want[:ends[1]] || code != api.OK {
		t.Errorf("All of two: %.40q, code %d", s, code)
	}
	if !slices.Equal(bad, given) {
		t.Error("All changed its list")
	}
}

// Promise 8.3: what was answered is not written to by what is asked later (R3).
func TestScanApart(t *testing.T) {
	l, s, _ := chain()
	first, _ := Scan(s)
	for i := range first {
		first[i] = api.Item{}
	}
	scans(t, s, l, len(s))
	second, _ := Scan(s)
	_ = append(second[:1], api.Item{Kind: 9})
	scans(t, s, l, len(s))
}

// Promise 8.4: of items' bytes, cut off anywhere, just those come back that are there whole.
func TestCut(t *testing.T) {
	l, s, ends := chain()
	for n := range len(s) + 1 {
		whole := until(ends, n)
		scans(t, s[:n], l[:whole], size(ends, whole))
		_, _, code := Read(s[:n])
		want := api.OK
		if whole == 0 {
			want = api.ErrCut
		}
		if code != want {
			t.Errorf("Read of the first %d bytes: code %d; want %d", n, code, want)
		}
	}
	for _, x := range someItems() {
		one := item(x.Kind, x.At, x.Body)
		for n := range one {
			if n < 30 || n > len(one)-10 || n%997 == 0 {
				refuses(t, one[:n], api.ErrCut)
			}
		}
	}
}

// turn is a text with the byte at a place turned into another one.
func turn(s string, at int, c byte) string {
	x := []byte(s)
	x[at] = c
	return string(x)
}

// inLength: is this one of the two bytes of an item that tell how long its body is?
func inLength(at int) bool {
	return at == 8 || at == 9
}

// Promise 8.4: a byte that was turned is found, at each place, into each other one.
func TestTurned(t *testing.T) {
	for _, x := range []api.Item{{Kind: 1, At: 258, Body: "hi"}, {Kind: 2}, {Kind: 15, At: last, Body: strings.Repeat("W\x00\xff", 30)}} {
		s := item(x.Kind, x.At, x.Body)
		for at := range len(s) {
			for c := range 256 {
				if byte(c) == s[at] {
					continue
				}
				got, n, code := Read(turn(s, at, byte(c)))
				switch {
				case code == api.OK && !inLength(at):
					t.Errorf("%.40q is read as %.40q, with a byte %d at %d", s, show(got), c, at)
				case code == api.OK && (got == x || n >= len(s)):
					t.Errorf("%.40q is read as itself, with a byte %d at %d", s, c, at)
				case code != api.OK && (got != api.Item{} || n != 0):
					t.Errorf("Read of a turned %.40q: %.40q, %d, code %d", s, show(got), n, code)
				}
			}
		}
	}
}

// Promises 8.2 and 8.4: which code tells what was turned.
func TestTurnedCode(t *testing.T) {
	s := item(1, 258, "hi")
	for _, x := range []struct {
		at   int
		c    byte
		want api.Code
	}{
		{0, 'w', api.ErrForm},
		{1, 0, api.ErrArg},
		{1, 2, api.ErrSum},
		{1, 15, api.ErrSum},
		{1, 16, api.ErrArg},
		{1, 255, api.ErrArg},
		{2, 1, api.ErrRange},
		{2, 255, api.ErrRange},
		{3, 255, api.ErrSum},
		{7, 3, api.ErrSum},
		{8, 1, api.ErrCut},
		{8, 0x0f, api.ErrCut},
		{8, 0x10, api.ErrSize},
		{8, 255, api.ErrSize},
		{9, 1, api.ErrSum},
		{9, 0, api.ErrSum},
		{9, 3, api.ErrCut},
		{9, 255, api.ErrCut},
		{10, 'H', api.ErrSum},
		{11, 0, api.ErrSum},
		{12, s[12] ^ 0x80, api.ErrSum},
		{15, s[15] ^ 1, api.ErrSum},
	} {
		refuses(t, turn(s, x.at, x.c), x.want)
	}
}

// Promise 8.4: a length that was turned may let fewer bytes seem to be an item, but not that one.
func TestTurnedLength(t *testing.T) {
	short := item(1, 258, "hi")
	x := api.Item{Kind: 1, At: 258, Body: "hi" + short[12:]}
	s := item(x.Kind, x.At, x.Body)
	reads(t, s, x, 20)
	reads(t, turn(s, 9, 2), api.Item{Kind: 1, At: 258, Body: "hi"}, 16)
	scans(t, turn(s, 9, 2), []api.Item{{Kind: 1, At: 258, Body: "hi"}}, 16)
}

// Promise 8.4: of items of which one has a turned byte, those ahead of it come back, and it does not.
func TestTurnedScan(t *testing.T) {
	l, s, ends := chain()
	for at := range len(s) {
		ahead := until(ends, at)
		from := size(ends, ahead)
		for _, by := range []byte{1, 2, 16, 127, 128, 255} {
			torn := turn(s, at, s[at]^by)
			if !inLength(at - from) {
				scans(t, torn, l[:ahead], from)
				continue
			}
			got, n := Scan(torn)
			if len(got) < ahead || !slices.Equal(got[:ahead], l[:ahead]) || n < from {
				t.Errorf("with a byte turned at %d: %d items, %d bytes", at, len(got), n)
			}
			if len(got) > ahead && got[ahead] == l[ahead] {
				t.Errorf("with a byte turned at %d: the item %d came back", at, ahead)
			}
		}
	}
}

// plain is Read, said in other words: of any bytes whatever.
func plain(s string) (api.Item, int, api.Code) {
	b := []byte(s)
	if len(b) > 0 && b[0] != 87 {
		return api.Item{}, 0, 3
	}
	if len(b) < 10 {
		return api.Item{}, 0, 13
	}
	kind := int(b[1])
	at := int(binary.BigEndian.Uint64(append([]byte{0, 0}, b[2:8]...)))
	size := int(binary.BigEndian.Uint16(b[8:10]))
	if kind == 0 || kind > 15 {
		return api.Item{}, 0, 1
	}
	if at > last {
		return api.Item{}, 0, 2
	}
	if size > most {
		return api.Item{}, 0, 5
	}
	if len(b) < size+14 {
		return api.Item{}, 0, 13
	}
	if binary.BigEndian.Uint32(b[10+size:]) != sums(s[:10+size]) {
		return api.Item{}, 0, 4
	}
	return api.Item{Kind: kind, At: at, Body: s[10 : 10+size]}, size + 14, 0
}

// Promise 8.2: of bytes of any kind Read answers what its words say, and what it reads is put so again (P6).
func FuzzRead(f *testing.F) {
	_, s, ends := chain()
	for at := range len(s) + 1 {
		f.Add(s[at:])
		f.Add(s[:at])
	}
	for at := range ends[2] {
		for c := range 256 {
			f.Add(turn(s[:ends[2]], at, byte(c)))
		}
	}
	f.Fuzz(func(t *testing.T, s string) {
		x, n, code := Read(s)
		if y, m, want := plain(s); x != y || n != m || code != want {
			t.Fatalf("Read(%q): %q, %d, code %d; want %q, %d, code %d", s, show(x), n, code, show(y), m, want)
		}
		if code == api.OK {
			if put, c := Put(x); put != s[:n] || c != api.OK {
				t.Fatalf("Put of what Read(%q) tells: %q, code %d", s, put, c)
			}
		}
		l, n := Scan(s)
		if put, c := All(l); put != s[:n] || c != api.OK {
			t.Fatalf("All of what Scan(%q) tells: %q, code %d", s, put, c)
		}
		if _, _, c := Read(s[n:]); c == api.OK {
			t.Fatalf("Scan(%q) left an item", s)
		}
	})
}

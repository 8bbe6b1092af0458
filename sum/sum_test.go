package sum

import (
	"math"
	"math/big"
	"strings"
	"testing"

	"wheelhouse/api"
)

// prime: 2^31 less 1, in digits.
const prime = 2147483647

// nought, one and most: texts whose sum is 0 (257 times over they come to prime itself), 1, and the greatest there is.
const (
	nought = "\x7d\x82\x7d\x7f"
	one    = "\x7d\x82\x7d\x80"
	most   = "\x7d\x82\x7d\x7e"
)

// noSums: numbers that may be no sums.
var noSums = []int{
	math.MinInt, math.MinInt + 1, -1 << 32, -prime - 1, -prime, -prime + 1, -2, -1,
	prime, prime + 1, prime + 2, 2*prime - 1, 2 * prime, 1<<32 - 1, 1 << 32, 1<<32 + 1, 1<<32 + prime, 1 << 40, math.MaxInt - 1, math.MaxInt,
}

// someSums: numbers that may be sums.
var someSums = []int{
	0, 1, 2, 97, 98, 127, 128, 255, 256, 257, 258, 65535, 65536, 66049, 1<<24 - 1, 1 << 24, 16974593,
	1 << 30, 0x01020304, 0x7f000000, 0x7effffff, prime / 2, prime/2 + 1, prime - 257, prime - 2, prime - 1,
}

// someTexts: ordinary texts, and such at which something turns.
func someTexts() []string {
	return []string{
		"", "\x00", "\x00\x00", "\x00\x00\x00", "\xff", "\xff\xff", "\xff\xff\xff\xff", "a", "b", "ab", "ba", "abc",
		"wheel", "house", "wheelhouse", "line\r\nfeed\n", "\x00a", "a\x00", "\x01", "\xc3\xa9", "\xff\xfe\x80\x7f",
		nought, one, most, nought + nought, "x" + nought, most + "x",
		strings.Repeat("\x00", 100), strings.Repeat("\xff", 1000), strings.Repeat("wheelhouse ", 300),
	}
}

// eachByte: all texts of one byte.
func eachByte() []string {
	var l []string
	for c := range 256 {
		l = append(l, string([]byte{byte(c)}))
	}
	return l
}

// mod is a number without as many times prime as there are in it.
func mod(n *big.Int) int {
	return int(new(big.Int).Mod(n, big.NewInt(prime)).Int64())
}

// plain is the sum of bytes in numbers without bounds, of which prime is taken away at the end alone.
func plain(s string) int {
	sum := new(big.Int)
	for i := 0; i < len(s); i++ {
		sum.Mul(sum, big.NewInt(257))
		sum.Add(sum, big.NewInt(int64(s[i])))
		sum.Add(sum, big.NewInt(1))
	}
	return mod(sum)
}

// plainJoin is Join in such numbers.
func plainJoin(a, b, n int) int {
	x := new(big.Int).Exp(big.NewInt(257), big.NewInt(int64(n)), big.NewInt(prime))
	x.Mul(x, big.NewInt(int64(a)))
	return mod(x.Add(x, big.NewInt(int64(b))))
}

// Promises 7.1 and 7.3: the numbers that the chapter names.
func TestNames(t *testing.T) {
	if Prime != prime || Wide != 4 {
		t.Error(Prime, Wide)
	}
	if !big.NewInt(Prime).ProbablyPrime(0) {
		t.Error("no prime:", Prime)
	}
}

// Promise 7.1: sums that were worked out by hand.
func TestOf(t *testing.T) {
	for s, want := range map[string]int{
		"":                 0,
		"\x00":             1,
		"a":                98,
		"\xff":             256,
		"\x00\x00":         258,
		"\x00\xff":         513,
		"\xff\x00":         65793,
		"ab":               257*98 + 99,
		"ba":               257*99 + 98,
		"\x00a":            257 + 98,
		"a\x00":            257*98 + 1,
		"\x00\x00\x00":     257*258 + 1,
		"\x00\x00\x00\x00": 257*(257*258+1) + 1,
		nought:             0,
		one:                1,
		most:               prime - 1,
		nought + "a":       98,
		nought + nought:    0,
		most + "\x00":      prime - 256,
		most + "\xff":      prime - 1,
		one + "\xff":       513,
		"\xff\xff\xff\xff": 67503106,
	} {
		if got := Of(s); got != want {
			t.Errorf("Of(%q): %d; want %d", s, got, want)
		}
	}
}

// Promise 7.1: sums are as in numbers without bounds, and from 0 to Prime less 1.
func TestOfPlain(t *testing.T) {
	l := append(someTexts(), eachByte()...)
	l = append(l, strings.Repeat("wheelhouse ", 1<<11), strings.Repeat("\xff", 1<<14))
	for n := range 300 {
		l = append(l, strings.Repeat("\xff", n), strings.Repeat("\x00\x80", n), strings.Repeat("wheelhouse", 300)[n:3*n])
	}
	for _, s := range l {
		got := Of(s)
		if got != plain(s) || got < 0 || got > prime-1 {
			t.Errorf("Of(%.40q), of %d bytes: %d; want %d", s, len(s), got, plain(s))
		}
	}
}

// Promise 7.1: each byte is put to the sum of those ahead of it, as the words say.
func TestOfStep(t *testing.T) {
	for _, s := range someTexts() {
		for _, last := range eachByte() {
			want := (257*Of(s) + int(last[0]) + 1) % prime
			if got := Of(s + last); got != want {
				t.Fatalf("Of(%.40q and %q): %d; want %d", s, last, got, want)
			}
		}
	}
}

// Promise 7.1 (Ways): a list of bytes has the sum of the text, is left as it was, and isn't read behind its length.
func TestOfList(t *testing.T) {
	type own string
	for _, s := range someTexts() {
		list := append([]byte(s), "more"...)
		if got := of(list[:len(s)]); got != Of(s) || string(list) != s+"more" {
			t.Errorf("of the list %.40q: %d; want %d", s, got, Of(s))
		}
		if got := of(own(s)); got != Of(s) {
			t.Errorf("of a text of another type %.40q: %d; want %d", s, got, Of(s))
		}
	}
	if got := of([]byte(nil)); got != 0 {
		t.Error("of no list:", got)
	}
}

// Promise 7.2: ordinary sums, put together.
func TestJoin(t *testing.T) {
	for _, x := range []struct{ a, b, n, want int }{
		{0, 0, 0, 0},
		{0, 0, 9, 0},
		{5, 7, 0, 12},
		{0, 7, 3, 7},
		{1, 0, 1, 257},
		{1, 0, 2, 66049},
		{1, 0, 3, 16974593},
		{1, 0, 4, 67503107},
		{98, 99, 1, 257*98 + 99},
		{2, 3, 2, 2*66049 + 3},
		{1, prime - 1, 0, 0},
		{2, prime - 1, 0, 1},
		{prime - 1, prime - 1, 0, prime - 2},
		{prime - 1, 0, 0, prime - 1},
		{prime - 1, 0, 1, prime - 257},
		{prime - 1, 257, 1, 0},
		{prime - 1, 256, 1, prime - 1},
		// 257, as many times over as there are numbers from 1 to Prime less 1, is 1 again.
		{1, 0, prime - 1, 1},
		{5, 7, prime - 1, 12},
		{1, 0, prime, 257},
		{1, 0, 4 * (prime - 1), 1},
	} {
		if got, code := Join(x.a, x.b, x.n); got != x.want || code != api.OK {
			t.Errorf("Join(%d, %d, %d): %d, code %d; want %d", x.a, x.b, x.n, got, code, x.want)
		}
	}
}

// Promise 7.2: all sums at the edges, however often over.
func TestJoinPlain(t *testing.T) {
	often := []int{1 << 20, prime - 2, prime - 1, prime, prime + 1, 1 << 32, 1<<32 + 5, 1 << 40, 1 << 62, 1<<62 - 1, math.MaxInt - 1, math.MaxInt}
	for n := range 70 {
		often = append(often, n)
	}
	for _, a := range someSums {
		for _, b := range someSums {
			for _, n := range often {
				if got, code := Join(a, b, n); got != plainJoin(a, b, n) || code != api.OK {
					t.Errorf("Join(%d, %d, %d): %d, code %d; want %d", a, b, n, got, code, plainJoin(a, b, n))
				}
			}
		}
	}
}

// Promise 7.2: what may be no sum, and what is no length.
func TestJoinRefuses(t *testing.T) {
	refused := func(a, b, n int) {
		t.Helper()
		if got, code := Join(a, b, n); got != 0 || code != api.ErrArg {
			t.Errorf("Join(%d, %d, %d): %d, code %d", a, b, n, got, code)
		}
	}
	for _, bad := range noSums {
		for _, n := range []int{math.MinInt, -1, 0, 1, 5, math.MaxInt} {
			for _, good := range someSums {
				refused(bad, good, n)
				refused(good, bad, n)
			}
			refused(bad, bad, n)
		}
	}
	for _, n := range []int{-1, -2, -256, -prime, -1 << 40, math.MinInt + 1, math.MinInt} {
		for _, good := range someSums {
			refused(good, 0, n)
			refused(0, good, n)
			refused(good, good, n)
		}
	}
}

// Promise 7.3: sums as bytes, the highest first, and back.
func TestPutRead(t *testing.T) {
	for n, s := range map[int]string{
		0:          "\x00\x00\x00\x00",
		1:          "\x00\x00\x00\x01",
		98:         "\x00\x00\x00\x62",
		255:        "\x00\x00\x00\xff",
		256:        "\x00\x00\x01\x00",
		0x01020304: "\x01\x02\x03\x04",
		0x00ff00ff: "\x00\xff\x00\xff",
		0x7f000000: "\x7f\x00\x00\x00",
		0x77686565: "whee",
		prime - 1:  "\x7f\xff\xff\xfe",
	} {
		if got := Put(n); got != s {
			t.Errorf("Put(%d): %q; want %q", n, got, s)
		}
		if got, code := Read(s); got != n || code != api.OK {
			t.Errorf("Read(%q): %d, code %d; want %d", s, got, code, n)
		}
	}
	for _, n := range someSums {
		if got, code := Read(Put(n)); got != n || code != api.OK || len(Put(n)) != 4 {
			t.Errorf("Read of Put(%d): %d, code %d", n, got, code)
		}
	}
	for _, n := range noSums {
		if got := Put(n); got != "" {
			t.Errorf("Put(%d): %q", n, got)
		}
	}
}

// Promise 7.3: what tells no sum.
func TestReadRefuses(t *testing.T) {
	for _, s := range []string{
		"", "\x00", "\x00\x00", "\x00\x00\x00", "\x00\x00\x00\x00\x00", "\x00\x00\x00\x00\x01", "abc", "abcde",
		// That there are not as many bytes is told ahead of what they tell.
		"\xff", "\xff\xff\xff", "\xff\xff\xff\xff\xff", "\x7f\xff\xff\xff\xff", strings.Repeat("\x00", 8), strings.Repeat("\xff", 8),
	} {
		if got, code := Read(s); got != 0 || code != api.ErrSize {
			t.Errorf("Read(%q): %d, code %d", s, got, code)
		}
	}
	for _, s := range []string{
		"\x7f\xff\xff\xff", "\x80\x00\x00\x00", "\x80\x00\x00\x01", "\x80\x00\x00\x62", "\xff\x00\x00\x00", "\xff\xff\xff\xfe", "\xff\xff\xff\xff",
	} {
		if got, code := Read(s); got != 0 || code != api.ErrRange {
			t.Errorf("Read(%q): %d, code %d", s, got, code)
		}
	}
}

// Promise 7.3: what ends with its sum.
func TestFits(t *testing.T) {
	for s, want := range map[string]bool{
		"\x00\x00\x00\x00":            true,
		"a\x00\x00\x00\x62":           true,
		"\x00\x00\x00\x00\x01":        true,
		nought + "\x00\x00\x00\x00":   true,
		one + "\x00\x00\x00\x01":      true,
		most + "\x7f\xff\xff\xfe":     true,
		"":                            false,
		"\x00":                        false,
		"\x00\x00\x00":                false,
		"a":                           false,
		"\x00\x00\x00\x01":            false,
		"\x00\x00\x00\x00\x00":        false,
		"a\x00\x00\x62":               false,
		"a\x00\x00\x00\x61":           false,
		"a\x62\x00\x00\x00":           false,
		"b\x00\x00\x00\x62":           false,
		"\x00\x00\x00\x62a":           false,
		"a\x00\x00\x00\x62\x00":       false,
		"a\x80\x00\x00\x62":           false,
		nought + "\x7f\xff\xff\xff":   false, // As many as Prime more, but no sum.
		one + "\x80\x00\x00\x00":      false,
		most + "\xff\xff\xff\xfd":     false,
		"\x7f\xff\xff\xff":            false,
		"ab\x00\x00\x00\x62":          false,
		"a\x00\x00\x00\x62" + "\x00a": false,
	} {
		if got := Fits(s); got != want {
			t.Errorf("Fits(%q): %t", s, got)
		}
	}
	for _, s := range someTexts() {
		if !Fits(s + Put(Of(s))) {
			t.Errorf("Fits of %.40q and its sum: false", s)
		}
		for i := range 31 {
			if n := Of(s) ^ 1<<i; Fits(s + Put(n)) {
				t.Errorf("Fits of %.40q and %d: true", s, n)
			}
		}
	}
}

// Promise 7.3: of all texts of one byte and four more, of which the last one is any, those fit in which it is 1 more than the first one.
func TestFitsByte(t *testing.T) {
	for _, first := range eachByte() {
		for _, last := range eachByte() {
			s := first + "\x00\x00\x00" + last
			want := int(last[0]) == int(first[0])+1
			if got := Fits(s); got != want {
				t.Errorf("Fits(%q): %t", s, got)
			}
		}
	}
}

// Promise 7.4: the sum of two texts is Join of their sums; cut anywhere, a text has the sum that it has.
func TestTwoTexts(t *testing.T) {
	for _, a := range someTexts() {
		for _, b := range someTexts() {
			if got, code := Join(Of(a), Of(b), len(b)); got != Of(a+b) || code != api.OK {
				t.Errorf("Join of %.40q and %.40q: %d, code %d; want %d", a, b, got, code, Of(a+b))
			}
		}
	}
	s := strings.Repeat("wheel\x00\xffhouse", 20)
	for i := range len(s) + 1 {
		if got, code := Join(Of(s[:i]), Of(s[i:]), len(s)-i); got != Of(s) || code != api.OK {
			t.Errorf("Join at %d: %d, code %d; want %d", i, got, code, Of(s))
		}
	}
}

// turned: none of the texts that one byte at this place makes of s has the sum of s, or fits with it.
func turned(t *testing.T, s string, at int) {
	t.Helper()
	sum := Of(s)
	for c := range 256 {
		x := []byte(s)
		x[at] = byte(c)
		if other := string(x); other != s && (Of(other) == sum || Fits(other+Put(sum))) {
			t.Errorf("%.40q, with a byte %d at %d, has its sum", s, c, at)
		}
	}
}

// Promise 7.4: a byte that was turned is found, at each place.
func TestTurned(t *testing.T) {
	for _, s := range someTexts() {
		for at := range min(len(s), 30) {
			turned(t, s, at)
			turned(t, s, len(s)-1-at)
		}
	}
}

// Promise 7.4: two unlike bytes, side by side, that were exchanged are found: any two, at each place.
func TestExchanged(t *testing.T) {
	for _, a := range eachByte() {
		for _, b := range eachByte() {
			for _, around := range [][2]string{{"", ""}, {"", "x"}, {"wheel", ""}, {"\xff", strings.Repeat("\xff", 9)}} {
				s := around[0] + a + b + around[1]
				other := around[0] + b + a + around[1]
				if a != b && (Of(s) == Of(other) || Fits(other+Put(Of(s)))) {
					t.Fatalf("%q has the sum of %q", other, s)
				}
			}
		}
	}
	long := strings.Repeat("wheel\x00\xffhouse", 20)
	for i := range len(long) - 1 {
		other := long[:i] + long[i+1:i+2] + long[i:i+1] + long[i+2:]
		if other != long && Of(other) == Of(long) {
			t.Errorf("exchanged at %d, the sum is the same", i)
		}
	}
}

// P6: a text has one sum, however many bytes come at once.
func TestPieces(t *testing.T) {
	s := strings.Repeat("console \x00\xff\r\n", 30)
	for size := 1; size <= len(s); size++ {
		sum := 0
		for rest := s; rest != ""; {
			piece := rest[:min(size, len(rest))]
			rest = rest[len(piece):]
			next, code := Join(sum, Of(piece), len(piece))
			if code != api.OK {
				t.Fatal(size, code)
			}
			sum = next
		}
		if sum != Of(s) {
			t.Errorf("in pieces of %d: %d; want %d", size, sum, Of(s))
		}
	}
}

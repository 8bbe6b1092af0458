package digit

import (
	"fmt"
	"math"
	"strconv"
	"strings"
	"testing"

	"wheelhouse/api"
)

const last = 1 << 40

// numbers: ordinary ones, and those at which something turns: at powers of ten and of two, and at the ends.
func numbers() []int {
	l := []int{math.MinInt, math.MinInt + 1, math.MaxInt - 1, math.MaxInt, last - 1, last, last + 1}
	for n := range 1200 {
		l = append(l, n, -n)
	}
	for n := 1; n <= math.MaxInt/10; n *= 10 {
		l = append(l, n-1, n, n+1, 7*n, -n, 10*n, -10*n, 1-10*n)
	}
	for shift := range 63 {
		n := 1 << shift
		l = append(l, n-1, n, n+1, -n, -n-1)
	}
	return l
}

// Promise 2.1: numbers in decimal.
func TestPut(t *testing.T) {
	for n, want := range map[int]string{
		0: "0", 1: "1", 9: "9", 10: "10", 70: "70", 100: "100", 101: "101", 86400: "86400",
		-1: "-1", -9: "-9", -10: "-10", -70: "-70", -100: "-100",
		last: "1099511627776", -last: "-1099511627776", last + 1: "1099511627777",
		math.MaxInt: "9223372036854775807", math.MaxInt - 7: "9223372036854775800",
		math.MinInt: "-9223372036854775808", math.MinInt + 1: "-9223372036854775807",
	} {
		if got := Put(n); got != want {
			t.Errorf("Put of %s: %q", want, got)
		}
	}
	for _, n := range numbers() {
		if got := Put(n); got != strconv.Itoa(n) {
			t.Errorf("Put(%d): %q", n, got)
		}
	}
}

// Promise 2.1: noughts ahead, as many as make so many digits.
func TestPad(t *testing.T) {
	for _, x := range []struct {
		n, width int
		want     string
	}{
		{7, 3, "007"},
		{7, 1, "7"},
		{7, 0, "7"},
		{0, 0, "0"},
		{0, 1, "0"},
		{0, 2, "00"},
		{0, 20, "00000000000000000000"},
		{12, 2, "12"},
		{12, 3, "012"},
		{123, 2, "123"},
		{2026, 4, "2026"},
		{100, 5, "00100"},
		{last, 13, "1099511627776"},
		{last, 14, "01099511627776"},
		{1, 20, "00000000000000000001"},
		{math.MaxInt, 0, "9223372036854775807"},
		{math.MaxInt, 19, "9223372036854775807"},
		{math.MaxInt, 20, "09223372036854775807"},
		// Numbers below 0, and widths that are none.
		{-1, 3, ""},
		{-1, 0, ""},
		{-7, 20, ""},
		{math.MinInt, 20, ""},
		{math.MinInt, 0, ""},
		{7, -1, ""},
		{0, -1, ""},
		{7, 21, ""},
		{0, 21, ""},
		{math.MaxInt, 21, ""},
		{7, math.MaxInt, ""},
		{7, math.MinInt, ""},
		{-7, -7, ""},
	} {
		if got := Pad(x.n, x.width); got != x.want {
			t.Errorf("Pad(%d, %d): %q; want %q", x.n, x.width, got, x.want)
		}
	}
}

// Promise 2.1: Pad is Put, and noughts alone ahead of it.
func TestPadIsPut(t *testing.T) {
	for _, n := range numbers() {
		for width := -2; width < 24; width++ {
			want := ""
			if n >= 0 && width >= 0 && width <= 20 {
				want = fmt.Sprintf("%0*d", width, n)
			}
			if got := Pad(n, width); got != want {
				t.Errorf("Pad(%d, %d): %q; want %q", n, width, got, want)
			}
		}
	}
}

// Promise 2.1: digits read as ticks.
func TestRead(t *testing.T) {
	for s, want := range map[string]int{
		"0": 0, "1": 1, "9": 9, "10": 10, "42": 42, "100": 100, "86400": 86400, "1000000": 1000000,
		"999999999999": 999999999999, "1000000000000": 1000000000000,
		"1099511627775": last - 1, "1099511627776": last,
	} {
		if got, code := Read(s); got != want || code != api.OK {
			t.Errorf("Read(%q): %d, code %d", s, got, code)
		}
	}
}

// refusesRead: of none of these Read makes a number.
func refusesRead(t *testing.T, l ...string) {
	t.Helper()
	for _, s := range l {
		if got, code := Read(s); got != 0 || code != api.ErrForm {
			t.Errorf("Read(%q): %d, code %d", s, got, code)
		}
	}
}

// Promise 2.1: what is Put of no tick is not read.
func TestReadRefuses(t *testing.T) {
	refusesRead(t,
		"", " ", "-", "+", ".", "x",
		// Noughts ahead.
		"00", "01", "007", "000000000000000", "01099511627776", strings.Repeat("0", 100)+"1", strings.Repeat("0", 100000),
		// Numbers that are no ticks.
		"-0", "-1", "-70", "1099511627777", "1099511627786", "1099511627780", "10995116277760", "2000000000000", "9999999999999",
		"9223372036854775807", "9223372036854775808", "-9223372036854775808",
		// These wrap round in an int to ticks.
		"18446744073709551616", "18446744073709551617", "36893488147419103232", "340282366920938463463374607431768211456",
		"1"+strings.Repeat("0", 64), strings.Repeat("9", 100000),
		// This one, - taken for a digit, wraps round to itself.
		"-7825341085959061504",
		// Other ways to write a number, and other signs beside it.
		"+1", " 1", "1 ", "1\n", "\x001", "1\x00", "1.0", "1,000", "1_000", "0x10", "0b1", "1e3", "1h", "a", "٣", "１",
	)
}

// Promise 2.1: of a single byte, and of two, just the digits are read.
func TestReadBytes(t *testing.T) {
	for i := range 256 {
		for j := range 257 {
			s := string([]byte{byte(i)})
			if j < 256 {
				s = string([]byte{byte(i), byte(j)})
			}
			want, err := strconv.Atoi(s)
			if err != nil || want < 0 || strconv.Itoa(want) != s {
				refusesRead(t, s)
			} else if got, code := Read(s); got != want || code != api.OK {
				t.Errorf("Read(%q): %d, code %d", s, got, code)
			}
		}
	}
}

// Promise 2.1: any byte in the place of a digit, or between two, is refused, if it is no digit.
func TestReadSpoilt(t *testing.T) {
	for _, s := range []string{"5", "42", "86400", "1099511627776"} {
		for at := range len(s) + 1 {
			for c := range 256 {
				if c >= '0' && c <= '9' {
					continue
				}
				spoilt := string([]byte{byte(c)})
				refusesRead(t, s[:at]+spoilt+s[at:])
				if at < len(s) {
					refusesRead(t, s[:at]+spoilt+s[at+1:])
				}
			}
		}
	}
}

// Promise 2.2: a byte as two digits.
func TestHex(t *testing.T) {
	for c, want := range map[byte]string{
		0: "00", 1: "01", 9: "09", 10: "0a", 15: "0f", 16: "10", 27: "1b", 65: "41", 99: "63",
		127: "7f", 128: "80", 160: "a0", 175: "af", 240: "f0", 254: "fe", 255: "ff",
	} {
		if got := Hex(c); got != want {
			t.Errorf("Hex(%d): %q; want %q", c, got, want)
		}
	}
	for c := range 256 {
		if got := Hex(byte(c)); got != fmt.Sprintf("%02x", c) {
			t.Errorf("Hex(%d): %q", c, got)
		}
	}
}

// refusesHex: of none of these ReadHex makes a byte.
func refusesHex(t *testing.T, l ...string) {
	t.Helper()
	for _, s := range l {
		if got, code := ReadHex(s); got != 0 || code != api.ErrForm {
			t.Errorf("ReadHex(%q): %d, code %d", s, got, code)
		}
	}
}

// Promise 2.2: of all texts of two bytes, just those that Hex tells are read, each as its byte.
func TestReadHex(t *testing.T) {
	known := map[string]byte{}
	for c := range 256 {
		known[fmt.Sprintf("%02x", c)] = byte(c)
	}
	for i := range 256 {
		for j := range 256 {
			s := string([]byte{byte(i), byte(j)})
			want, ok := known[s]
			if !ok {
				refusesHex(t, s)
			} else if got, code := ReadHex(s); got != want || code != api.OK {
				t.Errorf("ReadHex(%q): %d, code %d", s, got, code)
			}
		}
	}
}

// Promise 2.2: texts of other lengths, capitals, and other signs.
func TestReadHexRefuses(t *testing.T) {
	refusesHex(t,
		"", "0", "f", "000", "041", "410", "0041", "ffff", "ff ", " ff", "\x00\x00\x00",
		"FF", "fF", "Ff", "4G", "g4", "0x", "x0", "-1", "+1", " 1", "1 ", "é", "0x41", strings.Repeat("0", 1000),
	)
}

// shown: of bytes, what Show tells.
var shown = map[string]string{
	"":                   "",
	"a":                  "a",
	"ls -l":              "ls -l",
	"\\":                 `\\`,
	"\n":                 `\n`,
	"\r":                 `\r`,
	"\t":                 `\t`,
	"\x00":               `\x00`,
	"\x00a":              `\x00a`,
	"\x08\x0b\x0c\x0e":   `\x08\x0b\x0c\x0e`,
	"\x1b[0m":            `\x1b[0m`,
	"\x1f ~\x7f":         `\x1f ~\x7f`,
	"\x80\xff":           `\x80\xff`,
	"é":                  `\xc3\xa9`,
	"\r\nlogin: ":        `\r\nlogin: `,
	`\n`:                 `\\n`,
	`\x41`:               `\\x41`,
	`\\`:                 `\\\\`,
	"\\\n":               `\\\n`,
	"\n\\":               `\n\\`,
	"nrtx":               "nrtx",
	"\"quoted\" 'too' `": "\"quoted\" 'too' `",
}

// Promise 2.3: bytes as signs, and back.
func TestShow(t *testing.T) {
	for s, want := range shown {
		if got := Show(s); got != want {
			t.Errorf("Show(%q): %q; want %q", s, got, want)
		}
		if got, code := Unshow(want); got != s || code != api.OK {
			t.Errorf("Unshow(%q): %q, code %d; want %q", want, got, code, s)
		}
	}
}

// showByte is what the document says of one byte.
func showByte(c byte) string {
	switch {
	case c == 92:
		return string([]byte{92, 92})
	case c == 10:
		return string([]byte{92, 'n'})
	case c == 13:
		return string([]byte{92, 'r'})
	case c == 9:
		return string([]byte{92, 't'})
	case c >= 32 && c <= 126:
		return string([]byte{c})
	}
	return fmt.Sprintf("%cx%02x", 92, c)
}

// Promise 2.3: every byte, alone, and ahead of every other one; what is told is signs that can be seen.
func TestShowBytes(t *testing.T) {
	for i := range 256 {
		for j := range 256 {
			one, two := byte(i), byte(j)
			if got := Show(string([]byte{one})); got != showByte(one) {
				t.Fatalf("Show of byte %d: %q", one, got)
			}
			s := string([]byte{one, two})
			got := Show(s)
			if got != showByte(one)+showByte(two) {
				t.Fatalf("Show(%q): %q", s, got)
			}
			for _, c := range []byte(got) {
				if c < 32 || c > 126 {
					t.Fatalf("Show(%q) has byte %d", s, c)
				}
			}
		}
	}
}

// refusesUnshow: of none of these Unshow makes bytes.
func refusesUnshow(t *testing.T, l ...string) {
	t.Helper()
	for _, s := range l {
		if got, code := Unshow(s); got != "" || code != api.ErrForm {
			t.Errorf("Unshow(%q): %q, code %d", s, got, code)
		}
	}
}

// Promise 2.3: signs that are not closed, unknown, or would be told otherwise.
func TestUnshowRefuses(t *testing.T) {
	refusesUnshow(t,
		// Not closed.
		`\`, `a\`, `\\\`, `\x`, `\x0`, `\xf`, `a\x`, `\n\`, `\\\x0`,
		// Unknown.
		`\a`, `\b`, `\0`, `\N`, `\R`, `\T`, `\X00`, `\ `, `\"`, `\u0041`, `\xg0`, `\x0g`, `\x-1`, `\x 1`, `\x\n`, `\xx0`,
		// Told otherwise: capitals, and bytes that have a sign of their own.
		`\xFF`, `\xfF`, `\x1B`, `\x41`, `\x20`, `\x7e`, `\x5c`, `\x0a`, `\x0d`, `\x09`, `\x61b`,
		// Bytes that Show never tells.
		"\n", "\r", "\t", "\x00", "\x1f", "\x7f", "\x80", "\xff", "é", "a\nb", "a\x00", "\\\n", "\\\x00", "\\x0\x00",
		// What is good ahead of them is not told, nor behind them.
		`good\q`, `\qgood`, `\x00\x41`, `\x41\x00`, "good\n", "\ngood",
	)
}

// alphabet: the bytes of which signs are made, and some that are in none.
const alphabet = "\\nrtx01589acdefFAq ~\n\x00\x7f\xff"

// texts goes through all texts over the alphabet of at most so many bytes.
func texts(most int, do func(s string)) {
	var grow func(s []byte)
	grow = func(s []byte) {
		do(string(s))
		if len(s) == most {
			return
		}
		for i := range len(alphabet) {
			grow(append(s, alphabet[i]))
		}
	}
	grow(nil)
}

// Promise 2.4: a text is unshown just if it is the Show of some bytes, and then as these.
func TestUnshowIsShow(t *testing.T) {
	known := map[string]string{}
	var note func(s string)
	note = func(s string) {
		signs := Show(s)
		if len(signs) > 4 || strings.Trim(signs, alphabet) != "" {
			return
		}
		known[signs] = s
		if len(signs) == 4 {
			return
		}
		for c := range 256 {
			note(s + string([]byte{byte(c)}))
		}
	}
	note("")
	told := 0
	texts(4, func(s string) {
		want, ok := known[s]
		if !ok {
			refusesUnshow(t, s)
			return
		}
		told++
		if got, code := Unshow(s); got != want || code != api.OK {
			t.Errorf("Unshow(%q): %q, code %d; want %q", s, got, code, want)
		}
	})
	if told != len(known) {
		t.Errorf("of %d shown texts %d were met", len(known), told)
	}
}

// Promise 2.4: bytes that are shown are unshown as they were, whatever they are and however many.
func TestShowUnshow(t *testing.T) {
	var all []byte
	for c := range 256 {
		all = append(all, byte(c))
	}
	check := func(s string) {
		t.Helper()
		if got, code := Unshow(Show(s)); got != s || code != api.OK {
			t.Errorf("%q comes back as %q, code %d", s, got, code)
		}
	}
	check(string(all))
	check(strings.Repeat(string(all), 1000))
	texts(3, func(s string) {
		check(s)
		check(Show(s))
		check(Show(Show(s)))
	})
}

// Promise 2.4: numbers that are put are read as they were, if they are ticks, else not at all.
func TestPutRead(t *testing.T) {
	for _, n := range numbers() {
		if n < 0 || n > last {
			refusesRead(t, Put(n))
		} else if got, code := Read(Put(n)); got != n || code != api.OK {
			t.Errorf("%d comes back as %d, code %d", n, got, code)
		}
		for width := range 21 {
			s := Pad(n, width)
			if got, code := Read(s); code == api.OK && (got != n || s != Put(n)) {
				t.Errorf("Pad(%d, %d) is read as %d", n, width, got)
			}
		}
	}
}

// Promise 2.4: bytes come back, and no two have the same digits.
func TestHexReadHex(t *testing.T) {
	met := map[string]bool{}
	for c := range 256 {
		s := Hex(byte(c))
		if got, code := ReadHex(s); got != byte(c) || code != api.OK {
			t.Errorf("%d comes back as %d, code %d", c, got, code)
		}
		if met[s] {
			t.Errorf("%q is two bytes", s)
		}
		met[s] = true
	}
}

package brk

import (
	"fmt"
	"math"
	"math/rand"
	"regexp"
	"slices"
	"strconv"
	"strings"
	"testing"

	"wheelhouse/api"
)

const most = 255

// sends, waits and breaks are steps as 14.1 tells of them.
func sends(s string) api.Op { return api.Op{Kind: 1, S: s} }

func waits(n int) api.Op { return api.Op{Kind: 2, N: n} }

func breaks() api.Op { return api.Op{Kind: 3} }

// steps is a list of them.
func steps(l ...api.Op) []api.Op { return l }

// times is a text so many times.
func times(n int, s string) string { return strings.Repeat(s, n) }

// reads: Read tells these steps.
func reads(t *testing.T, s string, want ...api.Op) {
	t.Helper()
	if l, code := Read(s); code != api.OK || !slices.Equal(l, want) {
		t.Errorf("Read(%.300q): %.300q, code %d; want %.300q", s, fmt.Sprint(l), code, fmt.Sprint(want))
	}
}

// fails: Read has a code, and no steps.
func fails(t *testing.T, s string, want api.Code) {
	t.Helper()
	if l, code := Read(s); code != want || len(l) != 0 {
		t.Errorf("Read(%.300q): %.300q, code %d; want %d", s, fmt.Sprint(l), code, want)
	}
}

// puts: Put tells this text.
func puts(t *testing.T, want string, l ...api.Op) {
	t.Helper()
	if s, code := Put(l); code != api.OK || s != want {
		t.Errorf("Put(%.300q): %q, code %d; want %q", fmt.Sprint(l), s, code, want)
	}
}

// refuses: Put has a code, and no text.
func refuses(t *testing.T, want api.Code, l ...api.Op) {
	t.Helper()
	if s, code := Put(l); code != want || s != "" {
		t.Errorf("Put of %d steps, %.300q: %q, code %d; want %d", len(l), fmt.Sprint(l[:min(len(l), 20)]), s, code, want)
	}
}

// The limit.
func TestNumbers(t *testing.T) {
	if Long != most {
		t.Error(Long)
	}
}

// Promise 14.1: ordinary texts.
func TestRead(t *testing.T) {
	reads(t, "")
	reads(t, "a", sends("a"))
	reads(t, "abc", sends("abc"))
	reads(t, " ", sends(" "))
	reads(t, `"{};#*?'/~`, sends(`"{};#*?'/~`))
	reads(t, `\\`, sends(`\`))
	reads(t, `\r`, sends("\r"))
	reads(t, `\n`, sends("\n"))
	reads(t, `\t`, sends("\t"))
	reads(t, `\x00`, sends("\x00"))
	reads(t, `\xff`, sends("\xff"))
	reads(t, `\x41`, sends("A"))
	reads(t, `\x5c`, sends(`\`))
	reads(t, `\x0a`, sends("\n"))
	reads(t, `\d`, waits(1))
	reads(t, `\w01`, waits(1))
	reads(t, `\w10`, waits(10))
	reads(t, `\w99`, waits(99))
	reads(t, `\z`, breaks())
	reads(t, `a\w12\d\z`, sends("a"), waits(13), breaks())
	reads(t, `\z~B`, breaks(), sends("~B"))
	reads(t, `login\r\w05\x03\d\z\z\d`, sends("login\r"), waits(5), sends("\x03"), waits(1), breaks(), breaks(), waits(1))
	// What is behind a sign's end is the next one, whatever it looks like.
	reads(t, `\x123`, sends("\x123"))
	reads(t, `\xabcd`, sends("\xabcd"))
	reads(t, `\w123`, waits(12), sends("3"))
	reads(t, `\w0909`, waits(9), sends("09"))
	reads(t, `\d1`, waits(1), sends("1"))
	reads(t, `\rn`, sends("\rn"))
	reads(t, `\\d`, sends(`\d`))
	reads(t, `\\\d`, sends(`\`), waits(1))
	reads(t, `\\\\z`, sends(`\\z`))
	reads(t, `\\x00`, sends(`\x00`))
	reads(t, `\x5cz`, sends(`\z`))
	reads(t, `\x5c\z`, sends(`\`), breaks())
	reads(t, "dzw12x", sends("dzw12x"))
}

// Promise 14.1: what stands side by side is one, but for breaks, and with nothing between alone.
func TestReadJoins(t *testing.T) {
	reads(t, `a\x41\r\\ \n\t`, sends("aA\r\\ \n\t"))
	reads(t, `\d\d`, waits(2))
	reads(t, `\d\w10`, waits(11))
	reads(t, `\w10\d`, waits(11))
	reads(t, `\w99\w99`, waits(198))
	reads(t, `\d\w99\d\w01\w01`, waits(103))
	reads(t, `\z\z\z`, breaks(), breaks(), breaks())
	reads(t, `a\db\dc`, sends("a"), waits(1), sends("b"), waits(1), sends("c"))
	reads(t, `a\zb\zc`, sends("a"), breaks(), sends("b"), breaks(), sends("c"))
	reads(t, `\d\z\w02\z\d`, waits(1), breaks(), waits(2), breaks(), waits(1))
	reads(t, `ab\d\dcd\z\zef\w09`, sends("ab"), waits(2), sends("cd"), breaks(), breaks(), sends("ef"), waits(9))
	reads(t, times(127, `\d`), waits(127))
	reads(t, times(63, `\w99`)+`\d`, waits(6238))
	reads(t, times(127, `\z`), slices.Repeat(steps(breaks()), 127)...)
	reads(t, times(63, `\xff`), sends(times(63, "\xff")))
	reads(t, times(85, `a\d`), slices.Repeat(steps(sends("a"), waits(1)), 85)...)
}

// Promise 14.1: no such texts.
func TestReadForm(t *testing.T) {
	for _, s := range []string{
		"\n", "\r", "\t", "\x00", "\x1f", "\x7f", "\x80", "\xff", "é", "a\n", "a\tb", "\x00a",
		// What is behind the backslash lacks, or is nothing that may stand there.
		`\`, `a\`, `\\\`, `\d\`, `\x`, `\x0`, `\w`, `\w1`, `\w0`, `a\x`, `a\w9`,
		`\a`, `\b`, `\e`, `\0`, `\12`, `\ `, `\"`, `\u0041`, "\\\n", "\\\x00", "\\\xff", `\D`, `\Z`, `\R`, `\N`, `\T`, `\X41`, `\W12`,
		// Digits as they are not written, or which are none.
		`\xAB`, `\xaB`, `\xFf`, `\xg0`, `\x0g`, `\x 1`, `\x1 `, `\x+1`, `\x-1`, `\x\d`, `\x0\d`, `\x0x0`,
		`\w00`, `\w1a`, `\wa1`, `\w 1`, `\w1 `, `\w+1`, `\w-1`, `\w0x`, `\w1.`, `\w.1`, `\w\d`, `\w1\d`, `\w١`, `\w0a`, `\wab`, `\w:0`, `\w/9`, `\w000`, `\w001`, `\w0-`,
		// Whatever stands ahead, or behind.
		`a\w00`, `\w00a`, `\w01\w00`, `\w00\w01`, `abc\q`, `\qabc`, `\d\z\x0`, "\\d\\z\n",
	} {
		fails(t, s, api.ErrForm)
	}
}

// sign is one thing that may stand in a sequence's text, as 14.1 has it.
var sign = regexp.MustCompile(`^(?:[ -\[\]-~]|\\[\\rntdz]|\\x[0-9a-f][0-9a-f]|\\w(?:0[1-9]|[1-9][0-9]))`)

// atoms is what a sign tells: a send of one byte, or a break, or so many waits of one tick.
func atoms(s string) []api.Op {
	if len(s) == 1 {
		return steps(sends(s))
	}
	if i := strings.Index("rnt", s[1:]); i >= 0 {
		return steps(sends("\r\n\t"[i : i+1]))
	}
	switch s[1] {
	case 'd':
		return steps(waits(1))
	case 'z':
		return steps(breaks())
	case 'x':
		n, _ := strconv.ParseUint(s[2:], 16, 8)
		return steps(sends(string([]byte{byte(n)})))
	case 'w':
		n, _ := strconv.Atoi(s[2:])
		return slices.Repeat(steps(waits(1)), n)
	}
	return steps(sends(s[1:]))
}

// grouped is atoms with those of one kind that stand side by side as one, but for breaks.
func grouped(l []api.Op) []api.Op {
	var found []api.Op
	for len(l) > 0 {
		n := 1
		for l[0].Kind != 3 && n < len(l) && l[n].Kind == l[0].Kind {
			n++
		}
		x := api.Op{Kind: l[0].Kind}
		for _, y := range l[:n] {
			x.S, x.N = x.S+y.S, x.N+y.N
		}
		found, l = append(found, x), l[n:]
	}
	return found
}

// plainly is what Read is to tell.
func plainly(s string) ([]api.Op, api.Code) {
	if len(s) > most {
		return nil, api.ErrSize
	}
	var l []api.Op
	for s != "" {
		next := sign.FindString(s)
		if next == "" {
			return nil, api.ErrForm
		}
		l = append(l, atoms(next)...)
		s = s[len(next):]
	}
	return grouped(l), api.OK
}

// asPlainly: Read tells what it is to tell, and of that it is told what it costs, what it sends, and that it comes back.
func asPlainly(t *testing.T, s string) {
	t.Helper()
	want, code := plainly(s)
	if code != api.OK {
		fails(t, s, code)
		return
	}
	reads(t, s, want...)
	cost, bytes := 0, ""
	for _, x := range want {
		cost, bytes = cost+x.N, bytes+x.S
	}
	if Cost(want) != cost || Bytes(want) != bytes {
		t.Errorf("%q: %d ticks, %q; want %d, %q", s, Cost(want), Bytes(want), cost, bytes)
	}
	back(t, want)
}

// back: steps that may be are put as they are to be, and read as they were; or the text would be too long.
func back(t *testing.T, l []api.Op) {
	t.Helper()
	want := told(l)
	if len(want) > most {
		refuses(t, api.ErrSize, l...)
		return
	}
	puts(t, want, l...)
	reads(t, want, l...)
}

// told is the text of steps that may be, however long it is.
func told(l []api.Op) string {
	var text strings.Builder
	for _, x := range l {
		for i := range len(x.S) {
			text.WriteString(shown(x.S[i]))
		}
		n := x.N
		for ; n > 99; n -= 99 {
			text.WriteString(`\w99`)
		}
		switch {
		case x.Kind == 3:
			text.WriteString(`\z`)
		case n == 1:
			text.WriteString(`\d`)
		case n > 1:
			fmt.Fprintf(&text, `\w%02d`, n)
		}
	}
	return text.String()
}

// shown is a byte that is sent, as 2.3 has it.
func shown(c byte) string {
	if i := strings.IndexByte("\\\n\r\t", c); i >= 0 {
		return `\` + `\nrt`[i:i+1]
	}
	if c < 32 || c > 126 {
		return fmt.Sprintf(`\x%02x`, c)
	}
	return string([]byte{c})
}

// Promise 14.1: each byte by itself, each one behind a backslash, each two behind \x and \w, with something beside them or without, and cut off.
func TestReadBytes(t *testing.T) {
	for c := range 256 {
		one := string([]byte{byte(c)})
		for _, s := range []string{one, `\` + one, `\\` + one, `\x` + one, `\w` + one, `\d` + one, `\z` + one, one + `\`, one + one, `\x0` + one, `\w0` + one, `\x` + one + "0", `\w` + one + "0"} {
			asPlainly(t, s)
			asPlainly(t, "a"+s+"b")
			asPlainly(t, `\d`+s+`\d`)
		}
		for d := range 256 {
			two := string([]byte{byte(c), byte(d)})
			asPlainly(t, two)
			asPlainly(t, `\`+two)
			asPlainly(t, `\x`+two)
			asPlainly(t, `\w`+two)
		}
	}
	kinds := 0
	for _, head := range []string{`\x`, `\w`} {
		for c := range 256 {
			for d := range 256 {
				if _, code := Read(head + string([]byte{byte(c), byte(d)})); code == api.OK {
					kinds++
				}
			}
		}
	}
	if kinds != 256+99 {
		t.Errorf("%d bytes and waits are told by two digits", kinds)
	}
}

// Promise 14.1: all short texts of some bytes.
func TestReadAll(t *testing.T) {
	for bytes, size := range map[string]int{`\wd01`: 7, `\xzaA`: 6, `\rntdz`: 6, "\\w9x\n": 6, `\d9`: 8} {
		row := []string{""}
		for range size {
			var longer []string
			for _, s := range row {
				asPlainly(t, s)
				for i := range len(bytes) {
					longer = append(longer, s+bytes[i:i+1])
				}
			}
			row = longer
		}
		for _, s := range row {
			asPlainly(t, s)
		}
	}
}

// Promise 14.1: texts of as many bytes as there may be, and more.
func TestReadSize(t *testing.T) {
	reads(t, times(most-1, "a"), sends(times(most-1, "a")))
	reads(t, times(most, "a"), sends(times(most, "a")))
	reads(t, times(most, "~"), sends(times(most, "~")))
	for _, s := range []string{`\\`, `\r`, `\n`, `\t`, `\d`, `\z`, `\x41`, `\w05`, `\w99`, "a"} {
		for ahead := range 5 {
			for n := range 300 {
				asPlainly(t, times(ahead, "b")+times(n, s))
			}
		}
		reads(t, times(most-len(s), "a")+s, grouped(append(slices.Repeat(steps(sends("a")), most-len(s)), atoms(s)...))...)
		fails(t, times(most-len(s)+1, "a")+s, api.ErrSize)
		// What is cut off at the end is no such text.
		for cut := 1; cut < len(s); cut++ {
			fails(t, times(most-cut, "a")+s[:cut], api.ErrForm)
		}
	}
	// A text that is too long is told so, whatever it is.
	for _, c := range []string{"\n", "\x00", "\xff", `\q`, `\w00`, `\xAA`} {
		for n := range 400 {
			want := api.ErrForm
			if n+len(c) > most {
				want = api.ErrSize
			}
			fails(t, times(n, "a")+c, want)
			fails(t, c+times(n, "a"), want)
		}
	}
	for _, s := range []string{times(most+1, "a"), times(most+1, `\`), times(most+1, "\x00"), times(1<<20, "a"), times(1<<25, `\z`), times(1<<20, "\n")} {
		fails(t, s, api.ErrSize)
	}
}

// pieces are what texts are made of by chance, those that may not be at the end.
func pieces() []string {
	return []string{"a", "Z", " ", "~", "0", "9", "d", "w", "x", `\\`, `\r`, `\n`, `\t`, `\x00`, `\xff`, `\x5c`, `\x41`, `\d`, `\d`, `\w01`, `\w10`, `\w98`, `\w99`, `\z`, `\z`,
		`\`, `\w`, `\x`, `\w00`, `\x0`, "\n", "\x7f", "\xff", "é", `\q`}
}

// Promise 14.1: longer texts by chance, most of which may be, and such with bytes that were taken out, put in, or changed.
func TestReadChance(t *testing.T) {
	chance := rand.New(rand.NewSource(141))
	all := pieces()
	good := all[:len(all)-10]
	for range 20000 {
		s := ""
		for range chance.Intn(100) {
			s += good[chance.Intn(len(good))]
		}
		asPlainly(t, s)
		if chance.Intn(2) == 0 {
			at := chance.Intn(len(s) + 1)
			s = s[:at] + all[chance.Intn(len(all))] + s[at:]
		} else if s != "" {
			at := chance.Intn(len(s))
			s = s[:at] + s[at+1:]
		}
		asPlainly(t, s)
	}
}

// Promise 14.2: what steps wait, and what they send.
func TestCostAndBytes(t *testing.T) {
	for _, x := range []struct {
		s     string
		cost  int
		bytes string
	}{
		{"", 0, ""},
		{"abc", 0, "abc"},
		{`\z`, 0, ""},
		{`\z\z\z`, 0, ""},
		{`\d`, 1, ""},
		{`\w99`, 99, ""},
		{`a\w12\d\z`, 13, "a"},
		{`a\db\w10c`, 11, "abc"},
		{`\d\z\d\z\w05`, 7, ""},
		{`a\zb\zc`, 0, "abc"},
		{`\x00\d\xff\z\\\r\w20\n`, 21, "\x00\xff\\\r\n"},
		{`\w10 20 30`, 10, " 20 30"},
		{times(63, `\w99`), 6237, ""},
		{times(63, `\w99`) + `\d`, 6238, ""},
		{times(36, `\d\w99a`), 3600, times(36, "a")},
		{times(85, `\za`), 0, times(85, "a")},
		{times(most, "x"), 0, times(most, "x")},
	} {
		l, _ := Read(x.s)
		if Cost(l) != x.cost || Bytes(l) != x.bytes {
			t.Errorf("%q: %d ticks, %q; want %d, %q", x.s, Cost(l), Bytes(l), x.cost, x.bytes)
		}
	}
	for _, l := range [][]api.Op{nil, {}} {
		if Cost(l) != 0 || Bytes(l) != "" {
			t.Errorf("no steps: %d ticks, %q", Cost(l), Bytes(l))
		}
	}
}

// Promise 14.3: ordinary steps.
func TestPut(t *testing.T) {
	puts(t, "")
	puts(t, "a", sends("a"))
	puts(t, `a\\b\r\n\t\x00\xff \x7f~`, sends("a\\b\r\n\t\x00\xff \x7f~"))
	puts(t, `\\d`, sends(`\d`))
	puts(t, `\\w12`, sends(`\w12`))
	puts(t, `\z`, breaks())
	puts(t, `\z\z`, breaks(), breaks())
	puts(t, `\d`, waits(1))
	puts(t, `\w02`, waits(2))
	puts(t, `\w10`, waits(10))
	puts(t, `\w98`, waits(98))
	puts(t, `\w99`, waits(99))
	puts(t, `\w99\d`, waits(100))
	puts(t, `\w99\w02`, waits(101))
	puts(t, `\w99\w99`, waits(198))
	puts(t, `\w99\w99\d`, waits(199))
	puts(t, `\w99\w99\w99`, waits(297))
	puts(t, `a\w13\z`, sends("a"), waits(13), breaks())
	puts(t, `a\db\zc\z\d`, sends("a"), waits(1), sends("b"), breaks(), sends("c"), breaks(), waits(1))
	puts(t, `\d1\w991`, waits(1), sends("1"), waits(99), sends("1"))
	puts(t, `\d\z\d`, waits(1), breaks(), waits(1))
	puts(t, `a\za`, sends("a"), breaks(), sends("a"))
}

// Promises 14.3 and 14.4: each byte that is sent, and each two.
func TestPutBytes(t *testing.T) {
	for c := range 256 {
		one := string([]byte{byte(c)})
		back(t, steps(sends(one)))
		back(t, steps(sends("a"+one+"b")))
		back(t, steps(waits(1), sends(one), breaks(), sends(one), waits(99)))
		for d := range 256 {
			back(t, steps(sends(string([]byte{byte(c), byte(d)}))))
		}
	}
}

// Promises 14.3 and 14.4: each wait that has room, and more.
func TestPutWaits(t *testing.T) {
	for n := 1; n <= 7000; n++ {
		back(t, steps(waits(n)))
		back(t, steps(sends("a"), waits(n)))
		back(t, steps(waits(n), breaks(), waits(n)))
	}
	puts(t, times(62, `\w99`)+`\w99`, waits(6237))
	puts(t, times(63, `\w99`)+`\d`, waits(6238))
	refuses(t, api.ErrSize, waits(6239))
	puts(t, "a"+times(63, `\w99`)+`\d`, sends("a"), waits(6238))
	refuses(t, api.ErrSize, sends("ab"), waits(6238))
	puts(t, "abc"+times(63, `\w99`), sends("abc"), waits(6237))
	refuses(t, api.ErrSize, sends("abcd"), waits(6237))
	for shift := 13; shift < 63; shift++ {
		for _, n := range []int{1<<shift - 1, 1 << shift, 1<<shift + 1, 99 << (shift - 7), 99<<(shift-7) + 1, math.MaxInt >> (62 - shift)} {
			if n > 6238 {
				refuses(t, api.ErrSize, waits(n))
				refuses(t, api.ErrSize, breaks(), waits(n), sends("a"), waits(n))
			}
		}
	}
	refuses(t, api.ErrSize, waits(math.MaxInt))
	refuses(t, api.ErrSize, waits(math.MaxInt-1), breaks(), waits(math.MaxInt))
}

// Promise 14.3: texts of as many bytes as there may be, and more.
func TestPutSize(t *testing.T) {
	for _, s := range []string{"a", "~", `\`, "\n", "\r", "\t", "\x00", "\xff"} {
		for n := 1; n < 300; n++ {
			back(t, steps(sends(times(n, s))))
			back(t, steps(breaks(), sends(times(n, s)), waits(100), breaks()))
			back(t, steps(sends("a"), waits(1), sends(times(n, s))))
		}
	}
	for n := range 200 {
		back(t, slices.Repeat(steps(breaks()), n))
		back(t, append(slices.Repeat(steps(breaks()), n), sends("a")))
		back(t, slices.Repeat(steps(waits(1), breaks()), n))
		back(t, slices.Repeat(steps(sends("a"), waits(1)), n))
		back(t, slices.Repeat(steps(sends("a"), breaks()), n))
		back(t, slices.Repeat(steps(sends("a"), waits(2), breaks()), n))
	}
	puts(t, times(most, "a"), sends(times(most, "a")))
	refuses(t, api.ErrSize, sends(times(most+1, "a")))
	puts(t, times(63, `\x00`)+"abc", sends(times(63, "\x00")+"abc"))
	refuses(t, api.ErrSize, sends(times(64, "\x00")))
	puts(t, times(127, `\z`)+"a", append(slices.Repeat(steps(breaks()), 127), sends("a"))...)
	refuses(t, api.ErrSize, slices.Repeat(steps(breaks()), 128)...)
	for _, s := range []string{"a", "\x00"} {
		refuses(t, api.ErrSize, sends(times(1<<26, s)))
		refuses(t, api.ErrSize, breaks(), sends(times(1<<22, s)), breaks())
	}
	refuses(t, api.ErrSize, slices.Repeat(steps(breaks()), 1<<20)...)
	refuses(t, api.ErrSize, slices.Repeat(steps(sends(times(most, "a")), waits(math.MaxInt)), 1<<18)...)
}

// wrong is all that may be no step, in one way or in several.
func wrong() []api.Op {
	var l []api.Op
	for _, kind := range []int{math.MinInt, -3, -2, -1, 0, 1, 2, 3, 4, 5, 257, 258, 259, 1 << 32, 1<<32 + 1, 1<<32 + 2, math.MaxInt} {
		for _, s := range []string{"", "a", " ", "\x00", `\z`, times(300, "a")} {
			for _, n := range []int{math.MinInt, -99, -1, 0, 1, 2, 99, 100, 10000, 1 << 32, math.MaxInt} {
				may := kind == 1 && s != "" && n == 0 || kind == 2 && s == "" && n >= 1 || kind == 3 && s == "" && n == 0
				if !may {
					l = append(l, api.Op{Kind: kind, S: s, N: n})
				}
			}
		}
	}
	return l
}

// Promise 14.3: what may be no step, by itself, and wherever it stands, also where the text is too long already, or would be.
func TestPutArg(t *testing.T) {
	rows := [][]api.Op{
		steps(),
		steps(sends("a")),
		steps(waits(1)),
		steps(breaks()),
		steps(sends("a"), waits(1), breaks()),
		steps(breaks(), breaks(), waits(100), sends("\n")),
		steps(sends(times(most, "a"))),
		steps(sends(times(most+1, "a")), breaks()),
		steps(waits(math.MaxInt), sends("a"), waits(math.MaxInt)),
		slices.Repeat(steps(breaks()), 200),
		slices.Repeat(steps(sends(times(100, "\x00")), waits(6238)), 2),
	}
	for _, x := range wrong() {
		for _, row := range rows {
			for at := 0; at <= len(row); at += 1 + len(row)/7 {
				refuses(t, api.ErrArg, slices.Insert(slices.Clone(row), at, x)...)
			}
			refuses(t, api.ErrArg, append(slices.Clone(row), x)...)
			refuses(t, api.ErrArg, append(slices.Clone(row), x, x)...)
		}
	}
}

// Promise 14.3: two sends, or two waits, side by side, wherever they stand, also where the text is too long already, or would be.
func TestPutBeside(t *testing.T) {
	for _, pair := range [][]api.Op{
		steps(sends("a"), sends("b")),
		steps(sends("a"), sends("a")),
		steps(sends("\n"), sends(times(most+1, "a"))),
		steps(waits(1), waits(1)),
		steps(waits(99), waits(1)),
		steps(waits(1), waits(100)),
		steps(waits(math.MaxInt), waits(math.MaxInt)),
	} {
		refuses(t, api.ErrArg, pair...)
		refuses(t, api.ErrArg, append(pair, pair[1])...)
		for _, row := range [][]api.Op{
			steps(breaks()),
			steps(breaks(), breaks()),
			steps(sends("c"), breaks(), waits(7), breaks()),
			steps(waits(7), breaks(), sends("c"), breaks()),
			slices.Repeat(steps(breaks()), 200),
			steps(breaks(), sends(times(300, "a")), breaks(), waits(math.MaxInt), breaks()),
		} {
			refuses(t, api.ErrArg, append(slices.Clone(row), pair...)...)
			refuses(t, api.ErrArg, append(slices.Clone(pair), row[len(row)-1:]...)...)
			refuses(t, api.ErrArg, slices.Concat(row, pair, row[len(row)-1:])...)
			// With anything between they are none such: the text is, or it would be too long.
			_, code := Put(slices.Concat(row, pair[:1], steps(breaks()), pair[1:]))
			if code != api.OK && code != api.ErrSize {
				t.Errorf("Put(%.300q) with a break between: %d", fmt.Sprint(pair), code)
			}
		}
	}
	puts(t, `a\db`, sends("a"), waits(1), sends("b"))
	puts(t, `\da\d`, waits(1), sends("a"), waits(1))
	puts(t, `\z\z\z`, breaks(), breaks(), breaks())
}

// Promises 14.3 and 14.4: all short rows of some steps, those that may be and those that may not.
func TestPutAll(t *testing.T) {
	some := steps(sends("a"), sends(`\`), sends("\x80w1"), waits(1), waits(12), waits(100), breaks())
	row := [][]api.Op{nil}
	for range 5 {
		var longer [][]api.Op
		for _, l := range row {
			for _, x := range some {
				longer = append(longer, append(slices.Clone(l), x))
			}
		}
		for _, l := range longer {
			if slices.Equal(grouped(l), l) {
				back(t, l)
			} else {
				refuses(t, api.ErrArg, l...)
			}
		}
		row = longer
	}
}

// Promise 14.4: longer rows by chance, put and read.
func TestThereAndBack(t *testing.T) {
	chance := rand.New(rand.NewSource(144))
	for range 20000 {
		var l []api.Op
		for range chance.Intn(40) {
			switch chance.Intn(3) {
			case 0:
				bytes := make([]byte, 1+chance.Intn(12))
				for i := range bytes {
					bytes[i] = byte(chance.Intn(256))
					if chance.Intn(4) > 0 {
						bytes[i] = "\\wdxz0919\r\n\tab~ "[chance.Intn(16)]
					}
				}
				l = append(l, sends(string(bytes)))
			case 1:
				l = append(l, waits(1+chance.Intn(300)))
			default:
				l = append(l, breaks())
			}
		}
		if slices.Equal(grouped(l), l) {
			back(t, l)
		} else {
			refuses(t, api.ErrArg, l...)
		}
		back(t, grouped(l))
	}
}

// Rule R3: what is handed in is not changed, what lies behind a list's length is not asked, and what was answered is not written to.
func TestKept(t *testing.T) {
	bad := api.Op{Kind: 9, S: "\n", N: -7}
	for _, s := range []string{"", "a", `a\w12\d\z`, `\w99\w99\dab\z\zc`, `\z\d\x00`, times(63, `\w99`)} {
		l, code := Read(s)
		if code != api.OK {
			t.Fatal(s, code)
		}
		longer := append(slices.Clone(l), bad, sends("x"), waits(5), bad)
		whole := slices.Clone(longer)
		short := longer[:len(l)]
		text, code := Put(short)
		if want, c := Put(l); text != want || code != c {
			t.Errorf("%q: Put asks what lies behind: %q, %d", s, text, code)
		}
		if Cost(short) != Cost(l) || Bytes(short) != Bytes(l) {
			t.Errorf("%q: what lies behind is counted", s)
		}
		if !slices.Equal(longer, whole) {
			t.Errorf("%q: %v was changed into %v", s, whole, longer)
		}
		first := slices.Clone(l)
		again, _ := Read(s)
		for i := range again {
			again[i] = bad
		}
		_ = append(again, bad)
		if !slices.Equal(l, first) {
			t.Errorf("%q: two answers share their memory", s)
		}
		reads(t, s, first...)
	}
}

// Promises 14.1 to 14.4, of texts that come as they like.
func FuzzRead(f *testing.F) {
	for _, s := range []string{"", `a\w12\d\z`, `\w00`, `\x5c\\\r\n\t`, `\xAB`, `\`, "\n", times(64, `\w99`), times(most, "a"), "\xff"} {
		f.Add(s, 100, 1)
	}
	f.Fuzz(func(t *testing.T, s string, n, kind int) {
		asPlainly(t, s)
		if s != "" && len(s) < 1<<20 {
			back(t, steps(sends(s)))
		}
		if n > 0 && n < 1<<20 {
			back(t, steps(waits(n), breaks(), waits(1)))
		}
		x := api.Op{Kind: kind, S: s, N: n}
		if x != sends(s) && x != waits(n) && x != breaks() || x == sends("") || kind == 2 && n < 1 {
			refuses(t, api.ErrArg, x)
		}
	})
}

package listing_test

import (
	"fmt"
	"math"
	"regexp"
	"slices"
	"strconv"
	"strings"
	"sync"
	"testing"

	"tipstaff/api"
	"tipstaff/listing"
)

// named are all codes of package api, with their names.
func named() map[int]string {
	return map[int]string{
		0x00: "ldimm", 0x01: "ldximm", 0x02: "st", 0x03: "stx", 0x04: "addk", 0x05: "ja", 0x06: "retk", 0x07: "tax",
		0x0c: "addx", 0x14: "subk", 0x15: "jeqk", 0x16: "reta", 0x1c: "subx", 0x1d: "jeqx", 0x20: "ldabs", 0x24: "mulk",
		0x25: "jgtk", 0x2c: "mulx", 0x2d: "jgtx", 0x34: "divk", 0x35: "jgek", 0x3c: "divx", 0x3d: "jgex", 0x44: "ork",
		0x45: "jsetk", 0x4c: "orx", 0x4d: "jsetx", 0x54: "andk", 0x5c: "andx", 0x60: "ldmem", 0x61: "ldxmem",
		0x64: "lshk", 0x6c: "lshx", 0x74: "rshk", 0x7c: "rshx", 0x80: "ldlen", 0x81: "ldxlen", 0x84: "neg", 0x87: "txa",
		0xa4: "xork", 0xac: "xorx",
	}
}

// pair is a filter, and its text.
type pair struct {
	name string
	l    []api.Instr
	s    string
}

func pairs() []pair {
	return []pair{
		{"nothing", nil, ""},
		{"the example", []api.Instr{{Code: api.RetK, K: 7}}, "retk 0 0 7\n"},
		{"zero", []api.Instr{{}}, "ldimm 0 0 0\n"},
		{"each field its own", []api.Instr{{Code: api.JeqK, JT: 1, JF: 2, K: 3}}, "jeqk 1 2 3\n"},
		{"the greatest", []api.Instr{{Code: 65535, JT: 255, JF: 255, K: math.MaxUint32}}, "code 65535 255 255 4294967295\n"},
		{"above what is signed", []api.Instr{{Code: 32768, JT: 128, JF: 127, K: 1 << 31}}, "code 32768 128 127 2147483648\n"},
		{"a code without a name", []api.Instr{{Code: 8, JT: 9, JF: 10, K: 11}}, "code 8 9 10 11\n"},
		{"a named code's low byte", []api.Instr{{Code: 256 + api.RetK}}, "code 262 0 0 0\n"},
		{"fields that say nothing", []api.Instr{{Code: api.RetA, JT: 200, JF: 100, K: 90}}, "reta 200 100 90\n"},
		{"round numbers", []api.Instr{{Code: 1000, JT: 10, JF: 100, K: 1000000000}}, "code 1000 10 100 1000000000\n"},
		{"one line twice", []api.Instr{{Code: api.Neg}, {Code: api.Neg}}, "neg 0 0 0\nneg 0 0 0\n"},
		{"in order", []api.Instr{
			{Code: api.LdAbs, K: 4}, {Code: api.JeqK, JT: 1, K: 0xC000003E}, {Code: 0xFFFE, JF: 3}, {Code: api.RetK}, {Code: api.RetA},
		}, "ldabs 0 0 4\njeqk 1 0 3221225534\ncode 65534 0 3 0\nretk 0 0 0\nreta 0 0 0\n"},
	}
}

// wantRead holds what Read answers against w.
func wantRead(t *testing.T, name, s string, w []api.Instr) {
	t.Helper()
	if got, n, e := listing.Read(s); !slices.Equal(got, w) || n != -1 || e != api.OK {
		t.Errorf("%s: Read of %q: %v, %d, %d, not %v", name, s, got, n, e, w)
	}
}

// wantNone holds what Read answers against there being no such line as line n.
func wantNone(t *testing.T, name, s string, w int) {
	t.Helper()
	if got, n, e := listing.Read(s); len(got) != 0 || n != w || e != api.ErrSyntax {
		t.Errorf("%s: Read of %q: %v, %d, %d, not line %d", name, s, got, n, e, w)
	}
}

func TestP501Show(t *testing.T) {
	for _, x := range pairs() {
		if got := listing.Show(x.l); got != x.s {
			t.Errorf("%s: %q, not %q", x.name, got, x.s)
		}
	}
	if got := listing.Show([]api.Instr{}); got != "" {
		t.Errorf("an empty list: %q", got)
	}
}

func TestP501Read(t *testing.T) {
	for _, x := range pairs() {
		wantRead(t, x.name, x.s, x.l)
	}
}

// Each code has its name, or its number, both ways.
func TestP501Codes(t *testing.T) {
	names := named()
	if len(names) != 41 {
		t.Fatalf("%d codes", len(names))
	}
	for code := range 65536 {
		word, ok := names[code]
		if !ok {
			word = "code " + strconv.Itoa(code)
		}
		l := []api.Instr{{Code: code, JT: code & 255, JF: code >> 8, K: uint32(code) * 0x10001}}
		s := fmt.Sprintf("%s %d %d %d\n", word, l[0].JT, l[0].JF, l[0].K)
		if got := listing.Show(l); got != s {
			t.Fatalf("%v: %q, not %q", l, got, s)
		}
		if got, n, e := listing.Read(s); !slices.Equal(got, l) || n != -1 || e != api.OK {
			t.Fatalf("%q: %v, %d, %d, not %v", s, got, n, e, l)
		}
		if ok {
			// Show never writes the number of a code with a name.
			wantNone(t, "a named code's number", fmt.Sprintf("code %d 0 0 0\n", code), 0)
		}
	}
}

// Each bit of each field, so that none is mixed up with another, and none is cut.
func TestP501Fields(t *testing.T) {
	for n := range 256 {
		l := []api.Instr{{Code: api.JsetX, JT: n, JF: 255 - n, K: uint32(n) << 24}}
		s := fmt.Sprintf("jsetx %d %d %d\n", n, 255-n, n<<24)
		if got := listing.Show(l); got != s {
			t.Errorf("%v: %q, not %q", l, got, s)
		}
		wantRead(t, "fields", s, l)
	}
	for bit := range 32 {
		for _, less := range []uint32{0, 1} {
			k := uint32(1)<<bit - less
			l := []api.Instr{{Code: api.XorK, K: k}}
			s := "xork 0 0 " + strconv.FormatUint(uint64(k), 10) + "\n"
			if got := listing.Show(l); got != s {
				t.Errorf("%v: %q, not %q", l, got, s)
			}
			wantRead(t, "K", s, l)
		}
	}
}

func TestP501ShowOfNone(t *testing.T) {
	wrong := []api.Instr{
		{Code: -1}, {Code: 65536}, {Code: 65536 + api.RetK}, {Code: 1 << 32}, {Code: -65536}, {Code: math.MinInt}, {Code: math.MaxInt},
		{JT: -1}, {JT: 256}, {JT: 65536}, {JT: 1 << 32}, {JT: -256}, {JT: math.MinInt}, {JT: math.MaxInt},
		{JF: -1}, {JF: 256}, {JF: 65536}, {JF: 1 << 32}, {JF: -256}, {JF: math.MinInt}, {JF: math.MaxInt},
	}
	good := api.Instr{Code: api.JeqK, JT: 2, JF: 3, K: 4}
	for _, x := range wrong {
		for _, l := range [][]api.Instr{{x}, {x, good}, {good, x}, {good, x, good}} {
			if got := listing.Show(l); got != "" {
				t.Errorf("%v: %q", l, got)
			}
		}
	}
}

// badLines are lines that are none, without their ends.
func badLines() []string {
	bad := []string{
		// no fields, some, too many
		"", " ", "  ", "   ", "retk", "retk ", "retk 0", "retk 0 ", "retk 0 0", "retk 0 0 ", "retk 0 0 7 ", "retk 0 0 7 0",
		"code", "code ", "code 8", "code 8 0", "code 8 0 0", "code 8 0 0 ", "code 8 0 0 0 ", "code 8 0 0 0 0", "code  0 0 0",
		"0 0 7", "6 0 0 7", "8 0 0 0", " 0 0 7", "code retk 0 0 7",
		// other blanks
		" retk 0 0 7", "retk  0 0 7", "retk 0  0 7", "retk 0 0  7", "retk\t0 0 7", "retk 0\t0 7", "retk 0 0\t7", "\tretk 0 0 7",
		"retk 0 0 7\t", "retk 0 0 7\r", "retk 0 0 7\v", "retk\u00a00 0 7", "retk 0 0\r7", " code 8 0 0 0", "code  8 0 0 0", "code\t8 0 0 0",
		"retk0 0 7", "retk 00 7", "retk 0 07", "code8 0 0 0", "retk,0,0,7",
		// other words
		"RETK 0 0 7", "Retk 0 0 7", "retK 0 0 7", "ret 0 0 7", "retkk 0 0 7", "retx 0 0 7", "CODE 8 0 0 0", "Code 8 0 0 0", "codes 8 0 0 0",
		"ld 0 0 0", "jmp 0 0 0", "ldx 0 0 0", "add 0 0 0", "negk 0 0 0", "divk\x00 0 0 1", "\x00 0 0 1", "\ufeffretk 0 0 7", "retk\u200b 0 0 7", "\xff 0 0 0",
		"retk 0 0 7 // seven", "# retk 0 0 7", "0: retk 0 0 7", "cod 8 0 0 0", "code code 0 0 0",
	}
	for _, n := range badNumbers() {
		bad = append(bad, "jeqk "+n+" 0 0", "jeqk 0 "+n+" 0", "jeqk 0 0 "+n, "code "+n+" 0 0 0")
		bad = append(bad, "code 8 "+n+" 0 0", "code 8 0 "+n+" 0", "code 8 0 0 "+n)
	}
	for _, n := range []string{"256", "257", "300", "512", "1000", "65536", "4294967295"} {
		bad = append(bad, "jeqk "+n+" 0 0", "jeqk 0 "+n+" 0", "code 8 "+n+" 0 0", "code 8 0 "+n+" 0")
	}
	for _, n := range []string{"65536", "65542", "65544", "99999", "131072", "4294967295", "4294967304"} {
		bad = append(bad, "code "+n+" 0 0 0")
	}
	return bad
}

// badNumbers are numbers of no field.
func badNumbers() []string {
	return []string{
		// no number
		"", "-", "+", ".", "x", "a", "retk", "0x7", "0X7", "07x", "7x", "x7", "7a", "1_0", "_1", "1_", "1e2", "1.0", "7.", ".7", "7,", "1,000",
		"-1", "-0", "+0", "+1", "--1", "0b1", "0o7", "'7'", "\"7\"", "$7", "\u0667", "\uff17", "\u00b2", "7\x00", "\x007",
		// a 0 ahead of a digit
		"00", "000", "01", "07", "010", "007", "0255", "0000000000000000000000000000000000000008",
		// too great for all of them
		"4294967296", "4294967297", "4294967303", "9999999999", "9223372036854775807", "9223372036854775808", "18446744073709551615",
		"18446744073709551616", "18446744073709551617", "18446744073709551623", "36893488147419103232", "340282366920938463463374607431768211456",
		strings.Repeat("9", 1000), "1" + strings.Repeat("0", 5000),
	}
}

func TestP501ReadOfNone(t *testing.T) {
	for _, x := range badLines() {
		wantNone(t, "a line", x+"\n", 0)
		wantNone(t, "the last line", "retk 0 0 7\n"+x+"\n", 1)
		wantNone(t, "ahead of others", x+"\nretk 0 0 7\n", 0)
	}
}

func TestP501LastLine(t *testing.T) {
	for _, x := range []string{"retk 0 0 7", "code 8 0 0 0", "r", " ", "\r", "retk 0 0 7\r", "\x00"} {
		wantNone(t, "only one line", x, 0)
		wantNone(t, "two lines", "neg 0 0 0\n"+x, 1)
		wantNone(t, "three lines", "neg 0 0 0\ncode 9 0 0 1\n"+x, 2)
	}
	wantNone(t, "an end too many", "retk 0 0 7\n\n", 1)
	wantNone(t, "just an end", "\n", 0)
	wantNone(t, "an end ahead", "\nretk 0 0 7\n", 0)
	wantNone(t, "another end", "retk 0 0 7\r", 0)
	wantNone(t, "an end of two bytes", "retk 0 0 7\r\n", 0)
}

// It is the first line that is told, from 0 on, whatever is wrong behind it.
func TestP501FirstLine(t *testing.T) {
	const lines = 30
	for i := range lines {
		all := slices.Repeat([]string{"jeqk 1 2 3\n"}, lines)
		all[i] = "jeqk 1 2\n"
		wantNone(t, "one", strings.Join(all, ""), i)
		for k := i + 1; k < lines; k++ {
			all[k] = "\n"
		}
		wantNone(t, "and all behind it", strings.Join(all, ""), i)
		wantNone(t, "and no end", strings.Join(all, "")+"retk 0 0 7", i)
	}
}

// A filter longer than the checker lets in is written, and read, all the same.
func TestP501Long(t *testing.T) {
	l := make([]api.Instr, 3*api.MaxCode+1)
	for i := range l {
		l[i] = api.Instr{Code: i, JT: i & 255, JF: 255 - i&255, K: uint32(i) << 16}
	}
	s := listing.Show(l)
	if n := strings.Count(s, "\n"); n != len(l) {
		t.Fatalf("%d lines of %d instructions", n, len(l))
	}
	wantRead(t, "long", s, l)
	wantNone(t, "long, and one more", s+"ret", len(l))
}

// words tells a line's parts by the words of the chapter.
type words struct {
	line  *regexp.Regexp
	codes map[string]int
	names map[int]string
}

func chapter() words {
	w := words{
		line:  regexp.MustCompile(`^(code (0|[1-9][0-9]{0,9})|[a-z]+) (0|[1-9][0-9]{0,9}) (0|[1-9][0-9]{0,9}) (0|[1-9][0-9]{0,9})$`),
		codes: map[string]int{},
		names: named(),
	}
	for code, name := range w.names {
		w.codes[name] = code
	}
	return w
}

// read reads a line.
func (w words) read(line string) (api.Instr, bool) {
	m := w.line.FindStringSubmatch(line)
	if m == nil {
		return api.Instr{}, false
	}
	code, known := w.codes[m[1]]
	if m[2] != "" {
		code, _ = strconv.Atoi(m[2])
		_, has := w.names[code]
		known = !has
	}
	jt, _ := strconv.Atoi(m[3])
	jf, _ := strconv.Atoi(m[4])
	k, _ := strconv.Atoi(m[5])
	if !known || code > 65535 || jt > 255 || jf > 255 || k > math.MaxUint32 {
		return api.Instr{}, false
	}
	return api.Instr{Code: code, JT: jt, JF: jf, K: uint32(k)}, true
}

// all reads a text.
func (w words) all(s string) ([]api.Instr, int, api.Errno) {
	lines := strings.Split(s, "\n")
	last := len(lines) - 1
	var l []api.Instr
	for i, line := range lines[:last] {
		in, ok := w.read(line)
		if !ok {
			return nil, i, api.ErrSyntax
		}
		l = append(l, in)
	}
	if lines[last] != "" {
		return nil, last, api.ErrSyntax
	}
	return l, -1, api.OK
}

// hold holds what Read answers against the chapter's words; what is read is what Show writes.
func (w words) hold(t *testing.T, s string) bool {
	t.Helper()
	l, n, e := listing.Read(s)
	wantL, wantN, wantE := w.all(s)
	if !slices.Equal(l, wantL) || n != wantN || e != wantE {
		t.Fatalf("%q: %v, %d, %d, not %v, %d, %d", s, l, n, e, wantL, wantN, wantE)
	}
	if e == api.OK && listing.Show(l) != s {
		t.Fatalf("%q is shown as %q", s, listing.Show(l))
	}
	return e == api.OK
}

// Every byte of a text turned, taken away, put in: what is read then is what Show writes, and all else is none.
func TestP501EachByte(t *testing.T) {
	w := chapter()
	right := 0
	for _, s := range []string{"retk 0 0 7\n", "st 1 25 4294967295\nlshk 9 9 9\n", "code 6553 12 34 56\nja 0 0 10\n", "code 65535 255 255 429496729\n"} {
		for at := range len(s) + 1 {
			for v := range 256 {
				texts := []string{s[:at] + string([]byte{byte(v)}) + s[at:]}
				if at < len(s) {
					texts = append(texts, s[:at]+string([]byte{byte(v)})+s[at+1:], s[:at]+s[at+1:])
				}
				for _, x := range texts {
					if w.hold(t, x) {
						right++
					}
				}
			}
		}
	}
	if right < 500 {
		t.Errorf("%d were read", right)
	}
}

// chance makes numbers, from a rule.
type chance uint64

func (c *chance) next(most int) int {
	*c = *c*6364136223846793005 + 1442695040888963407
	return int(uint64(*c) >> 33 % uint64(most))
}

// filter makes some filter that can be written.
func (c *chance) filter() []api.Instr {
	l := make([]api.Instr, c.next(8))
	for i := range l {
		l[i] = api.Instr{Code: c.next(200), JT: c.next(256), JF: c.next(256), K: uint32(c.next(1<<31)) >> c.next(31)}
		if c.next(4) == 0 {
			l[i].Code = c.next(65536)
			l[i].K = uint32(c.next(1<<31))*2 + uint32(c.next(2))
		}
	}
	return l
}

// text makes some text of pieces that lines are made of.
func (c *chance) text() string {
	pieces := []string{"retk", "code", "ja", " ", " ", " ", " 0", " 1", "0", "7", "255", "256", "65535", "65536", "4294967295", "4294967296",
		"\n", " 0 0 7\n", "retk 0 0 7\n", "code 9 0 0 7\n", "code 6 0 0 7\n", "-", "\r"}
	var s strings.Builder
	for range c.next(14) {
		s.WriteString(pieces[c.next(len(pieces))])
	}
	return s.String()
}

func TestP501Back(t *testing.T) {
	c := chance(5)
	w := chapter()
	for range 3000 {
		l := c.filter()
		s := listing.Show(l)
		if strings.Count(s, "\n") != len(l) || !w.hold(t, s) {
			t.Fatalf("%v is shown as %q", l, s)
		}
		wantRead(t, "any filter", s, l)
	}
	right := 0
	for range 100000 {
		if w.hold(t, c.text()) {
			right++
		}
	}
	if right < 1000 {
		t.Errorf("%d were read", right)
	}
}

// mark is an instruction that stands in spare room.
func mark() api.Instr {
	return api.Instr{Code: 9, JT: 9, JF: 9, K: 9}
}

// spoil overwrites a list, its spare room too.
func spoil(l []api.Instr) {
	all := l[:cap(l)]
	for i := range all {
		all[i] = mark()
	}
}

func TestP502HandedInStays(t *testing.T) {
	wrong := pair{"none", []api.Instr{{K: 1}, {JT: 256}, {K: 2}}, ""}
	for _, x := range append(pairs(), wrong) {
		all := append(slices.Clone(x.l), mark(), mark())
		l := all[:len(x.l)]
		want := slices.Clone(l[:cap(l)])
		if got := listing.Show(l); got != x.s {
			t.Errorf("%s: %q with spare room, not %q", x.name, got, x.s)
		}
		if !slices.Equal(l[:cap(l)], want) {
			t.Errorf("%s: Show changed %v to %v", x.name, want, l[:cap(l)])
		}
	}
}

func TestP502NotKept(t *testing.T) {
	for _, x := range pairs() {
		l := slices.Clone(x.l)
		s := listing.Show(l)
		spoil(l)
		if s != x.s {
			t.Errorf("%s: the answer changed with what was handed in: %q", x.name, s)
		}
	}
}

func TestP502NewMemory(t *testing.T) {
	for _, x := range pairs() {
		first, _, _ := listing.Read(x.s)
		second, _, _ := listing.Read(x.s)
		spoil(first)
		if !slices.Equal(second, x.l) {
			t.Errorf("%s: two answers share memory", x.name)
		}
		wantRead(t, x.name+", after the first answer was changed", x.s, x.l)
		if got := listing.Show(x.l); got != x.s {
			t.Errorf("%s: %q after the first answer was changed", x.name, got)
		}
	}
}

// What was asked before, wrong things too, is nothing to an answer.
func TestP502ArgumentsAlone(t *testing.T) {
	for _, before := range pairs() {
		for _, x := range pairs() {
			listing.Show(before.l)
			listing.Show([]api.Instr{{K: 1}, {Code: -1}})
			if got := listing.Show(x.l); got != x.s {
				t.Errorf("%s behind %s: %q", x.name, before.name, got)
			}
			listing.Read(before.s)
			listing.Read(before.s + "ret")
			wantRead(t, x.name+" behind "+before.name, x.s, x.l)
		}
	}
}

func TestP502Together(t *testing.T) {
	var all sync.WaitGroup
	for _, x := range pairs() {
		all.Go(func() {
			for range 500 {
				s := listing.Show(x.l)
				l, n, e := listing.Read(x.s)
				if s != x.s || !slices.Equal(l, x.l) || n != -1 || e != api.OK {
					t.Errorf("%s: %q, %v, %d, %d", x.name, s, l, n, e)
					return
				}
			}
		})
	}
	all.Wait()
}

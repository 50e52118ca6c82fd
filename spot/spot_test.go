package spot_test

import (
	"math"
	"strings"
	"sync"
	"testing"

	"tipstaff/spot"
)

// same is whether two spots are one, of parts that are no numbers, too.
func same(a, b complex128) bool {
	return samePart(real(a), real(b)) && samePart(imag(a), imag(b))
}

func samePart(a, b float64) bool {
	return a == b || math.IsNaN(a) && math.IsNaN(b)
}

// all are the spots of the bytes of s and of its end, told by going through s byte by byte.
func all(s string) []complex128 {
	line, column := 1, 1
	out := []complex128{complex(1, 1)}
	for i := range len(s) {
		column++
		if s[i] == 10 {
			line, column = line+1, 1
		}
		out = append(out, complex(float64(line), float64(column)))
	}
	return out
}

// texts are some texts, with lines of all kinds.
func texts() []string {
	return []string{
		"", "a", "\n", "ab", "a\n", "\na", "\n\n", "a\nb", "ab\ncd", "ab\ncd\n", "\n\n\n", "\n\nabc\n\n", "one\ntwo\n\nfour\n",
		"\r", "\r\n", "a\r\nb\r\n", "a\rb", "\v\f\t \n\t", "a\x00b\n\x00", "\u2028a\u2029b\u0085c\n", "\x85\n\x0b\x0c",
		"h\u00e9\nl\u00e8", "\xff\xfe\n\xff", "\u4e16\u754c\n\U0001F600x", "\xe4\n\xb8", `a\nb`,
		strings.Repeat("x", 300), strings.Repeat("\n", 300), strings.Repeat("ab\n", 100), strings.Repeat("x", 70000) + "\ny",
	}
}

// small are all texts of up to 9 bytes, of two kinds.
func small() []string {
	out := []string{""}
	for from := 0; len(out[from]) < 9; from++ {
		out = append(out, out[from]+"a", out[from]+"\n")
	}
	return out
}

func TestP601At(t *testing.T) {
	s := "ab\n\nc\n"
	want := []complex128{1 + 1i, 1 + 2i, 1 + 3i, 2 + 1i, 3 + 1i, 3 + 2i, 4 + 1i}
	for i, w := range want {
		if got := spot.At(s, i); got != w {
			t.Errorf("byte %d: %v, not %v", i, got, w)
		}
	}
	if got := spot.At("", 0); got != 1+1i {
		t.Errorf("of nothing: %v", got)
	}
}

func TestP601AtEachByte(t *testing.T) {
	for _, s := range append(texts(), small()...) {
		if len(s) > 1000 {
			continue
		}
		for i, w := range all(s) {
			if got := spot.At(s, i); got != w {
				t.Errorf("%q, byte %d: %v, not %v", s, i, got, w)
			}
		}
	}
}

// What is out of the text is cut to 0, or to its length.
func TestP601AtCut(t *testing.T) {
	for _, s := range texts() {
		for _, i := range []int{-1, -2, -len(s), -len(s) - 1, -1 << 31, -1 << 32, math.MinInt} {
			if got := spot.At(s, i); got != 1+1i {
				t.Errorf("%.20q, byte %d: %v", s, i, got)
			}
		}
		w := all(s)[len(s)]
		for _, i := range []int{len(s), len(s) + 1, len(s) + 2, 2*len(s) + 1, 1 << 31, 1 << 32, math.MaxInt - 1, math.MaxInt} {
			if got := spot.At(s, i); got != w {
				t.Errorf("%.20q, byte %d: %v, not %v", s, i, got, w)
			}
		}
	}
}

// wantPlace holds what Place answers against w; below 0 is none.
func wantPlace(t *testing.T, s string, p complex128, w int) {
	t.Helper()
	got, ok := spot.Place(s, p)
	if ok != (w >= 0) || got != max(w, 0) {
		t.Errorf("Place in %.20q of %v: %d, %v, not %d", s, p, got, ok, w)
	}
}

func TestP601Place(t *testing.T) {
	for _, s := range texts() {
		spots := all(s)
		if len(s) > 1000 {
			spots = spots[:500]
		}
		for i, p := range spots {
			wantPlace(t, s, p, i)
		}
		wantPlace(t, s, spot.At(s, len(s)), len(s))
	}
}

// All lines and columns round a text: those of its bytes and of its end are spots, and no others.
func TestP601PlaceOfNone(t *testing.T) {
	for _, s := range small() {
		at := map[complex128]int{}
		for i, p := range all(s) {
			at[p] = i
		}
		for line := -1; line < len(s)+4; line++ {
			for column := -1; column < len(s)+4; column++ {
				p := complex(float64(line), float64(column))
				w, ok := at[p]
				if !ok {
					w = -1
				}
				wantPlace(t, s, p, w)
			}
		}
	}
}

// odd are parts that are not whole, and whole ones that no text of some bytes has.
func odd() []float64 {
	out := []float64{
		0, math.Copysign(0, -1), -1, -2, 0.5, 0.999, 1.5, 2.5, 1.000001, -0.5, -1.5, math.Nextafter(1, 0), math.Nextafter(1, 2), math.Nextafter(2, 1),
		math.Nextafter(2, 3), math.Pi, math.SmallestNonzeroFloat64, -math.SmallestNonzeroFloat64,
		math.NaN(), math.Inf(1), math.Inf(-1), math.MaxFloat64, -math.MaxFloat64, 1e300, 1e19, -1e19,
	}
	for _, bits := range []int{8, 16, 31, 32, 33, 52, 53, 63, 64, 65, 128} {
		n := math.Ldexp(1, bits)
		out = append(out, n-1, n, n+1, n+2, -n, -n-1, -n+1, n+0.5)
	}
	return out
}

func TestP601PlaceOfOddParts(t *testing.T) {
	for _, s := range []string{"", "a", "\n", "ab\ncd\n", "\n\n\n", strings.Repeat("ab\n", 40)} {
		for _, x := range odd() {
			for _, y := range []float64{1, 2, 3, x} {
				wantPlace(t, s, complex(x, y), -1)
				wantPlace(t, s, complex(y, x), -1)
			}
		}
	}
}

// A column behind its line's end isn't counted on in the line behind it.
func TestP601PlaceBehindALine(t *testing.T) {
	s := "ab\ncdef\n\nx"
	wantPlace(t, s, 1+3i, 2)
	wantPlace(t, s, 1+4i, -1)
	wantPlace(t, s, 2+5i, 7)
	wantPlace(t, s, 2+6i, -1)
	wantPlace(t, s, 3+1i, 8)
	wantPlace(t, s, 3+2i, -1)
	wantPlace(t, s, 4+2i, 10)
	wantPlace(t, s, 4+3i, -1)
	wantPlace(t, s, 5+1i, -1)
	wantPlace(t, s, 2, -1)
	wantPlace(t, s, 2i, -1)
	wantPlace(t, "ab\n", 2+1i, 3)
	wantPlace(t, "ab", 2+1i, -1)
}

func TestP601Behind(t *testing.T) {
	rows := []struct {
		p    complex128
		s    string
		want complex128
	}{
		{1 + 1i, "", 1 + 1i},
		{1 + 1i, "abc", 1 + 4i},
		{1 + 1i, "\n", 2 + 1i},
		{3 + 7i, "", 3 + 7i},
		{3 + 7i, "ab", 3 + 9i},
		{3 + 7i, "ab\n", 4 + 1i},
		{3 + 7i, "\nab", 4 + 3i},
		{3 + 7i, "\n\n\n", 6 + 1i},
		{3 + 7i, "a\nb\nc\nde", 6 + 3i},
		{3 + 7i, "\r\n\r", 4 + 2i},
		{3 + 7i, "\u4e16\n\u754c", 4 + 4i},
		{1000000 + 999i, "/*\n*/", 1000001 + 3i},
		{math.MaxInt32 + math.MaxInt32*1i, "a", math.MaxInt32 + (math.MaxInt32+1)*1i},
		{math.MaxInt32 + math.MaxInt32*1i, "\na", (math.MaxInt32 + 1) + 2i},
	}
	for _, x := range rows {
		if got := spot.Behind(x.p, x.s); got != x.want {
			t.Errorf("behind %v, %q: %v, not %v", x.p, x.s, got, x.want)
		}
	}
}

// A text read in pieces comes to where it comes read at once.
func TestP601BehindOfPieces(t *testing.T) {
	for _, s := range append(texts(), small()...) {
		if len(s) > 400 {
			continue
		}
		spots := all(s)
		for i, p := range spots {
			for k := i; k <= len(s); k++ {
				if got := spot.Behind(p, s[i:k]); got != spots[k] {
					t.Fatalf("behind %v, %q: %v, not %v", p, s[i:k], got, spots[k])
				}
			}
		}
	}
}

// Any numbers may be handed in: a part that nothing is put to stays.
func TestP601BehindOddParts(t *testing.T) {
	for _, x := range odd() {
		for _, y := range append(odd(), 1, 2, 3) {
			p := complex(x, y)
			rows := []struct {
				s    string
				want complex128
			}{
				{"", p},
				{"ab", complex(x, y+2)},
				{"\n", complex(x+1, 1)},
				{"ab\ncd\nefg", complex(x+2, 4)},
			}
			for _, row := range rows {
				if got := spot.Behind(p, row.s); !same(got, row.want) {
					t.Errorf("behind %v, %q: %v, not %v", p, row.s, got, row.want)
				}
			}
		}
	}
}

// chance makes numbers, from a rule.
type chance uint64

func (c *chance) next(most int) int {
	*c = *c*6364136223846793005 + 1442695040888963407
	return int(uint64(*c) >> 33 % uint64(most))
}

// text makes some text.
func (c *chance) text() string {
	b := make([]byte, c.next(60))
	for i := range b {
		b[i] = byte(c.next(256))
		if c.next(5) == 0 {
			b[i] = 10
		}
	}
	return string(b)
}

func TestP601Any(t *testing.T) {
	c := chance(6)
	for range 5000 {
		s := c.text()
		spots := all(s)
		i := c.next(len(s) + 1)
		k := i + c.next(len(s)+1-i)
		if got := spot.At(s, i); got != spots[i] {
			t.Fatalf("%q, byte %d: %v, not %v", s, i, got, spots[i])
		}
		if got := spot.Behind(spots[i], s[i:k]); got != spots[k] {
			t.Fatalf("behind %v, %q: %v, not %v", spots[i], s[i:k], got, spots[k])
		}
		wantPlace(t, s, spots[i], i)
		wantPlace(t, s, spots[i]+0.5, -1)
		wantPlace(t, s, spots[i]+0.5i, -1)
		wantPlace(t, s, complex(real(spots[len(s)])+1, 1), -1)
	}
}

func TestP601Long(t *testing.T) {
	const lines = 200000
	s := strings.Repeat("line\n", lines)
	p := complex(lines+1, 1)
	if got := spot.At(s, len(s)); got != p {
		t.Errorf("the end: %v", got)
	}
	wantPlace(t, s, p, len(s))
	wantPlace(t, s, complex(lines, 5), len(s)-1)
	wantPlace(t, s, complex(lines, 6), -1)
	wantPlace(t, s, complex(lines+2, 1), -1)
	wide := strings.Repeat("x", 1000000)
	wantPlace(t, wide, complex(1, 1000001), 1000000)
	wantPlace(t, wide, complex(1, 1000002), -1)
	if got := spot.Behind(p, s+wide); got != complex(2*lines+1, 1000001) {
		t.Errorf("behind: %v", got)
	}
}

// check holds all calls against one text.
func check(t *testing.T, s string, i int) {
	t.Helper()
	spots := all(s)
	if got := spot.At(s, i); got != spots[i] {
		t.Errorf("%.20q, byte %d: %v, not %v", s, i, got, spots[i])
	}
	if got := spot.Behind(spots[i], s[i:]); got != spots[len(s)] {
		t.Errorf("behind %v, %.20q: %v, not %v", spots[i], s[i:], got, spots[len(s)])
	}
	wantPlace(t, s, spots[i], i)
}

// What was asked before, wrong things too, is nothing to an answer.
func TestP602ArgumentsAlone(t *testing.T) {
	for _, before := range texts() {
		for _, s := range texts() {
			if len(before) > 1000 || len(s) > 1000 {
				continue
			}
			spot.At(before, len(before))
			spot.Behind(complex(math.NaN(), math.Inf(1)), before)
			spot.Place(before, 1+1i)
			spot.Place(before, 0.5)
			check(t, s, len(s)/2)
		}
	}
}

// Texts of one memory, which is used again for another, are nothing to an answer: only bytes are.
func TestP602NotKept(t *testing.T) {
	b := []byte("ab\ncd\nef")
	for range 50 {
		for k := range b {
			was := b[k]
			b[k] = '\n'
			check(t, string(b), k)
			b[k] = 'x'
			check(t, string(b), k)
			b[k] = was
		}
	}
}

func TestP602Together(t *testing.T) {
	var group sync.WaitGroup
	for _, s := range texts() {
		if len(s) > 1000 {
			continue
		}
		group.Go(func() {
			for n := range 100 {
				check(t, s, n%(len(s)+1))
			}
		})
	}
	group.Wait()
}

package machine_test

import (
	"fmt"
	"math"
	"slices"
	"sync"
	"testing"

	"tipstaff/api"
	"tipstaff/machine"
	"tipstaff/record"
)

// one is an instruction without jumps.
func one(code int, k uint32) api.Instr {
	return api.Instr{Code: code, K: k}
}

// leap is a jump that compares.
func leap(code int, k uint32, t, f int) api.Instr {
	return api.Instr{Code: code, JT: t, JF: f, K: k}
}

// idle is instructions that do nothing.
func idle(n int) []api.Instr {
	return slices.Repeat([]api.Instr{one(api.OrK, 0)}, n)
}

// rising is data whose words are all different.
func rising() api.Data {
	b := make([]byte, 64)
	for i := range b {
		b[i] = byte(i + 1)
	}
	d, _ := record.Read(b)
	return d
}

// answer is what Run answers.
type answer struct {
	n     uint32
	steps int
	ok    bool
}

func run(l []api.Instr, d api.Data) answer {
	n, steps, ok := machine.Run(l, d)
	return answer{n, steps, ok}
}

// want runs a filter on data, and holds the answer against the one wanted.
func want(t *testing.T, name string, l []api.Instr, w answer) {
	t.Helper()
	if got := run(l, rising()); got != w {
		t.Errorf("%s: %v, not %v", name, got, w)
	}
}

// inside is all that the machine has.
type inside struct {
	a, x  uint32
	cells [api.Cells]uint32
}

// seeded has a number of its own everywhere.
func seeded(a, x uint32) inside {
	s := inside{a: a, x: x}
	for i := range s.cells {
		s.cells[i] = 0xC0DE0000 + uint32(i)
	}
	return s
}

// setup brings the machine from its beginning to s.
func setup(s inside) []api.Instr {
	var l []api.Instr
	for i, v := range s.cells {
		l = append(l, one(api.LdImm, v), one(api.St, uint32(i)))
	}
	return append(l, one(api.LdxImm, s.x), one(api.LdImm, s.a))
}

// behind tells all that the machine has behind the instructions, which all go on, one look a run.
func behind(t *testing.T, l []api.Instr) inside {
	t.Helper()
	look := func(tail ...api.Instr) uint32 {
		all := append(slices.Clone(l), tail...)
		got := run(all, rising())
		if !got.ok || got.steps != len(all) {
			t.Fatalf("behind %v: %v", l, got)
		}
		return got.n
	}
	s := inside{a: look(one(api.RetA, 0)), x: look(one(api.Txa, 0), one(api.RetA, 0))}
	for i := range s.cells {
		s.cells[i] = look(one(api.LdMem, uint32(i)), one(api.RetA, 0))
	}
	return s
}

// becomes holds what the machine has behind in, begun with s, against w: what in does not name stays.
func becomes(t *testing.T, s inside, in api.Instr, w inside) {
	t.Helper()
	if got := behind(t, append(setup(s), in)); got != w {
		t.Errorf("%+v on %x: %x, not %x", in, s, got, w)
	}
}

// numbers are those where an operation may turn.
func numbers() []uint32 {
	return []uint32{0, 1, 2, 3, 7, 31, 32, 33, 63, 64, 255, 256, 0x7FFF, 0xFFFF, 0x10000, 0x12345678,
		0x7FFFFFFF, 0x80000000, 0x80000001, 0xDEADBEEF, math.MaxUint32 - 1, math.MaxUint32}
}

func TestP301AllZeroAtFirst(t *testing.T) {
	if got := behind(t, nil); got != (inside{}) {
		t.Errorf("at first: %x", got)
	}
	for i := range uint32(api.Cells) {
		want(t, "X from a cell", []api.Instr{one(api.LdxImm, 9), one(api.LdxMem, i), one(api.Txa, 0), one(api.RetA, 0)}, answer{0, 4, true})
	}
}

func TestP301BeginsWithTheFirst(t *testing.T) {
	want(t, "two", []api.Instr{one(api.RetK, 1), one(api.RetK, 2)}, answer{1, 1, true})
}

func TestP301Immediate(t *testing.T) {
	s := seeded(0xAAAAAAAA, 0x55555555)
	for _, k := range numbers() {
		w := s
		w.a = k
		becomes(t, s, one(api.LdImm, k), w)
		w = s
		w.x = k
		becomes(t, s, one(api.LdxImm, k), w)
	}
}

func TestP301Cells(t *testing.T) {
	s := seeded(0xAAAAAAAA, 0x55555555)
	for i := range s.cells {
		k := uint32(i)
		w := s
		w.cells[i] = s.a
		becomes(t, s, one(api.St, k), w)
		w = s
		w.cells[i] = s.x
		becomes(t, s, one(api.Stx, k), w)
		w = s
		w.a = s.cells[i]
		becomes(t, s, one(api.LdMem, k), w)
		w = s
		w.x = s.cells[i]
		becomes(t, s, one(api.LdxMem, k), w)
	}
}

func TestP301Words(t *testing.T) {
	s := seeded(0xAAAAAAAA, 0x55555555)
	for off := uint32(0); off <= 60; off += 4 {
		w := s
		w.a = (off+4)<<24 | (off+3)<<16 | (off+2)<<8 | off + 1
		becomes(t, s, one(api.LdAbs, off), w)
		l := []api.Instr{one(api.LdAbs, off), one(api.RetA, 0)}
		for _, d := range []api.Data{{}, {Nr: 59, Arch: 0xC000003E, IP: 1 << 63, Args: [6]uint64{0: 1<<32 + 2, 5: math.MaxUint64}}} {
			n, _ := record.Word(d, off)
			if got := run(l, d); got != (answer{n, 2, true}) {
				t.Errorf("at %d of %v: %v, not %d", off, d, got, n)
			}
		}
	}
}

func TestP301Length(t *testing.T) {
	s := seeded(0xAAAAAAAA, 0x55555555)
	for _, k := range numbers() {
		w := s
		w.a = 64
		becomes(t, s, one(api.LdLen, k), w)
		w = s
		w.x = 64
		becomes(t, s, one(api.LdxLen, k), w)
	}
}

func TestP301Moves(t *testing.T) {
	for _, n := range numbers() {
		s := seeded(n, 0x55555555)
		w := s
		w.x = n
		becomes(t, s, one(api.Tax, 8), w)
		s = seeded(0xAAAAAAAA, n)
		w = s
		w.a = n
		becomes(t, s, one(api.Txa, 8), w)
	}
}

// operation is arithmetic, with K and with X, and reckoned in wide numbers.
type operation struct {
	name         string
	withK, withX int
	wide         func(a, n uint64) uint64
}

func operations() []operation {
	return []operation{
		{"Add", api.AddK, api.AddX, func(a, n uint64) uint64 { return a + n }},
		{"Sub", api.SubK, api.SubX, func(a, n uint64) uint64 { return a + 1<<32 - n }},
		{"Mul", api.MulK, api.MulX, func(a, n uint64) uint64 { return a * n }},
		{"Div", api.DivK, api.DivX, func(a, n uint64) uint64 { return (a - a%n) / n }},
		{"Or", api.OrK, api.OrX, func(a, n uint64) uint64 { return a + n - (a & n) }},
		{"And", api.AndK, api.AndX, func(a, n uint64) uint64 { return a + n - (a | n) }},
		{"Xor", api.XorK, api.XorX, func(a, n uint64) uint64 { return a + n - 2*(a&n) }},
		{"Lsh", api.LshK, api.LshX, func(a, n uint64) uint64 { return a << (n & 31) }},
		{"Rsh", api.RshK, api.RshX, func(a, n uint64) uint64 { return a >> (n & 31) }},
	}
}

// wanted is what A becomes: the low 32 bits of the wide number.
func (o operation) wanted(a, n uint32) uint32 {
	return uint32(o.wide(uint64(a), uint64(n)))
}

func TestP301Arithmetic(t *testing.T) {
	for _, o := range operations() {
		for _, a := range numbers() {
			for _, n := range numbers() {
				if n == 0 && o.name == "Div" {
					continue
				}
				s := seeded(a, 0x55555555)
				w := s
				w.a = o.wanted(a, n)
				becomes(t, s, one(o.withK, n), w)
				// K says nothing where X is taken.
				s = seeded(a, n)
				w = s
				w.a = o.wanted(a, n)
				becomes(t, s, one(o.withX, n+1), w)
			}
		}
	}
}

// The same in numbers written out, so that nothing hangs on how the test reckons.
func TestP301ArithmeticWrittenOut(t *testing.T) {
	for _, x := range []struct {
		code    int
		a, k, w uint32
	}{
		{api.AddK, math.MaxUint32, 2, 1},
		{api.AddK, 40, 2, 42},
		{api.SubK, 1, 2, math.MaxUint32},
		{api.SubK, 44, 2, 42},
		{api.MulK, 0x10001, 0x10001, 0x20001},
		{api.MulK, 6, 7, 42},
		{api.DivK, 7, 2, 3},
		{api.DivK, 7, 8, 0},
		{api.DivK, math.MaxUint32, 2, 0x7FFFFFFF},
		{api.DivK, 0x80000000, math.MaxUint32, 0},
		{api.DivK, 0, 5, 0},
		{api.OrK, 0b1100, 0b1010, 0b1110},
		{api.AndK, 0b1100, 0b1010, 0b1000},
		{api.XorK, 0b1100, 0b1010, 0b0110},
		{api.LshK, 3, 31, 0x80000000},
		{api.LshK, 3, 32, 3},
		{api.LshK, 3, 33, 6},
		{api.LshK, 3, math.MaxUint32, 0x80000000},
		{api.RshK, 0xC0000000, 31, 1},
		{api.RshK, 0xC0000000, 32, 0xC0000000},
		{api.RshK, 0xC0000000, 33, 0x60000000},
		{api.RshK, 0xC0000000, 1 << 31, 0xC0000000},
	} {
		l := []api.Instr{one(api.LdImm, x.a), one(x.code, x.k), one(api.RetA, 0)}
		want(t, fmt.Sprintf("%#x: %d and %d", x.code, x.a, x.k), l, answer{x.w, 3, true})
	}
}

func TestP301Neg(t *testing.T) {
	for _, a := range numbers() {
		for _, k := range []uint32{0, 1, math.MaxUint32} {
			s := seeded(a, 0x55555555)
			w := s
			w.a = uint32(1<<32 - uint64(a))
			becomes(t, s, one(api.Neg, k), w)
		}
	}
	want(t, "less 1", []api.Instr{one(api.LdImm, 1), one(api.Neg, 0), one(api.RetA, 0)}, answer{math.MaxUint32, 3, true})
}

func TestP301DivXByZeroEnds(t *testing.T) {
	for _, a := range numbers() {
		for _, k := range []uint32{0, 1, math.MaxUint32} {
			l := []api.Instr{one(api.LdImm, a), one(api.LdxImm, 0), one(api.DivX, k), one(api.RetK, 9)}
			want(t, "DivX by 0", l, answer{0, 3, true})
			// What stands behind it is not looked at.
			want(t, "DivX by 0, the last", l[:3], answer{0, 3, true})
		}
	}
	want(t, "DivX at first", []api.Instr{one(api.DivX, 5)}, answer{0, 1, true})
}

// comparison is a jump, with K and with X.
type comparison struct {
	name         string
	withK, withX int
	holds        func(a, n uint32) bool
}

func comparisons() []comparison {
	return []comparison{
		{"Jeq", api.JeqK, api.JeqX, func(a, n uint32) bool { return a == n }},
		{"Jgt", api.JgtK, api.JgtX, func(a, n uint32) bool { return a > n }},
		{"Jge", api.JgeK, api.JgeX, func(a, n uint32) bool { return !(a < n) }},
		{"Jset", api.JsetK, api.JsetX, func(a, n uint32) bool { return ^(^a | ^n) > 0 }},
	}
}

// landing answers a different number at each of its places.
func landing(n int) []api.Instr {
	l := make([]api.Instr, n)
	for i := range l {
		l[i] = one(api.RetK, uint32(1000+i))
	}
	return l
}

func TestP301Comparisons(t *testing.T) {
	for _, c := range comparisons() {
		for _, a := range numbers() {
			for _, n := range numbers() {
				w := answer{1005, 4, true}
				if c.holds(a, n) {
					w.n = 1002
				}
				head := []api.Instr{one(api.LdImm, a), one(api.LdxImm, ^n), leap(c.withK, n, 2, 5)}
				want(t, fmt.Sprintf("%sK of %d with %d", c.name, a, n), append(head, landing(7)...), w)
				head = []api.Instr{one(api.LdImm, a), one(api.LdxImm, n), leap(c.withX, ^n, 2, 5)}
				want(t, fmt.Sprintf("%sX of %d with %d", c.name, a, n), append(head, landing(7)...), w)
			}
		}
	}
}

// held is a value of A with which the jump goes by JT, and one with which it goes by JF, held against 6.
func held(code int) (uint32, uint32) {
	switch code {
	case api.JeqK, api.JeqX:
		return 6, 7
	case api.JgtK, api.JgtX:
		return 7, 6
	case api.JgeK, api.JgeX:
		return 6, 5
	}
	return 4, 9
}

// jumps are all that compare.
func jumps() []int {
	var all []int
	for _, c := range comparisons() {
		all = append(all, c.withK, c.withX)
	}
	return all
}

// How far a jump goes; a byte does not bound it, for an Instr holds ints.
func TestP301HowFar(t *testing.T) {
	for _, code := range jumps() {
		yes, no := held(code)
		for _, far := range []int{0, 1, 2, 127, 128, 254, 255, 256, 257, 300, 5000} {
			tail := landing(far + 3)
			w := answer{uint32(1000 + far), 4, true}
			head := []api.Instr{one(api.LdxImm, 6), one(api.LdImm, yes), leap(code, 6, far, far+1)}
			want(t, fmt.Sprintf("%#x by JT %d", code, far), append(head, tail...), w)
			head = []api.Instr{one(api.LdxImm, 6), one(api.LdImm, no), leap(code, 6, far+1, far)}
			want(t, fmt.Sprintf("%#x by JF %d", code, far), append(head, tail...), w)
		}
	}
}

func TestP301Ja(t *testing.T) {
	for _, far := range []uint32{0, 1, 2, 127, 128, 255, 256, 300, 32768, 65535, 65536, 70000} {
		// JT and JF are not its own.
		l := append([]api.Instr{leap(api.Ja, far, 7, -7)}, landing(int(far)+2)...)
		want(t, fmt.Sprintf("Ja %d", far), l, answer{1000 + far, 2, true})
	}
}

func TestP301JumpsChangeNothing(t *testing.T) {
	s := seeded(6, 6)
	becomes(t, s, one(api.Ja, 0), s)
	for _, code := range jumps() {
		becomes(t, s, leap(code, 6, 0, 0), s)
		becomes(t, s, leap(code, 0, 0, 0), s)
	}
}

// A number below 0 is one further back: the loop goes round till A is 0.
func TestP301Back(t *testing.T) {
	for n := uint32(1); n < 50; n++ {
		l := []api.Instr{one(api.LdImm, n), one(api.SubK, 1), leap(api.JeqK, 0, 0, -2), one(api.RetK, 8)}
		want(t, fmt.Sprintf("round %d times by JF", n), l, answer{8, int(2*n + 2), true})
		l[2] = leap(api.JgtX, 0, -2, 0)
		want(t, fmt.Sprintf("round %d times by JT", n), l, answer{8, int(2*n + 2), true})
	}
	// Back to the very first.
	l := []api.Instr{leap(api.JeqK, 0, 0, 2), one(api.LdImm, 3), leap(api.JeqK, 3, -3, 0), one(api.RetA, 0)}
	want(t, "back to the first", l, answer{3, 5, true})
}

func TestP301Returns(t *testing.T) {
	for _, k := range numbers() {
		want(t, "RetK", []api.Instr{one(api.LdImm, ^k), one(api.LdxImm, 3), one(api.RetK, k)}, answer{k, 3, true})
		want(t, "RetA", []api.Instr{one(api.LdImm, k), one(api.LdxImm, 3), one(api.RetA, ^k)}, answer{k, 3, true})
	}
}

func TestP302Example(t *testing.T) {
	want(t, "RetK 7", []api.Instr{one(api.RetK, 7)}, answer{7, 1, true})
}

func TestP302StepsToTheEnd(t *testing.T) {
	for _, n := range []int{0, 1, 2, 100, api.MaxCode - 2, api.MaxCode - 1} {
		for _, last := range []api.Instr{one(api.RetK, 0), one(api.RetA, 5), one(api.DivX, 5)} {
			want(t, fmt.Sprintf("%+v behind %d", last, n), append(idle(n), last), answer{0, n + 1, true})
		}
		want(t, fmt.Sprintf("RetK 7 behind %d", n), append(idle(n), one(api.RetK, 7)), answer{7, n + 1, true})
	}
}

func TestP302TooManySteps(t *testing.T) {
	out := answer{0, api.MaxCode, false}
	for _, n := range []int{api.MaxCode, api.MaxCode + 1, 3 * api.MaxCode} {
		for _, last := range []api.Instr{one(api.RetK, 7), one(api.RetA, 5), one(api.DivX, 5), one(api.DivK, 0)} {
			want(t, fmt.Sprintf("%+v behind %d", last, n), append(idle(n), last), out)
		}
		want(t, fmt.Sprintf("%d, and no end", n), idle(n), out)
	}
	want(t, "round by JT", []api.Instr{leap(api.JeqK, 0, -1, 0), one(api.RetK, 7)}, out)
	want(t, "round by JF", []api.Instr{leap(api.JeqK, 1, 0, -1), one(api.RetK, 7)}, out)
	want(t, "round of two", []api.Instr{one(api.AddK, 1), leap(api.JgeK, 0, -2, 0), one(api.RetK, 7)}, out)
}

// Steps are counted, not instructions: a long filter may be run, and a short one may go on too long.
func TestP302StepsAreNotPlaces(t *testing.T) {
	l := append([]api.Instr{one(api.Ja, 2*api.MaxCode)}, idle(2*api.MaxCode)...)
	want(t, "far on", append(l, one(api.RetK, 7)), answer{7, 2, true})
	// 1 + 2 * rounds + 1 steps.
	l = []api.Instr{one(api.LdImm, api.MaxCode/2-1), one(api.SubK, 1), leap(api.JeqK, 0, 0, -2), one(api.RetK, 7)}
	want(t, "just the most", l, answer{7, api.MaxCode, true})
	l[0].K++
	want(t, "a round more", l, answer{0, api.MaxCode, false})
}

// faulty are instructions that are not done.
func faulty() []api.Instr {
	all := []api.Instr{one(api.DivK, 0), one(-1, 0), one(0x08, 0), one(256+api.RetK, 0), one(65536+api.RetK, 0)}
	for _, code := range []int{api.St, api.Stx, api.LdMem, api.LdxMem} {
		for _, k := range []uint32{api.Cells, api.Cells + 1, 31, 32, 64, 255, 256, 0x10000, 0x10003, 1 << 31, 1<<31 + 3, math.MaxUint32} {
			all = append(all, one(code, k))
		}
	}
	for _, k := range []uint32{1, 2, 3, 5, 6, 7, 58, 59, 61, 62, 63, 64, 65, 68, 256, 0x10000, 0x10004, 1 << 31, 1<<31 + 4, math.MaxUint32 - 3, math.MaxUint32} {
		all = append(all, one(api.LdAbs, k))
	}
	return all
}

func TestP302Faults(t *testing.T) {
	for _, bad := range faulty() {
		for _, n := range []int{0, 1, 2, 100, api.MaxCode - 1, api.MaxCode} {
			l := append(idle(n), bad, one(api.RetK, 7))
			want(t, fmt.Sprintf("%+v behind %d", bad, n), l, answer{0, n, false})
		}
		l := []api.Instr{one(api.LdImm, 9), one(api.LdxImm, 9), bad}
		want(t, fmt.Sprintf("%+v, the last, with 9", bad), l, answer{0, 2, false})
	}
}

// What is not come to does not matter.
func TestP302NotComeTo(t *testing.T) {
	for _, bad := range faulty() {
		want(t, fmt.Sprintf("behind the end: %+v", bad), []api.Instr{one(api.RetK, 7), bad}, answer{7, 1, true})
		want(t, fmt.Sprintf("jumped over: %+v", bad), []api.Instr{one(api.Ja, 1), bad, one(api.RetK, 7)}, answer{7, 2, true})
	}
}

func TestP302NoSuchPlace(t *testing.T) {
	want(t, "nothing", nil, answer{0, 0, false})
	want(t, "an empty list", []api.Instr{}, answer{0, 0, false})
	for _, n := range []int{1, 2, 100, api.MaxCode - 1} {
		want(t, fmt.Sprintf("%d, and no end", n), idle(n), answer{0, n, false})
	}
	// The spare room is none of the filter's.
	room := []api.Instr{one(api.LdImm, 1), one(api.RetK, 7)}
	want(t, "spare room", room[:1], answer{0, 1, false})
	// The next place of the Ja at 1 of 3 is 2; the last place, 0 further on than that.
	for _, far := range []uint32{1, 2, 255, 65536, 1<<31 - 1, 1 << 31, math.MaxUint32 - 2, math.MaxUint32 - 1, math.MaxUint32} {
		l := []api.Instr{one(api.LdImm, 1), one(api.Ja, far), one(api.RetK, 7)}
		want(t, fmt.Sprintf("Ja %d", far), l, answer{0, 2, false})
	}
}

// places is a jump at 3 that goes by JT, and 5 in all: 1 further on is one too far, 5 back too.
func places(code, far int, taken bool) []api.Instr {
	yes, no := held(code)
	jump := leap(code, 6, far, 0)
	if !taken {
		jump = leap(code, 6, 0, far)
		yes = no
	}
	return []api.Instr{one(api.LdxImm, 6), one(api.LdImm, yes), one(api.OrK, 0), jump, one(api.RetK, 7)}
}

func TestP302NoSuchPlaceOfJumps(t *testing.T) {
	far := []int{1, 2, 255, 256, 1 << 31, 1<<32 - 4, 1 << 32, 1<<32 + 1, math.MaxInt - 5, math.MaxInt - 4, math.MaxInt - 3, math.MaxInt - 1, math.MaxInt,
		-5, -6, -256, -1 << 31, -1 << 32, -1<<32 - 1, math.MinInt, math.MinInt + 1}
	for _, code := range jumps() {
		for _, n := range far {
			for _, taken := range []bool{true, false} {
				want(t, fmt.Sprintf("%#x by %d, %t", code, n, taken), places(code, n, taken), answer{0, 4, false})
			}
			// The way that is not gone may lead anywhere.
			yes, _ := held(code)
			l := []api.Instr{one(api.LdxImm, 6), one(api.LdImm, yes), leap(code, 6, 0, n), one(api.RetK, 7)}
			want(t, fmt.Sprintf("%#x not by %d", code, n), l, answer{7, 4, true})
		}
	}
}

// A jump from the last step that may be done goes on, wherever it leads.
func TestP302NoSuchPlaceBehindTheMost(t *testing.T) {
	want(t, "Ja away", append(idle(api.MaxCode-1), one(api.Ja, 9)), answer{0, api.MaxCode, false})
	want(t, "off the end", idle(api.MaxCode), answer{0, api.MaxCode, false})
}

// codes are all of package api's.
func codes() []int {
	return []int{api.LdImm, api.LdxImm, api.St, api.Stx, api.AddK, api.Ja, api.RetK, api.Tax, api.AddX, api.SubK, api.JeqK,
		api.RetA, api.SubX, api.JeqX, api.LdAbs, api.MulK, api.JgtK, api.MulX, api.JgtX, api.DivK, api.JgeK, api.DivX,
		api.JgeX, api.OrK, api.JsetK, api.OrX, api.JsetX, api.AndK, api.AndX, api.LdMem, api.LdxMem, api.LshK, api.LshX,
		api.RshK, api.RshX, api.LdLen, api.LdxLen, api.Neg, api.Txa, api.XorK, api.XorX}
}

func TestP302AnotherCode(t *testing.T) {
	known := codes()
	head := []api.Instr{one(api.LdxImm, 1), one(api.LdImm, 1)}
	ask := func(code int) {
		in := leap(code, 4, 0, 0)
		w := answer{0, 2, false}
		switch {
		case code == api.RetK:
			w = answer{4, 3, true}
		case code == api.RetA:
			w = answer{1, 3, true}
		case code == api.Ja:
			in.K = 0
			w = answer{7, 4, true}
		case slices.Contains(known, code):
			w = answer{7, 4, true}
		}
		want(t, fmt.Sprintf("code %#x", code), append(slices.Clone(head), in, one(api.RetK, 7)), w)
	}
	for code := -70000; code <= 70000; code++ {
		ask(code)
	}
	for _, code := range known {
		for bit := 17; bit < 63; bit++ {
			ask(code + 1<<bit)
			ask(code - 1<<bit)
		}
		ask(math.MinInt + code)
		ask(math.MaxInt - code)
	}
}

// Fields that an instruction does not name may be any.
func TestP302FieldsNotLookedAt(t *testing.T) {
	for _, far := range []int{-1, 256, math.MinInt, math.MaxInt} {
		for _, code := range codes() {
			if slices.Contains(jumps(), code) || code == api.RetK || code == api.RetA {
				continue
			}
			k := uint32(4)
			if code == api.Ja {
				k = 0
			}
			l := []api.Instr{one(api.LdxImm, 1), leap(code, k, far, far), leap(api.RetK, 7, far, far)}
			want(t, fmt.Sprintf("code %#x with %d", code, far), l, answer{7, 3, true})
		}
	}
}

// wild are filters of any numbers, from a rule.
type wild uint64

func (w *wild) next(most int) int {
	*w = *w*6364136223846793005 + 1442695040888963407
	return int(uint64(*w) >> 33 % uint64(most))
}

func (w *wild) filter() []api.Instr {
	known := codes()
	l := make([]api.Instr, w.next(40))
	for i := range l {
		l[i] = api.Instr{Code: known[w.next(len(known))], JT: w.next(6) - 2, JF: w.next(6) - 2, K: uint32(w.next(20))}
		switch w.next(40) {
		case 0:
			l[i].Code = w.next(300) - 20
		case 1:
			l[i].K = numbers()[w.next(len(numbers()))]
		case 2:
			l[i].JT = math.MaxInt - w.next(3)
		case 3:
			l[i].JF = math.MinInt + w.next(3)
		}
	}
	return l
}

// Whatever is run, it ends, and what is told holds together.
func TestP302AnyFilter(t *testing.T) {
	w := wild(3)
	for range 20000 {
		l := w.filter()
		got := run(l, rising())
		if got.steps < 0 || got.steps > api.MaxCode || got.ok && got.steps == 0 || !got.ok && got.n != 0 {
			t.Fatalf("%v: %v", l, got)
		}
	}
}

// sample is filters that end in many ways, and leave much behind.
func sample() [][]api.Instr {
	all := [][]api.Instr{
		nil,
		{one(api.RetK, 7)},
		append(setup(seeded(1, 2)), one(api.RetA, 0)),
		append(setup(seeded(3, 4)), one(api.DivK, 0)),
		append(setup(seeded(5, 6)), one(api.JeqX, 0)),
		{leap(api.JeqK, 0, -1, 0)},
		{one(api.LdAbs, 60), one(api.RetA, 0)},
		{one(api.LdxMem, 3), one(api.Txa, 0), one(api.AddK, 1), one(api.RetA, 0)},
	}
	w := wild(303)
	for range 30 {
		all = append(all, w.filter())
	}
	return all
}

// roomy is l with more in its spare room: a filter that ran over its end would change, or go on.
func roomy(l []api.Instr) []api.Instr {
	all := append(slices.Clone(l), one(api.RetK, 9), one(api.RetK, 9))
	return all[:len(l)]
}

func TestP303HandedInStays(t *testing.T) {
	for _, x := range sample() {
		l := roomy(x)
		all := slices.Clone(l[:cap(l)])
		d := rising()
		if got, w := run(l, d), run(x, d); got != w {
			t.Errorf("%v: %v with spare room, %v without", x, got, w)
		}
		if !slices.Equal(l[:cap(l)], all) {
			t.Errorf("%v became %v", all, l[:cap(l)])
		}
		if d != rising() {
			t.Errorf("%v: the data became %v", x, d)
		}
	}
}

// The same memory with another filter in it is another filter.
func TestP303NotKept(t *testing.T) {
	l := []api.Instr{one(api.LdAbs, 0), one(api.AddK, 1), one(api.RetA, 0)}
	d := api.Data{Nr: 5}
	for n := range uint32(100) {
		l[1].K = n
		d.Nr = 3 * n
		if got := run(l, d); got != (answer{4 * n, 3, true}) {
			t.Errorf("with %d: %v", n, got)
		}
	}
}

// What ran before, to a fault or an end, is nothing to a run.
func TestP303ArgumentsAlone(t *testing.T) {
	all := sample()
	first := make([]answer, len(all))
	for i, l := range all {
		first[i] = run(l, rising())
	}
	for i, before := range all {
		for j, l := range all {
			run(before, api.Data{Nr: math.MaxUint32})
			if got := run(l, rising()); got != first[j] {
				t.Errorf("%d behind %d: %v, not %v", j, i, got, first[j])
			}
		}
		run(before, rising())
		if got := behind(t, nil); got != (inside{}) {
			t.Errorf("left by %d: %x", i, got)
		}
	}
}

func TestP303Together(t *testing.T) {
	var all sync.WaitGroup
	for _, l := range sample() {
		w := run(l, rising())
		all.Go(func() {
			for range 200 {
				if got := run(l, rising()); got != w {
					t.Errorf("%v: %v, not %v", l, got, w)
					return
				}
			}
		})
	}
	all.Wait()
}

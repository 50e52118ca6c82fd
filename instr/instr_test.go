package instr_test

import (
	"math"
	"slices"
	"sync"
	"testing"

	"tipstaff/api"
	"tipstaff/instr"
)

// pair is a filter, and its bytes.
type pair struct {
	name string
	l    []api.Instr
	b    []byte
}

func pairs() []pair {
	return []pair{
		{"nothing", nil, nil},
		{"zero", []api.Instr{{}}, make([]byte, 8)},
		{"return", []api.Instr{{Code: api.RetK, K: 7}}, []byte{6, 0, 0, 0, 7, 0, 0, 0}},
		{"each byte its own", []api.Instr{{Code: 0x0201, JT: 3, JF: 4, K: 0x08070605}}, []byte{1, 2, 3, 4, 5, 6, 7, 8}},
		{"all bits", []api.Instr{{Code: 65535, JT: 255, JF: 255, K: math.MaxUint32}}, slices.Repeat([]byte{255}, 8)},
		{"a code that is none", []api.Instr{{Code: 0x0100}}, []byte{0, 1, 0, 0, 0, 0, 0, 0}},
		{"top bits", []api.Instr{{Code: 0x8000, JT: 0x80, JF: 0x80, K: 0x80000000}}, []byte{0, 0x80, 0x80, 0x80, 0, 0, 0, 0x80}},
		{"in order", []api.Instr{{Code: api.LdAbs, K: 4}, {Code: api.JeqK, JT: 1, JF: 255, K: 0xC000003E}, {Code: api.RetA}},
			[]byte{0x20, 0, 0, 0, 4, 0, 0, 0, 0x15, 0, 1, 255, 0x3E, 0, 0, 0xC0, 0x16, 0, 0, 0, 0, 0, 0, 0}},
	}
}

func TestP101Bytes(t *testing.T) {
	for _, x := range pairs() {
		if got := instr.Bytes(x.l); !slices.Equal(got, x.b) {
			t.Errorf("%s: %x, not %x", x.name, got, x.b)
		}
	}
	if got := instr.Bytes([]api.Instr{}); len(got) != 0 {
		t.Errorf("an empty list: %x", got)
	}
}

func TestP101BytesOfNone(t *testing.T) {
	wrong := []api.Instr{
		{Code: -1}, {Code: 65536}, {Code: 1 << 17}, {Code: math.MinInt}, {Code: math.MaxInt},
		{JT: -1}, {JT: 256}, {JT: 65536}, {JT: math.MinInt}, {JT: math.MaxInt},
		{JF: -1}, {JF: 256}, {JF: 65536}, {JF: math.MinInt}, {JF: math.MaxInt},
	}
	good := api.Instr{Code: 1, JT: 2, JF: 3, K: 4}
	for _, x := range wrong {
		for _, l := range [][]api.Instr{{x}, {x, good}, {good, x}, {good, x, good}} {
			if got := instr.Bytes(l); len(got) != 0 {
				t.Errorf("%v: %x", l, got)
			}
		}
	}
}

func TestP101Read(t *testing.T) {
	for _, x := range pairs() {
		if got, e := instr.Read(x.b); !slices.Equal(got, x.l) || e != api.OK {
			t.Errorf("%s: %v, %d, not %v", x.name, got, e, x.l)
		}
	}
	if got, e := instr.Read([]byte{}); len(got) != 0 || e != api.OK {
		t.Errorf("no bytes: %v, %d", got, e)
	}
}

func TestP101ReadOfNone(t *testing.T) {
	for n := range 100 {
		got, e := instr.Read(make([]byte, n))
		if n%8 == 0 {
			if len(got) != n/8 || e != api.OK {
				t.Errorf("%d bytes: %v, %d", n, got, e)
			}
		} else if len(got) != 0 || e != api.ErrBytes {
			t.Errorf("%d bytes: %v, %d", n, got, e)
		}
	}
}

// each value of each byte, so that none is mixed up with another, and none is cut.
func TestP101Back(t *testing.T) {
	for at := range 16 {
		for v := range 256 {
			b := make([]byte, 16)
			b[at] = byte(v)
			l, e := instr.Read(b)
			if e != api.OK || !slices.Equal(instr.Bytes(l), b) {
				t.Fatalf("byte %d is %d: %v, %d", at, v, l, e)
			}
		}
	}
	for code := range 65536 {
		l := []api.Instr{{Code: code, JT: code & 255, JF: code >> 8, K: uint32(code) * 0x10001}}
		if got, e := instr.Read(instr.Bytes(l)); e != api.OK || !slices.Equal(got, l) {
			t.Fatalf("%v: %v, %d", l, got, e)
		}
	}
}

// A filter longer than the checker lets in is written all the same.
func TestP101Long(t *testing.T) {
	l := make([]api.Instr, 3*api.MaxCode+1)
	for i := range l {
		l[i] = api.Instr{Code: i, JT: i & 255, JF: 255 - i&255, K: uint32(i) << 16}
	}
	b := instr.Bytes(l)
	if len(b) != 8*len(l) {
		t.Fatalf("%d bytes of %d instructions", len(b), len(l))
	}
	if got, e := instr.Read(b); e != api.OK || !slices.Equal(got, l) {
		t.Fatalf("%d of %d, %d", len(got), len(l), e)
	}
}

// roomy is l with three more of x in its spare room.
func roomy[T any](l []T, x T) []T {
	all := append(slices.Clone(l), x, x, x)
	return all[:len(l)]
}

// spoil overwrites a list, its spare room too.
func spoil[T any](l []T, x T) {
	all := l[:cap(l)]
	for i := range all {
		all[i] = x
	}
}

func TestP102HandedInStays(t *testing.T) {
	mark := api.Instr{Code: 9, JT: 9, JF: 9, K: 9}
	for _, x := range append(pairs(), pair{name: "none", l: []api.Instr{{K: 1}, {JT: 256}}, b: make([]byte, 9)}) {
		l, b := roomy(x.l, mark), roomy(x.b, 0xA5)
		wantL, wantB := slices.Clone(l[:cap(l)]), slices.Clone(b[:cap(b)])
		instr.Bytes(l)
		instr.Read(b)
		if !slices.Equal(l[:cap(l)], wantL) {
			t.Errorf("%s: Bytes changed %v to %v", x.name, wantL, l[:cap(l)])
		}
		if !slices.Equal(b[:cap(b)], wantB) {
			t.Errorf("%s: Read changed %x to %x", x.name, wantB, b[:cap(b)])
		}
	}
}

func TestP102NotKept(t *testing.T) {
	for _, x := range pairs() {
		l, b := slices.Clone(x.l), slices.Clone(x.b)
		gotB := instr.Bytes(l)
		gotL, _ := instr.Read(b)
		spoil(l, api.Instr{Code: 9})
		spoil(b, 0xA5)
		if !slices.Equal(gotB, x.b) || !slices.Equal(gotL, x.l) {
			t.Errorf("%s: answers changed with what was handed in: %x, %v", x.name, gotB, gotL)
		}
	}
}

func TestP102NewMemory(t *testing.T) {
	for _, x := range pairs() {
		l, b := slices.Clone(x.l), slices.Clone(x.b)
		firstB, secondB := instr.Bytes(l), instr.Bytes(l)
		firstL, _ := instr.Read(b)
		secondL, _ := instr.Read(b)
		spoil(firstB, 0xA5)
		spoil(firstL, api.Instr{Code: 9})
		if !slices.Equal(l, x.l) || !slices.Equal(b, x.b) {
			t.Errorf("%s: an answer shares memory with what was handed in", x.name)
		}
		if !slices.Equal(secondB, x.b) || !slices.Equal(secondL, x.l) {
			t.Errorf("%s: two answers share memory", x.name)
		}
		thirdL, e := instr.Read(b)
		if !slices.Equal(instr.Bytes(l), x.b) || !slices.Equal(thirdL, x.l) || e != api.OK {
			t.Errorf("%s: another answer after the first one was changed", x.name)
		}
	}
}

// What was asked before, wrong things too, is nothing to an answer.
func TestP102ArgumentsAlone(t *testing.T) {
	all := pairs()
	for _, before := range all {
		for _, x := range all {
			instr.Bytes(before.l)
			instr.Bytes([]api.Instr{{Code: -1}})
			gotB := instr.Bytes(x.l)
			instr.Read(before.b)
			instr.Read([]byte{1})
			gotL, e := instr.Read(x.b)
			if !slices.Equal(gotB, x.b) || !slices.Equal(gotL, x.l) || e != api.OK {
				t.Errorf("%s behind %s: %x, %v, %d", x.name, before.name, gotB, gotL, e)
			}
		}
	}
}

func TestP102Together(t *testing.T) {
	var all sync.WaitGroup
	for _, x := range pairs() {
		all.Go(func() {
			for range 1000 {
				b := instr.Bytes(x.l)
				l, e := instr.Read(x.b)
				if !slices.Equal(b, x.b) || !slices.Equal(l, x.l) || e != api.OK {
					t.Errorf("%s: %x, %v, %d", x.name, b, l, e)
					return
				}
			}
		})
	}
	all.Wait()
}

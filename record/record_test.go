package record_test

import (
	"bytes"
	"encoding/binary"
	"math"
	"slices"
	"sync"
	"testing"

	"tipstaff/api"
	"tipstaff/record"
)

// pair is data, and its bytes.
type pair struct {
	name string
	d    api.Data
	b    []byte
}

// rising is the bytes 1 to 64, so that each place has its own.
func rising() []byte {
	b := make([]byte, 64)
	for i := range b {
		b[i] = byte(i + 1)
	}
	return b
}

// at is 64 zero bytes, but for those of x from off on.
func at(off int, x ...byte) []byte {
	b := make([]byte, 64)
	copy(b[off:], x)
	return b
}

func pairs() []pair {
	return []pair{
		{"zero", api.Data{}, make([]byte, 64)},
		{"each byte its own", api.Data{
			Nr: 0x04030201, Arch: 0x08070605, IP: 0x100f0e0d0c0b0a09,
			Args: [6]uint64{
				0x1817161514131211, 0x201f1e1d1c1b1a19, 0x2827262524232221,
				0x302f2e2d2c2b2a29, 0x3837363534333231, 0x403f3e3d3c3b3a39,
			},
		}, rising()},
		{"all bits", api.Data{
			Nr: math.MaxUint32, Arch: math.MaxUint32, IP: math.MaxUint64,
			Args: [6]uint64{
				math.MaxUint64, math.MaxUint64, math.MaxUint64,
				math.MaxUint64, math.MaxUint64, math.MaxUint64,
			},
		}, bytes.Repeat([]byte{255}, 64)},
		{"a number", api.Data{Nr: 257}, at(0, 1, 1)},
		{"an architecture", api.Data{Arch: 0xC000003E}, at(4, 0x3E, 0, 0, 0xC0)},
		{"the high half of the place", api.Data{IP: 1 << 32}, at(12, 1)},
		{"the top bit of the first", api.Data{Args: [6]uint64{1 << 63}}, at(23, 0x80)},
		{"the low half of the last", api.Data{Args: [6]uint64{5: math.MaxUint32}}, at(56, 255, 255, 255, 255)},
		{"the top byte of the last", api.Data{Args: [6]uint64{5: 0xAB << 56}}, at(63, 0xAB)},
	}
}

func TestP201Bytes(t *testing.T) {
	for _, x := range pairs() {
		if got := record.Bytes(x.d); !bytes.Equal(got, x.b) {
			t.Errorf("%s: %x, not %x", x.name, got, x.b)
		}
	}
}

func TestP201Read(t *testing.T) {
	for _, x := range pairs() {
		if got, e := record.Read(x.b); got != x.d || e != api.OK {
			t.Errorf("%s: %v, %d, not %v", x.name, got, e, x.d)
		}
	}
}

func TestP201ReadOfNone(t *testing.T) {
	wrong := [][]byte{nil, {}}
	for n := range 200 {
		if n != 64 {
			wrong = append(wrong, bytes.Repeat([]byte{255}, n))
		}
	}
	for _, n := range []int{256, 320, 64 + 256, 64 + 65536} {
		wrong = append(wrong, bytes.Repeat([]byte{255}, n))
	}
	// What stands in the spare room is not handed in.
	wrong = append(wrong, rising()[:63], rising()[:0])
	for _, b := range wrong {
		if got, e := record.Read(b); got != (api.Data{}) || e != api.ErrBytes {
			t.Errorf("%d bytes: %v, %d", len(b), got, e)
		}
	}
}

// Each value of each byte, so that none is mixed up with another, and none is cut.
func TestP201Back(t *testing.T) {
	for off := range 64 {
		for v := range 256 {
			b := at(off, byte(v))
			d, e := record.Read(b)
			if e != api.OK || !bytes.Equal(record.Bytes(d), b) {
				t.Fatalf("byte %d is %d: %v, %d", off, v, d, e)
			}
		}
	}
}

func TestP201Word(t *testing.T) {
	for _, x := range pairs() {
		for off := uint32(0); off <= 60; off += 4 {
			want := binary.LittleEndian.Uint32(x.b[off:])
			if got, ok := record.Word(x.d, off); got != want || !ok {
				t.Errorf("%s: at %d: %x, %t, not %x", x.name, off, got, ok, want)
			}
		}
	}
	d := api.Data{Arch: 0xC000003E}
	if got, ok := record.Word(d, 4); got != d.Arch || !ok {
		t.Errorf("the example: %x, %t", got, ok)
	}
}

func TestP201WordOfNone(t *testing.T) {
	var wrong []uint32
	for off := range uint32(2000) {
		if off%4 != 0 || off > 60 {
			wrong = append(wrong, off)
		}
	}
	// Those that a narrower, or a signed, number would take for one of the first 64.
	for bit := 8; bit < 32; bit++ {
		wrong = append(wrong, 1<<bit, 1<<bit+4, 1<<bit+60, 1<<bit-4, 1<<bit+1)
	}
	for less := range uint32(70) {
		wrong = append(wrong, math.MaxUint32-less)
	}
	for _, x := range pairs() {
		for _, off := range wrong {
			if got, ok := record.Word(x.d, off); got != 0 || ok {
				t.Errorf("%s: at %d: %x, %t", x.name, off, got, ok)
			}
		}
	}
}

func TestP202HandedInStays(t *testing.T) {
	for n := range 70 {
		b := bytes.Repeat(rising(), 2)
		want := slices.Clone(b)
		record.Read(b[:n])
		if !bytes.Equal(b, want) {
			t.Errorf("Read of %d bytes changed %x to %x", n, want, b)
		}
	}
}

func TestP202NotKept(t *testing.T) {
	for _, x := range pairs() {
		b := slices.Clone(x.b)
		got, _ := record.Read(b)
		clear(b)
		if got != x.d {
			t.Errorf("%s: the answer changed with what was handed in: %v", x.name, got)
		}
	}
}

func TestP202NewMemory(t *testing.T) {
	for _, x := range pairs() {
		first, second := record.Bytes(x.d), record.Bytes(x.d)
		all := first[:cap(first)]
		for i := range all {
			all[i] = ^all[i]
		}
		if !bytes.Equal(second, x.b) {
			t.Errorf("%s: two answers share memory", x.name)
		}
		if got := record.Bytes(x.d); !bytes.Equal(got, x.b) {
			t.Errorf("%s: another answer after the first one was changed: %x", x.name, got)
		}
	}
}

// What was asked before, wrong things too, is nothing to an answer.
func TestP202ArgumentsAlone(t *testing.T) {
	for _, before := range pairs() {
		for _, x := range pairs() {
			record.Bytes(before.d)
			b := record.Bytes(x.d)
			record.Read(before.b)
			record.Read(before.b[:63])
			d, e := record.Read(x.b)
			record.Word(before.d, 60)
			record.Word(before.d, 61)
			w, ok := record.Word(x.d, 60)
			if !bytes.Equal(b, x.b) || d != x.d || e != api.OK || w != uint32(x.d.Args[5]>>32) || !ok {
				t.Errorf("%s behind %s: %x, %v, %d, %x, %t", x.name, before.name, b, d, e, w, ok)
			}
		}
	}
}

func TestP202Together(t *testing.T) {
	var all sync.WaitGroup
	for _, x := range pairs() {
		all.Go(func() {
			for range 1000 {
				b := record.Bytes(x.d)
				d, e := record.Read(x.b)
				w, ok := record.Word(x.d, 4)
				if !bytes.Equal(b, x.b) || d != x.d || e != api.OK || w != x.d.Arch || !ok {
					t.Errorf("%s: %x, %v, %d, %x, %t", x.name, b, d, e, w, ok)
					return
				}
			}
		})
	}
	all.Wait()
}

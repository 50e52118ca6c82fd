package checker_test

import (
	"fmt"
	"math"
	"slices"
	"sync"
	"testing"

	"tipstaff/api"
	"tipstaff/checker"
	"tipstaff/machine"
)

// every is all cells.
const every = 0xFFFF

// one is an instruction without jumps.
func one(code int, k uint32) api.Instr {
	return api.Instr{Code: code, K: k}
}

// leap is an instruction with all its fields.
func leap(code int, k uint32, t, f int) api.Instr {
	return api.Instr{Code: code, JT: t, JF: f, K: k}
}

// idle is instructions that do nothing.
func idle(n int) []api.Instr {
	return slices.Repeat([]api.Instr{one(api.OrK, 0)}, n)
}

// join is lists and instructions in one list.
func join(parts ...any) []api.Instr {
	var all []api.Instr
	for _, p := range parts {
		switch v := p.(type) {
		case api.Instr:
			all = append(all, v)
		case []api.Instr:
			all = append(all, v...)
		}
	}
	return all
}

// allIn is what Check answers when none is refused.
const allIn = -1

// want holds what Check answers against the number of the first that is refused.
func want(t *testing.T, name string, l []api.Instr, w int) {
	t.Helper()
	if got, ok := checker.Check(l); got != w || ok != (w == allIn) {
		t.Errorf("%s: %d, %t, not %d", name, got, ok, w)
	}
}

// wantStored holds what Stored answers against w.
func wantStored(t *testing.T, name string, l []api.Instr, w ...int) {
	t.Helper()
	if got, ok := checker.Stored(l); !ok || !slices.Equal(got, w) {
		t.Errorf("%s: %x, %t, not %x", name, got, ok, w)
	}
}

// wantNone holds what Stored answers against nothing.
func wantNone(t *testing.T, name string, l []api.Instr) {
	t.Helper()
	if got, ok := checker.Stored(l); ok || len(got) != 0 {
		t.Errorf("%s: %x, %t, not nothing", name, got, ok)
	}
}

// codes are all of package api's.
func codes() []int {
	return []int{api.LdImm, api.LdxImm, api.St, api.Stx, api.AddK, api.Ja, api.RetK, api.Tax, api.AddX, api.SubK, api.JeqK,
		api.RetA, api.SubX, api.JeqX, api.LdAbs, api.MulK, api.JgtK, api.MulX, api.JgtX, api.DivK, api.JgeK, api.DivX,
		api.JgeX, api.OrK, api.JsetK, api.OrX, api.JsetX, api.AndK, api.AndX, api.LdMem, api.LdxMem, api.LshK, api.LshX,
		api.RshK, api.RshX, api.LdLen, api.LdxLen, api.Neg, api.Txa, api.XorK, api.XorX}
}

// jumps are all that compare.
func jumps() []int {
	return []int{api.JeqK, api.JeqX, api.JgtK, api.JgtX, api.JgeK, api.JgeX, api.JsetK, api.JsetX}
}

// around puts in at the place n, with more behind it than any jump needs, and cell 4 stored.
func around(n int, in api.Instr) []api.Instr {
	return join(one(api.St, 4), idle(n-1), in, idle(260), one(api.RetK, 7))
}

// both holds Check and Stored against in being refused, or let in, at several places.
func both(t *testing.T, in api.Instr, refused bool) {
	t.Helper()
	for _, n := range []int{1, 2, 100, api.MaxCode - 262} {
		l := around(n, in)
		name := fmt.Sprintf("%+v at %d", in, n)
		if refused {
			want(t, name, l, n)
			wantNone(t, name, l)
			continue
		}
		want(t, name, l, allIn)
		if got, ok := checker.Stored(l); !ok || len(got) != len(l) {
			t.Errorf("%s: %d stored, %t", name, len(got), ok)
		}
	}
}

func TestP401Example(t *testing.T) {
	want(t, "nothing", nil, 0)
	want(t, "an empty list", []api.Instr{}, 0)
	want(t, "an empty list with spare room", []api.Instr{one(api.RetK, 7)}[:0], 0)
}

func TestP401LetIn(t *testing.T) {
	for _, l := range [][]api.Instr{
		{one(api.RetK, 0)},
		{one(api.RetA, 0)},
		{one(api.RetK, math.MaxUint32)},
		{leap(api.RetA, math.MaxUint32, 255, 255)},
		{one(api.LdAbs, 4), leap(api.JeqK, 0xC000003E, 0, 1), one(api.RetK, 7), one(api.RetK, 1)},
		{one(api.Ja, 0), one(api.RetA, 0)},
		{one(api.RetK, 1), one(api.RetK, 2)},
		{one(api.DivX, 0), one(api.RetA, 0)},
	} {
		want(t, fmt.Sprint(l), l, allIn)
	}
}

func TestP401HowMany(t *testing.T) {
	for _, n := range []int{1, 2, 3, 255, 256, api.MaxCode - 1, api.MaxCode} {
		want(t, fmt.Sprintf("%d", n), append(idle(n-1), one(api.RetK, 7)), allIn)
	}
	for _, n := range []int{api.MaxCode + 1, api.MaxCode + 2, 2 * api.MaxCode, 65536, 65537} {
		want(t, fmt.Sprintf("%d", n), append(idle(n-1), one(api.RetK, 7)), 0)
	}
	// That there are too many is told, whatever is refused among them.
	want(t, "too many, and a bad one", join(idle(9), one(-1, 0), idle(api.MaxCode)), 0)
	want(t, "too many, and no end", idle(api.MaxCode+1), 0)
}

// Whatever the Code, JT and JF are bytes, even if it does not jump by them.
func TestP401JTAndJF(t *testing.T) {
	for _, code := range codes() {
		k := uint32(4)
		for _, far := range []int{0, 1, 127, 128, 254, 255} {
			both(t, leap(code, k, far, 0), false)
			both(t, leap(code, k, 0, far), false)
			both(t, leap(code, k, far, far), false)
		}
		for _, far := range []int{-1, -2, -255, -256, 256, 257, 1 << 16, 1 << 32, 1<<32 + 1, -1 << 32, math.MinInt, math.MaxInt} {
			both(t, leap(code, k, far, 0), true)
			both(t, leap(code, k, 0, far), true)
			both(t, leap(code, k, far, far), true)
		}
	}
}

func TestP401Codes(t *testing.T) {
	known := codes()
	for code := -1000; code <= 70000; code++ {
		l := []api.Instr{one(api.St, 4), one(code, 4), one(api.RetK, 7), one(api.RetK, 7), one(api.RetK, 7), one(api.RetK, 7), one(api.RetK, 7)}
		w := 1
		if slices.Contains(known, code) {
			w = allIn
		}
		want(t, fmt.Sprintf("code %#x", code), l, w)
		if _, ok := checker.Stored(l); ok != (w == allIn) {
			t.Errorf("code %#x: stored: %t", code, ok)
		}
	}
	for _, code := range known {
		for bit := 8; bit < 63; bit++ {
			both(t, one(code+1<<bit, 4), true)
			both(t, one(code-1<<bit, 4), true)
		}
		both(t, one(math.MinInt+code, 4), true)
	}
	both(t, one(math.MaxInt, 4), true)
}

func TestP401LdAbs(t *testing.T) {
	for k := range uint32(300) {
		both(t, one(api.LdAbs, k), k%4 != 0 || k > 60)
	}
	for _, k := range []uint32{1 << 16, 1<<16 + 4, 1<<31 - 4, 1<<31 - 1, 1 << 31, 1<<31 + 4, math.MaxUint32 - 3, math.MaxUint32} {
		both(t, one(api.LdAbs, k), true)
	}
}

func TestP401Cells(t *testing.T) {
	for _, code := range []int{api.St, api.Stx} {
		for k := range uint32(api.Cells) {
			both(t, one(code, k), false)
		}
	}
	for _, code := range []int{api.St, api.Stx, api.LdMem, api.LdxMem} {
		for _, k := range []uint32{16, 17, 20, 31, 32, 36, 63, 64, 68, 255, 256, 260, 1 << 16, 1<<16 + 4, 1 << 31, 1<<31 + 4, math.MaxUint32} {
			both(t, one(code, k), true)
		}
	}
	// Every cell may be loaded, too, once it is stored.
	for k := range uint32(api.Cells) {
		for _, st := range []int{api.St, api.Stx} {
			for _, ld := range []int{api.LdMem, api.LdxMem} {
				want(t, fmt.Sprintf("cell %d", k), []api.Instr{one(st, k), one(ld, k), one(api.RetA, 0)}, allIn)
			}
		}
	}
}

func TestP401DivisionAndShifts(t *testing.T) {
	for _, k := range []uint32{0, 1, 2, 30, 31, 32, 33, 63, 64, 256, 1 << 16, 1 << 31, math.MaxUint32} {
		both(t, one(api.DivK, k), k == 0)
		both(t, one(api.LshK, k), k >= 32)
		both(t, one(api.RshK, k), k >= 32)
	}
}

// All others take any K.
func TestP401AnyK(t *testing.T) {
	bounded := []int{api.LdAbs, api.St, api.Stx, api.LdMem, api.LdxMem, api.DivK, api.LshK, api.RshK, api.Ja}
	for _, code := range codes() {
		if slices.Contains(bounded, code) {
			continue
		}
		for _, k := range []uint32{0, 1, 16, 32, 61, 64, 255, 256, 1 << 16, 1 << 31, math.MaxUint32} {
			both(t, one(code, k), false)
		}
	}
}

func TestP401Ja(t *testing.T) {
	for _, behind := range []int{1, 2, 3, 256, 257, 1000, api.MaxCode - 3} {
		for _, far := range []int{0, 1, behind - 2, behind - 1, behind, behind + 1, behind + 2, 256, 4095, 4096, 1 << 16, 1<<31 - 1, 1 << 31, 1<<32 - 4, 1<<32 - 3, 1<<32 - 2, 1<<32 - 1} {
			if far < 0 {
				continue
			}
			l := join(idle(2), one(api.Ja, uint32(far)), slices.Repeat([]api.Instr{one(api.RetA, 0)}, behind))
			name := fmt.Sprintf("Ja %d with %d behind", far, behind)
			if far < behind {
				want(t, name, l, allIn)
				continue
			}
			want(t, name, l, 2)
			wantNone(t, name, l)
		}
	}
}

func TestP401Jumps(t *testing.T) {
	for _, code := range jumps() {
		for _, behind := range []int{1, 2, 3, 254, 255, 256, 257} {
			for _, far := range []int{0, 1, 2, 3, 253, 254, 255} {
				for _, in := range []api.Instr{leap(code, 9, far, 0), leap(code, 9, 0, far), leap(code, 9, far, far)} {
					l := join(idle(2), in, slices.Repeat([]api.Instr{one(api.RetA, 0)}, behind))
					name := fmt.Sprintf("%+v with %d behind", in, behind)
					if far < behind {
						want(t, name, l, allIn)
						continue
					}
					want(t, name, l, 2)
					wantNone(t, name, l)
				}
			}
		}
	}
}

// The spare room is no place.
func TestP401SpareRoom(t *testing.T) {
	l := []api.Instr{one(api.St, 0), leap(api.JeqK, 0, 1, 0), one(api.RetK, 1), one(api.RetK, 2)}
	want(t, "all", l, allIn)
	want(t, "all but the last", l[:3], 1)
	want(t, "two", l[:2], 1)
	want(t, "one", l[:1], 0)
}

func TestP401TheLast(t *testing.T) {
	for _, code := range codes() {
		for _, n := range []int{1, 2, 300, api.MaxCode - 1} {
			l := join(one(api.St, 4), idle(n-1), one(code, 4))
			name := fmt.Sprintf("code %#x, the last, at %d", code, n)
			if code == api.RetK || code == api.RetA {
				want(t, name, l, allIn)
				continue
			}
			want(t, name, l, n)
			wantNone(t, name, l)
		}
		// It is the last one even where nothing comes to it.
		if code != api.RetK && code != api.RetA {
			want(t, fmt.Sprintf("code %#x behind the end", code), []api.Instr{one(api.RetK, 7), one(code, 4)}, 1)
		}
	}
	for _, code := range jumps() {
		want(t, "the only one", []api.Instr{one(code, 0)}, 0)
	}
	want(t, "the only one", []api.Instr{one(api.Ja, 0)}, 0)
	want(t, "the only one", []api.Instr{one(api.Ja, math.MaxUint32)}, 0)
}

// The first is told, whatever the reasons.
func TestP401TheFirst(t *testing.T) {
	bad := []api.Instr{one(-1, 0), leap(api.RetK, 0, 256, 0), leap(api.RetK, 0, 0, -1), one(api.LdAbs, 61), one(api.St, 16),
		one(api.LdMem, 16), one(api.DivK, 0), one(api.LshK, 32), one(api.Ja, 5000), leap(api.JeqK, 0, 200, 0), one(api.LdMem, 3)}
	for _, a := range bad {
		for _, b := range bad {
			l := []api.Instr{one(api.OrK, 0), a, one(api.OrK, 0), b, one(api.OrK, 0)}
			want(t, fmt.Sprintf("%+v ahead of %+v", a, b), l, 1)
			want(t, fmt.Sprintf("%+v at first", a), []api.Instr{a, b}, 0)
		}
		want(t, fmt.Sprintf("%+v, not come to", a), []api.Instr{one(api.RetK, 7), one(api.RetK, 7), a}, 2)
	}
}

func TestP401NotStored(t *testing.T) {
	for _, ld := range []int{api.LdMem, api.LdxMem} {
		for k := range uint32(api.Cells) {
			end := []api.Instr{one(ld, k), one(api.RetA, 0)}
			want(t, fmt.Sprintf("cell %d at first", k), end, 0)
			want(t, fmt.Sprintf("cell %d behind a load", k), join(one(api.LdImm, 3), end), 1)
			want(t, fmt.Sprintf("cell %d stored behind", k), join(one(ld, k), one(api.St, k), one(api.RetA, 0)), 0)
			// All other cells are stored.
			var head []api.Instr
			for c := range uint32(api.Cells) {
				if c != k {
					head = append(head, one(api.Stx, c))
				}
			}
			want(t, fmt.Sprintf("all but cell %d", k), join(head, end), len(head))
			want(t, fmt.Sprintf("cell %d too", k), join(head, one(api.St, k), end), allIn)
			want(t, fmt.Sprintf("cell %d, stored twice", k), join(one(api.St, k), one(api.Stx, k), end), allIn)
			// A load stores nothing.
			want(t, fmt.Sprintf("cell %d loaded twice", k), join(leap(api.JeqK, 0, 0, 1), one(api.St, k), end), 2)
		}
	}
}

func TestP401StoredOnAllWays(t *testing.T) {
	for _, code := range jumps() {
		for _, x := range []struct {
			name string
			l    []api.Instr
			w    int
		}{
			{"neither way", []api.Instr{leap(code, 0, 1, 2), one(api.RetK, 0), one(api.OrK, 0), one(api.LdMem, 3), one(api.RetA, 0)}, 3},
			{"one way", []api.Instr{leap(code, 0, 0, 1), one(api.St, 3), one(api.LdMem, 3), one(api.RetA, 0)}, 2},
			{"the other way", []api.Instr{leap(code, 0, 1, 0), one(api.St, 3), one(api.LdMem, 3), one(api.RetA, 0)}, 2},
			{"both ways", []api.Instr{leap(code, 0, 0, 2), one(api.St, 3), one(api.Ja, 1), one(api.Stx, 3), one(api.LdMem, 3), one(api.RetA, 0)}, allIn},
			{"another cell", []api.Instr{leap(code, 0, 0, 2), one(api.St, 3), one(api.Ja, 1), one(api.St, 4), one(api.LdMem, 3), one(api.RetA, 0)}, 4},
			{"ahead of it", []api.Instr{one(api.St, 3), leap(code, 0, 0, 1), one(api.LdxMem, 3), one(api.LdMem, 3), one(api.RetA, 0)}, allIn},
			{"the way without it ends", []api.Instr{leap(code, 0, 0, 1), one(api.Ja, 1), one(api.RetK, 0), one(api.St, 3), one(api.LdMem, 3), one(api.RetA, 0)}, allIn},
			{"the way that ends loads", []api.Instr{leap(code, 0, 0, 2), one(api.LdMem, 3), one(api.RetA, 0), one(api.St, 3), one(api.RetA, 0)}, 1},
			{"both at one place", []api.Instr{leap(code, 0, 1, 1), one(api.St, 3), one(api.LdMem, 3), one(api.RetA, 0)}, 2},
		} {
			want(t, fmt.Sprintf("%#x: %s", code, x.name), x.l, x.w)
		}
	}
}

// Where nothing comes all is stored, and what goes on from there brings it.
func TestP401NothingComes(t *testing.T) {
	for _, x := range []struct {
		name string
		l    []api.Instr
		w    int
	}{
		{"behind RetK", []api.Instr{one(api.RetK, 0), one(api.LdMem, 3), one(api.RetA, 0)}, allIn},
		{"behind RetA", []api.Instr{one(api.RetA, 0), one(api.LdxMem, 15), one(api.RetA, 0)}, allIn},
		{"over it", []api.Instr{one(api.Ja, 1), one(api.LdMem, 3), one(api.RetA, 0)}, allIn},
		{"over it, but on from it", []api.Instr{one(api.Ja, 1), one(api.LdMem, 3), one(api.LdMem, 4), one(api.RetA, 0)}, 2},
		{"from it, a jump", []api.Instr{one(api.RetA, 0), leap(api.JeqK, 0, 0, 1), one(api.LdMem, 3), one(api.LdMem, 4), one(api.RetA, 0)}, allIn},
		{"a bad one there", []api.Instr{one(api.RetA, 0), one(api.LdMem, 16), one(api.RetA, 0)}, 1},
	} {
		want(t, x.name, x.l, x.w)
	}
}

// What is refused behind a load changes nothing for it.
func TestP401RefusedBehind(t *testing.T) {
	for _, tail := range [][]api.Instr{
		{one(-1, 0)},
		{one(api.Ja, 100)},
		{one(api.DivK, 0), one(api.RetK, 0)},
		{leap(api.JeqK, 0, 256, 0), one(api.RetK, 0)},
		{leap(api.JeqK, 0, -4, 0), one(api.RetK, 0)},
		{one(api.St, 16), one(api.RetK, 0)},
		{one(api.LdImm, 0)},
		{one(api.LdMem, 5)},
	} {
		want(t, fmt.Sprintf("set, ahead of %+v", tail), join(one(api.St, 3), one(api.LdMem, 3), tail), 2)
		want(t, fmt.Sprintf("unset, ahead of %+v", tail), join(one(api.St, 2), one(api.LdMem, 3), tail), 1)
	}
}

func TestP402First(t *testing.T) {
	wantStored(t, "one", []api.Instr{one(api.RetK, 7)}, 0)
	wantStored(t, "RetA", []api.Instr{one(api.RetA, 7)}, 0)
	wantStored(t, "two", []api.Instr{one(api.LdImm, 7), one(api.RetA, 0)}, 0, 0)
}

func TestP402Stores(t *testing.T) {
	for k := range uint32(api.Cells) {
		for _, st := range []int{api.St, api.Stx} {
			wantStored(t, fmt.Sprintf("cell %d", k), []api.Instr{one(st, k), one(api.OrK, 0), one(st, k), one(api.RetA, 0)}, 0, 1<<k, 1<<k, 1<<k)
		}
	}
	var l []api.Instr
	var w []int
	for k := range uint32(api.Cells) {
		l = append(l, one(api.St, k))
		w = append(w, 1<<k-1)
	}
	wantStored(t, "all cells", append(l, one(api.RetK, 7)), append(w, every)...)
}

// What is none of St, Stx stores nothing, whatever its K; a cell stays stored.
func TestP402OthersStoreNothing(t *testing.T) {
	for _, code := range codes() {
		for _, k := range []uint32{4, 8, 12} {
			l := []api.Instr{one(api.St, 9), leap(code, k, 1, 1), one(api.RetK, 0), one(api.RetK, 0)}
			w := []int{0, 1 << 9, 1 << 9, every}
			switch {
			case code == api.St || code == api.Stx:
				w[2] |= 1 << k
			case code == api.RetK || code == api.RetA:
				w[2] = every
			case code == api.Ja:
				l[1].K = 1
				w[2], w[3] = every, 1<<9
			case slices.Contains(jumps(), code):
				w[2], w[3] = every, 1<<9
			}
			wantStored(t, fmt.Sprintf("code %#x, K %d", code, k), l, w...)
		}
	}
}

func TestP402Jumps(t *testing.T) {
	for _, code := range jumps() {
		l := []api.Instr{
			one(api.St, 0),
			leap(code, 0, 0, 2), // to 2 or 4
			one(api.St, 1),
			leap(code, 0, 2, 1), // to 6 or 5
			one(api.Stx, 2),
			one(api.St, 3), // from 3 and 4
			one(api.St, 4), // from 3 and 5
			one(api.RetA, 0),
			one(api.St, 5), // from nowhere
			one(api.RetA, 0),
		}
		wantStored(t, fmt.Sprintf("code %#x", code), l, 0, 1, 1, 1|2, 1, 1, 1, 1|16, every, every)
	}
}

// How far a jump goes: to just its place, and to none beside it.
func TestP402HowFar(t *testing.T) {
	rest := func(n int) []api.Instr { return slices.Repeat([]api.Instr{one(api.RetK, 0)}, n) }
	reached := func(n int, at ...int) []int {
		w := slices.Repeat([]int{every}, n)
		w[0] = 0
		for _, p := range at {
			w[p] = 2
		}
		return w
	}
	for _, far := range []int{0, 1, 2, 127, 128, 254, 255} {
		for _, other := range []int{0, 1, 200, 255} {
			for _, code := range jumps() {
				l := join(one(api.St, 1), leap(code, 0, far, other), rest(300))
				wantStored(t, fmt.Sprintf("%#x by %d, %d", code, far, other), l, reached(len(l), 1, 2+far, 2+other)...)
			}
		}
	}
	for _, far := range []int{0, 1, 255, 256, 1000, 4092, 4093} {
		l := join(one(api.St, 1), leap(api.Ja, uint32(far), 7, 9), rest(4094))
		wantStored(t, fmt.Sprintf("Ja %d", far), l, reached(len(l), 1, 2+far)...)
	}
}

func TestP402NothingComes(t *testing.T) {
	wantStored(t, "behind the end", []api.Instr{one(api.RetK, 0), one(api.RetK, 0), one(api.LdImm, 0), one(api.RetK, 0)}, 0, every, every, every)
	wantStored(t, "jumped over", []api.Instr{one(api.Ja, 2), one(api.LdImm, 0), one(api.St, 7), one(api.RetK, 0)}, 0, every, every, 0)
	wantStored(t, "on from nowhere", []api.Instr{one(api.St, 2), one(api.Ja, 1), one(api.OrK, 0), one(api.RetK, 0)}, 0, 4, every, 4)
}

// That a cell is not stored where it is loaded is no reason here.
func TestP402LoadsOfUnset(t *testing.T) {
	for _, ld := range []int{api.LdMem, api.LdxMem} {
		l := []api.Instr{one(ld, 0), one(api.St, 3), one(ld, 3), one(ld, 15), one(api.RetA, 0)}
		wantStored(t, "unset", l, 0, 0, 8, 8, 8)
		want(t, "unset", l, 0)
		wantStored(t, "jumped", []api.Instr{leap(api.JeqK, 0, 0, 1), one(api.St, 3), one(ld, 3), one(api.RetA, 0)}, 0, 0, 0, 0)
	}
}

func TestP402False(t *testing.T) {
	wantNone(t, "nothing", nil)
	wantNone(t, "an empty list", []api.Instr{})
	wantNone(t, "spare room", []api.Instr{one(api.RetK, 7)}[:0])
	for _, n := range []int{1, 2, 300, api.MaxCode - 1, api.MaxCode} {
		wantNone(t, fmt.Sprintf("no end behind %d", n), idle(n))
	}
	for _, n := range []int{api.MaxCode, api.MaxCode + 1, 3 * api.MaxCode} {
		wantNone(t, fmt.Sprintf("RetK behind %d", n), append(idle(n), one(api.RetK, 7)))
	}
	if got, ok := checker.Stored(append(idle(api.MaxCode-1), one(api.RetK, 7))); !ok || len(got) != api.MaxCode {
		t.Errorf("the most: %d, %t", len(got), ok)
	}
	// Behind a load of an unset cell, one is still refused.
	wantNone(t, "unset, then bad", []api.Instr{one(api.LdMem, 3), one(api.DivK, 0), one(api.RetA, 0)})
	wantNone(t, "bad, not come to", []api.Instr{one(api.RetK, 3), one(api.DivK, 0), one(api.RetA, 0)})
}

// wild are filters of any numbers, from a rule.
type wild uint64

func (w *wild) next(most int) int {
	*w = *w*6364136223846793005 + 1442695040888963407
	return int(uint64(*w) >> 33 % uint64(most))
}

// filter is one of which few instructions are refused, if any.
func (w *wild) filter(most int) []api.Instr {
	known := append(codes(), api.St, api.Stx, api.St, api.Stx, api.LdMem, api.LdxMem, api.JeqK, api.JgtX, api.JsetK, api.Ja)
	l := make([]api.Instr, 1+w.next(most))
	for i := range l {
		behind := len(l) - i
		l[i] = api.Instr{Code: known[w.next(len(known))], JT: w.next(min(behind, 4)), JF: w.next(min(behind, 4)), K: uint32(w.next(4))}
		switch l[i].Code {
		case api.LdAbs:
			l[i].K = uint32(w.next(16) * 4)
		case api.DivK:
			l[i].K++
		case api.Ja:
			l[i].K = uint32(w.next(min(behind, 3)))
		case api.RetK, api.RetA:
			if w.next(3) > 0 {
				l[i].Code = api.Txa
			}
		}
		if w.next(60) == 0 {
			l[i].K = uint32(w.next(70))
		}
		if w.next(100) == 0 {
			l[i].Code = w.next(256)
		}
	}
	l[len(l)-1].Code = api.RetA
	return l
}

// byPaths tells what is stored by going all ways from the first on, one by one.
func byPaths(l []api.Instr) []int {
	w := slices.Repeat([]int{every}, len(l))
	var walk func(i, has int)
	walk = func(i, has int) {
		w[i] &= has
		in := l[i]
		switch {
		case in.Code == api.RetK, in.Code == api.RetA:
		case in.Code == api.Ja:
			walk(i+1+int(in.K), has)
		case slices.Contains(jumps(), in.Code):
			walk(i+1+in.JT, has)
			walk(i+1+in.JF, has)
		case in.Code == api.St, in.Code == api.Stx:
			walk(i+1, has|1<<in.K)
		default:
			walk(i+1, has)
		}
	}
	walk(0, 0)
	return w
}

// Check and Stored, held against all ways gone one by one.
func TestP402AllWays(t *testing.T) {
	w := wild(402)
	letIn, unset := 0, 0
	for range 60000 {
		l := w.filter(16)
		stored, ok := checker.Stored(l)
		n, all := checker.Check(l)
		if !ok {
			if all || len(stored) != 0 {
				t.Fatalf("%v: %d, %t beside %x", l, n, all, stored)
			}
			continue
		}
		if p := byPaths(l); !slices.Equal(stored, p) {
			t.Fatalf("%v: %x, not %x", l, stored, p)
		}
		first := slices.IndexFunc(seq(len(l)), func(i int) bool {
			return (l[i].Code == api.LdMem || l[i].Code == api.LdxMem) && stored[i]>>l[i].K&1 == 0
		})
		if n != first || all != (first < 0) {
			t.Fatalf("%v: %d, %t, not %d", l, n, all, first)
		}
		if all {
			letIn++
		} else {
			unset++
		}
	}
	if letIn < 1000 || unset < 1000 {
		t.Errorf("too few: %d let in, %d with a cell unset", letIn, unset)
	}
}

// seq is 0 to n - 1.
func seq(n int) []int {
	l := make([]int, n)
	for i := range l {
		l[i] = i
	}
	return l
}

// datas are some that filters may look at.
func datas() []api.Data {
	return []api.Data{{}, {Nr: 59, Arch: 0xC000003E, IP: 1 << 63, Args: [6]uint64{0: 1<<32 + 2, 2: 7, 5: math.MaxUint64}},
		{Nr: math.MaxUint32, Arch: 1, IP: math.MaxUint64, Args: [6]uint64{1, 2, 3, 4, 5, 6}}}
}

func TestP403LetInNeverFaults(t *testing.T) {
	w := wild(403)
	letIn := 0
	for range 30000 {
		l := w.filter(60)
		if _, ok := checker.Check(l); !ok {
			continue
		}
		letIn++
		for _, d := range datas() {
			if n, steps, ok := machine.Run(l, d); !ok || steps < 1 || steps > len(l) {
				t.Fatalf("%v: %d, %d, %t", l, n, steps, ok)
			}
		}
	}
	if letIn < 1000 {
		t.Errorf("too few: %d let in", letIn)
	}
	longest := append(idle(api.MaxCode-1), one(api.RetK, 7))
	if _, ok := checker.Check(longest); !ok {
		t.Error("the longest is refused")
	}
	if n, steps, ok := machine.Run(longest, api.Data{}); n != 7 || steps != api.MaxCode || !ok {
		t.Errorf("the longest: %d, %d, %t", n, steps, ok)
	}
}

// sample is filters let in, and refused, at many places.
func sample() [][]api.Instr {
	all := [][]api.Instr{nil, {one(api.RetK, 7)}, {one(api.DivK, 0)}, {one(api.St, 3), one(api.LdMem, 3), one(api.RetA, 0)},
		{one(api.LdMem, 3), one(api.RetA, 0)}, append(idle(api.MaxCode-1), one(api.RetK, 7)), idle(api.MaxCode + 1)}
	w := wild(3)
	for range 60 {
		all = append(all, w.filter(20))
	}
	return all
}

// answers are those of both calls.
type answers struct {
	n      int
	in     bool
	stored string
	ok     bool
}

func ask(l []api.Instr) answers {
	n, in := checker.Check(l)
	stored, ok := checker.Stored(l)
	return answers{n, in, fmt.Sprint(stored), ok}
}

func TestP403HandedInStays(t *testing.T) {
	for _, x := range sample() {
		room := append(slices.Clone(x), one(api.RetK, 9), one(api.RetK, 9))[:len(x)]
		all := slices.Clone(room[:cap(room)])
		if got, w := ask(room), ask(x); got != w {
			t.Errorf("%v: %v with spare room, %v without", x, got, w)
		}
		if !slices.Equal(room[:cap(room)], all) {
			t.Errorf("%v became %v", all, room[:cap(room)])
		}
	}
}

// The same memory with another filter in it is another filter.
func TestP403NotKept(t *testing.T) {
	l := []api.Instr{one(api.St, 0), one(api.LdMem, 5), one(api.RetA, 0)}
	for range 3 {
		for k := range uint32(api.Cells) {
			l[0].K = k
			w := 1
			if k == 5 {
				w = allIn
			}
			want(t, fmt.Sprintf("cell %d", k), l, w)
			wantStored(t, fmt.Sprintf("cell %d", k), l, 0, 1<<k, 1<<k)
		}
	}
}

func TestP403NewMemory(t *testing.T) {
	for _, l := range sample() {
		a, ok := checker.Stored(l)
		if !ok {
			continue
		}
		w := slices.Clone(a)
		b, _ := checker.Stored(l)
		for i := range a[:cap(a)] {
			a[:cap(a)][i] = -1
		}
		if c, _ := checker.Stored(l); !slices.Equal(b, w) || !slices.Equal(c, w) {
			t.Fatalf("%v: %v and %v, not %v", l, b, c, w)
		}
	}
}

// What was asked before is nothing to a call.
func TestP403ArgumentsAlone(t *testing.T) {
	all := sample()
	first := make([]answers, len(all))
	for i, l := range all {
		first[i] = ask(l)
	}
	for _, before := range all {
		for j, l := range all {
			checker.Check(before)
			checker.Stored(before)
			if len(before) > 100 && len(l) > 100 {
				continue
			}
			if n, ok := checker.Check(l); n != first[j].n || ok != first[j].in {
				t.Fatalf("%v behind %v: %d, %t, not %v", l, before, n, ok, first[j])
			}
			if s, ok := checker.Stored(l); fmt.Sprint(s) != first[j].stored || ok != first[j].ok {
				t.Fatalf("%v behind %v: %v, %t, not %v", l, before, s, ok, first[j])
			}
		}
	}
}

func TestP403Together(t *testing.T) {
	all := sample()
	first := make([]answers, len(all))
	for i, l := range all {
		first[i] = ask(l)
	}
	var group sync.WaitGroup
	for range 8 {
		group.Go(func() {
			for i, l := range all {
				if got := ask(l); got != first[i] {
					t.Errorf("%v: %v, not %v", l, got, first[i])
				}
			}
		})
	}
	group.Wait()
}

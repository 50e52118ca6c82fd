package calls_test

import (
	"math"
	"reflect"
	"slices"
	"strconv"
	"strings"
	"sync"
	"testing"

	"tipstaff/api"
	"tipstaff/calls"
)

// table is the chapter's, letter by letter.
const table = `
| brk | addr | 12 | 45 | 214 |
| close | fd | 3 | 6 | 57 |
| dup | fd | 32 | 41 | 23 |
| exit | code | 60 | 1 | 93 |
| exit_group | code | 231 | 252 | 94 |
| getpid | | 39 | 20 | 172 |
| ioctl | fd, request, arg | 16 | 54 | 29 |
| kill | pid, sig | 62 | 37 | 129 |
| mmap | addr, len, prot, flags, fd, off | 9 | 90 | 222 |
| mprotect | addr, len, prot | 10 | 125 | 226 |
| munmap | addr, len | 11 | 91 | 215 |
| open | path, flags, mode | 2 | 5 | |
| openat | dir, path, flags, mode | 257 | 295 | 56 |
| prctl | option, a, b, c, d | 157 | 172 | 167 |
| read | fd, buf, count | 0 | 3 | 63 |
| socket | family, type, protocol | 41 | 359 | 198 |
| write | fd, buf, count | 1 | 4 | 64 |
`

// columns are the places of the architectures in the table.
var columns = map[string]int{"x86_64": 2, "i386": 3, "aarch64": 4}

// want are the architecture's calls, read from the table.
func want(arch string) []api.Call {
	var out []api.Call
	column, ok := columns[arch]
	if !ok {
		return nil
	}
	for line := range strings.Lines(strings.TrimSpace(table)) {
		cells := strings.Split(strings.Trim(strings.TrimSpace(line), "|"), "|")
		for i := range cells {
			cells[i] = strings.TrimSpace(cells[i])
		}
		n, err := strconv.ParseUint(cells[column], 10, 32)
		if err != nil {
			continue
		}
		c := api.Call{Name: cells[0], Nr: uint32(n)}
		if cells[1] != "" {
			c.Params = strings.Split(cells[1], ", ")
		}
		out = append(out, c)
	}
	return out
}

// same is whether two calls are one; no list and an empty one are the same.
func same(a, b api.Call) bool {
	return a.Name == b.Name && a.Nr == b.Nr && slices.Equal(a.Params, b.Params)
}

// arches are the names of all architectures.
func arches() []string { return []string{"aarch64", "i386", "x86_64"} }

// wrong are texts that are the names of nothing.
func wrong() []string {
	return []string{
		"", " ", "\x00", "x86", "x86_64 ", " x86_64", "X86_64", "x86-64", "x86_64\x00", "x86_6", "x86_644", "amd64", "I386", "i38", "i386\n",
		"i486", "i686", "386", "arm64", "aarch6", "aarch64_be", "AARCH64", "Aarch64", "arm", "riscv64", "0xC000003E", "3221225534",
		"rea", "readv", "READ", "Read", " read", "read ", "read\n", "read\x00", "sys_read", "exit_", "exit-group", "exit_grou", "exitgroup",
		"openat2", "opena", "fork", "execve", "none", "-1", "addr", "fd", "fd, buf, count", "|", "name", "params", "\xff", "\u0440ead",
		strings.Repeat("x", 100000),
	}
}

func TestP701Arches(t *testing.T) {
	if got := calls.Arches(); !slices.Equal(got, arches()) {
		t.Errorf("%q", got)
	}
}

func TestP701Number(t *testing.T) {
	for arch, w := range map[string]uint32{"aarch64": 0xC00000B7, "i386": 0x40000003, "x86_64": 0xC000003E} {
		if got, ok := calls.Number(arch); !ok || got != w {
			t.Errorf("%s: %x, %v", arch, got, ok)
		}
	}
}

func TestP701NumberOfNone(t *testing.T) {
	for _, arch := range append(wrong(), "read", "open", "mmap") {
		if got, ok := calls.Number(arch); ok || got != 0 {
			t.Errorf("%.20q: %x, %v", arch, got, ok)
		}
	}
}

func TestP701All(t *testing.T) {
	for arch, n := range map[string]int{"aarch64": 16, "i386": 17, "x86_64": 17} {
		got := calls.All(arch)
		if len(got) != n || !slices.EqualFunc(got, want(arch), same) {
			t.Errorf("%s: %v, not %v", arch, got, want(arch))
		}
		byName := func(a, b api.Call) int { return strings.Compare(a.Name, b.Name) }
		if !slices.IsSortedFunc(got, byName) {
			t.Errorf("%s: not by Name: %v", arch, got)
		}
	}
}

func TestP701AllOfNone(t *testing.T) {
	for _, arch := range append(wrong(), "read", "open", "mmap") {
		if got := calls.All(arch); len(got) != 0 {
			t.Errorf("%.20q: %v", arch, got)
		}
	}
}

func TestP701Find(t *testing.T) {
	for _, arch := range arches() {
		for _, w := range want(arch) {
			if got, ok := calls.Find(arch, w.Name); !ok || !same(got, w) {
				t.Errorf("%s, %s: %v, %v, not %v", arch, w.Name, got, ok, w)
			}
		}
	}
}

// wantNone holds that there is no such call.
func wantNone(t *testing.T, arch, name string) {
	t.Helper()
	got, ok := calls.Find(arch, name)
	if ok || !same(got, api.Call{}) {
		t.Errorf("%.20q, %.20q: %v, %v", arch, name, got, ok)
	}
}

func TestP701FindNone(t *testing.T) {
	wantNone(t, "aarch64", "open")
	for _, x := range append(wrong(), "aarch64", "i386", "x86_64") {
		for _, arch := range arches() {
			wantNone(t, arch, x)
			wantNone(t, x+arch+"_", "read")
		}
	}
	for _, x := range wrong() {
		for _, c := range want("x86_64") {
			wantNone(t, x, c.Name)
			wantNone(t, c.Name, "x86_64")
		}
		for _, y := range wrong() {
			wantNone(t, x, y)
		}
	}
}

// A call has no more params than a filter sees, none twice, and no number twice.
func TestP701Whole(t *testing.T) {
	for _, arch := range calls.Arches() {
		numbers := map[uint32]string{}
		for _, c := range calls.All(arch) {
			if was, ok := numbers[c.Nr]; ok {
				t.Errorf("%s: %s and %s have one number", arch, was, c.Name)
			}
			numbers[c.Nr] = c.Name
			params := slices.Sorted(slices.Values(c.Params))
			if len(slices.Compact(params)) != len(c.Params) || len(params) > 6 {
				t.Errorf("%s, %s: %v", arch, c.Name, c.Params)
			}
		}
	}
}

func TestP702Value(t *testing.T) {
	rows := []struct {
		a api.Action
		w uint32
	}{
		{api.Action{Kind: api.KillProcess}, 0x80000000},
		{api.Action{Kind: api.KillThread}, 0},
		{api.Action{Kind: api.Trap}, 0x00030000},
		{api.Action{Kind: api.Trap, Data: 1}, 0x00030001},
		{api.Action{Kind: api.Trap, Data: 65535}, 0x0003FFFF},
		{api.Action{Kind: api.Error}, 0x00050000},
		{api.Action{Kind: api.Error, Data: 38}, 0x00050026},
		{api.Action{Kind: api.Error, Data: 65535}, 0x0005FFFF},
		{api.Action{Kind: api.Trace}, 0x7FF00000},
		{api.Action{Kind: api.Trace, Data: 256}, 0x7FF00100},
		{api.Action{Kind: api.Trace, Data: 65535}, 0x7FF0FFFF},
		{api.Action{Kind: api.Log}, 0x7FFC0000},
		{api.Action{Kind: api.Allow}, 0x7FFF0000},
	}
	for _, x := range rows {
		if got, ok := calls.Value(x.a); !ok || got != x.w {
			t.Errorf("%v: %x, %v, not %x", x.a, got, ok, x.w)
		}
	}
}

func TestP702EachData(t *testing.T) {
	bases := map[int]uint32{api.Trap: 0x00030000, api.Error: 0x00050000, api.Trace: 0x7FF00000}
	for kind, base := range bases {
		for data := range 65536 {
			if got, ok := calls.Value(api.Action{Kind: kind, Data: data}); !ok || got != base+uint32(data) {
				t.Fatalf("%d, %d: %x, %v", kind, data, got, ok)
			}
		}
	}
}

// wantNoValue holds that there is no such action.
func wantNoValue(t *testing.T, kind, data int) {
	t.Helper()
	if got, ok := calls.Value(api.Action{Kind: kind, Data: data}); ok || got != 0 {
		t.Errorf("%d, %d: %x, %v", kind, data, got, ok)
	}
}

// odd are numbers that no action has.
func odd() []int {
	return []int{
		-1, -2, -65535, -65536, -65537, 65536, 65537, 131071, 131072, 0x30000, math.MinInt32, math.MinInt32 + 1, math.MaxInt32,
		math.MinInt, math.MinInt + 1, math.MaxInt, math.MaxInt - 1, math.MinInt + 65535,
	}
}

func TestP702WrongData(t *testing.T) {
	for _, kind := range []int{api.Trap, api.Error, api.Trace} {
		for _, data := range odd() {
			wantNoValue(t, kind, data)
		}
	}
	for _, kind := range []int{api.KillProcess, api.KillThread, api.Log, api.Allow} {
		for _, data := range append(odd(), 1, 2, 38, 255, 256, 65534, 65535) {
			wantNoValue(t, kind, data)
		}
	}
}

func TestP702WrongKind(t *testing.T) {
	for _, kind := range append(odd(), 0, 8, 9, 10, 255, 256, 257, 263) {
		for _, data := range append(odd(), 0, 1, 65535) {
			wantNoValue(t, kind, data)
		}
	}
}

// spoil turns all of what was answered, its spare room too.
func spoil(l []string) {
	for i := range l[:cap(l)] {
		l[:cap(l)][i] = "spoilt"
	}
}

func spoilCalls(l []api.Call) {
	for i := range l {
		spoil(l[i].Params)
	}
	for i := range l[:cap(l)] {
		l[:cap(l)][i] = api.Call{Name: "spoilt", Nr: 7}
	}
}

// An answer is new memory: what is done to one is nothing to another.
func TestP703NewMemory(t *testing.T) {
	kept, keptAll := calls.Arches(), calls.All("i386")
	one, _ := calls.Find("i386", "mmap")
	for range 3 {
		spoil(calls.Arches())
		for _, arch := range arches() {
			spoilCalls(calls.All(arch))
			for _, w := range want(arch) {
				c, _ := calls.Find(arch, w.Name)
				spoil(c.Params)
			}
		}
		check(t)
	}
	w := want("i386")
	if !slices.Equal(kept, arches()) || !slices.EqualFunc(keptAll, w, same) || !same(one, w[8]) {
		t.Errorf("turned: %v, %v, %v", kept, keptAll, one)
	}
}

// Each list of an answer is its own.
func TestP703ListsOfTheirOwn(t *testing.T) {
	for _, arch := range arches() {
		all := calls.All(arch)
		for i := range all {
			spoil(append(all[i].Params, "more"))
			spoil(all[i].Params)
			all[i].Params = want(arch)[i].Params
			if !slices.EqualFunc(all, want(arch), same) {
				t.Fatalf("%s: call %d is not alone: %v", arch, i, all)
			}
		}
	}
}

// check holds all calls against the chapter.
func check(t *testing.T) {
	t.Helper()
	if !slices.Equal(calls.Arches(), arches()) {
		t.Errorf("Arches: %v", calls.Arches())
	}
	for _, arch := range arches() {
		w := want(arch)
		if !slices.EqualFunc(calls.All(arch), w, same) {
			t.Errorf("All of %s: %v", arch, calls.All(arch))
		}
		for _, c := range w {
			if got, ok := calls.Find(arch, c.Name); !ok || !same(got, c) {
				t.Errorf("%s, %s: %v, %v", arch, c.Name, got, ok)
			}
		}
	}
	if n, ok := calls.Number("x86_64"); !ok || n != 0xC000003E {
		t.Errorf("Number: %x, %v", n, ok)
	}
	if n, ok := calls.Value(api.Action{Kind: api.Error, Data: 1}); !ok || n != 0x00050001 {
		t.Errorf("Value: %x, %v", n, ok)
	}
}

// What was asked before, wrong things too, is nothing to an answer.
func TestP703ArgumentsAlone(t *testing.T) {
	for _, x := range wrong() {
		calls.Number(x)
		calls.All(x)
		calls.Find(x, "read")
		calls.Find("x86_64", x)
		calls.Value(api.Action{Kind: len(x), Data: -1})
		check(t)
	}
	for range 20 {
		if a, b := calls.All("aarch64"), calls.All("aarch64"); !reflect.DeepEqual(a, b) {
			t.Errorf("two answers: %v, %v", a, b)
		}
	}
}

func TestP703Together(t *testing.T) {
	var group sync.WaitGroup
	for range 8 {
		group.Go(func() {
			for range 50 {
				spoilCalls(calls.All("x86_64"))
				check(t)
			}
		})
	}
	group.Wait()
}

package files_test

import (
	"slices"
	"strings"
	"sync"
	"testing"
	"unsafe"

	"tipstaff/api"
	"tipstaff/files"
)

// parts are the parts of a path between `/`, told byte by byte.
func parts(path string) []string {
	out := []string{""}
	for i := range len(path) {
		if path[i] == '/' {
			out = append(out, "")
		} else {
			out[len(out)-1] += path[i : i+1]
		}
	}
	return out
}

// cleaned tells what is left of parts: all that are empty or `.` are taken first, then each `..`, the first one first.
func cleaned(l []string) (string, bool) {
	l = slices.DeleteFunc(slices.Clone(l), func(s string) bool { return s == "" || s == "." })
	for {
		i := slices.Index(l, "..")
		if i == 0 {
			return "", false
		}
		if i < 0 {
			break
		}
		l = slices.Delete(l, i-1, i+1)
	}
	return strings.Join(l, "/"), len(l) > 0
}

// joined tells what from calls path.
func joined(from, path string) (string, bool) {
	if path != "" && path[0] == '/' {
		return cleaned(parts(path))
	}
	l := parts(from)
	return cleaned(append(l[:len(l)-1], parts(path)...))
}

// found tells the first file of that path.
func found(l []api.File, path string) (int, bool) {
	want, ok := cleaned(parts(path))
	for i, f := range l {
		if got, is := cleaned(parts(f.Path)); ok && is && got == want {
			return i, true
		}
	}
	return 0, false
}

func wantClean(t *testing.T, path, want string, ok bool) {
	t.Helper()
	if got, is := files.Clean(path); got != want || is != ok {
		t.Errorf("Clean of %.60q: %.60q, %v, not %.60q, %v", path, got, is, want, ok)
	}
}

func wantJoin(t *testing.T, from, path, want string, ok bool) {
	t.Helper()
	if got, is := files.Join(from, path); got != want || is != ok {
		t.Errorf("Join of %.60q, %.60q: %.60q, %v, not %.60q, %v", from, path, got, is, want, ok)
	}
}

func wantFind(t *testing.T, l []api.File, path string, want int, ok bool) {
	t.Helper()
	if got, is := files.Find(l, path); got != want || is != ok {
		t.Errorf("Find in %q of %.60q: %d, %v, not %d, %v", paths(l), path, got, is, want, ok)
	}
}

func paths(l []api.File) []string {
	var out []string
	for _, f := range l {
		out = append(out, f.Path)
	}
	return out
}

// table is a table of files of these paths.
func table(paths ...string) []api.File {
	var out []api.File
	for _, p := range paths {
		out = append(out, api.File{Path: p, Text: "text of " + p})
	}
	return out
}

// check holds all calls against what the chapter says.
func check(t *testing.T, from, path string) {
	t.Helper()
	want, ok := cleaned(parts(path))
	wantClean(t, path, want, ok)
	want, ok = joined(from, path)
	wantJoin(t, from, path, want, ok)
	l := table("", "..", from, path, "a")
	for n := range len(l) {
		want, ok := found(l[:n+1], path)
		wantFind(t, l[:n+1], path, want, ok)
	}
}

// small are all paths of up to n bytes, of `/`, `.` and `a`.
func small(n int) []string {
	out := []string{""}
	for from := 0; len(out[from]) < n; from++ {
		out = append(out, out[from]+"/", out[from]+".", out[from]+"a")
	}
	return out
}

func TestP801Clean(t *testing.T) {
	wantClean(t, "a/./b/../c", "a/c", true)
	wantClean(t, "a", "a", true)
	wantClean(t, "/a", "a", true)
	wantClean(t, "a/", "a", true)
	wantClean(t, "//a///b//", "a/b", true)
	wantClean(t, "./a/.", "a", true)
	wantClean(t, "a/b/../../c", "c", true)
	wantClean(t, "a/b/c/../../d", "a/d", true)
	wantClean(t, "a/../b/../c", "c", true)
	wantClean(t, "aa/bb/../cc", "aa/cc", true)
	wantClean(t, "a/b/c/d/..", "a/b/c", true)
	wantClean(t, "policies/base.policy", "policies/base.policy", true)
}

// A `..` takes the one that is ahead of it when what is empty or `.` is gone.
func TestP801CleanAcross(t *testing.T) {
	wantClean(t, "a/b/./..", "a", true)
	wantClean(t, "a/b//..", "a", true)
	wantClean(t, "a/b/././//./../c", "a/c", true)
	wantClean(t, "a/./../b", "b", true)
	wantClean(t, "a//../b", "b", true)
}

func TestP801CleanNoneAhead(t *testing.T) {
	for _, path := range []string{"..", "/..", "./..", "//..", "../a", "/../a", "./../a", "a/../..", "a/../../b", "a/b/../../../c", "../..", "../../a/b", "a/./../../b", "a//../../b"} {
		wantClean(t, path, "", false)
	}
}

func TestP801CleanNothingLeft(t *testing.T) {
	for _, path := range []string{"", "/", "//", ".", "./", "/.", "./.", "/././/", "a/..", "/a/../", "a/b/../..", "a/../b/..", "a/./.."} {
		wantClean(t, path, "", false)
	}
}

// Only `/` parts a path, and only the parts `.` and `..` are any special.
func TestP801CleanPlainParts(t *testing.T) {
	for _, path := range []string{
		"...", "....", "..a", "a..", ".a", "a.", "a.b", ".../a", "a/...", "a/..b", "a/.b", " ", " .", ".. ", " ..", "a/ ../b", "\t", "\n", "a\n/..\n",
		`a\b`, `..\a`, `a\..\b`, "C:", "a:b", "~", "*", "\x00", "a\x00/\x00", ".\x00", "\xff", "\xff/\xc0\xaf", "\u00e9/\u4e16", "e\u0301", "A/a", "\uff0f", "\u2025/\u2024", "%2e%2e", "a/b",
	} {
		wantClean(t, path, path, true)
	}
	wantClean(t, ".../..", "", false)
	wantClean(t, "a/..a/..", "a", true)
	wantClean(t, "a/ /..", "a", true)
	wantClean(t, "a/\x00/..", "a", true)
}

func TestP801CleanEach(t *testing.T) {
	for _, path := range small(10) {
		want, ok := cleaned(parts(path))
		wantClean(t, path, want, ok)
	}
}

// What is clean stays as it is.
func TestP801CleanAgain(t *testing.T) {
	for _, path := range small(8) {
		if once, ok := files.Clean(path); ok {
			wantClean(t, once, once, true)
			wantClean(t, "/"+once+"/", once, true)
			wantClean(t, once+"/x/..", once, true)
		}
	}
}

func TestP801Join(t *testing.T) {
	wantJoin(t, "a/b", "c", "a/c", true)
	wantJoin(t, "a/b", "/c", "c", true)
	wantJoin(t, "a/b", "./c", "a/c", true)
	wantJoin(t, "a/b", "../c", "c", true)
	wantJoin(t, "a/b", "../../c", "", false)
	wantJoin(t, "a/b/c", "../../d", "d", true)
	wantJoin(t, "a", "b", "b", true)
	wantJoin(t, "a", "../b", "", false)
	wantJoin(t, "a", "b/c", "b/c", true)
	wantJoin(t, "/a", "b", "b", true)
	wantJoin(t, "/a/b", "c", "a/c", true)
	wantJoin(t, "/a/b", "../../c", "", false)
	wantJoin(t, "a/./b/../c", "d", "a/d", true)
	wantJoin(t, "a/b", "a/b", "a/a/b", true)
}

// A path from `/` on is nothing to from.
func TestP801JoinFromTheRoot(t *testing.T) {
	for _, from := range append(small(4), "..", "../..", "a/b/c", "../../a") {
		wantJoin(t, from, "/", "", false)
		wantJoin(t, from, "//", "", false)
		wantJoin(t, from, "/c", "c", true)
		wantJoin(t, from, "//c/./d", "c/d", true)
		wantJoin(t, from, "/../c", "", false)
		wantJoin(t, from, "/..", "", false)
	}
}

// The last part of from goes, whatever it is: also an empty one, `.` and `..`.
func TestP801JoinLastPart(t *testing.T) {
	wantJoin(t, "", "c", "c", true)
	wantJoin(t, "/", "c", "c", true)
	wantJoin(t, ".", "c", "c", true)
	wantJoin(t, "..", "c", "c", true)
	wantJoin(t, "a/", "c", "a/c", true)
	wantJoin(t, "a/.", "c", "a/c", true)
	wantJoin(t, "a/..", "c", "a/c", true)
	wantJoin(t, "a/b//", "c", "a/b/c", true)
	wantJoin(t, "a/b//", "../c", "a/c", true)
	wantJoin(t, "../a", "c", "", false)
	wantJoin(t, "../a", "../c", "", false)
	wantJoin(t, "a/../../b", "c", "", false)
}

// A path that says nothing leaves the parts of from; if there are none, there is nothing.
func TestP801JoinOfNothing(t *testing.T) {
	for _, path := range []string{"", ".", "./", "x/.."} {
		wantJoin(t, "a/b/c", path, "a/b", true)
		wantJoin(t, "a", path, "", false)
		wantJoin(t, "/a", path, "", false)
		wantJoin(t, "", path, "", false)
	}
	wantJoin(t, "a/b/c", "..", "a", true)
	wantJoin(t, "a/b", "..", "", false)
	wantJoin(t, "a", "..", "", false)
}

func TestP801JoinEach(t *testing.T) {
	l := small(5)
	for _, from := range l {
		for _, path := range l {
			want, ok := joined(from, path)
			wantJoin(t, from, path, want, ok)
		}
	}
}

func TestP801Find(t *testing.T) {
	l := table("main", "lib/base", "/lib/./net", "a/../b", "lib//base", "MAIN")
	wantFind(t, l, "main", 0, true)
	wantFind(t, l, "/main", 0, true)
	wantFind(t, l, "lib/../main", 0, true)
	wantFind(t, l, "lib/base", 1, true)
	wantFind(t, l, "lib//base", 1, true)
	wantFind(t, l, "lib/net", 2, true)
	wantFind(t, l, "b", 3, true)
	wantFind(t, l, "MAIN", 5, true)
	for _, path := range []string{"a", "lib", "base", "net", "mai", "main2", "main/main", "lib/base/net", "Main", "text of main"} {
		wantFind(t, l, path, 0, false)
	}
}

func TestP801FindFirst(t *testing.T) {
	l := table("x", "b", "./b", "a/../b", "b")
	wantFind(t, l, "b", 1, true)
	wantFind(t, l, "a/../b", 1, true)
	wantFind(t, l[2:], "b", 0, true)
	wantFind(t, l[3:], "b", 0, true)
	wantFind(t, table("", "..", "/", "b/..", "b"), "b", 4, true)
}

// A path that has no Clean is that of no file, though a file has just that path.
func TestP801FindOfNone(t *testing.T) {
	none := []string{"", "/", ".", "..", "../a", "a/..", "a/../.."}
	for _, path := range none {
		wantFind(t, table(none...), path, 0, false)
		wantFind(t, table("a", path), path, 0, false)
	}
	wantFind(t, table(none...), "a", 0, false)
	wantFind(t, nil, "a", 0, false)
	wantFind(t, []api.File{}, "a", 0, false)
	wantFind(t, nil, "", 0, false)
	wantFind(t, make([]api.File, 3), "", 0, false)
}

func TestP801FindEach(t *testing.T) {
	l := small(4)
	all := table(l...)
	slices.Reverse(all)
	for _, path := range l {
		n, ok := found(all, path)
		wantFind(t, all, path, n, ok)
		for _, other := range l {
			n, ok := found(table(other), path)
			wantFind(t, table(other), path, n, ok)
		}
	}
}

// What Join answers is found as what it is.
func TestP801FindOfJoin(t *testing.T) {
	l := table("main", "lib/base", "lib/more/net")
	path, ok := files.Join(l[2].Path, "../base")
	if n, is := files.Find(l, path); n != 1 || !ok || !is {
		t.Errorf("%q: %d", path, n)
	}
	path, ok = files.Join(l[1].Path, "more/../../main")
	if n, is := files.Find(l, path); n != 0 || !ok || !is {
		t.Errorf("%q: %d", path, n)
	}
}

// chance makes numbers, from a rule.
type chance uint64

func (c *chance) next(most int) int {
	*c = *c*6364136223846793005 + 1442695040888963407
	return int(uint64(*c) >> 33 % uint64(most))
}

// path makes some path.
func (c *chance) path() string {
	some := []string{"", ".", "..", "...", "a", "b", "ab", ".a", "a.", "\xff", "\u4e16", "a b", "..a"}
	var out strings.Builder
	for range c.next(12) {
		if c.next(8) > 0 {
			out.WriteByte('/')
		}
		if c.next(20) == 0 {
			out.WriteByte(byte(c.next(256)))
		}
		out.WriteString(some[c.next(len(some))])
	}
	return out.String()
}

func TestP801Any(t *testing.T) {
	c := chance(8)
	for range 50000 {
		check(t, c.path(), c.path())
	}
}

func TestP801Long(t *testing.T) {
	const n = 300000
	deep := strings.Repeat("a/", n)
	wantClean(t, deep, deep[:2*n-1], true)
	wantClean(t, deep+strings.Repeat("../", n-1), "a", true)
	wantClean(t, deep+strings.Repeat("../", n), "", false)
	wantClean(t, deep+strings.Repeat("../", n)+"b", "b", true)
	wantClean(t, deep+strings.Repeat("../", n+1)+"b", "", false)
	wantClean(t, strings.Repeat("a/../", n)+"b", "b", true)
	wantClean(t, strings.Repeat("/", n)+"b"+strings.Repeat("/.", n), "b", true)
	long := strings.Repeat("x", n)
	wantClean(t, long+"/"+long+"/../y", long+"/y", true)
	wantClean(t, long+strings.Repeat("/y/..", n), long, true)
	wantJoin(t, deep+"z", strings.Repeat("../", n)+long, long, true)
	wantJoin(t, deep+"z", strings.Repeat("../", n+1)+long, "", false)
	wantFind(t, table(deep, long, long+"/"+deep+".."), long+"/"+deep+"./..", 2, true)
}

func TestP802HandedInStays(t *testing.T) {
	room := table("a", "./b", "c/../b", "", "../x", "spare", "./spare")
	was := slices.Clone(room)
	for _, path := range []string{"a", "b", "./b", "none", "", "..", "spare", "c/../spare"} {
		files.Find(room[:5], path)
		if !slices.Equal(room, was) {
			t.Fatalf("Find of %q: %q", path, paths(room))
		}
	}
	wantFind(t, room[:5], "spare", 0, false)
}

// A table, and bytes, that are used again for others are nothing to an answer.
func TestP802NotKept(t *testing.T) {
	l := table("a", "b", "c")
	b := []byte("a/./b")
	for range 50 {
		for i := range l {
			wantFind(t, l, "d", 0, false)
			l[i].Path = "x/../d"
			wantFind(t, l, "d", i, true)
			l[i].Path = string(rune('a' + i))
		}
		for k := range b {
			was := b[k]
			for _, to := range []byte("/.a") {
				b[k] = to
				check(t, string(b), string(b[k:]))
			}
			b[k] = was
		}
	}
}

// meet is whether two texts share bytes.
func meet(a, b string) bool {
	if a == "" || b == "" {
		return false
	}
	x, y := uintptr(unsafe.Pointer(unsafe.StringData(a))), uintptr(unsafe.Pointer(unsafe.StringData(b)))
	return x < y+uintptr(len(b)) && y < x+uintptr(len(a))
}

// An answer is no piece of an argument, also where it has the same bytes.
func TestP802NewMemory(t *testing.T) {
	for _, path := range []string{"abc", "/abc", "abc/", "a/b/c", "./a/b", "a/b/.", "x/../abc/d", "aa/bb"} {
		if got, _ := files.Clean(path); meet(got, path) {
			t.Errorf("Clean of %q", path)
		}
		for _, from := range []string{"", "abc", "/", "aa/bb/cc"} {
			got, _ := files.Join(from, path)
			if meet(got, from) || meet(got, path) {
				t.Errorf("Join of %q, %q", from, path)
			}
			got, _ = files.Join(path, "")
			if meet(got, path) {
				t.Errorf("Join of %q and nothing", path)
			}
		}
	}
}

// What was asked before, wrong things too, is nothing to an answer; nor are the texts of files.
func TestP802ArgumentsAlone(t *testing.T) {
	l := append(small(3), "a/b/c", "../..", "a/../b")
	for _, before := range l {
		for _, path := range l {
			files.Clean(before)
			files.Join(before, path)
			files.Find(table(before), path)
			check(t, before, path)
			check(t, "x/y", path)
		}
	}
	a, b := table("a", "b"), table("a", "b")
	b[0].Text, b[1].Text = "", "a"
	wantFind(t, a, "b", 1, true)
	wantFind(t, b, "b", 1, true)
}

func TestP802Together(t *testing.T) {
	var group sync.WaitGroup
	l := small(3)
	for _, from := range l {
		group.Go(func() {
			for _, path := range l {
				check(t, from, path)
			}
		})
	}
	group.Wait()
}

package weave_test

import (
	"fmt"
	"slices"
	"strings"
	"sync"
	"testing"
	"unsafe"

	"tipstaff/api"
	"tipstaff/files"
	"tipstaff/token"
	"tipstaff/weave"
)

// item is a token and where it was read: the files that were being read there, the root first, and the number of that reading.
type item struct {
	x       api.Token
	chain   []int
	reading int
}

// woven tells the chapter's words by rewriting: the first `#include` of the list becomes what it asks for, until there is none.
func woven(l []api.File, root string) ([]api.Token, api.Fault) {
	n, ok := files.Find(l, root)
	if !ok {
		return nil, api.Fault{Err: api.ErrFile, File: -1}
	}
	list, fault := items(l, []int{n}, 0)
	for included := 0; fault.Err == api.OK; included++ {
		i := slices.IndexFunc(list, func(x item) bool { return x.x.Kind == api.THash && x.x.Text == "#include" })
		if i < 0 {
			return bare(list), api.Fault{}
		}
		at := list[i]
		fault = api.Fault{File: at.x.File, Spot: at.x.Spot}
		if i+1 == len(list) || list[i+1].reading != at.reading || list[i+1].x.Kind != api.TString {
			fault.Err = api.ErrSyntax
			break
		}
		n, ok := asked(l, at.x.File, list[i+1].x.Text)
		if !ok {
			fault.Err = api.ErrFile
		} else if slices.Contains(at.chain, n) {
			fault.Err = api.ErrCycle
		} else if len(at.chain) == 8 {
			fault.Err = api.ErrDeep
		} else if included == 1000 {
			fault.Err = api.ErrMany
		} else {
			var inner []item
			inner, fault = items(l, append(slices.Clone(at.chain), n), included+1)
			list = slices.Replace(list, i, i+2, inner...)
		}
	}
	return nil, fault
}

// items are the tokens of the last file of chain itself.
func items(l []api.File, chain []int, reading int) ([]item, api.Fault) {
	n := chain[len(chain)-1]
	own, fault := token.Split(l[n].Text, n)
	var out []item
	for _, x := range own {
		out = append(out, item{x, chain, reading})
	}
	return out, fault
}

func bare(list []item) []api.Token {
	var out []api.Token
	for _, x := range list {
		out = append(out, x.x)
	}
	return out
}

// asked is the file that path is where it stands in file from.
func asked(l []api.File, from int, path string) (int, bool) {
	joined, ok := files.Join(l[from].Path, path)
	if !ok {
		return 0, false
	}
	return files.Find(l, joined)
}

// check holds Tokens to the chapter's words, told otherwise.
func check(t *testing.T, l []api.File, root string) {
	t.Helper()
	want, fault := woven(l, root)
	got, is := weave.Tokens(l, root)
	if !slices.Equal(got, want) || is != fault {
		t.Errorf("Tokens of %.300q, %q: %s, %v, not %s, %v", l, root, show(got), is, show(want), fault)
	}
}

// show writes tokens as kind:text@file:spot.
func show(l []api.Token) string {
	var out []string
	for _, x := range l {
		out = append(out, fmt.Sprintf("%d:%s@%d:%v,%v", x.Kind, x.Text, x.File, real(x.Spot), imag(x.Spot)))
	}
	return strings.Join(out, " ")
}

// table is the files that are handed in as a path and a text, a path and a text, ..
func table(s ...string) []api.File {
	var out []api.File
	for i := 0; i < len(s); i += 2 {
		out = append(out, api.File{Path: s[i], Text: s[i+1]})
	}
	return out
}

func wantTokens(t *testing.T, l []api.File, root, want string) {
	t.Helper()
	got, fault := weave.Tokens(l, root)
	if show(got) != want || fault != (api.Fault{}) {
		t.Errorf("Tokens of %.300q, %q: %.300s, %v, not %.300s", l, root, show(got), fault, want)
	}
	check(t, l, root)
}

func wantFault(t *testing.T, l []api.File, root string, want api.Fault) {
	t.Helper()
	got, fault := weave.Tokens(l, root)
	if len(got) != 0 || fault != want {
		t.Errorf("Tokens of %.300q, %q: %d tokens, %v, not %v", l, root, len(got), fault, want)
	}
	check(t, l, root)
}

func TestP1001RootNone(t *testing.T) {
	none := api.Fault{Err: api.ErrFile, File: -1}
	wantFault(t, nil, "", none)
	wantFault(t, nil, "a", none)
	wantFault(t, []api.File{}, "a", none)
	l := table("a", "x", "b/c", "y", "..", "z", "", "v")
	for _, root := range []string{"", ".", "..", "/", "c", "A", "a b", "b", "a/../..", "../a", "a/b"} {
		wantFault(t, l, root, none)
	}
}

func TestP1001Root(t *testing.T) {
	l := table("a", "x", "./b//c", "y", "a", "z", "d", "")
	wantTokens(t, l, "a", "1:x@0:1,1")
	wantTokens(t, l, "/a", "1:x@0:1,1")
	wantTokens(t, l, "q/../a/.", "1:x@0:1,1")
	wantTokens(t, l, "b/c", "1:y@1:1,1")
	wantTokens(t, l, "d", "")
}

// All of a file's tokens stand as they are, but for `#include` and the string behind it.
func TestP1001NoInclude(t *testing.T) {
	wantTokens(t, table("a", "policy { \"s\" } // #include \"b\"\n#define N 0x1F /* #include */ \"#include\" include \"b\""), "a",
		"1:policy@0:1,1 3:{@0:1,8 4:s@0:1,10 3:}@0:1,14 5:#define@0:2,1 1:N@0:2,9 2:0x1F@0:2,11 4:#include@0:2,31 1:include@0:2,42 4:b@0:2,50")
}

func TestP1001Include(t *testing.T) {
	l := table("b", "two\n three", "a", "one #include \"b\" four")
	wantTokens(t, l, "a", "1:one@1:1,1 1:two@0:1,1 1:three@0:2,2 1:four@1:1,18")
	wantTokens(t, l, "b", "1:two@0:1,1 1:three@0:2,2")
	wantTokens(t, table("a", "#include\"b\"", "b", "x"), "a", "1:x@1:1,1")
	wantTokens(t, table("a", "#include // b\n /* c */ \"b\"", "b", "x"), "a", "1:x@1:1,1")
	wantTokens(t, table("a", "x #include \"b\"", "b", " // nothing"), "a", "1:x@0:1,1")
	wantTokens(t, table("a", "#include \"b\"", "b", ""), "a", "")
}

// Only the string behind an `#include` goes; what is included takes nothing of it.
func TestP1001IncludeOnlyItsString(t *testing.T) {
	wantTokens(t, table("a", "\"v\" #include \"b\" \"w\"", "b", "\"b\""), "a", "4:v@0:1,1 4:b@1:1,1 4:w@0:1,18")
	wantTokens(t, table("a", "#include \"b\" \"c\"", "b", "#define", "c", "x"), "a", "5:#define@1:1,1 4:c@0:1,14")
}

func TestP1001AndSoOn(t *testing.T) {
	l := table("a", "1 #include \"b\" 5 #include \"c\" 7", "b", "2 #include \"c\" 4", "c", "3")
	wantTokens(t, l, "a", "2:1@0:1,1 2:2@1:1,1 2:3@2:1,1 2:4@1:1,16 2:5@0:1,16 2:3@2:1,1 2:7@0:1,31")
}

func TestP1001Again(t *testing.T) {
	l := table("a", strings.Repeat("#include \"b\"", 3), "b", "x #include \"c\"", "c", "y")
	wantTokens(t, l, "a", strings.TrimSpace(strings.Repeat("1:x@1:1,1 1:y@2:1,1 ", 3)))
}

// A path is that of the file where it stands, as the table writes it, and not that of the root or of the table's clean path.
func TestP1001Paths(t *testing.T) {
	l := table("x", "x", "d/x", "dx", "d/a", "#include \"x\" #include \"../x\" #include \"/x\"", "a", "#include \"d/a\" #include \"x\"")
	wantTokens(t, l, "d/a", "1:dx@1:1,1 1:x@0:1,1 1:x@0:1,1")
	wantTokens(t, l, "a", "1:dx@1:1,1 1:x@0:1,1 1:x@0:1,1 1:x@0:1,1")
	l = table("/d//e/./a", "#include \"./../x\" #include \"x/../../e//y\"", "d/x", "x", "d/../d/e/y", "y")
	wantTokens(t, l, "d/e/a", "1:x@1:1,1 1:y@2:1,1")
	// The last part, which Join leaves out, is here not that of the clean path.
	l = table("d/a/", "#include \"x\"", "d/x", "1", "d/a/x", "2", "b/c/..", "#include \"x\"", "b/c/x", "3", "x", "4")
	wantTokens(t, l, "d/a", "2:2@2:1,1")
	wantTokens(t, l, "b", "2:3@4:1,1")
}

// The first file of a path is the one that is included.
func TestP1001FirstOfPath(t *testing.T) {
	l := table("a", "#include \"b\"", "./b", "1", "b", "2", "a", "3")
	wantTokens(t, l, "a", "2:1@1:1,1")
}

func TestP1001SplitFault(t *testing.T) {
	wantFault(t, table("a", "x\n ;"), "a", api.Fault{Err: api.ErrSyntax, File: 0, Spot: 2 + 2i})
	wantFault(t, table("a", strings.Repeat(" ", 20001)), "a", api.Fault{Err: api.ErrMany, File: 0, Spot: 1 + 1i})
	wantFault(t, table("a", "#include \"b\"", "b", "x\n ;"), "a", api.Fault{Err: api.ErrSyntax, File: 1, Spot: 2 + 2i})
	wantFault(t, table("a", "#include \"b\"", "b", strings.Repeat(";", 20001)), "a", api.Fault{Err: api.ErrMany, File: 1, Spot: 1 + 1i})
	wantTokens(t, table("a", "#include \"b\"", "b", strings.Repeat(" ", 20000)), "a", "")
	// What isn't read is not looked at.
	wantTokens(t, table("a", "x", "b", ";", "a", ";"), "a", "1:x@0:1,1")
}

// A file is taken apart whole ahead of what it includes.
func TestP1001SplitFirst(t *testing.T) {
	at := api.Fault{Err: api.ErrSyntax, File: 0, Spot: 1 + 14i}
	for _, text := range []string{";", "#include \"b\"", "#include \"a\"", "#include", "#include \"none\""} {
		wantFault(t, table("a", "#include \"b\" ;", "b", text), "a", at)
	}
	wantFault(t, table("a", "#include   x ;"), "a", at)
	wantFault(t, table("a", "#include \"z\" ;"), "a", at)
	wantFault(t, table("a", "#include \"a\" ;"), "a", at)
}

func TestP1001NoString(t *testing.T) {
	for _, behind := range []string{"", "x", "12", "{", "#define", "#include", "#include \"b\"", "// \"b\"", "b", "x \"b\"", "<b>"} {
		wantFault(t, table("a", "x\n  #include "+behind, "b", ""), "a", api.Fault{Err: api.ErrSyntax, File: 0, Spot: 2 + 3i})
		wantFault(t, table("a", "#include \"b\"", "b", "x\n  #include "+behind), "a", api.Fault{Err: api.ErrSyntax, File: 1, Spot: 2 + 3i})
	}
	// The string must be of the same file.
	wantFault(t, table("a", "#include \"b\" \"c\"", "b", "x #include", "c", ""), "a", api.Fault{Err: api.ErrSyntax, File: 1, Spot: 1 + 3i})
	wantFault(t, table("a", "#include #include \"b\"", "b", "\"c\"", "c", ""), "a", api.Fault{Err: api.ErrSyntax, File: 0, Spot: 1 + 1i})
}

func TestP1001NoFile(t *testing.T) {
	for _, path := range []string{"", ".", "..", "/", "c", "../b", "b/..", "B", " b", "b ", "b/c", "/d", "a/../.."} {
		wantFault(t, table("a", "x\n #include \""+path+"\"", "b", "", "d/c", "", "..", ""), "a", api.Fault{Err: api.ErrFile, File: 0, Spot: 2 + 2i})
	}
	wantFault(t, table("b", "", "d/a", "#include \"b\""), "d/a", api.Fault{Err: api.ErrFile, File: 1, Spot: 1 + 1i})
	wantFault(t, table("d/b", "", "a", "#include \"b\""), "a", api.Fault{Err: api.ErrFile, File: 1, Spot: 1 + 1i})
	wantFault(t, table("a", "#include \"d/b\"", "d/b", "#include \"a\""), "a", api.Fault{Err: api.ErrFile, File: 1, Spot: 1 + 1i})
}

func TestP1001Cycle(t *testing.T) {
	for _, path := range []string{"a", "./a", "/a", "x/../a", "a/."} {
		wantFault(t, table("a", "x #include \""+path+"\""), "a", api.Fault{Err: api.ErrCycle, File: 0, Spot: 1 + 3i})
	}
	l := table("a", "#include \"b\"", "b", "\n#include \"c\"", "c", "\n\n#include \"a\"")
	wantFault(t, l, "a", api.Fault{Err: api.ErrCycle, File: 2, Spot: 3 + 1i})
	wantFault(t, l, "b", api.Fault{Err: api.ErrCycle, File: 0, Spot: 1 + 1i})
	wantFault(t, l, "c", api.Fault{Err: api.ErrCycle, File: 1, Spot: 2 + 1i})
	l[2].Text = "#include \"b\""
	wantFault(t, l, "a", api.Fault{Err: api.ErrCycle, File: 2, Spot: 1 + 1i})
	l[2].Text = "#include \"c\""
	wantFault(t, l, "a", api.Fault{Err: api.ErrCycle, File: 2, Spot: 1 + 1i})
	// A second file of that path is not the one that is being read, but it is not found either.
	wantFault(t, table("a", "#include \"b\"", "b", "#include \"a\"", "a", ""), "a", api.Fault{Err: api.ErrCycle, File: 1, Spot: 1 + 1i})
}

// nest is files f0, f1, .., each but the last includes the one behind it.
func nest(n int) []api.File {
	var out []api.File
	for i := range n {
		text := fmt.Sprintf("a%d\n#include \"f%d\" b%d", i, i+1, i)
		if i == n-1 {
			text = "last"
		}
		out = append(out, api.File{Path: fmt.Sprintf("f%d", i), Text: text})
	}
	return out
}

func TestP1001Deep(t *testing.T) {
	for n := 1; n <= 12; n++ {
		l := nest(n)
		got, fault := weave.Tokens(l, "f0")
		if n <= 8 && (len(got) != 2*n-1 || got[n-1].Text != "last" || fault != api.Fault{}) {
			t.Errorf("%d files: %s, %v", n, show(got), fault)
		}
		if n > 8 && (got != nil || fault != api.Fault{Err: api.ErrDeep, File: 7, Spot: 2 + 1i}) {
			t.Errorf("%d files: %s, %v", n, show(got), fault)
		}
		check(t, l, "f0")
		if n > 1 {
			check(t, l, "f1")
		}
	}
}

// How deep it goes is not how much was read: what was read to its end is not being read any more.
func TestP1001DeepAgain(t *testing.T) {
	l := nest(7)
	l = append(l, api.File{Path: "root", Text: strings.Repeat("#include \"f0\" ", 5)})
	got, fault := weave.Tokens(l, "root")
	if len(got) != 5*13 || fault != (api.Fault{}) {
		t.Errorf("%s, %v", show(got), fault)
	}
	check(t, l, "root")
}

// many is a file that includes `b` n times, each on a line of its own.
func many(n int) string {
	return strings.Repeat("#include \"b\"\n", n)
}

func TestP1001Many(t *testing.T) {
	for _, n := range []int{0, 1, 999, 1000} {
		got, fault := weave.Tokens(table("a", many(n), "b", "x y"), "a")
		if len(got) != 2*n || fault != (api.Fault{}) {
			t.Errorf("%d: %d tokens, %v", n, len(got), fault)
		}
	}
	for _, n := range []int{1001, 1002, 1500} {
		wantFault(t, table("a", many(n), "b", "x"), "a", api.Fault{Err: api.ErrMany, File: 0, Spot: 1001 + 1i})
		wantFault(t, table("a", many(n), "b", ""), "a", api.Fault{Err: api.ErrMany, File: 0, Spot: 1001 + 1i})
	}
}

// All that is included counts, however deep, and whether it was included already or not.
func TestP1001ManyDeep(t *testing.T) {
	each := func(n int, more string) []api.File {
		l := table("a", strings.Repeat("#include \"c\"\n", n)+more, "b", "x", "c", many(9))
		return append(l, table("e", "", "f", "")...)
	}
	got, fault := weave.Tokens(each(100, ""), "a")
	if len(got) != 900 || fault != (api.Fault{}) {
		t.Errorf("%d tokens, %v", len(got), fault)
	}
	wantFault(t, each(101, ""), "a", api.Fault{Err: api.ErrMany, File: 0, Spot: 101 + 1i})
	wantFault(t, each(99, strings.Repeat("#include \"e\"", 5)+"#include \"c\""), "a", api.Fault{Err: api.ErrMany, File: 2, Spot: 5 + 1i})
	wantFault(t, each(100, "#include \"e\""), "a", api.Fault{Err: api.ErrMany, File: 0, Spot: 101 + 1i})
	var l []api.File
	root := ""
	for i := range 1001 {
		l = append(l, api.File{Path: fmt.Sprintf("%d", i), Text: "x"})
		root += fmt.Sprintf("#include \"%d\"\n", i)
	}
	wantFault(t, append(l, api.File{Path: "a", Text: root}), "a", api.Fault{Err: api.ErrMany, File: 1001, Spot: 1001 + 1i})
}

// Of an `#include`, the first fault that the chapter names is told.
func TestP1001Order(t *testing.T) {
	deep := func(last string) []api.File {
		l := nest(8)
		l[7].Text = last
		return append(l, table("f8", ";", "g", "")...)
	}
	wantFault(t, deep("#include"), "f0", api.Fault{Err: api.ErrSyntax, File: 7, Spot: 1 + 1i})
	wantFault(t, deep("#include \"none\""), "f0", api.Fault{Err: api.ErrFile, File: 7, Spot: 1 + 1i})
	wantFault(t, deep("#include \"f7\""), "f0", api.Fault{Err: api.ErrCycle, File: 7, Spot: 1 + 1i})
	wantFault(t, deep("#include \"f0\""), "f0", api.Fault{Err: api.ErrCycle, File: 7, Spot: 1 + 1i})
	wantFault(t, deep("#include \"f8\""), "f0", api.Fault{Err: api.ErrDeep, File: 7, Spot: 1 + 1i})
	full := func(last string) []api.File {
		return table("a", many(1000)+last, "b", "", "c", ";")
	}
	wantFault(t, full("#include"), "a", api.Fault{Err: api.ErrSyntax, File: 0, Spot: 1001 + 1i})
	wantFault(t, full("#include \"none\""), "a", api.Fault{Err: api.ErrFile, File: 0, Spot: 1001 + 1i})
	wantFault(t, full("#include \"a\""), "a", api.Fault{Err: api.ErrCycle, File: 0, Spot: 1001 + 1i})
	wantFault(t, full("#include \"c\""), "a", api.Fault{Err: api.ErrMany, File: 0, Spot: 1001 + 1i})
}

// Where it is both as deep and as much as may be, the depth is told.
func TestP1001OrderDeepMany(t *testing.T) {
	l := nest(8)
	l[0].Text = many(993) + "#include \"f1\""
	l = append(l, table("b", "", "f8", "")...)
	got, fault := weave.Tokens(l, "f0")
	if len(got) != 13 || fault != (api.Fault{}) {
		t.Errorf("%d tokens, %v", len(got), fault)
	}
	l[7].Text = "#include \"f8\""
	wantFault(t, l, "f0", api.Fault{Err: api.ErrDeep, File: 7, Spot: 1 + 1i})
	l[6].Text = "#include \"b\" #include \"f7\""
	wantFault(t, l, "f0", api.Fault{Err: api.ErrMany, File: 6, Spot: 1 + 14i})
}

// Of several faults the one that is read first is told.
func TestP1001FirstFault(t *testing.T) {
	wantFault(t, table("a", "#include \"b\" #include", "b", "#include \"c\" #include \"none\"", "c", "x ;"), "a", api.Fault{Err: api.ErrSyntax, File: 2, Spot: 1 + 3i})
	wantFault(t, table("a", "#include \"b\" #include", "b", "#include \"c\" #include \"none\"", "c", "x"), "a", api.Fault{Err: api.ErrFile, File: 1, Spot: 1 + 14i})
	wantFault(t, table("a", "#include \"b\" #include", "b", "#include \"c\"", "c", "x"), "a", api.Fault{Err: api.ErrSyntax, File: 0, Spot: 1 + 14i})
	wantFault(t, table("a", "#include \"c\" #include \"b\" #include \"b\"", "b", ";", "c", "#include \"a\""), "a", api.Fault{Err: api.ErrCycle, File: 2, Spot: 1 + 1i})
}

// The most that there can be: each file that is included as long as a text may be.
func TestP1001Long(t *testing.T) {
	l := table("a", many(200), "b", strings.Repeat("x ", 10000))
	got, fault := weave.Tokens(l, "a")
	if len(got) != 200*10000 || fault != (api.Fault{}) {
		t.Fatalf("%d tokens, %v", len(got), fault)
	}
	for i, x := range got {
		if want := (api.Token{Kind: api.TWord, Text: "x", File: 1, Spot: complex(1, float64(i%10000*2+1))}); x != want {
			t.Fatalf("token %d: %v, not %v", i, x, want)
		}
	}
}

// chance makes numbers.
type chance uint32

func (c *chance) next(most int) int {
	*c = *c*1664525 + 1013904223
	return int(*c>>9) % most
}

// pick is one of l.
func (c *chance) pick(l ...string) string {
	return l[c.next(len(l))]
}

// files is a table of a few files that include one another.
func (c *chance) files() []api.File {
	var out []api.File
	for range 1 + c.next(7) {
		text := ""
		for range c.next(7) {
			text += c.piece()
		}
		out = append(out, api.File{Path: c.path(), Text: text})
	}
	return out
}

func (c *chance) path() string {
	return c.pick("", "", "", "./", "d/", "d/", "d/e/", "/", "d/../", "d/.") + c.pick("a", "b", "c", "c", "f", "f/", "c/..", "g/.")
}

func (c *chance) piece() string {
	switch c.next(60) {
	case 0:
		return c.pick("#include", ";", "#include x", "/*", "\"")
	case 1:
		return "#include \"" + c.pick("none", "../..", "", ".", "../../a") + "\" "
	}
	if c.next(2) == 0 {
		return "#include \"" + c.pick("", "", "../", "/") + c.path() + "\"" + c.pick("", " ", "\n")
	}
	return c.pick("x ", "12 ", "{", "&&", "\"s\"", "#define ", "\n", "// #include\n", "/*\n*/", "a_1 \"b\"")
}

func TestP1001Any(t *testing.T) {
	c := chance(10)
	counts := map[api.Errno]int{}
	for range 60000 {
		l := c.files()
		root := l[0].Path
		check(t, l, root)
		_, fault := weave.Tokens(l, root)
		counts[fault.Err]++
	}
	for _, e := range []api.Errno{api.OK, api.ErrSyntax, api.ErrFile, api.ErrCycle} {
		if counts[e] < 200 {
			t.Errorf("Err %d: %d times of %v", e, counts[e], counts)
		}
	}
}

// Files that include one another without end in sight, yet never within themselves, come to the depth or to the number that may be.
func TestP1001AnyMuch(t *testing.T) {
	c := chance(1)
	counts := map[api.Errno]int{}
	for range 400 {
		var l []api.File
		n := 3 + c.next(9)
		for i := range n {
			text := fmt.Sprintf("w%d ", i)
			for j := i + 1; j < n; j++ {
				if c.next(10) > 0 {
					text += strings.Repeat(fmt.Sprintf("#include \"%d\"", j), c.next(4))
				}
			}
			l = append(l, api.File{Path: fmt.Sprint(i), Text: text})
		}
		check(t, l, "0")
		_, fault := weave.Tokens(l, "0")
		counts[fault.Err]++
	}
	for _, e := range []api.Errno{api.OK, api.ErrDeep, api.ErrMany} {
		if counts[e] < 20 {
			t.Errorf("Err %d: %d times of %v", e, counts[e], counts)
		}
	}
}

// tables are some that are read and some that aren't.
func tables() [][]api.File {
	return [][]api.File{
		table("a", "read #include \"b\" 0x12", "b", "\"path\" #define x && {"),
		table("a", "#include \"d/b\" x #include \"d/b\"", "d/b", "12 #include \"../c\"", "c", "word"),
		table("b", "#include \"a\"", "a", "#include \"b\""),
		table("a", "#include \"b\"", "b", "x ;"),
		table("b", "x"),
		nest(9),
		append(nest(8), api.File{Path: "a", Text: "#include \"f1\" #include \"f1\""}),
	}
}

func TestP1002HandedInStays(t *testing.T) {
	for _, l := range tables() {
		// Spare room behind the list stays, too.
		room := append(slices.Clone(l), api.File{Path: "spare", Text: "room"})
		weave.Tokens(room[:len(l)], "a")
		if !slices.Equal(room[:len(l)], l) || room[len(l)] != (api.File{Path: "spare", Text: "room"}) {
			t.Errorf("%v, which was %v", room, l)
		}
	}
}

func TestP1002ArgumentsAlone(t *testing.T) {
	for _, before := range tables() {
		for _, l := range tables() {
			weave.Tokens(before, "a")
			check(t, l, "a")
			check(t, l, "f0")
		}
	}
}

// Bytes and lists that are used again for others are nothing to an answer that was given.
func TestP1002NotKept(t *testing.T) {
	for _, l := range tables() {
		var all [][]byte
		mine := slices.Clone(l)
		for i := range mine {
			b := []byte(mine[i].Text)
			p := []byte(mine[i].Path)
			all = append(all, b, p)
			mine[i] = api.File{Path: unsafe.String(&p[0], len(p)), Text: unsafe.String(&b[0], len(b))}
		}
		got, fault := weave.Tokens(mine, "a")
		was := fmt.Sprint(show(got), fault)
		for _, b := range all {
			for i := range b {
				b[i] = '$'
			}
		}
		clear(mine)
		if is := fmt.Sprint(show(got), fault); is != was {
			t.Errorf("%s, which was %s", is, was)
		}
		check(t, l, "a")
	}
}

// meet is whether two texts share bytes.
func meet(a, b string) bool {
	if a == "" || b == "" {
		return false
	}
	x, y := uintptr(unsafe.Pointer(unsafe.StringData(a))), uintptr(unsafe.Pointer(unsafe.StringData(b)))
	return x < y+uintptr(len(b)) && y < x+uintptr(len(a))
}

// An answer's texts are no pieces of the arguments, and its list is no other answer's.
func TestP1002NewMemory(t *testing.T) {
	for _, l := range tables() {
		got, _ := weave.Tokens(l, "a")
		for _, x := range got {
			for _, f := range l {
				if meet(x.Text, f.Text) || meet(x.Text, f.Path) {
					t.Errorf("Tokens of %v: %q", l, x.Text)
				}
			}
		}
		again, _ := weave.Tokens(l, "a")
		spare := again[:cap(again)]
		for i := range spare {
			spare[i] = api.Token{Kind: -1, Text: "other", File: -1, Spot: -1}
		}
		want, _ := woven(l, "a")
		if !slices.Equal(got, want) {
			t.Errorf("Tokens of %v: %s", l, show(got))
		}
		check(t, l, "a")
	}
}

func TestP1002Together(t *testing.T) {
	var group sync.WaitGroup
	for _, l := range tables() {
		group.Go(func() {
			for range 30 {
				check(t, l, "a")
			}
		})
	}
	group.Wait()
}

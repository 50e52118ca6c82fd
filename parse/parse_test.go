package parse_test

import (
	"fmt"
	"math"
	"reflect"
	"runtime/debug"
	"slices"
	"strconv"
	"strings"
	"sync"
	"testing"
	"unsafe"

	"tipstaff/api"
	"tipstaff/parse"
	"tipstaff/token"
	"tipstaff/tree"
)

// end is where the tokens of these tests end; that it has an Err is nothing to Parse.
var end = api.Fault{Err: api.ErrCycle, File: -8, Spot: complex(-3, math.Inf(1))}

// tokens are those of a text, each in a file and at a spot of its own.
func tokens(t *testing.T, s string) []api.Token {
	t.Helper()
	l, f := token.Split(s, 0)
	if f.Err != api.OK {
		t.Fatalf("no tokens: %q, %v", s, f)
	}
	return placed(l)
}

func placed(l []api.Token) []api.Token {
	for i := range l {
		l[i].File, l[i].Spot = 1000+i, complex(float64(i), -float64(i))
	}
	return l
}

// text is what tokens are, as a text.
func text(l []api.Token) string {
	var b strings.Builder
	for i, t := range l {
		switch {
		case i == 200:
			return b.String() + "and so on"
		case t.Kind == api.TString:
			b.WriteString(strconv.Quote(t.Text) + " ")
		default:
			b.WriteString(t.Text + " ")
		}
	}
	return b.String()
}

// fault is one at the token with that number, of all of l.
func fault(l []api.Token, err api.Errno, at int) api.Fault {
	if err == api.OK {
		return api.Fault{}
	}
	if at == len(l) {
		return api.Fault{Err: err, File: end.File, Spot: end.Spot}
	}
	return api.Fault{Err: err, File: l[at].File, Spot: l[at].Spot}
}

// wantFault holds Parse of l against a fault at the token with that number.
func wantFault(t *testing.T, l []api.Token, err api.Errno, at int) {
	t.Helper()
	u, f := parse.Parse(l, end)
	if want := fault(l, err, at); f != want || !reflect.DeepEqual(u, api.Unit{}) {
		t.Errorf("Parse of %s: %+v, %v, not %v", text(l), u, f, want)
	}
}

// wantText is wantFault, of a text: the token that has the fault stands behind a `@`; without one it is the end.
func wantText(t *testing.T, s string, err api.Errno) {
	t.Helper()
	ahead, _, _ := strings.Cut(s, "@")
	wantFault(t, tokens(t, strings.Replace(s, "@", "", 1)), err, len(tokens(t, ahead)))
}

// wantUnit holds Parse of a text against a unit.
func wantUnit(t *testing.T, s string, want api.Unit) {
	t.Helper()
	l := tokens(t, s)
	u, f := parse.Parse(l, end)
	if f != (api.Fault{}) || !tree.Same(u, want) || !tree.Right(u) {
		t.Errorf("Parse of %s: %+v, %v, not %+v", s, u, f, want)
	}
}

// wantWrong holds Parse of l, whose conditions are not too deep, against what the grammar tells.
func wantWrong(t *testing.T, l []api.Token) {
	t.Helper()
	err, at := wrong(l)
	if err != api.OK {
		wantFault(t, l, err, at)
		return
	}
	if u, f := parse.Parse(l, end); f != (api.Fault{}) || !tree.Right(u) {
		t.Errorf("Parse of %s: %+v, %v", text(l), u, f)
	}
}

func num(n uint64) api.Expr  { return api.Expr{Kind: api.XNum, Num: n} }
func name(s string) api.Expr { return api.Expr{Kind: api.XName, Name: s} }

// of is an expression that has a kind and kids alone.
func of(kind int, kids ...api.Expr) api.Expr {
	return api.Expr{Kind: kind, Kids: kids}
}

func cmp(op string, kids ...api.Expr) api.Expr {
	return api.Expr{Kind: api.XCmp, Op: op, Kids: kids}
}

func mask(s string, e api.Expr) api.Expr {
	return api.Expr{Kind: api.XMask, Name: s, Kids: []api.Expr{e}}
}

func or(a, b api.Expr) api.Expr   { return of(api.XOr, a, b) }
func and(a, b api.Expr) api.Expr  { return of(api.XAnd, a, b) }
func not(a api.Expr) api.Expr     { return of(api.XNot, a) }
func bits(a, b api.Expr) api.Expr { return of(api.XBits, a, b) }

// is is a comparison of a param with 1.
func is(s string) api.Expr {
	return cmp("==", name(s), num(1))
}

// last is what makes a unit of what stands ahead of it.
const last = " USE p DEFAULT KILL "

// with is the unit that has just that, and what last is.
func with(u api.Unit) api.Unit {
	u.Main, u.Default = []string{"p"}, api.Action{Kind: api.KillThread}
	return u
}

// ruled is the unit of one policy p, with rules that are allowed.
func ruled(rules ...api.Rule) api.Unit {
	part := api.Part{Action: api.Action{Kind: api.Allow}, Rules: rules}
	return with(api.Unit{Policies: []api.Policy{{Name: "p", Parts: []api.Part{part}}}})
}

// inRules is the text whose rules are s.
func inRules(s string) string {
	return "POLICY p { ALLOW { " + s + " } }" + last
}

func inCond(s string) string {
	return inRules("r { " + s + " }")
}

// conditioned is the unit of inCond, whose condition is e.
func conditioned(e api.Expr) api.Unit {
	return ruled(api.Rule{Call: "r", Cond: []api.Expr{e}})
}

func TestP1201Nothing(t *testing.T) {
	wantFault(t, nil, api.ErrMain, 0)
	wantFault(t, []api.Token{}, api.ErrMain, 0)
}

func TestP1201Policy(t *testing.T) {
	wantUnit(t, `
// A policy of each thing that there is.
#define O_RW 1 | 2
POLICY files {
	ALLOW {
		read, write
		openat(dir, path, flags) { flags & O_RW == 0 || !(dir < 3 && flags != O_RW|0x40) }
		close()
	},
	ERRNO(1) { socket { family >= 2 } }
}
POLICY all { USE files KILL_PROCESS { kill } }
USE all, files DEFAULT TRAP(65535)
`, api.Unit{
		Defines: []api.Define{{Name: "O_RW", Expr: bits(num(1), num(2))}},
		Policies: []api.Policy{
			{Name: "files", Parts: []api.Part{
				{Action: api.Action{Kind: api.Allow}, Rules: []api.Rule{
					{Call: "read"}, {Call: "write"},
					{Call: "openat", Params: []string{"dir", "path", "flags"}, Cond: []api.Expr{or(
						cmp("==", mask("flags", name("O_RW")), num(0)),
						not(and(cmp("<", name("dir"), num(3)), cmp("!=", name("flags"), bits(name("O_RW"), num(0x40))))))}},
					{Call: "close"}}},
				{Action: api.Action{Kind: api.Error, Data: 1}, Rules: []api.Rule{
					{Call: "socket", Cond: []api.Expr{cmp(">=", name("family"), num(2))}}}}}},
			{Name: "all", Parts: []api.Part{
				{Use: "files"},
				{Action: api.Action{Kind: api.KillProcess}, Rules: []api.Rule{{Call: "kill"}}}}}},
		Main:    []string{"all", "files"},
		Default: api.Action{Kind: api.Trap, Data: 65535},
	})
}

func TestP1201AnyOrder(t *testing.T) {
	want := with(api.Unit{
		Defines:  []api.Define{{Name: "A", Expr: num(1)}, {Name: "A", Expr: name("B")}},
		Policies: []api.Policy{{Name: "q"}, {Name: "p"}},
	})
	a, b, q, p := "#define A 1 ", "#define A B ", "POLICY q {} ", "POLICY p {} "
	for _, s := range []string{last + a + b + q + p, a + last + q + b + p, q + a + p + last + b, q + p + last + a + b, a + q + b + p + last} {
		wantUnit(t, s, want)
	}
	wantUnit(t, last, with(api.Unit{}))
	// What comes twice, or is nowhere, is not told here.
	wantUnit(t, "POLICY x {} POLICY x { USE y }"+last, with(api.Unit{Policies: []api.Policy{{Name: "x"}, {Name: "x", Parts: []api.Part{{Use: "y"}}}}}))
}

func TestP1201UnitNot(t *testing.T) {
	for _, s := range []string{"@p", "@,", "@ALLOW {}", "@{ }", "@#include \"a\"", "@DEFAULT ALLOW", "@read", "@1", "@\"USE\"", "@}"} {
		wantText(t, s, api.ErrSyntax)
		wantText(t, last+s, api.ErrSyntax)
		wantText(t, "#define A 1 "+s, api.ErrSyntax)
		wantText(t, "POLICY p { } "+s+last, api.ErrSyntax)
	}
}

func TestP1201Main(t *testing.T) {
	wantUnit(t, "USE a, b,c , a DEFAULT LOG", api.Unit{Main: []string{"a", "b", "c", "a"}, Default: api.Action{Kind: api.Log}})
	for _, s := range []string{"USE ", "USE @DEFAULT ALLOW", "USE @, a DEFAULT ALLOW", "USE a @b DEFAULT ALLOW", "USE a, @DEFAULT ALLOW", "USE a,@, b DEFAULT ALLOW", "USE a, b ", "USE a @ALLOW", "USE a DEFAULT ", "USE a DEFAULT @a", "USE a DEFAULT @DEFAULT ALLOW", "USE a DEFAULT ALLOW @LOG", "USE @1 DEFAULT ALLOW", "USE @\"a\" DEFAULT ALLOW", "USE a DEFAULT ALLOW@, b", "USE a@{ }", "USE @USE a DEFAULT ALLOW", "USE a DEFAULT ALLOW @{ }", "USE a DEFAULT @USE a DEFAULT ALLOW"} {
		wantText(t, s, api.ErrSyntax)
	}
}

func TestP1201Define(t *testing.T) {
	wantUnit(t, "#define A 5 #define B A #define _c 1 | A|0x2|A"+last, with(api.Unit{Defines: []api.Define{
		{Name: "A", Expr: num(5)}, {Name: "B", Expr: name("A")},
		{Name: "_c", Expr: bits(bits(bits(num(1), name("A")), num(2)), name("A"))}}}))
	for _, s := range []string{"#define ", "#define @1 1", "#define @USE 1", "#define A ", "#define A @#define B 1", "#define A @== 1", "#define A 1 @1", "#define A 1 @B", "#define A 1 @& 2", "#define A 1 | @| 2", "#define A 1 @|| 2", "#define A @| 1", "#define A 1 | ", "#define A @(1)", "#define A @USE p DEFAULT ALLOW", "#define A 1 | @USE p DEFAULT ALLOW", "#define A @\"1\"", "#define A 1@, B", "#define @#define 1"} {
		wantText(t, s, api.ErrSyntax)
	}
}

func TestP1201Parts(t *testing.T) {
	use := func(s string) api.Part { return api.Part{Use: s} }
	acts := func(kind int, calls ...string) api.Part {
		p := api.Part{Action: api.Action{Kind: kind}}
		for _, c := range calls {
			p.Rules = append(p.Rules, api.Rule{Call: c})
		}
		return p
	}
	for s, parts := range map[string][]api.Part{
		"":                              nil,
		"USE a":                         {use("a")},
		"USE a USE b":                   {use("a"), use("b")},
		"USE a, USE b":                  {use("a"), use("b")},
		"USE a USE a, USE b USE a":      {use("a"), use("a"), use("b"), use("a")},
		"LOG {}":                        {acts(api.Log)},
		"LOG {} LOG {}":                 {acts(api.Log), acts(api.Log)},
		"ALLOW { a b, c }, USE a LOG{}": {acts(api.Allow, "a", "b", "c"), use("a"), acts(api.Log)},
		"USE a KILL { a }":              {use("a"), acts(api.KillThread, "a")},
	} {
		wantUnit(t, "POLICY x {"+s+"}"+last, with(api.Unit{Policies: []api.Policy{{Name: "x", Parts: parts}}}))
	}
	for _, s := range []string{"POLICY ", "POLICY @{ }", "POLICY @LOG { }", "POLICY p ", "POLICY p @USE a", "POLICY p @q { }", "POLICY p { ", "POLICY p { @, }", "POLICY p { @, USE a }", "POLICY p { USE @}", "POLICY p { USE @USE a }", "POLICY p { USE a ", "POLICY p { USE a, @}", "POLICY p { USE a, @, USE b }", "POLICY p { USE a, @b }", "POLICY p { USE a @b }", "POLICY p { USE a @DEFAULT ALLOW }", "POLICY p { @a }", "POLICY p { @DEFAULT ALLOW }", "POLICY p { @POLICY q { } }", "POLICY p { @#define A 1 }", "POLICY p { ALLOW @}", "POLICY p { ALLOW @read }", "POLICY p { ALLOW @, LOG { } }", "POLICY p { ALLOW { } ", "POLICY p { ALLOW { }, @}", "POLICY p { ALLOW { }, @{ } }", "POLICY p { } @}", "POLICY p { }@, USE p DEFAULT ALLOW", "POLICY p { @{ } }", "POLICY p { @1 }", "POLICY @1 { }", "POLICY @\"p\" { }", "POLICY p @( ) { }"} {
		wantText(t, s, api.ErrSyntax)
	}
}

func TestP1201Rules(t *testing.T) {
	a, b := api.Rule{Call: "a"}, api.Rule{Call: "b"}
	withParams := func(l ...string) api.Rule { return api.Rule{Call: "r", Params: l} }
	c := api.Rule{Call: "r", Cond: []api.Expr{is("x")}}
	both := api.Rule{Call: "r", Params: []string{"x", "y"}, Cond: []api.Expr{is("x")}}
	for s, rules := range map[string][]api.Rule{
		"":                           nil,
		"a":                          {a},
		"a b":                        {a, b},
		"a, b":                       {a, b},
		"a b a, a, b":                {a, b, a, a, b},
		"r()":                        {withParams()},
		"r(x)":                       {withParams("x")},
		"r(x, x,z)":                  {withParams("x", "x", "z")},
		"r(a,b,c,d,e,f,g)":           {withParams("a", "b", "c", "d", "e", "f", "g")},
		"r() a":                      {withParams(), a},
		"r(x) a, r(y) r(z), b":       {withParams("x"), a, withParams("y"), withParams("z"), b},
		"r { x == 1 }":               {c},
		"r() { x == 1 }, a":          {c, a},
		"r(x, y) { x == 1 } r(x) b":  {both, withParams("x"), b},
		"a r(x, y) { x == 1 }, a":    {a, both, a},
		"r{x==1}r{x==1}r(x,y){x==1}": {c, c, both},
	} {
		wantUnit(t, inRules(s), ruled(rules...))
	}
	for _, s := range []string{"@,", "@, a", "a,@, b", "a, @", "a( @, x)", "a(x @y)", "a(x, @)", "a(x,@, y)", "a(@1)", "a(@USE)", "a(@(x))", "a(x @{ x == 1 }", "a(x) @(y)", "a() @()", "a { @}", "a { x == 1 } @{ x == 1 }", "a { x == 1 } @(x)", "@(x)", "@{ x == 1 }", "@1", "@\"a\"", "@ALLOW", "@USE a", "a @USE a", "a, @USE a", "a @ALLOW { b }", "@#define A 1", "a @== 1", "a @& 1", "@!a", "a { x == 1 @, x == 2 }", "a, @(x)", "a, @{ x == 1 }"} {
		wantText(t, inRules(s), api.ErrSyntax)
	}
	for _, s := range []string{"a", "a,", "a(", "a(x", "a(x,", "a(x)", "a()", "a {", "a { x", "a { x ==", "a { x == 1", "a { x == 1 }", "a { (x == 1)", "a { x & 1"} {
		wantText(t, "POLICY p { ALLOW { "+s, api.ErrSyntax)
	}
}

func TestP1201Actions(t *testing.T) {
	for s, a := range map[string]api.Action{
		"ALLOW": {Kind: api.Allow}, "LOG": {Kind: api.Log}, "KILL": {Kind: api.KillThread}, "KILL_PROCESS": {Kind: api.KillProcess},
		"TRAP(0)": {Kind: api.Trap}, "ERRNO(0)": {Kind: api.Error}, "TRACE(0)": {Kind: api.Trace},
		"TRAP ( 1 )": {Kind: api.Trap, Data: 1}, "ERRNO(38)": {Kind: api.Error, Data: 38}, "TRACE(0x10)": {Kind: api.Trace, Data: 16},
		"TRAP(65535)": {Kind: api.Trap, Data: 65535}, "ERRNO(0xffff)": {Kind: api.Error, Data: 65535}, "TRACE(0x000000000000000000fFfF)": {Kind: api.Trace, Data: 65535},
		"ERRNO(0000010)": {Kind: api.Error, Data: 10},
	} {
		wantUnit(t, "USE p DEFAULT "+s, api.Unit{Main: []string{"p"}, Default: a})
		wantUnit(t, "POLICY p { "+s+" { } }"+last, with(api.Unit{Policies: []api.Policy{{Name: "p", Parts: []api.Part{{Action: a}}}}}))
	}
	for _, s := range []string{"@KILL_THREAD", "@ERROR(1)", "@Allow", "@allow", "TRAP@ ", "ERRNO@ ", "TRACE@ ", "TRAP @1", "ERRNO(@)", "ERRNO(@A)", "ERRNO(@65536)", "TRAP(@0x10000)", "TRACE(@18446744073709551615)", "TRAP(@(1))", "TRAP(1 @| 2)", "TRAP(1@, 2)", "TRAP(1 @1)", "TRAP(1@ ", "TRAP(@\"1\")", "@(1)", "TRAP(1) @(1)", "ALLOW @(1)", "ALLOW @()", "LOG @(0)", "KILL @(1)", "KILL_PROCESS @(1)", "@1", "@DEFAULT", "@POLICY"} {
		wantText(t, "POLICY p { "+s+" { } }", api.ErrSyntax)
		wantText(t, "USE p DEFAULT "+s+" POLICY p { }", api.ErrSyntax)
	}
}

func TestP1201Comparisons(t *testing.T) {
	for _, op := range []string{"==", "!=", "<", "<=", ">", ">="} {
		wantUnit(t, inCond("x "+op+" 5"), conditioned(cmp(op, name("x"), num(5))))
		wantUnit(t, inCond("x & 7 "+op+" y"), conditioned(cmp(op, mask("x", num(7)), name("y"))))
		wantUnit(t, inCond("x & y "+op+" 1|A|2"), conditioned(cmp(op, mask("x", name("y")), bits(bits(num(1), name("A")), num(2)))))
	}
	for _, s := range []string{"@", "@1 == x", "@== 1", "x @", "x @1", "x @&& 1", "x @| 1 == 1", "x & @", "x & 1 @| 2 == 1", "x & 1 @& 1 == 1", "x & @(1) == 1", "x & @& 1 == 1", "x & @== 1", "x & 1 @", "x == @", "x == @== 1", "x == 1 @== 1", "x == 1 @< y", "x == 1 @& 1", "x == @!1", "x == @(1)", "x == 1 | @", "x == 1 | @|| y == 1", "x == 1 @2", "x @y == 1", "x == @ALLOW", "x & @LOG == 1", "@USE == 1", "x == @\"1\"", "@\"x\" == 1", "x @() == 1", "x @! 1", "@{ x == 1 }"} {
		wantText(t, inCond(s), api.ErrSyntax)
	}
}

func TestP1201Numbers(t *testing.T) {
	for s, n := range map[string]uint64{"0": 0, "00": 0, "010": 10, "0x0": 0, "0x10": 16, "0xaBcDeF": 0xabcdef, "18446744073709551615": math.MaxUint64, "0xffffffffffffffff": math.MaxUint64, "9223372036854775808": 1 << 63, "0x00000000000000000001": 1, "000000000000000000000000000000005": 5} {
		wantUnit(t, "#define A "+s+last, with(api.Unit{Defines: []api.Define{{Name: "A", Expr: num(n)}}}))
		wantUnit(t, inCond("x & "+s+" == "+s), conditioned(cmp("==", mask("x", num(n)), num(n))))
	}
}

// Conditions by rank, each from the left.
func TestP1201Ranks(t *testing.T) {
	a, b, c, d := is("a"), is("b"), is("c"), is("d")
	for s, e := range map[string]api.Expr{
		"a":                           a,
		"(a)":                         a,
		"((((a))))":                   a,
		"a || b":                      or(a, b),
		"a && b":                      and(a, b),
		"a || b || c":                 or(or(a, b), c),
		"a && b && c":                 and(and(a, b), c),
		"a || b && c":                 or(a, and(b, c)),
		"a && b || c":                 or(and(a, b), c),
		"a && b || c && d":            or(and(a, b), and(c, d)),
		"a || b && c || d":            or(or(a, and(b, c)), d),
		"a || b && c && d":            or(a, and(and(b, c), d)),
		"a && b || c || d":            or(or(and(a, b), c), d),
		"a && b && c || d":            or(and(and(a, b), c), d),
		"a || (b || c)":               or(a, or(b, c)),
		"(a || b) || c":               or(or(a, b), c),
		"a && (b && c)":               and(a, and(b, c)),
		"(a || b) && c":               and(or(a, b), c),
		"a && (b || c)":               and(a, or(b, c)),
		"a && (b || c) && d":          and(and(a, or(b, c)), d),
		"a || (b || c) && d":          or(a, and(or(b, c), d)),
		"(a || b) && (c || d)":        and(or(a, b), or(c, d)),
		"!a":                          not(a),
		"!!a":                         not(not(a)),
		"!(a)":                        not(a),
		"!(!(a))":                     not(not(a)),
		"!a && b":                     and(not(a), b),
		"a && !b":                     and(a, not(b)),
		"!a || !b && !c":              or(not(a), and(not(b), not(c))),
		"!(a || b)":                   not(or(a, b)),
		"!(a && b) || c":              or(not(and(a, b)), c),
		"!!(a || b && c)":             not(not(or(a, and(b, c)))),
		"a && !!(b || !c) || d":       or(and(a, not(not(or(b, not(c))))), d),
		"((a || (b)) && ((c) || d))":  and(or(a, b), or(c, d)),
		"!(!a && !(b || !(c)) || !d)": not(or(and(not(a), not(or(b, not(c)))), not(d))),
	} {
		for _, n := range "abcd" {
			s = strings.ReplaceAll(s, string(n), string(n)+" == 1")
		}
		wantUnit(t, inCond(s), conditioned(e))
	}
	for _, s := range []string{"@|| a", "@&& a", "a || @", "a && @", "a || @|| b", "a && @|| b", "a || @&& b", "! @", "! @&& a", "a @!b", "a @(b)", "(a) @(b)", "(a) @b", "(a @", "((a) @", "(@)", "a @)", "(a) @)", "a || (b @", "a || b @)", "(a) @== 1", "!a @== 1", "(a) @| 1", "(a) @& 1", "!(@)", "(a || @)", "(a @, b)", "a || @1", "(@1)", "!@1", "!(a @!b)", "a | @(b)"} {
		for _, n := range "ab" {
			s = strings.ReplaceAll(s, string(n), string(n)+" == 1")
		}
		wantText(t, inCond(s), api.ErrSyntax)
	}
}

// NAMEs are words that are tree.Name, wherever they stand.
func TestP1201Names(t *testing.T) {
	places := []string{"#define % 1", "#define A %", "#define A 1 | %", "POLICY % { }", "USE % DEFAULT LOG", "USE a, % DEFAULT LOG", "POLICY p { USE % }", "POLICY p { LOG { % } }", "POLICY p { LOG { a % } }", "POLICY p { LOG { a, % } }", "POLICY p { LOG { a(%) } }", "POLICY p { LOG { a(b, %) } }", "POLICY p { LOG { a { % == 1 } } }", "POLICY p { LOG { a { % & 1 == 1 } } }", "POLICY p { LOG { a { x & % == 1 } } }", "POLICY p { LOG { a { x == % } } }", "POLICY p { LOG { a { x == 1 | % } } }", "POLICY p { LOG { a { x == 1 && (%== 1) } } }"}
	for _, place := range places {
		at := len(tokens(t, strings.Split(place, "%")[0]))
		l := tokens(t, strings.Replace(place, "%", "NAME", 1))
		put := func(x api.Token) []api.Token {
			l := slices.Clone(l)
			l[at].Kind, l[at].Text = x.Kind, x.Text
			return l
		}
		for _, s := range []string{"a", "Z", "_", "use", "Kill", "USES", "KILL_THREAD", "x86_64", "p", "define", "DEFAULT_", "TRAP1", strings.Repeat("a", 40000)} {
			got := put(api.Token{Kind: api.TWord, Text: s})
			wantWrong(t, got)
			if err, _ := wrong(got); err == api.ErrSyntax {
				t.Errorf("%s does not fit", text(got))
			}
		}
		for _, s := range own {
			wantWrong(t, put(api.Token{Kind: api.TWord, Text: s}))
		}
		for _, s := range []string{"", "1a", "a b", "a-", "ü", "a\n", "#define", "\x00", "a\xff", "\"a\"", "1", "(", "}"} {
			wantFault(t, put(api.Token{Kind: api.TWord, Text: s}), api.ErrSyntax, at)
		}
		for _, kind := range []int{0, api.TSign, api.TString, api.THash, 6, -1, math.MaxInt, math.MinInt, api.TNum} {
			wantFault(t, put(api.Token{Kind: kind, Text: "a"}), api.ErrSyntax, at)
		}
	}
}

// Number tokens whose texts are no numbers do not fit, wherever they stand.
func TestP1201NumbersNot(t *testing.T) {
	for _, place := range []string{"#define A %", "#define A 1 | %", "USE p DEFAULT ERRNO(%", "POLICY p { TRAP(%", "POLICY p { TRACE(%", "POLICY p { LOG { a { x & %", "POLICY p { LOG { a { x == %", "POLICY p { LOG { a { x == A|%"} {
		l := tokens(t, strings.Replace(place, "%", "", 1)+" 1 1")
		at := len(l) - 2
		wantFault(t, l, api.ErrSyntax, at+1)
		for _, s := range []string{"", "0x", "x", "0X1", "-1", "+1", "1_0", "0x_1", "0x1_0", "0x+1", "0x-1", "0b1", "0o7", "1.0", "1e1", " 1", "1 ", "0xg", "ff", "١", "18446744073709551616", "0x10000000000000000", "99999999999999999999999999", "0x0x1", "inf", "1u"} {
			l[at].Kind, l[at].Text = api.TNum, s
			wantFault(t, l, api.ErrSyntax, at)
		}
		for _, kind := range []int{0, api.TWord, api.TSign, api.TString, api.THash, 6, -1} {
			l[at].Kind, l[at].Text = kind, "1"
			wantFault(t, l, api.ErrSyntax, at)
		}
	}
}

// A token whose text is right, but not its kind, does not fit.
func TestP1201Kinds(t *testing.T) {
	l := tokens(t, "#define A 1 | B POLICY p { USE q, ERRNO(1) { r(x, y) { !(x & 1 == 2) && y < 1 || y > 0x5 } } ALLOW { } } USE p, q DEFAULT KILL_PROCESS")
	for i := range l {
		for _, kind := range []int{0, api.TWord, api.TNum, api.TSign, api.TString, api.THash, 6, -5} {
			got := slices.Clone(l)
			got[i].Kind = kind
			if kind == l[i].Kind {
				wantWrong(t, got)
			} else {
				wantFault(t, got, api.ErrSyntax, i)
			}
		}
	}
}

func TestP1202Syntax(t *testing.T) {
	l := tokens(t, "#define A 1 | B POLICY p { USE q, ERRNO(1) { r(x, y) { !(x & 1 == 2) && y < 1 || y > 0x5 } s, t } ALLOW { } LOG { u } } USE p, q DEFAULT TRACE(2) POLICY q { }")
	var signs []api.Token
	for _, x := range tokens(t, "{ } ( ) , ! & | && || == != < <= > >= a B 0 70000 POLICY USE DEFAULT ALLOW LOG KILL KILL_PROCESS TRAP ERRNO TRACE \"a\" #define #include") {
		signs = append(signs, api.Token{Kind: x.Kind, Text: x.Text})
	}
	for i := range len(l) + 1 {
		wantWrong(t, l[:i])
		for _, x := range signs {
			wantWrong(t, placed(slices.Insert(slices.Clone(l), i, x)))
			if i < len(l) {
				wantWrong(t, placed(slices.Replace(slices.Clone(l), i, i+1, x)))
				wantWrong(t, placed(append(slices.Clone(l[:i]), x)))
			}
		}
		if i < len(l) {
			wantWrong(t, placed(slices.Delete(slices.Clone(l), i, i+1)))
		}
	}
}

// All small conditions, of what a condition may have.
func TestP1202AllSmall(t *testing.T) {
	ahead, behind := "POLICY p { LOG { r { ", " } } }"+last
	pieces := []string{"a", "1", "==", "!", "(", ")", "&", "|", "&&", "||", "a == 1", "a & 1"}
	var all func(s string, room int)
	all = func(s string, room int) {
		wantWrong(t, tokens(t, ahead+s+behind))
		if room > 0 {
			for _, p := range pieces {
				all(s+" "+p, room-1)
			}
		}
	}
	all("", 4)
}

// nots is a text of n `!`.
func nots(n int) string { return strings.Repeat("!", n) }

// inNots is e in n nots.
func inNots(n int, e api.Expr) api.Expr {
	for range n {
		e = not(e)
	}
	return e
}

func TestP1202Deep(t *testing.T) {
	// A comparison is 2 deep, with a mask or a `|` 3.
	for s, n := range map[string]int{"a == 1": 2, "a & 1 == 1": 3, "a == 1 | 2": 3, "a & 1 == 1 | 2 | 3": 4, "(a == 1 || a == 2)": 3, "(a == 1 && (a == 2 || !a == 3))": 5} {
		for _, more := range []int{0, 1, api.MaxNest - n - 1, api.MaxNest - n, api.MaxNest - n + 1, api.MaxNest - n + 2, 500} {
			l := tokens(t, inCond(nots(more)+s))
			if n+more > api.MaxNest {
				wantFault(t, l, api.ErrDeep, 6)
			} else if u, f := parse.Parse(l, end); f != (api.Fault{}) || tree.Depth(u.Policies[0].Parts[0].Rules[0].Cond[0]) != n+more {
				t.Errorf("%d nots of %s: %+v, %v", more, s, u, f)
			}
		}
	}
	for kind, sign := range map[int]string{api.XOr: "||", api.XAnd: "&&"} {
		for n := 1; n < 40; n++ {
			e := is("a")
			for range n - 1 {
				e = of(kind, e, is("a"))
			}
			s := strings.Repeat("a == 1 "+sign, n-1) + " a == 1"
			if n+1 > api.MaxNest {
				wantFault(t, tokens(t, inCond(s)), api.ErrDeep, 6)
			} else {
				wantUnit(t, inCond(s), conditioned(e))
			}
		}
	}
	wantUnit(t, inCond("a == "+strings.Repeat("1|", 28)+"1"), conditioned(cmp("==", name("a"), ors(29))))
	wantFault(t, tokens(t, inCond("a == "+strings.Repeat("1|", 29)+"1")), api.ErrDeep, 6)
	// What is no condition may be of any depth, and parentheses make nothing deeper.
	wantUnit(t, "#define A "+strings.Repeat("1|", 300)+"1"+last, with(api.Unit{Defines: []api.Define{{Name: "A", Expr: ors(301)}}}))
	wantUnit(t, inCond(strings.Repeat("(", 300)+nots(28)+"a == 1"+strings.Repeat(")", 300)), conditioned(inNots(28, is("a"))))
	// Only a condition of its own counts.
	wantUnit(t, inRules("r { "+nots(28)+"a == 1 } r { "+nots(28)+"a == 1 }"), ruled(
		api.Rule{Call: "r", Cond: []api.Expr{inNots(28, is("a"))}}, api.Rule{Call: "r", Cond: []api.Expr{inNots(28, is("a"))}}))
}

// ors are n times 1, with `|` between.
func ors(n int) api.Expr {
	e := num(1)
	for range n - 1 {
		e = bits(e, num(1))
	}
	return e
}

// What is wrong is told in the order in which it is read.
func TestP1202DeepFirst(t *testing.T) {
	deep := nots(29) + "a == 1"
	for _, s := range []string{
		"POLICY p { LOG { r @{ " + deep + " } } }",
		"POLICY p { LOG { r(x, y) @{ " + deep + " } } } USE p DEFAULT LOG",
		"POLICY p { LOG { a, r(x) { a == 1 }, r @{ " + deep + " } r { " + deep + " } } } #define",
		"POLICY p { LOG { r @{ " + deep + " } , } ",
		"POLICY p { LOG { r @{ " + deep + " } ",
		"USE p DEFAULT LOG POLICY p { LOG { r @{ " + deep + " } } } USE p DEFAULT LOG",
		"POLICY p { LOG { r @{ " + deep + " } } } USE p DEFAULT LOG USE p DEFAULT LOG",
		// The condition was read, whatever is behind it.
		"POLICY p { LOG { r @{ " + deep,
		"POLICY p { LOG { r @{ " + deep + " ) } } }",
		"POLICY p { LOG { r @{ " + deep + " { } } }",
	} {
		wantText(t, s, api.ErrDeep)
	}
	for _, s := range []string{
		"POLICY p { LOG { r { " + nots(29) + "a == @} } }",
		"POLICY p { LOG { r { " + nots(29) + "a @} } }",
		"POLICY p { LOG { r { " + deep + " || @} } }",
		"POLICY p { LOG { r { (" + deep + " @} } }",
		"POLICY p { LOG { r { " + deep + " | @} } }",
		"POLICY p { LOG { r { " + deep + " &&",
		"POLICY p { LOG @r { " + deep + " } } }",
		"POLICY p { LOG { r(x @{ " + deep + " } } }",
		"POLICY p { LOG { @{ " + deep + " } } }",
		"POLICY p { LOG { r { a == 1 @a { " + deep + " } } } }",
	} {
		wantText(t, s, api.ErrSyntax)
	}
}

func TestP1202MainTwice(t *testing.T) {
	for _, s := range []string{
		"USE a DEFAULT LOG @USE a DEFAULT LOG",
		"USE a DEFAULT LOG @USE b, c DEFAULT ERRNO(1)",
		"USE a DEFAULT LOG @USE a DEFAULT LOG USE a DEFAULT LOG",
		"USE a DEFAULT TRAP(1) #define A 1 POLICY p { USE q } @USE p DEFAULT LOG POLICY q { }",
		"USE a DEFAULT LOG @USE a DEFAULT LOG )",
		"USE a DEFAULT LOG @USE a DEFAULT TRAP(1) (1)",
		"USE a DEFAULT LOG @USE a DEFAULT LOG POLICY p {",
		"USE a DEFAULT LOG @USE a DEFAULT LOG POLICY p { LOG { r { " + nots(40) + "a == 1 } } }",
	} {
		wantText(t, s, api.ErrMain)
	}
	for _, s := range []string{"USE a DEFAULT LOG USE", "USE a DEFAULT LOG USE @DEFAULT LOG", "USE a DEFAULT LOG USE a", "USE a DEFAULT LOG USE a, @DEFAULT LOG", "USE a DEFAULT LOG USE a DEFAULT", "USE a DEFAULT LOG USE a DEFAULT @a", "USE a DEFAULT LOG USE a DEFAULT TRAP", "USE a DEFAULT LOG USE a DEFAULT TRAP(1", "USE a DEFAULT LOG USE a DEFAULT TRAP(@65536)", "USE a DEFAULT LOG USE a DEFAULT TRAP(1 @USE"} {
		wantText(t, s, api.ErrSyntax)
	}
}

func TestP1202MainNone(t *testing.T) {
	for _, s := range []string{"", "#define A 1", "POLICY p { }", "POLICY p { USE q }", "POLICY p { LOG { r { x == 1 } } } #define A B | 1"} {
		wantText(t, s, api.ErrMain)
	}
	wantText(t, "POLICY p { } @{", api.ErrSyntax)
	wantText(t, "POLICY p { LOG { r @{ "+nots(29)+" a == 1 } } }", api.ErrDeep)
}

// What end tells is told as it is, its Err not looked at; without a fault nothing of it is told.
func TestP1202End(t *testing.T) {
	for _, f := range []api.Fault{{}, {Err: api.ErrSyntax, File: 3, Spot: 4 + 5i}, {Err: -1, File: math.MinInt, Spot: complex(math.Inf(-1), math.MaxFloat64)}} {
		if _, got := parse.Parse(nil, f); got != (api.Fault{Err: api.ErrMain, File: f.File, Spot: f.Spot}) {
			t.Errorf("%v, of %v", got, f)
		}
		if _, got := parse.Parse(tokens(t, "USE a"), f); got != (api.Fault{Err: api.ErrSyntax, File: f.File, Spot: f.Spot}) {
			t.Errorf("%v, of %v", got, f)
		}
		if u, got := parse.Parse(tokens(t, last), f); got != (api.Fault{}) || !tree.Same(u, with(api.Unit{})) {
			t.Errorf("%v, %v, of %v", u, got, f)
		}
	}
	odd := api.Fault{Spot: complex(math.NaN(), 1)}
	if _, got := parse.Parse(nil, odd); got.Err != api.ErrMain || got.Spot == got.Spot {
		t.Errorf("%v, of %v", got, odd)
	}
}

// chance makes numbers that look as if they came by chance.
type chance uint32

func (c *chance) next(most int) int {
	*c = *c*1664525 + 1013904223
	return int(*c>>9) % most
}

func (c *chance) pick(l ...string) string {
	return l[c.next(len(l))]
}

func (c *chance) name() string {
	return c.pick("a", "b", "flags", "_", "O_RW", "x86_64", "read", "use")
}

func (c *chance) single() api.Expr {
	if c.next(2) == 0 {
		return name(c.name())
	}
	return num([]uint64{0, 1, 2, 10, 255, 1 << 32, math.MaxUint64, uint64(c.next(1 << 20))}[c.next(8)])
}

func (c *chance) number() api.Expr {
	e := c.single()
	for c.next(3) == 0 {
		e = bits(e, c.single())
	}
	return e
}

// truth is a condition that has room for so many more within it.
func (c *chance) truth(room int) api.Expr {
	if room > 0 {
		switch c.next(6) {
		case 0, 1:
			return or(c.truth(room-1), c.truth(room-1))
		case 2, 3:
			return and(c.truth(room-1), c.truth(room-1))
		case 4:
			return not(c.truth(room - 1))
		}
	}
	left := name(c.name())
	if c.next(3) == 0 {
		left = mask(c.name(), c.single())
	}
	return cmp(c.pick("==", "!=", "<", "<=", ">", ">="), left, c.number())
}

func (c *chance) action() api.Action {
	kind := 1 + c.next(7)
	if kind < api.Trap || kind > api.Trace {
		return api.Action{Kind: kind}
	}
	return api.Action{Kind: kind, Data: []int{0, 1, 65535, c.next(65536)}[c.next(4)]}
}

func (c *chance) rule() api.Rule {
	r := api.Rule{Call: c.name()}
	for c.next(2) == 0 {
		r.Params = append(r.Params, c.name())
	}
	if c.next(2) == 0 {
		r.Cond = []api.Expr{c.truth(c.next(5))}
	}
	return r
}

func (c *chance) unit() api.Unit {
	u := api.Unit{Main: []string{c.name()}, Default: c.action()}
	for c.next(2) == 0 {
		u.Main = append(u.Main, c.name())
	}
	for c.next(3) > 0 {
		u.Defines = append(u.Defines, api.Define{Name: c.name(), Expr: c.number()})
	}
	for c.next(3) > 0 {
		p := api.Policy{Name: c.name()}
		for c.next(3) > 0 {
			if c.next(3) == 0 {
				p.Parts = append(p.Parts, api.Part{Use: c.name()})
				continue
			}
			part := api.Part{Action: c.action()}
			for c.next(3) > 0 {
				part.Rules = append(part.Rules, c.rule())
			}
			p.Parts = append(p.Parts, part)
		}
		u.Policies = append(u.Policies, p)
	}
	return u
}

// written is a text of a number.
func (c *chance) written(e api.Expr) string {
	switch e.Kind {
	case api.XName:
		return e.Name
	case api.XBits:
		return c.written(e.Kids[0]) + c.pick("|", " | ") + c.written(e.Kids[1])
	}
	if c.next(2) == 0 {
		return strconv.FormatUint(e.Num, 10)
	}
	return "0x" + c.pick("", "0") + strconv.FormatUint(e.Num, 16)
}

// rank is how tight a condition is joined.
func rank(e api.Expr) int {
	switch e.Kind {
	case api.XOr:
		return 0
	case api.XAnd:
		return 1
	}
	return 2
}

// cond is a text of a condition, which is to be joined at least as tight as that.
func (c *chance) cond(e api.Expr, tight int) string {
	if rank(e) < tight || c.next(6) == 0 {
		return "(" + c.cond(e, 0) + ")"
	}
	switch e.Kind {
	case api.XOr:
		return c.cond(e.Kids[0], 0) + " || " + c.cond(e.Kids[1], 1)
	case api.XAnd:
		return c.cond(e.Kids[0], 1) + "&&" + c.cond(e.Kids[1], 2)
	case api.XNot:
		return "!" + c.cond(e.Kids[0], 2)
	}
	left := e.Kids[0].Name
	if e.Kids[0].Kind == api.XMask {
		left += " & " + c.written(e.Kids[0].Kids[0])
	}
	return left + e.Op + c.written(e.Kids[1])
}

func (c *chance) act(a api.Action) string {
	s := [...]string{"", "KILL_PROCESS", "KILL", "TRAP", "ERRNO", "TRACE", "LOG", "ALLOW"}[a.Kind]
	if a.Kind < api.Trap || a.Kind > api.Trace {
		return s
	}
	return s + "(" + c.written(num(uint64(a.Data))) + ")"
}

func (c *chance) ruling(r api.Rule) string {
	s := r.Call
	if len(r.Params) > 0 || c.next(2) == 0 {
		s += "(" + strings.Join(r.Params, ", ") + ")"
	}
	for _, e := range r.Cond {
		s += " { " + c.cond(e, 0) + " }"
	}
	return s
}

// listed is a text of several, in braces, a `,` between some of them.
func (c *chance) listed(l []string) string {
	s := " {"
	for i, x := range l {
		if i > 0 {
			s += c.pick(" ", ", ")
		}
		s += x
	}
	return s + "}"
}

func (c *chance) policy(p api.Policy) string {
	var parts []string
	for _, part := range p.Parts {
		if part.Use != "" {
			parts = append(parts, "USE "+part.Use)
			continue
		}
		var rules []string
		for _, r := range part.Rules {
			rules = append(rules, c.ruling(r))
		}
		parts = append(parts, c.act(part.Action)+c.listed(rules))
	}
	return "POLICY " + p.Name + c.listed(parts)
}

// text is one of the texts that u has: the defines are in their order, and so are the policies, and anything else is as chance has it.
func (c *chance) text(u api.Unit) string {
	s, used := "", false
	for d, p := u.Defines, u.Policies; len(d)+len(p) > 0 || !used; {
		switch n := c.next(3); {
		case n == 0 && len(d) > 0:
			s += "#define " + d[0].Name + " " + c.written(d[0].Expr) + "\n"
			d = d[1:]
		case n == 1 && len(p) > 0:
			s += c.policy(p[0]) + "\n"
			p = p[1:]
		case n == 2 && !used:
			s += "USE " + strings.Join(u.Main, ", ") + " DEFAULT " + c.act(u.Default) + "\n"
			used = true
		}
	}
	return s
}

func TestP1202Any(t *testing.T) {
	c := chance(12)
	for range 3000 {
		u := c.unit()
		wantUnit(t, c.text(u), u)
	}
}

// turned is l with a few tokens gone, put there, or others.
func (c *chance) turned(l, others []api.Token) []api.Token {
	l = slices.Clone(l)
	for range 1 + c.next(3) {
		i := c.next(len(l) + 1)
		switch c.next(4) {
		case 0:
			l = slices.Insert(l, i, others[c.next(len(others))])
		case 1:
			l = append(l[:i], l[min(i+1, len(l)):]...)
		case 2:
			l = slices.Insert(l, i, l[min(i, len(l)):min(i+1+c.next(9), len(l))]...)
		default:
			if i < len(l) {
				l[i] = others[c.next(len(others))]
			}
		}
	}
	return placed(l)
}

func TestP1202AnyTurned(t *testing.T) {
	c := chance(1202)
	others := tokens(t, "{ } ( ) , ! & | && || == < a O_RW 0 65536 POLICY USE DEFAULT ALLOW KILL ERRNO \"a\" #define #include")
	for range 1500 {
		wantWrong(t, c.turned(tokens(t, c.text(c.unit())), others))
	}
}

// Deep and long texts take no deep stack, and no more steps than they have tokens.
func TestP1202Long(t *testing.T) {
	defer debug.SetMaxStack(debug.SetMaxStack(1 << 20))
	ahead, one := tokens(t, "POLICY p { LOG { r { "), tokens(t, "a == 1")
	behind := tokens(t, "} } } "+last)
	sign := func(s string) api.Token { return api.Token{Kind: api.TSign, Text: s, File: 5} }
	const n = 100000
	repeated := func(l ...api.Token) []api.Token { return slices.Repeat(l, n) }
	wantEach := func(err api.Errno, at int, l ...[]api.Token) {
		t.Helper()
		all := slices.Concat(l...)
		if _, f := parse.Parse(all, end); f != fault(all, err, at) {
			t.Errorf("%v, not %v", f, fault(all, err, at))
		}
	}
	wantEach(api.OK, 0, ahead, repeated(sign("(")), one, repeated(sign(")")), behind)
	wantEach(api.ErrSyntax, len(ahead)+n, ahead, repeated(sign("(")), behind)
	wantEach(api.ErrSyntax, len(ahead)+n+3+n, ahead, repeated(sign("(")), one, repeated(sign(")")), tokens(t, ")"), behind)
	wantEach(api.ErrDeep, len(ahead)-1, ahead, repeated(sign("!")), one, behind)
	wantEach(api.ErrDeep, len(ahead)-1, ahead, repeated(sign("!"), sign("(")), one, repeated(sign(")")), behind)
	wantEach(api.ErrDeep, len(ahead)-1, ahead, repeated(slices.Concat(one, []api.Token{sign("||")})...), one, behind)
	wantEach(api.ErrDeep, len(ahead)-1, ahead, repeated(slices.Concat(one, []api.Token{sign("&&"), sign("(")})...), one, repeated(sign(")")), behind)
	wantEach(api.ErrDeep, len(ahead)-1, ahead, one, repeated(sign("|"), one[2]), behind)
	wantEach(api.OK, 0, tokens(t, "#define A 1"), repeated(sign("|"), one[2]), tokens(t, last))
	wantEach(api.OK, 0, ahead[:5], repeated(ahead[5]), behind[1:])
	wantEach(api.ErrMain, 3*n, repeated(tokens(t, "#define A 1")...)[:3*n])
}

// shown is all that Parse tells.
func shown(l []api.Token) string {
	u, f := parse.Parse(l, end)
	return fmt.Sprintf("%+v %v", u, f)
}

// lists are lists of tokens of all kinds, right and wrong.
func lists(t *testing.T) [][]api.Token {
	var out [][]api.Token
	for _, s := range []string{"", last, "#define A 1 | B" + last, inRules("r(x, y) { x & A == 1 && !(y < B || y > 2) } s, t"), inRules("r { x == }"), inRules("r { " + nots(50) + "x == 1 }"), last + last, "POLICY p { USE q, ERRNO(5) { } USE r }", "POLICY p { ERRNO(5) { } USE r } USE a, b DEFAULT TRACE(6)"} {
		out = append(out, tokens(t, s))
	}
	return out
}

func TestP1203Right(t *testing.T) {
	c := chance(1203)
	others := tokens(t, ", ! & | a 0 == USE ( )")
	right := 0
	for range 4000 {
		l := c.turned(tokens(t, c.text(c.unit())), others)
		u, f := parse.Parse(l, end)
		switch {
		case f == (api.Fault{}) && !tree.Right(u):
			t.Errorf("Parse of %s: %+v", text(l), u)
		case f == (api.Fault{}):
			right++
		case f.Err == api.OK || !reflect.DeepEqual(u, api.Unit{}):
			t.Errorf("Parse of %s: %+v, %v", text(l), u, f)
		}
	}
	if right < 100 {
		t.Errorf("only %d were right", right)
	}
}

func TestP1203HandedInStays(t *testing.T) {
	spare := api.Token{Kind: -1, Text: "spare", File: -2, Spot: -3}
	for _, l := range lists(t) {
		// Spare room behind the list stays, too.
		room := append(slices.Clone(l), spare)
		parse.Parse(room[:len(l)], end)
		if !slices.Equal(room[:len(l)], l) || room[len(l)] != spare {
			t.Errorf("%v, which was %v", room, l)
		}
	}
}

func TestP1203ArgumentsAlone(t *testing.T) {
	var want []string
	for _, l := range lists(t) {
		want = append(want, shown(l))
	}
	for _, before := range lists(t) {
		for i, l := range lists(t) {
			parse.Parse(before, api.Fault{File: 5})
			if got := shown(l); got != want[i] {
				t.Errorf("%s, which was %s", got, want[i])
			}
			// What stands behind a list, and the rest of a list, are nothing to it.
			if got := shown(append(slices.Clone(l), before...)[:len(l)]); got != want[i] {
				t.Errorf("%s, which was %s", got, want[i])
			}
		}
	}
}

// Bytes and lists that are used again for others are nothing to an answer that was given.
func TestP1203NotKept(t *testing.T) {
	for _, l := range lists(t) {
		var all [][]byte
		for i := range l {
			b := []byte(l[i].Text)
			all = append(all, b)
			l[i].Text = unsafe.String(unsafe.SliceData(b), len(b))
		}
		u, f := parse.Parse(l, end)
		was := fmt.Sprintf("%+v %v", u, f)
		for _, b := range all {
			for i := range b {
				b[i] = '$'
			}
		}
		clear(l)
		if is := fmt.Sprintf("%+v %v", u, f); is != was {
			t.Errorf("%s, which was %s", is, was)
		}
	}
}

// fill writes to all of an answer, the spare room of its lists too, each list something of its own; it tells how many lists there are.
func fill(v reflect.Value, n *int) {
	switch v.Kind() {
	case reflect.Struct:
		for i := range v.NumField() {
			fill(v.Field(i), n)
		}
	case reflect.Slice:
		for i := range v.Len() {
			fill(v.Index(i), n)
		}
		room := v.Slice(0, v.Cap())
		for i := v.Len(); i < v.Cap(); i++ {
			room.Index(i).SetZero()
		}
	case reflect.String:
		*n++
		v.SetString("s" + strconv.Itoa(*n))
	case reflect.Int:
		*n++
		v.SetInt(int64(*n))
	case reflect.Uint64:
		*n++
		v.SetUint(uint64(*n))
	}
}

// counted tells whether what fill wrote is still there.
func counted(v reflect.Value, n *int) bool {
	switch v.Kind() {
	case reflect.Struct:
		for i := range v.NumField() {
			if !counted(v.Field(i), n) {
				return false
			}
		}
	case reflect.Slice:
		for i := range v.Len() {
			if !counted(v.Index(i), n) {
				return false
			}
		}
	case reflect.String:
		*n++
		return v.String() == "s"+strconv.Itoa(*n)
	case reflect.Int:
		*n++
		return v.Int() == int64(*n)
	case reflect.Uint64:
		*n++
		return v.Uint() == uint64(*n)
	}
	return true
}

// An answer's lists, their spare room too, are neither each other's nor another answer's.
func TestP1203NewMemory(t *testing.T) {
	c := chance(77)
	for range 200 {
		l := tokens(t, c.text(c.unit()))
		was := shown(l)
		one, _ := parse.Parse(l, end)
		two, _ := parse.Parse(l, end)
		n := 0
		fill(reflect.ValueOf(&one).Elem(), &n)
		n = 0
		if !counted(reflect.ValueOf(one), &n) {
			t.Errorf("lists of one answer share room: %s", text(l))
		}
		if is := fmt.Sprintf("%+v %v", two, api.Fault{}); is != was {
			t.Errorf("%s, which was %s", is, was)
		}
		if is := shown(l); is != was {
			t.Errorf("%s, which was %s", is, was)
		}
	}
}

func TestP1203Together(t *testing.T) {
	all := lists(t)
	var group sync.WaitGroup
	for _, l := range all {
		want := shown(l)
		for range 4 {
			group.Go(func() {
				for range 30 {
					if got := shown(l); got != want {
						t.Errorf("%s, which was %s", got, want)
					}
				}
			})
		}
	}
	group.Wait()
}

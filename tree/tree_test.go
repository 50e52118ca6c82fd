package tree_test

import (
	"fmt"
	"math"
	"reflect"
	"regexp"
	"runtime/debug"
	"slices"
	"strings"
	"sync"
	"testing"

	"tipstaff/api"
	"tipstaff/token"
	"tipstaff/tree"
)

// own are the words that are no names.
var own = []string{"POLICY", "USE", "DEFAULT", "ALLOW", "LOG", "KILL", "KILL_PROCESS", "TRAP", "ERRNO", "TRACE"}

// ops are all that stand in comparisons.
var ops = []string{"==", "!=", "<", "<=", ">", ">="}

func num(n uint64) api.Expr {
	return api.Expr{Kind: api.XNum, Num: n}
}

func name(s string) api.Expr {
	return api.Expr{Kind: api.XName, Name: s}
}

// of is an expression that has a kind and kids alone.
func of(kind int, kids ...api.Expr) api.Expr {
	return api.Expr{Kind: kind, Kids: kids}
}

func cmp(op string, kids ...api.Expr) api.Expr {
	return api.Expr{Kind: api.XCmp, Op: op, Kids: kids}
}

func mask(s string, kids ...api.Expr) api.Expr {
	return api.Expr{Kind: api.XMask, Name: s, Kids: kids}
}

func or(a, b api.Expr) api.Expr   { return of(api.XOr, a, b) }
func and(a, b api.Expr) api.Expr  { return of(api.XAnd, a, b) }
func not(a api.Expr) api.Expr     { return of(api.XNot, a) }
func bits(a, b api.Expr) api.Expr { return of(api.XBits, a, b) }

// is is a comparison of `a` with 1.
func is() api.Expr {
	return cmp("==", name("a"), num(1))
}

// nots is e in n nots.
func nots(n int, e api.Expr) api.Expr {
	for range n {
		e = not(e)
	}
	return e
}

// wordForm is what a word is.
var wordForm = regexp.MustCompile(`^[A-Za-z_][A-Za-z0-9_]*$`)

// isName tells what Name is to answer.
func isName(s string) bool {
	return wordForm.MatchString(s) && !strings.HasSuffix(s, "\n") && !slices.Contains(own, s)
}

// only is whether an expression has just that Op, Name and Num, and that many kids.
func only(e api.Expr, op, name string, num uint64, kids int) bool {
	return e.Op == op && e.Name == name && e.Num == num && len(e.Kids) == kids
}

// isSingle is whether e is an XNum or an XName that is a Number.
func isSingle(e api.Expr) bool {
	return e.Kind == api.XNum && only(e, "", "", e.Num, 0) || e.Kind == api.XName && only(e, "", e.Name, 0, 0) && isName(e.Name)
}

// isNumber tells what Number is to answer.
func isNumber(e api.Expr) bool {
	if e.Kind != api.XBits {
		return isSingle(e)
	}
	return only(e, "", "", 0, 2) && isNumber(e.Kids[0]) && isNumber(e.Kids[1]) && e.Kids[1].Kind != api.XBits
}

// isCompared is whether e may stand on the left of a comparison.
func isCompared(e api.Expr) bool {
	if e.Kind == api.XMask {
		return only(e, "", e.Name, 0, 1) && isName(e.Name) && isSingle(e.Kids[0])
	}
	return e.Kind == api.XName && isSingle(e)
}

// isBool tells what Bool is to answer.
func isBool(e api.Expr) bool {
	switch e.Kind {
	case api.XOr, api.XAnd:
		return only(e, "", "", 0, 2) && isBool(e.Kids[0]) && isBool(e.Kids[1])
	case api.XNot:
		return only(e, "", "", 0, 1) && isBool(e.Kids[0])
	case api.XCmp:
		return only(e, e.Op, "", 0, 2) && slices.Contains(ops, e.Op) && isCompared(e.Kids[0]) && isNumber(e.Kids[1])
	}
	return false
}

// depth tells what Depth is to answer.
func depth(e api.Expr) int {
	most := 0
	for _, kid := range e.Kids {
		most = max(most, depth(kid))
	}
	return 1 + most
}

// check holds Number, Bool and Depth against what the chapter says.
func check(t *testing.T, e api.Expr) {
	t.Helper()
	if got, want := tree.Number(e), isNumber(e); got != want {
		t.Errorf("Number of %+v: %v", e, got)
	}
	if got, want := tree.Bool(e), isBool(e); got != want {
		t.Errorf("Bool of %+v: %v", e, got)
	}
	if got, want := tree.Depth(e), depth(e); got != want {
		t.Errorf("Depth of %+v: %d, not %d", e, got, want)
	}
}

// wantKind holds an expression against being a Number, a Bool, or none of them.
func wantKind(t *testing.T, e api.Expr, number, truth bool) {
	t.Helper()
	if got := tree.Number(e); got != number {
		t.Errorf("Number of %+v: %v", e, got)
	}
	if got := tree.Bool(e); got != truth {
		t.Errorf("Bool of %+v: %v", e, got)
	}
	check(t, e)
}

func TestP1101Name(t *testing.T) {
	for _, s := range []string{"a", "Z", "_", "__", "read", "x86_64", "_0", "a1", "O_RDONLY", "A9z", strings.Repeat("a", api.MaxText+1), "_" + strings.Repeat("9", 100000)} {
		if !tree.Name(s) {
			t.Errorf("Name of %.40q: false", s)
		}
	}
	for _, s := range []string{"", "0", "1a", "9_", "0x1", " ", " a", "a ", "a b", "a\n", "\na", "a-b", "a.b", "a,", "\"a\"", "#define", "é", "aé", "a\x00", "\x00", "a\xff", "\xff", "a·", "{", "==", "//a", "a/**/", strings.Repeat("a", 30000) + "-"} {
		if tree.Name(s) {
			t.Errorf("Name of %.40q: true", s)
		}
	}
}

func TestP1101NameOwnWords(t *testing.T) {
	for _, s := range own {
		if tree.Name(s) {
			t.Errorf("Name of %q: true", s)
		}
		for _, near := range []string{strings.ToLower(s), s + "_", "_" + s, s + "1", s + s, s[:len(s)-1], s[1:], s[:1] + strings.ToLower(s[1:])} {
			if !tree.Name(near) {
				t.Errorf("Name of %q: false", near)
			}
		}
	}
	for _, s := range []string{"ERROR", "KILL_THREAD", "KillThread", "PROCESS", "include", "define", "INCLUDE", "DEFINE", "MAIN", "NAME"} {
		if !tree.Name(s) {
			t.Errorf("Name of %q: false", s)
		}
	}
}

// Each byte alone, ahead, within and behind: as token takes it.
func TestP1101NameAsToken(t *testing.T) {
	for b := range 256 {
		c := string([]byte{byte(b)})
		for _, s := range []string{c, c + "a", "a" + c, "a" + c + "b", c + c, "_" + c} {
			l, _ := token.Split(s, 0)
			word := len(l) == 1 && l[0].Kind == api.TWord && l[0].Text == s
			if got := tree.Name(s); got != word {
				t.Errorf("Name of %q: %v", s, got)
			}
		}
	}
}

func TestP1101Number(t *testing.T) {
	three := bits(bits(num(1), name("B")), num(4))
	for _, e := range []api.Expr{num(0), num(1), num(math.MaxUint64), name("a"), name("_"), name("POLICY_"), bits(num(1), num(2)), bits(name("A"), name("A")), bits(num(0), name("b")), three, bits(three, name("c"))} {
		wantKind(t, e, true, false)
	}
	for _, e := range []api.Expr{
		{}, {Kind: -1}, {Kind: 9}, {Kind: math.MinInt}, {Num: 1}, {Name: "a"},
		name(""), name("1"), name("USE"), name("a b"), name("é"),
		of(api.XBits), bits(num(1), three), bits(num(1), bits(num(2), num(3))), bits(three, three), bits(bits(num(1), bits(num(2), num(3))), num(4)),
		of(api.XBits, num(1)), of(api.XBits, num(1), num(2), num(3)), of(api.XBits, three), bits(of(api.XBits, num(1)), num(2)),
		bits(name("USE"), num(1)), bits(num(1), name("USE")), bits(bits(name("1"), num(1)), num(2)), bits(bits(num(1), name("1")), num(2)),
		bits(num(1), api.Expr{}), bits(api.Expr{}, num(1)), bits(is(), num(1)), bits(num(1), is()), bits(mask("a", num(1)), num(1)), bits(num(1), mask("a", num(1))),
		mask("a", num(1)), of(api.XOr, num(1), num(2)), of(api.XAnd, name("a"), name("b")), of(api.XNot, num(1)),
	} {
		wantKind(t, e, false, false)
	}
}

func TestP1101Bool(t *testing.T) {
	for _, op := range ops {
		wantKind(t, cmp(op, name("a"), num(1)), false, true)
		wantKind(t, cmp(op, mask("a", num(1)), num(math.MaxUint64)), false, true)
	}
	for _, e := range []api.Expr{
		cmp("<", name("a"), name("a")), cmp("<", name("a"), bits(bits(num(1), num(2)), name("b"))),
		cmp(">", mask("a", name("A")), num(0)), cmp(">", mask("_", num(0)), bits(num(1), num(2))),
		not(is()), not(not(is())), or(is(), is()), and(is(), is()), or(or(is(), is()), is()), or(is(), or(is(), is())),
		and(or(is(), not(is())), not(and(is(), is()))), not(or(and(is(), is()), and(is(), not(is())))),
	} {
		wantKind(t, e, false, true)
	}
}

func TestP1101BoolOps(t *testing.T) {
	for _, op := range []string{"", "=", "!", "===", "==!", "=<", "=>", "<>", "<<", "&", "&&", "||", "|", " ==", "== ", "eq", "==\x00", "a"} {
		wantKind(t, cmp(op, name("a"), num(1)), false, false)
		wantKind(t, not(cmp(op, mask("a", num(1)), num(1))), false, false)
	}
}

// Both sides of a comparison, each wrong for itself.
func TestP1101BoolSides(t *testing.T) {
	two, wrong := bits(num(1), num(2)), bits(num(1), bits(num(2), num(3)))
	for _, left := range []api.Expr{
		{}, num(1), name(""), name("USE"), name("1"), two, bits(name("a"), num(2)), is(), not(is()), or(is(), is()), {Kind: 9, Name: "a"},
		mask("", num(1)), mask("LOG", num(1)), mask("1", num(1)), mask("a"), mask("a", num(1), num(2)), mask("a", two), mask("a", name("USE")), mask("a", name("")),
		mask("a", api.Expr{}), mask("a", mask("a", num(1))), mask("a", is()),
	} {
		wantKind(t, cmp("==", left, num(1)), false, false)
	}
	for _, right := range []api.Expr{{}, name(""), name("USE"), wrong, bits(num(1), api.Expr{}), is(), not(is()), mask("a", num(1)), of(api.XBits, num(1)), {Kind: 9, Num: 1}} {
		wantKind(t, cmp("==", name("a"), right), false, false)
		wantKind(t, cmp("==", mask("a", num(1)), right), false, false)
	}
	wantKind(t, cmp("==", num(1), name("a")), false, false)
	wantKind(t, cmp("=="), false, false)
	wantKind(t, cmp("==", name("a")), false, false)
	wantKind(t, cmp("==", name("a"), num(1), num(1)), false, false)
}

// What is joined, with too few, too many or other kids.
func TestP1101BoolKids(t *testing.T) {
	for _, kind := range []int{api.XOr, api.XAnd} {
		for _, e := range []api.Expr{of(kind), of(kind, is()), of(kind, is(), is(), is()), of(kind, is(), num(1)), of(kind, name("a"), is()), of(kind, is(), api.Expr{}), of(kind, api.Expr{}, is())} {
			wantKind(t, e, false, false)
			wantKind(t, not(e), false, false)
		}
	}
	for _, e := range []api.Expr{of(api.XNot), of(api.XNot, is(), is()), not(api.Expr{}), not(num(1)), not(name("a")), not(mask("a", num(1))), not(of(api.XNot)), nots(5, name("a"))} {
		wantKind(t, e, false, false)
		wantKind(t, or(is(), e), false, false)
		wantKind(t, and(e, is()), false, false)
	}
}

// kinds are expressions of all kinds, each right for its kind.
func kinds() []api.Expr {
	return []api.Expr{or(is(), is()), and(is(), is()), not(is()), is(), name("a"), mask("a", num(1)), num(1), bits(num(1), num(2))}
}

// around is an expression within others: such that it is a Number or a Bool where one of its kind may stand.
func around(e api.Expr) api.Expr {
	switch e.Kind {
	case api.XName, api.XNum, api.XBits:
		return bits(e, num(1))
	case api.XMask:
		return not(cmp("==", e, num(1)))
	}
	return not(e)
}

// A field that a kind does not name is zero.
func TestP1101Fields(t *testing.T) {
	for _, e := range kinds() {
		wantKind(t, around(e), e.Kind == api.XName || e.Kind == api.XNum || e.Kind == api.XBits, e.Kind <= api.XCmp || e.Kind == api.XMask)
		bad := []api.Expr{e, e, e, e}
		bad[0].Op, bad[1].Name, bad[2].Num, bad[3].Kids = "<", "b", 1, append(slices.Clone(e.Kids), num(1))
		for i, x := range bad {
			named := i == 0 && e.Kind == api.XCmp || i == 1 && (e.Kind == api.XName || e.Kind == api.XMask) || i == 2 && e.Kind == api.XNum
			if !named {
				wantKind(t, x, false, false)
				wantKind(t, around(x), false, false)
			}
		}
		// An empty list is none.
		e.Kids = append([]api.Expr{}, e.Kids...)
		check(t, e)
		check(t, around(e))
	}
	wantKind(t, api.Expr{Kind: api.XNum, Kids: []api.Expr{}}, true, false)
	wantKind(t, api.Expr{Kind: api.XName, Name: "a", Kids: []api.Expr{}}, true, false)
}

func TestP1101Depth(t *testing.T) {
	for want, l := range map[int][]api.Expr{
		1: {{}, num(1), name("a"), {Kind: -5, Name: "x"}, of(api.XOr), {Kind: api.XNum, Kids: []api.Expr{}}},
		2: {is(), bits(num(1), num(2)), mask("a", num(1)), of(0, api.Expr{}), of(9, num(1), num(2), num(3))},
		3: {not(is()), or(is(), is()), cmp("==", mask("a", num(1)), num(1)), cmp("==", name("a"), bits(num(1), num(2))), of(api.XNum, num(1), of(77, num(1)), num(1))},
		4: {or(is(), not(is())), or(not(is()), is()), of(5, of(5, of(5, of(5))), num(1)), of(0, num(1), num(2), of(0, num(1), of(0, num(1))))},
	} {
		for _, e := range l {
			if got := tree.Depth(e); got != want {
				t.Errorf("Depth of %+v: %d, not %d", e, got, want)
			}
		}
	}
	for n := range 100 {
		if got := tree.Depth(nots(n, num(1))); got != n+1 {
			t.Errorf("Depth of %d nots: %d", n, got)
		}
	}
}

// deep is n expressions of a kind within one another, each the first or the last kid.
func deep(n, kind int, first bool, inner, beside api.Expr) api.Expr {
	e := inner
	for range n {
		switch {
		case kind == api.XNot:
			e = not(e)
		case first:
			e = of(kind, e, beside)
		default:
			e = of(kind, beside, e)
		}
	}
	return e
}

// What is deep needs no deep calls: there is little room for these here.
func TestP1101Deep(t *testing.T) {
	defer debug.SetMaxStack(debug.SetMaxStack(1 << 20))
	const n = 200000
	for _, kind := range []int{api.XNot, api.XOr, api.XAnd} {
		for _, first := range []bool{true, false} {
			e, bad := deep(n, kind, first, is(), is()), deep(n, kind, first, not(num(1)), is())
			if !tree.Bool(e) || tree.Bool(bad) || tree.Number(e) || tree.Depth(e) != n+2 || tree.Depth(bad) != n+2 {
				t.Errorf("kind %d: %v, %v, %v, %d, %d", kind, tree.Bool(e), tree.Bool(bad), tree.Number(e), tree.Depth(e), tree.Depth(bad))
			}
		}
	}
	e, bad := deep(n, api.XBits, true, num(1), name("a")), deep(n, api.XBits, false, num(1), name("a"))
	if !tree.Number(e) || tree.Number(bad) || tree.Depth(e) != n+1 || !tree.Bool(cmp("==", name("a"), e)) || tree.Bool(cmp("==", name("a"), bad)) {
		t.Errorf("XBits: %v, %v, %d", tree.Number(e), tree.Number(bad), tree.Depth(e))
	}
}

// chance makes numbers.
type chance uint32

func (c *chance) next(most int) int {
	*c = *c*1664525 + 1013904223
	return int(*c>>9) % most
}

// number is one, mostly right.
func (c *chance) number(room int) api.Expr {
	if room > 0 && c.next(3) == 0 {
		return bits(c.number(room-1), c.number(c.next(20)/19))
	}
	if c.next(2) == 0 {
		return num(uint64(c.next(9)))
	}
	return name([]string{"a", "b", "A_1"}[c.next(3)])
}

// truth is a condition, mostly right.
func (c *chance) truth(room int) api.Expr {
	if room > 0 {
		switch c.next(5) {
		case 0:
			return or(c.truth(room-1), c.truth(room-1))
		case 1:
			return and(c.truth(room-1), c.truth(room-1))
		case 2:
			return not(c.truth(room - 1))
		}
	}
	left := name("a")
	if c.next(2) == 0 {
		left = mask("a", c.number(c.next(20)/19))
	}
	return cmp(ops[c.next(6)], left, c.number(2))
}

// turned is e with one thing turned somewhere within it.
func (c *chance) turned(e api.Expr) api.Expr {
	e.Kids = slices.Clone(e.Kids)
	if n := len(e.Kids); n > 0 && c.next(3) > 0 {
		i := c.next(n)
		e.Kids[i] = c.turned(e.Kids[i])
		return e
	}
	switch c.next(6) {
	case 0:
		e.Kind = c.next(11) - 1
	case 1:
		e.Op = []string{"", "==", "<", "&"}[c.next(4)]
	case 2:
		e.Name = []string{"", "b", "USE", "1"}[c.next(4)]
	case 3:
		e.Num = uint64(c.next(3))
	case 4:
		e.Kids = append(e.Kids, c.number(1))
	default:
		e.Kids = e.Kids[:len(e.Kids)/2]
	}
	return e
}

func TestP1101Any(t *testing.T) {
	c := chance(11)
	counts := map[[2]bool]int{}
	for range 20000 {
		e := c.truth(4)
		if c.next(3) == 0 {
			e = c.number(4)
		}
		if c.next(2) == 0 {
			e = c.turned(e)
		}
		check(t, e)
		counts[[2]bool{isNumber(e), isBool(e)}]++
	}
	if counts[[2]bool{true, false}] < 1000 || counts[[2]bool{false, true}] < 1000 || counts[[2]bool{false, false}] < 1000 {
		t.Errorf("%v", counts)
	}
}

// unit is one that has something of all kinds, and is right.
func unit() api.Unit {
	read := api.Rule{Call: "read", Params: []string{"fd", "buf"}, Cond: []api.Expr{and(or(is(), not(is())), cmp("<", mask("a", name("M")), bits(bits(num(1), num(2)), name("M"))))}}
	return api.Unit{
		Defines: []api.Define{{Name: "M", Expr: num(3)}, {Name: "N", Expr: bits(name("M"), num(4))}},
		Policies: []api.Policy{
			{Name: "p", Parts: []api.Part{
				{Action: api.Action{Kind: api.Allow}, Rules: []api.Rule{{Call: "write"}, read}},
				{Use: "q"},
				{Action: api.Action{Kind: api.Error, Data: 5}},
			}},
			{Name: "q"},
		},
		Main:    []string{"p", "q"},
		Default: api.Action{Kind: api.Trap, Data: 65535},
	}
}

// turn is a change of a unit, told by a name.
type turn struct {
	name string
	do   func(u *api.Unit)
}

// part is a turn of the part with rules.
func part(name string, do func(p *api.Part)) turn {
	return turn{name, func(u *api.Unit) { do(&u.Policies[0].Parts[0]) }}
}

// rule is a turn of the rule with a condition.
func rule(name string, do func(r *api.Rule)) turn {
	return turn{name, func(u *api.Unit) { do(&u.Policies[0].Parts[0].Rules[1]) }}
}

// use is a turn of the part that is a use.
func use(name string, do func(p *api.Part)) turn {
	return turn{name, func(u *api.Unit) { do(&u.Policies[0].Parts[1]) }}
}

// wantRight holds what Right answers of the unit, turned each way.
func wantRight(t *testing.T, want bool, turns []turn) {
	t.Helper()
	for _, x := range turns {
		u := unit()
		x.do(&u)
		if got := tree.Right(u); got != want {
			t.Errorf("%s: %v", x.name, got)
		}
	}
}

func TestP1102Right(t *testing.T) {
	wantRight(t, true, []turn{
		{"as it is", func(u *api.Unit) {}},
		{"no defines", func(u *api.Unit) { u.Defines = nil }},
		{"no policies", func(u *api.Unit) { u.Policies = nil }},
		{"lists that are empty", func(u *api.Unit) { u.Defines, u.Policies = []api.Define{}, []api.Policy{} }},
		{"one main", func(u *api.Unit) { u.Main = u.Main[:1] }},
		{"main that no policy has", func(u *api.Unit) { u.Main = []string{"none"} }},
		{"names again", func(u *api.Unit) {
			u.Main, u.Policies[1].Name, u.Defines[1].Name = []string{"p", "p"}, "p", "M"
		}},
		{"a define of itself", func(u *api.Unit) { u.Defines[0].Expr = name("M") }},
		{"a use of itself", func(u *api.Unit) { u.Policies[0].Parts[1].Use = "p" }},
		{"a deep define", func(u *api.Unit) { u.Defines[0].Expr = deep(500, api.XBits, true, num(1), num(2)) }},
		part("no rules", func(p *api.Part) { p.Rules = nil }),
		part("rules that are empty", func(p *api.Part) { p.Rules = []api.Rule{} }),
		use("rules that are empty", func(p *api.Part) { p.Rules = []api.Rule{} }),
		rule("a call that is none", func(r *api.Rule) { r.Call = "none" }),
		rule("many params", func(r *api.Rule) { r.Params = strings.Split("a b c d e f g h a a", " ") }),
		rule("no params", func(r *api.Rule) { r.Params = nil }),
		rule("no condition", func(r *api.Rule) { r.Cond = nil }),
		rule("a condition that is empty", func(r *api.Rule) { r.Cond = []api.Expr{} }),
	})
	if !tree.Right(api.Unit{Main: []string{"p"}, Default: api.Action{Kind: api.KillThread}}) {
		t.Errorf("the least: false")
	}
}

// Each place of a name, with names and with what is none.
func TestP1102RightNames(t *testing.T) {
	places := []func(u *api.Unit) *string{
		func(u *api.Unit) *string { return &u.Defines[1].Name },
		func(u *api.Unit) *string { return &u.Defines[1].Expr.Kids[0].Name },
		func(u *api.Unit) *string { return &u.Policies[1].Name },
		func(u *api.Unit) *string { return &u.Policies[0].Parts[1].Use },
		func(u *api.Unit) *string { return &u.Policies[0].Parts[0].Rules[0].Call },
		func(u *api.Unit) *string { return &u.Policies[0].Parts[0].Rules[1].Params[0] },
		func(u *api.Unit) *string { return &u.Policies[0].Parts[0].Rules[1].Params[1] },
		func(u *api.Unit) *string { return &u.Main[0] },
		func(u *api.Unit) *string { return &u.Main[1] },
	}
	for i, place := range places {
		for _, s := range append([]string{"", "1", "a b", "a-", "é", " a", "x", "read", "_", "Use"}, own...) {
			u := unit()
			*place(&u) = s
			if got := tree.Right(u); got != isName(s) {
				t.Errorf("%q at %d: %v", s, i, got)
			}
		}
	}
}

func TestP1102RightNot(t *testing.T) {
	allow := api.Action{Kind: api.Allow}
	wantRight(t, false, []turn{
		{"zero", func(u *api.Unit) { *u = api.Unit{} }},
		{"no main", func(u *api.Unit) { u.Main = nil }},
		{"main that is empty", func(u *api.Unit) { u.Main = []string{} }},
		{"a define of nothing", func(u *api.Unit) { u.Defines[0].Expr = api.Expr{} }},
		{"a define of a condition", func(u *api.Unit) { u.Defines[0].Expr = is() }},
		{"a define of a mask", func(u *api.Unit) { u.Defines[1].Expr = mask("a", num(1)) }},
		{"a define of bits from the right", func(u *api.Unit) { u.Defines[1].Expr = bits(num(1), bits(num(2), num(3))) }},
		{"a policy of nothing", func(u *api.Unit) { u.Policies = append(u.Policies, api.Policy{}) }},
		{"a part of nothing", func(u *api.Unit) { u.Policies[1].Parts = []api.Part{{}} }},
		part("a use and rules", func(p *api.Part) { p.Use = "q" }),
		part("a use and an action", func(p *api.Part) { p.Use, p.Rules = "q", nil }),
		part("rules without an action", func(p *api.Part) { p.Action = api.Action{} }),
		part("a use and rules without an action", func(p *api.Part) { p.Use, p.Action = "q", api.Action{} }),
		use("an action", func(p *api.Part) { p.Action = allow }),
		use("an action that is none", func(p *api.Part) { p.Action = api.Action{Kind: 9} }),
		use("an action's Data", func(p *api.Part) { p.Action = api.Action{Data: 1} }),
		use("a rule", func(p *api.Part) { p.Rules = []api.Rule{{Call: "read"}} }),
		use("no use", func(p *api.Part) { p.Use = "" }),
		part("a rule of nothing", func(p *api.Part) { p.Rules = append(p.Rules, api.Rule{}) }),
		rule("two conditions", func(r *api.Rule) { r.Cond = []api.Expr{is(), is()} }),
		rule("a condition that is none", func(r *api.Rule) { r.Cond = []api.Expr{{}} }),
		rule("a condition that is a number", func(r *api.Rule) { r.Cond = []api.Expr{num(1)} }),
		rule("a condition that is a name", func(r *api.Rule) { r.Cond = []api.Expr{name("a")} }),
		rule("a condition with a field too many", func(r *api.Rule) { r.Cond[0].Num = 1 }),
	})
}

func TestP1102RightActions(t *testing.T) {
	places := []func(u *api.Unit) *api.Action{
		func(u *api.Unit) *api.Action { return &u.Default },
		func(u *api.Unit) *api.Action { return &u.Policies[0].Parts[0].Action },
		func(u *api.Unit) *api.Action { return &u.Policies[0].Parts[2].Action },
	}
	for i, place := range places {
		for kind := -1; kind < 10; kind++ {
			for _, data := range []int{0, 1, 65535, 65536, -1, math.MinInt} {
				u := unit()
				*place(&u) = api.Action{Kind: kind, Data: data}
				want := kind >= 1 && kind <= 7 && data == 0 || kind >= 3 && kind <= 5 && data >= 0 && data <= 65535
				if got := tree.Right(u); got != want {
					t.Errorf("%d, %d at %d: %v", kind, data, i, got)
				}
			}
		}
	}
}

// withCond is the unit with that condition.
func withCond(e api.Expr) api.Unit {
	u := unit()
	u.Policies[0].Parts[0].Rules[1].Cond = []api.Expr{e}
	return u
}

func TestP1102RightDepth(t *testing.T) {
	masked := cmp("==", mask("a", num(1)), num(1))
	for n := range 40 {
		for _, e := range []api.Expr{nots(n, is()), nots(n, masked), deep(n, api.XOr, true, is(), is()), deep(n, api.XAnd, false, is(), is()), cmp("==", name("a"), deep(n, api.XBits, true, num(1), num(1))), or(is(), nots(n, is())), and(nots(n, is()), is())} {
			if got, want := tree.Right(withCond(e)), depth(e) <= 30; got != want {
				t.Errorf("Right of a condition of depth %d: %v", depth(e), got)
			}
		}
	}
	if !tree.Right(withCond(nots(28, is()))) || tree.Right(withCond(nots(29, is()))) {
		t.Errorf("28 nots are right, 29 are not")
	}
}

func TestP1102Deep(t *testing.T) {
	defer debug.SetMaxStack(debug.SetMaxStack(1 << 20))
	const n = 200000
	for _, kind := range []int{api.XNot, api.XBits, 0} {
		for _, first := range []bool{true, false} {
			a, b, c := deep(n, kind, first, num(1), num(2)), deep(n, kind, first, num(1), num(2)), deep(n, kind, first, num(0), num(2))
			if tree.Right(withCond(a)) || !tree.Same(withCond(a), withCond(b)) || tree.Same(withCond(a), withCond(c)) || tree.Same(withCond(c), withCond(a)) {
				t.Errorf("%d, %v", kind, first)
			}
		}
	}
	u := unit()
	u.Defines[0].Expr = deep(n, api.XBits, true, num(1), name("a"))
	if !tree.Right(u) || !tree.Same(u, u) || tree.Same(u, unit()) {
		t.Errorf("a deep define: %v", tree.Right(u))
	}
}

// copied is all of v in memory of its own; no list is nil there, if room is not below 0, and each has that much spare room.
func copied(v reflect.Value, room int) reflect.Value {
	out := reflect.New(v.Type()).Elem()
	switch v.Kind() {
	case reflect.Struct:
		for i := range v.NumField() {
			out.Field(i).Set(copied(v.Field(i), room))
		}
	case reflect.Slice:
		if v.Len() > 0 || room >= 0 {
			out.Set(reflect.MakeSlice(v.Type(), 0, v.Len()+max(room, 0)))
		}
		for i := range v.Len() {
			out.Set(reflect.Append(out, copied(v.Index(i), room)))
		}
	default:
		out.Set(v)
	}
	return out
}

// copyOf is u in memory of its own, as copied has it.
func copyOf(u api.Unit, room int) api.Unit {
	return copied(reflect.ValueOf(u), room).Interface().(api.Unit)
}

// visit goes to all that is in v, lists and what is in them, and to the spare room of lists.
func visit(v reflect.Value, path string, do func(v reflect.Value, path string)) {
	switch v.Kind() {
	case reflect.Struct:
		for i := range v.NumField() {
			visit(v.Field(i), path+"."+v.Type().Field(i).Name, do)
		}
	case reflect.Slice:
		do(v, path)
		for i := range v.Len() {
			visit(v.Index(i), fmt.Sprintf("%s[%d]", path, i), do)
		}
	default:
		do(v, path)
	}
}

// others are the ways in which what is at one place can be another.
func others(v reflect.Value) []func(v reflect.Value) {
	switch v.Kind() {
	case reflect.Int:
		return []func(v reflect.Value){func(v reflect.Value) { v.SetInt(v.Int() + 1) }, func(v reflect.Value) { v.SetInt(-v.Int() - 1) }}
	case reflect.Uint64:
		return []func(v reflect.Value){func(v reflect.Value) { v.SetUint(v.Uint() ^ 1<<63) }, func(v reflect.Value) { v.SetUint(v.Uint() ^ 1) }}
	case reflect.String:
		return []func(v reflect.Value){func(v reflect.Value) { v.SetString(v.String() + "x") }, func(v reflect.Value) { v.SetString(strings.ToUpper(v.String()) + "\xff") }}
	}
	longer := func(v reflect.Value) { v.Set(reflect.Append(v, reflect.Zero(v.Type().Elem()))) }
	if v.Len() == 0 {
		return []func(v reflect.Value){longer}
	}
	shorter := func(v reflect.Value) { v.Set(v.Slice(0, v.Len()-1)) }
	later := func(v reflect.Value) { v.Set(v.Slice(1, v.Len())) }
	again := func(v reflect.Value) { v.Set(reflect.Append(v, v.Index(v.Len()-1))) }
	return []func(v reflect.Value){longer, shorter, later, again}
}

// turns are all units that differ from u at one place, each with its path.
func turns(u api.Unit) ([]api.Unit, []string) {
	var out []api.Unit
	var paths []string
	visit(reflect.ValueOf(&u).Elem(), "", func(v reflect.Value, path string) {
		for _, do := range others(v) {
			turned := copyOf(u, -1)
			visit(reflect.ValueOf(&turned).Elem(), "", func(v reflect.Value, at string) {
				if at == path {
					do(v)
				}
			})
			out, paths = append(out, turned), append(paths, path)
		}
	})
	return out, paths
}

// wantSame holds what Same answers, both ways round.
func wantSame(t *testing.T, a, b api.Unit, want bool, what string) {
	t.Helper()
	if x, y := tree.Same(a, b), tree.Same(b, a); x != want || y != want {
		t.Errorf("Same: %s: %v, %v", what, x, y)
	}
}

func TestP1102Same(t *testing.T) {
	for _, u := range []api.Unit{unit(), {}, {Main: []string{"p"}}, withCond(api.Expr{Kind: -7, Op: "x", Name: "USE", Num: 3, Kids: []api.Expr{{}, num(1), {}}})} {
		wantSame(t, u, u, true, "itself")
		wantSame(t, u, copyOf(u, -1), true, "nil for empty")
		wantSame(t, u, copyOf(u, 0), true, "empty for nil")
		wantSame(t, copyOf(u, -1), copyOf(u, 3), true, "spare room")
	}
	wantSame(t, api.Unit{}, api.Unit{Defines: []api.Define{}, Policies: []api.Policy{}, Main: []string{}}, true, "nil and empty")
}

func TestP1102SameNot(t *testing.T) {
	all, paths := turns(unit())
	if len(all) < 250 {
		t.Errorf("%d turns", len(all))
	}
	for i, u := range all {
		wantSame(t, u, unit(), false, paths[i])
		wantSame(t, copyOf(u, 2), unit(), false, paths[i])
		wantSame(t, u, copyOf(u, 0), true, paths[i])
	}
}

// What stands elsewhere, or in another order, is not the same.
func TestP1102SamePlaces(t *testing.T) {
	for _, x := range []turn{
		{"defines", func(u *api.Unit) { slices.Reverse(u.Defines) }},
		{"policies", func(u *api.Unit) { slices.Reverse(u.Policies) }},
		{"main", func(u *api.Unit) { slices.Reverse(u.Main) }},
		{"parts", func(u *api.Unit) { slices.Reverse(u.Policies[0].Parts) }},
		part("rules", func(p *api.Part) { slices.Reverse(p.Rules) }),
		rule("params", func(r *api.Rule) { slices.Reverse(r.Params) }),
		rule("kids", func(r *api.Rule) { slices.Reverse(r.Cond[0].Kids) }),
		rule("kids of kids", func(r *api.Rule) { slices.Reverse(r.Cond[0].Kids[0].Kids) }),
		rule("kids at another one", func(r *api.Rule) {
			l := r.Cond[0].Kids[1].Kids
			l[0].Kids, l[1].Kids = l[1].Kids, l[0].Kids
		}),
	} {
		u := unit()
		x.do(&u)
		wantSame(t, u, unit(), false, x.name)
	}
}

// filled is u with marks in the spare room of all its lists.
func filled(u api.Unit) api.Unit {
	out := copyOf(u, 2)
	visit(reflect.ValueOf(&out).Elem(), "", func(v reflect.Value, path string) {
		if v.Kind() == reflect.Slice {
			mark(v)
		}
	})
	return out
}

// mark writes into a list's spare room.
func mark(v reflect.Value) {
	spare := v.Slice3(v.Len(), v.Cap(), v.Cap())
	for i := range spare.Len() {
		visit(spare.Index(i), "", func(v reflect.Value, path string) {
			switch v.Kind() {
			case reflect.Int:
				v.SetInt(-77)
			case reflect.String:
				v.SetString("spare")
			}
		})
	}
}

// shown is all of a unit as a text, with the spare room of its lists.
func shown(u api.Unit) string {
	out := ""
	visit(reflect.ValueOf(&u).Elem(), "", func(v reflect.Value, path string) {
		if v.Kind() == reflect.Slice {
			out += fmt.Sprintf("%s %d %+v\n", path, v.Len(), v.Slice(0, v.Cap()))
			return
		}
		out += fmt.Sprintf("%s %v\n", path, v)
	})
	return out
}

// ask asks all calls of what a unit has in it, and tells all answers.
func ask(u, other api.Unit) string {
	out := fmt.Sprint(tree.Right(u), tree.Same(u, other), tree.Same(other, u))
	for _, s := range u.Main {
		out += fmt.Sprint(" ", s, tree.Name(s))
	}
	for _, d := range u.Defines {
		out += fmt.Sprint(" ", tree.Number(d.Expr), tree.Bool(d.Expr), tree.Depth(d.Expr))
	}
	for _, p := range u.Policies {
		for _, x := range p.Parts {
			for _, r := range x.Rules {
				for _, e := range r.Cond {
					out += fmt.Sprint(" ", tree.Number(e), tree.Bool(e), tree.Depth(e))
				}
			}
		}
	}
	return out
}

func TestP1102HandedInStays(t *testing.T) {
	all, paths := turns(unit())
	for i, x := range append(all, unit(), api.Unit{}) {
		u, other := filled(x), filled(unit())
		was, otherWas := shown(u), shown(other)
		ask(u, other)
		if shown(u) != was || shown(other) != otherWas {
			t.Errorf("%s: %s, which was %s", append(paths, "the unit", "zero")[i], shown(u), was)
		}
	}
}

// What was asked before is nothing to an answer, nor where in memory the unit is.
func TestP1102ArgumentsAlone(t *testing.T) {
	all, paths := turns(unit())
	for i, u := range all {
		want := ask(u, unit())
		ask(all[(i+7)%len(all)], u)
		for _, again := range []api.Unit{u, copyOf(u, -1), copyOf(u, 0), filled(u)} {
			if got := ask(again, copyOf(unit(), i%3)); got != want {
				t.Errorf("%s: %s, not %s", paths[i], got, want)
			}
		}
	}
	// A list that is there twice is no other than two lists.
	e := is()
	twice := withCond(or(or(e, e), or(e, e)))
	if got, want := ask(twice, twice), ask(copyOf(twice, -1), copyOf(twice, -1)); got != want {
		t.Errorf("%s, not %s", got, want)
	}
}

func TestP1102Together(t *testing.T) {
	all, _ := turns(unit())
	shared := unit()
	var group sync.WaitGroup
	for _, u := range all {
		want := ask(u, shared)
		group.Go(func() {
			for range 20 {
				if got := ask(u, shared); got != want {
					t.Errorf("%s, not %s", got, want)
				}
			}
		})
	}
	group.Wait()
}

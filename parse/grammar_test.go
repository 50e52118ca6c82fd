package parse_test

import (
	"regexp"
	"slices"
	"strconv"
	"strings"

	"tipstaff/api"
)

// grammar is the chapter's sentence once more: it tells, for a list of tokens, which of them does not fit.
type grammar struct {
	l []api.Token
	// far is the farthest token that was asked for.
	far int
}

// places are the ends that something may have, which begins at a place.
type places func(at int) []int

// word, number, sign: one token.
func (g *grammar) one(fits func(t api.Token) bool) places {
	return func(at int) []int {
		g.far = max(g.far, at)
		if at < len(g.l) && fits(g.l[at]) {
			return []int{at + 1}
		}
		return nil
	}
}

func (g *grammar) is(kind int, texts ...string) places {
	return g.one(func(t api.Token) bool { return t.Kind == kind && slices.Contains(texts, t.Text) })
}

func (g *grammar) word(s ...string) places { return g.is(api.TWord, s...) }
func (g *grammar) sign(s ...string) places { return g.is(api.TSign, s...) }

// own are the words that are no names.
var own = []string{"POLICY", "USE", "DEFAULT", "ALLOW", "LOG", "KILL", "KILL_PROCESS", "TRAP", "ERRNO", "TRACE"}

var (
	wordForm   = regexp.MustCompile(`\A[A-Za-z_][A-Za-z0-9_]*\z`)
	numberForm = regexp.MustCompile(`\A([0-9]+|0x[0-9A-Fa-f]+)\z`)
)

func (g *grammar) name() places {
	return g.one(func(t api.Token) bool {
		return t.Kind == api.TWord && wordForm.MatchString(t.Text) && !slices.Contains(own, t.Text)
	})
}

// number is what a number token tells.
func number(t api.Token) (uint64, bool) {
	if t.Kind != api.TNum || !numberForm.MatchString(t.Text) {
		return 0, false
	}
	digits, base := t.Text, 10
	if strings.HasPrefix(digits, "0x") {
		digits, base = digits[2:], 16
	}
	n, err := strconv.ParseUint(digits, base, 64)
	return n, err == nil
}

func (g *grammar) number(most uint64) places {
	return g.one(func(t api.Token) bool {
		n, ok := number(t)
		return ok && n <= most
	})
}

func row(all ...places) places {
	return func(at int) []int {
		ends := []int{at}
		for _, p := range all {
			var next []int
			for _, e := range ends {
				next = append(next, p(e)...)
			}
			slices.Sort(next)
			ends = slices.Compact(next)
		}
		return ends
	}
}

func either(all ...places) places {
	return func(at int) []int {
		var ends []int
		for _, p := range all {
			ends = append(ends, p(at)...)
		}
		slices.Sort(ends)
		return slices.Compact(ends)
	}
}

func none(at int) []int { return []int{at} }

func maybe(p places) places { return either(none, p) }

// many is any number of p, none too.
func many(p places) places {
	return func(at int) []int {
		ends := []int{at}
		for i := 0; i < len(ends); i++ {
			for _, e := range p(ends[i]) {
				if !slices.Contains(ends, e) {
					ends = append(ends, e)
				}
			}
		}
		return ends
	}
}

// apart is at least one p, between two of them what stands between.
func apart(p, between places) places {
	return row(p, many(row(between, p)))
}

func (g *grammar) numbers() places {
	return apart(either(g.number(1<<64-1), g.name()), g.sign("|"))
}

func (g *grammar) comparison() places {
	single := either(g.number(1<<64-1), g.name())
	return row(g.name(), maybe(row(g.sign("&"), single)), g.sign("==", "!=", "<", "<=", ">", ">="), g.numbers())
}

func (g *grammar) cond(at int) []int {
	inner := either(row(g.sign("("), g.cond, g.sign(")")), g.comparison())
	negated := row(many(g.sign("!")), inner)
	return apart(apart(negated, g.sign("&&")), g.sign("||"))(at)
}

func (g *grammar) action() places {
	return either(g.word("ALLOW", "LOG", "KILL", "KILL_PROCESS"),
		row(g.word("TRAP", "ERRNO", "TRACE"), g.sign("("), g.number(65535), g.sign(")")))
}

func (g *grammar) rule() places {
	params := row(g.sign("("), maybe(apart(g.name(), g.sign(","))), g.sign(")"))
	return row(g.name(), maybe(params), maybe(row(g.sign("{"), g.cond, g.sign("}"))))
}

func (g *grammar) braced(p places) places {
	return row(g.sign("{"), maybe(apart(p, maybe(g.sign(",")))), g.sign("}"))
}

func (g *grammar) part() places {
	return either(row(g.word("USE"), g.name()), row(g.action(), g.braced(g.rule())))
}

func (g *grammar) main() places {
	return row(g.word("USE"), apart(g.name(), g.sign(",")), g.word("DEFAULT"), g.action())
}

func (g *grammar) unit() places {
	return many(either(
		row(g.is(api.THash, "#define"), g.name(), g.numbers()),
		row(g.word("POLICY"), g.name(), g.braced(g.part())),
		g.main()))
}

// misfit is which token of l is the first that does not fit (len(l): the end); -1, if all fit.
func misfit(l []api.Token) int {
	g := &grammar{l: l}
	if slices.Contains(g.unit()(0), len(l)) {
		return -1
	}
	return g.far
}

// mains are where each `USE .. DEFAULT` of l that fits whole begins.
func mains(l []api.Token) []int {
	var out []int
	fit := misfit(l)
	braces := 0
	for i, t := range l {
		switch {
		case t.Kind == api.TSign && t.Text == "{":
			braces++
		case t.Kind == api.TSign && t.Text == "}":
			braces--
		case t.Kind == api.TWord && t.Text == "USE" && braces == 0:
			ends := (&grammar{l: l}).main()(i)
			if fit < 0 || fit > i && len(ends) > 0 {
				out = append(out, i)
			}
		}
	}
	return out
}

// wrong is the fault that l is to have, if no condition of it is too deep: its number, and which token has it.
func wrong(l []api.Token) (api.Errno, int) {
	fit := misfit(l)
	uses := mains(l)
	switch {
	case len(uses) > 1:
		return api.ErrMain, uses[1]
	case fit >= 0:
		return api.ErrSyntax, fit
	case len(uses) == 0:
		return api.ErrMain, len(l)
	}
	return api.OK, 0
}

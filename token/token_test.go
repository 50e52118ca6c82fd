package token_test

import (
	"fmt"
	"math"
	"math/big"
	"regexp"
	"slices"
	"strings"
	"sync"
	"testing"
	"unsafe"

	"tipstaff/api"
	"tipstaff/spot"
	"tipstaff/token"
)

// form is a kind of pieces, as an expression; kind 0 tells nothing.
type form struct {
	kind int
	is   *regexp.Regexp
}

// forms are all kinds, of which a text begins with one at most.
var forms = []form{
	{0, regexp.MustCompile(`^[ \t\n\r]`)},
	{0, regexp.MustCompile(`^//[^\n]*`)},
	{0, regexp.MustCompile(`^/\*(?s:.*?)\*/`)},
	{api.TWord, regexp.MustCompile(`^[A-Za-z_][A-Za-z0-9_]*`)},
	{api.TNum, regexp.MustCompile(`^(0x[0-9a-fA-F]+|[0-9]+)`)},
	{api.TString, regexp.MustCompile(`^"[^"\n]*"`)},
	{api.THash, regexp.MustCompile(`^#(include|define)`)},
	{api.TSign, regexp.MustCompile(`^([{}(),]|&&|\|\||[=!<>]=|[!&|<>])`)},
}

// goesOn is whether a text goes on as a word.
var goesOn = regexp.MustCompile(`^[A-Za-z0-9_]`)

// tooGreat is whether a number is above 2^64 - 1.
func tooGreat(s string) bool {
	base := 10
	if len(s) > 1 && s[1] == 'x' {
		s, base = s[2:], 16
	}
	n, _ := new(big.Int).SetString(s, base)
	return n.BitLen() > 64
}

// begins tells the kind and the length of what s begins with; length 0: it is none.
func begins(s string) (int, int) {
	for _, f := range forms {
		text := f.is.FindString(s)
		if text == "" {
			continue
		}
		on := goesOn.MatchString(s[len(text):])
		if f.kind == api.TNum && (on || tooGreat(text)) || f.kind == api.THash && on {
			return 0, 0
		}
		return f.kind, len(text)
	}
	return 0, 0
}

// split tells what Split is to answer.
func split(s string, file int) ([]api.Token, api.Fault) {
	if len(s) > 20000 {
		return nil, api.Fault{Err: api.ErrMany, File: file, Spot: 1 + 1i}
	}
	var out []api.Token
	for i := 0; i < len(s); {
		kind, n := begins(s[i:])
		if n == 0 {
			return nil, api.Fault{Err: api.ErrSyntax, File: file, Spot: spot.At(s, i)}
		}
		text := s[i : i+n]
		if kind == api.TString {
			text = s[i+1 : i+n-1]
		}
		if kind != 0 {
			out = append(out, api.Token{Kind: kind, Text: text, File: file, Spot: spot.At(s, i)})
		}
		i += n
	}
	return out, api.Fault{}
}

// check holds Split against what the chapter says.
func check(t *testing.T, s string, file int) {
	t.Helper()
	want, fault := split(s, file)
	got, told := token.Split(s, file)
	if told != fault || !slices.Equal(got, want) {
		t.Errorf("Split of %.80q, %d: %s, %v, not %s, %v", s, file, show(got), told, show(want), fault)
	}
}

// show writes some tokens: each as its kind's letter (w: word, n: number, t: sign, s: string, h: `#`) and its text.
func show(l []api.Token) string {
	var out []string
	for _, x := range l {
		kind := "?"
		if x.Kind >= api.TWord && x.Kind <= api.THash {
			kind = "?wntsh"[x.Kind : x.Kind+1]
		}
		out = append(out, kind+x.Text)
	}
	return strings.Join(out, " ")
}

// wantTokens holds what Split answers against tokens written as show writes them.
func wantTokens(t *testing.T, s, want string) {
	t.Helper()
	got, fault := token.Split(s, 3)
	if fault != (api.Fault{}) || show(got) != want {
		t.Errorf("Split of %.80q: %.200s, %v, not %.200s", s, show(got), fault, want)
	}
}

// wantSyntax holds what Split answers against ErrSyntax at a spot.
func wantSyntax(t *testing.T, s string, at complex128) {
	t.Helper()
	want := api.Fault{Err: api.ErrSyntax, File: 3, Spot: at}
	if got, fault := token.Split(s, 3); fault != want || got != nil {
		t.Errorf("Split of %.80q: %.200s, %v, not %v", s, show(got), fault, want)
	}
}

func TestP901Nothing(t *testing.T) {
	for _, s := range []string{"", " ", "\t", "\n", "\r", " \t\r\n \n\n", "//", "//\n", "/**/", "/* */ // */\n\t/***/"} {
		got, fault := token.Split(s, 5)
		if got != nil || fault != (api.Fault{}) {
			t.Errorf("Split of %q: %v, %v", s, got, fault)
		}
	}
}

func TestP901Policy(t *testing.T) {
	s := "#include \"base\"\n#define MODE 0x1fF // octal? no\nPOLICY p {\n\tALLOW { read, write(fd) { fd == 1 || fd & 3 != MODE|4 } }\n}\n/* at last */ USE p DEFAULT ERRNO(1)"
	want := []api.Token{
		{Kind: api.THash, Text: "#include", Spot: 1 + 1i}, {Kind: api.TString, Text: "base", Spot: 1 + 10i},
		{Kind: api.THash, Text: "#define", Spot: 2 + 1i}, {Kind: api.TWord, Text: "MODE", Spot: 2 + 9i}, {Kind: api.TNum, Text: "0x1fF", Spot: 2 + 14i},
		{Kind: api.TWord, Text: "POLICY", Spot: 3 + 1i}, {Kind: api.TWord, Text: "p", Spot: 3 + 8i}, {Kind: api.TSign, Text: "{", Spot: 3 + 10i},
		{Kind: api.TWord, Text: "ALLOW", Spot: 4 + 2i}, {Kind: api.TSign, Text: "{", Spot: 4 + 8i}, {Kind: api.TWord, Text: "read", Spot: 4 + 10i},
		{Kind: api.TSign, Text: ",", Spot: 4 + 14i}, {Kind: api.TWord, Text: "write", Spot: 4 + 16i}, {Kind: api.TSign, Text: "(", Spot: 4 + 21i},
		{Kind: api.TWord, Text: "fd", Spot: 4 + 22i}, {Kind: api.TSign, Text: ")", Spot: 4 + 24i}, {Kind: api.TSign, Text: "{", Spot: 4 + 26i},
		{Kind: api.TWord, Text: "fd", Spot: 4 + 28i}, {Kind: api.TSign, Text: "==", Spot: 4 + 31i}, {Kind: api.TNum, Text: "1", Spot: 4 + 34i},
		{Kind: api.TSign, Text: "||", Spot: 4 + 36i}, {Kind: api.TWord, Text: "fd", Spot: 4 + 39i}, {Kind: api.TSign, Text: "&", Spot: 4 + 42i},
		{Kind: api.TNum, Text: "3", Spot: 4 + 44i}, {Kind: api.TSign, Text: "!=", Spot: 4 + 46i}, {Kind: api.TWord, Text: "MODE", Spot: 4 + 49i},
		{Kind: api.TSign, Text: "|", Spot: 4 + 53i}, {Kind: api.TNum, Text: "4", Spot: 4 + 54i}, {Kind: api.TSign, Text: "}", Spot: 4 + 56i},
		{Kind: api.TSign, Text: "}", Spot: 4 + 58i}, {Kind: api.TSign, Text: "}", Spot: 5 + 1i}, {Kind: api.TWord, Text: "USE", Spot: 6 + 15i},
		{Kind: api.TWord, Text: "p", Spot: 6 + 19i}, {Kind: api.TWord, Text: "DEFAULT", Spot: 6 + 21i}, {Kind: api.TWord, Text: "ERRNO", Spot: 6 + 29i},
		{Kind: api.TSign, Text: "(", Spot: 6 + 34i}, {Kind: api.TNum, Text: "1", Spot: 6 + 35i}, {Kind: api.TSign, Text: ")", Spot: 6 + 36i},
	}
	for i := range want {
		want[i].File = 7
	}
	got, fault := token.Split(s, 7)
	if fault != (api.Fault{}) || !slices.Equal(got, want) {
		t.Errorf("%v, %v", got, fault)
	}
}

// Each byte alone, and between blanks: only the blanks, letters, digits and signs of one byte are something.
func TestP901EachByte(t *testing.T) {
	for b := range 256 {
		c := string([]byte{byte(b)})
		switch {
		case b == 32 || b == 9 || b == 10 || b == 13:
			wantTokens(t, c, "")
			wantTokens(t, "a"+c+"b", "wa wb")
		case b >= 'a' && b <= 'z' || b >= 'A' && b <= 'Z' || b == '_':
			wantTokens(t, c, "w"+c)
			wantTokens(t, "a"+c+"b", "wa"+c+"b")
			wantSyntax(t, " 1"+c, 1+2i)
		case b >= '0' && b <= '9':
			wantTokens(t, c, "n"+c)
			wantTokens(t, "a"+c+"b", "wa"+c+"b")
			wantTokens(t, "1"+c, "n1"+c)
		case strings.Contains("{}(),!&|<>", c):
			wantTokens(t, c, "t"+c)
			wantTokens(t, "a"+c+"b", "wa t"+c+" wb")
			wantTokens(t, "1"+c+"2", "n1 t"+c+" n2")
		default:
			wantSyntax(t, c, 1+1i)
			wantSyntax(t, "a\n "+c+"b", 2+2i)
			wantSyntax(t, "1"+c+"2", 1+2i)
		}
		check(t, "a "+c+" b", b)
	}
}

func TestP901Words(t *testing.T) {
	wantTokens(t, "read", "wread")
	wantTokens(t, "_", "w_")
	wantTokens(t, "__x86_64__ a1 A_9z Z", "w__x86_64__ wa1 wA_9z wZ")
	wantTokens(t, "x0x1 e9 _0", "wx0x1 we9 w_0")
	wantTokens(t, "include define", "winclude wdefine")
	wantTokens(t, "POLICY policy", "wPOLICY wpolicy")
	wantTokens(t, strings.Repeat("a", 20000), "w"+strings.Repeat("a", 20000))
	wantSyntax(t, "a.b", 1+2i)
	wantSyntax(t, "a-b", 1+2i)
	wantSyntax(t, "a$", 1+2i)
	wantSyntax(t, "h\u00e9", 1+2i)
	wantSyntax(t, "\u00e9", 1+1i)
	wantSyntax(t, "a\u0661", 1+2i)
	wantSyntax(t, "\ufeffa", 1+1i)
	wantSyntax(t, "a\u00a0b", 1+2i)
}

func TestP901Numbers(t *testing.T) {
	wantTokens(t, "0", "n0")
	wantTokens(t, "00 007 1 42", "n00 n007 n1 n42")
	wantTokens(t, "0x0 0xf 0xF 0xaBcDeF 0x0123456789", "n0x0 n0xf n0xF n0xaBcDeF n0x0123456789")
	wantTokens(t, "4294967296", "n4294967296")
	for c := 'g'; c <= 'z'; c++ {
		wantSyntax(t, "0x1"+string(c), 1+1i)
		wantSyntax(t, "0x"+strings.ToUpper(string(c)), 1+1i)
	}
}

func TestP901NumbersGreatest(t *testing.T) {
	zeros := strings.Repeat("0", 5000)
	for _, s := range []string{"18446744073709551615", "0xffffffffffffffff", "0xFFFFFFFFFFFFFFFF", "9223372036854775808", "0x8000000000000000"} {
		wantTokens(t, s, "n"+s)
		digits, base := s, ""
		if s[1] == 'x' {
			digits, base = s[2:], "0x"
		}
		wantTokens(t, base+zeros+digits, "n"+base+zeros+digits)
		wantTokens(t, "a "+s+")", "wa n"+s+" t)")
	}
	for _, s := range []string{"18446744073709551616", "18446744073709551620", "20000000000000000000", "99999999999999999999", "184467440737095516150", "0x10000000000000000", "0xfffffffffffffffff", "0x20000000000000000", strings.Repeat("9", 20000), "0x" + strings.Repeat("f", 19998)} {
		wantSyntax(t, s, 1+1i)
		if len(s) < 100 {
			wantSyntax(t, "a\n\t"+s+" b", 2+2i)
			wantSyntax(t, "0"+s[:1]+"\n"+s, 2+1i)
		}
	}
}

// What has no digits behind `0x`, or goes on as a word, is no number, nor is a part of it one.
func TestP901NumbersGoOn(t *testing.T) {
	for _, s := range []string{"0x", "0x ", "0x\n1", "0xg", "0x_1", "0x 1", "0X1", "0X", "1x1", "00x1", "1a", "1_", "1_000", "0a", "0_", "9z", "1e9", "0x1g", "0x1_", "0x1x1", "0x1Z", "0b1", "0o7", "12read", "1u", "0xfL", "0x0x0"} {
		wantSyntax(t, s, 1+1i)
		wantSyntax(t, "a, "+s, 1+4i)
		check(t, s, 0)
	}
	wantTokens(t, "1{2}3(4)5,6!7&8|9<10>11\"12\"13#define 14/**/15//\n16", "n1 t{ n2 t} n3 t( n4 t) n5 t, n6 t! n7 t& n8 t| n9 t< n10 t> n11 s12 n13 h#define n14 n15 n16")
	wantTokens(t, "0x1\"a\"0x2", "n0x1 sa n0x2")
	wantSyntax(t, "1.5", 1+2i)
	wantSyntax(t, "-1", 1+1i)
	wantSyntax(t, "+1", 1+1i)
	wantSyntax(t, "1\u00e9", 1+2i)
}

func TestP901Comments(t *testing.T) {
	wantTokens(t, "a//b\nc", "wa wc")
	wantTokens(t, "a//b", "wa")
	wantTokens(t, "a//b\rc\nd", "wa wd")
	wantTokens(t, "a///b\nc", "wa wc")
	wantTokens(t, "a// /* \nb // */\nc", "wa wb wc")
	wantTokens(t, "a/*b*/c", "wa wc")
	wantTokens(t, "a/*b\nc\n*/d", "wa wd")
	wantTokens(t, "a/**/b/***/c/****/d/* * / **/e", "wa wb wc wd we")
	wantTokens(t, "a/*/*/b", "wa wb")
	wantTokens(t, "a/* /* */b", "wa wb")
	wantTokens(t, "a/* // */b", "wa wb")
	wantTokens(t, "a/* \" */b", "wa wb")
	wantTokens(t, "a/*\x00\xff\u00e9$@*/b//\x00\xff$@\nc", "wa wb wc")
	wantTokens(t, "&/**/& 0/**/x1 #include/**/\"a\"", "t& t& n0 wx1 h#include sa")
	wantTokens(t, "a/*1*/1", "wa n1")
}

func TestP901CommentsWithoutEnd(t *testing.T) {
	wantSyntax(t, "/*", 1+1i)
	wantSyntax(t, "/*/", 1+1i)
	wantSyntax(t, "/**", 1+1i)
	wantSyntax(t, "/* * /", 1+1i)
	wantSyntax(t, "a /* b\nc //", 1+3i)
	wantSyntax(t, "a/* b */\n /* c", 2+2i)
	wantSyntax(t, "/**/*/", 1+5i)
	wantSyntax(t, "a/* b */*/", 1+9i)
	wantSyntax(t, "*/", 1+1i)
	wantSyntax(t, "/", 1+1i)
	wantSyntax(t, "a / b", 1+3i)
	wantSyntax(t, "a/\n/b", 1+2i)
	wantSyntax(t, "a/ *b*/", 1+2i)
}

func TestP901Strings(t *testing.T) {
	wantTokens(t, `"a"`, "sa")
	wantTokens(t, `""`, "s")
	wantTokens(t, `"""a"`, "s sa")
	wantTokens(t, `"lib/net.policy"`, "slib/net.policy")
	wantTokens(t, `" a b "`, "s a b ")
	wantTokens(t, `"a"b"c"`, "sa wb sc")
	wantTokens(t, `1"a"2`, "n1 sa n2")
	wantTokens(t, `"a//b" "c/*d" "e*/"`, "sa//b sc/*d se*/")
	wantTokens(t, `"\"a""`, `s\ wa s`)
	wantTokens(t, `"\n"`, `s\n`)
	wantTokens(t, "\"a\tb\rc\x00d\xff\u00e9\"", "sa\tb\rc\x00d\xff\u00e9")
	wantTokens(t, `"#include" "12a"`, "s#include s12a")
	wantTokens(t, `"`+strings.Repeat("x", 19998)+`"`, "s"+strings.Repeat("x", 19998))
	got, _ := token.Split(` ""`, 2)
	if !slices.Equal(got, []api.Token{{Kind: api.TString, File: 2, Spot: 1 + 2i}}) {
		t.Errorf("of an empty one: %v", got)
	}
}

func TestP901StringsWithoutEnd(t *testing.T) {
	wantSyntax(t, `"`, 1+1i)
	wantSyntax(t, `"a`, 1+1i)
	wantSyntax(t, "\"a\n\"", 1+1i)
	wantSyntax(t, "\"\n", 1+1i)
	wantSyntax(t, "\"\n\"", 1+1i)
	wantSyntax(t, `"a" "`, 1+5i)
	wantSyntax(t, "a\n b \"c\n\"", 2+4i)
	wantSyntax(t, `"a\"`+"\n"+`""" `, 2+3i)
	wantSyntax(t, `'a'`, 1+1i)
	wantSyntax(t, "`a`", 1+1i)
}

func TestP901Hash(t *testing.T) {
	wantTokens(t, "#include", "h#include")
	wantTokens(t, "#define", "h#define")
	wantTokens(t, "#include\"a\"#define(#define#include", "h#include sa h#define t( h#define h#include")
	wantTokens(t, "a#define//\n1#include/**/", "wa h#define n1 h#include")
	for _, s := range []string{"#", "##", "# include", "#\ninclude", "#if", "#Include", "#DEFINE", "#includ", "#defin", "#includes", "#include1", "#include_", "#define_x", "#defineX", "#define0", "#includedefine", "#/**/define", "#1", "#_", "#in#define", "#\u00e9"} {
		wantSyntax(t, s, 1+1i)
		wantSyntax(t, "\n\na "+s, 3+3i)
	}
	wantSyntax(t, "#include\u00e9", 1+9i)
	wantSyntax(t, "#include<a.b>", 1+11i)
}

func TestP901Signs(t *testing.T) {
	wantTokens(t, "{ } ( ) , ! & && | || == != < <= > >=", "t{ t} t( t) t, t! t& t&& t| t|| t== t!= t< t<= t> t>=")
	wantTokens(t, "{}(),!&&", "t{ t} t( t) t, t! t&&")
	wantTokens(t, "!(a)", "t! t( wa t)")
	for _, s := range []string{"=", "+", "-", "*", "/", "%", "^", "~", ";", ":", ".", "?", "@", "$", "[", "]", "'", "\\", "`", "#", "\x00", "\v", "\f", "\x1f", "\x7f", "\x80", "\x85", "\xa0", "\xff"} {
		wantSyntax(t, s, 1+1i)
		wantSyntax(t, "a == "+s, 1+6i)
	}
}

// The longest sign that fits comes first, also where another one of two bytes would leave nothing over.
func TestP901SignsLongest(t *testing.T) {
	wantTokens(t, "&&&", "t&& t&")
	wantTokens(t, "&&&&", "t&& t&&")
	wantTokens(t, "|||", "t|| t|")
	wantTokens(t, "!!a", "t! t! wa")
	wantTokens(t, "!!=", "t! t!=")
	wantTokens(t, "<<=", "t< t<=")
	wantTokens(t, ">>", "t> t>")
	wantTokens(t, "<>", "t< t>")
	wantTokens(t, "!===", "t!= t==")
	wantTokens(t, "====", "t== t==")
	wantTokens(t, "<===", "t<= t==")
	wantTokens(t, "&==&", "t& t== t&")
	wantTokens(t, "& & <", "t& t& t<")
	wantSyntax(t, "===", 1+3i)
	wantSyntax(t, "!==", 1+3i)
	wantSyntax(t, "<==", 1+3i)
	wantSyntax(t, ">==", 1+3i)
	wantSyntax(t, "&=", 1+2i)
	wantSyntax(t, "|=", 1+2i)
	wantSyntax(t, "=<", 1+1i)
	wantSyntax(t, "=!", 1+1i)
	wantSyntax(t, "< =", 1+3i)
	wantSyntax(t, "= =", 1+1i)
}

// The first thing that is none is told, whatever stands behind it; and nothing of what stands ahead.
func TestP901FirstFault(t *testing.T) {
	wantSyntax(t, "a $ \" /* 1a", 1+3i)
	wantSyntax(t, "a \" $", 1+3i)
	wantSyntax(t, "a\n1a\n$", 2+1i)
	wantSyntax(t, "a\r\nb\r\n\t\tc /", 3+5i)
	wantSyntax(t, "/*\n\n*/ $", 3+4i)
	wantSyntax(t, "//$\n$", 2+1i)
	wantSyntax(t, "\"$\"$", 1+4i)
	wantSyntax(t, strings.Repeat("a ", 9999)+"a=", 1+20000i)
	wantSyntax(t, strings.Repeat("\n", 19999)+"=", 20000+1i)
}

func TestP901Spots(t *testing.T) {
	s := "a\tb\r\nc /* \n\n */ d \"x\u00e9\" e // f\n\n  g"
	var at []complex128
	got, fault := token.Split(s, 0)
	for _, x := range got {
		at = append(at, x.Spot)
	}
	want := []complex128{1 + 1i, 1 + 3i, 2 + 1i, 4 + 5i, 4 + 7i, 4 + 13i, 6 + 3i}
	if fault != (api.Fault{}) || !slices.Equal(at, want) {
		t.Errorf("%v, %v", at, fault)
	}
	check(t, s, 0)
}

// The file may be any number, and is told in tokens and faults as it is.
func TestP901File(t *testing.T) {
	for _, file := range []int{0, 1, -1, 2, 1000, math.MaxInt32, math.MinInt32, math.MaxInt, math.MinInt} {
		for _, s := range []string{"", "a", "a b\n\"c\"", "a $", "1a", strings.Repeat(" ", 20001)} {
			check(t, s, file)
		}
		got, _ := token.Split("a\n1 \"s\" #define {", file)
		for _, x := range got {
			if x.File != file {
				t.Errorf("file %d: %v", file, x)
			}
		}
	}
}

func TestP901Many(t *testing.T) {
	many := api.Fault{Err: api.ErrMany, File: 4, Spot: 1 + 1i}
	for _, c := range []string{" ", "\n", "a", "1", "0", "{", "$", "/", "\"", "\"a\"", "\u00e9", "\x00", "/*", "//", "a\n", "&&"} {
		s := strings.Repeat(c, 20001)
		for _, n := range []int{20001, 20002, len(s)} {
			if n > len(s) {
				continue
			}
			if got, fault := token.Split(s[:n], 4); got != nil || fault != many {
				t.Errorf("%d bytes of %q: %d tokens, %v", n, c, len(got), fault)
			}
		}
		check(t, s[:20000], 4)
		check(t, s[:19999], 4)
	}
	if got, fault := token.Split(strings.Repeat("\n", 1<<20), 4); got != nil || fault != many {
		t.Errorf("1 MiB: %d tokens, %v", len(got), fault)
	}
	if got, fault := token.Split(strings.Repeat("{", 20000), 4); len(got) != 20000 || fault != (api.Fault{}) {
		t.Errorf("20000 signs: %d tokens, %v", len(got), fault)
	}
}

// small calls f with all texts of up to n pieces of an alphabet.
func small(alphabet []string, n int, f func(string)) {
	var walk func(s string, n int)
	walk = func(s string, n int) {
		f(s)
		for _, c := range alphabet {
			if n > 0 {
				walk(s+c, n-1)
			}
		}
	}
	walk("", n)
}

func TestP901AllSmall(t *testing.T) {
	small([]string{"/", "*", "\"", "\n", "a", "0", " "}, 5, func(s string) { check(t, s, 1) })
	small([]string{"&", "|", "=", "!", "<", ">", "{"}, 4, func(s string) { check(t, s, 1) })
	small([]string{"0", "x", "9", "f", "G", "_", "X", "\n", "("}, 4, func(s string) { check(t, s, 1) })
	small([]string{"#", "include", "define", "a", "1", "_", " ", "\"", "//"}, 4, func(s string) { check(t, s, 1) })
}

// chance makes numbers, from a rule.
type chance uint64

func (c *chance) next(most int) int {
	*c = *c*6364136223846793005 + 1442695040888963407
	return int(uint64(*c) >> 33 % uint64(most))
}

// text makes some text of up to n pieces, most of them good ones.
func (c *chance) text(n int) string {
	good := []string{" ", "\t", "\n", "\r\n", "// x\n", "/* x\ny */", "read", "_a9", "POLICY", "0", "65535 ", "0xfF ", "18446744073709551615", "\"a/b\"", "\"\"", "#include ", "#define ", "{", "}", "(", ")", ",", "!", "&", "&&", "|", "||", "==", "!=", "<", "<=", ">", ">="}
	bad := []string{"=", "/", "/*", "\"", "#", "$", "1a", "0x", "18446744073709551616", "\u00e9", "\x00"}
	var b strings.Builder
	for range c.next(n + 1) {
		switch c.next(40) {
		case 0:
			b.WriteString(bad[c.next(len(bad))])
		case 1:
			b.WriteByte(byte(c.next(256)))
		default:
			b.WriteString(good[c.next(len(good))])
		}
	}
	return b.String()
}

func TestP901Any(t *testing.T) {
	c := chance(9)
	for n := range 20000 {
		check(t, c.text(60), n-10000)
	}
	for range 5000 {
		b := make([]byte, c.next(12))
		for i := range b {
			b[i] = byte(c.next(256))
		}
		check(t, string(b), 0)
	}
}

// Long texts of many pieces, lines or bytes of one piece are read at once.
func TestP901Long(t *testing.T) {
	for _, s := range []string{"a ", "a\n", "{", "1,", "\"\"", "/**/", "//\n", "\"a", "\n", "0 ", "&", "#define "} {
		check(t, strings.Repeat(s, 20000/len(s)), 1)
	}
	for _, s := range []string{"//", "/*", "\"", "a", "0x"} {
		check(t, s+strings.Repeat("0", 20000-len(s)), 1)
	}
}

// texts are some texts, good and bad.
func texts() []string {
	out := []string{"", "a", "a b", "\"a\"", "12 0xf", "#include \"x\"", "a $", "1a", "/*", strings.Repeat("a ", 10001)}
	c := chance(90)
	for range 40 {
		out = append(out, c.text(20))
	}
	return out
}

// What was asked before, wrong things too, is nothing to an answer.
func TestP902ArgumentsAlone(t *testing.T) {
	for n, before := range texts() {
		for _, s := range texts() {
			token.Split(before, n)
			check(t, s, 2)
			check(t, s, -2)
		}
	}
}

// Bytes that are used again for another text are nothing to an answer that was given.
func TestP902NotKept(t *testing.T) {
	b := []byte("read 0x12 \"path\" #include && {")
	s := unsafe.String(&b[0], len(b))
	got, fault := token.Split(s, 1)
	was := fmt.Sprintf("%v %v", got, fault)
	for i := range b {
		b[i] = '$'
	}
	if is := fmt.Sprintf("%v %v", got, fault); is != was {
		t.Errorf("%s, which was %s", is, was)
	}
	check(t, s, 1)
}

// meet is whether two texts share bytes.
func meet(a, b string) bool {
	if a == "" || b == "" {
		return false
	}
	x, y := uintptr(unsafe.Pointer(unsafe.StringData(a))), uintptr(unsafe.Pointer(unsafe.StringData(b)))
	return x < y+uintptr(len(b)) && y < x+uintptr(len(a))
}

// An answer's texts are no pieces of the argument, and its list is no other answer's.
func TestP902NewMemory(t *testing.T) {
	for _, s := range append(texts(), "a", "read", "\"read\"", "12", "#define", "&&") {
		got, _ := token.Split(s, 1)
		for _, x := range got {
			if meet(x.Text, s) {
				t.Errorf("Split of %.40q: %q", s, x.Text)
			}
		}
		again, _ := token.Split(s, 1)
		spare := again[:cap(again)]
		for i := range spare {
			spare[i] = api.Token{Kind: -1, Text: "other", File: -1, Spot: -1}
		}
		want, _ := split(s, 1)
		if !slices.Equal(got, want) {
			t.Errorf("Split of %.40q: %v", s, got)
		}
		check(t, s, 1)
	}
}

func TestP902Together(t *testing.T) {
	var group sync.WaitGroup
	for n, s := range texts() {
		group.Go(func() {
			for range 30 {
				check(t, s, n)
			}
		})
	}
	group.Wait()
}

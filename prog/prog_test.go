package prog

import (
	"math"
	"slices"
	"strings"
	"testing"

	"quietwing/api"
	"quietwing/plain"
)

func told(t *testing.T, what string, err error, want api.Errno) {
	t.Helper()
	if got := plain.Told(err); got != want {
		t.Errorf("%s: got %v, want %v", what, got, want)
	}
}

// Nodes, with what they need.

func num(n int) api.Node                { return api.Node{Kind: api.Num, N: n} }
func vari(n int) api.Node               { return api.Node{Kind: api.Var, N: n} }
func pair(kind, a, b int) api.Node      { return api.Node{Kind: kind, A: a, B: b} }
func skip() api.Node                    { return api.Node{Kind: api.Skip} }
func set(n, a int) api.Node             { return api.Node{Kind: api.Set, N: n, A: a} }
func both(a, b int) api.Node            { return pair(api.Both, a, b) }
func choice(a, b, c int) api.Node       { return api.Node{Kind: api.If, A: a, B: b, C: c} }
func loop(a, b int) api.Node            { return pair(api.While, a, b) }
func list(nodes ...api.Node) []api.Node { return nodes }

// skips has so many Skips, one behind the other, and so many less one of Both.
func skips(n int) []api.Node {
	p := list(skip())
	for range n - 1 {
		p = append(p, skip(), both(len(p)-1, len(p)))
	}
	return p
}

// longest has as many nodes as may be: 39 Skips, and a Set.
func longest() []api.Node {
	return append(skips(39), num(1), set(0, 77), both(76, 78))
}

// faulty is a program that no call takes.
type faulty struct {
	name string
	p    []api.Node
	want api.Errno
}

var ofMany = []faulty{
	{"no node", nil, api.ErrNone},
	{"an empty list", []api.Node{}, api.ErrNone},
	{"a node too many", skips(41), api.ErrFull},
	{"far too many", skips(1000), api.ErrFull},
	{"a node too many, and none of any kind", slices.Repeat(list(api.Node{Kind: -1}), 81), api.ErrFull},
	{"a node too many, and none a part", slices.Repeat(list(skip()), 81), api.ErrFull},
}

var ofNumbers = []faulty{
	{"a kind below all", list(api.Node{Kind: -1}), api.ErrRange},
	{"a kind above all", list(api.Node{Kind: 10}), api.ErrRange},
	{"a number below 0", list(num(-1), set(0, 0)), api.ErrRange},
	{"a number too great", list(num(1_000_000), set(0, 0)), api.ErrRange},
	{"a variable below a", list(vari(-1), set(0, 0)), api.ErrRange},
	{"a variable above f", list(vari(6), set(0, 0)), api.ErrRange},
	{"a Set below a", list(num(0), set(-1, 0)), api.ErrRange},
	{"a Set above f", list(num(0), set(6, 0)), api.ErrRange},
}

var ofPlaces = []faulty{
	{"A of Add is itself", list(num(0), pair(api.Add, 1, 0)), api.ErrRange},
	{"B of Less is itself", list(num(0), pair(api.Less, 0, 1)), api.ErrRange},
	{"B of Same is below 0", list(num(0), pair(api.Same, 0, -1)), api.ErrRange},
	{"A of Set is itself", list(num(0), set(0, 1)), api.ErrRange},
	{"A of Set is behind", list(set(0, 1), num(0)), api.ErrRange},
	{"A of Set is below 0", list(num(0), set(0, -1)), api.ErrRange},
	{"A of Set is behind all", list(num(0), set(0, 2)), api.ErrRange},
	{"A of Set lies in the list's memory, behind its length", list(set(0, 1), num(0))[:1], api.ErrRange},
	{"A of Both is itself", list(skip(), both(1, 0)), api.ErrRange},
	{"B of Both is itself", list(skip(), both(0, 1)), api.ErrRange},
	{"A of If is itself", list(num(0), skip(), skip(), choice(3, 1, 2)), api.ErrRange},
	{"B of If is itself", list(num(0), skip(), skip(), choice(0, 3, 2)), api.ErrRange},
	{"C of If is itself", list(num(0), skip(), skip(), choice(0, 1, 3)), api.ErrRange},
	{"A of While is itself", list(num(0), skip(), loop(2, 1)), api.ErrRange},
	{"B of While is itself", list(num(0), skip(), loop(0, 2)), api.ErrRange},
}

var ofShapes = []faulty{
	{"A and B of Add are one", list(num(0), pair(api.Add, 0, 0), set(0, 1)), api.ErrShape},
	{"A and B of Both are one", list(skip(), both(0, 0)), api.ErrShape},
	{"B and C of If are one", list(num(0), skip(), choice(0, 1, 1)), api.ErrShape},
	{"a part of two Sets", list(num(0), set(0, 0), set(1, 0), both(1, 2)), api.ErrShape},
	{"a part of two nodes that are far from it", list(skip(), num(0), set(0, 1), both(0, 2), num(0), loop(4, 0), both(3, 5)), api.ErrShape},
	{"A of Add is a deed", list(skip(), num(0), pair(api.Add, 0, 1)), api.ErrShape},
	{"B of Less is a deed", list(num(0), skip(), pair(api.Less, 0, 1)), api.ErrShape},
	{"B of Same is a deed", list(num(0), skip(), pair(api.Same, 0, 1)), api.ErrShape},
	{"A of Set is a Skip", list(skip(), set(0, 0)), api.ErrShape},
	{"A of Set is a While", list(num(0), skip(), loop(0, 1), set(0, 2)), api.ErrShape},
	{"A of Both is a value", list(num(0), skip(), both(0, 1)), api.ErrShape},
	{"B of Both is a value", list(skip(), vari(0), both(0, 1)), api.ErrShape},
	{"B of Both is a Same", list(skip(), num(0), num(0), pair(api.Same, 1, 2), both(0, 3)), api.ErrShape},
	{"A of If is a deed", list(skip(), skip(), skip(), choice(0, 1, 2)), api.ErrShape},
	{"B of If is a value", list(num(0), num(0), skip(), choice(0, 1, 2)), api.ErrShape},
	{"C of If is a value", list(num(0), skip(), num(0), choice(0, 1, 2)), api.ErrShape},
	{"A of While is a deed", list(skip(), skip(), loop(0, 1)), api.ErrShape},
	{"B of While is a value", list(num(0), num(0), loop(0, 1)), api.ErrShape},
	{"the first one is no part", list(num(0), skip()), api.ErrShape},
	{"a middle one is no part", list(num(0), skip(), set(0, 0)), api.ErrShape},
	{"the last but one is no part", list(num(0), set(0, 0), skip()), api.ErrShape},
	{"the last one is a number", list(num(0)), api.ErrShape},
	{"the last one is a variable", list(vari(0)), api.ErrShape},
	{"the last one is a Same", list(num(0), num(0), pair(api.Same, 0, 1)), api.ErrShape},
}

// ofSeveral have several faults, of which the first one is told: node by node, and part by part.
var ofSeveral = []faulty{
	{"a part twice, then no variable", list(num(0), set(0, 0), set(0, 0), set(6, 0)), api.ErrShape},
	{"a part twice, then no kind", list(skip(), both(0, 0), api.Node{Kind: 10}), api.ErrShape},
	{"no kind, then a part twice", list(skip(), api.Node{Kind: 10}, both(0, 0)), api.ErrRange},
	{"no variable, and its part is a part already", list(num(0), set(0, 0), set(6, 0)), api.ErrRange},
	{"no variable, and its part is a deed", list(skip(), set(-1, 0)), api.ErrRange},
	{"A is a deed, B itself", list(skip(), pair(api.Add, 0, 1)), api.ErrShape},
	{"A is itself, B a deed", list(skip(), pair(api.Add, 1, 0)), api.ErrRange},
	{"A is a part already, B below 0", list(num(0), set(0, 0), pair(api.Add, 0, -1)), api.ErrShape},
	{"B is a value, C itself", list(num(0), num(0), choice(0, 1, 2)), api.ErrShape},
	{"B is itself, C a value", list(num(0), num(0), choice(0, 2, 1)), api.ErrRange},
	{"one is no part, then no kind", list(num(0), skip(), api.Node{Kind: -1}), api.ErrRange},
	{"one is no part, then a part behind all", list(num(0), set(0, 9)), api.ErrRange},
}

func TestCheckWrong(t *testing.T) {
	for _, c := range slices.Concat(ofMany, ofNumbers, ofPlaces, ofShapes, ofSeveral) {
		before := slices.Clone(c.p)
		told(t, c.name, Check(c.p), c.want)
		text, err := Write(c.p)
		told(t, "Write: "+c.name, err, c.want)
		if text != "" {
			t.Errorf("%s: wrote %q beside the error", c.name, text)
		}
		if !slices.Equal(c.p, before) {
			t.Errorf("%s: the list was written into", c.name)
		}
	}
}

// TestCheckFar: numbers that are far from any that may be, in each field that is needed.
func TestCheckFar(t *testing.T) {
	whole := list(num(3), vari(1), pair(api.Add, 0, 1), set(2, 2), vari(0), skip(), loop(4, 5), vari(1), skip(), choice(7, 3, 8), both(6, 9))
	told(t, "nothing is spoilt", Check(whole), api.OK)
	for i, x := range whole {
		fields := []func(x *api.Node) *int{func(x *api.Node) *int { return &x.Kind }}
		if x.Kind == api.Num || x.Kind == api.Var || x.Kind == api.Set {
			fields = append(fields, func(x *api.Node) *int { return &x.N })
		}
		abc := []func(x *api.Node) *int{func(x *api.Node) *int { return &x.A }, func(x *api.Node) *int { return &x.B }, func(x *api.Node) *int { return &x.C }}
		fields = append(fields, abc[:len(Parts(x))]...)
		for _, field := range fields {
			for _, n := range []int{math.MinInt, -1 << 32, -1, api.MaxValue + 1, 1 << 32, 1<<32 + 1, math.MaxInt} {
				p := slices.Clone(whole)
				*field(&p[i]) = n
				told(t, "a number far off", Check(p), api.ErrRange)
			}
		}
	}
}

func TestCheckRight(t *testing.T) {
	for _, c := range []struct {
		name string
		p    []api.Node
	}{
		{"a Skip", list(skip())},
		{"the least number and variable", list(num(0), set(0, 0))},
		{"the greatest number and variable", list(num(999_999), set(5, 0))},
		{"variables", list(vari(0), vari(5), pair(api.Same, 0, 1), set(0, 2))},
		{"parts in any order", list(skip(), skip(), num(0), choice(2, 1, 0), vari(1), loop(4, 3))},
		{"values of values", list(num(1), num(2), pair(api.Less, 1, 0), num(3), pair(api.Add, 3, 2), set(1, 4))},
		{"as many nodes as may be", longest()},
		{"what is not needed is not looked at", list(
			api.Node{Kind: api.Num, A: -1, B: 9, C: math.MinInt}, api.Node{Kind: api.Var, A: 1, B: 0, C: 7},
			api.Node{Kind: api.Less, N: -5, B: 1, C: math.MaxInt}, api.Node{Kind: api.Set, A: 2, B: -1, C: 3},
			api.Node{Kind: api.Skip, N: math.MinInt, A: -1, B: 2, C: 2}, api.Node{Kind: api.Both, N: 6, A: 3, B: 4, C: -1},
			vari(0), api.Node{Kind: api.While, N: -1, A: 6, B: 5, C: 5}, vari(1), skip(),
			api.Node{Kind: api.If, N: 1_000_000, A: 8, B: 7, C: 9},
		)},
	} {
		told(t, c.name, Check(c.p), api.OK)
	}
	if n := len(longest()); n != 80 {
		t.Errorf("the longest has %d nodes", n)
	}
}

func TestParts(t *testing.T) {
	for kind, want := range map[int][]int{
		math.MinInt: nil, -1: nil, api.Num: nil, api.Var: nil, api.Add: {7, -8}, api.Less: {7, -8}, api.Same: {7, -8},
		api.Skip: nil, api.Set: {7}, api.Both: {7, -8}, api.If: {7, -8, 9}, api.While: {7, -8}, 10: nil, math.MaxInt: nil,
	} {
		x := api.Node{Kind: kind, N: 3, A: 7, B: -8, C: 9}
		got := Parts(x)
		if !slices.Equal(got, want) {
			t.Errorf("parts of kind %d: got %v, want %v", kind, got, want)
		}
		for i := range got {
			got[i] = 100
		}
		if again := Parts(x); !slices.Equal(again, want) {
			t.Errorf("parts of kind %d: got %v when asked again", kind, again)
		}
	}
}

// TestVars: of each node of a program, in whatever order they stand.
func TestVars(t *testing.T) {
	p := list(
		num(1), vari(0), vari(5), api.Node{Kind: api.Num, N: 3, A: 1, B: 2, C: 2}, api.Node{Kind: api.Var, N: 2, A: 1, B: 2, C: 1},
		pair(api.Add, 2, 1), api.Node{Kind: api.Less, N: 4, A: 4, B: 0, C: 2}, pair(api.Same, 5, 6), pair(api.Add, 3, 7), set(1, 8),
	)
	told(t, "a program", Check(p), api.OK)
	before := slices.Clone(p)
	for i, want := range []int{0, 1, 32, 0, 4, 33, 4, 37, 37} {
		if got := Vars(p, i); got != want {
			t.Errorf("variables in value %d: got %b, want %b", i, got, want)
		}
	}
	if !slices.Equal(p, before) {
		t.Error("the program was written into")
	}
}

func TestWrite(t *testing.T) {
	for _, c := range []struct {
		p    []api.Node
		want string
	}{
		{list(skip()), ""},
		{list(num(0), set(0, 0)), "a=#0;"},
		{list(num(999_999), set(5, 0)), "f=#999999;"},
		{list(num(100), set(1, 0)), "b=#100;"},
		{list(vari(2), set(2, 0)), "c=c;"},
		{list(num(1), vari(3), pair(api.Add, 0, 1), set(4, 2)), "e=+#1d;"},
		{list(num(1), vari(3), pair(api.Less, 0, 1), set(4, 2)), "e=<#1d;"},
		{list(num(1), vari(3), pair(api.Same, 0, 1), set(4, 2)), "e==#1d;"},
		{list(num(1), vari(3), pair(api.Same, 1, 0), set(4, 2)), "e==d#1;"},
		{list(vari(0), vari(1), pair(api.Same, 0, 1), vari(2), pair(api.Same, 2, 3), set(0, 4)), "a===abc;"},
		{list(vari(0), vari(1), pair(api.Same, 0, 1), vari(2), pair(api.Same, 3, 2), set(0, 4)), "a==c=ab;"},
		{list(vari(1), set(0, 0), num(2), set(1, 2), both(1, 3)), "a=b;b=#2;"},
		{list(vari(1), set(0, 0), num(2), set(1, 2), both(3, 1)), "b=#2;a=b;"},
		{list(skip(), skip(), both(0, 1), skip(), both(2, 3)), ""},
		{list(vari(0), skip(), loop(0, 1)), "@a{}"},
		{list(vari(0), num(7), set(1, 1), loop(0, 2)), "@a{b=#7;}"},
		{list(vari(0), skip(), skip(), choice(0, 1, 2)), "?a{}{}"},
		{list(vari(0), num(7), set(1, 1), skip(), choice(0, 2, 3)), "?a{b=#7;}{}"},
		{list(vari(0), num(7), set(1, 1), skip(), choice(0, 3, 2)), "?a{}{b=#7;}"},
		{list(vari(0), vari(1), skip(), loop(1, 2), num(1), set(2, 4), both(5, 3), skip(), choice(0, 7, 6)), "?a{}{c=#1;@b{}}"},
		{list(api.Node{Kind: api.Num, N: 5, A: 1, B: -1}, api.Node{Kind: api.Set, N: 3, B: 9, C: 9}), "d=#5;"},
		{longest(), "a=#1;"},
	} {
		before := slices.Clone(c.p)
		got, err := Write(c.p)
		told(t, c.want, err, api.OK)
		if got != c.want {
			t.Errorf("Write(%v): got %q, want %q", c.p, got, c.want)
		}
		if !slices.Equal(c.p, before) {
			t.Errorf("Write(%v): was %v", c.p, before)
		}
	}
}

// wide is the text of a Set of so many bytes, from 5 on, of as few nodes as there are.
func wide(size int) string {
	value := ""
	left := size - len("a=;")
	for left > len("#999999") {
		step := "+#999999"
		if left < len(step)+len("#1") {
			step = "+b"
		}
		value += step
		left -= len(step)
	}
	if left == 1 {
		return "a=" + value + "b;"
	}
	return "a=" + value + "#" + strings.Repeat("9", left-1) + ";"
}

// TestTextBound: texts of nearly MaxText bytes, and what is above it.
func TestTextBound(t *testing.T) {
	for size := 5; size <= 300; size++ {
		p, err := Read(wide(size))
		told(t, "Read a text that may be", err, api.OK)
		text, err := Write(p)
		told(t, "Write a text that may be", err, api.OK)
		if text != wide(size) || len(text) != size {
			t.Errorf("size %d: %q was read and written as %q", size, wide(size), text)
		}
	}
	for _, s := range []string{wide(301), wide(302), wide(303), strings.Repeat("x", 301), strings.Repeat("\x00", 301), strings.Repeat("a=b;", 100), strings.Repeat("a=b;", 75) + "}"} {
		holdRead(t, s, nil, api.ErrFull)
	}
	holdRead(t, strings.Repeat("x", 300), nil, api.ErrSyntax)
	holdRead(t, strings.Repeat("@a{", 100), nil, api.ErrFull) // the 81st variable
}

// TestWriteBound: programs of few nodes, of which the text is as long as may be, and longer.
func TestWriteBound(t *testing.T) {
	p := list(num(999_999))
	for len(p) < 73 {
		p = append(p, num(999_999), pair(api.Add, len(p)-1, len(p)))
	}
	p = append(p, set(0, 72), vari(0), set(1, 74), both(73, 75))
	for n, want := range map[int]api.Errno{9_999: api.OK, 99_999: api.ErrFull, 999_999: api.ErrFull, 0: api.OK} {
		p[0].N = n
		text, err := Write(p)
		told(t, "Write a long one", err, want)
		if (want == api.OK) != (text != "") || n == 9_999 && len(text) != 300 {
			t.Errorf("with %d the text has %d bytes", n, len(text))
		}
	}
	p = list(num(999_999))
	for len(p) < 79 {
		p = append(p, num(999_999), pair(api.Less, len(p)-1, len(p)))
	}
	text, err := Write(append(p, set(5, 78)))
	told(t, "Write of 40 numbers", err, api.ErrFull)
	if text != "" {
		t.Errorf("%q beside the error", text)
	}
}

func holdRead(t *testing.T, s string, want []api.Node, errno api.Errno) {
	t.Helper()
	got, err := Read(s)
	if !slices.Equal(got, want) || plain.Told(err) != errno {
		t.Errorf("Read(%q): got %v, %v, want %v, %v", s, got, plain.Told(err), want, errno)
	}
}

func TestRead(t *testing.T) {
	for s, want := range map[string][]api.Node{
		"":                  list(skip()),
		"a=#0;":             list(num(0), set(0, 0)),
		"f=#999999;":        list(num(999_999), set(5, 0)),
		"a=f;":              list(vari(5), set(0, 0)),
		"e=+#10d;":          list(num(10), vari(3), pair(api.Add, 0, 1), set(4, 2)),
		"e=<d#10;":          list(vari(3), num(10), pair(api.Less, 0, 1), set(4, 2)),
		"e==#1#2;":          list(num(1), num(2), pair(api.Same, 0, 1), set(4, 2)),
		"a===abc;":          list(vari(0), vari(1), pair(api.Same, 0, 1), vari(2), pair(api.Same, 2, 3), set(0, 4)),
		"a==a=bc;":          list(vari(0), vari(1), vari(2), pair(api.Same, 1, 2), pair(api.Same, 0, 3), set(0, 4)),
		"@a{}":              list(vari(0), skip(), loop(0, 1)),
		"?a{}{}":            list(vari(0), skip(), skip(), choice(0, 1, 2)),
		"?a{a=b;}{}":        list(vari(0), vari(1), set(0, 1), skip(), choice(0, 2, 3)),
		"?a{}{a=b;}":        list(vari(0), skip(), vari(1), set(0, 2), choice(0, 1, 3)),
		"a=b;b=c;":          list(vari(1), set(0, 0), vari(2), set(1, 2), both(1, 3)),
		"a=b;b=c;c=d;":      list(vari(1), set(0, 0), vari(2), set(1, 2), vari(3), set(2, 4), both(3, 5), both(1, 6)),
		"@a{a=b;b=c;}":      list(vari(0), vari(1), set(0, 1), vari(2), set(1, 3), both(2, 4), loop(0, 5)),
		"@a{}@b{@c{}}":      list(vari(0), skip(), loop(0, 1), vari(1), vari(2), skip(), loop(4, 5), loop(3, 6), both(2, 7)),
		"?=ab{@c{}}{}a=#1;": list(vari(0), vari(1), pair(api.Same, 0, 1), vari(2), skip(), loop(3, 4), skip(), choice(2, 5, 6), num(1), set(0, 8), both(7, 9)),
	} {
		holdRead(t, s, want, api.OK)
		p, _ := Read(s)
		for i := range p {
			p[i] = api.Node{Kind: -1}
		}
		holdRead(t, s, want, api.OK)
	}
}

func TestReadWrong(t *testing.T) {
	for _, s := range []string{
		"a", "a=", "a=b", "a=b;;", ";", "=", "a==b;", "a=+b;", "a=+bcd;", "a=bc;", "a;", "a=;", "+ab", "#1", "b=#1;c",
		"g=a;", "a=g;", "`=a;", "a=`;", "A=a;", "a=B;", "1=a;",
		"a=#;", "a=#", "a=#1", "a=#00;", "a=#01;", "a=#000001;", "a=#1000000;", "a=#9999999;", "a=#0999999;", "a=#-1;", "a=#+1;", "a=#1_0;", "a=#1e3;", "a=#0x1;", "a=#1.;", "a=##1;", "a=1;",
		"a=#" + strings.Repeat("9", 290) + ";", "a=#9223372036854775808;", "a=#18446744073709551617;",
		"a= b;", " a=b;", "a=b; ", "a=b;\n", "a=b;\t", "a=# 1;", "a=#1 ;", "a =b;",
		"\x00", "a=b;\x00", "a=\x00;", "\xff", "a=\xff;", "a=b;\xff", "\u00e9", "a=\u0661;", "a=#\u0661;", "a=b\uff1b",
		"{", "}", "{}", "a=b;}", "a=b;{", "{a=b;}", "@", "@{", "@{}", "@a", "@a{", "@a}", "@a}{", "@a{}}", "@a{};", "@a{}{}", "@a{;}", "@a{{}}", "@a{a}", "@a{a=b}", "@ab{}", "@a(a=b;)",
		"?", "?{}{}", "?a", "?a{", "?a{}", "?a{}{", "?a{};", "?a{}a=b;{}", "?a{}{}{}", "?a{}{}}", "?ab{}{}", "?a{}@a{}", "?a{b}{}", "?a{}{?}",
		strings.Repeat("a=b;", 28) + "x", strings.Repeat("a=b;", 75)[1:],
	} {
		holdRead(t, s, nil, api.ErrSyntax)
	}
}

// TestReadFull: what comes first, the node that is one too many, or what goes on as no text does.
func TestReadFull(t *testing.T) {
	sets := func(n int) string { return strings.Repeat("a=b;", n) } // twice as many nodes, as long as no Both comes
	odd := "@a{}"                                                   // three nodes
	for _, c := range []struct {
		name, s string
		want    api.Errno
	}{
		{"80 nodes with all of Both", sets(27), api.OK},
		{"80 nodes, and a sign that is none", sets(27) + "x", api.ErrSyntax},
		{"81 nodes with all of Both", odd + sets(26), api.ErrFull},
		{"81 nodes with all of Both, if it ended there", odd + sets(26) + "a", api.ErrSyntax},
		{"a Both too many", sets(28), api.ErrFull},
		{"a Both would be too many, if it went on as a text", sets(28) + "x", api.ErrSyntax},
		{"a Both would be too many, if a brace had been opened", sets(28) + "}", api.ErrSyntax},
		{"a Both too many in braces", "@a{" + sets(28) + "}", api.ErrFull},
		{"a Both too many in braces, and more behind", "@a{" + sets(28) + "}x", api.ErrFull},
		{"a Both would be too many, if the braces were closed", "@a{" + sets(28), api.ErrSyntax},

		{"a variable too many", sets(40) + "a=b", api.ErrFull},
		{"a variable too many, and then a fault", sets(40) + "a=bx", api.ErrFull},
		{"a fault, and then a variable too many", sets(40) + "a=xb", api.ErrSyntax},
		{"no variable yet", sets(40) + "a=", api.ErrSyntax},
		{"a variable that is Set is no node yet", sets(40) + "a", api.ErrSyntax},
		{"a variable too many in an Add", sets(40) + "a=+b", api.ErrFull},
		{"a variable too many in an If", sets(40) + "?b", api.ErrFull},
		{"a variable too many in a While", sets(40) + "@bx", api.ErrFull},

		{"a number too many", sets(40) + "a=#5", api.ErrFull},
		{"a number too many, and then a fault", sets(40) + "a=#5x", api.ErrFull},
		{"no number yet", sets(40) + "a=#", api.ErrSyntax},
		{"no digit", sets(40) + "a=#;", api.ErrSyntax},
		{"0, one too many", sets(40) + "a=#0;", api.ErrFull},
		{"a needless 0", sets(40) + "a=#05;", api.ErrSyntax},
		{"a number that may be, one too many", sets(40) + "a=#999999;", api.ErrFull},
		{"a number above all", sets(40) + "a=#1000000;", api.ErrSyntax},

		{"an Add too many", sets(39) + "a=+bc", api.ErrFull},
		{"a Less too many, and then a fault", sets(39) + "a=<bcx", api.ErrFull},
		{"half of a Same", sets(39) + "a==b;", api.ErrSyntax},

		{"80 nodes in all, and a Set too many", odd + sets(38) + "a=b;", api.ErrFull},
		{"a Set that is not ended", odd + sets(38) + "a=b", api.ErrSyntax},
		{"a Set that is ended by another sign", odd + sets(38) + "a=bx", api.ErrSyntax},

		{"a Skip too many", odd + sets(38) + "@b{}", api.ErrFull},
		{"a Skip too many, and then a fault", odd + sets(38) + "@b{}}", api.ErrFull},
		{"no Skip: the text ends", odd + sets(38) + "@b{", api.ErrSyntax},
		{"no Skip: a sign that is none", odd + sets(38) + "@b{x", api.ErrSyntax},
		{"a Skip too many as a second deed", sets(39) + "?b{}{}", api.ErrFull},
		{"no second deed", sets(39) + "?b{}{", api.ErrSyntax},

		{"a While too many", sets(39) + "@b{}", api.ErrFull},
		{"a While too many with a deed", odd + sets(37) + "@b{c=d;}", api.ErrFull},
		{"a While that is not ended", odd + sets(37) + "@b{c=d;", api.ErrSyntax},
		{"an If too many", odd + sets(37) + "?b{}{}", api.ErrFull},
		{"an If too many with a deed", sets(38) + "?b{}{c=d;}", api.ErrFull},
		{"an If that is not ended", sets(38) + "?b{}{c=d;", api.ErrSyntax},
		{"an If with no second deed", odd + sets(37) + "?b{}x", api.ErrSyntax},
	} {
		p, err := Read(c.s)
		told(t, c.name, err, c.want)
		if (len(p) > 0) != (c.want == api.OK) {
			t.Errorf("%s: got %v", c.name, p)
		}
	}
}

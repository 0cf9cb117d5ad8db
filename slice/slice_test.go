package slice

import (
	"math"
	"slices"
	"strings"
	"testing"

	"quietwing/api"
	"quietwing/plain"
	"quietwing/prog"
)

func told(t *testing.T, what string, err error, want api.Errno) {
	t.Helper()
	if got := plain.Told(err); got != want {
		t.Errorf("%s: got %v, want %v", what, got, want)
	}
}

// read the program of a text.
func read(t *testing.T, text string) []api.Node {
	t.Helper()
	p, err := prog.Read(text)
	if err != nil {
		t.Fatalf("Read(%q): %v", text, err)
	}
	return p
}

// set of the variables with these letters.
func set(letters string) int {
	out := 0
	for _, x := range letters {
		out |= 1 << (x - 'a')
	}
	return out
}

// hold both: what is kept, and what is needed; nothing beside an error.
func hold(t *testing.T, name string, p []api.Node, n int, cut []api.Node, needs int, want api.Errno) {
	t.Helper()
	before := slices.Clone(p)
	got, err := Cut(p, n)
	told(t, name+": Cut", err, want)
	if !slices.Equal(got, cut) {
		t.Errorf("%s: Cut for %d: got %v, want %v", name, n, got, cut)
	}
	if err != nil && got != nil {
		t.Errorf("%s: Cut: a list beside the error", name)
	}
	m, err := Needs(p, n)
	told(t, name+": Needs", err, want)
	if m != needs {
		t.Errorf("%s: Needs for %d: got %b, want %b", name, n, m, needs)
	}
	if !slices.Equal(p, before) {
		t.Errorf("%s: the program was written into", name)
	}
}

// cutting says what of a text is kept for a variable, and what it needs.
type cutting struct{ text, n, kept, needs string }

// holdText: what is kept of a program that was read is, to the node, what is read of the rest.
func holdText(t *testing.T, c cutting) {
	t.Helper()
	kept := read(t, c.kept)
	hold(t, c.text, read(t, c.text), int(c.n[0]-'a'), kept, set(c.needs), api.OK)
	hold(t, c.kept, kept, int(c.n[0]-'a'), kept, set(c.needs), api.OK) // of which nothing more is cut
}

func TestSets(t *testing.T) {
	for _, c := range []cutting{
		{"", "a", "", "a"},
		{"", "f", "", "f"},
		{"a=#5;", "a", "a=#5;", ""},
		{"a=#5;", "b", "", "b"},
		{"f=#5;", "f", "f=#5;", ""},
		{"f=#5;", "a", "", "a"},
		{"a=a;", "a", "a=a;", "a"},
		{"a=b;", "a", "a=b;", "b"},
		{"a=b;", "b", "", "b"},
		{"a=b;", "c", "", "c"},
		{"f=e;", "f", "f=e;", "e"},
		{"a=f;", "a", "a=f;", "f"},
		{"a=+bc;", "a", "a=+bc;", "bc"},
		{"a=<bc;", "a", "a=<bc;", "bc"},
		{"a==bc;", "a", "a==bc;", "bc"},
		{"a=+a#1;", "a", "a=+a#1;", "a"},
		{"a=+#1+c<fb;", "a", "a=+#1+c<fb;", "bcf"},
		{"a==bb;", "a", "a==bb;", "b"}, // what it comes to does not matter
		// one behind the other
		{"a=#1;a=#2;", "a", "a=#2;", ""},
		{"a=b;a=#0;", "a", "a=#0;", ""},
		{"a=b;a=c;", "a", "a=c;", "c"},
		{"a=b;a=+a#1;", "a", "a=b;a=+a#1;", "b"},
		{"a=b;c=d;", "a", "a=b;", "b"},
		{"a=b;c=d;", "c", "c=d;", "d"},
		{"a=b;c=d;", "d", "", "d"},
		{"b=a;c=b;", "c", "b=a;c=b;", "a"},
		{"c=b;b=a;", "c", "c=b;", "b"},
		{"c=b;b=a;", "b", "b=a;", "a"},
		{"a=b;b=a;", "a", "a=b;", "b"},
		{"a=b;b=a;", "b", "a=b;b=a;", "b"},
		{"c=a;a=b;b=c;", "a", "a=b;", "b"},
		{"c=a;a=b;b=c;", "b", "c=a;b=c;", "a"},
		{"c=a;a=b;b=c;", "c", "c=a;", "a"},
		{"a=b;a=c;d=a;", "d", "a=c;d=a;", "c"},
		{"a=b;d=a;a=c;", "d", "a=b;d=a;", "b"},
		{"f=e;e=d;d=c;c=b;b=a;", "f", "f=e;", "e"},
		{"b=a;c=b;d=c;e=d;f=e;", "f", "b=a;c=b;d=c;e=d;f=e;", "a"},
		{"b=a;f=#1;c=b;f=#2;d=c;", "d", "b=a;c=b;d=c;", "a"},
		{"b=#1;c=#2;a=+bc;b=#3;c=#4;", "a", "b=#1;c=#2;a=+bc;", ""},
	} {
		holdText(t, c)
	}
}

func TestIfs(t *testing.T) {
	for _, c := range []cutting{
		{"?a{}{}", "a", "", "a"},
		{"?a{}{}", "b", "", "b"},
		{"?a{b=#1;}{}", "a", "", "a"},
		{"?a{b=#1;}{}", "b", "?a{b=#1;}{}", "ab"},
		{"?a{b=#1;}{}", "c", "", "c"},
		{"?a{}{b=#1;}", "a", "", "a"},
		{"?a{}{b=#1;}", "b", "?a{}{b=#1;}", "ab"},
		{"?a{b=#1;}{b=#2;}", "b", "?a{b=#1;}{b=#2;}", "a"},
		{"?a{b=#1;}{c=#1;}", "a", "", "a"},
		{"?a{b=#1;}{c=#1;}", "b", "?a{b=#1;}{}", "ab"},
		{"?a{b=#1;}{c=#1;}", "c", "?a{}{c=#1;}", "ac"},
		{"?a{b=c;}{b=d;}", "b", "?a{b=c;}{b=d;}", "acd"},
		{"?a{b=c;}{}", "b", "?a{b=c;}{}", "abc"},
		{"?a{}{b=c;}", "b", "?a{}{b=c;}", "abc"},
		{"?a{a=#1;}{}", "a", "?a{a=#1;}{}", "a"},
		{"?a{a=#1;}{a=#2;}", "a", "?a{a=#1;}{a=#2;}", "a"},
		{"?#1{b=#1;}{}", "b", "?#1{b=#1;}{}", "b"}, // that it is never not done does not matter
		{"?#0{b=c;}{}", "b", "?#0{b=c;}{}", "bc"},
		{"?b{b=c;}{b=d;}", "b", "?b{b=c;}{b=d;}", "bcd"},
		{"?+ab{c=#1;d=#2;}{d=#3;c=#4;}", "c", "?+ab{c=#1;}{c=#4;}", "ab"},
		{"?+ab{c=#1;d=#2;}{d=#3;c=#4;}", "d", "?+ab{d=#2;}{d=#3;}", "ab"},
		{"?<ab{c=d;d=#1;}{d=e;c=d;}", "c", "?<ab{c=d;}{d=e;c=d;}", "abde"},
		// ahead and behind
		{"a=d;?a{b=#1;}{}", "b", "a=d;?a{b=#1;}{}", "bd"},
		{"a=d;?a{c=#1;}{}", "b", "", "b"},
		{"a=d;?a{c=#1;}{}", "a", "a=d;", "d"},
		{"b=d;?a{b=#1;}{}", "b", "b=d;?a{b=#1;}{}", "ad"},
		{"b=d;?a{}{b=#1;}", "b", "b=d;?a{}{b=#1;}", "ad"},
		{"b=d;?a{b=#1;}{b=#2;}", "b", "?a{b=#1;}{b=#2;}", "a"},
		{"?a{b=#1;}{b=#2;}b=#3;", "b", "b=#3;", ""},
		{"?a{b=#1;}{b=#2;}c=b;", "c", "?a{b=#1;}{b=#2;}c=b;", "a"},
		{"?a{b=#1;}{b=#2;}c=b;", "a", "", "a"},
		{"?a{a=#0;}{}?a{b=#1;}{b=#2;}", "b", "?a{a=#0;}{}?a{b=#1;}{b=#2;}", "a"},
		// in each other
		{"?a{?b{c=#1;}{d=#1;}}{e=#1;}", "c", "?a{?b{c=#1;}{}}{}", "abc"},
		{"?a{?b{c=#1;}{d=#1;}}{e=#1;}", "d", "?a{?b{}{d=#1;}}{}", "abd"},
		{"?a{?b{c=#1;}{d=#1;}}{e=#1;}", "e", "?a{}{e=#1;}", "ae"},
		{"?a{?b{c=#1;}{d=#1;}}{e=#1;}", "f", "", "f"},
		{"?a{?b{}{}c=#1;}{?b{c=#2;}{}}", "c", "?a{c=#1;}{?b{c=#2;}{}}", "abc"},
		{"?a{c=#1;?b{}{}}{}", "c", "?a{c=#1;}{}", "ac"},
	} {
		holdText(t, c)
	}
}

func TestWhiles(t *testing.T) {
	for _, c := range []cutting{
		{"@a{}", "a", "", "a"},
		{"@a{}", "b", "", "b"},
		{"@#1{}", "a", "", "a"}, // though it never ends
		{"@a{b=#1;}", "a", "", "a"},
		{"@a{b=#1;}", "b", "@a{b=#1;}", "ab"},
		{"@a{b=#1;}", "c", "", "c"},
		{"@a{a=#0;}", "a", "@a{a=#0;}", "a"},
		{"@a{a=#0;}", "b", "", "b"},
		{"@#0{b=c;}", "b", "@#0{b=c;}", "bc"},
		{"@a{b=c;}", "b", "@a{b=c;}", "abc"},
		{"@a{b=#1;c=#1;}", "b", "@a{b=#1;}", "ab"},
		{"@a{b=#1;c=#1;}", "c", "@a{c=#1;}", "ac"},
		{"@<ab{a=+a#1;c=#1;}", "a", "@<ab{a=+a#1;}", "ab"},
		{"@<ab{a=+a#1;c=#1;}", "c", "@<ab{a=+a#1;c=#1;}", "abc"},
		{"@<ab{a=+a#1;c=#1;}", "b", "", "b"},
		// what its value has matters behind its deed, and so does what matters ahead of that
		{"@a{a=c;b=#1;}", "b", "@a{a=c;b=#1;}", "abc"},
		{"@a{b=#1;a=c;}", "b", "@a{b=#1;a=c;}", "abc"},
		{"@a{a=c;c=d;b=#1;}", "b", "@a{a=c;c=d;b=#1;}", "abcd"},
		{"@a{d=b;b=c;}", "d", "@a{d=b;b=c;}", "abcd"},
		{"@a{b=c;d=b;}", "d", "@a{b=c;d=b;}", "acd"},
		{"@a{b=c;c=d;}", "b", "@a{b=c;c=d;}", "abcd"},
		{"@a{b=c;c=#1;}", "b", "@a{b=c;c=#1;}", "abc"},
		{"@a{b=c;c=d;d=e;e=f;}", "b", "@a{b=c;c=d;d=e;e=f;}", "abcdef"}, // in so many rounds
		{"@a{e=f;d=e;c=d;b=c;}", "b", "@a{e=f;d=e;c=d;b=c;}", "abf"},
		{"@a{b=c;d=e;c=f;}", "b", "@a{b=c;c=f;}", "abcf"},
		{"@a{b=#0;b=+b#1;}", "b", "@a{b=#0;b=+b#1;}", "ab"}, // it may be done no time
		{"@a{b=c;b=d;}", "b", "@a{b=d;}", "abd"},
		// ahead and behind
		{"@a{b=c;}b=#1;", "b", "b=#1;", ""},
		{"@a{b=c;}c=b;", "c", "@a{b=c;}c=b;", "abc"},
		{"b=#1;@a{b=#2;}", "b", "b=#1;@a{b=#2;}", "a"},
		{"b=#1;@a{c=b;}", "c", "b=#1;@a{c=b;}", "ac"},
		{"b=#1;@b{c=#1;}", "a", "", "a"},
		{"b=#1;@b{c=#1;}", "b", "b=#1;", ""},
		{"@a{a=b;}@b{c=a;}", "c", "@a{a=b;}@b{c=a;}", "abc"},
		{"@a{a=b;}@b{c=d;}", "c", "@b{c=d;}", "bcd"},
		// in each other
		{"@a{@b{c=#1;}}", "c", "@a{@b{c=#1;}}", "abc"},
		{"@a{@b{c=#1;}d=#1;}", "d", "@a{d=#1;}", "ad"},
		{"@a{@b{b=c;}d=b;}", "d", "@a{@b{b=c;}d=b;}", "abcd"},
		{"@a{d=b;@e{b=c;}}", "d", "@a{d=b;@e{b=c;}}", "abcde"},
		{"@a{d=b;@e{c=b;}}", "d", "@a{d=b;}", "abd"},
		{"@a{@b{}c=#1;}", "c", "@a{c=#1;}", "ac"},
		{"@a{b=c;@d{@e{c=f;}}}", "b", "@a{b=c;@d{@e{c=f;}}}", "abcdef"},
		{"@a{?b{c=#1;}{d=#1;}}", "c", "@a{?b{c=#1;}{}}", "abc"},
		{"@a{?b{c=#1;}{d=#1;}}", "d", "@a{?b{}{d=#1;}}", "abd"},
		{"@a{?b{c=d;}{d=e;}}", "c", "@a{?b{c=d;}{d=e;}}", "abcde"},
		{"?a{@b{c=#1;}}{d=#1;}", "c", "?a{@b{c=#1;}}{}", "abc"},
		{"?a{@b{c=#1;}}{d=#1;}", "d", "?a{}{d=#1;}", "ad"},
		{"?a{@b{}}{@c{d=#1;}}", "d", "?a{}{@c{d=#1;}}", "acd"},
		{"e=#0;@<eb{c=+ca;f=+fc;e=+e#1;}", "c", "e=#0;@<eb{c=+ca;e=+e#1;}", "abc"},
		{"e=#0;@<eb{c=+ca;f=+fc;e=+e#1;}", "e", "e=#0;@<eb{e=+e#1;}", "b"},
		{"e=#0;@<eb{c=+ca;f=+fc;e=+e#1;}", "f", "e=#0;@<eb{c=+ca;f=+fc;e=+e#1;}", "abcf"},
	} {
		holdText(t, c)
	}
}

// Nodes of a list, with some of what they do not need.

func num(n int) api.Node          { return api.Node{Kind: api.Num, N: n, A: -1, B: 77, C: math.MinInt} }
func vari(n int) api.Node         { return api.Node{Kind: api.Var, N: n, A: math.MaxInt, B: -2, C: 1} }
func sum(a, b int) api.Node       { return api.Node{Kind: api.Add, N: -3, A: a, B: b, C: 99} }
func sets(n, a int) api.Node      { return api.Node{Kind: api.Set, N: n, A: a, B: -4, C: 98} }
func skip() api.Node              { return api.Node{Kind: api.Skip, N: 6, A: 3, B: -5, C: 97} }
func both(a, b int) api.Node      { return api.Node{Kind: api.Both, N: 5, A: a, B: b, C: -6} }
func choice(a, b, c int) api.Node { return api.Node{Kind: api.If, N: -7, A: a, B: b, C: c} }
func loop(a, b int) api.Node      { return api.Node{Kind: api.While, N: 96, A: a, B: b, C: -8} }

// bare deeds have 0 where they do not need anything.
func bare(x api.Node) api.Node {
	x.N = 0
	switch x.Kind {
	case api.Both, api.While:
		x.C = 0
	case api.Skip:
		x = api.Node{Kind: api.Skip}
	}
	return x
}

// TestNodes: each node stands behind its parts, and these in order, in whatever order they stood; what is not needed stays in values and Sets alone.
func TestNodes(t *testing.T) {
	for _, c := range []struct {
		name  string
		p     []api.Node
		n     int
		cut   []api.Node
		needs string
	}{
		{"a Skip", []api.Node{skip()}, 3, []api.Node{bare(skip())}, "d"},
		{"a Set that is not kept", []api.Node{num(1), sets(0, 0)}, 1, []api.Node{bare(skip())}, "b"},
		{"a Set that is", []api.Node{num(1), sets(0, 0)}, 0, []api.Node{num(1), sets(0, 0)}, ""},
		{"a sum, its parts the other way round", []api.Node{vari(1), vari(2), sum(1, 0), sets(0, 2)}, 0, []api.Node{vari(2), vari(1), sum(0, 1), sets(0, 2)}, "bc"},
		{
			"a sum of sums, all values first",
			[]api.Node{vari(1), vari(2), vari(3), vari(4), sum(3, 0), sum(2, 1), sum(5, 4), sets(0, 6)}, 0,
			[]api.Node{vari(3), vari(2), sum(0, 1), vari(4), vari(1), sum(3, 4), sum(2, 5), sets(0, 6)}, "bcde",
		},
		{
			"both of a Both, the other way round",
			[]api.Node{vari(1), vari(2), sets(1, 1), sets(0, 0), both(2, 3)}, 0,
			[]api.Node{vari(2), sets(1, 0), vari(1), sets(0, 2), bare(both(1, 3))}, "c",
		},
		{"A of a Both", []api.Node{num(1), sets(0, 0), num(2), sets(1, 2), both(1, 3)}, 0, []api.Node{num(1), sets(0, 0)}, ""},
		{"B of a Both", []api.Node{num(1), sets(0, 0), num(2), sets(1, 2), both(1, 3)}, 1, []api.Node{num(2), sets(1, 0)}, ""},
		{"neither of a Both", []api.Node{num(1), sets(0, 0), num(2), sets(1, 2), both(1, 3)}, 2, []api.Node{bare(skip())}, "c"},
		{"a Both of Skips", []api.Node{skip(), skip(), both(1, 0)}, 2, []api.Node{bare(skip())}, "c"},
		{"a Both of a Skip and a Set", []api.Node{num(4), skip(), sets(2, 0), both(1, 2)}, 2, []api.Node{num(4), sets(2, 0)}, ""},
		{"a Both of a Set and a Skip", []api.Node{num(4), skip(), sets(2, 0), both(2, 1)}, 2, []api.Node{num(4), sets(2, 0)}, ""},
		{
			"a Both of Boths, of each of which one is kept",
			[]api.Node{vari(0), sets(1, 0), skip(), both(2, 1), vari(1), sets(2, 4), num(1), sets(0, 6), both(5, 7), both(3, 8)}, 2,
			[]api.Node{vari(0), sets(1, 0), vari(1), sets(2, 2), bare(both(1, 3))}, "a",
		},
		{
			"a Both of a Both to the left",
			[]api.Node{vari(0), sets(1, 0), vari(1), sets(2, 2), both(1, 3), vari(2), sets(3, 5), both(4, 6)}, 3,
			[]api.Node{vari(0), sets(1, 0), vari(1), sets(2, 2), bare(both(1, 3)), vari(2), sets(3, 5), bare(both(4, 6))}, "a",
		},
		{
			"an If, its parts backwards",
			[]api.Node{num(2), sets(1, 0), num(1), sets(1, 2), vari(0), choice(4, 3, 1)}, 1,
			[]api.Node{vari(0), num(1), sets(1, 1), num(2), sets(1, 3), bare(choice(0, 2, 4))}, "a",
		},
		{
			"an If of which C is not kept",
			[]api.Node{num(2), sets(2, 0), num(1), sets(1, 2), vari(0), choice(4, 3, 1)}, 1,
			[]api.Node{vari(0), num(1), sets(1, 1), bare(skip()), bare(choice(0, 2, 3))}, "ab",
		},
		{
			"an If of which B is not kept",
			[]api.Node{num(2), sets(2, 0), num(1), sets(1, 2), vari(0), choice(4, 3, 1)}, 2,
			[]api.Node{vari(0), bare(skip()), num(2), sets(2, 2), bare(choice(0, 1, 3))}, "ac",
		},
		{
			"an If with a Skip",
			[]api.Node{skip(), num(1), sets(1, 1), vari(0), choice(3, 0, 2)}, 1,
			[]api.Node{vari(0), bare(skip()), num(1), sets(1, 2), bare(choice(0, 1, 3))}, "ab",
		},
		{"an If that is not kept", []api.Node{skip(), num(1), sets(1, 1), vari(0), choice(3, 0, 2)}, 0, []api.Node{bare(skip())}, "a"},
		{
			"a While, its parts backwards",
			[]api.Node{num(1), sets(1, 0), vari(0), loop(2, 1)}, 1,
			[]api.Node{vari(0), num(1), sets(1, 1), bare(loop(0, 2))}, "ab",
		},
		{"a While that is not kept", []api.Node{num(1), sets(1, 0), vari(0), loop(2, 1)}, 0, []api.Node{bare(skip())}, "a"},
		{
			"a While with a Skip ahead",
			[]api.Node{vari(0), num(1), sets(1, 1), skip(), both(3, 2), loop(0, 4)}, 1,
			[]api.Node{vari(0), num(1), sets(1, 1), bare(loop(0, 2))}, "ab",
		},
	} {
		hold(t, c.name, c.p, c.n, c.cut, set(c.needs), api.OK)
	}
}

// faulty is a program that no call takes.
type faulty struct {
	name string
	p    []api.Node
	want api.Errno
}

func faults() []faulty {
	return []faulty{
		{"nil", nil, api.ErrNone},
		{"no node", []api.Node{}, api.ErrNone},
		{"a node too many", slices.Repeat([]api.Node{skip()}, 81), api.ErrFull},
		{"a kind that is none", []api.Node{{Kind: 10}}, api.ErrRange},
		{"a kind below 0", []api.Node{{Kind: -1}}, api.ErrRange},
		{"a number too great", []api.Node{num(1_000_000), sets(0, 0)}, api.ErrRange},
		{"a variable too great", []api.Node{vari(6), sets(0, 0)}, api.ErrRange},
		{"a variable below 0", []api.Node{vari(-1), sets(0, 0)}, api.ErrRange},
		{"a variable far off", []api.Node{vari(math.MaxInt), sets(0, 0)}, api.ErrRange},
		{"a Set of a variable too great", []api.Node{num(1), sets(6, 0)}, api.ErrRange},
		{"a Set of a variable below 0", []api.Node{num(1), sets(math.MinInt, 0)}, api.ErrRange},
		{"a Set of itself", []api.Node{num(1), sets(0, 1)}, api.ErrRange},
		{"a While of itself", []api.Node{vari(0), loop(0, 1)}, api.ErrRange},
		{"a Both of one deed twice", []api.Node{skip(), both(0, 0)}, api.ErrShape},
		{"a Set of a deed", []api.Node{skip(), sets(0, 0)}, api.ErrShape},
		{"an If of a value", []api.Node{vari(0), vari(0), skip(), choice(0, 1, 2)}, api.ErrShape},
		{"a value", []api.Node{vari(0)}, api.ErrShape},
		{"a node that is no part", []api.Node{vari(0), num(1), sets(0, 1)}, api.ErrShape},
	}
}

// far are numbers that are no variable's.
var far = []int{math.MinInt, -1 << 32, -64, -6, -1, 6, 7, 63, 64, 1 << 31, 1 << 32, 1<<32 + 1, math.MaxInt}

// TestWrong: what is wrong with the program is told ahead of what is wrong with the variable.
func TestWrong(t *testing.T) {
	for _, c := range faults() {
		for n := range 6 {
			hold(t, c.name, c.p, n, nil, 0, c.want)
		}
		for _, n := range far {
			hold(t, c.name+", and no variable", c.p, n, nil, 0, c.want)
		}
	}
	for _, text := range []string{"", "a=#1;", "b=a;@<bc{b=+b#1;}?b{}{f=e;}"} {
		for _, n := range far {
			hold(t, text, read(t, text), n, nil, 0, api.ErrRange)
		}
	}
}

// TestGreat: as many nodes as may be, as deep as may be.
func TestGreat(t *testing.T) {
	left := "a=" + strings.Repeat("+", 39) + strings.Repeat("f", 39) + "e;"
	right := "a=" + strings.Repeat("+f", 39) + "b;"
	ifs := strings.Repeat("?f{", 25) + "a=#1;" + strings.Repeat("}{}", 25)
	elses := strings.Repeat("?f{}{", 25) + "f=#1;" + strings.Repeat("}", 25)
	whiles := strings.Repeat("@b{@c{@d{", 13) + "a=f;" + strings.Repeat("}}}", 13)
	steps := strings.Repeat("b=a;c=b;", 13) + "d=c;"
	sums := strings.Repeat("b=+ba;", 16)
	for _, c := range []cutting{
		{left, "a", left, "ef"},
		{right, "a", right, "bf"},
		{"b=#1;" + ifs, "a", ifs, "af"},
		{"b=#1;" + ifs, "b", "b=#1;", ""},
		{"b=#1;" + elses, "f", elses, "f"},
		{whiles, "a", whiles, "abcdf"},
		{whiles, "f", "", "f"},
		{steps, "d", "b=a;c=b;d=c;", "a"},
		{steps, "b", "b=a;", "a"},
		{sums, "b", sums, "ab"},
	} {
		if n := len(read(t, c.text)); n < 79 {
			t.Errorf("%s has %d nodes", c.text, n)
		}
		holdText(t, c)
	}
	skips := []api.Node{skip()}
	for range 39 {
		skips = append(skips, skip(), both(len(skips)-1, len(skips)))
	}
	hold(t, "Skips", skips, 5, []api.Node{bare(skip())}, set("f"), api.OK)
}

// TestLoopsInLoops: though what matters behind a While's deed is asked for again whenever more matters behind one around it, all of it is told soon.
func TestLoopsInLoops(t *testing.T) {
	same := strings.Repeat("@a{", 20) + "b=c;c=d;d=e;e=f;" + strings.Repeat("}", 20)
	two := strings.Repeat("@a{", 10) + strings.Repeat("@b{", 10) + "c=d;d=e;e=f;" + strings.Repeat("}", 20)
	many := "@a{@b{f=e;@b{d=f;@b{@e{@d{@b{@e{@b{@f{@d{@b{@d{@e{@c{@b{@c{@e{@f{@e{@d{@f{@f{}f=d;}}}d=c;}}d=b;}c=f;}}e=f;}}}f=a;}}f=e;}}a=d;}}e=b;}}}}}"
	bare := strings.Replace(many, "@f{}", "", 1)
	for _, c := range []cutting{{same, "b", same, "abcdef"}, {two, "c", two, "abcdef"}, {many, "d", bare, "abcde"}, {many, "f", bare, "abcef"}} {
		holdText(t, c)
	}
}

// TestNothingIsShared: what is handed in stays, what lies behind it too, and what comes out is fresh each time.
func TestNothingIsShared(t *testing.T) {
	for _, text := range []string{"", "a=#1;", "a=b;", "?a{f=b;a=c;}{e=+cd;}", "@a{a=b;b=c;}"} {
		whole := append(read(t, text), api.Node{Kind: 77})
		memory := slices.Clone(whole)
		p := memory[:len(memory)-1]
		first, _ := Cut(p, 0)
		kept := slices.Clone(first)
		second, _ := Cut(p, 0)
		for i := range second {
			second[i] = api.Node{Kind: -100}
		}
		_ = append(second, api.Node{Kind: -100})
		third, _ := Cut(p, 0)
		if !slices.Equal(first, kept) || !slices.Equal(third, kept) {
			t.Errorf("%q: %v, and then %v, %v", text, kept, first, third)
		}
		if !slices.Equal(memory, whole) {
			t.Errorf("%q: the program was written into", text)
		}
		for i := range memory {
			memory[i] = api.Node{Kind: -100}
		}
		if !slices.Equal(first, kept) {
			t.Errorf("%q: %v became %v", text, kept, first)
		}
	}
}

// TestNothingIsKept: neither a call that failed nor one that did not is to be told in a later one.
func TestNothingIsKept(t *testing.T) {
	p := read(t, "@a{b=c;c=d;}e=b;")
	for _, c := range faults() {
		_, _ = Cut(c.p, 0)
		_, _ = Needs(c.p, 0)
		_, _ = Cut(p, 6)
		_, _ = Needs(p, -1)
		hold(t, "nearly all", p, 4, p, set("abcd"), api.OK)
		hold(t, "nothing", p, 0, []api.Node{{Kind: api.Skip}}, set("a"), api.OK)
		hold(t, "a part", p, 2, read(t, "@a{c=d;}"), set("acd"), api.OK)
	}
}

package flow

import (
	"math"
	"slices"
	"strings"
	"testing"

	"quietwing/api"
	"quietwing/plain"
	"quietwing/prog"
)

func told(t *testing.T, what string, err error, want api.Errno) {
	t.Helper()
	if got := plain.Told(err); got != want {
		t.Errorf("%s: got %v, want %v", what, got, want)
	}
}

// read the program of a text.
func read(t *testing.T, text string) []api.Node {
	t.Helper()
	p, err := prog.Read(text)
	if err != nil {
		t.Fatalf("Read(%q): %v", text, err)
	}
	return p
}

// levels begin with these, and all others are 0.
func levels(first ...int) []int {
	return append(first, make([]int, 6-len(first))...)
}

// sets of variables: those that are named by words such as "b<ac" have these, and itself; all others itself alone.
func sets(words string) []int {
	out := []int{1, 2, 4, 8, 16, 32}
	for _, word := range strings.Fields(words) {
		for _, from := range word[2:] {
			out[word[0]-'a'] |= 1 << (from - 'a')
		}
	}
	return out
}

func holdFrom(t *testing.T, name string, p []api.Node, want []int) {
	t.Helper()
	got, err := From(p)
	told(t, name, err, api.OK)
	if !slices.Equal(got, want) {
		t.Errorf("%s: From: got %b, want %b", name, got, want)
	}
}

func holdFits(t *testing.T, name string, p []api.Node, l []int, want bool, wrong api.Errno) {
	t.Helper()
	kept := slices.Clone(l)
	got, err := Fits(p, l)
	told(t, name+": Fits", err, wrong)
	if got != want {
		t.Errorf("%s: Fits(%v): got %v, want %v", name, l, got, want)
	}
	if !slices.Equal(l, kept) {
		t.Errorf("%s: Fits(%v) wrote into it", name, kept)
	}
}

func holdLeast(t *testing.T, name string, p []api.Node, l, want []int, wrong api.Errno) {
	t.Helper()
	kept := slices.Clone(l)
	got, err := Least(p, l)
	told(t, name+": Least", err, wrong)
	if !slices.Equal(got, want) {
		t.Errorf("%s: Least(%v): got %v, want %v", name, l, got, want)
	}
	if err != nil && got != nil {
		t.Errorf("%s: Least(%v): a list beside the error", name, l)
	}
	if !slices.Equal(l, kept) {
		t.Errorf("%s: Least(%v) wrote into it", name, kept)
	}
}

func TestFrom(t *testing.T) {
	for _, c := range []struct{ text, want string }{
		{"", ""},
		{"a=#5;", ""},
		{"a=a;", ""},
		{"a=b;", "a<b"},
		{"f=a;", "f<a"},
		{"a=f;", "a<f"},
		{"a=+bc;", "a<bc"},
		{"a=<bc;", "a<bc"},
		{"a==bc;", "a<bc"},
		{"a=+#1b;", "a<b"},
		{"a=+b#1;", "a<b"},
		{"a=+<bc=de;", "a<bcde"},
		{"a=++++bcdef;", "a<bcdef"},
		{"a=+b+c+d+ef;", "a<bcdef"},
		// what it comes to does not matter, but what is written
		{"a==bb;", "a<b"},
		{"a=b;a=#0;", "a<b"},
		{"a=#0;b=a;", "b<a"},
		{"?#0{a=b;}{a=c;}", "a<bc"},
		{"@#0{a=b;}", "a<b"},
		{"@#1{}a=b;", "a<b"},
		{"?a{b=#1;}{b=#1;}", "b<a"},
		// in so many steps
		{"a=b;c=d;", "a<b c<d"},
		{"b=a;c=b;", "b<a c<ab"},
		{"c=b;b=a;", "b<a c<ab"}, // in whatever order
		{"b=a;c=a;", "b<a c<a"},
		{"c=a;c=b;", "c<ab"},
		{"a=b;b=a;", "a<b b<a"},
		{"a=b;b=c;c=a;", "a<bc b<ac c<ab"},
		{"b=a;c=b;d=c;e=d;f=e;", "b<a c<ab d<abc e<abcd f<abcde"},
		{"f=e;e=d;d=c;c=b;b=a;", "b<a c<ab d<abc e<abcd f<abcde"},
		{"a=b;b=c;c=d;d=e;e=f;f=a;", "a<bcdef b<acdef c<abdef d<abcef e<abcdf f<abcde"},
		{"b=a;d=c;c=b;f=e;", "b<a c<ab d<abc f<e"},
		// values of Ifs and Whiles
		{"?a{}{}", ""},
		{"@a{}", ""},
		{"?a{b=#1;}{}", "b<a"},
		{"?a{}{b=#1;}", "b<a"},
		{"?a{b=#1;}{c=#2;}", "b<a c<a"},
		{"?a{b=c;}{d=e;}", "b<ac d<ae"},
		{"@a{b=#1;}", "b<a"},
		{"@a{b=c;}", "b<ac"},
		{"@a{a=#0;}", ""},
		{"?a{b=#1;c=#1;d=#1;}{}", "b<a c<a d<a"},
		{"?a{}{b=#1;c=#1;d=#1;}", "b<a c<a d<a"},
		{"@a{b=#1;c=#1;d=#1;}", "b<a c<a d<a"},
		{"?<ab{c=#1;}{}", "c<ab"},
		{"@=+abc{d=#1;}", "d<abc"},
		// of which it is not in a deed
		{"b=#1;?a{}{}", ""},
		{"?a{}{}b=#1;", ""},
		{"b=#1;@a{}", ""},
		{"@a{}b=#1;", ""},
		{"b=#1;?a{c=#1;}{d=#1;}e=#1;", "c<a d<a"},
		{"b=#1;@a{c=#1;}e=#1;", "c<a"},
		{"?a{b=#1;}{}?c{d=#1;}{}", "b<a d<c"},
		{"@a{b=#1;}@c{d=#1;}", "b<a d<c"},
		// in deeds of deeds
		{"?a{?b{c=#1;}{d=#1;}e=#1;}{f=#1;}", "c<ab d<ab e<a f<a"},
		{"?a{f=#1;}{e=#1;?b{c=#1;}{d=#1;}}", "c<ab d<ab e<a f<a"},
		{"@a{@b{c=#1;}d=#1;}e=#1;", "c<ab d<a"},
		{"@a{c=#1;@b{}d=#1;}", "c<a d<a"}, // that b is looked at again and again is nothing that flows
		{"@a{?b{c=#1;}{@d{e=#1;}}}", "c<ab e<abd"},
		{"?a{@b{?c{@d{e=f;}}{}}}{}", "e<abcdf"},
		{"?<ab{@<cd{e=#1;}}{f=#1;}", "e<abcd f<ab"},
		// and on from there
		{"?a{b=#1;}{}?b{c=#1;}{}", "b<a c<ab"},
		{"?b{c=#1;}{}?a{b=#1;}{}", "b<a c<ab"},
		{"?a{b=#1;}{}c=b;", "b<a c<ab"},
		{"b=a;?b{c=#1;}{}", "b<a c<ab"},
		{"@a{b=+b#1;a=c;}", "a<c b<ac"},
		{"@<ab{a=+a#1;}", "a<b"},
		{"@<fc{d=+ab;a=b;b=d;f=+f#1;}", "a<bcdf b<acdf d<abcf f<c"},
	} {
		holdFrom(t, c.text, read(t, c.text), sets(c.want))
	}
}

// TestFits: of each program levels that fit, and levels that do not.
func TestFits(t *testing.T) {
	for _, c := range []struct {
		text string
		l    []int
		want bool
	}{
		{"", levels(), true},
		{"", []int{7, 6, 5, 4, 3, 2}, true},
		{"a=#1;", []int{0, 7, 7, 7, 7, 7}, true},
		{"a=a;", []int{0, 7, 7, 7, 7, 7}, true},
		{"a=b;", levels(), true},
		{"a=b;", levels(1, 0), true},
		{"a=b;", levels(3, 3), true},
		{"a=b;", levels(7, 7), true},
		{"a=b;", levels(0, 1), false},
		{"a=b;", levels(6, 7), false},
		{"a=b;", levels(0, 7), false},
		{"a=b;", levels(7, 0), true},
		{"f=e;", []int{7, 7, 7, 7, 1, 1}, true},
		{"f=e;", []int{0, 0, 0, 0, 1, 0}, false},
		{"a=+bc;", levels(2, 2, 1), true},
		{"a=+bc;", levels(2, 1, 2), true},
		{"a=+bc;", levels(2, 3, 1), false},
		{"a=+bc;", levels(2, 1, 3), false},
		{"a=b;b=a;", levels(4, 4), true},
		{"a=b;b=a;", levels(4, 5), false},
		{"a=b;b=a;", levels(5, 4), false},
		{"a=b;a=#0;", levels(0, 1), false},
		{"b=a;c=b;", levels(1, 1, 1), true},
		{"b=a;c=b;", levels(1, 2, 3), true},
		{"b=a;c=b;", levels(2, 1, 3), false},
		{"b=a;c=b;", levels(1, 3, 2), false},
		{"?a{b=#1;}{}", levels(1, 1), true},
		{"?a{b=#1;}{}", levels(1, 0), false},
		{"?a{}{b=#1;}", levels(1, 1), true},
		{"?a{}{b=#1;}", levels(1, 0), false},
		{"?a{b=#1;}{c=#1;}", levels(3, 3, 3), true},
		{"?a{b=#1;}{c=#1;}", levels(3, 3, 2), false},
		{"?a{b=#1;}{c=#1;}", levels(3, 2, 3), false},
		{"?a{}{}b=#1;", levels(7, 0), true},
		{"@a{b=#1;}", levels(1, 1), true},
		{"@a{b=#1;}", levels(1, 0), false},
		{"@a{}b=#1;", levels(7, 0), true},
		{"@a{@b{c=#1;}}", levels(2, 1, 2), true},
		{"@a{@b{c=#1;}}", levels(2, 1, 1), false},
		{"@a{@b{c=#1;}}", levels(1, 2, 1), false},
	} {
		holdFits(t, c.text, read(t, c.text), c.l, c.want, api.OK)
		holdOwn(t, c.text, read(t, c.text), c.l, c.want)
	}
}

// holdOwn: if all levels are told, Least tells these, just if they fit.
func holdOwn(t *testing.T, name string, p []api.Node, l []int, fits bool) {
	t.Helper()
	if fits {
		holdLeast(t, name, p, l, l, api.OK)
	} else {
		holdLeast(t, name, p, l, nil, api.ErrClash)
	}
}

func TestLeast(t *testing.T) {
	for _, c := range []struct {
		text string
		l    []int
		want []int // nil if there are none
	}{
		{"", []int{-1, -1, -1, -1, -1, -1}, levels()},
		{"", []int{-1, 7, -1, 0, 1, -1}, []int{0, 7, 0, 0, 1, 0}},
		{"a=b;", []int{-1, -1, -1, -1, -1, -1}, levels()},
		{"a=b;", levels(-1, 3), levels(3, 3)},
		{"a=b;", levels(-1, 7), levels(7, 7)},
		{"a=b;", levels(-1, 0), levels(0, 0)},
		{"a=b;", levels(3, -1), levels(3, 0)}, // what is above does not lift
		{"a=b;", levels(0, -1), levels(0, 0)},
		{"a=b;", levels(3, 2), levels(3, 2)},
		{"a=b;", levels(2, 3), nil},
		{"a=b;", levels(0, 1), nil},
		{"a=b;", levels(6, 7), nil},
		{"f=e;", []int{0, 0, 0, 0, 5, -1}, []int{0, 0, 0, 0, 5, 5}},
		{"a=+bc;", levels(-1, 2, 5), levels(5, 2, 5)},
		{"a=+bc;", levels(-1, 5, 2), levels(5, 5, 2)},
		{"a=+bc;", levels(5, -1, 2), levels(5, 0, 2)},
		{"a=+bc;", levels(5, -1, 6), nil},
		{"b=a;c=b;", levels(4, -1, -1), levels(4, 4, 4)},
		{"b=a;c=b;", levels(-1, 4, -1), levels(0, 4, 4)},
		{"b=a;c=b;", levels(-1, -1, 4), levels(0, 0, 4)},
		{"b=a;c=b;", levels(2, -1, 4), levels(2, 2, 4)},
		{"b=a;c=b;", levels(4, -1, 2), nil}, // though over b, which is not told
		{"b=a;c=b;", levels(4, -1, 4), levels(4, 4, 4)},
		{"a=b;b=a;", levels(-1, 3), levels(3, 3)},
		{"a=b;b=a;", levels(3, -1), levels(3, 3)},
		{"a=b;b=a;", levels(-1, -1), levels()},
		{"a=b;b=a;", levels(3, 2), nil},
		{"a=b;b=c;c=d;d=e;e=f;f=a;", []int{-1, -1, 6, -1, -1, -1}, []int{6, 6, 6, 6, 6, 6}},
		{"a=b;b=c;c=d;d=e;e=f;f=a;", []int{-1, -1, 6, -1, -1, 5}, nil},
		{"?a{b=#1;}{c=#2;}", levels(2, -1, -1), levels(2, 2, 2)},
		{"?a{b=#1;}{c=#2;}", levels(2, -1, 1), nil},
		{"?a{b=#1;}{c=#2;}", levels(-1, 1, 1), levels(0, 1, 1)},
		{"@a{@b{c=d;}}", levels(1, 2, -1, 3), levels(1, 2, 3, 3)},
		{"@a{@b{c=d;}}", levels(3, 2, -1, 1), levels(3, 2, 3, 1)},
		{"@a{@b{c=d;}}", levels(2, 3, -1, 1), levels(2, 3, 3, 1)},
		{"@a{}b=#1;", levels(7, -1), levels(7, 0)},
		{"f=e;e=d;d=c;c=b;b=a;", []int{1, -1, 3, -1, -1, 7}, []int{1, 1, 3, 3, 3, 7}},
		{"f=e;e=d;d=c;c=b;b=a;", []int{1, -1, 3, -1, -1, 2}, nil},
	} {
		if c.want == nil {
			holdLeast(t, c.text, read(t, c.text), c.l, nil, api.ErrClash)
			continue
		}
		holdLeast(t, c.text, read(t, c.text), c.l, c.want, api.OK)
		holdFits(t, c.text, read(t, c.text), c.want, true, api.OK)
	}
}

// far are numbers that are no level.
var far = []int{math.MinInt, -1 << 32, -8, -2, 8, 9, 1 << 31, 1 << 32, 1<<32 + 1, math.MaxInt}

// faults of programs.
func faults() []struct {
	name string
	p    []api.Node
	want api.Errno
} {
	num, vari, skip := api.Node{Kind: api.Num}, api.Node{Kind: api.Var}, api.Node{Kind: api.Skip}
	set := api.Node{Kind: api.Set, A: 0}
	return []struct {
		name string
		p    []api.Node
		want api.Errno
	}{
		{"nil", nil, api.ErrNone},
		{"no node", []api.Node{}, api.ErrNone},
		{"a node too many", slices.Repeat([]api.Node{skip}, 81), api.ErrFull},
		{"a kind that is none", []api.Node{{Kind: 10}}, api.ErrRange},
		{"a kind below 0", []api.Node{{Kind: -1}}, api.ErrRange},
		{"a number too great", []api.Node{{Kind: api.Num, N: 1_000_000}, set}, api.ErrRange},
		{"a variable too great", []api.Node{{Kind: api.Var, N: 6}, set}, api.ErrRange},
		{"a variable below 0", []api.Node{{Kind: api.Var, N: -1}, set}, api.ErrRange},
		{"a variable far off", []api.Node{{Kind: api.Var, N: math.MaxInt}, set}, api.ErrRange},
		{"a Set of a variable too great", []api.Node{num, {Kind: api.Set, N: 6}}, api.ErrRange},
		{"a Set of a variable below 0", []api.Node{num, {Kind: api.Set, N: math.MinInt}}, api.ErrRange},
		{"a Set of itself", []api.Node{num, {Kind: api.Set, A: 1}}, api.ErrRange},
		{"a While of itself", []api.Node{vari, {Kind: api.While, A: 0, B: 1}}, api.ErrRange},
		{"a Both of one deed twice", []api.Node{skip, {Kind: api.Both}}, api.ErrShape},
		{"a Set of a deed", []api.Node{skip, set}, api.ErrShape},
		{"an If of a value", []api.Node{vari, vari, skip, {Kind: api.If, A: 0, B: 1, C: 2}}, api.ErrShape},
		{"a value", []api.Node{vari}, api.ErrShape},
		{"a node that is no part", []api.Node{vari, num, set}, api.ErrShape},
	}
}

// TestProgramWrong: what is wrong with the program is told first, whatever the levels are.
func TestProgramWrong(t *testing.T) {
	for _, c := range faults() {
		p := slices.Clone(c.p)
		got, err := From(p)
		told(t, c.name+": From", err, c.want)
		if got != nil {
			t.Errorf("%s: From: %v beside the error", c.name, got)
		}
		for _, l := range [][]int{levels(), levels(7, 7), levels(7, -1), nil, {}, {0}, levels(8), levels(-2), make([]int, 7), {8, 8, 8, 8, 8}} {
			holdFits(t, c.name, p, l, false, c.want)
			holdLeast(t, c.name, p, l, nil, c.want)
		}
		if !slices.Equal(p, c.p) {
			t.Errorf("%s: the program was written into", c.name)
		}
	}
}

// TestLevelsWrong: that there are not 6 levels is told ahead of one that is none, and that ahead of a clash.
func TestLevelsWrong(t *testing.T) {
	for _, text := range []string{"", "a=#1;", "f=a;a=b;b=a;"} {
		p := read(t, text)
		for _, n := range []int{0, 1, 2, 5, 7, 8, 12, 1000} {
			for _, level := range append([]int{-1, 0, 7}, far...) {
				l := slices.Repeat([]int{level}, n)
				holdFits(t, "so many levels", p, l, false, api.ErrShape)
				holdLeast(t, "so many levels", p, l, nil, api.ErrShape)
			}
		}
		for at := range 6 {
			for _, first := range [][]int{{}, {1}, {1, 0}, {0, 1}, {7, 7, 7, 7, 7, 0}} { // some of these clash
				for _, wrong := range far {
					l := levels(slices.Clone(first)...)
					l[at] = wrong
					holdFits(t, "a level that is none", p, l, false, api.ErrRange)
					holdLeast(t, "a level that is none", p, l, nil, api.ErrRange)
				}
				l := levels(slices.Clone(first)...)
				l[at] = -1
				holdFits(t, "a level that is not told", p, l, false, api.ErrRange)
			}
		}
	}
	p := read(t, "f=a;a=b;b=a;")
	holdFits(t, "nil", p, nil, false, api.ErrShape)
	holdLeast(t, "nil", p, nil, nil, api.ErrShape)
	holdLeast(t, "a level too high, behind a clash", p, []int{1, 0, 0, 0, 0, 8}, nil, api.ErrRange)
	holdLeast(t, "a level too low, behind a clash", p, []int{1, 0, 0, 0, 0, -2}, nil, api.ErrRange)
	holdLeast(t, "a clash", p, []int{1, 0, 0, 0, 0, -1}, nil, api.ErrClash)
	holdLeast(t, "all levels may be -1", p, slices.Repeat([]int{-1}, 6), levels(), api.OK)
	holdLeast(t, "all levels may be the greatest", p, slices.Repeat([]int{7}, 6), slices.Repeat([]int{7}, 6), api.OK)
}

// TestWholeIsLast: a part is where its place says, in whatever order the nodes stand.
func TestWholeIsLast(t *testing.T) {
	p := []api.Node{
		{Kind: api.Var, N: 5}, {Kind: api.Var, N: 1}, {Kind: api.Set, N: 0, A: 0}, {Kind: api.Var, N: 3}, {Kind: api.Less, A: 3, B: 1},
		{Kind: api.Num, N: 6}, {Kind: api.Set, N: 2, A: 5}, {Kind: api.Skip}, {Kind: api.If, A: 4, B: 7, C: 6}, {Kind: api.Both, A: 8, B: 2},
	}
	holdFrom(t, "?<db{}{c=#6;}a=f;", p, sets("a<f c<bd"))
	p[9].A, p[9].B = 2, 8
	holdFrom(t, "a=f;?<db{}{c=#6;}", p, sets("a<f c<bd"))
	p[8].B, p[8].C = 6, 7
	holdFrom(t, "a=f;?<db{c=#6;}{}", p, sets("a<f c<bd"))
	p[8].B, p[9].A = 2, 6
	holdFrom(t, "c=#6;?<db{a=f;}{}", p, sets("a<bdf"))
	p[8].A, p[4] = 3, api.Node{Kind: api.Set, N: 4, A: 1}
	p[9] = api.Node{Kind: api.Both, A: 6, B: 4}
	p = append(p, api.Node{Kind: api.Both, A: 9, B: 8})
	holdFrom(t, "c=#6;e=b;?d{a=f;}{}", p, sets("a<df e<b"))
}

// TestNotNeeded: what a node does not need is not looked at.
func TestNotNeeded(t *testing.T) {
	p := []api.Node{
		{Kind: api.Var, N: 0, A: -1, B: 9, C: math.MinInt}, {Kind: api.Num, N: 3, A: 0, B: 0, C: 0},
		{Kind: api.Less, N: 4, A: 0, B: 1, C: 0}, {Kind: api.Var, N: 1, A: 2, B: 1, C: 1}, {Kind: api.Num, N: 1, C: 3},
		{Kind: api.Add, N: 5, A: 3, B: 4, C: 2}, {Kind: api.Set, N: 2, A: 5, B: 0, C: 2}, {Kind: api.While, N: 3, A: 2, B: 6, C: 5},
		{Kind: api.Skip, N: 3, A: 7, B: 6, C: 0}, {Kind: api.Var, N: 3}, {Kind: api.Skip, N: 5, A: 9, B: 9, C: 9},
		{Kind: api.If, N: 1_000_000, A: 9, B: 8, C: 10}, {Kind: api.Both, N: math.MinInt, A: 7, B: 11, C: 6},
	}
	holdFrom(t, "nodes with more than they need", p, sets("c<ab")) // "@<a#3{c=+b#1;}?d{}{}"
	holdFits(t, "nodes with more than they need", p, levels(1, 2, 2, 7), true, api.OK)
	holdLeast(t, "nodes with more than they need", p, levels(1, 2, -1, 7), levels(1, 2, 2, 7), api.OK)
}

// TestGreat: as many nodes as may be, as deep as may be.
func TestGreat(t *testing.T) {
	for _, c := range []struct {
		name, text, want string
	}{
		{"a sum", "a=" + strings.Repeat("+", 39) + strings.Repeat("f", 39) + "e;", "a<ef"},
		{"a sum to the right", "a=" + strings.Repeat("+f", 39) + "b;", "a<bf"},
		{"down Ifs", "b=#1;" + strings.Repeat("?f{", 25) + "a=#1;" + strings.Repeat("}{}", 25), "a<f"},
		{"down Ifs to the right", "b=#1;" + strings.Repeat("?f{}{", 25) + "a=#1;" + strings.Repeat("}", 25), "a<f"},
		{"down Whiles", strings.Repeat("@b{@c{@d{", 13) + "a=f;" + strings.Repeat("}}}", 13), "a<bcdf"},
	} {
		p := read(t, c.text)
		if len(p) != 80 {
			t.Errorf("%s has %d nodes", c.name, len(p))
		}
		holdFrom(t, c.name, p, sets(c.want))
		holdLeast(t, c.name, p, []int{-1, 7, 7, 7, 7, 7}, slices.Repeat([]int{7}, 6), api.OK)
	}
	sums := strings.Repeat("b=a;c=b;", 13) + "d=c;"
	if n := len(read(t, sums)); n != 80 {
		t.Errorf("the Sets have %d nodes", n)
	}
	holdFrom(t, "Sets", read(t, sums), sets("b<a c<ab d<abc"))
	holdFrom(t, "a Skip", []api.Node{{Kind: api.Skip}}, sets(""))
}

// TestNothingIsShared: what is handed in stays, what lies behind it too, and what comes out is fresh each time.
func TestNothingIsShared(t *testing.T) {
	for _, text := range []string{"", "a=b;", "?a{f=b;}{e=+cd;}"} {
		whole := append(read(t, text), api.Node{Kind: 77})
		memory := []int{1, -1, -1, 1, -1, -1, 7, -8}
		p := slices.Clone(whole)
		answers := []func() []int{
			func() []int { l, _ := From(p[:len(p)-1]); return l },
			func() []int { l, _ := Least(p[:len(p)-1], memory[:6]); return l },
			func() []int { l, _ := Least(p[:len(p)-1], make([]int, 6)); return l },
		}
		for _, answer := range answers {
			first := answer()
			kept := slices.Clone(first)
			second := answer()
			for i := range second {
				second[i] = -100
			}
			_ = append(second, -100)
			if !slices.Equal(first, kept) || !slices.Equal(answer(), kept) {
				t.Errorf("%q: %v, and then %v, %v", text, kept, first, answer())
			}
		}
		if !slices.Equal(memory, []int{1, -1, -1, 1, -1, -1, 7, -8}) || !slices.Equal(p, whole) {
			t.Errorf("%q: a list was written into", text)
		}
	}
}

// TestNothingIsKept: a call that failed is not to be told in a later one, nor is one that did not.
func TestNothingIsKept(t *testing.T) {
	p, other := read(t, "?a{b=#1;}{c=b;}"), read(t, "f=e;a=c;@d{e=#1;}")
	for _, c := range faults() {
		_, _ = From(c.p)
		_, _ = Fits(p, levels(9))
		_, _ = Least(p, levels(7, 6))
		holdFrom(t, "a program", p, sets("b<a c<ab"))
		holdFrom(t, "another one", other, sets("a<c e<d f<de"))
		holdLeast(t, "a program", p, levels(5, -1, -1), levels(5, 5, 5), api.OK)
		holdLeast(t, "another one", other, levels(-1, 5, 1), levels(1, 5, 1), api.OK)
		holdFits(t, "a program", p, levels(1, 1, 2), true, api.OK)
		holdFits(t, "another one", other, levels(1, 1, 2), false, api.OK)
	}
}

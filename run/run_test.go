package run

import (
	"math"
	"slices"
	"strings"
	"testing"

	"quietwing/api"
	"quietwing/plain"
	"quietwing/prog"
)

func told(t *testing.T, what string, err error, want api.Errno) {
	t.Helper()
	if got := plain.Told(err); got != want {
		t.Errorf("%s: got %v, want %v", what, got, want)
	}
}

// read the program of a text.
func read(t *testing.T, text string) []api.Node {
	t.Helper()
	p, err := prog.Read(text)
	if err != nil {
		t.Fatalf("Read(%q): %v", text, err)
	}
	return p
}

// vars begins with these, and all others are 0.
func vars(first ...int) []int {
	return append(first, make([]int, 6-len(first))...)
}

// asked is what is handed in.
type asked struct {
	p    []api.Node
	vars []int
	fuel int
}

// good is a program that does something, with nothing wrong.
func good(t *testing.T) asked {
	return asked{read(t, "@<ab{a=+a#1;}?=ab{c=#1;}{}"), []int{1, 3, 0, 7, 8, 9}, 100}
}

// far are numbers that are no variable's, and no fuel's.
var far = []int{math.MinInt, -1 << 32, -1_000_000, -1, 1_000_000, 1_000_001, 1 << 31, 1 << 32, 1<<32 + 1, math.MaxInt}

// fault spoils one thing of what is handed in.
type fault func(a *asked)

var (
	progNone  fault = func(a *asked) { a.p = nil }
	progMany  fault = func(a *asked) { a.p = slices.Repeat([]api.Node{{Kind: api.Skip}}, 81) }
	progRange fault = func(a *asked) { a.p[0].N = 6 }
	progShape fault = func(a *asked) { a.p = a.p[:3] }
	varsNone  fault = func(a *asked) { a.vars = nil }
	varsFew   fault = func(a *asked) { a.vars = a.vars[:5] }
	varsMany  fault = func(a *asked) { a.vars = append(a.vars, 0) }
	varsLow   fault = func(a *asked) { a.vars[0] = -1 }
	varsHigh  fault = func(a *asked) { a.vars[len(a.vars)-1] = 1_000_000 }
	fuelLow   fault = func(a *asked) { a.fuel = -1 }
	fuelHigh  fault = func(a *asked) { a.fuel = 5001 }
	fuelShort fault = func(a *asked) { a.fuel = 0 } // Run's alone
)

func TestCheckWrong(t *testing.T) {
	for _, c := range []struct {
		name   string
		faults []fault
		want   api.Errno
	}{
		{"no program", []fault{progNone}, api.ErrNone},
		{"a program of too many nodes", []fault{progMany}, api.ErrFull},
		{"a program of a variable that is none", []fault{progRange}, api.ErrRange},
		{"a program that is a value", []fault{progShape}, api.ErrShape},
		{"no variables", []fault{varsNone}, api.ErrShape},
		{"a variable too few", []fault{varsFew}, api.ErrShape},
		{"a variable too many", []fault{varsMany}, api.ErrShape},
		{"the first variable below 0", []fault{varsLow}, api.ErrRange},
		{"the last variable too great", []fault{varsHigh}, api.ErrRange},
		{"fuel below 0", []fault{fuelLow}, api.ErrRange},
		{"too much fuel", []fault{fuelHigh}, api.ErrRange},
		// of several faults the one that is named first is told
		{"no program, no variables", []fault{progNone, varsNone}, api.ErrNone},
		{"no program, a variable below 0", []fault{progNone, varsLow}, api.ErrNone},
		{"no program, too much fuel", []fault{progNone, fuelHigh}, api.ErrNone},
		{"too many nodes, a variable too few", []fault{progMany, varsFew}, api.ErrFull},
		{"too many nodes, a variable too great", []fault{progMany, varsHigh}, api.ErrFull},
		{"too many nodes, fuel below 0", []fault{progMany, fuelLow}, api.ErrFull},
		{"a variable of the program is none, a variable too many", []fault{progRange, varsMany}, api.ErrRange},
		{"a variable of the program is none, no variables", []fault{progRange, varsNone}, api.ErrRange},
		{"the program is a value, a variable below 0", []fault{progShape, varsLow}, api.ErrShape},
		{"the program is a value, too much fuel", []fault{progShape, fuelHigh}, api.ErrShape},
		{"a variable too few, and one below 0", []fault{varsFew, varsLow}, api.ErrShape},
		{"a variable too many, and that one too great", []fault{varsMany, varsHigh}, api.ErrShape},
		{"no variables, fuel below 0", []fault{varsNone, fuelLow}, api.ErrShape},
		{"a variable too many, too much fuel", []fault{varsMany, fuelHigh}, api.ErrShape},
		{"a variable too few, and the fuel would not last", []fault{varsFew, fuelShort}, api.ErrShape},
		{"a variable below 0, and the fuel would not last", []fault{varsLow, fuelShort}, api.ErrRange},
		{"no program, and no fuel", []fault{progNone, fuelShort}, api.ErrNone},
	} {
		a := good(t)
		for _, spoil := range c.faults {
			spoil(&a)
		}
		holdCheck(t, c.name, a, c.want)
	}
}

// holdCheck: what Check tells Run tells, too, ahead of all else, and answers nothing beside it.
func holdCheck(t *testing.T, name string, a asked, want api.Errno) {
	t.Helper()
	p, v := slices.Clone(a.p), slices.Clone(a.vars)
	told(t, name, Check(a.p, a.vars, a.fuel), want)
	if want != api.OK {
		holdRun(t, name, a, nil, 0, want)
	}
	if !slices.Equal(p, a.p) || !slices.Equal(v, a.vars) {
		t.Errorf("%s: a list was written into", name)
	}
}

func holdRun(t *testing.T, name string, a asked, vars []int, burnt int, want api.Errno) {
	t.Helper()
	got, n, err := Run(a.p, a.vars, a.fuel)
	told(t, name+": Run", err, want)
	if !slices.Equal(got, vars) || n != burnt {
		t.Errorf("%s: Run: got %v, %d, want %v, %d", name, got, n, vars, burnt)
	}
	if err != nil && got != nil {
		t.Errorf("%s: Run: a list beside the error", name)
	}
}

// TestCheckFarOff: numbers far off, and just off, wherever a number stands.
func TestCheckFarOff(t *testing.T) {
	for _, wrong := range far {
		for at := range 6 {
			a := good(t)
			a.vars[at] = wrong
			holdCheck(t, "a variable", a, api.ErrRange)
		}
		a := good(t)
		a.fuel = wrong
		holdCheck(t, "fuel", a, api.ErrRange)
	}
	for _, n := range []int{0, 1, 2, 3, 4, 5, 7, 8, 64, 80, 100_000} {
		a := good(t)
		a.vars = make([]int, n)
		holdCheck(t, "so many variables", a, api.ErrShape)
		a.vars = slices.Repeat([]int{-1}, n)
		holdCheck(t, "so many variables, and all wrong", a, api.ErrShape)
	}
}

func TestCheckRight(t *testing.T) {
	for _, c := range []struct {
		name string
		text string
		vars []int
		fuel int
	}{
		{"the least of all", "", vars(), 0},
		{"the greatest variables", "a=b;", slices.Repeat([]int{999_999}, 6), 100},
		{"as much fuel as may be", "a=b;", []int{0, 999_999, 1, 0, 2, 3}, 5000},
		{"fuel that will not last", "a=b;", vars(), 0},
		{"what never ends", "@#1{}", vars(), 5000},
		{"a list with more of it behind its length", "a=b;", []int{0, 1, 2, 3, 4, 5, -1, 1_000_000}[:6], 9},
	} {
		holdCheck(t, c.name, asked{read(t, c.text), c.vars, c.fuel}, api.OK)
	}
}

// TestValues: what a value is, by all that is done with it: it is set, and chosen by.
func TestValues(t *testing.T) {
	start := []int{0, 1, 2, 500_000, 999_998, 999_999}
	for _, c := range []struct {
		value string
		want  int
	}{
		{"#0", 0}, {"#1", 1}, {"#999999", 999_999}, {"#100000", 100_000},
		{"a", 0}, {"b", 1}, {"c", 2}, {"d", 500_000}, {"e", 999_998}, {"f", 999_999},
		{"+aa", 0}, {"+ac", 2}, {"+ca", 2}, {"+bc", 3}, {"+#70#5", 75},
		{"+fa", 999_999}, {"+eb", 999_999}, {"+d#499999", 999_999}, // as great as may be
		{"+fb", 0}, {"+bf", 0}, {"+ec", 0}, {"+dd", 0}, {"+d#500001", 1}, // just above
		{"+fc", 1}, {"+ff", 999_998}, {"+ee", 999_996}, {"+ef", 999_997},
		{"+#999999#999999", 999_998},
		{"++ffb", 999_999}, {"+b+ff", 999_999}, {"++ffc", 0}, {"++ff+ff", 999_996},
		{"<ab", 1}, {"<ba", 0}, {"<aa", 0}, {"<ff", 0}, {"<ef", 1}, {"<fe", 0}, {"<af", 1}, {"<fa", 0},
		{"<#9#10", 1}, {"<#10#9", 0}, {"<c#3", 1}, {"<c#2", 0}, {"<#1c", 1}, {"<#2c", 0},
		{"<+fbb", 1}, {"<e+fb", 0}, // what is above is less
		{"=aa", 1}, {"=ab", 0}, {"=ba", 0}, {"=ff", 1}, {"=ef", 0}, {"=fe", 0}, {"=c#2", 1}, {"=#2#2", 1}, {"=#2#20", 0},
		{"=a+fb", 1}, {"=b<ab", 1}, {"=a=ab", 1}, {"==ab=ba", 1}, {"=<ab<ba", 0}, {"<<ba=aa", 1}, {"<=aa<ba", 0},
		{"+=aa=bb", 2}, {"+<ab#999999", 0}, {"+<ba#999999", 999_999},
	} {
		want := slices.Clone(start)
		want[1] = c.want
		holdRun(t, "b="+c.value, asked{read(t, "b="+c.value+";"), start, 1}, want, 1, api.OK)
		want = slices.Clone(start)
		want[2] = 77
		if c.want == 0 {
			want[2] = 88
		}
		holdRun(t, "?"+c.value, asked{read(t, "?"+c.value+"{c=#77;}{c=#88;}"), start, 2}, want, 2, api.OK)
		if c.want == 0 {
			holdRun(t, "@"+c.value, asked{read(t, "@"+c.value+"{a=#1;}"), start, 1}, start, 1, api.OK)
		} else {
			holdRun(t, "@"+c.value, asked{read(t, "@"+c.value+"{}"), start, 5000}, nil, 0, api.ErrFull)
		}
	}
}

// ended are programs that end, with what comes of them.
var ended = []struct {
	text  string
	vars  []int
	want  []int
	burnt int
}{
	{"", []int{1, 2, 3, 4, 5, 6}, []int{1, 2, 3, 4, 5, 6}, 0},
	{"a=#7;", []int{1, 2, 3, 4, 5, 6}, []int{7, 2, 3, 4, 5, 6}, 1},
	{"f=#7;", []int{1, 2, 3, 4, 5, 6}, []int{1, 2, 3, 4, 5, 7}, 1},
	{"c=c;", []int{1, 2, 3, 4, 5, 6}, []int{1, 2, 3, 4, 5, 6}, 1},
	{"a=#1;a=#2;", vars(9), vars(2), 2},
	{"a=b;b=a;", vars(1, 2), vars(2, 2), 2},
	{"b=a;a=b;", vars(1, 2), vars(1, 1), 2},
	{"c=a;a=b;b=c;", vars(1, 2), vars(2, 1, 1), 3},
	{"a=b;b=c;c=d;d=e;e=f;f=a;", []int{1, 2, 3, 4, 5, 6}, []int{2, 3, 4, 5, 6, 2}, 6},
	{"?a{b=#1;}{c=#1;}", vars(1), vars(1, 1), 2},
	{"?a{b=#1;}{c=#1;}", vars(0), vars(0, 0, 1), 2},
	{"?a{b=#1;}{c=#1;}", vars(999_999), vars(999_999, 1), 2},
	{"?a{}{c=#1;}", vars(1), vars(1), 1},
	{"?a{}{c=#1;}", vars(0), vars(0, 0, 1), 2},
	{"?a{c=#1;}{}", vars(0), vars(0), 1},
	{"?#0{}{}", vars(), vars(), 1},
	{"?a{a=#0;}{a=#1;}", vars(5), vars(0), 2}, // what it is then does not matter
	{"?a{a=#0;}{a=#1;}", vars(0), vars(1), 2},
	{"?a{a=#0;}{}?a{b=#1;}{b=#2;}", vars(5), vars(0, 2), 4},
	{"?a{?b{c=#1;}{c=#2;}}{?b{c=#3;}{c=#4;}}", vars(1, 1), vars(1, 1, 1), 3},
	{"?a{?b{c=#1;}{c=#2;}}{?b{c=#3;}{c=#4;}}", vars(1, 0), vars(1, 0, 2), 3},
	{"?a{?b{c=#1;}{c=#2;}}{?b{c=#3;}{c=#4;}}", vars(0, 1), vars(0, 1, 3), 3},
	{"?a{?b{c=#1;}{c=#2;}}{?b{c=#3;}{c=#4;}}", vars(0, 0), vars(0, 0, 4), 3},
	{"@a{}", vars(0), vars(0), 1},
	{"@a{a=#0;}", vars(0), vars(0), 1},
	{"@a{a=#0;}", vars(8), vars(0), 3},
	{"@a{a=#0;b=#1;}", vars(8), vars(0, 1), 4}, // what is behind the Set is done, too
	{"@<a#3{a=+a#1;}", vars(), vars(3), 7},
	{"@<a#3{a=+a#1;}", vars(2), vars(3), 3},
	{"@<a#3{a=+a#1;}", vars(3), vars(3), 1},
	{"@a{a=+a#999999;b=+b#1;}", vars(40), vars(0, 40), 121},
	{"@a{a=+a#1;b=+b#1;}", vars(999_990), vars(0, 10), 31},
	{"@a{?b{a=#0;}{b=#1;}}", vars(1), vars(0, 1), 7},
	{"@a{@b{b=#0;}a=#0;}", vars(1, 1), vars(0, 0), 6},
	{"@a{@b{a=#0;b=#0;}}", vars(1, 1), vars(0, 0), 6},
	{"@a{a=#0;}@a{a=#0;}", vars(1), vars(0), 4},
	{"?a{@a{a=#0;}}{}", vars(1), vars(0), 4},
	{"?a{@a{a=#0;}}{}", vars(0), vars(0), 1},
	{"@<db{c=+ca;d=+d#1;}", vars(1234, 567), vars(1234, 567, 699_678, 567), 1702},                    // 1234 times 567
	{"@<fc{d=+ab;a=b;b=d;f=+f#1;}", vars(0, 1, 30), vars(832_040, 346_269, 30, 346_269, 0, 30), 151}, // as many rabbits
	{"@<da{d=+d#1;e=#0;@<eb{e=+e#1;c=+c#1;}}", vars(7, 8), vars(7, 8, 56, 7, 8), 197},
}

func TestRun(t *testing.T) {
	for _, c := range ended {
		for _, fuel := range []int{c.burnt, c.burnt + 1, 5000} {
			holdRun(t, c.text, asked{read(t, c.text), c.vars, fuel}, c.want, c.burnt, api.OK)
		}
	}
}

// TestFull: one drop less than is burnt, or less than that, does not last, wherever it goes out.
func TestFull(t *testing.T) {
	for _, c := range ended {
		for fuel := range c.burnt {
			a := asked{read(t, c.text), c.vars, fuel}
			told(t, c.text, Check(a.p, a.vars, a.fuel), api.OK)
			holdRun(t, c.text, a, nil, 0, api.ErrFull)
		}
	}
	for _, text := range []string{"@#1{}", "@a{b=#1;}", "@=aa{a=+a#1;}", "@#1{?a{}{}}", "?a{@a{}}{}", "a=#1;@a{@a{}}", "@a{@a{a=#0;}a=#2;}"} {
		for _, fuel := range []int{0, 1, 2, 3, 4, 5, 4999, 5000} {
			holdRun(t, text, asked{read(t, text), vars(1), fuel}, nil, 0, api.ErrFull)
		}
	}
}

// TestMostFuel: the last drop of all may be burnt by a Set, an If, or a look, and is not to be gone beyond.
func TestMostFuel(t *testing.T) {
	for _, c := range []struct {
		text  string
		want  []int
		burnt int
	}{
		{"@<a#2499{a=+a#1;}b=#5;", vars(2499, 5), 5000},
		{"@<a#2499{a=+a#1;}?a{}{}", vars(2499), 5000},
		{"b=#0;@<a#2499{a=+a#1;}", vars(2499), 5000},
		{"@<a#2499{a=+a#1;}", vars(2499), 4999},
		{"@<a#2499{a=+a#1;}b=#5;b=#6;", nil, 0},
		{"@<a#2499{a=+a#1;}b=#5;?a{}{}", nil, 0},
		{"@<a#2500{a=+a#1;}", nil, 0},
	} {
		want := api.OK
		if c.want == nil {
			want = api.ErrFull
		}
		holdRun(t, c.text, asked{read(t, c.text), vars(), 5000}, c.want, c.burnt, want)
	}
}

// TestWholeIsLast: the last node is the whole, and a part is where its place says, in whatever order they stand.
func TestWholeIsLast(t *testing.T) {
	p := []api.Node{
		{Kind: api.Num, N: 5}, {Kind: api.Var, N: 1}, {Kind: api.Set, N: 0, A: 0}, {Kind: api.Var, N: 0}, {Kind: api.Less, A: 3, B: 1},
		{Kind: api.Num, N: 6}, {Kind: api.Set, N: 2, A: 5}, {Kind: api.Skip}, {Kind: api.If, A: 4, B: 7, C: 6}, {Kind: api.Both, A: 8, B: 2},
	}
	// "?<ab{}{c=#6;}a=#5;"
	holdRun(t, "a is less", asked{p, vars(1, 2), 9}, vars(5, 2), 2, api.OK)
	holdRun(t, "a is not less", asked{p, vars(2, 2), 9}, vars(5, 2, 6), 3, api.OK)
	p[9].A, p[9].B = 2, 8
	holdRun(t, "a is set ahead", asked{p, vars(1, 2), 9}, vars(5, 2, 6), 3, api.OK)
	p[4].A, p[4].B = 1, 3
	holdRun(t, "a is set ahead, and b is less", asked{p, vars(1, 2), 9}, vars(5, 2), 2, api.OK)
	p[8].B, p[8].C = 6, 7
	holdRun(t, "and c is set if it is", asked{p, vars(1, 2), 9}, vars(5, 2, 6), 3, api.OK)
}

// TestNotNeeded: what a node does not need is not looked at.
func TestNotNeeded(t *testing.T) {
	p := []api.Node{
		{Kind: api.Var, N: 0, A: -1, B: 9, C: math.MinInt}, {Kind: api.Num, N: 3, A: 8, B: 8, C: 8},
		{Kind: api.Less, N: math.MaxInt, A: 0, B: 1, C: -7}, {Kind: api.Var, N: 0, A: 2, B: 1, C: 1}, {Kind: api.Num, N: 1, C: 100},
		{Kind: api.Add, N: -1, A: 3, B: 4, C: 4}, {Kind: api.Set, N: 0, A: 5, B: 6, C: 7}, {Kind: api.While, N: 6, A: 2, B: 6, C: 77},
		{Kind: api.Skip, N: -1, A: 7, B: 8, C: 9}, {Kind: api.Var, N: 1}, {Kind: api.Skip, N: 5, A: 9, B: 9, C: 9},
		{Kind: api.If, N: 1_000_000, A: 9, B: 8, C: 10}, {Kind: api.Both, N: math.MinInt, A: 7, B: 11, C: 12},
	}
	holdRun(t, "nodes with more than they need", asked{p, vars(), 20}, vars(3), 8, api.OK)
}

// TestGreat: as many nodes as may be, as deep as may be.
func TestGreat(t *testing.T) {
	sum := "a=" + strings.Repeat("+", 39) + strings.Repeat("f", 40) + ";"
	deep := "b=#1;" + strings.Repeat("?f{", 25) + "a=#1;" + strings.Repeat("}{}", 25)
	if n := len(read(t, sum)); n != 80 {
		t.Errorf("the sum has %d nodes", n)
	}
	if n := len(read(t, deep)); n != 80 {
		t.Errorf("the deep one has %d nodes", n)
	}
	holdRun(t, "a sum", asked{read(t, sum), []int{0, 0, 0, 0, 0, 999_999}, 1}, []int{999_960, 0, 0, 0, 0, 999_999}, 1, api.OK)
	holdRun(t, "down Ifs", asked{read(t, deep), []int{0, 0, 0, 0, 0, 2}, 27}, []int{1, 1, 0, 0, 0, 2}, 27, api.OK)
	loops := strings.Repeat("@a{", 38) + "a=#0;" + strings.Repeat("}", 38)
	holdRun(t, "down Whiles", asked{read(t, loops), vars(1), 77}, vars(0), 77, api.OK)
	holdRun(t, "down Whiles, with a drop too few", asked{read(t, loops), vars(1), 76}, nil, 0, api.ErrFull)
	p := []api.Node{{Kind: api.Skip}}
	for range 39 {
		p = append(p, api.Node{Kind: api.Skip}, api.Node{Kind: api.Both, A: len(p) - 1, B: len(p)})
	}
	holdRun(t, "Skips, and no fuel", asked{p, vars(4), 0}, vars(4), 0, api.OK)
}

// TestNothingIsShared: what is handed in stays, what lies behind it too, and what comes out is fresh each time.
func TestNothingIsShared(t *testing.T) {
	for _, text := range []string{"", "a=#9;", "@<b#3{b=+b#1;}f=b;", "@#1{a=+a#1;}"} {
		p := append(read(t, text), api.Node{Kind: 77})
		memory := []int{1, 2, 3, 4, 5, 6, -7, -8}
		whole := slices.Clone(p)
		p = p[:len(p)-1]
		for _, fuel := range []int{0, 1, 3, 50} {
			first, burnt, err := Run(p, memory[:6], fuel)
			kept := slices.Clone(first)
			second, again, err2 := Run(p, memory[:6], fuel)
			for i := range second {
				second[i] = -100
			}
			_ = append(second, -100)
			if plain.Told(err) != plain.Told(err2) || burnt != again || !slices.Equal(first, kept) {
				t.Errorf("%q, fuel %d: %v, %d, %v, and then %v, %d, %v", text, fuel, kept, burnt, err, first, again, err2)
			}
			third, _, _ := Run(p, memory[:6], fuel)
			if !slices.Equal(third, kept) {
				t.Errorf("%q, fuel %d: %v, and then %v", text, fuel, kept, third)
			}
			if !slices.Equal(memory, []int{1, 2, 3, 4, 5, 6, -7, -8}) || !slices.Equal(p[:len(whole)], whole) {
				t.Fatalf("%q, fuel %d: a list was written into", text, fuel)
			}
		}
	}
}

// TestNothingIsKept: a call that failed, or whose fuel did not last, is not to be told in a later one.
func TestNothingIsKept(t *testing.T) {
	a := good(t)
	want, burnt, err := Run(a.p, a.vars, a.fuel)
	told(t, "the first time", err, api.OK)
	for fuel := range 5 {
		holdRun(t, "too little", asked{a.p, a.vars, fuel}, nil, 0, api.ErrFull)
		holdRun(t, "no program", asked{nil, a.vars, fuel}, nil, 0, api.ErrNone)
		holdRun(t, "again", a, want, burnt, api.OK)
	}
}

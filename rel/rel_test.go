package rel

import (
	"math"
	"slices"
	"testing"

	"quietwing/api"
	"quietwing/plain"
)

func told(t *testing.T, what string, err error, want api.Errno) {
	t.Helper()
	if got := plain.Told(err); got != want {
		t.Errorf("%s: got %v, want %v", what, got, want)
	}
}

// wrong are relations that no call takes.
var wrong = []struct {
	name string
	r    []int
	want api.Errno
}{
	{"one row too many", make([]int, api.MaxThings+1), api.ErrFull},
	{"far too many rows", make([]int, 1000), api.ErrFull},
	{"too many rows and a wrong one", append(make([]int, api.MaxThings), -1), api.ErrFull},
	{"a row below 0", []int{0, -1}, api.ErrRange},
	{"least number", []int{math.MinInt}, api.ErrRange},
	{"greatest number", []int{0, 0, math.MaxInt}, api.ErrRange},
	{"one thing too many in a row of one", []int{2}, api.ErrRange},
	{"one thing too many in the first row", []int{8, 0, 0}, api.ErrRange},
	{"one thing too many in the last row", []int{7, 7, 8}, api.ErrRange},
	{"one thing too many of 12", append(make([]int, 11), 1<<12), api.ErrRange},
}

func TestCheck(t *testing.T) {
	for _, c := range wrong {
		told(t, c.name, Check(c.r), c.want)
	}
	full := make([]int, api.MaxThings)
	for i := range full {
		full[i] = 1<<api.MaxThings - 1
	}
	for _, r := range [][]int{nil, {}, {0}, {1}, {3, 3}, {7, 0, 7}, full} {
		told(t, "a right one", Check(r), api.OK)
	}
}

// TestWrong: whatever Check finds all others tell, ahead of what else is wrong, and answer nothing beside it.
func TestWrong(t *testing.T) {
	for _, c := range wrong {
		list, err := Closure(c.r)
		told(t, "Closure: "+c.name, err, c.want)
		is, err2 := Order(c.r)
		told(t, "Order: "+c.name, err2, c.want)
		steps, err3 := Reduce(c.r)
		told(t, "Reduce: "+c.name, err3, c.want)
		way, err4 := Way(c.r, -1, len(c.r))
		told(t, "Way: "+c.name, err4, c.want)
		if len(list) != 0 || is || len(steps) != 0 || len(way) != 0 {
			t.Errorf("%s: answered %v %v %v %v", c.name, list, is, steps, way)
		}
	}
	// Two things lead to each other, and a row is wrong: ErrRange stands ahead of ErrClash.
	_, err := Reduce([]int{2, 1, 8})
	told(t, "Reduce of a wrong one that is no order", err, api.ErrRange)
}

func TestClosure(t *testing.T) {
	for _, c := range []struct{ r, want []int }{
		{nil, nil},
		{[]int{0}, []int{1}},
		{[]int{1}, []int{1}},
		{[]int{0, 0, 0}, []int{1, 2, 4}},
		{[]int{2, 4, 0}, []int{7, 6, 4}},
		{[]int{0, 1, 2}, []int{1, 3, 7}},
		{[]int{2, 4, 1}, []int{7, 7, 7}},
		{[]int{2, 4, 8, 16, 32, 64, 128, 256, 512, 1024, 2048, 0}, []int{4095, 4094, 4092, 4088, 4080, 4064, 4032, 3968, 3840, 3584, 3072, 2048}},
	} {
		got, err := Closure(c.r)
		told(t, "Closure", err, api.OK)
		if !slices.Equal(got, c.want) {
			t.Errorf("Closure(%v): got %v, want %v", c.r, got, c.want)
		}
	}
}

func TestOrder(t *testing.T) {
	for _, c := range []struct {
		r    []int
		want bool
	}{
		{nil, true},
		{[]int{0}, true},
		{[]int{1}, true}, // a thing that leads to itself is no two
		{[]int{3, 2}, true},
		{[]int{2, 1}, false},
		{[]int{2, 4, 0}, true},
		{[]int{2, 4, 1}, false},
		{[]int{0, 4, 8, 2}, false},
	} {
		got, err := Order(c.r)
		told(t, "Order", err, api.OK)
		if got != c.want {
			t.Errorf("Order(%v): got %v", c.r, got)
		}
	}
}

// TestOrderClosure: on all relations of up to three things it is the Closure, but where Order says no.
func TestOrderClosure(t *testing.T) {
	for _, c := range wrong {
		all, err := OrderClosure(c.r)
		told(t, c.name, err, c.want)
		if all != nil {
			t.Errorf("%s: answered %v", c.name, all)
		}
	}
	for n := range 4 {
		for all := range 1 << (n * n) {
			r := make([]int, n)
			for i := range r {
				r[i] = all >> (i * n) & (1<<n - 1)
			}
			want, _ := Closure(r)
			code := api.OK
			if is, _ := Order(r); !is {
				want, code = nil, api.ErrClash
			}
			if got, err := OrderClosure(r); plain.Told(err) != code || !slices.Equal(got, want) {
				t.Errorf("OrderClosure(%v): got %v, %v, want %v, %v", r, got, err, want, code)
			}
		}
	}
}

func TestReduce(t *testing.T) {
	for _, c := range []struct {
		r, want []int
		told    api.Errno
	}{
		{nil, nil, api.OK},
		{[]int{1}, []int{0}, api.OK},
		{[]int{7, 6, 4}, []int{2, 4, 0}, api.OK},
		{[]int{6, 4, 0}, []int{2, 4, 0}, api.OK},
		{[]int{14, 8, 8, 0}, []int{6, 8, 8, 0}, api.OK},
		{[]int{10, 4, 8, 0}, []int{2, 4, 8, 0}, api.OK}, // over two others
		{[]int{2, 1}, nil, api.ErrClash},
		{[]int{2, 4, 1}, nil, api.ErrClash},
	} {
		got, err := Reduce(c.r)
		told(t, "Reduce", err, c.told)
		if !slices.Equal(got, c.want) {
			t.Errorf("Reduce(%v): got %v, want %v", c.r, got, c.want)
		}
	}
}

func TestWay(t *testing.T) {
	square := []int{6, 8, 8, 0}
	for _, c := range []struct {
		r    []int
		a, b int
		want []int
		told api.Errno
	}{
		{square, 0, 3, []int{0, 1, 3}, api.OK},
		{square, 3, 0, nil, api.ErrNone},
		{square, 1, 2, nil, api.ErrNone},
		{square, 2, 2, []int{2}, api.OK},
		{[]int{1}, 0, 0, []int{0}, api.OK},
		{[]int{2, 4, 1}, 2, 1, []int{2, 0, 1}, api.OK},
		{[]int{14, 16, 16, 32, 32, 0}, 0, 5, []int{0, 3, 5}, api.OK},       // shorter, though 1 is less than 3
		{[]int{6, 16, 8, 32, 32, 0}, 0, 5, []int{0, 1, 4, 5}, api.OK},      // the first place at which they differ
		{[]int{6, 32, 24, 64, 64, 0, 0}, 0, 6, []int{0, 2, 3, 6}, api.OK},  // 1 is less, and leads elsewhere
		{[]int{2, 4, 8, 16, 32, 0}, 0, 5, []int{0, 1, 2, 3, 4, 5}, api.OK}, // over all
		{[]int{2, 4, 1}, 2, 2, []int{2}, api.OK},                           // not round
		{square, -1, 0, nil, api.ErrRange},
		{square, 0, -1, nil, api.ErrRange},
		{square, 4, 0, nil, api.ErrRange},
		{square, 0, 4, nil, api.ErrRange},
		{square, 4, 4, nil, api.ErrRange},
		{square, math.MinInt, math.MaxInt, nil, api.ErrRange},
		{nil, 0, 0, nil, api.ErrRange},
		{[]int{2, 0, 0, 0, 0, 0, 0, 0, 0, 0, 0, 0}, 0, 12, nil, api.ErrRange},
		{[]int{2, 2048, 0, 0, 0, 0, 0, 0, 0, 0, 0, 0}, 0, 11, []int{0, 1, 11}, api.OK},
	} {
		got, err := Way(c.r, c.a, c.b)
		told(t, "Way", err, c.told)
		if !slices.Equal(got, c.want) {
			t.Errorf("Way(%v, %d, %d): got %v, want %v", c.r, c.a, c.b, got, c.want)
		}
	}
}

func TestThings(t *testing.T) {
	var got []int
	for i := range Things(1 | 8 | 2048) {
		got = append(got, i)
	}
	if !slices.Equal(got, []int{0, 3, 11}) {
		t.Errorf("got %v", got)
	}
	for i := range Things(6) {
		if i != 1 {
			t.Errorf("went on with %d behind a break", i)
		}
		break
	}
}

func TestTurned(t *testing.T) {
	for _, c := range []struct{ r, want []int }{
		{nil, nil},
		{[]int{1}, []int{1}},
		{[]int{6, 4, 0}, []int{0, 1, 3}},
		{[]int{2, 4, 1}, []int{4, 1, 2}},
	} {
		r := slices.Clone(c.r)
		if got := Turned(r); !slices.Equal(got, c.want) || !slices.Equal(r, c.r) {
			t.Errorf("Turned(%v): got %v, want %v; handed in is %v now", c.r, got, c.want, r)
		}
	}
}

func TestIsThing(t *testing.T) {
	for i, want := range map[int]bool{math.MinInt: false, -1: false, 0: true, 2: true, 3: false, math.MaxInt: false} {
		if IsThing([]int{0, 0, 0}, i) != want {
			t.Errorf("IsThing(%d): want %v", i, want)
		}
	}
}

func TestIsSet(t *testing.T) {
	for _, c := range []struct {
		set, things int
		want        bool
	}{
		{0, 0, true}, {1, 0, false}, {-1, 0, false},
		{0, 3, true}, {7, 3, true}, {8, 3, false}, {-1, 3, false},
		{1023, 10, true}, {1024, 10, false},
		{math.MinInt, 12, false}, {math.MaxInt, 12, false}, {1 << 32, 12, false},
	} {
		if got := IsSet(c.set, c.things); got != c.want {
			t.Errorf("IsSet(%d, %d): got %v", c.set, c.things, got)
		}
	}
}

func TestStep(t *testing.T) {
	for _, c := range []struct {
		r         []int
		set, want int
	}{
		{nil, 0, 0},
		{[]int{6, 8, 8, 0}, 0, 0},
		{[]int{6, 8, 8, 0}, 1, 6},
		{[]int{6, 8, 8, 0}, 6, 8}, // one step only, and not the set itself
		{[]int{6, 8, 8, 0}, 15, 14},
		{[]int{512, 1}, 3, 513}, // rows may be sets of other things
	} {
		if got := Step(c.r, c.set); got != c.want {
			t.Errorf("Step(%v, %b): got %b, want %b", c.r, c.set, got, c.want)
		}
	}
}

// TestNothingIsShared: what is handed in stays, what lies behind it too, and what comes out is fresh each time.
func TestNothingIsShared(t *testing.T) {
	memory := []int{6, 4, 0, -7, -8}
	r := memory[:3]
	calls := []func() []int{
		func() []int { l, _ := Closure(r); return l },
		func() []int { l, _ := OrderClosure(r); return l },
		func() []int { l, _ := Reduce(r); return l },
		func() []int { l, _ := Way(r, 0, 2); return l },
		func() []int { is, _ := Order(r); return []int{map[bool]int{true: 1}[is]} },
	}
	for k, call := range calls {
		first := call()
		want := slices.Clone(first)
		spoil := first[:cap(first)]
		for i := range spoil {
			spoil[i] = -9
		}
		if again := call(); !slices.Equal(again, want) {
			t.Errorf("call %d: first %v, then %v", k, want, again)
		}
		if !slices.Equal(memory, []int{6, 4, 0, -7, -8}) {
			t.Fatalf("call %d: what was handed in is %v now", k, memory)
		}
	}
}

// comes tells whether b is come to from a, over things that were not gone over yet.
func comes(r []int, a, b, gone int) bool {
	if a == b {
		return true
	}
	for k := range r {
		if r[a]>>k&1 == 1 && gone>>k&1 == 0 && comes(r, k, b, gone|1<<k) {
			return true
		}
	}
	return false
}

// firstWay goes over all ways without a thing twice, in order, and keeps the first of the shortest.
func firstWay(r []int, way []int, b int, best *[]int) {
	if *best != nil && len(way) >= len(*best) {
		return
	}
	at := way[len(way)-1]
	if at == b {
		*best = slices.Clone(way)
		return
	}
	for k := range r {
		if r[at]>>k&1 == 1 && !slices.Contains(way, k) {
			firstWay(r, append(slices.Clone(way), k), b, best)
		}
	}
}

// holdAgainst holds all calls on a relation against what the words of the promises say, tried out plainly.
func holdAgainst(t *testing.T, r []int) {
	t.Helper()
	n := len(r)
	c, order, steps := make([]int, n), true, make([]int, n)
	for a := range n {
		for b := range n {
			if comes(r, a, b, 1<<a) {
				c[a] |= 1 << b
			}
		}
	}
	leads := func(a, b int) bool { return a != b && c[a]>>b&1 == 1 }
	for a := range n {
		for b := range n {
			order = order && !(leads(a, b) && leads(b, a))
			over := false
			for k := range n {
				over = over || leads(a, k) && leads(k, b)
			}
			if leads(a, b) && !over {
				steps[a] |= 1 << b
			}
		}
	}
	want := api.OK
	if !order {
		steps, want = nil, api.ErrClash
	}
	if got, err := Closure(r); err != nil || !slices.Equal(got, c) {
		t.Fatalf("Closure(%v): got %v, %v, want %v", r, got, err, c)
	}
	if got, err := Order(r); err != nil || got != order {
		t.Fatalf("Order(%v): got %v, %v, want %v", r, got, err, order)
	}
	if got, err := Reduce(r); plain.Told(err) != want || !slices.Equal(got, steps) {
		t.Fatalf("Reduce(%v): got %v, %v, want %v, %v", r, got, err, steps, want)
	}
	for a := range n {
		for b := range n {
			holdWay(t, r, a, b)
		}
	}
}

func holdWay(t *testing.T, r []int, a, b int) {
	t.Helper()
	var best []int
	firstWay(r, []int{a}, b, &best)
	want := api.OK
	if best == nil {
		want = api.ErrNone
	}
	if got, err := Way(r, a, b); plain.Told(err) != want || !slices.Equal(got, best) {
		t.Fatalf("Way(%v, %d, %d): got %v, %v, want %v, %v", r, a, b, got, err, best, want)
	}
}

func TestAllSmall(t *testing.T) {
	for n := range 5 {
		for all := range 1 << (n * n) {
			r := make([]int, n)
			for i := range r {
				r[i] = all >> (i * n) & (1<<n - 1)
			}
			holdAgainst(t, r)
		}
	}
}

// TestSomeGreat: relations of up to 12 things, thin ones and orders among them, by a rule that is the same each time.
func TestSomeGreat(t *testing.T) {
	seed := uint32(1)
	next := func(below int) int {
		seed = seed*1664525 + 1013904223
		return int(seed>>8) % below
	}
	for round := range 600 {
		r := make([]int, 5+next(8))
		for i := range r {
			for range 1 + next(2) {
				r[i] |= 1 << next(len(r))
			}
			if round%2 == 0 {
				r[i] &= 1<<(i+1) - 1
			}
		}
		holdAgainst(t, r)
	}
}

// TestWayInto: the nearest of a set, the least one where several are as near, and also among more things than Check lets through.
func TestWayInto(t *testing.T) {
	long := make([]int, 20)
	for i := range 19 {
		long[i] = 1 << (i + 1)
	}
	long[0] |= 1 << 10
	for _, c := range []struct {
		name   string
		r      []int
		a, set int
		want   []int
	}{
		{"into nothing", []int{2, 1}, 0, 0, nil},
		{"it is in it", []int{2, 1}, 0, 3, []int{0}},
		{"nothing leads there", []int{0, 1}, 0, 2, nil},
		{"the least of two", []int{6, 0, 0}, 0, 6, []int{0, 1}},
		{"the nearer one", []int{2, 4, 8, 0}, 0, 12, []int{0, 1, 2}},
		{"the nearer one is the greater", []int{10, 4, 0, 0}, 0, 12, []int{0, 3}},
		{"many things", long, 0, 1<<13 | 1<<5, []int{0, 10, 11, 12, 13}},
		{"many things, the last", long, 16, 1 << 19, []int{16, 17, 18, 19}},
	} {
		if got := WayInto(c.r, c.a, c.set); !slices.Equal(got, c.want) {
			t.Errorf("%s: got %v, want %v", c.name, got, c.want)
		}
	}
}

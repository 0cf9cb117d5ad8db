package lattice

import (
	"math"
	"slices"
	"testing"

	"quietwing/api"
	"quietwing/plain"
)

func told(t *testing.T, what string, err error, want api.Errno) {
	t.Helper()
	if got := plain.Told(err); got != want {
		t.Errorf("%s: got %v, want %v", what, got, want)
	}
}

// Orders by their pictures.
var (
	diamond = []int{6, 8, 8, 0}
	chain   = []int{2, 4, 8, 0}
	falling = []int{0, 1, 2, 4}
	// three things side by side, with one below and one above them all
	three = []int{14, 16, 16, 16, 0}
	// 0 below 1 and 3, 1 below 2, both 2 and 3 below 4
	pentagon = []int{10, 4, 16, 16, 0}
	// all sets of three letters, each below those with one letter more
	cube = []int{22, 40, 72, 128, 96, 128, 128, 0}
	// two below, two above, all of these above all of those
	crossed = []int{12, 12, 0, 0}
	// the same, with one below and one above all
	closed = []int{6, 24, 24, 32, 32, 0}
	// 0 and 1 below 2
	roof = []int{4, 4, 0}
	// 0 below 1 and 2
	fork  = []int{6, 0, 0}
	apart = []int{0, 0}
	ring  = []int{2, 4, 1}
)

// wrong are relations that no call takes.
var wrong = []struct {
	name string
	r    []int
	want api.Errno
}{
	{"one row too many", make([]int, api.MaxThings+1), api.ErrFull},
	{"too many rows and a wrong one", append(make([]int, api.MaxThings), -1), api.ErrFull},
	{"a row below 0", []int{0, -1}, api.ErrRange},
	{"least number", []int{math.MinInt}, api.ErrRange},
	{"one thing too many", []int{0, 0, 8}, api.ErrRange},
	{"no order and a wrong row", []int{2, 1, 8}, api.ErrRange},
	{"two that lead to each other", []int{2, 1}, api.ErrClash},
	{"a ring", ring, api.ErrClash},
	{"a ring beside others", []int{0, 4, 8, 2}, api.ErrClash},
}

// TestWrong: a wrong relation is told ahead of things that are none, with no answer beside it.
func TestWrong(t *testing.T) {
	for _, c := range wrong {
		for _, pair := range [][2]int{{0, 0}, {0, 1}, {-1, 0}, {0, len(c.r)}, {math.MinInt, math.MaxInt}} {
			join, err := Join(c.r, pair[0], pair[1])
			told(t, "Join: "+c.name, err, c.want)
			meet, err := Meet(c.r, pair[0], pair[1])
			told(t, "Meet: "+c.name, err, c.want)
			if join != 0 || meet != 0 {
				t.Errorf("%s: answered %d %d", c.name, join, meet)
			}
		}
		is, err := Is(c.r)
		told(t, "Is: "+c.name, err, c.want)
		if is {
			t.Errorf("Is: %s: answered true", c.name)
		}
	}
}

// TestNoThing: of an order things that it has not are wrong, whichever of the two it is.
func TestNoThing(t *testing.T) {
	for _, r := range [][]int{nil, {}, {0}, apart, diamond} {
		for _, bad := range []int{math.MinInt, -1, len(r), len(r) + 1, 63, 64, math.MaxInt} {
			for _, pair := range [][2]int{{bad, 0}, {0, bad}, {bad, bad}} {
				join, err := Join(r, pair[0], pair[1])
				told(t, "Join", err, api.ErrRange)
				meet, err := Meet(r, pair[0], pair[1])
				told(t, "Meet", err, api.ErrRange)
				if join != 0 || meet != 0 {
					t.Errorf("%v, %v: answered %d %d", r, pair, join, meet)
				}
			}
		}
	}
}

func TestJoinAndMeet(t *testing.T) {
	const none = -1
	for _, c := range []struct {
		name             string
		r                []int
		a, b, join, meet int
	}{
		{"alone", []int{0}, 0, 0, 0, 0},
		{"alone, and leads to itself", []int{1}, 0, 0, 0, 0},
		{"with itself", diamond, 2, 2, 2, 2},
		{"side by side", diamond, 1, 2, 3, 0},
		{"below and above, over two steps", diamond, 0, 3, 3, 0},
		{"in a chain", chain, 1, 3, 3, 1},
		{"in a falling chain", falling, 1, 3, 1, 3},
		{"two of three", three, 1, 3, 4, 0},
		{"the long side and the short one", pentagon, 1, 3, 4, 0},
		{"up the long side", pentagon, 1, 2, 2, 1},
		{"letters a, b", cube, 1, 2, 3, 0},
		{"letters ab, bc", cube, 3, 6, 7, 2},
		{"letters a, bc", cube, 1, 6, 7, 0},
		{"no least one above", crossed, 0, 1, none, none},
		{"no greatest one below", crossed, 2, 3, none, none},
		{"crossed, but comparable", crossed, 0, 3, 3, 0},
		{"two least ones above, and one above all", closed, 1, 2, none, 0},
		{"two greatest ones below, and one below all", closed, 3, 4, 5, none},
		{"only a join", roof, 0, 1, 2, none},
		{"only a meet", fork, 1, 2, none, 0},
		{"neither", apart, 0, 1, none, none},
	} {
		for _, pair := range [][2]int{{c.a, c.b}, {c.b, c.a}} {
			join, err := Join(c.r, pair[0], pair[1])
			hold(t, "Join: "+c.name, join, err, c.join)
			meet, err := Meet(c.r, pair[0], pair[1])
			hold(t, "Meet: "+c.name, meet, err, c.meet)
		}
	}
}

// hold holds an answer against the bound that is wanted, or against none if that is below 0.
func hold(t *testing.T, what string, got int, err error, want int) {
	t.Helper()
	if want < 0 {
		told(t, what, err, api.ErrNone)
		want = 0
	} else {
		told(t, what, err, api.OK)
	}
	if got != want {
		t.Errorf("%s: got %d, want %d", what, got, want)
	}
}

func TestIs(t *testing.T) {
	long := make([]int, api.MaxThings)
	for i := range long {
		long[i] = (1<<api.MaxThings - 1) &^ (1<<i - 1)
	}
	wide := make([]int, api.MaxThings)
	wide[0] = 1<<api.MaxThings - 2
	for i := 1; i < api.MaxThings-1; i++ {
		wide[i] = 1 << (api.MaxThings - 1)
	}
	for _, c := range []struct {
		name string
		r    []int
		want bool
	}{
		{"no thing, nil", nil, false},
		{"no thing", []int{}, false},
		{"one thing", []int{0}, true},
		{"one that leads to itself", []int{1}, true},
		{"diamond", diamond, true},
		{"chain", chain, true},
		{"falling", falling, true},
		{"three", three, true},
		{"pentagon", pentagon, true},
		{"cube", cube, true},
		{"12 in a chain", long, true},
		{"10 side by side", wide, true},
		{"crossed", crossed, false},
		{"closed", closed, false},
		{"joins alone", roof, false},
		{"meets alone", fork, false},
		{"apart", apart, false},
		{"12 apart", make([]int, api.MaxThings), false},
	} {
		is, err := Is(c.r)
		if is != c.want || err != nil {
			t.Errorf("%s: got %v, %v, want %v", c.name, is, err, c.want)
		}
	}
}

// TestNothingIsWritten: what is handed in stays, and what lies behind it too.
func TestNothingIsWritten(t *testing.T) {
	memory := []int{6, 8, 8, 0, -7, -8}
	want := slices.Clone(memory)
	for range 2 {
		join, err := Join(memory[:4], 1, 2)
		hold(t, "Join", join, err, 3)
		meet, err := Meet(memory[:4], 1, 2)
		hold(t, "Meet", meet, err, 0)
		if is, err := Is(memory[:4]); !is || err != nil {
			t.Errorf("Is: got %v, %v", is, err)
		}
		if !slices.Equal(memory, want) {
			t.Fatalf("what was handed in is %v now", memory)
		}
	}
}

package take

import (
	"math"
	"slices"
	"testing"

	"quietwing/api"
	"quietwing/plain"
)

func told(t *testing.T, what string, err error, want api.Errno) {
	t.Helper()
	if got := plain.Told(err); got != want {
		t.Errorf("%s: got %v, want %v", what, got, want)
	}
}

// held are the rights of a vertex over another one.
type held struct{ who, over, rights int }

// graph of so many vertices, of which some have rights.
func graph(verts int, some ...held) [][]int {
	g := make([][]int, verts)
	for i := range g {
		g[i] = make([]int, verts)
	}
	for _, h := range some {
		g[h.who][h.over] = h.rights
	}
	return g
}

// cut makes a row of a graph shorter or longer.
func cut(g [][]int, row, size int) [][]int {
	g[row] = slices.Concat(g[row], make([]int, 30))[:size]
	return g
}

func same(a, b [][]int) bool {
	return slices.EqualFunc(a, b, func(x, y []int) bool { return slices.Equal(x, y) })
}

func takes(who, from, over, rights int) api.Step {
	return api.Step{Kind: api.ByTake, Who: who, Of: from, To: over, Rights: rights}
}

func grants(who, to, over, rights int) api.Step {
	return api.Step{Kind: api.ByGrant, Who: who, Of: to, To: over, Rights: rights}
}

func makes(who int) api.Step { return api.Step{Kind: api.ByNew, Who: who} }

// chained has each vertex of a chain linked with the next one, and the last one of the chain with a right over the last of all.
func chained(verts, chain, link, back, right int) [][]int {
	g := graph(verts)
	for i := range chain - 1 {
		g[i][i+1], g[i+1][i] = link, back
	}
	g[chain-1][verts-1] = right
	return g
}

func TestCheckWrong(t *testing.T) {
	for _, c := range []struct {
		name string
		g    [][]int
		want api.Errno
	}{
		{"a row too many", graph(21), api.ErrFull},
		{"far too many rows", make([][]int, 1000), api.ErrFull},
		{"a row too many, and the first empty", cut(graph(21), 0, 0), api.ErrFull},
		{"a row too many, and a number above", graph(21, held{0, 1, 8}), api.ErrFull},
		{"first row too short", cut(graph(3), 0, 2), api.ErrShape},
		{"first row too long", cut(graph(3), 0, 4), api.ErrShape},
		{"last row too short", cut(graph(3), 2, 2), api.ErrShape},
		{"last row too long", cut(graph(3), 2, 4), api.ErrShape},
		{"last row empty", cut(graph(20), 19, 0), api.ErrShape},
		{"a row, and nothing in it", [][]int{nil}, api.ErrShape},
		{"a row too short, with a number above", cut(graph(3, held{0, 0, 8}), 0, 2), api.ErrShape},
		{"a row too short, and over itself", cut(graph(3, held{0, 0, 1}), 0, 2), api.ErrShape},
		{"a number above, then a row too short", cut(graph(3, held{1, 2, 8}), 2, 2), api.ErrRange},
		{"over itself, then a row too short", cut(graph(3, held{1, 1, 1}), 2, 2), api.ErrClash},
		{"a row too short, then a number above", cut(graph(3, held{2, 0, 8}), 1, 2), api.ErrShape},
		{"a number above", graph(3, held{0, 1, 8}), api.ErrRange},
		{"a number below", graph(3, held{0, 1, -1}), api.ErrRange},
		{"the last number above", graph(20, held{19, 18, 8}), api.ErrRange},
		{"the greatest number", graph(2, held{1, 0, math.MaxInt}), api.ErrRange},
		{"the least number", graph(2, held{1, 0, math.MinInt}), api.ErrRange},
		{"only the low bits are right", graph(2, held{1, 0, 1 << 32}), api.ErrRange},
		{"over itself, and above", graph(2, held{0, 0, 8}), api.ErrRange},
		{"over itself, and below", graph(1, held{0, 0, -1}), api.ErrRange},
		{"Take over itself", graph(1, held{0, 0, 1}), api.ErrClash},
		{"Grant over itself", graph(2, held{1, 1, 2}), api.ErrClash},
		{"Use over itself", graph(3, held{1, 1, 4}), api.ErrClash},
		{"all over itself", graph(20, held{19, 19, 7}), api.ErrClash},
		{"over itself, then above in the row", graph(3, held{1, 1, 4}, held{1, 2, 8}), api.ErrClash},
		{"above, then over itself in the row", graph(3, held{1, 0, 8}, held{1, 1, 4}), api.ErrRange},
		{"over itself, then above in another row", graph(3, held{0, 0, 4}, held{1, 0, 8}), api.ErrClash},
		{"above, then over itself in another row", graph(3, held{0, 2, 8}, held{1, 1, 4}), api.ErrRange},
	} {
		told(t, c.name, Check(c.g), c.want)
		// a graph's fault is told ahead of all others
		h, at, err := Play(c.g, slices.Repeat([]api.Step{{Kind: 9}}, 61))
		told(t, c.name+": Play", err, c.want)
		is, err := Can(c.g, 0, 0, 0)
		told(t, c.name+": Can", err, c.want)
		steps, err := Plan(c.g, 0, 0, 0)
		told(t, c.name+": Plan", err, c.want)
		if h != nil || at != 0 || is || steps != nil {
			t.Errorf("%s: beside the error %v, %d, %v, %v", c.name, h, at, is, steps)
		}
	}
}

// TestCheckRight: graphs of all sizes, with all rights that may be.
func TestCheckRight(t *testing.T) {
	told(t, "nil", Check(nil), api.OK)
	told(t, "none", Check([][]int{}), api.OK)
	for verts := range 21 {
		g := graph(verts)
		told(t, "no rights", Check(g), api.OK)
		for i := range verts {
			for k := range verts {
				if i != k {
					g[i][k] = (i + k) % 8
				}
			}
		}
		told(t, "all rights", Check(g), api.OK)
	}
}

func TestStepWrong(t *testing.T) {
	// 0 has Take over 1 and Grant over 2; 1 has Grant and Use over 3; 0 has Use over 3 and 4
	g := graph(5, held{0, 1, 1}, held{0, 2, 2}, held{1, 3, 6}, held{0, 3, 4}, held{0, 4, 4}, held{1, 0, 4}, held{3, 4, 7})
	for _, c := range []struct {
		name string
		step api.Step
		want api.Errno
	}{
		{"kind above", api.Step{Kind: 3, Who: 0, Of: 1, To: 3, Rights: 2}, api.ErrRange},
		{"kind below", api.Step{Kind: -1, Who: 0, Of: 1, To: 3, Rights: 2}, api.ErrRange},
		{"the greatest kind", api.Step{Kind: math.MaxInt, Who: 0, Of: 1, To: 3, Rights: 2}, api.ErrRange},
		{"only the kind's low bits are right", api.Step{Kind: 1 << 32, Who: 0, Of: 1, To: 3, Rights: 2}, api.ErrRange},
		{"take: no Who", takes(5, 1, 3, 2), api.ErrRange},
		{"take: Who below", takes(-1, 1, 3, 2), api.ErrRange},
		{"take: no Of", takes(0, 5, 3, 2), api.ErrRange},
		{"take: Of below", takes(0, -1, 3, 2), api.ErrRange},
		{"take: no To", takes(0, 1, 5, 2), api.ErrRange},
		{"take: To below", takes(0, 1, -1, 2), api.ErrRange},
		{"take: no rights", takes(0, 1, 3, 0), api.ErrRange},
		{"take: rights above", takes(0, 1, 3, 8), api.ErrRange},
		{"take: rights below", takes(0, 1, 3, -1), api.ErrRange},
		{"take: the least Who", takes(math.MinInt, 1, 3, 2), api.ErrRange},
		{"take: the greatest Of", takes(0, math.MaxInt, 3, 2), api.ErrRange},
		{"take: the greatest To", takes(0, 1, math.MaxInt, 2), api.ErrRange},
		{"take: the least rights", takes(0, 1, 3, math.MinInt), api.ErrRange},
		{"take: would be denied, and rights above", takes(2, 1, 3, 8), api.ErrRange},
		{"take: To gets, and no rights", takes(0, 1, 0, 0), api.ErrRange},
		{"grant: no Who", grants(5, 2, 3, 4), api.ErrRange},
		{"grant: Who below", grants(-1, 2, 3, 4), api.ErrRange},
		{"grant: no Of", grants(0, 5, 3, 4), api.ErrRange},
		{"grant: Of below", grants(0, -1, 3, 4), api.ErrRange},
		{"grant: no To", grants(0, 2, 5, 4), api.ErrRange},
		{"grant: To below", grants(0, 2, -1, 4), api.ErrRange},
		{"grant: no rights", grants(0, 2, 3, 0), api.ErrRange},
		{"grant: rights above", grants(0, 2, 3, 8), api.ErrRange},
		{"grant: rights below", grants(0, 2, 3, -4), api.ErrRange},
		{"grant: To gets, and rights above", grants(0, 2, 2, 8), api.ErrRange},
		{"new: no Who", makes(5), api.ErrRange},
		{"new: Who below", makes(-1), api.ErrRange},
		{"new: the least Who", makes(math.MinInt), api.ErrRange},

		{"take: over itself", takes(0, 1, 0, 4), api.ErrDenied},
		{"take: Of has some of it only", takes(0, 1, 3, 7), api.ErrDenied},
		{"take: Of has other ones only", takes(0, 1, 3, 1), api.ErrDenied},
		{"take: Of has nothing", takes(0, 1, 4, 4), api.ErrDenied},
		{"take: over Of", takes(0, 1, 1, 1), api.ErrDenied},
		{"take: from itself", takes(0, 0, 3, 4), api.ErrDenied},
		{"take: by Grant", takes(1, 3, 4, 4), api.ErrDenied},
		{"take: by Use", takes(0, 3, 4, 7), api.ErrDenied},
		{"take: by nothing", takes(2, 1, 3, 4), api.ErrDenied},
		{"grant: To gets it", grants(0, 2, 2, 2), api.ErrDenied},
		{"grant: by Take", grants(0, 1, 3, 4), api.ErrDenied},
		{"grant: by Use", grants(0, 3, 4, 4), api.ErrDenied},
		{"grant: by nothing", grants(1, 2, 3, 4), api.ErrDenied},
		{"grant: to itself", grants(0, 0, 3, 4), api.ErrDenied},
		{"grant: over itself", grants(0, 2, 0, 4), api.ErrDenied},
		{"grant: has some of it only", grants(0, 2, 3, 6), api.ErrDenied},
		{"grant: has other ones only", grants(0, 2, 3, 2), api.ErrDenied},
		{"grant: has nothing, and Of has nothing, too", grants(1, 3, 2, 1), api.ErrDenied},
	} {
		// brings what is had, so that it changes nothing
		right := takes(0, 1, 3, 4)
		for place := range 4 {
			h, at, err := Play(g, append(slices.Repeat([]api.Step{right}, place), c.step, right))
			told(t, c.name, err, c.want)
			if h != nil || at != place {
				t.Errorf("%s: beside the error %v, %d, want %d", c.name, h, at, place)
			}
		}
		// the first fault counts, not the one that is named first
		_, at, err := Play(g, []api.Step{right, takes(2, 1, 3, 4), c.step})
		told(t, c.name+", behind a denied one", err, api.ErrDenied)
		if at != 1 {
			t.Errorf("%s: at %d, want 1", c.name, at)
		}
	}
}

func TestStepRight(t *testing.T) {
	for _, c := range []struct {
		name  string
		g     [][]int
		steps []api.Step
		want  [][]int
	}{
		{"nothing at all", nil, nil, nil},
		{"no steps", graph(2, held{0, 1, 5}), nil, graph(2, held{0, 1, 5})},
		{"take one right of many", graph(3, held{0, 1, 1}, held{1, 2, 7}), []api.Step{takes(0, 1, 2, 2)}, graph(3, held{0, 1, 1}, held{1, 2, 7}, held{0, 2, 2})},
		{"take all", graph(3, held{0, 1, 7}, held{1, 2, 7}), []api.Step{takes(0, 1, 2, 7)}, graph(3, held{0, 1, 7}, held{1, 2, 7}, held{0, 2, 7})},
		{"take what is had", graph(3, held{0, 1, 3}, held{1, 2, 4}, held{0, 2, 4}), []api.Step{takes(0, 1, 2, 4)}, graph(3, held{0, 1, 3}, held{1, 2, 4}, held{0, 2, 4})},
		{"take beside what is had", graph(3, held{0, 1, 5}, held{1, 2, 6}, held{0, 2, 3}), []api.Step{takes(0, 1, 2, 6)}, graph(3, held{0, 1, 5}, held{1, 2, 6}, held{0, 2, 7})},
		{"grant one right of many", graph(3, held{0, 1, 2}, held{0, 2, 7}), []api.Step{grants(0, 1, 2, 1)}, graph(3, held{0, 1, 2}, held{0, 2, 7}, held{1, 2, 1})},
		{"grant all", graph(3, held{0, 1, 7}, held{0, 2, 7}), []api.Step{grants(0, 1, 2, 7)}, graph(3, held{0, 1, 7}, held{0, 2, 7}, held{1, 2, 7})},
		{"grant beside what is had", graph(3, held{0, 1, 6}, held{0, 2, 6}, held{1, 2, 3}), []api.Step{grants(0, 1, 2, 6)}, graph(3, held{0, 1, 6}, held{0, 2, 6}, held{1, 2, 7})},
		{"what is taken serves the next step", graph(4, held{0, 1, 1}, held{1, 2, 1}, held{2, 3, 4}), []api.Step{takes(0, 1, 2, 1), takes(0, 2, 3, 4)}, graph(4, held{0, 1, 1}, held{1, 2, 1}, held{2, 3, 4}, held{0, 2, 1}, held{0, 3, 4})},
		{"a new one", graph(2, held{1, 0, 4}), []api.Step{makes(1)}, graph(3, held{1, 0, 4}, held{1, 2, 3})},
		{"a new one makes one", graph(1), []api.Step{makes(0), makes(1), takes(0, 1, 2, 3)}, graph(3, held{0, 1, 3}, held{1, 2, 3}, held{0, 2, 3})},
		{"granted to a new one", graph(2, held{0, 1, 7}), []api.Step{makes(0), grants(0, 2, 1, 7)}, graph(3, held{0, 1, 7}, held{0, 2, 3}, held{2, 1, 7})},
		{"other fields of a new one do not count", graph(1), []api.Step{{Kind: api.ByNew, Who: 0, Of: -1, To: math.MaxInt, Rights: math.MinInt}}, graph(2, held{0, 1, 3})},
	} {
		got, at, err := Play(c.g, c.steps)
		told(t, c.name, err, api.OK)
		if !same(got, c.want) || at != 0 {
			t.Errorf("%s: got %v, %d, want %v", c.name, got, at, c.want)
		}
	}
}

// TestPlayFull: the most of vertices and steps, and one more.
func TestPlayFull(t *testing.T) {
	for verts := 1; verts <= 20; verts++ {
		more := slices.Repeat([]api.Step{makes(verts - 1)}, 20-verts)
		h, at, err := Play(graph(verts), more)
		told(t, "up to the most of vertices", err, api.OK)
		if len(h) != 20 || at != 0 || Check(h) != nil {
			t.Errorf("from %d vertices on: %v, %d", verts, h, at)
		}
		h, at, err = Play(graph(verts), append(more, makes(0), makes(20)))
		told(t, "a vertex too many", err, api.ErrFull)
		if h != nil || at != 20-verts {
			t.Errorf("from %d vertices on: beside the error %v, %d", verts, h, at)
		}
		_, _, err = Play(graph(verts), append(more, makes(20)))
		told(t, "a vertex too many, by nobody", err, api.ErrRange)
	}
	g := graph(3, held{0, 1, 1}, held{1, 2, 4})
	right := []api.Step{takes(0, 1, 2, 4)}
	_, at, err := Play(g, slices.Repeat(right, 60))
	told(t, "the most of steps", err, api.OK)
	if at != 0 {
		t.Errorf("the most of steps: at %d", at)
	}
	for _, steps := range [][]api.Step{slices.Repeat(right, 61), slices.Repeat([]api.Step{{Kind: 7}}, 61), slices.Repeat(right, 1000)} {
		h, at, err := Play(g, steps)
		told(t, "too many steps", err, api.ErrFull)
		if h != nil || at != 0 {
			t.Errorf("too many steps: beside the error %v, %d", h, at)
		}
	}
	_, at, err = Play(g, append(slices.Repeat(right, 59), takes(0, 1, 2, 2)))
	told(t, "the last step denied", err, api.ErrDenied)
	if at != 59 {
		t.Errorf("the last step denied: at %d", at)
	}
}

func TestAskWrong(t *testing.T) {
	g := graph(3, held{0, 1, 7}, held{1, 2, 7})
	for _, c := range []struct {
		name             string
		right, who, over int
		want             api.Errno
	}{
		{"no Who", 1, 3, 2, api.ErrRange},
		{"Who below", 1, -1, 2, api.ErrRange},
		{"the greatest Who", 1, math.MaxInt, 2, api.ErrRange},
		{"no over", 1, 0, 3, api.ErrRange},
		{"over below", 1, 0, -1, api.ErrRange},
		{"the least over", 1, 0, math.MinInt, api.ErrRange},
		{"both are none, and the same", 1, 3, 3, api.ErrRange},
		{"no right", 0, 0, 2, api.ErrRange},
		{"two rights", 3, 0, 2, api.ErrRange},
		{"two other rights", 5, 0, 2, api.ErrRange},
		{"the last two rights", 6, 0, 2, api.ErrRange},
		{"all rights", 7, 0, 2, api.ErrRange},
		{"right above", 8, 0, 2, api.ErrRange},
		{"right below", -1, 0, 2, api.ErrRange},
		{"the least right", math.MinInt, 0, 2, api.ErrRange},
		{"only the right's low bits are right", 1<<32 + 1, 0, 2, api.ErrRange},
		{"no right over itself", 0, 1, 1, api.ErrRange},
		{"Take over itself", 1, 0, 0, api.ErrShape},
		{"Grant over itself", 2, 1, 1, api.ErrShape},
		{"Use over itself", 4, 2, 2, api.ErrShape},
	} {
		is, err := Can(g, c.right, c.who, c.over)
		told(t, c.name+": Can", err, c.want)
		steps, err := Plan(g, c.right, c.who, c.over)
		told(t, c.name+": Plan", err, c.want)
		if is || steps != nil {
			t.Errorf("%s: beside the error %v, %v", c.name, is, steps)
		}
	}
	_, err := Can(nil, 1, 0, 1)
	told(t, "no vertices: Can", err, api.ErrRange)
	_, err = Plan(nil, 1, 0, 1)
	told(t, "no vertices: Plan", err, api.ErrRange)
}

// TestNoChain: who is not linked comes to nothing, and Use is no link.
func TestNoChain(t *testing.T) {
	for _, g := range [][][]int{
		graph(3),
		graph(3, held{1, 2, 7}),
		graph(3, held{0, 1, 4}, held{1, 0, 4}, held{1, 2, 7}),
		graph(3, held{0, 1, 7}),
		graph(3, held{0, 1, 7}, held{2, 1, 4}, held{2, 0, 4}),
	} {
		for _, right := range []int{api.Take, api.Grant, api.Use} {
			is, err := Can(g, right, 0, 2)
			told(t, "Can", err, api.OK)
			steps, err := Plan(g, right, 0, 2)
			told(t, "Plan", err, api.ErrNone)
			if is || steps != nil {
				t.Errorf("%v, right %d: got %v, %v", g, right, is, steps)
			}
		}
	}
	is, err := Can(graph(3, held{0, 1, 1}, held{1, 2, 3}), api.Use, 0, 2)
	told(t, "another right", err, api.OK)
	if is {
		t.Error("another right: got it")
	}
}

func TestPlan(t *testing.T) {
	for _, c := range []struct {
		name             string
		g                [][]int
		right, who, over int
		want             []api.Step
	}{
		{"it has it", graph(2, held{0, 1, 6}), api.Use, 0, 1, nil},
		{"it has it, and is linked", graph(3, held{0, 1, 1}, held{1, 2, 4}, held{0, 2, 4}), api.Use, 0, 2, nil},
		{"taken", graph(3, held{0, 1, 1}, held{1, 2, 4}), api.Use, 0, 2, []api.Step{takes(0, 1, 2, 4)}},
		{"granted", graph(3, held{1, 0, 2}, held{1, 2, 4}), api.Use, 0, 2, []api.Step{grants(1, 0, 2, 4)}},
		{"taken rather than granted", graph(3, held{0, 1, 3}, held{1, 0, 3}, held{1, 2, 4}), api.Use, 0, 2, []api.Step{takes(0, 1, 2, 4)}},
		{"granted rather than by a new one", graph(3, held{0, 1, 2}, held{1, 0, 3}, held{1, 2, 7}), api.Grant, 0, 2, []api.Step{grants(1, 0, 2, 2)}},
		{"it is granted Grant over a new one", graph(3, held{0, 1, 2}, held{1, 2, 1}), api.Take, 0, 2, []api.Step{makes(0), grants(0, 1, 3, 2), grants(1, 3, 2, 1), takes(0, 3, 2, 1)}},
		{"it takes Grant over a new one", graph(3, held{1, 0, 1}, held{1, 2, 4}), api.Use, 0, 2, []api.Step{makes(0), takes(1, 0, 3, 2), grants(1, 3, 2, 4), takes(0, 3, 2, 4)}},
		{"it takes rather than is granted it", graph(3, held{1, 0, 5}, held{0, 1, 6}, held{1, 2, 4}), api.Use, 0, 2, []api.Step{makes(0), takes(1, 0, 3, 2), grants(1, 3, 2, 4), takes(0, 3, 2, 4)}},
		{"two new ones", graph(4, held{2, 0, 1}, held{2, 3, 2}, held{3, 1, 4}), api.Use, 0, 1, []api.Step{
			makes(2), grants(2, 3, 4, 2), grants(3, 4, 1, 4), takes(2, 4, 1, 4),
			makes(0), takes(2, 0, 5, 2), grants(2, 5, 1, 4), takes(0, 5, 1, 4),
		}},
		{"from the end on", graph(4, held{0, 1, 1}, held{1, 2, 1}, held{2, 3, 4}), api.Use, 0, 3, []api.Step{takes(1, 2, 3, 4), takes(0, 1, 3, 4)}},
		{"the least of two", graph(4, held{0, 1, 1}, held{2, 0, 2}, held{1, 3, 4}, held{2, 3, 4}), api.Use, 0, 3, []api.Step{takes(0, 1, 3, 4)}},
		{"the shorter one, of greater vertices", graph(5, held{0, 1, 1}, held{1, 2, 1}, held{2, 4, 4}, held{0, 3, 1}, held{3, 4, 4}), api.Use, 0, 4, []api.Step{takes(0, 3, 4, 4)}},
		{"least at the first place, not at the last one", graph(6, held{0, 1, 1}, held{0, 2, 1}, held{1, 4, 1}, held{2, 3, 1}, held{3, 5, 4}, held{4, 5, 4}), api.Use, 0, 5, []api.Step{takes(1, 4, 5, 4), takes(0, 1, 5, 4)}},
		{"the right that is asked for counts", graph(4, held{0, 1, 1}, held{0, 2, 1}, held{1, 3, 5}, held{2, 3, 2}), api.Grant, 0, 3, []api.Step{takes(0, 2, 3, 2)}},

		{"round the goal: all is taken", graph(3, held{0, 1, 1}, held{2, 1, 5}), api.Use, 0, 1, []api.Step{makes(1), takes(0, 1, 3, 3), takes(2, 1, 3, 3), grants(2, 3, 1, 4), takes(0, 3, 1, 4)}},
		{"round the goal: all is granted", graph(3, held{1, 0, 2}, held{1, 2, 2}, held{2, 1, 4}), api.Use, 0, 1, []api.Step{makes(1), grants(1, 0, 3, 3), grants(1, 2, 3, 3), grants(2, 3, 1, 4), takes(0, 3, 1, 4)}},
		{"round the goal: by three new ones", graph(3, held{0, 1, 2}, held{1, 2, 1}, held{2, 1, 4}), api.Use, 0, 1, []api.Step{
			makes(1),
			makes(0), grants(0, 1, 4, 2), grants(1, 4, 3, 3), takes(0, 4, 3, 3),
			makes(2), takes(1, 2, 5, 2), grants(1, 5, 3, 3), takes(2, 5, 3, 3),
			grants(2, 3, 1, 4), takes(0, 3, 1, 4),
		}},
		{"round the goal: Grant is had behind it, and Take ahead", graph(3, held{1, 0, 1}, held{2, 1, 2}), api.Grant, 0, 1, []api.Step{
			makes(1),
			makes(0), takes(1, 0, 4, 2), grants(1, 4, 3, 3), takes(0, 4, 3, 3),
			makes(2), grants(2, 1, 5, 2), grants(1, 5, 3, 3), takes(2, 5, 3, 3),
			grants(2, 3, 1, 2), takes(0, 3, 1, 2),
		}},
		{"round the goal: Take comes to who has Grant", graph(3, held{0, 1, 2}, held{2, 1, 1}), api.Take, 0, 1, []api.Step{
			makes(1), makes(0), grants(0, 1, 4, 2), grants(1, 4, 3, 3), takes(0, 4, 3, 3),
			takes(2, 1, 3, 3), grants(2, 3, 1, 1), takes(0, 3, 1, 1),
		}},
		{"round the goal within a chain", graph(5, held{0, 1, 1}, held{1, 2, 1}, held{2, 3, 2}, held{3, 4, 1}, held{4, 2, 4}), api.Use, 0, 2, []api.Step{
			takes(3, 4, 2, 4),
			makes(2), takes(1, 2, 5, 3), grants(2, 3, 5, 3), grants(3, 5, 2, 4), takes(1, 5, 2, 4),
			takes(0, 1, 2, 4),
		}},
	} {
		holdPlan(t, c.name, c.g, c.right, c.who, c.over, c.want)
	}
}

// holdPlan: the plan is as it should be, and brings the right.
func holdPlan(t *testing.T, name string, g [][]int, right, who, over int, want []api.Step) {
	t.Helper()
	is, err := Can(g, right, who, over)
	told(t, name+": Can", err, api.OK)
	got, err := Plan(g, right, who, over)
	told(t, name+": Plan", err, api.OK)
	if !is || !slices.Equal(got, want) {
		t.Errorf("%s: got %v, %v, want %v", name, is, got, want)
		return
	}
	h, _, err := Play(g, got)
	told(t, name+": Play", err, api.OK)
	if err == nil && h[who][over]&right == 0 {
		t.Errorf("%s: the steps do not bring it: %v", name, h)
	}
}

// TestPlanFull: the most of vertices, and one more; Can does not ask for them.
func TestPlanFull(t *testing.T) {
	for _, c := range []struct {
		name  string
		g     [][]int
		steps int
		want  api.Errno
	}{
		{"no new ones needed", chained(20, 19, api.Take, 0, api.Use), 18, api.OK},
		{"one is needed, and there is no room", chained(20, 2, api.Grant, 0, api.Use), 0, api.ErrFull},
		{"one is needed, and there is room", chained(19, 2, api.Grant, 0, api.Use), 4, api.OK},
		{"nine are needed, and there is room", chained(11, 10, 0, api.Take, api.Use), 36, api.OK},
		{"nine are needed, and there is room for eight", chained(12, 10, 0, api.Take, api.Use), 0, api.ErrFull},
		{"many are needed, and there is no room", chained(20, 19, api.Grant, 0, api.Use), 0, api.ErrFull},
		{"many would be needed, and there is no chain", chained(20, 19, api.Grant, 0, api.Take), 0, api.ErrNone},
	} {
		over := len(c.g) - 1
		steps, err := Plan(c.g, api.Use, 0, over)
		told(t, c.name, err, c.want)
		if len(steps) != c.steps {
			t.Errorf("%s: %d steps, want %d", c.name, len(steps), c.steps)
		}
		is, err := Can(c.g, api.Use, 0, over)
		told(t, c.name+": Can", err, api.OK)
		if is != (c.want != api.ErrNone) {
			t.Errorf("%s: Can is %v", c.name, is)
		}
	}
	// round the goal one more is needed
	for _, c := range []struct {
		verts, link int
		want        api.Errno
	}{{19, api.Take, api.OK}, {20, api.Take, api.ErrFull}, {17, api.Grant, api.OK}, {18, api.Grant, api.ErrFull}} {
		g := graph(c.verts, held{0, 1, c.link}, held{2, 1, c.link | api.Use})
		steps, err := Plan(g, api.Use, 0, 1)
		told(t, "round the goal", err, c.want)
		if (steps == nil) != (c.want != api.OK) {
			t.Errorf("round the goal: beside %v %v", err, steps)
		}
	}
}

// TestNothingIsKept: what is handed in is not written, and what comes out is the caller's.
func TestNothingIsKept(t *testing.T) {
	memory := []int{0, 1, 0, -9, 0, 0, 4, -9, 0, 0, 0, -9}
	want := slices.Clone(memory)
	rows := [][]int{memory[0:3], memory[4:7], memory[8:11], nil}
	g := rows[:3]
	steps := []api.Step{makes(0), takes(0, 1, 2, 4), makes(3), {Kind: 9}}
	wantSteps := slices.Clone(steps)
	h, _, err := Play(g, steps[:3])
	told(t, "Play", err, api.OK)
	_, _, err = Play(g, steps)
	told(t, "Play", err, api.ErrRange)
	other, _, _ := Play(g, steps[:3])
	plan, _ := Plan(g, api.Use, 0, 2)
	again, _ := Plan(g, api.Use, 0, 2)
	if !slices.Equal(memory, want) || !slices.Equal(steps, wantSteps) || rows[3] != nil {
		t.Fatalf("what was handed in is %v, %v, %v now", memory, steps, rows)
	}
	for i := range h {
		// rows that share memory write into each other, also behind their length
		row := h[i][:cap(h[i])]
		for k := range row {
			row[k] = 10 + i
		}
	}
	for i, row := range h {
		if slices.Min(row) != 10+i || slices.Max(row) != 10+i {
			t.Errorf("rows share memory: %v", h)
		}
	}
	plan[0].Who = 9
	if !slices.Equal(memory, want) || Check(other) != nil || again[0].Who != 0 {
		t.Errorf("what came out is shared: %v, %v, %v", memory, other, again)
	}
	h, _, _ = Play(g, nil)
	h[0][1] = 7
	if g[0][1] != 1 {
		t.Error("without steps what comes out is what was handed in")
	}
}

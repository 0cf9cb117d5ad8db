package run

import (
	"slices"
	"testing"

	"quietwing/api"
	"quietwing/plain"
)

// trial does a program step by step, by the words of 11.1 and 11.2: what is still to be done stands in a list, and for each step the values of all nodes are found anew, from the first on.
func trial(a asked) ([]int, int, api.Errno) {
	vars, burnt := slices.Clone(a.vars), 0
	todo := []int{len(a.p) - 1}
	for len(todo) > 0 {
		i := todo[0]
		x := a.p[i]
		todo = todo[1:]
		if x.Kind == api.Set || x.Kind == api.If || x.Kind == api.While {
			if burnt == a.fuel {
				return nil, 0, api.ErrFull
			}
			burnt++
		}
		is := values(a.p, vars)
		switch {
		case x.Kind == api.Set:
			vars[x.N] = is[x.A]
		case x.Kind == api.Both:
			todo = slices.Concat([]int{x.A, x.B}, todo)
		case x.Kind == api.If && is[x.A] == 0:
			todo = slices.Concat([]int{x.C}, todo)
		case x.Kind == api.If:
			todo = slices.Concat([]int{x.B}, todo)
		case x.Kind == api.While && is[x.A] != 0:
			todo = slices.Concat([]int{x.B, i}, todo)
		}
	}
	return vars, burnt, api.OK
}

// values of all nodes; of a deed it is 0.
func values(p []api.Node, vars []int) []int {
	is := make([]int, len(p))
	for i, x := range p {
		switch x.Kind {
		case api.Num:
			is[i] = x.N
		case api.Var:
			is[i] = vars[x.N]
		case api.Add:
			is[i] = is[x.A] + is[x.B]
			if is[i] > 999_999 {
				is[i] -= 1_000_000
			}
		case api.Less:
			if is[x.A] < is[x.B] {
				is[i] = 1
			}
		case api.Same:
			if is[x.A] == is[x.B] {
				is[i] = 1
			}
		}
	}
	return is
}

// hold Run against the trial, and tell how much was burnt, and what was told.
func hold(t *testing.T, a asked) (int, api.Errno) {
	t.Helper()
	vars, burnt, want := trial(a)
	got, n, err := Run(a.p, a.vars, a.fuel)
	if plain.Told(err) != want || !slices.Equal(got, vars) || n != burnt {
		t.Fatalf("Run(%v, %v, %d): got %v, %d, %v, want %v, %d, %v", a.p, a.vars, a.fuel, got, n, plain.Told(err), vars, burnt, want)
	}
	return burnt, want
}

// tried counts what the trials came upon, so that they do not try too little.
type tried struct{ ended, full, looped int } // looped: more is burnt than there are nodes

// holdAround: with so much fuel, and, if it lasts, with just as much as is burnt, and with a drop less.
func (n *tried) holdAround(t *testing.T, a asked) {
	t.Helper()
	burnt, want := hold(t, a)
	if want != api.OK {
		n.full++
		return
	}
	n.ended++
	if burnt > len(a.p) {
		n.looped++
	}
	a.fuel = burnt
	if _, want = hold(t, a); want != api.OK {
		t.Fatalf("%v, %v: %d drops are burnt, and do not last", a.p, a.vars, burnt)
	}
	if a.fuel--; burnt > 0 {
		if _, want = hold(t, a); want != api.ErrFull {
			t.Fatalf("%v, %v: %d drops are burnt, and a drop less lasts", a.p, a.vars, burnt)
		}
	}
}

func (n *tried) atLeast(t *testing.T, ended, full, looped int) {
	t.Helper()
	if n.ended < ended || n.full < full || n.looped < looped {
		t.Errorf("too little is tried: %v", *n)
	}
}

// joined is a node behind its parts.
func joined(kind, n int, parts ...[]api.Node) []api.Node {
	x := api.Node{Kind: kind, N: n}
	var p []api.Node
	for i, part := range parts {
		by := len(p)
		for _, y := range part {
			y.A, y.B, y.C = y.A+by, y.B+by, y.C+by // what is not needed is not looked at
			p = append(p, y)
		}
		*[]*int{&x.A, &x.B, &x.C}[i] = len(p) - 1
	}
	return append(p, x)
}

// forest has, by their numbers of nodes, all values and all deeds of some numbers and variables.
type forest struct{ values, deeds [][][]api.Node }

// pairs of things, one of each list, that have so many nodes together.
func pairs(nodes int, as, bs [][][]api.Node, add func(a, b []api.Node)) {
	for n := 1; n < nodes; n++ {
		for _, a := range as[n] {
			for _, b := range bs[nodes-n] {
				add(a, b)
			}
		}
	}
}

// grow all that has so many nodes; all that has fewer is there.
func (f *forest) grow(nodes int) {
	var values, deeds [][]api.Node
	if nodes == 1 {
		values = [][]api.Node{joined(api.Num, 0), joined(api.Num, 999_999), joined(api.Var, 0), joined(api.Var, 1)}
		deeds = [][]api.Node{joined(api.Skip, 0)}
	}
	for _, a := range f.values[nodes-1] {
		deeds = append(deeds, joined(api.Set, 0, a), joined(api.Set, 1, a))
	}
	pairs(nodes-1, f.values, f.values, func(a, b []api.Node) {
		values = append(values, joined(api.Add, 0, a, b), joined(api.Less, 0, a, b), joined(api.Same, 0, a, b))
	})
	pairs(nodes-1, f.deeds, f.deeds, func(a, b []api.Node) { deeds = append(deeds, joined(api.Both, 0, a, b)) })
	pairs(nodes-1, f.values, f.deeds, func(a, b []api.Node) { deeds = append(deeds, joined(api.While, 0, a, b)) })
	for n := 1; n < nodes-1; n++ {
		for _, a := range f.values[n] {
			pairs(nodes-1-n, f.deeds, f.deeds, func(b, c []api.Node) { deeds = append(deeds, joined(api.If, 0, a, b, c)) })
		}
	}
	f.values, f.deeds = append(f.values, values), append(f.deeds, deeds)
}

// TestAllSmall: all programs of up to eight nodes, with two numbers and two variables.
func TestAllSmall(t *testing.T) {
	f := &forest{values: make([][][]api.Node, 1), deeds: make([][][]api.Node, 1)}
	for nodes := 1; nodes <= 8; nodes++ {
		f.grow(nodes)
	}
	var n tried
	for _, all := range f.deeds {
		for _, p := range all {
			for _, v := range [][]int{vars(), vars(9, 1), vars(2, 999_998)} {
				n.holdAround(t, asked{p, v, 20})
			}
		}
	}
	n.atLeast(t, 100_000, 10_000, 20)
}

// random gives numbers by a rule that is the same each time.
func random(seed uint32) func(below int) int {
	return func(below int) int {
		seed = seed*1664525 + 1013904223
		return int(seed>>8) % below
	}
}

// maker of programs.
type maker struct{ next func(below int) int }

// number, often one of those at the ends.
func (m maker) number() int {
	return []int{0, 1, m.next(10), 500_000, m.next(1_000_000), 999_998, 999_999}[m.next(7)]
}

// split so many nodes in two, of which each has one.
func (m maker) split(nodes int) (int, int) {
	a := 1 + m.next(nodes-1)
	return a, nodes - a
}

// value of at most so many nodes.
func (m maker) value(nodes int) []api.Node {
	if nodes < 3 || m.next(4) == 0 {
		if m.next(3) == 0 {
			return joined(api.Num, m.number())
		}
		return joined(api.Var, m.next(6))
	}
	a, b := m.split(nodes - 1)
	return joined(api.Add+m.next(3), m.next(9), m.value(a), m.value(b))
}

// deed of at most so many nodes.
func (m maker) deed(nodes int) []api.Node {
	if nodes < 2 {
		return joined(api.Skip, 0)
	}
	if nodes >= 13 && m.next(2) == 0 {
		return m.counted(nodes)
	}
	a, b := 1, 1
	if nodes >= 3 {
		a, b = m.split(nodes - 1)
	}
	switch kind := m.next(8); {
	case kind < 2 || nodes < 4:
		return joined(api.Set, m.next(6), m.value(min(nodes-1, 9)))
	case kind < 5:
		return joined(api.Both, m.next(9), m.deed(a), m.deed(b))
	case kind < 7:
		v := min(7, nodes-3)
		a, b = m.split(nodes - 1 - v)
		return joined(api.If, m.next(9), m.value(v), m.deed(a), m.deed(b))
	default:
		a = min(a, 7)
		return joined(api.While, m.next(9), m.value(a), m.deed(nodes-1-a))
	}
}

// counted is a While that most often ends, since at its end each time a variable is more by one: 9 nodes, and a deed.
func (m maker) counted(nodes int) []api.Node {
	n := m.next(6)
	more := joined(api.Set, n, joined(api.Add, 0, joined(api.Var, n), joined(api.Num, 1)))
	look := joined(api.Less, 0, joined(api.Var, n), joined(api.Num, 1+m.next(12)))
	return joined(api.While, 0, look, joined(api.Both, 0, m.deed(nodes-9), more))
}

// shuffled nodes, each behind its parts all the same, and the whole the last one.
func (m maker) shuffled(p []api.Node) []api.Node {
	place := make([]int, len(p))
	var out []api.Node
	left := make([]int, len(p))
	for i := range left {
		left[i] = i
	}
	for len(left) > 0 {
		k := m.next(len(left))
		x := p[left[k]]
		abc := []*int{&x.A, &x.B, &x.C}[:partsOf(x)]
		if slices.ContainsFunc(abc, func(part *int) bool { return slices.Contains(left, *part) }) {
			continue // a part is to come ahead of it
		}
		for _, part := range abc {
			*part = place[*part]
		}
		place[left[k]] = len(out)
		out = append(out, x)
		left = slices.Delete(left, k, k+1)
	}
	return out
}

func partsOf(x api.Node) int {
	switch x.Kind {
	case api.Num, api.Var, api.Skip:
		return 0
	case api.Set:
		return 1
	case api.If:
		return 3
	}
	return 2
}

// TestSomeGreat: programs of up to 80 nodes, in any order, of any variables, with fuel of any amount.
func TestSomeGreat(t *testing.T) {
	m := maker{random(11)}
	var n tried
	for i := range 12_000 {
		p := m.shuffled(m.deed(1 + m.next(80)))
		v := vars()
		for k := range v {
			v[k] = m.number()
		}
		fuel := []int{m.next(10), m.next(100), m.next(600)}[i%3]
		if i%20 == 0 {
			fuel = 5000
		}
		a := asked{p, v, fuel}
		told(t, "a made one", Check(p, v, fuel), api.OK)
		n.holdAround(t, a)
	}
	n.atLeast(t, 5000, 1000, 200)
}

// TestSomeWrong: programs, variables and fuel of which one thing is spoilt, or two, against the words of 11.1.
func TestSomeWrong(t *testing.T) {
	m := maker{random(12)}
	var n [9]int
	for range 20_000 {
		a := asked{m.deed(1 + m.next(12)), vars(m.number(), m.number()), m.next(5001)}
		for range 1 + m.next(2) {
			a = m.spoilt(a)
		}
		want := wrong(a)
		n[want]++
		holdCheck(t, "a spoilt one", a, want)
	}
	if n[api.OK] < 1000 || n[api.ErrRange] < 1000 || n[api.ErrShape] < 1000 {
		t.Errorf("too little is tried: %v", n)
	}
}

func (m maker) spoilt(a asked) asked {
	at, to := m.next(len(a.vars)+1), []int{-1, 0, 999_999, 1_000_000}[m.next(4)]
	switch m.next(5) {
	case 0:
		a.p = append(a.p, api.Node{Kind: api.Num, N: 3}) // a value, behind all
	case 1:
		a.vars = slices.Insert(a.vars, at, to)
	case 2:
		a.vars = a.vars[:at]
	case 3:
		if at < len(a.vars) {
			a.vars[at] = to
		}
	case 4:
		a.fuel = []int{-1, 0, 5000, 5001}[m.next(4)]
	}
	return a
}

// wrong tells what is wrong with a spoilt one.
func wrong(a asked) api.Errno {
	isWrong := func(n int) bool { return n < 0 || n > 999_999 }
	switch {
	case a.p[len(a.p)-1].Kind == api.Num || len(a.vars) != 6:
		return api.ErrShape
	case slices.ContainsFunc(a.vars, isWrong) || a.fuel < 0 || a.fuel > 5000:
		return api.ErrRange
	}
	return api.OK
}

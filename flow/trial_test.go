package flow

import (
	"slices"
	"testing"

	"quietwing/api"
	"quietwing/plain"
	"quietwing/run"
)

// partsOf a node: its values, and its deeds.
func partsOf(x api.Node) (values, deeds []int) {
	switch x.Kind {
	case api.Add, api.Less, api.Same:
		return []int{x.A, x.B}, nil
	case api.Set:
		return []int{x.A}, nil
	case api.Both:
		return nil, []int{x.A, x.B}
	case api.If:
		return []int{x.A}, []int{x.B, x.C}
	case api.While:
		return []int{x.A}, []int{x.B}
	}
	return nil, nil
}

// within tells whether node i is one of these, or in one of them.
func within(p []api.Node, i int, all []int) bool {
	for _, whole := range all {
		values, deeds := partsOf(p[whole])
		if whole == i || within(p, i, slices.Concat(values, deeds)) {
			return true
		}
	}
	return false
}

// arrow from a variable to one into which it flows.
type arrow struct{ from, to int }

// arrows by the words of 12.1: each Set is asked of each node that is a variable, and of each If and While.
func arrows(p []api.Node) []arrow {
	var out []arrow
	for s, set := range p {
		if set.Kind != api.Set {
			continue
		}
		for v, x := range p {
			if x.Kind == api.Var && flows(p, v, s) {
				out = append(out, arrow{x.N, set.N})
			}
		}
	}
	return out
}

// flows tells whether node v, a variable, is in the value of Set s, or of an If or a While of which that is in a deed.
func flows(p []api.Node, v, s int) bool {
	for i, x := range p {
		values, deeds := partsOf(x)
		if (i == s || within(p, s, deeds)) && x.Kind != api.Both && within(p, v, values) {
			return true
		}
	}
	return false
}

// comes gives of each variable all from which it is come to: they are as many as they are when no arrow leads from more.
func comes(all []arrow) []int {
	out := []int{1, 2, 4, 8, 16, 32}
	for range 6 {
		for _, a := range all {
			for to := range out {
				if out[to]>>a.to&1 == 1 {
					out[to] |= 1 << a.from
				}
			}
		}
	}
	return out
}

// fit tells whether no arrow leads to a lesser level.
func fit(all []arrow, l []int) bool {
	return !slices.ContainsFunc(all, func(a arrow) bool { return l[a.to] < l[a.from] })
}

// least levels by the words of 12.2: all levels are looked at that might stand for those that are -1; nil if none fit.
func least(all []arrow, l []int) []int {
	var best []int
	var look func(l []int)
	look = func(l []int) {
		at := slices.Index(l, -1)
		if at < 0 && fit(all, l) {
			if best == nil {
				best = slices.Clone(l)
			}
			for i := range best {
				best[i] = min(best[i], l[i])
			}
		}
		if at < 0 {
			return
		}
		for level := range 8 {
			l[at] = level
			look(l)
		}
		l[at] = -1
	}
	look(slices.Clone(l))
	return best
}

// tried counts what the trials came upon, so that they do not try too little.
type tried struct{ fit, unfit, least, clash int }

// hold all three against the words.
func (n *tried) hold(t *testing.T, p []api.Node, told [][]int) {
	t.Helper()
	all := arrows(p)
	want := comes(all)
	if got, err := From(p); err != nil || !slices.Equal(got, want) {
		t.Fatalf("From(%v): got %b, %v, want %b", p, got, err, want)
	}
	for _, l := range told {
		if !slices.Contains(l, -1) {
			n.holdFits(t, p, l, fit(all, l))
		}
		n.holdLeast(t, p, l, least(all, l))
	}
}

func (n *tried) holdFits(t *testing.T, p []api.Node, l []int, want bool) {
	t.Helper()
	if want {
		n.fit++
	} else {
		n.unfit++
	}
	if got, err := Fits(p, l); err != nil || got != want {
		t.Fatalf("Fits(%v, %v): got %v, %v, want %v", p, l, got, err, want)
	}
}

func (n *tried) holdLeast(t *testing.T, p []api.Node, l, want []int) {
	t.Helper()
	wrong := api.OK
	if want == nil {
		wrong = api.ErrClash
		n.clash++
	} else {
		n.least++
	}
	if got, err := Least(p, l); plain.Told(err) != wrong || !slices.Equal(got, want) {
		t.Fatalf("Least(%v, %v): got %v, %v, want %v, %v", p, l, got, plain.Told(err), want, wrong)
	}
}

func (n *tried) atLeast(t *testing.T, least int) {
	t.Helper()
	if n.fit < least || n.unfit < least || n.least < least || n.clash < least {
		t.Errorf("too little is tried: %v", *n)
	}
}

// joined is a node behind its parts.
func joined(kind, n int, parts ...[]api.Node) []api.Node {
	x := api.Node{Kind: kind, N: n}
	var p []api.Node
	for i, part := range parts {
		by := len(p)
		for _, y := range part {
			y.A, y.B, y.C = y.A+by, y.B+by, y.C+by // what is not needed is not looked at
			p = append(p, y)
		}
		*[]*int{&x.A, &x.B, &x.C}[i] = len(p) - 1
	}
	return append(p, x)
}

// forest has, by their numbers of nodes, all values and all deeds of one number and three variables.
type forest struct{ values, deeds [][][]api.Node }

// pairs of things, one of each list, that have so many nodes together.
func pairs(nodes int, as, bs [][][]api.Node, add func(a, b []api.Node)) {
	for n := 1; n < nodes; n++ {
		for _, a := range as[n] {
			for _, b := range bs[nodes-n] {
				add(a, b)
			}
		}
	}
}

// grow all that has so many nodes; all that has fewer is there.
func (f *forest) grow(nodes int) {
	var values, deeds [][]api.Node
	if nodes == 1 {
		values = [][]api.Node{joined(api.Num, 1), joined(api.Var, 0), joined(api.Var, 1), joined(api.Var, 2)}
		deeds = [][]api.Node{joined(api.Skip, 0)}
	}
	for _, a := range f.values[nodes-1] {
		deeds = append(deeds, joined(api.Set, 0, a), joined(api.Set, 1, a))
	}
	pairs(nodes-1, f.values, f.values, func(a, b []api.Node) {
		values = append(values, joined(api.Add, 0, a, b), joined(api.Less, 0, a, b), joined(api.Same, 0, a, b))
	})
	pairs(nodes-1, f.deeds, f.deeds, func(a, b []api.Node) { deeds = append(deeds, joined(api.Both, 0, a, b)) })
	pairs(nodes-1, f.values, f.deeds, func(a, b []api.Node) { deeds = append(deeds, joined(api.While, 0, a, b)) })
	for n := 1; n < nodes-1; n++ {
		for _, a := range f.values[n] {
			pairs(nodes-1-n, f.deeds, f.deeds, func(b, c []api.Node) { deeds = append(deeds, joined(api.If, 0, a, b, c)) })
		}
	}
	f.values, f.deeds = append(f.values, values), append(f.deeds, deeds)
}

// TestAllSmall: all programs of up to seven nodes, with three variables of which two are set, and some levels for them.
func TestAllSmall(t *testing.T) {
	f := &forest{values: make([][][]api.Node, 1), deeds: make([][][]api.Node, 1)}
	for nodes := 1; nodes <= 7; nodes++ {
		f.grow(nodes)
	}
	some := [][]int{levels(1, 1, 0), levels(1, 0, 1), levels(0, 0, 1), levels(7, 6, 5), levels(-1, 5, 2), levels(2, -1, 5), levels(5, 2, -1), levels(-1, -1, 3)}
	var n tried
	for _, all := range f.deeds {
		for _, p := range all {
			n.hold(t, p, some)
		}
	}
	n.atLeast(t, 10_000)
}

// TestAllLevels: some programs of three variables, with all levels of these that are -1, 0, 1, 6 or 7.
func TestAllLevels(t *testing.T) {
	var n tried
	var told [][]int
	for i := range 125 {
		pick := []int{-1, 0, 1, 6, 7}
		told = append(told, levels(pick[i/25], pick[i/5%5], pick[i%5]))
	}
	for _, text := range []string{
		"", "a=b;", "b=a;c=b;", "b=a;b=c;", "b=a;c=a;", "a=b;b=a;", "a=b;b=c;c=a;", "a=+bc;", "?a{b=#1;}{c=#1;}", "?a{b=c;}{}", "@a{?b{c=#1;}{}}", "@<ab{c=#1;}a=c;",
	} {
		n.hold(t, read(t, text), told)
	}
	n.atLeast(t, 200)
}

// random gives numbers by a rule that is the same each time.
func random(seed uint32) func(below int) int {
	return func(below int) int {
		seed = seed*1664525 + 1013904223
		return int(seed>>8) % below
	}
}

// garden in which a program grows: now and then free nodes become parts of a new one, so that the order of nodes is any.
type garden struct {
	p             []api.Node
	values, deeds []int // free ones
	next          func(below int) int
}

// take a free node from a list that has one.
func (g *garden) take(free *[]int) int {
	k := g.next(len(*free))
	i := (*free)[k]
	*free = slices.Delete(*free, k, k+1)
	return i
}

// add a node, of which what it does not need is anything.
func (g *garden) add(kind int) {
	x := api.Node{Kind: kind, N: g.next(6), A: g.next(80), B: g.next(80), C: g.next(80)}
	values, deeds := partsOf(x)
	abc := []*int{&x.A, &x.B, &x.C}
	for i := range abc[:len(values)+len(deeds)] {
		free := &g.deeds
		if i < len(values) {
			free = &g.values
		}
		*abc[i] = g.take(free)
	}
	if kind < api.Skip {
		g.values = append(g.values, len(g.p))
	} else {
		g.deeds = append(g.deeds, len(g.p))
	}
	g.p = append(g.p, x)
}

// can tells whether there are free parts for a node of a kind.
func (g *garden) can(kind int) bool {
	values, deeds := partsOf(api.Node{Kind: kind})
	return len(values) <= len(g.values) && len(deeds) <= len(g.deeds)
}

// grown to at most so many nodes, or some more for what is still free then.
func grown(nodes int, next func(below int) int) []api.Node {
	g := &garden{next: next}
	kinds := []int{api.Num, api.Var, api.Var, api.Var, api.Add, api.Less, api.Same, api.Skip, api.Set, api.Set, api.Set, api.Both, api.If, api.If, api.While}
	for len(g.p) < nodes {
		kind := kinds[next(len(kinds))]
		if g.can(kind) && (kind >= api.Add || len(g.values) < 6) && (kind != api.Skip || len(g.deeds) < 4) {
			g.add(kind)
		}
	}
	for len(g.values) > 0 {
		g.add(api.Set)
	}
	for len(g.deeds) != 1 {
		if len(g.deeds) == 0 {
			g.add(api.Skip)
		} else {
			g.add(api.Both)
		}
	}
	return g.p
}

// someLevels of which at most so many are -1.
func someLevels(next func(below int) int, free int) []int {
	l := make([]int, 6)
	low := next(8)
	for i := range l {
		l[i] = low + next(8-low)
	}
	for range free {
		l[next(6)] = -1
	}
	return l
}

// TestSomeGreat: programs of up to 80 nodes, in any order, of any variables, with any levels.
func TestSomeGreat(t *testing.T) {
	next := random(12)
	var n tried
	most := 0
	for i := range 4000 {
		p := grown(1+next([]int{8, 20, 66}[i%3]), next)
		if len(p) > 80 {
			continue
		}
		most = max(most, len(p))
		all := [][]int{someLevels(next, 0), someLevels(next, 0), someLevels(next, 2), someLevels(next, 3)}
		if i%200 == 0 {
			all = append(all, someLevels(next, 9))
		}
		if l := least(arrows(p), all[2]); l != nil {
			all = append(all, l)
		}
		n.hold(t, p, all)
	}
	n.atLeast(t, 300)
	if most < 78 {
		t.Errorf("the greatest program has %d nodes", most)
	}
}

// differ tells which variables are not alike, as a set.
func differ(a, b []int) int {
	set := 0
	for i := range a {
		if a[i] != b[i] {
			set |= 1 << i
		}
	}
	return set
}

// fewValues of variables, so that what is asked of them is often true, and often not.
func fewValues(next func(below int) int) []int {
	v := make([]int, 6)
	for i := range v {
		v[i] = next(3)
	}
	return v
}

// twice is a program that was run on two lists of variables, and ended.
type twice struct {
	p                []api.Node
	v, w             []int // at first
	behindV, behindW []int
}

// ranTwice makes one; false, if a run did not end, which may tell of what is in a While's value.
func ranTwice(next func(below int) int) (twice, bool) {
	r := twice{p: grown(1+next(30), next), v: fewValues(next)}
	r.w = slices.Clone(r.v)
	for range 1 + next(2) {
		r.w[next(6)] = next(3)
	}
	var err, err2 error
	r.behindV, _, err = run.Run(r.p, r.v, 300)
	r.behindW, _, err2 = run.Run(r.p, r.w, 300)
	return r, err == nil && err2 == nil
}

// leaks counts what the trials came upon, so that they do not try too little.
type leaks struct{ ended, moved, hidden int }

// TestNothingLeaks: two runs that both end differ in a variable only if at first they do in one that may flow into it; so, if levels fit, what is higher is not to be told from what is lower.
func TestNothingLeaks(t *testing.T) {
	next := random(13)
	var n leaks
	for range 20_000 {
		r, ok := ranTwice(next)
		if !ok {
			continue
		}
		n.ended++
		n.holdSets(t, r)
		n.holdLevels(t, r, next)
	}
	if n.ended < 10_000 || n.moved < 1000 || n.hidden < 1000 {
		t.Errorf("too little is tried: %v", n)
	}
}

func (n *leaks) holdSets(t *testing.T, r twice) {
	t.Helper()
	from, err := From(r.p)
	told(t, "a program that ran", err, api.OK)
	first := differ(r.v, r.w)
	for i, set := range from {
		if differ(r.behindV, r.behindW)>>i&1 == 0 {
			continue
		}
		if set&first == 0 {
			t.Fatalf("%v: from %v comes %v, and from %v %v, though into %d flows only %b", r.p, r.v, r.behindV, r.w, r.behindW, i, set)
		}
		if first>>i&1 == 0 {
			n.moved++
		}
	}
}

// holdLevels: with levels that fit, who sees only what is at most as high as some level sees no more of two runs that are alike at first.
func (n *leaks) holdLevels(t *testing.T, r twice, next func(below int) int) {
	t.Helper()
	l, err := Least(r.p, someLevels(next, 9))
	if err != nil {
		return
	}
	for see := range 8 {
		low := 0
		for i, level := range l {
			if level <= see {
				low |= 1 << i
			}
		}
		if low == 0 || differ(r.v, r.w)&low != 0 {
			continue
		}
		n.hidden++
		if differ(r.behindV, r.behindW)&low != 0 {
			t.Fatalf("%v with levels %v: from %v comes %v, and from %v %v, which is to be told at level %d", r.p, l, r.v, r.behindV, r.w, r.behindW, see)
		}
	}
}

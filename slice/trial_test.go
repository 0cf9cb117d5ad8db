package slice

import (
	"slices"
	"strings"
	"testing"

	"quietwing/api"
	"quietwing/prog"
	"quietwing/run"
)

// asked is a node with what matters behind it.
type asked struct{ i, behind int }

// trial of a program by the words of 13.1 and 13.2.
type trial struct {
	p    []api.Node
	kept map[asked][]api.Node // nil, if it is nothing
	told map[asked]int        // what matters ahead
}

// deed i with what matters behind it: what of it is kept, as a program, and what matters ahead of it.
func (r *trial) deed(i, behind int) ([]api.Node, int) {
	a := asked{i, behind}
	if ahead, ok := r.told[a]; ok {
		return r.kept[a], ahead
	}
	kept, ahead := r.anew(r.p[i], behind)
	r.kept[a], r.told[a] = kept, ahead
	return kept, ahead
}

func (r *trial) anew(x api.Node, behind int) ([]api.Node, int) {
	switch x.Kind {
	case api.Set:
		if behind>>x.N&1 == 1 {
			return joined(x, r.value(x.A)), behind&^(1<<x.N) | r.in(x.A)
		}
	case api.Both:
		b, between := r.deed(x.B, behind)
		a, ahead := r.deed(x.A, between)
		if a == nil {
			return b, ahead
		}
		if b == nil {
			return a, ahead
		}
		return joined(api.Node{Kind: api.Both}, a, b), ahead
	case api.If:
		b, aheadB := r.deed(x.B, behind)
		c, aheadC := r.deed(x.C, behind)
		if b != nil || c != nil {
			return joined(api.Node{Kind: api.If}, r.value(x.A), orSkip(b), orSkip(c)), aheadB | aheadC | r.in(x.A)
		}
	case api.While:
		if b, _ := r.deed(x.B, behind); b != nil {
			least := r.least(x, behind)
			b, _ = r.deed(x.B, least)
			return joined(api.Node{Kind: api.While}, r.value(x.A), orSkip(b)), least
		}
	}
	return nil, behind
}

// least set that has all that it is to have: what all such sets have, of which each is tried.
func (r *trial) least(x api.Node, behind int) int {
	least := 63
	for set := range 64 {
		if set&behind != behind || set&r.in(x.A) != r.in(x.A) {
			continue
		}
		if _, ahead := r.deed(x.B, set); set&ahead == ahead {
			least &= set
		}
	}
	return least
}

// value i with all its parts.
func (r *trial) value(i int) []api.Node {
	x := r.p[i]
	if x.Kind == api.Num || x.Kind == api.Var {
		return []api.Node{x}
	}
	return joined(x, r.value(x.A), r.value(x.B))
}

// in value i there are these variables.
func (r *trial) in(i int) int {
	set := 0
	for _, x := range r.value(i) {
		if x.Kind == api.Var {
			set |= 1 << x.N
		}
	}
	return set
}

func orSkip(p []api.Node) []api.Node {
	if p == nil {
		return []api.Node{{Kind: api.Skip}}
	}
	return p
}

// places of the parts of a node.
func places(x *api.Node) []*int { return []*int{&x.A, &x.B, &x.C}[:len(prog.Parts(*x))] }

// joined is a node behind its parts.
func joined(x api.Node, parts ...[]api.Node) []api.Node {
	var p []api.Node
	for i, part := range parts {
		by := len(p)
		for _, y := range part {
			for _, place := range places(&y) {
				*place += by
			}
			p = append(p, y)
		}
		*places(&x)[i] = len(p) - 1
	}
	return append(p, x)
}

// tried counts what the trials came upon, so that they do not try too little.
type tried struct{ nothing, some, all, grown int } // grown: more is needed than the variable itself

// hold both, for each variable up to one, against the words.
func (n *tried) hold(t *testing.T, p []api.Node, below int) {
	t.Helper()
	r := &trial{p, map[asked][]api.Node{}, map[asked]int{}}
	for v := range below {
		cut, needs := r.deed(len(p)-1, 1<<v)
		n.count(cut, len(p), needs)
		got, err := Cut(p, v)
		if err != nil || !slices.Equal(got, orSkip(cut)) {
			t.Fatalf("Cut(%v, %d): got %v, %v, want %v", p, v, got, err, orSkip(cut))
		}
		m, err := Needs(p, v)
		if err != nil || m != needs {
			t.Fatalf("Needs(%v, %d): got %b, %v, want %b", p, v, m, err, needs)
		}
	}
}

func (n *tried) count(cut []api.Node, nodes, needs int) {
	switch len(cut) {
	case 0:
		n.nothing++
	case nodes:
		n.all++
	default:
		n.some++
	}
	if needs&(needs-1) != 0 {
		n.grown++
	}
}

func (n *tried) atLeast(t *testing.T, least int) {
	t.Helper()
	if n.nothing < least || n.some < least || n.all < least || n.grown < least {
		t.Errorf("too little is tried: %v", *n)
	}
}

// forest has, by their numbers of nodes, all values and all deeds of one number and three variables.
type forest struct{ values, deeds [][][]api.Node }

// pairs of things, one of each list, that have so many nodes together.
func pairs(nodes int, as, bs [][][]api.Node, add func(a, b []api.Node)) {
	for n := 1; n < nodes; n++ {
		for _, a := range as[n] {
			for _, b := range bs[nodes-n] {
				add(a, b)
			}
		}
	}
}

// grow all that has so many nodes; all that has fewer is there.
func (f *forest) grow(nodes int) {
	var values, deeds [][]api.Node
	if nodes == 1 {
		values = [][]api.Node{{num(1)}, {vari(0)}, {vari(1)}, {vari(2)}}
		deeds = [][]api.Node{{skip()}}
	}
	for _, a := range f.values[nodes-1] {
		deeds = append(deeds, joined(sets(0, 0), a), joined(sets(1, 0), a))
	}
	pairs(nodes-1, f.values, f.values, func(a, b []api.Node) { values = append(values, joined(sum(0, 0), a, b)) })
	pairs(nodes-1, f.deeds, f.deeds, func(a, b []api.Node) { deeds = append(deeds, joined(both(0, 0), a, b)) })
	pairs(nodes-1, f.values, f.deeds, func(a, b []api.Node) { deeds = append(deeds, joined(loop(0, 0), a, b)) })
	for n := 1; n < nodes-1; n++ {
		for _, a := range f.values[n] {
			pairs(nodes-1-n, f.deeds, f.deeds, func(b, c []api.Node) { deeds = append(deeds, joined(choice(0, 0, 0), a, b, c)) })
		}
	}
	f.values, f.deeds = append(f.values, values), append(f.deeds, deeds)
}

// TestAllSmall: all programs of up to nine nodes, with three variables of which two are set, and for these and one more.
func TestAllSmall(t *testing.T) {
	f := &forest{values: make([][][]api.Node, 1), deeds: make([][][]api.Node, 1)}
	for nodes := 1; nodes <= 9; nodes++ {
		f.grow(nodes)
	}
	var n tried
	for _, all := range f.deeds {
		for _, p := range all {
			n.hold(t, p, 4)
		}
	}
	n.atLeast(t, 40_000)
}

// random gives numbers by a rule that is the same each time.
func random(seed uint32) func(below int) int {
	return func(below int) int {
		seed = seed*1664525 + 1013904223
		return int(seed>>8) % below
	}
}

// garden in which a program grows: now and then free nodes become parts of a new one, so that the order of nodes is any.
type garden struct {
	p             []api.Node
	values, deeds []int // free ones
	next          func(below int) int
}

// take a free node from a list that has one.
func (g *garden) take(free *[]int) int {
	k := g.next(len(*free))
	i := (*free)[k]
	*free = slices.Delete(*free, k, k+1)
	return i
}

// ofValues tells how many parts of a kind are values; they stand ahead of its deeds.
func ofValues(kind int) int {
	switch kind {
	case api.Add, api.Less, api.Same:
		return 2
	case api.Set, api.If, api.While:
		return 1
	}
	return 0
}

// add a node, of which what it does not need is anything.
func (g *garden) add(kind int) {
	x := api.Node{Kind: kind, N: g.next(6), A: g.next(80), B: g.next(80), C: g.next(80)}
	for i, place := range places(&x) {
		free := &g.deeds
		if i < ofValues(kind) {
			free = &g.values
		}
		*place = g.take(free)
	}
	if kind < api.Skip {
		g.values = append(g.values, len(g.p))
	} else {
		g.deeds = append(g.deeds, len(g.p))
	}
	g.p = append(g.p, x)
}

// can tells whether there are free parts for a node of a kind.
func (g *garden) can(kind int) bool {
	values := ofValues(kind)
	deeds := len(prog.Parts(api.Node{Kind: kind})) - values
	return values <= len(g.values) && deeds <= len(g.deeds)
}

// grown to at most so many nodes, or some more for what is still free then.
func grown(nodes int, next func(below int) int) []api.Node {
	g := &garden{next: next}
	kinds := []int{api.Num, api.Var, api.Var, api.Var, api.Add, api.Less, api.Same, api.Skip, api.Set, api.Set, api.Set, api.Both, api.If, api.If, api.While}
	for len(g.p) < nodes {
		kind := kinds[next(len(kinds))]
		if g.can(kind) && (kind >= api.Add || len(g.values) < 6) && (kind != api.Skip || len(g.deeds) < 4) {
			g.add(kind)
		}
	}
	for len(g.values) > 0 {
		g.add(api.Set)
	}
	for len(g.deeds) != 1 {
		if len(g.deeds) == 0 {
			g.add(api.Skip)
		} else {
			g.add(api.Both)
		}
	}
	return g.p
}

// TestSomeGreat: programs of up to 80 nodes, in any order, of any variables.
func TestSomeGreat(t *testing.T) {
	next := random(13)
	var n tried
	most := 0
	for i := range 6000 {
		p := grown(1+next([]int{8, 20, 66}[i%3]), next)
		if len(p) <= 80 {
			most = max(most, len(p))
			n.hold(t, p, 6)
		}
	}
	n.atLeast(t, 300)
	if most < 78 {
		t.Errorf("the greatest program has %d nodes", most)
	}
}

// nested Whiles, with a Set or none ahead of each one, and behind it.
func nested(depth int, next func(below int) int) string {
	letter := func() string { return string(rune('a' + next(6))) }
	some := func() string {
		if next(3) > 0 {
			return ""
		}
		return letter() + "=" + letter() + ";"
	}
	s := some()
	for range depth {
		s = some() + "@" + letter() + "{" + s + "}" + some()
	}
	return s
}

// TestSomeNested: Whiles in Whiles, as deep as may be.
func TestSomeNested(t *testing.T) {
	next := random(14)
	var n tried
	great := 0
	for range 3000 {
		p, err := prog.Read(nested(1+next(30), next))
		if err != nil {
			continue
		}
		if len(p) > 70 {
			great++
		}
		n.hold(t, p, 6)
	}
	n.atLeast(t, 100)
	if great < 100 {
		t.Errorf("only %d are great", great)
	}
}

// fewValues of variables, so that what is asked of them is often true, and often not.
func fewValues(next func(below int) int) []int {
	v := make([]int, 6)
	for i := range v {
		v[i] = next(3)
	}
	return v
}

// likeIn a set of variables, and anything in all others.
func likeIn(v []int, set int, next func(below int) int) []int {
	w := fewValues(next)
	for i := range w {
		if set>>i&1 == 1 {
			w[i] = v[i]
		}
	}
	return w
}

// ranOf counts what running came upon, so that it does not try too little.
type ranOf struct{ ended, cheaper, moved, ends int } // ends: the program itself does not

// TestWhatIsCutDoesNotMatter: where a program ends, what is kept of it ends with no more burnt, and with the same in the variable; and it does just the same if what is not needed is anything at first.
func TestWhatIsCutDoesNotMatter(t *testing.T) {
	next := random(15)
	var n ranOf
	for range 12_000 {
		p := grown(1+next(40), next)
		if len(p) <= 80 {
			n.hold(t, p, next(6), fewValues(next), next)
		}
	}
	if n.ended < 6000 || n.cheaper < 3000 || n.moved < 1000 || n.ends < 50 {
		t.Errorf("too little is tried: %v", n)
	}
}

func (n *ranOf) hold(t *testing.T, p []api.Node, v int, vars []int, next func(below int) int) {
	t.Helper()
	cut, err := Cut(p, v)
	needs, err2 := Needs(p, v)
	if err != nil || err2 != nil {
		t.Fatalf("%v for %d: %v, %v", p, v, err, err2)
	}
	whole, burnt, err := run.Run(p, vars, 1000)
	part, less, err2 := run.Run(cut, vars, 1000)
	if err2 != nil {
		if err == nil {
			t.Fatalf("%v for %d: with %v it ends, and %v does not", p, v, vars, cut)
		}
		return
	}
	n.holdOther(t, p, v, needs, vars, next)
	if err != nil {
		n.ends++
		return
	}
	n.ended++
	if whole[v] != part[v] || burnt < less {
		t.Fatalf("%v for %d: from %v comes %v, %d, and of %v %v, %d", p, v, vars, whole, burnt, cut, part, less)
	}
	if less < burnt {
		n.cheaper++
	}
	if whole[v] != vars[v] {
		n.moved++
	}
}

// holdOther variables at first, which are alike where they are needed.
func (n *ranOf) holdOther(t *testing.T, p []api.Node, v, needs int, vars []int, next func(below int) int) {
	t.Helper()
	cut, _ := Cut(p, v)
	first, burnt, err := run.Run(cut, vars, 1000)
	other := likeIn(vars, needs, next)
	then, again, err2 := run.Run(cut, other, 1000)
	if err != nil || err2 != nil || first[v] != then[v] || burnt != again {
		t.Fatalf("%v for %d needs %b: from %v comes %v, %d, %v, and from %v %v, %d, %v", p, v, needs, vars, first, burnt, err, other, then, again, err2)
	}
}

// TestAsText: of programs that are read, what is kept is what is read of its text, though that is less.
func TestAsText(t *testing.T) {
	next := random(16)
	shorter := 0
	for range 2000 {
		text, err := prog.Write(grown(1+next(60), next))
		if err != nil {
			continue
		}
		p := read(t, text)
		for v := range 6 {
			cut, err := Cut(p, v)
			told(t, text, err, api.OK)
			rest, err := prog.Write(cut)
			told(t, text, err, api.OK)
			if !slices.Equal(read(t, rest), cut) || strings.Count(rest, ";") > strings.Count(text, ";") {
				t.Fatalf("Cut(%q, %d): got %v, which is %q", text, v, cut, rest)
			}
			if len(rest) < len(text) {
				shorter++
			}
		}
	}
	if shorter < 1000 {
		t.Errorf("only %d are shorter", shorter)
	}
}

package prog

import (
	"slices"
	"strconv"
	"strings"
	"testing"

	"quietwing/api"
	"quietwing/plain"
)

// forms of the kinds, by the words of 10.1 and 10.2: n is the letter of N, # its number; 1, 2, 3 are A, B, C where they are values, and 4, 5, 6 where they are deeds.
var forms = []string{"#", "n", "+12", "<12", "=12", "", "n=1;", "45", "?1{5}{6}", "@1{5}"}

// part of a node, as a form says it.
type part struct {
	place int
	value bool
}

// partsByForm gives A, B and C of a node, as far as its form has them.
func partsByForm(x api.Node) []part {
	var out []part
	for i, place := range []int{x.A, x.B, x.C} {
		if strings.Contains(forms[x.Kind], string("123"[i])) {
			out = append(out, part{place, true})
		}
		if strings.Contains(forms[x.Kind], string("456"[i])) {
			out = append(out, part{place, false})
		}
	}
	return out
}

// checkByForm is Check by the words of 10.1: how many nodes have each part is counted over and over.
func checkByForm(p []api.Node) api.Errno {
	if len(p) == 0 {
		return api.ErrNone
	}
	if len(p) > 80 {
		return api.ErrFull
	}
	var parts []int
	for i, x := range p {
		if x.Kind < 0 || x.Kind >= len(forms) {
			return api.ErrRange
		}
		if strings.Contains(forms[x.Kind], "n") && (x.N < 0 || x.N > 5) || strings.Contains(forms[x.Kind], "#") && (x.N < 0 || x.N > 999_999) {
			return api.ErrRange
		}
		for _, part := range partsByForm(x) {
			if part.place < 0 || part.place >= i {
				return api.ErrRange
			}
			if slices.Contains(parts, part.place) || part.value != (p[part.place].Kind < 5) {
				return api.ErrShape
			}
			parts = append(parts, part.place)
		}
	}
	for i := range len(p) - 1 {
		if !slices.Contains(parts, i) {
			return api.ErrShape
		}
	}
	if p[len(p)-1].Kind < 5 {
		return api.ErrShape
	}
	return api.OK
}

// textByForm is the text of node i, with its form filled in.
func textByForm(p []api.Node, i int) string {
	x, text := p[i], ""
	for _, sign := range forms[p[i].Kind] {
		switch sign {
		case 'n':
			text += string("abcdef"[x.N])
		case '#':
			text += "#" + strconv.Itoa(x.N)
		case '1', '4':
			text += textByForm(p, x.A)
		case '2', '5':
			text += textByForm(p, x.B)
		case '3', '6':
			text += textByForm(p, x.C)
		default:
			text += string(sign)
		}
	}
	return text
}

// machine reads a text by 10.3 sign by sign: what it has still to come upon stands on a stack.
type machine struct {
	s    string
	at   int
	todo []func()
	p    []api.Node
	free []int // nodes that are no parts yet
	err  api.Errno
}

func (m *machine) run() ([]api.Node, api.Errno) {
	if len(m.s) > 300 {
		return nil, api.ErrFull
	}
	m.push(m.list(0))
	for len(m.todo) > 0 && m.err == api.OK {
		top := m.todo[len(m.todo)-1]
		m.todo = m.todo[:len(m.todo)-1]
		top()
	}
	if m.err != api.OK {
		return nil, m.err
	}
	return m.p, api.OK
}

// push things, of which the first one comes next.
func (m *machine) push(things ...func()) {
	for _, f := range slices.Backward(things) {
		m.todo = append(m.todo, f)
	}
}

func (m *machine) isOver() bool { return m.at == len(m.s) }

func (m *machine) fail() { m.err = api.ErrSyntax }

func (m *machine) sign(sign byte) func() {
	return func() {
		if m.isOver() || m.s[m.at] != sign {
			m.fail()
			return
		}
		m.at++
	}
}

// node comes, with the last free ones as its parts.
func (m *machine) node(kind, n int) func() {
	return func() {
		if len(m.p) == 80 {
			m.err = api.ErrFull
			return
		}
		x := api.Node{Kind: kind, N: n}
		abc := []*int{&x.A, &x.B, &x.C}
		parts := partsByForm(api.Node{Kind: kind, A: 0, B: 1, C: 2})
		from := len(m.free) - len(parts)
		for i, part := range parts {
			*abc[part.place] = m.free[from+i]
		}
		m.free = append(m.free[:from], len(m.p))
		m.p = append(m.p, x)
	}
}

// list of deeds up to a sign, or, if that is 0, to the end.
func (m *machine) list(stop byte) func() {
	isThere := func() bool {
		if stop == 0 {
			return m.isOver()
		}
		return !m.isOver() && m.s[m.at] == stop
	}
	first := true
	var next func()
	next = func() {
		switch {
		case isThere() && first:
			m.push(m.node(api.Skip, 0))
		case isThere():
		case first:
			first = false
			m.push(m.deed, next)
		default:
			// each deed but the first one is part of one Both more, and these come when the list is over
			m.push(m.deed, next, m.node(api.Both, 0))
		}
	}
	return next
}

func (m *machine) braces() []func() {
	return []func(){m.sign('{'), m.list('}'), m.sign('}')}
}

// one sign of these; -1, and a fault, if it is none.
func (m *machine) one(of string) int {
	if m.isOver() || !strings.Contains(of, string(m.s[m.at])) || m.s[m.at] > 127 {
		m.fail()
		return -1
	}
	m.at++
	return strings.Index(of, string(m.s[m.at-1]))
}

func (m *machine) deed() {
	switch n := m.one("abcdef?@"); n {
	case -1:
	case 6:
		m.push(slices.Concat([]func(){m.value}, m.braces(), m.braces(), []func(){m.node(api.If, 0)})...)
	case 7:
		m.push(slices.Concat([]func(){m.value}, m.braces(), []func(){m.node(api.While, 0)})...)
	default:
		m.push(m.sign('='), m.value, m.sign(';'), m.node(api.Set, n))
	}
}

func (m *machine) value() {
	switch n := m.one("abcdef+<=#"); n {
	case -1:
	case 6, 7, 8:
		m.push(m.value, m.value, m.node(api.Add+n-6, 0))
	case 9:
		m.number()
	default:
		m.push(m.node(api.Var, n))
	}
}

func (m *machine) number() {
	n, digits := 0, 0
	for !m.isOver() && m.s[m.at] >= '0' && m.s[m.at] <= '9' {
		if digits > 0 && n == 0 || n > 99_999 {
			m.fail()
			return
		}
		n = 10*n + int(m.s[m.at]-'0')
		digits++
		m.at++
	}
	if digits == 0 {
		m.fail()
		return
	}
	m.push(m.node(api.Num, n))
}

// counts of what the trials came upon, so that they do not try too little.
type counts [9]int

func (n *counts) hold(t *testing.T, least int, all ...api.Errno) {
	t.Helper()
	for _, e := range all {
		if n[e] < least {
			t.Errorf("came upon %v only %d times: too little", e, n[e])
		}
	}
}

// holdText reads a text, and holds it against the machine, and what is read against its text; it tells whether the text might go on.
func holdText(t *testing.T, s string, n *counts) bool {
	t.Helper()
	m := &machine{s: s}
	want, errno := m.run()
	n[errno]++
	got, err := Read(s)
	if plain.Told(err) != errno || !slices.Equal(got, want) {
		t.Fatalf("Read(%q): got %v, %v, want %v, %v", s, got, plain.Told(err), want, errno)
	}
	if errno == api.OK {
		if text, err := Write(got); err != nil || text != s || checkByForm(got) != api.OK {
			t.Fatalf("Write(%v): got %q, %v, want %q", got, text, err, s)
		}
	}
	return m.isOver()
}

// walk goes over all texts that are so many signs longer, as far as they might go on.
func walk(t *testing.T, s string, signs string, more int, n *counts) {
	t.Helper()
	if !holdText(t, s, n) || more == 0 {
		return
	}
	for i := range len(signs) {
		walk(t, s+signs[i:i+1], signs, more-1, n)
	}
}

// TestAllShortTexts: all texts of up to nine signs, as far as they might go on.
func TestAllShortTexts(t *testing.T) {
	var n counts
	walk(t, "", "afg#01+=;?@{}", 9, &n)
	n.hold(t, 10_000, api.ErrSyntax)
	n.hold(t, 1000, api.OK)
}

// TestAllBytes: each byte behind each text of up to five signs that might go on.
func TestAllBytes(t *testing.T) {
	var n counts
	var bytes [256]byte
	for i := range bytes {
		bytes[i] = byte(i)
	}
	var texts func(s string, more int)
	texts = func(s string, more int) {
		walk(t, s, string(bytes[:]), 1, &n)
		if m := (&machine{s: s}); more > 0 {
			if m.run(); !m.isOver() {
				return
			}
			for _, sign := range "af#09+=;?@{}" {
				texts(s+string(sign), more-1)
			}
		}
	}
	texts("", 5)
	n.hold(t, 10_000, api.ErrSyntax)
	n.hold(t, 50, api.OK)
}

// TestAllEnds: all ends of up to five signs behind texts of nearly as many nodes as may be, at the top and in braces.
func TestAllEnds(t *testing.T) {
	var n counts
	for _, odd := range []string{"", "@a{}"} {
		for sets := 34; sets <= 40; sets++ {
			for _, open := range []string{"", "@c{", "a=", "a=+b", "?d{"} {
				walk(t, odd+strings.Repeat("a=b;", sets)+open, "a#0+;?@{}x", 5, &n)
			}
		}
		for sets := 24; sets <= 28; sets++ { // here a Both may be the one that is too many
			for _, open := range []string{"", "@c{"} {
				walk(t, open+odd+strings.Repeat("a=b;", sets), "a#0=;@{}x", 5, &n)
			}
		}
	}
	n.hold(t, 1000, api.ErrSyntax, api.ErrFull)
	n.hold(t, 20, api.OK)
}

// random gives numbers by a rule that is the same each time.
func random(seed uint32) func(below int) int {
	return func(below int) int {
		seed = seed*1664525 + 1013904223
		return int(seed>>8) % below
	}
}

// garden in which a program grows: now and then free nodes become parts of a new one, so that the order of nodes is any.
type garden struct {
	p             []api.Node
	values, deeds []int // free ones
	next          func(below int) int
}

func (g *garden) add(x api.Node) {
	if x.Kind <= api.Same {
		g.values = append(g.values, len(g.p))
	} else {
		g.deeds = append(g.deeds, len(g.p))
	}
	g.p = append(g.p, x)
}

func (g *garden) pick(of *[]int) int {
	i := g.next(len(*of))
	place := (*of)[i]
	*of = slices.Delete(*of, i, i+1)
	return place
}

func (g *garden) value() int { return g.pick(&g.values) }

func (g *garden) deed() int { return g.pick(&g.deeds) }

// grow a node, if there are parts for it.
func (g *garden) grow(kind int) {
	values, deeds := len(g.values), len(g.deeds)
	switch {
	case kind == api.Num:
		g.add(num([]int{0, 1, g.next(20), g.next(1_000_000), 999_999}[g.next(5)]))
	case kind == api.Var:
		g.add(vari(g.next(6)))
	case kind <= api.Same && values > 1:
		g.add(pair(kind, g.value(), g.value()))
	case kind == api.Skip && g.next(4) == 0:
		g.add(skip())
	case kind == api.Set && values > 0:
		g.add(set(g.next(6), g.value()))
	case kind == api.Both && deeds > 1:
		g.add(both(g.deed(), g.deed()))
	case kind == api.If && values > 0 && deeds > 1:
		g.add(choice(g.value(), g.deed(), g.deed()))
	case kind == api.While && values > 0 && deeds > 0:
		g.add(loop(g.value(), g.deed()))
	}
}

// hasRoom tells whether there may be more nodes when all free ones are brought together.
func (g *garden) hasRoom(most int) bool {
	return len(g.p)+2*len(g.values)+len(g.deeds)+2 < most
}

// gather all free ones into one deed.
func (g *garden) gather() []api.Node {
	for len(g.values) > 0 {
		g.add(set(g.next(6), g.value()))
	}
	if len(g.deeds) == 0 {
		g.add(skip())
	}
	for len(g.deeds) > 1 {
		g.add(both(g.deed(), g.deed()))
	}
	return g.p
}

// grown is a program of at most so many nodes.
func grown(most int, next func(below int) int) []api.Node {
	g := &garden{next: next}
	for g.hasRoom(most) && next(most) > 0 {
		g.grow(next(10))
	}
	return g.gather()
}

// wordy is a program of long numbers, nearly as many as may be.
func wordy(next func(below int) int) []api.Node {
	g := &garden{next: next}
	most := 76 + next(5)
	for g.hasRoom(most) {
		if len(g.values) > 1 {
			g.grow(api.Add + next(3))
		} else {
			g.add(num(100_000 + next(900_000)))
		}
	}
	return g.gather()
}

// litter what is not needed.
func litter(p []api.Node, next func(below int) int) {
	for i := range p {
		x := &p[i]
		abc := []*int{&x.A, &x.B, &x.C}
		if !strings.ContainsAny(forms[x.Kind], "n#") {
			abc = append(abc, &x.N)
		}
		for _, field := range abc[len(partsByForm(*x)):] {
			*field = next(200) - 60
		}
	}
}

// spoil one thing of a program, or nearly.
func spoil(p []api.Node, next func(below int) int) []api.Node {
	i := next(len(p))
	x := &p[i]
	switch next(8) {
	case 0:
		x.Kind = next(12) - 1
	case 1:
		x.N = []int{-1, 6, 999_999, 1_000_000}[next(4)]
	case 2:
		x.A = next(len(p)+2) - 1
	case 3:
		x.B = next(len(p)+2) - 1
	case 4:
		x.C = next(len(p)+2) - 1
	case 5:
		return slices.Delete(p, i, i+1)
	case 6:
		return slices.Insert(p, i, *x)
	case 7:
		k := next(len(p))
		p[i], p[k] = p[k], p[i]
	}
	return p
}

// holdProgram holds Check and Write against the forms.
func holdProgram(t *testing.T, p []api.Node, n *counts) {
	t.Helper()
	want, text := checkByForm(p), ""
	if got := plain.Told(Check(p)); got != want {
		t.Fatalf("Check(%v): got %v, want %v", p, got, want)
	}
	if want == api.OK {
		text = textByForm(p, len(p)-1)
	}
	if len(text) > 300 {
		want, text = api.ErrFull, ""
	}
	n[want]++
	got, err := Write(p)
	if plain.Told(err) != want || got != text {
		t.Fatalf("Write(%v): got %q, %v, want %q, %v", p, got, plain.Told(err), text, want)
	}
	if want == api.OK {
		holdText(t, text, new(counts))
	}
}

// nodes gives all nodes of some kinds and places.
func nodes(kinds, places []int) []api.Node {
	var all []api.Node
	for _, kind := range kinds {
		for _, a := range places {
			for _, b := range places {
				for _, c := range places {
					all = append(all, api.Node{Kind: kind, A: a, B: b, C: c})
				}
			}
		}
	}
	return all
}

// TestAllSmall: all programs of up to two nodes of nearly any kinds and places, and of three and four that begin with leaves.
func TestAllSmall(t *testing.T) {
	var n counts
	first := nodes([]int{-1, 0, 1, 2, 3, 4, 5, 6, 7, 8, 9, 10}, []int{-1, 0, 1, 2})
	for _, x := range first {
		holdProgram(t, list(x), &n)
		for _, y := range first {
			holdProgram(t, list(x, y), &n)
		}
	}
	leaves := list(num(0), vari(1), skip())
	inner := nodes([]int{0, 2, 5, 6, 7, 8, 9}, []int{0, 1, 2})
	for _, x := range leaves {
		for _, y := range inner {
			for _, z := range inner {
				holdProgram(t, list(x, y, z), &n)
				holdProgram(t, list(x, leaves[z.A], y, z), &n)
			}
		}
	}
	n.hold(t, 10_000, api.ErrRange, api.ErrShape)
	n.hold(t, 1000, api.OK)
}

// TestSomeGreat: programs of up to 80 nodes in any order, and these with a fault or two.
func TestSomeGreat(t *testing.T) {
	next := random(10)
	var right, spoilt counts
	for i := range 6000 {
		p := grown(2+next(79), next)
		if i%10 == 0 {
			p = wordy(next)
		}
		holdProgram(t, p, &right)
		litter(p, next)
		holdProgram(t, p, &right)
		for range 2 {
			if len(p) > 0 {
				p = spoil(p, next)
				holdProgram(t, p, &spoilt)
			}
		}
	}
	right.hold(t, 1000, api.OK)
	right.hold(t, 100, api.ErrFull)
	spoilt.hold(t, 500, api.OK, api.ErrRange, api.ErrShape)
	spoilt.hold(t, 100, api.ErrFull)
	if right[api.OK]+right[api.ErrFull] != 12_000 {
		t.Errorf("of the right ones came %v", right)
	}
}

// TestSomeTexts: texts of programs with a sign left out, put in, changed, or doubled.
func TestSomeTexts(t *testing.T) {
	next := random(11)
	var n counts
	for range 6000 {
		s, err := Write(grown(2+next(79), next))
		if err != nil || s == "" {
			continue
		}
		for range 8 {
			i, k := next(len(s)), next(len(s)+1)
			sign := string("abcdefg#0123456789+<=;?@{}"[next(26)])
			holdText(t, s[:i]+s[i+1:], &n)
			holdText(t, s[:i]+sign+s[i:], &n)
			holdText(t, s[:i]+sign+s[i+1:], &n)
			holdText(t, s[:max(i, k)]+s[min(i, k):], &n)
			holdText(t, s[:i], &n)
		}
	}
	n.hold(t, 1000, api.OK, api.ErrSyntax)
	n.hold(t, 50, api.ErrFull)
}

package take

import (
	"slices"
	"testing"

	"quietwing/api"
	"quietwing/plain"
)

// fact is one right of a vertex over another one.
type fact struct{ who, over, right int }

// trial is a graph by the words of the promises: it keeps facts.
type trial struct {
	verts int
	facts map[fact]bool
}

func newTrial(g [][]int) *trial {
	p := &trial{verts: len(g), facts: map[fact]bool{}}
	for who, row := range g {
		for over, rights := range row {
			p.get(who, over, rights)
		}
	}
	return p
}

func (p *trial) get(who, over, rights int) {
	for _, right := range []int{api.Take, api.Grant, api.Use} {
		if rights&right != 0 {
			p.facts[fact{who, over, right}] = true
		}
	}
}

func (p *trial) has(who, over, rights int) bool {
	for _, right := range []int{api.Take, api.Grant, api.Use} {
		if rights&right != 0 && !p.facts[fact{who, over, right}] {
			return false
		}
	}
	return true
}

func (p *trial) graph() [][]int {
	g := graph(p.verts)
	for f := range p.facts {
		g[f.who][f.over] += f.right
	}
	return g
}

func (p *trial) none(i int) bool { return i < 0 || i >= p.verts }

func (p *trial) step(s api.Step) api.Errno {
	if s.Kind != api.ByTake && s.Kind != api.ByGrant && s.Kind != api.ByNew || p.none(s.Who) {
		return api.ErrRange
	}
	if s.Kind == api.ByNew {
		if p.verts == 20 {
			return api.ErrFull
		}
		p.get(s.Who, p.verts, api.Take+api.Grant)
		p.verts++
		return api.OK
	}
	if p.none(s.Of) || p.none(s.To) || s.Rights < 1 || s.Rights > 7 {
		return api.ErrRange
	}
	if s.Kind == api.ByTake {
		if s.Who == s.To || !p.has(s.Who, s.Of, api.Take) || !p.has(s.Of, s.To, s.Rights) {
			return api.ErrDenied
		}
		p.get(s.Who, s.To, s.Rights)
		return api.OK
	}
	if s.Of == s.To || !p.has(s.Who, s.Of, api.Grant) || !p.has(s.Who, s.To, s.Rights) {
		return api.ErrDenied
	}
	p.get(s.Of, s.To, s.Rights)
	return api.OK
}

func (p *trial) linked(a, b int) bool {
	return p.has(a, b, api.Take) || p.has(a, b, api.Grant) || p.has(b, a, api.Take) || p.has(b, a, api.Grant)
}

// listed gives the first chain of so many vertices in the order of lists; nil, if there is none.
func (p *trial) listed(chain []int, size, right, over int) []int {
	at := chain[len(chain)-1]
	if len(chain) == size {
		if p.has(at, over, right) {
			return chain
		}
		return nil
	}
	for next := range p.verts {
		if p.linked(at, next) {
			if found := p.listed(append(slices.Clip(chain), next), size, right, over); found != nil {
				return found
			}
		}
	}
	return nil
}

// chain tries all lists, the shortest first.
func (p *trial) chain(right, who, over int) []int {
	for size := 1; size <= p.verts; size++ {
		if found := p.listed([]int{who}, size, right, over); found != nil {
			return found
		}
	}
	return nil
}

// farChain is for graphs in which there are too many lists: it goes down by how far it is yet.
func (p *trial) farChain(right, who, over int) []int {
	far := slices.Repeat([]int{99}, p.verts)
	for v := range far {
		if p.has(v, over, right) {
			far[v] = 0
		}
	}
	for range far {
		for f := range p.facts {
			if f.right != api.Use {
				far[f.who] = min(far[f.who], far[f.over]+1)
				far[f.over] = min(far[f.over], far[f.who]+1)
			}
		}
	}
	if far[who] >= 99 {
		return nil
	}
	chain := []int{who}
	for at := who; far[at] > 0; {
		next := 0
		for !p.linked(at, next) || far[next] != far[at]-1 {
			next++
		}
		at = next
		chain = append(chain, at)
	}
	return chain
}

// do steps as they are planned; a plan that does not go is at fault.
func (p *trial) do(t *testing.T, plan *[]api.Step, steps ...api.Step) {
	t.Helper()
	for _, s := range steps {
		*plan = append(*plan, s)
		if s.Kind == api.ByNew {
			// beyond the most of vertices it is asked at the end whether there is room
			p.get(s.Who, p.verts, 3)
			p.verts++
			continue
		}
		if got := p.step(s); got != api.OK {
			t.Fatalf("step %v of a plan: %v", s, got)
		}
	}
}

func (p *trial) pass(t *testing.T, plan *[]api.Step, rights, over, b, a int) {
	t.Helper()
	if p.has(a, b, api.Take) {
		p.do(t, plan, takes(a, b, over, rights))
		return
	}
	if p.has(b, a, api.Grant) {
		p.do(t, plan, grants(b, a, over, rights))
		return
	}
	w := p.verts
	give := grants(a, b, w, api.Grant)
	if p.has(b, a, api.Take) {
		give = takes(b, a, w, api.Grant)
	}
	p.do(t, plan, makes(a), give, grants(b, w, over, rights), takes(a, w, over, rights))
}

// plan follows a chain, and asks each time how things stand then.
func (p *trial) plan(t *testing.T, right, over int, chain []int) ([]api.Step, api.Errno) {
	t.Helper()
	var plan []api.Step
	for len(chain) > 1 {
		b, x := chain[len(chain)-1], chain[len(chain)-2]
		chain = chain[:len(chain)-1]
		if x != over {
			p.pass(t, &plan, right, over, b, x)
			continue
		}
		a, w := chain[len(chain)-2], p.verts
		p.do(t, &plan, makes(x))
		p.pass(t, &plan, 3, w, x, a)
		p.pass(t, &plan, 3, w, x, b)
		p.do(t, &plan, grants(b, w, over, right), takes(a, w, over, right))
		chain = chain[:len(chain)-1]
	}
	if p.verts > 20 || len(plan) > 60 {
		return nil, api.ErrFull
	}
	return plan, api.OK
}

// hold asks Can and Plan, and holds them against the trial; it tells what came of the plan, and whether its chain leads over the goal.
func hold(t *testing.T, g [][]int, right, who, over int, find func(p *trial, right, who, over int) []int) (api.Errno, bool) {
	t.Helper()
	p := newTrial(g)
	chain := find(p, right, who, over)
	is, err := Can(g, right, who, over)
	if err != nil || is != (chain != nil) {
		t.Fatalf("%v: Can %d, %d, %d: got %v, %v, want %v", g, right, who, over, is, err, chain)
	}
	var want []api.Step
	wantErr := api.ErrNone
	if chain != nil {
		want, wantErr = p.plan(t, right, over, chain)
	}
	got, err := Plan(g, right, who, over)
	if !slices.Equal(got, want) || plain.Told(err) != wantErr {
		t.Fatalf("%v: Plan %d, %d, %d: got %v, %v, want %v, %v", g, right, who, over, got, err, want, wantErr)
	}
	if wantErr == api.OK {
		h, _, err := Play(g, got)
		if err != nil || h[who][over]&right == 0 || !same(h, p.graph()) {
			t.Fatalf("%v: the plan %v brings %v, %v, want %v", g, got, h, err, p.graph())
		}
	}
	return wantErr, slices.Contains(chain, over)
}

// closed gives all rights to which anybody can come, if each vertex makes a new one, so many times. More new ones of the same maker bring no more: all that they do one does.
func closed(g [][]int, times int) [][]int {
	verts := len(g) << times
	h := graph(verts)
	for i, row := range g {
		copy(h[i], row)
	}
	for i := len(g); i < verts; i++ {
		size := len(g)
		for 2*size <= i {
			size *= 2
		}
		h[i-size][i] = api.Take | api.Grant
	}
	for more := true; more; {
		more = false
		for a := range h {
			for b, rights := range h[a] {
				more = rights&api.Take != 0 && flow(h, b, a) || more
				more = rights&api.Grant != 0 && flow(h, a, b) || more
			}
		}
	}
	return h
}

// flow brings all rights of one vertex to another one, but for those over that itself.
func flow(h [][]int, from, to int) (more bool) {
	for over, rights := range h[from] {
		if over != to && h[to][over]|rights != h[to][over] {
			h[to][over] |= rights
			more = true
		}
	}
	return more
}

// small gives one of the graphs of three vertices.
func small(n int) [][]int {
	return [][]int{{0, n & 7, n >> 3 & 7}, {n >> 6 & 7, 0, n >> 9 & 7}, {n >> 12 & 7, n >> 15 & 7, 0}}
}

// TestNoOtherWay: in all graphs of three vertices who can come to a right is who comes to it by any steps at all.
func TestNoOtherWay(t *testing.T) {
	for n := range 1 << 18 {
		g := small(n)
		times := 1
		if n%37 == 0 {
			times = 2
		}
		h := closed(g, times)
		for i := range 18 {
			right, who, over := 1<<(i/6), i%6/2, (i%6/2+1+i%2)%3
			is, err := Can(g, right, who, over)
			if want := h[who][over]&right != 0; err != nil || is != want {
				t.Fatalf("%v: %d, %d, %d: got %v, %v, want %v", g, right, who, over, is, err, want)
			}
		}
	}
}

// TestPlanSmall: in many graphs of three vertices all that can be asked.
func TestPlanSmall(t *testing.T) {
	for n := 0; n < 1<<18; n += 13 {
		g := small(n)
		for i := range 18 {
			hold(t, g, 1<<(i/6), i%6/2, (i%6/2+1+i%2)%3, (*trial).chain)
		}
	}
}

// TestSomeGreat: graphs of up to 20 vertices, with few links and many, by a rule that is the same each time.
func TestSomeGreat(t *testing.T) {
	seed := uint32(7)
	next := func(below int) int {
		seed = seed*1664525 + 1013904223
		return int(seed>>8) % below
	}
	var all [9]int
	round := 0
	for range 6000 {
		// mostly great ones, in which there is little room for new vertices
		verts := 20 - next(19)*next(2)
		g := graph(verts)
		for range verts/2 + next(2*verts) {
			a, b := next(verts), next(verts)
			if a != b {
				g[a][b] |= []int{0, 1, 2, 3, 4, 1, 2, 2}[next(8)]
			}
		}
		who := next(verts)
		over := (who + 1 + next(verts-1)) % verts
		for _, right := range []int{api.Take, api.Grant, api.Use} {
			told, isRound := hold(t, g, right, who, over, (*trial).farChain)
			all[told]++
			if isRound && told == api.OK {
				round++
			}
		}
	}
	for _, want := range []api.Errno{api.OK, api.ErrNone, api.ErrFull} {
		if all[want] < 500 {
			t.Errorf("only %d times %v: the graphs try too little", all[want], want)
		}
	}
	if round < 300 {
		t.Errorf("only %d times round the goal: the graphs try too little", round)
	}
}

// TestPlaySome: runs of steps, right and wrong ones, by a rule that is the same each time.
func TestPlaySome(t *testing.T) {
	seed := uint32(77)
	next := func(below int) int {
		seed = seed*1664525 + 1013904223
		return int(seed>>8) % below
	}
	var all [9]int
	for range 1500 {
		verts := 20 - next(20)*next(2)
		g := graph(verts)
		for range next(6 * verts) {
			if a, b := next(verts), next(verts); a != b {
				g[a][b] = next(8)
			}
		}
		p := newTrial(g)
		var steps []api.Step
		for len(steps) < 60 {
			s := api.Step{Kind: next(40) / 19, Who: next(p.verts), Of: next(p.verts), To: next(p.verts), Rights: 1 + next(7)}
			switch next(60) {
			case 0:
				s.Kind = 3 - 4*next(2)
			case 1:
				s.Who = next(2)*(p.verts+1) - 1
			case 2:
				s.Of = next(2)*(p.verts+1) - 1
			case 3:
				s.To = next(2)*(p.verts+1) - 1
			case 4:
				s.Rights = 8 * next(2)
			}
			want := p.step(s)
			all[want]++
			h, at, err := Play(g, append(steps, s))
			if want == api.OK {
				steps = append(steps, s)
				if err != nil || at != 0 || !same(h, p.graph()) {
					t.Fatalf("%v, %v: got %v, %d, %v, want %v", g, steps, h, at, err, p.graph())
				}
				continue
			}
			if plain.Told(err) != want || at != len(steps) || h != nil {
				t.Fatalf("%v, %v, at %v: got %v, %d, %v, want %v", g, steps, s, h, at, err, want)
			}
			if next(20) == 0 {
				break
			}
		}
	}
	for _, want := range []api.Errno{api.OK, api.ErrRange, api.ErrDenied, api.ErrFull} {
		if all[want] < 300 {
			t.Errorf("only %d times %v: the runs try too little", all[want], want)
		}
	}
}

package take

import "quietwing/api"

// planner lays steps one behind the other.
//
// It asks the graph as it was at first, since no step changes how two vertices of the chain are linked while they matter: steps bring rights over new vertices, and over the goal alone; and where the goal itself is in the chain, who has Take or Grant over it at first is linked with it, so that such a right comes to nobody before the chain is past it.
type planner struct {
	g     [][]int
	steps []api.Step
	verts int // also beyond what may be: that is asked at the end
}

// bring a right down a chain, from its last vertex to its first one.
func (p *planner) bring(right, over int, chain []int) {
	for i := len(chain) - 1; i > 0; i-- {
		if chain[i-1] != over {
			p.pass(right, over, chain[i], chain[i-1])
			continue
		}
		// nobody has a right over itself, so it skips one; that is never the first, which is another one
		p.passRound(right, over, chain[i], chain[i-2])
		i--
	}
}

// pass rights over a vertex from b to a, which are linked.
func (p *planner) pass(rights, over, b, a int) {
	switch {
	case has(p.g[a][b], api.Take):
		p.take(a, b, over, rights)
	case has(p.g[b][a], api.Grant):
		p.grant(b, a, over, rights)
	default:
		w := p.create(a)
		if has(p.g[b][a], api.Take) {
			p.take(b, a, w, api.Grant)
		} else {
			p.grant(a, b, w, api.Grant)
		}
		p.passBy(w, rights, over, b, a)
	}
}

// passRound passes a right over a vertex from b to a, both of which are linked with that vertex.
func (p *planner) passRound(right, over, b, a int) {
	w := p.create(over)
	p.pass(api.Take|api.Grant, w, over, a)
	p.pass(api.Take|api.Grant, w, over, b)
	p.passBy(w, right, over, b, a)
}

// passBy a vertex over which b has Grant and a has Take.
func (p *planner) passBy(w, rights, over, b, a int) {
	p.grant(b, w, over, rights)
	p.take(a, w, over, rights)
}

func (p *planner) take(who, from, over, rights int) {
	p.steps = append(p.steps, api.Step{Kind: api.ByTake, Who: who, Of: from, To: over, Rights: rights})
}

func (p *planner) grant(who, to, over, rights int) {
	p.steps = append(p.steps, api.Step{Kind: api.ByGrant, Who: who, Of: to, To: over, Rights: rights})
}

// create a vertex, and tell its number.
func (p *planner) create(who int) int {
	p.steps = append(p.steps, api.Step{Kind: api.ByNew, Who: who})
	p.verts++
	return p.verts - 1
}

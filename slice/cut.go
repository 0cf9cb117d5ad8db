package slice

import (
	"quietwing/api"
)

// cutter puts together what is kept.
type cutter struct {
	*finder
	out []api.Node
}

// deed i, or a Skip in its place; told is where it stands now.
func (c *cutter) deed(i int) int {
	if !c.kept(i) {
		return c.put(api.Node{Kind: api.Skip})
	}
	return c.node(i)
}

// node i is a value, or a deed of which something is kept; told is where it stands now.
func (c *cutter) node(i int) int {
	x := c.p[i]
	switch x.Kind {
	case api.Add, api.Less, api.Same:
		x.A, x.B = c.node(x.A), c.node(x.B)
	case api.Set:
		x.A = c.node(x.A)
	case api.Both:
		return c.both(x)
	case api.If:
		x = api.Node{Kind: api.If, A: c.node(x.A), B: c.deed(x.B), C: c.deed(x.C)}
	case api.While:
		x = api.Node{Kind: api.While, A: c.node(x.A), B: c.deed(x.B)}
	}
	return c.put(x)
}

func (c *cutter) both(x api.Node) int {
	if !c.kept(x.A) {
		return c.node(x.B)
	}
	if !c.kept(x.B) {
		return c.node(x.A)
	}
	return c.put(api.Node{Kind: api.Both, A: c.node(x.A), B: c.node(x.B)})
}

// put a node behind all, and tell where.
func (c *cutter) put(x api.Node) int {
	c.out = append(c.out, x)
	return len(c.out) - 1
}

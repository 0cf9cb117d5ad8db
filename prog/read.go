package prog

import (
	"strconv"
	"strings"

	"quietwing/api"
)

// Read a program from its text.
func Read(s string) (p []api.Node, err error) {
	if len(s) > api.MaxText {
		return nil, api.ErrFull
	}
	defer func() {
		switch thrown := recover().(type) {
		case nil:
		case error: // were it not the reader's own it would be told as it is, and not as a fault of the text
			err = thrown
		}
	}()
	r := &reader{left: s}
	r.deeds(end)
	return r.p, nil
}

// end is met behind the last sign. It is no byte, since a text may hold any.
const end = -1

// reader of what is left of a text. It throws what is wrong, as an api.Errno.
type reader struct {
	left string
	p    []api.Node
}

// add a node, of which all was read, and tell its place.
func (r *reader) add(x api.Node) int {
	if len(r.p) == api.MaxNodes {
		panic(api.ErrFull)
	}
	r.p = append(r.p, x)
	return len(r.p) - 1
}

func (r *reader) peek() int {
	if r.left == "" {
		return end
	}
	return int(r.left[0])
}

func (r *reader) next() int {
	sign := r.peek()
	if sign != end {
		r.left = r.left[1:]
	}
	return sign
}

func (r *reader) need(sign int) {
	if r.next() != sign {
		panic(api.ErrSyntax)
	}
}

// deeds as far as a stop, which is left there. Only there it is sure that none follows, so a Skip and each Both come then.
func (r *reader) deeds(stop int) int {
	if r.peek() == stop {
		return r.add(api.Node{Kind: api.Skip})
	}
	return r.someDeeds(stop)
}

func (r *reader) someDeeds(stop int) int {
	first := r.deed()
	if r.peek() == stop {
		return first
	}
	return r.add(api.Node{Kind: api.Both, A: first, B: r.someDeeds(stop)})
}

func (r *reader) deed() int {
	switch sign := r.next(); sign {
	case '?':
		return r.add(api.Node{Kind: api.If, A: r.value(), B: r.braced(), C: r.braced()})
	case '@':
		return r.add(api.Node{Kind: api.While, A: r.value(), B: r.braced()})
	default:
		return r.set(variable(sign))
	}
}

func (r *reader) set(n int) int {
	r.need('=')
	a := r.value()
	r.need(';')
	return r.add(api.Node{Kind: api.Set, N: n, A: a})
}

func (r *reader) braced() int {
	r.need('{')
	deed := r.deeds('}')
	r.need('}')
	return deed
}

func (r *reader) value() int {
	switch sign := r.next(); sign {
	case '#':
		return r.add(api.Node{Kind: api.Num, N: r.number()})
	case '+':
		return r.pair(api.Add)
	case '<':
		return r.pair(api.Less)
	case '=':
		return r.pair(api.Same)
	default:
		return r.add(api.Node{Kind: api.Var, N: variable(sign)})
	}
}

func (r *reader) pair(kind int) int {
	return r.add(api.Node{Kind: kind, A: r.value(), B: r.value()})
}

// number of all digits that are next.
func (r *reader) number() int {
	behind := strings.TrimLeft(r.left, "0123456789")
	text := r.left[:len(r.left)-len(behind)]
	r.left = behind
	n, err := strconv.Atoi(text)
	// written again it is the same, if no 0 is needless
	if err != nil || n > api.MaxValue || strconv.Itoa(n) != text {
		panic(api.ErrSyntax)
	}
	return n
}

// variable of which a sign is the letter.
func variable(sign int) int {
	n := sign - 'a'
	if !isVar(n) {
		panic(api.ErrSyntax)
	}
	return n
}

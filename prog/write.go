package prog

import (
	"strconv"
	"strings"

	"quietwing/api"
)

// Write a program as a text.
func Write(p []api.Node) (string, error) {
	if err := Check(p); err != nil {
		return "", err
	}
	w := &writer{p: p}
	w.node(len(p) - 1)
	if w.Len() > api.MaxText {
		return "", api.ErrFull
	}
	return w.String(), nil
}

// writer of a program that was checked.
type writer struct {
	strings.Builder
	p []api.Node
}

// node is written with all its parts; of a Skip there is nothing to write.
func (w *writer) node(i int) {
	x := w.p[i]
	switch x.Kind {
	case api.Num:
		w.WriteString("#" + strconv.Itoa(x.N))
	case api.Var:
		w.letter(x.N)
	case api.Add:
		w.pair("+", x)
	case api.Less:
		w.pair("<", x)
	case api.Same:
		w.pair("=", x)
	case api.Set:
		w.letter(x.N)
		w.WriteByte('=')
		w.node(x.A)
		w.WriteByte(';')
	case api.Both:
		w.pair("", x)
	case api.If:
		w.WriteByte('?')
		w.node(x.A)
		w.braced(x.B)
		w.braced(x.C)
	case api.While:
		w.WriteByte('@')
		w.node(x.A)
		w.braced(x.B)
	}
}

func (w *writer) letter(n int) { w.WriteByte(byte('a' + n)) }

func (w *writer) pair(sign string, x api.Node) {
	w.WriteString(sign)
	w.node(x.A)
	w.node(x.B)
}

func (w *writer) braced(deed int) {
	w.WriteByte('{')
	w.node(deed)
	w.WriteByte('}')
}

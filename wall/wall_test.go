package wall

import (
	"math"
	"slices"
	"testing"

	"quietwing/api"
	"quietwing/plain"
)

func told(t *testing.T, what string, err error, want api.Errno) {
	t.Helper()
	if got := plain.Told(err); got != want {
		t.Errorf("%s: got %v, want %v", what, got, want)
	}
}

func made(t *testing.T, users int, trades []int) *Wall {
	t.Helper()
	w, err := New(users, trades)
	if err != nil || w == nil {
		t.Fatalf("New(%d, %v): got %v, %v", users, trades, w, err)
	}
	return w
}

// asked is an ask, and what is to come of it.
type asked struct {
	kind, user, firm int
	want             api.Errno
}

func askAll(t *testing.T, w *Wall, asks []asked) {
	t.Helper()
	for i, a := range asks {
		err := w.Ask(api.Ask{Kind: a.kind, User: a.user, File: a.firm})
		if got := plain.Told(err); got != a.want {
			t.Fatalf("ask %d, %v: got %v, want %v", i, a, got, a.want)
		}
	}
}

func holdSets(t *testing.T, w *Wall, saw, holds []int) {
	t.Helper()
	for i, want := range saw {
		if got := w.Saw(i); got != want {
			t.Errorf("user %d: got %b, want %b", i, got, want)
		}
	}
	for i, want := range holds {
		if got := w.Holds(i); got != want {
			t.Errorf("firm %d: got %b, want %b", i, got, want)
		}
	}
}

// trades gives so many of the greatest one, and behind them those that are named.
func trades(n int, more ...int) []int {
	return append(slices.Repeat([]int{7}, n), more...)
}

func TestNewWrong(t *testing.T) {
	for _, c := range []struct {
		name   string
		users  int
		trades []int
		want   api.Errno
	}{
		{"a user too many", 9, trades(1), api.ErrRange},
		{"fewer than no users", -1, trades(1), api.ErrRange},
		{"the most of users", math.MaxInt, nil, api.ErrRange},
		{"the least of users", math.MinInt, nil, api.ErrRange},
		{"only the users' low bits are right", 1 << 32, trades(1), api.ErrRange},
		{"a firm too many", 8, trades(9), api.ErrFull},
		{"far too many firms", 1, trades(1000), api.ErrFull},
		{"a firm too many, no users", 0, trades(9), api.ErrFull},
		{"a user and a firm too many", 9, trades(9), api.ErrRange},
		{"fewer than no users, a firm too many", -1, trades(9), api.ErrRange},
		{"a firm too many, and above", 1, trades(8, 8), api.ErrFull},
		{"a firm too many, and the first below", 1, append([]int{-1}, trades(8)...), api.ErrFull},
		{"first trade above", 1, []int{8, 0}, api.ErrRange},
		{"first trade below", 1, []int{-1, 0}, api.ErrRange},
		{"last trade above", 1, trades(7, 8), api.ErrRange},
		{"last trade below", 1, trades(7, -1), api.ErrRange},
		{"the least trade, no users", 0, []int{math.MinInt}, api.ErrRange},
		{"the greatest trade, no users", 0, []int{math.MaxInt}, api.ErrRange},
		{"only the trade's low bits are right", 1, []int{1 << 32}, api.ErrRange},
	} {
		w, err := New(c.users, c.trades)
		told(t, c.name, err, c.want)
		if w != nil {
			t.Errorf("%s: a wall beside the error", c.name)
		}
	}
}

// TestNewRight: at first nobody saw anything, and each firm's files hold something of itself.
func TestNewRight(t *testing.T) {
	all := []int{0, 1, 2, 3, 4, 5, 6, 7}
	itself := []int{1, 2, 4, 8, 16, 32, 64, 128}
	for users := range 9 {
		for firms := range 9 {
			w := made(t, users, all[8-firms:])
			holdSets(t, w, make([]int, users), itself[:firms])
			holdNone(t, w, users, firms)
		}
	}
	holdNone(t, made(t, 0, []int{}), 0, 0)
}

// holdNone: who is none saw and holds nothing, and cannot be asked for.
func holdNone(t *testing.T, w *Wall, users, firms int) {
	t.Helper()
	for _, i := range []int{math.MinInt, -64, -1, 8, 63, 64, 1 << 32, math.MaxInt} {
		if w.Saw(i) != 0 || w.Holds(i) != 0 {
			t.Errorf("%d: got %b, %b", i, w.Saw(i), w.Holds(i))
		}
	}
	if w.Saw(users) != 0 || w.Holds(firms) != 0 {
		t.Errorf("one behind the last: got %b, %b", w.Saw(users), w.Holds(firms))
	}
	for kind := range 4 {
		askAll(t, w, []asked{{kind, users, 0, api.ErrRange}, {kind, 0, firms, api.ErrRange}})
	}
}

func TestAskWrong(t *testing.T) {
	w := made(t, 2, []int{1, 1, 0})
	askAll(t, w, []asked{{api.Read, 0, 0, api.OK}})
	for _, kind := range []int{math.MinInt, -1, api.Drop, api.Copy, 4, 1 << 32, math.MaxInt} {
		for user := range 2 {
			for firm := range 3 {
				// also where a read or a write would be denied
				askAll(t, w, []asked{{kind, user, firm, api.ErrRange}})
			}
		}
	}
	for _, bad := range []int{math.MinInt, -1, 3, 8, 64, 1 << 32, math.MaxInt} {
		for kind := range 2 {
			askAll(t, w, []asked{{kind, bad, 0, api.ErrRange}, {kind, bad, 1, api.ErrRange}, {kind, 0, bad, api.ErrRange}, {kind, bad, bad, api.ErrRange}})
		}
	}
	askAll(t, w, []asked{{api.Read, 2, 0, api.ErrRange}, {api.Write, 2, 0, api.ErrRange}})
	holdSets(t, w, []int{1, 0}, []int{1, 2, 4})
}

// TestToDoesNotCount: whatever stands there, neither kind asks it.
func TestToDoesNotCount(t *testing.T) {
	for _, to := range []int{math.MinInt, -1, 0, 1, 2, 64, math.MaxInt} {
		w := made(t, 1, []int{0, 3})
		told(t, "read", w.Ask(api.Ask{Kind: api.Read, File: 0, To: to}), api.OK)
		told(t, "write", w.Ask(api.Ask{Kind: api.Write, File: 1, To: to}), api.OK)
		holdSets(t, w, []int{1}, []int{1, 3})
	}
}

// TestEachTwo: a firm of any trade is seen, and another one of any trade is read or written.
func TestEachTwo(t *testing.T) {
	for first := range 8 {
		for second := range 8 {
			read, write, saw, holds := api.OK, api.OK, 3, 3
			if first == second && first != 0 {
				read, saw = api.ErrDenied, 1
			}
			if first != 0 {
				write, holds = api.ErrDenied, 2
			}
			w := made(t, 1, []int{first, second})
			askAll(t, w, []asked{{api.Read, 0, 0, api.OK}, {api.Write, 0, 1, write}})
			holdSets(t, w, []int{1}, []int{1, holds})
			askAll(t, w, []asked{{api.Read, 0, 1, read}})
			holdSets(t, w, []int{saw}, []int{1, holds})
		}
	}
}

// TestOneFirm: it is no rival of itself, however often it is read and written.
func TestOneFirm(t *testing.T) {
	for trade := range 8 {
		w := made(t, 1, []int{trade})
		askAll(t, w, []asked{{api.Write, 0, 0, api.OK}})
		holdSets(t, w, []int{0}, []int{1})
		askAll(t, w, []asked{{api.Read, 0, 0, api.OK}, {api.Read, 0, 0, api.OK}, {api.Write, 0, 0, api.OK}, {api.Write, 0, 0, api.OK}})
		holdSets(t, w, []int{1}, []int{1})
	}
}

// TestRivals: one user is kept from them, and another one chooses anew.
func TestRivals(t *testing.T) {
	w := made(t, 2, []int{4, 4, 4, 2, 2, 0})
	askAll(t, w, []asked{
		{api.Read, 0, 1, api.OK}, {api.Read, 0, 0, api.ErrDenied}, {api.Read, 0, 2, api.ErrDenied},
		{api.Read, 0, 4, api.OK}, {api.Read, 0, 3, api.ErrDenied}, {api.Read, 0, 5, api.OK}, {api.Read, 0, 1, api.OK},
		{api.Read, 1, 2, api.OK}, {api.Read, 1, 1, api.ErrDenied}, {api.Read, 1, 3, api.OK},
	})
	holdSets(t, w, []int{0b110010, 0b001100}, []int{1, 2, 4, 8, 16, 32})
}

// TestWritingSeesNothing: who writes a firm may see its rival yet, and write that, too.
func TestWritingSeesNothing(t *testing.T) {
	w := made(t, 1, []int{5, 5, 6})
	askAll(t, w, []asked{{api.Write, 0, 0, api.OK}, {api.Write, 0, 1, api.OK}, {api.Write, 0, 2, api.OK}, {api.Read, 0, 1, api.OK}})
	holdSets(t, w, []int{2}, []int{1, 2, 4})
	askAll(t, w, []asked{{api.Write, 0, 1, api.OK}, {api.Write, 0, 0, api.ErrDenied}, {api.Write, 0, 2, api.ErrDenied}})
	holdSets(t, w, []int{2}, []int{1, 2, 4})
}

// TestWriteShut: by any closed firm that was seen beside the one that is written, be it of another trade, and not by the open ones.
func TestWriteShut(t *testing.T) {
	w := made(t, 1, []int{0, 1, 2, 0})
	askAll(t, w, []asked{{api.Read, 0, 0, api.OK}, {api.Read, 0, 3, api.OK}, {api.Write, 0, 1, api.OK}, {api.Write, 0, 0, api.OK}})
	holdSets(t, w, []int{0b1001}, []int{0b1001, 0b1011, 4, 8})
	askAll(t, w, []asked{
		{api.Read, 0, 2, api.OK},
		{api.Write, 0, 0, api.ErrDenied}, {api.Write, 0, 1, api.ErrDenied}, {api.Write, 0, 3, api.ErrDenied}, {api.Write, 0, 2, api.OK},
	})
	holdSets(t, w, []int{0b1101}, []int{0b1001, 0b1011, 0b1101, 8})
	askAll(t, w, []asked{{api.Read, 0, 1, api.OK}, {api.Write, 0, 2, api.ErrDenied}, {api.Write, 0, 1, api.ErrDenied}})
	holdSets(t, w, []int{0b1111}, []int{0b1001, 0b1011, 0b1101, 8})
}

// TestHoldsAreHandedOn: from firm to firm, and as they stand when the write is asked, also where the reading was before; a write does not reach on into firms that were written before.
func TestHoldsAreHandedOn(t *testing.T) {
	w := made(t, 2, []int{0, 0, 0, 3})
	askAll(t, w, []asked{
		{api.Read, 0, 1, api.OK}, {api.Write, 0, 2, api.OK},
		{api.Read, 1, 0, api.OK}, {api.Write, 1, 1, api.OK},
	})
	holdSets(t, w, []int{2, 1}, []int{1, 3, 6, 8})
	askAll(t, w, []asked{{api.Write, 0, 3, api.OK}})
	holdSets(t, w, []int{2, 1}, []int{1, 3, 6, 11})
	askAll(t, w, []asked{{api.Read, 1, 2, api.OK}, {api.Write, 1, 0, api.OK}})
	holdSets(t, w, []int{2, 5}, []int{7, 3, 6, 11})
}

// TestNothingIsKept: what is handed in is neither written nor asked again, and walls do not hear of each other.
func TestNothingIsKept(t *testing.T) {
	memory := []int{0, 4, 4, -9}
	want := slices.Clone(memory)
	w, other := made(t, 1, memory[:3]), made(t, 1, memory[:3])
	asks := []asked{{api.Read, 0, 0, api.OK}, {api.Write, 0, 1, api.OK}, {api.Read, 0, 1, api.OK}, {api.Read, 0, 2, api.ErrDenied}, {api.Write, 0, 0, api.ErrDenied}}
	askAll(t, w, asks)
	if !slices.Equal(memory, want) {
		t.Fatalf("what was handed in is %v now", memory)
	}
	holdSets(t, other, []int{0}, []int{1, 2, 4})
	clear(memory)
	askAll(t, other, asks)
	holdSets(t, w, []int{3}, []int{1, 3, 4})
	holdSets(t, other, []int{3}, []int{1, 3, 4})
}

package biba

import (
	"math"
	"slices"
	"testing"

	"quietwing/api"
	"quietwing/plain"
)

func told(t *testing.T, what string, err error, want api.Errno) {
	t.Helper()
	if got := plain.Told(err); got != want {
		t.Errorf("%s: got %v, want %v", what, got, want)
	}
}

func made(t *testing.T, users, files []int) *Monitor {
	t.Helper()
	m, err := New(users, files)
	if err != nil || m == nil {
		t.Fatalf("New(%v, %v): got %v, %v", users, files, m, err)
	}
	return m
}

// asked is an ask, and what is to come of it.
type asked struct {
	kind, user, file int
	want             api.Errno
}

func askAll(t *testing.T, m *Monitor, asks []asked) {
	t.Helper()
	for i, a := range asks {
		err := m.Ask(api.Ask{Kind: a.kind, User: a.user, File: a.file})
		if got := plain.Told(err); got != a.want {
			t.Fatalf("ask %d, %v: got %v, want %v", i, a, got, a.want)
		}
	}
}

func holdLevels(t *testing.T, m *Monitor, levels, worst []int) {
	t.Helper()
	for i, want := range levels {
		if got := m.Level(i); got != want {
			t.Errorf("user %d: got %d, want %d", i, got, want)
		}
	}
	for i, want := range worst {
		if got := m.Worst(i); got != want {
			t.Errorf("file %d: got %d, want %d", i, got, want)
		}
	}
}

// levels gives so many of the greatest one, and behind them those that are named.
func levels(n int, more ...int) []int {
	return append(slices.Repeat([]int{7}, n), more...)
}

func TestNewWrong(t *testing.T) {
	good := levels(1)
	for _, c := range []struct {
		name         string
		users, files []int
		want         api.Errno
	}{
		{"a user too many", levels(9), good, api.ErrFull},
		{"a file too many", good, levels(9), api.ErrFull},
		{"far too many", levels(1000), levels(1000), api.ErrFull},
		{"a user too many, and wrong", levels(8, -1), nil, api.ErrFull},
		{"a file too many, and wrong", nil, levels(8, 8), api.ErrFull},
		{"a wrong user, and a file too many", levels(7, 8), levels(9), api.ErrRange},
		{"a user too many, and a wrong file", levels(9), []int{8}, api.ErrFull},
		{"first user above", []int{8, 0}, good, api.ErrRange},
		{"first user below", []int{-1, 0}, good, api.ErrRange},
		{"last user above", levels(7, 8), good, api.ErrRange},
		{"last user below", levels(7, -1), good, api.ErrRange},
		{"first file above", good, []int{8, 0}, api.ErrRange},
		{"first file below", good, []int{-1, 0}, api.ErrRange},
		{"last file above", good, levels(7, 8), api.ErrRange},
		{"last file below", good, levels(7, -1), api.ErrRange},
		{"wrong files, no users", nil, []int{math.MinInt}, api.ErrRange},
		{"wrong users, no files", []int{math.MaxInt}, nil, api.ErrRange},
		{"only the low bits are right", []int{1 << 32}, []int{1 << 32}, api.ErrRange},
	} {
		m, err := New(c.users, c.files)
		told(t, c.name, err, c.want)
		if m != nil {
			t.Errorf("%s: a monitor beside the error", c.name)
		}
	}
}

// TestNewRight: at first all are of their levels, whatever these are and however many there are.
func TestNewRight(t *testing.T) {
	all := []int{0, 1, 2, 3, 4, 5, 6, 7}
	for users := range 9 {
		for files := range 9 {
			m := made(t, all[:users], all[8-files:])
			holdLevels(t, m, all[:users], all[8-files:])
			holdNone(t, m, users, files)
		}
	}
	holdNone(t, made(t, []int{}, []int{}), 0, 0)
}

// holdNone: who is none has no level, and cannot be asked for.
func holdNone(t *testing.T, m *Monitor, users, files int) {
	t.Helper()
	for _, i := range []int{math.MinInt, -64, -1, 8, 63, 64, 1 << 32, math.MaxInt} {
		if m.Level(i) != -1 || m.Worst(i) != -1 {
			t.Errorf("%d: got %d, %d", i, m.Level(i), m.Worst(i))
		}
	}
	if m.Level(users) != -1 || m.Worst(files) != -1 {
		t.Errorf("one behind the last: got %d, %d", m.Level(users), m.Worst(files))
	}
	for kind := range 4 {
		askAll(t, m, []asked{{kind, users, 0, api.ErrRange}, {kind, 0, files, api.ErrRange}})
	}
}

func TestAskWrong(t *testing.T) {
	m := made(t, []int{5, 3}, []int{0, 4, 6})
	for _, kind := range []int{math.MinInt, -1, api.Drop, api.Copy, 4, 1 << 32, math.MaxInt} {
		for user := range 2 {
			for file := range 3 {
				askAll(t, m, []asked{{kind, user, file, api.ErrRange}})
			}
		}
	}
	for _, bad := range []int{math.MinInt, -1, 3, 8, 64, 1 << 32, math.MaxInt} {
		for kind := range 2 {
			// out of range stands ahead of what is denied
			askAll(t, m, []asked{{kind, bad, 0, api.ErrRange}, {kind, bad, 2, api.ErrRange}, {kind, 0, bad, api.ErrRange}, {kind, bad, bad, api.ErrRange}})
		}
	}
	askAll(t, m, []asked{{api.Read, 2, 0, api.ErrRange}, {api.Write, 2, 0, api.ErrRange}})
	holdLevels(t, m, []int{5, 3}, []int{0, 4, 6})
}

// TestToDoesNotCount: whatever stands there, neither kind asks it.
func TestToDoesNotCount(t *testing.T) {
	for _, to := range []int{math.MinInt, -1, 0, 1, 2, 64, math.MaxInt} {
		m := made(t, []int{5}, []int{2, 5})
		told(t, "write", m.Ask(api.Ask{Kind: api.Write, File: 1, To: to}), api.OK)
		told(t, "read", m.Ask(api.Ask{Kind: api.Read, File: 0, To: to}), api.OK)
		holdLevels(t, m, []int{2}, []int{2, 5})
	}
}

// TestEachTwo: any level of a user and of a file, read and written.
func TestEachTwo(t *testing.T) {
	for user := range 8 {
		for file := range 8 {
			write := api.OK
			if file > user {
				write = api.ErrDenied
			}
			m := made(t, []int{user}, []int{file})
			askAll(t, m, []asked{{api.Write, 0, 0, write}})
			holdLevels(t, m, []int{user}, []int{file})
			askAll(t, m, []asked{{api.Read, 0, 0, api.OK}})
			holdLevels(t, m, []int{min(user, file)}, []int{file})
			// who sank to the file's level may write it yet
			askAll(t, m, []asked{{api.Write, 0, 0, write}})
			holdLevels(t, m, []int{min(user, file)}, []int{file})
		}
	}
}

// TestSinks: by each lower file that is read, never up again, and the others' levels stay.
func TestSinks(t *testing.T) {
	m := made(t, []int{7, 7}, []int{7, 5, 2, 0})
	askAll(t, m, []asked{{api.Read, 0, 0, api.OK}, {api.Write, 0, 0, api.OK}, {api.Read, 0, 1, api.OK}})
	holdLevels(t, m, []int{5, 7}, []int{7, 5, 2, 0})
	askAll(t, m, []asked{{api.Write, 0, 0, api.ErrDenied}, {api.Write, 0, 1, api.OK}, {api.Write, 0, 2, api.OK}, {api.Read, 0, 0, api.OK}})
	holdLevels(t, m, []int{5, 7}, []int{7, 5, 2, 0})
	askAll(t, m, []asked{{api.Read, 0, 3, api.OK}, {api.Read, 0, 1, api.OK}})
	holdLevels(t, m, []int{0, 7}, []int{7, 5, 2, 0})
	askAll(t, m, []asked{
		{api.Write, 0, 0, api.ErrDenied}, {api.Write, 0, 1, api.ErrDenied}, {api.Write, 0, 2, api.ErrDenied}, {api.Write, 0, 3, api.OK},
		{api.Write, 1, 0, api.OK}, {api.Write, 1, 3, api.OK},
	})
	holdLevels(t, m, []int{0, 7}, []int{7, 5, 2, 0})
}

// TestWritingDoesNotSink: who writes a lower file heard nothing of it.
func TestWritingDoesNotSink(t *testing.T) {
	m := made(t, []int{6}, []int{0, 6})
	askAll(t, m, []asked{{api.Write, 0, 0, api.OK}, {api.Write, 0, 1, api.OK}})
	holdLevels(t, m, []int{6}, []int{0, 6})
}

// TestHeardIsHandedOn: what is heard and what may be in files is followed by itself, and not taken from the levels, so that a monitor whose rules let something through would tell it.
func TestHeardIsHandedOn(t *testing.T) {
	m := made(t, []int{6, 6}, []int{5, 3})
	m.users[0].heard = 2
	askAll(t, m, []asked{{api.Write, 0, 0, api.OK}})
	holdLevels(t, m, []int{6, 6}, []int{2, 3})
	askAll(t, m, []asked{{api.Read, 0, 1, api.OK}, {api.Write, 0, 0, api.ErrDenied}, {api.Read, 1, 0, api.OK}, {api.Write, 1, 0, api.OK}})
	holdLevels(t, m, []int{3, 5}, []int{2, 3})
	askAll(t, m, []asked{{api.Write, 0, 1, api.OK}})
	holdLevels(t, m, []int{3, 5}, []int{2, 2})
	m = made(t, []int{6, 6}, []int{5, 3})
	m.files[0].worst = 1
	askAll(t, m, []asked{{api.Read, 0, 0, api.OK}, {api.Write, 0, 1, api.OK}})
	holdLevels(t, m, []int{5, 6}, []int{1, 1})
}

// TestNothingIsKept: what is handed in is neither written nor asked again, and monitors do not hear of each other.
func TestNothingIsKept(t *testing.T) {
	memory := []int{4, 2, 4, -9}
	want := slices.Clone(memory)
	m, other := made(t, memory[:1], memory[1:3]), made(t, memory[:1], memory[1:3])
	asks := []asked{{api.Write, 0, 1, api.OK}, {api.Read, 0, 0, api.OK}, {api.Write, 0, 1, api.ErrDenied}}
	askAll(t, m, asks)
	if !slices.Equal(memory, want) {
		t.Fatalf("what was handed in is %v now", memory)
	}
	holdLevels(t, other, []int{4}, []int{2, 4})
	clear(memory)
	askAll(t, other, asks)
	holdLevels(t, m, []int{2}, []int{2, 4})
	holdLevels(t, other, []int{2}, []int{2, 4})
}

package bell

import (
	"math"
	"slices"
	"testing"

	"quietwing/api"
	"quietwing/plain"
)

func told(t *testing.T, what string, err error, want api.Errno) {
	t.Helper()
	if got := plain.Told(err); got != want {
		t.Errorf("%s: got %v, want %v", what, got, want)
	}
}

func made(t *testing.T, users, files []api.Label) *Monitor {
	t.Helper()
	m, err := New(users, files)
	if err != nil || m == nil {
		t.Fatalf("New(%v, %v): got %v, %v", users, files, m, err)
	}
	return m
}

// asked is an ask, and what is to come of it.
type asked struct {
	kind, user, file, to int
	want                 api.Errno
}

func askAll(t *testing.T, m *Monitor, asks []asked) {
	t.Helper()
	for i, a := range asks {
		err := m.Ask(api.Ask{Kind: a.kind, User: a.user, File: a.file, To: a.to})
		if got := plain.Told(err); got != a.want {
			t.Fatalf("ask %d, %v: got %v, want %v", i, a, got, a.want)
		}
	}
}

func holdSets(t *testing.T, m *Monitor, reads, writes, holds []int) {
	t.Helper()
	for i := range reads {
		if m.Reads(i) != reads[i] || m.Writes(i) != writes[i] {
			t.Errorf("user %d: got %d, %d, want %d, %d", i, m.Reads(i), m.Writes(i), reads[i], writes[i])
		}
	}
	for i := range holds {
		if m.Holds(i) != holds[i] {
			t.Errorf("file %d: got %d, want %d", i, m.Holds(i), holds[i])
		}
	}
}

// labels gives so many of the greatest ones, and behind them those that are named.
func labels(n int, more ...api.Label) []api.Label {
	return append(slices.Repeat([]api.Label{{Level: 7, Set: 255}}, n), more...)
}

func TestNewWrong(t *testing.T) {
	good := labels(1)
	for _, c := range []struct {
		name         string
		users, files []api.Label
		want         api.Errno
	}{
		{"a user too many", labels(9), good, api.ErrFull},
		{"a file too many", good, labels(9), api.ErrFull},
		{"far too many", labels(1000), labels(1000), api.ErrFull},
		{"a user too many, and wrong", labels(8, api.Label{Level: -1}), nil, api.ErrFull},
		{"a file too many, and wrong", nil, labels(8, api.Label{Set: -1}), api.ErrFull},
		{"a wrong user, and a file too many", labels(7, api.Label{Level: 8}), labels(9), api.ErrRange},
		{"a user too many, and a wrong file", labels(9), labels(0, api.Label{Level: 8}), api.ErrFull},
		{"first user", []api.Label{{Level: 8}, {}}, good, api.ErrRange},
		{"last user", labels(7, api.Label{Set: 256}), good, api.ErrRange},
		{"first file", good, []api.Label{{Level: -1}, {}}, api.ErrRange},
		{"last file", good, labels(7, api.Label{Set: -1}), api.ErrRange},
		{"wrong files, no users", nil, labels(0, api.Label{Level: math.MinInt, Set: math.MaxInt}), api.ErrRange},
		{"wrong users, no files", labels(0, api.Label{Level: math.MaxInt, Set: math.MinInt}), nil, api.ErrRange},
	} {
		m, err := New(c.users, c.files)
		told(t, c.name, err, c.want)
		if m != nil {
			t.Errorf("%s: a monitor beside the error", c.name)
		}
	}
}

// TestNewRight: at first nobody reads or writes, and each file holds itself.
func TestNewRight(t *testing.T) {
	for users := range 9 {
		for files := range 9 {
			m := made(t, labels(users), make([]api.Label, files))
			holds := []int{1, 2, 4, 8, 16, 32, 64, 128}[:files]
			holdSets(t, m, make([]int, users), make([]int, users), holds)
			holdNone(t, m, users, files)
		}
	}
	m := made(t, []api.Label{}, []api.Label{})
	holdNone(t, m, 0, 0)
}

// holdNone: who is none has the empty set, and cannot be asked for.
func holdNone(t *testing.T, m *Monitor, users, files int) {
	t.Helper()
	for _, i := range []int{math.MinInt, -64, -1, 8, 63, 64, 1 << 32, math.MaxInt} {
		if m.Reads(i) != 0 || m.Writes(i) != 0 || m.Holds(i) != 0 {
			t.Errorf("%d: got %d, %d, %d", i, m.Reads(i), m.Writes(i), m.Holds(i))
		}
	}
	if m.Reads(users) != 0 || m.Writes(users) != 0 || m.Holds(files) != 0 {
		t.Errorf("one behind the last: got %d, %d, %d", m.Reads(users), m.Writes(users), m.Holds(files))
	}
	for kind := range 4 {
		askAll(t, m, []asked{{kind, users, 0, 0, api.ErrRange}, {kind, 0, files, 0, api.ErrRange}})
	}
}

func TestAskWrong(t *testing.T) {
	m := made(t, labels(2), labels(3))
	start := []asked{
		{api.Read, 0, 0, 0, api.OK}, {api.Write, 0, 1, 0, api.OK}, {api.Read, 1, 2, 0, api.OK}, {api.Write, 1, 2, 0, api.OK},
	}
	askAll(t, m, start)
	for _, kind := range []int{math.MinInt, -1, 4, 5, 1 << 32, math.MaxInt} {
		askAll(t, m, []asked{{kind, 0, 0, 1, api.ErrRange}, {kind, 1, 2, 2, api.ErrRange}})
	}
	for _, bad := range []int{math.MinInt, -1, 3, 8, 64, 1 << 32, math.MaxInt} {
		for kind := range 4 {
			askAll(t, m, []asked{{kind, bad, 0, 1, api.ErrRange}, {kind, 0, bad, 1, api.ErrRange}})
		}
		askAll(t, m, []asked{
			{api.Copy, 0, 0, bad, api.ErrRange},
			// out of range stands ahead of what is not as things stand
			{api.Copy, 1, 0, bad, api.ErrRange},
		})
	}
	askAll(t, m, []asked{{api.Read, 2, 0, 0, api.ErrRange}})
	holdSets(t, m, []int{1, 4}, []int{2, 4}, []int{1, 2, 4})
}

// TestToCountsOfCopyAlone: whatever stands there, the others neither ask it nor do anything to it.
func TestToCountsOfCopyAlone(t *testing.T) {
	for _, to := range []int{math.MinInt, -1, 0, 1, 2, 64, math.MaxInt} {
		m := made(t, labels(1), labels(2))
		askAll(t, m, []asked{{api.Read, 0, 0, to, api.OK}, {api.Write, 0, 1, to, api.OK}})
		holdSets(t, m, []int{1}, []int{2}, []int{1, 2})
		askAll(t, m, []asked{{api.Drop, 0, 0, to, api.OK}})
		holdSets(t, m, []int{0}, []int{2}, []int{1, 2})
	}
}

// TestLabels: each way in which a label is below another one, or is not.
func TestLabels(t *testing.T) {
	for _, c := range []struct {
		name  string
		a, b  api.Label
		below bool
	}{
		{"the same", api.Label{Level: 3, Set: 5}, api.Label{Level: 3, Set: 5}, true},
		{"least and greatest", api.Label{}, api.Label{Level: 7, Set: 255}, true},
		{"greatest and least", api.Label{Level: 7, Set: 255}, api.Label{}, false},
		{"a level less", api.Label{Level: 2, Set: 5}, api.Label{Level: 3, Set: 5}, true},
		{"a level more", api.Label{Level: 4, Set: 5}, api.Label{Level: 3, Set: 5}, false},
		{"a letter less", api.Label{Level: 3, Set: 4}, api.Label{Level: 3, Set: 5}, true},
		{"a letter more", api.Label{Level: 3, Set: 7}, api.Label{Level: 3, Set: 5}, false},
		{"a level less, another letter", api.Label{Level: 2, Set: 2}, api.Label{Level: 3, Set: 5}, false},
		{"a level more, a letter less", api.Label{Level: 4, Set: 1}, api.Label{Level: 3, Set: 5}, false},
	} {
		want := api.ErrDenied
		if c.below {
			want = api.OK
		}
		top := api.Label{Level: 7, Set: 255}
		t.Run(c.name, func(t *testing.T) {
			askAll(t, made(t, []api.Label{c.b}, []api.Label{c.a}), []asked{{api.Read, 0, 0, 0, want}})
			askAll(t, made(t, []api.Label{top}, []api.Label{c.a, c.b}), []asked{{api.Write, 0, 1, 0, api.OK}, {api.Read, 0, 0, 0, want}})
			askAll(t, made(t, []api.Label{top}, []api.Label{c.a, c.b}), []asked{{api.Read, 0, 0, 0, api.OK}, {api.Write, 0, 1, 0, want}})
			// a user's own label does not count where it writes
			askAll(t, made(t, []api.Label{c.a}, []api.Label{c.b}), []asked{{api.Write, 0, 0, 0, api.OK}})
			askAll(t, made(t, []api.Label{c.b}, []api.Label{c.a}), []asked{{api.Write, 0, 0, 0, api.OK}})
		})
	}
}

// TestEachFileCounts: one file among many that the user writes, or reads, is enough to deny, wherever it stands.
func TestEachFileCounts(t *testing.T) {
	high, low := api.Label{Level: 5, Set: 3}, api.Label{Level: 1, Set: 1}
	for odd := range 7 {
		files := slices.Repeat([]api.Label{high}, 8)
		files[odd] = low
		m := made(t, labels(2), files)
		for f := range 7 {
			askAll(t, m, []asked{{api.Write, 0, f, 0, api.OK}})
		}
		askAll(t, m, []asked{{api.Read, 0, 7, 0, api.ErrDenied}, {api.Read, 1, 7, 0, api.OK}, {api.Drop, 0, odd, 0, api.OK}, {api.Read, 0, 7, 0, api.OK}})
		holdSets(t, m, []int{128, 128}, []int{127 - 1<<odd, 0}, nil)

		files = slices.Repeat([]api.Label{low}, 8)
		files[odd] = high
		m = made(t, labels(2), files)
		for f := range 7 {
			askAll(t, m, []asked{{api.Read, 0, f, 0, api.OK}})
		}
		askAll(t, m, []asked{{api.Write, 0, 7, 0, api.ErrDenied}, {api.Write, 1, 7, 0, api.OK}, {api.Drop, 0, odd, 0, api.OK}, {api.Write, 0, 7, 0, api.OK}})
		holdSets(t, m, []int{127 - 1<<odd, 0}, []int{128, 128}, nil)
	}
}

func TestDrop(t *testing.T) {
	m := made(t, labels(2), labels(2))
	askAll(t, m, []asked{
		{api.Drop, 0, 0, 0, api.OK}, // of what the user has not: nothing is wrong
		{api.Read, 0, 0, 0, api.OK}, {api.Write, 0, 0, 0, api.OK}, {api.Read, 0, 1, 0, api.OK}, {api.Write, 0, 1, 0, api.OK},
		{api.Read, 1, 0, 0, api.OK}, {api.Write, 1, 0, 0, api.OK},
		{api.Copy, 0, 1, 0, api.OK},
		{api.Drop, 0, 0, 0, api.OK},
	})
	// What a file holds stays in it, and what others read and write stays theirs.
	holdSets(t, m, []int{2, 1}, []int{2, 1}, []int{3, 2})
	askAll(t, m, []asked{{api.Copy, 0, 0, 1, api.ErrState}, {api.Copy, 0, 1, 0, api.ErrState}, {api.Copy, 0, 1, 1, api.OK}, {api.Drop, 0, 0, 0, api.OK}})
	holdSets(t, m, []int{2, 1}, []int{2, 1}, []int{3, 2})
}

func TestCopy(t *testing.T) {
	m := made(t, labels(3), labels(4))
	askAll(t, m, []asked{
		{api.Copy, 0, 0, 0, api.ErrState},
		{api.Read, 0, 0, 0, api.OK},
		{api.Copy, 0, 0, 1, api.ErrState}, // reads, but does not write
		{api.Write, 1, 1, 0, api.OK},
		{api.Copy, 1, 0, 1, api.ErrState}, // writes, but does not read
		{api.Copy, 0, 0, 1, api.ErrState}, // another one writes
		{api.Write, 0, 1, 0, api.OK},
		{api.Copy, 0, 1, 0, api.ErrState}, // the other way round
	})
	holdSets(t, m, []int{1, 0, 0}, []int{2, 2, 0}, []int{1, 2, 4, 8})
	askAll(t, m, []asked{{api.Copy, 0, 0, 1, api.OK}})
	holdSets(t, m, nil, nil, []int{1, 3, 4, 8})
	askAll(t, m, []asked{
		{api.Read, 2, 1, 0, api.OK}, {api.Write, 2, 2, 0, api.OK}, {api.Copy, 2, 1, 2, api.OK},
	})
	holdSets(t, m, nil, nil, []int{1, 3, 7, 8})
	// What comes into a file later is not in those that had been copied from it ahead of that.
	askAll(t, m, []asked{
		{api.Read, 0, 3, 0, api.OK}, {api.Copy, 0, 3, 1, api.OK},
		{api.Write, 0, 0, 0, api.OK}, {api.Copy, 0, 0, 0, api.OK},
	})
	holdSets(t, m, []int{9, 0, 2}, []int{3, 2, 4}, []int{1, 11, 7, 8})
}

// TestNoClearanceByWriting: who writes a file does not read it for that.
func TestNoClearanceByWriting(t *testing.T) {
	m := made(t, []api.Label{{Level: 1}}, []api.Label{{Level: 2}, {Level: 1}})
	askAll(t, m, []asked{
		{api.Write, 0, 0, 0, api.OK}, {api.Read, 0, 0, 0, api.ErrDenied}, {api.Copy, 0, 0, 0, api.ErrState},
		{api.Read, 0, 1, 0, api.OK}, {api.Write, 0, 1, 0, api.OK}, {api.Copy, 0, 1, 0, api.OK},
	})
	holdSets(t, m, []int{2}, []int{3}, []int{3, 2})
}

// TestNothingIsKept: what is handed in is neither written nor asked again, and monitors do not hear of each other.
func TestNothingIsKept(t *testing.T) {
	memory := []api.Label{{Level: 2}, {Level: 1}, {Level: 3}, {Level: -9, Set: -9}}
	want := slices.Clone(memory)
	m, other := made(t, memory[:1], memory[1:3]), made(t, memory[:1], memory[1:3])
	asks := []asked{
		{api.Read, 0, 0, 0, api.OK}, {api.Read, 0, 1, 0, api.ErrDenied}, {api.Write, 0, 1, 0, api.OK}, {api.Copy, 0, 0, 1, api.OK},
	}
	askAll(t, m, asks)
	if !slices.Equal(memory, want) {
		t.Fatalf("what was handed in is %v now", memory)
	}
	holdSets(t, other, []int{0}, []int{0}, []int{1, 2})
	clear(memory)
	askAll(t, other, asks)
	holdSets(t, m, []int{1}, []int{2}, []int{1, 3})
	holdSets(t, other, []int{1}, []int{2}, []int{1, 3})
}

package bell

import (
	"testing"

	"quietwing/api"
	"quietwing/plain"
)

// trial is a monitor by the words of the promises, in plain tables.
type trial struct {
	users, files  []api.Label
	reads, writes [8][8]bool
	holds         [8][8]bool
}

func newTrial(users, files []api.Label) *trial {
	p := &trial{users: users, files: files}
	for f := range files {
		p.holds[f][f] = true
	}
	return p
}

func under(a, b api.Label) bool {
	for worth := 1; worth < 256; worth *= 2 {
		if a.Set/worth%2 > b.Set/worth%2 {
			return false
		}
	}
	return a.Level <= b.Level
}

func (p *trial) ask(a api.Ask) api.Errno {
	switch a.Kind {
	case api.Read:
		if !under(p.files[a.File], p.users[a.User]) {
			return api.ErrDenied
		}
		for f, l := range p.files {
			if p.writes[a.User][f] && !under(p.files[a.File], l) {
				return api.ErrDenied
			}
		}
		p.reads[a.User][a.File] = true
	case api.Write:
		for f, l := range p.files {
			if p.reads[a.User][f] && !under(l, p.files[a.File]) {
				return api.ErrDenied
			}
		}
		p.writes[a.User][a.File] = true
	case api.Drop:
		p.reads[a.User][a.File], p.writes[a.User][a.File] = false, false
	case api.Copy:
		if !p.reads[a.User][a.File] || !p.writes[a.User][a.To] {
			return api.ErrState
		}
		for f, is := range p.holds[a.File] {
			p.holds[a.To][f] = p.holds[a.To][f] || is
		}
	}
	return api.OK
}

func number(row [8]bool) int {
	n, worth := 0, 1
	for _, is := range row {
		if is {
			n += worth
		}
		worth *= 2
	}
	return n
}

func (p *trial) hold(t *testing.T, m *Monitor) {
	t.Helper()
	for u := range p.users {
		if m.Reads(u) != number(p.reads[u]) || m.Writes(u) != number(p.writes[u]) {
			t.Fatalf("user %d: got %d, %d, want %d, %d", u, m.Reads(u), m.Writes(u), number(p.reads[u]), number(p.writes[u]))
		}
	}
	for f := range p.files {
		if m.Holds(f) != number(p.holds[f]) {
			t.Fatalf("file %d: got %d, want %d", f, m.Holds(f), number(p.holds[f]))
		}
	}
}

// holdNoFlowDown: nothing is in a file whose own file is not below it.
func holdNoFlowDown(t *testing.T, m *Monitor, files []api.Label) {
	t.Helper()
	for to, high := range files {
		for from, low := range files {
			if m.Holds(to)>>from&1 == 1 && !under(low, high) {
				t.Fatalf("of file %d %v something is in file %d %v", from, low, to, high)
			}
		}
	}
}

// play asks a new monitor and the trial the same, and holds them against each other at each step.
func play(t *testing.T, users, files []api.Label, asks []api.Ask) (counts [9]int) {
	t.Helper()
	m := made(t, users, files)
	p := newTrial(users, files)
	for _, a := range asks {
		want := p.ask(a)
		if got := plain.Told(m.Ask(a)); got != want {
			t.Fatalf("users %v, files %v, asks %v, at %v: got %v, want %v", users, files, asks, a, got, want)
		}
		counts[want]++
		p.hold(t, m)
		holdNoFlowDown(t, m, files)
	}
	return counts
}

// TestAllShort: all runs of four asks of a user at two files, the three labels being any of two levels and one letter.
func TestAllShort(t *testing.T) {
	some := []api.Label{{}, {Level: 1}, {Set: 1}, {Level: 1, Set: 1}}
	var asks []api.Ask
	for kind := range 4 {
		for file := range 2 {
			asks = append(asks, api.Ask{Kind: kind, File: file, To: 1 - file})
		}
	}
	asks = append(asks, api.Ask{Kind: api.Copy}, api.Ask{Kind: api.Copy, File: 1, To: 1})
	for labels := range 64 {
		user := some[labels%4]
		files := []api.Label{some[labels/4%4], some[labels/16]}
		for run := range 10_000 {
			list := make([]api.Ask, 4)
			for i := range list {
				list[i] = asks[run%10]
				run /= 10
			}
			play(t, []api.Label{user}, files, list)
		}
	}
}

// TestSomeGreat: long runs of up to 8 users and 8 files, by a rule that is the same each time.
func TestSomeGreat(t *testing.T) {
	seed := uint32(11)
	next := func(below int) int {
		seed = seed*1664525 + 1013904223
		return int(seed>>8) % below
	}
	var all [9]int
	for round := range 1500 {
		letters := 1 + round%8
		levels := 1 + round/8%8
		some := func() []api.Label {
			out := make([]api.Label, 1+next(8))
			for i := range out {
				out[i] = api.Label{Level: next(levels), Set: next(1<<letters) & next(1<<letters)}
			}
			return out
		}
		users, files := some(), some()
		asks := make([]api.Ask, 150)
		for i := range asks {
			kind := []int{api.Read, api.Read, api.Write, api.Write, api.Drop, api.Copy, api.Copy, api.Copy}[next(8)]
			asks[i] = api.Ask{Kind: kind, User: next(len(users)), File: next(len(files)), To: next(len(files))}
		}
		for told, n := range play(t, users, files, asks) {
			all[told] += n
		}
	}
	for _, want := range []api.Errno{api.OK, api.ErrDenied, api.ErrState} {
		if all[want] < 10_000 {
			t.Errorf("only %d times %v: the runs try too little", all[want], want)
		}
	}
}

package biba

import (
	"slices"
	"testing"

	"quietwing/api"
	"quietwing/plain"
)

// trial is a monitor by the words of the promises: it keeps all that a user heard and all that may be in a file, each by the level of where it came from.
type trial struct {
	users, files []int
	heard, holds [8][]int
}

func newTrial(users, files []int) *trial {
	p := &trial{users: slices.Clone(users), files: files}
	for u, l := range users {
		p.heard[u] = []int{l}
	}
	for f, l := range files {
		p.holds[f] = []int{l}
	}
	return p
}

func together(a, b []int) []int {
	all := slices.Concat(a, b)
	slices.Sort(all)
	return slices.Compact(all)
}

func (p *trial) ask(a api.Ask) api.Errno {
	switch {
	case a.Kind == api.Read:
		if p.files[a.File] < p.users[a.User] {
			p.users[a.User] = p.files[a.File]
		}
		p.heard[a.User] = together(p.heard[a.User], p.holds[a.File])
	case p.files[a.File] > p.users[a.User]:
		return api.ErrDenied
	default:
		p.holds[a.File] = together(p.holds[a.File], p.heard[a.User])
	}
	return api.OK
}

// hold: the monitor tells the same, and what is pure stays pure.
func (p *trial) hold(t *testing.T, m *Monitor) {
	t.Helper()
	for u, want := range p.users {
		if got := m.Level(u); got != want {
			t.Fatalf("user %d: got %d, want %d", u, got, want)
		}
	}
	for f, level := range p.files {
		if got, want := m.Worst(f), slices.Min(p.holds[f]); got != want {
			t.Fatalf("file %d: got %d, want %d", f, got, want)
		}
		if m.Worst(f) < level {
			t.Fatalf("something of level %d is in file %d of level %d", m.Worst(f), f, level)
		}
	}
}

// play asks a new monitor and the trial the same, and holds them against each other at each step.
func play(t *testing.T, users, files []int, asks []api.Ask) (counts [9]int) {
	t.Helper()
	m := made(t, users, files)
	p := newTrial(users, files)
	p.hold(t, m)
	for _, a := range asks {
		want := p.ask(a)
		if got := plain.Told(m.Ask(a)); got != want {
			t.Fatalf("users %v, files %v, asks %v, at %v: got %v, want %v", users, files, asks, a, got, want)
		}
		counts[want]++
		p.hold(t, m)
	}
	return counts
}

// TestAllShort: all runs of four asks of two users at two files, of any of three levels.
func TestAllShort(t *testing.T) {
	some := []int{0, 3, 7}
	var asks []api.Ask
	for i := range 8 {
		asks = append(asks, api.Ask{Kind: i / 4, User: i / 2 % 2, File: i % 2})
	}
	for levels := range 81 {
		users := []int{some[levels%3], some[levels/3%3]}
		files := []int{some[levels/9%3], some[levels/27]}
		for run := range 4096 {
			list := []api.Ask{asks[run%8], asks[run/8%8], asks[run/64%8], asks[run/512]}
			play(t, users, files, list)
		}
	}
}

// TestSomeGreat: long runs of up to 8 users and 8 files, by a rule that is the same each time.
func TestSomeGreat(t *testing.T) {
	seed := uint32(5)
	next := func(below int) int {
		seed = seed*1664525 + 1013904223
		return int(seed>>8) % below
	}
	some := func(least int) []int {
		out := make([]int, 1+next(8))
		for i := range out {
			out[i] = least + next(8-least)
		}
		return out
	}
	var all [9]int
	for round := range 1500 {
		users, files := some(round%8), some(0)
		asks := make([]api.Ask, 100)
		for i := range asks {
			// mostly writes, since each read may sink a user for good
			kind := []int{api.Read, api.Write, api.Write, api.Write}[next(4)]
			asks[i] = api.Ask{Kind: kind, User: next(len(users)), File: next(len(files)), To: next(9)}
		}
		for told, n := range play(t, users, files, asks) {
			all[told] += n
		}
	}
	for _, want := range []api.Errno{api.OK, api.ErrDenied} {
		if all[want] < 10_000 {
			t.Errorf("only %d times %v: the runs try too little", all[want], want)
		}
	}
}

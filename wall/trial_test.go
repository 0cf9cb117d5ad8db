package wall

import (
	"slices"
	"testing"

	"quietwing/api"
	"quietwing/plain"
)

// trial is a wall by the words of the promises: it keeps the firms that a user saw, and those of which something is in a firm's files, as lists.
type trial struct {
	trades     []int
	saw, holds [8][]int
}

func newTrial(trades []int) *trial {
	p := &trial{trades: trades}
	for f := range trades {
		p.holds[f] = []int{f}
	}
	return p
}

func together(a, b []int) []int {
	all := slices.Concat(a, b)
	slices.Sort(all)
	return slices.Compact(all)
}

func asSet(list []int) int {
	set := 0
	for _, i := range list {
		set += 1 << i
	}
	return set
}

func (p *trial) ask(a api.Ask) api.Errno {
	trade := p.trades[a.File]
	for _, f := range p.saw[a.User] {
		if f != a.File && p.trades[f] == trade && trade != 0 {
			return api.ErrDenied
		}
		if a.Kind == api.Write && f != a.File && p.trades[f] != 0 {
			return api.ErrDenied
		}
	}
	if a.Kind == api.Read {
		p.saw[a.User] = together(p.saw[a.User], []int{a.File})
		return api.OK
	}
	for _, f := range p.saw[a.User] {
		p.holds[a.File] = together(p.holds[a.File], p.holds[f])
	}
	return api.OK
}

// hold: the wall tells the same, and nothing of a firm comes to its rival, nor to who saw that.
func (p *trial) hold(t *testing.T, w *Wall, users int) {
	t.Helper()
	for u := range users {
		if got, want := w.Saw(u), asSet(p.saw[u]); got != want {
			t.Fatalf("user %d: got %b, want %b", u, got, want)
		}
		heard := w.Saw(u)
		for f := range p.trades {
			if w.Saw(u)>>f&1 == 1 {
				heard |= w.Holds(f)
			}
		}
		p.holdApart(t, heard)
	}
	for f := range p.trades {
		if got, want := w.Holds(f), asSet(p.holds[f]); got != want {
			t.Fatalf("firm %d: got %b, want %b", f, got, want)
		}
		p.holdApart(t, w.Holds(f))
	}
}

// holdApart: no two rivals are in a set.
func (p *trial) holdApart(t *testing.T, set int) {
	t.Helper()
	var of [8]int
	for f, trade := range p.trades {
		of[trade] += set >> f & 1
	}
	for trade, n := range of {
		if trade != 0 && n > 1 {
			t.Fatalf("trades %v: rivals of trade %d came together in %b", p.trades, trade, set)
		}
	}
}

// play asks a new wall and the trial the same, and holds them against each other at each step.
func play(t *testing.T, users int, trades []int, asks []api.Ask) (counts [9]int) {
	t.Helper()
	w := made(t, users, trades)
	p := newTrial(trades)
	p.hold(t, w, users)
	for _, a := range asks {
		want := p.ask(a)
		if got := plain.Told(w.Ask(a)); got != want {
			t.Fatalf("trades %v, asks %v, at %v: got %v, want %v", trades, asks, a, got, want)
		}
		counts[want]++
		p.hold(t, w, users)
	}
	return counts
}

// TestAllShort: all runs of four asks of two users at three firms, of trade 0 and two others.
func TestAllShort(t *testing.T) {
	var asks []api.Ask
	for i := range 12 {
		asks = append(asks, api.Ask{Kind: i / 6, User: i / 3 % 2, File: i % 3})
	}
	some := []int{0, 1, 7}
	for n := range 27 {
		trades := []int{some[n%3], some[n/3%3], some[n/9]}
		for run := range 12 * 12 * 12 * 12 {
			list := []api.Ask{asks[run%12], asks[run/12%12], asks[run/144%12], asks[run/1728]}
			play(t, 2, trades, list)
		}
	}
}

// TestSomeGreat: long runs of up to 8 users and 8 firms, by a rule that is the same each time.
func TestSomeGreat(t *testing.T) {
	seed := uint32(6)
	next := func(below int) int {
		seed = seed*1664525 + 1013904223
		return int(seed>>8) % below
	}
	var all [9]int
	for round := range 1500 {
		users := 1 + next(8)
		trades := make([]int, 1+next(8))
		for i := range trades {
			// some runs have few trades, and so many rivals and many open firms
			trades[i] = next(1 + round%8)
		}
		asks := make([]api.Ask, 100)
		for i := range asks {
			// mostly writes, since each read may shut a user off for good
			kind := []int{api.Read, api.Write, api.Write, api.Write}[next(4)]
			asks[i] = api.Ask{Kind: kind, User: next(users), File: next(len(trades)), To: next(9)}
		}
		for told, n := range play(t, users, trades, asks) {
			all[told] += n
		}
	}
	for _, want := range []api.Errno{api.OK, api.ErrDenied} {
		if all[want] < 10_000 {
			t.Errorf("only %d times %v: the runs try too little", all[want], want)
		}
	}
}

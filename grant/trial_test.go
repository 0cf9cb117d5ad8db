package grant

import (
	"slices"
	"testing"

	"quietwing/api"
	"quietwing/plain"
)

// trial is a list of grants by the words of the promises: each asks the list itself how things stand.
type trial struct {
	users int
	l     []api.Given
}

// first gives the place of the first grant to a user, of so many; -1, if there is none.
func first(l []api.Given, user int) int {
	for i, g := range l {
		if g.To == user {
			return i
		}
	}
	return -1
}

func (p trial) none(user int) bool { return user < 0 || user >= p.users }

func (p trial) check() api.Errno {
	for i, g := range p.l {
		if p.none(g.From) || p.none(g.To) || g.Time < 0 || g.Time > 999_999 {
			return api.ErrRange
		}
		if i > 0 && g.Time <= p.l[i-1].Time {
			return api.ErrShape
		}
		if g.From != 0 && first(p.l[:i], g.From) < 0 {
			return api.ErrDenied
		}
	}
	return api.OK
}

func (p trial) holds() int {
	set := 0
	for user := range p.users {
		if user == 0 || first(p.l, user) >= 0 {
			set += 1 << user
		}
	}
	return set
}

func (p trial) revoke(from, to int) ([]api.Given, api.Errno) {
	left := slices.DeleteFunc(slices.Clone(p.l), func(g api.Given) bool { return g.From == from && g.To == to })
	if len(left) == len(p.l) {
		return nil, api.ErrNone
	}
	for {
		// the last that is to go goes first, so that it takes many rounds
		at := len(left) - 1
		for at >= 0 && (left[at].From == 0 || first(left[:at], left[at].From) >= 0) {
			at--
		}
		if at < 0 {
			return left, api.OK
		}
		left = slices.Delete(left, at, at+1)
	}
}

func (p trial) path(user int) ([]int, api.Errno) {
	if user == 0 {
		return []int{0}, api.OK
	}
	at := first(p.l, user)
	if at < 0 {
		return nil, api.ErrNone
	}
	path := []int{user}
	for p.l[at].From != 0 {
		path = append([]int{p.l[at].From}, path...)
		at = first(p.l[:at], p.l[at].From)
	}
	return append([]int{0}, path...), api.OK
}

// never gives what is there if the grants of one user to another one are never made, and others are made where they may be.
func (p trial) never(from, to int) []api.Given {
	var made []api.Given
	for _, g := range p.l {
		try := append(slices.Clone(made), g)
		if (g.From != from || g.To != to) && (trial{p.users, try}).check() == api.OK {
			made = try
		}
	}
	return made
}

// hold asks all that can be asked of a list, and holds it against the trial; it tells what Check told, and counts what Revoke told.
func (p trial) hold(t *testing.T, counts *[9]int) api.Errno {
	t.Helper()
	want := p.check()
	if got := plain.Told(Check(p.users, p.l)); got != want {
		t.Fatalf("%d users, %v: got %v, want %v", p.users, p.l, got, want)
	}
	set, err := Holds(p.users, p.l)
	if wantSet := p.holds(); want == api.OK && (err != nil || set != wantSet) {
		t.Fatalf("%d users, %v: Holds: got %b, %v, want %b", p.users, p.l, set, err, wantSet)
	}
	if want != api.OK {
		if plain.Told(err) != want || set != 0 {
			t.Fatalf("%d users, %v: Holds: got %b, %v, want %v", p.users, p.l, set, err, want)
		}
		return want
	}
	for user := range p.users {
		p.holdPath(t, user)
		for to := range p.users {
			counts[p.holdRevoke(t, user, to)]++
		}
	}
	return want
}

func (p trial) holdPath(t *testing.T, user int) {
	t.Helper()
	want, wantErr := p.path(user)
	got, err := Path(p.users, p.l, user)
	if !slices.Equal(got, want) || plain.Told(err) != wantErr {
		t.Fatalf("%d users, %v: Path of %d: got %v, %v, want %v, %v", p.users, p.l, user, got, err, want, wantErr)
	}
}

func (p trial) holdRevoke(t *testing.T, from, to int) api.Errno {
	t.Helper()
	want, wantErr := p.revoke(from, to)
	got, err := Revoke(p.users, p.l, from, to)
	if !slices.Equal(got, want) || plain.Told(err) != wantErr {
		t.Fatalf("%d users, %v: Revoke from %d to %d: got %v, %v, want %v, %v", p.users, p.l, from, to, got, err, want, wantErr)
	}
	if wantErr != api.OK {
		return wantErr
	}
	if never := p.never(from, to); !slices.Equal(got, never) {
		t.Fatalf("%d users, %v: Revoke from %d to %d: got %v, and were they never made %v", p.users, p.l, from, to, got, never)
	}
	if err := Check(p.users, got); err != nil {
		t.Fatalf("%d users, %v: Revoke from %d to %d: what is left, %v, tells %v", p.users, p.l, from, to, got, err)
	}
	return wantErr
}

// TestAllShort: all lists of up to five grants among three users, and of up to seven among two.
func TestAllShort(t *testing.T) {
	var all, revoked [9]int
	for _, c := range []struct{ users, most int }{{1, 3}, {2, 7}, {3, 5}} {
		kinds := c.users * c.users
		lists := 1
		for size := range c.most + 1 {
			for n := range lists {
				var pairs []pair
				for range size {
					pairs = append(pairs, pair{n % c.users, n / c.users % c.users})
					n /= kinds
				}
				all[trial{c.users, given(pairs...)}.hold(t, &revoked)]++
			}
			lists *= kinds
		}
	}
	if all[api.OK] < 10_000 || all[api.ErrDenied] < 10_000 || revoked[api.OK] < 10_000 {
		t.Errorf("Check told %v, Revoke %v: the lists try too little", all, revoked)
	}
}

// TestSomeGreat: lists of up to 40 grants among up to 8 users, some with a fault, by a rule that is the same each time.
func TestSomeGreat(t *testing.T) {
	seed := uint32(8)
	next := func(below int) int {
		seed = seed*1664525 + 1013904223
		return int(seed>>8) % below
	}
	var all, revoked [9]int
	cascades := 0
	for range 3000 {
		p := trial{users: 1 + next(8)}
		at := next(3)
		for range next(41) {
			g := api.Given{From: next(p.users), To: next(p.users), Time: at}
			// mostly by those who have it, and by user 0 seldom, so that much hangs on few
			if n := next(60); n > 0 && p.holds()>>g.From&1 == 0 || n > 50 {
				g.From = 0
			}
			p.l = append(p.l, g)
			at += 1 + next(1+next(100))
		}
		if len(p.l) > 0 && next(4) == 0 {
			spoil(&p.l[next(len(p.l))], next)
		}
		all[p.hold(t, &revoked)]++
		cascades += p.cascades()
	}
	for _, want := range []api.Errno{api.OK, api.ErrRange, api.ErrShape, api.ErrDenied} {
		if all[want] < 50 {
			t.Errorf("only %d times %v: the lists try too little", all[want], want)
		}
	}
	if revoked[api.OK] < 10_000 || revoked[api.ErrNone] < 10_000 || cascades < 1000 {
		t.Errorf("Revoke told %v, and more went %d times: the lists try too little", revoked, cascades)
	}
}

// spoil one thing of a grant.
func spoil(g *api.Given, next func(below int) int) {
	switch next(6) {
	case 0:
		g.From = 9*next(2) - 1
	case 1:
		g.To = 9*next(2) - 1
	case 2:
		g.Time = 1_000_001*next(2) - 1
	case 3:
		g.Time = next(100)
	default:
		g.From = next(8)
	}
}

// cascades counts the pairs with whose grants others go.
func (p trial) cascades() int {
	n := 0
	for from := range p.users {
		for to := range p.users {
			left, err := Revoke(p.users, p.l, from, to)
			if err == nil && len(left) < len(without(p.l, from, to)) {
				n++
			}
		}
	}
	return n
}

package roles

import (
	"slices"
	"testing"

	"quietwing/api"
	"quietwing/plain"
)

// trial is roles by the words of the promises, in plain tables.
type trial struct {
	r     api.Roles
	come  [][]bool // of each role, if nothing is wrong with Above, whether each is come to from it
	tasks [][]bool // of each role whether it has each task, with those of the roles that come with it
}

func in(set, i int) bool {
	for range i {
		set /= 2
	}
	return set%2 == 1
}

func noSet(things int) func(set int) bool {
	return func(set int) bool { return set < 0 || set > 1<<things-1 }
}

func newTrial(r api.Roles) *trial {
	p := &trial{r: r}
	n := len(r.Above)
	if n > 8 || slices.ContainsFunc(r.Above, noSet(n)) {
		return p
	}
	for a := range n {
		p.come = append(p.come, make([]bool, n))
		for b := range n {
			p.come[a][b] = a == b || in(r.Above[a], b)
		}
	}
	for over := range n {
		for a := range n {
			for b := range n {
				p.come[a][b] = p.come[a][b] || p.come[a][over] && p.come[over][b]
			}
		}
	}
	if len(r.May) != n || slices.ContainsFunc(r.May, noSet(10)) {
		return p
	}
	for a := range n {
		p.tasks = append(p.tasks, make([]bool, 10))
		for b := range n {
			for task := range 10 {
				p.tasks[a][task] = p.tasks[a][task] || p.come[a][b] && in(r.May[b], task)
			}
		}
	}
	return p
}

func (p *trial) isRing() bool {
	for a := range p.come {
		for b := range a {
			if p.come[a][b] && p.come[b][a] {
				return true
			}
		}
	}
	return false
}

// owns tells whether a user has a role.
func (p *trial) owns(user, role int) bool {
	for own := range p.come {
		if in(p.r.Users[user], own) && p.come[own][role] {
			return true
		}
	}
	return false
}

func (p *trial) isOver() bool {
	for user := range p.r.Users {
		n := 0
		for role := range p.come {
			if p.owns(user, role) && in(p.r.Few, role) {
				n++
			}
		}
		if n > p.r.Most {
			return true
		}
	}
	return false
}

func (p *trial) check() api.Errno {
	r, n := p.r, len(p.r.Above)
	switch {
	case len(r.Users) > 8 || n > 8:
		return api.ErrFull
	case len(r.May) != n:
		return api.ErrShape
	case slices.ContainsFunc(r.Users, noSet(n)):
		return api.ErrRange
	case slices.ContainsFunc(r.Above, noSet(n)):
		return api.ErrRange
	case p.isRing():
		return api.ErrClash
	case slices.ContainsFunc(r.May, noSet(10)):
		return api.ErrRange
	case noSet(n)(r.Few) || r.Most < 0 || r.Most > 8:
		return api.ErrRange
	case p.isOver():
		return api.ErrDenied
	}
	return api.OK
}

func (p *trial) has(user int) int {
	set := 0
	for role := range p.come {
		if p.owns(user, role) {
			set += 1 << role
		}
	}
	return set
}

func (p *trial) may(user int) int {
	set := 0
	for task := range 10 {
		for role := range p.come {
			if p.owns(user, role) && in(p.r.May[role], task) {
				set += 1 << task
				break
			}
		}
	}
	return set
}

func (p *trial) enough(roles []int, want int) bool {
	for task := range 10 {
		if in(want, task) && !slices.ContainsFunc(roles, func(role int) bool { return p.tasks[role][task] }) {
			return false
		}
	}
	return true
}

// need goes over all sets of roles that a user has, and keeps those of the fewest roles, by their numbers.
func (p *trial) need(user, want int) []int {
	var best []int
	size := 9
	for set := range 1 << len(p.come) {
		var roles []int
		owned := true
		for role := range p.come {
			if in(set, role) {
				roles = append(roles, role)
				owned = owned && p.owns(user, role)
			}
		}
		if !owned || len(roles) > size || !p.enough(roles, want) {
			continue
		}
		if len(roles) < size {
			best, size = nil, len(roles)
		}
		best = append(best, set)
	}
	slices.Sort(best)
	return best
}

// counts of what the trials came upon, so that they do not try too little.
type counts struct {
	check                      [9]int
	none, ties, along, several int
}

// hold asks all that can be asked of roles, of so many wants for each user, and holds it against the trial.
func (p *trial) hold(t *testing.T, wants func(may int) []int, n *counts) {
	t.Helper()
	want := p.check()
	n.check[want]++
	if got := plain.Told(Check(p.r)); got != want {
		t.Fatalf("%+v: got %v, want %v", p.r, got, want)
	}
	if want != api.OK {
		has, err := Has(p.r, 0)
		may, err2 := May(p.r, 0)
		need, err3 := Need(p.r, 0, 0)
		if has != 0 || may != 0 || need != 0 || plain.Told(err) != want || plain.Told(err2) != want || plain.Told(err3) != want {
			t.Fatalf("%+v: got %b, %v, %b, %v, %b, %v, want %v", p.r, has, err, may, err2, need, err3, want)
		}
		return
	}
	for user := range p.r.Users {
		if has, err := Has(p.r, user); err != nil || has != p.has(user) {
			t.Fatalf("%+v: Has of %d: got %b, %v, want %b", p.r, user, has, err, p.has(user))
		}
		may, err := May(p.r, user)
		if err != nil || may != p.may(user) {
			t.Fatalf("%+v: May of %d: got %b, %v, want %b", p.r, user, may, err, p.may(user))
		}
		for _, tasks := range wants(may) {
			p.holdNeed(t, user, tasks, n)
		}
	}
}

func (p *trial) holdNeed(t *testing.T, user, tasks int, n *counts) {
	t.Helper()
	need, err := Need(p.r, user, tasks)
	best := p.need(user, tasks)
	if len(best) == 0 {
		n.none++
		if need != 0 || plain.Told(err) != api.ErrDenied {
			t.Fatalf("%+v: Need of %d, %b: got %b, %v, want ErrDenied", p.r, user, tasks, need, err)
		}
		return
	}
	if err != nil || need != best[0] {
		t.Fatalf("%+v: Need of %d, %b: got %b, %v, want %b", p.r, user, tasks, need, err, best[0])
	}
	if len(best) > 1 {
		n.ties++
	}
	if need&^p.r.Users[user] != 0 {
		n.along++
	}
	if count(need) > 2 {
		n.several++
	}
}

// relations gives all relations of so many things, of each the rows.
func relations(n int) [][]int {
	var all [][]int
	for rows := range 1 << (n * n) {
		r := make([]int, n)
		for i := range r {
			r[i] = rows >> (i * n) & (1<<n - 1)
		}
		all = append(all, r)
	}
	return all
}

// TestAllSmall: all relations of up to three roles, with all sets of two tasks; a user for each set of roles, and all wants.
func TestAllSmall(t *testing.T) {
	var n counts
	for roles := range 4 {
		users := make([]int, 1<<roles)
		for set := range users {
			users[set] = set
		}
		for _, above := range relations(roles) {
			for rows := range 1 << (2 * roles) {
				may := make([]int, roles)
				for i := range may {
					may[i] = rows >> (2 * i) & 3
				}
				p := newTrial(api.Roles{Users: users, Above: above, May: may, Most: 8})
				p.hold(t, func(int) []int { return []int{0, 1, 2, 3} }, &n)
			}
		}
	}
	if n.check[api.OK] < 10_000 || n.check[api.ErrClash] < 10_000 || n.none < 10_000 || n.ties < 10_000 || n.along < 10_000 {
		t.Errorf("came upon %+v: too little", n)
	}
}

// TestAllBounds: all relations of up to three roles, with all of Few and Most, and a user with each set.
func TestAllBounds(t *testing.T) {
	var n counts
	for roles := range 4 {
		for _, above := range relations(roles) {
			for few := range 1 << roles {
				for most := range roles + 1 {
					for set := range 1 << roles {
						p := newTrial(api.Roles{Users: []int{0, set}, Above: above, May: make([]int, roles), Few: few, Most: most})
						p.hold(t, func(int) []int { return nil }, &n)
					}
				}
			}
		}
	}
	if n.check[api.OK] < 10_000 || n.check[api.ErrClash] < 10_000 || n.check[api.ErrDenied] < 10_000 {
		t.Errorf("came upon %+v: too little", n)
	}
}

// random gives numbers by a rule that is the same each time.
func random(seed uint32) func(below int) int {
	return func(below int) int {
		seed = seed*1664525 + 1013904223
		return int(seed>>8) % below
	}
}

// order of so many roles, under any numbering.
func order(n int, next func(below int) int) []int {
	number := make([]int, n)
	for i := range number {
		k := next(i + 1)
		number[i], number[k] = number[k], i
	}
	above := make([]int, n)
	thick := 1 + next(4)
	for low := range n {
		for high := low + 1; high < n; high++ {
			if next(10) < thick {
				above[number[high]] |= 1 << number[low]
			}
		}
	}
	return above
}

// some gives roles, as many as may be at the most, mostly with nothing wrong.
func some(next func(below int) int) api.Roles {
	n := 1 + next(8)
	r := api.Roles{Above: order(n, next), Most: 1 + next(8)}
	for range 1 + next(8) {
		r.Users = append(r.Users, next(1<<n)&next(1<<n)|1<<next(n))
	}
	for range n {
		r.May = append(r.May, next(1024)&next(1024)&next(1024)|1<<next(10))
	}
	if next(2) == 0 {
		r.Few = next(1 << n)
	}
	if next(4) == 0 {
		spoil(&r, next)
	}
	return r
}

// spoil one thing of roles, or nearly.
func spoil(r *api.Roles, next func(below int) int) {
	n := len(r.Above)
	off := []int{-1, 1 << n, 1<<n - 1, 1<<n + next(1<<n)}[next(4)]
	switch next(9) {
	case 0:
		r.Users[next(len(r.Users))] = off
	case 1:
		r.Above[next(n)] |= off
	case 2:
		r.Above[next(n)] |= 1 << next(n)
	case 3:
		r.May[next(n)] = []int{-1, 1024, 1023, 2047}[next(4)]
	case 4:
		r.Few = off
	case 5:
		r.Most = []int{-1, 9, 0, 8}[next(4)]
	case 6:
		r.May = append(r.May, make([]int, next(3))...)[next(2):]
	default:
		turnBack(r, next(n))
	}
}

// turnBack lets what is below a role lead to it.
func turnBack(r *api.Roles, role int) {
	for i := range r.Above {
		if in(r.Above[role], i) {
			r.Above[i] |= 1 << role
		}
	}
}

// TestSomeGreat: up to 8 roles of up to 8 users with 10 tasks, some with a fault.
func TestSomeGreat(t *testing.T) {
	next := random(9)
	var n counts
	wants := func(may int) []int {
		return []int{may, may & next(1024), may & next(1024), may&next(1024) | 1<<next(10)}
	}
	for range 3000 {
		newTrial(some(next)).hold(t, wants, &n)
	}
	for _, want := range []api.Errno{api.OK, api.ErrRange, api.ErrShape, api.ErrClash, api.ErrDenied} {
		if n.check[want] < 50 {
			t.Errorf("only %d times %v: too little", n.check[want], want)
		}
	}
	if n.none < 1000 || n.ties < 1000 || n.along < 1000 || n.several < 500 {
		t.Errorf("came upon %+v: too little", n)
	}
}

// TestAbove: who is above has and may what who is below has and may, and needs no more roles for it.
func TestAbove(t *testing.T) {
	next := random(10)
	pairs := 0
	for range 1000 {
		r := some(next)
		r.Users, r.Few = nil, 0
		for role := range r.Above {
			r.Users = append(r.Users, 1<<role)
		}
		if Check(r) != nil {
			continue
		}
		for above, set := range r.Above {
			for below := range r.Above {
				if in(set, below) && above != below {
					holdAbove(t, r, above, below)
					pairs++
				}
			}
		}
	}
	if pairs < 1000 {
		t.Errorf("only %d pairs: too little", pairs)
	}
}

func holdAbove(t *testing.T, r api.Roles, above, below int) {
	t.Helper()
	has, _ := Has(r, above)
	hasLess, _ := Has(r, below)
	may, _ := May(r, above)
	mayLess, _ := May(r, below)
	if !in(has, below) || hasLess&^has != 0 || mayLess&^may != 0 {
		t.Fatalf("%+v: role %d has %b and may %b, and below it %d has %b and may %b", r, above, has, may, below, hasLess, mayLess)
	}
	need, err := Need(r, above, mayLess)
	needLess, err2 := Need(r, below, mayLess)
	if err != nil || err2 != nil || count(need) > count(needLess) {
		t.Fatalf("%+v: role %d needs %b, %v, and below it %d needs %b, %v", r, above, need, err, below, needLess, err2)
	}
}

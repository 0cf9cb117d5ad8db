package roles

import (
	"math"
	"slices"
	"testing"

	"quietwing/api"
	"quietwing/plain"
)

func told(t *testing.T, what string, err error, want api.Errno) {
	t.Helper()
	if got := plain.Told(err); got != want {
		t.Errorf("%s: got %v, want %v", what, got, want)
	}
}

// chain has of three roles the first above the second, and this above the third; of three users each has one, and the fourth has none.
func chain() api.Roles {
	return api.Roles{Users: []int{1, 2, 4, 0}, Above: []int{2, 4, 0}, May: []int{1, 2, 4}, Few: 0, Most: 8}
}

// apart has so many roles of which none is above another one, role i with task i, and a user who has all.
func apart(n int) api.Roles {
	r := api.Roles{Users: []int{1<<n - 1}, Above: make([]int, n), Most: 8}
	for i := range n {
		r.May = append(r.May, 1<<i)
	}
	return r
}

// greatest has as many users and roles as may be, and all sets as great.
func greatest() api.Roles {
	return api.Roles{
		Users: slices.Repeat([]int{255}, 8), Above: []int{255, 254, 252, 248, 240, 224, 192, 128},
		May: slices.Repeat([]int{1023}, 8), Few: 255, Most: 8,
	}
}

// far are numbers that are no user's, no set's, and no bound, however many things there are.
var far = []int{math.MinInt, -1 << 32, -1024, -1, 1024, 1 << 32, 1<<32 + 1, math.MaxInt}

// fault spoils roles in one thing.
type fault func(r *api.Roles)

var (
	usersMany fault = func(r *api.Roles) { r.Users = slices.Repeat([]int{0}, 9) }
	rolesMany fault = func(r *api.Roles) { r.Above, r.May = make([]int, 9), make([]int, 9) }
	mayLong   fault = func(r *api.Roles) { r.May = append(r.May, 0) }
	mayShort  fault = func(r *api.Roles) { r.May = r.May[1:] }
	userWrong fault = func(r *api.Roles) { r.Users[1] = 8 }
	rowWrong  fault = func(r *api.Roles) { r.Above[1] = 8 }
	ring      fault = func(r *api.Roles) { r.Above[2] = 1 }
	mayWrong  fault = func(r *api.Roles) { r.May[1] = 1024 }
	fewWrong  fault = func(r *api.Roles) { r.Few = 8 }
	mostLow   fault = func(r *api.Roles) { r.Most = -1 }
	mostHigh  fault = func(r *api.Roles) { r.Most = 9 }
	tooMuch   fault = func(r *api.Roles) { r.Few, r.Most = 7, 2 }
)

func TestCheckWrong(t *testing.T) {
	for _, c := range []struct {
		name   string
		faults []fault
		want   api.Errno
	}{
		{"a user too many", []fault{usersMany}, api.ErrFull},
		{"a role too many", []fault{rolesMany}, api.ErrFull},
		{"a row of May too many", []fault{mayLong}, api.ErrShape},
		{"a row of May too few", []fault{mayShort}, api.ErrShape},
		{"a user's set is none", []fault{userWrong}, api.ErrRange},
		{"a row of Above is no set", []fault{rowWrong}, api.ErrRange},
		{"a ring", []fault{ring}, api.ErrClash},
		{"a set of May is none", []fault{mayWrong}, api.ErrRange},
		{"Few is no set", []fault{fewWrong}, api.ErrRange},
		{"Most below 0", []fault{mostLow}, api.ErrRange},
		{"Most above the most", []fault{mostHigh}, api.ErrRange},
		{"a user has too many", []fault{tooMuch}, api.ErrDenied},
		// of several faults the one that is named first is told
		{"a user too many, a row of May too many", []fault{usersMany, mayLong}, api.ErrFull},
		{"a role too many, a row of May too few", []fault{rolesMany, mayShort}, api.ErrFull},
		{"a role too many, and Above no relation", []fault{rolesMany, func(r *api.Roles) { r.Above[0] = 512 }}, api.ErrFull},
		{"a role too many, a user's set is none", []fault{rolesMany, func(r *api.Roles) { r.Users[0] = 512 }}, api.ErrFull},
		{"a user too many, and a ring", []fault{usersMany, ring}, api.ErrFull},
		{"a user too many, Most below 0", []fault{usersMany, mostLow}, api.ErrFull},
		{"a row of May too many, a user's set is none", []fault{mayLong, userWrong}, api.ErrShape},
		{"a row of May too few, a row of Above is no set", []fault{mayShort, rowWrong}, api.ErrShape},
		{"a row of May too few, and a ring", []fault{mayShort, ring}, api.ErrShape},
		{"a row of May too many, a set of May is none", []fault{mayLong, mayWrong}, api.ErrShape},
		{"a row of May too many, Few is no set", []fault{mayLong, fewWrong}, api.ErrShape},
		{"a row of May too few, a user has too many", []fault{mayShort, tooMuch}, api.ErrShape},
		{"a user's set is none, and a ring", []fault{userWrong, ring}, api.ErrRange},
		{"a user's set is none, a user has too many", []fault{userWrong, tooMuch}, api.ErrRange},
		{"a row of Above is no set, and a ring", []fault{rowWrong, func(r *api.Roles) { r.Above[0], r.Above[2] = 4, 1 }}, api.ErrRange},
		{"a ring, a set of May is none", []fault{ring, mayWrong}, api.ErrClash},
		{"a ring, Few is no set", []fault{ring, fewWrong}, api.ErrClash},
		{"a ring, Most below 0", []fault{ring, mostLow}, api.ErrClash},
		{"a ring, Most above the most", []fault{ring, mostHigh}, api.ErrClash},
		{"a ring, a user has too many", []fault{ring, tooMuch}, api.ErrClash},
		{"a set of May is none, a user has too many", []fault{tooMuch, mayWrong}, api.ErrRange},
		{"Few is no set, a user has too many", []fault{tooMuch, func(r *api.Roles) { r.Few = 15 }}, api.ErrRange},
		{"Most below 0, of all roles", []fault{tooMuch, mostLow}, api.ErrRange},
	} {
		r := chain()
		for _, spoil := range c.faults {
			spoil(&r)
		}
		holdCheck(t, c.name, r, c.want)
	}
}

// holdCheck: what Check tells all tell, ahead of what else is wrong, and they answer nothing beside it.
func holdCheck(t *testing.T, name string, r api.Roles, want api.Errno) {
	t.Helper()
	told(t, name, Check(r), want)
	if want == api.OK {
		return
	}
	for _, n := range append([]int{0, 1, 3, 8}, far...) {
		has, err := Has(r, n)
		told(t, name+": Has", err, want)
		may, err := May(r, n)
		told(t, name+": May", err, want)
		need, err := Need(r, n, 0)
		told(t, name+": Need", err, want)
		need2, err := Need(r, 0, n)
		told(t, name+": Need of tasks", err, want)
		if has != 0 || may != 0 || need != 0 || need2 != 0 {
			t.Errorf("%s: beside the error %b, %b, %b, %b", name, has, may, need, need2)
		}
	}
}

// TestCheckFarOff: numbers far off, and just off, wherever a number stands.
func TestCheckFarOff(t *testing.T) {
	for _, n := range []int{1, 3, 8} {
		for _, wrong := range append([]int{1 << n, 1<<n + 1}, far...) {
			for at := range n {
				r := apart(n)
				r.Users = make([]int, n)
				r.Users[at] = wrong
				holdCheck(t, "a user's set", r, api.ErrRange)
				r = apart(n)
				r.Above[at] = wrong
				holdCheck(t, "a row of Above", r, api.ErrRange)
			}
			r := apart(n)
			r.Few = wrong
			holdCheck(t, "Few", r, api.ErrRange)
		}
		for _, wrong := range far {
			for at := range n {
				r := apart(n)
				r.May[at] = wrong
				holdCheck(t, "a set of May", r, api.ErrRange)
			}
			r := apart(n)
			r.Most = wrong
			holdCheck(t, "Most", r, api.ErrRange)
		}
	}
	for _, many := range []int{9, 12, 13, 64, 100_000} {
		holdCheck(t, "many users", api.Roles{Users: make([]int, many)}, api.ErrFull)
		holdCheck(t, "many roles", api.Roles{Above: make([]int, many), May: make([]int, many)}, api.ErrFull)
		holdCheck(t, "many roles, and no May", api.Roles{Above: make([]int, many)}, api.ErrFull)
		holdCheck(t, "many rows of May", api.Roles{May: make([]int, many)}, api.ErrShape)
	}
	holdCheck(t, "a role where there is none", api.Roles{Users: []int{1}}, api.ErrRange)
	holdCheck(t, "Few where there is no role", api.Roles{Few: 1}, api.ErrRange)
}

func TestCheckRight(t *testing.T) {
	for _, c := range []struct {
		name string
		r    api.Roles
	}{
		{"nothing at all", api.Roles{}},
		{"empty lists", api.Roles{Users: []int{}, Above: []int{}, May: []int{}}},
		{"users, and no role", api.Roles{Users: make([]int, 8), Most: 8}},
		{"roles, and no user", api.Roles{Above: []int{0, 1}, May: []int{1, 1023}, Few: 3}},
		{"a chain", chain()},
		{"the greatest of all", greatest()},
		{"roles above themselves", api.Roles{Users: []int{3}, Above: []int{1, 2}, May: []int{0, 0}, Few: 3, Most: 2}},
		{"a task the last one of 10", api.Roles{Users: []int{1}, Above: []int{0}, May: []int{512}}},
		{"the least Most, of roles that nobody has", api.Roles{Users: []int{1, 3}, Above: make([]int, 3), May: make([]int, 3), Few: 4}},
	} {
		holdCheck(t, c.name, c.r, api.OK)
	}
}

func TestClash(t *testing.T) {
	for _, c := range []struct {
		name  string
		above []int
		want  api.Errno
	}{
		{"two above each other", []int{2, 1}, api.ErrClash},
		{"a ring of three", []int{2, 4, 1}, api.ErrClash},
		{"a ring beside others", []int{0, 4, 2}, api.ErrClash},
		{"a ring of eight", []int{2, 4, 8, 16, 32, 64, 128, 1}, api.ErrClash},
		{"above itself", []int{1}, api.OK},
		{"two ways down", []int{6, 8, 8, 0}, api.OK},
		{"one is above all, which are greater and less", []int{0, 5, 0}, api.OK},
	} {
		// nobody has a role: it is no order all the same
		holdCheck(t, c.name, api.Roles{Above: c.above, May: make([]int, len(c.above))}, c.want)
	}
}

func TestTooMany(t *testing.T) {
	for _, c := range []struct {
		name         string
		users, above []int
		few, most    int
		want         api.Errno
	}{
		{"as many as may be", []int{3}, []int{0, 0, 0}, 7, 2, api.OK},
		{"one more", []int{7}, []int{0, 0, 0}, 7, 2, api.ErrDenied},
		{"others do not count", []int{7}, []int{0, 0, 0}, 3, 2, api.OK},
		{"one, and none may be", []int{2}, []int{0, 0, 0}, 2, 0, api.ErrDenied},
		{"another one, and none may be", []int{5}, []int{0, 0, 0}, 2, 0, api.OK},
		{"of no roles none", []int{7}, []int{0, 0, 0}, 0, 0, api.OK},
		{"what comes with a role counts", []int{1}, []int{2, 0, 0}, 3, 1, api.ErrDenied},
		{"what comes with what comes with it counts", []int{1}, []int{2, 4, 0}, 4, 0, api.ErrDenied},
		{"what is above does not count", []int{4}, []int{2, 4, 0}, 3, 0, api.OK},
		{"what one has and gets once more counts once", []int{7}, []int{6, 4, 0}, 7, 3, api.OK},
		{"a role above itself counts once", []int{1}, []int{1, 0, 0}, 1, 1, api.OK},
		{"several users have as many together", []int{1, 2, 4}, []int{0, 0, 0}, 7, 1, api.OK},
		{"the last user has more", []int{1, 2, 4, 0, 1, 2, 4, 6}, []int{0, 0, 0}, 7, 1, api.ErrDenied},
		{"the first user has more", []int{6, 0, 0, 0, 0, 0, 0, 0}, []int{0, 0, 0}, 7, 1, api.ErrDenied},
		{"the last role of eight", []int{1}, []int{2, 4, 8, 16, 32, 64, 128, 0}, 128, 0, api.ErrDenied},
		{"eight of eight", []int{1}, []int{2, 4, 8, 16, 32, 64, 128, 0}, 255, 8, api.OK},
		{"eight of eight, and seven may be", []int{1}, []int{2, 4, 8, 16, 32, 64, 128, 0}, 255, 7, api.ErrDenied},
	} {
		holdCheck(t, c.name, api.Roles{Users: c.users, Above: c.above, May: make([]int, len(c.above)), Few: c.few, Most: c.most}, c.want)
	}
}

func TestHasAndMay(t *testing.T) {
	square := []int{6, 8, 8, 0}
	for _, c := range []struct {
		name       string
		user       int
		above, may []int
		has, tasks int
	}{
		{"no role", 0, []int{2, 0}, []int{1, 2}, 0, 0},
		{"there is no role", 0, nil, nil, 0, 0},
		{"one role", 2, []int{0, 0, 0}, []int{1, 6, 8}, 2, 6},
		{"two roles with one task", 5, []int{0, 0, 0}, []int{3, 8, 6}, 5, 7},
		{"a role without tasks", 1, []int{0}, []int{0}, 1, 0},
		{"what is below comes along", 1, []int{2, 0}, []int{1, 2}, 3, 3},
		{"what is below that one, too", 1, []int{2, 4, 0}, []int{1, 2, 4}, 7, 7},
		{"not what is above", 4, []int{2, 4, 0}, []int{1, 2, 4}, 4, 4},
		{"not what is beside", 2, square, []int{1, 2, 4, 8}, 10, 10},
		{"both ways down", 1, square, []int{1, 2, 4, 8}, 15, 15},
		{"from the greater number to the less", 4, []int{0, 1, 2}, []int{512, 256, 0}, 7, 768},
		{"over a role without tasks", 1, []int{2, 4, 0}, []int{0, 0, 512}, 7, 512},
		{"above itself", 1, []int{1, 0}, []int{3, 4}, 1, 3},
		{"what it has already", 3, []int{2, 0}, []int{1, 2}, 3, 3},
		{"down a chain of eight", 1, []int{2, 4, 8, 16, 32, 64, 128, 0}, []int{1, 2, 4, 8, 16, 32, 64, 896}, 255, 1023},
	} {
		// the one who is asked of stands between others
		r := api.Roles{Users: []int{0, c.user, 0}, Above: c.above, May: c.may, Most: 8}
		has, err := Has(r, 1)
		told(t, c.name+": Has", err, api.OK)
		may, err := May(r, 1)
		told(t, c.name+": May", err, api.OK)
		if has != c.has || may != c.tasks {
			t.Errorf("%s: has %b and may %b, want %b and %b", c.name, has, may, c.has, c.tasks)
		}
	}
}

func TestNeed(t *testing.T) {
	down, up := []int{2, 4, 0}, []int{0, 1, 2}
	flat := []int{0, 0, 0, 0}
	for _, c := range []struct {
		name       string
		user       int
		above, may []int
		want, need int
		told       api.Errno
	}{
		{"nothing", 7, down, []int{1, 2, 4}, 0, 0, api.OK},
		{"nothing, of no role", 0, down, []int{1, 2, 4}, 0, 0, api.OK},
		{"nothing, where there is no role", 0, nil, nil, 0, 0, api.OK},
		{"one task of one role", 7, down, []int{1, 2, 4}, 1, 1, api.OK},
		{"one task of a role below: the one above is the least number", 1, down, []int{1, 2, 4}, 4, 1, api.OK},
		{"one task of a role below: that is the least number", 4, up, []int{1, 2, 4}, 1, 1, api.OK},
		{"one task of the role between", 4, up, []int{1, 2, 4}, 2, 2, api.OK},
		{"only the one above has all", 4, up, []int{1, 2, 4}, 5, 4, api.OK},
		{"the role above has what is below", 1, down, []int{1, 2, 4}, 5, 1, api.OK},
		{"of those that came along the least that has it, too", 4, up, []int{1, 2, 2}, 2, 2, api.OK},
		{"roles above, that it has not, do not help", 4, down, []int{1, 2, 4}, 4, 4, api.OK},
		{"a role that another user has does not help", 6, down, []int{1, 2, 4}, 1, 0, api.ErrDenied},
		{"what is above does not come along", 2, down, []int{1, 2, 4}, 3, 0, api.ErrDenied},
		{"a task that no role has", 7, down, []int{1, 2, 4}, 8, 0, api.ErrDenied},
		{"one task of two is nobody's", 7, down, []int{1, 2, 4}, 516, 0, api.ErrDenied},
		{"no role, and a task", 0, down, []int{1, 2, 4}, 4, 0, api.ErrDenied},
		{"no role at all, and all tasks", 0, nil, nil, 1023, 0, api.ErrDenied},
		{"one that has all, though two less ones have, too", 15, flat, []int{1, 2, 0, 3}, 3, 8, api.OK},
		{"two of each are as good: the least number", 15, flat, []int{1, 2, 1, 2}, 3, 3, api.OK},
		{"the least number, not the least role first", 15, flat, []int{3, 6, 12, 9}, 15, 5, api.OK},
		{"the least number is that without the last role", 15, flat, []int{4, 3, 3, 4}, 7, 3, api.OK},
		{"whoever takes the greatest first takes three", 7, []int{0, 0, 0}, []int{15 << 1, 7, 7 << 3}, 63, 6, api.OK},
		{"more tasks than are wanted do no harm", 15, flat, []int{0, 1, 1022, 0}, 4, 4, api.OK},
		{"fewer tasks than a less role do not count", 15, flat, []int{1023, 4, 0, 0}, 4, 1, api.OK},
		{"all ten tasks, of two", 15, flat, []int{0, 31, 0, 992}, 1023, 10, api.OK},
		{"only of the roles it has", 14, flat, []int{3, 1, 2, 0}, 3, 6, api.OK},
		{"of one what it has, of the other one what comes along", 9, []int{2, 0, 0, 4}, []int{0, 1, 2, 0}, 3, 5, api.OK},
		{"of both what comes along", 12, []int{0, 0, 1, 2}, []int{512, 256, 4, 8}, 780, 12, api.OK},
		{"one above two is one role", 1, []int{6, 0, 0}, []int{0, 1, 2}, 3, 1, api.OK},
	} {
		r := api.Roles{Users: []int{1<<len(c.above) - 1, c.user}, Above: c.above, May: c.may, Most: 8}
		need, err := Need(r, 1, c.want)
		told(t, c.name, err, c.told)
		if need != c.need {
			t.Errorf("%s: needs %b, want %b", c.name, need, c.need)
		}
	}
}

// TestNeedOfMany: of roles with a task each there are as many needed as tasks.
func TestNeedOfMany(t *testing.T) {
	for n := range 9 {
		r := apart(n)
		for want := range 1 << n {
			if need, err := Need(r, 0, want); need != want || err != nil {
				t.Errorf("%d roles, tasks %b: needs %b, %v", n, want, need, err)
			}
		}
	}
	r := greatest()
	if need, err := Need(r, 7, 1023); need != 1 || err != nil {
		t.Errorf("where each role may all: needs %b, %v", need, err)
	}
}

// TestNoUser: of each number of users one behind the last is none, nor is any number far off, whatever else is asked.
func TestNoUser(t *testing.T) {
	for users := range 9 {
		r := chain()
		r.Users = slices.Repeat([]int{1}, users)
		for user := range users {
			if has, err := Has(r, user); has != 7 || err != nil {
				t.Errorf("%d users: user %d has %b, %v", users, user, has, err)
			}
		}
		for _, user := range append([]int{users, -users - 1}, far...) {
			has, err := Has(r, user)
			told(t, "Has", err, api.ErrRange)
			may, err := May(r, user)
			told(t, "May", err, api.ErrRange)
			// neither a task that nobody may do, nor one that is none, is told ahead
			for _, want := range []int{0, 1, 512, 1024, -1} {
				need, err := Need(r, user, want)
				told(t, "Need", err, api.ErrRange)
				if need != 0 {
					t.Errorf("%d users: user %d needs %b", users, user, need)
				}
			}
			if has != 0 || may != 0 {
				t.Errorf("%d users: user %d has %b and may %b", users, user, has, may)
			}
		}
	}
}

func TestNoTasks(t *testing.T) {
	for _, r := range []api.Roles{chain(), greatest(), {Users: []int{0}}} {
		for _, want := range far {
			need, err := Need(r, 0, want)
			told(t, "Need", err, api.ErrRange)
			if need != 0 {
				t.Errorf("of tasks %b there is needed %b", want, need)
			}
		}
	}
	if need, err := Need(greatest(), 0, 1023); need != 1 || err != nil {
		t.Errorf("of all tasks: needs %b, %v", need, err)
	}
}

// TestNothingIsShared: what is handed in stays, what lies behind it too, and the same is answered again.
func TestNothingIsShared(t *testing.T) {
	memory := [][]int{{1, 2, -7, -7}, {2, 4, 0, -8}, {1, 2, 4, -9}}
	r := api.Roles{Users: memory[0][:2], Above: memory[1][:3], May: memory[2][:3], Few: 7, Most: 3}
	for round := range 2 {
		told(t, "Check", Check(r), api.OK)
		has, err := Has(r, 1)
		told(t, "Has", err, api.OK)
		may, err := May(r, 1)
		told(t, "May", err, api.OK)
		need, err := Need(r, 0, 6)
		told(t, "Need", err, api.OK)
		if has != 6 || may != 6 || need != 1 {
			t.Errorf("round %d: got %b, %b, %b", round, has, may, need)
		}
		for k, want := range [][]int{{1, 2, -7, -7}, {2, 4, 0, -8}, {1, 2, 4, -9}} {
			if !slices.Equal(memory[k], want) {
				t.Fatalf("round %d: what was handed in is %v now", round, memory[k])
			}
		}
	}
	// what is handed in changes, and nothing of it was kept
	r.Above[0], r.Users[0] = 0, 3
	if need, err := Need(r, 0, 5); need != 3 || err != nil {
		t.Errorf("behind a change: needs %b, %v", need, err)
	}
}

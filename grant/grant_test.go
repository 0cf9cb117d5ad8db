package grant

import (
	"math"
	"slices"
	"testing"

	"quietwing/api"
	"quietwing/plain"
)

func told(t *testing.T, what string, err error, want api.Errno) {
	t.Helper()
	if got := plain.Told(err); got != want {
		t.Errorf("%s: got %v, want %v", what, got, want)
	}
}

// pair is from whom to whom something is granted.
type pair struct{ from, to int }

// given has grants of these pairs at the times 0, 1, 2 and so on.
func given(pairs ...pair) []api.Given {
	var l []api.Given
	for i, p := range pairs {
		l = append(l, api.Given{From: p.from, To: p.to, Time: i})
	}
	return l
}

// timed has grants of user 0 to user 1 at these times.
func timed(times ...int) []api.Given {
	var l []api.Given
	for _, at := range times {
		l = append(l, api.Given{From: 0, To: 1, Time: at})
	}
	return l
}

// many has so many right grants, and behind them those that are named.
func many(n int, more ...api.Given) []api.Given {
	return append(given(slices.Repeat([]pair{{0, 0}}, n)...), more...)
}

// far are numbers that are no user's, however many users there are.
var far = []int{math.MinInt, -1 << 32, -64, -1, 8, 63, 64, 1 << 32, math.MaxInt}

func TestCheckWrong(t *testing.T) {
	for _, c := range []struct {
		name  string
		users int
		l     []api.Given
		want  api.Errno
	}{
		{"no users", 0, nil, api.ErrRange},
		{"fewer than no users", -1, nil, api.ErrRange},
		{"a user too many", 9, nil, api.ErrRange},
		{"the least of users", math.MinInt, nil, api.ErrRange},
		{"the most of users", math.MaxInt, nil, api.ErrRange},
		{"only the users' low bits are right", 1<<32 + 2, nil, api.ErrRange},
		{"a user too many, and a grant too many", 9, many(41), api.ErrRange},
		{"no users, and a grant too many", 0, many(41), api.ErrRange},
		{"no users, and one who has it not grants", 0, given(pair{1, 0}), api.ErrRange},
		{"a grant too many", 1, many(41), api.ErrFull},
		{"far too many grants", 8, many(1000), api.ErrFull},
		{"a grant too many, and the first from nobody", 2, many(40, api.Given{From: 2, Time: 50}), api.ErrFull},
		{"a grant too many, all at one time", 2, make([]api.Given, 41), api.ErrFull},
		{"a grant too many, by one who has it not", 2, many(40, api.Given{From: 1, Time: 50}), api.ErrFull},
		{"from one behind the last user", 3, given(pair{3, 0}), api.ErrRange},
		{"from one ahead of the first user", 3, given(pair{-1, 0}), api.ErrRange},
		{"to one behind the last user", 3, given(pair{0, 3}), api.ErrRange},
		{"to one ahead of the first user", 3, given(pair{0, -1}), api.ErrRange},
		{"to one behind the last of 8", 8, given(pair{0, 8}), api.ErrRange},
		{"to one behind the last of 1", 1, given(pair{0, 1}), api.ErrRange},
		{"the least number grants", 8, given(pair{math.MinInt, 0}), api.ErrRange},
		{"the greatest number is granted to", 8, given(pair{0, math.MaxInt}), api.ErrRange},
		{"only the giver's low bits are right", 8, given(pair{1 << 32, 0}), api.ErrRange},
		{"the last grant is to nobody", 8, many(39, api.Given{To: 8, Time: 50}), api.ErrRange},
		{"a time below 0", 2, timed(-1), api.ErrRange},
		{"a time above the greatest", 2, timed(1_000_000), api.ErrRange},
		{"the least time", 2, timed(math.MinInt), api.ErrRange},
		{"the greatest number as a time", 2, timed(math.MaxInt), api.ErrRange},
		{"a time below 0 behind one", 2, timed(0, -1), api.ErrRange},
		{"a time above the greatest behind one", 2, timed(0, 1_000_000), api.ErrRange},
		{"the same time at 0", 2, timed(0, 0), api.ErrShape},
		{"the same time", 2, timed(3, 7, 7), api.ErrShape},
		{"the same time at the greatest", 2, timed(999_999, 999_999), api.ErrShape},
		{"a time back by 1", 2, timed(7, 6), api.ErrShape},
		{"a time back, above an earlier one", 2, timed(3, 7, 5), api.ErrShape},
		{"the last of 40 at the same time", 2, many(39, api.Given{Time: 38}), api.ErrShape},
		{"by one who has it not", 2, given(pair{1, 0}), api.ErrDenied},
		{"by the last user, who has it not", 8, given(pair{7, 1}), api.ErrDenied},
		{"to oneself, who has it not", 2, given(pair{1, 1}), api.ErrDenied},
		{"by one who gets it with the next one", 3, given(pair{1, 2}, pair{0, 1}), api.ErrDenied},
		{"by one who has it not, behind others", 4, given(pair{0, 1}, pair{1, 2}, pair{3, 1}), api.ErrDenied},
		{"by each other alone", 3, given(pair{1, 2}, pair{2, 1}), api.ErrDenied},
		{"the last of 40 by one who has it not", 2, many(39, api.Given{From: 1, Time: 50}), api.ErrDenied},
		// in one grant what is named first is told
		{"from nobody, at the same time", 2, append(timed(5), api.Given{From: 2, Time: 5}), api.ErrRange},
		{"to nobody, at the same time", 2, append(timed(5), api.Given{To: 2, Time: 5}), api.ErrRange},
		{"to nobody, by one who has it not", 2, given(pair{1, 2}), api.ErrRange},
		{"a time below 0, by one who has it not", 2, []api.Given{{From: 1, To: 0, Time: -1}}, api.ErrRange},
		{"the same time, by one who has it not", 3, append(timed(5), api.Given{From: 2, Time: 5}), api.ErrShape},
		// of several grants the first that has a fault is told
		{"by one who has it not, then to nobody", 2, given(pair{1, 0}, pair{0, 2}), api.ErrDenied},
		{"by one who has it not, then the same time", 2, []api.Given{{From: 1, Time: 4}, {Time: 4}}, api.ErrDenied},
		{"the same time, then to nobody", 2, append(timed(4, 4), api.Given{To: 2, Time: 6}), api.ErrShape},
		{"the same time, then by one who has it not", 3, append(timed(4, 4), api.Given{From: 2, Time: 6}), api.ErrShape},
		{"to nobody, then the same time", 2, []api.Given{{To: 2, Time: 4}, {Time: 4}}, api.ErrRange},
		{"to nobody, then by one who has it not", 2, given(pair{0, 2}, pair{1, 0}), api.ErrRange},
	} {
		holdCheck(t, c.name, c.users, c.l, c.want)
	}
}

// holdCheck: what Check tells all tell, ahead of what else is wrong, and they answer nothing beside it.
func holdCheck(t *testing.T, name string, users int, l []api.Given, want api.Errno) {
	t.Helper()
	told(t, name, Check(users, l), want)
	if want == api.OK {
		return
	}
	for _, user := range append(far, 0, 1) {
		set, err := Holds(users, l)
		told(t, name+": Holds", err, want)
		left, err := Revoke(users, l, user, 0)
		told(t, name+": Revoke", err, want)
		path, err := Path(users, l, user)
		told(t, name+": Path", err, want)
		if set != 0 || left != nil || path != nil {
			t.Errorf("%s: beside the error %b, %v, %v", name, set, left, path)
		}
	}
}

func TestHolds(t *testing.T) {
	for _, c := range []struct {
		name  string
		users int
		l     []api.Given
		want  int
	}{
		{"nothing was granted", 1, nil, 1},
		{"nothing was granted among 8", 8, []api.Given{}, 1},
		{"user 0 to itself", 1, given(pair{0, 0}), 1},
		{"to the last user", 8, given(pair{0, 7}), 0b10000001},
		{"on and on", 8, given(pair{0, 7}, pair{7, 6}, pair{6, 5}), 0b11100001},
		{"to one twice", 3, given(pair{0, 2}, pair{0, 2}), 0b101},
		{"to oneself, who has it", 2, given(pair{0, 1}, pair{1, 1}), 0b11},
		{"back to user 0", 2, given(pair{0, 1}, pair{1, 0}), 0b11},
		{"to all", 8, given(pair{0, 1}, pair{1, 2}, pair{0, 3}, pair{2, 4}, pair{4, 5}, pair{0, 6}, pair{6, 7}), 0xff},
		{"the most of grants", 1, many(40), 1},
		{"the first time and the last one", 2, timed(0, 999_999), 0b11},
		{"only the first time", 2, timed(0), 0b11},
		{"only the last time", 2, timed(999_999), 0b11},
		{"the last grant is by whom the one ahead is to", 3, many(38, api.Given{To: 2, Time: 50}, api.Given{From: 2, To: 1, Time: 51}), 0b111},
	} {
		told(t, c.name, Check(c.users, c.l), api.OK)
		got, err := Holds(c.users, c.l)
		told(t, c.name, err, api.OK)
		if got != c.want {
			t.Errorf("%s: got %b, want %b", c.name, got, c.want)
		}
	}
}

func TestRevoke(t *testing.T) {
	for _, c := range []struct {
		name     string
		l        []api.Given
		from, to int
		keep     []int // places of what is left
		want     api.Errno
	}{
		{"the only one", given(pair{0, 1}), 0, 1, nil, api.OK},
		{"all of the same, at several times", given(pair{0, 1}, pair{0, 2}, pair{0, 1}, pair{0, 1}), 0, 1, []int{1}, api.OK},
		{"what hangs on it", given(pair{0, 1}, pair{1, 2}), 0, 1, nil, api.OK},
		{"what hangs on what hangs on it", given(pair{0, 1}, pair{1, 2}, pair{2, 3}, pair{3, 4}), 0, 1, nil, api.OK},
		{"from the middle on", given(pair{0, 1}, pair{1, 2}, pair{2, 3}, pair{3, 4}), 1, 2, []int{0}, api.OK},
		{"from the end", given(pair{0, 1}, pair{1, 2}, pair{2, 3}, pair{3, 4}), 3, 4, []int{0, 1, 2}, api.OK},
		{"another one granted it before", given(pair{0, 1}, pair{0, 2}, pair{2, 1}, pair{1, 3}), 0, 1, []int{1, 2, 3}, api.OK},
		{"another one granted it, but later", given(pair{0, 1}, pair{0, 2}, pair{1, 3}, pair{2, 1}), 0, 1, []int{1, 3}, api.OK},
		{"of what one granted, what was later stays", given(pair{0, 1}, pair{1, 3}, pair{0, 2}, pair{2, 1}, pair{1, 3}, pair{1, 4}), 0, 1, []int{2, 3, 4, 5}, api.OK},
		{"back and forth does not last", given(pair{0, 1}, pair{1, 2}, pair{2, 1}, pair{1, 2}), 0, 1, nil, api.OK},
		{"back and forth lasts where somebody else granted it ahead", given(pair{0, 1}, pair{1, 2}, pair{0, 2}, pair{2, 1}, pair{1, 2}), 0, 1, []int{2, 3, 4}, api.OK},
		{"to itself does not last", given(pair{0, 1}, pair{1, 1}, pair{1, 1}, pair{1, 2}), 0, 1, nil, api.OK},
		{"to itself lasts behind another one", given(pair{0, 1}, pair{0, 2}, pair{2, 1}, pair{1, 1}), 0, 1, []int{1, 2, 3}, api.OK},
		{"what is to itself", given(pair{0, 1}, pair{1, 1}, pair{1, 2}), 1, 1, []int{0, 2}, api.OK},
		{"user 0 to itself", given(pair{0, 0}, pair{0, 1}, pair{0, 0}), 0, 0, []int{1}, api.OK},
		{"to user 0, who has it all the same", given(pair{0, 1}, pair{1, 0}, pair{0, 2}, pair{2, 3}), 1, 0, []int{0, 2, 3}, api.OK},
		{"user 0's own stay though what is to it goes", given(pair{0, 1}, pair{1, 0}, pair{0, 2}), 0, 1, []int{2}, api.OK},
		{"the same the other way stays", given(pair{0, 1}, pair{1, 2}, pair{0, 2}, pair{2, 1}), 2, 1, []int{0, 1, 2}, api.OK},
		{"others of the same giver stay", given(pair{0, 1}, pair{1, 2}, pair{1, 3}), 1, 2, []int{0, 2}, api.OK},
		{"others to the same user stay", given(pair{0, 1}, pair{0, 2}, pair{1, 3}, pair{2, 3}, pair{3, 4}), 1, 3, []int{0, 1, 3, 4}, api.OK},
		{"the most of grants", many(39, api.Given{To: 1, Time: 999_999}), 0, 0, []int{39}, api.OK},
		{"the last of the most", many(38, api.Given{To: 1, Time: 50}, api.Given{From: 1, To: 1, Time: 51}), 1, 1, counted(39), api.OK},
		{"nothing was granted", nil, 0, 1, nil, api.ErrNone},
		{"only the other way", given(pair{0, 1}, pair{1, 2}), 2, 1, nil, api.ErrNone},
		{"only over another one", given(pair{0, 1}, pair{1, 2}), 0, 2, nil, api.ErrNone},
		{"by one who has it not", given(pair{0, 1}), 4, 1, nil, api.ErrNone},
		{"to itself, where it is not", given(pair{0, 1}, pair{1, 2}), 1, 1, nil, api.ErrNone},
	} {
		got, err := Revoke(5, c.l, c.from, c.to)
		told(t, c.name, err, c.want)
		var left []api.Given
		for _, at := range c.keep {
			left = append(left, c.l[at])
		}
		if !slices.Equal(got, left) || err != nil && got != nil {
			t.Errorf("%s: got %v, want %v", c.name, got, left)
		}
	}
}

func counted(n int) []int {
	var out []int
	for i := range n {
		out = append(out, i)
	}
	return out
}

func TestPath(t *testing.T) {
	for _, c := range []struct {
		name string
		l    []api.Given
		user int
		path []int
		want api.Errno
	}{
		{"user 0 alone", nil, 0, []int{0}, api.OK},
		{"user 0, to whom it was granted, too", given(pair{0, 1}, pair{1, 0}), 0, []int{0}, api.OK},
		{"user 0, who granted it to itself", given(pair{0, 0}), 0, []int{0}, api.OK},
		{"at once", given(pair{0, 4}), 4, []int{0, 4}, api.OK},
		{"on and on", given(pair{0, 4}, pair{4, 3}, pair{3, 2}, pair{2, 1}), 1, []int{0, 4, 3, 2, 1}, api.OK},
		{"only as far as is asked", given(pair{0, 4}, pair{4, 3}, pair{3, 2}, pair{2, 1}), 3, []int{0, 4, 3}, api.OK},
		{"the earliest, though it is longer", given(pair{0, 1}, pair{1, 2}, pair{2, 3}, pair{0, 3}), 3, []int{0, 1, 2, 3}, api.OK},
		{"the earliest, though its giver is greater", given(pair{0, 2}, pair{0, 1}, pair{2, 3}, pair{1, 3}), 3, []int{0, 2, 3}, api.OK},
		{"the earliest to its giver, too", given(pair{0, 2}, pair{2, 1}, pair{0, 1}, pair{1, 3}), 3, []int{0, 2, 1, 3}, api.OK},
		{"not round to user 0", given(pair{0, 1}, pair{1, 0}, pair{0, 2}), 2, []int{0, 2}, api.OK},
		{"not over oneself", given(pair{0, 1}, pair{1, 1}, pair{1, 2}, pair{2, 2}), 2, []int{0, 1, 2}, api.OK},
		{"not back and forth", given(pair{0, 1}, pair{1, 2}, pair{2, 1}, pair{1, 2}, pair{2, 3}), 3, []int{0, 1, 2, 3}, api.OK},
		{"the last of the most of grants", many(38, api.Given{To: 2, Time: 50}, api.Given{From: 2, To: 4, Time: 51}), 4, []int{0, 2, 4}, api.OK},
		{"nothing was granted", nil, 1, nil, api.ErrNone},
		{"not to the last user", given(pair{0, 1}, pair{1, 2}), 4, nil, api.ErrNone},
	} {
		got, err := Path(5, c.l, c.user)
		told(t, c.name, err, c.want)
		if !slices.Equal(got, c.path) || err != nil && got != nil {
			t.Errorf("%s: got %v, want %v", c.name, got, c.path)
		}
	}
}

// TestNoUser: of each number of users one behind the last is none, nor is any number far off, whatever else is asked.
func TestNoUser(t *testing.T) {
	for users := 1; users <= 8; users++ {
		l := given(pair{0, users - 1})
		if _, err := Path(users, l, users-1); err != nil {
			t.Errorf("%d users: Path of the last one: %v", users, err)
		}
		if _, err := Revoke(users, l, 0, users-1); err != nil {
			t.Errorf("%d users: Revoke of the last one: %v", users, err)
		}
		for _, user := range append(far, users) {
			path, err := Path(users, l, user)
			told(t, "Path", err, api.ErrRange)
			if path != nil {
				t.Errorf("%d users: user %d has the path %v", users, user, path)
			}
			for _, p := range []pair{{user, 0}, {0, user}, {user, users - 1}, {users - 1, user}, {user, user}} {
				left, err := Revoke(users, l, p.from, p.to)
				told(t, "Revoke", err, api.ErrRange)
				if left != nil {
					t.Errorf("%d users: Revoke %v leaves %v", users, p, left)
				}
			}
		}
	}
}

// TestNothingIsShared: what is handed in stays, what lies behind it too, and what comes out is fresh each time.
func TestNothingIsShared(t *testing.T) {
	memory := append(given(pair{0, 1}, pair{0, 2}, pair{1, 2}, pair{2, 3}), api.Given{From: -9, To: -9, Time: -9})
	want := slices.Clone(memory)
	l := memory[:4]
	for round := range 2 {
		left, err := Revoke(4, l, 0, 1)
		told(t, "Revoke", err, api.OK)
		path, err2 := Path(4, l, 3)
		told(t, "Path", err2, api.OK)
		set, err3 := Holds(4, l)
		told(t, "Holds", err3, api.OK)
		if !slices.Equal(left, []api.Given{want[1], want[3]}) || !slices.Equal(path, []int{0, 2, 3}) || set != 0xf {
			t.Errorf("round %d: got %v, %v, %b", round, left, path, set)
		}
		clear(left[:cap(left)])
		clear(path[:cap(path)])
		if !slices.Equal(memory, want) {
			t.Fatalf("round %d: what was handed in is %v now", round, memory)
		}
	}
}

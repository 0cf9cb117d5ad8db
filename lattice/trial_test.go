package lattice

import (
	"testing"

	"quietwing/api"
	"quietwing/plain"
)

// table tells of any two things whether the second one is come to from the first one, by going over each thing in between in turn.
func table(r []int) [][]bool {
	n := len(r)
	come := make([][]bool, n)
	for a := range n {
		come[a] = make([]bool, n)
		for b := range n {
			come[a][b] = a == b || r[a]>>b&1 == 1
		}
	}
	for over := range n {
		for a := range n {
			for b := range n {
				come[a][b] = come[a][b] || come[a][over] && come[over][b]
			}
		}
	}
	return come
}

func isOrder(come [][]bool) bool {
	for a := range come {
		for b := range a {
			if come[a][b] && come[b][a] {
				return false
			}
		}
	}
	return true
}

// tried tries each thing as the bound of a and b, by the words of the promise: -1 if there is none.
func tried(n, a, b int, beyond func(x, y int) bool) int {
	found := -1
	for x := range n {
		good := beyond(a, x) && beyond(b, x)
		for y := range n {
			if beyond(a, y) && beyond(b, y) && !beyond(x, y) {
				good = false
			}
		}
		if good {
			found = x
		}
	}
	return found
}

// holdAgainst holds all calls on a relation against the words of the promise, tried out plainly.
func holdAgainst(t *testing.T, r []int) {
	t.Helper()
	come := table(r)
	if !isOrder(come) {
		_, err := Join(r, 0, 0)
		told(t, "Join", err, api.ErrClash)
		_, err = Meet(r, 0, 0)
		told(t, "Meet", err, api.ErrClash)
		_, err = Is(r)
		told(t, "Is", err, api.ErrClash)
		return
	}
	up := func(x, y int) bool { return come[x][y] }
	down := func(x, y int) bool { return come[y][x] }
	all := len(r) > 0
	for a := range r {
		for b := range r {
			join, meet := tried(len(r), a, b, up), tried(len(r), a, b, down)
			all = all && join >= 0 && meet >= 0
			got, err := Join(r, a, b)
			hold(t, "Join", got, err, join)
			got, err = Meet(r, a, b)
			hold(t, "Meet", got, err, meet)
		}
	}
	if is, err := Is(r); is != all || plain.Told(err) != api.OK {
		t.Errorf("Is: got %v, %v, want %v", is, err, all)
	}
	if t.Failed() {
		t.Fatalf("at %v", r)
	}
}

func TestAllSmall(t *testing.T) {
	for n := range 5 {
		for all := range 1 << (n * n) {
			r := make([]int, n)
			for i := range r {
				r[i] = all >> (i * n) & (1<<n - 1)
			}
			holdAgainst(t, r)
		}
	}
}

// TestSomeGreat: orders of up to 12 things, with and without a thing below and above all, under any numbering, by a rule that is the same each time.
func TestSomeGreat(t *testing.T) {
	seed := uint32(7)
	next := func(below int) int {
		seed = seed*1664525 + 1013904223
		return int(seed>>8) % below
	}
	for round := range 4000 {
		n := 3 + next(10)
		number := make([]int, n)
		for i := range number {
			k := next(i + 1)
			number[i], number[k] = number[k], i
		}
		r := make([]int, n)
		for low := range n {
			for high := low + 1; high < n; high++ {
				ends := round%3 > 0 && (low == 0 || high == n-1)
				if ends || next(n) < 2 {
					r[number[low]] |= 1 << number[high]
				}
			}
			r[number[low]] |= next(2) << number[low]
		}
		holdAgainst(t, r)
	}
}

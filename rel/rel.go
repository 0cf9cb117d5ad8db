// Package rel has relations between few things.
package rel

import (
	"iter"
	"math/bits"

	"quietwing/api"
)

// Check tells what is wrong with a relation.
func Check(r []int) error {
	if len(r) > api.MaxThings {
		return api.ErrFull
	}
	for _, row := range r {
		if !IsSet(row, len(r)) {
			return api.ErrRange
		}
	}
	return nil
}

// Closure of a relation.
func Closure(r []int) ([]int, error) {
	if err := Check(r); err != nil {
		return nil, err
	}
	return closure(r), nil
}

// Order tells whether no two things are come to from each other.
func Order(r []int) (bool, error) {
	if err := Check(r); err != nil {
		return false, err
	}
	return isOrder(closure(r)), nil
}

// OrderClosure is the Closure of an order; ErrClash, if it is none.
func OrderClosure(r []int) ([]int, error) {
	c, err := Closure(r)
	if err != nil {
		return nil, err
	}
	if !isOrder(c) {
		return nil, api.ErrClash
	}
	return c, nil
}

// Reduce an order to its steps.
func Reduce(r []int) ([]int, error) {
	c, err := OrderClosure(r)
	if err != nil {
		return nil, err
	}
	others := withoutSelf(c)
	out := make([]int, len(r))
	for i, set := range others {
		// In an order nothing leads back, so a thing that another one of the set comes to is come to over that one.
		out[i] = set &^ Step(others, set)
	}
	return out, nil
}

// Way from a thing to another one, the shortest.
func Way(r []int, a, b int) ([]int, error) {
	if err := Check(r); err != nil {
		return nil, err
	}
	if !IsThing(r, a) || !IsThing(r, b) {
		return nil, api.ErrRange
	}
	way := WayInto(r, a, 1<<b)
	if way == nil {
		return nil, api.ErrNone
	}
	return way, nil
}

// WayInto a set from a thing: the shortest, of several the one with the least thing where they differ first; nil, if there is none. It does not ask for Check: other layers have relations of more things.
func WayInto(r []int, a, set int) []int {
	nearer, ok := layers(r, a, set)
	if !ok {
		return nil
	}
	way := []int{a}
	at := a
	for k := len(nearer) - 1; k >= 0; k-- {
		// Any thing of the next layer keeps the way shortest, so the least one makes it the first.
		at = least(r[at] & nearer[k])
		way = append(way, at)
	}
	return way
}

// Things of a set, rising.
func Things(set int) iter.Seq[int] {
	return func(yield func(int) bool) {
		for left := set; left != 0; left &= left - 1 {
			if !yield(least(left)) {
				return
			}
		}
	}
}

// least thing of a set that is not empty.
func least(set int) int { return bits.TrailingZeros64(uint64(set)) }

func has(set, i int) bool { return set>>i&1 == 1 }

// IsThing tells whether a relation has a row for i.
func IsThing(r []int, i int) bool { return i >= 0 && i < len(r) }

// IsSet tells whether a number is a set of so many things.
func IsSet(set, things int) bool { return set >= 0 && set < 1<<things }

// Step gives all to which some thing of a set leads. It does not ask for Check: rows may be sets of other things.
func Step(r []int, set int) int {
	to := 0
	for i := range Things(set) {
		to |= r[i]
	}
	return to
}

// closure of a relation that was checked.
func closure(r []int) []int {
	out := make([]int, len(r))
	for i := range r {
		out[i] = spread(r, i)
	}
	return out
}

// spread gives all that are come to from a thing, and the thing itself.
func spread(r []int, from int) int {
	found := 0
	for fresh := 1 << from; fresh != 0; fresh = Step(r, fresh) &^ found {
		found |= fresh
	}
	return found
}

// isOrder asks it of a closure.
func isOrder(c []int) bool {
	for i, set := range withoutSelf(c) {
		for k := range Things(set) {
			if has(c[k], i) {
				return false
			}
		}
	}
	return true
}

func withoutSelf(r []int) []int {
	out := make([]int, len(r))
	for i, set := range r {
		out[i] = set &^ (1 << i)
	}
	return out
}

// Turned leads from each thing to those that led to it.
func Turned(r []int) []int {
	out := make([]int, len(r))
	for k := range out {
		for i, set := range r {
			if has(set, k) {
				out[k] |= 1 << i
			}
		}
	}
	return out
}

// layers gives the things that are 0, 1, 2 and so on steps ahead of a set, as far as they are nearer to it than a; false if it is not come to from a.
func layers(r []int, a, set int) ([]int, bool) {
	back := Turned(r)
	var out []int
	seen := 0
	for layer := set; layer != 0; layer = Step(back, layer) &^ seen {
		if has(layer, a) {
			return out, true
		}
		seen |= layer
		out = append(out, layer)
	}
	return nil, false
}

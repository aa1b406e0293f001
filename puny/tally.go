package puny

import "math/bits"

// tally counts things at places. Its sums are over stretches of places (that of the index i ends at i, and is as long as the lowest bit of i), so that no call goes through all places.
type tally []int

// newTally has nothing at so many places.
func newTally(places int) tally {
	return make(tally, places+1)
}

// add makes what is at a place so many more.
func (t tally) add(place, many int) {
	for i := place + 1; i < len(t); i += i & -i {
		t[i] += many
	}
}

// ahead is how many are ahead of a place.
func (t tally) ahead(place int) int {
	sum := 0
	for i := place; i > 0; i -= i & -i {
		sum += t[i]
	}
	return sum
}

// find is the place of the one ahead of which there are so many.
func (t tally) find(many int) int {
	place := 0
	for step := 1 << bits.Len(uint(len(t))); step > 0; step /= 2 {
		if to := place + step; to < len(t) && t[to] <= many {
			place = to
			many -= t[to]
		}
	}
	return place
}

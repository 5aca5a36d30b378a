package same

import "slices"

// order of elements, or the beginning of one: the numbers of the first
// elements, and what each set of these becomes.
type order struct{ numbers, images []int }

// begin with no element, and with room for n.
func begin(n int) order {
	return order{numbers: make([]int, 0, n), images: make([]int, 1, 1<<n)}
}

// with the number x for the next element. This takes the room behind o, so of
// those that were made of o only the last holds.
func (o order) with(x int) order {
	for _, image := range o.images {
		o.images = append(o.images, image|1<<x)
	}
	o.numbers = append(o.numbers, x)
	return o
}

// eachOrder hands to found the orders of n elements all of whose beginnings
// fit, rising, as long as it says that more are wanted.
func eachOrder(n int, fits, found func(o order) bool) {
	begin(n).goOn(n, fits, found)
}

// goOn with the orders that begin with o: are more wanted behind them?
func (o order) goOn(n int, fits, found func(o order) bool) bool {
	if len(o.numbers) == n {
		return found(o)
	}
	for x := range n {
		if slices.Contains(o.numbers, x) {
			continue
		}
		longer := o.with(x)
		if fits(longer) && !longer.goOn(n, fits, found) {
			return false
		}
	}
	return true
}

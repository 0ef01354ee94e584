package store

// row is things that are counted from 1.
type row[T any] struct{ things []T }

// add puts a thing behind the others, and tells its number.
func (r *row[T]) add(thing T) int {
	r.things = append(r.things, thing)
	return r.last()
}

// last is the greatest number, 0 if there is nothing.
func (r *row[T]) last() int { return len(r.things) }

// at is the thing with a number; false if there is none.
func (r *row[T]) at(number int) (thing T, ok bool) {
	if number < 1 || number > r.last() {
		return thing, false
	}
	return r.things[number-1], true
}

package link

// queue is where things wait in order. It is one of link's own, as link stands on api alone.
type queue[T any] struct {
	room   int
	things []T
}

// put puts a thing behind the others, if there is room; else it is lost.
func (q *queue[T]) put(x T) {
	if len(q.things) < q.room {
		q.things = append(q.things, x)
	}
}

// take takes the first thing, if there is one.
func (q *queue[T]) take() (T, bool) {
	var none T
	if len(q.things) == 0 {
		return none, false
	}
	x := q.things[0]
	// The list stays in the same memory, in which the thing would be kept.
	q.things[0] = none
	q.things = q.things[1:]
	return x, true
}

// empty takes all things away.
func (q *queue[T]) empty() { q.things = nil }

package drum

// queue is things that are taken out in the order in which they were put in.
type queue[T any] struct{ things []T }

func (q *queue[T]) isEmpty() bool { return len(q.things) == 0 }

func (q *queue[T]) put(t T) { q.things = append(q.things, t) }

// take takes out the first thing of a queue that is not empty.
func (q *queue[T]) take() T {
	first := q.things[0]
	q.things = q.things[1:]
	return first
}

package hearth

import "slices"

const (
	maxWait = 300
	maxOut  = 250
)

// queue is bytes that wait, the first one to go ahead of the others.
type queue struct{ bytes []byte }

func (q *queue) size() int { return len(q.bytes) }

func (q *queue) add(bytes string) { q.bytes = append(q.bytes, bytes...) }

// drop lets the first bytes go, at most so many, and answers them.
func (q *queue) drop(most int) string {
	n := min(most, q.size())
	gone := string(q.bytes[:n])
	q.bytes = slices.Delete(q.bytes, 0, n)
	return gone
}

// inbox is what waits to be read.
type inbox struct{ queue }

// admit adds as many bytes as there is room for, and answers how many that were.
func (i *inbox) admit(bytes string) int {
	n := min(len(bytes), maxWait-i.size())
	i.add(bytes[:n])
	return n
}

// outbox is what waits to be taken.
type outbox struct{ queue }

func (o *outbox) isFull() bool { return o.size() >= maxOut }

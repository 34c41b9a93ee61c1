package hearth

import (
	"slices"

	"hearth/request"
)

const (
	maxWait = 300
	maxOut  = 250
)

// connection is an open one. While it is not blocked, nothing of unread is left.
type connection struct {
	doing  doing
	unread []byte
	out    []byte // waits to be taken
}

// doing is what a connection is doing.
type doing interface {
	// read reads a byte; a request that is over with it is answered as well.
	read(b byte) (doing, *request.Request)
	// held tells how many bytes were read of a request that is not over.
	held() int
	// listens tells whether bytes are read at all.
	listens() bool
}

// resting: no byte of a next request was read.
type resting struct{}

// reading: a request was begun and is not over.
type reading struct{ reader *request.Reader }

// leaving: the last answer was made.
type leaving struct{}

func (resting) read(b byte) (doing, *request.Request) {
	return reading{request.NewReader()}.read(b)
}

func (resting) held() int { return 0 }

func (resting) listens() bool { return true }

func (r reading) read(b byte) (doing, *request.Request) {
	if !r.reader.Read(b) {
		return r, nil
	}
	asked := r.reader.Request()
	return resting{}, &asked
}

func (r reading) held() int { return r.reader.Count() }

func (reading) listens() bool { return true }

func (leaving) read(byte) (doing, *request.Request) { return leaving{}, nil }

func (leaving) held() int { return 0 }

func (leaving) listens() bool { return false }

func (c *connection) isBlocked() bool { return len(c.out) >= maxOut }

func (c *connection) reads() bool { return c.doing.listens() && !c.isBlocked() }

func (c *connection) isDone() bool { return !c.doing.listens() && len(c.out) == 0 }

func (c *connection) kept() int {
	return c.doing.held() + len(c.unread) + len(c.out)
}

// putAside lets bytes wait until the connection is not blocked any more, and answers for how many there was room.
func (c *connection) putAside(bytes string) int {
	if !c.doing.listens() {
		return 0
	}
	room := min(len(bytes), maxWait-len(c.unread))
	c.unread = append(c.unread, bytes[:room]...)
	return room
}

func (c *connection) take(most int) string {
	n := min(most, len(c.out))
	taken := string(c.out[:n])
	c.out = slices.Delete(c.out, 0, n)
	return taken
}

// forget drops the unread bytes that have been read now, and all of them behind a last answer.
func (c *connection) forget(read int) {
	if !c.doing.listens() {
		read = len(c.unread)
	}
	c.unread = slices.Delete(c.unread, 0, read)
}

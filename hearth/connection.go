package hearth

// connection is an open one. It embeds what it is doing, so that it can be asked as that is.
// While it is not blocked, nothing of unread is left.
type connection struct {
	doing
	id     int
	unread inbox
	out    outbox
}

// reads tells whether the next byte is read now: the connection is not blocked, and has made no last answer.
func (c *connection) reads() bool { return c.listens() && !c.out.isFull() }

// rests tells whether nothing of a next request has come: none of it was read, and none waits to be read.
func (c *connection) rests() bool {
	_, ok := c.doing.(resting)
	return ok && c.unread.size() == 0
}

func (c *connection) isDone() bool { return !c.listens() && c.out.size() == 0 }

func (c *connection) kept() int {
	return c.held() + c.unread.size() + c.out.size()
}

// putAside lets bytes wait to be read, and answers for how many there was room.
func (c *connection) putAside(bytes string) int {
	if !c.listens() {
		return 0
	}
	return c.unread.admit(bytes)
}

// put adds an answer to what waits to be taken. Behind a last one nothing is read any more.
func (c *connection) put(a answer) {
	c.out.add(a.bytes())
	if a.last {
		c.doing = leaving{}
	}
}

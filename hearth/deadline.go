package hearth

import "sync"

// limit is what a connection has only so many ticks for.
type limit int

const (
	idle limit = iota
	head
	body
	write
	limitCount
)

var limitTicks = [limitCount]int{idle: 8, head: 10, body: 20, write: 12}

// deadline is that of one connection for one limit.
type deadline struct {
	id int
	of limit
}

// limits tells which limits hold for the connection now.
func (c *connection) limits() [limitCount]bool {
	var hold [limitCount]bool
	hold[write] = c.out.size() > 0
	switch c.doing.(type) {
	case resting:
		hold[idle] = !hold[write]
	case inHead:
		hold[head] = true
	case inBody:
		hold[body] = true
	}
	return hold
}

// settle lets the deadlines stand whose limits hold now. One that stood already keeps its tick, so it is called behind
// each byte that is read: else a request that follows another one in one call would have that one's deadline.
func (s *Server) settle(c *connection) {
	for of, holds := range c.limits() {
		d := deadline{c.id, limit(of)}
		switch {
		case !holds:
			s.deadlines.Clear(d)
		case !s.deadlines.Has(d):
			s.deadlines.Set(d, limitTicks[of])
		}
	}
}

// forget takes all deadlines of a connection away.
func (s *Server) forget(id int) {
	for of := range limitCount {
		s.deadlines.Clear(deadline{id, of})
	}
}

// step lets the clock go one step, and answers the deadlines that are met with it.
// It closes nothing itself: the wheel is the goroutine's until that has ended.
func (s *Server) step() []deadline {
	steps, end, due := make(chan struct{}), make(chan struct{}), make(chan deadline)
	var clock sync.WaitGroup
	clock.Go(func() { s.deadlines.Run(steps, end, due) })
	steps <- struct{}{}
	close(end)
	var met []deadline
	for d := range due {
		met = append(met, d)
	}
	clock.Wait()
	return met
}

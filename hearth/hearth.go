// Package hearth is a small server that nobody can tire out: see DOC.md.
package hearth

import (
	"hearth/store"
	"hearth/wheel"
)

const maxConns = 4

// Server serves texts. Make it by New.
type Server struct {
	conns     map[int]*connection // the open ones
	made      int
	draining  bool
	texts     *store.Store
	deadlines *wheel.Wheel[deadline]
}

// New makes a server.
func New() *Server {
	return &Server{conns: map[int]*connection{}, texts: store.New(), deadlines: wheel.New[deadline]()}
}

// Connect makes a connection (P2).
func (s *Server) Connect() (int, bool) {
	if s.draining || len(s.conns) >= maxConns {
		return 0, false
	}
	c := &connection{doing: resting{}, id: s.made}
	s.made++
	s.conns[c.id] = c
	s.settle(c)
	return c.id, true
}

// Data: bytes come over a connection; it answers how many were taken (P3).
func (s *Server) Data(id int, bytes string) int {
	c, ok := s.conns[id]
	if !ok {
		return 0
	}
	return s.receive(c, bytes)
}

// Take takes what waits (P5).
func (s *Server) Take(id int, most int) string {
	c, ok := s.conns[id]
	if !ok || most < 1 {
		return ""
	}
	taken := c.out.drop(most)
	s.deadlines.Clear(deadline{id, write}) // it stands anew from here, if something waits still
	s.settle(c)
	s.receive(c, c.unread.drop(maxWait)) // it may be blocked no more
	s.closeIfDone(c)
	return taken
}

// Shut closes a connection (P6).
func (s *Server) Shut(id int) { s.close(id) }

// Tick: the clock is a tick further, and whoever has met a deadline is sent away (P7).
func (s *Server) Tick() {
	for _, met := range s.step() {
		s.close(met.id)
	}
}

// Drain: no more connections, and last answers (P8).
func (s *Server) Drain() {
	s.draining = true
	for _, c := range s.conns {
		if c.rests() {
			c.doing = leaving{}
			s.closeIfDone(c)
		}
	}
}

// Open tells whether a connection is open.
func (s *Server) Open(id int) bool {
	_, ok := s.conns[id]
	return ok
}

// Used tells how many bytes are kept (P9).
func (s *Server) Used() int {
	used := s.texts.Used()
	for _, c := range s.conns {
		used += c.kept()
	}
	return used
}

func (s *Server) close(id int) {
	defer s.forget(id)
	delete(s.conns, id)
}

func (s *Server) closeIfDone(c *connection) {
	if c.isDone() {
		s.close(c.id)
	}
}

// receive reads bytes as far as the connection does, and lets the others wait; it answers how many were taken.
func (s *Server) receive(c *connection, bytes string) int {
	read := 0
	for read < len(bytes) && c.reads() {
		s.read(c, bytes[read])
		read++
	}
	return read + c.putAside(bytes[read:])
}

// read reads one byte, and answers the request if it is over with it.
func (s *Server) read(c *connection, b byte) {
	next, asked := c.doing.read(b)
	c.doing = next
	if asked != nil {
		c.put(s.reply(*asked))
	}
	s.settle(c)
}

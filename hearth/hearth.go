// Package hearth is a small server that nobody can tire out: see DOC.md.
package hearth

import "hearth/store"

const maxConns = 4

// Server serves texts. Make it by New.
type Server struct {
	conns    map[int]*connection // the open ones
	made     int
	draining bool
	texts    *store.Store
}

// New makes a server.
func New() *Server {
	return &Server{conns: map[int]*connection{}, texts: store.New()}
}

// Connect makes a connection (P2).
func (s *Server) Connect() (int, bool) {
	if s.draining || len(s.conns) >= maxConns {
		return 0, false
	}
	id := s.made
	s.made++
	s.conns[id] = &connection{doing: resting{}}
	return id, true
}

// Data: bytes come over a connection; it answers how many were taken (P3).
func (s *Server) Data(id int, bytes string) int {
	c, ok := s.conns[id]
	if !ok {
		return 0
	}
	return s.receive(c, bytes)
}

// Take takes what waits (P5).
func (s *Server) Take(id int, most int) string {
	c, ok := s.conns[id]
	if !ok || most < 1 {
		return ""
	}
	taken := c.out.drop(most)
	s.receive(c, c.unread.drop(maxWait)) // it may be blocked no more
	if c.isDone() {
		s.close(id)
	}
	return taken
}

// Shut closes a connection (P6).
func (s *Server) Shut(id int) { s.close(id) }

// Tick: the clock is a tick further (P7). No deadline is kept yet, so nothing hangs on it.
func (s *Server) Tick() {}

// Drain: no more connections, and last answers (P8). Connections that rest stay open as yet.
func (s *Server) Drain() { s.draining = true }

// Open tells whether a connection is open.
func (s *Server) Open(id int) bool {
	_, ok := s.conns[id]
	return ok
}

// Used tells how many bytes are kept (P9).
func (s *Server) Used() int {
	used := s.texts.Used()
	for _, c := range s.conns {
		used += c.kept()
	}
	return used
}

func (s *Server) close(id int) { delete(s.conns, id) }

// receive reads bytes as far as the connection does, and lets the others wait; it answers how many were taken.
func (s *Server) receive(c *connection, bytes string) int {
	read := 0
	for read < len(bytes) && c.reads() {
		s.read(c, bytes[read])
		read++
	}
	return read + c.putAside(bytes[read:])
}

// read reads one byte, and answers the request if it is over with it.
func (s *Server) read(c *connection, b byte) {
	next, asked := c.doing.read(b)
	c.doing = next
	if asked != nil {
		c.put(s.reply(*asked))
	}
}

package hearth_test

import (
	"math/rand"
	"strconv"
	"strings"
	"testing"

	"hearth/hearth"
)

// What follows up to walkBoth is a second reading of the document, with whole requests that are known ahead, to hold servers with several connections against.

type known struct {
	bytes, method, target, body string
	wrong                       string // the status, if it is a wrong one
	last                        bool
}

func knowns() []known {
	var all []known
	for _, target := range []string{"/", "/ab", "/ab/c"} {
		for _, method := range []string{"GET", "HEAD", "DELETE", "POST"} {
			all = append(all, known{bytes: ask(method, target), method: method, target: target})
		}
		for _, body := range []string{"", "0123456789", of(100)} {
			all = append(all, known{bytes: put(target, body), method: "PUT", target: target, body: body})
		}
		all = append(all, known{bytes: ask("GET", target, last), method: "GET", target: target, last: true})
	}
	for _, target := range []string{"/ab", "/b", "/c"} {
		all = append(all, known{bytes: ask("PUT", target, "Transfer-Encoding: chunked\r\n") + "60\r\n" + of(96) + "\r\n4\r\nabcd\r\n0\r\n\r\n", method: "PUT", target: target, body: of(96) + "abcd"})
	}
	return append(all,
		known{bytes: "?", wrong: "400 Bad Request", last: true},
		known{bytes: ask("PUT", "/", "Content-Length: 101\r\n"), wrong: "413 Content Too Large", last: true},
		known{bytes: "GET / HTTP/1.1\r\nA:" + of(183), wrong: "431 Request Header Fields Too Large", last: true})
}

type modelConn struct {
	begun, unread, out string
	madeLast, isClosed bool
	at                 times
}

// times tells at which ticks something was last so.
type times struct{ made, begun, headOver, over, waited, taken, emptied int }

type model struct {
	knowns   map[string]known
	conns    []*modelConn
	texts    map[string]string
	now      int
	draining bool
}

func newModel() *model {
	m := &model{knowns: map[string]known{}, texts: map[string]string{}}
	for _, k := range knowns() {
		m.knowns[k.bytes] = k
	}
	return m
}

func (m *model) stored() int {
	n := 0
	for target, text := range m.texts {
		n += len(target) + len(text)
	}
	return n
}

func (m *model) used() int {
	n := m.stored()
	for _, c := range m.conns {
		n += len(c.begun) + len(c.unread) + len(c.out)
	}
	return n
}

func (m *model) connect() (int, bool) {
	open := 0
	for _, c := range m.conns {
		if !c.isClosed {
			open++
		}
	}
	if open == maxConns || m.draining {
		return 0, false
	}
	m.conns = append(m.conns, &modelConn{at: times{made: m.now}})
	return len(m.conns) - 1, true
}

func (m *model) put(k known) (string, string) {
	old, had := m.texts[k.target]
	m.texts[k.target] = k.body
	switch {
	case m.stored() <= 400 && had:
		return "204 No Content", ""
	case m.stored() <= 400:
		return "201 Created", ""
	case had:
		m.texts[k.target] = old
	default:
		delete(m.texts, k.target)
	}
	return "507 Insufficient Storage", ""
}

func (m *model) status(k known) (string, string) {
	text, has := m.texts[k.target]
	switch {
	case k.wrong != "":
		return k.wrong, ""
	case k.method == "POST":
		return "405 Method Not Allowed", ""
	case k.method == "PUT":
		return m.put(k)
	case !has:
		return "404 Not Found", ""
	case k.method == "DELETE":
		delete(m.texts, k.target)
		return "204 No Content", ""
	}
	return "200 OK", text
}

func (m *model) answer(k known) string {
	status, text := m.status(k)
	out := found(text)
	if k.method == "HEAD" {
		out = strings.TrimSuffix(out, text)
	}
	out = strings.Replace(out, "200 OK", status, 1)
	if status == "204 No Content" {
		out = noContent
	}
	if k.last {
		out = strings.Replace(out, "\r\n\r\n", "\r\n"+last+"\r\n", 1)
	}
	return out
}

// goOn reads as far as it can be read: the bytes that came all go through what waits to be read.
func (m *model) goOn(c *modelConn) {
	for c.unread != "" && len(c.out) < 250 {
		if c.begun == "" {
			c.at.begun = m.now
		}
		if !strings.Contains(c.begun, "\r\n\r\n") {
			c.at.headOver = m.now // it is, or it is not over yet
		}
		c.begun, c.unread = c.begun+c.unread[:1], c.unread[1:]
		if k, over := m.knowns[c.begun]; over {
			m.end(c, k)
		}
	}
}

// end is what happens when a request is over.
func (m *model) end(c *modelConn, k known) {
	k.last = k.last || m.draining
	if c.out == "" {
		c.at.waited = m.now
	}
	c.out += m.answer(k)
	c.begun, c.at.over = "", m.now
	if k.last {
		c.madeLast, c.unread = true, ""
	}
}

func (m *model) data(id int, bytes string) int {
	c := m.conns[id]
	for i := range len(bytes) {
		if c.isClosed || c.madeLast || len(c.unread) == maxWait {
			return i
		}
		c.unread += bytes[i : i+1]
		m.goOn(c)
	}
	return len(bytes)
}

func (m *model) take(id, most int) string {
	c := m.conns[id]
	n := max(0, min(most, len(c.out)))
	taken := c.out[:n]
	c.out = c.out[n:]
	if n > 0 {
		c.at.taken = m.now
	}
	if n > 0 && c.out == "" {
		c.at.emptied = m.now
	}
	m.goOn(c)
	if c.madeLast && c.out == "" {
		m.shut(id)
	}
	return taken
}

func (m *model) shut(id int) { *m.conns[id] = modelConn{isClosed: true} }

// late tells which deadline a connection has met, and "" if it has met none.
func (m *model) late(c *modelConn) string {
	switch headOver := strings.Contains(c.begun, "\r\n\r\n"); {
	case c.isClosed:
		return ""
	case c.out != "" && m.now == max(c.at.waited, c.at.taken)+12:
		return "Write"
	case c.madeLast:
		return ""
	case c.begun != "" && !headOver && m.now == c.at.begun+10:
		return "Head"
	case c.begun != "" && headOver && m.now == c.at.headOver+20:
		return "Body"
	case c.begun == "" && c.out == "" && m.now == max(c.at.made, c.at.over, c.at.emptied)+8:
		return "Idle"
	}
	return ""
}

func (m *model) tick() {
	m.now++
	for id, c := range m.conns {
		if m.late(c) != "" {
			m.shut(id)
		}
	}
}

func (m *model) drain() {
	m.draining = true
	for id, c := range m.conns {
		if c.begun == "" && c.unread == "" {
			c.madeLast = true
			m.take(id, 0)
		}
	}
}

// draw draws a connection, most often an open one.
func (m *model) draw(r *rand.Rand) int {
	id := r.Intn(len(m.conns))
	for m.conns[id].isClosed && r.Intn(20) > 0 {
		id = (id + 1) % len(m.conns)
	}
	return id
}

// walkBoth makes the same calls on a server and on the model, as r draws them; the more ticks, the slower everybody is.
func walkBoth(t *testing.T, r *rand.Rand, steps, ticks int) {
	t.Helper()
	s, m, all := hearth.New(), newModel(), knowns()
	var coming []string // over each connection
	for range steps {
		id, ok := s.Connect()
		if wantID, want := m.connect(); id != wantID || ok != want {
			t.Fatalf("Connect() = %d, %v, want %d, %v", id, ok, wantID, want)
		}
		coming = append(coming, make([]string, len(m.conns)-len(coming))...)
		id = m.draw(r)
		switch r.Intn(30 + ticks) {
		case 0:
			s.Shut(id)
			m.shut(id)
		case 10:
			if ticks > 0 && r.Intn(10) == 0 {
				s.Drain()
				m.drain()
			}
		case 1, 2, 3, 4, 5, 6, 7, 8, 9:
			most := r.Intn(280) - 5
			if got, want := s.Take(id, most), m.take(id, most); got != want {
				t.Fatalf("Take(%d, %d) = %q, want %q", id, most, got, want)
			}
		case 11, 12, 13, 14, 15, 16, 17, 18, 19, 20, 21, 22, 23, 24, 25, 26, 27, 28, 29:
			for range r.Intn(2 + 10*r.Intn(2)) {
				coming[id] += all[r.Intn(len(all)-r.Intn(2)*3)].bytes
			}
			piece := coming[id]
			if r.Intn(4) > 0 { // else it ends with a request
				piece = piece[:r.Intn(len(piece)+1)]
			}
			got, want := s.Data(id, piece), m.data(id, piece)
			if got != want {
				t.Fatalf("Data(%d, %q) = %d, want %d", id, piece, got, want)
			}
			coming[id] = coming[id][got:]
		default:
			s.Tick()
			m.tick()
		}
		holdOpen(t, s, m)
	}
	rest(t, s, m)
}

// rest lets the clock go while nobody does anything, until P9 wants all connections closed.
func rest(t *testing.T, s *hearth.Server, m *model) {
	t.Helper()
	for range 12 + 20 {
		s.Tick()
		m.tick()
		holdOpen(t, s, m)
	}
	for id := range m.conns {
		open(t, s, id, false)
	}
	used(t, s, m.stored())
}

func holdOpen(t *testing.T, s *hearth.Server, m *model) {
	t.Helper()
	if n := s.Used(); n != m.used() {
		t.Fatalf("Used() = %d, want %d", n, m.used())
	}
	for id, c := range m.conns {
		if s.Open(id) == c.isClosed {
			t.Fatalf("Open(%d) = %v", id, c.isClosed)
		}
		if s.HasDeadline(id) == c.isClosed {
			t.Fatalf("connection %d: a deadline stands: %v", id, c.isClosed)
		}
	}
}

func TestModel(t *testing.T) {
	for seed := range int64(300) {
		ticks := []int{0, 3, 10, 30, 90}[seed%5]
		t.Run(strconv.FormatInt(seed, 10), func(t *testing.T) { walkBoth(t, rand.New(rand.NewSource(seed)), 300, ticks) })
	}
}

package hearth_test

import (
	"math/rand"
	"strconv"
	"strings"
	"testing"

	"hearth/hearth"
)

// What follows up to walkBoth is a second reading of the document, with whole requests that are known ahead, to hold servers with several connections against.

type known struct {
	bytes, method, target, body string
	wrong                       string // the status, if it is a wrong one
	last                        bool
}

func knowns() []known {
	var all []known
	for _, target := range []string{"/", "/ab", "/ab/c"} {
		for _, method := range []string{"GET", "HEAD", "DELETE", "POST"} {
			all = append(all, known{bytes: ask(method, target), method: method, target: target})
		}
		for _, body := range []string{"", "0123456789", of(100)} {
			all = append(all, known{bytes: put(target, body), method: "PUT", target: target, body: body})
		}
		all = append(all, known{bytes: ask("GET", target, last), method: "GET", target: target, last: true})
	}
	for _, target := range []string{"/ab", "/b", "/c"} {
		all = append(all, known{bytes: ask("PUT", target, "Transfer-Encoding: chunked\r\n") + "60\r\n" + of(96) + "\r\n4\r\nabcd\r\n0\r\n\r\n", method: "PUT", target: target, body: of(96) + "abcd"})
	}
	return append(all,
		known{bytes: "?", wrong: "400 Bad Request", last: true},
		known{bytes: ask("PUT", "/", "Content-Length: 101\r\n"), wrong: "413 Content Too Large", last: true},
		known{bytes: "GET / HTTP/1.1\r\nA:" + of(183), wrong: "431 Request Header Fields Too Large", last: true})
}

type modelConn struct {
	begun, unread, out string
	madeLast, isClosed bool
}

type model struct {
	knowns map[string]known
	conns  []*modelConn
	texts  map[string]string
}

func newModel() *model {
	m := &model{knowns: map[string]known{}, texts: map[string]string{}}
	for _, k := range knowns() {
		m.knowns[k.bytes] = k
	}
	return m
}

func (m *model) stored() int {
	n := 0
	for target, text := range m.texts {
		n += len(target) + len(text)
	}
	return n
}

func (m *model) used() int {
	n := m.stored()
	for _, c := range m.conns {
		n += len(c.begun) + len(c.unread) + len(c.out)
	}
	return n
}

func (m *model) connect() (int, bool) {
	open := 0
	for _, c := range m.conns {
		if !c.isClosed {
			open++
		}
	}
	if open == maxConns {
		return 0, false
	}
	m.conns = append(m.conns, &modelConn{})
	return len(m.conns) - 1, true
}

func (m *model) put(k known) (string, string) {
	old, had := m.texts[k.target]
	m.texts[k.target] = k.body
	switch {
	case m.stored() <= 400 && had:
		return "204 No Content", ""
	case m.stored() <= 400:
		return "201 Created", ""
	case had:
		m.texts[k.target] = old
	default:
		delete(m.texts, k.target)
	}
	return "507 Insufficient Storage", ""
}

func (m *model) status(k known) (string, string) {
	text, has := m.texts[k.target]
	switch {
	case k.wrong != "":
		return k.wrong, ""
	case k.method == "POST":
		return "405 Method Not Allowed", ""
	case k.method == "PUT":
		return m.put(k)
	case !has:
		return "404 Not Found", ""
	case k.method == "DELETE":
		delete(m.texts, k.target)
		return "204 No Content", ""
	}
	return "200 OK", text
}

func (m *model) answer(k known) string {
	status, text := m.status(k)
	out := found(text)
	if k.method == "HEAD" {
		out = strings.TrimSuffix(out, text)
	}
	out = strings.Replace(out, "200 OK", status, 1)
	if status == "204 No Content" {
		out = noContent
	}
	if k.last {
		out = strings.Replace(out, "\r\n\r\n", "\r\n"+last+"\r\n", 1)
	}
	return out
}

// goOn reads as far as it can be read: the bytes that came all go through what waits to be read.
func (m *model) goOn(c *modelConn) {
	for c.unread != "" && len(c.out) < 250 {
		c.begun, c.unread = c.begun+c.unread[:1], c.unread[1:]
		if k, over := m.knowns[c.begun]; over {
			c.out += m.answer(k)
			c.begun = ""
			if k.last {
				c.madeLast, c.unread = true, ""
				return
			}
		}
	}
}

func (m *model) data(id int, bytes string) int {
	c := m.conns[id]
	for i := range len(bytes) {
		if c.isClosed || c.madeLast || len(c.unread) == maxWait {
			return i
		}
		c.unread += bytes[i : i+1]
		m.goOn(c)
	}
	return len(bytes)
}

func (m *model) take(id, most int) string {
	c := m.conns[id]
	n := max(0, min(most, len(c.out)))
	taken := c.out[:n]
	c.out = c.out[n:]
	m.goOn(c)
	if c.madeLast && c.out == "" {
		m.shut(id)
	}
	return taken
}

func (m *model) shut(id int) { *m.conns[id] = modelConn{isClosed: true} }

// draw draws a connection, most often an open one.
func (m *model) draw(r *rand.Rand) int {
	id := r.Intn(len(m.conns))
	for m.conns[id].isClosed && r.Intn(20) > 0 {
		id = (id + 1) % len(m.conns)
	}
	return id
}

// walkBoth makes the same calls on a server and on the model, as r draws them.
func walkBoth(t *testing.T, r *rand.Rand, steps int) {
	t.Helper()
	s, m, all := hearth.New(), newModel(), knowns()
	var coming []string // over each connection
	for range steps {
		id, ok := s.Connect()
		if wantID, want := m.connect(); id != wantID || ok != want {
			t.Fatalf("Connect() = %d, %v, want %d, %v", id, ok, wantID, want)
		}
		coming = append(coming, make([]string, len(m.conns)-len(coming))...)
		id = m.draw(r)
		switch r.Intn(30) {
		case 0:
			s.Shut(id)
			m.shut(id)
		case 1, 2, 3, 4, 5, 6, 7, 8, 9:
			most := r.Intn(280) - 5
			if got, want := s.Take(id, most), m.take(id, most); got != want {
				t.Fatalf("Take(%d, %d) = %q, want %q", id, most, got, want)
			}
		default:
			for range r.Intn(12) {
				coming[id] += all[r.Intn(len(all)-r.Intn(2)*3)].bytes
			}
			piece := coming[id][:r.Intn(len(coming[id])+1)]
			got, want := s.Data(id, piece), m.data(id, piece)
			if got != want {
				t.Fatalf("Data(%d, %q) = %d, want %d", id, piece, got, want)
			}
			coming[id] = coming[id][got:]
		}
		holdOpen(t, s, m)
	}
}

func holdOpen(t *testing.T, s *hearth.Server, m *model) {
	t.Helper()
	if n := s.Used(); n != m.used() {
		t.Fatalf("Used() = %d, want %d", n, m.used())
	}
	for id, c := range m.conns {
		if s.Open(id) == c.isClosed {
			t.Fatalf("Open(%d) = %v", id, c.isClosed)
		}
	}
}

func TestModel(t *testing.T) {
	for seed := range int64(300) {
		t.Run(strconv.FormatInt(seed, 10), func(t *testing.T) { walkBoth(t, rand.New(rand.NewSource(seed)), 300) })
	}
}

package hearth_test

import (
	"math"
	"runtime"
	"strings"
	"testing"

	"hearth/hearth"
)

// In ticks.
const (
	idle  = 8
	head  = 10
	body  = 20
	write = 12
)

func ticks(s *hearth.Server, n int) {
	for range n {
		s.Tick()
	}
}

// lives holds that a connection is closed with the n-th tick from now, and not before.
func lives(t *testing.T, s *hearth.Server, id, n int) {
	t.Helper()
	for i := range n {
		if !s.Open(id) {
			t.Errorf("connection %d was closed behind %d ticks, want %d", id, i, n)
			return
		}
		s.Tick()
	}
	if s.Open(id) {
		t.Errorf("connection %d is open behind %d ticks", id, n)
	}
}

// clockCase is what is done on connection 0, and how many ticks it lives behind that.
type clockCase struct {
	do   func(s *hearth.Server)
	want int
}

func clockCases() map[string]clockCase {
	const all = 10000
	get, wrong := ask("GET", "/"), "?"
	begun := ask("PUT", "/p", "Content-Length: 5\r\n")
	chunks := ask("PUT", "/p", "Transfer-Encoding: chunked\r\n")
	return map[string]clockCase{
		"idle from its making":            {func(s *hearth.Server) {}, idle},
		"idle, the last tick":             {func(s *hearth.Server) { ticks(s, idle-1) }, 1},
		"idle, nothing comes or is taken": {func(s *hearth.Server) { ticks(s, 3); s.Data(0, ""); s.Take(0, all); s.Take(0, 0) }, idle - 3},
		"idle, wrong numbers":             {func(s *hearth.Server) { ticks(s, 3); s.Data(1, get); s.Take(-1, all); s.Shut(7) }, idle - 3},
		"idle from when nothing waits":    {func(s *hearth.Server) { s.Data(0, get); ticks(s, 5); s.Take(0, all) }, idle},
		"idle, the last byte counts":      {func(s *hearth.Server) { s.Data(0, get); n := s.Used(); s.Take(0, n-1); ticks(s, 6); s.Take(0, 1) }, idle},
		"idle, again and again":           {func(s *hearth.Server) { again(s, get, 6, 7) }, idle},
		"idle is over with a byte":        {func(s *hearth.Server) { ticks(s, idle-1); s.Data(0, "G") }, head},
		"head from its first byte":        {func(s *hearth.Server) { ticks(s, 5); s.Data(0, "G") }, head},
		"head, more bytes do not help":    {func(s *hearth.Server) { drip(s, "GET /abc", 1) }, head - 8},
		"head, the last but one byte":     {func(s *hearth.Server) { s.Data(0, "G"); ticks(s, 4); s.Data(0, get[1:len(get)-1]) }, head - 4},
		"head of the next request":        {func(s *hearth.Server) { s.Data(0, "G"); ticks(s, 9); s.Data(0, get[1:]+"G"); s.Take(0, all) }, head},
		"head, while something waits":     {func(s *hearth.Server) { s.Data(0, get+"G") }, head},
		"head, a Take does not help":      {func(s *hearth.Server) { s.Data(0, get+"G"); ticks(s, 4); s.Take(0, all) }, head - 4},
		"head, but write comes first":     {func(s *hearth.Server) { s.Data(0, get); ticks(s, 3); s.Data(0, "G") }, write - 3},
		"body from the end of the head":   {func(s *hearth.Server) { s.Data(0, "P"); ticks(s, 9); s.Data(0, begun[1:]) }, body},
		"body, more bytes do not help":    {func(s *hearth.Server) { s.Data(0, begun); drip(s, "1234", 4) }, body - 16},
		"body, from its first bytes":      {func(s *hearth.Server) { s.Data(0, begun+"123") }, body},
		"body, chunks":                    {func(s *hearth.Server) { s.Data(0, chunks); drip(s, "1\r\nx\r\n0\r\n\r", 1) }, body - 10},
		"body, of the next request":       {func(s *hearth.Server) { s.Data(0, begun); ticks(s, 19); s.Data(0, "12345"+begun); s.Take(0, all) }, body},
		"body, then the head of the next": {func(s *hearth.Server) { s.Data(0, begun); ticks(s, 19); s.Data(0, "12345G"); s.Take(0, all) }, head},
		"body, but write comes first":     {func(s *hearth.Server) { s.Data(0, get+begun) }, write},
		"body, taken in time":             {func(s *hearth.Server) { s.Data(0, get+begun); ticks(s, 11); s.Take(0, all) }, body - 11},
		"write from when something waits": {func(s *hearth.Server) { ticks(s, 7); s.Data(0, get) }, write},
		"write, the last tick":            {func(s *hearth.Server) { s.Data(0, get); ticks(s, write-1) }, 1},
		"write, a byte taken":             {func(s *hearth.Server) { s.Data(0, get); ticks(s, 11); s.Take(0, 1) }, write},
		"write, no byte taken": {func(s *hearth.Server) {
			s.Data(0, get)
			ticks(s, 11)
			s.Take(0, 0)
			s.Take(0, -1)
			s.Take(0, math.MinInt)
		}, 1},
		"write, more answers do not help":   {func(s *hearth.Server) { s.Data(0, get); ticks(s, 5); s.Data(0, get+get) }, write - 5},
		"write, anew where nothing waited":  {func(s *hearth.Server) { s.Data(0, get); ticks(s, 5); s.Take(0, all); ticks(s, 5); s.Data(0, get) }, write},
		"write, byte by byte":               {func(s *hearth.Server) { s.Data(0, get+get); sip(s, 20, 11) }, write},
		"write behind a last answer":        {func(s *hearth.Server) { s.Data(0, ask("GET", "/", last)); ticks(s, 3) }, write - 3},
		"write behind a wrong request":      {func(s *hearth.Server) { s.Data(0, "G"); ticks(s, 9); s.Data(0, wrong); ticks(s, 2); s.Take(0, 1) }, write},
		"write behind a body that is wrong": {func(s *hearth.Server) { s.Data(0, chunks); ticks(s, 19); s.Data(0, wrong) }, write},
		"write, bytes behind a last answer": {func(s *hearth.Server) { s.Data(0, wrong+get); ticks(s, 5); s.Data(0, get) }, write - 5},
		"write, what is blocked has no head": {func(s *hearth.Server) {
			s.Data(0, strings.Repeat(get, 7))
			ticks(s, 5)
			s.Data(0, "GET")
			ticks(s, 6)
			s.Take(0, 1)
		}, write},
	}
}

// again asks and takes the answer, so many times.
func again(s *hearth.Server, bytes string, times, pause int) {
	for range times {
		ticks(s, pause)
		s.Data(0, bytes)
		ticks(s, pause)
		s.Take(0, 1000)
	}
}

// drip sends byte by byte.
func drip(s *hearth.Server, bytes string, pause int) {
	for _, b := range strings.Split(bytes, "") {
		s.Data(0, b)
		ticks(s, pause)
	}
}

// sip takes byte by byte.
func sip(s *hearth.Server, times, pause int) {
	for range times {
		ticks(s, pause)
		s.Take(0, 1)
	}
}

func TestP7Deadlines(t *testing.T) {
	for name, c := range clockCases() {
		t.Run(name, func(t *testing.T) {
			for ahead := range 70 {
				s := hearth.New()
				ticks(s, ahead)
				connect(t, s)
				c.do(s)
				lives(t, s, 0, c.want)
				if s.Data(0, "G") != 0 || s.Take(0, 1000) != "" || s.Used() > len("/p12345") || s.HasDeadline(0) {
					t.Errorf("%d ticks ahead: something is left of it", ahead)
				}
			}
		})
	}
}

func TestP7WhatWaitedBeginsWhenItIsRead(t *testing.T) {
	s, id, out := blocked(t)
	send(t, s, id, "GE", 2)
	ticks(s, write-1)
	take(t, s, id, 1, out[:1])
	lives(t, s, id, head)

	s, id, out = blocked(t)
	in := put("/p", "12345")
	send(t, s, id, in[:len(in)-1], len(in)-1)
	ticks(s, write-1)
	take(t, s, id, 1000, out)
	lives(t, s, id, body)

	s, id, out = blocked(t)
	send(t, s, id, ask("GET", "/x")+ask("GET", "/x", last), len(ask("GET", "/x")+ask("GET", "/x", last)))
	ticks(s, write-1)
	take(t, s, id, 1000, out)
	lives(t, s, id, write)
}

func TestP7SeveralConnections(t *testing.T) {
	s := hearth.New()
	for range maxConns {
		connect(t, s)
	}
	s.Data(1, "G")
	s.Data(2, ask("PUT", "/", "Content-Length: 5\r\n"))
	s.Data(3, ask("GET", "/"))
	closed := []int{idle, head, body, write} // at which tick each is
	for tick := 1; tick <= 60; tick++ {
		s.Tick()
		for id, at := range closed {
			open(t, s, id, tick < at)
		}
		for {
			id, ok := s.Connect()
			if !ok {
				break
			}
			if id != len(closed) {
				t.Fatalf("the connection has the number %d, want %d", id, len(closed))
			}
			closed = append(closed, tick+idle)
		}
	}
	if len(closed) < 20 {
		t.Errorf("%d connections were made", len(closed))
	}
}

func TestP7TwoDeadlinesAtOneTick(t *testing.T) {
	s, id := begin(t)
	s.Data(id, ask("GET", "/"))
	ticks(s, write-head)
	s.Data(id, "G")
	other := connect(t, s)
	s.Data(other, "G")
	ticks(s, head-1)
	open(t, s, id, true)
	open(t, s, other, true)
	s.Tick()
	open(t, s, id, false)
	open(t, s, other, false)
	used(t, s, 0)
}

func TestP7WithoutConnections(t *testing.T) {
	s := hearth.New()
	ticks(s, 20000)
	id := connect(t, s)
	lives(t, s, id, idle)
	s.Tick()
	if id := connect(t, s); id != 1 {
		t.Errorf("the next number is %d", id)
	}
}

func TestP7NoGoroutineIsLeft(t *testing.T) {
	s, id := begin(t)
	ahead := runtime.NumGoroutine()
	ticks(s, 1000)
	open(t, s, id, false)
	if n := runtime.NumGoroutine(); n > ahead+5 {
		t.Errorf("%d goroutines, %d before", n, ahead)
	}
}

// drained makes a server on which the bytes came over a connection, and then Drain.
func drained(t *testing.T, in string) (*hearth.Server, int) {
	t.Helper()
	s, id := begin(t)
	send(t, s, id, in, len(in))
	s.Drain()
	return s, id
}

func TestP8WhatRestsIsClosedAtOnce(t *testing.T) {
	s, id := drained(t, "")
	open(t, s, id, false)
	refused(t, s)

	s, id = begin(t)
	talk(t, s, id, put("/a", "xy"), empty("201 Created"))
	s.Drain()
	open(t, s, id, false)
	used(t, s, len("/axy"))
	refused(t, s)
	s.Drain()
	ticks(s, 50)
	refused(t, s)
	used(t, s, len("/axy"))
}

func TestP8WhatWaitsIsTheLast(t *testing.T) {
	out := empty("404 Not Found")
	s, id := drained(t, ask("GET", "/"))
	open(t, s, id, true)
	send(t, s, id, ask("GET", "/"), 0)
	used(t, s, len(out))
	take(t, s, id, 0, "")
	take(t, s, id, len(out)-1, out[:len(out)-1])
	s.Drain()
	open(t, s, id, true)
	send(t, s, id, "G", 0)
	take(t, s, id, 1, out[len(out)-1:])
	open(t, s, id, false)

	s, id, out = blocked(t)
	s.Drain()
	send(t, s, id, "G", 0)
	take(t, s, id, 249, out[:249])
	send(t, s, id, "G", 0)
	take(t, s, id, 1000, out[249:])
	open(t, s, id, false)
}

func TestP8WhatHasBegunIsAnswered(t *testing.T) {
	for _, c := range []struct{ ahead, in, behind, want string }{
		{"", put("/a", "xy"), "", empty("201 Created", last)},
		{"", ask("GET", "/a"), "GET / HT", empty("404 Not Found", last)},
		{ask("GET", "/a"), ask("GET", "/a"), ask("GET", "/a"), empty("404 Not Found") + empty("404 Not Found", last)},
		{"", ask("PUT", "/a", "Content-Length: 101\r\n"), "x", empty("413 Content Too Large", last)},
		{"", "GET ?", "x", empty("400 Bad Request", last)},
	} {
		for at := 1; at < len(c.in); at++ {
			s, id := drained(t, c.ahead+c.in[:at])
			open(t, s, id, true)
			refused(t, s)
			s.Drain()
			send(t, s, id, c.in[at:]+c.behind, len(c.in)-at)
			take(t, s, id, 1000, c.want)
			open(t, s, id, false)
		}
	}
}

func TestP8WhatWaitsToBeReadIsAnswered(t *testing.T) {
	s, id, out := blocked(t)
	more := ask("DELETE", "/t") + ask("DELETE", "/u")
	send(t, s, id, more, len(more))
	s.Drain()
	send(t, s, id, "G", 1)
	take(t, s, id, 1, out[:1])
	send(t, s, id, "G", 0)
	take(t, s, id, 1000, out[1:]+strings.Replace(noContent, "\r\n\r\n", "\r\n"+last+"\r\n", 1))
	open(t, s, id, false)
	used(t, s, len("/u")+71)

	s, id, out = blocked(t)
	send(t, s, id, "G", 1)
	s.Drain()
	take(t, s, id, 1000, out)
	open(t, s, id, true)
	send(t, s, id, ask("GET", "/")[1:]+"G", len(ask("GET", "/"))-1)
	take(t, s, id, 1000, empty("404 Not Found", last))
	open(t, s, id, false)
}

func TestP8TheClockGoesOn(t *testing.T) {
	for _, c := range []struct {
		in    string
		lives int
	}{
		{ask("GET", "/"), write}, {"G", head}, {ask("GET", "/") + "G", head}, {ask("PUT", "/", "Content-Length: 5\r\n"), body}, {"?", write}, {strings.Repeat(ask("GET", "/"), 7), write},
	} {
		s, id := begin(t)
		send(t, s, id, c.in, len(c.in))
		ticks(s, 4)
		s.Drain()
		lives(t, s, id, c.lives-4)
		refused(t, s)
	}
	s, id := drained(t, ask("GET", "/"))
	ticks(s, write-1)
	take(t, s, id, 1, "H")
	lives(t, s, id, write)
}

func TestP8SeveralConnections(t *testing.T) {
	s := hearth.New()
	for range maxConns {
		connect(t, s)
	}
	s.Data(0, "G")
	s.Data(2, ask("GET", "/"))
	s.Drain()
	for id, want := range []bool{true, false, true, false} {
		open(t, s, id, want)
	}
	s.Shut(0)
	s.Shut(2)
	refused(t, s)
}

// longest is a request that is as long as one can be, but for its last byte.
func longest() string {
	head := ask("PUT", "/", "Transfer-Encoding: chunked\r\n")
	head = ask("PUT", "/", "Transfer-Encoding: chunked\r\n", "A:"+of(200-len(head)-4)+"\r\n")
	return head + strings.Repeat("0001\r\nx\r\n", 100) + "0000\r\n\r"
}

// full makes a server with as many texts and connections as there may be.
func full(t *testing.T) *hearth.Server {
	t.Helper()
	s, id := begin(t)
	for _, target := range []string{"/a", "/b", "/c"} {
		talk(t, s, id, put(target, of(100)), empty("201 Created"))
	}
	talk(t, s, id, put("/d", of(92)), empty("201 Created"))
	for range maxConns - 1 {
		connect(t, s)
	}
	used(t, s, 400)
	return s
}

func TestP9Bound(t *testing.T) {
	s := full(t)
	get, long := ask("GET", "/a"), longest()
	if len(long) != 200+900+7 {
		t.Fatalf("the longest request has %d bytes", len(long))
	}
	for id := range maxConns {
		send(t, s, id, get+long, len(get+long))
	}
	out := len(found(of(100)))
	used(t, s, 400+maxConns*(out+len(long)))
	for id := range maxConns {
		send(t, s, id, "\n", 1)
		send(t, s, id, strings.Repeat(get, 1000), len(get)+maxWait)
		send(t, s, id, get, 0)
	}
	kept := 400 + maxConns*(out+len(empty("507 Insufficient Storage"))+out+maxWait)
	used(t, s, kept)
	if kept > maxUsed {
		t.Errorf("%d bytes are kept", kept)
	}
	ticks(s, write-1)
	used(t, s, kept)
	s.Tick()
	used(t, s, 400)
}

func TestP9NobodyDoesAnything(t *testing.T) {
	for _, in := range []string{"", "G", longest(), ask("GET", "/a"), ask("GET", "/a") + longest(), strings.Repeat(ask("GET", "/a"), 5), ask("GET", "/a", last), "?"} {
		for _, drains := range []bool{false, true} {
			s := full(t)
			for id := range maxConns {
				ticks(s, 1)
				s.Data(id, in)
			}
			if drains {
				s.Drain()
			}
			ticks(s, write+body)
			for id := range maxConns {
				open(t, s, id, false)
			}
			used(t, s, 400)
			if _, ok := s.Connect(); ok == drains {
				t.Errorf("%q: Connect answers %v", in, ok)
			}
		}
	}
}

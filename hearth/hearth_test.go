package hearth_test

import (
	"fmt"
	"math"
	"math/rand"
	"strconv"
	"strings"
	"sync"
	"testing"

	"hearth/hearth"
)

const (
	maxConns = 4
	maxWait  = 300
	maxUsed  = maxConns*(200+1000+maxWait+250+200) + 400
	last     = "Connection: close\r\n"
)

func ask(method, target string, fields ...string) string {
	return method + " " + target + " HTTP/1.1\r\n" + strings.Join(fields, "") + "\r\n"
}

func put(target, text string, fields ...string) string {
	return ask("PUT", target, append(fields, "Content-Length: "+strconv.Itoa(len(text))+"\r\n")...) + text
}

func empty(status string, fields ...string) string {
	return "HTTP/1.1 " + status + "\r\nContent-Length: 0\r\n" + strings.Join(fields, "") + "\r\n"
}

func found(text string) string {
	return "HTTP/1.1 200 OK\r\nContent-Length: " + strconv.Itoa(len(text)) + "\r\n\r\n" + text
}

const noContent = "HTTP/1.1 204 No Content\r\n\r\n"

func of(n int) string { return strings.Repeat("x", n) }

func connect(t *testing.T, s *hearth.Server) int {
	t.Helper()
	id, ok := s.Connect()
	if !ok {
		t.Fatal("no connection was made")
	}
	return id
}

func refused(t *testing.T, s *hearth.Server) {
	t.Helper()
	if id, ok := s.Connect(); id != 0 || ok {
		t.Errorf("Connect() = %d, %v, want 0, false", id, ok)
	}
}

func begin(t *testing.T) (*hearth.Server, int) {
	t.Helper()
	s := hearth.New()
	return s, connect(t, s)
}

func send(t *testing.T, s *hearth.Server, id int, bytes string, want int) {
	t.Helper()
	if n := s.Data(id, bytes); n != want {
		t.Errorf("Data(%d, %q) = %d, want %d", id, bytes, n, want)
	}
}

func take(t *testing.T, s *hearth.Server, id, most int, want string) {
	t.Helper()
	if got := s.Take(id, most); got != want {
		t.Errorf("Take(%d, %d) = %q, want %q", id, most, got, want)
	}
}

func talk(t *testing.T, s *hearth.Server, id int, bytes, want string) {
	t.Helper()
	send(t, s, id, bytes, len(bytes))
	take(t, s, id, 10000, want)
}

func open(t *testing.T, s *hearth.Server, id int, want bool) {
	t.Helper()
	if s.Open(id) != want {
		t.Errorf("Open(%d) = %v", id, !want)
	}
}

func used(t *testing.T, s *hearth.Server, want int) {
	t.Helper()
	if n := s.Used(); n != want {
		t.Errorf("Used() = %d, want %d", n, want)
	}
}

// takeAll takes until nothing waits: what waited to be read goes on between two Takes.
func takeAll(s *hearth.Server, id int) string {
	var all strings.Builder
	for {
		got := s.Take(id, 1000)
		if got == "" {
			return all.String()
		}
		all.WriteString(got)
	}
}

var oddNumbers = []int{0, 1, 2, 3, 4, 5, -1, 100, math.MaxInt, math.MinInt}

// step makes one of the calls, drawn from r, and tells what it answered.
func step(s *hearth.Server, r *rand.Rand, texts []string) string {
	id := oddNumbers[r.Intn(len(oddNumbers))]
	switch r.Intn(20) {
	case 0, 1, 2:
		return fmt.Sprint(s.Connect())
	case 3, 4, 5, 6, 7, 8, 9, 10:
		return fmt.Sprint(s.Data(id, texts[r.Intn(len(texts))]))
	case 11, 12, 13, 14:
		return s.Take(id, oddNumbers[r.Intn(len(oddNumbers))])
	case 15:
		if r.Intn(5) == 0 {
			s.Shut(id)
		}
	case 16:
		s.Tick()
	case 17:
		if r.Intn(100) == 0 {
			s.Drain()
		}
	case 18:
		return fmt.Sprint(s.Open(id))
	}
	return fmt.Sprint(s.Used())
}

func oddTexts() []string {
	return []string{"", "\x00", "G", "ET /a", " HTTP/1.1\r\n", "\r\n", put("/a", of(100)), put("/b", ""), ask("GET", "/a"), ask("HEAD", "/a", "Connection: close\r\n"), ask("PUT", "/c", "Transfer-Encoding: chunked\r\n"), "1\r\na\r\n", "0\r\n\r\n", of(1 << 20), strings.Repeat(ask("GET", "/a"), 50000), "\xff\xfe"}
}

func walk(seed int64, steps int) (string, int) {
	s, r, texts := hearth.New(), rand.New(rand.NewSource(seed)), oddTexts()
	var told strings.Builder
	most := 0
	for range steps {
		told.WriteString(step(s, r, texts) + "\n")
		most = max(most, s.Used())
	}
	return told.String(), most
}

func TestP1AnyCallsInAnyOrder(t *testing.T) {
	for seed := range int64(200) {
		first, most := walk(seed, 300)
		if again, _ := walk(seed, 300); again != first {
			t.Errorf("seed %d: the same calls were answered in two ways", seed)
		}
		if most > maxUsed {
			t.Errorf("seed %d: %d bytes were kept", seed, most)
		}
	}
}

func TestP1OddNumbers(t *testing.T) {
	s := hearth.New()
	for range 2 {
		for _, id := range []int{1, 2, -1, math.MaxInt, math.MinInt} {
			send(t, s, id, ask("GET", "/"), 0)
			take(t, s, id, 10, "")
			s.Shut(id)
			open(t, s, id, false)
		}
		connect(t, s)
		s.Shut(1)
	}
}

func TestP1ServersAtTheSameTime(t *testing.T) {
	want, _ := walk(7, 500)
	got := make([]string, 8)
	var all sync.WaitGroup
	for i := range got {
		all.Go(func() { got[i], _ = walk(7, 500) })
	}
	all.Wait()
	for i := range got {
		if got[i] != want {
			t.Errorf("server %d answered in its own way", i)
		}
	}
}

func TestP1ServersShareNothing(t *testing.T) {
	a, i := begin(t)
	b, j := begin(t)
	talk(t, a, i, put("/a", "x"), empty("201 Created"))
	talk(t, b, j, ask("GET", "/a"), empty("404 Not Found"))
	used(t, b, 0)
	a.Drain()
	connect(t, b)
}

func TestP2Numbers(t *testing.T) {
	s := hearth.New()
	for want := range maxConns {
		open(t, s, want, false)
		if id := connect(t, s); id != want {
			t.Errorf("connection %d has the number %d", want, id)
		}
		open(t, s, want, true)
	}
	refused(t, s)
	s.Shut(2)
	if id := connect(t, s); id != maxConns {
		t.Errorf("a number was given again, or passed over: %d", id)
	}
	refused(t, s)
	talk(t, s, 0, "?", empty("400 Bad Request", last))
	if id := connect(t, s); id != maxConns+1 {
		t.Errorf("a number was given again, or passed over: %d", id)
	}
	s.Shut(1)
	s.Drain()
	refused(t, s)
}

func TestP2ConnectionsAreApart(t *testing.T) {
	s, a := begin(t)
	b := connect(t, s)
	send(t, s, a, "GET /a HT", 9)
	talk(t, s, b, put("/a", "text"), empty("201 Created"))
	take(t, s, a, 1000, "")
	talk(t, s, a, "TP/1.1\r\n\r\n", found("text"))
	talk(t, s, b, "?", empty("400 Bad Request", last))
	open(t, s, a, true)
	open(t, s, b, false)
}

func TestP3Methods(t *testing.T) {
	s, id := begin(t)
	for _, c := range []struct{ in, out string }{
		{ask("GET", "/"), empty("404 Not Found")}, {ask("HEAD", "/"), empty("404 Not Found")}, {ask("DELETE", "/"), empty("404 Not Found")},
		{put("/", "a\r\n\x00\xffb"), empty("201 Created")}, {ask("GET", "/"), found("a\r\n\x00\xffb")}, {ask("HEAD", "/"), "HTTP/1.1 200 OK\r\nContent-Length: 6\r\n\r\n"}, {ask("GET", "//"), empty("404 Not Found")},
		{ask("PUT", "/"), noContent}, {ask("GET", "/"), found("")}, {put("/", of(100)), noContent}, {ask("GET", "/"), found(of(100))},
		{ask("GET", "/", "Content-Length: 3\r\n") + "abc", found(of(100))}, {ask("DELETE", "/", "Content-Length: 1\r\n") + "z", noContent}, {ask("GET", "/"), empty("404 Not Found")},
		{ask("POST", "/", "Content-Length: 1\r\n") + "z", empty("405 Method Not Allowed")}, {ask("GETT", "/"), empty("405 Method Not Allowed")}, {ask("GE", "/"), empty("405 Method Not Allowed")},
		{ask("PUT", "/c", "TRANSFER-encoding:CHUNKED\r\n") + "a\r\n0123456789\r\n0B\r\nabcdefghijk\r\n00\r\n\r\n", empty("201 Created")}, {ask("GET", "/c"), found("0123456789abcdefghijk")},
		{put("/C", "great"), empty("201 Created")}, {ask("GET", "/c"), found("0123456789abcdefghijk")},
	} {
		talk(t, s, id, c.in, c.out)
		open(t, s, id, true)
	}
}

func TestP3Room(t *testing.T) {
	s, id := begin(t)
	for _, target := range []string{"/a", "/b", "/c"} {
		talk(t, s, id, put(target, of(100)), empty("201 Created"))
	}
	talk(t, s, id, put("/d", of(93)), empty("507 Insufficient Storage"))
	talk(t, s, id, ask("GET", "/d"), empty("404 Not Found"))
	talk(t, s, id, put("/d", of(92)), empty("201 Created"))
	used(t, s, 400)
	talk(t, s, id, put("/", ""), empty("507 Insufficient Storage"))
	talk(t, s, id, put("/d", of(93)), empty("507 Insufficient Storage"))
	talk(t, s, id, ask("GET", "/d"), found(of(92)))
	talk(t, s, id, put("/d", of(91)), noContent)
	talk(t, s, id, put("/", ""), empty("201 Created"))
	talk(t, s, id, ask("DELETE", "/"), noContent)
	used(t, s, 399)
	talk(t, s, id, put("/e", "", last), empty("507 Insufficient Storage", last))
	open(t, s, id, false)
}

func TestP3AnswersAtOnceAndInOrder(t *testing.T) {
	s, id := begin(t)
	in := put("/a", "12")
	send(t, s, id, in[:len(in)-1], len(in)-1)
	take(t, s, id, 1000, "")
	send(t, s, id, in[len(in)-1:], 1)
	send(t, s, id, ask("GET", "/a")+ask("GET", "/b")+"DEL", 2*len(ask("GET", "/a"))+3)
	take(t, s, id, 1000, empty("201 Created")+found("12")+empty("404 Not Found"))
	talk(t, s, id, "ETE /a HTTP/1.1\r\n\r\n", noContent)
}

func TestP3WrongRequests(t *testing.T) {
	chunks := ask("PUT", "/a", "Transfer-Encoding: chunked\r\n")
	both := ask("PUT", "/a", "Content-Length: 101\r\n", "Transfer-Encoding: chunked\r\n")
	for _, c := range []struct{ in, status string }{
		{"g", "400 Bad Request"}, {"GET x", "400 Bad Request"}, {"GET / HTTP/1.1\r\n ", "400 Bad Request"}, {chunks + "x", "400 Bad Request"}, {chunks + "1\r\nab", "400 Bad Request"}, {both, "400 Bad Request"},
		{ask("PUT", "/a", "Content-Length: 101\r\n"), "413 Content Too Large"}, {chunks + "1\r\na\r\n64\r\n", "413 Content Too Large"},
		{"GET / HTTP/1.1\r\nA:" + of(183), "431 Request Header Fields Too Large"},
	} {
		s, id := begin(t)
		talk(t, s, id, ask("GET", "/"), empty("404 Not Found"))
		send(t, s, id, c.in+ask("GET", "/"), len(c.in))
		send(t, s, id, ask("GET", "/"), 0)
		used(t, s, len(empty(c.status, last)))
		open(t, s, id, true)
		take(t, s, id, 1000, empty(c.status, last))
		open(t, s, id, false)
		used(t, s, 0)
	}
}

func TestP3Close(t *testing.T) {
	for _, c := range []struct {
		field  string
		closes bool
	}{
		{"Connection: close\r\n", true}, {"CONNECTION:\t cLOSE \t\r\n", true}, {"connection:close\r\nConnection: x\r\n", true}, {"Connection: close, x\r\n", false}, {"Connection: keep-alive\r\n", false}, {"Connection:\r\n", false}, {"X: close\r\n", false},
	} {
		for _, q := range []string{"GET", "HEAD", "PUT", "DELETE", "POST"} {
			s, id := begin(t)
			in := ask(q, "/", c.field)
			send(t, s, id, in, len(in))
			out := s.Take(id, 1000)
			if strings.HasSuffix(out, last+"\r\n") != c.closes || s.Open(id) == c.closes {
				t.Errorf("%q: %q, open %v", in, out, s.Open(id))
			}
		}
	}
}

func TestP3BehindDrainAnswersAreLast(t *testing.T) {
	s, id := begin(t)
	send(t, s, id, "GET /a", 6)
	s.Drain()
	send(t, s, id, " HTTP/1.1\r\n\r\nGET", 13)
	take(t, s, id, 1000, empty("404 Not Found", last))
	open(t, s, id, false)
}

// blocked makes a server with a connection on which exactly MaxOut bytes wait to be taken.
func blocked(t *testing.T) (*hearth.Server, int, string) {
	t.Helper()
	s, id := begin(t)
	talk(t, s, id, put("/t", of(100)), empty("201 Created"))
	talk(t, s, id, put("/u", of(71)), empty("201 Created"))
	out := found(of(100)) + found(of(71))
	if len(out) != 250 {
		t.Fatalf("%d bytes would wait", len(out))
	}
	in := ask("GET", "/t") + ask("GET", "/u")
	send(t, s, id, in, len(in))
	return s, id, out
}

func TestP3BlockedWaits(t *testing.T) {
	s, id, out := blocked(t)
	stored := 2 + 100 + 2 + 71
	more := ask("DELETE", "/t") + ask("GET", "/t")
	send(t, s, id, more, len(more))
	other := connect(t, s)
	talk(t, s, other, ask("GET", "/t"), found(of(100)))
	used(t, s, stored+250+len(more))
	send(t, s, id, "", 0)
	send(t, s, id, put("/v", of(1000)), maxWait-len(more))
	send(t, s, id, "x", 0)
	used(t, s, stored+250+maxWait)
	take(t, s, id, 0, "")
	take(t, s, id, -1, "")
	talk(t, s, other, ask("GET", "/t"), found(of(100)))
	take(t, s, id, 1, out[:1])
	talk(t, s, other, ask("GET", "/t"), empty("404 Not Found"))
	take(t, s, id, 1000, out[1:]+noContent)
	take(t, s, id, 1000, empty("404 Not Found")+empty("413 Content Too Large", last))
	open(t, s, id, false)
}

func TestP3OneByteLessIsNotBlocked(t *testing.T) {
	s, id := begin(t)
	talk(t, s, id, put("/t", of(100)), empty("201 Created"))
	talk(t, s, id, put("/u", of(70)), empty("201 Created"))
	in := ask("GET", "/t") + ask("GET", "/u") + ask("DELETE", "/t") + ask("DELETE", "/u")
	send(t, s, id, in, len(in))
	take(t, s, id, 1000, found(of(100))+found(of(70))+noContent)
	take(t, s, id, 1000, noContent)
	take(t, s, id, 1000, "")
	open(t, s, id, true)
}

func TestP3UnreadBytesAreGoneBehindALastAnswer(t *testing.T) {
	s, id, out := blocked(t)
	more := ask("GET", "/x", last) + ask("DELETE", "/t")
	send(t, s, id, more, len(more))
	take(t, s, id, 249, out[:249])
	used(t, s, 175+1+len(empty("404 Not Found", last)))
	send(t, s, id, "G", 0)
	take(t, s, id, 1000, out[249:]+empty("404 Not Found", last))
	open(t, s, id, false)
	talk(t, s, connect(t, s), ask("GET", "/t"), found(of(100)))
}

func TestP3LongBytesWhileBlocked(t *testing.T) {
	s, id := begin(t)
	in := strings.Repeat(ask("GET", "/"), 100000)
	each, wait := len(ask("GET", "/")), len(empty("404 Not Found"))
	read := (250 + wait - 1) / wait
	send(t, s, id, in, read*each+maxWait)
	used(t, s, read*wait+maxWait)
}

// streams are rows of bytes over one connection: right requests, wrong ones, ones that block, and ones that are cut off.
func streams() []string {
	text := put("/t", of(100))
	return []string{
		text + ask("GET", "/t") + put("/t", "") + ask("HEAD", "/t") + ask("DELETE", "/t") + ask("GET", "/t") + "GET /cut",
		text + strings.Repeat(ask("GET", "/t"), 8) + ask("GET", "/t", last) + ask("GET", "/t"),
		text + ask("GET", "/t") + ask("GET", "/t") + ask("GET", "/t") + "?" + ask("GET", "/t"),
		ask("PUT", "/c", "Transfer-Encoding: chunked\r\n") + "3\r\nabc\r\n002\r\n\r\n\r\n0\r\n\r\n" + ask("GET", "/c") + ask("PUT", "/c", "Transfer-Encoding: chunked\r\n") + "64\r\n" + of(100) + "\r\n1\r\n",
		ask("GET", "/", "X: "+of(177)+"\r\n") + ask("GET", "/", "X: "+of(178)+"\r\n"),
		put("/a", of(100)) + put("/b", of(100)) + put("/c", of(100)) + put("/d", of(93)) + put("/d", of(92)) + put("/e", "") + ask("GET", "/d") + ask("GET", "/c") + ask("GET", "/b") + ask("GET", "/e"),
	}
}

// served sends the pieces over one connection and takes all that waits behind each.
func served(pieces []string) string {
	s := hearth.New()
	id, _ := s.Connect()
	var out strings.Builder
	for _, piece := range pieces {
		for piece != "" {
			n := s.Data(id, piece)
			piece = piece[n:]
			got := takeAll(s, id)
			out.WriteString(got)
			if n == 0 && got == "" {
				break
			}
		}
	}
	return out.String() + fmt.Sprint(s.Open(id), s.Used())
}

func cut(r *rand.Rand, in string, longest int) []string {
	var pieces []string
	for in != "" {
		n := min(len(in), r.Intn(longest+1))
		pieces = append(pieces, in[:n])
		in = in[n:]
	}
	return pieces
}

func TestP4Pieces(t *testing.T) {
	r := rand.New(rand.NewSource(4))
	for _, in := range streams() {
		want := served(strings.Split(in, ""))
		for i := range len(in) {
			if got := served([]string{in[:i], in[i:]}); got != want {
				t.Fatalf("%q cut at %d: %q, want %q", in, i, got, want)
			}
		}
		for range 200 {
			pieces := cut(r, in, 1+r.Intn(60))
			if got := served(pieces); got != want {
				t.Fatalf("%q: %q, want %q", pieces, got, want)
			}
		}
	}
}

func TestP4WhatIsAnswered(t *testing.T) {
	text := found(of(100))
	wants := []string{
		empty("201 Created") + text + noContent + found("") + noContent + empty("404 Not Found") + "true 8",
		empty("201 Created") + strings.Repeat(text, 8) + strings.Replace(text, "\r\n\r\n", "\r\n"+last+"\r\n", 1) + "false 102",
		empty("201 Created") + text + text + text + empty("400 Bad Request", last) + "false 102",
		empty("201 Created") + found("abc\r\n") + empty("413 Content Too Large", last) + "false 7",
		empty("404 Not Found") + empty("431 Request Header Fields Too Large", last) + "false 0",
		strings.Repeat(empty("201 Created"), 3) + empty("507 Insufficient Storage") + empty("201 Created") + empty("507 Insufficient Storage") + found(of(92)) + text + text + empty("404 Not Found") + "true 400",
	}
	for i, in := range streams() {
		if got := served([]string{in}); got != wants[i] {
			t.Errorf("%q: %q, want %q", in, got, wants[i])
		}
	}
}

func TestP5Take(t *testing.T) {
	s, id := begin(t)
	take(t, s, id, 10, "")
	out := empty("404 Not Found")
	send(t, s, id, ask("GET", "/"), len(ask("GET", "/")))
	for _, most := range []int{0, -1, math.MinInt} {
		take(t, s, id, most, "")
	}
	used(t, s, len(out))
	take(t, s, id, 1, out[:1])
	take(t, s, id, 9, out[1:10])
	used(t, s, len(out)-10)
	take(t, s, id+1, 10, "")
	take(t, s, id, math.MaxInt, out[10:])
	take(t, s, id, 1, "")
	open(t, s, id, true)
}

func TestP5ClosesBehindTheLastAnswer(t *testing.T) {
	s, id := begin(t)
	send(t, s, id, ask("GET", "/")+ask("GET", "/", last), len(ask("GET", "/")+ask("GET", "/", last)))
	out := empty("404 Not Found") + empty("404 Not Found", last)
	take(t, s, id, len(out)-1, out[:len(out)-1])
	open(t, s, id, true)
	take(t, s, id, 0, "")
	open(t, s, id, true)
	take(t, s, id, 1, out[len(out)-1:])
	open(t, s, id, false)
	take(t, s, id, 1, "")
	send(t, s, id, "G", 0)
}

func TestP6Shut(t *testing.T) {
	s, id, _ := blocked(t)
	other := connect(t, s)
	send(t, s, id, "GET", 3)
	send(t, s, other, "GET", 3)
	used(t, s, 175+250+3+3)
	s.Shut(id)
	open(t, s, id, false)
	take(t, s, id, 1000, "")
	send(t, s, id, "G", 0)
	used(t, s, 175+3)
	s.Shut(id)
	s.Shut(-1)
	open(t, s, other, true)
	s.Shut(other)
	used(t, s, 175)
	open(t, s, other, false)
}

func TestP9Used(t *testing.T) {
	s, id := begin(t)
	used(t, s, 0)
	in := ask("PUT", "/abc", "Transfer-Encoding: chunked\r\n") + "0002\r\nxy\r\n0\r\n\r\n"
	for i := range len(in) - 1 {
		send(t, s, id, in[i:i+1], 1)
		used(t, s, i+1)
	}
	send(t, s, id, "\n", 1)
	used(t, s, len("/abcxy")+len(empty("201 Created")))
	take(t, s, id, 1000, empty("201 Created"))
	used(t, s, len("/abcxy"))
}

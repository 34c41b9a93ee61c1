package request

import (
	"math/rand"
	"regexp"
	"sort"
	"strconv"
	"strings"
	"testing"
)

// What follows up to told is a second reading of the document, by whole beginnings of requests, to hold the states against.

const (
	lineForm  = `[A-Z]{1,8} /[A-Za-z0-9/_.-]{0,30} HTTP/1\.1\r\n`
	fieldForm = `[A-Za-z0-9-]{1,20}:[\x20-\x7e\t]*\r\n`
)

var (
	headForm    = regexp.MustCompile(`^(` + lineForm + `)((?:` + fieldForm + `)*)\r\n`)
	beginForm   = regexp.MustCompile(`^(?:` + strings.Join(beginnings(), "|") + `)$`)
	sizeForm    = regexp.MustCompile(`^([0-9A-Fa-f]{1,4})\r\n`)
	signsBegin  = regexp.MustCompile(`^(?:[0-9A-Fa-f]{0,4}|[0-9A-Fa-f]{1,4}\r)$`)
	lengthForm  = regexp.MustCompile(`^[0-9]{1,9}$`)
	chunkedForm = regexp.MustCompile(`^(?i:chunked)$`)
)

func beginnings() []string {
	forms := []string{`[A-Z]{0,8}`, `[A-Z]{1,8} `}
	version := " HTTP/1.1\r\n"
	for k := range version {
		forms = append(forms, `[A-Z]{1,8} /[A-Za-z0-9/_.-]{0,30}`+regexp.QuoteMeta(version[:k]))
	}
	for _, part := range []string{`[A-Za-z0-9-]{0,20}`, `[A-Za-z0-9-]{1,20}:[\x20-\x7e\t]*\r?`, `\r`} {
		forms = append(forms, lineForm+`(?:`+fieldForm+`)*`+part)
	}
	return forms
}

// verdict is what can be told from a beginning of a request.
type verdict struct {
	over bool
	Request
}

func wrong(f Fault) verdict { return verdict{true, Request{Fault: f}} }

func verdictOf(s string) verdict {
	m := headForm.FindStringSubmatch(s)
	if len(s) > MaxHead && (m == nil || len(m[0]) > MaxHead) {
		return wrong(HeadTooLarge)
	}
	if m == nil {
		if beginForm.MatchString(s) {
			return verdict{}
		}
		return wrong(Malformed)
	}
	words := strings.Split(m[1], " ")
	q := Request{Method: words[0], Target: words[1]}
	var lengths, codings []string
	for _, field := range strings.SplitAfter(m[2], "\r\n") {
		name, value, _ := strings.Cut(field, ":")
		value = strings.Trim(strings.TrimSuffix(value, "\r\n"), " \t")
		switch strings.ToLower(name) {
		case "content-length":
			lengths = append(lengths, value)
		case "transfer-encoding":
			codings = append(codings, value)
		case "connection":
			q.Close = q.Close || strings.ToLower(value) == "close"
		}
	}
	return verdictOfBody(q, lengths, codings, s[len(m[0]):])
}

func verdictOfBody(q Request, lengths, codings []string, rest string) verdict {
	switch {
	case len(lengths)+len(codings) == 0:
		return verdict{true, q}
	case len(lengths)+len(codings) > 1:
		return wrong(Malformed)
	case len(codings) == 1 && chunkedForm.MatchString(codings[0]):
		return verdictOfChunks(q, rest)
	case len(codings) == 1 || !lengthForm.MatchString(lengths[0]):
		return wrong(Malformed)
	}
	n, _ := strconv.Atoi(lengths[0])
	if n > MaxBody {
		return wrong(BodyTooLarge)
	}
	q.Body = rest
	return verdict{len(rest) >= n, q}
}

func verdictOfChunks(q Request, rest string) verdict {
	for {
		m := sizeForm.FindStringSubmatch(rest)
		if m == nil {
			if signsBegin.MatchString(rest) {
				return verdict{}
			}
			return wrong(Malformed)
		}
		size, _ := strconv.ParseInt(m[1], 16, 64)
		n := int(size)
		rest = rest[len(m[0]):]
		if len(q.Body)+n > MaxBody {
			return wrong(BodyTooLarge)
		}
		if len(rest) <= n {
			return verdict{}
		}
		q.Body += rest[:n]
		rest = rest[n:]
		switch {
		case len(rest) == 1 && rest == "\r":
			return verdict{}
		case !strings.HasPrefix(rest, "\r\n"):
			return wrong(Malformed)
		case n == 0:
			return verdict{true, q}
		}
		rest = rest[2:]
	}
}

// told tells at which byte the request is over (0: it is not), and what it asks. A beginning that is over stays so with more bytes, so the first one can be searched for by halves.
func told(s string) (int, Request) {
	n := sort.Search(len(s)+1, func(n int) bool { return verdictOf(s[:n]).over })
	if n > len(s) {
		return 0, Request{}
	}
	return n, verdictOf(s[:n]).Request
}

// read does the same by a Reader.
func read(s string) (int, Request) {
	r := NewReader()
	for i := range len(s) {
		if r.Read(s[i]) {
			q := r.Request()
			if q.Fault != None {
				q = Request{Fault: q.Fault}
			}
			return r.Count(), q
		}
	}
	return 0, Request{}
}

const head = "PUT /a HTTP/1.1\r\nTransfer-Encoding: chunked\r\n\r\n"

func seeds() []string {
	v := func(n int) string { return strings.Repeat("v", n) }
	line := "GET / HTTP/1.1\r\n"
	many := ""
	for range MaxBody {
		many += "0001\r\nx\r\n"
	}
	return []string{
		line + "\r\n", "ABCDEFGH /aZ09/_.- HTTP/1.1\r\n\r\n", "GET /" + v(30) + " HTTP/1.1\r\n\r\n", "GET /" + v(31) + " HTTP/1.1\r\n\r\n", "ABCDEFGHI / HTTP/1.1\r\n\r\n",
		line + v(20) + ": \t~! \t\r\nB-9:\r\n\r\n", line + v(21) + ":\r\n\r\n", line + "Connection:close\r\nConnection: keep\r\n\r\n", line + "connectioN: \tCLOSE\t \r\n\r\n", line + "Connection: close, x\r\n\r\n", line + "Connections: close\r\n\r\n",
		line + "X:" + v(MaxHead-22) + "\r\n\r\n", line + "X:" + v(MaxHead-21) + "\r\n\r\n", line + "X:" + v(MaxHead), "PUT / HTTP/1.1\r\nContent-Length: 100\r\nX:" + v(MaxHead-43) + "\r\n\r\n" + v(MaxBody),
		line + "Content-Length:000000003\r\n\r\nabc", line + "content-LENGTH: 100 \r\n\r\n" + v(100), line + "Content-Length: 101\r\n\r\n", line + "Content-Length: 999999999\r\n\r\n", line + "Content-Length: 0000000001\r\n\r\n", line + "Content-Length: 0\r\n\r\n", line + "Content-Length: 1 1\r\n\r\n", line + "Content-Length: +1\r\n\r\n", line + "Content-Length: -0\r\n\r\n", line + "Content-Length:\r\n\r\n",
		line + "Content-Length: 1\r\nContent-Length: 1\r\n\r\n", line + "Content-Length: 101\r\nContent-Length: 101\r\n\r\n", line + "Content-Length: 1\r\nTransfer-Encoding: chunked\r\n\r\n", line + "Transfer-Encoding: chunked\r\nContent-Length: 101\r\n\r\n", line + "Transfer-Encoding: chunked\r\nTransfer-Encoding: chunked\r\n\r\n", line + "Content-Length: x\r\nContent-Length: 1\r\nContent-Length: 1\r\n\r\n", line + "Transfer-Encoding: gzip\r\n\r\n", line + "Transfer-Encoding: chunked, x\r\n\r\n", line + "Transfer-Encoding:\r\n\r\n",
		head + "0\r\n\r\n", head + "0000\r\n\r\n", head + "3\r\nabc\r\n0aB\r\n0123456789\r\n0\r\n\r\n", head + "a\r\n\r\n\r\n\r\n\r\n\r\n\r\n0\r\n\r\n", head + "64\r\n" + v(100) + "\r\n00\r\n\r\n", head + "65\r\n", head + "64\r\n" + v(100) + "\r\n1\r\n", head + "FFFF\r\n", head + "10000\r\n", head + "0\r\nX: y\r\n\r\n", head + many + "0000\r\n\r\n", head + "\r\n", head + "1;x\r\n",
	}
}

func hold(t *testing.T, s string) {
	t.Helper()
	n, q := read(s)
	if wantN, want := told(s); n != wantN || q != want {
		t.Errorf("%q: over at %d: %+v; want at %d: %+v", s, n, q, wantN, want)
	}
}

func TestSeeds(t *testing.T) {
	for _, s := range seeds() {
		hold(t, s)
	}
}

// TestEveryByte puts every byte into every place of a request that has all the parts of a head, and of one in chunks.
func TestEveryByte(t *testing.T) {
	for _, s := range []string{"GE /a HTTP/1.1\r\nA-b: c\r\nContent-Length: 2\r\n\r\nxy", head + "2\r\nab\r\n0\r\n\r\n"} {
		for i := range len(s) {
			for b := range 256 {
				hold(t, s[:i]+string([]byte{byte(b)})+s[i+1:])
			}
		}
	}
}

func TestChanged(t *testing.T) {
	r := rand.New(rand.NewSource(1))
	all := seeds()
	for range 20000 {
		s := all[r.Intn(len(all))]
		for range 1 + r.Intn(2) {
			i, j := r.Intn(len(s)+1), r.Intn(len(s)+1)
			switch other := all[r.Intn(len(all))]; r.Intn(4) {
			case 0:
				s = s[:i] + "\r\n :09aA/\t\x00\xff"[r.Intn(12):] + s[i:]
			case 1:
				s = s[:min(i, j)] + s[max(i, j):]
			case 2:
				s = s[:i] + other[r.Intn(len(other)):]
			case 3:
				s = s[:max(i, j)] + s[min(i, j):]
			}
			if s == "" {
				s = "\n"
			}
		}
		hold(t, s)
	}
}

// TestFaults names the byte and the fault by hand, so that the two readings cannot err together.
func TestFaults(t *testing.T) {
	for _, c := range []struct {
		in    string
		n     int
		fault Fault
	}{
		{"a", 1, Malformed}, {"\r\n", 1, Malformed}, {"GET /\x80", 6, Malformed}, {"GET / HTTP/2", 12, Malformed}, {"GET / HTTP/1.1\r\r", 16, Malformed}, {"GET / HTTP/1.1\r\nA:\n", 19, Malformed}, {"GET / HTTP/1.1\r\nA:\r\r", 20, Malformed}, {"GET / HTTP/1.1\r\n \r\n", 17, Malformed},
		{"GET / HTTP/1.1\r\nContent-Length: 101\r\nContent-Length: 101\r\n\r\n", 60, Malformed}, {"GET / HTTP/1.1\r\nContent-Length: 101\r\n\r\n", 39, BodyTooLarge}, {head + "65\r\n", len(head) + 4, BodyTooLarge}, {head + "00000", len(head) + 5, Malformed},
		{"GET / HTTP/1.1\r\nA:" + strings.Repeat("v", 183), 201, HeadTooLarge}, {"GET / HTTP/1.1\r\nA:" + strings.Repeat("v", 179) + "\r\n\r\n", 201, HeadTooLarge}, {"GET / HTTP/1.1\r\nA:" + strings.Repeat("v", 181) + "\x00", 200, Malformed}, {"GET / HTTP/1.1\r\nA:" + strings.Repeat("v", 182) + "\x00", 201, HeadTooLarge},
	} {
		if n, q := read(c.in); n != c.n || q.Fault != c.fault {
			t.Errorf("%q: fault %d at %d, want %d at %d", c.in, q.Fault, n, c.fault, c.n)
		}
	}
}

func TestBehindTheEnd(t *testing.T) {
	r := NewReader()
	for _, b := range []byte("A / HTTP/1.1\r\n\r\n") {
		r.Read(b)
	}
	want := r.Request()
	if n := r.Count(); !r.Read('A') || r.Count() != n || r.Request() != want {
		t.Errorf("a byte was read behind the end: %d, %+v", r.Count(), r.Request())
	}
}

func TestHeadIsOver(t *testing.T) {
	for _, s := range []string{head + "2\r\n\r\n\r\n0\r\n\r\n", "PUT / HTTP/1.1\r\nA: b\r\nContent-Length: 4\r\n\r\n\r\n\r\n", "GET / HTTP/1.1\r\n\r\n"} {
		r := NewReader()
		for i := range len(s) {
			r.Read(s[i])
			if want := strings.Contains(s[:i+1], "\r\n\r\n"); r.HeadIsOver() != want {
				t.Errorf("%q: HeadIsOver() = %v", s[:i+1], !want)
			}
		}
	}
}

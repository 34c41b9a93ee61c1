// Package request reads requests, byte by byte, and tells what they ask.
package request

// The limits of a request, in bytes.
const (
	MaxHead = 200
	MaxBody = 100
)

// Fault is what is wrong with a request.
type Fault int

// The faults.
const (
	None Fault = iota
	Malformed
	BodyTooLarge
	HeadTooLarge
)

// Request is what a request that is over asks. With a Fault the rest says nothing.
type Request struct {
	Fault  Fault
	Method string
	Target string
	Body   string
	Close  bool // it asks that its connection end with the answer
}

// Reader reads one request. Make it by NewReader.
type Reader struct {
	next     state // nil: the request is over
	count    int
	headOver bool
	fault    Fault
	method   []byte
	path     []byte // the target behind its first "/"
	name     []byte
	value    []byte
	close    bool
	size     sizing
	signs    []byte
	body     []byte
}

// NewReader makes a reader of which no byte was read.
func NewReader() *Reader {
	r := &Reader{}
	r.next = r.readMethod()
	return r
}

// Read reads the next byte, and tells whether the request is over with it. Behind its end nothing is read.
func (r *Reader) Read(b byte) bool {
	if r.next == nil {
		return true
	}
	r.count++
	if !r.headOver && r.count > MaxHead {
		r.next = r.fail(HeadTooLarge) // whatever the byte is, so no state sees it
	} else {
		r.next = r.next(b)
	}
	return r.next == nil
}

// Count tells how many bytes were read.
func (r *Reader) Count() int { return r.count }

// HeadIsOver tells whether the head was read to its end.
func (r *Reader) HeadIsOver() bool { return r.headOver }

// Request tells what the request asks, once it is over.
func (r *Reader) Request() Request {
	return Request{
		Fault:  r.fault,
		Method: string(r.method),
		Target: "/" + string(r.path),
		Body:   string(r.body),
		Close:  r.close,
	}
}

func (r *Reader) fail(f Fault) state {
	r.fault = f
	return nil
}

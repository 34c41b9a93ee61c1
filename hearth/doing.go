package hearth

import "hearth/request"

// doing is what a connection is doing.
type doing interface {
	// read reads a byte, and answers what is done next; a request that is over with the byte is answered as well.
	read(b byte) (doing, *request.Request)
	// held tells how many bytes were read of a request that is not over.
	held() int
	// listens tells whether bytes are read at all.
	listens() bool
}

// resting: no byte of a next request was read.
type resting struct{}

// reading: a request was begun and is not over.
type reading struct{ *request.Reader }

// leaving: the last answer was made.
type leaving struct{}

func (resting) read(b byte) (doing, *request.Request) {
	return reading{request.NewReader()}.read(b)
}

func (resting) held() int { return 0 }

func (resting) listens() bool { return true }

func (r reading) read(b byte) (doing, *request.Request) {
	if !r.Read(b) {
		return r, nil
	}
	asked := r.Request()
	return resting{}, &asked
}

func (r reading) held() int { return r.Count() }

func (reading) listens() bool { return true }

func (leaving) read(byte) (doing, *request.Request) { return leaving{}, nil }

func (leaving) held() int { return 0 }

func (leaving) listens() bool { return false }

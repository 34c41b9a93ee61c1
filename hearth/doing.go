package hearth

import "hearth/request"

// doing is what a connection is doing.
type doing interface {
	// read reads a byte, and answers what is done next; a request that is over with the byte is answered as well.
	read(b byte) (doing, *request.Request)
	// held tells how many bytes were read of a request that is not over.
	held() int
	// listens tells whether bytes are read at all.
	listens() bool
}

// resting: no byte of a next request was read.
type resting struct{}

// inHead: a request was begun, and its head is not over.
type inHead struct{ reading }

// inBody: a request's head is over, and the request is not.
type inBody struct{ reading }

// leaving: the last answer was made, or it is as if it was.
type leaving struct{}

// reading is what inHead and inBody share.
type reading struct{ *request.Reader }

func (resting) read(b byte) (doing, *request.Request) {
	return reading{request.NewReader()}.read(b)
}

func (resting) held() int { return 0 }

func (resting) listens() bool { return true }

func (r reading) read(b byte) (doing, *request.Request) {
	switch {
	case r.Read(b):
		asked := r.Request()
		return resting{}, &asked
	case r.HeadIsOver():
		return inBody{r}, nil
	}
	return inHead{r}, nil
}

func (r reading) held() int { return r.Count() }

func (reading) listens() bool { return true }

func (leaving) read(byte) (doing, *request.Request) { return leaving{}, nil }

func (leaving) held() int { return 0 }

func (leaving) listens() bool { return false }

package request

import (
	"strconv"
	"strings"
)

// kind is how a head tells its body.
type kind int

const (
	untold kind = iota
	counted
	chunked
	unclear
)

// sizing is what a head tells of its body.
type sizing struct {
	kind   kind
	length int // of a counted body
}

// tell takes what one field says. Two such fields make it unclear, even if they say the same.
func (s *sizing) tell(said sizing) {
	if s.kind != untold {
		said = sizing{kind: unclear}
	}
	*s = said
}

const maxDigits = 9

func sizeOfLength(value string) sizing {
	if len(value) < 1 || len(value) > maxDigits {
		return sizing{kind: unclear}
	}
	length := 0
	for i := range len(value) {
		if !isDigit(value[i]) {
			return sizing{kind: unclear}
		}
		length = length*10 + int(value[i]-'0')
	}
	return sizing{counted, length}
}

func sizeOfCoding(value string) sizing {
	if strings.EqualFold(value, "chunked") {
		return sizing{kind: chunked}
	}
	return sizing{kind: unclear}
}

func (r *Reader) readBody() state {
	switch {
	case r.size.kind == unclear:
		return r.fail(Malformed)
	case r.size.kind == chunked:
		return r.readChunk()
	case r.size.length > MaxBody:
		return r.fail(BodyTooLarge)
	case r.size.length > 0:
		return r.readCounted
	}
	return nil
}

// readCounted looks for the end behind each byte: no byte comes behind the last one to show it.
func (r *Reader) readCounted(b byte) state {
	r.body = append(r.body, b)
	if len(r.body) < r.size.length {
		return r.readCounted
	}
	return nil
}

const maxSigns = 4

func (r *Reader) readChunk() state {
	r.signs = nil
	return r.piece(run{1, maxSigns, isSign, &r.signs}, lineEnd, r.endSigns)
}

func (r *Reader) endSigns() state {
	// One to four signs are always a number, so there is no error to look at.
	number, _ := strconv.ParseInt(string(r.signs), 16, 32)
	size := int(number)
	switch {
	case size == 0:
		return r.exactly(lineEnd, over)
	case len(r.body)+size > MaxBody:
		return r.fail(BodyTooLarge)
	}
	return r.piece(run{size, size, isAny, &r.body}, lineEnd, r.readChunk)
}

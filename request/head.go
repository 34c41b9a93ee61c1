package request

import "strings"

const lineEnd = "\r\n"

// The most bytes of the head's parts.
const (
	maxMethod = 8
	maxPath   = 30
	maxName   = 20
)

func (r *Reader) readMethod() state {
	return r.piece(run{1, maxMethod, isCapital, &r.method}, " /", r.readPath)
}

func (r *Reader) readPath() state {
	return r.piece(run{0, maxPath, isPathByte, &r.path}, " HTTP/1.1"+lineEnd, r.readFields)
}

func (r *Reader) readFields() state {
	return func(b byte) state {
		if b == lineEnd[0] {
			return r.exactly(lineEnd[1:], r.endHead)
		}
		return r.readName()(b)
	}
}

func (r *Reader) readName() state {
	r.name, r.value = nil, nil
	return r.piece(run{1, maxName, isNameByte, &r.name}, ":", r.readValue)
}

// readValue gives the value MaxHead bytes: the head is too large before it has so many.
func (r *Reader) readValue() state {
	return r.piece(run{0, MaxHead, isValueByte, &r.value}, lineEnd, r.endField)
}

func (r *Reader) endField() state {
	name, value := string(r.name), strings.Trim(string(r.value), " \t")
	switch {
	case strings.EqualFold(name, "Content-Length"):
		r.size.tell(sizeOfLength(value))
	case strings.EqualFold(name, "Transfer-Encoding"):
		r.size.tell(sizeOfCoding(value))
	case strings.EqualFold(name, "Connection") && strings.EqualFold(value, "close"):
		r.close = true
	}
	return r.readFields()
}

func (r *Reader) endHead() state {
	r.headOver = true
	r.name, r.value = nil, nil
	return r.readBody()
}

package hearth

import (
	"strconv"

	"hearth/request"
)

const (
	statusOK         = "200 OK"
	statusCreated    = "201 Created"
	statusNoContent  = "204 No Content"
	statusBadRequest = "400 Bad Request"
	statusNotFound   = "404 Not Found"
	statusNotAllowed = "405 Method Not Allowed"
	statusTooLarge   = "413 Content Too Large"
	statusHeadLarge  = "431 Request Header Fields Too Large"
	statusNoRoom     = "507 Insufficient Storage"
)

type answer struct {
	status string
	length int // as Content-Length tells it: HEAD tells a length without a text
	text   string
	last   bool
}

func (a answer) bytes() string {
	s := "HTTP/1.1 " + a.status + "\r\n"
	if a.status != statusNoContent {
		s += "Content-Length: " + strconv.Itoa(a.length) + "\r\n"
	}
	if a.last {
		s += "Connection: close\r\n"
	}
	return s + "\r\n" + a.text
}

// reply does what a request asks, and makes its answer.
func (s *Server) reply(q request.Request) answer {
	if q.Fault != request.None {
		return answer{status: faultStatus(q.Fault), last: true}
	}
	a := s.serve(q)
	a.last = q.Close || s.draining
	return a
}

func faultStatus(f request.Fault) string {
	switch f {
	case request.BodyTooLarge:
		return statusTooLarge
	case request.HeadTooLarge:
		return statusHeadLarge
	}
	return statusBadRequest
}

func (s *Server) serve(q request.Request) answer {
	switch q.Method {
	case "GET":
		return s.get(q.Target)
	case "HEAD":
		a := s.get(q.Target)
		a.text = ""
		return a
	case "PUT":
		return s.put(q.Target, q.Body)
	case "DELETE":
		return s.remove(q.Target)
	}
	return answer{status: statusNotAllowed}
}

func (s *Server) get(target string) answer {
	text, ok := s.texts.Get(target)
	if !ok {
		return answer{status: statusNotFound}
	}
	return answer{status: statusOK, length: len(text), text: text}
}

func (s *Server) put(target, text string) answer {
	_, had := s.texts.Get(target)
	switch {
	case !s.texts.Put(target, text):
		return answer{status: statusNoRoom}
	case had:
		return answer{status: statusNoContent}
	}
	return answer{status: statusCreated}
}

func (s *Server) remove(target string) answer {
	if !s.texts.Delete(target) {
		return answer{status: statusNotFound}
	}
	return answer{status: statusNoContent}
}

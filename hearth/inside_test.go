package hearth

// HasDeadline tells whether any deadline of a connection stands, which no call tells.
func (s *Server) HasDeadline(id int) bool {
	for of := range limitCount {
		if s.deadlines.Has(deadline{id, of}) {
			return true
		}
	}
	return false
}

// Package store keeps texts by their targets, as many as there is room for.
package store

// MaxStore is how many bytes the targets and their texts may have together.
const MaxStore = 400

type entry struct{ text string }

// Store keeps texts. Make it by New.
type Store struct {
	entries map[string]entry
	used    int
}

// New makes a store that keeps nothing.
func New() *Store { return &Store{entries: map[string]entry{}} }

// Get tells the text of a target, and whether it has one.
func (s *Store) Get(target string) (string, bool) {
	e, ok := s.entries[target]
	return e.text, ok
}

// Put gives a target a text, and tells whether there was room; if not, nothing is changed.
func (s *Store) Put(target, text string) bool {
	used := s.used - s.taken(target) + len(target) + len(text)
	if used > MaxStore {
		return false
	}
	s.entries[target] = entry{text}
	s.used = used
	return true
}

// Delete takes a target's text away, and tells whether it had one.
func (s *Store) Delete(target string) bool {
	_, ok := s.entries[target]
	s.used -= s.taken(target)
	delete(s.entries, target)
	return ok
}

// Used tells how many bytes the targets that have a text and the texts have together.
func (s *Store) Used() int { return s.used }

func (s *Store) taken(target string) int {
	e, ok := s.entries[target]
	if !ok {
		return 0
	}
	return len(target) + len(e.text)
}

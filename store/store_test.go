package store

import (
	"strings"
	"testing"
)

func check(t *testing.T, s *Store, target, text string, has bool, used int) {
	t.Helper()
	if got, ok := s.Get(target); got != text || ok != has || s.Used() != used {
		t.Errorf("Get(%q) = %q, %v with %d used; want %q, %v with %d", target, got, ok, s.Used(), text, has, used)
	}
}

func TestPutGetDelete(t *testing.T) {
	s := New()
	check(t, s, "/a", "", false, 0)
	if s.Delete("/a") || !s.Put("/a", "one") {
		t.Error("a new store has a text, or no room")
	}
	check(t, s, "/a", "one", true, 5)
	if !s.Put("/a", "") {
		t.Error("no room for a smaller text")
	}
	check(t, s, "/a", "", true, 2)
	if !s.Delete("/a") || s.Delete("/a") {
		t.Error("an empty text is not deleted, or deleted twice")
	}
	check(t, s, "/a", "", false, 0)
}

func TestRoom(t *testing.T) {
	s := New()
	if s.Put("/a", strings.Repeat("x", MaxStore-1)) {
		t.Error("there was room for a byte too many")
	}
	check(t, s, "/a", "", false, 0)
	full := strings.Repeat("y", MaxStore-2)
	if !s.Put("/a", full) {
		t.Error("there was no room for the last byte")
	}
	if s.Put("/", "") || s.Put("/a", full+"y") {
		t.Error("a full store took more")
	}
	check(t, s, "/a", full, true, MaxStore)
	if !s.Put("/a", strings.ToUpper(full)) {
		t.Error("the text that is replaced was counted")
	}
	check(t, s, "/a", strings.ToUpper(full), true, MaxStore)
	check(t, s, "/", "", false, MaxStore)
}

func TestStoresShareNothing(t *testing.T) {
	a, b := New(), New()
	a.Put("/a", "x")
	check(t, b, "/a", "", false, 0)
}

// Package wheel keeps deadlines in a wheel of slots, by their ticks.
package wheel

import "slices"

// Slots is how many ticks ahead a deadline may lie at most.
const Slots = 32

// Wheel keeps deadlines, of whatever kind they are. Make it by New.
type Wheel[T comparable] struct {
	slots [Slots][]T
	hand  int       // the slot of the tick that is now
	at    map[T]int // in which slot each deadline lies
}

// New makes a wheel without deadlines.
func New[T comparable]() *Wheel[T] { return &Wheel[T]{at: map[T]int{}} }

// Set lets a deadline stand, 1 to Slots ticks from now; it stands nowhere else any more.
func (w *Wheel[T]) Set(d T, ticks int) {
	w.Clear(d)
	slot := (w.hand + ticks) % Slots
	w.slots[slot] = append(w.slots[slot], d)
	w.at[d] = slot
}

// Has tells whether a deadline stands.
func (w *Wheel[T]) Has(d T) bool {
	_, ok := w.at[d]
	return ok
}

// Clear takes a deadline away, if it stands.
func (w *Wheel[T]) Clear(d T) {
	slot, ok := w.at[d]
	if !ok {
		return
	}
	delete(w.at, d)
	w.slots[slot] = slices.DeleteFunc(w.slots[slot], func(other T) bool { return other == d })
}

// Run turns the wheel at each step and tells the deadlines that are met, until the end; then it closes due.
// While it runs, the wheel is its own.
func (w *Wheel[T]) Run(steps, end <-chan struct{}, due chan<- T) {
	defer close(due)
	for {
		select {
		case <-steps:
			for _, d := range w.turn() {
				due <- d
			}
		case <-end:
			return
		}
	}
}

// turn is one tick; it answers the deadlines that are met, which stand no more.
func (w *Wheel[T]) turn() []T {
	w.hand = (w.hand + 1) % Slots
	met := w.slots[w.hand]
	w.slots[w.hand] = nil
	for _, d := range met {
		delete(w.at, d)
	}
	return met
}

package wheel_test

import (
	"math/rand"
	"slices"
	"testing"

	"hearth/wheel"
)

// turn lets the wheel go so many steps in one run, and answers what was met.
func turn(w *wheel.Wheel[int], count int) []int {
	steps, end, due := make(chan struct{}), make(chan struct{}), make(chan int)
	go w.Run(steps, end, due)
	go func() {
		defer close(end)
		for range count {
			steps <- struct{}{}
		}
	}()
	var met []int
	for d := range due {
		met = append(met, d)
	}
	return met
}

func hold(t *testing.T, what string, got, want []int) {
	t.Helper()
	if !slices.Equal(got, want) {
		t.Errorf("%s: %v, want %v", what, got, want)
	}
}

func TestEachDeadlineIsMetOnceAtItsTick(t *testing.T) {
	for ahead := range 2 * wheel.Slots {
		for ticks := 1; ticks <= wheel.Slots; ticks++ {
			w := wheel.New[int]()
			turn(w, ahead)
			w.Set(7, ticks)
			hold(t, "too early", turn(w, ticks-1), nil)
			if !w.Has(7) {
				t.Errorf("%d ticks: it does not stand", ticks)
			}
			hold(t, "at its tick", turn(w, 1), []int{7})
			if w.Has(7) {
				t.Errorf("%d ticks: it stands still", ticks)
			}
			hold(t, "once more", turn(w, 2*wheel.Slots), nil)
		}
	}
}

func TestSeveral(t *testing.T) {
	w := wheel.New[int]()
	w.Set(1, 3)
	w.Set(2, 2)
	w.Set(3, 3)
	w.Set(4, 3)
	w.Clear(3)
	w.Clear(5)
	hold(t, "three steps", turn(w, 3), []int{2, 1, 4})
	hold(t, "no steps", turn(w, 0), nil)
}

func TestSetMoves(t *testing.T) {
	w := wheel.New[int]()
	w.Set(1, 2)
	w.Set(1, 5)
	w.Set(2, 5)
	w.Set(2, 5)
	w.Set(2, 1)
	hold(t, "the first step", turn(w, 1), []int{2})
	hold(t, "up to the fourth", turn(w, 3), nil)
	hold(t, "the fifth", turn(w, 1), []int{1})
}

func TestClear(t *testing.T) {
	w := wheel.New[int]()
	w.Set(1, 1)
	w.Clear(1)
	w.Clear(1)
	if w.Has(1) {
		t.Error("it stands still")
	}
	hold(t, "a whole turn", turn(w, wheel.Slots), nil)
	w.Set(1, 1)
	hold(t, "set again", turn(w, 1), []int{1})
}

func TestAnyOrder(t *testing.T) {
	r := rand.New(rand.NewSource(1))
	w, at, now := wheel.New[int](), map[int]int{}, 0
	for range 20000 {
		d := r.Intn(12)
		switch r.Intn(4) {
		case 0:
			ticks := 1 + r.Intn(wheel.Slots)
			w.Set(d, ticks)
			at[d] = now + ticks
		case 1:
			w.Clear(d)
			delete(at, d)
		default:
			now++
			var want []int
			for d, tick := range at {
				if tick == now {
					want = append(want, d)
					delete(at, d)
				}
			}
			got := turn(w, 1)
			slices.Sort(got)
			slices.Sort(want)
			hold(t, "a step", got, want)
		}
		if _, stands := at[d]; w.Has(d) != stands {
			t.Fatalf("Has(%d) = %v", d, !stands)
		}
	}
}

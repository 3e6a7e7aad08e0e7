// Package arena is layer 1: see shared/doc/01-arena.md.
package arena

import "regrater/api"

type slot[T any] struct {
	used bool
	x    T
}

// Arena of things at places, whose places are used again.
type Arena[T any] struct {
	room  int
	slots []slot[T]
	freed []int // the last one is used again first
}

// New arena with room for so many.
func New[T any](room int) *Arena[T] {
	return &Arena[T]{room: min(max(room, 0), api.MaxArena)}
}

// Alloc a place for a thing.
func (a *Arena[T]) Alloc(x T) (int, bool) {
	if a == nil || a.Live() >= a.room {
		return 0, false
	}
	if n := len(a.freed); n > 0 {
		i := a.freed[n-1]
		a.freed = a.freed[:n-1]
		a.slots[i] = slot[T]{true, x}
		return i, true
	}
	a.slots = append(a.slots, slot[T]{true, x})
	return len(a.slots) - 1, true
}

func (a *Arena[T]) has(i int) bool {
	return a != nil && i >= 0 && i < len(a.slots) && a.slots[i].used
}

// Free a place.
func (a *Arena[T]) Free(i int) bool {
	if !a.has(i) {
		return false
	}
	a.slots[i] = slot[T]{} // so that nothing holds on to what was there
	a.freed = append(a.freed, i)
	return true
}

// Get what is at a place.
func (a *Arena[T]) Get(i int) (T, bool) {
	if !a.has(i) {
		var none T
		return none, false
	}
	return a.slots[i].x, true
}

// Set what is at a place.
func (a *Arena[T]) Set(i int, x T) bool {
	if !a.has(i) {
		return false
	}
	a.slots[i].x = x
	return true
}

// Live: how many things there are.
func (a *Arena[T]) Live() int {
	if a == nil {
		return 0
	}
	return len(a.slots) - len(a.freed)
}

// All things, by places.
func (a *Arena[T]) All() func(yield func(int, T) bool) {
	return func(yield func(int, T) bool) {
		if a == nil {
			return
		}
		for i, s := range a.slots {
			if s.used && !yield(i, s.x) {
				return
			}
		}
	}
}

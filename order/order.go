// Package order is layer 2: see shared/doc/02-order.md.
package order

import (
	"regrater/api"
	"regrater/arena"
)

// Every tag is below end, so that each stamp has room behind it.
const end = int64(1) << 62

const none = -1

// A stamp's neighbours, and its tag: tags rise along the list.
type link struct {
	prev, next int
	tag        int64
}

// List of stamps, in an order that is kept.
type List struct {
	*arena.Arena[link]
}

// New list: with one stamp, 0.
func New() *List {
	l := &List{arena.New[link](api.MaxArena)}
	l.Alloc(link{none, none, 0})
	return l
}

// After a stamp: a new one right behind it.
func (l *List) After(s int) (int, bool) {
	if !l.Has(s) || l.Live() >= api.MaxArena {
		return 0, false
	}
	if l.gap(s) < 2 {
		l.spread(s)
	}
	at, _ := l.Get(s)
	n, _ := l.Alloc(link{s, at.next, at.tag + l.gap(s)/2})
	l.join(s, n)
	l.join(n, at.next)
	return n, true
}

// Delete a stamp.
func (l *List) Delete(s int) bool {
	if s == 0 || !l.Has(s) {
		return false
	}
	at, _ := l.Get(s)
	l.join(at.prev, at.next)
	return l.Free(s)
}

// Less: does a stamp stand ahead of another one?
func (l *List) Less(a, b int) bool {
	return l.Has(a) && l.Has(b) && l.tag(a) < l.tag(b)
}

// Has a stamp.
func (l *List) Has(s int) bool {
	if l == nil {
		return false
	}
	_, ok := l.Get(s)
	return ok
}

// Len: how many stamps there are.
func (l *List) Len() int {
	if l == nil {
		return 0
	}
	return l.Live()
}

// All stamps, in order.
func (l *List) All() func(yield func(int) bool) {
	return func(yield func(int) bool) {
		if l == nil {
			return
		}
		for s := 0; s != none && yield(s); {
			at, _ := l.Get(s)
			s = at.next
		}
	}
}

func (l *List) tag(s int) int64 {
	at, _ := l.Get(s)
	return at.tag
}

// join makes b the stamp behind a; one of both may be none.
func (l *List) join(a, b int) {
	if at, ok := l.Get(a); ok {
		at.next = b
		l.Set(a, at)
	}
	if at, ok := l.Get(b); ok {
		at.prev = a
		l.Set(b, at)
	}
}

// gap between a stamp's tag and the one behind it.
func (l *List) gap(s int) int64 {
	at, _ := l.Get(s)
	if at.next == none {
		return end - at.tag
	}
	return l.tag(at.next) - at.tag
}

// spread gives new tags to the stamps around s, in the least range of tags that is sparse enough.
//
// A range of 2^i tags may hold (4/3)^i stamps: the greater it is, the sparser, so that a range that
// was spread stays sparse for long, and each stamp is given few tags in all.
func (l *List) spread(s int) {
	tag := l.tag(s)
	first, last, count := s, s, int64(1)
	most := int64(1) << 16 // how many the range may hold, in parts of 2^16
	for size := int64(2); ; size *= 2 {
		most += most / 3
		low := tag &^ (size - 1)
		for p := l.prev(first); p != none && l.tag(p) >= low; p = l.prev(first) {
			first = p
			count++
		}
		for n := l.next(last); n != none && l.tag(n) < low+size; n = l.next(last) {
			last = n
			count++
		}
		if count <= most>>16 || size == end {
			l.lay(first, count, low, size/count)
			return
		}
	}
}

func (l *List) prev(s int) int {
	at, _ := l.Get(s)
	return at.prev
}

func (l *List) next(s int) int {
	at, _ := l.Get(s)
	return at.next
}

// lay gives so many stamps, from s on, tags at even steps.
func (l *List) lay(s int, count, low, step int64) {
	for i := range count {
		at, _ := l.Get(s)
		at.tag = low + i*step
		l.Set(s, at)
		s = at.next
	}
}

package settle

import "slices"

// A picker chooses by an order, which goes on over all choices of a propagation.
type picker struct {
	order   []int
	choices int
}

// of returns the index of what is chosen of n elements. Where there is one only, nothing is chosen.
func (p *picker) of(n int) int {
	if n < 2 || len(p.order) == 0 {
		return 0
	}
	at := p.order[p.choices%len(p.order)] % n
	p.choices++
	if at < 0 {
		at += n
	}
	return at
}

// A work is what is pending, of any type.
type work[T any] struct {
	pick    *picker
	pending []T
	chosen  chan T // has room for one element
}

// pend makes a work of a list.
func pend[T any](pick *picker, l []T) *work[T] {
	return &work[T]{pick: pick, pending: slices.Clone(l), chosen: make(chan T, 1)}
}

// next chooses one of the pending elements, unless the last one is still to be received, and returns the channel that has it. Nothing is there if nothing is pending.
func (w *work[T]) next() <-chan T {
	if len(w.pending) > 0 && len(w.chosen) == 0 {
		at := w.pick.of(len(w.pending))
		w.chosen <- w.pending[at]
		w.pending[at] = w.pending[0] // the gap is closed from the front, since the list may be long
		w.pending = w.pending[1:]
	}
	return w.chosen
}

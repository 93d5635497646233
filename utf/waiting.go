package utf

// waiting is bytes with which some point's bytes of more begin, or none.
type waiting struct {
	// An array, so that a decoder keeps nothing of the text that they were cut from.
	room  [longest - 1]byte
	count int
}

// any tells whether some wait.
func (w *waiting) any() bool { return w.count > 0 }

// keep lets these wait, instead of those that did.
func (w *waiting) keep(text string) { w.count = copy(w.room[:], text) }

// list is a copy of them.
func (w *waiting) list() []byte { return together(w.room[:w.count:w.count]) }

// together is pieces, one behind the other, in memory of its own.
func together[T any](pieces ...[]T) []T {
	var all []T
	for _, piece := range pieces {
		all = append(all, piece...)
	}
	return all
}

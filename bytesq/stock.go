package bytesq

import "iter"

// stock is bytes in order, in a slice that is used again from its beginning on where they reach its end.
type stock struct {
	ring  []byte
	start int
	count int
}

// index is where in the slice the byte of a place stands, up to the one behind the last.
func (s *stock) index(place int) int {
	at := s.start + place
	if at >= len(s.ring) {
		at -= len(s.ring)
	}
	return at
}

// widen makes the slice long enough for so many bytes, and never longer than the most.
func (s *stock) widen(need, most int) {
	if need <= len(s.ring) {
		return
	}
	// Twice as long at least, so that many short pushes do not move all bytes each time.
	ring := make([]byte, min(max(need, 2*len(s.ring)), most))
	copy(ring, s.first(s.count))
	s.ring, s.start = ring, 0
}

// put puts a part behind the others; the slice is long enough.
func (s *stock) put(part []byte) {
	at := s.index(s.count)
	cut := min(len(part), len(s.ring)-at)
	copy(s.ring[at:], part[:cut:cut])
	copy(s.ring, part[cut:len(part):len(part)])
	s.count += len(part)
}

// first is a copy of the first bytes, so many.
func (s *stock) first(n int) []byte {
	l := make([]byte, n)
	end := min(s.start+n, len(s.ring))
	done := copy(l, s.ring[s.start:end:end])
	copy(l[done:], s.ring)
	return l
}

// drop lets the first bytes go, so many.
func (s *stock) drop(n int) {
	s.start, s.count = s.index(n), s.count-n
}

// apart is a copy that goes on for itself.
func (s *stock) apart() stock {
	return stock{ring: s.first(s.count), count: s.count}
}

// each goes over the bytes, from the first one on, each with its place.
func (s stock) each() iter.Seq2[int, byte] {
	return func(yield func(int, byte) bool) {
		for place := range s.count {
			if !yield(place, s.ring[s.index(place)]) {
				return
			}
		}
	}
}

// like tells whether another one has the same bytes, wherever they stand.
func (s *stock) like(other *stock) bool {
	if s.count != other.count {
		return false
	}
	same := true
compare:
	for place, b := range s.each() {
		if other.ring[other.index(place)] != b {
			same = false
			break compare
		}
	}
	return same
}

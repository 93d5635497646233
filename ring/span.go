package ring

import "math"

// The places of ends.
const (
	oldest = iota
	behind
)

// last is the greatest index that a value gets: the one behind it must be a number, too.
const last = math.MaxUint64 - 1

// span is indices without a gap.
type span struct {
	// That of the oldest value, and the one behind that of the newest, which the next value gets.
	ends [2]uint64
}

// count is how many there are.
func (s *span) count() int { return int(s.ends[behind] - s.ends[oldest]) }

// holds tells whether an index is one of them.
func (s *span) holds(at uint64) bool { return s.ends[oldest] <= at && at < s.ends[behind] }

// spent tells whether there is no further index.
func (s *span) spent() bool { return s.ends[behind] > last }

// lengthen is the next index, which is one of them from then on.
func (s *span) lengthen() uint64 {
	s.ends[behind]++
	return s.ends[behind] - 1
}

// shorten is the oldest index, which is none of them any more.
func (s *span) shorten() uint64 {
	s.ends[oldest]++
	return s.ends[oldest] - 1
}

// rest is those from an index on.
func (s *span) rest(at uint64) span {
	start := min(max(at, s.ends[oldest]), s.ends[behind])
	return span{[2]uint64{oldest: start, behind: s.ends[behind]}}
}

// list is all of them, rising.
func (s *span) list() []uint64 {
	l := make([]uint64, s.count())
	for place := range l {
		l[place] = s.ends[oldest] + uint64(place)
	}
	return l
}

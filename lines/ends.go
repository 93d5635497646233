package lines

import (
	"iter"
	"slices"

	"bellman/api"
)

// The places of ends.
const (
	cr = iota
	lf
)

// ends are the bytes with which a line ends.
var ends = [2]byte{cr: '\r', lf: '\n'}

// portion is how many bytes are made text at a time.
const portion = 4096

// cut cuts bytes into pieces: however many come at once, no more memory is taken for their text than for a portion's.
func cut(b []byte) [][]byte {
	var pieces [][]byte
	for len(b) > 0 {
		size := min(len(b), portion)
		pieces = append(pieces, b[:size:size])
		b = b[size:]
	}
	return pieces
}

// come lets pieces come, and goes over the lines that end with them, each with its number.
func (s *Splitter) come(pieces ...[]byte) iter.Seq2[int, api.Line] {
	return func(yield func(int, api.Line) bool) {
		number := 0
	over:
		for _, piece := range pieces {
			for text := s.text(piece); len(text) > 0; {
				line, left, ended := s.next(text)
				text = left
				if !ended {
					continue over
				}
				if !yield(number, line) {
					break over
				}
				number++
			}
		}
	}
}

// next lets of a text, which is not empty, no more come than up to a line's end, if there is one: the line, and what
// is left of the text.
func (s *Splitter) next(text []byte) (line api.Line, left []byte, ended bool) {
	if s.half && text[0] == ends[lf] {
		text = text[1:]
	}
	s.half = false
	end := first(text, func(b byte) bool { return b == ends[cr] || b == ends[lf] })
	s.rest.add(s.most, text[:end:end])
	if end == len(text) {
		return api.Line{}, nil, false
	}
	s.half = text[end] == ends[cr]
	line, s.rest = s.rest.line(), unended{}
	return line, text[end+1:], true
}

// first is the place of the first thing in a list that is such a one, or how many there are, if none is.
func first[T any](list []T, such func(T) bool) int {
	for place, thing := range list {
		if such(thing) {
			return place
		}
	}
	return len(list)
}

// unended is a line whose end has not come.
type unended struct {
	bytes []byte
	long  bool
}

// add puts bytes to it. Of a line that is too long none is kept.
func (u *unended) add(most int, b []byte) {
	if u.long || len(b) > most-len(u.bytes) {
		*u = unended{long: true}
		return
	}
	u.bytes = append(u.bytes, b...)
}

// line is what it would be, if it ended.
func (u *unended) line() api.Line { return api.Line{Text: string(u.bytes), Long: u.long} }

// apart is another one with the same.
func (u *unended) apart() unended { return unended{slices.Clone(u.bytes), u.long} }

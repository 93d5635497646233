package parse

import (
	"iter"
	"slices"

	"bellman/api"
	"bellman/field"
	"bellman/lines"
)

// portion is how many bytes come to a splitter at a time.
const portion = 4096

// cut cuts bytes into pieces: however many come at once, no more lines are made at a time than those of a portion.
func cut(b []byte) [][]byte { return slices.Collect(slices.Chunk(b, portion)) }

// splitter tells what lines say, as they end. The methods of layer 5's one are hidden by a parser's, which have the
// same names: none of them is given out.
type splitter struct{ *lines.Splitter }

// split is one to which nothing came, of a cap that may be.
func split(most int) splitter {
	s, _ := lines.New(most)
	return splitter{s}
}

// fields lets pieces come, and goes over what the lines say that end with them, where that does something.
func (s *splitter) fields(pieces ...[]byte) iter.Seq[api.Field] {
	return func(yield func(api.Field) bool) {
		for _, piece := range pieces {
			ended, _ := s.Write(piece)
			for _, line := range ended {
				if f, does := said(line); does && !yield(f) {
					return
				}
			}
		}
	}
}

// apart is another one with the same.
func (s *splitter) apart() splitter { return splitter{s.Copy()} }

// said is what a line says, and whether that does something. One that is too long does, although what it says is not
// known: that is a field of no Kind.
func said(line api.Line) (api.Field, bool) {
	if line.Long {
		return api.Field{}, true
	}
	f := field.Of(line.Text)
	return f, field.Counts(f)
}

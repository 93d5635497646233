package lines

import (
	"strings"

	"bellman/utf"
)

// mark is the point feff, which says nothing where it is the first one of all.
const mark = "\uFEFF"

// decoder makes bytes sound as they come, and leaves such a mark out.
type decoder struct {
	// Not embedded: a splitter gives out no methods of it but those of its chapter.
	points *utf.Decoder
	// Whether a point has been told.
	any bool
}

// begun is one to which nothing came.
func begun() decoder { return decoder{points: utf.New()} }

// text is what is told of bytes that come.
func (d *decoder) text(b []byte) []byte {
	told, _ := d.points.Write(b)
	if !d.any && told != "" {
		d.any = true
		told = strings.TrimPrefix(told, mark)
	}
	return []byte(told)
}

// apart is another one with the same.
func (d *decoder) apart() decoder { return decoder{d.points.Copy(), d.any} }

package utf

import "iter"

const (
	// longest is how many bytes a point has at most.
	longest = 4
	// instead is told where no point's bytes stand, and insteadPoint is its point.
	instead      = "\uFFFD"
	insteadPoint = 0xfffd
)

// A byte behind a lead byte has a mark, and so many of the point's bits.
const (
	moreMark = 0x80
	moreBits = 6
	moreMask = 1<<moreBits - 1
)

// lead is lead bytes that ask the same of the bytes behind them.
type lead struct {
	// The points whose bytes begin with them.
	least, most int
	// What stands ahead of a point's highest bits, and how many bytes come behind.
	mark byte
	more int
}

// leads are all lead bytes. A row ends where it must, so that bytes which lie, place by place, between those of
// its least and those of its most point are a point's of that row.
var leads = [9]lead{
	{0x0, 0x7f, 0x00, 0},
	{0x80, 0x7ff, 0xc0, 1},
	{0x800, 0xfff, 0xe0, 2},
	{0x1000, 0xcfff, 0xe0, 2},
	{0xd000, 0xd7ff, 0xe0, 2},
	{0xe000, 0xffff, 0xe0, 2},
	{0x10000, 0x3ffff, 0xf0, 3},
	{0x40000, 0xfffff, 0xf0, 3},
	{0x100000, 0x10ffff, 0xf0, 3},
}

// leadTo is the one with which a point's bytes begin; what is no point has none.
func leadTo(point int) (lead, bool) {
	for _, l := range leads {
		if l.least <= point && point <= l.most {
			return l, true
		}
	}
	return lead{}, false
}

// leadOf is the one that a byte is.
func leadOf(b byte) (lead, bool) {
	for _, l := range leads {
		if l.takes(b, 0) {
			return l, true
		}
	}
	return lead{}, false
}

// byteOf is the byte at a place of a point's bytes.
func (l lead) byteOf(point, place int) byte {
	bits := point >> (moreBits * (l.more - place))
	if place == 0 {
		return l.mark | byte(bits)
	}
	return moreMark | byte(bits&moreMask)
}

// takes tells whether some point's bytes have a byte at a place, where those ahead of it are as they may be.
func (l lead) takes(b byte, place int) bool {
	return l.byteOf(l.least, place) <= b && b <= l.byteOf(l.most, place)
}

// What stands at the beginning of a text.
const (
	// A point's bytes.
	whole = iota
	// What no bytes behind it could make a point's bytes.
	broken
	// What other bytes behind it could make a point's bytes, but the text ends.
	short
)

// reading is what is told of bytes: which point, by which text, of how many bytes, and what they are.
type reading struct {
	point int
	told  string
	size  int
	state int
}

// read tells what stands at the beginning of a text, which has a byte at least.
func read(text string) reading {
	point, size, state := 0, 1, broken
	l, ok := leadOf(text[0])
	if !ok {
		goto none
	}
	point = int(text[0] - l.mark)
	for ; size <= l.more; size++ {
		if size == len(text) {
			state = short
			goto none
		}
		if !l.takes(text[size], size) {
			goto none
		}
		point = point<<moreBits | int(text[size]&moreMask)
	}
	return reading{point, text[:size], size, whole}
none:
	return reading{insteadPoint, instead, size, state}
}

// readings goes over what stands in a text, each with the place at which it begins.
func readings(text string) iter.Seq2[int, reading] {
	return func(yield func(int, reading) bool) {
		for place := 0; place < len(text); {
			r := read(text[place:])
			if !yield(place, r) {
				return
			}
			place += r.size
		}
	}
}

package decimal

import (
	"iter"

	"bellman/api"
)

// The places of bases.
const (
	ten = iota
	sixteen
)

// bases are what digits may be to.
var bases = [2]uint64{ten: 10, sixteen: 16}

const (
	// signs are the digits that are written, by what they are worth.
	signs = "0123456789abcdef"
	// worthless is above what any digit is worth, to every base.
	worthless = 16
	// longest is how many digits a number has at most, to the least base.
	longest = 20
)

// digits goes over what a number's digits are worth, from the lowest one on.
func digits(n, base uint64) iter.Seq2[int, byte] {
	return func(yield func(int, byte) bool) {
		// Each going over has its own rest: n itself must stay for the next one.
		left := n
		for place := 0; yield(place, byte(left%base)); place++ {
			left /= base
			if left == 0 {
				return
			}
		}
	}
}

// written is a number's digits by their signs, the highest one ahead.
func written(n, base uint64) string {
	var room [longest]byte
	at := len(room)
	for _, digit := range digits(n, base) {
		at--
		room[at] = signs[digit]
	}
	return string(room[at:])
}

// worth tells what a digit is worth.
func worth(sign byte) uint64 {
	switch {
	case '0' <= sign && sign <= '9':
		return uint64(sign - '0')
	case 'a' <= sign && sign <= 'f':
		return uint64(sign-'a') + 10
	case 'A' <= sign && sign <= 'F':
		return uint64(sign-'A') + 10
	}
	return worthless
}

// digitTo makes the ask whether a byte is a digit to a base.
func digitTo(base uint64) func(byte) bool {
	return func(sign byte) bool { return worth(sign) < base }
}

// text is what is read.
type text string

// empty tells whether there is no byte.
func (t text) empty() bool { return len(t) == 0 }

// padded tells whether a nought stands ahead of others.
func (t text) padded() bool { return len(t) > 1 && t[0] == '0' }

// all goes over the bytes, from the first one on, each with its place.
func (t text) all() iter.Seq2[int, byte] {
	return func(yield func(int, byte) bool) {
		for place := range len(t) {
			if !yield(place, t[place]) {
				return
			}
		}
	}
}

// reader reads digits to a base.
type reader struct {
	text
	base uint64
}

// number is that of the digits.
func (r reader) number() (uint64, api.Errno) {
	n, e := uint64(0), api.OK
	isDigit, sound := digitTo(r.base), true
	if r.empty() {
		goto none
	}
read:
	for _, sign := range r.all() {
		switch {
		case !isDigit(sign):
			sound = false
			break read
		case e == api.OK: // else it is too great, but a later byte that is no digit counts ahead of that
			n, e = r.more(n, sign)
		}
	}
	if sound {
		return n, e
	}
none:
	return 0, api.ErrText
}

// more is the number with one more digit behind it.
func (r reader) more(n uint64, sign byte) (uint64, api.Errno) {
	shifted, e := Mul(n, r.base)
	if e != api.OK {
		return 0, e
	}
	return Add(shifted, worth(sign))
}

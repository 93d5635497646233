package target

import (
	"bellman/api"
	"bellman/decimal"
)

// text is what is left of a text that is taken from its beginning on.
type text string

// ended tells whether nothing is left.
func (t *text) ended() bool { return *t == "" }

// take takes so many bytes, or all, if there are fewer.
func (t *text) take(many int) string {
	many = min(many, len(*t))
	taken := (*t)[:many]
	*t = (*t)[many:]
	return string(taken)
}

// reader is a text that is decoded.
type reader struct {
	text
	// Whether a + is a blank.
	plus bool
}

// next takes what is written of one byte, of which there is some; it gives up on what is wrong.
func (r *reader) next() byte {
	switch first := r.take(1); {
	case first == percent:
		return octet(r.take(2))
	case first == plusSign && r.plus:
		return ' '
	default:
		return first[0]
	}
}

// octet is the byte of two hex digits; it gives up on what is none.
func octet(digits string) byte {
	n, no := decimal.HexDigits(digits)
	must(len(digits) == 2 && no == api.OK, api.ErrTarget)
	return byte(n)
}

// decoded is a text, decoded; it gives up on what is wrong.
func decoded(s string, plus bool) string {
	r := reader{text: text(s), plus: plus}
	b := make([]byte, 0, len(s))
	for !r.ended() {
		b = append(b, r.next())
	}
	return string(b)
}

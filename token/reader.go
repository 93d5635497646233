package token

import (
	"iter"
	"strings"
)

const (
	// comma stands between a list's items.
	comma = ","
	// quote begins and ends a quoted text.
	quote = '"'
	// escape takes the byte behind it with it, in a quoted text.
	escape = '\\'
	// signs are a token's bytes beside letters and digits.
	signs = "!#$%&'*+-.^_`|~"
)

// What a byte may be one of.
const (
	ofToken = iota
	ofValue
	ofBlank
)

// classes tell whether a byte is one of a class, by the classes.
func classes() [3]func(byte) bool {
	return [3]func(byte) bool{
		ofToken: func(b byte) bool {
			letter := 'a' <= b && b <= 'z' || 'A' <= b && b <= 'Z'
			digit := '0' <= b && b <= '9'
			return letter || digit || strings.IndexByte(signs, b) >= 0
		},
		ofValue: func(b byte) bool { return b == '\t' || ' ' <= b && b <= '~' || b >= 128 },
		ofBlank: func(b byte) bool { return b == '\t' || b == ' ' },
	}
}

// full tells whether a text has a byte.
func full(s string) bool { return s != "" }

// trimmed are texts without the blanks with which they begin and end.
func trimmed(texts ...string) []string {
	var l []string
	for _, one := range texts {
		l = append(l, Trim(one))
	}
	return l
}

// sifted are things without those that are not wanted.
func sifted[T any](wanted func(T) bool, things ...T) []T {
	var l []T
	for _, one := range things {
		if wanted(one) {
			l = append(l, one)
		}
	}
	return l
}

// text is bytes that are looked at, or taken from its beginning on.
type text string

// all tells whether each byte is one of a class.
func (t text) all(class func(byte) bool) bool {
	for place := range len(t) {
		if !class(t[place]) {
			return false
		}
	}
	return true
}

// trimmed is it without the blanks with which it begins and ends.
func (t text) trimmed() text {
	blank := classes()[ofBlank]
	from, to := 0, len(t)
	for from < to && blank(t[from]) {
		from++
	}
	for from < to && blank(t[to-1]) {
		to--
	}
	return t[from:to]
}

// next takes the first byte, if there is one.
func (t *text) next() (byte, bool) {
	if *t == "" {
		return 0, false
	}
	b := (*t)[0]
	*t = (*t)[1:]
	return b, true
}

// takes takes the first byte, if it is that one.
func (t *text) takes(b byte) bool {
	is := *t != "" && (*t)[0] == b
	if is {
		*t = (*t)[1:]
	}
	return is
}

// reader is what is left of a text, of which bytes are taken.
type reader struct {
	text
	// Whether what is left begins in a quoted text.
	inside bool
}

// step takes the first byte, if there is one, and what it takes with it; and tells whether it stood in a quoted
// text: the quote that begins one does not, the one that ends it does.
func (r *reader) step() (b byte, inside, had bool) {
	inside = r.inside
	b, had = r.next()
	switch {
	case b == quote:
		r.inside = !inside
	case b == escape && inside:
		r.next()
	}
	return b, inside, had
}

// part takes what stands ahead of the first such byte that is in no quoted text, and that one; and tells whether
// there was one.
func (r *reader) part(by byte) (string, bool) {
	whole := r.text
	for {
		b, inside, had := r.step()
		switch {
		case !had:
			return string(whole), false
		case b == by && !inside:
			return string(whole[:len(whole)-len(r.text)-1]), true
		}
	}
}

// parts goes over what stands between such bytes that are in no quoted text, each with its number. One look goes
// over all of the text: a quote that ends a quoted text begins none, where quotes are what stands between.
func parts(s string, by byte) iter.Seq2[int, string] {
	return func(yield func(int, string) bool) {
		r := reader{text: text(s)}
		for number := 0; ; number++ {
			part, more := r.part(by)
			if !yield(number, part) || !more {
				return
			}
		}
	}
}

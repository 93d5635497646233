package head

import (
	"iter"
	"strings"

	"bellman/api"
	"bellman/token"
)

const (
	carriageReturn = '\r'
	lineFeed       = '\n'
	// end stands behind the First line, behind each field, and behind them all.
	end = "\r\n"
	// colon is where a field's Name ends, as it comes.
	colon = ":"
	// behindName stands between a field's Name and its Value, as it is sent.
	behindName = ": "
	// between stands between the Values of one name.
	between = ", "
	// blank is what no First line begins with. A byte 9 is none: it is one in layer 9 alone.
	blank = " "
)

// sofar is a head as far as its lines ended. It has names of its own, so that nobody reaches them from outside.
type sofar struct {
	// Empty only if the first line did not end yet.
	first  string
	fields []api.Header
}

// rule is what a byte does, where it holds.
type rule struct {
	holds func(*Reader, byte) bool
	does  func(*Reader, byte)
}

// rules are in order: of a byte the first one that holds counts. The last one always does.
func rules() [6]rule {
	return [...]rule{
		{(*Reader).isFull, large},
		{(*Reader).isBehindReturn, (*Reader).endLine},
		{isReturn, (*Reader).waitForEnd},
		{isNoValues, odd},
		{(*Reader).isLineFull, large},
		{always, (*Reader).put},
	}
}

// come lets bytes come, as far as the head's end; it gives up on the first one that is wrong.
func (r *Reader) come(b []byte) {
	all := rules()
	for place := 0; place < len(b) && !r.ended; place++ {
		number := 0
		for !all[number].holds(r, b[place]) {
			number++
		}
		// Also one that is wrong is taken.
		r.taken++
		all[number].does(r, b[place])
	}
}

func (r *Reader) isFull(byte) bool { return r.taken == r.caps.Bytes }

func (r *Reader) isBehindReturn(byte) bool { return r.returned }

func isReturn(_ *Reader, b byte) bool { return b == carriageReturn }

func isNoValues(_ *Reader, b byte) bool { return !ofValue(string([]byte{b})) }

func (r *Reader) isLineFull(byte) bool { return len(r.line) == r.caps.Line }

func always(*Reader, byte) bool { return true }

// large gives up on a byte that is one too many.
func large(*Reader, byte) { panic(wrong{api.ErrLarge}) }

// odd gives up on a byte that may not be there.
func odd(*Reader, byte) { panic(wrong{api.ErrHead}) }

// waitForEnd waits for the LF behind a CR.
func (r *Reader) waitForEnd(byte) { r.returned = true }

// put puts a byte to the line.
func (r *Reader) put(b byte) { r.line = append(r.line, b) }

// endLine ends the line, and begins the next one; it gives up on a byte that is no LF, and on a line that is wrong.
func (r *Reader) endLine(b byte) {
	must(b == lineFeed, api.ErrHead)
	line := string(r.line)
	r.line, r.returned = r.line[:0], false
	switch {
	case line == "":
		must(r.first != "", api.ErrHead)
		r.ended = true
	case r.first == "":
		must(begins(line), api.ErrHead)
		r.first = line
	default:
		must(len(r.fields) < r.caps.Fields, api.ErrLarge)
		r.fields = append(r.fields, field(line))
	}
}

// field is what a line says; it gives up on one that says none.
func field(line string) api.Header {
	name, value, found := strings.Cut(line, colon)
	must(found && token.Token(name), api.ErrHead)
	return api.Header{Name: token.Lower(name), Value: token.Trim(value)}
}

// ofValue tells whether all bytes are a value's: with blanks at its ends such a text is no value itself.
func ofValue(text string) bool { return token.Value(text) || token.Value(token.Trim(text)) }

// begins tells whether a head may begin with a text of value's bytes.
func begins(text string) bool { return text != "" && !strings.HasPrefix(text, blank) }

// sifted goes over those of some things that are wanted, each with its number among them all.
func sifted[T any](wanted func(T) bool, things []T) iter.Seq2[int, T] {
	return func(yield func(int, T) bool) {
		for number, thing := range things {
			if wanted(thing) && !yield(number, thing) {
				return
			}
		}
	}
}

package event

import (
	"iter"
	"strings"

	"bellman/api"
	"bellman/field"
)

const (
	// blank stands ahead of a comment's text, and between a reset's numbers.
	blank = " "
	// end stands behind each line, and between the parts of Data.
	end = "\n"
	// heartbeat is the text of the comment that is sent where nothing else is.
	heartbeat = "hb"
)

// signs may not be in texts: each text bars so many of them, from the first one on.
var signs = [3]byte{'\r', '\n', 0}

// How many signs a text bars.
const (
	// A LF in Data is where a line ends.
	ofData = iota + 1
	// What is on one line alone.
	ofLine
	// An id with a byte 0 would say nothing.
	ofId
)

// saying is what lines of a Kind say of an event.
type saying struct {
	kind api.FieldKind
	// How many signs the text bars.
	barred int
	text   func(*frame) string
	// What the lines say of the text, each one a value.
	values func(text string) []string
}

// sayings are those of an event, in the order of its lines.
func sayings() []saying {
	return []saying{
		{api.FieldId, ofId, func(f *frame) string { return f.Id }, alone},
		{api.FieldEvent, ofLine, func(f *frame) string { return f.Type }, alone},
		{api.FieldData, ofData, func(f *frame) string { return f.Data }, parts},
	}
}

// alone is a text by itself, if it is not empty.
func alone(text string) []string {
	if text == "" {
		return nil
	}
	return []string{text}
}

// parts are those between the ends of lines; an empty text is one part, too.
func parts(text string) []string { return strings.Split(text, end) }

// frame is bytes that are sent, and the event that they tell; of a comment there is none.
type frame struct {
	api.Event
	bytes []byte
}

// framed is an event as a frame, no bytes of which are made yet; it gives up on what may not be.
func framed(e api.Event) *frame {
	f := &frame{Event: e}
	// Ahead of all else, so that what is too long is not gone through.
	mustFit(f.Id, f.Type, f.Data)
	for _, s := range sayings() {
		mustBeClean(s.text(f), s.barred)
	}
	return f
}

// fields are what its event says, in order.
func (f *frame) fields() []api.Field {
	var l []api.Field
	for _, s := range sayings() {
		for _, value := range s.values(s.text(f)) {
			l = append(l, api.Field{Kind: s.kind, Name: field.Name(s.kind), Value: value})
		}
	}
	return l
}

// put puts a line to its bytes.
func (f *frame) put(line string) { f.bytes = append(append(f.bytes, line...), end...) }

// sent is its bytes, once the lines of fields are put to them.
func (f *frame) sent(fields ...api.Field) []byte {
	join(f.put, lines(fields...))
	return f.bytes
}

// encoded is an event's bytes; it gives up on what may not be.
func encoded(e api.Event) []byte {
	f := framed(e)
	return f.sent(f.fields()...)
}

// commented is a comment's bytes; it gives up on what may not be.
func commented(text string) []byte {
	mustFit(text)
	mustBeClean(text, ofLine)
	return new(frame).sent(api.Field{Kind: api.FieldComment, Value: blank + text})
}

// lines goes over those of fields and the empty one behind them, each with its number.
func lines(fields ...api.Field) iter.Seq2[int, string] {
	return func(yield func(int, string) bool) {
		for number, f := range fields {
			line, _ := field.Line(f)
			if !yield(number, line) {
				return
			}
		}
		yield(len(fields), "")
	}
}

// join puts things together, in their order.
func join[T any](put func(T), things iter.Seq2[int, T]) {
	for _, thing := range things {
		put(thing)
	}
}

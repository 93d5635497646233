package field

import (
	"iter"
	"strings"

	"bellman/api"
	"bellman/decimal"
)

// names are those of Kinds, by the Kinds.
var names = [8]string{
	api.FieldEnd:     "end",
	api.FieldComment: "comment",
	api.FieldData:    "data",
	api.FieldEvent:   "event",
	api.FieldId:      "id",
	api.FieldRetry:   "retry",
	api.FieldOther:   "other",
}

const (
	// colon stands behind a name, and ahead of a comment.
	colon = ":"
	// blank is left out once, where a value behind a name begins with it.
	blank = " "
	// nought is the byte that no id may have.
	nought = "\x00"
)

// kinds are those by the names that have one of their own.
func kinds() map[string]api.FieldKind {
	return map[string]api.FieldKind{
		names[api.FieldData]:  api.FieldData,
		names[api.FieldEvent]: api.FieldEvent,
		names[api.FieldId]:    api.FieldId,
		names[api.FieldRetry]: api.FieldRetry,
	}
}

// kindOf is the one of a name that stands in a line.
func kindOf(name string) api.FieldKind { return found(kinds(), name, api.FieldOther) }

// asks are what is asked of a value, for a field of that Kind to count; of other Kinds nothing is.
func asks(value string) map[api.FieldKind]func() bool {
	return map[api.FieldKind]func() bool{
		api.FieldId: func() bool { return !strings.Contains(value, nought) },
		api.FieldRetry: func() bool {
			_, e := decimal.Digits(value)
			return e == api.OK
		},
	}
}

// found is what a map has by a key, or another thing, if it has nothing there.
func found[K comparable, V any](in map[K]V, key K, other V) V {
	if thing, ok := in[key]; ok {
		return thing
	}
	return other
}

// underway is a line, by its text and by what it says: of the one the other is made.
type underway struct {
	api.Field
	text string
}

// read makes what is said of the text.
func (u *underway) read() {
	comment, isComment := strings.CutPrefix(u.text, colon)
	switch {
	case u.text == "":
		u.Kind = api.FieldEnd
	case isComment:
		u.Kind, u.Value = api.FieldComment, comment
	default:
		u.Name, u.Value, _ = strings.Cut(u.text, colon)
		u.Value = strings.TrimPrefix(u.Value, blank)
		u.Kind = kindOf(u.Name)
	}
}

// sayable tells whether some text says it.
func (u *underway) sayable() bool {
	switch u.Kind {
	case api.FieldEnd:
		return u.Name == "" && u.Value == ""
	case api.FieldComment:
		return u.Name == ""
	}
	return u.Name != "" && !strings.Contains(u.Name, colon) && kindOf(u.Name) == u.Kind
}

// write makes the text of what is said, which some text says.
func (u *underway) write() {
	between := ""
	switch {
	case u.Kind == api.FieldComment:
		between = colon
	case u.Value != "":
		between = colon + blank
	}
	// Not by +, which gives out a name itself where nothing stands behind it.
	u.text = strings.Join([]string{u.Name, between, u.Value}, "")
}

// apart is what is said, in memory of its own: a short name holds on to no long line.
func (u *underway) apart() api.Field {
	return api.Field{Kind: u.Kind, Name: strings.Clone(u.Name), Value: strings.Clone(u.Value)}
}

// said goes over what lines say, each with its number.
func said(lines ...string) iter.Seq2[int, api.Field] {
	return func(yield func(int, api.Field) bool) {
		for number, line := range lines {
			if !yield(number, Of(line)) {
				return
			}
		}
	}
}

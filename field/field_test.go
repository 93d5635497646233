package field_test

import (
	"fmt"
	"iter"
	"math"
	"math/big"
	"regexp"
	"runtime"
	"slices"
	"strings"
	"testing"
	"unsafe"

	"bellman/api"
	"bellman/field"
)

// one is a field.
func one(k api.FieldKind, name, value string) api.Field {
	return api.Field{Kind: k, Name: name, Value: value}
}

// numbered is a field with its line's number.
type numbered struct {
	number int
	field  api.Field
}

// shown is a field as a message shows it: no more of it than is read.
func shown(f api.Field) string {
	return fmt.Sprintf("%d %.60q %.60q", int(f.Kind), f.Name, f.Value)
}

// shownAll are fields as a message shows them, each with its line's number.
func shownAll(l []numbered) string {
	var texts []string
	for _, n := range l {
		texts = append(texts, fmt.Sprintf("%d: %s", n.number, shown(n.field)))
	}
	return "(" + strings.Join(texts, "; ") + ")"
}

// named is a line that has a name: what stands ahead of the first colon, and what stands behind it and a blank.
var named = regexp.MustCompile(`(?s)^([^:]+)(?:: ?(.*))?$`)

// byWords is what a line says, by the chapter's words.
func byWords(line string) api.Field {
	if line == "" {
		return one(api.FieldEnd, "", "")
	}
	parts := named.FindStringSubmatch(line)
	if parts == nil {
		return one(api.FieldComment, "", line[1:])
	}
	k := api.FieldOther
	switch parts[1] {
	case "data":
		k = api.FieldData
	case "event":
		k = api.FieldEvent
	case "id":
		k = api.FieldId
	case "retry":
		k = api.FieldRetry
	}
	return one(k, parts[1], parts[2])
}

// retryByWords is the number of what a line says, if it is a retry that counts, by the chapter's words.
func retryByWords(f api.Field) (uint64, bool) {
	if f.Kind != api.FieldRetry || f.Value == "" || strings.Trim(f.Value, "0123456789") != "" {
		return 0, false
	}
	n, _ := new(big.Int).SetString(f.Value, 10)
	if !n.IsUint64() {
		return 0, false
	}
	return n.Uint64(), true
}

// countsByWords tells whether what a line says counts, by the chapter's words.
func countsByWords(f api.Field) bool {
	switch f.Kind {
	case api.FieldId:
		return strings.IndexByte(f.Value, 0) < 0
	case api.FieldRetry:
		_, counts := retryByWords(f)
		return counts
	}
	return true
}

// lineByWords is the line that Line tells of what a line says, by the chapter's words.
func lineByWords(f api.Field) string {
	switch {
	case f.Kind == api.FieldComment:
		return ":" + f.Value
	case f.Value != "":
		return f.Name + ": " + f.Value
	}
	return f.Name
}

// wantField holds all that is told of a field that a line says against the chapter's words.
func wantField(t *testing.T, f api.Field) {
	t.Helper()
	if got, want := field.Counts(f), countsByWords(f); got != want {
		t.Errorf("Counts(%s): %v; want %v", shown(f), got, want)
	}
	n, is := field.Retry(f)
	if wantN, wantIs := retryByWords(f); n != wantN || is != wantIs {
		t.Errorf("Retry(%s): %d, %v; want %d, %v", shown(f), n, is, wantN, wantIs)
	}
	line, e := field.Line(f)
	if want := lineByWords(f); line != want || e != api.OK {
		t.Errorf("Line(%s): %.60q, errno %d; want %.60q", shown(f), line, int(e), want)
	}
	if again := field.Of(line); again != f {
		t.Errorf("Of(%.60q): %s; its line was told of %s", line, shown(again), shown(f))
	}
}

// wantNone holds all that is told of a field that no line says.
func wantNone(t *testing.T, f api.Field) {
	t.Helper()
	if field.Counts(f) {
		t.Errorf("Counts(%s): true; no line says it", shown(f))
	}
	if n, is := field.Retry(f); n != 0 || is {
		t.Errorf("Retry(%s): %d, %v; no line says it", shown(f), n, is)
	}
	if line, e := field.Line(f); line != "" || e != api.ErrArg {
		t.Errorf("Line(%s): %q, errno %d; no line says it", shown(f), line, int(e))
	}
}

// wantLine holds all that is told of a line against the chapter's words.
func wantLine(t *testing.T, line string) {
	t.Helper()
	f := field.Of(line)
	if want := byWords(line); f != want {
		t.Errorf("Of(%.60q): %s; want %s", line, shown(f), shown(want))
		return
	}
	if !strings.ContainsAny(line, "\r\n") && strings.ContainsAny(f.Name+f.Value, "\r\n") {
		t.Errorf("Of(%.60q): %s has an end", line, shown(f))
	}
	wantField(t, f)
}

// P6.1: Of, at what the chapter names.
func TestOf(t *testing.T) {
	for _, c := range []struct {
		line string
		want api.Field
	}{
		{"", one(api.FieldEnd, "", "")},
		{":", one(api.FieldComment, "", "")},
		{": ", one(api.FieldComment, "", " ")},
		{":x", one(api.FieldComment, "", "x")},
		{": x", one(api.FieldComment, "", " x")},
		{"::", one(api.FieldComment, "", ":")},
		{":data: a", one(api.FieldComment, "", "data: a")},
		{"data", one(api.FieldData, "data", "")},
		{"event", one(api.FieldEvent, "event", "")},
		{"id", one(api.FieldId, "id", "")},
		{"retry", one(api.FieldRetry, "retry", "")},
		{"x", one(api.FieldOther, "x", "")},
		{"data:", one(api.FieldData, "data", "")},
		{"event:", one(api.FieldEvent, "event", "")},
		{"id:", one(api.FieldId, "id", "")},
		{"retry:", one(api.FieldRetry, "retry", "")},
		{"x:", one(api.FieldOther, "x", "")},
		{"data:a", one(api.FieldData, "data", "a")},
		{"data: a", one(api.FieldData, "data", "a")},
		{"data:  a", one(api.FieldData, "data", " a")},
		{"data:   a", one(api.FieldData, "data", "  a")},
		{"data: ", one(api.FieldData, "data", "")},
		{"data:  ", one(api.FieldData, "data", " ")},
		{"data: a ", one(api.FieldData, "data", "a ")},
		{"data:\ta", one(api.FieldData, "data", "\ta")},
		{"event: t", one(api.FieldEvent, "event", "t")},
		{"id: 7", one(api.FieldId, "id", "7")},
		{"retry: 5", one(api.FieldRetry, "retry", "5")},
		{"x: y", one(api.FieldOther, "x", "y")},
		{"data: a:b: c", one(api.FieldData, "data", "a:b: c")},
		{"data::", one(api.FieldData, "data", ":")},
		{"data: :", one(api.FieldData, "data", ":")},
		{"id:id:id", one(api.FieldId, "id", "id:id")},
		{"datax:1", one(api.FieldOther, "datax", "1")},
		{"dat: 1", one(api.FieldOther, "dat", "1")},
		{"events: 1", one(api.FieldOther, "events", "1")},
		{"even", one(api.FieldOther, "even", "")},
		{"idx", one(api.FieldOther, "idx", "")},
		{"i: d", one(api.FieldOther, "i", "d")},
		{"retry2: 5", one(api.FieldOther, "retry2", "5")},
		{"retr: 5", one(api.FieldOther, "retr", "5")},
		{"Data: a", one(api.FieldOther, "Data", "a")},
		{"DATA: a", one(api.FieldOther, "DATA", "a")},
		{"Event", one(api.FieldOther, "Event", "")},
		{"ID: 7", one(api.FieldOther, "ID", "7")},
		{"Retry: 5", one(api.FieldOther, "Retry", "5")},
		{"end", one(api.FieldOther, "end", "")},
		{"comment: x", one(api.FieldOther, "comment", "x")},
		{"other", one(api.FieldOther, "other", "")},
		{" data: a", one(api.FieldOther, " data", "a")},
		{"data : a", one(api.FieldOther, "data ", "a")},
		{" ", one(api.FieldOther, " ", "")},
		{" :", one(api.FieldOther, " ", "")},
		{"\ufeffdata: a", one(api.FieldOther, "\ufeffdata", "a")},
		{"data\x00: a", one(api.FieldOther, "data\x00", "a")},
		{"\x00", one(api.FieldOther, "\x00", "")},
		{"data: \x00", one(api.FieldData, "data", "\x00")},
		{"id: a\x00b", one(api.FieldId, "id", "a\x00b")},
		{"retry: -1", one(api.FieldRetry, "retry", "-1")},
		{"data: a\nid: 7", one(api.FieldData, "data", "a\nid: 7")},
		{"data\r: a\r\n", one(api.FieldOther, "data\r", "a\r\n")},
		{"\n", one(api.FieldOther, "\n", "")},
		{"\xff\x80: \xc3", one(api.FieldOther, "\xff\x80", "\xc3")},
		{"data: \u20ac", one(api.FieldData, "data", "\u20ac")},
		{"\u00e9:\U0001f600", one(api.FieldOther, "\u00e9", "\U0001f600")},
		{":\xff", one(api.FieldComment, "", "\xff")},
	} {
		if got := field.Of(c.line); got != c.want {
			t.Errorf("Of(%q): %s; want %s", c.line, shown(got), shown(c.want))
		}
		wantLine(t, c.line)
	}
}

// P6.1: Counts of what lines say, at what the chapter names.
func TestCounts(t *testing.T) {
	for _, line := range []string{
		"", ":", ": \x00", "data", "data: a", "data: \x00", "event: \x00", "event", "x", "x: \x00", "\x00: -1",
		"id", "id:", "id: 7", "id: 0", "id: -1", "id: \x01", "id: \xff", "id: a\nb", "ID: \x00", "idx: \x00",
		"retry: 0", "retry: 00", "retry: 18446744073709551615", "Retry: x", "retry2: x", "\x00",
	} {
		if !field.Counts(field.Of(line)) {
			t.Errorf("Counts of %q: false", line)
		}
	}
	for _, line := range []string{
		"id: \x00", "id:\x00", "id: \x00a", "id: a\x00", "id: a\x00b", "id: \x00\x00",
		"retry", "retry:", "retry: ", "retry: -1", "retry: x", "retry: 18446744073709551616",
	} {
		if field.Counts(field.Of(line)) {
			t.Errorf("Counts of %q: true", line)
		}
	}
}

// P6.1: Retry of what lines say, at what the chapter names.
func TestRetry(t *testing.T) {
	for _, c := range []struct {
		line string
		n    uint64
		is   bool
	}{
		{"retry: 0", 0, true},
		{"retry: 00", 0, true},
		{"retry: 5", 5, true},
		{"retry:5", 5, true},
		{"retry: 010", 10, true},
		{"retry: " + strings.Repeat("0", 1000) + "7", 7, true},
		{"retry: 18446744073709551614", math.MaxUint64 - 1, true},
		{"retry: 18446744073709551615", math.MaxUint64, true},
		{"retry: 0018446744073709551615", math.MaxUint64, true},
		{"retry: 18446744073709551616", 0, false},
		{"retry: 18446744073709551625", 0, false},
		{"retry: 99999999999999999999", 0, false},
		{"retry: 340282366920938463463374607431768211457", 0, false},
		{"retry: 18446744073709551616x", 0, false},
		{"retry", 0, false},
		{"retry:", 0, false},
		{"retry: ", 0, false},
		{"retry:  5", 0, false},
		{"retry: 5 ", 0, false},
		{"retry: +5", 0, false},
		{"retry: -1", 0, false},
		{"retry: -0", 0, false},
		{"retry: 5x", 0, false},
		{"retry: x5", 0, false},
		{"retry: 0x5", 0, false},
		{"retry: a", 0, false},
		{"retry: 5.0", 0, false},
		{"retry: 5e3", 0, false},
		{"retry: 1_000", 0, false},
		{"retry: 5\x00", 0, false},
		{"retry: \x005", 0, false},
		{"retry: 5\r", 0, false},
		{"retry: 5\n", 0, false},
		{"retry: /", 0, false},
		{"retry: ;", 0, false},
		{"retry: \u0665", 0, false},
		{"retry: \xff", 0, false},
		{"", 0, false},
		{": 5", 0, false},
		{"data: 5", 0, false},
		{"event: 5", 0, false},
		{"id: 5", 0, false},
		{"x: 5", 0, false},
		{"5", 0, false},
	} {
		if n, is := field.Retry(field.Of(c.line)); n != c.n || is != c.is {
			t.Errorf("Retry of %q: %d, %v; want %d, %v", c.line, n, is, c.n, c.is)
		}
	}
}

// P6.1: Name of the Kinds, and of what is none.
func TestName(t *testing.T) {
	for k, want := range map[api.FieldKind]string{
		api.FieldNone:    "",
		api.FieldEnd:     "end",
		api.FieldComment: "comment",
		api.FieldData:    "data",
		api.FieldEvent:   "event",
		api.FieldId:      "id",
		api.FieldRetry:   "retry",
		api.FieldOther:   "other",
		-1:               "",
		-7:               "",
		8:                "",
		9:                "",
		256 + 3:          "",
		1<<32 + 3:        "",
		math.MaxInt:      "",
		math.MinInt:      "",
		math.MinInt + 3:  "",
	} {
		if got := field.Name(k); got != want {
			t.Errorf("Name(%d): %q; want %q", int(k), got, want)
		}
	}
}

// P6.2: Line of what some line says.
func TestLine(t *testing.T) {
	for _, c := range []struct {
		f    api.Field
		want string
	}{
		{one(api.FieldEnd, "", ""), ""},
		{one(api.FieldComment, "", ""), ":"},
		{one(api.FieldComment, "", " "), ": "},
		{one(api.FieldComment, "", "x"), ":x"},
		{one(api.FieldComment, "", " x"), ": x"},
		{one(api.FieldComment, "", ":x"), "::x"},
		{one(api.FieldComment, "", "data: a"), ":data: a"},
		{one(api.FieldData, "data", ""), "data"},
		{one(api.FieldData, "data", "a"), "data: a"},
		{one(api.FieldData, "data", " a"), "data:  a"},
		{one(api.FieldData, "data", " "), "data:  "},
		{one(api.FieldData, "data", ":"), "data: :"},
		{one(api.FieldData, "data", "a\nb"), "data: a\nb"},
		{one(api.FieldData, "data", "\xff\x00"), "data: \xff\x00"},
		{one(api.FieldEvent, "event", ""), "event"},
		{one(api.FieldEvent, "event", "t"), "event: t"},
		{one(api.FieldId, "id", ""), "id"},
		{one(api.FieldId, "id", "7"), "id: 7"},
		{one(api.FieldRetry, "retry", "010"), "retry: 010"},
		{one(api.FieldOther, "x", ""), "x"},
		{one(api.FieldOther, "x", "y"), "x: y"},
		{one(api.FieldOther, " ", " "), " :  "},
		{one(api.FieldOther, "datax", "1"), "datax: 1"},
		{one(api.FieldOther, "\xff\r", "\x80"), "\xff\r: \x80"},
	} {
		if got, e := field.Line(c.f); got != c.want || e != api.OK {
			t.Errorf("Line(%s): %q, errno %d; want %q", shown(c.f), got, int(e), c.want)
		}
		wantField(t, c.f)
	}
}

// P6.1, P6.2: what does not count is said all the same, so that it has a line.
func TestLineOfWhatDoesNotCount(t *testing.T) {
	for _, line := range []string{"id: \x00", "id: a\x00b", "retry", "retry: -1", "retry: 18446744073709551616"} {
		if got, e := field.Line(field.Of(line)); got != line || e != api.OK {
			t.Errorf("Line of %q: %q, errno %d", line, got, int(e))
		}
	}
}

// P6.1, P6.2: fields that no line says.
func TestNone(t *testing.T) {
	for _, f := range []api.Field{
		{},
		one(api.FieldNone, "data", "a"),
		one(api.FieldNone, "x", ""),
		one(-1, "", ""),
		one(-1, "data", "a"),
		one(8, "", ""),
		one(8, "x", "y"),
		one(math.MaxInt, "data", ""),
		one(math.MinInt, "", ""),
		one(api.FieldEnd, "end", ""),
		one(api.FieldEnd, "x", ""),
		one(api.FieldEnd, "", "a"),
		one(api.FieldEnd, "", " "),
		one(api.FieldComment, "x", ""),
		one(api.FieldComment, "comment", "a"),
		one(api.FieldComment, ":", ""),
		one(api.FieldData, "", "a"),
		one(api.FieldData, "", ""),
		one(api.FieldData, "Data", "a"),
		one(api.FieldData, "event", "a"),
		one(api.FieldData, "data:", "a"),
		one(api.FieldData, " data", "a"),
		one(api.FieldData, "x", "a"),
		one(api.FieldEvent, "data", "a"),
		one(api.FieldEvent, "", ""),
		one(api.FieldId, "retry", "7"),
		one(api.FieldId, "ID", "7"),
		one(api.FieldRetry, "id", "7"),
		one(api.FieldRetry, "", "7"),
		one(api.FieldRetry, "retries", "7"),
		one(api.FieldOther, "data", "a"),
		one(api.FieldOther, "event", ""),
		one(api.FieldOther, "id", "7"),
		one(api.FieldOther, "retry", "x"),
		one(api.FieldOther, "", ""),
		one(api.FieldOther, "", "a"),
		one(api.FieldOther, ":", ""),
		one(api.FieldOther, "x:", "y"),
		one(api.FieldOther, "x:y", "z"),
		one(api.FieldOther, ":x", ""),
	} {
		wantNone(t, f)
	}
}

// saidBySome tells whether some line says a field: if one does, one of these few does.
func saidBySome(f api.Field) bool {
	for _, line := range []string{"", ":" + f.Value, f.Name, f.Name + ": " + f.Value} {
		if byWords(line) == f {
			return true
		}
	}
	return false
}

// P6.1, P6.2, P6.4: all Kinds, with many names and values.
func TestGrid(t *testing.T) {
	names := []string{
		"", " ", ":", "::", "x", "x:", ":x", "data", "event", "id", "retry", "end", "comment", "other", "none",
		"dat", "data ", " data", "data:", "datax", "Data", "ID", "i", "retry: 5", "id\x00", "\x00", "\n", "\r", "\xff", "\u20ac",
	}
	values := []string{
		"", " ", "  ", ":", ": ", "a", " a", "a ", "a:b", "data", "0", "5", "010", "-1", " 5",
		"18446744073709551615", "18446744073709551616", "\x00", "a\x00", "\x00a", "\n", "\r", "\xff", "\u20ac",
	}
	kinds := []api.FieldKind{math.MinInt, -8, -1, 0, 1, 2, 3, 4, 5, 6, 7, 8, 9, 256 + 3, 1<<32 + 3, math.MaxInt}
	said := 0
	for _, k := range kinds {
		for _, name := range names {
			for _, value := range values {
				f := one(k, name, value)
				if saidBySome(f) {
					said++
					wantField(t, f)
				} else {
					wantNone(t, f)
				}
			}
		}
	}
	if said < len(values)*10 {
		t.Errorf("some line says but %d of them", said)
	}
}

// rows goes over all rows of at most so many of these bytes.
func rows(most int, of string) iter.Seq[string] {
	return func(yield func(string) bool) {
		level := []string{""}
		for size := 0; ; size++ {
			var next []string
			for _, row := range level {
				if !yield(row) {
					return
				}
				for place := range len(of) {
					next = append(next, row+of[place:place+1])
				}
			}
			if size == most {
				return
			}
			level = next
		}
	}
}

// P6.1, P6.2, P6.4: every short line, by itself and behind each name.
func TestShortLines(t *testing.T) {
	for row := range rows(5, ": id0\x00\n\xff") {
		wantLine(t, row)
		if t.Failed() {
			t.FailNow()
		}
	}
	for _, name := range []string{"data", "event", "id", "retry", "x", "Data", "retr", ":", " "} {
		for row := range rows(4, ": y09-\x00\r\x80") {
			wantLine(t, name+row)
			wantLine(t, row+name)
			if t.Failed() {
				t.FailNow()
			}
		}
	}
}

// P6.1, P6.2, P6.4: each byte, at each place of a line.
func TestEachByte(t *testing.T) {
	for b := range 256 {
		for _, line := range []string{"data: a", "event", "id: 12", "retry: 12", ": c", "x: y", ""} {
			for place := range len(line) + 1 {
				wantLine(t, line[:place]+string([]byte{byte(b)})+line[place:])
				if place < len(line) {
					wantLine(t, line[:place]+string([]byte{byte(b)})+line[place+1:])
				}
			}
		}
	}
}

// P6.1, P6.2, P6.4: long lines.
func TestLongLines(t *testing.T) {
	for _, long := range []string{strings.Repeat("x", 1<<16), strings.Repeat(":", 1<<16), strings.Repeat(" ", 1<<16), strings.Repeat("7", 1<<16), strings.Repeat("0", 1<<16)} {
		for _, name := range []string{"", ":", "data", "event", "id", "retry", "x"} {
			for _, between := range []string{"", ":", ": ", ":  "} {
				wantLine(t, name+between+long)
				wantLine(t, name+between+long+"\x00")
				wantLine(t, long+between+name)
			}
		}
	}
}

// gone goes over at most so many fields, leaves then, and is what it went over.
func gone(seq iter.Seq2[int, api.Field], most int) []numbered {
	var l []numbered
	if most == 0 {
		return l
	}
	for number, f := range seq {
		l = append(l, numbered{number, f})
		if len(l) == most {
			break
		}
	}
	return l
}

// eachByWords are the fields that Each goes over, by the chapter's words.
func eachByWords(lines ...string) []numbered {
	var l []numbered
	for number, line := range lines {
		if f := byWords(line); countsByWords(f) {
			l = append(l, numbered{number, f})
		}
	}
	return l
}

// wantEach holds Each against the chapter's words: gone over whole, left at every place, and gone over again.
func wantEach(t *testing.T, lines ...string) {
	t.Helper()
	want := eachByWords(lines...)
	seq := field.Each(lines...)
	if got := gone(seq, math.MaxInt); !slices.Equal(got, want) {
		t.Errorf("Each(%q): %s; want %s", lines, shownAll(got), shownAll(want))
	}
	for most := range len(want) + 1 {
		if got := gone(seq, most); !slices.Equal(got, want[:most]) {
			t.Errorf("Each(%q), left behind %d: %s; want %s", lines, most, shownAll(got), shownAll(want[:most]))
		}
	}
	if got := gone(seq, math.MaxInt); !slices.Equal(got, want) {
		t.Errorf("Each(%q), again: %s; want %s", lines, shownAll(got), shownAll(want))
	}
}

// mixed are lines, some of which do not count.
var mixed = []string{"id: \x00", "data: a", "id: 7", "retry: -1", "", "retry: 5", "retry", "id: a\x00b", ":", "x: y", "event", "retry: 18446744073709551616"}

// P6.3: Each, of lines that count and of those that do not.
func TestEach(t *testing.T) {
	want := []numbered{
		{1, one(api.FieldData, "data", "a")},
		{2, one(api.FieldId, "id", "7")},
		{4, one(api.FieldEnd, "", "")},
		{5, one(api.FieldRetry, "retry", "5")},
		{8, one(api.FieldComment, "", "")},
		{9, one(api.FieldOther, "x", "y")},
		{10, one(api.FieldEvent, "event", "")},
	}
	if got := gone(field.Each(mixed...), math.MaxInt); !slices.Equal(got, want) {
		t.Errorf("Each(%q): %s; want %s", mixed, shownAll(got), shownAll(want))
	}
	wantEach(t, mixed...)
	wantEach(t, slices.Concat(mixed, mixed, mixed)...)
	wantEach(t, "data: a")
	wantEach(t, "")
	wantEach(t, "", "", "")
	wantEach(t, "id: \x00")
	wantEach(t, "retry", "id: \x00", "retry: x")
	wantEach(t, "retry", "data", "retry")
	wantEach(t, "data", "retry", "data")
}

// P6.3: Each of no lines tells nothing.
func TestEachOfNone(t *testing.T) {
	for _, lines := range [][]string{nil, {}, make([]string, 0, 9)} {
		seq := field.Each(lines...)
		if seq == nil {
			t.Fatal("Each of no lines: none")
		}
		if got := gone(seq, math.MaxInt); len(got) != 0 {
			t.Errorf("Each of no lines: %s", shownAll(got))
		}
	}
}

// P6.3: every list of up to five lines of a few.
func TestEachOfShortLists(t *testing.T) {
	some := []string{"data: a", "retry: x", "", "id: \x00"}
	for row := range rows(5, "\x00\x01\x02\x03") {
		var lines []string
		for place := range len(row) {
			lines = append(lines, some[row[place]])
		}
		wantEach(t, lines...)
	}
}

// P6.3: goings over do not change one another.
func TestEachWithin(t *testing.T) {
	want := eachByWords(mixed...)
	seq := field.Each(mixed...)
	var outer []numbered
	for number, f := range seq {
		outer = append(outer, numbered{number, f})
		if inner := gone(seq, math.MaxInt); !slices.Equal(inner, want) {
			t.Errorf("within: %s; want %s", shownAll(inner), shownAll(want))
		}
		gone(seq, 1)
	}
	if !slices.Equal(outer, want) {
		t.Errorf("about others: %s; want %s", shownAll(outer), shownAll(want))
	}
}

// P6.3: it goes over the lines as they were, which it does not change, nor the room behind them.
func TestEachKeepsNoList(t *testing.T) {
	want := eachByWords(mixed...)
	room := append(slices.Clone(mixed), "behind")
	lines := room[:len(mixed)]
	seq := field.Each(lines...)
	if got := gone(seq, math.MaxInt); !slices.Equal(got, want) {
		t.Errorf("Each: %s; want %s", shownAll(got), shownAll(want))
	}
	if !slices.Equal(room, append(slices.Clone(mixed), "behind")) {
		t.Errorf("the lines that were handed in are %q now", room)
	}
	for place := range room {
		room[place] = "data: other"
	}
	if got := gone(seq, math.MaxInt); !slices.Equal(got, want) {
		t.Errorf("Each, when the list was changed: %s; want %s", shownAll(got), shownAll(want))
	}
	changed := slices.Clone(mixed)
	var got []numbered
	for number, f := range field.Each(changed...) {
		got = append(got, numbered{number, f})
		clear(changed)
	}
	if !slices.Equal(got, want) {
		t.Errorf("Each, while the list was changed: %s; want %s", shownAll(got), shownAll(want))
	}
}

// shares tells whether two texts have memory together.
func shares(a, b string) bool {
	if a == "" || b == "" {
		return false
	}
	x, y := uintptr(unsafe.Pointer(unsafe.StringData(a))), uintptr(unsafe.Pointer(unsafe.StringData(b)))
	return x < y+uintptr(len(b)) && y < x+uintptr(len(a))
}

// P6.1, P6.2, P6.3: answers share no memory with what was handed in, nor within themselves.
func TestNewMemory(t *testing.T) {
	for _, line := range []string{":", ": c", "data", "data:", "data: a", "data:  a", "event: t", "id: 7", "retry: 5", "x", "x: y"} {
		f := field.Of(line)
		if shares(f.Name, line) || shares(f.Value, line) || shares(f.Name, f.Value) {
			t.Errorf("Of(%q) shares memory", line)
		}
		if again := field.Of(line); shares(again.Name, f.Name) || shares(again.Value, f.Value) {
			t.Errorf("two answers of Of(%q) share memory", line)
		}
		if text, _ := field.Line(f); shares(text, f.Name) || shares(text, f.Value) {
			t.Errorf("Line(%s) shares memory", shown(f))
		}
		for _, g := range field.Each(line) {
			if shares(g.Name, line) || shares(g.Value, line) || shares(g.Name, g.Value) {
				t.Errorf("Each(%q) shares memory", line)
			}
		}
	}
}

// kept is how much memory is, when all that is not needed has gone.
func kept() int {
	var m runtime.MemStats
	runtime.GC()
	runtime.ReadMemStats(&m)
	return int(m.HeapAlloc)
}

// P6.1: a name of a long line, a value of one, hold on to nothing else of it.
func TestKept(t *testing.T) {
	const count, size, bound = 16, 1 << 20, 1 << 22
	before := kept()
	var names, values []string
	for range count {
		names = append(names, field.Of("name: "+strings.Repeat("x", size)).Name)
		values = append(values, field.Of(strings.Repeat("x", size)+": value").Value)
	}
	if after := kept(); after-before > bound {
		t.Errorf("%d bytes are kept of short texts", after-before)
	}
	for place := range count {
		if names[place] != "name" || values[place] != "value" {
			t.Errorf("name %.60q, value %.60q", names[place], values[place])
		}
	}
}

// P6.1, P6.2, P6.3: the chapter's examples.
func TestExamples(t *testing.T) {
	for line, want := range map[string]api.Field{
		"data: a":  one(api.FieldData, "data", "a"),
		"data:  a": one(api.FieldData, "data", " a"),
		"data":     one(api.FieldData, "data", ""),
		": x":      one(api.FieldComment, "", " x"),
		"datax:1":  one(api.FieldOther, "datax", "1"),
	} {
		if got := field.Of(line); got != want {
			t.Errorf("Of(%q): %s; want %s", line, shown(got), shown(want))
		}
	}
	if n, is := field.Retry(field.Of("retry: 010")); n != 10 || !is {
		t.Errorf("Retry of retry: 010: %d, %v", n, is)
	}
	if n, is := field.Retry(field.Of("retry: -1")); n != 0 || is {
		t.Errorf("Retry of retry: -1: %d, %v", n, is)
	}
	if field.Counts(field.Of("id: a\x00")) {
		t.Error("an id with a byte 0 counts")
	}
	if line, e := field.Line(one(api.FieldId, "id", "7")); line != "id: 7" || e != api.OK {
		t.Errorf("Line of id 7: %q, errno %d", line, int(e))
	}
	if line, e := field.Line(one(api.FieldData, "data", "")); line != "data" || e != api.OK {
		t.Errorf("Line of data: %q, errno %d", line, int(e))
	}
}

package event_test

import (
	"bytes"
	"fmt"
	"iter"
	"math"
	"math/big"
	"regexp"
	"slices"
	"strings"
	"sync"
	"testing"
	"unicode/utf8"

	"bellman/api"
	"bellman/event"
	"bellman/field"
)

// one is an event.
func one(id, kind, data string) api.Event { return api.Event{Id: id, Type: kind, Data: data} }

// shown is an event as a message shows it: no more of it than is read.
func shown(e api.Event) string { return fmt.Sprintf("(%.60q, %.60q, %.60q)", e.Id, e.Type, e.Data) }

// mayByWords tells whether an event may be, by the chapter's words.
func mayByWords(e api.Event) bool {
	return utf8.ValidString(e.Id) && utf8.ValidString(e.Type) && utf8.ValidString(e.Data) &&
		!strings.ContainsAny(e.Id, "\x00\r\n") && !strings.ContainsAny(e.Type, "\r\n") && !strings.Contains(e.Data, "\r") &&
		len(e.Id+e.Type+e.Data) <= 65536
}

// linesByWords are an event's lines, by the chapter's words.
func linesByWords(e api.Event) []string {
	var l []string
	if e.Id != "" {
		l = append(l, "id: "+e.Id)
	}
	if e.Type != "" {
		l = append(l, "event: "+e.Type)
	}
	for _, part := range strings.Split(e.Data, "\n") {
		if part == "" {
			l = append(l, "data")
		} else {
			l = append(l, "data: "+part)
		}
	}
	return append(l, "")
}

// gone goes over at most so many lines, leaves then, and is what it went over; numbers must go from 0 on.
func gone(t *testing.T, seq iter.Seq2[int, string], most int) []string {
	t.Helper()
	var l []string
	if most == 0 {
		return l
	}
	for number, line := range seq {
		if number != len(l) {
			t.Errorf("Lines: number %d of the line behind %d others", number, len(l))
		}
		l = append(l, line)
		if len(l) == most {
			break
		}
	}
	return l
}

// wantMay holds all that is told of an event that may be against its lines.
func wantMay(t *testing.T, e api.Event, lines ...string) {
	t.Helper()
	want := strings.Join(lines, "\n") + "\n"
	if no := event.Check(e); no != api.OK {
		t.Errorf("Check%s: errno %d", shown(e), int(no))
	}
	if got, no := event.Encode(e); string(got) != want || no != api.OK {
		t.Errorf("Encode%s: %.200q, errno %d; want %.200q", shown(e), got, int(no), want)
	}
	if got, no := event.Size(e); got != len(want) || no != api.OK {
		t.Errorf("Size%s: %d, errno %d; want %d", shown(e), got, int(no), len(want))
	}
	if got := gone(t, event.Lines(e), math.MaxInt); !slices.Equal(got, lines) {
		t.Errorf("Lines%s: %.200q; want %.200q", shown(e), got, lines)
	}
}

// wantMayNot holds all that is told of an event that may not be.
func wantMayNot(t *testing.T, e api.Event) {
	t.Helper()
	if no := event.Check(e); no != api.ErrArg {
		t.Errorf("Check%s: errno %d; it may not be", shown(e), int(no))
	}
	if got, no := event.Encode(e); got != nil || no != api.ErrArg {
		t.Errorf("Encode%s: %.200q, errno %d; it may not be", shown(e), got, int(no))
	}
	if got, no := event.Size(e); got != 0 || no != api.ErrArg {
		t.Errorf("Size%s: %d, errno %d; it may not be", shown(e), got, int(no))
	}
	seq := event.Lines(e)
	if seq == nil {
		t.Fatalf("Lines%s: none", shown(e))
	}
	if got := gone(t, seq, math.MaxInt); len(got) != 0 {
		t.Errorf("Lines%s: %.200q; it may not be", shown(e), got)
	}
}

// wantWords holds all that is told of an event against the chapter's words.
func wantWords(t *testing.T, e api.Event) {
	t.Helper()
	if mayByWords(e) {
		wantMay(t, e, linesByWords(e)...)
		wantFields(t, e)
	} else {
		wantMayNot(t, e)
	}
	wantReset(t, e)
}

// wantFields holds what the lines of an event that may be say: one field each, of which the event can be read again.
func wantFields(t *testing.T, e api.Event) {
	t.Helper()
	var again api.Event
	var data []string
	var kinds []api.FieldKind
	for _, line := range event.Lines(e) {
		f := field.Of(line)
		if !field.Counts(f) {
			t.Errorf("Lines%s: %.60q says nothing", shown(e), line)
		}
		kinds = append(kinds, f.Kind)
		switch f.Kind {
		case api.FieldId:
			again.Id = f.Value
		case api.FieldEvent:
			again.Type = f.Value
		case api.FieldData:
			data = append(data, f.Value)
		case api.FieldEnd:
		default:
			t.Errorf("Lines%s: %.60q is of the Kind %d", shown(e), line, int(f.Kind))
		}
	}
	again.Data = strings.Join(data, "\n")
	var want []api.FieldKind
	if e.Id != "" {
		want = append(want, api.FieldId)
	}
	if e.Type != "" {
		want = append(want, api.FieldEvent)
	}
	want = append(append(want, slices.Repeat([]api.FieldKind{api.FieldData}, strings.Count(e.Data, "\n")+1)...), api.FieldEnd)
	if again != e || !slices.Equal(kinds, want) {
		t.Errorf("Lines%s say %s, of Kinds %.30v; want %.30v", shown(e), shown(again), kinds, want)
	}
}

// pair is a reset's Data.
var pair = regexp.MustCompile(`\A(0|[1-9][0-9]*) (0|[1-9][0-9]*)\z`)

// resetByWords is the numbers of an event, if it is a reset, by the chapter's words.
func resetByWords(e api.Event) (epoch, start uint64, is bool) {
	texts := pair.FindStringSubmatch(e.Data)
	if texts == nil || e.Id != "" || e.Type != "stream-reset" {
		return 0, 0, false
	}
	m, _ := new(big.Int).SetString(texts[1], 10)
	n, _ := new(big.Int).SetString(texts[2], 10)
	if !m.IsUint64() || !n.IsUint64() {
		return 0, 0, false
	}
	return m.Uint64(), n.Uint64(), true
}

// wantReset holds Resets and Reserved of any event against the chapter's words.
func wantReset(t *testing.T, e api.Event) {
	t.Helper()
	epoch, start, is := resetByWords(e)
	want := api.OK
	if !is {
		want = api.ErrReset
	}
	if m, n, no := event.Resets(e); m != epoch || n != start || no != want {
		t.Errorf("Resets%s: %d %d, errno %d; want %d %d, errno %d", shown(e), m, n, int(no), epoch, start, int(want))
	}
	if got, want := event.Reserved(e), e.Type == "stream-reset"; got != want {
		t.Errorf("Reserved%s: %v", shown(e), got)
	}
}

// inEach are three events, each with a text in another one of its places, and other texts beside it, if beside.
func inEach(text string, beside bool) []api.Event {
	if !beside {
		return []api.Event{{Id: text}, {Type: text}, {Data: text}}
	}
	return []api.Event{one(text, "t", "a\nb"), one("7", text, "a\nb"), one("7", "t", text)}
}

// P7.1, P7.2, P7.3: the chapter's examples.
func TestExamples(t *testing.T) {
	if b, no := event.Encode(one("7", "t", "a\nb")); string(b) != "id: 7\nevent: t\ndata: a\ndata: b\n\n" || no != api.OK {
		t.Errorf("Encode: %q, errno %d", b, int(no))
	}
	if b, no := event.Encode(api.Event{}); string(b) != "data\n\n" || no != api.OK {
		t.Errorf("Encode of nothing: %q, errno %d", b, int(no))
	}
	if b, no := event.Comment("x"); string(b) != ": x\n\n" || no != api.OK {
		t.Errorf("Comment(x): %q, errno %d", b, int(no))
	}
	if b := event.Heartbeat(); string(b) != ": hb\n\n" {
		t.Errorf("Heartbeat: %q", b)
	}
	if no := event.Check(one("", "", "\r")); no != api.ErrArg {
		t.Errorf("Check of a CR: errno %d", int(no))
	}
	e := event.Reset(2, 5)
	if e != one("", "stream-reset", "2 5") {
		t.Errorf("Reset(2, 5): %s", shown(e))
	}
	if m, n, no := event.Resets(e); m != 2 || n != 5 || no != api.OK {
		t.Errorf("Resets of Reset(2, 5): %d %d, errno %d", m, n, int(no))
	}
	if m, n, no := event.Resets(one("", "stream-reset", "2  5")); m != 0 || n != 0 || no != api.ErrReset {
		t.Errorf("Resets of two blanks: %d %d, errno %d", m, n, int(no))
	}
}

// P7.1: each of Id, Type and Data, empty and not.
func TestWhatIsThere(t *testing.T) {
	wantMay(t, one("", "", ""), "data", "")
	wantMay(t, one("", "", "a"), "data: a", "")
	wantMay(t, one("", "t", ""), "event: t", "data", "")
	wantMay(t, one("", "t", "a"), "event: t", "data: a", "")
	wantMay(t, one("7", "", ""), "id: 7", "data", "")
	wantMay(t, one("7", "", "a"), "id: 7", "data: a", "")
	wantMay(t, one("7", "t", ""), "id: 7", "event: t", "data", "")
	wantMay(t, one("7", "t", "a"), "id: 7", "event: t", "data: a", "")
}

// P7.1: LFs in Data.
func TestParts(t *testing.T) {
	wantMay(t, one("", "", "\n"), "data", "data", "")
	wantMay(t, one("", "", "\n\n"), "data", "data", "data", "")
	wantMay(t, one("", "", "a\n"), "data: a", "data", "")
	wantMay(t, one("", "", "\na"), "data", "data: a", "")
	wantMay(t, one("", "", "\na\n"), "data", "data: a", "data", "")
	wantMay(t, one("", "", "a\nb"), "data: a", "data: b", "")
	wantMay(t, one("", "", "a\n\nb"), "data: a", "data", "data: b", "")
	wantMay(t, one("", "", "\n\na\n\n\nb\n\n"), "data", "data", "data: a", "data", "data", "data: b", "data", "data", "")
	wantMay(t, one("7", "t", "\n"), "id: 7", "event: t", "data", "data", "")
}

// P7.1: blanks, colons, bytes 0 and texts that look like lines.
func TestPlainTexts(t *testing.T) {
	wantMay(t, one(" 7", " t", " a\n b"), "id:  7", "event:  t", "data:  a", "data:  b", "")
	wantMay(t, one(" ", " ", " "), "id:  ", "event:  ", "data:  ", "")
	wantMay(t, one("  7", "  t", "  a"), "id:   7", "event:   t", "data:   a", "")
	wantMay(t, one("7 ", "t ", "a \nb "), "id: 7 ", "event: t ", "data: a ", "data: b ", "")
	wantMay(t, one(":7", ":t", ":a\n:b"), "id: :7", "event: :t", "data: :a", "data: :b", "")
	wantMay(t, one(":", ":", ":"), "id: :", "event: :", "data: :", "")
	wantMay(t, one(": ", ": ", ": "), "id: : ", "event: : ", "data: : ", "")
	wantMay(t, one("\t", "\t", "\t"), "id: \t", "event: \t", "data: \t", "")
	wantMay(t, one("", "\x00", "\x00"), "event: \x00", "data: \x00", "")
	wantMay(t, one("", "\x00t\x00u\x00", "\x00a\x00b\x00"), "event: \x00t\x00u\x00", "data: \x00a\x00b\x00", "")
	wantMay(t, one("id: 1", "event: x", "data: y\n: z"), "id: id: 1", "event: event: x", "data: data: y", "data: : z", "")
	wantMay(t, one("0", "message", "\ufeffa"), "id: 0", "event: message", "data: \ufeffa", "")
	wantMay(t, one("\u00e9", "\u20ac", "\U0001f600\ufffd"), "id: \u00e9", "event: \u20ac", "data: \U0001f600\ufffd", "")
	wantMay(t, one("\u0085", "\u2028", "\u2029\x0b\x0c\x7f"), "id: \u0085", "event: \u2028", "data: \u2029\x0b\x0c\x7f", "")
	wantMay(t, one("", "stream-reset", "x"), "event: stream-reset", "data: x", "")
	wantMay(t, one("7", "stream-reset", "2 5"), "id: 7", "event: stream-reset", "data: 2 5", "")
}

// P7.1: a byte 0, a CR, a LF in each of the texts, at each place.
func TestSigns(t *testing.T) {
	for _, c := range []struct {
		sign           string
		id, kind, data bool
	}{
		{"\x00", false, true, true},
		{"\r", false, false, false},
		{"\n", false, false, true},
		{"\r\n", false, false, false},
		{"\n\r", false, false, false},
		{"\x00\n", false, false, true},
		{"\x00\r", false, false, false},
		{"\x01", true, true, true},
		{"\x0b", true, true, true},
		{"\x0c", true, true, true},
	} {
		for _, text := range []string{c.sign, c.sign + "ab", "a" + c.sign + "b", "ab" + c.sign, c.sign + "a" + c.sign} {
			for _, beside := range []bool{false, true} {
				for place, e := range inEach(text, beside) {
					if [3]bool{c.id, c.kind, c.data}[place] {
						wantMay(t, e, linesByWords(e)...)
					} else {
						wantMayNot(t, e)
					}
				}
			}
		}
	}
}

// unsound are texts that are not sound.
func unsound() []string {
	return []string{
		"\x80", "\xbf", "\xc0\x80", "\xc1\xbf", "\xc3", "\xe2\x82", "\xe0\x80\x80", "\xe0\x9f\xbf", "\xed\xa0\x80", "\xed\xbf\xbf",
		"\xf0\x9f\x98", "\xf0\x80\x80\x80", "\xf0\x8f\xbf\xbf", "\xf4\x90\x80\x80", "\xf5\x80\x80\x80", "\xff", "\xfe\xff", "\xc3\xc3\xa9", "\xe2\x28\xa1",
	}
}

// P7.1: texts that are not sound, in each of the texts, at each place.
func TestUnsound(t *testing.T) {
	for _, bad := range unsound() {
		for _, text := range []string{bad, bad + "ab", "a" + bad + "b", "ab" + bad, bad + "\u20ac" + bad} {
			for _, beside := range []bool{false, true} {
				for _, e := range inEach(text, beside) {
					wantMayNot(t, e)
				}
			}
		}
		wantMayNot(t, one("", "", "a\n"+bad))
		wantMayNot(t, one("", "", bad+"\na"))
	}
	// Each is but the half of a point, if not of one text.
	wantMayNot(t, one("\xc3", "\xa9", ""))
	wantMayNot(t, one("", "\xc3", "\xa9"))
	wantMayNot(t, one("", "", "\xc3\n\xa9"))
}

// P7.1: so many bytes together, however they are parted.
func TestTogether(t *testing.T) {
	if api.MaxEvent != 65536 || api.ResetType != "stream-reset" {
		t.Errorf("MaxEvent %d, ResetType %q", api.MaxEvent, api.ResetType)
	}
	x := func(n int) string { return strings.Repeat("x", n) }
	for _, c := range [][3]int{
		{65536, 0, 0}, {0, 65536, 0}, {0, 0, 65536},
		{65535, 1, 0}, {65535, 0, 1}, {1, 65535, 0}, {0, 65535, 1}, {1, 0, 65535}, {0, 1, 65535},
		{1, 1, 65534}, {1, 65534, 1}, {65534, 1, 1},
		{32768, 32768, 0}, {0, 32768, 32768}, {32768, 0, 32768}, {21845, 21845, 21846},
	} {
		full := one(x(c[0]), x(c[1]), x(c[2]))
		wantMay(t, full, linesByWords(full)...)
		wantFields(t, full)
		wantMayNot(t, one(x(c[0]+1), x(c[1]), x(c[2])))
		wantMayNot(t, one(x(c[0]), x(c[1]+1), x(c[2])))
		wantMayNot(t, one(x(c[0]), x(c[1]), x(c[2]+1)))
		if c[2] > 0 {
			wantWords(t, one(x(c[0]), x(c[1]), x(c[2]-1)))
		}
	}
	for _, n := range []int{65538, 65600, 1 << 17, 1<<17 + 1, 1 << 20, 1 << 24} {
		for _, beside := range []bool{false, true} {
			for _, e := range inEach(x(n), beside) {
				wantMayNot(t, e)
			}
		}
	}
	wantMayNot(t, one(x(65536), x(65536), x(65536)))
}

// P7.1: bytes are counted, not points; LFs count, and are many lines.
func TestTogetherBytes(t *testing.T) {
	for _, e := range inEach(strings.Repeat("\u00e9", 32768), false) {
		wantMay(t, e, linesByWords(e)...)
	}
	for _, e := range inEach(strings.Repeat("\u00e9", 32768)+"x", false) {
		wantMayNot(t, e)
	}
	for _, e := range inEach(strings.Repeat("\U0001f600", 16385), false) {
		wantMayNot(t, e)
	}
	ends := strings.Repeat("\n", 65536)
	wantMay(t, one("", "", ends), append(slices.Repeat([]string{"data"}, 65537), "")...)
	if n, no := event.Size(one("", "", ends)); n != 5*65537+1 || no != api.OK {
		t.Errorf("Size of 65536 LFs: %d, errno %d", n, int(no))
	}
	wantMayNot(t, one("", "", ends+"\n"))
	wantMayNot(t, one("", "", ends+"a"))
	wantMayNot(t, one("7", "", ends))
	wantMay(t, one("", "", strings.Repeat("a\n", 32768)), append(slices.Repeat([]string{"data: a"}, 32768), "data", "")...)
	wantMayNot(t, one("", "", strings.Repeat("a\n", 32768)+"b"))
}

// some are texts of many a form.
func some() []string {
	return []string{
		"", " ", "  ", ":", ": ", "a", " a", "a ", ":a", "a:b", "7", "t", "0", "2 5", "data", "data: a", "id", "id: 7", "event: t", "stream-reset",
		"\n", "\n\n", "a\n", "\na", "a\nb", "a\n\nb", "a\ndata: b", "\n\n\n", "7\nevent: t", "a\n\ndata: b",
		"\r", "a\r", "\r\n", "\x00", "a\x00", "\x00a", "\xff", "a\xc3", "\u00e9", "\u20ac\n\U0001f600", "\ufffd", "\ufeff",
	}
}

// P7.1, P7.3, P7.4: every event of these texts; those that differ have not the same bytes.
func TestGrid(t *testing.T) {
	seen := map[string]api.Event{}
	for _, id := range some() {
		for _, kind := range some() {
			for _, data := range some() {
				e := one(id, kind, data)
				wantWords(t, e)
				wantAlone(t, seen, e)
			}
		}
		if t.Failed() {
			t.FailNow()
		}
	}
	if len(seen) < 15000 {
		t.Errorf("but %d of them may be", len(seen))
	}
}

// wantAlone looks whether another event, of those seen, has the same bytes as this one, which is seen from then on.
func wantAlone(t *testing.T, seen map[string]api.Event, e api.Event) {
	t.Helper()
	b, no := event.Encode(e)
	if no != api.OK {
		return
	}
	if other, ok := seen[string(b)]; ok && other != e {
		t.Errorf("%s and %s have the same bytes: %q", shown(e), shown(other), b)
	}
	seen[string(b)] = e
}

// rows goes over all rows of at most so many of these bytes.
func rows(most int, of string) iter.Seq[string] {
	return func(yield func(string) bool) {
		level := []string{""}
		for size := 0; ; size++ {
			var next []string
			for _, row := range level {
				if !yield(row) {
					return
				}
				for place := range len(of) {
					next = append(next, row+of[place:place+1])
				}
			}
			if size == most {
				return
			}
			level = next
		}
	}
}

// P7.1, P7.4: every short text, at each place.
func TestShortTexts(t *testing.T) {
	seen := map[string]api.Event{}
	for row := range rows(4, "\n: a\x00\r\xc3\xa9") {
		for _, beside := range []bool{false, true} {
			for _, e := range inEach(row, beside) {
				wantWords(t, e)
				wantAlone(t, seen, e)
			}
		}
		if t.Failed() {
			t.FailNow()
		}
	}
}

// P7.1: each byte, at each place of each text.
func TestEachByte(t *testing.T) {
	for b := range 256 {
		sign := string([]byte{byte(b)})
		for _, text := range []string{"", "ab", "a\u00e9b"} {
			for place := range len(text) + 1 {
				for _, beside := range []bool{false, true} {
					for _, e := range inEach(text[:place]+sign+text[place:], beside) {
						wantWords(t, e)
					}
				}
			}
		}
	}
}

// P7.1: each point's bytes but CR, LF and 0 may be anywhere.
func TestEachPoint(t *testing.T) {
	for point := rune(0); point <= utf8.MaxRune; point += 1 + point/64 {
		if !utf8.ValidRune(point) || point == '\r' || point == '\n' || point == 0 {
			continue
		}
		for _, e := range inEach(string(point), true) {
			wantMay(t, e, linesByWords(e)...)
		}
	}
}

// many is an event of many lines.
func many() api.Event { return one("7", "t", "a\n\nb\n c\n:d\n") }

// P7.1: Lines is left at every place, and gone over again.
func TestLinesLeft(t *testing.T) {
	want := []string{"id: 7", "event: t", "data: a", "data", "data: b", "data:  c", "data: :d", "data", ""}
	seq := event.Lines(many())
	for most := range len(want) + 2 {
		if got := gone(t, seq, most); !slices.Equal(got, want[:min(most, len(want))]) {
			t.Errorf("Lines, left behind %d: %q", most, got)
		}
		if got := gone(t, seq, math.MaxInt); !slices.Equal(got, want) {
			t.Errorf("Lines, again, behind one that was left: %q", got)
		}
	}
	for _, e := range []api.Event{{}, {Id: "7"}, {Type: "t"}, {Data: "\n"}} {
		seq, want := event.Lines(e), linesByWords(e)
		for most := range len(want) + 2 {
			if got := gone(t, seq, most); !slices.Equal(got, want[:min(most, len(want))]) {
				t.Errorf("Lines%s, left behind %d: %q", shown(e), most, got)
			}
		}
	}
}

// P7.1: one who leaves is told no more.
func TestLinesTellNoMore(t *testing.T) {
	whole := len(linesByWords(many()))
	for most := 1; most <= whole; most++ {
		told := 0
		event.Lines(many())(func(number int, line string) bool {
			told++
			return told < most
		})
		if told != most {
			t.Errorf("Lines, left behind %d, told %d", most, told)
		}
	}
}

// P7.1: goings over do not change one another.
func TestLinesWithin(t *testing.T) {
	want := linesByWords(many())
	seq := event.Lines(many())
	var outer []string
	for _, line := range seq {
		outer = append(outer, line)
		gone(t, seq, 1)
		if inner := gone(t, seq, math.MaxInt); !slices.Equal(inner, want) {
			t.Errorf("within: %q", inner)
		}
		if inner := gone(t, event.Lines(one("8", "", "x")), math.MaxInt); !slices.Equal(inner, []string{"id: 8", "data: x", ""}) {
			t.Errorf("another one within: %q", inner)
		}
	}
	if !slices.Equal(outer, want) {
		t.Errorf("about others: %q", outer)
	}
}

// P7.1: goings over side by side.
func TestLinesBeside(t *testing.T) {
	want := linesByWords(many())
	seq := event.Lines(many())
	var all sync.WaitGroup
	for range 8 {
		all.Go(func() {
			for range 50 {
				if got := gone(t, seq, math.MaxInt); !slices.Equal(got, want) {
					t.Errorf("beside others: %q", got)
				}
			}
		})
	}
	all.Wait()
}

// P7.1: what one who goes over lines gives up by is not held back.
func TestLinesGivenUp(t *testing.T) {
	for _, thrown := range []any{"mine", 7, api.ErrArg, error(api.ErrReset), struct{ no api.Errno }{api.ErrArg}} {
		told := 0
		func() {
			defer func() {
				if got := recover(); got != thrown {
					t.Errorf("given up by %v; told %v", thrown, got)
				}
			}()
			for range event.Lines(many()) {
				told++
				panic(thrown)
			}
			t.Error("it was not given up")
		}()
		if told != 1 {
			t.Errorf("given up at the first line, told %d", told)
		}
	}
}

// P7.2: Comment, at what the chapter names.
func TestComment(t *testing.T) {
	for _, text := range []string{
		"", " ", "  ", "x", " x", "x ", ":", ":x", ": x", "data: a", "id", "hb", "\x00", "a\x00b", "\x00a", "a\x00", "\t", "\x0b\x0c",
		"\u00e9", "\u20ac", "\U0001f600", "\ufffd", "\ufeff", "\u0085\u2028", strings.Repeat("x", 65535), strings.Repeat("x", 65536), strings.Repeat("\u00e9", 32768), strings.Repeat(" ", 65536),
	} {
		wantComment(t, text)
		if b, no := event.Comment(text); no != api.OK || len(b) != len(text)+4 {
			t.Errorf("Comment(%.60q): %d bytes, errno %d", text, len(b), int(no))
		}
	}
	if b, no := event.Comment(""); string(b) != ": \n\n" || no != api.OK {
		t.Errorf("Comment of nothing: %q, errno %d", b, int(no))
	}
}

// P7.2: comments that may not be.
func TestNoComment(t *testing.T) {
	texts := []string{strings.Repeat("x", 65537), strings.Repeat("x", 1<<20), strings.Repeat("\u00e9", 32768) + "x", strings.Repeat("\u20ac", 21846), strings.Repeat("\n", 65536)}
	for _, bad := range append(unsound(), "\r", "\n", "\r\n", "\n\n") {
		texts = append(texts, bad, bad+"ab", "a"+bad+"b", "ab"+bad, bad+"\x00", " "+bad)
	}
	for _, text := range texts {
		wantComment(t, text)
		if b, no := event.Comment(text); b != nil || no != api.ErrArg {
			t.Errorf("Comment(%.60q): %.60q, errno %d; it may not be", text, b, int(no))
		}
	}
}

// wantComment holds Comment against the chapter's words.
func wantComment(t *testing.T, text string) {
	t.Helper()
	want, wantNo := ": "+text+"\n\n", api.OK
	if !utf8.ValidString(text) || strings.ContainsAny(text, "\r\n") || len(text) > 65536 {
		want, wantNo = "", api.ErrArg
	}
	b, no := event.Comment(text)
	if string(b) != want || no != wantNo {
		t.Errorf("Comment(%.60q): %.60q, errno %d; want %.60q, errno %d", text, b, int(no), want, int(wantNo))
	}
	if no != api.OK {
		return
	}
	line, rest, _ := strings.Cut(string(b), "\n")
	if f := field.Of(line); f != (api.Field{Kind: api.FieldComment, Value: " " + text}) || rest != "\n" {
		t.Errorf("Comment(%.60q) says %.60q of the Kind %d, and %.60q behind it", text, f.Value, int(f.Kind), rest)
	}
}

// P7.2: every short text, and each byte, as a comment.
func TestShortComments(t *testing.T) {
	for row := range rows(5, "\n: x\x00\r\xc3\xa9") {
		wantComment(t, row)
		if t.Failed() {
			t.FailNow()
		}
	}
	for b := range 256 {
		sign := string([]byte{byte(b)})
		for _, text := range []string{sign, sign + "ab", "a" + sign + "b", "ab" + sign} {
			wantComment(t, text)
		}
	}
}

// P7.2: Heartbeat is the comment of hb.
func TestHeartbeat(t *testing.T) {
	want, no := event.Comment("hb")
	for range 3 {
		if got := event.Heartbeat(); string(got) != ": hb\n\n" || !bytes.Equal(got, want) || no != api.OK {
			t.Errorf("Heartbeat: %q", got)
		}
	}
}

// numbers are some, at which texts or bounds change.
func numbers() []uint64 {
	return []uint64{0, 1, 2, 5, 7, 9, 10, 11, 99, 100, 101, 255, 256, 65536, 1<<32 - 1, 1 << 32, 1<<63 - 1, 1 << 63, math.MaxUint64 - 1, math.MaxUint64}
}

// P7.3, P7.4: Resets of Reset are its numbers; a reset may be, and each one has bytes of its own.
func TestReset(t *testing.T) {
	seen := map[string]api.Event{}
	for _, epoch := range numbers() {
		for _, start := range numbers() {
			e := event.Reset(epoch, start)
			if want := one("", "stream-reset", fmt.Sprintf("%d %d", epoch, start)); e != want {
				t.Errorf("Reset(%d, %d): %s; want %s", epoch, start, shown(e), shown(want))
			}
			if m, n, no := event.Resets(e); m != epoch || n != start || no != api.OK {
				t.Errorf("Resets of Reset(%d, %d): %d %d, errno %d", epoch, start, m, n, int(no))
			}
			if !event.Reserved(e) {
				t.Errorf("Reserved of Reset(%d, %d): false", epoch, start)
			}
			wantMay(t, e, "event: stream-reset", "data: "+e.Data, "")
			wantWords(t, e)
			wantAlone(t, seen, e)
		}
	}
	if len(seen) != len(numbers())*len(numbers()) {
		t.Errorf("%d resets have bytes of their own", len(seen))
	}
	if e := event.Reset(0, math.MaxUint64); e.Data != "0 18446744073709551615" {
		t.Errorf("Reset(0, 2^64 - 1): %s", shown(e))
	}
}

// P7.3: Data that is no reset's, and Data that is.
func TestResetsData(t *testing.T) {
	for _, c := range []struct {
		data         string
		epoch, start uint64
		no           api.Errno
	}{
		{"2 5", 2, 5, api.OK},
		{"5 2", 5, 2, api.OK},
		{"0 0", 0, 0, api.OK},
		{"10 100", 10, 100, api.OK},
		{"18446744073709551615 18446744073709551615", math.MaxUint64, math.MaxUint64, api.OK},
		{"18446744073709551615 0", math.MaxUint64, 0, api.OK},
		{"0 18446744073709551615", 0, math.MaxUint64, api.OK},
		{"18446744073709551616 0", 0, 0, api.ErrReset},
		{"0 18446744073709551616", 0, 0, api.ErrReset},
		{"2 18446744073709551625", 0, 0, api.ErrReset},
		{"99999999999999999999 5", 0, 0, api.ErrReset},
		{"2 340282366920938463463374607431768211461", 0, 0, api.ErrReset},
		{"", 0, 0, api.ErrReset},
		{" ", 0, 0, api.ErrReset},
		{"  ", 0, 0, api.ErrReset},
		{"2", 0, 0, api.ErrReset},
		{"25", 0, 0, api.ErrReset},
		{"2 ", 0, 0, api.ErrReset},
		{" 5", 0, 0, api.ErrReset},
		{"2  5", 0, 0, api.ErrReset},
		{" 2 5", 0, 0, api.ErrReset},
		{"2 5 ", 0, 0, api.ErrReset},
		{" 2 5 ", 0, 0, api.ErrReset},
		{"2 5 7", 0, 0, api.ErrReset},
		{"02 5", 0, 0, api.ErrReset},
		{"2 05", 0, 0, api.ErrReset},
		{"00 0", 0, 0, api.ErrReset},
		{"0 00", 0, 0, api.ErrReset},
		{"+2 5", 0, 0, api.ErrReset},
		{"2 +5", 0, 0, api.ErrReset},
		{"-2 5", 0, 0, api.ErrReset},
		{"2 -5", 0, 0, api.ErrReset},
		{"-0 0", 0, 0, api.ErrReset},
		{"0 -0", 0, 0, api.ErrReset},
		{"a 5", 0, 0, api.ErrReset},
		{"2 a", 0, 0, api.ErrReset},
		{"2a 5", 0, 0, api.ErrReset},
		{"2 5a", 0, 0, api.ErrReset},
		{"0x2 5", 0, 0, api.ErrReset},
		{"2.0 5", 0, 0, api.ErrReset},
		{"1_0 5", 0, 0, api.ErrReset},
		{"2\t5", 0, 0, api.ErrReset},
		{"2\n5", 0, 0, api.ErrReset},
		{"2 5\n", 0, 0, api.ErrReset},
		{"\n2 5", 0, 0, api.ErrReset},
		{"2 \n5", 0, 0, api.ErrReset},
		{"2 5\r", 0, 0, api.ErrReset},
		{"2\u00a05", 0, 0, api.ErrReset},
		{"2 \u0665", 0, 0, api.ErrReset},
		{"2 5\x00", 0, 0, api.ErrReset},
		{"\xff 5", 0, 0, api.ErrReset},
		{"2,5", 0, 0, api.ErrReset},
		{"/ :", 0, 0, api.ErrReset},
	} {
		e := one("", "stream-reset", c.data)
		if m, n, no := event.Resets(e); m != c.epoch || n != c.start || no != c.no {
			t.Errorf("Resets%s: %d %d, errno %d; want %d %d, errno %d", shown(e), m, n, int(no), c.epoch, c.start, int(c.no))
		}
		wantReset(t, e)
		e.Id = "7"
		if m, n, no := event.Resets(e); m != 0 || n != 0 || no != api.ErrReset {
			t.Errorf("Resets%s: %d %d, errno %d; it has an Id", shown(e), m, n, int(no))
		}
	}
}

// P7.3: the reserved Type, and others.
func TestReserved(t *testing.T) {
	for _, c := range []struct {
		kind string
		is   bool
	}{
		{"stream-reset", true},
		{"", false},
		{"stream", false},
		{"reset", false},
		{"stream-rese", false},
		{"tream-reset", false},
		{"stream-reset ", false},
		{" stream-reset", false},
		{"stream-resets", false},
		{"stream-reset\x00", false},
		{"stream-reset\n", false},
		{"Stream-reset", false},
		{"Stream-Reset", false},
		{"STREAM-RESET", false},
		{"stream-reseT", false},
		{"stream_reset", false},
		{"stream reset", false},
		{"streamreset", false},
		{"\u017ftream-reset", false},
		{"\xff", false},
		{strings.Repeat("stream-reset", 9000), false},
	} {
		for _, id := range []string{"", "7", "\x00"} {
			for _, data := range []string{"2 5", "", "x", "\r", "\xff", strings.Repeat("x", 65537)} {
				e := one(id, c.kind, data)
				if got := event.Reserved(e); got != c.is {
					t.Errorf("Reserved%s: %v", shown(e), got)
				}
				want := api.ErrReset
				if c.is && id == "" && data == "2 5" {
					want = api.OK
				}
				if _, _, no := event.Resets(e); no != want {
					t.Errorf("Resets%s: errno %d; want %d", shown(e), int(no), int(want))
				}
			}
		}
	}
}

// P7.3: every short Data of a reset, and each byte at each place of one.
func TestResetsEach(t *testing.T) {
	for row := range rows(5, "02 -\n") {
		wantReset(t, one("", "stream-reset", row))
		wantReset(t, one("0", "stream-reset", row))
	}
	for b := range 256 {
		sign := string([]byte{byte(b)})
		for data, place := "12 34", 0; place <= len(data); place++ {
			wantReset(t, one("", "stream-reset", data[:place]+sign+data[place:]))
			if place < len(data) {
				wantReset(t, one("", "stream-reset", data[:place]+sign+data[place+1:]))
			}
			wantReset(t, one(sign, "stream-reset", data))
		}
		for kind, place := "stream-reset", 0; place < len(kind); place++ {
			wantReset(t, one("", kind[:place]+sign+kind[place+1:], "12 34"))
			wantReset(t, one("", kind[:place]+sign+kind[place:], "12 34"))
		}
	}
}

// P7.3: long Data of the reserved Type.
func TestResetsLong(t *testing.T) {
	digits := strings.Repeat("7", 1<<16)
	for _, data := range []string{digits, digits + " 5", "2 " + digits, "2 " + strings.Repeat("0", 1<<16), strings.Repeat("0", 1<<16) + " 5", strings.Repeat(" ", 1<<16), strings.Repeat("2 ", 1<<16)} {
		wantReset(t, one("", "stream-reset", data))
	}
}

// P7.1, P7.2: bytes that are told are new each time, spare room behind them included.
func TestNewMemory(t *testing.T) {
	spoil := func(b []byte) {
		for place := range b[:cap(b)] {
			b[:cap(b)][place] = 'z'
		}
	}
	e := many()
	want := strings.Join(linesByWords(e), "\n") + "\n"
	kept, _ := event.Encode(e)
	beat := event.Heartbeat()
	comment, _ := event.Comment("x")
	for range 3 {
		b, _ := event.Encode(e)
		spoil(b)
		b, _ = event.Comment("x")
		spoil(b)
		spoil(event.Heartbeat())
		if e != many() || string(kept) != want || string(beat) != ": hb\n\n" || string(comment) != ": x\n\n" {
			t.Errorf("%s: %q, %q, %q", shown(e), kept, beat, comment)
		}
		if b, _ := event.Encode(e); string(b) != want {
			t.Errorf("Encode%s: %q", shown(e), b)
		}
		if b := event.Heartbeat(); string(b) != ": hb\n\n" {
			t.Errorf("Heartbeat: %q", b)
		}
	}
}

// P7.1: an error leaves nothing behind for later calls.
func TestBehindErrors(t *testing.T) {
	for range 3 {
		wantMayNot(t, one("\r", "t", "a"))
		wantMay(t, one("7", "t", "a"), "id: 7", "event: t", "data: a", "")
		wantComment(t, "\n")
		wantComment(t, "x")
		wantReset(t, one("", "stream-reset", "2"))
		wantReset(t, one("", "stream-reset", "2 5"))
	}
}

// chance is a row of numbers that is the same each time.
type chance uint64

func (c *chance) below(n int) int {
	*c = *c*6364136223846793005 + 1442695040888963407
	return int(uint64(*c>>33) % uint64(n))
}

// text is a few pieces, one behind the other; most have nothing that may not be.
func (c *chance) text() string {
	pieces := some()
	if c.below(3) > 0 {
		pieces = slices.DeleteFunc(pieces, func(p string) bool { return !mayByWords(one(p, p, p)) })
	}
	text := ""
	for range c.below(6) {
		text += pieces[c.below(len(pieces))]
	}
	return text
}

// P7.1, P7.3, P7.4: many events of all sorts.
func TestManyEvents(t *testing.T) {
	seen := map[string]api.Event{}
	c := chance(7)
	for range 20000 {
		e := one(c.text(), c.text(), c.text())
		wantWords(t, e)
		wantAlone(t, seen, e)
		if t.Failed() {
			t.FailNow()
		}
	}
	if len(seen) < 5000 {
		t.Errorf("but %d of them may be", len(seen))
	}
}

package lines_test

import (
	"iter"
	"math"
	"runtime"
	"slices"
	"strconv"
	"strings"
	"testing"

	"bellman/api"
	"bellman/lines"
	"bellman/utf"
)

const (
	// mark is the bytes of the point feff.
	mark = "\xef\xbb\xbf"
	// instead is what is told where no point's bytes stand.
	instead = "\xef\xbf\xbd"
)

// long is a line that is too long.
var long = api.Line{Long: true}

// told are lines with these texts, none of which is too long.
func told(texts ...string) []api.Line {
	var l []api.Line
	for _, text := range texts {
		l = append(l, api.Line{Text: text})
	}
	return l
}

// aline is a text as a line, by the chapter's words.
func aline(most int, text string) api.Line {
	if len(text) > most {
		return long
	}
	return api.Line{Text: text}
}

// shown are lines as a message shows them: no more of them than are read.
func shown(l ...api.Line) string {
	var texts []string
	for _, line := range l {
		text := strconv.Quote(line.Text[:min(len(line.Text), 40)])
		if line.Long {
			text += " long"
		}
		texts = append(texts, text)
		if len(texts) == 20 {
			break
		}
	}
	return strconv.Itoa(len(l)) + " (" + strings.Join(texts, "; ") + ")"
}

// byWords are the lines that bytes end, and what waits behind the last one, by the chapter's words.
func byWords(most int, b []byte) (ended []api.Line, rest api.Line) {
	text, _ := utf.New().Write(b)
	text = strings.TrimPrefix(text, mark)
	text = strings.NewReplacer("\r\n", "\n", "\r", "\n").Replace(text)
	texts := strings.Split(text, "\n")
	last := len(texts) - 1
	for _, text := range texts[:last] {
		ended = append(ended, aline(most, text))
	}
	return ended, aline(most, texts[last])
}

// made is a new splitter that must be there.
func made(t *testing.T, most int) *lines.Splitter {
	t.Helper()
	s, e := lines.New(most)
	if e != api.OK || s == nil {
		t.Fatalf("New(%d): %v, errno %d", most, s, int(e))
	}
	return s
}

// nones are what is no splitter: none at all, and one that New did not make.
func nones() []*lines.Splitter { return []*lines.Splitter{nil, {}, new(lines.Splitter)} }

// gone goes over at most so many lines, leaves then, and is what it went over; numbers must go from 0 on.
func gone(t *testing.T, seq iter.Seq2[int, api.Line], most int) []api.Line {
	t.Helper()
	var l []api.Line
	if most == 0 {
		return l
	}
	for number, line := range seq {
		if number != len(l) {
			t.Errorf("Each: number %d of the line behind %d others", number, len(l))
		}
		l = append(l, line)
		if len(l) == most {
			break
		}
	}
	return l
}

// wantWrite lets bytes come; want are the lines that should end with them.
func wantWrite(t *testing.T, s *lines.Splitter, b string, want ...api.Line) {
	t.Helper()
	if got, e := s.Write([]byte(b)); !slices.Equal(got, want) || e != api.OK {
		t.Errorf("Write(%.60q): %s, errno %d; want %s", b, shown(got...), int(e), shown(want...))
	}
}

func wantWaits(t *testing.T, s *lines.Splitter, want api.Line) {
	t.Helper()
	if got := s.Waits(); got != want {
		t.Errorf("Waits: %s; want %s", shown(got), shown(want))
	}
}

func wantReset(t *testing.T, s *lines.Splitter) {
	t.Helper()
	if e := s.Reset(); e != api.OK {
		t.Errorf("Reset: errno %d", int(e))
	}
	wantWaits(t, s, api.Line{})
}

// wantOf holds Of and Each against the lines that there should be.
func wantOf(t *testing.T, most int, b string, want ...api.Line) {
	t.Helper()
	if got, e := lines.Of(most, []byte(b)); !slices.Equal(got, want) || e != api.OK {
		t.Errorf("Of(%d, %.60q): %s, errno %d; want %s", most, b, shown(got...), int(e), shown(want...))
	}
	if got := gone(t, lines.Each(most, []byte(b)), math.MaxInt); !slices.Equal(got, want) {
		t.Errorf("Each(%d, %.60q): %s; want %s", most, b, shown(got...), shown(want...))
	}
}

// wantAll holds all that is told of bytes, which come at once, against the lines and what waits behind them.
func wantAll(t *testing.T, most int, b string, rest api.Line, want ...api.Line) {
	t.Helper()
	wantOf(t, most, b, want...)
	s := made(t, most)
	wantWrite(t, s, b, want...)
	wantWaits(t, s, rest)
}

// wantPieces lets pieces come, and holds the lines, and what waits, against what they should be at each time.
func wantPieces(t *testing.T, most int, pieces ...[]byte) {
	t.Helper()
	s := made(t, most)
	var came []byte
	var l []api.Line
	for _, piece := range pieces {
		more, e := s.Write(piece)
		came, l = append(came, piece...), append(l, more...)
		want, rest := byWords(most, came)
		if e != api.OK || !slices.Equal(l, want) || s.Waits() != rest {
			t.Errorf("%d, Write of %.300q: %s, errno %d, waits %s; want %s, %s", most, pieces, shown(l...), int(e), shown(s.Waits()), shown(want...), shown(rest))
		}
	}
	for _, line := range append(l, s.Waits()) {
		if strings.ContainsAny(line.Text, "\r\n") || len(line.Text) > most || !utf.Sound(line.Text) || line.Long && line.Text != "" {
			t.Errorf("%d, Write of %.300q: a line that may not be: %s", most, pieces, shown(line))
		}
	}
	wantOf(t, most, string(came), l...)
}

// each is bytes in pieces of one, with others that are empty between them, if between.
func each(b string, between bool) [][]byte {
	var l [][]byte
	for i := range len(b) {
		if between {
			l = append(l, nil, []byte{})
		}
		l = append(l, []byte(b[i:i+1]))
	}
	return l
}

// P5.1, P5.2: the chapter's examples.
func TestExamples(t *testing.T) {
	wantOf(t, 9, "\xef\xbb\xbfa\nb\r\n\rc", told("a", "b", "")...)
	wantOf(t, 2, "abc\nd\n", long, api.Line{Text: "d"})
	s := made(t, 9)
	wantWrite(t, s, "a\r", told("a")...)
	wantWrite(t, s, "\nb")
	wantWrite(t, s, "\n", told("b")...)
	wantWaits(t, s, api.Line{})
}

// P5.1: caps that may be, and that may not.
func TestCaps(t *testing.T) {
	for _, most := range []int{1, 2, 3, 9, 255, 256, 4095, 4096, 4097, api.MaxLine - 1, api.MaxLine} {
		s := made(t, most)
		wantWaits(t, s, api.Line{})
		wantOf(t, most, "a\n", told("a")...)
	}
	if api.MaxLine != 65536 {
		t.Errorf("MaxLine: %d", api.MaxLine)
	}
	for _, most := range []int{math.MinInt, math.MinInt32, -65536, -2, -1, 0, 65537, 65538, 1 << 17, 1 << 32, 1<<32 + 1, math.MaxInt32, math.MaxInt} {
		if s, e := lines.New(most); s != nil || e != api.ErrArg {
			t.Errorf("New(%d): %v, errno %d", most, s, int(e))
		}
		for _, b := range []string{"", "a", "a\n", "\r\n", "\n\n\n"} {
			if l, e := lines.Of(most, []byte(b)); l != nil || e != api.ErrArg {
				t.Errorf("Of(%d, %q): %v, errno %d", most, b, l, int(e))
			}
			seq := lines.Each(most, []byte(b))
			if seq == nil {
				t.Fatalf("Each(%d, %q) is not there", most, b)
			}
			for range 2 {
				if l := gone(t, seq, math.MaxInt); l != nil {
					t.Errorf("Each(%d, %q): %v", most, b, l)
				}
			}
		}
	}
}

// P5.1, P5.2: lines by each end, and by several.
func TestEnds(t *testing.T) {
	for _, c := range []struct {
		b, rest string
		texts   []string
	}{
		{"", "", nil},
		{"a", "a", nil},
		{"\n", "", []string{""}},
		{"\r", "", []string{""}},
		{"\r\n", "", []string{""}},
		{"\n\r", "", []string{"", ""}},
		{"\r\r", "", []string{"", ""}},
		{"\n\n", "", []string{"", ""}},
		{"\r\n\n", "", []string{"", ""}},
		{"\r\r\n", "", []string{"", ""}},
		{"\r\n\r", "", []string{"", ""}},
		{"\r\n\r\n", "", []string{"", ""}},
		{"\n\r\n", "", []string{"", ""}},
		{"\n\r\r\n\n", "", []string{"", "", "", ""}},
		{"a\nb", "b", []string{"a"}},
		{"a\rb", "b", []string{"a"}},
		{"a\r\nb", "b", []string{"a"}},
		{"a\n\rb", "b", []string{"a", ""}},
		{"a\r\rb", "b", []string{"a", ""}},
		{"a\r\n\nb\n", "", []string{"a", "", "b"}},
		{"\na", "a", []string{""}},
		{"\ra", "a", []string{""}},
		{"one\ntwo\rthree\r\nfour", "four", []string{"one", "two", "three"}},
		{"data: x\r\n\r\n", "", []string{"data: x", ""}},
		// What else ends lines elsewhere, but is no end here.
		{"\x00\x0b\x0c\x1c\x1d\x1e\u0085\u2028\u2029 \t\n", "", []string{"\x00\x0b\x0c\x1c\x1d\x1e\u0085\u2028\u2029 \t"}},
		// Points whose numbers, or bytes, look like those of the ends.
		{"\u010a\u010d\u0d0a\u0a0d\U0001000a\n", "", []string{"\u010a\u010d\u0d0a\u0a0d\U0001000a"}},
		{"\\n\\r\n", "", []string{"\\n\\r"}},
	} {
		wantAll(t, 99, c.b, api.Line{Text: c.rest}, told(c.texts...)...)
		wantPieces(t, 99, each(c.b, false)...)
		wantPieces(t, 99, each(c.b, true)...)
	}
}

// P5.1: of no bytes there are no lines; they change nothing.
func TestNoBytes(t *testing.T) {
	for _, b := range [][]byte{nil, {}, make([]byte, 0, 9)} {
		if l, e := lines.Of(9, b); len(l) != 0 || e != api.OK {
			t.Errorf("Of of no bytes: %v, errno %d", l, int(e))
		}
		if l := gone(t, lines.Each(9, b), math.MaxInt); l != nil {
			t.Errorf("Each of no bytes: %v", l)
		}
		s := made(t, 9)
		for _, c := range []struct{ b, ended, rest string }{
			{mark + "a", "", "a"}, {"b\r", "ab", ""}, {"\n" + mark, "", mark}, {"\n\xe2\x82", mark, ""}, {"\xac", "", "\u20ac"},
		} {
			want := told(c.ended)
			if c.ended == "" {
				want = nil
			}
			wantWrite(t, s, c.b, want...)
			for range 3 {
				if l, e := s.Write(b); len(l) != 0 || e != api.OK {
					t.Errorf("Write of no bytes: %v, errno %d", l, int(e))
				}
			}
			wantWaits(t, s, api.Line{Text: c.rest})
		}
	}
}

// P5.1, P5.2, P5.3: lines of just as many bytes as the cap, of one less and of one more, by each end, in one piece and cut at each place.
func TestMost(t *testing.T) {
	for _, most := range []int{1, 2, 3, 4, 9} {
		for size := range most + 3 {
			text := strings.Repeat("x", size)
			for _, end := range []string{"\n", "\r", "\r\n"} {
				b := text + end + "y" + end + text
				rest := aline(most, text)
				wantAll(t, most, b, rest, aline(most, text), api.Line{Text: "y"})
				for at := range len(b) + 1 {
					wantPieces(t, most, []byte(b[:at]), []byte(b[at:]))
				}
				wantPieces(t, most, each(b, true)...)
			}
		}
	}
}

// P5.1, P5.2: the same at caps that are great, up to the greatest, with what is over the cap in a piece of its own.
func TestMostGreat(t *testing.T) {
	for _, most := range []int{255, 256, 4094, 4095, 4096, 4097, 8191, 8192, 8193, 65535, 65536} {
		for _, size := range []int{most - 1, most, most + 1, most + 2, 2 * most, 2*most + 1} {
			text := strings.Repeat("x", size)
			line := aline(most, text)
			wantAll(t, most, text+"\ny\r"+text, line, line, api.Line{Text: "y"})
			s := made(t, most)
			wantWrite(t, s, text[:most-1])
			wantWaits(t, s, api.Line{Text: text[:most-1]})
			wantWrite(t, s, text[most-1:])
			wantWaits(t, s, line)
			wantWrite(t, s, "\r", line)
			wantWrite(t, s, "\n"+text)
			wantWaits(t, s, line)
			wantWrite(t, s, "\n"+text+"\n", line, line)
			wantWaits(t, s, api.Line{})
		}
	}
}

// P5.2: what waits is too long as soon as it is, and stays so till its end; the lines behind it are as they are.
func TestLongWaits(t *testing.T) {
	s := made(t, 3)
	for _, c := range []struct {
		b    string
		rest api.Line
	}{
		{"a", api.Line{Text: "a"}}, {"bc", api.Line{Text: "abc"}}, {"d", long}, {"", long}, {"e", long}, {"fghi", long}, {"\xe2", long}, {"\x82\xac", long},
	} {
		wantWrite(t, s, c.b)
		wantWaits(t, s, c.rest)
	}
	wantWrite(t, s, "\r", long)
	wantWaits(t, s, api.Line{})
	wantWrite(t, s, "\nabc\nabcd\r\rab", told("abc")[0], long, api.Line{})
	wantWaits(t, s, api.Line{Text: "ab"})
	wantWrite(t, s, "cd\n", long)
	wantWrite(t, s, "\n", api.Line{})
}

// P5.1: bytes are counted, not points, and of what was told, not of what came.
func TestMostCounts(t *testing.T) {
	for _, c := range []struct {
		most int
		b    string
		line api.Line
	}{
		{2, "\u00e9\n", api.Line{Text: "\u00e9"}}, {1, "\u00e9\n", long},
		{3, "\u20ac\n", api.Line{Text: "\u20ac"}}, {2, "\u20ac\n", long},
		{4, "\U0001f600\n", api.Line{Text: "\U0001f600"}}, {3, "\U0001f600\n", long},
		{4, "a\u20ac\n", api.Line{Text: "a\u20ac"}}, {3, "a\u20ac\n", long}, {3, "\u20aca\n", long},
		{3, "\xff\n", api.Line{Text: instead}}, {2, "\xff\n", long}, {1, "\xff\n", long},
		{3, "\xf0\x9f\x98\n", api.Line{Text: instead}}, {2, "\xf0\x9f\x98\n", long},
		{3, "\xe2\x82\r", api.Line{Text: instead}}, {6, "\xff\xff\n", api.Line{Text: instead + instead}}, {5, "\xff\xff\n", long},
		// What is left out counts for nothing.
		{1, mark + "a\n", api.Line{Text: "a"}}, {3, mark + "abc\r\n", api.Line{Text: "abc"}}, {3, mark + "abcd\n", long},
		{1, mark + "\n", api.Line{}}, {3, mark + mark + "\n", api.Line{Text: mark}}, {2, mark + mark + "\n", long},
	} {
		wantAll(t, c.most, c.b, api.Line{}, c.line)
		wantPieces(t, c.most, each(c.b, false)...)
		wantPieces(t, c.most, each(c.b+c.b, true)...)
	}
}

// P5.1, P5.3: a CR at a piece's end, and what comes next in another one.
func TestEndsCut(t *testing.T) {
	s := made(t, 9)
	wantWrite(t, s, "a\r", told("a")...)
	wantWrite(t, s, "\n")
	wantWrite(t, s, "\n", told("")...)
	wantWrite(t, s, "b\r", told("b")...)
	wantWrite(t, s, "\r", told("")...)
	wantWrite(t, s, "\n\r", told("")...)
	wantWrite(t, s, "")
	wantWrite(t, s, "\n")
	wantWrite(t, s, "\nc", told("")...)
	wantWrite(t, s, "\n", told("c")...)
	wantWrite(t, s, "\n", told("")...)
	wantWrite(t, s, "\r", told("")...)
	wantWrite(t, s, "d")
	wantWrite(t, s, "\n", told("d")...)
	// Bytes that wait behind the CR, and are none of a point's, stand between it and the LF.
	wantWrite(t, s, "\r", told("")...)
	wantWrite(t, s, "\xe2\x82")
	wantWaits(t, s, api.Line{})
	wantWrite(t, s, "\n", told(instead)...)
	wantWrite(t, s, "\r\xf0", told("")...)
	wantWrite(t, s, "\n\n", told(instead, "")...)
	wantWrite(t, s, "e\r", told("e")...)
	wantWrite(t, s, mark+"\n", told(mark)...)
	wantWrite(t, s, "\xe2\r", told(instead)...)
	wantWrite(t, s, "\n")
	wantWaits(t, s, api.Line{})
}

// P5.1, P5.3: the point feff is left out as the first one of all, and nowhere else.
func TestMark(t *testing.T) {
	for _, c := range []struct {
		b, rest string
		texts   []string
	}{
		{mark, "", nil},
		{mark + "a", "a", nil},
		{mark + "\n", "", []string{""}},
		{mark + "\r\n" + mark + "\n", "", []string{"", mark}},
		{mark + "a\n" + mark + "b\n" + mark, mark, []string{"a", mark + "b"}},
		{mark + mark, mark, nil},
		{mark + mark + "a\n", "", []string{mark + "a"}},
		{mark + mark + mark + "\n", "", []string{mark + mark}},
		{"a" + mark, "a" + mark, nil},
		{"a" + mark + "\n", "", []string{"a" + mark}},
		{"\n" + mark, mark, []string{""}},
		{"\r" + mark + "\r", "", []string{"", mark}},
		{"\r\n" + mark + "a\n", "", []string{"", mark + "a"}},
		{"\x00" + mark + "\n", "", []string{"\x00" + mark}},
		// Bytes that are no point's are told as one: it is the first.
		{"\xff" + mark + "a\n", "", []string{instead + mark + "a"}},
		{"\xef" + mark + "a\n", "", []string{instead + mark + "a"}},
		{"\xef\xbb" + mark + "a\n", "", []string{instead + mark + "a"}},
		{"\xef\xbb", "", nil},
		{"\xef\xbba\n", "", []string{instead + "a"}},
		{"\xef\xbb\n", "", []string{instead}},
		{mark + "\xff" + mark + "\n", "", []string{instead + mark}},
		// Others that are near to it, or look like it elsewhere.
		{"\ufefe\n", "", []string{"\ufefe"}}, {"\uff00\n", "", []string{"\uff00"}}, {"\ufffd\n", "", []string{"\ufffd"}},
		{"\u2060\n", "", []string{"\u2060"}}, {"\u200b\n", "", []string{"\u200b"}},
		{"\xfe\xffa\n", "", []string{instead + instead + "a"}}, {"\xff\xfea\n", "", []string{instead + instead + "a"}},
	} {
		wantAll(t, 99, c.b, api.Line{Text: c.rest}, told(c.texts...)...)
		wantPieces(t, 99, each(c.b, false)...)
		wantPieces(t, 99, each(c.b, true)...)
		for at := range len(c.b) + 1 {
			wantPieces(t, 99, []byte(c.b[:at]), []byte(c.b[at:]))
		}
	}
}

// P5.1, P5.3: the point feff, cut between pieces, with what waits at each time.
func TestMarkCut(t *testing.T) {
	for _, pieces := range [][]string{{"\xef", "\xbb", "\xbf"}, {"\xef\xbb", "\xbf"}, {"\xef", "\xbb\xbf"}, {mark}, {"", "\xef", "", "\xbb", "", "\xbf", ""}} {
		s := made(t, 9)
		for _, piece := range pieces {
			wantWrite(t, s, piece)
			wantWaits(t, s, api.Line{})
		}
		for _, piece := range pieces {
			wantWrite(t, s, piece)
		}
		wantWaits(t, s, api.Line{Text: mark})
		wantWrite(t, s, "\n", told(mark)...)
	}
}

// P5.1, P5.3: bytes are made sound ahead of all else.
func TestBroken(t *testing.T) {
	for _, c := range []struct {
		b     string
		texts []string
	}{
		{"\xff\n", []string{instead}},
		{"a\xffb\r\n", []string{"a" + instead + "b"}},
		{"\xe2\x82\nb\n", []string{instead, "b"}},
		{"\xe2\x82\r\nb\r", []string{instead, "b"}},
		{"\xf0\x9f\x98\n", []string{instead}},
		{"\xed\xa0\x80\n", []string{instead + instead + instead}},
		{"\xc0\x8a\n", []string{instead + instead}},
		{"\xc0\x8d\xc0\x8a\n", []string{instead + instead + instead + instead}},
		{"\xe0\x80\x8a\n", []string{instead + instead + instead}},
		{"\x8a\x8d\n", []string{instead + instead}},
		{"\xc3\r\xa9\n", []string{instead, instead}},
		{"\xc3\n\xa9\r", []string{instead, instead}},
		{"\xc3\xa9\xa9\n", []string{"\u00e9" + instead}},
	} {
		wantAll(t, 99, c.b, api.Line{}, told(c.texts...)...)
		wantPieces(t, 99, each(c.b, false)...)
		wantPieces(t, 99, each(c.b, true)...)
	}
}

// P5.2: what waits is told without the bytes that wait to be a point's.
func TestWaitsPoints(t *testing.T) {
	s := made(t, 9)
	for _, c := range []struct{ b, rest string }{
		{"a\xe2", "a"}, {"\x82", "a"}, {"\xac", "a\u20ac"}, {"\xc3", "a\u20ac"}, {"b", "a\u20ac" + instead + "b"},
	} {
		wantWrite(t, s, c.b)
		wantWaits(t, s, api.Line{Text: c.rest})
		wantWaits(t, s, api.Line{Text: c.rest})
	}
	wantWrite(t, s, "cd")
	wantWaits(t, s, long)
	// A line that is as long as may be, and bytes of which one point more would come.
	wantWrite(t, s, "\n123456789\xf0\x9f\x98", long)
	wantWaits(t, s, api.Line{Text: "123456789"})
	wantWrite(t, s, "\n", long)
	wantWrite(t, s, "123456789\xc3")
	wantWaits(t, s, api.Line{Text: "123456789"})
	wantWrite(t, s, "\xa9")
	wantWaits(t, s, long)
}

// P5.2: of no splitter nothing is told.
func TestNone(t *testing.T) {
	for i, s := range nones() {
		for _, b := range []string{"", "a", "a\n", "\r\n", mark, "\xff"} {
			if l, e := s.Write([]byte(b)); l != nil || e != api.ErrNil {
				t.Errorf("%d: Write(%q): %v, errno %d", i, b, l, int(e))
			}
			if l := s.Waits(); l != (api.Line{}) {
				t.Errorf("%d: Waits: %v", i, l)
			}
			if e := s.Reset(); e != api.ErrNil {
				t.Errorf("%d: Reset: errno %d", i, int(e))
			}
			if c := s.Copy(); c != nil {
				t.Errorf("%d: Copy: %v", i, c)
			}
		}
	}
}

// P5.1: New makes another one each time.
func TestNewApart(t *testing.T) {
	a, b := made(t, 9), made(t, 9)
	if a == b {
		t.Fatal("New makes the same one twice")
	}
	wantWrite(t, a, mark+"a\r"+"b\xc3", told("a")...)
	wantWaits(t, b, api.Line{})
	wantWrite(t, b, "\n"+mark, told("")...)
	wantWaits(t, a, api.Line{Text: "b"})
	wantWaits(t, b, api.Line{Text: mark})
	wantWrite(t, a, "\xa9")
	wantWaits(t, a, api.Line{Text: "b\u00e9"})
}

// P5.1: Each may be left at any time, and gone over again.
func TestEachLeft(t *testing.T) {
	whole := []api.Line{{Text: "a"}, {}, long, {Text: "b\u00e9"}, {}, {Text: mark}}
	seq := lines.Each(3, []byte(mark+"a\r\n\nabcd\rb\u00e9\n\r"+mark+"\nrest"))
	for most := 1; most <= len(whole); most++ {
		if got := gone(t, seq, most); !slices.Equal(got, whole[:most]) {
			t.Errorf("Each, left behind %d: %v", most, got)
		}
		if got := gone(t, seq, math.MaxInt); !slices.Equal(got, whole) {
			t.Errorf("Each, again: %v", got)
		}
	}
}

// P5.1: what has been left is not asked any more.
func TestEachStops(t *testing.T) {
	for _, b := range []string{"a\nb\nc\nd\ne\nf\n", "\r\r\r\r\r\r\r", "\r\n\r\n\r\n\r\n\r\n\r\n\r\n", strings.Repeat(strings.Repeat("x", 4095)+"\n", 9)} {
		seq := lines.Each(2, []byte(b))
		for most := 1; most <= 6; most++ {
			asked := 0
			seq(func(int, api.Line) bool {
				asked++
				return asked < most
			})
			if asked != most {
				t.Errorf("Each(%.60q): asked %d times, left behind %d", b, asked, most)
			}
		}
	}
}

// P5.1: two that go over the same at the same time do not disturb each other.
func TestEachTwice(t *testing.T) {
	whole := told("a", "", "b")
	seq := lines.Each(9, []byte(mark+"a\r\n\rb\nc"))
	outer := 0
	for number, line := range seq {
		if number != outer || line != whole[outer] {
			t.Errorf("Each, the outer one: %d %v", number, line)
		}
		outer++
		if got := gone(t, seq, math.MaxInt); !slices.Equal(got, whole) {
			t.Errorf("Each, the inner one: %v", got)
		}
	}
	if outer != len(whole) {
		t.Errorf("Each, the outer one: %d lines", outer)
	}
}

// P5.1: Each goes over what was there when it was called.
func TestEachThen(t *testing.T) {
	b := []byte("a\nb\nc\n")
	seq := lines.Each(9, b)
	copy(b, "xxxxxx")
	for range 2 {
		if got := gone(t, seq, math.MaxInt); !slices.Equal(got, told("a", "b", "c")) {
			t.Errorf("Each, behind a change of what was handed in: %v", got)
		}
	}
	b = []byte(strings.Repeat("a\n", 9000))
	for number, line := range lines.Each(9, b) {
		if line.Text != "a" {
			t.Fatalf("Each, while what was handed in is changed: %d %v", number, line)
		}
		clear(b)
	}
}

// P5.1: what is handed in is not changed, spare room behind it included, and not kept.
func TestHandedIn(t *testing.T) {
	for _, b := range []string{"abc", "a\n", "a\r", mark + "ab", "\xef\xbb", "\xff\xff", "ab\ncd\r\nef", "a\xe2\x82", ""} {
		room := append([]byte(b), "#######"...)
		handed := room[:len(b)]
		s := made(t, 9)
		wantWrite(t, s, "1")
		s.Write(handed)
		rest := s.Waits()
		lines.Of(9, handed)
		gone(t, lines.Each(9, handed), math.MaxInt)
		if string(room) != b+"#######" {
			t.Errorf("what was handed in was changed: %q", room)
		}
		for i := range room {
			room[i] = 'X'
		}
		wantWaits(t, s, rest)
		s.Write([]byte("234567890\n\r\nabc"))
		if strings.Trim(string(room), "X") != "" {
			t.Errorf("a later call changed what was handed in: %q", room)
		}
	}
}

// P5.1, P5.2: what is answered shares no memory, and stays what it is.
func TestAnswered(t *testing.T) {
	s := made(t, 9)
	wantWrite(t, s, "abc")
	rest := s.Waits()
	first, _ := s.Write([]byte("d\nef\nghi"))
	restThen := s.Waits()
	second, _ := s.Write([]byte("jkl\nmno\n"))
	if rest.Text != "abc" || restThen.Text != "ghi" {
		t.Errorf("what Waits answered: %s", shown(rest, restThen))
	}
	for i := range first {
		first[i] = api.Line{Text: "X", Long: true}
	}
	_ = append(first, first...)
	if !slices.Equal(second, told("ghijkl", "mno")) {
		t.Errorf("what Write answered: %v", second)
	}
	wantWrite(t, s, "p\n", told("p")...)
	one, _ := lines.Of(9, []byte("a\nb\n"))
	one[0].Text = "X"
	wantOf(t, 9, "a\nb\n", told("a", "b")...)
}

// P5.2: behind Reset a splitter is as new, whatever came ahead of it; its cap is the same.
func TestReset(t *testing.T) {
	for _, ahead := range []string{"", "a", "abcdef", "a\n", "a\r", "\r", "abcdef\r", mark, "\xef", "\xef\xbb", mark + "\xef\xbb", "a\xe2\x82", "\xf0\x9f\x98", "abcdef\xc3", "a\nb\r\nabcdef"} {
		for _, b := range []string{"\n", "\r\n", "a\n", "abc\n", "abcd\n", mark + "\n", mark + "abc\r", mark + mark + "\n", "\x82\xac\n", "\xbb\xbfa\n", "\xbf\n", "\xa9\n", "\x80\n", "\nb", ""} {
			s := made(t, 3)
			s.Write([]byte(ahead))
			wantReset(t, s)
			want, rest := byWords(3, []byte(b))
			wantWrite(t, s, b, want...)
			wantWaits(t, s, rest)
			wantReset(t, s)
			wantReset(t, s)
			for _, piece := range each(b, false) {
				s.Write(piece)
			}
			wantWaits(t, s, rest)
		}
	}
}

// P5.2: Copy is another one with the same, at each time; what comes to one does not come to the other.
func TestCopy(t *testing.T) {
	const ways = 4
	b := []string{"\n", "abc\n", "\xa9\x82\n\nabcd", mark + "\r\n"}
	for _, ahead := range []string{"", "a", "abc", "abcd", "a\n", "a\r", mark, mark + "a\r", "\xef\xbb", "a\xe2", "\xf0\x9f\x98", "abcd\xc3", "ab\ncd"} {
		for way := range ways * ways {
			first, second := b[way%ways], b[way/ways]
			s := made(t, 3)
			s.Write([]byte(ahead))
			c := s.Copy()
			if c == nil || c == s {
				t.Fatalf("Copy: %p of %p", c, s)
			}
			wantWaits(t, c, s.Waits())
			whole, rest := byWords(3, []byte(ahead+first))
			wholeC, restC := byWords(3, []byte(ahead+second))
			until, _ := byWords(3, []byte(ahead))
			wantWrite(t, s, first, whole[len(until):]...)
			wantWrite(t, c, second, wholeC[len(until):]...)
			wantWaits(t, s, rest)
			wantWaits(t, c, restC)
		}
	}
}

// P5.2: what waits in a copy, and in what it was made of, stands apart: neither is written over.
func TestCopyApart(t *testing.T) {
	for size := range 70 {
		s := made(t, 200)
		text := strings.Repeat("x", size)
		for _, piece := range each(text, false) {
			wantWrite(t, s, string(piece))
		}
		c := s.Copy()
		d := c.Copy()
		wantWrite(t, s, "1")
		wantWrite(t, c, "2")
		wantWrite(t, d, "3")
		wantWrite(t, s, "4")
		wantWaits(t, s, api.Line{Text: text + "14"})
		wantWaits(t, c, api.Line{Text: text + "2"})
		wantWaits(t, d, api.Line{Text: text + "3"})
		wantReset(t, c)
		wantWrite(t, s, "\r", told(text+"14")...)
		wantWrite(t, c, "\n", told("")...)
		wantWrite(t, d, "\n", told(text+"3")...)
		wantWrite(t, s, "\n")
	}
}

// some are bytes, and points' bytes, at which something begins or ends.
var some = []string{"\r", "\n", "a", "\xef", "\xbb", "\xbf", mark, "\xff"}

// P5.1, P5.2, P5.3: every row of some, cut into pieces at every choice of places, at small caps.
func TestEveryRow(t *testing.T) {
	for size := range 5 {
		count := int(math.Pow(float64(len(some)), float64(size)))
		for n := range count {
			var row [][]byte
			for range size {
				row, n = append(row, []byte(some[n%len(some)])), n/len(some)
			}
			for cuts := range 1 << max(size-1, 0) {
				var pieces [][]byte
				for at, part := range row {
					if at > 0 && cuts>>(at-1)&1 == 0 {
						pieces[len(pieces)-1] = slices.Concat(pieces[len(pieces)-1], part)
						continue
					}
					pieces = append(pieces, part)
				}
				wantPieces(t, 1+cuts%4, pieces...)
			}
		}
		if t.Failed() {
			t.FailNow()
		}
	}
}

// chance is a row of numbers that is the same each time.
type chance uint64

func (c *chance) below(n int) int {
	*c = *c*6364136223846793005 + 1442695040888963407
	return int(uint64(*c>>33) % uint64(n))
}

// piece is some bytes: ends, points' bytes, whole or cut short, texts, and any others.
func (c *chance) piece() []byte {
	switch c.below(7) {
	case 0:
		return []byte(some[c.below(len(some))])
	case 1:
		return []byte{byte(c.below(256))}
	case 2:
		return []byte([]string{"\r\n", "\n\r", "\r\r", "\n\n", "\r\n\r\n"}[c.below(5)])
	case 3:
		return []byte(strings.Repeat("x", c.below(12)))
	case 4:
		return nil
	case 5:
		return []byte([]string{"\r", "\n"}[c.below(2)])
	}
	b := []byte(string(rune([]int{c.below(0x80), c.below(0x800), c.below(0x10000), c.below(0x110000)}[c.below(4)])))
	return b[:len(b)-c.below(2)*c.below(len(b))]
}

// P5.1, P5.2, P5.3: long rows of bytes, in whatever pieces.
func TestManyPieces(t *testing.T) {
	for seed := range 400 {
		c := chance(seed)
		most := 1 + c.below(20)
		var pieces [][]byte
		for range c.below(40) {
			pieces = append(pieces, c.piece())
		}
		whole := slices.Concat(pieces...)
		wantPieces(t, most, pieces...)
		wantPieces(t, most, whole)
		for size := 1; size <= 5; size++ {
			wantPieces(t, most, slices.Collect(slices.Chunk(whole, size))...)
		}
		if t.Failed() {
			t.FailNow()
		}
	}
}

// P5.3: much that comes at once, with an end, a point or a line's last byte at any place near to a power of two.
func TestMuchAtOnce(t *testing.T) {
	for _, place := range []int{255, 511, 1023, 2047, 4095, 8191, 16383, 65535} {
		for off := -4; off <= 2; off++ {
			ahead := strings.Repeat("x", place+off)
			for _, b := range []string{"\r\ny\n", "\r\r\ny\n", "\n\ny\n", "\u20acy\r", "\U0001f600\r\n", "\xf0\x9f\x98\n\n", mark + "\n", "\r" + mark + "\n"} {
				for _, most := range []int{place, 65536} {
					whole := []byte(ahead + b)
					want, rest := byWords(min(most, 65536), whole)
					wantAll(t, min(most, 65536), string(whole), rest, want...)
				}
			}
		}
		if t.Failed() {
			t.FailNow()
		}
	}
}

// P5.3: many lines that come at once, and the same bit by bit.
func TestMuch(t *testing.T) {
	part := mark + "a\r\n\u00e9\xff\n\n" + strings.Repeat("y", 99) + "\r" + strings.Repeat("z", 100) + "\r\n\r\u20ac\xe2\x82\n"
	whole := []byte(strings.Repeat(part, 3000))
	want, rest := byWords(99, whole)
	wantAll(t, 99, string(whole), rest, want...)
	for _, size := range []int{1, 7, 4095, 4096, 4097, 100000} {
		s := made(t, 99)
		var l []api.Line
		for piece := range slices.Chunk(whole, size) {
			more, _ := s.Write(piece)
			l = append(l, more...)
		}
		if !slices.Equal(l, want) || s.Waits() != rest {
			t.Errorf("pieces of %d: %s, waits %s; want %s, %s", size, shown(l...), shown(s.Waits()), shown(want...), shown(rest))
		}
	}
}

// kept is how much memory is, when all that is not needed has gone.
func kept() int {
	var m runtime.MemStats
	runtime.GC()
	runtime.ReadMemStats(&m)
	return int(m.HeapAlloc)
}

// P5.3, P0.3: of a line that is too long no more is kept than a line may have, nor of a text of which a short line is told.
func TestKept(t *testing.T) {
	const much, bound = 1 << 24, 1 << 22
	before := kept()
	s := made(t, api.MaxLine)
	piece := []byte(strings.Repeat("x", 1<<16))
	for range much / len(piece) {
		wantWrite(t, s, string(piece))
	}
	l, _ := lines.Of(api.MaxLine, []byte(strings.Repeat("x", much)+"\na\n"))
	if after := kept(); after-before > bound {
		t.Errorf("%d bytes are kept of %d", after-before, much)
	}
	wantWaits(t, s, long)
	if !slices.Equal(l, []api.Line{long, {Text: "a"}}) {
		t.Errorf("Of of much: %v", l)
	}
	runtime.KeepAlive(piece)
}

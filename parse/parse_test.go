package parse_test

import (
	"fmt"
	"iter"
	"math"
	"math/big"
	"regexp"
	"slices"
	"strings"
	"testing"

	"bellman/api"
	"bellman/event"
	"bellman/parse"
	"bellman/utf"
)

// most is the greatest cap that may be, of a line and of an event.
const most = 65536

// mark is the point that is left out ahead of the first line.
const mark = "\ufeff"

// long is that an event is too long.
var long = api.Said{Kind: api.SaidLong}

// one is that an event is said.
func one(id, kind, data string) api.Said {
	return api.Said{Kind: api.SaidEvent, Event: api.Event{Id: id, Type: kind, Data: data}}
}

// retry is that a number is said.
func retry(n uint64) api.Said { return api.Said{Kind: api.SaidRetry, Retry: n} }

// all is what is said, as a list.
func all(l ...api.Said) []api.Said { return l }

// shown is what is said as a message shows it: no more of it than is read.
func shown(l ...api.Said) string {
	var texts []string
	for _, s := range l[:min(len(l), 20)] {
		texts = append(texts, fmt.Sprintf("%d (%.40q, %.40q, %.40q) %d", int(s.Kind), s.Event.Id, s.Event.Type, s.Event.Data, s.Retry))
	}
	return fmt.Sprintf("%d: %s", len(l), strings.Join(texts, "; "))
}

// caps are those of a parser.
type caps struct{ line, event int }

// model is a parser by the chapter's words, to which whole lines come.
type model struct {
	caps
	lastId, kind string
	data         []byte
	had, long    bool
	told         []api.Said
}

// digits are those of a number.
var digits = regexp.MustCompile(`\A[0-9]+\z`)

// modelOf is a model to which bytes came, with a last id from its beginning on.
func modelOf(c caps, id string, b []byte) *model {
	m := &model{caps: c, lastId: id}
	text, _ := utf.New().Write(b)
	text = strings.NewReplacer("\r\n", "\n", "\r", "\n").Replace(strings.TrimPrefix(text, mark))
	lines := strings.Split(text, "\n")
	for _, line := range lines[:len(lines)-1] {
		m.hear(line)
	}
	return m
}

// waits is how many bytes of the event under way wait.
func (m *model) waits() int { return len(m.kind) + len(m.data) }

// hear lets a line come.
func (m *model) hear(line string) {
	if len(line) > m.line {
		m.long = true
		return
	}
	if line == "" {
		m.end()
		return
	}
	name, value, _ := strings.Cut(line, ":")
	value = strings.TrimPrefix(value, " ")
	n, _ := new(big.Int).SetString(value, 10)
	switch {
	case name == "data" && !m.long && len(m.data) > m.event+1:
		m.long = true
	case name == "data" && !m.long:
		m.data, m.had = append(m.data, value+"\n"...), true
	case name == "event":
		m.kind = value
	case name == "id" && !strings.Contains(value, "\x00"):
		m.lastId = value
	case name == "retry" && digits.MatchString(value) && n.IsUint64():
		m.told = append(m.told, retry(n.Uint64()))
	}
}

// end lets an empty line come.
func (m *model) end() {
	data := strings.TrimSuffix(string(m.data), "\n")
	if m.long || len(m.lastId+m.kind+data) > m.event {
		m.told = append(m.told, long)
	} else if m.had {
		m.told = append(m.told, one(m.lastId, m.kind, data))
	}
	m.kind, m.data, m.had, m.long = "", nil, false, false
}

// made is a new parser that must be there.
func made(t *testing.T, c caps) *parse.Parser {
	t.Helper()
	p, e := parse.New(c.line, c.event)
	if e != api.OK || p == nil {
		t.Fatalf("New(%d, %d): %v, errno %d", c.line, c.event, p, int(e))
	}
	return p
}

// nones are what is no parser: none at all, and one that New did not make.
func nones() []*parse.Parser { return []*parse.Parser{nil, {}, new(parse.Parser)} }

// gone goes over at most so much of what is said, leaves then, and is what it went over; numbers must go from 0 on.
func gone(t *testing.T, seq iter.Seq2[int, api.Said], most int) []api.Said {
	t.Helper()
	var l []api.Said
	if most == 0 {
		return l
	}
	for number, said := range seq {
		if number != len(l) {
			t.Errorf("Each: number %d behind %d others", number, len(l))
		}
		l = append(l, said)
		if len(l) == most {
			break
		}
	}
	return l
}

// wantWrite lets bytes come; want is what should be said.
func wantWrite(t *testing.T, p *parse.Parser, b string, want ...api.Said) {
	t.Helper()
	if got, e := p.Write([]byte(b)); !slices.Equal(got, want) || e != api.OK {
		t.Errorf("Write(%.60q): %s, errno %d; want %s", b, shown(got...), int(e), shown(want...))
	}
}

// wantAt holds what a parser tells of itself.
func wantAt(t *testing.T, p *parse.Parser, id string, waits int) {
	t.Helper()
	if got := p.LastId(); got != id {
		t.Errorf("LastId: %.60q; want %.60q", got, id)
	}
	if got := p.Waits(); got != waits {
		t.Errorf("Waits: %d; want %d", got, waits)
	}
}

func wantReset(t *testing.T, p *parse.Parser, id string) {
	t.Helper()
	if e := p.Reset(id); e != api.OK {
		t.Errorf("Reset(%.60q): errno %d", id, int(e))
	}
	wantAt(t, p, id, 0)
}

// wantOf holds all that is told of bytes that come at once.
func wantOf(t *testing.T, c caps, b string, want ...api.Said) {
	t.Helper()
	if got, e := parse.Of(c.line, c.event, []byte(b)); !slices.Equal(got, want) || e != api.OK {
		t.Errorf("Of(%v, %.90q): %s, errno %d; want %s", c, b, shown(got...), int(e), shown(want...))
	}
	if got := gone(t, parse.Each(c.line, c.event, []byte(b)), math.MaxInt); !slices.Equal(got, want) {
		t.Errorf("Each(%v, %.90q): %s; want %s", c, b, shown(got...), shown(want...))
	}
	p := made(t, c)
	wantWrite(t, p, b, want...)
	m := modelOf(c, "", []byte(b))
	wantAt(t, p, m.lastId, m.waits())
	wantSayable(t, c, p, want...)
}

// wantSayable holds that what was said may be, and that no more waits than may wait.
func wantSayable(t *testing.T, c caps, p *parse.Parser, said ...api.Said) {
	t.Helper()
	if waits := p.Waits(); waits > c.event+2*c.line+2 {
		t.Errorf("Waits of %v: %d", c, waits)
	}
	for _, s := range said {
		e := s.Event
		if event.Check(e) != api.OK || len(e.Id)+len(e.Type)+len(e.Data) > c.event {
			t.Errorf("of %v an event is said that may not be: %s", c, shown(s))
		}
	}
}

// wantPieces lets pieces come, and holds what is said by then, the last id and what waits, at each time.
func wantPieces(t *testing.T, c caps, pieces ...string) {
	t.Helper()
	p := made(t, c)
	var came []byte
	var said []api.Said
	for _, piece := range pieces {
		l, e := p.Write([]byte(piece))
		came, said = append(came, piece...), append(said, l...)
		m := modelOf(c, "", came)
		if e != api.OK || !slices.Equal(said, m.told) {
			t.Errorf("%v, Write of %.300q: %s, errno %d; want %s", c, pieces, shown(said...), int(e), shown(m.told...))
		}
		wantAt(t, p, m.lastId, m.waits())
		wantSayable(t, c, p, l...)
	}
}

// bytewise is a text in pieces of one byte, with others that are empty between them.
func bytewise(b string) []string {
	l := []string{""}
	for i := range len(b) {
		l = append(l, b[i:i+1], "")
	}
	return l
}

// stream is bytes, and what they say.
type stream struct {
	caps
	b    string
	said []api.Said
	// What is so when they came.
	id    string
	waits int
}

// wantStreams holds all that is told of streams: at once, and cut at each place, and byte by byte.
func wantStreams(t *testing.T, l ...stream) {
	t.Helper()
	for _, s := range l {
		wantOf(t, s.caps, s.b, s.said...)
		p := made(t, s.caps)
		p.Write([]byte(s.b))
		wantAt(t, p, s.id, s.waits)
		wantPieces(t, s.caps, bytewise(s.b)...)
		for at := range len(s.b) + 1 {
			wantPieces(t, s.caps, s.b[:at], s.b[at:])
		}
		if t.Failed() {
			t.Fatalf("of %v, %.300q", s.caps, s.b)
		}
	}
}

// wide are caps in which all is that is short.
var wide = caps{99, 99}

// P8.1, P8.2: the chapter's examples.
func TestExamples(t *testing.T) {
	wantOf(t, wide, "id: 1\ndata: a\ndata: b\n\ndata\n\nevent: t\n\nretry: 5\n", one("1", "", "a\nb"), one("1", "", ""), retry(5))
	wantOf(t, caps{99, 2}, "data: abc\n\ndata: a\n\n", long, one("", "", "a"))
	p := made(t, wide)
	wantWrite(t, p, "data: x\n")
	wantWrite(t, p, "\n", one("", "", "x"))
	wantAt(t, p, "", 0)
	wantReset(t, p, "7")
	wantWrite(t, p, "data\n\n", one("7", "", ""))
}

// P8.1: caps that may be.
func TestCaps(t *testing.T) {
	if api.MaxLine != most || api.MaxEvent != most {
		t.Errorf("MaxLine %d, MaxEvent %d", api.MaxLine, api.MaxEvent)
	}
	may := []int{1, 2, 5, 99, 4095, 4096, 4097, most - 1, most}
	for _, line := range may {
		for _, event := range may {
			p := made(t, caps{line, event})
			wantAt(t, p, "", 0)
			wantWrite(t, p, "\n\n")
			want := all(long)
			if line >= len("data:") {
				want = all(one("", "", ""))
			}
			wantOf(t, caps{line, event}, "data:\n\n", want...)
		}
	}
}

// P8.1: caps that may not be, each of the two: there is no parser, and nothing is told.
func TestCapsRefused(t *testing.T) {
	var refused []caps
	for _, bad := range []int{math.MinInt, math.MinInt32, -most, -2, -1, 0, most + 1, most + 2, 1 << 17, math.MaxInt32, 1 << 32, 1<<32 + 1, math.MaxInt} {
		refused = append(refused, caps{bad, bad})
		for _, good := range []int{1, 99, most} {
			refused = append(refused, caps{bad, good}, caps{good, bad})
		}
	}
	for _, c := range refused {
		if p, e := parse.New(c.line, c.event); p != nil || e != api.ErrArg {
			t.Errorf("New(%v): %v, errno %d", c, p, int(e))
		}
		for _, b := range []string{"", "\n", "data\n\n", "retry: 5\n"} {
			if l, e := parse.Of(c.line, c.event, []byte(b)); l != nil || e != api.ErrArg {
				t.Errorf("Of(%v, %q): %s, errno %d", c, b, shown(l...), int(e))
			}
			seq := parse.Each(c.line, c.event, []byte(b))
			if seq == nil {
				t.Fatalf("Each(%v, %q): none", c, b)
			}
			for range 2 {
				if l := gone(t, seq, math.MaxInt); l != nil {
					t.Errorf("Each(%v, %q): %s", c, b, shown(l...))
				}
			}
		}
	}
}

// P8.1, P8.3: the least caps.
func TestCapsLeast(t *testing.T) {
	least := caps{1, 1}
	wantStreams(t,
		stream{least, "", nil, "", 0},
		stream{least, "\n\r\r\n", nil, "", 0},
		stream{least, "a\n\n:\n\n", nil, "", 0},
		stream{least, "ab\n\n", all(long), "", 0},
		stream{least, "id\n\na\n\n", all(long), "", 0},
		stream{least, "data\n", nil, "", 0},
		stream{least, mark + "a\n\n", nil, "", 0},
		stream{caps{4, 1}, "data\n\nid:1\n\ndata\n\n", all(one("", "", ""), one("1", "", "")), "1", 0},
		stream{caps{4, 1}, "data:\n\ndata\ndata\n\n", all(long, one("", "", "\n")), "", 0},
		stream{caps{99, 1}, "data:a\n\ndata:ab\n\n", all(one("", "", "a"), long), "", 0},
		stream{caps{99, 1}, "event:a\ndata\n\nevent:a\ndata:b\n\n", all(one("", "a", ""), long), "", 0},
		stream{caps{99, 1}, "id:1\ndata\n\ndata:a\n\nid\ndata:a\n\n", all(one("1", "", ""), long, one("", "", "a")), "", 0},
	)
}

// P8.1, P8.2: what ends with no line says nothing, however much of it came.
func TestUnended(t *testing.T) {
	for _, b := range []string{"", "d", "data", "data: a", "retry: 5", "id: 1", "event: t", ": c", mark, mark + "data: a", "\xe2\x82", "data: \xf0\x9f"} {
		wantStreams(t,
			stream{wide, b, nil, "", 0},
			stream{wide, "id: 0\nevent: ab\ndata: c\n" + b, nil, "0", 4},
			stream{wide, "data: x\n\n" + b, all(one("", "", "x")), "", 0},
		)
	}
}

// P8.1, P8.2: pieces without a byte, at each time, say and change nothing.
func TestNoBytes(t *testing.T) {
	for _, b := range [][]byte{nil, {}, make([]byte, 0, 9)} {
		if l, e := parse.Of(9, 9, b); l != nil || e != api.OK {
			t.Errorf("Of of no bytes: %s, errno %d", shown(l...), int(e))
		}
		if l := gone(t, parse.Each(9, 9, b), math.MaxInt); l != nil {
			t.Errorf("Each of no bytes: %s", shown(l...))
		}
		p := made(t, wide)
		for _, c := range []struct {
			b     string
			said  []api.Said
			waits int
		}{
			{"\xef\xbb", nil, 0}, {"\xbfdata: ", nil, 0}, {"a\xe2", nil, 0}, {"\x82\xac\r", nil, 5}, {"\nevent", nil, 5},
			{": t\r", nil, 6}, {"\r", all(one("", "t", "a\u20ac")), 0}, {"\n\r\n", nil, 0},
		} {
			wantWrite(t, p, c.b, c.said...)
			for range 3 {
				if l, e := p.Write(b); l != nil || e != api.OK {
					t.Errorf("Write of no bytes: %s, errno %d", shown(l...), int(e))
				}
				wantAt(t, p, "", c.waits)
			}
		}
	}
}

// P8.1: each end of a line ends it, and a CR and a LF are one end.
func TestEnds(t *testing.T) {
	for _, end := range []string{"\n", "\r", "\r\n"} {
		b := strings.ReplaceAll("id: 1|event: t|data: a|data|retry: 5|:|data: b||data||", "|", end)
		wantStreams(t, stream{wide, b, all(retry(5), one("1", "t", "a\n\nb"), one("1", "", "")), "1", 0})
	}
	wantStreams(t,
		stream{wide, "data: a\r\n\r\ndata: b\r\r\ndata: c\n\r\n", all(one("", "", "a"), one("", "", "b"), one("", "", "c")), "", 0},
		stream{wide, "data: a\n\rdata: b\r\ndata: c\r\r", all(one("", "", "a"), one("", "", "b\nc")), "", 0},
	)
}

// P8.1: a CR at a piece's end says its line at once; a LF that comes next is part of the same end.
func TestEndsCut(t *testing.T) {
	p := made(t, wide)
	wantWrite(t, p, "data: a\r")
	wantAt(t, p, "", 2)
	wantWrite(t, p, "\n")
	wantAt(t, p, "", 2)
	wantWrite(t, p, "\r", one("", "", "a"))
	wantWrite(t, p, "\n")
	wantWrite(t, p, "data: b\r\n\r", one("", "", "b"))
	wantWrite(t, p, "\ndata\r")
	wantWrite(t, p, "")
	wantWrite(t, p, "\n")
	wantWrite(t, p, "\n", one("", "", ""))
	wantWrite(t, p, "retry: 7\r", retry(7))
	wantWrite(t, p, "\nretry: 8\r", retry(8))
	wantWrite(t, p, "\r\ndata: c\n\n", one("", "", "c"))
}

// P8.1, P8.3: a mark ahead of the first line says nothing; elsewhere it is part of its line.
func TestMark(t *testing.T) {
	wantStreams(t,
		stream{wide, mark + "data: a\n\n", all(one("", "", "a")), "", 0},
		stream{wide, mark + "id: 1\ndata\n\n", all(one("1", "", "")), "1", 0},
		stream{wide, mark + "retry: 5\n", all(retry(5)), "", 0},
		stream{wide, mark + "\ndata: a\n\n", all(one("", "", "a")), "", 0},
		stream{caps{7, 9}, mark + "data: a\n\n", all(one("", "", "a")), "", 0},
		stream{wide, mark + mark + "data: a\n\n", nil, "", 0},
		stream{wide, "\n" + mark + "data: a\n\n", nil, "", 0},
		stream{wide, "data: b\n" + mark + "data: a\n\n", all(one("", "", "b")), "", 0},
		stream{wide, "data: " + mark + "a\n\n", all(one("", "", mark+"a")), "", 0},
		stream{wide, "id:" + mark + "\nevent:" + mark + "\ndata:" + mark + "\n\n", all(one(mark, mark, mark)), mark, 0},
	)
}

// P8.1: a field's name is just that; what has another one does nothing.
func TestNames(t *testing.T) {
	for _, line := range []string{
		"x", "x: y", "Data: x", "DATA: x", " data: x", "data : x", "datax: x", "dat: x", "data\t: x", "\x00data: x", "dat\xc3\xa1: x", "d\xffata: x",
		"Id: 2", "ID: 2", "ids: 2", "i: 2", "Event: u", "events: u", "even: u", "Retry: 5", "retry : 5", "retr: 5", "retrys: 5", "lastEventId: 2",
		":", ": c", "::", ":data: x", ":id: 2", ": retry: 5", ":event: u", " ", "\t", "end", "comment: x",
	} {
		wantStreams(t, stream{wide, line + "\nid: 1\n" + line + "\nevent: t\n" + line + "\ndata: a\n" + line + "\ndata: b\n" + line + "\n\n" + line + "\n\n", all(one("1", "t", "a\nb")), "1", 0})
	}
}

// P8.1: what a value is: one blank ahead of it is left out, and no more.
func TestValues(t *testing.T) {
	for _, c := range []struct{ behind, value string }{
		{"", ""}, {":", ""}, {": ", ""}, {":  ", " "}, {":x", "x"}, {": x", "x"}, {":  x ", " x "}, {":\tx", "\tx"}, {"::", ":"}, {": :x: ", ":x: "},
		{":data: x", "data: x"}, {": \u00a0", "\u00a0"}, {": \u2028\x0b\x0c\u0085", "\u2028\x0b\x0c\u0085"}, {": \u20ac\U0001f600", "\u20ac\U0001f600"}, {": {\"a\": [1]}", "{\"a\": [1]}"},
	} {
		wantStreams(t, stream{wide, "id" + c.behind + "\nevent" + c.behind + "\ndata" + c.behind + "\ndata" + c.behind + "\n\n", all(one(c.value, c.value, c.value+"\n"+c.value)), c.value, 0})
	}
	// A byte 0 may be in a Type and in Data.
	wantStreams(t, stream{wide, "event: \x00t\ndata: a\x00\n\n", all(one("", "\x00t", "a\x00")), "", 0})
}

// P8.1: Data that is empty is an event's, too; without a FieldData there is none.
func TestData(t *testing.T) {
	wantStreams(t,
		stream{wide, "data\n\n", all(one("", "", "")), "", 0},
		stream{wide, "data:\n\n", all(one("", "", "")), "", 0},
		stream{wide, "data: \n\n", all(one("", "", "")), "", 0},
		stream{wide, "data\ndata\n\n", all(one("", "", "\n")), "", 0},
		stream{wide, "data\ndata:\ndata: \n\n", all(one("", "", "\n\n")), "", 0},
		stream{wide, "data\ndata: a\n\n", all(one("", "", "\na")), "", 0},
		stream{wide, "data: a\ndata\n\n", all(one("", "", "a\n")), "", 0},
		stream{wide, "data: a\nevent: t\ndata: b\nid: 1\ndata: c\n\n", all(one("1", "t", "a\nb\nc")), "1", 0},
		stream{wide, "data: a\n\n\n\ndata: b\n\n", all(one("", "", "a"), one("", "", "b")), "", 0},
		stream{wide, "data: a\n", nil, "", 2},
		stream{wide, "\n", nil, "", 0},
		stream{wide, "\n\n\n", nil, "", 0},
		stream{wide, "id: 1\n\n", nil, "1", 0},
		stream{wide, ": c\n\n", nil, "", 0},
		stream{wide, "retry: 5\n\n", all(retry(5)), "", 0},
	)
}

// P8.1: the Type is the last one that is told, and of its event alone.
func TestType(t *testing.T) {
	wantStreams(t,
		stream{wide, "event: t\n\n", nil, "", 0},
		stream{wide, "event: t\n\ndata: a\n\n", all(one("", "", "a")), "", 0},
		stream{wide, "event: t\ndata: a\n\ndata: b\n\n", all(one("", "t", "a"), one("", "", "b")), "", 0},
		stream{wide, "event: t\nevent: u\ndata: a\n\n", all(one("", "u", "a")), "", 0},
		stream{wide, "event: t\ndata: a\nevent: u\n\n", all(one("", "u", "a")), "", 0},
		stream{wide, "event: long\nevent: u\n", nil, "", 1},
		stream{wide, "event: t\nevent\ndata: a\n\n", all(one("", "", "a")), "", 0},
		stream{wide, "event: t\nevent:\ndata: a\n\n", all(one("", "", "a")), "", 0},
		stream{wide, "data: a\nevent: t\n\n", all(one("", "t", "a")), "", 0},
		// The reserved one, too: what becomes of it is not told here.
		stream{wide, "event: stream-reset\ndata: 1 0\n\n", all(one("", "stream-reset", "1 0")), "", 0},
	)
}

// P8.1, P8.2: the last id stays till another one is told, whatever becomes of the event in which it is.
func TestIds(t *testing.T) {
	tight := caps{99, 3}
	wantStreams(t,
		stream{wide, "id: 1\ndata: a\n\ndata: b\n\n", all(one("1", "", "a"), one("1", "", "b")), "1", 0},
		stream{wide, "data: a\nid: 1\n\n", all(one("1", "", "a")), "1", 0},
		stream{wide, "id: 1\nid: 2\ndata: a\n\n", all(one("2", "", "a")), "2", 0},
		stream{wide, "id: 1\ndata: a\n\nid\ndata: b\n\n", all(one("1", "", "a"), one("", "", "b")), "", 0},
		stream{wide, "id: 1\ndata: a\n\nid:\ndata: b\n\n", all(one("1", "", "a"), one("", "", "b")), "", 0},
		stream{wide, "id: 1\n\nid: \n\ndata: b\n\n", all(one("", "", "b")), "", 0},
		stream{wide, "id: 1\n\ndata: a\n\n", all(one("1", "", "a")), "1", 0},
		stream{wide, "id: 1\ndata: a\n\nid: 2\n", all(one("1", "", "a")), "2", 0},
		stream{wide, "id: 1\n", nil, "1", 0},
		stream{wide, "id: 1", nil, "", 0},
		// A byte 0, and the id does not count.
		stream{wide, "id: \x00\ndata: a\n\n", all(one("", "", "a")), "", 0},
		stream{wide, "id: 1\nid: \x00\nid: 2\x00\nid: \x003\nid:4\x005\ndata: a\n\n", all(one("1", "", "a")), "1", 0},
		stream{wide, "id: 1\ndata: a\n\nid: 2\x00\n\ndata: b\n\n", all(one("1", "", "a"), one("1", "", "b")), "1", 0},
		// In an event that is too long.
		stream{tight, "id: 1\ndata: abcd\n\ndata: b\n\n", all(long, one("1", "", "b")), "1", 0},
		stream{tight, "data: abcd\ndata\nid: 1\n\ndata: b\n\n", all(long, one("1", "", "b")), "1", 0},
		stream{caps{9, 9}, "0123456789\nid: 1\n\ndata: b\n\n", all(long, one("1", "", "b")), "1", 0},
		stream{tight, "id: 1\ndata: abcd\ndata\ndata\nid: 2\x00\nid\n\ndata: b\n\n", all(long, one("", "", "b")), "", 0},
	)
}

// P8.1: a retry is said at once, in the midst of an event too, if it is a number.
func TestRetries(t *testing.T) {
	wantStreams(t,
		stream{wide, "data: a\nretry: 5\ndata: b\n\n", all(retry(5), one("", "", "a\nb")), "", 0},
		stream{wide, "id: 1\nevent: t\ndata: a\nretry: 5\n", all(retry(5)), "1", 3},
		stream{wide, "retry: 1\nretry: 2\n\nretry: 2\n", all(retry(1), retry(2), retry(2)), "", 0},
		stream{caps{99, 1}, "data: abcd\ndata\nretry: 5\n\n", all(retry(5), long), "", 0},
		stream{caps{9, 9}, "0123456789\nretry: 5\n\n", all(retry(5), long), "", 0},
	)
	for _, c := range []struct {
		text string
		said []api.Said
	}{
		{"0", all(retry(0))}, {"00", all(retry(0))}, {"010", all(retry(10))}, {"1000", all(retry(1000))},
		{"4294967295", all(retry(1<<32 - 1))}, {"4294967296", all(retry(1 << 32))}, {"9223372036854775808", all(retry(1 << 63))},
		{"18446744073709551615", all(retry(math.MaxUint64))}, {"00018446744073709551615", all(retry(math.MaxUint64))},
		{"18446744073709551616", nil}, {"18446744073709551617", nil}, {"20000000000000000000", nil}, {"99999999999999999999999999", nil},
		{"", nil}, {" ", nil}, {" 5", nil}, {"5 ", nil}, {"-1", nil}, {"+5", nil}, {"5.0", nil}, {"5x", nil}, {"x5", nil}, {"0x5", nil}, {"5e3", nil}, {"1_0", nil}, {"5\x00", nil}, {"\u0665", nil}, {"\uff15", nil}, {"five", nil},
	} {
		wantStreams(t, stream{wide, "retry: " + c.text + "\n", c.said, "", 0})
		wantStreams(t, stream{wide, "data: a\nretry: " + c.text + "\n\n", append(slices.Clone(c.said), one("", "", "a")), "", 0})
	}
	wantOf(t, wide, "retry\n")
	wantOf(t, wide, "retry:5\nretry:\n", retry(5))
}

// P8.1, P8.3: a line as long as the cap says what it does; one byte more, and it says nothing, and its event is too long.
func TestLinesMost(t *testing.T) {
	for _, c := range []struct {
		line string
		said []api.Said
		id   string
	}{
		{"data: xyz", all(one("0", "", "xyz\na")), "0"},
		{"data:  xy", all(one("0", "", " xy\na")), "0"},
		{"data:xyzu", all(one("0", "", "xyzu\na")), "0"},
		{"event: xy", all(one("0", "xy", "a")), "0"},
		{"id: vwxyz", all(one("vwxyz", "", "a")), "vwxyz"},
		{"id:      ", all(one("     ", "", "a")), "     "},
		{"retry: 12", all(retry(12), one("0", "", "a")), "0"},
		{"retry: no", all(one("0", "", "a")), "0"},
		{"id: vw\x00yz", all(one("0", "", "a")), "0"},
		{": comment", all(one("0", "", "a")), "0"},
		{":::::::::", all(one("0", "", "a")), "0"},
		{"other: no", all(one("0", "", "a")), "0"},
		{"nocolon..", all(one("0", "", "a")), "0"},
		{"data: \u20ac", all(one("0", "", "\u20ac\na")), "0"},
		{"data: \xff", all(one("0", "", "\ufffd\na")), "0"},
	} {
		size := len(strings.ToValidUTF8(c.line, "\ufffd"))
		b := "id: 0\n" + c.line + "\ndata: a\n\ndata: b\n\n"
		within, beyond := all(one(c.id, "", "b")), all(long, one("0", "", "b"))
		wantStreams(t,
			stream{caps{size, 99}, b, append(slices.Clone(c.said), within...), c.id, 0},
			stream{caps{size - 1, 99}, b, beyond, "0", 0},
			stream{caps{size, 99}, strings.ReplaceAll(b, "\n", "\r\n"), append(slices.Clone(c.said), within...), c.id, 0},
			stream{caps{size - 1, 99}, strings.ReplaceAll(b, "\n", "\r\n"), beyond, "0", 0},
		)
	}
}

// P8.1, P8.3: the same at the greatest cap, in few pieces.
func TestLinesGreatest(t *testing.T) {
	c := caps{most, most}
	for _, over := range []int{-1, 0, 1, 2} {
		for _, name := range []string{"data", "event", "id", "retry", "", "other"} {
			line := name + ":" + strings.Repeat("0", most+over-len(name)-1)
			b := line + "\ndata:b\n\ndata:c\n\n"
			m := modelOf(c, "", []byte(b))
			if isLong := m.told[len(m.told)-2] == long; over > 0 && !isLong {
				t.Fatalf("the model says of a long line: %s", shown(m.told...))
			}
			wantOf(t, c, b, m.told...)
			wantPieces(t, c, b[:most-3], b[most-3:most], b[most:most+1], b[most+1:])
			wantPieces(t, c, slices.Collect(chunks(b, 4095))...)
		}
	}
}

// chunks goes over a text in pieces of so many bytes.
func chunks(b string, size int) iter.Seq[string] {
	return func(yield func(string) bool) {
		for len(b) > 0 {
			n := min(size, len(b))
			if !yield(b[:n]) {
				return
			}
			b = b[n:]
		}
	}
}

// parted is a text of so many bytes, in parts of so many, with LFs between them.
func parted(size, part int) string {
	return strings.Repeat(strings.Repeat("x", part)+"\n", size/(part+1)+1)[:size]
}

// dataLines are the lines that say Data.
func dataLines(data string) string { return "data:" + strings.ReplaceAll(data, "\n", "\ndata:") + "\n" }

// P8.1, P8.3: Data of as many bytes as the event's cap, of one and of two more, in one line and in several.
func TestDataMost(t *testing.T) {
	for _, size := range []int{1, 2, 3, 4, 7, 20} {
		for over := -1; over <= 3; over++ {
			for _, part := range []int{0, 1, 2, 3, size, size + 1, 99} {
				data, want := parted(size+over, part), long
				if over <= 0 {
					want = one("", "", data)
				}
				wantStreams(t, stream{caps{99, size}, dataLines(data) + "\ndata:y\n\n", all(want, one("", "", "y")), "", 0})
			}
		}
	}
}

// P8.1, P8.3: the same at great caps, up to the greatest.
func TestDataGreatest(t *testing.T) {
	for _, size := range []int{4096, most - 1, most} {
		for over := range 3 {
			for _, part := range []int{10, 100, 4000, size/2 + 1} {
				data, want := parted(size+over, part), long
				if over == 0 {
					want = one("", "", data)
				}
				wantOf(t, caps{most, size}, dataLines(data)+"\ndata:y\n\n", want, one("", "", "y"))
				wantOf(t, caps{most, size}, "event:t\n"+dataLines(data)+"event\n\ndata:y\n\n", want, one("", "", "y"))
			}
		}
	}
	// In one line, of as many bytes as a line has.
	value := strings.Repeat("x", most-len("data:"))
	wantOf(t, caps{most, len(value)}, "data:"+value+"\n\n", one("", "", value))
	wantOf(t, caps{most, len(value) - 1}, "data:"+value+"\n\n", long)
	wantOf(t, caps{most, len(value) - 2}, "data:"+value+"\n\n", long)
}

// P8.1: Id, Type and Data are counted together, the Id of an event ahead too.
func TestTogether(t *testing.T) {
	for _, c := range []struct {
		b    string
		size int
		e    api.Said
	}{
		{"id: 1\nevent: t\ndata: a\n\n", 3, one("1", "t", "a")},
		{"data: abc\nevent: tu\nid: 12\n\n", 7, one("12", "tu", "abc")},
		{"id: 12\nevent: tu\ndata: a\ndata: b\n\n", 7, one("12", "tu", "a\nb")},
		{"id: 12\n\nevent: tu\ndata: ab\n\n", 6, one("12", "tu", "ab")},
		{"id: 12\n\ndata: ab\n\n", 4, one("12", "", "ab")},
		{"id: 12\n\n\n\nevent: tu\ndata\n\n", 4, one("12", "tu", "")},
		{"id: 12\n\ndata\ndata\n\n", 3, one("12", "", "\n")},
		{"event: tuv\ndata\n\n", 3, one("", "tuv", "")},
		{"event: \u20ac\nid: \u20ac\ndata: \u20ac\n\n", 9, one("\u20ac", "\u20ac", "\u20ac")},
		{"event: \xff\nid: \xff\ndata: \xff\n\n", 9, one("\ufffd", "\ufffd", "\ufffd")},
		// What was told of the Type, and of the Id, and is not any more, does not count.
		{"id: 12345\nid: 1\nevent: tuvw\nevent\ndata: ab\n\n", 3, one("1", "", "ab")},
	} {
		wantStreams(t,
			stream{caps{99, c.size}, c.b, all(c.e), c.e.Event.Id, 0},
			stream{caps{99, c.size - 1}, c.b, all(long), c.e.Event.Id, 0},
		)
	}
	// The event ahead is within the cap, the next one is not, as it has its Id.
	wantStreams(t,
		stream{caps{99, 6}, "id: 12\ndata: a\n\nevent: t\ndata: bcd\n\n", all(one("12", "", "a"), one("12", "t", "bcd")), "12", 0},
		stream{caps{99, 5}, "id: 12\ndata: a\n\nevent: t\ndata: bcd\n\n", all(one("12", "", "a"), long), "12", 0},
		stream{caps{99, 5}, "id: 12\ndata: a\n\nevent: t\nid\ndata: bcd\n\n", all(one("12", "", "a"), one("", "t", "bcd")), "", 0},
	)
}

// P8.1: a FieldEnd without Data says that the event is too long, if it is.
func TestLongWithoutData(t *testing.T) {
	wantStreams(t,
		stream{caps{99, 2}, "event: tu\n\nevent: tuv\n\ndata: a\n\n", all(long, one("", "", "a")), "", 0},
		stream{caps{99, 2}, "id: 12\n\nid: 123\n\n\n", all(long, long), "123", 0},
		stream{caps{99, 2}, "id: 123\n\nid\n\n\n", all(long), "", 0},
		stream{caps{99, 2}, "id: 1\nevent: tu\n\n\n", all(long), "1", 0},
		stream{caps{9, 9}, "0123456789\n\n\n", all(long), "", 0},
		stream{caps{9, 9}, "0123456789", nil, "", 0},
	)
}

// P8.1, P8.2: an event that is too long takes no Data any more, and the next one is as if it had not been.
func TestLong(t *testing.T) {
	wantStreams(t,
		stream{caps{99, 2}, "event: t\ndata: abc\n\ndata: a\n\n", all(long, one("", "", "a")), "", 0},
		stream{caps{99, 2}, "data: abc\n\n\n", all(long), "", 0},
		stream{caps{99, 2}, "data: abc\n\ndata: abc\n\n\ndata: ab\n\n", all(long, long, one("", "", "ab")), "", 0},
		stream{caps{99, 2}, "data: abc\ndata\ndata\nevent: t\n\nevent: u\ndata\n\n", all(long, one("", "u", "")), "", 0},
		stream{caps{9, 9}, "data: a\n0123456789\ndata: b\n\ndata: c\n\n", all(long, one("", "", "c")), "", 0},
		stream{caps{9, 9}, "data: a\n\n0123456789\ndata: b\n\ndata: c\n\n", all(one("", "", "a"), long, one("", "", "c")), "", 0},
		stream{caps{9, 9}, "0123456789\n0123456789\n\n0123456789\n\n\ndata\n\n", all(long, long, one("", "", "")), "", 0},
		// What is told of the Type in one that is too long waits, too.
		stream{caps{9, 9}, "data: a\n0123456789\nevent: tu\ndata: b\n", nil, "", 4},
	)
}

// P8.2: Type and Data count, and the LF behind each value; Ids and what waits for a line's end do not.
func TestWaits(t *testing.T) {
	p := made(t, wide)
	for _, c := range []struct {
		b     string
		waits int
	}{
		{"data", 0}, {": abc", 0}, {"\n", 4}, {"data\n", 5}, {"data: d\r", 7}, {"\n", 7}, {"event: tuv", 7}, {"\n", 10}, {"event: u\n", 8}, {"event\n", 7},
		{"id: 12345\n", 7}, {": comment\n", 7}, {"x: y\n", 7}, {"id: \x00\n", 7}, {"retry: x\n", 7}, {"event: \xff\n", 10}, {"data: \u20ac\n", 14}, {"data: \xe2\x82", 14}, {"\n", 18},
	} {
		wantWrite(t, p, c.b)
		for range 2 {
			if got := p.Waits(); got != c.waits {
				t.Fatalf("Waits behind %q: %d; want %d", c.b, got, c.waits)
			}
		}
	}
	wantWrite(t, p, "\n", one("12345", "\ufffd", "abc\n\nd\n\u20ac\n\ufffd"))
	wantAt(t, p, "12345", 0)
	wantWrite(t, p, "event: t\n")
	wantAt(t, p, "12345", 1)
	wantWrite(t, p, "\n")
	wantAt(t, p, "12345", 0)
}

// P8.2, P8.3: how many bytes wait at most: Data goes beyond the cap by one value, and then no more comes to it.
func TestWaitsMost(t *testing.T) {
	p := made(t, caps{99, 3})
	for _, c := range []struct {
		b     string
		waits int
	}{
		{"data: abc\n", 4}, {"data: def\n", 8}, {"data: g\n", 8}, {"data\n", 8}, {"event: tuvw\n", 12}, {"event: t\n", 9},
	} {
		wantWrite(t, p, c.b)
		wantAt(t, p, "", c.waits)
	}
	wantWrite(t, p, "\n", long)
	// One byte more of Data, and the next value does not come.
	wantWrite(t, p, "data: abcd\ndata\n")
	wantAt(t, p, "", 5)
	wantWrite(t, p, "\n", long)
	// A line that is too long lets what waits stay, and no Data come any more.
	p = made(t, caps{9, 3})
	wantWrite(t, p, "data: a\n0123456789\ndata: b\n")
	wantAt(t, p, "", 2)
	for _, c := range []caps{{5, 1}, {6, 1}, {7, 1}, {7, 2}, {9, 9}, {20, 3}, {99, 50}, {4096, 4096}, {most, 1}, {most, most}} {
		name, value := strings.Repeat("t", max(0, c.line-len("event:"))), strings.Repeat("x", c.line-len("data:"))
		p := made(t, c)
		if c.line >= len("event:") {
			wantWrite(t, p, "event:"+name+"\n")
		}
		waits := len(name)
		for range 9 {
			wantWrite(t, p, "data:"+value+"\n")
			if waits-len(name) <= c.event+1 {
				waits += len(value) + 1
			}
			wantAt(t, p, "", waits)
			wantSayable(t, c, p)
		}
	}
}

// P8.1: bytes that are not sound are made so, ahead of all else.
func TestBroken(t *testing.T) {
	wantStreams(t,
		stream{wide, "id: \xff\nevent: \xc3\ndata: a\xe2\x82\n\n", all(one("\ufffd", "\ufffd", "a\ufffd")), "\ufffd", 0},
		stream{wide, "data: \xed\xa0\x80\n\n", all(one("", "", "\ufffd\ufffd\ufffd")), "", 0},
		stream{wide, "data: \xc0\x8a\n\n", all(one("", "", "\ufffd\ufffd")), "", 0},
		stream{wide, "data: \xf0\x9f\x98\r\n\r\n", all(one("", "", "\ufffd")), "", 0},
		stream{wide, "\xffdata: a\n\n", nil, "", 0},
		stream{wide, "da\xffta: a\n\n", nil, "", 0},
		stream{wide, "retry: 5\xff\n", nil, "", 0},
		stream{wide, "id: 1\xff\x00\ndata\n\n", all(one("", "", "")), "", 0},
		stream{wide, "\xe2\x82\ndata: a\n\xf0\n\n", all(one("", "", "a")), "", 0},
		stream{wide, "data: \xe2\x82\xac\xe2\x82\n\n", all(one("", "", "\u20ac\ufffd")), "", 0},
		stream{wide, "data: a\xef\xbb\n\xbf\n\n", all(one("", "", "a\ufffd")), "", 0},
		stream{wide, "\xef\xbbdata: a\n\n", nil, "", 0},
	)
}

// P8.1, P8.2: of no parser nothing is told.
func TestNone(t *testing.T) {
	for i, p := range nones() {
		for _, b := range []string{"", "\n", "data\n\n", "id: 1\nretry: 5\n", "\xff"} {
			if l, e := p.Write([]byte(b)); l != nil || e != api.ErrNil {
				t.Errorf("%d: Write(%q): %s, errno %d", i, b, shown(l...), int(e))
			}
			if id := p.LastId(); id != "" {
				t.Errorf("%d: LastId: %q", i, id)
			}
			if waits := p.Waits(); waits != 0 {
				t.Errorf("%d: Waits: %d", i, waits)
			}
			if c := p.Copy(); c != nil {
				t.Errorf("%d: Copy: %v", i, c)
			}
			// That there is none is told ahead of an id that may not be.
			for _, id := range []string{"", "7", "\x00", "\n", "\xff"} {
				if e := p.Reset(id); e != api.ErrNil {
					t.Errorf("%d: Reset(%q): errno %d", i, id, int(e))
				}
			}
		}
	}
}

// P8.1: New makes another one each time.
func TestNewApart(t *testing.T) {
	a, b := made(t, wide), made(t, wide)
	if a == b {
		t.Fatal("New makes the same one twice")
	}
	wantWrite(t, a, "id: 1\nevent: t\ndata: a\nda")
	wantAt(t, b, "", 0)
	wantWrite(t, b, mark+"data: b\r")
	wantWrite(t, a, "ta\n\n", one("1", "t", "a\n"))
	wantWrite(t, b, "\n\n", one("", "", "b"))
	wantAt(t, a, "1", 0)
}

// busy are bytes behind which a parser is in the midst of something.
func busy() []string {
	return []string{
		"", "d", "data: a", "data: abc\n", "data: a\r", "\r", "data: a\n\n", "event: t\n", "event: t\ndata: a\nda", "id: 9\n", "id: 9\ndata: a\n\n",
		mark, "\xef\xbb", mark + "\xef\xbb", "data: \xe2\x82", "data: abcdefghij\n", "data: abcdefghij\ndata\n", "data: abcdefghij\ndata\n\r", "0123456789abcdef", "0123456789abcdef\n", "0123456789abcdef\r", "retry: 5\ndata\r\n", "data\ndata\ndata\n",
	}
}

// going are bytes by which it can be told where a parser is.
func going() []string {
	return []string{
		"\n", "\r\n", "\n\n", "a: b\n\n", "data: b\n\n", "ta: b\n\n", mark + "data: b\n\n", "\x82\xac\n\n", "\xbb\xbfdata: b\n\n", "\xbfdata\n\n", "event: u\ndata\n\n", "id\ndata\n\n", "data\ndata\ndata\n\ndata\n\n", "data: c\ndata: d", "",
	}
}

// few are caps in which some of these are too long.
var few = caps{15, 8}

// P8.2: behind Reset a parser is as new, with that last id, whatever came ahead of it; its caps are the same.
func TestReset(t *testing.T) {
	for _, ahead := range busy() {
		for _, b := range going() {
			for _, id := range []string{"", "7", "\u20ac :", "123456789"} {
				p := made(t, few)
				p.Write([]byte(ahead))
				wantReset(t, p, id)
				m := modelOf(few, id, []byte(b))
				wantWrite(t, p, b, m.told...)
				wantAt(t, p, m.lastId, m.waits())
				wantReset(t, p, "x")
				wantReset(t, p, id)
				var said []api.Said
				for _, piece := range bytewise(b) {
					l, _ := p.Write([]byte(piece))
					said = append(said, l...)
				}
				if !slices.Equal(said, m.told) {
					t.Errorf("%q, Reset(%q), %q byte by byte: %s; want %s", ahead, id, b, shown(said...), shown(m.told...))
				}
			}
		}
	}
}

// P8.2: an id that no event may have is refused, and nothing is changed.
func TestResetRefused(t *testing.T) {
	for _, id := range []string{"\x00", "a\x00b", "\n", "\r", "1\n2", "1\r", "\r\n", "\xff", "a\xc3", "\xed\xa0\x80", "\xc0\x80", strings.Repeat("x", most+1), strings.Repeat("\u20ac", most/3+1), strings.Repeat("x", 1<<20)} {
		for _, ahead := range busy() {
			p, q := made(t, few), made(t, few)
			p.Write([]byte(ahead))
			q.Write([]byte(ahead))
			if e := p.Reset(id); e != api.ErrArg {
				t.Errorf("Reset(%.60q): errno %d", id, int(e))
			}
			wantAt(t, p, q.LastId(), q.Waits())
			for _, b := range going() {
				want, _ := q.Write([]byte(b))
				wantWrite(t, p, b, want...)
				wantAt(t, p, q.LastId(), q.Waits())
			}
		}
	}
}

// P8.2: ids that an event may have, above the parser's own cap too: then each event is too long.
func TestResetIds(t *testing.T) {
	greatest := strings.Repeat("x", most)
	p := made(t, caps{99, most})
	for _, id := range []string{"", "7", " ", ":", mark, "\ufffd", "a\tb", "\u0085\u2028", "stream-reset", greatest, greatest[:most-1]} {
		wantReset(t, p, id)
		wantWrite(t, p, "data\n\n", one(id, "", ""))
	}
	wantWrite(t, p, "data:a\n\ndata:ab\n\n", one(greatest[:most-1], "", "a"), long)
	p = made(t, caps{99, 3})
	wantReset(t, p, "1234")
	wantWrite(t, p, "data\n\n\n", long, long)
	wantWrite(t, p, "id: 123\ndata\n\n", one("123", "", ""))
}

// P8.2: Copy is another one with the same, at each time; what comes to one does not come to the other.
func TestCopy(t *testing.T) {
	for _, ahead := range busy() {
		for i, first := range going() {
			second := going()[(i*7+3)%len(going())]
			p := made(t, few)
			p.Write([]byte(ahead))
			c := p.Copy()
			if c == nil || c == p {
				t.Fatalf("Copy: %p of %p", c, p)
			}
			wantAt(t, c, p.LastId(), p.Waits())
			said := len(modelOf(few, "", []byte(ahead)).told)
			for range 2 {
				for _, way := range []struct {
					p *parse.Parser
					b string
				}{{p, first}, {c, second}} {
					m := modelOf(few, "", []byte(ahead+way.b))
					d := way.p.Copy()
					wantWrite(t, d, way.b, m.told[said:]...)
					wantAt(t, d, m.lastId, m.waits())
				}
			}
			m := modelOf(few, "", []byte(ahead+first))
			wantWrite(t, p, first, m.told[said:]...)
			m = modelOf(few, "", []byte(ahead+second))
			wantWrite(t, c, second, m.told[said:]...)
			wantAt(t, c, m.lastId, m.waits())
		}
	}
}

// P8.2: Data that comes to one and to its copy does not meet, and a Reset of one is none of the other.
func TestCopyApart(t *testing.T) {
	for lines := 1; lines < 9; lines++ {
		p := made(t, wide)
		wantWrite(t, p, "id: 1\nevent: t\n"+strings.Repeat("data: a\n", lines))
		c := p.Copy()
		d := p.Copy()
		wantWrite(t, p, "data: b\n")
		wantWrite(t, c, "data: c\n")
		wantReset(t, d, "2")
		data := strings.Repeat("a\n", lines)
		wantWrite(t, p, "\n", one("1", "t", data+"b"))
		wantWrite(t, c, "id: 3\n\n", one("3", "t", data+"c"))
		wantWrite(t, d, "data: d\n\n", one("2", "", "d"))
		wantAt(t, p, "1", 0)
		wantReset(t, p, "4")
		wantAt(t, c, "3", 0)
		wantAt(t, d, "2", 0)
	}
	// A copy has the same caps.
	p := made(t, caps{7, 1})
	wantWrite(t, p.Copy(), "data: ab\n\ndata:ab\n\ndata:a\n\n", long, long, one("", "", "a"))
}

// P8.1: what Each goes over may be left at any time, and gone over again.
func TestEachLeft(t *testing.T) {
	whole := all(retry(5), one("1", "t", "a"), long, long, one("1", "", ""), retry(6), long, one("", "", "b\nc"))
	seq := parse.Each(11, 9, []byte(mark+"retry: 5\r\nid: 1\nevent: t\ndata: a\n\n: c\ndata: abcdefg\n\n\ndata: abcde\ndata: abc\n\ndata\n\nretry: 6\n0123456789ab\n\nid\ndata:b\ndata:c\n\ndata: rest\n"))
	for most := 1; most <= len(whole); most++ {
		if got := gone(t, seq, most); !slices.Equal(got, whole[:most]) {
			t.Errorf("Each, left behind %d: %s", most, shown(got...))
		}
		if got := gone(t, seq, math.MaxInt); !slices.Equal(got, whole) {
			t.Errorf("Each, again: %s; want %s", shown(got...), shown(whole...))
		}
	}
}

// P8.1: what has been left is not asked any more.
func TestEachStops(t *testing.T) {
	for _, b := range []string{strings.Repeat("data\n\n", 9), strings.Repeat("retry: 5\r", 9), strings.Repeat("0123456789\r\n\r\n", 9), strings.Repeat("data\n: "+strings.Repeat("x", 4095)+"\n\n", 9)} {
		seq := parse.Each(9, 9, []byte(b))
		for most := 1; most <= 8; most++ {
			asked := 0
			seq(func(int, api.Said) bool {
				asked++
				return asked < most
			})
			if asked != most {
				t.Errorf("Each(%.60q): asked %d times, left behind %d", b, asked, most)
			}
		}
	}
}

// P8.1: two that go over the same at the same time do not disturb each other.
func TestEachTwice(t *testing.T) {
	whole := all(one("1", "", "a"), retry(5), one("1", "", "b"))
	seq := parse.Each(99, 99, []byte("id: 1\ndata: a\n\nretry: 5\ndata: b\n\nid: 2\ndata: c\n"))
	outer := 0
	for number, said := range seq {
		if number != outer || said != whole[outer] {
			t.Errorf("Each, the outer one: %d %s", number, shown(said))
		}
		outer++
		if got := gone(t, seq, math.MaxInt); !slices.Equal(got, whole) {
			t.Errorf("Each, the inner one: %s", shown(got...))
		}
	}
	if outer != len(whole) {
		t.Errorf("Each, the outer one: %d", outer)
	}
}

// P8.1: Each goes over what was there when it was called.
func TestEachThen(t *testing.T) {
	b := []byte("data: a\n\nretry: 5\n")
	seq := parse.Each(99, 99, b)
	clear(b)
	for range 2 {
		if got := gone(t, seq, math.MaxInt); !slices.Equal(got, all(one("", "", "a"), retry(5))) {
			t.Errorf("Each, behind a change of what was handed in: %s", shown(got...))
		}
	}
	b = []byte(strings.Repeat("data: a\n\n", 9000))
	count := 0
	for number, said := range parse.Each(99, 99, b) {
		if said != one("", "", "a") {
			t.Fatalf("Each, while what was handed in is changed: %d %s", number, shown(said))
		}
		clear(b)
		count++
	}
	if count != 9000 {
		t.Errorf("Each, while what was handed in is changed: %d", count)
	}
}

// P8.1: a panic of a loop's own body goes through Each, and Each can be gone over again.
func TestEachPanics(t *testing.T) {
	seq := parse.Each(9, 9, []byte("data\n\ndata\n\n"))
	func() {
		defer func() {
			if thrown := recover(); thrown != "mine" {
				t.Errorf("what came of a panic: %v", thrown)
			}
		}()
		for range seq {
			panic("mine")
		}
	}()
	if got := gone(t, seq, math.MaxInt); len(got) != 2 {
		t.Errorf("Each, again: %s", shown(got...))
	}
}

// P8.1: what is handed in is not changed, spare room behind it included, and not kept.
func TestHandedIn(t *testing.T) {
	for _, b := range append(busy(), "id: 1\nevent: t\ndata: a\ndata: b\n\nda", "data: \xff\xff\n") {
		room := append([]byte(b), "#######"...)
		handed := room[:len(b)]
		p := made(t, few)
		p.Write(handed)
		parse.Of(few.line, few.event, handed)
		gone(t, parse.Each(few.line, few.event, handed), math.MaxInt)
		if string(room) != b+"#######" {
			t.Errorf("what was handed in was changed: %q", room)
		}
		for i := range room {
			room[i] = 'X'
		}
		m := modelOf(few, "", []byte(b+"ta: c\n\ndata\n\n"))
		wantWrite(t, p, "ta: c\n\ndata\n\n", m.told[len(modelOf(few, "", []byte(b)).told):]...)
		if strings.Trim(string(room), "X") != "" {
			t.Errorf("a later call changed what was handed in: %q", room)
		}
	}
}

// P8.1, P8.2: what is answered shares no memory that could be changed, and stays what it is.
func TestAnswered(t *testing.T) {
	p := made(t, wide)
	first, _ := p.Write([]byte("id: 1\nevent: t\ndata: a\n\nretry: 5\ndata: b\n"))
	want := all(one("1", "t", "a"), retry(5))
	id := p.LastId()
	second, _ := p.Write([]byte("id: 2\ndata: c\n\nevent: uuu\ndata: ddd\n\n"))
	if !slices.Equal(first, want) || id != "1" {
		t.Errorf("what was answered ahead: %s, %q", shown(first...), id)
	}
	for i := range first {
		first[i] = long
	}
	_ = append(first[:1], long, long, long)
	if !slices.Equal(second, all(one("2", "", "b\nc"), one("2", "uuu", "ddd"))) {
		t.Errorf("what Write answered: %s", shown(second...))
	}
	wantWrite(t, p, "data\n\n", one("2", "", ""))
	answer, _ := parse.Of(9, 9, []byte("data\n\n"))
	answer[0] = long
	wantOf(t, caps{9, 9}, "data\n\n", one("", "", ""))
}

// cutStreams are short ones, in which all is that may be cut.
func cutStreams() []stream {
	return []stream{
		{wide, mark + "id: 1\r\ndata: \u20ac\r\n\r\nretry: 5\r\n", all(one("1", "", "\u20ac"), retry(5)), "1", 0},
		{wide, "data: a\ndata\n\nevent: t\n\ndata: b\n\n", all(one("", "", "a\n"), one("", "", "b")), "", 0},
		{caps{9, 4}, "data: abcde\n\ndata:abcde\ndata\n\ndata\n\n", all(long, long, one("", "", "")), "", 0},
		{caps{7, 4}, "data:\xf0\x9f\n\rid:\x00\rdata:\xff\r\n\r", all(long, long), "", 0},
		{caps{9, 6}, "data:\xf0\x9f\n\rid:1\rdata:\xff\r\n\r", all(one("", "", "\ufffd"), one("1", "", "\ufffd")), "1", 0},
	}
}

// P8.3: however bytes come in pieces, the same is said: cut in two and in three at all places.
func TestCuts(t *testing.T) {
	for _, s := range cutStreams() {
		wantStreams(t, s)
		for to := range len(s.b) + 1 {
			for from := range to + 1 {
				wantPieces(t, s.caps, s.b[:from], s.b[from:to], s.b[to:])
			}
		}
	}
}

// rows are some lines, of which all streams of up to so many are made.
func rows(count int) iter.Seq[string] {
	l := []string{"\n", "\r\n", "data\n", "data: ab\n", "data:c\r", "event: t\n", "event\n", "id: 12\n", "id\r\n", "id: \x00\n", "retry: 7\n", "retry: 1x\n", ": c\n", "x: y\n", "data: abcdef\n", "data:\xff\n"}
	return func(yield func(string) bool) {
		total := 1
		for range count {
			total *= len(l)
		}
		for number := range total {
			b := ""
			for range count {
				b += l[number%len(l)]
				number /= len(l)
			}
			if !yield(b) {
				return
			}
		}
	}
}

// P8.1, P8.2, P8.3: all short streams of some lines, against the chapter's words.
func TestRows(t *testing.T) {
	for count := range 5 {
		for b := range rows(count) {
			for _, c := range []caps{{99, 99}, {10, 5}, {8, 3}} {
				m := modelOf(c, "", []byte(b))
				p := made(t, c)
				got, e := p.Write([]byte(b))
				if !slices.Equal(got, m.told) || e != api.OK {
					t.Fatalf("%v, Write(%q): %s, errno %d; want %s", c, b, shown(got...), int(e), shown(m.told...))
				}
				wantAt(t, p, m.lastId, m.waits())
				wantSayable(t, c, p, got...)
				end := modelOf(c, "", []byte(b+"\r\rdata\r\r"))
				wantWrite(t, p, "\r\rdata\r\r", end.told[len(m.told):]...)
			}
			if t.Failed() {
				t.Fatalf("of %q", b)
			}
		}
	}
}

// P8.3: long streams, in pieces of several lengths, about those in which bytes are taken at a time.
func TestPiecesLong(t *testing.T) {
	b := ""
	for b = ""; len(b) < 30000; {
		n := len(b)
		b += fmt.Sprintf("id: %d\r\nevent: t%d\r\ndata: %s\r\ndata: \u20ac\r\nretry: %d\r\n\r\n: c\r\n\r\n", n, n%7, strings.Repeat("x", n%97), n)
	}
	for _, c := range []caps{{99, 99}, {90, 80}, {most, most}} {
		m := modelOf(c, "", []byte(b))
		for ahead := range 5 {
			wantOf(t, c, strings.Repeat("\n", ahead)+b, m.told...)
		}
		for _, size := range []int{1, 2, 3, 7, 100, 4095, 4096, 4097, 8192, 29999} {
			p := made(t, c)
			var said []api.Said
			for piece := range chunks(b, size) {
				l, _ := p.Write([]byte(piece))
				said = append(said, l...)
			}
			if !slices.Equal(said, m.told) {
				t.Errorf("%v, in pieces of %d: %s; want %s", c, size, shown(said...), shown(m.told...))
			}
			wantAt(t, p, m.lastId, m.waits())
		}
	}
}

// P8.3: of ends of lines at all places about those at which a great piece is cut.
func TestPortions(t *testing.T) {
	for size := 4080; size < 4100; size++ {
		b := ": " + strings.Repeat("x", size) + "\r\ndata: \u20ac\r\n\r\n"
		wantOf(t, caps{most, 99}, b, one("", "", "\u20ac"))
		wantOf(t, caps{99, 99}, b, long)
	}
}

// wantEncoded holds that of the bytes of events just these are said, within the least caps in which they are.
func wantEncoded(t *testing.T, l ...api.Event) {
	t.Helper()
	var b []byte
	var want []api.Said
	c := caps{1, 1}
	id := ""
	for _, e := range l {
		more, no := event.Encode(e)
		if no != api.OK {
			t.Fatalf("Encode of %s: errno %d", shown(api.Said{Event: e}), int(no))
		}
		b = append(b, more...)
		for _, line := range event.Lines(e) {
			c.line = max(c.line, len(line))
		}
		if e.Id != "" {
			id = e.Id
		}
		c.event = max(c.event, len(id)+len(e.Type)+len(e.Data))
		want = append(want, one(id, e.Type, e.Data))
	}
	wantOf(t, c, string(b), want...)
	if got, e := parse.Of(most, most, b); !slices.Equal(got, want) || e != api.OK {
		t.Errorf("Of of encoded events: %s, errno %d; want %s", shown(got...), int(e), shown(want...))
	}
	p := made(t, c)
	var said []api.Said
	for piece := range chunks(string(b), 5) {
		l, _ := p.Write([]byte(piece))
		said = append(said, l...)
	}
	if !slices.Equal(said, want) {
		t.Errorf("encoded events, in pieces: %s; want %s", shown(said...), shown(want...))
	}
	wantAt(t, p, id, 0)
	for _, tight := range []caps{{c.line - 1, c.event}, {c.line, c.event - 1}} {
		if got, e := parse.Of(tight.line, tight.event, b); e == api.OK && !slices.Contains(got, long) {
			t.Errorf("within %v nothing is too long: %s", tight, shown(got...))
		}
	}
}

// P8.3: of the bytes of events that may be just these are said, each without an Id with the last one that was there.
func TestEncoded(t *testing.T) {
	var l []api.Event
	for _, id := range []string{"", "1", " 2", ": ", "\u20ac", mark} {
		for _, kind := range []string{"", "t", " ", "stream-reset", "id: 5", "\x00"} {
			for _, data := range []string{"", "a", "\n", "\n\n", "a\nb", " a \n b ", ":", "data: x\nid: 9\n\nretry: 5", mark, "\x00\u0085\u2028", "a\n", "\na"} {
				l = append(l, api.Event{Id: id, Type: kind, Data: data})
			}
		}
	}
	for i, e := range l {
		wantEncoded(t, e)
		wantEncoded(t, e, l[(i*37+11)%len(l)], l[(i*101+5)%len(l)])
	}
	wantEncoded(t, l...)
	slices.Reverse(l)
	wantEncoded(t, l...)
	wantEncoded(t, event.Reset(2, 5), event.Reset(math.MaxUint64, math.MaxUint64))
}

// P8.3: the same of the greatest events that may be, and of their lines.
func TestEncodedGreatest(t *testing.T) {
	x := func(size int) string { return strings.Repeat("x", size) }
	for _, e := range []api.Event{
		{Data: strings.Repeat("\n", most)},
		{Data: strings.Repeat("x\n", most/2)},
		{Data: x(40000) + "\n" + x(most-40001)},
		{Id: x(30000), Type: x(30000), Data: x(most - 60000)},
		{Id: x(most - len("id: "))},
		{Type: x(most - len("event: ")), Data: "abcdefg"},
		{Data: x(most - len("data: ")), Type: "tuvwxy"},
	} {
		wantEncoded(t, e)
		wantEncoded(t, e, api.Event{}, e)
	}
}

package head_test

import (
	"bytes"
	"fmt"
	"iter"
	"math"
	"runtime"
	"slices"
	"strings"
	"testing"
	"unsafe"

	"bellman/api"
	"bellman/head"
)

// wide are caps that bar nothing of a short head.
var wide = api.HeadCaps{Line: 99, Bytes: 999, Fields: 9}

// widest are the greatest caps that may be.
var widest = api.HeadCaps{Line: 8192, Bytes: 65536, Fields: 256}

// most and least are the greatest and the least number.
const (
	most  = math.MaxInt
	least = math.MinInt
)

// headOf writes a head short: its First line, a name, a value, a name, a value.
func headOf(first string, texts ...string) api.Head {
	h := api.Head{First: first}
	for place := 0; place+1 < len(texts); place += 2 {
		h.Fields = append(h.Fields, api.Header{Name: texts[place], Value: texts[place+1]})
	}
	return h
}

// same tells whether two heads have the same parts, in the same order.
func same(a, b api.Head) bool {
	if a.First != b.First || len(a.Fields) != len(b.Fields) {
		return false
	}
	for number, f := range a.Fields {
		if f.Name != b.Fields[number].Name || f.Value != b.Fields[number].Value {
			return false
		}
	}
	return true
}

// shown is a head as a message shows it: no more of it than is read.
func shown(h api.Head) string { return fmt.Sprintf("%.200q", fmt.Sprint(h)) }

// told is all that a reader tells.
type told struct {
	used int
	done bool
	e    api.Errno
	head api.Head
	len  int
}

func (a told) is(b told) bool {
	return a.used == b.used && a.done == b.done && a.e == b.e && same(a.head, b.head) && a.len == b.len
}

func (a told) String() string {
	return fmt.Sprintf("used %d, done %v, errno %d, head %s, len %d", a.used, a.done, int(a.e), shown(a.head), a.len)
}

// ofToken tells whether a text is a token, by the words of layer 9's chapter.
func ofToken(s string) bool {
	const all = "abcdefghijklmnopqrstuvwxyzABCDEFGHIJKLMNOPQRSTUVWXYZ0123456789!#$%&'*+-.^_`|~"
	return s != "" && strings.Trim(s, all) == "" && !strings.ContainsFunc(s, func(r rune) bool { return !strings.ContainsRune(all, r) })
}

// ofValue tells whether a byte is a value's, by the words of layer 9's chapter.
func ofValue(b byte) bool { return b == 9 || 32 <= b && b <= 126 || 128 <= b }

// allOfValue tells whether each byte of a text is a value's.
func allOfValue(s string) bool {
	return !slices.ContainsFunc([]byte(s), func(b byte) bool { return !ofValue(b) })
}

// lower is a text in small letters.
func lower(s string) string {
	b := []byte(s)
	for place, letter := range b {
		if 'A' <= letter && letter <= 'Z' {
			b[place] = letter - 'A' + 'a'
		}
	}
	return string(b)
}

// trim is a text that is trimmed: without the bytes 9 and 32 at its ends.
func trim(s string) string { return strings.Trim(s, "\x09\x20") }

// endByWords is what a line does that ends behind others, by the chapter's words: whether it is the head's end, what
// it puts to a head, and the error.
func endByWords(c api.HeadCaps, h api.Head, line string) (done bool, after api.Head, e api.Errno) {
	name, value, found := strings.Cut(line, ":")
	switch {
	case line == "" && h.First == "":
		return false, h, api.ErrHead
	case line == "":
		return true, h, api.OK
	case h.First == "" && line[0] == 32:
		return false, h, api.ErrHead
	case h.First == "":
		return false, api.Head{First: line}, api.OK
	case len(h.Fields) >= c.Fields:
		return false, h, api.ErrLarge
	case !found || !ofToken(name):
		return false, h, api.ErrHead
	}
	f := api.Header{Name: lower(name), Value: trim(value)}
	return false, api.Head{First: h.First, Fields: append(slices.Clone(h.Fields), f)}, api.OK
}

// byWords is what a reader tells of bytes, by the chapter's words: each byte is looked at by what its line has ahead.
func byWords(c api.HeadCaps, s string) told {
	var h api.Head
	begin := 0
	for place := range len(s) {
		line := s[begin:place]
		taken, done, e := place+1, false, api.OK
		switch behind := strings.HasSuffix(line, "\r"); {
		case place == c.Bytes:
			e = api.ErrLarge
		case behind && s[place] != '\n':
			e = api.ErrHead
		case behind:
			done, h, e = endByWords(c, h, strings.TrimSuffix(line, "\r"))
			begin = place + 1
		case s[place] == '\r':
		case !ofValue(s[place]):
			e = api.ErrHead
		case len(line) >= c.Line:
			e = api.ErrLarge
		}
		if done || e != api.OK {
			return told{taken, done, e, h, taken}
		}
	}
	return told{len(s), false, api.OK, h, len(s)}
}

// newReader is a reader of caps that may be.
func newReader(t testing.TB, c api.HeadCaps) *head.Reader {
	t.Helper()
	r, e := head.New(c)
	if r == nil || e != api.OK {
		t.Fatalf("New(%+v): errno %d", c, int(e))
	}
	return r
}

// write lets pieces come to a reader, and is what is told then: used is of the last one.
func write(r *head.Reader, pieces ...string) told {
	var l told
	for _, piece := range pieces {
		l.used, l.done, l.e = r.Write([]byte(piece))
	}
	l.head, l.len = r.Head(), r.Len()
	return l
}

// wantOf holds Of of bytes against what a reader tells by the chapter's words.
func wantOf(t testing.TB, c api.HeadCaps, s string, want told) {
	t.Helper()
	h, used, e := head.Of(c, []byte(s))
	wantHead, wantUsed, wantE := want.head, want.used, want.e
	if want.e == api.OK && !want.done {
		wantE = api.ErrMore
	}
	if wantE != api.OK {
		wantHead, wantUsed = api.Head{}, 0
	}
	if !same(h, wantHead) || used != wantUsed || e != wantE {
		t.Errorf("Of(%+v, %.99q): %s, %d, errno %d; want %s, %d, errno %d", c, s, shown(h), used, int(e), shown(wantHead), wantUsed, int(wantE))
	}
}

// wantBytes holds a reader, and Of, of bytes that come at once against the chapter's words, and what comes behind
// them; and is what was told.
func wantBytes(t testing.TB, c api.HeadCaps, s string) told {
	t.Helper()
	want := byWords(c, s)
	r := newReader(t, c)
	if got := write(r, s); !got.is(want) {
		t.Errorf("%+v, %.99q: %v; want %v", c, s, got, want)
	}
	wantOf(t, c, s, want)
	if want.done || want.e != api.OK {
		for _, more := range []string{"", "x", "\r\n", "\n", "a: 1\r\n\r\n", "\x00"} {
			want.used = 0
			if got := write(r, more); !got.is(want) {
				t.Errorf("%+v, %.99q, then %q: %v; want %v", c, s, more, got, want)
			}
		}
	}
	return byWords(c, s)
}

// wantTold holds what is told of bytes against what is written down, and against the chapter's words.
func wantTold(t testing.TB, c api.HeadCaps, s string, want told) {
	t.Helper()
	want.len = want.used
	if got := wantBytes(t, c, s); !got.is(want) {
		t.Errorf("%+v, %.99q: by the chapter's words %v; want %v", c, s, got, want)
	}
}

// wantCuts holds what is told of bytes against what is told of them in two pieces, at each place, and byte by byte.
func wantCuts(t testing.TB, c api.HeadCaps, s string) {
	t.Helper()
	whole := byWords(c, s)
	for place := range len(s) + 1 {
		r := newReader(t, c)
		used := 0
		for _, piece := range []string{s[:place], s[place:]} {
			used += write(r, piece).used
		}
		got := write(r, "")
		if got.used != 0 {
			t.Errorf("%+v, %.99q: of no bytes %d are taken", c, s, got.used)
		}
		got.used = used
		if !got.is(whole) {
			t.Errorf("%+v, %.99q cut at %d: %v; want %v", c, s, place, got, whole)
		}
	}
	wantSingle(t, c, s)
}

// wantSingle holds what is told of bytes that come one by one against the chapter's words, behind each one.
func wantSingle(t testing.TB, c api.HeadCaps, s string) {
	t.Helper()
	r := newReader(t, c)
	taken := 0
	for place := range len(s) {
		want := byWords(c, s[:place+1])
		want.used -= taken
		if got := write(r, s[place:place+1]); !got.is(want) {
			t.Fatalf("%+v, %.99q, byte %d by itself: %v; want %v", c, s, place, got, want)
		}
		taken += want.used
	}
}

// capsThatMayNot are caps that may not be, each of which is wrong in one part alone.
var capsThatMayNot = []api.HeadCaps{
	{Line: 0, Bytes: 99, Fields: 9}, {Line: -1, Bytes: 99, Fields: 9}, {Line: 8193, Bytes: 65536, Fields: 9},
	{Line: least, Bytes: 99, Fields: 9}, {Line: most, Bytes: 99, Fields: 9},
	{Line: 99, Bytes: 0, Fields: 9}, {Line: 99, Bytes: -1, Fields: 9}, {Line: 99, Bytes: 65537, Fields: 9},
	{Line: 99, Bytes: least, Fields: 9}, {Line: 99, Bytes: most, Fields: 9},
	{Line: 99, Bytes: 99, Fields: -1}, {Line: 99, Bytes: 99, Fields: 257},
	{Line: 99, Bytes: 99, Fields: least}, {Line: 99, Bytes: 99, Fields: most},
	{}, {Line: -1, Bytes: -1, Fields: -1}, {Line: most, Bytes: most, Fields: most},
}

// P10.1: New of caps that may be, at their bounds; nothing came to it.
func TestNew(t *testing.T) {
	for _, line := range []int{1, 2, 8191, 8192} {
		for _, bytes := range []int{1, 2, 65535, 65536} {
			for _, fields := range []int{0, 1, 255, 256} {
				c := api.HeadCaps{Line: line, Bytes: bytes, Fields: fields}
				r := newReader(t, c)
				if got := write(r, ""); !got.is(told{}) {
					t.Errorf("%+v: %v of a new one", c, got)
				}
				if h := r.Head(); h.First != "" || h.Fields != nil || r.Len() != 0 {
					t.Errorf("%+v: %v, %d of a new one", c, h, r.Len())
				}
			}
		}
	}
}

// P10.1: New and Of refuse caps that may not be, whatever comes.
func TestCapsThatMayNot(t *testing.T) {
	for _, c := range capsThatMayNot {
		if r, e := head.New(c); r != nil || e != api.ErrArg {
			t.Errorf("New(%+v): errno %d", c, int(e))
		}
		for _, s := range []string{"", "a\r\n\r\n", "a\r\n", "\x00", strings.Repeat("a", 99999)} {
			if h, used, e := head.Of(c, []byte(s)); !same(h, api.Head{}) || used != 0 || e != api.ErrArg {
				t.Errorf("Of(%+v, %.60q): %s, %d, errno %d", c, s, shown(h), used, int(e))
			}
		}
	}
}

// P10.1, P10.2: Write and Of, at what the chapter names.
func TestWrite(t *testing.T) {
	for _, c := range []struct {
		s    string
		want told
	}{
		{"", told{}},
		{"a", told{used: 1}},
		{"a\r", told{used: 2}},
		{"a\r\n", told{used: 3, head: headOf("a")}},
		{"a\r\n\r", told{used: 4, head: headOf("a")}},
		{"a\r\n\r\n", told{used: 5, done: true, head: headOf("a")}},
		{"a\r\n\r\n\r\n", told{used: 5, done: true, head: headOf("a")}},
		{"a\r\n\r\n\x00", told{used: 5, done: true, head: headOf("a")}},
		{"GET / HTTP/1.1\r\nhost: x\r\n\r\nrest", told{used: 27, done: true, head: headOf("GET / HTTP/1.1", "host", "x")}},
		// First lines.
		{"\r\n", told{used: 2, e: api.ErrHead}},
		{"\r\na\r\n\r\n", told{used: 2, e: api.ErrHead}},
		{" \r\n", told{used: 3, e: api.ErrHead}},
		{" a\r\n\r\n", told{used: 4, e: api.ErrHead}},
		{" a", told{used: 2}},
		{" a\r", told{used: 3}},
		// A byte 9 is no blank but in layer 9.
		{"\ta\r\n\r\n", told{used: 6, done: true, head: headOf("\ta")}},
		{"\t\r\n\r\n", told{used: 5, done: true, head: headOf("\t")}},
		{"\t \r\n\r\n", told{used: 6, done: true, head: headOf("\t ")}},
		{"a \r\n\r\n", told{used: 6, done: true, head: headOf("a ")}},
		{"a\t\r\n\r\n", told{used: 6, done: true, head: headOf("a\t")}},
		{"a  b \t \r\n\r\n", told{used: 11, done: true, head: headOf("a  b \t ")}},
		{":\r\n\r\n", told{used: 5, done: true, head: headOf(":")}},
		{"a: b\r\n\r\n", told{used: 8, done: true, head: headOf("a: b")}},
		{"GET / \xff\r\n\r\n", told{used: 11, done: true, head: headOf("GET / \xff")}},
		{"A\r\n\r\n", told{used: 5, done: true, head: headOf("A")}},
		// Fields.
		{"a\r\nb\r\n\r\n", told{used: 6, e: api.ErrHead, head: headOf("a")}},
		{"a\r\nb c\r\n\r\n", told{used: 8, e: api.ErrHead, head: headOf("a")}},
		{"a\r\n:\r\n\r\n", told{used: 6, e: api.ErrHead, head: headOf("a")}},
		{"a\r\n:b\r\n", told{used: 7, e: api.ErrHead, head: headOf("a")}},
		{"a\r\n b: 1\r\n", told{used: 10, e: api.ErrHead, head: headOf("a")}},
		{"a\r\n\tb: 1\r\n", told{used: 10, e: api.ErrHead, head: headOf("a")}},
		{"a\r\nb : 1\r\n", told{used: 10, e: api.ErrHead, head: headOf("a")}},
		{"a\r\nb\t: 1\r\n", told{used: 10, e: api.ErrHead, head: headOf("a")}},
		{"a\r\nb c: 1\r\n", told{used: 11, e: api.ErrHead, head: headOf("a")}},
		{"a\r\n \r\n", told{used: 6, e: api.ErrHead, head: headOf("a")}},
		{"a\r\n\t\r\n", told{used: 6, e: api.ErrHead, head: headOf("a")}},
		{"a\r\n :\r\n", told{used: 7, e: api.ErrHead, head: headOf("a")}},
		{"a\r\nb: 1\r\nc\r\n", told{used: 12, e: api.ErrHead, head: headOf("a", "b", "1")}},
		{"a\r\nb: 1\r\n c\r\n", told{used: 13, e: api.ErrHead, head: headOf("a", "b", "1")}},
		{"a\r\nb: 1\r\n c: 2\r\n", told{used: 16, e: api.ErrHead, head: headOf("a", "b", "1")}},
		{"a\r\n(b): 1\r\n", told{used: 11, e: api.ErrHead, head: headOf("a")}},
		{"a\r\n\"b\": 1\r\n", told{used: 11, e: api.ErrHead, head: headOf("a")}},
		{"a\r\nb\xff: 1\r\n", told{used: 10, e: api.ErrHead, head: headOf("a")}},
		{"a\r\n\u00e9: 1\r\n", told{used: 10, e: api.ErrHead, head: headOf("a")}},
		{"a\r\nb:\r\n\r\n", told{used: 9, done: true, head: headOf("a", "b", "")}},
		{"a\r\nb: \r\n\r\n", told{used: 10, done: true, head: headOf("a", "b", "")}},
		{"a\r\nb: \t \t\r\n\r\n", told{used: 13, done: true, head: headOf("a", "b", "")}},
		{"a\r\nb:1\r\n\r\n", told{used: 10, done: true, head: headOf("a", "b", "1")}},
		{"a\r\nb:\t1\t\r\n\r\n", told{used: 12, done: true, head: headOf("a", "b", "1")}},
		{"a\r\nb:  1 2\t3  \r\n\r\n", told{used: 18, done: true, head: headOf("a", "b", "1 2\t3")}},
		{"a\r\nb::\r\n\r\n", told{used: 10, done: true, head: headOf("a", "b", ":")}},
		{"a\r\nb:c:d\r\n\r\n", told{used: 12, done: true, head: headOf("a", "b", "c:d")}},
		{"a\r\nb: :\r\n\r\n", told{used: 11, done: true, head: headOf("a", "b", ":")}},
		{"a\r\nB: C\r\n\r\n", told{used: 11, done: true, head: headOf("a", "b", "C")}},
		{"a\r\nLast-Event-ID: 7\r\n\r\n", told{used: 23, done: true, head: headOf("a", "last-event-id", "7")}},
		{"a\r\nAZaz09!#$%&'*+-.^_`|~: 1\r\n\r\n", told{used: 31, done: true, head: headOf("a", "azaz09!#$%&'*+-.^_`|~", "1")}},
		{"a\r\nb: 1\r\nb: 2\r\nB: 1\r\n\r\n", told{used: 23, done: true, head: headOf("a", "b", "1", "b", "2", "b", "1")}},
		{"a\r\nb: \xff\u20ac\x80\r\n\r\n", told{used: 15, done: true, head: headOf("a", "b", "\xff\u20ac\x80")}},
		{"a\r\nb: \"c\r\n\r\n", told{used: 12, done: true, head: headOf("a", "b", "\"c")}},
		{"a\r\nb: 1\r\nc", told{used: 10, head: headOf("a", "b", "1")}},
		{"a\r\nb: 1\r\nc:\r", told{used: 12, head: headOf("a", "b", "1")}},
		// CRs and LFs.
		{"\r", told{used: 1}},
		{"\n", told{used: 1, e: api.ErrHead}},
		{"a\n", told{used: 2, e: api.ErrHead}},
		{"a\n\n", told{used: 2, e: api.ErrHead}},
		{"a\r\n\n", told{used: 4, e: api.ErrHead, head: headOf("a")}},
		{"a\r\nb: 1\n", told{used: 8, e: api.ErrHead, head: headOf("a")}},
		{"a\r\r", told{used: 3, e: api.ErrHead}},
		{"a\r\r\n", told{used: 3, e: api.ErrHead}},
		{"a\rb", told{used: 3, e: api.ErrHead}},
		{"a\r ", told{used: 3, e: api.ErrHead}},
		{"\r\r", told{used: 2, e: api.ErrHead}},
		{"\ra", told{used: 2, e: api.ErrHead}},
		{"a\r\n\r\r", told{used: 5, e: api.ErrHead, head: headOf("a")}},
		{"a\r\n\ra", told{used: 5, e: api.ErrHead, head: headOf("a")}},
		{"a\r\nb: 1\r\x00", told{used: 9, e: api.ErrHead, head: headOf("a")}},
		{"a\r\nb: 1\r\n\r\n", told{used: 11, done: true, head: headOf("a", "b", "1")}},
		// Bytes that are no value's.
		{"\x00", told{used: 1, e: api.ErrHead}},
		{"a\x00\r\n", told{used: 2, e: api.ErrHead}},
		{"a\x7f", told{used: 2, e: api.ErrHead}},
		{" \x00", told{used: 2, e: api.ErrHead}},
		{"a\r\nb: 1\x1f2\r\n", told{used: 8, e: api.ErrHead, head: headOf("a")}},
		{"a\r\nb\x00: 1\r\n", told{used: 5, e: api.ErrHead, head: headOf("a")}},
	} {
		wantTold(t, wide, c.s, c.want)
		wantCuts(t, wide, c.s)
	}
}

// P10.1: each byte as one of a line's, at each place of a first line and of a field, and behind a CR.
func TestBytes(t *testing.T) {
	for b := range 256 {
		s := string([]byte{byte(b)})
		for _, text := range []string{
			s, s + "\r\n\r\n", s + "a\r\n\r\n", "a" + s + "b\r\n\r\n", "a" + s + "\r\n\r\n",
			"a\r\n" + s + "\r\n\r\n", "a\r\n" + s + ": 1\r\n\r\n", "a\r\n" + s + "b: 1\r\n\r\n", "a\r\nb" + s + ": 1\r\n\r\n", "a\r\nb" + s + "1\r\n\r\n",
			"a\r\nb:" + s + "\r\n\r\n", "a\r\nb: " + s + "1\r\n\r\n", "a\r\nb: 1" + s + "2\r\n\r\n", "a\r\nb: 1" + s + "\r\n\r\n",
			"\r" + s, "a\r" + s + "\r\n", "a\r\n\r" + s, "a\r\nb: 1\r" + s, "a\r\n" + s, "a\r\n\r\n" + s,
		} {
			wantBytes(t, wide, text)
		}
		// What is written down, apart from the model.
		want := told{used: 2, e: api.ErrHead}
		if b == '\r' {
			want = told{used: 3, e: api.ErrHead}
		}
		if b == 9 || 32 <= b && b <= 126 || b >= 128 {
			want = told{used: 7, done: true, head: headOf("a" + s + "b")}
		}
		wantTold(t, wide, "a"+s+"b\r\n\r\n", want)
		want = told{used: 3, e: api.ErrHead}
		if b == '\n' {
			want = told{used: 3, head: headOf("a")}
		}
		wantTold(t, wide, "a\r"+s, want)
	}
}

// P10.1: a line of just Line bytes, and of one more.
func TestLineCap(t *testing.T) {
	for _, line := range []int{1, 2, 3, 7, 8191, 8192} {
		c := api.HeadCaps{Line: line, Bytes: 65536, Fields: 2}
		full := strings.Repeat("x", line)
		wantTold(t, c, full, told{used: line})
		wantTold(t, c, full+"\r", told{used: line + 1})
		wantTold(t, c, full+"\r\n", told{used: line + 2, head: headOf(full)})
		wantTold(t, c, full+"\r\n\r\n", told{used: line + 4, done: true, head: headOf(full)})
		for _, behind := range []string{"x", "x\r\n\r\n", " ", "\t", "\xff", ":"} {
			wantTold(t, c, full+behind, told{used: line + 1, e: api.ErrLarge})
		}
		// A byte that is wrong by itself is ErrHead, also where it is one too many.
		for _, behind := range []string{"\n", "\x00", "\x7f", "\x1f\r\n"} {
			wantTold(t, c, full+behind, told{used: line + 1, e: api.ErrHead})
		}
		wantTold(t, c, full+"\rx", told{used: line + 2, e: api.ErrHead})
		wantTold(t, c, full+"\r\r", told{used: line + 2, e: api.ErrHead})
	}
}

// P10.1: likewise of a field's line; what is ahead of it counts no more.
func TestFieldLineCap(t *testing.T) {
	for _, line := range []int{2, 3, 7, 8191, 8192} {
		c := api.HeadCaps{Line: line, Bytes: 65536, Fields: 2}
		value := strings.Repeat("x", line-2)
		for _, first := range []string{"a", strings.Repeat("a", line)} {
			ahead := first + "\r\nb:" + value
			wantTold(t, c, ahead+"\r\n\r\n", told{used: len(ahead) + 4, done: true, head: headOf(first, "b", value)})
			wantTold(t, c, ahead+"\r\nb:"+value+"\r\n\r\n", told{used: len(ahead) + line + 6, done: true, head: headOf(first, "b", value, "b", value)})
			wantTold(t, c, ahead+"x\r\n", told{used: len(ahead) + 1, e: api.ErrLarge, head: headOf(first)})
			wantTold(t, c, ahead+" \r\n", told{used: len(ahead) + 1, e: api.ErrLarge, head: headOf(first)})
			wantTold(t, c, ahead+"\n", told{used: len(ahead) + 1, e: api.ErrHead, head: headOf(first)})
			wantTold(t, c, ahead+"\r\n"+strings.Repeat("b", line+1), told{used: len(ahead) + 3 + line, e: api.ErrLarge, head: headOf(first, "b", value)})
		}
	}
}

// P10.1: a head of just Bytes bytes, and of one more.
func TestBytesCap(t *testing.T) {
	whole := "a\r\nb: 1\r\nc: 2\r\n\r\n"
	all := headOf("a", "b", "1", "c", "2")
	for most := 1; most <= len(whole)+2; most++ {
		c := api.HeadCaps{Line: 9, Bytes: most, Fields: 9}
		wantBytes(t, c, whole)
		wantCuts(t, c, whole)
		if most >= len(whole) {
			wantTold(t, c, whole+"x", told{used: len(whole), done: true, head: all})
			continue
		}
		got := byWords(c, whole)
		if got.e != api.ErrLarge || got.used != most+1 {
			t.Errorf("%+v: %v", c, got)
		}
		// The byte that is one too many may be right or wrong by itself.
		for _, one := range []string{"\r", "\n", "x", ":", " ", "\x00", "\x7f", "\xff"} {
			text := whole[:most] + one
			r := newReader(t, c)
			if got := write(r, text); got.used != most+1 || got.done || got.e != api.ErrLarge || got.len != most+1 {
				t.Errorf("%+v, %q: %v", c, text, got)
			}
			wantBytes(t, c, text)
		}
	}
}

// P10.1: the greatest number of bytes that may be, and one more.
func TestGreatHeads(t *testing.T) {
	line := "x: " + strings.Repeat("y", 8192-3) + "\r\n"
	ahead := "a\r\n" + strings.Repeat(line, 7)
	left := 65536 - len(ahead) - 2
	last := "z:" + strings.Repeat("w", left-4) + "\r\n"
	whole := ahead + last + "\r\n"
	if len(whole) != 65536 {
		t.Fatalf("%d bytes", len(whole))
	}
	h, used, e := head.Of(widest, []byte(whole+"x"))
	if e != api.OK || used != 65536 || len(h.Fields) != 8 || len(h.Fields[6].Value) != 8189 || len(h.Fields[7].Value) != left-4 {
		t.Errorf("of 65536 bytes: %d fields, %d, errno %d", len(h.Fields), used, int(e))
	}
	r := newReader(t, widest)
	got := write(r, ahead+"z:w"+last[2:], "\r", "\n", "x")
	if got.e != api.ErrLarge || got.used != 0 || got.len != 65537 || len(got.head.Fields) != 8 {
		t.Errorf("of 65537 bytes: used %d, errno %d, len %d, %d fields", got.used, int(got.e), got.len, len(got.head.Fields))
	}
	r = newReader(t, widest)
	if got := write(r, ahead+last+"\r", "\n"); got.used != 1 || !got.done || got.e != api.OK || got.len != 65536 {
		t.Errorf("of 65536 bytes in pieces: used %d, done %v, errno %d, len %d", got.used, got.done, int(got.e), got.len)
	}
	for one, want := range map[string]api.Errno{"x": api.OK, "\r": api.OK, "\n": api.ErrHead, "\x00": api.ErrHead} {
		r = newReader(t, widest)
		if got := write(r, ahead+last+"z", one); got.e != want || got.len != 65536 || got.used != 1 {
			t.Errorf("byte 65536, %q: errno %d, len %d, used %d", one, int(got.e), got.len, got.used)
		}
		r = newReader(t, widest)
		if got := write(r, ahead+last+"zz", one); got.e != api.ErrLarge || got.len != 65537 || got.used != 1 {
			t.Errorf("byte 65537, %q: errno %d, len %d, used %d", one, int(got.e), got.len, got.used)
		}
	}
}

// P10.1: as many fields as may be, and one more, which is right or wrong by itself.
func TestFieldsCap(t *testing.T) {
	for _, fields := range []int{0, 1, 2, 255, 256} {
		c := api.HeadCaps{Line: 9, Bytes: 65536, Fields: fields}
		all := api.Head{First: "a"}
		for range fields {
			all.Fields = append(all.Fields, api.Header{Name: "b", Value: "1"})
		}
		ahead := "a\r\n" + strings.Repeat("b: 1\r\n", fields)
		h, used, e := head.Of(c, []byte(ahead+"\r\n"))
		if !same(h, all) || used != len(ahead)+2 || e != api.OK {
			t.Errorf("%+v: %d fields, %d, errno %d", c, len(h.Fields), used, int(e))
		}
		for _, more := range []string{"b: 1", "b", ":", " b: 1", "b :", "(", " ", "x:"} {
			r := newReader(t, c)
			got := write(r, ahead+more+"\r\n\r\n")
			want := told{used: len(ahead) + len(more) + 2, e: api.ErrLarge, head: all, len: len(ahead) + len(more) + 2}
			if !got.is(want) {
				t.Errorf("%+v, and %q: %v", c, more, got)
			}
			wantOf(t, c, ahead+more+"\r\n\r\n", want)
		}
		// It is told where the line ends, not ahead of that.
		r := newReader(t, c)
		if got := write(r, ahead+"b: 1\r"); got.e != api.OK || got.done {
			t.Errorf("%+v, a field more that does not end: %v", c, got)
		}
		// A byte that is wrong ahead of the line's end comes first.
		for _, more := range []string{"b\n", "b\x00\r\n", "b\rc"} {
			r := newReader(t, c)
			if got := write(r, ahead+more); got.e != api.ErrHead {
				t.Errorf("%+v, and %q: %v", c, more, got)
			}
		}
	}
}

// P10.1: which error comes first where two would be told, by the four rules.
func TestOrder(t *testing.T) {
	for _, c := range []struct {
		caps api.HeadCaps
		s    string
		used int
		e    api.Errno
	}{
		// One more than Bytes, ahead of all else.
		{api.HeadCaps{Line: 9, Bytes: 1, Fields: 9}, "a\x00", 2, api.ErrLarge},
		{api.HeadCaps{Line: 9, Bytes: 1, Fields: 9}, "a\n", 2, api.ErrLarge},
		{api.HeadCaps{Line: 9, Bytes: 1, Fields: 9}, "a\r", 2, api.ErrLarge},
		{api.HeadCaps{Line: 9, Bytes: 1, Fields: 9}, "\r\n", 2, api.ErrLarge},
		{api.HeadCaps{Line: 9, Bytes: 1, Fields: 9}, "\rx", 2, api.ErrLarge},
		{api.HeadCaps{Line: 9, Bytes: 1, Fields: 9}, "\x00", 1, api.ErrHead},
		{api.HeadCaps{Line: 1, Bytes: 1, Fields: 9}, "ab", 2, api.ErrLarge},
		{api.HeadCaps{Line: 9, Bytes: 2, Fields: 9}, "a\rx", 3, api.ErrLarge},
		{api.HeadCaps{Line: 9, Bytes: 2, Fields: 9}, "a\r\n", 3, api.ErrLarge},
		{api.HeadCaps{Line: 9, Bytes: 2, Fields: 9}, " \r\n", 3, api.ErrLarge},
		{api.HeadCaps{Line: 9, Bytes: 3, Fields: 9}, "a\rx", 3, api.ErrHead},
		{api.HeadCaps{Line: 9, Bytes: 3, Fields: 9}, "a\r\n\n", 4, api.ErrLarge},
		{api.HeadCaps{Line: 9, Bytes: 4, Fields: 9}, "a\r\n\r\n", 5, api.ErrLarge},
		{api.HeadCaps{Line: 9, Bytes: 5, Fields: 9}, "a\r\nb\r\n", 6, api.ErrLarge},
		{api.HeadCaps{Line: 9, Bytes: 6, Fields: 9}, "a\r\nb\r\n", 6, api.ErrHead},
		// A CR that no LF follows, ahead of the line's cap.
		{api.HeadCaps{Line: 1, Bytes: 9, Fields: 9}, "a\rx", 3, api.ErrHead},
		{api.HeadCaps{Line: 1, Bytes: 9, Fields: 9}, "a\r\x00", 3, api.ErrHead},
		{api.HeadCaps{Line: 1, Bytes: 9, Fields: 9}, "a\r\r", 3, api.ErrHead},
		// No value's byte, ahead of the line's cap.
		{api.HeadCaps{Line: 1, Bytes: 9, Fields: 9}, "a\x00", 2, api.ErrHead},
		{api.HeadCaps{Line: 1, Bytes: 9, Fields: 9}, "a\n", 2, api.ErrHead},
		{api.HeadCaps{Line: 1, Bytes: 9, Fields: 9}, "a\x7f", 2, api.ErrHead},
		{api.HeadCaps{Line: 1, Bytes: 9, Fields: 9}, "ab", 2, api.ErrLarge},
		{api.HeadCaps{Line: 1, Bytes: 9, Fields: 9}, "  ", 2, api.ErrLarge},
		// The first byte that is wrong is told, not a worse one behind it.
		{api.HeadCaps{Line: 2, Bytes: 9, Fields: 9}, "a\nbcdefghijkl", 2, api.ErrHead},
		{api.HeadCaps{Line: 2, Bytes: 9, Fields: 9}, "abc\n", 3, api.ErrLarge},
		// As many fields as may be, ahead of what the line is.
		{api.HeadCaps{Line: 9, Bytes: 99, Fields: 0}, "a\r\nb\r\n", 6, api.ErrLarge},
		{api.HeadCaps{Line: 9, Bytes: 99, Fields: 0}, "a\r\n: 1\r\n", 8, api.ErrLarge},
		{api.HeadCaps{Line: 9, Bytes: 99, Fields: 1}, "a\r\nb: 1\r\nc\r\n", 12, api.ErrLarge},
		{api.HeadCaps{Line: 9, Bytes: 99, Fields: 1}, "a\r\nb\r\nc\r\n", 6, api.ErrHead},
	} {
		got := wantBytes(t, c.caps, c.s)
		if got.used != c.used || got.e != c.e || got.done {
			t.Errorf("%+v, %q: %v; want used %d, errno %d", c.caps, c.s, got, c.used, int(c.e))
		}
		wantCuts(t, c.caps, c.s)
	}
}

// P10.1: how many bytes were taken of each piece.
func TestUsed(t *testing.T) {
	r := newReader(t, wide)
	for _, c := range []struct {
		piece string
		want  told
	}{
		{"", told{}},
		{"GET", told{used: 3, len: 3}},
		{"", told{len: 3}},
		{" /\r", told{used: 3, len: 6}},
		{"\nA:", told{used: 3, len: 9, head: headOf("GET /")}},
		{" 1\r\n\r", told{used: 5, len: 14, head: headOf("GET /", "a", "1")}},
		{"\nbody", told{used: 1, len: 15, done: true, head: headOf("GET /", "a", "1")}},
		{"body", told{len: 15, done: true, head: headOf("GET /", "a", "1")}},
		{"\r\n", told{len: 15, done: true, head: headOf("GET /", "a", "1")}},
		{"", told{len: 15, done: true, head: headOf("GET /", "a", "1")}},
	} {
		if got := write(r, c.piece); !got.is(c.want) {
			t.Errorf("%q: %v; want %v", c.piece, got, c.want)
		}
	}
	r = newReader(t, wide)
	for _, c := range []struct {
		piece string
		want  told
	}{
		{"a\r\nb: 1\r\nc", told{used: 10, len: 10, head: headOf("a", "b", "1")}},
		{":\x00d\r\n\r\n", told{used: 2, len: 12, e: api.ErrHead, head: headOf("a", "b", "1")}},
		{"\r\n", told{len: 12, e: api.ErrHead, head: headOf("a", "b", "1")}},
		{"", told{len: 12, e: api.ErrHead, head: headOf("a", "b", "1")}},
	} {
		if got := write(r, c.piece); !got.is(c.want) {
			t.Errorf("%q: %v; want %v", c.piece, got, c.want)
		}
	}
	if used, done, e := r.Write(nil); used != 0 || done || e != api.ErrHead {
		t.Errorf("nil behind a wrong byte: %d, %v, errno %d", used, done, int(e))
	}
}

// P10.1, P10.2: no reader, and one that New did not make.
func TestNone(t *testing.T) {
	for name, r := range map[string]*head.Reader{"nil": nil, "zero": {}} {
		for _, b := range [][]byte{nil, {}, []byte("a\r\n\r\n"), {0}} {
			if used, done, e := r.Write(b); used != 0 || done || e != api.ErrNil {
				t.Errorf("%s: Write(%q): %d, %v, errno %d", name, b, used, done, int(e))
			}
		}
		if h := r.Head(); h.First != "" || h.Fields != nil {
			t.Errorf("%s: Head: %v", name, h)
		}
		if n := r.Len(); n != 0 {
			t.Errorf("%s: Len: %d", name, n)
		}
		if other := r.Copy(); other != nil {
			t.Errorf("%s: Copy is there", name)
		}
	}
}

// P10.2: Head and Len, behind each byte.
func TestHeadGrows(t *testing.T) {
	s := "GET / HTTP/1.1\r\nHost: x\r\nAccept:\ttext/html \r\n\r\n"
	firstEnds, hostEnds, acceptEnds := 16, 25, 45
	r := newReader(t, wide)
	for place := range len(s) {
		got := write(r, s[place:place+1])
		want := api.Head{}
		if place+1 >= firstEnds {
			want.First = "GET / HTTP/1.1"
		}
		if place+1 >= hostEnds {
			want.Fields = append(want.Fields, api.Header{Name: "host", Value: "x"})
		}
		if place+1 >= acceptEnds {
			want.Fields = append(want.Fields, api.Header{Name: "accept", Value: "text/html"})
		}
		if !same(got.head, want) || got.len != place+1 || got.done != (place+1 == len(s)) {
			t.Errorf("behind byte %d: %v; want %s", place, got, shown(want))
		}
	}
}

// P10.2: what Head tells is apart from the reader, from what comes next, from what Head tells again.
func TestHeadApart(t *testing.T) {
	r := newReader(t, wide)
	came := []byte("a\r\nb: 1\r\nc: 2\r\n")
	r.Write(came)
	one, two := r.Head(), r.Head()
	want := headOf("a", "b", "1", "c", "2")
	for place := range came {
		came[place] = 'z'
	}
	if !same(one, want) || !same(two, want) || !same(r.Head(), want) {
		t.Errorf("the bytes that came were changed: %s, %s", shown(one), shown(r.Head()))
	}
	one.First = "z"
	one.Fields[0] = api.Header{Name: "z", Value: "z"}
	one.Fields = append(one.Fields[:1], api.Header{Name: "y", Value: "y"})
	if !same(two, want) || !same(r.Head(), want) {
		t.Errorf("one was changed: %s, %s", shown(two), shown(r.Head()))
	}
	// Spare room behind the fields is not shared, either.
	spare := r.Head()
	_ = append(spare.Fields, api.Header{Name: "y", Value: "y"})
	r.Write([]byte("d: 3\r\n"))
	_ = append(spare.Fields, api.Header{Name: "x", Value: "x"})
	if !same(two, want) || !same(r.Head(), headOf("a", "b", "1", "c", "2", "d", "3")) {
		t.Errorf("another field came: %s, %s", shown(two), shown(r.Head()))
	}
	r.Write([]byte("\r\n"))
	if !same(two, want) || !same(r.Head(), headOf("a", "b", "1", "c", "2", "d", "3")) {
		t.Errorf("the end came: %s, %s", shown(two), shown(r.Head()))
	}
}

// P10.1: what comes is not changed, and not kept, spare room behind it included.
func TestBytesApart(t *testing.T) {
	room := []byte("a\r\nb: 1\r\nc: 2........")
	handed := room[:13]
	r := newReader(t, wide)
	r.Write(handed)
	if string(room) != "a\r\nb: 1\r\nc: 2........" {
		t.Errorf("what was handed in is %q now", room)
	}
	for place := range room {
		room[place] = 'z'
	}
	if got := write(r, "3\r\n\r\n"); !got.done || !same(got.head, headOf("a", "b", "1", "c", "23")) {
		t.Errorf("the line under way is kept in what was handed in: %v", got)
	}
}

// P10.1: what Of tells is apart from the bytes, and from what it tells again.
func TestOfApart(t *testing.T) {
	b := []byte("a\r\nb: 1\r\nc: 2\r\n\r\nrest")
	want := headOf("a", "b", "1", "c", "2")
	one, _, _ := head.Of(wide, b)
	two, _, _ := head.Of(wide, b)
	if string(b) != "a\r\nb: 1\r\nc: 2\r\n\r\nrest" {
		t.Errorf("what was handed in is %q now", b)
	}
	one.Fields[0].Value = "z"
	_ = append(one.Fields[:1], api.Header{Name: "y"})
	for place := range b {
		b[place] = 'z'
	}
	if !same(two, want) {
		t.Errorf("one was changed: %s", shown(two))
	}
}

// P10.2: a copy goes on apart, from each place on, both ways.
func TestCopy(t *testing.T) {
	const s = "GET /\r\nab: 12\r\nc: 3\r\n\r\n"
	for place := range len(s) + 1 {
		for _, other := range []string{"x: y\r\n\r\n", "\r\n\r\n", "\n", "\n\r\n", "\x00", "zz", ""} {
			r := newReader(t, wide)
			write(r, s[:place])
			copied := r.Copy()
			if copied == nil || copied == r {
				t.Fatal("no copy")
			}
			if got, want := write(copied, ""), write(r, ""); !got.is(want) {
				t.Fatalf("a copy behind %q: %v; want %v", s[:place], got, want)
			}
			wantApart(t, r, copied, s[:place], other, s[place:])
			r = newReader(t, wide)
			write(r, s[:place])
			wantApart(t, r.Copy(), r, s[:place], other, s[place:])
		}
	}
}

// wantApart lets something come to one of two readers to which the same came, then something else to the other one,
// by single bytes in turn.
func wantApart(t *testing.T, one, two *head.Reader, ahead, first, second string) {
	t.Helper()
	for place := range max(len(first), len(second)) {
		if place < len(first) {
			write(one, first[place:place+1])
		}
		if place < len(second) {
			write(two, second[place:place+1])
		}
	}
	for r, s := range map[*head.Reader]string{one: ahead + first, two: ahead + second} {
		want, got := byWords(wide, s), write(r, "")
		want.used = 0
		if !got.is(want) {
			t.Errorf("%q: %v; want %v", s, got, want)
		}
	}
}

// P10.2: fields that come to a reader do not come to its copy, where both have room behind the same ones.
func TestCopyFields(t *testing.T) {
	r := newReader(t, wide)
	write(r, "a\r\nb: 1\r\nc: 2\r\nd: 3\r\n")
	copied := r.Copy()
	write(r, "e: 4\r\n\r\n")
	write(copied, "f: 5\r\n")
	if h := r.Head(); !same(h, headOf("a", "b", "1", "c", "2", "d", "3", "e", "4")) {
		t.Errorf("one: %s", shown(h))
	}
	if h := copied.Head(); !same(h, headOf("a", "b", "1", "c", "2", "d", "3", "f", "5")) {
		t.Errorf("its copy: %s", shown(h))
	}
	if used, done, e := copied.Write([]byte("\r\nx")); used != 2 || !done || e != api.OK {
		t.Errorf("its copy's end: %d, %v, errno %d", used, done, int(e))
	}
}

// P10.2: a copy has the same caps.
func TestCopyCaps(t *testing.T) {
	c := api.HeadCaps{Line: 4, Bytes: 12, Fields: 1}
	for _, s := range []string{"abcde", "a\r\nb:1\r\nc:2\r\n", "a\r\nb:12\r\n\r\n\r\n", "abcd\r\nb:12\r\n\r\n"} {
		for place := range len(s) + 1 {
			r := newReader(t, c)
			write(r, s[:place])
			want, got := byWords(c, s), write(r.Copy(), s[place:])
			got.used = want.used
			if !got.is(want) {
				t.Errorf("a copy behind %q, then %q: %v; want %v", s[:place], s[place:], got, want)
			}
		}
	}
}

// mayBe tells whether a head may be, by the chapter's words.
func mayBe(h api.Head) bool {
	if h.First == "" || h.First[0] == 32 || !allOfValue(h.First) {
		return false
	}
	for _, f := range h.Fields {
		if !ofToken(f.Name) || f.Name != lower(f.Name) || !allOfValue(f.Value) || f.Value != trim(f.Value) {
			return false
		}
	}
	return true
}

// bytesOf are a head's, by the chapter's words.
func bytesOf(h api.Head) string {
	l := []string{h.First}
	for _, f := range h.Fields {
		l = append(l, f.Name+": "+f.Value)
	}
	return strings.Join(l, "\r\n") + "\r\n\r\n"
}

// wantHead holds Check and Encode of a head against the chapter's words.
func wantHead(t testing.TB, h api.Head) {
	t.Helper()
	want, wantE := bytesOf(h), api.OK
	if !mayBe(h) {
		want, wantE = "", api.ErrArg
	}
	if e := head.Check(h); e != wantE {
		t.Errorf("Check(%s): errno %d; want %d", shown(h), int(e), int(wantE))
	}
	b, e := head.Encode(h)
	if string(b) != want || e != wantE || e != api.OK && b != nil {
		t.Errorf("Encode(%s): %.99q, errno %d; want %.99q, errno %d", shown(h), b, int(e), want, int(wantE))
	}
}

// P10.3: heads that may be, and their bytes.
func TestEncode(t *testing.T) {
	for want, h := range map[string]api.Head{
		"a\r\n\r\n":                         headOf("a"),
		"a \r\n\r\n":                        headOf("a "),
		"a\t\r\n\r\n":                       headOf("a\t"),
		"\ta\r\n\r\n":                       headOf("\ta"),
		"\t\r\n\r\n":                        headOf("\t"),
		":\r\n\r\n":                         headOf(":"),
		"\xff\r\n\r\n":                      headOf("\xff"),
		"a: b\r\n\r\n":                      headOf("a: b"),
		"A\r\nb: C\r\n\r\n":                 headOf("A", "b", "C"),
		"a\r\nb: \r\n\r\n":                  headOf("a", "b", ""),
		"a\r\nb: :\r\n\r\n":                 headOf("a", "b", ":"),
		"a\r\nb: 1 \t2\r\n\r\n":             headOf("a", "b", "1 \t2"),
		"a\r\nb: 1\r\nb: 1\r\na: 2\r\n\r\n": headOf("a", "b", "1", "b", "1", "a", "2"),
		"GET / HTTP/1.1\r\nhost: x\r\n\r\n": headOf("GET / HTTP/1.1", "host", "x"),
		"HTTP/1.1 200 OK\r\n!#$%&'*+-.^_`|~09: x\r\n\r\n": headOf("HTTP/1.1 200 OK", "!#$%&'*+-.^_`|~09", "x"),
		"\u20ac\r\nb: \u20ac\r\n\r\n":                     headOf("\u20ac", "b", "\u20ac"),
	} {
		if e := head.Check(h); e != api.OK {
			t.Errorf("Check(%s): errno %d", shown(h), int(e))
		}
		if b, e := head.Encode(h); string(b) != want || e != api.OK {
			t.Errorf("Encode(%s): %q, errno %d; want %q", shown(h), b, int(e), want)
		}
		wantHead(t, h)
	}
	for _, fields := range [][]api.Header{nil, {}} {
		if b, e := head.Encode(api.Head{First: "a", Fields: fields}); string(b) != "a\r\n\r\n" || e != api.OK {
			t.Errorf("no fields: %q, errno %d", b, int(e))
		}
	}
}

// P10.3: heads that may not be.
func TestHeadsThatMayNot(t *testing.T) {
	for _, h := range []api.Head{
		{}, headOf(""), headOf("", "b", "1"), headOf(" "), headOf(" a"), headOf("  a"), headOf(" a", "b", "1"),
		headOf("\r"), headOf("a\r"), headOf("\na"), headOf("a\nb"), headOf("a\r\n"), headOf("a\r\nb: 1"), headOf("a\x00"), headOf("\x00a"), headOf("a\x7fb"), headOf("a\x1f"),
		headOf("a", "", "1"), headOf("a", "", ""), headOf("a", "b c", "1"), headOf("a", " b", "1"), headOf("a", "b ", "1"), headOf("a", "b:", "1"), headOf("a", ":", "1"),
		headOf("a", "B", "1"), headOf("a", "bC", "1"), headOf("a", "A", "1"), headOf("a", "Z", "1"), headOf("a", "last-event-ID", "1"),
		headOf("a", "b\x00", "1"), headOf("a", "b\r", "1"), headOf("a", "\xff", "1"), headOf("a", "\u00e9", "1"), headOf("a", "(b)", "1"), headOf("a", "b\t", "1"),
		headOf("a", "b", " 1"), headOf("a", "b", "1 "), headOf("a", "b", "\t1"), headOf("a", "b", "1\t"), headOf("a", "b", " "), headOf("a", "b", "\t"),
		headOf("a", "b", "1\x002"), headOf("a", "b", "\x00"), headOf("a", "b", "1\r"), headOf("a", "b", "1\r\n"), headOf("a", "b", "1\nc: 2"), headOf("a", "b", "\x7f"), headOf("a", "b", "1\x1f2"),
		headOf("a", "b", "1", "", "2"), headOf("a", "b", "1", "C", "2"), headOf("a", "b", "1", "c", "2 "), headOf("a", "b", "1 ", "c", "2"), headOf("a", "b", "1", "c", "2", "d", "\n"),
	} {
		if e := head.Check(h); e != api.ErrArg {
			t.Errorf("Check(%s): errno %d", shown(h), int(e))
		}
		if b, e := head.Encode(h); b != nil || e != api.ErrArg {
			t.Errorf("Encode(%s): %q, errno %d", shown(h), b, int(e))
		}
		wantHead(t, h)
	}
}

// P10.3: each byte at each place of a head.
func TestHeadBytes(t *testing.T) {
	for b := range 256 {
		s := string([]byte{byte(b)})
		for _, h := range []api.Head{
			headOf(s), headOf(s + "a"), headOf("a" + s), headOf("a" + s + "b"),
			headOf("a", s, "1"), headOf("a", s+"b", "1"), headOf("a", "b"+s, "1"), headOf("a", "b"+s+"c", "1"),
			headOf("a", "b", s), headOf("a", "b", s+"1"), headOf("a", "b", "1"+s), headOf("a", "b", "1"+s+"2"),
			headOf("a", "c", "1", "b", "1"+s+"2"), headOf("a", "c", "1", "b"+s, ""),
		} {
			wantHead(t, h)
		}
	}
}

// P10.3: heads are not held against any caps; what is handed in stays, and the bytes are apart.
func TestEncodeGreat(t *testing.T) {
	great := strings.Repeat("x", 1<<17)
	h := headOf(great, great, great)
	for range 999 {
		h.Fields = append(h.Fields, api.Header{Name: "b", Value: "1"})
	}
	wantHead(t, h)
	h = headOf("a", "b", "1")
	one, _ := head.Encode(h)
	two, _ := head.Encode(h)
	_ = append(one, 'z')
	one[0], one[len(one)-1] = 'z', 'z'
	if string(two) != "a\r\nb: 1\r\n\r\n" || !same(h, headOf("a", "b", "1")) {
		t.Errorf("one was changed: %q, %s", two, shown(h))
	}
}

// numbered is a value with its field's number.
type numbered struct {
	number int
	value  string
}

// gone goes over at most so many values, leaves then, and is what it went over.
func gone(seq iter.Seq2[int, string], most int) []numbered {
	var l []numbered
	if most == 0 {
		return l
	}
	for number, value := range seq {
		l = append(l, numbered{number, value})
		if len(l) == most {
			break
		}
	}
	return l
}

// named are heads with a name that is asked for, and what Each tells of it.
var named = []struct {
	h    api.Head
	name string
	want []numbered
}{
	{api.Head{}, "", nil},
	{api.Head{}, "a", nil},
	{headOf("a"), "a", nil},
	{headOf("GET /", "a", "1", "a", "2"), "A", []numbered{{0, "1"}, {1, "2"}}},
	{headOf("GET /", "a", "1", "b", "2"), "a", []numbered{{0, "1"}}},
	{headOf("GET /", "a", "1", "b", "2"), "b", []numbered{{1, "2"}}},
	{headOf("GET /", "a", "1", "b", "2"), "B", []numbered{{1, "2"}}},
	{headOf("GET /", "a", "1", "b", "2"), "c", nil},
	{headOf("GET /", "a", "1", "b", "2"), "", nil},
	{headOf("GET /", "a", "1", "b", "2"), "GET /", nil},
	{headOf("GET /", "a", "1", "b", "2"), "1", nil},
	{headOf("GET /", "a", "1", "b", "2"), " a", nil},
	{headOf("GET /", "a", "1", "b", "2"), "a:", nil},
	{headOf("GET /", "aa", "1", "a", "2", "aaa", "3"), "aa", []numbered{{0, "1"}}},
	{headOf("GET /", "aa", "1", "a", "2", "aaa", "3"), "a", []numbered{{1, "2"}}},
	{headOf("x", "a", "1", "b", "2", "a", "3", "c", "4", "a", "5", "b", "6"), "a", []numbered{{0, "1"}, {2, "3"}, {4, "5"}}},
	{headOf("x", "a", "1", "b", "2", "a", "3", "c", "4", "a", "5", "b", "6"), "B", []numbered{{1, "2"}, {5, "6"}}},
	{headOf("x", "a", "", "b", "2", "a", ""), "a", []numbered{{0, ""}, {2, ""}}},
	{headOf("x", "a", "1, 2", "a", "3"), "a", []numbered{{0, "1, 2"}, {1, "3"}}},
	{headOf("x", "a", "", "a", "1", "a", ""), "a", []numbered{{0, ""}, {1, "1"}, {2, ""}}},
	{headOf("x", "a", "1", "a", "1", "a", "1"), "a", []numbered{{0, "1"}, {1, "1"}, {2, "1"}}},
	{headOf("x", "last-event-id", "7", "host", "x"), "Last-Event-ID", []numbered{{0, "7"}}},
	// Heads that may not be are asked, too: their names are held against the name in small letters.
	{headOf("", "A", "1", "a", "2"), "a", []numbered{{0, "1"}, {1, "2"}}},
	{headOf("", "A", "1", "a", "2"), "A", []numbered{{0, "1"}, {1, "2"}}},
	{headOf("x", "", "1", "a", "2"), "", []numbered{{0, "1"}}},
	{headOf("x", "a ", " 1 ", "a", "2\r\n"), "a", []numbered{{1, "2\r\n"}}},
	{headOf("x", "a ", " 1 ", "a", "2\r\n"), "A ", []numbered{{0, " 1 "}}},
	{headOf("x", "@", "1", "`", "2", "[", "3", "{", "4"), "@", []numbered{{0, "1"}}},
	{headOf("x", "\xff", "1", "\u00c4", "2", "\u00e4", "3"), "\u00e4", []numbered{{2, "3"}}},
}

// P10.3: Get and Each, at names that no field has, that one has, that several have.
func TestNamed(t *testing.T) {
	for _, c := range named {
		if got := gone(head.Each(c.h, c.name), most); !slices.Equal(got, c.want) {
			t.Errorf("Each(%s, %q): %v; want %v", shown(c.h), c.name, got, c.want)
		}
		want := ""
		for place, one := range c.want {
			if place > 0 {
				want += ", "
			}
			want += one.value
		}
		if got, many := head.Get(c.h, c.name); got != want || many != len(c.want) {
			t.Errorf("Get(%s, %q): %q, %d; want %q, %d", shown(c.h), c.name, got, many, want, len(c.want))
		}
	}
}

// P10.3: Each may be left at any time, and gone over again.
func TestEachLeft(t *testing.T) {
	for _, c := range named {
		seq := head.Each(c.h, c.name)
		for round := range 2 {
			for most := range len(c.want) + 1 {
				if got := gone(seq, most); !slices.Equal(got, c.want[:most]) {
					t.Errorf("Each(%s, %q), left behind %d: %v", shown(c.h), c.name, most, got)
				}
			}
			if got := gone(seq, most); !slices.Equal(got, c.want) {
				t.Errorf("Each(%s, %q), round %d: %v", shown(c.h), c.name, round, got)
			}
		}
	}
	h := headOf("x", "a", "1", "b", "2", "a", "3", "a", "4", "a", "5")
	for most := 1; most < 4; most++ {
		calls := 0
		head.Each(h, "a")(func(int, string) bool {
			calls++
			return calls < most
		})
		if calls != most {
			t.Errorf("left behind %d: %d are told", most, calls)
		}
	}
}

// P10.3: goings over do not change one another; what a body gives up by passes through.
func TestEachWithin(t *testing.T) {
	h := headOf("x", "a", "1", "b", "2", "a", "3")
	want := []numbered{{0, "1"}, {2, "3"}}
	seq := head.Each(h, "a")
	var outer []numbered
	for number, value := range seq {
		outer = append(outer, numbered{number, value})
		if inner := gone(seq, most); !slices.Equal(inner, want) {
			t.Errorf("within: %v", inner)
		}
	}
	if !slices.Equal(outer, want) {
		t.Errorf("about another one: %v", outer)
	}
	func() {
		defer func() {
			if got := recover(); got != "mine" {
				t.Errorf("a body's panic: %v", got)
			}
		}()
		for range seq {
			panic("mine")
		}
	}()
	if got := gone(seq, most); !slices.Equal(got, want) {
		t.Errorf("behind a panic: %v", got)
	}
}

// P10.3: what Each goes over is as it was when it was called; the head stays as it is.
func TestEachApart(t *testing.T) {
	h := headOf("x", "a", "1", "b", "2", "a", "3")
	seq := head.Each(h, "a")
	head.Get(h, "a")
	if !same(h, headOf("x", "a", "1", "b", "2", "a", "3")) {
		t.Errorf("what was handed in is %s now", shown(h))
	}
	h.Fields[0].Value, h.Fields[1].Name, h.Fields[2].Name = "9", "a", "c"
	if got := gone(seq, most); !slices.Equal(got, []numbered{{0, "1"}, {2, "3"}}) {
		t.Errorf("the head was changed: %v", got)
	}
	h = headOf("x", "a", "1", "a", "2", "a", "3")
	seq = head.Each(h, "a")
	var l []numbered
	for number, value := range seq {
		l = append(l, numbered{number, value})
		h.Fields[2].Value = "9"
	}
	if !slices.Equal(l, []numbered{{0, "1"}, {1, "2"}, {2, "3"}}) {
		t.Errorf("the head was changed within: %v", l)
	}
}

// P10.3: Same of heads that are the same, and of such as differ in one part alone.
func TestSame(t *testing.T) {
	base := func() api.Head { return headOf("x", "a", "1", "b", "2") }
	if !head.Same(base(), base()) || !head.Same(api.Head{}, api.Head{}) || !head.Same(headOf("x"), headOf("x")) {
		t.Error("the same ones are not")
	}
	if !head.Same(api.Head{First: "x"}, api.Head{First: "x", Fields: []api.Header{}}) || !head.Same(api.Head{Fields: []api.Header{}}, api.Head{}) {
		t.Error("no fields, nil and empty, are not the same")
	}
	for _, other := range []api.Head{
		headOf("y", "a", "1", "b", "2"), headOf("X", "a", "1", "b", "2"), headOf("", "a", "1", "b", "2"), headOf("x ", "a", "1", "b", "2"),
		headOf("x", "c", "1", "b", "2"), headOf("x", "A", "1", "b", "2"), headOf("x", "a", "1", "B", "2"), headOf("x", "a", "1", "c", "2"),
		headOf("x", "a", "3", "b", "2"), headOf("x", "a", "1", "b", "3"), headOf("x", "a", "", "b", "2"), headOf("x", "a", "1", "b", ""), headOf("x", "a", "1 ", "b", "2"),
		headOf("x", "b", "2", "a", "1"), headOf("x", "a", "1"), headOf("x", "b", "2"), headOf("x"), {},
		headOf("x", "a", "1", "b", "2", "c", "3"), headOf("x", "a", "1", "b", "2", "b", "2"), headOf("x", "a", "1", "b", "2", "", ""), headOf("x", "", "", "a", "1", "b", "2"),
		headOf("x", "a", "2", "b", "1"), headOf("x", "b", "1", "a", "2"), headOf("xa", "", "1", "b", "2"), headOf("x", "a1", "", "b", "2"),
	} {
		if head.Same(base(), other) || head.Same(other, base()) {
			t.Errorf("%s and %s: the same", shown(base()), shown(other))
		}
		if !head.Same(other, other) {
			t.Errorf("%s and itself: not the same", shown(other))
		}
	}
}

// rows goes over all texts of up to so many of a few pieces.
func rows(most int, of ...string) iter.Seq[string] {
	return func(yield func(string) bool) {
		level := []string{""}
		for range most + 1 {
			var next []string
			for _, row := range level {
				if !yield(row) {
					return
				}
				for _, piece := range of {
					next = append(next, row+piece)
				}
			}
			level = next
		}
	}
}

// P10.1, P10.2: every short text of a few pieces, by several caps.
func TestShortTexts(t *testing.T) {
	for _, c := range []api.HeadCaps{wide, {Line: 1, Bytes: 9, Fields: 1}, {Line: 3, Bytes: 7, Fields: 0}, {Line: 2, Bytes: 99, Fields: 1}} {
		for s := range rows(5, "a", ":", " ", "\t", "\r\n", "\r", "\n", "B: ", "\x00") {
			wantBytes(t, c, s)
			if t.Failed() {
				t.FailNow()
			}
		}
	}
}

// P10.1, P10.2, P10.4: every short text behind a first line, in single bytes, too.
func TestShortFields(t *testing.T) {
	for _, c := range []api.HeadCaps{wide, {Line: 4, Bytes: 12, Fields: 1}, {Line: 2, Bytes: 99, Fields: 2}} {
		for s := range rows(4, "a", ":", " ", "\t", "\r\n", "\r", "B:1\r\n") {
			wantBytes(t, c, "a\r\n"+s)
			wantSingle(t, c, "a\r\n"+s+"\r\n\r\n")
			if t.Failed() {
				t.FailNow()
			}
		}
	}
}

// some are texts with which heads begin, right and wrong ones.
var some = []string{
	"GET /a HTTP/1.1\r\nHost: x\r\nAccept: text/event-stream\r\nLast-Event-ID: 7\r\n\r\nbehind",
	"HTTP/1.1 200 \r\nContent-Type:text/event-stream;charset=utf-8\r\nTransfer-Encoding:\tchunked\t\r\n\r\n5\r\nhello\r\n",
	"a\r\n\r\n", "a\r\nb:\r\n\r\n", "a\r\nb: \t \r\n\r\n", "a\r\nb: c: d\r\nb: c\r\n\r\n", "\t\r\n\r\n", "\xff\r\nx: \xfe\r\n\r\n",
	"", "\r\n\r\n", " a\r\n\r\n", "a\n\n", "a\r\nb\r\n\r\n", "a\r\n b: 1\r\n\r\n", "a\r\nb: 1\r\n c\r\n\r\n", "a\r\nb: 1\r\r\n\r\n",
	"a\r\nb: \x00\r\n\r\n", "a\r\nb : 1\r\n\r\n", "a\r\n: 1\r\n\r\n", "a\r\nb: 1\r\nc: 2\r\n", "a\r\n\n", "a\r\n\r", "\r",
}

// P10.4: however bytes come in pieces, the same is told.
func TestPieces(t *testing.T) {
	for _, c := range []api.HeadCaps{wide, {Line: 99, Bytes: 11, Fields: 9}, {Line: 4, Bytes: 99, Fields: 9}, {Line: 99, Bytes: 99, Fields: 1}, {Line: 1, Bytes: 1, Fields: 0}} {
		for _, s := range some {
			wantBytes(t, c, s)
			wantCuts(t, c, s)
		}
	}
}

// P10.4: in three pieces, one of which may be empty.
func TestThreePieces(t *testing.T) {
	for _, s := range some[2:] {
		whole := byWords(wide, s)
		for one := range len(s) + 1 {
			for two := one; two <= len(s); two++ {
				r := newReader(t, wide)
				got := write(r, s[:one], s[one:two], s[two:])
				got.used = whole.used
				if !got.is(whole) {
					t.Errorf("%q cut at %d and %d: %v; want %v", s, one, two, got, whole)
				}
			}
		}
	}
}

// grid goes over heads of a few parts.
func grid() iter.Seq[api.Head] {
	firsts := []string{"a", "a ", "\ta", ":", "GET / HTTP/1.1", "\xff", "", " a", "a\r", "\x00"}
	names := []string{"b", "x-y", "!", "", "B", "b ", ":"}
	values := []string{"", "1", "a: b", "\xff \t\xff", " 1", "1\t", "1\r\n", "\x7f"}
	return func(yield func(api.Head) bool) {
		for _, first := range firsts {
			l := []api.Head{headOf(first)}
			for _, name := range names {
				for _, value := range values {
					l = append(l, headOf(first, name, value), headOf(first, "b", "1", name, value), headOf(first, name, value, "b", ""), headOf(first, name, value, name, value, "c", "c"))
				}
			}
			for _, h := range l {
				if !yield(h) {
					return
				}
			}
		}
	}
}

// P10.3, P10.4: Of of Encode of a head within the caps is the head.
func TestOfEncode(t *testing.T) {
	count := 0
	for h := range grid() {
		wantHead(t, h)
		b, e := head.Encode(h)
		if e != api.OK {
			continue
		}
		count++
		line := len(h.First)
		for _, f := range h.Fields {
			line = max(line, len(f.Name)+2+len(f.Value))
		}
		for _, c := range []api.HeadCaps{wide, widest, {Line: line, Bytes: len(b), Fields: len(h.Fields)}} {
			got, used, e := head.Of(c, append(slices.Clone(b), "\r\nx: y"...))
			if e != api.OK || used != len(b) || !same(got, h) || !head.Same(got, h) {
				t.Errorf("Of(%+v, Encode(%s)): %s, %d of %d, errno %d", c, shown(h), shown(got), used, len(b), int(e))
			}
		}
		if _, _, e := head.Of(api.HeadCaps{Line: 99, Bytes: len(b) - 1, Fields: 9}, b); e != api.ErrLarge {
			t.Errorf("Of of Encode(%s), in one byte less: errno %d", shown(h), int(e))
		}
	}
	if count < 100 {
		t.Errorf("%d heads", count)
	}
}

// P10.4: what Of tells is a head, and has an Encode of which Of tells the same, and Encode the same.
func TestEncodeOf(t *testing.T) {
	count := 0
	for fields := range rows(3, "b:1\r\n", "B: 2 \r\n", "x-Y:\t\r\n", "c: d:e\r\n", "c\r\n", " \r\n") {
		for _, first := range []string{"a", "a ", "\t", " a", "", "HTTP/1.1 200 OK"} {
			s := first + "\r\n" + fields + "\r\n"
			wantBytes(t, wide, s)
			h, used, e := head.Of(wide, []byte(s))
			if e != api.OK {
				continue
			}
			count++
			if used != len(s) || head.Check(h) != api.OK || !mayBe(h) {
				t.Errorf("Of(%q): %s, %d, which is no head", s, shown(h), used)
			}
			b, e := head.Encode(h)
			again, used, no := head.Of(widest, b)
			if e != api.OK || no != api.OK || used != len(b) || !same(h, again) {
				t.Errorf("Of(%q): %s; of its Encode %s, errno %d", s, shown(h), shown(again), int(no))
			}
			if twice, _ := head.Encode(again); !bytes.Equal(twice, b) {
				t.Errorf("Of(%q): Encode %q, then %q", s, b, twice)
			}
		}
	}
	if count < 100 {
		t.Errorf("%d heads", count)
	}
}

// shares tells whether two texts have memory together.
func shares(a, b string) bool {
	if a == "" || b == "" {
		return false
	}
	x, y := uintptr(unsafe.Pointer(unsafe.StringData(a))), uintptr(unsafe.Pointer(unsafe.StringData(b)))
	return x < y+uintptr(len(b)) && y < x+uintptr(len(a))
}

// P10.3: what Get and Each tell is memory of their own, also of one value.
func TestNewMemory(t *testing.T) {
	value := strings.Clone("a value")
	h := headOf("x", "b", value)
	got, many := head.Get(h, "b")
	again, _ := head.Get(h, "b")
	if many != 1 || got != value || shares(got, value) || shares(got, again) {
		t.Errorf("Get: %q, %d, in another one's memory", got, many)
	}
	var l []string
	for range 2 {
		for _, one := range head.Each(h, "b") {
			l = append(l, one)
		}
	}
	if len(l) != 2 || shares(l[0], value) || shares(l[0], l[1]) {
		t.Errorf("Each: %q, in another one's memory", l)
	}
}

// kept is how much memory is, when all that is not needed has gone.
func kept() int {
	var m runtime.MemStats
	runtime.GC()
	runtime.ReadMemStats(&m)
	return int(m.HeapAlloc)
}

// P10.1, P10.2: short texts of long lines hold on to nothing else of them, nor does a reader that is at its end.
func TestKept(t *testing.T) {
	const count, bound = 256, 1 << 20
	line := strings.Repeat(" ", 8000)
	before := kept()
	var readers []*head.Reader
	var heads []api.Head
	for number := range count {
		ends := [2]string{"\r\n", "\x00"}[number%2]
		r := newReader(t, widest)
		r.Write([]byte("a\r\nb:" + line + "1\r\n" + "c:" + line + "\r\n" + ends))
		readers = append(readers, r)
		h, _, _ := head.Of(widest, []byte("a\r\nb:"+line+"1\r\n\r\n"+line))
		heads = append(heads, h)
	}
	if after := kept(); after-before > bound {
		t.Errorf("%d bytes are kept of %d short heads", after-before, count)
	}
	for number := range count {
		if !same(readers[number].Head(), headOf("a", "b", "1", "c", "")) || !same(heads[number], headOf("a", "b", "1")) {
			t.Fatalf("%s, %s", shown(readers[number].Head()), shown(heads[number]))
		}
	}
}

// P10.1, P10.2, P10.3: the chapter's examples.
func TestExamples(t *testing.T) {
	h, used, e := head.Of(wide, []byte("GET /\r\nA: 1\r\na:2\r\n\r\nx"))
	if !same(h, headOf("GET /", "a", "1", "a", "2")) || used != 20 || e != api.OK {
		t.Errorf("Of: %s, %d, errno %d", shown(h), used, int(e))
	}
	if values, many := head.Get(h, "A"); values != "1, 2" || many != 2 {
		t.Errorf("Get: %q, %d", values, many)
	}
	for s, want := range map[string]api.Errno{"\r\n": api.ErrHead, "a\n": api.ErrHead, "a\r\nb\r\n": api.ErrHead, "a\r\n": api.ErrMore} {
		if h, used, e := head.Of(wide, []byte(s)); !same(h, api.Head{}) || used != 0 || e != want {
			t.Errorf("Of(%q): %s, %d, errno %d", s, shown(h), used, int(e))
		}
	}
}

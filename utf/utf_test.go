package utf_test

import (
	"bytes"
	"iter"
	"math"
	"slices"
	"strings"
	"sync"
	"testing"
	"unicode/utf8"

	"bellman/api"
	"bellman/utf"
)

// instead is what is told where no point's bytes stand.
const instead = "\xef\xbf\xbd"

// spot is a point with its place.
type spot struct{ place, point int }

// isPoint tells it as the chapter's words do.
func isPoint(n int) bool { return 0 <= n && n <= 0x10ffff && (n < 0xd800 || n > 0xdfff) }

// byWords is a point's bytes, as the chapter's words tell them.
func byWords(p int) []byte {
	switch {
	case p <= 0x7f:
		return []byte{byte(p)}
	case p <= 0x7ff:
		return []byte{byte(0xc0 + p/64), byte(0x80 + p%64)}
	case p <= 0xffff:
		return []byte{byte(0xe0 + p/4096), byte(0x80 + p/64%64), byte(0x80 + p%64)}
	}
	return []byte{byte(0xf0 + p/262144), byte(0x80 + p/4096%64), byte(0x80 + p/64%64), byte(0x80 + p%64)}
}

// begun are the bytes with which some point's bytes of more begin.
var begun = sync.OnceValue(func() map[string]bool {
	l := map[string]bool{}
	for p := range 0x110000 {
		if !isPoint(p) {
			continue
		}
		b := byWords(p)
		for size := 1; size < len(b); size++ {
			l[string(b[:size])] = true
		}
	}
	return l
})

// spots are what should be told of bytes, by what the chapter's words say of each place; rest is what waits of them, if they do not end.
func spots(b []byte) (l []spot, rest []byte) {
	for place := 0; place < len(b); {
		left := b[place:]
		r, size := utf8.DecodeRune(left)
		if r == utf8.RuneError && size == 1 {
			if begun()[string(left)] {
				rest = left
			}
			for size = min(4, len(left)); size > 1 && !begun()[string(left[:size])]; size-- {
			}
		}
		l = append(l, spot{place, int(r)})
		place += size
	}
	return l, rest
}

// sound is what bytes should be made.
func sound(b []byte) string {
	var told strings.Builder
	l, _ := spots(b)
	for _, s := range l {
		told.Write(byWords(s.point))
	}
	return told.String()
}

// edges are bytes at which something else begins or ends: what they are, or what they may follow.
const edges = "\x00a\x7f\x80\x8f\x90\x9f\xa0\xbf\xc0\xc1\xc2\xdf\xe0\xe1\xec\xed\xee\xef\xf0\xf1\xf3\xf4\xf5\xff"

// rows goes over all rows of at most so many of these bytes; a row is there only till the next one.
func rows(most int, of string) iter.Seq[[]byte] {
	return func(yield func([]byte) bool) {
		for size := range most + 1 {
			count := int(math.Pow(float64(len(of)), float64(size)))
			row := make([]byte, size)
			for n := range count {
				for place := range row {
					row[place] = of[n%len(of)]
					n /= len(of)
				}
				if !yield(row) {
					return
				}
			}
		}
	}
}

// gone goes over at most so many points, leaves then, and is what it went over.
func gone(seq iter.Seq2[int, int], most int) []spot {
	var l []spot
	if most == 0 {
		return l
	}
	for place, point := range seq {
		l = append(l, spot{place, point})
		if len(l) == most {
			break
		}
	}
	return l
}

func wantEach(t *testing.T, s string, want []spot) {
	t.Helper()
	if got := gone(utf.Each(s), math.MaxInt); !slices.Equal(got, want) {
		t.Errorf("Each(% x): %x; want %x", s, got, want)
	}
}

func wantBytes(t *testing.T, point int, want string) {
	t.Helper()
	if b, ok := utf.Bytes(point); string(b) != want || !ok {
		t.Errorf("Bytes(%x): % x %v; want % x", point, b, ok, want)
	}
}

// wantNoBytes asks for those of what is no point.
func wantNoBytes(t *testing.T, point int) {
	t.Helper()
	if b, ok := utf.Bytes(point); b != nil || ok {
		t.Errorf("Bytes(%x), which is no point: % x %v", point, b, ok)
	}
}

// wantWrite lets bytes come; told and waits are what should be told, and wait then.
func wantWrite(t *testing.T, d *utf.Decoder, b, told, waits string) {
	t.Helper()
	if got, e := d.Write([]byte(b)); got != told || e != api.OK {
		t.Errorf("Write(% x): % x, errno %d; want % x", b, got, int(e), told)
	}
	if got := d.Waits(); string(got) != waits {
		t.Errorf("Waits, behind Write(% x): % x; want % x", b, got, waits)
	}
}

func wantEnd(t *testing.T, d *utf.Decoder, told string) {
	t.Helper()
	if got, e := d.End(); got != told || e != api.OK {
		t.Errorf("End: % x, errno %d; want % x", got, int(e), told)
	}
	if got := d.Waits(); len(got) != 0 {
		t.Errorf("Waits, behind End: % x", got)
	}
}

// begins are bytes with which points' bytes of more begin, of each kind and length.
func begins() []string {
	return []string{"\xc2", "\xdf", "\xe0", "\xe0\xa0", "\xe1\x80", "\xe2\x82", "\xed", "\xed\x9f", "\xee", "\xef\xbf",
		"\xf0", "\xf0\x9f", "\xf0\x9f\x98", "\xf0\x90", "\xf0\x90\x80", "\xf1", "\xf3\xbf\xbf", "\xf4", "\xf4\x8f", "\xf4\x8f\xbf"}
}

// nones are what is no decoder: none at all, and one that New did not make.
func nones() []*utf.Decoder { return []*utf.Decoder{nil, {}, new(utf.Decoder)} }

// P4.1, P4.2: the chapter's examples.
func TestExamples(t *testing.T) {
	for _, c := range []struct{ b, want string }{
		{"\x61\xc3\xa9\xff\x62", "\x61\xc3\xa9\xef\xbf\xbd\x62"},
		{"\xe2\x82\x62", "\xef\xbf\xbd\x62"},
		{"\xf0\x9f\x98", "\xef\xbf\xbd"},
		{"\xed\xa0\x80", "\xef\xbf\xbd\xef\xbf\xbd\xef\xbf\xbd"},
		{"\xc0\x80", "\xef\xbf\xbd\xef\xbf\xbd"},
	} {
		if got := utf.Of([]byte(c.b)); got != c.want {
			t.Errorf("Of(% x): % x; want % x", c.b, got, c.want)
		}
	}
	wantEach(t, "\x61\xff\xc3\xa9", []spot{{0, 0x61}, {1, 0xfffd}, {2, 0xe9}})
	d := utf.New()
	wantWrite(t, d, "\xe2\x82", "", "\xe2\x82")
	wantWrite(t, d, "\xac\x61", "\xe2\x82\xac\x61", "")
	wantEnd(t, d, "")
}

// P4.1: Bytes at each end of a length, and of a gap.
func TestBytes(t *testing.T) {
	for _, c := range []struct {
		point int
		want  string
	}{
		{0x0, "\x00"}, {0xa, "\n"}, {0xd, "\r"}, {0x61, "a"}, {0x7f, "\x7f"},
		{0x80, "\xc2\x80"}, {0xbf, "\xc2\xbf"}, {0xc0, "\xc3\x80"}, {0xe9, "\xc3\xa9"}, {0x7ff, "\xdf\xbf"},
		{0x800, "\xe0\xa0\x80"}, {0xfff, "\xe0\xbf\xbf"}, {0x1000, "\xe1\x80\x80"}, {0x20ac, "\xe2\x82\xac"},
		{0xcfff, "\xec\xbf\xbf"}, {0xd000, "\xed\x80\x80"}, {0xd7ff, "\xed\x9f\xbf"}, {0xe000, "\xee\x80\x80"},
		{0xfeff, "\xef\xbb\xbf"}, {0xfffd, "\xef\xbf\xbd"}, {0xffff, "\xef\xbf\xbf"},
		{0x10000, "\xf0\x90\x80\x80"}, {0x1f600, "\xf0\x9f\x98\x80"}, {0x3ffff, "\xf0\xbf\xbf\xbf"},
		{0x40000, "\xf1\x80\x80\x80"}, {0xfffff, "\xf3\xbf\xbf\xbf"}, {0x100000, "\xf4\x80\x80\x80"}, {0x10ffff, "\xf4\x8f\xbf\xbf"},
	} {
		wantBytes(t, c.point, c.want)
	}
}

// P4.1: what is no point has no bytes, however near to one or far from all it is.
func TestBytesNone(t *testing.T) {
	for _, n := range []int{
		-1, -2, -0x61, -0xd800, -0x110000, math.MinInt32, math.MinInt, math.MinInt + 0x61,
		0xd800, 0xd801, 0xdabc, 0xdbff, 0xdc00, 0xdffe, 0xdfff,
		0x110000, 0x110001, 0x13ffff, 0x1fffff, 0x200000, 1 << 31, 1<<32 + 0x61, 1<<32 + 0x20ac, 1 << 62, math.MaxInt32, math.MaxInt,
	} {
		wantNoBytes(t, n)
	}
}

// P4.1: Bytes, Sound, Of and Each of every number that is, or nearly is, a point.
func TestEveryPoint(t *testing.T) {
	for p := -0x100; p < 0x111000; p++ {
		if !isPoint(p) {
			wantNoBytes(t, p)
			continue
		}
		b := byWords(p)
		if string(b) != string(rune(p)) {
			t.Fatalf("the bytes of %x that the test asks for are wrong: % x", p, b)
		}
		wantBytes(t, p, string(b))
		if !utf.Sound(string(b)) || utf.Of(b) != string(b) {
			t.Errorf("the bytes of %x: Sound %v, Of % x", p, utf.Sound(string(b)), utf.Of(b))
		}
		wantEach(t, string(b), []spot{{0, p}})
		if t.Failed() {
			t.FailNow()
		}
	}
}

// P4.1: what Bytes answers is new memory.
func TestBytesShares(t *testing.T) {
	for _, p := range []int{0x61, 0xe9, 0x20ac, 0x1f600} {
		first, _ := utf.Bytes(p)
		second, _ := utf.Bytes(p)
		_ = append(first, 'x')
		for i := range first {
			first[i] = 'x'
		}
		if string(second) != string(rune(p)) {
			t.Errorf("Bytes(%x) shares what it answers: % x", p, second)
		}
		wantBytes(t, p, string(rune(p)))
	}
}

// broken are bytes that are not sound, each with what is told of them.
func broken() []struct {
	b    string
	want []spot
} {
	const x = 0xfffd
	return []struct {
		b    string
		want []spot
	}{
		// No point's bytes.
		{"\x80", []spot{{0, x}}}, {"\xbf", []spot{{0, x}}}, {"\xfe", []spot{{0, x}}}, {"\xff", []spot{{0, x}}},
		{"\x80\xbf", []spot{{0, x}, {1, x}}}, {"a\x80b", []spot{{0, 'a'}, {1, x}, {2, 'b'}}},
		{"\xc3\xa9\xa9", []spot{{0, 0xe9}, {2, x}}}, {"\xff\xfe", []spot{{0, x}, {1, x}}},
		{"\xf8\x88\x80\x80\x80", []spot{{0, x}, {1, x}, {2, x}, {3, x}, {4, x}}},
		// Longer bytes than a point's own.
		{"\xc0\x80", []spot{{0, x}, {1, x}}}, {"\xc0\xaf", []spot{{0, x}, {1, x}}}, {"\xc1\xbf", []spot{{0, x}, {1, x}}},
		{"\xe0\x80\x80", []spot{{0, x}, {1, x}, {2, x}}}, {"\xe0\x9f\xbf", []spot{{0, x}, {1, x}, {2, x}}},
		{"\xf0\x80\x80\x80", []spot{{0, x}, {1, x}, {2, x}, {3, x}}}, {"\xf0\x8f\xbf\xbf", []spot{{0, x}, {1, x}, {2, x}, {3, x}}},
		// The bytes of d800 to dfff, and of 110000 on.
		{"\xed\xa0\x80", []spot{{0, x}, {1, x}, {2, x}}}, {"\xed\xbf\xbf", []spot{{0, x}, {1, x}, {2, x}}},
		{"\xed\xa0\x80\xed\xb0\x80", []spot{{0, x}, {1, x}, {2, x}, {3, x}, {4, x}, {5, x}}},
		{"\xf4\x90\x80\x80", []spot{{0, x}, {1, x}, {2, x}, {3, x}}}, {"\xf5\x80\x80\x80", []spot{{0, x}, {1, x}, {2, x}, {3, x}}},
		// Cut short, at the end.
		{"\xc3", []spot{{0, x}}}, {"\xe2", []spot{{0, x}}}, {"\xe2\x82", []spot{{0, x}}}, {"a\xe2\x82", []spot{{0, 'a'}, {1, x}}},
		{"\xf0", []spot{{0, x}}}, {"\xf0\x9f", []spot{{0, x}}}, {"\xf0\x9f\x98", []spot{{0, x}}}, {"\xf4\x8f\xbf", []spot{{0, x}}},
		// Cut short, ahead of others.
		{"\xc3b", []spot{{0, x}, {1, 'b'}}}, {"\xe2\x82b", []spot{{0, x}, {2, 'b'}}}, {"\xe2b", []spot{{0, x}, {1, 'b'}}},
		{"\xf0\x9f\x98b", []spot{{0, x}, {3, 'b'}}}, {"\xf0\x9f\x98\xff", []spot{{0, x}, {3, x}}},
		{"\xf0\x9f\x98\xe2\x82\xac", []spot{{0, x}, {3, 0x20ac}}}, {"\xe2\x82\xe2\x82", []spot{{0, x}, {2, x}}},
		{"\xc3\xc3\xa9", []spot{{0, x}, {1, 0xe9}}}, {"\xe2\x82\x00", []spot{{0, x}, {2, 0}}},
	}
}

// P4.1: Of, Sound and Each of what is not sound.
func TestBroken(t *testing.T) {
	for _, c := range broken() {
		want := ""
		for _, s := range c.want {
			want += string(rune(s.point))
		}
		if got := utf.Of([]byte(c.b)); got != want {
			t.Errorf("Of(% x): % x; want % x", c.b, got, want)
		}
		if utf.Sound(c.b) {
			t.Errorf("Sound(% x): true", c.b)
		}
		wantEach(t, c.b, c.want)
	}
}

// P4.1: Of, Sound and Each of what is sound, a point fffd in it too.
func TestWhole(t *testing.T) {
	for _, s := range []string{"", "a", "\x00", "\x00\x00", "a\r\nb", "\x7f\u0080\u07ff\u0800\ud7ff\ue000\uffff\U00010000\U0010ffff", "\ufeffa",
		"\ufffd", "a\ufffdb\ufffd", "\u00e9t\u00e9 \u20ac \U0001f600", strings.Repeat("\u20aca", 5000)} {
		var want []spot
		for place, r := range s {
			want = append(want, spot{place, int(r)})
		}
		if !utf.Sound(s) || utf.Of([]byte(s)) != s {
			t.Errorf("%q: Sound %v, Of %q", s, utf.Sound(s), utf.Of([]byte(s)))
		}
		wantEach(t, s, want)
	}
	if utf.Of(nil) != "" {
		t.Errorf("Of of no bytes: %q", utf.Of(nil))
	}
}

// wantRow holds all that is told of bytes against what the chapter's words say of them.
func wantRow(t *testing.T, b []byte) {
	t.Helper()
	l, _ := spots(b)
	wantEach(t, string(b), l)
	got := utf.Of(b)
	if want := sound(b); got != want {
		t.Errorf("Of(% x): % x; want % x", b, got, want)
	}
	if utf.Sound(string(b)) != utf8.Valid(b) {
		t.Errorf("Sound(% x): %v", b, !utf8.Valid(b))
	}
	if !utf.Sound(got) || utf.Of([]byte(got)) != got {
		t.Errorf("Of(% x) is not sound, or not the same again: % x", b, got)
	}
}

// P4.1, P4.3: every row of edges, and every two bytes.
func TestEveryRow(t *testing.T) {
	var all []byte
	for b := range 256 {
		all = append(all, byte(b))
	}
	for _, c := range []struct {
		most int
		of   string
	}{{4, edges}, {2, string(all)}} {
		for row := range rows(c.most, c.of) {
			wantRow(t, row)
			if t.Failed() {
				t.FailNow()
			}
		}
	}
}

// P4.1: Each may be left at any time, and gone over again.
func TestEachLeft(t *testing.T) {
	const s = "a\u00e9\xff\u20ac\xe2\x82b\U0001f600\xf0\x9f"
	whole := []spot{{0, 'a'}, {1, 0xe9}, {3, 0xfffd}, {4, 0x20ac}, {7, 0xfffd}, {9, 'b'}, {10, 0x1f600}, {14, 0xfffd}}
	seq := utf.Each(s)
	for most := 1; most <= len(whole); most++ {
		if got := gone(seq, most); !slices.Equal(got, whole[:most]) {
			t.Errorf("Each, left behind %d: %x", most, got)
		}
		if got := gone(seq, math.MaxInt); !slices.Equal(got, whole) {
			t.Errorf("Each, again: %x", got)
		}
	}
}

// P4.1: what has been left is not asked any more.
func TestEachStops(t *testing.T) {
	for _, s := range []string{"abcdef", "\u20ac\u20ac\u20ac\u20ac\u20ac\u20ac", "\xff\xff\xff\xff\xff\xff", "ab\xff\u20ac\u00e9\xf0\x9f"} {
		seq := utf.Each(s)
		for most := 1; most <= 6; most++ {
			asked := 0
			seq(func(int, int) bool {
				asked++
				return asked < most
			})
			if asked != most {
				t.Errorf("Each(% x): asked %d times, left behind %d", s, asked, most)
			}
		}
	}
}

// P4.1: two that go over the same at the same time do not disturb each other.
func TestEachTwice(t *testing.T) {
	whole := []spot{{0, 'a'}, {1, 0xfffd}, {2, 0xe9}}
	seq := utf.Each("a\xff\u00e9")
	var l []spot
	for place, point := range seq {
		l = append(l, spot{place, point})
		if got := gone(seq, math.MaxInt); !slices.Equal(got, whole) {
			t.Errorf("Each, the inner one: %x", got)
		}
	}
	if !slices.Equal(l, whole) {
		t.Errorf("Each, the outer one: %x", l)
	}
}

// P4.1: of no text there is one to go over, which tells nothing.
func TestEachEmpty(t *testing.T) {
	if utf.Each("") == nil {
		t.Fatal("Each of no text is not there")
	}
	wantEach(t, "", nil)
}

// P4.1, P4.2: what is handed in is not changed, spare room behind it included, and not kept.
func TestHandedIn(t *testing.T) {
	for _, s := range []string{"abc", "a\xff", "a\xe2\x82", "\xf0\x9f\x98", "\u20ac\u20ac", "\xff\xff\xff", ""} {
		room := append([]byte(s), "#######"...)
		d := utf.New()
		wantWrite(t, d, "\xf0\x9f", "", "\xf0\x9f")
		d.Write(room[:len(s)])
		waits := string(d.Waits())
		utf.Of(room[:len(s)])
		if string(room) != s+"#######" {
			t.Errorf("what was handed in was changed: % x", room)
		}
		copy(room, "XXXXXXXXXX")
		if got := d.Waits(); string(got) != waits {
			t.Errorf("what was handed in was kept: % x; want % x", got, waits)
		}
		d.Write([]byte("\x98\x80abcdef"))
		d.End()
		if strings.Trim(string(room), "X#") != "" {
			t.Errorf("a later call changed what was handed in: % x", room)
		}
	}
}

// P4.2: New makes another one each time.
func TestNewApart(t *testing.T) {
	c, d := utf.New(), utf.New()
	if c == nil || d == nil || c == d {
		t.Fatalf("New: %p, %p", c, d)
	}
	wantWrite(t, c, "a\xe2\x82", "a", "\xe2\x82")
	if got := d.Waits(); len(got) != 0 {
		t.Errorf("Waits of another one: % x", got)
	}
	wantEnd(t, d, "")
	wantWrite(t, c, "\xac", "\u20ac", "")
}

// P4.2: Write, piece by piece: what is told, and what waits.
func TestWrite(t *testing.T) {
	type piece struct{ b, told, waits string }
	for _, c := range []struct {
		pieces []piece
		end    string
	}{
		{nil, ""},
		{[]piece{{"", "", ""}, {"", "", ""}}, ""},
		{[]piece{{"abc", "abc", ""}, {"", "", ""}, {"\r\n", "\r\n", ""}, {"\x00", "\x00", ""}}, ""},
		{[]piece{{"\xc3", "", "\xc3"}, {"", "", "\xc3"}, {"\xa9", "\u00e9", ""}}, ""},
		{[]piece{{"a\xc3", "a", "\xc3"}, {"\xa9b\xc3", "\u00e9b", "\xc3"}}, instead},
		{[]piece{{"\xf0", "", "\xf0"}, {"\x9f", "", "\xf0\x9f"}, {"\x98", "", "\xf0\x9f\x98"}, {"\x80", "\U0001f600", ""}}, ""},
		{[]piece{{"\xf0\x9f\x98", "", "\xf0\x9f\x98"}, {"\x80\xf0\x9f\x98", "\U0001f600", "\xf0\x9f\x98"}}, instead},
		{[]piece{{"\xf0\x9f\x98", "", "\xf0\x9f\x98"}, {"", "", "\xf0\x9f\x98"}}, instead},
		{[]piece{{"\xf0\x9f\x98", "", "\xf0\x9f\x98"}, {"b", instead + "b", ""}}, ""},
		{[]piece{{"\xe2\x82", "", "\xe2\x82"}, {"\xe2\x82", instead, "\xe2\x82"}, {"\xac", "\u20ac", ""}}, ""},
		{[]piece{{"\xe2\x82", "", "\xe2\x82"}, {"\xff", instead + instead, ""}}, ""},
		{[]piece{{"\xe0", "", "\xe0"}, {"\x80", instead + instead, ""}, {"\x80", instead, ""}}, ""},
		{[]piece{{"\xed", "", "\xed"}, {"\xa0", instead + instead, ""}, {"\x80", instead, ""}}, ""},
		{[]piece{{"\xf4", "", "\xf4"}, {"\x90", instead + instead, ""}}, ""},
		{[]piece{{"\xc0", instead, ""}, {"\x80", instead, ""}}, ""},
		{[]piece{{"\xff", instead, ""}, {"\x80\x80", instead + instead, ""}, {"\xf5", instead, ""}}, ""},
		{[]piece{{"\xff\xc3", instead, "\xc3"}, {"\xc3", instead, "\xc3"}, {"\xa9", "\u00e9", ""}}, ""},
		{[]piece{{"\ufffd", instead, ""}, {"\xef\xbf", "", "\xef\xbf"}, {"\xbd", instead, ""}}, ""},
		{[]piece{{"\xef\xbb", "", "\xef\xbb"}, {"\xbfa", "\ufeffa", ""}}, ""},
	} {
		d := utf.New()
		for _, p := range c.pieces {
			wantWrite(t, d, p.b, p.told, p.waits)
		}
		wantEnd(t, d, c.end)
	}
}

// P4.2: no piece at all changes nothing.
func TestWriteNil(t *testing.T) {
	d := utf.New()
	wantWrite(t, d, "\xe2\x82", "", "\xe2\x82")
	if told, e := d.Write(nil); told != "" || e != api.OK || string(d.Waits()) != "\xe2\x82" {
		t.Errorf("Write of nothing: % x, errno %d; % x waits", told, int(e), d.Waits())
	}
	wantEnd(t, d, instead)
}

// P4.2: of no decoder nothing is told.
func TestNone(t *testing.T) {
	for i, d := range nones() {
		for _, s := range []string{"", "a", "\xe2\x82", "\xff"} {
			if told, e := d.Write([]byte(s)); told != "" || e != api.ErrNil {
				t.Errorf("%d: Write(% x): % x, errno %d", i, s, told, int(e))
			}
			if b := d.Waits(); b != nil {
				t.Errorf("%d: Waits: % x", i, b)
			}
			if told, e := d.End(); told != "" || e != api.ErrNil {
				t.Errorf("%d: End: % x, errno %d", i, told, int(e))
			}
			if c := d.Copy(); c != nil {
				t.Errorf("%d: Copy: %v", i, c)
			}
		}
	}
}

// P4.2: what Waits answers is new memory, and asking changes nothing.
func TestWaitsShares(t *testing.T) {
	for _, s := range begins() {
		d := utf.New()
		wantWrite(t, d, s, "", s)
		first, second := d.Waits(), d.Waits()
		_ = append(first, 'x', 'x', 'x')
		for i := range first {
			first[i] = 'x'
		}
		if string(second) != s || string(d.Waits()) != s {
			t.Errorf("Waits shares what it answers: % x, % x; want % x", second, d.Waits(), s)
		}
		wantWrite(t, d, "a", instead+"a", "")
		if string(second) != s {
			t.Errorf("Waits shares what it answers, behind Write: % x; want % x", second, s)
		}
	}
}

// P4.2: behind End a decoder is as new: what waited is gone, and what comes then is told as of a new one.
func TestEnd(t *testing.T) {
	for _, s := range begins() {
		d := utf.New()
		wantWrite(t, d, "a"+s, "a", s)
		wantEnd(t, d, instead)
		wantEnd(t, d, "")
		wantWrite(t, d, "", "", "")
		wantWrite(t, d, "\x80", instead, "")
		wantEnd(t, d, "")
		wantWrite(t, d, s, "", s)
		wantEnd(t, d, instead)
		wantWrite(t, d, "\u20ac\xc3", "\u20ac", "\xc3")
		wantWrite(t, d, "\xa9", "\u00e9", "")
		wantEnd(t, d, "")
	}
}

// P4.2: Copy is another one with the same, and both go on apart.
func TestCopy(t *testing.T) {
	d := utf.New()
	wantWrite(t, d, "a\xf0\x9f", "a", "\xf0\x9f")
	c := d.Copy()
	if c == d || c == nil || string(c.Waits()) != "\xf0\x9f" {
		t.Fatalf("Copy: not another one with the same: %v", c)
	}
	wantWrite(t, c, "\x98", "", "\xf0\x9f\x98")
	if string(d.Waits()) != "\xf0\x9f" {
		t.Errorf("Waits of the first one: % x", d.Waits())
	}
	wantWrite(t, d, "b\xc3", instead+"b", "\xc3")
	if string(c.Waits()) != "\xf0\x9f\x98" {
		t.Errorf("Waits of the other one: % x", c.Waits())
	}
	wantWrite(t, c, "\x80", "\U0001f600", "")
	wantEnd(t, c, "")
	wantWrite(t, d, "\xa9", "\u00e9", "")
	wantEnd(t, d, "")
}

// P4.2: Copy at each time, of a new one and behind End too; ending one leaves the other.
func TestCopyEdges(t *testing.T) {
	d := utf.New()
	wantWrite(t, d.Copy(), "\xe2\x82", "", "\xe2\x82")
	wantEnd(t, d.Copy(), "")
	wantWrite(t, d, "\x80", instead, "")
	for _, s := range begins() {
		wantWrite(t, d, s, "", s)
		c := d.Copy()
		wantEnd(t, c, instead)
		if string(d.Waits()) != s {
			t.Errorf("Waits, behind the copy's End: % x; want % x", d.Waits(), s)
		}
		c = d.Copy()
		wantEnd(t, d, instead)
		if string(c.Waits()) != s {
			t.Errorf("Waits of the copy, behind End: % x; want % x", c.Waits(), s)
		}
		wantWrite(t, c, "a", instead+"a", "")
		wantEnd(t, d.Copy(), "")
	}
}

// wantPieces lets pieces come, and holds what is told, and what waits, against what it should be at each time.
func wantPieces(t *testing.T, pieces ...[]byte) {
	t.Helper()
	d := utf.New()
	var came []byte
	told := ""
	for _, piece := range pieces {
		more, e := d.Write(piece)
		came, told = append(came, piece...), told+more
		_, rest := spots(came)
		waits := d.Waits()
		if e != api.OK || !bytes.Equal(waits, rest) || len(waits) > 3 || !utf8.ValidString(more) {
			t.Errorf("Write of % x: % x, errno %d, % x waits; want % x", pieces, more, int(e), waits, rest)
		}
		if want := sound(came[:len(came)-len(rest)]); told != want {
			t.Errorf("Write of % x: % x, together; want % x", pieces, told, want)
		}
	}
	more, e := d.End()
	if want := sound(came); told+more != want || e != api.OK || len(d.Waits()) != 0 || utf.Of(came) != want {
		t.Errorf("Write of % x, with End's: % x, errno %d; Of % x; want % x", pieces, told+more, int(e), utf.Of(came), want)
	}
}

// P4.3: every row of edges, cut into pieces at every choice of places.
func TestEveryPieces(t *testing.T) {
	for row := range rows(3, edges) {
		for cuts := range 1 << max(len(row)-1, 0) {
			pieces, from := [][]byte{}, 0
			for at := 1; at <= len(row); at++ {
				if at == len(row) || cuts>>(at-1)&1 == 1 {
					pieces, from = append(pieces, row[from:at]), at
				}
			}
			wantPieces(t, pieces...)
		}
		if t.Failed() {
			t.FailNow()
		}
	}
}

// P4.3: what is not sound, a byte at a time, and with nothing between.
func TestBrokenPieces(t *testing.T) {
	for _, c := range broken() {
		var single, between [][]byte
		for i := range len(c.b) {
			single = append(single, []byte(c.b[i:i+1]))
			between = append(between, nil, []byte(c.b[i:i+1]), []byte{})
		}
		wantPieces(t, single...)
		wantPieces(t, between...)
	}
}

// chance is a row of numbers that is the same each time.
type chance uint64

func (c *chance) below(n int) int {
	*c = *c*6364136223846793005 + 1442695040888963407
	return int(uint64(*c>>33) % uint64(n))
}

// piece is some bytes: points' bytes, whole or cut short, edges, and any others.
func (c *chance) piece() []byte {
	switch c.below(6) {
	case 0:
		return []byte{edges[c.below(len(edges))]}
	case 1:
		return []byte{byte(c.below(256))}
	case 2:
		return []byte(begins()[c.below(len(begins()))])
	case 3:
		return []byte(broken()[c.below(len(broken()))].b)
	case 4:
		return nil
	}
	b := []byte(string(rune([]int{c.below(0x80), c.below(0x800), c.below(0x10000), c.below(0x110000)}[c.below(4)])))
	return b[:len(b)-c.below(2)*c.below(len(b))]
}

// P4.1, P4.3: long rows of bytes, in whatever pieces.
func TestManyPieces(t *testing.T) {
	for seed := range 300 {
		c := chance(seed)
		var pieces [][]byte
		for range c.below(40) {
			pieces = append(pieces, c.piece())
		}
		whole := slices.Concat(pieces...)
		wantRow(t, whole)
		wantPieces(t, pieces...)
		wantPieces(t, whole)
		for size := 1; size <= 5; size++ {
			wantPieces(t, slices.Collect(slices.Chunk(whole, size))...)
		}
		if t.Failed() {
			t.FailNow()
		}
	}
}

// P4.3: much that comes at once, and much that comes bit by bit: no more than three bytes wait.
func TestMuch(t *testing.T) {
	part := "a\u00e9\u20ac\U0001f600\xff\xe2\x82b\xf0\x9f\x98"
	toldPart := "a\u00e9\u20ac\U0001f600" + instead + instead + "b" + instead
	const times = 50000
	whole, want := []byte(strings.Repeat(part, times)), strings.Repeat(toldPart, times)
	if utf.Of(whole) != want {
		t.Error("Of of much is not what it should be")
	}
	d := utf.New()
	var told strings.Builder
	for _, b := range whole {
		more, _ := d.Write([]byte{b})
		told.WriteString(more)
		if len(d.Waits()) > 3 {
			t.Fatalf("% x waits", d.Waits())
		}
	}
	more, _ := d.End()
	if told.String()+more != want {
		t.Error("what is told of much, bit by bit, is not what it should be")
	}
	points := 0
	for range utf.Each(string(whole)) {
		points++
	}
	if points != 8*times {
		t.Errorf("Each of much: %d points", points)
	}
}

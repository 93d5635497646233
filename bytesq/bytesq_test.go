package bytesq_test

import (
	"bytes"
	"iter"
	"math"
	"slices"
	"strings"
	"testing"

	"bellman/api"
	"bellman/bytesq"
)

// made is a new queue that must be there.
func made(t *testing.T, room int) *bytesq.Queue {
	t.Helper()
	q, e := bytesq.New(room)
	if e != api.OK || q == nil {
		t.Fatalf("New(%d): %v, errno %d", room, q, int(e))
	}
	return q
}

// pushed is a new queue with a text in it.
func pushed(t *testing.T, room int, s string) *bytesq.Queue {
	t.Helper()
	q := made(t, room)
	wantPush(t, q, api.OK, s)
	return q
}

// turned is a queue with a text in it whose bytes stand anywhere: others stood ahead of them and have gone.
func turned(t *testing.T, room, ahead int, s string) *bytesq.Queue {
	t.Helper()
	q := pushed(t, room, strings.Repeat("#", room))
	for range ahead {
		wantDrop(t, q, 1, 1, api.OK)
		wantPush(t, q, api.OK, "#")
	}
	wantDrop(t, q, room, room, api.OK)
	wantPush(t, q, api.OK, s)
	return q
}

func wantPush(t *testing.T, q *bytesq.Queue, e api.Errno, parts ...string) {
	t.Helper()
	l := make([][]byte, len(parts))
	for i, part := range parts {
		l[i] = []byte(part)
	}
	if got := q.Push(l...); got != e {
		t.Errorf("Push(%.60q): errno %d; want %d", parts, int(got), int(e))
	}
}

// wantBytes holds what Take or Peek tells against what it should tell.
func wantBytes(t *testing.T, call string, b []byte, e api.Errno, wantB string, wantE api.Errno) {
	t.Helper()
	if string(b) != wantB || e != wantE || e != api.OK && b != nil {
		t.Errorf("%s: %.60q, errno %d; want %.60q, errno %d", call, b, int(e), wantB, int(wantE))
	}
}

func wantTake(t *testing.T, q *bytesq.Queue, most int, s string, e api.Errno) {
	t.Helper()
	b, got := q.Take(most)
	wantBytes(t, "Take", b, got, s, e)
}

func wantPeek(t *testing.T, q *bytesq.Queue, most int, s string, e api.Errno) {
	t.Helper()
	b, got := q.Peek(most)
	wantBytes(t, "Peek", b, got, s, e)
}

func wantDrop(t *testing.T, q *bytesq.Queue, most, n int, e api.Errno) {
	t.Helper()
	if got, gotE := q.Drop(most); got != n || gotE != e {
		t.Errorf("Drop(%d): %d, errno %d; want %d, errno %d", most, got, int(gotE), n, int(e))
	}
}

// wantHas holds all that a queue tells of itself against what it should have.
func wantHas(t *testing.T, q *bytesq.Queue, s string, room int) {
	t.Helper()
	if q.Len() != len(s) || q.Room() != room {
		t.Errorf("Len %d, Room %d; want %d, %d", q.Len(), q.Room(), len(s), room)
	}
	wantPeek(t, q, math.MaxInt, s, api.OK)
	if got := gone(t, q.All(), math.MaxInt); got != s {
		t.Errorf("All: %.60q; want %.60q", got, s)
	}
}

// gone goes over at most so many bytes, leaves then, and is what it went over.
func gone(t *testing.T, seq iter.Seq2[int, byte], most int) string {
	t.Helper()
	var l []byte
	if most == 0 {
		return ""
	}
	for place, b := range seq {
		if place != len(l) {
			t.Errorf("All: place %d; want %d", place, len(l))
		}
		l = append(l, b)
		if len(l) == most {
			break
		}
	}
	return string(l)
}

// nones are what is no queue: none at all, and one that New did not make.
func nones() []*bytesq.Queue { return []*bytesq.Queue{nil, {}, new(bytesq.Queue)} }

// P2.1: New takes a room of 0 to MaxRoom.
func TestNew(t *testing.T) {
	for _, room := range []int{0, 1, 4, api.MaxRoom - 1, api.MaxRoom} {
		wantHas(t, made(t, room), "", room)
	}
	for _, room := range []int{-1, -4, math.MinInt, api.MaxRoom + 1, 2 * api.MaxRoom, math.MaxInt} {
		if q, e := bytesq.New(room); q != nil || e != api.ErrArg {
			t.Errorf("New(%d): %v, errno %d", room, q, int(e))
		}
	}
}

// P2.1: New makes another one each time.
func TestNewApart(t *testing.T) {
	p, q := made(t, 4), made(t, 4)
	wantPush(t, p, api.OK, "ab")
	wantHas(t, p, "ab", 2)
	wantHas(t, q, "", 4)
}

// P2.1, P2.2: the chapter's examples.
func TestExamples(t *testing.T) {
	q := made(t, 4)
	wantPush(t, q, api.OK, "ab", "c")
	wantPush(t, q, api.ErrRoom, "de")
	wantTake(t, q, 2, "ab", api.OK)
	wantPush(t, q, api.OK, "de")
	wantPeek(t, q, 9, "cde", api.OK)
	wantHas(t, q, "cde", 1)
	wantDrop(t, q, 2, 2, api.OK)
	wantDrop(t, q, -1, 0, api.ErrArg)
	wantHas(t, q, "e", 3)
}

// P2.1: the parts stand one behind the other, behind what waits.
func TestPush(t *testing.T) {
	q := made(t, 20)
	wantPush(t, q, api.OK, "ab")
	wantHas(t, q, "ab", 18)
	wantPush(t, q, api.OK, "c", "", "def", "g")
	wantHas(t, q, "abcdefg", 13)
	wantPush(t, q, api.OK, "\x00\xff\n", "\u00e9")
	wantHas(t, q, "abcdefg\x00\xff\n\u00e9", 8)
	wantPush(t, q, api.OK)
	wantPush(t, q, api.OK, "")
	wantPush(t, q, api.OK, "", "", "")
	if e := q.Push(nil, nil); e != api.OK {
		t.Errorf("Push of nil parts: errno %d", int(e))
	}
	if e := q.Push(nil, []byte("h"), nil); e != api.OK {
		t.Errorf("Push of nil parts and one: errno %d", int(e))
	}
	wantHas(t, q, "abcdefg\x00\xff\n\u00e9h", 7)
}

// P2.1: all parts stand there, or none does.
func TestPushRoom(t *testing.T) {
	for _, c := range []struct {
		room  int
		had   string
		parts []string
		e     api.Errno
	}{
		{4, "", []string{"abcd"}, api.OK},
		{4, "", []string{"a", "bc", "d"}, api.OK},
		{4, "", []string{"abcde"}, api.ErrRoom},
		{4, "", []string{"a", "b", "c", "d", "e"}, api.ErrRoom},
		{4, "", []string{"abcd", "", "e"}, api.ErrRoom},
		{4, "", []string{"abcd", "", ""}, api.OK},
		{4, "", []string{"abcde", ""}, api.ErrRoom},
		{4, "", []string{"", "abcde", "a"}, api.ErrRoom},
		{4, "", []string{"a", "abcdefghij", "b"}, api.ErrRoom},
		{4, "xy", []string{"ab"}, api.OK},
		{4, "xy", []string{"abc"}, api.ErrRoom},
		{4, "xy", []string{"a", "b", "c"}, api.ErrRoom},
		{4, "xyz", []string{"a", "b"}, api.ErrRoom},
		{4, "xyzw", []string{""}, api.OK},
		{4, "xyzw", nil, api.OK},
		{4, "xyzw", []string{"a"}, api.ErrRoom},
		{1, "", []string{"a"}, api.OK},
		{1, "", []string{"ab"}, api.ErrRoom},
		{0, "", nil, api.OK},
		{0, "", []string{"", ""}, api.OK},
		{0, "", []string{"a"}, api.ErrRoom},
	} {
		for ahead := range c.room + 1 {
			q := turned(t, c.room, ahead, c.had)
			wantPush(t, q, c.e, c.parts...)
			has := c.had
			if c.e == api.OK {
				has += strings.Join(c.parts, "")
			}
			wantHas(t, q, has, c.room-len(has))
		}
	}
}

// P2.1: the greatest room, and one byte too long for it.
func TestPushMaxRoom(t *testing.T) {
	whole := strings.Repeat("0123456789abcdef", api.MaxRoom/16)
	q := made(t, api.MaxRoom)
	wantPush(t, q, api.ErrRoom, whole, "x")
	wantPush(t, q, api.ErrRoom, "x", whole)
	wantPush(t, q, api.ErrRoom, whole+"x")
	wantHas(t, q, "", api.MaxRoom)
	wantPush(t, q, api.OK, whole)
	wantPush(t, q, api.ErrRoom, "x")
	wantHas(t, q, whole, 0)
	wantTake(t, q, 1, "0", api.OK)
	wantPush(t, q, api.ErrRoom, "x", "y")
	wantPush(t, q, api.OK, "x")
	wantHas(t, q, whole[1:]+"x", 0)
}

// P2.1: parts that have far more bytes together than there is room for, as long as they may be.
func TestPushHuge(t *testing.T) {
	part := bytes.Repeat([]byte("x"), api.MaxRoom)
	l := make([][]byte, 2047)
	for i := range l {
		l[i] = part
	}
	q := pushed(t, api.MaxRoom, "a")
	if e := q.Push(l...); e != api.ErrRoom {
		t.Errorf("Push of far too much: errno %d", int(e))
	}
	wantHas(t, q, "a", api.MaxRoom-1)
}

// P2.1: what is handed in is not changed, spare room behind it included, and not kept.
func TestPushHandedIn(t *testing.T) {
	for ahead := range 9 {
		room := []byte("abcdefgh")
		first, second := room[:2], room[4:5]
		l := [][]byte{first, second, room[7:7]}[:2]
		q := turned(t, 8, ahead, "##")
		wantTake(t, q, 2, "##", api.OK)
		if e := q.Push(l...); e != api.OK {
			t.Errorf("Push: errno %d", int(e))
		}
		if string(room) != "abcdefgh" || len(l[0]) != 2 || len(l[1]) != 1 || len(l[:3][2]) != 0 {
			t.Errorf("Push changed what was handed in: %q, %q", room, l)
		}
		copy(room, "XXXXXXXX")
		l[0], l[1] = []byte("YY"), []byte("Z")
		wantHas(t, q, "abe", 5)
		wantPush(t, q, api.OK, "12345")
		wantTake(t, q, 8, "abe12345", api.OK)
		if string(room) != "XXXXXXXX" {
			t.Errorf("a later call changed what was handed in: %q", room)
		}
	}
}

// P2.2: Take, Peek and Drop, at most so many.
func TestFirst(t *testing.T) {
	const has = "abcdef"
	for ahead := range 9 {
		for _, most := range []int{0, 1, 2, 5, 6, 7, 8, 9, api.MaxRoom + 1, math.MaxInt} {
			n := min(most, len(has))
			q := turned(t, 8, ahead, has)
			wantPeek(t, q, most, has[:n], api.OK)
			wantPeek(t, q, most, has[:n], api.OK)
			wantHas(t, q, has, 2)
			wantTake(t, q, most, has[:n], api.OK)
			wantHas(t, q, has[n:], 2+n)
			q = turned(t, 8, ahead, has)
			wantDrop(t, q, most, n, api.OK)
			wantHas(t, q, has[n:], 2+n)
		}
	}
}

// P2.2: of an empty queue nothing is told, and it is none the less there.
func TestFirstEmpty(t *testing.T) {
	for _, room := range []int{0, 1, 4, api.MaxRoom} {
		q := made(t, room)
		for _, most := range []int{0, 1, math.MaxInt} {
			wantTake(t, q, most, "", api.OK)
			wantPeek(t, q, most, "", api.OK)
			wantDrop(t, q, most, 0, api.OK)
		}
		wantHas(t, q, "", room)
	}
}

// P2.2: fewer bytes than none are refused, and nothing goes.
func TestFirstRefused(t *testing.T) {
	for _, s := range []string{"", "a", "abcd"} {
		for _, most := range []int{-1, -2, -4, math.MinInt} {
			q := pushed(t, 4, s)
			wantTake(t, q, most, "", api.ErrArg)
			wantPeek(t, q, most, "", api.ErrArg)
			wantDrop(t, q, most, 0, api.ErrArg)
			wantHas(t, q, s, 4-len(s))
		}
	}
}

// P2.2: what is answered shares nothing, not with the queue and not with another answer.
func TestFirstShares(t *testing.T) {
	for ahead := range 9 {
		q := turned(t, 8, ahead, "abcdef")
		first, _ := q.Peek(3)
		second, _ := q.Peek(3)
		third, _ := q.Take(3)
		copy(first, "XXX")
		_ = append(first, "XXXXXX"...)
		_ = append(third, "ZZZZZZ"...)
		wantHas(t, q, "def", 5)
		copy(third, "ZZZ")
		wantPush(t, q, api.OK, "ghijk")
		wantHas(t, q, "defghijk", 0)
		if string(first) != "XXX" || string(second) != "abc" || string(third) != "ZZZ" {
			t.Errorf("answers share: %q, %q, %q", first, second, third)
		}
	}
}

// P2.1 to P2.4: of no queue nothing is told, and ErrNil stands ahead of the other errors.
func TestNone(t *testing.T) {
	for i, q := range nones() {
		wantPush(t, q, api.ErrNil)
		wantPush(t, q, api.ErrNil, "")
		wantPush(t, q, api.ErrNil, "a")
		wantPush(t, q, api.ErrNil, strings.Repeat("a", api.MaxRoom+1))
		for _, most := range []int{math.MinInt, -1, 0, 1, math.MaxInt} {
			wantTake(t, q, most, "", api.ErrNil)
			wantPeek(t, q, most, "", api.ErrNil)
			wantDrop(t, q, most, 0, api.ErrNil)
		}
		if q.Len() != 0 || q.Room() != 0 {
			t.Errorf("%d: Len %d, Room %d", i, q.Len(), q.Room())
		}
		if q.All() == nil {
			t.Fatalf("%d: All is not there", i)
		}
		if s := gone(t, q.All(), 9); s != "" {
			t.Errorf("%d: All: %q", i, s)
		}
		if c := q.Copy(); c != nil {
			t.Errorf("%d: Copy: %v", i, c)
		}
	}
}

// P2.3: All goes over the bytes as they are when it is called.
func TestAllAsTheyAre(t *testing.T) {
	for ahead := range 9 {
		q := turned(t, 8, ahead, "abcdef")
		seq := q.All()
		wantTake(t, q, 4, "abcd", api.OK)
		later := q.All()
		wantPush(t, q, api.OK, "ghijkl")
		if s := gone(t, seq, 99); s != "abcdef" {
			t.Errorf("All, behind Take and Push: %q", s)
		}
		if s := gone(t, later, 99); s != "ef" {
			t.Errorf("All, behind Push: %q", s)
		}
		wantDrop(t, q, 99, 8, api.OK)
		if s := gone(t, seq, 99) + gone(t, later, 99) + gone(t, q.All(), 99); s != "abcdefef" {
			t.Errorf("All, behind Drop: %q", s)
		}
	}
}

// P2.3: All of a queue that is changed while it is gone over.
func TestAllWhileChanged(t *testing.T) {
	q := turned(t, 4, 3, "abcd")
	var l []byte
	for _, b := range q.All() {
		l = append(l, b)
		wantDrop(t, q, 2, 2, api.OK)
		wantPush(t, q, api.OK, "xy")
	}
	if string(l) != "abcd" {
		t.Errorf("All: %q", l)
	}
	wantHas(t, q, "xyxy", 0)
}

// P2.3: All may be left at any time, and gone over again.
func TestAllLeft(t *testing.T) {
	const has = "abcdef"
	for ahead := range 9 {
		seq := turned(t, 8, ahead, has).All()
		for most := 1; most <= len(has); most++ {
			if s := gone(t, seq, most); s != has[:most] {
				t.Errorf("All, left behind %d: %q", most, s)
			}
			if s := gone(t, seq, 99); s != has {
				t.Errorf("All, again: %q", s)
			}
		}
	}
}

// P2.3: what has been left is not asked any more.
func TestAllStops(t *testing.T) {
	seq := pushed(t, 8, "abcdef").All()
	for most := 1; most <= 6; most++ {
		asked := 0
		seq(func(int, byte) bool {
			asked++
			return asked < most
		})
		if asked != most {
			t.Errorf("All: asked %d times, left behind %d", asked, most)
		}
	}
}

// P2.3: two that go over the same at the same time do not disturb each other.
func TestAllTwice(t *testing.T) {
	seq := turned(t, 4, 2, "abcd").All()
	at := 0
	for place, b := range seq {
		if place != at || b != "abcd"[at] {
			t.Errorf("All, the outer one: %d %q", place, b)
		}
		if s := gone(t, seq, 99); s != "abcd" {
			t.Errorf("All, the inner one: %q", s)
		}
		at++
	}
	if at != 4 {
		t.Errorf("All, the outer one: %d bytes", at)
	}
}

// P2.4: Copy is another one with the same, and both go on apart.
func TestCopy(t *testing.T) {
	for ahead := range 9 {
		q := turned(t, 8, ahead, "abcdef")
		c := q.Copy()
		wantHas(t, c, "abcdef", 2)
		if c == q || !bytesq.Same(c, q) {
			t.Errorf("Copy: not another one with the same")
		}
		wantTake(t, q, 3, "abc", api.OK)
		wantPush(t, q, api.OK, "ghijk")
		wantHas(t, c, "abcdef", 2)
		wantPush(t, c, api.ErrRoom, "123")
		wantPush(t, c, api.OK, "12")
		wantHas(t, c, "abcdef12", 0)
		wantHas(t, q, "defghijk", 0)
		wantDrop(t, c, 5, 5, api.OK)
		wantPush(t, c, api.OK, "34567")
		wantHas(t, c, "f1234567", 0)
		wantHas(t, q, "defghijk", 0)
	}
}

// P2.4: Copy of one that is empty, and of one without room.
func TestCopyEmpty(t *testing.T) {
	c := made(t, 0).Copy()
	wantHas(t, c, "", 0)
	wantPush(t, c, api.OK)
	wantPush(t, c, api.ErrRoom, "a")
	q := made(t, 3)
	c = q.Copy()
	wantPush(t, c, api.OK, "abc")
	wantPush(t, c, api.ErrRoom, "d")
	wantHas(t, c, "abc", 0)
	wantHas(t, q, "", 3)
}

// P2.4: Same, of one another, both ways.
func TestSame(t *testing.T) {
	l := []*bytesq.Queue{
		nil,
		made(t, 0), made(t, 1), made(t, 8),
		pushed(t, 8, "a"), pushed(t, 8, "b"), pushed(t, 8, "ab"), pushed(t, 8, "ba"), pushed(t, 8, "\x00"), pushed(t, 8, "\x00\x00"),
		pushed(t, 8, "abcdef"), pushed(t, 8, "abcdeF"), pushed(t, 8, "Abcdef"), pushed(t, 8, "abcde"), pushed(t, 8, "abcdefg"),
		pushed(t, 9, "abcdef"), pushed(t, 9, "abcdefg"), pushed(t, 1, "a"), pushed(t, 2, "ab"),
	}
	for i, a := range l {
		for j, b := range l {
			if bytesq.Same(a, b) != (i == j) || bytesq.Same(a.Copy(), b) != (i == j) || bytesq.Same(a, b.Copy()) != (i == j) {
				t.Errorf("Same of %d and %d: %v", i, j, i != j)
			}
		}
	}
}

// P2.4: where the bytes came from, and what went ahead of them, changes nothing; nor does Same.
func TestSameHowever(t *testing.T) {
	for ahead := range 9 {
		for other := range 9 {
			a, b, c := turned(t, 8, ahead, "abcdef"), turned(t, 8, other, "abcdef"), turned(t, 8, other, "abcdeg")
			if !bytesq.Same(a, b) || !bytesq.Same(b, a) {
				t.Errorf("Same, behind %d and %d: false", ahead, other)
			}
			if bytesq.Same(a, c) || bytesq.Same(c, a) {
				t.Errorf("Same of others, behind %d and %d: true", ahead, other)
			}
			wantHas(t, a, "abcdef", 2)
		}
	}
	for _, a := range nones() {
		for _, b := range nones() {
			if !bytesq.Same(a, b) {
				t.Errorf("Same of none and none: false")
			}
		}
		for _, b := range []*bytesq.Queue{made(t, 0), made(t, 4), pushed(t, 1, "a")} {
			if bytesq.Same(a, b) || bytesq.Same(b, a) {
				t.Errorf("Same of none and one: true")
			}
		}
	}
}

// chance is a row of numbers that is the same each time.
type chance uint64

func (c *chance) below(n int) int {
	*c = *c*6364136223846793005 + 1442695040888963407
	return int(uint64(*c>>33) % uint64(n))
}

// parts are some parts, from a row of bytes that goes on.
func (c *chance) parts(next *byte, longest int) [][]byte {
	l := make([][]byte, c.below(4))
	for i := range l {
		l[i] = make([]byte, c.below(longest+1))
		for j := range l[i] {
			l[i][j] = *next
			*next++
		}
	}
	return l
}

// follow does one call to a queue, and to the plain list that it should be like; it tells what went in and what came out.
func follow(t *testing.T, c *chance, q *bytesq.Queue, list []byte, next *byte, room int) (in, out []byte) {
	t.Helper()
	most := c.below(room+3) - 1
	n, refusal := min(max(most, 0), len(list)), api.OK
	if most < 0 {
		refusal = api.ErrArg
	}
	switch c.below(6) {
	case 0:
		wantTake(t, q, most, string(list[:n]), refusal)
		return nil, list[:n]
	case 1:
		wantPeek(t, q, most, string(list[:n]), refusal)
	case 2:
		b, _ := q.Peek(most)
		wantDrop(t, q, most, n, refusal)
		return nil, b
	default:
		parts := c.parts(next, room/2+1)
		whole := slices.Concat(parts...)
		e := q.Push(parts...)
		if fits := len(list)+len(whole) <= room; fits != (e == api.OK) || !fits && e != api.ErrRoom {
			t.Fatalf("Push of %d bytes behind %d, room %d: errno %d", len(whole), len(list), room, int(e))
		}
		if e == api.OK {
			return whole, nil
		}
	}
	return nil, nil
}

// P2.5: what is taken, one behind the other, is what was pushed, one behind the other; no more wait than there is room for.
func TestTakenIsPushed(t *testing.T) {
	for _, room := range []int{0, 1, 2, 3, 4, 5, 7, 8, 16, 63, 300} {
		c, next := chance(room), byte(0)
		q := made(t, room)
		var in, out []byte
		for range 3000 {
			had := in[len(out):]
			more, less := follow(t, &c, q, had, &next, room)
			in, out = append(in, more...), append(out, less...)
			if q.Len() > room || q.Len()+q.Room() != room {
				t.Fatalf("Len %d, Room %d, room %d at first", q.Len(), q.Room(), room)
			}
			wantHas(t, q, string(in[len(out):]), room-len(in)+len(out))
			if c.below(50) == 0 {
				q = q.Copy()
			}
			if t.Failed() {
				t.FailNow()
			}
		}
		rest, _ := q.Take(room)
		if out = append(out, rest...); !bytes.Equal(in, out) {
			t.Errorf("room %d: what was taken is not what was pushed", room)
		}
	}
}

// P2.5: a queue that is nearly full goes on for long, a byte in and a byte out.
func TestNearlyFull(t *testing.T) {
	q := pushed(t, api.MaxRoom, strings.Repeat("\x00", api.MaxRoom-1))
	for i := range api.MaxRoom + 1000 {
		if e := q.Push([]byte{byte(i)}); e != api.OK {
			t.Fatalf("Push %d: errno %d", i, int(e))
		}
		want := byte(max(0, i-(api.MaxRoom-1)))
		if b, e := q.Take(1); e != api.OK || len(b) != 1 || b[0] != want {
			t.Fatalf("Take %d: %v, errno %d; want %d", i, b, int(e), want)
		}
	}
	if q.Len() != api.MaxRoom-1 || q.Room() != 1 {
		t.Errorf("Len %d, Room %d", q.Len(), q.Room())
	}
}

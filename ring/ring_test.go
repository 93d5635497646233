package ring_test

import (
	"iter"
	"math"
	"slices"
	"testing"

	"bellman/api"
	"bellman/ring"
)

// top is the greatest number; the greatest index that a value gets is one less.
const top = math.MaxUint64

// pair is a value with its index.
type pair struct {
	at  uint64
	val int
}

// run is values with their indices, from a first one on.
func run(first uint64, vals ...int) []pair {
	l := make([]pair, len(vals))
	for i, val := range vals {
		l[i] = pair{first + uint64(i), val}
	}
	return l
}

// made is a new ring that must be there.
func made(t *testing.T, most int, first uint64) *ring.Ring {
	t.Helper()
	r, e := ring.New(most, first)
	if e != api.OK || r == nil {
		t.Fatalf("New(%d, %d): %v, errno %d", most, first, r, int(e))
	}
	return r
}

// filled is a new ring whose first value of these has that index; none of them has gone.
func filled(t *testing.T, most int, first uint64, vals ...int) *ring.Ring {
	t.Helper()
	r := made(t, most, first)
	for i, val := range vals {
		wantPut(t, r, val, first+uint64(i))
	}
	return r
}

// turned is a ring with the same values as a filled one, ahead of which so many others were put in, and went.
func turned(t *testing.T, most, ahead int, first uint64, vals ...int) *ring.Ring {
	t.Helper()
	r := made(t, most, first-uint64(ahead))
	for i := range ahead {
		wantPut(t, r, -i, first-uint64(ahead-i))
		wantDrop(t, r, -i)
	}
	for i, val := range vals {
		wantPut(t, r, val, first+uint64(i))
	}
	return r
}

// wantPut puts a value in that lets none go.
func wantPut(t *testing.T, r *ring.Ring, val int, at uint64) {
	t.Helper()
	if got, gone, had, e := r.Put(val); got != at || gone != 0 || had || e != api.OK {
		t.Errorf("Put(%d): %d, gone %d %v, errno %d; want %d", val, got, gone, had, int(e), at)
	}
}

// wantPutOver puts a value in that lets another one go.
func wantPutOver(t *testing.T, r *ring.Ring, val int, at uint64, gone int) {
	t.Helper()
	if got, gotGone, had, e := r.Put(val); got != at || gotGone != gone || !had || e != api.OK {
		t.Errorf("Put(%d): %d, gone %d %v, errno %d; want %d, gone %d", val, got, gotGone, had, int(e), at, gone)
	}
}

func wantRefused(t *testing.T, r *ring.Ring, val int, want api.Errno) {
	t.Helper()
	if at, gone, had, e := r.Put(val); at != 0 || gone != 0 || had || e != want {
		t.Errorf("Put(%d): %d, gone %d %v, errno %d; want errno %d", val, at, gone, had, int(e), int(want))
	}
}

func wantDrop(t *testing.T, r *ring.Ring, val int) {
	t.Helper()
	if got, had := r.Drop(); got != val || !had {
		t.Errorf("Drop: %d %v; want %d", got, had, val)
	}
}

func wantNoDrop(t *testing.T, r *ring.Ring) {
	t.Helper()
	if got, had := r.Drop(); got != 0 || had {
		t.Errorf("Drop of nothing: %d %v", got, had)
	}
}

func wantGet(t *testing.T, r *ring.Ring, at uint64, val int, has bool) {
	t.Helper()
	if got, had := r.Get(at); got != val || had != has {
		t.Errorf("Get(%d): %d %v; want %d %v", at, got, had, val, has)
	}
}

func wantSet(t *testing.T, r *ring.Ring, at uint64, val, old int, has bool) {
	t.Helper()
	if got, had := r.Set(at, val); got != old || had != has {
		t.Errorf("Set(%d, %d): %d %v; want %d %v", at, val, got, had, old, has)
	}
}

// far are indices of which none is near another one.
func far() []uint64 { return []uint64{0, 1, 1 << 32, 1 << 63, top - 1, top} }

// wantHas holds all that a ring tells of itself against what it should have: these values, and the next index.
func wantHas(t *testing.T, r *ring.Ring, next uint64, vals ...int) {
	t.Helper()
	first := next - uint64(len(vals))
	if r.First() != first || r.Next() != next || r.Len() != len(vals) {
		t.Errorf("First %d, Next %d, Len %d; want %d, %d, %d", r.First(), r.Next(), r.Len(), first, next, len(vals))
	}
	want := run(first, vals...)
	for _, p := range want {
		wantGet(t, r, p.at, p.val, true)
	}
	for _, at := range append(far(), first-1, next, next+1) {
		if at-first >= uint64(len(vals)) {
			wantGet(t, r, at, 0, false)
		}
	}
	wantFrom(t, r.From(0), want)
}

// gone goes over at most so many values, leaves then, and is what it went over.
func gone(seq iter.Seq2[uint64, int], most int) []pair {
	var l []pair
	if most == 0 {
		return l
	}
	for at, val := range seq {
		l = append(l, pair{at, val})
		if len(l) == most {
			break
		}
	}
	return l
}

func wantFrom(t *testing.T, seq iter.Seq2[uint64, int], want []pair) {
	t.Helper()
	if got := gone(seq, math.MaxInt); !slices.Equal(got, want) {
		t.Errorf("From: %v; want %v", got, want)
	}
}

// nones are what is no ring: none at all, and one that New did not make.
func nones() []*ring.Ring { return []*ring.Ring{nil, {}, new(ring.Ring)} }

// P3.1: New takes a cap of 1 to MaxCap, and any first index.
func TestNew(t *testing.T) {
	for _, first := range []uint64{0, 1, 10, 1 << 32, 1<<63 - 1, 1 << 63, top - 2, top - 1, top} {
		for _, most := range []int{1, 2, 3, api.MaxCap - 1, api.MaxCap} {
			wantHas(t, made(t, most, first), first)
		}
		for _, most := range []int{0, -1, -2, -api.MaxCap, math.MinInt, api.MaxCap + 1, 2 * api.MaxCap, math.MaxInt} {
			if r, e := ring.New(most, first); r != nil || e != api.ErrArg {
				t.Errorf("New(%d, %d): %v, errno %d", most, first, r, int(e))
			}
		}
	}
}

// P3.1: New makes another one each time.
func TestNewApart(t *testing.T) {
	r, s := made(t, 2, 10), made(t, 2, 10)
	wantPut(t, r, 5, 10)
	wantHas(t, r, 11, 5)
	wantHas(t, s, 10)
}

// P3.1 to P3.3: the chapter's examples.
func TestExamples(t *testing.T) {
	r := made(t, 2, 10)
	wantPut(t, r, 5, 10)
	wantPut(t, r, 6, 11)
	wantPutOver(t, r, 7, 12, 5)
	if r.First() != 11 || r.Next() != 13 || r.Len() != 2 {
		t.Errorf("First %d, Next %d, Len %d", r.First(), r.Next(), r.Len())
	}
	wantGet(t, r, 10, 0, false)
	wantGet(t, r, 12, 7, true)
	wantFrom(t, r.From(0), []pair{{11, 6}, {12, 7}})
	wantDrop(t, r, 6)
	wantDrop(t, r, 7)
	wantNoDrop(t, r)
	if r.First() != 13 {
		t.Errorf("First: %d", r.First())
	}
	if r, e := ring.New(0, 1); r != nil || e != api.ErrArg {
		t.Errorf("New(0, 1): %v, errno %d", r, int(e))
	}
}

// P3.1: Put, up to a full ring and on, from every kind of first index.
func TestPut(t *testing.T) {
	for _, most := range []int{1, 2, 3, 7, 8} {
		for _, first := range []uint64{0, 1, 10, 1<<63 - 5, 1 << 63, top - 100} {
			r := made(t, most, first)
			var vals []int
			for i := range 30 {
				at, val := first+uint64(i), 100+i
				if vals = append(vals, val); len(vals) > most {
					wantPutOver(t, r, val, at, vals[0])
					vals = vals[1:]
				} else {
					wantPut(t, r, val, at)
				}
				wantHas(t, r, at+1, vals...)
			}
		}
	}
}

// P3.1: any number is a value, 0 also when it goes.
func TestPutValues(t *testing.T) {
	vals := []int{0, math.MinInt, -1, 0, math.MaxInt, 1}
	r := filled(t, len(vals), 0, vals...)
	wantHas(t, r, 6, vals...)
	for i, val := range vals {
		wantPutOver(t, r, 7, uint64(6+i), val)
	}
	for range vals {
		wantDrop(t, r, 7)
	}
	r = filled(t, 1, 0, 0)
	wantDrop(t, r, 0)
	wantNoDrop(t, r)
}

// P3.1: the greatest cap, and the put behind it.
func TestPutMaxCap(t *testing.T) {
	r := made(t, api.MaxCap, 3)
	vals := make([]int, api.MaxCap)
	for i := range vals {
		vals[i] = 7 * i
		wantPut(t, r, vals[i], uint64(3+i))
	}
	wantHas(t, r, api.MaxCap+3, vals...)
	wantPutOver(t, r, -5, api.MaxCap+3, 0)
	wantHas(t, r, api.MaxCap+4, append(vals[1:], -5)...)
	wantDrop(t, r, 7)
	wantPut(t, r, -6, api.MaxCap+4)
	wantPutOver(t, r, -7, api.MaxCap+5, 14)
}

// P3.1: behind the index 2^64 - 2 none is told any more, and nothing goes.
func TestPutLast(t *testing.T) {
	for _, most := range []int{1, 2, 3, 4, api.MaxCap} {
		for left := range 6 {
			first := top - uint64(left)
			r := made(t, most, first)
			var vals []int
			for i := range left {
				if vals = append(vals, i+1); len(vals) > most {
					wantPutOver(t, r, i+1, first+uint64(i), vals[0])
					vals = vals[1:]
				} else {
					wantPut(t, r, i+1, first+uint64(i))
				}
			}
			wantHas(t, r, top, vals...)
			wantRefused(t, r, 99, api.ErrFull)
			wantRefused(t, r, 0, api.ErrFull)
			wantHas(t, r, top, vals...)
			for _, val := range vals {
				wantDrop(t, r, val)
				wantRefused(t, r, 99, api.ErrFull)
			}
			wantNoDrop(t, r)
			wantHas(t, r, top)
		}
	}
}

// P3.1, P3.3: the last index of all is gone over, too, and that is the end.
func TestFromLast(t *testing.T) {
	r := filled(t, 3, top-3, 5, 6, 7)
	wantRefused(t, r, 8, api.ErrFull)
	wantFrom(t, r.From(top-4), run(top-3, 5, 6, 7))
	wantFrom(t, r.From(top-3), run(top-3, 5, 6, 7))
	wantFrom(t, r.From(top-1), run(top-1, 7))
	wantFrom(t, r.From(top), nil)
	wantSet(t, r, top-1, 9, 7, true)
	wantSet(t, r, top, 9, 0, false)
	wantHas(t, r, top, 5, 6, 9)
}

// P3.1: Drop of all, then Put again: no index comes twice.
func TestDrop(t *testing.T) {
	for ahead := range 5 {
		r := turned(t, 3, ahead, 10, 5, 6)
		wantHas(t, r, 12, 5, 6)
		wantDrop(t, r, 5)
		wantHas(t, r, 12, 6)
		wantDrop(t, r, 6)
		wantHas(t, r, 12)
		wantNoDrop(t, r)
		wantNoDrop(t, r)
		wantHas(t, r, 12)
		wantPut(t, r, 7, 12)
		wantHas(t, r, 13, 7)
		wantPut(t, r, 8, 13)
		wantPut(t, r, 9, 14)
		wantPutOver(t, r, 10, 15, 7)
		wantDrop(t, r, 8)
		wantPut(t, r, 11, 16)
		wantHas(t, r, 17, 9, 10, 11)
	}
	wantNoDrop(t, made(t, 1, 0))
	wantNoDrop(t, made(t, api.MaxCap, top))
}

// P3.2: Get and Set just ahead of the oldest, of the oldest, of the newest, just behind it, and far off.
func TestGetSet(t *testing.T) {
	for _, most := range []int{3, 4, 8} {
		for ahead := range 9 {
			for _, at := range append(far(), 7, 8, 9, 13, 14, 10-uint64(most), 12+uint64(most), 10+1<<32, 10+1<<63) {
				r := turned(t, most, ahead, 10, 5, 6, 7)
				wantGet(t, r, at, 0, false)
				wantSet(t, r, at, 99, 0, false)
				wantHas(t, r, 13, 5, 6, 7)
			}
			r := turned(t, most, ahead, 10, 5, 6, 7)
			wantSet(t, r, 10, 15, 5, true)
			wantHas(t, r, 13, 15, 6, 7)
			wantSet(t, r, 12, 17, 7, true)
			wantHas(t, r, 13, 15, 6, 17)
			wantSet(t, r, 11, 0, 6, true)
			wantSet(t, r, 11, -16, 0, true)
			wantSet(t, r, 11, -16, -16, true)
			wantHas(t, r, 13, 15, -16, 17)
			wantDrop(t, r, 15)
			wantSet(t, r, 10, 99, 0, false)
			wantHas(t, r, 13, -16, 17)
		}
	}
}

// P3.2, P3.5: what was set is what goes.
func TestSetGoes(t *testing.T) {
	r := filled(t, 2, 0, 5, 6)
	wantSet(t, r, 0, 15, 5, true)
	wantSet(t, r, 1, 16, 6, true)
	wantPutOver(t, r, 7, 2, 15)
	wantDrop(t, r, 16)
	wantHas(t, r, 3, 7)
}

// P3.2: of a ring without values, none is there at any index, that of one that went included.
func TestGetEmpty(t *testing.T) {
	r, s := made(t, 2, 10), turned(t, 2, 4, 10)
	for _, r := range []*ring.Ring{r, s} {
		for _, at := range append(far(), 6, 8, 9, 10, 11, 12) {
			wantGet(t, r, at, 0, false)
			wantSet(t, r, at, 99, 0, false)
			wantFrom(t, r.From(at), nil)
		}
		wantHas(t, r, 10)
	}
}

// P3.3: From of each index: one that is gone, each that is there, and ones to come.
func TestFrom(t *testing.T) {
	for _, most := range []int{3, 4, 8} {
		for ahead := range 9 {
			r := turned(t, most, ahead, 10, 5, 6, 7)
			whole := run(10, 5, 6, 7)
			for _, c := range []struct {
				at   uint64
				want []pair
			}{
				{0, whole}, {1, whole}, {9, whole}, {10, whole}, {11, whole[1:]}, {12, whole[2:]},
				{13, nil}, {14, nil}, {10 + uint64(most), nil}, {1 << 63, nil}, {top - 1, nil}, {top, nil},
			} {
				wantFrom(t, r.From(c.at), c.want)
			}
			wantHas(t, r, 13, 5, 6, 7)
		}
	}
}

// P3.3: From goes over the values as they are when it is called.
func TestFromAsTheyAre(t *testing.T) {
	for ahead := range 9 {
		r := turned(t, 4, ahead, 10, 5, 6, 7)
		seq, some := r.From(0), r.From(12)
		wantSet(t, r, 12, 17, 7, true)
		wantDrop(t, r, 5)
		later := r.From(11)
		for i := range 6 {
			r.Put(20 + i)
		}
		wantFrom(t, seq, run(10, 5, 6, 7))
		wantFrom(t, some, run(12, 7))
		wantFrom(t, later, run(11, 6, 17))
		wantHas(t, r, 19, 22, 23, 24, 25)
		for range 4 {
			r.Drop()
		}
		wantFrom(t, seq, run(10, 5, 6, 7))
		wantFrom(t, some, run(12, 7))
		wantFrom(t, later, run(11, 6, 17))
		wantFrom(t, r.From(0), nil)
	}
}

// P3.3: what was told of values to come, or of none, stays nothing.
func TestFromToCome(t *testing.T) {
	r := filled(t, 4, 10, 5)
	seq := r.From(11)
	empty := made(t, 4, 10)
	none := empty.From(0)
	wantPut(t, r, 6, 11)
	wantPut(t, empty, 6, 10)
	wantFrom(t, seq, nil)
	wantFrom(t, none, nil)
}

// P3.3: From of a ring that is changed while it is gone over.
func TestFromWhileChanged(t *testing.T) {
	r := turned(t, 4, 3, 10, 5, 6, 7, 8)
	var l []pair
	oldest := 5
	for at, val := range r.From(0) {
		l = append(l, pair{at, val})
		r.Set(at+1, 99)
		wantDrop(t, r, oldest)
		r.Put(99)
		oldest = 99
	}
	if !slices.Equal(l, run(10, 5, 6, 7, 8)) {
		t.Errorf("From: %v", l)
	}
	wantHas(t, r, 18, 99, 99, 99, 99)
}

// P3.3: From may be left at any time, and gone over again.
func TestFromLeft(t *testing.T) {
	for ahead := range 9 {
		whole := run(10, 5, 6, 7, 8, 9)
		seq := turned(t, 8, ahead, 9, 4, 5, 6, 7, 8, 9).From(10)
		for most := 1; most <= len(whole); most++ {
			if got := gone(seq, most); !slices.Equal(got, whole[:most]) {
				t.Errorf("From, left behind %d: %v", most, got)
			}
			wantFrom(t, seq, whole)
		}
	}
}

// P3.3: what has been left is not asked any more.
func TestFromStops(t *testing.T) {
	seq := filled(t, 8, 0, 5, 6, 7, 8, 9).From(1)
	for most := 1; most <= 4; most++ {
		asked := 0
		seq(func(uint64, int) bool {
			asked++
			return asked < most
		})
		if asked != most {
			t.Errorf("From: asked %d times, left behind %d", asked, most)
		}
	}
}

// P3.3: two that go over the same at the same time do not disturb each other.
func TestFromTwice(t *testing.T) {
	whole := run(10, 5, 6, 7)
	seq := turned(t, 4, 2, 10, 5, 6, 7).From(0)
	var l []pair
	for at, val := range seq {
		l = append(l, pair{at, val})
		wantFrom(t, seq, whole)
	}
	if !slices.Equal(l, whole) {
		t.Errorf("From, the outer one: %v", l)
	}
}

// P3.1 to P3.4: of no ring nothing is told.
func TestNone(t *testing.T) {
	for i, r := range nones() {
		wantRefused(t, r, 5, api.ErrNil)
		wantRefused(t, r, 0, api.ErrNil)
		wantNoDrop(t, r)
		for _, at := range far() {
			wantGet(t, r, at, 0, false)
			wantSet(t, r, at, 99, 0, false)
			if r.From(at) == nil {
				t.Fatalf("%d: From(%d) is not there", i, at)
			}
			wantFrom(t, r.From(at), nil)
		}
		if r.First() != 0 || r.Next() != 0 || r.Len() != 0 {
			t.Errorf("%d: First %d, Next %d, Len %d", i, r.First(), r.Next(), r.Len())
		}
		if c := r.Copy(); c != nil {
			t.Errorf("%d: Copy: %v", i, c)
		}
	}
}

// P3.4: Copy is another one with the same, and both go on apart.
func TestCopy(t *testing.T) {
	for ahead := range 9 {
		r := turned(t, 4, ahead, 10, 5, 6, 7)
		c := r.Copy()
		wantHas(t, c, 13, 5, 6, 7)
		if c == r || !ring.Same(c, r) {
			t.Errorf("Copy: not another one with the same")
		}
		wantSet(t, r, 11, 16, 6, true)
		wantHas(t, c, 13, 5, 6, 7)
		wantSet(t, c, 12, 27, 7, true)
		wantHas(t, r, 13, 5, 16, 7)
		wantPut(t, r, 8, 13)
		wantPutOver(t, r, 9, 14, 5)
		wantHas(t, c, 13, 5, 6, 27)
		wantPut(t, c, 28, 13)
		wantDrop(t, c, 5)
		wantHas(t, c, 14, 6, 27, 28)
		wantHas(t, r, 15, 16, 7, 8, 9)
		wantPut(t, c, 29, 14)
		wantPutOver(t, c, 30, 15, 6)
		wantHas(t, c, 16, 27, 28, 29, 30)
		wantHas(t, r, 15, 16, 7, 8, 9)
	}
}

// P3.4: Copy of one without values, of a full one, and of one without a further index.
func TestCopyEdges(t *testing.T) {
	r := made(t, 2, 10)
	c := r.Copy()
	wantPut(t, c, 5, 10)
	wantPut(t, c, 6, 11)
	wantPutOver(t, c, 7, 12, 5)
	wantHas(t, r, 10)
	r = c.Copy()
	wantPutOver(t, r, 8, 13, 6)
	wantHas(t, c, 13, 6, 7)
	r = filled(t, 2, top-1, 5)
	c = r.Copy()
	wantRefused(t, c, 6, api.ErrFull)
	wantDrop(t, c, 5)
	wantHas(t, c, top)
	wantHas(t, r, top, 5)
}

// P3.4: Same, of one another, both ways: each has another cap, other indices or other values.
func TestSame(t *testing.T) {
	l := []*ring.Ring{
		nil,
		made(t, 1, 0), made(t, 2, 0), made(t, 2, 1), made(t, 2, top), made(t, api.MaxCap, 0),
		filled(t, 3, 10, 5), filled(t, 3, 11, 5), filled(t, 3, 10, 6), filled(t, 3, 10, 0), filled(t, 4, 10, 5), filled(t, 1, 10, 5),
		filled(t, 3, 10, 5, 6), filled(t, 3, 10, 6, 5), filled(t, 3, 10, 5, 0), filled(t, 3, 10, 0, 6),
		filled(t, 3, 10, 5, 6, 7), filled(t, 3, 10, 4, 6, 7), filled(t, 3, 10, 5, 4, 7), filled(t, 3, 10, 5, 6, 4),
		filled(t, 3, 13, 5, 6, 7), filled(t, 4, 10, 5, 6, 7), filled(t, 3, 11, 6, 7), filled(t, 3, 9, 5, 6),
	}
	for i, a := range l {
		for j, b := range l {
			if ring.Same(a, b) != (i == j) || ring.Same(a.Copy(), b) != (i == j) || ring.Same(a, b.Copy()) != (i == j) {
				t.Errorf("Same of %d and %d: %v", i, j, i != j)
			}
		}
	}
}

// P3.4: what was put ahead of the values, and went, changes nothing; nor does Same.
func TestSameHowever(t *testing.T) {
	for ahead := range 9 {
		for other := range 9 {
			a, b, c := turned(t, 4, ahead, 10, 5, 6, 7), turned(t, 4, other, 10, 5, 6, 7), turned(t, 4, other, 10, 5, 6, 8)
			if !ring.Same(a, b) || !ring.Same(b, a) || !ring.Same(a, a) {
				t.Errorf("Same, behind %d and %d: false", ahead, other)
			}
			if ring.Same(a, c) || ring.Same(c, a) {
				t.Errorf("Same of others, behind %d and %d: true", ahead, other)
			}
			wantHas(t, a, 13, 5, 6, 7)
			wantHas(t, b, 13, 5, 6, 7)
			if !ring.Same(turned(t, 4, ahead, 10), turned(t, 4, other, 10)) {
				t.Errorf("Same without values, behind %d and %d: false", ahead, other)
			}
		}
	}
}

// P3.4: a nil one, and a zero one, is like a nil one alone.
func TestSameNone(t *testing.T) {
	for _, a := range nones() {
		for _, b := range nones() {
			if !ring.Same(a, b) {
				t.Errorf("Same of none and none: false")
			}
		}
		for _, b := range []*ring.Ring{made(t, 1, 0), made(t, 4, 0), filled(t, 1, 0, 0)} {
			if ring.Same(a, b) || ring.Same(b, a) {
				t.Errorf("Same of none and one: true")
			}
		}
	}
}

// chance is a row of numbers that is the same each time.
type chance uint64

func (c *chance) below(n int) int {
	*c = *c*6364136223846793005 + 1442695040888963407
	return int(uint64(*c>>33) % uint64(n))
}

// follower is a ring with the plain list that it should be like.
type follower struct {
	chance
	ring *ring.Ring
	most int
	next uint64
	vals []int
}

// first is the index of the oldest value.
func (f *follower) first() uint64 { return f.next - uint64(len(f.vals)) }

// put puts a value in, in both.
func (f *follower) put(t *testing.T) {
	t.Helper()
	val := f.below(1000)
	if f.next == top {
		wantRefused(t, f.ring, val, api.ErrFull)
		return
	}
	if f.vals = append(f.vals, val); len(f.vals) > f.most {
		wantPutOver(t, f.ring, val, f.next, f.vals[0])
		f.vals = f.vals[1:]
	} else {
		wantPut(t, f.ring, val, f.next)
	}
	f.next++
}

// drop lets the oldest value go, in both.
func (f *follower) drop(t *testing.T) {
	t.Helper()
	if len(f.vals) == 0 {
		wantNoDrop(t, f.ring)
		return
	}
	wantDrop(t, f.ring, f.vals[0])
	f.vals = f.vals[1:]
}

// set sets a value near those that are there, in both.
func (f *follower) set(t *testing.T) {
	t.Helper()
	place, val := f.below(f.most+3)-1, f.below(1000)
	at := f.first() + uint64(place)
	if place < 0 || place >= len(f.vals) {
		wantSet(t, f.ring, at, val, 0, false)
		return
	}
	wantSet(t, f.ring, at, val, f.vals[place], true)
	f.vals[place] = val
}

// step does one call to both, and holds them against each other.
func (f *follower) step(t *testing.T) {
	t.Helper()
	switch f.below(8) {
	case 0, 1:
		f.drop(t)
	case 2, 3:
		f.set(t)
	case 4:
		f.ring = f.ring.Copy()
	default:
		f.put(t)
	}
	wantHas(t, f.ring, f.next, f.vals...)
	from := min(uint64(f.below(f.most+2)), top-f.first())
	wantFrom(t, f.ring.From(f.first()+from), run(f.first(), f.vals...)[min(int(from), len(f.vals)):])
	if f.ring.Next()-f.ring.First() != uint64(f.ring.Len()) || f.ring.Len() > f.most {
		t.Errorf("First %d, Next %d, Len %d, cap %d", f.ring.First(), f.ring.Next(), f.ring.Len(), f.most)
	}
}

// P3.5: whatever is done, a ring is like a plain list of the last so many values.
func TestLikeList(t *testing.T) {
	for _, most := range []int{1, 2, 3, 4, 5, 7, 8, 16, 63} {
		for i, first := range []uint64{0, 1, 1<<63 - 50, top - 700, top - 1, top} {
			f := follower{chance: chance(100*most + i), ring: made(t, most, first), most: most, next: first}
			for range 2000 {
				f.step(t)
				if t.Failed() {
					t.Fatalf("cap %d, first index %d", most, first)
				}
			}
		}
	}
}

// P3.5: what an index has stays, and goes in the order in which it came.
func TestStays(t *testing.T) {
	for _, most := range []int{1, 2, 5, 64, api.MaxCap} {
		r := made(t, most, 1000)
		for i := range 2*most + 3 {
			at := uint64(1000 + i)
			if i < most {
				wantPut(t, r, 3*i, at)
			} else {
				wantPutOver(t, r, 3*i, at, 3*(i-most))
				wantGet(t, r, at-uint64(most), 0, false)
				wantGet(t, r, at-uint64(most)+1, 3*(i-most+1), true)
			}
			wantGet(t, r, at, 3*i, true)
		}
		for i := range most {
			wantDrop(t, r, 3*(most+3+i))
		}
		wantNoDrop(t, r)
	}
}

package decimal_test

import (
	"iter"
	"math/big"
	"slices"
	"strconv"
	"strings"
	"testing"

	"bellman/api"
	"bellman/decimal"
)

const top = 1<<64 - 1

// numbers are many of all sizes, the edges of bits and of digits among them; rising, none twice.
func numbers() []uint64 {
	l := []uint64{0, 1, 2, 3, 7, 120, 431, 12345678901234567890, 1<<32 - 1, 1 << 32, 1<<32 + 1, top - 1, top}
	for i := range 64 {
		l = append(l, uint64(1)<<i, uint64(1)<<i-1, uint64(top)>>i, 0x9e3779b97f4a7c15*uint64(i+1))
	}
	for p := uint64(1); ; p *= 10 {
		l = append(l, p-1, p, p+1)
		if p > top/10 {
			break
		}
	}
	slices.Sort(l)
	return slices.Compact(l)
}

// want holds what a call tells against what it should tell.
func want(t *testing.T, call string, n uint64, e api.Errno, wantN uint64, wantE api.Errno) {
	t.Helper()
	if n != wantN || e != wantE {
		t.Errorf("%s: %d, errno %d; want %d, errno %d", call, n, int(e), wantN, int(wantE))
	}
}

// wantBig holds what a call tells against a number that may be too great, or below 0.
func wantBig(t *testing.T, call string, n uint64, e api.Errno, x *big.Int) {
	t.Helper()
	switch {
	case x.Sign() < 0:
		want(t, call, n, e, 0, api.ErrLow)
	case !x.IsUint64():
		want(t, call, n, e, 0, api.ErrFull)
	default:
		want(t, call, n, e, x.Uint64(), api.OK)
	}
}

func bigOf(n uint64) *big.Int { return new(big.Int).SetUint64(n) }

func named(call string, l ...uint64) string {
	words := make([]string, len(l))
	for i, n := range l {
		words[i] = strconv.FormatUint(n, 10)
	}
	return call + "(" + strings.Join(words, ", ") + ")"
}

// P1.1: Add, Sub, Mul against numbers without an end.
func TestAddSubMul(t *testing.T) {
	for _, a := range numbers() {
		for _, b := range numbers() {
			x, y := bigOf(a), bigOf(b)
			n, e := decimal.Add(a, b)
			wantBig(t, named("Add", a, b), n, e, new(big.Int).Add(x, y))
			n, e = decimal.Sub(a, b)
			wantBig(t, named("Sub", a, b), n, e, new(big.Int).Sub(x, y))
			n, e = decimal.Mul(a, b)
			wantBig(t, named("Mul", a, b), n, e, new(big.Int).Mul(x, y))
		}
	}
}

// P1.1: the bounds of Add, Sub and Mul, one by one.
func TestAddSubMulBounds(t *testing.T) {
	type op = func(a, b uint64) (uint64, api.Errno)
	for _, c := range []struct {
		name string
		call op
		a, b uint64
		n    uint64
		e    api.Errno
	}{
		{"Add", decimal.Add, top, 1, 0, api.ErrFull},
		{"Add", decimal.Add, 1, top, 0, api.ErrFull},
		{"Add", decimal.Add, top, top, 0, api.ErrFull},
		{"Add", decimal.Add, 1 << 63, 1 << 63, 0, api.ErrFull},
		{"Add", decimal.Add, top - 1, 1, top, api.OK},
		{"Add", decimal.Add, top, 0, top, api.OK},
		{"Sub", decimal.Sub, 1, 2, 0, api.ErrLow},
		{"Sub", decimal.Sub, 0, top, 0, api.ErrLow},
		{"Sub", decimal.Sub, 2, 2, 0, api.OK},
		{"Sub", decimal.Sub, top, 1, top - 1, api.OK},
		{"Mul", decimal.Mul, 1 << 32, 1 << 32, 0, api.ErrFull},
		{"Mul", decimal.Mul, 1 << 32, 1<<32 - 1, top - (1<<32 - 1), api.OK},
		{"Mul", decimal.Mul, 1<<32 + 1, 1<<32 - 1, top, api.OK},
		{"Mul", decimal.Mul, top, 2, 0, api.ErrFull},
		{"Mul", decimal.Mul, top, 1, top, api.OK},
		{"Mul", decimal.Mul, top, 0, 0, api.OK},
		{"Mul", decimal.Mul, 0, top, 0, api.OK},
	} {
		n, e := c.call(c.a, c.b)
		want(t, named(c.name, c.a, c.b), n, e, c.n, c.e)
	}
}

// P1.1: Next is one more, but not above the end.
func TestNext(t *testing.T) {
	for _, c := range []struct {
		n, end, next uint64
		e            api.Errno
	}{
		{9, 10, 10, api.OK},
		{10, 10, 0, api.ErrFull},
		{11, 10, 0, api.ErrFull},
		{0, 0, 0, api.ErrFull},
		{0, 1, 1, api.OK},
		{1, 0, 0, api.ErrFull},
		{0, top, 1, api.OK},
		{top - 1, top, top, api.OK},
		{top, top, 0, api.ErrFull},
		{top, top - 1, 0, api.ErrFull},
		{top, 0, 0, api.ErrFull},
	} {
		n, e := decimal.Next(c.n, c.end)
		want(t, named("Next", c.n, c.end), n, e, c.next, c.e)
	}
}

// P1.1: Sum, from none up to one that is too great.
func TestSum(t *testing.T) {
	for _, c := range []struct {
		l   []uint64
		sum uint64
		e   api.Errno
	}{
		{nil, 0, api.OK},
		{[]uint64{}, 0, api.OK},
		{[]uint64{0}, 0, api.OK},
		{[]uint64{7}, 7, api.OK},
		{[]uint64{1, 2, 3, 4}, 10, api.OK},
		{[]uint64{top}, top, api.OK},
		{[]uint64{top, 0, 0}, top, api.OK},
		{[]uint64{top - 3, 1, 2}, top, api.OK},
		{[]uint64{top - 3, 1, 3}, 0, api.ErrFull},
		{[]uint64{top, 1}, 0, api.ErrFull},
		{[]uint64{1, top}, 0, api.ErrFull},
		{[]uint64{top, 1, 5}, 0, api.ErrFull},
		{[]uint64{top, top, 2}, 0, api.ErrFull},
		{[]uint64{1 << 63, 1 << 63, 1 << 63, 1 << 63}, 0, api.ErrFull},
	} {
		given := slices.Clone(c.l)
		n, e := decimal.Sum(given...)
		want(t, named("Sum", c.l...), n, e, c.sum, c.e)
		if !slices.Equal(given, c.l) {
			t.Errorf("%s: the numbers became %v", named("Sum", c.l...), given)
		}
	}
	if n, e := decimal.Sum(); n != 0 || e != api.OK {
		t.Errorf("Sum(): %d, errno %d", n, int(e))
	}
}

// P1.1: Clamp keeps within bounds, those alone that are not the wrong way round.
func TestClamp(t *testing.T) {
	for _, c := range []struct {
		n, least, most, clamped uint64
		e                       api.Errno
	}{
		{5, 7, 9, 7, api.OK},
		{6, 7, 9, 7, api.OK},
		{7, 7, 9, 7, api.OK},
		{8, 7, 9, 8, api.OK},
		{9, 7, 9, 9, api.OK},
		{10, 7, 9, 9, api.OK},
		{5, 9, 7, 0, api.ErrArg},
		{8, 9, 7, 0, api.ErrArg},
		{99, 9, 7, 0, api.ErrArg},
		{8, 8, 7, 0, api.ErrArg},
		{0, 8, 8, 8, api.OK},
		{top, 8, 8, 8, api.OK},
		{top, 0, top, top, api.OK},
		{0, 0, top, 0, api.OK},
		{0, top, top, top, api.OK},
		{3, top, 0, 0, api.ErrArg},
		{3, 1, 0, 0, api.ErrArg},
	} {
		n, e := decimal.Clamp(c.n, c.least, c.most)
		want(t, named("Clamp", c.n, c.least, c.most), n, e, c.clamped, c.e)
	}
}

// P1.2: Text and Hex.
func TestTextHex(t *testing.T) {
	for _, c := range []struct {
		n         uint64
		text, hex string
	}{
		{0, "0", "0"},
		{9, "9", "9"},
		{10, "10", "a"},
		{15, "15", "f"},
		{16, "16", "10"},
		{120, "120", "78"},
		{431, "431", "1af"},
		{top, "18446744073709551615", "ffffffffffffffff"},
		{0xabcdef0123456789, "12379813738877118345", "abcdef0123456789"},
	} {
		if s := decimal.Text(c.n); s != c.text {
			t.Errorf("Text(%d): %q; want %q", c.n, s, c.text)
		}
		if s := decimal.Hex(c.n); s != c.hex {
			t.Errorf("Hex(%d): %q; want %q", c.n, s, c.hex)
		}
	}
	for _, n := range numbers() {
		if s := decimal.Text(n); s != strconv.FormatUint(n, 10) {
			t.Errorf("Text(%d): %q", n, s)
		}
		if s := decimal.Hex(n); s != strconv.FormatUint(n, 16) {
			t.Errorf("Hex(%d): %q", n, s)
		}
	}
}

// read is what the three readers tell of a text.
type read struct {
	s                     string
	parse, digits, hex    uint64
	parseE, digitsE, hexE api.Errno
}

func wantRead(t *testing.T, c read) {
	t.Helper()
	q := strconv.Quote(c.s)
	if len(q) > 80 {
		q = q[:80] + " .."
	}
	n, e := decimal.Parse(c.s)
	want(t, "Parse of "+q, n, e, c.parse, c.parseE)
	n, e = decimal.Digits(c.s)
	want(t, "Digits of "+q, n, e, c.digits, c.digitsE)
	n, e = decimal.HexDigits(c.s)
	want(t, "HexDigits of "+q, n, e, c.hex, c.hexE)
}

// P1.2: numbers that are read, up to the greatest one, and past it.
func TestReadNumbers(t *testing.T) {
	const text, full = api.ErrText, api.ErrFull
	long := strings.Repeat("0", 1<<20)
	for _, c := range []read{
		{"0", 0, 0, 0, 0, 0, 0},
		{"7", 7, 7, 7, 0, 0, 0},
		{"431", 431, 431, 0x431, 0, 0, 0},
		{"007", 0, 7, 7, text, 0, 0},
		{"00", 0, 0, 0, text, 0, 0},
		{"01", 0, 1, 1, text, 0, 0},
		{"10", 10, 10, 16, 0, 0, 0},
		{"1aF", 0, 0, 431, text, text, 0},
		{"1Af", 0, 0, 431, text, text, 0},
		{"a", 0, 0, 10, text, text, 0},
		{"A", 0, 0, 10, text, text, 0},
		{"ABCDEF", 0, 0, 0xabcdef, text, text, 0},
		{"abcdef", 0, 0, 0xabcdef, text, text, 0},
		{"18446744073709551614", top - 1, top - 1, 0, 0, 0, full},
		{"18446744073709551615", top, top, 0, 0, 0, full},
		{"18446744073709551616", 0, 0, 0, full, full, full},
		{"18446744073709551619", 0, 0, 0, full, full, full},
		{"18446744073709551620", 0, 0, 0, full, full, full},
		{"20000000000000000000", 0, 0, 0, full, full, full},
		{"99999999999999999999", 0, 0, 0, full, full, full},
		{"184467440737095516150", 0, 0, 0, full, full, full},
		// What is left of these modulo 2^64 looks small.
		{"36893488147419103232", 0, 0, 0, full, full, full},
		{"184467440737095516160", 0, 0, 0, full, full, full},
		{"018446744073709551615", 0, top, 0, text, 0, full},
		{"018446744073709551616", 0, 0, 0, text, full, full},
		{"ffffffffffffffff", 0, 0, top, text, text, 0},
		{"FFFFFFFFFFFFFFFF", 0, 0, top, text, text, 0},
		{"fFfFfFfFfFfFfFfE", 0, 0, top - 1, text, text, 0},
		{"0ffffffffffffffff", 0, 0, top, text, text, 0},
		{"10000000000000000", 10000000000000000, 10000000000000000, 0, 0, 0, full},
		{"1000000000000000a", 0, 0, 0, text, text, full},
		{"fffffffffffffffff", 0, 0, 0, text, text, full},
		{long, 0, 0, 0, text, 0, 0},
		{long + "42", 0, 42, 0x42, text, 0, 0},
		{long + "18446744073709551615", 0, top, 0, text, 0, full},
		{"1" + long, 0, 0, 0, full, full, full},
	} {
		wantRead(t, c)
	}
}

// P1.2: what is none, also where a number too great stands ahead of the byte that is no digit.
func TestReadNone(t *testing.T) {
	nines := strings.Repeat("9", 40)
	for _, s := range []string{
		"", " ", "-", "+", "-1", "+1", " 1", "1 ", "1\n", "\t1", "\x001", "1\x00", "1_000", "1,000", "1.0", "1e+2", "x",
		"0x1", "0X1", "0o7", "g", "G", "1g", "@", "`", "/", ":", "1:2", "\u0661", "\uff11", "1\u0661", "\xff", "1\x80", "\xb1",
		nines + "x", nines + "/", nines + " ", "x" + nines, nines + "x" + nines, nines + ":", nines + "\xff",
		"18446744073709551616x", "18446744073709551615x", "x18446744073709551616",
	} {
		wantRead(t, read{s: s, parseE: api.ErrText, digitsE: api.ErrText, hexE: api.ErrText})
	}
	wantRead(t, read{s: "1e3", parseE: api.ErrText, digitsE: api.ErrText, hex: 0x1e3})
	wantRead(t, read{s: "0b1", parseE: api.ErrText, digitsE: api.ErrText, hex: 0xb1})
	wantRead(t, read{s: nines + "a", parseE: api.ErrText, digitsE: api.ErrText, hexE: api.ErrFull})
	wantRead(t, read{s: "0" + nines, parseE: api.ErrText, digitsE: api.ErrFull, hexE: api.ErrFull})
}

// P1.2: each byte there is, alone, and at each place of a text.
func TestReadBytes(t *testing.T) {
	for b := range 256 {
		small := strings.IndexByte("0123456789abcdef", byte(b))
		great := strings.IndexByte("0123456789ABCDEF", byte(b))
		v := uint64(max(small, great, 0))
		isHex, isTen := max(small, great) >= 0, b >= '0' && b <= '9'
		for place := range 5 {
			s := []byte("11111")[:place+1]
			s[place] = byte(b)
			c := read{s: string(s), parseE: api.ErrText, digitsE: api.ErrText, hexE: api.ErrText}
			ones, hexOnes := uint64(0), uint64(0)
			for range place {
				ones, hexOnes = ones*10+10, hexOnes*16+16
			}
			if isTen {
				c.parse, c.parseE, c.digits, c.digitsE = ones+v, api.OK, ones+v, api.OK
			}
			if isHex {
				c.hex, c.hexE = hexOnes+v, api.OK
			}
			wantRead(t, c)
			wrong := append(slices.Clone(s[place:]), "1111111111111111111111111"...)
			if !isHex {
				wantRead(t, read{s: string(wrong), parseE: api.ErrText, digitsE: api.ErrText, hexE: api.ErrText})
			}
		}
	}
}

// gone is what is gone over: what each digit is worth, by its place.
type gone struct {
	place int
	digit byte
}

// first goes over at most so many digits, and leaves then.
func first(seq iter.Seq2[int, byte], most int) []gone {
	var l []gone
	for place, digit := range seq {
		l = append(l, gone{place, digit})
		if len(l) == most {
			break
		}
	}
	return l
}

// backwards are a text's digits as they should be gone over: by what they are worth, not by their signs.
func backwards(s string) []gone {
	l := make([]gone, len(s))
	for i := range len(s) {
		l[len(s)-1-i] = gone{len(s) - 1 - i, s[i] - '0'}
	}
	return l
}

// P1.3: Each goes over the digits, from the lowest one on; a digit is a byte from 0 to 9.
func TestEach(t *testing.T) {
	for _, c := range []struct {
		n uint64
		l []gone
	}{
		{0, []gone{{0, 0}}},
		{9, []gone{{0, 9}}},
		{10, []gone{{0, 0}, {1, 1}}},
		{120, []gone{{0, 0}, {1, 2}, {2, 1}}},
		{9876543210, []gone{{0, 0}, {1, 1}, {2, 2}, {3, 3}, {4, 4}, {5, 5}, {6, 6}, {7, 7}, {8, 8}, {9, 9}}},
	} {
		if l := first(decimal.Each(c.n), 99); !slices.Equal(l, c.l) {
			t.Errorf("Each(%d): %v", c.n, l)
		}
	}
	for _, n := range numbers() {
		if l := first(decimal.Each(n), 99); !slices.Equal(l, backwards(strconv.FormatUint(n, 10))) {
			t.Errorf("Each(%d): %v", n, l)
		}
	}
}

// P1.3: Each may be left at any time, and gone over again.
func TestEachLeft(t *testing.T) {
	for _, n := range []uint64{0, 7, 10, 120, 12345678901234567890, top} {
		whole := backwards(strconv.FormatUint(n, 10))
		seq := decimal.Each(n)
		for most := 1; most <= len(whole); most++ {
			if l := first(seq, most); !slices.Equal(l, whole[:most]) {
				t.Errorf("Each(%d), left behind %d: %v", n, most, l)
			}
			if l := first(seq, 99); !slices.Equal(l, whole) {
				t.Errorf("Each(%d), again: %v", n, l)
			}
		}
	}
}

// P1.3: what has been left is not asked any more.
func TestEachStops(t *testing.T) {
	for most := 1; most <= 3; most++ {
		asked := 0
		decimal.Each(120)(func(int, byte) bool {
			asked++
			return asked < most
		})
		if asked != most {
			t.Errorf("Each(120): asked %d times, left behind %d", asked, most)
		}
	}
}

// P1.3: two that go over the same at the same time do not disturb each other.
func TestEachTwice(t *testing.T) {
	seq := decimal.Each(4096)
	whole := backwards("4096")
	for place, digit := range seq {
		if (gone{place, digit}) != whole[place] {
			t.Errorf("Each(4096), the outer one: %d %d", place, digit)
		}
		if l := first(seq, 99); !slices.Equal(l, whole) {
			t.Errorf("Each(4096), the inner one: %v", l)
		}
	}
}

// P1.3: the digits, each times its place's power of the base, are the number.
func TestEachWorth(t *testing.T) {
	for _, n := range numbers() {
		whole, power := new(big.Int), big.NewInt(1)
		for _, digit := range decimal.Each(n) {
			whole.Add(whole, new(big.Int).Mul(power, bigOf(uint64(digit))))
			power.Mul(power, big.NewInt(10))
		}
		if whole.Cmp(bigOf(n)) != 0 {
			t.Errorf("Each(%d): its digits are worth %s", n, whole)
		}
	}
}

// P1.4: what is told is read again, noughts ahead or not.
func TestReadWhatIsTold(t *testing.T) {
	for _, n := range numbers() {
		text, hex := decimal.Text(n), decimal.Hex(n)
		got, e := decimal.Parse(text)
		want(t, named("Parse of Text", n), got, e, n, api.OK)
		for noughts := range 40 {
			ahead := strings.Repeat("0", noughts)
			got, e = decimal.Digits(ahead + text)
			want(t, named("Digits of Text, noughts ahead:", n, uint64(noughts)), got, e, n, api.OK)
			got, e = decimal.HexDigits(ahead + hex)
			want(t, named("HexDigits of Hex, noughts ahead:", n, uint64(noughts)), got, e, n, api.OK)
			got, e = decimal.HexDigits(ahead + strings.ToUpper(hex))
			want(t, named("HexDigits of great Hex, noughts ahead:", n, uint64(noughts)), got, e, n, api.OK)
		}
	}
}

// P1.4: Add and Mul are the same both ways; Sub of a sum is what was added to.
func TestBothWays(t *testing.T) {
	for _, a := range numbers() {
		for _, b := range numbers() {
			n, e := decimal.Add(a, b)
			m, f := decimal.Add(b, a)
			want(t, named("Add", b, a), m, f, n, e)
			if e == api.OK {
				back, g := decimal.Sub(n, b)
				want(t, named("Sub of a sum", n, b), back, g, a, api.OK)
			}
			n, e = decimal.Mul(a, b)
			m, f = decimal.Mul(b, a)
			want(t, named("Mul", b, a), m, f, n, e)
		}
	}
}

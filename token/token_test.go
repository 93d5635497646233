package token_test

import (
	"fmt"
	"iter"
	"math"
	"regexp"
	"runtime"
	"slices"
	"strings"
	"testing"
	"unsafe"

	"bellman/api"
	"bellman/token"
)

// letters, digits and signs are a token's bytes, as the chapter writes them.
const (
	small  = "abcdefghijklmnopqrstuvwxyz"
	great  = "ABCDEFGHIJKLMNOPQRSTUVWXYZ"
	digits = "0123456789"
	signs  = "! # $ % & ' * + - . ^ _ ` | ~"
)

// one is the text of a byte.
func one(b byte) string { return string([]byte{b}) }

// rows goes over all texts of up to so many bytes of a few.
func rows(most int, of string) iter.Seq[string] {
	return func(yield func(string) bool) {
		level := []string{""}
		for range most + 1 {
			var next []string
			for _, row := range level {
				if !yield(row) {
					return
				}
				for place := range len(of) {
					next = append(next, row+of[place:place+1])
				}
			}
			level = next
		}
	}
}

// ofToken tells whether a byte is a token's, by the chapter's words.
func ofToken(b byte) bool {
	return strings.Contains(small+great+digits+strings.ReplaceAll(signs, " ", ""), one(b))
}

// ofValue tells whether a byte is a value's, by the chapter's words.
func ofValue(b byte) bool { return b == 9 || 32 <= b && b <= 126 || 128 <= b }

// all tells whether each byte of a text is such a one.
func all(s string, is func(byte) bool) bool {
	for _, b := range []byte(s) {
		if !is(b) {
			return false
		}
	}
	return true
}

// trimByWords is a text that is trimmed, by the chapter's words.
func trimByWords(s string) string { return strings.Trim(s, "\x09\x20") }

// lowerByWords is a text in small letters, by the chapter's words.
func lowerByWords(s string) string {
	for place := range len(great) {
		s = strings.ReplaceAll(s, great[place:place+1], small[place:place+1])
	}
	return s
}

// itemsByWords are a list's items, by the chapter's words.
func itemsByWords(s string) []string {
	var l []string
	for {
		ahead, behind, found := strings.Cut(s, ",")
		if item := trimByWords(ahead); item != "" {
			l = append(l, item)
		}
		if !found {
			return l
		}
		s = behind
	}
}

// endByWords is where a quoted text ends that begins at a place, by the chapter's words: behind the first " that no
// \ takes with it. A \ ahead of it does, unless it is taken itself: an odd number of them.
func endByWords(s string, begin int) int {
	for place := begin + 1; place < len(s); place++ {
		ahead := s[begin+1 : place]
		taken := (len(ahead)-len(strings.TrimRight(ahead, `\`)))%2 == 1
		if s[place] == '"' && !taken {
			return place + 1
		}
	}
	return len(s)
}

// partsByWords is what stands between such bytes that are in no quoted text, by the chapter's words; not trimmed.
func partsByWords(s string, by byte) []string {
	within := make([]bool, len(s))
	for place := 0; place < len(s); place++ {
		if s[place] != '"' {
			continue
		}
		end := endByWords(s, place)
		for in := place + 1; in < end; in++ {
			within[in] = true
		}
		place = end - 1
	}
	var l []string
	from := 0
	for place := range len(s) {
		if s[place] == by && !within[place] {
			l = append(l, s[from:place])
			from = place + 1
		}
	}
	return append(l, s[from:])
}

// quotedForm is a quoted text, each of whose bytes is written as the point of its number.
var quotedForm = regexp.MustCompile(`^"(?:[\t\x20-\x21\x23-\x5b\x5d-\x7e\x{80}-\x{ff}]|\\[\t\x20-\x7e\x{80}-\x{ff}])*"$`)

// escaped is a \ and what it takes with it.
var escaped = regexp.MustCompile(`(?s)\\(.)`)

// points are bytes, each written as the point of its number; bytes are what they were.
func points(s string) string {
	var l []rune
	for _, b := range []byte(s) {
		l = append(l, rune(b))
	}
	return string(l)
}

func bytesOf(s string) string {
	var l []byte
	for _, r := range s {
		l = append(l, byte(r))
	}
	return string(l)
}

// quotedByWords is a quoted text's text, by the chapter's words.
func quotedByWords(s string) (string, api.Errno) {
	form := points(s)
	if !quotedForm.MatchString(form) {
		return "", api.ErrText
	}
	return bytesOf(escaped.ReplaceAllString(form[1:len(form)-1], "$1")), api.OK
}

// numbered is a part with its number.
type numbered struct {
	number int
	part   string
}

// shown are parts as a message shows them: no more of them than is read.
func shown(l []numbered) string {
	var texts []string
	for _, n := range l {
		texts = append(texts, fmt.Sprintf("%d: %.60q", n.number, n.part))
	}
	return fmt.Sprintf("(%.600s)", strings.Join(texts, "; "))
}

// gone goes over at most so many parts, leaves then, and is what it went over.
func gone(seq iter.Seq2[int, string], most int) []numbered {
	var l []numbered
	if most == 0 {
		return l
	}
	for number, part := range seq {
		l = append(l, numbered{number, part})
		if len(l) == most {
			break
		}
	}
	return l
}

// eachByWords are the parts that Each goes over, by the chapter's words.
func eachByWords(s string, by byte) []numbered {
	var l []numbered
	for number, part := range partsByWords(s, by) {
		l = append(l, numbered{number, trimByWords(part)})
	}
	return l
}

// wantAsks holds Token, Value, Trim and Lower of a text against the chapter's words.
func wantAsks(t *testing.T, s string) {
	t.Helper()
	if got, want := token.Token(s), s != "" && all(s, ofToken); got != want {
		t.Errorf("Token(%.60q): %v", s, got)
	}
	trim := trimByWords(s)
	if got, want := token.Value(s), all(s, ofValue) && s == trim; got != want {
		t.Errorf("Value(%.60q): %v", s, got)
	}
	if got := token.Trim(s); got != trim {
		t.Errorf("Trim(%.60q): %.60q; want %.60q", s, got, trim)
	}
	if got, want := token.Lower(s), lowerByWords(s); got != want {
		t.Errorf("Lower(%.60q): %.60q; want %.60q", s, got, want)
	}
	if !token.Same(s, s) || !token.Same(s, lowerByWords(s)) || !token.Same(lowerByWords(s), s) {
		t.Errorf("Same of %.60q and itself: false", s)
	}
}

// wantFollows holds what follows, of a text.
func wantFollows(t *testing.T, s string) {
	t.Helper()
	trim, lower := token.Trim(s), token.Lower(s)
	if again := token.Trim(trim); again != trim {
		t.Errorf("Trim of Trim of %.60q: %.60q, %.60q", s, trim, again)
	}
	if again := token.Lower(lower); again != lower {
		t.Errorf("Lower of Lower of %.60q: %.60q, %.60q", s, lower, again)
	}
	if got, want := token.Value(trim), all(trim, ofValue); got != want {
		t.Errorf("Value of Trim of %.60q: %v", s, got)
	}
	for _, item := range token.Items(s) {
		if strings.Contains(item, ",") || item == "" {
			t.Errorf("Items(%.60q): %.60q is one", s, item)
		}
		if token.Value(s) && !token.Value(item) {
			t.Errorf("Items(%.60q): of a value %.60q is one, and no value", s, item)
		}
	}
}

// wantItems holds Items of a text against the chapter's words.
func wantItems(t *testing.T, s string) {
	t.Helper()
	if got, want := token.Items(s), itemsByWords(s); !slices.Equal(got, want) {
		t.Errorf("Items(%.60q): %.60q; want %.60q", s, got, want)
	}
}

// wantCut holds Cut of a text by a byte against the chapter's words.
func wantCut(t *testing.T, s string, by byte) {
	t.Helper()
	first := partsByWords(s, by)[0]
	behind, found := "", len(first) < len(s)
	if found {
		behind = trimByWords(s[len(first)+1:])
	}
	gotAhead, gotBehind, gotFound := token.Cut(s, by)
	if gotAhead != trimByWords(first) || gotBehind != behind || gotFound != found {
		t.Errorf("Cut(%.60q, %q): %.60q, %.60q, %v; want %.60q, %.60q, %v", s, by, gotAhead, gotBehind, gotFound, trimByWords(first), behind, found)
	}
}

// wantEach holds Each of a text by a byte against the chapter's words, gone over whole.
func wantEach(t *testing.T, s string, by byte) {
	t.Helper()
	if got, want := gone(token.Each(s, by), math.MaxInt), eachByWords(s, by); !slices.Equal(got, want) {
		t.Errorf("Each(%.60q, %q): %s; want %s", s, by, shown(got), shown(want))
	}
}

// wantQuoted holds Quoted of a text against the chapter's words.
func wantQuoted(t *testing.T, s string) {
	t.Helper()
	got, e := token.Quoted(s)
	if want, wantE := quotedByWords(s); got != want || e != wantE {
		t.Errorf("Quoted(%.60q): %.60q, errno %d; want %.60q, errno %d", s, got, int(e), want, int(wantE))
	}
}

// wantAll holds all that is told of a text against the chapter's words; Cut and Each by each of some bytes.
func wantAll(t *testing.T, s, by string) {
	t.Helper()
	wantAsks(t, s)
	wantFollows(t, s)
	wantItems(t, s)
	wantQuoted(t, s)
	for place := range len(by) {
		wantCut(t, s, by[place])
		wantEach(t, s, by[place])
	}
}

// P9.1: Token, at what the chapter names.
func TestToken(t *testing.T) {
	for s, want := range map[string]bool{
		"":                      false,
		"a-b":                   true,
		"a b":                   false,
		"a":                     true,
		" a":                    false,
		"a ":                    false,
		"\ta":                   false,
		"a\t":                   false,
		" ":                     false,
		"!#$%&'*+-.^_`|~":       true,
		"text/event-stream":     false,
		"text":                  true,
		"event-stream":          true,
		"*":                     true,
		"HTTP":                  true,
		"HTTP/1.1":              false,
		"1.1":                   true,
		"a:b":                   false,
		"a;b":                   false,
		"a,b":                   false,
		"a=b":                   false,
		`"a"`:                   false,
		`a\b`:                   false,
		"a@b":                   false,
		"(a)":                   false,
		"[a]":                   false,
		"{a}":                   false,
		"<a>":                   false,
		"a?":                    false,
		"a\x00":                 false,
		"a\x7f":                 false,
		"\u00e9":                false,
		"a\u00e9":               false,
		"\xff":                  false,
		"a\r\n":                 false,
		strings.Repeat("a", 99): true,
	} {
		if got := token.Token(s); got != want {
			t.Errorf("Token(%q): %v", s, got)
		}
	}
}

// P9.1: Value, at what the chapter names.
func TestValue(t *testing.T) {
	for s, want := range map[string]bool{
		"":          true,
		"a b":       true,
		"a\tb":      true,
		"a \t b":    true,
		" a":        false,
		"\ta":       false,
		"a ":        false,
		"a\t":       false,
		" ":         false,
		"\t":        false,
		" \t":       false,
		"a":         true,
		"a, b":      true,
		`"a\"b"`:    true,
		"~":         true,
		"\x80":      true,
		"\xff":      true,
		"\u00e9":    true,
		"\u00a0a":   true,
		"a\u2003":   true,
		"\x00":      false,
		"a\x00b":    false,
		"a\rb":      false,
		"a\nb":      false,
		"a\r\n":     false,
		"a\x0bb":    false,
		"a\x0cb":    false,
		"a\x1fb":    false,
		"a\x7fb":    false,
		"\x7f":      false,
		"a\x08":     false,
		"\ufeffa":   true,
		"a=\"x;y\"": true,
	} {
		if got := token.Value(s); got != want {
			t.Errorf("Value(%q): %v", s, got)
		}
	}
}

// P9.1: Trim leaves out the two blanks alone, at both ends alone.
func TestTrim(t *testing.T) {
	for s, want := range map[string]string{
		"":              "",
		" ":             "",
		"\t":            "",
		" \t \t":        "",
		"a":             "a",
		" a":            "a",
		"a ":            "a",
		"\ta":           "a",
		"a\t":           "a",
		" \ta b\t ":     "a b",
		"\t a\tb \t":    "a\tb",
		"  a  b  ":      "a  b",
		"\ra\n":         "\ra\n",
		" \ra\n ":       "\ra\n",
		"\x0ba\x0c":     "\x0ba\x0c",
		"\x08a\x1f":     "\x08a\x1f",
		"\u00a0a\u00a0": "\u00a0a\u00a0",
		"\u2003a\u3000": "\u2003a\u3000",
		"\x85a\x85":     "\x85a\x85",
		" \x00 ":        "\x00",
		" \xff ":        "\xff",
		"!a!":           "!a!",
	} {
		if got := token.Trim(s); got != want {
			t.Errorf("Trim(%q): %q; want %q", s, got, want)
		}
	}
}

// P9.1: Lower takes A to Z alone, and leaves all other bytes as they are.
func TestLower(t *testing.T) {
	for s, want := range map[string]string{
		"":                         "",
		great:                      small,
		small:                      small,
		digits:                     digits,
		signs:                      signs,
		"@AZ[":                     "@az[",
		"`az{":                     "`az{",
		"Last-Event-ID":            "last-event-id",
		"\u00c9":                   "\u00c9",
		"A\u00c9B":                 "a\u00c9b",
		"\u212a":                   "\u212a",
		"\u0130":                   "\u0130",
		"\u0391":                   "\u0391",
		"\uff21":                   "\uff21",
		"\xffA\xff":                "\xffa\xff",
		"\xc3A":                    "\xc3a",
		"\xe2\x82A\xac":            "\xe2\x82a\xac",
		"\xf0Z\x9f\x98Z\x80":       "\xf0z\x9f\x98z\x80",
		"\x00A\x00":                "\x00a\x00",
		"\u20acA\U0001f600Z\ufffd": "\u20aca\U0001f600z\ufffd",
	} {
		if got := token.Lower(s); got != want {
			t.Errorf("Lower(%q): %q; want %q", s, got, want)
		}
	}
}

// P9.1: Same, of texts that are names and of others.
func TestSame(t *testing.T) {
	for _, c := range []struct {
		a, b string
		want bool
	}{
		{"", "", true},
		{"", "a", false},
		{"", " ", false},
		{"", "\x00", false},
		{"a", "a", true},
		{"a", "A", true},
		{"A", "A", true},
		{"a", "b", false},
		{"a", "B", false},
		{"a", "aa", false},
		{"Accept", "ACCEPT", true},
		{"accept", "accep", false},
		{"accept", "accept ", false},
		{"accept", " accept", false},
		{"last-event-id", "Last-Event-ID", true},
		{"last-event-id", "last_event_id", false},
		{"abc", "abd", false},
		{"abc", "bbc", false},
		{"a b", "A B", true},
		{"a: \x00", "A: \x00", true},
		{"@", "`", false},
		{"[", "{", false},
		{"Z", "z", true},
		{"\\", "|", false},
		{"]", "}", false},
		{"^", "~", false},
		{"_", "\x7f", false},
		{"K", "\u212a", false},
		{"k", "\u212a", false},
		{"s", "\u017f", false},
		{"\u00e9", "\u00c9", false},
		{"\u00e9", "\u00e9", true},
		{"\xff", "\xfe", false},
		{"\xff", "\ufffd", false},
		{"\xc1", "\xe1", false},
		{"A\xff", "a\xff", true},
		{"A\xff", "a\xfe", false},
	} {
		if got := token.Same(c.a, c.b); got != c.want {
			t.Errorf("Same(%q, %q): %v", c.a, c.b, got)
		}
		if got := token.Same(c.b, c.a); got != c.want {
			t.Errorf("Same(%q, %q): %v", c.b, c.a, got)
		}
	}
}

// P9.1: Same, of each two bytes.
func TestSameOfBytes(t *testing.T) {
	for a := range 256 {
		for b := range 256 {
			x, y := one(byte(a)), one(byte(b))
			want := a == b || strings.Contains(great, x) && strings.Index(great, x) == strings.Index(small, y) || strings.Contains(small, x) && strings.Index(small, x) == strings.Index(great, y)
			if token.Same(x, y) != want || token.Same("m"+x, "M"+y) != want {
				t.Errorf("Same(%q, %q): %v", x, y, !want)
			}
		}
	}
}

// P9.1: which single bytes are a token, and which are a value.
func TestSingleBytes(t *testing.T) {
	values, tokens := 0, 0
	for b := range 256 {
		s := one(byte(b))
		if token.Token(s) {
			tokens++
		}
		if token.Value(s) {
			values++
		}
		wantAll(t, s, "\x00\t ,;\"\\a\x7f\xff")
		wantCut(t, s, byte(b))
		wantEach(t, s, byte(b))
	}
	// 52 letters, 10 digits and 15 signs; 94 from 33 to 126, and 128 from 128 on.
	if tokens != 77 || values != 222 {
		t.Errorf("of all single bytes %d are tokens, %d values", tokens, values)
	}
	for b, want := range map[byte][2]bool{
		0: {false, false}, 8: {false, false}, 9: {false, false}, 10: {false, false}, 11: {false, false}, 12: {false, false}, 13: {false, false},
		31: {false, false}, 32: {false, false}, 33: {true, true}, 34: {false, true}, 40: {false, true}, 44: {false, true}, 47: {false, true}, 58: {false, true}, 64: {false, true},
		'A': {true, true}, 'Z': {true, true}, 91: {false, true}, 92: {false, true}, 93: {false, true}, 94: {true, true}, 96: {true, true}, 'a': {true, true}, 'z': {true, true},
		123: {false, true}, 124: {true, true}, 125: {false, true}, 126: {true, true}, 127: {false, false}, 128: {false, true}, 160: {false, true}, 255: {false, true},
	} {
		if got := [2]bool{token.Token(one(b)), token.Value(one(b))}; got != want {
			t.Errorf("byte %d: token, value: %v; want %v", b, got, want)
		}
	}
}

// P9.1, P9.2, P9.3, P9.4: each byte, at each place of a text.
func TestEachByte(t *testing.T) {
	for b := range 256 {
		for _, s := range []string{"a", "AbC", "a b", "a, b", `"a"`, `"a\b"`, `a="x;y";b`, "\xe2\x82\xac"} {
			for place := range len(s) + 1 {
				by := one(byte(b)) + `,;"\ `
				wantAll(t, s[:place]+one(byte(b))+s[place:], by)
				if place < len(s) {
					wantAll(t, s[:place]+one(byte(b))+s[place+1:], by)
				}
			}
		}
	}
}

// P9.2: Items, at what the chapter names.
func TestItems(t *testing.T) {
	for s, want := range map[string][]string{
		"":                         nil,
		" ":                        nil,
		" \t ":                     nil,
		",":                        nil,
		",,,":                      nil,
		" , \t,":                   nil,
		"a":                        {"a"},
		" a ":                      {"a"},
		"\ta\t":                    {"a"},
		"a,b":                      {"a", "b"},
		"a, ,b ,":                  {"a", "b"},
		",a":                       {"a"},
		"a,":                       {"a"},
		" ,a":                      {"a"},
		"a,,b":                     {"a", "b"},
		"a,\t,b":                   {"a", "b"},
		",,a,,b,,":                 {"a", "b"},
		"b,a,b":                    {"b", "a", "b"},
		"a b , c d":                {"a b", "c d"},
		"Keep-Alive, Upgrade":      {"Keep-Alive", "Upgrade"},
		"a;b,c":                    {"a;b", "c"},
		`"a,b"`:                    {`"a`, `b"`},
		`a="x,y",b`:                {`a="x`, `y"`, "b"},
		`"a\,b"`:                   {`"a\`, `b"`},
		"a\n, b":                   {"a\n", "b"},
		"\r,\x00":                  {"\r", "\x00"},
		"\xff,\x80":                {"\xff", "\x80"},
		"\u00e9,\u3001,\uff0c":     {"\u00e9", "\u3001", "\uff0c"},
		"\u00a0,a":                 {"\u00a0", "a"},
		strings.Repeat(",", 99):    nil,
		strings.Repeat("a,", 3):    {"a", "a", "a"},
		strings.Repeat(" , a ", 3): {"a", "a", "a"},
	} {
		if got := token.Items(s); !slices.Equal(got, want) {
			t.Errorf("Items(%q): %q; want %q", s, got, want)
		}
		wantItems(t, s)
		wantFollows(t, s)
	}
}

// P9.2: Cut, at what the chapter names.
func TestCut(t *testing.T) {
	for _, c := range []struct {
		s             string
		by            byte
		ahead, behind string
		found         bool
	}{
		{`a="x;y";b`, ';', `a="x;y"`, "b", true},
		{"", ';', "", "", false},
		{" \t", ';', "", "", false},
		{";", ';', "", "", true},
		{" ; ", ';', "", "", true},
		{"a", ';', "a", "", false},
		{" a\t", ';', "a", "", false},
		{";a", ';', "", "a", true},
		{"a;", ';', "a", "", true},
		{"a;b", ';', "a", "b", true},
		{" a ;\tb ", ';', "a", "b", true},
		{"a;b;c", ';', "a", "b;c", true},
		{"a;;b", ';', "a", ";b", true},
		{"a,b", ';', "a,b", "", false},
		// By blanks, by letters, by what is no value's byte.
		{"a b", ' ', "a", "b", true},
		{" a b", ' ', "", "a b", true},
		{"a  b", ' ', "a", "b", true},
		{"a ", ' ', "a", "", true},
		{" ", ' ', "", "", true},
		{"a\tb", ' ', "a\tb", "", false},
		{"a\tb", '\t', "a", "b", true},
		{"\t a", '\t', "", "a", true},
		{"bab", 'a', "b", "b", true},
		{"abc", 'a', "", "bc", true},
		{"abc", 'c', "ab", "", true},
		{"abab", 'b', "a", "ab", true},
		{"A", 'a', "A", "", false},
		{"a\x00b", 0, "a", "b", true},
		{"a\x00b", 255, "a\x00b", "", false},
		{"a\xffb", 255, "a", "b", true},
		{"\u20ac", 0x82, "\xe2", "\xac", true},
		{"a\nb", '\n', "a", "b", true},
		// Quoted texts, that end and that do not.
		{`"a;b"`, ';', `"a;b"`, "", false},
		{`"a;b";c`, ';', `"a;b"`, "c", true},
		{`"a;b`, ';', `"a;b`, "", false},
		{`a;"b`, ';', "a", `"b`, true},
		{`";`, ';', `";`, "", false},
		{`"";a`, ';', `""`, "a", true},
		{`"a\";b`, ';', `"a\";b`, "", false},
		{`"a\";b";c`, ';', `"a\";b"`, "c", true},
		{`"a\\";b`, ';', `"a\\"`, "b", true},
		{`"a\\\";b`, ';', `"a\\\";b`, "", false},
		{`"a\;b";c`, ';', `"a\;b"`, "c", true},
		{`"a;\`, ';', `"a;\`, "", false},
		{`"a\ `, ';', `"a\`, "", false},
		{`"a;b"";c";d`, ';', `"a;b"";c"`, "d", true},
		{`"a" "b;c";d`, ';', `"a" "b;c"`, "d", true},
		{`a"b;c"d;e`, ';', `a"b;c"d`, "e", true},
		{`a"b;c`, ';', `a"b;c`, "", false},
		{`a\;b`, ';', `a\`, "b", true},
		{`a\"b;c"`, ';', `a\"b;c"`, "", false},
		{`a\"b;c";d`, ';', `a\"b;c"`, "d", true},
		{`" a ; b " ; c `, ';', `" a ; b "`, "c", true},
		{`'a;b'`, ';', "'a", "b'", true},
		{"\"\xff;\";\xff", ';', "\"\xff;\"", "\xff", true},
		{"\"\x00;\";\x00", ';', "\"\x00;\"", "\x00", true},
		{"\"\n;\";", ';', "\"\n;\"", "", true},
		// By a ", and by a \.
		{`a"b`, '"', "a", "b", true},
		{`"`, '"', "", "", true},
		{`""`, '"', "", `"`, true},
		{`"a"`, '"', "", `a"`, true},
		{`a"b"c`, '"', "a", `b"c`, true},
		{`a\"b`, '"', `a\`, "b", true},
		{"a", '"', "a", "", false},
		{`a\b`, '\\', "a", "b", true},
		{`\`, '\\', "", "", true},
		{`\\`, '\\', "", `\`, true},
		{`"a\b"`, '\\', `"a\b"`, "", false},
		{`"a\b"\c`, '\\', `"a\b"`, "c", true},
		{`"a\"\b`, '\\', `"a\"\b`, "", false},
		{`"a\\"\b`, '\\', `"a\\"`, "b", true},
		{`\"a\b"`, '\\', "", `"a\b"`, true},
		{`"a b" c`, ' ', `"a b"`, "c", true},
		{`"a b`, ' ', `"a b`, "", false},
		{`"a" b`, 'b', `"a"`, "", true},
		{`"ab"b`, 'b', `"ab"`, "", true},
	} {
		if ahead, behind, found := token.Cut(c.s, c.by); ahead != c.ahead || behind != c.behind || found != c.found {
			t.Errorf("Cut(%q, %q): %q, %q, %v; want %q, %q, %v", c.s, c.by, ahead, behind, found, c.ahead, c.behind, c.found)
		}
		wantCut(t, c.s, c.by)
		wantEach(t, c.s, c.by)
	}
}

// P9.2: Each, at what the chapter names.
func TestEach(t *testing.T) {
	for _, c := range []struct {
		s    string
		by   byte
		want []string
	}{
		{"", ',', []string{""}},
		{" ", ',', []string{""}},
		{"a", ',', []string{"a"}},
		{" a\t", ',', []string{"a"}},
		{",", ',', []string{"", ""}},
		{",,", ',', []string{"", "", ""}},
		{" , \t,", ',', []string{"", "", ""}},
		{"a,b", ',', []string{"a", "b"}},
		{",a", ',', []string{"", "a"}},
		{"a,", ',', []string{"a", ""}},
		{" a , b ,\tc", ',', []string{"a", "b", "c"}},
		{"a,,b", ',', []string{"a", "", "b"}},
		{"a;b", ',', []string{"a;b"}},
		{`"a,b",c`, ',', []string{`"a,b"`, "c"}},
		{`a,"b,c",d,"e,f"`, ',', []string{"a", `"b,c"`, "d", `"e,f"`}},
		{`"a,b""c,d",e`, ',', []string{`"a,b""c,d"`, "e"}},
		{`a,"b,c`, ',', []string{"a", `"b,c`}},
		{`"a\",b",c`, ',', []string{`"a\",b"`, "c"}},
		{`"a\\",b"`, ',', []string{`"a\\"`, `b"`}},
		{`"a\,b",c\,d`, ',', []string{`"a\,b"`, `c\`, "d"}},
		{`"a,\`, ',', []string{`"a,\`}},
		{`a"b,c"d,e`, ',', []string{`a"b,c"d`, "e"}},
		// By blanks, each of which stands between two parts.
		{"a b", ' ', []string{"a", "b"}},
		{"a  b", ' ', []string{"a", "", "b"}},
		{" a ", ' ', []string{"", "a", ""}},
		{"  ", ' ', []string{"", "", ""}},
		{"a \tb", ' ', []string{"a", "b"}},
		{"a\t \tb", '\t', []string{"a", "", "b"}},
		{`a "b c" d`, ' ', []string{"a", `"b c"`, "d"}},
		// By a ", where the one that ends a quoted text stands in it.
		{`"`, '"', []string{"", ""}},
		{`""`, '"', []string{"", `"`}},
		{`"a"`, '"', []string{"", `a"`}},
		{`a"b"c`, '"', []string{"a", `b"c`}},
		{`a"b"c"d"e`, '"', []string{"a", `b"c`, `d"e`}},
		{`a"b"c"d`, '"', []string{"a", `b"c`, "d"}},
		{`"""`, '"', []string{"", `"`, ""}},
		{`"\"`, '"', []string{"", `\"`}},
		{`"\""`, '"', []string{"", `\""`}},
		{`"\"""`, '"', []string{"", `\""`, ""}},
		{`\"\"`, '"', []string{`\`, `\"`}},
		// By a \, by letters, by what is no value's byte.
		{`a\b\c`, '\\', []string{"a", "b", "c"}},
		{`\\`, '\\', []string{"", "", ""}},
		{`\"\\"\`, '\\', []string{"", `"\\"`, ""}},
		{`"\`, '\\', []string{`"\`}},
		{"abcabc", 'b', []string{"a", "ca", "c"}},
		{"aa", 'a', []string{"", "", ""}},
		{`a"a"a`, 'a', []string{"", `"a"`, ""}},
		{"\x00a\x00", 0, []string{"", "a", ""}},
		{"\xff\xfe\xff", 0xff, []string{"", "\xfe", ""}},
		{"\u20ac", 0x82, []string{"\xe2", "\xac"}},
	} {
		var want []numbered
		for number, part := range c.want {
			want = append(want, numbered{number, part})
		}
		if got := gone(token.Each(c.s, c.by), math.MaxInt); !slices.Equal(got, want) {
			t.Errorf("Each(%q, %q): %s; want %s", c.s, c.by, shown(got), shown(want))
		}
		wantEach(t, c.s, c.by)
		wantCut(t, c.s, c.by)
	}
}

// P9.3: Quoted, at what the chapter names.
func TestQuoted(t *testing.T) {
	for s, want := range map[string]string{
		`""`:            "",
		`"a"`:           "a",
		`"a\"b"`:        `a"b`,
		`"a\\b"`:        `a\b`,
		`"a\b"`:         "ab",
		`"\a\b\c"`:      "abc",
		`"\\\""`:        `\"`,
		`"\\\\"`:        `\\`,
		`"\\n"`:         `\n`,
		`"\n"`:          "n",
		`" a "`:         " a ",
		"\"\ta\t\"":     "\ta\t",
		"\"\\\t\\ \"":   "\t ",
		`"a,b;c=d"`:     "a,b;c=d",
		"\"~\x80\xff\"": "~\x80\xff",
		"\"\\\xff\"":    "\xff",
		"\"\\\x80\"":    "\x80",
		"\"\u20ac\"":    "\u20ac",
		"\"\\\u20ac\"":  "\u20ac",
		`"'a'"`:         "'a'",
	} {
		if got, e := token.Quoted(s); got != want || e != api.OK {
			t.Errorf("Quoted(%q): %q, errno %d; want %q", s, got, int(e), want)
		}
		wantQuoted(t, s)
	}
}

// P9.3: texts that are no quoted ones.
func TestNotQuoted(t *testing.T) {
	for _, s := range []string{
		"", `"`, `"a`, `a"`, "a", "ab", ` `, `\`, `\"`, `\"a"`,
		` "a"`, `"a" `, "\t\"a\"", `a"b"`, `"a"b`, `"a"""`, `"a" "b"`, `"a""b"`, `"""`, `"a"b"`, `""a`, `a""`,
		`"\"`, `"a\"`, `"\`, `"a\`, `"\\\"`, `"\\"a"`, `"\\""`,
		"\"\x00\"", "\"a\x7fb\"", "\"\x1f\"", "\"\x08\"", "\"\n\"", "\"\r\"", "\"\x0b\"", "\"\x0c\"",
		"\"\\\x00\"", "\"\\\x7f\"", "\"\\\n\"", "\"\\\r\"", "\"\\\x1f\"", "\"\\\\\x00\"",
		"'a'", "\u201ca\u201d", "\xff\"a\"",
	} {
		if got, e := token.Quoted(s); got != "" || e != api.ErrText {
			t.Errorf("Quoted(%q): %q, errno %d", s, got, int(e))
		}
		wantQuoted(t, s)
	}
	if api.ErrText == api.OK {
		t.Error("ErrText is no error")
	}
}

// P9.3: each byte in a quoted text, by itself and behind a \.
func TestQuotedBytes(t *testing.T) {
	for b := range 256 {
		s := one(byte(b))
		wantText, wantE := "", api.ErrText
		if ofValue(byte(b)) {
			wantText, wantE = s, api.OK
		}
		if got, e := token.Quoted(`"\` + s + `"`); got != wantText || e != wantE {
			t.Errorf("Quoted of \\ and %q: %q, errno %d", s, got, int(e))
		}
		if b == '"' || b == '\\' {
			wantText, wantE = "", api.ErrText
		}
		if got, e := token.Quoted(`"` + s + `"`); got != wantText || e != wantE {
			t.Errorf("Quoted of %q: %q, errno %d", s, got, int(e))
		}
	}
}

// P9.3: what is written as a quoted text is read as what it was.
func TestQuotedOfWritten(t *testing.T) {
	for s := range rows(5, "a\"\\ ,\xff") {
		written := strings.ReplaceAll(strings.ReplaceAll(s, `\`, `\\`), `"`, `\"`)
		if got, e := token.Quoted(`"` + written + `"`); got != s || e != api.OK {
			t.Fatalf("Quoted of the quoted text of %q: %q, errno %d", s, got, int(e))
		}
	}
}

// P9.2, P9.3, P9.4: every short text of a few bytes.
func TestShortTexts(t *testing.T) {
	for s := range rows(5, ",\"\\ \ta\x00") {
		wantAll(t, s, ",\"\\ \ta\x00b")
		if t.Failed() {
			t.FailNow()
		}
	}
	for s := range rows(8, "\"\\,") {
		wantItems(t, s)
		wantQuoted(t, s)
		for place := range 3 {
			wantCut(t, s, "\"\\,"[place])
			wantEach(t, s, "\"\\,"[place])
		}
		wantQuoted(t, `"`+s+`"`)
		if t.Failed() {
			t.FailNow()
		}
	}
}

// P9.1, P9.4: every short text of letters, blanks, and bytes next to them.
func TestShortWords(t *testing.T) {
	for s := range rows(4, "@AZ[`az{ \t\r\x7f\xff") {
		wantAsks(t, s)
		wantFollows(t, s)
		if t.Failed() {
			t.FailNow()
		}
	}
	for a := range rows(3, "@A`a\xff") {
		for b := range rows(3, "@A`a\xff") {
			if got, want := token.Same(a, b), lowerByWords(a) == lowerByWords(b); got != want {
				t.Fatalf("Same(%q, %q): %v", a, b, got)
			}
		}
	}
}

// P9.1, P9.2, P9.3, P9.4: long texts.
func TestLongTexts(t *testing.T) {
	const long = 1 << 12
	for _, piece := range []string{"a", "A", " ", "\t", ",", "a,", ", ", `"`, `\`, `\"`, `\\`, `"a"`, `"a,b",`, "\xff", "\x00", "\u20ac"} {
		s := strings.Repeat(piece, long/len(piece))
		for _, whole := range []string{s, "a" + s, s + "a", `"` + s, `"` + s + `"`, " " + s + " ", s + "\x00"} {
			wantAsks(t, whole)
			wantFollows(t, whole)
			wantItems(t, whole)
			wantQuoted(t, whole)
			for place := range 4 {
				wantCut(t, whole, ",\"\\ "[place])
			}
			wantEach(t, whole, ',')
		}
	}
}

// P9.2, P9.3: a great text is gone over once, not once for each of its parts.
func TestGreatTexts(t *testing.T) {
	const great = 1 << 20
	commas := strings.Repeat(",", great)
	if l := token.Items(commas); len(l) != 0 {
		t.Errorf("Items of commas: %d", len(l))
	}
	if l := token.Items(strings.Repeat("a,", great)); len(l) != great {
		t.Errorf("Items: %d", len(l))
	}
	count := 0
	for number, part := range token.Each(commas, ',') {
		if number != count || part != "" {
			t.Fatalf("Each of commas: %d %.60q behind %d", number, part, count)
		}
		count++
	}
	if count != great+1 {
		t.Errorf("Each of commas: %d", count)
	}
	if got, e := token.Quoted(`"` + strings.Repeat(`\"`, great) + `"`); got != strings.Repeat(`"`, great) || e != api.OK {
		t.Errorf("Quoted: %d bytes, errno %d", len(got), int(e))
	}
	if ahead, behind, found := token.Cut(`"`+commas+`",a`, ','); len(ahead) != great+2 || behind != "a" || !found {
		t.Errorf("Cut: %d bytes, %.60q, %v", len(ahead), behind, found)
	}
}

// listed are texts with many parts.
var listed = []string{"", ",", "a", "a,b,c", " a , ,b ,", `a,"b,c",d,"e`, "a\x00,\xff,", `"a\",b",c`}

// P9.2: each number goes from 0 on; it may be left at any place, and gone over again.
func TestEachLeft(t *testing.T) {
	for _, s := range listed {
		want := eachByWords(s, ',')
		seq := token.Each(s, ',')
		for round := range 2 {
			for most := range len(want) + 1 {
				if got := gone(seq, most); !slices.Equal(got, want[:most]) {
					t.Errorf("Each(%q), left behind %d: %s; want %s", s, most, shown(got), shown(want[:most]))
				}
			}
			if got := gone(seq, math.MaxInt); !slices.Equal(got, want) {
				t.Errorf("Each(%q), round %d: %s; want %s", s, round, shown(got), shown(want))
			}
		}
		for number := range want {
			if want[number].number != number {
				t.Errorf("part %d has the number %d", number, want[number].number)
			}
		}
	}
}

// P9.2: when it is left, it tells nothing any more.
func TestEachStops(t *testing.T) {
	for most := 1; most < 5; most++ {
		calls := 0
		token.Each("a,b,c,d,e", ',')(func(int, string) bool {
			calls++
			return calls < most
		})
		if calls != most {
			t.Errorf("left behind %d: %d are told", most, calls)
		}
	}
}

// P9.2: goings over do not change one another.
func TestEachWithin(t *testing.T) {
	for _, s := range listed {
		want := eachByWords(s, ',')
		seq := token.Each(s, ',')
		var outer []numbered
		for number, part := range seq {
			outer = append(outer, numbered{number, part})
			if inner := gone(seq, math.MaxInt); !slices.Equal(inner, want) {
				t.Errorf("Each(%q) within: %s; want %s", s, shown(inner), shown(want))
			}
			gone(seq, 1)
			gone(token.Each(`"`, ','), math.MaxInt)
		}
		if !slices.Equal(outer, want) {
			t.Errorf("Each(%q) about others: %s; want %s", s, shown(outer), shown(want))
		}
	}
}

// P9.2: what a loop's body gives up by passes through, and leaves all as it was.
func TestEachPanics(t *testing.T) {
	seq := token.Each("a,b", ',')
	func() {
		defer func() {
			if got := recover(); got != "mine" {
				t.Errorf("a body's panic: %v", got)
			}
		}()
		for range seq {
			panic("mine")
		}
	}()
	if got, want := gone(seq, math.MaxInt), eachByWords("a,b", ','); !slices.Equal(got, want) {
		t.Errorf("behind a panic: %s; want %s", shown(got), shown(want))
	}
}

// shares tells whether two texts have memory together.
func shares(a, b string) bool {
	if a == "" || b == "" {
		return false
	}
	x, y := uintptr(unsafe.Pointer(unsafe.StringData(a))), uintptr(unsafe.Pointer(unsafe.StringData(b)))
	return x < y+uintptr(len(b)) && y < x+uintptr(len(a))
}

// answersOf are all texts that calls tell of one, by their calls. Texts of one byte are left out: the language
// itself has one text for each.
func answersOf(s string) map[string]string {
	l := map[string]string{"Trim": token.Trim(s), "Lower": token.Lower(s)}
	l["Quoted"], _ = token.Quoted(s)
	for number, item := range token.Items(s) {
		l[fmt.Sprint("Items ", number)] = item
	}
	l["Cut ahead"], l["Cut behind"], _ = token.Cut(s, ',')
	for number, part := range token.Each(s, ',') {
		l[fmt.Sprint("Each ", number)] = part
	}
	for call, answer := range l {
		if len(answer) == 1 {
			delete(l, call)
		}
	}
	return l
}

// P9.1, P9.2, P9.3: answers share no memory with what was handed in, nor with one another.
func TestNewMemory(t *testing.T) {
	for _, s := range []string{"abc", "ABC", " abc ", "abc,def", "  abc, ,def ,", `"abc,def",ghi`, `"abc"`, `"a\bc,"`, "\u20ac\u20ac,\u20ac"} {
		handed := strings.Clone(s)
		answers, again := answersOf(handed), answersOf(handed)
		for call, answer := range answers {
			if shares(answer, handed) {
				t.Errorf("%q: %s shares memory with it", s, call)
			}
			for other, text := range answers {
				if other != call && shares(answer, text) {
					t.Errorf("%q: %s and %s share memory", s, call, other)
				}
			}
			for other, text := range again {
				if shares(answer, text) {
					t.Errorf("%q: %s, and %s called again, share memory", s, call, other)
				}
			}
		}
		if handed != s {
			t.Errorf("%q was handed in; it is %q now", s, handed)
		}
	}
}

// P9.2: the lists of items are apart.
func TestItemsApart(t *testing.T) {
	first := token.Items("a,b")
	second := token.Items("a,b")
	first[0] = "x"
	first = append(first, "y")
	if second[0] != "a" || len(second) != 2 || len(first) != 3 || token.Items("a,b")[0] != "a" {
		t.Errorf("one list was changed; another one is %q", second)
	}
}

// kept is how much memory is, when all that is not needed has gone.
func kept() int {
	var m runtime.MemStats
	runtime.GC()
	runtime.ReadMemStats(&m)
	return int(m.HeapAlloc)
}

// P9.1, P9.2: short texts of long ones hold on to nothing else of them.
func TestKept(t *testing.T) {
	const count, size, bound = 16, 1 << 20, 1 << 22
	before := kept()
	var l []string
	for range count {
		l = append(l, token.Trim(strings.Repeat(" ", size)+"short"))
		l = append(l, token.Items(strings.Repeat(",", size)+"short")...)
		ahead, _, _ := token.Cut("short,"+strings.Repeat(" ", size), ',')
		l = append(l, ahead)
		for _, part := range token.Each("short,"+strings.Repeat(" ", size), ',') {
			l = append(l, part)
			break
		}
	}
	if after := kept(); after-before > bound {
		t.Errorf("%d bytes are kept of short texts", after-before)
	}
	if len(l) != 4*count || slices.ContainsFunc(l, func(s string) bool { return s != "short" }) {
		t.Errorf("%d texts: %.60q", len(l), l)
	}
}

// P9.1, P9.2, P9.3: the chapter's examples.
func TestExamples(t *testing.T) {
	if !token.Token("a-b") || token.Token("a b") || token.Token("") || !token.Value("a b") || token.Value(" a") {
		t.Error("Token, Value")
	}
	if got := token.Items("a, ,b ,"); !slices.Equal(got, []string{"a", "b"}) {
		t.Errorf("Items: %q", got)
	}
	if ahead, behind, found := token.Cut(`a="x;y";b`, ';'); ahead != `a="x;y"` || behind != "b" || !found {
		t.Errorf("Cut: %q, %q, %v", ahead, behind, found)
	}
	if got, e := token.Quoted(`"a\"b"`); got != `a"b` || e != api.OK {
		t.Errorf("Quoted: %q, errno %d", got, int(e))
	}
	if got, e := token.Quoted(`"a`); got != "" || e != api.ErrText {
		t.Errorf("Quoted of what does not end: %q, errno %d", got, int(e))
	}
}

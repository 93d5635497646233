package target_test

import (
	"encoding/hex"
	"fmt"
	"iter"
	"math"
	"slices"
	"strings"
	"testing"
	"unsafe"

	"bellman/api"
	"bellman/target"
)

// most is more than there ever is.
const most = math.MaxInt

// pairsOf writes pairs short: a Key, a Val, a Key, a Val.
func pairsOf(texts ...string) []api.Pair {
	var l []api.Pair
	for place := 0; place+1 < len(texts); place += 2 {
		l = append(l, api.Pair{Key: texts[place], Val: texts[place+1]})
	}
	return l
}

// targetOf writes a target short: its parts, and its pairs' Keys and Vals.
func targetOf(parts []string, texts ...string) api.Target {
	return api.Target{Path: parts, Query: pairsOf(texts...)}
}

// parts writes parts short.
func parts(l ...string) []string { return l }

// same tells whether two targets have the same parts and pairs, in the same order.
func same(a, b api.Target) bool {
	if len(a.Path) != len(b.Path) || len(a.Query) != len(b.Query) {
		return false
	}
	for number, part := range a.Path {
		if part != b.Path[number] {
			return false
		}
	}
	for number, pair := range a.Query {
		if pair.Key != b.Query[number].Key || pair.Val != b.Query[number].Val {
			return false
		}
	}
	return true
}

// shown is a target as a message shows it: no more of it than is read.
func shown(t api.Target) string { return fmt.Sprintf("%.200s", fmt.Sprintf("%q %q", t.Path, t.Query)) }

// single is a text of one byte.
func single(b int) string { return string([]byte{byte(b)}) }

// standing are the bytes that stand as they are where a target is written.
const standing = "abcdefghijklmnopqrstuvwxyzABCDEFGHIJKLMNOPQRSTUVWXYZ0123456789-._~"

// encodeByWords is a text as it is written, by the chapter's words.
func encodeByWords(s string) string {
	var l []string
	for _, b := range []byte(s) {
		if strings.Contains(standing, string([]byte{b})) {
			l = append(l, string([]byte{b}))
		} else {
			l = append(l, fmt.Sprintf("%%%02X", b))
		}
	}
	return strings.Join(l, "")
}

// decodeByWords is a text, decoded, and whether it can be, by the chapter's words.
func decodeByWords(s string, plus bool) (string, bool) {
	pieces := strings.Split(s, "%")
	for number, piece := range pieces {
		var ahead []byte
		if number > 0 {
			var e error
			if len(piece) < 2 {
				return "", false
			}
			if ahead, e = hex.DecodeString(piece[:2]); e != nil {
				return "", false
			}
			piece = piece[2:]
		}
		if plus {
			piece = strings.ReplaceAll(piece, "+", " ")
		}
		pieces[number] = string(ahead) + piece
	}
	return strings.Join(pieces, ""), true
}

// wrongByWords tells whether a part is wrong, by the chapter's words.
func wrongByWords(part string) bool {
	for _, b := range []byte(part) {
		if b == '/' || b == 0 {
			return true
		}
	}
	return part == "." || part == ".."
}

// parseByWords is the target of a text, and whether it is one's, by the chapter's words: it is gone over byte by byte.
func parseByWords(s string) (api.Target, bool) {
	var t api.Target
	var part, key, val string
	inQuery, behind, begun := false, false, false
	good := s != "" && s[0] == '/'
	decoded := func(text string, plus bool) string {
		plain, is := decodeByWords(text, plus)
		good = good && is
		return plain
	}
	endPart := func() {
		plain := decoded(part, false)
		good = good && !wrongByWords(plain)
		t.Path = append(t.Path, plain)
		part = ""
	}
	endPair := func() {
		if begun {
			t.Query = append(t.Query, api.Pair{Key: decoded(key, true), Val: decoded(val, true)})
		}
		key, val, behind, begun = "", "", false, false
	}
	for place, b := range []byte(s) {
		good = good && b >= 33 && b <= 126 && b != '#'
		switch {
		case place == 0:
		case !inQuery && b == '?':
			inQuery = true
		case !inQuery && b == '/':
			endPart()
		case !inQuery:
			part += string([]byte{b})
		case b == '&':
			endPair()
		case b == '=' && !behind:
			behind, begun = true, true
		case behind:
			val += string([]byte{b})
		default:
			key, begun = key+string([]byte{b}), true
		}
	}
	endPart()
	endPair()
	if !good {
		return api.Target{}, false
	}
	return t, true
}

// textByWords is a target's text, and whether it may be, by the chapter's words.
func textByWords(t api.Target) (string, bool) {
	if len(t.Path) == 0 || slices.ContainsFunc(t.Path, wrongByWords) {
		return "", false
	}
	s := ""
	for _, part := range t.Path {
		s += "/" + encodeByWords(part)
	}
	var l []string
	for _, pair := range t.Query {
		l = append(l, encodeByWords(pair.Key)+"="+encodeByWords(pair.Val))
	}
	if len(l) > 0 {
		s += "?" + strings.Join(l, "&")
	}
	return s, true
}

// ifSo is no error of what is so, and the error else.
func ifSo(so bool, e api.Errno) api.Errno {
	if so {
		return api.OK
	}
	return e
}

// wantParse holds Parse of a text against the chapter's words, and is what these tell.
func wantParse(t testing.TB, s string) (api.Target, bool) {
	t.Helper()
	want, is := parseByWords(s)
	got, e := target.Parse(s)
	if !same(got, want) || e != ifSo(is, api.ErrTarget) {
		t.Errorf("Parse(%.99q): %s, errno %d; want %s, %v", s, shown(got), int(e), shown(want), is)
	}
	return want, is
}

// wantParsed holds Parse of a text against what is written down, and the chapter's words.
func wantParsed(t testing.TB, s string, want api.Target) {
	t.Helper()
	if got, is := wantParse(t, s); !same(got, want) || !is {
		t.Errorf("%.99q: by the chapter's words %s, %v; want %s", s, shown(got), is, shown(want))
	}
}

// wantNone holds Parse of a text that is no target's against what is written down, and the chapter's words.
func wantNone(t testing.TB, s string) {
	t.Helper()
	if got, is := wantParse(t, s); is {
		t.Errorf("%.99q: by the chapter's words %s; want none", s, shown(got))
	}
}

// wantDecode holds Decode of a text against the chapter's words.
func wantDecode(t testing.TB, s string) {
	t.Helper()
	for _, plus := range []bool{false, true} {
		want, is := decodeByWords(s, plus)
		got, e := target.Decode(s, plus)
		if got != want || e != ifSo(is, api.ErrTarget) {
			t.Errorf("Decode(%.99q, %v): %.99q, errno %d; want %.99q, %v", s, plus, got, int(e), want, is)
		}
	}
}

// wantText holds Text of a target against the chapter's words, and is what these tell.
func wantText(t testing.TB, x api.Target) (string, bool) {
	t.Helper()
	want, is := textByWords(x)
	got, e := target.Text(x)
	if got != want || e != ifSo(is, api.ErrArg) {
		t.Errorf("Text(%s): %.99q, errno %d; want %.99q, %v", shown(x), got, int(e), want, is)
	}
	return want, is
}

// rows goes over the texts that so many of the pieces make, or fewer, in each order.
func rows(many int, pieces ...string) iter.Seq[string] {
	return func(yield func(string) bool) {
		l := []string{""}
		for number := 0; number <= many; number++ {
			var next []string
			for _, s := range l {
				if !yield(s) {
					return
				}
				for _, piece := range pieces {
					if number < many {
						next = append(next, s+piece)
					}
				}
			}
			l = next
		}
	}
}

// P11.1: the chapter's examples.
func TestParseExamples(t *testing.T) {
	wantParsed(t, "/a/b%20c?x=1&y&&z=a+b", targetOf(parts("a", "b c"), "x", "1", "y", "", "z", "a b"))
	for _, s := range []string{"a", "/..", "/%2e%2e", "/a%2", "/#"} {
		wantNone(t, s)
	}
	wantParsed(t, "/", targetOf(parts("")))
}

// P11.1: the path: its beginning, and parts that are empty, ahead, between and behind.
func TestParsePath(t *testing.T) {
	for _, s := range []string{
		"", "a", "a/", "a/b", "?", "?/", "?a=1", "/ ", " /", " ", "%2f", "%2Fa", "*", "http://a/b", ".", "..", "../", "&", "=", "\\a", "\x00/", "\xef\xbb\xbf/",
	} {
		wantNone(t, s)
	}
	for s, want := range map[string][]string{
		"/": {""}, "//": {"", ""}, "///": {"", "", ""}, "/a": {"a"}, "/a/": {"a", ""}, "//a": {"", "a"}, "/a//b": {"a", "", "b"},
		"//a//": {"", "a", "", ""}, "/a/b/c": {"a", "b", "c"}, "/a+b": {"a+b"}, "/a&b=c": {"a&b=c"}, "/=": {"="}, "/&": {"&"},
		"/!$'()*,;:@[]\\^_`{|}~\"<>": {"!$'()*,;:@[]\\^_`{|}~\"<>"},
	} {
		wantParsed(t, s, targetOf(want))
		wantParsed(t, s+"?", targetOf(want))
		wantParsed(t, s+"?a=/&b", targetOf(want, "a", "/", "b", ""))
	}
}

// P11.1: the query: what stands between the &, ahead of the first = and behind it, and behind the first ?.
func TestParseQuery(t *testing.T) {
	for s, want := range map[string][]api.Pair{
		"": nil, "&": nil, "&&": nil, "&&&": nil,
		"a":  pairsOf("a", ""),
		"a=": pairsOf("a", ""), "=a": pairsOf("", "a"), "=": pairsOf("", ""), "==": pairsOf("", "="), "===": pairsOf("", "=="),
		"a=b": pairsOf("a", "b"), "a=b=c": pairsOf("a", "b=c"), "a==b": pairsOf("a", "=b"), "a=b=": pairsOf("a", "b="),
		"&a=b": pairsOf("a", "b"), "a=b&": pairsOf("a", "b"), "&&a&&b&&": pairsOf("a", "", "b", ""), "a&b": pairsOf("a", "", "b", ""),
		"=&=": pairsOf("", "", "", ""), "=&a": pairsOf("", "", "a", ""), "a&=": pairsOf("a", "", "", ""),
		"?": pairsOf("?", ""), "??": pairsOf("??", ""), "a?b=c?d": pairsOf("a?b", "c?d"), "a=?&?=b": pairsOf("a", "?", "?", "b"),
		"/": pairsOf("/", ""), "a/b=c/d": pairsOf("a/b", "c/d"), "..": pairsOf("..", ""), ".=..": pairsOf(".", ".."),
		"+": pairsOf(" ", ""), "+=+": pairsOf(" ", " "), "a+b=c++d": pairsOf("a b", "c  d"), "%2b=%2B": pairsOf("+", "+"),
		"%3d=%3D": pairsOf("=", "="), "%26=%26": pairsOf("&", "&"), "%3f=%23": pairsOf("?", "#"), "%25%32%35=%252b": pairsOf("%25", "%2b"),
		"%2e%2E=%2f%2F": pairsOf("..", "//"), "%00=%00": pairsOf("\x00", "\x00"), "%ff=%C3%a9": pairsOf("\xff", "\u00e9"),
		"a=1&a=2&b=3&a=1": pairsOf("a", "1", "a", "2", "b", "3", "a", "1"),
	} {
		wantParsed(t, "/?"+s, api.Target{Path: parts(""), Query: want})
		wantParsed(t, "/a/b?"+s, api.Target{Path: parts("a", "b"), Query: want})
	}
	for _, s := range []string{"#", "a=b#", " ", "a= ", "a=b c", "a\x7f", "\u00e9", "a=\xff", "a&\n"} {
		wantNone(t, "/?"+s)
	}
}

// P11.1: each single byte, at each place of a text.
func TestParseBytes(t *testing.T) {
	for b := range 256 {
		s := single(b)
		for _, one := range []string{
			s, s + "/", "/" + s, "/a" + s, "/" + s + "a", "/a" + s + "b", "/a/" + s, "/" + s + "/a", "/a/" + s + "?b",
			"/?" + s, "/?a" + s, "/?" + s + "a", "/?a" + s + "b", "/?a=" + s, "/?a=b" + s, "/?a=" + s + "b", "/?a=b" + s + "c",
			"/?a&" + s, "/?" + s + "&a", "/?" + s + "=1", "/?a=1&b" + s + "=2&c=3", "/a?b?" + s,
		} {
			wantParse(t, one)
		}
		_, e := target.Parse("/a" + s + "b?c" + s + "d=e" + s + "f")
		if may := b >= 33 && b <= 126 && b != '#' && b != '%'; e != ifSo(may, api.ErrTarget) {
			t.Errorf("byte %d: errno %d", b, int(e))
		}
	}
	for _, s := range []string{"/\u00e9", "/\u2028", "/\U0001f600", "/a\xc3", "/\xc3\xa9?a", "/?a=\u00a0", "/\ufffd", "/\xed\xa0\x80"} {
		wantNone(t, s)
	}
}

// written are ways to write a byte by a % and its two digits: with small letters, great ones, and each of both.
func written(b int) []string {
	small := fmt.Sprintf("%02x", b)
	great := strings.ToUpper(small)
	return []string{"%" + small, "%" + great, "%" + small[:1] + great[1:], "%" + great[:1] + small[1:]}
}

// P11.1: each of the 256 bytes written as % and two digits, in a part, in a Key and in a Val.
func TestParseWritten(t *testing.T) {
	for b := range 256 {
		s := single(b)
		for _, one := range written(b) {
			if s == "/" || s == "." || s == "\x00" {
				wantNone(t, "/"+one)
			} else {
				wantParsed(t, "/"+one, targetOf(parts(s)))
			}
			if s == "/" || s == "\x00" {
				wantNone(t, "/a"+one+"b/c")
			} else {
				wantParsed(t, "/a"+one+"b/c", targetOf(parts("a"+s+"b", "c")))
			}
			wantParsed(t, "/?"+one, targetOf(parts(""), s, ""))
			wantParsed(t, "/?="+one, targetOf(parts(""), "", s))
			wantParsed(t, "/?"+one+"="+one, targetOf(parts(""), s, s))
			wantParsed(t, "/a?b"+one+"c=d"+one+"e&"+one, targetOf(parts("a"), "b"+s+"c", "d"+s+"e", s, ""))
			wantParsed(t, "/a?"+one+one+"=+"+one+"1", targetOf(parts("a"), s+s, " "+s+"1"))
			for _, plus := range []bool{false, true} {
				if got, e := target.Decode(one, plus); got != s || e != api.OK {
					t.Errorf("Decode(%q, %v): %q, errno %d", one, plus, got, int(e))
				}
			}
		}
	}
}

// P11.1: a % at the end, with one sign behind it, with a sign that is no hex digit in either place.
func TestParsePercent(t *testing.T) {
	for _, s := range []string{"%", "%%", "%2", "%a", "%F", "a%", "a%2", "%zz", "%2z", "%z2", "%g0", "%0g", "%G0", "%0G", "%+1", "%1+", "%-1", "%0x", "%x1", "%1_", "%%20", "%2%0", "%20%", "%20%2", "%2,0"} {
		wantDecode(t, s)
		if _, e := target.Decode(s, true); e != api.ErrTarget {
			t.Errorf("Decode(%q): errno %d", s, int(e))
		}
		for _, one := range []string{"/" + s, "/" + s + "/0a", "/0a/" + s, "/" + s + "?0a", "/?" + s, "/?" + s + "=0a", "/?a=" + s, "/?" + s + "&0a", "/?0a&" + s, "/?a=" + s + "&0a"} {
			wantNone(t, one)
		}
	}
	for b := range 256 {
		s := single(b)
		digit := strings.Contains("0123456789abcdefABCDEF", s)
		for _, one := range []string{"%" + s + "4", "%4" + s, "%" + s + s, "x%" + s + "4y", "x%4" + s + "y"} {
			wantDecode(t, one)
			if _, e := target.Decode(one, false); e != ifSo(digit, api.ErrTarget) {
				t.Errorf("Decode(%q): errno %d", one, int(e))
			}
			for _, ahead := range []string{"/", "/a/", "/?", "/?a=", "/?a&"} {
				wantParse(t, ahead+one)
				wantParse(t, ahead+one+"b")
			}
		}
		wantDecode(t, "%"+s)
		wantDecode(t, s+"%")
	}
}

// dotted are ways to write a part, and whether it is wrong.
var dotted = []struct {
	text, part string
	wrong      bool
}{
	{".", ".", true}, {"..", "..", true}, {"%2e", ".", true}, {"%2E", ".", true}, {".%2e", "..", true}, {"%2e.", "..", true},
	{"%2E%2e", "..", true}, {"%2f", "/", true}, {"%2F", "/", true}, {"a%2fb", "a/b", true}, {"..%2f", "../", true}, {"%2f..", "/..", true},
	{"%00", "\x00", true}, {"a%00", "a\x00", true}, {"%00a", "\x00a", true}, {"a%00b", "a\x00b", true}, {"..%00", "..\x00", true},
	{"12345678%2f", "12345678/", true}, {"12345678%00", "12345678\x00", true}, {"%ff%2f%ff", "\xff/\xff", true},
	{"...", "...", false}, {"%2e%2e%2e", "...", false}, {"....", "....", false}, {".a", ".a", false}, {"a.", "a.", false}, {"..a", "..a", false},
	{"a..", "a..", false}, {"a..b", "a..b", false}, {".%20", ". ", false}, {"%20.", " .", false}, {"..+", "..+", false}, {".;", ".;", false},
	{"%5c..", "\\..", false}, {"%01", "\x01", false}, {"%252e", "%2e", false}, {"%252e%252e", "%2e%2e", false}, {"%252f", "%2f", false},
	{"%2500", "%00", false}, {"%c0%ae", "\xc0\xae", false}, {"%ef%bc%8e", "\uff0e", false}, {"%2e%20%2e", ". .", false}, {"-", "-", false}, {"0", "0", false},
}

// P11.1, P11.2, P11.4: parts of dots, and such as have a / or a byte 0, however they are written, at each place.
func TestDots(t *testing.T) {
	for _, c := range dotted {
		for _, around := range [][2][]string{
			{nil, nil}, {{"a"}, nil}, {nil, {"a"}}, {{"a"}, {"b"}}, {{""}, {""}}, {{"a", "b"}, {"c", ""}},
		} {
			texts := slices.Concat(around[0], parts(c.text), around[1])
			want := targetOf(slices.Concat(around[0], parts(c.part), around[1]))
			for _, query := range []string{"", "?", "?a=b", "?.=.."} {
				s := "/" + strings.Join(texts, "/") + query
				if _, is := wantParse(t, s); is == c.wrong {
					t.Errorf("Parse(%q): %v", s, is)
				}
			}
			if !c.wrong {
				wantParsed(t, "/"+strings.Join(texts, "/"), want)
			}
			if _, is := wantText(t, want); is == c.wrong {
				t.Errorf("Text(%s): %v", shown(want), is)
			}
		}
		// A Key and a Val may be all of these.
		wantParsed(t, "/?"+c.text+"="+c.text, targetOf(parts(""), strings.ReplaceAll(c.part, "+", " "), strings.ReplaceAll(c.part, "+", " ")))
		if _, is := wantText(t, targetOf(parts("a"), c.part, c.part)); !is {
			t.Errorf("Text of a pair %q", c.part)
		}
	}
}

// P11.1, P11.4: all texts of a few pieces; none that is taken has a part of dots, and Text tells one of the same target.
func TestParseRows(t *testing.T) {
	taken, refused := 0, 0
	for s := range rows(5, "/", "?", "&", "=", "+", "a", ".", "%2e", "%2F", "%", "2", "#") {
		for _, one := range []string{s, "/" + s} {
			x, is := wantParse(t, one)
			if !is {
				refused++
				continue
			}
			taken++
			for _, part := range x.Path {
				if wrongByWords(part) {
					t.Errorf("%q: a part %q", one, part)
				}
			}
			text, e := target.Text(x)
			again, no := target.Parse(text)
			if e != api.OK || no != api.OK || !same(again, x) {
				t.Errorf("Parse(%q): %s; Text %q, of which Parse tells %s", one, shown(x), text, shown(again))
			}
		}
	}
	if taken < 10000 || refused < 10000 {
		t.Errorf("%d are taken, %d refused", taken, refused)
	}
}

// P11.1: Decode: each single byte, with plus and without; a byte that no target's text may have stands for itself.
func TestDecode(t *testing.T) {
	wantDecode(t, "")
	for b := range 256 {
		s := single(b)
		for _, one := range []string{s, s + s, "a" + s, s + "a", "a" + s + "b", s + "%20", "%20" + s, "+" + s, s + "+"} {
			wantDecode(t, one)
		}
		if b == '%' || b == '+' {
			continue
		}
		for _, plus := range []bool{false, true} {
			if got, e := target.Decode(s, plus); got != s || e != api.OK {
				t.Errorf("Decode(%q, %v): %q, errno %d", s, plus, got, int(e))
			}
		}
	}
	for _, c := range []struct {
		s, plain, withPlus string
	}{
		{"+", "+", " "}, {"a+b", "a+b", "a b"}, {"++", "++", "  "}, {"%2b", "+", "+"}, {"%2B+%2b", "+++", "+ +"}, {"%20", " ", " "},
		{"%41%4a%4A", "AJJ", "AJJ"}, {"%25", "%", "%"}, {"%2541", "%41", "%41"}, {"%252541", "%2541", "%2541"}, {"a/../b?c#d", "a/../b?c#d", "a/../b?c#d"},
		{"\u00e9%C3%A9", "\u00e9\u00e9", "\u00e9\u00e9"}, {"\xff%fe", "\xff\xfe", "\xff\xfe"}, {"%00", "\x00", "\x00"}, {" \x00\n", " \x00\n", " \x00\n"},
	} {
		plain, e := target.Decode(c.s, false)
		withPlus, no := target.Decode(c.s, true)
		if plain != c.plain || withPlus != c.withPlus || e != api.OK || no != api.OK {
			t.Errorf("Decode(%q): %q, errno %d; with plus %q, errno %d", c.s, plain, int(e), withPlus, int(no))
		}
		wantDecode(t, c.s)
	}
}

// P11.1: Decode: all texts of a few pieces, and each two bytes behind a %.
func TestDecodeRows(t *testing.T) {
	for s := range rows(6, "%", "2", "0", "b", "F", "+", "g") {
		wantDecode(t, s)
	}
	for one := range 256 {
		for two := range 256 {
			wantDecode(t, "%"+single(one)+single(two))
		}
	}
}

// P11.2: the chapter's examples.
func TestTextExamples(t *testing.T) {
	if s, e := target.Text(targetOf(parts("a/b"), "\u00e9", "1")); s != "" || e != api.ErrArg {
		t.Errorf("%q, errno %d", s, int(e))
	}
	if s, e := target.Text(targetOf(parts("b c"), "\u00e9", "1")); s != "/b%20c?%C3%A9=1" || e != api.OK {
		t.Errorf("%q, errno %d", s, int(e))
	}
}

// P11.2: Text: targets without a part, with an empty one, with pairs of which the Key or the Val or both are empty.
func TestText(t *testing.T) {
	for _, x := range []api.Target{
		{}, {Path: parts()}, {Query: pairsOf("a", "1")}, {Path: []string{}, Query: []api.Pair{}}, {Path: []string{}, Query: pairsOf("", "")},
	} {
		if _, is := wantText(t, x); is {
			t.Errorf("%s", shown(x))
		}
	}
	for _, c := range []struct {
		x    api.Target
		want string
	}{
		{targetOf(parts("")), "/"},
		{api.Target{Path: parts(""), Query: []api.Pair{}}, "/"},
		{targetOf(parts("", "")), "//"},
		{targetOf(parts("a")), "/a"},
		{targetOf(parts("a", "")), "/a/"},
		{targetOf(parts("", "a", "", "b")), "//a//b"},
		{targetOf(parts(""), "", ""), "/?="},
		{targetOf(parts(""), "a", ""), "/?a="},
		{targetOf(parts(""), "", "a"), "/?=a"},
		{targetOf(parts(""), "a", "b"), "/?a=b"},
		{targetOf(parts(""), "", "", "", ""), "/?=&="},
		{targetOf(parts("a"), "", "", "b", "", "", "c"), "/a?=&b=&=c"},
		{targetOf(parts("a"), "b", "1", "b", "2", "a", "1"), "/a?b=1&b=2&a=1"},
		{targetOf(parts("+"), "+", "+"), "/%2B?%2B=%2B"},
		{targetOf(parts(" "), " ", " "), "/%20?%20=%20"},
		{targetOf(parts("%2e"), "=", "&"), "/%252e?%3D=%26"},
		{targetOf(parts("..."), "..", "/"), "/...?..=%2F"},
		{targetOf(parts("a?b", "#"), "?", "#"), "/a%3Fb/%23?%3F=%23"},
		{targetOf(parts("\x01\xff"), "\x00", "\x7f"), "/%01%FF?%00=%7F"},
		{targetOf(parts("aZ09-._~")), "/aZ09-._~"},
	} {
		if s, is := wantText(t, c.x); !is || s != c.want {
			t.Errorf("%s: by the chapter's words %q; want %q", shown(c.x), s, c.want)
		}
	}
}

// P11.2: Text: each single byte, as a part, a Key, a Val; Encode of the same.
func TestTextBytes(t *testing.T) {
	for b := range 256 {
		s := single(b)
		for _, one := range []string{s, s + s, "a" + s, s + "a", "a" + s + "b"} {
			wantText(t, targetOf(parts(one)))
			wantText(t, targetOf(parts("", one)))
			wantText(t, targetOf(parts(one, "")))
			wantText(t, targetOf(parts("a"), one, ""))
			wantText(t, targetOf(parts("a"), "", one))
			wantText(t, targetOf(parts("a"), one, one, "b", "1"))
			if got := target.Encode(one); got != encodeByWords(one) {
				t.Errorf("Encode(%q): %q", one, got)
			}
		}
		want := fmt.Sprintf("%%%02X", b)
		if strings.Contains(standing, s) {
			want = s
		}
		if got := target.Encode(s); got != want {
			t.Errorf("Encode(%q): %q; want %q", s, got, want)
		}
	}
	for _, s := range []string{"", "\u00e9", "\u2028", "\U0001f600", "a b+c%20", "\xc3", "\xff\xfe\x00", strings.Repeat("\x00a", 999)} {
		if got := target.Encode(s); got != encodeByWords(s) {
			t.Errorf("Encode(%.99q): %.99q", s, got)
		}
	}
}

// P11.2: Path: the parts as they are, with any bytes, also such as are wrong, and of none.
func TestPath(t *testing.T) {
	for _, c := range []struct {
		x    api.Target
		want string
	}{
		{api.Target{}, ""}, {targetOf([]string{}), ""}, {targetOf(nil, "a", "b"), ""},
		{targetOf(parts("")), "/"}, {targetOf(parts("", "")), "//"}, {targetOf(parts("a")), "/a"}, {targetOf(parts("a", "b"), "c", "d"), "/a/b"},
		{targetOf(parts("", "a", "")), "//a/"}, {targetOf(parts("a b", "%20", "+")), "/a b/%20/+"}, {targetOf(parts("..", ".")), "/../."},
		{targetOf(parts("a/b", "/")), "/a/b//"}, {targetOf(parts("\x00", "\xff", "\u00e9?#&=")), "/\x00/\xff/\u00e9?#&="},
	} {
		if got := target.Path(c.x); got != c.want {
			t.Errorf("Path(%s): %q; want %q", shown(c.x), got, c.want)
		}
	}
	for b := range 256 {
		s := single(b)
		if got := target.Path(targetOf(parts(s, "a"+s), s, s)); got != "/"+s+"/a"+s {
			t.Errorf("byte %d: %q", b, got)
		}
	}
}

// gone goes over at most so many pairs, leaves then, and is what it went over.
func gone(seq iter.Seq2[string, string], most int) []api.Pair {
	var l []api.Pair
	if most == 0 {
		return l
	}
	for key, val := range seq {
		l = append(l, api.Pair{Key: key, Val: val})
		if len(l) == most {
			break
		}
	}
	return l
}

// queries are pairs of which some have one Key.
var queries = [][]api.Pair{
	nil, {},
	pairsOf("a", "1"), pairsOf("a", ""), pairsOf("", "1"), pairsOf("", ""),
	pairsOf("a", "1", "a", "2"), pairsOf("b", "1", "a", "2", "a", "3"), pairsOf("a", "", "a", "2"), pairsOf("a", "1", "a", "1"),
	pairsOf("A", "1", "a", "2"), pairsOf("aa", "1", "a", "2", " a", "3"), pairsOf("", "1", "", "2", "a", "3"),
	pairsOf("a", "b", "b", "c", "c", "a"), pairsOf("=", "1", "&", "2", "%61", "3", "+", "4", "\x00", "5", "\xff", "6", "\u00e9", "7", "..", "8"),
	pairsOf("a=1", "2", "a", "3"), pairsOf("b", "a", "b", "a", "c", "a"),
}

// P11.3: Get, of keys that no pair has, that one has and that several have; of targets that may not be, too.
func TestGet(t *testing.T) {
	keys := []string{"", "a", "A", "b", "c", "aa", " a", "a ", "1", "=", "&", "%61", "+", " ", "\x00", "\xff", "\u00e9", "..", "a=1", "z"}
	has, hasNot := 0, 0
	for _, query := range queries {
		for _, path := range [][]string{parts("a"), nil, parts(".."), parts("a", "b")} {
			x := api.Target{Path: path, Query: query}
			for _, key := range keys {
				want, is := "", false
				for number := len(query) - 1; number >= 0; number-- {
					if query[number].Key == key {
						want, is = query[number].Val, true
					}
				}
				if got, found := target.Get(x, key); got != want || found != is {
					t.Errorf("Get(%s, %q): %q, %v; want %q, %v", shown(x), key, got, found, want, is)
				}
				if is {
					has++
				} else {
					hasNot++
				}
			}
		}
	}
	if has < 50 || hasNot < 50 {
		t.Errorf("%d has, %d has not", has, hasNot)
	}
	x, _ := target.Parse("/a/b%20c?x=1&y&&z=a+b&x=2")
	for key, want := range map[string]string{"x": "1", "y": "", "z": "a b"} {
		if got, is := target.Get(x, key); got != want || !is {
			t.Errorf("Get %q: %q, %v", key, got, is)
		}
	}
	if got, is := target.Get(x, "a"); got != "" || is {
		t.Errorf("Get of a part: %q, %v", got, is)
	}
}

// P11.3: Pairs goes over the pairs, in order; it may be left at any time, and gone over again.
func TestPairs(t *testing.T) {
	for _, query := range queries {
		for _, path := range [][]string{parts("a"), nil, parts("..")} {
			seq := target.Pairs(api.Target{Path: path, Query: query})
			for round := range 2 {
				for most := range len(query) + 1 {
					if got := gone(seq, most); !slices.Equal(got, query[:most]) {
						t.Errorf("Pairs of %q, round %d, left behind %d: %q", query, round, most, got)
					}
				}
				if got := gone(seq, most); !slices.Equal(got, query) {
					t.Errorf("Pairs of %q, round %d: %q", query, round, got)
				}
			}
		}
	}
	for most := 1; most < 4; most++ {
		calls := 0
		target.Pairs(targetOf(parts("a"), "b", "1", "c", "2", "d", "3", "e", "4"))(func(string, string) bool {
			calls++
			return calls < most
		})
		if calls != most {
			t.Errorf("left behind %d: %d are told", most, calls)
		}
	}
}

// P11.3: goings over do not change one another; what a body gives up by passes through.
func TestPairsWithin(t *testing.T) {
	want := pairsOf("a", "1", "b", "2", "a", "3")
	seq := target.Pairs(api.Target{Path: parts("a"), Query: slices.Clone(want)})
	var outer []api.Pair
	for key, val := range seq {
		outer = append(outer, api.Pair{Key: key, Val: val})
		if inner := gone(seq, most); !slices.Equal(inner, want) {
			t.Errorf("within: %q", inner)
		}
	}
	if !slices.Equal(outer, want) {
		t.Errorf("about another one: %q", outer)
	}
	func() {
		defer func() {
			if got := recover(); got != "mine" {
				t.Errorf("a body's panic: %v", got)
			}
		}()
		for range seq {
			panic("mine")
		}
	}()
	if got := gone(seq, most); !slices.Equal(got, want) {
		t.Errorf("behind a panic: %q", got)
	}
}

// P11.3: what Pairs goes over is as it was when it was called.
func TestPairsAsItWas(t *testing.T) {
	query := pairsOf("a", "1", "b", "2", "c", "3")
	want := slices.Clone(query)
	seq := target.Pairs(api.Target{Path: parts("a"), Query: query[:2]})
	query[0], query[1] = api.Pair{Key: "x", Val: "y"}, api.Pair{}
	if got := gone(seq, most); !slices.Equal(got, want[:2]) {
		t.Errorf("%q", got)
	}
	seq = target.Pairs(api.Target{Path: parts("a"), Query: query})
	want = slices.Clone(query)
	number := 0
	for key, val := range seq {
		query[2] = api.Pair{Key: "late", Val: "late"}
		if number >= len(want) || want[number] != (api.Pair{Key: key, Val: val}) {
			t.Errorf("pair %d: %q %q", number, key, val)
		}
		number++
	}
}

// P11.3: Same: targets that differ in one part or one pair alone, in their number, or in nothing.
func TestSame(t *testing.T) {
	var all []api.Target
	for _, path := range [][]string{
		nil, {""}, {"", ""}, {"a"}, {"A"}, {"b"}, {"a", ""}, {"", "a"}, {"a", "b"}, {"b", "a"}, {"a", "b", "c"}, {"a", "x", "c"}, {"a", "b", "x"}, {"x", "b", "c"},
		{"a/b"}, {"ab"}, {"a b"}, {"a%20b"}, {"a+b"}, {".."}, {"\x00"}, {"\xff"},
	} {
		for _, query := range [][]api.Pair{
			nil, pairsOf("", ""), pairsOf("a", ""), pairsOf("", "a"), pairsOf("a", "a"), pairsOf("a", "1"), pairsOf("a", "2"), pairsOf("b", "1"), pairsOf("A", "1"),
			pairsOf("a", "1", "b", "2"), pairsOf("b", "2", "a", "1"), pairsOf("a", "1", "b", "3"), pairsOf("a", "1", "c", "2"), pairsOf("a", "1", "a", "1"),
			pairsOf("a", "1", "b", "2", "", ""),
		} {
			all = append(all, api.Target{Path: path, Query: query})
		}
	}
	again := make([]api.Target, len(all))
	for number, x := range all {
		again[number] = api.Target{Path: append([]string{}, x.Path...), Query: append([]api.Pair{}, x.Query...)}
	}
	for one, x := range all {
		for two, y := range again {
			if got := target.Same(x, y); got != (one == two) {
				t.Errorf("Same(%s, %s): %v", shown(x), shown(y), got)
			}
			if got := target.Same(y, x); got != (one == two) {
				t.Errorf("Same(%s, %s): %v", shown(y), shown(x), got)
			}
		}
	}
}

// P11.4: Parse of Text is the target, also with pairs without Key and Val; a great grid of them.
func TestParseText(t *testing.T) {
	count := 0
	texts := []string{"", "a", "b c", "+", "%", "%20", "=", "&", "?", "#", "\u00e9", "\xff", "...", "\x7f", "~"}
	wrong := []string{".", "..", "/", "a/b", "\x00"}
	for _, one := range append(slices.Clone(texts), wrong...) {
		for _, two := range append(slices.Clone(texts), wrong...) {
			for _, path := range [][]string{{one}, {one, two}, {"", one, two, ""}} {
				for _, query := range [][]api.Pair{nil, pairsOf("", ""), pairsOf(one, two), pairsOf(one, "", "", two), pairsOf("", "", two, one, "", "")} {
					x := api.Target{Path: path, Query: query}
					s, is := wantText(t, x)
					if !is {
						continue
					}
					count++
					if got, e := target.Parse(s); e != api.OK || !same(got, x) || !target.Same(got, x) {
						t.Errorf("Text(%s): %q, of which Parse tells %s, errno %d", shown(x), s, shown(got), int(e))
					}
				}
			}
		}
	}
	if count < 3000 {
		t.Errorf("%d targets", count)
	}
}

// P11.4: Decode of Encode is the text, with plus and without.
func TestDecodeEncode(t *testing.T) {
	check := func(s string) {
		for _, plus := range []bool{false, true} {
			if got, e := target.Decode(target.Encode(s), plus); got != s || e != api.OK {
				t.Errorf("Decode(Encode(%.99q), %v): %.99q, errno %d", s, plus, got, int(e))
			}
		}
	}
	for one := range 256 {
		check(single(one))
		for two := range 256 {
			check(single(one) + single(two))
		}
	}
	for s := range rows(5, "%", "2", "+", " ", "F", "\xc3", "\xa9", "/") {
		check(s)
	}
}

// P11.1, P11.2: long texts, of many parts and pairs; what is wrong at their end alone is found.
func TestLong(t *testing.T) {
	const many = 1 << 16
	long := strings.Repeat("a", many)
	wantParsed(t, "/"+long+"?"+long+"="+long, targetOf(parts(long), long, long))
	path := strings.Repeat("/a", many)
	query := strings.Repeat("b=+&", many)
	x, e := target.Parse(path + "?" + query)
	if len(x.Path) != many || len(x.Query) != many || x.Path[many-1] != "a" || x.Query[many-1] != (api.Pair{Key: "b", Val: " "}) || e != api.OK {
		t.Errorf("%d parts, %d pairs, errno %d", len(x.Path), len(x.Query), int(e))
	}
	if s, e := target.Text(x); s != path+"?"+strings.TrimSuffix(strings.ReplaceAll(query, "+", "%20"), "&") || e != api.OK {
		t.Errorf("%.99q, errno %d", s, int(e))
	}
	for _, s := range []string{path + "/..", path + "/%2f", path + "#", path + "?" + query + "%", path + "?" + query + " ", path + "%4", "/?" + long + "%0g"} {
		if x, e := target.Parse(s); e != api.ErrTarget || x.Path != nil || x.Query != nil {
			t.Errorf("Parse(..%q): %s, errno %d", s[len(s)-9:], shown(x), int(e))
		}
	}
	x.Path[many-1] = ".."
	if s, e := target.Text(x); s != "" || e != api.ErrArg {
		t.Errorf("%.99q, errno %d", s, int(e))
	}
}

// P11.1, P11.2: beside an error there is nothing.
func TestBesideErrors(t *testing.T) {
	for _, s := range []string{"", "a", "/a/..", "/a/b%", "/a?b=c&d=%", "/a?b=c#", "/a?b=%2&c"} {
		if x, e := target.Parse(s); x.Path != nil || x.Query != nil || e != api.ErrTarget {
			t.Errorf("Parse(%q): %s, errno %d", s, shown(x), int(e))
		}
	}
	for _, s := range []string{"%", "a%", "abc%2", "a%20%zz"} {
		if plain, e := target.Decode(s, true); plain != "" || e != api.ErrTarget {
			t.Errorf("Decode(%q): %q, errno %d", s, plain, int(e))
		}
	}
	for _, x := range []api.Target{{}, targetOf(parts("a", "..")), targetOf(parts("a", "b/")), targetOf(parts("a", "\x00"), "b", "c")} {
		if s, e := target.Text(x); s != "" || e != api.ErrArg {
			t.Errorf("Text(%s): %q, errno %d", shown(x), s, int(e))
		}
	}
}

// P11.1, P11.2, P11.3: what is handed in stays as it is, spare room included.
func TestHandedInStays(t *testing.T) {
	path := []string{"a", "b c", "spare", "spare"}
	query := pairsOf("\u00e9", "1", "b", "", "spare", "spare")
	wantPath, wantQuery := slices.Clone(path), slices.Clone(query)
	x := api.Target{Path: path[:2], Query: query[:2]}
	for _, one := range []api.Target{x, {Path: path[1:1], Query: query[1:1]}} {
		target.Text(one)
		target.Path(one)
		target.Get(one, "b")
		target.Same(one, x)
		gone(target.Pairs(one), most)
	}
	if !slices.Equal(path, wantPath) || !slices.Equal(query, wantQuery) {
		t.Errorf("%q %q", path, query)
	}
}

// shares tells whether two texts have memory together.
func shares(a, b string) bool {
	if a == "" || b == "" {
		return false
	}
	x, y := uintptr(unsafe.Pointer(unsafe.StringData(a))), uintptr(unsafe.Pointer(unsafe.StringData(b)))
	return x < y+uintptr(len(b)) && y < x+uintptr(len(a))
}

// wantApart holds each two of some texts against each other: none has memory together with another one.
func wantApart(t *testing.T, texts ...string) {
	t.Helper()
	for one := range texts {
		for two := range one {
			if shares(texts[one], texts[two]) {
				t.Errorf("%q and %q share memory: %d and %d", texts[one], texts[two], one, two)
			}
		}
	}
}

// P11.4 and the rules of the whole: what is told is kept apart from what was handed in, from what is told again, and
// within itself.
func TestApart(t *testing.T) {
	s := strings.Clone("/part/plain?key=value&other=thing")
	x, _ := target.Parse(s)
	y, _ := target.Parse(s)
	texts := []string{s}
	for _, one := range []api.Target{x, y} {
		texts = append(texts, one.Path...)
		for _, pair := range one.Query {
			texts = append(texts, pair.Key, pair.Val)
		}
	}
	for _, one := range []string{"part", "value"} {
		plain, _ := target.Decode(texts[1], false)
		again, _ := target.Decode(texts[1], true)
		texts = append(texts, plain, again, target.Encode(texts[1]), target.Encode(one), one)
	}
	for range 2 {
		text, _ := target.Text(x)
		val, _ := target.Get(x, "other")
		texts = append(texts, text, val, target.Path(x))
		for key, val := range target.Pairs(x) {
			texts = append(texts, key, val)
		}
	}
	wantApart(t, texts...)
	x.Path[0], x.Query[0] = "changed", api.Pair{}
	_, _ = append(x.Path, "more"), append(x.Query, api.Pair{Key: "more"})
	if !same(y, targetOf(parts("part", "plain"), "key", "value", "other", "thing")) {
		t.Errorf("%s", shown(y))
	}
	one := targetOf(parts(strings.Clone("one")))
	wantApart(t, one.Path[0], target.Path(one), target.Path(one))
}

package accept_test

import (
	"fmt"
	"iter"
	"math"
	"regexp"
	"runtime"
	"slices"
	"strconv"
	"strings"
	"testing"
	"unsafe"

	"bellman/accept"
	"bellman/api"
)

// most is more than there ever is.
const most = math.MaxInt

// rangeOf writes a range short.
func rangeOf(kind, sub string, params, quality int) api.Range {
	return api.Range{Type: kind, Subtype: sub, Params: params, Quality: quality}
}

// single is a text of one byte.
func single(b int) string { return string([]byte{byte(b)}) }

// ifSo is no error of what is so, and ErrAccept else.
func ifSo(so bool) api.Errno {
	if so {
		return api.OK
	}
	return api.ErrAccept
}

// points are bytes, each written as the point of its number: forms are held against these.
func points(s string) string {
	var l []rune
	for _, b := range []byte(s) {
		l = append(l, rune(b))
	}
	return string(l)
}

// Forms of the chapter's words, and of layer 9's.
const (
	tokenForm  = "[!#$%&'*+.^_`|~0-9A-Za-z-]+"
	quotedForm = `"(?:[\t\x20-\x21\x23-\x5b\x5d-\x7e\x{80}-\x{ff}]|\\[\t\x20-\x7e\x{80}-\x{ff}])*"`
)

var (
	typeForm    = regexp.MustCompile(`^(` + tokenForm + `)/(` + tokenForm + `)$`)
	paramForm   = regexp.MustCompile(`^(` + tokenForm + `)(?:[\t ]*=[\t ]*(?:(` + tokenForm + `)|(` + quotedForm + `)))?$`)
	qualityForm = regexp.MustCompile(`^(?:0(?:\.[0-9]{0,3})?|1(?:\.0{0,3})?)$`)
	escaped     = regexp.MustCompile(`(?s)\\(.)`)
)

// small is a text in small letters, by layer 9's words.
func small(s string) string {
	b := []byte(s)
	for place := range b {
		if strings.Contains("ABCDEFGHIJKLMNOPQRSTUVWXYZ", single(int(b[place]))) {
			b[place] |= 32
		}
	}
	return string(b)
}

// splitByWords is what stands between such bytes that are in no quoted text, trimmed, by layer 9's words.
func splitByWords(s string, by byte) []string {
	var l []string
	from, inside, taken := 0, false, false
	for place := range len(s) {
		switch b := s[place]; {
		case taken:
			taken = false
		case inside && b == '\\':
			taken = true
		case b == '"':
			inside = !inside
		case b == by && !inside:
			l = append(l, strings.Trim(s[from:place], "\t "))
			from = place + 1
		}
	}
	return append(l, strings.Trim(s[from:], "\t "))
}

// valueByWords tells whether a text is a value, by layer 9's words.
func valueByWords(s string) bool {
	for _, b := range []byte(s) {
		if b != 9 && b < 32 || b == 127 {
			return false
		}
	}
	return s == strings.Trim(s, "\t ")
}

// rangeByWords is a range, and whether it is one, by the chapter's words.
func rangeByWords(item string) (api.Range, bool) {
	parts := splitByWords(item, ';')
	names := typeForm.FindStringSubmatch(points(parts[0]))
	if names == nil || names[1] == "*" && names[2] != "*" {
		return api.Range{}, false
	}
	r := rangeOf(small(names[1]), small(names[2]), 0, 1000)
	weighed := false
	for _, part := range parts[1:] {
		if part == "" {
			continue
		}
		param := paramForm.FindStringSubmatch(points(part))
		if param == nil {
			return api.Range{}, false
		}
		value := param[2]
		if quoted := param[3]; quoted != "" {
			value = escaped.ReplaceAllString(quoted[1:len(quoted)-1], "$1")
		}
		switch is := param[1] == "q" || param[1] == "Q"; {
		case is && !weighed:
			if !qualityForm.MatchString(value) {
				return api.Range{}, false
			}
			part, _ := strconv.ParseFloat(value, 64)
			r.Quality, weighed = int(math.Round(part*1000)), true
		case !weighed:
			r.Params++
		}
	}
	return r, true
}

// listByWords are the ranges of a text ahead of the first that is none, and whether none is none, by the chapter's
// words.
func listByWords(s string) ([]api.Range, bool) {
	if !valueByWords(s) {
		return nil, false
	}
	var l []api.Range
	for _, item := range splitByWords(s, ',') {
		if item == "" {
			continue
		}
		r, is := rangeByWords(item)
		if !is {
			return l, false
		}
		l = append(l, r)
	}
	return l, true
}

// fitsByWords is how well a range fits a type, by the chapter's words.
func fitsByWords(r api.Range, kind, sub string) int {
	switch {
	case r.Params > 0:
		return 0
	case r.Type == kind && r.Subtype == sub:
		return 3
	case r.Type == kind && r.Subtype == "*":
		return 2
	case r.Type+"/"+r.Subtype == "*/*":
		return 1
	}
	return 0
}

// qualityByWords is the quality of a type by ranges, by the chapter's words.
func qualityByWords(l []api.Range, kind, sub string) int {
	if len(l) == 0 {
		return 1000
	}
	for well := 3; well > 0; well-- {
		for _, r := range l {
			if fitsByWords(r, kind, sub) == well {
				return r.Quality
			}
		}
	}
	return 0
}

// weighByWords is the quality of a number, by the chapter's words.
func weighByWords(q float64) int {
	switch {
	case q != q || q <= 0:
		return 0
	case q >= 1:
		return 1000
	}
	k := 999
	for float64(k)/1000 > q {
		k--
	}
	return k
}

// numbered is a range with its number.
type numbered struct {
	number int
	r      api.Range
}

// gone goes over at most so many ranges, leaves then, and is what it went over.
func gone(seq iter.Seq2[int, api.Range], most int) []numbered {
	var l []numbered
	if most == 0 {
		return l
	}
	for number, r := range seq {
		l = append(l, numbered{number, r})
		if len(l) == most {
			break
		}
	}
	return l
}

// withNumbers are ranges, each with its number.
func withNumbers(l []api.Range) []numbered {
	var all []numbered
	for number, r := range l {
		all = append(all, numbered{number, r})
	}
	return all
}

// shown is a thing as a message shows it: no more of it than is read.
func shown(thing any) string { return fmt.Sprintf("%.300q", fmt.Sprintf("%+v", thing)) }

// asked are types of which qualities are told.
var asked = [][2]string{{"a", "b"}, {"a", "c"}, {"c", "b"}, {"text", "event-stream"}, {"text", "html"}}

// wantAll holds all that is told of a text against the chapter's words, and is what these tell of Parse.
func wantAll(t testing.TB, s string) ([]api.Range, bool) {
	t.Helper()
	ahead, is := listByWords(s)
	if got := gone(accept.Each(s), most); !slices.Equal(got, withNumbers(ahead)) {
		t.Errorf("Each(%.99q): %s; want %s", s, shown(got), shown(ahead))
	}
	want := ahead
	if !is {
		want = nil
	}
	if got, e := accept.Parse(s); !slices.Equal(got, want) || e != ifSo(is) {
		t.Errorf("Parse(%.99q): %s, errno %d; want %s, %v", s, shown(got), int(e), shown(want), is)
	}
	for _, of := range asked {
		quality := 0
		if is {
			quality = qualityByWords(want, of[0], of[1])
		}
		if got, e := accept.Quality(s, of[0], of[1]); got != quality || e != ifSo(is) {
			t.Errorf("Quality(%.99q, %s, %s): %d, errno %d; want %d, %v", s, of[0], of[1], got, int(e), quality, is)
		}
		if got := accept.Takes(s, of[0], of[1]); got != (quality > 0) {
			t.Errorf("Takes(%.99q, %s, %s): %v", s, of[0], of[1], got)
		}
	}
	return want, is
}

// wantList holds a text against what is written down, and the chapter's words.
func wantList(t testing.TB, s string, want ...api.Range) {
	t.Helper()
	if got, is := wantAll(t, s); !slices.Equal(got, want) || !is {
		t.Errorf("%.99q: by the chapter's words %s, %v; want %s", s, shown(got), is, shown(want))
	}
}

// wantNone holds a text that is no list against what is written down, and the chapter's words: behind so many ranges
// there is one that is none.
func wantNone(t testing.TB, s string, ranges int) {
	t.Helper()
	if got, is := wantAll(t, s); is {
		t.Errorf("%.99q: by the chapter's words %s; want none", s, shown(got))
	}
	if got := len(gone(accept.Each(s), most)); got != ranges {
		t.Errorf("Each(%.99q): %d ranges; want %d", s, got, ranges)
	}
	if l, e := accept.Parse(s); l != nil || e != api.ErrAccept {
		t.Errorf("Parse(%.99q): %s, errno %d", s, shown(l), int(e))
	}
	if n, e := accept.Quality(s, "text", "event-stream"); n != 0 || e != api.ErrAccept {
		t.Errorf("Quality(%.99q): %d, errno %d", s, n, int(e))
	}
	if accept.Takes(s, "text", "event-stream") {
		t.Errorf("Takes(%.99q)", s)
	}
}

// rows goes over the texts that so many of the pieces make, or fewer, in each order.
func rows(many int, pieces ...string) iter.Seq[string] {
	return func(yield func(string) bool) {
		level := []string{""}
		for number := 0; number <= many; number++ {
			var next []string
			for _, s := range level {
				if !yield(s) {
					return
				}
				for _, piece := range pieces {
					if number < many {
						next = append(next, s+piece)
					}
				}
			}
			level = next
		}
	}
}

// P12.1, P12.2, P12.3: the chapter's examples.
func TestExamples(t *testing.T) {
	for _, c := range []struct {
		s    string
		want int
	}{
		{"text/*;q=0.5, text/event-stream", 1000}, {"", 1000}, {"*/*;q=0.25, text/html;q=1", 250},
	} {
		if got, e := accept.Quality(c.s, "text", "event-stream"); got != c.want || e != api.OK {
			t.Errorf("Quality(%q): %d, errno %d", c.s, got, int(e))
		}
	}
	if accept.Takes("text/event-stream;q=0", "text", "event-stream") {
		t.Error("Takes of a quality of 0")
	}
	for _, s := range []string{"text", "a/b;q=1.5", "a/b;q=0.1234"} {
		if l, e := accept.Parse(s); l != nil || e != api.ErrAccept {
			t.Errorf("Parse(%q): %s, errno %d", s, shown(l), int(e))
		}
	}
	if got := []int{accept.Weigh(0.5), accept.Weigh(math.NaN()), accept.Weigh(math.Copysign(0, -1))}; !slices.Equal(got, []int{500, 0, 0}) {
		t.Errorf("Weigh: %v", got)
	}
	if api.ErrAccept != 220 {
		t.Errorf("ErrAccept: %d", int(api.ErrAccept))
	}
}

// P12.1: a text that is empty, of commas alone, with items that are empty ahead, between, behind and doubled.
func TestItems(t *testing.T) {
	ab, cd := rangeOf("a", "b", 0, 1000), rangeOf("c", "d", 0, 1000)
	for _, s := range []string{"", ",", ",,", ", ,", ",\t, ,,", strings.Repeat(",", 99)} {
		wantList(t, s)
		if l, e := accept.Parse(s); len(l) != 0 || e != api.OK {
			t.Errorf("Parse(%q): %s, errno %d", s, shown(l), int(e))
		}
	}
	for _, s := range []string{"a/b", ",a/b", "a/b,", ",a/b,", ",,a/b,,", ", ,\ta/b \t,", ",\t,a/b"} {
		wantList(t, s, ab)
	}
	for _, s := range []string{"a/b,c/d", "a/b, c/d", "a/b ,c/d", "a/b\t,\tc/d", "a/b,,c/d", "a/b, , ,c/d", ",a/b,c/d,", ",,a/b,,c/d,,"} {
		wantList(t, s, ab, cd)
	}
	wantList(t, "c/d,a/b,c/d,a/b", cd, ab, cd, ab)
	wantList(t, "a/b,a/b,a/b", ab, ab, ab)
}

// P12.1: a text that is no value.
func TestNoValue(t *testing.T) {
	for _, s := range []string{" ", "\t", " a/b", "a/b ", "\ta/b", "a/b\t", ", ", " ,", "a/b, ", "a/b,\t", "a/b\x00", "\x00", "a/b,\x7f", "a/b,c\n/d", "a/b,\r", "\x1f,a/b", "a/b;x=\"\x01\"", "a/b;q=0.5\n", "a/b, c/d,e/f\x00"} {
		wantNone(t, s, 0)
	}
}

// P12.1: types and subtypes: without a /, with two, with an empty one, with stars, with great letters, with signs.
func TestTypes(t *testing.T) {
	for _, s := range []string{
		"text", "*", "/", "//", "a/", "/b", "a//b", "a/b/", "/a/b", "a/b/c", "*/*/*", "*/b", "*/", "/*", "**", "*/**", "*/*b", "*;q=1", "a;q=1", ";q=1", ";", ";;", ";a/b",
		"a /b", "a/ b", "a / b", "a\t/b", "a b/c", "a/b c", "a/b c/d", `"a"/b`, `a/"b"`, `"a/b"`, `"`, `""`, "a=b", "a/b=c", "a:/b", "a/b:", "(a)/b", "a/[b]", "a/b\\", "a@/b", "a/b?", "{a}/b", "<a>/b",
		"a/\u00e9", "\xff/b", "a/b\x80",
	} {
		wantNone(t, s, 0)
		wantNone(t, "a/b, "+s, 1)
		wantNone(t, "a/b;q=0.5,, c/d ,"+s+", e/f", 2)
	}
	for s, want := range map[string]api.Range{
		"a/b": rangeOf("a", "b", 0, 1000), "a/*": rangeOf("a", "*", 0, 1000), "*/*": rangeOf("*", "*", 0, 1000),
		"text/event-stream": rangeOf("text", "event-stream", 0, 1000), "A/B": rangeOf("a", "b", 0, 1000), "Text/Event-STREAM": rangeOf("text", "event-stream", 0, 1000),
		"TEXT/*": rangeOf("text", "*", 0, 1000), "Z/z": rangeOf("z", "z", 0, 1000), "a/**": rangeOf("a", "**", 0, 1000), "**/b": rangeOf("**", "b", 0, 1000), "**/*": rangeOf("**", "*", 0, 1000), "a*/b*": rangeOf("a*", "b*", 0, 1000), "a/*b": rangeOf("a", "*b", 0, 1000), "*a/b": rangeOf("*a", "b", 0, 1000),
		"1/2": rangeOf("1", "2", 0, 1000), "!#$%&'*+/-.^_`|~": rangeOf("!#$%&'*+", "-.^_`|~", 0, 1000), "q/q": rangeOf("q", "q", 0, 1000), "application/vnd.x+json": rangeOf("application", "vnd.x+json", 0, 1000),
	} {
		wantList(t, s, want)
		wantList(t, s+", a/b", want, rangeOf("a", "b", 0, 1000))
		wantList(t, "a/b, "+s, rangeOf("a", "b", 0, 1000), want)
	}
}

// P12.1: parameters: empty ones, with and without an =, blanks about it, and each kind of value.
func TestParams(t *testing.T) {
	for s, many := range map[string]int{
		"": 0, ";": 0, ";;": 0, "; ;\t;": 0, " ;": 0,
		";x": 1, "; x": 1, " ; x ;": 1, ";;x": 1, ";x;;": 1, ";;x;;y": 2, ";x;y": 2, ";x;x;x": 3, ";X": 1,
		";x=1": 1, ";x =1": 1, ";x= 1": 1, ";x = 1": 1, ";x\t=\t1": 1, "; x \t= \t1 ;": 1, ";x=1;y": 2, ";x;y=2": 2,
		`;x="1"`: 1, `;x=""`: 1, `;x = ""`: 1, `;x=" "`: 1, `;x="a,b"`: 1, `;x="a;b"`: 1, `;x=",;,;"`: 1, `;x="a=b"`: 1, `;x="\""`: 1, `;x="\",\";"`: 1, `;x="\\";y`: 2, "; x=\"\u00e9\xff\t\"": 1,
		`;x="a;q=0.5"`: 1, ";q1=2": 1, ";qq=2": 1, ";1=2": 1, ";*": 1, ";!=~": 1, ";x=*": 1,
	} {
		wantList(t, "a/b"+s, rangeOf("a", "b", many, 1000))
		wantList(t, "c/d,a/b"+s+",e/*", rangeOf("c", "d", 0, 1000), rangeOf("a", "b", many, 1000), rangeOf("e", "*", 0, 1000))
	}
	for _, s := range []string{
		";=", ";=1", "; = 1", ";x=", ";x =", ";x= ;y", ";x==1", ";x=1=2", ";x=a b", ";x y", ";x y=1", ";x=/", ";a/b", ";x=a/b", ";x:1", ";(x)", ";x=(1)", ";x=@", ";\u00e9", ";x=\u00e9", ";x=\xff", ";\x80=1",
		`;"x"`, `;"x"=1`, `;"x=1"`, `;x"`, `;x="`, `;x="1`, `;x=1"`, `;x="1"2`, `;x=1"2"`, `;x="1" "2"`, `;x="1""2"`, `;x="\"`, `;x="a\`, `;x='a b'`, `;x="a`, `;x="a\"`, `;x="a" b`, `;x;y=`, `;x=;y`, `;q=1;x=`, `;q=0.5;=`, `;q=0.5;x y`, `;q=0.5;"x"`, `;q=0.5;q=`, `;q=1;q==`,
	} {
		wantNone(t, "a/b"+s, 0)
		wantNone(t, "c/d,a/b"+s, 1)
		wantNone(t, "c/d,a/b"+s+",e/f", 1)
	}
}

// P12.1: commas and ; in quoted texts.
func TestQuotedSigns(t *testing.T) {
	wantList(t, `a/b;x=",", c/d;y=";"`, rangeOf("a", "b", 1, 1000), rangeOf("c", "d", 1, 1000))
	wantList(t, `a/b;x="c/d, e/f;q=0";y="\",g/h";q="0.5",i/j`, rangeOf("a", "b", 2, 500), rangeOf("i", "j", 0, 1000))
	wantList(t, `a/b;x="\\",c/d`, rangeOf("a", "b", 1, 1000), rangeOf("c", "d", 0, 1000))
	wantNone(t, `a/b;x="\\\",c/d`, 0)
	wantNone(t, `a/b,c/d;x=",e/f`, 1)
	wantNone(t, `a/b,"c/d",e/f`, 1)
	wantNone(t, `a/b,c",d/e,"/f`, 1)
}

// qualities are texts of a quality, and how many thousandths they tell; such that tell none have less than 0.
var qualities = map[string]int{
	"0": 0, "1": 1000, "0.": 0, "1.": 1000, "0.0": 0, "0.00": 0, "0.000": 0, "1.0": 1000, "1.00": 1000, "1.000": 1000,
	"0.5": 500, "0.50": 500, "0.500": 500, "0.05": 50, "0.005": 5, "0.123": 123, "0.12": 120, "0.1": 100, "0.9": 900, "0.99": 990, "0.999": 999, "0.001": 1, "0.010": 10, "0.25": 250,
	"0.1234": -1, "0.0000": -1, "1.0000": -1, "1.001": -1, "1.1": -1, "1.01": -1, "1.5": -1, "2": -1, "9": -1, "00": -1, "01": -1, "10": -1, "11": -1, "0.0.": -1, "0..": -1, "0.1.2": -1,
	".5": -1, ".": -1, "..": -1, "-0": -1, "-1": -1, "+0": -1, "+1": -1, "0.-1": -1, "0.+1": -1, "1.-0": -1, "1e0": -1, "0x1": -1, "0.5e0": -1, "0_": -1, "0.a": -1, "a": -1, "0.1a": -1, "*": -1, "inf": -1, "nan": -1, "0.'": -1, "0.|": -1, "1.'": -1, "1.00'": -1,
}

// P12.1: qualities, as tokens and quoted, in small and great letters, with blanks about the =.
func TestQualities(t *testing.T) {
	for text, want := range qualities {
		for _, s := range []string{"a/b;q=" + text, "a/b;Q=" + text, "a/b; q = " + text, "a/b;\tq\t=\t" + text, `a/b;q="` + text + `"`, `a/b;Q = "` + text + `";`, "a/b;;q=" + text + ";q=0.7", "a/b;q=" + text + ";q=2"} {
			if want < 0 {
				wantNone(t, s, 0)
				wantNone(t, "c/d,"+s+",e/f", 1)
				continue
			}
			wantList(t, s, rangeOf("a", "b", 0, want))
			wantList(t, "c/d,"+s+",e/f", rangeOf("c", "d", 0, 1000), rangeOf("a", "b", 0, want), rangeOf("e", "f", 0, 1000))
		}
	}
	// An empty one, and such as no token tells.
	for _, s := range []string{"q", "q=", "q =", `q=""`, `q=" 1"`, `q="1 "`, `q="0,5"`, `q="0;5"`, `q="1/2"`, "q=\"\xff\"", "q=\"0.\xff\"", "q=\"0.\u0665\"", "q=\"\uff11\"", "q=1 2", "q;q=1", "q=;q=1", `q="";q=1`, `q="1`, `q=1"`, "q==1"} {
		wantNone(t, "a/b;"+s, 0)
		wantNone(t, "a/b;x;"+s, 0)
	}
	wantList(t, `a/b;q="\0\.\5"`, rangeOf("a", "b", 0, 500))
	// The quality of 0 is the first item's; the second one is none.
	wantNone(t, "a/b;q=0,5", 1)
}

// P12.1: each number of thousandths, as a text; and one digit more.
func TestThousandths(t *testing.T) {
	for k := range 1001 {
		text := fmt.Sprintf("%d.%03d", k/1000, k%1000)
		wantList(t, "a/b;q="+text, rangeOf("a", "b", 0, k))
		wantList(t, `a/b;q="`+text+`"`, rangeOf("a", "b", 0, k))
		wantNone(t, "a/b;q="+text+"0", 0)
		if k > 0 {
			wantNone(t, "a/b;q="+fmt.Sprintf("1.%03d", k%1000)+"1", 0)
		}
		if k%1000 > 0 {
			wantNone(t, fmt.Sprintf("a/b;q=1.%03d", k), 0)
		}
		if k%10 == 0 {
			wantList(t, fmt.Sprintf("a/b;q=%d.%02d", k/1000, k%1000/10), rangeOf("a", "b", 0, k))
		}
	}
}

// P12.1: parameters ahead of q, and behind it; the first q counts, and another one is none that counts.
func TestParamsAboutQuality(t *testing.T) {
	for s, want := range map[string]api.Range{
		"q=0.5":                            rangeOf("a", "b", 0, 500),
		"x;q=0.5":                          rangeOf("a", "b", 1, 500),
		"x=1;y;z=2;q=0.5":                  rangeOf("a", "b", 3, 500),
		"q=0.5;x":                          rangeOf("a", "b", 0, 500),
		"q=0.5;x=1;y;z=\"2\"":              rangeOf("a", "b", 0, 500),
		"x;q=0.5;y":                        rangeOf("a", "b", 1, 500),
		"x;y;q=0.5;z;z;z":                  rangeOf("a", "b", 2, 500),
		"q=0.5;q=0.7":                      rangeOf("a", "b", 0, 500),
		"q=0.5;Q=2":                        rangeOf("a", "b", 0, 500),
		"Q=0.5;q=9":                        rangeOf("a", "b", 0, 500),
		"q=0;q=1":                          rangeOf("a", "b", 0, 0),
		"q=1;q=0":                          rangeOf("a", "b", 0, 1000),
		"q=0.5;q":                          rangeOf("a", "b", 0, 500),
		"q=0.5;q=\"\"":                     rangeOf("a", "b", 0, 500),
		"x;q=0.5;y;q=0.7;z":                rangeOf("a", "b", 1, 500),
		";;x;;q=0.5;;y;;":                  rangeOf("a", "b", 1, 500),
		"x=q;q=0.5":                        rangeOf("a", "b", 1, 500),
		"x=\"q=0.7\";q=0.5":                rangeOf("a", "b", 1, 500),
		"q\t=0.5 ; level = 1":              rangeOf("a", "b", 0, 500),
		"charset=UTF-8;Level=\"1;2\";Q=.5": {},
	} {
		if want == (api.Range{}) {
			wantNone(t, "a/b;"+s, 0)
		} else {
			wantList(t, "A/b;"+s, want)
		}
	}
}

// P12.1, P12.2: each single byte, at each place of a list.
func TestBytes(t *testing.T) {
	taken := 0
	for b := range 256 {
		s := single(b)
		for _, one := range []string{
			s, s + "a/b", "a" + s + "/b", "a" + s + "b", "a/" + s, "a/" + s + "b", "a/b" + s, s + "/b", s + "/*", "*/" + s, "*" + s + "*", "*/*" + s,
			"a/b" + s + "c/d", "a/b," + s, "a/b," + s + "c/d", "a/b;" + s, "a/b;" + s + "x", "a/b;x" + s, "a/b;x" + s + "1", "a/b;" + s + "=1", "a/b;x=" + s, "a/b;x=" + s + "1", "a/b;x=1" + s, "a/b;x=1" + s + "2",
			`a/b;x="` + s + `"`, `a/b;x="\` + s + `"`, `a/b;x="` + s + `1"`, `a/b;x=` + s + `"1"`, `a/b;x="1"` + s, `a/b;x="1"` + s + "c/d",
			"a/b;" + s + "=0.5", "a/b;q" + s + "0.5", "a/b;q=" + s, "a/b;q=" + s + ".5", "a/b;q=0" + s, "a/b;q=0" + s + "5", "a/b;q=0." + s, "a/b;q=0." + s + "5", "a/b;q=0.5" + s, "a/b;q=1." + s, "a/b;q=1.00" + s, "a/b;q=0.12" + s, "a/b;q=0.123" + s, `a/b;q="` + s + `"`, `a/b;q="0.` + s + `"`,
			"a/b;q=1" + s + "x", "a/b;q=1;" + s, "a/b;q=1;x=" + s,
		} {
			if _, is := wantAll(t, one); is {
				taken++
			}
		}
		letter := 'a' <= b && b <= 'z' || 'A' <= b && b <= 'Z'
		may := letter || '0' <= b && b <= '9' || b > 0 && strings.Contains("!#$%&'*+-.^_`|~", s)
		if _, e := accept.Parse("a" + s + "/b" + s + ";x" + s + "=1" + s); e != ifSo(may) {
			t.Errorf("byte %d in a token: errno %d", b, int(e))
		}
		if _, e := accept.Parse("a/b;q=0." + s); e != ifSo('0' <= b && b <= '9' || s == ";" || s == ",") {
			t.Errorf("byte %d in a quality: errno %d", b, int(e))
		}
	}
	if taken < 2000 {
		t.Errorf("%d are taken", taken)
	}
}

// P12.1, P12.2, P12.4: all texts of a few pieces.
func TestRows(t *testing.T) {
	taken, refused := 0, 0
	for _, c := range []struct {
		many   int
		ahead  string
		pieces []string
	}{
		{5, "", []string{"a", "b", "/", "*", ",", ";", " ", "q=0.5", "x"}},
		{6, "a/b", []string{";", "q", "=", "0.5", "x", ",a/*", `"`}},
		{6, "a/b;q=", []string{"0", "1", ".", "5", "-", `"`, " "}},
		{6, "a/b;x=", []string{`"`, `\`, ",", ";", "a/b", "="}},
		{4, "", []string{"a/b", "A/B", "a/*", "*/*", "c/b", ",", ";q=0", ";q=0.3", ";q=1", ";x", "*/b", `;x=","`}},
	} {
		for s := range rows(c.many, c.pieces...) {
			l, is := wantAll(t, c.ahead+s)
			if !is {
				refused++
			} else {
				taken++
			}
			for _, r := range l {
				if r.Quality < 0 || r.Quality > 1000 || r.Params < 0 {
					t.Errorf("%q: %s", s, shown(r))
				}
			}
			if t.Failed() {
				t.FailNow()
			}
		}
	}
	if taken < 10000 || refused < 10000 {
		t.Errorf("%d are taken, %d refused", taken, refused)
	}
}

// lists are texts with ranges: all of them, or some ahead of one that is none; and such without any.
var lists = []string{
	"", ",", "a/b", "a/b,c/d", " ,a/b", "a/b, ,c/d;q=0.5 ,, */*;x;q=0", "a/b,c/d,e/f,*,g/h", "*", "a/b;q=2", "a/b;x=\",\",c/*;q=0.001,d", "a/b,c/d\x00", "A/*,*/*",
}

// P12.1: Each: numbers from 0 on, as far as the first that is none; left at any time, and gone over again.
func TestEach(t *testing.T) {
	for _, s := range lists {
		ahead, _ := listByWords(s)
		want := withNumbers(ahead)
		seq := accept.Each(s)
		for round := range 2 {
			for many := range len(want) + 1 {
				if got := gone(seq, many); !slices.Equal(got, want[:many]) {
					t.Errorf("Each(%q), round %d, left behind %d: %s; want %s", s, round, many, shown(got), shown(want[:many]))
				}
			}
			if got := gone(seq, most); !slices.Equal(got, want) {
				t.Errorf("Each(%q), round %d: %s; want %s", s, round, shown(got), shown(want))
			}
		}
	}
	want := []numbered{{0, rangeOf("a", "b", 0, 500)}, {1, rangeOf("c", "*", 1, 1000)}}
	for _, s := range []string{"a/b;q=0.5,c/*;x", ",a/b;q=0.5,,c/*;x,", "a/b;q=0.5,c/*;x,d,e/f", "a/b;q=0.5,c/*;x,e/f;q=2,e/f", "a/b;q=0.5,c/*;x,*/b,", `a/b;q=0.5,c/*;x,"e/f,g/h`} {
		if got := gone(accept.Each(s), most); !slices.Equal(got, want) {
			t.Errorf("Each(%q): %s", s, shown(got))
		}
	}
	for _, s := range []string{"a/b;q=0.5,c/*;x\x00", " a/b", "a/b ", "a/b,c/d\n", "", ",", "x", "x,a/b"} {
		if got := gone(accept.Each(s), most); len(got) != 0 {
			t.Errorf("Each(%q): %s", s, shown(got))
		}
	}
}

// P12.1: when it is left, it tells nothing any more.
func TestEachStops(t *testing.T) {
	for many := 1; many < 5; many++ {
		calls := 0
		accept.Each("a/b,c/d,e/f,g/h,i/j")(func(int, api.Range) bool {
			calls++
			return calls < many
		})
		if calls != many {
			t.Errorf("left behind %d: %d are told", many, calls)
		}
	}
}

// P12.1: goings over do not change one another; what a body gives up by passes through, and leaves all as it was.
func TestEachWithin(t *testing.T) {
	for _, s := range lists {
		ahead, _ := listByWords(s)
		want := withNumbers(ahead)
		seq := accept.Each(s)
		var outer []numbered
		for number, r := range seq {
			outer = append(outer, numbered{number, r})
			if inner := gone(seq, most); !slices.Equal(inner, want) {
				t.Errorf("Each(%q) within: %s", s, shown(inner))
			}
			gone(seq, 1)
			accept.Parse("*,a")
		}
		if !slices.Equal(outer, want) {
			t.Errorf("Each(%q) about others: %s", s, shown(outer))
		}
	}
	seq := accept.Each("a/b,c/d,e")
	for _, thrown := range []any{"mine", api.ErrAccept, fmt.Errorf("mine")} {
		func() {
			defer func() {
				if got := recover(); got != thrown {
					t.Errorf("a body's panic: %v", got)
				}
			}()
			for range seq {
				panic(thrown)
			}
		}()
		if got := gone(seq, most); len(got) != 2 || got[1] != (numbered{1, rangeOf("c", "d", 0, 1000)}) {
			t.Errorf("behind a panic: %s", shown(got))
		}
	}
}

// P12.2: the better fit counts ahead of the greater quality; of equal ones the first does.
func TestQuality(t *testing.T) {
	for _, c := range []struct {
		s    string
		want int
	}{
		{"text/event-stream", 1000}, {"text/event-stream;q=0.5", 500}, {"text/event-stream;q=0", 0}, {"text/event-stream;q=0.001", 1},
		{"TEXT/Event-Stream;q=0.5", 500}, {"text/*;q=0.5", 500}, {"*/*;q=0.5", 500}, {"text/html", 0}, {"html/event-stream", 0}, {"html/*", 0}, {"event-stream/text", 0},
		// Of equal ones the first.
		{"text/event-stream;q=0.1,text/event-stream;q=0.9", 100}, {"text/event-stream;q=0.9,text/event-stream;q=0.1", 900}, {"text/event-stream;q=0,text/event-stream", 0},
		{"text/*;q=0.1,text/*;q=0.9", 100}, {"text/*;q=0.9,text/*;q=0.1", 900}, {"*/*;q=0.1,*/*;q=0.9", 100}, {"*/*;q=0.9,*/*;q=0.1", 900}, {"*/*;q=0,*/*", 0},
		// The better fit, at whichever place it stands.
		{"text/*;q=0.5,text/event-stream", 1000}, {"text/event-stream;q=0.2,text/*", 200}, {"text/*,text/event-stream;q=0.2", 200}, {"*/*,text/event-stream;q=0.2", 200}, {"text/event-stream;q=0.2,*/*", 200},
		{"*/*,text/*;q=0.3", 300}, {"text/*;q=0.3,*/*", 300}, {"*/*,text/*;q=0.3,text/event-stream;q=0.2", 200}, {"text/event-stream;q=0.2,text/*;q=0.3,*/*", 200}, {"text/*;q=0.3,text/event-stream;q=0.2,*/*", 200},
		{"*/*,text/event-stream;q=0", 0}, {"*/*,text/*;q=0", 0}, {"text/*,text/event-stream;q=0", 0}, {"*/*;q=0,text/event-stream", 1000}, {"text/*;q=0,text/event-stream;q=0.4", 400},
		// Others do not count.
		{"text/html,text/event-stream;q=0.2,a/b", 200}, {"*/*;q=0.25, text/html;q=1", 250}, {"a/b,c/d,e/*", 0}, {"text/event-streams,text/event-strea,texts/*,tex/*", 0},
		// One with parameters ahead of q fits none.
		{"text/event-stream;x", 0}, {"text/event-stream;x;q=0.5", 0}, {"text/event-stream;x,*/*;q=0.3", 300}, {"text/*;x,text/*;q=0.1", 100}, {"*/*;x", 0}, {"*/*;x;q=1,*/*;q=0.2", 200}, {"text/event-stream;q=0.5;x", 500},
		// No list, and an empty one.
		{"", 1000}, {",", 1000}, {", ,,", 1000},
	} {
		if got, e := accept.Quality(c.s, "text", "event-stream"); got != c.want || e != api.OK {
			t.Errorf("Quality(%q): %d, errno %d; want %d", c.s, got, int(e), c.want)
		}
		if got := accept.Takes(c.s, "text", "event-stream"); got != (c.want > 0) {
			t.Errorf("Takes(%q): %v", c.s, got)
		}
		wantAll(t, c.s)
	}
	// Wherever the range stands that is none.
	for _, s := range []string{"text", "text/event-stream,x", "x,text/event-stream", "text/event-stream,*/*,a/b;q=2", "text/event-stream;q=2", "text/event-stream\x00", " text/event-stream", "*", "text/event-stream,*/b", "text/event-stream;x="} {
		for _, of := range [][2]string{{"text", "event-stream"}, {"a", "b"}, {"", ""}, {"*", "*"}} {
			if got, e := accept.Quality(s, of[0], of[1]); got != 0 || e != api.ErrAccept {
				t.Errorf("Quality(%q, %q): %d, errno %d", s, of, got, int(e))
			}
			if accept.Takes(s, of[0], of[1]) {
				t.Errorf("Takes(%q, %q)", s, of)
			}
		}
	}
}

// P12.2: types that are none are held against ranges just so.
func TestQualityOfAnyType(t *testing.T) {
	for _, c := range []struct {
		s, kind, sub string
		want         int
	}{
		{"a/b;q=0.3,*/*;q=0.1", "", "", 100}, {"a/b;q=0.3", "", "", 0}, {"a/*;q=0.3", "a", "", 300}, {"a/b;q=0.3,a/*;q=0.2", "A", "B", 0}, {"A/B;q=0.3", "A", "B", 0}, {"a/b;q=0.3,*/*;q=0.1", "A", "b", 100},
		{"a/*;q=0.3", "a", "\xff\x00", 300}, {"*/*;q=0.3", "\xff", "a/b", 300}, {"a/b", "a/b", "", 0}, {"a/b", "a", " b", 0}, {"", "\x00", "/", 1000}, {",,", "", "", 1000},
		{"*/*;q=0.3", strings.Repeat("a", 9999), strings.Repeat("b", 9999), 300},
	} {
		if got, e := accept.Quality(c.s, c.kind, c.sub); got != c.want || e != api.OK {
			t.Errorf("Quality(%q, %.99q, %.99q): %d, errno %d; want %d", c.s, c.kind, c.sub, got, int(e), c.want)
		}
		if got := accept.Takes(c.s, c.kind, c.sub); got != (c.want > 0) {
			t.Errorf("Takes(%q, %.99q, %.99q): %v", c.s, c.kind, c.sub, got)
		}
	}
}

// P12.2: Fits: 0, 1, 2 and 3; of ranges that no list tells, too.
func TestFits(t *testing.T) {
	for _, c := range []struct {
		r         api.Range
		kind, sub string
		want      int
	}{
		{rangeOf("a", "b", 0, 1000), "a", "b", 3}, {rangeOf("a", "*", 0, 1000), "a", "b", 2}, {rangeOf("*", "*", 0, 1000), "a", "b", 1},
		{rangeOf("a", "c", 0, 1000), "a", "b", 0}, {rangeOf("c", "b", 0, 1000), "a", "b", 0}, {rangeOf("b", "a", 0, 1000), "a", "b", 0}, {rangeOf("c", "*", 0, 1000), "a", "b", 0}, {rangeOf("c", "d", 0, 1000), "a", "b", 0},
		// Parameters ahead of q.
		{rangeOf("a", "b", 1, 1000), "a", "b", 0}, {rangeOf("a", "*", 1, 1000), "a", "b", 0}, {rangeOf("*", "*", 1, 1000), "a", "b", 0}, {rangeOf("a", "b", math.MaxInt, 1000), "a", "b", 0},
		{rangeOf("a", "b", -1, 1000), "a", "b", 3}, {rangeOf("a", "*", math.MinInt, 1000), "a", "b", 2}, {rangeOf("*", "*", -9, 1000), "a", "b", 1},
		// No quality changes it.
		{rangeOf("a", "b", 0, 0), "a", "b", 3}, {rangeOf("a", "*", 0, -5), "a", "b", 2}, {rangeOf("*", "*", 0, math.MaxInt), "a", "b", 1},
		// Ranges that no list tells.
		{rangeOf("*", "b", 0, 1000), "a", "b", 0}, {rangeOf("*", "", 0, 1000), "a", "b", 0}, {rangeOf("", "*", 0, 1000), "a", "b", 0}, {api.Range{}, "a", "b", 0},
		{api.Range{}, "", "", 3}, {rangeOf("", "*", 0, 0), "", "", 2}, {rangeOf("a", "", 0, 0), "a", "", 3}, {rangeOf("", "b", 0, 0), "", "b", 3}, {rangeOf("", "*", 0, 0), "", "b", 2},
		{rangeOf("*", "*", 0, 0), "", "", 1}, {rangeOf("*", "b", 0, 0), "*", "b", 3}, {rangeOf("A", "B", 0, 0), "A", "B", 3}, {rangeOf("A", "B", 0, 0), "a", "b", 0}, {rangeOf("a", "b", 0, 0), "A", "B", 0}, {rangeOf("A", "*", 0, 0), "A", "B", 2}, {rangeOf("A", "*", 0, 0), "a", "b", 0},
		{rangeOf("a/b", "c d", 0, 0), "a/b", "c d", 3}, {rangeOf("\xff", "\x00", 0, 0), "\xff", "\x00", 3}, {rangeOf("\xff", "*", 0, 0), "\xff", "\x00", 2}, {rangeOf("\xff", "*", 0, 0), "\xfe", "\x00", 0}, {rangeOf(" a", "b", 0, 0), "a", "b", 0}, {rangeOf("a", "b ", 0, 0), "a", "b", 0},
		{rangeOf("**", "*", 0, 0), "a", "b", 0}, {rangeOf("*", "**", 0, 0), "a", "b", 0}, {rangeOf("a", "**", 0, 0), "a", "b", 0}, {rangeOf("a", "b*", 0, 0), "a", "bc", 0}, {rangeOf("a", "b", 0, 0), "a", "*", 0}, {rangeOf("a", "b", 0, 0), "*", "*", 0},
		{rangeOf("ab", "c", 0, 0), "a", "bc", 0},
	} {
		if got := accept.Fits(c.r, c.kind, c.sub); got != c.want {
			t.Errorf("Fits(%s, %q, %q): %d; want %d", shown(c.r), c.kind, c.sub, got, c.want)
		}
	}
	texts := []string{"", "a", "b", "A", "*", "**", "a/b", "\xff"}
	counts := make(map[int]int)
	for _, kind := range texts {
		for _, sub := range texts {
			for _, of := range texts {
				for _, its := range texts {
					for params := -1; params < 3; params++ {
						r := rangeOf(of, its, params, 7)
						want := fitsByWords(r, kind, sub)
						if got := accept.Fits(r, kind, sub); got != want {
							t.Errorf("Fits(%s, %q, %q): %d; want %d", shown(r), kind, sub, got, want)
						}
						counts[want]++
					}
				}
			}
		}
	}
	if len(counts) != 4 {
		t.Errorf("how well: %v", counts)
	}
}

// P12.2: Takes: a quality of 0, one above it, and a list that is none.
func TestTakes(t *testing.T) {
	for s, want := range map[string]bool{
		"": true, ",": true, "a/b": true, "a/*": true, "*/*": true, "a/b;q=0.001": true, "a/b;q=1.000": true, "a/b,c/d;q=0": true, "a/b,a/b;q=0": true, "*/*;q=0,a/b": true,
		"a/b;q=0": false, "a/b;q=0.": false, "a/b;q=0.000": false, "a/*;q=0": false, "*/*;q=0": false, "a/b;q=0,*/*": false, "a/c": false, "c/b": false, "c/*": false, "a/b;x": false, "a/b;q=0,a/b": false,
		"a": false, "a/b,c": false, "a/b;q=2": false, "a/b;q": false, " a/b": false, "a/b\x00": false, "*": false, "*/b": false, "a/b,": true, "a/b, ": false,
	} {
		if got := accept.Takes(s, "a", "b"); got != want {
			t.Errorf("Takes(%q): %v", s, got)
		}
		wantAll(t, s)
	}
}

// numbers are such as Weigh tells the quality of, rising: those at which something begins or ends, and next to them.
func numbers() []float64 {
	l := []float64{math.Inf(-1), -math.MaxFloat64, -1, -0.5, -0.001, -math.SmallestNonzeroFloat64, math.Copysign(0, -1), 0, math.SmallestNonzeroFloat64, 2 * math.SmallestNonzeroFloat64, 0x1p-1022, 1e-300, 1e-9}
	for k := 0; k <= 1000; k++ {
		of := float64(k) / 1000
		l = append(l, math.Nextafter(of, -1), of, math.Nextafter(of, 2), of+0.0003, of+0.0005, of+0.0009)
	}
	return append(l, 1.5, 1000, 1e300, math.MaxFloat64, math.Inf(1))
}

// P12.3: Weigh.
func TestWeigh(t *testing.T) {
	for _, c := range []struct {
		q    float64
		want int
	}{
		{math.NaN(), 0}, {-math.NaN(), 0}, {math.Float64frombits(0x7ff0000000000001), 0}, {math.Float64frombits(0xffffffffffffffff), 0},
		{math.Inf(-1), 0}, {math.Inf(1), 1000}, {0, 0}, {math.Copysign(0, -1), 0}, {-1, 0}, {-0.5, 0}, {-1e-300, 0}, {-math.MaxFloat64, 0}, {-math.SmallestNonzeroFloat64, 0},
		{math.SmallestNonzeroFloat64, 0}, {0x1p-1022, 0}, {0.0001, 0}, {0.0009, 0}, {0.00099999999999, 0}, {0.001, 1}, {0.0019, 1}, {0.002, 2},
		{0.5, 500}, {0.25, 250}, {0.123, 123}, {0.1234, 123}, {0.1239999, 123}, {1. / 3, 333}, {2. / 3, 666}, {0.999, 999}, {0.9999, 999}, {0.9999999999999999, 999},
		{1, 1000}, {1.0000000000000002, 1000}, {1.5, 1000}, {2, 1000}, {1000, 1000}, {math.MaxFloat64, 1000},
		// The numbers next to some k / 1000.
		{math.Nextafter(0.3, 1), 300}, {math.Nextafter(0.3, 0), 299}, {math.Nextafter(0.7, 0), 699}, {math.Nextafter(1, 0), 999}, {math.Nextafter(1, 2), 1000},
	} {
		if got := accept.Weigh(c.q); got != c.want {
			t.Errorf("Weigh(%v): %d; want %d", c.q, got, c.want)
		}
	}
	for _, q := range numbers() {
		if got, want := accept.Weigh(q), weighByWords(q); got != want {
			t.Errorf("Weigh(%v): %d; want %d", q, got, want)
		}
	}
}

// P12.3, P12.4: Weigh of k / 1000 is k, just below it one less, and just above it no more.
func TestWeighThousandths(t *testing.T) {
	for k := 0; k <= 1000; k++ {
		of := float64(k) / 1000
		if got := accept.Weigh(of); got != k {
			t.Errorf("Weigh(%d / 1000): %d", k, got)
		}
		if got := accept.Weigh(math.Nextafter(of, -1)); got != max(k-1, 0) {
			t.Errorf("Weigh just below %d / 1000: %d", k, got)
		}
		if got := accept.Weigh(math.Nextafter(of, 2)); got != k {
			t.Errorf("Weigh just above %d / 1000: %d", k, got)
		}
	}
}

// P12.4: Weigh never falls when its number rises, and is from 0 to 1000.
func TestWeighRises(t *testing.T) {
	l := numbers()
	for n := range 20000 {
		l = append(l, float64(n)/19999*1.2-0.1)
	}
	slices.Sort(l)
	last := 0
	for _, q := range l {
		got := accept.Weigh(q)
		if got < last || got > 1000 {
			t.Errorf("Weigh(%v): %d behind %d", q, got, last)
		}
		last = got
	}
	if last != 1000 {
		t.Errorf("Weigh of the greatest one: %d", last)
	}
}

// more are ranges that may stand at a list's end, and such as are none.
var more = []string{"a/b", "a/b;q=0", "a/b;q=0.2", "a/*;q=0.3", "*/*", "*/*;q=0", "c/d", "a/b;x", "A/B;q=0.7", `c/d;x=","`, "x", "*/b", "a/b;q=2"}

// P12.4: a range more at the end changes none ahead of it, and makes no type fit less well.
func TestOneMore(t *testing.T) {
	how := func(l []api.Range, kind, sub string) int {
		well := 0
		for _, r := range l {
			well = max(well, accept.Fits(r, kind, sub))
		}
		return well
	}
	for s := range rows(3, ",a/b", ",a/*;q=0.4", ", */*;q=0.5", ",c/d;q=0", ",a/b;y;q=0.9", ",") {
		ahead, e := accept.Parse(s)
		if e != api.OK {
			t.Fatalf("%q: errno %d", s, int(e))
		}
		for _, one := range more {
			last, no := accept.Parse(one)
			l, also := accept.Parse(s + "," + one)
			if also != no || no == api.OK && !slices.Equal(l, slices.Concat(ahead, last)) {
				t.Errorf("Parse(%q): %s, errno %d; ahead %s", s+","+one, shown(l), int(also), shown(ahead))
			}
			if got := gone(accept.Each(s+","+one), len(ahead)); !slices.Equal(got, withNumbers(ahead)) {
				t.Errorf("Each(%q): %s; ahead %s", s+","+one, shown(got), shown(ahead))
			}
			if no != api.OK {
				continue
			}
			for _, of := range asked {
				was, is := how(ahead, of[0], of[1]), how(l, of[0], of[1])
				if is < was {
					t.Errorf("%q and %q: %q fits %d, and %d", s, one, of, was, is)
				}
				had, _ := accept.Quality(s, of[0], of[1])
				has, _ := accept.Quality(s+","+one, of[0], of[1])
				if is == was && len(ahead) > 0 && has != had {
					t.Errorf("%q and %q: %q has %d, and %d", s, one, of, had, has)
				}
				if is > was && has != last[0].Quality || has < 0 || has > 1000 {
					t.Errorf("%q and %q: %q has %d", s, one, of, has)
				}
			}
		}
	}
}

// shares tells whether two texts have memory together.
func shares(a, b string) bool {
	// The language itself has one text for each single byte.
	if len(a) < 2 || len(b) < 2 {
		return false
	}
	x, y := uintptr(unsafe.Pointer(unsafe.StringData(a))), uintptr(unsafe.Pointer(unsafe.StringData(b)))
	return x < y+uintptr(len(b)) && y < x+uintptr(len(a))
}

// P12.1: what is told is kept apart from what was handed in, and from what is told again.
func TestApart(t *testing.T) {
	for _, s := range []string{"text/html", "TEXT/html;q=0.5", "aa/aa,bb/bb;xx=\"yy\",cc/cc", "aa/**, **/*"} {
		handed := strings.Clone(s)
		var texts []string
		for range 2 {
			l, _ := accept.Parse(handed)
			for _, one := range withNumbers(l) {
				texts = append(texts, one.r.Type, one.r.Subtype)
			}
			for _, r := range accept.Each(handed) {
				texts = append(texts, r.Type, r.Subtype)
			}
		}
		for number, one := range texts {
			if shares(one, handed) {
				t.Errorf("%q: %q shares memory with it", s, one)
			}
			for _, other := range texts[number+1:] {
				if shares(one, other) {
					t.Errorf("%q: %q and %q share memory", s, one, other)
				}
			}
		}
		if handed != s {
			t.Errorf("%q was handed in; it is %q now", s, handed)
		}
	}
	first, _ := accept.Parse("a/b,c/d")
	second, _ := accept.Parse("a/b,c/d")
	first[0].Type = "x"
	first = append(first[:1], api.Range{}, api.Range{})
	if want := []api.Range{rangeOf("a", "b", 0, 1000), rangeOf("c", "d", 0, 1000)}; !slices.Equal(second, want) || len(first) != 3 {
		t.Errorf("one list was changed; another one is %s", shown(second))
	}
	wantAll(t, "a/b,c/d")
}

// kept is how much memory is, when all that is not needed has gone.
func kept() int {
	var m runtime.MemStats
	runtime.GC()
	runtime.ReadMemStats(&m)
	return int(m.HeapAlloc)
}

// P12.1: a range holds on to no long list.
func TestKept(t *testing.T) {
	const count, size, bound = 16, 1 << 20, 1 << 22
	before := kept()
	var l []api.Range
	for range count {
		s := "text/html;x=" + strings.Repeat("y", size)
		all, _ := accept.Parse(s)
		l = append(l, all...)
		for _, r := range accept.Each(s) {
			l = append(l, r)
		}
	}
	if after := kept(); after-before > bound {
		t.Errorf("%d bytes are kept of short ranges", after-before)
	}
	if len(l) != 2*count || l[0] != rangeOf("text", "html", 1, 1000) {
		t.Errorf("%d: %s", len(l), shown(l))
	}
}

// P12.1, P12.2: great lists are gone over once, not once for each of their parts.
func TestGreatLists(t *testing.T) {
	const many = 1 << 18
	for _, c := range []struct {
		s    string
		want []api.Range
	}{
		{strings.Repeat(",", many), nil},
		{"a/b" + strings.Repeat(";", many), []api.Range{rangeOf("a", "b", 0, 1000)}},
		{"a/b" + strings.Repeat(";x", many), []api.Range{rangeOf("a", "b", many, 1000)}},
		{"a/b;q=0.5" + strings.Repeat(";q=2", many), []api.Range{rangeOf("a", "b", 0, 500)}},
		{`a/b;x="` + strings.Repeat(`\",;`, many) + `",c/d`, []api.Range{rangeOf("a", "b", 1, 1000), rangeOf("c", "d", 0, 1000)}},
		{strings.Repeat("A", many) + "/" + strings.Repeat("*", many), []api.Range{rangeOf(strings.Repeat("a", many), strings.Repeat("*", many), 0, 1000)}},
		{strings.Repeat("a/b;x=1;q=0.25,", many), slices.Repeat([]api.Range{rangeOf("a", "b", 1, 250)}, many)},
	} {
		if got, e := accept.Parse(c.s); !slices.Equal(got, c.want) || e != api.OK {
			t.Errorf("Parse(%.60q): %d ranges, errno %d", c.s, len(got), int(e))
		}
		if got := gone(accept.Each(c.s), most); !slices.Equal(got, withNumbers(c.want)) {
			t.Errorf("Each(%.60q): %d ranges", c.s, len(got))
		}
		if got, e := accept.Quality(c.s, "a", "b"); got != qualityByWords(c.want, "a", "b") || e != api.OK {
			t.Errorf("Quality(%.60q): %d, errno %d", c.s, got, int(e))
		}
	}
	wantNone(t, strings.Repeat("a", many), 0)
	wantNone(t, "a/b;q=0."+strings.Repeat("0", many), 0)
	wantNone(t, "a/b;q="+strings.Repeat("1", many), 0)
	wantNone(t, "a/b"+strings.Repeat("/", many), 0)
	wantNone(t, "a/b;x="+strings.Repeat("=", many), 0)
	wantNone(t, `a/b;x="`+strings.Repeat("y", many), 0)
}

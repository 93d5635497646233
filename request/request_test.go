package request_test

import (
	"fmt"
	"iter"
	"math"
	"net/url"
	"regexp"
	"runtime"
	"slices"
	"strings"
	"testing"
	"unsafe"

	"bellman/accept"
	"bellman/api"
	"bellman/head"
	"bellman/request"
)

// most is more than there ever is.
const most = math.MaxInt

// single is a text of one byte.
func single(b int) string { return string([]byte{byte(b)}) }

// headOf writes a head short: fields are a name, a colon, a blank, and a value.
func headOf(first string, fields ...string) api.Head {
	h := api.Head{First: first}
	for _, one := range fields {
		name, value, _ := strings.Cut(one, ": ")
		h.Fields = append(h.Fields, api.Header{Name: name, Value: value})
	}
	return h
}

// getOf is a head that asks for /a, of a host, with more fields.
func getOf(fields ...string) api.Head {
	return headOf("GET /a HTTP/1.1", append([]string{"host: x"}, fields...)...)
}

// cloned is a head in memory of its own.
func cloned(h api.Head) api.Head {
	other := api.Head{First: strings.Clone(h.First)}
	for _, f := range h.Fields {
		other.Fields = append(other.Fields, api.Header{Name: strings.Clone(f.Name), Value: strings.Clone(f.Value)})
	}
	return other
}

// sameHead tells whether two heads are the same.
func sameHead(a, b api.Head) bool { return a.First == b.First && slices.Equal(a.Fields, b.Fields) }

// same tells whether two requests are the same.
func same(a, b api.Request) bool {
	return a.Method == b.Method && slices.Equal(a.Target.Path, b.Target.Path) && slices.Equal(a.Target.Query, b.Target.Query) && a.Old == b.Old && a.Has == b.Has && a.Close == b.Close && a.LastId == b.LastId
}

// none is the request where none is told.
var none api.Request

// shown is a thing as a message shows it: no more of it than is read.
func shown(thing any) string { return fmt.Sprintf("%.300q", fmt.Sprintf("%+v", thing)) }

// Forms of the chapter's words, and of layer 9's and layer 10's.
var (
	lineForm  = regexp.MustCompile(`^([!#$%&'*+.^_` + "`" + `|~0-9A-Za-z-]+) (/[!-"$-~]*) HTTP/([0-9]\.[0-9])$`)
	firstForm = regexp.MustCompile(`^[\t!-~\x{80}-\x{ff}][\t -~\x{80}-\x{ff}]*$`)
	nameForm  = regexp.MustCompile(`^[!#$%&'*+.^_` + "`" + `|~0-9a-z-]+$`)
	valueForm = regexp.MustCompile(`^(?:|[!-~\x{80}-\x{ff}](?:[\t -~\x{80}-\x{ff}]*[!-~\x{80}-\x{ff}])?)$`)
	closeForm = regexp.MustCompile(`(?:^|,)[\t ]*[cC][lL][oO][sS][eE][\t ]*(?:,|$)`)
)

// anyStatuses are all that heads have, and 0 of such as may not be.
var anyStatuses = []int{0, 200, 400, 405, 406, 505}

// points are bytes, each written as the point of its number: forms are held against these.
func points(s string) string {
	var l []rune
	for _, b := range []byte(s) {
		l = append(l, rune(b))
	}
	return string(l)
}

// mayBe tells whether a head may be, by layer 10's words.
func mayBe(h api.Head) bool {
	for _, f := range h.Fields {
		if !nameForm.MatchString(points(f.Name)) || !valueForm.MatchString(points(f.Value)) {
			return false
		}
	}
	return firstForm.MatchString(points(h.First))
}

// targetByWords is a target, and whether a text is one's, by layer 11's words.
func targetByWords(text string) (api.Target, bool) {
	var t api.Target
	path, query, _ := strings.Cut(text, "?")
	for _, part := range strings.Split(path, "/")[1:] {
		plain, err := url.PathUnescape(part)
		if err != nil || plain == "." || plain == ".." || strings.ContainsAny(plain, "/\x00") {
			return api.Target{}, false
		}
		t.Path = append(t.Path, plain)
	}
	for _, pair := range strings.Split(query, "&") {
		if pair == "" {
			continue
		}
		key, val, _ := strings.Cut(pair, "=")
		one, err := url.QueryUnescape(key)
		other, also := url.QueryUnescape(val)
		if err != nil || also != nil {
			return api.Target{}, false
		}
		t.Query = append(t.Query, api.Pair{Key: one, Val: other})
	}
	return t, true
}

// valuesOf are the values of a head's fields of a name.
func valuesOf(h api.Head, name string) []string {
	var l []string
	for _, f := range h.Fields {
		if f.Name == name {
			l = append(l, f.Value)
		}
	}
	return l
}

// byWords is a head's status, and its request, if that is 200, by the chapter's words.
func byWords(h api.Head) (api.Request, int) {
	if !mayBe(h) {
		return none, 0
	}
	line := lineForm.FindStringSubmatch(points(h.First))
	if line == nil {
		return none, 400
	}
	to, is := targetByWords(line[2])
	old, lengths, ids := line[3] == "1.0", valuesOf(h, "content-length"), valuesOf(h, "last-event-id")
	quality, no := accept.Quality(strings.Join(valuesOf(h, "accept"), ", "), "text", "event-stream")
	switch {
	case !is:
		return none, 400
	case !old && len(valuesOf(h, "host")) != 1:
		return none, 400
	case len(valuesOf(h, "transfer-encoding")) > 0:
		return none, 400
	case len(lengths) > 1, len(lengths) == 1 && lengths[0] != "0":
		return none, 400
	case len(ids) > 1:
		return none, 400
	case line[3] != "1.1" && !old:
		return none, 505
	case line[1] != "GET":
		return none, 405
	case (quality == 0 || no != api.OK) && !slices.Equal(to.Path, []string{"health"}):
		return none, 406
	}
	r := api.Request{Method: line[1], Target: to, Old: old, Close: old}
	if len(ids) == 1 {
		r.Has, r.LastId = true, ids[0]
	}
	for _, value := range valuesOf(h, "connection") {
		r.Close = r.Close || closeForm.MatchString(value)
	}
	return r, 200
}

// numbered is a status with its number.
type numbered struct{ number, status int }

// gone goes over at most so many statuses, leaves then, and is what it went over.
func gone(seq iter.Seq2[int, int], most int) []numbered {
	var l []numbered
	if most == 0 {
		return l
	}
	for number, status := range seq {
		l = append(l, numbered{number, status})
		if len(l) == most {
			break
		}
	}
	return l
}

// wantTold holds all that is told of a head against a request and a status; of 0 the head may not be.
func wantTold(t testing.TB, h api.Head, r api.Request, status int) {
	t.Helper()
	given := cloned(h)
	no, also := api.OK, api.OK
	switch status {
	case 0:
		no, also = api.ErrArg, api.ErrArg
	case 200:
	default:
		also = api.ErrStatus
	}
	if got, e := request.Status(h); got != status || e != no {
		t.Errorf("Status(%s): %d, errno %d; want %d, errno %d", shown(h), got, int(e), status, int(no))
	}
	told, got, e := request.Of(h)
	if got != status || e != also {
		t.Errorf("Of(%s): %d, errno %d; want %d, errno %d", shown(h), got, int(e), status, int(also))
	}
	if !same(told, r) {
		t.Errorf("Of(%s): %s; want %s", shown(h), shown(told), shown(r))
	}
	if got := gone(request.Each(h), most); !slices.Equal(got, []numbered{{0, status}}) {
		t.Errorf("Each(%s): %v; want %d", shown(h), got, status)
	}
	if !sameHead(h, given) {
		t.Errorf("%s was handed in; it is %s now", shown(given), shown(h))
	}
}

// wantWords holds all that is told of a head against the chapter's words, and is what these tell.
func wantWords(t testing.TB, h api.Head) (api.Request, int) {
	t.Helper()
	r, status := byWords(h)
	wantTold(t, h, r, status)
	return r, status
}

// wantStatus holds a head that has no request against what is written down, and the chapter's words.
func wantStatus(t testing.TB, h api.Head, want int) {
	t.Helper()
	if _, status := wantWords(t, h); status != want {
		t.Errorf("%s: by the chapter's words %d; want %d", shown(h), status, want)
	}
}

// wantRequest holds a head that has a request against what is written down, and the chapter's words.
func wantRequest(t testing.TB, h api.Head, want api.Request) {
	t.Helper()
	if r, status := wantWords(t, h); status != 200 || !same(r, want) {
		t.Errorf("%s: by the chapter's words %d, %s; want %s", shown(h), status, shown(r), shown(want))
	}
}

// to is a target of parts.
func to(parts ...string) api.Target { return api.Target{Path: parts} }

// asksFor is a request of a target without more.
func asksFor(t api.Target) api.Request { return api.Request{Method: "GET", Target: t} }

// P13.1, P13.2: the chapter's examples.
func TestExamples(t *testing.T) {
	wantRequest(t, headOf("GET /a HTTP/1.1", "host: x"), asksFor(to("a")))
	wantStatus(t, headOf("GET /a HTTP/1.1"), 400)
	wantStatus(t, headOf("POST /a HTTP/1.1", "host: x"), 405)
	wantStatus(t, headOf("GET /a HTTP/2.0", "host: x"), 505)
	wantStatus(t, headOf("GET a HTTP/1.1", "host: x"), 400)
	wantStatus(t, headOf("GET /a HTTP/1.0", "accept: text/html"), 406)
	wantRequest(t, headOf("GET /health HTTP/1.0", "accept: text/html"), api.Request{Method: "GET", Target: to("health"), Old: true, Close: true})
	if got := request.Refusal(api.ErrLarge); got != 431 {
		t.Errorf("Refusal(ErrLarge): %d", got)
	}
	if api.ErrStatus != 230 {
		t.Errorf("ErrStatus: %d", int(api.ErrStatus))
	}
}

// P13.1: first lines: without a blank, with one, with three, with two side by side, ahead, behind; an empty one.
func TestBlanks(t *testing.T) {
	for _, first := range []string{
		"GET", "GET/aHTTP/1.1", "/a", "HTTP/1.1", "x",
		"GET /a", "GET /aHTTP/1.1", "GET/a HTTP/1.1", "/a HTTP/1.1", "GET HTTP/1.1", "GET ", "GET /a ", "GET  ", "GET   ",
		"GET  /a HTTP/1.1", "GET /a  HTTP/1.1", "GET  /a", "GET  HTTP/1.1", "GET  /a  HTTP/1.1", "GET   /a HTTP/1.1",
		"GET /a b HTTP/1.1", "GET /a HTTP/1.1 x", "GET /a HTTP/1.1 HTTP/1.1", "GET /a HTTP/1.0 HTTP/1.1", "x GET /a HTTP/1.1", "GET GET /a HTTP/1.1", "GET /a /b HTTP/1.1",
		"GET /a HTTP/1.1 ", "GET /a HTTP/1.0 ", "GET /a HTTP/1.1  ", "GET /a HTTP/1.1\t", "GET /a HTTP/2.0 ", "GET /a HTTP/2.0\t",
		"GET\t/a HTTP/1.1", "GET /a\tHTTP/1.1", "GET\t/a\tHTTP/1.1", "\tGET /a HTTP/1.1", "GET \t/a HTTP/1.1", "GET /a \tHTTP/1.1", "GET /a\t HTTP/1.1", "GET\t /a HTTP/1.1",
		"/a GET HTTP/1.1", "HTTP/1.1 /a GET", "GET HTTP/1.1 /a", "HTTP/1.1 200 OK",
	} {
		wantStatus(t, headOf(first, "host: x"), 400)
		wantStatus(t, headOf(first), 400)
	}
	for _, first := range []string{"", " ", " GET /a HTTP/1.1", "  GET /a HTTP/1.1", " GET /a HTTP/2.0", "GET /a HTTP/1.1\x00", "GET /a HTTP/1.1\r\n", "GET /a\nHTTP/1.1", "\x7f"} {
		wantStatus(t, headOf(first, "host: x"), 0)
	}
}

// P13.1: Methods: tokens in great and small letters, others, and what is no token.
func TestMethods(t *testing.T) {
	for _, method := range []string{"POST", "PUT", "HEAD", "OPTIONS", "DELETE", "TRACE", "CONNECT", "get", "Get", "gET", "GEt", "GE", "GETS", "AGET", "G", "T", "GET.", "-", "!#$%&'*+-.^_`|~", "0", "GETGET", "G_ET"} {
		wantStatus(t, headOf(method+" /a HTTP/1.1", "host: x"), 405)
		wantStatus(t, headOf(method+" /health HTTP/1.1", "host: x"), 405)
		wantStatus(t, headOf(method+" /a HTTP/1.0"), 405)
		wantStatus(t, headOf(method+" /a HTTP/1.1"), 400)
		wantStatus(t, headOf(method+" /a HTTP/2.0", "host: x"), 505)
		wantStatus(t, headOf(method+" a HTTP/1.1", "host: x"), 400)
	}
	for _, method := range []string{"G ET", "G/ET", "GET/", "GET,", "GET:", "(GET)", "\"GET\"", "G@T", "G=T", "G\tT", "GET\t", "G\u00e9T", "\xff", "GET\x80", "{", "[", "\\", "?", "<>", ";"} {
		wantStatus(t, headOf(method+" /a HTTP/1.1", "host: x"), 400)
		wantStatus(t, headOf(method+" /a HTTP/1.0"), 400)
		wantStatus(t, headOf(method+" /a HTTP/2.0", "host: x"), 400)
		wantStatus(t, headOf(method+" /health HTTP/1.1", "host: x"), 400)
	}
	wantStatus(t, headOf(" /a HTTP/1.1", "host: x"), 0)
}

// P13.1: targets: such as are none, and what is told of such as are.
func TestTargets(t *testing.T) {
	for _, text := range []string{
		"", "a", "*", "?", "?x", "/..", "/.", "/a/..", "/a/../b", "/./a", "/%2e", "/%2E%2e", "/.%2e", "/a%2fb", "/%2F", "/%00", "/%", "/%2", "/a%2", "/%zz", "/%2g", "/a#", "/#", "/a?#",
		"/a?%", "/a?x=%2", "/a?%zz=1", "/\u00e9", "/a\xff", "/\x80", "/a\tb", "\\a", "http://x/a", "x/a", "%2fa",
	} {
		wantStatus(t, headOf("GET "+text+" HTTP/1.1", "host: x"), 400)
		wantStatus(t, headOf("GET "+text+" HTTP/1.0"), 400)
		wantStatus(t, headOf("GET "+text+" HTTP/2.0", "host: x"), 400)
		wantStatus(t, headOf("POST "+text+" HTTP/1.1", "host: x"), 400)
		wantStatus(t, headOf("GET "+text+" HTTP/1.1", "host: x", "accept: text/html"), 400)
	}
	pair := func(key, val string) api.Pair { return api.Pair{Key: key, Val: val} }
	for text, want := range map[string]api.Target{
		"/": to(""), "//": to("", ""), "/a": to("a"), "/a/": to("a", ""), "/a/b": to("a", "b"), "/a//b": to("a", "", "b"), "/A": to("A"), "/a.b": to("a.b"), "/...": to("..."), "/.a": to(".a"), "/~": to("~"),
		"/a%20b": to("a b"), "/a+b": to("a+b"), "/%C3%a9": to("\u00e9"), "/%ff": to("\xff"), "/%61": to("a"), "/%23%3F%25": to("#?%"), "/a\\b": to("a\\b"), "/\"": to("\""), "/a=b&c": to("a=b&c"), "/%0d%0a": to("\r\n"),
		"/a?":            to("a"),
		"/a?x":           {Path: []string{"a"}, Query: []api.Pair{pair("x", "")}},
		"/a?x=1":         {Path: []string{"a"}, Query: []api.Pair{pair("x", "1")}},
		"/?x=1&y&&z=a+b": {Path: []string{""}, Query: []api.Pair{pair("x", "1"), pair("y", ""), pair("z", "a b")}},
		"/a?/..":         {Path: []string{"a"}, Query: []api.Pair{pair("/..", "")}},
		"/a?b?c=d=%3d":   {Path: []string{"a"}, Query: []api.Pair{pair("b?c", "d==")}},
		"/a?%00=%2F":     {Path: []string{"a"}, Query: []api.Pair{pair("\x00", "/")}},
		"/a?=":           {Path: []string{"a"}, Query: []api.Pair{pair("", "")}},
		"/a?x=1&x=2":     {Path: []string{"a"}, Query: []api.Pair{pair("x", "1"), pair("x", "2")}},
		"/a?host=y":      {Path: []string{"a"}, Query: []api.Pair{pair("host", "y")}},
	} {
		wantRequest(t, headOf("GET "+text+" HTTP/1.1", "host: x"), asksFor(want))
		wantRequest(t, headOf("GET "+text+" HTTP/1.0"), api.Request{Method: "GET", Target: want, Old: true, Close: true})
		wantStatus(t, headOf("GET "+text+" HTTP/3.0", "host: x"), 505)
		wantStatus(t, headOf("PUT "+text+" HTTP/1.1", "host: x"), 405)
	}
}

// P13.1: each two digits behind HTTP/, and what is no version's text.
func TestVersions(t *testing.T) {
	for one := range 10 {
		for other := range 10 {
			first := fmt.Sprintf("GET /a HTTP/%d.%d", one, other)
			switch {
			case one == 1 && other == 1:
				wantRequest(t, headOf(first, "host: x"), asksFor(to("a")))
				wantStatus(t, headOf(first), 400)
			case one == 1 && other == 0:
				want := api.Request{Method: "GET", Target: to("a"), Old: true, Close: true}
				wantRequest(t, headOf(first, "host: x"), want)
				wantRequest(t, headOf(first), want)
			default:
				wantStatus(t, headOf(first, "host: x"), 505)
				// It is not Old.
				wantStatus(t, headOf(first), 400)
			}
		}
	}
	for _, version := range []string{
		"", "HTTP", "HTTP/", "HTTP/1", "HTTP/1.", "HTTP/.1", "HTTP/.", "HTTP/11.1", "HTTP/1.11", "HTTP/01.1", "HTTP/1.01", "HTTP/1.1.1", "HTTP/1.1.", "HTTP/1,1", "HTTP/1-1", "HTTP/1:1",
		"HTTP/1/1", "HTTP/11", "HTTP/111", "HTTP/+.1", "HTTP/1.+", "HTTP/-1.1", "HTTP/1.-1", "HTTP/a.1", "HTTP/1.a", "HTTP/A.B", "HTTP//.1", "HTTP/1./", "HTTP/:.1", "HTTP/1.:",
		"http/1.1", "Http/1.1", "HTTp/1.1", "http/1.0", "http/2.0", "HTTPS/1.1", "HTT/1.1", "HTP/1.1", "XHTTP/1.1", "/1.1", "1.1", "TTP/1.1", "HTTP1.1", "HTTP\\1.1", "HTTP/1.1x",
		"HTTP/1.0x", "HTTP/2.0x", "xHTTP/1.1", "HTTP/x1.1", "HTTP/HTTP/1.1", "HTTP/1.1HTTP/1.1", "HTTP/1.\xff", "HTTP/\xff.1", "HTTP/1.\u0661", "HTTP/\uff11.\uff11", "HTTP/1\u00b71",
		"\u0397TTP/1.1", "SSE/1.1", "*",
	} {
		wantStatus(t, headOf("GET /a "+version, "host: x"), 400)
		wantStatus(t, headOf("GET /health "+version, "host: x"), 400)
		wantStatus(t, headOf("POST /a "+version, "host: x"), 400)
	}
	for _, version := range []string{"HTTP/2.0", "HTTP/1.2", "HTTP/0.9", "HTTP/9.9", "HTTP/0.0", "HTTP/3.0", "HTTP/0.1", "HTTP/1.9", "HTTP/2.1", "HTTP/9.0"} {
		wantStatus(t, headOf("GET /a "+version, "host: x"), 505)
		wantStatus(t, headOf("GET /a "+version, "host: "), 505)
		wantStatus(t, headOf("GET /a "+version, "host: x", "host: x"), 400)
	}
}

// P13.1: each byte in the place of each one, and ahead of each one, of first lines.
func TestFirstBytes(t *testing.T) {
	counts := make(map[int]int)
	for _, first := range []string{"GET /a HTTP/1.1", "GET /a HTTP/1.0", "GET /%61?b=%2e HTTP/2.0", "POST / HTTP/1.1"} {
		for b := range 256 {
			for place := range len(first) + 1 {
				lines := []string{first[:place] + single(b) + first[place:]}
				if place < len(first) {
					lines = append(lines, first[:place]+single(b)+first[place+1:], first[:place]+first[place+1:])
				}
				for _, line := range lines {
					for _, h := range []api.Head{headOf(line, "host: x"), headOf(line)} {
						_, status := wantWords(t, h)
						counts[status]++
					}
				}
			}
		}
	}
	for _, status := range []int{0, 200, 400, 405, 505} {
		if counts[status] < 100 {
			t.Errorf("of status %d: %d", status, counts[status])
		}
	}
}

// P13.1: the field host: none, one, two, an empty one; of a head that is Old, and of one that is not.
func TestHost(t *testing.T) {
	for _, c := range []struct {
		fields []string
		just   bool
	}{
		{nil, false}, {[]string{"host: x"}, true}, {[]string{"host: "}, true}, {[]string{"host: a, b"}, true}, {[]string{"host: \xff\t,"}, true}, {[]string{"host: :80"}, true},
		{[]string{"host: x", "host: x"}, false}, {[]string{"host: x", "host: y"}, false}, {[]string{"host: x", "host: "}, false}, {[]string{"host: ", "host: x"}, false}, {[]string{"host: ", "host: "}, false},
		{[]string{"host: x", "host: y", "host: z"}, false},
		{[]string{"hosts: x"}, false}, {[]string{"hos: x"}, false}, {[]string{"x-host: x"}, false}, {[]string{"a: host"}, false}, {[]string{"a: host: x"}, false}, {[]string{"hosts: x", "host: y", "x-host: z"}, true},
		{[]string{"a: 1", "host: x", "b: 2"}, true}, {[]string{"a: 1", "b: 2"}, false}, {[]string{"host: x", "a: 1", "host: x"}, false}, {[]string{"a: 1", "b: 2", "host: x"}, true},
	} {
		old := api.Request{Method: "GET", Target: to("a"), Old: true, Close: true}
		wantRequest(t, headOf("GET /a HTTP/1.0", c.fields...), old)
		if c.just {
			wantRequest(t, headOf("GET /a HTTP/1.1", c.fields...), asksFor(to("a")))
			wantStatus(t, headOf("GET /a HTTP/0.9", c.fields...), 505)
			wantStatus(t, headOf("POST /a HTTP/1.1", c.fields...), 405)
		} else {
			wantStatus(t, headOf("GET /a HTTP/1.1", c.fields...), 400)
			wantStatus(t, headOf("GET /a HTTP/0.9", c.fields...), 400)
			wantStatus(t, headOf("POST /a HTTP/1.1", c.fields...), 400)
			wantStatus(t, headOf("GET /health HTTP/1.1", c.fields...), 400)
		}
	}
}

// P13.1: a field transfer-encoding, with whatever Value.
func TestTransferEncoding(t *testing.T) {
	for _, value := range []string{"", "chunked", "Chunked", "identity", "gzip, chunked", "0", "none", "\xff", "x"} {
		field := "transfer-encoding: " + value
		wantStatus(t, getOf(field), 400)
		wantStatus(t, getOf(field, field), 400)
		wantStatus(t, getOf("a: b", field, "content-length: 0"), 400)
		wantStatus(t, headOf("GET /a HTTP/1.0", field), 400)
		wantStatus(t, headOf("GET /health HTTP/1.0", field), 400)
		wantStatus(t, headOf("GET /a HTTP/2.0", "host: x", field), 400)
		wantStatus(t, headOf("POST /a HTTP/1.1", field, "host: x"), 400)
		wantRequest(t, getOf("te: "+value, "x-transfer-encoding: "+value, "transfer-encodings: "+value, "transfer: "+value, "encoding: "+value, "content-encoding: "+value), asksFor(to("a")))
	}
}

// P13.1: fields content-length: 0, other texts, an empty one, several.
func TestContentLength(t *testing.T) {
	wantRequest(t, getOf("content-length: 0"), asksFor(to("a")))
	wantRequest(t, headOf("GET /a HTTP/1.0", "content-length: 0"), api.Request{Method: "GET", Target: to("a"), Old: true, Close: true})
	wantStatus(t, headOf("POST /a HTTP/1.1", "host: x", "content-length: 0"), 405)
	wantStatus(t, headOf("GET /a HTTP/2.0", "host: x", "content-length: 0"), 505)
	values := []string{"", "00", "000", "1", "10", "01", "0.0", "0,0", "0, 0", "0,", ",0", "+0", "-0", "0x0", "0 0", "0\t0", "x", "0x", "\"0\"", "\xff", "\u0660", "\uff10", "18446744073709551616", strings.Repeat("0", 9999)}
	for b := range 256 {
		values = append(values, single(b), "0"+single(b), single(b)+"0")
	}
	for _, value := range values {
		field := "content-length: " + value
		if value == "0" {
			continue
		}
		status := 400
		if !valueForm.MatchString(points(value)) {
			status = 0
		}
		wantStatus(t, getOf(field), status)
		wantStatus(t, headOf("GET /health HTTP/1.0", field), status)
		wantStatus(t, headOf("GET /a HTTP/2.0", "host: x", field), status)
		wantStatus(t, headOf("POST /a HTTP/1.1", field, "host: x"), status)
		wantStatus(t, getOf(field, "content-length: 0"), status)
		wantStatus(t, getOf("content-length: 0", field), status)
	}
	wantStatus(t, getOf("content-length: 0", "content-length: 0"), 400)
	wantStatus(t, getOf("content-length: 0", "a: b", "content-length: 0"), 400)
	wantStatus(t, getOf("content-length: ", "content-length: "), 400)
	wantRequest(t, getOf("content-lengths: 1", "length: 1", "x-content-length: 1", "content: 1"), asksFor(to("a")))
}

// P13.1: fields last-event-id: none, one, an empty one, two.
func TestLastId(t *testing.T) {
	wantRequest(t, getOf(), asksFor(to("a")))
	wantRequest(t, getOf("last-event-ids: 7", "last-event: 7", "event-id: 7", "id: 7", "x-last-event-id: 7", "last_event_id: 7"), asksFor(to("a")))
	for _, id := range []string{"", "7", "0", "00", "a", "A", "a b", "a\tb", "a, b", ",", "\"\"", "\"7\"", "%37", "7:8", "\u00e9", "\xff\x80", "\uFFFD", "close", "GET /a HTTP/1.1", strings.Repeat("7", 9999)} {
		field := "last-event-id: " + id
		want := api.Request{Method: "GET", Target: to("a"), Has: true, LastId: id}
		wantRequest(t, getOf(field), want)
		wantRequest(t, headOf("GET /a HTTP/1.1", "a: 1", field, "host: x", "b: 2"), want)
		want.Old, want.Close = true, true
		wantRequest(t, headOf("GET /a HTTP/1.0", field), want)
		for _, other := range []string{"", "7", "8", id} {
			also := "last-event-id: " + other
			wantStatus(t, getOf(field, also), 400)
			wantStatus(t, getOf(also, "a: b", field), 400)
			wantStatus(t, getOf(field, also, also), 400)
			wantStatus(t, headOf("GET /health HTTP/1.0", field, also), 400)
			wantStatus(t, headOf("GET /a HTTP/2.0", "host: x", field, also), 400)
			wantStatus(t, headOf("POST /a HTTP/1.1", "host: x", field, also), 400)
		}
		wantStatus(t, headOf("POST /a HTTP/1.1", "host: x", field), 405)
	}
}

// fieldsOf are fields of a name.
func fieldsOf(name string, values ...string) []string {
	var fields []string
	for _, value := range values {
		fields = append(fields, name+": "+value)
	}
	return fields
}

// wantClose holds heads with fields connection against whether the connection is to be closed.
func wantClose(t testing.TB, closes bool, values ...string) {
	t.Helper()
	fields := fieldsOf("connection", values...)
	want := asksFor(to("a"))
	want.Close = closes
	wantRequest(t, getOf(fields...), want)
	wantRequest(t, headOf("GET /a HTTP/1.1", append(slices.Clone(fields), "host: x", "a: close")...), want)
	want.Old, want.Close = true, true
	wantRequest(t, headOf("GET /a HTTP/1.0", fields...), want)
}

// P13.1: Close: of what is Old, and of fields connection with close among their items.
func TestClose(t *testing.T) {
	wantClose(t, false)
	for _, value := range []string{
		"close", "Close", "CLOSE", "cLOSe", "closE", "keep-alive, close", "close, keep-alive", "a,close,b", "a,Close\t,b", ",close,", ",,\t close", "close,close", "close, closed",
		// Items know no quoted texts.
		"\"a,close,b\"", "\",close",
	} {
		wantClose(t, true, value)
		wantClose(t, true, value, "keep-alive")
		wantClose(t, true, "", "keep-alive", value, "")
	}
	for _, value := range []string{
		"", ",", "keep-alive", "Keep-Alive", "keep-alive, upgrade", "c", "clos", "lose", "closed", "close-", "xclose", "not close", "close it", "clo se", "clo,se", "close;q=1", "close=1",
		"\"close\"", "\"a,close\"", "clos\u00e9", "clo\u017fe", "close\xff", "close.close", "close/close", "close;close",
	} {
		wantClose(t, false, value)
		wantClose(t, false, value, value)
		wantClose(t, true, value, "close")
		wantClose(t, true, "Close", value)
	}
	wantClose(t, false, "clo", "se")
	wantClose(t, true, "a", "b", "c", "d,close")
	wantRequest(t, getOf("connections: close", "proxy-connection: close", "close: close", "connection-close: 1"), asksFor(to("a")))
}

// wantTakes holds heads with fields accept against whether they take event streams.
func wantTakes(t testing.TB, takes bool, values ...string) {
	t.Helper()
	fields := fieldsOf("accept", values...)
	old := api.Request{Method: "GET", Target: to("a"), Old: true, Close: true}
	if takes {
		wantRequest(t, getOf(fields...), asksFor(to("a")))
		wantRequest(t, headOf("GET /a HTTP/1.0", fields...), old)
	} else {
		wantStatus(t, getOf(fields...), 406)
		wantStatus(t, headOf("GET /a HTTP/1.0", fields...), 406)
	}
	wantStatus(t, headOf("POST /a HTTP/1.1", append(slices.Clone(fields), "host: x")...), 405)
	wantStatus(t, headOf("GET /a HTTP/2.0", append(slices.Clone(fields), "host: x")...), 505)
	wantStatus(t, headOf("GET /a HTTP/1.1", fields...), 400)
	// The health's path is told whatever is taken.
	old.Target = to("health")
	wantRequest(t, headOf("GET /health HTTP/1.1", append([]string{"host: x"}, fields...)...), asksFor(to("health")))
	wantRequest(t, headOf("GET /health HTTP/1.0", fields...), old)
	wantStatus(t, headOf("PUT /health HTTP/1.0", fields...), 405)
}

// P13.1: fields accept: none, an empty one, such as take event streams, such as do not, such as are no list of ranges.
func TestAccept(t *testing.T) {
	wantTakes(t, true)
	for _, value := range []string{
		"", ",", ",,", "text/event-stream", "Text/Event-Stream", "text/*", "*/*", "text/html, text/event-stream", "text/event-stream,text/html", "text/html;q=1, */*;q=0.001", "text/event-stream;q=0.001", "text/event-stream;q=1.000;x",
		"*/*;q=0, text/*", "text/*;q=0, text/event-stream", "*/*;q=0,text/event-stream;q=0.5", "text/event-stream, text/event-stream;q=0", "text/event-stream;x, */*", ",text/*,", "a/b;x=\",\", text/*",
	} {
		wantTakes(t, true, value)
	}
	for _, value := range []string{
		// The quality is 0.
		"text/html", "application/json", "text/event-stream;q=0", "text/event-stream;q=0.000", "text/*;q=0", "*/*;q=0", "text/event-stream;q=0, */*", "text/event-stream;q=0, text/*;q=1",
		"text/*;q=0, */*", "text/event-stream;x=1", "text/event-stream;x;q=1", "*/*;x", "text/event-streams", "text/event-strea", "event-stream/text", "application/*, image/*", "text/event-stream;q=0, text/event-stream",
		"a/b;x=\", text/*\"",
		// It is no list of ranges.
		"text", "event-stream", "*", "*/event-stream", "text/event-stream;q=2", "text/event-stream;q=1.5", "text/event-stream;q=", "text/event-stream;q=0.1234", "text/event-stream, text",
		"x, text/event-stream", "text/event-stream;x=\"", "text/event stream", "text/event-stream/", "/", ";", "\xff", "text/event-stream\u00e9", "\"text/event-stream\"", "a/b;x=\", text/*",
	} {
		wantTakes(t, false, value)
	}
	wantTakes(t, true, "text/html;x="+strings.Repeat("y", 99999)+", text/*")
	wantRequest(t, getOf("accepts: text/html", "accept-language: de", "accept-encoding: gzip;q=0", "x-accept: x", "a: text/html"), asksFor(to("a")))
}

// P13.1: several fields accept: their Values, a comma and a blank between each two.
func TestSeveralAccepts(t *testing.T) {
	for _, values := range [][]string{
		{"text/html", "text/event-stream"}, {"text/event-stream", "text/html"}, {"", "text/event-stream"}, {"", "", "*/*"}, {"text/html;q=1,", "*/*;q=0.1"}, {"a/b;x=\"", "\", text/event-stream"},
		{"*/*;q=0", "text/event-stream"}, {"a/b", "c/d", "e/f", "text/*"}, {"text/event-stream", "text/event-stream;q=0"}, {"", ","},
	} {
		wantTakes(t, true, values...)
	}
	for _, values := range [][]string{
		{"text/html", "text/plain"}, {"text/event-stream;q=0", "*/*"}, {"*/*", "text/event-stream;q=0"}, {"", "text/html"}, {"text/event-stream", "text"}, {"text", "text/event-stream"},
		{"text/event-", "stream"}, {"text/event-stream;q=0.", "5"}, {"a/b;x=\"", "text/event-stream", "\""}, {"text/html", "text/event-stream;q=0"}, {"text/event-stream;q=0", "text/event-stream"},
		// The text of these ends with a blank: it is no value, so no list of ranges.
		{"text/event-stream", ""}, {"", ""}, {"*/*", "*/*", ""}, {"", "text/event-stream", ""},
	} {
		wantTakes(t, false, values...)
	}
	wantRequest(t, headOf("GET /a HTTP/1.1", "accept: text/html", "host: x", "a: b", "accept: text/event-stream", "b: c"), asksFor(to("a")))
	wantStatus(t, headOf("GET /a HTTP/1.1", "accept: text/html", "host: x", "a: text/event-stream", "accept: text/plain"), 406)
}

// P13.1: the path of the health, and others, by way of escapes and with a query.
func TestHealth(t *testing.T) {
	x := []api.Pair{{Key: "x", Val: "1"}}
	for text, want := range map[string]api.Target{
		"/health": to("health"), "/%68ealth": to("health"), "/healt%68": to("health"), "/%68%65%61%6c%74%68": to("health"), "/%68%65%61%6C%74%68": to("health"), "/health?": to("health"),
		"/health?x=1": {Path: []string{"health"}, Query: x}, "/%68ealth?x=1": {Path: []string{"health"}, Query: x}, "/health?&x=1&": {Path: []string{"health"}, Query: x}, "/health?/a": {Path: []string{"health"}, Query: []api.Pair{{Key: "/a"}}},
	} {
		for _, value := range []string{"text/html", "text/event-stream;q=0", "*/*;q=0", "text", "\xff", "", "text/event-stream"} {
			wantRequest(t, headOf("GET "+text+" HTTP/1.1", "host: x", "accept: "+value), asksFor(want))
			wantRequest(t, headOf("GET "+text+" HTTP/1.0", "accept: "+value), api.Request{Method: "GET", Target: want, Old: true, Close: true})
			wantStatus(t, headOf("GET "+text+" HTTP/1.1", "accept: "+value), 400)
			wantStatus(t, headOf("GET "+text+" HTTP/1.2", "host: x", "accept: "+value), 505)
			wantStatus(t, headOf("HEAD "+text+" HTTP/1.1", "host: x", "accept: "+value), 405)
		}
	}
	for text, status := range map[string]int{
		"/": 406, "/Health": 406, "/HEALTH": 406, "/%48ealth": 406, "/health/": 406, "//health": 406, "/health/x": 406, "/x/health": 406, "/healthy": 406, "/healt": 406, "/ealth": 406,
		"/health%20": 406, "/%20health": 406, "/health+": 406, "/health%3f": 406, "/health.": 406, "/a?/health": 406, "/?health": 406, "/%2568ealth": 406, "/health;x": 406, "/health&x": 406,
		"/hea/lth": 406,
		"/health#": 400, "/health%": 400, "/%2fhealth": 400, "/health%2f": 400, "/health%00": 400, "/a/../health": 400, "/./health": 400, "/health/.": 400, "/health?%": 400, "health": 400,
	} {
		for _, value := range []string{"text/html", "text/event-stream;q=0", "text"} {
			wantStatus(t, headOf("GET "+text+" HTTP/1.1", "host: x", "accept: "+value), status)
			wantStatus(t, headOf("GET "+text+" HTTP/1.0", "accept: "+value), status)
		}
	}
}

// P13.1, P13.3: all that may be wrong, together with each other thing: the first status counts; each head has just one.
func TestGrid(t *testing.T) {
	firsts := []string{
		"GET /a HTTP/1.1", "GET /health?x HTTP/1.1", "GET /a HTTP/1.0", "GET /health HTTP/1.0", "GET /a HTTP/2.0", "GET /health HTTP/0.9", "POST /a HTTP/1.1", "POST /health HTTP/1.0",
		"get /a HTTP/1.1", "POST /a HTTP/1.2", "GET a HTTP/1.1", "GET /a HTTP/1", "G@T /a HTTP/2.0", "GET /a", "POST /.. HTTP/2.0", "GET  HTTP/1.1", "",
	}
	pieces := [][][]string{
		{nil, {"host: x"}, {"host: x", "host: "}},
		{nil, {"transfer-encoding: "}},
		{nil, {"content-length: 0"}, {"content-length: 00"}, {"content-length: 0", "content-length: 0"}},
		{nil, {"last-event-id: "}, {"last-event-id: 7"}, {"last-event-id: 7", "last-event-id: 7"}},
		{nil, {"accept: "}, {"accept: text/html", "accept: text/*"}, {"accept: */*;q=0"}, {"accept: text"}},
		{nil, {"connection: keep-alive", "connection: x, Close"}, {"A: b"}, {"a:  b"}},
	}
	heads := [][]string{nil}
	for _, of := range pieces {
		var next [][]string
		for _, ahead := range heads {
			for _, one := range of {
				next = append(next, append(slices.Clone(ahead), one...))
			}
		}
		heads = next
	}
	counts := make(map[int]int)
	for _, first := range firsts {
		for _, fields := range heads {
			h := headOf(first, fields...)
			r, status := wantWords(t, h)
			counts[status]++
			if status == 200 && (r.Method != "GET" || !slices.Equal(r.Target.Path, []string{"health"}) && !accept.Takes(strings.Join(valuesOf(h, "accept"), ", "), "text", "event-stream")) {
				t.Errorf("%s has 200", shown(h))
			}
			// In whatever order its fields are, as long as those of one name are.
			slices.SortStableFunc(h.Fields, func(a, b api.Header) int { return strings.Compare(b.Name, a.Name) })
			wantTold(t, h, r, status)
			if t.Failed() {
				t.FailNow()
			}
		}
	}
	for _, status := range anyStatuses {
		if counts[status] < 50 {
			t.Errorf("of status %d: %d", status, counts[status])
		}
	}
	if len(counts) != len(anyStatuses) {
		t.Errorf("statuses: %v", counts)
	}
}

// P13.1: a few heads for which several statuses are so at once: the first counts.
func TestOrder(t *testing.T) {
	picky := "accept: text/html"
	for _, c := range []struct {
		h    api.Head
		want int
	}{
		{headOf("POST /a HTTP/2.0", picky), 400}, {headOf("POST /a HTTP/2.0", "host: x", picky), 505}, {headOf("POST /a HTTP/1.1", "host: x", picky), 405}, {headOf("GET /a HTTP/1.1", "host: x", picky), 406},
		{headOf("GET /health HTTP/1.1", "host: x", picky), 200},
		{headOf("POST a HTTP/2.0", "host: x", picky), 400}, {headOf("GET /a HTTP/2.0", "host: x", picky), 505}, {headOf("POST /a HTTP/1.0", picky), 405}, {headOf("GET /a HTTP/1.0", picky), 406},
		{headOf("POST /a HTTP/2.0", "host: x", "transfer-encoding: x"), 400}, {headOf("POST /a HTTP/2.0", "host: x", "content-length: 1"), 400}, {headOf("POST /a HTTP/2.0", "host: x", "last-event-id: 7", "last-event-id: 7"), 400},
		{headOf("POST /a HTTP/1.1", "host: x", "transfer-encoding: x"), 400}, {headOf("POST /a HTTP/1.1", "host: x", "content-length: 1"), 400}, {headOf("GET /a HTTP/1.1", "host: x", "last-event-id: 7", "last-event-id: 7", picky), 400},
		{headOf("POST /health HTTP/2.0", "host: x"), 505}, {headOf("POST /health HTTP/1.1", "host: x"), 405}, {headOf("GET /health HTTP/1.1", picky), 400},
	} {
		if c.want == 200 {
			wantRequest(t, c.h, asksFor(to("health")))
		} else {
			wantStatus(t, c.h, c.want)
		}
	}
}

// P13.1: heads that may not be, whatever else they are.
func TestHeadsThatMayNot(t *testing.T) {
	for _, h := range []api.Head{
		{}, headOf(""), headOf("", "host: x"), headOf(" "), headOf(" GET /a HTTP/1.1", "host: x"), headOf("GET /a HTTP/1.1\n", "host: x"), headOf("GET /a\rHTTP/1.1", "host: x"), headOf("GET /a HTTP/1.1\x00", "host: x"),
		headOf("\x7f", "host: x"), headOf("POST a\x01", "host: x"),
		{First: "GET /a HTTP/1.1", Fields: []api.Header{{}}}, {First: "GET /a HTTP/1.1", Fields: []api.Header{{Name: "host", Value: "x"}, {Value: "x"}}},
		getOf("Accept: */*"), getOf("a b: c"), getOf("a : c"), getOf(": c"), getOf("a:b: c"), getOf("\u00e9: c"), getOf("a\xff: c"), getOf("a\x00: c"), getOf("a\t: c"), getOf("a/b: c"), getOf("aB: c"),
		getOf("a:  c"), getOf("a: c "), getOf("a: \tc"), getOf("a: c\t"), getOf("a:  "), getOf("a: \t"), getOf("a: c\nd"), getOf("a: c\r"), getOf("a: \x00"), getOf("a: \x1f"), getOf("a: c\x7f"),
		headOf("GET /a HTTP/2.0", "A: b"), headOf("POST /a HTTP/1.1", "host: x", "A: b"), headOf("x", "A: b"), headOf("GET /a HTTP/1.1", "A: b"), headOf("GET /a HTTP/1.0", "accept: text/html", "a: b "),
		getOf("transfer-encoding: x", "A: b"), headOf("GET /health HTTP/1.0", "A: b"),
	} {
		wantStatus(t, h, 0)
	}
}

// named are fields' names, each in letters that are not small alone.
var named = map[string]string{
	"Host": "x", "HOST": "x", "hosT": "x", "Transfer-Encoding": "chunked", "Content-Length": "0", "CONTENT-LENGTH": "1", "Last-Event-ID": "7", "last-event-Id": "7", "Connection": "close",
	"Accept": "*/*", "ACCEPT": "text/html", "X": "y",
}

// P13.1: fields' names, in whatever letters: no head has great ones; of bytes that come layer 10 makes them small.
func TestLetters(t *testing.T) {
	for name, value := range named {
		field := name + ": " + value
		wantStatus(t, getOf(field), 0)
		wantStatus(t, headOf("GET /a HTTP/1.0", field), 0)
		wantStatus(t, headOf("GET /a HTTP/1.1", field), 0)
		wantStatus(t, headOf("GET /a HTTP/1.1", field, "host: x"), 0)
	}
	caps := api.HeadCaps{Line: 999, Bytes: 9999, Fields: 99}
	read := func(lines ...string) api.Head {
		h, _, e := head.Of(caps, []byte(strings.Join(lines, "\r\n")+"\r\n\r\n"))
		if e != api.OK {
			t.Fatalf("%q: errno %d", lines, int(e))
		}
		return h
	}
	want := api.Request{Method: "GET", Target: to("a"), Has: true, Close: true, LastId: "Ab"}
	wantRequest(t, read("GET /a HTTP/1.1", "HOST: X", "Last-Event-ID:Ab", "ACCEPT: Text/*", "Connection: \tClose ", "Content-LENGTH: 0"), want)
	wantRequest(t, read("GET /a HTTP/1.1", "hOST:", "last-event-id:  Ab\t", "accept:", "connection: close"), want)
	wantStatus(t, read("GET /a HTTP/1.1", "Host: x", "hOST: x"), 400)
	wantStatus(t, read("GET /a HTTP/1.1", "Host: x", "Transfer-Encoding:"), 400)
	wantStatus(t, read("GET /a HTTP/1.1", "Host: x", "Content-Length: 1"), 400)
	wantStatus(t, read("GET /a HTTP/1.1", "Host: x", "Last-Event-Id: 7", "last-event-ID: 7"), 400)
	wantStatus(t, read("GET /a HTTP/1.1", "Host: x", "Accept: text/html"), 406)
}

// P13.1: with another status than 200 no request is told.
func TestBesideErrors(t *testing.T) {
	with := func(first string, fields ...string) api.Head {
		return headOf(first, append(fields, "last-event-id: 7", "connection: close")...)
	}
	for _, h := range []api.Head{
		with("GET /a?b=c HTTP/1.1"), with("POST /a?b=c HTTP/1.1", "host: x"), with("GET /a?b=c HTTP/2.0", "host: x"), with("GET /a?b=c HTTP/1.0", "accept: text/html"),
		with("GET /a?b=c HTTP/1.1", "host: x", "A: b"), with("GET /a?b=c HTTP/1.1", "host: x", "content-length: 1"), with("GET /a?b=c HTTP/1.0", "a: b "), with("POST /a?b=c HTTP/1.0"),
	} {
		if r, status, e := request.Of(h); !same(r, none) || e == api.OK || status == 200 || (status == 0) != (e == api.ErrArg) {
			t.Errorf("Of(%s): %s, %d, errno %d", shown(h), shown(r), status, int(e))
		}
	}
}

// P13.1: great heads: of more bytes and fields than any reader's caps.
func TestGreatHeads(t *testing.T) {
	const many = 1 << 16
	long := strings.Repeat("y", many)
	var names []string
	for number := range many {
		names = append(names, fmt.Sprintf("x%d: y", number%7))
	}
	wantRequest(t, getOf(names...), asksFor(to("a")))
	wantStatus(t, headOf("GET /a HTTP/1.1", names...), 400)
	wantStatus(t, headOf("GET /a HTTP/1.1", slices.Repeat([]string{"host: x"}, many)...), 400)
	wantRequest(t, headOf("GET /a HTTP/1.0", slices.Repeat([]string{"host: x"}, many)...), api.Request{Method: "GET", Target: to("a"), Old: true, Close: true})
	wantStatus(t, getOf(slices.Repeat([]string{"accept: a/b"}, many)...), 406)
	wantRequest(t, headOf("GET /"+long+" HTTP/1.1", "host: x"), asksFor(to(long)))
	wantRequest(t, getOf("last-event-id: "+long), api.Request{Method: "GET", Target: to("a"), Has: true, LastId: long})
	wantStatus(t, headOf(long+" /a HTTP/1.1", "host: x"), 405)
	wantStatus(t, headOf("GET /a HTTP/1."+long, "host: x"), 400)
	wantStatus(t, headOf(strings.Repeat("x ", many), "host: x"), 400)
}

// P13.2: Refusal of each error of layer 10, of OK, and of others.
func TestRefusal(t *testing.T) {
	for e, want := range map[api.Errno]int{
		api.OK: 0, api.ErrLarge: 431, api.ErrHead: 400, api.ErrMore: 400, api.ErrNil: 400, api.ErrArg: 400,
		api.ErrLong: 400, api.ErrRange: 400, api.ErrNone: 400, api.ErrTarget: 400, api.ErrAccept: 400, api.ErrStatus: 400, api.ErrRoom: 400, -1: 400, 431: 400, 400: 400, math.MaxInt: 400, math.MinInt: 400,
	} {
		if got := request.Refusal(e); got != want {
			t.Errorf("Refusal(%d): %d; want %d", int(e), got, want)
		}
	}
	for number := -999; number < 1000; number++ {
		want := 400
		switch number {
		case 0:
			want = 0
		case 201:
			want = 431
		}
		if got := request.Refusal(api.Errno(number)); got != want {
			t.Errorf("Refusal(%d): %d; want %d", number, got, want)
		}
	}
}

// P13.2: Refusal of what layer 10 tells of bytes.
func TestRefusalOfHeads(t *testing.T) {
	caps := api.HeadCaps{Line: 20, Bytes: 40, Fields: 1}
	for s, want := range map[string]int{
		"GET /a HTTP/1.1\r\nhost: x\r\n\r\n": 0, "GET /aaaaaaaaaaa HTTP/1.1\r\n\r\n": 431, "GET /a HTTP/1.1\r\na: 1\r\nb: 2\r\n\r\n": 431, "GET /a HTTP/1.1\r\nhost: 12345678901234\r\n\r\n": 431,
		"GET /a HTTP/1.1\n": 400, "\r\n": 400, " \r\n": 400, "GET /a HTTP/1.1\r\nx\r\n": 400, "GET /a HTTP/1.1\r\n": 400, "": 400,
	} {
		_, _, e := head.Of(caps, []byte(s))
		if got := request.Refusal(e); got != want {
			t.Errorf("%q: errno %d, refused with %d; want %d", s, int(e), got, want)
		}
	}
	_, _, e := head.Of(api.HeadCaps{}, nil)
	if got := request.Refusal(e); got != 400 {
		t.Errorf("errno %d, refused with %d", int(e), got)
	}
}

// asking is the head of a request, by the chapter's words.
func asking(path, lastId string) api.Head {
	h := api.Head{First: "GET " + path + " HTTP/1.1", Fields: []api.Header{{Name: "host", Value: "upstream"}, {Name: "accept", Value: "text/event-stream"}}}
	if lastId != "" {
		h.Fields = append(h.Fields, api.Header{Name: "last-event-id", Value: lastId})
	}
	return h
}

// paths are targets' texts, and what they are.
var paths = map[string]api.Target{
	"/": to(""), "/a": to("a"), "/a/b": to("a", "b"), "//": to("", ""), "/a/": to("a", ""), "/health": to("health"), "/a%20b": to("a b"), "/%61": to("a"), "/%C3%A9": to("\u00e9"),
	"/a+b": to("a+b"), "/...": to("..."), "/%25": to("%"), "/~!$&'()*,;=:@": to("~!$&'()*,;=:@"), "/\"<>\\^`{|}": to("\"<>\\^`{|}"),
	"/a?": to("a"), "/a?x=1": {Path: []string{"a"}, Query: []api.Pair{{Key: "x", Val: "1"}}}, "/a?x=a+b&&y": {Path: []string{"a"}, Query: []api.Pair{{Key: "x", Val: "a b"}, {Key: "y"}}},
	"/a?b?c=/../%00": {Path: []string{"a"}, Query: []api.Pair{{Key: "b?c", Val: "/../\x00"}}},
}

// ids are last ids that are values.
var ids = []string{"", "7", "0", "a b", "a\tb", ",", "a, b", "\"", "%", "close", "\u00e9", "\xff", "\x80\xff", "\uFFFD", ":", "HTTP/1.1"}

// noIds are last ids that are no values.
var noIds = []string{" ", "\t", " 7", "7 ", "\t7", "7\t", "7\n", "\n", "\r", "7\r\n", "7\r\nhost: y", "\x00", "7\x00", "a\x1fb", "\x7f", "\x01"}

// noPaths are texts that are no target's.
var noPaths = []string{"", "a", "*", "?", "?x", " /a", "/a ", "/a b", "/a HTTP/1.1", "/a\r\n", "/a\tb", "/\x00", "/..", "/a/.", "/%2e%2e", "/%2f", "/%00", "/%", "/%2", "/a%zz", "/#", "/a#b", "/a?#", "/a?%", "/\u00e9", "/\xff", "/\x7f", "http://x/a", "\\a"}

// wantEncode holds Encode against the chapter's words: its error, or the head, and the head's bytes.
func wantEncode(t testing.TB, path, lastId string, no api.Errno) {
	t.Helper()
	h, e := request.Encode(path, lastId)
	if no != api.OK {
		if !sameHead(h, api.Head{}) || e != no {
			t.Errorf("Encode(%.99q, %.99q): %s, errno %d; want errno %d", path, lastId, shown(h), int(e), int(no))
		}
		return
	}
	if want := asking(path, lastId); !sameHead(h, want) || e != api.OK {
		t.Errorf("Encode(%.99q, %.99q): %s, errno %d; want %s", path, lastId, shown(h), int(e), shown(want))
	}
	want := "GET " + path + " HTTP/1.1\r\nhost: upstream\r\naccept: text/event-stream\r\n"
	if lastId != "" {
		want += "last-event-id: " + lastId + "\r\n"
	}
	if b, e := head.Encode(h); string(b) != want+"\r\n" || e != api.OK {
		t.Errorf("Encode(%.99q, %.99q): %.300q, errno %d; want %.300q", path, lastId, b, int(e), want+"\r\n")
	}
}

// P13.2: Encode, and what is no path, or no last id.
func TestEncode(t *testing.T) {
	for path := range paths {
		for _, id := range ids {
			wantEncode(t, path, id, api.OK)
		}
		for _, id := range noIds {
			wantEncode(t, path, id, api.ErrArg)
		}
	}
	for _, path := range noPaths {
		for _, id := range slices.Concat(ids, noIds) {
			wantEncode(t, path, id, api.ErrArg)
		}
	}
	long := strings.Repeat("x", 1<<20)
	wantEncode(t, "/"+long, long, api.OK)
	wantEncode(t, long, "", api.ErrArg)
	wantEncode(t, "/", long+" ", api.ErrArg)
	h, e := request.Encode("/a?x", "7")
	b, also := head.Encode(h)
	if want := "GET /a?x HTTP/1.1\r\nhost: upstream\r\naccept: text/event-stream\r\nlast-event-id: 7\r\n\r\n"; string(b) != want || e != api.OK || also != api.OK {
		t.Errorf("%q, errno %d, %d", b, int(e), int(also))
	}
}

// P13.2: each byte in a path, and at each place of a last id.
func TestEncodeBytes(t *testing.T) {
	for b := range 256 {
		no := api.OK
		if b < 33 || b > 126 || b == '#' || b == '%' {
			no = api.ErrArg
		}
		wantEncode(t, "/a"+single(b), "", no)
		wantEncode(t, "/a"+single(b)+"b", "7", no)
		for _, id := range []string{single(b), single(b) + "7", "7" + single(b), "7" + single(b) + "8"} {
			no := api.OK
			if !valueForm.MatchString(points(id)) {
				no = api.ErrArg
			}
			wantEncode(t, "/a", id, no)
		}
	}
}

// P13.3: Of of Encode is a request of that path and last id.
func TestOfEncode(t *testing.T) {
	for path, want := range paths {
		for _, id := range ids {
			h, e := request.Encode(path, id)
			if e != api.OK {
				t.Fatalf("Encode(%q, %q): errno %d", path, id, int(e))
			}
			wantRequest(t, h, api.Request{Method: "GET", Target: want, Has: id != "", LastId: id})
			b, _ := head.Encode(h)
			read, used, e := head.Of(api.HeadCaps{Line: 999, Bytes: 9999, Fields: 3}, b)
			if !sameHead(read, h) || used != len(b) || e != api.OK {
				t.Errorf("%q: %s, %d, errno %d", b, shown(read), used, int(e))
			}
		}
	}
	for b := range 256 {
		path := fmt.Sprintf("/x%%%02x?k%%%02X=v", b, b)
		h, e := request.Encode(path, "7")
		if b == 0 || b == '/' {
			wantEncode(t, path, "7", api.ErrArg)
			continue
		}
		want := api.Target{Path: []string{"x" + single(b)}, Query: []api.Pair{{Key: "k" + single(b), Val: "v"}}}
		if r, status, no := request.Of(h); !same(r, api.Request{Method: "GET", Target: want, Has: true, LastId: "7"}) || status != 200 || e != api.OK || no != api.OK {
			t.Errorf("%q: %s, %d, errno %d, %d", path, shown(r), status, int(e), int(no))
		}
	}
}

// rowOf are heads, and their statuses.
func rowOf() ([]api.Head, []numbered) {
	l := []api.Head{getOf(), headOf("GET /a HTTP/1.1"), {}, headOf("POST /a HTTP/1.1", "host: x"), headOf("GET /a HTTP/2.0", "host: x"), getOf("accept: text/html"), getOf("A: b"), headOf("GET /health HTTP/1.0", "accept: x"), getOf()}
	var want []numbered
	for number, status := range []int{200, 400, 0, 405, 505, 406, 0, 200, 200} {
		want = append(want, numbered{number, status})
	}
	return l, want
}

// P13.1: Each: none, one and many heads; numbers from 0 on; left at any time, and gone over again.
func TestEach(t *testing.T) {
	if got := gone(request.Each(), most); got != nil {
		t.Errorf("Each of none: %v", got)
	}
	if got := gone(request.Each([]api.Head{}...), most); got != nil {
		t.Errorf("Each of none: %v", got)
	}
	l, all := rowOf()
	for number, h := range l {
		if got, want := gone(request.Each(h), most), []numbered{{0, all[number].status}}; !slices.Equal(got, want) {
			t.Errorf("Each(%s): %v; want %v", shown(h), got, want)
		}
	}
	for count := range len(l) + 1 {
		want := all[:count]
		seq := request.Each(l[:count]...)
		for round := range 3 {
			for many := range count + 1 {
				if got := gone(seq, many); !slices.Equal(got, want[:many]) {
					t.Errorf("of %d, round %d, left behind %d: %v; want %v", count, round, many, got, want[:many])
				}
			}
			if got := gone(seq, most); !slices.Equal(got, want) {
				t.Errorf("of %d, round %d: %v; want %v", count, round, got, want)
			}
		}
	}
	const many = 20000
	number := 0
	for at, status := range request.Each(slices.Repeat([]api.Head{getOf(), {}}, many)...) {
		if at != number || status != 200-200*(at%2) {
			t.Fatalf("%d: %d %d", number, at, status)
		}
		number++
	}
	if number != 2*many {
		t.Errorf("%d statuses", number)
	}
}

// P13.1: Each, gone over within itself, and a panic of a loop's body, which goes through.
func TestEachWithin(t *testing.T) {
	l, want := rowOf()
	seq := request.Each(l...)
	var got []numbered
	for number, status := range seq {
		got = append(got, numbered{number, status})
		if inner := gone(seq, number+1); !slices.Equal(inner, want[:number+1]) {
			t.Errorf("within %d: %v", number, inner)
		}
	}
	if !slices.Equal(got, want) {
		t.Errorf("%v; want %v", got, want)
	}
	thrown := func() (thrown any) {
		defer func() { thrown = recover() }()
		for range seq {
			panic("a body's own")
		}
		return nil
	}()
	if thrown != "a body's own" {
		t.Errorf("thrown: %v", thrown)
	}
	if got := gone(seq, most); !slices.Equal(got, want) {
		t.Errorf("behind a panic: %v; want %v", got, want)
	}
}

// P13.1: what Each goes over is as it was when it was called.
func TestEachAsItWas(t *testing.T) {
	l, want := rowOf()
	seq := request.Each(l...)
	for number := range l {
		for place := range l[number].Fields {
			l[number].Fields[place] = api.Header{Name: "transfer-encoding", Value: "x"}
		}
	}
	if got := gone(seq, most); !slices.Equal(got, want) {
		t.Errorf("behind other fields: %v; want %v", got, want)
	}
	for number := range l {
		l[number] = api.Head{First: "x"}
	}
	if got := gone(seq, most); !slices.Equal(got, want) {
		t.Errorf("behind other heads: %v; want %v", got, want)
	}
	if got := gone(request.Each(l...), most); len(got) != len(l) || got[0] != (numbered{0, 400}) {
		t.Errorf("of the other heads: %v", got)
	}
}

// P13.2: Same: each part that differs alone.
func TestSame(t *testing.T) {
	full := func() api.Request {
		return api.Request{Method: "GET", Target: api.Target{Path: []string{"a", "b"}, Query: []api.Pair{{Key: "k", Val: "v"}, {Key: "l", Val: "w"}}}, Old: true, Has: true, Close: true, LastId: "7"}
	}
	plain := func() api.Request { return api.Request{} }
	path := func(parts ...string) func(*api.Request) {
		return func(r *api.Request) { r.Target.Path = parts }
	}
	query := func(texts ...string) func(*api.Request) {
		return func(r *api.Request) {
			r.Target.Query = nil
			for pair := range slices.Chunk(texts, 2) {
				r.Target.Query = append(r.Target.Query, api.Pair{Key: pair[0], Val: pair[1]})
			}
		}
	}
	changes := []func(*api.Request){
		func(r *api.Request) { r.Method += "x" }, func(r *api.Request) { r.Method = "get" }, func(r *api.Request) { r.LastId += "x" }, func(r *api.Request) { r.LastId = "07" },
		func(r *api.Request) { r.Method, r.LastId = r.LastId+"x", r.Method },
		func(r *api.Request) { r.Old = !r.Old }, func(r *api.Request) { r.Has = !r.Has }, func(r *api.Request) { r.Close = !r.Close },
		path("a"), path("a", "b", ""), path("", "a", "b"), path("a/b"), path("b", "a"), path("a", "B"), path("ab", ""),
		query("k", "v"), query("k", "v", "l", "w", "", ""), query("l", "w", "k", "v"), query("k", "v", "l", "W"), query("K", "v", "l", "w"), query("kv", "", "l", "w"), query("k", "l", "v", "w"),
	}
	for _, of := range []func() api.Request{full, plain} {
		a, b := of(), of()
		if !request.Same(a, b) || !request.Same(a, a) {
			t.Errorf("%s is not the same as itself", shown(a))
		}
		for number, change := range changes {
			b := of()
			change(&b)
			if request.Same(a, b) || request.Same(b, a) {
				t.Errorf("change %d: %s and %s are the same", number, shown(a), shown(b))
			}
			c := of()
			change(&c)
			if !request.Same(b, c) {
				t.Errorf("change %d: %s is not the same as itself", number, shown(b))
			}
		}
	}
	if request.Same(full(), plain()) || request.Same(plain(), full()) {
		t.Error("a full one and a plain one are the same")
	}
	if !request.Same(plain(), api.Request{Target: api.Target{Path: []string{}, Query: []api.Pair{}}}) {
		t.Error("nil lists and empty ones are not the same")
	}
}

// P13.2: Same of each two of many requests holds where all their parts are the same.
func TestSameOfMany(t *testing.T) {
	var l []api.Request
	for _, method := range []string{"", "GET", "7"} {
		for _, target := range []api.Target{{}, to(""), to("a"), to("a", ""), {Path: []string{"a"}, Query: []api.Pair{{}}}, {Query: []api.Pair{{}}}} {
			for _, id := range []string{"", "7", "GET"} {
				for marks := range 8 {
					l = append(l, api.Request{Method: method, Target: target, Old: marks&1 > 0, Has: marks&2 > 0, Close: marks&4 > 0, LastId: id})
				}
			}
		}
	}
	for one, a := range l {
		for other, b := range l {
			if got := request.Same(a, b); got != (one == other) {
				t.Fatalf("Same(%s, %s): %v", shown(a), shown(b), got)
			}
		}
	}
}

// shares tells whether two texts have memory together.
func shares(a, b string) bool {
	// The language itself has one text for each single byte.
	if len(a) < 2 || len(b) < 2 {
		return false
	}
	x, y := uintptr(unsafe.Pointer(unsafe.StringData(a))), uintptr(unsafe.Pointer(unsafe.StringData(b)))
	return x < y+uintptr(len(b)) && y < x+uintptr(len(a))
}

// P13.1, P13.2: what is handed in stays as it is, spare room included.
func TestHandedInStays(t *testing.T) {
	fields := []api.Header{{Name: "host", Value: "x"}, {Name: "last-event-id", Value: "7"}, {Name: "Spare", Value: " "}, {Name: "Spare", Value: " "}}
	heads := []api.Head{{First: "GET /a HTTP/1.1", Fields: fields[:2]}, {First: "POST /a HTTP/1.0", Fields: fields[1:1]}, {First: "spare"}, {First: "spare"}}
	path, query := []string{"a", "b", "spare"}, []api.Pair{{Key: "k"}, {Key: "spare"}}
	wantFields, wantPath, wantQuery := slices.Clone(fields), slices.Clone(path), slices.Clone(query)
	r := api.Request{Target: api.Target{Path: path[:2], Query: query[:1]}}
	for _, h := range heads[:2] {
		request.Status(h)
		request.Of(h)
	}
	gone(request.Each(heads[:2]...), most)
	request.Same(r, r)
	if !slices.Equal(fields, wantFields) || !slices.Equal(path, wantPath) || !slices.Equal(query, wantQuery) {
		t.Errorf("%q %q %q", fields, path, query)
	}
	if heads[2].First != "spare" || heads[3].First != "spare" || len(heads[0].Fields) != 2 || len(heads[1].Fields) != 0 {
		t.Errorf("%q", heads)
	}
}

// P13.1, P13.2: what is told is kept apart from what was handed in, and from what is told again.
func TestApart(t *testing.T) {
	h := cloned(headOf("GET /part/plain?key=value&other=thing HTTP/1.1", "host: x", "last-event-id: seven"))
	texts := []string{h.First, h.Fields[1].Value}
	first, _, _ := request.Of(h)
	second, _, _ := request.Of(h)
	for _, r := range []api.Request{first, second} {
		texts = append(append(texts, r.Method, r.LastId), r.Target.Path...)
		for _, pair := range r.Target.Query {
			texts = append(texts, pair.Key, pair.Val)
		}
	}
	path, id := strings.Clone("/path"), strings.Clone("an id")
	one, _ := request.Encode(path, id)
	other, _ := request.Encode(path, id)
	texts = append(texts, path, id, one.First, one.Fields[2].Value, other.First, other.Fields[2].Value)
	for at, text := range texts {
		for _, another := range texts[at+1:] {
			if shares(text, another) {
				t.Errorf("%q and %q share memory", text, another)
			}
		}
	}
	want := api.Request{Method: "GET", Target: api.Target{Path: []string{"part", "plain"}, Query: []api.Pair{{Key: "key", Val: "value"}, {Key: "other", Val: "thing"}}}, Has: true, LastId: "seven"}
	first.Target.Path[0], first.Target.Query[0] = "changed", api.Pair{}
	_, _ = append(first.Target.Path, "more"), append(first.Target.Query, api.Pair{Key: "more"})
	if !same(second, want) {
		t.Errorf("%s; want %s", shown(second), shown(want))
	}
	wantRequest(t, h, want)
	one.Fields[0], one.Fields[1], one.Fields[2] = api.Header{}, api.Header{}, api.Header{}
	_ = append(one.Fields, api.Header{Name: "more"})
	if !sameHead(other, asking(path, id)) {
		t.Errorf("%s; want %s", shown(other), shown(asking(path, id)))
	}
	wantEncode(t, path, id, api.OK)
}

// P13.1: a request is told of a head as it is then.
func TestAsItIsThen(t *testing.T) {
	h := getOf("last-event-id: 7")
	r, _, _ := request.Of(h)
	h.Fields[0], h.Fields[1] = api.Header{Name: "a", Value: "b"}, api.Header{Name: "last-event-id", Value: "8"}
	if want := (api.Request{Method: "GET", Target: to("a"), Has: true, LastId: "7"}); !same(r, want) {
		t.Errorf("%s; want %s", shown(r), shown(want))
	}
	wantStatus(t, h, 400)
}

// kept is how much memory is, when all that is not needed has gone.
func kept() int {
	var m runtime.MemStats
	runtime.GC()
	runtime.ReadMemStats(&m)
	return int(m.HeapAlloc)
}

// P13.1: a request holds on to no long head.
func TestKept(t *testing.T) {
	const count, size, bound = 16, 1 << 20, 1 << 22
	before := kept()
	var l []api.Request
	for range count {
		h := getOf("last-event-id: 7", "a: "+strings.Repeat("y", size))
		h.First = "GET /a?" + strings.Repeat("&", size) + " HTTP/1.1"
		r, _, _ := request.Of(h)
		l = append(l, r)
	}
	if after := kept(); after-before > bound {
		t.Errorf("%d bytes are kept of short requests", after-before)
	}
	if len(l) != count || !same(l[0], api.Request{Method: "GET", Target: to("a"), Has: true, LastId: "7"}) {
		t.Errorf("%d: %s", len(l), shown(l))
	}
}

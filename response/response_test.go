package response_test

import (
	"bytes"
	"fmt"
	"iter"
	"math"
	"math/big"
	"regexp"
	"runtime"
	"slices"
	"strings"
	"testing"
	"unsafe"

	"bellman/api"
	"bellman/head"
	"bellman/response"
)

// most is more than there ever is.
const most = math.MaxInt

// full is the greatest number.
const full = math.MaxUint64

// single is a text of one byte.
func single(b int) string { return string([]byte{byte(b)}) }

// headOf writes a head short: fields are a name, a colon, a blank, and a value.
func headOf(first string, fields ...string) api.Head {
	h := api.Head{First: first}
	for _, one := range fields {
		name, value, _ := strings.Cut(one, ": ")
		h.Fields = append(h.Fields, api.Header{Name: name, Value: value})
	}
	return h
}

// okOf is a head of the status 200 with fields.
func okOf(fields ...string) api.Head { return headOf("HTTP/1.1 200 OK", fields...) }

// fieldsOf are fields of a name.
func fieldsOf(name string, values ...string) []string {
	var fields []string
	for _, value := range values {
		fields = append(fields, name+": "+value)
	}
	return fields
}

// cloned is a head in memory of its own.
func cloned(h api.Head) api.Head {
	other := api.Head{First: strings.Clone(h.First)}
	for _, f := range h.Fields {
		other.Fields = append(other.Fields, api.Header{Name: strings.Clone(f.Name), Value: strings.Clone(f.Value)})
	}
	return other
}

// sameHead tells whether two heads are the same.
func sameHead(a, b api.Head) bool { return a.First == b.First && slices.Equal(a.Fields, b.Fields) }

// shown is a thing as a message shows it: no more of it than is read.
func shown(thing any) string { return fmt.Sprintf("%.300q", fmt.Sprintf("%+v", thing)) }

// Forms of the chapter's words, and of layer 9's and layer 10's.
var (
	lineForm   = regexp.MustCompile(`^HTTP/1\.[01] ([1-5][0-9][0-9])(?: .*)?$`)
	kindForm   = regexp.MustCompile(`^[\t ]*(?i:text/event-stream)[\t ]*(?:;.*)?$`)
	codedForm  = regexp.MustCompile(`^[\t ,]*(?i:chunked)[\t ,]*$`)
	digitsForm = regexp.MustCompile(`^[0-9]+$`)
	firstForm  = regexp.MustCompile(`^[\t!-~\x{80}-\x{ff}][\t -~\x{80}-\x{ff}]*$`)
	nameForm   = regexp.MustCompile(`^[!#$%&'*+.^_` + "`" + `|~0-9a-z-]+$`)
	valueForm  = regexp.MustCompile(`^(?:|[!-~\x{80}-\x{ff}](?:[\t -~\x{80}-\x{ff}]*[!-~\x{80}-\x{ff}])?)$`)
)

// points are bytes, each written as the point of its number: forms are held against these.
func points(s string) string {
	var l []rune
	for _, b := range []byte(s) {
		l = append(l, rune(b))
	}
	return string(l)
}

// mayBe tells whether a head may be, by layer 10's words.
func mayBe(h api.Head) bool {
	for _, f := range h.Fields {
		if !nameForm.MatchString(points(f.Name)) || !valueForm.MatchString(points(f.Value)) {
			return false
		}
	}
	return firstForm.MatchString(points(h.First))
}

// valuesOf are the values of a head's fields of a name.
func valuesOf(h api.Head, name string) []string {
	var l []string
	for _, f := range h.Fields {
		if f.Name == name {
			l = append(l, f.Value)
		}
	}
	return l
}

// numberByWords is the number of digits, and whether a text is such.
func numberByWords(text string) (uint64, bool) {
	if !digitsForm.MatchString(text) {
		return 0, false
	}
	n, is := new(big.Int).SetString(text, 10)
	return n.Uint64(), is && n.IsUint64()
}

// byWords is a head's reply, by the chapter's words, or the error.
func byWords(h api.Head) (api.Reply, api.Errno) {
	if !mayBe(h) {
		return api.Reply{}, api.ErrArg
	}
	line := lineForm.FindStringSubmatch(points(h.First))
	kinds, codes, lengths := valuesOf(h, "content-type"), valuesOf(h, "transfer-encoding"), valuesOf(h, "content-length")
	if line == nil || len(codes) > 0 && len(lengths) > 0 || len(lengths) > 1 {
		return api.Reply{}, api.ErrReply
	}
	if len(codes) > 0 && !codedForm.MatchString(points(strings.Join(codes, ","))) {
		return api.Reply{}, api.ErrReply
	}
	status, _ := numberByWords(line[1])
	r := api.Reply{Status: int(status), Chunked: len(codes) > 0, Event: len(kinds) == 1 && kindForm.MatchString(points(kinds[0]))}
	if len(lengths) == 1 {
		if r.Length, r.Sized = numberByWords(lengths[0]); !r.Sized {
			return api.Reply{}, api.ErrReply
		}
	}
	return r, api.OK
}

// todoByWords is what is to be done with a reply, by the chapter's words.
func todoByWords(r api.Reply) api.Todo {
	switch {
	case r.Status <= 99, r.Status >= 600:
		return 0
	case r.Status == 200 && r.Event:
		return 1
	case r.Status == 204:
		return 2
	}
	return 3
}

// numbered is what is to be done, with its number.
type numbered struct {
	number int
	todo   api.Todo
}

// gone goes over at most so many, leaves then, and is what it went over.
func gone(seq iter.Seq2[int, api.Todo], most int) []numbered {
	var l []numbered
	if most == 0 {
		return l
	}
	for number, todo := range seq {
		l = append(l, numbered{number, todo})
		if len(l) == most {
			break
		}
	}
	return l
}

// wantTold holds all that is told of a head against a reply, or an error.
func wantTold(t testing.TB, h api.Head, r api.Reply, no api.Errno) {
	t.Helper()
	given := cloned(h)
	if got, e := response.Of(h); got != r || e != no {
		t.Errorf("Of(%s): %+v, errno %d; want %+v, errno %d", shown(h), got, int(e), r, int(no))
	}
	todo := todoByWords(r)
	if got := response.What(r); got != todo {
		t.Errorf("What(%+v): %d; want %d", r, got, todo)
	}
	if got := gone(response.Each(h), most); !slices.Equal(got, []numbered{{0, todo}}) {
		t.Errorf("Each(%s): %v; want %d", shown(h), got, todo)
	}
	if !sameHead(h, given) {
		t.Errorf("%s was handed in; it is %s now", shown(given), shown(h))
	}
}

// wantWords holds all that is told of a head against the chapter's words, and is what these tell.
func wantWords(t testing.TB, h api.Head) (api.Reply, api.Errno) {
	t.Helper()
	r, no := byWords(h)
	wantTold(t, h, r, no)
	return r, no
}

// wantReply holds a head of a reply against what is written down, and the chapter's words.
func wantReply(t testing.TB, h api.Head, want api.Reply) {
	t.Helper()
	if r, no := wantWords(t, h); r != want || no != api.OK {
		t.Errorf("%s: by the chapter's words %+v, errno %d; want %+v", shown(h), r, int(no), want)
	}
}

// wantNone holds a head of no reply against the error that is written down, and the chapter's words.
func wantNone(t testing.TB, h api.Head, want api.Errno) {
	t.Helper()
	if r, no := wantWords(t, h); no != want {
		t.Errorf("%s: by the chapter's words %+v, errno %d; want errno %d", shown(h), r, int(no), int(want))
	}
}

// wantTodo holds what is to be done of a head against what is written down.
func wantTodo(t testing.TB, h api.Head, want api.Todo) {
	t.Helper()
	r, _ := response.Of(h)
	if got := response.What(r); got != want {
		t.Errorf("%s: %d is to be done; want %d", shown(h), got, want)
	}
	if got := gone(response.Each(h), most); !slices.Equal(got, []numbered{{0, want}}) {
		t.Errorf("Each(%s): %v; want %d", shown(h), got, want)
	}
}

// P15.1: the chapter's examples.
func TestExamples(t *testing.T) {
	h := okOf("content-type: Text/Event-Stream; charset=utf-8", "transfer-encoding: chunked")
	wantReply(t, h, api.Reply{Status: 200, Event: true, Chunked: true})
	wantTodo(t, h, api.TodoStream)
	wantReply(t, headOf("HTTP/1.0 204"), api.Reply{Status: 204})
	wantTodo(t, headOf("HTTP/1.0 204"), api.TodoStop)
	wantReply(t, okOf(), api.Reply{Status: 200})
	wantTodo(t, okOf(), api.TodoAgain)
	wantNone(t, headOf("HTTP/1.1 20 OK"), api.ErrReply)
	wantTodo(t, headOf("HTTP/1.1 20 OK"), api.TodoNone)
	h = okOf("content-length: 5", "transfer-encoding: chunked")
	wantNone(t, h, api.ErrReply)
	wantTodo(t, h, api.TodoNone)
	if api.ErrReply != 250 || api.TodoNone != 0 || api.TodoStream != 1 || api.TodoStop != 2 || api.TodoAgain != 3 {
		t.Errorf("%d %d %d %d %d", int(api.ErrReply), api.TodoNone, api.TodoStream, api.TodoStop, api.TodoAgain)
	}
}

// P15.1: each three digits, of both versions, with each end of the line.
func TestStatuses(t *testing.T) {
	counts := make(map[bool]int)
	for n := range 1000 {
		code := fmt.Sprintf("%03d", n)
		for _, first := range []string{"HTTP/1.1 " + code, "HTTP/1.0 " + code, "HTTP/1.1 " + code + " ", "HTTP/1.0 " + code + " x"} {
			is := 100 <= n && n <= 599
			counts[is]++
			if !is {
				wantNone(t, headOf(first), api.ErrReply)
				wantNone(t, headOf(first, "content-type: text/event-stream"), api.ErrReply)
				continue
			}
			wantReply(t, headOf(first), api.Reply{Status: n})
			wantReply(t, headOf(first, "content-type: text/event-stream"), api.Reply{Status: n, Event: true})
			plain, event := api.TodoAgain, api.TodoAgain
			switch n {
			case 200:
				event = api.TodoStream
			case 204:
				plain, event = api.TodoStop, api.TodoStop
			}
			wantTodo(t, headOf(first), plain)
			wantTodo(t, headOf(first, "content-type: text/event-stream"), event)
		}
	}
	if counts[true] != 2000 || counts[false] != 2000 {
		t.Errorf("%v", counts)
	}
}

// P15.1: what is no Status: of other lengths, with signs and letters, with digits that are none of a byte.
func TestNoStatuses(t *testing.T) {
	for _, code := range []string{
		"", "2", "9", "20", "04", "00", "99", "59", "0200", "2000", "2004", "1000", "5999", "00200", "20000", "200200", "18446744073709551816", "18446744073709551616", strings.Repeat("2", 9999), strings.Repeat("0", 9999) + "200",
		"099", "600", "000", "010", "001", "601", "699", "700", "800", "900", "999", "020", "059",
		"+20", "-20", "+200", "-200", "20+", "2+0", "+2", "-00", "200-", "--0",
		"2O0", "2oo", "20x", "x00", "2x0", "abc", "OK", "0x2", "0xc8", "c80", "1e2", "2e2", "2.0", "20.", ".20", "200.", "200.0", "2_0", "2,0", "200,", "200;", "200:", "(200", "\"200\"",
		"20\u0660", "\u0662\u0660\u0660", "\uff12\uff10\uff10", "\u00b2", "\xb2\xb0\xb0", "20\xff", "\xff\xff\xff", "20\u00e9", "2\u00b2", "200\u00a0", "200\u00a0OK", "\u00a0200", "20\t", "\t200", "200\t", "200\tOK", "2\t0", "200OK", "OK200",
	} {
		for _, first := range []string{"HTTP/1.1 " + code, "HTTP/1.0 " + code + " OK", "HTTP/1.1 " + code + " ", "HTTP/1.1 " + code + " 200", "HTTP/1.0 " + code + "\t", "HTTP/1.1 " + code + "\t200"} {
			wantNone(t, headOf(first), api.ErrReply)
			wantNone(t, headOf(first, "content-type: text/event-stream", "transfer-encoding: chunked"), api.ErrReply)
			wantNone(t, headOf(first, "content-length: 5"), api.ErrReply)
		}
	}
	for one := range 256 {
		for _, code := range []string{single(one) + "00", "2" + single(one) + "0", "20" + single(one)} {
			r, no := wantWords(t, headOf("HTTP/1.1 "+code+" OK"))
			if is := '0' <= one && one <= '9'; is && r.Status < 100 && no == api.OK || !is && no == api.OK {
				t.Errorf("%q: %+v", code, r)
			}
		}
	}
}

// P15.1: the versions, and what is none.
func TestVersions(t *testing.T) {
	for one := range 10 {
		for other := range 10 {
			first := fmt.Sprintf("HTTP/%d.%d 200 OK", one, other)
			if one == 1 && other <= 1 {
				wantReply(t, headOf(first), api.Reply{Status: 200})
			} else {
				wantNone(t, headOf(first), api.ErrReply)
			}
		}
	}
	for _, version := range []string{
		"HTTP", "HTTP/", "HTTP/1", "HTTP/1.", "HTTP/.1", "HTTP/11", "HTTP/1.10", "HTTP/1.00", "HTTP/1.01", "HTTP/01.1", "HTTP/11.1", "HTTP/1.1.1", "HTTP/1,1", "HTTP/1:1", "HTTP/1x1", "HTTP/1\xff1", "HTTP/-1.1", "HTTP/+1.1", "HTTP/1.+1", "HTTP/2", "HTTP/3",
		"http/1.1", "Http/1.1", "HTTp/1.1", "hTTP/1.0", "http/1.0", "HTTPS/1.1", "HTT/1.1", "XHTTP/1.1", "/1.1", "1.1", "HTTP1.1", "HTTP-1.1", "HTTP\\1.1", "HTTP//1.1", "HTTP/1.1x", "HTTP/1.0x", "HTTP/1.1,", "HTTP/1.1\t", "\tHTTP/1.1", "HTTP/1.1HTTP/1.1",
		"HTTP/1.\u0661", "HTTP/\uff11.\uff11", "\u0397TTP/1.1", "HTTP/1\u00b71", "HTTP/1.1\u00a0", "ICY", "SSE/1.1", "*", "200", "GET", "x",
	} {
		for _, behind := range []string{" 200 OK", " 200", " 204", " 200 ", ""} {
			wantNone(t, headOf(version+behind), api.ErrReply)
			wantNone(t, headOf(version+behind, "content-type: text/event-stream"), api.ErrReply)
		}
	}
}

// P15.1: first lines that end behind the digits, behind a blank, with a text; blanks elsewhere, more of them, none.
func TestFirstLines(t *testing.T) {
	for _, behind := range []string{
		"", " ", "  ", "   ", " OK", "  OK", " OK ", " Not Modified", " x", " 404", " 204", " 200 OK", " HTTP/1.1 500", " \t", " \tOK", " OK\t", " ,", " ;", " :", " \"", " \\", " \u00e9", " \u00a0", " \xff", " \x80\x81", " \uFFFD",
		" content-length: 5", " transfer-encoding: gzip", " text/event-stream", " chunked", " " + strings.Repeat("x", 99999), strings.Repeat(" ", 99999),
	} {
		for _, version := range []string{"HTTP/1.1", "HTTP/1.0"} {
			wantReply(t, headOf(version+" 200"+behind), api.Reply{Status: 200})
			wantReply(t, headOf(version+" 503"+behind, "content-type: text/event-stream"), api.Reply{Status: 503, Event: true})
			wantReply(t, headOf(version+" 100"+behind, "content-length: 5"), api.Reply{Status: 100, Sized: true, Length: 5})
			wantReply(t, headOf(version+" 599"+behind, "transfer-encoding: chunked"), api.Reply{Status: 599, Chunked: true})
			wantNone(t, headOf(version+" 600"+behind), api.ErrReply)
			wantNone(t, headOf(version+" 20"+behind), api.ErrReply)
			wantNone(t, headOf(version+" 2000"+behind), api.ErrReply)
		}
	}
	for _, first := range []string{
		"HTTP/1.1", "HTTP/1.1 ", "HTTP/1.1  ", "HTTP/1.1200", "HTTP/1.1200 OK", "HTTP/1.1  200", "HTTP/1.1  200 OK", "HTTP/1.1   200 OK", "HTTP/1.1\t200 OK", "HTTP/1.1\t200\tOK", "HTTP/1.1 \t200 OK", "HTTP/1.1\t 200 OK", "\tHTTP/1.1 200 OK",
		"HTTP/1.1 2 00", "HTTP/1.1 20 0", "HTTP/1.1 2 0 0", "HTTP/1.1 OK 200", "HTTP/1.1 OK", "200 OK HTTP/1.1", "200 HTTP/1.1 OK", "200 OK", "200", "OK", "x HTTP/1.1 200 OK", "HTTP/1.1 HTTP/1.1 200 OK", "HTTP/1.1 x 200", "HTTP/1.1,200,OK", "HTTP /1.1 200 OK",
		"GET / HTTP/1.1", "GET /a HTTP/1.0", "HTTP/1.1 /a GET", "\xff", "x",
	} {
		wantNone(t, headOf(first), api.ErrReply)
		wantNone(t, headOf(first, "content-type: text/event-stream"), api.ErrReply)
	}
}

// P15.1: each byte in the place of each one, and ahead of each one, of first lines; and each one left out.
func TestFirstBytes(t *testing.T) {
	counts := make(map[api.Errno]int)
	for _, first := range []string{"HTTP/1.1 200 OK", "HTTP/1.0 204", "HTTP/1.1 599 ", "HTTP/1.0 100 \xff x"} {
		for b := range 256 {
			for place := range len(first) + 1 {
				lines := []string{first[:place] + single(b) + first[place:]}
				if place < len(first) {
					lines = append(lines, first[:place]+single(b)+first[place+1:], first[:place]+first[place+1:])
				}
				for _, line := range lines {
					_, no := wantWords(t, headOf(line, "content-type: text/event-stream"))
					counts[no]++
				}
			}
		}
	}
	for _, no := range []api.Errno{api.OK, api.ErrArg, api.ErrReply} {
		if counts[no] < 100 {
			t.Errorf("errno %d: %d", int(no), counts[no])
		}
	}
}

// wantEvent holds heads with fields content-type against whether they are of an event stream.
func wantEvent(t testing.TB, event bool, values ...string) {
	t.Helper()
	fields := fieldsOf("content-type", values...)
	wantReply(t, okOf(fields...), api.Reply{Status: 200, Event: event})
	wantReply(t, headOf("HTTP/1.0 204", fields...), api.Reply{Status: 204, Event: event})
	wantReply(t, headOf("HTTP/1.1 404 x", append([]string{"a: text/event-stream"}, fields...)...), api.Reply{Status: 404, Event: event})
	wantReply(t, okOf(append(slices.Clone(fields), "transfer-encoding: chunked")...), api.Reply{Status: 200, Event: event, Chunked: true})
	wantReply(t, okOf(append([]string{"content-length: 7"}, fields...)...), api.Reply{Status: 200, Event: event, Sized: true, Length: 7})
	todo := api.TodoAgain
	if event {
		todo = api.TodoStream
	}
	wantTodo(t, okOf(fields...), todo)
	wantTodo(t, headOf("HTTP/1.1 204", fields...), api.TodoStop)
	wantTodo(t, headOf("HTTP/1.1 201", fields...), api.TodoAgain)
}

// P15.1: fields content-type: none, one, two; with letters of both sizes, with what stands behind a ;, with quoted texts.
func TestContentType(t *testing.T) {
	wantEvent(t, false)
	for _, value := range []string{
		"text/event-stream", "Text/Event-Stream", "TEXT/EVENT-STREAM", "tEXT/eVENT-sTREAM", "text/event-streaM", "text/event-stream;", "text/event-stream ;", "text/event-stream\t;", "text/event-stream \t ; x", "text/event-stream;;", "text/event-stream;charset=utf-8",
		"text/event-stream; charset=utf-8", "text/event-stream; charset=\"utf-8\"", "Text/Event-Stream;x=\";\"", "text/event-stream;x=\";", "text/event-stream;\"", "text/event-stream;text/html", "text/event-stream;,", "text/event-stream; a, b", "text/event-stream;\xff",
		"text/event-stream;text/event-stream", "text/event-stream; " + strings.Repeat("x;", 9999) + "x",
	} {
		wantEvent(t, true, value)
		for _, other := range []string{value, "", "text/html", "text/event-stream"} {
			wantEvent(t, false, value, other)
			wantEvent(t, false, other, value)
			wantEvent(t, false, other, value, other)
		}
	}
	for _, value := range []string{
		"", ";", ";text/event-stream", "; text/event-stream", ";;text/event-stream", "x;text/event-stream", "text/html", "text/plain; text/event-stream", "text", "text/", "/event-stream", "event-stream", "text/event", "text/event-strea", "ext/event-stream", "text/event-streams",
		"xtext/event-stream", "text/event_stream", "text/eventstream", "text/event-stream/", "text//event-stream", "text/ event-stream", "text /event-stream", "text / event-stream", "text/event -stream", "text/event-stream x", "x text/event-stream", "text/event-stream,",
		",text/event-stream", "text/event-stream,text/event-stream", "text/event-stream, text/html", "text/event-stream,;", "text/*", "*/*", "text/event-stream+x", "text\\event-stream", "event-stream/text", "text/event-stream.", "text/event-stream=x", "text/event-stream:", "(x)text/event-stream",
		"\"text/event-stream\"", "\"text/event-stream\";", "\"text/event-stream;", "\"text/event-stream;\"", "text/event-stream\"", "text/event-stream\";", "text/event-stream\";\"", "text/event-stream\"x;y\";z", "text/event-stream\"\";x", "\"\"text/event-stream", "\"x;\"text/event-stream;", "\\text/event-stream",
		"te\u017ft/event-stream", "text/event-\u017ftream", "\u0442ext/event-stream", "text/event-stream\u00a0", "\u00a0text/event-stream", "text/event-stream\u00a0;", "text/event-stream\xff", "\xfftext/event-stream", "text/event\u2010stream", "text/event-stre\u00e4m", "text\uff0fevent-stream", "application/x-ndjson", "\xff",
		"text/event-stream" + strings.Repeat("m", 9999), strings.Repeat("x;", 9999) + "text/event-stream",
	} {
		wantEvent(t, false, value)
		wantEvent(t, false, value, value)
		wantEvent(t, false, value, "text/event-stream")
		wantEvent(t, false, "text/event-stream", value)
	}
	wantReply(t, okOf("content-types: text/event-stream", "x-content-type: text/event-stream", "content: text/event-stream", "type: text/event-stream", "contenttype: text/event-stream", "accept: text/event-stream", "content_type: text/event-stream"), api.Reply{Status: 200})
	wantReply(t, okOf("content-types: text/html", "x-content-type: text/html", "content-type: text/event-stream", "accept: text/html", "content-encoding: gzip"), api.Reply{Status: 200, Event: true})
}

// P15.1: each byte in the place of each one, and ahead of each one, of types; and each one left out.
func TestTypeBytes(t *testing.T) {
	counts := make(map[api.Reply]int)
	for _, value := range []string{"text/event-stream", "Text/Event-Stream ; x=\";\""} {
		for b := range 256 {
			for place := range len(value) + 1 {
				values := []string{value[:place] + single(b) + value[place:]}
				if place < len(value) {
					values = append(values, value[:place]+single(b)+value[place+1:], value[:place]+value[place+1:])
				}
				for _, one := range values {
					r, _ := wantWords(t, okOf("content-type: "+one))
					counts[r]++
				}
			}
		}
	}
	for _, r := range []api.Reply{{}, {Status: 200}, {Status: 200, Event: true}} {
		if counts[r] < 100 {
			t.Errorf("%+v: %d", r, counts[r])
		}
	}
}

// wantCoded holds heads with fields transfer-encoding against whether they are chunked; if they are not, they are of no reply.
func wantCoded(t testing.TB, coded bool, values ...string) {
	t.Helper()
	fields := fieldsOf("transfer-encoding", values...)
	event := append([]string{"content-type: text/event-stream"}, fields...)
	for status, first := range map[int]string{200: "HTTP/1.1 200 OK", 204: "HTTP/1.0 204", 502: "HTTP/1.1 502 "} {
		if coded {
			wantReply(t, headOf(first, fields...), api.Reply{Status: status, Chunked: true})
			wantReply(t, headOf(first, event...), api.Reply{Status: status, Event: true, Chunked: true})
		} else {
			wantNone(t, headOf(first, fields...), api.ErrReply)
			wantNone(t, headOf(first, event...), api.ErrReply)
		}
		for _, length := range []string{"0", "5", "", "x"} {
			field := "content-length: " + length
			wantNone(t, headOf(first, append(slices.Clone(fields), field)...), api.ErrReply)
			wantNone(t, headOf(first, append([]string{field}, event...)...), api.ErrReply)
		}
	}
}

// P15.1: fields transfer-encoding: none, one, several; chunked in whatever letters, chunked twice, other ones, empty ones.
func TestTransferEncoding(t *testing.T) {
	wantReply(t, okOf(), api.Reply{Status: 200})
	for _, value := range []string{"chunked", "Chunked", "CHUNKED", "cHUNKEd", "chunkeD", ",chunked", "chunked,", ", ,chunked\t, ,", ",,,chunked,,,", ", \tchunked", "chunked \t,"} {
		wantCoded(t, true, value)
		for _, other := range []string{"", ",", ",,", ", ,\t,"} {
			wantCoded(t, true, value, other)
			wantCoded(t, true, other, value)
			wantCoded(t, true, other, value, other, other)
		}
		for _, other := range []string{value, "chunked", "CHUNKED", "gzip", "identity", "x", "\"\""} {
			wantCoded(t, false, value, other)
			wantCoded(t, false, other, value)
			wantCoded(t, false, "", other, "", value, ",")
		}
	}
	for _, value := range []string{
		"", ",", ",,", ", ,\t,", "gzip", "deflate", "identity", "x", "0", "chunked, chunked", "chunked,chunked", "Chunked , CHUNKED", ",chunked,,chunked,", "gzip, chunked", "chunked, gzip", "chunked,identity", "chunk", "chunke", "hunked", "chunkedd", "chunked-", "-chunked", "un-chunked",
		"chunked;", "chunked;q=1", "chunked; x", ";chunked", "chunked chunked", "chunked x", "x chunked", "chun ked", "chun,ked", "\"chunked\"", "\"chunked", "chunked\"", "\\chunked", "'chunked'", "chunked.", "chunked:", "chunked=1",
		"chun\u212aed", "\u0441hunked", "chunked\u00a0", "\u00a0chunked", "chunked\xff", "\xffchunked", "\u00e9", strings.Repeat("chunked", 999), strings.Repeat("chunked,", 999), strings.Repeat(",", 9999), "chunked" + strings.Repeat("d", 9999),
	} {
		wantCoded(t, false, value)
		wantCoded(t, false, value, value)
		wantCoded(t, false, value, "gzip")
	}
	wantCoded(t, false, "chun", "ked")
	wantCoded(t, false, "", "")
	wantCoded(t, true, strings.Repeat(",", 9999)+"chunked"+strings.Repeat(" ,", 9999))
	for b := range 256 {
		for _, value := range []string{"chun" + single(b) + "ked", "chun" + single(b) + "ed", single(b) + "chunked", "chunked" + single(b), single(b) + ",chunked", "chunked," + single(b), "," + single(b) + "chunked" + single(b) + ","} {
			wantWords(t, okOf("transfer-encoding: "+value))
		}
	}
	wantReply(t, okOf("transfer-encodings: x", "x-transfer-encoding: x", "transfer: chunked", "encoding: chunked", "te: chunked", "content-encoding: chunked", "transfer_encoding: chunked", "connection: chunked"), api.Reply{Status: 200})
	wantReply(t, okOf("transfer-encodings: x", "transfer-encoding: chunked", "te: gzip", "content-encoding: gzip"), api.Reply{Status: 200, Chunked: true})
}

// wantSized holds heads with fields content-length that have a Length against it.
func wantSized(t testing.TB, length uint64, values ...string) {
	t.Helper()
	fields := fieldsOf("content-length", values...)
	wantReply(t, okOf(fields...), api.Reply{Status: 200, Sized: true, Length: length})
	wantReply(t, headOf("HTTP/1.0 204", append([]string{"a: 1"}, fields...)...), api.Reply{Status: 204, Sized: true, Length: length})
	wantReply(t, headOf("HTTP/1.1 500", append(slices.Clone(fields), "content-type: text/event-stream")...), api.Reply{Status: 500, Event: true, Sized: true, Length: length})
	wantNoLength(t, append(slices.Clone(values), "transfer-encoding: chunked")...)
}

// wantNoLength holds heads with fields content-length, and perhaps others that are written whole, that are of no reply.
func wantNoLength(t testing.TB, values ...string) {
	t.Helper()
	var fields []string
	for _, value := range values {
		if !strings.HasPrefix(value, "transfer-encoding: ") {
			value = "content-length: " + value
		}
		fields = append(fields, value)
	}
	wantNone(t, okOf(fields...), api.ErrReply)
	wantNone(t, headOf("HTTP/1.0 204", append([]string{"a: 1"}, fields...)...), api.ErrReply)
	slices.Reverse(fields)
	wantNone(t, headOf("HTTP/1.1 500", append(fields, "content-type: text/event-stream")...), api.ErrReply)
}

// P15.1: fields content-length: none, one, two; the greatest number and the one above it, noughts ahead, an empty one, what is no number.
func TestContentLength(t *testing.T) {
	for value, length := range map[string]uint64{
		"0": 0, "1": 1, "5": 5, "9": 9, "10": 10, "255": 255, "256": 256, "65536": 65536, "4294967295": 1<<32 - 1, "4294967296": 1 << 32, "9223372036854775807": 1<<63 - 1, "9223372036854775808": 1 << 63, "18446744073709551614": full - 1, "18446744073709551615": full,
		"00": 0, "000": 0, "05": 5, "007": 7, "0010": 10, "018446744073709551615": full, "00000000000000000000000000005": 5, strings.Repeat("0", 9999): 0, strings.Repeat("0", 9999) + "18446744073709551615": full,
	} {
		wantSized(t, length, value)
		for _, other := range []string{value, "0", "5", "", "x"} {
			wantNoLength(t, value, other)
			wantNoLength(t, other, value)
			wantNoLength(t, value, other, value)
		}
	}
	for _, value := range []string{
		"", "18446744073709551616", "18446744073709551617", "18446744073709551625", "18446744073709551620", "28446744073709551615", "99999999999999999999", "018446744073709551616", "184467440737095516150", "36893488147419103232", "340282366920938463463374607431768211456", strings.Repeat("9", 9999), "1" + strings.Repeat("0", 9999),
		"+5", "-5", "-0", "+0", "5.0", "5.", ".5", "0x5", "5x", "x5", "x", "a", "5a", "1e1", "5 5", "5\t5", "5, 5", "5,5", "5,", ",5", ",", "5;", "5;x", "\"5\"", "'5'", "five", "5_0", "1_000", "1,000", "NaN", "#5", "5/6", "0-4", "bytes 5", "5 bytes",
		"\u0665", "\uff15", "\u00b2", "\xb2", "5\u00a0", "\u00a05", "5\xff", "\xff5", "5\u0660", "\u00e9",
	} {
		wantNoLength(t, value)
		wantNoLength(t, value, value)
		wantNoLength(t, value, "5")
		wantNoLength(t, "5", value)
	}
	for b := range 256 {
		for _, value := range []string{single(b), "5" + single(b), single(b) + "5", "5" + single(b) + "5"} {
			wantWords(t, okOf("content-length: "+value))
			wantWords(t, okOf("content-length: "+value, "content-length: 5"))
		}
	}
	for n := uint64(1); n != 0; n *= 2 {
		for _, one := range []uint64{n - 1, n, n + 1} {
			wantSized(t, one, fmt.Sprint(one))
		}
	}
	wantReply(t, okOf("content-lengths: x", "length: x", "x-content-length: x", "content: x", "content_length: x", "contentlength: 5"), api.Reply{Status: 200})
	wantReply(t, okOf("content-lengths: 6", "content-length: 5", "x-content-length: 7", "content-range: 8"), api.Reply{Status: 200, Sized: true, Length: 5})
}

// P15.1: a head that may not be is ErrArg, also if it is no reply's for other reasons.
func TestArg(t *testing.T) {
	for _, first := range []string{"HTTP/1.1 200 OK", "HTTP/1.0 204", "HTTP/1.1 20 OK", "HTTP/2.0 200 OK", "x"} {
		for _, fields := range [][]string{nil, {"content-type: text/event-stream"}, {"content-length: x"}, {"content-length: 5", "transfer-encoding: chunked"}, {"transfer-encoding: gzip"}} {
			for _, odd := range []string{"A: b", ": b", "a b: c", "a:  b", "a: b\t", "a: b\x00", "a: \x7f", "a: b\r\n", "a\x80: b", "Content-Type: text/event-stream", "Content-Length: 5", "Transfer-Encoding: chunked", "content-type:  text/event-stream", "content-type: text/event-stream ", "content-length: 5 ", "transfer-encoding: \tchunked", "content-length: 5\n"} {
				wantNone(t, headOf(first, append(slices.Clone(fields), odd)...), api.ErrArg)
				wantNone(t, headOf(first, append([]string{odd}, fields...)...), api.ErrArg)
			}
			for _, ahead := range []string{" ", "\x00", "\n", "\r", "\x7f", "\x1f"} {
				wantNone(t, headOf(ahead+first, fields...), api.ErrArg)
			}
			for _, behind := range []string{"\x00", "\n", "\r", "\r\n", "\x7f", "\x1f", " \n"} {
				wantNone(t, headOf(first+behind, fields...), api.ErrArg)
			}
			wantNone(t, headOf("", fields...), api.ErrArg)
			wantNone(t, headOf(" ", fields...), api.ErrArg)
		}
	}
	wantNone(t, api.Head{}, api.ErrArg)
	wantNone(t, api.Head{Fields: []api.Header{{}}}, api.ErrArg)
	wantReply(t, api.Head{First: "HTTP/1.1 200", Fields: []api.Header{}}, api.Reply{Status: 200})
}

// P15.1, P15.3: all that a head may have, together with each other thing.
func TestGrid(t *testing.T) {
	firsts := []string{"HTTP/1.1 200 OK", "HTTP/1.0 200", "HTTP/1.1 204 ", "HTTP/1.0 100 x", "HTTP/1.1 599", "HTTP/1.1 600 OK", "HTTP/1.0 099", "HTTP/1.1 20", "HTTP/1.1 2000", "HTTP/1.2 200", "x", ""}
	pieces := [][][]string{
		{nil, {"a: b"}, {"A: b"}},
		{nil, {"content-type: text/event-stream"}, {"content-type: Text/Event-Stream;x=\";\""}, {"content-type: text/html"}, {"content-type: text/event-stream", "content-type: text/event-stream"}, {"content-type: "}},
		{nil, {"transfer-encoding: chunked"}, {"transfer-encoding: ", "transfer-encoding: Chunked,"}, {"transfer-encoding: chunked", "transfer-encoding: chunked"}, {"transfer-encoding: gzip"}, {"transfer-encoding: "}},
		{nil, {"content-length: 0"}, {"content-length: 018446744073709551615"}, {"content-length: 18446744073709551616"}, {"content-length: 5", "content-length: 5"}, {"content-length: "}},
	}
	heads := [][]string{nil}
	for _, of := range pieces {
		var next [][]string
		for _, ahead := range heads {
			for _, one := range of {
				next = append(next, append(slices.Clone(ahead), one...))
			}
		}
		heads = next
	}
	counts, todos := make(map[api.Errno]int), make(map[api.Todo]int)
	for _, first := range firsts {
		for _, fields := range heads {
			for range 2 {
				h := headOf(first, fields...)
				r, no := wantWords(t, h)
				counts[no]++
				todos[todoByWords(r)]++
				wantTodo(t, h, todoByWords(r))
				slices.Reverse(fields)
			}
		}
	}
	for _, no := range []api.Errno{api.OK, api.ErrArg, api.ErrReply} {
		if counts[no] < 100 {
			t.Errorf("errno %d: %d", int(no), counts[no])
		}
	}
	for todo := api.TodoNone; todo <= api.TodoAgain; todo++ {
		if todos[todo] < 50 {
			t.Errorf("%d is to be done of %d", todo, todos[todo])
		}
	}
}

// numbers are such as stand about the bounds of a Status, about those that count, at the ends, and such as are the same as one in fewer bits.
func numbers() []int {
	l := []int{math.MinInt, math.MinInt + 1, math.MaxInt, math.MaxInt - 1, math.MinInt32, math.MaxInt32}
	for n := -1100; n <= 2100; n++ {
		l = append(l, n)
	}
	for _, one := range []int{100, 200, 204, 599} {
		for bit := 8; bit < 64; bit++ {
			l = append(l, one+1<<bit, one-1<<bit)
		}
		l = append(l, -one, ^one, one*10, one*100)
	}
	return l
}

// P15.1: What hangs on the Status and on Event alone, also of what is no reply.
func TestWhat(t *testing.T) {
	for _, n := range numbers() {
		for marks := range 8 {
			for _, length := range []uint64{0, 1, full} {
				r := api.Reply{Status: n, Event: marks&1 > 0, Chunked: marks&2 > 0, Sized: marks&4 > 0, Length: length}
				if got, want := response.What(r), todoByWords(r); got != want {
					t.Errorf("What(%+v): %d; want %d", r, got, want)
				}
			}
		}
	}
	for _, row := range []struct {
		status int
		event  bool
		want   api.Todo
	}{
		{0, false, api.TodoNone}, {0, true, api.TodoNone}, {99, false, api.TodoNone}, {99, true, api.TodoNone}, {100, false, api.TodoAgain}, {100, true, api.TodoAgain}, {199, true, api.TodoAgain}, {200, false, api.TodoAgain}, {200, true, api.TodoStream}, {201, true, api.TodoAgain},
		{203, false, api.TodoAgain}, {204, false, api.TodoStop}, {204, true, api.TodoStop}, {205, false, api.TodoAgain}, {301, false, api.TodoAgain}, {404, true, api.TodoAgain}, {503, false, api.TodoAgain}, {599, false, api.TodoAgain}, {599, true, api.TodoAgain},
		{600, false, api.TodoNone}, {600, true, api.TodoNone}, {-200, true, api.TodoNone}, {-204, false, api.TodoNone}, {math.MinInt, true, api.TodoNone}, {math.MaxInt, true, api.TodoNone},
	} {
		if got := response.What(api.Reply{Status: row.status, Event: row.event}); got != row.want {
			t.Errorf("What(%d, %v): %d; want %d", row.status, row.event, got, row.want)
		}
	}
}

// P15.1: the names, and nothing of each number that is none, also below 0.
func TestName(t *testing.T) {
	names := map[api.Todo]string{1: "stream", 2: "stop", 3: "again"}
	for _, n := range numbers() {
		if got := response.Name(api.Todo(n)); got != names[api.Todo(n)] {
			t.Errorf("Name(%d): %q; want %q", n, got, names[api.Todo(n)])
		}
	}
	for bit := 2; bit < 64; bit++ {
		for _, n := range []int{1 << bit, 1<<bit + 1, 1<<bit + 2, 1<<bit + 3, -1 << bit, -1<<bit + 1, -1<<bit + 2, -1<<bit + 3} {
			if n >= 0 && n <= 3 {
				continue
			}
			if got := response.Name(api.Todo(n)); got != "" {
				t.Errorf("Name(%d): %q", n, got)
			}
		}
	}
	if response.Name(api.TodoStream) != "stream" || response.Name(api.TodoStop) != "stop" || response.Name(api.TodoAgain) != "again" || response.Name(api.TodoNone) != "" || response.Name(4) != "" || response.Name(-1) != "" {
		t.Error("the names are others")
	}
}

// headByWords is a reply's head, by the chapter's words, and whether there is one.
func headByWords(r api.Reply) (api.Head, bool) {
	if r.Status <= 99 || r.Status >= 600 || r.Chunked && r.Sized || r.Length > 0 && !r.Sized {
		return api.Head{}, false
	}
	h := api.Head{First: fmt.Sprintf("HTTP/1.1 %d x", r.Status)}
	if r.Event {
		h.Fields = append(h.Fields, api.Header{Name: "content-type", Value: "text/event-stream"})
	}
	if r.Chunked {
		h.Fields = append(h.Fields, api.Header{Name: "transfer-encoding", Value: "chunked"})
	}
	if r.Sized {
		h.Fields = append(h.Fields, api.Header{Name: "content-length", Value: fmt.Sprint(r.Length)})
	}
	return h, true
}

// wantHead holds a reply's head against the chapter's words, and Of of it against the reply; it tells whether there is one.
func wantHead(t testing.TB, r api.Reply) bool {
	t.Helper()
	want, is := headByWords(r)
	h, e := response.Head(r)
	if !is {
		if !sameHead(h, api.Head{}) || h.Fields != nil || e != api.ErrArg {
			t.Errorf("Head(%+v): %s, errno %d; want errno %d", r, shown(h), int(e), int(api.ErrArg))
		}
		return false
	}
	if !sameHead(h, want) || e != api.OK {
		t.Errorf("Head(%+v): %s, errno %d; want %s", r, shown(h), int(e), shown(want))
	}
	wantReply(t, h, r)
	return true
}

// lengths are those of bodies.
func lengths() []uint64 {
	return []uint64{0, 1, 5, 9, 10, 99, 100, 255, 256, 1<<31 - 1, 1 << 31, 1<<32 - 1, 1 << 32, 1<<63 - 1, 1 << 63, 1<<63 + 1, 9999999999999999999, 10000000000000000000, full - 1, full}
}

// P15.2, P15.3: of each Status, and each number that is none, with all that a reply may have and may not; Of of Head is the reply.
func TestHead(t *testing.T) {
	heads, none := make(map[api.Reply]bool), make(map[api.Reply]bool)
	for _, n := range numbers() {
		for marks := range 8 {
			for _, length := range []uint64{0, 5, full} {
				r := api.Reply{Status: n, Event: marks&1 > 0, Chunked: marks&2 > 0, Sized: marks&4 > 0, Length: length}
				if wantHead(t, r) {
					heads[r] = true
				} else {
					none[r] = true
				}
			}
		}
	}
	if len(heads) != 500*2*(1+1+3) || len(none) < 1000 {
		t.Errorf("%d heads, and none of %d", len(heads), len(none))
	}
	for _, status := range []int{99, 100, 200, 204, 599, 600} {
		for marks := range 8 {
			for _, length := range lengths() {
				wantHead(t, api.Reply{Status: status, Event: marks&1 > 0, Chunked: marks&2 > 0, Sized: marks&4 > 0, Length: length})
			}
		}
	}
}

// P15.2: heads, byte by byte as they are written down, and what is ErrArg.
func TestHeadWritten(t *testing.T) {
	for r, want := range map[api.Reply]string{
		{Status: 200}:                                        "HTTP/1.1 200 x\r\n\r\n",
		{Status: 204}:                                        "HTTP/1.1 204 x\r\n\r\n",
		{Status: 100}:                                        "HTTP/1.1 100 x\r\n\r\n",
		{Status: 599}:                                        "HTTP/1.1 599 x\r\n\r\n",
		{Status: 200, Event: true}:                           "HTTP/1.1 200 x\r\ncontent-type: text/event-stream\r\n\r\n",
		{Status: 200, Chunked: true}:                         "HTTP/1.1 200 x\r\ntransfer-encoding: chunked\r\n\r\n",
		{Status: 503, Sized: true}:                           "HTTP/1.1 503 x\r\ncontent-length: 0\r\n\r\n",
		{Status: 503, Sized: true, Length: 5}:                "HTTP/1.1 503 x\r\ncontent-length: 5\r\n\r\n",
		{Status: 503, Sized: true, Length: full}:             "HTTP/1.1 503 x\r\ncontent-length: 18446744073709551615\r\n\r\n",
		{Status: 200, Event: true, Chunked: true}:            "HTTP/1.1 200 x\r\ncontent-type: text/event-stream\r\ntransfer-encoding: chunked\r\n\r\n",
		{Status: 200, Event: true, Sized: true, Length: 123}: "HTTP/1.1 200 x\r\ncontent-type: text/event-stream\r\ncontent-length: 123\r\n\r\n",
	} {
		h, e := response.Head(r)
		b, no := head.Encode(h)
		if string(b) != want || e != api.OK || no != api.OK {
			t.Errorf("Head(%+v): %q, errno %d, %d; want %q", r, b, int(e), int(no), want)
		}
		wantHead(t, r)
	}
	for _, r := range []api.Reply{
		{}, {Status: 99}, {Status: 600}, {Status: -200}, {Status: math.MaxInt}, {Status: math.MinInt}, {Status: 99, Event: true}, {Status: 600, Sized: true, Length: 5}, {Status: 200, Chunked: true, Sized: true}, {Status: 200, Event: true, Chunked: true, Sized: true},
		{Status: 200, Chunked: true, Sized: true, Length: 5}, {Status: 200, Length: 1}, {Status: 200, Length: full}, {Status: 200, Event: true, Length: 5}, {Status: 200, Chunked: true, Length: 5}, {Status: 204, Length: 5}, {Event: true}, {Chunked: true}, {Sized: true}, {Length: 5}, {Sized: true, Length: 5},
	} {
		if wantHead(t, r) {
			t.Errorf("%+v: there is a head", r)
		}
	}
}

// P15.3: Of of Head is the reply again, for every reply that Head tells, also when it went as bytes, and comes once more.
func TestOfHead(t *testing.T) {
	count := 0
	for status := 100; status <= 599; status++ {
		for marks := range 2 {
			event := marks > 0
			rows := []api.Reply{{Status: status, Event: event}, {Status: status, Event: event, Chunked: true}}
			for _, length := range lengths() {
				rows = append(rows, api.Reply{Status: status, Event: event, Sized: true, Length: length})
			}
			for _, r := range rows {
				count++
				h, e := response.Head(r)
				b, no := head.Encode(h)
				if e != api.OK || no != api.OK || head.Check(h) != api.OK {
					t.Fatalf("Head(%+v): %s, errno %d, %d", r, shown(h), int(e), int(no))
				}
				read, used, no := head.Of(api.HeadCaps{Line: 99, Bytes: 999, Fields: 2}, b)
				if !sameHead(read, h) || used != len(b) || no != api.OK {
					t.Errorf("%q: %s, %d, errno %d", b, shown(read), used, int(no))
				}
				got, no := response.Of(read)
				if got != r || no != api.OK {
					t.Errorf("Of(%s): %+v, errno %d; want %+v", shown(read), got, int(no), r)
				}
				if again, no := response.Head(got); !sameHead(again, h) || no != api.OK {
					t.Errorf("Head(%+v): %s, errno %d; it was %s", got, shown(again), int(no), shown(h))
				}
			}
		}
	}
	if count != 500*2*(2+len(lengths())) {
		t.Errorf("%d replies", count)
	}
}

// P15.3: just the replies of 200 that are event streams are to be streamed.
func TestJustThese(t *testing.T) {
	streams := 0
	for status := range 1000 {
		for _, value := range []string{"", "text/html", "text/event-stream", "TEXT/event-stream;x"} {
			for _, more := range []string{"a: b", "transfer-encoding: chunked", "content-length: 5", "content-length: x"} {
				h := headOf(fmt.Sprintf("HTTP/1.1 %03d", status), "content-type: "+value, more)
				r, e := response.Of(h)
				want := status == 200 && len(value) > 9 && more != "content-length: x"
				if got := response.What(r) == api.TodoStream; got != want || got && e != api.OK {
					t.Errorf("%s: streamed %v, errno %d; want %v", shown(h), got, int(e), want)
				}
				if want {
					streams++
				}
			}
		}
	}
	if streams != 6 {
		t.Errorf("%d are streamed", streams)
	}
}

// rowOf are heads, and what is to be done of them.
func rowOf() ([]api.Head, []numbered) {
	event := "content-type: text/event-stream"
	l := []api.Head{
		okOf(event), headOf("HTTP/1.0 204"), okOf(), headOf("HTTP/1.1 20 OK"), {}, okOf(event, "A: b"), okOf("content-length: 5", "transfer-encoding: chunked"), headOf("HTTP/1.1 503", "content-length: 5"),
		okOf("transfer-encoding: chunked", event), okOf(event, event), headOf("HTTP/1.1 204", event), okOf(event, "content-length: 0"),
	}
	var want []numbered
	for number, todo := range []api.Todo{1, 2, 3, 0, 0, 0, 0, 3, 1, 3, 2, 1} {
		want = append(want, numbered{number, todo})
	}
	return l, want
}

// P15.1: Each: no heads, one and several; numbers from 0 on; left at any time, and gone over again.
func TestEach(t *testing.T) {
	if got := gone(response.Each(), most); got != nil {
		t.Errorf("Each of none: %v", got)
	}
	if got := gone(response.Each([]api.Head{}...), most); got != nil {
		t.Errorf("Each of none: %v", got)
	}
	l, all := rowOf()
	for number, h := range l {
		if got, want := gone(response.Each(h), most), []numbered{{0, all[number].todo}}; !slices.Equal(got, want) {
			t.Errorf("Each(%s): %v; want %v", shown(h), got, want)
		}
	}
	for count := range len(l) + 1 {
		want := all[:count]
		seq := response.Each(l[:count]...)
		for round := range 3 {
			for many := range count + 1 {
				if got := gone(seq, many); !slices.Equal(got, want[:many]) {
					t.Errorf("of %d, round %d, left behind %d: %v; want %v", count, round, many, got, want[:many])
				}
			}
			if got := gone(seq, most); !slices.Equal(got, want) {
				t.Errorf("of %d, round %d: %v; want %v", count, round, got, want)
			}
		}
	}
	const many = 20000
	number := 0
	for at, todo := range response.Each(slices.Repeat([]api.Head{okOf(), {}, headOf("HTTP/1.1 204")}, many)...) {
		if at != number || todo != []api.Todo{3, 0, 2}[at%3] {
			t.Fatalf("%d: %d %d", number, at, todo)
		}
		number++
	}
	if number != 3*many {
		t.Errorf("%d are gone over", number)
	}
}

// P15.1: behind the head at which Each is left nothing is told any more.
func TestEachEnd(t *testing.T) {
	l, _ := rowOf()
	for count := 1; count <= len(l); count++ {
		calls := 0
		response.Each(l...)(func(int, api.Todo) bool {
			calls++
			return calls < count
		})
		if calls != count {
			t.Errorf("left at %d: %d are told", count, calls)
		}
	}
}

// P15.1: Each, gone over within itself, and a panic of a loop's body, which goes through.
func TestEachWithin(t *testing.T) {
	l, want := rowOf()
	seq := response.Each(l...)
	var got []numbered
	for number, todo := range seq {
		got = append(got, numbered{number, todo})
		if inner := gone(seq, number+1); !slices.Equal(inner, want[:number+1]) {
			t.Errorf("within %d: %v", number, inner)
		}
		response.Of(l[number])
	}
	if !slices.Equal(got, want) {
		t.Errorf("%v; want %v", got, want)
	}
	thrown := func() (thrown any) {
		defer func() { thrown = recover() }()
		for range seq {
			panic("a body's own")
		}
		return nil
	}()
	if thrown != "a body's own" {
		t.Errorf("thrown: %v", thrown)
	}
	if got := gone(seq, most); !slices.Equal(got, want) {
		t.Errorf("behind a panic: %v; want %v", got, want)
	}
}

// P15.1: what Each goes over is as it was when it was called.
func TestEachAsItWas(t *testing.T) {
	l, want := rowOf()
	seq := response.Each(l...)
	for number := range l {
		for place := range l[number].Fields {
			l[number].Fields[place] = api.Header{Name: "transfer-encoding", Value: "x"}
		}
	}
	if got := gone(seq, most); !slices.Equal(got, want) {
		t.Errorf("behind other fields: %v; want %v", got, want)
	}
	for number := range l {
		l[number] = api.Head{First: "HTTP/1.1 204"}
	}
	if got := gone(seq, most); !slices.Equal(got, want) {
		t.Errorf("behind other heads: %v; want %v", got, want)
	}
	if got := gone(response.Each(l...), most); len(got) != len(l) || got[3] != (numbered{3, api.TodoStop}) {
		t.Errorf("of the other heads: %v", got)
	}
}

// shares tells whether two texts have memory together.
func shares(a, b string) bool {
	// The language itself has one text for each single byte.
	if len(a) < 2 || len(b) < 2 {
		return false
	}
	x, y := uintptr(unsafe.Pointer(unsafe.StringData(a))), uintptr(unsafe.Pointer(unsafe.StringData(b)))
	return x < y+uintptr(len(b)) && y < x+uintptr(len(a))
}

// P15.2: what is told is kept apart from what is told again.
func TestApart(t *testing.T) {
	r := api.Reply{Status: 200, Event: true, Sized: true, Length: 12345}
	one, _ := response.Head(r)
	other, _ := response.Head(r)
	if shares(one.First, other.First) || shares(one.Fields[1].Value, other.Fields[1].Value) {
		t.Errorf("%s and %s share memory", shown(one), shown(other))
	}
	want, _ := headByWords(r)
	for place := range one.Fields {
		one.Fields[place] = api.Header{Name: "changed", Value: "changed"}
	}
	spare := one.Fields[:cap(one.Fields)]
	for place := range spare {
		spare[place] = api.Header{Name: "spare", Value: "spare"}
	}
	_ = append(one.Fields, api.Header{Name: "more"})
	if !sameHead(other, want) {
		t.Errorf("%s; want %s", shown(other), shown(want))
	}
	wantHead(t, r)
	wantHead(t, api.Reply{Status: 200, Event: true, Chunked: true})
}

// P15.1: what is handed in stays as it is, spare room included.
func TestHandedInStays(t *testing.T) {
	fields := []api.Header{{Name: "content-type", Value: "Text/Event-Stream ; x"}, {Name: "transfer-encoding", Value: ",Chunked,"}, {Name: "Spare", Value: " "}, {Name: "Spare", Value: " "}}
	heads := []api.Head{{First: "HTTP/1.1 200 OK", Fields: fields[:2]}, {First: "HTTP/1.0 204", Fields: fields[1:1]}, {First: "spare"}, {First: "spare"}}
	wantFields := slices.Clone(fields)
	for _, h := range heads[:2] {
		response.Of(h)
	}
	if got := gone(response.Each(heads[:2]...), most); !slices.Equal(got, []numbered{{0, api.TodoStream}, {1, api.TodoStop}}) {
		t.Errorf("%v", got)
	}
	if !slices.Equal(fields, wantFields) {
		t.Errorf("%q", fields)
	}
	if heads[0].First != "HTTP/1.1 200 OK" || heads[1].First != "HTTP/1.0 204" || heads[2].First != "spare" || heads[3].First != "spare" || len(heads[0].Fields) != 2 || len(heads[1].Fields) != 0 {
		t.Errorf("%q", heads)
	}
}

// P15.1: a reply is told of a head as it is then, and is kept apart from it.
func TestAsItIsThen(t *testing.T) {
	room := []byte("HTTP/1.1 200 OK")
	h := api.Head{First: unsafe.String(unsafe.SliceData(room), len(room)), Fields: []api.Header{{Name: "content-type", Value: "text/event-stream"}, {Name: "content-length", Value: "5"}}}
	r, e := response.Of(h)
	seq := response.Each(h)
	copy(room, "HTTP/1.0 503 NO")
	h.Fields[0], h.Fields[1] = api.Header{Name: "a", Value: "b"}, api.Header{Name: "content-length", Value: "6"}
	if want := (api.Reply{Status: 200, Event: true, Sized: true, Length: 5}); r != want || e != api.OK {
		t.Errorf("%+v, errno %d; want %+v", r, int(e), want)
	}
	if got := gone(seq, most); !slices.Equal(got, []numbered{{0, api.TodoStream}}) {
		t.Errorf("%v", got)
	}
	wantReply(t, h, api.Reply{Status: 503, Sized: true, Length: 6})
	if !bytes.Equal(room, []byte("HTTP/1.0 503 NO")) {
		t.Errorf("%q was changed", room)
	}
}

// P15.1, P15.2: what a call answers hangs on its arguments alone, also if calls are under way at the same time.
func TestAtOnce(t *testing.T) {
	l, want := rowOf()
	done := make(chan bool)
	for worker := range 8 {
		go func() {
			defer func() { done <- true }()
			for round := range 50 {
				for number := range l {
					wantWords(t, l[(number*(worker+1)+round)%len(l)])
				}
				if got := gone(response.Each(l...), most); !slices.Equal(got, want) {
					t.Errorf("%v; want %v", got, want)
				}
				wantHead(t, api.Reply{Status: 100 + round, Event: round%2 > 0, Sized: worker%2 > 0, Length: uint64(worker % 2 * round)})
				wantHead(t, api.Reply{Status: 200, Chunked: true, Sized: round%2 > 0})
				if response.Name(api.Todo(round%4)) != []string{"", "stream", "stop", "again"}[round%4] {
					t.Errorf("Name(%d)", round%4)
				}
			}
		}()
	}
	for range 8 {
		<-done
	}
}

// kept is how much memory is, when all that is not needed has gone.
func kept() int {
	var m runtime.MemStats
	runtime.GC()
	runtime.ReadMemStats(&m)
	return int(m.HeapAlloc)
}

// P15.1: of calls nothing is kept, nor does a range hold on to the heads.
func TestKept(t *testing.T) {
	const count, size, bound = 16, 1 << 20, 1 << 22
	before := kept()
	var seqs []iter.Seq2[int, api.Todo]
	for range count {
		h := okOf("content-type: text/event-stream;"+strings.Repeat("y", size), "a: "+strings.Repeat("y", size))
		if r, e := response.Of(h); r != (api.Reply{Status: 200, Event: true}) || e != api.OK {
			t.Errorf("%+v, errno %d", r, int(e))
		}
		seqs = append(seqs, response.Each(h))
	}
	if after := kept(); after-before > bound {
		t.Errorf("%d bytes are kept of %d heads", after-before, count)
	}
	for _, seq := range seqs {
		if got := gone(seq, most); !slices.Equal(got, []numbered{{0, api.TodoStream}}) {
			t.Errorf("%v", got)
		}
	}
}

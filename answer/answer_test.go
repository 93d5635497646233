package answer_test

import (
	"bytes"
	"fmt"
	"iter"
	"math"
	"runtime"
	"slices"
	"strings"
	"testing"
	"unsafe"

	"bellman/answer"
	"bellman/api"
	"bellman/head"
)

// most is more than there ever is.
const most = math.MaxInt

// told is a status with its reason.
type told struct {
	status int
	reason string
}

// all are the chapter's statuses, each with its reason, rising.
var all = []told{
	{200, "OK"},
	{400, "Bad Request"},
	{404, "Not Found"},
	{405, "Method Not Allowed"},
	{406, "Not Acceptable"},
	{431, "Request Header Fields Too Large"},
	{503, "Service Unavailable"},
	{505, "HTTP Version Not Supported"},
}

// reasonOf is a status's reason, and whether it is one of the chapter's.
func reasonOf(status int) (string, bool) {
	for _, one := range all {
		if one.status == status {
			return one.reason, true
		}
	}
	return "", false
}

// numbers are such as stand beside the chapter's statuses, far from them, at the ends, and such as are the same as a status in fewer bits.
func numbers() []int {
	l := []int{math.MinInt, math.MinInt + 1, math.MaxInt, math.MaxInt - 1, math.MinInt32, math.MaxInt32}
	for n := -1100; n <= 2100; n++ {
		l = append(l, n)
	}
	for _, one := range all {
		for bit := 8; bit < 64; bit++ {
			l = append(l, one.status+1<<bit, one.status-1<<bit, one.status^1<<bit)
		}
		l = append(l, -one.status, ^one.status, one.status*10, one.status*100, one.status*1000)
	}
	return l
}

// shown is an answer as a message shows it: no more of it than is read.
func shown(b []byte) string { return fmt.Sprintf("%.400q", b) }

// linesOf are lines as a head has them, with the empty one behind them.
func linesOf(l ...string) string { return strings.Join(l, "\r\n") + "\r\n\r\n" }

// plainByWords is a plain answer, by the chapter's words; of none it is empty.
func plainByWords(status int, text string) string {
	reason, is := reasonOf(status)
	if !is || len(text) >= 1001 {
		return ""
	}
	l := []string{
		fmt.Sprintf("HTTP/1.1 %d %s", status, reason),
		"content-type: text/plain",
		fmt.Sprintf("content-length: %d", len(text+"\n")),
	}
	if status == 405 {
		l = append(l, "allow: GET")
	}
	if status == 503 {
		l = append(l, "retry-after: 1")
	}
	return linesOf(append(l, "connection: close")...) + text + "\n"
}

// refusalByWords is a refusal, by the chapter's words; of none it is empty.
func refusalByWords(status int) string {
	reason, is := reasonOf(status)
	if !is || status == 200 {
		return ""
	}
	return plainByWords(status, fmt.Sprintf("%d %s", status, strings.ToLower(reason)))
}

// healthByWords is the health's answer, by the chapter's words; of none it is empty.
func healthByWords(topics, clients int, drains bool) string {
	switch {
	case topics <= -1, clients <= -1:
		return ""
	case drains:
		return plainByWords(503, "draining")
	}
	return plainByWords(200, fmt.Sprintf("ok %d %d", topics, clients))
}

// streamByWords is a stream's head, by the chapter's words.
func streamByWords(chunked bool) string {
	last := "connection: close"
	if chunked {
		last = "transfer-encoding: chunked"
	}
	return linesOf("HTTP/1.1 200 OK", "content-type: text/event-stream", "cache-control: no-store", last)
}

// wantBytes holds an answer against its bytes: where there are none it is ErrArg, and nothing.
func wantBytes(t testing.TB, call string, b []byte, e api.Errno, want string) {
	t.Helper()
	no := api.OK
	if want == "" {
		no = api.ErrArg
	}
	if string(b) != want || e != no {
		t.Errorf("%s: %s, errno %d; want %s, errno %d", call, shown(b), int(e), shown([]byte(want)), int(no))
	}
	if no != api.OK && b != nil {
		t.Errorf("%s: errno %d, and %s is told beside it", call, int(e), shown(b))
	}
}

// wantPlain holds a plain answer against the chapter's words, and is what is told.
func wantPlain(t testing.TB, status int, text string) []byte {
	t.Helper()
	given := strings.Clone(text)
	b, e := answer.Plain(status, text)
	wantBytes(t, fmt.Sprintf("Plain(%d, %.60q of %d bytes)", status, text, len(text)), b, e, plainByWords(status, given))
	if text != given {
		t.Errorf("%.60q was handed in; it is %.60q now", given, text)
	}
	return b
}

// wantRefusal holds a refusal against the chapter's words, and is what is told.
func wantRefusal(t testing.TB, status int) []byte {
	t.Helper()
	b, e := answer.Refusal(status)
	wantBytes(t, fmt.Sprintf("Refusal(%d)", status), b, e, refusalByWords(status))
	return b
}

// wantHealth holds the health's answer against the chapter's words, and is what is told.
func wantHealth(t testing.TB, topics, clients int, drains bool) []byte {
	t.Helper()
	b, e := answer.Health(topics, clients, drains)
	wantBytes(t, fmt.Sprintf("Health(%d, %d, %v)", topics, clients, drains), b, e, healthByWords(topics, clients, drains))
	return b
}

// wantStream holds a stream's head against the chapter's words, and is what is told.
func wantStream(t testing.TB, chunked bool) []byte {
	t.Helper()
	b := answer.Stream(chunked)
	wantBytes(t, fmt.Sprintf("Stream(%v)", chunked), b, api.OK, streamByWords(chunked))
	return b
}

// gone goes over at most so many statuses, leaves then, and is what it went over.
func gone(seq iter.Seq2[int, string], most int) []told {
	var l []told
	if most == 0 {
		return l
	}
	for status, reason := range seq {
		l = append(l, told{status, reason})
		if len(l) == most {
			break
		}
	}
	return l
}

// P14.1, P14.2: the chapter's examples, byte by byte.
func TestExamples(t *testing.T) {
	if got, e := answer.Reason(404); got != "Not Found" || e != api.OK {
		t.Errorf("Reason(404): %q, errno %d", got, int(e))
	}
	if got, e := answer.Reason(418); got != "" || e != api.ErrArg {
		t.Errorf("Reason(418): %q, errno %d", got, int(e))
	}
	b, e := answer.Refusal(200)
	wantBytes(t, "Refusal(200)", b, e, "")
	b, e = answer.Refusal(405)
	wantBytes(t, "Refusal(405)", b, e, "HTTP/1.1 405 Method Not Allowed\r\ncontent-type: text/plain\r\ncontent-length: 23\r\nallow: GET\r\nconnection: close\r\n\r\n405 method not allowed\n")
	b, e = answer.Health(2, 3, false)
	wantBytes(t, "Health(2, 3, false)", b, e, "HTTP/1.1 200 OK\r\ncontent-type: text/plain\r\ncontent-length: 7\r\nconnection: close\r\n\r\nok 2 3\n")
	b, e = answer.Health(2, 3, true)
	wantBytes(t, "Health(2, 3, true)", b, e, "HTTP/1.1 503 Service Unavailable\r\ncontent-type: text/plain\r\ncontent-length: 9\r\nretry-after: 1\r\nconnection: close\r\n\r\ndraining\n")
}

// P14.1: of each status its reason; of every other number ErrArg, and nothing.
func TestReason(t *testing.T) {
	for _, one := range all {
		if got, e := answer.Reason(one.status); got != one.reason || e != api.OK {
			t.Errorf("Reason(%d): %q, errno %d; want %q", one.status, got, int(e), one.reason)
		}
	}
	for _, n := range numbers() {
		want, is := reasonOf(n)
		no := api.OK
		if !is {
			no = api.ErrArg
		}
		if got, e := answer.Reason(n); got != want || e != no {
			t.Errorf("Reason(%d): %q, errno %d; want %q, errno %d", n, got, int(e), want, int(no))
		}
	}
}

// P14.1: the statuses rise, each has its reason, and Reason tells the same.
func TestStatuses(t *testing.T) {
	got := gone(answer.Statuses(), most)
	if !slices.Equal(got, all) {
		t.Errorf("%v; want %v", got, all)
	}
	for at, one := range got {
		if at > 0 && one.status <= got[at-1].status {
			t.Errorf("%d stands behind %d", one.status, got[at-1].status)
		}
		if reason, e := answer.Reason(one.status); reason != one.reason || e != api.OK {
			t.Errorf("Reason(%d): %q, errno %d; gone over %q", one.status, reason, int(e), one.reason)
		}
	}
}

// P14.1: Statuses may be left at any time, and gone over again, the same one and another one.
func TestStatusesLeft(t *testing.T) {
	seq := answer.Statuses()
	for range 3 {
		for count := range len(all) + 2 {
			want := all[:min(count, len(all))]
			for _, one := range []iter.Seq2[int, string]{seq, answer.Statuses()} {
				if got := gone(one, count); !slices.Equal(got, want) {
					t.Errorf("%d of them: %v; want %v", count, got, want)
				}
			}
		}
		if got := gone(seq, most); !slices.Equal(got, all) {
			t.Errorf("%v; want %v", got, all)
		}
	}
}

// P14.1: behind the status at which Statuses is left nothing is told any more.
func TestStatusesEnd(t *testing.T) {
	for count := 1; count <= len(all); count++ {
		calls := 0
		answer.Statuses()(func(int, string) bool {
			calls++
			return calls < count
		})
		if calls != count {
			t.Errorf("left at %d: %d are told", count, calls)
		}
	}
}

// P14.1: goings over that are under way at once do not disturb each other, nor do calls in between.
func TestStatusesWithin(t *testing.T) {
	seq := answer.Statuses()
	var got []told
	for status, reason := range seq {
		got = append(got, told{status, reason})
		if inner := gone(seq, most); !slices.Equal(inner, all) {
			t.Errorf("within %d: %v", status, inner)
		}
		gone(answer.Statuses(), 1)
		wantRefusal(t, 404)
		answer.Reason(1)
	}
	if !slices.Equal(got, all) {
		t.Errorf("%v; want %v", got, all)
	}
}

// P14.1: what is given up by within the body of a range over Statuses goes on its way, and changes nothing.
func TestStatusesGivenUp(t *testing.T) {
	seq := answer.Statuses()
	func() {
		defer func() {
			if thrown := recover(); thrown != "given up" {
				t.Errorf("%v came out", thrown)
			}
		}()
		for range seq {
			panic("given up")
		}
	}()
	if got := gone(seq, most); !slices.Equal(got, all) {
		t.Errorf("%v; want %v", got, all)
	}
}

// P14.2: plain answers of each status, byte by byte as they are written down.
func TestPlainWritten(t *testing.T) {
	for status, want := range map[int]string{
		200: "HTTP/1.1 200 OK\r\ncontent-type: text/plain\r\ncontent-length: 2\r\nconnection: close\r\n\r\nx\n",
		400: "HTTP/1.1 400 Bad Request\r\ncontent-type: text/plain\r\ncontent-length: 2\r\nconnection: close\r\n\r\nx\n",
		404: "HTTP/1.1 404 Not Found\r\ncontent-type: text/plain\r\ncontent-length: 2\r\nconnection: close\r\n\r\nx\n",
		405: "HTTP/1.1 405 Method Not Allowed\r\ncontent-type: text/plain\r\ncontent-length: 2\r\nallow: GET\r\nconnection: close\r\n\r\nx\n",
		406: "HTTP/1.1 406 Not Acceptable\r\ncontent-type: text/plain\r\ncontent-length: 2\r\nconnection: close\r\n\r\nx\n",
		431: "HTTP/1.1 431 Request Header Fields Too Large\r\ncontent-type: text/plain\r\ncontent-length: 2\r\nconnection: close\r\n\r\nx\n",
		503: "HTTP/1.1 503 Service Unavailable\r\ncontent-type: text/plain\r\ncontent-length: 2\r\nretry-after: 1\r\nconnection: close\r\n\r\nx\n",
		505: "HTTP/1.1 505 HTTP Version Not Supported\r\ncontent-type: text/plain\r\ncontent-length: 2\r\nconnection: close\r\n\r\nx\n",
	} {
		b, e := answer.Plain(status, "x")
		wantBytes(t, fmt.Sprintf("Plain(%d, x)", status), b, e, want)
		if got := plainByWords(status, "x"); got != want {
			t.Errorf("%d: by the chapter's words %q; want %q", status, got, want)
		}
	}
}

// texts are such as a plain answer may have: empty, sound and not, with ends within and at their ends, such as look like heads and numbers.
func texts() []string {
	l := []string{
		"", "a", "ok", "ok 2 3", "draining", "404 not found", "\n", "\r", "\r\n", "\n\n", "\n\r", "\r\n\r\n", "a\n", "a\r", "a\r\n", "\na", "\ra", "\r\na", "a\nb", "a\rb", "a\r\nb", "a\n\n", "a\r\n\r\nb", "a\r\nb: c\r\n\r\n",
		" ", "  ", " a", "a ", " a ", "\t", "\ta\t", "\x00", "a\x00", "\x00a", "%d", "%s%!", "\\n", "\"a\"", "A", "GREAT Letters", "content-length: 1", "connection: close\r\n", "HTTP/1.1 200 OK\r\n\r\n", "0\r\n\r\n",
		"\u00e9", "\u20ac", "\U0001f600", "\ufeff", "\ufeffa", "\u2028", "\u0085", "\ufffd", "\u00c9", "\xff", "\xfe\xff", "\xc3", "\xe2\x82", "a\xf0\x9f\x98", "\xed\xa0\x80", "\xc0\x80", "\x80\x81", "\xffa\xff",
	}
	for b := range 256 {
		l = append(l, string([]byte{byte(b)}), string([]byte{'a', byte(b)}), string([]byte{byte(b), 'a'}), string([]byte{'a', byte(b), 'b'}))
	}
	return l
}

// P14.2: plain answers of each status, with texts of all kinds.
func TestPlainTexts(t *testing.T) {
	for _, text := range texts() {
		for _, one := range all {
			wantPlain(t, one.status, text)
		}
	}
}

// P14.2: a text has at most 1000 bytes, whatever these are; each length up to that goes, and none above.
func TestPlainLengths(t *testing.T) {
	for size := range 1101 {
		for _, one := range all {
			b := wantPlain(t, one.status, strings.Repeat("x", size))
			if (b != nil) != (size <= 1000) {
				t.Errorf("Plain(%d, %d bytes): %d bytes", one.status, size, len(b))
			}
		}
	}
	for _, sign := range []string{"x", "\n", "\r", " ", "\x00", "\xff", "\u00e9", "\u20ac", "\U0001f600", "\r\n"} {
		for size := 990; size <= 1010; size++ {
			text := strings.Repeat(sign, size)
			wantPlain(t, 200, text[:size])
			wantPlain(t, 405, text[len(text)-size:])
			wantPlain(t, 503, text)
		}
		for _, size := range []int{333, 334, 499, 500, 501, 250, 251} {
			wantPlain(t, 404, strings.Repeat(sign, size))
		}
	}
	for _, end := range []string{"\n", "\r", "\r\n"} {
		for _, size := range []int{999, 1000, 1001} {
			wantPlain(t, 400, strings.Repeat("x", size-len(end))+end)
			wantPlain(t, 400, end+strings.Repeat("x", size-len(end)))
			wantPlain(t, 400, strings.Repeat("x", 500)+end+strings.Repeat("x", size-len(end)-500))
		}
	}
	for _, size := range []int{1256, 2000, 4096, 65536, 66536, 1 << 20, 1<<20 + 1000} {
		wantPlain(t, 200, strings.Repeat("x", size))
		wantPlain(t, 505, strings.Repeat("\xff", size))
	}
}

// P14.2: a status that is none is ErrArg, whatever the text; so is one with a text that is too long.
func TestPlainNumbers(t *testing.T) {
	for _, n := range numbers() {
		wantPlain(t, n, "")
		wantPlain(t, n, "x")
		wantPlain(t, n, strings.Repeat("x", 1000))
		wantPlain(t, n, strings.Repeat("x", 1001))
	}
}

// P14.2: allow is told of 405 alone, retry-after of 503 alone, each once, and each field in its place.
func TestOwnFields(t *testing.T) {
	for _, one := range all {
		for _, text := range []string{"", "x", "allow: GET", "retry-after: 1"} {
			b, _ := answer.Plain(one.status, text)
			ahead, _, _ := bytes.Cut(b, []byte("\r\n\r\n"))
			var names []string
			for _, line := range strings.Split(string(ahead), "\r\n")[1:] {
				name, _, _ := strings.Cut(line, ": ")
				names = append(names, name)
			}
			want := []string{"content-type", "content-length", "connection"}
			switch one.status {
			case 405:
				want = slices.Insert(want, 2, "allow")
			case 503:
				want = slices.Insert(want, 2, "retry-after")
			}
			if !slices.Equal(names, want) {
				t.Errorf("%d: %q; want %q", one.status, names, want)
			}
		}
	}
}

// P14.2: refusals, byte by byte as they are written down.
func TestRefusalWritten(t *testing.T) {
	const fields, behind = "content-type: text/plain\r\ncontent-length: ", "connection: close\r\n\r\n"
	written := map[int]string{
		400: "HTTP/1.1 400 Bad Request\r\n" + fields + "16\r\n" + behind + "400 bad request\n",
		404: "HTTP/1.1 404 Not Found\r\n" + fields + "14\r\n" + behind + "404 not found\n",
		405: "HTTP/1.1 405 Method Not Allowed\r\n" + fields + "23\r\nallow: GET\r\n" + behind + "405 method not allowed\n",
		406: "HTTP/1.1 406 Not Acceptable\r\n" + fields + "19\r\n" + behind + "406 not acceptable\n",
		431: "HTTP/1.1 431 Request Header Fields Too Large\r\n" + fields + "36\r\n" + behind + "431 request header fields too large\n",
		503: "HTTP/1.1 503 Service Unavailable\r\n" + fields + "24\r\nretry-after: 1\r\n" + behind + "503 service unavailable\n",
		505: "HTTP/1.1 505 HTTP Version Not Supported\r\n" + fields + "31\r\n" + behind + "505 http version not supported\n",
	}
	for status, want := range written {
		b, e := answer.Refusal(status)
		wantBytes(t, fmt.Sprintf("Refusal(%d)", status), b, e, want)
		if got := refusalByWords(status); got != want {
			t.Errorf("%d: by the chapter's words %q; want %q", status, got, want)
		}
	}
	if len(written) != len(all)-1 {
		t.Errorf("%d are written down", len(written))
	}
}

// P14.2: of 200, and of what is no status, there is no refusal; of each other one it is the plain answer of its text.
func TestRefusal(t *testing.T) {
	b, e := answer.Refusal(200)
	wantBytes(t, "Refusal(200)", b, e, "")
	for _, n := range numbers() {
		wantRefusal(t, n)
	}
	for _, one := range all[1:] {
		refused, no := answer.Refusal(one.status)
		plain, also := answer.Plain(one.status, fmt.Sprint(one.status)+" "+strings.ToLower(one.reason))
		if !bytes.Equal(refused, plain) || no != api.OK || also != api.OK {
			t.Errorf("%d: %s and %s", one.status, shown(refused), shown(plain))
		}
	}
}

// P14.2: a stream's head, chunked and not, byte by byte as it is written down.
func TestStream(t *testing.T) {
	for range 2 {
		b := answer.Stream(true)
		wantBytes(t, "Stream(true)", b, api.OK, "HTTP/1.1 200 OK\r\ncontent-type: text/event-stream\r\ncache-control: no-store\r\ntransfer-encoding: chunked\r\n\r\n")
		b = answer.Stream(false)
		wantBytes(t, "Stream(false)", b, api.OK, "HTTP/1.1 200 OK\r\ncontent-type: text/event-stream\r\ncache-control: no-store\r\nconnection: close\r\n\r\n")
		wantStream(t, false)
		wantStream(t, true)
	}
}

// amounts are numbers of topics and of clients.
func amounts() []int {
	return []int{
		math.MinInt, math.MinInt + 1, math.MinInt32 - 1, math.MinInt32, -1000, -256, -11, -10, -3, -2, -1, 0, 1, 2, 3, 7, 8, 9, 10, 11, 15, 16, 64, 99, 100, 101, 128, 255, 256, 999, 1000, 1001,
		4096, 32767, 32768, 65535, 65536, 100000, math.MaxInt32, math.MaxInt32 + 1, math.MaxUint32, math.MaxUint32 + 1, 999999999999999999, 1000000000000000000, math.MaxInt - 1, math.MaxInt,
	}
}

// P14.2: the health's answer, of all numbers, draining and not.
func TestHealth(t *testing.T) {
	for _, topics := range amounts() {
		for _, clients := range amounts() {
			wantHealth(t, topics, clients, false)
			wantHealth(t, topics, clients, true)
		}
	}
	for n := -300; n <= 1100; n++ {
		wantHealth(t, n, 5, false)
		wantHealth(t, 5, n, false)
		wantHealth(t, n, 5, true)
		wantHealth(t, 5, n, true)
	}
}

// P14.2: the health's answers, byte by byte as they are written down.
func TestHealthWritten(t *testing.T) {
	const ahead = "HTTP/1.1 200 OK\r\ncontent-type: text/plain\r\ncontent-length: "
	for _, row := range []struct {
		topics, clients int
		want            string
	}{
		{0, 0, ahead + "7\r\nconnection: close\r\n\r\nok 0 0\n"},
		{0, 1, ahead + "7\r\nconnection: close\r\n\r\nok 0 1\n"},
		{1, 0, ahead + "7\r\nconnection: close\r\n\r\nok 1 0\n"},
		{64, 4096, ahead + "11\r\nconnection: close\r\n\r\nok 64 4096\n"},
		{1<<63 - 1, 1<<63 - 1, ahead + "43\r\nconnection: close\r\n\r\nok 9223372036854775807 9223372036854775807\n"},
		{-1, 0, ""},
		{0, -1, ""},
		{-1, -1, ""},
		{-1 << 63, 1<<63 - 1, ""},
		{1<<63 - 1, -1 << 63, ""},
	} {
		b, e := answer.Health(row.topics, row.clients, false)
		wantBytes(t, fmt.Sprintf("Health(%d, %d, false)", row.topics, row.clients), b, e, row.want)
		drained := ""
		if row.want != "" {
			drained = "HTTP/1.1 503 Service Unavailable\r\ncontent-type: text/plain\r\ncontent-length: 9\r\nretry-after: 1\r\nconnection: close\r\n\r\ndraining\n"
		}
		b, e = answer.Health(row.topics, row.clients, true)
		wantBytes(t, fmt.Sprintf("Health(%d, %d, true)", row.topics, row.clients), b, e, drained)
	}
}

// some are answers of every call.
func some(t *testing.T) [][]byte {
	var l [][]byte
	for _, one := range all {
		for _, text := range append(texts(), strings.Repeat("x", 8), strings.Repeat("x", 9), strings.Repeat("\xff", 99), strings.Repeat("x", 998), strings.Repeat("x", 999), strings.Repeat("\n", 1000)) {
			l = append(l, wantPlain(t, one.status, text))
		}
		if one.status != 200 {
			l = append(l, wantRefusal(t, one.status))
		}
	}
	for _, n := range amounts() {
		if n >= 0 {
			l = append(l, wantHealth(t, n, n, false), wantHealth(t, n, 0, false), wantHealth(t, 0, n, false), wantHealth(t, n, n, true))
		}
	}
	return l
}

// caps are bounds that each answer's head is within.
var caps = api.HeadCaps{Line: 8192, Bytes: 65536, Fields: 256}

// wantHead holds what begins an answer against layer 10: a head, of which all that is ahead of the rest is the bytes; it is the head, and the rest.
func wantHead(t *testing.T, b []byte) (api.Head, []byte) {
	t.Helper()
	h, used, e := head.Of(caps, b)
	if e != api.OK || head.Check(h) != api.OK {
		t.Fatalf("%s: no head, errno %d", shown(b), int(e))
	}
	if again, e := head.Encode(h); e != api.OK || !bytes.Equal(again, b[:used]) {
		t.Errorf("%s: its head is %s again, errno %d", shown(b), shown(again), int(e))
	}
	return h, b[used:]
}

// P14.3: each answer is a head of layer 10, and behind it as many bytes as its content-length says.
func TestWhole(t *testing.T) {
	for _, b := range some(t) {
		h, rest := wantHead(t, b)
		size, many := head.Get(h, "content-length")
		if many != 1 || size != fmt.Sprint(len(rest)) {
			t.Errorf("%s: %d content-lengths, %q, of %d bytes", shown(b), many, size, len(rest))
		}
		if len(rest) == 0 || rest[len(rest)-1] != '\n' {
			t.Errorf("%s: it does not end with a LF", shown(b))
		}
		if _, many := head.Get(h, "transfer-encoding"); many != 0 {
			t.Errorf("%s: %d transfer-encodings", shown(b), many)
		}
	}
}

// P14.3: a stream's head is one of layer 10, has no content-length, and nothing stands behind it.
func TestStreamWhole(t *testing.T) {
	for _, chunked := range []bool{false, true} {
		b := wantStream(t, chunked)
		h, rest := wantHead(t, b)
		if _, many := head.Get(h, "content-length"); many != 0 || len(rest) != 0 {
			t.Errorf("%s: %d content-lengths, and %q behind it", shown(b), many, rest)
		}
		if coded, many := head.Get(h, "transfer-encoding"); (many == 1) != chunked || chunked && coded != "chunked" {
			t.Errorf("%s: %d transfer-encodings, %q", shown(b), many, coded)
		}
		if closed, many := head.Get(h, "connection"); (many == 1) == chunked || !chunked && closed != "close" {
			t.Errorf("%s: %d connections, %q", shown(b), many, closed)
		}
	}
}

// shares tells whether two lists have memory together, spare room included.
func shares(a, b []byte) bool {
	if cap(a) == 0 || cap(b) == 0 {
		return false
	}
	x, y := uintptr(unsafe.Pointer(unsafe.SliceData(a))), uintptr(unsafe.Pointer(unsafe.SliceData(b)))
	return x < y+uintptr(cap(b)) && y < x+uintptr(cap(a))
}

// calls are all calls that tell bytes, each with what it is to tell.
func calls() []func(testing.TB) []byte {
	l := []func(testing.TB) []byte{
		func(t testing.TB) []byte { return wantStream(t, true) },
		func(t testing.TB) []byte { return wantStream(t, false) },
		func(t testing.TB) []byte { return wantHealth(t, 2, 3, false) },
		func(t testing.TB) []byte { return wantHealth(t, 2, 3, true) },
		func(t testing.TB) []byte { return wantHealth(t, 64, 4096, false) },
	}
	for _, one := range all {
		l = append(l, func(t testing.TB) []byte { return wantPlain(t, one.status, "a text") })
		if one.status != 200 {
			l = append(l, func(t testing.TB) []byte { return wantRefusal(t, one.status) })
		}
	}
	return l
}

// P14.3: what is told is kept apart from what is told again, and from what other calls tell, spare room included.
func TestApart(t *testing.T) {
	var told [][]byte
	for range 3 {
		for _, call := range calls() {
			told = append(told, call(t))
		}
	}
	for at, b := range told {
		for _, other := range told[at+1:] {
			if shares(b, other) {
				t.Errorf("%s and %s share memory", shown(b), shown(other))
			}
		}
	}
	var whole [][]byte
	for _, b := range told {
		whole = append(whole, slices.Clone(b))
	}
	for at, b := range told {
		if !bytes.Equal(b, whole[at]) {
			t.Errorf("%s was told; it is %s now", shown(whole[at]), shown(b))
		}
		spare := b[:cap(b)]
		for place := range spare {
			spare[place] = '!'
		}
		_ = append(b, "more"...)
	}
	// What is told behind that is as it was.
	for _, call := range calls() {
		call(t)
	}
	if got := gone(answer.Statuses(), most); !slices.Equal(got, all) {
		t.Errorf("%v; want %v", got, all)
	}
}

// P14.3: what is told is kept apart from the text that was handed in, which stays as it is.
func TestApartFromText(t *testing.T) {
	for _, size := range []int{1, 2, 3, 16, 100, 1000} {
		room := bytes.Repeat([]byte{'x'}, size+64)
		text := unsafe.String(unsafe.SliceData(room), size)
		for _, one := range all {
			want := plainByWords(one.status, strings.Repeat("x", size))
			b, e := answer.Plain(one.status, text)
			if shares(b, room) {
				t.Errorf("%s shares memory with its text", shown(b))
			}
			for place := range room {
				room[place] = 'y'
			}
			wantBytes(t, "an answer of a text that is another one now", b, e, want)
			wantPlain(t, one.status, text)
			for place := range room {
				room[place] = 'x'
			}
			for place := range b {
				b[place] = 'z'
			}
			if !bytes.Equal(room, bytes.Repeat([]byte{'x'}, size+64)) {
				t.Errorf("%s: what was handed in has changed", shown(room))
			}
		}
	}
}

// P14.1, P14.2: what a call answers hangs on its arguments alone, in whatever order calls come.
func TestAlone(t *testing.T) {
	l := calls()
	for range 2 {
		for step := 1; step < len(l); step++ {
			for at := range l {
				l[at*step%len(l)](t)
				answer.Reason(at)
				answer.Plain(at, strings.Repeat("x", 1001))
				answer.Refusal(at)
				answer.Health(-at, at, true)
			}
		}
	}
}

// P14.2: calls that are under way at the same time tell what each of them tells alone.
func TestAtOnce(t *testing.T) {
	done := make(chan bool)
	for range 8 {
		go func() {
			defer func() { done <- true }()
			for range 50 {
				for _, call := range calls() {
					call(t)
				}
				if got := gone(answer.Statuses(), most); !slices.Equal(got, all) {
					t.Errorf("%v; want %v", got, all)
				}
			}
		}()
	}
	for range 8 {
		<-done
	}
}

// kept is how much memory is, when all that is not needed has gone.
func kept() int {
	var m runtime.MemStats
	runtime.GC()
	runtime.ReadMemStats(&m)
	return int(m.HeapAlloc)
}

// P14.2: of calls nothing is kept, nor does an answer hold on to the text's memory.
func TestKept(t *testing.T) {
	const count, size, bound = 64, 1 << 20, 1 << 23
	before := kept()
	var l [][]byte
	for range count {
		long := strings.Repeat("x", size)
		b, e := answer.Plain(200, long[:2])
		wantBytes(t, "Plain(200, xx)", b, e, plainByWords(200, "xx"))
		l = append(l, b)
		wantPlain(t, 200, long)
		answer.Statuses()
	}
	if after := kept(); after-before > bound {
		t.Errorf("%d bytes are kept of short answers", after-before)
	}
	if len(l) != count || string(l[0]) != plainByWords(200, "xx") {
		t.Errorf("%d: %s", len(l), shown(l[0]))
	}
}

package answer

import (
	"strings"

	"bellman/api"
	"bellman/decimal"
	"bellman/head"
)

const (
	// version stands ahead of each status.
	version = "HTTP/1.1"
	// blank stands between words.
	blank = " "
	// longest is how many bytes the text of a plain answer has at most, without its end.
	longest = 1000
	// end stands behind that text.
	end = "\n"
	// well and draining are how it stands with the gateway.
	well     = "ok"
	draining = "draining"
)

// Names of fields.
const (
	typeName       = "content-type"
	lengthName     = "content-length"
	cacheName      = "cache-control"
	encodingName   = "transfer-encoding"
	allowName      = "allow"
	retryName      = "retry-after"
	connectionName = "connection"
)

// underway is an answer under way.
type underway struct {
	api.Head
	body string
}

// begun is an answer of a status, as yet without fields.
func begun(status int, reason string) *underway {
	return &underway{Head: api.Head{First: words(version, digits(status), reason)}}
}

// put puts fields behind those that are there.
func (u *underway) put(fields ...api.Header) { u.Fields = append(u.Fields, fields...) }

// bytes are those of the head and of what stands behind it.
func (u *underway) bytes() []byte {
	// Never refused: of what is handed in no text stands in the head.
	b, _ := head.Encode(u.Head)
	return append(b, u.body...)
}

// plain is a plain answer of a status and a text that may be.
func plain(status int, reason, text string) *underway {
	u := begun(status, reason)
	u.body = text + end
	put := u.put
	put(field(typeName, "text/plain"), field(lengthName, digits(len(u.body))))
	putOwn(status, put)
	put(field(connectionName, "close"))
	return u
}

// putOwn puts what the answers of one status alone have.
func putOwn(status int, put func(...api.Header)) {
	switch status {
	case noGet:
		put(field(allowName, "GET"))
	case busy:
		put(field(retryName, "1"))
	}
}

// stream is a stream's head, with nothing behind it.
func stream(chunked bool) *underway {
	reason, _ := Reason(good)
	u := begun(good, reason)
	put := u.put
	put(field(typeName, "text/event-stream"), field(cacheName, "no-store"))
	if chunked {
		put(field(encodingName, "chunked"))
	} else {
		put(field(connectionName, "close"))
	}
	return u
}

// field is one of a head.
func field(name, value string) api.Header { return api.Header{Name: name, Value: value} }

// words are texts with blanks between.
func words(l ...string) string { return strings.Join(l, blank) }

// digits are those of a number that is not below 0.
func digits(n int) string { return decimal.Text(uint64(n)) }

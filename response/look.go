package response

import (
	"strings"

	"bellman/api"
	"bellman/decimal"
	"bellman/head"
	"bellman/token"
)

const (
	// blank stands between a First line's parts. A byte 9 is none: it is one in layer 9 alone.
	blank = " "
	// newer and older are the versions of replies.
	newer = "HTTP/1.1"
	older = "HTTP/1.0"
	// wide is how many digits a Status has, which is from least to most.
	wide  = 3
	least = 100
	most  = 599
	// kind is the type of event streams.
	kind = "text/event-stream"
	// behindKind stands between a type and its parameters.
	behindKind = ';'
	// chunked is the one way in which a body may be encoded.
	chunked = "chunked"
	// text is what is told behind a Status.
	text = "x"
)

// Names of fields.
const (
	typeName     = "content-type"
	encodingName = "transfer-encoding"
	lengthName   = "content-length"
)

// look is a head that is looked at.
type look struct{ api.Head }

// looked looks at a head; it gives up on one that may not be.
func looked(h api.Head) *look {
	must(head.Check(h) == api.OK, api.ErrArg)
	return &look{h}
}

// reply is what is answered; it gives up on a head that is no reply's.
func (l *look) reply() api.Reply {
	r := api.Reply{Status: l.status(), Event: l.isEvent(), Chunked: l.isChunked()}
	r.Length, r.Sized = l.length()
	must(!r.Chunked || !r.Sized, api.ErrReply)
	return r
}

// status is what the First line tells; it gives up on one that is none of a reply.
func (l *look) status() int {
	version, rest, _ := strings.Cut(l.First, blank)
	digits, _, _ := strings.Cut(rest, blank)
	must(version == newer || version == older, api.ErrReply)
	must(len(digits) == wide, api.ErrReply)
	status := int(number(digits))
	must(isStatus(status), api.ErrReply)
	return status
}

// isEvent tells whether the body is an event stream.
func (l *look) isEvent() bool {
	one, is := lone(l.Head, typeName, ahead)
	return is && token.Same(one, kind)
}

// isChunked tells whether the body comes in chunks; it gives up on a body that is encoded in another way.
func (l *look) isChunked() bool {
	values, many := head.Get(l.Head, encodingName)
	if many == 0 {
		return false
	}
	items := token.Items(values)
	must(len(items) == 1 && token.Same(items[0], chunked), api.ErrReply)
	return true
}

// length is how many bytes the body has, and whether that is told; it gives up on what is told in another way.
func (l *look) length() (uint64, bool) {
	if _, many := head.Get(l.Head, lengthName); many == 0 {
		return 0, false
	}
	length, is := lone(l.Head, lengthName, number)
	must(is, api.ErrReply)
	return length, true
}

// lone is what the one field of a name tells, and whether there is just one.
func lone[T any](h api.Head, name string, tells func(string) T) (T, bool) {
	value, many := head.Get(h, name)
	if many != 1 {
		var none T
		return none, false
	}
	return tells(value), true
}

// ahead is a type without its parameters.
func ahead(value string) string {
	one, _, _ := token.Cut(value, behindKind)
	return one
}

// number is the one of digits; it gives up on what is none.
func number(digits string) uint64 {
	n, no := decimal.Digits(digits)
	must(no == api.OK, api.ErrReply)
	return n
}

// isStatus tells whether a number is a Status.
func isStatus(n int) bool { return least <= n && n <= most }

// telling is the head of a reply; it gives up on one that may not be.
func telling(r api.Reply) api.Head {
	must(isStatus(r.Status), api.ErrArg)
	must(!r.Chunked || !r.Sized, api.ErrArg)
	must(r.Sized || r.Length == 0, api.ErrArg)
	var fields []api.Header
	if r.Event {
		fields = append(fields, api.Header{Name: typeName, Value: kind})
	}
	if r.Chunked {
		fields = append(fields, api.Header{Name: encodingName, Value: chunked})
	}
	if r.Sized {
		fields = append(fields, api.Header{Name: lengthName, Value: decimal.Text(r.Length)})
	}
	return api.Head{First: strings.Join([]string{newer, decimal.Text(uint64(r.Status)), text}, blank), Fields: fields}
}

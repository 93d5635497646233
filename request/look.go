package request

import (
	"iter"
	"strings"

	"bellman/accept"
	"bellman/api"
	"bellman/head"
	"bellman/target"
	"bellman/token"
)

const (
	// blank stands between a First line's parts. A byte 9 is none: it is one in layer 9 alone.
	blank = " "
	// get is the Method of all that is not refused.
	get = "GET"
	// protocol stands ahead of a version's two digits and their dot.
	protocol = "HTTP/"
	// newer and older are the versions that are not refused.
	newer = protocol + "1.1"
	older = protocol + "1.0"
	// health is the path that is answered whatever a client takes.
	health = "/health"
	// kind and sub are the type of event streams.
	kind = "text"
	sub  = "event-stream"
)

// Names of fields.
const (
	hostName       = "host"
	encodingName   = "transfer-encoding"
	lengthName     = "content-length"
	lastIdName     = "last-event-id"
	acceptName     = "accept"
	connectionName = "connection"
)

// closing is the item of connection that asks for its end.
const closing = "close"

// look is a head that is looked at.
type look struct {
	api.Head
	// What stands ahead of the First line's first blank, and behind its second one.
	method, version string
	// What stands between, and whether it is a target's text.
	target api.Target
	aims   bool
}

// looked looks at a head; it gives up on one that may not be.
func looked(h api.Head) *look {
	must(head.Check(h) == api.OK, api.ErrArg)
	l := look{Head: h}
	method, rest, _ := strings.Cut(l.First, blank)
	text, version, _ := strings.Cut(rest, blank)
	to, no := target.Parse(text)
	l.method, l.version, l.target, l.aims = method, version, to, no == api.OK
	return &l
}

// status is the first of the statuses that is so.
func (l *look) status() int {
	var first int
search:
	for status, so := range l.statuses() {
		if so {
			first = status
			break search
		}
	}
	return first
}

// statuses goes over the statuses that a head may have, in order, each with whether it is so.
func (l *look) statuses() iter.Seq2[int, bool] {
	return func(yield func(int, bool) bool) {
		for _, one := range asks() {
			if !yield(one.status, one.so(l)) {
				return
			}
		}
	}
}

// request is what is asked by a head that is not refused.
func (l *look) request() api.Request {
	lastId, ids := l.values(lastIdName)
	return api.Request{
		// In memory of its own: a request holds on to no head.
		Method: strings.Clone(l.method),
		Target: l.target,
		Old:    l.isOld(),
		Has:    ids > 0,
		Close:  l.isOld() || l.closes(),
		LastId: lastId,
	}
}

// values are the Values of the fields of a name, and how many there are.
func (l *look) values(name string) (string, int) { return head.Get(l.Head, name) }

// many is how many fields of a name there are.
func (l *look) many(name string) int {
	_, many := l.values(name)
	return many
}

func (l *look) isOld() bool { return l.version == older }

// closes tells whether the connection's end is asked for.
func (l *look) closes() bool {
	values, _ := l.values(connectionName)
	return sought(func(item string) bool { return token.Same(item, closing) }, token.Items(values)...)
}

// isOdd tells whether the First line is none of a request, of whatever version.
func (l *look) isOdd() bool { return !token.Token(l.method) || !l.aims || !isVersion(l.version) }

// isNowhere tells whether it is not told, as it must be, to which host a head goes.
func (l *look) isNowhere() bool { return !l.isOld() && l.many(hostName) != 1 }

func (l *look) isEncoded() bool { return l.many(encodingName) > 0 }

// hasBody tells whether it is not sure that nothing comes behind a head.
func (l *look) hasBody() bool {
	values, many := l.values(lengthName)
	return many > 0 && values != "0"
}

// isTorn tells whether there are several last ids.
func (l *look) isTorn() bool { return l.many(lastIdName) > 1 }

// isStrange tells whether the version is one that nobody here speaks.
func (l *look) isStrange() bool { return l.version != newer && l.version != older }

func (l *look) isNoGet() bool { return l.method != get }

// isPicky tells whether a client does not take what it would be sent.
func (l *look) isPicky() bool {
	values, _ := l.values(acceptName)
	return !accept.Takes(values, kind, sub) && target.Path(l.target) != health
}

// isVersion tells whether a text is a version's.
func isVersion(s string) bool {
	digits, is := strings.CutPrefix(s, protocol)
	return is && len(digits) == 3 && isDigit(digits[0]) && digits[1] == '.' && isDigit(digits[2])
}

func isDigit(b byte) bool { return '0' <= b && b <= '9' }

// sought tells whether one of some things is what is sought.
func sought[T any](is func(T) bool, things ...T) bool {
	for _, one := range things {
		if is(one) {
			return true
		}
	}
	return false
}

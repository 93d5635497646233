package answer

import "iter"

// The statuses that more is said of than their reasons.
const (
	good  = 200
	noGet = 405
	busy  = 503
)

// status is one that clients are answered.
type status struct {
	number int
	reason string
}

// statuses rise.
var statuses = [8]status{
	{good, "OK"},
	{400, "Bad Request"},
	{404, "Not Found"},
	{noGet, "Method Not Allowed"},
	{406, "Not Acceptable"},
	{431, "Request Header Fields Too Large"},
	{busy, "Service Unavailable"},
	{505, "HTTP Version Not Supported"},
}

// sought is what stands by the first key that is sought, and whether there is one.
func sought[K, V any](is func(K) bool, things iter.Seq2[K, V]) (found V, has bool) {
search:
	for key, thing := range things {
		if is(key) {
			found, has = thing, true
			break search
		}
	}
	return found, has
}

package request

import "bellman/api"

// Statuses.
const (
	good    = 200
	bad     = 400
	noGet   = 405
	picky   = 406
	large   = 431
	strange = 505
)

// ask is what a status asks.
type ask struct {
	status int
	so     func(*look) bool
}

// asks are in order: the first one that is so counts. The last one always is.
func asks() [9]ask {
	return [...]ask{
		{bad, (*look).isOdd},
		{bad, (*look).isNowhere},
		{bad, (*look).isEncoded},
		{bad, (*look).hasBody},
		{bad, (*look).isTorn},
		{strange, (*look).isStrange},
		{noGet, (*look).isNoGet},
		{picky, (*look).isPicky},
		{good, func(*look) bool { return true }},
	}
}

// refusals are the statuses of errors, but of those that are refused as bad.
func refusals() map[api.Errno]int {
	return map[api.Errno]int{api.OK: 0, api.ErrLarge: large}
}

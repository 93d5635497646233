package head

import (
	"bellman/api"
	"bellman/token"
)

// The most that a reader's caps may be.
const (
	mostLine   = 8192
	mostBytes  = 65536
	mostFields = 256
)

// wrong is what is given up by, so that it is told from every other panic.
type wrong struct{ no api.Errno }

// tried does a deed, and tells by which error that was given up, if it was.
func tried(deed func()) (no api.Errno) {
	defer func() {
		thrown := recover()
		if thrown == nil {
			return
		}
		given, ours := thrown.(wrong)
		if !ours {
			panic(thrown)
		}
		no = given.no
	}()
	deed()
	return api.OK
}

// must gives up, unless something is so.
func must(so bool, no api.Errno) {
	if !so {
		panic(wrong{no})
	}
}

// mustBeWithin gives up on a number that is out of its bounds: of each three the first one is the number, the others
// are its least and its most.
func mustBeWithin(bounds ...int) {
	for len(bounds) > 0 {
		three := bounds[:3:3]
		must(three[1] <= three[0] && three[0] <= three[2], api.ErrArg)
		bounds = bounds[3:]
	}
}

// mustBe gives up on a head that may not be.
func mustBe(h api.Head) {
	must(begins(h.First) && ofValue(h.First), api.ErrArg)
	for _, f := range h.Fields {
		must(token.Token(f.Name) && token.Lower(f.Name) == f.Name && token.Value(f.Value), api.ErrArg)
	}
}

package response

import "bellman/api"

// wrong is what is given up by, so that it is told from every other panic.
type wrong struct{ no api.Errno }

// tried does a deed, and tells by which error that was given up, if it was.
func tried(deed func()) (no api.Errno) {
	defer func() {
		thrown := recover()
		if thrown == nil {
			return
		}
		given, ours := thrown.(wrong)
		if !ours {
			panic(thrown)
		}
		no = given.no
	}()
	deed()
	return api.OK
}

// must gives up, unless something is so.
func must(so bool, no api.Errno) {
	if !so {
		panic(wrong{no})
	}
}

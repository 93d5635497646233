package event

import (
	"strings"

	"bellman/api"
	"bellman/decimal"
	"bellman/utf"
)

// refusal is what is given up by, so that it is told from every other panic.
type refusal struct{ no api.Errno }

// face makes one thing of another one, and tells by which error that was given up, if it was.
func face[A, B any](of func(A) B, thing A) (made B, no api.Errno) {
	defer func() {
		thrown := recover()
		if thrown == nil {
			return
		}
		given, ours := thrown.(refusal)
		if !ours {
			panic(thrown)
		}
		no = given.no
	}()
	return of(thing), api.OK
}

// mustFit gives up on texts that have more bytes together than an event may have.
func mustFit(texts ...string) {
	left := api.MaxEvent
	for _, text := range texts {
		if len(text) > left {
			panic(refusal{api.ErrArg})
		}
		left -= len(text)
	}
}

// mustBeClean gives up on a text that is not sound, or has one of the signs that it bars.
func mustBeClean(text string, barred int) {
	if !utf.Sound(text) {
		panic(refusal{api.ErrArg})
	}
	for place := range barred {
		if strings.IndexByte(text, signs[place]) >= 0 {
			panic(refusal{api.ErrArg})
		}
	}
}

// beginning is where an epoch goes on for one who is told a reset.
type beginning struct{ epoch, start uint64 }

// numbers are those of a reset; it gives up on what is none.
func numbers(e api.Event) beginning {
	// Without a blank the other text is empty, which is no number's.
	epoch, start, _ := strings.Cut(e.Data, blank)
	if e.Id != "" || !Reserved(e) {
		panic(refusal{api.ErrReset})
	}
	return beginning{number(epoch), number(start)}
}

// number is that of a text; it gives up on what is no number's text.
func number(text string) uint64 {
	n, e := decimal.Parse(text)
	if e != api.OK {
		panic(refusal{api.ErrReset})
	}
	return n
}

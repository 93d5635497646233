package target

import (
	"slices"
	"strings"

	"bellman/api"
	"bellman/decimal"
)

const (
	// slash stands ahead of each part.
	slash = "/"
	// question stands between the path and the query.
	question = "?"
	// and stands between two pairs.
	and = "&"
	// equals stands between a Key and its Val.
	equals = "="
	// percent stands ahead of a byte's two digits.
	percent = "%"
	// plusSign stands for a blank, in a pair.
	plusSign = "+"
	// fragment is a byte that could stand in a text, and may not.
	fragment = '#'
	// signs are the bytes beside letters and digits that stand as they are.
	signs = "-._~"
)

// ofTarget is what a target's text must be.
func ofTarget() [2]func(string) bool {
	return [...]func(string) bool{
		func(s string) bool { return strings.HasPrefix(s, slash) },
		func(s string) bool {
			for _, sign := range s {
				// One of more bytes, too, is above the last one that may be.
				if sign < '!' || '~' < sign || sign == fragment {
					return false
				}
			}
			return true
		},
	}
}

// ofPart is what a part must be, decoded, so that a path leads to nothing above it, and to no other part.
func ofPart() [2]func(string) bool {
	return [...]func(string) bool{
		func(part string) bool { return part != "." && part != ".." },
		func(part string) bool { return !strings.ContainsAny(part, slash+"\x00") },
	}
}

// read reads a target; it gives up on a text that is none's.
func read(s string) api.Target {
	all := ofTarget()
	mustBe(api.ErrTarget, s, all[:]...)
	path, query, _ := strings.Cut(s, question)
	pairs := slices.DeleteFunc(strings.Split(query, and), func(one string) bool { return one == "" })
	return api.Target{
		Path:  made(part, strings.Split(path, slash)[1:]...),
		Query: made(pair, pairs...),
	}
}

// part reads a part; it gives up on one that is wrong.
func part(s string) string {
	all := ofPart()
	plain := decoded(s, false)
	mustBe(api.ErrTarget, plain, all[:]...)
	return plain
}

// pair reads a pair; it gives up on one that is wrong.
func pair(s string) api.Pair {
	key, val, _ := strings.Cut(s, equals)
	return api.Pair{Key: decoded(key, true), Val: decoded(val, true)}
}

// made are things, each one made of a text.
func made[T any](of func(string) T, texts ...string) []T {
	var l []T
	for _, one := range texts {
		l = append(l, of(one))
	}
	return l
}

// written is a target's text; it gives up on one that may not be.
func written(t api.Target) string {
	all := ofPart()
	must(len(t.Path) > 0, api.ErrArg)
	for _, one := range t.Path {
		mustBe(api.ErrArg, one, all[:]...)
	}
	var s strings.Builder
	s.WriteString(Path(api.Target{Path: made(Encode, t.Path...)}))
	ahead := question
	for key, val := range Pairs(t) {
		s.WriteString(ahead + Encode(key) + equals + Encode(val))
		ahead = and
	}
	return s.String()
}

// stands tells whether a byte is written as it is.
func stands(b byte) bool {
	letter := 'a' <= b && b <= 'z' || 'A' <= b && b <= 'Z'
	digit := '0' <= b && b <= '9'
	return letter || digit || strings.IndexByte(signs, b) >= 0
}

// escaped is a byte that is written by its two digits.
func escaped(b byte) string {
	// A third digit ahead, which is left out again, brings the nought that a number's hex has not.
	const ahead = 0x100
	return percent + strings.ToUpper(decimal.Hex(ahead + uint64(b)))[1:]
}

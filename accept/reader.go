package accept

import (
	"iter"
	"strings"

	"bellman/api"
	"bellman/token"
)

const (
	// comma stands between two items of a list.
	comma = ','
	// semicolon stands ahead of each parameter.
	semicolon = ';'
	// slash stands between a type and its subtype.
	slash = "/"
	// equals stands between a parameter's name and its value.
	equals = '='
	// dot stands ahead of a quality's thousandths.
	dot = "."
	// weight is the name of the parameter that tells the quality.
	weight = "q"
)

// items goes over a list's items that are not empty, each with its number.
func items(s string) iter.Seq2[int, string] {
	return func(yield func(int, string) bool) {
		number := 0
		for _, item := range token.Each(s, comma) {
			if item == "" {
				continue
			}
			if !yield(number, item) {
				return
			}
			number++
		}
	}
}

// read reads a list's ranges; it gives up on what is wrong.
func read(s string) []api.Range {
	must(token.Value(s))
	var l []api.Range
	for _, item := range items(s) {
		l = append(l, ranged(item))
	}
	return l
}

// ranged reads a range; it gives up on what is none.
func ranged(item string) api.Range {
	var parts []string
	for _, part := range token.Each(item, semicolon) {
		parts = append(parts, part)
	}
	r := reader{Range: api.Range{Quality: full}}
	r.names(parts[0])
	r.params(parts[1:]...)
	return r.Range
}

// reader is a range that is read.
type reader struct {
	api.Range
	// Whether the quality was told: parameters behind it do not count.
	weighed bool
}

// names reads the type and the subtype; it gives up on what is none.
func (r *reader) names(s string) {
	kind, sub, _ := strings.Cut(s, slash)
	must(token.Token(kind) && token.Token(sub))
	must(kind != star || sub == star)
	r.Type, r.Subtype = token.Lower(kind), token.Lower(sub)
}

// params reads parameters, of which empty ones are left out; it gives up on what is none.
func (r *reader) params(all ...string) {
	for _, one := range all {
		if one != "" {
			r.param(pair(one))
		}
	}
}

// param takes a parameter in; it gives up on a first quality that is none.
func (r *reader) param(name, value string) {
	switch {
	case r.weighed:
	case name == weight:
		r.Quality, r.weighed = thousandths(value), true
	default:
		r.Params++
	}
}

// pair reads a parameter; it gives up on what is none.
func pair(s string) (name, value string) {
	name, value, has := token.Cut(s, equals)
	must(token.Token(name))
	if has && !token.Token(value) {
		plain, no := token.Quoted(value)
		must(no == api.OK)
		value = plain
	}
	return token.Lower(name), value
}

// thousandths reads a quality; it gives up on what is none.
func thousandths(s string) int {
	whole, digits, _ := strings.Cut(s, dot)
	must(whole == "0" || whole == "1")
	must(len(digits) <= 3)
	sum, worth := 0, full
	for _, digit := range whole + digits {
		must('0' <= digit && digit <= '9')
		sum += worth * int(digit-'0')
		worth /= 10
	}
	must(sum <= full)
	return sum
}

package parse

import (
	"iter"
	"slices"
	"strings"

	"bellman/api"
	"bellman/field"
)

// The places of caps.
const (
	ofLine = iota
	ofEvent
)

// greatest are the greatest caps that may be.
var greatest = [2]int{ofLine: api.MaxLine, ofEvent: api.MaxEvent}

// end stands behind each value that is put to Data.
const end = "\n"

// underway is an event whose end has not come.
type underway struct {
	kind string
	// With an end behind each value: it is empty only if there was none.
	data []byte
	long bool
}

// apart is another one with the same.
func (u *underway) apart() underway { return underway{u.kind, slices.Clone(u.data), u.long} }

// deeds are what fields do, by their Kinds; others do nothing.
func deeds() map[api.FieldKind]func(*Parser, api.Field) api.Said {
	return map[api.FieldKind]func(*Parser, api.Field) api.Said{
		api.FieldNone:  (*Parser).lengthen,
		api.FieldEnd:   (*Parser).finish,
		api.FieldData:  (*Parser).put,
		api.FieldEvent: (*Parser).name,
		api.FieldId:    (*Parser).identify,
		api.FieldRetry: (*Parser).retry,
	}
}

// fresh is a parser to which nothing came, of caps that may be.
func fresh(caps [2]int) *Parser { return &Parser{splitter: split(caps[ofLine]), caps: caps} }

// come lets pieces come, and goes over what is said, each with its number.
func (p *Parser) come(pieces ...[]byte) iter.Seq2[int, api.Said] {
	return gather(p.do, p.fields(pieces...))
}

// gather goes over what comes of things, each with its number; where nothing comes of one, it is left out.
func gather[A any, B comparable](of func(A) B, things iter.Seq[A]) iter.Seq2[int, B] {
	return func(yield func(int, B) bool) {
		var nothing B
		number := 0
		for thing := range things {
			made := of(thing)
			if made == nothing {
				continue
			}
			if !yield(number, made) {
				return
			}
			number++
		}
	}
}

// do does what a field does, and is what is said then, if anything is.
func (p *Parser) do(f api.Field) api.Said {
	deed, does := deeds()[f.Kind]
	if !does {
		return api.Said{}
	}
	return deed(p, f)
}

// lengthen makes the event too long.
func (p *Parser) lengthen(api.Field) api.Said {
	p.event.long = true
	return api.Said{}
}

// put puts a value to the Data. It is the Data ahead of that whose bytes count: one value may go beyond the cap.
func (p *Parser) put(f api.Field) api.Said {
	switch {
	case p.event.long:
	case len(p.event.data) > p.caps[ofEvent]+len(end):
		p.event.long = true
	default:
		p.event.data = append(append(p.event.data, f.Value...), end...)
	}
	return api.Said{}
}

// name makes a value the Type.
func (p *Parser) name(f api.Field) api.Said {
	p.event.kind = f.Value
	return api.Said{}
}

// identify makes a value the last id, which stays, whatever becomes of the event.
func (p *Parser) identify(f api.Field) api.Said {
	p.lastId = f.Value
	return api.Said{}
}

// retry says a number.
func (p *Parser) retry(f api.Field) api.Said {
	n, _ := field.Retry(f)
	return api.Said{Kind: api.SaidRetry, Retry: n}
}

// finish says the event, if it is one, or that it is too long, and begins the next one.
func (p *Parser) finish(api.Field) api.Said {
	ended := p.event
	p.event = underway{}
	e := api.Event{Id: p.lastId, Type: ended.kind, Data: strings.TrimSuffix(string(ended.data), end)}
	switch {
	case ended.long || len(e.Id)+len(e.Type)+len(e.Data) > p.caps[ofEvent]:
		return api.Said{Kind: api.SaidLong}
	case len(ended.data) > 0:
		return api.Said{Kind: api.SaidEvent, Event: e}
	}
	return api.Said{}
}

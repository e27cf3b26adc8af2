package tale

import (
	"bytes"
	"strconv"
	"strings"

	"sporran/api"
)

// noKind is no event's Kind.
const noKind = 0

// none is told of bytes where there are none, so that each field has a word.
const none = "-"

const hexDigits = "0123456789abcdef"

// field is a place in an event, as a word: what tells it, and what takes it from a word, if the word can be one of it.
type field struct {
	tell func() string
	take func(word string) bool
}

// firstWord gives the word by which a Kind is known.
func firstWord(kind int) string {
	switch kind {
	case api.EvOp:
		return "op"
	case api.EvFlush:
		return "flush"
	case api.EvCollect:
		return "collect"
	case api.EvFuse:
		return "fuse"
	case api.EvCrash:
		return "crash"
	case api.EvMount:
		return "mount"
	case api.EvSet:
		return "set"
	case api.EvBack:
		return "back"
	}
	return "?"
}

// kindOf gives the Kind that is known by a word, or noKind.
func kindOf(word string) int {
	for kind := api.EvOp; kind <= api.EvBack; kind++ {
		if firstWord(kind) == word {
			return kind
		}
	}
	return noKind
}

// fields gives those places of an event that its Kind tells, in order.
func fields(e *api.Event) []field {
	switch e.Kind {
	case api.EvOp:
		o := &e.Op
		return []field{number(&o.Kind), text(&o.Name), text(&o.Other), number(&o.Number), number(&o.Quota), row(o.Block[:])}
	case api.EvFuse, api.EvBack:
		return []field{number(&e.N)}
	case api.EvCrash:
		return []field{list(&e.Picks)}
	case api.EvSet:
		return []field{number(&e.At), row(e.Sector[:])}
	}
	return nil
}

// number is a field that is a number.
func number(n *int) field {
	return field{
		tell: func() string { return strconv.Itoa(*n) },
		take: func(word string) bool {
			v, err := strconv.Atoi(word)
			*n = v
			return err == nil
		},
	}
}

// text is a field that is a text.
func text(s *string) field {
	return field{
		tell: func() string { return hex([]byte(*s)) },
		take: func(word string) bool {
			b, right := unhex(word)
			*s = string(b)
			return right
		},
	}
}

// list is a field that is bytes.
func list(l *[]byte) field {
	return field{
		tell: func() string { return hex(*l) },
		take: func(word string) bool {
			b, right := unhex(word)
			*l = b
			return right
		},
	}
}

// row is a field that has always as many bytes: a block, a sector.
func row(r []byte) field {
	return field{
		tell: func() string { return hex(bytes.TrimRight(r, "\x00")) },
		take: func(word string) bool {
			b, right := unhex(word)
			copy(r, b)
			return right && len(b) <= len(r)
		},
	}
}

// hex gives bytes as a word.
func hex(b []byte) string {
	if len(b) == 0 {
		return none
	}
	word := make([]byte, 0, 2*len(b))
	for _, v := range b {
		word = append(word, hexDigits[v>>4], hexDigits[v&15])
	}
	return string(word)
}

// unhex gives the bytes of a word; false, if it is none that hex gives.
func unhex(word string) ([]byte, bool) {
	if word == none {
		return nil, true
	}
	if word == "" || len(word)%2 != 0 {
		return nil, false
	}
	b := make([]byte, 0, len(word)/2)
	for i := 0; i < len(word); i += 2 {
		high, low := strings.IndexByte(hexDigits, word[i]), strings.IndexByte(hexDigits, word[i+1])
		if high < 0 || low < 0 {
			return nil, false
		}
		b = append(b, byte(high<<4|low))
	}
	return b, true
}

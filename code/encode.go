package code

import (
	"sluiceway/api"
	"sluiceway/vary"
	"sluiceway/wire"
)

const (
	// textKind is that of a text that is a program.
	textKind = 'P'
	// head is the tag of the part that isn't a function's; those of the functions follow it, one by one.
	head = 'a'
)

// Encode is a program as bytes. Right's errors; wire's.
func Encode(p api.Program) (string, error) {
	if err := Right(p); err != nil {
		return "", err
	}
	l := []api.Part{{Tag: head, Body: count(p.Globals)}}
	for k, f := range p.Fns {
		l = append(l, api.Part{Tag: tag(k), Body: fnText(f)})
	}
	return wire.Seal(textKind, l)
}

// tag is that of the k-th function's part.
func tag(k int) byte {
	return byte(head + 1 + k)
}

// fnText is a function as bytes. It must be right.
func fnText(f api.Fn) string {
	b := []byte(count(f.Params) + count(len(f.Locals)))
	for _, kind := range f.Locals {
		b = append(b, byte(kind))
	}
	b = append(b, byte(f.Kind))
	b = append(b, count(len(f.Code))...)
	for _, i := range f.Code {
		b = append(b, byte(i.Op))
		if HasN(i.Op) {
			b = append(b, vary.Int(i.N)...)
		}
	}
	return string(b)
}

func count(n int) string {
	return vary.Num(uint64(n))
}

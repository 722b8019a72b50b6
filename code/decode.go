package code

import (
	"sluiceway/api"
	"sluiceway/vary"
	"sluiceway/wire"
)

// reader goes through a part's body. Behind the first thing that is wrong it reads noughts.
type reader struct {
	text string
	at   int
	err  error
}

// Decode reads what Encode wrote. Wire's errors; ErrForm; ErrLimit; Right's.
func Decode(s string) (api.Program, error) {
	kind, l, err := wire.Open(s)
	if err != nil {
		return api.Program{}, err
	}
	if kind != textKind || len(l) == 0 || l[0].Tag != head {
		return api.Program{}, api.ErrForm
	}
	if len(l)-1 > api.MaxFuncs {
		return api.Program{}, api.ErrLimit
	}
	p, err := readParts(l[0], l[1:])
	if err == nil {
		err = Right(p)
	}
	if err != nil {
		return api.Program{}, err
	}
	return p, nil
}

// readParts reads the first part, and the functions' parts.
func readParts(first api.Part, fns []api.Part) (api.Program, error) {
	var p api.Program
	r := reader{text: first.Body}
	p.Globals = r.count(api.MaxGlobals)
	if err := r.end(); err != nil {
		return p, err
	}
	for k, part := range fns {
		if part.Tag != tag(k) {
			return p, api.ErrForm
		}
		r = reader{text: part.Body}
		p.Fns = append(p.Fns, r.fn())
		if err := r.end(); err != nil {
			return p, err
		}
	}
	return p, nil
}

// fn reads a function.
func (r *reader) fn() api.Fn {
	var f api.Fn
	f.Params = r.count(api.MaxVars)
	for range r.count(api.MaxVars) {
		f.Locals = append(f.Locals, r.byte())
	}
	f.Kind = r.byte()
	for range r.count(api.MaxIns) {
		f.Code = append(f.Code, r.ins())
	}
	return f
}

// ins reads an instruction. An Op that is none has no N, for it isn't known what is behind it.
func (r *reader) ins() api.Ins {
	i := api.Ins{Op: r.byte()}
	if HasN(i.Op) {
		i.N = r.number()
	}
	return i
}

// count reads how many there are of something. ErrLimit: there are more than may be.
func (r *reader) count(most uint64) int {
	n, end, err := vary.ReadNum(r.text, r.at)
	if err != nil {
		r.wrong(api.ErrForm)
	} else if n > most {
		r.wrong(api.ErrLimit)
	}
	if r.err != nil {
		return 0
	}
	r.at = end
	return int(n)
}

// number reads one that may be below 0.
func (r *reader) number() int {
	n, end, err := vary.ReadInt(r.text, r.at)
	if err != nil {
		r.wrong(api.ErrForm)
	}
	if r.err != nil {
		return 0
	}
	r.at = end
	return n
}

// byte reads one.
func (r *reader) byte() int {
	if r.at == len(r.text) {
		r.wrong(api.ErrForm)
	}
	if r.err != nil {
		return 0
	}
	r.at++
	return int(r.text[r.at-1])
}

// wrong tells what is wrong, if nothing was ahead of it.
func (r *reader) wrong(e api.Errno) {
	if r.err == nil {
		r.err = e
	}
}

// end is what was wrong. ErrForm, too: there is more.
func (r *reader) end() error {
	if r.at != len(r.text) {
		r.wrong(api.ErrForm)
	}
	return r.err
}

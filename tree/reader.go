package tree

import "sluiceway/api"

// reader is a program that is being read: its tokens, which one comes next, where the text ends, and in how many blocks and selects that one lies.
type reader struct {
	tokens []api.Token
	next   int
	end    int
	depth  int
}

// caught is what was thrown, as an error.
func caught(thrown any) error {
	if wrong, ok := thrown.(*api.At); ok {
		return wrong
	}
	// No text comes here: it would be a fault of the reader's own, and is told without a place.
	return api.ErrState
}

// fail throws what is wrong at the token that comes next.
func (r *reader) fail(e api.Errno) {
	panic(&api.At{Err: e, Place: r.peek().At})
}

// peek is the token that comes next; behind the last one it has no kind, and stands where the text ends.
func (r *reader) peek() api.Token {
	return r.ahead(0)
}

// ahead is the token that comes behind so many others.
func (r *reader) ahead(n int) api.Token {
	if r.next+n >= len(r.tokens) {
		return api.Token{At: r.end}
	}
	return r.tokens[r.next+n]
}

// is says whether the token that comes next is this word of the language, or this sign. (No token of another kind has such a text.)
func (r *reader) is(text string) bool {
	return r.peek().Text == text
}

// ended says whether there are no more tokens.
func (r *reader) ended() bool {
	return r.next >= len(r.tokens)
}

// skip goes over a token, whatever it is.
func (r *reader) skip() api.Token {
	t := r.peek()
	r.next++
	return t
}

// take goes over this word of the language, or this sign, which must come next.
func (r *reader) take(text string) api.Token {
	if !r.is(text) {
		r.fail(api.ErrForm)
	}
	return r.skip()
}

// takeKind goes over a token of this kind, which must come next.
func (r *reader) takeKind(kind int) api.Token {
	if r.peek().Kind != kind {
		r.fail(api.ErrForm)
	}
	return r.skip()
}

// takeIf goes over this word of the language, or this sign, if it comes next, and says whether it did.
func (r *reader) takeIf(text string) bool {
	found := r.is(text)
	if found {
		r.skip()
	}
	return found
}

// list reads brackets, and items in them, if there are any, with commas between them.
func (r *reader) list(item func()) {
	r.take("(")
	if r.takeIf(")") {
		return
	}
	for item(); r.takeIf(","); {
		item()
	}
	r.take(")")
}

// within reads { and } with what lies in them.
func (r *reader) within(inside func()) {
	if r.is("{") && r.depth >= api.MaxDepth {
		r.fail(api.ErrLimit)
	}
	r.take("{")
	r.depth++
	inside()
	r.depth--
	r.take("}")
}

// program reads all of the text.
func (r *reader) program() api.Source {
	var src api.Source
	for !r.ended() {
		switch {
		case r.is("var"):
			r.hasRoom(len(src.Globals), api.MaxGlobals)
			src.Globals = append(src.Globals, r.global())
		case r.is("func"):
			r.hasRoom(len(src.Funcs), api.MaxFuncs)
			src.Funcs = append(src.Funcs, r.function())
		default:
			r.fail(api.ErrForm)
		}
		r.takeKind(api.Line)
	}
	return src
}

// hasRoom throws, if there are as many as there may be already.
func (r *reader) hasRoom(have, most int) {
	if have >= most {
		r.fail(api.ErrLimit)
	}
}

// global reads var NAME.
func (r *reader) global() api.Global {
	r.take("var")
	name := r.takeKind(api.Word)
	return api.Global{Name: name.Text, At: name.At}
}

// function reads a function, up to its block's end.
func (r *reader) function() api.Func {
	r.take("func")
	name := r.takeKind(api.Word)
	f := api.Func{Name: name.Text, At: name.At}
	r.list(func() {
		param := r.takeKind(api.Word)
		kind := r.kind()
		if kind == api.None {
			r.fail(api.ErrForm)
		}
		f.Params = append(f.Params, api.Param{Name: param.Text, Kind: kind, At: param.At})
	})
	f.Kind = r.kind()
	f.Body = r.block()
	return f
}

// kind reads a kind, if one comes next (None: none does).
func (r *reader) kind() int {
	kind := kindOf(r.peek().Text)
	if kind != api.None {
		r.skip()
	}
	return kind
}

// block reads { STMT END .. }.
func (r *reader) block() []api.Stmt {
	var l []api.Stmt
	r.within(func() {
		l = r.stmts(func() bool { return r.is("}") })
	})
	return l
}

// stmts reads statements, and their ends, up to where they stop.
func (r *reader) stmts(stop func() bool) []api.Stmt {
	var l []api.Stmt
	for !stop() {
		l = append(l, r.stmt())
		if !r.is("}") {
			r.takeKind(api.Line)
		}
	}
	return l
}

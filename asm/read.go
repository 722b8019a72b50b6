package asm

import (
	"iter"
	"strconv"
	"strings"

	"sluiceway/api"
	"sluiceway/arith"
	"sluiceway/code"
)

// reader is a program of which some lines have been read.
type reader struct {
	program api.Program
	// begun: the first line was read.
	begun bool
}

// Read is a program of a text: words with blanks between, a line each. ErrForm, with the line (from 0 on); ErrLimit: the text has more than MaxBody bytes; code's errors (Right).
func Read(s string) (api.Program, error) {
	if len(s) > api.MaxBody {
		return api.Program{}, api.ErrLimit
	}
	var r reader
	for line, words := range lines(s) {
		if !r.read(words) {
			return api.Program{}, wrong(line)
		}
	}
	if !r.begun {
		return api.Program{}, wrong(1 + strings.Count(s, "\n"))
	}
	if err := code.Right(r.program); err != nil {
		return api.Program{}, err
	}
	return r.program, nil
}

// lines goes through the words of all lines that have any, with the lines' numbers.
func lines(s string) iter.Seq2[int, []string] {
	return func(yield func(int, []string) bool) {
		line := 0
		for text := range strings.SplitSeq(s, "\n") {
			words := strings.FieldsFunc(text, isBlank)
			if len(words) > 0 && !yield(line, words) {
				return
			}
			line++
		}
	}
}

func isBlank(r rune) bool {
	return r == ' '
}

// wrong is what is told of a line that is none.
func wrong(line int) error {
	return &api.At{Err: api.ErrForm, Place: line}
}

// read takes a line, and says whether it may stand here.
func (r *reader) read(words []string) bool {
	switch {
	case !r.begun:
		return r.readGlobals(words)
	case words[0] == fn:
		return r.readHead(words)
	}
	return r.readIns(words)
}

// readGlobals takes the first line.
func (r *reader) readGlobals(words []string) bool {
	if len(words) != 2 || words[0] != globals {
		return false
	}
	n, ok := number(words[1])
	r.program.Globals, r.begun = n, true
	return ok
}

// readHead takes the line that a function begins with.
func (r *reader) readHead(words []string) bool {
	f, ok := headOf(words)
	r.program.Fns = append(r.program.Fns, f)
	return ok
}

// readIns takes an instruction's line.
func (r *reader) readIns(words []string) bool {
	i, ok := insOf(words)
	if !ok || len(r.program.Fns) == 0 {
		return false
	}
	f := &r.program.Fns[len(r.program.Fns)-1]
	f.Code = append(f.Code, i)
	return true
}

// headOf is the function, of no instructions yet, whose first line is written so.
func headOf(words []string) (api.Fn, bool) {
	if len(words) < 3 {
		return api.Fn{}, false
	}
	kind, isKind := kindOf(words[1])
	params, isNumber := number(words[2])
	locals, areKinds := localsOf(words[3:])
	return api.Fn{Params: params, Locals: locals, Kind: kind}, isKind && isNumber && areKinds
}

// localsOf is the kinds of locals that are written so. No local is of none.
func localsOf(words []string) ([]int, bool) {
	var l []int
	for _, word := range words {
		kind, ok := kindOf(word)
		if !ok || kind == api.None {
			return nil, false
		}
		l = append(l, kind)
	}
	return l, true
}

// insOf is the instruction that is written so. There must be a word.
func insOf(words []string) (api.Ins, bool) {
	op := opOf(words[0])
	if !code.HasN(op) {
		return api.Ins{Op: op}, op != 0 && len(words) == 1
	}
	if len(words) != 2 {
		return api.Ins{}, false
	}
	n, ok := numberOf(op, words[1])
	return api.Ins{Op: op, N: n}, ok
}

// opOf is the instruction that is written so (0: none is).
func opOf(word string) int {
	for op, name := range names {
		if name == word {
			return op
		}
	}
	return 0
}

// numberOf is what stands behind an instruction's name: a number, or the sign of an op.
func numberOf(op int, word string) (int, bool) {
	switch op {
	case api.IBin:
		n := arith.Two(word)
		return n, n != 0
	case api.IUn:
		n := arith.One(word)
		return n, n != 0
	}
	return number(word)
}

// kindOf is the kind that is written so.
func kindOf(word string) (int, bool) {
	for kind, name := range kinds {
		if name == word {
			return kind, true
		}
	}
	return 0, false
}

// number is one that is written as Write does: there is just one word for it.
func number(word string) (int, bool) {
	n, err := strconv.Atoi(word)
	if err != nil || strconv.Itoa(n) != word {
		return 0, false
	}
	return n, true
}

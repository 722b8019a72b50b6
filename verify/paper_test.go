package verify_test

import (
	"strings"

	"sluiceway/api"
	"sluiceway/arith"
	"sluiceway/code"
)

// paper looks at a program as it is told, with a letter for each kind that waits, and throws the first thing that is wrong.
type paper struct {
	p     api.Program
	f     api.Fn
	ahead map[int]string // of those that are live
	at    int
	waits string
}

// told are the pictures of a program's functions, or what is wrong with it, and where (-1: nowhere).
func told(p api.Program) (pictures []string, e api.Errno, place int) {
	if err := code.Right(p); err != nil {
		return nil, api.Tell(err), -1
	}
	if len(p.Fns) == 0 || p.Fns[0].Params > 0 || p.Fns[0].Kind > 0 {
		return nil, api.ErrArg, -1
	}
	l := paper{p: p}
	fn := 0
	defer func() {
		if wrong, ok := recover().(api.Errno); ok {
			pictures, e, place = nil, wrong, fn*api.MaxIns+l.at
		}
	}()
	for fn, l.f = range p.Fns {
		pictures = append(pictures, l.function())
	}
	return pictures, api.OK, -1
}

// letter is a kind's.
func letter(kind int) string {
	return letters([]int{kind})
}

// function is a function's picture.
func (l *paper) function() string {
	l.at, l.ahead = 0, map[int]string{0: ""}
	if len(l.f.Code) == 0 {
		panic(api.ErrMissing)
	}
	if l.f.Code[0].Op >= api.ICaseSend {
		panic(api.ErrState)
	}
	for at, i := range l.f.Code {
		if waits, live := l.ahead[at]; live {
			l.at, l.waits = at, waits
			l.look(i)
		}
	}
	l.at = 0
	var words []string
	for at := range l.f.Code {
		word := "-"
		if waits, live := l.ahead[at]; live {
			word = pictured(waits)
		}
		words = append(words, word)
	}
	return strings.Join(words, " ")
}

// look looks at one that is live.
func (l *paper) look(i api.Ins) {
	takes, puts, more := l.change(i)
	l.take(takes)
	l.put(puts)
	switch i.Op {
	case api.IRet:
		if l.waits != "" {
			panic(api.ErrFalse)
		}
	case api.ISelect:
		l.cases(i.N)
	case api.IJump, api.IFalse:
		l.come(i.N)
	}
	if !more {
		return
	}
	if l.at+1 >= len(l.f.Code) {
		panic(api.ErrMissing)
	}
	l.come(l.at + 1)
}

// change is what an instruction takes, and puts, and whether the next one comes behind it.
func (l *paper) change(i api.Ins) (takes, puts string, more bool) {
	there := map[int]int{
		api.IGet: len(l.f.Locals), api.ISet: len(l.f.Locals), api.ILoad: l.p.Globals, api.IStore: l.p.Globals, api.ICall: len(l.p.Fns), api.IGo: len(l.p.Fns),
	}
	if most, named := there[i.Op]; named && i.N >= most {
		panic(api.ErrRange)
	}
	more = i.Op != api.IJump && i.Op != api.IRet && i.Op != api.ISelect
	of, makes := arith.Kinds(i.N)
	switch i.Op {
	case api.IGet:
		puts = letter(l.f.Locals[i.N])
	case api.ISet:
		takes = letter(l.f.Locals[i.N])
	case api.IBin:
		takes, puts = letter(of)+letter(of), letter(makes)
	case api.IUn:
		takes, puts = letter(of), letter(makes)
	case api.IPop:
		takes = "?"
	case api.ICall, api.IGo:
		f := l.p.Fns[i.N]
		if takes = letters(f.Locals[:f.Params]); i.Op == api.ICall {
			puts = strings.Trim(letter(f.Kind), "n")
		}
	case api.IRet:
		takes = strings.Trim(letter(l.f.Kind), "n")
	default:
		takes, puts, _ = strings.Cut(map[int]string{
			api.IPush: ">i", api.IBool: ">b", api.INil: ">c", api.ILoad: ">i", api.IStore: "i>", api.IFalse: "b>", api.IMake: "i>c", api.ISend: "ci>",
			api.IRecv: "c>i", api.IClose: "c>", api.ILen: "c>i", api.IPrint: "i>", api.ISleep: "i>",
		}[i.Op], ">")
	}
	return takes, puts, more
}

func (l *paper) take(kinds string) {
	for ; kinds != ""; kinds = kinds[:len(kinds)-1] {
		last := len(l.waits) - 1
		if last < 0 {
			panic(api.ErrNone)
		}
		if want := kinds[len(kinds)-1]; want != '?' && want != l.waits[last] {
			panic(api.ErrFalse)
		}
		l.waits = l.waits[:last]
	}
}

func (l *paper) put(kinds string) {
	if l.waits += kinds; len(l.waits) > 256 {
		panic(api.ErrFull)
	}
}

func (l *paper) come(n int) {
	if n >= len(l.f.Code) {
		panic(api.ErrRange)
	}
	if l.f.Code[n].Op >= api.ICaseSend {
		panic(api.ErrState)
	}
	if waits, live := l.ahead[n]; !live && n <= l.at || live && waits != l.waits {
		panic(api.ErrFalse)
	}
	l.ahead[n] = l.waits
}

func (l *paper) cases(n int) {
	if n > 6 {
		panic(api.ErrLimit)
	}
	if l.at+n >= len(l.f.Code) {
		panic(api.ErrForm)
	}
	cases := l.f.Code[l.at+1 : l.at+1+n]
	elses := 0
	for k := n - 1; k >= 0; k-- {
		switch cases[k].Op {
		case api.ICaseSend:
			l.take("ci")
		case api.ICaseRecv:
			l.take("c")
		case api.ICaseElse:
			if elses++; elses > 1 {
				panic(api.ErrTwice)
			}
		default:
			panic(api.ErrForm)
		}
	}
	rest := l.waits
	for _, c := range cases {
		if l.waits = rest; c.Op == api.ICaseRecv {
			l.put("i")
		}
		l.come(c.N)
	}
}

package verify_test

import (
	"strconv"
	"strings"
	"testing"

	"sluiceway/api"
	"sluiceway/verify"
)

// change is an instruction behind which the next one comes, and what it takes (as it waits, the last one at the end) and puts, a letter each.
type change struct{ text, takes, puts string }

// changes are all of them but pop, whose kind is any, with all kinds in the functions of alone.
func changes() []change {
	l := []change{
		{"push 0", "", "i"}, {"push -9223372036854775808", "", "i"}, {"bool 0", "", "b"}, {"bool 1", "", "b"}, {"nil", "", "c"},
		{"get 0", "", "i"}, {"get 1", "", "b"}, {"get 2", "", "c"}, {"set 0", "i", ""}, {"set 1", "b", ""}, {"set 2", "c", ""},
		{"load 0", "", "i"}, {"load 1", "", "i"}, {"store 0", "i", ""}, {"store 1", "i", ""},
		{"un -", "i", "i"}, {"un ^", "i", "i"}, {"un !", "b", "b"},
		{"call 0", "", ""}, {"call 1", "", ""}, {"call 2", "ibc", "i"}, {"call 3", "b", "b"}, {"call 4", "", "c"}, {"call 5", "cc", ""},
		{"go 0", "", ""}, {"go 1", "", ""}, {"go 2", "ibc", ""}, {"go 3", "b", ""}, {"go 4", "", ""}, {"go 5", "cc", ""},
		{"make", "i", "c"}, {"send", "ci", ""}, {"recv", "c", "i"}, {"close", "c", ""}, {"len", "c", "i"}, {"print", "i", ""}, {"sleep", "i", ""},
	}
	for _, sign := range strings.Fields("+ - * / % & | ^ << >>") {
		l = append(l, change{"bin " + sign, "ii", "i"})
	}
	for _, sign := range strings.Fields("< <= > >= == !=") {
		l = append(l, change{"bin " + sign, "ii", "b"})
	}
	return l
}

// after is what waits behind a change, or what is wrong with it.
func (c change) after(waits string) (string, api.Errno) {
	for k := len(c.takes) - 1; k >= 0; k-- {
		last := len(waits) - 1
		if last < 0 {
			return "", api.ErrNone
		}
		if waits[last] != c.takes[k] {
			return "", api.ErrFalse
		}
		waits = waits[:last]
	}
	if c.puts != "" && len(waits) == api.MaxStack {
		return "", api.ErrFull
	}
	return waits + c.puts, api.OK
}

// pushes put kinds, a letter each.
func pushes(waits string) string {
	return strings.NewReplacer("i", "push 1; ", "b", "bool 0; ", "c", "nil; ").Replace(waits)
}

// stacks are all that may wait, up to so many.
func stacks(most int) []string {
	l := []string{""}
	for from := 0; len(l[from]) < most; from++ {
		l = append(l, l[from]+"i", l[from]+"b", l[from]+"c")
	}
	return l
}

// pictured is what waits as a word of a picture.
func pictured(waits string) string {
	if waits == "" {
		return "0"
	}
	return waits
}

// 16.2: each instruction behind which the next one comes, on all stacks of up to four kinds.
func TestEachChange(t *testing.T) {
	for _, c := range changes() {
		for _, waits := range stacks(4) {
			want := ""
			for k := range len(waits) + 1 {
				want += pictured(waits[:k]) + " "
			}
			behind := len(waits) + 1
			body := pushes(waits) + c.text + "; jump " + strconv.Itoa(behind)
			if after, e := c.after(waits); e == api.OK {
				fit(t, body, want+pictured(after))
			} else {
				unfit(t, body, e, len(waits))
			}
		}
	}
}

// 16.2: pop takes any kind, but one.
func TestPop(t *testing.T) {
	unfit(t, "pop; ret", api.ErrNone, 0)
	for _, waits := range stacks(4)[1:] {
		behind := strconv.Itoa(len(waits) + 1)
		p := program(t, alone(pushes(waits)+"pop; jump "+behind))
		l, err := verify.Shapes(p)
		if err != nil || letters(l[0][len(waits)+1].Kinds) != waits[:len(waits)-1] {
			t.Errorf("behind %s and a pop there is %v, %v", waits, l, err)
		}
	}
}

// 16.2: what isn't there is told ahead of what is taken or put.
func TestWhatIsNotThere(t *testing.T) {
	for _, name := range []string{"get 3", "get 9223372036854775807", "set 3", "set 12", "load 2", "load 8", "store 2", "store 9223372036854775807", "call 6", "call 12", "go 6", "go 9223372036854775807"} {
		unfit(t, name+"; ret", api.ErrRange, 0)
		unfit(t, "push 1; "+name+"; ret", api.ErrRange, 1)
		unfit(t, "push 1; "+name, api.ErrRange, 1)
		full := strings.Repeat("nil; ", api.MaxStack)
		unfit(t, full+name+"; ret", api.ErrRange, api.MaxStack)
	}
	text := "globals 0; fn none 0; "
	for _, name := range []string{"get 0", "set 0", "load 0", "store 0", "call 1", "go 1"} {
		wrong(t, name, program(t, text+name+"; ret"), api.ErrRange, 0)
	}
	fits(t, "globals 8; fn none 0; load 7; store 7; ret", "0 i 0")
	fits(t, "globals 0; fn none 0 int int int int int int int int int int int chan; get 11; set 11; ret", "0 c 0")
}

// 16.2: a function's locals are its own, and its parameters are the first ones; what is called is of the one that is called.
func TestLocalsOfEachFunction(t *testing.T) {
	fits(t, "globals 0; fn none 0 bool; get 0; set 0; push 3; call 1; set 0; ret; fn bool 1 int chan; get 0; get 1; pop; call 1; ret",
		"0 b 0 i b 0", "0 i ic i b")
	wrong(t, "a local of another one", program(t, "globals 0; fn none 0 bool bool; get 1; pop; ret; fn none 0 bool; get 1; pop; ret"), api.ErrRange, api.MaxIns)
	wrong(t, "a local's kind of another one", program(t, "globals 0; fn none 0 int; get 0; print; ret; fn none 0 bool; get 0; print; ret"), api.ErrFalse, api.MaxIns+1)
	wrong(t, "a kind of another one", program(t, "globals 0; fn none 0; call 1; print; ret; fn bool 0; bool 0; ret"), api.ErrFalse, 1)
}

// 16.1: at most MaxStack wait, and each that puts one more is told so; what takes, too, has room for what it puts.
func TestWhatMayWait(t *testing.T) {
	for _, c := range changes() {
		waits := strings.Repeat("i", api.MaxStack-len(c.takes)) + c.takes
		body := pushes(waits) + c.text
		after, e := c.after(waits)
		if e != api.OK {
			unfit(t, body+"; ret", e, api.MaxStack)
			unfit(t, body, e, api.MaxStack)
			continue
		}
		l, err := verify.Shapes(program(t, alone(body+"; jump 257")))
		if err != nil || letters(l[0][257].Kinds) != after {
			t.Errorf("on %d kinds: %s tells %v", api.MaxStack, c.text, err)
		}
	}
	unfit(t, strings.Repeat("nil; ", 1000)+"ret", api.ErrFull, api.MaxStack)
	unfit(t, strings.Repeat("nil; ", 255)+"push 1; print; bool 0; nil; ret", api.ErrFull, 258)
}

// 16.2: behind the last instruction there is no next one; that is told last.
func TestNoNextOne(t *testing.T) {
	for _, c := range append(changes(), change{"pop", "i", ""}) {
		unfit(t, pushes(c.takes)+c.text, api.ErrMissing, len(c.takes))
		if c.takes != "" {
			unfit(t, c.text, api.ErrNone, 0)
		}
	}
	fits(t, "globals 0; fn none 0; ret; fn none 0; ret", "0", "0")
	wrong(t, "of the second one", program(t, "globals 0; fn none 0; ret; fn none 0; nil; pop; fn none 0; ret"), api.ErrMissing, api.MaxIns+1)
}

// 16.2: false takes a bool, comes to N, and then to the next one.
func TestFalse(t *testing.T) {
	fit(t, "bool 1; false 3; ret; ret", "0 b 0 0")
	fit(t, "bool 1; false 2; ret", "0 b 0")
	fit(t, "bool 1; false 0; ret", "0 b 0")
	fit(t, "push 1; bool 1; false 4; jump 4; print; ret", "0 i ib i i 0")
	unfit(t, "false 1; ret", api.ErrNone, 0)
	unfit(t, "false 99", api.ErrNone, 0)
	unfit(t, "push 1; false 2; ret", api.ErrFalse, 1)
	unfit(t, "bool 1; nil; false 99", api.ErrFalse, 2)
	unfit(t, "bool 1; false 99; ret", api.ErrRange, 1)
	unfit(t, "bool 1; false 3; casesend 2; ret", api.ErrState, 1)
	unfit(t, "bool 1; false 99; caseelse 2; ret", api.ErrRange, 1)
	unfit(t, "nil; jump 4; print; ret; bool 1; false 2; print; ret", api.ErrFalse, 5)
}

// 16.2: what is wrong with false's N is told ahead of the next one's that is missing.
func TestFalseAtTheEnd(t *testing.T) {
	unfit(t, "bool 1; false 0", api.ErrMissing, 1)
	unfit(t, "bool 1; false 2", api.ErrRange, 1)
	unfit(t, "bool 1; false 1", api.ErrFalse, 1)
	unfit(t, "jump 2; ret; bool 1; false 1", api.ErrFalse, 3)
	unfit(t, "bool 1; jump 3; caseelse 0; false 2", api.ErrState, 3)
	unfit(t, "bool 1; bool 1; false 0", api.ErrFalse, 2)
}

// 16.2: ret takes what the function answers, and nothing else waits.
func TestRet(t *testing.T) {
	for kind, name := range []string{"none", "int", "bool", "chan"} {
		answers := []string{"", "i", "b", "c"}[kind]
		for _, waits := range stacks(3) {
			p := program(t, "globals 0; fn none 0; ret; fn "+name+" 0; "+pushes(waits)+"ret")
			at := api.MaxIns + len(waits)
			switch {
			case waits == answers:
				if err := verify.Verify(p); err != nil {
					t.Errorf("a function that answers %s, at %s: %v", name, waits, err)
				}
			case waits == "":
				wrong(t, name+" at nothing", p, api.ErrNone, at)
			default:
				wrong(t, name+" at "+waits, p, api.ErrFalse, at)
			}
		}
	}
	fits(t, "globals 0; fn none 0; ret; ret", "0 -")
}

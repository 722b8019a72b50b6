package verify_test

import (
	"strconv"
	"strings"
	"testing"

	"sluiceway/api"
)

// 16.2: the cases take what they do, the last one first, and each leads on with what waits then; what is received waits, too.
func TestSelect(t *testing.T) {
	fit(t, "nil; push 1; select 1; casesend 4; ret", "0 c ci - 0")
	fit(t, "nil; select 1; caserecv 3; print; ret", "0 c - i 0")
	fit(t, "select 1; caseelse 2; ret", "0 - 0")
	fit(t, "nil; push 1; nil; select 3; casesend 8; caserecv 7; caseelse 8; pop; ret", "0 c ci cic - - - i 0")
	fit(t, "bool 1; nil; nil; push 1; select 2; caserecv 7; casesend 8; pop; pop; ret", "0 b bc bcc bcci - - bi b 0")
	fit(t, "bool 1; push 1; nil; nil; select 2; caserecv 7; caserecv 7; pop; pop; pop; ret", "0 b bi bic bicc - - bii bi b 0")
	fit(t, "nil; select 1; caserecv 4; nil; jump 4", "0 c - - i")
	fit(t, "select 1; caseelse 0", "0 -")
}

// 16.2: a select comes to where its cases lead alone, not to what stands behind them; one without cases comes to nothing.
func TestWhereSelectsLead(t *testing.T) {
	fit(t, "select 1; caseelse 3; pop; ret", "0 - - 0")
	fit(t, "select 1; caseelse 3; caseelse 99; ret", "0 - - 0")
	fit(t, "jump 1; select 1; caseelse 1", "0 0 -")
	fit(t, "select 0; pop", "0 -")
	fit(t, "select 0; caseelse 99", "0 -")
	fit(t, "push 1; nil; select 0", "0 i ic")
	unfit(t, "select 1; caseelse 2; pop; ret", api.ErrNone, 2)
}

// 16.2: a select has at most MaxCases cases.
func TestHowManyCases(t *testing.T) {
	for n := range api.MaxCases + 3 {
		body := strings.Repeat("nil; push 1; ", n) + "select " + strconv.Itoa(n) + "; " +
			strings.Repeat("casesend "+strconv.Itoa(3*n+1)+"; ", n) + "ret"
		if n > api.MaxCases {
			unfit(t, body, api.ErrLimit, 2*n)
			continue
		}
		want := "0"
		for k := range 2 * n {
			want += " " + strings.Repeat("ci", n)[:k+1]
		}
		end := " 0"
		if n == 0 {
			end = " -"
		}
		fit(t, body, want+strings.Repeat(" -", n)+end)
	}
	for _, n := range []string{"7", "99", "9223372036854775807"} {
		unfit(t, "select "+n, api.ErrLimit, 0)
		unfit(t, "nil; select "+n+"; ret; ret; ret; ret; ret; ret; ret; ret", api.ErrLimit, 1)
	}
}

// 16.2: as many as it says stand behind a select, ahead of the function's end; that is told ahead of what they are.
func TestCasesThatAreMissing(t *testing.T) {
	for n := 1; n <= api.MaxCases; n++ {
		for behind := range n {
			unfit(t, "select "+strconv.Itoa(n)+strings.Repeat("; caseelse 0", behind), api.ErrForm, 0)
			unfit(t, "nil; select "+strconv.Itoa(n)+strings.Repeat("; casesend 99", behind), api.ErrForm, 1)
		}
	}
}

// 16.2: nothing but a case is a select's case.
func TestWhatIsNoCase(t *testing.T) {
	for _, c := range changes() {
		unfit(t, "select 1; "+c.text, api.ErrForm, 0)
		unfit(t, "select 2; caseelse 3; "+c.text+"; ret", api.ErrForm, 0)
		unfit(t, "select 2; "+c.text+"; caseelse 3; ret", api.ErrForm, 0)
	}
	for _, text := range []string{"pop", "jump 0", "false 0", "ret", "select 1"} {
		unfit(t, "select 1; "+text+"; caseelse 0", api.ErrForm, 0)
	}
}

// 16.2: what cases take, on all stacks of up to five kinds, of all that there are of up to three, and where each leads.
func TestWhatCasesTake(t *testing.T) {
	cases := []string{"casesend", "caserecv", "caseelse", "ret"}
	takes := []change{{takes: "ci"}, {takes: "c"}, {}}
	lists := [][]int{nil}
	for from := 0; len(lists[from]) < 3; from++ {
		for c := range cases {
			lists = append(lists, append([]int{c}, lists[from]...))
		}
	}
	for _, list := range lists {
		for _, waits := range stacks(5) {
			body := pushes(waits) + "select " + strconv.Itoa(len(list))
			rest, e, elses := waits, api.OK, 0
			for k := len(list) - 1; k >= 0 && e == api.OK; k-- {
				switch c := list[k]; {
				case c == 3:
					e = api.ErrForm
				case c == 2 && elses > 0:
					e = api.ErrTwice
				case c == 2:
					elses++
				default:
					rest, e = takes[c].after(rest)
				}
			}
			want, ends := "", ""
			for k := range len(waits) + 1 {
				want += pictured(waits[:k]) + " "
			}
			want += strings.Repeat("- ", len(list))
			for k, c := range list {
				to := strconv.Itoa(len(waits) + 1 + len(list) + k)
				if body += "; " + cases[c]; c != 3 {
					body += " " + to
				}
				ends += "; jump " + to
				got := rest
				if c == 1 {
					got += "i"
				}
				want += pictured(got) + " "
			}
			if e == api.OK {
				fit(t, body+ends, strings.TrimSpace(want))
			} else {
				unfit(t, body+ends, e, len(waits))
			}
		}
	}
}

// 16.2: the last case is looked at first, and all of them ahead of where the first one leads.
func TestCasesInTheirOrder(t *testing.T) {
	unfit(t, "select 2; casesend 0; ret", api.ErrForm, 0)
	unfit(t, "select 2; ret; casesend 0", api.ErrNone, 0)
	unfit(t, "nil; select 2; caserecv 99; casesend 99", api.ErrFalse, 1)
	unfit(t, "nil; select 2; casesend 99; caserecv 99", api.ErrNone, 1)
	unfit(t, "bool 1; nil; select 2; casesend 99; caserecv 99", api.ErrFalse, 2)
	unfit(t, "select 2; caseelse 99; caseelse 99", api.ErrTwice, 0)
	unfit(t, "select 3; caseelse 99; caseelse 99; pop", api.ErrForm, 0)
	unfit(t, "select 3; pop; caseelse 99; caseelse 99", api.ErrTwice, 0)
	unfit(t, "select 3; caseelse 99; caserecv 0; caseelse 99", api.ErrNone, 0)
	unfit(t, "nil; select 3; caseelse 99; caserecv 0; caseelse 99", api.ErrTwice, 1)
}

// 16.2: where cases may not lead, the first one that does is told.
func TestWhereCasesMayNotLead(t *testing.T) {
	leads := map[string]api.Errno{"99": api.ErrRange, "9223372036854775807": api.ErrRange, "5": api.ErrState, "6": api.ErrState, "8": api.ErrState, "0": api.ErrFalse, "3": api.ErrFalse, "7": api.OK}
	for first, e := range leads {
		for second, f := range leads {
			body := "bool 1; nil; nil; jump 4; select 2; caserecv " + first + "; caserecv " + second + "; jump 7; caseelse 0"
			if e == api.OK {
				e = f
			}
			if e == api.OK {
				fit(t, body, "0 b bc bcc bcc - - bi -")
			} else {
				unfit(t, body, e, 4)
			}
			e = leads[first]
		}
	}
	unfit(t, "jump 2; ret; select 1; caseelse 1", api.ErrFalse, 2)
	unfit(t, "nil; select 1; caserecv 0", api.ErrFalse, 1)
	unfit(t, "push 1; nil; select 1; caserecv 2", api.ErrFalse, 2)
	unfit(t, "nil; push 1; nil; select 2; casesend 6; caserecv 6; ret", api.ErrFalse, 3)
}

// 16.2: what is received has room, for its channel waited there.
func TestReceivedAtTheBound(t *testing.T) {
	fit(t, strings.Repeat("nil; ", api.MaxStack)+"select 1; caserecv 258; jump 258",
		"0 "+strings.Join(rising("c", api.MaxStack), " ")+" - "+strings.Repeat("c", api.MaxStack-1)+"i")
	unfit(t, strings.Repeat("nil; ", api.MaxStack)+"select 1; caserecv 258; nil; ret", api.ErrFull, 258)
}

// rising is a letter once, twice, and so on.
func rising(letter string, most int) []string {
	var l []string
	for n := range most {
		l = append(l, strings.Repeat(letter, n+1))
	}
	return l
}

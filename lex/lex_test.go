package lex_test

import (
	"math"
	"regexp"
	"slices"
	"strconv"
	"strings"
	"testing"

	"sluiceway/api"
	"sluiceway/lex"
	"sluiceway/plain"
)

const (
	allKeys  = "func var int bool chan if else for break continue return go print sleep select case default true false nil make len close"
	allSigns = ":= <- << <= < >> >= > && & || | == = != ! + - * / % ^ ( ) { } , :"
	// enders are the keys and the signs behind which a line's end is a token.
	enders = "break continue return true false nil int bool chan ) }"
)

// shown is tokens, a line each: the kind's letter, the text in quotes, the place.
func shown(l []api.Token) string {
	s := ""
	for _, k := range l {
		kind := "?"
		if k.Kind >= api.Word && k.Kind <= api.Line {
			kind = "?WKNSL"[k.Kind : k.Kind+1]
		}
		s += kind + strconv.Quote(k.Text) + strconv.Itoa(k.At) + " "
	}
	return strings.TrimSuffix(s, " ")
}

// cut asks for a text's tokens, as they are shown.
func cut(t *testing.T, text, want string) {
	t.Helper()
	l, err := lex.Lex(text)
	if got := shown(l); got != want || err != nil {
		t.Errorf("Lex(%q) = %s, %v; want %s", text, got, err, want)
	}
}

// wrong asks for a text's error, its place (-1: it has none), and no tokens.
func wrong(t *testing.T, text string, want api.Errno, place int) {
	t.Helper()
	l, err := lex.Lex(text)
	if got, at := plain.Place(err); got != want || at != place || len(l) > 0 {
		t.Errorf("Lex(%.40q) = %s, %d at %d; want %d at %d", text, shown(l), got, at, want, place)
	}
}

// 7.1: the language's own words, all of them, and none that is nearly one.
func TestIsKey(t *testing.T) {
	keys := strings.Fields(allKeys)
	for _, key := range keys {
		if !lex.IsKey(key) {
			t.Errorf("IsKey(%q) is false", key)
		}
		for _, near := range []string{key + "s", "_" + key, key + " ", " " + key, strings.ToUpper(key), key[1:], key[:len(key)-1], key + "\x00", key + key} {
			if lex.IsKey(near) != slices.Contains(keys, near) {
				t.Errorf("IsKey(%q) = %t", near, lex.IsKey(near))
			}
		}
	}
	for _, other := range []string{"", " ", "\n", ";", "x", "string", "import", "package", "switch", "range", "cap", "append", allKeys, "\xff", "1", ":="} {
		if lex.IsKey(other) {
			t.Errorf("IsKey(%q) is true", other)
		}
	}
}

// 7.1, 7.2: the document's example.
func TestLexOfTheExample(t *testing.T) {
	cut(t, "x := 1\n", `W"x"0 S":="2 N"1"5 L"\n"6`)
}

// 7.1: a program as one writes it.
func TestLexOfAProgram(t *testing.T) {
	cut(t, "func f(a int) bool {\n\treturn a>=10 // as much\n}\n",
		`K"func"0 W"f"5 S"("6 W"a"7 K"int"9 S")"12 K"bool"14 S"{"19 `+
			`K"return"22 W"a"29 S">="30 N"10"32 L"\n"45 S"}"46 L"\n"47`)
}

// 7.1: of nothing there are no tokens.
func TestLexOfNothing(t *testing.T) {
	for _, text := range []string{"", " ", "\t", "\r", "\n", "\r\n", " \n\n\t\n", "//", "///", "// x", "// x\n", " // 01 \xff @\n//\n"} {
		cut(t, text, "")
	}
}

// 7.1: a text of MaxText bytes is cut; of one more there is no token, and no place, whatever is in it.
func TestLexOfLongTexts(t *testing.T) {
	l, err := lex.Lex(strings.Repeat("a ", api.MaxText/2))
	if len(l) != api.MaxText/2+1 || err != nil {
		t.Errorf("of MaxText bytes there are %d tokens, %v", len(l), err)
	}
	cut(t, strings.Repeat(" ", api.MaxText-1)+"a", `W"a"3999 L""4000`)
	cut(t, "//"+strings.Repeat("x", api.MaxText-2), "")
	for _, text := range []string{" ", "a", "@", "01", "//", "\xff", "\n"} {
		wrong(t, strings.Repeat(text, api.MaxText/len(text)+1), api.ErrLimit, -1)
	}
	wrong(t, "@"+strings.Repeat(" ", api.MaxText), api.ErrLimit, -1)
	wrong(t, strings.Repeat("a ", 1<<20), api.ErrLimit, -1)
}

// 7.1: blanks, tabs and carriage returns stand between tokens, or don't, where they needn't.
func TestLexGoesOverBlanks(t *testing.T) {
	cut(t, " \t\r x\t\ry \r", `W"x"4 W"y"7 L""10`)
	cut(t, "x\r\ny", `W"x"0 L"\n"2 W"y"3 L""4`)
	cut(t, "a+1", `W"a"0 S"+"1 N"1"2 L""3`)
	cut(t, "1 2", `N"1"0 N"2"2 L""3`)
	cut(t, "< -", `S"<"0 S"-"2`)
	cut(t, ": =", `S":"0 S"="2`)
	cut(t, "a1 b", `W"a1"0 W"b"3 L""4`)
}

// 7.1: no other sign of a byte is gone over.
func TestLexGoesOverNothingElse(t *testing.T) {
	known := " \t\r\n;_" + strings.ReplaceAll(allSigns, " ", "")
	for b := range 256 {
		letter := b >= 'a' && b <= 'z' || b >= 'A' && b <= 'Z'
		digit := b >= '0' && b <= '9'
		text := "(" + string([]byte{byte(b)}) + "("
		if !letter && !digit && (b >= 128 || !strings.Contains(known, string(rune(b)))) {
			wrong(t, text, api.ErrForm, 1)
			continue
		}
		if _, err := lex.Lex(text); err != nil {
			t.Errorf("Lex(%q): %v", text, err)
		}
	}
}

// 7.1: behind // nothing is told up to the line feed, which is none of it.
func TestLexGoesOverRemarks(t *testing.T) {
	cut(t, "a // b := 01 @ \xff\"\nc", `W"a"0 L"\n"17 W"c"18 L""19`)
	cut(t, "a//\nb", `W"a"0 L"\n"3 W"b"4 L""5`)
	cut(t, "a // b", `W"a"0 L""6`)
	cut(t, "a // b // c\r\n", `W"a"0 L"\n"12`)
	cut(t, "+ // b\n1", `S"+"0 N"1"7 L""8`)
	cut(t, "///\na", `W"a"4 L""5`)
	cut(t, "// a\n // b\nc", `W"c"11 L""12`)
	cut(t, "a / /b", `W"a"0 S"/"2 S"/"4 W"b"5 L""6`)
	cut(t, "a /", `W"a"0 S"/"2`)
	cut(t, "a ///", `W"a"0 L""5`)
	cut(t, "x /* y", `W"x"0 S"/"2 S"*"3 W"y"5 L""6`)
	cut(t, "// "+strings.Repeat("x", 13), "")
}

// 7.1: a ; is a Line, wherever it stands.
func TestLexOfLines(t *testing.T) {
	cut(t, ";", `L";"0`)
	cut(t, ";;", `L";"0 L";"1`)
	cut(t, "a;", `W"a"0 L";"1`)
	cut(t, "a;\n", `W"a"0 L";"1`)
	cut(t, "+;b\n;\n", `S"+"0 L";"1 W"b"2 L"\n"3 L";"4`)
	cut(t, "{;}", `S"{"0 L";"1 S"}"2 L""3`)
}

// 7.1: letters are those of ASCII, _, and all that takes two bytes or more.
func TestLexOfWords(t *testing.T) {
	for _, word := range []string{
		"a", "z", "A", "Z", "_", "__", "a0", "z9", "_1", "aZ_09", "Func", "iff", "if0", "_if",
		"ä", "\u0080", "\u07ff", "\u0800", "€", "\ud7ff", "\ue000", "\ufffd", "\uffff", "\U00010000", "\U0010ffff",
		"xäy€1", "äa0", "\u00a0", "\u2028", "\ufeff", "٣", "²",
	} {
		end := strconv.Itoa(len(word))
		cut(t, word, "W"+strconv.Quote(word)+`0 L""`+end)
		cut(t, word+"+", "W"+strconv.Quote(word)+`0 S"+"`+end)
	}
}

// 7.1: a word has MaxName bytes, not letters; of one more the place where it begins is told.
func TestLexOfLongWords(t *testing.T) {
	for _, word := range []string{"abcdefghijkl", "a12345678901", "____________", "ääääää", "€€€€", "\U00010000\U00010000\U00010000", "continue_and"} {
		if len(word) != api.MaxName {
			t.Fatalf("%q has %d bytes", word, len(word))
		}
		cut(t, word, "W"+strconv.Quote(word)+`0 L""12`)
		for _, more := range []string{"a", "_", "0", "ä", "€"} {
			wrong(t, word+more, api.ErrLimit, 0)
			wrong(t, "a\n+"+word+more+" @", api.ErrLimit, 3)
		}
		cut(t, word+"+1", "W"+strconv.Quote(word)+`0 S"+"12 N"1"13 L""14`)
	}
	wrong(t, strings.Repeat("a", api.MaxText), api.ErrLimit, 0)
}

// 7.1: the language's own words are Keys.
func TestLexOfKeys(t *testing.T) {
	for key := range strings.FieldsSeq(allKeys) {
		cut(t, key+"(", "K"+strconv.Quote(key)+`0 S"("`+strconv.Itoa(len(key)))
		cut(t, key+"s(", "W"+strconv.Quote(key+"s")+`0 S"("`+strconv.Itoa(len(key)+1))
	}
}

// 7.1: bytes that are no rune, or one that isn't written as it must be, are no letter, nor part of a word.
func TestLexOfNoRunes(t *testing.T) {
	for _, bytes := range []string{
		"\x80", "\xbf", "\xff", "\xfe", "\xc3", "\xe2\x82", "\xf0\x90\x80", // cut off, or the middle of one
		"\xc0\x80", "\xc1\xbf", "\xe0\x80\x80", "\xe0\x9f\xbf", "\xf0\x80\x80\x80", "\xf0\x8f\xbf\xbf", // too long
		"\xed\xa0\x80", "\xed\xbf\xbf", "\xf4\x90\x80\x80", "\xf5\x80\x80\x80", "\xf8\x88\x80\x80\x80", // none
	} {
		wrong(t, bytes, api.ErrForm, 0)
		wrong(t, " "+bytes+"a", api.ErrForm, 1)
		wrong(t, "a"+bytes, api.ErrForm, 1)
		wrong(t, "ä"+bytes+"b", api.ErrForm, 2)
		wrong(t, "12"+bytes, api.ErrForm, 2)
		wrong(t, "if"+bytes, api.ErrForm, 2)
	}
}

// 7.1: numbers, from 0 to 2^63 - 1.
func TestLexOfNumbers(t *testing.T) {
	for _, n := range []int{0, 1, 7, 9, 10, 99, 100, 1 << 31, 1 << 32, 1e18, math.MaxInt - 1, math.MaxInt} {
		text := strconv.Itoa(n)
		end := strconv.Itoa(len(text))
		cut(t, text, `N"`+text+`"0 L""`+end)
		cut(t, text+"(", `N"`+text+`"0 S"("`+end)
	}
	cut(t, "0 0", `N"0"0 N"0"2 L""3`)
	cut(t, "-1", `S"-"0 N"1"1 L""2`)
	cut(t, "1;2", `N"1"0 L";"1 N"2"2 L""3`)
}

// 7.1: a number above 2^63 - 1.
func TestLexOfNumbersThatAreTooGreat(t *testing.T) {
	for _, text := range []string{"9223372036854775808", "9300000000000000000", "9999999999999999999", "10000000000000000000", "18446744073709551615", "18446744073709551616", "18446744073709551617", "1" + strings.Repeat("0", 3990)} {
		wrong(t, text, api.ErrRange, 0)
		wrong(t, "a :="+text+" ", api.ErrRange, 4)
		wrong(t, text+"@", api.ErrRange, 0)
		wrong(t, text+"\xff", api.ErrRange, 0)
	}
	// A - is no part of a number.
	wrong(t, "-9223372036854775808", api.ErrRange, 1)
}

// 7.1: a nought ahead, or a letter behind, ahead of what is too great.
func TestLexOfWhatIsNoNumber(t *testing.T) {
	great := "9223372036854775808"
	for _, text := range []string{"00", "01", "007", "0123", "0" + great, strings.Repeat("0", 100), "1a", "0a", "0x1", "1_", "1_000", "12Z", "1ä", "1€", "1if", "1e3", great + "a", great + "\ufffd"} {
		wrong(t, text, api.ErrForm, 0)
		wrong(t, "(\n"+text+"\n@", api.ErrForm, 2)
	}
}

// 7.1: each sign by itself, and the first one of the list that stands there.
func TestLexOfSigns(t *testing.T) {
	for sign := range strings.FieldsSeq(allSigns) {
		size := strconv.Itoa(len(sign))
		cut(t, sign+" (", `S"`+sign+`"0 S"("`+strconv.Itoa(len(sign)+1))
		cut(t, "a"+sign+"1(", `W"a"0 S"`+sign+`"1 N"1"`+strconv.Itoa(len(sign)+1)+` S"("`+strconv.Itoa(len(sign)+2))
		if sign != ")" && sign != "}" {
			cut(t, sign, `S"`+sign+`"0`)
		} else {
			cut(t, sign, `S"`+sign+`"0 L""`+size)
		}
	}
}

// 7.1: a longer sign comes ahead of what it begins with.
func TestLexOfSignsInARow(t *testing.T) {
	for text, want := range map[string]string{
		":=":   ":=",
		"::=":  ": :=",
		":==":  ":= =",
		"<-":   "<-",
		"<--":  "<- -",
		"<<-":  "<< -",
		"<<<":  "<< <",
		"<<=":  "<< =",
		"<=-":  "<= -",
		"<==":  "<= =",
		"<>":   "< >",
		">>>":  ">> >",
		">>=":  ">> =",
		">==":  ">= =",
		">-":   "> -",
		"&&&":  "&& &",
		"&^":   "& ^",
		"|||":  "|| |",
		"===":  "== =",
		"=<":   "= <",
		"=!=":  "= !=",
		"!==":  "!= =",
		"!!=":  "! !=",
		"++":   "+ +",
		"--":   "- -",
		"+=":   "+ =",
		"-<-":  "- <-",
		"({,:": "( { , :",
		"<<<-": "<< <-",
		"<-<-": "<- <-",
		"^^%*": "^ ^ % *",
		"){(":  ") { (",
	} {
		l, err := lex.Lex(text)
		got := ""
		for _, k := range l {
			if k.Kind != api.Sign || k.At != len(strings.ReplaceAll(got, " ", "")) {
				t.Errorf("Lex(%q) = %s", text, shown(l))
			}
			got += k.Text + " "
		}
		if strings.TrimSpace(got) != want || err != nil {
			t.Errorf("Lex(%q) = %s, %v; want %s", text, got, err, want)
		}
	}
}

// 7.1: what no token begins with; the first one that is wrong is told.
func TestLexOfNoSigns(t *testing.T) {
	for _, b := range []string{"@", "#", "$", "?", "~", "\\", "`", "\"", "'", ".", "[", "]", "\x00", "\v", "\f", "\x1f", "\x7f"} {
		wrong(t, b, api.ErrForm, 0)
		wrong(t, "a\n "+b+" 01", api.ErrForm, 3)
		wrong(t, "a"+b, api.ErrForm, 1)
	}
	wrong(t, "01 @", api.ErrForm, 0)
	wrong(t, "@ 9223372036854775808", api.ErrForm, 0)
	wrong(t, "9223372036854775808 01", api.ErrRange, 0)
	wrong(t, "abcdefghijklm 01", api.ErrLimit, 0)
	wrong(t, "01 abcdefghijklm", api.ErrForm, 0)
	wrong(t, "1.5", api.ErrForm, 1)
}

// 7.2: a line's end, and the text's, are a token behind what may be a line's last one, and nothing behind all else.
func TestLexOfLineEnds(t *testing.T) {
	ends := strings.Fields(enders)
	all := append(strings.Fields(allKeys), strings.Fields(allSigns)...)
	for _, last := range append(all, "x", "ä", "ints", "0", "12", ";") {
		size := len(last)
		begin, err := lex.Lex(last + " (")
		if err != nil || len(begin) != 2 {
			t.Fatalf("Lex(%q) = %s, %v", last+" (", shown(begin), err)
		}
		want := shown(begin[:1])
		atFeed, atEnd := want, want
		if kind := begin[0].Kind; kind == api.Word || kind == api.Number || slices.Contains(ends, last) {
			atFeed += ` L"\n"` + strconv.Itoa(size)
			atEnd += ` L""` + strconv.Itoa(size)
		}
		cut(t, last+"\n", atFeed)
		cut(t, last+"\n\n \n", atFeed)
		cut(t, last, atEnd)
		cut(t, "\n\n"+last, strings.Join(moved(t, atEnd, 2), " "))
	}
}

// moved is tokens, as they are shown, so many bytes on.
func moved(t *testing.T, tokens string, by int) []string {
	t.Helper()
	var l []string
	for token := range strings.FieldsSeq(tokens) {
		cut := strings.LastIndex(token, `"`) + 1
		at, err := strconv.Atoi(token[cut:])
		if err != nil {
			t.Fatalf("%s: %v", token, err)
		}
		l = append(l, token[:cut]+strconv.Itoa(at+by))
	}
	return l
}

// 7.2: blanks and remarks ahead of a line's end change nothing but its place; the text's end is behind all.
func TestLexOfLineEndsBehindBlanks(t *testing.T) {
	cut(t, "a \t\r\n", `W"a"0 L"\n"4`)
	cut(t, "a \t\r", `W"a"0 L""4`)
	cut(t, "a // b\n// c\nd", `W"a"0 L"\n"6 W"d"12 L""13`)
	cut(t, "+ \n\n a \n\n ) // x", `S"+"0 W"a"5 L"\n"7 S")"10 L""16`)
	cut(t, "\n a", `W"a"2 L""3`)
	cut(t, "a\n", `W"a"0 L"\n"1`)
	cut(t, "a\n  ", `W"a"0 L"\n"1`)
}

// patterns are those of what may stand at a place, and of which kind it is (0: it is gone over); the first one that fits is taken.
var patterns = []struct {
	kind int
	form *regexp.Regexp
}{
	{0, regexp.MustCompile(`^([ \t\r]|//[^\n]*)`)},
	{api.Line, regexp.MustCompile(`^(;)`)},
	{api.Key, regexp.MustCompile(`^(` + strings.ReplaceAll(allKeys, " ", "|") + `)(?:[^a-zA-Z0-9_\x{80}-\x{10ffff}]|$)`)},
	{api.Word, regexp.MustCompile(`^([a-zA-Z_\x{80}-\x{10ffff}][a-zA-Z0-9_\x{80}-\x{10ffff}]*)`)},
	{api.Number, regexp.MustCompile(`^([0-9]+)`)},
	{api.Sign, regexp.MustCompile(`^(:=|<[-<=]?|>[>=]?|&&?|\|\|?|==?|!=?|[-+*/%^(){},:])`)},
}

// byPatterns cuts a text in which nothing is wrong, by patterns alone.
func byPatterns(t *testing.T, text string) []api.Token {
	t.Helper()
	var l []api.Token
	line := func(text string, at int) {
		if len(l) == 0 {
			return
		}
		last := l[len(l)-1]
		if last.Kind == api.Word || last.Kind == api.Number || slices.Contains(strings.Fields(enders), last.Text) {
			l = append(l, api.Token{Kind: api.Line, Text: text, At: at})
		}
	}
	for at := 0; at < len(text); {
		if text[at] == '\n' {
			line("\n", at)
			at++
			continue
		}
		kind, found := byPattern(text[at:])
		if found == "" {
			t.Fatalf("no pattern fits in %q at %d", text, at)
		}
		if kind > 0 {
			l = append(l, api.Token{Kind: kind, Text: found, At: at})
		}
		at += len(found)
	}
	line("", len(text))
	return l
}

// byPattern is what stands at a text's beginning, and its kind.
func byPattern(text string) (int, string) {
	for _, p := range patterns {
		if found := p.form.FindStringSubmatch(text); found != nil {
			return p.kind, found[1]
		}
	}
	return 0, ""
}

// 7.1, 7.2: texts of all tokens in any order, with and without blanks, are cut as patterns cut them.
func TestLexAsPatterns(t *testing.T) {
	pieces := append(strings.Fields(allKeys), strings.Fields(allSigns)...)
	pieces = append(pieces, "x", "y1", "_", "ä", "€z", "0", "10", "907", ";", "\n", "\n", "\r\n", "\t", "// x := 1\n", "//\n", "(", ")", "}")
	drawn := uint64(1)
	draw := func(most int) int {
		drawn = drawn*6364136223846793005 + 1442695040888963407
		return int(drawn >> 33 % uint64(most))
	}
	for range 5000 {
		text := ""
		for range draw(20) {
			piece := pieces[draw(len(pieces))]
			// Two words in a row would be one, and a word behind a number none.
			if text != "" && (draw(2) == 0 || piece[0] >= 'a' || piece[0] == '_' || piece[0] >= '0' && piece[0] <= '9') {
				text += " "
			}
			text += piece
		}
		cut(t, text, shown(byPatterns(t, text)))
	}
}

// P1, P4: any text has tokens, or an error with a place in it; what is told is the caller's own.
func TestLexOfAnyBytes(t *testing.T) {
	drawn := uint64(7)
	for range 20000 {
		text := ""
		for range drawn >> 40 % 12 {
			drawn = drawn*6364136223846793005 + 1442695040888963407
			text += string([]byte{byte(drawn >> 50)})
		}
		drawn = drawn*6364136223846793005 + 1442695040888963407
		l, err := lex.Lex(text)
		if e, at := plain.Place(err); err != nil && (len(l) > 0 || e != api.ErrForm && e != api.ErrLimit && e != api.ErrRange || at < 0 || at >= len(text)) {
			t.Errorf("Lex(%q) = %s, %d at %d", text, shown(l), e, at)
		}
		for _, k := range l {
			if !strings.HasPrefix(text[k.At:], k.Text) {
				t.Errorf("Lex(%q) = %s", text, shown(l))
			}
		}
	}
}

// P4: what one call answers is not what another one did.
func TestLexTellsFreshTokens(t *testing.T) {
	l, err := lex.Lex("a := 1")
	if err != nil {
		t.Fatal(err)
	}
	l[0] = api.Token{Kind: api.Sign, Text: "?", At: 7}
	cut(t, "a := 1", `W"a"0 S":="2 N"1"5 L""6`)
}

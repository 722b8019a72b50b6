package wire_test

import (
	"encoding/binary"
	"hash/crc32"
	"math"
	"slices"
	"strings"
	"testing"

	"sluiceway/api"
	"sluiceway/wire"
)

// number is a number as seven bits a byte.
func number(n uint64) string { return string(binary.AppendUvarint(nil, n)) }

// sealed is s with its sum behind it, as the document writes sums.
func sealed(s string) string {
	return string(binary.LittleEndian.AppendUint32([]byte(s), crc32.ChecksumIEEE([]byte(s))))
}

// part is a part as the document writes it.
func part(tag byte, body string) string {
	return sealed(string([]byte{tag}) + number(uint64(len(body))) + body)
}

// written are parts as the document writes them, whatever their tags and bodies are.
func written(kind byte, l []api.Part) string {
	s := "SLW" + string([]byte{kind}) + number(uint64(len(l)))
	for _, p := range l {
		s += part(p.Tag, p.Body)
	}
	return sealed(s)
}

// many are n parts with rising tags.
func many(n int) []api.Part {
	l := []api.Part{}
	for k := range n {
		l = append(l, api.Part{Tag: byte(5 * k), Body: strings.Repeat("m", k)})
	}
	return l
}

// lists may all be written.
func lists() [][]api.Part {
	return [][]api.Part{
		nil,
		{},
		{{}},
		{{Tag: 255, Body: "\x00"}},
		{{Tag: 'a', Body: "one"}, {Tag: 'b'}, {Tag: 'c', Body: "three"}},
		{{Tag: 0, Body: "SLW"}, {Tag: 1, Body: strings.Repeat("\xff", 128)}, {Tag: 255, Body: "Grüße"}},
		{{Tag: 7, Body: strings.Repeat("x", api.MaxBody-1)}, {Tag: 8, Body: strings.Repeat("y", api.MaxBody)}},
		many(api.MaxParts - 1),
		many(api.MaxParts),
	}
}

// noSeal asks that parts are not written, and that nothing is told beside the error.
func noSeal(t *testing.T, l []api.Part, want api.Errno) {
	t.Helper()
	s, err := wire.Seal('k', l)
	if s != "" || err != error(want) {
		t.Errorf("Seal of %d parts: %d bytes, %v; want %v", len(l), len(s), err, want)
	}
}

// noOpen asks that a text is not read, and that nothing is told beside the error.
func noOpen(t *testing.T, what, s string, want api.Errno) {
	t.Helper()
	kind, l, err := wire.Open(s)
	if kind != 0 || len(l) != 0 || err != error(want) {
		t.Errorf("%s: Open of %d bytes %.60x: %d, %d parts, %v; want %v", what, len(s), s, kind, len(l), err, want)
	}
}

// 3.1: a text byte by byte, its sums reckoned elsewhere.
func TestSealByteByByte(t *testing.T) {
	l := []api.Part{{Tag: 1, Body: "a"}, {Tag: 200}}
	want := "SLW" + "k" + "\x02" +
		"\x01\x01a" + "\xaa\xd3\x2d\xdd" +
		"\xc8\x00" + "\xb9\x4f\xfa\x42" +
		"\x18\x74\x91\xe5"
	if got, err := wire.Seal('k', l); got != want || err != nil {
		t.Errorf("Seal = %x, %v; want %x", got, err, want)
	}
}

// 3.1: parts of all kinds are written as the document asks, of each kind of text.
func TestSeal(t *testing.T) {
	for k, l := range lists() {
		for _, kind := range []byte{0, 'P', 128, 255} {
			got, err := wire.Seal(kind, l)
			if got != written(kind, l) || err != nil {
				t.Errorf("Seal of list %d: %d bytes %.60x, %v; want %.60x", k, len(got), got, err, written(kind, l))
			}
		}
	}
}

// 3.1: more than MaxParts parts are ErrLimit, ahead of all that is wrong with them.
func TestSealOfTooManyParts(t *testing.T) {
	noSeal(t, many(api.MaxParts+1), api.ErrLimit)
	noSeal(t, make([]api.Part, api.MaxParts+1), api.ErrLimit)
	noSeal(t, make([]api.Part, 300), api.ErrLimit)
}

// 3.1: a Body of more than MaxBody bytes is ErrLimit, wherever it is, and ahead of its Tag's ErrOrder.
func TestSealOfTooLongParts(t *testing.T) {
	long := strings.Repeat("x", api.MaxBody+1)
	for k := range 5 {
		l := many(5)
		l[k].Body = long
		noSeal(t, l, api.ErrLimit)
	}
	noSeal(t, []api.Part{{Tag: 3}, {Tag: 3, Body: long}}, api.ErrLimit)
	noSeal(t, []api.Part{{Tag: 3, Body: long}, {Tag: 3}}, api.ErrLimit)
}

// 3.1: a Tag that is not above the one ahead of it is ErrOrder, wherever it is.
func TestSealOfTagsThatDoNotRise(t *testing.T) {
	for k := 1; k < 5; k++ {
		for _, less := range []byte{0, 1, 5} {
			l := many(5)
			l[k].Tag = l[k-1].Tag - min(l[k-1].Tag, less)
			noSeal(t, l, api.ErrOrder)
		}
	}
	noSeal(t, []api.Part{{Tag: 255}, {Tag: 0}}, api.ErrOrder)
	noSeal(t, make([]api.Part, api.MaxParts), api.ErrOrder)
}

// 3.1, P4: neither the parts nor what stands behind them is written into, and none is kept.
func TestSealLeavesItsParts(t *testing.T) {
	all := many(6)
	first, err := wire.Seal('k', all[:3])
	if err != nil || !slices.Equal(all, many(6)) {
		t.Errorf("Seal wrote into its parts: %v, %v", all, err)
	}
	all[0].Tag, all[1].Body = 3, "another"
	if first != written('k', many(3)) {
		t.Errorf("what Seal told hangs on its parts: %x", first)
	}
}

// 3.2: what is written is read: its kind and its parts.
func TestOpenReadsWhatIsWritten(t *testing.T) {
	for k, l := range lists() {
		for _, kind := range []byte{0, 'P', 128, 255} {
			got, parts, err := wire.Open(written(kind, l))
			if got != kind || !slices.Equal(parts, l) || err != nil {
				t.Errorf("Open of list %d: %d, %d parts, %v", k, got, len(parts), err)
			}
		}
	}
}

// 3.2, P4: what is read is the caller's alone.
func TestOpenTellsFreshParts(t *testing.T) {
	s := written('k', many(4))
	_, first, _ := wire.Open(s)
	first[0] = api.Part{Tag: 99, Body: "written into"}
	_, second, err := wire.Open(s)
	if !slices.Equal(second, many(4)) || err != nil {
		t.Errorf("Open hangs on what a caller wrote: %v, %v", second, err)
	}
}

// 3.2: fewer than 8 bytes, or another beginning, are ErrForm, ahead of the sum.
func TestOpenOfAnotherBeginning(t *testing.T) {
	whole := written('k', many(3))
	for n := range 8 {
		noOpen(t, "cut off", whole[:n], api.ErrForm)
	}
	noOpen(t, "a sum alone", sealed("SLW"), api.ErrForm)
	for _, mark := range []string{"slw", "SLX", "SKW", "TLW", "LSW", " SL"} {
		noOpen(t, mark, mark+whole[3:], api.ErrForm)
		noOpen(t, mark, sealed(mark+whole[3:len(whole)-4]), api.ErrForm)
		noOpen(t, mark, mark+"kkkkk", api.ErrForm)
	}
}

// 3.2: each bit that is turned is told: in the mark it is ErrForm, anywhere else the last sum is another one.
func TestOpenTellsTurnedBits(t *testing.T) {
	whole := written('k', many(5))
	for bit := range len(whole) * 8 {
		b := []byte(whole)
		b[bit/8] ^= 1 << (bit % 8)
		want := api.ErrSpoilt
		if bit < 3*8 {
			want = api.ErrForm
		}
		noOpen(t, "a bit turned", string(b), want)
	}
}

// 3.2: a text that is cut off, or has more behind it, is ErrSpoilt: ahead of its parts' form.
func TestOpenOfAnotherSum(t *testing.T) {
	whole := written('k', many(5))
	for n := 8; n < len(whole); n++ {
		noOpen(t, "cut off", whole[:n], api.ErrSpoilt)
	}
	noOpen(t, "more behind", whole+"\x00", api.ErrSpoilt)
	noOpen(t, "no number of parts", "SLWkkkkk", api.ErrSpoilt)
	noOpen(t, "the sum turned round", "SLWk"+"\x01\x02\x03\x04", api.ErrSpoilt)
}

// 3.2: no number of parts is ErrForm, one above MaxParts ErrLimit, whatever stands behind it.
func TestOpenOfNumbersOfParts(t *testing.T) {
	for _, n := range []string{"", "\x80", "\x80\x00", strings.Repeat("\xff", 10), strings.Repeat("\xff", 9) + "\x02"} {
		noOpen(t, "no number", sealed("SLWk"+n), api.ErrForm)
	}
	for _, n := range []uint64{api.MaxParts + 1, 100, 128, 256, 1 << 32, 1<<63 + 1, math.MaxUint64} {
		noOpen(t, "too many", sealed("SLWk"+number(n)), api.ErrLimit)
		noOpen(t, "too many", sealed("SLWk"+number(n)+part(1, "a")), api.ErrLimit)
	}
	noOpen(t, "too many", written('k', many(api.MaxParts+1)), api.ErrLimit)
	noOpen(t, "too many", written('k', make([]api.Part, api.MaxParts+1)), api.ErrLimit)
	noOpen(t, "none of MaxParts", sealed("SLWk"+number(api.MaxParts)), api.ErrForm)
}

// 3.2: a part without Tag, Text, or the four bytes behind it, is ErrForm; the sum of all doesn't count as these.
func TestOpenOfPartsThatAreCutOff(t *testing.T) {
	last := part(9, "abc")
	for n := range len(last) {
		noOpen(t, "the first part", sealed("SLWk\x01"+last[:n]), api.ErrForm)
		noOpen(t, "the second part", sealed("SLWk\x02"+part(1, "x")+last[:n]), api.ErrForm)
	}
	noOpen(t, "no length", sealed("SLWk\x01"+sealed("a\x83\x00abc")), api.ErrForm)
	noOpen(t, "a length of much", sealed("SLWk\x01"+"a"+number(math.MaxUint64)+"abcdef"), api.ErrForm)
}

// 3.2: a part whose sum is another one is ErrSpoilt: ahead of its Body's length and its Tag's order.
func TestOpenOfSpoiltParts(t *testing.T) {
	long := strings.Repeat("x", api.MaxBody+1)
	for _, body := range []string{"", "abc", long} {
		good := part(9, body)
		for bit := range 32 {
			b := []byte(good)
			b[len(b)-1-bit/8] ^= 1 << (bit % 8)
			noOpen(t, "a part's sum", sealed("SLWk\x01"+string(b)), api.ErrSpoilt)
			noOpen(t, "a part's sum, its tag not above", sealed("SLWk\x02"+part(9, "")+string(b)), api.ErrSpoilt)
		}
	}
	noOpen(t, "a part's tag", sealed("SLWk\x01\x08"+part(9, "abc")[1:]), api.ErrSpoilt)
	noOpen(t, "a part's body", sealed("SLWk\x01"+"\x09\x03abd"+part(9, "abc")[5:]), api.ErrSpoilt)
}

// 3.2: a Body of more than MaxBody bytes is ErrLimit, ahead of its Tag's ErrOrder.
func TestOpenOfTooLongParts(t *testing.T) {
	long := strings.Repeat("x", api.MaxBody+1)
	noOpen(t, "too long", written('k', []api.Part{{Tag: 1, Body: long}}), api.ErrLimit)
	noOpen(t, "too long, not above", written('k', []api.Part{{Tag: 3}, {Tag: 3, Body: long}}), api.ErrLimit)
	noOpen(t, "too long, last", written('k', []api.Part{{Tag: 1}, {Tag: 2}, {Tag: 3, Body: long}}), api.ErrLimit)
}

// 3.2: a Tag that is not above the one ahead of it is ErrOrder.
func TestOpenOfTagsThatDoNotRise(t *testing.T) {
	for _, tags := range [][]byte{{3, 3}, {3, 2}, {0, 0}, {255, 0}, {1, 2, 3, 3}, {1, 5, 4}} {
		l := []api.Part{}
		for _, tag := range tags {
			l = append(l, api.Part{Tag: tag, Body: "b"})
		}
		noOpen(t, "tags", written('k', l), api.ErrOrder)
	}
}

// 3.2: anything behind the parts is ErrForm.
func TestOpenOfMoreThanItsParts(t *testing.T) {
	for _, more := range []string{"\x00", "k", part(9, "abc"), strings.Repeat("m", 100)} {
		noOpen(t, "behind none", sealed("SLWk\x00"+more), api.ErrForm)
		noOpen(t, "behind one", sealed("SLWk\x01"+part(1, "x")+more), api.ErrForm)
	}
}

// 3.2: parts are read from the left: what is wrong with one is told ahead of all behind it.
func TestOpenReadsFromTheLeft(t *testing.T) {
	spoilt := "\x09\x03abc\x00\x00\x00\x00"
	long := part(9, strings.Repeat("x", api.MaxBody+1))
	low := part(1, "")
	for _, l := range []struct {
		what, parts string
		want        api.Errno
	}{
		{"spoilt, low", "\x03" + part(1, "") + spoilt + low, api.ErrSpoilt},
		{"low, spoilt", "\x03" + part(1, "") + low + spoilt, api.ErrOrder},
		{"long, low", "\x03" + part(1, "") + long + low, api.ErrLimit},
		{"low, long", "\x03" + part(1, "") + low + long, api.ErrOrder},
		{"long, spoilt", "\x02" + long + spoilt, api.ErrLimit},
		{"spoilt, long", "\x02" + spoilt + long, api.ErrSpoilt},
		{"low, cut off", "\x03" + part(1, "") + low + "\x09", api.ErrOrder},
		{"low, more", "\x02" + part(1, "") + low + "more", api.ErrOrder},
		{"spoilt, more", "\x01" + spoilt + "more", api.ErrSpoilt},
	} {
		noOpen(t, l.what, sealed("SLWk"+l.parts), l.want)
	}
}

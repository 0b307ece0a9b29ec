package block

import (
	"encoding/binary"
	"math"
	"math/big"
	"slices"
	"strconv"
	"strings"
	"testing"

	"varve/api"
	"varve/record"
	"varve/squash"
	"varve/varint"
)

// The tests hold block against the chapter's words, told here once more: the numbers' bytes by the library's own, the records' by hand. What packed bytes and records' bytes tell comes from squash and record.

// few tells a text's first bytes, for a message.
func few(s string) string {
	return strconv.Quote(s[:min(len(s), 40)]) + " of " + strconv.Itoa(len(s))
}

// showAll tells the first of some records, for a message.
func showAll(l []api.Record) string {
	s := strconv.Itoa(len(l)) + " records"
	for _, r := range l[:min(len(l), 4)] {
		s += "; " + strconv.Itoa(r.Seq) + " " + strconv.Itoa(r.Tick) + " " + few(r.Data)
	}
	return s
}

// noise tells n bytes of all kinds, without a rule, the same ones each time; those of two seeds have little in common.
func noise(n, seed int) string {
	x := uint64(n)<<32 + uint64(seed) + 1
	s := make([]byte, n)
	for i := range s {
		x ^= x << 13
		x ^= x >> 7
		x ^= x << 17
		s[i] = byte(x * 0x2545f4914f6cdd1d >> 56)
	}
	return string(s)
}

// lines tells the beginning of a log, of n bytes.
func lines(n int) string { return strings.Repeat("GET /index.html 200\n", n/20+1)[:n] }

// rowOf tells a row of n records from a number and a time on, each third one with a later time; data tells their data.
func rowOf(n, first, tick int, data func(i int) string) []api.Record {
	var l []api.Record
	for i := range n {
		l = append(l, api.Record{Seq: first + i, Tick: tick + i/3, Data: data(i)})
	}
	return l
}

// linesOf and noiseOf tell data of so many bytes: blocks of the one are packed, of the other not.
func linesOf(size int) func(int) string { return func(int) string { return lines(size) } }
func noiseOf(size int) func(int) string { return func(i int) string { return noise(size, i) } }

// uvarints tells the bytes of numbers.
func uvarints(l ...uint64) string {
	var b []byte
	for _, n := range l {
		b = binary.AppendUvarint(b, n)
	}
	return string(b)
}

// rawOf tells the bytes of records, by chapter 15's words.
func rawOf(l []api.Record) string {
	var s strings.Builder
	for _, r := range l {
		s.WriteString(uvarints(uint64(r.Seq), uint64(r.Tick), uint64(len(r.Data))) + r.Data)
	}
	return s.String()
}

// packOf packs a text that may be packed.
func packOf(t *testing.T, s string) string {
	t.Helper()
	b, e := squash.Pack(s)
	if e != api.OK {
		t.Fatal(few(s), int(e))
	}
	return b
}

// leadOf tells the mode and the numbers of the block of records.
func leadOf(mode byte, l []api.Record) string {
	first, last := l[0], l[len(l)-1]
	return string([]byte{mode}) + uvarints(uint64(len(rawOf(l))), uint64(len(l)), uint64(first.Seq), uint64(first.Tick), uint64(last.Tick-first.Tick))
}

// plainOf and packedOf tell the bodies of records in mode 0 and in mode 1, whichever of them is shorter.
func plainOf(l []api.Record) string { return leadOf(0, l) + rawOf(l) }
func packedOf(t *testing.T, l []api.Record) string {
	t.Helper()
	return leadOf(1, l) + packOf(t, rawOf(l))
}

// wantEncode is P17.1 of a row of not too many bytes, word by word.
func wantEncode(t *testing.T, l []api.Record) string {
	t.Helper()
	if len(packOf(t, rawOf(l))) < len(rawOf(l)) {
		return packedOf(t, l)
	}
	return plainOf(l)
}

// metaOfRow is what Peek is to tell of a row's block.
func metaOfRow(l []api.Record) api.Meta {
	return api.Meta{Raw: len(rawOf(l)), Count: len(l), First: l[0].Seq, Early: l[0].Tick, Late: l[len(l)-1].Tick}
}

// encoded encodes records that may be encoded.
func encoded(t *testing.T, l []api.Record) string {
	t.Helper()
	b, e := Encode(l)
	if e != api.OK {
		t.Fatalf("Encode of %s: %d", showAll(l), int(e))
	}
	return b
}

// exact tells a row of 20000 bytes and some more, of lines or of noise.
func exact(more int, data func(int) func(int) string) []api.Record {
	l := append(rowOf(9, 1, 0, data(2000)), api.Record{Seq: 10, Tick: 1000})
	l[9].Data = data(20000 + more - len(rawOf(l)) - 1)(9)
	return l
}

// rows tells rows of many kinds, up to as many bytes as they may have.
func rows() [][]api.Record {
	all := [][]api.Record{
		{{Seq: 1, Tick: 300, Data: "hi"}}, {{Seq: 1}}, {{Seq: 1000000000, Tick: 1000000000, Data: noise(2000, 0)}},
		{{Seq: 1}, {Seq: 2, Tick: 1000000000}}, {{Seq: 999999999, Tick: 500000000, Data: noise(9, 0)}, {Seq: 1000000000, Tick: 1000000000}},
		rowOf(4000, 1, 0, linesOf(0)), exact(0, linesOf), exact(0, noiseOf), exact(-1, noiseOf),
	}
	for _, first := range []int{1, 126, 127, 128, 16380, 999999900} {
		for _, size := range []int{0, 1, 2, 15, 100, 127, 128, 300} {
			for _, n := range []int{1, 2, 3, 7, 40} {
				all = append(all, rowOf(n, first, first, linesOf(size)), rowOf(n, first, first/2, noiseOf(size)))
			}
		}
	}
	return all
}

// P17.1
func TestEncode(t *testing.T) {
	modes := map[byte]int{}
	for _, l := range rows() {
		b, want := encoded(t, l), wantEncode(t, l)
		if b != want {
			t.Errorf("Encode of %s: %s, want %s", showAll(l), few(b), few(want))
		}
		modes[b[0]]++
	}
	if modes[0] < 50 || modes[1] < 50 || len(modes) != 2 {
		t.Error("modes:", modes)
	}
}

// P17.1: the bytes themselves.
func TestEncodeByteByByte(t *testing.T) {
	for _, x := range []struct {
		l    []api.Record
		want string
	}{
		{[]api.Record{{Seq: 1, Tick: 300, Data: "hi"}}, "\x00\x06\x01\x01\xac\x02\x00" + "\x01\xac\x02\x02hi"},
		{[]api.Record{{Seq: 1}}, "\x00\x03\x01\x01\x00\x00" + "\x01\x00\x00"},
		{[]api.Record{{Seq: 127, Tick: 5, Data: "a"}, {Seq: 128, Tick: 5}, {Seq: 129, Tick: 205}}, "\x00\x0d\x03\x7f\x05\xc8\x01" + "\x7f\x05\x01a" + "\x80\x01\x05\x00" + "\x81\x01\xcd\x01\x00"},
	} {
		if b := encoded(t, x.l); b != x.want {
			t.Errorf("Encode of %s: %x, want %x", showAll(x.l), b, x.want)
		}
	}
	l := []api.Record{{Seq: 1, Data: strings.Repeat("a", 2000)}}
	if b, want := encoded(t, l), "\x01\xd4\x0f\x01\x01\x00\x00"+packOf(t, "\x01\x00\xd0\x0f"+strings.Repeat("a", 2000)); b != want {
		t.Errorf("%s, want %s", few(b), few(want))
	}
}

// P17.1: where packing makes a block just shorter, leaves it as long, and makes it just longer.
func TestEncodeAtTheEdgeOfPacking(t *testing.T) {
	found := map[int]int{}
	for n := range 1200 {
		l := []api.Record{{Seq: 7, Tick: 7, Data: strings.Repeat("a", n/30) + noise(n%30, 0)}}
		by := len(packOf(t, rawOf(l))) - len(rawOf(l))
		if by < -1 || by > 1 {
			continue
		}
		found[by]++
		want := plainOf(l)
		if by < 0 {
			want = packedOf(t, l)
		}
		if b := encoded(t, l); b != want {
			t.Errorf("packed bytes %d more than plain: %s, want %s", by, few(b), few(want))
		}
	}
	if len(found) != 3 {
		t.Error("not each edge was found:", found)
	}
}

// P17.1: each error, also where later ones apply too.
func TestTheErrorsOfEncode(t *testing.T) {
	long := strings.Repeat("a", 2001)
	wrong := append(rowOf(12, 1, 0, noiseOf(2000)), api.Record{Seq: 14, Tick: 1000})
	for _, x := range []struct {
		l    []api.Record
		want api.Errno
	}{
		{nil, api.ErrArg},
		{[]api.Record{}, api.ErrArg},
		{[]api.Record{{}}, api.ErrRecord},
		{[]api.Record{{Seq: 1000000001}}, api.ErrRecord},
		{[]api.Record{{Seq: math.MinInt, Tick: math.MaxInt}}, api.ErrRecord},
		{[]api.Record{{Seq: 1, Tick: -1}}, api.ErrRecord},
		{[]api.Record{{Seq: 1, Data: long}}, api.ErrRecord},
		{[]api.Record{{Seq: 1}, {Seq: 3}}, api.ErrOrder},
		{[]api.Record{{Seq: 1}, {Seq: 1}}, api.ErrOrder},
		{[]api.Record{{Seq: 1, Tick: 5}, {Seq: 2, Tick: 4}}, api.ErrOrder},
		{[]api.Record{{Seq: 1}, {Seq: 3}, {}}, api.ErrOrder},
		{[]api.Record{{Seq: 1}, {}, {Seq: 9}}, api.ErrRecord},
		{[]api.Record{{Seq: 1000000000}, {Seq: 1000000001}}, api.ErrRecord},
		{wrong, api.ErrOrder},
		{append(slices.Clone(wrong), api.Record{}), api.ErrOrder},
		{append([]api.Record{{}}, wrong...), api.ErrRecord},
		{wrong[:12], api.ErrBig},
		{rowOf(7000, 1, 0, linesOf(0)), api.ErrBig},
		{exact(0, linesOf), api.OK},
		{exact(1, linesOf), api.ErrBig},
		{exact(0, noiseOf), api.OK},
		{exact(1, noiseOf), api.ErrBig},
	} {
		b, e := Encode(x.l)
		if e != x.want || e != api.OK && b != "" {
			t.Errorf("Encode of %s: %s, %d, want %d", showAll(x.l), few(b), int(e), int(x.want))
		}
	}
}

// wantPeek is P17.2, word by word, with what stands behind the numbers.
func wantPeek(body string) (m api.Meta, rest string, e api.Errno) {
	if body == "" {
		return api.Meta{}, "", api.ErrShort
	}
	var l [5]uint64
	at := 1
	for i := range l {
		n, to, e := varint.Get(body, at)
		if e != api.OK {
			return api.Meta{}, "", e
		}
		l[i], at = uint64(n), to
	}
	raw, count, first, early, late := l[0], l[1], l[2], l[3], l[3]+l[4]
	if body[0] > 1 || raw > 20000 || count < 1 || count > raw || first < 1 || first+count > 1000000001 || late > 1000000000 {
		return api.Meta{}, "", api.ErrBlock
	}
	return api.Meta{Raw: int(raw), Count: int(count), First: int(first), Early: int(early), Late: int(late)}, body[at:], api.OK
}

// holdPeek holds Peek of a body against the chapter's words, and tells the error.
func holdPeek(t *testing.T, body string) api.Errno {
	t.Helper()
	m, e := Peek(body)
	want, _, wanted := wantPeek(body)
	if m != want || e != wanted {
		t.Fatalf("Peek of %x: %v, %d, want %v, %d", body[:min(len(body), 40)], m, int(e), want, int(wanted))
	}
	return e
}

// allTold fails if one of some errors was never told, since a test that sees no error of a kind holds nothing of it.
func allTold(t *testing.T, told map[api.Errno]int, wanted ...api.Errno) {
	t.Helper()
	for _, e := range wanted {
		if told[e] == 0 {
			t.Errorf("error %d was never told", int(e))
		}
	}
}

// textsOf tells all texts of at most so many of some bytes.
func textsOf(letters string, most int) []string {
	all := []string{""}
	for from := 0; len(all[from]) < most; from++ {
		for _, b := range []byte(letters) {
			all = append(all, all[from]+string([]byte{b}))
		}
	}
	return all
}

// P17.2: of all short texts of some bytes.
func TestPeekOfShortTexts(t *testing.T) {
	told := map[api.Errno]int{}
	for _, s := range slices.Concat(textsOf("\x00\x01\x02\x80", 8), textsOf("\x00\x01\x02\x7f\xff", 6)) {
		told[holdPeek(t, s)]++
	}
	allTold(t, told, api.OK, api.ErrShort, api.ErrForm, api.ErrBlock)
}

// P17.2: all rows of numbers at the limits and beyond, whatever stands behind them.
func TestPeekOfNumbers(t *testing.T) {
	told := map[api.Errno]int{}
	for _, mode := range []byte{0, 1, 2, 3, 127, 128, 129, 255} {
		for _, raw := range []uint64{0, 1, 2, 128, 19999, 20000, 20001, 1 << 32, math.MaxInt64} {
			for _, count := range []uint64{0, 1, 2, raw - 1, raw, raw + 1, 20000, math.MaxInt64} {
				for _, first := range []uint64{0, 1, 300, 1000000000 - count, 1000000001 - count, 1000000002 - count, 1000000000, 1000000001, math.MaxInt64} {
					for _, early := range []uint64{0, 1, 300, 999999999, 1000000000, 1000000001, math.MaxInt64} {
						for _, later := range []uint64{0, 1, 999999999 - early, 1000000000 - early, 1000000001 - early, math.MaxInt64} {
							numbers := uvarints(raw&math.MaxInt64, count&math.MaxInt64, first&math.MaxInt64, early, later&math.MaxInt64)
							told[holdPeek(t, string([]byte{mode})+numbers+strings.Repeat("\xff", int(early%3)))]++
						}
					}
				}
			}
		}
	}
	allTold(t, told, api.OK, api.ErrBlock)
}

// P17.2: a fault of any of the numbers, the first one of several, ahead of what the mode and the numbers are.
func TestTheFaultsOfPeek(t *testing.T) {
	nine := strings.Repeat("\xff", 9)
	faults := map[string]api.Errno{"": api.ErrShort, "\x80": api.ErrShort, strings.Repeat("\xff", 8): api.ErrShort, "\x80\x00": api.ErrForm, nine: api.ErrForm, nine + "\x01": api.ErrForm, "\x81\x80\x00": api.ErrForm}
	for _, mode := range []string{"\x00", "\x01", "\x02", "\xff"} {
		for _, ahead := range []string{"\x06\x01\x01\x00\x00", "\x00\x00\x00\x00\x00", "\x7f\x7f\x7f\x7f\x7f", "\x01\x02\x00\x7f\x7f"} {
			for n := range 5 {
				for fault, want := range faults {
					if m, e := Peek(mode + ahead[:n] + fault); e != want || m != (api.Meta{}) {
						t.Errorf("Peek of %x, %x, and %x: %v, %d, want %d", mode, ahead[:n], fault, m, int(e), int(want))
					}
					if m, e := Peek(mode + ahead[:n] + "\x80\x00" + fault); e != api.ErrForm || m != (api.Meta{}) {
						t.Errorf("Peek of %x, %x, 8000, and %x: %v, %d", mode, ahead[:n], fault, m, int(e))
					}
				}
			}
		}
	}
}

// P17.2: each limit, and one beyond it.
func TestTheLimitsOfPeek(t *testing.T) {
	for _, x := range []struct {
		mode                            byte
		raw, count, first, early, later uint64
		want                            api.Errno
	}{
		{0, 1, 1, 1, 0, 0, api.OK},
		{1, 1, 1, 1, 0, 0, api.OK},
		{2, 1, 1, 1, 0, 0, api.ErrBlock},
		{255, 1, 1, 1, 0, 0, api.ErrBlock},
		{0, 0, 0, 1, 0, 0, api.ErrBlock},
		{0, 0, 1, 1, 0, 0, api.ErrBlock},
		{0, 5, 0, 1, 0, 0, api.ErrBlock},
		{0, 5, 5, 1, 0, 0, api.OK},
		{0, 5, 6, 1, 0, 0, api.ErrBlock},
		{0, 20000, 20000, 1, 0, 0, api.OK},
		{0, 20001, 1, 1, 0, 0, api.ErrBlock},
		{1, 20001, 1, 1, 0, 0, api.ErrBlock},
		{0, 5, 5, 0, 0, 0, api.ErrBlock},
		{0, 5, 1, 1000000000, 0, 0, api.OK},
		{0, 5, 1, 1000000001, 0, 0, api.ErrBlock},
		{0, 5, 2, 1000000000, 0, 0, api.ErrBlock},
		{0, 5, 5, 999999996, 0, 0, api.OK},
		{0, 5, 5, 999999997, 0, 0, api.ErrBlock},
		{0, 20000, 20000, 999980001, 0, 0, api.OK},
		{0, 20000, 20000, 999980002, 0, 0, api.ErrBlock},
		{0, 5, 5, math.MaxInt64, 0, 0, api.ErrBlock},
		{0, 5, math.MaxInt64, math.MaxInt64, 0, 0, api.ErrBlock},
		{0, 5, 5, 1, 1000000000, 0, api.OK},
		{0, 5, 5, 1, 1000000001, 0, api.ErrBlock},
		{0, 5, 5, 1, 0, 1000000000, api.OK},
		{0, 5, 5, 1, 0, 1000000001, api.ErrBlock},
		{0, 5, 5, 1, 999999999, 1, api.OK},
		{0, 5, 5, 1, 999999999, 2, api.ErrBlock},
		{0, 5, 5, 1, 1000000000, math.MaxInt64, api.ErrBlock},
		{0, 5, 5, 1, math.MaxInt64, math.MaxInt64, api.ErrBlock},
		{0, 5, 5, 1, math.MaxInt64, 0, api.ErrBlock},
	} {
		var want api.Meta
		if x.want == api.OK {
			want = api.Meta{Raw: int(x.raw), Count: int(x.count), First: int(x.first), Early: int(x.early), Late: int(x.early + x.later)}
		}
		body := string([]byte{x.mode}) + uvarints(x.raw, x.count, x.first, x.early, x.later)
		if m, e := Peek(body); m != want || e != x.want {
			t.Errorf("Peek of %v: %v, %d, want %v", x, m, int(e), want)
		}
		if x.want != api.OK {
			if l, e := Decode(body + "\x80\x00"); len(l) != 0 || e != x.want {
				t.Errorf("Decode of %v: %s, %d", x, showAll(l), int(e))
			}
		}
	}
}

// wantDecode is P17.3, word by word.
func wantDecode(body string) ([]api.Record, api.Errno) {
	m, raw, e := wantPeek(body)
	if e != api.OK {
		return nil, e
	}
	if body[0] == 1 {
		if raw, e = squash.Unpack(raw); e != api.OK {
			return nil, e
		}
	}
	if len(raw) != m.Raw {
		return nil, api.ErrForm
	}
	l, e := record.Split(raw)
	if e != api.OK {
		return nil, e
	}
	if len(l) != m.Count || l[0].Seq != m.First || l[0].Tick != m.Early || l[len(l)-1].Tick != m.Late {
		return nil, api.ErrBlock
	}
	return l, api.OK
}

// holdDecode holds Decode and Peek of a body against the chapter's words, what is decoded also against what it is when it was encoded again (W3), and tells the error.
func holdDecode(t *testing.T, body string) api.Errno {
	t.Helper()
	holdPeek(t, body)
	l, e := Decode(body)
	want, wanted := wantDecode(body)
	if !slices.Equal(l, want) || e != wanted {
		t.Fatalf("Decode of %x: %s, %d, want %s, %d", body[:min(len(body), 40)], showAll(l), int(e), showAll(want), int(wanted))
	}
	if e != api.OK {
		return e
	}
	if again, e := Decode(encoded(t, l)); !slices.Equal(again, l) || e != api.OK {
		t.Fatalf("Decode of %x: %s, encoded again: %s, %d", body[:min(len(body), 40)], showAll(l), showAll(again), int(e))
	}
	return api.OK
}

// shortRows tells some rows whose blocks are short, and of both modes.
func shortRows() [][]api.Record {
	return [][]api.Record{
		{{Seq: 1, Tick: 300, Data: "hi"}}, {{Seq: 1}}, {{Seq: 1000000000, Tick: 1000000000}}, rowOf(3, 1, 0, linesOf(2)), rowOf(5, 126, 127, noiseOf(3)), rowOf(2, 999999998, 999999999, noiseOf(20)), rowOf(20, 5, 0, linesOf(20)), rowOf(30, 1, 1, linesOf(0)),
	}
}

// P17.3: of all short texts of some bytes, and of these behind the beginnings of blocks.
func TestDecodeOfShortTexts(t *testing.T) {
	told := map[api.Errno]int{}
	for _, s := range textsOf("\x00\x01\x02\x80", 7) {
		for _, ahead := range []string{"", "\x00\x03\x01\x01\x00\x00", "\x00\x06\x02\x01\x00\x01", "\x01\x03\x01\x01\x00\x00"} {
			told[holdDecode(t, ahead+s)]++
		}
	}
	allTold(t, told, api.OK, api.ErrShort, api.ErrForm, api.ErrBlock, api.ErrRecord, api.ErrOrder)
}

// P17.3: each beginning of a block, more behind it, and a byte that is another one.
func TestDecodeOfBrokenBlocks(t *testing.T) {
	told := map[api.Errno]int{}
	for _, l := range shortRows() {
		for _, b := range []string{plainOf(l), packedOf(t, l)} {
			if e := holdDecode(t, b); e != api.OK {
				t.Errorf("Decode of %s: %d", few(b), int(e))
			}
			for n := range len(b) {
				if e := holdDecode(t, b[:n]); e == api.OK {
					t.Errorf("Decode takes the first %d bytes of %s", n, few(b))
				}
				for _, x := range []byte{1, 2, 3, 64, 127, 128, 255} {
					broken := []byte(b)
					broken[n] ^= x
					told[holdDecode(t, string(broken))]++
				}
			}
			for _, more := range []string{"\x00", "a", rawOf(l), b} {
				want := api.ErrForm
				if b[0] == 1 {
					want = api.ErrRest
				}
				if e := holdDecode(t, b+more); e != want {
					t.Errorf("Decode of %s and %s: %d, want %d", few(b), few(more), int(e), int(want))
				}
			}
		}
	}
	allTold(t, told, api.OK, api.ErrShort, api.ErrForm, api.ErrBlock, api.ErrRecord, api.ErrOrder, api.ErrRest, api.ErrBits, api.ErrLens)
}

// P17.3: the block of a row, with each of its numbers another one.
func TestDecodeOfOtherNumbers(t *testing.T) {
	for _, l := range shortRows() {
		m := metaOfRow(l)
		right := []uint64{uint64(m.Raw), uint64(m.Count), uint64(m.First), uint64(m.Early), uint64(m.Late - m.Early)}
		for mode, rest := range []string{rawOf(l), packOf(t, rawOf(l))} {
			for i := range right {
				for _, n := range []uint64{0, 1, 2, right[i] - 1, right[i] + 1, 300, 20000, 999999990, 1000000000, math.MaxInt64} {
					other := slices.Clone(right)
					other[i] = n & math.MaxInt64
					want := api.ErrBlock
					if i == 0 && n <= 20000 && n >= right[1] {
						want = api.ErrForm
					}
					if other[i] == right[i] {
						want = api.OK
					}
					if e := holdDecode(t, string([]byte{byte(mode)})+uvarints(other...)+rest); e != want {
						t.Errorf("Decode of %s in mode %d with %v: %d, want %d", showAll(l), mode, other, int(e), int(want))
					}
				}
			}
			// Both times by as much: the last one is right then only with another growth.
			if m.Early > 0 {
				other := slices.Clone(right)
				other[3], other[4] = right[3]-1, right[4]+1
				if e := holdDecode(t, string([]byte{byte(mode)})+uvarints(other...)+rest); e != api.ErrBlock {
					t.Errorf("Decode of %s in mode %d with %v: %d", showAll(l), mode, other, int(e))
				}
			}
		}
	}
}

// P17.3: blocks that Encode would not make so, in the mode that is the longer one, are taken all the same.
func TestDecodeOfTheLongerMode(t *testing.T) {
	longer := map[byte]int{}
	for _, l := range rows() {
		for _, b := range []string{plainOf(l), packedOf(t, l)} {
			if got, e := Decode(b); !slices.Equal(got, l) || e != api.OK {
				t.Fatalf("Decode of %s: %s, %d", few(b), showAll(got), int(e))
			}
			if b != encoded(t, l) {
				longer[b[0]]++
			}
		}
	}
	if longer[0] == 0 || longer[1] == 0 {
		t.Error("modes that are longer:", longer)
	}
}

// P17.3: each error, also where later ones apply too.
func TestTheErrorsOfDecode(t *testing.T) {
	a, b, none := "\x01\x05\x01a", "\x02\x05\x01b", "\x00\x00\x00"
	long := strings.Repeat(a, 5001)
	for _, x := range []struct {
		ahead, raw string
		want       api.Errno
	}{
		{"\x04\x01\x01\x05\x00", a, api.OK},
		{"\x08\x02\x01\x05\x00", a + b, api.OK},
		// Peek's error comes ahead of the bytes.
		{"\x04\x01\x01\x05", "", api.ErrShort},
		{"\x04\x05\x01\x05\x00", "", api.ErrBlock},
		{"\xa1\x9c\x01\x01\x01\x05\x00", long, api.ErrBlock},
		// How many bytes there are comes ahead of what they are.
		{"\x04\x01\x01\x05\x00", a + b, api.ErrForm},
		{"\x08\x02\x01\x05\x00", a, api.ErrForm},
		{"\x04\x01\x01\x05\x00", "", api.ErrForm},
		{"\x04\x01\x01\x05\x00", none, api.ErrForm},
		{"\x01\x01\x01\x05\x00", none, api.ErrForm},
		{"\x02\x01\x01\x05\x00", "\x80", api.ErrForm},
		// The records come ahead of what they tell.
		{"\x03\x01\x09\x09\x09", none, api.ErrRecord},
		{"\x07\x02\x01\x05\x00", a + none, api.ErrRecord},
		{"\x08\x02\x02\x05\x00", b + a, api.ErrOrder},
		{"\x08\x01\x09\x09\x09", b + a, api.ErrOrder},
		{"\x08\x02\x01\x05\x00", a + a, api.ErrOrder},
		{"\x0b\x03\x01\x05\x00", a + a + none, api.ErrRecord},
		{"\x03\x01\x09\x09\x09", a[:3], api.ErrShort},
		{"\x02\x01\x09\x09\x09", "\x80\x00", api.ErrForm},
		// What they tell.
		{"\x04\x02\x01\x05\x00", a, api.ErrBlock},
		{"\x08\x01\x01\x05\x00", a + b, api.ErrBlock},
		{"\x04\x01\x02\x05\x00", a, api.ErrBlock},
		{"\x08\x02\x02\x05\x00", a + b, api.ErrBlock},
		{"\x04\x01\x01\x04\x00", a, api.ErrBlock},
		{"\x04\x01\x01\x04\x01", a, api.ErrBlock},
		{"\x04\x01\x01\x05\x01", a, api.ErrBlock},
		{"\x08\x02\x01\x05\x01", a + b, api.ErrBlock},
		{"\x08\x02\x01\x05\x00", a + "\x02\x06\x01b", api.ErrBlock},
	} {
		bodies := []string{"\x00" + x.ahead + x.raw}
		if len(x.raw) <= 20000 {
			bodies = append(bodies, "\x01"+x.ahead+packOf(t, x.raw))
		}
		if x.raw == "" && x.want == api.ErrShort {
			// The packed bytes of nothing would be the number that is missing.
			bodies = bodies[:1]
		}
		for _, body := range bodies {
			if e := holdDecode(t, body); e != x.want {
				t.Errorf("Decode of %x: %d, want %d", body[:min(len(body), 40)], int(e), int(x.want))
			}
		}
	}
}

// P17.3: squash's errors, also where what is unpacked would be wrong, too.
func TestDecodeOfWrongPacking(t *testing.T) {
	right, other := packOf(t, "\x01\x05\x01a"), packOf(t, "\x00\x00")
	for _, x := range []struct {
		rest string
		want api.Errno
	}{
		{right, api.OK},
		{"", api.ErrShort},
		{"\x80\x00", api.ErrForm},
		{right[:len(right)-1], api.ErrShort},
		{right + "\x00", api.ErrRest},
		{other + "\x00", api.ErrRest},
		{other, api.ErrForm},
		{"\xa1\x9c\x01\x00\x00\x00\x08\x08", api.ErrBig},
		{"\x01\x01\x02\x00", api.ErrBig},
		{"\x00\x01\x00\x00\x08\x08", api.ErrCycle},
		{"\x01\x01\x01\x28\x00\x40\x00", api.ErrLens},
		{"\x01\x01\x01\x00\x08\x08", api.ErrBits},
	} {
		if e := holdDecode(t, "\x01\x04\x01\x01\x05\x00"+x.rest); e != x.want {
			t.Errorf("Decode of packed bytes %x: %d, want %d", x.rest, int(e), int(x.want))
		}
	}
}

// wantMerge is P17.4, word by word.
func wantMerge(a, b string) (string, api.Errno) {
	k, e := wantDecode(a)
	if e != api.OK {
		return "", e
	}
	l, e := wantDecode(b)
	if e != api.OK {
		return "", e
	}
	return Encode(slices.Concat(k, l))
}

// P17.4: all pairs of blocks, and of bodies that are none, each with an error of its own.
func TestMerge(t *testing.T) {
	bodies := []string{"", "\x80", "\x00\x80\x00", "\x02\x01\x01\x01\x00\x00", "\x00\x03\x01\x01\x00\x00\x00\x00\x00", "\x00\x06\x02\x01\x00\x00\x01\x00\x00\x01\x00\x00", "\x01\x03\x01\x01\x00\x00\x01\x01\x02\x00", "\x01\x03\x01\x01\x00\x00\x00\x01\x00\x00\x08\x08"}
	for _, l := range [][]api.Record{
		{{Seq: 1}}, {{Seq: 2}}, {{Seq: 2, Tick: 5}}, {{Seq: 3, Tick: 4}}, rowOf(9, 1, 0, linesOf(20)), rowOf(9, 10, 3, linesOf(20)), rowOf(9, 10, 1, linesOf(20)), rowOf(9, 19, 9, noiseOf(2000)), rowOf(2, 28, 12, noiseOf(2000)), {{Seq: 1000000000, Tick: 1000000000}},
	} {
		bodies = append(bodies, encoded(t, l), plainOf(l))
	}
	told := map[api.Errno]int{}
	for _, a := range bodies {
		for _, b := range bodies {
			got, e := Merge(a, b)
			want, wanted := wantMerge(a, b)
			told[e]++
			if got != want || e != wanted || e != api.OK && got != "" {
				t.Errorf("Merge of %s and %s: %s, %d, want %s, %d", few(a), few(b), few(got), int(e), few(want), int(wanted))
			}
		}
	}
	allTold(t, told, api.OK, api.ErrShort, api.ErrForm, api.ErrBlock, api.ErrRecord, api.ErrOrder, api.ErrBig, api.ErrCycle)
}

// P17.4: each error, also where later ones apply too.
func TestTheErrorsOfMerge(t *testing.T) {
	one, two, three := encoded(t, rowOf(1, 1, 5, linesOf(0))), encoded(t, rowOf(1, 2, 5, linesOf(0))), encoded(t, rowOf(1, 3, 5, linesOf(0)))
	early := encoded(t, rowOf(1, 2, 4, linesOf(0)))
	full, last, next := encoded(t, exact(0, linesOf)), encoded(t, rowOf(1, 11, 1000, linesOf(0))), encoded(t, rowOf(1, 12, 1000, linesOf(0)))
	for _, x := range []struct {
		a, b string
		want api.Errno
	}{
		{one, two, api.OK},
		{"", two, api.ErrShort},
		{one, "", api.ErrShort},
		{"", "\x00\x80\x00", api.ErrShort},
		{"\x00\x80\x00", "", api.ErrForm},
		{"\x02\x01\x01\x01\x00\x00", "", api.ErrBlock},
		{three, "", api.ErrShort},
		{full, "\x00\x80\x00", api.ErrForm},
		{one, one, api.ErrOrder},
		{two, one, api.ErrOrder},
		{one, three, api.ErrOrder},
		{one, early, api.ErrOrder},
		{full, last, api.ErrBig},
		{full, next, api.ErrOrder},
		{last, full, api.ErrOrder},
		{full, full, api.ErrOrder},
	} {
		if b, e := Merge(x.a, x.b); e != x.want || e != api.OK && b != "" {
			t.Errorf("Merge of %s and %s: %s, %d, want %d", few(x.a), few(x.b), few(b), int(e), int(x.want))
		}
	}
	// As many bytes as there may be.
	l := exact(0, noiseOf)
	if b, e := Merge(encoded(t, l[:4]), encoded(t, l[4:])); b != encoded(t, l) || e != api.OK {
		t.Errorf("Merge up to 20000 bytes: %s, %d", few(b), int(e))
	}
}

// someInts tells numbers at the ends of int, and near 0.
func someInts() []int {
	return []int{math.MinInt, math.MinInt + 1, math.MinInt + 2, -1000000000, -3, -1, 0, 1, 2, 3, 300, 1000000000, 1 << 32, math.MaxInt - 2, math.MaxInt - 1, math.MaxInt}
}

// P17.4: any numbers at all.
func TestSeqsAndTicks(t *testing.T) {
	empty := api.Range{Lo: 1, Hi: 0}
	for _, x := range someInts() {
		for _, count := range someInts() {
			last := new(big.Int).Add(big.NewInt(int64(x)), big.NewInt(int64(count)))
			last.Sub(last, big.NewInt(1))
			want := api.Range{Lo: x, Hi: math.MaxInt}
			if last.IsInt64() {
				want.Hi = int(last.Int64())
			}
			if count < 1 {
				want = empty
			}
			if r := Seqs(api.Meta{Count: count, First: x}); r != want {
				t.Errorf("Seqs of %d from %d on: %v, want %v", count, x, r, want)
			}
			if r := Seqs(api.Meta{At: 7, Size: -7, Raw: count, Count: count, First: x, Early: 9, Late: 8}); r != want {
				t.Errorf("Seqs of %d from %d on, with other fields: %v, want %v", count, x, r, want)
			}
			for _, late := range someInts() {
				want := api.Range{Lo: x, Hi: late}
				if count < 1 {
					want = empty
				}
				if r := Ticks(api.Meta{At: -1, Size: 9, Raw: -5, Count: count, First: late, Early: x, Late: late}); r != want {
					t.Errorf("Ticks of %d from %d to %d: %v, want %v", count, x, late, r, want)
				}
			}
		}
	}
}

// P17.4
func TestSeqsAndTicksOfBlocks(t *testing.T) {
	for _, l := range rows() {
		m, e := Peek(encoded(t, l))
		first, last := l[0], l[len(l)-1]
		if e != api.OK || Seqs(m) != (api.Range{Lo: first.Seq, Hi: last.Seq}) || Ticks(m) != (api.Range{Lo: first.Tick, Hi: last.Tick}) {
			t.Errorf("%s: %d, %v, %v", showAll(l), int(e), Seqs(m), Ticks(m))
		}
	}
}

// P17.5
func TestDecodeOfEncode(t *testing.T) {
	for _, l := range rows() {
		b := encoded(t, l)
		if got, e := Decode(b); !slices.Equal(got, l) || e != api.OK {
			t.Errorf("Decode of Encode of %s: %s, %d", showAll(l), showAll(got), int(e))
		}
		if m, e := Peek(b); m != metaOfRow(l) || e != api.OK {
			t.Errorf("Peek of Encode of %s: %v, %d, want %v", showAll(l), m, int(e), metaOfRow(l))
		}
	}
}

// P17.6: of all rows, also where each number of the block is as long as it may be.
func TestBlocksAreSmall(t *testing.T) {
	long := exact(0, noiseOf)
	for i := range long {
		long[i].Seq, long[i].Tick = 999999991+i, 400000000+i*66666666
	}
	long[9].Data = long[9].Data[:len(long[9].Data)-len(rawOf(long))+20000]
	most := 0
	for _, l := range append(rows(), long) {
		by := len(encoded(t, l)) - len(rawOf(l))
		most = max(most, by)
		if by > 26 {
			t.Errorf("the block of %s has %d bytes more", showAll(l), by)
		}
	}
	// Mode 0 has 1 byte for it, and 3, 1, and three times 5 for the numbers of these ten records.
	if by := len(encoded(t, long)) - len(rawOf(long)); by != 20 || len(rawOf(long)) != 20000 || most != by {
		t.Errorf("the block of %s has %d bytes more than %d, %d at most", showAll(long), by, len(rawOf(long)), most)
	}
	if b := encoded(t, exact(0, linesOf)); len(b) > 1000 {
		t.Errorf("lines of 20000 bytes have a block of %d", len(b))
	}
}

// P17.7: cut anywhere, a row is two rows, and its block is that of theirs.
func TestMergeOfRowsThatAreCut(t *testing.T) {
	cuts := 0
	for _, l := range rows() {
		if len(l) > 1000 {
			continue
		}
		want := encoded(t, l)
		for n := 1; n < len(l); n += 1 + len(l)/3 {
			cuts++
			if b, e := Merge(encoded(t, l[:n]), encoded(t, l[n:])); b != want || e != api.OK {
				t.Fatalf("Merge of %s, cut at %d: %s, %d, want %s", showAll(l), n, few(b), int(e), few(want))
			}
			if b, e := Merge(plainOf(l[:n]), packedOf(t, l[n:])); b != want || e != api.OK {
				t.Fatalf("Merge of %s, cut at %d, in other modes: %s, %d, want %s", showAll(l), n, few(b), int(e), few(want))
			}
		}
	}
	if cuts < 100 {
		t.Error("only", cuts, "cuts")
	}
}

// What is handed in is not changed, its spare room neither.
func TestListsStayAsTheyAre(t *testing.T) {
	room := append(rowOf(5, 1, 0, linesOf(30)), api.Record{Seq: 9}, api.Record{}, api.Record{Seq: 8, Tick: -1})
	was := slices.Clone(room)
	for n := range len(room) + 1 {
		Encode(room[:n])
	}
	if !slices.Equal(room, was) {
		t.Errorf("the list became %s", showAll(room))
	}
}

// What is handed out is new memory.
func TestListsAreNew(t *testing.T) {
	for _, data := range []func(int) string{linesOf(30), noiseOf(30)} {
		want := rowOf(5, 1, 0, data)
		b := encoded(t, want)
		first, _ := Decode(b)
		first[0], first[4].Data = api.Record{}, "other"
		_ = append(first[:1], api.Record{})
		if again, e := Decode(b); !slices.Equal(again, want) || e != api.OK {
			t.Errorf("a second Decode answers %s, %d", showAll(again), int(e))
		}
	}
}

// The chapter's example.
func TestExample(t *testing.T) {
	l := []api.Record{{Seq: 1, Tick: 300, Data: "hi"}}
	body := "\x00\x06\x01\x01\xac\x02\x00" + "\x01\xac\x02\x02\x68\x69"
	if b, e := Encode(l); b != body || e != api.OK {
		t.Errorf("%x, %d", b, int(e))
	}
	if got, e := Decode(body); !slices.Equal(got, l) || e != api.OK {
		t.Errorf("%s, %d", showAll(got), int(e))
	}
}

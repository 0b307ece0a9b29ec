package record

import (
	"encoding/binary"
	"math"
	"slices"
	"strconv"
	"strings"
	"testing"

	"varve/api"
	"varve/varint"
)

// The tests hold record against the chapter's words: what a record may be, its bytes and a row are told here once more, by the library's own numbers as bytes; of what is taken only the errors of numbers come from varint.

// got is what Get answers.
type got struct {
	r  api.Record
	to int
	e  api.Errno
}

func get(s string, at int) got {
	r, to, e := Get(s, at)
	return got{r, to, e}
}

// seqs tells numbers of records, and those that none has.
func seqs() []int {
	return []int{math.MinInt, -1000000000, -1, 0, 1, 2, 126, 127, 128, 129, 255, 256, 16383, 16384, 2097151, 2097152, 268435455, 268435456, 999999999, 1000000000, 1000000001, 1 << 31, 1 << 32, 1<<32 + 1, math.MaxInt}
}

// sizes tells how many bytes data may have, and how many it may not.
func sizes() []int { return []int{0, 1, 2, 127, 128, 129, 1999, 2000, 2001, 2128, 16384, 65536, 65537} }

// dataOf tells data of so many bytes, of all kinds.
func dataOf(n int) string {
	s := make([]byte, n)
	for i := range s {
		s[i] = byte(i*i + 255 - n)
	}
	return string(s)
}

// mayBe tells whether a record may be, by the chapter's words.
func mayBe(r api.Record) bool {
	return r.Seq >= 1 && r.Seq <= 1000000000 && r.Tick >= 0 && r.Tick <= 1000000000 && len(r.Data) <= 2000
}

// wantBytes tells a record's bytes, by the chapter's words.
func wantBytes(r api.Record) string {
	b := binary.AppendUvarint(nil, uint64(r.Seq))
	b = binary.AppendUvarint(b, uint64(r.Tick))
	b = binary.AppendUvarint(b, uint64(len(r.Data)))
	return string(b) + r.Data
}

// wantJoined tells the bytes of records, one behind the other.
func wantJoined(l []api.Record) string {
	s := ""
	for _, r := range l {
		s += wantBytes(r)
	}
	return s
}

// someRecords tells records of all kinds, those that may not be among them.
func someRecords() []api.Record {
	var all []api.Record
	for _, seq := range seqs() {
		for _, tick := range seqs() {
			for _, size := range sizes() {
				all = append(all, api.Record{Seq: seq, Tick: tick, Data: dataOf(size)})
			}
		}
	}
	return all
}

// goodRecords tells records that may be.
func goodRecords() []api.Record {
	return slices.DeleteFunc(someRecords(), func(r api.Record) bool { return !mayBe(r) })
}

// show tells a record, for a message.
func show(r api.Record) string {
	return strconv.Itoa(r.Seq) + " " + strconv.Itoa(r.Tick) + " " + strconv.Quote(r.Data[:min(len(r.Data), 8)]) + " of " + strconv.Itoa(len(r.Data))
}

// showAll tells the first of some records, for a message.
func showAll(l []api.Record) []string {
	var all []string
	for _, r := range l[:min(len(l), 6)] {
		all = append(all, show(r))
	}
	return all
}

// joined joins records that may be joined.
func joined(t *testing.T, l []api.Record) string {
	t.Helper()
	s, e := Join(l)
	if e != api.OK {
		t.Fatal(showAll(l), int(e))
	}
	return s
}

// P15.1
func TestCheckSizePut(t *testing.T) {
	for _, r := range someRecords() {
		want, size, wanted := "", 0, api.ErrRecord
		if mayBe(r) {
			want, wanted = wantBytes(r), api.OK
			size = len(want)
		}
		if e := Check(r); e != wanted {
			t.Errorf("Check of %s: %d, want %d", show(r), int(e), int(wanted))
		}
		if n := Size(r); n != size {
			t.Errorf("Size of %s: %d, want %d", show(r), n, size)
		}
		if s, e := Put(r); s != want || e != wanted {
			t.Errorf("Put of %s: %x, %d, want %d", show(r), s[:min(len(s), 20)], int(e), int(wanted))
		}
	}
}

// P15.1
func TestCheckSizePutAtTheEdges(t *testing.T) {
	full := strings.Repeat("a", 2000)
	for _, x := range []struct {
		r    api.Record
		want string
	}{
		{api.Record{Seq: 1}, "\x01\x00\x00"},
		{api.Record{Seq: 1, Tick: 300, Data: "hi"}, "\x01\xac\x02\x02hi"},
		{api.Record{Seq: 127, Tick: 127, Data: "\x00"}, "\x7f\x7f\x01\x00"},
		{api.Record{Seq: 128, Tick: 128, Data: "\xff\x80"}, "\x80\x01\x80\x01\x02\xff\x80"},
		{api.Record{Seq: 1000000000, Tick: 1000000000, Data: full}, "\x80\x94\xeb\xdc\x03\x80\x94\xeb\xdc\x03\xd0\x0f" + full},
	} {
		s, e := Put(x.r)
		if s != x.want || e != api.OK || Check(x.r) != api.OK || Size(x.r) != len(x.want) {
			t.Errorf("%s: %x, %d, %d, %d", show(x.r), s[:min(len(s), 20)], int(e), int(Check(x.r)), Size(x.r))
		}
	}
	for _, r := range []api.Record{{}, {Tick: 1, Data: "a"}, {Seq: -1}, {Seq: 1000000001}, {Seq: 1, Tick: -1}, {Seq: 1, Tick: 1000000001}, {Seq: 1, Data: full + "a"}, {Seq: math.MinInt, Tick: math.MaxInt, Data: full + full}} {
		s, e := Put(r)
		if s != "" || e != api.ErrRecord || Check(r) != api.ErrRecord || Size(r) != 0 {
			t.Errorf("%s: %x, %d, %d, %d", show(r), s, int(e), int(Check(r)), Size(r))
		}
	}
}

// wantGet is P15.2, word by word.
func wantGet(s string, at int) got {
	var n [3]int
	for i := range n {
		var e api.Errno
		if n[i], at, e = varint.Get(s, at); e != api.OK {
			return got{e: e}
		}
	}
	if n[0] < 1 || n[0] > 1000000000 || n[1] > 1000000000 || n[2] > 2000 {
		return got{e: api.ErrRecord}
	}
	rest := s[at:]
	if len(rest) < n[2] {
		return got{e: api.ErrShort}
	}
	return got{r: api.Record{Seq: n[0], Tick: n[1], Data: rest[:n[2]]}, to: at + n[2]}
}

// holdGet holds Get of a text against the chapter's words, at each place.
func holdGet(t *testing.T, s string, told map[api.Errno]int) {
	t.Helper()
	for at := -1; at <= len(s)+1; at++ {
		g, want := get(s, at), wantGet(s, at)
		told[want.e]++
		if g != want {
			t.Fatalf("Get(%x, %d): %s, %d, %d, want %s, %d, %d", s[:min(len(s), 40)], at, show(g.r), g.to, int(g.e), show(want.r), want.to, int(want.e))
		}
	}
}

// allTold tells which errors no input has led to: a test of them would test nothing.
func allTold(t *testing.T, told map[api.Errno]int, wanted ...api.Errno) {
	t.Helper()
	for _, e := range wanted {
		if told[e] == 0 {
			t.Error("never told:", int(e))
		}
	}
}

// textsOf tells all texts of up to so many bytes out of some.
func textsOf(some string, most int) []string {
	all := []string{""}
	for from := 0; len(all[from]) < most; from++ {
		for i := range len(some) {
			all = append(all, all[from]+some[i:i+1])
		}
	}
	return all
}

// P15.2: of all short texts of some bytes.
func TestGetOfShortTexts(t *testing.T) {
	told := map[api.Errno]int{}
	for _, s := range slices.Concat(textsOf("\x00\x01\x02\x80", 6), textsOf("\x00\x01\x03\x7f\x80\xff", 5)) {
		holdGet(t, s, told)
	}
	allTold(t, told, api.OK, api.ErrArg, api.ErrShort, api.ErrForm, api.ErrRecord)
}

// P15.2: of numbers of all kinds, with fewer bytes behind them than they tell, as many, and more.
func TestGetOfNumbers(t *testing.T) {
	told := map[api.Errno]int{}
	numbers := slices.DeleteFunc(seqs(), func(n int) bool { return n < 0 })
	for _, seq := range numbers {
		for _, tick := range numbers {
			for _, size := range append(sizes(), 1000000, math.MaxInt-1, math.MaxInt) {
				b := binary.AppendUvarint(nil, uint64(seq))
				b = binary.AppendUvarint(b, uint64(tick))
				b = binary.AppendUvarint(b, uint64(size))
				for _, rest := range []int{0, 1, min(size, 3000) - 1, min(size, 3000), min(size, 3000) + 1} {
					if rest < 0 {
						continue
					}
					s := "\x80" + string(b) + dataOf(rest)
					g, want := get(s, 1), wantGet(s, 1)
					told[want.e]++
					if g != want {
						t.Fatalf("Get of %d %d %d and %d bytes: %s, %d, %d, want %s, %d, %d", seq, tick, size, rest, show(g.r), g.to, int(g.e), show(want.r), want.to, int(want.e))
					}
				}
			}
		}
	}
	allTold(t, told, api.OK, api.ErrRecord, api.ErrShort)
}

// P15.2: each beginning of a record's bytes, and these with a byte that is another one.
func TestGetOfBrokenBytes(t *testing.T) {
	told := map[api.Errno]int{}
	for _, r := range []api.Record{{Seq: 1}, {Seq: 1, Tick: 300, Data: "hi"}, {Seq: 1000000000, Tick: 1000000000, Data: "abcdef"}, {Seq: 128, Tick: 0, Data: dataOf(130)}} {
		s, _ := Put(r)
		for n := range len(s) {
			holdGet(t, s[:n], told)
			for _, x := range []byte{1, 2, 64, 127, 128, 255} {
				broken := []byte(s)
				broken[n] ^= x
				holdGet(t, string(broken), told)
			}
		}
		for n := range len(s) {
			if e := get(s[:n], 0).e; e != api.ErrShort {
				t.Errorf("Get of the first %d bytes of %s: %d", n, show(r), int(e))
			}
		}
	}
	allTold(t, told, api.OK, api.ErrArg, api.ErrShort, api.ErrForm, api.ErrRecord)
}

// P15.2: each error, also where later ones apply too.
func TestTheErrorsOfGet(t *testing.T) {
	long := strings.Repeat("\x80", 9)
	great := "\xff\xff\xff\xff\xff\xff\xff\xff\x7f"
	full := strings.Repeat("a", 2000)
	for _, x := range []struct {
		s    string
		at   int
		want api.Errno
	}{
		{"", 0, api.ErrShort},
		{"", -1, api.ErrArg},
		{"", 1, api.ErrArg},
		{"\x01\x01\x00", math.MinInt, api.ErrArg},
		{"\x01\x01\x00", math.MaxInt, api.ErrArg},
		{"\x01\x01\x00", 4, api.ErrArg},
		{"\x01\x01\x00", 3, api.ErrShort},
		{"\x01\x01\x00", 0, api.OK},
		{"\x01\x00\x00", 0, api.OK},
		// A number's fault comes ahead of what the numbers ahead of it are.
		{"\x00", 0, api.ErrShort},
		{"\x00\x01", 0, api.ErrShort},
		{"\x00\x80", 0, api.ErrShort},
		{"\x00\x01\x80\x00", 0, api.ErrForm},
		{great + great + long, 0, api.ErrForm},
		{great + great, 0, api.ErrShort},
		// The first fault is told.
		{"\x80\x00\x80", 0, api.ErrForm},
		{"\x01\x80\x00\x80", 0, api.ErrForm},
		{"\x01\x01" + long, 0, api.ErrForm},
		{"\x01\x01\x80", 0, api.ErrShort},
		// What the numbers are comes ahead of bytes that are not there.
		{"\x00\x01\x02a", 0, api.ErrRecord},
		{"\x00\x00\x00", 0, api.ErrRecord},
		{"\x81\x94\xeb\xdc\x03\x00\x00", 0, api.ErrRecord},
		{"\x80\x94\xeb\xdc\x03\x00\x00", 0, api.OK},
		{"\x01\x81\x94\xeb\xdc\x03\x00", 0, api.ErrRecord},
		{"\x01\x80\x94\xeb\xdc\x03\x00", 0, api.OK},
		{"\x01\x01\xd1\x0f", 0, api.ErrRecord},
		{"\x01\x01\xd1\x0f" + full + "a", 0, api.ErrRecord},
		{"\x01\x01" + great, 0, api.ErrRecord},
		{great + "\x00\x00", 0, api.ErrRecord},
		{"\x01" + great + "\x00", 0, api.ErrRecord},
		{"\x01\x01\xd0\x0f", 0, api.ErrShort},
		{"\x01\x01\xd0\x0f" + full[1:], 0, api.ErrShort},
		{"\x01\x01\xd0\x0f" + full, 0, api.OK},
		{"\x01\x01\x01", 0, api.ErrShort},
		{"\x01\x01\x02a", 0, api.ErrShort},
	} {
		g := get(x.s, x.at)
		if g.e != x.want {
			t.Errorf("Get(%x, %d): %d, want %d", x.s[:min(len(x.s), 40)], x.at, int(g.e), int(x.want))
		}
		if x.want != api.OK && g != (got{e: x.want}) {
			t.Errorf("Get(%x, %d): %s, %d beside an error", x.s[:min(len(x.s), 40)], x.at, show(g.r), g.to)
		}
	}
}

// wantRow is P15.3's Row, word by word.
func wantRow(l []api.Record) api.Errno {
	for i, r := range l {
		if !mayBe(r) {
			return api.ErrRecord
		}
		if i > 0 && r.Seq-l[i-1].Seq != 1 {
			return api.ErrOrder
		}
		if i > 0 && r.Tick < l[i-1].Tick {
			return api.ErrOrder
		}
	}
	return api.OK
}

// listsOf tells all lists of up to so many of some records.
func listsOf(some []api.Record, most int) [][]api.Record {
	all := [][]api.Record{nil}
	for from := 0; len(all[from]) < most; from++ {
		for _, r := range some {
			all = append(all, append(slices.Clone(all[from]), r))
		}
	}
	return all
}

// fewRecords tells a few records that may stand in a row, and some that may not.
func fewRecords() []api.Record {
	long := dataOf(2001)
	return []api.Record{
		{Seq: 1}, {Seq: 1, Tick: 1, Data: "a"}, {Seq: 2}, {Seq: 2, Tick: 1}, {Seq: 3, Data: "\x00"}, {Seq: 3, Tick: 1}, {Seq: 4, Tick: 1000000000},
		{}, {Seq: 2, Tick: -1}, {Seq: 2, Tick: 1, Data: long}, {Seq: 2, Tick: 1000000001},
	}
}

// P15.3: of all lists of a few records.
func TestRowOfShortLists(t *testing.T) {
	told := map[api.Errno]int{}
	for _, l := range listsOf(fewRecords(), 4) {
		want := wantRow(l)
		told[want]++
		if e := Row(l); e != want {
			t.Fatalf("Row of %v: %d, want %d", showAll(l), int(e), int(want))
		}
	}
	allTold(t, told, api.OK, api.ErrRecord, api.ErrOrder)
}

// P15.3: of all lists of two records with numbers of all kinds.
func TestRowOfTwo(t *testing.T) {
	told := map[api.Errno]int{}
	for _, seq := range seqs() {
		for _, tick := range seqs() {
			first := api.Record{Seq: seq, Tick: tick, Data: "a"}
			for _, by := range []int{-2, -1, 0, 1, 2} {
				for _, later := range []int{-1, 0, 1} {
					l := []api.Record{first, {Seq: seq + by, Tick: tick + later, Data: "b"}}
					want := wantRow(l)
					told[want]++
					if e := Row(l); e != want {
						t.Fatalf("Row of %v: %d, want %d", showAll(l), int(e), int(want))
					}
				}
			}
		}
	}
	allTold(t, told, api.OK, api.ErrRecord, api.ErrOrder)
}

// P15.3: each error, also where later ones apply too; and what is no fault.
func TestTheErrorsOfRow(t *testing.T) {
	long := dataOf(2001)
	for _, x := range []struct {
		l    []api.Record
		want api.Errno
	}{
		{nil, api.OK},
		{[]api.Record{}, api.OK},
		{[]api.Record{{Seq: 7, Tick: 9}}, api.OK},
		{[]api.Record{{Seq: 7, Tick: 9, Data: "a"}, {Seq: 8, Tick: 9, Data: "a"}, {Seq: 9, Tick: 1000}}, api.OK},
		{[]api.Record{{Seq: 999999999, Tick: 1000000000}, {Seq: 1000000000, Tick: 1000000000}}, api.OK},
		{[]api.Record{{}}, api.ErrRecord},
		{[]api.Record{{}, {Seq: 1}}, api.ErrRecord},
		{[]api.Record{{Seq: 1}, {Seq: 1}}, api.ErrOrder},
		{[]api.Record{{Seq: 1}, {Seq: 3}}, api.ErrOrder},
		{[]api.Record{{Seq: 2}, {Seq: 1}}, api.ErrOrder},
		{[]api.Record{{Seq: 1, Tick: 5}, {Seq: 2, Tick: 4}}, api.ErrOrder},
		{[]api.Record{{Seq: 1, Tick: 5}, {Seq: 2, Tick: 5}, {Seq: 3, Tick: 4}}, api.ErrOrder},
		// Record by record: what is wrong with one comes ahead of what is wrong with the next ones.
		{[]api.Record{{Seq: 1}, {Seq: 3}, {Seq: 0}}, api.ErrOrder},
		{[]api.Record{{Seq: 1}, {Seq: 0}, {Seq: 3}}, api.ErrRecord},
		{[]api.Record{{Seq: 1, Tick: 5}, {Seq: 2, Tick: 4}, {Seq: 3, Data: long}}, api.ErrOrder},
		// Of one record what it may not be comes ahead of where it may not stand.
		{[]api.Record{{Seq: 1}, {Seq: 3, Tick: -1}}, api.ErrRecord},
		{[]api.Record{{Seq: 1}, {Seq: 1, Data: long}}, api.ErrRecord},
		{[]api.Record{{Seq: 1000000000}, {Seq: 1000000001}}, api.ErrRecord},
		{[]api.Record{{Seq: 1}, {Seq: 2, Data: long}}, api.ErrRecord},
		{[]api.Record{{Seq: math.MaxInt}, {Seq: math.MinInt}}, api.ErrRecord},
	} {
		if e := Row(x.l); e != x.want {
			t.Errorf("Row of %v: %d, want %d", showAll(x.l), int(e), int(x.want))
		}
		s, e := Join(x.l)
		if e != x.want || x.want != api.OK && s != "" {
			t.Errorf("Join of %v: %x, %d, want %d", showAll(x.l), s, int(e), int(x.want))
		}
	}
}

// rowOf tells a row of n records from a number and a time on, each with so many bytes of data more or fewer.
func rowOf(n, first, tick, size int) []api.Record {
	var l []api.Record
	for i := range n {
		l = append(l, api.Record{Seq: first + i, Tick: tick + i/3, Data: dataOf(min(size+i%2, 2000))})
	}
	return l
}

// rows tells rows of many kinds, up to as many bytes as they may have.
func rows() [][]api.Record {
	all := [][]api.Record{nil, {{Seq: 1, Tick: 300, Data: "hi"}}, rowOf(9, 1, 0, 2000), rowOf(1, 1000000000, 1000000000, 2000), rowOf(6000, 1, 0, 0), rowOf(3, 999999998, 999999999, 1999), exact(0)}
	for _, first := range []int{1, 100, 127, 16380, 999999000} {
		for _, size := range []int{0, 1, 3, 126, 127, 128} {
			for _, n := range []int{1, 2, 3, 40, 100} {
				all = append(all, rowOf(n, first, first, size))
			}
		}
	}
	return slices.DeleteFunc(all, func(l []api.Record) bool { return len(wantJoined(l)) > 20000 })
}

// exact tells a row of 20000 bytes and some more.
func exact(more int) []api.Record {
	l := rowOf(9, 1, 0, 2000)
	l = append(l, api.Record{Seq: 10, Tick: 1000, Data: ""})
	l[9].Data = dataOf(20000 + more - len(wantJoined(l)) - 1)
	return l
}

// P15.3
func TestJoin(t *testing.T) {
	for _, l := range rows() {
		if got, want := joined(t, l), wantJoined(l); got != want {
			t.Errorf("Join of %d, %v: %x, want %x", len(l), showAll(l), got[:min(len(got), 20)], want[:min(len(want), 20)])
		}
	}
	for _, l := range listsOf(fewRecords(), 4) {
		want, wanted := "", wantRow(l)
		if wanted == api.OK {
			want = wantJoined(l)
		}
		if s, e := Join(l); s != want || e != wanted {
			t.Fatalf("Join of %v: %x, %d, want %x, %d", showAll(l), s[:min(len(s), 20)], int(e), want[:min(len(want), 20)], int(wanted))
		}
	}
}

// P15.3, P15.4: as many bytes as there may be, and one more.
func TestAsManyBytesAsThereMayBe(t *testing.T) {
	for more, want := range map[int]api.Errno{-1: api.OK, 0: api.OK, 1: api.ErrBig, 2: api.ErrBig} {
		l := exact(more)
		b := wantJoined(l)
		if len(b) != 20000+more {
			t.Fatal(more, len(b))
		}
		s, e := Join(l)
		if e != want || e == api.OK && s != b || e != api.OK && s != "" {
			t.Errorf("Join of %d bytes: %d bytes, %d", len(b), len(s), int(e))
		}
		m, e := Split(b)
		if e != want || e == api.OK && !slices.Equal(m, l) || e != api.OK && len(m) != 0 {
			t.Errorf("Split of %d bytes: %d records, %d", len(b), len(m), int(e))
		}
	}
	for _, l := range [][]api.Record{rowOf(11, 1, 0, 2000), rowOf(7000, 1, 0, 0), rowOf(1000, 5, 5, 2000)} {
		if s, e := Join(l); s != "" || e != api.ErrBig {
			t.Errorf("Join of %d: %d bytes, %d", len(l), len(s), int(e))
		}
	}
}

// P15.3: whatever is wrong with a row comes ahead of its bytes.
func TestRowsThatAreWrongAndTooLarge(t *testing.T) {
	l := append(rowOf(12, 1, 0, 2000), api.Record{Seq: 14, Tick: 1000})
	if s, e := Join(l); s != "" || e != api.ErrOrder {
		t.Errorf("%d bytes, %d", len(s), int(e))
	}
	l[12].Seq = 0
	if s, e := Join(l); s != "" || e != api.ErrRecord {
		t.Errorf("%d bytes, %d", len(s), int(e))
	}
	l[5].Tick = -1
	if s, e := Join(l); s != "" || e != api.ErrRecord {
		t.Errorf("%d bytes, %d", len(s), int(e))
	}
}

// wantSplit is P15.4, word by word.
func wantSplit(s string) ([]api.Record, api.Errno) {
	if len(s) > 20000 {
		return nil, api.ErrBig
	}
	var l []api.Record
	for at := 0; at < len(s); {
		g := wantGet(s, at)
		if g.e != api.OK {
			return nil, g.e
		}
		l, at = append(l, g.r), g.to
	}
	if e := wantRow(l); e != api.OK {
		return nil, e
	}
	return l, api.OK
}

// holdSplit holds Split of a text against the chapter's words, and tells the error.
func holdSplit(t *testing.T, s string) api.Errno {
	t.Helper()
	l, e := Split(s)
	want, wanted := wantSplit(s)
	if !slices.Equal(l, want) || e != wanted {
		t.Fatalf("Split of %x: %v, %d, want %v, %d", s[:min(len(s), 40)], showAll(l), int(e), showAll(want), int(wanted))
	}
	return e
}

// P15.4: of all short texts of some bytes.
func TestSplitOfShortTexts(t *testing.T) {
	told := map[api.Errno]int{}
	for _, s := range slices.Concat(textsOf("\x00\x01\x02", 9), textsOf("\x00\x01\x02\x03\x80", 6)) {
		told[holdSplit(t, s)]++
	}
	allTold(t, told, api.OK, api.ErrShort, api.ErrForm, api.ErrRecord, api.ErrOrder)
}

// P15.4: of the bytes of any records, whether they are a row or not.
func TestSplitOfRecords(t *testing.T) {
	told := map[api.Errno]int{}
	for _, l := range listsOf(fewRecords()[:8], 4) {
		told[holdSplit(t, wantJoined(l))]++
	}
	allTold(t, told, api.OK, api.ErrRecord, api.ErrOrder)
}

// P15.4: each beginning of a row's bytes, and these with a byte that is another one, or with bytes behind them.
func TestSplitOfBrokenBytes(t *testing.T) {
	told := map[api.Errno]int{}
	for _, l := range [][]api.Record{rowOf(1, 1, 300, 2), rowOf(4, 126, 127, 2), rowOf(3, 999999998, 999999999, 5), rowOf(2, 9, 9, 128)} {
		s := joined(t, l)
		for n := range len(s) {
			told[holdSplit(t, s[:n])]++
			told[holdSplit(t, s+s[:n])]++
			for _, x := range []byte{1, 2, 3, 64, 127, 128, 255} {
				broken := []byte(s)
				broken[n] ^= x
				told[holdSplit(t, string(broken))]++
			}
		}
	}
	allTold(t, told, api.OK, api.ErrShort, api.ErrForm, api.ErrRecord, api.ErrOrder)
}

// P15.4: each error, also where later ones apply too.
func TestTheErrorsOfSplit(t *testing.T) {
	for _, x := range []struct {
		s    string
		want api.Errno
	}{
		{"", api.OK},
		{"\x01\x00\x00", api.OK},
		{"\x01\x00\x00\x02\x00\x00", api.OK},
		// The bytes' number comes ahead of what they are.
		{strings.Repeat("\x80", 20001), api.ErrBig},
		{strings.Repeat("\x80", 20000), api.ErrForm},
		{strings.Repeat("\x00", 20001), api.ErrBig},
		{strings.Repeat("\x00", 20000), api.ErrRecord},
		{strings.Repeat("\x01\x00\x00", 6667), api.ErrBig},
		{strings.Repeat("\x01\x00\x00", 6666), api.ErrOrder},
		{strings.Repeat("a", 1<<20), api.ErrBig},
		// A fault of any record comes ahead of their order.
		{"\x01\x00\x00\x01\x00\x00", api.ErrOrder},
		{"\x01\x00\x00\x01\x00\x00\x00\x00\x00", api.ErrRecord},
		{"\x01\x00\x00\x01\x00\x00\x80\x00", api.ErrForm},
		{"\x01\x00\x00\x01\x00\x00\x02", api.ErrShort},
		{"\x01\x00\x00\x01\x00\x00\x02\x00\x02a", api.ErrShort},
		{"\x01\x05\x00\x02\x04\x00", api.ErrOrder},
		{"\x01\x05\x00\x02\x04\x00\x03\x04\xd1\x0f", api.ErrRecord},
		// The first fault is told.
		{"\x00\x00\x00\x80\x00", api.ErrRecord},
		{"\x80\x00\x00\x00\x00", api.ErrForm},
	} {
		l, e := Split(x.s)
		if e != x.want || e != api.OK && len(l) != 0 {
			t.Errorf("Split of %x: %v, %d, want %d", x.s[:min(len(x.s), 40)], showAll(l), int(e), int(x.want))
		}
	}
}

// P15.5
func TestGetOfPut(t *testing.T) {
	ahead := []string{"", "\x00", "\x80", "\xff\xff\xff", "\x01\x00\x05ab", strings.Repeat("\x80", 12)}
	behind := []string{"", "\x00", "\x80\x00", "\xff\xff\xff\xff\xff\xff\xff\xff\xff\xff"}
	for _, r := range goodRecords() {
		s, e := Put(r)
		if e != api.OK {
			t.Fatal(show(r), int(e))
		}
		for i, a := range ahead {
			b := behind[(i+r.Seq)%len(behind)]
			if g := get(a+s+b, len(a)); g != (got{r: r, to: len(a) + len(s)}) {
				t.Fatalf("Get of Put of %s behind %x: %s, %d, %d", show(r), a, show(g.r), g.to, int(g.e))
			}
		}
	}
}

// P15.5
func TestSplitOfJoin(t *testing.T) {
	for _, l := range rows() {
		if m, e := Split(joined(t, l)); !slices.Equal(m, l) || e != api.OK {
			t.Errorf("Split of Join of %d, %v: %d, %v, %d", len(l), showAll(l), len(m), showAll(m), int(e))
		}
	}
}

// P15.5: whatever bytes are split, what is told has just these bytes.
func TestJoinOfSplit(t *testing.T) {
	split := 0
	for _, s := range slices.Concat(textsOf("\x00\x01\x02", 9), textsOf("\x01\x02\x03\x80", 7), []string{wantJoined(exact(0))}) {
		l, e := Split(s)
		if e != api.OK {
			continue
		}
		split++
		if b := joined(t, l); b != s {
			t.Fatalf("Join of Split of %x: %x", s[:min(len(s), 40)], b[:min(len(b), 40)])
		}
	}
	if split < 100 {
		t.Error("only", split, "texts were split")
	}
}

// goesOn tells whether a row goes on behind another one: if one of them has no record, it does.
func goesOn(a, b []api.Record) bool {
	if len(a) == 0 || len(b) == 0 {
		return true
	}
	last := a[len(a)-1]
	return b[0].Seq == last.Seq+1 && b[0].Tick >= last.Tick
}

// P15.6
func TestRowsBehindRows(t *testing.T) {
	all := slices.DeleteFunc(listsOf(fewRecords(), 3), func(l []api.Record) bool { return wantRow(l) != api.OK })
	all = append(all, rowOf(3, 1, 0, 128), rowOf(4, 4, 0, 5), rowOf(4, 4, 1, 0), rowOf(5, 8, 3, 2000))
	together := 0
	for _, a := range all {
		for _, b := range all {
			both := slices.Concat(a, b)
			if !goesOn(a, b) {
				if e := Row(both); e != api.ErrOrder {
					t.Fatalf("Row of %v and %v: %d", showAll(a), showAll(b), int(e))
				}
				continue
			}
			together++
			if e := Row(both); e != api.OK {
				t.Fatalf("Row of %v and %v: %d", showAll(a), showAll(b), int(e))
			}
			if s, want := joined(t, both), joined(t, a)+joined(t, b); s != want {
				t.Fatalf("Join of %v and %v: %x, want %x", showAll(a), showAll(b), s[:min(len(s), 40)], want[:min(len(want), 40)])
			}
			if l, e := Split(joined(t, a) + joined(t, b)); !slices.Equal(l, both) || e != api.OK {
				t.Fatalf("Split of the bytes of %v and %v: %v, %d", showAll(a), showAll(b), showAll(l), int(e))
			}
		}
	}
	if together < 100 {
		t.Error("only", together, "rows go on")
	}
}

// P15.6: cut anywhere, a row is two rows, and its bytes theirs.
func TestRowsThatAreCut(t *testing.T) {
	for _, l := range rows() {
		for n := 0; n <= len(l); n += 1 + len(l)/50 {
			if s := joined(t, l); s != joined(t, l[:n])+joined(t, l[n:]) {
				t.Fatalf("Join of %v, cut at %d: other bytes", showAll(l), n)
			}
		}
	}
}

// What is handed in is not changed, its spare room neither.
func TestListsStayAsTheyAre(t *testing.T) {
	room := append(rowOf(5, 1, 0, 3), api.Record{Seq: 9}, api.Record{}, api.Record{Seq: 8, Tick: -1, Data: dataOf(2001)})
	was := slices.Clone(room)
	for n := range len(room) + 1 {
		Row(room[:n])
		Join(room[:n])
	}
	if !slices.Equal(room, was) {
		t.Errorf("the list became %v", showAll(room))
	}
}

// What is handed out is new memory.
func TestListsAreNew(t *testing.T) {
	want := rowOf(3, 1, 0, 3)
	s := joined(t, want)
	a, _ := Split(s)
	a[0], a[2].Data = api.Record{}, "other"
	_ = append(a[:1], api.Record{})
	if b, e := Split(s); !slices.Equal(b, want) || e != api.OK {
		t.Errorf("a second Split answers %v, %d", showAll(b), int(e))
	}
}

func TestExample(t *testing.T) {
	if s, e := Put(api.Record{Seq: 1, Tick: 300, Data: "hi"}); s != "\x01\xac\x02\x02\x68\x69" || e != api.OK {
		t.Errorf("%x, %d", s, int(e))
	}
	if g := get("\x01\xac\x02\x02\x68\x69", 0); g != (got{r: api.Record{Seq: 1, Tick: 300, Data: "hi"}, to: 6}) {
		t.Errorf("%s, %d, %d", show(g.r), g.to, int(g.e))
	}
}

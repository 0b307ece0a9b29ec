package squash

import (
	"math"
	"math/bits"
	"slices"
	"strconv"
	"strings"
	"testing"

	"varve/api"
	varbits "varve/bits"
	"varve/bwt"
	"varve/canon"
	"varve/front"
	"varve/huff"
	"varve/tab"
	"varve/varint"
	"varve/zrun"
)

// The tests hold squash against the chapters' words: ends are cut from the text and ordered as Go orders strings, the row of bytes is a list, a run's digits are those of its length and 1 to the base 2, and what Text tells of few bytes is looked for among all texts of the same ones. Of longer bytes what Unpack tells is held against what the layers below tell of its parts.

// transform is last bytes, and a primary.
type transform struct {
	last    string
	primary int
}

// textsOf tells all texts of up to so many bytes out of some.
func textsOf(some string, most int) []string {
	all := []string{""}
	for from := 0; len(all[from]) < most; from++ {
		for i := range len(some) {
			all = append(all, all[from]+some[i:i+1])
		}
	}
	return all
}

// rowsOf tells all lists of up to so many of some things.
func rowsOf[T any](some []T, most int) [][]T {
	all := [][]T{nil}
	for from := 0; len(all[from]) < most; from++ {
		for _, x := range some {
			all = append(all, append(slices.Clone(all[from]), x))
		}
	}
	return all
}

// mixedText tells a text of n bytes out of some, without a rule, the same one each time.
func mixedText(n int, some string) string {
	seed := uint32(n + len(some))
	s := make([]byte, n)
	for i := range s {
		seed = seed*1664525 + 1013904223
		s[i] = some[uint64(seed)*uint64(len(some))>>32]
	}
	return string(s)
}

// growing tells a text that is made of the two ahead of it again and again, cut to n bytes.
func growing(n int) string {
	a, b := "a", "ab"
	for len(b) < n {
		a, b = b, b+a
	}
	return b[:n]
}

// eachByte tells all bytes, rising.
func eachByte() string {
	var s []byte
	for n := range 256 {
		s = append(s, byte(n))
	}
	return string(s)
}

// lines tells the beginning of a log, of n bytes.
func lines(n int) string {
	s := ""
	for i := 0; len(s) < n; i++ {
		s += "2026-11-" + strconv.Itoa(10+i%20) + " GET /item/" + strconv.Itoa(i*i%97) + " 200\n"
	}
	return s[:n]
}

// shortTexts tells all short texts of a few bytes, the least and the greatest one among them.
func shortTexts() []string {
	return slices.Concat(textsOf("ab", 8), textsOf("\x00\x01\xff", 5), textsOf("a\x7f\x80\xff", 4))
}

// longTexts tells texts of many kinds, up to as long as they may be.
func longTexts() []string {
	each := eachByte()
	all := []string{each, each + each, "abracadabra", "\u00e4\u00f6\u00fc\u4e16\u754c", lines(1000), lines(20000)}
	for _, n := range []int{15, 16, 127, 128, 129, 255, 256, 257, 1000, 2000} {
		all = append(all, strings.Repeat("a", n), strings.Repeat("\x00", n), strings.Repeat("ab", n), strings.Repeat("a", n)+"b", "b"+strings.Repeat("a", n), growing(n), mixedText(n, "ab"), mixedText(n, "abcdefgh"), mixedText(n, each))
	}
	for _, n := range []int{16383, 16384, 19999, 20000} {
		all = append(all, strings.Repeat("\xff", n), strings.Repeat("\x00", n), growing(n), mixedText(n, "ab"), mixedText(n, each), strings.Repeat(mixedText(997, "abcd"), 21)[:n])
	}
	return all
}

// texts tells all of them.
func texts() []string { return slices.Concat(shortTexts(), longTexts()) }

// tooLong tells texts that have more bytes than there may be.
func tooLong() []string {
	var all []string
	for _, n := range []int{20001, 20002, 40000, 100001, 1 << 20} {
		all = append(all, strings.Repeat("a", n), strings.Repeat("\x00", n), mixedText(n, eachByte()))
	}
	return all
}

// shortText tells the beginning of a text, for a message.
func shortText(s string) string { return strconv.Quote(s[:min(len(s), 20)]) }

// short tells the beginning of a list, for a message.
func short(l []int) []int { return l[:min(len(l), 20)] }

// wantForward tells a text's transform by the words of chapter 13.
func wantForward(s string) transform {
	var ends []string
	for place := range len(s) + 1 {
		ends = append(ends, s[place:])
	}
	slices.Sort(ends)
	var last []byte
	primary := 0
	for row, end := range ends {
		if len(end) == len(s) {
			primary = row
		} else {
			last = append(last, s[len(s)-len(end)-1])
		}
	}
	return transform{string(last), primary}
}

// wantRanks tells the ranks of bytes by the words of chapter 6.
func wantRanks(s string) []int {
	row := []byte(eachByte())
	var ranks []int
	for i := range len(s) {
		rank := slices.Index(row, s[i])
		ranks = append(ranks, rank)
		row = slices.Insert(slices.Delete(row, rank, rank+1), 0, s[i])
	}
	return ranks
}

// runSymbols tells the symbols of a run of n noughts: the digits of n, each less 1, are those of n and 1 to the base 2, without the highest one.
func runSymbols(n int) []int {
	var symbols []int
	for place := range bits.Len(uint(n+1)) - 1 {
		symbols = append(symbols, (n+1)>>place&1)
	}
	return symbols
}

// wantSymbols tells a text's symbols and its primary.
func wantSymbols(s string) ([]int, int) {
	x := wantForward(s)
	var symbols []int
	run := 0
	for _, rank := range wantRanks(x.last) {
		if rank == 0 {
			run++
			continue
		}
		symbols = append(append(symbols, runSymbols(run)...), rank+1)
		run = 0
	}
	return append(symbols, runSymbols(run)...), x.primary
}

// numbers tells the bytes of numbers, one behind the other.
func numbers(t *testing.T, l ...int) string {
	t.Helper()
	s := ""
	for _, n := range l {
		b, e := varint.Put(n)
		if e != api.OK {
			t.Fatal(n, int(e))
		}
		s += b
	}
	return s
}

// bytesOf tells the bytes of symbols.
func bytesOf(t *testing.T, symbols ...int) string {
	t.Helper()
	s, e := huff.Encode(symbols)
	if e != api.OK {
		t.Fatal(short(symbols), int(e))
	}
	return s
}

// wantPack tells a text's packed bytes.
func wantPack(t *testing.T, s string) string {
	t.Helper()
	symbols, primary := wantSymbols(s)
	return numbers(t, len(s), primary, len(symbols)) + bytesOf(t, symbols...)
}

// packOf packs a text that may be packed.
func packOf(t *testing.T, s string) string {
	t.Helper()
	b, e := Pack(s)
	if e != api.OK {
		t.Fatal(shortText(s), len(s), int(e))
	}
	return b
}

// P14.1
func TestSymbols(t *testing.T) {
	for _, s := range texts() {
		got, primary, e := Symbols(s)
		want, wantPrimary := wantSymbols(s)
		if !slices.Equal(got, want) || primary != wantPrimary || e != api.OK {
			t.Fatal(shortText(s), len(s), short(got), short(want), primary, wantPrimary, int(e))
		}
	}
}

// P14.1
func TestSomeSymbols(t *testing.T) {
	for _, x := range []struct {
		s       string
		want    []int
		primary int
	}{
		{"", nil, 0},
		{"\x00", []int{0}, 1},
		{"\x00\x00", []int{1}, 2},
		{"\x00\x00\x00\x00", []int{1, 0}, 4},
		{"\x01", []int{2}, 1},
		{"a", []int{98}, 1},
		{"aaaaaa", []int{98, 0, 1}, 6},
		{"\xfe", []int{255}, 1},
		{"\xff", []int{256}, 1},
		{"ab", []int{99, 99}, 1},
		{"banana", []int{98, 111, 0, 100, 3, 0}, 4},
	} {
		if got, primary, e := Symbols(x.s); !slices.Equal(got, x.want) || primary != x.primary || e != api.OK {
			t.Error(shortText(x.s), got, primary, int(e))
		}
	}
}

// P14.1
func TestPack(t *testing.T) {
	for _, s := range texts() {
		if got, want := packOf(t, s), wantPack(t, s); got != want {
			t.Fatalf("%s of %d: %x, want %x", shortText(s), len(s), got[:min(len(got), 20)], want[:min(len(want), 20)])
		}
	}
}

// P14.1: bytes that were laid by hand, bit by bit.
func TestSomePackedBytes(t *testing.T) {
	for s, want := range map[string]string{
		"": "\x00\x00\x00" + "\x00\x08\x08",
		// 0001 1, 0000 and the gamma bits of 256, 0.
		"\x00": "\x01\x01\x01" + "\x18\x00\x40\x00",
		// 0000 1, 0001 1, 0000 and the gamma bits of 255, 0.
		"\x00\x00": "\x02\x02\x01" + "\x08\xc0\x07\xf8",
		// 0000 and the gamma bits of 98, 0001 1, 0000 and those of 158, 0.
		"a": "\x01\x01\x01" + "\x00\x31\x0c\x00\x4f\x00",
		// 0000 and the gamma bits of 256, 0001 1, 0.
		"\xff": "\x01\x01\x01" + "\x00\x08\x00\xc0",
	} {
		if got := packOf(t, s); got != want {
			t.Errorf("%s: %x, want %x", shortText(s), got, want)
		}
	}
	// The numbers need two bytes from 128 on, three from 16384 on; a run of 16384 has 14 symbols.
	for n, want := range map[int]string{127: "\x7f\x7f\x07", 128: "\x80\x01\x80\x01\x07", 16384: "\x80\x80\x01\x80\x80\x01\x0e", 20000: "\xa0\x9c\x01\xa0\x9c\x01\x0e"} {
		if got := packOf(t, strings.Repeat("\x00", n)); !strings.HasPrefix(got, want) {
			t.Errorf("%d bytes: %x, want %x", n, got, want)
		}
	}
}

// P14.1
func TestTextsThatAreTooLong(t *testing.T) {
	for _, s := range tooLong() {
		if l, primary, e := Symbols(s); l != nil || primary != 0 || e != api.ErrBig {
			t.Error(shortText(s), len(s), short(l), primary, int(e))
		}
		if b, e := Pack(s); b != "" || e != api.ErrBig {
			t.Error(shortText(s), len(s), len(b), int(e))
		}
	}
}

// ranksOf tells the ranks of symbols, or the first of the errors that P7.3 names.
func ranksOf(symbols []int, most int) ([]int, api.Errno) {
	var ranks []int
	place := 1
	for _, symbol := range symbols {
		switch {
		case symbol < 0 || symbol > 256:
			return nil, api.ErrSymbol
		case symbol < 2:
			ranks = append(ranks, make([]int, (symbol+1)*place)...)
			place *= 2
		default:
			ranks = append(ranks, symbol-1)
			place = 1
		}
	}
	if len(ranks) > most {
		return nil, api.ErrBig
	}
	return ranks, api.OK
}

// bytesOfRanks tells the bytes whose ranks these are.
func bytesOfRanks(ranks []int) string {
	row := []byte(eachByte())
	var s []byte
	for _, rank := range ranks {
		b := row[rank]
		s = append(s, b)
		row = slices.Insert(slices.Delete(row, rank, rank+1), 0, b)
	}
	return string(s)
}

// ordersOf tells all texts of just these bytes.
func ordersOf(bytes string) []string {
	if bytes == "" {
		return []string{""}
	}
	var all []string
	for i := range len(bytes) {
		if strings.IndexByte(bytes, bytes[i]) < i {
			continue
		}
		for _, rest := range ordersOf(bytes[:i] + bytes[i+1:]) {
			all = append(all, bytes[i:i+1]+rest)
		}
	}
	return all
}

// textsWith tells of each primary the text that has it, and these last bytes.
func textsWith(last string) map[int]string {
	all := map[int]string{}
	for _, s := range ordersOf(last) {
		if x := wantForward(s); x.last == last {
			all[x.primary] = s
		}
	}
	return all
}

// P14.2: of all lists of a few symbols, wrong ones among them, with many numbers and primaries.
func TestText(t *testing.T) {
	told := map[api.Errno]int{}
	for _, symbols := range rowsOf([]int{-1, 0, 1, 2, 98, 256, 257}, 4) {
		ranks, e := ranksOf(symbols, math.MaxInt)
		texts := map[int]string{}
		if e == api.OK {
			texts = textsWith(bytesOfRanks(ranks))
		}
		for _, n := range []int{-1, 0, 1, 2, 3, 4, 5, len(ranks) - 1, len(ranks), len(ranks) + 1, 20000, 20001} {
			for primary := -1; primary <= len(ranks)+1; primary++ {
				want, wanted := texts[primary], api.OK
				_, found := texts[primary]
				_, fault := ranksOf(symbols, n)
				switch {
				case n < 0 || n > 20000:
					want, wanted = "", api.ErrArg
				case fault != api.OK:
					want, wanted = "", fault
				case len(ranks) != n:
					want, wanted = "", api.ErrForm
				case !found:
					want, wanted = "", api.ErrCycle
				}
				told[wanted]++
				if got, e := Text(symbols, primary, n); got != want || e != wanted {
					t.Fatal(symbols, primary, n, shortText(got), shortText(want), int(e), int(wanted))
				}
			}
		}
	}
	for _, e := range []api.Errno{api.OK, api.ErrArg, api.ErrSymbol, api.ErrBig, api.ErrForm, api.ErrCycle} {
		if told[e] == 0 {
			t.Error("never told:", int(e))
		}
	}
}

// P14.2: each error, also where later ones apply too.
func TestTheErrorsOfText(t *testing.T) {
	run := slices.Repeat([]int{1}, 100)
	for _, x := range []struct {
		symbols    []int
		primary, n int
		want       api.Errno
	}{
		{nil, 0, 0, api.OK},
		{nil, 0, -1, api.ErrArg},
		{nil, 0, math.MinInt, api.ErrArg},
		{nil, 0, 20001, api.ErrArg},
		{nil, 0, math.MaxInt, api.ErrArg},
		{[]int{257, 5, 5}, 9, -1, api.ErrArg},
		{[]int{-1}, -1, 20001, api.ErrArg},
		{[]int{-1}, 1, 1, api.ErrSymbol},
		{[]int{257}, 1, 1, api.ErrSymbol},
		{[]int{math.MinInt}, 1, 1, api.ErrSymbol},
		{[]int{math.MaxInt}, 1, 1, api.ErrSymbol},
		{[]int{5, 5, 5, 257}, 9, 1, api.ErrSymbol},
		{append(slices.Clone(run), -1), 1, 20000, api.ErrSymbol},
		{[]int{257}, 9, 5, api.ErrSymbol},
		{[]int{98}, 1, 0, api.ErrBig},
		{[]int{98, 99}, 9, 1, api.ErrBig},
		{[]int{1}, 1, 1, api.ErrBig},
		{run, -1, 20000, api.ErrBig},
		{slices.Repeat([]int{98}, 20001), 1, 20000, api.ErrBig},
		{nil, 0, 1, api.ErrForm},
		{nil, 0, 20000, api.ErrForm},
		{nil, -1, 1, api.ErrForm},
		{[]int{98}, 1, 2, api.ErrForm},
		{[]int{98}, 9, 2, api.ErrForm},
		{[]int{1}, 2, 3, api.ErrForm},
		{nil, 1, 0, api.ErrCycle},
		{nil, -1, 0, api.ErrCycle},
		{[]int{98}, 0, 1, api.ErrCycle},
		{[]int{98}, 2, 1, api.ErrCycle},
		{[]int{98}, math.MinInt, 1, api.ErrCycle},
		{[]int{98}, math.MaxInt, 1, api.ErrCycle},
		{[]int{98, 99}, 1, 2, api.ErrCycle},
		{[]int{98, 0}, 1, 2, api.ErrCycle},
		{[]int{98, 111, 0, 100, 3, 0}, 3, 6, api.ErrCycle},
	} {
		if got, e := Text(x.symbols, x.primary, x.n); got != "" || e != x.want {
			t.Error(short(x.symbols), x.primary, x.n, shortText(got), int(e), int(x.want))
		}
	}
}

// P14.2: as many bytes as there may be, one fewer, and one more.
func TestTextAtTheLimit(t *testing.T) {
	for _, n := range []int{19999, 20000, 20001} {
		nought := runSymbols(n)
		each := append([]int{256}, runSymbols(n-1)...)
		for _, most := range []int{19999, 20000, 20001} {
			wanted := api.OK
			switch {
			case most > 20000:
				wanted = api.ErrArg
			case n > most:
				wanted = api.ErrBig
			case n < most:
				wanted = api.ErrForm
			}
			s, e := Text(nought, n, most)
			ff, f := Text(each, n, most)
			if e != wanted || f != wanted {
				t.Error(n, most, int(e), int(f), int(wanted))
			}
			if wanted == api.OK && (s != strings.Repeat("\x00", n) || ff != strings.Repeat("\xff", n)) || wanted != api.OK && s+ff != "" {
				t.Error(n, most, shortText(s), len(s), shortText(ff), len(ff))
			}
		}
	}
}

// P14.1, P14.2
func TestTextOfSymbols(t *testing.T) {
	for _, s := range texts() {
		symbols, primary := wantSymbols(s)
		if got, e := Text(symbols, primary, len(s)); got != s || e != api.OK {
			t.Fatal(shortText(s), len(s), shortText(got), len(got), int(e))
		}
	}
}

// wantUnpack tells what the layers below tell of the parts of packed bytes.
func wantUnpack(b string) (string, api.Errno) {
	var l [3]int
	at := 0
	for i := range l {
		n, to, e := varint.Get(b, at)
		if e != api.OK {
			return "", e
		}
		l[i], at = n, to
	}
	if l[0] > 20000 || l[2] > l[0] {
		return "", api.ErrBig
	}
	symbols, e := huff.Decode(b[at:], l[2])
	if e != api.OK {
		return "", e
	}
	ranks, e := zrun.Unpack(symbols, l[0])
	if e != api.OK {
		return "", e
	}
	if len(ranks) < l[0] {
		return "", api.ErrForm
	}
	last, e := front.Text(ranks)
	if e != api.OK {
		return "", e
	}
	return bwt.Inverse(last, l[1])
}

// unpacks holds Unpack of bytes against what is wanted, and, of what it tells, P14.5.
func unpacks(t *testing.T, b string) api.Errno {
	t.Helper()
	got, e := Unpack(b)
	want, wanted := wantUnpack(b)
	if got != want || e != wanted {
		t.Fatalf("%x: %s, %d, want %s, %d", b[:min(len(b), 40)], shortText(got), int(e), shortText(want), int(wanted))
	}
	if e != api.OK {
		return e
	}
	if again, e := Unpack(packOf(t, got)); again != got || e != api.OK {
		t.Fatalf("%x: %s, and then %s, %d", b[:min(len(b), 40)], shortText(got), shortText(again), int(e))
	}
	return api.OK
}

// rests tells what may stand behind the three numbers: bytes of symbols, each with something missing, or more behind it.
func rests(t *testing.T) []string {
	t.Helper()
	all := []string{"", "\x00", "\xff\xff\xff\xff", "\x00\x08\x10", "\x28\x00\x40\x00"}
	for _, symbols := range [][]int{nil, {0}, {1}, {98}, {256}, {98, 0}, {98, 99}, {99, 99}, {98, 111, 0, 100, 3, 0}, runSymbols(300), runSymbols(20000)} {
		s := bytesOf(t, symbols...)
		all = append(all, s, s[:len(s)-1], s+"\x00", s+"\x01")
	}
	return all
}

// P14.3, P14.5: all headers of some numbers, ahead of bytes of symbols, right and wrong ones.
func TestUnpackOfParts(t *testing.T) {
	some := []string{"", "\x80", "\x80\x00", "\x01\x00"}
	for _, n := range []int{0, 1, 2, 4, 6, 13, 300, 20000, 20001, 100001, math.MaxInt} {
		some = append(some, numbers(t, n))
	}
	behind := rests(t)
	told := map[api.Errno]int{}
	for _, head := range rowsOf(some, 3) {
		for _, rest := range behind {
			told[unpacks(t, strings.Join(head, "")+rest)]++
		}
	}
	for _, e := range []api.Errno{api.OK, api.ErrBig, api.ErrShort, api.ErrForm, api.ErrRest, api.ErrBits, api.ErrLens, api.ErrCycle} {
		if told[e] == 0 {
			t.Error("never told:", int(e))
		}
	}
}

// P14.3, P14.5
func TestUnpackOfShortBytes(t *testing.T) {
	for _, b := range slices.Concat(textsOf(eachByte(), 2), textsOf("\x00\x01\x02\x08\x7f\x80\xff", 5)) {
		unpacks(t, b)
	}
}

// P14.3: each error, also where later ones apply too.
func TestTheErrorsOfUnpack(t *testing.T) {
	nine := strings.Repeat("\xff", 9)
	none, one, two := bytesOf(t), bytesOf(t, 98), bytesOf(t, 98, 99)
	for _, x := range []struct {
		b    string
		want api.Errno
	}{
		// The three numbers.
		{"", api.ErrShort},
		{"\x01", api.ErrShort},
		{"\x01\x01", api.ErrShort},
		{"\x80", api.ErrShort},
		{"\x01\x80", api.ErrShort},
		{"\x01\x01\x80", api.ErrShort},
		{"\x80\x00\x00\x00" + none, api.ErrForm},
		{"\x00\x80\x00\x00" + none, api.ErrForm},
		{"\x00\x00\x80\x00" + none, api.ErrForm},
		{nine + "\x01\x00\x00" + none, api.ErrForm},
		{"\x00" + nine + "\x01\x00" + none, api.ErrForm},
		// The first number's fault is told ahead of the next one's, and each ahead of what the numbers are.
		{"\x80\x00\xff", api.ErrForm},
		{"\x80", api.ErrShort},
		{"\xa1\x9c\x01\x80\x00\x80", api.ErrForm},
		{"\xa1\x9c\x01\x00", api.ErrShort},
		{"\xa1\x9c\x01\x00\x80\x00", api.ErrForm},
		{"\x00\x00\xff", api.ErrShort},
		// How many there are, ahead of the rest.
		{"\xa1\x9c\x01\x00\x00" + none, api.ErrBig},
		{"\xa1\x9c\x01\x00\x00", api.ErrBig},
		{"\xa1\x9c\x01\xa1\x9c\x01\xa1\x9c\x01", api.ErrBig},
		{nine[:8] + "\x7f\x00\x00" + none, api.ErrBig},
		{"\x00\x00\x01" + one, api.ErrBig},
		{"\x00\x00\x01", api.ErrBig},
		{"\x01\x01\x02" + two, api.ErrBig},
		{"\x01\x01\x02" + "\xff", api.ErrBig},
		{"\xa0\x9c\x01\x00\xa1\x9c\x01", api.ErrBig},
		{"\x00\x00" + nine[:8] + "\x7f", api.ErrBig},
		// The bytes of the symbols.
		{"\x00\x00\x00", api.ErrShort},
		{"\x00\x00\x00" + none[:2], api.ErrShort},
		{"\x00\x00\x00" + none + "\x00", api.ErrRest},
		{"\x00\x00\x00" + none[:2] + "\x09", api.ErrRest},
		{"\x01\x01\x01" + one + "\x00", api.ErrRest},
		{"\x01\x01\x01" + "\x28\x00\x40\x00", api.ErrLens},
		{"\x01\x01\x01" + none, api.ErrBits},
		{"\x00\x00\x00" + "\x00\x08\x10", api.ErrBits},
		// The rest, ahead of what the symbols tell.
		{"\x02\x09\x01" + one + "\x00", api.ErrRest},
		// What the symbols tell.
		{"\x01\x01\x01" + bytesOf(t, 1), api.ErrBig},
		{"\x02\x09\x02" + bytesOf(t, 98, 1), api.ErrBig},
		{"\x01\x01\x00" + none, api.ErrForm},
		{"\x02\x01\x01" + one, api.ErrForm},
		{"\x02\x09\x01" + one, api.ErrForm},
		{"\xa0\x9c\x01\x00\x00" + none, api.ErrForm},
		{"\x00\x01\x00" + none, api.ErrCycle},
		{"\x00" + nine[:8] + "\x7f\x00" + none, api.ErrCycle},
		{"\x01\x00\x01" + one, api.ErrCycle},
		{"\x01\x02\x01" + one, api.ErrCycle},
		{"\x02\x01\x02" + two, api.ErrCycle},
		{"\x02\x03\x02" + two, api.ErrCycle},
	} {
		if got, e := Unpack(x.b); got != "" || e != x.want {
			t.Errorf("%x: %s, %d, want %d", x.b, shortText(got), int(e), int(x.want))
		}
	}
}

// P14.3: no beginning of packed bytes is taken.
func TestUnpackOfEachBeginning(t *testing.T) {
	for _, s := range []string{"", "a", "\x00", "banana", eachByte(), lines(500), strings.Repeat("\x00", 20000), mixedText(300, "ab")} {
		b := packOf(t, s)
		for at := range len(b) {
			if e := unpacks(t, b[:at]); e == api.OK {
				t.Errorf("%s: %d of %d bytes", shortText(s), at, len(b))
			}
		}
		for _, more := range []string{"\x00", "\x01", "\xff\xff", b} {
			if e := unpacks(t, b+more); e != api.ErrRest {
				t.Errorf("%s: and %x: %d", shortText(s), more, int(e))
			}
		}
	}
}

// P14.3, P14.5: packed bytes of which a bit is turned, or a byte is another one.
func TestUnpackOfChangedBytes(t *testing.T) {
	took := 0
	for _, s := range []string{"", "a", "\x00\x00", "banana", "abracadabra", eachByte(), lines(200), strings.Repeat("\x00", 300), mixedText(300, "ab"), growing(300)} {
		b := packOf(t, s)
		for at := range len(b) {
			for turn := 1; turn < 256; turn++ {
				if at > 12 && turn&(turn-1) != 0 {
					continue
				}
				changed := []byte(b)
				changed[at] ^= byte(turn)
				if unpacks(t, string(changed)) == api.OK {
					took++
				}
			}
		}
	}
	if took == 0 {
		t.Error("nothing was told")
	}
}

// bytesBy tells the bytes of symbols by other lengths than the best ones.
func bytesBy(t *testing.T, lengths, symbols []int) string {
	t.Helper()
	code, e := canon.New(lengths)
	if e != api.OK {
		t.Fatal(short(lengths), int(e))
	}
	var w varbits.Writer
	if e := tab.Put(&w, lengths); e != api.OK {
		t.Fatal(short(lengths), int(e))
	}
	for _, symbol := range symbols {
		if e := code.Put(&w, symbol); e != api.OK {
			t.Fatal(symbol, int(e))
		}
	}
	return w.Text()
}

// P14.3, P14.5: bytes that Pack does not make, of a text all the same.
func TestUnpackByOtherLengths(t *testing.T) {
	nine := slices.Concat(slices.Repeat([]int{8}, 255), []int{9, 9})
	back := slices.Concat([]int{9, 9}, slices.Repeat([]int{8}, 255))
	for _, s := range texts() {
		symbols, primary := wantSymbols(s)
		b := packOf(t, s)
		for _, lengths := range [][]int{nine, back} {
			other := numbers(t, len(s), primary, len(symbols)) + bytesBy(t, lengths, symbols)
			got, e := Unpack(other)
			if got != s || e != api.OK || other == b {
				t.Fatal(shortText(s), len(s), shortText(got), int(e), other == b)
			}
			if again := packOf(t, got); again != b {
				t.Fatalf("%s: %x, then %x", shortText(s), b[:min(len(b), 40)], again[:min(len(again), 40)])
			}
		}
	}
}

// P14.4
func TestUnpackOfPack(t *testing.T) {
	for _, s := range texts() {
		b := packOf(t, s)
		if got, e := Unpack(b); got != s || e != api.OK {
			t.Fatal(shortText(s), len(s), shortText(got), len(got), int(e))
		}
	}
}

// P14.3, P14.4: the packed bytes need not be Pack's.
func TestUnpackByWords(t *testing.T) {
	for _, s := range texts() {
		if got, e := Unpack(wantPack(t, s)); got != s || e != api.OK {
			t.Fatal(shortText(s), len(s), shortText(got), len(got), int(e))
		}
	}
}

// What is handed in is not changed, its spare room neither.
func TestListsAreNotChanged(t *testing.T) {
	for _, x := range []struct {
		symbols    []int
		primary, n int
	}{
		{nil, 0, 0}, {[]int{98, 111, 0, 100, 3, 0}, 4, 6}, {[]int{98, 111, 0, 100, 3, 0}, 1, 6}, {[]int{98, 1, 1}, 7, 7}, {[]int{98, 0}, 2, 1}, {[]int{98, 257}, 2, 2}, {[]int{98}, 1, -1},
	} {
		room := append(slices.Clone(x.symbols), 0, 1, 7, 257)
		before := slices.Clone(room)
		Text(room[:len(x.symbols)], x.primary, x.n)
		if !slices.Equal(room, before) {
			t.Error(before, room)
		}
	}
}

// What is handed out is new, and nothing is kept.
func TestCallsAreApart(t *testing.T) {
	first, _, _ := Symbols("banana")
	want := slices.Clone(first)
	second, _, _ := Symbols("banana")
	for i := range first {
		first[i] = -9
	}
	first = append(first, 7)
	Text(second, 1, 6)
	Unpack("\x01\x01\x02\x00")
	Pack(strings.Repeat("a", 20001))
	third, primary, e := Symbols("banana")
	if e != api.OK || primary != 4 || !slices.Equal(second, want) || !slices.Equal(third, want) {
		t.Error(second, third, primary, int(e))
	}
	if got, again := packOf(t, "banana"), packOf(t, "banana"); got != again {
		t.Errorf("%x, then %x", got, again)
	}
}

// The chapter's example.
func TestExample(t *testing.T) {
	if b, e := Pack(""); b != "\x00\x00\x00\x00\x08\x08" || e != api.OK {
		t.Errorf("%x, %d", b, int(e))
	}
	if s, e := Unpack("\x00\x00\x00\x00\x08\x08"); s != "" || e != api.OK {
		t.Error(shortText(s), int(e))
	}
}

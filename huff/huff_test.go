package huff

import (
	"cmp"
	"math"
	"slices"
	"strconv"
	"strings"
	"testing"

	"varve/api"
	"varve/lens"
	"varve/tab"
)

// The tests hold huff against rows of the digits 0 and 1: the bits of lengths and the code words are made by the words of their chapters, and read by looking for what a row begins with.

// digits is a number as a row of so many digits.
func digits(n, width int) string {
	s := strconv.FormatInt(int64(n), 2)
	return strings.Repeat("0", width-len(s)) + s
}

// gamma is a number's gamma bits as a row.
func gamma(n int) string {
	s := strconv.FormatInt(int64(n), 2)
	return strings.Repeat("0", len(s)-1) + s
}

// run is so many of a length as a row.
func run(length, count int) string { return digits(length, 4) + gamma(count) }

// headOf is the bits of lengths: a run ends where the next length is another one.
func headOf(lens []int) string {
	row, count := "", 0
	for i, n := range lens {
		count++
		if i+1 == len(lens) || lens[i+1] != n {
			row += run(n, count)
			count = 0
		}
	}
	return row
}

// inOrder tells the symbols that are used, by their lengths, those of one length by their numbers.
func inOrder(lens []int) []int {
	var l []int
	for symbol, n := range lens {
		if n > 0 {
			l = append(l, symbol)
		}
	}
	slices.SortFunc(l, func(a, b int) int {
		return cmp.Or(cmp.Compare(lens[a], lens[b]), cmp.Compare(a, b))
	})
	return l
}

// wordsOf is the code words of lengths as rows; an empty one of a symbol that is not used.
func wordsOf(lens []int) []string {
	words := make([]string, len(lens))
	n, width := -1, 0
	for _, symbol := range inOrder(lens) {
		if n++; width > 0 {
			n *= 1 << (lens[symbol] - width)
		}
		width = lens[symbol]
		words[symbol] = digits(n, width)
	}
	return words
}

// wordRow is the code words of symbols as one row.
func wordRow(lens, symbols []int) string {
	words := wordsOf(lens)
	var row strings.Builder
	for _, symbol := range symbols {
		row.WriteString(words[symbol])
	}
	return row.String()
}

// often is how often each of the 257 symbols comes.
func often(symbols []int) []int {
	counts := make([]int, 257)
	for _, symbol := range symbols {
		counts[symbol]++
	}
	return counts
}

// bestOf is the best lengths of symbols.
func bestOf(t *testing.T, symbols []int) []int {
	t.Helper()
	l, e := lens.Best(often(symbols), 15)
	if len(l) != 257 || e != api.OK {
		t.Fatalf("the best lengths of %v are %d, %d", short(symbols), len(l), int(e))
	}
	return l
}

// rowOf is the bits of symbols, without noughts behind them.
func rowOf(t *testing.T, symbols []int) string {
	t.Helper()
	l := bestOf(t, symbols)
	return headOf(l) + wordRow(l, symbols)
}

// wantRun is what the run is with which a row begins: the length, how many, how many digits it has, or the error.
func wantRun(row string) (length, count, size int, e api.Errno) {
	if len(row) < 4 {
		return 0, 0, 0, api.ErrShort
	}
	noughts := strings.Index(row[4:], "1")
	switch {
	case noughts < 0:
		return 0, 0, 0, api.ErrShort
	case noughts > 31:
		return 0, 0, 0, api.ErrBits
	}
	size = 4 + 2*noughts + 1
	if size > len(row) {
		return 0, 0, 0, api.ErrShort
	}
	high, _ := strconv.ParseInt(row[:4], 2, 64)
	many, _ := strconv.ParseInt(row[4:size], 2, 64)
	return int(high), int(many), size, api.OK
}

// wantHead is the 257 lengths with which a row begins: these, how many digits they have, or the error.
func wantHead(row string) (l []int, size int, e api.Errno) {
	for last := -1; len(l) < 257; {
		length, count, more, e := wantRun(row[size:])
		switch {
		case e != api.OK:
			return nil, 0, e
		case length == last:
			return nil, 0, api.ErrForm
		case len(l)+count > 257:
			return nil, 0, api.ErrBits
		}
		for range count {
			l = append(l, length)
		}
		last, size = length, size+more
	}
	if e := lens.Check(l); e != api.OK {
		return nil, 0, e
	}
	return l, size, api.OK
}

// wantWord is the code word with which a row begins: the symbol, how many digits it has, or the error.
func wantWord(words []string, row string) (symbol, size int, e api.Errno) {
	e = api.ErrBits
	if row == "" {
		e = api.ErrShort
	}
	for symbol, word := range words {
		switch {
		case word == "":
		case strings.HasPrefix(row, word):
			return symbol, len(word), api.OK
		case strings.HasPrefix(word, row):
			e = api.ErrShort
		}
	}
	return 0, 0, e
}

// wantDecode is what Decode tells of a row.
func wantDecode(row string, n int) ([]int, api.Errno) {
	if n < 0 || n > 100000 {
		return nil, api.ErrArg
	}
	lens, at, e := wantHead(row)
	if e != api.OK {
		return nil, e
	}
	words := wordsOf(lens)
	var l []int
	for range n {
		symbol, size, e := wantWord(words, row[at:])
		if e != api.OK {
			return nil, e
		}
		l, at = append(l, symbol), at+size
	}
	if rest := row[at:]; len(rest) > 7 || strings.Contains(rest, "1") {
		return nil, api.ErrRest
	}
	return l, api.OK
}

// bitsOf is the bits of a text as a row.
func bitsOf(s string) string {
	var row strings.Builder
	for i := range len(s) {
		row.WriteString(digits(int(s[i]), 8))
	}
	return row.String()
}

// textOf is the bytes of a row, with noughts behind it up to a whole byte.
func textOf(row string) string {
	row += strings.Repeat("0", (8-len(row)%8)%8)
	var s []byte
	for ; row != ""; row = row[8:] {
		b, _ := strconv.ParseUint(row[:8], 2, 8)
		s = append(s, byte(b))
	}
	return string(s)
}

// decodes tells whether Decode tells of a row what it should.
func decodes(t *testing.T, row string, n int) {
	t.Helper()
	// The noughts up to a whole byte are there to be read.
	s := textOf(row)
	want, f := wantDecode(bitsOf(s), n)
	if l, e := Decode(s, n); !slices.Equal(l, want) || e != f {
		t.Fatalf("Decode(%x, %d) = %v, %d, want %v, %d", s[:min(len(s), 40)], n, short(l), int(e), short(want), int(f))
	}
}

// listsOf tells all lists of up to so many of some numbers.
func listsOf(numbers []int, most int) [][]int {
	all := [][]int{nil}
	for from := 0; len(all[from]) < most; from++ {
		for _, n := range numbers {
			all = append(all, append(slices.Clone(all[from]), n))
		}
	}
	return all
}

// backward tells a list from its end on.
func backward(l []int) []int {
	l = slices.Clone(l)
	slices.Reverse(l)
	return l
}

// mixed tells n numbers from 0 to top without a rule, the same ones each time.
func mixed(n, top int) []int {
	seed := uint32(n + top)
	l := make([]int, n)
	for i := range l {
		seed = seed*1664525 + 1013904223
		l[i] = int(uint64(seed) * uint64(top+1) >> 32)
	}
	return l
}

// upTo tells the symbols from 0 on, n of them.
func upTo(n int) []int {
	l := make([]int, n)
	for i := range l {
		l[i] = i
	}
	return l
}

// eachByte tells the bytes from 0 on, all of them.
func eachByte() string {
	var s []byte
	for n := range 256 {
		s = append(s, byte(n))
	}
	return string(s)
}

// growing tells n symbols of which each comes as often as the two ahead together: without the limit their words would grow by a bit each.
func growing(n int) []int {
	var l []int
	a, b := 1, 1
	for symbol := range n {
		l = append(l, slices.Repeat([]int{symbol}, a)...)
		a, b = b, a+b
	}
	return l
}

// leaning tells n symbols without a rule, of which the low ones come far oftener.
func leaning(n int) []int {
	l := mixed(n, 256)
	for i, more := range mixed(n, 12) {
		l[i] >>= more
	}
	return l
}

// full tells lengths of all 257 symbols: those that are given, and noughts behind them.
func full(lens ...int) []int { return append(slices.Clone(lens), make([]int, 257-len(lens))...) }

// ladder tells one length of each, and the longest one twice.
func ladder() []int { return []int{1, 2, 3, 4, 5, 6, 7, 8, 9, 10, 11, 12, 13, 14, 15, 15} }

// fewSymbols tells all lists of up to five of four symbols, the least and the greatest one among them.
func fewSymbols() [][]int { return listsOf([]int{0, 1, 7, 256}, 5) }

// manySymbols tells lists of many symbols, of many kinds, and of kinds whose words are long.
func manySymbols() [][]int {
	all := [][]int{upTo(256), upTo(257), backward(upTo(257)), growing(15), growing(16), growing(17), growing(23), backward(growing(20)), slices.Repeat(upTo(257), 5)}
	for symbol := range 257 {
		all = append(all, []int{symbol}, []int{symbol, 256 - symbol, symbol})
	}
	for _, n := range []int{6, 7, 8, 9, 63, 64, 65, 1000, 5000} {
		all = append(all, slices.Repeat([]int{n % 257}, n), leaning(n))
		for _, top := range []int{1, 2, 5, 100, 255, 256} {
			all = append(all, mixed(n, top))
		}
	}
	return all
}

// mostSymbols tells lists of as many symbols as there may be, or nearly so.
func mostSymbols() [][]int {
	return [][]int{make([]int, 99999), make([]int, 100000), slices.Repeat([]int{256}, 100000), slices.Repeat([]int{3, 0}, 50000), mixed(100000, 256), leaning(100000), slices.Concat(make([]int, 100000-257), upTo(257))}
}

// goodSymbols tells all of these.
func goodSymbols() [][]int { return slices.Concat(fewSymbols(), manySymbols(), mostSymbols()) }

// bad is symbols that may not be, and what is told of them.
type bad struct {
	name    string
	symbols []int
	want    api.Errno
}

// badSymbols tells such ones: where both errors apply, there are too many.
func badSymbols() []bad {
	all := []bad{
		{"100001 symbols", make([]int, 100001), api.ErrBig},
		{"200000 symbols", slices.Repeat([]int{256}, 200000), api.ErrBig},
		{"100001 symbols, one below 0", append(make([]int, 100000), -1), api.ErrBig},
		{"100001 symbols, the first one above 256", append([]int{257}, make([]int, 100000)...), api.ErrBig},
		{"100001 that are no symbols", slices.Repeat([]int{-7}, 100001), api.ErrBig},
		{"100000 symbols, the last one above 256", append(make([]int, 99999), 257), api.ErrSymbol},
		{"100000 symbols, the first one below 0", append([]int{-1}, make([]int, 99999)...), api.ErrSymbol},
		{"100000 that are no symbols", slices.Repeat([]int{257}, 100000), api.ErrSymbol},
	}
	for _, n := range []int{math.MinInt, math.MinInt + 1, math.MinInt32, -65536, -257, -256, -2, -1, 257, 258, 512, 513, 65536, 1 << 31, 1 << 32, 1<<32 + 1, math.MaxInt - 1, math.MaxInt} {
		for _, l := range [][]int{{n}, {n, 0}, {0, n}, {256, n, 256}, {n, -1, 257}, append(upTo(257), n)} {
			all = append(all, bad{strconv.Itoa(n) + " among " + strconv.Itoa(len(l)), l, api.ErrSymbol})
		}
	}
	return all
}

// short tells so much of a list as can be read.
func short(l []int) []int { return l[:min(len(l), 20)] }

// P11.1
func TestCounts(t *testing.T) {
	for _, l := range goodSymbols() {
		if counts, e := Counts(l); !slices.Equal(counts, often(l)) || e != api.OK {
			t.Errorf("Counts(%v) = %v, %d, want %v", short(l), counts, int(e), often(l))
		}
	}
}

// P11.1: worked by hand.
func TestSomeCounts(t *testing.T) {
	ends := make([]int, 257)
	ends[0], ends[256] = 2, 3
	for _, x := range []struct {
		symbols []int
		want    []int
	}{
		{nil, full()},
		{[]int{}, full()},
		{[]int{0}, full(1)},
		{[]int{3, 1, 3}, full(0, 1, 0, 2)},
		{[]int{256, 0, 256, 256, 0}, ends},
		{upTo(257), slices.Repeat([]int{1}, 257)},
		{make([]int, 100000), full(100000)},
	} {
		if counts, e := Counts(x.symbols); !slices.Equal(counts, x.want) || e != api.OK {
			t.Errorf("Counts(%v) = %v, %d", short(x.symbols), counts, int(e))
		}
	}
}

// P11.1, P11.2
func TestSymbolsThatMayNotBe(t *testing.T) {
	for _, x := range badSymbols() {
		if counts, e := Counts(x.symbols); len(counts) != 0 || e != x.want {
			t.Errorf("Counts of %s = %v, %d, want %d", x.name, short(counts), int(e), int(x.want))
		}
		if s, e := Encode(x.symbols); s != "" || e != x.want {
			t.Errorf("Encode of %s = %d bytes, %d, want %d", x.name, len(s), int(e), int(x.want))
		}
		if n := Size(x.symbols); n != 0 {
			t.Errorf("Size of %s = %d", x.name, n)
		}
	}
}

// P11.2
func TestEncodeAndSize(t *testing.T) {
	for _, l := range goodSymbols() {
		row := rowOf(t, l)
		if s, e := Encode(l); s != textOf(row) || e != api.OK {
			t.Errorf("Encode(%v) = %d bytes, %d, want %d bytes, others or as many", short(l), len(s), int(e), len(textOf(row)))
		}
		if n := Size(l); n != len(row) {
			t.Errorf("Size(%v) = %d, want %d", short(l), n, len(row))
		}
	}
}

// P11.2: worked by hand.
func TestSomeRows(t *testing.T) {
	of251, of254, of255, of256, of257 := "0000000"+"11111011", "0000000"+"11111110", "0000000"+"11111111", "00000000"+"100000000", "00000000"+"100000001"
	for _, x := range []struct {
		symbols []int
		row     string
	}{
		{nil, "0000" + of257},
		{[]int{}, "0000" + of257},
		{[]int{0}, "0001" + "1" + "0000" + of256 + "0"},
		{[]int{0, 0, 0}, "0001" + "1" + "0000" + of256 + "000"},
		{[]int{256}, "0000" + of256 + "0001" + "1" + "0"},
		{[]int{5, 5, 5}, "0000" + "00101" + "0001" + "1" + "0000" + of251 + "000"},
		{[]int{0, 1}, "0001" + "010" + "0000" + of255 + "0" + "1"},
		{[]int{1, 0}, "0001" + "010" + "0000" + of255 + "1" + "0"},
		{[]int{1, 1, 0, 1}, "0001" + "010" + "0000" + of255 + "1" + "1" + "0" + "1"},
		{[]int{256, 0}, "0001" + "1" + "0000" + of255 + "0001" + "1" + "1" + "0"},
		{[]int{2, 0, 1, 0}, "0001" + "1" + "0010" + "010" + "0000" + of254 + "11" + "0" + "10" + "0"},
		{[]int{0, 2, 1, 2}, "0010" + "010" + "0001" + "1" + "0000" + of254 + "10" + "0" + "11" + "0"},
		{[]int{0, 1, 2}, "0010" + "010" + "0001" + "1" + "0000" + of254 + "10" + "11" + "0"},
		{upTo(256), "1000" + of256 + "0000" + "1" + bitsOf(eachByte())},
	} {
		if s, e := Encode(x.symbols); s != textOf(x.row) || e != api.OK {
			t.Errorf("Encode(%v) = %x, %d, want %x", short(x.symbols), s, int(e), textOf(x.row))
		}
		if n := Size(x.symbols); n != len(x.row) {
			t.Errorf("Size(%v) = %d, want %d", short(x.symbols), n, len(x.row))
		}
	}
}

// P11.2: words of the limit's length come, and none is longer.
func TestTheLimit(t *testing.T) {
	for n, longest := range map[int]int{15: 14, 16: 15, 17: 15, 20: 15, 23: 15} {
		s, e := Encode(growing(n))
		l, _, f := tab.Unpack(s, 257)
		if e != api.OK || f != api.OK || slices.Max(l) != longest || lens.Used(l) != n {
			t.Errorf("%d growing symbols have words of up to %d bits, %d, %d", n, slices.Max(append(l, 0)), int(e), int(f))
		}
	}
}

// P11.3: all ends of a row behind the lengths of some codes, by how many symbols.
func TestDecodeOfAllEnds(t *testing.T) {
	one := make([]int, 257)
	one[256] = 1
	for _, l := range [][]int{full(), full(1), one, full(0, 0, 1), full(1, 1), full(2, 1, 2), full(0, 2, 2, 2, 2), full(1, 2, 3, 3), full(ladder()...), full(backward(ladder())...), append(slices.Repeat([]int{8}, 256), 0), append([]int{9, 9}, slices.Repeat([]int{8}, 255)...)} {
		head := headOf(l)
		fill := (8 - len(head)%8) % 8
		for _, width := range []int{fill, fill + 8} {
			step := 1
			if width > 10 {
				// Of the longest ends each seventh one: all the rows that they begin with come all the same.
				step = 7
			}
			for end := 0; end < 1<<width; end += step {
				row := head + strings.Repeat("0", width)
				if width > 0 {
					row = head + digits(end, width)
				}
				for _, n := range []int{0, 1, 2, 3, end % 17} {
					decodes(t, row, n)
				}
			}
		}
	}
}

// P11.3
func TestDecodeOfShortTexts(t *testing.T) {
	for n := range 1 << 16 {
		row := digits(n, 16)
		decodes(t, row[:8], n%3)
		decodes(t, row, n%5)
		// What begins with a whole run of nearly all lengths needs but one more.
		decodes(t, run(0, 256)+row, n%5)
		decodes(t, run(0, 255)+row, n%5)
	}
}

// P11.3
func TestDecodeOfWhatIsMade(t *testing.T) {
	for _, l := range slices.Concat(fewSymbols(), manySymbols()) {
		row := rowOf(t, l)
		for _, behind := range []string{"", "0", "1", "0000000", "0000001", "00000000", "10000000", "000000000000000"} {
			decodes(t, row+behind, len(l))
		}
		for _, n := range []int{len(l) - 1, len(l) + 1, len(l) + 2, len(l) + 8, 2*len(l) + 9, 0, 1, -1, 100000, 100001, math.MinInt, math.MaxInt} {
			decodes(t, row, n)
		}
	}
}

// P11.3
func TestDecodeOfEachBeginning(t *testing.T) {
	for _, l := range [][]int{nil, {0}, {256}, {0, 1}, {2, 0, 1, 0}, upTo(257), growing(17), mixed(300, 256), leaning(300)} {
		s, _ := Encode(l)
		for n := range len(s) {
			decodes(t, bitsOf(s[:n]), len(l))
			decodes(t, bitsOf(s[:n]), n%7)
		}
	}
}

// P11.3: one bit of what is made is another one.
func TestDecodeOfTurnedBits(t *testing.T) {
	for _, l := range [][]int{nil, {0}, {256}, {0, 1}, {2, 0, 1, 0}, {7, 7, 256, 7}, growing(10), mixed(60, 256), leaning(200)} {
		s, _ := Encode(l)
		for at := range 8 * len(s) {
			turned := []byte(s)
			turned[at/8] ^= 128 >> (at % 8)
			decodes(t, bitsOf(string(turned)), len(l))
		}
	}
}

// P11.3: worked by hand; where several errors apply, the one that the chapter names first.
func TestTheErrorsOfDecode(t *testing.T) {
	two, one, none := "0001"+"010"+run(0, 255), "0001"+"1"+run(0, 256), run(0, 257)
	noughts := strings.Repeat("0", 32)
	for _, x := range []struct {
		name string
		row  string
		n    int
		want api.Errno
	}{
		{"below 0", none, -1, api.ErrArg},
		{"the least number", none, math.MinInt, api.ErrArg},
		{"above 100000", none, 100001, api.ErrArg},
		{"the greatest number", none, math.MaxInt, api.ErrArg},
		{"below 0 of nothing", "", -1, api.ErrArg},
		{"above 100000 of nothing", "", 100001, api.ErrArg},
		{"above 100000 of what has no form", run(0, 1) + run(0, 256), 100001, api.ErrArg},
		{"nothing", "", 0, api.ErrShort},
		{"nothing, of many", "", 100000, api.ErrShort},
		{"noughts", strings.Repeat("0", 800), 0, api.ErrShort},
		{"noughts ahead of a 1", strings.Repeat("0", 800) + "1", 0, api.ErrBits},
		{"too few lengths", "0001" + "010" + "0001", 0, api.ErrShort},
		{"lengths of too many", run(0, 258), 0, api.ErrBits},
		{"lengths of too many behind others", run(0, 256) + run(1, 2), 0, api.ErrBits},
		{"more than 31 noughts", "0001" + noughts + "1" + noughts, 0, api.ErrBits},
		{"a run that goes on", run(0, 1) + run(0, 256), 0, api.ErrForm},
		{"lengths that no code has", run(0, 256) + run(2, 1), 0, api.ErrLens},
		{"lengths that no code has, and no symbols", run(0, 256) + run(2, 1), 9, api.ErrLens},
		{"257 of length 8", run(8, 257), 1, api.ErrLens},
		{"three halves, and a rest", run(1, 3) + run(0, 254) + noughts, 1, api.ErrLens},
		{"no symbols", none, 0, api.OK},
		{"no symbols, of nothing that is used", none, 1, api.ErrBits},
		{"no symbols, and a 1", none + "001", 0, api.ErrRest},
		{"no symbols, and a byte", none + "000" + "00000000", 0, api.ErrRest},
		{"one alone", one + "0", 1, api.OK},
		{"one alone, all that noughts tell", one + "0", 2, api.OK},
		{"one alone, that another bit hides", one + "1", 1, api.ErrBits},
		{"one alone, and another bit", one + "01", 1, api.ErrRest},
		{"one alone, and another bit that is asked for", one + "01", 2, api.ErrBits},
		{"one alone, none of it, and another bit", one + "1", 0, api.ErrRest},
		{"one alone, too few, and a byte of others", one + strings.Repeat("0", 9) + "11111111", 20, api.ErrBits},
		{"two that end early", two + "01", 8, api.ErrShort},
		{"two that end early, with 1s", two + "01111111", 100000, api.ErrShort},
		{"two, less than there are", two + "01", 1, api.ErrRest},
		{"two, none of them", two + "1", 0, api.ErrRest},
	} {
		if l, e := Decode(textOf(x.row), x.n); e != x.want || e != api.OK && len(l) != 0 || e == api.OK && len(l) != x.n {
			t.Errorf("Decode of %s = %v, %d, want %d", x.name, short(l), int(e), int(x.want))
		}
	}
}

// P11.3: up to 7 noughts may be left, and no more, and no 1.
func TestTheRest(t *testing.T) {
	fills := make([]int, 8)
	for _, l := range [][]int{{0, 1}, {2, 0, 1, 0}, upTo(256), growing(16)} {
		for more := range 9 {
			// A word more of the one that comes far oftenest, and so of one bit: what is left begins at each place of a byte.
			symbols := append(slices.Repeat([]int{l[len(l)-1]}, 3000+more), l...)
			row := rowOf(t, symbols)
			s := textOf(row)
			fills[8*len(s)-len(row)]++
			for _, x := range []struct {
				s    string
				want api.Errno
			}{{s, api.OK}, {s + "\x00", api.ErrRest}, {s + "\x01", api.ErrRest}, {s + "\x00\x00", api.ErrRest}} {
				if got, e := Decode(x.s, len(symbols)); e != x.want || e == api.OK && !slices.Equal(got, symbols) || e != api.OK && len(got) != 0 {
					t.Errorf("Decode of %d symbols with %d bits left = %d, want %d", len(symbols), 8*len(x.s)-len(row), int(e), int(x.want))
				}
			}
			for at := len(row); at < 8*len(s); at++ {
				turned := []byte(s)
				turned[at/8] |= 128 >> (at % 8)
				if got, e := Decode(string(turned), len(symbols)); len(got) != 0 || e != api.ErrRest {
					t.Errorf("Decode with a 1 at bit %d of %d = %d", at, 8*len(s), int(e))
				}
			}
		}
	}
	if slices.Contains(fills, 0) {
		t.Errorf("so many rows had from 0 to 7 noughts behind them: %v", fills)
	}
}

// P11.3: lengths need not be the best ones.
func TestDecodeByOtherLengths(t *testing.T) {
	for _, l := range [][]int{full(2, 2, 2, 2), full(3, 3, 2, 1), full(1, 2, 2), full(ladder()...), full(backward(ladder())...), append([]int{9, 9}, slices.Repeat([]int{8}, 255)...), append(slices.Repeat([]int{8}, 255), 9, 9)} {
		most := lens.Used(l) - 1
		for _, symbols := range [][]int{nil, {0}, {most}, {1, 1, 1, 1, 1}, {0, most, 0, most}, mixed(500, most), slices.Repeat([]int{1}, 500)} {
			row := headOf(l) + wordRow(l, symbols)
			decodes(t, row, len(symbols))
			if got, e := Decode(textOf(row), len(symbols)); !slices.Equal(got, symbols) || e != api.OK {
				t.Errorf("Decode of %v by %v = %v, %d", short(symbols), short(l), short(got), int(e))
			}
		}
	}
}

// P11.3: as many as there may be.
func TestDecodeOfMany(t *testing.T) {
	one, two := headOf(full(1)), headOf(full(1, 1))
	for _, x := range []struct {
		head string
		bits int
		n    int
		want api.Errno
	}{
		{one, 100000, 100000, api.OK},
		{one, 100000, 99992, api.ErrRest},
		{one, 100000, 100001, api.ErrArg},
		{one, 99900, 100000, api.ErrShort},
		{two, 100000, 100000, api.OK},
		{two, 99900, 100000, api.ErrShort},
		{two, 100100, 100000, api.ErrRest},
	} {
		s := textOf(x.head + strings.Repeat("0", x.bits))
		l, e := Decode(s, x.n)
		if e != x.want || e == api.OK && !slices.Equal(l, make([]int, x.n)) || e != api.OK && len(l) != 0 {
			t.Errorf("Decode of %d of %d bits = %d symbols, %d, want %d", x.n, x.bits, len(l), int(e), int(x.want))
		}
	}
}

// P11.4
func TestDecodeOfEncode(t *testing.T) {
	for _, l := range goodSymbols() {
		s, e := Encode(l)
		if e != api.OK || len(s) != (Size(l)+7)/8 {
			t.Fatalf("Encode(%v) = %d bytes, %d, Size %d", short(l), len(s), int(e), Size(l))
		}
		if got, e := Decode(s, len(l)); !slices.Equal(got, l) || e != api.OK {
			t.Errorf("Decode of Encode of %v = %v, %d", short(l), short(got), int(e))
		}
	}
}

// What Decode tells of any bytes, encoded, is told of that again.
func TestEncodeOfDecode(t *testing.T) {
	took := 0
	for n := range 1 << 12 {
		row := run(0, 251) + run(3, 2) + run(2, 2) + run(3, 2) + digits(n, 12)
		for many := range 12 {
			l, e := Decode(textOf(row), many)
			if e != api.OK {
				continue
			}
			took++
			s, e := Encode(l)
			if again, f := Decode(s, many); e != api.OK || f != api.OK || !slices.Equal(again, l) {
				t.Fatalf("Decode of Encode of %v = %v, %d, %d", l, again, int(e), int(f))
			}
		}
	}
	if took == 0 {
		t.Errorf("nothing was told")
	}
}

// behind is how many bits symbols have behind those of their lengths.
func behind(t *testing.T, symbols []int) int {
	t.Helper()
	s, e := Encode(symbols)
	l, at, f := tab.Unpack(s, 257)
	if e != api.OK || f != api.OK {
		t.Fatalf("Encode(%v) = %d bytes, %d, of which the lengths are %v, %d", short(symbols), len(s), int(e), short(l), int(f))
	}
	return Size(symbols) - at
}

// P11.5: held against all lengths of few symbols.
func TestNoOtherLengthsHaveFewerBits(t *testing.T) {
	codes := slices.DeleteFunc(listsOf([]int{0, 1, 2, 3, 4}, 5), func(l []int) bool { return len(l) < 5 || lens.Check(l) != api.OK })
	for _, symbols := range append(listsOf([]int{0, 1, 2, 3, 4}, 5), growing(5), backward(growing(5)), mixed(200, 4), slices.Concat(mixed(50, 4), make([]int, 70))) {
		cost := behind(t, symbols)
		for _, l := range codes {
			words, other := wordsOf(l), 0
			lacks := slices.ContainsFunc(symbols, func(symbol int) bool { return words[symbol] == "" })
			for _, symbol := range symbols {
				other += len(words[symbol])
			}
			if !lacks && other < cost {
				t.Fatalf("%v has %d bits behind the lengths, but %d by %v", symbols, cost, other, l)
			}
		}
	}
}

// least is the least that counts cost by words of up to 15 bits: those that come oftenest have the shortest ones, so only how many words of each length there are is tried.
func least(counts []int) int {
	comes := slices.DeleteFunc(slices.Clone(counts), func(n int) bool { return n == 0 })
	slices.Sort(comes)
	slices.Reverse(comes)
	m := len(comes)
	known := map[[3]int]int{}
	// below tells what those behind the placed ones cost, if so many words of a length are free.
	var below func(placed, free, length int) int
	below = func(placed, free, length int) int {
		switch {
		case placed == m:
			return 0
		case length == 15:
			return math.MaxInt / 2
		}
		key := [3]int{placed, free, length}
		if cost, ok := known[key]; ok {
			return cost
		}
		cost, words, here := math.MaxInt/2, min(2*free, m), 0
		for more := 0; more <= min(words, m-placed); more++ {
			if more > 0 {
				here += comes[placed+more-1] * (length + 1)
			}
			cost = min(cost, here+below(placed+more, words-more, length+1))
		}
		known[key] = cost
		return cost
	}
	return below(0, 1, 0)
}

// P11.5: held against the least that words of any lengths cost.
func TestTheLeastBits(t *testing.T) {
	for _, n := range []int{0, 1, 2, 3, 4, 5, 6, 7, 8, 9, 12, 15, 16, 17, 20, 23} {
		for _, symbols := range [][]int{growing(n), upTo(n), leaning(50 * n), mixed(30*n, n)} {
			if cost, want := behind(t, symbols), least(often(symbols)); cost != want {
				t.Errorf("%d symbols, %v, have %d bits behind the lengths, want %d", len(symbols), short(symbols), cost, want)
			}
		}
	}
}

// What is handed in is not changed, its spare room neither.
func TestListsAreNotChanged(t *testing.T) {
	all := goodSymbols()
	for _, x := range badSymbols() {
		all = append(all, x.symbols)
	}
	for _, l := range all {
		room := append(slices.Clone(l), 7, 0, 9)
		before := slices.Clone(room)
		Counts(room[:len(l)])
		Encode(room[:len(l)])
		Size(room[:len(l)])
		if !slices.Equal(room, before) {
			t.Errorf("%v was changed to %v", short(before), short(room))
		}
	}
}

// What is handed out is new, and nothing is kept.
func TestCallsAreApart(t *testing.T) {
	l := []int{2, 0, 1, 0}
	first, _ := Counts(l)
	s, _ := Encode(l)
	again, _ := Decode(s, 4)
	clear(first)
	clear(again)
	if counts, e := Counts(l); !slices.Equal(counts, full(2, 1, 1)) || e != api.OK {
		t.Errorf("a second Counts = %v, %d", counts, int(e))
	}
	if got, e := Decode(s, 4); !slices.Equal(got, []int{2, 0, 1, 0}) || e != api.OK {
		t.Errorf("a second Decode = %v, %d", got, int(e))
	}
	clear(l)
	if got, e := Encode([]int{2, 0, 1, 0}); got != s || e != api.OK {
		t.Errorf("a second Encode = %x, %d, want %x", got, int(e), s)
	}
}

// The chapter's example.
func TestExample(t *testing.T) {
	if s, e := Encode(nil); s != "\x00\x08\x08" || e != api.OK || Size(nil) != 21 {
		t.Errorf("Encode = %x, %d, Size %d", s, int(e), Size(nil))
	}
	if l, e := Decode("\x00\x08\x08", 0); len(l) != 0 || e != api.OK {
		t.Errorf("Decode = %v, %d", l, int(e))
	}
}

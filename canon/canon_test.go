package canon

import (
	"cmp"
	"math"
	"slices"
	"strconv"
	"strings"
	"testing"

	"varve/api"
	"varve/bits"
	"varve/lens"
)

// The tests hold canon against rows of the digits 0 and 1: the code words are made by the chapter's words, and found in such rows by looking for one that a row begins with.

// digits is a number as a row of so many digits.
func digits(n, width int) string {
	s := strconv.FormatInt(int64(n), 2)
	return strings.Repeat("0", width-len(s)) + s
}

// inOrder tells the symbols that are used, by their lengths, those of one length by their numbers.
func inOrder(lens []int) []int {
	var l []int
	for symbol, n := range lens {
		if n > 0 {
			l = append(l, symbol)
		}
	}
	slices.SortFunc(l, func(a, b int) int {
		return cmp.Or(cmp.Compare(lens[a], lens[b]), cmp.Compare(a, b))
	})
	return l
}

// wantWords is the chapter's code words as rows; an empty one of a symbol that is not used.
func wantWords(lens []int) []string {
	words := make([]string, len(lens))
	n, width := -1, 0
	for _, symbol := range inOrder(lens) {
		if n++; width > 0 {
			n *= 1 << (lens[symbol] - width)
		}
		width = lens[symbol]
		words[symbol] = digits(n, width)
	}
	return words
}

// field is a row as a field.
func field(row string) api.Field {
	if row == "" {
		return api.Field{}
	}
	n, _ := strconv.ParseInt(row, 2, 64)
	return api.Field{N: int(n), Width: len(row)}
}

// wantWord is what Word tells by code words.
func wantWord(words []string, symbol int) (string, api.Errno) {
	if symbol < 0 || symbol >= len(words) || words[symbol] == "" {
		return "", api.ErrSymbol
	}
	return words[symbol], api.OK
}

// wantGet is what Get tells where a row is left: the symbol, how many bits it had, or the error.
func wantGet(words []string, row string) (symbol, size int, e api.Errno) {
	e = api.ErrBits
	if row == "" {
		e = api.ErrShort
	}
	for symbol, word := range words {
		switch {
		case word == "":
		case strings.HasPrefix(row, word):
			return symbol, len(word), api.OK
		case strings.HasPrefix(word, row):
			e = api.ErrShort
		}
	}
	return 0, 0, e
}

// wantUnpack is what Unpack tells of a row.
func wantUnpack(words []string, row string, n int) (l []int, at int, e api.Errno) {
	for range n {
		symbol, size, e := wantGet(words, row[at:])
		if e != api.OK {
			return l, at, e
		}
		l, at = append(l, symbol), at+size
	}
	return l, at, api.OK
}

// rowOf is the bits of a text.
func rowOf(s string) string {
	var row strings.Builder
	for i := range len(s) {
		row.WriteString(digits(int(s[i]), 8))
	}
	return row.String()
}

// textOf is the bytes of a row, with noughts behind it up to a whole byte.
func textOf(row string) string {
	row += strings.Repeat("0", (8-len(row)%8)%8)
	var s []byte
	for ; row != ""; row = row[8:] {
		b, _ := strconv.ParseUint(row[:8], 2, 8)
		s = append(s, byte(b))
	}
	return string(s)
}

// left makes a reader that has just a row left.
func left(t *testing.T, row string) *bits.Reader {
	t.Helper()
	fill := (8 - len(row)%8) % 8
	r := bits.NewReader(textOf(strings.Repeat("1", fill) + row))
	if _, e := r.Get(fill); e != api.OK || r.Left() != len(row) {
		t.Fatalf("a reader of %s has %d bits left", row, r.Left())
	}
	return r
}

// drains tells whether a reader has just a row left.
func drains(t *testing.T, r *bits.Reader, row string) {
	t.Helper()
	if r.Left() != len(row) {
		t.Fatalf("a reader has %d bits left, not %d", r.Left(), len(row))
	}
	for ; row != ""; row = row[min(len(row), 32):] {
		part := row[:min(len(row), 32)]
		want, _ := strconv.ParseInt(part, 2, 64)
		if n, e := r.Get(len(part)); n != int(want) || e != api.OK {
			t.Fatalf("a reader has %s left, not %s", digits(n, len(part)), part)
		}
	}
}

// holds tells whether a writer has just the bits of a row.
func holds(t *testing.T, w *bits.Writer, row string) {
	t.Helper()
	if w.Len() != len(row) || w.Text() != textOf(row) {
		t.Fatalf("a writer of %s: Len %d, Text %x", row, w.Len(), w.Text())
	}
}

// begun makes a writer that has the bits of a row.
func begun(t *testing.T, row string) *bits.Writer {
	t.Helper()
	w := &bits.Writer{}
	for _, d := range row {
		w.Put(int(d-'0'), 1)
	}
	holds(t, w, row)
	return w
}

// listsOf tells all lists of up to so many of some numbers.
func listsOf(numbers []int, most int) [][]int {
	all := [][]int{nil}
	for from := 0; len(all[from]) < most; from++ {
		for _, n := range numbers {
			all = append(all, append(slices.Clone(all[from]), n))
		}
	}
	return all
}

// backward tells a list from its end on.
func backward(l []int) []int {
	l = slices.Clone(l)
	slices.Reverse(l)
	return l
}

// mixed tells n numbers from 0 to top without a rule, the same ones each time.
func mixed(n, top int) []int {
	seed := uint32(n + top)
	l := make([]int, n)
	for i := range l {
		seed = seed*1664525 + 1013904223
		l[i] = int(uint64(seed) * uint64(top+1) >> 32)
	}
	return l
}

// ladder tells one length of each, and the longest one twice.
func ladder() []int { return []int{1, 2, 3, 4, 5, 6, 7, 8, 9, 10, 11, 12, 13, 14, 15, 15} }

// fewLens tells lengths that a code of few symbols has, among them all of up to six.
func fewLens() [][]int {
	l := slices.DeleteFunc(listsOf([]int{0, 1, 2, 3}, 6), func(l []int) bool { return lens.Check(l) != api.OK })
	return append(l, []int{3, 3, 3, 3, 3, 3, 3, 3}, []int{4, 1, 4, 0, 3, 4, 4, 3}, []int{4, 4, 2, 4, 4, 0, 1}, []int{5, 3, 3, 5, 3, 3, 4, 3, 3, 3}, []int{6, 5, 4, 3, 2, 1, 6}, []int{1, 2, 3, 4, 6, 6, 6, 6})
}

// manyLens tells lengths that a code of many symbols, or of long words, has.
func manyLens() [][]int {
	one := make([]int, 257)
	one[256] = 1
	all := [][]int{ladder(), backward(ladder()), one, make([]int, 257), append(slices.Repeat([]int{8}, 256), 0), append([]int{0}, slices.Repeat([]int{8}, 256)...), append(slices.Repeat([]int{8}, 255), 9, 9), append([]int{9, 9}, slices.Repeat([]int{8}, 255)...), slices.Repeat([]int{7, 0}, 128)}
	for _, n := range []int{16, 17, 100, 256, 257} {
		for _, top := range []int{1, 2, 9, 1000, 1000000} {
			counts := mixed(n, top)
			for i := range counts {
				// Few that come often, and many that seldom do: the words have many lengths then.
				counts[i] = counts[i] >> (i % 20)
			}
			for _, most := range []int{9, 12, 15} {
				best, _ := lens.Best(counts, most)
				all = append(all, best)
			}
		}
	}
	return all
}

// goodLens tells all of these.
func goodLens() [][]int { return append(fewLens(), manyLens()...) }

// bad is lengths that no code has, and what is told of them.
type bad struct {
	name string
	lens []int
	want api.Errno
}

// badLens tells such ones.
func badLens() []bad {
	return []bad{
		{"one alone of length 2", []int{2}, api.ErrLens},
		{"a half and a quarter", []int{1, 2}, api.ErrLens},
		{"three halves", []int{1, 1, 1}, api.ErrLens},
		{"a length below 0", []int{1, 1, -1}, api.ErrLens},
		{"a length above 15", []int{1, 1, 16}, api.ErrLens},
		{"the least length", []int{math.MinInt}, api.ErrLens},
		{"the greatest length", []int{math.MaxInt}, api.ErrLens},
		{"a ladder without a step", ladder()[:15], api.ErrLens},
		{"a ladder with a step more", append(ladder(), 15), api.ErrLens},
		{"257 of length 8", slices.Repeat([]int{8}, 257), api.ErrLens},
		{"258 symbols, none used", make([]int, 258), api.ErrBig},
		{"258 symbols, one below 0", append(make([]int, 257), -1), api.ErrBig},
		{"258 symbols that would fill a code", append(slices.Repeat([]int{8}, 254), 9, 9, 9, 9), api.ErrBig},
		{"100000 symbols", slices.Repeat([]int{3}, 100000), api.ErrBig},
	}
}

// strange tells numbers that are no symbols of lengths, or beside them.
func strange(lens []int) []int {
	n := len(lens)
	return []int{math.MinInt, math.MinInt + 1, math.MinInt32, -257, -256, -2, -1, n, n + 1, 257, 258, 300, 65536, 1 << 31, 1 << 32, 1<<32 + 1, math.MaxInt - 1, math.MaxInt}
}

// beginnings tells rows that end at each place of a byte.
func beginnings() []string {
	return []string{"", "1", "01", "101", "0000", "11111", "011010", "1111111", "00000000", "110011001"}
}

// made makes a code.
func made(t *testing.T, lens []int) *Code {
	t.Helper()
	c, e := New(lens)
	if c == nil || e != api.OK {
		t.Fatalf("New(%v) = %v, %d", short(lens), c, int(e))
	}
	return c
}

// short tells so much of a list as can be read.
func short(l []int) []int { return l[:min(len(l), 20)] }

// P9.1
func TestWords(t *testing.T) {
	for _, l := range goodLens() {
		var want []api.Field
		for _, word := range wantWords(l) {
			want = append(want, field(word))
		}
		if got, e := Words(l); !slices.Equal(got, want) || e != api.OK {
			t.Errorf("Words(%v) = %v, %d, want %v", short(l), got, int(e), want)
		}
	}
}

// P9.1: worked by hand.
func TestSomeWords(t *testing.T) {
	for _, x := range []struct {
		lens []int
		want []string
	}{
		{nil, nil},
		{[]int{0, 0}, []string{"", ""}},
		{[]int{1}, []string{"0"}},
		{[]int{0, 0, 1, 0}, []string{"", "", "0", ""}},
		{[]int{1, 1}, []string{"0", "1"}},
		{[]int{2, 1, 2}, []string{"10", "0", "11"}},
		{[]int{2, 2, 1}, []string{"10", "11", "0"}},
		{[]int{1, 0, 2, 2}, []string{"0", "", "10", "11"}},
		{[]int{3, 3, 3, 3, 1}, []string{"100", "101", "110", "111", "0"}},
		{[]int{2, 4, 4, 2, 4, 4, 2}, []string{"00", "1100", "1101", "01", "1110", "1111", "10"}},
		{[]int{3, 3, 2, 1}, []string{"110", "111", "10", "0"}},
	} {
		var want []api.Field
		for _, word := range x.want {
			want = append(want, field(word))
		}
		if got, e := Words(x.lens); !slices.Equal(got, want) || e != api.OK {
			t.Errorf("Words(%v) = %v, %d, want %v", x.lens, got, int(e), want)
		}
	}
}

// P9.1
func TestLengthsThatNoCodeHas(t *testing.T) {
	for _, x := range badLens() {
		if e := lens.Check(x.lens); e != x.want {
			t.Errorf("Check of %s = %d", x.name, int(e))
		}
		if c, e := New(x.lens); c != nil || e != x.want {
			t.Errorf("New of %s = %v, %d, want %d", x.name, c, int(e), int(x.want))
		}
		if l, e := Words(x.lens); len(l) != 0 || e != x.want {
			t.Errorf("Words of %s = %v, %d, want %d", x.name, l, int(e), int(x.want))
		}
	}
}

// P9.1
func TestNewTakesWhatCheckTakes(t *testing.T) {
	for _, l := range listsOf([]int{-1, 0, 1, 2, 3, 15, 16}, 4) {
		want := lens.Check(l)
		c, e := New(l)
		if e != want || (c == nil) != (want != api.OK) {
			t.Errorf("New(%v) = %v, %d, want %d", l, c, int(e), int(want))
		}
		if words, e := Words(l); e != want || want != api.OK && len(words) != 0 {
			t.Errorf("Words(%v) = %v, %d, want %d", l, words, int(e), int(want))
		}
	}
}

// P9.2
func TestWord(t *testing.T) {
	for _, l := range goodLens() {
		c, words := made(t, l), wantWords(l)
		symbols := strange(l)
		for symbol := range l {
			symbols = append(symbols, symbol)
		}
		for _, symbol := range symbols {
			word, want := wantWord(words, symbol)
			if got, e := c.Word(symbol); got != field(word) || e != want {
				t.Errorf("Word(%d) of %v = %v, %d, want %s, %d", symbol, short(l), got, int(e), word, int(want))
			}
		}
	}
}

// P9.2
func TestPut(t *testing.T) {
	for _, l := range fewLens() {
		c, words := made(t, l), wantWords(l)
		symbols := strange(l)
		for symbol := range l {
			symbols = append(symbols, symbol)
		}
		for _, ahead := range beginnings() {
			for _, symbol := range symbols {
				w := begun(t, ahead)
				word, want := wantWord(words, symbol)
				if e := c.Put(w, symbol); e != want {
					t.Errorf("Put(%d) of %v = %d, want %d", symbol, l, int(e), int(want))
				}
				holds(t, w, ahead+word)
			}
		}
	}
}

// P9.2
func TestPutOneBehindTheOther(t *testing.T) {
	for _, l := range goodLens() {
		c, words := made(t, l), wantWords(l)
		w, row := &bits.Writer{}, ""
		for symbol := -1; symbol <= len(l); symbol++ {
			word, want := wantWord(words, symbol)
			if e := c.Put(w, symbol); e != want {
				t.Errorf("Put(%d) of %v = %d, want %d", symbol, short(l), int(e), int(want))
			}
			// What is no symbol leaves the writer as it is, and the next one joins on.
			row += word
		}
		holds(t, w, row)
	}
}

// P9.2
func TestPutIntoNoWriter(t *testing.T) {
	c := made(t, []int{2, 1, 0, 2})
	for _, x := range []struct {
		symbol int
		want   api.Errno
	}{{0, api.ErrNil}, {1, api.ErrNil}, {3, api.ErrNil}, {2, api.ErrSymbol}, {-1, api.ErrSymbol}, {4, api.ErrSymbol}, {math.MinInt, api.ErrSymbol}, {math.MaxInt, api.ErrSymbol}} {
		if e := c.Put(nil, x.symbol); e != x.want {
			t.Errorf("Put(nil, %d) = %d, want %d", x.symbol, int(e), int(x.want))
		}
	}
}

// P9.2, P9.3
func TestNoCode(t *testing.T) {
	var none *Code
	for _, c := range []*Code{none, {}} {
		for _, symbol := range append(strange(nil), 1, 256) {
			if word, e := c.Word(symbol); word != (api.Field{}) || e != api.ErrNil {
				t.Errorf("Word(%d) of no code = %v, %d", symbol, word, int(e))
			}
			w := begun(t, "101")
			if e := c.Put(w, symbol); e != api.ErrNil {
				t.Errorf("Put(%d) of no code = %d", symbol, int(e))
			}
			holds(t, w, "101")
			if e := c.Put(nil, symbol); e != api.ErrNil {
				t.Errorf("Put(nil, %d) of no code = %d", symbol, int(e))
			}
		}
		for _, row := range []string{"", "0", "1", "0110", "110011001"} {
			r := left(t, row)
			if symbol, e := c.Get(r); symbol != 0 || e != api.ErrNil {
				t.Errorf("Get of no code = %d, %d", symbol, int(e))
			}
			drains(t, r, row)
		}
		if symbol, e := c.Get(nil); symbol != 0 || e != api.ErrNil {
			t.Errorf("Get(nil) of no code = %d, %d", symbol, int(e))
		}
	}
}

// P9.1 to P9.3: a code without words is one, unlike no code.
func TestACodeWithoutWords(t *testing.T) {
	for _, l := range [][]int{nil, {}, {0}, {0, 0, 0}, make([]int, 257)} {
		c := made(t, l)
		if word, e := c.Word(0); word != (api.Field{}) || e != api.ErrSymbol {
			t.Errorf("Word(0) of %v = %v, %d", short(l), word, int(e))
		}
		if e := c.Put(nil, 0); e != api.ErrSymbol {
			t.Errorf("Put(nil, 0) of %v = %d", short(l), int(e))
		}
		for _, row := range []string{"0", "1", "00", "11", "0000000000000000000", "1111111111111111111"} {
			r := left(t, row)
			if symbol, e := c.Get(r); symbol != 0 || e != api.ErrBits {
				t.Errorf("Get of %s by %v = %d, %d", row, short(l), symbol, int(e))
			}
			drains(t, r, row)
		}
		if symbol, e := c.Get(left(t, "")); symbol != 0 || e != api.ErrShort {
			t.Errorf("Get of nothing by %v = %d, %d", short(l), symbol, int(e))
		}
	}
}

// gets asks a reader that has just a row left for a symbol, and then for all that is left.
func gets(t *testing.T, c *Code, words []string, row string) {
	t.Helper()
	r := left(t, row)
	want, size, f := wantGet(words, row)
	if symbol, e := c.Get(r); symbol != want || e != f {
		t.Fatalf("Get of %s by %v = %d, %d, want %d, %d", row, words[:min(len(words), 20)], symbol, int(e), want, int(f))
	}
	if f != api.OK {
		// What had an error has it again.
		if symbol, e := c.Get(r); symbol != want || e != f {
			t.Fatalf("Get again of %s by %v = %d, %d, want %d, %d", row, words[:min(len(words), 20)], symbol, int(e), want, int(f))
		}
	}
	drains(t, r, row[size:])
}

// rows tells all rows of up to so many digits.
func rows(most int) []string {
	all := []string{""}
	for from := 0; len(all[from]) < most; from++ {
		all = append(all, all[from]+"0", all[from]+"1")
	}
	return all
}

// P9.3
func TestGet(t *testing.T) {
	some := rows(8)
	for _, l := range fewLens() {
		c, words := made(t, l), wantWords(l)
		for _, row := range some {
			gets(t, c, words, row)
		}
	}
}

// P9.3
func TestGetOfEachWord(t *testing.T) {
	for _, l := range goodLens() {
		c, words := made(t, l), wantWords(l)
		for symbol, word := range words {
			if word == "" {
				continue
			}
			for _, behind := range []string{"", "0", "1", "110100101"} {
				r := left(t, word+behind)
				if got, e := c.Get(r); got != symbol || e != api.OK {
					t.Fatalf("Get of %s by %v = %d, %d, want %d", word+behind, short(l), got, int(e), symbol)
				}
				drains(t, r, behind)
			}
			for n := range len(word) {
				// Whatever begins a word is no word, and too short for one.
				r := left(t, word[:n])
				if got, e := c.Get(r); got != 0 || e != api.ErrShort {
					t.Fatalf("Get of %s by %v = %d, %d", word[:n], short(l), got, int(e))
				}
				drains(t, r, word[:n])
			}
		}
	}
}

// P9.3
func TestGetAtEachPlace(t *testing.T) {
	for _, l := range [][]int{nil, {0, 1}, {1, 1}, {2, 1, 2}, {3, 0, 1, 3, 2}, {2, 4, 4, 2, 4, 4, 2}, ladder(), backward(ladder())} {
		c, words := made(t, l), wantWords(l)
		for _, s := range []string{"\x00\x00\x00", "\xff\xff\xff", "\xff\xfe\xff", "\xff\xfc", "\x5b\x80", "\x01\x80\xaa", "\xde\xad\xbe\xef"} {
			row := rowOf(s)
			for at := range len(row) + 1 {
				r := bits.NewReader(s)
				r.Get(at)
				want, size, f := wantGet(words, row[at:])
				if symbol, e := c.Get(r); symbol != want || e != f {
					t.Fatalf("Get at bit %d of %x by %v = %d, %d, want %d, %d", at, s, l, symbol, int(e), want, int(f))
				}
				drains(t, r, row[at+size:])
			}
		}
	}
}

// P9.3
func TestTheErrorsOfGet(t *testing.T) {
	noughts, ones := strings.Repeat("0", 40), strings.Repeat("1", 40)
	for _, x := range []struct {
		lens []int
		row  string
		n    int
		left int
		want api.Errno
	}{
		{[]int{1}, "", 0, 0, api.ErrShort},
		{[]int{1}, "0", 0, 0, api.OK},
		{[]int{1}, "1", 0, 1, api.ErrBits},
		{[]int{1}, "10", 0, 2, api.ErrBits},
		{[]int{1}, "01", 0, 1, api.OK},
		{[]int{0, 0, 1}, noughts, 2, 39, api.OK},
		{[]int{0, 0, 1}, ones, 0, 40, api.ErrBits},
		{[]int{0}, "0", 0, 1, api.ErrBits},
		{[]int{0}, "", 0, 0, api.ErrShort},
		{[]int{1, 1}, "", 0, 0, api.ErrShort},
		{[]int{1, 1}, "1", 1, 0, api.OK},
		{[]int{2, 1, 2}, "1", 0, 1, api.ErrShort},
		{[]int{2, 1, 2}, "10", 0, 0, api.OK},
		{[]int{2, 1, 2}, "11", 2, 0, api.OK},
		{ladder(), ones[:14], 0, 14, api.ErrShort},
		{ladder(), ones[:13], 0, 13, api.ErrShort},
		{ladder(), ones[:15], 15, 0, api.OK},
		{ladder(), ones[:14] + "0", 14, 0, api.OK},
		{ladder(), ones[:16], 15, 1, api.OK},
		{ladder(), ones, 15, 25, api.OK},
		{ladder(), ones[:13] + "0", 13, 0, api.OK},
	} {
		r := left(t, x.row)
		if symbol, e := made(t, x.lens).Get(r); symbol != x.n || e != x.want {
			t.Errorf("Get of %s by %v = %d, %d, want %d, %d", x.row, x.lens, symbol, int(e), x.n, int(x.want))
		}
		drains(t, r, x.row[len(x.row)-x.left:])
	}
}

// P9.3
func TestGetFromNoReader(t *testing.T) {
	for _, l := range fewLens() {
		c := made(t, l)
		for _, r := range []*bits.Reader{nil, {}, bits.NewReader("")} {
			for range 2 {
				if symbol, e := c.Get(r); symbol != 0 || e != api.ErrShort {
					t.Errorf("Get from a reader of no bits by %v = %d, %d", l, symbol, int(e))
				}
			}
		}
	}
}

// P9.3
func TestReadersAreApart(t *testing.T) {
	c := made(t, []int{2, 1, 2})
	a, b := bits.NewReader("\x98"), bits.NewReader("\x98")
	for i, want := range []int{0, 1, 2, 1, 1, 1} {
		if n, e := c.Get(a); n != want || e != api.OK {
			t.Fatalf("symbol %d = %d, %d, want %d", i, n, int(e), want)
		}
		if b.Left() != 8 {
			t.Fatalf("another reader moved: %d bits are left", b.Left())
		}
	}
	drains(t, a, "")
	drains(t, b, "10011000")
}

// symbolsOf tells lists of symbols that lengths have, and of others among them.
func symbolsOf(lens []int) [][]int {
	used := inOrder(lens)
	slices.Sort(used)
	all := [][]int{nil, {}, used, backward(used), slices.Concat(used, used, backward(used))}
	for _, n := range []int{-1, len(lens), math.MinInt, math.MaxInt, slices.Index(lens, 0)} {
		all = append(all, []int{n}, append([]int{n}, used...), append(slices.Clone(used), n), slices.Insert(slices.Clone(used), len(used)/2, n))
	}
	return all
}

// P9.4
func TestPack(t *testing.T) {
	for _, l := range goodLens() {
		words := wantWords(l)
		for _, symbols := range symbolsOf(l) {
			row, want := "", api.OK
			for _, symbol := range symbols {
				word, e := wantWord(words, symbol)
				if e != api.OK {
					row, want = "", e
					break
				}
				row += word
			}
			if s, e := Pack(l, symbols); s != textOf(row) || e != want {
				t.Errorf("Pack(%v, %v) = %x, %d, want %x, %d", short(l), short(symbols), s, int(e), textOf(row), int(want))
			}
		}
	}
}

// P9.4
func TestUnpack(t *testing.T) {
	texts := []string{"", "\x00", "\xff", "\x40", "\x98", "\x5b\x80", "\xff\xfe", "\x00\x00\x00\x01", "\xde\xad\xbe\xef\xca\xfe\xba\xbe", strings.Repeat("\xff", 9), strings.Repeat("\x00", 9)}
	for _, l := range goodLens() {
		words := wantWords(l)
		for _, s := range texts {
			for _, n := range []int{0, 1, 2, 5, 8, 9, 72, 73, 100000} {
				want, wantAt, wantErr := wantUnpack(words, rowOf(s), n)
				if got, at, e := Unpack(l, s, n); !slices.Equal(got, want) || at != wantAt || e != wantErr {
					t.Errorf("Unpack(%v, %x, %d) = %v, %d, %d, want %v, %d, %d", short(l), s, n, short(got), at, int(e), short(want), wantAt, int(wantErr))
				}
			}
		}
	}
}

// P9.4
func TestWhatUnpackTells(t *testing.T) {
	for _, x := range []struct {
		lens []int
		s    string
		n    int
		want []int
		at   int
		e    api.Errno
	}{
		{nil, "", 0, nil, 0, api.OK},
		{nil, "\xff", 0, nil, 0, api.OK},
		{nil, "", 1, nil, 0, api.ErrShort},
		{nil, "\xff", 1, nil, 0, api.ErrBits},
		{[]int{1}, "\x40", 9, []int{0}, 1, api.ErrBits},
		{[]int{1}, "\x10", 3, []int{0, 0, 0}, 3, api.OK},
		{[]int{1}, "\x00", 9, []int{0, 0, 0, 0, 0, 0, 0, 0}, 8, api.ErrShort},
		{[]int{2, 1, 2}, "\x98", 3, []int{0, 1, 2}, 5, api.OK},
		{[]int{2, 1, 2}, "\x98", 9, []int{0, 1, 2, 1, 1, 1}, 8, api.ErrShort},
		{[]int{2, 1, 2}, "\x99", 9, []int{0, 1, 2, 1, 1}, 7, api.ErrShort},
		{[]int{3, 0, 1, 3, 2}, "\x5b\x80", 4, []int{2, 4, 0, 3}, 9, api.OK},
		{ladder(), "\xff\xff", 2, []int{15}, 15, api.ErrShort},
		{ladder(), "\xff\xfe", 2, []int{15, 0}, 16, api.OK},
	} {
		if l, at, e := Unpack(x.lens, x.s, x.n); !slices.Equal(l, x.want) || at != x.at || e != x.e {
			t.Errorf("Unpack(%v, %x, %d) = %v, %d, %d, want %v, %d, %d", x.lens, x.s, x.n, l, at, int(e), x.want, x.at, int(x.e))
		}
	}
}

// P9.4
func TestHowManyAreUnpacked(t *testing.T) {
	two, long := []int{1, 1}, strings.Repeat("\x55", 12501)
	for _, x := range []struct {
		s       string
		n       int
		got, at int
		want    api.Errno
	}{
		{long, 99999, 99999, 99999, api.OK},
		{long, 100000, 100000, 100000, api.OK},
		{long, 100001, 0, 0, api.ErrArg},
		{long[:12500], 100000, 100000, 100000, api.OK},
		{long[:12499], 100000, 99992, 99992, api.ErrShort},
		{long, 0, 0, 0, api.OK},
		{long, -1, 0, 0, api.ErrArg},
		{"", 100000, 0, 0, api.ErrShort},
		{"", 100001, 0, 0, api.ErrArg},
		{"", -1, 0, 0, api.ErrArg},
		{long, math.MinInt, 0, 0, api.ErrArg},
		{long, math.MaxInt, 0, 0, api.ErrArg},
		{long, 1 << 32, 0, 0, api.ErrArg},
	} {
		l, at, e := Unpack(two, x.s, x.n)
		if len(l) != x.got || at != x.at || e != x.want {
			t.Errorf("Unpack of %d of %d bytes = %d symbols, %d, %d, want %d, %d, %d", x.n, len(x.s), len(l), at, int(e), x.got, x.at, int(x.want))
		}
		for i, symbol := range l {
			if symbol != i%2 {
				t.Fatalf("symbol %d is %d", i, symbol)
			}
		}
	}
}

// P9.4: what is wrong with the lengths is told ahead of all else.
func TestPackAndUnpackOfNoCode(t *testing.T) {
	for _, x := range badLens() {
		for _, symbols := range [][]int{nil, {0}, {-1}, {math.MaxInt}} {
			if s, e := Pack(x.lens, symbols); s != "" || e != x.want {
				t.Errorf("Pack of %s, %v = %x, %d, want %d", x.name, symbols, s, int(e), int(x.want))
			}
		}
		for _, n := range []int{math.MinInt, -1, 0, 1, 100000, 100001, math.MaxInt} {
			for _, s := range []string{"", "\x00", "\xff\xff"} {
				if l, at, e := Unpack(x.lens, s, n); len(l) != 0 || at != 0 || e != x.want {
					t.Errorf("Unpack of %s, %x, %d = %v, %d, %d, want %d", x.name, s, n, l, at, int(e), int(x.want))
				}
			}
		}
	}
}

// P9.5
func TestNoWordBeginsAnother(t *testing.T) {
	for _, l := range goodLens() {
		words, _ := Words(l)
		for a, x := range words {
			for b, y := range words {
				if a == b || x.Width == 0 || y.Width < x.Width {
					continue
				}
				if y.N>>(y.Width-x.Width) == x.N {
					t.Fatalf("Words(%v): that of %d, %v, begins that of %d, %v", short(l), a, x, b, y)
				}
			}
		}
	}
}

// P9.5
func TestWordsRiseWithTheirLengths(t *testing.T) {
	for _, l := range goodLens() {
		words, _ := Words(l)
		for a, x := range words {
			if x.Width != l[a] || x.N < 0 || x.N >= 1<<x.Width {
				t.Fatalf("Words(%v): %d has %v", short(l), a, x)
			}
			for b, y := range words {
				rises := x.Width < y.Width || x.Width == y.Width && a < b
				if x.Width > 0 && rises && x.N >= y.N {
					t.Fatalf("Words(%v): that of %d, %v, is not below that of %d, %v", short(l), a, x, b, y)
				}
			}
		}
	}
}

// P9.6
func TestUnpackOfPack(t *testing.T) {
	for _, l := range goodLens() {
		used := inOrder(l)
		lists := [][]int{nil}
		for _, n := range []int{1, 2, 3, 50, 1000} {
			if len(used) == 0 {
				break
			}
			list := mixed(n, len(used)-1)
			for i, k := range list {
				list[i] = used[k]
			}
			lists = append(lists, list)
		}
		for _, list := range lists {
			size := 0
			for _, symbol := range list {
				size += l[symbol]
			}
			s, e := Pack(l, list)
			if e != api.OK || len(s) != (size+7)/8 {
				t.Fatalf("Pack(%v, %v) = %d bytes, %d", short(l), short(list), len(s), int(e))
			}
			if got, at, e := Unpack(l, s, len(list)); !slices.Equal(got, list) || at != size || e != api.OK {
				t.Fatalf("Unpack of Pack of %v by %v = %v, %d, %d", short(list), short(l), short(got), at, int(e))
			}
		}
	}
}

// P9.6
func TestAnyBitsAreWords(t *testing.T) {
	var texts []string
	for n := 0; n < 1<<8; n += 3 {
		texts = append(texts, string([]byte{byte(n)}), string([]byte{byte(n), byte(n * n), byte(n * 7)}), strings.Repeat(string([]byte{byte(n), 255}), 4))
	}
	for _, l := range goodLens() {
		if lens.Used(l) < 2 {
			continue
		}
		longest := slices.Max(l)
		for _, s := range texts {
			symbols, at, e := Unpack(l, s, 100000)
			if e != api.ErrShort || 8*len(s)-at >= longest {
				t.Fatalf("Unpack(%v, %x) tells %d at bit %d", short(l), s, int(e), at)
			}
			back, e := Pack(l, symbols)
			if want := textOf(rowOf(s)[:at]); back != want || e != api.OK {
				t.Fatalf("Pack of Unpack of %x by %v = %x, %d, want %x", s, short(l), back, int(e), want)
			}
		}
	}
}

// P9.1 to P9.4
func TestListsAreNotChanged(t *testing.T) {
	for _, l := range append(goodLens(), make([]int, 258), []int{1, 2}, []int{-1}) {
		room := append(slices.Clone(l), 7, 0, 9)
		before := slices.Clone(room)
		New(room[:len(l)])
		Words(room[:len(l)])
		Pack(room[:len(l)], room[:len(l)])
		Unpack(room[:len(l)], "\xde\xad\xbe\xef", 7)
		Pack([]int{3, 0, 1, 3, 2}, room[:len(l)])
		if !slices.Equal(room, before) {
			t.Errorf("%v was changed to %v", short(before), short(room))
		}
	}
}

// P9.1 to P9.3: what is handed in is not kept.
func TestACodeStays(t *testing.T) {
	l := []int{2, 1, 2}
	c := made(t, l)
	clear(l)
	if word, e := c.Word(2); word != (api.Field{N: 3, Width: 2}) || e != api.OK {
		t.Errorf("Word(2) became %v, %d", word, int(e))
	}
	if symbol, e := c.Get(bits.NewReader("\xff")); symbol != 2 || e != api.OK {
		t.Errorf("Get became %d, %d", symbol, int(e))
	}
	w := &bits.Writer{}
	if e := c.Put(w, 0); e != api.OK {
		t.Errorf("Put(0) became %d", int(e))
	}
	holds(t, w, "10")
}

// P9.1, P9.4: what is handed out is new.
func TestCallsAreApart(t *testing.T) {
	l := []int{2, 1, 2}
	words, _ := Words(l)
	symbols, _, _ := Unpack(l, "\x98", 3)
	clear(words)
	clear(symbols)
	if got, e := Words(l); !slices.Equal(got, []api.Field{{N: 2, Width: 2}, {N: 0, Width: 1}, {N: 3, Width: 2}}) || e != api.OK {
		t.Errorf("Words again: %v, %d", got, int(e))
	}
	if got, at, e := Unpack(l, "\x98", 3); !slices.Equal(got, []int{0, 1, 2}) || at != 5 || e != api.OK {
		t.Errorf("Unpack again: %v, %d, %d", got, at, int(e))
	}
	if !slices.Equal(l, []int{2, 1, 2}) {
		t.Errorf("the lengths became %v", l)
	}
	a, b := made(t, l), made(t, []int{1, 1})
	if x, _ := a.Word(0); x != (api.Field{N: 2, Width: 2}) {
		t.Errorf("a word of one code is %v behind another one", x)
	}
	if x, _ := b.Word(1); x != (api.Field{N: 1, Width: 1}) {
		t.Errorf("a word of another code is %v", x)
	}
}

// The chapter's example.
func TestExample(t *testing.T) {
	want := []api.Field{{N: 2, Width: 2}, {N: 0, Width: 1}, {N: 3, Width: 2}}
	if got, e := Words([]int{2, 1, 2}); !slices.Equal(got, want) || e != api.OK {
		t.Errorf("Words(2, 1, 2) = %v, %d", got, int(e))
	}
}

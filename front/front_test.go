package front

import (
	"math"
	"slices"
	"strings"
	"testing"

	"varve/api"
)

// The tests hold front against the chapter's words, done with a row that is a list.

// wantSteps is the ranks of bytes, and the row behind them, word by word.
func wantSteps(s string) ([]int, string) {
	row := make([]byte, 256)
	for i := range row {
		row[i] = byte(i)
	}
	var ranks []int
	for _, b := range []byte(s) {
		rank := slices.Index(row, b)
		ranks = append(ranks, rank)
		row = slices.Insert(slices.Delete(row, rank, rank+1), 0, b)
	}
	return ranks, string(row)
}

// wantText is the bytes of ranks, word by word.
func wantText(ranks []int) string {
	row := make([]byte, 256)
	for i := range row {
		row[i] = byte(i)
	}
	s := ""
	for _, rank := range ranks {
		b := row[rank]
		s += string([]byte{b})
		row = slices.Insert(slices.Delete(row, rank, rank+1), 0, b)
	}
	return s
}

// chance makes numbers below 256 without a rule, the same ones each time.
func chance(from uint32) func() int {
	return func() int {
		from ^= from << 13
		from ^= from >> 17
		from ^= from << 5
		return int(from >> 24)
	}
}

// every tells all bytes, in order.
func every() string {
	b := make([]byte, 256)
	for i := range b {
		b[i] = byte(i)
	}
	return string(b)
}

// reversed tells a text's bytes, the last one first.
func reversed(s string) string {
	b := []byte(s)
	slices.Reverse(b)
	return string(b)
}

// texts tells all texts of up to three bytes of some at the edges, and longer ones.
func texts() []string {
	all := []string{""}
	for from := 0; len(all[from]) < 3; from++ {
		for _, b := range []string{"\x00", "\x01", "a", "\x80", "\xfe", "\xff"} {
			all = append(all, all[from]+b)
		}
	}
	next := chance(7)
	var mixed, few []byte
	for range 3000 {
		mixed, few = append(mixed, byte(next())), append(few, "log\x00"[next()%4])
	}
	return append(all, "banana", "\xc3\xa9\xed\xa0\x80", every(), reversed(every()), every()+every(), every()+reversed(every()),
		strings.Repeat("\x00", 300), strings.Repeat("\xff", 300), strings.Repeat("log", 300), string(mixed), string(few))
}

// lists tells all lists of up to three ranks of some at the edges, and longer ones.
func lists() [][]int {
	all := [][]int{nil}
	for from := 0; len(all[from]) < 3; from++ {
		for _, rank := range []int{0, 1, 2, 127, 128, 254, 255} {
			all = append(all, append(slices.Clone(all[from]), rank))
		}
	}
	next := chance(9)
	var mixed, up, down []int
	for i := range 3000 {
		mixed, up, down = append(mixed, next()), append(up, i%256), append(down, 255-i%256)
	}
	return append(all, []int{}, mixed, up, down, slices.Repeat([]int{0}, 300), slices.Repeat([]int{1}, 300), slices.Repeat([]int{255}, 600))
}

// wrong tells numbers that are no ranks.
func wrong() []int {
	return []int{math.MinInt, math.MinInt + 1, math.MinInt32, -256, -255, -2, -1, 256, 257, 511, 512, 1 << 16, 1 << 32, 1<<32 + 1, math.MaxInt - 1, math.MaxInt}
}

// P6.1
func TestRanks(t *testing.T) {
	for _, s := range texts() {
		want, _ := wantSteps(s)
		if got := Ranks(s); !slices.Equal(got, want) {
			t.Errorf("Ranks(%q) = %v, want %v", s, got, want)
		}
	}
}

// P6.1
func TestRow(t *testing.T) {
	for _, s := range texts() {
		_, want := wantSteps(s)
		if got := Row(s); got != want {
			t.Errorf("Row(%q) = %q, want %q", s, got, want)
		}
	}
}

// P6.1
func TestTheRowBeginsWithAllBytesInOrder(t *testing.T) {
	if got := Row(""); got != every() {
		t.Errorf("Row of nothing = %q", got)
	}
	for b := range 256 {
		if got := Ranks(string([]byte{byte(b)})); !slices.Equal(got, []int{b}) {
			t.Errorf("the rank of %02x alone is %v", b, got)
		}
	}
}

// P6.1
func TestSomeRanksAndRows(t *testing.T) {
	for _, x := range []struct {
		s     string
		ranks []int
		row   string
	}{
		{"\x00", []int{0}, "\x00\x01\x02\x03"},
		{"\x01", []int{1}, "\x01\x00\x02\x03"},
		{"\x02\x00", []int{2, 1}, "\x00\x02\x01\x03"},
		{"\x03\x01\x03", []int{3, 2, 1}, "\x03\x01\x00\x02"},
		{"\xff\xff\x00", []int{255, 0, 1}, "\x00\xff\x01\x02"},
		{"\xff\xfe", []int{255, 255}, "\xfe\xff\x00\x01"},
		{"banana", []int{98, 98, 110, 1, 1, 1}, "anb\x00"},
		{"abba", []int{97, 98, 0, 1}, "ab\x00\x01"},
	} {
		if got := Ranks(x.s); !slices.Equal(got, x.ranks) {
			t.Errorf("Ranks(%q) = %v, want %v", x.s, got, x.ranks)
		}
		if got := Row(x.s); got[:4] != x.row {
			t.Errorf("Row(%q) begins with %q, want %q", x.s, got[:4], x.row)
		}
	}
}

// P6.2
func TestText(t *testing.T) {
	for _, ranks := range lists() {
		if got, e := Text(ranks); got != wantText(ranks) || e != api.OK {
			t.Errorf("Text(%v) = %q, %d, want %q", ranks, got, int(e), wantText(ranks))
		}
	}
}

// P6.2
func TestNoRank(t *testing.T) {
	for _, ranks := range lists() {
		if len(ranks) > 300 {
			ranks = ranks[:300]
		}
		for _, n := range wrong() {
			for _, at := range []int{0, len(ranks) / 2, len(ranks)} {
				bad := slices.Insert(slices.Clone(ranks), at, n)
				if got, e := Text(bad); got != "" || e != api.ErrRank {
					t.Fatalf("Text(%v) = %q, %d", bad, got, int(e))
				}
			}
		}
	}
}

// P6.2
func TestRanksAreNotChanged(t *testing.T) {
	for _, ranks := range append(lists(), wrong(), []int{0, 255, 256, 1}) {
		room := append(slices.Clone(ranks), 7, 8, 9)
		before := slices.Clone(room)
		Text(room[:len(ranks)])
		if !slices.Equal(room, before) {
			t.Errorf("Text changed %v to %v", before, room)
		}
	}
}

// P6.1, P6.2
func TestCallsAreApart(t *testing.T) {
	first := Ranks("banana")
	row := Row("banana")
	text, _ := Text([]int{98, 98, 110})
	for i := range first {
		first[i] = 300
	}
	if _, e := Text([]int{255, 255, 256}); e != api.ErrRank {
		t.Error("256 is a rank")
	}
	if got := Ranks("banana"); !slices.Equal(got, []int{98, 98, 110, 1, 1, 1}) {
		t.Errorf("Ranks again: %v", got)
	}
	if got := Row("banana"); got != row {
		t.Errorf("Row again: %q", got)
	}
	if got, e := Text([]int{98, 98, 110}); got != text || e != api.OK {
		t.Errorf("Text again: %q, %d", got, int(e))
	}
}

// P6.3
func TestTextOfRanks(t *testing.T) {
	for _, s := range texts() {
		if got, e := Text(Ranks(s)); got != s || e != api.OK {
			t.Errorf("Text of the ranks of %q is %q, %d", s, got, int(e))
		}
	}
}

// P6.3
func TestRanksOfText(t *testing.T) {
	for _, ranks := range lists() {
		s, _ := Text(ranks)
		if got := Ranks(s); !slices.Equal(got, ranks) {
			t.Errorf("the ranks of the text of %v are %v", ranks, got)
		}
	}
}

// P6.4
func TestRankNought(t *testing.T) {
	for _, s := range texts() {
		ahead := byte(0)
		for i, rank := range Ranks(s) {
			if (rank == 0) != (s[i] == ahead) {
				t.Errorf("%q: the rank at %d is %d behind %02x", s, i, rank, ahead)
			}
			ahead = s[i]
		}
	}
}

// P6.4
func TestRankCountsUnlikeBytesBetween(t *testing.T) {
	for _, s := range texts() {
		for i, rank := range Ranks(s) {
			last := strings.LastIndexByte(s[:i], s[i])
			if last < 0 {
				continue
			}
			var between [256]bool
			unlike := 0
			for _, b := range []byte(s[last+1 : i]) {
				if !between[b] {
					between[b] = true
					unlike++
				}
			}
			if rank != unlike {
				t.Errorf("%q: the rank at %d is %d, but %d unlike bytes stood between", s, i, rank, unlike)
			}
		}
	}
}

// P6.4
func TestTheRowHasEachByteOnce(t *testing.T) {
	for _, s := range texts() {
		row := []byte(Row(s))
		slices.Sort(row)
		if string(row) != every() {
			t.Errorf("the bytes of Row(%q) are %q", s, row)
		}
	}
}

// P6.4
func TestTheFrontOfTheRow(t *testing.T) {
	for _, s := range texts() {
		row := Row(s)
		n := 0
		for i := len(s) - 1; i >= 0; i-- {
			if strings.IndexByte(row[:n], s[i]) >= 0 {
				continue
			}
			if row[n] != s[i] {
				t.Fatalf("Row(%q) has %02x at %d, want %02x", s, row[n], n, s[i])
			}
			n++
		}
		if !slices.IsSorted([]byte(row[n:])) {
			t.Errorf("Row(%q): the bytes that did not come stand as %q", s, row[n:])
		}
	}
}

// The chapter's example.
func TestExample(t *testing.T) {
	if got := Ranks("aab"); !slices.Equal(got, []int{97, 0, 98}) {
		t.Errorf("Ranks(aab) = %v", got)
	}
	if got := Row("aab"); got[:2] != "ba" || len(got) != 256 {
		t.Errorf("Row(aab) = %q", got)
	}
}

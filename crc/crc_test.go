package crc

import (
	"hash/crc32"
	"math"
	"math/bits"
	"strings"
	"testing"
)

// The tests hold crc against the chapter's words, done by quotients and differences, and, where the table is that of IEEE 802.3, against the library's hash/crc32.

// either is the exclusive or, bit by bit.
func either(a, b uint32) uint32 { return (a | b) - (a & b) }

// turn turns each bit.
func turn(n uint32) uint32 { return math.MaxUint32 - n }

// wantEntry is the entry of a byte, word by word.
func wantEntry(b int) uint32 {
	n := uint32(b)
	for range 8 {
		half := n / 2
		if n%2 == 1 {
			half = either(half, 0xedb88320)
		}
		n = half
	}
	return n
}

// wantRemainder is the remainder of bytes from a number on, word by word.
func wantRemainder(t [256]uint32, n uint32, s string) uint32 {
	for _, b := range []byte(s) {
		n = either(n/256, t[either(n%256, uint32(b))])
	}
	return n
}

// wantMore is P5.2's More, word by word.
func wantMore(t [256]uint32, sum uint32, s string) uint32 {
	return turn(wantRemainder(t, turn(sum), s))
}

// zeros makes as many bytes 00 as are gone over for a number.
func zeros(n int) string {
	if n < 1 {
		return ""
	}
	if n > 100000 {
		n = 100000
	}
	return strings.Repeat("\x00", n)
}

// chance makes numbers without a rule, the same ones each time.
func chance(from uint32) func() uint32 {
	return func() uint32 {
		from ^= from << 13
		from ^= from >> 17
		from ^= from << 5
		return from
	}
}

// filled makes a table of what a function tells of each place.
func filled(entry func(i int) uint32) (t [256]uint32) {
	for i := range t {
		t[i] = entry(i)
	}
	return t
}

// ieee tells the library's table.
func ieee() [256]uint32 { return *crc32.MakeTable(crc32.IEEE) }

// tables tells tables of all kinds: that of IEEE 802.3, another one of a polynomial, and such as no polynomial has.
func tables() [][256]uint32 {
	next := chance(7)
	return [][256]uint32{
		ieee(),
		*crc32.MakeTable(crc32.Castagnoli),
		{},
		filled(func(int) uint32 { return math.MaxUint32 }),
		filled(func(i int) uint32 { return uint32(i) }),
		filled(func(i int) uint32 { return uint32(255-i) << 24 }),
		filled(func(int) uint32 { return next() }),
		filled(func(int) uint32 { return next() }),
	}
}

// sums tells numbers to go on from.
func sums() []uint32 {
	return []uint32{0, 1, 9, 0xff, 0x100, 1 << 31, 0xcbf43926, 0xedb88320, 0xffffff00, math.MaxUint32 - 1, math.MaxUint32}
}

// texts tells short texts of bytes at the edges, and longer ones.
func texts() []string {
	all := []string{""}
	for from := 0; len(all[from]) < 2; from++ {
		for _, b := range []string{"\x00", "\x01", "a", "\x7f", "\x80", "\xff"} {
			all = append(all, all[from]+b)
		}
	}
	every := ""
	for b := range 256 {
		every += string([]byte{byte(b)})
	}
	return append(all, "abc", "123456789", "\xc3\xa9\xed\xa0\x80", strings.Repeat("\x00", 100), strings.Repeat("\xff", 9), every, strings.Repeat("log", 1000))
}

// counts tells how many bytes 00 there may be: few, many, as many as are gone over and beside that, and none.
func counts() []int {
	return []int{math.MinInt, math.MinInt + 1, -100001, -2, -1, 0, 1, 2, 3, 4, 5, 7, 255, 256, 257, 99999, 100000, 100001, 200000, 1 << 32, 1<<32 + 1, math.MaxInt - 1, math.MaxInt}
}

// changed is a text by the exclusive or with a change at a place.
func changed(s string, at int, change string) string {
	out := []byte(s)
	for i := range len(change) {
		out[at+i] ^= change[i]
	}
	return string(out)
}

// P5.1
func TestTable(t *testing.T) {
	table := Table()
	for b, entry := range table {
		if want := wantEntry(b); entry != want {
			t.Errorf("the entry of %02x is %08x, want %08x", b, entry, want)
		}
	}
	if table != ieee() {
		t.Error("the table is not that of the library")
	}
}

// P5.1
func TestTheEntriesOfSomeBytes(t *testing.T) {
	table := Table()
	for _, x := range []struct {
		b    int
		want uint32
	}{
		{0, 0}, {1, 0x77073096}, {2, 0xee0e612c}, {3, 0x990951ba}, {128, 0xedb88320}, {255, 0x2d02ef8d},
	} {
		if table[x.b] != x.want {
			t.Errorf("the entry of %02x is %08x, want %08x", x.b, table[x.b], x.want)
		}
	}
}

// P5.1
func TestTablesAreApart(t *testing.T) {
	first := Table()
	first[1], first[255] = 1, 2
	if Table() != ieee() {
		t.Error("a table that was changed changed the next one")
	}
}

// P5.2
func TestOf(t *testing.T) {
	for i, table := range tables() {
		for _, s := range texts() {
			if got, want := Of(table, s), turn(wantRemainder(table, math.MaxUint32, s)); got != want {
				t.Errorf("table %d: Of(%q) = %08x, want %08x", i, s, got, want)
			}
		}
	}
}

// P5.2
func TestOfByTheTableIsTheLibrarys(t *testing.T) {
	table := Table()
	for _, s := range texts() {
		if got, want := Of(table, s), crc32.ChecksumIEEE([]byte(s)); got != want {
			t.Errorf("Of(%q) = %08x, want %08x", s, got, want)
		}
	}
}

// P5.2
func TestMore(t *testing.T) {
	for i, table := range tables() {
		for _, sum := range sums() {
			for _, s := range texts() {
				if got, want := More(table, sum, s), wantMore(table, sum, s); got != want {
					t.Errorf("table %d: More(%08x, %q) = %08x, want %08x", i, sum, s, got, want)
				}
			}
		}
	}
}

// P5.2
func TestMoreByTheTableIsTheLibrarys(t *testing.T) {
	table := Table()
	for _, sum := range sums() {
		for _, s := range texts() {
			if got, want := More(table, sum, s), crc32.Update(sum, crc32.IEEETable, []byte(s)); got != want {
				t.Errorf("More(%08x, %q) = %08x, want %08x", sum, s, got, want)
			}
		}
	}
}

// P5.2
func TestNothingMoreLeavesTheSum(t *testing.T) {
	for i, table := range tables() {
		if got := Of(table, ""); got != 0 {
			t.Errorf("table %d: Of nothing = %08x", i, got)
		}
		for _, sum := range sums() {
			if got := More(table, sum, ""); got != sum {
				t.Errorf("table %d: More(%08x, nothing) = %08x", i, sum, got)
			}
		}
	}
}

// P5.3
func TestNoughts(t *testing.T) {
	for i, table := range tables() {
		for _, sum := range sums() {
			for _, n := range counts() {
				if got, want := Noughts(table, sum, n), wantMore(table, sum, zeros(n)); got != want {
					t.Errorf("table %d: Noughts(%08x, %d) = %08x, want %08x", i, sum, n, got, want)
				}
			}
		}
	}
}

// P5.3
func TestNoughtsEndAtTheirMost(t *testing.T) {
	table := Table()
	for _, sum := range sums() {
		last, full := Noughts(table, sum, 99999), Noughts(table, sum, 100000)
		// Of ffffffff no remainder is left: noughts leave such a sum as it is.
		if (last == full) != (sum == math.MaxUint32) {
			t.Errorf("Noughts(%08x) of 99999 is %08x, of 100000 %08x", sum, last, full)
		}
		if more := Noughts(table, full, 1); sum != math.MaxUint32 && more == full {
			t.Errorf("one nought more leaves %08x", full)
		}
		for _, n := range []int{100001, 100002, 200000, 1 << 31, 1 << 32, math.MaxInt} {
			if got := Noughts(table, sum, n); got != full {
				t.Errorf("Noughts(%08x, %d) = %08x, want %08x as of 100000", sum, n, got, full)
			}
		}
	}
}

// P5.3
func TestNoNoughtsLeaveTheSum(t *testing.T) {
	for i, table := range tables() {
		for _, sum := range sums() {
			for _, n := range []int{math.MinInt, -100001, -1, 0} {
				if got := Noughts(table, sum, n); got != sum {
					t.Errorf("table %d: Noughts(%08x, %d) = %08x", i, sum, n, got)
				}
			}
		}
	}
}

// P5.3
func TestTurned(t *testing.T) {
	for i, table := range tables() {
		for _, change := range []string{"", "\x00", "\x01", "\x80", "\xff", "\x00\x00\x00", "\x01\x02", "\xde\xad\xbe\xef", strings.Repeat("log", 100)} {
			for _, behind := range counts() {
				left := wantRemainder(table, 0, change+zeros(behind))
				for _, sum := range []uint32{0, 0xcbf43926, math.MaxUint32} {
					if got, want := Turned(table, sum, change, behind), either(sum, left); got != want {
						t.Errorf("table %d: Turned(%08x, %q, %d) = %08x, want %08x", i, sum, change, behind, got, want)
					}
				}
			}
		}
	}
}

// P5.3
func TestNoChangeLeavesTheSum(t *testing.T) {
	table := Table()
	for _, sum := range sums() {
		for _, change := range []string{"", "\x00", zeros(9)} {
			for _, behind := range counts() {
				if got := Turned(table, sum, change, behind); got != sum {
					t.Errorf("Turned(%08x, %q, %d) = %08x", sum, change, behind, got)
				}
			}
		}
	}
}

// P5.4
func TestSumsOfParts(t *testing.T) {
	for i, table := range append(tables(), Table()) {
		for _, s := range texts() {
			whole := Of(table, s)
			for cut := range len(s) + 1 {
				// Long texts are cut here and there.
				if cut > 300 && cut%97 != 0 {
					continue
				}
				if got := More(table, Of(table, s[:cut]), s[cut:]); got != whole {
					t.Errorf("table %d: the parts of %q at %d have %08x, want %08x", i, s, cut, got, whole)
				}
			}
		}
	}
}

// P5.4
func TestNoughtsAreAPart(t *testing.T) {
	table := Table()
	for _, s := range texts() {
		for _, n := range []int{0, 1, 2, 64, 99999, 100000} {
			if got, want := Noughts(table, Of(table, s), n), Of(table, s+zeros(n)); got != want {
				t.Errorf("%q and %d noughts: %08x, want %08x", s, n, got, want)
			}
		}
	}
}

// pattern is the change of a text of so many bytes by the bits of a number, the lowest one at a bit of the text.
func pattern(size, bit int, n uint32) string {
	out := make([]byte, size)
	for ; n != 0; n &= n - 1 {
		at := bit + bits.TrailingZeros32(n)
		out[at/8] |= 1 << (at % 8)
	}
	return string(out)
}

// patterns tells changes of bits within 32: one, two, all, and others without a rule.
func patterns() []uint32 {
	l, next := []uint32{math.MaxUint32, 0xedb88320, 0x04c11db7, 0x55555555, 0xaaaaaaaa, 0x80000001}, chance(5)
	for a := range 32 {
		for b := range a + 1 {
			l = append(l, 1<<a|1<<b)
		}
	}
	for range 200 {
		l = append(l, next())
	}
	return l
}

// P5.5
func TestBurst(t *testing.T) {
	table := Table()
	for _, s := range []string{"\x00", "ab", "log", "\x00\x00\x00\x00", "\xff\xff\xff\xff\xff", "123456789"} {
		sum := Of(table, s)
		for bit := range 8 * len(s) {
			for _, n := range patterns() {
				if bit+bits.Len32(n) > 8*len(s) {
					continue
				}
				if turned := changed(s, 0, pattern(len(s), bit, n)); Of(table, turned) == sum {
					t.Fatalf("%x and %x have the sum %08x both", s, turned, sum)
				}
			}
		}
	}
}

// P5.5
func TestNoBurstIsHidden(t *testing.T) {
	// What a change does to a sum is the exclusive or of what its bits do (P5.6), so no change of 32 bits is hidden if none of what these do is made by the others.
	table := Table()
	for _, s := range []string{"\x00\x00\x00\x00", "\xff\xff\xff\xff\xff", "123456789", strings.Repeat("log", 30)} {
		for bit := range 8*len(s) - 31 {
			var highest [32]uint32
			for i := range 32 {
				d := Of(table, s) ^ Of(table, changed(s, 0, pattern(len(s), bit+i, 1)))
				for d != 0 && highest[bits.Len32(d)-1] != 0 {
					d ^= highest[bits.Len32(d)-1]
				}
				if d == 0 {
					t.Fatalf("a change within 32 bits of %q, from bit %d on, is hidden", s, bit)
				}
				highest[bits.Len32(d)-1] = d
			}
		}
	}
}

// P5.6
func TestTurnedTellsTheSumOfAChangedText(t *testing.T) {
	table := Table()
	for _, s := range texts() {
		sum := Of(table, s)
		for _, change := range []string{"", "\x00", "\x01", "\xff", "\x00\x80", "\x01\x02\x03", "\x00\x00\xff\x00\x00", "123456789"} {
			for at := range max(0, len(s)-len(change)+1) {
				// Long texts are changed here and there.
				if at > 20 && at%97 != 0 {
					continue
				}
				want := Of(table, changed(s, at, change))
				if got := Turned(table, sum, change, len(s)-len(change)-at); got != want {
					t.Errorf("%q changed by %x at %d: %08x, want %08x", s, change, at, got, want)
				}
			}
		}
	}
}

// P5.6
func TestTurnedFarFromTheEnd(t *testing.T) {
	table := Table()
	for _, behind := range []int{99999, 100000} {
		s := "hello" + strings.Repeat("x", behind)
		if got, want := Turned(table, Of(table, s), "\x01\x02\x80", behind), Of(table, changed(s, 2, "\x01\x02\x80")); got != want {
			t.Errorf("a change %d bytes from the end: %08x, want %08x", behind, got, want)
		}
	}
}

// What is handed in is not changed.
func TestTablesStayAsTheyAre(t *testing.T) {
	for i, table := range tables() {
		Of(table, "abc")
		More(table, 1, "abc")
		Noughts(table, 1, 9)
		Turned(table, 1, "abc", 9)
		if table != tables()[i] {
			t.Errorf("table %d was changed", i)
		}
	}
}

func TestExample(t *testing.T) {
	if got := Of(Table(), "123456789"); got != 0xcbf43926 {
		t.Errorf("example 1 of the chapter: %08x", got)
	}
}

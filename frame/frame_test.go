package frame

import (
	"encoding/binary"
	"hash/crc32"
	"math"
	"slices"
	"strconv"
	"strings"
	"testing"

	"varve/api"
)

// The tests hold frame against the chapter's words, told here once more by the library's own numbers as bytes and its CRC-32.

// got is what Get answers.
type got struct {
	f api.Frame
	e api.Errno
}

func gotAt(s string, at int) got {
	f, e := Get(s, at)
	return got{f, e}
}

// kinds tells the kinds that frames have, and numbers that are no kind.
func kinds() []int {
	return []int{math.MinInt, -256, -4, -1, 0, 1, 2, 3, 4, 5, 6, 127, 128, 255, 256, 257, 258, 260, 1 << 16, 1<<32 + 1, 1<<32 + 4, math.MaxInt}
}

// sizes tells how many bytes bodies may have, and how many they may not.
func sizes() []int {
	return []int{0, 1, 2, 3, 4, 5, 8, 9, 127, 128, 255, 256, 257, 1000, 32768, 59999, 60000, 60001, 65535, 65536, 65537, 1 << 20, 1<<24 + 1}
}

// bodyOf tells a body of so many bytes, of all kinds.
func bodyOf(n int) string {
	s := make([]byte, n)
	for i := range s {
		s[i] = byte(i*i + 3*i/256 + 255 - n)
	}
	return string(s)
}

// fourOf tells a number's four bytes, the lowest one first.
func fourOf(n uint32) string { return string(binary.LittleEndian.AppendUint32(nil, n)) }

// summed is bytes with their sum behind them.
func summed(s string) string { return s + fourOf(crc32.ChecksumIEEE([]byte(s))) }

// wantFrame is the frame of a kind and a body, word by word, also if these may not be.
func wantFrame(kind byte, body string) string {
	return summed(string([]byte{kind}) + fourOf(uint32(len(body))) + body)
}

// wantGet is P16.2, word by word.
func wantGet(s string, at int) got {
	if at < 0 || at > len(s) {
		return got{e: api.ErrArg}
	}
	b := s[at:]
	if len(b) < 5 {
		return got{e: api.ErrShort}
	}
	if !strings.Contains("\x01\x02\x03\x04", b[:1]) {
		return got{e: api.ErrFrame}
	}
	n := int(binary.LittleEndian.Uint32([]byte(b[1:5])))
	if n > 60000 {
		return got{e: api.ErrBig}
	}
	if len(b) < n+9 {
		return got{e: api.ErrShort}
	}
	if summed(b[:5+n]) != b[:9+n] {
		return got{e: api.ErrSum}
	}
	return got{f: api.Frame{Kind: int(b[0]), Body: b[5 : 5+n], At: at, To: at + n + 9}}
}

// wantScan is P16.3, word by word.
func wantScan(s string, at int) ([]api.Frame, int) {
	if at < 0 || at > len(s) {
		return nil, at
	}
	var l []api.Frame
	g := wantGet(s, at)
	for g.e == api.OK {
		l, at = append(l, g.f), g.f.To
		g = wantGet(s, at)
	}
	return l, at
}

// put makes a frame that may be made.
func put(t *testing.T, kind int, body string) string {
	t.Helper()
	s, e := Put(kind, body)
	if e != api.OK {
		t.Fatal(kind, len(body), int(e))
	}
	return s
}

// few tells a text's first bytes, for a message.
func few(s string) string {
	return strconv.Quote(s[:min(len(s), 40)]) + " of " + strconv.Itoa(len(s))
}

// show tells a frame, for a message.
func show(f api.Frame) string {
	return strconv.Itoa(f.Kind) + " " + few(f.Body) + " " + strconv.Itoa(f.At) + " " + strconv.Itoa(f.To)
}

// showAll tells the first of some frames, for a message.
func showAll(l []api.Frame) []string {
	var all []string
	for _, f := range l[:min(len(l), 4)] {
		all = append(all, show(f))
	}
	return append(all, strconv.Itoa(len(l)))
}

// holdGet holds Get against the chapter's words, and tells the error.
func holdGet(t *testing.T, s string, at int) api.Errno {
	t.Helper()
	g, want := gotAt(s, at), wantGet(s, at)
	if g != want {
		t.Fatalf("Get of %s at %d: %s, %d, want %s, %d", few(s), at, show(g.f), int(g.e), show(want.f), int(want.e))
	}
	return g.e
}

// holdScan holds Scan against the chapter's words, and tells how many frames there are.
func holdScan(t *testing.T, s string, at int) int {
	t.Helper()
	l, to := Scan(s, at)
	want, wanted := wantScan(s, at)
	if !slices.Equal(l, want) || to != wanted {
		t.Fatalf("Scan of %s from %d: %v, %d, want %v, %d", few(s), at, showAll(l), to, showAll(want), wanted)
	}
	return len(l)
}

// allTold fails if one of some errors was never told, since a test that sees no error of a kind holds nothing of it.
func allTold(t *testing.T, told map[api.Errno]int, wanted ...api.Errno) {
	t.Helper()
	for _, e := range wanted {
		if told[e] == 0 {
			t.Errorf("error %d was never told", int(e))
		}
	}
}

// textsOf tells all texts of at most so many of some bytes.
func textsOf(letters string, most int) []string {
	all := []string{""}
	for from := 0; len(all[from]) < most; from++ {
		for _, b := range []byte(letters) {
			all = append(all, all[from]+string([]byte{b}))
		}
	}
	return all
}

// someFrames tells frames of all kinds, of short bodies and of long ones, one of them with a frame in its body.
func someFrames() []string {
	var all []string
	for kind := byte(1); kind <= 4; kind++ {
		for _, n := range []int{0, 1, 2, 7, 128, 300} {
			all = append(all, wantFrame(kind, bodyOf(n)))
		}
	}
	return append(all, wantFrame(3, wantFrame(1, "in it")), wantFrame(4, strings.Repeat("\x00", 20)), wantFrame(2, "\xff\xff\xff\xff"))
}

// P16.1
func TestPut(t *testing.T) {
	for _, n := range sizes() {
		body := bodyOf(n)
		for _, kind := range kinds() {
			want, wanted := "", api.OK
			switch {
			case kind < 1 || kind > 4:
				wanted = api.ErrFrame
			case n > 60000:
				wanted = api.ErrBig
			default:
				want = wantFrame(byte(kind), body)
			}
			if s, e := Put(kind, body); s != want || e != wanted {
				t.Errorf("Put of %d and %d bytes: %s, %d, want %s, %d", kind, n, few(s), int(e), few(want), int(wanted))
			}
		}
	}
}

// P16.1: the bytes themselves, their sums too.
func TestPutByteByByte(t *testing.T) {
	for _, x := range []struct {
		kind int
		body string
		want string
	}{
		{1, "", "\x01\x00\x00\x00\x00\xad\xde\x42\xfb"},
		{2, "ab", "\x02\x02\x00\x00\x00ab\xce\x35\x61\x98"},
		{4, "\x00", "\x04\x01\x00\x00\x00\x00\x05\xca\x33\x17"},
	} {
		if s := put(t, x.kind, x.body); s != x.want {
			t.Errorf("Put of %d and %q: %x, want %x", x.kind, x.body, s, x.want)
		}
	}
	for n, want := range map[int]string{0: "\x00\x00\x00\x00", 255: "\xff\x00\x00\x00", 256: "\x00\x01\x00\x00", 60000: "\x60\xea\x00\x00"} {
		if s := put(t, 3, bodyOf(n)); s[:5] != "\x03"+want || s[5:len(s)-4] != bodyOf(n) {
			t.Errorf("Put of 3 and %d bytes: %x", n, s[:5])
		}
	}
}

// P16.1: of all bodies, those that are too large for a frame among them.
func TestSize(t *testing.T) {
	for _, n := range sizes() {
		if size := Size(bodyOf(n)); size != n+9 {
			t.Errorf("Size of %d bytes: %d", n, size)
		}
		if n <= 60000 {
			if s := put(t, 1, bodyOf(n)); len(s) != Size(bodyOf(n)) {
				t.Errorf("Put of %d bytes has %d, Size tells %d", n, len(s), Size(bodyOf(n)))
			}
		}
	}
}

// P16.2: of all short texts of some bytes, and of these with their sums behind them.
func TestGetOfShortTexts(t *testing.T) {
	told := map[api.Errno]int{}
	for _, s := range textsOf("\x00\x01\x04\x05", 7) {
		told[holdGet(t, s, 0)]++
		told[holdGet(t, summed(s), 0)]++
		told[holdGet(t, summed(s)+"\x00", 0)]++
	}
	allTold(t, told, api.OK, api.ErrShort, api.ErrFrame, api.ErrBig, api.ErrSum)
}

// P16.2: each first byte.
func TestGetOfEachKind(t *testing.T) {
	for kind := range 256 {
		want := api.ErrFrame
		if kind >= 1 && kind <= 4 {
			want = api.OK
		}
		for _, n := range []int{0, 1, 300} {
			if e := holdGet(t, wantFrame(byte(kind), bodyOf(n)), 0); e != want {
				t.Errorf("Get of a frame of kind %d: %d, want %d", kind, int(e), int(want))
			}
		}
	}
}

// P16.2: as many bytes as a body may have, and more, where all of them stand there with their sum, and where they don't.
func TestGetOfEachSize(t *testing.T) {
	for _, n := range sizes() {
		want, short := api.OK, api.ErrShort
		if n > 60000 {
			want, short = api.ErrBig, api.ErrBig
		}
		s := wantFrame(2, bodyOf(n))
		if e := holdGet(t, s, 0); e != want {
			t.Errorf("Get of a frame of %d bytes: %d, want %d", n, int(e), int(want))
		}
		for _, cut := range []int{5, 5 + n, 5 + n + 1, len(s) - 1} {
			if e := holdGet(t, s[:cut], 0); e != short {
				t.Errorf("Get of %d bytes of a frame of %d: %d, want %d", cut, n, int(e), int(short))
			}
		}
	}
	for _, n := range []uint32{60001, 1 << 16, 1 << 24, math.MaxInt32 - 8, math.MaxInt32, 1 << 31, math.MaxUint32 - 8, math.MaxUint32} {
		for _, behind := range []string{"", "\x00", strings.Repeat("a", 100), strings.Repeat("\x00", 70000)} {
			if e := holdGet(t, "\x01"+fourOf(n)+behind, 0); e != api.ErrBig {
				t.Errorf("Get of a frame of %d bytes: %d", n, int(e))
			}
		}
	}
}

// P16.2: from each place of some bytes on, and from places that are none.
func TestGetAtEachPlace(t *testing.T) {
	told := map[api.Errno]int{}
	frames := someFrames()
	for _, s := range append(frames, strings.Join(frames, ""), "", "\x01", "x"+frames[3]+frames[9]+"\x01\x00", frames[3]+frames[1][:9]+"x"+frames[2]) {
		for at := -2; at <= len(s)+2; at++ {
			told[holdGet(t, s, at)]++
		}
		for _, at := range []int{math.MinInt, math.MinInt + 1, -1 << 32, -100, len(s) + 100, 1 << 32, 1<<32 + 1, math.MaxInt - 4, math.MaxInt - 1, math.MaxInt} {
			if e := holdGet(t, s, at); e != api.ErrArg {
				t.Errorf("Get at %d of %d bytes: %d", at, len(s), int(e))
			}
		}
	}
	allTold(t, told, api.OK, api.ErrArg, api.ErrShort, api.ErrFrame, api.ErrBig, api.ErrSum)
}

// P16.2: each beginning of a frame, and a frame with a byte that is another one.
func TestGetOfBrokenFrames(t *testing.T) {
	told := map[api.Errno]int{}
	for _, s := range someFrames() {
		for n := range len(s) {
			if e := holdGet(t, s[:n], 0); e != api.ErrShort {
				t.Errorf("Get of the first %d bytes of %s: %d", n, few(s), int(e))
			}
			for _, x := range []byte{1, 2, 3, 4, 8, 16, 32, 64, 127, 128, 255} {
				broken := []byte(s)
				broken[n] ^= x
				e := holdGet(t, string(broken)+strings.Repeat("\x00", 300), 0)
				told[e]++
				if e == api.OK {
					t.Errorf("Get takes %s with byte %d turned by %d", few(s), n, x)
				}
			}
		}
	}
	allTold(t, told, api.ErrShort, api.ErrFrame, api.ErrBig, api.ErrSum)
}

// P16.2: sums of fewer bytes than the frame has, or that stand there otherwise.
func TestGetOfOtherSums(t *testing.T) {
	for _, s := range someFrames() {
		parts := s[:len(s)-4]
		body := parts[5:]
		sum := crc32.ChecksumIEEE([]byte(parts))
		for _, other := range []uint32{sum ^ 1, sum ^ 1<<31, ^sum, sum + 1, sum - 1, 0, crc32.ChecksumIEEE([]byte(body)), crc32.ChecksumIEEE([]byte(parts[1:])), crc32.Checksum([]byte(parts), crc32.MakeTable(crc32.Castagnoli)), binary.BigEndian.Uint32([]byte(s[len(s)-4:]))} {
			if other == sum {
				continue
			}
			if e := holdGet(t, parts+fourOf(other), 0); e != api.ErrSum {
				t.Errorf("Get of %s with the sum %x: %d", few(parts), other, int(e))
			}
		}
	}
}

// P16.2: each error, also where later ones apply too.
func TestTheErrorsOfGet(t *testing.T) {
	whole := wantFrame(2, "ab")
	for _, x := range []struct {
		s    string
		at   int
		want api.Errno
	}{
		{whole, 0, api.OK},
		{whole + "more", 0, api.OK},
		{"", 0, api.ErrShort},
		{"", 1, api.ErrArg},
		{"", -1, api.ErrArg},
		{whole, len(whole), api.ErrShort},
		{whole, len(whole) + 1, api.ErrArg},
		// Fewer than 5 bytes come ahead of what they are.
		{"\x00", 0, api.ErrShort},
		{"\x05\xff\xff\xff", 0, api.ErrShort},
		{"\x02\xff\xff\xff", 0, api.ErrShort},
		{"\x02\x00\x00\x00", 0, api.ErrShort},
		// The kind comes ahead of the number.
		{"\x00\xff\xff\xff\xff", 0, api.ErrFrame},
		{"\x05\x61\xea\x00\x00", 0, api.ErrFrame},
		{"\x05\x02\x00\x00\x00", 0, api.ErrFrame},
		{"\x00" + whole[1:], 0, api.ErrFrame},
		{"\xff\x02\x00\x00\x00", 0, api.ErrFrame},
		// The number comes ahead of the bytes that are there.
		{"\x02\x61\xea\x00\x00", 0, api.ErrBig},
		{"\x02\x60\xea\x00\x00", 0, api.ErrShort},
		{"\x02\xff\xff\xff\xff", 0, api.ErrBig},
		{"\x02\x61\xea\x00\x00" + strings.Repeat("a", 70000), 0, api.ErrBig},
		{"\x02\x60\xea\x00\x00" + strings.Repeat("a", 60003), 0, api.ErrShort},
		{"\x02\x60\xea\x00\x00" + strings.Repeat("a", 60004), 0, api.ErrSum},
		// The frame that is not whole comes ahead of its sum.
		{"\x02\x00\x00\x00\x00", 0, api.ErrShort},
		{"\x02\x00\x00\x00\x00\xff\xff\xff", 0, api.ErrShort},
		{"\x02\x00\x00\x00\x00\xff\xff\xff\xff", 0, api.ErrSum},
		{whole[:10], 0, api.ErrShort},
		{whole[:6] + "c" + whole[7:], 0, api.ErrSum},
		// What stands ahead plays no part, and what stands behind does not fill up what is missing of a number.
		{"\xff\xff\xff" + whole, 3, api.OK},
		{whole + whole[:4], len(whole), api.ErrShort},
	} {
		f, e := Get(x.s, x.at)
		if e != x.want || e != api.OK && f != (api.Frame{}) {
			t.Errorf("Get of %s at %d: %s, %d, want %d", few(x.s), x.at, show(f), int(e), int(x.want))
		}
	}
}

// tails tells what ends a scan: nothing, parts of frames, and bytes that are no frame, with frames behind them, too.
func tails() []string {
	whole := wantFrame(1, "abc")
	return []string{
		"", "\x00", "\x01", whole[:4], whole[:5], whole[:len(whole)-1],
		"\x00" + whole, "\x05" + whole[1:] + whole, "\x01\x61\xea\x00\x00" + whole, "\x01\x60\xea\x00\x00" + whole,
		whole[:6] + "x" + whole[7:] + whole + whole, strings.Repeat("\x00", 64), strings.Repeat("\xff", 64),
	}
}

// P16.3: frames, whatever stands ahead of them and behind, from each place on.
func TestScan(t *testing.T) {
	a, b, c := wantFrame(1, ""), wantFrame(2, "ab"), wantFrame(4, wantFrame(3, bodyOf(20)))
	counts := map[int]int{}
	for _, l := range [][]string{{}, {a}, {b, a}, {a, b, c}, {c, c, b, a, a}} {
		for _, ahead := range []string{"", "x", "\x01\x00", b} {
			for _, tail := range tails() {
				s := ahead + strings.Join(l, "") + tail
				if n := holdScan(t, s, len(ahead)); n != len(l) {
					t.Errorf("Scan of %d frames: %d", len(l), n)
				}
				for at := -2; at <= len(s)+2; at++ {
					counts[holdScan(t, s, at)]++
				}
			}
		}
	}
	for n := range 7 {
		if counts[n] == 0 {
			t.Errorf("%d frames were never told", n)
		}
	}
}

// P16.3: a frame, and each text of a few bytes.
func TestScanOfShortTexts(t *testing.T) {
	for _, s := range textsOf("\x00\x01\x05", 7) {
		holdScan(t, s, 0)
		holdScan(t, summed(s), 0)
		holdScan(t, summed(s)+summed("\x01\x00\x00\x00\x00")+s, 0)
	}
}

// P16.3: at a place that is none.
func TestScanOfNoPlace(t *testing.T) {
	for _, s := range []string{"", "a", wantFrame(1, ""), wantFrame(1, "") + wantFrame(2, "ab")} {
		for _, at := range []int{math.MinInt, math.MinInt + 1, -1 << 32, -9, -1, len(s) + 1, len(s) + 9, 1 << 32, math.MaxInt - 9, math.MaxInt} {
			if l, to := Scan(s, at); len(l) != 0 || to != at {
				t.Errorf("Scan of %s from %d: %v, %d", few(s), at, showAll(l), to)
			}
		}
	}
}

// P16.3: up to each kind of error, and up to the bytes' end.
func TestScanEndsWhereGetTellsAnError(t *testing.T) {
	told := map[api.Errno]int{}
	ahead := wantFrame(2, "ab") + wantFrame(2, "") + wantFrame(3, bodyOf(300))
	for _, tail := range tails() {
		l, to := Scan(ahead+tail, 0)
		if len(l) != 3 || to != len(ahead) {
			t.Errorf("Scan with %s behind: %v, %d", few(tail), showAll(l), to)
			continue
		}
		told[gotAt(ahead+tail, to).e]++
	}
	allTold(t, told, api.ErrShort, api.ErrFrame, api.ErrBig, api.ErrSum)
}

// P16.3: frames as great as they may be, and many of the least ones.
func TestScanOfGreatBytes(t *testing.T) {
	great := strings.Repeat(wantFrame(2, bodyOf(60000)), 5)
	if n := holdScan(t, great+wantFrame(2, bodyOf(60001)), 0); n != 5 {
		t.Errorf("%d frames of 60000 bytes", n)
	}
	if n := holdScan(t, strings.Repeat(wantFrame(3, ""), 50000)+"\x03", 0); n != 50000 {
		t.Errorf("%d frames of no bytes", n)
	}
	if n := holdScan(t, strings.Repeat("\x00", 1<<20), 0); n != 0 {
		t.Errorf("%d frames of noughts", n)
	}
}

// P16.4: wherever it stands, also amid parts of frames and frames.
func TestGetOfPut(t *testing.T) {
	ahead := []string{"", "\x00", "\x01", "\x02\xff\xff\xff\xff", wantFrame(1, "a"), wantFrame(1, "a")[:9], bodyOf(1000)}
	behind := []string{"", "\x00", "\xff\xff\xff\xff", wantFrame(2, "b"), wantFrame(2, "b")[1:]}
	for kind := 1; kind <= 4; kind++ {
		for _, n := range sizes() {
			if n > 60000 {
				continue
			}
			s := put(t, kind, bodyOf(n))
			for _, a := range ahead {
				for _, b := range behind {
					want := got{f: api.Frame{Kind: kind, Body: bodyOf(n), At: len(a), To: len(a) + n + 9}}
					if g := gotAt(a+s+b, len(a)); g != want {
						t.Fatalf("Get of Put of %d and %d bytes behind %s: %s, %d", kind, n, few(a), show(g.f), int(g.e))
					}
				}
			}
		}
	}
}

// P16.4: what Get takes is what Put makes.
func TestPutOfGet(t *testing.T) {
	taken := 0
	for _, s := range textsOf("\x00\x01\x02\x04", 7) {
		s = summed(s) + "\x00"
		f, e := Get(s, 0)
		if e != api.OK {
			continue
		}
		taken++
		if b := put(t, f.Kind, f.Body); b != s[f.At:f.To] {
			t.Errorf("Put of Get of %x: %x", s, b)
		}
	}
	if taken < 20 {
		t.Error("only", taken, "texts were taken")
	}
}

// P16.5: the frames of each beginning of bytes are the first ones of all of them.
func TestScanOfBeginnings(t *testing.T) {
	frames := someFrames()
	for _, s := range []string{strings.Join(frames, ""), "x" + frames[0] + frames[8] + frames[0] + "\x00" + frames[1], frames[2]} {
		for _, at := range []int{0, 1, 9} {
			all, end := Scan(s, at)
			for n := at; n <= len(s); n++ {
				l, to := Scan(s[:n], at)
				whole := 0
				for whole < len(all) && all[whole].To <= n {
					whole++
				}
				if !slices.Equal(l, all[:whole]) || to > min(n, end) || whole == len(all) && to != end {
					t.Fatalf("Scan of the first %d bytes of %s from %d: %v, %d", n, few(s), at, showAll(l), to)
				}
			}
		}
	}
}

// P16.5: of what was scanned, and a frame behind it, there are the same frames and that one.
func TestScanOfOneFrameMore(t *testing.T) {
	frames := someFrames()
	for _, ahead := range []string{"", "x", "\x00\x00"} {
		for n := range len(frames) {
			for _, tail := range tails() {
				s := ahead + strings.Join(frames[:n], "") + tail
				l, to := Scan(s, len(ahead))
				for _, kind := range []int{1, 4} {
					body := bodyOf(n)
					want := append(slices.Clone(l), api.Frame{Kind: kind, Body: body, At: to, To: to + n + 9})
					m, end := Scan(s[:to]+put(t, kind, body), len(ahead))
					if !slices.Equal(m, want) || end != to+n+9 {
						t.Fatalf("Scan of %s with a frame of %d bytes behind %d: %v, %d", few(s), n, to, showAll(m), end)
					}
				}
			}
		}
	}
}

// What is handed out is new memory, and what was scanned ahead plays no part.
func TestListsAreNew(t *testing.T) {
	s := wantFrame(1, "a") + wantFrame(2, "b") + wantFrame(3, "c")
	want, wanted := wantScan(s, 0)
	a, _ := Scan(s, 0)
	a[0], a[1].Body = api.Frame{}, "other"
	_ = append(a[:1], api.Frame{})
	if b, to := Scan(s, 0); !slices.Equal(b, want) || to != wanted {
		t.Errorf("a second Scan answers %v, %d", showAll(b), to)
	}
}

func TestExample(t *testing.T) {
	s, e := Put(1, "")
	if s[:5] != "\x01\x00\x00\x00\x00" || s[5:] != fourOf(crc32.ChecksumIEEE([]byte(s[:5]))) || e != api.OK {
		t.Errorf("%x, %d", s, int(e))
	}
}

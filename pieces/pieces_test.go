package pieces

import (
	"encoding/binary"
	"errors"
	"math"
	"testing"

	"varve/api"
	"varve/take"
)

func TestPut(t *testing.T) {
	for _, l := range [][]int{nil, {0}, {127}, {128}, {300, 0, 1}, {16383, 16384, 2097152}, {math.MaxInt, 5, math.MaxInt}} {
		var want []byte
		for _, n := range l {
			want = binary.AppendUvarint(want, uint64(n))
		}
		if s := Put(l...); s != string(want) {
			t.Errorf("Put of %v: %x, want %x", l, s, want)
		}
	}
	for _, n := range []int{-1, math.MinInt} {
		if s := Put(1, n, 2); s != "\x01\x02" {
			t.Errorf("Put of 1, %d, 2: %x", n, s)
		}
	}
}

func TestTake(t *testing.T) {
	for _, x := range []struct {
		s    string
		want api.Errno
		took int
	}{
		{"", api.ErrShort, 0},
		{"\x07", api.ErrShort, 1},
		{"\x07\x80", api.ErrShort, 1},
		{"\x07\x80\x00", api.ErrForm, 1},
		{"\x07\x05", api.OK, 3},
		{"\x07\x05\x00", api.ErrRest, 2},
	} {
		took := 0
		e := Take(x.s, func(t *take.Taker) {
			t.Byte()
			took++
			t.Num()
			took++
			t.End()
			took++
		})
		if e != x.want || took != x.took {
			t.Errorf("Take of %x: %d after %d pieces, want %d after %d", x.s, int(e), took, int(x.want), x.took)
		}
	}
}

// Another panic than a taker's fault is the program's own fault: it is not told as an error of the bytes.
func TestTakeOfAnotherPanic(t *testing.T) {
	defer func() {
		if recover() == nil {
			t.Error("the panic was lost")
		}
	}()
	Take("", func(*take.Taker) { panic(errors.New("another one")) })
}

// Package pieces is what the layers share that lay numbers one behind the other, and take bytes apart piece by piece.
package pieces

import (
	"varve/api"
	"varve/take"
	"varve/varint"
)

// Put tells the bytes of numbers, one behind the other. A number below 0 has none: who puts one has checked it ahead.
func Put(l ...int) string {
	var out []byte
	for _, n := range l {
		number, _ := varint.Put(n)
		out = append(out, number...)
	}
	return string(out)
}

// Take hands a taker of bytes to what takes them apart, and tells the error of the fault at which that ends.
func Take(s string, taking func(t *take.Taker)) (e api.Errno) {
	defer func() {
		if x := recover(); x != nil {
			e = x.(take.Fault).Err
		}
	}()
	taking(take.New(s))
	return api.OK
}

package tests

import (
	"bytes"
	"math"
	"testing"
)

// extremes are numbers on both sides of every bound that a word, an at, a keep and a mask can meet, out to the ends of int64.
func extremes() []int64 {
	return []int64{
		math.MinInt64, math.MinInt64 + 1, -1 << 48, -4001, -256, -1,
		0, 1, 2, 3, 5, 6, 7, 8, 9, 100, 101, 255, 256, 4000, 4001,
		1<<48 - 1, 1 << 48, math.MaxInt64 - 8, math.MaxInt64 - 1, math.MaxInt64,
	}
}

// joined is new memory that holds the pieces one behind the other.
func joined(pieces ...[]byte) []byte {
	return bytes.Join(pieces, nil)
}

// filled is n bytes that differ from their neighbours.
func filled(n int) []byte {
	data := make([]byte, n)
	for i := range data {
		data[i] = byte(7*i + 3)
	}
	return data
}

// roomy is data with spare memory behind it that holds 170: who appends to it without a copy is seen there.
func roomy(data []byte) []byte {
	room := bytes.Repeat([]byte{170}, len(data)+64)
	copy(room, data)
	return room[:len(data)]
}

// wantUntouched looks at data and at the spare memory that roomy laid behind it.
func wantUntouched(t *testing.T, what string, data []byte, was []byte) {
	t.Helper()
	if !bytes.Equal(data, was) {
		t.Errorf("%s: the argument was changed to % x", what, data)
	}
	for _, b := range data[len(data):cap(data)] {
		if b != 170 {
			t.Errorf("%s: something was written behind the argument", what)
			return
		}
	}
}

// scribble turns every byte that data can reach, those behind its end too.
func scribble(data []byte) {
	data = data[:cap(data)]
	for i := range data {
		data[i] ^= 255
	}
}

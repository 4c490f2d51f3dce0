package impl

import "bytes"

const OK = 0
const ErrForm = 1
const ErrMany = 2
const ErrRange = 3
const ErrNone = 4
const ErrText = 5
const ErrStale = 6
const ErrFull = 7
const ErrState = 8
const ErrTaken = 9
const MaxBody = 100
const MaxDisk = 4000

const maxWord = 6
const maxByte = 255
const sumSize = 2
const firstSum = 65535
const sumMask = 4129

type IntResult struct {
	Code  int64
	Value int64
}
type BytesResult struct {
	Code  int64
	Bytes []byte
}
type FramesResult struct {
	Code   int64
	Bodies [][]byte
	Size   int64
}

// span is a number, and the least and the greatest value that it may have.
type span struct {
	number int64
	least  int64
	most   int64
}

func PackWord(n int64, size int64) BytesResult {
	if !isWordSize(size) || !inBounds(span{n, 0, 1<<(8*size) - 1}) {
		return BytesResult{Code: ErrRange}
	}
	word := make([]byte, size)
	for i := size - 1; i >= 0; i-- {
		word[i] = byte(n & maxByte)
		n >>= 8
	}
	return BytesResult{Bytes: word}
}

func ReadWord(data []byte, at int64, size int64) IntResult {
	if !isWordSize(size) || !inBounds(span{at, 0, int64(len(data)) - size}) {
		return IntResult{Code: ErrRange}
	}
	n := int64(0)
	for _, b := range data[at : at+size] {
		n = n<<8 | int64(b)
	}
	return IntResult{Value: n}
}

func SumOf(data []byte) IntResult {
	if len(data) > MaxDisk {
		return IntResult{Code: ErrMany}
	}
	sum := int64(firstSum)
	for _, b := range data {
		sum = shiftSum(sum ^ int64(b)<<8)
	}
	return IntResult{Value: sum}
}

func PackFrame(body []byte) BytesResult {
	if !inBounds(span{int64(len(body)), 1, MaxBody}) {
		return BytesResult{Code: ErrMany}
	}
	frame := append([]byte{byte(len(body))}, body...)
	sum := PackWord(SumOf(frame).Value, sumSize)
	return BytesResult{Bytes: append(frame, sum.Bytes...)}
}

func ReadFrames(disk []byte) FramesResult {
	if len(disk) > MaxDisk {
		return FramesResult{Code: ErrMany}
	}
	frames := FramesResult{}
	for {
		body, whole := firstBody(disk[frames.Size:])
		if !whole {
			return frames
		}
		frames.Bodies = append(frames.Bodies, body)
		frames.Size += int64(1 + len(body) + sumSize)
	}
}

func TearDisk(disk []byte, body []byte, keep int64, at int64, mask int64) BytesResult {
	if code := ReadFrames(disk).Code; code != OK {
		return BytesResult{Code: code}
	}
	frame := PackFrame(body)
	if frame.Code != OK {
		return BytesResult{Code: frame.Code}
	}
	if !isTear(keep, at, mask, int64(len(frame.Bytes))) {
		return BytesResult{Code: ErrRange}
	}
	if len(disk)+len(frame.Bytes) > MaxDisk {
		return BytesResult{Code: ErrFull}
	}
	kept := frame.Bytes[:keep]
	if keep > 0 {
		kept[at] ^= byte(mask)
	}
	return BytesResult{Bytes: append(bytes.Clone(disk), kept...)}
}

func SameBytes(a []byte, b []byte) bool {
	return bytes.Equal(a, b)
}

func inBounds(spans ...span) bool {
	for _, s := range spans {
		if s.number < s.least || s.number > s.most {
			return false
		}
	}
	return true
}

// isTear tells whether a frame of size bytes can be torn so.
func isTear(keep int64, at int64, mask int64, size int64) bool {
	// Where nothing is kept, at is 0, too.
	lastAt := max(keep, 1) - 1
	return inBounds(span{keep, 0, size}, span{mask, 0, maxByte}, span{at, 0, lastAt})
}

// isWordSize is asked ahead of any shift by size: with another size that would overflow or panic.
func isWordSize(size int64) bool {
	return inBounds(span{size, 1, maxWord})
}

func shiftSum(sum int64) int64 {
	for range 8 {
		if sum >= 32768 {
			sum = (sum<<1 - 65536) ^ sumMask
		} else {
			sum <<= 1
		}
	}
	return sum
}

// firstBody packs anew what data says to be the body of its first frame, so that nothing is whole but what PackFrame tells.
func firstBody(data []byte) ([]byte, bool) {
	if len(data) == 0 || len(data) <= int(data[0]) {
		return nil, false
	}
	body := data[1 : 1+int(data[0])]
	frame := PackFrame(body)
	if frame.Code != OK || !bytes.HasPrefix(data, frame.Bytes) {
		return nil, false
	}
	return bytes.Clone(body), true
}

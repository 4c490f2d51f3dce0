package tests

import (
	"bytes"
	"math"
	"strconv"
	"testing"

	"loop.example/g00730/impl"
)

// The tests of this file are those of promise 2: words, sums, frames and torn disks.

func TestPackWordLaysTheHighestByteFirst(t *testing.T) {
	for _, c := range []struct {
		n, size int64
		want    []byte
	}{
		{0, 1, []byte{0}},
		{255, 1, []byte{255}},
		{1, 2, []byte{0, 1}},
		{258, 3, []byte{0, 1, 2}},
		{0x0102030405, 5, []byte{1, 2, 3, 4, 5}},
		{0xfedcba987654, 6, []byte{0xfe, 0xdc, 0xba, 0x98, 0x76, 0x54}},
		{0, 6, make([]byte, 6)},
	} {
		if got := impl.PackWord(c.n, c.size); got.Code != impl.OK || !bytes.Equal(got.Bytes, c.want) {
			t.Errorf("PackWord(%d, %d) = %v, not %v", c.n, c.size, got, c.want)
		}
	}
}

func TestWordsAreReadBack(t *testing.T) {
	for size := int64(1); size <= 6; size++ {
		end := int64(1) << (8 * size)
		for _, n := range []int64{0, 1, 127, 128, 255, end / 3, end / 2, end - 2, end - 1} {
			word := impl.PackWord(n, size)
			if word.Code != impl.OK || int64(len(word.Bytes)) != size {
				t.Fatalf("PackWord(%d, %d) = %v", n, size, word)
			}
			data := joined([]byte{255, 254}, word.Bytes, []byte{253})
			if got := impl.ReadWord(data, 2, size); got != (impl.IntResult{Value: n}) {
				t.Errorf("ReadWord of PackWord(%d, %d) = %v", n, size, got)
			}
		}
	}
}

func TestPackWordTellsRange(t *testing.T) {
	for size := int64(1); size <= 6; size++ {
		end := int64(1) << (8 * size)
		for _, n := range []int64{math.MinInt64, -end, -1, end, end + 1, math.MaxInt64} {
			if got := impl.PackWord(n, size); got.Code != impl.ErrRange || len(got.Bytes) != 0 {
				t.Errorf("PackWord(%d, %d) = %v", n, size, got)
			}
		}
	}
	for _, size := range []int64{math.MinInt64, -8, -1, 0, 7, 8, 64, math.MaxInt64} {
		for _, n := range []int64{-1, 0, 1} {
			if got := impl.PackWord(n, size); got.Code != impl.ErrRange || len(got.Bytes) != 0 {
				t.Errorf("PackWord(%d, %d) = %v", n, size, got)
			}
		}
	}
}

func TestReadWordAsksWhetherTheBytesAreThere(t *testing.T) {
	data := filled(10)
	for size := int64(1); size <= 6; size++ {
		last := int64(len(data)) - size
		for at := int64(0); at <= last; at++ {
			got := impl.ReadWord(data, at, size)
			back := impl.PackWord(got.Value, size)
			if got.Code != impl.OK || !bytes.Equal(back.Bytes, data[at:at+size]) {
				t.Errorf("ReadWord(data, %d, %d) = %v", at, size, got)
			}
		}
		for _, at := range []int64{math.MinInt64, math.MinInt64 + size, -size, -1, last + 1, 10, 11, math.MaxInt64 - size, math.MaxInt64} {
			if got := impl.ReadWord(data, at, size); got != (impl.IntResult{Code: impl.ErrRange}) {
				t.Errorf("ReadWord(data, %d, %d) = %v", at, size, got)
			}
		}
	}
	for _, size := range []int64{math.MinInt64, -1, 0, 7, 8, 10, math.MaxInt64} {
		for _, at := range []int64{math.MinInt64, -1, 0, 3, 10, math.MaxInt64} {
			if got := impl.ReadWord(data, at, size); got != (impl.IntResult{Code: impl.ErrRange}) {
				t.Errorf("ReadWord(data, %d, %d) = %v", at, size, got)
			}
		}
	}
	for size := int64(1); size <= 6; size++ {
		if got := impl.ReadWord(data[:size-1], 0, size); got != (impl.IntResult{Code: impl.ErrRange}) {
			t.Errorf("ReadWord of too few bytes by size %d = %v", size, got)
		}
		if got := impl.ReadWord(data[:size], 0, size); got.Code != impl.OK {
			t.Errorf("ReadWord of just enough bytes by size %d = %v", size, got)
		}
	}
}

// The sums are those of binascii.crc_hqx(data, 0xffff) of Python.
func TestSumOf(t *testing.T) {
	counting := make([]byte, 4000)
	for i := range counting {
		counting[i] = byte(i)
	}
	for _, c := range []struct {
		name string
		data []byte
		want int64
	}{
		{"nothing", nil, 65535},
		{"a letter", []byte("A"), 47381},
		{"the document's example", []byte("123456789"), 10673},
		{"one zero", []byte{0}, 57840},
		{"one high bit", []byte{128}, 28792},
		{"a frame's head", []byte{2, 7, 8}, 47715},
		{"4000 zeros", make([]byte, 4000), 19178},
		{"4000 times 255", bytes.Repeat([]byte{255}, 4000), 26733},
		{"4000 bytes that count", counting, 57042},
	} {
		if got := impl.SumOf(c.data); got != (impl.IntResult{Value: c.want}) {
			t.Errorf("SumOf %s = %v, not %d", c.name, got, c.want)
		}
	}
	for b := range 256 {
		data := []byte{byte(b), byte(255 - b), 1}
		if got := impl.SumOf(data); got.Value != sumBitByBit(data) {
			t.Errorf("SumOf(%v) = %v", data, got)
		}
	}
	for _, n := range []int{4001, 5000} {
		if got := impl.SumOf(make([]byte, n)); got != (impl.IntResult{Code: impl.ErrMany}) {
			t.Errorf("SumOf %d bytes = %v", n, got)
		}
	}
}

// sumBitByBit takes the bits of data in one at a time, so that it has no step in common with the program's byte by byte.
func sumBitByBit(data []byte) int64 {
	sum := uint16(65535)
	for _, b := range data {
		for bit := 7; bit >= 0; bit-- {
			top := sum >> 15
			sum <<= 1
			if top != uint16(b>>bit&1) {
				sum ^= 4129
			}
		}
	}
	return int64(sum)
}

// frameByHand is what the document says a frame is.
func frameByHand(body []byte) []byte {
	head := joined([]byte{byte(len(body))}, body)
	sum := sumBitByBit(head)
	return append(head, byte(sum/256), byte(sum%256))
}

func TestPackFrame(t *testing.T) {
	for n := 1; n <= 100; n++ {
		body := filled(n)
		if got := impl.PackFrame(body); got.Code != impl.OK || !bytes.Equal(got.Bytes, frameByHand(body)) {
			t.Errorf("PackFrame of %d bytes = %v", n, got)
		}
	}
	for _, n := range []int{0, 101, 255, 256, 257, 300, 4000, 4001, 5000} {
		if got := impl.PackFrame(filled(n)); got.Code != impl.ErrMany || len(got.Bytes) != 0 {
			t.Errorf("PackFrame of %d bytes = %v", n, got)
		}
	}
}

// wantFrames asks that ReadFrames of disk tells just these bodies, and the bytes of their frames.
func wantFrames(t *testing.T, what string, disk []byte, bodies ...[]byte) {
	t.Helper()
	got := impl.ReadFrames(disk)
	size := 0
	for _, b := range bodies {
		size += len(b) + 3
	}
	same := got.Code == impl.OK && got.Size == int64(size) && len(got.Bodies) == len(bodies)
	for i := 0; same && i < len(bodies); i++ {
		same = bytes.Equal(got.Bodies[i], bodies[i])
	}
	if !same {
		t.Errorf("%s: ReadFrames = %v, not %v", what, got, bodies)
	}
}

func TestFramesAreReadBack(t *testing.T) {
	disk := []byte{}
	bodies := [][]byte{}
	wantFrames(t, "an empty disk", disk)
	for _, n := range []int{1, 2, 99, 100, 3, 100, 17, 1} {
		bodies = append(bodies, filled(n))
		disk = append(disk, frameByHand(filled(n))...)
		wantFrames(t, strconv.Itoa(len(bodies))+" frames", disk, bodies...)
	}
}

func TestReadFramesOfAFullDisk(t *testing.T) {
	disk := []byte{}
	bodies := [][]byte{}
	for range 40 {
		bodies = append(bodies, filled(97))
		disk = append(disk, frameByHand(filled(97))...)
	}
	if len(disk) != impl.MaxDisk {
		t.Fatal("the disk is not full:", len(disk))
	}
	wantFrames(t, "a full disk", disk, bodies...)
	if got := impl.ReadFrames(append(disk, 0)); got.Code != impl.ErrMany || got.Size != 0 || len(got.Bodies) != 0 {
		t.Error("ReadFrames of 4001 bytes =", got)
	}
	wantFrames(t, "4000 zeros", make([]byte, 4000))
	if got := impl.ReadFrames(make([]byte, 4001)); got.Code != impl.ErrMany {
		t.Error("ReadFrames of 4001 zeros =", got)
	}
}

func TestAFrameThatIsCutIsNotWhole(t *testing.T) {
	first, second := []byte{7, 8}, filled(100)
	whole := joined(frameByHand(first), frameByHand(second))
	for n := range whole {
		if n < 5 {
			wantFrames(t, "cut to "+strconv.Itoa(n), whole[:n])
		} else {
			wantFrames(t, "cut to "+strconv.Itoa(n), whole[:n], first)
		}
	}
	wantFrames(t, "just whole", whole, first, second)
}

func TestAByteThatIsTurnedIsTold(t *testing.T) {
	ahead, turned, behind := []byte{9}, []byte{3, 1, 4, 1, 5, 9, 2, 6}, []byte{5, 5, 5}
	head, tail := frameByHand(ahead), frameByHand(behind)
	for at := range frameByHand(turned) {
		for mask := 1; mask <= 255; mask++ {
			frame := frameByHand(turned)
			frame[at] ^= byte(mask)
			what := "byte " + strconv.Itoa(at) + " turned by " + strconv.Itoa(mask)
			wantFrames(t, what, frame)
			wantFrames(t, what+", at the end", joined(head, frame), ahead)
			wantFrames(t, what+", with whole ones behind", joined(head, frame, tail, tail), ahead)
		}
	}
}

func TestALengthThatIsTurned(t *testing.T) {
	long := frameByHand(filled(60))
	for length := range 256 {
		if length == 60 {
			continue
		}
		turned := bytes.Clone(long)
		turned[0] = byte(length)
		wantFrames(t, "60 turned to "+strconv.Itoa(length), joined(frameByHand([]byte{1}), turned), []byte{1})
	}
	// What a shorter length makes a whole frame is one; what is behind it then is not.
	inner := frameByHand([]byte{42})
	outer := frameByHand(joined(inner[1:], []byte{200, 200, 200}))
	wantFrames(t, "a frame that hides one", outer, outer[1:len(outer)-2])
	outer[0] = 1
	wantFrames(t, "the hidden one", outer, []byte{42})
}

func TestALengthWithoutAFrame(t *testing.T) {
	for _, n := range []int{0, 101, 102, 128, 255} {
		frame := frameByHand(filled(n))
		wantFrames(t, "a length of "+strconv.Itoa(n), frame)
		disk := joined(frameByHand([]byte{1}), frame, frameByHand([]byte{2}))
		wantFrames(t, "one of "+strconv.Itoa(n)+" between whole ones", disk, []byte{1})
	}
	for _, b := range []byte{0, 1, 3, 100, 101, 255} {
		wantFrames(t, "nothing but the length "+strconv.Itoa(int(b)), []byte{b})
	}
}

func TestWhatIsBehindWhatIsNotWholeIsNotRead(t *testing.T) {
	frame := frameByHand([]byte{1, 2, 3})
	wantFrames(t, "a zero between", joined(frame, []byte{0}, frame), []byte{1, 2, 3})
	wantFrames(t, "a zero ahead", joined([]byte{0}, frame, frame))
	wantFrames(t, "a cut one between", joined(frame, frame[:5], frame, frame), []byte{1, 2, 3})
	wantFrames(t, "a cut one ahead", joined(frame[:5], frame))
}

func TestTearDiskLaysWhatIsKept(t *testing.T) {
	body := []byte{7, 8, 9}
	frame := frameByHand(body)
	for _, disk := range [][]byte{nil, frameByHand([]byte{1, 2}), {4, 4, 4}, filled(50)} {
		for keep := range len(frame) + 1 {
			for at := range max(keep, 1) {
				for _, mask := range []int{0, 1, 128, 254, 255} {
					want := joined(disk, frame[:keep])
					if keep > 0 {
						want[len(disk)+at] ^= byte(mask)
					}
					got := impl.TearDisk(disk, body, int64(keep), int64(at), int64(mask))
					if got.Code != impl.OK || !bytes.Equal(got.Bytes, want) {
						t.Fatalf("TearDisk(%v, %v, %d, %d, %d) = %v", disk, body, keep, at, mask, got)
					}
				}
			}
		}
	}
}

func TestATornFrameLeavesWhatWasAhead(t *testing.T) {
	ahead := [][]byte{{1, 2}, filled(100), {3}}
	disk := joined(frameByHand(ahead[0]), frameByHand(ahead[1]), frameByHand(ahead[2]))
	body := filled(17)
	for keep := range int64(21) {
		for at := range max(keep, 1) {
			for mask := range int64(256) {
				torn := impl.TearDisk(disk, body, keep, at, mask)
				want := ahead
				if keep == 20 && mask == 0 {
					want = [][]byte{ahead[0], ahead[1], ahead[2], body}
				}
				if torn.Code != impl.OK || !bytes.HasPrefix(torn.Bytes, disk) {
					t.Fatalf("TearDisk(disk, body, %d, %d, %d) = %v", keep, at, mask, torn)
				}
				wantFrames(t, "torn", torn.Bytes, want...)
			}
		}
	}
}

func TestTearDiskCodes(t *testing.T) {
	least, most := int64(math.MinInt64), int64(math.MaxInt64)
	small := []byte{7, 8}
	for _, c := range []struct {
		what           string
		disk, body     int
		keep, at, mask int64
		want           int64
	}{
		{"all is right", 10, 2, 5, 4, 255, impl.OK},
		{"a body of 1", 10, 1, 4, 0, 0, impl.OK},
		{"a body of 100", 10, 100, 103, 102, 255, impl.OK},
		{"a body of 0", 10, 0, 0, 0, 0, impl.ErrMany},
		{"a body of 101", 10, 101, 0, 0, 0, impl.ErrMany},
		{"a disk of 4001", 4001, 2, 0, 0, 0, impl.ErrMany},
		{"keep is all", 10, 2, 5, 0, 0, impl.OK},
		{"keep is more than all", 10, 2, 6, 0, 0, impl.ErrRange},
		{"keep is below 0", 10, 2, -1, 0, 0, impl.ErrRange},
		{"keep is the greatest", 10, 2, most, 0, 0, impl.ErrRange},
		{"keep is the least", 10, 2, least, 0, 0, impl.ErrRange},
		{"keep and at are the greatest", 10, 2, most, most - 1, 0, impl.ErrRange},
		{"keep and at are the least", 10, 2, least, least, 0, impl.ErrRange},
		{"keep 0", 10, 2, 0, 0, 0, impl.OK},
		{"keep 0, and a mask", 10, 2, 0, 0, 255, impl.OK},
		{"keep 0, and at 1", 10, 2, 0, 1, 0, impl.ErrRange},
		{"keep 0, and at below 0", 10, 2, 0, -1, 0, impl.ErrRange},
		{"keep 1, and at 0", 10, 2, 1, 0, 1, impl.OK},
		{"keep 1, and at 1", 10, 2, 1, 1, 1, impl.ErrRange},
		{"at is the last one kept", 10, 2, 3, 2, 1, impl.OK},
		{"at is keep", 10, 2, 3, 3, 1, impl.ErrRange},
		{"at is keep, and mask 0", 10, 2, 3, 3, 0, impl.ErrRange},
		{"at is below 0", 10, 2, 3, -1, 1, impl.ErrRange},
		{"at is the greatest", 10, 2, 3, most, 1, impl.ErrRange},
		{"at is the least", 10, 2, 3, least, 1, impl.ErrRange},
		{"mask is 255", 10, 2, 3, 0, 255, impl.OK},
		{"mask is 256", 10, 2, 3, 0, 256, impl.ErrRange},
		{"mask is below 0", 10, 2, 3, 0, -1, impl.ErrRange},
		{"mask is 256, and keep 0", 10, 2, 0, 0, 256, impl.ErrRange},
		{"mask is the greatest", 10, 2, 3, 0, most, impl.ErrRange},
		{"mask is the least", 10, 2, 3, 0, least, impl.ErrRange},
		{"the frame just fills the disk", 3995, 2, 5, 0, 0, impl.OK},
		{"the frame is one byte too many", 3996, 2, 5, 0, 0, impl.ErrFull},
		{"so, where it would be torn", 3996, 2, 4, 0, 0, impl.ErrFull},
		{"so, where nothing is kept", 3996, 2, 0, 0, 0, impl.ErrFull},
		{"a disk of 4000", 4000, 2, 0, 0, 0, impl.ErrFull},
		{"a long frame just fills the disk", 3897, 100, 103, 0, 0, impl.OK},
		{"a long frame is one byte too many", 3898, 100, 1, 0, 0, impl.ErrFull},
		{"the disk ahead of keep", 4001, 2, 6, 0, 0, impl.ErrMany},
		{"the body ahead of keep", 10, 0, 1, 1, 256, impl.ErrMany},
		{"the body ahead of the mask", 10, 101, 0, 0, 256, impl.ErrMany},
		{"the disk and the body ahead of all", 4001, 101, -1, -1, -1, impl.ErrMany},
		{"the body ahead of the room", 4000, 101, 0, 0, 0, impl.ErrMany},
		{"keep ahead of the room", 4000, 2, 6, 0, 0, impl.ErrRange},
		{"at ahead of the room", 4000, 2, 5, 5, 0, impl.ErrRange},
		{"mask ahead of the room", 4000, 2, 5, 0, 256, impl.ErrRange},
	} {
		body := small[:min(c.body, 2)]
		if c.body > 2 {
			body = filled(c.body)
		}
		got := impl.TearDisk(filled(c.disk), body, c.keep, c.at, c.mask)
		size := 0
		if c.want == impl.OK {
			size = c.disk + int(c.keep)
		}
		if got.Code != c.want || len(got.Bytes) != size {
			t.Errorf("%s: TearDisk has the code %d and %d bytes, not %d and %d", c.what, got.Code, len(got.Bytes), c.want, size)
		}
	}
}

func TestSameBytes(t *testing.T) {
	for _, c := range []struct {
		a, b []byte
		want bool
	}{
		{nil, nil, true},
		{nil, []byte{}, true},
		{[]byte{}, nil, true},
		{nil, []byte{0}, false},
		{[]byte{0}, nil, false},
		{[]byte{1, 2}, []byte{1, 2}, true},
		{[]byte{1, 2}, []byte{2, 1}, false},
		{[]byte{1, 2}, []byte{1, 3}, false},
		{[]byte{3, 2}, []byte{1, 2}, false},
		{[]byte{1, 2}, []byte{1, 2, 0}, false},
		{[]byte{1, 2, 0}, []byte{1, 2}, false},
		{filled(5000), filled(5000), true},
		{filled(5000), filled(4999), false},
	} {
		if got := impl.SameBytes(c.a, c.b); got != c.want {
			t.Errorf("SameBytes(%v, %v) = %v", c.a, c.b, got)
		}
	}
}

func TestCodesAndBoundsHaveTheirNumbers(t *testing.T) {
	codes := []int64{
		impl.OK, impl.ErrForm, impl.ErrMany, impl.ErrRange, impl.ErrNone,
		impl.ErrText, impl.ErrStale, impl.ErrFull, impl.ErrState, impl.ErrTaken,
	}
	for i, code := range codes {
		if code != int64(i) {
			t.Errorf("code %d has the number %d", i, code)
		}
	}
	if impl.MaxBody != 100 || impl.MaxDisk != 4000 {
		t.Error("the bounds are", impl.MaxBody, impl.MaxDisk)
	}
}

package tests

import (
	"bytes"
	"reflect"
	"testing"

	"loop.example/g00730/impl"
)

// The tests of this file are those of promise 1, of the functions of chapter 1.

func TestFrameFunctionsAnswerAtEveryArgument(t *testing.T) {
	disk := joined(frameByHand([]byte{7, 8}), []byte{3, 1})
	for _, a := range extremes() {
		for _, b := range extremes() {
			wantZeroBeside(t, impl.PackWord(a, b))
			for _, data := range [][]byte{nil, {}, {1}, filled(6), filled(4001)} {
				if got := impl.ReadWord(data, a, b); got.Code != impl.OK && got.Value != 0 {
					t.Errorf("ReadWord(%v, %d, %d) = %v", data, a, b, got)
				}
			}
			for _, c := range extremes() {
				wantZeroBeside(t, impl.TearDisk(disk, []byte{1, 2}, a, b, c))
			}
		}
	}
	for n := range 4200 {
		data := filled(n)
		impl.SumOf(data)
		impl.SameBytes(data, data)
		wantZeroBeside(t, impl.PackFrame(data))
		if got := impl.ReadFrames(data); got.Code != impl.OK && (got.Size != 0 || len(got.Bodies) != 0) {
			t.Errorf("ReadFrames of %d bytes = %v", n, got)
		}
	}
}

func wantZeroBeside(t *testing.T, got impl.BytesResult) {
	t.Helper()
	if got.Code != impl.OK && len(got.Bytes) != 0 {
		t.Errorf("there are bytes beside a code: %v", got)
	}
	if got.Code < impl.OK || got.Code > impl.ErrTaken {
		t.Errorf("this is no code: %v", got)
	}
}

func TestNilIsAnEmptyListOfBytes(t *testing.T) {
	empty := []byte{}
	body := []byte{5}
	for _, pair := range [][2]any{
		{impl.ReadWord(nil, 0, 1), impl.ReadWord(empty, 0, 1)},
		{impl.SumOf(nil), impl.SumOf(empty)},
		{impl.PackFrame(nil).Code, impl.PackFrame(empty).Code},
		{impl.ReadFrames(nil).Code, impl.ReadFrames(empty).Code},
		{impl.ReadFrames(nil).Size, impl.ReadFrames(empty).Size},
		{len(impl.ReadFrames(nil).Bodies), len(impl.ReadFrames(empty).Bodies)},
		{impl.TearDisk(nil, body, 4, 0, 0), impl.TearDisk(empty, body, 4, 0, 0)},
		{impl.TearDisk(nil, nil, 0, 0, 0).Code, impl.TearDisk(empty, empty, 0, 0, 0).Code},
		{impl.TearDisk(nil, body, 0, 0, 0).Code, impl.TearDisk(empty, body, 0, 0, 0).Code},
		{len(impl.TearDisk(nil, body, 0, 0, 0).Bytes), len(impl.TearDisk(empty, body, 0, 0, 0).Bytes)},
	} {
		if !reflect.DeepEqual(pair[0], pair[1]) {
			t.Errorf("of nil %v, of an empty list %v", pair[0], pair[1])
		}
	}
	if impl.SumOf(nil).Value != 65535 || impl.ReadWord(nil, 0, 1).Code != impl.ErrRange || impl.PackFrame(nil).Code != impl.ErrMany {
		t.Error("nil is not answered as an empty list is")
	}
	if got := impl.TearDisk(nil, body, 4, 0, 0); !bytes.Equal(got.Bytes, frameByHand(body)) {
		t.Error("a frame on an empty disk:", got)
	}
}

// bytesCalls are all functions of chapter 1 that take lists, each with what of its answer is a list.
func bytesCalls(disk []byte, body []byte) map[string]func() [][]byte {
	return map[string]func() [][]byte{
		"ReadWord":   func() [][]byte { impl.ReadWord(disk, 1, 6); return nil },
		"SumOf":      func() [][]byte { impl.SumOf(disk); return nil },
		"PackFrame":  func() [][]byte { return [][]byte{impl.PackFrame(body).Bytes} },
		"ReadFrames": func() [][]byte { return impl.ReadFrames(disk).Bodies },
		"SameBytes":  func() [][]byte { impl.SameBytes(disk, body); return nil },
		"TearDisk":   func() [][]byte { return [][]byte{impl.TearDisk(disk, body, 6, 4, 255).Bytes} },
		"TearDisk, and nothing is kept": func() [][]byte {
			return [][]byte{impl.TearDisk(disk, body, 0, 0, 255).Bytes}
		},
		"TearDisk, and nothing is turned": func() [][]byte {
			return [][]byte{impl.TearDisk(disk, body, 7, 0, 0).Bytes}
		},
		"TearDisk, and it tells a code": func() [][]byte {
			return [][]byte{impl.TearDisk(disk, body, 8, 0, 0).Bytes}
		},
	}
}

func diskOfThree() []byte {
	return joined(frameByHand([]byte{7, 8}), frameByHand(filled(100)), frameByHand([]byte{9}), []byte{2, 7})
}

func TestFrameFunctionsChangeNoArgument(t *testing.T) {
	disk, body := roomy(diskOfThree()), roomy([]byte{1, 2, 3, 4})
	for name, call := range bytesCalls(disk, body) {
		call()
		wantUntouched(t, name, disk, diskOfThree())
		wantUntouched(t, name, body, []byte{1, 2, 3, 4})
	}
}

func TestFrameAnswersAreNewMemory(t *testing.T) {
	disk, body := roomy(diskOfThree()), roomy([]byte{1, 2, 3, 4})
	for name, call := range bytesCalls(disk, body) {
		got := call()
		for _, list := range got {
			scribble(list)
		}
		wantUntouched(t, name+", its answer written into", disk, diskOfThree())
		wantUntouched(t, name+", its answer written into", body, []byte{1, 2, 3, 4})

		got = call()
		was := cloned(got)
		scribble(disk)
		scribble(body)
		if !reflect.DeepEqual(cloned(got), was) {
			t.Errorf("%s: the answer changes with an argument", name)
		}
		scribble(disk)
		scribble(body)
	}
}

func TestBodiesShareNoMemory(t *testing.T) {
	got := impl.ReadFrames(diskOfThree()).Bodies
	if len(got) != 3 {
		t.Fatal("there are not three bodies:", got)
	}
	for i := range got {
		was := cloned(got)
		scribble(got[i])
		for j := range got {
			if j != i && !bytes.Equal(got[j], was[j]) {
				t.Errorf("body %d changes with body %d", j, i)
			}
		}
	}
}

func TestFrameAnswersHangOnTheArgumentsAlone(t *testing.T) {
	for name, call := range bytesCalls(diskOfThree(), []byte{1, 2, 3, 4}) {
		first := call()
		was := cloned(first)
		for _, list := range first {
			scribble(list)
		}
		impl.PackFrame(filled(50))
		impl.ReadFrames(frameByHand(filled(70)))
		impl.TearDisk(nil, filled(30), 9, 3, 7)
		if got := call(); !reflect.DeepEqual(cloned(got), was) {
			t.Errorf("%s: the second answer is another one", name)
		}
	}
	first := impl.PackWord(258, 3).Bytes
	scribble(first)
	if got := impl.PackWord(258, 3).Bytes; !bytes.Equal(got, []byte{0, 1, 2}) {
		t.Error("PackWord: the second answer is another one:", got)
	}
}

// cloned has no difference between nil and an empty list.
func cloned(lists [][]byte) [][]byte {
	copies := [][]byte{}
	for _, list := range lists {
		copies = append(copies, append([]byte{}, list...))
	}
	return copies
}

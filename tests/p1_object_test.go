package tests

import (
	"bytes"
	"testing"

	"loop.example/g00730/impl"
)

// The tests of this file are those of promise 1, of the functions of chapter 2.

func wantCode(t *testing.T, what string, code int64) {
	t.Helper()
	if code < impl.OK || code > impl.ErrTaken {
		t.Errorf("%s: %d is no code", what, code)
	}
}

func TestObjectFunctionsAnswerAtEveryArgument(t *testing.T) {
	for _, a := range extremes() {
		for _, b := range extremes() {
			impl.NewSet(a, b)
			impl.NewLease(a, b)
			for _, c := range extremes() {
				impl.NewJob(a, b, c)
				impl.NewPod(a, b, c)
				id := impl.PodId(a, b, c)
				wantCode(t, "PodId", id.Code)
				if id.Code != impl.OK && id.Value != 0 {
					t.Errorf("PodId(%d, %d, %d) = %v", a, b, c, id)
				}
				for kind := int64(-1); kind <= 5; kind++ {
					wantAnswers(t, impl.Write{Op: 1, Object: impl.Object{Kind: kind, Id: a, A: b, B: c}, Expect: a, Stamp: b})
					wantAnswers(t, impl.Write{Op: 2, Object: impl.Object{Kind: kind, A: c, C: a, D: b}, Expect: c})
				}
				wantAnswers(t, impl.Write{Op: a, Object: impl.Object{Kind: b, Id: c, A: c, B: c, C: c, D: c, Rev: c}, Expect: c, Stamp: c})
			}
		}
	}
}

// wantAnswers asks that a write is encoded just if it has no fault, and is that of its bytes then.
func wantAnswers(t *testing.T, w impl.Write) {
	t.Helper()
	wantCode(t, "ObjectFault", impl.ObjectFault(w.Object))
	fault := impl.WriteFault(w)
	wantCode(t, "WriteFault", fault)
	data := impl.EncodeWrite(w)
	wantZeroBeside(t, data)
	if data.Code != fault {
		t.Errorf("EncodeWrite(%v) has the code %d, not %d", w, data.Code, fault)
	}
	if got := impl.DecodeWrite(data.Bytes); fault == impl.OK && got != (impl.WriteResult{Write: w}) {
		t.Errorf("DecodeWrite of EncodeWrite(%v) = %v", w, got)
	}
}

func TestDecodeWriteAnswersAtEveryArgument(t *testing.T) {
	for n := range 60 {
		for b := range 256 {
			data := bytes.Repeat([]byte{byte(b)}, n)
			got := impl.DecodeWrite(data)
			wantCode(t, "DecodeWrite", got.Code)
			if got.Code != impl.OK && got.Write != (impl.Write{}) {
				t.Errorf("DecodeWrite(%v): there is a write beside a code: %v", data, got)
			}
		}
	}
	if impl.DecodeWrite(nil) != impl.DecodeWrite([]byte{}) || impl.DecodeWrite(nil) != (impl.WriteResult{Code: impl.ErrMany}) {
		t.Error("DecodeWrite of nil is", impl.DecodeWrite(nil), "and of an empty list", impl.DecodeWrite([]byte{}))
	}
}

func TestDecodeWriteChangesNoArgument(t *testing.T) {
	good := impl.EncodeWrite(impl.Write{Op: 2, Object: podByHand(1, 1, 3, 2), Expect: 77, Stamp: 5}).Bytes
	for _, was := range [][]byte{{}, good, good[:16], joined(good, []byte{1}), filled(17)} {
		data := roomy(was)
		got := impl.DecodeWrite(data)
		wantUntouched(t, "DecodeWrite", data, was)
		if again := impl.DecodeWrite(data); again != got {
			t.Errorf("DecodeWrite(%v) = %v, then %v", was, got, again)
		}
	}
}

func TestEncodeWriteAnswersNewMemory(t *testing.T) {
	set := impl.Write{Op: 1, Object: impl.NewSet(1, 2), Expect: 9, Stamp: 4}
	pod := impl.Write{Op: 2, Object: impl.NewPod(2, 5, 20), Expect: 100000}
	first := impl.EncodeWrite(set)
	was := bytes.Clone(first.Bytes)
	second := impl.EncodeWrite(pod)
	scribble(second.Bytes)
	if !bytes.Equal(first.Bytes, was) {
		t.Error("an answer changes with another one")
	}
	scribble(first.Bytes)
	if again := impl.EncodeWrite(set); !bytes.Equal(again.Bytes, was) {
		t.Errorf("EncodeWrite = %v, then %v", was, again.Bytes)
	}
	if got := impl.DecodeWrite(impl.EncodeWrite(pod).Bytes); got != (impl.WriteResult{Write: pod}) {
		t.Error("a write is not read back behind others:", got)
	}
}

func TestAWriteThatWasReadStays(t *testing.T) {
	w := impl.Write{Op: 1, Object: impl.NewLease(2, 9999), Expect: 3, Stamp: 9999}
	data := impl.EncodeWrite(w).Bytes
	got := impl.DecodeWrite(data)
	scribble(data)
	if got != (impl.WriteResult{Write: w}) {
		t.Error("the write changes with its bytes:", got)
	}
}

package tests

import (
	"bytes"
	"math"
	"testing"

	"loop.example/g00730/impl"
)

// The tests of this file are those of promise 3: pods have ids of their own; writes are read back from their bytes.

// everyObject is each object of the Rev 0 that there can be, laid out by the bounds of the document, without the program.
func everyObject() map[impl.Object]bool {
	all := map[impl.Object]bool{}
	for id := range int64(20) {
		for want := range int64(9) {
			all[impl.Object{Kind: 1, Id: id, A: want}] = true
			for done := range int64(9) {
				all[impl.Object{Kind: 2, Id: id, A: want, B: done}] = true
			}
		}
		for state := range int64(3) {
			for index := range int64(16) {
				all[podByHand(1, id, index, state)] = true
			}
			for index := range int64(24) {
				all[podByHand(2, id, index, state)] = true
			}
		}
	}
	for holder := range int64(3) {
		for epoch := int64(1); epoch <= 9999; epoch++ {
			all[impl.Object{Kind: 4, A: holder, B: epoch}] = true
		}
	}
	return all
}

// podByHand has the Id that these numbers would lead to, within their bounds or not.
func podByHand(kind, owner, index, state int64) impl.Object {
	return impl.Object{Kind: 3, Id: 10000*kind + 100*owner + index, A: kind, B: owner, C: index, D: state}
}

// someObjects are of each kind some that stand at the ends of their bounds, and one between.
func someObjects() []impl.Object {
	return []impl.Object{
		{Kind: 1}, {Kind: 1, Id: 19, A: 8}, {Kind: 1, Id: 7, A: 3},
		{Kind: 2}, {Kind: 2, Id: 19, A: 8, B: 8}, {Kind: 2, Id: 3, A: 1, B: 5}, {Kind: 2, Id: 3, A: 5, B: 1},
		podByHand(1, 0, 0, 0), podByHand(1, 19, 15, 2), podByHand(1, 1, 3, 1),
		podByHand(2, 0, 0, 0), podByHand(2, 19, 23, 2), podByHand(2, 4, 16, 1),
		{Kind: 4, B: 1}, {Kind: 4, A: 2, B: 9999}, {Kind: 4, A: 1, B: 500},
	}
}

// sweep are numbers about each bound of this chapter, and such as agree with small ones in their lowest bytes alone.
func sweep() []int64 {
	numbers := extremes()
	for n := int64(-3); n <= 30; n++ {
		numbers = append(numbers, n, n+1<<8, n+1<<16, n+1<<32, n-1<<32)
	}
	for _, n := range []int64{9999, 10000, 10103, 11915, 20000, 21923, 21924, 65535, 100000, 1 << 24, math.MaxInt32} {
		numbers = append(numbers, n-1, n, n+1, -n)
	}
	return numbers
}

// numbersIn are the numbers of an object other than its Kind and Rev.
func numbersIn(o *impl.Object) []*int64 {
	return []*int64{&o.Id, &o.A, &o.B, &o.C, &o.D}
}

func TestObjectNumbersAreThoseOfTheDocument(t *testing.T) {
	if impl.KindSet != 1 || impl.KindJob != 2 || impl.KindPod != 3 || impl.KindLease != 4 {
		t.Error("the kinds are", impl.KindSet, impl.KindJob, impl.KindPod, impl.KindLease)
	}
	if impl.PodLive != 0 || impl.PodDone != 1 || impl.PodFailed != 2 || impl.OpPut != 1 || impl.OpDelete != 2 {
		t.Error("the states and ops are", impl.PodLive, impl.PodDone, impl.PodFailed, impl.OpPut, impl.OpDelete)
	}
	if impl.MaxField != 9999 || impl.MaxRev != 100000 || impl.MaxOwner != 20 || impl.MaxWant != 8 || impl.MaxTry != 3 || impl.MaxReplicas != 3 {
		t.Error("the bounds are", impl.MaxField, impl.MaxRev, impl.MaxOwner, impl.MaxWant, impl.MaxTry, impl.MaxReplicas)
	}
}

func TestPodsHaveIdsOfTheirOwn(t *testing.T) {
	seen := map[int64]bool{}
	for kind, indexes := range map[int64]int64{1: 16, 2: 24} {
		for owner := range int64(20) {
			for index := range indexes {
				got := impl.PodId(kind, owner, index)
				if got != (impl.IntResult{Value: 10000*kind + 100*owner + index}) {
					t.Errorf("PodId(%d, %d, %d) = %v", kind, owner, index, got)
				}
				if seen[got.Value] {
					t.Errorf("PodId(%d, %d, %d) is that of another pod", kind, owner, index)
				}
				seen[got.Value] = true
			}
		}
	}
	if len(seen) != 20*(16+24) {
		t.Error("so many pods have ids:", len(seen))
	}
}

func TestPodIdCodes(t *testing.T) {
	least, most := int64(math.MinInt64), int64(math.MaxInt64)
	for _, c := range []struct{ kind, owner, index, want int64 }{
		{1, 0, 0, impl.OK}, {1, 19, 15, impl.OK}, {2, 0, 0, impl.OK}, {2, 19, 23, impl.OK}, {2, 0, 16, impl.OK},
		{1, 0, 16, impl.ErrRange}, {1, 0, 23, impl.ErrRange}, {2, 0, 24, impl.ErrRange},
		{1, 0, -1, impl.ErrRange}, {2, 0, -1, impl.ErrRange},
		{1, -1, 0, impl.ErrRange}, {2, -1, 0, impl.ErrRange},
		{1, 20, 0, impl.ErrRange}, {2, 20, 0, impl.ErrRange},
		{1, least, 0, impl.ErrRange}, {1, most, 0, impl.ErrRange}, {1, 0, least, impl.ErrRange}, {1, 0, most, impl.ErrRange},
		{2, least, 0, impl.ErrRange}, {2, most, 0, impl.ErrRange}, {2, 0, least, impl.ErrRange}, {2, 0, most, impl.ErrRange},
		{2, -1, 100, impl.ErrRange}, {1, 1, -100, impl.ErrRange},
		{0, 0, 0, impl.ErrForm}, {3, 0, 0, impl.ErrForm}, {4, 0, 0, impl.ErrForm}, {-1, 0, 0, impl.ErrForm},
		{least, 0, 0, impl.ErrForm}, {most, 0, 0, impl.ErrForm}, {1 + 1<<32, 0, 0, impl.ErrForm},
		{0, 20, 0, impl.ErrForm}, {3, 0, -1, impl.ErrForm}, {most, most, most, impl.ErrForm}, {least, least, least, impl.ErrForm},
	} {
		got := impl.PodId(c.kind, c.owner, c.index)
		if got.Code != c.want || got.Code != impl.OK && got.Value != 0 {
			t.Errorf("PodId(%d, %d, %d) = %v, not the code %d", c.kind, c.owner, c.index, got, c.want)
		}
	}
	for _, a := range sweep() {
		for _, b := range sweep() {
			if got := impl.PodId(1, a, b); (got.Code == impl.OK) != (a >= 0 && a < 20 && b >= 0 && b < 16) {
				t.Errorf("PodId(1, %d, %d) = %v", a, b, got)
			}
			if got := impl.PodId(2, a, b); (got.Code == impl.OK) != (a >= 0 && a < 20 && b >= 0 && b < 24) {
				t.Errorf("PodId(2, %d, %d) = %v", a, b, got)
			}
		}
	}
}

func TestNewObjectsHaveTheirNumbers(t *testing.T) {
	for _, a := range sweep() {
		for _, b := range sweep() {
			if got := impl.NewSet(a, b); got != (impl.Object{Kind: 1, Id: a, A: b}) {
				t.Errorf("NewSet(%d, %d) = %v", a, b, got)
			}
			if got := impl.NewLease(a, b); got != (impl.Object{Kind: 4, A: a, B: b}) {
				t.Errorf("NewLease(%d, %d) = %v", a, b, got)
			}
			for _, c := range []int64{math.MinInt64, -1, 0, 8, 23, 24, math.MaxInt64} {
				if got := impl.NewJob(a, b, c); got != (impl.Object{Kind: 2, Id: a, A: b, B: c}) {
					t.Errorf("NewJob(%d, %d, %d) = %v", a, b, c, got)
				}
				want := impl.Object{Kind: 3, Id: impl.PodId(a, b, c).Value, A: a, B: b, C: c}
				if got := impl.NewPod(a, b, c); got != want {
					t.Errorf("NewPod(%d, %d, %d) = %v", a, b, c, got)
				}
			}
		}
	}
	if got := impl.NewPod(2, 4, 16); got != podByHand(2, 4, 16, 0) {
		t.Error("NewPod(2, 4, 16) =", got)
	}
	if got := impl.NewPod(1, 4, 16); got != (impl.Object{Kind: 3, A: 1, B: 4, C: 16}) {
		t.Error("NewPod of an index that there is not =", got)
	}
}

func TestEveryObjectHasNoFault(t *testing.T) {
	for o := range everyObject() {
		for _, rev := range []int64{0, 1, 100000} {
			o.Rev = rev
			if got := impl.ObjectFault(o); got != impl.OK {
				t.Errorf("ObjectFault(%v) = %d", o, got)
			}
		}
		for _, rev := range []int64{math.MinInt64, -1, 100001, math.MaxInt64} {
			o.Rev = rev
			if got := impl.ObjectFault(o); got != impl.ErrRange {
				t.Errorf("ObjectFault(%v) = %d", o, got)
			}
		}
	}
}

// wantFaultOf asks that an object with the Rev 0 has no fault just if there can be one.
func wantFaultOf(t *testing.T, all map[impl.Object]bool, o impl.Object) {
	t.Helper()
	want := int64(impl.OK)
	if o.Kind < 1 || o.Kind > 4 {
		want = impl.ErrForm
	} else if !all[o] {
		want = impl.ErrRange
	}
	if got := impl.ObjectFault(o); got != want {
		t.Errorf("ObjectFault(%v) = %d, not %d", o, got, want)
	}
}

func TestObjectFaultAtEachNumber(t *testing.T) {
	all := everyObject()
	for _, o := range someObjects() {
		for i := range numbersIn(&o) {
			for _, n := range sweep() {
				turned := o
				*numbersIn(&turned)[i] = n
				wantFaultOf(t, all, turned)
				for _, kind := range []int64{1, 2, 3, 4} {
					turned.Kind = kind
					wantFaultOf(t, all, turned)
				}
			}
		}
	}
}

func TestObjectFaultAsksTheKindFirst(t *testing.T) {
	for _, kind := range []int64{math.MinInt64, -1, 0, 5, 6, 1 + 1<<8, 1 + 1<<32, math.MaxInt64} {
		for _, o := range someObjects() {
			o.Kind = kind
			for _, rev := range []int64{0, 1, -1, 100001} {
				o.Rev = rev
				if got := impl.ObjectFault(o); got != impl.ErrForm {
					t.Errorf("ObjectFault(%v) = %d", o, got)
				}
				o.Id++
				if got := impl.ObjectFault(o); got != impl.ErrForm {
					t.Errorf("ObjectFault(%v) = %d", o, got)
				}
			}
		}
	}
	if got := impl.ObjectFault(impl.Object{}); got != impl.ErrForm {
		t.Error("ObjectFault of nothing =", got)
	}
}

// The owner of a pod that is neither a set nor a job is a number that leaves its bounds, not another form: its Kind is right.
func TestObjectFaultOfPods(t *testing.T) {
	all := everyObject()
	for kind := int64(-1); kind <= 5; kind++ {
		for owner := int64(-1); owner <= 20; owner++ {
			for index := int64(-1); index <= 24; index++ {
				for state := int64(-1); state <= 3; state++ {
					o := podByHand(kind, owner, index, state)
					wantFaultOf(t, all, o)
					for _, id := range []int64{0, o.Id - 1, o.Id + 1, o.Id - 100, o.Id + 100, 30000 - o.Id, o.Id + 10000, o.Id - 10000, o.Id + 1<<16} {
						wrong := o
						wrong.Id = id
						wantFaultOf(t, all, wrong)
					}
				}
			}
		}
	}
	for _, c := range []struct {
		what string
		o    impl.Object
	}{
		{"the Id of another owner", impl.Object{Kind: 3, Id: 10203, A: 1, B: 1, C: 3}},
		{"the Id of another index", impl.Object{Kind: 3, Id: 10104, A: 1, B: 1, C: 3}},
		{"the Id of another kind", impl.Object{Kind: 3, Id: 20103, A: 1, B: 1, C: 3}},
		{"no Id", impl.Object{Kind: 3, A: 1, B: 1, C: 3}},
		{"no owner's kind", impl.Object{Kind: 3, Id: 103, B: 1, C: 3}},
		{"a pod as owner", impl.Object{Kind: 3, Id: 30103, A: 3, B: 1, C: 3}},
		{"a pod as owner, and no Id", impl.Object{Kind: 3, A: 3, B: 1, C: 3}},
		{"a set's index that is a job's", podByHand(1, 1, 16, 0)},
		{"an owner behind the last one, an index that makes up for it", impl.Object{Kind: 3, Id: 12000, A: 1, B: 20}},
	} {
		if got := impl.ObjectFault(c.o); got != impl.ErrRange {
			t.Errorf("%s: ObjectFault(%v) = %d", c.what, c.o, got)
		}
	}
}

func TestWritesWithoutFault(t *testing.T) {
	for _, o := range someObjects() {
		for _, stamp := range []int64{0, 1, 5000, 9998, 9999} {
			for _, expect := range []int64{0, 1, 99999, 100000} {
				if got := impl.WriteFault(impl.Write{Op: 1, Object: o, Expect: expect, Stamp: stamp}); got != impl.OK {
					t.Errorf("WriteFault of a put of %v, %d, %d = %d", o, expect, stamp, got)
				}
				want := int64(impl.OK)
				if expect == 0 {
					want = impl.ErrForm
				}
				if got := impl.WriteFault(impl.Write{Op: 2, Object: o, Expect: expect, Stamp: stamp}); got != want {
					t.Errorf("WriteFault of a delete of %v, %d, %d = %d", o, expect, stamp, got)
				}
			}
		}
	}
}

// faultyWrites are writes with the codes that the document tells of them, where several are so the first one.
func faultyWrites() map[impl.Write]int64 {
	least, most := int64(math.MinInt64), int64(math.MaxInt64)
	set, bad, none := impl.NewSet(1, 2), impl.NewSet(20, 2), impl.Object{Kind: 5}
	written, late := set, set
	written.Rev, late.Rev = 1, 100001
	below := set
	below.Rev = -1
	cases := map[impl.Write]int64{
		{}:                                         impl.ErrForm,
		{Object: set}:                              impl.ErrForm,
		{Op: 3, Object: set}:                       impl.ErrForm,
		{Op: -1, Object: set}:                      impl.ErrForm,
		{Op: most, Object: set}:                    impl.ErrForm,
		{Op: least, Object: set}:                   impl.ErrForm,
		{Op: 1 + 256, Object: set}:                 impl.ErrForm,
		{Op: 1, Object: written}:                   impl.ErrForm,
		{Op: 1, Object: late}:                      impl.ErrForm,
		{Op: 1, Object: below}:                     impl.ErrForm,
		{Op: 1, Object: none}:                      impl.ErrForm,
		{Op: 1}:                                    impl.ErrForm,
		{Op: 1, Object: bad}:                       impl.ErrRange,
		{Op: 2, Object: set}:                       impl.ErrForm,
		{Op: 3, Object: bad}:                       impl.ErrForm,
		{Op: 3, Object: set, Expect: -1}:           impl.ErrForm,
		{Op: 3, Object: set, Stamp: -1}:            impl.ErrForm,
		{Op: 1, Object: written, Expect: -1}:       impl.ErrForm,
		{Op: 1, Object: written, Stamp: 10000}:     impl.ErrForm,
		{Op: 1, Object: none, Expect: -1}:          impl.ErrForm,
		{Op: 1, Object: none, Stamp: 10000}:        impl.ErrForm,
		{Op: 2, Object: bad}:                       impl.ErrRange,
		{Op: 2, Object: set, Stamp: 10000}:         impl.ErrRange,
		{Op: 2, Object: set, Stamp: -1}:            impl.ErrRange,
		{Op: 2, Object: set, Expect: -1}:           impl.ErrRange,
		{Op: 2, Object: set, Expect: 100001}:       impl.ErrRange,
		{Op: 2, Object: none, Stamp: 10000}:        impl.ErrForm,
		{Op: 2, Object: set, Stamp: 9999}:          impl.ErrForm,
		{Op: 1, Object: bad, Expect: 1, Stamp: 1}:  impl.ErrRange,
		{Op: 1, Object: set, Expect: -1, Stamp: 1}: impl.ErrRange,
	}
	wrong := bad
	wrong.Rev = 1
	cases[impl.Write{Op: 1, Object: wrong}] = impl.ErrForm
	for _, n := range []int64{least, -1, 100001, 1 << 24, 1<<32 + 1, most} {
		cases[impl.Write{Op: 1, Object: set, Expect: n}] = impl.ErrRange
	}
	for _, n := range []int64{least, -1, 10000, 65536, 1<<32 + 1, most} {
		cases[impl.Write{Op: 1, Object: set, Stamp: n}] = impl.ErrRange
	}
	return cases
}

func TestWriteFaultCodes(t *testing.T) {
	for w, want := range faultyWrites() {
		if got := impl.WriteFault(w); got != want {
			t.Errorf("WriteFault(%v) = %d, not %d", w, got, want)
		}
		if got := impl.EncodeWrite(w); got.Code != want || len(got.Bytes) != 0 {
			t.Errorf("EncodeWrite(%v) = %v, not the code %d", w, got, want)
		}
	}
}

// A write is asked its object's fault as it stands in the write, whatever the kind.
func TestWriteFaultAsksTheObject(t *testing.T) {
	all := everyObject()
	for _, o := range someObjects() {
		for i := range numbersIn(&o) {
			for _, n := range sweep() {
				turned := o
				*numbersIn(&turned)[i] = n
				want := int64(impl.OK)
				if !all[turned] {
					want = impl.ErrRange
				}
				if got := impl.WriteFault(impl.Write{Op: 1, Object: turned}); got != want {
					t.Errorf("WriteFault of a put of %v = %d, not %d", turned, got, want)
				}
			}
		}
	}
}

func TestEncodeWriteLaysTheBytes(t *testing.T) {
	for _, c := range []struct {
		w    impl.Write
		want []byte
	}{
		{impl.Write{Op: 1, Object: impl.Object{Kind: 1, Id: 1, A: 2}},
			[]byte{1, 1, 0, 1, 0, 2, 0, 0, 0, 0, 0, 0, 0, 0, 0, 0, 0}},
		{impl.Write{Op: 2, Object: impl.Object{Kind: 2, Id: 19, A: 8, B: 7}, Expect: 258, Stamp: 3},
			[]byte{2, 2, 0, 19, 0, 8, 0, 7, 0, 0, 0, 0, 0, 1, 2, 0, 3}},
		{impl.Write{Op: 1, Object: podByHand(2, 19, 23, 2), Expect: 100000, Stamp: 9999},
			[]byte{1, 3, 85, 163, 0, 2, 0, 19, 0, 23, 0, 2, 1, 134, 160, 39, 15}},
		{impl.Write{Op: 1, Object: podByHand(1, 0, 0, 1)},
			[]byte{1, 3, 39, 16, 0, 1, 0, 0, 0, 0, 0, 1, 0, 0, 0, 0, 0}},
		{impl.Write{Op: 2, Object: impl.Object{Kind: 4, A: 2, B: 9999}, Expect: 65536, Stamp: 256},
			[]byte{2, 4, 0, 0, 0, 2, 39, 15, 0, 0, 0, 0, 1, 0, 0, 1, 0}},
	} {
		if got := impl.EncodeWrite(c.w); got.Code != impl.OK || !bytes.Equal(got.Bytes, c.want) {
			t.Errorf("EncodeWrite(%v) = %v, not %v", c.w, got, c.want)
		}
		if got := impl.DecodeWrite(c.want); got != (impl.WriteResult{Write: c.w}) {
			t.Errorf("DecodeWrite(%v) = %v, not %v", c.want, got, c.w)
		}
	}
}

func TestWritesAreReadBack(t *testing.T) {
	for o := range everyObject() {
		for _, w := range []impl.Write{
			{Op: 1, Object: o},
			{Op: 1, Object: o, Expect: 100000, Stamp: 9999},
			{Op: 2, Object: o, Expect: 1},
			{Op: 2, Object: o, Expect: 70000, Stamp: 300},
		} {
			data := impl.EncodeWrite(w)
			if data.Code != impl.OK || len(data.Bytes) != 17 {
				t.Fatalf("EncodeWrite(%v) = %v", w, data)
			}
			if got := impl.DecodeWrite(data.Bytes); got != (impl.WriteResult{Write: w}) {
				t.Errorf("DecodeWrite of EncodeWrite(%v) = %v", w, got)
			}
		}
	}
}

func TestDecodeWriteCountsTheBytes(t *testing.T) {
	data := impl.EncodeWrite(impl.Write{Op: 1, Object: impl.NewSet(1, 2)}).Bytes
	long := append(bytes.Clone(data), make([]byte, 300)...)
	for n := range long {
		got := impl.DecodeWrite(long[:n])
		if n == 17 && got.Code != impl.OK || n != 17 && got != (impl.WriteResult{Code: impl.ErrMany}) {
			t.Errorf("DecodeWrite of %d bytes = %v", n, got)
		}
	}
	for _, n := range []int{0, 16, 18} {
		if got := impl.DecodeWrite(bytes.Repeat([]byte{255}, n)); got != (impl.WriteResult{Code: impl.ErrMany}) {
			t.Errorf("DecodeWrite of %d bytes that nothing could be = %v", n, got)
		}
	}
	if got := impl.DecodeWrite(make([]byte, 17)); got != (impl.WriteResult{Code: impl.ErrText}) {
		t.Error("DecodeWrite of 17 zeros =", got)
	}
}

// readByHand is the write that 17 bytes are, and whether there can be one.
func readByHand(all map[impl.Object]bool, d []byte) (impl.Write, bool) {
	two := func(at int) int64 { return 256*int64(d[at]) + int64(d[at+1]) }
	o := impl.Object{Kind: int64(d[1]), Id: two(2), A: two(4), B: two(6), C: two(8), D: two(10)}
	w := impl.Write{Op: int64(d[0]), Object: o, Expect: 65536*int64(d[12]) + two(13), Stamp: two(15)}
	put := w.Op == 1 && w.Expect <= 100000
	gone := w.Op == 2 && w.Expect >= 1 && w.Expect <= 100000
	return w, all[o] && (put || gone) && w.Stamp <= 9999
}

// wantDecoded asks that data is read as by hand, and that what comes has just data as its bytes.
func wantDecoded(t *testing.T, all map[impl.Object]bool, data []byte) {
	t.Helper()
	got := impl.DecodeWrite(data)
	w, can := readByHand(all, data)
	if !can && got != (impl.WriteResult{Code: impl.ErrText}) {
		t.Errorf("DecodeWrite(%v) = %v, and it is none", data, got)
	}
	if can && (got != impl.WriteResult{Write: w} || !bytes.Equal(impl.EncodeWrite(got.Write).Bytes, data)) {
		t.Errorf("DecodeWrite(%v) = %v, not %v", data, got, w)
	}
}

func TestEachByteTurned(t *testing.T) {
	all := everyObject()
	for _, o := range someObjects() {
		for _, w := range []impl.Write{
			{Op: 1, Object: o},
			{Op: 1, Object: o, Expect: 100000, Stamp: 9999},
			{Op: 2, Object: o, Expect: 1},
			{Op: 2, Object: o, Expect: 65536, Stamp: 9984},
		} {
			data := impl.EncodeWrite(w).Bytes
			if len(data) != 17 {
				t.Fatalf("EncodeWrite(%v) = %v", w, data)
			}
			for at := range data {
				for mask := 1; mask <= 255; mask++ {
					turned := bytes.Clone(data)
					turned[at] ^= byte(mask)
					wantDecoded(t, all, turned)
				}
			}
		}
	}
}

func TestTwoBytesTurned(t *testing.T) {
	all := everyObject()
	masks := []byte{1, 2, 3, 8, 39, 64, 128, 255}
	for _, o := range someObjects() {
		data := impl.EncodeWrite(impl.Write{Op: 2, Object: o, Expect: 34464, Stamp: 15}).Bytes
		for at := range data {
			for other := range at {
				for _, a := range masks {
					for _, b := range masks {
						turned := bytes.Clone(data)
						turned[at] ^= a
						turned[other] ^= b
						wantDecoded(t, all, turned)
					}
				}
			}
		}
	}
}

package tests

import (
	"math"
	"slices"
	"testing"

	"loop.example/g00730/impl"
)

// The tests of this file are those of promise 1, of the functions of chapter 3.

// The marks stand in spare memory and are written over answers: no function makes such a thing of its own.
func markObject() impl.Object {
	return impl.Object{Kind: 77, Id: 77, A: 77, B: 77, C: 77, D: 77, Rev: 77}
}

func markChange() impl.Change {
	return impl.Change{Rev: 77, Gone: true, Object: markObject()}
}

func markWrite() impl.Write {
	return impl.Write{Op: 77, Object: markObject(), Expect: 77, Stamp: 77}
}

// spacious is list with spare memory behind it that holds marks: who appends to it without a copy is seen there.
func spacious[T any](list []T, mark T) []T {
	room := slices.Repeat([]T{mark}, len(list)+8)
	copy(room, list)
	return room[:len(list)]
}

func spaciousStore(s impl.Store) impl.Store {
	return impl.Store{Rev: s.Rev, Objects: spacious(s.Objects, markObject()), History: spacious(s.History, markChange())}
}

// overwrite puts marks on all that list can reach, behind its end, too.
func overwrite[T any](list []T, mark T) {
	list = list[:cap(list)]
	for i := range list {
		list[i] = mark
	}
}

func overwriteStore(s impl.Store) {
	overwrite(s.Objects, markObject())
	overwrite(s.History, markChange())
}

// wantKept looks at a list that spacious made, and at its spare memory.
func wantKept[T comparable](t *testing.T, what string, list []T, was []T, mark T) {
	t.Helper()
	if !slices.Equal(list, was) {
		t.Errorf("%s: the argument was changed to %v", what, list)
	}
	for _, x := range list[len(list):cap(list)] {
		if x != mark {
			t.Errorf("%s: something was written behind the argument", what)
			return
		}
	}
}

func wantStoreKept(t *testing.T, what string, s impl.Store, was impl.Store) {
	t.Helper()
	wantKept(t, what, s.Objects, was.Objects, markObject())
	wantKept(t, what, s.History, was.History, markChange())
	if s.Rev != was.Rev {
		t.Errorf("%s: the Rev was changed to %d", what, s.Rev)
	}
}

// p1Writes are taken by the story, or refused for each reason that there is.
func p1Writes() []impl.Write {
	return []impl.Write{
		put(impl.NewSet(0, 1), 0, 0), put(impl.NewSet(1, 1), 1, 0), put(impl.NewSet(19, 1), 0, 0), del(impl.NewSet(1, 2), 1, 0),
		put(impl.NewJob(2, 3, 3), 9, 2), put(podByHand(1, 1, 0, 2), 4, 0), del(podByHand(1, 1, 0, 0), 4, 2), put(podByHand(1, 1, 9, 0), 0, 2),
		put(impl.NewLease(0, 3), 10, 3), put(impl.NewLease(2, 2), 10, 2),
		{}, put(impl.NewSet(0, 9), 0, 0), put(impl.NewSet(0, 1), 7, 0), put(podByHand(1, 1, 9, 0), 0, 0), put(podByHand(1, 1, 9, 0), 0, 1),
	}
}

func p1Stores() []impl.Store {
	list := []impl.Store{{}, storyStore(), fullStore(), storeByHand(100000, crowd(4)...), storeByHand(11, crowd(4)...), storeByHand(12, crowd(12)...)}
	for _, c := range faultyStores() {
		list = append(list, c.s)
	}
	return list
}

// wantStoreAnswers calls all functions of chapter 3 that take a store and a write, and asks that beside a code all else is zero.
func wantStoreAnswers(t *testing.T, s impl.Store, w impl.Write) {
	t.Helper()
	fault := impl.StoreFault(s)
	wantCode(t, "StoreFault", fault)
	found := impl.FindObject(s, impl.Key{Kind: w.Object.Kind, Id: w.Object.Id})
	wantCode(t, "FindObject", found.Code)
	if found.Code != impl.OK && found.Object != (impl.Object{}) || fault != impl.OK && found.Code != fault {
		t.Errorf("FindObject = %v, where the store has the fault %d", found, fault)
	}
	epoch := impl.EpochOf(s)
	if epoch.Code != fault || epoch.Code != impl.OK && epoch.Value != 0 {
		t.Errorf("EpochOf = %v, where the store has the fault %d", epoch, fault)
	}
	code, got := impl.CheckWrite(s, w), impl.ApplyWrite(s, w)
	wantCode(t, "CheckWrite", code)
	if got.Code != code || code != impl.OK && !sameByHand(got.Store, impl.Store{}) || fault != impl.OK && code != fault {
		t.Errorf("ApplyWrite = %v, where CheckWrite = %d and the store has the fault %d", got, code, fault)
	}
	if again := impl.ApplyWrite(s, w); again.Code != got.Code || !sameByHand(again.Store, got.Store) {
		t.Errorf("ApplyWrite = %v, then %v", got, again)
	}
	if !impl.SameStores(s, copied(s)) {
		t.Errorf("SameStores does not know %v again", s)
	}
}

func TestStoreFunctionsAnswerAtEveryArgument(t *testing.T) {
	for _, s := range p1Stores() {
		for _, w := range p1Writes() {
			wantStoreAnswers(t, s, w)
		}
	}
	values := []int64{math.MinInt64, math.MinInt64 + 1, -100001, -1, 0, 1, 13, 9999, 100000, 100001, 1 << 32, math.MaxInt64 - 1, math.MaxInt64}
	w := put(impl.NewSet(1, 1), 1, 0)
	numbers := append(numbersIn(&w.Object), &w.Op, &w.Object.Kind, &w.Object.Rev, &w.Expect, &w.Stamp)
	for _, n := range values {
		s := storyStore()
		for _, number := range numbersOfStore(&s) {
			was := *number
			*number = n
			wantStoreAnswers(t, s, put(impl.NewSet(1, 1), 1, 0))
			wantStoreAnswers(t, s, put(impl.NewLease(n, n), 10, n))
			*number = was
		}
		for _, number := range numbers {
			was := *number
			*number = n
			for _, s := range p1Stores()[:6] {
				wantStoreAnswers(t, s, w)
			}
			*number = was
		}
		all := impl.Object{Kind: n, Id: n, A: n, B: n, C: n, D: n, Rev: n}
		wantStoreAnswers(t, impl.Store{Rev: n, Objects: []impl.Object{all}, History: []impl.Change{{Rev: n, Object: all}}}, impl.Write{Op: n, Object: all, Expect: n, Stamp: n})
	}
	wantStoreAnswers(t, impl.Store{Objects: make([]impl.Object, 5000), History: make([]impl.Change, 5000)}, impl.Write{})
	wantNoReplay(t, make([]impl.Write, 100000), impl.ErrMany)
}

func TestNilIsAnEmptyStore(t *testing.T) {
	for _, rev := range []int64{-1, 0, 1, 100000, 100001} {
		none := impl.Store{Rev: rev}
		for _, empty := range []impl.Store{
			{Rev: rev, Objects: []impl.Object{}, History: []impl.Change{}},
			{Rev: rev, Objects: []impl.Object{}},
			{Rev: rev, History: []impl.Change{}},
			spaciousStore(none),
		} {
			if impl.StoreFault(none) != impl.StoreFault(empty) || impl.FindObject(none, impl.Key{Kind: 1}) != impl.FindObject(empty, impl.Key{Kind: 1}) || impl.EpochOf(none) != impl.EpochOf(empty) || !impl.SameStores(none, empty) || !impl.SameStores(empty, none) {
				t.Errorf("at the Rev %d nil is answered otherwise than an empty list", rev)
			}
			for _, w := range p1Writes() {
				a, b := impl.ApplyWrite(none, w), impl.ApplyWrite(empty, w)
				if impl.CheckWrite(none, w) != impl.CheckWrite(empty, w) || a.Code != b.Code || !sameByHand(a.Store, b.Store) {
					t.Errorf("at the Rev %d ApplyWrite of %v = %v of nil, %v of an empty list", rev, w, a, b)
				}
			}
		}
	}
	if impl.StoreFault(impl.Store{}) != impl.OK || impl.StoreFault(impl.Store{Rev: 1}) != impl.ErrState {
		t.Error("nil is not answered as an empty list is")
	}
	wantReplayed(t, nil, impl.Store{})
	wantReplayed(t, []impl.Write{}, impl.Store{})
}

func TestStoreFunctionsChangeNoArgument(t *testing.T) {
	for _, was := range p1Stores() {
		s, other := spaciousStore(was), spaciousStore(was)
		for _, w := range p1Writes() {
			impl.StoreFault(s)
			impl.FindObject(s, impl.Key{Kind: w.Object.Kind, Id: w.Object.Id})
			impl.EpochOf(s)
			impl.CheckWrite(s, w)
			impl.ApplyWrite(s, w)
			impl.SameStores(s, other)
		}
		wantStoreKept(t, "a store", s, was)
		wantStoreKept(t, "another store", other, was)
	}
	for _, was := range [][]impl.Write{nil, {}, storyWrites(), longWrites(300), longWrites(301), p1Writes()} {
		list := spacious(was, markWrite())
		impl.ReplayWrites(list)
		wantKept(t, "ReplayWrites", list, was, markWrite())
	}
}

func TestStoreAnswersAreNewMemory(t *testing.T) {
	for _, was := range p1Stores()[:6] {
		for _, w := range p1Writes() {
			s := spaciousStore(was)
			got := impl.ApplyWrite(s, w)
			want := copied(got.Store)
			overwriteStore(s)
			if !sameByHand(got.Store, want) {
				t.Errorf("ApplyWrite of %v: the answer changes with the argument", w)
			}
			s = spaciousStore(was)
			got = impl.ApplyWrite(s, w)
			overwriteStore(got.Store)
			wantStoreKept(t, "ApplyWrite, its answer written into", s, was)
			if again := impl.ApplyWrite(s, w); !sameByHand(again.Store, want) {
				t.Errorf("ApplyWrite of %v: the second answer is %v, not %v", w, again.Store, want)
			}
		}
	}
}

func TestObjectsShareNoMemoryWithHistory(t *testing.T) {
	for _, s := range p1Stores()[:6] {
		for _, w := range p1Writes() {
			got, want := impl.ApplyWrite(s, w).Store, impl.ApplyWrite(s, w).Store
			overwrite(got.Objects, markObject())
			if !slices.Equal(got.History, want.History) {
				t.Errorf("ApplyWrite of %v: the history changes with the objects", w)
			}
			got = copied(want)
			overwrite(want.History, markChange())
			if !slices.Equal(got.Objects, want.Objects) {
				t.Errorf("ApplyWrite of %v: the objects change with the history", w)
			}
		}
	}
}

func TestReplayAnswersAreNewMemory(t *testing.T) {
	for _, was := range [][]impl.Write{storyWrites(), longWrites(1), longWrites(13), longWrites(300)} {
		list := spacious(was, markWrite())
		first, second := impl.ReplayWrites(list).Store, impl.ReplayWrites(list).Store
		want := copied(first)
		overwriteStore(second)
		wantKept(t, "ReplayWrites, its answer written into", list, was, markWrite())
		overwrite(list, markWrite())
		if !sameByHand(first, want) {
			t.Error("ReplayWrites: the answer changes with the argument, or with another answer")
		}
		overwriteStore(first)
		if again := impl.ReplayWrites(was); again.Code != impl.OK || !sameByHand(again.Store, want) {
			t.Errorf("ReplayWrites: the second answer is %v, not %v", again.Store, want)
		}
	}
}

func TestAFoundObjectStays(t *testing.T) {
	s := storyStore()
	got, epoch := impl.FindObject(s, impl.Key{Kind: 4}), impl.EpochOf(s)
	overwriteStore(s)
	if got != (impl.ObjectResult{Object: impl.Object{Kind: 4, A: 2, B: 2, Rev: 10}}) || epoch != (impl.IntResult{Value: 2}) {
		t.Error("what was found changes with the store:", got, epoch)
	}
}

func TestStoreAnswersHangOnTheArgumentsAlone(t *testing.T) {
	for _, s := range p1Stores() {
		for _, w := range p1Writes() {
			code, got, found := impl.CheckWrite(s, w), impl.ApplyWrite(s, w), impl.FindObject(s, impl.Key{Kind: 1, Id: 1})
			want := copied(got.Store)
			overwriteStore(got.Store)
			impl.ReplayWrites(storyWrites())
			impl.ApplyWrite(fullStore(), put(impl.NewSet(1, 8), 2, 0))
			impl.StoreFault(impl.Store{Rev: -1})
			again := impl.ApplyWrite(s, w)
			if again.Code != got.Code || !sameByHand(again.Store, want) || impl.CheckWrite(s, w) != code || impl.FindObject(s, impl.Key{Kind: 1, Id: 1}) != found {
				t.Errorf("of %v and %v the second answer is another one", s, w)
			}
		}
	}
}

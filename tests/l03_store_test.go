package tests

import (
	"math"
	"slices"
	"testing"

	"loop.example/g00730/impl"
)

// The tests of this file are those of promise 4: what a store is, which writes it takes, and what becomes of it.

func put(o impl.Object, expect, stamp int64) impl.Write {
	return impl.Write{Op: 1, Object: o, Expect: expect, Stamp: stamp}
}

func del(o impl.Object, expect, stamp int64) impl.Write {
	return impl.Write{Op: 2, Object: o, Expect: expect, Stamp: stamp}
}

func at(o impl.Object, rev int64) impl.Object {
	o.Rev = rev
	return o
}

// historyByHand is a whole history of a store at rev, each change of a set of its own making.
func historyByHand(rev int64) []impl.Change {
	list := []impl.Change{}
	for n := max(rev-11, 1); n <= rev; n++ {
		list = append(list, impl.Change{Rev: n, Gone: n%3 == 0, Object: at(impl.NewSet(n%20, n%9), n)})
	}
	return list
}

func storeByHand(rev int64, objects ...impl.Object) impl.Store {
	return impl.Store{Rev: rev, Objects: objects, History: historyByHand(rev)}
}

// copied shares no memory with s.
func copied(s impl.Store) impl.Store {
	return impl.Store{Rev: s.Rev, Objects: slices.Clone(s.Objects), History: slices.Clone(s.History)}
}

// sameByHand has no difference between nil and an empty list.
func sameByHand(a, b impl.Store) bool {
	return a.Rev == b.Rev && slices.Equal(a.Objects, b.Objects) && slices.Equal(a.History, b.History)
}

// storyWrites lead, one after the other, to storyStore.
func storyWrites() []impl.Write {
	return []impl.Write{
		put(impl.NewSet(1, 2), 0, 0),
		put(impl.NewJob(2, 3, 0), 0, 0),
		put(impl.NewLease(1, 1), 0, 1),
		put(podByHand(1, 1, 0, 0), 0, 1),
		put(podByHand(2, 2, 0, 0), 0, 1),
		put(podByHand(1, 1, 1, 0), 0, 1),
		put(podByHand(1, 1, 1, 1), 6, 0),
		put(podByHand(2, 2, 0, 2), 5, 0),
		put(impl.NewJob(2, 3, 1), 2, 1),
		put(impl.NewLease(2, 2), 3, 2),
		put(impl.NewSet(4, 1), 0, 0),
		del(impl.NewSet(4, 1), 11, 0),
		put(podByHand(1, 1, 2, 0), 0, 2),
		del(podByHand(1, 1, 2, 0), 13, 2),
	}
}

// storyStore is written out, so that no function of the program has a hand in it: its live pod is 10100, its done one 10101, its failed one 20200.
func storyStore() impl.Store {
	return impl.Store{
		Rev: 14,
		Objects: []impl.Object{
			{Kind: 1, Id: 1, A: 2, Rev: 1},
			{Kind: 2, Id: 2, A: 3, B: 1, Rev: 9},
			{Kind: 3, Id: 10100, A: 1, B: 1, Rev: 4},
			{Kind: 3, Id: 10101, A: 1, B: 1, C: 1, D: 1, Rev: 7},
			{Kind: 3, Id: 20200, A: 2, B: 2, D: 2, Rev: 8},
			{Kind: 4, A: 2, B: 2, Rev: 10},
		},
		History: []impl.Change{
			{Rev: 3, Object: impl.Object{Kind: 4, A: 1, B: 1, Rev: 3}},
			{Rev: 4, Object: impl.Object{Kind: 3, Id: 10100, A: 1, B: 1, Rev: 4}},
			{Rev: 5, Object: impl.Object{Kind: 3, Id: 20200, A: 2, B: 2, Rev: 5}},
			{Rev: 6, Object: impl.Object{Kind: 3, Id: 10101, A: 1, B: 1, C: 1, Rev: 6}},
			{Rev: 7, Object: impl.Object{Kind: 3, Id: 10101, A: 1, B: 1, C: 1, D: 1, Rev: 7}},
			{Rev: 8, Object: impl.Object{Kind: 3, Id: 20200, A: 2, B: 2, D: 2, Rev: 8}},
			{Rev: 9, Object: impl.Object{Kind: 2, Id: 2, A: 3, B: 1, Rev: 9}},
			{Rev: 10, Object: impl.Object{Kind: 4, A: 2, B: 2, Rev: 10}},
			{Rev: 11, Object: impl.Object{Kind: 1, Id: 4, A: 1, Rev: 11}},
			{Rev: 12, Gone: true, Object: impl.Object{Kind: 1, Id: 4, A: 1, Rev: 12}},
			{Rev: 13, Object: impl.Object{Kind: 3, Id: 10102, A: 1, B: 1, C: 2, Rev: 13}},
			{Rev: 14, Gone: true, Object: impl.Object{Kind: 3, Id: 10102, A: 1, B: 1, C: 2, Rev: 14}},
		},
	}
}

// crowd is n objects, at most 81, that rise and have the Revs 1 to n: up to 20 sets, 20 jobs, 40 pods, and at last the lease.
func crowd(n int) []impl.Object {
	list := []impl.Object{}
	for id := range int64(20) {
		list = append(list, impl.NewSet(id, 1))
	}
	for id := range int64(20) {
		list = append(list, impl.NewJob(id, 1, 0))
	}
	for id := range int64(20) {
		list = append(list, podByHand(1, id, 0, 0), podByHand(1, id, 1, 0))
	}
	list = append(list, impl.NewLease(0, 1))[:n]
	for i := range list {
		list[i].Rev = int64(i) + 1
	}
	return list
}

// fullStore has 60 objects: 20 sets, 20 jobs, the 19 pods from 10000 to 10900, and the lease of the replica 0.
func fullStore() impl.Store {
	objects := append(crowd(59), at(impl.NewLease(0, 1), 60))
	return storeByHand(60, objects...)
}

func TestStoreNumbersAreThoseOfTheDocument(t *testing.T) {
	if impl.MaxObjects != 60 || impl.MaxHistory != 12 {
		t.Error("the bounds are", impl.MaxObjects, impl.MaxHistory)
	}
}

func TestStoresWithoutFault(t *testing.T) {
	for what, s := range map[string]impl.Store{
		"nothing":               {},
		"empty lists":           {Objects: []impl.Object{}, History: []impl.Change{}},
		"the story":             storyStore(),
		"60 objects":            fullStore(),
		"one change":            storeByHand(1),
		"11 changes":            storeByHand(11),
		"12 changes, the first": storeByHand(12),
		"12 changes, and one that is there no more": storeByHand(13),
		"the last Rev":                                 storeByHand(100000),
		"the last Rev, and an object of it":            storeByHand(100000, at(impl.NewSet(0, 1), 100000)),
		"an object of the first Rev, and one of the 5": storeByHand(5, at(impl.NewSet(0, 1), 1), at(impl.NewSet(1, 1), 5)),
		"Revs that fall":                               storeByHand(5, at(impl.NewSet(0, 1), 5), at(impl.NewSet(1, 1), 4), at(impl.NewJob(0, 1, 0), 1)),
		"the Kind counts ahead of the Id":              storeByHand(5, at(impl.NewSet(19, 1), 1), at(impl.NewJob(0, 1, 0), 2), at(podByHand(2, 19, 23, 2), 3), at(impl.NewLease(0, 1), 4)),
	} {
		if got := impl.StoreFault(s); got != impl.OK {
			t.Errorf("%s: StoreFault = %d", what, got)
		}
	}
}

// faultyList are objects at a rev, as a store or a cache has them.
type faultyList struct {
	what    string
	rev     int64
	objects []impl.Object
	want    int64
}

// faultyLists have each one fault, or several, of which the first one counts.
func faultyLists() []faultyList {
	set, later := at(impl.NewSet(3, 1), 1), at(impl.NewSet(4, 1), 2)
	job, none, bad := at(impl.NewJob(2, 1, 0), 3), at(impl.Object{Kind: 5}, 1), at(impl.NewSet(5, 9), 1)
	many := crowd(61)
	listed := func(objects ...impl.Object) []impl.Object { return objects }
	return []faultyList{
		{"61 objects", 80, many, impl.ErrMany},
		{"81 objects", 81, crowd(81), impl.ErrMany},
		{"61 objects, the first has a fault", 80, append(listed(none), many[:60]...), impl.ErrMany},
		{"61 objects that do not rise", 80, append(many[1:61:61], many[0]), impl.ErrMany},
		{"an object of no Kind", 5, listed(none), impl.ErrForm},
		{"an object of no Kind and no Rev", 5, listed(impl.Object{}), impl.ErrForm},
		{"an object out of its bounds", 5, listed(bad), impl.ErrRange},
		{"an object without a Rev", 5, listed(at(set, 0)), impl.ErrRange},
		{"an object of a Rev below", 5, listed(at(set, -1)), impl.ErrRange},
		{"an object of a Rev to come", 5, listed(at(set, 6)), impl.ErrRange},
		{"an object of the Rev 1 where none was", 0, listed(set), impl.ErrRange},
		{"the second object of a Rev to come", 5, listed(set, at(later, 6)), impl.ErrRange},
		{"out of its bounds, then of no Kind", 5, listed(bad, none), impl.ErrRange},
		{"of no Kind, then out of its bounds", 5, listed(none, bad), impl.ErrForm},
		{"a Rev to come, then of no Kind", 5, listed(at(set, 6), none), impl.ErrRange},
		{"of no Kind, then a Rev to come", 5, listed(none, at(set, 6)), impl.ErrForm},
		{"two of the same Kind and Id", 5, listed(set, set), impl.ErrForm},
		{"two of the same Kind and Id, all else other", 5, listed(set, at(impl.NewSet(3, 7), 4)), impl.ErrForm},
		{"the wrong way round by Id", 5, listed(later, set), impl.ErrForm},
		{"the wrong way round by Kind", 5, listed(job, set), impl.ErrForm},
		{"the wrong way round by Kind, not by Id", 5, listed(job, later), impl.ErrForm},
		{"the last two the wrong way round", 5, listed(set, at(podByHand(1, 3, 0, 0), 2), job), impl.ErrForm},
		{"they do not rise, then out of its bounds", 5, listed(later, set, bad), impl.ErrRange},
		{"they do not rise, then of no Kind", 5, listed(later, set, none), impl.ErrForm},
		{"they do not rise, then a Rev to come", 5, listed(set, set, at(job, 6)), impl.ErrRange},
	}
}

type faultyStore struct {
	what string
	s    impl.Store
	want int64
}

// turned is a store in which something was turned.
func turned(s impl.Store, turn func(s *impl.Store)) impl.Store {
	s = copied(s)
	turn(&s)
	return s
}

// faultyStores have each one fault, or several, of which the first one counts.
func faultyStores() []faultyStore {
	least, most := int64(math.MinInt64), int64(math.MaxInt64)
	set, later := at(impl.NewSet(3, 1), 1), at(impl.NewSet(4, 1), 2)
	none, bad := at(impl.Object{Kind: 5}, 1), at(impl.NewSet(5, 9), 1)
	list := []faultyStore{
		{"13 changes", turned(storeByHand(13), func(s *impl.Store) { s.History = append(historyByHand(1), s.History...) }), impl.ErrMany},
		{"13 changes, and an object with a fault", impl.Store{Rev: 13, Objects: []impl.Object{none}, History: make([]impl.Change, 13)}, impl.ErrMany},
		{"500 changes of nothing", impl.Store{History: make([]impl.Change, 500)}, impl.ErrMany},
		{"a Rev below, and 61 objects", impl.Store{Rev: -1, Objects: crowd(61)}, impl.ErrRange},
		{"a Rev beyond, and 13 changes", impl.Store{Rev: 100001, History: make([]impl.Change, 13)}, impl.ErrRange},
		{"a Rev below, and an object of no Kind", impl.Store{Rev: -1, Objects: []impl.Object{none}}, impl.ErrRange},
		{"they do not rise, and no changes", impl.Store{Rev: 5, Objects: []impl.Object{later, set}}, impl.ErrForm},
		{"an object out of its bounds, and no changes", impl.Store{Rev: 5, Objects: []impl.Object{set, bad}}, impl.ErrRange},
		{"no changes", impl.Store{Rev: 5, Objects: []impl.Object{set}}, impl.ErrState},
	}
	for _, l := range faultyLists() {
		list = append(list, faultyStore{l.what, storeByHand(l.rev, l.objects...), l.want})
	}
	for _, rev := range []int64{least, -100000, -1, 100001, 1 << 32, most} {
		list = append(list, faultyStore{"a Rev out of its bounds", impl.Store{Rev: rev}, impl.ErrRange})
		list = append(list, faultyStore{"a Rev out of its bounds, and changes", turned(storyStore(), func(s *impl.Store) { s.Rev = rev }), impl.ErrRange})
	}
	return append(list, faultyHistories()...)
}

// fromTheRev0 has one change too many: none was written at the Rev 0.
func fromTheRev0() impl.Store {
	return turned(storeByHand(11), func(s *impl.Store) {
		s.History = append([]impl.Change{{Object: impl.NewSet(0, 1)}}, s.History...)
	})
}

func faultyHistories() []faultyStore {
	list := []faultyStore{
		{"a change at first", impl.Store{History: []impl.Change{{Rev: 1, Object: at(impl.NewSet(0, 1), 1)}}}, impl.ErrState},
		{"a change of the Rev 0", impl.Store{History: []impl.Change{{Object: impl.NewSet(0, 1)}}}, impl.ErrState},
		{"12 changes at the Rev 11, the first one of the Rev 0", fromTheRev0(), impl.ErrState},
		{"12 changes at the Rev 11, the first one of the Rev 0 and gone", turned(fromTheRev0(), func(s *impl.Store) { s.History[0].Gone = true }), impl.ErrState},
		{"12 changes at the Rev 11, the first one of the Rev 0, and an object", turned(fromTheRev0(), func(s *impl.Store) { s.Objects = []impl.Object{at(impl.NewSet(0, 1), 11)} }), impl.ErrState},
		{"12 changes of nothing", impl.Store{Rev: 12, History: make([]impl.Change, 12)}, impl.ErrState},
		{"12 changes up to the Rev 3", turned(storeByHand(3), func(s *impl.Store) {
			for rev := int64(0); rev >= -8; rev-- {
				s.History = append([]impl.Change{{Rev: rev, Object: at(impl.NewSet(0, 1), rev)}}, s.History...)
			}
		}), impl.ErrState},
		{"a Rev beyond that of the last change", turned(storyStore(), func(s *impl.Store) { s.Rev++ }), impl.ErrState},
		{"a Rev below that of the last change", turned(storyStore(), func(s *impl.Store) { s.Rev-- }), impl.ErrState},
		{"the first Rev is left out", turned(storeByHand(5), func(s *impl.Store) { s.History = s.History[1:] }), impl.ErrState},
		{"the last Rev is left out", turned(storeByHand(5), func(s *impl.Store) { s.History = s.History[:4] }), impl.ErrState},
		{"a Rev between is left out", turned(storyStore(), func(s *impl.Store) { s.History = slices.Delete(s.History, 5, 6) }), impl.ErrState},
		{"a Rev between is left out of 12", turned(storyStore(), func(s *impl.Store) {
			first := impl.Change{Rev: 2, Object: at(impl.NewSet(0, 1), 2)}
			s.History = append([]impl.Change{first}, slices.Delete(s.History, 5, 6)...)
		}), impl.ErrState},
		{"11 changes where there would be 12", turned(storyStore(), func(s *impl.Store) { s.History = s.History[1:] }), impl.ErrState},
		{"11 changes at the Rev 12", turned(storeByHand(12), func(s *impl.Store) { s.History = s.History[1:] }), impl.ErrState},
		{"the wrong way round", turned(storyStore(), func(s *impl.Store) { slices.Reverse(s.History) }), impl.ErrState},
		{"two the wrong way round", turned(storyStore(), func(s *impl.Store) { s.History[3], s.History[4] = s.History[4], s.History[3] }), impl.ErrState},
	}
	for i := range storyStore().History {
		for what, turn := range map[string]func(c *impl.Change){
			"another Rev, and its Object, too": func(c *impl.Change) { c.Rev--; c.Object.Rev-- },
			"another Rev than its Object":      func(c *impl.Change) { c.Rev++ },
			"an Object of another Rev":         func(c *impl.Change) { c.Object.Rev-- },
			"an Object of no Rev":              func(c *impl.Change) { c.Object.Rev = 0 },
			"an Object of no Kind":             func(c *impl.Change) { c.Object.Kind = 5 },
			"an Object out of its bounds":      func(c *impl.Change) { c.Object.A = 9 },
			"an Object that was nothing":       func(c *impl.Change) { c.Object = impl.Object{Rev: c.Rev} },
		} {
			list = append(list, faultyStore{what, turned(storyStore(), func(s *impl.Store) { turn(&s.History[i]) }), impl.ErrState})
		}
	}
	return list
}

func TestStoreFaultCodes(t *testing.T) {
	for _, c := range faultyStores() {
		if got := impl.StoreFault(c.s); got != c.want {
			t.Errorf("%s: StoreFault(%v) = %d, not %d", c.what, c.s, got, c.want)
		}
	}
}

// A change that is gone is asked just as one that was put.
func TestStoreFaultAsksGoneChangesToo(t *testing.T) {
	for i := range storyStore().History {
		for _, gone := range []bool{false, true} {
			s := turned(storyStore(), func(s *impl.Store) { s.History[i].Gone = gone })
			if got := impl.StoreFault(s); got != impl.OK {
				t.Errorf("change %d: StoreFault = %d", i, got)
			}
			s.History[i].Object.Id = 20
			if got := impl.StoreFault(s); got != impl.ErrState {
				t.Errorf("change %d with a fault: StoreFault = %d", i, got)
			}
		}
	}
}

// objectsFaultByHand is the code of the objects of a store, or of a cache, at rev.
func objectsFaultByHand(list []impl.Object, rev int64) int64 {
	for _, o := range list {
		if fault := impl.ObjectFault(o); fault != 0 {
			return fault
		}
		if o.Rev < 1 || o.Rev > rev {
			return impl.ErrRange
		}
	}
	for i, o := range list {
		for _, ahead := range list[:i] {
			if ahead.Kind > o.Kind || ahead.Kind == o.Kind && ahead.Id >= o.Id {
				return impl.ErrForm
			}
		}
	}
	return 0
}

// storeFaultByHand goes along the document line by line.
func storeFaultByHand(s impl.Store) int64 {
	if s.Rev < 0 || s.Rev > 100000 {
		return impl.ErrRange
	}
	if len(s.Objects) > 60 || len(s.History) > 12 {
		return impl.ErrMany
	}
	if fault := objectsFaultByHand(s.Objects, s.Rev); fault != 0 {
		return fault
	}
	for i, c := range s.History {
		last := i == len(s.History)-1
		if impl.ObjectFault(c.Object) != 0 || c.Object.Rev != c.Rev || c.Rev < 1 || last && c.Rev != s.Rev || i > 0 && c.Rev != s.History[i-1].Rev+1 {
			return impl.ErrState
		}
	}
	if len(s.History) < 12 && int64(len(s.History)) != s.Rev {
		return impl.ErrState
	}
	return 0
}

// numbersOfStore are all int64 fields of a store.
func numbersOfStore(s *impl.Store) []*int64 {
	numbers := []*int64{&s.Rev}
	add := func(o *impl.Object) { numbers = append(numbers, append(numbersIn(o), &o.Kind, &o.Rev)...) }
	for i := range s.Objects {
		add(&s.Objects[i])
	}
	for i := range s.History {
		numbers = append(numbers, &s.History[i].Rev)
		add(&s.History[i].Object)
	}
	return numbers
}

func TestStoreFaultAtEachNumber(t *testing.T) {
	values := append(sweep(), math.MinInt64, math.MaxInt64)
	for _, was := range []impl.Store{{}, storyStore(), storeByHand(3, at(impl.NewSet(0, 1), 3)), storeByHand(100000, crowd(3)...)} {
		s := copied(was)
		for i, number := range numbersOfStore(&s) {
			ahead := *number
			for _, n := range values {
				*number = n
				if got, want := impl.StoreFault(s), storeFaultByHand(s); got != want {
					t.Errorf("number %d of the store turned from %d to %d: StoreFault = %d, not %d", i, ahead, n, got, want)
				}
			}
			*number = ahead
		}
	}
}

func TestFindObject(t *testing.T) {
	for _, s := range []impl.Store{{}, storyStore(), fullStore(), storeByHand(100000, at(impl.NewSet(0, 1), 100000))} {
		for kind := int64(-1); kind <= 5; kind++ {
			for _, id := range sweep() {
				want := impl.ObjectResult{Code: impl.ErrNone}
				for _, o := range s.Objects {
					if o.Kind == kind && o.Id == id {
						want = impl.ObjectResult{Object: o}
					}
				}
				if got := impl.FindObject(s, impl.Key{Kind: kind, Id: id}); got != want {
					t.Errorf("FindObject of %d, %d = %v, not %v", kind, id, got, want)
				}
			}
		}
	}
	s := storyStore()
	if got := impl.FindObject(s, impl.Key{Kind: 3, Id: 10101}); got != (impl.ObjectResult{Object: impl.Object{Kind: 3, Id: 10101, A: 1, B: 1, C: 1, D: 1, Rev: 7}}) {
		t.Error("FindObject of the pod that is done =", got)
	}
	// These went, and are in the history alone.
	for _, k := range []impl.Key{{Kind: 1, Id: 4}, {Kind: 3, Id: 10102}, {}, {Kind: math.MinInt64, Id: math.MaxInt64}} {
		if got := impl.FindObject(s, k); got != (impl.ObjectResult{Code: impl.ErrNone}) {
			t.Errorf("FindObject of %v = %v", k, got)
		}
	}
}

func TestEpochOf(t *testing.T) {
	lease := func(holder, epoch int64) impl.Store { return storeByHand(7, at(impl.NewLease(holder, epoch), 7)) }
	for _, c := range []struct {
		s    impl.Store
		want int64
	}{
		{impl.Store{}, 0}, {storeByHand(5), 0}, {storeByHand(60, crowd(60)...), 0},
		{storeByHand(5, at(impl.NewJob(0, 8, 7), 2)), 0}, {storeByHand(5, at(podByHand(1, 9, 0, 0), 2)), 0},
		{storyStore(), 2}, {fullStore(), 1}, {lease(0, 1), 1}, {lease(2, 9999), 9999}, {lease(1, 500), 500},
	} {
		if got := impl.EpochOf(c.s); got != (impl.IntResult{Value: c.want}) {
			t.Errorf("EpochOf(%v) = %v, not %d", c.s, got, c.want)
		}
	}
}

func TestTheStoreFaultIsAskedFirst(t *testing.T) {
	for _, c := range faultyStores() {
		for _, k := range []impl.Key{{Kind: 1, Id: 1}, {Kind: 4}, {Kind: 9}} {
			if got := impl.FindObject(c.s, k); got != (impl.ObjectResult{Code: c.want}) {
				t.Errorf("%s: FindObject of %v = %v", c.what, k, got)
			}
		}
		if got := impl.EpochOf(c.s); got != (impl.IntResult{Code: c.want}) {
			t.Errorf("%s: EpochOf = %v", c.what, got)
		}
		for _, w := range []impl.Write{{}, put(impl.NewSet(0, 9), 0, 0), put(impl.NewSet(0, 2), 0, 0), put(impl.NewSet(0, 2), 7, 0), put(impl.NewSet(0, 2), 0, 77)} {
			wantRefused(t, c.what, c.s, w, c.want)
		}
	}
}

// wantRefused asks that a write is told the code, and nothing else.
func wantRefused(t *testing.T, what string, s impl.Store, w impl.Write, want int64) {
	t.Helper()
	if got := impl.CheckWrite(s, w); got != want {
		t.Errorf("%s: CheckWrite of %v = %d, not %d", what, w, got, want)
	}
	if got := impl.ApplyWrite(s, w); got.Code != want || !sameByHand(got.Store, impl.Store{}) {
		t.Errorf("%s: ApplyWrite of %v = %v, not just the code %d", what, w, got, want)
	}
}

// objectsAfter are the objects of list, but for the one of the change, which is at its place or is gone.
func objectsAfter(list []impl.Object, c impl.Change) []impl.Object {
	o, after, place := c.Object, []impl.Object{}, 0
	for _, other := range list {
		if other.Kind != o.Kind || other.Id != o.Id {
			after = append(after, other)
		}
		if other.Kind < o.Kind || other.Kind == o.Kind && other.Id < o.Id {
			place++
		}
	}
	if c.Gone {
		return after
	}
	return slices.Insert(after, place, o)
}

// afterByHand is the store behind a write that is taken.
func afterByHand(s impl.Store, w impl.Write) impl.Store {
	o := at(w.Object, s.Rev+1)
	c := impl.Change{Rev: o.Rev, Gone: w.Op == 2, Object: o}
	after := impl.Store{Rev: c.Rev, Objects: objectsAfter(s.Objects, c), History: append(slices.Clone(s.History), c)}
	if len(after.History) == 13 {
		after.History = after.History[1:]
	}
	return after
}

// wantTaken asks that a write is taken, and that the store behind it is that ahead of it, but for the object, its change and the Rev.
func wantTaken(t *testing.T, what string, s impl.Store, w impl.Write) impl.Store {
	t.Helper()
	if got := impl.CheckWrite(s, w); got != impl.OK {
		t.Errorf("%s: CheckWrite of %v = %d", what, w, got)
	}
	got := impl.ApplyWrite(s, w)
	if want := afterByHand(s, w); got.Code != impl.OK || !sameByHand(got.Store, want) {
		t.Errorf("%s: ApplyWrite of %v = %v, not %v", what, w, got, want)
	}
	if fault := impl.StoreFault(got.Store); fault != impl.OK {
		t.Errorf("%s: behind %v the store has the fault %d", what, w, fault)
	}
	found := impl.FindObject(got.Store, impl.Key{Kind: w.Object.Kind, Id: w.Object.Id})
	if w.Op == 1 && found != (impl.ObjectResult{Object: at(w.Object, s.Rev+1)}) || w.Op == 2 && found != (impl.ObjectResult{Code: impl.ErrNone}) {
		t.Errorf("%s: behind %v there is %v", what, w, found)
	}
	return got.Store
}

type gateCase struct {
	what string
	w    impl.Write
	want int64
}

func wantGate(t *testing.T, s impl.Store, cases []gateCase) {
	t.Helper()
	for _, c := range cases {
		if c.want == impl.OK {
			wantTaken(t, c.what, s, c.w)
		} else {
			wantRefused(t, c.what, s, c.w, c.want)
		}
	}
}

func TestTheFirstLease(t *testing.T) {
	for _, s := range []impl.Store{{}, storeByHand(3, crowd(3)...), storeByHand(59, crowd(59)...)} {
		wantGate(t, s, []gateCase{
			{"the first one", put(impl.NewLease(0, 1), 0, 1), impl.OK},
			{"of another replica", put(impl.NewLease(2, 1), 0, 1), impl.OK},
			{"with B 2", put(impl.NewLease(0, 2), 0, 2), impl.ErrState},
			{"with the last B", put(impl.NewLease(0, 9999), 0, 9999), impl.ErrState},
			{"a Stamp of a user", put(impl.NewLease(0, 1), 0, 0), impl.ErrState},
			{"a Stamp that is not B", put(impl.NewLease(0, 1), 0, 2), impl.ErrState},
			{"with B 2, a Stamp of 1", put(impl.NewLease(0, 2), 0, 1), impl.ErrState},
			{"one is expected", put(impl.NewLease(0, 1), 1, 1), impl.ErrTaken},
			{"a delete of none", del(impl.NewLease(0, 1), 1, 1), impl.ErrTaken},
			{"a delete that expects none", del(impl.NewLease(0, 1), 0, 1), impl.ErrForm},
			{"with B 0", put(impl.NewLease(0, 0), 0, 0), impl.ErrRange},
		})
	}
}

func TestTheLeaseThatIsThere(t *testing.T) {
	wantGate(t, storyStore(), []gateCase{
		{"renewed by its holder", put(impl.NewLease(2, 2), 10, 2), impl.OK},
		{"renewed by another one with the same B", put(impl.NewLease(1, 2), 10, 2), impl.ErrState},
		{"renewed by the replica 0 with the same B", put(impl.NewLease(0, 2), 10, 2), impl.ErrState},
		{"another one takes the next epoch", put(impl.NewLease(1, 3), 10, 3), impl.OK},
		{"its holder takes the next epoch", put(impl.NewLease(2, 3), 10, 3), impl.OK},
		{"an epoch is left out", put(impl.NewLease(1, 4), 10, 4), impl.ErrState},
		{"its holder leaves an epoch out", put(impl.NewLease(2, 4), 10, 4), impl.ErrState},
		{"an epoch that was", put(impl.NewLease(1, 1), 10, 1), impl.ErrState},
		{"its holder takes one that was", put(impl.NewLease(2, 1), 10, 1), impl.ErrState},
		{"renewed with the Stamp of a user", put(impl.NewLease(2, 2), 10, 0), impl.ErrState},
		{"renewed with the Stamp that was", put(impl.NewLease(2, 2), 10, 1), impl.ErrState},
		{"renewed with the Stamp to come", put(impl.NewLease(2, 2), 10, 3), impl.ErrState},
		{"taken with the Stamp of a user", put(impl.NewLease(1, 3), 10, 0), impl.ErrState},
		{"taken with the Stamp that counts", put(impl.NewLease(1, 3), 10, 2), impl.ErrState},
		{"taken with the Stamp behind", put(impl.NewLease(1, 3), 10, 4), impl.ErrState},
		{"deleted by its holder", del(impl.NewLease(2, 2), 10, 2), impl.ErrState},
		{"deleted with the next epoch", del(impl.NewLease(2, 3), 10, 3), impl.ErrState},
		{"deleted by a user", del(impl.NewLease(2, 2), 10, 0), impl.ErrState},
		{"renewed, none is expected", put(impl.NewLease(2, 2), 0, 2), impl.ErrTaken},
		{"renewed, an older one is expected", put(impl.NewLease(2, 2), 3, 2), impl.ErrTaken},
		{"taken, a later one is expected", put(impl.NewLease(1, 3), 14, 3), impl.ErrTaken},
		{"deleted, an older one is expected", del(impl.NewLease(2, 2), 9, 2), impl.ErrTaken},
	})
	// The replica 0 renews nothing by having the number that an object has where there is none.
	wantGate(t, storeByHand(4, at(impl.NewLease(0, 9998), 4)), []gateCase{
		{"renewed by its holder", put(impl.NewLease(0, 9998), 4, 9998), impl.OK},
		{"the last epoch", put(impl.NewLease(1, 9999), 4, 9999), impl.OK},
		{"the first epoch again", put(impl.NewLease(0, 1), 4, 1), impl.ErrState},
	})
	wantGate(t, storeByHand(4, at(impl.NewLease(0, 9999), 4)), []gateCase{
		{"renewed by its holder", put(impl.NewLease(0, 9999), 4, 9999), impl.OK},
		{"beyond the last epoch", put(impl.NewLease(0, 10000), 4, 10000), impl.ErrRange},
		{"the first epoch again", put(impl.NewLease(0, 1), 4, 1), impl.ErrState},
	})
}

func TestSetsOfAUser(t *testing.T) {
	wantGate(t, storyStore(), []gateCase{
		{"put new", put(impl.NewSet(0, 8), 0, 0), impl.OK},
		{"put new, of none", put(impl.NewSet(19, 0), 0, 0), impl.OK},
		{"put new where one went", put(impl.NewSet(4, 3), 0, 0), impl.OK},
		{"put again", put(impl.NewSet(1, 3), 1, 0), impl.OK},
		{"put again as it was", put(impl.NewSet(1, 2), 1, 0), impl.OK},
		{"deleted", del(impl.NewSet(1, 2), 1, 0), impl.OK},
		{"deleted, and A is another one", del(impl.NewSet(1, 7), 1, 0), impl.OK},
		{"put again, none is expected", put(impl.NewSet(1, 3), 0, 0), impl.ErrTaken},
		{"put again, a later one is expected", put(impl.NewSet(1, 3), 2, 0), impl.ErrTaken},
		{"put again, one at the last Rev is expected", put(impl.NewSet(1, 3), 14, 0), impl.ErrTaken},
		{"put again, one beyond is expected", put(impl.NewSet(1, 3), 100000, 0), impl.ErrTaken},
		{"put new, one is expected", put(impl.NewSet(0, 8), 1, 0), impl.ErrTaken},
		{"put new where one went, that is expected", put(impl.NewSet(4, 1), 11, 0), impl.ErrTaken},
		{"deleted, another one is expected", del(impl.NewSet(1, 2), 2, 0), impl.ErrTaken},
		{"one that went is deleted", del(impl.NewSet(4, 1), 11, 0), impl.ErrTaken},
		{"one that went is deleted as it went", del(impl.NewSet(4, 1), 12, 0), impl.ErrTaken},
		{"a delete that expects none", del(impl.NewSet(1, 2), 0, 0), impl.ErrForm},
		{"one that wants too many", put(impl.NewSet(1, 9), 1, 0), impl.ErrRange},
	})
	wantGate(t, impl.Store{}, []gateCase{{"the first of all", put(impl.NewSet(0, 0), 0, 0), impl.OK}})
}

func TestJobsOfAUser(t *testing.T) {
	wantGate(t, storyStore(), []gateCase{
		{"put new", put(impl.NewJob(0, 4, 0), 0, 0), impl.OK},
		{"put new, B is not 0", put(impl.NewJob(0, 4, 1), 0, 0), impl.ErrState},
		{"put new, B is as high as it can be", put(impl.NewJob(0, 8, 8), 0, 0), impl.ErrState},
		{"put again as it was", put(impl.NewJob(2, 3, 1), 9, 0), impl.OK},
		{"put again, A is another one", put(impl.NewJob(2, 8, 1), 9, 0), impl.OK},
		{"put again, A is below B", put(impl.NewJob(2, 0, 1), 9, 0), impl.OK},
		{"put again, B is 0", put(impl.NewJob(2, 3, 0), 9, 0), impl.ErrState},
		{"put again, B is one more", put(impl.NewJob(2, 3, 2), 9, 0), impl.ErrState},
		{"deleted", del(impl.NewJob(2, 3, 1), 9, 0), impl.OK},
		{"deleted, B is another one", del(impl.NewJob(2, 3, 0), 9, 0), impl.OK},
		{"deleted, A and B are other ones", del(impl.NewJob(2, 7, 8), 9, 0), impl.OK},
		{"put again, an older one is expected", put(impl.NewJob(2, 3, 0), 2, 0), impl.ErrTaken},
		{"put new, one is expected", put(impl.NewJob(0, 3, 1), 9, 0), impl.ErrTaken},
		{"deleted, an older one is expected", del(impl.NewJob(2, 3, 1), 2, 0), impl.ErrTaken},
	})
}

func TestPodsOfAUser(t *testing.T) {
	wantGate(t, storyStore(), []gateCase{
		{"a user makes a pod", put(podByHand(1, 1, 2, 0), 0, 0), impl.ErrState},
		{"a user makes a pod of a job", put(podByHand(2, 2, 3, 0), 0, 0), impl.ErrState},
		{"a user makes a pod that is done", put(podByHand(1, 1, 2, 1), 0, 0), impl.ErrState},
		{"a user makes a pod that failed", put(podByHand(2, 2, 3, 2), 0, 0), impl.ErrState},
		{"it is live, and done", put(podByHand(1, 1, 0, 1), 4, 0), impl.OK},
		{"it is live, and failed", put(podByHand(1, 1, 0, 2), 4, 0), impl.OK},
		{"it is live, and live", put(podByHand(1, 1, 0, 0), 4, 0), impl.ErrState},
		{"it is done, and done", put(podByHand(1, 1, 1, 1), 7, 0), impl.ErrState},
		{"it is done, and failed", put(podByHand(1, 1, 1, 2), 7, 0), impl.ErrState},
		{"it is done, and live", put(podByHand(1, 1, 1, 0), 7, 0), impl.ErrState},
		{"it failed, and failed", put(podByHand(2, 2, 0, 2), 8, 0), impl.ErrState},
		{"it failed, and is done", put(podByHand(2, 2, 0, 1), 8, 0), impl.ErrState},
		{"it failed, and is live", put(podByHand(2, 2, 0, 0), 8, 0), impl.ErrState},
		{"a live one is deleted", del(podByHand(1, 1, 0, 0), 4, 0), impl.ErrState},
		{"a live one is deleted as one that is done", del(podByHand(1, 1, 0, 1), 4, 0), impl.ErrState},
		{"one that is done is deleted", del(podByHand(1, 1, 1, 1), 7, 0), impl.ErrState},
		{"one that failed is deleted", del(podByHand(2, 2, 0, 2), 8, 0), impl.ErrState},
		{"done, none is expected", put(podByHand(1, 1, 0, 1), 0, 0), impl.ErrTaken},
		{"done, another one is expected", put(podByHand(1, 1, 0, 1), 3, 0), impl.ErrTaken},
		{"a status that is none", put(podByHand(1, 1, 0, 3), 4, 0), impl.ErrRange},
	})
	// A user needs no lease.
	wantGate(t, storeByHand(3, at(podByHand(1, 0, 0, 0), 2)), []gateCase{
		{"done without a lease", put(podByHand(1, 0, 0, 1), 2, 0), impl.OK},
		{"made without a lease", put(podByHand(1, 0, 1, 0), 0, 0), impl.ErrState},
	})
}

func TestTheEpochOfAReplica(t *testing.T) {
	pod, job, set := podByHand(1, 1, 2, 0), impl.NewJob(2, 3, 2), impl.NewSet(1, 2)
	cases := []gateCase{
		{"a pod, the epoch of the lease", put(pod, 0, 2), impl.OK},
		{"a job, the epoch of the lease", put(job, 9, 2), impl.OK},
		{"a delete, the epoch of the lease", del(podByHand(1, 1, 0, 0), 4, 2), impl.OK},
		{"a set, the epoch of the lease", put(set, 1, 2), impl.ErrState},
	}
	for _, stamp := range []int64{1, 3, 4, 9999} {
		cases = append(cases,
			gateCase{"a pod, another epoch", put(pod, 0, stamp), impl.ErrStale},
			gateCase{"a pod that is not live, another epoch", put(podByHand(1, 1, 2, 1), 0, stamp), impl.ErrStale},
			gateCase{"a pod that was, another epoch", put(podByHand(1, 1, 0, 0), 4, stamp), impl.ErrStale},
			gateCase{"a delete, another epoch", del(podByHand(1, 1, 0, 0), 4, stamp), impl.ErrStale},
			gateCase{"a job, another epoch", put(job, 9, stamp), impl.ErrStale},
			gateCase{"a job, and A is another one, another epoch", put(impl.NewJob(2, 4, 2), 9, stamp), impl.ErrStale},
			gateCase{"a set, another epoch", put(set, 1, stamp), impl.ErrStale},
			gateCase{"a new set, another epoch", put(impl.NewSet(0, 2), 0, stamp), impl.ErrStale},
		)
	}
	wantGate(t, storyStore(), cases)
	wantGate(t, storeByHand(3, at(impl.NewJob(2, 3, 0), 1), at(podByHand(1, 1, 0, 0), 2)), []gateCase{
		{"a pod, there is no lease", put(pod, 0, 1), impl.ErrStale},
		{"a job, there is no lease", put(job, 1, 1), impl.ErrStale},
		{"a set, there is no lease", put(set, 0, 1), impl.ErrStale},
		{"a delete, there is no lease", del(podByHand(1, 1, 0, 0), 2, 1), impl.ErrStale},
	})
}

func TestSetsAndJobsOfAReplica(t *testing.T) {
	wantGate(t, storyStore(), []gateCase{
		{"a new set", put(impl.NewSet(0, 1), 0, 2), impl.ErrState},
		{"a set that was", put(impl.NewSet(1, 2), 1, 2), impl.ErrState},
		{"a set is deleted", del(impl.NewSet(1, 2), 1, 2), impl.ErrState},
		{"a job keeps its A", put(impl.NewJob(2, 3, 2), 9, 2), impl.OK},
		{"a job as it was", put(impl.NewJob(2, 3, 1), 9, 2), impl.OK},
		{"a job keeps its A, and B falls", put(impl.NewJob(2, 3, 0), 9, 2), impl.OK},
		{"a job keeps its A, and B is above", put(impl.NewJob(2, 3, 8), 9, 2), impl.OK},
		{"a job's A is one more", put(impl.NewJob(2, 4, 2), 9, 2), impl.ErrState},
		{"a job's A is one less", put(impl.NewJob(2, 2, 2), 9, 2), impl.ErrState},
		{"a job's A is 0", put(impl.NewJob(2, 0, 1), 9, 2), impl.ErrState},
		{"a new job", put(impl.NewJob(0, 3, 0), 0, 2), impl.ErrState},
		{"a new job that wants none", put(impl.NewJob(0, 0, 0), 0, 2), impl.ErrState},
		{"a job is deleted", del(impl.NewJob(2, 3, 1), 9, 2), impl.ErrState},
		{"a job, an older one is expected", put(impl.NewJob(2, 3, 2), 2, 2), impl.ErrTaken},
	})
}

func TestPodsOfAReplica(t *testing.T) {
	wantGate(t, storyStore(), []gateCase{
		{"a new one that is live", put(podByHand(1, 1, 2, 0), 0, 2), impl.OK},
		{"a new one of a job", put(podByHand(2, 2, 1, 0), 0, 2), impl.OK},
		{"a new one of nobody that is there", put(podByHand(2, 19, 23, 0), 0, 2), impl.OK},
		{"a new one that is done", put(podByHand(1, 1, 2, 1), 0, 2), impl.ErrState},
		{"a new one that failed", put(podByHand(1, 1, 2, 2), 0, 2), impl.ErrState},
		{"one that was live", put(podByHand(1, 1, 0, 0), 4, 2), impl.ErrState},
		{"one that was live is done", put(podByHand(1, 1, 0, 1), 4, 2), impl.ErrState},
		{"one that was live failed", put(podByHand(1, 1, 0, 2), 4, 2), impl.ErrState},
		{"one that was done is live", put(podByHand(1, 1, 1, 0), 7, 2), impl.ErrState},
		{"one that failed is live", put(podByHand(2, 2, 0, 0), 8, 2), impl.ErrState},
		{"a live one is deleted", del(podByHand(1, 1, 0, 0), 4, 2), impl.OK},
		{"one that is done is deleted", del(podByHand(1, 1, 1, 1), 7, 2), impl.OK},
		{"one that failed is deleted", del(podByHand(2, 2, 0, 2), 8, 2), impl.OK},
		{"one that failed is deleted as a live one", del(podByHand(2, 2, 0, 0), 8, 2), impl.OK},
		{"a new one, one is expected", put(podByHand(1, 1, 2, 0), 13, 2), impl.ErrTaken},
		{"one that went is deleted", del(podByHand(1, 1, 2, 0), 13, 2), impl.ErrTaken},
		{"a delete, another one is expected", del(podByHand(1, 1, 0, 0), 5, 2), impl.ErrTaken},
	})
}

func TestAStoreAtItsLastRev(t *testing.T) {
	at99999 := storeByHand(99999, append(crowd(3), at(impl.NewLease(0, 1), 99999))...)
	wantTaken(t, "at the last Rev but one", at99999, put(impl.NewSet(0, 2), 1, 0))
	wantTaken(t, "at the last Rev but one", at99999, put(impl.NewLease(0, 1), 99999, 1))
	last := wantTaken(t, "at the last Rev but one", at99999, del(impl.NewSet(1, 1), 2, 0))
	wantGate(t, last, []gateCase{
		{"a new set", put(impl.NewSet(9, 2), 0, 0), impl.ErrFull},
		{"a set again", put(impl.NewSet(0, 2), 1, 0), impl.ErrFull},
		{"a set goes", del(impl.NewSet(0, 1), 1, 0), impl.ErrFull},
		{"a lease that is renewed", put(impl.NewLease(0, 1), 99999, 1), impl.ErrFull},
		{"another one is expected", put(impl.NewSet(0, 2), 2, 0), impl.ErrFull},
		{"none is expected", put(impl.NewSet(0, 2), 0, 0), impl.ErrFull},
		{"another epoch", put(podByHand(1, 0, 0, 0), 0, 7), impl.ErrFull},
		{"what does not fit", put(podByHand(1, 0, 0, 0), 0, 0), impl.ErrFull},
		{"an Op that is none", impl.Write{Object: impl.NewSet(0, 2)}, impl.ErrForm},
		{"a set that wants too many", put(impl.NewSet(0, 9), 1, 0), impl.ErrRange},
		{"a Stamp beyond", put(impl.NewSet(0, 2), 1, 10000), impl.ErrRange},
	})
}

func TestAStoreOfManyObjects(t *testing.T) {
	wantGate(t, fullStore(), []gateCase{
		{"a new pod", put(podByHand(1, 15, 0, 0), 0, 1), impl.ErrFull},
		{"a new pod of another epoch", put(podByHand(1, 15, 0, 0), 0, 2), impl.ErrStale},
		{"a new pod that is not live", put(podByHand(1, 15, 0, 1), 0, 1), impl.ErrState},
		{"a new pod of a user", put(podByHand(1, 15, 0, 0), 0, 0), impl.ErrState},
		{"a new pod, one is expected", put(podByHand(1, 15, 0, 0), 3, 1), impl.ErrTaken},
		{"a pod that was is done", put(podByHand(1, 0, 0, 1), 41, 0), impl.OK},
		{"a set that was", put(impl.NewSet(0, 2), 1, 0), impl.OK},
		{"a job that was", put(impl.NewJob(0, 1, 1), 21, 1), impl.OK},
		{"the lease that was", put(impl.NewLease(1, 2), 60, 2), impl.OK},
		{"a set goes", del(impl.NewSet(0, 1), 1, 0), impl.OK},
		{"a pod goes", del(podByHand(1, 0, 0, 0), 41, 1), impl.OK},
	})
	wantGate(t, storeByHand(60, crowd(60)...), []gateCase{
		{"the first lease", put(impl.NewLease(0, 1), 0, 1), impl.ErrFull},
		{"a first lease that leaves an epoch out", put(impl.NewLease(0, 2), 0, 2), impl.ErrState},
	})
	noSet := append(crowd(61)[1:60], at(impl.NewLease(0, 1), 61))
	wantGate(t, storeByHand(70, noSet...), []gateCase{
		{"a new set", put(impl.NewSet(0, 1), 0, 0), impl.ErrFull},
		{"a new set of a replica", put(impl.NewSet(0, 1), 0, 1), impl.ErrState},
	})
	// There is room behind one that goes.
	s := wantTaken(t, "a job goes", storeByHand(70, noSet...), del(impl.NewJob(0, 1, 0), 21, 0))
	s = wantTaken(t, "and a set comes", s, put(impl.NewSet(0, 1), 0, 0))
	wantRefused(t, "but no job", s, put(impl.NewJob(0, 1, 0), 0, 0), impl.ErrFull)
}

func TestTheWriteFaultIsAskedAheadOfTheStore(t *testing.T) {
	for w, want := range faultyWrites() {
		for what, s := range map[string]impl.Store{"nothing": {}, "the story": storyStore(), "60 objects": fullStore(), "the last Rev": storeByHand(100000)} {
			wantRefused(t, what, s, w, want)
		}
	}
}

// refusedByHand goes along the document line by line, for a store without a fault.
func refusedByHand(s impl.Store, w impl.Write) int64 {
	if fault := impl.WriteFault(w); fault != 0 {
		return fault
	}
	if s.Rev == 100000 {
		return impl.ErrFull
	}
	o, was, there, epoch := w.Object, impl.Object{}, false, int64(0)
	for _, other := range s.Objects {
		if other.Kind == o.Kind && other.Id == o.Id {
			was, there = other, true
		}
		if other.Kind == 4 {
			epoch = other.B
		}
	}
	if there && w.Expect != was.Rev || !there && w.Expect != 0 {
		return impl.ErrTaken
	}
	puts, same := w.Op == 1, o.A == was.A && o.B == was.B
	fits := true
	switch {
	case o.Kind == 4:
		fits = puts && w.Stamp == o.B && (there && (same || o.B == was.B+1) || !there && o.B == 1)
	case w.Stamp == 0 && o.Kind == 3:
		fits = puts && there && was.D == 0 && (o.D == 1 || o.D == 2)
	case w.Stamp == 0 && o.Kind == 2 && puts:
		fits = there && o.B == was.B || !there && o.B == 0
	case w.Stamp == 0:
	case w.Stamp != epoch:
		return impl.ErrStale
	case o.Kind == 1:
		fits = false
	case o.Kind == 2:
		fits = puts && there && o.A == was.A
	case puts:
		fits = !there && o.D == 0
	}
	if !fits {
		return impl.ErrState
	}
	if !there && len(s.Objects) == 60 {
		return impl.ErrFull
	}
	return 0
}

// gateObjects are objects that may meet those of the stores here, some of them with a fault.
func gateObjects() []impl.Object {
	list := []impl.Object{{}, {Kind: 5}, impl.NewSet(20, 1), at(impl.NewSet(1, 1), 1)}
	for _, id := range []int64{0, 1, 2, 4, 19} {
		for a := range int64(5) {
			list = append(list, impl.NewSet(id, a))
			for b := range int64(4) {
				list = append(list, impl.NewJob(id, a, b))
			}
		}
	}
	for _, owner := range []int64{0, 1, 2, 19} {
		for index := range int64(4) {
			for state := range int64(4) {
				list = append(list, podByHand(1, owner, index, state), podByHand(2, owner, index, state))
			}
		}
	}
	for holder := range int64(4) {
		for epoch := range int64(5) {
			list = append(list, impl.NewLease(holder, epoch))
		}
	}
	return list
}

func TestTheGateIsThatOfTheDocument(t *testing.T) {
	room := storyStore()
	room.Objects = slices.Delete(room.Objects, 5, 6)
	taken := 0
	for what, s := range map[string]impl.Store{
		"nothing": {}, "the story": storyStore(), "the story without its lease": room,
		"60 objects": fullStore(), "60 objects without a lease": storeByHand(60, crowd(60)...),
		"59 objects": storeByHand(90, crowd(59)...), "the last Rev": storeByHand(100000, crowd(5)...),
	} {
		for _, o := range gateObjects() {
			expects := []int64{0, 1, s.Rev, 100001}
			if found := impl.FindObject(s, impl.Key{Kind: o.Kind, Id: o.Id}); found.Code == impl.OK {
				expects = append(expects, found.Object.Rev, found.Object.Rev+1)
			}
			for _, expect := range expects {
				for _, stamp := range []int64{0, 1, 2, 3, 4, 10000} {
					for op := range int64(4) {
						w := impl.Write{Op: op, Object: o, Expect: expect, Stamp: stamp}
						if want := refusedByHand(s, w); want != impl.OK {
							wantRefused(t, what, s, w, want)
						} else {
							wantTaken(t, what, s, w)
							taken++
						}
					}
				}
			}
		}
	}
	if taken < 500 {
		t.Error("so few of the writes here are taken:", taken)
	}
}

func TestAPutStandsAtItsPlace(t *testing.T) {
	s := impl.Store{}
	for i, w := range []impl.Write{
		put(impl.NewJob(5, 1, 0), 0, 0), put(impl.NewLease(0, 1), 0, 1), put(impl.NewSet(7, 1), 0, 0), put(podByHand(2, 0, 0, 0), 0, 1),
		put(impl.NewJob(4, 1, 0), 0, 0), put(podByHand(1, 19, 15, 0), 0, 1), put(impl.NewSet(0, 1), 0, 0), put(impl.NewJob(6, 1, 0), 0, 0),
		put(impl.NewSet(9, 1), 0, 0), put(podByHand(1, 2, 0, 0), 0, 1), put(impl.NewJob(5, 2, 0), 1, 0), put(podByHand(2, 0, 0, 1), 4, 0),
	} {
		s = wantTaken(t, "one more", s, w)
		if len(s.History) != i+1 || s.History[i].Rev != int64(i)+1 {
			t.Fatal("the history is", s.History)
		}
	}
	want := []impl.Object{
		at(impl.NewSet(0, 1), 7), at(impl.NewSet(7, 1), 3), at(impl.NewSet(9, 1), 9),
		at(impl.NewJob(4, 1, 0), 5), at(impl.NewJob(5, 2, 0), 11), at(impl.NewJob(6, 1, 0), 8),
		at(podByHand(1, 2, 0, 0), 10), at(podByHand(1, 19, 15, 0), 6), at(podByHand(2, 0, 0, 1), 12), at(impl.NewLease(0, 1), 2),
	}
	if !slices.Equal(s.Objects, want) {
		t.Error("the objects are", s.Objects)
	}
	s = wantTaken(t, "the thirteenth", s, del(impl.NewSet(0, 8), 7, 0))
	if len(s.History) != 12 || s.History[0].Rev != 2 || s.History[11] != (impl.Change{Rev: 13, Gone: true, Object: at(impl.NewSet(0, 8), 13)}) {
		t.Error("the history behind thirteen writes is", s.History)
	}
	if !slices.Equal(s.Objects, want[1:]) {
		t.Error("behind a delete the objects are", s.Objects)
	}
}

// A Rev of 0 says that no write was: the first change is that of the Rev 1, and there are never more changes than the Rev.
func TestNoHistoryBeginsAtTheRev0(t *testing.T) {
	for rev := int64(0); rev <= 13; rev++ {
		for count := int64(0); count <= 12; count++ {
			s := storeByHand(rev)
			s.History = nil
			for n := rev - count + 1; n <= rev; n++ {
				s.History = append(s.History, impl.Change{Rev: n, Object: at(impl.NewSet(0, 1), n)})
			}
			want := int64(impl.ErrState)
			if count == min(rev, 12) {
				want = impl.OK
			}
			if got := impl.StoreFault(s); got != want {
				t.Errorf("%d changes at the Rev %d: StoreFault = %d, not %d", count, rev, got, want)
			}
		}
	}
}

// dice are numbers that look thrown, the same ones at each run.
type dice uint64

func (d *dice) throw(n int64) int64 {
	*d = *d*6364136223846793005 + 1442695040888963407
	return int64(uint64(*d)>>33) % n
}

// thrownWrite is a write that is often, but not always, one that the store takes.
func thrownWrite(d *dice, s impl.Store) impl.Write {
	list := gateObjects()
	o := list[d.throw(int64(len(list)))]
	if n := int64(len(s.Objects)); n > 0 && d.throw(2) == 0 {
		o = at(s.Objects[d.throw(n)], 0)
		o.D = d.throw(3)
		if o.Kind != impl.KindPod {
			o.D = 0
		}
	}
	epoch := impl.EpochOf(s).Value
	if o.Kind == impl.KindLease {
		o.B = epoch + d.throw(2)
	}
	expect := impl.FindObject(s, impl.Key{Kind: o.Kind, Id: o.Id}).Object.Rev
	if d.throw(10) == 0 {
		expect = d.throw(20)
	}
	stamp := []int64{0, epoch, epoch, epoch + d.throw(2), epoch - d.throw(2)}[d.throw(5)]
	if o.Kind == impl.KindLease {
		stamp = o.B
	}
	return impl.Write{Op: 1 + d.throw(3)/2, Object: o, Expect: expect, Stamp: stamp}
}

func TestWritesOneBehindTheOther(t *testing.T) {
	taken, codes := 0, map[int64]int{}
	for seed := range 20 {
		d, s, done := dice(seed), impl.Store{}, []impl.Write{}
		for range 400 {
			w := thrownWrite(&d, s)
			code := refusedByHand(s, w)
			codes[code]++
			if code != impl.OK {
				wantRefused(t, "thrown", s, w, code)
				continue
			}
			after := wantTaken(t, "thrown", s, w)
			was, is := impl.EpochOf(s).Value, impl.EpochOf(after).Value
			if is < was || is != was && (w.Object.Kind != impl.KindLease || is != was+1) {
				t.Errorf("behind %v the epoch is %d, and was %d", w, is, was)
			}
			if w.Stamp != 0 && w.Stamp != is {
				t.Errorf("%v was written with the epoch %d", w, is)
			}
			s, done = after, append(done, w)
			taken++
		}
		if len(done) <= 300 {
			wantReplayed(t, done, s)
		} else {
			wantNoReplay(t, done, impl.ErrMany)
		}
	}
	if taken < 2000 || codes[impl.ErrTaken] < 100 || codes[impl.ErrStale] < 100 || codes[impl.ErrState] < 100 {
		t.Error("the writes are not such as to tell much:", taken, codes)
	}
}

func wantReplayed(t *testing.T, list []impl.Write, want impl.Store) {
	t.Helper()
	if got := impl.ReplayWrites(list); got.Code != impl.OK || !sameByHand(got.Store, want) {
		t.Errorf("ReplayWrites of %d writes = %v, not %v", len(list), got, want)
	}
}

func wantNoReplay(t *testing.T, list []impl.Write, want int64) {
	t.Helper()
	if got := impl.ReplayWrites(list); got.Code != want || !sameByHand(got.Store, impl.Store{}) {
		t.Errorf("ReplayWrites of %d writes = %v, not just the code %d", len(list), got, want)
	}
}

// longWrites are n writes of which each is taken: a lease that goes from epoch to epoch, and a set that is put again and again.
func longWrites(n int) []impl.Write {
	list, lease, set := []impl.Write{}, int64(0), int64(0)
	for i := range int64(n) {
		if i%3 == 0 {
			list = append(list, put(impl.NewLease(i%2, i/3+1), lease, i/3+1))
			lease = i + 1
		} else {
			list = append(list, put(impl.NewSet(0, i%9), set, 0))
			set = i + 1
		}
	}
	return list
}

func TestReplayWritesIsApplyWriteOneBehindTheOther(t *testing.T) {
	for _, list := range [][]impl.Write{storyWrites(), longWrites(300)} {
		s := impl.Store{}
		for i, w := range list {
			wantReplayed(t, list[:i], s)
			epoch := impl.EpochOf(s).Value
			s = wantTaken(t, "replayed", s, w)
			if impl.EpochOf(s).Value < epoch {
				t.Errorf("the epoch falls behind %d writes", i)
			}
		}
		wantReplayed(t, list, s)
	}
	wantReplayed(t, storyWrites(), storyStore())
	wantReplayed(t, nil, impl.Store{})
	wantReplayed(t, storyWrites()[:1], impl.Store{
		Rev:     1,
		Objects: []impl.Object{{Kind: 1, Id: 1, A: 2, Rev: 1}},
		History: []impl.Change{{Rev: 1, Object: impl.Object{Kind: 1, Id: 1, A: 2, Rev: 1}}},
	})
	if got := impl.ReplayWrites(longWrites(300)).Store; got.Rev != 300 || len(got.Objects) != 2 || impl.EpochOf(got).Value != 100 || len(got.History) != 12 || got.History[0].Rev != 289 {
		t.Error("ReplayWrites of 300 writes =", got)
	}
}

func TestReplayWritesOfTooMany(t *testing.T) {
	wantNoReplay(t, longWrites(301), impl.ErrMany)
	wantNoReplay(t, longWrites(1000), impl.ErrMany)
	wantNoReplay(t, make([]impl.Write, 301), impl.ErrMany)
	wantNoReplay(t, make([]impl.Write, 300), impl.ErrForm)
	wantNoReplay(t, append(make([]impl.Write, 1), longWrites(300)...), impl.ErrMany)
}

func TestReplayWritesThatAreRefused(t *testing.T) {
	for _, c := range []gateCase{
		{"nothing", impl.Write{}, impl.ErrForm},
		{"out of its bounds", put(impl.NewSet(0, 9), 0, 0), impl.ErrRange},
		{"another one is expected", put(impl.NewSet(1, 1), 1, 0), impl.ErrTaken},
		{"what does not fit", put(podByHand(1, 0, 0, 0), 0, 0), impl.ErrState},
		{"another epoch", put(podByHand(1, 0, 0, 0), 0, 9999), impl.ErrStale},
	} {
		for _, place := range []int{0, 1, 2, 150, 298, 299} {
			list := longWrites(300)
			list[place] = c.w
			wantNoReplay(t, list, c.want)
			wantReplayed(t, list[:place], impl.ReplayWrites(longWrites(place)).Store)
		}
	}
	// The first one that is refused counts, not a later one.
	wantNoReplay(t, []impl.Write{put(impl.NewSet(0, 1), 0, 0), put(impl.NewSet(0, 1), 0, 0), {}}, impl.ErrTaken)
	wantNoReplay(t, []impl.Write{put(impl.NewSet(0, 1), 0, 0), {}, put(impl.NewSet(0, 1), 0, 0)}, impl.ErrForm)
	crowded := []impl.Write{}
	for _, o := range crowd(40) {
		crowded = append(crowded, put(at(o, 0), 0, 0))
	}
	crowded = append(crowded, put(impl.NewLease(0, 1), 0, 1))
	for _, o := range crowd(60)[40:] {
		crowded = append(crowded, put(at(o, 0), 0, 1))
	}
	wantNoReplay(t, crowded, impl.ErrFull)
	if got := impl.ReplayWrites(crowded[:60]); got.Code != impl.OK || len(got.Store.Objects) != 60 {
		t.Error("ReplayWrites of 60 objects =", got)
	}
}

func TestSameStores(t *testing.T) {
	stores := []impl.Store{{}, {Rev: -1}, {Rev: math.MaxInt64}, storyStore(), fullStore(), {Objects: make([]impl.Object, 1)}, {Objects: make([]impl.Object, 70)}, {History: make([]impl.Change, 1)}, {History: make([]impl.Change, 70)}}
	for _, c := range faultyStores()[:20] {
		stores = append(stores, c.s)
	}
	for i, a := range stores {
		for j, b := range stores {
			if got := impl.SameStores(a, copied(b)); got != (i == j) {
				t.Errorf("SameStores of %d and %d = %v", i, j, got)
			}
		}
	}
	for what, turn := range map[string]func(s *impl.Store){
		"an object more":          func(s *impl.Store) { s.Objects = append(s.Objects, impl.Object{}) },
		"an object less":          func(s *impl.Store) { s.Objects = s.Objects[:5] },
		"the first object less":   func(s *impl.Store) { s.Objects = s.Objects[1:] },
		"no objects":              func(s *impl.Store) { s.Objects = nil },
		"another order":           func(s *impl.Store) { s.Objects[0], s.Objects[1] = s.Objects[1], s.Objects[0] },
		"a change more":           func(s *impl.Store) { s.History = append(s.History, impl.Change{}) },
		"a change less":           func(s *impl.Store) { s.History = s.History[:11] },
		"the first change less":   func(s *impl.Store) { s.History = s.History[1:] },
		"no changes":              func(s *impl.Store) { s.History = nil },
		"another order of change": func(s *impl.Store) { slices.Reverse(s.History) },
		"nothing":                 func(s *impl.Store) { *s = impl.Store{} },
	} {
		wantOther(t, what, turned(storyStore(), turn))
	}
	for i := range storyStore().History {
		wantOther(t, "Gone is not", turned(storyStore(), func(s *impl.Store) { s.History[i].Gone = !s.History[i].Gone }))
	}
	s := storyStore()
	for _, number := range numbersOfStore(&s) {
		for _, by := range []int64{1, -1, 1 << 32, math.MinInt64} {
			*number += by
			wantOther(t, "a number", s)
			*number -= by
		}
	}
	empty, none := impl.Store{Rev: 3, Objects: []impl.Object{}, History: []impl.Change{}}, impl.Store{Rev: 3}
	if !impl.SameStores(empty, none) || !impl.SameStores(none, empty) || !impl.SameStores(impl.Store{}, impl.Store{Objects: []impl.Object{}, History: []impl.Change{}}) {
		t.Error("nil is not the same as an empty list")
	}
}

func wantOther(t *testing.T, what string, s impl.Store) {
	t.Helper()
	if impl.SameStores(s, storyStore()) || impl.SameStores(storyStore(), s) || !impl.SameStores(s, copied(s)) {
		t.Errorf("%s: SameStores does not tell them apart: %v", what, s)
	}
}

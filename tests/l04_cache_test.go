package tests

import (
	"math"
	"slices"
	"testing"

	"loop.example/g00730/impl"
)

// The tests of this file are those of promise 5: what a cache is, what it is told of a store, and what becomes of it.

func cacheByHand(rev int64, objects ...impl.Object) impl.Cache {
	return impl.Cache{Rev: rev, Objects: objects}
}

func copiedCache(c impl.Cache) impl.Cache {
	return impl.Cache{Rev: c.Rev, Objects: slices.Clone(c.Objects)}
}

// sameCachesByHand has no difference between nil and an empty list.
func sameCachesByHand(a, b impl.Cache) bool {
	return a.Rev == b.Rev && slices.Equal(a.Objects, b.Objects)
}

// turnedCache is a cache in which something was turned.
func turnedCache(c impl.Cache, turn func(c *impl.Cache)) impl.Cache {
	c = copiedCache(c)
	turn(&c)
	return c
}

// storyCache is what is known of storyStore.
func storyCache() impl.Cache {
	return cacheByHand(14, storyStore().Objects...)
}

// fullCache has the 60 objects of fullStore.
func fullCache() impl.Cache {
	return cacheByHand(60, fullStore().Objects...)
}

// comes is the change by which an object is put.
func comes(o impl.Object, rev int64) impl.Change {
	return impl.Change{Rev: rev, Object: at(o, rev)}
}

func goes(o impl.Object, rev int64) impl.Change {
	return impl.Change{Rev: rev, Gone: true, Object: at(o, rev)}
}

// goodCaches have no fault.
func goodCaches() map[string]impl.Cache {
	return map[string]impl.Cache{
		"nothing":               {},
		"an empty list":         {Objects: []impl.Object{}},
		"no objects at a Rev":   cacheByHand(5),
		"the last Rev":          cacheByHand(100000),
		"the story":             storyCache(),
		"60 objects":            fullCache(),
		"60 objects, no lease":  cacheByHand(60, crowd(60)...),
		"an object of the Rev":  cacheByHand(5, at(impl.NewSet(0, 1), 5)),
		"an object of the 1":    cacheByHand(5, at(impl.NewSet(0, 1), 1)),
		"the Rev 1 alone":       cacheByHand(1, at(impl.NewSet(0, 1), 1)),
		"the last Rev, and 2":   cacheByHand(100000, at(impl.NewSet(0, 1), 1), at(impl.NewSet(1, 1), 100000)),
		"Revs that fall":        cacheByHand(5, at(impl.NewSet(0, 1), 5), at(impl.NewSet(1, 1), 4), at(impl.NewJob(0, 1, 0), 1)),
		"Revs that are alike":   cacheByHand(5, at(impl.NewSet(0, 1), 5), at(impl.NewSet(1, 1), 5)),
		"Ids that fall by Kind": cacheByHand(5, at(impl.NewSet(19, 1), 1), at(impl.NewJob(0, 1, 0), 2), at(podByHand(2, 19, 23, 2), 3), at(impl.NewLease(0, 1), 4)),
	}
}

type faultyCache struct {
	what string
	c    impl.Cache
	want int64
}

// faultyCaches have each one fault, or several, of which the first one counts.
func faultyCaches() []faultyCache {
	none, set, later := at(impl.Object{Kind: 5}, 1), at(impl.NewSet(3, 1), 1), at(impl.NewSet(4, 1), 2)
	list := []faultyCache{
		{"a Rev below, and 61 objects", cacheByHand(-1, crowd(61)...), impl.ErrRange},
		{"a Rev beyond, and 61 objects", cacheByHand(100001, crowd(61)...), impl.ErrRange},
		{"a Rev below, and an object of no Kind", cacheByHand(-1, none), impl.ErrRange},
		{"a Rev beyond, and an object of no Kind", cacheByHand(100001, none), impl.ErrRange},
		{"a Rev beyond, and objects that do not rise", cacheByHand(100001, later, set), impl.ErrRange},
		{"a Rev beyond, and an object of it", cacheByHand(100001, at(set, 100001)), impl.ErrRange},
		{"61 objects of nothing", cacheByHand(5, make([]impl.Object, 61)...), impl.ErrMany},
		{"5000 objects of nothing", cacheByHand(5, make([]impl.Object, 5000)...), impl.ErrMany},
	}
	for _, rev := range []int64{math.MinInt64, -100000, -1, 100001, 1 << 32, math.MaxInt64} {
		list = append(list, faultyCache{"a Rev out of its bounds", cacheByHand(rev), impl.ErrRange})
		list = append(list, faultyCache{"a Rev out of its bounds, and objects", cacheByHand(rev, storyStore().Objects...), impl.ErrRange})
	}
	for _, l := range faultyLists() {
		list = append(list, faultyCache{l.what, cacheByHand(l.rev, l.objects...), l.want})
	}
	return list
}

func TestCachesWithoutFault(t *testing.T) {
	for what, c := range goodCaches() {
		if got := impl.CacheFault(c); got != impl.OK {
			t.Errorf("%s: CacheFault = %d", what, got)
		}
	}
}

func TestCacheFaultCodes(t *testing.T) {
	for _, c := range faultyCaches() {
		if got := impl.CacheFault(c.c); got != c.want {
			t.Errorf("%s: CacheFault(%v) = %d, not %d", c.what, c.c, got, c.want)
		}
	}
}

// cacheFaultByHand goes along the document line by line.
func cacheFaultByHand(c impl.Cache) int64 {
	if c.Rev < 0 || c.Rev > 100000 {
		return impl.ErrRange
	}
	if len(c.Objects) > 60 {
		return impl.ErrMany
	}
	return objectsFaultByHand(c.Objects, c.Rev)
}

// numbersOfObjects are all int64 fields of the objects.
func numbersOfObjects(list []impl.Object) []*int64 {
	numbers := []*int64{}
	for i := range list {
		numbers = append(numbers, &list[i].Kind, &list[i].Rev)
		numbers = append(numbers, numbersIn(&list[i])...)
	}
	return numbers
}

// atEachNumber turns one number behind the other, to each value, and then back.
func atEachNumber(numbers []*int64, values []int64, look func()) {
	for _, number := range numbers {
		was := *number
		for _, n := range values {
			*number = n
			look()
		}
		*number = was
	}
}

func edgeValues() []int64 {
	return append(sweep(), math.MinInt64, math.MaxInt64)
}

func TestCacheFaultAtEachNumber(t *testing.T) {
	for what, was := range goodCaches() {
		c := copiedCache(was)
		atEachNumber(append(numbersOfObjects(c.Objects), &c.Rev), edgeValues(), func() {
			if got, want := impl.CacheFault(c), cacheFaultByHand(c); got != want {
				t.Errorf("%s: CacheFault(%v) = %d, not %d", what, c, got, want)
			}
		})
	}
}

func wantCache(t *testing.T, what string, got impl.CacheResult, want impl.Cache) {
	t.Helper()
	if got.Code != impl.OK || !sameCachesByHand(got.Cache, want) {
		t.Errorf("%s: %v, not the cache %v", what, got, want)
	}
	if fault := impl.CacheFault(got.Cache); fault != impl.OK {
		t.Errorf("%s: the cache has the fault %d", what, fault)
	}
}

func wantNoCache(t *testing.T, what string, got impl.CacheResult, want int64) {
	t.Helper()
	if got.Code != want || !sameCachesByHand(got.Cache, impl.Cache{}) {
		t.Errorf("%s: %v, not just the code %d", what, got, want)
	}
}

func TestListStore(t *testing.T) {
	for _, s := range []impl.Store{{}, storyStore(), fullStore(), storeByHand(1), storeByHand(12), storeByHand(100000), storeByHand(100000, crowd(60)...)} {
		wantCache(t, "ListStore", impl.ListStore(s), cacheByHand(s.Rev, s.Objects...))
	}
	for _, c := range faultyStores() {
		wantNoCache(t, "ListStore of "+c.what, impl.ListStore(c.s), c.want)
	}
}

func wantChanges(t *testing.T, s impl.Store, rev int64, want ...impl.Change) {
	t.Helper()
	if got := impl.ChangesSince(s, rev); got.Code != impl.OK || !slices.Equal(got.Changes, want) {
		t.Errorf("ChangesSince %d of a store at %d = %v, not %v", rev, s.Rev, got, want)
	}
}

func wantNoChanges(t *testing.T, s impl.Store, rev int64, want int64) {
	t.Helper()
	if got := impl.ChangesSince(s, rev); got.Code != want || len(got.Changes) != 0 {
		t.Errorf("ChangesSince %d of a store at %d = %v, not just the code %d", rev, s.Rev, got, want)
	}
}

func TestChangesSinceOfTheStory(t *testing.T) {
	s := storyStore()
	wantChanges(t, s, 14)
	wantChanges(t, s, 13, impl.Change{Rev: 14, Gone: true, Object: impl.Object{Kind: 3, Id: 10102, A: 1, B: 1, C: 2, Rev: 14}})
	wantChanges(t, s, 11,
		impl.Change{Rev: 12, Gone: true, Object: impl.Object{Kind: 1, Id: 4, A: 1, Rev: 12}},
		impl.Change{Rev: 13, Object: impl.Object{Kind: 3, Id: 10102, A: 1, B: 1, C: 2, Rev: 13}},
		impl.Change{Rev: 14, Gone: true, Object: impl.Object{Kind: 3, Id: 10102, A: 1, B: 1, C: 2, Rev: 14}})
	wantChanges(t, s, 2, s.History...)
	wantNoChanges(t, s, 1, impl.ErrNone)
	wantNoChanges(t, s, 0, impl.ErrNone)
	wantNoChanges(t, s, -1, impl.ErrRange)
	wantNoChanges(t, s, 15, impl.ErrRange)
}

func TestChangesSinceTheOldestRev(t *testing.T) {
	for _, c := range []struct {
		writes int
		oldest int64
	}{{0, 0}, {1, 0}, {2, 0}, {11, 0}, {12, 0}, {13, 1}, {14, 2}, {24, 12}, {300, 288}} {
		s := impl.ReplayWrites(longWrites(c.writes)).Store
		for rev := c.oldest; rev <= s.Rev; rev++ {
			wantChanges(t, s, rev, s.History[rev-c.oldest:]...)
		}
		for rev := range c.oldest {
			wantNoChanges(t, s, rev, impl.ErrNone)
		}
		for _, rev := range []int64{math.MinInt64, -100001, -13, -12, -1, s.Rev + 1, s.Rev + 2, 100001, math.MaxInt64} {
			wantNoChanges(t, s, rev, impl.ErrRange)
		}
	}
	last := storeByHand(100000)
	wantChanges(t, last, 100000)
	wantChanges(t, last, 99988, last.History...)
	wantNoChanges(t, last, 99987, impl.ErrNone)
	wantNoChanges(t, last, 0, impl.ErrNone)
	wantNoChanges(t, last, 100001, impl.ErrRange)
}

func TestChangesSinceAsksTheStoreFirst(t *testing.T) {
	for _, c := range faultyStores() {
		for _, rev := range []int64{math.MinInt64, -1, 0, 1, 5, c.s.Rev, 100000, math.MaxInt64} {
			wantNoChanges(t, c.s, rev, c.want)
		}
	}
}

// followByHand goes along the document line by line.
func followByHand(c impl.Cache, list []impl.Change) impl.CacheResult {
	if fault := cacheFaultByHand(c); fault != 0 {
		return impl.CacheResult{Code: fault}
	}
	if len(list) > 12 {
		return impl.CacheResult{Code: impl.ErrMany}
	}
	after := copiedCache(c)
	for _, change := range list {
		if impl.ObjectFault(change.Object) != 0 || change.Object.Rev != change.Rev {
			return impl.CacheResult{Code: impl.ErrForm}
		}
		if change.Rev != after.Rev+1 {
			return impl.CacheResult{Code: impl.ErrState}
		}
		after = cacheByHand(change.Rev, objectsAfter(after.Objects, change)...)
		if len(after.Objects) > 60 {
			return impl.CacheResult{Code: impl.ErrMany}
		}
	}
	return impl.CacheResult{Cache: after}
}

func wantFollowed(t *testing.T, what string, c impl.Cache, want impl.Cache, list ...impl.Change) {
	t.Helper()
	wantCache(t, what, impl.FollowChanges(c, list), want)
}

func wantNotFollowed(t *testing.T, what string, c impl.Cache, want int64, list ...impl.Change) {
	t.Helper()
	wantNoCache(t, what, impl.FollowChanges(c, list), want)
}

// wantAsByHand asks FollowChanges and followByHand, and tells the code.
func wantAsByHand(t *testing.T, what string, c impl.Cache, list []impl.Change) int64 {
	t.Helper()
	want := followByHand(c, list)
	if want.Code == impl.OK {
		wantFollowed(t, what, c, want.Cache, list...)
	} else {
		wantNotFollowed(t, what, c, want.Code, list...)
	}
	return want.Code
}

func TestFollowNoChanges(t *testing.T) {
	for what, c := range goodCaches() {
		wantFollowed(t, what, c, c)
	}
}

func TestFollowOneChange(t *testing.T) {
	set, job, pod := at(impl.NewSet(5, 1), 1), at(impl.NewJob(5, 3, 1), 2), at(podByHand(1, 5, 0, 0), 3)
	c := cacheByHand(7, set, job, pod)
	for _, o := range []impl.Object{impl.NewSet(4, 1), impl.NewSet(6, 1), impl.NewJob(4, 1, 0), impl.NewJob(6, 1, 0), podByHand(1, 4, 9, 0), podByHand(2, 0, 0, 0), impl.NewLease(2, 9)} {
		after := cacheByHand(8, append([]impl.Object{at(o, 8)}, c.Objects...)...)
		slices.SortFunc(after.Objects, func(a, b impl.Object) int { return int(100000*(a.Kind-b.Kind) + a.Id - b.Id) })
		wantFollowed(t, "one that is new", c, after, comes(o, 8))
		wantFollowed(t, "one goes that was not there", c, cacheByHand(8, set, job, pod), goes(o, 8))
	}
	wantFollowed(t, "a set again", c, cacheByHand(8, at(impl.NewSet(5, 8), 8), job, pod), comes(impl.NewSet(5, 8), 8))
	wantFollowed(t, "a job again", c, cacheByHand(8, set, at(impl.NewJob(5, 0, 7), 8), pod), comes(impl.NewJob(5, 0, 7), 8))
	wantFollowed(t, "a pod again", c, cacheByHand(8, set, job, at(podByHand(1, 5, 0, 2), 8)), comes(podByHand(1, 5, 0, 2), 8))
	wantFollowed(t, "the set goes", c, cacheByHand(8, job, pod), goes(impl.NewSet(5, 1), 8))
	wantFollowed(t, "the set goes, with other numbers", c, cacheByHand(8, job, pod), goes(impl.NewSet(5, 8), 8))
	wantFollowed(t, "the job goes", c, cacheByHand(8, set, pod), goes(impl.NewJob(5, 3, 1), 8))
	wantFollowed(t, "the pod goes", c, cacheByHand(8, set, job), goes(podByHand(1, 5, 0, 1), 8))
	wantFollowed(t, "the first one of all", impl.Cache{}, cacheByHand(1, at(impl.NewSet(0, 0), 1)), comes(impl.NewSet(0, 0), 1))
	wantFollowed(t, "the first one of all goes", impl.Cache{}, cacheByHand(1), goes(impl.NewSet(0, 0), 1))
	wantFollowed(t, "the only one goes", cacheByHand(3, set), cacheByHand(4), goes(impl.NewSet(5, 1), 4))
}

func TestFollowSomeChanges(t *testing.T) {
	c := cacheByHand(7, at(impl.NewSet(5, 1), 1), at(impl.NewJob(5, 3, 1), 2))
	wantFollowed(t, "one comes and goes", c, cacheByHand(9, c.Objects...), comes(impl.NewSet(4, 1), 8), goes(impl.NewSet(4, 1), 9))
	wantFollowed(t, "one goes and comes", c, cacheByHand(9, at(impl.NewSet(5, 7), 9), c.Objects[1]), goes(impl.NewSet(5, 1), 8), comes(impl.NewSet(5, 7), 9))
	wantFollowed(t, "one comes twice", c, cacheByHand(9, c.Objects[0], at(impl.NewSet(6, 2), 9), c.Objects[1]), comes(impl.NewSet(6, 1), 8), comes(impl.NewSet(6, 2), 9))
	wantFollowed(t, "one goes twice", c, cacheByHand(9, c.Objects[1]), goes(impl.NewSet(5, 1), 8), goes(impl.NewSet(5, 1), 9))
	wantFollowed(t, "all go", c, cacheByHand(9), goes(impl.NewSet(5, 1), 8), goes(impl.NewJob(5, 1, 1), 9))
	wantFollowed(t, "three come, the last first", c,
		cacheByHand(10, at(impl.NewSet(1, 1), 10), c.Objects[0], c.Objects[1], at(podByHand(1, 5, 0, 0), 9), at(impl.NewLease(1, 1), 8)),
		comes(impl.NewLease(1, 1), 8), comes(podByHand(1, 5, 0, 0), 9), comes(impl.NewSet(1, 1), 10))
}

// setsFrom are n changes behind rev, each by a set of its own.
func setsFrom(rev int64, n int) []impl.Change {
	list := []impl.Change{}
	for i := range int64(n) {
		list = append(list, comes(impl.NewSet(i, 1), rev+i+1))
	}
	return list
}

func TestFollowAsManyChangesAsThereMayBe(t *testing.T) {
	for _, n := range []int{0, 1, 2, 11, 12} {
		after := cacheByHand(100 + int64(n))
		for _, c := range setsFrom(100, n) {
			after.Objects = append(after.Objects, c.Object)
		}
		wantFollowed(t, "sets", cacheByHand(100), after, setsFrom(100, n)...)
	}
	wantNotFollowed(t, "13 changes", cacheByHand(100), impl.ErrMany, setsFrom(100, 13)...)
	wantNotFollowed(t, "13 changes of nothing", cacheByHand(100), impl.ErrMany, make([]impl.Change, 13)...)
	wantNotFollowed(t, "13 changes, the first with a fault", cacheByHand(100), impl.ErrMany, append(make([]impl.Change, 1), setsFrom(100, 12)...)...)
	wantNotFollowed(t, "13 changes of another Rev", cacheByHand(100), impl.ErrMany, setsFrom(101, 13)...)
	wantNotFollowed(t, "5000 changes", impl.Cache{}, impl.ErrMany, make([]impl.Change, 5000)...)
	wantNotFollowed(t, "12 changes of nothing", cacheByHand(100), impl.ErrForm, make([]impl.Change, 12)...)
}

func TestFollowChangesAsksTheCacheFirst(t *testing.T) {
	for _, c := range faultyCaches() {
		for _, list := range [][]impl.Change{nil, {}, setsFrom(5, 1), setsFrom(5, 13), make([]impl.Change, 1), make([]impl.Change, 13), setsFrom(6, 1)} {
			wantNotFollowed(t, c.what, c.c, c.want, list...)
		}
	}
}

// wrongChange is a change behind a cache at the Rev 14, with a fault or not.
type wrongChange struct {
	what   string
	change impl.Change
	want   int64
}

func wrongChanges() []wrongChange {
	set := impl.NewSet(7, 1)
	list := []wrongChange{
		{"an Object of no Kind", comes(impl.Object{Kind: 5}, 15), impl.ErrForm},
		{"nothing", impl.Change{}, impl.ErrForm},
		{"nothing at the Rev", comes(impl.Object{}, 15), impl.ErrForm},
		{"an Object out of its bounds", comes(impl.NewSet(7, 9), 15), impl.ErrForm},
		{"a pod of another Id", comes(impl.Object{Kind: 3, Id: 10001, A: 1}, 15), impl.ErrForm},
		{"a lease of no epoch", comes(impl.NewLease(0, 0), 15), impl.ErrForm},
		{"an Object without a Rev", impl.Change{Rev: 15, Object: set}, impl.ErrForm},
		{"an Object of the Rev below", impl.Change{Rev: 15, Object: at(set, 14)}, impl.ErrForm},
		{"an Object of the Rev behind", impl.Change{Rev: 15, Object: at(set, 16)}, impl.ErrForm},
		{"a change without a Rev", impl.Change{Object: at(set, 15)}, impl.ErrForm},
		{"a change of the Rev below its Object", impl.Change{Rev: 14, Object: at(set, 15)}, impl.ErrForm},
		{"a change of the Rev behind its Object", impl.Change{Rev: 16, Object: at(set, 15)}, impl.ErrForm},
		{"an Object with a fault, and another Rev", comes(impl.NewSet(7, 9), 16), impl.ErrForm},
		{"a Rev below all", comes(set, -1), impl.ErrForm},
		{"a Rev beyond all", comes(set, 100001), impl.ErrForm},
		{"the least Rev", comes(set, math.MinInt64), impl.ErrForm},
		{"the greatest Rev", comes(set, math.MaxInt64), impl.ErrForm},
		{"the Rev of the cache", comes(set, 14), impl.ErrState},
		{"two more", comes(set, 16), impl.ErrState},
		{"the Rev 0", comes(set, 0), impl.ErrState},
		{"the Rev 1", comes(set, 1), impl.ErrState},
		{"the last Rev", comes(set, 100000), impl.ErrState},
	}
	for _, w := range list {
		w.change.Gone = true
		list = append(list, wrongChange{w.what + ", gone", w.change, w.want})
	}
	return list
}

func TestFollowWrongChanges(t *testing.T) {
	good, ahead := comes(impl.NewSet(8, 1), 15), comes(impl.NewSet(8, 1), 14)
	at13 := cacheByHand(13, storyStore().Objects...)
	for _, w := range wrongChanges() {
		wantNotFollowed(t, w.what, storyCache(), w.want, w.change)
		wantNotFollowed(t, w.what+", ahead of a right one", storyCache(), w.want, w.change, good)
		wantNotFollowed(t, w.what+", behind a right one", at13, w.want, ahead, w.change)
		for _, other := range wrongChanges() {
			wantNotFollowed(t, w.what+", then "+other.what, storyCache(), w.want, w.change, other.change)
		}
	}
	wantNotFollowed(t, "the same one twice", storyCache(), impl.ErrState, good, good)
	wantNotFollowed(t, "one is left out", storyCache(), impl.ErrState, good, comes(impl.NewSet(9, 1), 17))
	wantNotFollowed(t, "the wrong way round", storyCache(), impl.ErrState, comes(impl.NewSet(9, 1), 16), good)
	wantNotFollowed(t, "the last of 12", storyCache(), impl.ErrForm, append(setsFrom(14, 11), comes(impl.NewSet(9, 9), 26))...)
	wantNotFollowed(t, "the last of 12, its Rev", storyCache(), impl.ErrState, append(setsFrom(14, 11), comes(impl.NewSet(9, 1), 25))...)
}

func TestFollowIntoAFullCache(t *testing.T) {
	full := fullCache()
	some := turnedCache(full, func(c *impl.Cache) { c.Objects = slices.Delete(c.Objects, 45, 46) }) // without the pod 10201
	a, b, old := podByHand(1, 15, 0, 0), podByHand(1, 16, 0, 0), podByHand(1, 0, 0, 0)
	if len(some.Objects) != 59 || len(full.Objects) != 60 || full.Objects[40] != at(old, 41) {
		t.Fatal("these are not 59 and 60 objects with the pod 10000")
	}
	after := func(c impl.Cache, list ...impl.Change) impl.Cache {
		for _, change := range list {
			c = cacheByHand(change.Rev, objectsAfter(c.Objects, change)...)
		}
		return c
	}
	for _, list := range [][]impl.Change{
		{comes(a, 61)}, {comes(a, 61), goes(old, 62)}, {goes(old, 61), comes(a, 62)}, {comes(a, 61), comes(a, 62)},
		{goes(old, 61), comes(a, 62), comes(b, 63)}, {comes(a, 61), goes(old, 62), comes(b, 63)}, {comes(old, 61), comes(a, 62)},
	} {
		wantFollowed(t, "59 objects", some, after(some, list...), list...)
	}
	for _, list := range [][]impl.Change{
		{goes(old, 61)}, {goes(a, 61)}, {goes(old, 61), comes(a, 62)}, {comes(old, 61)},
		{goes(old, 61), comes(old, 62)}, {goes(old, 61), comes(a, 62), goes(a, 63), comes(b, 64)},
	} {
		wantFollowed(t, "60 objects", full, after(full, list...), list...)
	}
	for _, list := range [][]impl.Change{
		{comes(a, 61)}, {comes(a, 61), goes(old, 62)}, {comes(a, 61), goes(a, 62)}, {goes(a, 61), comes(a, 62)}, {comes(old, 61), comes(a, 62)},
		{goes(old, 61), comes(a, 62), comes(b, 63)}, {goes(old, 61), comes(a, 62), comes(b, 63), goes(b, 64)},
		{comes(a, 61), {}}, {comes(a, 61), comes(b, 63)},
	} {
		wantNotFollowed(t, "60 objects", full, impl.ErrMany, list...)
	}
	wantNotFollowed(t, "59 objects, two come", some, impl.ErrMany, comes(a, 61), comes(b, 62))
	wantNotFollowed(t, "59 objects, two come and one goes", some, impl.ErrMany, comes(a, 61), comes(b, 62), goes(old, 63))
	wantNotFollowed(t, "60 objects, a fault ahead", full, impl.ErrForm, comes(impl.NewSet(7, 9), 61), comes(a, 62))
	wantNotFollowed(t, "60 objects, another Rev ahead", full, impl.ErrState, comes(a, 62), comes(b, 63))
	wantNotFollowed(t, "60 objects, the one that is too many has a fault", full, impl.ErrForm, comes(podByHand(1, 15, 0, 3), 61))
	many := cacheByHand(80, crowd(61)...)
	wantNotFollowed(t, "61 objects", many, impl.ErrMany)
	wantNotFollowed(t, "61 objects, one goes", many, impl.ErrMany, goes(many.Objects[0], 81))
	wantNotFollowed(t, "61 objects, a change of nothing", many, impl.ErrMany, impl.Change{})
}

func TestFollowAtTheLastRev(t *testing.T) {
	set := impl.NewSet(0, 1)
	for _, c := range []impl.Cache{cacheByHand(100000), cacheByHand(100000, crowd(60)...)} {
		wantFollowed(t, "no changes", c, c)
		wantNotFollowed(t, "one more", c, impl.ErrForm, comes(set, 100001))
		wantNotFollowed(t, "one more goes", c, impl.ErrForm, goes(set, 100001))
		wantNotFollowed(t, "one more, with an Object that can be", c, impl.ErrForm, impl.Change{Rev: 100001, Object: at(set, 100000)})
		wantNotFollowed(t, "the last one again", c, impl.ErrState, comes(set, 100000))
		wantNotFollowed(t, "the Rev 0", c, impl.ErrState, comes(set, 0))
	}
	ahead := cacheByHand(99999, at(set, 5))
	wantFollowed(t, "the last one", ahead, cacheByHand(100000, at(set, 100000)), comes(set, 100000))
	wantNotFollowed(t, "the last one, and one more", ahead, impl.ErrForm, comes(set, 100000), comes(set, 100001))
}

func TestFollowChangesAtEachNumber(t *testing.T) {
	c, codes := storyCache(), map[int64]int{}
	list := []impl.Change{comes(impl.NewSet(1, 5), 15), goes(impl.NewJob(2, 3, 1), 16), comes(podByHand(1, 1, 1, 2), 17), comes(impl.NewLease(1, 3), 18)}
	look := func() { codes[wantAsByHand(t, "a number was turned", c, list)]++ }
	for i := range list {
		o := &list[i].Object
		atEachNumber(append(numbersIn(o), &o.Kind, &o.Rev, &list[i].Rev), edgeValues(), look)
		list[i].Gone = !list[i].Gone
		look()
		atEachNumber(append(numbersIn(o), &o.Kind, &o.Rev, &list[i].Rev), edgeValues(), look)
		list[i].Gone = !list[i].Gone
	}
	atEachNumber(append(numbersOfObjects(c.Objects), &c.Rev), edgeValues(), look)
	for n := int64(-2); n <= 20; n++ {
		for i := range list {
			was := list[i]
			list[i].Rev, list[i].Object.Rev = n, n
			look()
			list[i] = was
		}
	}
	if codes[impl.OK] < 20 || codes[impl.ErrForm] < 1000 || codes[impl.ErrState] < 50 || codes[impl.ErrRange] < 1000 {
		t.Error("the changes are not such as to tell much:", codes)
	}
}

// storesBehind are the stores behind 0, 1, 2 and so on of these writes.
func storesBehind(t *testing.T, list []impl.Write) []impl.Store {
	t.Helper()
	stores := []impl.Store{{}}
	for i, w := range list {
		got := impl.ApplyWrite(stores[i], w)
		if got.Code != impl.OK {
			t.Fatalf("write %d, %v, has the code %d", i, w, got.Code)
		}
		stores = append(stores, got.Store)
	}
	return stores
}

// thrownWrites are n writes of which each is taken behind those ahead of it.
func thrownWrites(seed int, n int) []impl.Write {
	d, s, list := dice(seed), impl.Store{}, []impl.Write{}
	for len(list) < n {
		w := thrownWrite(&d, s)
		if got := impl.ApplyWrite(s, w); got.Code == impl.OK {
			s, list = got.Store, append(list, w)
		}
	}
	return list
}

// crowdedWrites lead to 60 objects, and then put and delete at this bound.
func crowdedWrites() []impl.Write {
	list := []impl.Write{put(impl.NewLease(0, 1), 0, 1)}
	for _, o := range crowd(40) {
		list = append(list, put(at(o, 0), 0, 0))
	}
	for id := range int64(19) {
		list = append(list, put(podByHand(1, id, 3, 0), 0, 1))
	}
	for id := range int64(10) {
		list = append(list, del(podByHand(1, id, 3, 0), 42+id, 1), put(podByHand(2, id, 20, 0), 0, 1), put(impl.NewSet(id, 8), 2+id, 0))
	}
	return list
}

func TestWhoListsAndFollowsHasWhatIsListedThen(t *testing.T) {
	stories := [][]impl.Write{storyWrites(), longWrites(40), crowdedWrites()}
	for seed := range 8 {
		stories = append(stories, thrownWrites(seed, 40))
	}
	for _, story := range stories {
		stores := storesBehind(t, story)
		for i, ahead := range stores {
			known := impl.ListStore(ahead)
			wantCache(t, "ListStore", known, cacheByHand(int64(i), ahead.Objects...))
			for n := i; n < len(stores); n++ {
				wantListedThen(t, known.Cache, stores[i:n+1])
			}
		}
	}
}

// wantListedThen asks that who has c, of the first of the stores, has what is listed of the last one, if all changes between are still there.
func wantListedThen(t *testing.T, c impl.Cache, stores []impl.Store) {
	t.Helper()
	count := len(stores) - 1
	last := stores[count]
	if count > 12 {
		wantNoChanges(t, last, c.Rev, impl.ErrNone)
		return
	}
	changes := impl.ChangesSince(last, c.Rev)
	if changes.Code != impl.OK || len(changes.Changes) != count {
		t.Fatalf("from %d to %d the changes are %v", c.Rev, last.Rev, changes)
	}
	wantFollowed(t, "all at once", c, cacheByHand(last.Rev, last.Objects...), changes.Changes...)
	if !impl.SameCaches(impl.FollowChanges(c, changes.Changes).Cache, impl.ListStore(last).Cache) {
		t.Errorf("from %d to %d it is not what is listed", c.Rev, last.Rev)
	}
	for i, s := range stores {
		between := impl.FollowChanges(c, changes.Changes[:i])
		wantCache(t, "up to a place between", between, cacheByHand(s.Rev, s.Objects...))
		wantFollowed(t, "from there on", between.Cache, cacheByHand(last.Rev, last.Objects...), changes.Changes[i:]...)
		if i > 0 {
			wantNotFollowed(t, "from another place on", between.Cache, impl.ErrState, changes.Changes...)
		}
		if i < count-1 {
			wantNotFollowed(t, "one is left out", c, impl.ErrState, slices.Delete(slices.Clone(changes.Changes), i, i+1)...)
		}
	}
}

// Who is told that changes are gone lists anew, and follows from there on.
func TestWhoComesTooLateListsAnew(t *testing.T) {
	stores := storesBehind(t, longWrites(40))
	known := impl.ListStore(stores[0]).Cache
	for i, s := range stores {
		changes := impl.ChangesSince(s, known.Rev)
		if i == 13 || i == 26 || i == 39 {
			if changes.Code != impl.ErrNone {
				t.Errorf("ChangesSince %d behind %d writes = %v", known.Rev, i, changes)
			}
			known = impl.ListStore(s).Cache
		} else if got := impl.FollowChanges(known, changes.Changes); !impl.SameCaches(got.Cache, impl.ListStore(s).Cache) {
			t.Errorf("who knew %d has behind %d writes %v", known.Rev, i, got)
		}
	}
}

func TestFindCached(t *testing.T) {
	for what, c := range goodCaches() {
		for kind := int64(-1); kind <= 5; kind++ {
			for _, id := range sweep() {
				want := impl.ObjectResult{Code: impl.ErrNone}
				for _, o := range c.Objects {
					if o.Kind == kind && o.Id == id {
						want = impl.ObjectResult{Object: o}
					}
				}
				if got := impl.FindCached(c, impl.Key{Kind: kind, Id: id}); got != want {
					t.Errorf("%s: FindCached of %d, %d = %v, not %v", what, kind, id, got, want)
				}
			}
		}
	}
	if got := impl.FindCached(storyCache(), impl.Key{Kind: 3, Id: 10101}); got != (impl.ObjectResult{Object: impl.Object{Kind: 3, Id: 10101, A: 1, B: 1, C: 1, D: 1, Rev: 7}}) {
		t.Error("FindCached of the pod that is done =", got)
	}
	if got := impl.FindCached(storyCache(), impl.Key{Kind: 4}); got != (impl.ObjectResult{Object: impl.Object{Kind: 4, A: 2, B: 2, Rev: 10}}) {
		t.Error("FindCached of the lease =", got)
	}
	for _, k := range []impl.Key{{}, {Kind: 1}, {Kind: 1, Id: 4}, {Kind: 3, Id: 10102}, {Id: 1}, {Kind: 4, Id: 1}, {Kind: math.MinInt64, Id: math.MaxInt64}} {
		if got := impl.FindCached(storyCache(), k); got != (impl.ObjectResult{Code: impl.ErrNone}) {
			t.Errorf("FindCached of %v = %v", k, got)
		}
	}
}

func TestFindCachedAsksTheCacheFirst(t *testing.T) {
	for _, c := range faultyCaches() {
		for _, k := range []impl.Key{{}, {Kind: 1, Id: 1}, {Kind: 1, Id: 3}, {Kind: 4}, {Kind: 5}, {Kind: 9}} {
			if got := impl.FindCached(c.c, k); got != (impl.ObjectResult{Code: c.want}) {
				t.Errorf("%s: FindCached of %v = %v", c.what, k, got)
			}
		}
	}
}

// wantOtherCache asks that c is told apart from storyCache, and is the same as itself, with a fault or not.
func wantOtherCache(t *testing.T, what string, c impl.Cache) {
	t.Helper()
	if impl.SameCaches(c, storyCache()) || impl.SameCaches(storyCache(), c) || !impl.SameCaches(c, copiedCache(c)) {
		t.Errorf("%s: SameCaches does not tell them apart: %v", what, c)
	}
}

func TestSameCaches(t *testing.T) {
	caches := []impl.Cache{{}, cacheByHand(5), cacheByHand(math.MinInt64), cacheByHand(math.MaxInt64), storyCache(), fullCache(), cacheByHand(0, make([]impl.Object, 1)...), cacheByHand(0, make([]impl.Object, 70)...)}
	for _, l := range faultyLists() {
		caches = append(caches, cacheByHand(l.rev, l.objects...))
	}
	for i, a := range caches {
		for j, b := range caches {
			if got := impl.SameCaches(a, copiedCache(b)); got != (i == j) {
				t.Errorf("SameCaches of %d and %d = %v", i, j, got)
			}
		}
	}
	for what, turn := range map[string]func(c *impl.Cache){
		"an object more":        func(c *impl.Cache) { c.Objects = append(c.Objects, impl.Object{}) },
		"an object less":        func(c *impl.Cache) { c.Objects = c.Objects[:5] },
		"the first object less": func(c *impl.Cache) { c.Objects = c.Objects[1:] },
		"no objects":            func(c *impl.Cache) { c.Objects = nil },
		"another order":         func(c *impl.Cache) { c.Objects[0], c.Objects[1] = c.Objects[1], c.Objects[0] },
		"nothing":               func(c *impl.Cache) { *c = impl.Cache{} },
	} {
		wantOtherCache(t, what, turnedCache(storyCache(), turn))
	}
	c := storyCache()
	for _, number := range append(numbersOfObjects(c.Objects), &c.Rev) {
		for _, by := range []int64{1, -1, 1 << 32, math.MinInt64} {
			*number += by
			wantOtherCache(t, "a number", c)
			*number -= by
		}
	}
	for _, rev := range []int64{-1, 0, 3, math.MaxInt64} {
		none, empty := impl.Cache{Rev: rev}, impl.Cache{Rev: rev, Objects: []impl.Object{}}
		if !impl.SameCaches(none, empty) || !impl.SameCaches(empty, none) || !impl.SameCaches(none, none) {
			t.Errorf("at the Rev %d nil is not the same as an empty list", rev)
		}
	}
}

package tests

import (
	"math"
	"slices"
	"testing"

	"loop.example/g00730/impl"
)

// The tests of this file are those of promise 1, of the functions of chapter 4.

func spaciousCache(c impl.Cache) impl.Cache {
	return impl.Cache{Rev: c.Rev, Objects: spacious(c.Objects, markObject())}
}

func wantCacheKept(t *testing.T, what string, c impl.Cache, was impl.Cache) {
	t.Helper()
	wantKept(t, what, c.Objects, was.Objects, markObject())
	if c.Rev != was.Rev {
		t.Errorf("%s: the Rev was changed to %d", what, c.Rev)
	}
}

func p1Caches() []impl.Cache {
	list := []impl.Cache{{}, storyCache(), fullCache(), cacheByHand(100000, crowd(4)...), cacheByHand(14)}
	for _, c := range faultyCaches() {
		list = append(list, c.c)
	}
	return list
}

// p1Lists are changes that one of the caches takes, or that are refused for each reason that there is.
func p1Lists() [][]impl.Change {
	set, pod := impl.NewSet(1, 5), podByHand(1, 15, 0, 0)
	return [][]impl.Change{
		nil, {}, {comes(set, 15), goes(set, 16), comes(pod, 17), goes(pod, 18)}, {goes(set, 15)}, {goes(pod, 15)},
		{comes(pod, 61)}, {goes(set, 61), comes(pod, 62)}, {comes(set, 1)}, setsFrom(14, 12), setsFrom(14, 13),
		{{}}, {comes(impl.NewSet(1, 9), 15)}, {comes(set, 15), comes(set, 15)}, {comes(set, 100000)}, {comes(set, 100001)},
	}
}

func p1Revs() []int64 {
	return []int64{math.MinInt64, -100001, -1, 0, 1, 2, 11, 13, 14, 15, 48, 60, 61, 99988, 100000, 100001, math.MaxInt64}
}

// wantCacheAnswers calls all functions of chapter 4 that take a cache, and asks that beside a code all else is zero.
func wantCacheAnswers(t *testing.T, c impl.Cache, list []impl.Change, k impl.Key) {
	t.Helper()
	fault := impl.CacheFault(c)
	wantCode(t, "CacheFault", fault)
	found := impl.FindCached(c, k)
	wantCode(t, "FindCached", found.Code)
	if found.Code != impl.OK && found.Object != (impl.Object{}) || fault != impl.OK && found.Code != fault {
		t.Errorf("FindCached = %v, where the cache has the fault %d", found, fault)
	}
	got := impl.FollowChanges(c, list)
	wantCode(t, "FollowChanges", got.Code)
	if got.Code != impl.OK && !sameCachesByHand(got.Cache, impl.Cache{}) || fault != impl.OK && got.Code != fault {
		t.Errorf("FollowChanges = %v, where the cache has the fault %d", got, fault)
	}
	if again := impl.FollowChanges(c, list); again.Code != got.Code || !sameCachesByHand(again.Cache, got.Cache) {
		t.Errorf("FollowChanges = %v, then %v", got, again)
	}
	if !impl.SameCaches(c, copiedCache(c)) {
		t.Errorf("SameCaches does not know %v again", c)
	}
}

// wantListAnswers calls those that take a store.
func wantListAnswers(t *testing.T, s impl.Store, rev int64) {
	t.Helper()
	fault, listed, changes := impl.StoreFault(s), impl.ListStore(s), impl.ChangesSince(s, rev)
	wantCode(t, "ChangesSince", changes.Code)
	if listed.Code != fault || fault != impl.OK && !sameCachesByHand(listed.Cache, impl.Cache{}) {
		t.Errorf("ListStore = %v, where the store has the fault %d", listed, fault)
	}
	if changes.Code != impl.OK && len(changes.Changes) > 0 || fault != impl.OK && changes.Code != fault {
		t.Errorf("ChangesSince %d = %v, where the store has the fault %d", rev, changes, fault)
	}
	again := impl.ChangesSince(s, rev)
	if again.Code != changes.Code || !slices.Equal(again.Changes, changes.Changes) || !sameCachesByHand(impl.ListStore(s).Cache, listed.Cache) {
		t.Errorf("ChangesSince %d = %v, then %v", rev, changes, again)
	}
}

func TestCacheFunctionsAnswerAtEveryArgument(t *testing.T) {
	keys := []impl.Key{{}, {Kind: 1, Id: 1}, {Kind: 4}, {Kind: math.MinInt64, Id: math.MaxInt64}}
	for _, c := range p1Caches() {
		for _, list := range p1Lists() {
			for _, k := range keys {
				wantCacheAnswers(t, c, list, k)
			}
		}
	}
	for _, s := range p1Stores() {
		for _, rev := range p1Revs() {
			wantListAnswers(t, s, rev)
		}
	}
	for _, n := range p1Revs() {
		all := impl.Object{Kind: n, Id: n, A: n, B: n, C: n, D: n, Rev: n}
		change := impl.Change{Rev: n, Gone: true, Object: all}
		wantCacheAnswers(t, cacheByHand(n, all), []impl.Change{change}, impl.Key{Kind: n, Id: n})
		wantCacheAnswers(t, cacheByHand(n), []impl.Change{change}, impl.Key{Kind: n, Id: n})
		wantCacheAnswers(t, cacheByHand(n), []impl.Change{comes(impl.NewSet(1, 1), n)}, impl.Key{})
		wantCacheAnswers(t, storyCache(), []impl.Change{change, change}, impl.Key{Kind: n, Id: n})
		wantListAnswers(t, impl.Store{Rev: n, Objects: []impl.Object{all}, History: []impl.Change{change}}, n)
	}
	wantCacheAnswers(t, cacheByHand(5, make([]impl.Object, 5000)...), make([]impl.Change, 5000), impl.Key{})
	wantCacheAnswers(t, cacheByHand(5), make([]impl.Change, 100000), impl.Key{})
}

func TestNilIsAnEmptyListOfACache(t *testing.T) {
	for _, rev := range p1Revs() {
		none, change := impl.Cache{Rev: rev}, []impl.Change{comes(impl.NewSet(1, 1), rev+1)}
		for _, empty := range []impl.Cache{{Rev: rev, Objects: []impl.Object{}}, spaciousCache(none)} {
			if impl.CacheFault(none) != impl.CacheFault(empty) || impl.FindCached(none, impl.Key{}) != impl.FindCached(empty, impl.Key{}) || !impl.SameCaches(none, empty) {
				t.Errorf("at the Rev %d nil is answered otherwise than an empty list", rev)
			}
			for _, list := range [][]impl.Change{nil, {}, change} {
				a, b := impl.FollowChanges(none, list), impl.FollowChanges(empty, list)
				if a.Code != b.Code || !sameCachesByHand(a.Cache, b.Cache) {
					t.Errorf("at the Rev %d FollowChanges = %v of nil, %v of an empty list", rev, a, b)
				}
			}
		}
		a, b := impl.FollowChanges(none, nil), impl.FollowChanges(none, []impl.Change{})
		if a.Code != b.Code || !sameCachesByHand(a.Cache, b.Cache) {
			t.Errorf("at the Rev %d FollowChanges = %v by nil, %v by an empty list", rev, a, b)
		}
	}
	for _, s := range []impl.Store{{}, {Objects: []impl.Object{}, History: []impl.Change{}}, spaciousStore(impl.Store{})} {
		wantCache(t, "ListStore of nothing", impl.ListStore(s), impl.Cache{})
		wantChanges(t, s, 0)
		wantNoChanges(t, s, 1, impl.ErrRange)
	}
	wantFollowed(t, "nothing by nothing", impl.Cache{}, impl.Cache{})
}

func TestCacheFunctionsChangeNoArgument(t *testing.T) {
	for _, was := range p1Caches() {
		c, other := spaciousCache(was), spaciousCache(was)
		for _, changes := range p1Lists() {
			list := spacious(changes, markChange())
			impl.CacheFault(c)
			impl.FollowChanges(c, list)
			impl.FindCached(c, impl.Key{Kind: 1, Id: 1})
			impl.SameCaches(c, other)
			wantKept(t, "FollowChanges", list, changes, markChange())
		}
		wantCacheKept(t, "a cache", c, was)
		wantCacheKept(t, "another cache", other, was)
	}
	for _, was := range p1Stores() {
		s := spaciousStore(was)
		impl.ListStore(s)
		for _, rev := range p1Revs() {
			impl.ChangesSince(s, rev)
		}
		wantStoreKept(t, "a store", s, was)
	}
}

func TestListedObjectsAreNewMemory(t *testing.T) {
	for _, was := range p1Stores()[:6] {
		s := spaciousStore(was)
		first, second := impl.ListStore(s).Cache, impl.ListStore(s).Cache
		want := cacheByHand(was.Rev, slices.Clone(was.Objects)...)
		overwrite(second.Objects, markObject())
		wantStoreKept(t, "ListStore, its answer written into", s, was)
		overwriteStore(s)
		if !sameCachesByHand(first, want) {
			t.Error("ListStore: the answer changes with the argument, or with another answer:", first)
		}
	}
}

func TestChangesAreNewMemory(t *testing.T) {
	for _, was := range p1Stores()[:6] {
		for rev := max(was.Rev-12, 0); rev <= was.Rev; rev++ {
			s := spaciousStore(was)
			first, second := impl.ChangesSince(s, rev).Changes, impl.ChangesSince(s, rev).Changes
			want := slices.Clone(first)
			overwrite(second, markChange())
			wantStoreKept(t, "ChangesSince, its answer written into", s, was)
			overwriteStore(s)
			if !slices.Equal(first, want) {
				t.Error("ChangesSince: the answer changes with the argument, or with another answer:", first)
			}
		}
	}
}

func TestFollowedCachesAreNewMemory(t *testing.T) {
	for _, was := range p1Caches()[:5] {
		for _, changes := range p1Lists() {
			c, list := spaciousCache(was), spacious(changes, markChange())
			first, second := impl.FollowChanges(c, list).Cache, impl.FollowChanges(c, list).Cache
			want := copiedCache(first)
			overwrite(second.Objects, markObject())
			wantCacheKept(t, "FollowChanges, its answer written into", c, was)
			wantKept(t, "FollowChanges, its answer written into", list, changes, markChange())
			overwrite(c.Objects, markObject())
			overwrite(list, markChange())
			if !sameCachesByHand(first, want) {
				t.Error("FollowChanges: the answer changes with an argument, or with another answer:", first)
			}
		}
	}
}

func TestACachedObjectStays(t *testing.T) {
	c := storyCache()
	got := impl.FindCached(c, impl.Key{Kind: 4})
	overwrite(c.Objects, markObject())
	if got != (impl.ObjectResult{Object: impl.Object{Kind: 4, A: 2, B: 2, Rev: 10}}) {
		t.Error("what was found changes with the cache:", got)
	}
}

func TestCacheAnswersHangOnTheArgumentsAlone(t *testing.T) {
	k := impl.Key{Kind: 1, Id: 1}
	for _, c := range p1Caches() {
		for _, list := range p1Lists() {
			fault, got, found := impl.CacheFault(c), impl.FollowChanges(c, list), impl.FindCached(c, k)
			want := copiedCache(got.Cache)
			overwrite(got.Cache.Objects, markObject())
			impl.FollowChanges(fullCache(), []impl.Change{comes(podByHand(1, 15, 0, 0), 61)})
			impl.FollowChanges(cacheByHand(7), setsFrom(7, 12))
			impl.ChangesSince(storyStore(), 5)
			impl.ListStore(fullStore())
			again := impl.FollowChanges(c, list)
			if again.Code != got.Code || !sameCachesByHand(again.Cache, want) || impl.CacheFault(c) != fault || impl.FindCached(c, k) != found {
				t.Errorf("of %v and %v the second answer is another one", c, list)
			}
		}
	}
}

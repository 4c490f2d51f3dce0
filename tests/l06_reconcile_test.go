package tests

import (
	"cmp"
	"math"
	"slices"
	"strings"
	"testing"

	"loop.example/g00730/impl"
)

// The tests of this file are those of promise 7: what is to be done can be written, and comes to an end, where all that is wanted is there.

// podsByHand are the pods of an owner by a letter for each index: l is a live one, d one that is done, f one that failed, a point is none. Blanks count for nothing.
func podsByHand(kind, owner int64, letters string) []impl.Object {
	pods := []impl.Object{}
	for i, letter := range strings.ReplaceAll(letters, " ", "") {
		if state := strings.IndexRune("ldf", letter); state >= 0 {
			pods = append(pods, podByHand(kind, owner, int64(i), int64(state)))
		}
	}
	return pods
}

// knows is what is known where these objects are there, each with a Rev of its own that does not rise with its place.
func knows(lists ...[]impl.Object) impl.Cache {
	objects := slices.Concat(lists...)
	slices.SortFunc(objects, func(a, b impl.Object) int {
		return cmp.Or(cmp.Compare(a.Kind, b.Kind), cmp.Compare(a.Id, b.Id))
	})
	for i := range objects {
		objects[i].Rev = int64(37*i%61) + 1
	}
	return cacheByHand(70, objects...)
}

func listed(objects ...impl.Object) []impl.Object {
	return objects
}

func steps(w impl.Write) impl.StepResult {
	return impl.StepResult{Write: w}
}

func nothing() impl.StepResult {
	return impl.StepResult{Code: impl.ErrNone}
}

// revByHand is the Rev of what has the Kind and Id of o in c, 0 where there is none.
func revByHand(c impl.Cache, o impl.Object) int64 {
	for _, is := range c.Objects {
		if is.Kind == o.Kind && is.Id == o.Id {
			return is.Rev
		}
	}
	return 0
}

func putStep(c impl.Cache, o impl.Object) impl.StepResult {
	return steps(put(at(o, 0), revByHand(c, o), 0))
}

func delStep(c impl.Cache, o impl.Object) impl.StepResult {
	return steps(del(at(o, 0), revByHand(c, o), 0))
}

// stateByHand is the state of a pod, -1 where there is none.
func stateByHand(c impl.Cache, kind, owner, index int64) int64 {
	for _, o := range c.Objects {
		if o.Kind == 3 && o.A == kind && o.B == owner && o.C == index {
			return o.D
		}
	}
	return -1
}

// foundByHand is the object of a Kind and Id, where it is there.
func foundByHand(c impl.Cache, kind, id int64) (impl.Object, bool) {
	for _, o := range c.Objects {
		if o.Kind == kind && o.Id == id {
			return o, true
		}
	}
	return impl.Object{}, false
}

// setStepByHand goes along the document for NextForSet, index by index.
func setStepByHand(c impl.Cache, id int64) impl.StepResult {
	set, there := foundByHand(c, 1, id)
	if !there {
		return nothing()
	}
	live, free, last := int64(0), int64(-1), int64(-1)
	for index := range int64(16) {
		switch state := stateByHand(c, 1, id, index); state {
		case 0:
			live, last = live+1, index
		case 1, 2:
			return delStep(c, podByHand(1, id, index, state))
		default:
			if free < 0 {
				free = index
			}
		}
	}
	if live < set.A {
		return putStep(c, podByHand(1, id, free, 0))
	}
	if live > set.A {
		return delStep(c, podByHand(1, id, last, 0))
	}
	return nothing()
}

// triesByHand are the states of the three tries of an index.
func triesByHand(c impl.Cache, id, n int64) [3]int64 {
	return [3]int64{stateByHand(c, 2, id, 3*n), stateByHand(c, 2, id, 3*n+1), stateByHand(c, 2, id, 3*n+2)}
}

func isDoneByHand(tries [3]int64) bool {
	return tries[0] == 1 || tries[1] == 1 || tries[2] == 1
}

// nextTryByHand is which of the three tries is put next, -1 where none is.
func nextTryByHand(tries [3]int64) int64 {
	switch {
	case isDoneByHand(tries), tries[2] != -1, tries[1] == 0:
		return -1
	case tries[1] == 2:
		return 2
	case tries[0] == 0:
		return -1
	case tries[0] == 2:
		return 1
	}
	return 0
}

func doneByHand(c impl.Cache, job impl.Object) int64 {
	done := int64(0)
	for n := range job.A {
		if isDoneByHand(triesByHand(c, job.Id, n)) {
			done++
		}
	}
	return done
}

func jobStepByHand(c impl.Cache, id int64) impl.StepResult {
	job, there := foundByHand(c, 2, id)
	if !there {
		return nothing()
	}
	for n := range job.A {
		if next := nextTryByHand(triesByHand(c, id, n)); next >= 0 {
			return putStep(c, podByHand(2, id, 3*n+next, 0))
		}
	}
	if done := doneByHand(c, job); done != job.B {
		return putStep(c, impl.Object{Kind: 2, Id: id, A: job.A, B: done})
	}
	return nothing()
}

func orphanByHand(c impl.Cache) impl.StepResult {
	for _, o := range c.Objects {
		if _, there := foundByHand(c, o.A, o.B); o.Kind == 3 && !there {
			return delStep(c, o)
		}
	}
	return nothing()
}

func nextByHand(c impl.Cache) impl.StepResult {
	told := orphanByHand(c)
	for id := int64(0); id < 20 && told.Code != impl.OK; id++ {
		told = setStepByHand(c, id)
	}
	for id := int64(0); id < 20 && told.Code != impl.OK; id++ {
		told = jobStepByHand(c, id)
	}
	return told
}

func wantStep(t *testing.T, what string, got, want impl.StepResult) {
	t.Helper()
	if got != want {
		t.Errorf("%s: %v, not %v", what, got, want)
	}
}

// wantNext asks NextWrite, and IsConverged with it.
func wantNext(t *testing.T, what string, c impl.Cache, want impl.StepResult) {
	t.Helper()
	wantStep(t, what+": NextWrite", impl.NextWrite(c), want)
	if got := impl.IsConverged(c); got != (want.Code == impl.ErrNone) {
		t.Errorf("%s: IsConverged = %v, where the next one is %v", what, got, want)
	}
}

func wantPods(t *testing.T, what string, c impl.Cache, k impl.Key, indexes ...int64) {
	t.Helper()
	if got := impl.PodsOf(c, k); got.Code != impl.OK || !slices.Equal(got.List, indexes) {
		t.Errorf("%s: PodsOf %v = %v, not %v", what, k, got, indexes)
	}
}

func wantLive(t *testing.T, what string, c impl.Cache, k impl.Key, live int64) {
	t.Helper()
	if got := impl.LiveOf(c, k); got != (impl.IntResult{Value: live}) {
		t.Errorf("%s: LiveOf %v = %v, not %d", what, k, got, live)
	}
}

func wantNoPods(t *testing.T, what string, c impl.Cache, k impl.Key, want int64) {
	t.Helper()
	if got := impl.PodsOf(c, k); got.Code != want || len(got.List) != 0 {
		t.Errorf("%s: PodsOf %v = %v, not just the code %d", what, k, got, want)
	}
	if got := impl.LiveOf(c, k); got != (impl.IntResult{Code: want}) {
		t.Errorf("%s: LiveOf %v = %v, not just the code %d", what, k, got, want)
	}
}

// sideBySide has pods of the set 1 and of the job 1, of owners that are not there, and owners that have none.
func sideBySide() impl.Cache {
	return knows(
		listed(impl.NewSet(0, 2), impl.NewSet(1, 4), impl.NewSet(19, 1), impl.NewJob(1, 8, 0), impl.NewJob(2, 1, 0)),
		podsByHand(1, 1, "l.dfl.......... f"), podsByHand(1, 3, ".ld"), podsByHand(1, 19, "...............l"),
		podsByHand(2, 1, ".f. ll. d.. ... ... ... ... ..l"), podsByHand(2, 19, "f"),
		listed(impl.NewLease(2, 5)),
	)
}

func TestPodsAndLiveOfOwners(t *testing.T) {
	c := sideBySide()
	for _, o := range []struct {
		what    string
		k       impl.Key
		live    int64
		indexes []int64
	}{
		{"a set with pods of all states", impl.Key{Kind: 1, Id: 1}, 2, []int64{0, 2, 3, 4, 15}},
		{"the job of the same Id", impl.Key{Kind: 2, Id: 1}, 3, []int64{1, 3, 4, 6, 23}},
		{"a set that is there and has none", impl.Key{Kind: 1, Id: 0}, 0, nil},
		{"a job that is there and has none", impl.Key{Kind: 2, Id: 2}, 0, nil},
		{"a set that is not there, but has pods", impl.Key{Kind: 1, Id: 3}, 1, []int64{1, 2}},
		{"a job that is not there, but has a pod", impl.Key{Kind: 2, Id: 19}, 0, []int64{0}},
		{"the last set", impl.Key{Kind: 1, Id: 19}, 1, []int64{15}},
		{"a set that is not there", impl.Key{Kind: 1, Id: 2}, 0, nil},
		{"a job that is not there", impl.Key{Kind: 2, Id: 0}, 0, nil},
	} {
		wantPods(t, o.what, c, o.k, o.indexes...)
		wantLive(t, o.what, c, o.k, o.live)
	}
	for _, id := range []int64{math.MinInt64, math.MinInt64 + 1, -1, 20, 21, 100, 101, 1 << 32, 1<<32 + 1, 10100, math.MaxInt64} {
		for kind := int64(1); kind <= 2; kind++ {
			wantPods(t, "an Id that no owner can have", c, impl.Key{Kind: kind, Id: id})
			wantLive(t, "an Id that no owner can have", c, impl.Key{Kind: kind, Id: id}, 0)
		}
	}
}

func TestOnlySetsAndJobsHavePods(t *testing.T) {
	for _, c := range []impl.Cache{{}, sideBySide(), storyCache()} {
		for _, kind := range []int64{math.MinInt64, -2, -1, 0, 3, 4, 5, 6, 1 << 32, 1<<32 + 1, 1<<32 + 2, math.MaxInt64} {
			for _, id := range []int64{math.MinInt64, -1, 0, 1, 2, 19, 20, 10100, math.MaxInt64} {
				wantNoPods(t, "another Kind", c, impl.Key{Kind: kind, Id: id}, impl.ErrForm)
			}
		}
		for kind := int64(1); kind <= 2; kind++ {
			if got := impl.PodsOf(c, impl.Key{Kind: kind, Id: 7}); got.Code != impl.OK || len(got.List) != 0 {
				t.Errorf("PodsOf of the Kind %d = %v", kind, got)
			}
		}
	}
}

func TestPodsOfManyIndexes(t *testing.T) {
	all := []int64{}
	for index := range int64(24) {
		all = append(all, index)
	}
	c := knows(listed(impl.NewSet(5, 8), impl.NewJob(5, 8, 0)), podsByHand(1, 5, "lfdlfdlfdlfdlfdl"), podsByHand(2, 5, strings.Repeat("ldf", 8)))
	wantPods(t, "all 16", c, impl.Key{Kind: 1, Id: 5}, all[:16]...)
	wantLive(t, "all 16", c, impl.Key{Kind: 1, Id: 5}, 6)
	wantPods(t, "all 24", c, impl.Key{Kind: 2, Id: 5}, all...)
	wantLive(t, "all 24", c, impl.Key{Kind: 2, Id: 5}, 8)
}

func wantDone(t *testing.T, what string, c impl.Cache, id int64, want impl.IntResult) {
	t.Helper()
	if got := impl.DoneOf(c, id); got != want {
		t.Errorf("%s: DoneOf %d = %v, not %v", what, id, got, want)
	}
}

func TestDoneOf(t *testing.T) {
	for _, o := range []struct {
		want, done int64
		letters    string
	}{
		{0, 0, ""}, {0, 0, "d"}, {0, 0, "ddd ddd"}, {1, 0, ""}, {1, 0, "l"}, {1, 0, "fff"}, {1, 0, "lff"},
		{1, 1, "d.."}, {1, 1, ".d."}, {1, 1, "..d"}, {1, 1, "dff"}, {1, 1, "fdf"}, {1, 1, "ffd"}, {1, 1, "dll"}, {1, 1, "ldf"}, {1, 1, "fld"},
		{1, 1, "dd."}, {1, 1, "ddd"}, {2, 1, "ddd"}, {2, 1, "ddd fff"}, {2, 2, "ffd d"}, {2, 1, "... ..d"}, {2, 1, ".d. ... d"},
		{1, 0, "... d"}, {1, 1, "d.. d.. d"}, {2, 2, "..d d.. d"}, {3, 1, "l.. .d. f.. ddd"}, {7, 0, "... ... ... ... ... ... ... ddd"},
		{8, 8, "d.. .d. ..d d.. .d. ..d d.. .d."}, {8, 8, "ddd ddd ddd ddd ddd ddd ddd ddd"}, {8, 7, "d.. d.. d.. fff d.. d.. d.. d.."}, {8, 1, "... ... ... ... ... ... ... ..d"}, {7, 7, "ddd ddd ddd ddd ddd ddd ddd ddd"},
	} {
		for _, id := range []int64{0, 7, 19} {
			for told := range int64(9) {
				c := knows(listed(impl.NewSet(id, 3), impl.NewJob(id, o.want, told)), podsByHand(1, id, "ddd"), podsByHand(2, id, o.letters), podsByHand(2, (id+1)%20, "d.. d"))
				wantDone(t, o.letters, c, id, impl.IntResult{Value: o.done})
				wantDone(t, "no such job", c, (id+1)%20, impl.IntResult{Code: impl.ErrNone})
			}
		}
	}
	c := knows(listed(impl.NewSet(3, 2)), podsByHand(2, 3, "d"), podsByHand(1, 3, "d"))
	wantDone(t, "a set with this Id", c, 3, impl.IntResult{Code: impl.ErrNone})
}

func TestNoSuchOwner(t *testing.T) {
	for _, c := range []impl.Cache{{}, sideBySide(), storyCache(), fullCache()} {
		for _, id := range edgeValues() {
			if _, there := foundByHand(c, 1, id); !there {
				wantStep(t, "no such set", impl.NextForSet(c, id), nothing())
			}
			if _, there := foundByHand(c, 2, id); !there {
				wantStep(t, "no such job", impl.NextForJob(c, id), nothing())
				wantDone(t, "no such job", c, id, impl.IntResult{Code: impl.ErrNone})
			}
		}
	}
	alone := knows(podsByHand(1, 4, "dl"), listed(impl.NewJob(4, 0, 0)))
	wantStep(t, "a job with this Id, and pods", impl.NextForSet(alone, 4), nothing())
	alone = knows(podsByHand(2, 4, "fl"), listed(impl.NewSet(4, 0)))
	wantStep(t, "a set with this Id, and pods", impl.NextForJob(alone, 4), nothing())
}

// setCase: of the pods of a set that wants so many, that with the index is put or deleted; nothing is done where op is 0.
type setCase struct {
	want    int64
	letters string
	op      int64
	index   int64
}

func setCases() []setCase {
	return []setCase{
		{0, "", 0, 0}, {1, "l", 0, 0}, {1, "...............l", 0, 0}, {3, "ll......l", 0, 0}, {8, "llllllll", 0, 0}, {8, "l.l.l.l.l.l.l.l.", 0, 0}, {8, "........llllllll", 0, 0},
		{1, "", 1, 0}, {8, "", 1, 0}, {8, "l", 1, 1}, {8, "lll", 1, 3}, {8, "lllllll", 1, 7}, {2, ".l", 1, 0}, {3, "l.l", 1, 1}, {4, "l.l.l", 1, 1}, {8, "lll.llll", 1, 3}, {8, "llll.l.l", 1, 4},
		{2, "...............l", 1, 0}, {8, ".........lllllll", 1, 0}, {8, "lllll.........ll", 1, 5}, {8, ".llll........lll", 1, 0}, {2, "........l", 1, 0},
		{0, "l", 2, 0}, {0, "...............l", 2, 15}, {1, "ll", 2, 1}, {2, "l.l..l", 2, 5}, {2, "lll", 2, 2}, {7, "llllllll", 2, 7}, {8, "lllllllll", 2, 8},
		{0, "llllllllllllllll", 2, 15}, {8, "llllllllllllllll", 2, 15}, {8, "llllllll.......l", 2, 15}, {1, "l..............l", 2, 15}, {8, "..lllllllllllll.", 2, 14},
		{3, "ld", 2, 1}, {3, "lf", 2, 1}, {3, "fl", 2, 0}, {3, "l.f", 2, 2}, {3, "dddf", 2, 0}, {3, ".ff", 2, 1}, {8, "l..............d", 2, 15}, {8, "lllllll........f", 2, 15},
		{1, "lld", 2, 2}, {1, "lldll", 2, 2}, {1, "dll", 2, 0}, {1, "lfll", 2, 1}, {1, "llll.f.l.d", 2, 5}, {0, "lllf", 2, 3}, {0, "f", 2, 0}, {0, "d", 2, 0},
		{2, "lld", 2, 2}, {2, "l.d.l.f", 2, 2}, {2, "l.f.l.d", 2, 2}, {8, "llllllll.......d", 2, 15},
		{8, "fddfddfddfddfddf", 2, 0}, {8, "llllllllllllllld", 2, 15}, {8, "fllllllllllllll.", 2, 0}, {0, "llllllllldllllll", 2, 9}, {8, "llllllllllllllfd", 2, 14},
	}
}

// setStepOf is what is to be done by a setCase.
func setStepOf(c impl.Cache, o setCase, id int64) impl.StepResult {
	switch o.op {
	case 1:
		return putStep(c, podByHand(1, id, o.index, 0))
	case 2:
		return delStep(c, podByHand(1, id, o.index, stateByHand(c, 1, id, o.index)))
	}
	return nothing()
}

func TestNextForSet(t *testing.T) {
	for _, o := range setCases() {
		for _, id := range []int64{0, 7, 18, 19} {
			alone := knows(listed(impl.NewSet(id, o.want)), podsByHand(1, id, o.letters))
			wantStep(t, o.letters, impl.NextForSet(alone, id), setStepOf(alone, o, id))
			wantStep(t, o.letters, impl.NextOrphan(alone), nothing())
			wantNext(t, o.letters, alone, setStepOf(alone, o, id))
			// Nothing of this is the set's: not the job of the same Id, not its neighbours, not the lease.
			near := (id + 1) % 20
			among := knows(
				listed(impl.NewSet(id, o.want), impl.NewJob(id, 8, 3), impl.NewSet(near, 5), impl.NewLease(1, 3)),
				podsByHand(1, id, o.letters), podsByHand(2, id, "lfd ddd lll fff"), podsByHand(1, near, "fl.d..l........l"), podsByHand(2, near, "lfd"),
			)
			wantStep(t, o.letters+" among others", impl.NextForSet(among, id), setStepOf(among, o, id))
		}
	}
	c := cacheByHand(5, at(impl.NewSet(0, 1), 1))
	wantStep(t, "the document's own", impl.NextForSet(c, 0), steps(impl.Write{Op: 1, Object: impl.Object{Kind: 3, Id: 10000, A: 1}}))
}

// Each way in which the lowest six indexes can be taken, and a pod beyond what is wanted.
func TestNextForSetOfEachSixIndexes(t *testing.T) {
	for n := range 4096 {
		letters := []byte("......")
		for i := range letters {
			letters[i] = ".ldf"[n>>(2*i)&3]
		}
		for _, beyond := range []string{"", "......l", ".........l"} {
			want := int64(n+len(beyond)) % 9
			c := knows(listed(impl.NewSet(2, want)), podsByHand(1, 2, string(letters)+beyond))
			wantStep(t, string(letters)+beyond, impl.NextForSet(c, 2), setStepByHand(c, 2))
		}
	}
}

func TestASetOfSixteenPods(t *testing.T) {
	for want := range int64(9) {
		c := knows(listed(impl.NewSet(2, want)), podsByHand(1, 2, strings.Repeat("l", 16)))
		for left := int64(16); left > want; left-- {
			step := impl.NextForSet(c, 2)
			wantStep(t, "too many", step, delStep(c, podByHand(1, 2, left-1, 0)))
			c.Objects = c.Objects[:left]
		}
		wantStep(t, "as many as are wanted", impl.NextForSet(c, 2), nothing())
		if len(c.Objects) != int(want)+1 {
			t.Error("of 16 pods there are still", c.Objects)
		}
	}
}

// jobCase: of a job that wants so many indexes, of which so many are told to be done, the pod with the index is put, or so many are told; nothing is done where what is a blank.
type jobCase struct {
	want, told int64
	letters    string
	what       string
	n          int64
}

func jobCases() []jobCase {
	tries := func(each string) string { return strings.Repeat(each, 8) }
	return []jobCase{
		// One index.
		{1, 0, "", "put", 0}, {1, 0, "l..", "", 0}, {1, 0, "f..", "put", 1}, {1, 0, "ff.", "put", 2}, {1, 0, "fff", "", 0}, {1, 0, "fl.", "", 0}, {1, 0, "ffl", "", 0},
		{1, 1, "d..", "", 0}, {1, 1, "fd.", "", 0}, {1, 1, "ffd", "", 0}, {1, 1, "df.", "", 0}, {1, 1, "dff", "", 0}, {1, 1, "fdf", "", 0}, {1, 1, "dl.", "", 0}, {1, 1, "ld.", "", 0}, {1, 1, "lfd", "", 0}, {1, 1, "d.f", "", 0},
		{1, 0, ".l.", "", 0}, {1, 0, "..l", "", 0}, {1, 0, ".f.", "put", 2}, {1, 0, "..f", "", 0}, {1, 0, "f.f", "", 0}, {1, 0, "f.l", "", 0}, {1, 0, "l.f", "", 0}, {1, 0, ".ff", "", 0}, {1, 0, ".fl", "", 0}, {1, 0, ".lf", "", 0}, {1, 1, ".d.", "", 0}, {1, 1, "..d", "", 0},
		{1, 0, "lf.", "put", 2}, {1, 0, "lff", "", 0}, {1, 0, "ll.", "", 0}, {1, 0, "lll", "", 0}, {1, 0, "llf", "", 0}, {1, 0, "flf", "", 0},
		// What is told of it: below, at and above.
		{1, 0, "d..", "told", 1}, {1, 2, "d..", "told", 1}, {1, 8, "d..", "told", 1}, {1, 1, "fff", "told", 0}, {1, 1, "l..", "told", 0}, {1, 8, "..f", "told", 0}, {1, 0, "dff", "told", 1}, {1, 0, "ld.", "told", 1},
		{1, 1, "", "put", 0}, {1, 8, "f..", "put", 1}, {1, 5, "ff.", "put", 2},
		// Some indexes.
		{2, 0, "", "put", 0}, {2, 0, "l..", "put", 3}, {2, 0, "..f", "put", 3}, {2, 0, "fff", "put", 3}, {2, 0, "... l..", "put", 0}, {2, 0, "d.. f..", "put", 4}, {2, 0, "f.. f..", "put", 1}, {2, 0, "ff. f..", "put", 2}, {2, 0, "fff ff.", "put", 5},
		{2, 0, "d.. fff", "told", 1}, {2, 1, "d.. fff", "", 0}, {2, 1, "d.. d..", "told", 2}, {2, 3, "d.. d..", "told", 2}, {2, 2, "d.. d..", "", 0}, {2, 0, "l.. d..", "told", 1}, {2, 1, "l.. d..", "", 0}, {2, 1, "fff .d.", "", 0},
		{3, 0, "l.. l..", "put", 6}, {3, 1, "fff d.. fl.", "", 0}, {3, 2, "fff d.. fl.", "told", 1}, {3, 0, "ddd lf. ff.", "put", 5},
		{8, 0, "", "put", 0}, {8, 0, "l.. l.. l.. l.. l.. l.. l..", "put", 21}, {8, 0, "l.. l.. l.. l.. l.. l.. l.. f", "put", 22}, {8, 0, "d.. d.. d.. d.. d.. d.. d.. ff", "put", 23}, {8, 0, "l.. l.. l.. ... l.. l.. l.. l", "put", 9},
		{8, 8, tries("d.."), "", 0}, {8, 7, tries("d.."), "told", 8}, {8, 0, tries("ddd"), "told", 8}, {8, 0, tries("fff"), "", 0}, {8, 5, tries("fff"), "told", 0}, {8, 0, tries("l.."), "", 0}, {8, 7, tries("ffd")[:23] + "f", "", 0},
		// None, and indexes beyond what is wanted.
		{0, 0, "", "", 0}, {0, 3, "", "told", 0}, {0, 8, "", "told", 0}, {0, 0, "d.. f..", "", 0}, {0, 2, "d.. d..", "told", 0}, {0, 0, tries("l.."), "", 0},
		{1, 1, "d.. d.. d..", "", 0}, {1, 3, "d.. d.. d..", "told", 1}, {1, 0, "l.. f..", "", 0}, {1, 0, "... f..", "put", 0}, {1, 0, "... d..", "put", 0}, {1, 0, "fff d..", "", 0}, {2, 2, "d.. d.. ff.", "", 0}, {2, 0, "f.. l.. ddd", "put", 1},
		{7, 7, "d.. d.. d.. d.. d.. d.. d.. f..", "", 0}, {7, 8, tries("d.."), "told", 7}, {7, 7, tries("d.."), "", 0},
	}
}

func jobStepOf(c impl.Cache, o jobCase, id int64) impl.StepResult {
	switch o.what {
	case "put":
		return putStep(c, podByHand(2, id, o.n, 0))
	case "told":
		return putStep(c, impl.Object{Kind: 2, Id: id, A: o.want, B: o.n})
	}
	return nothing()
}

func TestNextForJob(t *testing.T) {
	for _, o := range jobCases() {
		for _, id := range []int64{0, 7, 18, 19} {
			alone := knows(listed(impl.NewJob(id, o.want, o.told)), podsByHand(2, id, o.letters))
			wantStep(t, o.letters, impl.NextForJob(alone, id), jobStepOf(alone, o, id))
			wantStep(t, o.letters, impl.NextOrphan(alone), nothing())
			wantNext(t, o.letters, alone, jobStepOf(alone, o, id))
			// Nothing of this is the job's: not the set of the same Id, not its neighbours, not the lease.
			near := (id + 1) % 20
			among := knows(
				listed(impl.NewJob(id, o.want, o.told), impl.NewSet(id, 2), impl.NewJob(near, 3, 3), impl.NewLease(0, 9)),
				podsByHand(2, id, o.letters), podsByHand(1, id, "dfl.....dfl.l"), podsByHand(2, near, "f.. d.. l"), podsByHand(1, near, "dd"),
			)
			wantStep(t, o.letters+" among others", impl.NextForJob(among, id), jobStepOf(among, o, id))
		}
	}
}

// Each way in which two indexes can have tries, of jobs that want none, one, or both.
func TestNextForJobOfEachSixTries(t *testing.T) {
	for n := range 4096 {
		letters := []byte("......")
		for i := range letters {
			letters[i] = ".ldf"[n>>(2*i)&3]
		}
		for want := range int64(3) {
			for _, told := range []int64{0, 1, 2, 8} {
				c := knows(listed(impl.NewJob(2, want, told)), podsByHand(2, 2, string(letters)))
				wantStep(t, string(letters), impl.NextForJob(c, 2), jobStepByHand(c, 2))
				job := c.Objects[0]
				wantDone(t, string(letters), c, 2, impl.IntResult{Value: doneByHand(c, job)})
			}
		}
	}
}

func TestNextOrphan(t *testing.T) {
	set, job, lease := impl.NewSet(4, 1), impl.NewJob(4, 1, 0), listed(impl.NewLease(1, 7))
	for _, o := range []struct {
		what string
		c    impl.Cache
		pods []impl.Object
	}{
		{"nothing", impl.Cache{}, nil},
		{"no pods", knows(listed(set, job), lease), nil},
		{"owners and their pods", knows(listed(set, job), podsByHand(1, 4, "ldf"), podsByHand(2, 4, "ldf"), lease), nil},
		{"a pod alone", knows(podsByHand(1, 0, "l")), podsByHand(1, 0, "l")},
		{"a pod and the lease", knows(podsByHand(1, 0, "..d"), lease), podsByHand(1, 0, "..d")},
		{"of a set that is gone, a job has its Id", knows(listed(job), podsByHand(1, 4, "f"), podsByHand(2, 4, "l")), podsByHand(1, 4, "f")},
		{"of a job that is gone, a set has its Id", knows(listed(set), podsByHand(1, 4, "l"), podsByHand(2, 4, ".d")), podsByHand(2, 4, ".d")},
		{"of the set beside", knows(listed(set), podsByHand(1, 3, "l"), podsByHand(1, 4, "l")), podsByHand(1, 3, "l")},
		{"of the job beside", knows(listed(job), podsByHand(2, 4, "l"), podsByHand(2, 5, "l")), podsByHand(2, 5, "l")},
		{"two of one owner", knows(podsByHand(1, 6, ".......d.l")), podsByHand(1, 6, ".......d.l")},
		{"of owners in the order of Objects", knows(listed(set, job), podsByHand(2, 4, "l"), podsByHand(2, 0, "f"), podsByHand(1, 9, "l"), podsByHand(1, 4, "l"), podsByHand(1, 5, "d"), lease), slices.Concat(podsByHand(1, 5, "d"), podsByHand(1, 9, "l"), podsByHand(2, 0, "f"))},
		{"the last ones", knows(listed(set), podsByHand(1, 19, "...............f"), podsByHand(2, 19, ".......................l"), lease), slices.Concat(podsByHand(1, 19, "...............f"), podsByHand(2, 19, ".......................l"))},
	} {
		c := o.c
		for _, p := range o.pods {
			wantStep(t, o.what, impl.NextOrphan(c), delStep(c, p))
			wantNext(t, o.what, c, delStep(c, p))
			c.Objects = slices.DeleteFunc(slices.Clone(c.Objects), func(is impl.Object) bool { return is.Kind == 3 && is.Id == p.Id })
		}
		wantStep(t, o.what+", then none", impl.NextOrphan(c), nothing())
	}
}

// An orphan is ahead of all else, sets are ahead of jobs, and both come in the order of Objects.
func TestNextWriteInOrder(t *testing.T) {
	lists := [][]impl.Object{
		podsByHand(1, 7, ".f"), podsByHand(2, 7, "....d"), {impl.NewSet(1, 1)}, {impl.NewSet(3, 1)}, {impl.NewSet(19, 1)},
		{impl.NewJob(0, 1, 0)}, {impl.NewJob(2, 0, 4)}, {impl.NewJob(19, 2, 0)},
	}
	writes := []impl.Write{
		del(podByHand(1, 7, 1, 2), 0, 0), del(podByHand(2, 7, 4, 1), 0, 0), put(podByHand(1, 1, 0, 0), 0, 0), put(podByHand(1, 3, 0, 0), 0, 0), put(podByHand(1, 19, 0, 0), 0, 0),
		put(podByHand(2, 0, 0, 0), 0, 0), put(impl.NewJob(2, 0, 0), 0, 0), put(podByHand(2, 19, 0, 0), 0, 0),
	}
	quiet := slices.Concat(
		listed(impl.NewSet(0, 2), impl.NewSet(2, 0), impl.NewJob(1, 2, 1), impl.NewLease(2, 4)),
		podsByHand(1, 0, "..l..l"), podsByHand(2, 1, "fff ld"),
	)
	for n := range 256 {
		objects, want := slices.Clone(quiet), nothing()
		for i := 7; i >= 0; i-- {
			if n>>i&1 == 1 {
				objects, want = append(objects, lists[i]...), steps(writes[i])
			}
		}
		c := knows(objects)
		// What is deleted, or is told, was there; what is new was not.
		if want.Code == impl.OK {
			want.Write.Expect = revByHand(c, want.Write.Object)
		}
		wantNext(t, "in order", c, want)
		wantStep(t, "the orphan alone", impl.NextOrphan(c), orphanByHand(c))
	}
}

func TestTheLeaseIsNobodys(t *testing.T) {
	wantNext(t, "nothing", impl.Cache{}, nothing())
	wantNext(t, "nothing at a Rev", cacheByHand(100000), nothing())
	for holder := range int64(3) {
		for _, epoch := range []int64{1, 2, 9999} {
			lease := listed(impl.NewLease(holder, epoch))
			wantNext(t, "the lease", knows(lease), nothing())
			c := knows(lease, listed(impl.NewSet(holder, 1), impl.NewJob(epoch%20, 0, 0)), podsByHand(1, holder, "l"))
			wantNext(t, "the lease, and what is wanted", c, nothing())
			wantPods(t, "the lease", c, impl.Key{Kind: 1, Id: holder}, 0)
		}
	}
}

func TestConvergedCaches(t *testing.T) {
	for what, o := range map[string]struct {
		c    impl.Cache
		want bool
	}{
		"the story":         {storyCache(), false},
		"60 objects":        {fullCache(), false},
		"side by side":      {sideBySide(), false},
		"owners of nothing": {knows(listed(impl.NewSet(3, 0), impl.NewJob(3, 0, 0))), true},
		"a set":             {knows(listed(impl.NewSet(3, 1))), false},
		"a set and its pod": {knows(listed(impl.NewSet(3, 1)), podsByHand(1, 3, "l")), true},
		"a pod that failed": {knows(listed(impl.NewSet(3, 1)), podsByHand(1, 3, "f")), false},
		"a job that waits":  {knows(listed(impl.NewJob(3, 2, 0)), podsByHand(2, 3, "l.. fl")), true},
		"a job that is not": {knows(listed(impl.NewJob(3, 2, 1)), podsByHand(2, 3, "l.. fl")), false},
		"a job given up":    {knows(listed(impl.NewJob(3, 1, 0)), podsByHand(2, 3, "fff")), true},
		"an orphan":         {knows(podsByHand(2, 3, "l")), false},
	} {
		if got := impl.IsConverged(o.c); got != o.want {
			t.Errorf("%s: IsConverged = %v", what, got)
		}
	}
	wantNext(t, "the story", storyCache(), steps(del(podByHand(1, 1, 1, 1), 7, 0)))
	for _, c := range faultyCaches() {
		if impl.IsConverged(c.c) {
			t.Errorf("%s: a cache with a fault IsConverged", c.what)
		}
	}
}

func TestWhatIsToBeDoneAsksTheCacheFirst(t *testing.T) {
	for _, c := range faultyCaches() {
		for _, id := range []int64{math.MinInt64, -1, 0, 1, 3, 4, 19, 20, math.MaxInt64} {
			for kind := int64(-1); kind <= 5; kind++ {
				wantNoPods(t, c.what, c.c, impl.Key{Kind: kind, Id: id}, c.want)
			}
			wantDone(t, c.what, c.c, id, impl.IntResult{Code: c.want})
			wantStep(t, c.what, impl.NextForSet(c.c, id), impl.StepResult{Code: c.want})
			wantStep(t, c.what, impl.NextForJob(c.c, id), impl.StepResult{Code: c.want})
		}
		wantStep(t, c.what, impl.NextOrphan(c.c), impl.StepResult{Code: c.want})
		wantStep(t, c.what, impl.NextWrite(c.c), impl.StepResult{Code: c.want})
	}
}

// wantAsInTheDocument holds all functions against the document's lines written out once more.
func wantAsInTheDocument(t *testing.T, what string, c impl.Cache) {
	t.Helper()
	for id := int64(-1); id <= 20; id++ {
		for kind := int64(1); kind <= 2; kind++ {
			indexes, live := []int64{}, int64(0)
			for index := range int64(24) {
				if state := stateByHand(c, kind, id, index); state >= 0 {
					indexes = append(indexes, index)
					if state == 0 {
						live++
					}
				}
			}
			wantPods(t, what, c, impl.Key{Kind: kind, Id: id}, indexes...)
			wantLive(t, what, c, impl.Key{Kind: kind, Id: id}, live)
		}
		wantStep(t, what, impl.NextForSet(c, id), setStepByHand(c, id))
		wantStep(t, what, impl.NextForJob(c, id), jobStepByHand(c, id))
		if job, there := foundByHand(c, 2, id); there {
			wantDone(t, what, c, id, impl.IntResult{Value: doneByHand(c, job)})
		}
	}
	wantStep(t, what, impl.NextOrphan(c), orphanByHand(c))
	wantNext(t, what, c, nextByHand(c))
}

func TestWhatIsToBeDoneIsThatOfTheDocument(t *testing.T) {
	for what, c := range goodCaches() {
		wantAsInTheDocument(t, what, c)
	}
	wantAsInTheDocument(t, "side by side", sideBySide())
	for seed := range 300 {
		d := dice(seed)
		wantAsInTheDocument(t, "thrown", thrownCache(&d))
	}
}

// thrownCache has some owners, and pods of these and of others; in some of them all pods are live.
func thrownCache(d *dice) impl.Cache {
	owners, pods := []impl.Object{}, []impl.Object{}
	states := 1 + 3*d.throw(2)
	for _, id := range []int64{0, 1, 9, 10, 19} {
		if d.throw(4) > 0 {
			owners = append(owners, impl.NewSet(id, d.throw(9)))
		}
		if d.throw(4) > 0 {
			owners = append(owners, impl.NewJob(id, d.throw(9), d.throw(9)))
		}
		for kind := int64(1); kind <= 2; kind++ {
			for index := range 8 + 8*kind {
				if d.throw(5) == 0 {
					pods = append(pods, podByHand(kind, id, index, d.throw(states)%3))
				}
			}
		}
	}
	return knows(owners, pods[:min(len(pods), 50)])
}

// A story from what was wanted first to nothing, each write of who leads written out.
func TestAStoryOfWhatIsToBeDone(t *testing.T) {
	s := impl.Store{}
	for i, part := range []struct{ users, todo []impl.Write }{
		{
			[]impl.Write{put(impl.NewSet(0, 2), 0, 0), put(impl.NewJob(1, 2, 0), 0, 0), put(impl.NewLease(0, 1), 0, 1)},
			[]impl.Write{put(podByHand(1, 0, 0, 0), 0, 1), put(podByHand(1, 0, 1, 0), 0, 1), put(podByHand(2, 1, 0, 0), 0, 1), put(podByHand(2, 1, 3, 0), 0, 1)},
		},
		{
			[]impl.Write{put(podByHand(2, 1, 0, 2), 6, 0), put(podByHand(2, 1, 3, 1), 7, 0)},
			[]impl.Write{put(podByHand(2, 1, 1, 0), 0, 1), put(impl.NewJob(1, 2, 1), 2, 1)},
		},
		{
			[]impl.Write{put(podByHand(2, 1, 1, 1), 10, 0), put(impl.NewSet(0, 1), 1, 0), put(podByHand(1, 0, 0, 2), 4, 0)},
			[]impl.Write{del(podByHand(1, 0, 0, 2), 14, 1), put(impl.NewJob(1, 2, 2), 11, 1)},
		},
		{
			[]impl.Write{put(impl.NewSet(0, 3), 13, 0), put(impl.NewJob(1, 1, 2), 16, 0)},
			[]impl.Write{put(podByHand(1, 0, 0, 0), 0, 1), put(podByHand(1, 0, 2, 0), 0, 1), put(impl.NewJob(1, 1, 1), 18, 1)},
		},
		{
			[]impl.Write{put(impl.NewSet(0, 1), 17, 0)},
			[]impl.Write{del(podByHand(1, 0, 2, 0), 20, 1), del(podByHand(1, 0, 1, 0), 5, 1)},
		},
		{
			[]impl.Write{del(impl.NewSet(0, 1), 22, 0), del(impl.NewJob(1, 1, 1), 21, 0), put(impl.NewLease(2, 2), 3, 2)},
			[]impl.Write{del(podByHand(1, 0, 0, 0), 19, 2), del(podByHand(2, 1, 0, 2), 8, 2), del(podByHand(2, 1, 1, 1), 12, 2), del(podByHand(2, 1, 3, 1), 9, 2)},
		},
	} {
		for _, w := range part.users {
			s = wantTaken(t, "of a user, or the lease", s, w)
		}
		for _, w := range part.todo {
			step := w
			step.Stamp = 0
			wantNext(t, "a story", impl.ListStore(s).Cache, steps(step))
			s = wantTaken(t, "to be done", s, w)
		}
		if !impl.IsConverged(impl.ListStore(s).Cache) {
			t.Fatalf("part %d does not come to its end: %v", i, impl.NextWrite(impl.ListStore(s).Cache))
		}
	}
	if len(s.Objects) != 1 || s.Rev != 31 {
		t.Error("at the end there is", s)
	}
}

// workByHand is how many writes it takes until all that is wanted is there, where nobody else writes.
func workByHand(c impl.Cache) int64 {
	count := int64(0)
	for _, o := range c.Objects {
		switch o.Kind {
		case 1:
			live := int64(0)
			for index := range int64(16) {
				switch stateByHand(c, 1, o.Id, index) {
				case 0:
					live++
				case 1, 2:
					count++
				}
			}
			count += max(live-o.A, o.A-live)
		case 2:
			for n := range o.A {
				if nextTryByHand(triesByHand(c, o.Id, n)) >= 0 {
					count++
				}
			}
			if doneByHand(c, o) != o.B {
				count++
			}
		case 3:
			if _, there := foundByHand(c, o.A, o.B); !there {
				count++
			}
		}
	}
	return count
}

// roomByHand is how many objects there may be on the way to the end, at most.
func roomByHand(c impl.Cache) int64 {
	count := int64(1)
	for _, o := range c.Objects {
		switch o.Kind {
		case 1:
			count += 1 + o.A
		case 2:
			count += 1 + 3*o.A
		case 3:
			owner, there := foundByHand(c, o.A, o.B)
			if !there || o.A == 1 || o.C >= 3*owner.A {
				count++
			}
		}
	}
	return count
}

// wantAllThere asks that all that is wanted is there, and nothing else is, but what was there of jobs.
func wantAllThere(t *testing.T, what string, c, was impl.Cache) {
	t.Helper()
	for _, o := range c.Objects {
		fits := true
		switch o.Kind {
		case 1:
			live := int64(0)
			for index := range int64(16) {
				state := stateByHand(c, 1, o.Id, index)
				if state == 0 {
					live++
				}
				fits = fits && state < 1
			}
			fits = fits && live == o.A
		case 2:
			for n := range o.A {
				tries := triesByHand(c, o.Id, n)
				last := max(tries[0], 0)
				for _, state := range tries[1:] {
					if state >= 0 {
						last = state
					}
				}
				fits = fits && tries != [3]int64{-1, -1, -1} && (isDoneByHand(tries) || last == 0 || tries[2] == 2)
			}
			fits = fits && o.B == doneByHand(c, o)
		case 3:
			_, fits = foundByHand(c, o.A, o.B)
		}
		if !fits {
			t.Errorf("%s: %v is not as it is wanted in %v", what, o, c)
		}
	}
	for _, o := range was.Objects {
		is, there := foundByHand(c, o.Kind, o.Id)
		if o.Kind == 2 && o.B != is.B {
			o.B, o.Rev = is.B, is.Rev
		}
		_, hasOwner := foundByHand(c, o.A, o.B)
		if mayGo := o.Kind == 3 && (o.A == 1 || !hasOwner); there && is != o && !mayGo || !there && !mayGo {
			t.Errorf("%s: %v became %v", what, o, is)
		}
	}
}

// wantTodo asks that a write is one that the store takes of who leads, and that it fits to what is there.
func wantTodo(t *testing.T, what string, s impl.Store, step impl.StepResult) impl.Write {
	t.Helper()
	w := step.Write
	if step.Code == impl.ErrNone && w == (impl.Write{}) {
		return w
	}
	if step.Code != impl.OK || w.Stamp != 0 || w.Object.Rev != 0 || w.Expect != revByHand(impl.ListStore(s).Cache, w.Object) {
		t.Errorf("%s: %v is not to be done at %v", what, step, s.Objects)
	}
	w.Stamp = impl.EpochOf(s).Value
	if code := impl.CheckWrite(s, w); code != impl.OK {
		t.Errorf("%s: %v has the code %d at %v", what, w, code, s.Objects)
	}
	return w
}

// wantEnd does one after the other what is to be done, and counts that it ends. What was done is told by its Op and Kind.
func wantEnd(t *testing.T, what string, s impl.Store, done map[[2]int64]int) impl.Store {
	t.Helper()
	was := impl.ListStore(s).Cache
	for range workByHand(was) {
		c := impl.ListStore(s).Cache
		if impl.IsConverged(c) {
			t.Fatalf("%s: IsConverged, where there is still to be done %v", what, nextByHand(c))
		}
		wantTodo(t, what, s, impl.NextOrphan(c))
		for _, o := range c.Objects {
			if o.Kind == 1 {
				wantTodo(t, what, s, impl.NextForSet(c, o.Id))
			}
			if o.Kind == 2 {
				wantTodo(t, what, s, impl.NextForJob(c, o.Id))
			}
		}
		w := wantTodo(t, what, s, impl.NextWrite(c))
		got := impl.ApplyWrite(s, w)
		if got.Code != impl.OK {
			t.Fatalf("%s: %v has the code %d", what, w, got.Code)
		}
		s = got.Store
		done[[2]int64{w.Op, w.Object.Kind}]++
	}
	c := impl.ListStore(s).Cache
	wantNext(t, what+", at the end", c, nothing())
	wantAllThere(t, what, c, was)
	return s
}

// wish is the store behind a thrown write, or as it was, if that is not taken, or leaves too little room for what is to be done.
func wish(d *dice, s impl.Store) impl.Store {
	w := thrownWrite(d, s)
	if n := int64(len(s.Objects)); n > 0 && d.throw(2) == 0 {
		o := s.Objects[d.throw(n)]
		w = put(at(o, 0), o.Rev, 0)
		if o.Kind <= 2 {
			w.Object.A = d.throw(9)
		} else {
			w.Object.D = 1 + d.throw(2)
		}
	}
	got := impl.ApplyWrite(s, w)
	if got.Code != impl.OK || roomByHand(impl.ListStore(got.Store).Cache) > 60 {
		return s
	}
	return got.Store
}

func TestWhatIsToBeDoneComesToAnEnd(t *testing.T) {
	done, ends := map[[2]int64]int{}, 0
	for seed := range 60 {
		d, s := dice(seed), impl.Store{}
		for range 6 {
			for range 80 {
				s = wish(&d, s)
			}
			if impl.EpochOf(s).Value == 0 {
				s = wantTaken(t, "the first lease", s, put(impl.NewLease(1, 1), 0, 1))
			}
			s = wantEnd(t, "thrown", s, done)
			ends++
		}
	}
	if ends != 360 || done[[2]int64{1, 3}] < 1000 || done[[2]int64{2, 3}] < 400 || done[[2]int64{1, 2}] < 40 || len(done) != 3 {
		t.Error("the stores are not such as to tell much:", ends, done)
	}
}

func TestTheStoriesComeToAnEnd(t *testing.T) {
	for what, story := range stories() {
		for i, s := range storesBehind(t, story) {
			if roomByHand(impl.ListStore(s).Cache) <= 60 {
				if impl.EpochOf(s).Value == 0 {
					s = wantTaken(t, "the first lease", s, put(impl.NewLease(1, 1), 0, 1))
				}
				s = wantEnd(t, what, s, map[[2]int64]int{})
			} else if i == 0 {
				t.Errorf("%s: there is no room", what)
			}
		}
	}
}

// Where all indexes of a job fail again and again they are given up, and it comes to an end, too.
func TestAJobThatFailsComesToAnEnd(t *testing.T) {
	for want := range int64(9) {
		s := wantTaken(t, "a job", impl.Store{}, put(impl.NewJob(3, want, 0), 0, 0))
		s = wantTaken(t, "the lease", s, put(impl.NewLease(0, 1), 0, 1))
		for range 5 {
			s = wantEnd(t, "a job that fails", s, map[[2]int64]int{})
			for _, o := range s.Objects {
				if o.Kind == 3 && o.D == 0 {
					s = wantTaken(t, "a pod fails", s, put(impl.Object{Kind: 3, Id: o.Id, A: 2, B: 3, C: o.C, D: 2}, o.Rev, 0))
				}
			}
		}
		if pods := impl.PodsOf(impl.ListStore(s).Cache, impl.Key{Kind: 2, Id: 3}).List; len(pods) != int(3*want) {
			t.Errorf("a job that wants %d has the tries %v", want, pods)
		}
		wantNext(t, "all are given up", impl.ListStore(s).Cache, nothing())
	}
}

// Where there is no room for more, or no more Rev, just that is what keeps it from being written.
func TestWhatIsToBeDoneWithoutRoom(t *testing.T) {
	s, full := fullStore(), 0
	for n := 0; n < 100 && full == 0; n++ {
		step := impl.NextWrite(impl.ListStore(s).Cache)
		w := step.Write
		w.Stamp = 1
		got := impl.ApplyWrite(s, w)
		switch {
		case step.Code == impl.OK && got.Code == impl.OK:
			s = got.Store
		case step.Code == impl.OK && got.Code == impl.ErrFull && len(s.Objects) == 60 && w.Op == 1 && w.Expect == 0:
			full = n
		default:
			t.Fatalf("behind %d writes %v has the code %d", n, step, got.Code)
		}
	}
	// Nine pods are too many, and nine more have room then; the tenth has none.
	if full != 18 {
		t.Errorf("there was no room behind %d writes", full)
	}
	last := storeByHand(100000, at(impl.NewSet(0, 1), 1), at(impl.NewLease(0, 1), 2))
	w := impl.NextWrite(impl.ListStore(last).Cache).Write
	w.Stamp = 1
	wantRefused(t, "at the last Rev", last, w, impl.ErrFull)
}

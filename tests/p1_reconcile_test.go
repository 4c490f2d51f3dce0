package tests

import (
	"math"
	"slices"
	"strings"
	"testing"

	"loop.example/g00730/impl"
)

// The tests of this file are those of promise 1, of the functions of chapter 6.

// todo is all that chapter 6 answers of a cache, an owner and its Id.
type todo struct {
	live, done             impl.IntResult
	set, job, orphan, next impl.StepResult
	converged              bool
}

func todoOf(c impl.Cache, k impl.Key) (impl.IntsResult, todo) {
	return impl.PodsOf(c, k), todo{
		live: impl.LiveOf(c, k), done: impl.DoneOf(c, k.Id),
		set: impl.NextForSet(c, k.Id), job: impl.NextForJob(c, k.Id), orphan: impl.NextOrphan(c), next: impl.NextWrite(c),
		converged: impl.IsConverged(c),
	}
}

func sameTodo(pods, again impl.IntsResult, a, b todo) bool {
	return pods.Code == again.Code && slices.Equal(pods.List, again.List) && a == b
}

// p1Todos are caches in which each of the functions has something to tell, ahead of those of chapter 4.
func p1Todos() []impl.Cache {
	return append([]impl.Cache{
		sideBySide(),
		knows(listed(impl.NewSet(1, 4), impl.NewJob(1, 2, 0), impl.NewLease(0, 1)), podsByHand(1, 1, "l.l"), podsByHand(2, 1, "f.. ddd")),
		knows(listed(impl.NewSet(1, 1), impl.NewJob(1, 2, 0)), podsByHand(1, 1, "llllllllllllllll"), podsByHand(2, 1, strings.Repeat("ldf", 8))),
		knows(listed(impl.NewSet(1, 3), impl.NewJob(1, 1, 1)), podsByHand(1, 1, "lll"), podsByHand(2, 1, "fd.")),
		knows(podsByHand(1, 1, "f"), podsByHand(2, 1, "l")),
	}, p1Caches()...)
}

func p1Keys() []impl.Key {
	keys := []impl.Key{{Kind: math.MinInt64, Id: math.MaxInt64}, {Kind: math.MaxInt64, Id: math.MinInt64}, {Kind: 1 << 32, Id: 1}}
	for kind := int64(-1); kind <= 5; kind++ {
		for _, id := range []int64{math.MinInt64, -1, 0, 1, 2, 19, 20, math.MaxInt64} {
			keys = append(keys, impl.Key{Kind: kind, Id: id})
		}
	}
	return keys
}

func wantZeroStep(t *testing.T, what string, got impl.StepResult, fault int64) {
	t.Helper()
	wantCode(t, what, got.Code)
	if got.Code != impl.OK && got.Write != (impl.Write{}) || fault != impl.OK && got.Code != fault {
		t.Errorf("%s = %v, where the cache has the fault %d", what, got, fault)
	}
	if w := got.Write; got.Code == impl.OK && (w.Stamp != 0 || w.Object.Rev != 0 || impl.WriteFault(w) != impl.OK) {
		t.Errorf("%s = %v", what, got)
	}
}

func wantZeroNumber(t *testing.T, what string, got impl.IntResult, fault int64) {
	t.Helper()
	wantCode(t, what, got.Code)
	if got.Code != impl.OK && got.Value != 0 || fault != impl.OK && got.Code != fault {
		t.Errorf("%s = %v, where the cache has the fault %d", what, got, fault)
	}
}

// wantTodoAnswers calls all functions of chapter 6, and asks that beside a code all else is zero.
func wantTodoAnswers(t *testing.T, c impl.Cache, k impl.Key) {
	t.Helper()
	fault := impl.CacheFault(c)
	pods, got := todoOf(c, k)
	wantZeroNumber(t, "LiveOf", got.live, fault)
	wantZeroNumber(t, "DoneOf", got.done, fault)
	wantZeroStep(t, "NextForSet", got.set, fault)
	wantZeroStep(t, "NextForJob", got.job, fault)
	wantZeroStep(t, "NextOrphan", got.orphan, fault)
	wantZeroStep(t, "NextWrite", got.next, fault)
	if pods.Code != got.live.Code || pods.Code != impl.OK && len(pods.List) > 0 {
		t.Errorf("PodsOf %v = %v, where LiveOf = %v", k, pods, got.live)
	}
	if got.converged != (fault == impl.OK && got.next.Code == impl.ErrNone) {
		t.Errorf("IsConverged = %v, where NextWrite = %v", got.converged, got.next)
	}
	if again, second := todoOf(c, k); !sameTodo(pods, again, got, second) {
		t.Errorf("of %v and %v: %v and %v, then %v and %v", c, k, pods, got, again, second)
	}
}

func TestTodoFunctionsAnswerAtEveryArgument(t *testing.T) {
	for _, c := range p1Todos() {
		for _, k := range p1Keys() {
			wantTodoAnswers(t, c, k)
		}
	}
	for _, n := range extremes() {
		all := impl.Object{Kind: n, Id: n, A: n, B: n, C: n, D: n, Rev: n}
		for _, k := range []impl.Key{{Kind: n, Id: n}, {Kind: 1, Id: n}, {Kind: 2, Id: n}} {
			wantTodoAnswers(t, cacheByHand(n, all), k)
			wantTodoAnswers(t, cacheByHand(n), k)
			wantTodoAnswers(t, sideBySide(), k)
		}
	}
	wantTodoAnswers(t, cacheByHand(5, make([]impl.Object, 5000)...), impl.Key{Kind: 1})
	wantTodoAnswers(t, cacheByHand(5, make([]impl.Object, 60)...), impl.Key{Kind: 1})
}

// Each number of a cache goes to the ends of int64 once, and to what its neighbours can be.
func TestTodoFunctionsAnswerAtEachNumber(t *testing.T) {
	for _, was := range p1Todos()[:5] {
		c := copiedCache(was)
		faults := 0
		atEachNumber(append(numbersOfObjects(c.Objects), &c.Rev), []int64{math.MinInt64, -1, 0, 1, 2, 3, 8, 9, 20, 20100, 1 << 32, math.MaxInt64}, func() {
			if impl.CacheFault(c) != impl.OK {
				faults++
			}
			wantTodoAnswers(t, c, impl.Key{Kind: 1, Id: 1})
			wantTodoAnswers(t, c, impl.Key{Kind: 2, Id: 1})
		})
		if faults < 50 {
			t.Error("so few of these have a fault:", faults)
		}
	}
}

func TestNilIsAnEmptyListOfWhatIsKnown(t *testing.T) {
	for _, rev := range p1Revs() {
		none := impl.Cache{Rev: rev}
		for _, empty := range []impl.Cache{{Rev: rev, Objects: []impl.Object{}}, spaciousCache(none)} {
			for _, k := range p1Keys() {
				pods, a := todoOf(none, k)
				again, b := todoOf(empty, k)
				if !sameTodo(pods, again, a, b) {
					t.Errorf("at the Rev %d nil is answered otherwise than an empty list: %v and %v", rev, a, b)
				}
			}
		}
	}
}

func TestTodoFunctionsChangeNoArgument(t *testing.T) {
	for _, was := range p1Todos() {
		c := spaciousCache(was)
		for _, k := range p1Keys() {
			todoOf(c, k)
		}
		wantCacheKept(t, "what is known", c, was)
	}
}

func TestIndexesAreNewMemory(t *testing.T) {
	for _, was := range p1Todos()[:5] {
		for _, k := range []impl.Key{{Kind: 1, Id: 1}, {Kind: 2, Id: 1}, {Kind: 1, Id: 3}, {Kind: 1, Id: 0}} {
			c := spaciousCache(was)
			first, second := impl.PodsOf(c, k).List, impl.PodsOf(c, k).List
			want := slices.Clone(first)
			overwrite(second, 77)
			wantCacheKept(t, "PodsOf, its answer written into", c, was)
			if again := impl.PodsOf(c, k).List; !slices.Equal(again, want) {
				t.Errorf("PodsOf %v = %v, then %v", k, want, again)
			}
			overwrite(c.Objects, markObject())
			if !slices.Equal(first, want) {
				t.Error("PodsOf: the answer changes with the argument, or with another answer:", first)
			}
		}
	}
}

func TestWhatIsToBeDoneStays(t *testing.T) {
	c := sideBySide()
	set, next := impl.NextForSet(c, 1), impl.NextWrite(c)
	overwrite(c.Objects, markObject())
	if set != delStep(sideBySide(), podByHand(1, 1, 2, 1)) || next != delStep(sideBySide(), podByHand(1, 3, 1, 0)) {
		t.Error("what is to be done changes with the cache:", set, next)
	}
}

func TestTodoAnswersHangOnTheArgumentsAlone(t *testing.T) {
	for _, c := range p1Todos() {
		for _, k := range []impl.Key{{Kind: 1, Id: 1}, {Kind: 2, Id: 1}, {Kind: 3, Id: 1}} {
			pods, was := todoOf(c, k)
			want := impl.IntsResult{Code: pods.Code, List: slices.Clone(pods.List)}
			overwrite(pods.List, 77)
			for _, other := range p1Todos()[:7] {
				todoOf(other, impl.Key{Kind: 2, Id: 1})
			}
			if again, is := todoOf(c, k); !sameTodo(want, again, was, is) {
				t.Errorf("of %v and %v the second answer is another one", c, k)
			}
		}
	}
}

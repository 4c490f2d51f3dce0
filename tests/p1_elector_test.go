package tests

import (
	"math"
	"testing"

	"loop.example/g00730/impl"
)

// The tests of this file are those of promise 1, of the functions of chapter 7.

// election is all that chapter 7 answers of an elector and two numbers.
type election struct {
	fault                          int64
	fresh, ticked, seen, won, down impl.ElectorResult
	believes, mayTake              bool
}

func electionOf(e impl.Elector, n, sent int64) election {
	return election{
		fault: impl.ElectorFault(e), fresh: impl.NewElector(n),
		ticked: impl.TickElector(e, n), seen: impl.SeeLease(e, n), won: impl.WinLease(e, n, sent), down: impl.StepDown(e),
		believes: impl.Believes(e), mayTake: impl.MayTake(e),
	}
}

// leaseSteps are all that chapter 7 answers of a cache.
type leaseSteps struct {
	take, renew impl.StepResult
}

func leaseStepsOf(c impl.Cache, holder, epoch int64) leaseSteps {
	return leaseSteps{impl.TakeWrite(c, holder), impl.RenewWrite(c, holder, epoch)}
}

// markElector is one that no function makes of its own.
func markElector() impl.Elector {
	return impl.Elector{Clock: 77, Lead: true, Epoch: 77, Deadline: 77, Renew: 77, SeenRev: 77, SeenAt: 77}
}

func p1Electors() []impl.Elector {
	list := goodElectors()
	for _, f := range faultyElectors() {
		list = append(list, f.e)
	}
	for _, n := range extremes() {
		for _, lead := range []bool{false, true} {
			list = append(list, impl.Elector{Clock: n, Lead: lead, Epoch: n, Deadline: n, Renew: n, SeenRev: n, SeenAt: n})
		}
	}
	return list
}

func p1Leases() []impl.Cache {
	list := append([]impl.Cache{leased(1, 4), leased(0, 9999), leased(2, 1)}, p1Caches()...)
	for _, c := range faultyLeases()[:8] {
		list = append(list, c.c)
	}
	return list
}

// wantZeroElector asks that beside a code all else is zero, and that what is answered has no fault.
func wantZeroElector(t *testing.T, what string, got impl.ElectorResult, fault int64) {
	t.Helper()
	wantCode(t, what, got.Code)
	if got.Code != impl.OK && got.Elector != (impl.Elector{}) || fault != impl.OK && got.Code != fault {
		t.Errorf("%s = %+v, where the elector has the fault %d", what, got, fault)
	}
	if left := impl.ElectorFault(got.Elector); left != impl.OK {
		t.Errorf("%s = %+v, which has the fault %d", what, got, left)
	}
}

func wantElectionAnswers(t *testing.T, e impl.Elector, n, sent int64) {
	t.Helper()
	got := electionOf(e, n, sent)
	wantCode(t, "ElectorFault", got.fault)
	wantZeroElector(t, "NewElector", got.fresh, impl.OK)
	wantZeroElector(t, "TickElector", got.ticked, got.fault)
	wantZeroElector(t, "SeeLease", got.seen, got.fault)
	wantZeroElector(t, "WinLease", got.won, got.fault)
	wantZeroElector(t, "StepDown", got.down, got.fault)
	if got.down.Code != got.fault || (got.believes || got.mayTake) && got.fault != impl.OK || got.believes && got.mayTake {
		t.Errorf("of %+v it is told %+v", e, got)
	}
	if again := electionOf(e, n, sent); again != got {
		t.Errorf("of %+v, %d and %d: %+v, then %+v", e, n, sent, got, again)
	}
}

// wantLeaseStep asks that beside a code all else is zero, and that what is told can be written.
func wantLeaseStep(t *testing.T, what string, got impl.StepResult, fault int64) {
	t.Helper()
	wantCode(t, what, got.Code)
	w := got.Write
	if got.Code != impl.OK && w != (impl.Write{}) || fault != impl.OK && got.Code != fault {
		t.Errorf("%s = %v, where the cache has the fault %d", what, got, fault)
	}
	if got.Code == impl.OK && (impl.WriteFault(w) != impl.OK || w.Op != 1 || w.Object.Kind != 4 || w.Stamp != w.Object.B) {
		t.Errorf("%s = %v", what, got)
	}
}

func wantLeaseAnswers(t *testing.T, c impl.Cache, holder, epoch int64) {
	t.Helper()
	fault, got := impl.CacheFault(c), leaseStepsOf(c, holder, epoch)
	wantLeaseStep(t, "TakeWrite", got.take, fault)
	wantLeaseStep(t, "RenewWrite", got.renew, fault)
	if again := leaseStepsOf(c, holder, epoch); again != got {
		t.Errorf("of %v, %d and %d: %v, then %v", c, holder, epoch, got, again)
	}
}

func TestElectorFunctionsAnswerAtEveryArgument(t *testing.T) {
	numbers := append(times(), extremes()...)
	for _, e := range p1Electors() {
		for _, n := range numbers {
			for _, sent := range []int64{math.MinInt64, -1, 0, 1, 45, e.Clock, 1000000, math.MaxInt64} {
				wantElectionAnswers(t, e, n, sent)
			}
		}
	}
}

// Each two numbers of an elector go to the ends of int64, and to what is near their bounds.
func TestElectorFunctionsAnswerAtEachTwoNumbers(t *testing.T) {
	values := []int64{math.MinInt64, -2, -1, 0, 1, 45, 9999, 10000, 100001, 1000000, 2000001, math.MaxInt64 - 39, math.MaxInt64}
	for _, e := range []impl.Elector{follows(45, 7, 3), leads(45, 3, 64, 54), follows(1000000, -1, 0)} {
		atEachNumber(numbersOfElector(&e), values, func() {
			atEachNumber(numbersOfElector(&e), values, func() {
				for _, n := range []int64{math.MinInt64, -1, 0, 1, 45, math.MaxInt64} {
					wantElectionAnswers(t, e, n, n)
				}
				wantElectionAnswers(t, e, 1, math.MaxInt64)
				wantElectionAnswers(t, e, math.MaxInt64, 1)
			})
		})
	}
}

func TestLeaseWritesAnswerAtEveryArgument(t *testing.T) {
	for _, c := range p1Leases() {
		for _, holder := range []int64{math.MinInt64, -1, 0, 1, 2, 3, 1 << 32, math.MaxInt64} {
			for _, epoch := range extremes() {
				wantLeaseAnswers(t, c, holder, epoch)
			}
		}
	}
	for _, n := range extremes() {
		all := impl.Object{Kind: n, Id: n, A: n, B: n, C: n, D: n, Rev: n}
		lease := impl.Object{Kind: 4, A: n, B: n, Rev: n}
		for _, c := range []impl.Cache{cacheByHand(n, all), cacheByHand(100000, lease), cacheByHand(n, lease), cacheByHand(n), cacheByHand(100000, at(impl.NewLease(1, n), 1)), cacheByHand(100000, at(impl.NewLease(1, 4), n))} {
			wantLeaseAnswers(t, c, 1, n)
			wantLeaseAnswers(t, c, n, 1)
			wantLeaseAnswers(t, c, n, n)
		}
	}
	wantLeaseAnswers(t, cacheByHand(5, make([]impl.Object, 5000)...), 1, 1)
	wantLeaseAnswers(t, cacheByHand(5, make([]impl.Object, 60)...), 1, 1)
}

// Each number of a cache with a lease goes to the ends of int64 once, and to what is near its bounds.
func TestLeaseWritesAnswerAtEachNumber(t *testing.T) {
	for _, was := range p1Leases()[:3] {
		c := copiedCache(was)
		atEachNumber(append(numbersOfObjects(c.Objects), &c.Rev), edgeValues(), func() {
			for holder := int64(-1); holder <= 3; holder++ {
				wantLeaseAnswers(t, c, holder, 4)
			}
			wantLeaseAnswers(t, c, 1, math.MinInt64)
		})
	}
}

func TestNilIsAnEmptyListWithoutALease(t *testing.T) {
	for _, rev := range p1Revs() {
		none := impl.Cache{Rev: rev}
		for _, empty := range []impl.Cache{{Rev: rev, Objects: []impl.Object{}}, spaciousCache(none)} {
			for holder := int64(-1); holder <= 3; holder++ {
				for epoch := int64(-1); epoch <= 2; epoch++ {
					if a, b := leaseStepsOf(none, holder, epoch), leaseStepsOf(empty, holder, epoch); a != b {
						t.Errorf("at the Rev %d nil is answered otherwise than an empty list: %v and %v", rev, a, b)
					}
				}
			}
		}
	}
}

func TestElectorFunctionsChangeNoArgument(t *testing.T) {
	for _, was := range p1Electors() {
		e := was
		for _, n := range []int64{-1, 0, 1, 7, 8, 45, math.MaxInt64} {
			electionOf(e, n, e.Clock)
		}
		if e != was {
			t.Errorf("an elector was changed from %+v to %+v", was, e)
		}
	}
	for _, was := range p1Leases() {
		c := spaciousCache(was)
		for holder := int64(-1); holder <= 3; holder++ {
			for epoch := int64(0); epoch <= 4; epoch++ {
				leaseStepsOf(c, holder, epoch)
			}
		}
		wantCacheKept(t, "what is known of the lease", c, was)
	}
}

// Who writes into an answer finds the argument as it was, and who writes into the argument the answer.
func TestElectorAnswersAreNewMemory(t *testing.T) {
	for _, was := range goodElectors() {
		e := was
		for what, deed := range map[string]func() impl.ElectorResult{
			"TickElector": func() impl.ElectorResult { return impl.TickElector(e, 0) },
			"SeeLease":    func() impl.ElectorResult { return impl.SeeLease(e, 8) },
			"WinLease":    func() impl.ElectorResult { return impl.WinLease(e, 3, e.Clock) },
			"StepDown":    func() impl.ElectorResult { return impl.StepDown(e) },
		} {
			first, second := deed(), deed()
			want := first
			second.Elector = markElector()
			if e != was {
				t.Errorf("%s, its answer written into: the argument was changed to %+v", what, e)
			}
			e = markElector()
			if first != want {
				t.Errorf("%s: the answer changes with the argument, or with another answer: %+v", what, first)
			}
			if e = was; deed() != want || second.Elector != markElector() {
				t.Errorf("%s = %+v, then %+v", what, want, deed())
			}
		}
	}
}

func TestLeaseWritesStay(t *testing.T) {
	for _, was := range p1Leases()[:3] {
		c, lease := spaciousCache(was), was.Objects[2]
		first, second := leaseStepsOf(c, lease.A, lease.B), leaseStepsOf(c, lease.A, lease.B)
		want := first
		second.take.Write, second.renew.Write = markWrite(), markWrite()
		wantCacheKept(t, "a write of the lease, written into", c, was)
		overwrite(c.Objects, markObject())
		if first != want {
			t.Error("the writes of the lease change with the cache, or with others:", first)
		}
		if again := leaseStepsOf(was, lease.A, lease.B); again != want {
			t.Errorf("the writes of the lease are %v, then %v", want, again)
		}
	}
}

func TestElectorAnswersHangOnTheArgumentsAlone(t *testing.T) {
	for _, e := range goodElectors() {
		was := electionOf(e, 8, e.Clock)
		for _, other := range p1Electors() {
			electionOf(other, 9, 1)
		}
		if again := electionOf(e, 8, e.Clock); again != was {
			t.Errorf("of %+v the second answer is another one: %+v, then %+v", e, was, again)
		}
	}
	for _, c := range p1Leases() {
		was := leaseStepsOf(c, 1, 4)
		for _, other := range p1Leases()[:7] {
			leaseStepsOf(other, 2, 1)
		}
		if again := leaseStepsOf(c, 1, 4); again != was {
			t.Errorf("of %v the second answer is another one: %v, then %v", c, was, again)
		}
	}
}

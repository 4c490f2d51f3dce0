package tests

import (
	"math"
	"testing"

	"loop.example/g00730/impl"
)

// The tests of this file are those of promise 8: how long one believes that it leads, who may take the lease, and with which epoch.

// follows is an elector that does not lead.
func follows(clock, seenRev, seenAt int64) impl.Elector {
	return impl.Elector{Clock: clock, SeenRev: seenRev, SeenAt: seenAt}
}

// leads is an elector that leads, and saw the lease at the Rev 7 when its clock was 0.
func leads(clock, epoch, deadline, renew int64) impl.Elector {
	return impl.Elector{Clock: clock, Lead: true, Epoch: epoch, Deadline: deadline, Renew: renew, SeenRev: 7}
}

// goodElectors have no fault.
func goodElectors() []impl.Elector {
	return []impl.Elector{
		{}, follows(0, -1, 0), follows(5, -1, 5), follows(1000000, -1, 0), follows(1000000, 100000, 1000000),
		follows(39, 0, 39), follows(39, 7, 0), follows(40, 7, 0), follows(41, 7, 0), follows(999960, 7, 999920), follows(1000000, 7, 999961),
		leads(0, 1, 0, 0), leads(45, 3, 64, 54), leads(64, 3, 64, 54), leads(63, 3, 64, 54), leads(100, 9999, 2000000, 2000000),
		leads(1000000, 9999, 1000020, 1000010), leads(1000000, 1, 1000001, 0), leads(20, 2, 0, 2000000),
		{Clock: 90, Lead: true, Epoch: 4, Deadline: 70, Renew: 60, SeenRev: -1, SeenAt: 90},
		{Clock: 90, Lead: true, Epoch: 4, Deadline: 91, Renew: 60, SeenRev: 0, SeenAt: 10},
		{Clock: 90, Lead: true, Epoch: 4, Deadline: 91, Renew: 60, SeenRev: 100000, SeenAt: 50},
	}
}

func turnedElector(e impl.Elector, turn func(e *impl.Elector)) impl.Elector {
	turn(&e)
	return e
}

type faultyElector struct {
	what string
	e    impl.Elector
	want int64
}

// outOfBounds are turns by which a number leaves its bounds, whether an elector leads or not.
func outOfBounds() map[string]func(e *impl.Elector) {
	return map[string]func(e *impl.Elector){
		"a Clock below":               func(e *impl.Elector) { e.Clock, e.SeenAt = -1, 0 },
		"a Clock and a SeenAt below":  func(e *impl.Elector) { e.Clock, e.SeenAt = -1, -1 },
		"a Clock beyond":              func(e *impl.Elector) { e.Clock = 1000001 },
		"a Clock and a SeenAt beyond": func(e *impl.Elector) { e.Clock, e.SeenAt = 1000001, 1000001 },
		"the least Clock":             func(e *impl.Elector) { e.Clock = math.MinInt64 },
		"the greatest Clock":          func(e *impl.Elector) { e.Clock = math.MaxInt64 },
		"a SeenRev below":             func(e *impl.Elector) { e.SeenRev = -2 },
		"a SeenRev beyond":            func(e *impl.Elector) { e.SeenRev = 100001 },
		"the least SeenRev":           func(e *impl.Elector) { e.SeenRev = math.MinInt64 },
		"the greatest SeenRev":        func(e *impl.Elector) { e.SeenRev = math.MaxInt64 },
		"a SeenAt below":              func(e *impl.Elector) { e.SeenAt = -1 },
		"a SeenAt beyond":             func(e *impl.Elector) { e.SeenAt = e.Clock + 1 },
		"the least SeenAt":            func(e *impl.Elector) { e.SeenAt = math.MinInt64 },
		"the greatest SeenAt":         func(e *impl.Elector) { e.SeenAt = math.MaxInt64 },
	}
}

// leading are turns by which a number is there that only who leads has; all but those named inside are out of their bounds even then.
func leading() map[string]func(e *impl.Elector) {
	return map[string]func(e *impl.Elector){
		"an Epoch inside":       func(e *impl.Elector) { e.Epoch = 1 },
		"an Epoch below":        func(e *impl.Elector) { e.Epoch = -1 },
		"an Epoch beyond":       func(e *impl.Elector) { e.Epoch = 10000 },
		"the least Epoch":       func(e *impl.Elector) { e.Epoch = math.MinInt64 },
		"the greatest Epoch":    func(e *impl.Elector) { e.Epoch = math.MaxInt64 },
		"a Deadline inside":     func(e *impl.Elector) { e.Deadline = 1 },
		"a Deadline below":      func(e *impl.Elector) { e.Deadline = -1 },
		"a Deadline beyond":     func(e *impl.Elector) { e.Deadline = 2000001 },
		"the least Deadline":    func(e *impl.Elector) { e.Deadline = math.MinInt64 },
		"the greatest Deadline": func(e *impl.Elector) { e.Deadline = math.MaxInt64 },
		"a Renew inside":        func(e *impl.Elector) { e.Renew = 1 },
		"a Renew below":         func(e *impl.Elector) { e.Renew = -1 },
		"a Renew beyond":        func(e *impl.Elector) { e.Renew = 2000001 },
		"the least Renew":       func(e *impl.Elector) { e.Renew = math.MinInt64 },
		"the greatest Renew":    func(e *impl.Elector) { e.Renew = math.MaxInt64 },
	}
}

func isInside(what string) bool {
	return what == "an Epoch inside" || what == "a Deadline inside" || what == "a Renew inside"
}

// faultyElectors have each one fault, or two, of which the first one counts.
func faultyElectors() []faultyElector {
	list := []faultyElector{{"it leads with the Epoch 0", leads(45, 0, 64, 54), impl.ErrRange}}
	follower, leader := follows(45, 7, 3), leads(45, 3, 64, 54)
	for form, spoil := range leading() {
		list = append(list, faultyElector{form + ", and no lead", turnedElector(follower, spoil), impl.ErrForm})
		if !isInside(form) {
			list = append(list, faultyElector{form + ", and a lead", turnedElector(leader, spoil), impl.ErrRange})
		}
	}
	for bound, leave := range outOfBounds() {
		list = append(list, faultyElector{bound + ", and no lead", turnedElector(follower, leave), impl.ErrRange})
		list = append(list, faultyElector{bound + ", and a lead", turnedElector(leader, leave), impl.ErrRange})
		for form, spoil := range leading() {
			list = append(list, faultyElector{bound + ", " + form + ", and no lead", turnedElector(turnedElector(follower, leave), spoil), impl.ErrRange})
		}
	}
	return list
}

// electorFaultByHand goes along the document line by line.
func electorFaultByHand(e impl.Elector) int64 {
	if e.Clock < 0 || e.Clock > 1000000 || e.SeenRev < -1 || e.SeenRev > 100000 || e.SeenAt < 0 || e.SeenAt > e.Clock {
		return impl.ErrRange
	}
	if !e.Lead && (e.Epoch != 0 || e.Deadline != 0 || e.Renew != 0) {
		return impl.ErrForm
	}
	if e.Lead && (e.Epoch < 1 || e.Epoch > 9999 || e.Deadline < 0 || e.Deadline > 2000000 || e.Renew < 0 || e.Renew > 2000000) {
		return impl.ErrRange
	}
	return impl.OK
}

func numbersOfElector(e *impl.Elector) []*int64 {
	return []*int64{&e.Clock, &e.Epoch, &e.Deadline, &e.Renew, &e.SeenRev, &e.SeenAt}
}

// times are numbers about each bound of this chapter.
func times() []int64 {
	list := []int64{math.MinInt64, math.MinInt64 + 1, -1 << 32, 1 << 32, 1<<32 + 45, math.MaxInt64 - 1, math.MaxInt64}
	for _, n := range []int64{0, 7, 20, 40, 45, 64, 9999, 100000, 999960, 1000000, 2000000} {
		list = append(list, n-1, n, n+1)
	}
	return append(list, -2)
}

func wantElectorFault(t *testing.T, what string, e impl.Elector, want int64) {
	t.Helper()
	if got := impl.ElectorFault(e); got != want {
		t.Errorf("%s: ElectorFault(%+v) = %d, not %d", what, e, got, want)
	}
}

// wantElector looks at an answer; with a code, want is the zero value.
func wantElector(t *testing.T, what string, got impl.ElectorResult, code int64, want impl.Elector) {
	t.Helper()
	if got != (impl.ElectorResult{Code: code, Elector: want}) {
		t.Errorf("%s: %+v, not the code %d and %+v", what, got, code, want)
	}
}

func TestElectorNumbersAreThoseOfTheDocument(t *testing.T) {
	if impl.LeaseTicks != 40 || impl.LeadTicks != 20 || impl.RenewTicks != 10 || impl.MaxClock != 1000000 || impl.NoRev != -1 {
		t.Error("the numbers are", impl.LeaseTicks, impl.LeadTicks, impl.RenewTicks, impl.MaxClock, impl.NoRev)
	}
}

func TestElectorsWithoutFault(t *testing.T) {
	for _, e := range goodElectors() {
		wantElectorFault(t, "a good one", e, impl.OK)
	}
}

func TestElectorFaultCodes(t *testing.T) {
	for _, f := range faultyElectors() {
		wantElectorFault(t, f.what, f.e, f.want)
	}
}

func TestElectorFaultAtEachBound(t *testing.T) {
	for _, c := range []struct {
		what                 string
		least, most          int64
		turn                 func(e *impl.Elector, n int64)
		asFollower, asLeader bool
	}{
		{"Clock", 0, 1000000, func(e *impl.Elector, n int64) { e.Clock, e.SeenAt = n, 0 }, true, true},
		{"SeenRev", -1, 100000, func(e *impl.Elector, n int64) { e.SeenRev = n }, true, true},
		{"SeenAt", 0, 45, func(e *impl.Elector, n int64) { e.SeenAt = n }, true, true},
		{"SeenAt of the last Clock", 0, 1000000, func(e *impl.Elector, n int64) { e.Clock, e.SeenAt = 1000000, n }, true, true},
		{"Epoch", 1, 9999, func(e *impl.Elector, n int64) { e.Epoch = n }, false, true},
		{"Deadline", 0, 2000000, func(e *impl.Elector, n int64) { e.Deadline = n }, false, true},
		{"Renew", 0, 2000000, func(e *impl.Elector, n int64) { e.Renew = n }, false, true},
	} {
		for _, n := range []int64{math.MinInt64, c.least - 1, c.least, c.least + 1, c.most - 1, c.most, c.most + 1, math.MaxInt64} {
			turn, want := func(e *impl.Elector) { c.turn(e, n) }, int64(impl.OK)
			if n < c.least || n > c.most {
				want = impl.ErrRange
			}
			wantElectorFault(t, c.what+" of one that leads", turnedElector(leads(45, 3, 64, 54), turn), want)
			if !c.asFollower && n != 0 {
				want = impl.ErrForm
			} else if !c.asFollower {
				want = impl.OK
			}
			wantElectorFault(t, c.what+" of one that does not lead", turnedElector(follows(45, 7, 3), turn), want)
		}
	}
}

// Each two numbers of an elector go to each value.
func TestElectorFaultAtEachTwoNumbers(t *testing.T) {
	codes := map[int64]int{}
	for _, e := range append(goodElectors(), follows(45, 7, 3)) {
		for _, lead := range []bool{false, true} {
			e.Lead = lead
			atEachNumber(numbersOfElector(&e), times(), func() {
				atEachNumber(numbersOfElector(&e), times(), func() {
					want := electorFaultByHand(e)
					codes[want]++
					if got := impl.ElectorFault(e); got != want {
						t.Fatalf("ElectorFault(%+v) = %d, not %d", e, got, want)
					}
				})
			})
		}
	}
	if codes[impl.OK] < 10000 || codes[impl.ErrForm] < 10000 || codes[impl.ErrRange] < 10000 {
		t.Error("the electors are not such as to tell much:", codes)
	}
}

func TestNewElector(t *testing.T) {
	for _, clock := range []int64{0, 1, 2, 5, 40, 999999, 1000000} {
		e := impl.Elector{Clock: clock, SeenRev: -1, SeenAt: clock}
		wantElector(t, "NewElector", impl.NewElector(clock), impl.OK, e)
		wantElectorFault(t, "a new one", e, impl.OK)
		if impl.Believes(e) || impl.MayTake(e) {
			t.Errorf("a new one of the clock %d believes that it leads, or may take the lease", clock)
		}
	}
	for _, clock := range []int64{math.MinInt64, -1000000, -1, 1000001, 1 << 32, 1<<32 + 5, math.MaxInt64} {
		wantElector(t, "NewElector", impl.NewElector(clock), impl.ErrRange, impl.Elector{})
	}
}

func TestTickElector(t *testing.T) {
	for _, was := range goodElectors() {
		for _, d := range []int64{0, 1, 2, 40, 1000000 - was.Clock - 1, 1000000 - was.Clock} {
			if d < 0 || was.Clock+d > 1000000 {
				continue
			}
			e := was
			e.Clock = was.Clock + d
			wantElector(t, "TickElector", impl.TickElector(was, d), impl.OK, e)
		}
		for _, d := range []int64{math.MinInt64, math.MinInt64 + 1, -1000000, -1, 1000000 - was.Clock + 1, 1000001, 1 << 32, math.MaxInt64 - was.Clock, math.MaxInt64 - was.Clock + 1, math.MaxInt64} {
			if d > 0 && was.Clock <= math.MaxInt64-d && was.Clock+d <= 1000000 {
				t.Fatal("that is not beyond:", was.Clock, d)
			}
			wantElector(t, "TickElector", impl.TickElector(was, d), impl.ErrRange, impl.Elector{})
		}
	}
}

func TestSeeLease(t *testing.T) {
	for _, c := range []struct {
		what string
		e    impl.Elector
		rev  int64
		code int64
		want impl.Elector
	}{
		{"the first one", follows(45, -1, 5), 7, impl.OK, follows(45, 7, 45)},
		{"none, at first", follows(45, -1, 5), 0, impl.OK, follows(45, 0, 45)},
		{"the last Rev, at first", follows(45, -1, 5), 100000, impl.OK, follows(45, 100000, 45)},
		{"the first one, at once", follows(0, -1, 0), 1, impl.OK, follows(0, 1, 0)},
		{"the same one", follows(45, 7, 5), 7, impl.OK, follows(45, 7, 5)},
		{"the same one, from the start on", follows(45, 7, 0), 7, impl.OK, follows(45, 7, 0)},
		{"none again", follows(45, 0, 5), 0, impl.OK, follows(45, 0, 5)},
		{"the last Rev again", follows(1000000, 100000, 5), 100000, impl.OK, follows(1000000, 100000, 5)},
		{"a later one", follows(45, 7, 5), 8, impl.OK, follows(45, 8, 45)},
		{"an earlier one", follows(45, 7, 5), 6, impl.OK, follows(45, 6, 45)},
		{"none any more", follows(45, 7, 5), 0, impl.OK, follows(45, 0, 45)},
		{"one where there was none", follows(45, 0, 5), 1, impl.OK, follows(45, 1, 45)},
		{"another one, at the last Clock", follows(1000000, 7, 5), 8, impl.OK, follows(1000000, 8, 1000000)},
		{"who leads sees the same one", leads(45, 3, 64, 54), 7, impl.OK, leads(45, 3, 64, 54)},
		{"who leads sees another one", leads(45, 3, 64, 54), 8, impl.OK, turnedElector(leads(45, 3, 64, 54), func(e *impl.Elector) { e.SeenRev, e.SeenAt = 8, 45 })},
		{"NoRev where it saw nothing", follows(45, -1, 5), -1, impl.ErrRange, impl.Elector{}},
		{"NoRev", follows(45, 7, 5), -1, impl.ErrRange, impl.Elector{}},
		{"beyond the last Rev", follows(45, 7, 5), 100001, impl.ErrRange, impl.Elector{}},
		{"the least rev", follows(45, 7, 5), math.MinInt64, impl.ErrRange, impl.Elector{}},
		{"the greatest rev", follows(45, 7, 5), math.MaxInt64, impl.ErrRange, impl.Elector{}},
		{"as one in its lowest bytes", follows(45, 7, 5), 7 + 1<<32, impl.ErrRange, impl.Elector{}},
	} {
		wantElector(t, c.what, impl.SeeLease(c.e, c.rev), c.code, c.want)
	}
}

func TestBelieves(t *testing.T) {
	for _, c := range []struct {
		what string
		e    impl.Elector
		want bool
	}{
		{"long ahead of the Deadline", leads(0, 3, 64, 54), true},
		{"one ahead of it", leads(63, 3, 64, 54), true},
		{"at it", leads(64, 3, 64, 54), false},
		{"one behind it", leads(65, 3, 64, 54), false},
		{"at Renew", leads(54, 3, 64, 54), true},
		{"ahead of Renew", leads(53, 3, 64, 54), true},
		{"a Renew behind the Deadline", leads(64, 3, 64, 99), false},
		{"the Deadline 0", leads(0, 3, 0, 0), false},
		{"the last Clock, and the Deadline behind it", leads(1000000, 3, 1000001, 0), true},
		{"the last Clock, and the Deadline at it", leads(1000000, 3, 1000000, 0), false},
		{"the last Deadline", leads(1000000, 9999, 2000000, 2000000), true},
		{"one that does not lead", follows(45, 7, 3), false},
		{"one that does not lead, at first", follows(0, -1, 0), false},
		{"one that does not lead, with a Deadline", impl.Elector{Clock: 45, Deadline: 64}, false},
		{"the Epoch 0", leads(45, 0, 64, 54), false},
		{"an Epoch beyond", leads(45, 10000, 64, 54), false},
		{"a Deadline beyond", leads(45, 3, 2000001, 54), false},
		{"a Renew beyond", leads(45, 3, 64, 2000001), false},
		{"a Clock below", leads(-1, 3, 64, 54), false},
		{"a Clock beyond", leads(1000001, 3, 1000002, 54), false},
	} {
		if got := impl.Believes(c.e); got != c.want {
			t.Errorf("%s: Believes(%+v) = %v", c.what, c.e, got)
		}
	}
}

func TestMayTake(t *testing.T) {
	for _, c := range []struct {
		what string
		e    impl.Elector
		want bool
	}{
		{"it saw nothing", follows(0, -1, 0), false},
		{"it saw nothing for long", follows(1000000, -1, 0), false},
		{"none, at once", follows(45, 0, 45), true},
		{"none, at the Clock 0", follows(0, 0, 0), true},
		{"none, for long", follows(1000000, 0, 0), true},
		{"no change for 0", follows(45, 7, 45), false},
		{"no change for 39", follows(45, 7, 6), false},
		{"no change for 40", follows(45, 7, 5), true},
		{"no change for 41", follows(45, 7, 4), true},
		{"no change for 39, from the start on", follows(39, 1, 0), false},
		{"no change for 40, from the start on", follows(40, 1, 0), true},
		{"no change for 41, from the start on", follows(41, 1, 0), true},
		{"no change for 39, at the last Clock", follows(1000000, 100000, 999961), false},
		{"no change for 40, at the last Clock", follows(1000000, 100000, 999960), true},
		{"no change ever", follows(1000000, 100000, 0), true},
		{"who leads", leads(45, 3, 64, 54), false},
		{"who leads, and believes it no more", leads(1000, 3, 64, 54), false},
		{"who leads, and saw none", turnedElector(leads(1000, 3, 64, 54), func(e *impl.Elector) { e.SeenRev = 0 }), false},
		{"a Clock beyond", follows(1000001, 7, 0), false},
		{"none, and a Clock below", follows(-1, 0, 0), false},
		{"none, and a SeenAt beyond", follows(45, 0, 46), false},
		{"a SeenAt below", follows(45, 7, -1), false},
		{"a SeenRev below", follows(45, -2, 0), false},
		{"a SeenRev beyond", follows(45, 100001, 0), false},
		{"an Epoch without a lead", impl.Elector{Clock: 45, Epoch: 3}, false},
	} {
		if got := impl.MayTake(c.e); got != c.want {
			t.Errorf("%s: MayTake(%+v) = %v", c.what, c.e, got)
		}
	}
}

func TestWinLease(t *testing.T) {
	for _, c := range []struct {
		what        string
		e           impl.Elector
		epoch, sent int64
		code        int64
		want        impl.Elector
	}{
		{"asked for now", follows(45, 7, 0), 3, 45, impl.OK, leads(45, 3, 65, 55)},
		{"asked for ahead of now", follows(45, 7, 0), 3, 44, impl.OK, leads(45, 3, 64, 54)},
		{"asked for 20 ago", follows(45, 7, 0), 3, 25, impl.OK, leads(45, 3, 45, 35)},
		{"asked for at the start", follows(45, 7, 0), 3, 0, impl.OK, leads(45, 3, 20, 10)},
		{"asked for at the Clock 0", follows(0, 7, 0), 3, 0, impl.OK, leads(0, 3, 20, 10)},
		{"the first epoch", follows(45, 7, 0), 1, 44, impl.OK, leads(45, 1, 64, 54)},
		{"the last epoch", follows(45, 7, 0), 9999, 44, impl.OK, leads(45, 9999, 64, 54)},
		{"at the last Clock", follows(1000000, 7, 0), 3, 1000000, impl.OK, leads(1000000, 3, 1000020, 1000010)},
		{"one ahead of the last Clock", follows(1000000, 7, 0), 3, 999999, impl.OK, leads(1000000, 3, 1000019, 1000009)},
		{"who leads wins again", leads(45, 3, 64, 54), 3, 45, impl.OK, leads(45, 3, 65, 55)},
		{"who leads wins with another epoch", leads(45, 3, 64, 54), 8, 40, impl.OK, leads(45, 8, 60, 50)},
		{"who leads wins with an epoch below", leads(45, 3, 64, 54), 1, 40, impl.OK, leads(45, 1, 60, 50)},
		{"who leads hears of what it asked for earlier", leads(45, 3, 64, 54), 3, 2, impl.OK, leads(45, 3, 22, 12)},
		{"the epoch 0", follows(45, 7, 0), 0, 44, impl.ErrRange, impl.Elector{}},
		{"an epoch below", follows(45, 7, 0), -1, 44, impl.ErrRange, impl.Elector{}},
		{"an epoch beyond", follows(45, 7, 0), 10000, 44, impl.ErrRange, impl.Elector{}},
		{"the least epoch", follows(45, 7, 0), math.MinInt64, 44, impl.ErrRange, impl.Elector{}},
		{"the greatest epoch", follows(45, 7, 0), math.MaxInt64, 44, impl.ErrRange, impl.Elector{}},
		{"sent below", follows(45, 7, 0), 3, -1, impl.ErrRange, impl.Elector{}},
		{"sent beyond the Clock", follows(45, 7, 0), 3, 46, impl.ErrRange, impl.Elector{}},
		{"sent beyond the Clock 0", follows(0, 7, 0), 3, 1, impl.ErrRange, impl.Elector{}},
		{"sent beyond the last Clock", follows(1000000, 7, 0), 3, 1000001, impl.ErrRange, impl.Elector{}},
		{"the least sent", follows(45, 7, 0), 3, math.MinInt64, impl.ErrRange, impl.Elector{}},
		{"the greatest sent", follows(45, 7, 0), 3, math.MaxInt64, impl.ErrRange, impl.Elector{}},
		{"who leads, and sent beyond", leads(45, 3, 64, 54), 3, 46, impl.ErrRange, impl.Elector{}},
		{"both beyond", follows(45, 7, 0), 10000, 46, impl.ErrRange, impl.Elector{}},
	} {
		wantElector(t, c.what, impl.WinLease(c.e, c.epoch, c.sent), c.code, c.want)
	}
	seen := impl.WinLease(follows(45, 8, 30), 3, 44).Elector
	if seen.SeenRev != 8 || seen.SeenAt != 30 {
		t.Error("who won forgot what it saw:", seen)
	}
}

func TestStepDown(t *testing.T) {
	for _, was := range goodElectors() {
		e := was
		e.Lead, e.Epoch, e.Deadline, e.Renew = false, 0, 0, 0
		wantElector(t, "StepDown", impl.StepDown(was), impl.OK, e)
		wantElector(t, "StepDown again", impl.StepDown(e), impl.OK, e)
	}
	wantElector(t, "one that leads", impl.StepDown(impl.Elector{Clock: 90, Lead: true, Epoch: 4, Deadline: 70, Renew: 60, SeenRev: 8, SeenAt: 30}), impl.OK, follows(90, 8, 30))
	wantElector(t, "one that does not lead", impl.StepDown(follows(90, 8, 30)), impl.OK, follows(90, 8, 30))
}

// The ElectorFault is ahead of what is told of the other arguments.
func TestDeedsAskTheElectorFirst(t *testing.T) {
	for _, f := range faultyElectors() {
		for _, n := range []int64{math.MinInt64, -1, 0, 1, 7, 45, 10000, 100001, 1000001, math.MaxInt64} {
			wantElector(t, f.what+", TickElector", impl.TickElector(f.e, n), f.want, impl.Elector{})
			wantElector(t, f.what+", SeeLease", impl.SeeLease(f.e, n), f.want, impl.Elector{})
			wantElector(t, f.what+", WinLease, the epoch", impl.WinLease(f.e, n, 1), f.want, impl.Elector{})
			wantElector(t, f.what+", WinLease, sent", impl.WinLease(f.e, 3, n), f.want, impl.Elector{})
		}
		wantElector(t, f.what+", StepDown", impl.StepDown(f.e), f.want, impl.Elector{})
		if impl.Believes(f.e) || impl.MayTake(f.e) {
			t.Errorf("%s: who has a fault believes that it leads, or may take the lease", f.what)
		}
	}
}

// wantDeedsAsInTheDocument holds all deeds against the document's lines written out once more.
func wantDeedsAsInTheDocument(t *testing.T, e impl.Elector, n int64, sent int64) {
	t.Helper()
	fault := electorFaultByHand(e)
	codeIf := func(isOut bool) int64 {
		if fault == impl.OK && isOut {
			return impl.ErrRange
		}
		return fault
	}
	deed := func(what string, got impl.ElectorResult, code int64, turn func(e *impl.Elector)) {
		t.Helper()
		if code != impl.OK {
			wantElector(t, what, got, code, impl.Elector{})
		} else {
			wantElector(t, what, got, code, turnedElector(e, turn))
		}
	}
	deed("TickElector", impl.TickElector(e, n), codeIf(n < 0 || n > 1000000 || e.Clock+n > 1000000), func(e *impl.Elector) { e.Clock += n })
	deed("SeeLease", impl.SeeLease(e, n), codeIf(n < 0 || n > 100000), func(e *impl.Elector) {
		if n != e.SeenRev {
			e.SeenRev, e.SeenAt = n, e.Clock
		}
	})
	deed("WinLease", impl.WinLease(e, n, sent), codeIf(n < 1 || n > 9999 || sent < 0 || sent > e.Clock), func(e *impl.Elector) {
		e.Lead, e.Epoch, e.Deadline, e.Renew = true, n, sent+20, sent+10
	})
	deed("StepDown", impl.StepDown(e), codeIf(false), func(e *impl.Elector) {
		e.Lead, e.Epoch, e.Deadline, e.Renew = false, 0, 0, 0
	})
	if got := impl.Believes(e); got != (fault == impl.OK && e.Lead && e.Clock < e.Deadline) {
		t.Errorf("Believes(%+v) = %v", e, got)
	}
	if got := impl.MayTake(e); got != (fault == impl.OK && !e.Lead && e.SeenRev != -1 && (e.SeenRev == 0 || e.Clock-e.SeenAt >= 40)) {
		t.Errorf("MayTake(%+v) = %v", e, got)
	}
}

func TestDeedsAreThoseOfTheDocument(t *testing.T) {
	for _, e := range goodElectors() {
		for _, n := range times() {
			for _, sent := range append(times(), e.Clock-20, e.Clock-1, e.Clock, e.Clock+1) {
				wantDeedsAsInTheDocument(t, e, n, sent)
			}
		}
		atEachNumber(numbersOfElector(&e), times(), func() {
			for _, n := range []int64{-1, 0, 1, 7, 9999, 10000, 100000, 1000000} {
				wantDeedsAsInTheDocument(t, e, n, e.Clock)
				wantDeedsAsInTheDocument(t, e, n, e.SeenAt)
			}
		})
	}
}

// ticked is e behind so many ticks of one.
func ticked(t *testing.T, e impl.Elector, ticks int64) impl.Elector {
	t.Helper()
	for range ticks {
		got := impl.TickElector(e, 1)
		if got.Code != impl.OK {
			t.Fatalf("TickElector(%+v, 1) = %v", e, got)
		}
		e = got.Elector
	}
	return e
}

// However late the answer comes, it believes up to 19 ticks behind the time at which it asked, and no longer.
func TestWhoWonBelievesItForTwentyTicksFromWhenItAsked(t *testing.T) {
	for _, sent := range []int64{0, 1, 45, 999900, 999955} {
		for late := range int64(25) {
			asked := impl.SeeLease(impl.NewElector(sent).Elector, 0).Elector
			won := impl.WinLease(ticked(t, asked, late), 4, sent)
			if won.Code != impl.OK {
				t.Fatalf("WinLease = %v", won)
			}
			for since := late; since < 45; since++ {
				e := ticked(t, won.Elector, since-late)
				if jumped := impl.TickElector(won.Elector, since-late).Elector; jumped != e {
					t.Errorf("by one tick of %d it is %+v, by as many of one %+v", since-late, jumped, e)
				}
				if got := impl.Believes(e); got != (since < 20) {
					t.Errorf("%d ticks behind the time at which it asked: Believes = %v", since, got)
				}
				if impl.MayTake(e) || impl.Believes(impl.StepDown(e).Elector) {
					t.Errorf("%d ticks behind: who leads may take the lease, or who stepped down believes", since)
				}
			}
		}
	}
}

// Who renews in time believes it without a gap, and from when it asked for the last renewal on for 20 ticks.
func TestWhoRenewsBelievesItOn(t *testing.T) {
	e := impl.WinLease(impl.NewElector(100).Elector, 4, 100).Elector
	for round := range int64(5) {
		e = ticked(t, e, 10)
		if e.Clock != 110+12*round || e.Renew > e.Clock || !impl.Believes(e) {
			t.Fatalf("round %d: it is not to renew at %+v", round, e)
		}
		sent := e.Clock
		e = impl.WinLease(ticked(t, e, 2), 4, sent).Elector
		if !impl.Believes(ticked(t, e, 17)) || impl.Believes(ticked(t, e, 18)) {
			t.Errorf("round %d: it does not believe just up to 20 ticks behind %d", round, sent)
		}
		e = impl.WinLease(e, 4, e.Clock).Elector
	}
}

func TestWhoSawNoChangeLongEnoughMayTakeTheLease(t *testing.T) {
	for _, first := range []int64{0, 1, 45, 999900} {
		e := impl.NewElector(first).Elector
		if impl.MayTake(ticked(t, e, 60)) {
			t.Error("who saw nothing may take the lease")
		}
		e = impl.SeeLease(e, 7).Elector
		for wait := range int64(45) {
			later := ticked(t, e, wait)
			if got := impl.MayTake(later); got != (wait >= 40) {
				t.Errorf("it saw no change for %d: MayTake = %v", wait, got)
			}
			// To see the same one anew does not make it wait anew, but to see another one does, and to see none needs no wait.
			again := impl.SeeLease(later, 7).Elector
			if !impl.MayTake(ticked(t, again, 40-min(wait, 40))) || wait < 40 && impl.MayTake(ticked(t, again, 39-wait)) {
				t.Errorf("it saw the same one behind %d ticks: %+v", wait, again)
			}
			other := impl.SeeLease(later, 8).Elector
			if impl.MayTake(ticked(t, other, 39)) || !impl.MayTake(ticked(t, other, 40)) {
				t.Errorf("it saw another one behind %d ticks: %+v", wait, other)
			}
			if !impl.MayTake(impl.SeeLease(later, 0).Elector) {
				t.Errorf("it saw none behind %d ticks, and may not take it", wait)
			}
		}
	}
}

// knownLease is the lease in c, and whether there is one.
func knownLease(c impl.Cache) (impl.Object, bool) {
	return foundByHand(c, 4, 0)
}

// leaseWrite is a write of the lease as it is asked for: its Stamp is its epoch.
func leaseWrite(holder, epoch, expect int64) impl.StepResult {
	return steps(put(impl.Object{Kind: 4, A: holder, B: epoch}, expect, epoch))
}

func takeByHand(c impl.Cache, holder int64) impl.StepResult {
	if fault := cacheFaultByHand(c); fault != impl.OK {
		return impl.StepResult{Code: fault}
	}
	if holder < 0 || holder > 2 {
		return impl.StepResult{Code: impl.ErrRange}
	}
	was, there := knownLease(c)
	if !there {
		return leaseWrite(holder, 1, 0)
	}
	if was.B == 9999 {
		return impl.StepResult{Code: impl.ErrFull}
	}
	return leaseWrite(holder, was.B+1, was.Rev)
}

func renewByHand(c impl.Cache, holder, epoch int64) impl.StepResult {
	if fault := cacheFaultByHand(c); fault != impl.OK {
		return impl.StepResult{Code: fault}
	}
	if holder < 0 || holder > 2 {
		return impl.StepResult{Code: impl.ErrRange}
	}
	was, there := knownLease(c)
	if !there || was.A != holder || was.B != epoch {
		return impl.StepResult{Code: impl.ErrStale}
	}
	return leaseWrite(holder, epoch, was.Rev)
}

// leased is a cache with some objects, and this lease, written at the Rev 33.
func leased(holder, epoch int64) impl.Cache {
	return cacheByHand(70, at(impl.NewSet(1, 2), 60), at(podByHand(1, 1, 0, 0), 61), at(impl.NewLease(holder, epoch), 33))
}

func TestTakeWrite(t *testing.T) {
	none := cacheByHand(70, at(impl.NewSet(0, 2), 33), at(impl.NewSet(1, 2), 60), at(podByHand(1, 1, 0, 0), 61))
	refused := func(code int64) impl.StepResult { return impl.StepResult{Code: code} }
	for _, c := range []struct {
		what   string
		c      impl.Cache
		holder int64
		want   impl.StepResult
	}{
		{"nothing is known", impl.Cache{}, 0, leaseWrite(0, 1, 0)},
		{"nothing is known, the last holder", impl.Cache{}, 2, leaseWrite(2, 1, 0)},
		{"no lease", none, 1, leaseWrite(1, 1, 0)},
		{"a lease of this holder", leased(1, 4), 1, leaseWrite(1, 5, 33)},
		{"a lease of another one", leased(1, 4), 0, leaseWrite(0, 5, 33)},
		{"a lease of yet another one", leased(1, 4), 2, leaseWrite(2, 5, 33)},
		{"the first epoch", leased(0, 1), 0, leaseWrite(0, 2, 33)},
		{"the epoch ahead of the last one", leased(2, 9998), 0, leaseWrite(0, 9999, 33)},
		{"the last epoch", leased(2, 9999), 0, refused(impl.ErrFull)},
		{"the last epoch, of this holder", leased(2, 9999), 2, refused(impl.ErrFull)},
		{"a lease of the last Rev", cacheByHand(100000, at(impl.NewLease(1, 4), 100000)), 0, leaseWrite(0, 5, 100000)},
		{"60 objects", fullCache(), 1, leaseWrite(1, 2, 60)},
		{"60 objects, and no lease", cacheByHand(60, crowd(60)...), 1, leaseWrite(1, 1, 0)},
		{"a holder below", leased(1, 4), -1, refused(impl.ErrRange)},
		{"a holder beyond", leased(1, 4), 3, refused(impl.ErrRange)},
		{"a holder below, and no lease", impl.Cache{}, -1, refused(impl.ErrRange)},
		{"a holder beyond, and no lease", impl.Cache{}, 3, refused(impl.ErrRange)},
		{"a holder below, and the last epoch", leased(1, 9999), -1, refused(impl.ErrRange)},
		{"a holder beyond, and the last epoch", leased(1, 9999), 3, refused(impl.ErrRange)},
		{"the least holder", leased(1, 4), math.MinInt64, refused(impl.ErrRange)},
		{"the greatest holder", leased(1, 4), math.MaxInt64, refused(impl.ErrRange)},
		{"a holder that is one in its lowest bytes", leased(1, 4), 1 + 1<<32, refused(impl.ErrRange)},
	} {
		wantStep(t, c.what, impl.TakeWrite(c.c, c.holder), c.want)
	}
}

func TestRenewWrite(t *testing.T) {
	refused := func(code int64) impl.StepResult { return impl.StepResult{Code: code} }
	for _, c := range []struct {
		what          string
		c             impl.Cache
		holder, epoch int64
		want          impl.StepResult
	}{
		{"its lease", leased(1, 4), 1, 4, leaseWrite(1, 4, 33)},
		{"the first epoch of the first one", leased(0, 1), 0, 1, leaseWrite(0, 1, 33)},
		{"the last epoch of the last one", leased(2, 9999), 2, 9999, leaseWrite(2, 9999, 33)},
		{"its lease, of the last Rev", cacheByHand(100000, at(impl.NewLease(1, 4), 100000)), 1, 4, leaseWrite(1, 4, 100000)},
		{"its lease, and 60 objects", fullCache(), 0, 1, leaseWrite(0, 1, 60)},
		{"nothing is known", impl.Cache{}, 0, 1, refused(impl.ErrStale)},
		{"nothing is known, and the epoch 0", impl.Cache{}, 0, 0, refused(impl.ErrStale)},
		{"no lease", cacheByHand(60, crowd(60)...), 0, 1, refused(impl.ErrStale)},
		{"no lease, and the epoch 0", cacheByHand(60, crowd(60)...), 0, 0, refused(impl.ErrStale)},
		{"a lease of another holder", leased(1, 4), 0, 4, refused(impl.ErrStale)},
		{"a lease of yet another holder", leased(1, 4), 2, 4, refused(impl.ErrStale)},
		{"an epoch above", leased(1, 4), 1, 5, refused(impl.ErrStale)},
		{"an epoch below", leased(1, 4), 1, 3, refused(impl.ErrStale)},
		{"another holder, and an epoch above", leased(1, 4), 2, 5, refused(impl.ErrStale)},
		{"the epoch 0", leased(1, 4), 1, 0, refused(impl.ErrStale)},
		{"the epoch -1", leased(1, 4), 1, -1, refused(impl.ErrStale)},
		{"an epoch beyond", leased(1, 9999), 1, 10000, refused(impl.ErrStale)},
		{"the least epoch", leased(1, 4), 1, math.MinInt64, refused(impl.ErrStale)},
		{"the greatest epoch", leased(1, 4), 1, math.MaxInt64, refused(impl.ErrStale)},
		{"an epoch that is its own in its lowest bytes", leased(1, 4), 1, 4 + 1<<32, refused(impl.ErrStale)},
		{"a holder below", leased(1, 4), -1, 4, refused(impl.ErrRange)},
		{"a holder beyond", leased(1, 4), 3, 4, refused(impl.ErrRange)},
		{"a holder below, and no lease", impl.Cache{}, -1, 1, refused(impl.ErrRange)},
		{"a holder beyond, and no lease", impl.Cache{}, 3, 1, refused(impl.ErrRange)},
		{"a holder beyond, and another epoch", leased(1, 4), 3, 5, refused(impl.ErrRange)},
		{"the least holder", leased(1, 4), math.MinInt64, 4, refused(impl.ErrRange)},
		{"the greatest holder", leased(1, 4), math.MaxInt64, 4, refused(impl.ErrRange)},
	} {
		wantStep(t, c.what, impl.RenewWrite(c.c, c.holder, c.epoch), c.want)
	}
}

// faultyLeases are caches with a lease, and a fault of which the code is ahead of all that is told of the lease.
func faultyLeases() []faultyCache {
	last := at(impl.NewLease(1, 9999), 5)
	return append([]faultyCache{
		{"the last epoch, at a Rev that is not known yet", cacheByHand(4, last), impl.ErrRange},
		{"the last epoch, ahead of a set", cacheByHand(5, last, at(impl.NewSet(1, 1), 1)), impl.ErrForm},
		{"the last epoch two times", cacheByHand(5, last, last), impl.ErrForm},
		{"the last epoch, and 60 others", cacheByHand(60, append(crowd(60), last)...), impl.ErrMany},
		{"an object of nothing behind it", cacheByHand(5, last, impl.Object{}), impl.ErrForm},
		{"the epoch 0", cacheByHand(5, at(impl.NewLease(1, 0), 5)), impl.ErrRange},
		{"an epoch beyond", cacheByHand(5, at(impl.NewLease(1, 10000), 5)), impl.ErrRange},
		{"a holder beyond", cacheByHand(5, at(impl.NewLease(3, 4), 5)), impl.ErrRange},
	}, faultyCaches()...)
}

func TestLeaseWritesAskTheCacheFirst(t *testing.T) {
	for _, c := range faultyLeases() {
		for _, holder := range []int64{math.MinInt64, -1, 0, 1, 2, 3, math.MaxInt64} {
			wantStep(t, c.what+", TakeWrite", impl.TakeWrite(c.c, holder), impl.StepResult{Code: c.want})
			for _, epoch := range []int64{math.MinInt64, -1, 0, 1, 4, 9999, 10000, math.MaxInt64} {
				wantStep(t, c.what+", RenewWrite", impl.RenewWrite(c.c, holder, epoch), impl.StepResult{Code: c.want})
			}
		}
	}
}

// wantLeaseWrites holds both writes against the document's lines written out once more.
func wantLeaseWrites(t *testing.T, what string, c impl.Cache) {
	t.Helper()
	for _, holder := range []int64{math.MinInt64, -1, 0, 1, 2, 3, 256, 1 << 32, math.MaxInt64} {
		wantStep(t, what+", TakeWrite", impl.TakeWrite(c, holder), takeByHand(c, holder))
		for _, epoch := range []int64{math.MinInt64, -1, 0, 1, 2, 3, 9998, 9999, 10000, 1 + 1<<32, math.MaxInt64} {
			wantStep(t, what+", RenewWrite", impl.RenewWrite(c, holder, epoch), renewByHand(c, holder, epoch))
		}
	}
}

func TestLeaseWritesAreThoseOfTheDocument(t *testing.T) {
	for what, was := range goodCaches() {
		wantLeaseWrites(t, what, was)
	}
	for _, was := range []impl.Cache{leased(0, 1), leased(2, 9999), leased(1, 2), storyCache()} {
		c := copiedCache(was)
		atEachNumber(append(numbersOfObjects(c.Objects), &c.Rev), []int64{math.MinInt64, -1, 0, 1, 2, 3, 9998, 9999, 10000, 1 << 32, math.MaxInt64}, func() {
			wantLeaseWrites(t, "a number is another one", c)
		})
	}
}

// wantLease asks that the store has this lease, written at its Rev.
func wantLease(t *testing.T, what string, s impl.Store, holder, epoch int64) {
	t.Helper()
	lease := impl.FindObject(s, impl.Key{Kind: 4})
	if lease != (impl.ObjectResult{Object: impl.Object{Kind: 4, A: holder, B: epoch, Rev: s.Rev}}) {
		t.Errorf("%s: the lease is %v, not the replica %d with the epoch %d", what, lease, holder, epoch)
	}
}

// wantTakenAndRenewed takes the lease of a store that has room for it, renews it, and looks at who is refused then.
func wantTakenAndRenewed(t *testing.T, what string, s impl.Store, holder int64) impl.Store {
	t.Helper()
	known, was := impl.ListStore(s).Cache, impl.EpochOf(s).Value
	take := impl.TakeWrite(known, holder)
	wantStep(t, what, take, takeByHand(known, holder))
	after := wantTaken(t, what+", taken", s, take.Write)
	wantLease(t, what+", taken", after, holder, was+1)
	if lease, there := knownLease(known); there {
		own := impl.RenewWrite(known, lease.A, lease.B)
		wantStep(t, what, own, leaseWrite(lease.A, lease.B, lease.Rev))
		wantLease(t, what+", renewed by who had it", wantTaken(t, what, s, own.Write), lease.A, lease.B)
		wantRefused(t, what+", renewed too late", after, own.Write, impl.ErrTaken)
		wantStep(t, what+", lost", impl.RenewWrite(impl.ListStore(after).Cache, lease.A, lease.B), impl.StepResult{Code: impl.ErrStale})
	}
	for other := range int64(3) {
		wantRefused(t, what+", taken by another one too late", after, impl.TakeWrite(known, other).Write, impl.ErrTaken)
		if other != holder {
			wantStep(t, what+", of another one", impl.RenewWrite(impl.ListStore(after).Cache, other, was+1), impl.StepResult{Code: impl.ErrStale})
		}
	}
	known = impl.ListStore(after).Cache
	renew := impl.RenewWrite(known, holder, was+1)
	wantStep(t, what, renew, leaseWrite(holder, was+1, after.Rev))
	again := wantTaken(t, what+", renewed", after, renew.Write)
	wantLease(t, what+", renewed", again, holder, was+1)
	wantRefused(t, what+", renewed twice", again, renew.Write, impl.ErrTaken)
	return again
}

func TestAStoreTakesBothWritesOfTheLease(t *testing.T) {
	list := stories()
	for seed := range 12 {
		list["more thrown ones "+string(rune('a'+seed))] = thrownWrites(100+seed, 60)
	}
	free, held, full := 0, 0, 0
	for what, story := range list {
		for _, s := range storesBehind(t, story) {
			if impl.EpochOf(s).Value == 0 {
				free++
			} else {
				held++
			}
			if len(s.Objects) == 60 {
				full++
			}
			for holder := range int64(3) {
				again := wantTakenAndRenewed(t, what, s, holder)
				wantTakenAndRenewed(t, what+", by the next one", again, (holder+1)%3)
			}
		}
	}
	if free < 20 || held < 500 || full < 5 {
		t.Error("the stores are not such as to tell much:", free, held, full)
	}
}

func TestTheLastEpochIsOnlyRenewed(t *testing.T) {
	s := storeByHand(70, at(impl.NewSet(1, 2), 60), at(impl.NewLease(1, 9998), 33))
	s = wantTakenAndRenewed(t, "the last epoch", s, 2)
	wantLease(t, "the last epoch", s, 2, 9999)
	for holder := range int64(3) {
		wantStep(t, "behind the last epoch", impl.TakeWrite(impl.ListStore(s).Cache, holder), impl.StepResult{Code: impl.ErrFull})
	}
	for range 3 {
		s = wantTaken(t, "renewed on", s, impl.RenewWrite(impl.ListStore(s).Cache, 2, 9999).Write)
		wantLease(t, "renewed on", s, 2, 9999)
	}
}

// Both writes are told where the store has no room for them, as a cache does not tell how much it has.
func TestLeaseWritesWithoutRoom(t *testing.T) {
	last := storeByHand(100000, at(impl.NewSet(0, 1), 1), at(impl.NewLease(0, 1), 2))
	known := impl.ListStore(last).Cache
	wantRefused(t, "taken at the last Rev", last, impl.TakeWrite(known, 1).Write, impl.ErrFull)
	wantRefused(t, "renewed at the last Rev", last, impl.RenewWrite(known, 0, 1).Write, impl.ErrFull)
	before := storeByHand(99999, at(impl.NewSet(0, 1), 1), at(impl.NewLease(0, 1), 2))
	wantLease(t, "taken ahead of it", wantTaken(t, "ahead of the last Rev", before, impl.TakeWrite(impl.ListStore(before).Cache, 1).Write), 1, 2)
	crowded := storeByHand(60, crowd(60)...)
	wantRefused(t, "60 objects, and no lease", crowded, impl.TakeWrite(impl.ListStore(crowded).Cache, 1).Write, impl.ErrFull)
	wantTakenAndRenewed(t, "60 objects, and a lease", fullStore(), 1)
}

// Some replicas take, renew and lose the lease: of each epoch there is one holder, and the epochs rise one by one where it is taken, and else stay.
func TestEachEpochHasOneHolder(t *testing.T) {
	for seed := range 10 {
		d, s := dice(seed), impl.Store{}
		holders, known, taken, renewed := map[int64]int64{}, [3]impl.Cache{}, 0, 0
		for range 300 {
			who := d.throw(3)
			if d.throw(2) == 0 {
				known[who] = impl.ListStore(s).Cache
			}
			was, step := impl.EpochOf(s).Value, impl.TakeWrite(known[who], who)
			lease, renews := knownLease(known[who])
			if renews = renews && d.throw(3) > 0; renews {
				step = impl.RenewWrite(known[who], who, lease.B)
			}
			got := impl.ApplyWrite(s, step.Write)
			if step.Code != impl.OK || got.Code != impl.OK {
				continue
			}
			s = got.Store
			is := impl.EpochOf(s).Value
			if renews {
				renewed++
			} else {
				taken++
				was++
			}
			if holder, had := holders[is]; is != was || had != renews || had && holder != who {
				t.Fatalf("%d by %d has now the epoch %d, which was %d; its holder was %d", s.Rev, who, is, was, holder)
			}
			holders[is] = who
		}
		if taken < 20 || renewed < 10 || int64(len(holders)) != impl.EpochOf(s).Value {
			t.Error("that does not tell much:", taken, renewed, len(holders))
		}
	}
}

// wantLeads looks at who believes that it leads, and who may take the lease.
func wantLeads(t *testing.T, what string, list [2]impl.Elector, believes, mayTake [2]bool) {
	t.Helper()
	for i, e := range list {
		if impl.Believes(e) != believes[i] || impl.MayTake(e) != mayTake[i] {
			t.Errorf("%s: of %d, %+v, it is told %v and %v", what, i, e, impl.Believes(e), impl.MayTake(e))
		}
	}
}

// A story of two replicas: the first one takes the lease and renews it, and then is silent, until the other one takes it.
func TestAStoryOfTheLease(t *testing.T) {
	s := impl.Store{}
	two := [2]impl.Elector{impl.NewElector(0).Elector, impl.NewElector(500).Elector}
	see := func() {
		lease, _ := knownLease(impl.ListStore(s).Cache)
		for i, e := range two {
			two[i] = impl.SeeLease(e, lease.Rev).Elector
		}
	}
	goOn := func(ticks int64) {
		for i, e := range two {
			two[i] = ticked(t, e, ticks)
		}
	}
	write := func(what string, who int, step impl.StepResult, ticks int64) {
		sent := two[who].Clock
		s = wantTaken(t, what, s, step.Write)
		goOn(ticks)
		two[who] = impl.WinLease(two[who], step.Write.Stamp, sent).Elector
		see()
	}
	neither := [2]bool{}
	wantLeads(t, "at first", two, neither, neither)
	see()
	wantLeads(t, "there is no lease", two, neither, [2]bool{true, true})
	write("it takes the lease", 0, impl.TakeWrite(impl.ListStore(s).Cache, 0), 3)
	wantLeads(t, "it has taken the lease", two, [2]bool{true, false}, neither)
	goOn(16)
	wantLeads(t, "19 behind the time at which it asked", two, [2]bool{true, false}, neither)
	write("it renews the lease", 0, impl.RenewWrite(impl.ListStore(s).Cache, 0, two[0].Epoch), 0)
	wantLease(t, "renewed", s, 0, 1)
	goOn(19)
	wantLeads(t, "19 behind the renewal", two, [2]bool{true, false}, neither)
	goOn(1)
	wantLeads(t, "20 behind the renewal", two, neither, neither)
	goOn(19)
	wantLeads(t, "39 behind the renewal", two, neither, neither)
	goOn(1)
	wantLeads(t, "40 behind the renewal", two, neither, [2]bool{false, true})
	two[0] = impl.StepDown(two[0]).Elector
	wantLeads(t, "it steps down", two, neither, [2]bool{true, true})
	write("the other one takes the lease", 1, impl.TakeWrite(impl.ListStore(s).Cache, 1), 2)
	wantLease(t, "taken by the other one", s, 1, 2)
	wantLeads(t, "the other one has taken it", two, [2]bool{false, true}, neither)
	wantElector(t, "the other one", impl.ElectorResult{Elector: two[1]}, impl.OK, impl.Elector{Clock: 561, Lead: true, Epoch: 2, Deadline: 579, Renew: 569, SeenRev: 3, SeenAt: 561})
}

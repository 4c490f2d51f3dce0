package tests

import (
	"bytes"
	"math"
	"slices"
	"testing"

	"loop.example/g00730/impl"
)

// The tests of this file are those of promise 1, of the functions of chapter 5.

func markAct() impl.Act {
	return impl.Act{Kind: 77, Write: markWrite(), Keep: 77, At: 77, Mask: 77}
}

// p1Disks are empty, right, torn, full, and too long ones.
func p1Disks() [][]byte {
	story := diskByHand(storyWrites()...)
	list := [][]byte{nil, {}, {17}, story, joined(story, filled(19)), story[:270], filled(300), diskByHand(longWrites(199)...), diskByHand(longWrites(200)...), diskByHand(crowdedWrites()...)}
	for _, c := range spoiled() {
		list = append(list, c.disk)
	}
	return list
}

// p1Runs are lists of acts of which some have codes, and some are too many.
func p1Runs() [][]impl.Act {
	list := [][]impl.Act{nil, {}, {crashes()}, storyActs(), actsOf(longWrites(200)...), actsOf(longWrites(201)...), make([]impl.Act, 200), make([]impl.Act, 201), thrownActs(3, 60), thrownActs(4, 200)}
	for a := range actsWithACode() {
		list = append(list, []impl.Act{a}, []impl.Act{writes(storyWrites()[0]), a, crashes()})
	}
	return list
}

func copiedRecovery(r impl.RecoverResult) impl.RecoverResult {
	return impl.RecoverResult{Code: r.Code, Writes: slices.Clone(r.Writes), Store: copied(r.Store), Size: r.Size}
}

func copiedServer(r impl.ServerResult) impl.ServerResult {
	return impl.ServerResult{Code: r.Code, Disk: bytes.Clone(r.Disk), Store: copied(r.Store), Codes: slices.Clone(r.Codes)}
}

// listsOfRecovery are calls that each write over one list of the answer.
func listsOfRecovery(r *impl.RecoverResult) map[string]func() {
	return map[string]func(){
		"Writes":  func() { overwrite(r.Writes, markWrite()); r.Writes = nil },
		"Objects": func() { overwrite(r.Store.Objects, markObject()); r.Store.Objects = nil },
		"History": func() { overwrite(r.Store.History, markChange()); r.Store.History = nil },
	}
}

func listsOfServer(r *impl.ServerResult) map[string]func() {
	return map[string]func(){
		"Disk":    func() { scribble(r.Disk); r.Disk = nil },
		"Objects": func() { overwrite(r.Store.Objects, markObject()); r.Store.Objects = nil },
		"History": func() { overwrite(r.Store.History, markChange()); r.Store.History = nil },
		"Codes":   func() { overwrite(r.Codes, 77); r.Codes = nil },
	}
}

func overwriteRecovery(r impl.RecoverResult) {
	for _, write := range listsOfRecovery(&r) {
		write()
	}
}

func overwriteServer(r impl.ServerResult) {
	for _, write := range listsOfServer(&r) {
		write()
	}
}

// wantRecovery asks that beside a code all else is zero, and that the second answer is the first one.
func wantRecovery(t *testing.T, what string, call func() impl.RecoverResult) {
	t.Helper()
	got := call()
	wantCode(t, what, got.Code)
	if got.Code != impl.OK && !sameRecovered(got, impl.RecoverResult{Code: got.Code}) {
		t.Errorf("%s: there is more beside a code: %v", what, got)
	}
	was := copiedRecovery(got)
	overwriteRecovery(got)
	if again := call(); !sameRecovered(again, was) {
		t.Errorf("%s: the second answer is %v, not %v", what, again, was)
	}
}

func wantServer(t *testing.T, what string, call func() impl.ServerResult) {
	t.Helper()
	got := call()
	wantCode(t, what, got.Code)
	if got.Code != impl.OK && !sameServers(got, impl.ServerResult{Code: got.Code}) {
		t.Errorf("%s: there is more beside a code: %v", what, got)
	}
	was := copiedServer(got)
	overwriteServer(got)
	if again := call(); !sameServers(again, was) {
		t.Errorf("%s: the second answer is %v, not %v", what, again, was)
	}
}

// wantServerAnswers calls the functions that take a disk and a write, and those that take acts.
func wantServerAnswers(t *testing.T, disk []byte, w impl.Write, list []impl.Act) {
	t.Helper()
	wantRecovery(t, "RecoverDisk", func() impl.RecoverResult { return impl.RecoverDisk(disk) })
	wantServer(t, "CommitWrite", func() impl.ServerResult { return impl.CommitWrite(disk, w) })
	wantServer(t, "RunServer", func() impl.ServerResult { return impl.RunServer(list) })
	wantRecovery(t, "LogOf", func() impl.RecoverResult { return impl.LogOf(list) })
	for _, a := range list[:min(len(list), 20)] {
		fault := impl.ActFault(a)
		wantCode(t, "ActFault", fault)
		if again := impl.ActFault(a); again != fault {
			t.Errorf("ActFault(%v) = %d, then %d", a, fault, again)
		}
	}
}

func TestServerFunctionsAnswerAtEveryArgument(t *testing.T) {
	for _, disk := range p1Disks() {
		for _, w := range p1Writes() {
			wantServerAnswers(t, disk, w, nil)
		}
	}
	for _, list := range p1Runs() {
		wantServerAnswers(t, nil, impl.Write{}, list)
	}
	story := diskByHand(storyWrites()...)
	for _, n := range append(sweep(), math.MinInt64, math.MaxInt64) {
		all := impl.Object{Kind: n, Id: n, A: n, B: n, C: n, D: n, Rev: n}
		w := impl.Write{Op: n, Object: all, Expect: n, Stamp: n}
		list := []impl.Act{{Kind: n, Write: w, Keep: n, At: n, Mask: n}, crashes(), tears(w, n, n, n), {Kind: 3, Keep: n}, tears(freshSet(1), n, 0, 0), tears(freshSet(2), 20, n, 0), tears(freshSet(3), 20, 3, n), writes(w), tears(freshSet(4), n, n-1, n)}
		wantServerAnswers(t, story, w, list)
	}
	for n := range 4200 {
		impl.RecoverDisk(filled(n))
		impl.CommitWrite(make([]byte, n), freshSet(1))
	}
	wantServerAnswers(t, make([]byte, 100000), freshSet(1), make([]impl.Act, 100000))
}

func TestNilIsAnEmptyDisk(t *testing.T) {
	if !sameRecovered(impl.RecoverDisk(nil), impl.RecoverResult{}) || !sameRecovered(impl.RecoverDisk([]byte{}), impl.RecoverResult{}) {
		t.Error("of an empty disk something comes again")
	}
	for _, w := range p1Writes() {
		if a, b := impl.CommitWrite(nil, w), impl.CommitWrite([]byte{}, w); !sameServers(a, b) {
			t.Errorf("CommitWrite of %v = %v to nil, %v to an empty disk", w, a, b)
		}
	}
	for _, list := range [][]impl.Act{nil, {}, spacious([]impl.Act{}, markAct())} {
		if !sameServers(impl.RunServer(list), impl.ServerResult{}) || !sameRecovered(impl.LogOf(list), impl.RecoverResult{}) {
			t.Error("of no acts something comes")
		}
	}
}

func TestServerFunctionsChangeNoArgument(t *testing.T) {
	for _, was := range p1Disks() {
		disk := roomy(was)
		impl.RecoverDisk(disk)
		for _, w := range append(p1Writes(), freshSet(9)) {
			impl.CommitWrite(disk, w)
		}
		wantUntouched(t, "a disk", disk, was)
	}
	for _, was := range p1Runs() {
		list := spacious(was, markAct())
		impl.RunServer(list)
		impl.LogOf(list)
		wantKept(t, "a list of acts", list, was, markAct())
	}
}

func TestWhatComesAgainIsNewMemory(t *testing.T) {
	for _, was := range p1Disks() {
		disk := roomy(was)
		first, second := impl.RecoverDisk(disk), impl.RecoverDisk(disk)
		want := copiedRecovery(first)
		overwriteRecovery(second)
		wantUntouched(t, "RecoverDisk, its answer written into", disk, was)
		scribble(disk)
		if !sameRecovered(first, want) {
			t.Error("RecoverDisk: the answer changes with the disk, or with another answer:", first)
		}
	}
	for _, was := range p1Runs() {
		list := spacious(was, markAct())
		first, second := impl.LogOf(list), impl.LogOf(list)
		want := copiedRecovery(first)
		overwriteRecovery(second)
		wantKept(t, "LogOf, its answer written into", list, was, markAct())
		overwrite(list, markAct())
		if !sameRecovered(first, want) {
			t.Error("LogOf: the answer changes with the acts, or with another answer:", first)
		}
	}
}

func TestServerAnswersAreNewMemory(t *testing.T) {
	for _, was := range p1Disks() {
		for _, w := range append(p1Writes(), freshSet(9)) {
			disk := roomy(was)
			first, second := impl.CommitWrite(disk, w), impl.CommitWrite(disk, w)
			want := copiedServer(first)
			overwriteServer(second)
			wantUntouched(t, "CommitWrite, its answer written into", disk, was)
			scribble(disk)
			if !sameServers(first, want) {
				t.Error("CommitWrite: the answer changes with the disk, or with another answer:", first)
			}
		}
	}
	for _, was := range p1Runs() {
		list := spacious(was, markAct())
		first, second := impl.RunServer(list), impl.RunServer(list)
		want := copiedServer(first)
		overwriteServer(second)
		wantKept(t, "RunServer, its answer written into", list, was, markAct())
		overwrite(list, markAct())
		if !sameServers(first, want) {
			t.Error("RunServer: the answer changes with the acts, or with another answer:", first)
		}
	}
}

// A list of an answer that is written into leaves the others as they were.
func TestListsOfServerAnswersShareNoMemory(t *testing.T) {
	for _, name := range []string{"Writes", "Objects", "History"} {
		for what, call := range map[string]func() impl.RecoverResult{
			"RecoverDisk": func() impl.RecoverResult { return impl.RecoverDisk(diskByHand(storyWrites()...)) },
			"LogOf":       func() impl.RecoverResult { return impl.LogOf(storyActs()) },
		} {
			got, want := call(), copiedRecovery(call())
			listsOfRecovery(&got)[name]()
			listsOfRecovery(&want)[name]()
			if again := call(); !sameRecovered(got, want) || !sameByHand(again.Store, storyStore()) {
				t.Errorf("%s: the others change with %s", what, name)
			}
		}
	}
	for _, name := range []string{"Disk", "Objects", "History", "Codes"} {
		for what, call := range map[string]func() impl.ServerResult{
			"CommitWrite": func() impl.ServerResult {
				return impl.CommitWrite(diskByHand(storyWrites()[:13]...), storyWrites()[13])
			},
			"RunServer": func() impl.ServerResult { return impl.RunServer(storyActs()) },
		} {
			got, want := call(), copiedServer(call())
			listsOfServer(&got)[name]()
			listsOfServer(&want)[name]()
			if again := call(); !sameServers(got, want) || !sameByHand(again.Store, storyStore()) {
				t.Errorf("%s: the others change with %s", what, name)
			}
		}
	}
}

func TestServerAnswersHangOnTheArgumentsAlone(t *testing.T) {
	for _, disk := range p1Disks() {
		w := freshSet(9)
		log, done := copiedRecovery(impl.RecoverDisk(disk)), copiedServer(impl.CommitWrite(disk, w))
		overwriteServer(impl.RunServer(storyActs()))
		impl.CommitWrite(diskByHand(longWrites(30)...), freshSet(7))
		impl.RecoverDisk(filled(5000))
		if !sameRecovered(impl.RecoverDisk(disk), log) || !sameServers(impl.CommitWrite(disk, w), done) {
			t.Errorf("of a disk of %d bytes the second answer is another one", len(disk))
		}
	}
	for _, list := range p1Runs() {
		run, log := copiedServer(impl.RunServer(list)), copiedRecovery(impl.LogOf(list))
		overwriteServer(impl.RunServer(storyActs()))
		impl.LogOf(thrownActs(9, 30))
		if !sameServers(impl.RunServer(list), run) || !sameRecovered(impl.LogOf(list), log) {
			t.Errorf("of %d acts the second answer is another one", len(list))
		}
	}
}

package tests

import (
	"bytes"
	"math"
	"slices"
	"sync"
	"testing"

	"loop.example/g00730/impl"
)

// The tests of this file are those of promise 6: what was answered is on the disk and comes again, and of what was torn nothing comes, or all of it.

// objectsThatCanBe is everyObject, made once: each frame of the tests here is looked up in it.
var objectsThatCanBe = sync.OnceValue(everyObject)

// bytesByHand are the 17 bytes of a write, which has no fault.
func bytesByHand(w impl.Write) []byte {
	data := []byte{byte(w.Op), byte(w.Object.Kind)}
	for _, n := range []int64{w.Object.Id, w.Object.A, w.Object.B, w.Object.C, w.Object.D} {
		data = append(data, byte(n/256), byte(n%256))
	}
	return append(data, byte(w.Expect/65536), byte(w.Expect/256%256), byte(w.Expect%256), byte(w.Stamp/256), byte(w.Stamp%256))
}

// diskByHand is a disk with these writes, whether a store would take them or not.
func diskByHand(list ...impl.Write) []byte {
	disk := []byte{}
	for _, w := range list {
		disk = append(disk, frameByHand(bytesByHand(w))...)
	}
	return disk
}

// recoverByHand goes along the document line by line. A frame with another size is no committed write.
func recoverByHand(disk []byte) impl.RecoverResult {
	if len(disk) > 4000 {
		return impl.RecoverResult{Code: impl.ErrMany}
	}
	found := impl.RecoverResult{}
	for {
		rest := disk[found.Size:]
		if len(rest) < 20 || !bytes.Equal(rest[:20], frameByHand(rest[1:18])) {
			return found
		}
		w, can := readByHand(objectsThatCanBe(), rest[1:18])
		if !can || refusedByHand(found.Store, w) != 0 {
			return found
		}
		found.Writes, found.Store, found.Size = append(found.Writes, w), afterByHand(found.Store, w), found.Size+20
	}
}

func commitByHand(disk []byte, w impl.Write) impl.ServerResult {
	found := recoverByHand(disk)
	if found.Code != 0 {
		return impl.ServerResult{Code: found.Code}
	}
	if found.Size != int64(len(disk)) {
		return impl.ServerResult{Code: impl.ErrForm}
	}
	if code := refusedByHand(found.Store, w); code != 0 {
		return impl.ServerResult{Code: code}
	}
	if len(disk)+20 > 4000 {
		return impl.ServerResult{Code: impl.ErrFull}
	}
	return impl.ServerResult{Disk: joined(disk, diskByHand(w)), Store: afterByHand(found.Store, w)}
}

func actFaultByHand(a impl.Act) int64 {
	switch a.Kind {
	case 1:
		if a.Keep != 0 || a.At != 0 || a.Mask != 0 {
			return impl.ErrForm
		}
	case 2:
		if a.Keep < 0 || a.Keep > 20 || a.Mask < 0 || a.Mask > 255 || a.At < 0 || a.Keep == 0 && a.At != 0 || a.Keep > 0 && a.At > a.Keep-1 {
			return impl.ErrRange
		}
	case 3:
		if a != (impl.Act{Kind: 3}) {
			return impl.ErrForm
		}
	default:
		return impl.ErrForm
	}
	return 0
}

// actByHand is the code of an act, and the disk behind it.
func actByHand(disk []byte, a impl.Act) (int64, []byte) {
	if code := actFaultByHand(a); code != 0 {
		return code, disk
	}
	if a.Kind == 3 {
		return 0, disk[:recoverByHand(disk).Size]
	}
	committed := commitByHand(disk, a.Write)
	if committed.Code != 0 {
		return committed.Code, disk
	}
	if a.Kind == 1 {
		return 0, committed.Disk
	}
	torn := joined(committed.Disk[:int64(len(disk))+a.Keep])
	if a.Keep > 0 {
		torn[int64(len(disk))+a.At] ^= byte(a.Mask)
	}
	return 0, torn[:recoverByHand(torn).Size]
}

func serverByHand(list []impl.Act) impl.ServerResult {
	if len(list) > 200 {
		return impl.ServerResult{Code: impl.ErrMany}
	}
	run := impl.ServerResult{}
	for _, a := range list {
		code, disk := actByHand(run.Disk, a)
		run.Codes, run.Disk = append(run.Codes, code), disk
	}
	run.Store = recoverByHand(run.Disk).Store
	return run
}

func sameRecovered(a, b impl.RecoverResult) bool {
	return a.Code == b.Code && slices.Equal(a.Writes, b.Writes) && sameByHand(a.Store, b.Store) && a.Size == b.Size
}

func sameServers(a, b impl.ServerResult) bool {
	return a.Code == b.Code && bytes.Equal(a.Disk, b.Disk) && sameByHand(a.Store, b.Store) && slices.Equal(a.Codes, b.Codes)
}

// wantRecovered asks that RecoverDisk tells these, and just what a replay of its Writes does.
func wantRecovered(t *testing.T, what string, disk []byte, want impl.RecoverResult) {
	t.Helper()
	got := impl.RecoverDisk(disk)
	if !sameRecovered(got, want) {
		t.Errorf("%s: RecoverDisk of %d bytes = %v, not %v", what, len(disk), got, want)
	}
	if got.Code != impl.OK {
		return
	}
	wantReplayed(t, got.Writes, got.Store)
	if fault := impl.StoreFault(got.Store); fault != impl.OK {
		t.Errorf("%s: the store that comes again has the fault %d", what, fault)
	}
	if again := diskByHand(got.Writes...); int64(len(again)) != got.Size || !bytes.HasPrefix(disk, again) {
		t.Errorf("%s: what comes again, %v, is not how the disk begins", what, got)
	}
}

// wantWrites asks that of a disk just these writes come again.
func wantWrites(t *testing.T, what string, disk []byte, list ...impl.Write) {
	t.Helper()
	wantRecovered(t, what, disk, impl.RecoverResult{Writes: list, Store: storeBehind(list), Size: 20 * int64(len(list))})
}

// storeBehind is the store that comes of writes that are all taken.
func storeBehind(list []impl.Write) impl.Store {
	s := impl.Store{}
	for _, w := range list {
		s = afterByHand(s, w)
	}
	return s
}

func wantCommitted(t *testing.T, what string, disk []byte, w impl.Write) []byte {
	t.Helper()
	got, want := impl.CommitWrite(disk, w), commitByHand(disk, w)
	if want.Code != impl.OK || !sameServers(got, want) || len(got.Codes) != 0 {
		t.Errorf("%s: CommitWrite of %v = %v, not %v", what, w, got, want)
	}
	return got.Disk
}

func wantNotCommitted(t *testing.T, what string, disk []byte, w impl.Write, want int64) {
	t.Helper()
	if got := impl.CommitWrite(disk, w); !sameServers(got, impl.ServerResult{Code: want}) {
		t.Errorf("%s: CommitWrite of %v = %v, not just the code %d", what, w, got, want)
	}
}

// wantRun asks that RunServer and LogOf tell what the document does, and hands on what RunServer told.
func wantRun(t *testing.T, what string, list []impl.Act) impl.ServerResult {
	t.Helper()
	got, want, log := impl.RunServer(list), serverByHand(list), impl.LogOf(list)
	if !sameServers(got, want) {
		t.Errorf("%s: RunServer of %v = %v, not %v", what, list, got, want)
	}
	if got.Code != impl.OK {
		if !sameRecovered(log, impl.RecoverResult{Code: got.Code}) {
			t.Errorf("%s: LogOf = %v, not just the code %d", what, log, got.Code)
		}
		return got
	}
	if len(got.Codes) != len(list) {
		t.Errorf("%s: %d acts have %d codes", what, len(list), len(got.Codes))
	}
	if !sameRecovered(log, impl.RecoverDisk(got.Disk)) || !sameRecovered(log, recoverByHand(want.Disk)) {
		t.Errorf("%s: LogOf = %v, and that is not what RecoverDisk tells", what, log)
	}
	if log.Size != int64(len(got.Disk)) || !sameByHand(log.Store, got.Store) {
		t.Errorf("%s: the disk and the store are not what comes again: %v, %v", what, got, log)
	}
	return got
}

func writes(w impl.Write) impl.Act {
	return impl.Act{Kind: 1, Write: w}
}

func tears(w impl.Write, keep, at, mask int64) impl.Act {
	return impl.Act{Kind: 2, Write: w, Keep: keep, At: at, Mask: mask}
}

func crashes() impl.Act {
	return impl.Act{Kind: 3}
}

// actsOf writes one write behind the other.
func actsOf(list ...impl.Write) []impl.Act {
	acts := []impl.Act{}
	for _, w := range list {
		acts = append(acts, writes(w))
	}
	return acts
}

// stories are lists of writes of which each is taken behind those ahead of it.
func stories() map[string][]impl.Write {
	list := map[string][]impl.Write{"the story": storyWrites(), "40 long ones": longWrites(40), "a crowd": crowdedWrites()}
	for seed := range 3 {
		list["thrown ones "+string(rune('a'+seed))] = thrownWrites(seed, 40)
	}
	return list
}

// freshSet is a user's write of a set that is new.
func freshSet(id int64) impl.Write {
	return put(impl.NewSet(id, 1), 0, 0)
}

func TestServerNumbersAreThoseOfTheDocument(t *testing.T) {
	if impl.MaxActs != 200 || impl.FrameSize != 20 || impl.ActWrite != 1 || impl.ActTear != 2 || impl.ActCrash != 3 {
		t.Error("the numbers are", impl.MaxActs, impl.FrameSize, impl.ActWrite, impl.ActTear, impl.ActCrash)
	}
}

func TestRecoverDiskOfCommittedWrites(t *testing.T) {
	wantRecovered(t, "nil", nil, impl.RecoverResult{})
	wantRecovered(t, "no bytes", []byte{}, impl.RecoverResult{})
	for what, list := range stories() {
		for n := range len(list) + 1 {
			wantWrites(t, what, diskByHand(list[:n]...), list[:n]...)
		}
	}
	wantRecovered(t, "the story", diskByHand(storyWrites()...), impl.RecoverResult{Writes: storyWrites(), Store: storyStore(), Size: 280})
}

// A shorter disk is how a longer one begins, so its cuts are among those of the longer one.
func TestRecoverDiskCutAtEveryLength(t *testing.T) {
	for what, list := range stories() {
		list = list[:min(len(list), 40)]
		disk := diskByHand(list...)
		for n := range disk {
			wantWrites(t, what, disk[:n], list[:n/20]...)
		}
	}
}

// Nothing comes of the frame in which a byte is turned, nor of those behind it.
func TestRecoverDiskWithAByteTurned(t *testing.T) {
	for _, list := range [][]impl.Write{storyWrites()[:3], thrownWrites(5, 3)} {
		for place := range 60 {
			disk := diskByHand(list...)
			was := disk[place]
			for mask := 1; mask <= 255; mask++ {
				disk[place] = was ^ byte(mask)
				wantWrites(t, "a byte turned", disk, list[:place/20]...)
			}
		}
	}
}

// noWrites are bodies of frames that no write has.
func noWrites() map[string][]byte {
	data := bytesByHand(put(impl.NewSet(9, 1), 0, 0))
	list := map[string][]byte{
		"one byte less":       data[:16],
		"the first byte less": data[1:],
		"one byte more":       joined(data, []byte{0}),
		"a zero ahead":        joined([]byte{0}, data),
		"one byte":            {1},
		"100 bytes":           filled(100),
		"twice":               joined(data, data),
		"in a frame again":    frameByHand(data),
		"17 zeros":            make([]byte, 17),
		"17 times 255":        bytes.Repeat([]byte{255}, 17),
	}
	for what, turn := range map[string]struct {
		place int
		to    byte
	}{
		"an Op of 0": {0, 0}, "an Op of 3": {0, 3}, "a delete that expects none": {0, 2}, "a Kind of 0": {1, 0}, "a Kind of 5": {1, 5},
		"a set that is a lease": {1, 4}, "an Id of 20": {3, 20}, "an Id of 265": {2, 1}, "an A of 9": {5, 9}, "a B of 1": {7, 1},
		"a C of 1": {9, 1}, "a D of 1": {11, 1}, "an Expect beyond": {12, 2}, "a Stamp beyond": {15, 40},
	} {
		list[what] = bytes.Clone(data)
		list[what][turn.place] = turn.to
	}
	return list
}

// Behind what is no write nothing comes again, right as it may be.
func TestRecoverDiskWithAFrameThatIsNoWrite(t *testing.T) {
	story := storyWrites()
	for what, body := range noWrites() {
		for place := range len(story) + 1 {
			ahead, behind := diskByHand(story[:place]...), diskByHand(story[place:]...)
			wantWrites(t, what, joined(ahead, frameByHand(body), behind), story[:place]...)
			wantWrites(t, what+", twice", joined(ahead, frameByHand(body), frameByHand(body)), story[:place]...)
		}
	}
}

// refusedWrites are such as the store of the story does not take, each with its code.
func refusedWrites() []gateCase {
	return []gateCase{
		{"another one is expected", put(impl.NewSet(1, 3), 2, 0), impl.ErrTaken},
		{"none is expected", put(impl.NewSet(1, 3), 0, 0), impl.ErrTaken},
		{"one that is not there goes", del(impl.NewSet(9, 1), 3, 0), impl.ErrTaken},
		{"another epoch", put(podByHand(1, 1, 5, 0), 0, 1), impl.ErrStale},
		{"an epoch to come", put(podByHand(1, 1, 5, 0), 0, 3), impl.ErrStale},
		{"a pod of a user", put(podByHand(1, 1, 5, 0), 0, 0), impl.ErrState},
		{"a job that is done ahead", put(impl.NewJob(9, 2, 1), 0, 0), impl.ErrState},
		{"the lease goes", del(impl.NewLease(2, 2), 10, 2), impl.ErrState},
		{"an epoch is left out", put(impl.NewLease(2, 4), 10, 4), impl.ErrState},
	}
}

func TestRecoverDiskWithAWriteThatIsRefused(t *testing.T) {
	story := storyWrites()
	for _, c := range refusedWrites() {
		wantWrites(t, c.what, diskByHand(append(story[:14:14], c.w)...), story...)
		wantWrites(t, c.what, diskByHand(append(story[:14:14], c.w, freshSet(9))...), story...)
		wantWrites(t, c.what, diskByHand(append(story[:14:14], c.w, c.w)...), story...)
	}
	// The first set once more: its Expect is never right, wherever it stands behind.
	for place := 1; place <= len(story); place++ {
		disk := diskByHand(slices.Insert(slices.Clone(story), place, story[0])...)
		wantWrites(t, "the first one again", disk, story[:place]...)
	}
	wantWrites(t, "the first one is refused", diskByHand(append([]impl.Write{put(impl.NewSet(1, 1), 1, 0)}, story...)...))
	wantWrites(t, "the first one is of no epoch", diskByHand(append([]impl.Write{put(podByHand(1, 1, 0, 0), 0, 1)}, story...)...))
	crowd := crowdedWrites()[:60]
	wantWrites(t, "60 objects", diskByHand(append(crowd[:60:60], put(podByHand(1, 19, 4, 0), 0, 1), del(impl.NewSet(0, 1), 2, 0))...), crowd...)
}

func TestRecoverDiskOfAFullDisk(t *testing.T) {
	list := longWrites(201)
	full := diskByHand(list[:200]...)
	wantWrites(t, "200 writes", full, list[:200]...)
	wantWrites(t, "a byte less", full[:3999], list[:199]...)
	wantWrites(t, "199 writes, and 20 other bytes", joined(full[:3980], filled(20)), list[:199]...)
	wantWrites(t, "4000 other bytes", bytes.Repeat([]byte{7}, 4000))
	many := impl.RecoverResult{Code: impl.ErrMany}
	wantRecovered(t, "a byte more", joined(full, []byte{0}), many)
	wantRecovered(t, "201 writes", diskByHand(list...), many)
	wantRecovered(t, "4001 bytes of nothing", make([]byte, 4001), many)
	wantRecovered(t, "a write, and too many bytes", joined(full[:20], make([]byte, 3981)), many)
}

func TestTheSizeIsThatOfTheWritesAlone(t *testing.T) {
	story := storyWrites()
	disk := diskByHand(story[:4]...)
	for _, tail := range [][]byte{{0}, {17}, {255}, {17, 1}, filled(19), filled(20), filled(21), filled(200), diskByHand(story[4])[:19], frameByHand([]byte{1}), frameByHand(filled(100))} {
		wantWrites(t, "bytes behind", joined(disk, tail), story[:4]...)
		wantWrites(t, "bytes behind, and right ones", joined(disk, tail, diskByHand(story[4:]...)), story[:4]...)
		wantWrites(t, "bytes alone", tail)
	}
}

func TestCommitWriteOneBehindTheOther(t *testing.T) {
	for what, list := range stories() {
		disk := []byte{}
		for i, w := range list {
			disk = wantCommitted(t, what, disk, w)
			if !bytes.Equal(disk, diskByHand(list[:i+1]...)) {
				t.Fatalf("%s: behind %d writes the disk is %v", what, i+1, disk)
			}
			wantWrites(t, what, disk, list[:i+1]...)
		}
	}
	got := impl.CommitWrite(nil, put(impl.NewSet(1, 2), 0, 0))
	want := impl.ServerResult{
		Disk: frameByHand([]byte{1, 1, 0, 1, 0, 2, 0, 0, 0, 0, 0, 0, 0, 0, 0, 0, 0}),
		Store: impl.Store{
			Rev:     1,
			Objects: []impl.Object{{Kind: 1, Id: 1, A: 2, Rev: 1}},
			History: []impl.Change{{Rev: 1, Object: impl.Object{Kind: 1, Id: 1, A: 2, Rev: 1}}},
		},
	}
	if !sameServers(got, want) {
		t.Errorf("CommitWrite of the first write = %v, not %v", got, want)
	}
}

func TestCommitWriteCodes(t *testing.T) {
	story := diskByHand(storyWrites()...)
	for w, want := range faultyWrites() {
		wantNotCommitted(t, "an empty disk", nil, w, want)
		wantNotCommitted(t, "the story", story, w, want)
	}
	for _, c := range refusedWrites() {
		wantNotCommitted(t, c.what, story, c.w, c.want)
	}
	crowd := diskByHand(crowdedWrites()[:60]...)
	wantNotCommitted(t, "60 objects", crowd, put(podByHand(1, 19, 4, 0), 0, 1), impl.ErrFull)
	wantNotCommitted(t, "60 objects, and another epoch", crowd, put(podByHand(1, 19, 4, 0), 0, 2), impl.ErrStale)
	wantCommitted(t, "60 objects, and one goes", crowd, del(impl.NewSet(0, 1), 2, 0))
}

// spoiled are disks of which not all bytes come again, or that have too many, each with the code of this.
func spoiled() map[string]faultyDisk {
	story := storyWrites()
	disk := diskByHand(story...)
	return map[string]faultyDisk{
		"a byte more":                 {joined(disk, []byte{0}), impl.ErrForm},
		"a byte alone":                {[]byte{0}, impl.ErrForm},
		"a torn frame":                {joined(disk, diskByHand(freshSet(9))[:19]), impl.ErrForm},
		"a torn frame, and right one": {joined(disk, []byte{17}, diskByHand(freshSet(9))), impl.ErrForm},
		"a frame that is no write":    {joined(disk, frameByHand([]byte{1})), impl.ErrForm},
		"one that is refused":         {joined(disk, diskByHand(story[0])), impl.ErrForm},
		"a byte less":                 {disk[:279], impl.ErrForm},
		"the first frame less":        {disk[20:], impl.ErrForm},
		"4000 bytes, the last torn":   {joined(diskByHand(longWrites(199)...), filled(20)), impl.ErrForm},
		"4000 bytes of nothing":       {make([]byte, 4000), impl.ErrForm},
		"4001 bytes of nothing":       {make([]byte, 4001), impl.ErrMany},
		"201 writes":                  {diskByHand(longWrites(201)...), impl.ErrMany},
		"200 writes and a byte":       {joined(diskByHand(longWrites(200)...), []byte{17}), impl.ErrMany},
	}
}

type faultyDisk struct {
	disk []byte
	want int64
}

func TestCommitWriteAsksTheDiskFirst(t *testing.T) {
	list := []impl.Write{freshSet(9), put(impl.NewSet(1, 3), 1, 0), storyWrites()[0], longWrites(202)[201]}
	for _, c := range refusedWrites() {
		list = append(list, c.w)
	}
	for w := range faultyWrites() {
		list = append(list, w)
	}
	for what, c := range spoiled() {
		for _, w := range list {
			wantNotCommitted(t, what, c.disk, w, c.want)
		}
	}
}

func TestCommitWriteToAFullDisk(t *testing.T) {
	list := longWrites(201)
	disk := diskByHand(list[:199]...)
	disk = wantCommitted(t, "the last one for which there is room", disk, list[199])
	if len(disk) != 4000 {
		t.Fatal("behind 200 writes the disk has so many bytes:", len(disk))
	}
	wantNotCommitted(t, "one more", disk, list[200], impl.ErrFull)
	wantNotCommitted(t, "another one more", disk, freshSet(9), impl.ErrFull)
	wantNotCommitted(t, "one that goes", disk, del(impl.NewSet(0, 1), 200, 0), impl.ErrFull)
	wantNotCommitted(t, "one that is refused", disk, put(impl.NewSet(0, 1), 0, 0), impl.ErrTaken)
	wantNotCommitted(t, "one of another epoch", disk, put(podByHand(1, 1, 0, 0), 0, 1), impl.ErrStale)
	wantNotCommitted(t, "one that does not fit", disk, put(podByHand(1, 1, 0, 0), 0, 0), impl.ErrState)
	wantNotCommitted(t, "one with a fault", disk, put(impl.NewSet(0, 9), 0, 0), impl.ErrRange)
	wantNotCommitted(t, "nothing", disk, impl.Write{}, impl.ErrForm)
}

func TestCommitWriteIsThatOfTheDocument(t *testing.T) {
	codes := map[int64]int{}
	for seed := range 4 {
		d, disk := dice(seed), []byte{}
		for range 250 {
			w := thrownWrite(&d, recoverByHand(disk).Store)
			want := commitByHand(disk, w)
			codes[want.Code]++
			if want.Code == impl.OK {
				disk = wantCommitted(t, "thrown", disk, w)
			} else {
				wantNotCommitted(t, "thrown", disk, w, want.Code)
			}
		}
	}
	if codes[impl.OK] < 100 || codes[impl.ErrTaken] < 20 || codes[impl.ErrState] < 20 || codes[impl.ErrStale] < 20 {
		t.Error("the writes are not such as to tell much:", codes)
	}
}

func wantActFault(t *testing.T, what string, a impl.Act, want int64) {
	t.Helper()
	if got := impl.ActFault(a); got != want {
		t.Errorf("%s: ActFault(%v) = %d, not %d", what, a, got, want)
	}
}

// numbersOfAct are all int64 fields of an act.
func numbersOfAct(a *impl.Act) []*int64 {
	o := &a.Write.Object
	return append(numbersIn(o), &o.Kind, &o.Rev, &a.Write.Op, &a.Write.Expect, &a.Write.Stamp, &a.Kind, &a.Keep, &a.At, &a.Mask)
}

func TestActFaultOfEachKind(t *testing.T) {
	w := freshSet(1)
	for _, c := range []struct {
		kind              int64
		bare, write, tear int64
	}{
		{-1, impl.ErrForm, impl.ErrForm, impl.ErrForm},
		{0, impl.ErrForm, impl.ErrForm, impl.ErrForm},
		{1, impl.OK, impl.OK, impl.ErrForm},
		{2, impl.OK, impl.OK, impl.OK},
		{3, impl.OK, impl.ErrForm, impl.ErrForm},
		{4, impl.ErrForm, impl.ErrForm, impl.ErrForm},
		{1 + 256, impl.ErrForm, impl.ErrForm, impl.ErrForm},
		{1 + 1<<32, impl.ErrForm, impl.ErrForm, impl.ErrForm},
		{math.MinInt64, impl.ErrForm, impl.ErrForm, impl.ErrForm},
		{math.MaxInt64, impl.ErrForm, impl.ErrForm, impl.ErrForm},
	} {
		wantActFault(t, "the Kind alone", impl.Act{Kind: c.kind}, c.bare)
		wantActFault(t, "a Write, too", impl.Act{Kind: c.kind, Write: w}, c.write)
		wantActFault(t, "a Keep, too", impl.Act{Kind: c.kind, Keep: 1}, c.tear)
		wantActFault(t, "a Mask, too", impl.Act{Kind: c.kind, Mask: 1}, c.tear)
		wantActFault(t, "all of it", impl.Act{Kind: c.kind, Write: w, Keep: 20, At: 19, Mask: 255}, c.tear)
	}
}

func TestActFaultAtEachNumber(t *testing.T) {
	for what, a := range map[string]impl.Act{
		"a write of nothing": {Kind: 1}, "a write": writes(freshSet(1)), "a crash": crashes(),
		"a tear of nothing": {Kind: 2}, "a tear": tears(freshSet(1), 0, 0, 0), "a tear of all": tears(freshSet(1), 20, 19, 255), "a tear between": tears(freshSet(1), 7, 3, 8),
	} {
		for _, number := range numbersOfAct(&a) {
			was := *number
			for _, n := range append(edgeValues(), was) {
				*number = n
				wantActFault(t, what, a, actFaultByHand(a))
			}
			*number = was
		}
	}
}

func TestActFaultOfTears(t *testing.T) {
	numbers := []int64{math.MinInt64, -1, 0, 1, 2, 18, 19, 20, 21, 254, 255, 256, 257, 1 << 32, math.MaxInt64}
	for _, keep := range numbers {
		for _, at := range append(numbers, keep-1, keep, keep+1) {
			for _, mask := range numbers {
				a := tears(freshSet(1), keep, at, mask)
				wantActFault(t, "a tear", a, actFaultByHand(a))
			}
		}
	}
	for _, c := range []struct{ keep, at, mask, want int64 }{
		{0, 0, 0, impl.OK}, {0, 0, 255, impl.OK}, {1, 0, 0, impl.OK}, {20, 19, 255, impl.OK}, {20, 0, 0, impl.OK}, {5, 4, 1, impl.OK},
		{-1, 0, 0, impl.ErrRange}, {21, 0, 0, impl.ErrRange}, {21, 20, 0, impl.ErrRange}, {0, 1, 0, impl.ErrRange}, {0, -1, 0, impl.ErrRange},
		{1, 1, 0, impl.ErrRange}, {1, -1, 0, impl.ErrRange}, {20, 20, 0, impl.ErrRange}, {20, 0, -1, impl.ErrRange}, {20, 0, 256, impl.ErrRange},
		{math.MinInt64, math.MaxInt64, 0, impl.ErrRange}, {math.MaxInt64, math.MaxInt64 - 1, 0, impl.ErrRange},
	} {
		wantActFault(t, "a tear", tears(freshSet(1), c.keep, c.at, c.mask), c.want)
	}
}

func TestActFaultAsksTheFormFirst(t *testing.T) {
	w := freshSet(1)
	for what, a := range map[string]impl.Act{
		"a write, and a Keep beyond":          {Kind: 1, Write: w, Keep: 21},
		"a write, and an At below":            {Kind: 1, Write: w, At: -1},
		"a write, and a Mask beyond":          {Kind: 1, Write: w, Mask: 256},
		"a crash, and a Mask beyond":          {Kind: 3, Mask: 256},
		"a crash, and a Keep below":           {Kind: 3, Keep: -1},
		"a crash, a Write and an At beyond":   {Kind: 3, Write: w, At: 20},
		"no Kind, and a Keep beyond":          {Keep: 21},
		"a Kind that is none, a Mask beyond":  {Kind: 4, Write: w, Mask: 256},
		"a Kind that is none, an At below":    {Kind: -1, Write: w, At: -1},
		"a crash, and a Write without an Op":  {Kind: 3, Write: impl.Write{Stamp: 1}},
		"a crash, and a Write with a Rev":     {Kind: 3, Write: impl.Write{Object: impl.Object{Rev: 1}}},
		"a crash, and a Write with an Expect": {Kind: 3, Write: impl.Write{Expect: 1}},
	} {
		wantActFault(t, what, a, impl.ErrForm)
	}
	// What the write is worth is asked by who commits it.
	for w := range faultyWrites() {
		wantActFault(t, "a write with a fault", writes(w), impl.OK)
		wantActFault(t, "a write with a fault is torn", tears(w, 3, 2, 1), impl.OK)
		wantActFault(t, "a write with a fault is torn, and a Keep beyond", tears(w, 21, 0, 0), impl.ErrRange)
	}
}

func TestRunServerOfNoActs(t *testing.T) {
	for _, list := range [][]impl.Act{nil, {}} {
		if got := wantRun(t, "no acts", list); !sameServers(got, impl.ServerResult{}) {
			t.Error("RunServer of no acts =", got)
		}
	}
}

func TestRunServerOfOneAct(t *testing.T) {
	w := freshSet(1)
	for _, c := range []struct {
		what string
		a    impl.Act
		code int64
		size int
	}{
		{"a write", writes(w), impl.OK, 20},
		{"a write with a fault", writes(put(impl.NewSet(1, 9), 0, 0)), impl.ErrRange, 0},
		{"a write that is refused", writes(put(impl.NewSet(1, 1), 1, 0)), impl.ErrTaken, 0},
		{"a write of nothing", writes(impl.Write{}), impl.ErrForm, 0},
		{"a crash of an empty disk", crashes(), impl.OK, 0},
		{"a crash with a Keep", impl.Act{Kind: 3, Keep: 1}, impl.ErrForm, 0},
		{"an act of no Kind", impl.Act{}, impl.ErrForm, 0},
		{"a tear of nothing", tears(w, 0, 0, 0), impl.OK, 0},
		{"a tear of nothing, with a Mask", tears(w, 0, 0, 255), impl.OK, 0},
		{"a tear of 19 bytes", tears(w, 19, 0, 0), impl.OK, 0},
		{"a tear of all", tears(w, 20, 0, 0), impl.OK, 20},
		{"a tear of all, with an At", tears(w, 20, 19, 0), impl.OK, 20},
		{"a tear of all, turned", tears(w, 20, 5, 3), impl.OK, 0},
		{"a tear beyond", tears(w, 21, 0, 0), impl.ErrRange, 0},
		{"a tear of a write with a fault", tears(put(impl.NewSet(1, 9), 0, 0), 20, 0, 0), impl.ErrRange, 0},
		{"a tear of a write that is refused", tears(put(impl.NewSet(1, 1), 1, 0), 20, 0, 0), impl.ErrTaken, 0},
	} {
		got := wantRun(t, c.what, []impl.Act{c.a})
		if got.Code != impl.OK || !slices.Equal(got.Codes, []int64{c.code}) || len(got.Disk) != c.size || got.Store.Rev != int64(c.size/20) {
			t.Errorf("%s: RunServer = %v, not the code %d and %d bytes", c.what, got, c.code, c.size)
		}
	}
}

func TestRunServerOfManyActs(t *testing.T) {
	acts := actsOf(longWrites(201)...)
	got := wantRun(t, "200 writes", acts[:200])
	if got.Code != impl.OK || len(got.Disk) != 4000 || got.Store.Rev != 200 || !slices.Equal(got.Codes, make([]int64, 200)) {
		t.Error("RunServer of 200 writes =", got)
	}
	for what, list := range map[string][]impl.Act{
		"201 writes": acts, "201 crashes": slices.Repeat([]impl.Act{crashes()}, 201),
		"201 acts of no Kind": make([]impl.Act, 201), "1000 acts of no Kind": make([]impl.Act, 1000),
	} {
		if got := wantRun(t, what, list); !sameServers(got, impl.ServerResult{Code: impl.ErrMany}) {
			t.Errorf("%s: RunServer = %v", what, got)
		}
	}
	got = wantRun(t, "200 acts of no Kind", make([]impl.Act, 200))
	if !sameServers(got, impl.ServerResult{Codes: slices.Repeat([]int64{impl.ErrForm}, 200)}) {
		t.Error("RunServer of 200 acts of no Kind =", got)
	}
	acts[199] = tears(longWrites(200)[199], 20, 0, 0)
	if got := wantRun(t, "199 writes, and one that is torn, but all there", acts[:200]); len(got.Disk) != 4000 {
		t.Error("the disk has so many bytes:", len(got.Disk))
	}
	acts[199].Keep = 19
	if got := wantRun(t, "199 writes, and one that is torn", acts[:200]); len(got.Disk) != 3980 {
		t.Error("the disk has so many bytes:", len(got.Disk))
	}
}

// actsWithACode are acts that have a code wherever they stand among storyActs.
func actsWithACode() map[impl.Act]int64 {
	bad, never := put(impl.NewSet(3, 9), 0, 0), put(impl.NewSet(3, 1), 77, 0)
	list := map[impl.Act]int64{
		{}:                                       impl.ErrForm,
		{Kind: 4}:                                impl.ErrForm,
		{Kind: -1, Write: freshSet(3)}:           impl.ErrForm,
		{Kind: 3, Write: freshSet(3)}:            impl.ErrForm,
		{Kind: 3, Mask: 1}:                       impl.ErrForm,
		{Kind: 1}:                                impl.ErrForm,
		{Kind: 2}:                                impl.ErrForm,
		{Kind: 2, Keep: 20}:                      impl.ErrForm,
		tears(freshSet(3), 21, 0, 0):             impl.ErrRange,
		tears(freshSet(3), 20, 20, 0):            impl.ErrRange,
		tears(freshSet(3), 20, 0, 256):           impl.ErrRange,
		tears(freshSet(3), 0, 0, -1):             impl.ErrRange,
		tears(never, 20, 20, 0):                  impl.ErrRange,
		tears(put(bad.Object, 0, -1), 20, 20, 0): impl.ErrRange,
		{Kind: 1, Write: freshSet(3), Keep: 20}:  impl.ErrForm,
		{Kind: 1, Write: bad, At: 1}:             impl.ErrForm,
	}
	pod := put(podByHand(1, 3, 0, 0), 0, 9)
	user := put(podByHand(1, 3, 0, 0), 0, 0)
	for _, c := range []gateCase{{"", bad, impl.ErrRange}, {"", never, impl.ErrTaken}, {"", pod, impl.ErrStale}, {"", user, impl.ErrState}, {"", impl.Write{Op: 7, Object: impl.NewSet(3, 1)}, impl.ErrForm}} {
		list[writes(c.w)] = c.want
		for _, keep := range []int64{0, 1, 7, 19, 20} {
			list[tears(c.w, keep, 0, 0)] = c.want
			list[tears(c.w, keep, max(keep, 1)-1, 129)] = c.want
		}
	}
	return list
}

// storyActs are writes, tears and crashes that have no code.
func storyActs() []impl.Act {
	story := storyWrites()
	return slices.Concat(
		[]impl.Act{crashes(), tears(story[0], 12, 3, 0)},
		actsOf(story[:5]...),
		[]impl.Act{crashes(), tears(story[5], 20, 7, 1), tears(story[5], 20, 7, 0)},
		actsOf(story[6:12]...),
		[]impl.Act{tears(story[12], 0, 0, 9), tears(story[12], 20, 0, 0), tears(story[13], 19, 18, 255), tears(story[13], 20, 19, 0), crashes(), crashes()},
	)
}

func TestStoryActs(t *testing.T) {
	got := wantRun(t, "the story", storyActs())
	if got.Code != impl.OK || !slices.Equal(got.Codes, make([]int64, len(storyActs()))) || !sameByHand(got.Store, storyStore()) || !bytes.Equal(got.Disk, diskByHand(storyWrites()...)) {
		t.Error("RunServer of the story =", got)
	}
	if log := impl.LogOf(storyActs()); !sameRecovered(log, impl.RecoverResult{Writes: storyWrites(), Store: storyStore(), Size: 280}) {
		t.Error("LogOf the story =", log)
	}
}

// An act that has a code turns nothing: all is as without it, but for its code.
func TestAnActWithACodeTurnsNothing(t *testing.T) {
	acts := storyActs()
	without := impl.RunServer(acts)
	for a, code := range actsWithACode() {
		for place := range len(acts) + 1 {
			got := wantRun(t, "one with a code", slices.Insert(slices.Clone(acts), place, a))
			want := without
			want.Codes = slices.Insert(slices.Clone(without.Codes), place, code)
			if !sameServers(got, want) {
				t.Errorf("%v at the place %d: RunServer = %v, not %v", a, place, got, want)
			}
		}
	}
	for a, code := range actsWithACode() {
		list := append(slices.Repeat([]impl.Act{a}, 186), actsOf(storyWrites()...)...)
		got := impl.RunServer(list)
		if !sameByHand(got.Store, storyStore()) || !slices.Equal(got.Codes, append(slices.Repeat([]int64{code}, 186), make([]int64, 14)...)) {
			t.Errorf("%v 186 times: RunServer = %v", a, got)
		}
	}
}

// Of what is torn nothing comes, or all of it, and what was ahead stays.
func TestOfWhatIsTornNothingComesOrAllOfIt(t *testing.T) {
	story := storyWrites()
	ahead := actsOf(story[:3]...)
	less, more := serverByHand(ahead), serverByHand(actsOf(story[:4]...))
	for keep := range int64(21) {
		for place := range max(keep, 1) {
			for mask := range int64(256) {
				list := append(ahead[:3:3], tears(story[3], keep, place, mask))
				want := less
				if keep == 20 && mask == 0 {
					want = more
				}
				want.Codes = make([]int64, 4)
				if got := impl.RunServer(list); !sameServers(got, want) {
					t.Fatalf("a tear by %d, %d, %d: RunServer = %v, not %v", keep, place, mask, got, want)
				}
			}
		}
	}
}

// What was torn and did not come can be written again; what came cannot.
func TestWhatWasTornIsWrittenAgain(t *testing.T) {
	w := freshSet(1)
	for keep := range int64(21) {
		for _, mask := range []int64{0, 1, 255} {
			want := int64(impl.OK)
			if keep == 20 && mask == 0 {
				want = impl.ErrTaken
			}
			got := wantRun(t, "torn, and written", []impl.Act{tears(w, keep, 0, mask), writes(w), crashes()})
			if !slices.Equal(got.Codes, []int64{0, want, 0}) || !bytes.Equal(got.Disk, diskByHand(w)) {
				t.Errorf("a tear by %d, 0, %d: RunServer = %v", keep, mask, got)
			}
		}
	}
}

// thrownActs are acts such as may follow one the other, some of them with a code.
func thrownActs(seed int, n int) []impl.Act {
	d, list, disk := dice(seed), []impl.Act{}, []byte{}
	for range n {
		a := writes(thrownWrite(&d, recoverByHand(disk).Store))
		switch d.throw(8) {
		case 0:
			a = crashes()
		case 1:
			a = tears(a.Write, 20, d.throw(20), 0)
		case 2:
			a = tears(a.Write, d.throw(22), d.throw(20), d.throw(257))
		case 3:
			a.Kind = d.throw(5)
		}
		list = append(list, a)
		_, disk = actByHand(disk, a)
	}
	return list
}

func TestWhatWasAnsweredComesAgain(t *testing.T) {
	kinds, codes := map[int64]int{}, map[int64]int{}
	for seed := range 12 {
		list := thrownActs(seed, 120)
		run := wantRun(t, "thrown", list)
		answered := []impl.Write{}
		log := impl.LogOf(list).Writes
		for i, a := range list {
			kinds[a.Kind]++
			codes[run.Codes[i]]++
			came := len(answered) < len(log) && log[len(answered)] == a.Write
			if run.Codes[i] == impl.OK && (a.Kind == impl.ActWrite || a.Kind == impl.ActTear && a.Keep == 20 && a.Mask == 0) {
				answered = append(answered, a.Write)
				if !came {
					t.Errorf("seed %d: the act %d was answered, and %v is not on the disk", seed, i, a.Write)
				}
			}
		}
		if !slices.Equal(log, answered) {
			t.Errorf("seed %d: LogOf tells %d writes, and %d were answered or came whole", seed, len(log), len(answered))
		}
		for n := range len(list) {
			head := impl.RunServer(list[:n])
			if !bytes.HasPrefix(run.Disk, head.Disk) || !slices.Equal(head.Codes, run.Codes[:n]) {
				t.Errorf("seed %d: what was there behind %d acts did not stay", seed, n)
			}
		}
		crashed := wantRun(t, "thrown, and a crash", append(slices.Clone(list), crashes()))
		if !bytes.Equal(crashed.Disk, run.Disk) || !sameByHand(crashed.Store, run.Store) {
			t.Errorf("seed %d: a crash at the end turns what was there", seed)
		}
	}
	for _, kind := range []int64{0, 1, 2, 3, 4} {
		if kinds[kind] < 10 {
			t.Error("the acts are not such as to tell much:", kinds)
		}
	}
	for _, code := range []int64{impl.OK, impl.ErrForm, impl.ErrRange, impl.ErrStale, impl.ErrState, impl.ErrTaken} {
		if codes[code] < 10 {
			t.Error("the acts are not such as to tell much:", codes)
		}
	}
}

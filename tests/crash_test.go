package tests

import (
	"math"
	"slices"
	"strings"
	"testing"

	"loop.example/g00406/impl"
)

// downByHand gives what a crash leaves of an array that was Up.
func downByHand(a impl.Array, given []int64, keep int64) impl.Array {
	want := impl.Array{Log: a.Log}
	for disk, d := range a.Disks {
		var set int64
		if disk < len(given) && given[disk] >= 0 && given[disk] < sets {
			set = given[disk]
		}
		want.Disks = append(want.Disks, fallen(d, set))
	}
	if a.Stage == 1 {
		want.Log = a.Next[:max(0, min(keep, int64(len(a.Next))))]
	}
	return want
}

// upByHand gives what an array that was not Up is restarted as.
func upByHand(a impl.Array) impl.Array {
	list := a.Disks
	for _, p := range entriesByLines(a.Log) {
		list = patchedByHand(list, p)
	}
	return idleArray(flushedByHand(list))
}

func mustNotFall(t *testing.T, a impl.Array, given []int64, keep int64) {
	t.Helper()
	got, ok := impl.FallsDown(a, given, keep)
	mustBeArray(t, "FallsDown unchanged", got, a)
	if ok {
		t.Fatalf("FallsDown(%v, %v, %d) is true", a, given, keep)
	}
}

func mustNotRise(t *testing.T, a impl.Array) {
	t.Helper()
	got, ok := impl.Assembled(a)
	mustBeArray(t, "Assembled unchanged", got, a)
	if ok {
		t.Fatalf("Assembled(%v) is true", a)
	}
}

func checkFall(t *testing.T, a impl.Array, given []int64, keep int64) impl.Array {
	t.Helper()
	got, ok := impl.FallsDown(a, given, keep)
	mustBeArray(t, "FallsDown", got, downByHand(a, given, keep))
	mustBeValid(t, got, true)
	if !ok {
		t.Fatalf("FallsDown(%v, %v, %d) is false", a, given, keep)
	}
	return got
}

// checkRise asks for all fields by hand, and that all is flushed: another crash
// changes no disk.
func checkRise(t *testing.T, a impl.Array) impl.Array {
	t.Helper()
	got, ok := impl.Assembled(a)
	mustBeArray(t, "Assembled", got, upByHand(a))
	mustBeValid(t, got, true)
	if !ok || got.Log != "" || got.Next != "" || got.Stage != impl.StIdle || !got.Up {
		t.Fatalf("Assembled(%v) is %v, %v", a, got, ok)
	}
	mustSurvive(t, got.Disks)
	return got
}

// setLists gives lists of sets in which each of n disks falls with nothing, with
// everything or with something between, in every combination.
func setLists(n int, some int64) [][]int64 {
	lists := [][]int64{nil}
	for range n {
		var longer [][]int64
		for _, list := range lists {
			for _, set := range []int64{0, sets - 1, some} {
				longer = append(longer, append(slices.Clone(list), set))
			}
		}
		lists = longer
	}
	return lists
}

// fewSetLists gives those of setLists in which at most one disk falls with
// another set than all others.
func fewSetLists(n int, some int64) [][]int64 {
	return slices.DeleteFunc(setLists(n, some), func(list []int64) bool {
		for _, set := range list {
			if len(slices.DeleteFunc(slices.Clone(list), func(other int64) bool { return other == set })) <= 1 {
				return false
			}
		}
		return true
	})
}

// sufferings gives the disks of an array as they are, with a damaged cell in
// each row, with one that is repaired but not flushed, and with one dead disk.
func sufferings(t *testing.T, a impl.Array) [][]impl.Disk {
	t.Helper()
	lists := [][]impl.Disk{a.Disks}
	n, rows := int64(len(a.Disks)), int64(len(a.Disks[0].Now))
	for first := range n {
		list := a.Disks
		for row := range rows {
			list = rotted(list, (first+row)%n, row, 1+(first*7919+row*10007)%(values-1))
		}
		lists = append(lists, list, withDead(a.Disks, first))
		if first == 0 {
			healed := idleArray(list)
			for row := range rows {
				healed, _ = impl.Healed(healed, row)
			}
			lists = append(lists, healed.Disks)
		}
	}
	return lists
}

// crashFrom asks for P11 after one crash: other places are read as before, and
// the one that is being written has its new value if the log had the entry.
func crashFrom(t *testing.T, a impl.Array, given []int64, keep int64, before []int64, l, value int64) impl.Array {
	t.Helper()
	want := before
	if a.Log != "" || a.Stage == impl.StNoted && keep >= int64(len(a.Next)) {
		want = with(before, l, value)
	}
	down := checkFall(t, a, given, keep)
	up := checkRise(t, down)
	mustTell(t, up, want, slices.Repeat([]bool{true}, len(want)))
	return up
}

// crashAnywhere lets an array fall down before a write, at each of its stages
// and after it.
func crashAnywhere(t *testing.T, list []impl.Disk, l, value int64, given [][]int64) {
	t.Helper()
	a := idleArray(list)
	before, is := readAll(a)
	if slices.Contains(is, false) {
		t.Fatalf("%v tells %v", a, is)
	}
	crash := func() {
		t.Helper()
		for _, some := range given {
			crashFrom(t, a, some, 0, before, l, value)
			if a.Stage == impl.StNoted {
				crashFrom(t, a, some, int64(len(a.Next))-1, before, l, value)
				crashFrom(t, a, some, int64(len(a.Next)), before, l, value)
			}
		}
		for keep := int64(-1); keep <= int64(len(a.Next))+2; keep++ {
			crashFrom(t, a, given[int(l+keep+1)%len(given)], keep, before, l, value)
		}
	}
	crash()
	a, ok := impl.Begun(a, l, value)
	for stage := int64(1); stage <= 4; stage++ {
		if !ok || a.Stage != stage {
			t.Fatalf("%v is not at Stage %d", a, stage)
		}
		crash()
		a, ok = impl.Stepped(a)
	}
	if !ok || a.Stage != 0 {
		t.Fatalf("%v is not idle", a)
	}
	before = with(before, l, value)
	crash()
}

// P11 with each disk's set chosen for itself, in arrays of few rows.
func TestWhereverItFalls(t *testing.T) {
	for n := 3; n <= 5; n++ {
		for _, rows := range []int64{1, 2} {
			room := rows * int64(n-1)
			for which, list := range sufferings(t, writtenArray(t, int64(n), rows)) {
				l := int64(which) % room
				row := impl.RowOf(int64(n), l)
				crashAnywhere(t, list, l, 32000-l, setLists(n, 1<<row))
				crashAnywhere(t, list, room-1-l, 0, fewSetLists(n, sets-1-1<<row))
			}
		}
	}
}

// P11 at every place, in arrays of all sizes.
func TestWhereverItFallsAtEveryPlace(t *testing.T) {
	forArrays(func(n, rows int) {
		lists := sufferings(t, writtenArray(t, int64(n), int64(rows)))
		for l := range int64(rows * (n - 1)) {
			for which, list := range lists {
				if rows == places && int(l)%len(lists) != which {
					continue
				}
				row := impl.RowOf(int64(n), l)
				crashAnywhere(t, list, l, 12345+l, [][]int64{nil, slices.Repeat([]int64{sets - 1}, n), with(make([]int64, n), l%int64(n), 1<<row), slices.Repeat([]int64{0x5a5a}, n)})
			}
		}
	})
}

// After a restart the rows are Whole again, so that what was lost is repaired to
// the best there is, and the next write is carried out.
func TestAfterARestart(t *testing.T) {
	for n := int64(3); n <= 5; n++ {
		for _, list := range sufferings(t, writtenArray(t, n, 2)) {
			for l := range 2 * (n - 1) {
				a, ok := impl.Begun(idleArray(list), l, 999)
				for ok {
					up := checkRise(t, checkFall(t, a, []int64{sets - 1, 0, 1, 2}, 7))
					want, is := readAll(up)
					for disk, d := range up.Disks {
						if d.Dead {
							up = checkReplaced(t, up, int64(disk))
						}
					}
					up = checkHealedAll(t, up)
					mustBeOptimal(t, up, true)
					mustTell(t, up, want, is)
					next, wrote := impl.WriteArray(up, l, 777)
					mustTell(t, next, with(want, l, 777), is)
					mustBeOptimal(t, next, wrote)
					a, ok = impl.Stepped(a)
				}
			}
		}
	}
}

// P11 where a disk dies or a cell is damaged in the middle of the write, before
// the crash or after it.
func TestWhereverItFallsWithALoss(t *testing.T) {
	for n := int64(3); n <= 5; n++ {
		whole := writtenArray(t, n, 2)
		before, _ := readAll(whole)
		for l := range 2 * (n - 1) {
			for disk := range n {
				a, ok := impl.Begun(whole, l, 5)
				for ok && a.Stage != impl.StIdle {
					for _, given := range fewSetLists(int(n), 1<<impl.RowOf(n, l)) {
						for _, keep := range []int64{3, 100} {
							lossAroundACrash(t, a, given, keep, before, l, disk)
						}
					}
					a, ok = impl.Stepped(a)
				}
			}
		}
	}
}

func lossAroundACrash(t *testing.T, a impl.Array, given []int64, keep int64, before []int64, l, disk int64) {
	t.Helper()
	row := impl.RowOf(int64(len(a.Disks)), l)
	for _, lose := range []func(impl.Array) (impl.Array, bool){
		func(a impl.Array) (impl.Array, bool) { return impl.Rots(a, disk, row, 5) },
		func(a impl.Array) (impl.Array, bool) { return impl.Dies(a, disk) },
	} {
		early, _ := lose(a)
		up := crashFrom(t, early, given, keep, before, l, 5)
		late, ok := lose(checkFall(t, a, given, keep))
		if !ok {
			t.Fatalf("a loss of %v is false", late)
		}
		told, is := readAll(up)
		mustTell(t, checkRise(t, late), told, is)
	}
}

// P11 over long runs of writes that are stepped, damages, deaths, replacements,
// repairs, crashes and restarts, which are played on the array and beside it on
// one list of numbers.
func TestCrashHistory(t *testing.T) {
	forArrays(func(n, rows int) { crashHistory(t, int64(n), int64(rows)) })
}

// lostEver counts what is lost in Now or in Kept of a row, because a crash may
// bring back either.
func lostEver(list []impl.Disk, row int64) int {
	count := 0
	for _, d := range list {
		if d.Dead || !impl.Good(d.Now[row], d.Number, row) || !impl.Good(d.Kept[row], d.Number, row) {
			count++
		}
	}
	return count
}

func worstEver(list []impl.Disk) int {
	most := 0
	for row := range tableOf(list) {
		most = max(most, lostEver(list, int64(row)))
	}
	return most
}

func crashHistory(t *testing.T, n, rows int64) {
	a, _ := impl.NewArray(n, rows)
	before := make([]int64, rows*(n-1))
	later, crashes, deaths := before, [5]int{}, 0
	seed := uint64(n*places + rows)
	next := func(below int64) int64 {
		seed = seed*6364136223846793005 + 1442695040888963407
		return int64(seed>>33) % below
	}
	for range 1000 {
		switch disk, row := next(n), next(rows); next(10) {
		case 0:
			if lostEver(a.Disks, row) == 0 {
				a, _ = impl.Rots(a, disk, row, 1+next(values-1))
			}
		case 1:
			if worstEver(a.Disks) == 0 {
				a, _ = impl.Dies(a, disk)
				deaths++
			}
		case 2:
			for number := range n {
				a, _ = impl.Replaced(a, number)
			}
		case 3:
			a = impl.HealedAll(a)
		case 4, 5:
			crashes[a.Stage]++
			keep := next(30)
			if a.Stage == impl.StNoted && keep < int64(len(a.Next)) {
				later = before
			}
			a = checkRise(t, checkFall(t, a, []int64{next(sets), next(sets), next(2 * sets), next(sets), next(sets) - sets/2}, keep))
			before = later
		case 6:
			l, value := next(rows*(n-1)), next(values)
			if begun, ok := impl.Begun(a, l, value); ok {
				a, later = begun, with(before, l, value)
			} else if a.Stage == impl.StIdle {
				t.Fatalf("Begun(%v, %d, %d) is false", a, l, value)
			}
		default:
			if a, _ = impl.Stepped(a); a.Stage == impl.StWritten {
				before = later
			}
		}
		mustTell(t, a, before, slices.Repeat([]bool{true}, len(before)))
	}
	if slices.Min(crashes[:]) == 0 || deaths == 0 {
		t.Errorf("%d disks died, and the crashes at the stages were %v", deaths, crashes)
	}
}

// A write that had reached one disk only: the row is not Whole while the array
// is down, and nothing is told before the restart.
func TestCrashKnown(t *testing.T) {
	a, _ := impl.NewArray(3, 1)
	a, _ = impl.Begun(a, 0, 5)
	frame := "9 400 0 0 5 2 5\n"
	torn := checkFall(t, a, nil, 15)
	mustBeArray(t, "FallsDown", torn, impl.Array{Disks: newArray(t, 3, 1), Log: frame[:15]})
	mustBeArray(t, "Assembled", checkRise(t, torn), idleArray(newArray(t, 3, 1)))
	noted := checkFall(t, a, nil, 16)
	mustBeArray(t, "FallsDown", noted, impl.Array{Disks: newArray(t, 3, 1), Log: frame})
	mustTell(t, checkRise(t, noted), []int64{5, 0}, []bool{true, true})
	for a.Stage != impl.StWritten {
		a, _ = impl.Stepped(a)
	}
	half := checkFall(t, a, []int64{1, 1, 0}, 0)
	five, zero := []impl.Cell{{Value: 5, Sum: 155}}, []impl.Cell{{Value: 0, Sum: 40000}}
	if half.Log != frame || !slices.Equal(half.Disks[0].Kept, five) || !slices.Equal(half.Disks[0].Now, five) || !slices.Equal(half.Disks[2].Kept, zero) || !slices.Equal(half.Disks[2].Now, zero) {
		t.Fatalf("FallsDown is %v", half)
	}
	mustBeWhole(t, half.Disks, 0, false)
	mustNotReadArray(t, half, 0)
	up := checkRise(t, half)
	mustBeOptimal(t, up, true)
	mustTell(t, up, []int64{5, 0}, []bool{true, true})
	mustSurvive(t, up.Disks)
}

// Every list of disks at every Stage falls with sets of every length; what is
// missing, or is no set, counts as 0.
func TestFallsDownWithEverySets(t *testing.T) {
	for _, list := range arrayLists(t) {
		n := len(list)
		given := append(fewSetLists(n, 0x5a5a), nil, []int64{}, slices.Repeat([]int64{sets - 1}, 1000))
		for length := range n + 3 {
			given = append(given, slices.Repeat([]int64{sets - 1}, length), slices.Repeat([]int64{0xa5a5}, length))
		}
		for _, none := range noSets() {
			all := slices.Repeat([]int64{sets - 1}, n)
			given = append(given, slices.Repeat([]int64{none}, n), with(all, 0, none), with(all, int64(n)-1, none), append(all, none))
		}
		for _, a := range someArrays(list) {
			for i, some := range given {
				if a.Up {
					checkFall(t, a, some, int64(i))
				} else {
					mustNotFall(t, a, some, int64(i))
				}
			}
		}
	}
}

// Only what is on its way into the log is torn.
func TestFallsDownWithEveryKeep(t *testing.T) {
	for _, list := range arrayLists(t) {
		for _, a := range someArrays(list) {
			keeps := []int64{math.MinInt64, math.MinInt64 + 1, -1 << 32, -2, -1, fullLog, fullLog + 1, 1 << 32, 1<<32 + 1, math.MaxInt64 - 1, math.MaxInt64}
			for keep := range int64(len(a.Next)) + 3 {
				keeps = append(keeps, keep)
			}
			for _, keep := range keeps {
				if !a.Up {
					mustNotFall(t, a, []int64{sets - 1}, keep)
					continue
				}
				down := checkFall(t, a, []int64{sets - 1, 0, 1}, keep)
				if a.Stage != impl.StNoted && down.Log != a.Log || a.Stage == impl.StNoted && keep >= int64(len(a.Next)) && down.Log != a.Next {
					t.Fatalf("FallsDown(%v, _, %d) has the log %q", a, keep, down.Log)
				}
				mustNotFall(t, down, []int64{0, sets - 1}, keep)
				mustNotStep(t, down)
				mustNotBegin(t, down, 0, 5)
				mustNotReadArray(t, down, 0)
			}
		}
	}
}

// What was in the cache before is flushed too, whatever the log has.
func TestAssembledAtEveryStage(t *testing.T) {
	for _, list := range arrayLists(t) {
		for _, a := range someArrays(list) {
			if a.Up {
				mustNotRise(t, a)
				continue
			}
			mustNotRise(t, checkRise(t, a))
		}
		up := checkRise(t, downArray(list, ""))
		mustBeArray(t, "Assembled with an empty log", up, idleArray(flushedByHand(list)))
	}
}

// The entries of a log are carried out in order, for one place and for several;
// those for rows and disks that do not exist, or for dead disks, are ignored.
func TestAssembledWithManyEntries(t *testing.T) {
	for n := 3; n <= 5; n++ {
		list := arrayOf(t, wholeTable(n, 2, 3))
		for _, other := range [][]impl.Disk{list, withDead(list, 1), damaged(list, 0, 1, damages()[0])} {
			up := checkRise(t, downArray(other, frameByHand("1 0 5")+frameByHand("1 0 7")+frameByHand("1 0 6")))
			mustRead(t, up.Disks[0], 1, 6)
			up = checkRise(t, downArray(other, frameByHand("1 0 5 2 5")+frameByHand("0 0 7 2 9")+frameByHand("1 0 8 2 3")))
			mustRead(t, up.Disks[0], 1, 8)
			mustRead(t, up.Disks[2], 1, 3)
			mustRead(t, up.Disks[0], 0, 7)
			up = checkRise(t, downArray(other, frameByHand("2 0 5")+frameByHand("15 0 5 4 5")))
			mustBeArray(t, "Assembled with rows that are not", up, idleArray(flushedByHand(other)))
			up = checkRise(t, downArray(other, frameByHand("1 0 5")+frameByHand("2 0 6")+frameByHand("1 2 7")))
			mustRead(t, up.Disks[0], 1, 5)
			mustRead(t, up.Disks[2], 1, 7)
			checkRise(t, downArray(other, frameByHand("1 0 5 4 6")+frameByHand("0 1 6 3 7")+frameByHand("0 3 1 4 2")))
		}
		many := ""
		for i, p := range slices.Repeat(edgePatches(), 3) {
			if frame := frameByHand(shown(p)); i%5 != 2 && len(many)+len(frame) <= fullLog {
				many += frame
			}
		}
		checkRise(t, downArray(list, many))
		checkRise(t, downArray(list, strings.Repeat(frameByHand("0 0 0"), fullLog/12)))
	}
}

// Of a log that is torn, or that other bytes follow, the entries before them
// are carried out.
func TestAssembledWithATornLog(t *testing.T) {
	list := arrayOf(t, wholeTable(4, 3, 3))
	one, two, three := frameByHand("1 0 5 2 6"), frameByHand("1 0 7"), frameByHand("2 1 8 3 9")
	log := one + two + three
	for keep := range len(log) + 1 {
		want := list
		if keep >= len(one) {
			want = patchedByHand(want, twoPatch(1, 0, 5, 2, 6))
		}
		if keep >= len(one+two) {
			want = patchedByHand(want, onePatch(1, 0, 7))
		}
		if keep == len(log) {
			want = patchedByHand(want, twoPatch(2, 1, 8, 3, 9))
		}
		up := checkRise(t, downArray(list, log[:keep]))
		mustBeArray(t, "Assembled with a torn log", up, idleArray(flushedByHand(want)))
	}
	for _, s := range noFrames() {
		up := checkRise(t, downArray(list, s+two))
		mustBeArray(t, "Assembled without entries", up, idleArray(flushedByHand(list)))
		up = checkRise(t, downArray(list, one+s+two))
		mustBeArray(t, "Assembled with one entry", up, idleArray(flushedByHand(patchedByHand(list, twoPatch(1, 0, 5, 2, 6)))))
	}
	for _, log := range anyLogs() {
		for _, other := range [][]impl.Disk{list, withDead(list, 0), withDead(withDead(list, 1), 3)} {
			checkRise(t, downArray(other, log))
		}
	}
}

func mustBeWorst(t *testing.T, a impl.Array, want int64) {
	t.Helper()
	if got := impl.WorstOf(a); got != want {
		t.Fatalf("WorstOf(%v) = %d, want %d", a, got, want)
	}
}

// Up or not, and at every Stage: the number of lost cells in the row that has
// most of them, be it the first, the last or one between.
func TestWorstOf(t *testing.T) {
	for n := 3; n <= 5; n++ {
		table := wholeTable(n, 4, 3)
		list := arrayOf(t, table)
		check := func(list []impl.Disk, want int64) {
			t.Helper()
			for _, a := range someArrays(list) {
				mustBeWorst(t, a, want)
			}
		}
		check(list, 0)
		check(withDead(list, 0), 1)
		check(withDead(withDead(list, 0), 2), 2)
		everywhere, _ := everyRowHurt(list, table, 0)
		check(everywhere, 1)
		for row := range int64(4) {
			for _, d := range damages() {
				one := damaged(list, 0, row, d)
				check(one, 1)
				check(damaged(one, 1, row, d), 2)
				check(damaged(one, 1, (row+1)%4, d), 1)
				check(damaged(withDead(list, 1), 0, row, d), 2)
				check(damaged(damaged(withDead(list, 2), 0, row, d), 1, row, d), 3)
			}
		}
		all := list
		for disk := range int64(n) {
			all = damaged(all, disk, 2, damages()[disk])
			check(all, disk+1)
		}
	}
}

func TestWorstOfEveryCombinationOfLosses(t *testing.T) {
	afterEveryCombination(t, func(t *testing.T, list []impl.Disk, table [][]int64) {
		t.Helper()
		var worst int
		for _, row := range table {
			worst = max(worst, len(lostIn(row)))
		}
		mustBeWorst(t, idleArray(list), int64(worst))
		mustBeWorst(t, downArray(list, "torn"), int64(worst))
	})
}

// What is kept does not count, nor whether a row is Whole.
func TestWorstOfIsByNow(t *testing.T) {
	for n := 3; n <= 5; n++ {
		for disk := range int64(n) {
			a := writtenArray(t, int64(n), 2)
			a.Disks[disk].Kept[1] = impl.Rotten(a.Disks[disk].Kept[1], 1)
			mustBeWorst(t, a, 0)
			down := checkFall(t, a, nil, 0)
			mustBeWorst(t, down, 1)
			mustBeWorst(t, checkRise(t, down), 1)
			a.Disks[disk] = write(t, a.Disks[disk], 0, 31313)
			mustBeWhole(t, a.Disks, 0, false)
			mustBeWorst(t, a, 0)
		}
	}
}

func TestCrashesOfWhatIsNotValid(t *testing.T) {
	for _, a := range wrongArrays(t) {
		for _, some := range [][]int64{nil, {0, 1, sets - 1}, {-1, sets}} {
			for _, keep := range []int64{math.MinInt64, -1, 0, 1, 100, math.MaxInt64} {
				got, ok := impl.FallsDown(a, some, keep)
				mustBeArray(t, "FallsDown of what is not valid", got, impl.Array{})
				if ok {
					t.Fatalf("FallsDown(%v, %v, %d) is true", a, some, keep)
				}
			}
		}
		got, ok := impl.Assembled(a)
		mustBeArray(t, "Assembled of what is not valid", got, impl.Array{})
		if ok {
			t.Fatalf("Assembled(%v) is true", a)
		}
		mustBeWorst(t, a, -1)
	}
}

// P21: the smallest and the largest numbers in every position of a call.
func TestCrashesAtTheEndsOfNumbers(t *testing.T) {
	ends := []int64{math.MinInt64, math.MinInt64 + 1, -1, 0, 1, math.MaxInt64 - 1, math.MaxInt64}
	for _, a := range someArrays(arrayOf(t, wholeTable(3, 2, 3))) {
		for _, one := range ends {
			for _, two := range ends {
				for _, keep := range ends {
					if a.Up {
						checkFall(t, a, []int64{one, two, one}, keep)
					} else {
						mustNotFall(t, a, []int64{one, two, one}, keep)
					}
				}
			}
		}
	}
}

// P21: sets are as before, what lies behind their end included, and what lies
// there is no set of any disk.
func TestFallsDownLeavesItsSetsAlone(t *testing.T) {
	for _, list := range append(memoryLists(t), sharingDisks(t)...) {
		for _, a := range someArrays(list) {
			for length := range 7 {
				full := slices.Repeat([]int64{0x5a5a, sets, sets - 1, -1}, 4)
				some := slices.Clone(full)[:length]
				got, ok := impl.FallsDown(a, some, 5)
				want, is := impl.FallsDown(a, slices.Clip(slices.Clone(full[:length])), 5)
				mustBeArray(t, "FallsDown with unused capacity", got, want)
				if ok != is || !slices.Equal(some[:cap(some)][:len(full)], full) {
					t.Fatalf("FallsDown(%v, %v, 5) is %v, and the sets became %v", a, full[:length], ok, some[:len(full)])
				}
				scribbleNumbers(some)
				mustBeArray(t, "FallsDown, its sets written over", got, want)
			}
		}
	}
}

// P21 for WorstOf, which answers no array.
func TestWorstOfLeavesItsArrayAlone(t *testing.T) {
	for _, a := range memoryArrays(t) {
		room := a
		room.Disks = roomyDisks(a.Disks)
		before := memoryOf(room.Disks)
		mustBeWorst(t, room, impl.WorstOf(copyArray(a)))
		if !memoryOf(room.Disks).same(before) {
			t.Fatalf("WorstOf changed %v", a)
		}
	}
}

// crashCalls are the calls of crashes and restarts that answer an array.
func crashCalls() []func(impl.Array) impl.Array {
	falls := func(keep int64, some ...int64) func(impl.Array) impl.Array {
		return func(a impl.Array) impl.Array {
			got, _ := impl.FallsDown(a, some, keep)
			return got
		}
	}
	rises := func(a impl.Array) impl.Array {
		got, _ := impl.Assembled(a)
		return got
	}
	return []func(impl.Array) impl.Array{falls(0), falls(5, 1, sets-1, 2), falls(100, sets-1, sets-1, sets-1, sets-1, sets-1), rises}
}

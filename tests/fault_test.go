package tests

import (
	"math"
	"slices"
	"testing"

	"loop.example/g00406/impl"
)

func mustNotRot(t *testing.T, a impl.Array, disk, place, by int64) {
	t.Helper()
	got, ok := impl.Rots(a, disk, place, by)
	mustBeArray(t, "Rots unchanged", got, a)
	if ok {
		t.Fatalf("Rots(%v, %d, %d, %d) is true", a, disk, place, by)
	}
}

// checkRotted asks for the cell by hand, and for all others as they were.
func checkRotted(t *testing.T, a impl.Array, disk, place, by int64) impl.Array {
	t.Helper()
	want := a
	want.Disks = rotted(a.Disks, disk, place, by)
	got, ok := impl.Rots(a, disk, place, by)
	mustBeArray(t, "Rots", got, want)
	mustBeValid(t, got, true)
	if !ok {
		t.Fatalf("Rots(%v, %d, %d, %d) is false", a, disk, place, by)
	}
	return got
}

func mustNotDie(t *testing.T, a impl.Array, disk int64) {
	t.Helper()
	got, ok := impl.Dies(a, disk)
	mustBeArray(t, "Dies unchanged", got, a)
	if ok {
		t.Fatalf("Dies(%v, %d) is true", a, disk)
	}
}

func checkDeath(t *testing.T, a impl.Array, disk int64) impl.Array {
	t.Helper()
	want := copyArray(a)
	want.Disks[disk] = deadDisk(disk)
	got, ok := impl.Dies(a, disk)
	mustBeArray(t, "Dies", got, want)
	mustBeValid(t, got, true)
	if !ok {
		t.Fatalf("Dies(%v, %d) is false", a, disk)
	}
	mustNotDie(t, got, disk)
	return got
}

// noDamages gives numbers by which no cell rots: those outside 1 to 32767.
func noDamages() []int64 {
	return append(noValues(), 0, -1, values, values+1, math.MinInt64, math.MaxInt64)
}

// Cells that differ between Kept and Now both rot, each from what it was;
// whatever the Stage is, Up or not, and whether they were Good.
func TestRots(t *testing.T) {
	for _, list := range arrayLists(t) {
		for _, a := range someArrays(list) {
			for disk, d := range list {
				for place := range d.Now {
					by := 1 + int64(disk*7919+place*10007)%(values-1)
					checkRotted(t, a, int64(disk), int64(place), by)
				}
			}
		}
	}
}

func TestRotsByEveryDamage(t *testing.T) {
	a := writtenArray(t, 3, 2)
	want, is := readAll(a)
	for by := int64(1); by < values; by++ {
		got := checkRotted(t, a, 1, 1, by)
		mustNotRead(t, got.Disks[1], 1)
		mustSurvive(t, got.Disks)
		if by%97 == 0 {
			mustTell(t, got, want, is)
			mustBeArray(t, "HealedAll", impl.HealedAll(got), a)
			mustBeArray(t, "rotten back", checkRotted(t, got, 1, 1, values-by), a)
		}
	}
}

func TestRotsKnown(t *testing.T) {
	list := arrayOf(t, [][]int64{{5, 3, 6}})
	got, ok := impl.Rots(idleArray(list), 0, 0, 32765)
	if !ok || got.Disks[0].Kept[0] != (impl.Cell{Value: 32765, Sum: 0}) || got.Disks[0].Now[0] != (impl.Cell{Value: 2, Sum: 155}) {
		t.Fatalf("Rots is %v, %v", got, ok)
	}
	mustLack(t, got.Disks, 0, 0)
	mustTell(t, got, []int64{5, 3}, []bool{true, true})
}

// Each argument that is out of range is enough, beside others that are in it and
// beside others that are not.
func TestRotsAtTheEdges(t *testing.T) {
	for n := int64(3); n <= 5; n++ {
		for rows := int64(1); rows <= places; rows++ {
			list := arrayOf(t, wholeTable(int(n), int(rows), 3))
			for _, a := range []impl.Array{idleArray(list), downArray(list, "torn"), busyArray(list, 3, frameByHand("0 0 5"))} {
				for _, disk := range append(noIndexes(int(n)), n, -1, math.MinInt64, math.MaxInt64) {
					mustNotRot(t, a, disk, 0, 1)
					mustNotRot(t, a, disk, rows, 0)
				}
				for _, place := range append(noIndexes(int(rows)), rows, -1, math.MinInt64, math.MaxInt64) {
					mustNotRot(t, a, 0, place, 1)
					mustNotRot(t, a, n-1, place, values)
				}
				for _, by := range noDamages() {
					mustNotRot(t, a, 0, 0, by)
					mustNotRot(t, a, n-1, rows-1, by)
				}
				checkRotted(t, a, 0, 0, 1)
				checkRotted(t, a, n-1, rows-1, values-1)
			}
		}
	}
}

func TestRotsOfADeadDisk(t *testing.T) {
	for _, list := range arrayLists(t) {
		for disk := range int64(len(list)) {
			other := withDead(list, disk)
			if !impl.DisksOk(other) {
				continue
			}
			for _, a := range someArrays(other) {
				for _, place := range []int64{-1, 0, 1, places - 1, places} {
					for _, by := range []int64{0, 1, values - 1, values} {
						mustNotRot(t, a, disk, place, by)
					}
				}
			}
		}
	}
}

// Every list of disks some of which are dead already, at every Stage, Up or not.
func TestDies(t *testing.T) {
	for n := 3; n <= 5; n++ {
		for _, states := range combinations(n) {
			list, _ := suffered(arrayOf(t, wholeTable(n, 2, 3)), wholeTable(n, 2, 3), states, 1)
			alive := 0
			for _, d := range list {
				if !d.Dead {
					alive++
				}
			}
			for _, a := range someArrays(list) {
				for disk := range int64(n) {
					if list[disk].Dead || alive == 1 {
						mustNotDie(t, a, disk)
					} else {
						checkDeath(t, a, disk)
					}
				}
			}
		}
	}
}

func TestDiesAtTheEdges(t *testing.T) {
	for _, list := range arrayLists(t) {
		for _, a := range someArrays(list) {
			for _, disk := range append(noIndexes(len(list)), -1, 3, 4, 5, places, math.MinInt64, math.MaxInt64) {
				if disk < 0 || disk >= int64(len(list)) {
					mustNotDie(t, a, disk)
				}
			}
		}
	}
}

// One disk after the other dies, upwards and downwards from each, but for the
// last one; after the first of them every place is still told.
func TestAllButOneDie(t *testing.T) {
	for n := int64(3); n <= 5; n++ {
		table := wholeTable(int(n), 3, 3)
		want, is := answersOf(table)
		for first := range n {
			for _, step := range []int64{1, n - 1} {
				a := checkDeath(t, idleArray(arrayOf(t, table)), first)
				mustTell(t, a, want, is)
				for turn := int64(1); turn < n-1; turn++ {
					a = checkDeath(t, a, (first+turn*step)%n)
				}
				for disk := range n {
					mustNotDie(t, a, disk)
				}
			}
		}
	}
}

// The rows of an array stay those that it had, whichever disk died, and a crash
// does not bring that disk back.
func TestADeathLeavesTheRows(t *testing.T) {
	forArrays(func(n, rows int) {
		a := writtenArray(t, int64(n), int64(rows))
		for disk := range int64(n) {
			got := checkDeath(t, a, disk)
			mustHaveRows(t, got.Disks, int64(rows))
			mustSurvive(t, got.Disks)
			mustAnswerAlike(t, a.Disks, got.Disks)
			mustBeArray(t, "replaced and healed", impl.HealedAll(checkReplaced(t, got, disk)), a)
		}
	})
}

func TestFaultsOfWhatIsNotValid(t *testing.T) {
	for _, a := range wrongArrays(t) {
		for _, disk := range []int64{math.MinInt64, -1, 0, 1, 4, 5, math.MaxInt64} {
			for _, place := range []int64{-1, 0, 1, places} {
				for _, by := range []int64{0, 1, values} {
					got, ok := impl.Rots(a, disk, place, by)
					mustBeArray(t, "Rots of what is not valid", got, impl.Array{})
					if ok {
						t.Fatalf("Rots(%v, %d, %d, %d) is true", a, disk, place, by)
					}
				}
			}
			got, ok := impl.Dies(a, disk)
			mustBeArray(t, "Dies of what is not valid", got, impl.Array{})
			if ok {
				t.Fatalf("Dies(%v, %d) is true", a, disk)
			}
		}
	}
}

// P21: the smallest and the largest numbers in every position of a call.
func TestFaultsAtTheEndsOfNumbers(t *testing.T) {
	ends := []int64{math.MinInt64, math.MinInt64 + 1, -1, 0, 1, math.MaxInt64 - 1, math.MaxInt64}
	inside := func(n int64) bool { return n == 0 || n == 1 }
	a := writtenArray(t, 4, 2)
	for _, disk := range ends {
		for _, place := range ends {
			for _, by := range ends {
				if inside(disk) && inside(place) && by == 1 {
					checkRotted(t, a, disk, place, by)
				} else {
					mustNotRot(t, a, disk, place, by)
				}
			}
		}
		if inside(disk) {
			checkDeath(t, a, disk)
		} else {
			mustNotDie(t, a, disk)
		}
	}
}

// faultCalls are the calls of faults that answer an array.
func faultCalls() []func(impl.Array) impl.Array {
	rots := func(disk, place, by int64) func(impl.Array) impl.Array {
		return func(a impl.Array) impl.Array {
			got, _ := impl.Rots(a, disk, place, by)
			return got
		}
	}
	dies := func(disk int64) func(impl.Array) impl.Array {
		return func(a impl.Array) impl.Array {
			got, _ := impl.Dies(a, disk)
			return got
		}
	}
	return []func(impl.Array) impl.Array{
		rots(0, 0, 1), rots(2, 1, values-1), rots(0, 2, 1), rots(-1, 0, 1), rots(0, 0, 0), dies(0), dies(2), dies(-1),
	}
}

// The disks of an answer are new memory each, though only one of them is hit.
func TestFaultsLeaveOtherAnswersAlone(t *testing.T) {
	a := writtenArray(t, 3, 2)
	for _, f := range slices.Concat(faultCalls(), healCalls(), crashCalls()) {
		one, two := f(a), f(a)
		want := copyArray(two)
		scribbleDisks(one.Disks)
		mustBeArray(t, "a second result", two, want)
	}
}

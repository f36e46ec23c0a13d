package tests

import (
	"math"
	"slices"
	"testing"

	"loop.example/g00406/impl"
)

// tableOf reads the cells of Now by hand.
func tableOf(list []impl.Disk) [][]int64 {
	var table [][]int64
	for disk, d := range list {
		for row, c := range d.Now {
			if row == len(table) {
				table = append(table, slices.Repeat([]int64{lost}, len(list)))
			}
			if c.Sum == formula(d.Number, int64(row), c.Value) {
				table[row][disk] = c.Value
			}
		}
	}
	return table
}

// healedByHand writes to the one cell of a row that is lost, if its disk is
// alive, what it must answer.
func healedByHand(list []impl.Disk, row int64) ([]impl.Disk, bool) {
	table := tableOf(list)
	if row < 0 || row >= int64(len(table)) {
		return list, false
	}
	bad := lostIn(table[row])
	if len(bad) != 1 || list[bad[0]].Dead {
		return list, false
	}
	value, _ := answerAt(table[row], bad[0])
	list = copyDisks(list)
	list[bad[0]].Now[row] = impl.Cell{Value: value, Sum: formula(bad[0], row, value)}
	return list, true
}

func optimalByHand(a impl.Array) bool {
	whole := func(row []int64) bool { return len(lostIn(row)) == 0 && parityByCounting(row) == 0 }
	return a.Up && a.Stage == 0 && !slices.ContainsFunc(a.Disks, func(d impl.Disk) bool { return d.Dead }) &&
		!slices.ContainsFunc(tableOf(a.Disks), func(row []int64) bool { return !whole(row) })
}

func mustBeOptimal(t *testing.T, a impl.Array, want bool) {
	t.Helper()
	if impl.Optimal(a) != want {
		t.Fatalf("Optimal(%v) is not %v", a, want)
	}
}

// mustAnswerAlike asks for the first half of P10: every CellAt answers what it
// answered before.
func mustAnswerAlike(t *testing.T, before, after []impl.Disk) {
	t.Helper()
	for row := range tableOf(before) {
		for disk := range before {
			value, ok := impl.CellAt(before, int64(disk), int64(row))
			mustHold(t, after, int64(disk), int64(row), value, ok)
		}
	}
}

// mustSurvive asks that a crash leaves each disk as it is.
func mustSurvive(t *testing.T, list []impl.Disk) {
	t.Helper()
	for _, d := range list {
		for _, set := range []int64{0, sets - 1} {
			mustBe(t, "a disk after a crash", impl.Fallen(d, set), d)
		}
	}
}

func mustNotHeal(t *testing.T, a impl.Array, row int64) {
	t.Helper()
	got, ok := impl.Healed(a, row)
	mustBeArray(t, "Healed unchanged", got, a)
	if ok {
		t.Fatalf("Healed(%v, %d) is true", a, row)
	}
}

// checkHealed asks about one row: every cell of every row is told by hand, so
// that the other rows are as they were.
func checkHealed(t *testing.T, a impl.Array, row int64) {
	t.Helper()
	list, is := healedByHand(a.Disks, row)
	if !is || !a.Up {
		mustNotHeal(t, a, row)
		return
	}
	want := a
	want.Disks = list
	got, ok := impl.Healed(a, row)
	mustBeArray(t, "Healed", got, want)
	mustBeValid(t, got, true)
	if !ok {
		t.Fatalf("Healed(%v, %d) is false", a, row)
	}
	mustAnswerAlike(t, a.Disks, got.Disks)
	mustLack(t, got.Disks, row)
	mustBeWhole(t, got.Disks, row, true)
	mustNotHeal(t, got, row)
}

func checkHealedAll(t *testing.T, a impl.Array) impl.Array {
	t.Helper()
	want, before := a, tableOf(a.Disks)
	for row := range int64(len(before)) {
		if a.Up {
			want.Disks, _ = healedByHand(want.Disks, row)
		}
	}
	want.Disks = flushedByHand(want.Disks)
	got := impl.HealedAll(a)
	mustBeArray(t, "HealedAll", got, want)
	mustBeValid(t, got, true)
	mustAnswerAlike(t, a.Disks, got.Disks)
	mustSurvive(t, got.Disks)
	for row, cells := range before {
		bad := lostIn(cells)
		if a.Up && len(bad) == 1 && !a.Disks[bad[0]].Dead {
			bad = nil
		}
		mustLack(t, got.Disks, int64(row), bad...)
	}
	mustBeOptimal(t, got, optimalByHand(want))
	return got
}

// checkHeal asks everything about an array that is valid, for all of its rows
// and for ones that it does not have.
func checkHeal(t *testing.T, a impl.Array) {
	t.Helper()
	rows := len(tableOf(a.Disks))
	for row := range int64(rows) {
		checkHealed(t, a, row)
	}
	for _, row := range noIndexes(rows) {
		mustNotHeal(t, a, row)
	}
	checkHealedAll(t, a)
	mustBeOptimal(t, a, optimalByHand(a))
}

// writtenArray gives an array to which values were written at several logical
// places, at some of them twice.
func writtenArray(t *testing.T, n, rows int64) impl.Array {
	t.Helper()
	a, ok := impl.NewArray(n, rows)
	room := rows * (n - 1)
	for turn, l := range []int64{0, 1, room / 2, room - 1, room / 3, 0, room - 1} {
		if a, ok = impl.WriteArray(a, l, (int64(turn)*7919+l*777+12345)%values); !ok {
			t.Fatalf("WriteArray at %d of %d is false", l, room)
		}
	}
	mustBeOptimal(t, a, true)
	return a
}

// rotted damages a cell by hand, in Kept and in Now.
func rotted(list []impl.Disk, disk, row, by int64) []impl.Disk {
	list = copyDisks(list)
	for _, cells := range [][]impl.Cell{list[disk].Kept, list[disk].Now} {
		cells[row].Value = (cells[row].Value + by) % values
	}
	return list
}

// blankByHand gives the disk that comes for a dead one.
func blankByHand(number, rows int64) impl.Disk {
	d := impl.Disk{Number: number}
	for row := range rows {
		c := impl.Cell{Value: 0, Sum: (formula(number, row, 0) + 2) % modulus}
		d.Kept, d.Now = append(d.Kept, c), append(d.Now, c)
	}
	return d
}

// P10 with a damaged cell on each disk and in each row, the parity cell among
// them.
func TestHealedAfterADamage(t *testing.T) {
	forArrays(func(n, rows int) {
		a := writtenArray(t, int64(n), int64(rows))
		check := func(list []impl.Disk) {
			t.Helper()
			mustBeOptimal(t, idleArray(list), false)
			checkHeal(t, idleArray(list))
			mustBeArray(t, "HealedAll", impl.HealedAll(idleArray(list)), a)
		}
		for disk := range int64(n) {
			for row := range int64(rows) {
				for _, d := range damages() {
					check(damaged(a.Disks, disk, row, d))
				}
				check(rotted(a.Disks, disk, row, 1))
				check(rotted(a.Disks, disk, row, values-1))
			}
		}
	})
}

// P10 with a damaged cell in every row, one row healed after the other in any
// order.
func TestHealedWhereEveryRowIsHurt(t *testing.T) {
	forArrays(func(n, rows int) {
		table := wholeTable(n, rows, 3)
		before, is := answersOf(table)
		for first := range int64(n) {
			list, _ := everyRowHurt(arrayOf(t, table), table, first)
			a := idleArray(list)
			checkHeal(t, a)
			mustBeOptimal(t, checkHealedAll(t, a), true)
			for turn := range int64(rows) {
				row := (first + turn*7) % int64(rows)
				checkHealed(t, a, row)
				mustBeOptimal(t, a, false)
				a, _ = impl.Healed(a, row)
				mustTell(t, a, before, is)
			}
			mustBeOptimal(t, a, true)
		}
	})
}

// P10 with each disk dead in turn, and replaced.
func TestHealedAfterAReplacement(t *testing.T) {
	forArrays(func(n, rows int) {
		a := writtenArray(t, int64(n), int64(rows))
		before, is := readAll(a)
		for disk := range int64(n) {
			gone := idleArray(withDead(a.Disks, disk))
			checkHeal(t, gone)
			blank, ok := impl.Replaced(gone, disk)
			if !ok {
				t.Fatalf("Replaced(%v, %d) is false", gone, disk)
			}
			mustTell(t, blank, before, is)
			mustBeOptimal(t, blank, false)
			checkHeal(t, blank)
			all := checkHealedAll(t, blank)
			mustBeArray(t, "HealedAll", all, a)
			mustBeOptimal(t, all, true)
			for row := range int64(rows) {
				mustBeOptimal(t, blank, false)
				blank, _ = impl.Healed(blank, row)
			}
			mustBeOptimal(t, blank, true)
		}
	})
}

// Rows with none, one and more elements of BadIn, on disks that are alive and on
// dead ones, in rows that were Whole and in one that was not; at every Stage.
func TestHealedAfterEveryCombinationOfLosses(t *testing.T) {
	turn := 0
	afterEveryCombination(t, func(t *testing.T, list []impl.Disk, table [][]int64) {
		t.Helper()
		if got := tableOf(list); !slices.EqualFunc(got, table, slices.Equal) {
			t.Fatalf("%v has %v, want %v", list, got, table)
		}
		arrays := someArrays(list)
		checkHeal(t, arrays[0])
		checkHeal(t, arrays[turn%len(arrays)])
		turn++
	})
}

// Rows that cannot be repaired lie beside ones that can.
func TestHealedAllOfMixedRows(t *testing.T) {
	for n := 3; n <= 5; n++ {
		table := wholeTable(n, 4, 3)
		for first := range int64(n) {
			second := (first + 1) % int64(n)
			list := damaged(damaged(arrayOf(t, table), first, 1, damages()[0]), first, 2, damages()[1])
			list = rotted(damaged(list, second, 2, damages()[2]), second, 3, 5)
			for _, a := range someArrays(list) {
				checkHeal(t, a)
				got := impl.HealedAll(a)
				mustLack(t, got.Disks, 0)
				mustLack(t, got.Disks, 2, min(first, second), max(first, second))
				if a.Up {
					mustLack(t, got.Disks, 1)
					mustLack(t, got.Disks, 3)
				} else {
					mustLack(t, got.Disks, 1, first)
					mustLack(t, got.Disks, 3, second)
				}
			}
			for _, a := range someArrays(withDead(list, (first+2)%int64(n))) {
				checkHeal(t, a)
				got := impl.HealedAll(a)
				mustLack(t, got.Disks, 0, (first+2)%int64(n))
			}
		}
	}
}

// A row that is not Whole, with a cell of it damaged, becomes one of another
// value.
func TestHealedOfARowThatWasNotWhole(t *testing.T) {
	for n := 3; n <= 5; n++ {
		for disk := range int64(n) {
			table := wholeTable(n, 2, 6)
			table[1][(disk+1)%int64(n)] ^= 77
			a := idleArray(arrayOf(t, table))
			checkHeal(t, a)
			mustNotHeal(t, a, 1)
			mustBeOptimal(t, checkHealedAll(t, a), false)
			a.Disks = damaged(a.Disks, disk, 1, damages()[0])
			got, ok := impl.Healed(a, 1)
			if v, is := impl.Read(got.Disks[disk], 1); !ok || !is || v != table[1][disk]^77 {
				t.Fatalf("Healed(%v, 1) has %d, %v at disk %d", a, v, is, disk)
			}
			mustBeOptimal(t, got, true)
		}
	}
}

// What Kept holds does not count for a repair; a flush lets Now replace it.
func TestKeptIsNotHealed(t *testing.T) {
	for n := 3; n <= 5; n++ {
		for disk := range int64(n) {
			a := writtenArray(t, int64(n), 2)
			for _, by := range []int64{1, values - 1} {
				list := copyDisks(a.Disks)
				list[disk].Kept[1] = impl.Rotten(list[disk].Kept[1], by)
				mustBeOptimal(t, idleArray(list), true)
				mustNotHeal(t, idleArray(list), 1)
				checkHeal(t, idleArray(list))
				mustBeArray(t, "HealedAll", impl.HealedAll(idleArray(list)), a)
				got, _ := impl.Healed(idleArray(rotted(a.Disks, disk, 1, by)), 1)
				if impl.Good(got.Disks[disk].Kept[1], disk, 1) || !impl.Good(got.Disks[disk].Now[1], disk, 1) {
					t.Fatalf("Healed has %v", got.Disks[disk])
				}
			}
		}
	}
}

func TestHealKnown(t *testing.T) {
	a := idleArray(arrayOf(t, [][]int64{{5, 3, 6}, {7, 0, 7}}))
	a.Disks = withDead(a.Disks, 1)
	mustNotHeal(t, a, 0)
	a, ok := impl.Replaced(a, 1)
	blank := []impl.Cell{{Value: 0, Sum: 20002}, {Value: 0, Sum: 21002}}
	if !ok || !slices.Equal(a.Disks[1].Kept, blank) || !slices.Equal(a.Disks[1].Now, blank) || a.Disks[1].Dead || a.Disks[1].Number != 1 {
		t.Fatalf("Replaced is %v, %v", a, ok)
	}
	a, ok = impl.Healed(a, 0)
	if !ok || !slices.Equal(a.Disks[1].Now, []impl.Cell{{Value: 3, Sum: 20093}, {Value: 0, Sum: 21002}}) || !slices.Equal(a.Disks[1].Kept, blank) {
		t.Fatalf("Healed is %v, %v", a, ok)
	}
	a = impl.HealedAll(a)
	whole := []impl.Cell{{Value: 3, Sum: 20093}, {Value: 0, Sum: 21000}}
	if !slices.Equal(a.Disks[1].Now, whole) || !slices.Equal(a.Disks[1].Kept, whole) {
		t.Fatalf("HealedAll is %v", a)
	}
	mustBeOptimal(t, a, true)
}

// Every number of rows, with damages in the first and in the last one.
func TestHealedAtTheEdges(t *testing.T) {
	for n := 3; n <= 5; n++ {
		for rows := int64(1); rows <= places; rows++ {
			list := damaged(arrayOf(t, wholeTable(n, int(rows), 2)), 0, 0, damages()[0])
			list = damaged(list, 1, rows-1, damages()[1])
			for _, a := range someArrays(list)[:5] {
				for _, row := range append(noIndexes(int(rows)), -1, rows, rows+1, places, math.MinInt64, math.MaxInt64) {
					mustNotHeal(t, a, row)
				}
				checkHealed(t, a, 0)
				checkHealed(t, a, rows-1)
			}
		}
	}
}

// Every Stage, Up and not, with disks of all kinds.
func TestHealAtEveryStage(t *testing.T) {
	for _, list := range arrayLists(t) {
		for _, a := range someArrays(list) {
			checkHeal(t, a)
		}
	}
}

// A write that is healed at any of its stages ends as others do.
func TestHealedInTheMiddleOfAWrite(t *testing.T) {
	for n := int64(3); n <= 5; n++ {
		table := wholeTable(int(n), 2, 7)
		before, is := answersOf(table)
		for disk := range n {
			for l := range 2 * (n - 1) {
				for when := int64(1); when <= 4; when++ {
					hurtOnce := damaged(arrayOf(t, table), disk, impl.RowOf(n, l), damages()[0])
					a, ok := impl.Begun(idleArray(hurtOnce), l, 999)
					for a.Stage != when {
						a, ok = impl.Stepped(a)
					}
					checkHeal(t, a)
					for a = impl.HealedAll(a); ok && a.Stage != 0; a, ok = impl.Stepped(a) {
						mustTellOldOrNew(t, a, before, l, 999)
					}
					mustTell(t, a, with(before, l, 999), is)
					mustBeOptimal(t, a, true)
				}
			}
		}
	}
}

func mustNotReplace(t *testing.T, a impl.Array, disk int64) {
	t.Helper()
	got, ok := impl.Replaced(a, disk)
	mustBeArray(t, "Replaced unchanged", got, a)
	if ok {
		t.Fatalf("Replaced(%v, %d) is true", a, disk)
	}
}

// checkReplaced asks for the new disk cell by cell, and for all others as they
// were.
func checkReplaced(t *testing.T, a impl.Array, disk int64) impl.Array {
	t.Helper()
	rows := int64(len(tableOf(a.Disks)))
	want := copyArray(a)
	want.Disks[disk] = blankByHand(disk, rows)
	got, ok := impl.Replaced(a, disk)
	mustBeArray(t, "Replaced", got, want)
	mustBeValid(t, got, true)
	if !ok {
		t.Fatalf("Replaced(%v, %d) is false", a, disk)
	}
	for row := range rows {
		mustNotRead(t, got.Disks[disk], row)
		for _, c := range []impl.Cell{got.Disks[disk].Kept[row], got.Disks[disk].Now[row]} {
			if impl.Good(c, disk, row) || !impl.CellOk(c) {
				t.Fatalf("the cell %v of disk %d at row %d", c, disk, row)
			}
		}
	}
	mustAnswerAlike(t, a.Disks, got.Disks)
	mustSurvive(t, got.Disks[disk:disk+1])
	mustBeOptimal(t, got, false)
	mustNotReplace(t, got, disk)
	return got
}

// Every list of disks of which some are dead, each of these replaced at every
// number of rows.
func TestReplaced(t *testing.T) {
	for n := 3; n <= 5; n++ {
		for rows := 1; rows <= places; rows++ {
			list := arrayOf(t, wholeTable(n, rows, 4))
			for one := range int64(n) {
				a := idleArray(withDead(list, one))
				healed := impl.HealedAll(checkReplaced(t, a, one))
				mustBeArray(t, "HealedAll", healed, idleArray(flushedByHand(list)))
				two := (one + 1) % int64(n)
				a.Disks = withDead(a.Disks, two)
				checkReplaced(t, checkReplaced(t, a, one), two)
				checkReplaced(t, checkReplaced(t, a, two), one)
				mustNotReplace(t, a, (one+2)%int64(n))
			}
		}
	}
}

// All disks but one are dead and are replaced: nothing of them can be repaired.
func TestReplacedWithoutARepair(t *testing.T) {
	for n := 3; n <= 5; n++ {
		table := wholeTable(n, 3, 4)
		for alive := range int64(n) {
			a := idleArray(arrayOf(t, table))
			for disk := range int64(n) {
				if disk != alive {
					a.Disks = withDead(a.Disks, disk)
				}
			}
			for disk := range int64(n) {
				if disk != alive {
					a = checkReplaced(t, a, disk)
				}
			}
			checkHeal(t, a)
			mustBeArray(t, "HealedAll", impl.HealedAll(a), idleArray(flushedByHand(a.Disks)))
		}
	}
}

func TestReplacedAtTheEdges(t *testing.T) {
	for _, list := range arrayLists(t) {
		for _, other := range [][]impl.Disk{list, withDead(list, int64(len(list))-1)} {
			for _, a := range someArrays(other) {
				for _, disk := range append(noIndexes(len(list)), -1, 3, 4, 5, places, math.MinInt64, math.MaxInt64) {
					if disk < 0 || disk >= int64(len(list)) {
						mustNotReplace(t, a, disk)
					}
				}
				for disk := range int64(len(list)) {
					if a.Up && a.Stage == 0 && other[disk].Dead {
						checkReplaced(t, a, disk)
					} else {
						mustNotReplace(t, a, disk)
					}
				}
			}
		}
	}
}

// Each row that is not Whole is enough, by a cell that is lost or by its parity;
// and so is each dead disk, though every row can be read.
func TestOptimal(t *testing.T) {
	forArrays(func(n, rows int) {
		table := wholeTable(n, rows, 3)
		list := arrayOf(t, table)
		for _, a := range someArrays(list) {
			mustBeOptimal(t, a, a.Up && a.Stage == 0)
		}
		mustBeOptimal(t, idleArray(flushedByHand(list)), true)
		for disk := range int64(n) {
			mustBeOptimal(t, idleArray(withDead(list, disk)), false)
			for row := range int64(rows) {
				mustBeOptimal(t, idleArray(damaged(list, disk, row, damages()[row%5])), false)
				for _, by := range []int64{1, values / 2} {
					other := slices.Clone(list)
					other[disk] = write(t, other[disk], row, table[row][disk]^by)
					mustBeOptimal(t, idleArray(other), false)
					checkHealedAll(t, idleArray(other))
				}
			}
		}
	})
}

func TestHealOfWhatIsNotValid(t *testing.T) {
	for _, a := range wrongArrays(t) {
		for _, n := range []int64{math.MinInt64, -1, 0, 1, 2, 3, 4, 15, 16, math.MaxInt64} {
			healed, is := impl.Healed(a, n)
			mustBeArray(t, "Healed of what is not valid", healed, impl.Array{})
			fresh, was := impl.Replaced(a, n)
			mustBeArray(t, "Replaced of what is not valid", fresh, impl.Array{})
			if is || was {
				t.Fatalf("Healed(%v, %d) is %v, Replaced is %v", a, n, is, was)
			}
		}
		mustBeArray(t, "HealedAll of what is not valid", impl.HealedAll(a), impl.Array{})
		mustBeOptimal(t, a, false)
	}
}

// P10 over long runs of writes, damages, deaths, replacements, repairs and, when
// all is healed, crashes, which are played on the array and beside it on one
// list of numbers.
func TestHealHistory(t *testing.T) {
	forArrays(func(n, rows int) { healHistory(t, int64(n), int64(rows)) })
}

func healHistory(t *testing.T, n, rows int64) {
	a, _ := impl.NewArray(n, rows)
	told := make([]int64, rows*(n-1))
	seed := uint64(n*places + rows)
	next := func(below int64) int64 {
		seed = seed*6364136223846793005 + 1442695040888963407
		return int64(seed>>33) % below
	}
	worst := func() int {
		most := 0
		for _, row := range tableOf(a.Disks) {
			most = max(most, len(lostIn(row)))
		}
		return most
	}
	deaths := 0
	for range 400 {
		disk, row, l := next(n), next(rows), next(rows*(n-1))
		switch next(6) {
		case 0:
			if len(lostIn(tableOf(a.Disks)[row])) == 0 {
				a.Disks = rotted(a.Disks, disk, row, 1+next(values-1))
			}
		case 1:
			if worst() == 0 {
				a.Disks = withDead(a.Disks, disk)
				deaths++
			}
		case 2:
			for _, d := range a.Disks {
				if d.Dead {
					a = checkReplaced(t, a, d.Number)
				}
			}
		case 3:
			checkHealed(t, a, row)
			a, _ = impl.Healed(a, row)
		case 4:
			a = checkHealedAll(t, a)
			for i, d := range a.Disks {
				a.Disks[i] = impl.Fallen(d, next(sets))
			}
		default:
			told[l] = next(values)
			a, _ = impl.WriteArray(a, l, told[l])
		}
		mustTell(t, a, told, slices.Repeat([]bool{true}, len(told)))
		mustBeOptimal(t, a, worst() == 0)
	}
	if deaths == 0 {
		t.Error("no disk died")
	}
}

// P21 for Optimal, which answers no array: its argument is as it was, and
// nothing hangs on what lies behind an end.
func TestOptimalLeavesItsArrayAlone(t *testing.T) {
	arrays := memoryArrays(t)
	for n := int64(3); n <= 5; n++ {
		arrays = append(arrays, writtenArray(t, n, 2))
	}
	for _, a := range arrays {
		room := a
		room.Disks = roomyDisks(a.Disks)
		before := memoryOf(room.Disks)
		if impl.Optimal(room) != impl.Optimal(copyArray(a)) {
			t.Fatalf("Optimal(%v) hangs on what lies behind an end", a)
		}
		if !memoryOf(room.Disks).same(before) {
			t.Fatalf("Optimal changed %v", a)
		}
	}
}

// healCalls are the calls of repair that answer an array; memoryArrays has rows
// that they heal, and a dead disk 0 that they replace.
func healCalls() []func(impl.Array) impl.Array {
	healed := func(row int64) func(impl.Array) impl.Array {
		return func(a impl.Array) impl.Array {
			got, _ := impl.Healed(a, row)
			return got
		}
	}
	replaced := func(disk int64) func(impl.Array) impl.Array {
		return func(a impl.Array) impl.Array {
			got, _ := impl.Replaced(a, disk)
			return got
		}
	}
	return []func(impl.Array) impl.Array{healed(0), healed(1), healed(2), healed(-1), impl.HealedAll, replaced(0), replaced(1), replaced(-1)}
}

package tests

import (
	"math"
	"slices"
	"testing"

	"loop.example/g00406/impl"
)

// lost stands in a table of values, row by row, for a cell that is not read.
const lost = -1

// wholeRow gives n values whose parity is 0; the value at the given disk is the
// one that makes it so.
func wholeRow(n int, parityDisk int, salt int64) []int64 {
	row := spread(n, salt)
	row[parityDisk] = 0
	row[parityDisk] = parityByCounting(row)
	return row
}

func wholeTable(n, rows int, salt int64) [][]int64 {
	var table [][]int64
	for row := range rows {
		table = append(table, wholeRow(n, row%n, salt+int64(row)))
	}
	return table
}

// wholeTables gives tables of Whole rows for n disks: of few rows and of many,
// and with the smallest and the largest values.
func wholeTables(n int) [][][]int64 {
	edges := [][]int64{make([]int64, n), make([]int64, n), make([]int64, n)}
	edges[1][0], edges[1][n-1] = values-1, values-1
	edges[2][0], edges[2][1], edges[2][2] = values-1, values/2, values/2-1
	return [][][]int64{wholeTable(n, 1, 3), wholeTable(n, 2, 1), edges, wholeTable(n, places, 5)}
}

// arrayOf writes a table to new disks, one for each column; what is kept stays
// the value 0 everywhere.
func arrayOf(t *testing.T, table [][]int64) []impl.Disk {
	t.Helper()
	var list []impl.Disk
	for disk := range table[0] {
		d := newDisk(t, int64(disk), int64(len(table)))
		for row := range table {
			d = write(t, d, int64(row), table[row][disk])
		}
		list = append(list, d)
	}
	return list
}

func newArray(t *testing.T, n int, rows int64) []impl.Disk {
	t.Helper()
	var list []impl.Disk
	for number := range n {
		list = append(list, newDisk(t, int64(number), rows))
	}
	return list
}

func copyTable(table [][]int64) [][]int64 {
	var fresh [][]int64
	for _, row := range table {
		fresh = append(fresh, slices.Clone(row))
	}
	return fresh
}

func copyDisk(d impl.Disk) impl.Disk {
	d.Kept, d.Now = slices.Clone(d.Kept), slices.Clone(d.Now)
	return d
}

func copyDisks(list []impl.Disk) []impl.Disk {
	var fresh []impl.Disk
	for _, d := range list {
		fresh = append(fresh, copyDisk(d))
	}
	return fresh
}

// damage is a way in which the cell of a disk at a row is lost while the disk
// stays alive: the cell stays valid, but is not Good there.
type damage struct {
	name string
	to   func(c impl.Cell, disk, row int64) impl.Cell
}

func damages() []damage {
	rot := func(by int64) func(impl.Cell, int64, int64) impl.Cell {
		return func(c impl.Cell, _, _ int64) impl.Cell { return impl.Rotten(c, by) }
	}
	return []damage{
		{"rotten by 1", rot(1)},
		{"rotten by the most", rot(values - 1)},
		{"another sum", func(c impl.Cell, _, _ int64) impl.Cell {
			return impl.Cell{Value: c.Value, Sum: (c.Sum + 2) % modulus}
		}},
		{"a cell of another place", func(c impl.Cell, disk, row int64) impl.Cell {
			return impl.CellOf(disk, (row+1)%places, c.Value)
		}},
		{"a cell of another disk", func(c impl.Cell, disk, row int64) impl.Cell {
			return impl.CellOf((disk+1)%disks, row, c.Value)
		}},
	}
}

// damaged gives the disks with one cell of Now damaged.
func damaged(list []impl.Disk, disk, row int64, d damage) []impl.Disk {
	list = copyDisks(list)
	list[disk].Now[row] = d.to(list[disk].Now[row], disk, row)
	return list
}

func withDead(list []impl.Disk, disk int64) []impl.Disk {
	list = copyDisks(list)
	list[disk] = impl.Died(list[disk])
	return list
}

func loseCell(table [][]int64, disk, row int64) [][]int64 {
	table = copyTable(table)
	table[row][disk] = lost
	return table
}

func loseDisk(table [][]int64, disk int64) [][]int64 {
	table = copyTable(table)
	for row := range table {
		table[row][disk] = lost
	}
	return table
}

func lostIn(row []int64) []int64 {
	var list []int64
	for disk, v := range row {
		if v == lost {
			list = append(list, int64(disk))
		}
	}
	return list
}

// answerAt tells what CellAt must answer for a row of a table.
func answerAt(row []int64, disk int64) (int64, bool) {
	if row[disk] != lost {
		return row[disk], true
	}
	if len(lostIn(row)) > 1 {
		return 0, false
	}
	return parityByCounting(with(row, disk, 0)), true
}

func mustHold(t *testing.T, list []impl.Disk, disk, row, want int64, is bool) {
	t.Helper()
	if got, ok := impl.CellAt(list, disk, row); got != want || ok != is {
		t.Fatalf("CellAt(%v, %d, %d) = %d, %v, want %d, %v", list, disk, row, got, ok, want, is)
	}
}

func mustLack(t *testing.T, list []impl.Disk, row int64, want ...int64) {
	t.Helper()
	if got := impl.BadIn(list, row); !slices.Equal(got, want) {
		t.Fatalf("BadIn(%v, %d) = %v, want %v", list, row, got, want)
	}
}

func mustBeWhole(t *testing.T, list []impl.Disk, row int64, want bool) {
	t.Helper()
	if impl.Whole(list, row) != want {
		t.Fatalf("Whole(%v, %d) is not %v", list, row, want)
	}
}

func mustHaveRows(t *testing.T, list []impl.Disk, want int64) {
	t.Helper()
	if got, ok := impl.RowsOf(list), impl.DisksOk(list); got != want || ok != (want != -1) {
		t.Fatalf("RowsOf(%v) = %d, DisksOk is %v, want %d", list, got, ok, want)
	}
}

// checkArray asks everything about a list of array disks whose cells of Now are
// those of the table, and about rows and disks that it does not have.
func checkArray(t *testing.T, list []impl.Disk, table [][]int64) {
	t.Helper()
	mustHaveRows(t, list, int64(len(table)))
	for r, row := range table {
		bad := lostIn(row)
		mustLack(t, list, int64(r), bad...)
		mustBeWhole(t, list, int64(r), len(bad) == 0 && parityByCounting(row) == 0)
		for disk := range row {
			value, ok := answerAt(row, int64(disk))
			mustHold(t, list, int64(disk), int64(r), value, ok)
		}
		for _, disk := range noIndexes(len(row)) {
			mustHold(t, list, disk, int64(r), 0, false)
		}
	}
	for _, r := range noIndexes(len(table)) {
		checkNoRow(t, list, r)
	}
}

func checkNoRow(t *testing.T, list []impl.Disk, row int64) {
	t.Helper()
	mustLack(t, list, row)
	mustBeWhole(t, list, row, false)
	for _, disk := range append(noIndexes(len(list)), 0, 1, 2, 3, 4) {
		mustHold(t, list, disk, row, 0, false)
	}
}

// checkNoArray asks everything about what is no list of array disks.
func checkNoArray(t *testing.T, list []impl.Disk) {
	t.Helper()
	mustHaveRows(t, list, -1)
	for _, row := range []int64{-2, -1, 0, 1, 2, places - 1, places, math.MinInt64, math.MaxInt64} {
		checkNoRow(t, list, row)
	}
}

func TestRowsOfNewDisks(t *testing.T) {
	for n := 3; n <= 5; n++ {
		for rows := int64(1); rows <= places; rows++ {
			checkArray(t, newArray(t, n, rows), slices.Repeat([][]int64{make([]int64, n)}, int(rows)))
		}
	}
}

func TestWholeRows(t *testing.T) {
	for n := 3; n <= 5; n++ {
		for _, table := range wholeTables(n) {
			list := arrayOf(t, table)
			checkArray(t, list, table)
			for row := range table {
				mustBeWhole(t, list, int64(row), true)
				mustLack(t, list, int64(row))
			}
		}
	}
}

// mustRecompute asks for P6 after a disk was lost at a row: every cell of it is
// as before, and that disk alone is bad.
func mustRecompute(t *testing.T, before, after []impl.Disk, disk, row int64) {
	t.Helper()
	mustBeWhole(t, before, row, true)
	mustBeWhole(t, after, row, false)
	mustLack(t, after, row, disk)
	for d := range before {
		value, ok := impl.CellAt(before, int64(d), row)
		if !ok {
			t.Fatalf("CellAt(%v, %d, %d) is false", before, d, row)
		}
		mustHold(t, after, int64(d), row, value, true)
	}
}

// P6: one disk dies, each in turn, and is lost in all rows.
func TestWholeRowsSurviveADeath(t *testing.T) {
	for n := 3; n <= 5; n++ {
		for _, table := range wholeTables(n) {
			list := arrayOf(t, table)
			for disk := range int64(n) {
				after := withDead(list, disk)
				checkArray(t, after, loseDisk(table, disk))
				for row := range int64(len(table)) {
					mustRecompute(t, list, after, disk, row)
				}
			}
		}
	}
}

// P6: one cell is damaged, each in turn; the other rows do not notice.
func TestWholeRowsSurviveADamage(t *testing.T) {
	for n := 3; n <= 5; n++ {
		for _, table := range wholeTables(n) {
			list := arrayOf(t, table)
			for disk := range int64(n) {
				for row := range int64(len(table)) {
					for _, d := range damages() {
						after := damaged(list, disk, row, d)
						checkArray(t, after, loseCell(table, disk, row))
						mustRecompute(t, list, after, disk, row)
					}
				}
			}
		}
	}
}

// P6 in all rows at once: each row loses another disk, so that none is lost.
func TestEveryRowSurvivesItsOwnDamage(t *testing.T) {
	for n := 3; n <= 5; n++ {
		for first := range int64(n) {
			table := wholeTable(n, places, first)
			before := arrayOf(t, table)
			after, left := before, table
			for row := range int64(places) {
				disk := (first + row) % int64(n)
				after = damaged(after, disk, row, damages()[row%5])
				left = loseCell(left, disk, row)
			}
			checkArray(t, after, left)
			for row := range int64(places) {
				mustRecompute(t, before, after, (first+row)%int64(n), row)
			}
		}
	}
}

// P6 over every value, lost at each disk.
func TestEveryValueIsRecomputed(t *testing.T) {
	list := newArray(t, 3, 1)
	for v := int64(0); v < values; v++ {
		row := []int64{v, 21845, 0}
		row[2] = parityByCounting(row)
		for disk := range int64(3) {
			list[disk] = write(t, list[disk], 0, row[disk])
		}
		mustBeWhole(t, list, 0, true)
		for disk := range int64(3) {
			after := slices.Clone(list)
			after[disk] = impl.Died(after[disk])
			mustHold(t, after, disk, 0, row[disk], true)
			mustLack(t, after, 0, disk)
		}
	}
}

// mustBeLost asks about a row of which two disks are lost: they have no answer,
// and the others have what Read answers.
func mustBeLost(t *testing.T, list []impl.Disk, row, one, two int64) {
	t.Helper()
	mustLack(t, list, row, one, two)
	mustBeWhole(t, list, row, false)
	for disk := range list {
		value, ok := impl.Read(list[disk], row)
		if ok == (int64(disk) == one || int64(disk) == two) {
			t.Fatalf("Read(%v, %d) is %v", list[disk], row, ok)
		}
		mustHold(t, list, int64(disk), row, value, ok)
	}
}

func TestTwoLostInOneRow(t *testing.T) {
	for n := 3; n <= 5; n++ {
		table := wholeTable(n, 3, 2)
		list := arrayOf(t, table)
		for one := range int64(n) {
			for two := one + 1; two < int64(n); two++ {
				gone := withDead(withDead(list, one), two)
				checkArray(t, gone, loseDisk(loseDisk(table, one), two))
				for row := range int64(3) {
					mustBeLost(t, gone, row, one, two)
					for i, d := range damages() {
						both := damaged(damaged(list, one, row, d), two, row, damages()[(i+1)%5])
						checkArray(t, both, loseCell(loseCell(table, one, row), two, row))
						mustBeLost(t, both, row, one, two)
						mustBeLost(t, damaged(withDead(list, one), two, row, d), row, one, two)
						mustBeLost(t, damaged(withDead(list, two), one, row, d), row, one, two)
					}
				}
			}
		}
	}
}

// Two lost cells of different rows are none too many.
func TestTwoLostInTwoRows(t *testing.T) {
	for n := 3; n <= 5; n++ {
		table := wholeTable(n, 2, 4)
		list := arrayOf(t, table)
		for one := range int64(n) {
			for two := range int64(n) {
				after := damaged(damaged(list, one, 0, damages()[0]), two, 1, damages()[1])
				mustRecompute(t, list, after, one, 0)
				mustRecompute(t, list, after, two, 1)
			}
		}
	}
}

const (
	well = iota
	hurt
	dead
)

// combinations gives every way in which n disks can be well, hurt or dead, but
// for the one in which all are dead.
func combinations(n int) [][]int {
	lists := [][]int{nil}
	for range n {
		var longer [][]int
		for _, list := range lists {
			for state := well; state <= dead; state++ {
				longer = append(longer, append(slices.Clone(list), state))
			}
		}
		lists = longer
	}
	return lists[:len(lists)-1]
}

// suffered gives the disks and their table after a combination of losses; those
// that are hurt are hurt at the row.
func suffered(list []impl.Disk, table [][]int64, states []int, row int64) ([]impl.Disk, [][]int64) {
	for i, state := range states {
		disk := int64(i)
		switch state {
		case hurt:
			list, table = damaged(list, disk, row, damages()[disk]), loseCell(table, disk, row)
		case dead:
			list, table = withDead(list, disk), loseDisk(table, disk)
		}
	}
	return list, table
}

// afterEveryCombination checks disks, each with their table, after every
// combination of losses; the first rows were Whole before it, the last was not.
func afterEveryCombination(t *testing.T, check func(*testing.T, []impl.Disk, [][]int64)) {
	t.Helper()
	for n := 3; n <= 5; n++ {
		table := append(wholeTable(n, 2, 7), spread(n, 9))
		if parityByCounting(table[2]) == 0 {
			t.Fatalf("%v is Whole", table[2])
		}
		list := arrayOf(t, table)
		for _, states := range combinations(n) {
			for row := range int64(3) {
				after, left := suffered(list, table, states, row)
				check(t, after, left)
			}
		}
	}
}

func TestEveryCombinationOfLosses(t *testing.T) {
	afterEveryCombination(t, checkArray)
}

// A row with the wrong parity is not Whole though nothing in it is lost; its
// cells are read as they are, and a lost one is what the others would need.
func TestRowThatIsNotWhole(t *testing.T) {
	for n := 3; n <= 5; n++ {
		for changed := range int64(n) {
			for _, by := range []int64{1, values / 2, values - 1} {
				table := wholeTable(n, 3, 6)
				table[1][changed] ^= by
				list := arrayOf(t, table)
				checkArray(t, list, table)
				mustLack(t, list, 1)
				mustBeWhole(t, list, 0, true)
				mustBeWhole(t, list, 1, false)
				mustBeWhole(t, list, 2, true)
				for disk := range int64(n) {
					mustHold(t, list, disk, 1, table[1][disk], true)
					mustHold(t, withDead(list, disk), disk, 1, table[1][disk]^by, true)
					mustHold(t, damaged(list, disk, 1, damages()[0]), disk, 1, table[1][disk]^by, true)
				}
			}
		}
	}
}

// Among the rows that are not Whole are ones whose sum is 0 modulo 32768.
func TestWholeIsByParity(t *testing.T) {
	cases := []struct {
		row   []int64
		whole bool
	}{
		{[]int64{0, 0, 0}, true},
		{[]int64{5, 3, 6}, true},
		{[]int64{6, 5, 3}, true},
		{[]int64{32767, 16384, 16383}, true},
		{[]int64{32767, 32767, 0}, true},
		{[]int64{0, 0, 1}, false},
		{[]int64{1, 1, 1}, false},
		{[]int64{32767, 1, 0}, false},
		{[]int64{16384, 16384, 32767}, false},
		{[]int64{16384, 8192, 8192}, false},
		{[]int64{3, 3, 5, 5}, true},
		{[]int64{1, 2, 4, 7}, true},
		{[]int64{3, 3, 5, 4}, false},
		{[]int64{32767, 32767, 32767, 32767}, true},
		{[]int64{1, 2, 4, 8, 15}, true},
		{[]int64{1, 2, 4, 8, 14}, false},
		{[]int64{32767, 32767, 32767, 32767, 32767}, false},
	}
	for _, c := range cases {
		list := arrayOf(t, [][]int64{c.row})
		mustBeWhole(t, list, 0, c.whole)
		checkArray(t, list, [][]int64{c.row})
	}
}

// What Kept holds does not count: other values, or damaged cells.
func TestKeptDoesNotCount(t *testing.T) {
	for n := 3; n <= 5; n++ {
		table := wholeTable(n, places, 8)
		list := arrayOf(t, table)
		for _, salt := range []int64{0, 1, 2} {
			other := copyDisks(list)
			for i := range other {
				other[i].Kept = cells(int64(i), places, salt)
			}
			checkArray(t, other, table)
		}
		for disk := range int64(n) {
			for _, d := range damages() {
				other := copyDisks(list)
				for row, c := range other[disk].Kept {
					other[disk].Kept[row] = d.to(c, disk, int64(row))
				}
				checkArray(t, other, table)
			}
		}
	}
}

// Now counts, though Kept would make the row Whole and has no damage.
func TestNowCounts(t *testing.T) {
	for n := 3; n <= 5; n++ {
		table := wholeTable(n, 2, 1)
		list := arrayOf(t, table)
		for i := range list {
			list[i] = impl.Flushed(list[i])
		}
		checkArray(t, list, table)
		for disk := range int64(n) {
			value := (table[1][disk] + 1) % values
			other := slices.Clone(list)
			other[disk] = write(t, other[disk], 1, value)
			later := [][]int64{table[0], with(table[1], disk, value)}
			checkArray(t, other, later)
			mustBeWhole(t, other, 1, false)
			other[disk] = impl.Fallen(other[disk], 0)
			checkArray(t, other, table)
			for _, d := range damages() {
				other := damaged(list, disk, 1, d)
				checkArray(t, other, loseCell(table, disk, 1))
				other[disk] = impl.Fallen(other[disk], 0)
				checkArray(t, other, table)
			}
		}
	}
}

func TestListsOfEveryLength(t *testing.T) {
	checkNoArray(t, nil)
	checkNoArray(t, []impl.Disk{})
	for n := 1; n <= 5; n++ {
		for _, rows := range []int64{1, 2, places} {
			list := newArray(t, n, rows)
			if n < 3 {
				checkNoArray(t, list)
			} else {
				checkArray(t, list, slices.Repeat([][]int64{make([]int64, n)}, int(rows)))
			}
		}
	}
}

// There is no disk 5; a sixth disk of any other number is out of order, and all
// would be too many anyway.
func TestListsThatAreTooLong(t *testing.T) {
	for number := int64(0); number < disks; number++ {
		six := append(newArray(t, 5, 2), newDisk(t, number, 2))
		checkNoArray(t, six)
		six[5].Number = 5
		checkNoArray(t, six)
		checkNoArray(t, append(newArray(t, 5, 2), deadDisk(number)))
		checkNoArray(t, append(newArray(t, 5, 2), deadDisk(5)))
	}
	checkNoArray(t, slices.Concat(newArray(t, 5, 2), newArray(t, 5, 2)))
	checkNoArray(t, slices.Repeat(newArray(t, 3, 1), 100))
}

func TestAllDead(t *testing.T) {
	for n := 0; n <= 6; n++ {
		var list []impl.Disk
		for number := range int64(n) {
			list = append(list, deadDisk(number))
		}
		checkNoArray(t, list)
	}
	for n := 3; n <= 5; n++ {
		list := newArray(t, n, 4)
		for i := range list {
			list[i] = impl.Died(list[i])
		}
		checkNoArray(t, list)
	}
}

// The one disk that is alive, wherever it stands, tells the number of rows.
func TestAllButOneDead(t *testing.T) {
	for n := 3; n <= 5; n++ {
		for _, table := range wholeTables(n) {
			for alive := range int64(n) {
				list, left := arrayOf(t, table), table
				for disk := range int64(n) {
					if disk != alive {
						list, left = withDead(list, disk), loseDisk(left, disk)
					}
				}
				checkArray(t, list, left)
				mustHold(t, list, alive, 0, table[0][alive], true)
				last := int64(len(table)) - 1
				checkArray(t, damaged(list, alive, last, damages()[0]), loseCell(left, alive, last))
			}
		}
	}
}

// Empty lists of a dead disk count as no lists.
func TestDeadDisksWithEmptyLists(t *testing.T) {
	table := wholeTable(3, 2, 1)
	for _, d := range deadDisks() {
		if d.Number < 3 {
			list := arrayOf(t, table)
			list[d.Number] = d
			checkArray(t, list, loseDisk(table, d.Number))
		}
	}
}

// numberLists gives Numbers of 3 to 5 disks that are not 0, 1, 2, ... in order.
func numberLists() [][]int64 {
	lists := [][]int64{
		{0, 0, 0}, {0, 0, 1}, {0, 1, 1}, {0, 2, 1}, {1, 0, 2}, {2, 1, 0}, {1, 2, 3}, {0, 1, 3}, {0, 2, 3}, {0, 2, 4}, {2, 3, 4}, {4, 4, 4},
		{0, 1, 2, 2}, {0, 1, 3, 2}, {3, 2, 1, 0}, {0, 1, 2, 4}, {1, 2, 3, 4}, {1, 1, 2, 3},
		{0, 1, 2, 3, 3}, {0, 1, 2, 4, 3}, {4, 3, 2, 1, 0}, {1, 2, 3, 4, 0}, {1, 2, 3, 4, 4}, {0, 0, 2, 3, 4},
	}
	for n := 3; n <= 5; n++ {
		for at := range n {
			for _, number := range append(outside(disks-1), 1<<32+int64(at)) {
				list := []int64{0, 1, 2, 3, 4}[:n]
				lists = append(lists, with(list, int64(at), number))
			}
		}
	}
	return lists
}

// The cells are Good for the number that each disk says, or for its index: the
// list is rejected for the Numbers alone.
func TestNumbersOutOfOrder(t *testing.T) {
	for _, numbers := range numberLists() {
		byIndex := newArray(t, len(numbers), 2)
		byNumber := newArray(t, len(numbers), 2)
		for i, number := range numbers {
			if number >= 0 && number < disks {
				byNumber[i] = newDisk(t, number, 2)
			}
			byIndex[i].Number, byNumber[i].Number = number, number
		}
		checkNoArray(t, byIndex)
		checkNoArray(t, byNumber)
		for i, number := range numbers {
			withoutOne := slices.Clone(byNumber)
			withoutOne[i] = deadDisk(number)
			checkNoArray(t, withoutOne)
		}
	}
}

// invalidAt gives disks that are not valid, of the number that belongs at an
// index of the list, unless it is the number that is wrong.
func invalidAt(index int64) []impl.Disk {
	list := wrongNumbers()
	for _, d := range slices.Concat(wrongLengths(), wrongCells(), deadWithCells()) {
		d.Number = index
		list = append(list, d)
	}
	return list
}

// One disk that is not valid is enough, wherever it stands, and whatever cells
// the others have.
func TestDisksThatAreNotValid(t *testing.T) {
	for n := 3; n <= 5; n++ {
		for index := range int64(n) {
			for _, d := range invalidAt(index) {
				if impl.DiskOk(d) {
					t.Fatalf("%v is valid", d)
				}
				list := newArray(t, n, max(1, min(places, int64(len(d.Now)))))
				list[index] = d
				checkNoArray(t, list)
			}
		}
	}
}

// With all others dead, the disk that is not valid would be the only one to
// tell the number of rows; all of them may be invalid, too.
func TestOnlyInvalidDisksAlive(t *testing.T) {
	for index := range int64(3) {
		for _, d := range invalidAt(index) {
			list := []impl.Disk{deadDisk(0), deadDisk(1), deadDisk(2)}
			list[index] = d
			checkNoArray(t, list)
			checkNoArray(t, slices.Repeat([]impl.Disk{d}, 3))
		}
	}
	checkNoArray(t, make([]impl.Disk, 3))
	checkNoArray(t, make([]impl.Disk, 5))
}

func TestDifferentNumbersOfPlaces(t *testing.T) {
	for n := 3; n <= 5; n++ {
		for _, p := range []struct{ one, all int64 }{{1, 2}, {2, 1}, {15, 16}, {16, 15}, {1, 16}, {16, 1}, {8, 9}} {
			for index := range int64(n) {
				list := newArray(t, n, p.all)
				list[index] = newDisk(t, index, p.one)
				checkNoArray(t, list)
				for gone := range int64(n) {
					other := withDead(list, gone)
					if gone == index {
						mustHaveRows(t, other, p.all)
					} else {
						checkNoArray(t, other)
					}
				}
			}
		}
	}
	checkNoArray(t, []impl.Disk{newDisk(t, 0, 1), newDisk(t, 1, 2), newDisk(t, 2, 3)})
	checkNoArray(t, []impl.Disk{newDisk(t, 0, 3), newDisk(t, 1, 2), newDisk(t, 2, 3)})
	checkNoArray(t, []impl.Disk{newDisk(t, 0, 3), deadDisk(1), newDisk(t, 2, 4)})
}

// The rows are those of the disks that are alive, not those of the first disk.
func TestRowsOfWhatIsAlive(t *testing.T) {
	for rows := int64(1); rows <= places; rows++ {
		mustHaveRows(t, []impl.Disk{deadDisk(0), deadDisk(1), newDisk(t, 2, rows)}, rows)
		mustHaveRows(t, []impl.Disk{newDisk(t, 0, rows), deadDisk(1), deadDisk(2)}, rows)
		mustHaveRows(t, []impl.Disk{deadDisk(0), newDisk(t, 1, rows), newDisk(t, 2, rows), deadDisk(3)}, rows)
		mustHaveRows(t, []impl.Disk{deadDisk(0), newDisk(t, 1, rows), newDisk(t, 2, rows%places+1)}, -1)
	}
}

func TestRowsAndDisksAtTheEdges(t *testing.T) {
	table := [][]int64{{5, 3, 6}, {7, 7, 0}}
	list := withDead(arrayOf(t, table), 1)
	cases := []struct {
		disk, row, value int64
		ok               bool
	}{
		{-1, 0, 0, false}, {0, 0, 5, true}, {1, 0, 3, true}, {2, 0, 6, true}, {3, 0, 0, false}, {4, 0, 0, false}, {5, 0, 0, false},
		{0, 1, 7, true}, {1, 1, 7, true}, {2, 1, 0, true}, {3, 1, 0, false},
		{0, -1, 0, false}, {1, -1, 0, false}, {0, 2, 0, false}, {1, 2, 0, false}, {2, 2, 0, false}, {0, 15, 0, false}, {0, 16, 0, false},
		{-1, -1, 0, false}, {3, 2, 0, false},
	}
	for _, c := range cases {
		mustHold(t, list, c.disk, c.row, c.value, c.ok)
	}
	mustLack(t, list, -1)
	mustLack(t, list, 0, 1)
	mustLack(t, list, 1, 1)
	mustLack(t, list, 2)
}

// P21: the smallest and the largest numbers, in both positions at once, are no
// disk and no row of any list.
func TestRowsAtTheEndsOfNumbers(t *testing.T) {
	ends := []int64{math.MinInt64, math.MinInt64 + 1, -1, 0, 1, math.MaxInt64 - 1, math.MaxInt64}
	table := wholeTable(4, 2, 3)
	list := arrayOf(t, table)
	inside := func(n int64) bool { return n == 0 || n == 1 }
	for _, other := range [][]impl.Disk{list, withDead(list, 0), damaged(list, 1, 1, damages()[0])} {
		for _, row := range ends {
			for _, disk := range ends {
				if inside(disk) && inside(row) {
					mustHold(t, other, disk, row, table[row][disk], true)
				} else {
					mustHold(t, other, disk, row, 0, false)
				}
			}
			if !inside(row) {
				checkNoRow(t, other, row)
			}
		}
	}
}

// memory is all that a list of disks can be changed in: the disks, those in the
// unused capacity of the list included, and all of their cells.
type memory struct {
	disks     []impl.Disk
	kept, now [][]impl.Cell
}

func memoryOf(list []impl.Disk) memory {
	m := memory{disks: slices.Clone(list[:cap(list)])}
	for _, d := range m.disks {
		m.kept, m.now = append(m.kept, all(d.Kept)), append(m.now, all(d.Now))
	}
	return m
}

func (m memory) same(other memory) bool {
	return slices.EqualFunc(m.disks, other.disks, sameDisk) &&
		slices.EqualFunc(m.kept, other.kept, slices.Equal) && slices.EqualFunc(m.now, other.now, slices.Equal)
}

// roomyDisks gives the list with unused capacity, in which disks lie that would
// continue it, and the disks with unused capacity, too.
func roomyDisks(list []impl.Disk) []impl.Disk {
	room := make([]impl.Disk, 0, len(list)+7)
	for _, d := range list {
		room = append(room, roomy(d))
	}
	for i := len(list); i < cap(room); i++ {
		room[:cap(room)][i] = roomy(mixedDisk(int64(i), 2))
	}
	return room
}

// memoryLists gives lists of array disks of all kinds, and ones that are none.
func memoryLists(t *testing.T) [][]impl.Disk {
	var lists [][]impl.Disk
	for n := 1; n <= 6; n++ {
		table := wholeTable(n, 2, 3)
		var list []impl.Disk
		for number := range int64(n) {
			list = append(list, mixedDisk(number, 2))
		}
		lists = append(lists, list)
		if n < 6 {
			list = arrayOf(t, table)
			lists = append(lists, list, withDead(list, 0), damaged(list, int64(n)-1, 1, damages()[0]))
		}
	}
	for _, d := range invalidAt(1) {
		list := newArray(t, 3, 2)
		list[1] = d
		lists = append(lists, list)
	}
	return append(lists, nil, []impl.Disk{deadDisk(0), deadDisk(1), deadDisk(2)}, slices.Repeat([]impl.Disk{mixedDisk(0, 2)}, 3))
}

// P21: no call changes the list, its disks or their cells, the unused capacity
// included; and nothing hangs on what lies in it.
func TestRowsLeaveTheirListAlone(t *testing.T) {
	for _, list := range memoryLists(t) {
		room := roomyDisks(list)
		before := memoryOf(room)
		check := func(what string, same bool) {
			t.Helper()
			if !memoryOf(room).same(before) {
				t.Fatalf("%s changed %v", what, list)
			}
			if !same {
				t.Fatalf("%s of %v hangs on what lies behind its end", what, list)
			}
		}
		tight := slices.Clip(copyDisks(list))
		check("DisksOk", impl.DisksOk(room) == impl.DisksOk(tight))
		check("RowsOf", impl.RowsOf(room) == impl.RowsOf(tight))
		for _, row := range []int64{math.MinInt64, -1, 0, 1, 2, places, math.MaxInt64} {
			check("BadIn", slices.Equal(impl.BadIn(room, row), impl.BadIn(tight, row)))
			check("Whole", impl.Whole(room, row) == impl.Whole(tight, row))
			for _, disk := range append(noIndexes(len(list)), 0, 1, 2, 3, 4) {
				got, ok := impl.CellAt(room, disk, row)
				want, is := impl.CellAt(tight, disk, row)
				check("CellAt", got == want && ok == is)
			}
		}
	}
}

// P21: whoever writes all over one answer of BadIn changes no other one, and no
// later one.
func TestBadInIsNewMemory(t *testing.T) {
	for n := 3; n <= 5; n++ {
		list := withDead(withDead(newArray(t, n, 2), 0), 2)
		want := []int64{0, 2}
		one, two := impl.BadIn(list, 1), impl.BadIn(list, 1)
		for i := range one[:cap(one)] {
			one[:cap(one)][i] = -77
		}
		if !slices.Equal(two, want) || !slices.Equal(impl.BadIn(list, 1), want) {
			t.Errorf("two answers of BadIn share memory: %v", two)
		}
	}
}

// Disks that share the memory of their cells, or whose Kept is their Now, are
// array disks like others.
func TestDisksThatShareCells(t *testing.T) {
	table := wholeTable(3, 2, 1)
	list := arrayOf(t, table)
	for i := range list {
		list[i].Kept = list[i].Now
	}
	checkArray(t, list, table)
	shared := newDisk(t, 0, 2)
	one := []impl.Disk{shared, shared, shared}
	one[1].Number, one[2].Number = 1, 2
	checkArray(t, one, [][]int64{{0, lost, lost}, {0, lost, lost}})
}

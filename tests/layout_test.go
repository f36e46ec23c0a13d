package tests

import (
	"math"
	"testing"

	"loop.example/g00406/impl"
)

const parityCell = -1

// picture gives the first n rows of an array with n disks as the document
// describes them, drawn by hand: for each disk the logical place of its cell.
// The rows after these repeat them with n * (n - 1) more at each data cell.
func picture(n int64) [][]int64 {
	const p = parityCell
	switch n {
	case 3:
		return [][]int64{
			{0, 1, p},
			{3, p, 2},
			{p, 4, 5},
		}
	case 4:
		return [][]int64{
			{0, 1, 2, p},
			{4, 5, p, 3},
			{8, p, 6, 7},
			{p, 9, 10, 11},
		}
	case 5:
		return [][]int64{
			{0, 1, 2, 3, p},
			{5, 6, 7, p, 4},
			{10, 11, p, 8, 9},
			{15, p, 12, 13, 14},
			{p, 16, 17, 18, 19},
		}
	}
	return nil
}

// drawn gives all 16 rows of an array with n disks, and none for an n that is
// out of range.
func drawn(n int64) [][]int64 {
	first := picture(n)
	if first == nil {
		return nil
	}
	var rows [][]int64
	for row := int64(0); row < places; row++ {
		var cells []int64
		for _, l := range first[row%n] {
			if l != parityCell {
				l += row / n * n * (n - 1)
			}
			cells = append(cells, l)
		}
		rows = append(rows, cells)
	}
	return rows
}

func drawnExtra(rows [][]int64, row int64) int64 {
	if row < 0 || row >= int64(len(rows)) {
		return -1
	}
	for disk, l := range rows[row] {
		if l == parityCell {
			return int64(disk)
		}
	}
	return -1
}

func drawnLogical(rows [][]int64, disk, row int64) int64 {
	if row < 0 || row >= int64(len(rows)) || disk < 0 || disk >= int64(len(rows[row])) {
		return -1
	}
	return rows[row][disk]
}

// drawnCell gives the disk and the row of a logical place.
func drawnCell(rows [][]int64, l int64) (int64, int64) {
	if l < 0 {
		return -1, -1
	}
	for row, cells := range rows {
		for disk, other := range cells {
			if other == l {
				return int64(disk), int64(row)
			}
		}
	}
	return -1, -1
}

func drawnRoom(rows [][]int64, count int64) int64 {
	if count < 1 || count > int64(len(rows)) {
		return -1
	}
	var room int64
	for _, cells := range rows[:count] {
		for _, l := range cells {
			if l != parityCell {
				room++
			}
		}
	}
	return room
}

func checkExtra(t *testing.T, rows [][]int64, n, row int64) {
	t.Helper()
	if got, want := impl.ExtraOf(n, row), drawnExtra(rows, row); got != want {
		t.Errorf("ExtraOf(%d, %d) = %d, want %d", n, row, got, want)
	}
}

func checkPlace(t *testing.T, rows [][]int64, n, l int64) {
	t.Helper()
	disk, row := drawnCell(rows, l)
	if got := impl.DiskOf(n, l); got != disk {
		t.Errorf("DiskOf(%d, %d) = %d, want %d", n, l, got, disk)
	}
	if got := impl.RowOf(n, l); got != row {
		t.Errorf("RowOf(%d, %d) = %d, want %d", n, l, got, row)
	}
}

func checkLogical(t *testing.T, rows [][]int64, n, disk, row int64) {
	t.Helper()
	if got, want := impl.LogicalAt(n, disk, row), drawnLogical(rows, disk, row); got != want {
		t.Errorf("LogicalAt(%d, %d, %d) = %d, want %d", n, disk, row, got, want)
	}
}

func checkRoom(t *testing.T, rows [][]int64, n, count int64) {
	t.Helper()
	if got, want := impl.RoomOf(n, count), drawnRoom(rows, count); got != want {
		t.Errorf("RoomOf(%d, %d) = %d, want %d", n, count, got, want)
	}
}

// Every argument that is in range, and those around the ranges.
func TestLayoutIsAsDrawn(t *testing.T) {
	for n := int64(-4); n <= 10; n++ {
		rows := drawn(n)
		for row := int64(-20); row <= 40; row++ {
			checkExtra(t, rows, n, row)
			checkRoom(t, rows, n, row)
			for disk := int64(-10); disk <= 20; disk++ {
				checkLogical(t, rows, n, disk, row)
			}
		}
		for l := int64(-40); l <= 200; l++ {
			checkPlace(t, rows, n, l)
		}
	}
}

// The parity disk of row r is disk (n - 1 - r) modulo n, in 0..n-1: the last
// disk at first, then one less with each row, and after disk 0 the last again.
func TestParityDiskRotates(t *testing.T) {
	for n := int64(3); n <= 5; n++ {
		disk := n - 1
		for row := int64(0); row < places; row++ {
			if got := impl.ExtraOf(n, row); got != disk || (got+row+1)%n != 0 {
				t.Errorf("ExtraOf(%d, %d) = %d, want %d", n, row, got, disk)
			}
			disk--
			if disk < 0 {
				disk = n - 1
			}
		}
	}
}

// The data cells of a row follow its parity disk, in the order of their places.
func TestDataCellsFollowTheParityDisk(t *testing.T) {
	for n := int64(3); n <= 5; n++ {
		l := int64(0)
		for row := int64(0); row < places; row++ {
			disk := impl.ExtraOf(n, row)
			for index := int64(0); index < n-1; index++ {
				disk = (disk + 1) % n
				if gotDisk, gotRow := impl.DiskOf(n, l), impl.RowOf(n, l); gotDisk != disk || gotRow != row {
					t.Errorf("n %d: place %d is on disk %d in row %d, want disk %d, row %d", n, l, gotDisk, gotRow, disk, row)
				}
				l++
			}
		}
	}
}

type spot struct{ disk, row int64 }

// spots gives, for each cell that some logical place leads to, these places.
func spots(n int64) map[spot][]int64 {
	held := map[spot][]int64{}
	for l := int64(0); l < places*(n-1); l++ {
		s := spot{impl.DiskOf(n, l), impl.RowOf(n, l)}
		held[s] = append(held[s], l)
	}
	return held
}

// P5: each cell is the parity cell of its row or has exactly one logical place,
// and LogicalAt tells that place; no place leads anywhere else.
func TestEveryCellHasOnePlaceOrIsParity(t *testing.T) {
	for n := int64(3); n <= 5; n++ {
		held := spots(n)
		for row := int64(0); row < places; row++ {
			for disk := int64(0); disk < n; disk++ {
				checkCell(t, n, disk, row, held[spot{disk, row}])
				delete(held, spot{disk, row})
			}
		}
		for s, list := range held {
			t.Errorf("n %d: places %v lead to disk %d, row %d, which is no cell", n, list, s.disk, s.row)
		}
	}
}

func checkCell(t *testing.T, n, disk, row int64, held []int64) {
	t.Helper()
	l := impl.LogicalAt(n, disk, row)
	if impl.ExtraOf(n, row) == disk {
		if len(held) != 0 || l != -1 {
			t.Errorf("n %d: the parity cell at disk %d, row %d is of places %v; LogicalAt is %d", n, disk, row, held, l)
		}
		return
	}
	if len(held) != 1 || held[0] != l {
		t.Errorf("n %d: the data cell at disk %d, row %d is of places %v; LogicalAt is %d", n, disk, row, held, l)
	}
}

// P5, from the cells: LogicalAt gives no two cells one place, and DiskOf and
// RowOf lead back to the cell.
func TestPlacesLeadBackToTheirCells(t *testing.T) {
	for n := int64(3); n <= 5; n++ {
		seen := map[int64]spot{}
		for row := int64(0); row < places; row++ {
			for disk := int64(0); disk < n; disk++ {
				l := impl.LogicalAt(n, disk, row)
				if l == -1 {
					continue
				}
				if other, is := seen[l]; is {
					t.Errorf("n %d: place %d is at disk %d, row %d and at disk %d, row %d", n, l, disk, row, other.disk, other.row)
				}
				seen[l] = spot{disk, row}
				if gotDisk, gotRow := impl.DiskOf(n, l), impl.RowOf(n, l); gotDisk != disk || gotRow != row {
					t.Errorf("n %d: place %d of disk %d, row %d leads to disk %d, row %d", n, l, disk, row, gotDisk, gotRow)
				}
			}
		}
		if int64(len(seen)) != places*(n-1) {
			t.Errorf("n %d: %d places, want %d", n, len(seen), places*(n-1))
		}
	}
}

// P5, by rows: each row has one parity cell, and in any n rows on end each disk
// has one of theirs.
func TestEveryRowHasOneParityCell(t *testing.T) {
	for n := int64(3); n <= 5; n++ {
		for row := int64(0); row < places; row++ {
			without := 0
			for disk := int64(0); disk < n; disk++ {
				if impl.LogicalAt(n, disk, row) == -1 {
					without++
				}
			}
			if without != 1 {
				t.Errorf("n %d: row %d has %d cells without a place", n, row, without)
			}
		}
		for first := int64(0); first+n <= places; first++ {
			has := map[int64]int{}
			for row := first; row < first+n; row++ {
				has[impl.ExtraOf(n, row)]++
			}
			if int64(len(has)) != n {
				t.Errorf("n %d: parity disks of rows %d to %d: %v", n, first, first+n-1, has)
			}
		}
	}
}

// RoomOf is the number of logical places of the first rows, and these are the
// places below it.
func TestRoomIsTheNumberOfPlaces(t *testing.T) {
	for n := int64(3); n <= 5; n++ {
		for rows := int64(1); rows <= places; rows++ {
			room := impl.RoomOf(n, rows)
			var count int64
			for l := int64(0); l < places*disks; l++ {
				row := impl.RowOf(n, l)
				within := row >= 0 && row < rows
				if within != (l < room) {
					t.Errorf("RoomOf(%d, %d) = %d; RowOf(%d, %d) = %d", n, rows, room, n, l, row)
				}
				if within {
					count++
				}
			}
			if room != count {
				t.Errorf("RoomOf(%d, %d) = %d; there are %d places", n, rows, room, count)
			}
		}
	}
}

func TestExtraOfEdges(t *testing.T) {
	cases := []struct{ n, row, want int64 }{
		{2, 0, -1}, {2, 15, -1}, {2, -1, -1}, {2, 16, -1},
		{3, -1, -1}, {3, 0, 2}, {3, 2, 0}, {3, 3, 2}, {3, 15, 2}, {3, 16, -1},
		{4, -1, -1}, {4, 0, 3}, {4, 3, 0}, {4, 4, 3}, {4, 15, 0}, {4, 16, -1},
		{5, -1, -1}, {5, 0, 4}, {5, 4, 0}, {5, 5, 4}, {5, 15, 4}, {5, 16, -1},
		{6, 0, -1}, {6, 15, -1}, {6, -1, -1}, {6, 16, -1},
		{0, 0, -1}, {1, 0, -1}, {-1, 0, -1}, {-3, 0, -1}, {-4, 3, -1}, {-5, 0, -1},
	}
	for _, c := range cases {
		if got := impl.ExtraOf(c.n, c.row); got != c.want {
			t.Errorf("ExtraOf(%d, %d) = %d, want %d", c.n, c.row, got, c.want)
		}
	}
}

func TestDiskOfAndRowOfEdges(t *testing.T) {
	cases := []struct{ n, l, disk, row int64 }{
		{2, -1, -1, -1}, {2, 0, -1, -1}, {2, 15, -1, -1}, {2, 16, -1, -1},
		{3, -1, -1, -1}, {3, 0, 0, 0}, {3, 1, 1, 0}, {3, 2, 2, 1}, {3, 31, 1, 15}, {3, 32, -1, -1},
		{4, -1, -1, -1}, {4, 0, 0, 0}, {4, 2, 2, 0}, {4, 3, 3, 1}, {4, 4, 0, 1}, {4, 47, 3, 15}, {4, 48, -1, -1},
		{5, -1, -1, -1}, {5, 0, 0, 0}, {5, 3, 3, 0}, {5, 4, 4, 1}, {5, 63, 3, 15}, {5, 64, -1, -1},
		{6, -1, -1, -1}, {6, 0, -1, -1}, {6, 79, -1, -1}, {6, 80, -1, -1},
		{1, 0, -1, -1}, {0, 0, -1, -1}, {-1, 0, -1, -1}, {-3, 0, -1, -1},
	}
	for _, c := range cases {
		if got := impl.DiskOf(c.n, c.l); got != c.disk {
			t.Errorf("DiskOf(%d, %d) = %d, want %d", c.n, c.l, got, c.disk)
		}
		if got := impl.RowOf(c.n, c.l); got != c.row {
			t.Errorf("RowOf(%d, %d) = %d, want %d", c.n, c.l, got, c.row)
		}
	}
}

func TestLogicalAtEdges(t *testing.T) {
	cases := []struct{ n, disk, row, want int64 }{
		{2, 0, 0, -1}, {2, 1, 0, -1}, {2, 0, 1, -1}, {2, 1, 15, -1},
		{3, -1, 0, -1}, {3, -1, 1, -1}, {3, 0, 0, 0}, {3, 2, 0, -1}, {3, 3, 0, -1}, {3, 2, 1, 2}, {3, 3, 1, -1},
		{3, 0, -1, -1}, {3, 0, 15, 30}, {3, 1, 15, 31}, {3, 2, 15, -1}, {3, 0, 16, -1}, {3, 1, 16, -1},
		{4, -1, 0, -1}, {4, -1, 1, -1}, {4, 0, 0, 0}, {4, 3, 0, -1}, {4, 4, 0, -1}, {4, 3, 1, 3}, {4, 2, 1, -1}, {4, 4, 1, -1},
		{4, 0, -1, -1}, {4, 0, 15, -1}, {4, 1, 15, 45}, {4, 3, 15, 47}, {4, 1, 16, -1}, {4, 3, 16, -1},
		{5, -1, 0, -1}, {5, -1, 1, -1}, {5, 0, 0, 0}, {5, 4, 0, -1}, {5, 5, 0, -1}, {5, 4, 1, 4}, {5, 5, 1, -1},
		{5, 0, -1, -1}, {5, 0, 15, 60}, {5, 3, 15, 63}, {5, 4, 15, -1}, {5, 0, 16, -1}, {5, 3, 16, -1},
		{6, 0, 0, -1}, {6, 5, 1, -1}, {6, 0, 15, -1}, {6, 6, 0, -1},
	}
	for _, c := range cases {
		if got := impl.LogicalAt(c.n, c.disk, c.row); got != c.want {
			t.Errorf("LogicalAt(%d, %d, %d) = %d, want %d", c.n, c.disk, c.row, got, c.want)
		}
	}
}

func TestRoomOfEdges(t *testing.T) {
	cases := []struct{ n, rows, want int64 }{
		{2, 0, -1}, {2, 1, -1}, {2, 16, -1}, {2, 17, -1},
		{3, -1, -1}, {3, 0, -1}, {3, 1, 2}, {3, 16, 32}, {3, 17, -1},
		{4, -1, -1}, {4, 0, -1}, {4, 1, 3}, {4, 8, 24}, {4, 16, 48}, {4, 17, -1},
		{5, -1, -1}, {5, 0, -1}, {5, 1, 4}, {5, 16, 64}, {5, 17, -1},
		{6, 0, -1}, {6, 1, -1}, {6, 16, -1}, {6, 17, -1},
		{-3, 1, -1}, {-1, -1, -1}, {0, -1, -1}, {1, 1, -1},
	}
	for _, c := range cases {
		if got := impl.RoomOf(c.n, c.rows); got != c.want {
			t.Errorf("RoomOf(%d, %d) = %d, want %d", c.n, c.rows, got, c.want)
		}
	}
}

// layoutNumbers gives the edges of every range, and numbers far outside all of
// them: the extreme ones, and ones that a calculation would take, by a narrower
// integer or an overflow, for numbers that are in range.
func layoutNumbers() []int64 {
	list := []int64{2, 3, 4, 5, 6, 14, 15, 16, 17, 31, 32, 33, 47, 48, 49, 63, 64, 65}
	for _, last := range []int64{0, 4, 15, 63} {
		list = append(list, outside(last)...)
	}
	for _, far := range []int64{1 << 8, 1 << 16, 1 << 31, 1 << 32, 1 << 60, 1 << 61, 1 << 62} {
		list = append(list, far-1, far, far+3, far+4, -far-1, -far, -far+3)
	}
	return append(list, 0, 1, math.MaxInt64, math.MaxInt64-1, math.MaxInt64-3, math.MaxInt64/4, math.MinInt64, math.MinInt64+3, math.MinInt64/2)
}

// P21: every argument is answered, the smallest and the largest ones at each
// place included, beside others that are in range and beside each other.
func TestLayoutOfFarNumbers(t *testing.T) {
	numbers := layoutNumbers()
	for _, n := range numbers {
		rows := drawn(n)
		for _, x := range numbers {
			checkExtra(t, rows, n, x)
			checkRoom(t, rows, n, x)
			checkPlace(t, rows, n, x)
			for _, row := range numbers {
				checkLogical(t, rows, n, x, row)
			}
		}
	}
}

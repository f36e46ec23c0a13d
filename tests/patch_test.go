package tests

import (
	"math"
	"regexp"
	"slices"
	"strconv"
	"strings"
	"testing"

	"loop.example/g00406/impl"
)

func samePatch(a, b impl.Patch) bool {
	return a.Row == b.Row && slices.Equal(a.Disks, b.Disks) && slices.Equal(a.Values, b.Values)
}

func copyPatch(p impl.Patch) impl.Patch {
	return impl.Patch{Row: p.Row, Disks: slices.Clone(p.Disks), Values: slices.Clone(p.Values)}
}

func onePatch(row, disk, value int64) impl.Patch {
	return impl.Patch{Row: row, Disks: []int64{disk}, Values: []int64{value}}
}

func twoPatch(row, one, first, two, second int64) impl.Patch {
	return impl.Patch{Row: row, Disks: []int64{one, two}, Values: []int64{first, second}}
}

// validPatches gives patches of every row and of every disk or two disks, with
// values at both ends of their range and between.
func validPatches() []impl.Patch {
	var list []impl.Patch
	for row := range int64(places) {
		for one := range int64(disks) {
			for _, v := range []int64{0, 1, 10, 791, 16384, values - 2, values - 1} {
				list = append(list, onePatch(row, one, v))
				for two := one + 1; two < disks; two++ {
					list = append(list, twoPatch(row, one, v, two, values-1-v), twoPatch(row, one, v, two, v))
				}
			}
		}
	}
	return list
}

// wrongPatches gives patches that are not valid: by the row, by how many disks
// or values there are, by the disks, by their order and by the values.
func wrongPatches() []impl.Patch {
	list := []impl.Patch{
		{}, {Row: 15}, {Disks: []int64{}, Values: []int64{}}, {Disks: []int64{0}}, {Values: []int64{0}},
		{Disks: []int64{0, 1}}, {Values: []int64{0, 1}},
		{Disks: []int64{0}, Values: []int64{0, 0}}, {Disks: []int64{0, 1}, Values: []int64{0}},
		{Disks: []int64{0, 1}, Values: []int64{0, 0, 0}}, {Disks: []int64{0, 1, 2}, Values: []int64{0, 0}},
		{Disks: []int64{0, 1, 2}, Values: []int64{0, 0, 0}}, {Disks: []int64{0, 1, 2, 3, 4}, Values: []int64{1, 2, 3, 4, 5}},
		{Disks: make([]int64, 1000), Values: make([]int64, 1000)}, {Disks: make([]int64, 3), Values: make([]int64, 3)},
	}
	for _, row := range append(outside(places-1), 1<<32, 1<<32+3) {
		list = append(list, onePatch(row, 0, 0), twoPatch(row, 0, 5, 4, 7))
	}
	for one := range int64(disks) {
		for two := range one + 1 {
			list = append(list, twoPatch(0, one, 5, two, 5), twoPatch(15, one, 0, two, values-1))
		}
	}
	for _, disk := range append(outside(disks-1), 1<<32, 1<<32+3) {
		list = append(list, onePatch(3, disk, 5), twoPatch(3, disk, 5, 4, 5), twoPatch(3, 0, 5, disk, 5), twoPatch(3, disk, 5, disk, 5))
	}
	for _, v := range noValues() {
		list = append(list, onePatch(3, 1, v), twoPatch(3, 1, v, 2, 5), twoPatch(3, 1, 5, 2, v), twoPatch(3, 1, v, 2, v))
	}
	return list
}

func TestPatchOk(t *testing.T) {
	for _, p := range validPatches() {
		if !impl.PatchOk(p) {
			t.Errorf("%v is valid", p)
		}
	}
	for _, p := range wrongPatches() {
		if impl.PatchOk(p) {
			t.Errorf("%v is not valid", p)
		}
	}
}

// Every pair of disks in and around their range: they must rise.
func TestPatchOkOfEveryTwoDisks(t *testing.T) {
	for one := int64(-2); one <= 6; one++ {
		if got, want := impl.PatchOk(onePatch(0, one, 0)), one >= 0 && one < disks; got != want {
			t.Errorf("PatchOk with disk %d is %v", one, got)
		}
		for two := int64(-2); two <= 6; two++ {
			want := one >= 0 && one < two && two < disks
			if got := impl.PatchOk(twoPatch(0, one, 0, two, 0)); got != want {
				t.Errorf("PatchOk with disks %d, %d is %v", one, two, got)
			}
		}
	}
}

// wantPatch tells what PatchFor must answer, from the drawn layout and a table
// of the values of Now, with the dead disks left out.
func wantPatch(list []impl.Disk, table [][]int64, l, value int64) (impl.Patch, bool) {
	layout := drawn(int64(len(list)))
	at, row := drawnCell(layout[:len(table)], l)
	if row < 0 || value < 0 || value >= values {
		return impl.Patch{}, false
	}
	extra := drawnExtra(layout, row)
	after := make([]int64, len(list))
	after[at] = value
	for disk := range after {
		if d := int64(disk); d != at && d != extra {
			v, ok := answerAt(table[row], d)
			if !ok {
				return impl.Patch{}, false
			}
			after[disk] = v
		}
	}
	after[extra] = parityByCounting(after)
	p := impl.Patch{Row: row}
	for disk, v := range after {
		if d := int64(disk); (d == at || d == extra) && !list[disk].Dead {
			p.Disks, p.Values = append(p.Disks, d), append(p.Values, v)
		}
	}
	if len(p.Disks) == 0 {
		return impl.Patch{}, false
	}
	return p, true
}

func mustPatchFor(t *testing.T, list []impl.Disk, l, value int64, want impl.Patch, is bool) {
	t.Helper()
	if got, ok := impl.PatchFor(list, l, value); ok != is || !samePatch(got, want) {
		t.Fatalf("PatchFor(%v, %d, %d) = %v, %v, want %v, %v", list, l, value, got, ok, want, is)
	}
}

func mustHaveNoPatch(t *testing.T, list []impl.Disk, l, value int64) {
	t.Helper()
	mustPatchFor(t, list, l, value, impl.Patch{}, false)
}

// patchedByHand puts the cells of a patch into a copy of the disks.
func patchedByHand(list []impl.Disk, p impl.Patch) []impl.Disk {
	list = copyDisks(list)
	for i, disk := range p.Disks {
		if disk < int64(len(list)) && p.Row < int64(len(list[disk].Now)) {
			list[disk].Now[p.Row] = impl.Cell{Value: p.Values[i], Sum: formula(disk, p.Row, p.Values[i])}
		}
	}
	return list
}

func mustBecome(t *testing.T, list []impl.Disk, p impl.Patch, want []impl.Disk) []impl.Disk {
	t.Helper()
	got := impl.Patched(list, p)
	if !slices.EqualFunc(got, want, sameDisk) {
		t.Fatalf("Patched(%v, %v) = %v, want %v", list, p, got, want)
	}
	return got
}

func mustNotPatch(t *testing.T, list []impl.Disk, p impl.Patch) {
	t.Helper()
	if got := impl.Patched(list, p); len(got) != 0 {
		t.Fatalf("Patched(%v, %v) = %v, want nil", list, p, got)
	}
}

// logicals asks CellAt for every logical place of every row.
func logicals(list []impl.Disk) ([]int64, []bool) {
	var told []int64
	var is []bool
	n := int64(len(list))
	for l := range impl.RoomOf(n, impl.RowsOf(list)) {
		v, ok := impl.CellAt(list, impl.DiskOf(n, l), impl.RowOf(n, l))
		told, is = append(told, v), append(is, ok)
	}
	return told, is
}

// mustChangeOne asks for P7: one place has the new value, and all others answer
// what they did before.
func mustChangeOne(t *testing.T, before, after []impl.Disk, l, value int64) {
	t.Helper()
	want, is := logicals(before)
	want[l], is[l] = value, true
	if got, ok := logicals(after); !slices.Equal(got, want) || !slices.Equal(ok, is) {
		t.Fatalf("place %d of %v became %d:\n got %v %v\nwant %v %v", l, before, value, got, ok, want, is)
	}
}

// checkPatch asks for what PatchFor answers, for the disks that it leads to and,
// where the row has at most one element of BadIn, for P7.
func checkPatch(t *testing.T, list []impl.Disk, table [][]int64, l, value int64) {
	t.Helper()
	p, ok := wantPatch(list, table, l, value)
	mustPatchFor(t, list, l, value, p, ok)
	if !ok {
		return
	}
	if !impl.PatchOk(p) {
		t.Fatalf("PatchFor(%v, %d, %d) = %v is not valid", list, l, value, p)
	}
	after := mustBecome(t, list, p, patchedByHand(list, p))
	left := copyTable(table)
	for i, disk := range p.Disks {
		left[p.Row][disk] = p.Values[i]
	}
	checkArray(t, after, left)
	if len(lostIn(table[p.Row])) <= 1 {
		mustChangeOne(t, list, after, l, value)
	}
	if len(lostIn(left[p.Row])) == 0 {
		mustBeWhole(t, after, p.Row, true)
	}
}

// newValues gives, for a place, values to write there: the smallest and the
// largest, the one that may be there already, and another one.
func newValues(table [][]int64, l int64) []int64 {
	n := int64(len(table[0]))
	at, row := drawnCell(drawn(n), l)
	return []int64{0, values - 1, max(0, table[row][at]), (l*777 + 12345) % values}
}

func checkPatches(t *testing.T, list []impl.Disk, table [][]int64) {
	t.Helper()
	for l := range int64(len(table) * (len(list) - 1)) {
		for _, value := range newValues(table, l) {
			checkPatch(t, list, table, l, value)
		}
	}
}

// P7 with no disk lost.
func TestPatchChangesOne(t *testing.T) {
	for n := 3; n <= 5; n++ {
		for _, table := range wholeTables(n) {
			list := arrayOf(t, table)
			checkPatches(t, list, table)
			for l := range int64(len(table) * (n - 1)) {
				if p, ok := impl.PatchFor(list, l, 5); !ok || len(p.Disks) != 2 {
					t.Fatalf("PatchFor(%v, %d, 5) = %v, %v", list, l, p, ok)
				}
			}
		}
	}
}

// P7 with each disk dead in turn: the patch has the other one alone.
func TestPatchAfterADeath(t *testing.T) {
	for n := 3; n <= 5; n++ {
		for _, table := range wholeTables(n) {
			for gone := range int64(n) {
				list := withDead(arrayOf(t, table), gone)
				checkPatches(t, list, loseDisk(table, gone))
				for l := range int64(len(table) * (n - 1)) {
					row := impl.RowOf(int64(n), l)
					disks := []int64{impl.DiskOf(int64(n), l), impl.ExtraOf(int64(n), row)}
					slices.Sort(disks)
					want := slices.DeleteFunc(disks, func(d int64) bool { return d == gone })
					if p, ok := impl.PatchFor(list, l, 5); !ok || !slices.Equal(p.Disks, want) {
						t.Fatalf("PatchFor(%v, %d, 5) = %v, %v, want disks %v", list, l, p, ok, want)
					}
				}
			}
		}
	}
}

// P7 with each cell damaged in turn: a damaged cell is written like others.
func TestPatchAfterADamage(t *testing.T) {
	for n := 3; n <= 5; n++ {
		for _, table := range [][][]int64{wholeTable(n, 1, 3), wholeTable(n, 2, 1), wholeTable(n, n+1, 6)} {
			list := arrayOf(t, table)
			for disk := range int64(n) {
				for row := range int64(len(table)) {
					for _, d := range damages() {
						checkPatches(t, damaged(list, disk, row, d), loseCell(table, disk, row))
					}
				}
			}
		}
	}
}

// P7 in all rows at once: each row loses another disk.
func TestPatchWhereEveryRowIsDamaged(t *testing.T) {
	for n := 3; n <= 5; n++ {
		for first := range int64(n) {
			table := wholeTable(n, places, first)
			list, left := arrayOf(t, table), table
			for row := range int64(places) {
				disk := (first + row) % int64(n)
				list, left = damaged(list, disk, row, damages()[row%5]), loseCell(left, disk, row)
			}
			checkPatches(t, list, left)
		}
	}
}

// P7 over every value, with each disk lost.
func TestPatchToEveryValue(t *testing.T) {
	table := [][]int64{{5, 3, 6}}
	well := arrayOf(t, table)
	lists := [][]impl.Disk{well, withDead(well, 0), withDead(well, 1), withDead(well, 2), damaged(well, 1, 0, damages()[0])}
	for _, list := range lists {
		for value := int64(0); value < values; value++ {
			p, ok := impl.PatchFor(list, 0, value)
			if !ok {
				t.Fatalf("PatchFor(%v, 0, %d) is false", list, value)
			}
			after := impl.Patched(list, p)
			mustHold(t, after, 0, 0, value, true)
			mustHold(t, after, 1, 0, 3, true)
		}
	}
}

func TestPatchAfterEveryCombinationOfLosses(t *testing.T) {
	afterEveryCombination(t, checkPatches)
}

// A row with the wrong parity gets the right one; the others stay as they were.
func TestPatchOfARowThatIsNotWhole(t *testing.T) {
	for n := 3; n <= 5; n++ {
		for changed := range int64(n) {
			table := wholeTable(n, 2, 6)
			table[1][changed] ^= 12345
			list := arrayOf(t, table)
			mustBeWhole(t, list, 1, false)
			checkPatches(t, list, table)
			for disk := range int64(n) {
				checkPatches(t, withDead(list, disk), loseDisk(table, disk))
				checkPatches(t, damaged(list, disk, 1, damages()[0]), loseCell(table, disk, 1))
			}
		}
	}
}

func TestPatchKnown(t *testing.T) {
	list := arrayOf(t, [][]int64{{0, 9, 9}, {7, 4, 3}})
	cases := []struct {
		dead     []int64
		l, value int64
		want     impl.Patch
		ok       bool
	}{
		{nil, 0, 5, twoPatch(0, 0, 5, 2, 12), true},
		{nil, 1, 5, twoPatch(0, 1, 5, 2, 5), true},
		{nil, 2, 32767, twoPatch(1, 1, 32760, 2, 32767), true},
		{nil, 3, 0, twoPatch(1, 0, 0, 1, 3), true},
		{[]int64{0}, 0, 5, onePatch(0, 2, 12), true},
		{[]int64{2}, 0, 5, onePatch(0, 0, 5), true},
		{[]int64{1}, 0, 5, twoPatch(0, 0, 5, 2, 12), true},
		{[]int64{0, 2}, 0, 5, impl.Patch{}, false},
		{[]int64{0, 1}, 0, 5, impl.Patch{}, false},
		{[]int64{1, 2}, 0, 5, impl.Patch{}, false},
		{[]int64{1, 2}, 3, 5, impl.Patch{}, false},
	}
	for _, c := range cases {
		other := list
		for _, disk := range c.dead {
			other = withDead(other, disk)
		}
		mustPatchFor(t, other, c.l, c.value, c.want, c.ok)
	}
}

// Both disks of a patch are dead: there is nothing to write to, though all other
// data cells can be read.
func TestBothDisksOfAPatchAreDead(t *testing.T) {
	for n := int64(3); n <= 5; n++ {
		list := arrayOf(t, wholeTable(int(n), places, 2))
		for l := range places * (n - 1) {
			row := impl.RowOf(n, l)
			gone := withDead(withDead(list, impl.DiskOf(n, l)), impl.ExtraOf(n, row))
			for _, value := range []int64{0, 5, values - 1} {
				mustHaveNoPatch(t, gone, l, value)
			}
			for other := range n {
				if at := impl.LogicalAt(n, other, row); at >= 0 && at != l {
					mustHaveNoPatch(t, gone, at, 5)
				}
			}
		}
	}
}

// Two cells of a row are lost, one of them another data cell: it cannot be told.
func TestAnotherDataCellIsLost(t *testing.T) {
	for n := int64(3); n <= 5; n++ {
		list := arrayOf(t, wholeTable(int(n), int(n)+1, 2))
		for l := range (n + 1) * (n - 1) {
			row, own := impl.RowOf(n, l), impl.DiskOf(n, l)
			for one := range n {
				for two := range n {
					if one == two || one == own || one == impl.ExtraOf(n, row) {
						continue
					}
					mustHaveNoPatch(t, withDead(withDead(list, one), two), l, 5)
					for i, d := range damages() {
						mustHaveNoPatch(t, damaged(withDead(list, one), two, row, d), l, 5)
						mustHaveNoPatch(t, damaged(withDead(list, two), one, row, d), l, 5)
						mustHaveNoPatch(t, damaged(damaged(list, one, row, d), two, row, damages()[(i+1)%5]), l, 5)
					}
				}
			}
		}
	}
}

// Both disks of a patch are lost but not both dead: what is written makes the
// place readable again.
func TestDamagedCellsOfAPatchAreWritten(t *testing.T) {
	for n := int64(3); n <= 5; n++ {
		table := wholeTable(int(n), int(n)+1, 4)
		list := arrayOf(t, table)
		for l := range (n + 1) * (n - 1) {
			row, own := impl.RowOf(n, l), impl.DiskOf(n, l)
			extra := impl.ExtraOf(n, row)
			for _, d := range damages() {
				lists := [][]impl.Disk{
					damaged(damaged(list, own, row, d), extra, row, d),
					damaged(withDead(list, own), extra, row, d),
					damaged(withDead(list, extra), own, row, d),
				}
				for _, other := range lists {
					p, ok := impl.PatchFor(other, l, 12345)
					if !ok {
						t.Fatalf("PatchFor(%v, %d, 12345) is false", other, l)
					}
					mustHold(t, impl.Patched(other, p), own, row, 12345, true)
				}
			}
		}
	}
}

// The room hangs on the rows that there are, up to the last place of them.
func TestPatchForPlacesAtTheEdges(t *testing.T) {
	for n := int64(3); n <= 5; n++ {
		for rows := int64(1); rows <= places; rows++ {
			table := wholeTable(int(n), int(rows), 1)
			list := arrayOf(t, table)
			room := rows * (n - 1)
			for _, other := range [][]impl.Disk{list, withDead(list, 0), damaged(list, 1, rows-1, damages()[0])} {
				for _, l := range []int64{0, 1, room - 1} {
					for _, value := range []int64{0, 32767} {
						if p, ok := impl.PatchFor(other, l, value); !ok || p.Row != impl.RowOf(n, l) {
							t.Fatalf("PatchFor(%v, %d, %d) = %v, %v", other, l, value, p, ok)
						}
					}
					for _, value := range append(noValues(), -1, 32768) {
						mustHaveNoPatch(t, other, l, value)
					}
				}
				for _, l := range append(noIndexes(int(room)), -1, room, room+1, math.MinInt64, math.MaxInt64) {
					for _, value := range []int64{-1, 0, 5, 32767, 32768} {
						mustHaveNoPatch(t, other, l, value)
					}
				}
			}
		}
	}
}

// notArrays gives lists that are no lists of array disks.
func notArrays(t *testing.T) [][]impl.Disk {
	lists := [][]impl.Disk{
		nil, {}, newArray(t, 1, 2), newArray(t, 2, 2), append(newArray(t, 5, 2), newDisk(t, 4, 2)), make([]impl.Disk, 3),
		{deadDisk(0), deadDisk(1), deadDisk(2)}, {newDisk(t, 0, 2), newDisk(t, 1, 3), newDisk(t, 2, 2)},
		{newDisk(t, 0, 2), newDisk(t, 2, 2), newDisk(t, 1, 2)}, {newDisk(t, 1, 2), newDisk(t, 2, 2), newDisk(t, 3, 2)},
	}
	for _, numbers := range numberLists() {
		list := newArray(t, len(numbers), 2)
		for i, number := range numbers {
			list[i].Number = number
		}
		lists = append(lists, list)
	}
	for index := range int64(4) {
		for _, d := range invalidAt(index) {
			list := newArray(t, 4, max(1, min(places, int64(len(d.Now)))))
			list[index] = d
			lists = append(lists, list)
		}
	}
	return lists
}

func TestPatchesOfWhatIsNoArray(t *testing.T) {
	for _, list := range notArrays(t) {
		if impl.DisksOk(list) {
			t.Fatalf("%v is a list of array disks", list)
		}
		for _, l := range []int64{math.MinInt64, -2, -1, 0, 1, 2, 3, 63, 64, math.MaxInt64} {
			for _, value := range []int64{-1, 0, 5, values - 1, values} {
				mustHaveNoPatch(t, list, l, value)
			}
		}
		mustNotPatch(t, list, onePatch(0, 0, 0))
		mustNotPatch(t, list, twoPatch(1, 1, 5, 4, 7))
		mustNotPatch(t, list, onePatch(15, 4, 5))
		mustNotPatch(t, list, impl.Patch{})
	}
}

func TestPatchesThatAreNotValidChangeNothing(t *testing.T) {
	for n := 3; n <= 5; n++ {
		list := arrayOf(t, wholeTable(n, 4, 2))
		for _, p := range wrongPatches() {
			mustNotPatch(t, list, p)
			mustNotPatch(t, withDead(list, 0), p)
		}
	}
}

// Patched takes any valid patch, whether it makes the parity right or not; the
// disks beside it and what is kept stay as they were.
func TestPatchedWithEveryPatch(t *testing.T) {
	for n := 3; n <= 5; n++ {
		for _, rows := range []int{1, 2, places} {
			var mixed []impl.Disk
			for number := range int64(n) {
				mixed = append(mixed, mixedDisk(number, rows))
			}
			whole := arrayOf(t, wholeTable(n, rows, 3))
			lists := [][]impl.Disk{mixed, whole, withDead(whole, 0), withDead(mixed, int64(n)-1), withDead(withDead(whole, 1), 2)}
			for _, list := range lists {
				for _, p := range validPatches() {
					after := mustBecome(t, list, p, patchedByHand(list, p))
					if !impl.DisksOk(after) || impl.RowsOf(after) != int64(rows) {
						t.Fatalf("Patched(%v, %v) = %v", list, p, after)
					}
				}
			}
		}
	}
}

func TestPatchedIgnores(t *testing.T) {
	list := arrayOf(t, [][]int64{{5, 3, 6}, {7, 7, 0}})
	gone := withDead(list, 1)
	same := func(list []impl.Disk, p impl.Patch) {
		t.Helper()
		mustBecome(t, list, p, list)
	}
	same(list, onePatch(2, 0, 9))
	same(list, onePatch(15, 2, 9))
	same(list, twoPatch(2, 0, 9, 1, 9))
	same(list, onePatch(0, 3, 9))
	same(list, onePatch(1, 4, 9))
	same(list, twoPatch(1, 3, 9, 4, 9))
	same(list, twoPatch(15, 3, 9, 4, 9))
	same(gone, onePatch(0, 1, 9))
	same(gone, twoPatch(1, 1, 9, 4, 9))
	same(gone, twoPatch(2, 0, 9, 1, 9))
	for _, p := range []impl.Patch{onePatch(1, 0, 9), twoPatch(1, 0, 9, 1, 8), twoPatch(1, 0, 9, 3, 8), twoPatch(1, 0, 9, 4, 8)} {
		after := impl.Patched(gone, p)
		mustRead(t, after[0], 1, 9)
		mustRead(t, after[0], 0, 5)
		mustRead(t, after[2], 1, 0)
		mustBe(t, "the dead disk", after[1], deadDisk(1))
	}
	after := impl.Patched(gone, twoPatch(0, 1, 9, 2, 8))
	mustRead(t, after[2], 0, 8)
	mustRead(t, after[0], 0, 5)
}

// What was patched is not kept before a flush: a crash takes it back.
func TestPatchedIsNotKept(t *testing.T) {
	for n := 3; n <= 5; n++ {
		list := arrayOf(t, wholeTable(n, 2, 1))
		p, _ := impl.PatchFor(list, 0, 12345)
		for i, d := range impl.Patched(list, p) {
			if !slices.Equal(d.Kept, list[i].Kept) {
				t.Errorf("Patched(%v, %v) kept %v", list, p, d.Kept)
			}
			mustBe(t, "a crash after Patched", impl.Fallen(d, 0), impl.Fallen(list[i], 0))
		}
	}
}

// P7 over long runs of patches, with damages and at last a death between, which
// are played on the disks and beside them on one list of numbers.
func TestPatchHistory(t *testing.T) {
	for n := int64(3); n <= 5; n++ {
		for _, rows := range []int64{1, 3, places} {
			patchHistory(t, n, rows)
		}
	}
}

func patchHistory(t *testing.T, n, rows int64) {
	list := newArray(t, int(n), rows)
	told := make([]int64, rows*(n-1))
	seed := uint64(n*places + rows)
	next := func(below int64) int64 {
		seed = seed*6364136223846793005 + 1442695040888963407
		return int64(seed>>33) % below
	}
	change := func(l, value int64) {
		p, ok := impl.PatchFor(list, l, value)
		if !ok {
			t.Fatalf("PatchFor(%v, %d, %d) is false", list, l, value)
		}
		list, told[l] = impl.Patched(list, p), value
		if got, ok := logicals(list); !slices.Equal(got, told) || slices.Contains(ok, false) {
			t.Fatalf("%v tells %v, %v, want %v", list, got, ok, told)
		}
	}
	for range 200 {
		disk, row := next(n), next(rows)
		if next(2) == 0 && len(impl.BadIn(list, row)) == 0 {
			list = damaged(list, disk, row, damages()[next(5)])
		}
		change(next(rows*(n-1)), next(values))
	}
	for l := range rows * (n - 1) {
		change(l, next(values))
	}
	for row := range rows {
		mustLack(t, list, row)
	}
	list = withDead(list, next(n))
	for range 200 {
		change(next(rows*(n-1)), next(values))
	}
}

func TestShowPatchKnown(t *testing.T) {
	cases := []struct {
		p    impl.Patch
		want string
	}{
		{onePatch(0, 0, 0), "0 0 0"},
		{onePatch(15, 4, 32767), "15 4 32767"},
		{onePatch(10, 3, 100), "10 3 100"},
		{twoPatch(0, 0, 5, 2, 12), "0 0 5 2 12"},
		{twoPatch(15, 3, 32767, 4, 0), "15 3 32767 4 0"},
		{twoPatch(9, 0, 0, 1, 0), "9 0 0 1 0"},
	}
	for _, c := range cases {
		if got := impl.ShowPatch(c.p); got != c.want {
			t.Errorf("ShowPatch(%v) = %q, want %q", c.p, got, c.want)
		}
		mustReadPatch(t, c.want, c.p, true)
	}
	for _, p := range wrongPatches() {
		if got := impl.ShowPatch(p); got != "" {
			t.Errorf("ShowPatch(%v) = %q", p, got)
		}
	}
}

func mustReadPatch(t *testing.T, s string, want impl.Patch, is bool) {
	t.Helper()
	if got, ok := impl.ReadPatch(s); ok != is || !samePatch(got, want) {
		t.Fatalf("ReadPatch(%q) = %v, %v, want %v, %v", s, got, ok, want, is)
	}
}

// What is shown is read back as the same patch, and no two are shown alike.
func TestShownPatchesAreReadBack(t *testing.T) {
	seen := map[string]impl.Patch{}
	for _, p := range validPatches() {
		s := impl.ShowPatch(p)
		if q, is := seen[s]; is && !samePatch(p, q) {
			t.Fatalf("%v and %v are both shown as %q", p, q, s)
		}
		seen[s] = p
		mustReadPatch(t, s, p, true)
		got, _ := impl.ReadPatch(s)
		if !impl.PatchOk(got) || impl.ShowPatch(got) != s {
			t.Fatalf("%q is shown as %q", s, impl.ShowPatch(got))
		}
	}
	for v := int64(0); v < values; v++ {
		s := "7 1 " + strconv.FormatInt(v, 10) + " 3 " + strconv.FormatInt(values-1-v, 10)
		p := twoPatch(7, 1, v, 3, values-1-v)
		if got := impl.ShowPatch(p); got != s {
			t.Fatalf("ShowPatch(%v) = %q", p, got)
		}
		mustReadPatch(t, s, p, true)
	}
}

func TestTextsThatAreNoPatch(t *testing.T) {
	texts := []string{
		"", " ", "  ", "   ", "0", "0 ", "0 0", "0 0 ", "0 0 0 1", "0 0 0 1 ", "0 0 0 1 2 ", "0 0 0 1 2 3", "0 0 0 1 2 2 3", "0 0 0 1 2 2 3 4 5",
		"+0 0 0", "0 +0 0", "0 0 +0", "0 0 +5", "-0 0 0", "0 -0 0", "0 0 -0", "-1 0 0", "0 -1 0", "0 0 -1", "0 0 5 +2 12", "0 0 5 2 +12", "0 0 5 2 -0",
		"00 0 0", "0 00 0", "0 0 00", "01 0 0", "0 01 0", "0 0 01", "0 0 5 02 12", "0 0 5 2 012", "0 0 00000000000000000000005",
		"0  0 0", "0 0  0", "0   0 0", "0 0 5  2 12", "0 0 5 2  12", " 0 0 0", "0 0 0 ", "  0 0 0", "0 0 0  ", " 0 0 0 ", " 0 0 5 2 12", "0 0 5 2 12 ",
		"a 0 0", "0 a 0", "0 0 a", "0 0 5a", "0 0 a5", "0 0 5 2 x", "0 0 0x5", "0 0 0b1", "0 0 0o7", "0 0 1e3", "0 0 1_0", "0 0 1.0", "0 0 1,0", "0,0,0", "zero", "0 0 5 two 12",
		"16 0 0", "0 5 0", "0 0 32768", "0 0 5 5 12", "0 0 5 2 32768", "0 0 99999", "0 0 999999999", "0 0 1000000000", "0 0 4294967296", "0 0 4294967301",
		"0 0 9223372036854775807", "0 0 9223372036854775808", "0 0 -9223372036854775808", "0 0 18446744073709551616", "0 0 18446744073709551621",
		"9223372036854775807 0 0", "-9223372036854775808 0 0", "18446744073709551616 0 0", "4294967296 0 0", "0 4294967296 0", "0 18446744073709551617 0",
		"0 0 99999999999999999999999999999999999999999999", "0 0 5 18446744073709551618 12", "0 0 5 2 18446744073709551628",
		"0 2 5 0 12", "0 1 5 1 12", "0 1 5 1 5", "0 4 0 3 0",
		"0 0 0\n", "\n0 0 0", "0\n0\n0", "0\t0\t0", "0 0 0\t", "0 0 0\r", "0 0 0\x00", "0\x000\x000", "0 0 5 2 12\n", "0\u00a00\u00a00", "0 0 \u0665", "\u0660 0 0", "0 0 \xff", "0 0 \uff15",
		strings.Repeat("0 ", 1000), strings.Repeat(" ", 1000), strings.Repeat("9", 1000), "0 0 " + strings.Repeat("0", 1000), "0 0 0" + strings.Repeat(" 1 2", 1000),
	}
	for _, s := range texts {
		mustReadPatch(t, s, impl.Patch{}, false)
	}
}

var shownPatch = regexp.MustCompile(`\A(0|[1-9][0-9]{0,8}) (0|[1-9][0-9]{0,8}) (0|[1-9][0-9]{0,8})( (0|[1-9][0-9]{0,8}) (0|[1-9][0-9]{0,8}))?\z`)

// readByPattern reads a text by what its form must be, word by word.
func readByPattern(s string) (impl.Patch, bool) {
	if !shownPatch.MatchString(s) {
		return impl.Patch{}, false
	}
	var p impl.Patch
	for i, word := range strings.Fields(s) {
		number, _ := strconv.ParseInt(word, 10, 64)
		limit := int64(places)
		switch {
		case i == 0:
			p.Row = number
		case i%2 == 1:
			p.Disks, limit = append(p.Disks, number), disks
		default:
			p.Values, limit = append(p.Values, number), values
		}
		if number >= limit {
			return impl.Patch{}, false
		}
	}
	if len(p.Disks) == 2 && p.Disks[0] >= p.Disks[1] {
		return impl.Patch{}, false
	}
	return p, true
}

// edits gives the texts that differ from s by one byte that is added, taken out
// or replaced.
func edits(s string) []string {
	texts := []string{s}
	for at := 0; at <= len(s); at++ {
		for _, b := range "0123456789 +-_.xae\n\t\x00\u00ff" {
			texts = append(texts, s[:at]+string(b)+s[at:])
			if at < len(s) {
				texts = append(texts, s[:at]+string(b)+s[at+1:])
			}
		}
		if at < len(s) {
			texts = append(texts, s[:at]+s[at+1:], s[:at], s[at:])
		}
	}
	return texts
}

// All texts that are near to ones that are shown, once and twice edited.
func TestTextsNearToPatches(t *testing.T) {
	read, not := 0, 0
	check := func(s string) {
		t.Helper()
		want, is := readByPattern(s)
		mustReadPatch(t, s, want, is)
		if is {
			read++
		} else {
			not++
		}
	}
	for _, s := range []string{"0 0 0", "15 4 32767", "9 3 10", "0 0 5 2 12", "15 3 32767 4 32767", "1 0 0 1 0"} {
		for _, one := range edits(s) {
			check(one)
		}
	}
	for _, one := range edits("1 2 30") {
		for _, two := range edits(one) {
			check(two)
		}
	}
	if read < 100 || not < 100 {
		t.Errorf("%d texts are patches and %d are not", read, not)
	}
}

// All short texts of a few bytes that numbers are made of.
func TestEveryShortText(t *testing.T) {
	texts := []string{""}
	for range 6 {
		var longer []string
		for _, s := range texts {
			for _, b := range []string{"0", "1", "5", " ", "-", "+"} {
				longer = append(longer, s+b)
			}
		}
		for _, s := range longer {
			want, is := readByPattern(s)
			mustReadPatch(t, s, want, is)
		}
		texts = longer
	}
}

// P21: the smallest and the largest numbers at every place of a patch and in
// every position of a call.
func TestPatchesAtTheEndsOfNumbers(t *testing.T) {
	ends := []int64{math.MinInt64, math.MinInt64 + 1, -1, 0, 1, math.MaxInt64 - 1, math.MaxInt64}
	inside := func(numbers ...int64) bool {
		return !slices.ContainsFunc(numbers, func(n int64) bool { return n != 0 && n != 1 })
	}
	table := wholeTable(4, 2, 3)
	list := arrayOf(t, table)
	check := func(p impl.Patch, valid bool) {
		t.Helper()
		if impl.PatchOk(p) != valid || (impl.ShowPatch(p) != "") != valid {
			t.Fatalf("PatchOk(%v) is not %v, or it is shown as %q", p, valid, impl.ShowPatch(p))
		}
		if valid {
			mustBecome(t, list, p, patchedByHand(list, p))
		} else {
			mustNotPatch(t, list, p)
		}
	}
	for _, a := range ends {
		for _, b := range ends {
			checkPatch(t, list, table, a, b)
			for _, c := range ends {
				check(onePatch(a, b, c), inside(a, b, c))
				for _, d := range ends {
					check(twoPatch(a, b, c, d, c), inside(a, b, c, d) && b < d)
					check(twoPatch(0, a, b, c, d), inside(a, b, c, d) && a < c)
				}
			}
		}
	}
}

// roomyPatch gives the patch with lists that have unused capacity, in which
// numbers lie that would continue them.
func roomyPatch(p impl.Patch) impl.Patch {
	return impl.Patch{Row: p.Row, Disks: roomyList(p.Disks), Values: roomyList(p.Values)}
}

func fullPatch(p impl.Patch) impl.Patch {
	return copyPatch(impl.Patch{Row: p.Row, Disks: p.Disks[:cap(p.Disks)], Values: p.Values[:cap(p.Values)]})
}

func scribbleNumbers(list []int64) {
	for i := range list[:cap(list)] {
		list[:cap(list)][i] = -77
	}
}

func scribblePatch(p impl.Patch) {
	scribbleNumbers(p.Disks)
	scribbleNumbers(p.Values)
}

func scribbleDisks(list []impl.Disk) {
	list = list[:cap(list)]
	for i := range list {
		scribble(list[i].Kept)
		scribble(list[i].Now)
		list[i] = impl.Disk{Number: -77}
	}
}

func memoryPatches() []impl.Patch {
	both := []int64{1, 2}
	four := []int64{0, 2, 5, 7}
	list := []impl.Patch{onePatch(0, 0, 5), onePatch(1, 4, 5), onePatch(15, 1, 5), twoPatch(0, 0, 5, 2, 7), twoPatch(1, 1, 5, 4, 7), twoPatch(9, 3, 5, 4, 7)}
	list = append(list, wrongPatches()...)
	return append(list, impl.Patch{Row: 1, Disks: both, Values: both}, impl.Patch{Row: 1, Disks: four[:2], Values: four[2:]})
}

// P21: no call changes the list, its disks, their cells or the patch, the unused
// capacity included; and nothing hangs on what lies in it.
func TestPatchesLeaveTheirArgumentsAlone(t *testing.T) {
	for _, list := range memoryLists(t) {
		room, tight := roomyDisks(list), slices.Clip(copyDisks(list))
		before := memoryOf(room)
		unchanged := func(what string, same bool) {
			t.Helper()
			if !memoryOf(room).same(before) {
				t.Fatalf("%s changed %v", what, list)
			}
			if !same {
				t.Fatalf("%s of %v hangs on what lies behind an end", what, list)
			}
		}
		for _, l := range []int64{math.MinInt64, -1, 0, 1, 3, 7, 8, math.MaxInt64} {
			for _, value := range []int64{-1, 0, 5, values - 1, values} {
				got, ok := impl.PatchFor(room, l, value)
				want, is := impl.PatchFor(tight, l, value)
				unchanged("PatchFor", samePatch(got, want) && ok == is)
			}
		}
		for _, p := range memoryPatches() {
			roomP := roomyPatch(p)
			full := fullPatch(roomP)
			got, want := impl.Patched(room, roomP), impl.Patched(tight, copyPatch(p))
			unchanged("Patched", slices.EqualFunc(got, want, sameDisk))
			unchanged("PatchOk", impl.PatchOk(roomP) == impl.PatchOk(copyPatch(p)))
			unchanged("ShowPatch", impl.ShowPatch(roomP) == impl.ShowPatch(copyPatch(p)))
			if !samePatch(fullPatch(roomP), full) {
				t.Fatalf("a call changed %v to %v", full, fullPatch(roomP))
			}
		}
	}
}

// sharingDisks gives array disks whose lists are one memory, or lie one after
// the other in it.
func sharingDisks(t *testing.T) [][]impl.Disk {
	same := newArray(t, 4, 2)
	for i := range same {
		same[i].Kept = same[i].Now
	}
	d := newDisk(t, 0, 2)
	one := []impl.Disk{d, d, d}
	one[1].Number, one[2].Number = 1, 2
	var cells []impl.Cell
	for _, d := range newArray(t, 3, 2) {
		cells = append(cells, slices.Concat(d.Kept, d.Now)...)
	}
	row := newArray(t, 3, 2)
	for i := range row {
		row[i].Kept, row[i].Now = cells[4*i:4*i+2], cells[4*i+2:4*i+4]
	}
	return [][]impl.Disk{same, one, row}
}

// P21: whoever writes all over one list of a result of Patched, its unused
// capacity included, changes no other list of it and not the arguments; whoever
// writes all over the arguments does not change the result.
func TestPatchedIsNewMemory(t *testing.T) {
	for _, list := range append(memoryLists(t), sharingDisks(t)...) {
		for _, p := range memoryPatches() {
			p, list := roomyPatch(p), slices.Clip(slices.Clone(list))
			before, full := memoryOf(list), fullPatch(p)
			want := copyDisks(impl.Patched(list, p))
			one, two := impl.Patched(list, p), impl.Patched(list, p)
			for i := range one {
				for _, which := range []func(d *impl.Disk) *[]impl.Cell{
					func(d *impl.Disk) *[]impl.Cell { return &d.Kept }, func(d *impl.Disk) *[]impl.Cell { return &d.Now },
				} {
					got, hit := impl.Patched(list, p), copyDisks(want)
					scribble(*which(&got[i]))
					*which(&hit[i]) = *which(&got[i])
					if !slices.EqualFunc(got, hit, sameDisk) {
						t.Fatalf("lists of Patched(%v, %v) share memory", list, p)
					}
				}
			}
			scribbleDisks(one)
			if !memoryOf(list).same(before) || !samePatch(fullPatch(p), full) || !slices.EqualFunc(two, want, sameDisk) {
				t.Fatalf("Patched(%v, %v) shares memory", before.disks, full)
			}
			scribblePatch(p)
			if !slices.EqualFunc(two, want, sameDisk) {
				t.Fatalf("Patched shares memory with %v", full)
			}
		}
	}
}

// The result stays as it is when the disks that were handed in are written over.
func TestPatchedKeepsNothingOfItsList(t *testing.T) {
	for n := 3; n <= 5; n++ {
		for _, p := range memoryPatches() {
			list := roomyDisks(withDead(arrayOf(t, wholeTable(n, 2, 3)), 1))
			got := impl.Patched(list, p)
			want := copyDisks(got)
			scribbleDisks(list)
			if !slices.EqualFunc(got, want, sameDisk) {
				t.Fatalf("Patched with %v keeps memory of its list", p)
			}
		}
	}
}

// P21: the lists of a patch that is answered are apart from each other, from
// those of other answers and from the disks.
func TestPatchesAreNewMemory(t *testing.T) {
	list := arrayOf(t, wholeTable(4, 2, 3))
	calls := map[string]func() (impl.Patch, bool){
		"PatchFor with two":  func() (impl.Patch, bool) { return impl.PatchFor(list, 1, 5) },
		"PatchFor with one":  func() (impl.Patch, bool) { return impl.PatchFor(withDead(list, 1), 1, 5) },
		"ReadPatch with two": func() (impl.Patch, bool) { return impl.ReadPatch("3 1 5 4 7") },
		"ReadPatch with one": func() (impl.Patch, bool) { return impl.ReadPatch("3 1 5") },
	}
	before := memoryOf(list)
	for what, call := range calls {
		one, ok := call()
		two, _ := call()
		want := copyPatch(two)
		if !ok {
			t.Fatalf("%s is false", what)
		}
		scribbleNumbers(one.Disks)
		if !slices.Equal(one.Values, want.Values) {
			t.Errorf("%s: Disks and Values share memory", what)
		}
		one, _ = call()
		scribbleNumbers(one.Values)
		if !slices.Equal(one.Disks, want.Disks) {
			t.Errorf("%s: Values and Disks share memory", what)
		}
		scribblePatch(one)
		three, _ := call()
		if !samePatch(two, want) || !samePatch(three, want) || !memoryOf(list).same(before) {
			t.Errorf("%s shares memory with another answer or its list", what)
		}
	}
}

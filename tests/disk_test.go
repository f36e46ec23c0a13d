package tests

import (
	"math"
	"slices"
	"testing"

	"loop.example/g00406/impl"
)

const sets = 1 << places

// cells gives n valid cells for a disk, different for each salt: Good ones
// with edge values and others, damaged ones, and ones of another place.
func cells(number int64, n int, salt int64) []impl.Cell {
	list := make([]impl.Cell, n)
	for i := range list {
		place := int64(i)
		value := []int64{values - 1, 0, 1, 791, 16384, 300*place + 7}[(place+salt)%6]
		c := impl.Cell{Value: value, Sum: formula(number, place, value)}
		switch (place + 2*salt) % 5 {
		case 3:
			c.Value = (c.Value + 1) % values
		case 4:
			c.Sum = formula(number, (place+1)%places, value)
		}
		list[i] = c
	}
	return list
}

func mixedDisk(number int64, n int) impl.Disk {
	return impl.Disk{Number: number, Kept: cells(number, n, 0), Now: cells(number, n, 1)}
}

func deadDisk(number int64) impl.Disk {
	return impl.Disk{Number: number, Dead: true}
}

// liveDisks gives disks of every number and size, with cells that differ
// between Kept and Now, and with the extreme cells that are valid.
func liveDisks() []impl.Disk {
	var list []impl.Disk
	for number := int64(0); number < disks; number++ {
		for n := 1; n <= places; n++ {
			list = append(list, mixedDisk(number, n))
		}
		for _, c := range []impl.Cell{{}, {Value: values - 1, Sum: modulus - 1}} {
			list = append(list, impl.Disk{Number: number, Kept: slices.Repeat([]impl.Cell{c}, places), Now: cells(number, places, 0)},
				impl.Disk{Number: number, Kept: cells(number, places, 0), Now: slices.Repeat([]impl.Cell{c}, places)})
		}
	}
	return list
}

// deadDisks gives the lists of a dead disk as nil and as empty ones.
func deadDisks() []impl.Disk {
	var list []impl.Disk
	for number := int64(0); number < disks; number++ {
		list = append(list, deadDisk(number),
			impl.Disk{Number: number, Dead: true, Kept: []impl.Cell{}},
			impl.Disk{Number: number, Dead: true, Kept: []impl.Cell{}, Now: make([]impl.Cell, 0, 3)})
	}
	return list
}

func validDisks() []impl.Disk {
	return append(liveDisks(), deadDisks()...)
}

func invalidDisks() []impl.Disk {
	return slices.Concat(wrongNumbers(), wrongLengths(), wrongCells(), deadWithCells())
}

func wrongNumbers() []impl.Disk {
	var list []impl.Disk
	for _, number := range outside(disks - 1) {
		list = append(list, impl.Disk{Number: number, Kept: cells(0, 2, 0), Now: cells(0, 2, 0)}, deadDisk(number))
	}
	return list
}

func wrongLengths() []impl.Disk {
	list := []impl.Disk{{}, {Number: 4}, {Kept: []impl.Cell{}, Now: []impl.Cell{}}}
	for _, n := range []struct{ kept, now int }{{0, 1}, {1, 0}, {1, 2}, {2, 1}, {15, 16}, {16, 15}, {16, 17}, {17, 16}, {17, 17}, {32, 32}, {1000, 1000}} {
		list = append(list, impl.Disk{Number: 1, Kept: make([]impl.Cell, n.kept), Now: make([]impl.Cell, n.now)})
	}
	return list
}

func wrongCells() []impl.Disk {
	var list []impl.Disk
	for _, c := range invalidCells() {
		for _, place := range []int{0, 7, places - 1} {
			kept, now := mixedDisk(3, places), mixedDisk(3, places)
			kept.Kept[place], now.Now[place] = c, c
			list = append(list, kept, now)
		}
		list = append(list, impl.Disk{Kept: []impl.Cell{c}, Now: []impl.Cell{c}})
	}
	return list
}

func deadWithCells() []impl.Disk {
	var list []impl.Disk
	for _, n := range []int{1, 2, 16, 17} {
		d := mixedDisk(2, n)
		list = append(list, impl.Disk{Number: 2, Dead: true, Kept: d.Kept, Now: d.Now},
			impl.Disk{Number: 2, Dead: true, Kept: d.Kept}, impl.Disk{Number: 2, Dead: true, Now: d.Now})
	}
	return list
}

// noPlaces gives places that a disk with n cells does not have.
func noPlaces(n int) []int64 {
	return append(outside(int64(n)-1), places, math.MinInt64+places)
}

func noSets() []int64 {
	return append(outside(sets-1), 2*sets, -sets, 1<<32, 1<<62)
}

// sameDisk takes nil and empty lists as equal.
func sameDisk(a, b impl.Disk) bool {
	return a.Number == b.Number && a.Dead == b.Dead && slices.Equal(a.Kept, b.Kept) && slices.Equal(a.Now, b.Now)
}

func mustBe(t *testing.T, what string, got, want impl.Disk) {
	t.Helper()
	if !sameDisk(got, want) {
		t.Fatalf("%s:\n got %v\nwant %v", what, got, want)
	}
}

func newDisk(t *testing.T, number, n int64) impl.Disk {
	t.Helper()
	d, ok := impl.NewDisk(number, n)
	if !ok {
		t.Fatalf("NewDisk(%d, %d) is false", number, n)
	}
	return d
}

func write(t *testing.T, d impl.Disk, place, value int64) impl.Disk {
	t.Helper()
	got, ok := impl.Written(d, place, value)
	if !ok {
		t.Fatalf("Written(%v, %d, %d) is false", d, place, value)
	}
	return got
}

func mustRead(t *testing.T, d impl.Disk, place, want int64) {
	t.Helper()
	if got, ok := impl.Read(d, place); !ok || got != want {
		t.Fatalf("Read(%v, %d) = %d, %v, want %d, true", d, place, got, ok, want)
	}
}

func mustNotRead(t *testing.T, d impl.Disk, place int64) {
	t.Helper()
	if got, ok := impl.Read(d, place); ok || got != 0 {
		t.Fatalf("Read(%v, %d) = %d, %v, want 0, false", d, place, got, ok)
	}
}

func TestDiskOk(t *testing.T) {
	for _, d := range validDisks() {
		if !impl.DiskOk(d) {
			t.Errorf("%v is valid", d)
		}
	}
	for _, d := range invalidDisks() {
		if impl.DiskOk(d) {
			t.Errorf("%v is not valid", d)
		}
	}
}

func TestNewDisk(t *testing.T) {
	for number := int64(0); number < disks; number++ {
		for n := int64(1); n <= places; n++ {
			d := newDisk(t, number, n)
			want := impl.Disk{Number: number}
			for place := int64(0); place < n; place++ {
				c := impl.Cell{Value: 0, Sum: formula(number, place, 0)}
				want.Kept, want.Now = append(want.Kept, c), append(want.Now, c)
				mustRead(t, d, place, 0)
			}
			mustBe(t, "NewDisk", d, want)
			if !impl.DiskOk(d) {
				t.Errorf("NewDisk(%d, %d) = %v is not valid", number, n, d)
			}
		}
	}
}

func TestNewDiskOutOfRange(t *testing.T) {
	check := func(number, n int64) {
		t.Helper()
		if d, ok := impl.NewDisk(number, n); ok || !sameDisk(d, impl.Disk{}) {
			t.Errorf("NewDisk(%d, %d) = %v, %v, want the zero Disk, false", number, n, d, ok)
		}
	}
	wrong := append(outside(places), 0)
	for _, number := range outside(disks - 1) {
		check(number, 1)
		check(number, places)
		for _, n := range wrong {
			check(number, n)
		}
	}
	for _, n := range wrong {
		check(0, n)
		check(disks-1, n)
	}
}

// What Kept holds, and what the cells at other places are, does not matter.
func TestReadEveryPlace(t *testing.T) {
	good, bad := 0, 0
	for _, d := range liveDisks() {
		for i, c := range d.Now {
			place := int64(i)
			if c.Sum == formula(d.Number, place, c.Value) {
				mustRead(t, d, place, c.Value)
				good++
			} else {
				mustNotRead(t, d, place)
				bad++
			}
		}
	}
	if good == 0 || bad == 0 {
		t.Errorf("%d Good cells and %d others are not both", good, bad)
	}
}

// A cell that is Good for another disk is not for this one.
func TestReadOfAnotherDisk(t *testing.T) {
	for number := int64(0); number < disks; number++ {
		for other := int64(0); other < disks; other++ {
			d := write(t, newDisk(t, number, places), places-1, values-1)
			d.Number = other
			for _, p := range []struct{ place, value int64 }{{0, 0}, {places - 1, values - 1}} {
				if number == other {
					mustRead(t, d, p.place, p.value)
				} else {
					mustNotRead(t, d, p.place)
				}
			}
		}
	}
}

func TestReadOfRotten(t *testing.T) {
	for _, place := range []int64{0, 8, places - 1} {
		for _, value := range []int64{0, 100, values - 1} {
			for _, by := range []int64{1, 16384, values - 1} {
				d := write(t, newDisk(t, 4, places), place, value)
				d.Now[place] = impl.Rotten(d.Now[place], by)
				mustNotRead(t, d, place)
				d.Now[place] = impl.Rotten(d.Now[place], values-by)
				mustRead(t, d, place, value)
			}
		}
	}
}

func TestReadWithoutSuchPlace(t *testing.T) {
	for _, d := range validDisks() {
		for _, place := range noPlaces(len(d.Now)) {
			mustNotRead(t, d, place)
		}
		if d.Dead {
			for place := int64(0); place < places; place++ {
				mustNotRead(t, d, place)
			}
		}
	}
}

// The other cells of the disk may be Good: if one of them is not valid, the
// disk is not, and nothing on it can be read.
func TestReadOfInvalid(t *testing.T) {
	for _, d := range invalidDisks() {
		for place := int64(-1); place <= places; place++ {
			mustNotRead(t, d, place)
		}
	}
}

func TestWrittenEverywhere(t *testing.T) {
	for _, d := range liveDisks() {
		for i := range d.Now {
			place := int64(i)
			for _, value := range []int64{0, 1, 791, 16384, values - 2, values - 1} {
				want := impl.Disk{Number: d.Number, Kept: d.Kept, Now: slices.Clone(d.Now)}
				want.Now[i] = impl.Cell{Value: value, Sum: formula(d.Number, place, value)}
				got := write(t, d, place, value)
				mustBe(t, "Written", got, want)
				if !impl.DiskOk(got) {
					t.Fatalf("Written(%v, %d, %d) = %v is not valid", d, place, value, got)
				}
			}
		}
	}
}

func TestWrittenRejected(t *testing.T) {
	check := func(d impl.Disk, place, value int64) {
		t.Helper()
		got, ok := impl.Written(d, place, value)
		if ok {
			t.Fatalf("Written(%v, %d, %d) is true", d, place, value)
		}
		mustBe(t, "Written unchanged", got, d)
	}
	for _, d := range validDisks() {
		last := int64(len(d.Now)) - 1
		for _, place := range noPlaces(len(d.Now)) {
			check(d, place, 0)
			check(d, place, values-1)
			check(d, place, values)
		}
		for _, value := range outside(values - 1) {
			check(d, 0, value)
			check(d, last, value)
			check(d, last+1, value)
		}
	}
	for _, d := range deadDisks() {
		for place := int64(0); place < places; place++ {
			check(d, place, 0)
		}
	}
}

func TestWrittenOfInvalid(t *testing.T) {
	for _, d := range invalidDisks() {
		for _, place := range []int64{-1, 0, 1, places - 1, places, math.MinInt64, math.MaxInt64} {
			for _, value := range []int64{-1, 0, values - 1, values} {
				if got, ok := impl.Written(d, place, value); ok || !sameDisk(got, impl.Disk{}) {
					t.Fatalf("Written(%v, %d, %d) = %v, %v, want the zero Disk, false", d, place, value, got, ok)
				}
			}
		}
	}
}

func TestFlushed(t *testing.T) {
	for _, d := range validDisks() {
		got := impl.Flushed(d)
		mustBe(t, "Flushed", got, impl.Disk{Number: d.Number, Dead: d.Dead, Kept: d.Now, Now: d.Now})
		mustBe(t, "Flushed twice", impl.Flushed(got), got)
		if !impl.DiskOk(got) {
			t.Errorf("Flushed(%v) = %v is not valid", d, got)
		}
	}
	for _, d := range invalidDisks() {
		mustBe(t, "Flushed of an invalid disk", impl.Flushed(d), impl.Disk{})
	}
}

// fallen tells by division what is left at each place, not by bits.
func fallen(d impl.Disk, set int64) impl.Disk {
	left := slices.Clone(d.Kept)
	rest := set
	for place := range left {
		if rest%2 == 1 {
			left[place] = d.Now[place]
		}
		rest /= 2
	}
	return impl.Disk{Number: d.Number, Dead: d.Dead, Kept: left, Now: left}
}

func TestFallenWithEverySet(t *testing.T) {
	for _, d := range []impl.Disk{mixedDisk(0, 1), mixedDisk(2, 5), mixedDisk(4, places), deadDisk(4)} {
		for set := int64(0); set < sets; set++ {
			mustBe(t, "Fallen", impl.Fallen(d, set), fallen(d, set))
		}
	}
}

func TestFallenOfEveryDisk(t *testing.T) {
	for _, d := range validDisks() {
		for _, set := range []int64{0, 1, 2, 3, 0x5555, 0xaaaa, 0x7fff, 0x8000, 0xfffe, 0xffff} {
			got := impl.Fallen(d, set)
			mustBe(t, "Fallen", got, fallen(d, set))
			if !impl.DiskOk(got) {
				t.Errorf("Fallen(%v, %d) = %v is not valid", d, set, got)
			}
		}
		mustBe(t, "Fallen with nothing", impl.Fallen(d, 0), impl.Disk{Number: d.Number, Dead: d.Dead, Kept: d.Kept, Now: d.Kept})
		mustBe(t, "Fallen with everything", impl.Fallen(d, sets-1), impl.Flushed(d))
	}
}

func TestFallenWithoutSuchSet(t *testing.T) {
	for _, set := range noSets() {
		for _, d := range validDisks() {
			mustBe(t, "Fallen unchanged", impl.Fallen(d, set), d)
		}
	}
}

func TestFallenOfInvalid(t *testing.T) {
	for _, d := range invalidDisks() {
		for _, set := range append(noSets(), 0, 1, 0x8000, sets-1) {
			mustBe(t, "Fallen of an invalid disk", impl.Fallen(d, set), impl.Disk{})
		}
	}
}

func TestDied(t *testing.T) {
	for _, d := range validDisks() {
		got := impl.Died(d)
		mustBe(t, "Died", got, deadDisk(d.Number))
		mustBe(t, "Died twice", impl.Died(got), got)
		if !impl.DiskOk(got) {
			t.Errorf("Died(%v) = %v is not valid", d, got)
		}
		for place := int64(0); place < places; place++ {
			mustNotRead(t, got, place)
		}
	}
	for _, d := range invalidDisks() {
		mustBe(t, "Died of an invalid disk", impl.Died(d), impl.Disk{})
	}
}

// P3, its first half, for every 31st value at every disk and place, and for
// every value on the smallest disk; TestWrittenEverywhere asks for the rest of
// the disk.
func TestWrittenIsRead(t *testing.T) {
	everySpot(func(disk, place int64) {
		d := newDisk(t, disk, places)
		for value := int64(0); value < values; value += 31 {
			mustRead(t, write(t, d, place, value), place, value)
		}
		mustRead(t, write(t, d, place, values-1), place, values-1)
	})
	d := newDisk(t, 4, 1)
	for value := int64(0); value < values; value++ {
		mustRead(t, write(t, d, 0, value), 0, value)
	}
}

// P3, its second half: whatever set a crash has, what was flushed is read
// after it, and what was not is read as the set says.
func TestFlushedSurvives(t *testing.T) {
	for _, n := range []int64{1, 2, places} {
		d := newDisk(t, 4, n)
		for place := int64(0); place < n; place++ {
			d = write(t, d, place, values-1-place)
		}
		safe := impl.Flushed(d)
		later := write(t, safe, n-1, 5)
		for set := int64(0); set < sets; set++ {
			crashed := impl.Fallen(safe, set)
			for place := int64(0); place < n; place++ {
				mustRead(t, crashed, place, values-1-place)
			}
			want := values - n
			if set>>(n-1)&1 == 1 {
				want = 5
			}
			mustRead(t, impl.Fallen(later, set), n-1, want)
		}
	}
}

// A cell that is not Good can be written, and is read from then on; without a
// flush a crash takes it back to what was kept.
func TestWrittenOverBad(t *testing.T) {
	for _, d := range liveDisks() {
		for i := range d.Now {
			place := int64(i)
			next := write(t, d, place, 123)
			mustRead(t, next, place, 123)
			mustRead(t, impl.Fallen(impl.Flushed(next), 0), place, 123)
			if back := impl.Fallen(next, 0); back.Now[i] != d.Kept[i] {
				t.Fatalf("Fallen(%v, 0) has %v at %d", next, back.Now[i], place)
			}
		}
	}
}

// P3 over long runs of writes, flushes and crashes, which are played on a disk
// and beside it on two lists of numbers.
func TestHistory(t *testing.T) {
	for number := int64(0); number < disks; number++ {
		for _, n := range []int64{1, 7, places} {
			history(t, number, n)
		}
	}
}

func history(t *testing.T, number, n int64) {
	d := newDisk(t, number, n)
	kept, now := make([]int64, n), make([]int64, n)
	seed := uint64(number*places + n)
	next := func(below int64) int64 {
		seed = seed*6364136223846793005 + 1442695040888963407
		return int64(seed>>33) % below
	}
	for range 500 {
		switch next(6) {
		case 0:
			d, kept = impl.Flushed(d), slices.Clone(now)
		case 1:
			set := next(sets)
			d = impl.Fallen(d, set)
			for place := range kept {
				if set>>place&1 == 1 {
					kept[place] = now[place]
				}
			}
			now = slices.Clone(kept)
		default:
			place, value := next(n), next(values)
			d = write(t, d, place, value)
			now[place] = value
		}
		for place := range now {
			mustRead(t, d, int64(place), now[place])
			if d.Kept[place].Value != kept[place] {
				t.Fatalf("%v has not kept %d at %d", d, kept[place], place)
			}
		}
	}
}

// roomy gives the disk with lists that have unused capacity, filled with cells
// that no function puts anywhere.
func roomy(d impl.Disk) impl.Disk {
	d.Kept, d.Now = roomyCells(d.Kept), roomyCells(d.Now)
	return d
}

func roomyCells(list []impl.Cell) []impl.Cell {
	room := append(make([]impl.Cell, 0, len(list)+20), list...)
	scribble(room[len(room):cap(room)])
	return room
}

func scribble(list []impl.Cell) {
	list = list[:cap(list)]
	for i := range list {
		list[i] = impl.Cell{Value: -77, Sum: -int64(i)}
	}
}

// all copies a list with its unused capacity.
func all(list []impl.Cell) []impl.Cell {
	return slices.Clone(list[:cap(list)])
}

// diskCalls are the functions that return a disk, each with arguments that
// change something and with ones that it rejects.
func diskCalls() []func(impl.Disk) impl.Disk {
	written := func(place, value int64) func(impl.Disk) impl.Disk {
		return func(d impl.Disk) impl.Disk {
			got, _ := impl.Written(d, place, value)
			return got
		}
	}
	fall := func(set int64) func(impl.Disk) impl.Disk {
		return func(d impl.Disk) impl.Disk { return impl.Fallen(d, set) }
	}
	return []func(impl.Disk) impl.Disk{
		written(0, 5), written(1, 5), written(places-1, values-1), written(places, 5), written(-1, 5), written(0, values),
		impl.Flushed, impl.Died, fall(0), fall(0x5555), fall(sets - 1), fall(sets), fall(-1),
	}
}

// memoryDisks gives disks of all kinds, also ones whose Kept and Now are the
// same memory, or lie one after the other in it; no two of the disks share any.
func memoryDisks() []impl.Disk {
	var list []impl.Disk
	for _, n := range []int{1, 2, 15, places} {
		d, one := mixedDisk(1, n), cells(1, n, 2)
		keptFirst, nowFirst := slices.Concat(d.Kept, d.Now), slices.Concat(d.Now, d.Kept)
		list = append(list, d, roomy(d), impl.Disk{Number: 1, Kept: one, Now: one},
			impl.Disk{Number: 1, Kept: keptFirst[:n], Now: keptFirst[n:]},
			impl.Disk{Number: 1, Kept: nowFirst[n:], Now: nowFirst[:n]})
	}
	list = append(list, deadDisk(4), roomy(deadDisk(4)))
	for _, d := range invalidDisks() {
		list = append(list, roomy(d))
	}
	return list
}

// P21: no function changes its argument, the unused capacity included.
func TestDisksAreNotChanged(t *testing.T) {
	for _, d := range memoryDisks() {
		kept, now := all(d.Kept), all(d.Now)
		unchanged := func(call int) {
			t.Helper()
			if !slices.Equal(all(d.Kept), kept) || !slices.Equal(all(d.Now), now) {
				t.Fatalf("call %d changed %v", call, d)
			}
		}
		for call, f := range diskCalls() {
			f(d)
			unchanged(call)
		}
		impl.DiskOk(d)
		for place := int64(-1); place <= places; place++ {
			impl.Read(d, place)
		}
		unchanged(-1)
	}
}

// P21: whoever writes all over one list of a result, its unused capacity
// included, changes neither the argument nor the other list; and whoever
// writes all over the argument does not change the result.
func TestDisksAreNewMemory(t *testing.T) {
	for call, f := range diskCalls() {
		for _, d := range memoryDisks() {
			kept, now := all(d.Kept), all(d.Now)
			got := f(d)
			want := impl.Disk{Number: got.Number, Dead: got.Dead, Kept: slices.Clone(got.Kept), Now: all(got.Now)}
			scribble(got.Kept)
			if !slices.Equal(all(got.Now), want.Now) {
				t.Fatalf("call %d: Kept and Now of %v share memory", call, got)
			}
			scribble(got.Now)
			if !slices.Equal(all(d.Kept), kept) || !slices.Equal(all(d.Now), now) {
				t.Fatalf("call %d shares memory with %v", call, d)
			}
			got = f(d)
			want.Now = slices.Clone(got.Now)
			scribble(d.Kept)
			scribble(d.Now)
			mustBe(t, "a result after its argument was written over", got, want)
		}
	}
}

func TestNewDisksAreNewMemory(t *testing.T) {
	for n := int64(1); n <= places; n++ {
		one, two := newDisk(t, 3, n), newDisk(t, 3, n)
		want := slices.Clone(one.Now)
		scribble(one.Kept)
		if !slices.Equal(one.Now, want) {
			t.Fatalf("Kept and Now of %v share memory", one)
		}
		scribble(one.Now)
		mustBe(t, "the second NewDisk", two, impl.Disk{Number: 3, Kept: want, Now: want})
		mustBe(t, "the third NewDisk", newDisk(t, 3, n), two)
	}
}

// Two results of one disk do not share memory either.
func TestTwoResultsAreApart(t *testing.T) {
	for _, f := range diskCalls() {
		for _, d := range memoryDisks() {
			one, two := f(d), f(d)
			want := impl.Disk{Number: two.Number, Dead: two.Dead, Kept: slices.Clone(two.Kept), Now: slices.Clone(two.Now)}
			scribble(one.Kept)
			scribble(one.Now)
			mustBe(t, "a second result", two, want)
		}
	}
}

// Nothing hangs on a capacity, or on whether an empty list is nil.
func TestDisksWithCapacity(t *testing.T) {
	for call, f := range diskCalls() {
		for _, d := range slices.Concat(validDisks(), invalidDisks()) {
			room := roomy(d)
			if impl.DiskOk(d) != impl.DiskOk(room) {
				t.Fatalf("DiskOk(%v) hangs on the capacity", d)
			}
			if !sameDisk(f(d), f(room)) {
				t.Fatalf("call %d of %v hangs on the capacity", call, d)
			}
		}
	}
}

// P21: numbers at the ends of int64, in every position at once, have answers.
func TestDisksAtTheEndsOfNumbers(t *testing.T) {
	ends := []int64{math.MinInt64, math.MinInt64 + 1, -1, 0, 1, math.MaxInt64 - 1, math.MaxInt64}
	inside := func(n int64) bool { return n == 0 || n == 1 }
	for _, a := range ends {
		for _, b := range ends {
			if _, ok := impl.NewDisk(a, b); ok != (inside(a) && b == 1) {
				t.Errorf("NewDisk(%d, %d) is %v", a, b, ok)
			}
			d := newDisk(t, 2, 2)
			if _, ok := impl.Written(d, a, b); ok != (inside(a) && inside(b)) {
				t.Errorf("Written(%v, %d, %d) is %v", d, a, b, ok)
			}
			d.Number = a
			if impl.DiskOk(d) != inside(a) {
				t.Errorf("DiskOk(%v) is %v", d, !inside(a))
			}
			mustNotRead(t, d, b)
			if got := impl.Fallen(d, b); sameDisk(got, impl.Disk{}) == inside(a) {
				t.Errorf("Fallen(%v, %d) = %v", d, b, got)
			}
		}
	}
}

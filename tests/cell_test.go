package tests

import (
	"math"
	"testing"

	"loop.example/g00406/impl"
)

var zeroCell = impl.Cell{}

// validCells gives cells of which each part is at an edge or inside its range;
// most are damaged, which leaves a cell valid.
func validCells() []impl.Cell {
	var list []impl.Cell
	for _, value := range []int64{0, 1, 100, 16384, values - 2, values - 1} {
		for _, sum := range []int64{0, 1, 31, values - 1, values, modulus - 2, modulus - 1} {
			list = append(list, impl.Cell{Value: value, Sum: sum})
		}
	}
	return list
}

// invalidCells gives cells whose Value, whose Sum, or both are out of range.
func invalidCells() []impl.Cell {
	var list []impl.Cell
	for i, value := range outside(values - 1) {
		list = append(list, impl.Cell{Value: value}, impl.Cell{Value: value, Sum: modulus - 1},
			impl.Cell{Value: value, Sum: outside(modulus - 1)[i]})
	}
	for _, sum := range outside(modulus - 1) {
		list = append(list, impl.Cell{Sum: sum}, impl.Cell{Value: values - 1, Sum: sum})
	}
	return list
}

// idle gives numbers that are no damage: 0, and those outside 1 to 32767.
func idle() []int64 {
	return append(outside(values-1), 0, -values, 2*values, 2*values+1)
}

func everySpot(check func(disk, place int64)) {
	for disk := int64(0); disk < disks; disk++ {
		for place := int64(0); place < places; place++ {
			check(disk, place)
		}
	}
}

func TestCellOk(t *testing.T) {
	for _, c := range validCells() {
		if !impl.CellOk(c) {
			t.Errorf("%v is valid", c)
		}
	}
	for _, c := range invalidCells() {
		if impl.CellOk(c) {
			t.Errorf("%v is not valid", c)
		}
	}
	for sum := int64(0); sum < modulus; sum++ {
		if !impl.CellOk(impl.Cell{Value: values - 1, Sum: sum}) {
			t.Fatalf("the sum %d is in range", sum)
		}
	}
}

func TestCellOfKnown(t *testing.T) {
	cases := []struct {
		disk, place, value int64
		cell               impl.Cell
	}{
		{0, 0, 0, impl.Cell{Value: 0, Sum: 0}},
		{2, 3, 100, impl.Cell{Value: 100, Sum: 46100}},
		{4, 15, 0, impl.Cell{Value: 0, Sum: 29479}},
		{0, 0, 32767, impl.Cell{Value: 32767, Sum: 32962}},
		{4, 15, 32767, impl.Cell{Value: 32767, Sum: 62441}},
		{0, 6, 1920, impl.Cell{Value: 1920, Sum: 65520}},
		{2, 1, 791, impl.Cell{Value: 791, Sum: 0}},
	}
	for _, c := range cases {
		got := impl.CellOf(c.disk, c.place, c.value)
		if got != c.cell {
			t.Errorf("CellOf(%d, %d, %d) = %v, want %v", c.disk, c.place, c.value, got, c.cell)
		}
		if !impl.CellOk(got) || !impl.Good(got, c.disk, c.place) {
			t.Errorf("CellOf(%d, %d, %d) = %v is not valid or not Good", c.disk, c.place, c.value, got)
		}
	}
}

func TestCellOfEverywhere(t *testing.T) {
	everySpot(func(disk, place int64) {
		for value := int64(0); value < values; value++ {
			want := impl.Cell{Value: value, Sum: formula(disk, place, value)}
			if got := impl.CellOf(disk, place, value); got != want || !impl.Good(got, disk, place) {
				t.Fatalf("CellOf(%d, %d, %d) = %v, want %v, which is Good", disk, place, value, got, want)
			}
		}
	})
}

func TestCellOfOutOfRange(t *testing.T) {
	check := func(disk, place, value int64) {
		t.Helper()
		if got := impl.CellOf(disk, place, value); got != zeroCell {
			t.Errorf("CellOf(%d, %d, %d) = %v, want the zero Cell", disk, place, value, got)
		}
	}
	for _, disk := range outside(disks - 1) {
		check(disk, 0, 0)
		check(disk, places-1, values-1)
	}
	for _, place := range outside(places - 1) {
		check(0, place, 0)
		check(disks-1, place, values-1)
	}
	for _, value := range outside(values - 1) {
		check(0, 0, value)
		check(disks-1, places-1, value)
	}
}

// A cell is Good at its own disk and place and, as the sums of all 80 spots
// differ, at no other.
func TestGoodAtOneSpot(t *testing.T) {
	for _, value := range []int64{0, 1, 791, 16384, values - 1} {
		everySpot(func(disk, place int64) {
			c := impl.Cell{Value: value, Sum: formula(disk, place, value)}
			everySpot(func(d, p int64) {
				if impl.Good(c, d, p) != (d == disk && p == place) {
					t.Errorf("Good(%v, %d, %d), a cell of disk %d, place %d", c, d, p, disk, place)
				}
			})
		})
	}
}

func TestGoodWithOneSum(t *testing.T) {
	for _, at := range []struct{ disk, place, value int64 }{{0, 0, 0}, {4, 15, 32767}, {2, 1, 791}, {0, 6, 1920}} {
		own := formula(at.disk, at.place, at.value)
		for sum := int64(-2); sum < modulus+2; sum++ {
			c := impl.Cell{Value: at.value, Sum: sum}
			if impl.Good(c, at.disk, at.place) != (sum == own) {
				t.Fatalf("Good(%v, %d, %d), the sum is %d", c, at.disk, at.place, own)
			}
		}
	}
}

func TestGoodOutOfRange(t *testing.T) {
	for _, c := range invalidCells() {
		everySpot(func(disk, place int64) {
			if impl.Good(c, disk, place) {
				t.Errorf("Good(%v, %d, %d) of a cell that is not valid", c, disk, place)
			}
		})
	}
	check := func(disk, place int64) {
		t.Helper()
		natural := (formula(disk, place, 0) + modulus) % modulus
		for _, c := range append(validCells(), impl.Cell{Sum: natural}) {
			if impl.Good(c, disk, place) {
				t.Errorf("Good(%v, %d, %d) out of range", c, disk, place)
			}
		}
	}
	for i, disk := range outside(disks - 1) {
		check(disk, 0)
		check(disk, places-1)
		check(disk, outside(places - 1)[i])
	}
	for _, place := range outside(places - 1) {
		check(0, place)
		check(disks-1, place)
	}
}

// What the formula would give for a value out of range is no Good cell, though
// that sum is itself in range.
func TestGoodNeedsAValue(t *testing.T) {
	for _, value := range []int64{-1, -values, values, values + 1, modulus, modulus + 5} {
		everySpot(func(disk, place int64) {
			sum := (formula(disk, place, value) + modulus) % modulus
			if c := (impl.Cell{Value: value, Sum: sum}); impl.Good(c, disk, place) {
				t.Errorf("Good(%v, %d, %d) without a value", c, disk, place)
			}
		})
	}
}

func TestRottenKnown(t *testing.T) {
	cases := []struct{ value, by, want int64 }{
		{0, 1, 1},
		{0, 32767, 32767},
		{100, 32767, 99},
		{1, 32767, 0},
		{32767, 32767, 32766},
		// around the remainder by 32768: the last below it, at it, after it
		{32766, 1, 32767},
		{32767, 1, 0},
		{32767, 2, 1},
		{16384, 16383, 32767},
		{16384, 16384, 0},
		{16384, 16385, 1},
	}
	for _, c := range cases {
		for _, sum := range []int64{0, 46100, 65520} {
			got := impl.Rotten(impl.Cell{Value: c.value, Sum: sum}, c.by)
			if want := (impl.Cell{Value: c.want, Sum: sum}); got != want {
				t.Errorf("Rotten({%d %d}, %d) = %v, want %v", c.value, sum, c.by, got, want)
			}
		}
	}
}

// Every by on edge cells; what is damaged stays valid, and the by that
// completes 32768 takes the damage back.
func TestRottenByEverything(t *testing.T) {
	for _, c := range validCells() {
		for by := int64(1); by < values; by++ {
			got := impl.Rotten(c, by)
			want := impl.Cell{Value: (c.Value + by) % values, Sum: c.Sum}
			if got != want || !impl.CellOk(got) {
				t.Fatalf("Rotten(%v, %d) = %v, want %v, which is valid", c, by, got, want)
			}
			if back := impl.Rotten(got, values-by); back != c {
				t.Fatalf("Rotten(%v, %d) = %v, want %v", got, values-by, back, c)
			}
		}
	}
}

func TestRottenByNothing(t *testing.T) {
	for _, c := range append(validCells(), impl.CellOf(2, 3, 100), impl.CellOf(4, 15, 32767)) {
		for _, by := range idle() {
			if got := impl.Rotten(c, by); got != c {
				t.Errorf("Rotten(%v, %d) = %v, want it unchanged", c, by, got)
			}
		}
	}
}

func TestRottenOfInvalid(t *testing.T) {
	for _, c := range invalidCells() {
		for _, by := range append(idle(), 1, 2, 16384, values-2, values-1) {
			if got := impl.Rotten(c, by); got != zeroCell {
				t.Errorf("Rotten(%v, %d) = %v, want the zero Cell", c, by, got)
			}
		}
	}
}

// P2, over every value of every disk and place, with some damages.
func TestGoodMadeRottenIsNotGood(t *testing.T) {
	everySpot(func(disk, place int64) {
		for value := int64(0); value < values; value++ {
			for _, by := range []int64{1, 2, 2114, 16384, values - 2, values - 1} {
				checkRots(t, disk, place, value, by)
			}
		}
	})
}

// P2, with every damage, for edge values at every disk and place.
func TestGoodMadeRottenByEverythingIsNotGood(t *testing.T) {
	everySpot(func(disk, place int64) {
		for _, value := range []int64{0, 1, 16384, values - 1} {
			for by := int64(1); by < values; by++ {
				checkRots(t, disk, place, value, by)
			}
		}
	})
}

func checkRots(t *testing.T, disk, place, value, by int64) {
	c := impl.CellOf(disk, place, value)
	if !impl.Good(c, disk, place) {
		t.Fatalf("CellOf(%d, %d, %d) = %v is not Good", disk, place, value, c)
	}
	if r := impl.Rotten(c, by); impl.Good(r, disk, place) {
		t.Fatalf("Rotten(%v, %d) = %v is Good at disk %d, place %d", c, by, r, disk, place)
	}
}

// P21 for the cells: numbers at the ends of int64, in every position at once,
// have answers, too, and the argument is as it was.
func TestCellsAtTheEndsOfNumbers(t *testing.T) {
	ends := []int64{math.MinInt64, math.MinInt64 + 1, -1, 0, 1, math.MaxInt64 - 1, math.MaxInt64}
	for _, a := range ends {
		for _, b := range ends {
			c := impl.Cell{Value: a, Sum: b}
			valid := a >= 0 && a <= 1 && b >= 0 && b <= 1
			if impl.CellOk(c) != valid {
				t.Errorf("CellOk(%v) is not %v", c, valid)
			}
			for _, n := range ends {
				checkEnds(t, c, valid, n)
			}
			if c != (impl.Cell{Value: a, Sum: b}) {
				t.Errorf("{%d %d} became %v", a, b, c)
			}
		}
	}
}

func checkEnds(t *testing.T, c impl.Cell, valid bool, n int64) {
	t.Helper()
	want := zeroCell
	if valid {
		want = c
		if n == 1 {
			want.Value++
		}
	}
	if got := impl.Rotten(c, n); got != want {
		t.Errorf("Rotten(%v, %d) = %v, want %v", c, n, got, want)
	}
	if impl.Good(c, n, 0) != (c == zeroCell && n == 0) {
		t.Errorf("Good(%v, %d, 0)", c, n)
	}
	if impl.Good(c, 0, n) != (c == zeroCell && n == 0) {
		t.Errorf("Good(%v, 0, %d)", c, n)
	}
	if got := impl.CellOf(n, c.Value, c.Sum); got != zeroCell && !impl.Good(got, n, c.Value) {
		t.Errorf("CellOf(%d, %d, %d) = %v", n, c.Value, c.Sum, got)
	}
}

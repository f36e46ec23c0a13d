package tests

import (
	"math"
	"testing"

	"loop.example/g00406/impl"
)

const (
	disks   = 5
	places  = 16
	values  = 32768
	modulus = 65521
)

// outside gives, for a range from 0 to last, numbers that are not in it: the
// nearest ones, and ones with which the formula would overflow.
func outside(last int64) []int64 {
	return []int64{-1, -2, -modulus, math.MinInt64, math.MinInt64 + 1,
		last + 1, last + 2, last + modulus, math.MaxInt64 / 31, math.MaxInt64}
}

func formula(disk, place, value int64) int64 {
	return (31*value + 1000*place + 20000*disk) % modulus
}

func TestValueOk(t *testing.T) {
	if impl.MaxValue != 32767 {
		t.Errorf("MaxValue is %d", impl.MaxValue)
	}
	for v := int64(0); v < values; v++ {
		if !impl.ValueOk(v) {
			t.Errorf("%d is a value", v)
		}
	}
	for _, v := range outside(values - 1) {
		if impl.ValueOk(v) {
			t.Errorf("%d is not a value", v)
		}
	}
}

func TestSumOfKnown(t *testing.T) {
	cases := []struct{ disk, place, value, sum int64 }{
		{0, 0, 0, 0},
		{0, 0, 1, 31},
		{0, 1, 0, 1000},
		{1, 0, 0, 20000},
		{2, 3, 100, 46100},
		{4, 15, 0, 29479},
		{0, 0, 32767, 32962},
		{4, 15, 32767, 62441},
		// around the modulus: the last sum below it, the first at it and after it
		{0, 0, 2113, 65503},
		{0, 0, 2114, 13},
		{0, 6, 1920, 65520},
		{2, 1, 791, 0},
		{2, 1, 792, 31},
	}
	for _, c := range cases {
		if got := impl.SumOf(c.disk, c.place, c.value); got != c.sum {
			t.Errorf("SumOf(%d, %d, %d) = %d, want %d", c.disk, c.place, c.value, got, c.sum)
		}
		if !impl.Fits(c.disk, c.place, c.value, c.sum) {
			t.Errorf("Fits(%d, %d, %d, %d) is false", c.disk, c.place, c.value, c.sum)
		}
	}
}

// P1, over every value of every place.
func TestDifferentValuesHaveDifferentSums(t *testing.T) {
	for disk := int64(0); disk < disks; disk++ {
		for place := int64(0); place < places; place++ {
			checkSumsAt(t, disk, place)
		}
	}
}

func checkSumsAt(t *testing.T, disk, place int64) {
	t.Helper()
	var seen [modulus]bool
	for value := int64(0); value < values; value++ {
		sum := impl.SumOf(disk, place, value)
		if sum < 0 || sum >= modulus {
			t.Fatalf("SumOf(%d, %d, %d) = %d is out of range", disk, place, value, sum)
		}
		if seen[sum] {
			t.Fatalf("SumOf(%d, %d, %d) = %d is the sum of a smaller value, too", disk, place, value, sum)
		}
		seen[sum] = true
		if want := formula(disk, place, value); sum != want {
			t.Fatalf("SumOf(%d, %d, %d) = %d, want %d", disk, place, value, sum, want)
		}
	}
}

func TestSumOfOutOfRange(t *testing.T) {
	check := func(disk, place, value int64) {
		t.Helper()
		if got := impl.SumOf(disk, place, value); got != -1 {
			t.Errorf("SumOf(%d, %d, %d) = %d, want -1", disk, place, value, got)
		}
	}
	for _, disk := range outside(disks - 1) {
		check(disk, 0, 0)
		check(disk, places-1, values-1)
	}
	for _, place := range outside(places - 1) {
		check(0, place, 0)
		check(disks-1, place, values-1)
	}
	for _, value := range outside(values - 1) {
		check(0, 0, value)
		check(disks-1, places-1, value)
	}
	for i, disk := range outside(disks - 1) {
		check(disk, outside(places - 1)[i], outside(values - 1)[i])
	}
}

func TestFitsOnlyItsOwnSum(t *testing.T) {
	for disk := int64(0); disk < disks; disk++ {
		for place := int64(0); place < places; place++ {
			for _, value := range []int64{0, 1, 791, 2113, 2114, 16384, values - 2, values - 1} {
				checkFits(t, disk, place, value)
			}
		}
	}
}

func checkFits(t *testing.T, disk, place, value int64) {
	t.Helper()
	own := formula(disk, place, value)
	if !impl.Fits(disk, place, value, own) {
		t.Errorf("Fits(%d, %d, %d, %d) is false", disk, place, value, own)
	}
	wrong := []int64{own - 1, own + 1, own + 2, own - modulus, own + modulus, -own - 1,
		-1, modulus, math.MinInt64, math.MaxInt64}
	for _, sum := range wrong {
		if impl.Fits(disk, place, value, sum) {
			t.Errorf("Fits(%d, %d, %d, %d) is true", disk, place, value, sum)
		}
	}
}

// P1 as Fits tells it: the sum of one value fits no other value at that place.
func TestSumFitsOneValue(t *testing.T) {
	spots := []struct{ disk, place int64 }{{0, 0}, {0, 15}, {4, 0}, {4, 15}, {2, 7}}
	for _, s := range spots {
		for _, value := range []int64{0, 1, 791, 16384, 32767} {
			sum := impl.SumOf(s.disk, s.place, value)
			for other := int64(0); other < values; other++ {
				if impl.Fits(s.disk, s.place, other, sum) != (other == value) {
					t.Fatalf("Fits(%d, %d, %d, %d), the sum of %d", s.disk, s.place, other, sum, value)
				}
			}
		}
	}
}

// Out of range nothing fits: not -1, which SumOf returns there, and not what
// the formula would give.
func TestFitsOutOfRange(t *testing.T) {
	check := func(disk, place, value int64) {
		t.Helper()
		natural := formula(disk, place, value)
		for _, sum := range []int64{-1, 0, natural, (natural + modulus) % modulus} {
			if impl.Fits(disk, place, value, sum) {
				t.Errorf("Fits(%d, %d, %d, %d) is true", disk, place, value, sum)
			}
		}
	}
	for _, disk := range outside(disks - 1) {
		check(disk, 0, 0)
		check(disk, places-1, values-1)
	}
	for _, place := range outside(places - 1) {
		check(0, place, 0)
		check(disks-1, place, values-1)
	}
	for _, value := range outside(values - 1) {
		check(0, 0, value)
		check(disks-1, places-1, value)
	}
}

package tests

import (
	"math"
	"slices"
	"testing"

	"loop.example/g00406/impl"
)

// parityByCounting is the parity without an exclusive or: a bit is set if an
// odd number of the elements has it.
func parityByCounting(list []int64) int64 {
	var parity int64
	for bit := int64(1); bit < values; bit *= 2 {
		count := 0
		for _, v := range list {
			if v/bit%2 == 1 {
				count++
			}
		}
		if count%2 == 1 {
			parity += bit
		}
	}
	return parity
}

// spread gives n values over the whole range, different for each salt.
func spread(n int, salt int64) []int64 {
	list := make([]int64, n)
	for i := range list {
		list[i] = (int64(i+1)*10007 + salt*7919) % values
	}
	return list
}

// evenLists gives lists whose Xor is 0.
func evenLists() [][]int64 {
	return [][]int64{nil, {}, make([]int64, 0, 4), {0}, {0, 0}, {0, 0, 0}, {5, 5}, {5, 3, 6}, {32767, 32767},
		{32767, 0, 32767}, {16384, 16383, 32767}, {1, 2, 4, 8, 15}, {7, 7, 7, 7}, {21845, 10922, 32767, 0}}
}

// oddLists gives lists whose Xor is not 0.
func oddLists() [][]int64 {
	return [][]int64{{1}, {32767}, {16384}, {5, 3}, {0, 1}, {1, 0}, {0, 32767}, {32767, 0}, {5, 3, 7}, {5, 5, 5},
		{32767, 32767, 32767}, {32767, 32766}, {1, 2, 4, 8, 16}, {16384, 0, 0, 0}, {0, 0, 0, 16384}, {21845, 10922}}
}

func valueLists() [][]int64 {
	lists := append(evenLists(), oddLists()...)
	for n := 1; n <= 20; n++ {
		for salt := int64(0); salt < 5; salt++ {
			lists = append(lists, spread(n, salt))
		}
	}
	return append(lists, spread(1000, 3))
}

func noValues() []int64 {
	return append(outside(values-1), 2*values, 2*values-1, -values, -values+1, 1<<32, 1<<62, math.MinInt64+5)
}

// wrongLists gives lists with an element that is no value: alone, at the first,
// a middle and the last index, and more than one of them, also so that an
// exclusive or of all of them would be a value.
func wrongLists() [][]int64 {
	var lists [][]int64
	for _, bad := range noValues() {
		lists = append(lists, []int64{bad}, []int64{bad, bad}, []int64{bad, 5, bad}, []int64{0, bad, bad}, []int64{bad, bad ^ 7})
		for _, n := range []int{2, 3, 5, 16, 17} {
			for _, at := range []int{0, n / 2, n - 1} {
				list := spread(n, 1)
				list[at] = bad
				lists = append(lists, list)
			}
		}
	}
	return lists
}

// everywhere gives, for a list, each index that it has.
func everywhere(list []int64) []int64 {
	var indexes []int64
	for i := range list {
		indexes = append(indexes, int64(i))
	}
	return indexes
}

func noIndexes(n int) []int64 {
	return append(outside(int64(n)-1), int64(-n), int64(-n)-1, int64(2*n), 1<<32, 1<<32+int64(n)-1, math.MinInt64+int64(n)-1)
}

func with(list []int64, at, value int64) []int64 {
	list = slices.Clone(list)
	list[at] = value
	return list
}

func TestXorKnown(t *testing.T) {
	cases := []struct {
		list []int64
		want int64
	}{
		{nil, 0},
		{[]int64{}, 0},
		{[]int64{0}, 0},
		{[]int64{1}, 1},
		{[]int64{32767}, 32767},
		{[]int64{5, 3}, 6},
		{[]int64{5, 3, 6}, 0},
		{[]int64{3, 5, 9}, 15},
		{[]int64{0, 32767}, 32767},
		{[]int64{32767, 32767}, 0},
		{[]int64{32767, 32767, 32767}, 32767},
		{[]int64{16384, 16383}, 32767},
		{[]int64{32767, 1}, 32766},
		{[]int64{100, 200, 300, 400}, 16},
	}
	for _, c := range cases {
		if got := impl.Xor(c.list); got != c.want {
			t.Errorf("Xor(%v) = %d, want %d", c.list, got, c.want)
		}
	}
}

func TestXorOfOneValueIsTheValue(t *testing.T) {
	for v := int64(0); v < values; v++ {
		if got := impl.Xor([]int64{v}); got != v {
			t.Fatalf("Xor([%d]) = %d", v, got)
		}
		if got := impl.Xor([]int64{v, v}); got != 0 {
			t.Fatalf("Xor([%d %d]) = %d", v, v, got)
		}
		if got := impl.Xor([]int64{v, values - 1}); got != values-1-v {
			t.Fatalf("Xor([%d %d]) = %d, want %d", v, values-1, got, values-1-v)
		}
	}
}

func TestXorCountsBits(t *testing.T) {
	for _, list := range valueLists() {
		if got, want := impl.Xor(list), parityByCounting(list); got != want {
			t.Errorf("Xor(%v) = %d, want %d", list, got, want)
		}
	}
}

func TestXorOfWhatIsNoValue(t *testing.T) {
	for _, list := range wrongLists() {
		if got := impl.Xor(list); got != -1 {
			t.Errorf("Xor(%v) = %d, want -1", list, got)
		}
	}
}

func TestOdd(t *testing.T) {
	for _, list := range evenLists() {
		if impl.Odd(list) {
			t.Errorf("Odd(%v) is true", list)
		}
	}
	for _, list := range oddLists() {
		if !impl.Odd(list) {
			t.Errorf("Odd(%v) is false", list)
		}
	}
	for _, list := range valueLists() {
		if got, want := impl.Odd(list), parityByCounting(list) != 0; got != want {
			t.Errorf("Odd(%v) is %v", list, got)
		}
	}
	for v := int64(0); v < values; v++ {
		if got, want := impl.Odd([]int64{v, 791}), v != 791; got != want {
			t.Fatalf("Odd([%d 791]) is %v", v, got)
		}
	}
}

func TestOddOfWhatIsNoValue(t *testing.T) {
	for _, list := range wrongLists() {
		if impl.Odd(list) {
			t.Errorf("Odd(%v) is true", list)
		}
	}
}

func TestMissingKnown(t *testing.T) {
	cases := []struct {
		list    []int64
		at, sum int64
		want    int64
	}{
		{[]int64{5, 0, 6}, 1, 0, 3},
		{[]int64{5, 32767, 6}, 1, 0, 3},
		{[]int64{5, 3, 6}, 0, 0, 5},
		{[]int64{5, 3, 6}, 2, 0, 6},
		{[]int64{5, 3}, 0, 9, 10},
		{[]int64{5, 3}, 1, 9, 12},
		{[]int64{0}, 0, 0, 0},
		{[]int64{0}, 0, 32767, 32767},
		{[]int64{32767}, 0, 0, 0},
		{[]int64{32767}, 0, 32767, 32767},
		{[]int64{1}, 0, 2, 2},
		{[]int64{32767, 0}, 1, 0, 32767},
		{[]int64{32767, 0}, 0, 0, 0},
		{[]int64{32767, 32767}, 0, 32767, 0},
		{[]int64{0, 16384, 0}, 2, 1, 16385},
	}
	for _, c := range cases {
		if got := impl.Missing(c.list, c.at, c.sum); got != c.want {
			t.Errorf("Missing(%v, %d, %d) = %d, want %d", c.list, c.at, c.sum, got, c.want)
		}
	}
}

// P4: Missing, put in the element's place, makes Xor the sum.
func TestMissingMakesTheParityRight(t *testing.T) {
	for _, list := range valueLists() {
		for _, at := range everywhere(list) {
			for _, sum := range []int64{0, 1, 791, 16384, values - 2, values - 1, impl.Xor(list)} {
				checkMissing(t, list, at, sum)
			}
		}
	}
}

func checkMissing(t *testing.T, list []int64, at, sum int64) {
	t.Helper()
	got := impl.Missing(list, at, sum)
	if !impl.ValueOk(got) {
		t.Fatalf("Missing(%v, %d, %d) = %d is not a value", list, at, sum, got)
	}
	right := with(list, at, got)
	if parityByCounting(right) != sum || impl.Xor(right) != sum {
		t.Fatalf("Missing(%v, %d, %d) = %d makes Xor %d", list, at, sum, got, impl.Xor(right))
	}
	if impl.Odd(right) != (sum != 0) {
		t.Fatalf("Missing(%v, %d, %d) = %d makes Odd %v", list, at, sum, got, impl.Odd(right))
	}
}

// P4: no other value than Missing makes Xor the sum.
func TestNoOtherValueMakesTheParityRight(t *testing.T) {
	for _, list := range [][]int64{{0}, {32767}, {5, 3}, {5, 3, 6}, {32767, 0, 32767}, spread(4, 2), spread(16, 1)} {
		for _, at := range everywhere(list) {
			for _, sum := range []int64{0, 9, values - 1} {
				checkOnlyMissing(t, list, at, sum)
			}
		}
	}
}

func checkOnlyMissing(t *testing.T, list []int64, at, sum int64) {
	t.Helper()
	missing := impl.Missing(list, at, sum)
	trial := slices.Clone(list)
	found := 0
	for v := int64(0); v < values; v++ {
		trial[at] = v
		if impl.Xor(trial) != sum {
			continue
		}
		found++
		if v != missing {
			t.Fatalf("%d makes Xor of %v at %d %d, Missing is %d", v, list, at, sum, missing)
		}
	}
	if found != 1 {
		t.Fatalf("%d values make Xor of %v at %d %d", found, list, at, sum)
	}
}

// P4 over every value: a lost element is found again from the others and the
// parity, whatever stands in its place meanwhile.
func TestMissingFindsWhatWasLost(t *testing.T) {
	for v := int64(0); v < values; v++ {
		list := []int64{791, v, 32767, 16384}
		sum := parityByCounting(list)
		for _, rest := range []int64{0, v, values - 1, (v + 1) % values} {
			if got := impl.Missing(with(list, 1, rest), 1, sum); got != v {
				t.Fatalf("Missing(%v, 1, %d) = %d, want %d", with(list, 1, rest), sum, got, v)
			}
		}
	}
}

// The element at the index does not matter, as long as it is a value.
func TestMissingIsTheSameForEveryElement(t *testing.T) {
	for _, n := range []int{1, 2, 5} {
		for _, at := range everywhere(make([]int64, n)) {
			list := spread(n, 4)
			want := impl.Missing(list, at, 12345)
			for v := int64(0); v < values; v++ {
				list[at] = v
				if got := impl.Missing(list, at, 12345); got != want {
					t.Fatalf("Missing(%v, %d, 12345) = %d, want %d", list, at, got, want)
				}
			}
		}
	}
}

func TestMissingWithoutSuchAnIndex(t *testing.T) {
	for _, list := range append(valueLists(), wrongLists()...) {
		for _, at := range noIndexes(len(list)) {
			if at >= 0 && at < int64(len(list)) {
				t.Fatalf("%d is an index of %v", at, list)
			}
			for _, sum := range []int64{0, 1, values - 1, -1, values} {
				if got := impl.Missing(list, at, sum); got != -1 {
					t.Fatalf("Missing(%v, %d, %d) = %d, want -1", list, at, sum, got)
				}
			}
		}
	}
}

// An element that is no value is rejected at every index: beside the one that
// is asked about, and at that one itself.
func TestMissingOfWhatIsNoValue(t *testing.T) {
	for _, list := range wrongLists() {
		for _, at := range everywhere(list) {
			for _, sum := range append(noValues(), 0, 1, 791, values-1) {
				if got := impl.Missing(list, at, sum); got != -1 {
					t.Fatalf("Missing(%v, %d, %d) = %d, want -1", list, at, sum, got)
				}
			}
		}
	}
}

func TestMissingForASumThatIsNoValue(t *testing.T) {
	for _, list := range valueLists() {
		for _, at := range everywhere(list) {
			for _, sum := range noValues() {
				if got := impl.Missing(list, at, sum); got != -1 {
					t.Fatalf("Missing(%v, %d, %d) = %d, want -1", list, at, sum, got)
				}
			}
		}
	}
}

// roomyList puts numbers behind the end of a list that would change its parity
// and its validity if they were taken for elements.
func roomyList(list []int64) []int64 {
	room := append(make([]int64, 0, len(list)+20), list...)
	for i := range room[len(room):cap(room)] {
		room[len(room):cap(room)][i] = -77 - int64(i)
	}
	return room
}

// P21: the list is as before, what lies behind its end included, and what lies
// there is not looked at.
func TestParityLeavesItsListAlone(t *testing.T) {
	for _, list := range append(valueLists(), wrongLists()...) {
		room := roomyList(list)
		before := slices.Clone(room[:cap(room)])
		check := func(what string, same bool) {
			t.Helper()
			if !slices.Equal(room[:cap(room)], before) {
				t.Fatalf("%s changed %v to %v", what, before, room[:cap(room)])
			}
			if !same {
				t.Fatalf("%s of %v hangs on what lies behind its end", what, list)
			}
		}
		check("Xor", impl.Xor(room) == impl.Xor(slices.Clip(list)))
		check("Odd", impl.Odd(room) == impl.Odd(slices.Clip(list)))
		for _, at := range append(noIndexes(len(list)), 0, int64(len(list)/2), int64(len(list))-1) {
			for _, sum := range []int64{0, 791, values - 1, -1, values, math.MinInt64, math.MaxInt64} {
				check("Missing", impl.Missing(room, at, sum) == impl.Missing(slices.Clip(list), at, sum))
			}
		}
	}
}

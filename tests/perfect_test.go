package tests

import (
	"math"
	"slices"
	"testing"

	"loop.example/g00406/impl"
)

// mostPlaces is the room of the greatest array.
const mostPlaces = 64

func perfectByHand(p []int64) bool {
	return len(p) >= 1 && len(p) <= mostPlaces && !slices.ContainsFunc(p, func(v int64) bool { return v < 0 || v >= values })
}

func mustBePerfect(t *testing.T, p []int64, want bool) {
	t.Helper()
	if impl.PerfectOk(p) != want {
		t.Fatalf("PerfectOk(%v) is not %v", p, want)
	}
}

func mustPut(t *testing.T, p []int64, l, value int64) []int64 {
	t.Helper()
	got, ok := impl.Put(p, l, value)
	if !ok || !slices.Equal(got, with(p, l, value)) {
		t.Fatalf("Put(%v, %d, %d) is %v, %v", p, l, value, got, ok)
	}
	mustBePerfect(t, got, true)
	return got
}

// mustNotPut asks for the list as it is, or for none where it is no perfect disk.
func mustNotPut(t *testing.T, p []int64, l, value int64) {
	t.Helper()
	var want []int64
	if perfectByHand(p) {
		want = p
	}
	if got, ok := impl.Put(p, l, value); ok || !slices.Equal(got, want) {
		t.Fatalf("Put(%v, %d, %d) is %v, %v, want %v, false", p, l, value, got, ok, want)
	}
}

func mustShow(t *testing.T, a impl.Array, want []int64) {
	t.Helper()
	if got, ok := impl.Shown(a); !ok || !slices.Equal(got, want) {
		t.Fatalf("Shown(%v) is %v, %v, want %v, true", a, got, ok, want)
	}
}

func mustNotShow(t *testing.T, a impl.Array) {
	t.Helper()
	if got, ok := impl.Shown(a); ok || len(got) != 0 {
		t.Fatalf("Shown(%v) is %v, %v, want none, false", a, got, ok)
	}
}

func mustAgree(t *testing.T, a impl.Array, p []int64, want bool) {
	t.Helper()
	if impl.Agree(a, p) != want {
		t.Fatalf("Agree(%v, %v) is not %v", a, p, want)
	}
}

// mustNotBeWrong asks for P12 of an array beside a perfect disk, place by place
// and by what Agree and Shown answer for all of them.
func mustNotBeWrong(t *testing.T, a impl.Array, p []int64) {
	t.Helper()
	mustBeValid(t, a, true)
	told, is := readAll(a)
	for l, ok := range is {
		if ok && told[l] != p[l] {
			t.Fatalf("%v tells %v %v, want %d at %d", a, told, is, p[l], l)
		}
	}
	mustAgree(t, a, p, true)
	if slices.Contains(is, false) {
		mustNotShow(t, a)
	} else {
		mustShow(t, a, p)
	}
}

// mustTellApart asks that another value at a place does not agree, unless that
// place cannot be told.
func mustTellApart(t *testing.T, a impl.Array, p []int64, l int64) {
	t.Helper()
	_, is := impl.ReadArray(a, l)
	mustAgree(t, a, with(p, l, (p[l]+1)%values), !is)
}

// damageDone is a damage that can be taken back.
type damageDone struct{ disk, place, by int64 }

// game plays acts on an array and beside it the writes that are carried out on a
// perfect disk. It asks for P12 after each act.
type game struct {
	t       *testing.T
	a       impl.Array
	perfect []int64
	l       int64
	value   int64
	done    []damageDone
	seen    map[string]int
	next    func(below int64) int64
}

func newGame(t *testing.T, a impl.Array, seed uint64) *game {
	t.Helper()
	p, ok := impl.Shown(a)
	if !ok {
		t.Fatalf("Shown(%v) is false", a)
	}
	return &game{t: t, a: a, perfect: p, seen: map[string]int{}, next: func(below int64) int64 {
		seed = seed*6364136223846793005 + 1442695040888963407
		return int64(seed>>33) % below
	}}
}

func (g *game) disks() int64 { return int64(len(g.a.Disks)) }

func (g *game) rows() int64 { return int64(len(g.perfect)) / (g.disks() - 1) }

// move goes on with what an act answered.
func (g *game) move(a impl.Array) {
	g.t.Helper()
	_, before := readAll(g.a)
	_, after := readAll(a)
	wasUp := g.a.Up
	g.a = a
	mustNotBeWrong(g.t, a, g.perfect)
	mustTellApart(g.t, a, g.perfect, g.next(int64(len(g.perfect))))
	worst := impl.WorstOf(a)
	anyDead := slices.ContainsFunc(a.Disks, func(d impl.Disk) bool { return d.Dead })
	g.see("not Up", !a.Up)
	g.see("a disk is dead", a.Up && anyDead)
	g.see("two lost in a row, other places told", a.Up && worst == 2 && slices.Contains(after, true))
	g.see("three and more lost in a row", a.Up && worst >= 3)
	g.see("all told with nothing lost", a.Up && worst == 0)
	g.see("all told with one lost in a row", worst == 1 && !slices.Contains(after, false))
	g.see("a place told again", wasUp && toldAgain(before, after))
}

func toldAgain(before, after []bool) bool {
	for l := range before {
		if after[l] && !before[l] {
			return true
		}
	}
	return false
}

func (g *game) see(what string, is bool) {
	if is {
		g.seen[what]++
	}
}

// carryOut puts the write that is under way on the perfect disk.
func (g *game) carryOut() {
	g.t.Helper()
	g.perfect = mustPut(g.t, g.perfect, g.l, g.value)
}

func (g *game) begin(l, value int64) {
	g.t.Helper()
	a, ok := impl.Begun(g.a, l, value)
	if ok {
		g.l, g.value = l, value
	}
	g.see("a write that is not possible", !ok && g.a.Up && g.a.Stage == impl.StIdle)
	g.move(a)
}

func (g *game) step() {
	g.t.Helper()
	a, ok := impl.Stepped(g.a)
	if ok && a.Stage == impl.StWritten {
		g.carryOut()
	}
	g.move(a)
}

func (g *game) write(l, value int64) {
	g.t.Helper()
	a, ok := impl.WriteArray(g.a, l, value)
	if ok {
		g.l, g.value = l, value
		g.carryOut()
	}
	g.move(a)
}

// fall carries a write out that is in the log and not yet on the disks: the
// restart will do so.
func (g *game) fall(given []int64, keep int64) {
	g.t.Helper()
	noted := g.a.Stage == impl.StNoted && keep >= int64(len(g.a.Next))
	g.see("a crash at a Stage: "+[]string{"idle", "noted", "kept", "written", "flushed"}[g.a.Stage], g.a.Up)
	g.see("a crash with the whole entry in the log", noted)
	a, ok := impl.FallsDown(g.a, given, keep)
	if ok && (noted || g.a.Stage == impl.StKept) {
		g.carryOut()
	}
	g.move(a)
}

func (g *game) rise() {
	g.t.Helper()
	a, _ := impl.Assembled(g.a)
	g.move(a)
}

func (g *game) rot(disk, place, by int64) {
	g.t.Helper()
	a, ok := impl.Rots(g.a, disk, place, by)
	if ok {
		g.done = append(g.done, damageDone{disk, place, by})
	}
	g.move(a)
}

// rotBack damages a cell once more, so that it is Good again if nothing was
// written to it since.
func (g *game) rotBack() {
	g.t.Helper()
	if len(g.done) > 0 {
		d := g.done[g.next(int64(len(g.done)))]
		g.rot(d.disk, d.place, values-d.by)
	}
}

func (g *game) die(disk int64) {
	g.t.Helper()
	a, _ := impl.Dies(g.a, disk)
	g.move(a)
}

func (g *game) replace(disk int64) {
	g.t.Helper()
	a, _ := impl.Replaced(g.a, disk)
	g.move(a)
}

func (g *game) heal(row int64) {
	g.t.Helper()
	a, _ := impl.Healed(g.a, row)
	g.move(a)
}

func (g *game) healAll() {
	g.t.Helper()
	g.move(impl.HealedAll(g.a))
}

// suffer loses cells of a row by damages and deaths.
func (g *game) suffer(states []int, row int64) {
	g.t.Helper()
	for disk, state := range states {
		switch state {
		case hurt:
			g.rot(int64(disk), row, 1+int64(disk)*777)
		case dead:
			g.die(int64(disk))
		}
	}
}

// near draws an index below n, now and then one that is none.
func (g *game) near(n int64) int64 {
	if g.next(20) == 0 {
		return []int64{-1, n, math.MinInt64, math.MaxInt64}[g.next(4)]
	}
	return g.next(n)
}

// someSets draws a list of sets: of any length, all alike or not, with numbers
// among them that are none.
func (g *game) someSets() []int64 {
	if g.next(3) == 0 {
		return slices.Repeat([]int64{[]int64{0, sets - 1, sets, -1}[g.next(4)]}, int(g.next(7)))
	}
	given := make([]int64, g.next(7))
	for i := range given {
		given[i] = []int64{0, sets - 1, g.next(sets), g.next(sets), 2*g.next(sets) - sets/2}[g.next(5)]
	}
	return given
}

func (g *game) someKeep() int64 {
	return []int64{-1, 0, g.next(20), int64(len(g.a.Next)) - 1, int64(len(g.a.Next)), math.MaxInt64}[g.next(6)]
}

// someAct draws an act; weights tells how often each of them comes.
func (g *game) someAct(weights []int64) {
	g.t.Helper()
	l, disk, row := g.near(int64(len(g.perfect))), g.near(g.disks()), g.near(g.rows())
	acts := []func(){
		func() { g.begin(l, g.near(values)) },
		func() { g.step() },
		func() { g.write(l, g.near(values)) },
		func() { g.rot(disk, row, g.near(values)) },
		func() { g.rotBack() },
		func() { g.die(disk) },
		func() { g.fall(g.someSets(), g.someKeep()) },
		func() { g.rise() },
		func() { g.replace(disk) },
		func() { g.heal(row) },
		func() { g.healAll() },
	}
	if len(weights) != len(acts) {
		g.t.Fatalf("%d weights for %d acts", len(weights), len(acts))
	}
	var total int64
	for _, weight := range weights {
		total += weight
	}
	at, drawn := 0, g.next(total)
	for drawn >= weights[at] {
		drawn -= weights[at]
		at++
	}
	acts[at]()
}

// weathers tell how often which act comes: with few losses and many repairs,
// with as many of both, and with more losses than are repaired.
func weathers() [][]int64 {
	return [][]int64{
		{30, 60, 8, 2, 2, 1, 12, 40, 12, 8, 8},
		{30, 60, 8, 6, 4, 2, 12, 40, 12, 8, 8},
		{30, 60, 8, 24, 12, 4, 12, 40, 12, 4, 2},
	}
}

// P12 over long runs of all acts in any order.
func TestNothingIsEverWrong(t *testing.T) {
	for n := int64(3); n <= 5; n++ {
		for _, rows := range []int64{1, 2, 5, places} {
			seen := map[string]int{}
			for run := range int64(24) {
				g := newGame(t, filledArray(t, n, rows), uint64(n*10000+rows*100+run))
				for range 300 {
					g.someAct(weathers()[run%3])
				}
				for what, count := range g.seen {
					seen[what] += count
				}
			}
			mustHaveSeen(t, n, rows, seen)
		}
	}
}

func mustHaveSeen(t *testing.T, n, rows int64, seen map[string]int) {
	t.Helper()
	for what, count := range seen {
		if count < 5 {
			t.Errorf("%d disks of %d rows: %s: seen %d times", n, rows, what, count)
		}
	}
	if len(seen) != 14 {
		t.Errorf("%d disks of %d rows: seen were only %v", n, rows, seen)
	}
}

// filledArray gives an array to each place of which another value was written.
func filledArray(t *testing.T, n, rows int64) impl.Array {
	t.Helper()
	a, _ := impl.NewArray(n, rows)
	p := make([]int64, rows*(n-1))
	for l := range int64(len(p)) {
		value := (l*7919 + n*1000 + rows) % values
		a, _ = impl.WriteArray(a, l, value)
		p = mustPut(t, p, l, value)
		mustNotBeWrong(t, a, p)
	}
	return a
}

// P12 after every combination of losses in the row of a write, before the write,
// at each of its stages, while the array is down and after its restart; and
// after repairs and further writes.
func TestNothingIsWrongAroundACrash(t *testing.T) {
	for n := int64(3); n <= 5; n++ {
		a, given := filledArray(t, n, 2), fewSetLists(int(n), 1)
		turn := 0
		for _, states := range combinations(int(n)) {
			for stage := int64(0); stage <= 4; stage++ {
				for when := int64(0); when <= stage+2; when++ {
					g := newGame(t, a, uint64(turn))
					g.crashWithLosses(int64(turn)%(2*(n-1)), stage, given[turn%len(given)], func(now int64, row int64) {
						if now == when {
							g.suffer(states, row)
						}
					})
					turn++
				}
			}
		}
	}
}

// crashWithLosses writes to a place up to a stage, lets the array fall down there
// and restarts it; lose is asked before each of these.
func (g *game) crashWithLosses(l, stage int64, given []int64, lose func(now, row int64)) {
	g.t.Helper()
	row := impl.RowOf(g.disks(), l)
	lose(0, row)
	for now := range stage {
		if now == 0 {
			g.begin(l, 31000+l)
		} else {
			g.step()
		}
		lose(now+1, row)
	}
	g.fall(given, g.someKeep())
	lose(stage+1, row)
	g.rise()
	lose(stage+2, row)
	for disk := range g.disks() {
		g.replace(disk)
	}
	g.healAll()
	for other := range int64(len(g.perfect)) {
		g.write(other, 100+other)
	}
}

// A cell that is damaged twice may be Good again; it has the value then that it
// had before.
func TestNothingIsWrongWhereDamagesAreTakenBack(t *testing.T) {
	for n := int64(3); n <= 5; n++ {
		for one := range n {
			for two := range n {
				g := newGame(t, filledArray(t, n, 2), uint64(n))
				g.rot(one, 1, 5)
				g.rot(two, 1, 7)
				for l := range int64(len(g.perfect)) {
					g.write(l, 20000+l)
				}
				g.rot(one, 1, values-5)
				g.rot(two, 1, values-7)
				g.fall(nil, 0)
				g.rise()
				g.healAll()
			}
		}
	}
}

// No damage makes a cell of a new disk Good.
func TestNothingIsWrongOnANewDisk(t *testing.T) {
	for n := int64(3); n <= 5; n++ {
		g := newGame(t, filledArray(t, n, 1), uint64(n))
		g.die(0)
		g.replace(0)
		for by := int64(1); by < values; by++ {
			a, _ := impl.Rots(g.a, 0, 0, by)
			if _, is := impl.Read(a.Disks[0], 0); is {
				t.Fatalf("%v is read", a.Disks[0])
			}
			if by%4001 == 1 {
				mustNotBeWrong(t, a, g.perfect)
			}
		}
	}
}

// perfectLists gives perfect disks of several lengths, the shortest and the
// longest among them.
func perfectLists() [][]int64 {
	var lists [][]int64
	for _, n := range []int{1, 2, 3, 4, 6, 8, 32, 63, mostPlaces} {
		lists = append(lists, make([]int64, n), slices.Repeat([]int64{values - 1}, n), spread(n, 3))
	}
	return lists
}

// noPerfectLists gives lists that are no perfect disks: by their length, and by
// an element at each index.
func noPerfectLists() [][]int64 {
	lists := append(wrongLists(), nil, []int64{}, make([]int64, 0, mostPlaces))
	for _, n := range []int{mostPlaces + 1, mostPlaces + 2, 100, 1000, 1 << 16} {
		lists = append(lists, make([]int64, n), spread(n, 2))
	}
	for _, v := range noValues() {
		for _, n := range []int{1, 4, mostPlaces} {
			for at := range int64(n) {
				lists = append(lists, with(spread(n, 1), at, v))
			}
		}
	}
	return lists
}

func TestPerfectOkOfEveryLength(t *testing.T) {
	if impl.MaxRoom != mostPlaces {
		t.Errorf("MaxRoom is %d", impl.MaxRoom)
	}
	mustBePerfect(t, nil, false)
	for n := range 200 {
		mustBePerfect(t, make([]int64, n), n >= 1 && n <= 64)
		mustBePerfect(t, spread(n, 1), n >= 1 && n <= 64)
	}
	for _, p := range perfectLists() {
		mustBePerfect(t, p, true)
	}
	for _, p := range noPerfectLists() {
		mustBePerfect(t, p, false)
	}
}

func TestPerfectOkOfEveryElement(t *testing.T) {
	elements := map[int64]bool{
		math.MinInt64: false, -32768: false, -1: false, 0: true, 1: true, 32766: true, 32767: true, 32768: false, 32769: false, 65536: false, math.MaxInt64: false,
	}
	for v, want := range elements {
		for n := 1; n <= mostPlaces; n++ {
			for at := range int64(n) {
				mustBePerfect(t, with(make([]int64, n), at, v), want)
			}
			mustBePerfect(t, slices.Repeat([]int64{v}, n), want)
		}
		mustBePerfect(t, with(make([]int64, mostPlaces+1), mostPlaces, v), false)
	}
}

func TestPutKnown(t *testing.T) {
	cases := []struct {
		p        []int64
		l, value int64
		want     []int64
		ok       bool
	}{
		{[]int64{0}, 0, 5, []int64{5}, true},
		{[]int64{1, 2, 3}, 0, 32767, []int64{32767, 2, 3}, true},
		{[]int64{1, 2, 3}, 1, 0, []int64{1, 0, 3}, true},
		{[]int64{1, 2, 3}, 2, 3, []int64{1, 2, 3}, true},
		{[]int64{1, 2, 3}, 3, 5, []int64{1, 2, 3}, false},
		{[]int64{1, 2, 3}, 4, 5, []int64{1, 2, 3}, false},
		{[]int64{1, 2, 3}, -1, 5, []int64{1, 2, 3}, false},
		{[]int64{1, 2, 3}, 0, -1, []int64{1, 2, 3}, false},
		{[]int64{1, 2, 3}, 0, 32768, []int64{1, 2, 3}, false},
		{[]int64{1, 2, 3}, 3, 32768, []int64{1, 2, 3}, false},
		{[]int64{1, 32768, 3}, 1, 5, nil, false},
		{[]int64{1, 2, -1}, 0, 5, nil, false},
		{[]int64{}, 0, 5, nil, false},
		{nil, 0, 5, nil, false},
	}
	for _, c := range cases {
		if got, ok := impl.Put(c.p, c.l, c.value); ok != c.ok || !slices.Equal(got, c.want) {
			t.Errorf("Put(%v, %d, %d) is %v, %v, want %v, %v", c.p, c.l, c.value, got, ok, c.want, c.ok)
		}
	}
}

func TestPutAtEveryPlace(t *testing.T) {
	for _, p := range perfectLists() {
		for l := range int64(len(p)) {
			for _, value := range []int64{0, 1, p[l], values / 2, values - 1} {
				mustPut(t, p, l, value)
			}
			for _, value := range noValues() {
				mustNotPut(t, p, l, value)
			}
		}
		for _, l := range append(noIndexes(len(p)), int64(len(p)), int64(len(p))+1, -1, math.MinInt64, math.MaxInt64) {
			for _, value := range []int64{-1, 0, 5, values - 1, values} {
				mustNotPut(t, p, l, value)
			}
		}
	}
}

func TestPutOnWhatIsNotPerfect(t *testing.T) {
	for _, p := range noPerfectLists() {
		for _, l := range []int64{math.MinInt64, -1, 0, 1, 3, 63, 64, 65, math.MaxInt64} {
			for _, value := range []int64{-1, 0, 5, values - 1, values} {
				mustNotPut(t, p, l, value)
			}
		}
	}
}

// P21: the smallest and the largest numbers in every position of a call.
func TestPutAtTheEndsOfNumbers(t *testing.T) {
	ends := []int64{math.MinInt64, math.MinInt64 + 1, -1, 0, 1, math.MaxInt64 - 1, math.MaxInt64}
	inside := func(n int64) bool { return n == 0 || n == 1 }
	for _, l := range ends {
		for _, value := range ends {
			for _, v := range ends {
				p := []int64{7, v}
				if inside(l) && inside(value) && inside(v) {
					mustPut(t, p, l, value)
				} else {
					mustNotPut(t, p, l, value)
				}
			}
		}
	}
}

// placeLost gives an array one of whose places alone cannot be told: its cell
// and the parity cell of its row are damaged.
func placeLost(a impl.Array, l int64) impl.Array {
	n := int64(len(a.Disks))
	row := impl.RowOf(n, l)
	a.Disks = damaged(a.Disks, impl.DiskOf(n, l), row, damages()[0])
	a.Disks = damaged(a.Disks, impl.ExtraOf(n, row), row, damages()[1])
	return a
}

// nothingTold gives arrays of n disks none of whose places can be told.
func nothingTold(t *testing.T, n, rows int64) []impl.Array {
	t.Helper()
	list := filledArray(t, n, rows).Disks
	arrays := []impl.Array{downArray(list, ""), downArray(list, frameByHand("0 0 5")), downArray(list, "torn")}
	var blank []impl.Disk
	for disk := range n {
		blank = append(blank, blankByHand(disk, rows))
		rest := list
		for other := range n {
			if other != disk {
				rest = withDead(rest, other)
			}
		}
		for row := range rows {
			if impl.ExtraOf(n, row) != disk {
				rest = rotted(rest, disk, row, 1+row)
			}
		}
		arrays = append(arrays, idleArray(rest), busyArray(rest, 3, frameByHand("0 0 5")))
	}
	return append(arrays, idleArray(blank))
}

// Arrays of all sizes tell what was written by hand, at every Stage, with
// nothing lost and with one cell in each row.
func TestShown(t *testing.T) {
	for n := int64(3); n <= 5; n++ {
		for rows := int64(1); rows <= places; rows++ {
			table := wholeTable(int(n), int(rows), 2)
			want, _ := answersOf(table)
			list := arrayOf(t, table)
			everywhere, _ := everyRowHurt(list, table, 1)
			for _, other := range [][]impl.Disk{list, withDead(list, n-1), everywhere} {
				for _, a := range someArrays(other) {
					if a.Up {
						mustShow(t, a, want)
					} else {
						mustNotShow(t, a)
					}
				}
			}
			a, _ := impl.NewArray(n, rows)
			mustShow(t, a, make([]int64, rows*(n-1)))
		}
	}
}

func TestShownWithAPlaceThatCannotBeTold(t *testing.T) {
	for n := int64(3); n <= 5; n++ {
		for _, rows := range []int64{1, 2, 5, places} {
			a := filledArray(t, n, rows)
			for l := range rows * (n - 1) {
				less := placeLost(a, l)
				if _, is := readAll(less); slices.Index(is, false) != int(l) || slices.Contains(is[l+1:], false) {
					t.Fatalf("the places of %v are %v, want only %d lost", less, is, l)
				}
				mustNotShow(t, less)
			}
			for _, other := range nothingTold(t, n, rows) {
				mustNotShow(t, other)
			}
		}
	}
}

func TestPerfectKnown(t *testing.T) {
	a, _ := impl.NewArray(3, 1)
	a, _ = impl.WriteArray(a, 1, 7)
	mustShow(t, a, []int64{0, 7})
	mustAgree(t, a, []int64{0, 7}, true)
	mustAgree(t, a, []int64{0, 8}, false)
	mustAgree(t, a, []int64{7, 0}, false)
	mustAgree(t, a, []int64{0, 7, 0}, false)
	mustAgree(t, a, []int64{0}, false)
	a, _ = impl.Dies(a, 1)
	mustShow(t, a, []int64{0, 7})
	mustAgree(t, a, []int64{0, 8}, false)
	// the only disk that is alive has the parity cell
	a, _ = impl.Dies(a, 0)
	mustNotShow(t, a)
	mustAgree(t, a, []int64{0, 7}, true)
	mustAgree(t, a, []int64{32767, 1}, true)
	mustAgree(t, a, []int64{32768, 1}, false)
	mustAgree(t, a, []int64{0, 7, 0}, false)
	mustAgree(t, a, []int64{0}, false)
}

// Every length beside every room, at every Stage, whether places can be told or
// not: none but the room's own agrees.
func TestAgreeOfEveryLength(t *testing.T) {
	for n := int64(3); n <= 5; n++ {
		for rows := int64(1); rows <= places; rows++ {
			list, room := newArray(t, int(n), rows), int(rows*(n-1))
			arrays := append(someArrays(list), idleArray(withDead(list, 0)), idleArray(withDead(withDead(list, 1), 2)))
			for _, a := range arrays {
				for _, length := range []int{0, 1, 2, 3, 4, room - 1, room, room + 1, 2 * room, 63, 64, 65, 1000} {
					mustAgree(t, a, make([]int64, length), length == room)
				}
				mustAgree(t, a, nil, false)
			}
		}
	}
}

// A single place that differs is enough, be it read or recomputed, and by
// whichever value, until it can no longer be told.
func TestAgreeWithOnePlaceThatDiffers(t *testing.T) {
	for n := int64(3); n <= 5; n++ {
		for _, rows := range []int64{1, 2, 5, places} {
			a := filledArray(t, n, rows)
			p, _ := impl.Shown(a)
			for l, value := range p {
				at := int64(l)
				less := placeLost(a, at)
				for _, other := range []int64{value ^ 1, value ^ (values / 2), values - 1 - value} {
					q := with(p, at, other)
					mustAgree(t, a, q, false)
					mustAgree(t, idleArray(withDead(a.Disks, impl.DiskOf(n, at))), q, false)
					mustAgree(t, idleArray(withDead(a.Disks, (impl.DiskOf(n, at)+1)%n)), q, false)
					mustAgree(t, less, q, true)
					if len(p) > 1 {
						next := (at + 1) % int64(len(p))
						mustAgree(t, less, with(q, next, (p[next]+1)%values), false)
					}
				}
				mustAgree(t, a, p, true)
				mustAgree(t, less, p, true)
				mustAgree(t, less, with(p, at, -1), false)
				mustAgree(t, less, with(p, at, values), false)
			}
		}
	}
}

// Where nothing can be told, every perfect disk of the room's length agrees, and
// nothing else.
func TestAgreeWhereNothingIsTold(t *testing.T) {
	for n := int64(3); n <= 5; n++ {
		for _, rows := range []int64{1, 2, 5, places} {
			room := int(rows * (n - 1))
			for _, a := range nothingTold(t, n, rows) {
				mustBeValid(t, a, true)
				if told, is := readAll(a); slices.Contains(is, true) {
					t.Fatalf("%v tells %v %v", a, told, is)
				}
				for _, p := range [][]int64{make([]int64, room), slices.Repeat([]int64{values - 1}, room), spread(room, 4)} {
					mustAgree(t, a, p, true)
					mustAgree(t, a, append(slices.Clone(p), 0), false)
					mustAgree(t, a, p[:room-1], false)
				}
				for _, p := range slices.Concat(perfectLists(), noPerfectLists()) {
					mustAgree(t, a, p, len(p) == room && perfectByHand(p))
				}
			}
		}
	}
}

// What is no perfect disk agrees with no array, whatever the array tells.
func TestAgreeWithWhatIsNotPerfect(t *testing.T) {
	for n := int64(3); n <= 5; n++ {
		for _, rows := range []int64{1, 2, places} {
			a := filledArray(t, n, rows)
			p, _ := impl.Shown(a)
			for _, v := range noValues() {
				for l := range int64(len(p)) {
					mustAgree(t, a, with(p, l, v), false)
					mustAgree(t, downArray(a.Disks, ""), with(p, l, v), false)
				}
			}
			for _, q := range noPerfectLists() {
				mustAgree(t, a, q, false)
			}
		}
	}
}

func TestPerfectOfWhatIsNotValid(t *testing.T) {
	lists := slices.Concat(perfectLists(), [][]int64{nil, {}, {-1, 0, 0, 0}, make([]int64, 65)})
	for _, a := range wrongArrays(t) {
		mustNotShow(t, a)
		for _, p := range lists {
			mustAgree(t, a, p, false)
		}
	}
}

// P21: the list and the array are as before, what lies behind their ends
// included, and nothing hangs on what lies there.
func TestPerfectLeavesItsArgumentsAlone(t *testing.T) {
	for _, a := range memoryArrays(t) {
		room, tight, check := withAndWithoutRoom(t, a)
		got, ok := impl.Shown(room)
		want, is := impl.Shown(tight)
		check("Shown", slices.Equal(got, want) && ok == is)
		scribbleNumbers(got)
		check("whoever wrote over what Shown told", true)
		for _, p := range [][]int64{want, make([]int64, 4), make([]int64, 6), spread(8, 2), {-1, 0, 0, 0}, nil} {
			list := roomyList(p)
			full := slices.Clone(list[:cap(list)])
			check("Agree", impl.Agree(room, list) == impl.Agree(tight, slices.Clip(slices.Clone(p))))
			if !slices.Equal(list[:cap(list)], full) {
				t.Fatalf("Agree changed %v to %v", full, list[:cap(list)])
			}
		}
	}
}

func TestShownIsNewMemory(t *testing.T) {
	for n := int64(3); n <= 5; n++ {
		a := filledArray(t, n, 2)
		one, _ := impl.Shown(a)
		two, _ := impl.Shown(a)
		want := slices.Clone(two)
		scribbleNumbers(one)
		if !slices.Equal(two, want) {
			t.Fatalf("two answers of Shown share memory: %v", two)
		}
		mustShow(t, a, want)
		scribbleDisks(a.Disks)
		if !slices.Equal(two, want) {
			t.Fatalf("what Shown told hangs on its array: %v", two)
		}
	}
}

// P21: no call changes a perfect disk, or what lies behind its end; and whoever
// writes all over it, or over an answer, changes no answer and not the list, be
// it one that is told unchanged.
func TestPutIsNewMemory(t *testing.T) {
	for _, p := range append(perfectLists(), noPerfectLists()...) {
		if len(p) > 100 {
			continue
		}
		last := int64(len(p)) - 1
		for _, c := range [][2]int64{{0, 5}, {last, values - 1}, {last / 2, 0}, {-1, 5}, {last + 1, 5}, {0, -1}, {last, values}} {
			list := roomyList(p)
			full := slices.Clone(list[:cap(list)])
			want, is := impl.Put(slices.Clip(slices.Clone(p)), c[0], c[1])
			one, ok := impl.Put(list, c[0], c[1])
			two, _ := impl.Put(list, c[0], c[1])
			if ok != is || !slices.Equal(one, want) || impl.PerfectOk(list) != perfectByHand(p) {
				t.Fatalf("Put(%v, %d, %d) is %v, %v with unused capacity, else %v, %v", p, c[0], c[1], one, ok, want, is)
			}
			scribbleNumbers(one)
			if !slices.Equal(list[:cap(list)], full) || !slices.Equal(two, want) {
				t.Fatalf("Put(%v, %d, %d) changes its list or shares memory: %v, %v", p, c[0], c[1], list[:cap(list)], two)
			}
			scribbleNumbers(list)
			if !slices.Equal(two, want) {
				t.Fatalf("Put(%v, %d, %d) shares memory with its list", p, c[0], c[1])
			}
		}
	}
}

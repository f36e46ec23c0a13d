package tests

import (
	"math"
	"slices"
	"strings"
	"testing"

	"loop.example/g00406/impl"
)

// sameArray takes nil and empty lists as equal.
func sameArray(a, b impl.Array) bool {
	return a.Log == b.Log && a.Next == b.Next && a.Stage == b.Stage && a.Up == b.Up && slices.EqualFunc(a.Disks, b.Disks, sameDisk)
}

func mustBeArray(t *testing.T, what string, got, want impl.Array) {
	t.Helper()
	if !sameArray(got, want) {
		t.Fatalf("%s:\n got %v\nwant %v", what, got, want)
	}
}

func mustBeValid(t *testing.T, a impl.Array, want bool) {
	t.Helper()
	if impl.ArrayOk(a) != want {
		t.Fatalf("ArrayOk(%v) is not %v", a, want)
	}
}

func idleArray(list []impl.Disk) impl.Array {
	return impl.Array{Disks: list, Up: true}
}

func downArray(list []impl.Disk, log string) impl.Array {
	return impl.Array{Disks: list, Log: log}
}

// busyArray gives an array at a stage from 1 to 4 whose Next is a text, be it a
// frame or not; Log is what the stage asks for.
func busyArray(list []impl.Disk, stage int64, next string) impl.Array {
	a := impl.Array{Disks: list, Next: next, Stage: stage, Up: true}
	if stage > 1 {
		a.Log = next
	}
	return a
}

func flushedByHand(list []impl.Disk) []impl.Disk {
	list = copyDisks(list)
	for i := range list {
		list[i].Kept = slices.Clone(list[i].Now)
	}
	return list
}

// stagesByHand gives the arrays that a write goes through, from StNoted to
// StIdle.
func stagesByHand(list []impl.Disk, p impl.Patch) []impl.Array {
	next, after := frameByHand(shown(p)), patchedByHand(list, p)
	return []impl.Array{
		busyArray(list, 1, next),
		busyArray(list, 2, next),
		busyArray(after, 3, next),
		busyArray(flushedByHand(after), 4, next),
		idleArray(flushedByHand(after)),
	}
}

// readAll asks ReadArray for every logical place.
func readAll(a impl.Array) ([]int64, []bool) {
	var told []int64
	var is []bool
	for l := range impl.RoomOf(int64(len(a.Disks)), impl.RowsOf(a.Disks)) {
		v, ok := impl.ReadArray(a, l)
		told, is = append(told, v), append(is, ok)
	}
	return told, is
}

// answersOf tells what readAll must answer for a table.
func answersOf(table [][]int64) ([]int64, []bool) {
	layout := drawn(int64(len(table[0])))
	var told []int64
	var is []bool
	for l := range drawnRoom(layout, int64(len(table))) {
		disk, row := drawnCell(layout, l)
		v, ok := answerAt(table[row], disk)
		told, is = append(told, v), append(is, ok)
	}
	return told, is
}

func mustTell(t *testing.T, a impl.Array, want []int64, is []bool) {
	t.Helper()
	if got, ok := readAll(a); !slices.Equal(got, want) || !slices.Equal(ok, is) {
		t.Fatalf("places of %v:\n got %v %v\nwant %v %v", a, got, ok, want, is)
	}
}

func mustNotBegin(t *testing.T, a impl.Array, l, value int64) {
	t.Helper()
	got, ok := impl.Begun(a, l, value)
	mustBeArray(t, "Begun unchanged", got, a)
	all, done := impl.WriteArray(a, l, value)
	mustBeArray(t, "WriteArray unchanged", all, a)
	if ok || done {
		t.Fatalf("Begun(%v, %d, %d) is %v, WriteArray is %v", a, l, value, ok, done)
	}
}

func mustNotStep(t *testing.T, a impl.Array) {
	t.Helper()
	got, ok := impl.Stepped(a)
	mustBeArray(t, "Stepped unchanged", got, a)
	if ok {
		t.Fatalf("Stepped(%v) is true", a)
	}
}

func mustStep(t *testing.T, a, want impl.Array) {
	t.Helper()
	got, ok := impl.Stepped(a)
	mustBeArray(t, "Stepped", got, want)
	mustBeValid(t, got, true)
	if !ok {
		t.Fatalf("Stepped(%v) is false", a)
	}
}

// afterPatch gives a table with the cells of a patch.
func afterPatch(table [][]int64, p impl.Patch) [][]int64 {
	table = copyTable(table)
	for i, disk := range p.Disks {
		table[p.Row][disk] = p.Values[i]
	}
	return table
}

func atMostOneLost(table [][]int64) bool {
	return !slices.ContainsFunc(table, func(row []int64) bool { return len(lostIn(row)) > 1 })
}

// checkWrite asks about one write to an idle array with the cells of a table:
// for what Begun, every Stepped and WriteArray answer, and for every place at
// every Stage; where each row has at most one element of BadIn, for P9.
func checkWrite(t *testing.T, list []impl.Disk, table [][]int64, l, value int64) {
	t.Helper()
	a := idleArray(list)
	before, is := answersOf(table)
	mustTell(t, a, before, is)
	p, ok := wantPatch(list, table, l, value)
	if !ok {
		mustNotBegin(t, a, l, value)
		return
	}
	later, are := answersOf(afterPatch(table, p))
	if atMostOneLost(table) && (slices.Contains(is, false) || slices.Contains(are, false) || !slices.Equal(later, with(before, l, value))) {
		t.Fatalf("%v changes more than place %d: %v %v, then %v %v", p, l, before, is, later, are)
	}
	stages := stagesByHand(list, p)
	got, went := impl.Begun(a, l, value)
	for i, want := range stages {
		if !went {
			t.Fatalf("the call to Stage %d is false in %v", want.Stage, got)
		}
		mustBeArray(t, "the next Stage", got, want)
		mustBeValid(t, got, true)
		if i < 2 {
			mustTell(t, got, before, is)
		} else {
			mustTell(t, got, later, are)
		}
		if want.Stage != 0 {
			got, went = impl.Stepped(got)
		}
	}
	mustNotStep(t, got)
	done, wrote := impl.WriteArray(a, l, value)
	mustBeArray(t, "WriteArray", done, got)
	if !wrote {
		t.Fatalf("WriteArray(%v, %d, %d) is false", a, l, value)
	}
}

func checkWrites(t *testing.T, list []impl.Disk, table [][]int64, change func(l int64) []int64) {
	t.Helper()
	for l := range int64(len(table) * (len(list) - 1)) {
		for _, value := range change(l) {
			checkWrite(t, list, table, l, value)
		}
	}
}

func smallestAndLargest(int64) []int64 { return []int64{0, values - 1} }

// everyRowHurt damages one cell of every row, of another disk in each.
func everyRowHurt(list []impl.Disk, table [][]int64, first int64) ([]impl.Disk, [][]int64) {
	for row := range int64(len(table)) {
		disk := (first + row) % int64(len(list))
		list, table = damaged(list, disk, row, damages()[row%5]), loseCell(table, disk, row)
	}
	return list, table
}

func forArrays(check func(n, rows int)) {
	for n := 3; n <= 5; n++ {
		for _, rows := range []int{1, 2, places} {
			check(n, rows)
		}
	}
}

// P9 with all disks good.
func TestWriteAsOneDisk(t *testing.T) {
	forArrays(func(n, rows int) {
		table := wholeTable(n, rows, 3)
		checkWrites(t, arrayOf(t, table), table, func(l int64) []int64 { return newValues(table, l) })
		zeros := slices.Repeat([][]int64{make([]int64, n)}, rows)
		checkWrites(t, newArray(t, n, int64(rows)), zeros, smallestAndLargest)
	})
}

// P9 with each disk dead in turn.
func TestWriteAsOneDiskAfterADeath(t *testing.T) {
	forArrays(func(n, rows int) {
		table := wholeTable(n, rows, 4)
		for gone := range int64(n) {
			checkWrites(t, withDead(arrayOf(t, table), gone), loseDisk(table, gone), smallestAndLargest)
		}
	})
}

// P9 with a damaged cell in each row.
func TestWriteAsOneDiskAfterDamages(t *testing.T) {
	forArrays(func(n, rows int) {
		table := wholeTable(n, rows, 5)
		for first := range int64(n) {
			list, left := everyRowHurt(arrayOf(t, table), table, first)
			checkWrites(t, list, left, smallestAndLargest)
		}
	})
}

// P9 with a damaged cell in one row, in each way.
func TestWriteAsOneDiskAfterADamage(t *testing.T) {
	for n := 3; n <= 5; n++ {
		table := wholeTable(n, 2, 6)
		for disk := range int64(n) {
			for row := range int64(2) {
				for _, d := range damages() {
					checkWrites(t, damaged(arrayOf(t, table), disk, row, d), loseCell(table, disk, row), smallestAndLargest)
				}
			}
		}
	}
}

// Writes after losses of all kinds, more than one in a row among them, and in a
// row that is not Whole.
func TestWriteAfterEveryCombinationOfLosses(t *testing.T) {
	afterEveryCombination(t, func(t *testing.T, list []impl.Disk, table [][]int64) {
		t.Helper()
		checkWrites(t, list, table, func(l int64) []int64 { return []int64{(l*777 + 12345) % values} })
	})
}

// mustTellOldOrNew asks for P9 at one Stage of a write of a value to a place.
func mustTellOldOrNew(t *testing.T, a impl.Array, before []int64, l, value int64) {
	t.Helper()
	got, is := readAll(a)
	if slices.Contains(is, false) || len(got) != len(before) {
		t.Fatalf("%v tells %v %v", a, got, is)
	}
	if !slices.Equal(got, before) && !slices.Equal(got, with(before, l, value)) {
		t.Fatalf("%v tells %v, before %v, with %d at %d", a, got, before, value, l)
	}
}

// P9 where a disk dies or a cell of the row is damaged in the middle of a write.
func TestWriteWithALossAtEveryStage(t *testing.T) {
	for n := int64(3); n <= 5; n++ {
		table := wholeTable(int(n), 2, 7)
		before, _ := answersOf(table)
		for l := range 2 * (n - 1) {
			row := impl.RowOf(n, l)
			for _, value := range []int64{0, values - 1} {
				for disk := range n {
					for when := int64(1); when <= 4; when++ {
						lossAt(t, arrayOf(t, table), before, l, value, when, func(list []impl.Disk) []impl.Disk { return withDead(list, disk) })
						for _, d := range damages() {
							lossAt(t, arrayOf(t, table), before, l, value, when, func(list []impl.Disk) []impl.Disk { return damaged(list, disk, row, d) })
						}
					}
				}
			}
		}
	}
}

func lossAt(t *testing.T, list []impl.Disk, before []int64, l, value, when int64, lose func([]impl.Disk) []impl.Disk) {
	t.Helper()
	a, ok := impl.Begun(idleArray(list), l, value)
	for stage := int64(1); stage <= 4; stage++ {
		if !ok || a.Stage != stage {
			t.Fatalf("%v is not at Stage %d", a, stage)
		}
		mustTellOldOrNew(t, a, before, l, value)
		if stage == when {
			a.Disks = lose(a.Disks)
			mustTellOldOrNew(t, a, before, l, value)
		}
		a, ok = impl.Stepped(a)
	}
	if !ok || a.Stage != 0 {
		t.Fatalf("%v is not idle", a)
	}
	mustTell(t, a, with(before, l, value), slices.Repeat([]bool{true}, len(before)))
}

// P9 over long runs of writes, with damages and at last a death between, which
// are played on the array and beside it on one list of numbers.
func TestArrayHistory(t *testing.T) {
	forArrays(func(n, rows int) { arrayHistory(t, int64(n), int64(rows)) })
}

func arrayHistory(t *testing.T, n, rows int64) {
	a := idleArray(newArray(t, int(n), rows))
	told := make([]int64, rows*(n-1))
	change := func(l, value int64) {
		t.Helper()
		after, ok := impl.WriteArray(a, l, value)
		if !ok {
			t.Fatalf("WriteArray(%v, %d, %d) is false", a, l, value)
		}
		a, told[l] = after, value
		mustTell(t, a, told, slices.Repeat([]bool{true}, len(told)))
	}
	seed := uint64(n*places + rows)
	next := func(below int64) int64 {
		seed = seed*6364136223846793005 + 1442695040888963407
		return int64(seed>>33) % below
	}
	for turn := range 300 {
		disk, row := next(n), next(rows)
		if turn < 200 && next(2) == 0 && len(impl.BadIn(a.Disks, row)) == 0 {
			a.Disks = damaged(a.Disks, disk, row, damages()[next(5)])
		}
		if turn == 200 {
			for l := range told {
				change(int64(l), told[l])
			}
			a.Disks = withDead(a.Disks, disk)
		}
		change(next(rows*(n-1)), next(values))
	}
}

func TestStages(t *testing.T) {
	stages := []int64{impl.StIdle, impl.StNoted, impl.StKept, impl.StWritten, impl.StFlushed}
	if !slices.Equal(stages, []int64{0, 1, 2, 3, 4}) {
		t.Errorf("the stages are %v", stages)
	}
}

func TestWriteKnown(t *testing.T) {
	a, _ := impl.NewArray(3, 2)
	next := "9 400 0 0 5 2 5\n"
	a, ok := impl.Begun(a, 0, 5)
	if !ok || a.Next != next || a.Log != "" || a.Stage != impl.StNoted || !a.Up {
		t.Fatalf("Begun is %v, %v", a, ok)
	}
	cases := []struct {
		log, next       string
		stage           int64
		now, kept, told int64
	}{
		{next, next, impl.StKept, 0, 0, 0},
		{next, next, impl.StWritten, 5, 0, 5},
		{next, next, impl.StFlushed, 5, 5, 5},
		{"", "", impl.StIdle, 5, 5, 5},
	}
	for _, c := range cases {
		a, ok = impl.Stepped(a)
		if !ok || a.Log != c.log || a.Next != c.next || a.Stage != c.stage || !a.Up {
			t.Fatalf("Stepped is %v, %v", a, ok)
		}
		for _, disk := range []int{0, 2} {
			if a.Disks[disk].Now[0].Value != c.now || a.Disks[disk].Kept[0].Value != c.kept {
				t.Fatalf("at Stage %d disk %d is %v", c.stage, disk, a.Disks[disk])
			}
		}
		if v, is := impl.ReadArray(a, 0); v != c.told || !is {
			t.Fatalf("at Stage %d ReadArray is %d, %v", c.stage, v, is)
		}
	}
}

func TestNewArray(t *testing.T) {
	numbers := append(outside(places), outside(disks)...)
	numbers = append(numbers, 1<<32+3, 1<<32+1, -3, -16)
	for n := range int64(9) {
		numbers = append(numbers, n)
	}
	for rows := int64(9); rows <= places; rows++ {
		numbers = append(numbers, rows)
	}
	for _, n := range numbers {
		for _, rows := range numbers {
			want, is := impl.Array{}, n >= 3 && n <= 5 && rows >= 1 && rows <= places
			if is {
				want = idleArray(newArray(t, int(n), rows))
			}
			got, ok := impl.NewArray(n, rows)
			mustBeArray(t, "NewArray", got, want)
			mustBeValid(t, got, is)
			if ok != is {
				t.Fatalf("NewArray(%d, %d) is %v", n, rows, ok)
			}
			if told, are := readAll(got); is && (len(told) != int((n-1)*rows) || slices.Contains(are, false) || slices.Max(told) != 0) {
				t.Fatalf("NewArray(%d, %d) tells %v %v", n, rows, told, are)
			}
		}
	}
}

// arrayLists gives lists of array disks of all kinds.
func arrayLists(t *testing.T) [][]impl.Disk {
	var lists [][]impl.Disk
	for n := 3; n <= 5; n++ {
		for _, rows := range []int{1, 2, places} {
			whole := arrayOf(t, wholeTable(n, rows, 3))
			var mixed []impl.Disk
			for number := range int64(n) {
				mixed = append(mixed, mixedDisk(number, rows))
			}
			lists = append(lists, whole, mixed, withDead(whole, 0), withDead(withDead(mixed, 1), 2), damaged(whole, 1, 0, damages()[0]))
		}
	}
	return lists
}

// someArrays gives, for a list, an array with it in each state.
func someArrays(list []impl.Disk) []impl.Array {
	one, two := frameByHand("0 0 5"), frameByHand("0 1 32767 4 0")
	arrays := []impl.Array{idleArray(list), downArray(list, ""), downArray(list, one), downArray(list, one+two), downArray(list, "torn")}
	for stage := int64(1); stage <= 4; stage++ {
		arrays = append(arrays, busyArray(list, stage, one), busyArray(list, stage, two))
	}
	return arrays
}

func TestArrayOk(t *testing.T) {
	for _, list := range arrayLists(t) {
		for _, a := range someArrays(list) {
			mustBeValid(t, a, true)
		}
	}
	mustBeValid(t, impl.Array{}, false)
	mustBeValid(t, impl.Array{Up: true}, false)
}

func TestArrayOkOfDisks(t *testing.T) {
	for _, list := range notArrays(t) {
		for _, a := range someArrays(list) {
			mustBeValid(t, a, false)
		}
	}
}

// anyLogs gives texts that may be the Log of an array that is not Up.
func anyLogs() []string {
	logs := append(noFrames(), frameByHand("0 0 5"), frameByHand("15 0 5"), frameByHand("0 0 5")+frameByHand("1 1 1"))
	for _, unit := range []string{"x", "\n", "\x00", "\xff", frameByHand("0 0 0")} {
		logs = append(logs, strings.Repeat(unit, fullLog)[:fullLog-1], strings.Repeat(unit, fullLog)[:fullLog])
	}
	return logs
}

func TestArrayOkOfLogWhileDown(t *testing.T) {
	list := newArray(t, 3, 2)
	for _, log := range anyLogs() {
		mustBeValid(t, downArray(list, log), true)
		if log != "" {
			mustBeValid(t, impl.Array{Disks: list, Log: log, Up: true}, false)
			mustBeValid(t, impl.Array{Disks: list, Next: log}, false)
			mustBeValid(t, impl.Array{Disks: list, Log: log, Next: log}, false)
		}
	}
	for _, unit := range []string{"x", "\n", "\x00", frameByHand("0 0 0")} {
		for _, length := range []int{fullLog + 1, fullLog + 2, 2 * fullLog, 1 << 16, 1<<16 + 5} {
			mustBeValid(t, downArray(list, strings.Repeat(unit, length)[:length]), false)
		}
	}
}

func TestArrayOkOfLongTexts(t *testing.T) {
	list := newArray(t, 3, 2)
	frame := frameByHand("0 0 5")
	for _, unit := range []string{"x", "\n", frame} {
		for _, length := range []int{fullLog - 1, fullLog, fullLog + 1} {
			long := strings.Repeat(unit, fullLog+1)[:length]
			mustBeValid(t, impl.Array{Disks: list, Next: long}, false)
			for stage := int64(0); stage <= 4; stage++ {
				mustBeValid(t, impl.Array{Disks: list, Log: long, Next: long, Stage: stage, Up: true}, false)
				mustBeValid(t, impl.Array{Disks: list, Next: long, Stage: stage, Up: true}, false)
				mustBeValid(t, impl.Array{Disks: list, Log: long, Next: frame, Stage: stage, Up: true}, false)
				mustBeValid(t, impl.Array{Disks: list, Log: frame, Next: long, Stage: stage, Up: true}, false)
			}
		}
	}
}

// Of the stages behind StNoted, each has the Log and the Next of the others; no
// other two stages have.
func TestArrayOkOfEveryStage(t *testing.T) {
	list := newArray(t, 4, 2)
	stages := append(outside(4), -1, 0, 1, 2, 3, 4, 5, 1<<32, 1<<32+2, -4, math.MaxInt64, math.MinInt64)
	for _, a := range someArrays(list) {
		was := a.Stage
		for _, stage := range stages {
			a.Stage = stage
			mustBeValid(t, a, stage == was || was >= 2 && stage >= 2 && stage <= 4)
		}
	}
}

func TestArrayOkOfUp(t *testing.T) {
	list := newArray(t, 4, 2)
	for _, a := range someArrays(list) {
		a.Up = !a.Up
		mustBeValid(t, a, a.Log == "" && a.Next == "" && a.Stage == 0)
	}
}

// Every patch that is valid may be the one that is being written, whether its
// disks exist, but for its row.
func TestArrayOkOfEveryPatch(t *testing.T) {
	for n := 3; n <= 5; n++ {
		for _, rows := range []int64{1, 2, places} {
			for _, list := range [][]impl.Disk{newArray(t, n, rows), withDead(newArray(t, n, rows), 0)} {
				for _, p := range edgePatches() {
					for stage := int64(1); stage <= 4; stage++ {
						mustBeValid(t, busyArray(list, stage, frameByHand(shown(p))), p.Row < rows)
					}
				}
			}
		}
	}
	for row := range int64(places) {
		for rows := int64(1); rows <= places; rows++ {
			a := busyArray(newArray(t, 3, rows), 2, frameByHand(shown(onePatch(row, 0, 5))))
			mustBeValid(t, a, row < rows)
		}
	}
}

func TestArrayOkOfNext(t *testing.T) {
	list := newArray(t, 3, 2)
	one, two := frameByHand("0 0 5"), frameByHand("1 0 5 1 32767")
	wrong := append(noFrames(), "", "0 0 5", one[:len(one)-1], one[1:], one+one, one+two, two+one, one+two+one, strings.TrimSpace(one), "\n"+one)
	for b := range 256 {
		wrong = append(wrong, one+string([]byte{byte(b)}), string([]byte{byte(b)})+one)
	}
	for _, s := range noFrames() {
		wrong = append(wrong, one+s)
	}
	for _, p := range wrongPatches() {
		if len(p.Disks) == len(p.Values) {
			wrong = append(wrong, frameByHand(shown(p)))
		}
	}
	for _, next := range append(wrong, frameByHand("2 0 5"), frameByHand("16 0 5"), frameByHand("-1 0 5"), frameByHand("1 1 5 0 5")) {
		for stage := int64(0); stage <= 4; stage++ {
			if next != "" || stage > 0 {
				mustBeValid(t, busyArray(list, stage, next), false)
			}
		}
	}
	for at := range len(two) {
		for b := range 256 {
			next := two[:at] + string([]byte{byte(b)}) + two[at+1:]
			if next != two {
				mustBeValid(t, busyArray(list, 1+int64(at)%4, next), false)
			}
		}
	}
}

func TestArrayOkOfLog(t *testing.T) {
	list := newArray(t, 3, 2)
	one, two := frameByHand("0 0 5"), frameByHand("0 0 6")
	for _, log := range append(noFrames(), one, two, one+one, two+one, one+two, one[:len(one)-1], one[:1], one+"\n", " "+one, "0 0 5") {
		for stage := int64(0); stage <= 4; stage++ {
			a := impl.Array{Disks: list, Log: log, Next: one, Stage: stage, Up: true}
			mustBeValid(t, a, log == one && stage >= 2)
			a.Next = ""
			mustBeValid(t, a, false)
		}
	}
	for stage := int64(0); stage <= 4; stage++ {
		mustBeValid(t, impl.Array{Disks: list, Next: one, Stage: stage, Up: true}, stage == 1)
		mustBeValid(t, impl.Array{Disks: list, Stage: stage, Up: true}, stage == 0)
	}
}

// validByHand tells whether an array whose Disks are array disks with a number
// of rows is valid, state by state.
func validByHand(a impl.Array, rows int64) bool {
	if len(a.Log) > fullLog || len(a.Next) > fullLog {
		return false
	}
	list := entriesByLines(a.Next)
	framed := len(list) == 1 && strings.Count(a.Next, "\n") == 1 && strings.HasSuffix(a.Next, "\n") && list[0].Row < rows
	switch {
	case !a.Up:
		return a.Next == "" && a.Stage == 0
	case a.Stage == 0:
		return a.Log == "" && a.Next == ""
	case a.Stage == 1:
		return a.Log == "" && framed
	case a.Stage >= 2 && a.Stage <= 4:
		return a.Log == a.Next && framed
	}
	return false
}

// Every Log with every Next at every Stage, Up and not.
func TestArrayOkOfEveryCombination(t *testing.T) {
	one, two := frameByHand("0 0 5"), frameByHand("1 0 5 4 32767")
	texts := []string{
		"", one, two, one + two, one + one, frameByHand("2 0 5"), frameByHand("15 4 5"), frameByHand("0 0"), frameByHand(""), "x", "\n", one[:5], one + " ",
		strings.Repeat("x", fullLog), strings.Repeat("x", fullLog+1), strings.Repeat(frameByHand("0 0 0"), 166),
	}
	valid := 0
	for _, list := range [][]impl.Disk{newArray(t, 3, 2), newArray(t, 5, 3), withDead(newArray(t, 4, 1), 0)} {
		for _, log := range texts {
			for _, next := range texts {
				for _, stage := range []int64{math.MinInt64, -1, 0, 1, 2, 3, 4, 5, math.MaxInt64} {
					for _, up := range []bool{false, true} {
						a := impl.Array{Disks: list, Log: log, Next: next, Stage: stage, Up: up}
						want := validByHand(a, impl.RowsOf(list))
						mustBeValid(t, a, want)
						if want {
							valid++
						}
					}
				}
			}
		}
	}
	if valid < 50 {
		t.Errorf("only %d arrays are valid", valid)
	}
}

func mustNotReadArray(t *testing.T, a impl.Array, l int64) {
	t.Helper()
	if v, ok := impl.ReadArray(a, l); v != 0 || ok {
		t.Fatalf("ReadArray(%v, %d) = %d, %v, want 0, false", a, l, v, ok)
	}
}

// placesThatAreNot gives places that an array with a room does not have, those
// among them that greater arrays have.
func placesThatAreNot(room int64) []int64 {
	return append(noIndexes(int(room)), room, room+1, -1, 1<<32, 1<<32+1, math.MinInt64, math.MaxInt64)
}

func TestReadArrayAtTheEdges(t *testing.T) {
	for n := int64(3); n <= 5; n++ {
		for rows := int64(1); rows <= places; rows++ {
			table := wholeTable(int(n), int(rows), 2)
			want, is := answersOf(table)
			list := arrayOf(t, table)
			for _, other := range [][]impl.Disk{list, withDead(list, n-1), damaged(list, 1, rows-1, damages()[1])} {
				for _, a := range someArrays(other) {
					if a.Up {
						mustTell(t, a, want, is)
					}
					for _, l := range placesThatAreNot(rows * (n - 1)) {
						mustNotReadArray(t, a, l)
					}
				}
			}
		}
	}
}

func TestReadArrayWhileDown(t *testing.T) {
	for _, list := range arrayLists(t) {
		for _, log := range []string{"", frameByHand("0 0 5"), "torn"} {
			for l := int64(-1); l <= 64; l++ {
				mustNotReadArray(t, downArray(list, log), l)
			}
		}
	}
}

// With two elements of BadIn in a row, the places of the other disks and of the
// other rows are read.
func TestReadArrayWithTwoLost(t *testing.T) {
	for n := int64(3); n <= 5; n++ {
		table := wholeTable(int(n), int(n), 2)
		list := arrayOf(t, table)
		for row := range n {
			for one := range n {
				for two := range one {
					hurtTwice := damaged(damaged(list, one, row, damages()[0]), two, row, damages()[1])
					left := loseCell(loseCell(table, one, row), two, row)
					want, is := answersOf(left)
					mustTell(t, idleArray(hurtTwice), want, is)
					for _, disk := range []int64{one, two} {
						if l := impl.LogicalAt(n, disk, row); l >= 0 {
							mustNotReadArray(t, idleArray(hurtTwice), l)
						}
					}
					want, is = answersOf(loseCell(loseDisk(table, one), two, row))
					mustTell(t, idleArray(damaged(withDead(list, one), two, row, damages()[2])), want, is)
				}
			}
		}
	}
}

// wrongFields gives arrays of array disks that are not valid, each by one of the
// other fields.
func wrongFields(t *testing.T) []impl.Array {
	list := newArray(t, 3, 2)
	one, two := frameByHand("0 0 5"), frameByHand("1 0 5 1 32767")
	arrays := []impl.Array{
		downArray(list, strings.Repeat("x", fullLog+1)),
		{Disks: list, Next: one}, {Disks: list, Log: one, Up: true}, {Disks: list, Next: one, Up: true},
		{Disks: list, Stage: 1}, {Disks: list, Stage: -1, Up: true}, {Disks: list, Stage: 5, Up: true},
		{Disks: list, Log: one, Next: one, Stage: 1, Up: true}, {Disks: list, Next: one, Stage: 2, Up: true},
		{Disks: list, Log: two, Next: one, Stage: 3, Up: true}, {Disks: list, Log: one, Next: one, Stage: 3},
		{Disks: list, Log: one, Next: one, Stage: 5, Up: true}, {Disks: list, Log: one, Next: one, Stage: math.MaxInt64, Up: true},
	}
	for stage := int64(1); stage <= 4; stage++ {
		for _, next := range []string{"", "x", one + two, one + " ", one[1:], frameByHand("2 0 5"), frameByHand("0 0"), frameByHand("")} {
			arrays = append(arrays, busyArray(list, stage, next))
		}
	}
	return arrays
}

func wrongArrays(t *testing.T) []impl.Array {
	arrays := append(wrongFields(t), impl.Array{}, impl.Array{Up: true})
	for _, list := range notArrays(t) {
		arrays = append(arrays, someArrays(list)...)
	}
	return arrays
}

func TestArraysThatAreNotValid(t *testing.T) {
	for _, a := range wrongArrays(t) {
		mustBeValid(t, a, false)
		for _, l := range []int64{math.MinInt64, -1, 0, 1, 3, 4, 63, 64, math.MaxInt64} {
			mustNotReadArray(t, a, l)
			for _, value := range []int64{-1, 0, values - 1, values} {
				got, ok := impl.Begun(a, l, value)
				mustBeArray(t, "Begun of what is not valid", got, impl.Array{})
				all, done := impl.WriteArray(a, l, value)
				mustBeArray(t, "WriteArray of what is not valid", all, impl.Array{})
				if ok || done {
					t.Fatalf("Begun(%v, %d, %d) is %v, WriteArray is %v", a, l, value, ok, done)
				}
			}
		}
		got, ok := impl.Stepped(a)
		mustBeArray(t, "Stepped of what is not valid", got, impl.Array{})
		if ok {
			t.Fatalf("Stepped(%v) is true", a)
		}
	}
}

// While an array is down, or in the middle of a write, no write begins.
func TestBegunAtEveryStage(t *testing.T) {
	for _, list := range arrayLists(t) {
		for _, a := range someArrays(list) {
			for _, l := range []int64{-1, 0, 1, 64} {
				for _, value := range []int64{-1, 0, values - 1, values} {
					if !a.Up || a.Stage != 0 {
						mustNotBegin(t, a, l, value)
					}
				}
			}
		}
	}
}

func TestBegunAtPlacesAndValuesThatAreNot(t *testing.T) {
	for n := int64(3); n <= 5; n++ {
		for rows := int64(1); rows <= places; rows++ {
			table := wholeTable(int(n), int(rows), 1)
			list, room := arrayOf(t, table), rows*(n-1)
			for _, other := range [][]impl.Disk{list, withDead(list, 0)} {
				for _, l := range placesThatAreNot(room) {
					for _, value := range []int64{-1, 0, values - 1, values} {
						mustNotBegin(t, idleArray(other), l, value)
					}
				}
				for _, value := range noValues() {
					for _, l := range []int64{-1, 0, room - 1, room} {
						mustNotBegin(t, idleArray(other), l, value)
					}
				}
			}
			checkWrite(t, list, table, room-1, values-1)
		}
	}
}

// Where another data cell of the row is lost, or both disks are dead, PatchFor
// returns no patch, and no write begins.
func TestBegunWithoutAPatch(t *testing.T) {
	for n := int64(3); n <= 5; n++ {
		list := arrayOf(t, wholeTable(int(n), int(n), 2))
		for l := range n * (n - 1) {
			row, own := impl.RowOf(n, l), impl.DiskOf(n, l)
			extra := impl.ExtraOf(n, row)
			mustNotBegin(t, idleArray(withDead(withDead(list, own), extra)), l, 5)
			for other := range n {
				if other == own || other == extra {
					continue
				}
				for _, two := range []int64{own, extra} {
					mustNotBegin(t, idleArray(withDead(withDead(list, other), two)), l, 5)
					mustNotBegin(t, idleArray(damaged(damaged(list, other, row, damages()[0]), two, row, damages()[1])), l, 5)
					mustNotBegin(t, idleArray(damaged(withDead(list, two), other, row, damages()[2])), l, 5)
				}
			}
		}
	}
}

// Stepped takes any valid patch, whether it makes the parity right or not, and
// whether its disks exist or are dead.
func TestSteppedFromEveryStage(t *testing.T) {
	for _, list := range arrayLists(t) {
		for _, p := range edgePatches() {
			if p.Row >= impl.RowsOf(list) {
				continue
			}
			next := frameByHand(shown(p))
			mustStep(t, busyArray(list, 1, next), busyArray(list, 2, next))
			mustStep(t, busyArray(list, 2, next), busyArray(patchedByHand(list, p), 3, next))
			mustStep(t, busyArray(list, 3, next), busyArray(flushedByHand(list), 4, next))
			mustStep(t, busyArray(list, 4, next), idleArray(list))
		}
		mustNotStep(t, idleArray(list))
	}
}

func TestSteppedWhileDown(t *testing.T) {
	for _, list := range arrayLists(t) {
		for _, log := range []string{"", frameByHand("0 0 5"), "torn", strings.Repeat("x", fullLog)} {
			mustNotStep(t, downArray(list, log))
		}
	}
}

// A write that was begun by hand at any stage ends like others.
func TestEveryWriteEnds(t *testing.T) {
	for _, list := range arrayLists(t) {
		for _, a := range someArrays(list) {
			steps := 0
			for next, ok := impl.Stepped(a); ok; next, ok = impl.Stepped(next) {
				if steps++; steps > 4 {
					t.Fatalf("%v does not become idle", a)
				}
			}
			if want := []int{0, 4, 3, 2, 1}[a.Stage]; steps != want {
				t.Fatalf("%v was stepped %d times, want %d", a, steps, want)
			}
		}
	}
}

// P21: the smallest and the largest numbers in every position of a call.
func TestArraysAtTheEndsOfNumbers(t *testing.T) {
	ends := []int64{math.MinInt64, math.MinInt64 + 1, -1, 0, 1, math.MaxInt64 - 1, math.MaxInt64}
	inside := func(n int64) bool { return n == 0 || n == 1 }
	table := wholeTable(4, 2, 3)
	list := arrayOf(t, table)
	for _, a := range ends {
		for _, b := range ends {
			checkWrite(t, list, table, a, b)
			if _, ok := impl.NewArray(a, b); ok {
				t.Errorf("NewArray(%d, %d) is true", a, b)
			}
		}
		if v, ok := impl.ReadArray(idleArray(list), a); ok != inside(a) || inside(a) && v != table[0][a] {
			t.Errorf("ReadArray at %d is %d, %v", a, v, ok)
		}
	}
}

// arrayCalls are the functions that return an array, each with arguments that
// change something and with ones that are rejected.
func arrayCalls() []func(impl.Array) impl.Array {
	return slices.Concat(writeCalls(), healCalls(), faultCalls(), crashCalls())
}

func writeCalls() []func(impl.Array) impl.Array {
	begun := func(l, value int64) func(impl.Array) impl.Array {
		return func(a impl.Array) impl.Array {
			got, _ := impl.Begun(a, l, value)
			return got
		}
	}
	write := func(l, value int64) func(impl.Array) impl.Array {
		return func(a impl.Array) impl.Array {
			got, _ := impl.WriteArray(a, l, value)
			return got
		}
	}
	stepped := func(a impl.Array) impl.Array {
		got, _ := impl.Stepped(a)
		return got
	}
	return []func(impl.Array) impl.Array{
		stepped, begun(0, 5), begun(3, values-1), begun(-1, 5), begun(64, 5), begun(0, values),
		write(0, 5), write(3, values-1), write(-1, 5), write(64, 5), write(0, values),
	}
}

// memoryArrays gives arrays of all kinds, also ones whose disks share memory,
// and ones that are not valid.
func memoryArrays(t *testing.T) []impl.Array {
	var arrays []impl.Array
	for _, list := range append(memoryLists(t), sharingDisks(t)...) {
		arrays = append(arrays, someArrays(list)...)
	}
	return append(arrays, wrongFields(t)...)
}

func copyArray(a impl.Array) impl.Array {
	a.Disks = slices.Clip(copyDisks(a.Disks))
	return a
}

// withAndWithoutRoom gives an array with unused capacity and without any, and a
// check that the first is as it was and that a call answered both the same.
func withAndWithoutRoom(t *testing.T, a impl.Array) (room, tight impl.Array, check func(what string, same bool)) {
	room, tight = a, copyArray(a)
	room.Disks = roomyDisks(a.Disks)
	before := memoryOf(room.Disks)
	return room, tight, func(what string, same bool) {
		t.Helper()
		if !memoryOf(room.Disks).same(before) {
			t.Fatalf("%s changed %v", what, a)
		}
		if !same {
			t.Fatalf("%s of %v hangs on what lies behind an end", what, a)
		}
	}
}

// P21: no call changes the disks of an array or their cells, the unused capacity
// included; and nothing hangs on what lies in it.
func TestArraysLeaveTheirArgumentsAlone(t *testing.T) {
	for _, a := range memoryArrays(t) {
		room, tight, check := withAndWithoutRoom(t, a)
		check("ArrayOk", impl.ArrayOk(room) == impl.ArrayOk(tight))
		for _, l := range []int64{-1, 0, 1, 3, 7, 8} {
			got, ok := impl.ReadArray(room, l)
			want, is := impl.ReadArray(tight, l)
			check("ReadArray", got == want && ok == is)
		}
		for _, f := range arrayCalls() {
			check("a call", sameArray(f(room), f(tight)))
		}
	}
}

// P21: whoever writes all over one list of a result, its unused capacity
// included, changes no other list of it, no other result and not the argument;
// whoever writes all over the argument does not change a result.
func TestArraysAreNewMemory(t *testing.T) {
	lists := []func(d *impl.Disk) *[]impl.Cell{
		func(d *impl.Disk) *[]impl.Cell { return &d.Kept }, func(d *impl.Disk) *[]impl.Cell { return &d.Now },
	}
	for call, f := range arrayCalls() {
		for _, a := range memoryArrays(t) {
			before, want := memoryOf(a.Disks), copyArray(f(a))
			for i := range want.Disks {
				for _, which := range lists {
					got, hit := f(a), copyArray(want)
					scribble(*which(&got.Disks[i]))
					*which(&hit.Disks[i]) = *which(&got.Disks[i])
					mustBeArray(t, "a result, one list of it written over", got, hit)
				}
			}
			one, two := f(a), f(a)
			scribbleDisks(one.Disks)
			mustBeArray(t, "a second result", two, want)
			if !memoryOf(a.Disks).same(before) {
				t.Fatalf("call %d shares memory with %v", call, before.disks)
			}
			a.Disks = roomyDisks(a.Disks)
			got := f(a)
			scribbleDisks(a.Disks)
			mustBeArray(t, "a result after its argument was written over", got, want)
		}
	}
}

// P21: the texts of a result are new memory too.
func TestTextsOfArraysAreNewMemory(t *testing.T) {
	for call, f := range arrayCalls() {
		for _, list := range arrayLists(t) {
			for _, a := range someArrays(list) {
				got := f(a)
				for _, text := range []string{got.Log, got.Next} {
					if sharesBytes(text, a.Log) || sharesBytes(text, a.Next) {
						t.Fatalf("call %d shares a text with %v", call, a)
					}
				}
			}
		}
	}
}

func TestNewArraysAreNewMemory(t *testing.T) {
	for n := int64(3); n <= 5; n++ {
		one, _ := impl.NewArray(n, 2)
		two, _ := impl.NewArray(n, 2)
		want := idleArray(newArray(t, int(n), 2))
		for i := range one.Disks {
			scribble(one.Disks[i].Kept)
			hit := copyArray(want)
			for k := range i + 1 {
				hit.Disks[k].Kept = one.Disks[k].Kept
			}
			mustBeArray(t, "NewArray, some lists of it written over", one, hit)
		}
		scribbleDisks(one.Disks)
		three, _ := impl.NewArray(n, 2)
		mustBeArray(t, "the second NewArray", two, want)
		mustBeArray(t, "the third NewArray", three, want)
	}
}

package tests

import (
	"math"
	"math/big"
	"slices"
	"strconv"
	"strings"
	"testing"
	"unsafe"

	"loop.example/g00406/impl"
)

const fullLog = 2000

// markAtOnce works the mark out as one great number and takes its remainder at
// the end: 3 times 97 to the number of bytes, and each byte plus 1 times 97 to
// the number of those behind it.
func markAtOnce(s string) string {
	sum, power := new(big.Int), big.NewInt(1)
	for at := len(s) - 1; at >= 0; at-- {
		sum.Add(sum, new(big.Int).Mul(power, big.NewInt(int64(s[at])+1)))
		power.Mul(power, big.NewInt(97))
	}
	sum.Add(sum, power.Mul(power, big.NewInt(3)))
	return sum.Mod(sum, big.NewInt(9973)).String()
}

func frameByHand(s string) string {
	return strings.Join([]string{strconv.Itoa(len(s)), markAtOnce(s), s}, " ") + "\n"
}

// shown writes a patch as a text without asking the program.
func shown(p impl.Patch) string {
	words := []string{strconv.FormatInt(p.Row, 10)}
	for i, disk := range p.Disks {
		words = append(words, strconv.FormatInt(disk, 10), strconv.FormatInt(p.Values[i], 10))
	}
	return strings.Join(words, " ")
}

func mustFrame(t *testing.T, s, want string) {
	t.Helper()
	if got := impl.Framed(s); got != want {
		t.Fatalf("Framed(%q) = %q, want %q", s, got, want)
	}
}

func TestFramedKnown(t *testing.T) {
	cases := []struct{ s, want string }{
		{"", "0 3 \n"},
		{"\x00", "1 292 \x00\n"},
		{"\x7f", "1 419 \x7f\n"},
		{"\x80", "1 420 \x80\n"},
		{"\xff", "1 547 \xff\n"},
		{" ", "1 324  \n"},
		{"a", "1 389 a\n"},
		{"ab", "2 7913 ab\n"},
		{"ba", "2 8009 ba\n"},
		{"\x00\x00", "2 8379 \x00\x00\n"},
		{"\xff\xff", "2 3450 \xff\xff\n"},
		{"\u00e9", "2 7517 \u00e9\n"},
		{"0 0 0", "5 737 0 0 0\n"},
		{"15 4 32767", "10 2043 15 4 32767\n"},
		{"0 0 5 2 12", "10 8544 0 0 5 2 12\n"},
		{"15 3 32767 4 32767", "18 2180 15 3 32767 4 32767\n"},
		{strings.Repeat("x", 99), "99 7792 " + strings.Repeat("x", 99) + "\n"},
		{strings.Repeat("x", 100), "100 7970 " + strings.Repeat("x", 100) + "\n"},
		{strings.Repeat("\x00", 100), "100 6681 " + strings.Repeat("\x00", 100) + "\n"},
		{strings.Repeat("\xff", 100), "100 3187 " + strings.Repeat("\xff", 100) + "\n"},
	}
	for _, c := range cases {
		mustFrame(t, c.s, c.want)
	}
}

// Every byte but the newline, at every length up to the limit and beyond it.
func TestFramedOfEveryByteAndLength(t *testing.T) {
	for b := range 256 {
		if b == '\n' {
			continue
		}
		one := string([]byte{byte(b)})
		for _, s := range []string{one, one + "a", "a" + one, one + one + "0", "0 " + one + " 0"} {
			mustFrame(t, s, frameByHand(s))
		}
		for length := range 103 {
			s := strings.Repeat(one, length)
			if length > 100 {
				mustFrame(t, s, "")
			} else {
				mustFrame(t, s, frameByHand(s))
			}
		}
	}
	for _, length := range []int{101, 102, 127, 128, 200, 255, 256, 356, 1000, 65536, 65636, 1 << 20} {
		mustFrame(t, strings.Repeat("0", length), "")
		mustFrame(t, strings.Repeat("\xff", length), "")
	}
	for seed := range 500 {
		var s []byte
		for i := range seed % 101 {
			s = append(s, byte((seed*131+i*i*29+i*7)%245+11))
		}
		mustFrame(t, string(s), frameByHand(string(s)))
	}
}

func TestFramedOfNewlines(t *testing.T) {
	for length := range 105 {
		s := strings.Repeat("a", length)
		for at := range length + 1 {
			mustFrame(t, s[:at]+"\n"+s[at:], "")
		}
		mustFrame(t, strings.Repeat("\n", length+1), "")
	}
	for _, s := range []string{"\n", "\n\n", "a\n", "\na", "a\nb", "0 0 0\n", "\r\n", "\n\x00", "\xff\n", "5 737 0 0 0\n"} {
		mustFrame(t, s, "")
	}
	for _, s := range []string{"\r", "\\n", "\t", "\v", "\f", "\x8a", "\u0085", "\u2028", "\u010a", "10"} {
		mustFrame(t, s, frameByHand(s))
	}
}

func mustNote(t *testing.T, log string, p impl.Patch) string {
	t.Helper()
	got, ok := impl.Noted(log, p)
	if want := log + frameByHand(shown(p)); !ok || got != want {
		t.Fatalf("Noted(%q, %v) = %q, %v, want %q", log, p, got, ok, want)
	}
	return got
}

func mustNotNote(t *testing.T, log string, p impl.Patch) {
	t.Helper()
	if got, ok := impl.Noted(log, p); ok || got != log {
		t.Fatalf("Noted(%q, %v) = %q, %v, want the log and false", log, p, got, ok)
	}
}

func mustEnter(t *testing.T, log string, want ...impl.Patch) {
	t.Helper()
	if got := impl.Entries(log); !slices.EqualFunc(got, want, samePatch) {
		t.Fatalf("Entries(%q) = %v, want %v", log, got, want)
	}
}

// logOf notes patches one after the other and asks for them after each.
func logOf(t *testing.T, patches ...impl.Patch) string {
	t.Helper()
	log := ""
	for i, p := range patches {
		mustEnter(t, log, patches[:i]...)
		log = mustNote(t, log, p)
	}
	mustEnter(t, log, patches...)
	return log
}

// mustTear asks for P8: of a log that is torn at any byte, the patches are there
// whose frames are complete, and no other one.
func mustTear(t *testing.T, patches ...impl.Patch) {
	t.Helper()
	log := logOf(t, patches...)
	whole, end := 0, 0
	for keep := range len(log) + 1 {
		if whole < len(patches) && keep == end+len(frameByHand(shown(patches[whole]))) {
			whole, end = whole+1, keep
		}
		torn := impl.Torn(log, int64(keep))
		if torn != log[:keep] {
			t.Fatalf("Torn(%q, %d) = %q", log, keep, torn)
		}
		mustEnter(t, torn, patches[:whole]...)
	}
	if whole != len(patches) || end != len(log) {
		t.Fatalf("%q has %d complete frames, want %d", log, whole, len(patches))
	}
}

// edgePatches gives patches of one and of two disks with the smallest and the
// largest rows, disks and values.
func edgePatches() []impl.Patch {
	var list []impl.Patch
	for _, row := range []int64{0, 9, 10, 15} {
		for _, v := range []int64{0, 9, 10, 32767} {
			list = append(list, onePatch(row, 0, v), onePatch(row, 4, v))
			for _, w := range []int64{0, 99, 32767} {
				list = append(list, twoPatch(row, 0, v, 1, w), twoPatch(row, 0, v, 4, w), twoPatch(row, 3, v, 4, w))
			}
		}
	}
	return list
}

// P8 for logs of none, of one and of two patches.
func TestEntriesOfShortLogs(t *testing.T) {
	mustEnter(t, "")
	mustTear(t)
	for _, p := range validPatches() {
		mustTear(t, p)
	}
	edges := edgePatches()
	for i, p := range edges {
		mustTear(t, p, p)
		mustTear(t, p, edges[(i*7+3)%len(edges)])
	}
}

// P8 for logs of many patches, up to the longest ones.
func TestEntriesOfFullLogs(t *testing.T) {
	for _, list := range [][]impl.Patch{validPatches(), edgePatches()} {
		for first := range 3 {
			var patches []impl.Patch
			for at, length := first*5, 0; ; at += 37 {
				p := list[at%len(list)]
				if length += len(frameByHand(shown(p))); length > fullLog {
					break
				}
				patches = append(patches, p)
			}
			if len(patches) < 60 {
				t.Fatalf("only %d patches in a log", len(patches))
			}
			logOf(t, patches...)
			if first == 0 {
				mustTear(t, patches...)
			}
		}
	}
	logOf(t, slices.Repeat([]impl.Patch{onePatch(0, 0, 0)}, fullLog/12)...)
	logOf(t, slices.Repeat([]impl.Patch{twoPatch(15, 3, 32767, 4, 32767)}, fullLog/27)...)
}

// A torn log is noted in once more: only what came before the tear is read.
func TestNotedBehindATear(t *testing.T) {
	one, two, three := onePatch(1, 0, 7), twoPatch(2, 0, 7, 3, 8), onePatch(15, 4, 32767)
	log := logOf(t, one, two)
	first := len(frameByHand(shown(one)))
	for keep := range len(log) + 1 {
		again := mustNote(t, impl.Torn(log, int64(keep)), three)
		switch keep {
		case 0:
			mustEnter(t, again, three)
		case first:
			mustEnter(t, again, one, three)
		case len(log):
			mustEnter(t, again, one, two, three)
		default:
			mustEnter(t, again, []impl.Patch{one}[:min(1, keep/first)]...)
		}
	}
}

// Entries has no limit of its own: a log that is longer than MaxLog is read too.
func TestEntriesOfLogsBeyondTheLimit(t *testing.T) {
	patches := validPatches()
	var log strings.Builder
	for _, p := range patches {
		log.WriteString(frameByHand(shown(p)))
	}
	mustEnter(t, log.String(), patches...)
	mustEnter(t, log.String()+strings.Repeat("0", 1<<20), patches...)
	mustEnter(t, strings.Repeat("0", 1<<20))
	mustEnter(t, strings.Repeat(" ", 1<<20))
	mustEnter(t, strings.Repeat("\n", 1<<20))
	mustEnter(t, "5 737 "+strings.Repeat("0 ", 1<<20)+"\n")
}

// noFrames gives texts at which Entries must stop, wherever they stand: what is
// like a frame but is none, and frames of texts that show no patch.
func noFrames() []string {
	list := []string{
		"\n", " ", "  ", "   ", "  \n", " \n", "0", "5", "5 ", "5 737", "5 737 ", "5 737 0 0 0", "5 737 0 0 ", "5 737 \n", "5 \n", "5\n",
		"4 737 0 0 0\n", "6 737 0 0 0\n", "0 737 0 0 0\n", "50 737 0 0 0\n", "10 737 0 0 0\n", " 737 0 0 0\n", "737 0 0 0\n",
		"+5 737 0 0 0\n", "-5 737 0 0 0\n", "05 737 0 0 0\n", "005 737 0 0 0\n", "5. 737 0 0 0\n", "0x5 737 0 0 0\n", "a 737 0 0 0\n", "5_ 737 0 0 0\n", "\x005 737 0 0 0\n",
		"5 +737 0 0 0\n", "5 -737 0 0 0\n", "5 0737 0 0 0\n", "5 000737 0 0 0\n", "5 736 0 0 0\n", "5 738 0 0 0\n", "5 10710 0 0 0\n", "5 -9236 0 0 0\n", "5 3 0 0 0\n", "5 73 0 0 0\n", "5 7370 0 0 0\n", "5 a 0 0 0\n", "5 0 0 0\n",
		"5  737 0 0 0\n", "5 737  0 0 0\n", "5 737   0 0 0\n", " 5 737 0 0 0\n", "5737 0 0 0\n", "5 7370 0 0\n", "5737000\n", "5\t737\t0 0 0\n", "5 737\t0 0 0\n", "5\n737 0 0 0\n", "5 737\n0 0 0\n", "5 737 0\n0 0\n",
		"5 737 0 0 0 \n", "5 737 0 0 0 0\n", "5 737 0 0 0\r\n", "5 737 0 0 0\x00\n", "5 737 0 0 0\x00", "5 737 0 0 0\r", "5 737 0 0 0 ", "5 737 0 0 05 737 0 0 0\n", "\n5 737 0 0 0\n", "\x005 737 0 0 0\n",
		"5 737 0 0 1\n", "5 737 1 0 0\n", "5 737 0 0\n", "18446744073709551621 737 0 0 0\n", "4294967301 737 0 0 0\n", "261 737 0 0 0\n", "5 18446744073709552353 0 0 0\n", "5 4294968033 0 0 0\n",
	}
	for _, text := range []string{
		"", " ", "  ", "0", "0 0", "a", "x", "letters", "0 0 a", "zero", "\x00", "\xff", "\u0660 0 0",
		"16 0 0", "-1 0 0", "0 5 0", "0 -1 0", "0 0 32768", "0 0 -1", "0 0 5 0 5", "0 2 5 1 5", "0 0 5 5 5", "0 0 5 1 32768", "0 0 5 1", "0 0 0 1 0 2 0",
		"00 0 0", "0 00 0", "0 0 00", "0 0 05", "+0 0 0", "0 0 +5", "-0 0 0", "0 0 -0", "0  0 0", "0 0  0", " 0 0 0", "0 0 0 ", "0\t0\t0", "0 0 0\t", "0 0 0\r", "0,0,0", "0 0 0x5", "0 0 1e3", "0 0 5.0",
		"5 737 0 0 0", "0 0 18446744073709551616", strings.Repeat("0", 100), strings.Repeat("0 ", 50), "0 0 " + strings.Repeat("0", 96), strings.Repeat(" ", 100),
		strings.Repeat("0", 101), "0 0 " + strings.Repeat("0", 97), strings.Repeat("\xff", 100),
	} {
		list = append(list, frameByHand(text))
	}
	return list
}

// Entries stops at the first position without a frame, and answers what came
// before, whatever comes behind.
func TestEntriesStops(t *testing.T) {
	one, two, three := onePatch(1, 0, 7), twoPatch(2, 0, 7, 3, 8), onePatch(0, 0, 0)
	first, both, behind := logOf(t, one), logOf(t, one, two), logOf(t, three)
	for _, s := range noFrames() {
		for _, rest := range []string{"", "0", "\x00", "\xff", s, behind, first, both} {
			mustEnter(t, s+rest)
			mustEnter(t, first+s+rest, one)
			mustEnter(t, both+s+rest, one, two)
		}
	}
	for b := range 256 {
		end := string([]byte{byte(b)})
		mustEnter(t, both+end, one, two)
		mustEnter(t, end+both)
		mustEnter(t, end)
		mustEnter(t, first+end+both, one)
	}
}

// Of all counts and of all marks before a text, one is right.
func TestEntriesOfEveryCountAndMark(t *testing.T) {
	for _, p := range []impl.Patch{onePatch(0, 0, 0), onePatch(15, 4, 32767), twoPatch(15, 3, 32767, 4, 32767), twoPatch(2, 0, 7, 3, 8)} {
		text := shown(p)
		count, mark := strconv.Itoa(len(text)), markAtOnce(text)
		check := func(c, m string) {
			t.Helper()
			var want []impl.Patch
			if c == count && m == mark {
				want = append(want, p)
			}
			mustEnter(t, c+" "+m+" "+text+"\n", want...)
		}
		for i := -20; i < 300; i++ {
			check(strconv.Itoa(i), mark)
			check("0"+strconv.Itoa(i), mark)
			check("+"+strconv.Itoa(i), mark)
		}
		for i := -11000; i < 22000; i++ {
			check(count, strconv.Itoa(i))
		}
		for i := range 9973 {
			check(count, "0"+strconv.Itoa(i))
			check(count, "+"+strconv.Itoa(i))
		}
	}
}

// entriesByLines reads a log line by line, each of them split at its first two
// blanks.
func entriesByLines(log string) []impl.Patch {
	var list []impl.Patch
	lines := strings.Split(log, "\n")
	for _, line := range lines[:len(lines)-1] {
		words := strings.SplitN(line, " ", 3)
		if len(words) != 3 || line+"\n" != frameByHand(words[2]) {
			break
		}
		p, ok := readByPattern(words[2])
		if !ok {
			break
		}
		list = append(list, p)
	}
	return list
}

// All logs that are near to ones that were noted: a byte is added, taken out or
// replaced by any other one.
func TestLogsNearToLogs(t *testing.T) {
	counts := map[int]int{}
	check := func(log string) {
		t.Helper()
		want := entriesByLines(log)
		mustEnter(t, log, want...)
		counts[len(want)]++
	}
	logs := []string{
		logOf(t, onePatch(1, 0, 7)),
		logOf(t, onePatch(0, 0, 0), twoPatch(15, 3, 32767, 4, 32767)),
		logOf(t, twoPatch(2, 0, 7, 3, 8), onePatch(9, 1, 10), onePatch(15, 4, 32767)),
	}
	for _, log := range logs {
		for at := range len(log) + 1 {
			check(log[at:])
			for b := range 256 {
				one := string([]byte{byte(b)})
				check(log[:at] + one + log[at:])
				if at < len(log) {
					check(log[:at] + one + log[at+1:])
				}
			}
			for end := at; end <= len(log); end++ {
				check(log[:at] + log[end:])
			}
			for _, line := range []string{"0 3 \n", "5 737 0 0 0\n", log} {
				check(log[:at] + line + log[at:])
			}
		}
	}
	for n := range 4 {
		if counts[n] < 10 {
			t.Errorf("only %d logs have %d entries", counts[n], n)
		}
	}
}

// Edits within a text, with the count and the mark of what it became: the frame
// is right, and what it shows may be a patch or none.
func TestFramesOfTextsNearToPatches(t *testing.T) {
	before, behind := onePatch(1, 0, 7), onePatch(0, 0, 0)
	for _, s := range []string{"0 0 0", "15 4 32767", "0 0 5 2 12", "15 3 32767 4 32767"} {
		for _, text := range edits(s) {
			if strings.Contains(text, "\n") {
				continue
			}
			want := []impl.Patch{before}
			if p, ok := readByPattern(text); ok {
				want = append(want, p, behind)
			}
			mustEnter(t, logOf(t, before)+frameByHand(text)+logOf(t, behind), want...)
		}
	}
}

// someLogs gives logs of frames, torn ones, and ones that are no frames at all.
func someLogs(t *testing.T) []string {
	log := logOf(t, onePatch(1, 0, 7), twoPatch(2, 0, 7, 3, 8))
	return []string{
		"", log, log[:len(log)-1], log[1:], log[:5], "\n", " ", "x", "no frames\n", "\x00\xff\n\x80", "0 3 \n", strings.Repeat("y", 500), strings.Repeat("\n", 1900),
	}
}

func TestNotedTakesAnyLog(t *testing.T) {
	for _, log := range someLogs(t) {
		for _, p := range edgePatches() {
			mustEnter(t, mustNote(t, log, p), entriesByLines(log+frameByHand(shown(p)))...)
		}
	}
}

func TestNotedOfInvalidPatches(t *testing.T) {
	logs := append(someLogs(t), strings.Repeat("x", fullLog-5), strings.Repeat("x", fullLog), strings.Repeat("x", fullLog+1))
	for _, p := range wrongPatches() {
		for _, log := range logs {
			mustNotNote(t, log, p)
		}
	}
}

// Logs that come to exactly 2000 bytes are noted in; those that would come to
// more are handed back.
func TestNotedUpToTheLimit(t *testing.T) {
	if impl.MaxLog != fullLog {
		t.Errorf("MaxLog is %d", impl.MaxLog)
	}
	for _, p := range edgePatches() {
		frame := len(frameByHand(shown(p)))
		for _, unit := range []string{"x", "\n", "\xff", "\x00", frameByHand("0 0 0")} {
			long := strings.Repeat(unit, 2*fullLog)
			for more := -3; more <= 3; more++ {
				log := long[:fullLog-frame+more]
				if more > 0 {
					mustNotNote(t, log, p)
				} else if got := mustNote(t, log, p); len(got) != fullLog+more {
					t.Fatalf("the log has %d bytes, want %d", len(got), fullLog+more)
				}
			}
			for _, length := range []int{fullLog - 1, fullLog, fullLog + 1, fullLog + 48, 2 * fullLog} {
				mustNotNote(t, long[:length], p)
			}
		}
	}
	for _, length := range []int{65535, 65536, 1 << 20} {
		mustNotNote(t, strings.Repeat("z", length), onePatch(0, 0, 0))
	}
}

// A log of frames of 12 and 13 bytes that comes to 2000 and no further.
func TestALogThatIsFull(t *testing.T) {
	short, long := onePatch(0, 0, 0), onePatch(1, 0, 7)
	patches := slices.Concat(slices.Repeat([]impl.Patch{short}, 157), slices.Repeat([]impl.Patch{long}, 8))
	log := logOf(t, patches...)
	if len(log) != fullLog-12 {
		t.Fatalf("the log has %d bytes", len(log))
	}
	mustNotNote(t, log, long)
	mustEnter(t, log, patches...)
	log = mustNote(t, log, short)
	mustEnter(t, log, append(patches, short)...)
	mustNotNote(t, log, short)
	mustNotNote(t, log, twoPatch(15, 3, 32767, 4, 32767))
}

func TestTorn(t *testing.T) {
	logs := append(someLogs(t), strings.Repeat("x", fullLog), strings.Repeat("ab\n", fullLog), "\u00e9\u20ac")
	for _, log := range logs {
		for keep := range int64(len(log)) + 3 {
			want := log
			if int(keep) < len(log) {
				want = log[:keep]
			}
			if got := impl.Torn(log, keep); got != want {
				t.Fatalf("Torn(%q, %d) = %q, want %q", log, keep, got, want)
			}
		}
		for _, keep := range []int64{-1, -2, -int64(len(log)), -int64(len(log)) - 1, -1 << 32, 1 - 1<<32, math.MinInt64, math.MinInt64 + 1} {
			if got := impl.Torn(log, keep); got != "" {
				t.Fatalf("Torn(%q, %d) = %q, want none", log, keep, got)
			}
		}
		for _, keep := range []int64{1 << 31, 1 << 32, 1<<32 + 1, math.MaxInt64 - 1, math.MaxInt64} {
			if got := impl.Torn(log, keep); got != log {
				t.Fatalf("Torn(%q, %d) = %q, want all", log, keep, got)
			}
		}
	}
}

// P21: the smallest and the largest numbers in every place of a patch.
func TestNotedAtTheEndsOfNumbers(t *testing.T) {
	ends := []int64{math.MinInt64, -1, 0, 1, math.MaxInt64}
	for _, a := range ends {
		for _, b := range ends {
			for _, c := range ends {
				for _, d := range ends {
					for _, p := range []impl.Patch{onePatch(a, b, c), twoPatch(a, b, c, d, c), twoPatch(0, a, b, c, d)} {
						if impl.PatchOk(p) {
							mustNote(t, "log", p)
						} else {
							mustNotNote(t, "log", p)
						}
					}
				}
			}
		}
	}
}

// P21: Noted changes nothing of its patch, the unused capacity included, and
// nothing hangs on what lies in it.
func TestNotedLeavesItsPatchAlone(t *testing.T) {
	logs := append(someLogs(t), strings.Repeat("x", fullLog-13), strings.Repeat("x", fullLog+1))
	for _, log := range logs {
		for _, p := range append(memoryPatches(), edgePatches()...) {
			room := roomyPatch(p)
			full := fullPatch(room)
			got, ok := impl.Noted(log, room)
			want, is := impl.Noted(log, copyPatch(p))
			if got != want || ok != is {
				t.Fatalf("Noted(%q, %v) hangs on what lies behind an end", log, p)
			}
			if !samePatch(fullPatch(room), full) {
				t.Fatalf("Noted(%q, %v) changed it to %v", log, full, fullPatch(room))
			}
			kept := strings.Clone(got)
			scribblePatch(room)
			if got != kept {
				t.Fatalf("Noted(%q, %v) keeps memory of it", log, p)
			}
		}
	}
}

// P21: whoever writes all over one list of one entry, its unused capacity
// included, changes no other list and no other answer.
func TestEntriesAreNewMemory(t *testing.T) {
	log := logOf(t, edgePatches()[:40]...)
	want, other := edgePatches()[:40], impl.Entries(log)
	for i := range want {
		for _, which := range []func(p *impl.Patch) *[]int64{
			func(p *impl.Patch) *[]int64 { return &p.Disks }, func(p *impl.Patch) *[]int64 { return &p.Values },
		} {
			got, hit := impl.Entries(log), slices.Clone(want)
			scribbleNumbers(*which(&got[i]))
			*which(&hit[i]) = *which(&got[i])
			if !slices.EqualFunc(got, hit, samePatch) {
				t.Fatalf("lists of entry %d share memory", i)
			}
		}
	}
	got := impl.Entries(log)
	for i := range got[:cap(got)] {
		got[:cap(got)][i] = impl.Patch{Row: -77}
	}
	if !slices.EqualFunc(other, want, samePatch) {
		t.Fatal("two answers of Entries share memory")
	}
	mustEnter(t, log, want...)
}

// sharesBytes tells whether a string that was answered begins within the bytes
// of one that was handed in.
func sharesBytes(got, from string) bool {
	start, first := uintptr(unsafe.Pointer(unsafe.StringData(got))), uintptr(unsafe.Pointer(unsafe.StringData(from)))
	return got != "" && start >= first && start < first+uintptr(len(from))
}

// P21: the texts that are answered are new memory too.
func TestTextsOfLogsAreNewMemory(t *testing.T) {
	p := onePatch(0, 0, 0)
	for _, s := range append(someLogs(t), strings.Repeat("x", fullLog), "0 0 0") {
		noted, _ := impl.Noted(s, p)
		handed, _ := impl.Noted(s, impl.Patch{})
		for i, got := range []string{noted, handed, impl.Framed(s), impl.Torn(s, 1), impl.Torn(s, math.MaxInt64)} {
			if sharesBytes(got, s) {
				t.Errorf("answer %d to %q shares its memory", i, s)
			}
		}
	}
}

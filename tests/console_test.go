package tests

import (
	"fmt"
	"slices"
	"strings"
	"testing"

	"loop.example/g01359/impl"
)

// deskOf makes a desk of the texts of its maps, with commas between those of its list.
func deskOf(list string, f string) impl.Desk {
	return impl.Desk{List: listOf(strings.Split(list, ",")...), Map: digits(f)}
}

// fresh is the fresh desk of a list.
func fresh(list []impl.Map) impl.Desk {
	return impl.Desk{List: list, Map: list[0]}
}

func newDeskByHand() impl.Desk { return deskOf("10,00", "10") }

// quietDesk has a zero, an invariant partition, and few enough elements for all lines.
func quietDesk() impl.Desk { return deskOf("0213,0000", "0213") }

// desksOfLists are the fresh desks of lists within and above all limits, and others with a map that
// their lists make, and with one that they may not make.
func desksOfLists() []impl.Desk {
	lists := slices.Concat(greaterLists(), largeLists(), listsOfOddClasses(), listsOfMaxPaired(), listsAbovePaired(), listsOfMaxLattice(),
		listsAboveLattice(), listsOfMaxCongruences(), listsAboveCongruences(), listsOfMaxTable(), listsAboveTable(), someListsOfPoints())
	for i, list := range smallLists() {
		if i%41 == 0 {
			lists = append(lists, list)
		}
	}
	var desks []impl.Desk
	for i, list := range lists {
		last := byHand(list[0], list[len(list)-1])
		maps := allMaps(list[0].Points)
		desks = append(desks, fresh(list), impl.Desk{List: list, Map: last}, impl.Desk{List: list, Map: maps[i*97%len(maps)]})
	}
	return desks
}

// noDesks have no list, no map, or a map with another number of points than the list.
func noDesks() []impl.Desk {
	desks := []impl.Desk{{}, {List: listOf("10", "00")}, {Map: digits("10")}}
	for _, bad := range noMaps() {
		desks = append(desks, impl.Desk{List: listOf("10"), Map: bad})
		for _, list := range listsWith(bad) {
			desks = append(desks, impl.Desk{List: list, Map: digits("00")}, impl.Desk{List: list, Map: bad})
		}
	}
	for _, list := range listsNotAsTold() {
		for _, f := range listOf("0", "00", "012", "01234") {
			desks = append(desks, impl.Desk{List: list, Map: f})
		}
	}
	for _, d := range [][2]string{{"0", "00"}, {"10,00", "0"}, {"10,00", "120"}, {"01234", "0123"}, {"0123", "01234"}} {
		desks = append(desks, deskOf(d[0], d[1]))
	}
	return desks
}

func sameDesks(a impl.Desk, b impl.Desk) bool {
	return slices.Equal(a.List, b.List) && a.Map == b.Map
}

func copyOfDesk(d impl.Desk) impl.Desk {
	return impl.Desk{List: slices.Clone(d.List), Map: d.Map}
}

func checkDesk(t *testing.T, what string, got impl.Desk, want impl.Desk) {
	t.Helper()
	if !sameDesks(got, want) {
		t.Errorf("%s: the desk is %v, want %v", what, got, want)
	}
	if !impl.IsDesk(got) {
		t.Errorf("%s: %v is no desk", what, got)
	}
}

// checkLine also looks at the desk before the line, which keeps what it has.
func checkLine(t *testing.T, d impl.Desk, line string, output string, want impl.Desk) {
	t.Helper()
	before := copyOfDesk(d)
	after, got := impl.RunLine(d, line)
	what := fmt.Sprintf("RunLine %v %q", before, line)
	if got != output {
		t.Errorf("%s = %q, want %q", what, got, output)
	}
	checkDesk(t, what, after, want)
	checkDesk(t, what+", before it", d, before)
}

func checkWrong(t *testing.T, d impl.Desk, line string) {
	t.Helper()
	checkLine(t, d, line, "error", d)
}

// properLines has each line of the table once, as quietDesk can take it.
func properLines() []string {
	return append(slices.Clone(plainLines()),
		"list 10,00", "add 1230", "drop 1", "classes 0 1 1 2", "beside 0", "map 3210", "times 1230", "power 3", "word 0 1",
		"join 0 1", "orbit 1", "images 0 2", "reset")
}

// plainLines are those that do nothing and have no word behind the first one.
func plainLines() []string {
	return strings.Fields(`show look rank kernel elements size find units idempotents centre zero ranks lengths least regular
		inverse inverses under right left ideal core pairs congruences table parts transitive primitive sets partitions fewest`)
}

func TestLimitsOfTheConsole(t *testing.T) {
	checkList(t, "limits", []int64{impl.MaxConsole, impl.MaxLines}, []int64{4000, 40})
}

func TestNewDesk(t *testing.T) {
	checkDesk(t, "NewDesk", impl.NewDesk(), newDeskByHand())
	clear(impl.NewDesk().List)
	checkDesk(t, "NewDesk the second time", impl.NewDesk(), newDeskByHand())
}

func TestIsDesk(t *testing.T) {
	for _, list := range slices.Concat(allLists(), largeLists()) {
		maps := allMaps(list[0].Points)
		for _, i := range some(len(maps)) {
			if d := (impl.Desk{List: list, Map: maps[i]}); !impl.IsDesk(d) {
				t.Errorf("%v is no desk", d)
			}
		}
	}
	for _, d := range noDesks() {
		if impl.IsDesk(d) {
			t.Errorf("%v is a desk", d)
		}
	}
}

func TestLinesOnWhatIsNoDesk(t *testing.T) {
	lines := append(properLines(), "", " ", "fly", "word", "list", "power x")
	for _, d := range noDesks() {
		for _, line := range lines {
			after, output := impl.RunLine(d, line)
			if output != "" || !sameDesks(after, impl.Desk{}) {
				t.Errorf("RunLine %v %q = %v, %q", d, line, after, output)
			}
		}
	}
}

// knownDesk tells of a desk the outputs of lines that do nothing.
type knownDesk struct {
	list, f string
	outputs map[string]string
}

func knownDesks() []knownDesk {
	return []knownDesk{
		{"120,000", "000", map[string]string{
			"show": "120,000", "look": "000", "rank": "1", "kernel": "0 0 0", "elements": "000,012,111,120,201,222", "size": "6",
			"find": "1", "units": "012,120,201", "idempotents": "000,012,111,222", "centre": "012", "zero": "error",
			"ranks": "3 0 3", "lengths": "1 2 2 1", "least": "0 1", "regular": "yes", "inverse": "no", "inverses": "000,111,222",
			"under": "000", "right": "000,111,222", "left": "000", "ideal": "000,111,222", "core": "000,111,222",
			"join 3 4": "0 1 0 1 1 0", "join 2 0": "0 1 0 2 3 0", "join 0 6": "error",
			"pairs":       "0 1 0 2 3 0;0 1 0 1 1 0;0 0 0 0 0 0",
			"congruences": "0 1 2 3 4 5;0 1 0 2 3 0;0 1 0 1 1 0;0 0 0 0 0 0",
			"table":       "0 0 2 2 5 5;0 1 2 3 4 5;0 2 2 5 0 5;0 3 2 4 1 5;0 4 2 1 3 5;0 5 2 0 2 5",
			"orbit 1":     "0 1 2", "parts": "0 1 2", "transitive": "yes", "primitive": "yes", "sets": "0 1 2",
			"partitions": "0 0 0;0 1 2", "images 1 2": "0;1;2;0 1;0 2;1 2", "fewest": "0;1;2",
		}},
		{"012", "012", map[string]string{
			"show": "012", "look": "012", "rank": "3", "kernel": "0 1 2", "elements": "012", "size": "1", "find": "none",
			"zero": "012", "ranks": "0 0 1", "lengths": "1", "least": "none", "inverse": "yes", "join 0 0": "0", "pairs": "none",
			"congruences": "0", "table": "0", "orbit 2": "2", "parts": "0;1;2", "transitive": "no", "primitive": "no",
			"sets":       "0;1;2;0 1;0 2;1 2;0 1 2",
			"partitions": "0 0 0;0 0 1;0 1 0;0 1 1;0 1 2", "images 1 2": "1 2", "fewest": "0 1 2",
		}},
		{"1230,1030", "1030", map[string]string{
			"rank": "3", "kernel": "0 1 2 1", "size": "28", "find": "1", "units": "0123,1230,2301,3012", "centre": "0123",
			"idempotents": "0101,0103,0121,0123,0303,0323,2121,2123,2323", "ranks": "0 8 16 4", "lengths": "1 2 4 6 7 5 2 1",
			"inverses": "1012,3032", "under": "1010,1030,3030", "left": "0101,0103,0301,0303,1010,1030,3010,3030",
			"right":       "0101,0121,0303,0323,1010,1030,1212,1232,2101,2121,2303,2323,3010,3030,3212,3232",
			"core":        "0101,0303,1010,1212,2121,2323,3030,3232",
			"congruences": "error", "primitive": "no", "partitions": "0 0 0 0;0 1 0 1;0 1 2 3", "images 0 2": "0;1;2;3;0 2;1 3",
			"images 2 3": "0 1;0 3;1 2;2 3", "fewest": "0 1;0 3;1 2;2 3",
		}},
		{"0012,1233,0113", "0122", map[string]string{
			"find": "1 0", "zero": "error", "regular": "no", "inverse": "no", "inverses": "0122", "core": "0000,1111,2222,3333",
			"under": "0000,0022,0111,0122,0222,1111,1122,2222",
			"left":  "0000,0001,0002,0011,0012,0022,0111,0112,0122,0222,1111,1112,1122,1222,2222",
			"right": "0000,0011,0022,0111,0122,0222,1111,1122,1133,1222,1233,1333,2222,2233,2333,3333",
		}},
		{"0012", "0012", map[string]string{
			"elements": "0000,0001,0012,0123", "inverses": "none", "regular": "no", "under": "0000,0012", "core": "0000", "zero": "0000",
			"ideal": "0000,0001,0012", "lengths": "1 1 1 1", "parts": "0;1;2;3", "sets": "0;0 1;0 1 2;0 1 2 3", "fewest": "0",
		}},
		{"00133", "00013", map[string]string{
			"elements": "00033,00133,01234", "find": "error", "inverses": "error", "under": "error", "right": "error", "left": "error",
			"ideal": "error", "zero": "00033", "congruences": "0 1 2;0 0 1;0 0 0",
		}},
	}
}

func TestKnownOutputs(t *testing.T) {
	for _, k := range knownDesks() {
		for line, output := range k.outputs {
			checkLine(t, deskOf(k.list, k.f), line, output, deskOf(k.list, k.f))
		}
	}
}

// TestKnownLists has lines that give the desk a list, so that its map becomes the first one of it.
func TestKnownLists(t *testing.T) {
	for _, k := range []struct{ list, f, line, output string }{
		{"10,00", "01", "list 10,00", "10,00"},
		{"10,00", "01", "list 0", "0"},
		{"10,00", "01", "list 21034,01234,01234,01234,01234,44444", "21034,01234,01234,01234,01234,44444"},
		{"10,00", "11", "add 11", "10,00,11"},
		{"0,0,0,0,0", "0", "add 0", "0,0,0,0,0,0"},
		{"120,000", "000", "add 111", "120,000,111"},
		{"10,00,11", "01", "drop 0", "00,11"},
		{"10,00,11", "01", "drop 1", "10,11"},
		{"10,00,11", "01", "drop 2", "10,00"},
		{"10,00", "01", "drop 0", "00"},
		{"0,0,0,0,0,0", "0", "drop 5", "0,0,0,0,0"},
		{"1230,0101", "0101", "classes 0 1 0 1", "10,01"},
		{"1230,0101", "0101", "classes 0 0 0 0", "0,0"},
		{"1230,0101", "0101", "classes 0 1 2 3", "1230,0101"},
		{"10,00", "01", "beside 0", "102,002,012"},
		{"0", "0", "beside 0", "01,01"},
		{"10,00", "01", "beside 120,000", "10234,00234,01342,01222"},
		{"10,00", "01", "beside 120,000,111,012", "10234,00234,01342,01222,01333,01234"},
	} {
		checkLine(t, deskOf(k.list, k.f), k.line, k.output, fresh(listOf(strings.Split(k.output, ",")...)))
	}
}

func TestKnownMaps(t *testing.T) {
	for _, k := range []struct{ list, f, line, output string }{
		{"10,00", "10", "map 11", "11"},
		{"0", "0", "map 0", "0"},
		{"01234", "01234", "map 43210", "43210"},
		{"1201", "1201", "times 0233", "2302"},
		{"1201", "0233", "times 1201", "1011"},
		{"10", "00", "times 00", "00"},
		{"10", "00", "power 0", "01"},
		{"10", "00", "power 1", "00"},
		{"12040", "12040", "power 2", "20101"},
		{"120", "120", "power 999999999", "012"},
		{"120", "120", "power 100000000", "120"},
		{"120", "120", "power 200000000", "201"},
		{"1201,0233", "0000", "word", "0123"},
		{"1201,0233", "0000", "word 0", "1201"},
		{"1201,0233", "0000", "word 0 1", "2302"},
		{"1201,0233", "0000", "word 1 0", "1011"},
		{"1201,0233", "0000", "word 0 0 0 0 1", "2302"},
		{"10,00", "00", "word" + strings.Repeat(" 0", 99), "10"},
		{"10,00", "00", "word" + strings.Repeat(" 0", 100), "01"},
	} {
		checkLine(t, deskOf(k.list, k.f), k.line, k.output, deskOf(k.list, k.output))
	}
}

func TestReset(t *testing.T) {
	for _, d := range desksOfLists() {
		checkLine(t, d, "reset", "ok", newDeskByHand())
	}
	checkLine(t, newDeskByHand(), "reset", "ok", newDeskByHand())
	checkLine(t, deskOf("10,00", "01"), "reset", "ok", newDeskByHand())
}

func TestTheExampleOfTheConsole(t *testing.T) {
	checkLine(t, impl.NewDesk(), "elements", "00,01,10,11", newDeskByHand())
}

// saidOfMap, saidOfMaps, saidOfNumber, saidOfNumbers, saidOfLists and saidOfBool tell the output for
// what a function returns.
func saidOfMap(f impl.Map, code int64) string { return saidOfMaps([]impl.Map{f}, code) }

func saidOfMaps(maps []impl.Map, code int64) string {
	var texts []string
	for _, f := range maps {
		texts = append(texts, strings.Trim(fmt.Sprint(f.To[:f.Points]), "[]"))
	}
	return strings.ReplaceAll(saidOf(strings.Join(texts, ","), code), " ", "")
}

func saidOfNumber(number int64, code int64) string { return saidOf(fmt.Sprint(number), code) }

func saidOfNumbers(numbers []int64, code int64) string {
	return saidOf(strings.Trim(fmt.Sprint(numbers), "[]"), code)
}

func saidOfLists(lists [][]int64, code int64) string {
	var texts []string
	for _, list := range lists {
		texts = append(texts, saidOfNumbers(list, impl.ErrNone))
	}
	return saidOf(strings.Join(texts, ";"), code)
}

func saidOfBool(yes bool, code int64) string {
	return saidOf(map[bool]string{true: "yes", false: "no"}[yes], code)
}

func saidOf(text string, code int64) string {
	if code != impl.ErrNone {
		return "error"
	}
	if text == "" {
		return "none"
	}
	return text
}

// outputsOfPlainLines are what the functions say that the lines of the table name.
func outputsOfPlainLines(list []impl.Map, f impl.Map) map[string]string {
	return map[string]string{
		"show":        saidOfMaps(list, impl.ErrNone),
		"look":        saidOfMap(f, impl.ErrNone),
		"rank":        saidOfNumber(impl.RankOf(f)),
		"kernel":      saidOfNumbers(impl.KernelOf(f)),
		"elements":    saidOfMaps(impl.ElementsOf(list)),
		"size":        saidOfNumber(impl.SizeOf(list)),
		"find":        saidOfNumbers(impl.WordFor(list, f)),
		"units":       saidOfMaps(impl.UnitsOf(list)),
		"idempotents": saidOfMaps(impl.IdempotentsOf(list)),
		"centre":      saidOfMaps(impl.CentreOf(list)),
		"zero":        saidOfMap(impl.ZeroOf(list)),
		"ranks":       saidOfNumbers(impl.SizesByRank(list)),
		"lengths":     saidOfNumbers(impl.SizesByLength(list)),
		"least":       saidOfNumbers(impl.LeastGenerating(list)),
		"regular":     saidOfBool(impl.IsRegularMonoid(list)),
		"inverse":     saidOfBool(impl.IsInverseMonoid(list)),
		"inverses":    saidOfMaps(impl.InversesIn(list, f)),
		"under":       saidOfMaps(impl.ElementsBelow(list, f)),
		"right":       saidOfMaps(impl.RightIdeal(list, f)),
		"left":        saidOfMaps(impl.LeftIdeal(list, f)),
		"ideal":       saidOfMaps(impl.IdealOf(list, f)),
		"core":        saidOfMaps(impl.LeastIdeal(list)),
		"pairs":       saidOfLists(impl.PairCongruences(list)),
		"congruences": saidOfLists(impl.AllCongruences(list)),
		"table":       saidOfLists(impl.TableOf(list)),
		"parts":       saidOfLists(impl.StrongParts(list)),
		"transitive":  saidOfBool(impl.IsTransitive(list)),
		"primitive":   saidOfBool(impl.IsPrimitive(list)),
		"sets":        saidOfLists(impl.InvariantSets(list)),
		"partitions":  saidOfLists(impl.InvariantPartitions(list)),
		"fewest":      saidOfLists(impl.LeastImages(list)),
	}
}

func TestPlainLinesSayWhatTheirFunctionsReturn(t *testing.T) {
	for _, d := range desksOfLists() {
		outputs := outputsOfPlainLines(d.List, d.Map)
		for _, line := range plainLines() {
			checkLine(t, d, line, outputs[line], d)
		}
	}
}

// lineOf makes a line of a command and numbers.
func lineOf(command string, numbers ...int64) string {
	for _, number := range numbers {
		command += fmt.Sprint(" ", number)
	}
	return command
}

func TestLinesWithNumbersSayWhatTheirFunctionsReturn(t *testing.T) {
	for _, d := range desksOfLists() {
		n := d.List[0].Points
		for p := range n + 2 {
			checkLine(t, d, lineOf("orbit", p), saidOfNumbers(impl.OrbitOf(d.List, p)), d)
		}
		for _, set := range append(subsets(n), []int64{0, n}, []int64{1, 0}, []int64{0, 0}) {
			checkLine(t, d, lineOf("images", set...), saidOfLists(impl.ImagesOfSet(d.List, set)), d)
		}
		size, _ := impl.SizeOf(d.List)
		for _, pair := range [][]int64{{0, 0}, {0, 1}, {1, 0}, {2, 1}, {size - 1, 0}, {0, size}, {size, 0}, {size / 2, size - 1}} {
			if pair[0] >= 0 && pair[1] >= 0 {
				checkLine(t, d, lineOf("join", pair...), saidOfNumbers(impl.CongruenceOf(d.List, [][]int64{pair})), d)
			}
		}
	}
}

// checkTaken is for lines that give the desk a list that a function returns.
func checkTaken(t *testing.T, d impl.Desk, line string, list []impl.Map, code int64) {
	t.Helper()
	after := d
	if code == impl.ErrNone {
		after = fresh(list)
	}
	checkLine(t, d, line, saidOfMaps(list, code), after)
}

// checkHeld is for lines that give the desk a map that a function returns.
func checkHeld(t *testing.T, d impl.Desk, line string, f impl.Map, code int64) {
	t.Helper()
	after := d
	if code == impl.ErrNone {
		after = impl.Desk{List: d.List, Map: f}
	}
	checkLine(t, d, line, saidOfMap(f, code), after)
}

func TestLinesThatGiveListsSayWhatTheirFunctionsReturn(t *testing.T) {
	for _, d := range desksOfLists() {
		for _, partition := range append(partitionsByHand(d.List[0].Points), nil, []int64{0, 0, 2}, []int64{1, 0, 0, 0}) {
			list, code := impl.ListOfClasses(d.List, partition)
			checkTaken(t, d, lineOf("classes", partition...), list, code)
		}
		for _, beside := range []string{"0", "10", "10,00", "120,000,012", "0123", "0,0,0,0,0"} {
			list, code := impl.SideBySide(d.List, listOf(strings.Split(beside, ",")...))
			checkTaken(t, d, "beside "+beside, list, code)
		}
		for i := range d.List {
			line := lineOf("drop", int64(i))
			if len(d.List) > 1 {
				checkTaken(t, d, line, slices.Concat(d.List[:i], d.List[i+1:]), impl.ErrNone)
			} else {
				checkWrong(t, d, line)
			}
		}
		checkWrong(t, d, lineOf("drop", int64(len(d.List))))
		checkWrong(t, d, "drop 999999999")
	}
}

func TestLinesThatGiveMapsSayWhatTheirFunctionsReturn(t *testing.T) {
	for _, d := range desksOfLists() {
		maps := allMaps(d.List[0].Points)
		for i := range 4 {
			g := maps[i*31%len(maps)]
			text := saidOfMap(g, impl.ErrNone)
			checkHeld(t, d, "map "+text, g, impl.ErrNone)
			f, code := impl.ProductOf(d.Map, g)
			checkHeld(t, d, "times "+text, f, code)
			if len(d.List) < impl.MaxGenerators {
				checkTaken(t, d, "add "+text, append(slices.Clone(d.List), g), impl.ErrNone)
			} else {
				checkWrong(t, d, "add "+text)
			}
		}
		for _, k := range []int64{0, 1, 2, 3, 7, 60, 999999999} {
			f, code := impl.PowerOf(d.Map, k)
			checkHeld(t, d, lineOf("power", k), f, code)
		}
		last := int64(len(d.List) - 1)
		for _, word := range [][]int64{nil, {0}, {last}, {0, last}, {last, 0, 0}, {last + 1}, {0, last + 1}, make([]int64, 100), make([]int64, 101)} {
			f, code := impl.MapOfWord(d.List, word)
			checkHeld(t, d, lineOf("word", word...), f, code)
		}
	}
}

func TestEachLineOfTheTableIsProper(t *testing.T) {
	for _, line := range properLines() {
		_, output := impl.RunLine(quietDesk(), line)
		if output == "error" || output == "" {
			t.Errorf("RunLine %q = %q", line, output)
		}
	}
}

// TestWordsThatAreMissing leaves out the last words of lines. Only word and images still have all that
// they need then.
func TestWordsThatAreMissing(t *testing.T) {
	for _, line := range properLines() {
		words := strings.Split(line, " ")
		for count := 1; count < len(words); count++ {
			if words[0] != "word" && (words[0] != "images" || count == 1) {
				checkWrong(t, quietDesk(), strings.Join(words[:count], " "))
			}
		}
	}
	checkHeld(t, quietDesk(), "word", digits("0123"), impl.ErrNone)
}

// TestWordsThatAreTooMany puts empty and other words between those of lines, and ahead of them and
// behind them.
func TestWordsThatAreTooMany(t *testing.T) {
	for _, line := range properLines() {
		words := strings.Split(line, " ")
		for at := range len(words) + 1 {
			for _, more := range []string{"", "x", "-1", "01", "10,00x", "\t"} {
				checkWrong(t, quietDesk(), strings.Join(slices.Insert(slices.Clone(words), at, more), " "))
			}
		}
		if words[0] != "word" {
			checkWrong(t, quietDesk(), line+" 0")
		}
		checkWrong(t, quietDesk(), line+" 0123")
		checkWrong(t, quietDesk(), line+" "+line)
	}
}

func TestLinesThatAreNone(t *testing.T) {
	lines := []string{"", " ", "  ", "fly", "0", "10,00", "none", "ok", "error", "\x00", "\xff", "\n", "\nshow", "shów", "run", "commands", "List"}
	for _, line := range properLines() {
		command, rest, _ := strings.Cut(line, " ")
		lines = append(lines, strings.ToUpper(command)+line[len(command):], "s"+line, command[1:]+line[len(command):], command+"x"+line[len(command):],
			command+"\t"+rest, command+","+rest, command+"\u00a0"+rest, line+"\n", line+"\r", line+"\t", "\t"+line, "\ufeff"+line)
	}
	for _, line := range lines {
		checkWrong(t, quietDesk(), line)
		checkWrong(t, deskOf("10,00", "01"), line)
	}
}

// TestNumbersOfLines writes each number of a line in ways in which none is written.
func TestNumbersOfLines(t *testing.T) {
	for _, line := range []string{"drop 1", "drop 0", "classes 0 1 1 2", "power 3", "power 10", "word 0 1", "join 0 1", "orbit 1", "images 0 2"} {
		words := strings.Split(line, " ")
		for at := 1; at < len(words); at++ {
			number := words[at]
			for _, no := range []string{
				"0" + number, "000000000" + number, "00000000" + number, "+" + number, "-" + number, "-", "+", "", "x", number + "x", "x" + number,
				number + ".", number + ".0", number + "e0", "0x" + number, "0b" + number, "0o" + number, number + "_0", number + ",", "1_0",
				number + "\x00", "\t" + number, "\u0661", "\uff11", "1000000000", "9999999999", "4294967296", "18446744073709551616",
				"18446744073709551617", "99999999999999999999", "-9223372036854775808", strings.Repeat("9", 500),
			} {
				checkWrong(t, quietDesk(), strings.Join(slices.Replace(slices.Clone(words), at, at+1, no), " "))
			}
		}
	}
}

func TestNumbersOfNineDigitsAndOfTen(t *testing.T) {
	d := deskOf("12340", "12340")
	for _, k := range []int64{0, 5, 9, 10, 99, 100, 123456789, 100000000, 999999999} {
		f, _ := impl.PowerOf(d.Map, k)
		checkHeld(t, d, lineOf("power", k), f, impl.ErrNone)
	}
	for _, number := range []string{"1000000000", "1000000001", "9999999999", "0123456789", "0999999999"} {
		checkWrong(t, d, "power "+number)
	}
	for _, command := range []string{"drop", "classes", "word", "orbit", "images", "join 0", "join"} {
		checkWrong(t, d, command+" 999999999")
	}
}

// textsOfNoMaps are no texts of maps.
func textsOfNoMaps() []string {
	return []string{"", "2", "5", "02", "33", "0124", "01235", "0000a", "-1", "+0", "0-", "x", "0.", "012345", "000000", "10;00", "10.00", "1\x00",
		"\u0660", "\uff10", "none", strings.Repeat("0", 1000)}
}

func TestTextsOfNoMaps(t *testing.T) {
	for _, d := range []impl.Desk{newDeskByHand(), deskOf("0", "0"), quietDesk(), deskOf("12340", "01234")} {
		good := saidOfMap(d.Map, impl.ErrNone)
		for _, no := range textsOfNoMaps() {
			for _, command := range []string{"list ", "add ", "beside ", "map ", "times "} {
				checkWrong(t, d, command+no)
			}
			for _, command := range []string{"list ", "beside "} {
				checkWrong(t, d, command+no+","+good)
				checkWrong(t, d, command+good+","+no)
				checkWrong(t, d, command+good+","+no+","+good)
			}
		}
		for _, command := range []string{"add ", "map ", "times "} {
			checkWrong(t, d, command+good+","+good)
		}
	}
}

func TestTextsOfMapsThatAreNoList(t *testing.T) {
	six := strings.Repeat("0,", 5) + "0"
	for _, text := range []string{"10,0", "0,10", "10,00,120", "01234,0123", "10,00,01,11,10,000", six + ",0", six + "," + six, six + ",00"} {
		for _, d := range []impl.Desk{newDeskByHand(), deskOf("0", "0"), quietDesk()} {
			checkWrong(t, d, "list "+text)
			checkWrong(t, d, "beside "+text)
		}
	}
}

func TestListsThatBecomeNoList(t *testing.T) {
	for _, k := range []struct{ list, f, line string }{
		{"10,00", "01", "add 0"},
		{"10,00", "01", "add 120"},
		{"0", "0", "add 00"},
		{"10,00,01,11,10,00", "01", "add 10"},
		{"0,0,0,0,0,0", "0", "add 0"},
		{"10", "01", "drop 0"},
		{"10", "01", "drop 1"},
		{"10,00", "01", "drop 2"},
		{"10,00", "01", "drop 3"},
		{"1230,0101", "0123", "classes"},
		{"1230,0101", "0123", "classes 0 1"},
		{"1230,0101", "0123", "classes 0 0 1 1"},
		{"1230,0101", "0123", "classes 1 0 1 0"},
		{"1230,0101", "0123", "classes 0 2 0 2"},
		{"1230,0101", "0123", "classes 0 1 0 1 0"},
		{"10,00", "01", "beside 0123"},
		{"01234", "01234", "beside 0"},
		{"10,00", "01", "beside 0,0,0,0,0"},
		{"0,0,0,0,0,0", "0", "beside 0"},
		{"10,00", "01", "images"},
	} {
		checkWrong(t, deskOf(k.list, k.f), k.line)
	}
}

func TestMapsWithOtherNumbersOfPointsAreNotTaken(t *testing.T) {
	identities := []string{"0", "01", "012", "0123", "01234"}
	for i, list := range identities {
		for k, f := range identities {
			if i != k {
				checkWrong(t, deskOf(list, list), "map "+f)
				checkWrong(t, deskOf(list, list), "times "+f)
				checkWrong(t, deskOf(list, list), "add "+f)
			}
		}
	}
}

// scripts are lists of at most MaxLines lines, proper ones and wrong ones, that come in many orders.
func scripts() [][]string {
	lines := append(properLines(), "", "fly", "list 1230,0101", "add 1111", "drop 0", "list 120,000,012", "beside 10", "classes 0 1 0 1",
		"classes 0 0 1", "word 1 0", "times 000", "times 10", "map 00", "list 10,0", "add 0", "power 01", "show ", "images", "orbit 4", "join 0 9")
	var all [][]string
	for step := 1; step < len(lines); step++ {
		for first := range 8 {
			var script []string
			for i := range first * 5 {
				script = append(script, lines[(first+i*step)%len(lines)])
			}
			all = append(all, script)
		}
	}
	return all
}

func TestPromise11LinesLeadFromDesksToDesks(t *testing.T) {
	for _, script := range scripts() {
		d := impl.NewDesk()
		for _, line := range script {
			before := copyOfDesk(d)
			after, output := impl.RunLine(d, line)
			what := fmt.Sprintf("RunLine %v %q", before, line)
			checkDesk(t, what+", before it", d, before)
			if output == "" || strings.Contains(output, "\n") || !impl.IsDesk(after) {
				t.Errorf("%s = %v, %q", what, after, output)
			}
			if output == "error" {
				checkDesk(t, what, after, before)
			}
			d = after
		}
	}
}

func TestPromise11TheConsoleJoinsTheOutputsOfItsLines(t *testing.T) {
	for _, script := range scripts() {
		d, outputs := impl.NewDesk(), ""
		for _, line := range script {
			if line != "" {
				after, output := impl.RunLine(d, line)
				d, outputs = after, outputs+output+"\n"
			}
		}
		text := strings.Join(script, "\n")
		checkConsole(t, text+"\n", outputs, d)
		checkConsole(t, text, outputs, d)
	}
}

func checkConsole(t *testing.T, text string, outputs string, want impl.Desk) {
	t.Helper()
	if got := impl.Console(text); got != outputs {
		t.Errorf("Console %q = %q, want %q", text, got, outputs)
	}
	d, taken := impl.DeskAfter(text)
	if !taken {
		t.Errorf("DeskAfter %q does not take the text", text)
	}
	checkDesk(t, fmt.Sprintf("DeskAfter %q", text), d, want)
}

func checkRefused(t *testing.T, text string) {
	t.Helper()
	if got := impl.Console(text); got != "" {
		t.Errorf("Console %q = %q", text, got)
	}
	d, taken := impl.DeskAfter(text)
	if taken || !sameDesks(d, impl.Desk{}) {
		t.Errorf("DeskAfter %q = %v, %v", text, d, taken)
	}
}

func TestTextsOfTheConsole(t *testing.T) {
	for _, k := range []struct{ text, outputs, list, f string }{
		{"", "", "10,00", "10"},
		{"\n", "", "10,00", "10"},
		{"\n\n\n", "", "10,00", "10"},
		{"show", "10,00\n", "10,00", "10"},
		{"show\n", "10,00\n", "10,00", "10"},
		{"\nshow", "10,00\n", "10,00", "10"},
		{"\n\nshow\n\n\nlook\n\n", "10,00\n10\n", "10,00", "10"},
		{" ", "error\n", "10,00", "10"},
		{" \n", "error\n", "10,00", "10"},
		{"\n \n\n", "error\n", "10,00", "10"},
		{"show\r\nlook", "error\n10\n", "10,00", "10"},
		{"show\n look\nlook \nlook", "10,00\nerror\nerror\n10\n", "10,00", "10"},
		{"map 01\nshow\nlook\nfly\nlook", "01\n10,00\n01\nerror\n01\n", "10,00", "01"},
		{"list 120,000\nword 1\ndrop 5\ncore\nfind", "120,000\n000\nerror\n000,111,222\n1\n", "120,000", "000"},
		{"list 120,000\nword 1\nadd 012", "120,000\n000\n120,000,012\n", "120,000,012", "120"},
		{"list 1230,0101\nclasses 0 1 0 1\nelements\nbeside 0\nmap 210", "1230,0101\n10,01\n01,10\n102,012,012\n210\n", "102,012,012", "210"},
		{"list 012\nleast\nreset\nleast\nlist 0\npairs", "012\nnone\nok\n0 1\n0\nnone\n", "0", "0"},
		{"map 00\nreset", "00\nok\n", "10,00", "10"},
		{"Console", "error\n", "10,00", "10"},
	} {
		checkConsole(t, k.text, k.outputs, deskOf(k.list, k.f))
	}
}

// textOfBytes has so many bytes: a proper line, and a wrong one.
func textOfBytes(count int) string {
	const proper = "map 01\n"
	return proper + strings.Repeat("x", count-len(proper))
}

func TestTextsOfMaxConsoleBytesAndOfMore(t *testing.T) {
	d := deskOf("10,00", "01")
	checkConsole(t, textOfBytes(impl.MaxConsole-1), "01\nerror\n", d)
	checkConsole(t, textOfBytes(impl.MaxConsole), "01\nerror\n", d)
	checkConsole(t, textOfBytes(impl.MaxConsole-1)+"\n", "01\nerror\n", d)
	checkConsole(t, textOfBytes(impl.MaxConsole-6)+"\nlook\n", "01\nerror\n01\n", d)
	checkConsole(t, strings.Repeat("é", impl.MaxConsole/2), "error\n", newDeskByHand())
	checkRefused(t, textOfBytes(impl.MaxConsole+1))
	checkRefused(t, textOfBytes(impl.MaxConsole)+"\n")
	checkRefused(t, textOfBytes(impl.MaxConsole-5)+"\nlook\n")
	checkRefused(t, textOfBytes(100*impl.MaxConsole))
	checkRefused(t, strings.Repeat("é", impl.MaxConsole/2)+"x")
	checkRefused(t, strings.Repeat("\n", impl.MaxConsole+1))
}

func TestTextsOfMaxLinesAndOfMore(t *testing.T) {
	ends := strings.Repeat("\n", impl.MaxLines)
	looks, outputs := strings.Repeat("look\n", impl.MaxLines), strings.Repeat("10\n", impl.MaxLines)
	checkConsole(t, looks, outputs, newDeskByHand())
	checkConsole(t, strings.TrimSuffix(looks, "\n"), outputs, newDeskByHand())
	checkConsole(t, ends, "", newDeskByHand())
	checkConsole(t, ends[1:]+"look", "10\n", newDeskByHand())
	checkConsole(t, ends[1:]+"look\n", "10\n", newDeskByHand())
	checkConsole(t, "map 11"+ends, "11\n", deskOf("10,00", "11"))
	checkRefused(t, looks+"look")
	checkRefused(t, looks+"look\n")
	checkRefused(t, looks+" ")
	checkRefused(t, looks+"\n")
	checkRefused(t, "\n"+looks)
	checkRefused(t, ends+"\n")
	checkRefused(t, ends+"look")
	checkRefused(t, "map 11"+ends+"\n")
	checkRefused(t, strings.Repeat("\n", impl.MaxConsole))
}

// TestLinesMayBeLong has lines that are longer than the texts of the console.
func TestLinesMayBeLong(t *testing.T) {
	d := newDeskByHand()
	for _, line := range []string{
		"list " + strings.Repeat("0,", 100000) + "0", "beside " + strings.Repeat(",", 100000), "word" + strings.Repeat(" 0", 100000),
		"classes" + strings.Repeat(" 0", 100000), "images" + strings.Repeat(" 1", 100000), strings.Repeat(" ", 100000), strings.Repeat("show", 100000),
	} {
		checkWrong(t, d, line)
	}
}

// TestDesksShareNoMemory writes to the desks after lines, and looks at the desk before them and what is
// behind it.
func TestDesksShareNoMemory(t *testing.T) {
	for _, line := range append(properLines(), "fly", "", "word", "add 0", "drop 9", "drop 0") {
		store := listOf("0213", "0000", "3333", "2222")
		d := impl.Desk{List: store[:2], Map: digits("0213")}
		after, output := impl.RunLine(d, line)
		want := copyOfDesk(after)
		checkMaps(t, "the list behind "+line, store, listOf("0213", "0000", "3333", "2222"))
		clear(after.List[:cap(after.List)])
		checkMaps(t, "the list behind "+line+" with another desk changed", store, listOf("0213", "0000", "3333", "2222"))
		checkLine(t, d, line, output, want)
		after, _ = impl.RunLine(d, line)
		clear(store)
		checkDesk(t, line+" with the desk before it changed", after, want)
	}
	for _, text := range []string{"", "list 120,000", "fly", "reset", "add 11\ndrop 0"} {
		d, _ := impl.DeskAfter(text)
		want := copyOfDesk(d)
		clear(d.List[:cap(d.List)])
		again, _ := impl.DeskAfter(text)
		checkDesk(t, fmt.Sprintf("DeskAfter %q the second time", text), again, want)
	}
}

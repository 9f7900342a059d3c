package tests

import (
	"cmp"
	"fmt"
	"runtime"
	"slices"
	"testing"

	"loop.example/g01359/impl"
)

// pairedByHand is a list with the products of the elements of its monoid, by their numbers.
type pairedByHand struct {
	list     []impl.Map
	products [][]int64
}

func pairByHand(list []impl.Map) pairedByHand {
	elements := elementsByHand(list)
	m := pairedByHand{list: list}
	for _, f := range elements {
		var row []int64
		for _, g := range elements {
			row = append(row, int64(slices.Index(elements, byHand(f, g))))
		}
		m.products = append(m.products, row)
	}
	return m
}

// listsOfMaxPaired make monoids of just MaxPaired elements.
func listsOfMaxPaired() [][]impl.Map {
	return [][]impl.Map{listOf("00123", "21140"), listOf("3303", "0330", "3111", "0331")}
}

// listsAbovePaired make monoids of more than MaxPaired elements, the first ones just one more.
func listsAbovePaired() [][]impl.Map {
	return [][]impl.Map{
		listOf("0022", "3002"),
		listOf("2330", "3030", "0222"),
		listOf("02344", "32424", "23422"),
		listOf("1230", "1023", "0012"),
		listOf("12340", "10234"),
		listOfMaxElements(),
	}
}

// listsOfMaxLattice make monoids of just MaxLattice elements.
func listsOfMaxLattice() [][]impl.Map {
	return [][]impl.Map{
		listOf("0110", "0100", "0012", "0000", "0020", "0112"),
		listOf("00030", "00023", "00210", "00001"),
		listOf("00202", "00004", "01200", "01001", "00031"),
	}
}

// listsAboveLattice make monoids of more than MaxLattice elements, the first ones just one more,
// and of at most MaxPaired elements.
func listsAboveLattice() [][]impl.Map {
	return slices.Concat([][]impl.Map{listOf("1013", "0213"), listOf("01020", "00102", "01102"), listOf("120", "102", "002")}, listsOfMaxPaired())
}

// listsOfMaxCongruences make monoids of at most MaxLattice elements with just MaxCongruences
// congruences.
func listsOfMaxCongruences() [][]impl.Map {
	return [][]impl.Map{
		listOf("01201", "00200", "00031", "00133", "00103"),
		listOf("00010", "00104", "00210", "00001", "00210", "00221"),
	}
}

// listsAboveCongruences make monoids of at most MaxLattice elements with more than MaxCongruences
// congruences: 301, 302, and 878 (of 8 elements; all products but those of the identity are one).
func listsAboveCongruences() [][]impl.Map {
	return [][]impl.Map{
		listOf("01100", "00031", "00000", "00121", "00131"),
		listOf("00133", "00130", "00100", "00212"),
		listOf("00001", "00002", "00010", "00020", "00011", "00022"),
	}
}

// pairedMonoids are different monoids of at most so many elements.
func pairedMonoids(most int) []pairedByHand {
	var monoids []pairedByHand
	met := map[string]bool{}
	lists := slices.Concat(smallLists(), greaterLists(), listsOfOddClasses(), listsOfMaxPaired(), listsOfMaxLattice(),
		listsAboveLattice(), listsOfMaxCongruences(), listsAboveCongruences(), [][]impl.Map{
			listOf("00001", "00002", "00010", "00020", "00011"),
			listOf("1000", "0122", "3333"),
			listOf("0011", "0022", "0000"),
		})
	for _, list := range lists {
		elements := elementsByHand(list)
		if key := fmt.Sprint(elements); len(elements) <= most && !met[key] {
			met[key] = true
			monoids = append(monoids, pairByHand(list))
		}
	}
	return monoids
}

// pairs are all pairs of two different elements.
func (m pairedByHand) pairs() [][]int64 {
	var pairs [][]int64
	for a := range m.products {
		for b := range a {
			pairs = append(pairs, []int64{int64(b), int64(a)})
		}
	}
	return pairs
}

// somePairs are lists of 1 to 10 pairs.
func (m pairedByHand) somePairs() [][][]int64 {
	pairs := m.pairs()
	var lists [][][]int64
	for _, i := range some(len(pairs)) {
		pair := pairs[i]
		lists = append(lists, [][]int64{pair}, [][]int64{{pair[1], pair[0]}})
		var more [][]int64
		for k := range 2 + i%9 {
			more = append(more, pairs[i*(k+1)*7%len(pairs)])
		}
		lists = append(lists, more)
	}
	return lists
}

// madeBy brings elements together until nothing more has to be. Each class goes by its least
// element.
func (m pairedByHand) madeBy(pairs [][]int64, left bool) []int64 {
	var leasts []int64
	for i := range m.products {
		leasts = append(leasts, int64(i))
	}
	changed := true
	bring := func(a int64, b int64) {
		from, to := max(leasts[a], leasts[b]), min(leasts[a], leasts[b])
		if from == to {
			return
		}
		changed = true
		for i, least := range leasts {
			if least == from {
				leasts[i] = to
			}
		}
	}
	for _, pair := range pairs {
		bring(pair[0], pair[1])
	}
	for changed {
		changed = false
		for a, least := range leasts {
			for c := range leasts {
				bring(m.products[a][c], m.products[least][c])
				if left {
					bring(m.products[c][a], m.products[c][least])
				}
			}
		}
	}
	var classes []int64
	next := int64(0)
	for i, least := range leasts {
		if least == int64(i) {
			classes = append(classes, next)
			next++
		} else {
			classes = append(classes, classes[least])
		}
	}
	return classes
}

// keeps looks at classes of all elements, or of the first ones, as the definition tells. Products
// that are no such elements are left out.
func (m pairedByHand) keeps(classes []int64, right bool, left bool) bool {
	apart := func(f int64, g int64) bool {
		return max(f, g) < int64(len(classes)) && classes[f] != classes[g]
	}
	for a := range classes {
		for b := range a {
			if classes[a] != classes[b] {
				continue
			}
			for c := range m.products {
				if right && apart(m.products[a][c], m.products[b][c]) || left && apart(m.products[c][a], m.products[c][b]) {
					return false
				}
			}
		}
	}
	return true
}

// classesWhere tells, in lexicographic order, all classes of n elements that pass together with all
// their beginnings.
func classesWhere(n int, passes func(classes []int64) bool) [][]int64 {
	all := [][]int64{{}}
	for range n {
		var longer [][]int64
		for _, classes := range all {
			next := int64(0)
			if len(classes) > 0 {
				next = slices.Max(classes) + 1
			}
			for number := range next + 1 {
				extended := append(slices.Clone(classes), number)
				if passes(extended) {
					longer = append(longer, extended)
				}
			}
		}
		all = longer
	}
	return all
}

func (m pairedByHand) congruences() [][]int64 {
	all := classesWhere(len(m.products), func(classes []int64) bool { return m.keeps(classes, true, true) })
	orderClasses(all)
	return all
}

func orderClasses(all [][]int64) {
	slices.SortFunc(all, func(a []int64, b []int64) int {
		return cmp.Or(cmp.Compare(slices.Max(b), slices.Max(a)), slices.Compare(a, b))
	})
}

func isFinerByHand(a []int64, b []int64) bool {
	for i := range a {
		for k := range i {
			if a[i] == a[k] && b[i] != b[k] {
				return false
			}
		}
	}
	return true
}

func trivialClasses(n int) []int64 {
	var classes []int64
	for i := range n {
		classes = append(classes, int64(i))
	}
	return classes
}

// checkMade checks that classes are a right congruence, or a congruence, with these pairs.
func checkMade(t *testing.T, m pairedByHand, pairs [][]int64, classes []int64, left bool) {
	t.Helper()
	if len(classes) != len(m.products) || !m.keeps(classes, true, left) {
		t.Fatalf("%v: the pairs %v make %v", m.list, pairs, classes)
	}
	for _, pair := range pairs {
		if classes[pair[0]] != classes[pair[1]] {
			t.Fatalf("%v: the pairs %v make %v, with %v apart", m.list, pairs, classes, pair)
		}
	}
	right, code := impl.IsRightCongruence(m.list, classes)
	if !right || code != impl.ErrNone {
		t.Fatalf("IsRightCongruence(%v, %v) = %v, %d", m.list, classes, right, code)
	}
	both, code := impl.IsCongruence(m.list, classes)
	if left && !both || code != impl.ErrNone {
		t.Fatalf("IsCongruence(%v, %v) = %v, %d", m.list, classes, both, code)
	}
}

func TestPromise6CongruencesMadeByPairsAreCongruencesWithThesePairs(t *testing.T) {
	for _, m := range pairedMonoids(impl.MaxPaired) {
		for _, pairs := range m.somePairs() {
			classes, code := impl.CongruenceOf(m.list, pairs)
			checkCode(t, fmt.Sprint("CongruenceOf ", m.list, pairs), code, impl.ErrNone)
			checkMade(t, m, pairs, classes, true)
			right, code := impl.RightCongruence(m.list, pairs)
			checkCode(t, fmt.Sprint("RightCongruence ", m.list, pairs), code, impl.ErrNone)
			checkMade(t, m, pairs, right, false)
			if !isFinerByHand(right, classes) {
				t.Fatalf("RightCongruence(%v, %v) = %v, and CongruenceOf %v", m.list, pairs, right, classes)
			}
		}
	}
}

// checkMadeByHand compares what pairs make with the finest classes that have to be.
func checkMadeByHand(t *testing.T, m pairedByHand, pairs [][]int64) {
	t.Helper()
	right, code := impl.RightCongruence(m.list, pairs)
	checkCode(t, "RightCongruence", code, impl.ErrNone)
	checkList(t, fmt.Sprint("RightCongruence ", m.list, pairs), right, m.madeBy(pairs, false))
	both, code := impl.CongruenceOf(m.list, pairs)
	checkCode(t, "CongruenceOf", code, impl.ErrNone)
	checkList(t, fmt.Sprint("CongruenceOf ", m.list, pairs), both, m.madeBy(pairs, true))
}

func TestCongruencesMadeByPairsAreTheFinest(t *testing.T) {
	for _, m := range pairedMonoids(impl.MaxPaired) {
		for _, pairs := range m.somePairs() {
			checkMadeByHand(t, m, pairs)
		}
		last := int64(len(m.products) - 1)
		for _, pairs := range [][][]int64{nil, {}, {{last, last}}, {{0, 0}, {last, last}}} {
			checkMadeByHand(t, m, pairs)
			classes, _ := impl.CongruenceOf(m.list, pairs)
			checkList(t, fmt.Sprint("CongruenceOf ", m.list, pairs), classes, trivialClasses(len(m.products)))
		}
	}
}

// TestKnownCongruences has the elements 00, 01, 10, 11; the permutations of three points in order;
// and the identity alone.
func TestKnownCongruences(t *testing.T) {
	two, three := listOf("10", "00"), listOf("120", "102")
	for _, k := range []struct {
		list        []impl.Map
		pairs       [][]int64
		right, both []int64
	}{
		{two, nil, []int64{0, 1, 2, 3}, []int64{0, 1, 2, 3}},
		{two, [][]int64{{2, 2}}, []int64{0, 1, 2, 3}, []int64{0, 1, 2, 3}},
		{two, [][]int64{{1, 2}}, []int64{0, 1, 1, 2}, []int64{0, 1, 1, 0}},
		{two, [][]int64{{0, 3}}, []int64{0, 1, 2, 0}, []int64{0, 1, 2, 0}},
		{two, [][]int64{{0, 1}}, []int64{0, 0, 1, 1}, []int64{0, 0, 0, 0}},
		{two, [][]int64{{2, 1}, {1, 1}, {0, 3}}, []int64{0, 1, 1, 0}, []int64{0, 1, 1, 0}},
		{two, [][]int64{{0, 1}, {2, 3}, {3, 0}}, []int64{0, 0, 0, 0}, []int64{0, 0, 0, 0}},
		{three, [][]int64{{0, 1}}, []int64{0, 0, 1, 1, 2, 2}, []int64{0, 0, 0, 0, 0, 0}},
		{three, [][]int64{{4, 3}}, []int64{0, 1, 1, 0, 0, 1}, []int64{0, 1, 1, 0, 0, 1}},
		{listOf("0"), nil, []int64{0}, []int64{0}},
		{listOf("01234"), [][]int64{{0, 0}}, []int64{0}, []int64{0}},
	} {
		right, code := impl.RightCongruence(k.list, k.pairs)
		checkCode(t, "RightCongruence", code, impl.ErrNone)
		checkList(t, fmt.Sprint("RightCongruence ", k.list, k.pairs), right, k.right)
		both, code := impl.CongruenceOf(k.list, k.pairs)
		checkCode(t, "CongruenceOf", code, impl.ErrNone)
		checkList(t, fmt.Sprint("CongruenceOf ", k.list, k.pairs), both, k.both)
	}
}

// checkTests compares both tests of classes with the definition.
func checkTests(t *testing.T, m pairedByHand, classes []int64) {
	t.Helper()
	right, code := impl.IsRightCongruence(m.list, classes)
	if want := m.keeps(classes, true, false); right != want || code != impl.ErrNone {
		t.Fatalf("IsRightCongruence(%v, %v) = %v, %d, want %v", m.list, classes, right, code, want)
	}
	both, code := impl.IsCongruence(m.list, classes)
	if want := m.keeps(classes, true, true); both != want || code != impl.ErrNone {
		t.Fatalf("IsCongruence(%v, %v) = %v, %d, want %v", m.list, classes, both, code, want)
	}
}

func TestAllClassesOfSmallMonoids(t *testing.T) {
	oneSided := 0
	for _, m := range pairedMonoids(7) {
		for _, classes := range classesWhere(len(m.products), func([]int64) bool { return true }) {
			checkTests(t, m, classes)
			if m.keeps(classes, true, false) != m.keeps(classes, false, true) {
				oneSided++
			}
		}
	}
	if oneSided < 100 {
		t.Error("only", oneSided, "classes are kept on one side")
	}
}

// TestClassesOfGreaterMonoids also takes one element at a time out of its class, or into the class of
// the first element.
func TestClassesOfGreaterMonoids(t *testing.T) {
	for _, m := range pairedMonoids(impl.MaxPaired) {
		n := len(m.products)
		checkTests(t, m, trivialClasses(n))
		checkTests(t, m, make([]int64, n))
		for _, pairs := range m.somePairs()[:min(9, len(m.somePairs()))] {
			made := m.madeBy(pairs, len(pairs) > 1)
			checkTests(t, m, made)
			for at := 1; at < n; at++ {
				into := slices.Clone(made)
				into[at] = 0
				checkTests(t, m, numberedByHand(into))
				into[at] = int64(n)
				checkTests(t, m, numberedByHand(into))
			}
		}
	}
}

func numberedByHand(names []int64) []int64 {
	var numbers, met []int64
	for _, name := range names {
		if !slices.Contains(met, name) {
			met = append(met, name)
		}
		numbers = append(numbers, int64(slices.Index(met, name)))
	}
	return numbers
}

func TestKnownTestsOfClasses(t *testing.T) {
	two, three := listOf("10", "00"), listOf("120", "102")
	for _, k := range []struct {
		list        []impl.Map
		classes     []int64
		right, both bool
	}{
		{two, []int64{0, 1, 2, 3}, true, true},
		{two, []int64{0, 0, 0, 0}, true, true},
		{two, []int64{0, 1, 2, 0}, true, true},
		{two, []int64{0, 1, 1, 0}, true, true},
		{two, []int64{0, 1, 1, 2}, true, false},
		{two, []int64{0, 0, 1, 1}, true, false},
		{two, []int64{0, 1, 0, 1}, true, false},
		{two, []int64{0, 0, 1, 2}, false, false},
		{two, []int64{0, 0, 0, 1}, false, false},
		{three, []int64{0, 0, 1, 1, 2, 2}, true, false},
		{three, []int64{0, 1, 1, 0, 0, 1}, true, true},
		{three, []int64{0, 0, 1, 2, 1, 2}, false, false},
		{listOf("0"), []int64{0}, true, true},
	} {
		right, code := impl.IsRightCongruence(k.list, k.classes)
		if right != k.right || code != impl.ErrNone {
			t.Errorf("IsRightCongruence(%v, %v) = %v, %d", k.list, k.classes, right, code)
		}
		both, code := impl.IsCongruence(k.list, k.classes)
		if both != k.both || code != impl.ErrNone {
			t.Errorf("IsCongruence(%v, %v) = %v, %d", k.list, k.classes, both, code)
		}
	}
}

// joinByHand looks at all congruences in order, so the first one that both are finer than is the
// join, because it has the most classes.
func joinByHand(all [][]int64, a []int64, b []int64) []int64 {
	at := slices.IndexFunc(all, func(c []int64) bool { return isFinerByHand(a, c) && isFinerByHand(b, c) })
	return all[at]
}

func meetByHand(a []int64, b []int64) []int64 {
	var names []int64
	for i := range a {
		names = append(names, a[i]*impl.MaxPaired+b[i])
	}
	return numberedByHand(names)
}

func checkJoinAndMeet(t *testing.T, m pairedByHand, a []int64, b []int64, wantedJoin []int64) {
	t.Helper()
	join, code := impl.JoinCongruences(m.list, a, b)
	checkCode(t, "JoinCongruences", code, impl.ErrNone)
	checkList(t, fmt.Sprint("JoinCongruences ", m.list, a, b), join, wantedJoin)
	meet, code := impl.MeetCongruences(m.list, a, b)
	checkCode(t, "MeetCongruences", code, impl.ErrNone)
	checkList(t, fmt.Sprint("MeetCongruences ", m.list, a, b), meet, meetByHand(a, b))
	if !m.keeps(join, true, true) || !m.keeps(meet, true, true) {
		t.Fatalf("the join %v and the meet %v of %v and %v are no congruences of %v", join, meet, a, b, m.list)
	}
}

func TestJoinsAndMeets(t *testing.T) {
	for _, m := range pairedMonoids(8) {
		all := m.congruences()
		for _, i := range some(len(all)) {
			for _, k := range some(len(all)) {
				checkJoinAndMeet(t, m, all[i], all[k], joinByHand(all, all[i], all[k]))
			}
		}
	}
	for _, m := range pairedMonoids(impl.MaxPaired) {
		lists := m.somePairs()
		for _, i := range some(len(lists)) {
			one, other := lists[i], lists[len(lists)-1-i]
			checkJoinAndMeet(t, m, m.madeBy(one, true), m.madeBy(other, true), m.madeBy(slices.Concat(one, other), true))
		}
	}
}

func TestKnownJoinsMeetsAndQuotients(t *testing.T) {
	six, constants := listOf("12043"), listOf("00000", "11111", "22222", "33333")
	halves, thirds := []int64{0, 1, 0, 1, 0, 1}, []int64{0, 0, 1, 1, 2, 2}
	for _, k := range []struct {
		list             []impl.Map
		a, b, join, meet []int64
	}{
		{six, halves, thirds, []int64{0, 0, 0, 0, 0, 0}, []int64{0, 1, 2, 3, 4, 5}},
		{six, thirds, thirds, thirds, thirds},
		{constants, []int64{0, 1, 0, 2, 3}, []int64{0, 1, 2, 0, 3}, []int64{0, 1, 0, 0, 2}, []int64{0, 1, 2, 3, 4}},
		{constants, []int64{0, 1, 0, 0, 2}, []int64{0, 1, 2, 0, 3}, []int64{0, 1, 0, 0, 2}, []int64{0, 1, 2, 0, 3}},
		{listOf("10", "00"), []int64{0, 1, 2, 0}, []int64{0, 1, 1, 0}, []int64{0, 1, 1, 0}, []int64{0, 1, 2, 0}},
		{listOf("0"), []int64{0}, []int64{0}, []int64{0}, []int64{0}},
	} {
		if len(k.a) != len(pairByHand(k.list).products) {
			t.Fatal("the monoid of", k.list, "has not", len(k.a), "elements")
		}
		join, code := impl.JoinCongruences(k.list, k.a, k.b)
		checkCode(t, fmt.Sprint("JoinCongruences ", k.list, k.a, k.b), code, impl.ErrNone)
		checkList(t, fmt.Sprint("JoinCongruences ", k.list, k.a, k.b), join, k.join)
		meet, code := impl.MeetCongruences(k.list, k.a, k.b)
		checkCode(t, fmt.Sprint("MeetCongruences ", k.list, k.a, k.b), code, impl.ErrNone)
		checkList(t, fmt.Sprint("MeetCongruences ", k.list, k.a, k.b), meet, k.meet)
	}
	for _, k := range []struct {
		list    []impl.Map
		classes []int64
		want    [][]int64
	}{
		{listOf("10", "00"), []int64{0, 1, 2, 0}, [][]int64{{0, 0, 0}, {0, 1, 2}, {0, 2, 1}}},
		{listOf("10", "00"), []int64{0, 1, 2, 3}, [][]int64{{0, 0, 3, 3}, {0, 1, 2, 3}, {0, 2, 1, 3}, {0, 3, 0, 3}}},
		{listOf("10", "00"), []int64{0, 0, 0, 0}, [][]int64{{0}}},
		{listOf("120", "102"), []int64{0, 1, 1, 0, 0, 1}, [][]int64{{0, 1}, {1, 0}}},
		{six, halves, [][]int64{{0, 1}, {1, 0}}},
		{listOf("0"), []int64{0}, [][]int64{{0}}},
	} {
		table, code := impl.QuotientTable(k.list, k.classes)
		checkCode(t, fmt.Sprint("QuotientTable ", k.list, k.classes), code, impl.ErrNone)
		checkLists(t, fmt.Sprint("QuotientTable ", k.list, k.classes), table, k.want)
	}
}

// checkQuotient looks at the products of all elements, not just of some of each class.
func checkQuotient(t *testing.T, m pairedByHand, classes []int64) {
	t.Helper()
	table, code := impl.QuotientTable(m.list, classes)
	checkCode(t, fmt.Sprint("QuotientTable ", m.list, classes), code, impl.ErrNone)
	n := slices.Max(classes) + 1
	if int64(len(table)) != n || slices.ContainsFunc(table, func(row []int64) bool { return int64(len(row)) != n }) {
		t.Fatalf("QuotientTable(%v, %v) = %v", m.list, classes, table)
	}
	for a, row := range m.products {
		for b, product := range row {
			if table[classes[a]][classes[b]] != classes[product] {
				t.Fatalf("QuotientTable(%v, %v) = %v, but %d %d is %d", m.list, classes, table, a, b, product)
			}
		}
	}
	if dependsOnBrackets(table) {
		t.Fatalf("QuotientTable(%v, %v) = %v, which depends on brackets", m.list, classes, table)
	}
}

func TestQuotientTables(t *testing.T) {
	for _, m := range pairedMonoids(impl.MaxPaired) {
		checkQuotient(t, m, trivialClasses(len(m.products)))
		checkQuotient(t, m, make([]int64, len(m.products)))
		for _, pairs := range m.somePairs()[:min(20, len(m.somePairs()))] {
			checkQuotient(t, m, m.madeBy(pairs, true))
		}
	}
}

// pairCongruences are made by all pairs, each once, in order.
func (m pairedByHand) pairCongruences() [][]int64 {
	var made [][]int64
	for _, pair := range m.pairs() {
		made = append(made, m.madeBy([][]int64{pair}, true))
	}
	orderClasses(made)
	return slices.CompactFunc(made, slices.Equal)
}

// leastOf takes those congruences, other than the trivial one, that have no other finer ones among
// them than the trivial one.
func leastOf(congruences [][]int64) [][]int64 {
	var least [][]int64
	isTrivial := func(a []int64) bool { return slices.Equal(a, trivialClasses(len(a))) }
	for _, a := range congruences {
		isFiner := func(b []int64) bool { return !slices.Equal(a, b) && !isTrivial(b) && isFinerByHand(b, a) }
		if !isTrivial(a) && !slices.ContainsFunc(congruences, isFiner) {
			least = append(least, a)
		}
	}
	return least
}

func TestPairAndLeastCongruences(t *testing.T) {
	for i, m := range pairedMonoids(impl.MaxPaired) {
		if len(m.products) > impl.MaxLattice && len(m.products) < impl.MaxPaired && i%5 > 0 {
			continue
		}
		want := m.pairCongruences()
		pairs, code := impl.PairCongruences(m.list)
		checkCode(t, "PairCongruences", code, impl.ErrNone)
		checkLists(t, fmt.Sprint("PairCongruences ", m.list), pairs, want)
		least, code := impl.LeastCongruences(m.list)
		checkCode(t, "LeastCongruences", code, impl.ErrNone)
		checkLists(t, fmt.Sprint("LeastCongruences ", m.list), least, leastOf(want))
	}
}

func TestAllCongruences(t *testing.T) {
	for i, m := range pairedMonoids(impl.MaxLattice) {
		want := m.congruences()
		all, code := impl.AllCongruences(m.list)
		if len(want) > impl.MaxCongruences {
			checkCode(t, fmt.Sprint("AllCongruences ", m.list), code, impl.ErrLimit)
			want = nil
		} else {
			checkCode(t, fmt.Sprint("AllCongruences ", m.list), code, impl.ErrNone)
		}
		checkLists(t, fmt.Sprint("AllCongruences ", m.list), all, want)
		if code == impl.ErrNone && (len(m.products) < 8 || i%4 == 0) {
			least, _ := impl.LeastCongruences(m.list)
			checkLists(t, fmt.Sprint("LeastCongruences ", m.list), least, leastOf(want))
			checkAllAreJoins(t, m, want)
		}
	}
}

// checkAllAreJoins joins those congruences made by one pair that are finer than a congruence.
func checkAllAreJoins(t *testing.T, m pairedByHand, all [][]int64) {
	t.Helper()
	pairs, _ := impl.PairCongruences(m.list)
	for _, congruence := range all {
		join := trivialClasses(len(congruence))
		for _, pair := range pairs {
			if isFinerByHand(pair, congruence) {
				join, _ = impl.JoinCongruences(m.list, join, pair)
			}
		}
		checkList(t, fmt.Sprint("a join of congruences of ", m.list), join, congruence)
	}
}

func TestKnownListsOfCongruences(t *testing.T) {
	one := [][]int64{{0}}
	for _, k := range []struct {
		list              []impl.Map
		pairs, least, all [][]int64
	}{
		{listOf("0"), nil, nil, one},
		{listOf("01234", "01234"), nil, nil, one},
		{listOf("10"), [][]int64{{0, 0}}, [][]int64{{0, 0}}, [][]int64{{0, 1}, {0, 0}}},
		{
			listOf("10", "00"),
			[][]int64{{0, 1, 2, 0}, {0, 1, 1, 0}, {0, 0, 0, 0}},
			[][]int64{{0, 1, 2, 0}},
			[][]int64{{0, 1, 2, 3}, {0, 1, 2, 0}, {0, 1, 1, 0}, {0, 0, 0, 0}},
		},
		{
			listOf("1230"),
			[][]int64{{0, 1, 0, 1}, {0, 0, 0, 0}},
			[][]int64{{0, 1, 0, 1}},
			[][]int64{{0, 1, 2, 3}, {0, 1, 0, 1}, {0, 0, 0, 0}},
		},
		{
			listOf("12043"),
			[][]int64{{0, 0, 1, 1, 2, 2}, {0, 1, 0, 1, 0, 1}, {0, 0, 0, 0, 0, 0}},
			[][]int64{{0, 0, 1, 1, 2, 2}, {0, 1, 0, 1, 0, 1}},
			[][]int64{{0, 1, 2, 3, 4, 5}, {0, 0, 1, 1, 2, 2}, {0, 1, 0, 1, 0, 1}, {0, 0, 0, 0, 0, 0}},
		},
		{
			listOf("00", "11"),
			[][]int64{{0, 1, 0}, {0, 0, 0}},
			[][]int64{{0, 1, 0}},
			[][]int64{{0, 1, 2}, {0, 1, 0}, {0, 0, 0}},
		},
	} {
		pairs, code := impl.PairCongruences(k.list)
		checkCode(t, "PairCongruences", code, impl.ErrNone)
		checkLists(t, fmt.Sprint("PairCongruences ", k.list), pairs, k.pairs)
		least, code := impl.LeastCongruences(k.list)
		checkCode(t, "LeastCongruences", code, impl.ErrNone)
		checkLists(t, fmt.Sprint("LeastCongruences ", k.list), least, k.least)
		all, code := impl.AllCongruences(k.list)
		checkCode(t, "AllCongruences", code, impl.ErrNone)
		checkLists(t, fmt.Sprint("AllCongruences ", k.list), all, k.all)
	}
}

// TestCountsOfCongruences has groups, monoids whose elements but the identity are all right zeros
// (all classes of these are kept, 52 for five), and one whose products but those of the identity are
// all the zero (203 for six elements beside it).
func TestCountsOfCongruences(t *testing.T) {
	for _, k := range []struct {
		list []impl.Map
		want int
	}{
		{listOf("0"), 1},
		{listOf("12340"), 2},
		{listOf("1230"), 3},
		{listOf("12043"), 4},
		{listOf("120", "102"), 3},
		{listOf("1032", "2301"), 5},
		{listOf("00123"), 5},
		{listOf("00000", "11111", "22222", "33333", "44444"), 53},
		{listOf("00001", "00002", "00010", "00020", "00011"), 204},
		{listsOfMaxLattice()[0], 69},
		{listsOfMaxLattice()[1], 83},
		{listsOfMaxLattice()[2], 152},
		{listsOfMaxCongruences()[0], impl.MaxCongruences},
		{listsOfMaxCongruences()[1], impl.MaxCongruences},
	} {
		all, code := impl.AllCongruences(k.list)
		if len(all) != k.want || code != impl.ErrNone {
			t.Errorf("AllCongruences(%v): %d, %d, want %d", k.list, len(all), code, k.want)
		}
	}
	if impl.MaxPaired != 30 || impl.MaxLattice != 12 || impl.MaxCongruences != 300 {
		t.Error("the limits are", impl.MaxPaired, impl.MaxLattice, impl.MaxCongruences)
	}
}

func TestMoreThanMaxCongruences(t *testing.T) {
	for i, list := range listsAboveCongruences() {
		if count := len(pairByHand(list).congruences()); count != []int{301, 302, 878}[i] {
			t.Fatalf("the monoid of %v has %d congruences", list, count)
		}
		checkFails(t, fmt.Sprint("AllCongruences ", list), func() (int64, bool) { return ofLists(impl.AllCongruences(list)) }, impl.ErrLimit)
		code, zero := ofLists(impl.PairCongruences(list))
		if code != impl.ErrNone || zero {
			t.Errorf("PairCongruences(%v): code %d", list, code)
		}
	}
}

// callsOfCongruences calls each function of chapter 6 with a list, and with those of the other
// arguments that it takes, and tells the code and whether the result is the zero value.
func callsOfCongruences(list []impl.Map, pairs [][]int64, a []int64, b []int64) map[string]func() (int64, bool) {
	return map[string]func() (int64, bool){
		"RightCongruence":   func() (int64, bool) { return ofNumbers(impl.RightCongruence(list, pairs)) },
		"CongruenceOf":      func() (int64, bool) { return ofNumbers(impl.CongruenceOf(list, pairs)) },
		"IsRightCongruence": func() (int64, bool) { return ofBool(impl.IsRightCongruence(list, a)) },
		"IsCongruence":      func() (int64, bool) { return ofBool(impl.IsCongruence(list, a)) },
		"JoinCongruences":   func() (int64, bool) { return ofNumbers(impl.JoinCongruences(list, a, b)) },
		"MeetCongruences":   func() (int64, bool) { return ofNumbers(impl.MeetCongruences(list, a, b)) },
		"QuotientTable":     func() (int64, bool) { return ofLists(impl.QuotientTable(list, a)) },
		"PairCongruences":   func() (int64, bool) { return ofLists(impl.PairCongruences(list)) },
		"LeastCongruences":  func() (int64, bool) { return ofLists(impl.LeastCongruences(list)) },
		"AllCongruences":    func() (int64, bool) { return ofLists(impl.AllCongruences(list)) },
	}
}

// congruencesChapters give good pairs and classes, and some that are not as told, which is checked
// later.
func congruencesChapters() []chapter {
	good := func(list []impl.Map, f impl.Map, g impl.Map) map[string]func() (int64, bool) {
		return callsOfCongruences(list, [][]int64{{0, 0}}, make([]int64, 4), make([]int64, 4))
	}
	bad := func(list []impl.Map, f impl.Map, g impl.Map) map[string]func() (int64, bool) {
		return callsOfCongruences(list, make([][]int64, 11), []int64{-1}, nil)
	}
	return []chapter{{calls: good}, {calls: bad}}
}

func TestCongruencesRejectWhatIsNotAMap(t *testing.T) {
	for _, c := range congruencesChapters() {
		c.checkNoMaps(t)
	}
}

func TestCongruencesRejectListsThatAreNotAsTold(t *testing.T) {
	for _, c := range congruencesChapters() {
		c.checkListsNotAsTold(t)
	}
}

// TestCongruencesRejectLargerMonoids has good pairs and classes, and such as are not as told, which
// is checked later.
func TestCongruencesRejectLargerMonoids(t *testing.T) {
	for _, c := range congruencesChapters() {
		c.checkLargeMonoids(t)
	}
	for _, list := range listsAbovePaired() {
		n := len(elementsByHand(list))
		for name, call := range callsOfCongruences(list, [][]int64{{0, 1}}, trivialClasses(n), make([]int64, n)) {
			checkFails(t, fmt.Sprint(name, " ", list), call, impl.ErrLimit)
		}
		for name, call := range callsOfCongruences(list, [][]int64{{0, -1}}, nil, []int64{1}) {
			checkFails(t, fmt.Sprint(name, " ", list), call, impl.ErrLimit)
		}
		for name, call := range callsOfCongruences(list, make([][]int64, 11), trivialClasses(n), []int64{1}) {
			checkFails(t, fmt.Sprint(name, " ", list), call, impl.ErrLimit)
		}
	}
}

func TestMonoidsOfTheLimitsAndMore(t *testing.T) {
	for _, list := range listsAboveLattice() {
		n := len(elementsByHand(list))
		calls := callsOfCongruences(list, [][]int64{{0, 1}}, make([]int64, n), make([]int64, n))
		checkFails(t, fmt.Sprint("AllCongruences ", list), calls["AllCongruences"], impl.ErrLimit)
		delete(calls, "AllCongruences")
		for name, call := range calls {
			code, zero := call()
			if code != impl.ErrNone || zero {
				t.Errorf("%s %v: code %d, zero value %v", name, list, code, zero)
			}
		}
	}
	for _, list := range listsOfMaxLattice() {
		all, code := impl.AllCongruences(list)
		checkCode(t, fmt.Sprint("AllCongruences ", list), code, impl.ErrNone)
		checkLists(t, fmt.Sprint("AllCongruences ", list), all, pairByHand(list).congruences())
	}
	for _, k := range []struct {
		lists [][]impl.Map
		want  int
	}{
		{listsOfMaxPaired(), impl.MaxPaired},
		{listsAbovePaired()[:2], impl.MaxPaired + 1},
		{listsOfMaxLattice(), impl.MaxLattice},
		{listsAboveLattice()[:2], impl.MaxLattice + 1},
	} {
		for _, list := range k.lists {
			if n := len(elementsByHand(list)); n != k.want {
				t.Errorf("the monoid of %v has %d elements, not %d", list, n, k.want)
			}
		}
	}
}

// badPairs are lists of pairs for a monoid of n elements that are not as told: of too many pairs,
// with a list that is no pair, or with a number that is none of an element.
func badPairs(n int64) [][][]int64 {
	eleven := make([][]int64, 11)
	for i := range eleven {
		eleven[i] = []int64{0, n - 1}
	}
	return [][][]int64{
		eleven,
		make([][]int64, 1000),
		{nil},
		{{}},
		{{0}},
		{{0, 0, 0}},
		{{0, 0}, {0}},
		{{0, n}},
		{{n, 0}},
		{{n, n}},
		{{-1, 0}},
		{{0, -1}},
		{{0, 0}, {0, 0}, {n - 1, n}},
		{{1<<63 - 1, 0}},
		{{0, -1 << 63}},
		{{0, 1 << 32}},
	}
}

func TestPairsThatAreNotAsTold(t *testing.T) {
	for _, list := range slices.Concat([][]impl.Map{listOf("0"), listOf("10", "00"), listOf("120", "102")}, listsOfMaxPaired(), listsAboveLattice()) {
		n := int64(len(elementsByHand(list)))
		for _, pairs := range badPairs(n) {
			calls := callsOfCongruences(list, pairs, nil, nil)
			for _, name := range []string{"RightCongruence", "CongruenceOf"} {
				checkFails(t, fmt.Sprint(name, " ", list, pairs), calls[name], impl.ErrRange)
			}
		}
		checkMadeByHand(t, pairByHand(list), badPairs(n)[0][:10])
	}
}

// badClasses are lists that are no classes of n elements.
func badClasses(n int) [][]int64 {
	all := [][]int64{
		nil,
		trivialClasses(n + 1),
		make([]int64, n+1),
		make([]int64, impl.MaxPaired+1),
		make([]int64, 1000),
		append([]int64{1}, make([]int64, n-1)...),
		append([]int64{-1}, make([]int64, n-1)...),
		append(trivialClasses(n)[:n-1], int64(n)),
		append(trivialClasses(n)[:n-1], -1),
		append(make([]int64, n-1), 1<<63-1),
		append(make([]int64, n-1), -1<<63),
	}
	if n > 1 {
		all = append(all, trivialClasses(n-1), make([]int64, n-1), append(make([]int64, n-1), 2))
	}
	if n > 2 {
		all = append(all, append([]int64{0, 2, 1}, make([]int64, n-3)...))
	}
	return all
}

// TestClassesThatAreNotAsTold also gives classes that are no congruence beside those that are none,
// which is checked later.
func TestClassesThatAreNotAsTold(t *testing.T) {
	lists := slices.Concat([][]impl.Map{listOf("0"), listOf("10"), listOf("10", "00")}, listsOfMaxPaired(), listsAboveLattice())
	for _, list := range lists {
		n := len(elementsByHand(list))
		others := [][]int64{trivialClasses(n), make([]int64, n)}
		if n > 2 {
			others = append(others, append(make([]int64, n-1), 1))
		}
		for _, classes := range badClasses(n) {
			calls := callsOfCongruences(list, nil, classes, classes)
			for _, name := range []string{"IsRightCongruence", "IsCongruence", "JoinCongruences", "MeetCongruences", "QuotientTable"} {
				checkFails(t, fmt.Sprint(name, " ", list, classes), calls[name], impl.ErrRange)
			}
			for _, other := range others {
				first, second := callsOfCongruences(list, nil, classes, other), callsOfCongruences(list, nil, other, classes)
				for _, name := range []string{"JoinCongruences", "MeetCongruences"} {
					checkFails(t, fmt.Sprint(name, " ", list, classes, other), first[name], impl.ErrRange)
					checkFails(t, fmt.Sprint(name, " ", list, other, classes), second[name], impl.ErrRange)
				}
			}
		}
	}
}

// TestClassesThatAreNoCongruences has right congruences among them.
func TestClassesThatAreNoCongruences(t *testing.T) {
	for _, m := range pairedMonoids(5) {
		trivial := trivialClasses(len(m.products))
		for _, classes := range classesWhere(len(m.products), func([]int64) bool { return true }) {
			if m.keeps(classes, true, true) {
				continue
			}
			for _, pair := range [][][]int64{{classes, classes}, {classes, trivial}, {trivial, classes}} {
				calls := callsOfCongruences(m.list, nil, pair[0], pair[1])
				for _, name := range []string{"JoinCongruences", "MeetCongruences"} {
					checkFails(t, fmt.Sprint(name, " ", m.list, pair), calls[name], impl.ErrState)
				}
			}
			calls := callsOfCongruences(m.list, nil, classes, nil)
			checkFails(t, fmt.Sprint("QuotientTable ", m.list, classes), calls["QuotientTable"], impl.ErrState)
		}
	}
}

func TestCongruencesOfSixMaps(t *testing.T) {
	list := listOf("10", "10", "10", "10", "10", "10")
	for name, call := range callsOfCongruences(list, [][]int64{{0, 1}}, []int64{0, 1}, []int64{0, 0}) {
		code, _ := call()
		checkCode(t, name, code, impl.ErrNone)
	}
}

// TestCongruencesShareNoMemory writes to the results, and looks at the arguments and what is behind
// them.
func TestCongruencesShareNoMemory(t *testing.T) {
	store := listOf("10", "00", "11", "01")
	list := store[:2]
	as, bs := []int64{0, 1, 2, 0, 7, 7}, []int64{0, 1, 1, 0, 7, 7}
	a, b := as[:4], bs[:4]
	rows := [][]int64{{1, 2, 7}, {0, 3, 7}, {7, 7}}
	pairs := [][]int64{rows[0][:2], rows[1][:2], rows[2]}[:2]
	checkArguments := func(name string) {
		t.Helper()
		checkMaps(t, "the list behind "+name, store, listOf("10", "00", "11", "01"))
		checkList(t, "the classes behind "+name, slices.Concat(as, bs), []int64{0, 1, 2, 0, 7, 7, 0, 1, 1, 0, 7, 7})
		checkLists(t, "the pairs behind "+name, pairs[:3], [][]int64{{1, 2}, {0, 3}, {7, 7}})
		checkLists(t, "the numbers behind "+name, rows, [][]int64{{1, 2, 7}, {0, 3, 7}, {7, 7}})
	}
	for name, call := range map[string]func() ([]int64, int64){
		"RightCongruence":               func() ([]int64, int64) { return impl.RightCongruence(list, pairs) },
		"CongruenceOf":                  func() ([]int64, int64) { return impl.CongruenceOf(list, pairs) },
		"JoinCongruences":               func() ([]int64, int64) { return impl.JoinCongruences(list, a, b) },
		"JoinCongruences of equal ones": func() ([]int64, int64) { return impl.JoinCongruences(list, a, a) },
		"MeetCongruences":               func() ([]int64, int64) { return impl.MeetCongruences(list, a, b) },
	} {
		checkOwn(t, name, call)
		checkArguments(name)
	}
	for name, call := range map[string]func() ([][]int64, int64){
		"QuotientTable":    func() ([][]int64, int64) { return impl.QuotientTable(list, a) },
		"PairCongruences":  func() ([][]int64, int64) { return impl.PairCongruences(list) },
		"LeastCongruences": func() ([][]int64, int64) { return impl.LeastCongruences(list) },
		"AllCongruences":   func() ([][]int64, int64) { return impl.AllCongruences(list) },
	} {
		checkOwnLists(t, name, call)
		checkArguments(name)
	}
	impl.IsRightCongruence(list, a)
	impl.IsCongruence(list, b)
	checkArguments("the others")
}

// TestCongruencesLeaveNoGoroutines leaves room for goroutines that are just about to end.
func TestCongruencesLeaveNoGoroutines(t *testing.T) {
	before := runtime.NumGoroutine()
	for range 20 {
		for _, list := range listsOfMaxPaired() {
			impl.PairCongruences(list)
			impl.LeastCongruences(list)
		}
	}
	if after := runtime.NumGoroutine(); after > before+100 {
		t.Errorf("%d goroutines before, %d after", before, after)
	}
}

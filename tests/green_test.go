package tests

import (
	"fmt"
	"slices"
	"testing"

	"loop.example/g01359/impl"
)

const (
	leftKind = iota
	rightKind
	fullKind
	joinedKind
)

// allKinds are listed as CountClasses lists them.
func allKinds() []int64 {
	return []int64{leftKind, rightKind, fullKind, joinedKind}
}

// reachedByHand has all maps that come of f by maps of the list, again and again, on the left or on
// the right or on both sides.
func reachedByHand(list []impl.Map, f impl.Map, left bool, right bool) map[impl.Map]bool {
	reached := map[impl.Map]bool{f: true}
	for open := []impl.Map{f}; len(open) > 0; open = open[1:] {
		for _, g := range list {
			var next []impl.Map
			if left {
				next = append(next, byHand(g, open[0]))
			}
			if right {
				next = append(next, byHand(open[0], g))
			}
			for _, h := range next {
				if !reached[h] {
					reached[h] = true
					open = append(open, h)
				}
			}
		}
	}
	return reached
}

// greenByHand holds the elements of a monoid, what is under each of them to the left, to the right
// and on both sides, and the number of the first element that is alike, for each kind.
type greenByHand struct {
	elements          []impl.Map
	left, right, both []map[impl.Map]bool
	firsts            [4][]int
}

func lookByHand(list []impl.Map) greenByHand {
	m := greenByHand{elements: elementsByHand(list)}
	for _, f := range m.elements {
		m.left = append(m.left, reachedByHand(list, f, true, false))
		m.right = append(m.right, reachedByHand(list, f, false, true))
		m.both = append(m.both, reachedByHand(list, f, true, true))
	}
	for kind := range m.firsts {
		for i := range m.elements {
			first := 0
			for !m.alike(i, first, kind) {
				first++
			}
			m.firsts[kind] = append(m.firsts[kind], first)
		}
	}
	return m
}

func (m greenByHand) alike(i int, k int, kind int) bool {
	f, g := m.elements[i], m.elements[k]
	left := m.left[i][g] && m.left[k][f]
	right := m.right[i][g] && m.right[k][f]
	return []bool{left, right, left && right, m.both[i][g] && m.both[k][f]}[kind]
}

// class has the numbers of the elements that are alike.
func (m greenByHand) class(i int, kind int) []int {
	var class []int
	for k := range m.elements {
		if m.firsts[kind][k] == m.firsts[kind][i] {
			class = append(class, k)
		}
	}
	return class
}

// firstsOf are the numbers of the first elements of the classes that some elements are in.
func (m greenByHand) firstsOf(members []int, kind int) []int {
	var firsts []int
	for _, i := range members {
		if first := m.firsts[kind][i]; !slices.Contains(firsts, first) {
			firsts = append(firsts, first)
		}
	}
	return firsts
}

func (m greenByHand) hasIdempotent(members []int) bool {
	return slices.ContainsFunc(members, func(i int) bool { return byHand(m.elements[i], m.elements[i]) == m.elements[i] })
}

func (m greenByHand) maps(members []int) []impl.Map {
	var maps []impl.Map
	for _, i := range members {
		maps = append(maps, m.elements[i])
	}
	return maps
}

// depth takes away the least joined classes, again and again.
func (m greenByHand) depth() int64 {
	depth := int64(0)
	for left := m.firstsOf(m.all(), joinedKind); len(left) > 0; depth++ {
		under := left
		left = nil
		for _, i := range under {
			if slices.ContainsFunc(under, func(k int) bool { return k != i && m.both[i][m.elements[k]] }) {
				left = append(left, i)
			}
		}
	}
	return depth
}

func (m greenByHand) all() []int {
	var all []int
	for i := range m.elements {
		all = append(all, i)
	}
	return all
}

// some takes of many elements just a few numbers, because there are calls for each one.
func some(size int) []int {
	var some []int
	for i := 0; i < size; i += 1 + size/25 {
		some = append(some, i)
	}
	return some
}

// listsOfClasses have, beside ordinary ones, lists with deep monoids, and with classes that are not
// regular and have more than one element.
func listsOfClasses() [][]impl.Map {
	return append(allLists(), listsOfOddClasses()...)
}

func listsOfOddClasses() [][]impl.Map {
	return [][]impl.Map{
		listOf("10414", "30300", "41444"),
		listOf("43423", "34141"),
		listOf("01344", "31103"),
		listOf("33233", "30440"),
		listOf("11303", "10010", "24432"),
		listOf("3211", "2133", "3000"),
		listOf("10324", "22334"),
		listOf("0022", "0001"),
		listOf("0101", "0110"),
	}
}

// classNumbers asks for the classes of all kinds.
func classNumbers(t *testing.T, list []impl.Map) [][]int64 {
	t.Helper()
	var classes [][]int64
	for _, kind := range allKinds() {
		numbers, code := impl.ClassNumbers(list, kind)
		checkCode(t, fmt.Sprint("ClassNumbers ", list, kind), code, impl.ErrNone)
		classes = append(classes, numbers)
	}
	return classes
}

func TestPromise3FullClassesAreWhereLeftAndRightOnesMeet(t *testing.T) {
	for _, list := range listsOfClasses() {
		size, _ := impl.SizeOf(list)
		classes := classNumbers(t, list)
		left, right, full := classes[leftKind], classes[rightKind], classes[fullKind]
		for i := range size {
			for k := range size {
				if (full[i] == full[k]) != (left[i] == left[k] && right[i] == right[k]) {
					t.Fatalf("ClassNumbers(%v) = %v", list, classes)
				}
			}
		}
	}
}

// TestPromise3JoinedClassesAreGrids looks for the full class in which a left and a right class of a
// joined class meet: there always is one, and they all have as many elements.
func TestPromise3JoinedClassesAreGrids(t *testing.T) {
	for _, list := range listsOfClasses() {
		elements, _ := impl.ElementsOf(list)
		classes := classNumbers(t, list)
		left, right, joined := classes[leftKind], classes[rightKind], classes[joinedKind]
		meets := map[[2]int64]int64{}
		members := map[int64]int64{}
		for i := range elements {
			meets[[2]int64{left[i], right[i]}]++
			members[joined[i]]++
		}
		for _, i := range some(len(elements)) {
			grid, code := impl.GridOf(list, elements[i])
			if code != impl.ErrNone || grid[0]*grid[1]*grid[2] != members[joined[i]] {
				t.Fatalf("GridOf(%v, %v) = %v, %d, for %d elements", list, elements[i], grid, code, members[joined[i]])
			}
			for k := range elements {
				if joined[i] != joined[k] && (left[i] == left[k] || right[i] == right[k]) {
					t.Fatalf("ClassNumbers(%v) = %v", list, classes)
				}
				if joined[i] == joined[k] && meets[[2]int64{left[i], right[k]}] != grid[2] {
					t.Fatalf("GridOf(%v, %v) = %v, but ClassNumbers are %v", list, elements[i], grid, classes)
				}
			}
		}
	}
}

// TestPromise3ElementsOfGroupsHaveInversesInThem also looks for what else makes a group.
func TestPromise3ElementsOfGroupsHaveInversesInThem(t *testing.T) {
	for _, list := range listsOfClasses() {
		elements, _ := impl.ElementsOf(list)
		for _, i := range some(len(elements)) {
			f := elements[i]
			group, code := impl.GroupWith(list, f)
			if code == impl.ErrState {
				continue
			}
			checkCode(t, fmt.Sprint("GroupWith ", list, f), code, impl.ErrNone)
			e, _ := impl.IdempotentPower(f)
			inverse := func(g impl.Map) bool { return byHand(f, g) == e && byHand(g, f) == e }
			if !slices.Contains(group, f) || !slices.ContainsFunc(group, inverse) {
				t.Fatalf("GroupWith(%v, %v) = %v, without it or an inverse", list, f, group)
			}
			for _, g := range group {
				if byHand(e, g) != g || byHand(g, e) != g || !slices.Contains(group, byHand(f, g)) {
					t.Fatalf("GroupWith(%v, %v) = %v is no group", list, f, group)
				}
			}
		}
	}
}

func TestClassNumbersAndCountClasses(t *testing.T) {
	for _, list := range listsOfClasses() {
		m := lookByHand(list)
		var counts []int64
		for kind, got := range classNumbers(t, list) {
			firsts := m.firstsOf(m.all(), kind)
			var want []int64
			for _, first := range m.firsts[kind] {
				want = append(want, int64(slices.Index(firsts, first)))
			}
			checkList(t, fmt.Sprint("ClassNumbers ", list, kind), got, want)
			counts = append(counts, int64(len(firsts)))
		}
		got, code := impl.CountClasses(list)
		checkCode(t, "CountClasses", code, impl.ErrNone)
		checkList(t, fmt.Sprint("CountClasses ", list), got, counts)
	}
}

func TestClassesOfKnownMonoids(t *testing.T) {
	classes := classNumbers(t, listOf("120", "000"))
	checkList(t, "left classes", classes[leftKind], []int64{0, 1, 2, 1, 1, 3})
	checkList(t, "right classes", classes[rightKind], []int64{0, 1, 0, 1, 1, 0})
	checkList(t, "full classes", classes[fullKind], []int64{0, 1, 2, 1, 1, 3})
	checkList(t, "joined classes", classes[joinedKind], []int64{0, 1, 0, 1, 1, 0})
	for _, c := range []struct {
		list   []impl.Map
		counts []int64
		ranks  []int64
		depth  int64
	}{
		{listOf("0"), []int64{1, 1, 1, 1}, []int64{1}, 1},
		{listOf("01234"), []int64{1, 1, 1, 1}, []int64{5}, 1},
		{listOf("12340", "10234"), []int64{1, 1, 1, 1}, []int64{5}, 1},
		// images tell left classes of all maps, and kernels right ones
		{listOf("1230", "1023", "0012"), []int64{15, 15, 71, 4}, []int64{1, 2, 3, 4}, 4},
		{listOf("00123"), []int64{5, 5, 5, 5}, []int64{1, 2, 3, 4, 5}, 5},
		{listOf("120", "000"), []int64{4, 2, 4, 2}, []int64{1, 3}, 2},
		{listOf("0101", "0110"), []int64{2, 3, 3, 2}, []int64{2, 4}, 2},
		// classes of the same rank, none of them under another one, and some of them so
		{listOf("0022", "0001"), []int64{4, 4, 4, 4}, []int64{1, 2, 2, 4}, 3},
		{listOf("112", "101"), []int64{7, 5, 7, 5}, []int64{1, 2, 2, 3, 2}, 4},
		{listOf("0333", "3123"), []int64{4, 4, 4, 4}, []int64{4, 2, 3, 1}, 3},
	} {
		counts, code := impl.CountClasses(c.list)
		checkCode(t, "CountClasses", code, impl.ErrNone)
		checkList(t, fmt.Sprint("CountClasses ", c.list), counts, c.counts)
		ranks, code := impl.RanksOfClasses(c.list)
		checkCode(t, "RanksOfClasses", code, impl.ErrNone)
		checkList(t, fmt.Sprint("RanksOfClasses ", c.list), ranks, c.ranks)
		depth, code := impl.DepthOf(c.list)
		if depth != c.depth || code != impl.ErrNone {
			t.Errorf("DepthOf(%v) = %d, %d, want %d", c.list, depth, code, c.depth)
		}
	}
}

func TestGridOfIsRegularAndGroupWith(t *testing.T) {
	for _, list := range listsOfClasses() {
		m := lookByHand(list)
		for _, i := range some(len(m.elements)) {
			f := m.elements[i]
			joined, full := m.class(i, joinedKind), m.class(i, fullKind)
			rights, lefts := m.firstsOf(joined, rightKind), m.firstsOf(joined, leftKind)
			grid, code := impl.GridOf(list, f)
			checkCode(t, "GridOf", code, impl.ErrNone)
			checkList(t, fmt.Sprint("GridOf ", list, f), grid, []int64{int64(len(rights)), int64(len(lefts)), int64(len(full))})
			regular, code := impl.IsRegular(list, f)
			if regular != m.hasIdempotent(joined) || code != impl.ErrNone {
				t.Fatalf("IsRegular(%v, %v) = %v, %d", list, f, regular, code)
			}
			group, code := impl.GroupWith(list, f)
			if !m.hasIdempotent(full) {
				checkCode(t, fmt.Sprint("GroupWith ", list, f), code, impl.ErrState)
				checkMaps(t, "GroupWith", group, nil)
				continue
			}
			checkCode(t, fmt.Sprint("GroupWith ", list, f), code, impl.ErrNone)
			checkMaps(t, fmt.Sprint("GroupWith ", list, f), group, m.maps(full))
		}
	}
}

func TestGridsOfKnownMonoids(t *testing.T) {
	all := listOf("1230", "1023", "0012")
	for _, c := range []struct {
		list    []impl.Map
		text    string
		grid    []int64
		regular bool
		group   []impl.Map
	}{
		{listOf("0"), "0", []int64{1, 1, 1}, true, listOf("0")},
		{listOf("120", "000"), "000", []int64{1, 3, 1}, true, listOf("000")},
		{listOf("120", "000"), "201", []int64{1, 1, 3}, true, listOf("012", "120", "201")},
		{all, "3333", []int64{1, 4, 1}, true, listOf("3333")},
		{all, "1010", []int64{7, 6, 2}, true, listOf("0101", "1010")},
		// regular, but its full class has no idempotent
		{all, "0011", []int64{7, 6, 2}, true, nil},
		{all, "0012", []int64{6, 4, 6}, true, nil},
		{listOf("001"), "001", []int64{1, 1, 1}, false, nil},
		{listOf("001"), "000", []int64{1, 1, 1}, true, listOf("000")},
		{listOf("00123"), "00012", []int64{1, 1, 1}, false, nil},
		{listOf("022", "101", "211"), "020", []int64{2, 3, 2}, true, nil},
		// not regular, with more than one element
		{listOf("022", "121", "100"), "122", []int64{1, 1, 2}, false, nil},
		{listOf("11303", "10010", "24432"), "00010", []int64{2, 1, 2}, false, nil},
		{listOf("3211", "2133", "3000"), "1222", []int64{1, 2, 2}, false, nil},
		{listOf("10324", "22334"), "22334", []int64{1, 2, 1}, false, nil},
		{listOf("0101", "0110"), "0110", []int64{2, 1, 1}, true, listOf("0110")},
	} {
		grid, code := impl.GridOf(c.list, digits(c.text))
		checkCode(t, "GridOf", code, impl.ErrNone)
		checkList(t, fmt.Sprint("GridOf ", c.list, c.text), grid, c.grid)
		regular, code := impl.IsRegular(c.list, digits(c.text))
		if regular != c.regular || code != impl.ErrNone {
			t.Errorf("IsRegular(%v, %s) = %v, %d", c.list, c.text, regular, code)
		}
		group, code := impl.GroupWith(c.list, digits(c.text))
		if c.group == nil {
			checkCode(t, fmt.Sprint("GroupWith ", c.list, c.text), code, impl.ErrState)
		}
		checkMaps(t, fmt.Sprint("GroupWith ", c.list, c.text), group, c.group)
	}
}

func TestAreAlikeAndIsUnder(t *testing.T) {
	lists := append(greaterLists(), listsOfOddClasses()...)
	for at, list := range smallLists() {
		if at%7 == 0 {
			lists = append(lists, list)
		}
	}
	for _, list := range lists {
		m := lookByHand(list)
		for _, i := range some(len(m.elements)) {
			for _, k := range []int{i, 0, (i*3 + 1) % len(m.elements), (i*7 + 5) % len(m.elements)} {
				f, g := m.elements[i], m.elements[k]
				for kind := range m.firsts {
					alike, code := impl.AreAlike(list, f, g, int64(kind))
					if alike != m.alike(i, k, kind) || code != impl.ErrNone {
						t.Fatalf("AreAlike(%v, %v, %v, %d) = %v, %d", list, f, g, kind, alike, code)
					}
				}
				under, code := impl.IsUnder(list, f, g)
				if under != m.both[k][f] || code != impl.ErrNone {
					t.Fatalf("IsUnder(%v, %v, %v) = %v, %d", list, f, g, under, code)
				}
				if under && len(imagesByHand(f)) > len(imagesByHand(g)) {
					t.Fatalf("IsUnder(%v, %v, %v), which has the smaller rank", list, f, g)
				}
			}
		}
	}
}

func TestDepthOfAndRanksOfClasses(t *testing.T) {
	for _, list := range listsOfClasses() {
		m := lookByHand(list)
		depth, code := impl.DepthOf(list)
		if depth != m.depth() || code != impl.ErrNone {
			t.Fatalf("DepthOf(%v) = %d, %d, want %d", list, depth, code, m.depth())
		}
		var ranks []int64
		for _, first := range m.firstsOf(m.all(), joinedKind) {
			ranks = append(ranks, int64(len(imagesByHand(m.elements[first]))))
		}
		got, code := impl.RanksOfClasses(list)
		checkCode(t, "RanksOfClasses", code, impl.ErrNone)
		checkList(t, fmt.Sprint("RanksOfClasses ", list), got, ranks)
	}
}

// greenOf calls each function of chapter 3, with a kind.
func greenOf(kind int64) chapter {
	ofSecond := []string{"AreAlike", "IsUnder"}
	return chapter{
		ofFirst:  append([]string{"GridOf", "IsRegular", "GroupWith"}, ofSecond...),
		ofSecond: ofSecond,
		calls: func(list []impl.Map, f impl.Map, g impl.Map) map[string]func() (int64, bool) {
			return map[string]func() (int64, bool){
				"ClassNumbers":   func() (int64, bool) { return ofNumbers(impl.ClassNumbers(list, kind)) },
				"CountClasses":   func() (int64, bool) { return ofNumbers(impl.CountClasses(list)) },
				"GridOf":         func() (int64, bool) { return ofNumbers(impl.GridOf(list, f)) },
				"IsRegular":      func() (int64, bool) { return ofBool(impl.IsRegular(list, f)) },
				"GroupWith":      func() (int64, bool) { return ofMaps(impl.GroupWith(list, f)) },
				"AreAlike":       func() (int64, bool) { return ofBool(impl.AreAlike(list, f, g, kind)) },
				"IsUnder":        func() (int64, bool) { return ofBool(impl.IsUnder(list, f, g)) },
				"DepthOf":        func() (int64, bool) { return ofNumber(impl.DepthOf(list)) },
				"RanksOfClasses": func() (int64, bool) { return ofNumbers(impl.RanksOfClasses(list)) },
			}
		},
	}
}

// TestGreenRejectsWhatIsNotAMap gives kinds that are not as told too, which is checked later.
func TestGreenRejectsWhatIsNotAMap(t *testing.T) {
	for _, kind := range []int64{0, 4, -1} {
		greenOf(kind).checkNoMaps(t)
	}
}

func TestGreenRejectsListsAndMapsThatAreNotAsTold(t *testing.T) {
	for _, kind := range allKinds() {
		greenOf(kind).checkListsNotAsTold(t)
		greenOf(kind).checkOtherPoints(t)
	}
}

// TestKindsThatAreNotAsTold also gives monoids that are too large, and maps that are no elements,
// which is checked later.
func TestKindsThatAreNotAsTold(t *testing.T) {
	for _, kind := range []int64{-1, 4, 5, 1 << 32, 1<<63 - 1, -1 << 63} {
		for _, list := range [][]impl.Map{listOf("01234"), listOfMaxElements(), largeLists()[0]} {
			calls := greenOf(kind).calls(list, digits("00000"), digits("00001"))
			checkFails(t, fmt.Sprint("ClassNumbers ", list, kind), calls["ClassNumbers"], impl.ErrRange)
			checkFails(t, fmt.Sprint("AreAlike ", list, kind), calls["AreAlike"], impl.ErrRange)
		}
	}
}

func TestGreenRejectsLargerMonoids(t *testing.T) {
	for _, kind := range allKinds() {
		greenOf(kind).checkLargeMonoids(t)
	}
}

func TestGreenRejectsMapsThatAreNoElements(t *testing.T) {
	for _, kind := range allKinds() {
		greenOf(kind).checkNoElements(t)
	}
}

func TestGreenAcceptsSixMapsAndMaxElements(t *testing.T) {
	for _, kind := range allKinds() {
		greenOf(kind).checkAccepted(t, "ClassNumbers", "RanksOfClasses")
		classes, _ := impl.ClassNumbers(listOfMaxElements(), kind)
		if len(classes) != impl.MaxElements {
			t.Errorf("ClassNumbers of %d", len(classes))
		}
	}
}

// TestGreenSharesNoMemory writes to the results, and looks at the arguments and what is behind
// them.
func TestGreenSharesNoMemory(t *testing.T) {
	store := listOf("120", "000", "111", "222")
	list := store[:2]
	ofNumbers := map[string]func() ([]int64, int64){
		"ClassNumbers":   func() ([]int64, int64) { return impl.ClassNumbers(list, 1) },
		"CountClasses":   func() ([]int64, int64) { return impl.CountClasses(list) },
		"GridOf":         func() ([]int64, int64) { return impl.GridOf(list, store[2]) },
		"RanksOfClasses": func() ([]int64, int64) { return impl.RanksOfClasses(list) },
	}
	for name, call := range ofNumbers {
		checkOwn(t, name, call)
		checkMaps(t, "the list behind "+name, store, listOf("120", "000", "111", "222"))
	}
	checkOwn(t, "GroupWith", func() ([]impl.Map, int64) { return impl.GroupWith(list, list[0]) })
	impl.IsRegular(list, store[2])
	impl.AreAlike(list, store[2], store[3], 0)
	impl.IsUnder(list, store[2], store[3])
	impl.DepthOf(list)
	checkMaps(t, "the list behind the others", store, listOf("120", "000", "111", "222"))
}

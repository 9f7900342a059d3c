package tests

import (
	"fmt"
	"slices"
	"testing"

	"loop.example/g01359/impl"
)

func identityByHand(n int64) impl.Map {
	return powersByHand(impl.Map{Points: n}, 0)[0]
}

// levelsByHand are the maps of the words of the lengths 0, 1, .., each map only where it comes
// first, in no order.
func levelsByHand(list []impl.Map, n int64) [][]impl.Map {
	met := map[impl.Map]bool{identityByHand(n): true}
	levels := [][]impl.Map{{identityByHand(n)}}
	for {
		var level []impl.Map
		for _, f := range levels[len(levels)-1] {
			for _, g := range list {
				h := byHand(f, g)
				if !met[h] {
					met[h] = true
					level = append(level, h)
				}
			}
		}
		if len(level) == 0 {
			return levels
		}
		levels = append(levels, level)
	}
}

// elementsByHand takes of all maps of so many points those that are met, so they are in order.
func elementsByHand(list []impl.Map) []impl.Map {
	n := list[0].Points
	met := map[impl.Map]bool{}
	for _, f := range slices.Concat(levelsByHand(list, n)...) {
		met[f] = true
	}
	var elements []impl.Map
	for _, f := range allMaps(n) {
		if met[f] {
			elements = append(elements, f)
		}
	}
	return elements
}

// elementsWhere takes the elements that have to all elements, themselves among them, what is told.
func elementsWhere(elements []impl.Map, holds func(f impl.Map, g impl.Map) bool) []impl.Map {
	var those []impl.Map
	for _, f := range elements {
		fails := func(g impl.Map) bool { return !holds(f, g) }
		if !slices.ContainsFunc(elements, fails) {
			those = append(those, f)
		}
	}
	return those
}

func TestPromise2ElementsAreClosedUnderProducts(t *testing.T) {
	for _, list := range allLists() {
		elements, code := impl.ElementsOf(list)
		checkCode(t, fmt.Sprint("ElementsOf ", list), code, impl.ErrNone)
		in := map[impl.Map]bool{}
		for _, f := range elements {
			in[f] = true
		}
		if !in[identityByHand(list[0].Points)] {
			t.Fatalf("ElementsOf(%v) = %v, without the identity", list, elements)
		}
		for _, f := range list {
			if !in[f] {
				t.Fatalf("ElementsOf(%v) = %v, without %v", list, elements, f)
			}
		}
		for _, f := range elements {
			for _, g := range elements {
				product, code := impl.ProductOf(f, g)
				if !in[product] || code != impl.ErrNone {
					t.Fatalf("ElementsOf(%v) is without the product %v of %v and %v", list, product, f, g)
				}
			}
		}
	}
}

func TestPromise2LeastWordsHaveTheirMaps(t *testing.T) {
	for _, list := range allLists() {
		elements, _ := impl.ElementsOf(list)
		for _, f := range elements {
			word, code := impl.WordFor(list, f)
			checkCode(t, fmt.Sprint("WordFor ", list, f), code, impl.ErrNone)
			own, code := impl.MapOfWord(list, word)
			if own != f || code != impl.ErrNone {
				t.Fatalf("MapOfWord(%v, %v) = %v, %d, want %v", list, word, own, code, f)
			}
		}
	}
}

func TestElementsOfAndSizeOf(t *testing.T) {
	for _, list := range allLists() {
		want := elementsByHand(list)
		elements, code := impl.ElementsOf(list)
		checkCode(t, "ElementsOf", code, impl.ErrNone)
		checkMaps(t, fmt.Sprint("ElementsOf ", list), elements, want)
		size, code := impl.SizeOf(list)
		if size != int64(len(want)) || code != impl.ErrNone {
			t.Fatalf("SizeOf(%v) = %d, %d, want %d", list, size, code, len(want))
		}
	}
	elements, _ := impl.ElementsOf(listOf("10", "00"))
	checkMaps(t, "ElementsOf", elements, listOf("00", "01", "10", "11"))
	elements, _ = impl.ElementsOf(listOf("120", "000"))
	checkMaps(t, "ElementsOf", elements, listOf("000", "012", "111", "120", "201", "222"))
	elements, _ = impl.ElementsOf(listOf("0"))
	checkMaps(t, "ElementsOf", elements, listOf("0"))
}

func TestSizeOfKnownMonoids(t *testing.T) {
	for _, c := range []struct {
		list []impl.Map
		want int64
	}{
		{listOf("10", "00"), 4},
		{listOf("0"), 1},
		{listOf("01234"), 1},
		{listOf("1230", "1023", "0012"), 256},
		{listOf("12340", "10234"), 120},
		{listOf("12043"), 6},
		{listOf("00123"), 5},
		{listOfMaxElements(), impl.MaxElements},
	} {
		size, code := impl.SizeOf(c.list)
		if size != c.want || code != impl.ErrNone {
			t.Errorf("SizeOf(%v) = %d, %d, want %d", c.list, size, code, c.want)
		}
	}
	if impl.MaxElements != 300 {
		t.Error("MaxElements is", impl.MaxElements)
	}
}

// wordsOfLength lists all words of a length in lexicographic order.
func wordsOfLength(length int, count int64) [][]int64 {
	words := [][]int64{{}}
	for range length {
		var longer [][]int64
		for _, word := range words {
			for number := range count {
				longer = append(longer, append(slices.Clone(word), number))
			}
		}
		words = longer
	}
	return words
}

// leastWordsByHand tries all words, the shortest first.
func leastWordsByHand(list []impl.Map) map[impl.Map][]int64 {
	least := map[impl.Map][]int64{}
	for length := range levelsByHand(list, list[0].Points) {
		for _, word := range wordsOfLength(length, int64(len(list))) {
			f := identityByHand(list[0].Points)
			for _, number := range word {
				f = byHand(f, list[number])
			}
			if _, known := least[f]; !known {
				least[f] = word
			}
		}
	}
	return least
}

func TestWordForIsTheLeastOfTheShortestWords(t *testing.T) {
	lists := append(smallLists(), listOf("1230", "1023", "1000"), listOf("0012", "1233", "0113"), listOf("01233", "12344", "44444"))
	for _, list := range lists {
		least := leastWordsByHand(list)
		for _, f := range allMaps(list[0].Points) {
			word, code := impl.WordFor(list, f)
			element, code2 := impl.IsElement(list, f)
			want, known := least[f]
			if element != known || code2 != impl.ErrNone {
				t.Fatalf("IsElement(%v, %v) = %v, %d", list, f, element, code2)
			}
			if !known {
				checkCode(t, fmt.Sprint("WordFor ", list, f), code, impl.ErrNotFound)
				checkList(t, "WordFor", word, nil)
				continue
			}
			checkCode(t, "WordFor", code, impl.ErrNone)
			checkList(t, fmt.Sprint("WordFor ", list, f), word, want)
		}
	}
}

func TestWordForSomeElements(t *testing.T) {
	for _, c := range []struct {
		list []impl.Map
		text string
		want []int64
	}{
		{listOf("10", "00"), "11", []int64{1, 0}},
		{listOf("10", "00"), "01", nil},
		{listOf("00", "00"), "00", []int64{0}},
		{listOf("01", "01"), "01", nil},
		{listOf("00123"), "00000", []int64{0, 0, 0, 0}},
		{listOf("12340", "12340", "40123"), "34012", []int64{2, 2}},
		{listOf("12340", "40123", "01234", "34012"), "34012", []int64{3}},
		{listOf("12043"), "20134", []int64{0, 0}},
	} {
		word, code := impl.WordFor(c.list, digits(c.text))
		checkCode(t, "WordFor", code, impl.ErrNone)
		checkList(t, fmt.Sprint("WordFor ", c.list, c.text), word, c.want)
	}
}

func TestMapOfWord(t *testing.T) {
	list := listOf("1201", "0233")
	for length := range 7 {
		for _, word := range wordsOfLength(length, 2) {
			want := identityByHand(4)
			for _, number := range word {
				want = byHand(want, list[number])
			}
			f, code := impl.MapOfWord(list, word)
			checkCode(t, "MapOfWord", code, impl.ErrNone)
			checkMap(t, fmt.Sprint("MapOfWord ", word), f, want)
		}
	}
	hundred := make([]int64, 100)
	hundred[99] = 1
	f, code := impl.MapOfWord(listOf("12043", "00000"), hundred)
	checkCode(t, "MapOfWord of 100 numbers", code, impl.ErrNone)
	checkMap(t, "MapOfWord of 100 numbers", f, digits("00000"))
	f, code = impl.MapOfWord(listOf("12043"), make([]int64, 100))
	checkCode(t, "MapOfWord of 100 numbers", code, impl.ErrNone)
	checkMap(t, "MapOfWord of 100 numbers", f, digits("12034")) // 100 is 4 more than a multiple of 6
}

func TestMapOfWordDoesNotNeedASmallMonoid(t *testing.T) {
	for _, list := range largeLists() {
		f, code := impl.MapOfWord(list, []int64{0, 1, 2})
		checkCode(t, "MapOfWord", code, impl.ErrNone)
		checkMap(t, "MapOfWord", f, byHand(byHand(list[0], list[1]), list[2]))
	}
}

func TestWordsThatAreNotAsTold(t *testing.T) {
	list := listOf("1201", "0233")
	for _, word := range [][]int64{{2}, {-1}, {0, 1, 0, 2}, {-1 << 63}, {1<<63 - 1, 0}, {1 << 32}, make([]int64, 101), make([]int64, 5000)} {
		f, code := impl.MapOfWord(list, word)
		checkCode(t, fmt.Sprint("MapOfWord ", word), code, impl.ErrRange)
		checkMap(t, "MapOfWord", f, impl.Map{})
	}
}

func TestUnitsOfAndIdempotentsOf(t *testing.T) {
	for _, list := range allLists() {
		var permutations, idempotents []impl.Map
		for _, f := range elementsByHand(list) {
			if len(imagesByHand(f)) == int(f.Points) {
				permutations = append(permutations, f)
			}
			if byHand(f, f) == f {
				idempotents = append(idempotents, f)
			}
		}
		units, code := impl.UnitsOf(list)
		checkCode(t, "UnitsOf", code, impl.ErrNone)
		checkMaps(t, fmt.Sprint("UnitsOf ", list), units, permutations)
		got, code := impl.IdempotentsOf(list)
		checkCode(t, "IdempotentsOf", code, impl.ErrNone)
		checkMaps(t, fmt.Sprint("IdempotentsOf ", list), got, idempotents)
	}
}

func TestZeros(t *testing.T) {
	for _, list := range allLists() {
		elements := elementsByHand(list)
		left := elementsWhere(elements, func(z impl.Map, f impl.Map) bool { return byHand(z, f) == z })
		right := elementsWhere(elements, func(z impl.Map, f impl.Map) bool { return byHand(f, z) == z })
		got, code := impl.SideZeros(list, false)
		checkCode(t, "SideZeros", code, impl.ErrNone)
		checkMaps(t, fmt.Sprint("SideZeros ", list, false), got, left)
		got, code = impl.SideZeros(list, true)
		checkCode(t, "SideZeros", code, impl.ErrNone)
		checkMaps(t, fmt.Sprint("SideZeros ", list, true), got, right)
		zero, code := impl.ZeroOf(list)
		if len(left) == 0 || len(right) == 0 {
			checkCode(t, fmt.Sprint("ZeroOf ", list), code, impl.ErrNotFound)
			checkMap(t, "ZeroOf", zero, impl.Map{})
			continue
		}
		checkCode(t, "ZeroOf", code, impl.ErrNone)
		checkMap(t, fmt.Sprint("ZeroOf ", list), zero, left[0])
	}
}

func TestZerosOfKnownMonoids(t *testing.T) {
	left, _ := impl.SideZeros(listOf("0022", "1133"), false)
	right, _ := impl.SideZeros(listOf("0022", "1133"), true)
	checkMaps(t, "SideZeros of right zeros", left, nil)
	checkMaps(t, "SideZeros of right zeros", right, listOf("0022", "1133"))
	left, _ = impl.SideZeros(listOf("0022", "0033"), false)
	right, _ = impl.SideZeros(listOf("0011", "0010"), true)
	checkMaps(t, "SideZeros", left, nil)
	checkMaps(t, "SideZeros", right, listOf("0000"))
	left, _ = impl.SideZeros(listOf("0101", "0110"), false)
	checkMaps(t, "SideZeros of left zeros", left, listOf("0101", "0110"))
	zero, code := impl.ZeroOf(listOf("00123"))
	checkCode(t, "ZeroOf", code, impl.ErrNone)
	checkMap(t, "ZeroOf", zero, digits("00000"))
	zero, code = impl.ZeroOf(listOf("01234"))
	checkCode(t, "ZeroOf the identity alone", code, impl.ErrNone)
	checkMap(t, "ZeroOf the identity alone", zero, digits("01234"))
}

func TestCentreOfAndIsCommutative(t *testing.T) {
	for _, list := range allLists() {
		elements := elementsByHand(list)
		want := elementsWhere(elements, func(f impl.Map, g impl.Map) bool { return byHand(f, g) == byHand(g, f) })
		centre, code := impl.CentreOf(list)
		checkCode(t, "CentreOf", code, impl.ErrNone)
		checkMaps(t, fmt.Sprint("CentreOf ", list), centre, want)
		commutative, code := impl.IsCommutative(list)
		if commutative != (len(want) == len(elements)) || code != impl.ErrNone {
			t.Fatalf("IsCommutative(%v) = %v, %d", list, commutative, code)
		}
	}
	centre, _ := impl.CentreOf(listOf("1032", "2301", "0123"))
	checkMaps(t, "CentreOf", centre, listOf("0123", "1032", "2301", "3210"))
	centre, _ = impl.CentreOf(listOf("1230", "3210"))
	checkMaps(t, "CentreOf", centre, listOf("0123", "2301"))
}

func TestSizesByRankAndByLength(t *testing.T) {
	for _, list := range allLists() {
		var lengths []int64
		ranks := make([]int64, list[0].Points)
		for _, level := range levelsByHand(list, list[0].Points) {
			lengths = append(lengths, int64(len(level)))
			for _, f := range level {
				ranks[len(imagesByHand(f))-1]++
			}
		}
		got, code := impl.SizesByRank(list)
		checkCode(t, "SizesByRank", code, impl.ErrNone)
		checkList(t, fmt.Sprint("SizesByRank ", list), got, ranks)
		got, code = impl.SizesByLength(list)
		checkCode(t, "SizesByLength", code, impl.ErrNone)
		checkList(t, fmt.Sprint("SizesByLength ", list), got, lengths)
	}
	got, _ := impl.SizesByRank(listOf("1230", "1023", "0012"))
	checkList(t, "SizesByRank of all maps", got, []int64{4, 84, 144, 24})
	got, _ = impl.SizesByRank(listOf("01234"))
	checkList(t, "SizesByRank of the identity", got, []int64{0, 0, 0, 0, 1})
	got, _ = impl.SizesByLength(listOf("01234"))
	checkList(t, "SizesByLength of the identity", got, []int64{1})
	got, _ = impl.SizesByLength(listOf("10", "00"))
	checkList(t, "SizesByLength", got, []int64{1, 2, 1})
}

// leastGeneratingByHand looks at all parts.
func leastGeneratingByHand(list []impl.Map) []int64 {
	var least []int64
	size := len(elementsByHand(list))
	found := false
	for _, part := range subsets(int64(len(list))) {
		var maps []impl.Map
		for _, number := range part {
			maps = append(maps, list[number])
		}
		if len(slices.Concat(levelsByHand(maps, list[0].Points)...)) != size {
			continue
		}
		if !found || len(part) < len(least) || len(part) == len(least) && slices.Compare(part, least) < 0 {
			found, least = true, part
		}
	}
	return least
}

func TestLeastGenerating(t *testing.T) {
	for _, list := range allLists() {
		part, code := impl.LeastGenerating(list)
		checkCode(t, "LeastGenerating", code, impl.ErrNone)
		checkList(t, fmt.Sprint("LeastGenerating ", list), part, leastGeneratingByHand(list))
	}
	for _, c := range []struct {
		list []impl.Map
		want []int64
	}{
		{listOf("0"), nil},
		{listOf("01234", "01234"), nil},
		{listOf("10", "10", "00"), []int64{0, 2}},
		{listOf("10", "01", "00", "11"), []int64{0, 2}},
		{listOf("000", "111", "222"), []int64{0, 1, 2}},
		{listOf("12034", "01243", "12043"), []int64{2}},
		{listOf("2301", "1230", "3012"), []int64{1}},
		{listOf("00234", "01134", "01224", "01233", "00000", "00034"), []int64{0, 1, 2, 3}},
	} {
		part, code := impl.LeastGenerating(c.list)
		checkCode(t, "LeastGenerating", code, impl.ErrNone)
		checkList(t, fmt.Sprint("LeastGenerating ", c.list), part, c.want)
	}
}

func TestGeneratingPartsMakeTheSameMonoid(t *testing.T) {
	for _, list := range allLists() {
		part, _ := impl.LeastGenerating(list)
		var maps []impl.Map
		for _, number := range part {
			maps = append(maps, list[number])
		}
		if len(maps) == 0 {
			maps = []impl.Map{identityByHand(list[0].Points)}
		}
		want, _ := impl.ElementsOf(list)
		got, code := impl.ElementsOf(maps)
		checkCode(t, "ElementsOf", code, impl.ErrNone)
		checkMaps(t, fmt.Sprint("ElementsOf ", maps), got, want)
	}
}

// callsOfMonoids calls each function of chapter 2 with a list, and tells the code and whether the
// result is the zero value.
func callsOfMonoids(list []impl.Map, f impl.Map, word []int64) map[string]func() (int64, bool) {
	return map[string]func() (int64, bool){
		"ElementsOf":      func() (int64, bool) { return ofMaps(impl.ElementsOf(list)) },
		"SizeOf":          func() (int64, bool) { return ofNumber(impl.SizeOf(list)) },
		"WordFor":         func() (int64, bool) { return ofNumbers(impl.WordFor(list, f)) },
		"MapOfWord":       func() (int64, bool) { return ofMap(impl.MapOfWord(list, word)) },
		"IsElement":       func() (int64, bool) { return ofBool(impl.IsElement(list, f)) },
		"UnitsOf":         func() (int64, bool) { return ofMaps(impl.UnitsOf(list)) },
		"ZeroOf":          func() (int64, bool) { return ofMap(impl.ZeroOf(list)) },
		"SideZeros left":  func() (int64, bool) { return ofMaps(impl.SideZeros(list, false)) },
		"SideZeros right": func() (int64, bool) { return ofMaps(impl.SideZeros(list, true)) },
		"IdempotentsOf":   func() (int64, bool) { return ofMaps(impl.IdempotentsOf(list)) },
		"CentreOf":        func() (int64, bool) { return ofMaps(impl.CentreOf(list)) },
		"IsCommutative":   func() (int64, bool) { return ofBool(impl.IsCommutative(list)) },
		"SizesByRank":     func() (int64, bool) { return ofNumbers(impl.SizesByRank(list)) },
		"SizesByLength":   func() (int64, bool) { return ofNumbers(impl.SizesByLength(list)) },
		"LeastGenerating": func() (int64, bool) { return ofNumbers(impl.LeastGenerating(list)) },
	}
}

// TestListsWithNoMapsAreInvalid gives lists that are also too long or of maps with different
// points, words and maps that are not as told, all of which is checked later.
func TestListsWithNoMapsAreInvalid(t *testing.T) {
	for _, bad := range noMaps() {
		for _, list := range listsWith(bad) {
			for name, call := range callsOfMonoids(list, digits("10"), []int64{-1}) {
				checkFails(t, fmt.Sprint(name, " ", list), call, impl.ErrInvalid)
			}
		}
		for _, list := range [][]impl.Map{nil, listOf("10"), listOf("10", "120"), largeLists()[1]} {
			calls := callsOfMonoids(list, bad, nil)
			checkFails(t, fmt.Sprint("WordFor ", list, bad), calls["WordFor"], impl.ErrInvalid)
			checkFails(t, fmt.Sprint("IsElement ", list, bad), calls["IsElement"], impl.ErrInvalid)
		}
	}
}

func TestListsThatAreNotAsTold(t *testing.T) {
	for _, list := range listsNotAsTold() {
		for name, call := range callsOfMonoids(list, digits("10"), nil) {
			checkFails(t, fmt.Sprint(name, " ", list), call, impl.ErrRange)
		}
	}
}

func TestMapsWithAnotherNumberOfPoints(t *testing.T) {
	for _, list := range [][]impl.Map{listOf("10"), listOf("01234"), largeLists()[0]} {
		calls := callsOfMonoids(list, digits("120"), nil)
		checkFails(t, fmt.Sprint("WordFor ", list), calls["WordFor"], impl.ErrRange)
		checkFails(t, fmt.Sprint("IsElement ", list), calls["IsElement"], impl.ErrRange)
	}
}

func TestWordsAreCheckedBehindLists(t *testing.T) {
	for _, list := range [][]impl.Map{nil, listOf("10", "120"), listOf("0", "0", "0", "0", "0", "0", "0")} {
		f, code := impl.MapOfWord(list, nil)
		checkCode(t, fmt.Sprint("MapOfWord ", list), code, impl.ErrRange)
		checkMap(t, "MapOfWord", f, impl.Map{})
	}
}

func TestSixMapsAreAccepted(t *testing.T) {
	for name, call := range callsOfMonoids(listOf("10", "10", "10", "10", "10", "10"), digits("10"), []int64{5}) {
		code, _ := call()
		if name == "ZeroOf" {
			checkCode(t, name, code, impl.ErrNotFound)
			continue
		}
		checkCode(t, name, code, impl.ErrNone)
	}
}

func TestMaxElementsAreAccepted(t *testing.T) {
	list := listOfMaxElements()
	for name, call := range callsOfMonoids(list, list[0], []int64{0, 1, 2}) {
		code, _ := call()
		if name == "ZeroOf" {
			checkCode(t, name, code, impl.ErrNotFound)
			continue
		}
		checkCode(t, name, code, impl.ErrNone)
	}
}

// TestLargerMonoidsAreRejected also asks for a map that is no element, which is checked later.
func TestLargerMonoidsAreRejected(t *testing.T) {
	for i, list := range largeLists() {
		if size := len(elementsByHand(list)); size <= impl.MaxElements || i == 0 && size != impl.MaxElements+1 {
			t.Fatalf("%v has %d elements", list, size)
		}
		for _, f := range []impl.Map{list[0], identityByHand(5), digits("00012")} {
			for name, call := range callsOfMonoids(list, f, nil) {
				if name != "MapOfWord" {
					checkFails(t, fmt.Sprint(name, " ", list), call, impl.ErrLimit)
				}
			}
		}
	}
}

// TestMonoidsShareNoMemory writes to the results, and looks at the arguments and what is behind
// them.
func TestMonoidsShareNoMemory(t *testing.T) {
	store := listOf("1230", "1000", "3333", "2222")
	list := store[:3]
	words := []int64{0, 1, 2, 2, 2}
	ofMaps := map[string]func() ([]impl.Map, int64){
		"ElementsOf":    func() ([]impl.Map, int64) { return impl.ElementsOf(list) },
		"UnitsOf":       func() ([]impl.Map, int64) { return impl.UnitsOf(list) },
		"SideZeros":     func() ([]impl.Map, int64) { return impl.SideZeros(list, true) },
		"IdempotentsOf": func() ([]impl.Map, int64) { return impl.IdempotentsOf(list) },
		"CentreOf":      func() ([]impl.Map, int64) { return impl.CentreOf(list) },
	}
	for name, call := range ofMaps {
		checkOwn(t, name, call)
		checkMaps(t, "the list behind "+name, store, listOf("1230", "1000", "3333", "2222"))
	}
	ofNumbers := map[string]func() ([]int64, int64){
		"WordFor":         func() ([]int64, int64) { return impl.WordFor(list, digits("1111")) },
		"SizesByRank":     func() ([]int64, int64) { return impl.SizesByRank(list) },
		"SizesByLength":   func() ([]int64, int64) { return impl.SizesByLength(list) },
		"LeastGenerating": func() ([]int64, int64) { return impl.LeastGenerating(list) },
	}
	for name, call := range ofNumbers {
		checkOwn(t, name, call)
		checkMaps(t, "the list behind "+name, store, listOf("1230", "1000", "3333", "2222"))
	}
	impl.MapOfWord(list, words[:3])
	checkMaps(t, "the list behind MapOfWord", store, listOf("1230", "1000", "3333", "2222"))
	checkList(t, "the word behind MapOfWord", words, []int64{0, 1, 2, 2, 2})
	impl.WordFor(list, store[3])
	impl.IsElement(list, store[3])
	impl.ZeroOf(list)
	impl.SizeOf(list)
	impl.IsCommutative(list)
	checkMaps(t, "the list behind the others", store, listOf("1230", "1000", "3333", "2222"))
}

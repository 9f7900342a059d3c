package tests

import (
	"fmt"
	"slices"
	"testing"

	"loop.example/g01359/impl"
)

// listsOfInverses have, beside those of chapter 3, lists of inverse monoids: partial permutations
// of the points ahead of the last one, which stands for no point.
func listsOfInverses() [][]impl.Map {
	return append(listsOfClasses(), listOf("1203", "1023", "0133"), listOf("12304", "10234", "01244"))
}

// inversesByHand are the elements that have what is asked of an inverse of f, one part or both.
func inversesByHand(elements []impl.Map, f impl.Map, backToF bool, backToItself bool) []impl.Map {
	var inverses []impl.Map
	for _, g := range elements {
		if backToF && byHand(byHand(f, g), f) != f || backToItself && byHand(byHand(g, f), g) != g {
			continue
		}
		inverses = append(inverses, g)
	}
	return inverses
}

// belowByHand looks for both idempotent elements for each element.
func belowByHand(elements []impl.Map, g impl.Map) []impl.Map {
	idempotent := func(e impl.Map) bool { return byHand(e, e) == e }
	var below []impl.Map
	for _, f := range elements {
		left := func(e impl.Map) bool { return idempotent(e) && byHand(e, g) == f }
		right := func(h impl.Map) bool { return idempotent(h) && byHand(g, h) == f }
		if slices.ContainsFunc(elements, left) && slices.ContainsFunc(elements, right) {
			below = append(below, f)
		}
	}
	return below
}

// inOrder takes of the elements, which are in order, those that are met.
func inOrder(elements []impl.Map, met map[impl.Map]bool) []impl.Map {
	return slices.DeleteFunc(slices.Clone(elements), func(f impl.Map) bool { return !met[f] })
}

func isPart(part []impl.Map, whole []impl.Map) bool {
	return !slices.ContainsFunc(part, func(f impl.Map) bool { return !slices.Contains(whole, f) })
}

func TestPromise4InversesAreInversesOfEachOther(t *testing.T) {
	for _, list := range listsOfInverses() {
		elements, _ := impl.ElementsOf(list)
		for _, i := range some(len(elements)) {
			f := elements[i]
			inverses, code := impl.InversesIn(list, f)
			checkCode(t, fmt.Sprint("InversesIn ", list, f), code, impl.ErrNone)
			for _, k := range some(len(inverses)) {
				g := inverses[k]
				if byHand(byHand(f, g), f) != f || byHand(byHand(g, f), g) != g {
					t.Fatalf("InversesIn(%v, %v) = %v, but %v is none", list, f, inverses, g)
				}
				others, code := impl.InversesIn(list, g)
				if code != impl.ErrNone || !slices.Contains(others, f) {
					t.Fatalf("InversesIn(%v, %v) = %v, %d, without %v", list, g, others, code, f)
				}
			}
		}
	}
}

// TestPromise4ElementsOfTheLeastIdealHaveTheLeastRank also looks for all elements of this rank:
// they are all in the least ideal.
func TestPromise4ElementsOfTheLeastIdealHaveTheLeastRank(t *testing.T) {
	for _, list := range listsOfInverses() {
		sizes, _ := impl.SizesByRank(list)
		least := slices.IndexFunc(sizes, func(size int64) bool { return size > 0 })
		ideal, code := impl.LeastIdeal(list)
		checkCode(t, fmt.Sprint("LeastIdeal ", list), code, impl.ErrNone)
		if int64(len(ideal)) != sizes[least] {
			t.Fatalf("LeastIdeal(%v) = %v, but %d elements have the least rank", list, ideal, sizes[least])
		}
		for _, f := range ideal {
			if rank, _ := impl.RankOf(f); rank != int64(least+1) {
				t.Fatalf("LeastIdeal(%v) = %v, but %v has not the rank %d", list, ideal, f, least+1)
			}
		}
	}
}

func TestRegularElementsHaveInverses(t *testing.T) {
	for _, list := range listsOfInverses() {
		elements, _ := impl.ElementsOf(list)
		all, _ := impl.RegularElements(list)
		for _, i := range some(len(elements)) {
			f := elements[i]
			inverses, _ := impl.InversesIn(list, f)
			regular, _ := impl.IsRegularIn(list, f)
			inClass, _ := impl.IsRegular(list, f)
			if regular != (len(inverses) > 0) || regular != inClass || regular != slices.Contains(all, f) {
				t.Fatalf("IsRegularIn(%v, %v) = %v, the inverses are %v, the joined class is regular: %v", list, f, regular, inverses, inClass)
			}
		}
	}
}

func TestIdealsHaveRightAndLeftIdeals(t *testing.T) {
	for _, list := range listsOfInverses() {
		elements, _ := impl.ElementsOf(list)
		least, _ := impl.LeastIdeal(list)
		for _, i := range some(len(elements)) {
			f := elements[i]
			right, _ := impl.RightIdeal(list, f)
			left, _ := impl.LeftIdeal(list, f)
			ideal, _ := impl.IdealOf(list, f)
			below, _ := impl.ElementsBelow(list, f)
			if !slices.Contains(right, f) || !slices.Contains(left, f) || !slices.Contains(below, f) {
				t.Fatalf("%v, %v: ideals %v, %v and what is below, %v, without it", list, f, right, left, below)
			}
			if !isPart(right, ideal) || !isPart(left, ideal) || !isPart(least, ideal) || !isPart(below, right) || !isPart(below, left) {
				t.Fatalf("%v, %v: the ideal %v without %v, %v or %v, or these without %v", list, f, ideal, right, left, least, below)
			}
		}
	}
}

func TestRegularElementsAndInverses(t *testing.T) {
	for _, list := range listsOfInverses() {
		elements := elementsByHand(list)
		var regular []impl.Map
		single := true
		for _, f := range elements {
			if len(inversesByHand(elements, f, true, false)) > 0 {
				regular = append(regular, f)
			}
			single = single && len(inversesByHand(elements, f, true, true)) == 1
		}
		all, code := impl.RegularElements(list)
		checkCode(t, "RegularElements", code, impl.ErrNone)
		checkMaps(t, fmt.Sprint("RegularElements ", list), all, regular)
		whole, code := impl.IsRegularMonoid(list)
		if whole != (len(regular) == len(elements)) || code != impl.ErrNone {
			t.Fatalf("IsRegularMonoid(%v) = %v, %d", list, whole, code)
		}
		inverse, code := impl.IsInverseMonoid(list)
		if inverse != single || code != impl.ErrNone {
			t.Fatalf("IsInverseMonoid(%v) = %v, %d", list, inverse, code)
		}
		for _, i := range some(len(elements)) {
			f := elements[i]
			is, code := impl.IsRegularIn(list, f)
			if is != slices.Contains(regular, f) || code != impl.ErrNone {
				t.Fatalf("IsRegularIn(%v, %v) = %v, %d", list, f, is, code)
			}
			inverses, code := impl.InversesIn(list, f)
			checkCode(t, "InversesIn", code, impl.ErrNone)
			checkMaps(t, fmt.Sprint("InversesIn ", list, f), inverses, inversesByHand(elements, f, true, true))
		}
	}
}

func TestIsBelowAndElementsBelow(t *testing.T) {
	for _, list := range listsOfInverses() {
		elements := elementsByHand(list)
		for _, i := range some(len(elements)) {
			g := elements[i]
			want := belowByHand(elements, g)
			below, code := impl.ElementsBelow(list, g)
			checkCode(t, "ElementsBelow", code, impl.ErrNone)
			checkMaps(t, fmt.Sprint("ElementsBelow ", list, g), below, want)
			for _, f := range []impl.Map{g, want[0], elements[0], elements[(i*7+5)%len(elements)], elements[(i*3+1)%len(elements)]} {
				is, code := impl.IsBelow(list, f, g)
				if is != slices.Contains(want, f) || code != impl.ErrNone {
					t.Fatalf("IsBelow(%v, %v, %v) = %v, %d", list, f, g, is, code)
				}
			}
		}
	}
}

func TestIdeals(t *testing.T) {
	for _, list := range listsOfInverses() {
		elements := elementsByHand(list)
		least := elements
		for _, f := range elements {
			least = inOrder(least, reachedByHand(list, f, true, true))
		}
		got, code := impl.LeastIdeal(list)
		checkCode(t, "LeastIdeal", code, impl.ErrNone)
		checkMaps(t, fmt.Sprint("LeastIdeal ", list), got, least)
		for _, i := range some(len(elements)) {
			f := elements[i]
			right, code := impl.RightIdeal(list, f)
			checkCode(t, "RightIdeal", code, impl.ErrNone)
			checkMaps(t, fmt.Sprint("RightIdeal ", list, f), right, inOrder(elements, reachedByHand(list, f, false, true)))
			left, code := impl.LeftIdeal(list, f)
			checkCode(t, "LeftIdeal", code, impl.ErrNone)
			checkMaps(t, fmt.Sprint("LeftIdeal ", list, f), left, inOrder(elements, reachedByHand(list, f, true, false)))
			both, code := impl.IdealOf(list, f)
			checkCode(t, "IdealOf", code, impl.ErrNone)
			checkMaps(t, fmt.Sprint("IdealOf ", list, f), both, inOrder(elements, reachedByHand(list, f, true, true)))
		}
	}
}

func TestCentraliserIn(t *testing.T) {
	for _, list := range listsOfInverses() {
		elements := elementsByHand(list)
		centre, _ := impl.CentreOf(list)
		for _, i := range some(len(elements)) {
			f := elements[i]
			commuting := map[impl.Map]bool{}
			for _, g := range elements {
				commuting[g] = byHand(f, g) == byHand(g, f)
			}
			got, code := impl.CentraliserIn(list, f)
			checkCode(t, "CentraliserIn", code, impl.ErrNone)
			checkMaps(t, fmt.Sprint("CentraliserIn ", list, f), got, inOrder(elements, commuting))
			if slices.Contains(centre, f) != (len(got) == len(elements)) || !isPart(centre, got) {
				t.Fatalf("CentraliserIn(%v, %v) = %v, and the centre is %v", list, f, got, centre)
			}
		}
	}
}

// inversesOfKnownMonoids are told by hand: elements with one inverse, with more and without one.
func inversesOfKnownMonoids() []knownMaps {
	all := listOf("1230", "1023", "0012")
	constants := listOf("00000", "11111", "22222", "33333", "44444")
	partial := listOf("1203", "1023", "0133")
	return []knownMaps{
		{listOf("10", "00"), "00", listOf("00", "11")},
		{listOf("10", "00"), "11", listOf("00", "11")},
		{listOf("10", "00"), "10", listOf("10")},
		{listOf("0"), "0", listOf("0")},
		{listOf("01234"), "01234", listOf("01234")},
		{listOf("120"), "120", listOf("201")},
		{listOf("12340", "10234"), "12340", listOf("40123")},
		{listOf("120", "102", "001"), "001", listOf("020", "022", "121", "122")},
		{all, "0000", listOf("0000", "1111", "2222", "3333")},
		{constants, "22222", constants},
		{constants, "01234", listOf("01234")},
		{partial, "1203", listOf("2013")},
		{partial, "1333", listOf("3033")},
		{partial, "3333", listOf("3333")},
		{listOf("001"), "000", listOf("000")},
		{listOf("001"), "001", nil},
		{listOf("00123"), "00012", nil},
		{listOf("0012", "0000"), "0001", nil},
	}
}

// knownMaps are what a function gives for a list and the map with a text.
type knownMaps struct {
	list []impl.Map
	text string
	want []impl.Map
}

func checkKnown(t *testing.T, name string, call func(list []impl.Map, f impl.Map) ([]impl.Map, int64), known []knownMaps) {
	t.Helper()
	for _, k := range known {
		got, code := call(k.list, digits(k.text))
		checkCode(t, fmt.Sprint(name, k.list, k.text), code, impl.ErrNone)
		checkMaps(t, fmt.Sprint(name, k.list, k.text), got, k.want)
	}
}

func TestInversesInKnownMonoids(t *testing.T) {
	checkKnown(t, "InversesIn", impl.InversesIn, inversesOfKnownMonoids())
	for _, k := range inversesOfKnownMonoids() {
		regular, code := impl.IsRegularIn(k.list, digits(k.text))
		if regular != (len(k.want) > 0) || code != impl.ErrNone {
			t.Errorf("IsRegularIn(%v, %s) = %v, %d", k.list, k.text, regular, code)
		}
	}
}

func TestRegularAndInverseMonoidsThatAreKnown(t *testing.T) {
	for _, c := range []struct {
		list             []impl.Map
		regular          []impl.Map
		isAll, isInverse bool
	}{
		{listOf("0"), listOf("0"), true, true},
		{listOf("120"), listOf("012", "120", "201"), true, true},
		// regular, but 00 has two inverses
		{listOf("10", "00"), listOf("00", "01", "10", "11"), true, false},
		{listOf("000", "111"), listOf("000", "012", "111"), true, false},
		{listOf("1033", "0333"), listOf("0123", "0133", "0333", "1033", "1333", "3033", "3133", "3333"), true, true},
		// idempotents that commute, but 001 is not regular
		{listOf("001"), listOf("000", "012"), false, false},
		{listOf("00123"), listOf("00000", "01234"), false, false},
		{listOf("0022", "0001"), listOf("0000", "0022", "0123"), false, false},
		{listOf("112", "101"), listOf("000", "010", "012", "101", "111", "112"), false, false},
	} {
		got, code := impl.RegularElements(c.list)
		checkCode(t, "RegularElements", code, impl.ErrNone)
		checkMaps(t, fmt.Sprint("RegularElements ", c.list), got, c.regular)
		regular, code := impl.IsRegularMonoid(c.list)
		if regular != c.isAll || code != impl.ErrNone {
			t.Errorf("IsRegularMonoid(%v) = %v, %d", c.list, regular, code)
		}
		inverse, code := impl.IsInverseMonoid(c.list)
		if inverse != c.isInverse || code != impl.ErrNone {
			t.Errorf("IsInverseMonoid(%v) = %v, %d", c.list, inverse, code)
		}
	}
}

func TestElementsBelowInKnownMonoids(t *testing.T) {
	ofThree, group := listOf("120", "102", "001"), listOf("12340", "10234")
	constants := listOf("00000", "11111", "22222")
	checkKnown(t, "ElementsBelow", impl.ElementsBelow, []knownMaps{
		{listOf("0"), "0", listOf("0")},
		{listOf("10", "00"), "10", listOf("00", "10", "11")},
		{listOf("10", "00"), "11", listOf("11")},
		{group, "12340", listOf("12340")},
		{group, "01234", listOf("01234")},
		// 011 is 022 after which comes 001, but no idempotent after 001 makes it
		{ofThree, "001", listOf("000", "001", "111")},
		{ofThree, "012", listOf("000", "002", "010", "011", "012", "022", "111", "112", "212", "222")},
		{constants, "01234", listOf("00000", "01234", "11111", "22222")},
		{constants, "11111", listOf("11111")},
		{listOf("00123"), "00012", listOf("00000", "00012")},
		{listOf("1203", "1023", "0133"), "1203", listOf("1203", "1233", "1303", "1333", "3203", "3233", "3303", "3333")},
	})
	for _, k := range []struct {
		f, g string
		want bool
	}{{"111", "001", true}, {"001", "001", true}, {"011", "001", false}, {"012", "001", false}, {"001", "111", false}} {
		got, code := impl.IsBelow(ofThree, digits(k.f), digits(k.g))
		if got != k.want || code != impl.ErrNone {
			t.Errorf("IsBelow(%v, %s, %s) = %v, %d", ofThree, k.f, k.g, got, code)
		}
	}
}

func TestIdealsInKnownMonoids(t *testing.T) {
	ofTwo, resets := listOf("10", "00"), listOf("120", "000")
	two, flat := listOf("0101", "0110"), listOf("0022", "0001")
	checkKnown(t, "RightIdeal", impl.RightIdeal, []knownMaps{
		{listOf("0"), "0", listOf("0")},
		{ofTwo, "00", listOf("00", "11")},
		{ofTwo, "10", listOf("00", "01", "10", "11")},
		{resets, "000", listOf("000", "111", "222")},
		{two, "0110", listOf("0110")},
		{flat, "0022", listOf("0000", "0022")},
	})
	checkKnown(t, "LeftIdeal", impl.LeftIdeal, []knownMaps{
		{listOf("0"), "0", listOf("0")},
		{ofTwo, "00", listOf("00")},
		{ofTwo, "10", listOf("00", "01", "10", "11")},
		{resets, "000", listOf("000")},
		{two, "0110", listOf("0101", "0110")},
		{flat, "0022", listOf("0000", "0022")},
	})
	checkKnown(t, "IdealOf", impl.IdealOf, []knownMaps{
		{listOf("0"), "0", listOf("0")},
		{ofTwo, "00", listOf("00", "11")},
		{ofTwo, "10", listOf("00", "01", "10", "11")},
		{resets, "111", listOf("000", "111", "222")},
		{two, "0110", listOf("0101", "0110")},
		{flat, "0022", listOf("0000", "0022")},
		{listOf("00123"), "00012", listOf("00000", "00001", "00012")},
	})
	checkKnown(t, "CentraliserIn", impl.CentraliserIn, []knownMaps{
		{listOf("0"), "0", listOf("0")},
		{ofTwo, "00", listOf("00", "01")},
		{ofTwo, "10", listOf("01", "10")},
		{resets, "000", listOf("000", "012")},
		{resets, "120", listOf("012", "120", "201")},
		{listOf("00123"), "00012", listOf("00000", "00001", "00012", "00123", "01234")},
	})
}

// TestLeastIdealsOfKnownMonoids has groups too: their least ideals are the whole monoids.
func TestLeastIdealsOfKnownMonoids(t *testing.T) {
	all := listOf("1230", "1023", "0012")
	for _, k := range []struct{ list, want []impl.Map }{
		{listOf("0"), listOf("0")},
		{listOf("01234"), listOf("01234")},
		{listOf("120", "102"), listOf("012", "021", "102", "120", "201", "210")},
		{listOf("10", "00"), listOf("00", "11")},
		{listOf("0101", "0110"), listOf("0101", "0110")},
		{listOf("00123"), listOf("00000")},
		{listOf("1203", "1023", "0133"), listOf("3333")},
		{all, listOf("0000", "1111", "2222", "3333")},
		{listOf("11111", "00000", "33333"), listOf("00000", "11111", "33333")},
		{listOf("112", "101"), listOf("000", "111")},
	} {
		got, code := impl.LeastIdeal(k.list)
		checkCode(t, "LeastIdeal", code, impl.ErrNone)
		checkMaps(t, fmt.Sprint("LeastIdeal ", k.list), got, k.want)
	}
	group := listOf("12340", "10234")
	ideal, _ := impl.LeastIdeal(group)
	elements, _ := impl.ElementsOf(group)
	checkMaps(t, "LeastIdeal of all permutations", ideal, elements)
}

func inversesChapter() chapter {
	return chapter{
		ofFirst:  []string{"IsRegularIn", "InversesIn", "IsBelow", "ElementsBelow", "RightIdeal", "LeftIdeal", "IdealOf", "CentraliserIn"},
		ofSecond: []string{"IsBelow"},
		calls: func(list []impl.Map, f impl.Map, g impl.Map) map[string]func() (int64, bool) {
			return map[string]func() (int64, bool){
				"IsRegularIn":     func() (int64, bool) { return ofBool(impl.IsRegularIn(list, f)) },
				"RegularElements": func() (int64, bool) { return ofMaps(impl.RegularElements(list)) },
				"IsRegularMonoid": func() (int64, bool) { return ofBool(impl.IsRegularMonoid(list)) },
				"InversesIn":      func() (int64, bool) { return ofMaps(impl.InversesIn(list, f)) },
				"IsInverseMonoid": func() (int64, bool) { return ofBool(impl.IsInverseMonoid(list)) },
				"IsBelow":         func() (int64, bool) { return ofBool(impl.IsBelow(list, f, g)) },
				"ElementsBelow":   func() (int64, bool) { return ofMaps(impl.ElementsBelow(list, f)) },
				"RightIdeal":      func() (int64, bool) { return ofMaps(impl.RightIdeal(list, f)) },
				"LeftIdeal":       func() (int64, bool) { return ofMaps(impl.LeftIdeal(list, f)) },
				"IdealOf":         func() (int64, bool) { return ofMaps(impl.IdealOf(list, f)) },
				"LeastIdeal":      func() (int64, bool) { return ofMaps(impl.LeastIdeal(list)) },
				"CentraliserIn":   func() (int64, bool) { return ofMaps(impl.CentraliserIn(list, f)) },
			}
		},
	}
}

func TestInversesRejectWhatIsNotAMap(t *testing.T) {
	inversesChapter().checkNoMaps(t)
}

func TestInversesRejectListsAndMapsThatAreNotAsTold(t *testing.T) {
	inversesChapter().checkListsNotAsTold(t)
	inversesChapter().checkOtherPoints(t)
}

func TestInversesRejectLargerMonoids(t *testing.T) {
	inversesChapter().checkLargeMonoids(t)
}

func TestInversesRejectMapsThatAreNoElements(t *testing.T) {
	inversesChapter().checkNoElements(t)
}

func TestInversesAcceptSixMapsAndMaxElements(t *testing.T) {
	inversesChapter().checkAccepted(t, "IsRegularMonoid", "IsInverseMonoid")
	list := listOfMaxElements()
	ideal, _ := impl.IdealOf(list, identityByHand(5))
	if len(ideal) != impl.MaxElements {
		t.Errorf("the ideal of the identity has %d elements", len(ideal))
	}
}

// TestInversesShareNoMemory writes to the results, and looks at the arguments and what is behind
// them.
func TestInversesShareNoMemory(t *testing.T) {
	store := listOf("120", "000", "111", "222")
	list := store[:2]
	for name, call := range map[string]func() ([]impl.Map, int64){
		"RegularElements": func() ([]impl.Map, int64) { return impl.RegularElements(list) },
		"InversesIn":      func() ([]impl.Map, int64) { return impl.InversesIn(list, store[2]) },
		"ElementsBelow":   func() ([]impl.Map, int64) { return impl.ElementsBelow(list, list[0]) },
		"RightIdeal":      func() ([]impl.Map, int64) { return impl.RightIdeal(list, store[2]) },
		"LeftIdeal":       func() ([]impl.Map, int64) { return impl.LeftIdeal(list, list[0]) },
		"IdealOf":         func() ([]impl.Map, int64) { return impl.IdealOf(list, list[1]) },
		"LeastIdeal":      func() ([]impl.Map, int64) { return impl.LeastIdeal(list) },
		"CentraliserIn":   func() ([]impl.Map, int64) { return impl.CentraliserIn(list, list[0]) },
	} {
		checkOwn(t, name, call)
		checkMaps(t, "the list behind "+name, store, listOf("120", "000", "111", "222"))
	}
	impl.IsRegularIn(list, store[2])
	impl.IsRegularMonoid(list)
	impl.IsInverseMonoid(list)
	impl.IsBelow(list, store[2], store[0])
	checkMaps(t, "the list behind the others", store, listOf("120", "000", "111", "222"))
}

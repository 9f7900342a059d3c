package tests

import (
	"cmp"
	"fmt"
	"slices"
	"testing"

	"loop.example/g01359/impl"
)

// imageByHand is the set of the points to which a map leads the points of a set.
func imageByHand(f impl.Map, set []int64) []int64 {
	var image []int64
	for _, p := range set {
		image = append(image, f.To[p])
	}
	slices.Sort(image)
	return slices.Compact(image)
}

// orderSets puts sets in the order of chapter 10, each once.
func orderSets(sets [][]int64) [][]int64 {
	slices.SortFunc(sets, func(a []int64, b []int64) int {
		return cmp.Or(cmp.Compare(len(a), len(b)), slices.Compare(a, b))
	})
	return slices.CompactFunc(sets, slices.Equal)
}

func hasSet(sets [][]int64, set []int64) bool {
	return slices.ContainsFunc(sets, func(s []int64) bool { return slices.Equal(s, set) })
}

// setsWithPoints are all sets of n points but the empty one.
func setsWithPoints(n int64) [][]int64 { return subsets(n)[1:] }

// orbitByHand has the points to which the maps of words lead a point.
func orbitByHand(words []wordByHand, p int64) []int64 {
	var orbit []int64
	for _, w := range words {
		orbit = append(orbit, w.f.To[p])
	}
	slices.Sort(orbit)
	return slices.Compact(orbit)
}

// partsByHand puts together the points that are in the orbits of each other.
func partsByHand(words []wordByHand, n int64) [][]int64 {
	var parts [][]int64
	for p := range n {
		var part []int64
		for _, q := range orbitByHand(words, p) {
			if slices.Contains(orbitByHand(words, q), p) {
				part = append(part, q)
			}
		}
		if part[0] == p {
			parts = append(parts, part)
		}
	}
	return parts
}

func isInvariantSet(list []impl.Map, set []int64) bool {
	for _, f := range list {
		for _, p := range set {
			if !slices.Contains(set, f.To[p]) {
				return false
			}
		}
	}
	return true
}

func invariantSetsByHand(list []impl.Map) [][]int64 {
	var sets [][]int64
	for _, set := range setsWithPoints(list[0].Points) {
		if isInvariantSet(list, set) {
			sets = append(sets, set)
		}
	}
	return orderSets(sets)
}

func partitionsByHand(n int64) [][]int64 {
	return classesWhere(int(n), func([]int64) bool { return true })
}

func isInvariantPartition(list []impl.Map, partition []int64) bool {
	for _, f := range list {
		for p := range partition {
			for q := range p {
				if partition[p] == partition[q] && partition[f.To[p]] != partition[f.To[q]] {
					return false
				}
			}
		}
	}
	return true
}

func invariantPartitionsByHand(list []impl.Map) [][]int64 {
	var partitions [][]int64
	for _, partition := range partitionsByHand(list[0].Points) {
		if isInvariantPartition(list, partition) {
			partitions = append(partitions, partition)
		}
	}
	return partitions
}

func isPrimitiveByHand(words []wordByHand, list []impl.Map) bool {
	n := list[0].Points
	for _, partition := range invariantPartitionsByHand(list) {
		count := slices.Max(partition) + 1
		if count != 1 && count != n {
			return false
		}
	}
	return len(partsByHand(words, n)) == 1
}

// imagesOfSetByHand are the images of a set, in order.
func imagesOfSetByHand(words []wordByHand, set []int64) [][]int64 {
	var images [][]int64
	for _, w := range words {
		images = append(images, imageByHand(w.f, set))
	}
	return orderSets(images)
}

func leastImagesByHand(words []wordByHand, n int64) [][]int64 {
	images := imagesOfSetByHand(words, subsets(n)[1<<n-1])
	return slices.DeleteFunc(images, func(image []int64) bool { return len(image) > len(images[0]) })
}

// listsOfActions have, beside those of the chapters before, lists of permutations alone, with and
// without invariant partitions, lists with constant maps, and lists of six maps of one point and of
// MaxPoints points.
func listsOfActions() [][]impl.Map {
	return slices.Concat(smallLists(), listsOfWords(), somePairsOfMaps()[:300], [][]impl.Map{
		listOf("1032", "2301"),
		listOf("1032", "2301", "3210", "0123", "1032", "2301"),
		listOf("1203", "1032"),
		listOf("12043"),
		listOf("12340", "43210"),
		listOf("12340", "02413"),
		listOf("12340", "10234", "12340", "10234", "43210", "01234"),
		listOf("01234", "00000"),
		listOf("12340", "22222"),
		listOf("13024", "44444"),
		listOf("11111"),
		listOf("00112", "33344", "01234", "22222", "12344", "00000"),
		listOf("10324", "23014"),
		listOf("10432", "00222"),
		listOf("11233", "22344"),
	})
}

func TestPromise10OrbitsAreInvariantSets(t *testing.T) {
	for _, list := range listsOfActions() {
		sets, code := impl.InvariantSets(list)
		checkCode(t, fmt.Sprint("InvariantSets ", list), code, impl.ErrNone)
		for p := range list[0].Points {
			orbit, code := impl.OrbitOf(list, p)
			checkCode(t, fmt.Sprint("OrbitOf ", list, p), code, impl.ErrNone)
			if !slices.Contains(orbit, p) || !isInvariantSet(list, orbit) || !hasSet(sets, orbit) {
				t.Fatalf("OrbitOf(%v, %d) = %v, with the invariant sets %v", list, p, orbit, sets)
			}
			for _, set := range sets {
				isOutside := func(q int64) bool { return !slices.Contains(set, q) }
				if slices.Contains(set, p) && slices.ContainsFunc(orbit, isOutside) {
					t.Fatalf("OrbitOf(%v, %d) = %v is no part of the invariant set %v", list, p, orbit, set)
				}
			}
		}
	}
}

func TestPromise10WordsLeadFromSetToSet(t *testing.T) {
	found, missing := 0, 0
	for i, list := range listsOfActions() {
		if i%4 > 0 && list[0].Points < 4 {
			continue
		}
		for _, from := range setsWithPoints(list[0].Points) {
			images, code := impl.ImagesOfSet(list, from)
			checkCode(t, fmt.Sprint("ImagesOfSet ", list, from), code, impl.ErrNone)
			for _, to := range setsWithPoints(list[0].Points) {
				word, code := impl.WordToSet(list, from, to)
				if hasSet(images, to) != (code == impl.ErrNone) {
					t.Fatalf("WordToSet(%v, %v, %v) = %v, %d, with the images %v", list, from, to, word, code, images)
				}
				if code != impl.ErrNone {
					checkCode(t, fmt.Sprint("WordToSet ", list, from, to), code, impl.ErrNotFound)
					missing++
					continue
				}
				found++
				f, code := impl.MapOfWord(list, word)
				checkCode(t, "MapOfWord", code, impl.ErrNone)
				image, code := impl.ImageOf(f, from)
				checkCode(t, "ImageOf", code, impl.ErrNone)
				checkList(t, fmt.Sprint("ImageOf ", f, from), image, to)
				checkList(t, fmt.Sprint("the image by hand of ", from, " by ", f), imageByHand(f, from), to)
			}
		}
	}
	if found < 5000 || missing < 5000 {
		t.Error("only", found, "sets have words to others, or only", missing, "have none")
	}
}

// TestPromise14LeastImagesHaveTheRankOfTheLeastIdeal also looks whether these images are those of the
// elements of the least ideal.
func TestPromise14LeastImagesHaveTheRankOfTheLeastIdeal(t *testing.T) {
	for _, list := range slices.Concat(smallLists(), greaterLists(), cernyLists()[:3]) {
		least, code := impl.LeastImages(list)
		checkCode(t, fmt.Sprint("LeastImages ", list), code, impl.ErrNone)
		ideal, code := impl.LeastIdeal(list)
		checkCode(t, fmt.Sprint("LeastIdeal ", list), code, impl.ErrNone)
		var images [][]int64
		for _, f := range ideal {
			rank, code := impl.RankOf(f)
			checkCode(t, "RankOf", code, impl.ErrNone)
			for _, image := range least {
				if int64(len(image)) != rank {
					t.Fatalf("LeastImages(%v) = %v, but %v has the rank %d", list, least, f, rank)
				}
			}
			images = append(images, imagesByHand(f))
		}
		checkLists(t, fmt.Sprint("LeastImages ", list), least, orderSets(images))
	}
}

func TestStrongPartsPartThePoints(t *testing.T) {
	for _, list := range listsOfActions() {
		parts, code := impl.StrongParts(list)
		checkCode(t, fmt.Sprint("StrongParts ", list), code, impl.ErrNone)
		points := slices.Concat(parts...)
		slices.Sort(points)
		checkList(t, fmt.Sprint("the points of StrongParts ", list), points, trivialClasses(int(list[0].Points)))
		transitive, code := impl.IsTransitive(list)
		if transitive != (len(parts) == 1) || code != impl.ErrNone {
			t.Errorf("IsTransitive(%v) = %v, %d, with the parts %v", list, transitive, code, parts)
		}
		for _, part := range parts {
			orbit, _ := impl.OrbitOf(list, part[0])
			for _, p := range points {
				other, _ := impl.OrbitOf(list, p)
				if slices.Contains(part, p) != slices.Equal(orbit, other) {
					t.Fatalf("StrongParts(%v) = %v, but the orbits of %d and %d are %v and %v", list, parts, part[0], p, orbit, other)
				}
			}
		}
	}
}

// TestListsOfClassesActAsTheLists leads classes by words of the list of classes, and points by the same
// words of the list.
func TestListsOfClassesActAsTheLists(t *testing.T) {
	for i, list := range listsOfActions() {
		if i%4 > 0 && list[0].Points < 4 {
			continue
		}
		partitions, _ := impl.InvariantPartitions(list)
		words := wordsByHand(list, 2)
		for _, partition := range partitions {
			maps, code := impl.ListOfClasses(list, partition)
			checkCode(t, fmt.Sprint("ListOfClasses ", list, partition), code, impl.ErrNone)
			for _, k := range some(len(words)) {
				g, code := impl.MapOfWord(maps, words[k].word)
				checkCode(t, "MapOfWord of the list of classes", code, impl.ErrNone)
				for p, class := range partition {
					if g.To[class] != partition[words[k].f.To[p]] {
						t.Fatalf("ListOfClasses(%v, %v) = %v: by %v it leads %d elsewhere than the list", list, partition, maps, words[k].word, p)
					}
				}
			}
		}
	}
}

func TestOrbitsAndPartsByHand(t *testing.T) {
	for _, list := range listsOfActions() {
		n, words := list[0].Points, mapsOfWordsByHand(list)
		for p := range n {
			orbit, code := impl.OrbitOf(list, p)
			checkCode(t, "OrbitOf", code, impl.ErrNone)
			checkList(t, fmt.Sprint("OrbitOf ", list, p), orbit, orbitByHand(words, p))
		}
		parts, code := impl.StrongParts(list)
		checkCode(t, "StrongParts", code, impl.ErrNone)
		checkLists(t, fmt.Sprint("StrongParts ", list), parts, partsByHand(words, n))
		checkValue(t, fmt.Sprint("IsTransitive ", list), len(partsByHand(words, n)) == 1)(impl.IsTransitive(list))
		checkValue(t, fmt.Sprint("IsPrimitive ", list), isPrimitiveByHand(words, list))(impl.IsPrimitive(list))
		sets, code := impl.InvariantSets(list)
		checkCode(t, "InvariantSets", code, impl.ErrNone)
		checkLists(t, fmt.Sprint("InvariantSets ", list), sets, invariantSetsByHand(list))
	}
}

func TestPartitionsByHand(t *testing.T) {
	invariant, others := 0, 0
	for _, list := range listsOfActions() {
		got, code := impl.InvariantPartitions(list)
		checkCode(t, "InvariantPartitions", code, impl.ErrNone)
		checkLists(t, fmt.Sprint("InvariantPartitions ", list), got, invariantPartitionsByHand(list))
		for _, partition := range partitionsByHand(list[0].Points) {
			what := fmt.Sprint("ListOfClasses ", list, partition)
			is := isInvariantPartition(list, partition)
			checkValue(t, fmt.Sprint("IsInvariantPartition ", list, partition), is)(impl.IsInvariantPartition(list, partition))
			if !is {
				others++
				checkFails(t, what, func() (int64, bool) { return ofMaps(impl.ListOfClasses(list, partition)) }, impl.ErrState)
				continue
			}
			invariant++
			var want []impl.Map
			for _, f := range list {
				g := impl.Map{Points: slices.Max(partition) + 1}
				for p, class := range partition {
					g.To[class] = partition[f.To[p]]
				}
				want = append(want, g)
			}
			maps, code := impl.ListOfClasses(list, partition)
			checkCode(t, what, code, impl.ErrNone)
			checkMaps(t, what, maps, want)
		}
	}
	if invariant < 3000 || others < 3000 {
		t.Error("only", invariant, "partitions are invariant, or only", others, "are not")
	}
}

func TestImagesAndWordsToSetsByHand(t *testing.T) {
	for i, list := range listsOfActions() {
		n := list[0].Points
		if i%2 > 0 && n < 4 {
			continue
		}
		words := mapsOfWordsByHand(list)
		least, code := impl.LeastImages(list)
		checkCode(t, "LeastImages", code, impl.ErrNone)
		checkLists(t, fmt.Sprint("LeastImages ", list), least, leastImagesByHand(words, n))
		for _, from := range setsWithPoints(n) {
			images, code := impl.ImagesOfSet(list, from)
			checkCode(t, "ImagesOfSet", code, impl.ErrNone)
			checkLists(t, fmt.Sprint("ImagesOfSet ", list, from), images, imagesOfSetByHand(words, from))
			for _, to := range images {
				leads := func(f impl.Map) bool { return slices.Equal(imageByHand(f, from), to) }
				if !checkFirst(t, fmt.Sprint("WordToSet ", list, from, to), words, leads)(impl.WordToSet(list, from, to)) {
					t.Fatalf("ImagesOfSet(%v, %v) = %v: there is no word to %v", list, from, images, to)
				}
			}
		}
	}
}

// TestWordsToSetsAmongAllWords does not lean on first words of maps, but tries all words that may be
// needed: 3 points have 7 sets with points, so no least word has more than 6 numbers.
func TestWordsToSetsAmongAllWords(t *testing.T) {
	for i, list := range smallLists() {
		if i%7 > 0 {
			continue
		}
		words := wordsByHand(list, 6)
		for _, from := range setsWithPoints(list[0].Points) {
			for _, to := range setsWithPoints(list[0].Points) {
				leads := func(f impl.Map) bool { return slices.Equal(imageByHand(f, from), to) }
				checkFirst(t, fmt.Sprint("WordToSet ", list, from, to), words, leads)(impl.WordToSet(list, from, to))
			}
		}
	}
}

func TestKnownOrbitsAndParts(t *testing.T) {
	for _, k := range []struct {
		list       []impl.Map
		orbits     [][]int64
		parts      [][]int64
		transitive bool
	}{
		{listOf("0"), [][]int64{{0}}, [][]int64{{0}}, true},
		{listOf("0", "0", "0", "0", "0", "0"), [][]int64{{0}}, [][]int64{{0}}, true},
		{listOf("01"), [][]int64{{0}, {1}}, [][]int64{{0}, {1}}, false},
		{listOf("10"), [][]int64{{0, 1}, {0, 1}}, [][]int64{{0, 1}}, true},
		{listOf("00"), [][]int64{{0}, {0, 1}}, [][]int64{{0}, {1}}, false},
		{listOf("00", "11"), [][]int64{{0, 1}, {0, 1}}, [][]int64{{0, 1}}, true},
		{listOf("0101"), [][]int64{{0}, {1}, {0, 2}, {1, 3}}, [][]int64{{0}, {1}, {2}, {3}}, false},
		{listOf("12340"), slices.Repeat([][]int64{{0, 1, 2, 3, 4}}, 5), [][]int64{{0, 1, 2, 3, 4}}, true},
		{listOf("01234"), [][]int64{{0}, {1}, {2}, {3}, {4}}, [][]int64{{0}, {1}, {2}, {3}, {4}}, false},
		{listOf("12344"), [][]int64{{0, 1, 2, 3, 4}, {1, 2, 3, 4}, {2, 3, 4}, {3, 4}, {4}}, [][]int64{{0}, {1}, {2}, {3}, {4}}, false},
		{listOf("34012"), slices.Repeat([][]int64{{0, 1, 2, 3, 4}}, 5), [][]int64{{0, 1, 2, 3, 4}}, true},
		{listOf("23014"), [][]int64{{0, 2}, {1, 3}, {0, 2}, {1, 3}, {4}}, [][]int64{{0, 2}, {1, 3}, {4}}, false},
		{listOf("43210", "41230"), [][]int64{{0, 4}, {1, 3}, {2}, {1, 3}, {0, 4}}, [][]int64{{0, 4}, {1, 3}, {2}}, false},
		{listOf("10302", "10342"), [][]int64{{0, 1}, {0, 1}, {0, 1, 2, 3, 4}, {0, 1, 2, 3, 4}, {0, 1, 2, 3, 4}}, [][]int64{{0, 1}, {2, 3, 4}}, false},
		{listOf("01234", "01234", "01234", "01234", "01234", "33333"), [][]int64{{0, 3}, {1, 3}, {2, 3}, {3}, {3, 4}}, [][]int64{{0}, {1}, {2}, {3}, {4}}, false},
	} {
		for p, want := range k.orbits {
			orbit, code := impl.OrbitOf(k.list, int64(p))
			checkCode(t, "OrbitOf", code, impl.ErrNone)
			checkList(t, fmt.Sprint("OrbitOf ", k.list, p), orbit, want)
		}
		parts, code := impl.StrongParts(k.list)
		checkCode(t, "StrongParts", code, impl.ErrNone)
		checkLists(t, fmt.Sprint("StrongParts ", k.list), parts, k.parts)
		checkValue(t, fmt.Sprint("IsTransitive ", k.list), k.transitive)(impl.IsTransitive(k.list))
	}
}

// TestKnownInvariantSets has sets that come in another order by their points alone.
func TestKnownInvariantSets(t *testing.T) {
	for _, k := range []struct {
		list []impl.Map
		want [][]int64
	}{
		{listOf("0"), [][]int64{{0}}},
		{listOf("10"), [][]int64{{0, 1}}},
		{listOf("11"), [][]int64{{1}, {0, 1}}},
		{listOf("01"), [][]int64{{0}, {1}, {0, 1}}},
		{listOf("012"), [][]int64{{0}, {1}, {2}, {0, 1}, {0, 2}, {1, 2}, {0, 1, 2}}},
		{listOf("102"), [][]int64{{2}, {0, 1}, {0, 1, 2}}},
		{listOf("1230"), [][]int64{{0, 1, 2, 3}}},
		{listOf("1032", "0123"), [][]int64{{0, 1}, {2, 3}, {0, 1, 2, 3}}},
		{listOf("12344"), [][]int64{{4}, {3, 4}, {2, 3, 4}, {1, 2, 3, 4}, {0, 1, 2, 3, 4}}},
		{listOf("12043"), [][]int64{{3, 4}, {0, 1, 2}, {0, 1, 2, 3, 4}}},
		{listOf("12340", "22222"), [][]int64{{0, 1, 2, 3, 4}}},
		{listOf("01033"), [][]int64{{0}, {1}, {3}, {0, 1}, {0, 2}, {0, 3}, {1, 3}, {3, 4}, {0, 1, 2}, {0, 1, 3}, {0, 2, 3}, {0, 3, 4}, {1, 3, 4}, {0, 1, 2, 3}, {0, 1, 3, 4}, {0, 2, 3, 4}, {0, 1, 2, 3, 4}}},
	} {
		sets, code := impl.InvariantSets(k.list)
		checkCode(t, "InvariantSets", code, impl.ErrNone)
		checkLists(t, fmt.Sprint("InvariantSets ", k.list), sets, k.want)
	}
	sets, _ := impl.InvariantSets(listOf("01234", "01234"))
	checkLists(t, "InvariantSets of the identity", sets, orderSets(setsWithPoints(5)))
}

func TestKnownPartitions(t *testing.T) {
	for _, k := range []struct {
		list      []impl.Map
		want      [][]int64
		primitive bool
	}{
		{listOf("0"), [][]int64{{0}}, true},
		{listOf("0", "0", "0", "0", "0", "0"), [][]int64{{0}}, true},
		{listOf("10"), [][]int64{{0, 0}, {0, 1}}, true},
		{listOf("01"), [][]int64{{0, 0}, {0, 1}}, false},
		{listOf("00", "11"), [][]int64{{0, 0}, {0, 1}}, true},
		{listOf("120"), [][]int64{{0, 0, 0}, {0, 1, 2}}, true},
		{listOf("012"), [][]int64{{0, 0, 0}, {0, 0, 1}, {0, 1, 0}, {0, 1, 1}, {0, 1, 2}}, false},
		{listOf("120", "000"), [][]int64{{0, 0, 0}, {0, 1, 2}}, true},
		{listOf("1230"), [][]int64{{0, 0, 0, 0}, {0, 1, 0, 1}, {0, 1, 2, 3}}, false},
		{listOf("1032", "2301"), [][]int64{{0, 0, 0, 0}, {0, 0, 1, 1}, {0, 1, 0, 1}, {0, 1, 1, 0}, {0, 1, 2, 3}}, false},
		{listOf("1203", "1032"), [][]int64{{0, 0, 0, 0}, {0, 1, 2, 3}}, true},
		{listOf("1230", "1023"), [][]int64{{0, 0, 0, 0}, {0, 1, 2, 3}}, true},
		{listOf("12340"), [][]int64{{0, 0, 0, 0, 0}, {0, 1, 2, 3, 4}}, true},
		{listOf("12340", "10234"), [][]int64{{0, 0, 0, 0, 0}, {0, 1, 2, 3, 4}}, true},
		{listOf("12340", "33333"), [][]int64{{0, 0, 0, 0, 0}, {0, 1, 2, 3, 4}}, true},
		{listOf("12344"), [][]int64{{0, 0, 0, 0, 0}, {0, 1, 1, 1, 1}, {0, 1, 2, 2, 2}, {0, 1, 2, 3, 3}, {0, 1, 2, 3, 4}}, false},
		// All partitions but the two trivial ones are out, but the list is not transitive.
		{listOf("1203", "0213", "3123"), [][]int64{{0, 0, 0, 0}, {0, 1, 2, 3}}, false},
	} {
		partitions, code := impl.InvariantPartitions(k.list)
		checkCode(t, "InvariantPartitions", code, impl.ErrNone)
		checkLists(t, fmt.Sprint("InvariantPartitions ", k.list), partitions, k.want)
		checkValue(t, fmt.Sprint("IsPrimitive ", k.list), k.primitive)(impl.IsPrimitive(k.list))
	}
	for n, want := range []int{1, 1, 2, 5, 15, 52} {
		if n > 0 {
			partitions, _ := impl.InvariantPartitions([]impl.Map{identityByHand(int64(n))})
			if len(partitions) != want {
				t.Errorf("InvariantPartitions of the identity of %d points: %d", n, len(partitions))
			}
		}
	}
}

func TestKnownListsOfClasses(t *testing.T) {
	turn, fold := digits("1230"), digits("0101")
	for _, k := range []struct {
		list      []impl.Map
		partition []int64
		want      []impl.Map
	}{
		{listOf("0"), []int64{0}, listOf("0")},
		{[]impl.Map{turn, fold}, []int64{0, 1, 0, 1}, listOf("10", "01")},
		{[]impl.Map{fold, turn}, []int64{0, 1, 0, 1}, listOf("01", "10")},
		{[]impl.Map{turn, fold}, []int64{0, 0, 0, 0}, listOf("0", "0")},
		{[]impl.Map{turn, fold}, []int64{0, 1, 2, 3}, []impl.Map{turn, fold}},
		{[]impl.Map{turn, turn, fold, fold, turn, turn}, []int64{0, 1, 0, 1}, listOf("10", "10", "01", "01", "10", "10")},
		{listOf("12344"), []int64{0, 1, 2, 2, 2}, listOf("122")},
		{listOf("12043"), []int64{0, 0, 0, 1, 2}, listOf("021")},
		{listOf("12043", "33344"), []int64{0, 0, 0, 1, 1}, listOf("01", "11")},
		{listOf("22222"), []int64{0, 1, 1, 2, 0}, listOf("111")},
	} {
		maps, code := impl.ListOfClasses(k.list, k.partition)
		checkCode(t, "ListOfClasses", code, impl.ErrNone)
		checkMaps(t, fmt.Sprint("ListOfClasses ", k.list, k.partition), maps, k.want)
		checkValue(t, fmt.Sprint("IsInvariantPartition ", k.list, k.partition), true)(impl.IsInvariantPartition(k.list, k.partition))
	}
	for _, k := range []struct {
		list      []impl.Map
		partition []int64
	}{
		{[]impl.Map{turn}, []int64{0, 0, 1, 1}},
		{[]impl.Map{turn}, []int64{0, 1, 1, 1}},
		{[]impl.Map{fold, turn}, []int64{0, 1, 0, 2}},
		{[]impl.Map{turn, fold}, []int64{0, 0, 0, 1}},
		{listOf("012", "012", "012", "012", "012", "001"), []int64{0, 1, 1}},
		{listOf("01234", "12340"), []int64{0, 1, 2, 3, 3}},
	} {
		checkFails(t, fmt.Sprint("ListOfClasses ", k.list, k.partition), func() (int64, bool) { return ofMaps(impl.ListOfClasses(k.list, k.partition)) }, impl.ErrState)
		checkValue(t, fmt.Sprint("IsInvariantPartition ", k.list, k.partition), false)(impl.IsInvariantPartition(k.list, k.partition))
	}
}

func TestKnownImages(t *testing.T) {
	list := listOf("1230", "0101")
	for _, k := range []struct {
		list []impl.Map
		set  []int64
		want [][]int64
	}{
		{listOf("0"), []int64{0}, [][]int64{{0}}},
		{listOf("01"), []int64{1}, [][]int64{{1}}},
		{list[:1], []int64{0, 2}, [][]int64{{0, 2}, {1, 3}}},
		{list[:1], []int64{0, 1, 2, 3}, [][]int64{{0, 1, 2, 3}}},
		{list, []int64{0, 2}, [][]int64{{0}, {1}, {2}, {3}, {0, 2}, {1, 3}}},
		{list, []int64{0, 1, 2, 3}, [][]int64{{0, 1}, {0, 3}, {1, 2}, {2, 3}, {0, 1, 2, 3}}},
		{list, []int64{3}, [][]int64{{0}, {1}, {2}, {3}}},
		{listOf("12344"), []int64{0, 1}, [][]int64{{4}, {0, 1}, {1, 2}, {2, 3}, {3, 4}}},
		{listOf("01234", "33333"), []int64{0, 1, 4}, [][]int64{{3}, {0, 1, 4}}},
		{listOf("40123", "40123", "40123", "40123", "40123", "40123"), []int64{1, 2, 4}, [][]int64{{0, 1, 3}, {0, 2, 3}, {0, 2, 4}, {1, 2, 4}, {1, 3, 4}}},
	} {
		images, code := impl.ImagesOfSet(k.list, k.set)
		checkCode(t, "ImagesOfSet", code, impl.ErrNone)
		checkLists(t, fmt.Sprint("ImagesOfSet ", k.list, k.set), images, k.want)
	}
	for _, k := range []struct {
		list []impl.Map
		want [][]int64
	}{
		{listOf("0"), [][]int64{{0}}},
		{listOf("0", "0", "0", "0", "0", "0"), [][]int64{{0}}},
		{listOf("10"), [][]int64{{0, 1}}},
		{listOf("10", "00"), [][]int64{{0}, {1}}},
		{list, [][]int64{{0, 1}, {0, 3}, {1, 2}, {2, 3}}},
		{listOf("12340", "10234"), [][]int64{{0, 1, 2, 3, 4}}},
		{listOf("01234", "33333"), [][]int64{{3}}},
		{listOf("12340", "33333"), [][]int64{{0}, {1}, {2}, {3}, {4}}},
		{listOf("12344"), [][]int64{{4}}},
		{listOf("01033"), [][]int64{{0, 1, 3}}},
		{listOf("1230", "0120"), [][]int64{{0}, {1}, {2}, {3}}},
	} {
		images, code := impl.LeastImages(k.list)
		checkCode(t, "LeastImages", code, impl.ErrNone)
		checkLists(t, fmt.Sprint("LeastImages ", k.list), images, k.want)
	}
}

func TestKnownWordsToSets(t *testing.T) {
	list := listOf("1230", "0101")
	for _, k := range []struct {
		list           []impl.Map
		from, to, want []int64
		code           int64
	}{
		{listOf("0"), []int64{0}, []int64{0}, nil, impl.ErrNone},
		{list, []int64{0, 1, 2, 3}, []int64{0, 1, 2, 3}, nil, impl.ErrNone},
		{list, []int64{2}, []int64{2}, nil, impl.ErrNone},
		{list, []int64{0, 1, 2, 3}, []int64{1, 2}, []int64{1, 0}, impl.ErrNone},
		{list, []int64{0, 1, 2, 3}, []int64{0, 3}, []int64{1, 0, 0, 0}, impl.ErrNone},
		{list, []int64{0, 2}, []int64{3}, []int64{0, 1, 0, 0}, impl.ErrNone},
		{list, []int64{1, 3}, []int64{0}, []int64{0, 1}, impl.ErrNone},
		{list, []int64{3}, []int64{1}, []int64{1}, impl.ErrNone},
		{list, []int64{3}, []int64{0, 1}, nil, impl.ErrNotFound},
		{list, []int64{0, 1, 2, 3}, []int64{0, 2}, nil, impl.ErrNotFound},
		{list, []int64{0, 2}, []int64{0, 2, 3}, nil, impl.ErrNotFound},
		{listOf("01"), []int64{0}, []int64{1}, nil, impl.ErrNotFound},
		{listOf("10", "10"), []int64{0}, []int64{1}, []int64{0}, impl.ErrNone},
		{listOf("01", "10", "10"), []int64{0}, []int64{1}, []int64{1}, impl.ErrNone},
		{listOf("12344"), []int64{0, 1}, []int64{4}, []int64{0, 0, 0, 0}, impl.ErrNone},
		{listOf("12344"), []int64{1, 2}, []int64{0, 1}, nil, impl.ErrNotFound},
		{listOf("12340", "12340", "00000", "33333", "44444", "01234"), []int64{0, 1, 2, 3, 4}, []int64{4}, []int64{4}, impl.ErrNone},
		{listOf("12340", "01230"), []int64{0, 1, 2, 3, 4}, []int64{0}, []int64{1, 0, 0, 0, 0, 1, 0, 0, 0, 0, 1, 0, 0, 0, 0, 1}, impl.ErrNone},
	} {
		word, code := impl.WordToSet(k.list, k.from, k.to)
		checkCode(t, fmt.Sprint("WordToSet ", k.list, k.from, k.to), code, k.code)
		checkList(t, fmt.Sprint("WordToSet ", k.list, k.from, k.to), word, k.want)
	}
}

// callsOfActions calls each function of chapter 10 with a list, and with those of the other arguments
// that it takes, and tells the code and whether the result is the zero value.
func callsOfActions(list []impl.Map, p int64, from []int64, to []int64, partition []int64) map[string]func() (int64, bool) {
	return map[string]func() (int64, bool){
		"OrbitOf":              func() (int64, bool) { return ofNumbers(impl.OrbitOf(list, p)) },
		"StrongParts":          func() (int64, bool) { return ofLists(impl.StrongParts(list)) },
		"IsTransitive":         func() (int64, bool) { return ofBool(impl.IsTransitive(list)) },
		"InvariantSets":        func() (int64, bool) { return ofLists(impl.InvariantSets(list)) },
		"IsInvariantPartition": func() (int64, bool) { return ofBool(impl.IsInvariantPartition(list, partition)) },
		"InvariantPartitions":  func() (int64, bool) { return ofLists(impl.InvariantPartitions(list)) },
		"IsPrimitive":          func() (int64, bool) { return ofBool(impl.IsPrimitive(list)) },
		"ListOfClasses":        func() (int64, bool) { return ofMaps(impl.ListOfClasses(list, partition)) },
		"ImagesOfSet":          func() (int64, bool) { return ofLists(impl.ImagesOfSet(list, from)) },
		"WordToSet":            func() (int64, bool) { return ofNumbers(impl.WordToSet(list, from, to)) },
		"LeastImages":          func() (int64, bool) { return ofLists(impl.LeastImages(list)) },
	}
}

// actionsChapters give a good point, good sets and a good partition, and some that are not as told or
// not invariant, which is checked later.
func actionsChapters() []chapter {
	var chapters []chapter
	for _, k := range []struct {
		p                   int64
		from, to, partition []int64
	}{
		{0, []int64{0}, []int64{0}, []int64{0, 0}},
		{-1, nil, []int64{-1}, []int64{-1}},
		{5, []int64{1, 0}, nil, nil},
		{1, []int64{0, 1}, []int64{1}, []int64{0, 0, 1}},
	} {
		chapters = append(chapters, chapter{calls: func(list []impl.Map, f impl.Map, g impl.Map) map[string]func() (int64, bool) {
			return callsOfActions(list, k.p, k.from, k.to, k.partition)
		}})
	}
	return chapters
}

func TestActionsRejectWhatIsNotAMap(t *testing.T) {
	for _, c := range actionsChapters() {
		c.checkNoMaps(t)
	}
}

func TestActionsRejectListsThatAreNotAsTold(t *testing.T) {
	for _, c := range actionsChapters() {
		c.checkListsNotAsTold(t)
	}
}

// someListsOfPoints are lists of each number of points, of one map and of six, with partitions that
// are not invariant among them.
func someListsOfPoints() [][]impl.Map {
	return slices.Concat(listsOfWords(), [][]impl.Map{
		listOf("10"),
		listOf("001"),
		listOf("1203"),
		listOf("01", "01", "01", "01", "01", "01"),
		listOf("120", "201", "012", "000", "111", "222"),
	})
}

func TestPointsThatAreNotAsTold(t *testing.T) {
	for _, list := range someListsOfPoints() {
		for _, p := range []int64{-1, list[0].Points, impl.MaxPoints, 1 << 32, 1<<63 - 1, -1 << 63} {
			checkFails(t, fmt.Sprint("OrbitOf ", list, p), callsOfActions(list, p, nil, nil, nil)["OrbitOf"], impl.ErrRange)
		}
	}
}

// TestSetsThatAreNotAsTold also gives sets to which no word leads beside those that are not as told,
// which is checked later.
func TestSetsThatAreNotAsTold(t *testing.T) {
	for _, list := range someListsOfPoints() {
		n := list[0].Points
		for _, bad := range append(badPointLists(n), nil, []int64{}, make([]int64, 1000)) {
			calls := callsOfActions(list, 0, bad, bad, nil)
			checkFails(t, fmt.Sprint("ImagesOfSet ", list, bad), calls["ImagesOfSet"], impl.ErrRange)
			checkFails(t, fmt.Sprint("WordToSet ", list, bad, bad), calls["WordToSet"], impl.ErrRange)
			for _, set := range setsWithPoints(n) {
				checkFails(t, fmt.Sprint("WordToSet ", list, bad, set), callsOfActions(list, 0, bad, set, nil)["WordToSet"], impl.ErrRange)
				checkFails(t, fmt.Sprint("WordToSet ", list, set, bad), callsOfActions(list, 0, set, bad, nil)["WordToSet"], impl.ErrRange)
			}
		}
	}
}

// TestPartitionsThatAreNotAsTold has lists that look like partitions that are not invariant, which is
// checked later.
func TestPartitionsThatAreNotAsTold(t *testing.T) {
	for _, list := range someListsOfPoints() {
		n := int(list[0].Points)
		bad := append(badClasses(n), []int64{}, append(make([]int64, n-1), 1<<32), append(make([]int64, n-1), -1<<32))
		if n > 1 {
			bad = append(bad, append([]int64{1}, trivialClasses(n)[:n-1]...), slices.Repeat([]int64{1}, n), append(trivialClasses(n-1), int64(n)))
		}
		for _, partition := range bad {
			calls := callsOfActions(list, 0, nil, nil, partition)
			for _, name := range []string{"IsInvariantPartition", "ListOfClasses"} {
				checkFails(t, fmt.Sprint(name, " ", list, partition), calls[name], impl.ErrRange)
			}
		}
	}
}

// TestActionsDoNotAskForSizes has monoids of more than MaxElements elements.
func TestActionsDoNotAskForSizes(t *testing.T) {
	for _, list := range largeLists() {
		calls := callsOfActions(list, 4, []int64{1, 3}, []int64{1, 3}, []int64{0, 0, 0, 0, 0})
		for name, call := range calls {
			code, _ := call()
			checkCode(t, fmt.Sprint(name, " ", list), code, impl.ErrNone)
		}
	}
}

// TestActionsShareNoMemory writes to the results, and looks at the arguments and what is behind them.
func TestActionsShareNoMemory(t *testing.T) {
	store := listOf("1230", "0101", "3333", "2222")
	list := store[:2]
	froms, tos, numbers := []int64{0, 1, 3, 7, 7}, []int64{0, 1, 7, 7}, []int64{0, 1, 0, 1, 7, 7}
	from, to, partition := froms[:3], tos[:2], numbers[:4]
	checkArguments := func(name string) {
		t.Helper()
		checkMaps(t, "the list behind "+name, store, listOf("1230", "0101", "3333", "2222"))
		checkList(t, "the first set behind "+name, froms, []int64{0, 1, 3, 7, 7})
		checkList(t, "the second set behind "+name, tos, []int64{0, 1, 7, 7})
		checkList(t, "the partition behind "+name, numbers, []int64{0, 1, 0, 1, 7, 7})
	}
	for name, call := range map[string]func() ([]int64, int64){
		"OrbitOf":                   func() ([]int64, int64) { return impl.OrbitOf(list, 2) },
		"WordToSet":                 func() ([]int64, int64) { return impl.WordToSet(list, from, to) },
		"WordToSet, the empty word": func() ([]int64, int64) { return impl.WordToSet(list, to, to) },
	} {
		checkOwn(t, name, call)
		checkArguments(name)
	}
	for name, call := range map[string]func() ([][]int64, int64){
		"StrongParts":                         func() ([][]int64, int64) { return impl.StrongParts(store[1:2]) },
		"StrongParts, one part":               func() ([][]int64, int64) { return impl.StrongParts(list) },
		"InvariantSets":                       func() ([][]int64, int64) { return impl.InvariantSets(store[1:2]) },
		"InvariantPartitions":                 func() ([][]int64, int64) { return impl.InvariantPartitions(list) },
		"InvariantPartitions of the identity": func() ([][]int64, int64) { return impl.InvariantPartitions(listOf("01234")) },
		"ImagesOfSet":                         func() ([][]int64, int64) { return impl.ImagesOfSet(list, from) },
		"LeastImages":                         func() ([][]int64, int64) { return impl.LeastImages(list) },
	} {
		checkOwnLists(t, name, call)
		checkArguments(name)
	}
	for name, numbers := range map[string][]int64{"classes": partition, "points": {0, 1, 2, 3}} {
		checkOwn(t, "ListOfClasses, "+name, func() ([]impl.Map, int64) { return impl.ListOfClasses(list, numbers) })
		checkArguments("ListOfClasses")
	}
	impl.IsTransitive(list)
	impl.IsInvariantPartition(list, partition)
	impl.IsPrimitive(list)
	checkArguments("the others")
}

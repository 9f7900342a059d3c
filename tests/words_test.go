package tests

import (
	"fmt"
	"runtime"
	"slices"
	"testing"

	"loop.example/g01359/impl"
)

type wordByHand struct {
	word []int64
	f    impl.Map
}

// wordsByHand are all words up to a length with their maps, in the order of words.
func wordsByHand(list []impl.Map, length int) []wordByHand {
	var words []wordByHand
	for length := range length + 1 {
		for _, word := range wordsOfLength(length, int64(len(list))) {
			f := identityByHand(list[0].Points)
			for _, number := range word {
				f = byHand(f, list[number])
			}
			words = append(words, wordByHand{word, f})
		}
	}
	return words
}

// mapsOfWordsByHand are all maps of words, each with its first word, in the order of these words.
// The longer words are made of the first ones only: with a later word for the same map they would
// come later themselves.
func mapsOfWordsByHand(list []impl.Map) []wordByHand {
	words := wordsByHand(list, 0)
	met := map[impl.Map]bool{words[0].f: true}
	for at := 0; at < len(words); at++ {
		for number, g := range list {
			h := byHand(words[at].f, g)
			if !met[h] {
				met[h] = true
				words = append(words, wordByHand{append(slices.Clone(words[at].word), int64(number)), h})
			}
		}
	}
	return words
}

// checkFirst looks for the first word with a map of some kind.
func checkFirst(t *testing.T, what string, words []wordByHand, is func(f impl.Map) bool) func(word []int64, code int64) bool {
	t.Helper()
	return func(word []int64, code int64) bool {
		t.Helper()
		at := slices.IndexFunc(words, func(w wordByHand) bool { return is(w.f) })
		if at < 0 {
			checkCode(t, what, code, impl.ErrNotFound)
			checkList(t, what, word, nil)
			return false
		}
		checkCode(t, what, code, impl.ErrNone)
		checkList(t, what, word, words[at].word)
		return true
	}
}

func checkLists(t *testing.T, what string, got [][]int64, want [][]int64) {
	t.Helper()
	if !slices.EqualFunc(got, want, slices.Equal) {
		t.Errorf("%s = %v, want %v", what, got, want)
	}
}

// checkWords compares all functions of chapter 5 that look for words with what is found among these
// words.
func checkWords(t *testing.T, list []impl.Map, words []wordByHand) {
	t.Helper()
	n := list[0].Points
	hasRank := func(f impl.Map, r int64) bool { return int64(len(imagesByHand(f))) <= r }
	checkFirst(t, fmt.Sprint("FirstReset ", list), words, func(f impl.Map) bool { return hasRank(f, 1) })(impl.FirstReset(list))
	rank := int64(0)
	for r := int64(impl.MaxPoints); r >= 1; r-- {
		if checkFirst(t, fmt.Sprint("FirstToRank ", list, r), words, func(f impl.Map) bool { return hasRank(f, r) })(impl.FirstToRank(list, r)) {
			rank = min(r, n)
		}
	}
	if got, code := impl.RankOfList(list); got != rank || code != impl.ErrNone {
		t.Errorf("RankOfList(%v) = %d, %d, want %d", list, got, code, rank)
	}
	var pairs, sets [][]int64
	for p := range n {
		for q := range n {
			meets := func(f impl.Map) bool { return f.To[p] == f.To[q] }
			if checkFirst(t, fmt.Sprint("FirstMeeting ", list, p, q), words, meets)(impl.FirstMeeting(list, p, q)) && p < q {
				pairs = append(pairs, []int64{p, q})
			}
		}
	}
	got, code := impl.MeetingPairs(list)
	checkCode(t, "MeetingPairs", code, impl.ErrNone)
	checkLists(t, fmt.Sprint("MeetingPairs ", list), got, pairs)
	for _, set := range subsets(n) {
		reaches := func(f impl.Map) bool { return slices.Equal(imagesByHand(f), set) }
		if checkFirst(t, fmt.Sprint("FirstReaching ", list, set), words, reaches)(impl.FirstReaching(list, set)) {
			sets = append(sets, set)
		}
	}
	got, code = impl.ReachedSets(list)
	checkCode(t, "ReachedSets", code, impl.ErrNone)
	checkLists(t, fmt.Sprint("ReachedSets ", list), got, sets)
}

// cernyLists need long reset words: one map leads all points around, the other one leads just the
// last point to the first one.
func cernyLists() [][]impl.Map {
	return [][]impl.Map{listOf("10", "00"), listOf("120", "010"), listOf("1230", "0120"), listOf("12340", "01230")}
}

// listsOfWords have, beside those of the chapters before, lists whose monoids are too large for
// these, and lists that are not synchronizing although some or all but one of their pairs meet.
func listsOfWords() [][]impl.Map {
	return slices.Concat(cernyLists(), greaterLists(), largeLists(), [][]impl.Map{
		listOf("0"),
		listOf("0", "0", "0", "0", "0", "0"),
		listOf("1032", "0022"),
		listOf("1032", "0022", "3210"),
		listOf("00234", "11034"),
		listOf("00034", "11143", "22234"),
		listOf("00001", "11110"),
		listOf("00004", "11114", "22224", "33334"),
		listOf("12304", "00124"),
		listOf("12340", "00234"),
		listOf("12340", "01233", "10234"),
		listOf("12034", "01243", "33333"),
		listOf("01233", "01223", "01133", "00233"),
	})
}

// somePairsOfMaps are lists of two maps of 4 points, some hundreds of all of these.
func somePairsOfMaps() [][]impl.Map {
	var lists [][]impl.Map
	maps := allMaps(4)
	for i := range 3000 {
		lists = append(lists, []impl.Map{maps[i*37%256], maps[i*101/7%256]})
	}
	return lists
}

func TestPromise5ListsAreSynchronizingExactlyIfAllPairsMeet(t *testing.T) {
	for _, list := range slices.Concat(smallLists(), listsOfWords(), somePairsOfMaps()) {
		n := list[0].Points
		pairs, code := impl.MeetingPairs(list)
		checkCode(t, fmt.Sprint("MeetingPairs ", list), code, impl.ErrNone)
		word, code := impl.FirstReset(list)
		if allMeet := int64(len(pairs)) == n*(n-1)/2; (code == impl.ErrNone) != allMeet {
			t.Fatalf("FirstReset(%v) = %v, %d, but the pairs %v meet", list, word, code, pairs)
		}
		if code != impl.ErrNone {
			checkCode(t, fmt.Sprint("FirstReset ", list), code, impl.ErrNotFound)
		}
		if int64(len(word)) > (n-1)*(n-1) {
			t.Fatalf("FirstReset(%v) = %v is too long", list, word)
		}
	}
}

func TestPromise5SetsThatAreReachedHaveWordsToThem(t *testing.T) {
	for _, list := range slices.Concat(smallLists(), listsOfWords()) {
		all := subsets(list[0].Points)
		sets, code := impl.ReachedSets(list)
		checkCode(t, fmt.Sprint("ReachedSets ", list), code, impl.ErrNone)
		found := 0
		for _, set := range all {
			word, code := impl.FirstReaching(list, set)
			if reached := slices.IndexFunc(sets, func(s []int64) bool { return slices.Equal(s, set) }) >= 0; (code == impl.ErrNone) != reached {
				t.Fatalf("FirstReaching(%v, %v) = %v, %d, but the sets %v are reached", list, set, word, code, sets)
			}
			if code != impl.ErrNone {
				continue
			}
			found++
			image, code := impl.ImageAlong(list, word, all[len(all)-1])
			checkCode(t, "ImageAlong", code, impl.ErrNone)
			checkList(t, fmt.Sprint("ImageAlong ", list, word, " of all points"), image, set)
		}
		if found != len(sets) {
			t.Fatalf("ReachedSets(%v) = %v, but %d sets have words", list, sets, found)
		}
	}
}

func TestPromise16ResetWordsHaveConstantMaps(t *testing.T) {
	resets := 0
	for _, list := range slices.Concat(smallLists(), listsOfWords(), somePairsOfMaps()) {
		word, code := impl.FirstReset(list)
		if code != impl.ErrNone {
			continue
		}
		resets++
		f, code := impl.MapOfWord(list, word)
		checkCode(t, fmt.Sprint("MapOfWord ", list, word), code, impl.ErrNone)
		rank, code := impl.RankOf(f)
		if rank != 1 || code != impl.ErrNone {
			t.Fatalf("FirstReset(%v) = %v, with the map %v", list, word, f)
		}
		if rank, code := impl.RankOfWord(list, word); rank != 1 || code != impl.ErrNone {
			t.Fatalf("RankOfWord(%v, %v) = %d, %d", list, word, rank, code)
		}
		for p := range list[0].Points {
			points, _ := impl.LeadPoint(list, word, p)
			if points[len(points)-1] != f.To[0] {
				t.Fatalf("LeadPoint(%v, %v, %d) = %v", list, word, p, points)
			}
		}
	}
	if resets < 1000 {
		t.Error("only", resets, "of the lists are synchronizing")
	}
}

// TestWordsTellOfTheMonoid compares with chapter 2 for the monoids that it takes.
func TestWordsTellOfTheMonoid(t *testing.T) {
	for _, list := range slices.Concat(smallLists(), greaterLists()) {
		elements, _ := impl.ElementsOf(list)
		images := map[string]bool{}
		for _, f := range elements {
			images[fmt.Sprint(imagesByHand(f))] = true
		}
		sets, _ := impl.ReachedSets(list)
		for _, set := range sets {
			if !images[fmt.Sprint(set)] {
				t.Fatalf("ReachedSets(%v) = %v, but %v is no image", list, sets, set)
			}
		}
		if len(images) != len(sets) {
			t.Fatalf("ReachedSets(%v) = %v, but the images are %v", list, sets, images)
		}
		sizes, _ := impl.SizesByRank(list)
		rank, _ := impl.RankOfList(list)
		if least := slices.IndexFunc(sizes, func(size int64) bool { return size > 0 }); rank != int64(least+1) {
			t.Fatalf("RankOfList(%v) = %d, but the numbers of elements by rank are %v", list, rank, sizes)
		}
	}
}

// TestFirstWordsAmongAllWords tries all words that may be needed: 3 points have 7 sets with points,
// so no first word has more than 6 numbers.
func TestFirstWordsAmongAllWords(t *testing.T) {
	for _, list := range smallLists() {
		checkWords(t, list, wordsByHand(list, 6))
	}
}

func TestFirstWordsAmongThoseOfAllMaps(t *testing.T) {
	for _, list := range slices.Concat(listsOfWords(), somePairsOfMaps()[:300]) {
		checkWords(t, list, mapsOfWordsByHand(list))
	}
}

// checkWalk walks a word point by point.
func checkWalk(t *testing.T, list []impl.Map, word []int64) {
	t.Helper()
	ends := make([]int64, list[0].Points)
	for p := range list[0].Points {
		way := []int64{p}
		for _, number := range word {
			way = append(way, list[number].To[way[len(way)-1]])
		}
		ends[p] = way[len(way)-1]
		got, code := impl.LeadPoint(list, word, p)
		checkCode(t, "LeadPoint", code, impl.ErrNone)
		checkList(t, fmt.Sprint("LeadPoint ", list, word, p), got, way)
	}
	for _, set := range subsets(list[0].Points) {
		var image, fixed []int64
		for _, p := range set {
			image = append(image, ends[p])
			if ends[p] == p {
				fixed = append(fixed, p)
			}
		}
		slices.Sort(image)
		image = slices.Compact(image)
		got, code := impl.ImageAlong(list, word, set)
		checkCode(t, "ImageAlong", code, impl.ErrNone)
		checkList(t, fmt.Sprint("ImageAlong ", list, word, set), got, image)
		if len(set) == len(ends) {
			rank, code := impl.RankOfWord(list, word)
			if rank != int64(len(image)) || code != impl.ErrNone {
				t.Errorf("RankOfWord(%v, %v) = %d, %d, want %d", list, word, rank, code, len(image))
			}
			got, code = impl.FixedByWord(list, word)
			checkCode(t, "FixedByWord", code, impl.ErrNone)
			checkList(t, fmt.Sprint("FixedByWord ", list, word), got, fixed)
		}
	}
}

func TestWalks(t *testing.T) {
	for _, list := range smallLists() {
		for _, w := range wordsByHand(list, 2) {
			checkWalk(t, list, w.word)
		}
	}
	for _, list := range listsOfWords() {
		for _, i := range some(len(wordsByHand(list, 4))) {
			checkWalk(t, list, wordsByHand(list, 4)[i].word)
		}
	}
}

func TestWalksOfMaxWordLength(t *testing.T) {
	for _, list := range listsOfWords() {
		for most := range int64(len(list)) {
			word := make([]int64, impl.MaxWordLength)
			for i := range word {
				word[i] = int64(i*i) % (most + 1)
			}
			checkWalk(t, list, word)
			checkWalk(t, list, word[1:])
		}
	}
	if impl.MaxWordLength != 40 {
		t.Error("MaxWordLength is", impl.MaxWordLength)
	}
}

func TestKnownWalks(t *testing.T) {
	list := listOf("1230", "0120")
	points, code := impl.LeadPoint(list, []int64{0, 1, 0}, 2)
	checkCode(t, "LeadPoint", code, impl.ErrNone)
	checkList(t, "LeadPoint", points, []int64{2, 3, 0, 1})
	points, code = impl.LeadPoint(list, nil, 3)
	checkCode(t, "LeadPoint of the empty word", code, impl.ErrNone)
	checkList(t, "LeadPoint of the empty word", points, []int64{3})
	points, code = impl.LeadPoint(listOf("0"), []int64{0, 0}, 0)
	checkCode(t, "LeadPoint of one point", code, impl.ErrNone)
	checkList(t, "LeadPoint of one point", points, []int64{0, 0, 0})
	for _, k := range []struct {
		word, set, image []int64
		rank             int64
		fixed            []int64
	}{
		{nil, nil, nil, 4, []int64{0, 1, 2, 3}},
		{nil, []int64{1, 3}, []int64{1, 3}, 4, []int64{0, 1, 2, 3}},
		{[]int64{0}, []int64{1, 3}, []int64{0, 2}, 4, nil},
		{[]int64{1}, []int64{0, 3}, []int64{0}, 3, []int64{0, 1, 2}},
		{[]int64{1}, nil, nil, 3, []int64{0, 1, 2}},
		{[]int64{1, 0, 1}, []int64{0, 1, 2, 3}, []int64{0, 1, 2}, 3, nil},
		{[]int64{1, 0, 0, 0, 1, 0, 0, 0, 1}, []int64{0, 1, 2, 3}, []int64{0}, 1, []int64{0}},
	} {
		image, code := impl.ImageAlong(list, k.word, k.set)
		checkCode(t, "ImageAlong", code, impl.ErrNone)
		checkList(t, fmt.Sprint("ImageAlong ", k.word, k.set), image, k.image)
		rank, code := impl.RankOfWord(list, k.word)
		if rank != k.rank || code != impl.ErrNone {
			t.Errorf("RankOfWord(%v) = %d, %d, want %d", k.word, rank, code, k.rank)
		}
		fixed, code := impl.FixedByWord(list, k.word)
		checkCode(t, "FixedByWord", code, impl.ErrNone)
		checkList(t, fmt.Sprint("FixedByWord ", k.word), fixed, k.fixed)
	}
}

// TestFirstResetsOfKnownLists has the document's example, its like for other numbers of points,
// and lists that are not synchronizing.
func TestFirstResetsOfKnownLists(t *testing.T) {
	cerny := cernyLists()
	for _, k := range []struct {
		list []impl.Map
		want []int64
	}{
		{cerny[0], []int64{1}},
		{cerny[1], []int64{1, 0, 0, 1}},
		{cerny[2], []int64{1, 0, 0, 0, 1, 0, 0, 0, 1}},
		{cerny[3], []int64{1, 0, 0, 0, 0, 1, 0, 0, 0, 0, 1, 0, 0, 0, 0, 1}},
		{listOf("0120", "1230"), []int64{0, 1, 1, 1, 0, 1, 1, 1, 0}},
		{listOf("0"), nil},
		{listOf("01", "11", "00"), []int64{1}},
		{listOf("00123"), []int64{0, 0, 0, 0}},
		{listOf("00123", "00000", "11111"), []int64{1}},
		{listOf("0012", "1123"), []int64{0, 0, 0}},
	} {
		word, code := impl.FirstReset(k.list)
		checkCode(t, fmt.Sprint("FirstReset ", k.list), code, impl.ErrNone)
		checkList(t, fmt.Sprint("FirstReset ", k.list), word, k.want)
	}
	for _, list := range [][]impl.Map{cerny[2][:1], listOf("01"), listOf("10"), listOf("1032", "0022"), listOf("12304", "00124"), listOf("12340", "10234")} {
		word, code := impl.FirstReset(list)
		checkCode(t, fmt.Sprint("FirstReset ", list), code, impl.ErrNotFound)
		checkList(t, fmt.Sprint("FirstReset ", list), word, nil)
	}
}

func TestKnownRanks(t *testing.T) {
	list, flat := listOf("1230", "0120"), listOf("1032", "0022")
	for _, k := range []struct {
		list []impl.Map
		r    int64
		want []int64
		code int64
	}{
		{list, 5, nil, impl.ErrNone},
		{list, 4, nil, impl.ErrNone},
		{list, 3, []int64{1}, impl.ErrNone},
		{list, 2, []int64{1, 0, 0, 1}, impl.ErrNone},
		{list, 1, []int64{1, 0, 0, 0, 1, 0, 0, 0, 1}, impl.ErrNone},
		{flat, 3, []int64{1}, impl.ErrNone},
		{flat, 2, []int64{1}, impl.ErrNone},
		{flat, 1, nil, impl.ErrNotFound},
		{listOf("0"), 1, nil, impl.ErrNone},
		{listOf("0"), 5, nil, impl.ErrNone},
		{listOf("01234"), 5, nil, impl.ErrNone},
		{listOf("01234"), 4, nil, impl.ErrNotFound},
		{listOf("0013", "2222"), 3, []int64{0}, impl.ErrNone},
		{listOf("0013", "2222"), 2, []int64{1}, impl.ErrNone},
	} {
		word, code := impl.FirstToRank(k.list, k.r)
		checkCode(t, fmt.Sprint("FirstToRank ", k.list, k.r), code, k.code)
		checkList(t, fmt.Sprint("FirstToRank ", k.list, k.r), word, k.want)
	}
	for _, k := range []struct {
		list []impl.Map
		want int64
	}{
		{list, 1},
		{list[:1], 4},
		{list[1:], 3},
		{flat, 2},
		{listOf("0"), 1},
		{listOf("01234"), 5},
		{listOf("00223", "11332"), 2},
		{listOf("00122", "34044", "01234"), 1},
	} {
		rank, code := impl.RankOfList(k.list)
		if rank != k.want || code != impl.ErrNone {
			t.Errorf("RankOfList(%v) = %d, %d, want %d", k.list, rank, code, k.want)
		}
	}
}

func TestKnownMeetingPoints(t *testing.T) {
	list, flat := listOf("1230", "0120"), listOf("1032", "0022")
	for _, k := range []struct {
		list []impl.Map
		p, q int64
		want []int64
		code int64
	}{
		{list, 0, 3, []int64{1}, impl.ErrNone},
		{list, 3, 0, []int64{1}, impl.ErrNone},
		{list, 0, 1, []int64{0, 0, 0, 1}, impl.ErrNone},
		{list, 2, 3, []int64{0, 1}, impl.ErrNone},
		{list, 2, 2, nil, impl.ErrNone},
		{flat, 3, 2, []int64{1}, impl.ErrNone},
		{flat, 0, 2, nil, impl.ErrNotFound},
		{flat, 3, 3, nil, impl.ErrNone},
		{listOf("0"), 0, 0, nil, impl.ErrNone},
		{listOf("01234"), 4, 3, nil, impl.ErrNotFound},
		{listOf("01234"), 4, 4, nil, impl.ErrNone},
	} {
		word, code := impl.FirstMeeting(k.list, k.p, k.q)
		checkCode(t, fmt.Sprint("FirstMeeting ", k.list, k.p, k.q), code, k.code)
		checkList(t, fmt.Sprint("FirstMeeting ", k.list, k.p, k.q), word, k.want)
	}
	for _, k := range []struct {
		list []impl.Map
		want [][]int64
	}{
		{flat, [][]int64{{0, 1}, {2, 3}}},
		{listOf("0"), nil},
		{listOf("10"), nil},
		{listOf("012"), nil},
		{listOf("120", "010"), [][]int64{{0, 1}, {0, 2}, {1, 2}}},
		{listOf("00234"), [][]int64{{0, 1}}},
		{listOf("01232"), [][]int64{{2, 4}}},
		{listOf("01233", "01134"), [][]int64{{1, 2}, {3, 4}}},
	} {
		pairs, code := impl.MeetingPairs(k.list)
		checkCode(t, "MeetingPairs", code, impl.ErrNone)
		checkLists(t, fmt.Sprint("MeetingPairs ", k.list), pairs, k.want)
	}
}

// TestKnownReachedSets has sets whose sums of 2^p are in another order than the lists.
func TestKnownReachedSets(t *testing.T) {
	flat, order := listOf("1032", "0022"), listOf("00033", "11122")
	for _, k := range []struct {
		list []impl.Map
		want [][]int64
	}{
		{flat, [][]int64{{0, 2}, {1, 3}, {0, 1, 2, 3}}},
		{listOf("0"), [][]int64{{0}}},
		{listOf("10"), [][]int64{{0, 1}}},
		{listOf("10", "00"), [][]int64{{0}, {1}, {0, 1}}},
		{listOf("22222", "00444"), [][]int64{{2}, {4}, {0, 4}, {0, 1, 2, 3, 4}}},
		{order, [][]int64{{0}, {1}, {1, 2}, {0, 3}, {0, 1, 2, 3, 4}}},
		{listOf("01234"), [][]int64{{0, 1, 2, 3, 4}}},
	} {
		sets, code := impl.ReachedSets(k.list)
		checkCode(t, "ReachedSets", code, impl.ErrNone)
		checkLists(t, fmt.Sprint("ReachedSets ", k.list), sets, k.want)
	}
	for _, k := range []struct {
		list []impl.Map
		set  []int64
		want []int64
		code int64
	}{
		{flat, []int64{1, 3}, []int64{1, 0}, impl.ErrNone},
		{flat, []int64{0, 2}, []int64{1}, impl.ErrNone},
		{flat, []int64{0, 1, 2, 3}, nil, impl.ErrNone},
		{flat, []int64{0, 1}, nil, impl.ErrNotFound},
		{flat, nil, nil, impl.ErrNotFound},
		{flat, []int64{}, nil, impl.ErrNotFound},
		{listOf("0"), []int64{0}, nil, impl.ErrNone},
		{listOf("0"), nil, nil, impl.ErrNotFound},
		{order, []int64{0}, []int64{1, 0}, impl.ErrNone},
		{order, []int64{1}, []int64{1, 1}, impl.ErrNone},
		{order, []int64{0, 3}, []int64{0}, impl.ErrNone},
		{order, []int64{3}, nil, impl.ErrNotFound},
	} {
		word, code := impl.FirstReaching(k.list, k.set)
		checkCode(t, fmt.Sprint("FirstReaching ", k.list, k.set), code, k.code)
		checkList(t, fmt.Sprint("FirstReaching ", k.list, k.set), word, k.want)
	}
}

func ofLists(lists [][]int64, code int64) (int64, bool) { return code, len(lists) == 0 }

// callsOfWords calls each function of chapter 5 with a list, and with those of the other arguments
// that it takes, and tells the code and whether the result is the zero value.
func callsOfWords(list []impl.Map, word []int64, p int64, set []int64, r int64) map[string]func() (int64, bool) {
	return map[string]func() (int64, bool){
		"LeadPoint":     func() (int64, bool) { return ofNumbers(impl.LeadPoint(list, word, p)) },
		"RankOfWord":    func() (int64, bool) { return ofNumber(impl.RankOfWord(list, word)) },
		"ImageAlong":    func() (int64, bool) { return ofNumbers(impl.ImageAlong(list, word, set)) },
		"FirstReset":    func() (int64, bool) { return ofNumbers(impl.FirstReset(list)) },
		"FirstToRank":   func() (int64, bool) { return ofNumbers(impl.FirstToRank(list, r)) },
		"RankOfList":    func() (int64, bool) { return ofNumber(impl.RankOfList(list)) },
		"FirstMeeting":  func() (int64, bool) { return ofNumbers(impl.FirstMeeting(list, p, p)) },
		"MeetingPairs":  func() (int64, bool) { return ofLists(impl.MeetingPairs(list)) },
		"ReachedSets":   func() (int64, bool) { return ofLists(impl.ReachedSets(list)) },
		"FirstReaching": func() (int64, bool) { return ofNumbers(impl.FirstReaching(list, set)) },
		"FixedByWord":   func() (int64, bool) { return ofNumbers(impl.FixedByWord(list, word)) },
	}
}

// badWords are words of some list of so many maps no more: of a number that is none of a map, or
// too long.
func badWords(maps int64) [][]int64 {
	return [][]int64{
		{-1},
		{maps},
		{0, maps},
		{maps, 0},
		{0, 0, -1, 0},
		{1<<63 - 1},
		{-1 << 63},
		make([]int64, impl.MaxWordLength+1),
		make([]int64, 1000),
		append(make([]int64, impl.MaxWordLength-1), maps),
		append(make([]int64, impl.MaxWordLength), -1),
	}
}

// TestWordsRejectWhatIsNotAMap also gives words, points, sets and numbers that are not as told,
// which is checked later.
func TestWordsRejectWhatIsNotAMap(t *testing.T) {
	good := chapter{calls: func(list []impl.Map, f impl.Map, g impl.Map) map[string]func() (int64, bool) {
		return callsOfWords(list, nil, 0, nil, 1)
	}}
	bad := chapter{calls: func(list []impl.Map, f impl.Map, g impl.Map) map[string]func() (int64, bool) {
		return callsOfWords(list, []int64{-1}, -1, []int64{-1}, 0)
	}}
	good.checkNoMaps(t)
	good.checkListsNotAsTold(t)
	bad.checkNoMaps(t)
	bad.checkListsNotAsTold(t)
}

func TestWordsThatAreNone(t *testing.T) {
	for _, list := range slices.Concat(listsOfWords(), [][]impl.Map{listOf("00", "01", "00", "00", "00", "00")}) {
		n := list[0].Points
		for _, word := range badWords(int64(len(list))) {
			calls := callsOfWords(list, word, 0, []int64{0}, 1)
			for _, name := range []string{"LeadPoint", "RankOfWord", "ImageAlong", "FixedByWord"} {
				checkFails(t, fmt.Sprint(name, " ", list, word), calls[name], impl.ErrRange)
			}
			calls = callsOfWords(list, word, n, []int64{n}, 1)
			checkFails(t, fmt.Sprint("LeadPoint ", list, word), calls["LeadPoint"], impl.ErrRange)
			checkFails(t, fmt.Sprint("ImageAlong ", list, word), calls["ImageAlong"], impl.ErrRange)
		}
	}
}

// TestPointsSetsAndRanksThatAreNotAsTold has lists for which nothing else would be found either,
// which is checked later.
func TestPointsSetsAndRanksThatAreNotAsTold(t *testing.T) {
	for _, list := range listsOfWords() {
		n := list[0].Points
		for _, p := range []int64{-1, n, impl.MaxPoints, 1<<63 - 1, -1 << 63} {
			calls := callsOfWords(list, nil, p, nil, 1)
			checkFails(t, fmt.Sprint("LeadPoint ", list, p), calls["LeadPoint"], impl.ErrRange)
			checkFails(t, fmt.Sprint("FirstMeeting ", list, p, p), calls["FirstMeeting"], impl.ErrRange)
			checkFails(t, fmt.Sprint("FirstMeeting ", list, p), func() (int64, bool) { return ofNumbers(impl.FirstMeeting(list, p, 0)) }, impl.ErrRange)
			checkFails(t, fmt.Sprint("FirstMeeting ", list, p), func() (int64, bool) { return ofNumbers(impl.FirstMeeting(list, n-1, p)) }, impl.ErrRange)
		}
		for _, set := range badPointLists(n) {
			calls := callsOfWords(list, []int64{0}, 0, set, 1)
			checkFails(t, fmt.Sprint("ImageAlong ", list, set), calls["ImageAlong"], impl.ErrRange)
			checkFails(t, fmt.Sprint("FirstReaching ", list, set), calls["FirstReaching"], impl.ErrRange)
		}
		for _, r := range []int64{0, -1, impl.MaxPoints + 1, 1<<63 - 1, -1 << 63} {
			calls := callsOfWords(list, nil, 0, nil, r)
			checkFails(t, fmt.Sprint("FirstToRank ", list, r), calls["FirstToRank"], impl.ErrRange)
		}
	}
}

// checkOwnLists writes to each list of a result and behind it, looks at the other ones, and calls
// again.
func checkOwnLists(t *testing.T, what string, call func() ([][]int64, int64)) {
	t.Helper()
	first, _ := call()
	var want [][]int64
	for _, list := range first {
		want = append(want, slices.Clone(list))
	}
	for i, list := range first {
		for k := range list[:cap(list)] {
			list[:cap(list)][k] = -1
		}
		checkLists(t, what+" with other lists changed", first[i+1:], want[i+1:])
	}
	clear(first)
	again, _ := call()
	checkLists(t, what+" the second time", again, want)
}

// TestWordsShareNoMemory writes to the results, and looks at the arguments and what is behind them.
func TestWordsShareNoMemory(t *testing.T) {
	store := listOf("1230", "0120", "3333", "2222")
	list := store[:2]
	words, sets := []int64{0, 1, 1, 7, 7}, []int64{0, 2, 3, 7, 7}
	word, set := words[:3], sets[:3]
	checkArguments := func(name string) {
		t.Helper()
		checkMaps(t, "the list behind "+name, store, listOf("1230", "0120", "3333", "2222"))
		checkList(t, "the word behind "+name, words, []int64{0, 1, 1, 7, 7})
		checkList(t, "the set behind "+name, sets, []int64{0, 2, 3, 7, 7})
	}
	for name, call := range map[string]func() ([]int64, int64){
		"LeadPoint":                   func() ([]int64, int64) { return impl.LeadPoint(list, word, 1) },
		"ImageAlong":                  func() ([]int64, int64) { return impl.ImageAlong(list, word, set) },
		"ImageAlong the empty word":   func() ([]int64, int64) { return impl.ImageAlong(list, nil, set) },
		"FirstReset":                  func() ([]int64, int64) { return impl.FirstReset(list) },
		"FirstToRank":                 func() ([]int64, int64) { return impl.FirstToRank(list, 2) },
		"FirstMeeting":                func() ([]int64, int64) { return impl.FirstMeeting(list, 0, 1) },
		"FirstReaching":               func() ([]int64, int64) { return impl.FirstReaching(list, set) },
		"FixedByWord":                 func() ([]int64, int64) { return impl.FixedByWord(list, word[1:]) },
		"FixedByWord, the empty word": func() ([]int64, int64) { return impl.FixedByWord(list, nil) },
	} {
		checkOwn(t, name, call)
		checkArguments(name)
	}
	for name, call := range map[string]func() ([][]int64, int64){
		"MeetingPairs": func() ([][]int64, int64) { return impl.MeetingPairs(list) },
		"ReachedSets":  func() ([][]int64, int64) { return impl.ReachedSets(list) },
	} {
		checkOwnLists(t, name, call)
		checkArguments(name)
	}
	impl.RankOfWord(list, word)
	impl.RankOfList(list)
	checkArguments("the others")
}

// TestNoGoroutinesAreLeft leaves room for goroutines that are just about to end.
func TestNoGoroutinesAreLeft(t *testing.T) {
	before := runtime.NumGoroutine()
	for _, list := range somePairsOfMaps()[:500] {
		impl.FirstReset(list)
		impl.FirstToRank(list, 4)
		impl.FirstMeeting(list, 1, 1)
		impl.FirstReaching(list, []int64{0, 1, 2, 3})
	}
	if after := runtime.NumGoroutine(); after > before+100 {
		t.Errorf("%d goroutines before, %d after", before, after)
	}
}

package tests

import (
	"fmt"
	"slices"
	"testing"

	"loop.example/g01359/impl"
)

func acceptor(first int64, last []int64, texts ...string) impl.Acceptor {
	return impl.Acceptor{Maps: listOf(texts...), First: first, Last: last}
}

// acceptorsOf are the acceptors with a list, with all first points and all sets of last points.
func acceptorsOf(list []impl.Map) []impl.Acceptor {
	var all []impl.Acceptor
	for first := range list[0].Points {
		for _, last := range subsets(list[0].Points) {
			all = append(all, impl.Acceptor{Maps: list, First: first, Last: last})
		}
	}
	return all
}

// someAcceptors are all acceptors of the small lists of up to 2 points, some of the other lists, and
// the known ones.
func someAcceptors() []impl.Acceptor {
	var some []impl.Acceptor
	for i, list := range slices.Concat(smallLists(), cernyLists(), greaterLists(), somePairsOfMaps()[:600]) {
		all := acceptorsOf(list)
		step := 1
		if len(all) > 8 {
			step = len(all)/4 + 1
		}
		for at := i % step; at < len(all); at += step {
			some = append(some, all[at])
		}
	}
	for _, k := range knownAcceptors() {
		some = append(some, k.a, k.least)
	}
	return some
}

// knownAcceptor is an acceptor with what is told of it. The counts are those of the lengths 0 to 4.
type knownAcceptor struct {
	a             impl.Acceptor
	reached       []int64
	least         impl.Acceptor
	counts        []int64
	first         []int64
	code          int64
	finite        bool
	withoutGroups bool
}

func knownAcceptors() []knownAcceptor {
	const found, missing = impl.ErrNone, impl.ErrNotFound
	noWord, allWords := acceptor(0, nil, "0"), acceptor(0, []int64{0}, "0")
	none, all := []int64{0, 0, 0, 0, 0}, []int64{1, 1, 1, 1, 1}
	chain, long := acceptor(0, []int64{3}, "12344"), acceptor(0, []int64{4}, "12344")
	ending := acceptor(0, []int64{2}, "111", "020")
	return []knownAcceptor{
		// One point.
		{noWord, []int64{0}, noWord, none, nil, missing, true, true},
		{allWords, []int64{0}, allWords, all, nil, found, false, true},
		// No last points, and all points as last ones.
		{acceptor(2, nil, "1230"), []int64{2, 3, 0, 1}, noWord, none, nil, missing, true, true},
		{acceptor(2, []int64{0, 1, 2, 3}, "1230"), []int64{2, 3, 0, 1}, allWords, all, nil, found, false, true},
		// Last points that are not reached, and just those that are reached as last ones.
		{acceptor(1, []int64{0, 3}, "1121"), []int64{1}, noWord, none, nil, missing, true, true},
		{acceptor(1, []int64{1, 2}, "0210"), []int64{1, 2}, allWords, all, nil, found, false, true},
		// Words of one length, and words that are at least as long.
		{chain, []int64{0, 1, 2, 3, 4}, chain, []int64{0, 0, 0, 1, 0}, []int64{0, 0, 0}, found, true, true},
		{long, []int64{0, 1, 2, 3, 4}, long, []int64{0, 0, 0, 0, 1}, []int64{0, 0, 0, 0}, found, false, true},
		{acceptor(4, []int64{0}, "00123"), []int64{4, 3, 2, 1, 0}, long, []int64{0, 0, 0, 0, 1}, []int64{0, 0, 0, 0}, found, false, true},
		// Only the empty word.
		{acceptor(0, []int64{0}, "11", "11"), []int64{0, 1}, acceptor(0, []int64{0}, "11", "11"), []int64{1, 0, 0, 0, 0}, nil, found, true, true},
		// Points that are led to themselves, but are not reached, or lead to no last point.
		{acceptor(0, []int64{0, 1}, "12234"), []int64{0, 1, 2}, acceptor(0, []int64{0, 1}, "122"), []int64{1, 1, 0, 0, 0}, nil, found, true, true},
		{acceptor(0, []int64{1, 3}, "12234"), []int64{0, 1, 2}, acceptor(0, []int64{1}, "122"), []int64{0, 1, 0, 0, 0}, []int64{0}, found, true, true},
		// All words that end with 0, 1.
		{ending, []int64{0, 1, 2}, ending, []int64{0, 0, 1, 2, 4}, []int64{0, 1}, found, false, true},
		{acceptor(4, []int64{0, 3}, "22222", "44044"), []int64{4, 2, 0}, ending, []int64{0, 0, 1, 2, 4}, []int64{0, 1}, found, false, true},
		// Words with an even number of maps 0, and words of an even length.
		{acceptor(0, []int64{0, 2}, "1032", "2301"), []int64{0, 1, 2, 3}, acceptor(0, []int64{0}, "10", "01"), []int64{1, 1, 2, 4, 8}, nil, found, false, false},
		{acceptor(1, []int64{1, 3}, "10324", "12304"), []int64{1, 0, 2, 3}, acceptor(0, []int64{0}, "10", "10"), []int64{1, 0, 4, 0, 16}, nil, found, false, false},
		// The first words, not the points, put the classes in order.
		{acceptor(3, []int64{0}, "0021", "0012"), []int64{3, 1, 2, 0}, acceptor(0, []int64{3}, "1323", "2313"), []int64{0, 0, 2, 6, 14}, []int64{0, 0}, found, false, true},
		// Classes of the points 0 and 3, and of the points 2 and 1, which are reached in this order.
		{acceptor(0, []int64{1, 2}, "2112", "1331"), []int64{0, 2, 1, 3}, acceptor(0, []int64{1}, "11", "10"), []int64{0, 2, 2, 6, 10}, []int64{0}, found, false, false},
		// Points led around that no word tells apart, or that are not reached.
		{acceptor(0, []int64{0}, "121"), []int64{0, 1, 2}, acceptor(0, []int64{0}, "11"), []int64{1, 0, 0, 0, 0}, nil, found, true, true},
		{acceptor(0, []int64{0, 1}, "02134"), []int64{0}, allWords, all, nil, found, false, true},
		// Both maps have the period 1, but their product has the period 2.
		{acceptor(0, []int64{0}, "212", "001"), []int64{0, 2, 1}, acceptor(0, []int64{0}, "112", "020"), []int64{1, 1, 1, 2, 5}, nil, found, false, false},
	}
}

func isLastByHand(a impl.Acceptor, p int64) bool {
	for _, last := range a.Last {
		if last == p {
			return true
		}
	}
	return false
}

// endByHand is the point to which a word leads the first point.
func endByHand(a impl.Acceptor, word []int64) int64 {
	p := a.First
	for _, number := range word {
		p = a.Maps[number].To[p]
	}
	return p
}

func acceptsByHand(a impl.Acceptor, word []int64) bool {
	return isLastByHand(a, endByHand(a, word))
}

// leastByHand tells points by all maps of words: those after which they are last points.
func leastByHand(a impl.Acceptor, words []wordByHand) impl.Acceptor {
	marks := make([]string, a.Maps[0].Points)
	for p := range marks {
		lasts := make([]byte, len(words))
		for i, w := range words {
			if isLastByHand(a, w.f.To[p]) {
				lasts[i] = 1
			}
		}
		marks[p] = string(lasts)
	}
	numbers := map[string]int64{}
	var firsts []int64
	for _, w := range words {
		p := w.f.To[a.First]
		if _, known := numbers[marks[p]]; !known {
			numbers[marks[p]] = int64(len(firsts))
			firsts = append(firsts, p)
		}
	}
	var least impl.Acceptor
	for _, f := range a.Maps {
		g := impl.Map{Points: int64(len(firsts))}
		for number, p := range firsts {
			g.To[number] = numbers[marks[f.To[p]]]
		}
		least.Maps = append(least.Maps, g)
	}
	for number, p := range firsts {
		if isLastByHand(a, p) {
			least.Last = append(least.Last, int64(number))
		}
	}
	return least
}

// countsByHand counts from the ends of the words on: those of a length that lead each point to a
// last one.
func countsByHand(a impl.Acceptor, n int) []int64 {
	points := a.Maps[0].Points
	var counts []int64
	ways := make([]int64, points)
	for p := range points {
		if isLastByHand(a, p) {
			ways[p] = 1
		}
	}
	for range n + 1 {
		counts = append(counts, ways[a.First])
		longer := make([]int64, points)
		for p := range points {
			for _, f := range a.Maps {
				longer[p] += ways[f.To[p]]
			}
		}
		ways = longer
	}
	return counts
}

// isFiniteByHand looks for a point that is reached, is led to itself by some word that is not empty,
// and to a last point by some word.
func isFiniteByHand(a impl.Acceptor) bool {
	var leads [impl.MaxPoints][impl.MaxPoints]bool
	n := a.Maps[0].Points
	for p := range n {
		for _, f := range a.Maps {
			leads[p][f.To[p]] = true
		}
	}
	for via := range n {
		for p := range n {
			for q := range n {
				leads[p][q] = leads[p][q] || leads[p][via] && leads[via][q]
			}
		}
	}
	for p := range n {
		for q := range n {
			reached, toLast := p == a.First || leads[a.First][p], p == q || leads[p][q]
			if reached && leads[p][p] && toLast && isLastByHand(a, q) {
				return false
			}
		}
	}
	return true
}

// withoutGroupsByHand looks at powers that are far enough for their index to be behind.
func withoutGroupsByHand(least impl.Acceptor) (bool, int64) {
	words := mapsOfWordsByHand(least.Maps)
	if len(words) > impl.MaxElements {
		return false, impl.ErrLimit
	}
	for _, w := range words {
		powers := powersByHand(w.f, 7)
		if powers[5] != powers[6] {
			return false, impl.ErrNone
		}
	}
	return true, impl.ErrNone
}

// firstDifferentByHand tries all words, up to the length behind which no word is the first one.
func firstDifferentByHand(a impl.Acceptor, b impl.Acceptor) ([]int64, int64) {
	for length := range a.Maps[0].Points + b.Maps[0].Points {
		for _, word := range wordsOfLength(int(length), int64(len(a.Maps))) {
			if acceptsByHand(a, word) != acceptsByHand(b, word) {
				return word, impl.ErrNone
			}
		}
	}
	return nil, impl.ErrNotFound
}

func sameAcceptors(a impl.Acceptor, b impl.Acceptor) bool {
	return slices.Equal(a.Maps, b.Maps) && a.First == b.First && slices.Equal(a.Last, b.Last)
}

func checkAcceptor(t *testing.T, what string, got impl.Acceptor, want impl.Acceptor) {
	t.Helper()
	if !sameAcceptors(got, want) {
		t.Errorf("%s = %v, want %v", what, got, want)
	}
}

// longWords are words of MaxWordLength numbers, and of one less.
func longWords(maps int64) [][]int64 {
	var words [][]int64
	for step := range 5 {
		word := make([]int64, impl.MaxWordLength)
		for i := range word {
			word[i] = int64(i*(i+step)/3) % maps
		}
		words = append(words, word, word[1:])
	}
	return words
}

// wordsToTry are words enough to tell any two acceptors of the same language, of n and m points,
// from others, if they have few maps, and some of the words if they have many.
func wordsToTry(maps int64, n int64, m int64) [][]int64 {
	words := longWords(maps)
	for length := range n + m {
		of := wordsOfLength(int(length), maps)
		words = append(words, of...)
		if len(of) > 200 {
			break
		}
	}
	return words
}

func TestPromise7LeastAcceptorsAcceptTheSameWords(t *testing.T) {
	smaller := 0
	for _, a := range someAcceptors() {
		least, code := impl.LeastAcceptor(a)
		checkCode(t, fmt.Sprint("LeastAcceptor ", a), code, impl.ErrNone)
		if !impl.IsAcceptor(least) {
			t.Fatalf("LeastAcceptor(%v) = %v is no acceptor", a, least)
		}
		n, m := a.Maps[0].Points, least.Maps[0].Points
		if m < n {
			smaller++
		}
		for _, word := range wordsToTry(int64(len(a.Maps)), n, m) {
			yes, code := impl.Accepts(a, word)
			checkCode(t, "Accepts", code, impl.ErrNone)
			leastYes, code := impl.Accepts(least, word)
			checkCode(t, "Accepts", code, impl.ErrNone)
			if yes != leastYes {
				t.Fatalf("Accepts(%v, %v) = %v, but the least acceptor %v says %v", a, word, yes, least, leastYes)
			}
		}
		checkValue(t, fmt.Sprint("AreEqual ", a, least), true)(impl.AreEqual(a, least))
		again, code := impl.LeastAcceptor(least)
		checkCode(t, fmt.Sprint("LeastAcceptor ", least), code, impl.ErrNone)
		checkAcceptor(t, fmt.Sprint("LeastAcceptor ", least), again, least)
	}
	if smaller < 500 {
		t.Error("only", smaller, "of the least acceptors have fewer points")
	}
}

func TestPromise7WordsOfAnAcceptorAndItsComplementAreAllWords(t *testing.T) {
	for _, a := range someAcceptors() {
		other, code := impl.ComplementOf(a)
		checkCode(t, fmt.Sprint("ComplementOf ", a), code, impl.ErrNone)
		if !impl.IsAcceptor(other) {
			t.Fatalf("ComplementOf(%v) = %v is no acceptor", a, other)
		}
		for _, word := range wordsToTry(int64(len(a.Maps)), a.Maps[0].Points, 0) {
			yes, _ := impl.Accepts(a, word)
			otherYes, code := impl.Accepts(other, word)
			if yes == otherYes || code != impl.ErrNone {
				t.Fatalf("Accepts(%v, %v) = %v, and %v, %d for the complement %v", a, word, yes, otherYes, code, other)
			}
		}
		counts, _ := impl.CountAccepted(a, impl.MaxCounted)
		others, _ := impl.CountAccepted(other, impl.MaxCounted)
		words := int64(1)
		for length := range impl.MaxCounted + 1 {
			if counts[length]+others[length] != words {
				t.Fatalf("CountAccepted(%v) = %v, and %v for the complement", a, counts, others)
			}
			words *= int64(len(a.Maps))
		}
		back, _ := impl.ComplementOf(other)
		checkAcceptor(t, fmt.Sprint("ComplementOf ", other), back, a)
	}
}

func TestPromise17AcceptorsWithoutGroupsHaveLeastAcceptorsWithThePeriod1(t *testing.T) {
	without, with := 0, 0
	for _, a := range someAcceptors() {
		yes, code := impl.IsWithoutGroups(a)
		if code == impl.ErrLimit {
			continue
		}
		checkCode(t, fmt.Sprint("IsWithoutGroups ", a), code, impl.ErrNone)
		least, _ := impl.LeastAcceptor(a)
		elements, code := impl.ElementsOf(least.Maps)
		checkCode(t, fmt.Sprint("ElementsOf ", least.Maps), code, impl.ErrNone)
		greatest := int64(0)
		for _, f := range elements {
			_, period, _ := impl.IndexAndPeriod(f)
			greatest = max(greatest, period)
		}
		if yes != (greatest == 1) {
			t.Fatalf("IsWithoutGroups(%v) = %v, but the least acceptor %v has an element with the period %d", a, yes, least, greatest)
		}
		if yes {
			without++
		} else {
			with++
		}
	}
	if without < 500 || with < 500 {
		t.Error("only", without, "acceptors are without groups, or only", with, "are not")
	}
}

// TestEqualAcceptorsHaveTheSameLeastAcceptor has all acceptors of two maps of up to 2 points, and
// those of the lists of one map of 3 points.
func TestEqualAcceptorsHaveTheSameLeastAcceptor(t *testing.T) {
	byMaps := map[int][]impl.Acceptor{}
	for i, list := range smallLists() {
		if n := list[0].Points; n <= 2 && len(list) == 2 || n == 3 && len(list) == 1 && i%3 == 0 {
			byMaps[len(list)] = append(byMaps[len(list)], acceptorsOf(list)...)
		}
	}
	for _, k := range knownAcceptors() {
		byMaps[len(k.a.Maps)] = append(byMaps[len(k.a.Maps)], k.a, k.least)
	}
	equal, other := 0, 0
	for _, all := range byMaps {
		var leasts []impl.Acceptor
		for _, a := range all {
			least, _ := impl.LeastAcceptor(a)
			leasts = append(leasts, least)
		}
		for i, a := range all {
			for k, b := range all {
				same := sameAcceptors(leasts[i], leasts[k])
				checkValue(t, fmt.Sprint("AreEqual ", a, b), same)(impl.AreEqual(a, b))
				if same {
					equal++
				} else {
					other++
				}
			}
		}
	}
	if equal < 1000 || other < 1000 {
		t.Error("only", equal, "pairs are equal, or only", other, "are not")
	}
}

// TestAcceptorsByHand compares all functions that take one acceptor with what is found by hand.
func TestAcceptorsByHand(t *testing.T) {
	acceptors := someAcceptors()
	for _, list := range largeLists() {
		for at, a := range acceptorsOf(list) {
			if at%31 == 0 {
				acceptors = append(acceptors, a)
			}
		}
	}
	for _, a := range acceptors {
		words := mapsOfWordsByHand(a.Maps)
		checkPointsByHand(t, a, words)
		isAccepted := func(f impl.Map) bool { return isLastByHand(a, f.To[a.First]) }
		checkFirst(t, fmt.Sprint("FirstAccepted ", a), words, isAccepted)(impl.FirstAccepted(a))
		want := leastByHand(a, words)
		least, code := impl.LeastAcceptor(a)
		checkCode(t, "LeastAcceptor", code, impl.ErrNone)
		checkAcceptor(t, fmt.Sprint("LeastAcceptor ", a), least, want)
		counts, code := impl.CountAccepted(a, impl.MaxCounted)
		checkCode(t, "CountAccepted", code, impl.ErrNone)
		checkList(t, fmt.Sprint("CountAccepted ", a), counts, countsByHand(a, impl.MaxCounted))
		checkValue(t, fmt.Sprint("IsFinite ", a), isFiniteByHand(a))(impl.IsFinite(a))
		wantYes, wantCode := withoutGroupsByHand(want)
		yes, code := impl.IsWithoutGroups(a)
		if yes != wantYes || code != wantCode {
			t.Errorf("IsWithoutGroups(%v) = %v, %d, want %v, %d", a, yes, code, wantYes, wantCode)
		}
	}
}

func checkPointsByHand(t *testing.T, a impl.Acceptor, words []wordByHand) {
	t.Helper()
	var reached []int64
	for _, w := range words {
		if p := w.f.To[a.First]; !slices.Contains(reached, p) {
			reached = append(reached, p)
		}
	}
	points, code := impl.PointsReached(a)
	checkCode(t, "PointsReached", code, impl.ErrNone)
	checkList(t, fmt.Sprint("PointsReached ", a), points, reached)
	for p := range a.Maps[0].Points {
		for q := range a.Maps[0].Points {
			tells := func(f impl.Map) bool { return isLastByHand(a, f.To[p]) != isLastByHand(a, f.To[q]) }
			checkFirst(t, fmt.Sprint("FirstApart ", a, p, q), words, tells)(impl.FirstApart(a, p, q))
		}
	}
}

// TestAcceptsWordsByHand has the empty word, short ones, and ones of MaxWordLength numbers.
func TestAcceptsWordsByHand(t *testing.T) {
	for _, a := range someAcceptors() {
		for _, word := range wordsToTry(int64(len(a.Maps)), 4, 0) {
			checkValue(t, fmt.Sprint("Accepts ", a, word), acceptsByHand(a, word))(impl.Accepts(a, word))
		}
	}
}

// TestDifferentWordsByHand pairs acceptors with others of as many maps, most of them with other
// numbers of points.
func TestDifferentWordsByHand(t *testing.T) {
	byMaps := map[int][]impl.Acceptor{}
	for _, a := range someAcceptors() {
		if len(a.Maps) <= 3 {
			byMaps[len(a.Maps)] = append(byMaps[len(a.Maps)], a)
		}
	}
	for _, all := range byMaps {
		for i, a := range all {
			b := all[(i*i+i*7+3)%len(all)]
			want, wantCode := firstDifferentByHand(a, b)
			word, code := impl.FirstDifferent(a, b)
			checkCode(t, fmt.Sprint("FirstDifferent ", a, b), code, wantCode)
			checkList(t, fmt.Sprint("FirstDifferent ", a, b), word, want)
			checkValue(t, fmt.Sprint("AreEqual ", a, b), wantCode == impl.ErrNotFound)(impl.AreEqual(a, b))
		}
	}
}

func TestKnownAcceptors(t *testing.T) {
	for _, k := range knownAcceptors() {
		points, code := impl.PointsReached(k.a)
		checkCode(t, fmt.Sprint("PointsReached ", k.a), code, impl.ErrNone)
		checkList(t, fmt.Sprint("PointsReached ", k.a), points, k.reached)
		least, code := impl.LeastAcceptor(k.a)
		checkCode(t, fmt.Sprint("LeastAcceptor ", k.a), code, impl.ErrNone)
		checkAcceptor(t, fmt.Sprint("LeastAcceptor ", k.a), least, k.least)
		for _, a := range []impl.Acceptor{k.a, k.least} {
			counts, code := impl.CountAccepted(a, 4)
			checkCode(t, fmt.Sprint("CountAccepted ", a), code, impl.ErrNone)
			checkList(t, fmt.Sprint("CountAccepted ", a), counts, k.counts)
			word, code := impl.FirstAccepted(a)
			checkCode(t, fmt.Sprint("FirstAccepted ", a), code, k.code)
			checkList(t, fmt.Sprint("FirstAccepted ", a), word, k.first)
			checkValue(t, fmt.Sprint("IsFinite ", a), k.finite)(impl.IsFinite(a))
			checkValue(t, fmt.Sprint("IsWithoutGroups ", a), k.withoutGroups)(impl.IsWithoutGroups(a))
		}
	}
}

func TestKnownPointsApart(t *testing.T) {
	chain := acceptor(0, []int64{4}, "12344")
	halves := acceptor(0, []int64{0, 2}, "1032", "2301")
	for _, k := range []struct {
		a    impl.Acceptor
		p, q int64
		want []int64
		code int64
	}{
		{chain, 4, 3, nil, impl.ErrNone},
		{chain, 3, 2, []int64{0}, impl.ErrNone},
		{chain, 0, 1, []int64{0, 0, 0}, impl.ErrNone},
		{chain, 0, 4, nil, impl.ErrNone},
		{chain, 2, 2, nil, impl.ErrNotFound},
		{halves, 1, 0, nil, impl.ErrNone},
		{halves, 1, 3, nil, impl.ErrNotFound},
		{halves, 0, 2, nil, impl.ErrNotFound},
		// Points that are not reached, and last points that are not reached.
		{acceptor(0, []int64{3}, "0123"), 1, 2, nil, impl.ErrNotFound},
		{acceptor(0, []int64{3}, "0123"), 1, 3, nil, impl.ErrNone},
		{acceptor(0, []int64{4}, "00134", "00143"), 1, 2, nil, impl.ErrNotFound},
		{acceptor(0, []int64{4}, "00134", "00143"), 2, 3, []int64{1}, impl.ErrNone},
		// No last points, and all of them.
		{acceptor(0, nil, "1230"), 0, 1, nil, impl.ErrNotFound},
		{acceptor(0, []int64{0, 1, 2, 3}, "1230"), 0, 1, nil, impl.ErrNotFound},
		{acceptor(0, nil, "0"), 0, 0, nil, impl.ErrNotFound},
		{acceptor(0, []int64{0}, "0"), 0, 0, nil, impl.ErrNotFound},
	} {
		word, code := impl.FirstApart(k.a, k.p, k.q)
		checkCode(t, fmt.Sprint("FirstApart ", k.a, k.p, k.q), code, k.code)
		checkList(t, fmt.Sprint("FirstApart ", k.a, k.p, k.q), word, k.want)
	}
}

// TestKnownDifferentWords has languages with no word, with finitely many words, and with all words.
func TestKnownDifferentWords(t *testing.T) {
	noWord, allWords := acceptor(0, nil, "0"), acceptor(0, []int64{0}, "0")
	upTo3, upTo4 := acceptor(0, []int64{0, 1, 2, 3}, "12344"), acceptor(0, []int64{0, 1, 2, 3, 4}, "12344")
	for _, k := range []struct {
		a, b impl.Acceptor
		want []int64
		code int64
	}{
		{noWord, allWords, nil, impl.ErrNone},
		{noWord, noWord, nil, impl.ErrNotFound},
		{noWord, acceptor(0, []int64{4}, "12300"), nil, impl.ErrNotFound},
		{allWords, upTo3, []int64{0, 0, 0, 0}, impl.ErrNone},
		{allWords, upTo4, nil, impl.ErrNotFound},
		{upTo3, upTo4, []int64{0, 0, 0, 0}, impl.ErrNone},
		// Both accept words of the length 3, and then of 7, 11, .. or of 8, 13, ..; and both of the length
		// 4, and then of 9, 14, .. or of 8, 12, ..: no first word is longer than this one.
		{acceptor(0, []int64{3}, "1230"), acceptor(0, []int64{3}, "12340"), []int64{0, 0, 0, 0, 0, 0, 0}, impl.ErrNone},
		{acceptor(0, []int64{4}, "12340"), acceptor(0, []int64{4}, "12341"), []int64{0, 0, 0, 0, 0, 0, 0, 0}, impl.ErrNone},
		// Each map leads on from 0, 0, 0 to another pair of points, by a word of its own.
		{acceptor(0, []int64{4}, "12344", "12304"), acceptor(0, nil, "120", "120"), []int64{0, 0, 0, 0}, impl.ErrNone},
		{acceptor(0, []int64{4}, "12344", "12304", "12314"), acceptor(0, nil, "120", "120", "120"), []int64{0, 0, 0, 0}, impl.ErrNone},
		// Just one of the two, the first one or the second one, and the lesser of two words.
		{acceptor(0, []int64{0}, "10", "01"), acceptor(0, []int64{0}, "10", "10"), []int64{1}, impl.ErrNone},
		{acceptor(0, []int64{0}, "10", "10"), acceptor(0, []int64{0}, "10", "01"), []int64{1}, impl.ErrNone},
		{acceptor(0, []int64{2}, "111", "020"), acceptor(0, nil, "0", "0"), []int64{0, 1}, impl.ErrNone},
		{acceptor(0, []int64{1}, "00", "11", "11"), acceptor(0, nil, "0", "0", "0"), []int64{1}, impl.ErrNone},
	} {
		for _, pair := range [][2]impl.Acceptor{{k.a, k.b}, {k.b, k.a}} {
			word, code := impl.FirstDifferent(pair[0], pair[1])
			checkCode(t, fmt.Sprint("FirstDifferent ", pair), code, k.code)
			checkList(t, fmt.Sprint("FirstDifferent ", pair), word, k.want)
			checkValue(t, fmt.Sprint("AreEqual ", pair), k.code == impl.ErrNotFound)(impl.AreEqual(pair[0], pair[1]))
		}
	}
}

// TestCountsOfManyWords has as many maps as there may be, for the greatest counts.
func TestCountsOfManyWords(t *testing.T) {
	powers := []int64{1}
	for range impl.MaxCounted {
		powers = append(powers, 6*powers[len(powers)-1])
	}
	if impl.MaxCounted != 20 || powers[20] != 3656158440062976 {
		t.Error("MaxCounted is", impl.MaxCounted, "with", powers)
	}
	one := acceptor(0, []int64{0}, "0", "0", "0", "0", "0", "0")
	five := acceptor(3, []int64{0, 1, 2, 3, 4}, "12340", "00000", "01234", "44444", "10234", "22222")
	none := impl.Acceptor{Maps: five.Maps, First: 3}
	for n := range int64(impl.MaxCounted + 1) {
		for _, k := range []struct {
			a    impl.Acceptor
			want []int64
		}{
			{one, powers[:n+1]},
			{five, powers[:n+1]},
			{none, make([]int64, n+1)},
		} {
			counts, code := impl.CountAccepted(k.a, n)
			checkCode(t, fmt.Sprint("CountAccepted ", k.a, n), code, impl.ErrNone)
			checkList(t, fmt.Sprint("CountAccepted ", k.a, n), counts, k.want)
		}
	}
	for _, n := range []int64{-1, impl.MaxCounted + 1, -1 << 63, 1<<63 - 1} {
		for _, a := range []impl.Acceptor{one, five, none} {
			checkFails(t, fmt.Sprint("CountAccepted ", a, n), func() (int64, bool) { return ofNumbers(impl.CountAccepted(a, n)) }, impl.ErrRange)
		}
	}
}

// TestMonoidsOfLeastAcceptors has monoids of MaxElements elements and of one more, and acceptors
// with greater monoids than their least acceptors have.
func TestMonoidsOfLeastAcceptors(t *testing.T) {
	most := impl.Acceptor{Maps: listOfMaxElements(), First: 4, Last: []int64{0}}
	above := impl.Acceptor{Maps: largeLists()[0], First: 1, Last: []int64{0}}
	for _, k := range []struct {
		a    impl.Acceptor
		size int
		code int64
	}{
		{most, impl.MaxElements, impl.ErrNone},
		{above, impl.MaxElements + 1, impl.ErrLimit},
		{impl.Acceptor{Maps: largeLists()[1], Last: []int64{2}}, 3125, impl.ErrLimit},
	} {
		least, _ := impl.LeastAcceptor(k.a)
		if size := len(mapsOfWordsByHand(least.Maps)); size != k.size {
			t.Errorf("the least acceptor of %v has %d elements, not %d", k.a, size, k.size)
		}
		yes, code := impl.IsWithoutGroups(k.a)
		if yes || code != k.code {
			t.Errorf("IsWithoutGroups(%v) = %v, %d, want false, %d", k.a, yes, code, k.code)
		}
	}
	for _, list := range largeLists() {
		for _, last := range [][]int64{nil, {0, 1, 2, 3, 4}} {
			a := impl.Acceptor{Maps: list, First: 1, Last: last}
			checkValue(t, fmt.Sprint("IsWithoutGroups ", a), true)(impl.IsWithoutGroups(a))
		}
	}
}

// callsOfAcceptors calls each function of chapter 7 but IsAcceptor with an acceptor, and with those
// of the other arguments that it takes.
func callsOfAcceptors(a impl.Acceptor, b impl.Acceptor, word []int64, p int64, q int64, n int64) map[string]func() (int64, bool) {
	return map[string]func() (int64, bool){
		"Accepts":         func() (int64, bool) { return ofBool(impl.Accepts(a, word)) },
		"PointsReached":   func() (int64, bool) { return ofNumbers(impl.PointsReached(a)) },
		"FirstApart":      func() (int64, bool) { return ofNumbers(impl.FirstApart(a, p, q)) },
		"LeastAcceptor":   func() (int64, bool) { return ofAcceptor(impl.LeastAcceptor(a)) },
		"AreEqual":        func() (int64, bool) { return ofBool(impl.AreEqual(a, b)) },
		"FirstDifferent":  func() (int64, bool) { return ofNumbers(impl.FirstDifferent(a, b)) },
		"CountAccepted":   func() (int64, bool) { return ofNumbers(impl.CountAccepted(a, n)) },
		"FirstAccepted":   func() (int64, bool) { return ofNumbers(impl.FirstAccepted(a)) },
		"IsFinite":        func() (int64, bool) { return ofBool(impl.IsFinite(a)) },
		"ComplementOf":    func() (int64, bool) { return ofAcceptor(impl.ComplementOf(a)) },
		"IsWithoutGroups": func() (int64, bool) { return ofBool(impl.IsWithoutGroups(a)) },
	}
}

func ofAcceptor(a impl.Acceptor, code int64) (int64, bool) {
	return code, sameAcceptors(a, impl.Acceptor{})
}

// badAcceptors break each part of the definition, some of them more than one.
func badAcceptors() []impl.Acceptor {
	bad := []impl.Acceptor{{}, {First: 1, Last: []int64{0}}}
	for _, f := range noMaps() {
		for _, list := range listsWith(f) {
			bad = append(bad, impl.Acceptor{Maps: list}, impl.Acceptor{Maps: list, First: -1, Last: []int64{1, 0}})
		}
	}
	for _, list := range listsNotAsTold() {
		bad = append(bad, impl.Acceptor{Maps: list}, impl.Acceptor{Maps: list, Last: []int64{0}})
	}
	for _, list := range slices.Concat(cernyLists(), largeLists(), [][]impl.Map{listOf("0"), listOf("01234")}) {
		n := list[0].Points
		for _, first := range []int64{-1, n, impl.MaxPoints, -1 << 63, 1<<63 - 1} {
			bad = append(bad, impl.Acceptor{Maps: list, First: first}, impl.Acceptor{Maps: list, First: first, Last: []int64{0}})
		}
		for _, last := range badPointLists(n) {
			bad = append(bad, impl.Acceptor{Maps: list, Last: last}, impl.Acceptor{Maps: list, First: n - 1, Last: last})
		}
	}
	return bad
}

func TestIsAcceptor(t *testing.T) {
	for _, a := range someAcceptors() {
		if !impl.IsAcceptor(a) {
			t.Errorf("IsAcceptor(%v) = false", a)
		}
	}
	for _, list := range slices.Concat(largeLists(), [][]impl.Map{listOf("10", "10", "10", "10", "10", "10")}) {
		for _, a := range acceptorsOf(list) {
			if !impl.IsAcceptor(a) {
				t.Errorf("IsAcceptor(%v) = false", a)
			}
		}
	}
	for _, a := range badAcceptors() {
		if impl.IsAcceptor(a) {
			t.Errorf("IsAcceptor(%v) = true", a)
		}
	}
}

// TestAcceptorsRejectWhatIsNoAcceptor also gives words, points and numbers that are not as told, and
// acceptors of other numbers of maps, which is checked later.
func TestAcceptorsRejectWhatIsNoAcceptor(t *testing.T) {
	good := acceptor(0, []int64{1}, "10", "00")
	for _, bad := range badAcceptors() {
		for name, call := range callsOfAcceptors(bad, good, nil, 0, 0, 0) {
			checkFails(t, fmt.Sprint(name, " ", bad), call, impl.ErrInvalid)
		}
		for name, call := range callsOfAcceptors(bad, bad, []int64{-1}, -1, -1, -1) {
			checkFails(t, fmt.Sprint(name, " ", bad), call, impl.ErrInvalid)
		}
		for _, a := range []impl.Acceptor{good, acceptor(0, nil, "0"), acceptor(1, []int64{0}, "01234", "12340", "00000")} {
			calls := callsOfAcceptors(a, bad, nil, 0, 0, 0)
			for _, name := range []string{"AreEqual", "FirstDifferent"} {
				checkFails(t, fmt.Sprint(name, " ", a, bad), calls[name], impl.ErrInvalid)
			}
		}
	}
}

func TestAcceptorsRejectWhatIsNoWord(t *testing.T) {
	for _, list := range [][]impl.Map{listOf("0"), listOf("10", "00"), listOf("0123", "0123", "3210"), listOf("01234", "00000", "11111", "01234", "01234", "01234")} {
		for _, a := range acceptorsOf(list) {
			for _, word := range badWords(int64(len(list))) {
				checkFails(t, fmt.Sprint("Accepts ", a, word), func() (int64, bool) { return ofBool(impl.Accepts(a, word)) }, impl.ErrRange)
			}
		}
	}
}

// TestAcceptorsRejectPoints has acceptors for which no word tells points apart either, which is
// checked later.
func TestAcceptorsRejectPoints(t *testing.T) {
	for _, a := range someAcceptors()[:900] {
		n := a.Maps[0].Points
		for _, p := range []int64{-1, n, impl.MaxPoints, -1 << 63, 1<<63 - 1} {
			for _, pair := range [][2]int64{{p, p}, {p, 0}, {n - 1, p}} {
				checkFails(t, fmt.Sprint("FirstApart ", a, pair), func() (int64, bool) { return ofNumbers(impl.FirstApart(a, pair[0], pair[1])) }, impl.ErrRange)
			}
		}
	}
}

// TestAcceptorsOfOtherNumbersOfMaps has pairs that accept no word, or the same ones of the maps that
// both have, and pairs that differ at once.
func TestAcceptorsOfOtherNumbersOfMaps(t *testing.T) {
	for _, pair := range [][2]impl.Acceptor{
		{acceptor(0, nil, "0"), acceptor(0, nil, "0", "0")},
		{acceptor(0, []int64{0}, "0"), acceptor(0, []int64{0}, "0", "0")},
		{acceptor(0, []int64{0}, "0"), acceptor(0, nil, "0", "0")},
		{acceptor(0, []int64{0}, "10", "10", "10", "10", "10", "10"), acceptor(0, []int64{0}, "10", "10", "10", "10", "10")},
		{acceptor(1, []int64{4}, "12340", "10234"), acceptor(0, []int64{1}, "10", "00", "11")},
	} {
		for _, calls := range []map[string]func() (int64, bool){
			callsOfAcceptors(pair[0], pair[1], nil, 0, 0, 0),
			callsOfAcceptors(pair[1], pair[0], nil, 0, 0, 0),
		} {
			for _, name := range []string{"AreEqual", "FirstDifferent"} {
				checkFails(t, fmt.Sprint(name, " ", pair), calls[name], impl.ErrState)
			}
		}
	}
}

// TestAcceptorsFindNothing looks at the results beside ErrNotFound.
func TestAcceptorsFindNothing(t *testing.T) {
	for _, list := range [][]impl.Map{listOf("0"), listOf("120", "010"), listOf("12340", "01230", "00000")} {
		for first := range list[0].Points {
			a := impl.Acceptor{Maps: list, First: first}
			calls := callsOfAcceptors(a, impl.Acceptor{Maps: list}, nil, 0, list[0].Points-1, 0)
			for _, name := range []string{"FirstApart", "FirstDifferent", "FirstAccepted"} {
				checkFails(t, fmt.Sprint(name, " ", a), calls[name], impl.ErrNotFound)
			}
		}
	}
}

func TestAcceptorsOfSixMaps(t *testing.T) {
	a := acceptor(0, []int64{1}, "10", "10", "10", "10", "10", "10")
	for name, call := range callsOfAcceptors(a, a, []int64{5, 4, 3}, 0, 1, 20) {
		code, _ := call()
		want := int64(impl.ErrNone)
		if name == "FirstDifferent" {
			want = impl.ErrNotFound
		}
		checkCode(t, name, code, want)
	}
	word, code := impl.FirstAccepted(acceptor(0, []int64{1}, "00", "00", "00", "00", "00", "11"))
	checkCode(t, "FirstAccepted", code, impl.ErrNone)
	checkList(t, "FirstAccepted", word, []int64{5})
}

// TestAcceptorsShareNoMemory writes to the results, and looks at the arguments and what is behind
// them.
func TestAcceptorsShareNoMemory(t *testing.T) {
	store := listOf("12340", "01230", "33333", "22222")
	lasts, words := []int64{0, 2, 4, 7, 7}, []int64{0, 1, 1, 7, 7}
	a := impl.Acceptor{Maps: store[:2], First: 1, Last: lasts[:3]}
	b := impl.Acceptor{Maps: store[:2], First: 0, Last: lasts[:2]}
	word := words[:3]
	checkArguments := func(name string) {
		t.Helper()
		checkMaps(t, "the list behind "+name, store, listOf("12340", "01230", "33333", "22222"))
		checkList(t, "the last points behind "+name, lasts, []int64{0, 2, 4, 7, 7})
		checkList(t, "the word behind "+name, words, []int64{0, 1, 1, 7, 7})
	}
	for name, call := range map[string]func() ([]int64, int64){
		"PointsReached":  func() ([]int64, int64) { return impl.PointsReached(a) },
		"FirstApart":     func() ([]int64, int64) { return impl.FirstApart(a, 0, 2) },
		"FirstDifferent": func() ([]int64, int64) { return impl.FirstDifferent(a, b) },
		"CountAccepted":  func() ([]int64, int64) { return impl.CountAccepted(a, 5) },
		"FirstAccepted":  func() ([]int64, int64) { return impl.FirstAccepted(a) },
	} {
		checkOwn(t, name, call)
		checkArguments(name)
	}
	for name, call := range map[string]func(impl.Acceptor) (impl.Acceptor, int64){"LeastAcceptor": impl.LeastAcceptor, "ComplementOf": impl.ComplementOf} {
		for _, of := range []impl.Acceptor{a, b} {
			checkOwn(t, name, func() ([]impl.Map, int64) {
				result, code := call(of)
				return result.Maps, code
			})
			checkOwn(t, name, func() ([]int64, int64) {
				result, code := call(of)
				return result.Last, code
			})
			checkArguments(name)
		}
	}
	for name, call := range callsOfAcceptors(a, b, word, 1, 2, 3) {
		call()
		checkArguments(name)
	}
	impl.IsAcceptor(a)
	checkArguments("IsAcceptor")
}

package tests

import (
	"fmt"
	"slices"
	"testing"

	"loop.example/g01359/impl"
)

// powerOfNumber is b * .. * b, with as many factors as k tells.
func powerOfNumber(b int64, k int64) int64 {
	result := int64(1)
	for range k {
		result *= b
	}
	return result
}

func sumOf(numbers []int64) int64 {
	sum := int64(0)
	for _, number := range numbers {
		sum += number
	}
	return sum
}

// permutationsByHand are all maps of n points that lead no two points to the same one.
func permutationsByHand(n int64) []impl.Map {
	var permutations []impl.Map
	for _, p := range arrangements(int(n)) {
		f := impl.Map{Points: n}
		copy(f.To[:], p)
		permutations = append(permutations, f)
	}
	return permutations
}

// renumberedByHand leads p(i) to p(j) for each i that f leads to j.
func renumberedByHand(f impl.Map, p impl.Map) impl.Map {
	g := impl.Map{Points: f.Points}
	for i := range f.Points {
		g.To[p.To[i]] = p.To[f.To[i]]
	}
	return g
}

// shapeByHand is what renumbering tells of a map: the different maps alike with it, and how many
// permutations make it of itself.
type shapeByHand struct {
	alike map[impl.Map]bool
	least impl.Map
	kept  int64
}

func shapeOfMap(f impl.Map, permutations []impl.Map) shapeByHand {
	shape := shapeByHand{alike: map[impl.Map]bool{}, least: f}
	for _, p := range permutations {
		g := renumberedByHand(f, p)
		shape.alike[g] = true
		if slices.Compare(g.To[:], shape.least.To[:]) < 0 {
			shape.least = g
		}
		if g == f {
			shape.kept++
		}
	}
	return shape
}

// mapsOfShapes are all maps of up to 4 points, and of those of 5 points one of each shape and some
// others.
func mapsOfShapes() []impl.Map {
	maps := mapsUpTo(4)
	met := map[impl.Map]bool{}
	permutations := permutationsByHand(5)
	for i, f := range allMaps(5) {
		if !met[f] {
			for g := range shapeOfMap(f, permutations).alike {
				met[g] = true
			}
			maps = append(maps, f)
		} else if i%37 == 0 {
			maps = append(maps, f)
		}
	}
	return maps
}

// rootsByHand are the roots of k of each map of n points, in order.
func rootsByHand(n int64, k int) map[impl.Map][]impl.Map {
	roots := map[impl.Map][]impl.Map{}
	for _, g := range allMaps(n) {
		f := powersByHand(g, k)[k]
		roots[f] = append(roots[f], g)
	}
	return roots
}

func TestPromise9NumbersByRankAndByFixedPointsAddUp(t *testing.T) {
	for n := int64(1); n <= 12; n++ {
		byRank, code := impl.CountByRank(n)
		checkCode(t, fmt.Sprint("CountByRank ", n), code, impl.ErrNone)
		byFixed, code := impl.CountByFixed(n)
		checkCode(t, fmt.Sprint("CountByFixed ", n), code, impl.ErrNone)
		all := powerOfNumber(n, n)
		if sumOf(byRank) != all || sumOf(byFixed) != all || int64(len(byRank)) != n || int64(len(byFixed)) != n+1 {
			t.Errorf("of %d points, of which there are %d maps: by rank %v, by fixed points %v", n, all, byRank, byFixed)
		}
	}
}

func TestPromise9RootsHaveThePowersTold(t *testing.T) {
	found, missing := 0, 0
	for _, f := range mapsOfShapes() {
		for k := int64(1); k <= 6; k++ {
			root, code := impl.FirstRoot(f, k)
			if code == impl.ErrNotFound {
				missing++
				continue
			}
			found++
			checkCode(t, fmt.Sprint("FirstRoot ", f, k), code, impl.ErrNone)
			power, code := impl.PowerOf(root, k)
			if power != f || code != impl.ErrNone || powersByHand(root, int(k))[k] != f {
				t.Fatalf("FirstRoot(%v, %d) = %v, which has the power %v, %d", f, k, root, power, code)
			}
		}
	}
	if found < 500 || missing < 500 {
		t.Error("only", found, "maps have roots, or only", missing, "have none")
	}
}

// TestPromise15NumbersOfAlikeMapsTimesThoseOfCommutingPermutations also counts both by renumbering, and the permutations by products.
func TestPromise15NumbersOfAlikeMapsTimesThoseOfCommutingPermutations(t *testing.T) {
	for n, all := int64(1), int64(1); n <= impl.MaxPoints; n, all = n+1, all*(n+1) {
		permutations := permutationsByHand(n)
		for _, f := range allMaps(n) {
			alike, commuting, code := impl.CountSameShape(f)
			checkCode(t, fmt.Sprint("CountSameShape ", f), code, impl.ErrNone)
			if alike*commuting != all {
				t.Fatalf("CountSameShape(%v) = %d, %d, and %d! is %d", f, alike, commuting, n, all)
			}
			shape := shapeOfMap(f, permutations)
			byProducts := int64(0)
			for _, p := range permutations {
				if byHand(f, p) == byHand(p, f) {
					byProducts++
				}
			}
			if alike != int64(len(shape.alike)) || commuting != shape.kept || commuting != byProducts {
				t.Fatalf("CountSameShape(%v) = %d, %d, want %d, %d", f, alike, commuting, len(shape.alike), byProducts)
			}
		}
	}
}

func TestCountByRankAndCountByFixed(t *testing.T) {
	for n := int64(1); n <= impl.MaxPoints; n++ {
		byRank, byFixed := make([]int64, n), make([]int64, n+1)
		idempotents := int64(0)
		for _, f := range allMaps(n) {
			byRank[len(imagesByHand(f))-1]++
			fixed := 0
			for i := range n {
				if f.To[i] == i {
					fixed++
				}
			}
			byFixed[fixed]++
			if byHand(f, f) == f {
				idempotents++
			}
		}
		got, code := impl.CountByRank(n)
		checkCode(t, "CountByRank", code, impl.ErrNone)
		checkList(t, fmt.Sprint("CountByRank ", n), got, byRank)
		got, code = impl.CountByFixed(n)
		checkCode(t, "CountByFixed", code, impl.ErrNone)
		checkList(t, fmt.Sprint("CountByFixed ", n), got, byFixed)
		checkValue(t, fmt.Sprint("CountIdempotents ", n), idempotents)(impl.CountIdempotents(n))
	}
}

// TestCountsOfMorePoints counts them point by point: maps by rank as those of a point less into the same
// points, and the others by how many points are chosen.
func TestCountsOfMorePoints(t *testing.T) {
	triangle := [][]int64{{1}}
	for n := int64(1); n <= 12; n++ {
		above := append(slices.Clone(triangle[n-1]), 0)
		row := slices.Clone(above)
		for k := int64(1); k <= n; k++ {
			row[k] += above[k-1]
		}
		triangle = append(triangle, row)
		byRank := append([]int64{1}, make([]int64, n)...)
		for range n {
			for rank := n; rank >= 1; rank-- {
				byRank[rank] = byRank[rank]*rank + byRank[rank-1]*(n-rank+1)
			}
			byRank[0] = 0
		}
		var byFixed []int64
		idempotents := int64(0)
		for k := range n + 1 {
			byFixed = append(byFixed, row[k]*powerOfNumber(n-1, n-k))
			idempotents += row[k] * powerOfNumber(k, n-k)
		}
		got, _ := impl.CountByRank(n)
		checkList(t, fmt.Sprint("CountByRank ", n), got, byRank[1:])
		got, _ = impl.CountByFixed(n)
		checkList(t, fmt.Sprint("CountByFixed ", n), got, byFixed)
		checkValue(t, fmt.Sprint("CountIdempotents ", n), idempotents)(impl.CountIdempotents(n))
	}
}

func TestKnownCounts(t *testing.T) {
	for _, k := range []struct {
		n               int64
		byRank, byFixed []int64
	}{
		{1, []int64{1}, []int64{0, 1}},
		{2, []int64{2, 2}, []int64{1, 2, 1}},
		{3, []int64{3, 18, 6}, []int64{8, 12, 6, 1}},
		{4, []int64{4, 84, 144, 24}, []int64{81, 108, 54, 12, 1}},
		{5, []int64{5, 300, 1500, 1200, 120}, []int64{1024, 1280, 640, 160, 20, 1}},
	} {
		got, code := impl.CountByRank(k.n)
		checkCode(t, "CountByRank", code, impl.ErrNone)
		checkList(t, fmt.Sprint("CountByRank ", k.n), got, k.byRank)
		got, code = impl.CountByFixed(k.n)
		checkCode(t, "CountByFixed", code, impl.ErrNone)
		checkList(t, fmt.Sprint("CountByFixed ", k.n), got, k.byFixed)
	}
	byRank, _ := impl.CountByRank(12)
	if byRank[0] != 12 || byRank[1] != 66*4094 || byRank[10] != 66*479001600 || byRank[11] != 479001600 {
		t.Errorf("CountByRank(12) = %v", byRank)
	}
	byFixed, _ := impl.CountByFixed(12)
	if byFixed[0] != 3138428376721 || byFixed[11] != 132 || byFixed[12] != 1 {
		t.Errorf("CountByFixed(12) = %v", byFixed)
	}
	for i, want := range []int64{1, 3, 10, 41, 196, 1057, 6322, 41393, 293608, 2237921, 18210094, 157329097} {
		n := int64(i) + 1
		checkValue(t, fmt.Sprint("CountIdempotents ", n), want)(impl.CountIdempotents(n))
	}
}

func TestCountShapes(t *testing.T) {
	for i, want := range []int64{1, 3, 7, 19, 47} {
		n := int64(i) + 1
		checkValue(t, fmt.Sprint("CountShapes ", n), want)(impl.CountShapes(n))
		least := map[impl.Map]bool{}
		for _, f := range allMaps(n) {
			form, _ := impl.LeastForm(f)
			least[form] = true
		}
		if int64(len(least)) != want {
			t.Errorf("%d points: %d least forms", n, len(least))
		}
	}
}

func TestCountsRejectNumbersOutOfRange(t *testing.T) {
	for _, n := range []int64{0, 13, -1, 14, 1 << 32, 1<<32 + 1, 1<<63 - 1, -1 << 63} {
		checkFails(t, fmt.Sprint("CountByRank ", n), func() (int64, bool) { return ofNumbers(impl.CountByRank(n)) }, impl.ErrRange)
		checkFails(t, fmt.Sprint("CountByFixed ", n), func() (int64, bool) { return ofNumbers(impl.CountByFixed(n)) }, impl.ErrRange)
		checkFails(t, fmt.Sprint("CountIdempotents ", n), func() (int64, bool) { return ofNumber(impl.CountIdempotents(n)) }, impl.ErrRange)
	}
	for _, n := range []int64{0, impl.MaxPoints + 1, -1, 12, 1 << 32, 1<<32 + 1, 1<<63 - 1, -1 << 63} {
		checkFails(t, fmt.Sprint("CountShapes ", n), func() (int64, bool) { return ofNumber(impl.CountShapes(n)) }, impl.ErrRange)
	}
}

func TestLeastForm(t *testing.T) {
	for n := int64(1); n <= impl.MaxPoints; n++ {
		permutations := permutationsByHand(n)
		for _, f := range allMaps(n) {
			form, code := impl.LeastForm(f)
			checkCode(t, "LeastForm", code, impl.ErrNone)
			checkMap(t, fmt.Sprint("LeastForm ", f), form, shapeOfMap(f, permutations).least)
		}
	}
	for _, k := range [][2]string{
		{"0", "0"},
		{"11", "00"},
		{"10", "10"},
		{"222", "000"},
		{"120", "120"},
		{"201", "120"},
		{"44444", "00000"},
		{"01234", "01234"},
		{"43210", "02143"},
		{"24130", "02341"},
		{"40123", "12340"},
		{"11234", "00234"},
		{"12344", "00123"},
	} {
		form, _ := impl.LeastForm(digits(k[0]))
		checkMap(t, "LeastForm "+k[0], form, digits(k[1]))
	}
}

func TestAreSameShape(t *testing.T) {
	alike, other := 0, 0
	maps := append(mapsUpTo(3), mapsOfShapes()[len(mapsUpTo(4)):]...)
	for i, f := range allMaps(4) {
		if i%5 == 0 {
			maps = append(maps, f)
		}
	}
	for _, f := range maps {
		shape := shapeOfMap(f, permutationsByHand(f.Points))
		for i, g := range maps {
			if g.Points != f.Points || f.Points == 5 && i%4 > 0 {
				continue
			}
			yes, code := impl.AreSameShape(f, g)
			if yes != shape.alike[g] || code != impl.ErrNone {
				t.Fatalf("AreSameShape(%v, %v) = %v, %d", f, g, yes, code)
			}
			if yes {
				alike++
			} else {
				other++
			}
		}
	}
	if alike < 300 || other < 3000 {
		t.Error("only", alike, "pairs of maps are alike, or only", other, "are not")
	}
	for _, k := range []struct {
		f, g string
		want bool
	}{
		{"0", "0", true},
		{"00", "11", true},
		{"00", "01", false},
		{"1203", "0231", true},
		{"1200", "3301", false},
		{"00000", "44444", true},
		{"01234", "01234", true},
		{"12340", "23401", true},
		{"12340", "24130", false},
		{"10342", "12043", true},
		{"10342", "12340", false},
		{"00012", "00011", false},
		{"00012", "44034", false},
		{"00012", "30332", true},
		// the same ranks, heights and cycle types
		{"1000", "1001", false},
		{"01000", "01001", false},
		{"01000", "01011", false},
		{"01000", "01111", true},
	} {
		checkValue(t, "AreSameShape "+k.f+" "+k.g, k.want)(impl.AreSameShape(digits(k.f), digits(k.g)))
		checkValue(t, "AreSameShape "+k.g+" "+k.f, k.want)(impl.AreSameShape(digits(k.g), digits(k.f)))
	}
}

func TestKnownNumbersOfMapsOfTheSameShape(t *testing.T) {
	for _, k := range []struct {
		text             string
		alike, commuting int64
	}{
		{"0", 1, 1},
		{"00", 2, 1},
		{"10", 1, 2},
		{"120", 2, 3},
		{"001", 6, 1},
		{"0123", 1, 24},
		{"00000", 5, 24},
		{"01234", 1, 120},
		{"12340", 24, 5},
		{"10324", 15, 8},
		{"00123", 120, 1},
	} {
		alike, commuting, code := impl.CountSameShape(digits(k.text))
		if alike != k.alike || commuting != k.commuting || code != impl.ErrNone {
			t.Errorf("CountSameShape(%s) = %d, %d, %d", k.text, alike, commuting, code)
		}
	}
}

// cycleByHand is the cycle of a cyclic point, ascending, and nil for other points.
func cycleByHand(f impl.Map, p int64) []int64 {
	var cycle []int64
	for _, g := range powersByHand(f, int(f.Points))[1:] {
		cycle = append(cycle, g.To[p])
		if g.To[p] == p {
			slices.Sort(cycle)
			return cycle
		}
	}
	return nil
}

func TestCyclesHeightsAndBasins(t *testing.T) {
	for _, f := range mapsUpTo(impl.MaxPoints) {
		var lengths, heights, basins []int64
		powers := powersByHand(f, 5)
		for p := range f.Points {
			cycle := cycleByHand(f, p)
			if cycle != nil && cycle[0] == p {
				lengths = append(lengths, int64(len(cycle)))
			}
			height := slices.IndexFunc(powers, func(g impl.Map) bool { return cycleByHand(f, g.To[p]) != nil })
			heights = append(heights, int64(height))
			basins = append(basins, cycleByHand(f, powers[height].To[p])[0])
		}
		slices.Sort(lengths)
		slices.Reverse(lengths)
		got, code := impl.CycleType(f)
		checkCode(t, "CycleType", code, impl.ErrNone)
		checkList(t, fmt.Sprint("CycleType ", f), got, lengths)
		got, code = impl.HeightsOf(f)
		checkCode(t, "HeightsOf", code, impl.ErrNone)
		checkList(t, fmt.Sprint("HeightsOf ", f), got, heights)
		got, code = impl.BasinsOf(f)
		checkCode(t, "BasinsOf", code, impl.ErrNone)
		checkList(t, fmt.Sprint("BasinsOf ", f), got, basins)
	}
}

func TestKnownCyclesHeightsAndBasins(t *testing.T) {
	for _, k := range []struct {
		text                    string
		cycles, heights, basins []int64
	}{
		{"0", []int64{1}, []int64{0}, []int64{0}},
		{"11", []int64{1}, []int64{1, 0}, []int64{1, 1}},
		{"22222", []int64{1}, []int64{1, 1, 0, 1, 1}, []int64{2, 2, 2, 2, 2}},
		{"01234", []int64{1, 1, 1, 1, 1}, []int64{0, 0, 0, 0, 0}, []int64{0, 1, 2, 3, 4}},
		{"12340", []int64{5}, []int64{0, 0, 0, 0, 0}, []int64{0, 0, 0, 0, 0}},
		{"24130", []int64{4, 1}, []int64{0, 0, 0, 0, 0}, []int64{0, 0, 0, 3, 0}},
		{"12043", []int64{3, 2}, []int64{0, 0, 0, 0, 0}, []int64{0, 0, 0, 3, 3}},
		{"10342", []int64{3, 2}, []int64{0, 0, 0, 0, 0}, []int64{0, 0, 2, 2, 2}},
		{"10433", []int64{2, 1}, []int64{0, 0, 2, 0, 1}, []int64{0, 0, 3, 3, 3}},
		{"01123", []int64{1, 1}, []int64{0, 0, 1, 2, 3}, []int64{0, 1, 1, 1, 1}},
		{"12344", []int64{1}, []int64{4, 3, 2, 1, 0}, []int64{4, 4, 4, 4, 4}},
		{"34213", []int64{3, 1}, []int64{1, 0, 0, 0, 0}, []int64{1, 1, 2, 1, 1}},
		{"13421", []int64{4}, []int64{1, 0, 0, 0, 0}, []int64{1, 1, 1, 1, 1}},
	} {
		got, code := impl.CycleType(digits(k.text))
		checkCode(t, "CycleType", code, impl.ErrNone)
		checkList(t, "CycleType "+k.text, got, k.cycles)
		got, code = impl.HeightsOf(digits(k.text))
		checkCode(t, "HeightsOf", code, impl.ErrNone)
		checkList(t, "HeightsOf "+k.text, got, k.heights)
		got, code = impl.BasinsOf(digits(k.text))
		checkCode(t, "BasinsOf", code, impl.ErrNone)
		checkList(t, "BasinsOf "+k.text, got, k.basins)
	}
}

func TestFirstRootAndCountRoots(t *testing.T) {
	roots := map[[2]int64]map[impl.Map][]impl.Map{}
	for n := int64(1); n <= impl.MaxPoints; n++ {
		for k := int64(1); k <= 6; k++ {
			roots[[2]int64{n, k}] = rootsByHand(n, int(k))
		}
	}
	for _, f := range mapsOfShapes() {
		for k := int64(1); k <= 6; k++ {
			want := roots[[2]int64{f.Points, k}][f]
			checkValue(t, fmt.Sprint("CountRoots ", f, k), int64(len(want)))(impl.CountRoots(f, k))
			root, code := impl.FirstRoot(f, k)
			if len(want) == 0 {
				checkFails(t, fmt.Sprint("FirstRoot ", f, k), func() (int64, bool) { return ofMap(root, code) }, impl.ErrNotFound)
				continue
			}
			checkCode(t, "FirstRoot", code, impl.ErrNone)
			checkMap(t, fmt.Sprint("FirstRoot ", f, k), root, want[0])
		}
	}
}

func TestKnownRoots(t *testing.T) {
	for _, k := range []struct {
		text  string
		k     int64
		first string
		count int64
	}{
		{"0", 1, "0", 1},
		{"0", 6, "0", 1},
		{"10", 1, "10", 1},
		{"10", 2, "", 0},
		{"10", 3, "10", 1},
		{"00", 2, "00", 1},
		{"120", 2, "201", 1},
		{"120", 3, "", 0},
		{"120", 4, "120", 1},
		{"120", 6, "", 0},
		{"102", 2, "", 0},
		{"012", 2, "012", 4},
		{"012", 3, "012", 3},
		{"012", 6, "012", 6},
		{"000", 2, "000", 3},
		{"01234", 5, "01234", 25},
		{"01234", 6, "01234", 66},
		{"12340", 5, "", 0},
		{"12340", 6, "12340", 1},
		{"10324", 2, "23104", 2},
		{"00123", 2, "", 0},
		{"44444", 1, "44444", 1},
	} {
		checkValue(t, fmt.Sprint("CountRoots ", k.text, k.k), k.count)(impl.CountRoots(digits(k.text), k.k))
		root, code := impl.FirstRoot(digits(k.text), k.k)
		if k.count == 0 {
			checkFails(t, fmt.Sprint("FirstRoot ", k.text, k.k), func() (int64, bool) { return ofMap(root, code) }, impl.ErrNotFound)
			continue
		}
		checkCode(t, fmt.Sprint("FirstRoot ", k.text, k.k), code, impl.ErrNone)
		checkMap(t, fmt.Sprint("FirstRoot ", k.text, k.k), root, digits(k.first))
	}
}

func TestRootsRejectNumbersOutOfRange(t *testing.T) {
	for _, k := range []int64{0, 7, -1, 8, 1 << 32, 1<<32 + 1, 1<<63 - 1, -1 << 63} {
		for _, text := range []string{"0", "102", "120", "01234"} {
			checkFails(t, fmt.Sprint("FirstRoot ", text, k), func() (int64, bool) { return ofMap(impl.FirstRoot(digits(text), k)) }, impl.ErrRange)
			checkFails(t, fmt.Sprint("CountRoots ", text, k), func() (int64, bool) { return ofNumber(impl.CountRoots(digits(text), k)) }, impl.ErrRange)
		}
	}
}

func TestCountCommuting(t *testing.T) {
	for _, f := range mapsOfShapes() {
		want := int64(0)
		for _, g := range allMaps(f.Points) {
			if byHand(f, g) == byHand(g, f) {
				want++
			}
		}
		checkValue(t, fmt.Sprint("CountCommuting ", f), want)(impl.CountCommuting(f))
	}
	for _, k := range []struct {
		text string
		want int64
	}{
		{"0", 1},
		{"10", 2},
		{"00", 2},
		{"01", 4},
		{"120", 3},
		{"000", 9},
		{"12340", 5},
		{"01234", 3125},
		{"33333", 625},
		{"00123", 5},
	} {
		checkValue(t, "CountCommuting "+k.text, k.want)(impl.CountCommuting(digits(k.text)))
	}
}

func TestAlikeMapsHaveEqualCycleTypesAndNumbersOfRoots(t *testing.T) {
	for i, f := range mapsOfShapes() {
		permutations := permutationsByHand(f.Points)
		g := renumberedByHand(f, permutations[i*31%len(permutations)])
		checkValue(t, fmt.Sprint("AreSameShape ", f, g), true)(impl.AreSameShape(f, g))
		a, _ := impl.CycleType(f)
		b, _ := impl.CycleType(g)
		checkList(t, fmt.Sprint("CycleType ", g, " beside ", f), b, a)
		for k := int64(1); k <= 6; k++ {
			ofF, _ := impl.CountRoots(f, k)
			checkValue(t, fmt.Sprint("CountRoots ", g, k, " beside ", f), ofF)(impl.CountRoots(g, k))
		}
	}
}

// callsOfShapes calls the functions of chapter 9 that take one map.
func callsOfShapes(f impl.Map, k int64) map[string]func() (int64, bool) {
	return map[string]func() (int64, bool){
		"LeastForm": func() (int64, bool) { return ofMap(impl.LeastForm(f)) },
		"CountSameShape": func() (int64, bool) {
			alike, commuting, code := impl.CountSameShape(f)
			return code, alike == 0 && commuting == 0
		},
		"CycleType":      func() (int64, bool) { return ofNumbers(impl.CycleType(f)) },
		"HeightsOf":      func() (int64, bool) { return ofNumbers(impl.HeightsOf(f)) },
		"FirstRoot":      func() (int64, bool) { return ofMap(impl.FirstRoot(f, k)) },
		"CountRoots":     func() (int64, bool) { return ofNumber(impl.CountRoots(f, k)) },
		"CountCommuting": func() (int64, bool) { return ofNumber(impl.CountCommuting(f)) },
		"BasinsOf":       func() (int64, bool) { return ofNumbers(impl.BasinsOf(f)) },
	}
}

// TestShapesRejectWhatIsNotAMap also gives wrong numbers and maps of other numbers of points, which are
// checked later.
func TestShapesRejectWhatIsNotAMap(t *testing.T) {
	for _, bad := range noMaps() {
		for _, k := range []int64{1, 6, 0, 7, -1 << 63} {
			for name, call := range callsOfShapes(bad, k) {
				checkFails(t, fmt.Sprint(name, " ", bad, k), call, impl.ErrInvalid)
			}
		}
		for _, text := range []string{"0", "10", "1201", "43210"} {
			f := digits(text)
			checkFails(t, fmt.Sprint("AreSameShape ", bad, f), func() (int64, bool) { return ofBool(impl.AreSameShape(bad, f)) }, impl.ErrInvalid)
			checkFails(t, fmt.Sprint("AreSameShape ", f, bad), func() (int64, bool) { return ofBool(impl.AreSameShape(f, bad)) }, impl.ErrInvalid)
		}
		checkFails(t, fmt.Sprint("AreSameShape ", bad, bad), func() (int64, bool) { return ofBool(impl.AreSameShape(bad, bad)) }, impl.ErrInvalid)
	}
}

func TestAreSameShapeRejectsMapsOfOtherNumbersOfPoints(t *testing.T) {
	texts := []string{"0", "00", "000", "0000", "00000"}
	for _, f := range texts {
		for _, g := range texts {
			if f != g {
				checkFails(t, "AreSameShape "+f+" "+g, func() (int64, bool) { return ofBool(impl.AreSameShape(digits(f), digits(g))) }, impl.ErrRange)
			}
		}
	}
}

func TestCountsShareNoMemory(t *testing.T) {
	f := digits("10433")
	for name, call := range map[string]func() ([]int64, int64){
		"CountByRank":  func() ([]int64, int64) { return impl.CountByRank(12) },
		"CountByFixed": func() ([]int64, int64) { return impl.CountByFixed(12) },
		"CycleType":    func() ([]int64, int64) { return impl.CycleType(f) },
		"HeightsOf":    func() ([]int64, int64) { return impl.HeightsOf(f) },
		"BasinsOf":     func() ([]int64, int64) { return impl.BasinsOf(f) },
	} {
		checkOwn(t, name, call)
	}
}

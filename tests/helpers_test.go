package tests

import (
	"slices"
	"testing"

	"loop.example/g01359/impl"
)

// digits makes a map of a text without ParseMap, so that the tests of ParseMap do not lean on it.
func digits(text string) impl.Map {
	f := impl.Map{Points: int64(len(text))}
	for i := range len(text) {
		f.To[i] = int64(text[i] - '0')
	}
	return f
}

// allMaps lists the maps of n points in their order.
func allMaps(n int64) []impl.Map {
	maps := []impl.Map{{Points: n}}
	for i := range n {
		var longer []impl.Map
		for _, f := range maps {
			for to := range n {
				f.To[i] = to
				longer = append(longer, f)
			}
		}
		maps = longer
	}
	return maps
}

// mapsUpTo lists the maps of 1 to n points.
func mapsUpTo(n int64) []impl.Map {
	var maps []impl.Map
	for points := int64(1); points <= n; points++ {
		maps = append(maps, allMaps(points)...)
	}
	return maps
}

// noMaps are maps that break each part of the definition.
func noMaps() []impl.Map {
	return []impl.Map{
		{},
		{Points: -1},
		{Points: 6},
		{Points: 1 << 62},
		{Points: -1 << 63},
		{Points: 2, To: [5]int64{0, 2}},
		{Points: 2, To: [5]int64{-1, 0}},
		{Points: 5, To: [5]int64{0, 1, 2, 3, 5}},
		{Points: 5, To: [5]int64{0, 0, 0, 0, -1 << 63}},
		{Points: 2, To: [5]int64{0, 1, 1}},
		{Points: 4, To: [5]int64{0, 1, 2, 3, 4}},
		{Points: 4, To: [5]int64{0, 1, 2, 3, -1}},
	}
}

// badPointLists are lists that are no ascending lists of different points of n points.
func badPointLists(n int64) [][]int64 {
	return [][]int64{{-1}, {n}, {0, n}, {0, 0}, {n - 1, 0, n - 1}, {1, 0}, {-1 << 63, 0}, {0, 1<<63 - 1}}
}

// subsets lists the ascending lists of points below n.
func subsets(n int64) [][]int64 {
	var lists [][]int64
	for bits := range int64(1) << n {
		list := []int64{}
		for p := range n {
			if bits>>p&1 == 1 {
				list = append(list, p)
			}
		}
		lists = append(lists, list)
	}
	return lists
}

func checkCode(t *testing.T, what string, got int64, want int64) {
	t.Helper()
	if got != want {
		t.Errorf("%s: code %d, want %d", what, got, want)
	}
}

func checkList(t *testing.T, what string, got []int64, want []int64) {
	t.Helper()
	if !slices.Equal(got, want) {
		t.Errorf("%s = %v, want %v", what, got, want)
	}
}

func checkMap(t *testing.T, what string, got impl.Map, want impl.Map) {
	t.Helper()
	if got != want {
		t.Errorf("%s = %v, want %v", what, got, want)
	}
}

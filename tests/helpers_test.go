package tests

import (
	"slices"
	"testing"

	"loop.example/g01359/impl"
)

// digits makes a map of a text without ParseMap, so that the tests of ParseMap do not lean on it.
func digits(text string) impl.Map {
	f := impl.Map{Points: int64(len(text))}
	for i := range len(text) {
		f.To[i] = int64(text[i] - '0')
	}
	return f
}

// allMaps lists the maps of n points in their order.
func allMaps(n int64) []impl.Map {
	maps := []impl.Map{{Points: n}}
	for i := range n {
		var longer []impl.Map
		for _, f := range maps {
			for to := range n {
				f.To[i] = to
				longer = append(longer, f)
			}
		}
		maps = longer
	}
	return maps
}

// mapsUpTo lists the maps of 1 to n points.
func mapsUpTo(n int64) []impl.Map {
	var maps []impl.Map
	for points := int64(1); points <= n; points++ {
		maps = append(maps, allMaps(points)...)
	}
	return maps
}

// noMaps are maps that break each part of the definition.
func noMaps() []impl.Map {
	return []impl.Map{
		{},
		{Points: -1},
		{Points: 6},
		{Points: 1 << 62},
		{Points: -1 << 63},
		{Points: 2, To: [5]int64{0, 2}},
		{Points: 2, To: [5]int64{-1, 0}},
		{Points: 5, To: [5]int64{0, 1, 2, 3, 5}},
		{Points: 5, To: [5]int64{0, 0, 0, 0, -1 << 63}},
		{Points: 2, To: [5]int64{0, 1, 1}},
		{Points: 4, To: [5]int64{0, 1, 2, 3, 4}},
		{Points: 4, To: [5]int64{0, 1, 2, 3, -1}},
	}
}

// badPointLists are lists that are no ascending lists of different points of n points.
func badPointLists(n int64) [][]int64 {
	return [][]int64{{-1}, {n}, {0, n}, {0, 0}, {n - 1, 0, n - 1}, {1, 0}, {-1 << 63, 0}, {0, 1<<63 - 1}}
}

// subsets lists the ascending lists of points below n.
func subsets(n int64) [][]int64 {
	var lists [][]int64
	for bits := range int64(1) << n {
		list := []int64{}
		for p := range n {
			if bits>>p&1 == 1 {
				list = append(list, p)
			}
		}
		lists = append(lists, list)
	}
	return lists
}

func checkCode(t *testing.T, what string, got int64, want int64) {
	t.Helper()
	if got != want {
		t.Errorf("%s: code %d, want %d", what, got, want)
	}
}

// checkValue takes the result of a call.
func checkValue[T comparable](t *testing.T, what string, want T) func(got T, code int64) {
	t.Helper()
	return func(got T, code int64) {
		t.Helper()
		if got != want || code != impl.ErrNone {
			t.Errorf("%s = %v, %d, want %v", what, got, code, want)
		}
	}
}

func checkList(t *testing.T, what string, got []int64, want []int64) {
	t.Helper()
	if !slices.Equal(got, want) {
		t.Errorf("%s = %v, want %v", what, got, want)
	}
}

func checkMap(t *testing.T, what string, got impl.Map, want impl.Map) {
	t.Helper()
	if got != want {
		t.Errorf("%s = %v, want %v", what, got, want)
	}
}

func checkMaps(t *testing.T, what string, got []impl.Map, want []impl.Map) {
	t.Helper()
	if !slices.Equal(got, want) {
		t.Errorf("%s = %v, want %v", what, got, want)
	}
}

// listOf makes a list of the maps with these texts.
func listOf(texts ...string) []impl.Map {
	var list []impl.Map
	for _, text := range texts {
		list = append(list, digits(text))
	}
	return list
}

// smallLists are all lists of one or two maps of up to 3 points, and some of three.
func smallLists() [][]impl.Map {
	var lists [][]impl.Map
	for n := int64(1); n <= 3; n++ {
		for i, f := range allMaps(n) {
			lists = append(lists, []impl.Map{f})
			for k, g := range allMaps(n) {
				lists = append(lists, []impl.Map{f, g})
				h := allMaps(n)[(i*5+k*7)%len(allMaps(n))]
				if (i+k)%3 == 0 {
					lists = append(lists, []impl.Map{f, g, h})
				}
			}
		}
	}
	return lists
}

// greaterLists are lists of maps of 4 or 5 points, with equal maps and maps that others make in
// some of them, and monoids of up to MaxElements elements.
func greaterLists() [][]impl.Map {
	return [][]impl.Map{
		listOf("0123"),
		listOf("01234", "01234"),
		listOf("1230", "1023"),
		listOf("1230", "1023", "0012"),
		listOf("1230", "1000", "0123", "1000", "3012", "2222"),
		listOf("0012", "1233", "0113"),
		listOf("12340"),
		listOf("12340", "10234"),
		listOf("10234", "12340", "12340", "20143"),
		listOf("12043", "00000", "33344"),
		listOf("00123", "12344"),
		listOf("00000", "11111", "22222", "33333", "44444"),
		listOf("00234", "01134", "01224", "01233"),
		listOf("00034", "03204", "01244"),
		listOfMaxElements(),
	}
}

// listOfMaxElements makes a monoid of just MaxElements elements.
func listOfMaxElements() []impl.Map {
	return listOf("30234", "13024", "31313")
}

// largeLists make monoids of more than MaxElements elements, the first one just one more.
func largeLists() [][]impl.Map {
	return [][]impl.Map{
		listOf("04243", "04024", "32034", "01440"),
		listOf("12340", "10234", "00234"),
		listOf("00234", "12340", "01234", "44444", "01234", "10234"),
	}
}

func allLists() [][]impl.Map {
	return append(smallLists(), greaterLists()...)
}

// listsWith are lists in which something is not a map. Some are also too long, or of maps with
// different points, which is checked later.
func listsWith(bad impl.Map) [][]impl.Map {
	return [][]impl.Map{
		{bad},
		{digits("00"), bad},
		{bad, digits("00"), digits("120")},
		{digits("0"), digits("0"), digits("0"), digits("0"), digits("0"), digits("0"), digits("0"), bad},
		append(largeLists()[0], bad),
	}
}

// listsNotAsTold are lists of maps that are too short or too long, or of maps with different
// points. Some would make too large a monoid, which is checked later.
func listsNotAsTold() [][]impl.Map {
	return [][]impl.Map{
		nil,
		{},
		listOf("0", "00"),
		listOf("10", "00", "01", "11", "10", "000"),
		listOf("0", "0", "0", "0", "0", "0", "0"),
		listOf("012", "012", "012", "012", "012", "012", "012", "012", "012"),
		append(largeLists()[1], digits("0")),
		slices.Concat(largeLists()[1], largeLists()[0]),
	}
}

// ofMaps, ofNumbers, ofNumber, ofMap and ofBool tell of a call its code and whether its result is
// the zero value.
func ofMaps(maps []impl.Map, code int64) (int64, bool) { return code, len(maps) == 0 }

func ofNumbers(numbers []int64, code int64) (int64, bool) { return code, len(numbers) == 0 }

func ofNumber(number int64, code int64) (int64, bool) { return code, number == 0 }

func ofMap(f impl.Map, code int64) (int64, bool) { return code, f == impl.Map{} }

func ofBool(yes bool, code int64) (int64, bool) { return code, !yes }

func checkFails(t *testing.T, what string, call func() (int64, bool), want int64) {
	t.Helper()
	code, zero := call()
	if code != want || !zero {
		t.Errorf("%s: code %d, zero value %v, want code %d", what, code, zero, want)
	}
}

// checkOwn writes to the result of a call, and calls again.
func checkOwn[T comparable](t *testing.T, what string, call func() ([]T, int64)) {
	t.Helper()
	first, _ := call()
	want := slices.Clone(first)
	clear(first)
	again, _ := call()
	if !slices.Equal(again, want) {
		t.Errorf("%s = %v the second time, and %v the first time", what, again, want)
	}
}

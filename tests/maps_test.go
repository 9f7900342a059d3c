package tests

import (
	"fmt"
	"slices"
	"testing"

	"loop.example/g01359/impl"
)

// byHand is the product told point by point.
func byHand(f impl.Map, g impl.Map) impl.Map {
	h := impl.Map{Points: f.Points}
	for i := range f.Points {
		h.To[i] = g.To[f.To[i]]
	}
	return h
}

// powersByHand are the powers of f with the numbers 0 to most.
func powersByHand(f impl.Map, most int) []impl.Map {
	powers := []impl.Map{{Points: f.Points}}
	for i := range f.Points {
		powers[0].To[i] = i
	}
	for range most {
		powers = append(powers, byHand(powers[len(powers)-1], f))
	}
	return powers
}

func imagesByHand(f impl.Map) []int64 {
	images := slices.Clone(f.To[:f.Points])
	slices.Sort(images)
	return slices.Compact(images)
}

// checkBrackets checks that (f g) h is f (g h).
func checkBrackets(t *testing.T, f impl.Map, g impl.Map, h impl.Map) {
	t.Helper()
	fg, code1 := impl.ProductOf(f, g)
	gh, code2 := impl.ProductOf(g, h)
	left, code3 := impl.ProductOf(fg, h)
	right, code4 := impl.ProductOf(f, gh)
	if code1 != impl.ErrNone || code2 != impl.ErrNone || code3 != impl.ErrNone || code4 != impl.ErrNone || left != right || !impl.IsMap(left) {
		t.Fatalf("brackets of %v, %v, %v: %v and %v", f, g, h, left, right)
	}
}

func TestPromise1ProductsDoNotDependOnBrackets(t *testing.T) {
	for n := int64(1); n <= 3; n++ {
		maps := allMaps(n)
		for _, f := range maps {
			for _, g := range maps {
				for _, h := range maps {
					checkBrackets(t, f, g, h)
				}
			}
		}
	}
	for n := int64(4); n <= impl.MaxPoints; n++ {
		maps := allMaps(n)
		for i := range 20000 {
			checkBrackets(t, maps[i*7%len(maps)], maps[i*11%len(maps)], maps[i*i%len(maps)])
		}
	}
}

func TestPromise1IdempotentPowersAreIdempotent(t *testing.T) {
	for _, f := range mapsUpTo(impl.MaxPoints) {
		e, code := impl.IdempotentPower(f)
		checkCode(t, "IdempotentPower", code, impl.ErrNone)
		if yes, code := impl.IsIdempotent(e); !yes || code != impl.ErrNone {
			t.Fatalf("IdempotentPower(%v) = %v: idempotent %v, code %d", f, e, yes, code)
		}
		if square, _ := impl.ProductOf(e, e); square != e {
			t.Fatalf("IdempotentPower(%v) = %v, with the square %v", f, e, square)
		}
		if !slices.Contains(powersByHand(f, 12)[1:], e) {
			t.Fatalf("IdempotentPower(%v) = %v, which is none of its powers", f, e)
		}
	}
}

func TestPromise1MapsComeBackFromTheirTexts(t *testing.T) {
	texts := map[string]bool{}
	for _, f := range mapsUpTo(impl.MaxPoints) {
		text, code := impl.MapText(f)
		checkCode(t, "MapText", code, impl.ErrNone)
		back, code := impl.ParseMap(text)
		if back != f || code != impl.ErrNone {
			t.Fatalf("ParseMap(%q) = %v, %d, want %v", text, back, code, f)
		}
		if texts[text] || int64(len(text)) != f.Points {
			t.Fatalf("MapText(%v) = %q", f, text)
		}
		texts[text] = true
	}
}

func TestRanksOfProductsAreAtMostThoseOfBothMaps(t *testing.T) {
	for _, n := range []int64{3, 4} {
		for _, f := range allMaps(n) {
			for _, g := range allMaps(n) {
				h, _ := impl.ProductOf(f, g)
				a, _ := impl.RankOf(f)
				b, _ := impl.RankOf(g)
				if c, code := impl.RankOf(h); c > min(a, b) || c < 1 || code != impl.ErrNone {
					t.Fatalf("ranks of %v, %v and their product: %d, %d, %d", f, g, a, b, c)
				}
			}
		}
	}
}

func TestConstants(t *testing.T) {
	got := []int64{impl.ErrNone, impl.ErrInvalid, impl.ErrRange, impl.ErrLimit, impl.ErrNotFound, impl.ErrState, impl.ErrSyntax, impl.MaxPoints, impl.MaxGenerators}
	checkList(t, "constants", got, []int64{0, 1, 2, 3, 4, 5, 6, 5, 6})
}

func TestIsMap(t *testing.T) {
	for _, f := range mapsUpTo(impl.MaxPoints) {
		if !impl.IsMap(f) {
			t.Errorf("IsMap(%v) = false", f)
		}
	}
	for _, f := range noMaps() {
		if impl.IsMap(f) {
			t.Errorf("IsMap(%v) = true", f)
		}
	}
}

func TestMapOfAndImagesOf(t *testing.T) {
	for _, f := range mapsUpTo(impl.MaxPoints) {
		images, code := impl.ImagesOf(f)
		checkCode(t, "ImagesOf", code, impl.ErrNone)
		checkList(t, "ImagesOf", images, f.To[:f.Points])
		back, code := impl.MapOf(images)
		checkCode(t, "MapOf", code, impl.ErrNone)
		checkMap(t, "MapOf", back, f)
	}
	for _, images := range [][]int64{nil, {}, {1}, {-1}, {0, 2}, {0, 1, 3}, {0, 0, 0, -1}, {0, 1, 2, 3, 5}, {0, 0, 0, 0, 0, 0}, {0, 1 << 62}, make([]int64, 1000)} {
		f, code := impl.MapOf(images)
		checkCode(t, fmt.Sprint("MapOf ", images), code, impl.ErrRange)
		checkMap(t, "MapOf", f, impl.Map{})
	}
}

func TestMapOfTakesNoneOfTheSpareCapacity(t *testing.T) {
	images := []int64{1, 0, 1, 1, 1, 1}
	f, code := impl.MapOf(images[:2])
	checkCode(t, "MapOf", code, impl.ErrNone)
	checkMap(t, "MapOf", f, digits("10"))
	checkList(t, "images behind MapOf", images, []int64{1, 0, 1, 1, 1, 1})
}

func TestProductOf(t *testing.T) {
	product, code := impl.ProductOf(digits("1201"), digits("0233"))
	checkCode(t, "ProductOf", code, impl.ErrNone)
	checkMap(t, "ProductOf", product, digits("2302"))
	for _, f := range mapsUpTo(3) {
		for _, g := range mapsUpTo(3) {
			product, code := impl.ProductOf(f, g)
			if f.Points != g.Points {
				checkCode(t, "ProductOf", code, impl.ErrRange)
				checkMap(t, "ProductOf", product, impl.Map{})
				continue
			}
			checkCode(t, "ProductOf", code, impl.ErrNone)
			checkMap(t, "ProductOf", product, byHand(f, g))
		}
	}
	product, _ = impl.ProductOf(digits("43210"), digits("11234"))
	checkMap(t, "ProductOf", product, digits("43211"))
}

func TestPowerOf(t *testing.T) {
	for _, f := range mapsUpTo(4) {
		for k, want := range powersByHand(f, 20) {
			power, code := impl.PowerOf(f, int64(k))
			checkCode(t, "PowerOf", code, impl.ErrNone)
			checkMap(t, fmt.Sprint("PowerOf ", f, k), power, want)
		}
	}
	cases := []struct {
		text string
		k    int64
		want string
	}{
		{"0", 0, "0"},
		{"00000", 0, "01234"},
		{"11234", 4, "11234"},
		{"12344", 4, "44444"},
		{"12043", 1000000000000, "12034"}, // 1000000000000 is 4 more than a multiple of 6
		{"12043", 999999999999, "01243"},
		{"12340", 1000000000000, "01234"},
	}
	for _, c := range cases {
		power, code := impl.PowerOf(digits(c.text), c.k)
		checkCode(t, "PowerOf", code, impl.ErrNone)
		checkMap(t, fmt.Sprint("PowerOf ", c.text, " ", c.k), power, digits(c.want))
	}
	for _, k := range []int64{-1, -1 << 63, 1000000000001, 1<<63 - 1} {
		power, code := impl.PowerOf(digits("10"), k)
		checkCode(t, fmt.Sprint("PowerOf ", k), code, impl.ErrRange)
		checkMap(t, "PowerOf", power, impl.Map{})
	}
}

func TestRankOf(t *testing.T) {
	for _, f := range mapsUpTo(impl.MaxPoints) {
		rank, code := impl.RankOf(f)
		if rank != int64(len(imagesByHand(f))) || code != impl.ErrNone {
			t.Fatalf("RankOf(%v) = %d, %d", f, rank, code)
		}
	}
}

func TestImageOfAndPreimageOf(t *testing.T) {
	for _, f := range mapsUpTo(4) {
		for _, points := range subsets(f.Points) {
			var image, preimage []int64
			for p := range f.Points {
				leads := func(i int64) bool { return f.To[i] == p }
				if slices.ContainsFunc(points, leads) {
					image = append(image, p)
				}
				if slices.Contains(points, f.To[p]) {
					preimage = append(preimage, p)
				}
			}
			got, code := impl.ImageOf(f, points)
			checkCode(t, "ImageOf", code, impl.ErrNone)
			checkList(t, fmt.Sprint("ImageOf ", f, points), got, image)
			got, code = impl.PreimageOf(f, points)
			checkCode(t, "PreimageOf", code, impl.ErrNone)
			checkList(t, fmt.Sprint("PreimageOf ", f, points), got, preimage)
		}
	}
	got, _ := impl.ImageOf(digits("40312"), []int64{0, 1, 2, 3, 4})
	checkList(t, "ImageOf", got, []int64{0, 1, 2, 3, 4})
	got, _ = impl.PreimageOf(digits("44044"), []int64{4})
	checkList(t, "PreimageOf", got, []int64{0, 1, 3, 4})
}

func TestListsOfPointsThatAreNotAsTold(t *testing.T) {
	for _, text := range []string{"00", "1201", "43210"} {
		f := digits(text)
		for _, points := range badPointLists(f.Points) {
			got, code := impl.ImageOf(f, points)
			checkCode(t, fmt.Sprint("ImageOf ", text, points), code, impl.ErrRange)
			checkList(t, "ImageOf", got, nil)
			got, code = impl.PreimageOf(f, points)
			checkCode(t, fmt.Sprint("PreimageOf ", text, points), code, impl.ErrRange)
			checkList(t, "PreimageOf", got, nil)
		}
	}
}

func TestKernelOf(t *testing.T) {
	for _, c := range []struct {
		text string
		want []int64
	}{
		{"0", []int64{0}},
		{"1201", []int64{0, 1, 2, 0}},
		{"44444", []int64{0, 0, 0, 0, 0}},
		{"43210", []int64{0, 1, 2, 3, 4}},
		{"20212", []int64{0, 1, 0, 2, 0}},
		{"33011", []int64{0, 0, 1, 2, 2}},
	} {
		kernel, code := impl.KernelOf(digits(c.text))
		checkCode(t, "KernelOf", code, impl.ErrNone)
		checkList(t, "KernelOf "+c.text, kernel, c.want)
	}
	for _, f := range mapsUpTo(impl.MaxPoints) {
		kernel, _ := impl.KernelOf(f)
		next := int64(0)
		for i := range f.Points {
			want := next
			if before := slices.Index(f.To[:i], f.To[i]); before >= 0 {
				want = kernel[before]
			} else {
				next++
			}
			if kernel[i] != want {
				t.Fatalf("KernelOf(%v) = %v", f, kernel)
			}
		}
	}
}

func TestFixedPointsAndIsIdempotent(t *testing.T) {
	for _, f := range mapsUpTo(impl.MaxPoints) {
		var want []int64
		for i := range f.Points {
			if f.To[i] == i {
				want = append(want, i)
			}
		}
		fixed, code := impl.FixedPoints(f)
		checkCode(t, "FixedPoints", code, impl.ErrNone)
		checkList(t, fmt.Sprint("FixedPoints ", f), fixed, want)
		yes, code := impl.IsIdempotent(f)
		if yes != (byHand(f, f) == f) || code != impl.ErrNone {
			t.Fatalf("IsIdempotent(%v) = %v, %d", f, yes, code)
		}
	}
}

// indexByHand looks for the least k whose power is that of a greater number, and the least period.
// All indices are at most 4, all periods at most 6.
func indexByHand(powers []impl.Map) (int64, int64) {
	for k := range powers {
		for p := 1; k+p < len(powers); p++ {
			if powers[k] == powers[k+p] {
				return int64(k), int64(p)
			}
		}
	}
	return -1, -1
}

func TestIndexAndPeriod(t *testing.T) {
	for _, f := range mapsUpTo(impl.MaxPoints) {
		wantIndex, wantPeriod := indexByHand(powersByHand(f, 20))
		index, period, code := impl.IndexAndPeriod(f)
		if index != wantIndex || period != wantPeriod || code != impl.ErrNone {
			t.Fatalf("IndexAndPeriod(%v) = %d, %d, %d, want %d, %d", f, index, period, code, wantIndex, wantPeriod)
		}
	}
	for _, c := range []struct {
		text          string
		index, period int64
	}{{"0", 0, 1}, {"01234", 0, 1}, {"12043", 0, 6}, {"00123", 4, 1}, {"00000", 1, 1}, {"10023", 3, 2}} {
		index, period, _ := impl.IndexAndPeriod(digits(c.text))
		if index != c.index || period != c.period {
			t.Errorf("IndexAndPeriod(%s) = %d, %d", c.text, index, period)
		}
	}
}

func TestCyclicPoints(t *testing.T) {
	for _, f := range mapsUpTo(impl.MaxPoints) {
		var want []int64
		for i := range f.Points {
			returns := func(g impl.Map) bool { return g.To[i] == i }
			if slices.ContainsFunc(powersByHand(f, 6)[1:], returns) {
				want = append(want, i)
			}
		}
		cyclic, code := impl.CyclicPoints(f)
		checkCode(t, "CyclicPoints", code, impl.ErrNone)
		checkList(t, fmt.Sprint("CyclicPoints ", f), cyclic, want)
	}
}

func TestIdempotentPower(t *testing.T) {
	for _, c := range []struct{ text, want string }{
		{"0", "0"},
		{"1201", "0120"},
		{"12043", "01234"},
		{"00123", "00000"},
		{"00", "00"},
	} {
		e, code := impl.IdempotentPower(digits(c.text))
		checkCode(t, "IdempotentPower", code, impl.ErrNone)
		checkMap(t, "IdempotentPower "+c.text, e, digits(c.want))
	}
}

func TestInverseOf(t *testing.T) {
	for _, f := range mapsUpTo(impl.MaxPoints) {
		inverse, code := impl.InverseOf(f)
		if len(imagesByHand(f)) < int(f.Points) {
			checkCode(t, fmt.Sprint("InverseOf ", f), code, impl.ErrState)
			checkMap(t, "InverseOf", inverse, impl.Map{})
			continue
		}
		checkCode(t, "InverseOf", code, impl.ErrNone)
		checkMap(t, fmt.Sprint("f with InverseOf ", f), byHand(f, inverse), powersByHand(f, 0)[0])
	}
}

func TestRenumberMap(t *testing.T) {
	for n := int64(1); n <= 4; n++ {
		for _, f := range allMaps(n) {
			for _, p := range allMaps(n) {
				renumbered, code := impl.RenumberMap(f, p)
				if len(imagesByHand(p)) < int(n) {
					checkCode(t, fmt.Sprint("RenumberMap ", f, p), code, impl.ErrState)
					checkMap(t, "RenumberMap", renumbered, impl.Map{})
					continue
				}
				checkCode(t, "RenumberMap", code, impl.ErrNone)
				checkMap(t, fmt.Sprint("p with RenumberMap ", f, p), byHand(p, renumbered), byHand(f, p))
			}
		}
	}
	renumbered, _ := impl.RenumberMap(digits("11234"), digits("12340"))
	checkMap(t, "RenumberMap", renumbered, digits("02234"))
}

func TestCompareMaps(t *testing.T) {
	maps := mapsUpTo(3) // in their order
	for i, f := range maps {
		for k, g := range maps {
			want := int64(0)
			if i < k {
				want = -1
			} else if i > k {
				want = 1
			}
			order, code := impl.CompareMaps(f, g)
			if order != want || code != impl.ErrNone {
				t.Fatalf("CompareMaps(%v, %v) = %d, %d", f, g, order, code)
			}
		}
	}
	for _, c := range []struct {
		f, g string
		want int64
	}{{"01234", "01240", -1}, {"43210", "43201", 1}, {"3333", "00000", -1}, {"00000", "3333", 1}, {"44444", "44444", 0}} {
		if order, _ := impl.CompareMaps(digits(c.f), digits(c.g)); order != c.want {
			t.Errorf("CompareMaps(%s, %s) = %d", c.f, c.g, order)
		}
	}
}

func TestMapText(t *testing.T) {
	for _, want := range []string{"0", "10", "120", "1201", "43210", "00000"} {
		if text, code := impl.MapText(digits(want)); text != want || code != impl.ErrNone {
			t.Errorf("MapText = %q, %d, want %q", text, code, want)
		}
	}
}

func TestParseMap(t *testing.T) {
	for _, text := range []string{"0", "10", "120", "1201", "43210"} {
		f, code := impl.ParseMap(text)
		checkCode(t, "ParseMap", code, impl.ErrNone)
		checkMap(t, "ParseMap", f, digits(text))
	}
	for _, text := range []string{"", "1", "02", "543210", "000000", "01235", "0x", "-0", " 0", "0 ", "0\n", "\x000", "0,1", "0/", "0:", "٠", "0\xff", "１０"} {
		f, code := impl.ParseMap(text)
		checkCode(t, fmt.Sprintf("ParseMap(%q)", text), code, impl.ErrSyntax)
		checkMap(t, "ParseMap", f, impl.Map{})
	}
}

// TestNoMapsAreInvalid also gives wrong numbers, lists and other maps, which are checked later.
func TestNoMapsAreInvalid(t *testing.T) {
	for _, bad := range noMaps() {
		checkInvalidMap(t, bad, "ProductOf")(impl.ProductOf(bad, digits("0")))
		checkInvalidMap(t, bad, "ProductOf")(impl.ProductOf(digits("0"), bad))
		checkInvalidMap(t, bad, "PowerOf")(impl.PowerOf(bad, 1))
		checkInvalidMap(t, bad, "PowerOf")(impl.PowerOf(bad, -1))
		checkInvalidMap(t, bad, "IdempotentPower")(impl.IdempotentPower(bad))
		checkInvalidMap(t, bad, "InverseOf")(impl.InverseOf(bad))
		checkInvalidMap(t, bad, "RenumberMap")(impl.RenumberMap(bad, digits("00")))
		checkInvalidMap(t, bad, "RenumberMap")(impl.RenumberMap(digits("00"), bad))
		checkInvalidList(t, bad, "ImagesOf")(impl.ImagesOf(bad))
		checkInvalidList(t, bad, "ImageOf")(impl.ImageOf(bad, nil))
		checkInvalidList(t, bad, "ImageOf")(impl.ImageOf(bad, []int64{-1}))
		checkInvalidList(t, bad, "KernelOf")(impl.KernelOf(bad))
		checkInvalidList(t, bad, "FixedPoints")(impl.FixedPoints(bad))
		checkInvalidList(t, bad, "CyclicPoints")(impl.CyclicPoints(bad))
		checkInvalidList(t, bad, "PreimageOf")(impl.PreimageOf(bad, nil))
		checkInvalidList(t, bad, "PreimageOf")(impl.PreimageOf(bad, []int64{9}))
		rank, code := impl.RankOf(bad)
		checkInvalid(t, bad, "RankOf", code, rank == 0)
		yes, code := impl.IsIdempotent(bad)
		checkInvalid(t, bad, "IsIdempotent", code, !yes)
		index, period, code := impl.IndexAndPeriod(bad)
		checkInvalid(t, bad, "IndexAndPeriod", code, index == 0 && period == 0)
		order, code := impl.CompareMaps(bad, digits("10"))
		checkInvalid(t, bad, "CompareMaps", code, order == 0)
		order, code = impl.CompareMaps(digits("10"), bad)
		checkInvalid(t, bad, "CompareMaps", code, order == 0)
		text, code := impl.MapText(bad)
		checkInvalid(t, bad, "MapText", code, text == "")
	}
}

func checkInvalid(t *testing.T, bad impl.Map, what string, code int64, zero bool) {
	t.Helper()
	if code != impl.ErrInvalid || !zero {
		t.Errorf("%s with %v: code %d, zero values %v", what, bad, code, zero)
	}
}

func checkInvalidMap(t *testing.T, bad impl.Map, what string) func(impl.Map, int64) {
	return func(f impl.Map, code int64) {
		t.Helper()
		checkInvalid(t, bad, what, code, f == impl.Map{})
	}
}

func checkInvalidList(t *testing.T, bad impl.Map, what string) func([]int64, int64) {
	return func(list []int64, code int64) {
		t.Helper()
		checkInvalid(t, bad, what, code, len(list) == 0)
	}
}

func TestNumbersOfPointsComeBeforePermutations(t *testing.T) {
	renumbered, code := impl.RenumberMap(digits("120"), digits("00"))
	checkCode(t, "RenumberMap", code, impl.ErrRange)
	checkMap(t, "RenumberMap", renumbered, impl.Map{})
	_, code = impl.RenumberMap(digits("120"), digits("10"))
	checkCode(t, "RenumberMap", code, impl.ErrRange)
}

// TestResultsShareNoMemory writes to the arguments and the results, and calls again.
func TestResultsShareNoMemory(t *testing.T) {
	f := digits("01234")
	store := []int64{0, 1, 2, 7, 7, 7, 7, 7}
	points := store[:3]
	calls := []func() ([]int64, int64){
		func() ([]int64, int64) { return impl.ImagesOf(f) },
		func() ([]int64, int64) { return impl.ImageOf(f, points) },
		func() ([]int64, int64) { return impl.PreimageOf(f, points) },
		func() ([]int64, int64) { return impl.KernelOf(f) },
		func() ([]int64, int64) { return impl.FixedPoints(f) },
		func() ([]int64, int64) { return impl.CyclicPoints(f) },
	}
	for i, call := range calls {
		first, _ := call()
		want := slices.Clone(first)
		for k := range first {
			first[k] = 9
		}
		again, code := call()
		checkCode(t, fmt.Sprint("call ", i), code, impl.ErrNone)
		checkList(t, fmt.Sprint("call ", i), again, want)
		checkList(t, "the list behind the argument", store, []int64{0, 1, 2, 7, 7, 7, 7, 7})
		store[0] = 1
		store[1] = 3
		checkList(t, fmt.Sprint("call ", i, " after its argument has changed"), again, want)
		copy(store, []int64{0, 1})
	}
}

package tests

import (
	"fmt"
	"slices"
	"testing"

	"loop.example/g01359/impl"
)

// tableOf makes a table of rows of digits.
func tableOf(rows ...string) [][]int64 {
	var table [][]int64
	for _, row := range rows {
		var numbers []int64
		for i := range len(row) {
			numbers = append(numbers, int64(row[i]-'0'))
		}
		table = append(table, numbers)
	}
	return table
}

func tableWhere(n int64, product func(a int64, b int64) int64) [][]int64 {
	var table [][]int64
	for a := range n {
		var row []int64
		for b := range n {
			row = append(row, product(a, b))
		}
		table = append(table, row)
	}
	return table
}

// firsts and seconds have the first, or the second, number of two as their product, so that each
// arrangement is an isomorphism of them; sums are a group.
func firsts(n int64) [][]int64 { return tableWhere(n, func(a, b int64) int64 { return a }) }

func seconds(n int64) [][]int64 { return tableWhere(n, func(a, b int64) int64 { return b }) }

func sums(n int64) [][]int64 { return tableWhere(n, func(a, b int64) int64 { return (a + b) % n }) }

func greatest(n int64) [][]int64 { return tableWhere(n, func(a, b int64) int64 { return max(a, b) }) }

func always(n int64, c int64) [][]int64 { return tableWhere(n, func(a, b int64) int64 { return c }) }

// withProduct is a table with one product changed.
func withProduct(table [][]int64, a int64, b int64, product int64) [][]int64 {
	changed := cloneTable(table)
	changed[a][b] = product
	return changed
}

func cloneTable(table [][]int64) [][]int64 {
	var clone [][]int64
	for _, row := range table {
		clone = append(clone, slices.Clone(row))
	}
	return clone
}

// renumbered is the table that has p as an isomorphism to it.
func renumbered(table [][]int64, p []int64) [][]int64 {
	other := cloneTable(table)
	for a, row := range table {
		for b, product := range row {
			other[p[a]][p[b]] = p[product]
		}
	}
	return other
}

// allTables are the tables of n numbers.
func allTables(n int64) [][][]int64 {
	var tables [][][]int64
	all := [][]int64{{}}
	for range n * n {
		var longer [][]int64
		for _, products := range all {
			for product := range n {
				longer = append(longer, append(slices.Clone(products), product))
			}
		}
		all = longer
	}
	for _, products := range all {
		tables = append(tables, tableWhere(n, func(a, b int64) int64 { return products[a*n+b] }))
	}
	return tables
}

// scattered are tables with products in no order.
func scattered(n int64) [][][]int64 {
	var tables [][][]int64
	state := uint64(n)
	next := func(below int64) int64 {
		state = state*6364136223846793005 + 1442695040888963407
		return int64(state>>33) % below
	}
	for _, base := range [][][]int64{sums(n), firsts(n), seconds(n), greatest(n), always(n, n-1), always(n, 0)} {
		for changes := range 6 {
			table := cloneTable(base)
			for range changes {
				table[next(n)][next(n)] = next(n)
			}
			tables = append(tables, table)
		}
	}
	return append(tables, tableWhere(n, func(a, b int64) int64 { return next(n) }))
}

// someTables are tables of 1 to 6 numbers: all of those of one and two, some of three, scattered
// ones, and those of lists.
func someTables() [][][]int64 {
	tables := slices.Concat(allTables(1), allTables(2))
	for i, table := range allTables(3) {
		if i%97 == 0 {
			tables = append(tables, table)
		}
	}
	for n := int64(3); n <= 6; n++ {
		tables = append(tables, scattered(n)...)
	}
	for _, m := range pairedMonoids(6) {
		tables = append(tables, m.products)
	}
	return tables
}

// tabledMonoids are different monoids of at most MaxTable elements, the last ones of just as many.
func tabledMonoids() []pairedByHand {
	monoids := pairedMonoids(impl.MaxTable)
	for _, list := range listsOfMaxTable() {
		monoids = append(monoids, pairByHand(list))
	}
	return monoids
}

// listsOfMaxTable make monoids of just MaxTable elements.
func listsOfMaxTable() [][]impl.Map {
	return [][]impl.Map{listOf("2310", "1222"), listOf("01103", "30224"), listOf("3202", "3300", "3313")}
}

// listsAboveTable make monoids of more than MaxTable elements, the first ones just one more.
func listsAboveTable() [][]impl.Map {
	return [][]impl.Map{
		listOf("2331", "2330"),
		listOf("00320", "04421", "02112"),
		listOf("12340", "10234"),
		listOf("1230", "1023", "0012"),
		listOfMaxElements(),
	}
}

// arrangements are the lists of the numbers 0 to n - 1, each once, in lexicographic order.
func arrangements(n int) [][]int64 {
	all := [][]int64{{}}
	for range n {
		var longer [][]int64
		for _, p := range all {
			for number := range int64(n) {
				if !slices.Contains(p, number) {
					longer = append(longer, append(slices.Clone(p), number))
				}
			}
		}
		all = longer
	}
	return all
}

func isIsomorphismByHand(a [][]int64, b [][]int64, p []int64) bool {
	return slices.EqualFunc(renumbered(a, p), b, slices.Equal)
}

// isomorphismsByHand are the isomorphisms of two tables, in lexicographic order.
func isomorphismsByHand(a [][]int64, b [][]int64) [][]int64 {
	var all [][]int64
	if len(a) != len(b) {
		return all
	}
	for _, p := range arrangements(len(a)) {
		if isIsomorphismByHand(a, b, p) {
			all = append(all, p)
		}
	}
	return all
}

func dependsOnBrackets(table [][]int64) bool {
	for a := range table {
		for b := range table {
			for c := range table {
				if table[table[a][b]][c] != table[a][table[b][c]] {
					return true
				}
			}
		}
	}
	return false
}

// identityOfTable is -1 if there is none.
func identityOfTable(table [][]int64) int64 {
	all := trivialClasses(len(table))
	for e, row := range table {
		var column []int64
		for a := range table {
			column = append(column, table[a][e])
		}
		if slices.Equal(row, all) && slices.Equal(column, all) {
			return int64(e)
		}
	}
	return -1
}

func isMonoidByHand(table [][]int64) bool {
	return identityOfTable(table) >= 0 && !dependsOnBrackets(table)
}

// productByHand puts parts together in the order of numbers.
func productByHand(a [][]int64, b [][]int64) [][]int64 {
	var table [][]int64
	for _, rowOfA := range a {
		for _, rowOfB := range b {
			var row []int64
			for _, x := range rowOfA {
				for _, y := range rowOfB {
					row = append(row, int64(len(b))*x+y)
				}
			}
			table = append(table, row)
		}
	}
	return table
}

func oppositeByHand(table [][]int64) [][]int64 {
	return tableWhere(int64(len(table)), func(a, b int64) int64 { return table[b][a] })
}

func checkTable(t *testing.T, what string, want [][]int64) func(table [][]int64, code int64) {
	t.Helper()
	return func(table [][]int64, code int64) {
		t.Helper()
		checkCode(t, what, code, impl.ErrNone)
		checkLists(t, what, table, want)
	}
}

func TestPromise8TablesOfListsAreMonoids(t *testing.T) {
	greatest := 0
	for _, m := range tabledMonoids() {
		table, code := impl.TableOf(m.list)
		checkCode(t, fmt.Sprint("TableOf ", m.list), code, impl.ErrNone)
		checkLists(t, fmt.Sprint("TableOf ", m.list), table, m.products)
		checkValue(t, fmt.Sprint("IsMonoidTable ", table), true)(impl.IsMonoidTable(table))
		if !isMonoidByHand(table) {
			t.Fatalf("TableOf(%v) = %v is no monoid", m.list, table)
		}
		elements, _ := impl.ElementsOf(m.list)
		identity := slices.Index(elements, identityByHand(m.list[0].Points))
		checkValue(t, fmt.Sprint("IdentityOf ", table), int64(identity))(impl.IdentityOf(table))
		greatest = max(greatest, len(table))
	}
	if greatest != impl.MaxTable || impl.MaxTable != 40 || impl.MaxAlike != 10 {
		t.Error("the greatest table has", greatest, "numbers, and the limits are", impl.MaxTable, impl.MaxAlike)
	}
}

// checkIsomorphisms checks what the functions say of isomorphisms of two tables of up to 6 numbers, and
// tells how many there are.
func checkIsomorphisms(t *testing.T, a [][]int64, b [][]int64) int {
	t.Helper()
	all := isomorphismsByHand(a, b)
	found, code := impl.FindIsomorphism(a, b)
	what := fmt.Sprint("FindIsomorphism ", a, b)
	if len(all) == 0 {
		checkCode(t, what, code, impl.ErrNotFound)
		checkList(t, what, found, nil)
		return 0
	}
	checkCode(t, what, code, impl.ErrNone)
	checkList(t, what, found, all[0])
	checkValue(t, fmt.Sprint("IsIsomorphism ", a, b, found), true)(impl.IsIsomorphism(a, b, found))
	return len(all)
}

func TestPromise8FoundIsomorphismsAreIsomorphisms(t *testing.T) {
	later := 0
	for i, table := range someTables() {
		all := arrangements(len(table))
		for k := i % 7; k < len(all); k += 1 + len(all)/4 {
			other := renumbered(table, all[k])
			if checkIsomorphisms(t, table, other) == 0 {
				t.Fatalf("no isomorphism of %v and %v by hand", table, other)
			}
			if found, _ := impl.FindIsomorphism(table, other); found[0] > 0 {
				later++
			}
		}
	}
	if later < 200 {
		t.Error("only", later, "isomorphisms do not begin with 0")
	}
}

func TestTablesThatAreAlikeAndOthers(t *testing.T) {
	alike, other := 0, 0
	check := func(tables [][][]int64) {
		for _, a := range tables {
			for _, b := range tables {
				if checkIsomorphisms(t, a, b) > 0 {
					alike++
				} else {
					other++
				}
			}
		}
	}
	check(slices.Concat(allTables(1), allTables(2), scattered(3)))
	var ofThree [][][]int64
	for i, table := range allTables(3) {
		if i%131 == 0 {
			ofThree = append(ofThree, table, renumbered(table, []int64{2, 0, 1}))
		}
	}
	check(ofThree)
	check(scattered(4))
	check(scattered(5)[6:])
	if alike < 500 || other < 5000 {
		t.Error("only", alike, "pairs of tables are isomorphic, or only", other, "are not")
	}
}

// TestTablesThatDifferByOneProduct has tables that are isomorphic but for one product, which may be
// met last.
func TestTablesThatDifferByOneProduct(t *testing.T) {
	missing := 0
	for _, table := range slices.Concat(scattered(4)[:30], [][][]int64{sums(4), greatest(4), tableOf("0123", "1032", "2301", "3210")}) {
		other := renumbered(table, []int64{2, 3, 1, 0})
		for at := range int64(16) {
			for product := range int64(4) {
				if checkIsomorphisms(t, table, withProduct(other, at/4, at%4, product)) == 0 {
					missing++
				}
			}
		}
	}
	if missing < 1000 {
		t.Error("only", missing, "pairs of tables are not isomorphic")
	}
}

func TestPromise12IdempotentElementsAreTheIdempotentNumbersOfTables(t *testing.T) {
	for _, m := range tabledMonoids() {
		table, _ := impl.TableOf(m.list)
		numbers, code := impl.IdempotentNumbers(table)
		checkCode(t, fmt.Sprint("IdempotentNumbers ", table), code, impl.ErrNone)
		idempotents, _ := impl.IdempotentsOf(m.list)
		elements, _ := impl.ElementsOf(m.list)
		var want []int64
		for _, f := range idempotents {
			want = append(want, int64(slices.Index(elements, f)))
		}
		checkList(t, fmt.Sprint("IdempotentNumbers of ", m.list), numbers, want)
		for number, f := range elements {
			if idempotent, _ := impl.IsIdempotent(f); idempotent != slices.Contains(numbers, int64(number)) {
				t.Fatalf("IdempotentNumbers of %v = %v, and IsIdempotent(%v) = %v", m.list, numbers, f, idempotent)
			}
		}
	}
}

func TestPromise13QuotientTablesOfCongruencesAreMonoids(t *testing.T) {
	smaller := 0
	for _, m := range pairedMonoids(impl.MaxPaired) {
		congruences := [][]int64{trivialClasses(len(m.products)), make([]int64, len(m.products))}
		pairs, _ := impl.PairCongruences(m.list)
		for _, i := range some(len(pairs)) {
			congruences = append(congruences, pairs[i])
		}
		for _, classes := range congruences {
			table, code := impl.QuotientTable(m.list, classes)
			checkCode(t, fmt.Sprint("QuotientTable ", m.list, classes), code, impl.ErrNone)
			checkValue(t, fmt.Sprint("IsMonoidTable ", table), true)(impl.IsMonoidTable(table))
			if !isMonoidByHand(table) {
				t.Fatalf("QuotientTable(%v, %v) = %v is no monoid", m.list, classes, table)
			}
			identity := classes[identityOfTable(m.products)]
			checkValue(t, fmt.Sprint("IdentityOf ", table), identity)(impl.IdentityOf(table))
			if n := len(table); n > 1 && n < len(m.products) {
				smaller++
			}
		}
	}
	if smaller < 200 {
		t.Error("only", smaller, "quotients lie between the monoid and one class")
	}
}

// checkOneTable compares what is told of a table with what is found by hand.
func checkOneTable(t *testing.T, table [][]int64) {
	t.Helper()
	monoid := isMonoidByHand(table)
	checkValue(t, fmt.Sprint("IsMonoidTable ", table), monoid)(impl.IsMonoidTable(table))
	identity, code := impl.IdentityOf(table)
	switch want := identityOfTable(table); {
	case want < 0:
		checkFails(t, fmt.Sprint("IdentityOf ", table), func() (int64, bool) { return ofNumber(identity, code) }, impl.ErrNotFound)
	default:
		checkValue(t, fmt.Sprint("IdentityOf ", table), want)(identity, code)
	}
	var idempotents []int64
	for a, row := range table {
		if row[a] == int64(a) {
			idempotents = append(idempotents, int64(a))
		}
	}
	numbers, code := impl.IdempotentNumbers(table)
	checkCode(t, "IdempotentNumbers", code, impl.ErrNone)
	checkList(t, fmt.Sprint("IdempotentNumbers ", table), numbers, idempotents)
	opposite, code := impl.OppositeTable(table)
	checkCode(t, "OppositeTable", code, impl.ErrNone)
	checkLists(t, fmt.Sprint("OppositeTable ", table), opposite, oppositeByHand(table))
	checkTable(t, fmt.Sprint("OppositeTable ", opposite), table)(impl.OppositeTable(opposite))
	checkMapsOfTable(t, table, monoid)
}

func checkMapsOfTable(t *testing.T, table [][]int64, monoid bool) {
	t.Helper()
	maps, code := impl.MapsOfTable(table)
	what := fmt.Sprint("MapsOfTable ", table)
	if n := len(table); n > impl.MaxPoints || !monoid {
		want := int64(impl.ErrState)
		if n > impl.MaxPoints {
			want = impl.ErrLimit
		}
		checkFails(t, what, func() (int64, bool) { return ofMaps(maps, code) }, want)
		return
	}
	var want []impl.Map
	for a := range table {
		f := impl.Map{Points: int64(len(table))}
		for x := range table {
			f.To[x] = table[x][a]
		}
		want = append(want, f)
	}
	checkCode(t, what, code, impl.ErrNone)
	checkMaps(t, what, maps, want)
	for a, f := range maps {
		for b, g := range maps {
			product, code := impl.ProductOf(f, g)
			checkCode(t, "ProductOf", code, impl.ErrNone)
			checkMap(t, fmt.Sprint(what, " with the product of ", a, b), product, maps[table[a][b]])
		}
	}
	if table, code := impl.TableOf(maps); code != impl.ErrNone || len(table) != len(maps) {
		t.Errorf("TableOf(%v) = %v, %d", maps, table, code)
	}
}

func TestTablesByHand(t *testing.T) {
	tables := slices.Concat(someTables(), allTables(3), scattered(10), scattered(39), scattered(impl.MaxTable))
	monoids := 0
	for _, table := range tables {
		checkOneTable(t, table)
		if isMonoidByHand(table) {
			monoids++
		}
	}
	if monoids < 50 {
		t.Error("only", monoids, "tables are monoids")
	}
	for _, m := range tabledMonoids() {
		checkOneTable(t, m.products)
	}
}

// TestMonoidsWithOneProductChanged has tables that are nearly monoids.
func TestMonoidsWithOneProductChanged(t *testing.T) {
	for _, table := range [][][]int64{greatest(5), sums(5), sums(7), pairByHand(listOf("120", "102")).products, tableOf("0123", "1111", "2222", "3333")} {
		n := int64(len(table))
		for at := range n * n {
			for product := range n {
				checkOneTable(t, withProduct(table, at/n, at%n, product))
			}
		}
	}
	for _, table := range [][][]int64{sums(impl.MaxTable), greatest(impl.MaxTable)} {
		for _, at := range []int64{0, 1, 38, 39} {
			checkOneTable(t, withProduct(table, at, 39, 17))
			checkOneTable(t, withProduct(table, 39, at, 17))
		}
	}
}

func TestKnownTables(t *testing.T) {
	for _, k := range []struct {
		list []impl.Map
		want [][]int64
	}{
		{listOf("0"), tableOf("0")},
		{listOf("01234", "01234"), tableOf("0")},
		{listOf("10", "00"), tableOf("0033", "0123", "0213", "0303")},
		{listOf("10"), tableOf("01", "10")},
		{listOf("00", "11"), tableOf("002", "012", "022")},
		{listOf("120"), tableOf("012", "120", "201")},
	} {
		checkTable(t, fmt.Sprint("TableOf ", k.list), k.want)(impl.TableOf(k.list))
	}
	for _, k := range []struct {
		table       [][]int64
		monoid      bool
		identity    int64
		idempotents []int64
		maps        []impl.Map
	}{
		{tableOf("0"), true, 0, []int64{0}, listOf("0")},
		{tableOf("01", "10"), true, 0, []int64{0}, listOf("01", "10")},
		{tableOf("10", "01"), true, 1, []int64{1}, listOf("10", "01")},
		{tableOf("0033", "0123", "0213", "0303"), true, 1, []int64{0, 1, 3}, listOf("0000", "0123", "3210", "3333")},
		// No identity, or one on one side only.
		{firsts(3), false, -1, []int64{0, 1, 2}, nil},
		{seconds(3), false, -1, []int64{0, 1, 2}, nil},
		{always(2, 1), false, -1, []int64{1}, nil},
		{tableOf("11", "00"), false, -1, nil, nil},
		// An identity, but products that depend on brackets.
		{tableOf("012", "121", "200"), false, 0, []int64{0}, nil},
		{greatest(5), true, 0, []int64{0, 1, 2, 3, 4}, listOf("01234", "11234", "22234", "33334", "44444")},
		{sums(5), true, 0, []int64{0}, listOf("01234", "12340", "23401", "34012", "40123")},
	} {
		checkValue(t, fmt.Sprint("IsMonoidTable ", k.table), k.monoid)(impl.IsMonoidTable(k.table))
		if identity, code := impl.IdentityOf(k.table); code == impl.ErrNone && identity != k.identity || (code == impl.ErrNotFound) != (k.identity < 0) {
			t.Errorf("IdentityOf(%v) = %d, %d", k.table, identity, code)
		}
		numbers, _ := impl.IdempotentNumbers(k.table)
		checkList(t, fmt.Sprint("IdempotentNumbers ", k.table), numbers, k.idempotents)
		maps, _ := impl.MapsOfTable(k.table)
		checkMaps(t, fmt.Sprint("MapsOfTable ", k.table), maps, k.maps)
	}
}

// TestMonoidsOfMaxPointsAndMore has tables of one number more that are no monoids, which is checked
// later.
func TestMonoidsOfMaxPointsAndMore(t *testing.T) {
	for _, table := range [][][]int64{sums(5), greatest(5), tableOf("00000", "01234", "02222", "03333", "04444")} {
		maps, code := impl.MapsOfTable(table)
		if len(maps) != impl.MaxPoints || code != impl.ErrNone {
			t.Errorf("MapsOfTable(%v) = %v, %d", table, maps, code)
		}
	}
	for _, table := range [][][]int64{sums(6), greatest(6), firsts(6), always(6, 5), sums(40), seconds(40)} {
		checkFails(t, fmt.Sprint("MapsOfTable ", table), func() (int64, bool) { return ofMaps(impl.MapsOfTable(table)) }, impl.ErrLimit)
	}
	for _, table := range [][][]int64{firsts(5), always(5, 5-1), seconds(2), always(3, 0)} {
		checkFails(t, fmt.Sprint("MapsOfTable ", table), func() (int64, bool) { return ofMaps(impl.MapsOfTable(table)) }, impl.ErrState)
	}
}

func TestProductsOfTables(t *testing.T) {
	var tables [][][]int64
	for i, table := range someTables() {
		if i%13 == 0 {
			tables = append(tables, table)
		}
	}
	for _, a := range tables {
		for _, b := range tables {
			product, code := impl.ProductTable(a, b)
			checkCode(t, "ProductTable", code, impl.ErrNone)
			checkLists(t, fmt.Sprint("ProductTable ", a, b), product, productByHand(a, b))
			checkValue(t, fmt.Sprint("IsMonoidTable ", product), isMonoidByHand(a) && isMonoidByHand(b))(impl.IsMonoidTable(product))
			checkOtherOrder(t, a, b)
		}
	}
}

// checkOtherOrder checks that products are isomorphic in both orders.
func checkOtherOrder(t *testing.T, a [][]int64, b [][]int64) {
	t.Helper()
	ab, _ := impl.ProductTable(a, b)
	ba, code := impl.ProductTable(b, a)
	checkCode(t, "ProductTable", code, impl.ErrNone)
	var swapped []int64
	for x := range a {
		for y := range b {
			swapped = append(swapped, int64(y*len(a)+x))
		}
	}
	checkValue(t, fmt.Sprint("IsIsomorphism ", ab, ba, swapped), true)(impl.IsIsomorphism(ab, ba, swapped))
	if len(ab) > impl.MaxAlike {
		return
	}
	found, code := impl.FindIsomorphism(ab, ba)
	checkCode(t, fmt.Sprint("FindIsomorphism ", ab, ba), code, impl.ErrNone)
	checkValue(t, fmt.Sprint("IsIsomorphism ", ab, ba, found), true)(impl.IsIsomorphism(ab, ba, found))
}

func TestProductsOfMaxTableNumbersAndOfMore(t *testing.T) {
	for _, n := range [][2]int64{{40, 1}, {1, 40}, {8, 5}, {5, 8}, {20, 2}, {4, 10}, {6, 6}, {39, 1}, {13, 3}} {
		a, b := sums(n[0]), greatest(n[1])
		checkTable(t, fmt.Sprint("ProductTable ", n), productByHand(a, b))(impl.ProductTable(a, b))
		checkTable(t, fmt.Sprint("ProductTable ", n), productByHand(b, a))(impl.ProductTable(b, a))
	}
	for _, n := range [][2]int64{{40, 2}, {2, 21}, {6, 7}, {7, 6}, {40, 40}, {3, 14}} {
		a, b := sums(n[0]), greatest(n[1])
		checkFails(t, fmt.Sprint("ProductTable ", n), func() (int64, bool) { return ofLists(impl.ProductTable(a, b)) }, impl.ErrLimit)
	}
	checkTable(t, "ProductTable", tableOf("0123", "1032", "2301", "3210"))(impl.ProductTable(sums(2), sums(2)))
	checkTable(t, "ProductTable", tableOf("012345", "111444", "222555", "345012", "444111", "555222"))(
		impl.ProductTable(sums(2), tableOf("012", "111", "222")))
}

func TestIsIsomorphismByHand(t *testing.T) {
	yes := 0
	for i, a := range someTables() {
		all := arrangements(len(a))
		b := renumbered(a, all[i%len(all)])
		for _, p := range all {
			want := isIsomorphismByHand(a, b, p)
			checkValue(t, fmt.Sprint("IsIsomorphism ", a, b, p), want)(impl.IsIsomorphism(a, b, p))
			if want {
				yes++
			}
		}
	}
	if yes < 1000 {
		t.Error("only", yes, "isomorphisms")
	}
}

// TestIsIsomorphismOfGreaterTables has tables of more numbers than FindIsomorphism takes.
func TestIsIsomorphismOfGreaterTables(t *testing.T) {
	for _, n := range []int64{11, 37, impl.MaxTable} {
		var back, multiplied []int64
		for i := range n {
			back = append(back, n-1-i)
			multiplied = append(multiplied, 3*i%n)
		}
		checkValue(t, "IsIsomorphism", true)(impl.IsIsomorphism(sums(n), sums(n), multiplied))
		checkValue(t, "IsIsomorphism", false)(impl.IsIsomorphism(sums(n), sums(n), back))
		for _, table := range scattered(n) {
			other := renumbered(table, back)
			checkValue(t, "IsIsomorphism", true)(impl.IsIsomorphism(table, other, back))
			changed := withProduct(other, n-1, n-1, (other[n-1][n-1]+1)%n)
			checkValue(t, "IsIsomorphism", false)(impl.IsIsomorphism(table, changed, back))
			changed = withProduct(other, 0, n-1, (other[0][n-1]+1)%n)
			checkValue(t, "IsIsomorphism", false)(impl.IsIsomorphism(table, changed, back))
		}
	}
}

func TestKnownIsomorphisms(t *testing.T) {
	klein, four := tableOf("0123", "1032", "2301", "3210"), sums(4)
	sixOfTwo, _ := impl.ProductTable(sums(2), sums(3))
	permutations, _ := impl.TableOf(listOf("120", "102"))
	ten := sums(10)
	tenOfTwo := productByHand(sums(2), sums(5))
	for _, k := range []struct {
		a, b [][]int64
		want []int64
	}{
		{tableOf("0"), tableOf("0"), []int64{0}},
		{sums(2), tableOf("10", "01"), []int64{1, 0}},
		{klein, four, nil},
		{klein, klein, []int64{0, 1, 2, 3}},
		{four, tableOf("0123", "1032", "2310", "3201"), []int64{0, 2, 1, 3}},
		{sixOfTwo, sums(6), []int64{0, 2, 4, 3, 5, 1}},
		{sums(6), sixOfTwo, []int64{0, 4, 2, 3, 1, 5}},
		{permutations, sums(6), nil},
		{permutations, oppositeByHand(permutations), []int64{0, 1, 2, 4, 3, 5}},
		{firsts(2), seconds(2), nil},
		{firsts(10), firsts(10), []int64{0, 1, 2, 3, 4, 5, 6, 7, 8, 9}},
		{firsts(10), seconds(10), nil},
		{firsts(10), withProduct(firsts(10), 9, 8, 8), nil},
		{withProduct(firsts(10), 9, 8, 8), firsts(10), nil},
		{withProduct(seconds(10), 9, 8, 9), withProduct(seconds(10), 0, 1, 0), []int64{2, 3, 4, 5, 6, 7, 8, 9, 1, 0}},
		{always(10, 0), always(10, 9), []int64{9, 0, 1, 2, 3, 4, 5, 6, 7, 8}},
		{always(10, 9), withProduct(always(10, 9), 8, 8, 7), nil},
		{greatest(10), renumbered(greatest(10), []int64{3, 1, 4, 0, 5, 9, 2, 6, 8, 7}), []int64{3, 1, 4, 0, 5, 9, 2, 6, 8, 7}},
		{ten, tenOfTwo, []int64{0, 6, 2, 8, 4, 5, 1, 7, 3, 9}},
		{ten, greatest(10), nil},
		// Tables of other numbers of rows.
		{sums(1), sums(2), nil},
		{sums(10), sums(9), nil},
		{always(3, 0), always(4, 0), nil},
		// The second table has the first one within it, and its numbers are products as often.
		{firsts(2), tableOf("002", "112", "222"), nil},
		{tableOf("002", "112", "222"), firsts(2), nil},
	} {
		found, code := impl.FindIsomorphism(k.a, k.b)
		what := fmt.Sprint("FindIsomorphism ", k.a, k.b)
		checkList(t, what, found, k.want)
		if k.want == nil {
			checkCode(t, what, code, impl.ErrNotFound)
			continue
		}
		checkCode(t, what, code, impl.ErrNone)
		if !isIsomorphismByHand(k.a, k.b, found) {
			t.Errorf("%s = %v is no isomorphism", what, found)
		}
	}
}

func TestCountTableSymmetriesByHand(t *testing.T) {
	for _, table := range someTables() {
		want := len(isomorphismsByHand(table, table))
		checkValue(t, fmt.Sprint("CountTableSymmetries ", table), int64(want))(impl.CountTableSymmetries(table))
	}
}

func TestKnownSymmetries(t *testing.T) {
	klein := tableOf("0123", "1032", "2301", "3210")
	permutations, _ := impl.TableOf(listOf("120", "102"))
	for _, k := range []struct {
		table [][]int64
		want  int64
	}{
		{tableOf("0"), 1},
		{tableOf("01", "10"), 1},
		{klein, 6},
		{productByHand(sums(2), klein), 168},
		{permutations, 6},
		{sums(7), 6},
		{sums(8), 4},
		{sums(10), 4},
		{productByHand(sums(3), sums(3)), 48},
		{firsts(10), 3628800},
		{seconds(10), 3628800},
		{firsts(9), 362880},
		{always(10, 0), 362880},
		{always(10, 9), 362880},
		{greatest(10), 1},
		{withProduct(always(10, 9), 7, 8, 6), 720},
		{withProduct(firsts(10), 7, 8, 8), 40320},
		{productByHand(firsts(2), seconds(5)), 240},
	} {
		checkValue(t, fmt.Sprint("CountTableSymmetries ", k.table), k.want)(impl.CountTableSymmetries(k.table))
	}
}

// besideByHand tells the images of the points of both parts.
func besideByHand(a []impl.Map, b []impl.Map) []impl.Map {
	n, m := a[0].Points, b[0].Points
	var maps []impl.Map
	for number := range len(a) + len(b) {
		f, g := identityByHand(n), identityByHand(m)
		if number < len(a) {
			f = a[number]
		} else {
			g = b[number-len(a)]
		}
		both := impl.Map{Points: n + m}
		for p := range n + m {
			if p < n {
				both.To[p] = f.To[p]
			} else {
				both.To[p] = n + g.To[p-n]
			}
		}
		maps = append(maps, both)
	}
	return maps
}

// TestSideBySide also compares the monoid of both lists with the product of their tables. The numbers
// are the same, because the points of the first list come first.
func TestSideBySide(t *testing.T) {
	var lists [][]impl.Map
	for i, list := range smallLists() {
		if list[0].Points < 3 || i%29 == 0 {
			lists = append(lists, list)
		}
	}
	lists = append(lists, listOf("0123"), listOf("1230", "0012"), listOf("0", "0", "0", "0"), listOf("1000", "0000", "1230"))
	products := 0
	for _, a := range lists {
		for _, b := range lists {
			if a[0].Points+b[0].Points > impl.MaxPoints || len(a)+len(b) > impl.MaxGenerators {
				continue
			}
			side, code := impl.SideBySide(a, b)
			checkCode(t, "SideBySide", code, impl.ErrNone)
			checkMaps(t, fmt.Sprint("SideBySide ", a, b), side, besideByHand(a, b))
			tableOfA, _ := impl.TableOf(a)
			tableOfB, _ := impl.TableOf(b)
			if product, code := impl.ProductTable(tableOfA, tableOfB); code == impl.ErrNone {
				checkTable(t, fmt.Sprint("TableOf ", side), product)(impl.TableOf(side))
				products++
			}
		}
	}
	if products < 500 {
		t.Error("only", products, "products")
	}
}

func TestKnownSides(t *testing.T) {
	many := func(count int, text string) []impl.Map { return slices.Repeat(listOf(text), count) }
	for _, k := range []struct {
		a, b, want []impl.Map
		code       int64
	}{
		{listOf("10"), listOf("00"), listOf("1023", "0122"), impl.ErrNone},
		{listOf("0"), listOf("0"), listOf("01", "01"), impl.ErrNone},
		{listOf("120", "000"), listOf("11", "10"), listOf("12034", "00034", "01244", "01243"), impl.ErrNone},
		{listOf("1230"), listOf("0"), listOf("12304", "01234"), impl.ErrNone},
		{listOf("0"), listOf("1230", "0000"), listOf("01234", "02341", "01111"), impl.ErrNone},
		// MaxPoints points, and one more; MaxGenerators maps, and one more; both more.
		{listOf("100"), listOf("11"), listOf("10034", "01244"), impl.ErrNone},
		{listOf("100"), listOf("112"), nil, impl.ErrLimit},
		{listOf("01234"), listOf("0"), nil, impl.ErrLimit},
		{listOf("0"), listOf("01234"), nil, impl.ErrLimit},
		{listOf("01234"), listOf("43210"), nil, impl.ErrLimit},
		{many(3, "00"), many(3, "0"), append(many(3, "002"), many(3, "012")...), impl.ErrNone},
		{many(5, "0"), many(1, "10"), append(many(5, "012"), many(1, "021")...), impl.ErrNone},
		{many(1, "0"), many(5, "10"), append(many(1, "012"), many(5, "021")...), impl.ErrNone},
		{many(4, "00"), many(3, "0"), nil, impl.ErrLimit},
		{many(6, "00"), many(1, "00"), nil, impl.ErrLimit},
		{many(1, "00"), many(6, "00"), nil, impl.ErrLimit},
		{many(6, "0"), many(6, "0"), nil, impl.ErrLimit},
		{many(6, "0123"), many(6, "0123"), nil, impl.ErrLimit},
	} {
		side, code := impl.SideBySide(k.a, k.b)
		checkCode(t, fmt.Sprint("SideBySide ", k.a, k.b), code, k.code)
		checkMaps(t, fmt.Sprint("SideBySide ", k.a, k.b), side, k.want)
	}
	// The monoid of all maps of four points is not asked for, nor that of both lists.
	side, code := impl.SideBySide(listOf("1230", "1023", "0012"), listOf("0"))
	checkCode(t, "SideBySide", code, impl.ErrNone)
	checkMaps(t, "SideBySide", side, listOf("12304", "10234", "00124", "01234"))
	side, code = impl.SideBySide(listOf("120", "102", "002"), listOf("10", "00"))
	checkCode(t, "SideBySide", code, impl.ErrNone)
	checkMaps(t, "SideBySide", side, listOf("12034", "10234", "00234", "01243", "01233"))
}

// tablesChapter calls the functions of chapter 8 that take lists. The lists beside the given one are
// good, the same, or not as told, which is checked later if a map is none.
func tablesChapter() chapter {
	return chapter{calls: func(list []impl.Map, f impl.Map, g impl.Map) map[string]func() (int64, bool) {
		side := func(a []impl.Map, b []impl.Map) func() (int64, bool) {
			return func() (int64, bool) { return ofMaps(impl.SideBySide(a, b)) }
		}
		return map[string]func() (int64, bool){
			"TableOf":                              func() (int64, bool) { return ofLists(impl.TableOf(list)) },
			"SideBySide":                           side(list, listOf("0")),
			"SideBySide behind one":                side(listOf("0"), list),
			"SideBySide of equal lists":            side(list, list),
			"SideBySide of too many points":        side(list, listOf("01234")),
			"SideBySide of too many points behind": side(listOf("01234"), list),
			"SideBySide of no maps":                side(list, nil),
			"SideBySide of no maps behind":         side(nil, list),
			"SideBySide of other points":           side(list, listOf("0", "00")),
			"SideBySide of other points behind":    side(listOf("0", "00"), list),
		}
	}}
}

func TestTablesRejectWhatIsNotAMap(t *testing.T) {
	tablesChapter().checkNoMaps(t)
}

func TestTablesRejectListsThatAreNotAsTold(t *testing.T) {
	tablesChapter().checkListsNotAsTold(t)
	for _, list := range [][]impl.Map{listOf("10"), listOf("01234"), largeLists()[1]} {
		for name, call := range tablesChapter().calls(list, list[0], list[0]) {
			switch name {
			case "SideBySide of no maps", "SideBySide of no maps behind", "SideBySide of other points", "SideBySide of other points behind":
				checkFails(t, fmt.Sprint(name, " ", list), call, impl.ErrRange)
			}
		}
	}
}

func TestTablesRejectLargerMonoids(t *testing.T) {
	for _, list := range slices.Concat(listsAboveTable(), largeLists()) {
		checkFails(t, fmt.Sprint("TableOf ", list), func() (int64, bool) { return ofLists(impl.TableOf(list)) }, impl.ErrLimit)
	}
	for _, list := range listsOfMaxTable() {
		table, code := impl.TableOf(list)
		if len(table) != impl.MaxTable || code != impl.ErrNone {
			t.Errorf("TableOf(%v): %d rows, code %d", list, len(table), code)
		}
	}
	for _, list := range listsAboveTable()[:2] {
		if n := len(elementsByHand(list)); n != impl.MaxTable+1 {
			t.Errorf("the monoid of %v has %d elements", list, n)
		}
	}
	six := slices.Repeat(listOf("10"), impl.MaxGenerators)
	checkTable(t, "TableOf six maps", sums(2))(impl.TableOf(six))
}

// noTables have no rows or too many, rows of other lengths, or numbers out of range.
func noTables() [][][]int64 {
	tables := [][][]int64{
		nil,
		{},
		{nil},
		{{}},
		{{1}},
		{{-1}},
		{{0, 0}},
		{{0}, {0}},
		{{0, 1}},
		{{0, 1}, {1}},
		{{0, 1}, {1, 0, 0}},
		{{0, 1}, {1, 0, 1}, {0, 1}},
		{{0, 1}, nil},
		{nil, {0, 1}},
		{{0, 1}, {1, 2}},
		{{0, 2}, {1, 0}},
		{{0, 1}, {-1, 0}},
		{{0, 1}, {1, 1<<63 - 1}},
		{{-1 << 63, 1}, {1, 0}},
		{{0, 1 << 32}, {1, 0}},
		{{0, 1, 2}, {1, 2, 0}},
		sums(impl.MaxTable + 1),
		always(impl.MaxTable+1, 0),
		firsts(100),
		make([][]int64, 1000),
	}
	for _, n := range []int64{3, 6, 10, 11, impl.MaxTable} {
		tables = append(tables, withProduct(sums(n), n-1, n-1, n), withProduct(sums(n), 0, 0, -1), withProduct(firsts(n), n-1, 0, n))
		short, long := sums(n), sums(n)
		short[n-1], long[n-1] = short[n-1][:n-1], append(long[n-1], 0)
		tables = append(tables, short, long)
	}
	return tables
}

// callsOfTables calls the functions of chapter 8 that take tables.
func callsOfTables(a [][]int64, b [][]int64, p []int64) map[string]func() (int64, bool) {
	return map[string]func() (int64, bool){
		"IsMonoidTable":        func() (int64, bool) { return ofBool(impl.IsMonoidTable(a)) },
		"IdentityOf":           func() (int64, bool) { return ofNumber(impl.IdentityOf(a)) },
		"IdempotentNumbers":    func() (int64, bool) { return ofNumbers(impl.IdempotentNumbers(a)) },
		"MapsOfTable":          func() (int64, bool) { return ofMaps(impl.MapsOfTable(a)) },
		"OppositeTable":        func() (int64, bool) { return ofLists(impl.OppositeTable(a)) },
		"ProductTable":         func() (int64, bool) { return ofLists(impl.ProductTable(a, b)) },
		"IsIsomorphism":        func() (int64, bool) { return ofBool(impl.IsIsomorphism(a, b, p)) },
		"FindIsomorphism":      func() (int64, bool) { return ofNumbers(impl.FindIsomorphism(a, b)) },
		"CountTableSymmetries": func() (int64, bool) { return ofNumber(impl.CountTableSymmetries(a)) },
	}
}

// TestTablesRejectWhatIsNoTable also gives tables that are too large beside those that are none, which
// is checked later.
func TestTablesRejectWhatIsNoTable(t *testing.T) {
	for _, bad := range noTables() {
		others := [][][]int64{tableOf("0"), sums(2), sums(3), sums(11), sums(impl.MaxTable), bad}
		for _, other := range others {
			for name, call := range callsOfTables(bad, other, trivialClasses(len(bad))) {
				checkFails(t, fmt.Sprint(name, " ", bad, other), call, impl.ErrRange)
			}
			calls := callsOfTables(other, bad, trivialClasses(len(other)))
			for _, name := range []string{"ProductTable", "IsIsomorphism", "FindIsomorphism"} {
				checkFails(t, fmt.Sprint(name, " ", other, bad), calls[name], impl.ErrRange)
			}
		}
	}
}

func TestTablesOfOneNumberAndOfMaxTable(t *testing.T) {
	one := tableOf("0")
	checkOneTable(t, one)
	for name, call := range callsOfTables(one, one, []int64{0}) {
		code, _ := call()
		checkCode(t, name, code, impl.ErrNone)
	}
	for _, table := range [][][]int64{sums(impl.MaxTable), firsts(impl.MaxTable), always(impl.MaxTable, impl.MaxTable-1)} {
		calls := callsOfTables(table, one, nil)
		for _, name := range []string{"IsMonoidTable", "IdempotentNumbers", "OppositeTable", "ProductTable"} {
			code, _ := calls[name]()
			checkCode(t, name, code, impl.ErrNone)
		}
	}
}

// TestListsThatAreNoArrangement also gives tables that are not isomorphic.
func TestListsThatAreNoArrangement(t *testing.T) {
	for _, n := range []int64{1, 2, 3, 10, 11, impl.MaxTable} {
		all := trivialClasses(int(n))
		bad := [][]int64{
			nil,
			all[:n-1],
			append(slices.Clone(all), n),
			append(slices.Clone(all), 0),
			append(slices.Clone(all[:n-1]), n),
			append(slices.Clone(all[:n-1]), -1),
			append([]int64{n}, all[1:]...),
			append([]int64{1<<63 - 1}, all[1:]...),
			append([]int64{-1 << 63}, all[1:]...),
			make([]int64, 1000),
		}
		if n > 1 {
			bad = append(bad, make([]int64, n), append([]int64{n - 1}, all[1:]...), append(slices.Clone(all[:n-1]), 0))
		}
		for _, p := range bad {
			for _, b := range [][][]int64{firsts(n), seconds(n), always(n, 0)} {
				checkFails(t, fmt.Sprint("IsIsomorphism ", n, p), func() (int64, bool) { return ofBool(impl.IsIsomorphism(firsts(n), b, p)) }, impl.ErrRange)
			}
		}
	}
}

func TestIsIsomorphismOfTablesOfOtherNumbersOfRows(t *testing.T) {
	for _, n := range [][2]int64{{1, 2}, {2, 1}, {3, 4}, {10, 11}, {impl.MaxTable, impl.MaxTable - 1}, {impl.MaxTable, 1}} {
		for _, p := range [][]int64{nil, trivialClasses(int(n[0])), trivialClasses(int(n[1]))} {
			call := func() (int64, bool) { return ofBool(impl.IsIsomorphism(always(n[0], 0), always(n[1], 0), p)) }
			checkFails(t, fmt.Sprint("IsIsomorphism ", n, p), call, impl.ErrRange)
		}
	}
}

// TestTablesOfMaxAlikeNumbersAndOfMore also has tables that are not isomorphic, which is checked later.
func TestTablesOfMaxAlikeNumbersAndOfMore(t *testing.T) {
	for _, n := range [][2]int64{{11, 11}, {10, 11}, {11, 10}, {1, 11}, {11, 1}, {impl.MaxTable, impl.MaxTable}, {2, impl.MaxTable}} {
		for _, b := range [][][]int64{sums(n[1]), firsts(n[1])} {
			a := sums(n[0])
			checkFails(t, fmt.Sprint("FindIsomorphism ", n), func() (int64, bool) { return ofNumbers(impl.FindIsomorphism(a, b)) }, impl.ErrLimit)
		}
		a := firsts(max(n[0], n[1]))
		checkFails(t, fmt.Sprint("CountTableSymmetries ", n), func() (int64, bool) { return ofNumber(impl.CountTableSymmetries(a)) }, impl.ErrLimit)
	}
	for _, table := range scattered(impl.MaxAlike) {
		p := []int64{7, 2, 9, 0, 4, 1, 8, 3, 6, 5}
		other := renumbered(table, p)
		found, code := impl.FindIsomorphism(table, other)
		checkCode(t, fmt.Sprint("FindIsomorphism ", table, other), code, impl.ErrNone)
		if len(found) != impl.MaxAlike || !isIsomorphismByHand(table, other, found) || slices.Compare(found, p) > 0 {
			t.Errorf("FindIsomorphism(%v, %v) = %v", table, other, found)
		}
		count, code := impl.CountTableSymmetries(table)
		if count < 1 || code != impl.ErrNone {
			t.Errorf("CountTableSymmetries(%v) = %d, %d", table, count, code)
		}
	}
}

// TestTablesShareNoMemory writes to the results, and looks at the arguments and what is behind them.
func TestTablesShareNoMemory(t *testing.T) {
	store := listOf("10", "00", "11", "01")
	list := store[:2]
	ps := []int64{0, 1, 2, 7, 7}
	p := ps[:3]
	as, bs := append(sums(3), []int64{7, 7}), append(greatest(3), []int64{7, 7})
	a, b := as[:3], bs[:3]
	for i := range 3 {
		a[i], b[i] = append(a[i], 7, 7)[:3], append(b[i], 7, 7)[:3]
	}
	checkArguments := func(name string) {
		t.Helper()
		checkMaps(t, "the list behind "+name, store, listOf("10", "00", "11", "01"))
		checkList(t, "the arrangement behind "+name, ps, []int64{0, 1, 2, 7, 7})
		checkLists(t, "the tables behind "+name, slices.Concat(as, bs), slices.Concat(sums(3), [][]int64{{7, 7}}, greatest(3), [][]int64{{7, 7}}))
		for i := range 3 {
			checkList(t, "the numbers behind "+name, slices.Concat(a[i][3:5], b[i][3:5]), []int64{7, 7, 7, 7})
		}
	}
	for name, call := range map[string]func() ([]int64, int64){
		"IdempotentNumbers": func() ([]int64, int64) { return impl.IdempotentNumbers(b) },
		"FindIsomorphism":   func() ([]int64, int64) { return impl.FindIsomorphism(a, a) },
	} {
		checkOwn(t, name, call)
		checkArguments(name)
	}
	for name, call := range map[string]func() ([]impl.Map, int64){
		"MapsOfTable": func() ([]impl.Map, int64) { return impl.MapsOfTable(a) },
		"SideBySide":  func() ([]impl.Map, int64) { return impl.SideBySide(list, list) },
	} {
		checkOwn(t, name, call)
		checkArguments(name)
	}
	for name, call := range map[string]func() ([][]int64, int64){
		"TableOf":               func() ([][]int64, int64) { return impl.TableOf(list) },
		"QuotientTable":         func() ([][]int64, int64) { return impl.QuotientTable(list, []int64{0, 1, 2, 3}) },
		"OppositeTable":         func() ([][]int64, int64) { return impl.OppositeTable(a) },
		"ProductTable":          func() ([][]int64, int64) { return impl.ProductTable(a, b) },
		"ProductTable with one": func() ([][]int64, int64) { return impl.ProductTable(a, tableOf("0")) },
	} {
		checkOwnLists(t, name, call)
		checkArguments(name)
	}
	for name, call := range callsOfTables(a, b, p) {
		call()
		checkArguments(name)
	}
}

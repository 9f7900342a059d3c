package tests

import (
	"fmt"
	"testing"

	"loop.example/g01359/impl"
)

// chapter calls each function of a chapter with a list and two maps, and tells the code and whether
// the result is the zero value. The functions that are given the first map, or the second one, are
// named.
type chapter struct {
	calls             func(list []impl.Map, f impl.Map, g impl.Map) map[string]func() (int64, bool)
	ofFirst, ofSecond []string
}

// checkNoMaps gives lists and maps in which something is not a map, and all else that can be wrong,
// which is checked later.
func (c chapter) checkNoMaps(t *testing.T) {
	t.Helper()
	for _, bad := range noMaps() {
		for _, list := range listsWith(bad) {
			for name, call := range c.calls(list, digits("10"), digits("120")) {
				checkFails(t, fmt.Sprint(name, " ", list), call, impl.ErrInvalid)
			}
		}
		for _, list := range [][]impl.Map{nil, listOf("10"), listOf("10", "120"), largeLists()[1]} {
			c.checkElements(t, list, digits("10"), bad, impl.ErrInvalid)
		}
	}
}

func (c chapter) checkListsNotAsTold(t *testing.T) {
	t.Helper()
	for _, list := range listsNotAsTold() {
		for name, call := range c.calls(list, digits("10"), digits("10")) {
			checkFails(t, fmt.Sprint(name, " ", list), call, impl.ErrRange)
		}
	}
}

// checkOtherPoints also gives monoids that are too large, which is checked later.
func (c chapter) checkOtherPoints(t *testing.T) {
	t.Helper()
	for _, list := range [][]impl.Map{listOf("10"), listOf("01234"), largeLists()[0]} {
		c.checkElements(t, list, list[0], digits("120"), impl.ErrRange)
		c.checkElements(t, list, list[0], digits("0"), impl.ErrRange)
	}
}

// checkLargeMonoids also gives maps that are no elements, which is checked later.
func (c chapter) checkLargeMonoids(t *testing.T) {
	t.Helper()
	for _, list := range largeLists() {
		for _, f := range []impl.Map{list[0], identityByHand(5), digits("00012")} {
			for name, call := range c.calls(list, f, f) {
				checkFails(t, fmt.Sprint(name, " ", list), call, impl.ErrLimit)
			}
		}
	}
}

func (c chapter) checkNoElements(t *testing.T) {
	t.Helper()
	for _, of := range []struct {
		list []impl.Map
		no   string
	}{
		{listOf("10"), "00"},
		{listOf("120", "000"), "001"},
		{listOf("01234"), "10234"},
		{listOfMaxElements(), "00012"},
	} {
		c.checkElements(t, of.list, of.list[0], digits(of.no), impl.ErrNotFound)
	}
}

// checkElements gives a good map and a bad one, and two bad ones.
func (c chapter) checkElements(t *testing.T, list []impl.Map, good impl.Map, bad impl.Map, want int64) {
	t.Helper()
	first, second, both := c.calls(list, bad, good), c.calls(list, good, bad), c.calls(list, bad, bad)
	for _, name := range c.ofFirst {
		checkFails(t, fmt.Sprint(name, " ", list, bad), first[name], want)
		checkFails(t, fmt.Sprint(name, " ", list, bad, bad), both[name], want)
	}
	for _, name := range c.ofSecond {
		checkFails(t, fmt.Sprint(name, " ", list, good, bad), second[name], want)
	}
}

// checkAccepted gives lists of MaxGenerators maps and monoids of MaxElements elements.
func (c chapter) checkAccepted(t *testing.T, mayBeZero ...string) {
	t.Helper()
	for _, list := range [][]impl.Map{listOf("10", "10", "10", "10", "10", "10"), listOfMaxElements()} {
		identity := identityByHand(list[0].Points)
		calls := c.calls(list, identity, identity)
		for _, name := range mayBeZero {
			code, _ := calls[name]()
			checkCode(t, fmt.Sprint(name, " ", list), code, impl.ErrNone)
			delete(calls, name)
		}
		for name, call := range calls {
			code, zero := call()
			checkCode(t, fmt.Sprint(name, " ", list), code, impl.ErrNone)
			if zero {
				t.Errorf("%s %v is the zero value", name, list)
			}
		}
	}
}

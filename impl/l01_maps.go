package impl

import (
	"cmp"
	"slices"
)

const (
	ErrNone = iota
	ErrInvalid
	ErrRange
	ErrLimit
	ErrNotFound
	ErrState
	ErrSyntax
)
const (
	MaxPoints     = 5
	MaxGenerators = 6
)

const maxPower = 1000000000000

type Map struct {
	Points int64
	To     [5]int64
}

type pointSet [MaxPoints]bool

// IsMap reports whether f is a map.
func IsMap(f Map) bool {
	if f.Points < 1 || f.Points > MaxPoints {
		return false
	}
	for i, to := range f.To {
		if to < 0 || to >= f.Points || int64(i) >= f.Points && to != 0 {
			return false
		}
	}
	return true
}

// MapOf returns the map with n images, n in 1..MaxPoints, each in 0..n - 1, and ErrNone.
// (ErrInvalid is not returned.)
func MapOf(images []int64) (Map, int64) {
	n := len(images)
	if n < 1 || n > MaxPoints {
		return Map{}, ErrRange
	}
	f := Map{Points: int64(n), To: arrayOfImages(images)}
	if !IsMap(f) {
		return Map{}, ErrRange
	}
	return f, ErrNone
}

// ImagesOf returns the images of all points, in order, and ErrNone.
func ImagesOf(f Map) ([]int64, int64) {
	if !IsMap(f) {
		return nil, ErrInvalid
	}
	return slices.Clone(f.To[:f.Points]), ErrNone
}

// ProductOf returns the product f g, and ErrNone.
func ProductOf(f Map, g Map) (Map, int64) {
	if !IsMap(f) || !IsMap(g) {
		return Map{}, ErrInvalid
	}
	if f.Points != g.Points {
		return Map{}, ErrRange
	}
	return product(f, g), ErrNone
}

// PowerOf returns the power of f and k, in 0..1000000000000, and ErrNone.
func PowerOf(f Map, k int64) (Map, int64) {
	if !IsMap(f) {
		return Map{}, ErrInvalid
	}
	if k < 0 || k > maxPower {
		return Map{}, ErrRange
	}
	return power(f, k), ErrNone
}

// RankOf returns the rank, and ErrNone.
func RankOf(f Map) (int64, int64) {
	if !IsMap(f) {
		return 0, ErrInvalid
	}
	return rank(f), ErrNone
}

// ImageOf returns the points to which f leads the points of an ascending list of different points,
// ascending, each once, and ErrNone.
func ImageOf(f Map, points []int64) ([]int64, int64) {
	if !IsMap(f) {
		return nil, ErrInvalid
	}
	if !areAscendingPoints(points, f.Points) {
		return nil, ErrRange
	}
	return imageOfSet(f, setOfPoints(points)).ascending(), ErrNone
}

// KernelOf returns the kernel, and ErrNone.
func KernelOf(f Map) ([]int64, int64) {
	if !IsMap(f) {
		return nil, ErrInvalid
	}
	return numbersByFirst(f.To[:f.Points]), ErrNone
}

// FixedPoints returns the fixed points, ascending, and ErrNone.
func FixedPoints(f Map) ([]int64, int64) {
	if !IsMap(f) {
		return nil, ErrInvalid
	}
	return fixedPoints(f), ErrNone
}

// IsIdempotent reports whether f is idempotent, and returns ErrNone.
func IsIdempotent(f Map) (bool, int64) {
	if !IsMap(f) {
		return false, ErrInvalid
	}
	return isIdempotent(f), ErrNone
}

// IndexAndPeriod returns the index and the period, and ErrNone.
func IndexAndPeriod(f Map) (int64, int64, int64) {
	if !IsMap(f) {
		return 0, 0, ErrInvalid
	}
	index, period := indexAndPeriod(f)
	return index, period, ErrNone
}

// CyclicPoints returns the cyclic points, ascending, and ErrNone.
func CyclicPoints(f Map) ([]int64, int64) {
	if !IsMap(f) {
		return nil, ErrInvalid
	}
	return cyclicPoints(f), ErrNone
}

// IdempotentPower returns the only idempotent one among the powers of f with a number of at least
// 1, and ErrNone.
func IdempotentPower(f Map) (Map, int64) {
	if !IsMap(f) {
		return Map{}, ErrInvalid
	}
	return idempotentPower(f), ErrNone
}

// InverseOf returns the map whose product with f is the identity, and ErrNone. Errors: ErrState if
// f is not a permutation.
func InverseOf(f Map) (Map, int64) {
	if !IsMap(f) {
		return Map{}, ErrInvalid
	}
	if !isPermutation(f) {
		return Map{}, ErrState
	}
	inverse := Map{Points: f.Points}
	for i := range f.Points {
		inverse.To[f.To[i]] = i
	}
	return inverse, ErrNone
}

// PreimageOf returns the points that f leads to points of an ascending list of different points,
// ascending, and ErrNone.
func PreimageOf(f Map, points []int64) ([]int64, int64) {
	if !IsMap(f) {
		return nil, ErrInvalid
	}
	if !areAscendingPoints(points, f.Points) {
		return nil, ErrRange
	}
	var preimage pointSet
	for i := range f.Points {
		preimage[i] = slices.Contains(points, f.To[i])
	}
	return preimage.ascending(), ErrNone
}

// RenumberMap returns f renumbered by p, and ErrNone. Errors: ErrState if p is not a permutation.
func RenumberMap(f Map, p Map) (Map, int64) {
	if !IsMap(f) || !IsMap(p) {
		return Map{}, ErrInvalid
	}
	if f.Points != p.Points {
		return Map{}, ErrRange
	}
	if !isPermutation(p) {
		return Map{}, ErrState
	}
	return renumber(f, p), ErrNone
}

// CompareMaps returns -1, 0 or 1 if f comes before g, is g, or comes behind it, and ErrNone. (The
// numbers of points may be different.)
func CompareMaps(f Map, g Map) (int64, int64) {
	if !IsMap(f) || !IsMap(g) {
		return 0, ErrInvalid
	}
	return int64(compareMaps(f, g)), ErrNone
}

// MapText returns the text of f, and ErrNone.
func MapText(f Map) (string, int64) {
	if !IsMap(f) {
		return "", ErrInvalid
	}
	var digits []byte
	for _, image := range f.To[:f.Points] {
		digits = append(digits, '0'+byte(image))
	}
	return string(digits), ErrNone
}

// ParseMap returns the map with a text, and ErrNone. Errors: ErrSyntax if there is none. (No other
// errors are returned.)
func ParseMap(text string) (Map, int64) {
	if len(text) > MaxPoints {
		return Map{}, ErrSyntax
	}
	var images []int64
	for i := range len(text) {
		images = append(images, int64(text[i])-'0')
	}
	f, code := MapOf(images)
	if code != ErrNone {
		return Map{}, ErrSyntax
	}
	return f, ErrNone
}

// arrayOfImages copies the images first, because a slice that is shorter than an array cannot be
// taken as one.
func arrayOfImages(images []int64) [MaxPoints]int64 {
	padded := make([]int64, MaxPoints)
	copy(padded, images)
	return [MaxPoints]int64(padded)
}

func areAscendingPoints(points []int64, n int64) bool {
	previous := int64(-1)
	for _, p := range points {
		if p <= previous || p >= n {
			return false
		}
		previous = p
	}
	return true
}

// numbersByFirst numbers different values from 0 on, in the order in which each one comes first.
func numbersByFirst[T comparable](values []T) []int64 {
	var numbers []int64
	known := map[T]int64{}
	for _, value := range values {
		number, met := known[value]
		if !met {
			number = int64(len(known))
			known[value] = number
		}
		numbers = append(numbers, number)
	}
	return numbers
}

func (s pointSet) ascending() []int64 {
	var points []int64
	for i, in := range s {
		if in {
			points = append(points, int64(i))
		}
	}
	return points
}

func (s pointSet) size() int64 {
	return int64(len(s.ascending()))
}

func setOfPoints(points []int64) pointSet {
	var set pointSet
	for _, p := range points {
		set[p] = true
	}
	return set
}

func allPoints(n int64) pointSet {
	var all pointSet
	for i := range n {
		all[i] = true
	}
	return all
}

func identity(n int64) Map {
	f := Map{Points: n}
	for i := range n {
		f.To[i] = i
	}
	return f
}

func product(f Map, g Map) Map {
	result := Map{Points: f.Points}
	for i := range f.Points {
		result.To[i] = g.To[f.To[i]]
	}
	return result
}

// power squares f again and again, because k may be too great for a product at a time.
func power(f Map, k int64) Map {
	result := identity(f.Points)
	for ; k > 0; k /= 2 {
		if k%2 == 1 {
			result = product(result, f)
		}
		f = product(f, f)
	}
	return result
}

// powersOf gives the numbers 0, 1, .. with their powers. It does not end by itself, because the
// powers of a map repeat and each caller knows where it has seen enough of them.
func powersOf(f Map) func(yield func(int64, Map) bool) {
	return func(yield func(int64, Map) bool) {
		g := identity(f.Points)
		for k := int64(0); yield(k, g); k++ {
			g = product(g, f)
		}
	}
}

func indexAndPeriod(f Map) (int64, int64) {
	var index, period int64
	firstNumbers := map[Map]int64{}
	for k, g := range powersOf(f) {
		first, seen := firstNumbers[g]
		if seen {
			index, period = first, k-first
			break
		}
		firstNumbers[g] = k
	}
	return index, period
}

func idempotentPower(f Map) Map {
	found := Map{}
	for k, g := range powersOf(f) {
		if k >= 1 && isIdempotent(g) {
			found = g
			break
		}
	}
	return found
}

func isIdempotent(f Map) bool {
	return product(f, f) == f
}

func imageOfSet(f Map, set pointSet) pointSet {
	var image pointSet
	for i, in := range set {
		if in {
			image[f.To[i]] = true
		}
	}
	return image
}

func rank(f Map) int64 {
	return imageOfSet(f, allPoints(f.Points)).size()
}

func isPermutation(f Map) bool {
	return rank(f) == f.Points
}

func fixedPoints(f Map) []int64 {
	var fixed pointSet
	for i := range f.Points {
		fixed[i] = f.To[i] == i
	}
	return fixed.ascending()
}

func cyclicPoints(f Map) []int64 {
	// If a power of f keeps a point, so does each power of that power, and the idempotent power of
	// f is one of them: it keeps just the cyclic points.
	return fixedPoints(idempotentPower(f))
}

func renumber(f Map, p Map) Map {
	renumbered := Map{Points: f.Points}
	for i := range f.Points {
		renumbered.To[p.To[i]] = p.To[f.To[i]]
	}
	return renumbered
}

func compareMaps(f Map, g Map) int {
	return cmp.Or(cmp.Compare(f.Points, g.Points), slices.Compare(f.To[:], g.To[:]))
}

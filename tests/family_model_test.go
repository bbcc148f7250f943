package tests

import (
	"fmt"
	"math/rand/v2"
	"slices"
	"strconv"
	"strings"

	"loop.example/spreadspectrum/impl"
)

// goldBounds are the bounds of all sizes, worked out by hand.
var goldBounds = map[int]int{2: 5, 3: 5, 4: 9, 5: 9, 6: 17, 7: 17, 8: 33}

// maximal reports whether the model of a register visits all states but one.
func maximal(size, taps int) bool {
	if size < 2 || size > 8 || taps < 1 || taps >= 1<<size {
		return false
	}
	_, period := modelOf(impl.Register{Size: size, Taps: taps, State: 1}).orbit()
	return period == 1<<size-1
}

// maximalTaps returns all taps of a size whose models are maximal.
func maximalTaps(size int) []int {
	var list []int
	for taps := 1; size >= 2 && size <= 8 && taps < 1<<size; taps++ {
		if maximal(size, taps) {
			list = append(list, taps)
		}
	}
	return list
}

// period returns the bits of the model of a maximal register.
func period(size, taps int) string {
	return modelOf(impl.Register{Size: size, Taps: taps, State: 1}).bits(1<<size - 1)
}

// preferred reports whether different maximal taps of a size up to 6 are a preferred pair.
func preferred(size, a, b int) bool {
	t := goldBounds[size]
	for _, value := range correlations(period(size, a), period(size, b)) {
		if value != -1 && value != -t && value != t-2 {
			return false
		}
	}
	return true
}

// family returns all Gold codes of maximal taps.
func family(size, a, b int) []string {
	first, second := period(size, a), period(size, b)
	list := []string{first, second}
	for _, turn := range rotations(second) {
		list = append(list, sumOf(first, turn))
	}
	return list
}

// worst returns the greatest correlation of valid sequences, also of each with itself, but for the shift 0.
func worst(list []string) int {
	most := 0
	for i, a := range list {
		for j, b := range list {
			for k, value := range correlations(a, b) {
				if i != j || k != 0 {
					most = max(most, value, -value)
				}
			}
		}
	}
	return most
}

// walsh returns a Walsh code, bit by bit.
func walsh(order, i int) string {
	bits := ""
	for k := range 1 << order {
		bits += strconv.Itoa(strings.Count(strconv.FormatInt(int64(i&k), 2), "1") % 2)
	}
	return bits
}

// changed returns bits with all of them changed.
func changed(bits string) string {
	return strings.NewReplacer("0", "1", "1", "0").Replace(bits)
}

// tree returns the code of a path.
func tree(path string) string {
	code := "0"
	for _, bit := range path {
		if bit == '0' {
			code += code
		} else {
			code += changed(code)
		}
	}
	return code
}

// pathsOf returns all paths of a number of bits, in alphabetical order.
func pathsOf(depth int) []string {
	if depth == 0 {
		return []string{""}
	}
	return slices.Collect(sequencesOf(depth))
}

// allPaths returns all paths.
func allPaths() []string {
	var list []string
	for depth := range 7 {
		list = append(list, pathsOf(depth)...)
	}
	return list
}

// conflict reports whether one of two paths is a beginning of the other one.
func conflict(p, q string) bool {
	return strings.HasPrefix(p, q) || strings.HasPrefix(q, p)
}

// free returns all free paths of a number of bits.
func free(used []string, depth int) []string {
	return slices.DeleteFunc(pathsOf(depth), func(path string) bool {
		return slices.ContainsFunc(used, func(other string) bool { return conflict(path, other) })
	})
}

// barker reports whether a sequence is a Barker code.
func barker(s string) bool {
	for k := 1; k < len(s); k++ {
		same, different := agreements(s[:len(s)-k], s[k:])
		if same-different < -1 || same-different > 1 {
			return false
		}
	}
	return true
}

// someUsed returns valid lists of used paths, with and without conflicts among them.
func someUsed() [][]string {
	paths := allPaths()
	list := [][]string{
		nil, {}, {""}, {"", ""}, {"", "0"}, {"0", ""}, {"101010", ""}, {"0"}, {"1"}, {"0", "1"}, {"1", "0"}, {"0", "0"}, {"1", "1", "1"},
		{"00", "1"}, {"01", "1"}, {"0", "01", "011"}, {"011", "01", "0"}, {"000000"}, {"111111"}, {"000000", "111111"}, {"000000", "000000"}, {"000", "0001", "01", "01"},
		pathsOf(6), pathsOf(6)[:63], pathsOf(6)[1:], pathsOf(5), pathsOf(5)[1:], slices.Concat(pathsOf(6)[:40], pathsOf(6)[41:]),
		slices.Repeat([]string{"01"}, 70), slices.Repeat([]string{""}, 70), slices.Repeat([]string{"110011", "0"}, 35), slices.Concat(pathsOf(6)[1:], slices.Repeat([]string{"111111"}, 7)),
		paths[57:], paths[1:71],
	}
	random := rand.New(rand.NewPCG(3, 1))
	for range 300 {
		used := make([]string, random.IntN(12))
		for i := range used {
			used[i] = paths[random.IntN(len(paths)-1)+1]
		}
		list = append(list, used)
	}
	return list
}

// someTerms returns lists that can be transformed.
func someTerms() [][]int {
	list := [][]int{{0}, {1}, {-1}, {1000000}, {-1000000}, {1, 0}, {0, 1}, {1000000, -1000000}, {1, 2, 3, 4}, {0, 0, 0, 0}}
	random := rand.New(rand.NewPCG(3, 2))
	for order := range 7 {
		n := 1 << order
		list = append(list, slices.Repeat([]int{1000000}, n), slices.Repeat([]int{-1000000}, n), make([]int, n))
		for range 5 {
			terms, extremes := make([]int, n), make([]int, n)
			for i := range n {
				terms[i] = random.IntN(2000001) - 1000000
				extremes[i] = 1000000 - 2000000*random.IntN(2)
			}
			list = append(list, terms, extremes)
		}
		for i := range n {
			terms := make([]int, n)
			terms[i] = i + 1
			list = append(list, terms)
		}
	}
	return list
}

// transformed returns the sums and differences that Walsh codes make of numbers.
func transformed(list []int) []int {
	order := len(strconv.FormatInt(int64(len(list)), 2)) - 1
	sums := make([]int, len(list))
	for i := range sums {
		for k, bit := range walsh(order, i) {
			sums[i] += list[k] * map[rune]int{'0': 1, '1': -1}[bit]
		}
	}
	return sums
}

// callOf writes a call with numbers.
func callOf(name string, numbers ...int) string {
	return name + strings.ReplaceAll(fmt.Sprint(numbers), " ", ", ")
}

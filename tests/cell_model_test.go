package tests

import (
	"fmt"
	"math"
	"math/rand/v2"
	"regexp"
	"slices"
	"strconv"
	"strings"

	"loop.example/spreadspectrum/impl"
)

// stationPattern matches the text of a station, but for the exact limits of its numbers.
var stationPattern = regexp.MustCompile(`^([a-z]{1,8}):(-|[01]{1,6}):(0|[1-9][0-9]{0,3}):([1-9][0-9]?)$`)

// noGainsOfStations are numbers that are no gain of a station.
var noGainsOfStations = []int{-1, 1001, -2, -1000, 1002, 9999, 10000, 1<<32 + 5, math.MaxInt, math.MaxInt - 1, math.MinInt, math.MinInt + 1}

// noLosses are numbers that are no loss.
var noLosses = []int{0, -1, 21, -2, 22, -20, 99, 100, 1<<32 + 5, math.MaxInt, math.MaxInt - 1, math.MinInt, math.MinInt + 1}

// noTargets are numbers that are no target.
var noTargets = []int{-1, 41, -2, 42, -40, 1000, 1<<32 + 5, math.MaxInt, math.MaxInt - 1, math.MinInt, math.MinInt + 1}

// noDepths are numbers that no path has as its bits.
var noDepths = []int{-1, 7, -2, 8, -6, 64, 1<<32 + 1, math.MaxInt, math.MinInt}

// noNames are no letters, too many, or other characters.
var noNames = []string{
	"", "abcdefghi", "aaaaaaaaa", "zzzzzzzzzz", strings.Repeat("a", 256), strings.Repeat("a", 100000), "A", "Z", "aB", "Ab", "`", "{", "a`", "a{", "@", "[", "0", "a0", "0a", "-", "a-", "a b", " a", "a ", " ", "a:", ":", ";", "a;", "a\n", "\n", "\x00", "a\x00b", "\xff", "\u00e4", "a\u00e4", "\u0430", "_", "a_b", "a.b",
}

// noPaths are no bits, or too many of them.
var noPaths = []string{"0000000", "1111111", "0101010", "00000000", strings.Repeat("0", 64), strings.Repeat("0", 600), strings.Repeat("1", 601), strings.Repeat("01", 50000), "-", "2", "0-", "-0", "0 1", " ", " 0", "0 ", "x", "01x", "/", ":", "0:", "\x00", "\x01", "\n", "0\n", "\xff", "\u0661"}

// stationText returns the text of a station, also of one that is not valid.
func stationText(st impl.Station) string {
	path := st.Path
	if path == "" {
		path = "-"
	}
	return fmt.Sprintf("%s:%s:%d:%d", st.Name, path, st.Gain, st.Loss)
}

// isStation reports whether a station is valid.
func isStation(st impl.Station) bool {
	return st.Path != "-" && stationPattern.MatchString(stationText(st)) && st.Gain <= 1000 && st.Loss <= 20
}

// isCell reports whether stations are a cell: each of them is valid and fits to all that stand behind it.
func isCell(list []impl.Station) bool {
	for i, st := range list {
		if i > 7 || !isStation(st) {
			return false
		}
		for _, other := range list[i+1:] {
			if st.Name == other.Name || conflict(st.Path, other.Path) {
				return false
			}
		}
	}
	return true
}

// cellText returns the text of a cell, or the empty one of others.
func cellText(list []impl.Station) string {
	if !isCell(list) {
		return ""
	}
	if len(list) == 0 {
		return "-"
	}
	var texts []string
	for _, st := range list {
		texts = append(texts, stationText(st))
	}
	return strings.Join(texts, ";")
}

// parsedCell returns the cell of a text.
func parsedCell(text string) ([]impl.Station, bool) {
	if text == "-" {
		return nil, true
	}
	var list []impl.Station
	for part := range strings.SplitSeq(text, ";") {
		found := stationPattern.FindStringSubmatch(part)
		if found == nil {
			return nil, false
		}
		gain, _ := strconv.Atoi(found[3])
		loss, _ := strconv.Atoi(found[4])
		list = append(list, impl.Station{Name: found[1], Path: strings.Trim(found[2], "-"), Gain: gain, Loss: loss})
	}
	if !isCell(list) {
		return nil, false
	}
	return list, true
}

// pathsIn returns the paths of stations.
func pathsIn(list []impl.Station) []string {
	var paths []string
	for _, st := range list {
		paths = append(paths, st.Path)
	}
	return paths
}

// admitted returns a cell with one more station.
func admitted(list []impl.Station, name string, depth, loss int) ([]impl.Station, bool) {
	if depth < 0 || depth > 6 {
		return nil, false
	}
	paths := free(pathsIn(list), depth)
	if len(paths) == 0 {
		return nil, false
	}
	longer := append(slices.Clone(list), impl.Station{Name: name, Path: paths[0], Gain: 1, Loss: loss})
	return longer, isCell(longer)
}

// released returns a cell without a station.
func released(list []impl.Station, name string) ([]impl.Station, bool) {
	shorter := slices.DeleteFunc(slices.Clone(list), func(st impl.Station) bool { return st.Name == name })
	return shorter, len(shorter) < len(list)
}

// goalOf returns the gain that a station should have: its loss, as often as the target tells.
func goalOf(st impl.Station, target int) int {
	sum := 0
	for range target {
		sum += st.Loss
	}
	return min(sum, 1000)
}

// nearer returns a cell with gains one nearer to their goals.
func nearer(list []impl.Station, target int) []impl.Station {
	moved := slices.Clone(list)
	for i, st := range list {
		switch goal := goalOf(st, target); {
		case st.Gain < goal:
			moved[i].Gain++
		case st.Gain > goal:
			moved[i].Gain--
		}
	}
	return moved
}

// timeOf returns after how many steps no gain moves any more.
func timeOf(list []impl.Station, target int) int {
	steps := 0
	for next := nearer(list, target); !slices.Equal(next, list); next = nearer(list, target) {
		list = next
		steps++
	}
	return steps
}

// strength returns how often the loss of a station goes into its gain.
func strength(st impl.Station) int {
	count := 0
	for rest := st.Gain; rest >= st.Loss; rest -= st.Loss {
		count++
	}
	return count
}

// usersOf returns the users that the stations of a cell are.
func usersOf(list []impl.Station, data []string) []impl.User {
	var users []impl.User
	for i, st := range list {
		users = append(users, impl.User{Code: tree(st.Path), Data: data[i], Gain: strength(st)})
	}
	return users
}

// heard returns what is heard of a station.
func heard(st impl.Station, s []int, count int) string {
	return signs(despread(s, tree(st.Path), 0, count))
}

// nameOf returns another name for each number.
func nameOf(i int) string {
	return strings.Repeat(string(rune('a'+i%26)), 1+i/26%8)
}

// stationsAt returns stations with these paths, and with gains and losses without a plain order.
func stationsAt(paths ...string) []impl.Station {
	list := make([]impl.Station, len(paths))
	for i, path := range paths {
		list[i] = impl.Station{Name: nameOf(7 * i), Path: path, Gain: (i*377 + len(path)*91 + 5) % 1001, Loss: (i*7+len(path)*3)%20 + 1}
	}
	return list
}

// randomCell returns a cell of any stations, with gains and losses at the limits among them.
func randomCell(random *rand.Rand) []impl.Station {
	paths := allPaths()
	var list []impl.Station
	for range random.IntN(16) {
		path := paths[1+random.IntN(30)]
		if random.IntN(2) == 0 {
			path = paths[random.IntN(len(paths))]
		}
		if len(list) == 8 || slices.ContainsFunc(list, func(st impl.Station) bool { return conflict(st.Path, path) }) {
			continue
		}
		gains, losses := []int{0, 1, 999, 1000, random.IntN(30), random.IntN(1001)}, []int{1, 2, 19, 20, 1 + random.IntN(20), 1 + random.IntN(20)}
		list = append(list, impl.Station{Name: nameOf(26*random.IntN(8) + 3*len(list)), Path: path, Gain: gains[random.IntN(6)], Loss: losses[random.IntN(6)]})
	}
	return list
}

// someCells returns cells without stations, with one, and with the most.
func someCells() [][]impl.Station {
	list := [][]impl.Station{
		nil, {}, stationsAt(""), stationsAt("0"), stationsAt("1"), stationsAt("0", "1"), stationsAt("1", "01", "00"), stationsAt("111111"), stationsAt("000000"),
		stationsAt(pathsOf(3)...), stationsAt(pathsOf(6)[:8]...), stationsAt(pathsOf(6)[56:]...), stationsAt("0", "10", "110", "1110", "11110", "111110", "111111"), stationsAt("1", "01", "001", "0001", "00001", "000000", "000001"),
		stationsAt("111111", "111110", "11110", "1110", "110", "10", "01", "00"), stationsAt(pathsOf(3)[:7]...), stationsAt(pathsOf(2)...), stationsAt("0000", "1", "011"),
		{{Name: "a", Gain: 0, Loss: 1}}, {{Name: "abcdefgh", Path: "010101", Gain: 1000, Loss: 20}}, {{Name: "zzzzzzzz", Path: "0", Gain: 1000, Loss: 1}, {Name: "z", Path: "1", Gain: 0, Loss: 20}},
		{{Name: "b", Path: "1", Gain: 19, Loss: 20}, {Name: "a", Path: "0", Gain: 20, Loss: 20}}, {{Name: "ab", Path: "1", Gain: 7, Loss: 3}, {Name: "a", Path: "00", Gain: 6, Loss: 3}, {Name: "abc", Path: "01", Gain: 5, Loss: 3}},
	}
	random := rand.New(rand.NewPCG(8, 1))
	for range 200 {
		list = append(list, randomCell(random))
	}
	return list
}

// invalidStations are invalid each for one reason, at most one past a limit.
func invalidStations() []impl.Station {
	list := []impl.Station{{}, {Name: "q", Path: "0"}, {Path: "0", Loss: 1}, {Name: "q", Path: "0", Gain: 5}}
	for _, name := range noNames {
		list = append(list, impl.Station{Name: name, Path: "0", Gain: 5, Loss: 2})
	}
	for _, path := range noPaths {
		list = append(list, impl.Station{Name: "q", Path: path, Gain: 5, Loss: 2})
	}
	for _, gain := range noGainsOfStations {
		list = append(list, impl.Station{Name: "q", Path: "0", Gain: gain, Loss: 2})
	}
	for _, loss := range noLosses {
		list = append(list, impl.Station{Name: "q", Path: "0", Gain: 5, Loss: loss})
	}
	return list
}

// invalidCells are too many stations, stations that do not fit together, and stations of which one is not valid, at any place.
func invalidCells() [][]impl.Station {
	first, second := impl.Station{Name: "a", Path: "10", Gain: 6, Loss: 3}, impl.Station{Name: "b", Path: "11", Gain: 2, Loss: 2}
	list := [][]impl.Station{
		stationsAt(pathsOf(6)[:9]...), stationsAt(pathsOf(4)...), stationsAt(pathsOf(6)...), slices.Repeat([]impl.Station{first}, 9), make([]impl.Station, 9), make([]impl.Station, 100000),
		{first, first}, {first, second, first}, {second, first, second}, {first, {Name: "a", Path: "0", Loss: 1}}, {first, second, {Name: "a", Path: "0", Loss: 1}}, {second, {Name: "a", Path: "0", Loss: 1}, first},
		stationsAt("", ""), stationsAt("", "0"), stationsAt("0", ""), stationsAt("1", ""), stationsAt("0", "0"), stationsAt("0", "01"), stationsAt("01", "0"), stationsAt("111", "1"), stationsAt("000000", "000000"), stationsAt("000000", "00000"), stationsAt("0", "1", "10"), stationsAt("0", "1", ""), stationsAt("", "0", "1"), stationsAt("01", "1", "010101"),
		append(stationsAt(pathsOf(3)[:7]...), impl.Station{Name: "q", Path: "11", Loss: 1}), append(stationsAt(pathsOf(3)[:7]...), impl.Station{Name: "a", Path: "111", Loss: 1}),
	}
	for _, st := range invalidStations() {
		list = append(list, []impl.Station{st}, []impl.Station{st, first}, []impl.Station{first, st}, []impl.Station{first, st, second}, append(stationsAt(pathsOf(4)[8:15]...), st))
	}
	return list
}

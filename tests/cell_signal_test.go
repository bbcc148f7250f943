package tests

import (
	"fmt"
	"math/rand/v2"
	"runtime"
	"slices"
	"strings"
	"sync"
	"testing"
	"time"

	"loop.example/spreadspectrum/impl"
)

// dataKinds returns data for a station: none, all zeros, all ones, in turn, and any; the longest one fills a signal.
func dataKinds(random *rand.Rand, st impl.Station) []string {
	most := min(600, 3000/len(tree(st.Path)))
	return []string{
		"", "0", "1", strings.Repeat("0", 9), strings.Repeat("1", 9), strings.Repeat("01", 4), strings.Repeat("1", most), randomBits(random, 1+random.IntN(12)), randomBits(random, random.IntN(most+1)), randomBits(random, most),
	}
}

// wantCellSignal holds CellSignal against the model, and against SendAll.
func wantCellSignal(t *testing.T, list []impl.Station, data []string) []int {
	t.Helper()
	got, ok := impl.CellSignal(list, data)
	users := usersOf(list, data)
	wantSignal(t, short("CellSignal", list, data), got, ok, sent(users))
	same, ok := impl.SendAll(users)
	wantSignal(t, short("SendAll", list, data), same, ok, got)
	return got
}

// wantNoCellSignal reports a result of CellSignal that is not an empty slice and false.
func wantNoCellSignal(t *testing.T, list []impl.Station, data []string) {
	t.Helper()
	got, ok := impl.CellSignal(list, data)
	wantNoSignal(t, short("CellSignal", list, data), got, ok)
}

// wantHeard holds promise 8 against a station: its data are heard, whatever the others send, with the margin of its own strength; of a station without strength, only zeros.
func wantHeard(t *testing.T, list []impl.Station, s []int, k int, data string) {
	t.Helper()
	st := list[k]
	if strength(st) == 0 {
		data = strings.Repeat("0", len(data))
	}
	more := min(3, 600-len(data))
	got, ok := impl.CellReceive(list, s, st.Name, len(data))
	wantBits(t, short("CellReceive", st.Name, list), got, ok, data)
	// The station sends nothing any more, and is not disturbed there either.
	got, ok = impl.CellReceive(list, s, st.Name, len(data)+more)
	wantBits(t, short("CellReceive of more bits", st.Name, list), got, ok, data+strings.Repeat("0", more))
	for i, n := range despread(s, tree(st.Path), 0, len(data)+more) {
		want := 0
		if i < len(data) {
			want = strength(st) * len(tree(st.Path)) * chipAt(data, i)
		}
		if n != want {
			t.Errorf("%s: the bit %d of %q has the correlation %d, want %d", short("stations", list), i, st.Name, n, want)
			return
		}
	}
}

// TestStationsAreHeard is promise 8 for cells with all gains, whose stations send data of all kinds.
func TestStationsAreHeard(t *testing.T) {
	random := rand.New(rand.NewPCG(8, 3))
	weak, strong := 0, 0
	for _, list := range someCells() {
		kinds := make([][]string, len(list))
		for i, st := range list {
			kinds[i] = dataKinds(random, st)
		}
		for round := range 8 {
			data := make([]string, len(list))
			for i := range data {
				data[i] = kinds[i][random.IntN(len(kinds[i]))]
				if round < 2 {
					data[i] = kinds[i][3+round]
				}
			}
			s := wantCellSignal(t, list, data)
			for k, st := range list {
				wantHeard(t, list, s, k, data[k])
				if strength(st) == 0 {
					weak++
				} else {
					strong++
				}
			}
		}
	}
	if weak < 500 || strong < 1000 {
		t.Errorf("%d stations with strength, and %d without: the test shows little", strong, weak)
	}
}

// TestStationsOfSmallCellsAreHeard is promise 8 for all cells of the paths of up to two bits, all short data, and strengths from 0 on.
func TestStationsOfSmallCellsAreHeard(t *testing.T) {
	all := []string{"", "0", "1", "00", "01", "10", "11"}
	paths := slices.Concat(pathsOf(0), pathsOf(1), pathsOf(2))
	for chosen := range 1 << len(paths) {
		var list []impl.Station
		for i, path := range paths {
			if chosen>>i&1 == 1 {
				list = append(list, impl.Station{Name: nameOf(i), Path: path, Gain: []int{0, 5, 3, 1000}[(i+chosen)%4], Loss: 1 + i%3})
			}
		}
		if !isCell(list) {
			continue
		}
		data := make([]string, len(list))
		for n := range power(len(all), len(list)) {
			for i := range data {
				data[i] = all[n%len(all)]
				n /= len(all)
			}
			s := wantCellSignal(t, list, data)
			for k := range list {
				wantHeard(t, list, s, k, data[k])
			}
		}
	}
}

// power returns n as often as a factor as count tells.
func power(n, count int) int {
	product := 1
	for range count {
		product *= n
	}
	return product
}

// TestControlledStationsAreHeard: with power control, all stations of a cell are heard equally well, and with the target 0 none is.
func TestControlledStationsAreHeard(t *testing.T) {
	random := rand.New(rand.NewPCG(8, 4))
	for round, list := range someCells() {
		target := []int{0, 1, 2, 17, 40}[round%5]
		for range impl.PowerTime(list, target) {
			list, _ = impl.PowerStep(list, target)
		}
		data := make([]string, len(list))
		for i := range data {
			data[i] = randomBits(random, 1+random.IntN(40))
		}
		s := wantCellSignal(t, list, data)
		for k, st := range list {
			wantHeard(t, list, s, k, data[k])
			margin, ok := impl.MarginOf(s, tree(st.Path), 0, data[k])
			wantNumber(t, short("MarginOf", st, target), margin, ok, target*len(tree(st.Path)))
		}
	}
}

func TestCellSignalByHand(t *testing.T) {
	for _, c := range []struct {
		cell string
		data []string
		want []int
	}{
		{"-", nil, nil}, {"-", []string{}, nil}, {"a:-:5:1", []string{"01"}, []int{5, -5}}, {"a:-:5:1", []string{""}, nil}, {"a:-:5:6", []string{"01"}, []int{0, 0}}, {"a:-:1000:1", []string{"10"}, []int{-1000, 1000}}, {"a:0:6:3", []string{"01"}, []int{2, 2, -2, -2}}, {"a:1:6:3", []string{"01"}, []int{2, -2, -2, 2}},
		{"a:0:6:3;b:10:3:2", []string{"01", "1"}, []int{1, 3, -3, -1}}, {"a:0:6:3;b:10:1:2", []string{"01", "1"}, []int{2, 2, -2, -2}}, {"a:0:2:3;b:10:1:2", []string{"01", "1"}, []int{0, 0, 0, 0}}, {"a:0:0:3;b:10:0:2", []string{"0", ""}, []int{0, 0}},
		{"a:0:6:3;b:10:3:2", []string{"", "1"}, []int{-1, 1, -1, 1}}, {"a:0:6:3;b:10:3:2", []string{"0", ""}, []int{2, 2}}, {"a:0:6:3;b:10:3:2", []string{"", ""}, nil}, {"a:0:6:3;b:10:3:2", []string{"1", "00"}, []int{-1, -3, 1, -1, 1, -1, 1, -1}}, {"a:0:6:3;b:10:3:2", []string{"111", "0"}, []int{-1, -3, -1, -3, -2, -2}},
		{"b:10:3:2;a:0:6:3", []string{"1", "01"}, []int{1, 3, -3, -1}}, {"b:10:3:2;a:0:6:3", []string{"01", "1"}, []int{-1, -3, 1, -1, -1, 1, -1, 1}},
		{"a:-:1:1", []string{strings.Repeat("1", 600)}, slices.Repeat([]int{-1}, 600)}, {"a:000000:1:1", []string{strings.Repeat("1", 46)}, slices.Repeat([]int{-1}, 46*64)},
		{cellText([]impl.Station{{Name: "a", Path: "000", Gain: 1000, Loss: 1}, {Name: "b", Path: "001", Gain: 1000, Loss: 1}, {Name: "c", Path: "01", Gain: 1000, Loss: 1}, {Name: "d", Path: "1", Gain: 1000, Loss: 1}}), []string{"1", "1", "11", "1111"}, []int{-4000, -2000, -2000, 0, -2000, 0, 0, 2000}},
	} {
		list, ok := impl.ParseCell(c.cell)
		wantBool(t, short("ParseCell", c.cell), ok, true)
		got, ok := impl.CellSignal(list, c.data)
		wantSignal(t, short("CellSignal", c.cell, c.data), got, ok, c.want)
	}
}

func TestNoCellSignal(t *testing.T) {
	for _, list := range someCells() {
		data := make([]string, len(list)+2)
		wantNoCellSignal(t, list, data)
		wantNoCellSignal(t, list, data[:len(list)+1])
		wantCellSignal(t, list, data[:len(list)])
		if len(list) > 0 {
			wantNoCellSignal(t, list, data[:len(list)-1])
			wantNoCellSignal(t, list, nil)
		}
		for i := range list {
			for _, bad := range append([]string{strings.Repeat("0", 3000/len(tree(list[i].Path))+1)}, invalidBits...) {
				data := make([]string, len(list))
				data[i] = bad
				wantNoCellSignal(t, list, data)
			}
		}
		if len(list) > 1 {
			wantNoCellSignal(t, list, slices.Repeat([]string{"x"}, len(list)))
			wantNoCellSignal(t, list, append([]string{"2", strings.Repeat("1", 601)}, data[2:len(list)]...))
		}
	}
	for _, list := range invalidCells() {
		wantNoCellSignal(t, list, make([]string, len(list)))
		wantNoCellSignal(t, list, slices.Repeat([]string{"01"}, len(list)))
		wantNoCellSignal(t, list, nil)
	}
	for depth := range 7 {
		list, most := stationsAt(pathsOf(depth)[0]), min(600, 3000>>depth)
		wantCellSignal(t, list, []string{strings.Repeat("1", most)})
		wantNoCellSignal(t, list, []string{strings.Repeat("1", most+1)})
	}
	wantNoCellSignal(t, nil, []string{""})
	wantNoCellSignal(t, nil, []string{"01"})
}

func TestCellReceive(t *testing.T) {
	random := rand.New(rand.NewPCG(8, 5))
	cells := someCells()
	for i, s := range someSignals() {
		for _, list := range [][]impl.Station{cells[2], cells[6], cells[9], cells[random.IntN(len(cells))], cells[i%len(cells)]} {
			for _, st := range list {
				for _, count := range []int{0, 1, 2, random.IntN(601), 600} {
					got, ok := impl.CellReceive(list, s, st.Name, count)
					wantBits(t, short("CellReceive", st, count, s), got, ok, heard(st, s, count))
				}
			}
		}
	}
	list, _ := impl.ParseCell("a:0:6:3;b:10:3:2")
	for _, c := range []struct {
		s     []int
		name  string
		count int
		want  string
	}{
		{[]int{1, 3, -3, -1}, "a", 2, "01"}, {[]int{1, 3, -3, -1}, "b", 1, "1"}, {[]int{1, 3, -3, -1}, "a", 1, "0"}, {[]int{1, 3, -3, -1}, "a", 0, ""}, {[]int{1, 3, -3, -1}, "a", 4, "0100"}, {[]int{1, 3, -3, -1}, "b", 3, "100"},
		// Signals that end early, and sums that are 0.
		{nil, "a", 2, "00"}, {nil, "b", 0, ""}, {[]int{-1}, "a", 2, "10"}, {[]int{0, 1}, "b", 1, "1"}, {[]int{1, 1, 1}, "b", 1, "0"}, {[]int{1, -1, 1, -1}, "a", 2, "00"}, {[]int{5, 5, 5, 5, 0, 1}, "b", 2, "01"}, {[]int{1000000, -1000000, -1}, "a", 2, "01"}, {slices.Repeat([]int{-1}, 3000), "a", 600, strings.Repeat("1", 600)},
	} {
		got, ok := impl.CellReceive(list, c.s, c.name, c.count)
		wantBits(t, short("CellReceive", c), got, ok, c.want)
	}
}

// wantNotHeard reports a result of CellReceive that is not the empty string and false.
func wantNotHeard(t *testing.T, list []impl.Station, s []int, name string, count int) {
	t.Helper()
	got, ok := impl.CellReceive(list, s, name, count)
	wantNoBits(t, short("CellReceive", name, count, list, s), got, ok)
}

func TestNoCellReceive(t *testing.T) {
	s := []int{1, 3, -3, -1}
	for _, list := range someCells() {
		for _, name := range append([]string{"qqq", "other"}, noNames...) {
			wantNotHeard(t, list, s, name, 1)
			wantNotHeard(t, list, nil, name, 0)
		}
		for _, st := range list[:min(len(list), 2)] {
			for _, count := range noCounts {
				wantNotHeard(t, list, s, st.Name, count)
				wantNotHeard(t, list, nil, st.Name, count)
			}
			for _, other := range invalidSignals() {
				wantNotHeard(t, list, other, st.Name, 0)
				wantNotHeard(t, list, other, st.Name, 1)
			}
			wantNotHeard(t, list, s, st.Name+"x", 1)
			wantNotHeard(t, list, s, st.Path, 1)
		}
	}
	for _, list := range invalidCells() {
		for _, name := range []string{list[0].Name, list[len(list)-1].Name, "a", "b", "q", ""} {
			wantNotHeard(t, list, s, name, 1)
			wantNotHeard(t, list, nil, name, 0)
		}
	}
}

func TestCellSignalResultsAreNew(t *testing.T) {
	list := []impl.Station{{Name: "a", Path: "0", Gain: 6, Loss: 3}, {Name: "b", Path: "10", Gain: 4, Loss: 2}}
	wantNewResults(t, map[string]func() ([]int, bool){
		"CellSignal":      func() ([]int, bool) { return impl.CellSignal(list, []string{"01", "1"}) },
		"CellSignal, one": func() ([]int, bool) { return impl.CellSignal(list[:1], []string{"01"}) },
		"CellSignal, no stations": func() ([]int, bool) {
			return impl.CellSignal(nil, nil)
		},
	}, nil)
}

// TestCellSignalOfManyAtOnce: many cells that send at the same time, on one processor or on several, do not touch each other, and nothing of them goes on behind the result.
func TestCellSignalOfManyAtOnce(t *testing.T) {
	cells := someCells()
	for _, processors := range []int{1, 2, 8} {
		before := runtime.GOMAXPROCS(processors)
		var callers sync.WaitGroup
		for caller := range 8 {
			callers.Go(func() {
				random := rand.New(rand.NewPCG(8, uint64(caller)))
				for range 100 {
					list := cells[random.IntN(len(cells))]
					data := make([]string, len(list))
					for i := range data {
						data[i] = randomBits(random, random.IntN(20))
					}
					wantCellSignal(t, list, data)
					if len(list) > 0 {
						data[random.IntN(len(list))] = "x"
						wantNoCellSignal(t, list, data)
					}
				}
			})
		}
		callers.Wait()
		runtime.GOMAXPROCS(before)
	}
}

// TestUsersEnd: the goroutines of the users have ended when the signal is there.
func TestUsersEnd(t *testing.T) {
	list, before := stationsAt(pathsOf(3)...), runtime.NumGoroutine()
	for range 200 {
		impl.CellSignal(list, slices.Repeat([]string{"01"}, 8))
		impl.CellSignal(list, []string{"0", "1", "x", "0", "1", "2", "0", ""})
	}
	// A goroutine that has told its end may need a moment to be gone.
	for end := time.Now().Add(10 * time.Second); runtime.NumGoroutine() > before; time.Sleep(time.Millisecond) {
		if time.Now().After(end) {
			t.Fatal(fmt.Sprint(runtime.NumGoroutine()-before) + " goroutines are left")
		}
	}
}

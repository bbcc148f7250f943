package tests

import (
	"fmt"
	"math"
	"slices"
	"strings"
	"testing"

	"loop.example/spreadspectrum/impl"
)

// wantCell reports a result that is not the wanted cell and true.
func wantCell(t *testing.T, call string, got []impl.Station, ok bool, want []impl.Station) {
	t.Helper()
	if !slices.Equal(got, want) || !ok {
		t.Errorf("%s = %.300s, %v, want %.300s, true", call, fmt.Sprint(got), ok, fmt.Sprint(want))
	}
}

// wantNoCell reports a result that is not an empty slice and false.
func wantNoCell(t *testing.T, call string, got []impl.Station, ok bool) {
	t.Helper()
	if len(got) != 0 || ok {
		t.Errorf("%s = %.300s, %v, want none, false", call, fmt.Sprint(got), ok)
	}
}

// wantText reports a text that is not the wanted one.
func wantText(t *testing.T, call string, got, want string) {
	t.Helper()
	if got != want {
		t.Errorf("%s = %.500q, want %.500q", call, got, want)
	}
}

// wantStation holds the functions that take a list against a list of one station.
func wantStation(t *testing.T, st impl.Station, want bool) {
	t.Helper()
	wantBool(t, short("CellValid", st), impl.CellValid([]impl.Station{st}), want)
	text := impl.FormatCell([]impl.Station{st})
	if want {
		wantText(t, short("FormatCell", st), text, stationText(st))
		list, ok := impl.ParseCell(text)
		wantCell(t, short("ParseCell", text), list, ok, []impl.Station{st})
		return
	}
	wantText(t, short("FormatCell", st), text, "")
	list, ok := impl.ParseCell(stationText(st))
	if again, is := parsedCell(stationText(st)); !is {
		wantNoCell(t, short("ParseCell", st), list, ok)
	} else {
		// Only the path `-` is written like another one.
		wantCell(t, short("ParseCell", st), list, ok, again)
	}
}

func TestCellValidAndFormatCell(t *testing.T) {
	sizes := map[int]int{}
	for _, list := range someCells() {
		wantBool(t, short("CellValid", list), impl.CellValid(list), true)
		wantText(t, short("FormatCell", list), impl.FormatCell(list), cellText(list))
		sizes[len(list)]++
		if !isCell(list) {
			t.Errorf("%v is no cell", list)
		}
	}
	for size := range 9 {
		if sizes[size] < 2 {
			t.Errorf("%d cells of %d stations: the test shows little", sizes[size], size)
		}
	}
	for _, list := range invalidCells() {
		wantBool(t, short("CellValid", list), impl.CellValid(list), false)
		wantText(t, short("FormatCell", list), impl.FormatCell(list), "")
		if isCell(list) {
			t.Errorf("%s is a cell", short("list", list))
		}
	}
}

func TestStationsAtTheLimits(t *testing.T) {
	for _, st := range invalidStations() {
		wantStation(t, st, false)
	}
	for b := range 256 {
		for _, name := range []string{string([]byte{byte(b)}), string([]byte{'a', byte(b)}), string([]byte{byte(b), 'z'}), "abcdefg" + string([]byte{byte(b)})} {
			wantStation(t, impl.Station{Name: name, Path: "01", Gain: 5, Loss: 2}, b >= 'a' && b <= 'z')
		}
		for _, path := range []string{string([]byte{byte(b)}), string([]byte{'0', byte(b)}), string([]byte{byte(b), '1'}), "01010" + string([]byte{byte(b)})} {
			wantStation(t, impl.Station{Name: "q", Path: path, Gain: 5, Loss: 2}, b == '0' || b == '1')
		}
	}
	for length := range 12 {
		wantStation(t, impl.Station{Name: "abcdefghijkl"[:length], Path: "01", Loss: 1}, length >= 1 && length <= 8)
		wantStation(t, impl.Station{Name: "q", Path: "010011010101"[:length], Loss: 1}, length <= 6)
	}
	for _, path := range allPaths() {
		wantStation(t, impl.Station{Name: "q", Path: path, Gain: 1000, Loss: 20}, true)
	}
	for n := -30; n <= 1030; n++ {
		wantStation(t, impl.Station{Name: "q", Path: "01", Gain: n, Loss: 1}, n >= 0 && n <= 1000)
		wantStation(t, impl.Station{Name: "q", Path: "01", Gain: 1, Loss: n}, n >= 1 && n <= 20)
	}
}

// TestPathsOfTwoStations holds all pairs of short paths, and each path beside the longest ones.
func TestPathsOfTwoStations(t *testing.T) {
	paths := allPaths()
	for i, p := range paths {
		for j, q := range paths {
			if i > 30 && j > 30 && (i+j)%7 != 0 {
				continue
			}
			list := []impl.Station{{Name: "a", Path: p, Loss: 1}, {Name: "b", Path: q, Loss: 1}}
			wantBool(t, short("CellValid", list), impl.CellValid(list), !conflict(p, q))
		}
	}
	for _, names := range [][2]string{{"a", "a"}, {"a", "b"}, {"a", "aa"}, {"aa", "a"}, {"abcdefgh", "abcdefgh"}, {"abcdefgh", "abcdefgi"}, {"abcdefgh", "abcdefg"}} {
		list := []impl.Station{{Name: names[0], Path: "0", Loss: 1}, {Name: names[1], Path: "1", Loss: 1}}
		wantBool(t, short("CellValid", list), impl.CellValid(list), names[0] != names[1])
	}
}

func TestParseCell(t *testing.T) {
	for _, list := range someCells() {
		got, ok := impl.ParseCell(cellText(list))
		wantCell(t, short("ParseCell", cellText(list)), got, ok, list)
	}
	for _, list := range invalidCells() {
		var texts []string
		for _, st := range list {
			texts = append(texts, stationText(st))
		}
		text := strings.Join(texts, ";")
		want, is := parsedCell(text)
		got, ok := impl.ParseCell(text)
		if is {
			wantCell(t, short("ParseCell", text), got, ok, want)
		} else {
			wantNoCell(t, short("ParseCell", text), got, ok)
		}
	}
	for text, want := range map[string][]impl.Station{
		"-": nil, "a:-:1:1": {{Name: "a", Gain: 1, Loss: 1}}, "a:0:6:3;b:10:1:2": {{Name: "a", Path: "0", Gain: 6, Loss: 3}, {Name: "b", Path: "10", Gain: 1, Loss: 2}}, "b:10:1:2;a:0:0:3": {{Name: "b", Path: "10", Gain: 1, Loss: 2}, {Name: "a", Path: "0", Loss: 3}},
		"abcdefgh:111111:1000:20": {{Name: "abcdefgh", Path: "111111", Gain: 1000, Loss: 20}}, "z:000000:0:1": {{Name: "z", Path: "000000", Loss: 1}},
	} {
		got, ok := impl.ParseCell(text)
		wantCell(t, short("ParseCell", text), got, ok, want)
	}
}

// noCellTexts are texts of no cell, most of them close to one.
var noCellTexts = []string{
	"", " ", "--", "- ", " -", "-;", ";-", "-;-", ";", ";;", ":", ":::", "a", "a:", "a:0", "a:0:6", "a:0:6:", "a:0::3", "a::6:3", ":0:6:3", ":-:6:3", "a:0:6:3:", "a:0:6:3:4", ":a:0:6:3", "a:0:6:3:b:1:1:1", "a:0:6,3", "a 0 6 3",
	"a:0:6:3;", ";a:0:6:3", "a:0:6:3;;b:10:1:2", ";a:0:6:3;b:10:1:2", "a:0:6:3;b:10:1:2;", "a:0:6:3;b", "a:0:6:3;-", "-;a:0:6:3", "a:0:6:3;b:10:1", "a:0:6:3;b:10:1:2:2", "a:0:6:3,b:10:1:2", "a:0:6:3:b:10:1:2",
	"a:0:06:3", "a:0:6:03", "a:0:00:3", "a:0:-0:3", "a:0:6:-3", "a:0:-6:3", "a:0:+6:3", "a:0:6:+3", "a:0:6:0", "a:0:6:-0", "a:0:6:00", "a:0: 6:3", "a:0:6 :3", "a:0:6: 3", "a:0:6:3 ", " a:0:6:3", "a:0:6:3\n", "a:0:6.0:3", "a:0:6:3.0", "a:0:1e2:3", "a:0:0x6:3", "a:0:6_0:3", "a:0:x:3", "a:0:6:x", "a:0:-:3", "a:0:6:-", "a:0:\u0666:3", "a:0:6:\u0663",
	"a:0:1001:3", "a:0:6:21", "a:0:-1:3", "a:0:6:-1", "a:0:9223372036854775807:3", "a:0:9223372036854775808:3", "a:0:18446744073709551622:3", "a:0:6:18446744073709551619", "a:0:-9223372036854775808:3", "a:0:-9223372036854775809:3", "a:0:6:9223372036854775808", "a:0:" + strings.Repeat("9", 400) + ":3", "a:0:6:" + strings.Repeat("1", 400), "a:0:" + strings.Repeat("0", 400) + "6:3",
	"A:0:6:3", "abcdefghi:0:6:3", "a-:0:6:3", "-:0:6:3", "a1:0:6:3", "a\x00:0:6:3", "\xff:0:6:3", "\u00e4:0:6:3", "a:0000000:6:3", "a:2:6:3", "a:0-:6:3", "a:-0:6:3", "a:--:6:3", "a: :6:3", "a:x:6:3",
	"a:0:6:3;a:0:6:3", "a:0:6:3;a:1:1:1", "a:0:6:3;b:00:1:1", "a:00:6:3;b:0:1:1", "a:-:6:3;b:0:1:1", "a:0:6:3;b:-:1:1", "a:-:6:3;b:-:1:1", "a:0:6:3;b:1:1:1;a:11:1:1",
	"a:0:6:3;b:10:1:2\n", "a:0:6:3\n;b:10:1:2", "a:0:6:3; b:10:1:2", "cell a:0:6:3", strings.Repeat(";", 1000), strings.Repeat(":", 1000), strings.Repeat("a:0:6:3;", 10000),
}

func TestParseCellOfOtherTexts(t *testing.T) {
	for _, text := range noCellTexts {
		got, ok := impl.ParseCell(text)
		wantNoCell(t, short("ParseCell", text), got, ok)
	}
	// The text of nine stations is one of eight, and another station.
	text := cellText(stationsAt(pathsOf(6)[:8]...))
	list, ok := impl.ParseCell(text)
	wantCell(t, "ParseCell of eight stations", list, ok, stationsAt(pathsOf(6)[:8]...))
	list, ok = impl.ParseCell(text + ";q:1:1:1")
	wantNoCell(t, "ParseCell of nine stations", list, ok)
}

// TestParseCellOfAllChanges changes, drops and adds each byte of a text.
func TestParseCellOfAllChanges(t *testing.T) {
	found := 0
	for _, text := range []string{"-", "a:-:0:1", "ab:01:10:20;c:1:1000:7", "a:0:6:3;b:10:1:2;c:110:5:11"} {
		for i := range len(text) + 1 {
			changes := []string{text[:i]}
			for _, b := range "09 12-:;aAz`{+\n\x00" {
				changes = append(changes, text[:i]+string(b)+text[i:])
				if i < len(text) {
					changes = append(changes, text[:i]+string(b)+text[i+1:], text[:i]+text[i+1:])
				}
			}
			for _, other := range changes {
				want, is := parsedCell(other)
				got, ok := impl.ParseCell(other)
				if ok != is || !slices.Equal(got, want) {
					t.Errorf("ParseCell(%q) = %v, %v, want %v, %v", other, got, ok, want, is)
				}
				if is {
					found++
					wantText(t, short("FormatCell of ParseCell", other), impl.FormatCell(got), other)
				}
			}
		}
	}
	if found < 100 {
		t.Errorf("only %d texts of cells: the test shows little", found)
	}
}

// wantAdmission holds AdmitStation against the model.
func wantAdmission(t *testing.T, list []impl.Station, name string, depth, loss int) bool {
	t.Helper()
	want, is := admitted(list, name, depth, loss)
	got, ok := impl.AdmitStation(list, name, depth, loss)
	if is {
		wantCell(t, short("AdmitStation", list, name, depth, loss), got, ok, want)
	} else {
		wantNoCell(t, short("AdmitStation", list, name, depth, loss), got, ok)
	}
	return is
}

func TestAdmitStation(t *testing.T) {
	full, open := 0, 0
	for _, list := range someCells() {
		names := []string{"a", "q", "zz", "abcdefgh"}
		for _, st := range list {
			names = append(names, st.Name)
		}
		for depth := -1; depth <= 7; depth++ {
			for i, name := range names {
				if wantAdmission(t, list, name, depth, 1+(depth+i+1)%20) {
					open++
				} else {
					full++
				}
			}
		}
		for _, name := range noNames {
			wantAdmission(t, list, name, 6, 1)
		}
		for loss := -1; loss <= 22; loss++ {
			wantAdmission(t, list, "qq", 6, loss)
		}
		for _, loss := range noLosses {
			wantAdmission(t, list, "qq", 6, loss)
		}
		for _, depth := range noDepths {
			wantAdmission(t, list, "qq", depth, 1)
		}
	}
	if full < 1000 || open < 1000 {
		t.Errorf("%d stations were admitted, and %d not: the test shows little", open, full)
	}
	for _, list := range invalidCells() {
		for _, depth := range []int{0, 2, 6} {
			got, ok := impl.AdmitStation(list, "new", depth, 1)
			wantNoCell(t, short("AdmitStation", depth, list), got, ok)
		}
	}
}

func TestAdmitStationByHand(t *testing.T) {
	for _, c := range []struct {
		cell, name  string
		depth, loss int
		want        string
	}{
		{"-", "a", 0, 1, "a:-:1:1"}, {"-", "a", 1, 20, "a:0:1:20"}, {"-", "abcdefgh", 6, 3, "abcdefgh:000000:1:3"}, {"a:0:6:3;b:10:1:2", "c", 2, 5, "a:0:6:3;b:10:1:2;c:11:1:5"}, {"a:0:6:3;b:10:1:2", "c", 6, 5, "a:0:6:3;b:10:1:2;c:110000:1:5"},
		{"a:1:1000:1", "b", 1, 1, "a:1:1000:1;b:0:1:1"}, {"a:01:0:1", "b", 3, 1, "a:01:0:1;b:000:1:1"}, {"a:00:0:1", "b", 2, 1, "a:00:0:1;b:01:1:1"}, {"a:00:0:1", "b", 1, 1, "a:00:0:1;b:1:1:1"}, {"b:1:0:1", "a", 1, 1, "b:1:0:1;a:0:1:1"},
		// No path is free, the name is that of a station, or depth or loss is past a limit.
		{"a:-:1:1", "b", 0, 1, ""}, {"a:-:1:1", "b", 6, 1, ""}, {"a:0:6:3;b:10:1:2", "c", 1, 5, ""}, {"a:0:6:3;b:10:1:2", "c", 0, 5, ""}, {"a:0:1:1;b:1:1:1", "c", 6, 1, ""}, {"a:111111:1:1", "b", 0, 1, ""},
		{"a:0:6:3;b:10:1:2", "a", 2, 5, ""}, {"a:0:6:3;b:10:1:2", "b", 2, 5, ""}, {"-", "a", -1, 1, ""}, {"-", "a", 7, 1, ""}, {"-", "a", 0, 0, ""}, {"-", "a", 0, 21, ""}, {"-", "", 0, 1, ""}, {"-", "A", 0, 1, ""}, {"-", "abcdefghi", 0, 1, ""},
	} {
		list, _ := impl.ParseCell(c.cell)
		got, ok := impl.AdmitStation(list, c.name, c.depth, c.loss)
		if c.want == "" {
			wantNoCell(t, short("AdmitStation", c), got, ok)
			continue
		}
		wantText(t, short("AdmitStation", c), impl.FormatCell(got), c.want)
		wantBool(t, short("AdmitStation", c), ok, true)
	}
	// Stations are admitted until there are MaxUsers, although there are more paths, and until the tree is full.
	for depth := range 7 {
		var list []impl.Station
		for i := range 10 {
			got, ok := impl.AdmitStation(list, nameOf(i), depth, 1)
			if i >= 8 || i >= 1<<depth {
				wantNoCell(t, short("AdmitStation", list), got, ok)
				continue
			}
			wantCell(t, short("AdmitStation", list), got, ok, append(slices.Clone(list), impl.Station{Name: nameOf(i), Path: pathsOf(depth)[i], Gain: 1, Loss: 1}))
			list = got
		}
		wantBool(t, short("CellValid", list), impl.CellValid(list), true)
	}
}

func TestReleaseStation(t *testing.T) {
	for _, list := range someCells() {
		for i, st := range list {
			got, ok := impl.ReleaseStation(list, st.Name)
			want, _ := released(list, st.Name)
			wantCell(t, short("ReleaseStation", i, list), got, ok, want)
			wantBool(t, short("CellValid of ReleaseStation", i, list), impl.CellValid(got), true)
			for _, name := range []string{st.Name + "x", st.Name[1:], strings.ToUpper(st.Name), " " + st.Name, st.Path} {
				want, is := released(list, name)
				got, ok = impl.ReleaseStation(list, name)
				if is {
					wantCell(t, short("ReleaseStation", name, list), got, ok, want)
				} else {
					wantNoCell(t, short("ReleaseStation", name, list), got, ok)
				}
			}
		}
		for _, name := range append([]string{"qqq", "other"}, noNames...) {
			got, ok := impl.ReleaseStation(list, name)
			wantNoCell(t, short("ReleaseStation", name, list), got, ok)
		}
	}
	for _, list := range invalidCells() {
		names := []string{"a", "b", "q", ""}
		for _, st := range list[:min(len(list), 10)] {
			names = append(names, st.Name)
		}
		for _, name := range names {
			got, ok := impl.ReleaseStation(list, name)
			wantNoCell(t, short("ReleaseStation", name, list), got, ok)
		}
	}
	for _, c := range [][3]string{{"a:-:1:1", "a", "-"}, {"a:0:6:3;b:10:1:2", "a", "b:10:1:2"}, {"a:0:6:3;b:10:1:2", "b", "a:0:6:3"}, {"a:0:6:3;b:10:1:2;c:11:1:1", "b", "a:0:6:3;c:11:1:1"}} {
		list, _ := impl.ParseCell(c[0])
		got, ok := impl.ReleaseStation(list, c[1])
		wantText(t, short("ReleaseStation", c), impl.FormatCell(got), c[2])
		wantBool(t, short("ReleaseStation", c), ok, true)
	}
}

// cellCalls are calls whose results are cells like the one of an argument, its text, or its list.
func cellCalls(list []impl.Station, text, name string) map[string]func() ([]impl.Station, bool) {
	return map[string]func() ([]impl.Station, bool){
		"ParseCell":           func() ([]impl.Station, bool) { return impl.ParseCell(text) },
		"AdmitStation":        func() ([]impl.Station, bool) { return impl.AdmitStation(list, name, 3, 5) },
		"ReleaseStation":      func() ([]impl.Station, bool) { return impl.ReleaseStation(list, list[1].Name) },
		"ReleaseStation last": func() ([]impl.Station, bool) { return impl.ReleaseStation(list, list[2].Name) },
		"PowerStep":           func() ([]impl.Station, bool) { return impl.PowerStep(list, 7) },
		"PowerStep, at goals": func() ([]impl.Station, bool) { return impl.PowerStep(list, 2) },
	}
}

// textsOf returns the names and the paths of stations.
func textsOf(list []impl.Station) []string {
	var texts []string
	for _, st := range list {
		texts = append(texts, st.Name, st.Path)
	}
	return texts
}

// TestCellResultsAreNew changes each result, also in what is left of its memory, and looks at the argument, at its texts and at other results.
func TestCellResultsAreNew(t *testing.T) {
	text := "first:0001:6:3;second:10:4:2;third:010101:2:1"
	name := strings.Clone("fourth")
	room, _ := parsedCell(strings.Clone(text))
	room = append(room, impl.Station{Name: "behind", Path: "0", Gain: 77, Loss: 7})
	before := slices.Clone(room)
	list := room[:3]
	for call, make := range cellCalls(list, text, name) {
		first, ok := make()
		want := slices.Clone(first)
		second, _ := make()
		wantBool(t, call, ok && len(first) > 0, true)
		for _, a := range textsOf(first) {
			for _, b := range append(append(textsOf(list), text, name), textsOf(second)...) {
				if overlap(a, b) {
					t.Errorf("%s: the text %q is in the memory of %q", call, a, b)
				}
			}
		}
		for i := range first[:cap(first)] {
			first[:cap(first)][i] = impl.Station{Name: "x", Gain: math.MinInt}
		}
		third, ok := make()
		wantCell(t, call+" again", second, true, want)
		wantCell(t, call+" anew", third, ok, want)
		wantCell(t, "the argument of "+call, room, true, before)
	}
	one := list[:1]
	first, second := impl.FormatCell(one), impl.FormatCell(one)
	if overlap(first, second) || overlap(first, one[0].Name) {
		t.Error("FormatCell: a result shares memory")
	}
}

// TestCellArgumentsStay looks for changes of arguments and of the memory behind them.
func TestCellArgumentsStay(t *testing.T) {
	room := append(stationsAt("0", "10", "110", "111"), impl.Station{Name: "behind", Path: "x", Gain: -5})
	data, s := []string{"01", "1", "110", "01", "behind"}, []int{4, -5, 6, 7, -88, 99}
	before := slices.Clone(room)
	list := room[:4]
	impl.CellValid(list)
	impl.FormatCell(list)
	impl.AdmitStation(list[:3], "new", 3, 1)
	impl.AdmitStation(list, "new", 3, 1)
	impl.ReleaseStation(list, list[0].Name)
	impl.ReleaseStation(list, list[3].Name)
	impl.PowerStep(list, 11)
	impl.PowerTime(list, 11)
	impl.CellSignal(list, data[:4])
	impl.CellSignal(list[:2], data[:2])
	impl.CellReceive(list, s[:4], list[2].Name, 9)
	if !slices.Equal(room, before) || !slices.Equal(data, []string{"01", "1", "110", "01", "behind"}) || !slices.Equal(s, []int{4, -5, 6, 7, -88, 99}) {
		t.Errorf("arguments have changed to %v, %q and %v", room, data, s)
	}
}

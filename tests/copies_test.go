package tests

import (
	"math"
	"math/rand/v2"
	"slices"
	"strings"
	"testing"

	"loop.example/spreadspectrum/impl"
)

// allChannels are the channels in descending order.
var allChannels = []int{15, 14, 13, 12, 11, 10, 9, 8, 7, 6, 5, 4, 3, 2, 1, 0}

// wantNoSending reports results of SendHops and CopiesNeeded that do not tell that the arguments are invalid.
func wantNoSending(t *testing.T, data string, h, jammed []int) {
	t.Helper()
	got, ok := impl.SendHops(data, h, jammed)
	wantNoBits(t, short("SendHops", data, h, jammed), got, ok)
	for _, most := range []int{0, 1, 16, 17} {
		wantInt(t, short("CopiesNeeded", most, data, h, jammed), impl.CopiesNeeded(data, h, jammed, most), -1)
	}
}

// wantNoRemap reports a result of RemapHops that is not an empty slice and false.
func wantNoRemap(t *testing.T, h []int, channels int, bad []int) {
	t.Helper()
	got, ok := impl.RemapHops(h, channels, bad)
	wantNoSignal(t, short("RemapHops", channels, h, bad), got, ok)
}

func TestJammedHops(t *testing.T) {
	for _, channels := range []int{1, 2, 5, 16} {
		for _, h := range someHops(channels) {
			for _, jammed := range someJammed() {
				wantInt(t, short("JammedHops", h, jammed), impl.JammedHops(h, jammed), jammedCount(h, jammed))
			}
			for _, jammed := range invalidJammed() {
				wantInt(t, short("JammedHops", h, jammed), impl.JammedHops(h, jammed), -1)
			}
		}
	}
	for _, h := range invalidHops(16) {
		for _, jammed := range [][]int{nil, {0}, {15}, allChannels, make([]int, 17), {-1}} {
			wantInt(t, short("JammedHops", h, jammed), impl.JammedHops(h, jammed), -1)
		}
	}
	h := []int{0, 2, 2, 15}
	for _, c := range []struct {
		jammed []int
		want   int
	}{{nil, 0}, {[]int{2}, 2}, {[]int{2, 2, 2}, 2}, {[]int{1, 3}, 0}, {[]int{15, 0}, 2}, {[]int{0, 2, 15}, 4}, {allChannels, 4}, {slices.Repeat([]int{2}, 16), 2}, {slices.Repeat([]int{2}, 17), -1}, {[]int{16}, -1}, {[]int{2, -1}, -1}} {
		wantInt(t, short("JammedHops", c.jammed), impl.JammedHops(h, c.jammed), c.want)
	}
	wantInt(t, "JammedHops of no hops", impl.JammedHops(nil, allChannels), 0)
	wantInt(t, "JammedHops of the most hops", impl.JammedHops(make([]int, 300), []int{0}), 300)
}

func TestRemapHops(t *testing.T) {
	for channels := 1; channels <= 16; channels++ {
		for _, h := range someHops(channels) {
			for _, bad := range someJammed() {
				want, is := remapped(h, channels, bad)
				if !is {
					wantNoRemap(t, h, channels, bad)
					continue
				}
				got, ok := impl.RemapHops(h, channels, bad)
				wantSignal(t, short("RemapHops", channels, h, bad), got, ok, want)
				wantInt(t, short("JammedHops of RemapHops", channels, h, bad), impl.JammedHops(got, bad), 0)
			}
			for _, bad := range invalidJammed() {
				wantNoRemap(t, h, channels, bad)
			}
			wantNoRemap(t, h, channels, allChannels)
			wantNoRemap(t, h, channels, allChannels[16-channels:])
		}
		for _, h := range invalidHops(channels) {
			for _, bad := range [][]int{nil, {0}, {15}, allChannels, make([]int, 17), {16}} {
				wantNoRemap(t, h, channels, bad)
			}
		}
	}
	for _, channels := range noChannels {
		for _, h := range [][]int{nil, {0}, {channels - 1}} {
			for _, bad := range [][]int{nil, {1}, {0}} {
				wantNoRemap(t, h, channels, bad)
			}
		}
	}
}

func TestRemapHopsByHand(t *testing.T) {
	for _, c := range []struct {
		h        []int
		channels int
		bad      []int
		want     []int
	}{
		{[]int{0, 1, 2, 3}, 4, []int{1, 3}, []int{0, 2, 2, 2}}, {[]int{0, 1, 2, 3}, 4, []int{3, 1, 1, 3}, []int{0, 2, 2, 2}}, {[]int{0, 1, 2, 3}, 4, nil, []int{0, 1, 2, 3}}, {[]int{0, 1, 2, 3}, 4, []int{0, 1, 2}, []int{3, 3, 3, 3}},
		{[]int{3, 2, 1, 0}, 4, []int{0}, []int{3, 2, 1, 1}}, {[]int{3, 2, 1, 0}, 4, []int{2, 3}, []int{1, 0, 1, 0}}, {[]int{0, 1, 2, 3}, 4, []int{4, 9, 15}, []int{0, 1, 2, 3}}, {[]int{0, 1, 2, 3}, 4, []int{15, 2, 4}, []int{0, 1, 3, 3}},
		{[]int{0, 0}, 1, []int{1, 2}, []int{0, 0}}, {nil, 4, []int{1}, nil}, {[]int{5, 6, 7}, 8, []int{6, 5}, []int{7, 0, 7}}, {[]int{14, 15}, 16, []int{15}, []int{14, 0}}, {[]int{14, 15}, 16, []int{14}, []int{15, 15}},
	} {
		got, ok := impl.RemapHops(c.h, c.channels, c.bad)
		wantSignal(t, short("RemapHops", c.channels, c.h, c.bad), got, ok, c.want)
	}
	wantNoRemap(t, []int{0}, 1, []int{0})
	wantNoRemap(t, nil, 1, []int{0})
	wantNoRemap(t, nil, 3, []int{2, 0, 1})
	wantNoRemap(t, []int{2}, 3, []int{2, 0, 1, 9})
	wantNoRemap(t, []int{3}, 3, []int{2})
}

// dataFor returns bits that are fewer and more than the hops, and as many.
func dataFor(random *rand.Rand, hops int) []string {
	list := []string{"", "0", "1", "01"}
	for _, length := range []int{3, hops - 1, hops, hops + 1, 2*hops - 1, 2 * hops, 599, 600} {
		if length > 0 && length <= 600 {
			list = append(list, randomBits(random, length))
		}
	}
	return list
}

func TestSendHops(t *testing.T) {
	random := rand.New(rand.NewPCG(7, 301))
	for _, channels := range []int{1, 3, 16} {
		for _, h := range someHops(channels) {
			if len(h) == 0 {
				continue
			}
			for _, data := range dataFor(random, len(h)) {
				for i, jammed := range someJammed() {
					if len(data) > 100 && i%5 != 0 {
						continue
					}
					got, ok := impl.SendHops(data, h, jammed)
					wantBits(t, short("SendHops", data, h, jammed), got, ok, copySent(data, 0, h, jammed))
				}
			}
		}
	}
	h := []int{0, 1, 2}
	for _, c := range []struct {
		data   string
		h      []int
		jammed []int
		want   string
	}{
		{"0110", h, []int{1}, "0?10"}, {"0110", h, nil, "0110"}, {"0110", h, []int{0}, "?11?"}, {"0110", h, []int{2, 2}, "01?0"}, {"0110", h, []int{0, 2}, "?1??"}, {"0110", h, []int{2, 1, 0}, "????"}, {"0110", h, allChannels, "????"}, {"0110", h, []int{3, 15}, "0110"},
		{"1", h, []int{1, 2}, "1"}, {"1", h, []int{0}, "?"}, {"", h, nil, ""}, {"", h, allChannels, ""}, {"10110", []int{4}, []int{4}, "?????"}, {"10110", []int{4}, []int{5}, "10110"},
		{"1010101", []int{4, 15}, []int{15}, "1?1?1?1"}, {strings.Repeat("1", 600), []int{9, 8, 7}, []int{7}, strings.Repeat("11?", 200)}, {strings.Repeat("0", 301), append(make([]int, 299), 1), []int{0}, strings.Repeat("?", 299) + "0?"},
	} {
		got, ok := impl.SendHops(c.data, c.h, c.jammed)
		wantBits(t, short("SendHops", c.data, c.h, c.jammed), got, ok, c.want)
		wantInt(t, short("LostBits of SendHops", c.data, c.h, c.jammed), impl.LostBits(got), strings.Count(c.want, "?"))
	}
}

func TestNoSending(t *testing.T) {
	for _, data := range append([]string{"", "0", "0110", strings.Repeat("1", 600)}, invalidBits...) {
		for _, jammed := range [][]int{nil, {0}, allChannels} {
			wantNoSending(t, data, nil, jammed)
			wantNoSending(t, data, []int{}, jammed)
			for _, h := range invalidHops(16) {
				wantNoSending(t, data, h, jammed)
			}
		}
		for _, jammed := range invalidJammed() {
			wantNoSending(t, data, []int{0, 1, 2}, jammed)
			wantNoSending(t, data, []int{15}, jammed)
			wantNoSending(t, data, nil, jammed)
		}
	}
	for _, data := range append([]string{"0?1", "?"}, invalidBits...) {
		for _, h := range [][]int{{0}, {0, 1, 2}, make([]int, 300)} {
			for _, jammed := range [][]int{nil, {1}, allChannels} {
				wantNoSending(t, data, h, jammed)
			}
		}
	}
}

// copiesOf ranges over all copies of a length.
func copiesOf(length int) []string {
	list := []string{""}
	for range length {
		var longer []string
		for _, s := range list {
			longer = append(longer, s+"0", s+"1", s+"?")
		}
		list = longer
	}
	return list
}

// checkCombine holds CombineCopies against the model.
func checkCombine(t *testing.T, list ...string) bool {
	t.Helper()
	want, is := combined(list)
	got, ok := impl.CombineCopies(list)
	if got != want || ok != is {
		t.Errorf("CombineCopies %.200q = %.90q, %v, want %.90q, %v", list, got, ok, want, is)
	}
	return is
}

func TestCombineCopies(t *testing.T) {
	for length := range 4 {
		for _, a := range copiesOf(length) {
			checkCombine(t, a)
			for _, b := range copiesOf(length) {
				checkCombine(t, a, b)
				if length > 2 {
					continue
				}
				for _, c := range copiesOf(length) {
					checkCombine(t, a, b, c)
				}
			}
		}
	}
	random := rand.New(rand.NewPCG(7, 302))
	agree := 0
	for round := range 1000 {
		data := randomBits(random, random.IntN(601))
		list := make([]string, 1+random.IntN(16))
		for i := range list {
			s := []byte(data)
			for range random.IntN(3) * len(data) {
				s[random.IntN(len(s))] = '?'
			}
			list[i] = string(s)
		}
		if i := random.IntN(len(data) + 1); i < len(data) && round%2 == 1 {
			last := list[len(list)-1]
			list[len(list)-1] = last[:i] + changed(data[i:i+1]) + last[i+1:]
		}
		if checkCombine(t, list...) {
			agree++
		}
	}
	if agree < 200 || agree > 900 {
		t.Errorf("of 1000 lists of copies, %d agree: the test shows little", agree)
	}
}

func TestCombineCopiesByHand(t *testing.T) {
	for _, c := range []struct {
		list []string
		want string
	}{
		{[]string{"0??", "01?"}, "01?"}, {[]string{"01?", "0??"}, "01?"}, {[]string{""}, ""}, {slices.Repeat([]string{""}, 16), ""}, {[]string{"?"}, "?"}, {[]string{"0"}, "0"}, {[]string{"?", "?"}, "?"}, {[]string{"?", "1"}, "1"}, {[]string{"1", "?"}, "1"}, {[]string{"1", "1"}, "1"},
		{slices.Repeat([]string{"?"}, 16), "?"}, {append(slices.Repeat([]string{"??"}, 15), "10"), "10"}, {append([]string{"10"}, slices.Repeat([]string{"??"}, 15)...), "10"},
		{[]string{strings.Repeat("?", 600), strings.Repeat("1?", 300)}, strings.Repeat("1?", 300)}, {[]string{strings.Repeat("1", 600)}, strings.Repeat("1", 600)}, {[]string{"?????", "0????", "?1???", "???0?"}, "01?0?"},
	} {
		got, ok := impl.CombineCopies(c.list)
		wantBits(t, short("CombineCopies", c.list), got, ok, c.want)
	}
	for _, list := range [][]string{
		nil, {}, {"0", "1"}, {"1", "0"}, {"0", "?", "1"}, {"?", "1", "0"}, {"0?", "?1", "1?"}, {"010", "011"}, {"0", "01"}, {"01", "0"}, {"", "?"}, {"?", ""}, {"??", "??", "?"}, slices.Repeat([]string{"0"}, 17), slices.Repeat([]string{""}, 17), slices.Repeat([]string{"?"}, 18),
		append(slices.Repeat([]string{"0"}, 15), "1"), append(slices.Repeat([]string{"?"}, 15), "??"), {strings.Repeat("?", 599), strings.Repeat("?", 600)},
	} {
		got, ok := impl.CombineCopies(list)
		wantNoBits(t, short("CombineCopies", list), got, ok)
	}
	for _, text := range invalidCopies() {
		like := strings.Repeat("?", len(text))
		for _, list := range [][]string{{text}, {text, text}, {text, like}, {like, text}, {like, like, text}, {"", text}, {text, ""}, append(slices.Repeat([]string{like}, 15), text)} {
			got, ok := impl.CombineCopies(list)
			wantNoBits(t, short("CombineCopies", list), got, ok)
		}
	}
}

func TestLostBits(t *testing.T) {
	for length := range 6 {
		for _, s := range copiesOf(length) {
			wantInt(t, short("LostBits", s), impl.LostBits(s), len(s)-len(strings.ReplaceAll(s, "?", "")))
		}
	}
	for s, want := range map[string]int{"": 0, "0??": 2, "?": 1, "0": 0, "1": 0, strings.Repeat("?", 600): 600, strings.Repeat("1", 600): 0, strings.Repeat("0?1", 200): 200, strings.Repeat("?", 601): -1, strings.Repeat("0", 601): -1, "x": -1, "??x": -1, "2?": -1} {
		wantInt(t, short("LostBits", s), impl.LostBits(s), want)
	}
	for _, s := range invalidCopies() {
		wantInt(t, short("LostBits", s), impl.LostBits(s), -1)
	}
	for b := range 256 {
		want := map[int]int{'0': 0, '1': 0, '?': 1}
		for _, s := range []string{string([]byte{byte(b)}), string([]byte{'0', byte(b)}), string([]byte{byte(b), '1'})} {
			n, is := want[b]
			if !is {
				n = -1
			}
			wantInt(t, short("LostBits", s), impl.LostBits(s), n)
		}
	}
}

func TestCopiesNeeded(t *testing.T) {
	random := rand.New(rand.NewPCG(7, 303))
	counts := map[int]int{}
	for round := range 3000 {
		channels := 1 + random.IntN(16)
		h := randomHops(random, channels, 1+random.IntN(40))
		jammed := randomHops(random, channels, random.IntN(min(channels+1, 16)))
		data := randomBits(random, random.IntN(2*len(h)+3))
		if round%3 == 0 {
			// Few bits on nearly no open channels need many copies.
			h, jammed, data = randomHops(random, 16, 40), random.Perm(16)[:15], randomBits(random, 1+random.IntN(2))
		}
		for _, most := range []int{1, 2, 3, 15, 16} {
			want := needed(data, h, jammed, most)
			wantInt(t, short("CopiesNeeded", most, data, h, jammed), impl.CopiesNeeded(data, h, jammed, most), want)
			counts[want]++
		}
		for _, most := range noMosts {
			wantInt(t, short("CopiesNeeded", most, data, h, jammed), impl.CopiesNeeded(data, h, jammed, most), -1)
		}
	}
	for n := -1; n <= 16; n++ {
		if n != 0 && counts[n] < 10 {
			t.Errorf("%d is the result of only %d calls: the test shows little", n, counts[n])
		}
	}
	for _, h := range someHops(16) {
		for i, jammed := range someJammed() {
			if len(h) > 0 && i%4 == 0 {
				for _, data := range dataFor(random, len(h)) {
					wantInt(t, short("CopiesNeeded", data, h, jammed), impl.CopiesNeeded(data, h, jammed, 16), needed(data, h, jammed, 16))
				}
			}
		}
	}
}

func TestCopiesNeededByHand(t *testing.T) {
	h := []int{0, 1, 2}
	// With one bit of data, the hops are those of the copies: here, only the last one of them is not jammed.
	late := func(n int) []int { return append(make([]int, n-1), 1) }
	for _, c := range []struct {
		data   string
		h      []int
		jammed []int
		most   int
		want   int
	}{
		{"0110", h, []int{1}, 3, 2}, {"0110", h, []int{1}, 2, 2}, {"0110", h, []int{1}, 1, -1}, {"0110", h, nil, 1, 1}, {"0110", h, []int{0, 1}, 16, 3}, {"0110", h, []int{1, 1, 0}, 3, 3}, {"0110", h, []int{0, 2}, 2, -1}, {"0110", h, []int{0, 1, 2}, 16, -1}, {"0110", h, allChannels, 16, -1},
		{"0110", h, []int{1}, 0, -1}, {"0110", h, nil, 0, -1}, {"0110", h, nil, 17, -1}, {"0110", h, nil, -1, -1}, {"0110", h, nil, math.MaxInt, -1},
		// A number of hops that divides that of the bits: each bit is on the same channel in each copy.
		{"011", h, []int{1}, 16, -1}, {"011", h, []int{3}, 16, 1}, {"011011", h, []int{2}, 16, -1}, {"0110", []int{7}, []int{7}, 16, -1}, {"0110", []int{7}, []int{6}, 1, 1}, {"01", []int{4, 5}, []int{5}, 9, -1},
		// Two bits and four hops: each bit is on two channels, so that a jammed one is harmless, and two may not be.
		{"01", []int{0, 1, 2, 3}, []int{0}, 16, 2}, {"01", []int{0, 1, 2, 3}, []int{0, 1}, 16, 2}, {"01", []int{0, 1, 2, 3}, []int{0, 2}, 16, -1}, {"01", []int{0, 1, 2, 3}, []int{2, 3}, 16, 1}, {"01", []int{0, 1, 0, 2}, []int{0}, 16, -1},
		{"", h, nil, 1, 1}, {"", h, allChannels, 1, 1}, {"", h, allChannels, 16, 1}, {"", h, nil, 0, -1}, {"", h, nil, 17, -1}, {"", nil, nil, 3, -1},
		{"1", late(16), []int{0}, 16, 16}, {"1", late(16), []int{0}, 15, -1}, {"1", late(17), []int{0}, 16, -1}, {"1", late(15), []int{0}, 15, 15}, {"1", late(16), []int{0}, 17, -1}, {"0", []int{0}, nil, 17, -1},
		{strings.Repeat("01", 300), make([]int, 300), nil, 16, 1}, {strings.Repeat("1", 599), late(300), []int{1}, 16, 2}, {strings.Repeat("1", 600), late(300), []int{1}, 16, -1}, {strings.Repeat("1", 7), h, []int{0}, 1, -1}, {strings.Repeat("1", 7), h, []int{0}, 2, 2},
	} {
		wantInt(t, short("CopiesNeeded", c.most, c.data, c.h, c.jammed), impl.CopiesNeeded(c.data, c.h, c.jammed, c.most), c.want)
	}
}

// TestCopiesTogether sends copies as one long text, cuts it, and combines the parts.
func TestCopiesTogether(t *testing.T) {
	random := rand.New(rand.NewPCG(7, 304))
	read := 0
	for range 2000 {
		h := randomHops(random, 8, 1+random.IntN(20))
		jammed := randomHops(random, 8, random.IntN(6))
		data := randomBits(random, 1+random.IntN(37))
		n := impl.CopiesNeeded(data, h, jammed, 16)
		long, _ := impl.SendHops(strings.Repeat(data, 16), h, jammed)
		var list []string
		for i := 1; i <= 16; i++ {
			list = append(list, long[(i-1)*len(data):i*len(data)])
			together, ok := impl.CombineCopies(list)
			if lost := impl.LostBits(together); !ok || (lost == 0) != (n > 0 && i >= n) {
				t.Errorf("%s = %d, but %d copies have %d lost bits", short("CopiesNeeded", data, h, jammed), n, i, lost)
			}
			if n > 0 && i >= n {
				wantBits(t, short("CombineCopies", list), together, ok, data)
				read++
			}
		}
	}
	if read < 1000 {
		t.Errorf("only %d copies were read: the test shows little", read)
	}
}

// TestRemappedHopsLoseNothing: hops that avoid the jammed channels need one copy.
func TestRemappedHopsLoseNothing(t *testing.T) {
	random := rand.New(rand.NewPCG(7, 305))
	for range 500 {
		channels := 2 + random.IntN(15)
		h := randomHops(random, channels, 1+random.IntN(60))
		bad := random.Perm(channels)[:random.IntN(channels)]
		data := randomBits(random, random.IntN(200))
		good, ok := impl.RemapHops(h, channels, bad)
		if !ok || !impl.HopsValid(good, channels) {
			t.Errorf("%s = %v, %v", short("RemapHops", channels, h, bad), good, ok)
		}
		got, ok := impl.SendHops(data, good, bad)
		wantBits(t, short("SendHops", data, good, bad), got, ok, data)
		wantInt(t, short("CopiesNeeded", data, good, bad), impl.CopiesNeeded(data, good, bad, 1), 1)
	}
}

// wantSync holds SyncHops against the model, and reports whether there is such a register.
func wantSync(t *testing.T, size, taps, channels int, seen []int) bool {
	t.Helper()
	want, is := synced(size, taps, channels, seen)
	got, ok := impl.SyncHops(size, taps, channels, seen)
	if got != want || ok != is {
		t.Errorf("%s = %v, %v, want %v, %v", short("SyncHops", size, taps, channels, seen), got, ok, want, is)
	}
	return is
}

// wantNoSync reports a result of SyncHops that is not the zero value and false.
func wantNoSync(t *testing.T, size, taps, channels int, seen []int) {
	t.Helper()
	got, ok := impl.SyncHops(size, taps, channels, seen)
	wantNone(t, short("SyncHops", size, taps, channels, seen), got, ok)
}

func TestSyncHops(t *testing.T) {
	random := rand.New(rand.NewPCG(7, 306))
	found, lost := 0, 0
	for size, taps := range allTaps() {
		channels := 1 + random.IntN(16)
		r := impl.Register{Size: size, Taps: taps, State: random.IntN(1 << size)}
		seen := registerHops(r, channels, 1+random.IntN(6))
		if !wantSync(t, size, taps, channels, seen) {
			t.Errorf("SyncHops of %v, %d channels and %v: no register", r, channels, seen)
		}
		seen[random.IntN(len(seen))] = random.IntN(channels)
		if wantSync(t, size, taps, channels, seen) {
			found++
		} else {
			lost++
		}
		for _, all := range []int{1, 2, 16, 1 + random.IntN(16)} {
			wantSync(t, size, taps, all, nil)
		}
	}
	if found < 30 || lost < 30 {
		t.Errorf("%d hops have a register, and %d have none: the test shows little", found, lost)
	}
	for _, r := range someRegisters() {
		for _, channels := range []int{1, 2, 7, 16} {
			for _, count := range []int{0, 1, 299, 300} {
				seen, _ := impl.HopSequence(r, channels, count)
				got, ok := impl.SyncHops(r.Size, r.Taps, channels, seen)
				if again, _ := impl.HopSequence(got, channels, count); !ok || got.State > r.State || !slices.Equal(again, seen) {
					t.Errorf("%s = %v, %v", short("SyncHops", r, channels, seen), got, ok)
				}
			}
		}
	}
}

func TestSyncHopsByHand(t *testing.T) {
	for _, c := range []struct {
		channels int
		seen     []int
		state    int
	}{
		{8, []int{5, 3}, 5}, {8, []int{1, 5, 3, 2, 7, 4, 6, 1, 5}, 1}, {8, nil, 0}, {1, nil, 0}, {1, []int{0, 0, 0}, 0}, {1, make([]int, 300), 0}, {16, []int{7}, 7}, {16, make([]int, 300), 0}, {8, []int{0}, 0},
		// From hop to hop the states are, in a circle, 1, 5, 3, 2, 7, 4 and 6, or always 0; several of them have the same first hop.
		{2, []int{1}, 1}, {2, []int{0}, 0}, {2, []int{0, 0}, 0}, {2, []int{0, 1}, 2}, {2, []int{1, 0}, 3}, {2, []int{1, 1}, 1}, {2, []int{1, 1, 0}, 5}, {2, []int{0, 0, 1}, 4}, {4, []int{2}, 2}, {4, []int{2, 3}, 2}, {4, []int{2, 1}, 6}, {7, []int{0}, 0}, {7, []int{0, 4}, 7},
	} {
		got, ok := impl.SyncHops(3, 3, c.channels, c.seen)
		wantRegister(t, short("SyncHops", c.channels, c.seen), got, ok, impl.Register{Size: 3, Taps: 3, State: c.state})
	}
	for _, c := range []struct {
		channels int
		seen     []int
	}{{8, []int{5, 5}}, {8, []int{5, 3, 2, 1}}, {16, []int{8}}, {16, []int{15}}, {8, []int{0, 1}}, {8, []int{1, 5, 3, 2, 7, 4, 6, 1, 4}}, {2, []int{0, 1, 0, 1}}, {16, append(make([]int, 299), 1)}} {
		wantNoSync(t, 3, 3, c.channels, c.seen)
	}
	// The greatest state, and states that a step does not lead to.
	got, ok := impl.SyncHops(8, 128, 16, []int{15, 15})
	wantRegister(t, "SyncHops", got, ok, impl.Register{Size: 8, Taps: 128, State: 143})
	got, ok = impl.SyncHops(2, 2, 16, []int{3})
	wantRegister(t, "SyncHops", got, ok, impl.Register{Size: 2, Taps: 2, State: 3})
	got, ok = impl.SyncHops(2, 2, 16, []int{1, 0})
	wantRegister(t, "SyncHops", got, ok, impl.Register{Size: 2, Taps: 2, State: 1})
}

func TestNoSync(t *testing.T) {
	for _, size := range append([]int{0, 1, 9}, noSizes...) {
		for _, taps := range []int{-1, 0, 1, 3, 256} {
			for _, seen := range [][]int{nil, {0}, {1, 0}} {
				wantNoSync(t, size, taps, 1, seen)
				wantNoSync(t, size, taps, 8, seen)
			}
		}
	}
	for _, pair := range invalidTaps {
		for _, seen := range [][]int{nil, {0}, {1, 0}, make([]int, 300)} {
			wantNoSync(t, pair[0], pair[1], 8, seen)
		}
	}
	for size := 2; size <= 8; size++ {
		for _, channels := range noChannels {
			for _, seen := range [][]int{nil, {0}, {channels - 1}} {
				wantNoSync(t, size, 3, channels, seen)
			}
		}
		for _, channels := range []int{1, 2, 8, 15, 16} {
			for _, seen := range invalidHops(channels) {
				wantNoSync(t, size, 1, channels, seen)
			}
		}
		got, ok := impl.SyncHops(size, 1<<size-1, 16, nil)
		wantRegister(t, callOf("SyncHops", size), got, ok, impl.Register{Size: size, Taps: 1<<size - 1})
		wantNoSync(t, size, 1<<size, 16, nil)
		wantNoSync(t, size, 0, 16, nil)
	}
}

// TestCopyResultsAreNew: also where a result is equal to an argument, it is not the same memory.
func TestCopyResultsAreNew(t *testing.T) {
	data := strings.Repeat("01", 20)
	list := []string{data, data}
	for name, call := range map[string]func() (string, bool){
		"SendHops":           func() (string, bool) { return impl.SendHops(data, []int{3}, nil) },
		"CombineCopies":      func() (string, bool) { return impl.CombineCopies(list) },
		"CombineCopies, one": func() (string, bool) { return impl.CombineCopies(list[:1]) },
	} {
		first, ok := call()
		second, _ := call()
		if !ok || first != data || second != data || overlap(first, data) || overlap(first, second) {
			t.Errorf("%s = %q, %v, and then %q, or they share memory", name, first, ok, second)
		}
	}
}

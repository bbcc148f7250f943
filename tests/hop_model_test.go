package tests

import (
	"math"
	"math/rand/v2"
	"slices"
	"strings"

	"loop.example/spreadspectrum/impl"
)

// noChannels are numbers of channels that there are not.
var noChannels = []int{-1, 0, 17, -2, -16, 18, 255, 300, 1<<32 + 4, math.MaxInt, math.MaxInt - 1, math.MinInt, math.MinInt + 4}

// noHopCounts are numbers of hops that there are not.
var noHopCounts = []int{-1, 301, -2, -300, 302, 600, 1 << 32, math.MaxInt, math.MinInt}

// noMosts are greatest numbers of copies that there are not.
var noMosts = []int{0, 17, -1, 18, -16, 301, 1<<32 + 1, math.MaxInt, math.MinInt, math.MinInt + 1}

// letters writes hops with one letter for each channel, so that the model of sequences turns and compares them.
func letters(h []int) string {
	text := make([]byte, len(h))
	for i, channel := range h {
		text[i] = byte('a' + channel)
	}
	return string(text)
}

// channelsOf undoes letters.
func channelsOf(text string) []int {
	return signal(len(text), func(i int) int { return int(text[i] - 'a') })
}

// registerHops returns the states of a register, modulo the channels, one for as many steps as it has cells.
func registerHops(r impl.Register, channels, count int) []int {
	m := modelOf(r)
	return signal(count, func(int) int {
		state := m.state()
		for range r.Size {
			m = m.next()
		}
		for state >= channels {
			state -= channels
		}
		return state
	})
}

// up returns the channel that is d higher, or lower if d is negative, and goes on with the first one behind the last one.
func up(channel, channels, d int) int {
	for ; d > 0; d-- {
		if channel++; channel == channels {
			channel = 0
		}
	}
	for ; d < 0; d++ {
		if channel == 0 {
			channel = channels
		}
		channel--
	}
	return channel
}

// linear returns hops of which each one is as much higher as the number of the user.
func linear(channels, user, count int) []int {
	channel := 0
	return signal(count, func(i int) int {
		if i > 0 {
			channel = up(channel, channels, user)
		}
		return channel
	})
}

// meetings returns at how many indexes two users meet.
func meetings(a, b []int, k int) int {
	same, _ := agreements(letters(a), shifted(letters(b), k))
	return same
}

// mostMeetings returns the greatest number of meetings of any two users.
func mostMeetings(list [][]int) int {
	most := 0
	for i, a := range list {
		for j, b := range list {
			for _, turn := range rotations(letters(b)) {
				if same, _ := agreements(letters(a), turn); i != j {
					most = max(most, same)
				}
			}
		}
	}
	return most
}

// loads returns how often each channel stands in hops.
func loads(h []int, channels int) []int {
	return signal(channels, func(channel int) int { return strings.Count(letters(h), letters([]int{channel})) })
}

// isJammed reports whether the channel of a bit that is sent in any slot is jammed.
func isJammed(h, jammed []int, indexes ...int) bool {
	return strings.IndexByte(letters(jammed), at(letters(h), indexes...)) >= 0
}

// jammedCount returns how many hops are jammed.
func jammedCount(h, jammed []int) int {
	count := 0
	for i := range h {
		if isJammed(h, jammed, i) {
			count++
		}
	}
	return count
}

// remapped returns hops on good channels, and false if there is none.
func remapped(h []int, channels int, bad []int) ([]int, bool) {
	good := "abcdefghijklmnop"[:channels]
	for _, channel := range bad {
		good = strings.ReplaceAll(good, letters([]int{channel}), "")
	}
	if good == "" {
		return nil, false
	}
	return signal(len(h), func(i int) int {
		if isJammed(h, bad, i) {
			return int(at(good, h[i]) - 'a')
		}
		return h[i]
	}), true
}

// copySent returns the copy that is received of data whose first bit is sent in any slot.
func copySent(data string, first int, h, jammed []int) string {
	var text strings.Builder
	for i := range len(data) {
		if isJammed(h, jammed, first, i) {
			text.WriteString("?")
		} else {
			text.WriteByte(data[i])
		}
	}
	return text.String()
}

// combined returns what copies of the same length tell together, and false if they contradict each other.
func combined(list []string) (string, bool) {
	var text strings.Builder
	for i := range len(list[0]) {
		ones, zeros := 0, 0
		for _, s := range list {
			ones += strings.Count(s[i:i+1], "1")
			zeros += strings.Count(s[i:i+1], "0")
		}
		switch {
		case ones > 0 && zeros > 0:
			return "", false
		case ones > 0:
			text.WriteString("1")
		case zeros > 0:
			text.WriteString("0")
		default:
			text.WriteString("?")
		}
	}
	return text.String(), true
}

// needed returns how many copies are needed until each bit was once sent on a channel that is not jammed, or -1 if they are more than most.
func needed(data string, h, jammed []int, most int) int {
	all := 1
	for i := range len(data) {
		own := 1
		for own <= most && isJammed(h, jammed, (own-1)*len(data), i) {
			own++
		}
		all = max(all, own)
	}
	if all > most {
		return -1
	}
	return all
}

// synced returns the first register, by its state, with the hops that were seen.
func synced(size, taps, channels int, seen []int) (impl.Register, bool) {
	for state := range 1 << size {
		r := impl.Register{Size: size, Taps: taps, State: state}
		if slices.Equal(registerHops(r, channels, len(seen)), seen) {
			return r, true
		}
	}
	return none, false
}

// randomHops returns any hops of some channels.
func randomHops(random *rand.Rand, channels, count int) []int {
	return signal(count, func(int) int { return random.IntN(channels) })
}

// someHops returns hops of some channels: none, one, the most, and the lowest and the highest channel among them.
func someHops(channels int) [][]int {
	top := channels - 1
	list := [][]int{nil, {}, {0}, {top}, {0, top}, {top, 0, 0}, {top, top, 0}, make([]int, 300), slices.Repeat([]int{top}, 300), slices.Repeat([]int{0, top, top / 2}, 100)}
	random := rand.New(rand.NewPCG(7, uint64(channels)))
	for _, count := range []int{2, 3, 4, 7, 12, 16, 17, 31, 100, 255, 299, 300} {
		list = append(list, randomHops(random, channels, count))
	}
	return list
}

// invalidHops returns numbers that are no hops of some channels, because of their count or because of one of them.
func invalidHops(channels int) [][]int {
	list := [][]int{make([]int, 301), slices.Repeat([]int{channels - 1}, 301), make([]int, 302), make([]int, 600), make([]int, 100000)}
	for _, n := range []int{-1, channels, channels + 1, 16, 17, -16, 1 << 32, math.MaxInt, math.MinInt} {
		list = append(list, []int{n}, []int{n, 0}, []int{0, n}, []int{0, n, 0}, append(make([]int, 299), n), append([]int{n}, make([]int, 299)...))
	}
	return list
}

// someJammed returns jammed channels: none, one, the same one several times, all of them, and as many as there can be.
func someJammed() [][]int {
	list := [][]int{
		nil, {}, {0}, {1}, {15}, {0, 15}, {3, 1}, {2, 2, 2}, {7, 0, 7, 0}, slices.Repeat([]int{0}, 16), slices.Repeat([]int{4, 15}, 8),
		{15, 14, 13, 12, 11, 10, 9, 8, 7, 6, 5, 4, 3, 2, 1, 0}, {1, 2, 3, 4, 5, 6, 7, 8, 9, 10, 11, 12, 13, 14, 15}, {0, 1, 2, 3, 4, 5, 6, 7, 8, 9, 10, 11, 12, 13, 14},
	}
	random := rand.New(rand.NewPCG(7, 100))
	for count := 1; count <= 16; count++ {
		list = append(list, randomHops(random, 16, count), randomHops(random, 5, count))
	}
	return list
}

// invalidJammed are too many channels, or numbers that are no channels.
func invalidJammed() [][]int {
	list := [][]int{make([]int, 17), slices.Repeat([]int{15}, 17), {0, 1, 2, 3, 4, 5, 6, 7, 8, 9, 10, 11, 12, 13, 14, 15, 0}, make([]int, 18), make([]int, 300), make([]int, 301)}
	for _, n := range []int{-1, 16, -2, 17, 255, 1 << 32, math.MaxInt, math.MinInt} {
		list = append(list, []int{n}, []int{n, 3}, []int{3, n}, append(make([]int, 15), n), append([]int{n}, make([]int, 15)...))
	}
	return list
}

// invalidCopies are too long, or have bytes that are neither bits nor lost ones.
func invalidCopies() []string {
	list := []string{strings.Repeat("?", 601), strings.Repeat("0?", 301), strings.Repeat("?", 10000), "?2", "2?", "??x", "0?1 ", "\x3e", "@", "?\n", "\uff1f", "??\xff", strings.Repeat("?", 599) + "x"}
	for _, text := range invalidBits {
		if text != "?" {
			list = append(list, text)
		}
	}
	return list
}

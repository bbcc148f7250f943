package tests

import (
	"fmt"
	"math"
	"math/rand/v2"
	"slices"
	"strings"

	"loop.example/spreadspectrum/impl"
)

// invalidBits are too long, or have bytes that are no bits.
var invalidBits = []string{
	strings.Repeat("0", 601), strings.Repeat("1", 601), strings.Repeat("01", 5000),
	"2", "/", " ", "-", "?", "a", "\n", "\x00", "\x01", "\xff", "\u0661", "02", "20", "0 1", " 01", "01\n", "01x10", strings.Repeat("0", 599) + "2", "x" + strings.Repeat("1", 599),
}

// noGains are numbers that are no gains of signals.
var noGains = []int{1000001, -1000001, 2000000, 1 << 32, -1 << 32, math.MaxInt, math.MinInt, math.MinInt + 1}

// noCounts are numbers that are no counts of bits.
var noCounts = []int{-1, -2, -600, 601, 602, 3000, 1 << 32, math.MaxInt, math.MinInt}

// noDelays are numbers from which on nothing is received.
var noDelays = []int{-1, -2, -3000, 3001, 3002, 1 << 32, math.MaxInt, math.MaxInt - 1, math.MinInt}

// sampleAt returns a sample of a signal, or 0 behind its end.
func sampleAt(s []int, i int) int {
	if i < 0 || i >= len(s) {
		return 0
	}
	return s[i]
}

// chipAt returns the chip of a bit.
func chipAt(bits string, i int) int {
	if bits[i] == '1' {
		return -1
	}
	return 1
}

// signal returns as many samples as a function tells.
func signal(length int, sample func(i int) int) []int {
	s := make([]int, length)
	for i := range s {
		s[i] = sample(i)
	}
	return s
}

// spread returns the signal of data, sample by sample.
func spread(data, code string) []int {
	return signal(len(data)*len(code), func(i int) int { return chipAt(data, i/len(code)) * chipAt(code, i%len(code)) })
}

// product returns the correlation of a signal with a code at an index.
func product(s []int, code string, from int) int {
	sum := 0
	for k := range len(code) {
		sum += chipAt(code, k) * sampleAt(s, from+k)
	}
	return sum
}

// despread returns correlations, one part behind the other.
func despread(s []int, code string, from, count int) []int {
	return signal(count, func(i int) int { return product(s, code, from+i*len(code)) })
}

// signs returns the bits that numbers tell.
func signs(numbers []int) string {
	var bits strings.Builder
	for _, n := range numbers {
		if n < 0 {
			bits.WriteString("1")
		} else {
			bits.WriteString("0")
		}
	}
	return bits.String()
}

// raked returns the bits that the sums of correlations tell.
func raked(s []int, code string, delays []int, count int) string {
	return signs(signal(count, func(i int) int {
		sum := 0
		for _, delay := range delays {
			sum += product(s, code, delay+i*len(code))
		}
		return sum
	}))
}

// margin returns the least correlation that speaks for data.
func margin(s []int, code string, delay int, data string) int {
	least := math.MaxInt
	for i := range len(data) {
		least = min(least, chipAt(data, i)*product(s, code, delay+i*len(code)))
	}
	return least
}

// sent returns the sum of the signals of users, sample by sample.
func sent(list []impl.User) []int {
	length, parts := 0, make([][]int, len(list))
	for i, u := range list {
		length = max(length, len(u.Data)*len(u.Code)+u.Delay)
		parts[i] = spread(u.Data, u.Code)
	}
	return signal(length, func(at int) int {
		sum := 0
		for i, u := range list {
			sum += u.Gain * sampleAt(parts[i], at-u.Delay)
		}
		return sum
	})
}

// disturbance returns how much all users but one can disturb this one.
func disturbance(list []impl.User, k int) int {
	sum := 0
	for i, u := range list {
		same, different := agreements(u.Code, list[k].Code)
		if i != k && same > different {
			sum += u.Gain * (same - different)
		} else if i != k {
			sum += u.Gain * (different - same)
		}
	}
	return sum
}

// valid reports whether numbers are a signal.
func valid(s []int) bool {
	return len(s) <= 3000 && !slices.ContainsFunc(s, func(n int) bool { return n < -1000000 || n > 1000000 })
}

// someSignals returns signals of all kinds, the longest ones and the greatest samples among them.
func someSignals() [][]int {
	list := [][]int{
		nil, {}, {0}, {1}, {-1}, {7}, {0, 0, 0}, {1, -1}, {3, 0, -1}, {5, -5, 1}, {1000000}, {-1000000}, {999999, -999999}, {1000000, -1000000, 0, 1},
		slices.Repeat([]int{1000000}, 3000), slices.Repeat([]int{-1000000}, 3000), make([]int, 3000), slices.Repeat([]int{-1, 0, 1}, 200), slices.Repeat([]int{-1}, 601),
	}
	random := rand.New(rand.NewPCG(4, 1))
	for _, length := range []int{2, 3, 4, 7, 8, 15, 60, 255, 256, 599, 600, 601, 2999, 3000} {
		for _, most := range []int{1, 3, 1000, 1000000} {
			list = append(list, signal(length, func(int) int { return random.IntN(2*most+1) - most }))
		}
	}
	return list
}

// invalidSignals returns numbers that are no signal, because of their count or because of one of them.
func invalidSignals() [][]int {
	list := [][]int{make([]int, 3001), slices.Repeat([]int{1}, 3001), slices.Repeat([]int{-1000000}, 3001), make([]int, 100000)}
	for _, n := range noGains {
		list = append(list, []int{n}, []int{n, 0}, []int{0, n}, []int{1, n, -1}, append(make([]int, 599), n), append(make([]int, 2999), n), append([]int{n}, make([]int, 2999)...))
	}
	return list
}

// someCodes are sequences of many lengths.
func someCodes() []string {
	return []string{"0", "1", "01", "10", "11", "110", "0101", "0011", "10010", "1001011", mixed(10, 3), mixed(31, 2), mixed(64, 1), period(8, 29), mixed(254, 4), strings.Repeat("1", 255)}
}

// someUsers returns lists of valid users, with equal and with different delays and lengths of codes.
func someUsers() [][]impl.User {
	list := [][]impl.User{
		nil, {}, {{Code: "0"}}, {{Code: "1", Data: "1", Gain: 1}}, {{Code: "0101", Data: "01", Gain: 1}, {Code: "0011", Data: "1", Gain: 2}},
		{{Code: "1", Delay: 1000}}, {{Code: "1", Data: "1", Gain: 1000, Delay: 1000}}, {{Code: "110", Delay: 7, Gain: 3}, {Code: "011", Data: "0"}},
		{{Code: "10", Data: "11", Gain: 5, Delay: 3}, {Code: "110", Data: "0", Gain: 2}},
		slices.Repeat([]impl.User{{Code: "1", Data: "01", Gain: 1000}}, 8), slices.Repeat([]impl.User{{Code: strings.Repeat("01", 50), Data: strings.Repeat("1", 20), Gain: 1000, Delay: 1000}}, 8),
	}
	random := rand.New(rand.NewPCG(4, 2))
	for round := range 300 {
		users := make([]impl.User, 1+random.IntN(8))
		length, delay := 1+random.IntN(12), random.IntN(30)
		for i := range users {
			if round%2 == 1 {
				length, delay = 1+random.IntN(12), random.IntN(30)
			}
			users[i] = impl.User{Code: randomBits(random, length), Data: randomBits(random, random.IntN(10)), Gain: random.IntN(8), Delay: delay}
		}
		list = append(list, users)
	}
	return list
}

// invalidUsers are invalid each for one reason, at most one past a limit.
func invalidUsers() []impl.User {
	list := []impl.User{
		{}, {Data: "01", Gain: 1}, {Code: "01", Gain: -1}, {Code: "01", Gain: 1001}, {Code: "01", Delay: -1}, {Code: "01", Delay: 1001},
		{Code: "01", Gain: math.MaxInt}, {Code: "01", Gain: math.MinInt}, {Code: "01", Delay: math.MaxInt}, {Code: "01", Delay: math.MinInt}, {Code: "1", Data: "1", Delay: math.MaxInt},
		{Code: strings.Repeat("0", 250), Data: strings.Repeat("1", 12), Delay: 1}, {Code: strings.Repeat("0", 5), Data: strings.Repeat("1", 600), Delay: 1},
		{Code: strings.Repeat("0", 20), Data: strings.Repeat("1", 101), Delay: 981}, {Code: strings.Repeat("0", 4), Data: strings.Repeat("1", 501), Delay: 997},
		{Code: strings.Repeat("0", 79), Data: strings.Repeat("1", 38)}, {Code: strings.Repeat("0", 38), Data: strings.Repeat("1", 79)}, {Code: strings.Repeat("0", 255), Data: strings.Repeat("0", 600)},
	}
	for _, code := range invalidSequences {
		list = append(list, impl.User{Code: code, Data: "01", Gain: 1}, impl.User{Code: code})
	}
	for _, data := range invalidBits {
		list = append(list, impl.User{Code: "1", Data: data, Gain: 1})
	}
	return list
}

// randomBits returns any bits.
func randomBits(random *rand.Rand, count int) string {
	bits := make([]byte, count)
	for i := range bits {
		bits[i] = byte('0' + random.IntN(2))
	}
	return string(bits)
}

// short writes a call, cut where its arguments are long, since most calls are written for nothing.
func short(name string, arguments ...any) string {
	text := name
	for _, argument := range arguments {
		if s, ok := argument.([]int); ok && len(s) > 30 {
			argument = fmt.Sprintf("%d numbers, %v ..", len(s), s[:10])
		}
		text += fmt.Sprintf(" %.90s", fmt.Sprint(argument))
	}
	return text
}

package tests

import (
	"fmt"
	"math"
	"math/rand/v2"
	"slices"
	"strings"
	"testing"

	"loop.example/spreadspectrum/impl"
)

func TestUserValid(t *testing.T) {
	for _, list := range someUsers() {
		for _, u := range list {
			if !impl.UserValid(u) {
				t.Errorf("UserValid(%v) = false", u)
			}
		}
	}
	for _, u := range []impl.User{
		{Code: "0"}, {Code: strings.Repeat("1", 255)}, {Code: "01", Gain: 1000}, {Code: "01", Delay: 1000}, {Code: "1", Data: strings.Repeat("1", 600), Gain: 1000, Delay: 1000},
		{Code: strings.Repeat("0", 250), Data: strings.Repeat("1", 12)}, {Code: strings.Repeat("0", 5), Data: strings.Repeat("1", 600)}, {Code: strings.Repeat("0", 20), Data: strings.Repeat("1", 100), Delay: 1000},
		{Code: strings.Repeat("0", 20), Data: strings.Repeat("1", 101), Delay: 980}, {Code: strings.Repeat("0", 4), Data: strings.Repeat("1", 501), Delay: 996}, {Code: strings.Repeat("0", 255), Data: strings.Repeat("1", 11), Delay: 195},
	} {
		if !impl.UserValid(u) {
			t.Errorf("%s = false", short("UserValid", u))
		}
	}
	for _, u := range invalidUsers() {
		if impl.UserValid(u) {
			t.Errorf("%s = true", short("UserValid", u))
		}
	}
	for _, n := range []int{-1, 0, 1, 500, 999, 1000, 1001, 3000, math.MaxInt, math.MinInt} {
		want := n >= 0 && n <= 1000
		if got := impl.UserValid(impl.User{Code: "1", Data: "0", Gain: n}); got != want {
			t.Errorf("UserValid of the gain %d = %v", n, got)
		}
		if got := impl.UserValid(impl.User{Code: "1", Data: "0", Delay: n}); got != want {
			t.Errorf("UserValid of the delay %d = %v", n, got)
		}
	}
}

func TestSendAll(t *testing.T) {
	for _, list := range someUsers() {
		got, ok := impl.SendAll(list)
		wantSignal(t, short("SendAll", list), got, ok, sent(list))
	}
	for _, c := range []struct {
		list []impl.User
		want []int
	}{
		{nil, nil}, {[]impl.User{}, nil}, {[]impl.User{{Code: "01"}}, nil}, {[]impl.User{{Code: "01", Gain: 5, Delay: 3}}, []int{0, 0, 0}},
		{[]impl.User{{Code: "01", Data: "10", Delay: 1}}, []int{0, 0, 0, 0, 0}}, {[]impl.User{{Code: "01", Data: "10", Gain: 7, Delay: 1}}, []int{0, -7, 7, 7, -7}},
		{[]impl.User{{Code: "0", Data: "0", Gain: 1}, {Code: "1", Delay: 4}}, []int{1, 0, 0, 0}}, {[]impl.User{{Code: "011", Data: "1", Gain: 2, Delay: 1}, {Code: "10", Data: "00", Gain: 1}}, []int{-1, -1, 1, 3}},
		{[]impl.User{{Code: "1", Data: "0", Gain: 1000, Delay: 1000}}, append(make([]int, 1000), -1000)},
		// Users of the same code undo each other.
		{[]impl.User{{Code: "01", Data: "1", Gain: 9}, {Code: "01", Data: "0", Gain: 9}}, []int{0, 0}},
		{slices.Repeat([]impl.User{{Code: "01", Data: "1", Gain: 1000}}, 8), []int{-8000, 8000}},
	} {
		got, ok := impl.SendAll(c.list)
		wantSignal(t, short("SendAll", c.list), got, ok, c.want)
	}
	longest := impl.User{Code: strings.Repeat("0", 250), Data: strings.Repeat("1", 12), Gain: 1000}
	got, ok := impl.SendAll(slices.Repeat([]impl.User{longest}, 8))
	wantSignal(t, "SendAll of 8 longest users", got, ok, slices.Repeat([]int{-8000}, 3000))
}

func TestNoSendAll(t *testing.T) {
	u := impl.User{Code: "01", Data: "1", Gain: 1}
	for _, count := range []int{9, 10, 100} {
		got, ok := impl.SendAll(slices.Repeat([]impl.User{u}, count))
		wantNoSignal(t, fmt.Sprintf("SendAll of %d users", count), got, ok)
		got, ok = impl.SendAll(slices.Repeat([]impl.User{{Code: "0"}}, count))
		wantNoSignal(t, fmt.Sprintf("SendAll of %d users without data", count), got, ok)
	}
	for _, other := range invalidUsers() {
		for _, list := range [][]impl.User{{other}, {other, u}, {u, other}, {u, other, u}, append(slices.Repeat([]impl.User{u}, 7), other)} {
			got, ok := impl.SendAll(list)
			wantNoSignal(t, short("SendAll", list), got, ok)
		}
	}
}

// someDelays are delays at the limits, and around the length of a signal.
func someDelays(length int) []int {
	list := []int{0, 1, 2, 3, 7, 1000, 1001, 2999, 3000}
	for _, delay := range []int{length / 2, length - 2, length - 1, length, length + 1} {
		if delay > 0 && delay < 3000 {
			list = append(list, delay)
		}
	}
	return list
}

func TestReceiveUser(t *testing.T) {
	for _, s := range someSignals() {
		for _, code := range someCodes() {
			for _, delay := range someDelays(len(s)) {
				for _, count := range []int{0, 1, 13} {
					got, ok := impl.ReceiveUser(s, code, delay, count)
					wantBits(t, short("ReceiveUser", delay, count, code, s), got, ok, signs(despread(s, code, delay, count)))
				}
			}
			got, ok := impl.ReceiveUser(s, code, 5, 600)
			wantBits(t, short("ReceiveUser of 600 bits", code, s), got, ok, signs(despread(s, code, 5, 600)))
		}
	}
	for _, c := range []struct {
		s            []int
		code         string
		delay, count int
		want         string
	}{
		{nil, "1", 0, 0, ""}, {nil, "1", 3000, 3, "000"}, {[]int{-1}, "0", 0, 1, "1"}, {[]int{-1}, "0", 0, 3, "100"}, {[]int{-1}, "0", 1, 1, "0"}, {[]int{1}, "1", 0, 1, "1"}, {[]int{-1}, "1", 0, 2, "00"},
		// A correlation of 0 tells the bit 0.
		{[]int{-1, -1}, "01", 0, 1, "0"}, {[]int{0, 0}, "11", 0, 1, "0"}, {[]int{-1, -1}, "01", 1, 1, "1"}, {[]int{0, 0, 1, -1, -1, 1}, "01", 2, 2, "01"},
		{[]int{-1, -3, 3, 1, -1, 1, -1, 1}, "0101", 0, 2, "01"}, {[]int{-1, -3, 3, 1, -1, 1, -1, 1}, "0011", 0, 1, "1"}, {slices.Repeat([]int{-1000000}, 3000), strings.Repeat("0", 255), 0, 13, "1111111111110"},
		{append(make([]int, 2999), -1), "0", 2999, 2, "10"}, {append(make([]int, 2999), -1), "0", 3000, 2, "00"},
	} {
		got, ok := impl.ReceiveUser(c.s, c.code, c.delay, c.count)
		wantBits(t, short("ReceiveUser", c.delay, c.count, c.code, c.s), got, ok, c.want)
	}
}

// wantNoReception reports results of the functions that receive, where the arguments are invalid.
func wantNoReception(t *testing.T, s []int, code string, delay, count int) {
	t.Helper()
	got, ok := impl.ReceiveUser(s, code, delay, count)
	wantNoBits(t, short("ReceiveUser", delay, count, code, s), got, ok)
	for _, delays := range [][]int{{delay}, {0, delay}, {delay, 0}, {1, delay, 1}, append(make([]int, 7), delay)} {
		got, ok = impl.RakeReceive(s, code, delays, count)
		wantNoBits(t, short("RakeReceive", delays, count, code, s), got, ok)
	}
	if count > 0 && count < 10000 {
		n, ok := impl.MarginOf(s, code, delay, strings.Repeat("0", count))
		wantNoNumber(t, short("MarginOf", delay, count, code, s), n, ok)
	}
}

func TestNoReception(t *testing.T) {
	s := []int{1, -2, 3, -4}
	for _, other := range invalidSignals() {
		for _, count := range []int{0, 1, 600} {
			wantNoReception(t, other, "01", 0, count)
			wantNoReception(t, other, "01", 3000, count)
		}
	}
	for _, code := range invalidSequences {
		for _, count := range []int{0, 1, 600} {
			wantNoReception(t, s, code, 0, count)
			wantNoReception(t, nil, code, 3000, count)
		}
	}
	for _, delay := range noDelays {
		for _, count := range []int{0, 1, 600} {
			wantNoReception(t, s, "01", delay, count)
			wantNoReception(t, nil, "1", delay, count)
		}
	}
	for _, count := range noCounts {
		wantNoReception(t, s, "01", 0, count)
		wantNoReception(t, make([]int, 3000), "1", 3000, count)
	}
}

func TestMarginOf(t *testing.T) {
	for _, s := range someSignals() {
		for _, code := range someCodes() {
			for _, delay := range someDelays(len(s)) {
				for _, data := range []string{"0", "1", "01", "1101", mixed(13, 2)} {
					got, ok := impl.MarginOf(s, code, delay, data)
					wantNumber(t, short("MarginOf", delay, data, code, s), got, ok, margin(s, code, delay, data))
				}
			}
			data := strings.Repeat("011010", 100)
			got, ok := impl.MarginOf(s, code, 0, data)
			wantNumber(t, short("MarginOf 600 bits", code, s), got, ok, margin(s, code, 0, data))
		}
	}
	sum := []int{-1, -3, 3, 1, -1, 1, -1, 1}
	for _, c := range []struct {
		s     []int
		code  string
		delay int
		data  string
		want  int
	}{
		{sum, "0101", 0, "01", 4}, {sum, "0101", 0, "11", -4}, {sum, "0101", 0, "0", 4}, {sum, "0101", 0, "1", -4}, {sum, "0101", 0, "010", 0}, {sum, "0011", 0, "1", 8}, {sum, "0011", 0, "10", 0}, {sum, "0011", 0, "0", -8},
		{[]int{3, 5}, "0", 0, "00", 3}, {[]int{5, 3}, "0", 0, "00", 3}, {[]int{-5, 3}, "0", 0, "10", 3}, {[]int{-5, 3}, "0", 0, "11", -3}, {[]int{3, 5}, "0", 1, "0", 5}, {[]int{3, 5}, "0", 2, "1", 0}, {nil, "01", 3000, "1", 0},
		{slices.Repeat([]int{1000000}, 3000), strings.Repeat("0", 255), 0, "0000", 255000000}, {slices.Repeat([]int{1000000}, 3000), strings.Repeat("1", 255), 0, "0100", -255000000},
	} {
		got, ok := impl.MarginOf(c.s, c.code, c.delay, c.data)
		wantNumber(t, short("MarginOf", c.delay, c.data, c.code, c.s), got, ok, c.want)
	}
}

func TestNoMarginOf(t *testing.T) {
	for _, s := range [][]int{nil, {1, 2, 3}, make([]int, 3000)} {
		for _, data := range append([]string{""}, invalidBits...) {
			got, ok := impl.MarginOf(s, "01", 0, data)
			wantNoNumber(t, short("MarginOf", data, s), got, ok)
		}
	}
	for _, s := range invalidSignals() {
		got, ok := impl.MarginOf(s, "01", 0, "")
		wantNoNumber(t, short("MarginOf no data", s), got, ok)
	}
}

func TestRakeReceive(t *testing.T) {
	lists := [][]int{{0}, {1}, {3000}, {0, 0}, {0, 1}, {1, 0}, {2, 0, 2}, {0, 3000}, {7, 3, 5, 3}, {0, 1, 2, 3, 4, 5, 6, 7}, {9, 9, 9, 9, 9, 9, 9, 9}, {3, 1, 3, 1, 3, 1, 3, 0}, {3000, 2999, 0, 1500}}
	for _, s := range someSignals() {
		for _, code := range someCodes() {
			for _, delays := range lists {
				for _, count := range []int{0, 1, 9} {
					got, ok := impl.RakeReceive(s, code, delays, count)
					wantBits(t, short("RakeReceive", delays, count, code, s), got, ok, raked(s, code, delays, count))
				}
			}
		}
		got, ok := impl.RakeReceive(s, "10", []int{4, 1}, 600)
		wantBits(t, short("RakeReceive of 600 bits", s), got, ok, raked(s, "10", []int{4, 1}, 600))
	}
	s := []int{-3, 2, 1, 0, -9}
	for _, c := range []struct {
		delays []int
		count  int
		want   string
	}{
		{[]int{0}, 5, "10001"}, {[]int{0, 1}, 1, "1"}, {[]int{0, 1, 2}, 1, "0"}, {[]int{0, 1, 1}, 1, "0"}, {[]int{1, 0, 1}, 1, "0"}, {[]int{0, 1, 1, 0}, 1, "1"}, {[]int{0, 1, 0, 1, 1}, 1, "0"}, {[]int{0, 1, 0, 1, 0, 1, 1, 2}, 1, "0"}, {[]int{0, 0, 0, 1, 1, 1, 1, 3}, 1, "1"},
		{[]int{0, 3000}, 1, "1"}, {[]int{4, 1}, 2, "10"}, {[]int{5}, 1, "0"}, {[]int{0}, 0, ""},
	} {
		got, ok := impl.RakeReceive(s, "0", c.delays, c.count)
		wantBits(t, short("RakeReceive", c.delays, c.count), got, ok, c.want)
	}
}

func TestNoRakeReceive(t *testing.T) {
	for _, s := range [][]int{nil, {1, 2, 3}, make([]int, 3000)} {
		for _, delays := range [][]int{nil, {}, make([]int, 9), {0, 1, 2, 3, 4, 5, 6, 7, 8}, make([]int, 1000)} {
			for _, count := range []int{-1, 0, 2, 600, 601} {
				got, ok := impl.RakeReceive(s, "01", delays, count)
				wantNoBits(t, short("RakeReceive", delays, count), got, ok)
			}
		}
	}
}

// TestRakeReceiveOfEchoes: each of two paths alone is disturbed too much by the other user, and both together are not.
func TestRakeReceiveOfEchoes(t *testing.T) {
	data := "0110100"
	direct := impl.User{Code: "1001011", Data: data, Gain: 3}
	echo := impl.User{Code: "1001011", Data: data, Gain: 3, Delay: 2}
	s, _ := impl.SendAll([]impl.User{direct, echo})
	got, ok := impl.RakeReceive(s, "1001011", []int{0, 2}, len(data))
	wantBits(t, "RakeReceive", got, ok, data)
	// At the delay 1 nothing was sent, and what comes from there does not outweigh the two others.
	got, ok = impl.RakeReceive(s, "1001011", []int{0, 1, 2}, len(data))
	wantBits(t, "RakeReceive", got, ok, data)
}

func TestBitErrors(t *testing.T) {
	for a, b := range somePairs() {
		_, want := agreements(a, b)
		if got := impl.BitErrors(a, b); got != want {
			t.Errorf("%s = %d, want %d", short("BitErrors", a, b), got, want)
		}
	}
	for _, c := range []struct {
		a, b string
		want int
	}{
		{"", "", 0}, {"0", "0", 0}, {"0", "1", 1}, {"1", "0", 1}, {"0110", "0011", 2}, {strings.Repeat("0", 600), strings.Repeat("1", 600), 600}, {strings.Repeat("0", 600), strings.Repeat("0", 599) + "1", 1}, {strings.Repeat("01", 300), strings.Repeat("10", 300), 600},
		{"0", "", -1}, {"", "1", -1}, {"01", "011", -1}, {"011", "01", -1}, {strings.Repeat("0", 599), strings.Repeat("0", 600), -1}, {strings.Repeat("0", 601), strings.Repeat("0", 600), -1},
	} {
		if got := impl.BitErrors(c.a, c.b); got != c.want {
			t.Errorf("%s = %d, want %d", short("BitErrors", c.a, c.b), got, c.want)
		}
	}
	for _, bits := range invalidBits {
		for _, other := range []string{bits, "", "0", strings.Repeat("0", len(bits)), strings.Repeat("1", len(bits))} {
			if impl.BitErrors(bits, other) != -1 || impl.BitErrors(other, bits) != -1 {
				t.Errorf("%s is not -1", short("BitErrors", bits, other))
			}
		}
	}
}

func TestInterferenceBound(t *testing.T) {
	for _, list := range someUsers() {
		together := true
		for _, u := range list {
			together = together && len(u.Code) == len(list[0].Code) && u.Delay == list[0].Delay
		}
		for k := range list {
			want := -1
			if together {
				want = disturbance(list, k)
			}
			if got := impl.InterferenceBound(list, k); got != want {
				t.Errorf("InterferenceBound(%v, %d) = %d, want %d", list, k, got, want)
			}
		}
		for _, k := range []int{-1, -2, len(list), len(list) + 1, 8, math.MaxInt, math.MinInt} {
			if got := impl.InterferenceBound(list, k); got != -1 {
				t.Errorf("InterferenceBound(%v, %d) = %d, want -1", list, k, got)
			}
		}
	}
	a, b := impl.User{Code: "0101", Data: "01", Gain: 1}, impl.User{Code: "0011", Data: "1", Gain: 2}
	opposite, near := impl.User{Code: "1010", Gain: 5}, impl.User{Code: "0111", Data: "0", Gain: 1000}
	for _, c := range []struct {
		list []impl.User
		k    int
		want int
	}{
		{[]impl.User{a}, 0, 0}, {[]impl.User{a, b}, 0, 0}, {[]impl.User{a, b}, 1, 0}, {[]impl.User{a, a}, 0, 4}, {[]impl.User{a, opposite}, 0, 20}, {[]impl.User{a, opposite}, 1, 4}, {[]impl.User{a, near}, 0, 2000}, {[]impl.User{a, near}, 1, 2},
		// The correlations 4 and -4 do not undo each other.
		{[]impl.User{a, a, opposite}, 0, 24}, {[]impl.User{a, b, opposite, near}, 1, 2000}, {slices.Repeat([]impl.User{a}, 8), 7, 28}, {[]impl.User{{Code: "1", Gain: 0}, {Code: "0", Gain: 0}}, 0, 0},
		{slices.Repeat([]impl.User{{Code: strings.Repeat("1", 255), Gain: 1000}}, 8), 0, 7 * 255 * 1000}, {[]impl.User{{Code: "01", Delay: 9}, {Code: "01", Gain: 1, Delay: 9}}, 0, 2},
	} {
		if got := impl.InterferenceBound(c.list, c.k); got != c.want {
			t.Errorf("%s = %d, want %d", short("InterferenceBound", c.k, c.list), got, c.want)
		}
	}
}

func TestNoInterferenceBound(t *testing.T) {
	u := impl.User{Code: "0101", Data: "1", Gain: 1, Delay: 2}
	later, longer := impl.User{Code: "0101", Data: "1", Gain: 1, Delay: 3}, impl.User{Code: "01011", Data: "1", Gain: 1, Delay: 2}
	lists := [][]impl.User{nil, {}, {u, later}, {later, u}, {u, u, later}, {u, later, u}, {u, longer}, {longer, u}, {u, u, longer}, {u, longer, u}, slices.Repeat([]impl.User{u}, 9), slices.Repeat([]impl.User{u}, 100)}
	for _, other := range invalidUsers() {
		same := other
		same.Gain = 1
		lists = append(lists, []impl.User{other}, []impl.User{other, u}, []impl.User{u, other}, []impl.User{other, other}, []impl.User{other, same})
		if len(other.Code) == 1 && other.Delay == 0 {
			lists = append(lists, []impl.User{{Code: "1"}, other}, []impl.User{other, {Code: "1"}})
		}
		if impl.SequenceValid(other.Code) && other.Delay >= 0 && other.Delay <= 1000 {
			lists = append(lists, []impl.User{{Code: other.Code, Delay: other.Delay}, other}, []impl.User{other, {Code: other.Code, Delay: other.Delay}})
		}
	}
	for _, list := range lists {
		for _, k := range []int{-1, 0, 1, len(list) - 1, len(list), math.MaxInt, math.MinInt} {
			if got := impl.InterferenceBound(list, k); got != -1 {
				t.Errorf("%s = %d, want -1", short("InterferenceBound", k, list), got)
			}
		}
	}
}

// checkReception holds promise 4 against a user that is sent together with others, and reports whether it applies.
func checkReception(t *testing.T, list []impl.User, k int) bool {
	t.Helper()
	s, sent := impl.SendAll(list)
	u := list[k]
	bound := impl.InterferenceBound(list, k)
	if !sent || bound < 0 {
		t.Errorf("%s has no signal or no bound", short("users", list))
		return false
	}
	if len(u.Data) > 0 {
		margin, ok := impl.MarginOf(s, u.Code, u.Delay, u.Data)
		if !ok || margin < u.Gain*len(u.Code)-bound || margin > u.Gain*len(u.Code)+bound {
			t.Errorf("%s: the user %d has the margin %d, %v, and the bound %d", short("users", list), k, margin, ok, bound)
		}
	}
	if u.Gain*len(u.Code) <= bound {
		return false
	}
	got, ok := impl.ReceiveUser(s, u.Code, u.Delay, len(u.Data))
	wantBits(t, short("ReceiveUser", k, list), got, ok, u.Data)
	if impl.BitErrors(got, u.Data) != 0 {
		t.Errorf("%s: the user %d has errors", short("users", list), k)
	}
	return true
}

// TestDataIsReceived is promise 4, for users of any gains whose codes have one length and whose delays are equal.
func TestDataIsReceived(t *testing.T) {
	random := rand.New(rand.NewPCG(4, 3))
	received, disturbed := 0, 0
	for range 3000 {
		list := make([]impl.User, 1+random.IntN(8))
		length, delay := 1+random.IntN(40), random.IntN(1001)
		for i := range list {
			list[i] = impl.User{Code: randomBits(random, length), Data: randomBits(random, random.IntN(50)), Gain: random.IntN(1 + random.IntN(1001)), Delay: delay}
		}
		for k := range list {
			if checkReception(t, list, k) {
				received++
			} else {
				disturbed++
			}
		}
	}
	if received < 1000 || disturbed < 1000 {
		t.Errorf("%d users were received, and %d disturbed: the test shows little", received, disturbed)
	}
}

// TestFamiliesAreReceived is promise 4 for codes that are unlike enough: no one is disturbed, whatever the data are.
func TestFamiliesAreReceived(t *testing.T) {
	random := rand.New(rand.NewPCG(4, 4))
	pair := impl.PreferredPairs(5)[0]
	gold := impl.GoldFamily(5, pair.A, pair.B)
	for range 200 {
		var few, walshUsers []impl.User
		for i := range 8 {
			code, _ := impl.WalshCode(4, (3*i+random.IntN(3))%16)
			if i < 3 {
				few = append(few, impl.User{Code: gold[random.IntN(11)+11*i], Data: randomBits(random, 30), Gain: 7, Delay: 6})
			}
			if !slices.ContainsFunc(walshUsers, func(u impl.User) bool { return u.Code == code }) {
				walshUsers = append(walshUsers, impl.User{Code: code, Data: randomBits(random, random.IntN(100)), Gain: 1 + random.IntN(1000)})
			}
		}
		for _, list := range [][]impl.User{few, walshUsers} {
			for k := range list {
				if !checkReception(t, list, k) {
					t.Errorf("%s: the user %d is disturbed", short("users", list), k)
				}
			}
		}
	}
}

// TestBoundIsReached: among all data of all users there is one with exactly the bound as disturbance, and a user as weak as the bound is not always received.
func TestBoundIsReached(t *testing.T) {
	random := rand.New(rand.NewPCG(4, 5))
	lost := 0
	for range 400 {
		list := make([]impl.User, 1+random.IntN(4))
		length := 1 + random.IntN(9)
		for i := range list {
			list[i] = impl.User{Code: randomBits(random, length), Gain: random.IntN(6), Delay: 3}
		}
		for k := range list {
			own := list[k].Gain*length - impl.InterferenceBound(list, k)
			least, wrong := math.MaxInt, false
			for n := range 1 << len(list) {
				for i := range list {
					list[i].Data = fmt.Sprint(n >> i & 1)
				}
				s, _ := impl.SendAll(list)
				margin, _ := impl.MarginOf(s, list[k].Code, 3, list[k].Data)
				least = min(least, margin)
				bit, _ := impl.ReceiveUser(s, list[k].Code, 3, 1)
				wrong = wrong || bit != list[k].Data
			}
			if least != own || wrong != (own <= 0) {
				t.Errorf("%v: the user %d has the least margin %d, and not %d", list, k, least, own)
			}
			if wrong {
				lost++
			}
		}
	}
	if lost < 100 {
		t.Errorf("only %d users were disturbed: the test shows little", lost)
	}
}

func TestExampleOfSpreading(t *testing.T) {
	list := []impl.User{{Code: "0101", Data: "01", Gain: 1}, {Code: "0011", Data: "1", Gain: 2}}
	s, ok := impl.SendAll(list)
	wantSignal(t, "SendAll", s, ok, []int{-1, -3, 3, 1, -1, 1, -1, 1})
	for k, u := range list {
		got, ok := impl.ReceiveUser(s, u.Code, u.Delay, len(u.Data))
		wantBits(t, callOf("ReceiveUser", k), got, ok, u.Data)
		if got := impl.InterferenceBound(list, k); got != 0 {
			t.Errorf("InterferenceBound(%d) = %d, want 0", k, got)
		}
	}
}

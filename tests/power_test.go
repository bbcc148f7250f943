package tests

import (
	"math"
	"math/rand/v2"
	"slices"
	"testing"

	"loop.example/spreadspectrum/impl"
)

// wantNoPower reports results of PowerStep and PowerTime that do not tell that the arguments are invalid.
func wantNoPower(t *testing.T, list []impl.Station, target int) {
	t.Helper()
	got, ok := impl.PowerStep(list, target)
	wantNoCell(t, short("PowerStep", target, list), got, ok)
	wantInt(t, short("PowerTime", target, list), impl.PowerTime(list, target), -1)
}

func TestPowerGoal(t *testing.T) {
	greatest := 0
	for target := 0; target <= 40; target++ {
		for loss := 1; loss <= 20; loss++ {
			for _, gain := range []int{0, 1, 500, 1000} {
				st := impl.Station{Name: "a", Path: "01", Gain: gain, Loss: loss}
				wantInt(t, short("PowerGoal", st, target), impl.PowerGoal(st, target), goalOf(st, target))
				greatest = max(greatest, goalOf(st, target))
			}
		}
	}
	// So no goal is beyond the greatest gain.
	wantInt(t, "the greatest goal", greatest, 800)
	for _, c := range []struct{ loss, target, want int }{{1, 0, 0}, {20, 0, 0}, {1, 1, 1}, {1, 40, 40}, {20, 1, 20}, {3, 4, 12}, {20, 40, 800}, {19, 39, 741}, {20, 41, -1}, {20, 50, -1}, {20, 51, -1}, {3, -1, -1}, {21, 40, -1}, {0, 40, -1}, {1, 1000, -1}} {
		wantInt(t, short("PowerGoal", c), impl.PowerGoal(impl.Station{Name: "a", Gain: 7, Loss: c.loss}, c.target), c.want)
	}
	for _, target := range noTargets {
		for _, loss := range []int{1, 2, 20} {
			wantInt(t, callOf("PowerGoal", loss, target), impl.PowerGoal(impl.Station{Name: "a", Path: "01", Gain: 5, Loss: loss}, target), -1)
		}
	}
	for _, st := range invalidStations() {
		for _, target := range []int{-1, 0, 1, 40, 41, math.MaxInt} {
			wantInt(t, short("PowerGoal", st, target), impl.PowerGoal(st, target), -1)
		}
	}
}

func TestStrengthOf(t *testing.T) {
	for gain := range 1001 {
		for loss := 1; loss <= 20; loss++ {
			st := impl.Station{Name: "a", Path: "01", Gain: gain, Loss: loss}
			wantInt(t, short("StrengthOf", st), impl.StrengthOf(st), strength(st))
		}
	}
	for _, c := range []struct{ gain, loss, want int }{{0, 1, 0}, {0, 20, 0}, {1, 1, 1}, {1, 2, 0}, {2, 3, 0}, {3, 3, 1}, {5, 3, 1}, {6, 3, 2}, {19, 20, 0}, {20, 20, 1}, {39, 20, 1}, {40, 20, 2}, {1000, 1, 1000}, {1000, 20, 50}, {999, 20, 49}, {1000, 7, 142}} {
		wantInt(t, short("StrengthOf", c), impl.StrengthOf(impl.Station{Name: "a", Gain: c.gain, Loss: c.loss}), c.want)
	}
	for _, st := range invalidStations() {
		wantInt(t, short("StrengthOf", st), impl.StrengthOf(st), -1)
	}
}

func TestPowerStepAndPowerTime(t *testing.T) {
	for i, list := range someCells() {
		for _, target := range []int{0, 1, 2, 20, 39, 40, i % 41} {
			got, ok := impl.PowerStep(list, target)
			wantCell(t, short("PowerStep", target, list), got, ok, nearer(list, target))
			wantBool(t, short("CellValid of PowerStep", target, list), impl.CellValid(got), true)
			wantInt(t, short("PowerTime", target, list), impl.PowerTime(list, target), timeOf(list, target))
		}
		for _, target := range noTargets {
			wantNoPower(t, list, target)
		}
	}
	for _, list := range invalidCells() {
		for _, target := range []int{-1, 0, 1, 40, 41} {
			wantNoPower(t, list, target)
		}
	}
	for _, c := range []struct {
		cell   string
		target int
		want   string
		time   int
	}{
		{"-", 0, "-", 0}, {"-", 40, "-", 0}, {"a:0:6:3;b:10:1:2", 1, "a:0:5:3;b:10:2:2", 3}, {"a:0:6:3;b:10:1:2", 2, "a:0:6:3;b:10:2:2", 3}, {"a:0:6:3;b:10:4:2", 2, "a:0:6:3;b:10:4:2", 0}, {"a:0:6:3;b:10:1:2", 0, "a:0:5:3;b:10:0:2", 6},
		{"a:-:0:1", 0, "a:-:0:1", 0}, {"a:-:0:1", 1, "a:-:1:1", 1}, {"a:-:1:1", 0, "a:-:0:1", 1}, {"a:-:1000:20", 40, "a:-:999:20", 200}, {"a:-:0:20", 40, "a:-:1:20", 800}, {"a:-:1000:1", 0, "a:-:999:1", 1000}, {"a:-:799:20", 40, "a:-:800:20", 1}, {"a:-:801:20", 40, "a:-:800:20", 1}, {"a:-:800:20", 40, "a:-:800:20", 0},
		{"a:0:10:5;b:1:0:5", 1, "a:0:9:5;b:1:1:5", 5}, {"a:0:0:5;b:1:10:5", 1, "a:0:1:5;b:1:9:5", 5}, {"a:0:12:5;b:1:0:5", 1, "a:0:11:5;b:1:1:5", 7}, {"a:0:0:5;b:1:12:5", 1, "a:0:1:5;b:1:11:5", 7},
	} {
		list, _ := impl.ParseCell(c.cell)
		got, ok := impl.PowerStep(list, c.target)
		wantText(t, short("PowerStep", c), impl.FormatCell(got), c.want)
		wantBool(t, short("PowerStep", c), ok, true)
		wantInt(t, short("PowerTime", c), impl.PowerTime(list, c.target), c.time)
	}
}

// wantControl holds promise 8 against a cell: each step of power control brings it nearer, until all stations have the same strength, and then nothing changes any more.
func wantControl(t *testing.T, list []impl.Station, target int) {
	t.Helper()
	for left := impl.PowerTime(list, target); left > 0; left-- {
		next, ok := impl.PowerStep(list, target)
		if !ok || slices.Equal(next, list) || impl.PowerTime(next, target) != left-1 {
			t.Errorf("%s: %v, %v, and not %d steps more", short("PowerStep", target, list), next, ok, left-1)
			return
		}
		list = next
	}
	next, ok := impl.PowerStep(list, target)
	wantCell(t, short("PowerStep at all goals", target, list), next, ok, list)
	for _, st := range list {
		wantInt(t, short("StrengthOf", st), impl.StrengthOf(st), target)
		wantInt(t, short("Gain", st), st.Gain, impl.PowerGoal(st, target))
	}
}

// TestPowerControl is promise 8 for each loss and each target, from gains below, at and above the goal.
func TestPowerControl(t *testing.T) {
	for target := 0; target <= 40; target++ {
		for loss := 1; loss <= 20; loss++ {
			goal := target * loss
			var list []impl.Station
			for i, gain := range []int{goal, goal - 1, goal + 1, goal - 9, goal + 9, goal - loss, goal + loss, goal} {
				list = append(list, impl.Station{Name: nameOf(i), Path: pathsOf(3)[i], Gain: max(0, min(gain, 1000)), Loss: loss})
			}
			wantControl(t, list, target)
		}
		wantControl(t, nil, target)
	}
	for _, target := range []int{0, 1, 23, 40} {
		for gain := range 1001 {
			wantInt(t, callOf("PowerTime", gain, target), impl.PowerTime([]impl.Station{{Name: "a", Gain: gain, Loss: 20}}, target), max(gain-20*target, 20*target-gain))
		}
	}
}

func TestPowerControlOfAnyCells(t *testing.T) {
	random := rand.New(rand.NewPCG(8, 2))
	for _, list := range someCells() {
		wantControl(t, list, random.IntN(41))
	}
	wantControl(t, []impl.Station{{Name: "low", Path: "0", Gain: 0, Loss: 20}, {Name: "high", Path: "1", Gain: 1000, Loss: 1}}, 40)
	wantControl(t, []impl.Station{{Name: "low", Path: "0", Gain: 0, Loss: 20}, {Name: "high", Path: "1", Gain: 1000, Loss: 20}}, 0)
}

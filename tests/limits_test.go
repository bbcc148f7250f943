package tests

import (
	"testing"

	"loop.example/spreadspectrum/impl"
)

// TestLimits holds the constants against the table 'Limits' of the document.
func TestLimits(t *testing.T) {
	limits := []struct {
		name      string
		got, want int
	}{
		{"MinSize", impl.MinSize, 2},
		{"MaxSize", impl.MaxSize, 8},
		{"MaxBits", impl.MaxBits, 600},
		{"MaxJump", impl.MaxJump, 5000},
		{"MaxSequence", impl.MaxSequence, 255},
		{"MaxFamily", impl.MaxFamily, 6},
		{"MaxOrder", impl.MaxOrder, 6},
		{"MaxBarker", impl.MaxBarker, 13},
		{"MaxCodes", impl.MaxCodes, 70},
		{"MaxSignal", impl.MaxSignal, 3000},
		{"MaxSample", impl.MaxSample, 1000000},
		{"MaxUsers", impl.MaxUsers, 8},
		{"MaxOver", impl.MaxOver, 8},
		{"MaxGain", impl.MaxGain, 1000},
		{"MaxSteps", impl.MaxSteps, 200},
		{"MaxPayload", impl.MaxPayload, 100},
		{"MaxRepeat", impl.MaxRepeat, 9},
		{"MaxRows", impl.MaxRows, 40},
		{"MaxChannels", impl.MaxChannels, 16},
		{"MaxHops", impl.MaxHops, 300},
		{"MaxLoss", impl.MaxLoss, 20},
		{"MaxTarget", impl.MaxTarget, 40},
		{"MaxName", impl.MaxName, 8},
		{"MaxScript", impl.MaxScript, 20000},
		{"MaxLines", impl.MaxLines, 100},
		{"MaxOutput", impl.MaxOutput, 40000},
	}
	for _, limit := range limits {
		if limit.got != limit.want {
			t.Errorf("%s = %d, want %d", limit.name, limit.got, limit.want)
		}
	}
}

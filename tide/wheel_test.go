package tide

import (
	"math"
	"math/rand/v2"
	"slices"
	"testing"
)

func ends(w *wheel) int {
	n := 0
	for _, level := range w.levels {
		for _, slot := range level {
			n += len(slot)
		}
	}
	return n
}

// turnOf turns a wheel and lists the ends that it tells.
func turnOf(w *wheel, to int) []int {
	var told []int
	w.turn(to, func(end int, _ tally) { told = append(told, end) })
	return told
}

func TestWheelTellsRisingAndForgets(t *testing.T) {
	edges := []int{math.MinInt + 1, math.MinInt + 16, -1 << 60, -257, -256, -17, -16, -15, -1, 0, 1, 15, 16, 17, 255, 256, 1 << 60, math.MaxInt - 1, math.MaxInt}
	for _, stops := range [][]int{edges, {math.MaxInt}, {-16, 0, 16, math.MaxInt}, {-256, 255, math.MaxInt}, {math.MinInt + 1, 1 << 60, math.MaxInt}} {
		w := newWheel()
		for _, end := range slices.Backward(edges) {
			w.waiting(end)
			w.waiting(end)
		}
		var told []int
		for _, to := range stops {
			told = append(told, turnOf(&w, to)...)
			over, found := slices.BinarySearch(edges, to)
			if found {
				over++
			}
			if want := edges[:over]; !slices.Equal(told, want) {
				t.Fatalf("P5: up to %d the wheel told %v, want %v", to, told, want)
			}
			if left := len(edges) - len(told); ends(&w) != left || len(w.tallies) != left {
				t.Fatalf("up to %d the wheel holds %d ends, %d tallies, want %d", to, ends(&w), len(w.tallies), left)
			}
		}
	}
}

func TestWheelDoesNotTurnBack(t *testing.T) {
	w := newWheel()
	w.waiting(50)
	turnOf(&w, 40)
	for _, to := range []int{40, 39, 0, -1, math.MinInt} {
		if told := turnOf(&w, to); told != nil || w.mark != 40 {
			t.Errorf("P5: a turn to %d told %v, the mark is %d", to, told, w.mark)
		}
	}
}

// TestWheelOfManyTurns holds the wheel against a sorted list, over steps of all widths.
func TestWheelOfManyTurns(t *testing.T) {
	r := rand.New(rand.NewPCG(1, 2))
	for range 300 {
		w, waiting := newWheel(), []int{}
		step := func() int { return int(r.Uint64() >> (1 + r.IntN(63))) }
		turnOf(&w, int(r.Uint64()))
		for range 200 {
			end := max(w.mark, w.mark+step()) // a sum that wraps round is no end
			if end > w.mark && !slices.Contains(waiting, end) {
				waiting = append(waiting, end)
				w.waiting(end)
			}
			if r.IntN(3) > 0 {
				continue
			}
			to := max(w.mark, w.mark+step()>>r.IntN(40))
			slices.Sort(waiting)
			over, found := slices.BinarySearch(waiting, to)
			if found {
				over++
			}
			if told := turnOf(&w, to); !slices.Equal(told, waiting[:over]) {
				t.Fatalf("P5: up to %d the wheel told %v, want %v", to, told, waiting[:over])
			}
			waiting = waiting[over:]
			if ends(&w) != len(waiting) || len(w.tallies) != len(waiting) {
				t.Fatalf("the wheel holds %d ends, %d tallies, want %d", ends(&w), len(w.tallies), len(waiting))
			}
		}
	}
}

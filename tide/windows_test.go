package tide

import (
	"math"
	"math/big"
	"slices"
	"testing"
)

func TestWindowsOfOneTime(t *testing.T) {
	const least, greatest = math.MinInt, math.MaxInt
	for _, c := range []struct {
		at, size, slide int
		want            []int
	}{
		{0, 10, 10, []int{0}},
		{9, 10, 10, []int{0}},
		{10, 10, 10, []int{10}},
		{-1, 10, 10, []int{-10}},
		{-10, 10, 10, []int{-10}},
		{-11, 10, 10, []int{-20}},
		{0, 10, 5, []int{-5, 0}},
		{4, 10, 4, []int{-4, 0, 4}},
		{5, 10, 4, []int{-4, 0, 4}},
		{6, 10, 4, []int{0, 4}},
		{0, 1, 1, []int{0}},
		{999, 1000, 1000, []int{0}},
		{-1000, 1000, 1000, []int{-1000}},
		{greatest, 1, 1, nil},
		{greatest - 1, 1, 1, []int{greatest - 1}},
		{greatest - 1, 2, 1, []int{greatest - 2}},
		{greatest, 7, 7, nil}, // the greatest time is a multiple of 7
		{greatest - 1, 7, 7, []int{greatest - 7}},
		{greatest, 1000, 100, nil},
		{least, 1, 1, []int{least}},
		{least, 8, 8, []int{least}},
		{least, 3, 3, nil},
		{least + 1, 3, 3, nil},
		{least + 2, 3, 3, []int{least + 2}},
		{least + 1, 2, 1, []int{least, least + 1}},
		{least, 1000, 100, nil},
	} {
		got, no := Windows(c.at, c.size, c.slide)
		if !slices.Equal(got, c.want) || no != OK {
			t.Errorf("P2: Windows(%d, %d, %d) = %v, %d, want %v", c.at, c.size, c.slide, got, no, c.want)
		}
	}
}

// windowsByTrying tries every begin that a window with the time could have, in numbers that have no limits.
func windowsByTrying(at, size, slide int) []int {
	var list []int
	for behind := size - 1; behind >= 0; behind-- {
		begin := new(big.Int).Sub(big.NewInt(int64(at)), big.NewInt(int64(behind)))
		end := new(big.Int).Add(begin, big.NewInt(int64(size)))
		rest := new(big.Int).Mod(begin, big.NewInt(int64(slide)))
		if rest.Sign() == 0 && begin.IsInt64() && end.IsInt64() {
			list = append(list, int(begin.Int64()))
		}
	}
	return list
}

func TestWindowsByTrying(t *testing.T) {
	widths := [][2]int{{1, 1}, {2, 1}, {3, 2}, {7, 3}, {10, 1}, {10, 10}, {13, 5}, {20, 2}, {24, 7}}
	for _, w := range widths {
		for _, near := range []int{0, math.MinInt, math.MinInt + 30, math.MaxInt - 60, math.MaxInt - 29, 1 << 40, -1 << 40} {
			for i := range 30 {
				at := near + i
				got, no := Windows(at, w[0], w[1])
				if want := windowsByTrying(at, w[0], w[1]); !slices.Equal(got, want) || no != OK {
					t.Fatalf("P2: Windows(%d, %d, %d) = %v, %d, want %v", at, w[0], w[1], got, no, want)
				}
			}
		}
	}
}

func TestWindowsLimits(t *testing.T) {
	for _, c := range []struct {
		size, slide int
		want        Errno
	}{
		{1, 1, OK}, {1000, 1000, OK}, {1000, 100, OK}, {10, 1, OK}, {999, 100, OK},
		{0, 1, ErrArg}, {0, 0, ErrArg}, {1, 0, ErrArg}, {1, 2, ErrArg}, {1001, 1001, ErrArg}, {1001, 500, ErrArg},
		{1000, 99, ErrArg}, {11, 1, ErrArg}, {21, 2, ErrArg}, {10, -1, ErrArg}, {-1, -1, ErrArg}, {-10, 1, ErrArg},
		{math.MaxInt, math.MaxInt, ErrArg}, {math.MinInt, math.MinInt, ErrArg}, {1000, math.MaxInt, ErrArg}, {1000, math.MinInt, ErrArg},
		{math.MaxInt, 1, ErrArg}, {math.MinInt, 1, ErrArg}, {1000, -1 << 60, ErrArg}, {1000, 1 << 61, ErrArg},
	} {
		for _, at := range []int{0, math.MinInt, math.MaxInt} {
			got, no := Windows(at, c.size, c.slide)
			if no != c.want || no != OK && got != nil {
				t.Errorf("P1, P2: Windows(%d, %d, %d) = %v, %d, want error %d", at, c.size, c.slide, got, no, c.want)
			}
		}
	}
}

func TestWindowsAnswersNewMemory(t *testing.T) {
	first, _ := Windows(7, 10, 5)
	first[0] = 99
	if second, _ := Windows(7, 10, 5); !slices.Equal(second, []int{0, 5}) {
		t.Errorf("P1: a list that was answered before changes Windows: %v", second)
	}
}

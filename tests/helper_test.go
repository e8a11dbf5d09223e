package tests

import (
	"math"
	"slices"
	"testing"
)

const spareMark = -77

// padded hands out the list with spare room behind it, filled with the mark, so that a write into it is seen.
func padded[T any](list []T, mark T) []T {
	all := make([]T, len(list)+20)
	n := copy(all, list)
	for i := n; i < len(all); i++ {
		all[i] = mark
	}
	return all[:n]
}

// staysPadded fails where a padded list, or the room behind it, is not as padded made it.
func staysPadded[T comparable](t *testing.T, what string, got []T, was []T, mark T) {
	t.Helper()
	if !slices.Equal(got, was) {
		t.Errorf("%s: the argument %v became %v", what, was, got)
	}
	for _, n := range got[len(got):cap(got)] {
		if n != mark {
			t.Errorf("%s: %v was written behind the argument %v", what, n, was)
		}
	}
}

// spoilWith writes all over an answer and the room behind it: what shares memory with it changes too.
func spoilWith[T any](list []T, mark T) {
	list = list[:cap(list)]
	for i := range list {
		list[i] = mark
	}
}

func roomy(list []int64) []int64 { return padded(list, spareMark) }

func stays(t *testing.T, what string, got []int64, was []int64) {
	t.Helper()
	staysPadded(t, what, got, was, spareMark)
}

func spoil(list []int64) { spoilWith(list, -999) }

// manyOf makes a list of count numbers n.
func manyOf(count int, n int64) []int64 {
	return slices.Repeat([]int64{n}, count)
}

// oddNumbers are those at and beside every limit that an int64 argument may have.
func oddNumbers() []int64 {
	return []int64{math.MinInt64, math.MinInt64 + 1, -1 << 48, -17, -1, 0, 1, 2, 14, 15, 16, 17, 1 << 31, 1 << 32, 1<<48 - 2, 1<<48 - 1, 1 << 48, 1<<48 + 1, math.MaxInt64 - 1, math.MaxInt64}
}

package tests

import (
	"slices"
	"strings"
	"testing"
)

// textsOver returns all texts of some characters with at most longest of them, shorter ones first.
func textsOver(characters string, longest int) []string {
	all := []string{""}
	for first := 0; longest > 0; longest-- {
		end := len(all)
		for _, s := range all[first:end] {
			for _, c := range characters {
				all = append(all, s+string(c))
			}
		}
		first = end
	}
	return all
}

// choicesOf returns the lists of some items, from none to all of them, each list also backwards.
func choicesOf[T any](items ...T) [][]T {
	var all [][]T
	for chosen := range 1 << len(items) {
		var list []T
		for i, item := range items {
			if chosen>>i&1 == 1 {
				list = append(list, item)
			}
		}
		back := slices.Clone(list)
		slices.Reverse(back)
		all = append(all, list, back)
	}
	return all
}

func repeated(n int64, times int) []int64 {
	list := make([]int64, times)
	for i := range list {
		list[i] = n
	}
	return list
}

// withSpare returns a copy of a list with spare capacity behind it, and all of the memory behind the copy.
func withSpare[T any](list []T, spare T) ([]T, []T) {
	memory := append(slices.Clone(list), spare, spare)
	return memory[:len(list)], memory
}

func wantCode(t *testing.T, call string, got, want int64) {
	t.Helper()
	if got != want {
		t.Errorf("%s: code %d, want %d", call, got, want)
	}
}

func wordOf(letter string, length int) string { return strings.Repeat(letter, length) }

func phraseOf(word string, words int) string {
	return strings.Join(slices.Repeat([]string{word}, words), " ")
}

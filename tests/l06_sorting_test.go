package tests

import (
	"fmt"
	"math"
	"slices"
	"strings"
	"testing"

	"loop.example/g01030/impl"
)

const mostSorted = 20

// spelledPhrase returns the indices of the letters of each word that can be written, without ignored ones.
func spelledPhrase(letters []string, phrase string, ignored []int64) [][]int64 {
	var words [][]int64
	for _, word := range strings.Split(phrase, " ") {
		spelling, _ := spelled(letters, word)
		words = append(words, slices.DeleteFunc(spelling, func(index int64) bool { return slices.Contains(ignored, index) }))
	}
	return words
}

// comparedPhrases compares word by word, first without the ignored letters and then with all.
func comparedPhrases(letters []string, a, b string, ignored []int64) int64 {
	for _, out := range [][]int64{ignored, nil} {
		if order := slices.CompareFunc(spelledPhrase(letters, a, out), spelledPhrase(letters, b, out), slices.Compare); order != 0 {
			return int64(order)
		}
	}
	return 0
}

// insertionSorted puts each phrase in front of those that come behind it.
func insertionSorted(letters, list []string, ignored []int64) []string {
	var sorted []string
	for _, s := range list {
		place := 0
		for place < len(sorted) && comparedPhrases(letters, sorted[place], s, ignored) <= 0 {
			place++
		}
		sorted = slices.Insert(sorted, place, s)
	}
	return sorted
}

// sortingAlphabets have letters that begin each other, in several orders, with which all texts of a and b can be written.
func sortingAlphabets() [][]string {
	return [][]string{{"a", "b"}, {"b", "a"}, {"a", "b", "ab"}, {"ab", "b", "a"}, {"b", "ab", "a", "ba"}, {"bab", "b", "a", "aa"}, {"aab", "ba", "b", "bb", "a"}}
}

// phrasesOver returns all phrases of at most most words.
func phrasesOver(words []string, most int) []string {
	all := slices.Clone(words)
	if most == 1 {
		return all
	}
	for _, first := range words {
		for _, rest := range phrasesOver(words, most-1) {
			all = append(all, first+" "+rest)
		}
	}
	return all
}

// ignoredOver returns lists of indices of letters: all choices, one with an index several times, and nil.
func ignoredOver(letters []string) [][]int64 {
	indices := make([]int64, len(letters))
	for i := range indices {
		indices[i] = int64(i)
	}
	last := indices[len(indices)-1]
	return append(choicesOf(indices...), nil, []int64{last, 0, last}, repeated(last, 100))
}

// rotatedLists returns a list with each of its phrases as the first one, and all of these backwards.
func rotatedLists(list []string) [][]string {
	all := [][]string{slices.Clone(list)}
	for i := range list {
		rotated := slices.Concat(list[i:], list[:i])
		back := slices.Clone(rotated)
		slices.Reverse(back)
		all = append(all, rotated, back)
	}
	return all
}

// manyPhrases returns different phrases of words with the letters a and b, in the order of these letters.
func manyPhrases(number int) []string {
	list := make([]string, number)
	for i := range list {
		list[i] = strings.Map(func(bit rune) rune { return bit - '0' + 'a' }, fmt.Sprintf("%06b", i)) + " a"
	}
	return list
}

func TestCompareWords(t *testing.T) {
	latin := strings.Split("abcdefghijklmnopqrstuvwxyz", "")
	full := manyLetters(impl.MaxLetters)
	cases := []struct {
		letters []string
		a, b    string
		want    int64
	}{
		{latin, "a", "b", -1}, {latin, "b", "a", 1}, {latin, "a", "a", 0}, {latin, "ash", "ashby", -1}, {latin, "ashby", "ash", 1}, {latin, "ash", "oak", -1}, {latin, "z", "aaa", 1},
		{latin, "ashton", "ashby", 1}, {latin, wordOf("z", impl.MaxWord), wordOf("z", impl.MaxWord), 0}, {latin, wordOf("z", impl.MaxWord-1), wordOf("z", impl.MaxWord), -1},
		// The order is that of the alphabet, not that of the characters.
		{[]string{"b", "a"}, "a", "b", 1}, {[]string{"b", "a"}, "b", "a", -1}, {[]string{"b", "a"}, "ab", "aa", -1}, {[]string{"b", "a"}, "a", "ab", -1}, {[]string{"b", "a"}, "ba", "b", 1}, {[]string{"a"}, "a", "a", 0},
		// Letters of several characters: one behind all others, one in front of them, and one between.
		{[]string{"c", "d", "h", "ch"}, "ch", "cd", 1}, {[]string{"c", "d", "h", "ch"}, "ch", "d", 1}, {[]string{"ch", "c", "d", "h"}, "ch", "c", -1}, {[]string{"ch", "c", "d", "h"}, "c", "ch", 1},
		{[]string{"c", "ch", "d", "h"}, "ch", "ccc", 1}, {[]string{"c", "ch", "d", "h"}, "chc", "ch", 1}, {[]string{"c", "ch", "d", "h"}, "ch", "d", -1}, {[]string{"c", "ch", "d", "h"}, "hch", "hc", 1},
		{[]string{"sz", "z", "s", "dsz", "d"}, "dsz", "dd", -1}, {[]string{"sz", "z", "s", "dsz", "d"}, "dsz", "szd", 1}, {[]string{"sz", "z", "s", "dsz", "d"}, "sz", "zzz", -1},
		// Indices of one and of two digits.
		{full, full[9], full[10], -1}, {full, full[2], full[10], -1}, {full, full[impl.MaxLetters-1], full[0], 1}, {full, full[39], full[4], 1}, {full, full[0] + full[39], full[1] + full[0], -1},
	}
	for _, c := range cases {
		if got, code := impl.CompareWords(c.letters, c.a, c.b); code != impl.ErrNone || got != c.want {
			t.Errorf("CompareWords(%q, %q, %q) = %d, %d, want %d", c.letters, c.a, c.b, got, code, c.want)
		}
	}
}

func TestWordsAreComparedBySpellings(t *testing.T) {
	words := textsOver("ab", 5)[1:]
	for _, letters := range sortingAlphabets() {
		for _, a := range words {
			for _, b := range words {
				want := comparedPhrases(letters, a, b, nil)
				if got, code := impl.CompareWords(letters, a, b); code != impl.ErrNone || got != want {
					t.Fatalf("CompareWords(%q, %q, %q) = %d, %d, want %d", letters, a, b, got, code, want)
				}
				if got, code := impl.ComparePhrases(letters, a, b, nil); code != impl.ErrNone || got != want {
					t.Fatalf("ComparePhrases(%q, %q, %q) = %d, %d, want %d", letters, a, b, got, code, want)
				}
			}
		}
	}
}

func TestComparePhrases(t *testing.T) {
	ab, hyphen := []string{"a", "b"}, []string{"s", "h", "k", "sh"}
	cases := []struct {
		letters []string
		a, b    string
		ignored []int64
		want    int64
	}{
		{ab, "a", "a", nil, 0}, {ab, "a", "b", nil, -1}, {ab, "a b", "a b", nil, 0}, {ab, "a a", "a b", []int64{}, -1}, {[]string{"b", "a"}, "a a", "a b", nil, 1},
		// A phrase before those that continue it, and word by word: a blank is before all letters.
		{ab, "a", "a a", nil, -1}, {ab, "a a", "a", nil, 1}, {ab, "a b", "aa", nil, -1}, {ab, "ab", "a b", nil, 1}, {ab, "ab a", "a bb", nil, 1}, {ab, "a b a", "a ba", nil, -1}, {ab, "b", "a b", nil, 1},
		{ab, phraseOf("b", impl.MaxPhrase-1), phraseOf("b", impl.MaxPhrase), nil, -1}, {ab, phraseOf(wordOf("b", impl.MaxWord), impl.MaxPhrase), phraseOf(wordOf("b", impl.MaxWord), impl.MaxPhrase), nil, 0},
		// Ignored letters are left out before anything is compared.
		{ab, "ab", "aa", []int64{1}, -1}, {ab, "ba", "aa", []int64{1}, -1}, {ab, "aba", "ab", []int64{1}, 1}, {ab, "ba", "ab", []int64{0}, 1}, {ab, "baa", "bb", []int64{0}, -1}, {[]string{"b", "a"}, "ba", "a", []int64{0}, -1},
		{ab, "b aa", "a a", []int64{1}, -1}, {ab, "ab b", "a a", []int64{1}, -1}, {ab, "bbbb", "a", []int64{1}, -1},
		// Phrases that are equal but for ignored letters are ordered by all of their letters.
		{ab, "ab", "a", []int64{1}, 1}, {ab, "a", "ba", []int64{1}, -1}, {ab, "ab", "ba", []int64{1}, -1}, {ab, "ab", "ab", []int64{1}, 0}, {ab, "ab a", "a ab", []int64{1}, 1}, {ab, "a ab", "a ba", []int64{1}, -1},
		// Of a word or a phrase nothing is left: the words are still there.
		{ab, "b", "a", []int64{1}, -1}, {ab, "b", "bb", []int64{1}, -1}, {ab, "bb", "b b", []int64{1}, -1}, {ab, "b b", "b", []int64{1}, 1}, {ab, "b a", "a", []int64{1}, -1}, {ab, "b b", "a", []int64{1}, -1},
		{ab, "a b", "a", []int64{1}, 1}, {ab, "a b", "a a", []int64{1}, -1}, {ab, "b", "b", []int64{1}, 0}, {ab, "a", "b", []int64{0, 1}, -1}, {ab, "b a", "a b", []int64{1, 0}, 1}, {ab, "bb", "a a", []int64{0, 1, 0}, -1},
		// What is left is not spelled again, and a letter inside a longer one is not ignored.
		{[]string{"sh", "s", "h", "k"}, "skh", "ss", []int64{3}, 1}, {[]string{"sh", "s", "h", "k"}, "skh", "sh", []int64{3}, 1}, {hyphen, "sh", "sk", []int64{1}, 1}, {hyphen, "sh", "s", []int64{3}, -1}, {hyphen, "ksh", "k", []int64{3}, 1}, {hyphen, "shk", "hk", []int64{3, 1}, 1},
	}
	for _, c := range cases {
		if got, code := impl.ComparePhrases(c.letters, c.a, c.b, c.ignored); code != impl.ErrNone || got != c.want {
			t.Errorf("ComparePhrases(%q, %q, %q, %v) = %d, %d, want %d", c.letters, c.a, c.b, c.ignored, got, code, c.want)
		}
		if got, code := impl.ComparePhrases(c.letters, c.b, c.a, c.ignored); code != impl.ErrNone || got != -c.want {
			t.Errorf("ComparePhrases(%q, %q, %q, %v) = %d, %d, want %d", c.letters, c.b, c.a, c.ignored, got, code, -c.want)
		}
	}
}

func TestPhrasesAreComparedWordByWord(t *testing.T) {
	phrases := append(phrasesOver([]string{"a", "b", "ab", "ba"}, 3), "aab b", "bab aab", "abab")
	for _, letters := range sortingAlphabets() {
		for _, ignored := range [][]int64{nil, {0}, {1}, {int64(len(letters)) - 1}, {1, 0}} {
			for _, a := range phrases {
				for _, b := range phrases {
					want := comparedPhrases(letters, a, b, ignored)
					if got, code := impl.ComparePhrases(letters, a, b, ignored); code != impl.ErrNone || got != want {
						t.Fatalf("ComparePhrases(%q, %q, %q, %v) = %d, %d, want %d", letters, a, b, ignored, got, code, want)
					}
				}
			}
		}
	}
}

// Promise 8: sorted phrases are in order.
func TestSortedPhrasesAreInOrder(t *testing.T) {
	lists := [][]string{
		nil, {}, {"a"}, {"b", "b"}, {"a", "b"}, {"b", "a", "b", "a", "b"}, {"ab", "a b", "a", "b a", "ba", "a"}, {"b", "bb", "b b", "a", "bb b"},
		{"ba a", "ab", "a b a", "b", "aab", "bab", "a", "a b", "b b", "bb", "aa", "a b"}, slices.Repeat([]string{"ba"}, mostSorted), manyPhrases(mostSorted), manyPhrases(64)[44:], manyPhrases(mostSorted - 1),
	}
	sortedLists, changed := 0, 0
	for _, letters := range sortingAlphabets() {
		for _, ignored := range ignoredOver(letters) {
			for _, first := range lists {
				want := insertionSorted(letters, first, ignored)
				for _, list := range rotatedLists(first)[:min(2*len(first)+1, 9)] {
					got, code := impl.SortPhrases(letters, list, ignored)
					if code != impl.ErrNone || !slices.Equal(got, want) {
						t.Fatalf("SortPhrases(%q, %q, %v) = %q, %d, want %q", letters, list, ignored, got, code, want)
					}
					isSorted := slices.Equal(list, want)
					if own, two := impl.AreSorted(letters, list, ignored); two != impl.ErrNone || own != isSorted {
						t.Fatalf("AreSorted(%q, %q, %v) = %v, %d", letters, list, ignored, own, two)
					}
					if own, two := impl.AreSorted(letters, got, ignored); two != impl.ErrNone || !own {
						t.Fatalf("AreSorted(%q, %q, %v) = %v, %d", letters, got, ignored, own, two)
					}
					if isSorted {
						sortedLists++
					} else {
						changed++
					}
				}
			}
		}
	}
	if sortedLists == 0 || changed == 0 {
		t.Errorf("%d lists are sorted and %d are not, which compares too little", sortedLists, changed)
	}
}

func TestSortPhrases(t *testing.T) {
	dutch := []string{"a", "d", "e", "i", "n", "ij", "k"}
	cases := []struct {
		letters, list []string
		ignored       []int64
		want          []string
	}{
		{[]string{"b", "a"}, []string{"a", "b"}, nil, []string{"b", "a"}}, {[]string{"a"}, nil, nil, nil}, {[]string{"a"}, []string{}, []int64{0}, nil}, {[]string{"a"}, []string{"a"}, nil, []string{"a"}},
		{[]string{"a", "b"}, []string{"b", "a", "b", "a", "a"}, nil, []string{"a", "a", "a", "b", "b"}}, {[]string{"a", "b"}, []string{"ab", "aa", "a a", "a"}, nil, []string{"a", "a a", "aa", "ab"}},
		{dutch, []string{"dijk", "dik", "dak", "die", "de dijk", "ijk", "dink"}, nil, []string{"dak", "de dijk", "die", "dink", "dik", "dijk", "ijk"}},
		{dutch, []string{"dijk", "dik", "dak", "die", "de dijk", "ijk", "dink"}, []int64{1, 2}, []string{"de dijk", "dak", "die", "dink", "dik", "dijk", "ijk"}},
		// Equal but for ignored letters, some of them several times.
		{[]string{"a", "b"}, []string{"ba", "ab", "a", "ba", "bab", "a"}, []int64{1}, []string{"a", "a", "ab", "ba", "ba", "bab"}},
		{[]string{"b", "a"}, []string{"ba", "ab", "a", "ba", "bab", "a"}, []int64{0}, []string{"ba", "ba", "bab", "a", "a", "ab"}},
		// Nothing is left of some phrases.
		{[]string{"a", "b"}, []string{"a", "bb", "b b", "a a", "b", "b a"}, []int64{1}, []string{"b", "bb", "b b", "b a", "a", "a a"}},
		{[]string{"a", "b"}, []string{"b a", "b", "ab", "a", "a a"}, []int64{0, 1}, []string{"a", "ab", "b", "a a", "b a"}},
	}
	for _, c := range cases {
		if got, code := impl.SortPhrases(c.letters, c.list, c.ignored); code != impl.ErrNone || !slices.Equal(got, c.want) {
			t.Errorf("SortPhrases(%q, %q, %v) = %q, %d, want %q", c.letters, c.list, c.ignored, got, code, c.want)
		}
		if got, code := impl.AreSorted(c.letters, c.want, c.ignored); code != impl.ErrNone || !got {
			t.Errorf("AreSorted(%q, %q, %v) = %v, %d", c.letters, c.want, c.ignored, got, code)
		}
	}
}

func TestAreSorted(t *testing.T) {
	cases := []struct {
		letters, list []string
		ignored       []int64
		want          bool
	}{
		{[]string{"a"}, nil, nil, true}, {[]string{"a"}, []string{}, []int64{0}, true}, {[]string{"a"}, []string{"a"}, nil, true}, {[]string{"a"}, []string{"a", "a", "a"}, nil, true},
		{[]string{"a", "b"}, []string{"a", "b"}, nil, true}, {[]string{"b", "a"}, []string{"a", "b"}, nil, false}, {[]string{"a", "b"}, []string{"b", "a"}, nil, false}, {[]string{"a", "b"}, []string{"a", "b", "b", "a"}, nil, false},
		{[]string{"a", "b"}, []string{"b", "a", "a b"}, nil, false}, {[]string{"a", "b"}, []string{"a", "a a", "aa", "aaa"}, nil, true}, {[]string{"a", "b"}, []string{"a", "aa", "a a"}, nil, false},
		{[]string{"a", "b"}, []string{"ba", "ab"}, []int64{0}, false}, {[]string{"a", "b"}, []string{"ba", "aa"}, []int64{1}, true}, {[]string{"a", "b"}, []string{"ba", "ab"}, []int64{1}, false}, {[]string{"a", "b"}, []string{"ab", "ba"}, []int64{1}, true},
		{[]string{"a", "b"}, []string{"b", "b b", "b a", "a"}, []int64{1}, true}, {[]string{"a", "b"}, []string{"b", "b b", "b a", "a"}, nil, false}, {[]string{"a", "b"}, []string{"b b", "b"}, []int64{1}, false},
	}
	for _, c := range cases {
		if got, code := impl.AreSorted(c.letters, c.list, c.ignored); code != impl.ErrNone || got != c.want {
			t.Errorf("AreSorted(%q, %q, %v) = %v, %d", c.letters, c.list, c.ignored, got, code)
		}
	}
}

// The index is the least one behind which no phrase comes before s, and in front of which none comes behind it.
func TestPlacesAreTheFirst(t *testing.T) {
	phrases := append(phrasesOver([]string{"a", "b", "ab"}, 2), "aab", "bab a", "aa", "bb bb")
	for _, letters := range sortingAlphabets() {
		sorted := insertionSorted(letters, phrases, nil)
		lists := append(choicesOf(sorted[0], sorted[1], sorted[3], sorted[4], sorted[8], sorted[8], sorted[len(sorted)-2]), sorted, slices.Repeat(sorted[5:6], mostSorted))
		for _, list := range lists {
			isSorted, _ := impl.AreSorted(letters, list, nil)
			for _, s := range phrases {
				want, wanted := int64(0), int64(impl.ErrState)
				if slices.Equal(list, insertionSorted(letters, list, nil)) {
					wanted = impl.ErrNone
					for want < int64(len(list)) && !slices.Equal(slices.Insert(slices.Clone(list), int(want), s), insertionSorted(letters, append([]string{s}, list...), nil)) {
						want++
					}
				}
				if got, code := impl.FindPhrase(letters, list, s); code != wanted || got != want || isSorted != (code == impl.ErrNone) {
					t.Fatalf("FindPhrase(%q, %q, %q) = %d, %d, want %d, %d", letters, list, s, got, code, want, wanted)
				}
			}
		}
	}
}

func TestFindPhrase(t *testing.T) {
	ab := []string{"a", "b"}
	full := manyPhrases(mostSorted)
	cases := []struct {
		letters, list []string
		s             string
		want          int64
		code          int64
	}{
		{[]string{"b", "a"}, []string{"b", "a"}, "a", 1, impl.ErrNone}, {ab, nil, "a", 0, impl.ErrNone}, {ab, []string{}, "b b", 0, impl.ErrNone},
		// At the beginning, at the end, and between.
		{ab, []string{"ab", "b"}, "a", 0, impl.ErrNone}, {ab, []string{"ab", "b"}, "bb", 2, impl.ErrNone}, {ab, []string{"ab", "b"}, "b a", 2, impl.ErrNone}, {ab, []string{"ab", "b"}, "ab a", 1, impl.ErrNone},
		{ab, full, "a", 0, impl.ErrNone}, {ab, full, "b", mostSorted, impl.ErrNone}, {ab, full, full[mostSorted-1], mostSorted - 1, impl.ErrNone}, {ab, full, full[0], 0, impl.ErrNone}, {ab, full, full[7] + " a", 8, impl.ErrNone},
		// In front of all phrases that are equal.
		{ab, []string{"a", "ab", "ab", "ab", "b"}, "ab", 1, impl.ErrNone}, {ab, []string{"b", "b", "b"}, "b", 0, impl.ErrNone}, {ab, slices.Repeat([]string{"ab"}, mostSorted), "ab", 0, impl.ErrNone},
		{ab, slices.Repeat([]string{"ab"}, mostSorted), "b", mostSorted, impl.ErrNone},
		// A list that is not sorted.
		{ab, []string{"b", "a"}, "a", 0, impl.ErrState}, {ab, []string{"a", "aa", "a a"}, "b", 0, impl.ErrState}, {[]string{"b", "a"}, []string{"a", "b"}, "a", 0, impl.ErrState}, {ab, append(slices.Clone(full[1:]), full[0]), "a", 0, impl.ErrState},
		{ab, []string{"b", "a", "b"}, "b", 0, impl.ErrState},
	}
	for _, c := range cases {
		if got, code := impl.FindPhrase(c.letters, c.list, c.s); code != c.code || got != c.want {
			t.Errorf("FindPhrase(%q, %q, %q) = %d, %d, want %d, %d", c.letters, c.list, c.s, got, code, c.want, c.code)
		}
	}
}

func TestSortKey(t *testing.T) {
	full := manyLetters(impl.MaxLetters)
	cases := []struct {
		letters []string
		s, want string
	}{
		{[]string{"b", "a"}, "ab a", "1110011"}, {[]string{"a"}, "a", "10"}, {[]string{"a", "b"}, "b", "11"}, {[]string{"a", "b"}, "a b", "10011"}, {[]string{"a", "b"}, "a a a", "10010010"}, {[]string{"a", "s", "h", "sh"}, "ash has", "10130121011"},
		{full, full[0] + " " + full[impl.MaxLetters-1], "10049"}, {full, full[9] + full[10], "1920"}, {full, full[30] + " " + full[20], "40030"}, {[]string{"abc", "a"}, "abca abc", "1011010"},
		{[]string{"a"}, phraseOf(wordOf("a", impl.MaxWord), impl.MaxPhrase), strings.Join(slices.Repeat([]string{strings.Repeat("10", impl.MaxWord)}, impl.MaxPhrase), "0")},
	}
	for _, c := range cases {
		if got, code := impl.SortKey(c.letters, c.s); code != impl.ErrNone || got != c.want {
			t.Errorf("SortKey(%q, %q) = %q, %d, want %q", c.letters, c.s, got, code, c.want)
		}
	}
}

// As chapter 6 adds to promise 8, phrases are ordered as their keys are.
func TestPhrasesAreOrderedAsTheirKeys(t *testing.T) {
	full := manyLetters(impl.MaxLetters)
	// Later letters first: all indices from 0 to 39 are in these words.
	words := []string{full[39], full[10], full[9] + full[0], full[0], full[0] + full[39], full[1], full[20] + full[19], full[30] + full[29], full[5]}
	check := func(letters, phrases []string) {
		keys := make([]string, len(phrases))
		for i, s := range phrases {
			key, code := impl.SortKey(letters, s)
			wantCode(t, "SortKey", code, impl.ErrNone)
			keys[i] = key
		}
		for i, a := range phrases {
			for j, b := range phrases {
				want := int64(strings.Compare(keys[i], keys[j]))
				if got, code := impl.ComparePhrases(letters, a, b, nil); code != impl.ErrNone || got != want {
					t.Fatalf("with %s %q and %q are ordered %d, code %d, but their keys %q and %q are %d", startOf(letters), a, b, got, code, keys[i], keys[j], want)
				}
			}
		}
	}
	check(full, phrasesOver(words, 2))
	for _, letters := range sortingAlphabets() {
		check(letters, phrasesOver([]string{"a", "b", "ab", "bab"}, 3))
	}
}

func TestFirstLetters(t *testing.T) {
	full := manyLetters(impl.MaxLetters)
	many := make([]string, mostSorted)
	wanted := make([]int64, mostSorted)
	for i := range many {
		many[i] = full[impl.MaxLetters-1-i] + " " + full[0]
		wanted[i] = int64(impl.MaxLetters - mostSorted + i)
	}
	cases := []struct {
		letters, list []string
		want          []int64
	}{
		{[]string{"b", "a"}, []string{"a b", "b"}, []int64{0, 1}}, {[]string{"a"}, nil, nil}, {[]string{"a"}, []string{}, nil}, {[]string{"a", "b"}, []string{"b"}, []int64{1}}, {[]string{"a", "b"}, []string{"ab"}, []int64{0}},
		{[]string{"a", "b"}, []string{"b a", "b b", "ba", "b"}, []int64{1}}, {[]string{"c", "b", "a"}, []string{"a", "c", "ab", "c b"}, []int64{0, 2}}, {[]string{"a", "b", "c"}, []string{"c", "b", "a", "b", "c"}, []int64{0, 1, 2}},
		// The letter of the spelling, not a shorter one with which the word begins too.
		{[]string{"s", "a", "sh", "h", "sch", "c"}, []string{"sha", "scha"}, []int64{2, 4}}, {[]string{"s", "a", "sh", "h"}, []string{"sh", "sa sh"}, []int64{0, 2}}, {[]string{"sh", "s", "a"}, []string{"a sh", "sas"}, []int64{1, 2}},
		{full, many, wanted}, {full, []string{full[39], full[0], full[10], full[9]}, []int64{0, 9, 10, 39}},
	}
	for _, c := range cases {
		for _, list := range rotatedLists(c.list) {
			if got, code := impl.FirstLetters(c.letters, list); code != impl.ErrNone || !slices.Equal(got, c.want) {
				t.Errorf("FirstLetters(%q, %q) = %v, %d, want %v", c.letters, list, got, code, c.want)
			}
		}
	}
}

func refusedWords(t *testing.T, letters []string, a, b string, code int64) {
	t.Helper()
	if got, one := impl.CompareWords(letters, a, b); one != code || got != 0 {
		t.Errorf("CompareWords with %s of %.40q and %.40q = %d, %d, want %d", startOf(letters), a, b, got, one, code)
	}
}

func refusedPhrases(t *testing.T, letters []string, a, b string, ignored []int64, code int64) {
	t.Helper()
	if got, one := impl.ComparePhrases(letters, a, b, ignored); one != code || got != 0 {
		t.Errorf("ComparePhrases with %s of %.40q and %.40q without %d indices %v = %d, %d, want %d", startOf(letters), a, b, len(ignored), ignored[:min(len(ignored), 3)], got, one, code)
	}
}

func refusedKey(t *testing.T, letters []string, s string, code int64) {
	t.Helper()
	if got, one := impl.SortKey(letters, s); one != code || got != "" {
		t.Errorf("SortKey with %s of %.40q = %q, %d, want %d", startOf(letters), s, got, one, code)
	}
}

func refusedLists(t *testing.T, letters, list []string, ignored []int64, code int64) {
	t.Helper()
	name := fmt.Sprintf("with %s of %d phrases %.60q without %d indices %v", startOf(letters), len(list), list[:min(len(list), 3)], len(ignored), ignored[:min(len(ignored), 3)])
	if got, one := impl.SortPhrases(letters, list, ignored); one != code || len(got) != 0 {
		t.Errorf("SortPhrases %s = %q, %d, want %d", name, got, one, code)
	}
	if got, one := impl.AreSorted(letters, list, ignored); one != code || got {
		t.Errorf("AreSorted %s = %v, %d, want %d", name, got, one, code)
	}
	if len(ignored) > 0 {
		return
	}
	if got, one := impl.FirstLetters(letters, list); one != code || len(got) != 0 {
		t.Errorf("FirstLetters %s = %v, %d, want %d", name, got, one, code)
	}
}

func refusedPlace(t *testing.T, letters, list []string, s string, code int64) {
	t.Helper()
	if got, one := impl.FindPhrase(letters, list, s); one != code || got != 0 {
		t.Errorf("FindPhrase with %s of %d phrases %.60q and %.40q = %d, %d, want %d", startOf(letters), len(list), list[:min(len(list), 3)], s, got, one, code)
	}
}

// No alphabet is told before anything else, also if there is nothing to be sorted.
func TestSortingRefusesAlphabets(t *testing.T) {
	long := manyPhrases(mostSorted + 1)
	for _, letters := range notAlphabets() {
		for _, s := range []string{"a", "b", "q", "", "A"} {
			refusedWords(t, letters, s, "a", impl.ErrInvalid)
			refusedPhrases(t, letters, "a", s, nil, impl.ErrInvalid)
			refusedPhrases(t, letters, s, s, []int64{-1, 5000}, impl.ErrInvalid)
			refusedKey(t, letters, s, impl.ErrInvalid)
			refusedPlace(t, letters, nil, s, impl.ErrInvalid)
			refusedPlace(t, letters, []string{"b", "a"}, s, impl.ErrInvalid)
		}
		for _, list := range [][]string{nil, {"a"}, {"q"}, {"A"}, long} {
			refusedLists(t, letters, list, nil, impl.ErrInvalid)
			refusedLists(t, letters, list, []int64{0}, impl.ErrInvalid)
			refusedLists(t, letters, list, []int64{-1}, impl.ErrInvalid)
		}
	}
}

// A text that is no phrase is told before an index of no letter, a word that cannot be written, too many phrases, and a list that is not sorted.
func TestSortingRefusesTexts(t *testing.T) {
	ab := []string{"a", "b"}
	long := manyPhrases(mostSorted + 1)
	for _, s := range append(notWords(), "a b", "a a", "b q") {
		refusedWords(t, ab, s, "a", impl.ErrInvalid)
		refusedWords(t, ab, "a", s, impl.ErrInvalid)
		refusedWords(t, ab, "q", s, impl.ErrInvalid)
		refusedWords(t, ab, s, "q", impl.ErrInvalid)
		refusedWords(t, ab, s, s, impl.ErrInvalid)
	}
	for _, s := range notPhrases() {
		refusedKey(t, ab, s, impl.ErrInvalid)
		for _, ignored := range [][]int64{nil, {0}, {2}, {-1}} {
			refusedPhrases(t, ab, s, "a", ignored, impl.ErrInvalid)
			refusedPhrases(t, ab, "a", s, ignored, impl.ErrInvalid)
			refusedPhrases(t, ab, "q", s, ignored, impl.ErrInvalid)
			refusedPhrases(t, ab, s, "q", ignored, impl.ErrInvalid)
			for _, list := range [][]string{{s}, {"a", s}, {s, "a"}, {"q", s}, {s, "q"}, {"b", "a", s}, append(slices.Clone(long), s), append([]string{s}, long...)} {
				refusedLists(t, ab, list, ignored, impl.ErrInvalid)
			}
		}
		refusedPlace(t, ab, nil, s, impl.ErrInvalid)
		refusedPlace(t, ab, []string{"b", "a"}, s, impl.ErrInvalid)
		refusedPlace(t, ab, []string{"q"}, s, impl.ErrInvalid)
		refusedPlace(t, ab, long, s, impl.ErrInvalid)
		refusedPlace(t, ab, []string{"a", s}, "a", impl.ErrInvalid)
		refusedPlace(t, ab, []string{"a", s}, "q", impl.ErrInvalid)
	}
}

// An index of no letter is told before a word that cannot be written and too many phrases.
func TestSortingRefusesIndices(t *testing.T) {
	ab, full := []string{"a", "b"}, manyLetters(impl.MaxLetters)
	long := manyPhrases(mostSorted + 1)
	for _, index := range []int64{2, 3, -1, -2, -10, -11, 12, impl.MaxLetters - 1, impl.MaxLetters, math.MinInt64, math.MaxInt64, math.MaxInt64 - 9, 1 << 32, -1 << 32} {
		for _, ignored := range [][]int64{{index}, {0, index}, {index, 1}, {1, 0, index, 0}, append(repeated(0, 5000), index), repeated(index, 100)} {
			for _, s := range []string{"a", "q", "b q"} {
				refusedPhrases(t, ab, s, "b", ignored, impl.ErrRange)
				refusedPhrases(t, ab, "b", s, ignored, impl.ErrRange)
				refusedLists(t, ab, []string{"a", s}, ignored, impl.ErrRange)
			}
			refusedLists(t, ab, nil, ignored, impl.ErrRange)
			refusedLists(t, ab, []string{"a", "q"}, ignored, impl.ErrRange)
			refusedLists(t, ab, long, ignored, impl.ErrRange)
		}
	}
	refusedPhrases(t, full, full[0], full[1], []int64{impl.MaxLetters}, impl.ErrRange)
	if got, code := impl.ComparePhrases(full, full[39], full[0], []int64{impl.MaxLetters - 1, 0}); code != impl.ErrNone || got != 1 {
		t.Errorf("ComparePhrases without the first and the last letter = %d, %d", got, code)
	}
}

// A word that cannot be written is told before too many phrases and a list that is not sorted.
func TestSortingRefusesWords(t *testing.T) {
	ab := []string{"a", "b"}
	long := manyPhrases(mostSorted + 1)
	for _, s := range []string{"q", "aq", "qa", "abqab", wordOf("a", impl.MaxWord-1) + "q"} {
		refusedWords(t, ab, s, "a", impl.ErrNotFound)
		refusedWords(t, ab, "a", s, impl.ErrNotFound)
		refusedWords(t, ab, s, s, impl.ErrNotFound)
		for _, phrase := range []string{s, "a " + s, s + " b", "a " + s + " b", phraseOf("a", impl.MaxPhrase-1) + " " + s} {
			refusedKey(t, ab, phrase, impl.ErrNotFound)
			for _, ignored := range [][]int64{nil, {0}, {1, 0}} {
				refusedPhrases(t, ab, phrase, "a", ignored, impl.ErrNotFound)
				refusedPhrases(t, ab, "b", phrase, ignored, impl.ErrNotFound)
				refusedPhrases(t, ab, phrase, phrase, ignored, impl.ErrNotFound)
				for _, list := range [][]string{{phrase}, {"b", phrase}, {phrase, "b"}, append(slices.Clone(long), phrase), append([]string{phrase}, long...)} {
					refusedLists(t, ab, list, ignored, impl.ErrNotFound)
				}
			}
			refusedPlace(t, ab, nil, phrase, impl.ErrNotFound)
			refusedPlace(t, ab, []string{"b", "a"}, phrase, impl.ErrNotFound)
			refusedPlace(t, ab, []string{"b", phrase, "a"}, "a", impl.ErrNotFound)
			refusedPlace(t, ab, long, phrase, impl.ErrNotFound)
		}
	}
	// The longest letters lead to no end, although shorter ones would.
	refusedWords(t, []string{"a", "ab", "bc"}, "abc", "a", impl.ErrNotFound)
	refusedKey(t, []string{"aa", "aaa"}, "aa aaaa", impl.ErrNotFound)
	refusedLists(t, []string{"a", "ab", "bc"}, []string{"a", "abc"}, nil, impl.ErrNotFound)
}

// A list of 20 phrases is accepted and one with one more is not, which is told before a list that is not sorted.
func TestSortingLimit(t *testing.T) {
	ab := []string{"a", "b"}
	full := manyPhrases(mostSorted)
	back := slices.Clone(full)
	slices.Reverse(back)
	if got, code := impl.SortPhrases(ab, back, nil); code != impl.ErrNone || !slices.Equal(got, full) {
		t.Errorf("SortPhrases of 20 phrases = %q, %d", got, code)
	}
	if got, code := impl.AreSorted(ab, full, nil); code != impl.ErrNone || !got {
		t.Errorf("AreSorted of 20 phrases = %v, %d", got, code)
	}
	if got, code := impl.FindPhrase(ab, full, "b"); code != impl.ErrNone || got != mostSorted {
		t.Errorf("FindPhrase of 20 phrases = %d, %d", got, code)
	}
	if got, code := impl.FirstLetters(ab, back); code != impl.ErrNone || !slices.Equal(got, []int64{0}) {
		t.Errorf("FirstLetters of 20 phrases = %v, %d", got, code)
	}
	for _, list := range [][]string{manyPhrases(mostSorted + 1), append(back, "a"), slices.Repeat([]string{"a"}, mostSorted+1), slices.Repeat([]string{"b", "a"}, 2500)} {
		refusedLists(t, ab, list, nil, impl.ErrLimit)
		refusedLists(t, ab, list, []int64{1}, impl.ErrLimit)
		refusedPlace(t, ab, list, "a", impl.ErrLimit)
		refusedPlace(t, ab, list, "b", impl.ErrLimit)
	}
}

func TestSortingKeepsArguments(t *testing.T) {
	letters, memoryOfLetters := withSpare([]string{"a", "b", "ab"}, "spare")
	list, memoryOfList := withSpare([]string{"b", "ab", "a b", "b"}, "spare")
	sorted, memoryOfSorted := withSpare([]string{"a b", "b", "b", "ab"}, "spare")
	ignored, memoryOfIgnored := withSpare([]int64{1, 0}, 9)
	impl.CompareWords(letters, "ab", "a")
	impl.ComparePhrases(letters, "ab", "a b", ignored)
	impl.SortPhrases(letters, list, ignored)
	impl.AreSorted(letters, list, ignored)
	if got, code := impl.FindPhrase(letters, sorted, "b a"); code != impl.ErrNone || got != 3 {
		t.Errorf("FindPhrase(%q, %q) = %d, %d", letters, sorted, got, code)
	}
	impl.SortKey(letters, "ab a")
	impl.FirstLetters(letters, list)
	if !slices.Equal(memoryOfLetters, []string{"a", "b", "ab", "spare", "spare"}) || !slices.Equal(memoryOfList, []string{"b", "ab", "a b", "b", "spare", "spare"}) {
		t.Errorf("arguments were changed: %q, %q", memoryOfLetters, memoryOfList)
	}
	if !slices.Equal(memoryOfSorted, []string{"a b", "b", "b", "ab", "spare", "spare"}) || !slices.Equal(memoryOfIgnored, []int64{1, 0, 9, 9}) {
		t.Errorf("arguments were changed: %q, %v", memoryOfSorted, memoryOfIgnored)
	}
}

func TestSortingResultsAreNew(t *testing.T) {
	letters, list := []string{"a", "b"}, []string{"a", "b"}
	first, _ := impl.SortPhrases(letters, list, nil)
	first[0] = "z"
	_ = append(first[:1], "y")
	if second, _ := impl.SortPhrases(letters, list, nil); !slices.Equal(second, []string{"a", "b"}) || !slices.Equal(list, []string{"a", "b"}) {
		t.Errorf("SortPhrases = %q and the list is %q after a result was changed", second, list)
	}
	one, _ := impl.FirstLetters(letters, list)
	one[0] = 7
	if two, _ := impl.FirstLetters(letters, list); !slices.Equal(two, []int64{0, 1}) {
		t.Errorf("FirstLetters = %v after a result was changed", two)
	}
}

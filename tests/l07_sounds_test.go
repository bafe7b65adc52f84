package tests

import (
	"fmt"
	"math"
	"slices"
	"strings"
	"testing"

	"loop.example/g01030/impl"
)

const mostHeard = 20

// soundexNumbers returns a table like that of Soundex.
func soundexNumbers() []int64 {
	return numbersOf("01230120022455012623010202")
}

// numbersOf returns a table whose numbers are digits.
func numbersOf(digits string) []int64 {
	list := make([]int64, len(digits))
	for i := range list {
		list[i] = int64(digits[i] - '0')
	}
	return list
}

// tablesOverABC returns tables with all numbers from 0 to 2 for the letters a, b and c, and 9 for z.
func tablesOverABC() [][]int64 {
	var all [][]int64
	for i := range 27 {
		table := repeated(0, 26)
		table[0], table[1], table[2], table[25] = int64(i%3), int64(i/3%3), int64(i/9), 9
		all = append(all, table)
	}
	return all
}

// someSoundTables returns tables of sounds of many kinds.
func someSoundTables() [][]int64 {
	return [][]int64{
		soundexNumbers(), repeated(0, 26), repeated(1, 26), repeated(9, 26), numbersOf("01234567890123456789012345"), numbersOf("98765432109876543210987654"),
		numbersOf("01010101010101010101010101"), numbersOf("00000000000000000000000009"), numbersOf("90000000000000000000000000"), numbersOf("11111111111112222222222222"),
	}
}

// notSoundTables returns lists with a number too few or too many, or one out of its range.
func notSoundTables() [][]int64 {
	all := [][]int64{nil, {}, {1}, repeated(1, 25), repeated(0, 27), repeated(9, 52), append(soundexNumbers(), 0), soundexNumbers()[:25], soundexNumbers()[1:], repeated(1, 5000)}
	for _, number := range []int64{-1, 10, -9, 19, '1', 256, 257, 1 << 32, math.MinInt64, math.MaxInt64} {
		for _, letter := range []int{0, 1, 13, 25} {
			table := soundexNumbers()
			table[letter] = number
			all = append(all, table)
		}
	}
	return all
}

// heard returns the sound of a word: of the numbers of its letters each run is written once, that of the first letter is cut off, and then the silent ones are.
func heard(table []int64, word string) string {
	var runs []int64
	for _, letter := range word {
		runs = append(runs, table[letter-'a'])
	}
	digits := ""
	for _, number := range slices.Compact(runs)[1:] {
		digits += fmt.Sprint(number)
	}
	digits = strings.ReplaceAll(digits, "0", "") + "000"
	return word[:1] + digits[:3]
}

// heardPhrase returns the sounds of all words of a phrase.
func heardPhrase(table []int64, phrase string) string {
	words := strings.Split(phrase, " ")
	for i, word := range words {
		words[i] = heard(table, word)
	}
	return strings.Join(words, " ")
}

// heardGroups returns the groups of a list: each word joins the first group with whose first word it sounds alike.
func heardGroups(table []int64, list []string) [][]int64 {
	var groups [][]int64
	for i, word := range list {
		place := slices.IndexFunc(groups, func(group []int64) bool { return heard(table, list[group[0]]) == heard(table, word) })
		if place < 0 {
			place = len(groups)
			groups = append(groups, nil)
		}
		groups[place] = append(groups[place], int64(i))
	}
	return groups
}

// soundLists returns lists of words of which some sound alike, begin alike, or occur several times.
func soundLists() [][]string {
	return [][]string{
		nil, {}, {"a"}, {"a", "a"}, {"b", "a"}, {"a", "b", "a"}, {"robert", "ash", "rupert"}, {"z", "a", "z", "b", "a", "z"}, {"ab", "abb", "ba", "bab", "aab", "b", "a"},
		{"rupert", "robert", "rubin", "ashcraft", "ashcroft", "tymczak", "pfister", "honeyman", "rupert", "ash"}, {"cab", "bac", "abc", "acb", "bca", "cba", "cab", "cabb", "ccab"},
		slices.Repeat([]string{"oak"}, mostHeard), slices.Repeat([]string{"oak", "ash"}, mostHeard/2), manyWords(mostHeard), manyWords(mostHeard - 1), textsOver("az", 3)[1:], strings.Split("zyxwvutsrqponmlkjihg", ""),
		{wordOf("a", impl.MaxWord), "a", wordOf("b", impl.MaxWord), "b", wordOf("a", impl.MaxWord-1)},
	}
}

// manyWords returns different words of the letters a and b.
func manyWords(number int) []string {
	list := manyPhrases(number)
	for i, s := range list {
		list[i] = strings.ReplaceAll(s, " ", "")
	}
	return list
}

// fewWords names a list by its length and its first words.
func fewWords(list []string) string {
	return fmt.Sprintf("%d words %.60q", len(list), list[:min(len(list), 4)])
}

// fewNumbers names a table by its length and its first numbers.
func fewNumbers(table []int64) string {
	return fmt.Sprintf("%d numbers %v", len(table), table[:min(len(table), 26)])
}

func sameGroups(a, b [][]int64) bool {
	return slices.EqualFunc(a, b, func(group, other []int64) bool { return slices.Equal(group, other) })
}

func TestSoundLength(t *testing.T) {
	if impl.SoundLength != 4 {
		t.Errorf("SoundLength = %d", impl.SoundLength)
	}
}

func TestIsSoundTable(t *testing.T) {
	for _, table := range slices.Concat(someSoundTables(), tablesOverABC()) {
		if !impl.IsSoundTable(table) {
			t.Errorf("IsSoundTable(%v) = false", table)
		}
	}
	for _, table := range notSoundTables() {
		if impl.IsSoundTable(table) {
			t.Errorf("IsSoundTable of %s = true", fewNumbers(table))
		}
	}
	for letter := range 26 {
		for number := int64(-3); number <= 12; number++ {
			table := repeated(5, 26)
			table[letter] = number
			if got, want := impl.IsSoundTable(table), number >= 0 && number <= 9; got != want {
				t.Errorf("IsSoundTable(%v) = %v", table, got)
			}
		}
	}
}

func TestSoundOf(t *testing.T) {
	soundex, loud := soundexNumbers(), numbersOf("12345678912345678912345678")
	cases := []struct {
		table      []int64
		word, want string
	}{
		{soundex, "robert", "r163"}, {soundex, "rupert", "r163"}, {soundex, "rubin", "r150"}, {soundex, "ash", "a200"}, {soundex, "honeyman", "h555"},
		// Words of one letter, with and without a number.
		{soundex, "a", "a000"}, {soundex, "b", "b000"}, {soundex, "z", "z000"}, {loud, "z", "z000"}, {repeated(0, 26), "q", "q000"},
		// Silent letters have no number, and those between two letters with the same number keep them apart.
		{soundex, "aeiou", "a000"}, {soundex, "bab", "b100"}, {soundex, "babab", "b110"}, {soundex, "tymczak", "t522"}, {soundex, "bhb", "b100"}, {soundex, "ashcraft", "a226"}, {soundex, "acac", "a220"}, {repeated(0, 26), wordOf("q", impl.MaxWord), "q000"},
		// The same number directly before: that of the first letter counts, too.
		{soundex, "bb", "b000"}, {soundex, "bbb", "b000"}, {soundex, "bf", "b000"}, {soundex, "pfister", "p236"}, {soundex, "abb", "a100"}, {soundex, "abfpv", "a100"}, {soundex, "abba", "a100"}, {soundex, "abbab", "a110"}, {soundex, "jackson", "j250"}, {soundex, "lloyd", "l300"},
		{repeated(1, 26), "abcdef", "a000"}, {repeated(9, 26), wordOf("z", impl.MaxWord), "z000"}, {numbersOf("10000000000000000000000001"), "az", "a000"}, {numbersOf("10000000000000000000000001"), "aqz", "a100"},
		// Digits that are missing, and ones that are too many.
		{soundex, "ab", "a100"}, {soundex, "abc", "a120"}, {soundex, "abcd", "a123"}, {soundex, "abcdl", "a123"}, {soundex, "abcdlmr", "a123"}, {loud, "abcd", "a234"}, {loud, "zyx", "z760"}, {loud, "abcdefghijklmnop", "a234"}, {loud, "ijqrz", "i189"}, {loud, "zi", "z900"},
		{soundex, "aaaaaaaaaaaaaaab", "a100"}, {soundex, "bdbdbdbdbdbdbdbd", "b313"}, {soundex, "abaaaaaaaaaaaaac", "a120"},
	}
	for _, c := range cases {
		if got, code := impl.SoundOf(c.table, c.word); code != impl.ErrNone || got != c.want {
			t.Errorf("SoundOf(%v, %q) = %q, %d, want %q", c.table, c.word, got, code, c.want)
		}
	}
}

// Chapter 7 guarantees that words that sound alike begin with the same letter.
func TestSoundsOfAllWords(t *testing.T) {
	check := func(table []int64, word string) {
		got, code := impl.SoundOf(table, word)
		if code != impl.ErrNone || got != heard(table, word) || got[0] != word[0] || len(got) != impl.SoundLength {
			t.Fatalf("SoundOf(%v, %q) = %q, %d, want %q", table, word, got, code, heard(table, word))
		}
	}
	for _, table := range tablesOverABC() {
		for _, word := range textsOver("abc", 6)[1:] {
			check(table, word)
			check(table, word+"z")
			check(table, "zz"+word)
		}
	}
	for _, table := range someSoundTables() {
		for _, word := range slices.Concat(textsOver("abcdefghijklmnopqrstuvwxyz", 2)[1:], textsOver("abcdmqz", 5)[1:], someWords()) {
			check(table, word)
		}
	}
}

func TestWordsThatSoundAlike(t *testing.T) {
	words := append(textsOver("abc", 4)[1:], "abcabc", "abcabca", "cbacba")
	for _, table := range tablesOverABC() {
		for _, a := range words {
			for _, b := range words {
				got, code := impl.DoSoundAlike(table, a, b)
				if want := heard(table, a) == heard(table, b); code != impl.ErrNone || got != want {
					t.Fatalf("DoSoundAlike(%v, %q, %q) = %v, %d, want %v", table, a, b, got, code, want)
				}
				if got && a[0] != b[0] {
					t.Fatalf("with %v %q and %q sound alike", table, a, b)
				}
			}
		}
	}
}

func TestDoSoundAlike(t *testing.T) {
	soundex := soundexNumbers()
	cases := []struct {
		a, b string
		want bool
	}{
		{"robert", "rupert", true}, {"robert", "rubin", false}, {"a", "a", true}, {"a", "e", false}, {"a", "aa", true}, {"b", "p", false}, {"b", "bb", true}, {"b", "bab", false}, {"ab", "ap", true}, {"ba", "pa", false},
		{"abcd", "abcdl", true}, {"abcd", "abc", false}, {"ashcraft", "ashcroft", true}, {wordOf("a", impl.MaxWord), "a", true}, {"kate", "cate", false},
	}
	for _, c := range cases {
		for _, pair := range [][2]string{{c.a, c.b}, {c.b, c.a}} {
			if got, code := impl.DoSoundAlike(soundex, pair[0], pair[1]); code != impl.ErrNone || got != c.want {
				t.Errorf("DoSoundAlike(%q, %q) = %v, %d, want %v", pair[0], pair[1], got, code, c.want)
			}
		}
	}
}

func TestPhraseSound(t *testing.T) {
	soundex := soundexNumbers()
	cases := []struct{ phrase, want string }{
		{"robert ash", "r163 a200"}, {"ash", "a200"}, {"a", "a000"}, {"a b", "a000 b000"}, {"b b", "b000 b000"}, {"ash ash ash", "a200 a200 a200"}, {"old mill of robert", "o430 m400 o100 r163"},
		// A word begins with its first letter, whatever was before the blank.
		{"ab ba", "a100 b000"}, {"ab pb", "a100 p000"}, {phraseOf("a", impl.MaxPhrase), phraseOf("a000", impl.MaxPhrase)}, {phraseOf("abcdefghijklmnop", impl.MaxPhrase), phraseOf("a123", impl.MaxPhrase)},
	}
	for _, c := range cases {
		if got, code := impl.PhraseSound(soundex, c.phrase); code != impl.ErrNone || got != c.want {
			t.Errorf("PhraseSound(%q) = %q, %d, want %q", c.phrase, got, code, c.want)
		}
	}
	for _, table := range slices.Concat(someSoundTables(), tablesOverABC()) {
		for _, phrase := range phrasesOver([]string{"a", "ab", "cba", "bbacz", "abcabc", "zq"}, 3) {
			if got, code := impl.PhraseSound(table, phrase); code != impl.ErrNone || got != heardPhrase(table, phrase) {
				t.Fatalf("PhraseSound(%v, %q) = %q, %d, want %q", table, phrase, got, code, heardPhrase(table, phrase))
			}
		}
	}
}

func TestMatchSounds(t *testing.T) {
	soundex := soundexNumbers()
	cases := []struct {
		list []string
		word string
		want []int64
	}{
		{[]string{"rupert", "ash"}, "robert", []int64{0}}, {nil, "robert", nil}, {[]string{}, "a", nil}, {[]string{"ash", "oak"}, "robert", nil}, {[]string{"ash", "robert", "oak", "rupert", "rubin", "robert"}, "rupert", []int64{1, 3, 5}},
		{[]string{"robert"}, "robert", []int64{0}}, {[]string{"bab", "pab"}, "bap", []int64{0}}, {slices.Repeat([]string{"rupert"}, mostHeard), "robert", countedTo(mostHeard)},
		{append(slices.Repeat([]string{"ash"}, mostHeard-1), "robert"), "rupert", []int64{mostHeard - 1}},
	}
	for _, c := range cases {
		if got, code := impl.MatchSounds(soundex, c.list, c.word); code != impl.ErrNone || !slices.Equal(got, c.want) {
			t.Errorf("MatchSounds(%q, %q) = %v, %d, want %v", c.list, c.word, got, code, c.want)
		}
	}
	for _, table := range slices.Concat(someSoundTables(), tablesOverABC()) {
		for _, list := range soundLists() {
			for _, word := range append(slices.Clone(list), "robert", "a", "b", "abc", "z") {
				var want []int64
				for i, other := range list {
					if heard(table, other) == heard(table, word) {
						want = append(want, int64(i))
					}
				}
				if got, code := impl.MatchSounds(table, list, word); code != impl.ErrNone || !slices.Equal(got, want) {
					t.Fatalf("MatchSounds(%v, %q, %q) = %v, %d, want %v", table, list, word, got, code, want)
				}
			}
		}
	}
}

// countedTo returns the numbers from 0 to end, without end.
func countedTo(end int64) []int64 {
	var list []int64
	for i := range end {
		list = append(list, i)
	}
	return list
}

func TestNearestWords(t *testing.T) {
	long, half := wordOf("z", impl.MaxWord), wordOf("z", impl.MaxWord/2)
	cases := []struct {
		list []string
		word string
		most int64
		want []int64
	}{
		{[]string{"ashes", "ash", "oak"}, "ash", 2, []int64{1, 0}}, {nil, "ash", impl.MaxWord, nil}, {[]string{}, "ash", 0, nil}, {[]string{"ash"}, "ash", 0, []int64{0}}, {[]string{"oak"}, "ash", 0, nil},
		{[]string{"ashes", "ash", "oak"}, "ash", 0, []int64{1}}, {[]string{"ashes", "ash", "oak"}, "ash", 1, []int64{1}}, {[]string{"ashes", "ash", "oak"}, "ash", 3, []int64{1, 0, 2}}, {[]string{"ashes", "ash", "oak"}, "ash", impl.MaxWord, []int64{1, 0, 2}},
		// Words at the same distance, and ones that occur several times.
		{[]string{"b", "a", "c", "a", "ab", "b"}, "a", 1, []int64{1, 3, 0, 2, 4, 5}}, {[]string{"cc", "bb", "aa", "ba", "ab"}, "aa", 2, []int64{2, 3, 4, 0, 1}}, {slices.Repeat([]string{"oak"}, mostHeard), "ash", 3, countedTo(mostHeard)},
		// Distances from 0 to MaxWord.
		{[]string{wordOf("a", impl.MaxWord), half, "z", long}, long, impl.MaxWord, []int64{3, 1, 2, 0}}, {[]string{wordOf("a", impl.MaxWord), half, "z", long}, long, impl.MaxWord - 1, []int64{3, 1, 2}},
		{[]string{wordOf("a", impl.MaxWord), half, "z", long}, long, impl.MaxWord - 2, []int64{3, 1}}, {[]string{wordOf("a", impl.MaxWord), half, "z", long}, long, impl.MaxWord / 2, []int64{3, 1}}, {[]string{wordOf("a", impl.MaxWord), half, "z", long}, long, impl.MaxWord/2 - 1, []int64{3}},
	}
	for _, c := range cases {
		if got, code := impl.NearestWords(c.list, c.word, c.most); code != impl.ErrNone || !slices.Equal(got, c.want) {
			t.Errorf("NearestWords(%q, %q, %d) = %v, %d, want %v", c.list, c.word, c.most, got, code, c.want)
		}
	}
}

func TestNearestWordsAreOrderedByDistance(t *testing.T) {
	for _, list := range soundLists() {
		for _, word := range append(slices.Clone(list), "robert", "ashes", "ba", "zaz", wordOf("q", impl.MaxWord)) {
			for most := range int64(impl.MaxWord + 1) {
				var want []int64
				for distance := range most + 1 {
					for i, other := range list {
						if steps, _ := impl.EditDistance(word, other); steps == distance {
							want = append(want, int64(i))
						}
					}
				}
				if got, code := impl.NearestWords(list, word, most); code != impl.ErrNone || !slices.Equal(got, want) {
					t.Fatalf("NearestWords(%q, %q, %d) = %v, %d, want %v", list, word, most, got, code, want)
				}
			}
		}
	}
}

// Promise 9: every word is in exactly one group of sounds.
func TestEveryWordIsInOneGroup(t *testing.T) {
	for _, table := range slices.Concat(someSoundTables(), tablesOverABC()) {
		for _, first := range soundLists() {
			for _, list := range rotatedLists(first) {
				groups, code := impl.GroupsBySound(table, list)
				wantCode(t, "GroupsBySound", code, impl.ErrNone)
				places := repeated(-1, len(list))
				for g, group := range groups {
					for _, i := range group {
						if places[i] >= 0 {
							t.Fatalf("GroupsBySound(%v, %q) = %v: %d is there twice", table, list, groups, i)
						}
						places[i] = int64(g)
					}
				}
				if slices.Contains(places, -1) {
					t.Fatalf("GroupsBySound(%v, %q) = %v: a word is missing", table, list, groups)
				}
				for i := range list {
					for j := range list {
						if alike, _ := impl.DoSoundAlike(table, list[i], list[j]); alike != (places[i] == places[j]) || alike && list[i][0] != list[j][0] {
							t.Fatalf("GroupsBySound(%v, %q) = %v: wrong for %d and %d", table, list, groups, i, j)
						}
					}
				}
				if want := heardGroups(table, list); !sameGroups(groups, want) {
					t.Fatalf("GroupsBySound(%v, %q) = %v, want %v", table, list, groups, want)
				}
			}
		}
	}
}

func TestGroupsBySound(t *testing.T) {
	soundex := soundexNumbers()
	cases := []struct {
		list []string
		want [][]int64
	}{
		{[]string{"robert", "ash", "rupert"}, [][]int64{{0, 2}, {1}}}, {nil, nil}, {[]string{}, nil}, {[]string{"a"}, [][]int64{{0}}}, {[]string{"oak", "oak"}, [][]int64{{0, 1}}}, {[]string{"oak", "ash"}, [][]int64{{0}, {1}}},
		// The first elements give the order, not the letters, the sounds, or the sizes of the groups.
		{[]string{"z", "a", "m", "a", "z"}, [][]int64{{0, 4}, {1, 3}, {2}}}, {[]string{"ad", "ab", "ac", "ap"}, [][]int64{{0}, {1, 3}, {2}}}, {[]string{"zb", "ab", "za", "ap", "zp", "a"}, [][]int64{{0, 4}, {1, 3}, {2}, {5}}},
		// The same digits behind different first letters.
		{[]string{"ab", "eb", "ib"}, [][]int64{{0}, {1}, {2}}}, {[]string{"b", "p", "bb", "pp"}, [][]int64{{0, 2}, {1, 3}}}, {slices.Repeat([]string{"oak"}, mostHeard), [][]int64{countedTo(mostHeard)}},
	}
	for _, c := range cases {
		// Every call has to return the same, whatever the order of a map is.
		for range 20 {
			if got, code := impl.GroupsBySound(soundex, c.list); code != impl.ErrNone || !sameGroups(got, c.want) {
				t.Fatalf("GroupsBySound(%q) = %v, %d, want %v", c.list, got, code, c.want)
			}
		}
	}
}

func TestSharperTable(t *testing.T) {
	different := numbersOf("01234567890123456789012345")
	moved := numbersOf("12345678901234567890123456")
	cases := []struct {
		a, b []int64
		want bool
	}{
		{soundexNumbers(), soundexNumbers(), true}, {soundexNumbers(), repeated(0, 26), true}, {soundexNumbers(), repeated(7, 26), true}, {repeated(0, 26), soundexNumbers(), false}, {repeated(3, 26), repeated(5, 26), true}, {repeated(0, 26), repeated(9, 26), true},
		// Other numbers tell the same letters apart; that a letter is silent does not matter.
		{different, moved, true}, {moved, different, true}, {different, numbersOf("01010101010101010101010101"), true}, {numbersOf("01010101010101010101010101"), different, false}, {different, numbersOf("01234012340123401234012340"), true},
		// One letter is told apart by one of the tables alone, also the first and the last one, and a silent one.
		{numbersOf("00000000000000000000000000"), numbersOf("00000000000000000000000001"), false}, {numbersOf("00000000000000000000000001"), repeated(0, 26), true}, {numbersOf("10000000000000000000000000"), numbersOf("00000000000000000000000001"), false},
		{numbersOf("10000000000000000000000002"), numbersOf("00000000000000000000000001"), true}, {numbersOf("10000000000000000000000002"), numbersOf("30000000000000000000000003"), true}, {numbersOf("30000000000000000000000003"), numbersOf("10000000000000000000000002"), false},
		{numbersOf("01111111111111111111111110"), numbersOf("01111111111112111111111110"), false}, {numbersOf("01111111111112111111111110"), numbersOf("01111111111111111111111110"), true}, {soundexNumbers(), different, false}, {different, soundexNumbers(), false},
	}
	for _, c := range cases {
		if got, code := impl.SharperTable(c.a, c.b); code != impl.ErrNone || got != c.want {
			t.Errorf("SharperTable(%v, %v) = %v, %d, want %v", c.a, c.b, got, code, c.want)
		}
	}
}

// A table is sharper if the numbers of the other one follow from its numbers.
func TestSharperTablesTellMore(t *testing.T) {
	tables := slices.Concat(someSoundTables(), tablesOverABC())
	for _, a := range tables {
		for _, b := range tables {
			follows := map[int64]int64{}
			for letter := range a {
				follows[a[letter]] = b[letter]
			}
			want := true
			for letter := range a {
				want = want && follows[a[letter]] == b[letter]
			}
			if got, code := impl.SharperTable(a, b); code != impl.ErrNone || got != want {
				t.Fatalf("SharperTable(%v, %v) = %v, %d, want %v", a, b, got, code, want)
			}
		}
	}
}

func refusedSounds(t *testing.T, table []int64, a, b string, code int64) {
	t.Helper()
	if got, one := impl.DoSoundAlike(table, a, b); one != code || got {
		t.Errorf("DoSoundAlike with %s of %.30q and %.30q = %v, %d, want %d", fewNumbers(table), a, b, got, one, code)
	}
}

func refusedSound(t *testing.T, table []int64, word string, code int64) {
	t.Helper()
	if got, one := impl.SoundOf(table, word); one != code || got != "" {
		t.Errorf("SoundOf with %s of %.30q = %q, %d, want %d", fewNumbers(table), word, got, one, code)
	}
}

func refusedPhraseSound(t *testing.T, table []int64, s string, code int64) {
	t.Helper()
	if got, one := impl.PhraseSound(table, s); one != code || got != "" {
		t.Errorf("PhraseSound with %s of %.60q = %q, %d, want %d", fewNumbers(table), s, got, one, code)
	}
}

func refusedMatches(t *testing.T, table []int64, list []string, word string, code int64) {
	t.Helper()
	if got, one := impl.MatchSounds(table, list, word); one != code || len(got) != 0 {
		t.Errorf("MatchSounds with %s of %s and %.30q = %v, %d, want %d", fewNumbers(table), fewWords(list), word, got, one, code)
	}
}

func refusedGroups(t *testing.T, table []int64, list []string, code int64) {
	t.Helper()
	if got, one := impl.GroupsBySound(table, list); one != code || len(got) != 0 {
		t.Errorf("GroupsBySound with %s of %s = %v, %d, want %d", fewNumbers(table), fewWords(list), got, one, code)
	}
}

func refusedNearest(t *testing.T, list []string, word string, most, code int64) {
	t.Helper()
	if got, one := impl.NearestWords(list, word, most); one != code || len(got) != 0 {
		t.Errorf("NearestWords of %s, %.30q and %d = %v, %d, want %d", fewWords(list), word, most, got, one, code)
	}
}

// No table of sounds is told before too many words, also if there is no word.
func TestSoundsRefuseTables(t *testing.T) {
	soundex := soundexNumbers()
	for _, table := range notSoundTables() {
		for _, s := range []string{"a", "robert", "", "A", "a b"} {
			refusedSound(t, table, s, impl.ErrInvalid)
			refusedSounds(t, table, s, "a", impl.ErrInvalid)
			refusedSounds(t, table, s, s, impl.ErrInvalid)
			refusedPhraseSound(t, table, s, impl.ErrInvalid)
			refusedMatches(t, table, nil, s, impl.ErrInvalid)
			refusedMatches(t, table, []string{"a", s}, "a", impl.ErrInvalid)
			refusedMatches(t, table, manyWords(mostHeard+1), s, impl.ErrInvalid)
		}
		for _, list := range [][]string{nil, {"a"}, {""}, manyWords(mostHeard), manyWords(mostHeard + 1)} {
			refusedGroups(t, table, list, impl.ErrInvalid)
		}
		for _, pair := range [][2][]int64{{table, soundex}, {soundex, table}, {table, table}, {table, nil}, {nil, table}, {repeated(0, 26), table}} {
			if got, code := impl.SharperTable(pair[0], pair[1]); code != impl.ErrInvalid || got {
				t.Errorf("SharperTable of %s and %s = %v, %d", fewNumbers(pair[0]), fewNumbers(pair[1]), got, code)
			}
		}
	}
}

// A text that is no word is told before too many words and a most out of its range.
func TestSoundsRefuseTexts(t *testing.T) {
	soundex := soundexNumbers()
	long := manyWords(mostHeard + 1)
	for _, s := range append(notWords(), "a b", "robert ash") {
		refusedSound(t, soundex, s, impl.ErrInvalid)
		refusedSounds(t, soundex, s, "a", impl.ErrInvalid)
		refusedSounds(t, soundex, "a", s, impl.ErrInvalid)
		refusedSounds(t, soundex, s, s, impl.ErrInvalid)
		for _, list := range [][]string{nil, {"a"}, long} {
			refusedMatches(t, soundex, list, s, impl.ErrInvalid)
			for _, most := range []int64{0, impl.MaxWord, -1, impl.MaxWord + 1} {
				refusedNearest(t, list, s, most, impl.ErrInvalid)
			}
		}
		for _, list := range [][]string{{s}, {"a", s}, {s, "a"}, {"a", s, "b"}, append(manyWords(mostHeard-1), s), append(slices.Clone(long), s), append([]string{s}, long...), slices.Repeat([]string{s}, mostHeard+1)} {
			refusedMatches(t, soundex, list, "a", impl.ErrInvalid)
			refusedMatches(t, soundex, list, s, impl.ErrInvalid)
			refusedGroups(t, soundex, list, impl.ErrInvalid)
			for _, most := range []int64{0, impl.MaxWord, -1, impl.MaxWord + 1} {
				refusedNearest(t, list, "a", most, impl.ErrInvalid)
			}
		}
	}
	for _, s := range notPhrases() {
		refusedPhraseSound(t, soundex, s, impl.ErrInvalid)
	}
}

// A list of 20 words is accepted and one with one more is not, which is told before a most out of its range.
func TestSoundsLimit(t *testing.T) {
	soundex := soundexNumbers()
	full := slices.Repeat([]string{"oak"}, mostHeard)
	if got, code := impl.MatchSounds(soundex, full, "oak"); code != impl.ErrNone || !slices.Equal(got, countedTo(mostHeard)) {
		t.Errorf("MatchSounds of 20 words = %v, %d", got, code)
	}
	if got, code := impl.NearestWords(full, "oak", 0); code != impl.ErrNone || !slices.Equal(got, countedTo(mostHeard)) {
		t.Errorf("NearestWords of 20 words = %v, %d", got, code)
	}
	if got, code := impl.GroupsBySound(soundex, full); code != impl.ErrNone || !sameGroups(got, [][]int64{countedTo(mostHeard)}) {
		t.Errorf("GroupsBySound of 20 words = %v, %d", got, code)
	}
	for _, list := range [][]string{append(full, "a"), manyWords(mostHeard + 1), slices.Repeat([]string{"a"}, 2*mostHeard), slices.Repeat([]string{"b", "a"}, 2500)} {
		refusedMatches(t, soundex, list, "a", impl.ErrLimit)
		refusedGroups(t, soundex, list, impl.ErrLimit)
		for _, most := range []int64{0, 1, impl.MaxWord, -1, impl.MaxWord + 1, math.MinInt64, math.MaxInt64} {
			refusedNearest(t, list, "a", most, impl.ErrLimit)
		}
	}
}

func TestNearestWordsRefusesMost(t *testing.T) {
	for _, most := range []int64{-1, -2, impl.MaxWord + 1, impl.MaxWord + 2, math.MinInt64, math.MaxInt64, 1 << 32, -1 << 32} {
		for _, list := range [][]string{nil, {"a"}, {"ash", "oak"}, manyWords(mostHeard)} {
			refusedNearest(t, list, "a", most, impl.ErrRange)
		}
	}
	for most := range int64(impl.MaxWord + 1) {
		if got, code := impl.NearestWords([]string{"a"}, "a", most); code != impl.ErrNone || !slices.Equal(got, []int64{0}) {
			t.Errorf("NearestWords with most %d = %v, %d", most, got, code)
		}
	}
}

func TestSoundsKeepArguments(t *testing.T) {
	table, memoryOfTable := withSpare(soundexNumbers(), 9)
	other, memoryOfOther := withSpare(repeated(3, 26), 9)
	list, memoryOfList := withSpare([]string{"rupert", "ash", "robert", "a"}, "spare")
	impl.IsSoundTable(table)
	impl.SoundOf(table, "robert")
	impl.DoSoundAlike(table, "robert", "rupert")
	impl.PhraseSound(table, "robert ash")
	impl.MatchSounds(table, list, "robert")
	impl.NearestWords(list, "a", impl.MaxWord)
	impl.GroupsBySound(table, list)
	impl.SharperTable(table, other)
	if !slices.Equal(memoryOfTable, append(soundexNumbers(), 9, 9)) || !slices.Equal(memoryOfOther, append(repeated(3, 26), 9, 9)) {
		t.Errorf("tables were changed: %v, %v", memoryOfTable, memoryOfOther)
	}
	if !slices.Equal(memoryOfList, []string{"rupert", "ash", "robert", "a", "spare", "spare"}) {
		t.Errorf("the list was changed: %q", memoryOfList)
	}
}

func TestSoundsResultsAreNew(t *testing.T) {
	table, list := soundexNumbers(), []string{"a", "ash", "a", "ash", "a"}
	matches, _ := impl.MatchSounds(table, list, "a")
	near, _ := impl.NearestWords(list, "ash", impl.MaxWord)
	matches[0], near[0] = 7, 7
	if again, _ := impl.MatchSounds(table, list, "a"); !slices.Equal(again, []int64{0, 2, 4}) {
		t.Errorf("MatchSounds = %v after a result was changed", again)
	}
	if again, _ := impl.NearestWords(list, "ash", impl.MaxWord); !slices.Equal(again, []int64{1, 3, 0, 2, 4}) {
		t.Errorf("NearestWords = %v after a result was changed", again)
	}
	groups, _ := impl.GroupsBySound(table, list)
	for i := range groups {
		// What is written behind or into one group is in no other one.
		group := append(groups[i], 7, 7, 7)
		group[0] = 9
		groups[i] = nil
		if other := groups[len(groups)-1]; i == 0 && !slices.Equal(other, []int64{1, 3}) {
			t.Errorf("a group is %v after another one was changed", other)
		}
	}
	if again, _ := impl.GroupsBySound(table, list); !sameGroups(again, [][]int64{{0, 2, 4}, {1, 3}}) {
		t.Errorf("GroupsBySound = %v after a result was changed", again)
	}
}

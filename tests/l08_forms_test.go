package tests

import (
	"fmt"
	"math"
	"slices"
	"strings"
	"testing"

	"loop.example/g01030/impl"
)

const longestEnding = 6

func ending(old, replaced string, number int64) impl.Ending {
	return impl.Ending{Old: old, New: replaced, Case: number}
}

// someEndings returns endings of all lengths and cases.
func someEndings() []impl.Ending {
	six := wordOf("z", longestEnding)
	return []impl.Ending{
		ending("a", "ae", 2), ending("", "s", 1), ending("s", "", 1), ending("", six, 9), ending(six, "", 9), ending(six, wordOf("a", longestEnding), 5),
		ending("a", "b", 1), ending("a", "b", 9), ending("abc", "abd", 4), ending("a", "aa", 3), ending("aa", "a", 3), ending("us", "i", 7), ending("um", "a", 8), ending("x", "y", 6),
	}
}

// notEndings returns endings that break the description of an ending, each in one way.
func notEndings() []impl.Ending {
	all := []impl.Ending{{}, ending("", "", 1), ending("a", "a", 1), ending("abcdef", "abcdef", 9)}
	for _, s := range notWords() {
		if s != "" && len(s) <= longestEnding {
			all = append(all, ending(s, "a", 1), ending("a", s, 1), ending(s, "", 1), ending("", s, 1))
		}
	}
	for _, s := range []string{wordOf("z", longestEnding+1), wordOf("a", impl.MaxWord), wordOf("a", 5000)} {
		all = append(all, ending(s, "a", 1), ending("a", s, 1), ending(s, "", 1), ending("", s, 1), ending(s, s+"b", 1))
	}
	for _, number := range []int64{0, 10, -1, -9, 11, 99, 256, 257, 1<<32 + 1, math.MinInt64, math.MaxInt64} {
		all = append(all, ending("a", "b", number), ending("", "s", number), ending("s", "", number))
	}
	return all
}

// manyEndings returns different endings.
func manyEndings(number int) []impl.Ending {
	var all []impl.Ending
	for i, word := range textsOver("ab", longestEnding)[1 : number+1] {
		all = append(all, ending("", word, int64(i%9)+1))
	}
	return all
}

func someEndingTables() [][]impl.Ending {
	all := [][]impl.Ending{
		nil, {}, manyEndings(impl.MaxEndings - 1), manyEndings(impl.MaxEndings), someEndings(),
		// Endings that differ in one field alone.
		{ending("a", "b", 1), ending("a", "b", 2)}, {ending("a", "b", 1), ending("a", "c", 1)}, {ending("a", "c", 1), ending("b", "c", 1)}, {ending("a", "b", 1), ending("b", "a", 1)},
	}
	for _, e := range someEndings() {
		all = append(all, []impl.Ending{e})
	}
	return all
}

func notEndingTables() [][]impl.Ending {
	full := manyEndings(impl.MaxEndings)
	all := [][]impl.Ending{
		manyEndings(impl.MaxEndings + 1), slices.Repeat(full, 300), {ending("a", "b", 1), ending("a", "b", 1)}, {ending("a", "b", 1), ending("x", "y", 1), ending("a", "b", 1)}, {ending("", "s", 9), ending("", "s", 9)},
		append(slices.Clone(full[:impl.MaxEndings-1]), full[0]), append(slices.Clone(full[:impl.MaxEndings-1]), full[impl.MaxEndings-2]), append([]impl.Ending{full[1]}, full[1:]...),
	}
	for _, e := range notEndings() {
		all = append(all, []impl.Ending{e}, []impl.Ending{e, ending("x", "y", 1)}, []impl.Ending{ending("x", "y", 1), e}, append(slices.Clone(full[:impl.MaxEndings-1]), e))
	}
	return all
}

func manyGenerics(number int) []string { return textsOver("ab", 4)[1 : number+1] }

func someGenerics() [][]string {
	return [][]string{nil, {}, {"river"}, {"river", "ford"}, {"ford", "river"}, {"a", "aa", "aaa"}, {wordOf("z", impl.MaxWord)}, manyGenerics(impl.MaxGenerics - 1), manyGenerics(impl.MaxGenerics)}
}

func notGenerics() [][]string {
	full := manyGenerics(impl.MaxGenerics)
	all := [][]string{
		manyGenerics(impl.MaxGenerics + 1), slices.Repeat(full, 300), {"river", "river"}, {"river", "ford", "river"}, {"ford", "river", "river"}, {"a", "a"}, {"old river"},
		append(slices.Clone(full[:impl.MaxGenerics-1]), full[0]), append([]string{full[1]}, full[1:]...), slices.Repeat([]string{"a"}, impl.MaxGenerics), slices.Repeat([]string{""}, 2),
	}
	for _, s := range notWords() {
		all = append(all, []string{s}, []string{"river", s}, []string{s, "river"}, append(slices.Clone(full[:impl.MaxGenerics-1]), s))
	}
	return all
}

// fewEndings names a table by its length and its first endings.
func fewEndings(table []impl.Ending) string {
	return fmt.Sprintf("%d endings %.90s", len(table), fmt.Sprint(table[:min(len(table), 3)]))
}

// wordLength reports whether a text of letters is neither empty nor too long for a word.
func wordLength(s string) bool { return len(s) >= 1 && len(s) <= impl.MaxWord }

// isFormBy tells whether a word is a form of another one: there is a beginning that one ends with Old and the other one with New.
func isFormBy(e impl.Ending, base, word string) bool {
	for end := range len(base) + 1 {
		if base[:end]+e.Old == base && base[:end]+e.New == word {
			return wordLength(base) && wordLength(word)
		}
	}
	return false
}

// tablesOver returns all tables of one ending, with case 3, and of two, the second one with case 1, for some texts.
func tablesOver(texts ...string) [][]impl.Ending {
	var single []impl.Ending
	for _, old := range texts {
		for _, replaced := range texts {
			if old != replaced {
				single = append(single, ending(old, replaced, 3))
			}
		}
	}
	var all [][]impl.Ending
	for _, one := range single {
		all = append(all, []impl.Ending{one})
		for _, two := range single {
			two.Case = 1
			all = append(all, []impl.Ending{one, two})
		}
	}
	return all
}

// casesBy returns the cases from 1 to 9 that an ending of a table has with which a word is a form of another one.
func casesBy(table []impl.Ending, base, word string) []int64 {
	var all []int64
	for number := range int64(10) {
		if slices.ContainsFunc(table, func(e impl.Ending) bool { return e.Case == number && isFormBy(e, base, word) }) {
			all = append(all, number)
		}
	}
	return all
}

// formsBy returns those of some words, in alphabetical order, that are forms of a word.
func formsBy(table []impl.Ending, words []string, base string) []string {
	return slices.DeleteFunc(slices.Clone(words), func(word string) bool { return len(casesBy(table, base, word)) == 0 })
}

// basesBy returns those of some words, in alphabetical order, of which a word is a form.
func basesBy(table []impl.Ending, words []string, word string) []string {
	return slices.DeleteFunc(slices.Clone(words), func(base string) bool { return len(casesBy(table, base, word)) == 0 })
}

// placeBy returns the place of the Generic in a phrase, or -1.
func placeBy(generics, words []string) int {
	for _, place := range []int{len(words) - 1, 0} {
		if len(words) > 1 && slices.Contains(generics, words[place]) {
			return place
		}
	}
	return -1
}

func TestFormsLimits(t *testing.T) {
	if impl.MaxEndings != 16 || impl.MaxGenerics != 16 {
		t.Errorf("MaxEndings = %d, MaxGenerics = %d", impl.MaxEndings, impl.MaxGenerics)
	}
}

func TestIsEndingTable(t *testing.T) {
	for _, table := range someEndingTables() {
		if !impl.IsEndingTable(table) {
			t.Errorf("IsEndingTable of %s = false", fewEndings(table))
		}
	}
	for _, table := range notEndingTables() {
		if impl.IsEndingTable(table) {
			t.Errorf("IsEndingTable of %s = true", fewEndings(table))
		}
	}
	for length := range 10 {
		for number := int64(-2); number <= 12; number++ {
			for _, e := range []impl.Ending{ending(wordOf("z", length), "a", number), ending("a", wordOf("z", length), number)} {
				if got, want := impl.IsEndingTable([]impl.Ending{e}), length <= longestEnding && number >= 1 && number <= 9; got != want {
					t.Errorf("IsEndingTable of %v = %v", e, got)
				}
			}
		}
	}
	for c := range 256 {
		s, want := string([]byte{byte(c)}), 'a' <= c && c <= 'z'
		for _, e := range []impl.Ending{ending(s, "zz", 1), ending("zz", s, 1), ending("b"+s, "", 1), ending("", s+"b", 1)} {
			if got := impl.IsEndingTable([]impl.Ending{e}); got != want {
				t.Errorf("IsEndingTable of %v = %v", e, got)
			}
		}
	}
}

func TestAreGenerics(t *testing.T) {
	for _, list := range someGenerics() {
		if !impl.AreGenerics(list) {
			t.Errorf("AreGenerics of %s = false", fewWords(list))
		}
	}
	for _, list := range notGenerics() {
		if impl.AreGenerics(list) {
			t.Errorf("AreGenerics of %s = true", fewWords(list))
		}
	}
}

func TestFormsOf(t *testing.T) {
	six := wordOf("z", longestEnding)
	cases := []struct {
		table []impl.Ending
		word  string
		want  []string
	}{
		{[]impl.Ending{ending("a", "ae", 2)}, "roma", []string{"romae"}}, {[]impl.Ending{ending("a", "ae", 2)}, "rome", nil}, {[]impl.Ending{ending("a", "ae", 2)}, "arm", nil}, {nil, "roma", nil}, {[]impl.Ending{}, "a", nil},
		// The end alone is replaced, once, also if Old stands in the word several times.
		{[]impl.Ending{ending("a", "b", 1)}, "aaa", []string{"aab"}}, {[]impl.Ending{ending("ab", "c", 1)}, "abab", []string{"abc"}}, {[]impl.Ending{ending("ab", "c", 1)}, "aba", nil},
		// The empty Old is the end of every word.
		{[]impl.Ending{ending("", "s", 1)}, "ash", []string{"ashs"}}, {[]impl.Ending{ending("", "s", 1)}, "s", []string{"ss"}}, {[]impl.Ending{ending("s", "", 1)}, "ss", []string{"s"}}, {[]impl.Ending{ending("s", "", 1)}, "ash", nil},
		// A word that is the Old as a whole; what is left may be empty, which is no word.
		{[]impl.Ending{ending("a", "ae", 2)}, "a", []string{"ae"}}, {[]impl.Ending{ending("a", "b", 2)}, "a", []string{"b"}}, {[]impl.Ending{ending("s", "", 1)}, "s", nil}, {[]impl.Ending{ending(six, "", 1)}, six, nil}, {[]impl.Ending{ending(six, "", 1)}, "a" + six, []string{"a"}},
		{[]impl.Ending{ending("aa", "", 1), ending("a", "", 1)}, "aa", []string{"a"}}, {[]impl.Ending{ending("abc", "d", 1)}, "bc", nil}, {[]impl.Ending{ending("abc", "d", 1)}, "c", nil},
		// A form of MaxWord letters, and one of one more, which is no word.
		{[]impl.Ending{ending("", six, 1)}, wordOf("a", impl.MaxWord-6), []string{wordOf("a", impl.MaxWord-6) + six}}, {[]impl.Ending{ending("", six, 1)}, wordOf("a", impl.MaxWord-5), nil}, {[]impl.Ending{ending("", "s", 1)}, wordOf("a", impl.MaxWord-1), []string{wordOf("a", impl.MaxWord-1) + "s"}}, {[]impl.Ending{ending("", "s", 1)}, wordOf("a", impl.MaxWord), nil},
		{[]impl.Ending{ending("a", "bb", 1), ending("a", "b", 1)}, wordOf("a", impl.MaxWord), []string{wordOf("a", impl.MaxWord-1) + "b"}}, {[]impl.Ending{ending(six, "", 1)}, wordOf("z", impl.MaxWord), []string{wordOf("z", impl.MaxWord-6)}}, {[]impl.Ending{ending(six, "abcdef", 1)}, wordOf("z", impl.MaxWord), []string{wordOf("z", impl.MaxWord-6) + "abcdef"}},
		// Forms that two endings make alike, and the alphabetical order.
		{[]impl.Ending{ending("a", "ae", 2), ending("a", "ae", 3)}, "roma", []string{"romae"}}, {[]impl.Ending{ending("ma", "mae", 2), ending("", "e", 3), ending("a", "ae", 2)}, "roma", []string{"romae"}}, {[]impl.Ending{ending("a", "o", 1), ending("a", "i", 1), ending("", "s", 1), ending("ma", "ta", 1), ending("a", "o", 2), ending("a", "", 1)}, "roma", []string{"rom", "romas", "romi", "romo", "rota"}},
		{[]impl.Ending{ending("b", "z", 1), ending("b", "bb", 1), ending("b", "a", 1), ending("b", "ba", 1)}, "b", []string{"a", "ba", "bb", "z"}}, {[]impl.Ending{ending("a", "b", 1), ending("b", "c", 1)}, "a", []string{"b"}},
	}
	for _, c := range cases {
		if got, code := impl.FormsOf(c.table, c.word); code != impl.ErrNone || !slices.Equal(got, c.want) {
			t.Errorf("FormsOf(%v, %q) = %q, %d, want %q", c.table, c.word, got, code, c.want)
		}
	}
	full, _ := impl.FormsOf(manyEndings(impl.MaxEndings), "x")
	var want []string
	for _, e := range manyEndings(impl.MaxEndings) {
		want = append(want, "x"+e.New)
	}
	slices.Sort(want)
	if !slices.Equal(full, want) {
		t.Errorf("FormsOf with %d endings = %q, want %q", impl.MaxEndings, full, want)
	}
}

func TestBasesOf(t *testing.T) {
	six := wordOf("z", longestEnding)
	cases := []struct {
		table []impl.Ending
		word  string
		want  []string
	}{
		{[]impl.Ending{ending("a", "ae", 2)}, "romae", []string{"roma"}}, {[]impl.Ending{ending("a", "ae", 2)}, "roma", nil}, {[]impl.Ending{ending("a", "ae", 2)}, "aer", nil}, {nil, "roma", nil}, {[]impl.Ending{}, "a", nil}, {[]impl.Ending{ending("a", "b", 1)}, "bbb", []string{"bba"}},
		// The empty New is the end of every word.
		{[]impl.Ending{ending("s", "", 1)}, "ash", []string{"ashs"}}, {[]impl.Ending{ending("", "s", 1)}, "ashs", []string{"ash"}}, {[]impl.Ending{ending("", "s", 1)}, "ash", nil},
		// A word that is the New as a whole, and a base that would be empty or too long.
		{[]impl.Ending{ending("a", "ae", 2)}, "ae", []string{"a"}}, {[]impl.Ending{ending("", "s", 1)}, "s", nil}, {[]impl.Ending{ending("", six, 1)}, six, nil}, {[]impl.Ending{ending("", six, 1)}, "a" + six, []string{"a"}},
		{[]impl.Ending{ending(six, "", 1)}, wordOf("a", impl.MaxWord-6), []string{wordOf("a", impl.MaxWord-6) + six}}, {[]impl.Ending{ending(six, "", 1)}, wordOf("a", impl.MaxWord-5), nil}, {[]impl.Ending{ending("s", "", 1)}, wordOf("a", impl.MaxWord-1), []string{wordOf("a", impl.MaxWord-1) + "s"}}, {[]impl.Ending{ending("s", "", 1)}, wordOf("a", impl.MaxWord), nil}, {[]impl.Ending{ending("", six, 1)}, wordOf("z", impl.MaxWord), []string{wordOf("z", impl.MaxWord-6)}},
		// Bases that two endings make alike, and the alphabetical order.
		{[]impl.Ending{ending("a", "ae", 2), ending("a", "ae", 3)}, "romae", []string{"roma"}}, {[]impl.Ending{ending("", "e", 3), ending("ma", "mae", 2), ending("a", "ae", 2)}, "romae", []string{"roma"}}, {[]impl.Ending{ending("us", "i", 1), ending("um", "i", 1), ending("", "i", 1), ending("s", "", 1), ending("a", "mi", 1)}, "romi", []string{"roa", "rom", "romis", "romum", "romus"}},
		{[]impl.Ending{ending("a", "b", 1), ending("b", "c", 1)}, "c", []string{"b"}},
	}
	for _, c := range cases {
		if got, code := impl.BasesOf(c.table, c.word); code != impl.ErrNone || !slices.Equal(got, c.want) {
			t.Errorf("BasesOf(%v, %q) = %q, %d, want %q", c.table, c.word, got, code, c.want)
		}
	}
}

func TestCasesOf(t *testing.T) {
	six := wordOf("z", longestEnding)
	cases := []struct {
		table      []impl.Ending
		base, word string
		want       []int64
	}{
		{[]impl.Ending{ending("a", "ae", 2)}, "roma", "romae", []int64{2}}, {[]impl.Ending{ending("a", "ae", 2)}, "romae", "roma", nil}, {[]impl.Ending{ending("a", "ae", 2)}, "roma", "roma", nil}, {[]impl.Ending{ending("a", "ae", 2)}, "roma", "tomae", nil}, {nil, "roma", "romae", nil}, {nil, "a", "a", nil},
		// Several cases, in another order in the table, and ones that occur twice.
		{[]impl.Ending{ending("a", "ae", 9), ending("a", "ae", 1), ending("a", "ae", 5)}, "roma", "romae", []int64{1, 5, 9}}, {[]impl.Ending{ending("a", "ae", 3), ending("", "e", 3)}, "roma", "romae", []int64{3}}, {[]impl.Ending{ending("", "e", 7), ending("a", "ae", 3), ending("ma", "mae", 7), ending("roma", "romae", 3), ending("x", "y", 1)}, "roma", "romae", []int64{3, 7}},
		{[]impl.Ending{ending("a", "ae", 1), ending("a", "i", 2), ending("", "s", 3)}, "roma", "romi", []int64{2}}, {[]impl.Ending{ending("a", "ae", 1), ending("a", "i", 2), ending("", "s", 3)}, "roma", "romas", []int64{3}}, {[]impl.Ending{ending("b", "ae", 1), ending("a", "ae", 2)}, "b", "ae", []int64{1}}, {[]impl.Ending{ending("a", "b", 1), ending("b", "c", 2)}, "a", "c", nil},
		// Words that are as long as a word may be.
		{[]impl.Ending{ending("", six, 4)}, wordOf("z", impl.MaxWord-6), wordOf("z", impl.MaxWord), []int64{4}}, {[]impl.Ending{ending(six, "", 4)}, wordOf("z", impl.MaxWord), wordOf("z", impl.MaxWord-6), []int64{4}}, {[]impl.Ending{ending("", "z", 4)}, wordOf("z", impl.MaxWord), wordOf("z", impl.MaxWord), nil}, {[]impl.Ending{ending("s", "", 4)}, "s", "s", nil},
	}
	for _, c := range cases {
		if got, code := impl.CasesOf(c.table, c.base, c.word); code != impl.ErrNone || !slices.Equal(got, c.want) {
			t.Errorf("CasesOf(%v, %q, %q) = %v, %d, want %v", c.table, c.base, c.word, got, code, c.want)
		}
	}
	var all []impl.Ending
	for number := int64(9); number >= 1; number-- {
		all = append(all, ending("a", "b", number))
	}
	if got, code := impl.CasesOf(all, "a", "b"); code != impl.ErrNone || !slices.Equal(got, []int64{1, 2, 3, 4, 5, 6, 7, 8, 9}) {
		t.Errorf("CasesOf with all cases = %v, %d", got, code)
	}
}

// All words of a few letters are tried as forms and as bases, so none that an ending makes is missing, and none is too many.
func TestFormsAndBasesAreAll(t *testing.T) {
	words := textsOver("ab", 3)[1:]
	longer := slices.Sorted(slices.Values(textsOver("ab", 5)[1:]))
	for _, table := range tablesOver("", "a", "b", "ab", "ba", "bb") {
		for _, word := range words {
			if got, code := impl.FormsOf(table, word); code != impl.ErrNone || !slices.Equal(got, formsBy(table, longer, word)) {
				t.Fatalf("FormsOf(%v, %q) = %q, %d, want %q", table, word, got, code, formsBy(table, longer, word))
			}
			if got, code := impl.BasesOf(table, word); code != impl.ErrNone || !slices.Equal(got, basesBy(table, longer, word)) {
				t.Fatalf("BasesOf(%v, %q) = %q, %d, want %q", table, word, got, code, basesBy(table, longer, word))
			}
			for _, other := range words {
				if got, code := impl.CasesOf(table, word, other); code != impl.ErrNone || !slices.Equal(got, casesBy(table, word, other)) {
					t.Fatalf("CasesOf(%v, %q, %q) = %v, %d, want %v", table, word, other, got, code, casesBy(table, word, other))
				}
			}
		}
	}
}

// Chapter 8 guarantees that a word is a form of each of its bases; the cases of both tell the same.
func TestWordsAreFormsOfTheirBases(t *testing.T) {
	words := slices.Concat(someWords(), []string{"roma", "romae", "romanus", "romani", "romanum", "us", "i", wordOf("z", 5), wordOf("z", 6), wordOf("z", 7), wordOf("z", 10), wordOf("z", 11), wordOf("z", impl.MaxWord)})
	for _, table := range someEndingTables() {
		for _, word := range words {
			bases, code := impl.BasesOf(table, word)
			forms, two := impl.FormsOf(table, word)
			if code != impl.ErrNone || two != impl.ErrNone || !slices.IsSorted(bases) || !slices.IsSorted(forms) || len(slices.Compact(slices.Clone(forms))) != len(forms) || len(slices.Compact(slices.Clone(bases))) != len(bases) {
				t.Fatalf("BasesOf and FormsOf of %q with %s = %q, %d and %q, %d", word, fewEndings(table), bases, code, forms, two)
			}
			for _, base := range bases {
				back, _ := impl.FormsOf(table, base)
				cases, _ := impl.CasesOf(table, base, word)
				if !impl.IsWord(base) || !slices.Contains(back, word) || len(cases) == 0 {
					t.Fatalf("with %s %q is a base of %q, whose forms are %q, cases %v", fewEndings(table), base, word, back, cases)
				}
			}
			for _, form := range forms {
				back, _ := impl.BasesOf(table, form)
				cases, _ := impl.CasesOf(table, word, form)
				if !impl.IsWord(form) || !slices.Contains(back, word) || len(cases) == 0 {
					t.Fatalf("with %s %q is a form of %q, its bases are %q, cases %v", fewEndings(table), form, word, back, cases)
				}
			}
		}
	}
}

func TestTakeApart(t *testing.T) {
	long := wordOf("z", impl.MaxWord)
	cases := []struct {
		generics          []string
		s                 string
		specific, generic string
	}{
		{[]string{"river"}, "ash river", "ash", "river"}, {[]string{"river"}, "river ash", "ash", "river"}, {[]string{"ford", "river"}, "old ash river", "old ash", "river"}, {[]string{"ford", "river"}, "ford old ash", "old ash", "ford"},
		// One word is no Generic, and without a generic at an end all is the Specific.
		{[]string{"river"}, "river", "river", ""}, {[]string{"river"}, "ash", "ash", ""}, {[]string{"river"}, "old ash", "old ash", ""}, {[]string{"river"}, "old river ash", "old river ash", ""}, {nil, "ash river", "ash river", ""}, {[]string{}, "ash", "ash", ""}, {nil, "river", "river", ""},
		// The last word is taken if the first one is a generic, too.
		{[]string{"river", "ford"}, "river ford", "river", "ford"}, {[]string{"ford", "river"}, "river ford", "river", "ford"}, {[]string{"river"}, "river river", "river", "river"}, {[]string{"river"}, "river ash river", "river ash", "river"}, {[]string{"river", "ford"}, "river ash ford", "river ash", "ford"}, {[]string{"river"}, "river river ash", "river ash", "river"}, {[]string{"river"}, "ash river river", "ash river", "river"}, {[]string{"river"}, "river river river", "river river", "river"},
		// Words that begin or end with a generic are none.
		{[]string{"river"}, "ash rivers", "ash rivers", ""}, {[]string{"river"}, "driver ash", "driver ash", ""}, {[]string{"rivers"}, "ash river", "ash river", ""},
		// The longest phrases and generics, and all of MaxGenerics.
		{[]string{long}, phraseOf(long, impl.MaxPhrase), phraseOf(long, impl.MaxPhrase-1), long}, {[]string{"river"}, phraseOf("a", impl.MaxPhrase), phraseOf("a", impl.MaxPhrase), ""}, {[]string{"b"}, "b " + phraseOf("a", impl.MaxPhrase-1), phraseOf("a", impl.MaxPhrase-1), "b"}, {[]string{"b"}, phraseOf("a", impl.MaxPhrase-1) + " b", phraseOf("a", impl.MaxPhrase-1), "b"},
	}
	for _, c := range cases {
		got, code := impl.TakeApart(c.generics, c.s)
		if want := (impl.Parts{Specific: c.specific, Generic: c.generic}); code != impl.ErrNone || got != want {
			t.Errorf("TakeApart(%q, %q) = %q, %d, want %q", c.generics, c.s, got, code, want)
		}
	}
	full := manyGenerics(impl.MaxGenerics)
	for _, generic := range full {
		for _, s := range []string{"ash " + generic, generic + " ash"} {
			if got, code := impl.TakeApart(full, s); code != impl.ErrNone || got != (impl.Parts{Specific: "ash", Generic: generic}) {
				t.Errorf("TakeApart(%q, %q) = %q, %d", full, s, got, code)
			}
		}
	}
}

// Promise 10: a phrase that is taken apart can be put together again.
func TestPhrasesArePutTogetherAgain(t *testing.T) {
	words := []string{"a", "b", "river"}
	phrases := append(phrasesOver(words, 4), phraseOf("river", impl.MaxPhrase), "b "+phraseOf("a", impl.MaxPhrase-1), phraseOf("a", impl.MaxPhrase-1)+" b", phraseOf("ash", impl.MaxPhrase))
	for _, generics := range append(choicesOf("a", "b", "river", "ash"), manyGenerics(impl.MaxGenerics)) {
		for _, s := range phrases {
			parts, code := impl.TakeApart(generics, s)
			wantCode(t, "TakeApart", code, impl.ErrNone)
			before, code := impl.PutTogether(parts, true)
			behind, two := impl.PutTogether(parts, false)
			if code != impl.ErrNone || two != impl.ErrNone {
				t.Fatalf("PutTogether(%q) gives the codes %d and %d", parts, code, two)
			}
			list := strings.Split(s, " ")
			switch place := placeBy(generics, list); {
			case place < 0:
				if parts != (impl.Parts{Specific: s}) || before != s || behind != s {
					t.Fatalf("TakeApart(%q, %q) = %q, put together %q and %q", generics, s, parts, before, behind)
				}
			case parts.Generic != list[place] || place == 0 && before != s || place > 0 && behind != s:
				t.Fatalf("TakeApart(%q, %q) = %q, put together %q and %q", generics, s, parts, before, behind)
			}
		}
	}
}

func TestPutTogether(t *testing.T) {
	long := wordOf("z", impl.MaxWord)
	cases := []struct {
		specific, generic string
		first             bool
		want              string
	}{
		{"ash", "river", true, "river ash"}, {"ash", "river", false, "ash river"}, {"old ash", "river", true, "river old ash"}, {"old ash", "river", false, "old ash river"}, {"river", "river", true, "river river"}, {"river", "river", false, "river river"},
		// Without a Generic the Specific is all, also if it has as many words as a phrase may have.
		{"ash", "", true, "ash"}, {"ash", "", false, "ash"}, {"old ash", "", true, "old ash"}, {phraseOf(long, impl.MaxPhrase), "", true, phraseOf(long, impl.MaxPhrase)}, {phraseOf(long, impl.MaxPhrase), "", false, phraseOf(long, impl.MaxPhrase)},
		{phraseOf(long, impl.MaxPhrase-1), "a", true, "a " + phraseOf(long, impl.MaxPhrase-1)}, {phraseOf("a", impl.MaxPhrase-1), long, false, phraseOf("a", impl.MaxPhrase-1) + " " + long},
	}
	for _, c := range cases {
		if got, code := impl.PutTogether(impl.Parts{Specific: c.specific, Generic: c.generic}, c.first); code != impl.ErrNone || got != c.want {
			t.Errorf("PutTogether({%q %q}, %v) = %q, %d, want %q", c.specific, c.generic, c.first, got, code, c.want)
		}
	}
}

func TestPutTogetherRefuses(t *testing.T) {
	parts := []impl.Parts{{}, {Generic: "river"}, {Specific: phraseOf("a", impl.MaxPhrase), Generic: "river"}, {Specific: "ash", Generic: "old river"}, {Specific: "ash", Generic: "river "}, {Specific: "ash", Generic: " river"}}
	for _, s := range notPhrases() {
		parts = append(parts, impl.Parts{Specific: s}, impl.Parts{Specific: s, Generic: "river"}, impl.Parts{Specific: s, Generic: s})
	}
	for _, s := range notWords() {
		if s != "" {
			parts = append(parts, impl.Parts{Specific: "ash", Generic: s}, impl.Parts{Specific: "old ash", Generic: s}, impl.Parts{Specific: phraseOf("a", impl.MaxPhrase), Generic: s})
		}
	}
	for _, p := range parts {
		for _, first := range []bool{true, false} {
			if got, code := impl.PutTogether(p, first); code != impl.ErrInvalid || got != "" {
				t.Errorf("PutTogether(%.60q, %v) = %q, %d", p, first, got, code)
			}
		}
	}
}

func TestTranslateGeneric(t *testing.T) {
	long := wordOf("z", impl.MaxWord)
	cases := []struct {
		from, to []string
		s, want  string
	}{
		{[]string{"river"}, []string{"fluss"}, "river ash", "fluss ash"}, {[]string{"river"}, []string{"fluss"}, "ash river", "ash fluss"}, {[]string{"ford", "river"}, []string{"furt", "fluss"}, "old ash river", "old ash fluss"}, {[]string{"ford", "river"}, []string{"furt", "fluss"}, "ford old ash", "furt old ash"},
		// The phrase itself, if its Generic is empty.
		{[]string{"river"}, []string{"fluss"}, "river", "river"}, {[]string{"river"}, []string{"fluss"}, "old ash", "old ash"}, {[]string{"river"}, []string{"fluss"}, "old river ash", "old river ash"}, {nil, nil, "ash river", "ash river"}, {nil, []string{}, "ash", "ash"},
		// One word alone is replaced: the last one before the first one, and none in between.
		{[]string{"river"}, []string{"fluss"}, "river river", "river fluss"}, {[]string{"river"}, []string{"fluss"}, "river ash river", "river ash fluss"}, {[]string{"river", "ford"}, []string{"fluss", "furt"}, "river ford", "river furt"}, {[]string{"river"}, []string{"fluss"}, "river river ash", "fluss river ash"}, {[]string{"river"}, []string{"fluss"}, "ash river river", "ash river fluss"},
		// The same generics in both lists, in the same order and in another one, and the generics of to, which do not count.
		{[]string{"river", "ford"}, []string{"river", "ford"}, "ash ford", "ash ford"}, {[]string{"river", "ford"}, []string{"ford", "river"}, "ash ford", "ash river"}, {[]string{"river", "ford"}, []string{"ford", "river"}, "river ash", "ford ash"}, {[]string{"river"}, []string{"ash"}, "river ash", "ash ash"}, {[]string{"river"}, []string{"fluss"}, "ash fluss", "ash fluss"}, {[]string{"river"}, []string{"fluss"}, "river fluss", "fluss fluss"},
		{[]string{"z"}, []string{long}, phraseOf("z", impl.MaxPhrase), phraseOf("z", impl.MaxPhrase-1) + " " + long}, {[]string{"z"}, []string{long}, "z " + phraseOf("a", impl.MaxPhrase-1), long + " " + phraseOf("a", impl.MaxPhrase-1)}, {[]string{long}, []string{"z"}, phraseOf(long, impl.MaxPhrase), phraseOf(long, impl.MaxPhrase-1) + " z"},
	}
	for _, c := range cases {
		if got, code := impl.TranslateGeneric(c.from, c.to, c.s); code != impl.ErrNone || got != c.want {
			t.Errorf("TranslateGeneric(%q, %q, %q) = %q, %d, want %q", c.from, c.to, c.s, got, code, c.want)
		}
	}
	from, to := manyGenerics(impl.MaxGenerics), manyGenerics(impl.MaxGenerics + 1)[1:]
	for i := range from {
		got, code := impl.TranslateGeneric(from, to, from[i]+" ash")
		back, two := impl.TranslateGeneric(to, from, got)
		if code != impl.ErrNone || two != impl.ErrNone || got != to[i]+" ash" || back != from[i]+" ash" {
			t.Errorf("TranslateGeneric of %q = %q, %d, and back %q, %d", from[i]+" ash", got, code, back, two)
		}
	}
}

// The translated phrase differs in the Generic alone, which is where TakeApart found it.
func TestGenericsAreTranslatedAtTheirPlace(t *testing.T) {
	for _, from := range choicesOf("a", "b", "river") {
		for _, to := range choicesOf("a", "river", "fluss", "x") {
			for _, s := range phrasesOver([]string{"a", "b", "river"}, 4) {
				got, code := impl.TranslateGeneric(from, to, s)
				if len(from) != len(to) {
					if code != impl.ErrState || got != "" {
						t.Fatalf("TranslateGeneric(%q, %q, %q) = %q, %d", from, to, s, got, code)
					}
					continue
				}
				want := strings.Split(s, " ")
				if place := placeBy(from, want); place >= 0 {
					want[place] = to[slices.Index(from, want[place])]
				}
				if code != impl.ErrNone || got != strings.Join(want, " ") {
					t.Fatalf("TranslateGeneric(%q, %q, %q) = %q, %d, want %q", from, to, s, got, code, want)
				}
			}
		}
	}
}

func refusedEndings(t *testing.T, table []impl.Ending, base, word string) {
	t.Helper()
	if got, code := impl.CasesOf(table, base, word); code != impl.ErrInvalid || len(got) != 0 {
		t.Errorf("CasesOf with %s of %.30q and %.30q = %v, %d", fewEndings(table), base, word, got, code)
	}
}

func refusedForms(t *testing.T, table []impl.Ending, word string) {
	t.Helper()
	if got, code := impl.FormsOf(table, word); code != impl.ErrInvalid || len(got) != 0 {
		t.Errorf("FormsOf with %s of %.30q = %q, %d", fewEndings(table), word, got, code)
	}
	if got, code := impl.BasesOf(table, word); code != impl.ErrInvalid || len(got) != 0 {
		t.Errorf("BasesOf with %s of %.30q = %q, %d", fewEndings(table), word, got, code)
	}
}

func refusedParts(t *testing.T, generics []string, s string) {
	t.Helper()
	if got, code := impl.TakeApart(generics, s); code != impl.ErrInvalid || got != (impl.Parts{}) {
		t.Errorf("TakeApart with %s of %.60q = %q, %d", fewWords(generics), s, got, code)
	}
}

func refusedTranslation(t *testing.T, from, to []string, s string, code int64) {
	t.Helper()
	if got, one := impl.TranslateGeneric(from, to, s); one != code || got != "" {
		t.Errorf("TranslateGeneric with %s and %s of %.60q = %q, %d, want %d", fewWords(from), fewWords(to), s, got, one, code)
	}
}

func TestFormsRefuse(t *testing.T) {
	for _, table := range notEndingTables() {
		for _, s := range []string{"a", "roma", "", "A", "a b"} {
			refusedForms(t, table, s)
			refusedEndings(t, table, s, "a")
			refusedEndings(t, table, "a", s)
			refusedEndings(t, table, s, s)
		}
	}
	for _, table := range [][]impl.Ending{nil, {ending("a", "b", 1)}, {ending("", "s", 1), ending("s", "", 1)}, manyEndings(impl.MaxEndings)} {
		for _, s := range append(notWords(), "a b", "old ash", wordOf("s", impl.MaxWord+1), wordOf("a", impl.MaxWord+longestEnding)) {
			refusedForms(t, table, s)
			refusedEndings(t, table, s, "a")
			refusedEndings(t, table, "a", s)
			refusedEndings(t, table, s, s)
		}
	}
	// The text that would be no word counts, not the form that would be made of it.
	refusedEndings(t, []impl.Ending{ending("", "s", 1)}, "", "s")
	refusedEndings(t, []impl.Ending{ending("s", "", 1)}, "s", "")
	refusedEndings(t, []impl.Ending{ending("", "s", 1)}, wordOf("a", impl.MaxWord), wordOf("a", impl.MaxWord)+"s")
}

// Lists that are no generics and texts that are no phrases are told before lists of different lengths.
func TestGenericsRefuse(t *testing.T) {
	for _, list := range notGenerics() {
		for _, s := range []string{"ash", "ash river", "", "Ash", "ash  river"} {
			refusedParts(t, list, s)
			for _, other := range [][]string{nil, {"fluss"}, {"fluss", "furt"}, list, manyGenerics(impl.MaxGenerics)} {
				refusedTranslation(t, list, other, s, impl.ErrInvalid)
				refusedTranslation(t, other, list, s, impl.ErrInvalid)
			}
		}
	}
	for _, s := range notPhrases() {
		for _, list := range someGenerics() {
			refusedParts(t, list, s)
			refusedTranslation(t, list, list, s, impl.ErrInvalid)
			refusedTranslation(t, list, []string{"fluss"}, s, impl.ErrInvalid)
			refusedTranslation(t, []string{"fluss", "furt", "see"}, list, s, impl.ErrInvalid)
		}
	}
}

// The lengths count also where the Generic is empty, and where both lists have its index.
func TestGenericsOfDifferentLengths(t *testing.T) {
	for _, s := range []string{"ash river", "river ash", "river", "ash", "old ash", phraseOf("river", impl.MaxPhrase)} {
		for _, pair := range [][2][]string{{{"river"}, nil}, {nil, {"fluss"}}, {{"river"}, {"fluss", "furt"}}, {{"river", "ford"}, {"fluss"}}, {manyGenerics(impl.MaxGenerics), manyGenerics(impl.MaxGenerics - 1)}} {
			refusedTranslation(t, pair[0], pair[1], s, impl.ErrState)
			refusedTranslation(t, pair[1], pair[0], s, impl.ErrState)
		}
	}
}

func TestFormsKeepArguments(t *testing.T) {
	first := []impl.Ending{ending("a", "o", 3), ending("a", "ae", 2), ending("", "e", 1)}
	table, memoryOfTable := withSpare(first, ending("x", "y", 9))
	from, memoryOfFrom := withSpare([]string{"river", "ford"}, "spare")
	to, memoryOfTo := withSpare([]string{"fluss", "furt"}, "spare")
	impl.IsEndingTable(table)
	impl.FormsOf(table, "roma")
	impl.BasesOf(table, "romae")
	impl.CasesOf(table, "roma", "romae")
	impl.AreGenerics(from)
	impl.TakeApart(from, "ash river")
	impl.TranslateGeneric(from, to, "river ash ford")
	if !slices.Equal(memoryOfTable, append(first, ending("x", "y", 9), ending("x", "y", 9))) {
		t.Errorf("the table was changed: %v", memoryOfTable)
	}
	if !slices.Equal(memoryOfFrom, []string{"river", "ford", "spare", "spare"}) || !slices.Equal(memoryOfTo, []string{"fluss", "furt", "spare", "spare"}) {
		t.Errorf("generics were changed: %q, %q", memoryOfFrom, memoryOfTo)
	}
}

func TestFormsResultsAreNew(t *testing.T) {
	table := []impl.Ending{ending("a", "o", 3), ending("a", "ae", 2), ending("", "e", 1)}
	forms, _ := impl.FormsOf(table, "roma")
	bases, _ := impl.BasesOf(table, "romae")
	cases, _ := impl.CasesOf(table, "roma", "romae")
	forms[0], bases[0], cases[0] = "changed", "changed", 7
	if again, _ := impl.FormsOf(table, "roma"); !slices.Equal(again, []string{"romae", "romo"}) {
		t.Errorf("FormsOf = %q after a result was changed", again)
	}
	if again, _ := impl.BasesOf(table, "romae"); !slices.Equal(again, []string{"roma"}) {
		t.Errorf("BasesOf = %q after a result was changed", again)
	}
	if again, _ := impl.CasesOf(table, "roma", "romae"); !slices.Equal(again, []int64{1, 2}) {
		t.Errorf("CasesOf = %v after a result was changed", again)
	}
}

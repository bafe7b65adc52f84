package tests

import (
	"fmt"
	"math"
	"regexp"
	"slices"
	"strings"
	"testing"

	"loop.example/g01030/impl"
)

// manyLetters returns a number of different letters of 3, 2 and 1 characters in turn, at most 78.
func manyLetters(number int) []string {
	list := make([]string, number)
	for i := range list {
		list[i] = (string(rune('a'+i/3)) + "yz")[:3-i%3]
	}
	return list
}

func someAlphabets() [][]string {
	return [][]string{
		{"a"}, {"z"}, {"ab"}, {"abc"}, {"zzz"}, {"a", "s", "h", "sh"}, {"sh", "h", "s", "a"}, {"a", "ab", "bc"}, {"bc", "ab", "a"},
		{"a", "aa", "aaa"}, {"aaa", "aa", "a"}, {"aa", "aaa"}, {"b", "ab", "aab"}, {"a", "b", "ba", "bab"}, {"c", "h", "sch", "s", "ch", "a"},
		strings.Split("abcdefghijklmnopqrstuvwxyz", ""), manyLetters(impl.MaxLetters - 1), manyLetters(impl.MaxLetters),
	}
}

// notAlphabets break the description of an alphabet.
func notAlphabets() [][]string {
	full := manyLetters(impl.MaxLetters)
	lists := [][]string{
		nil, {}, {"", ""}, {"a", "a"}, {"sz", "sz"}, {"a", "b", "a"}, {"b", "a", "a"}, {"a", "a", "b"}, {"a", "sch", "b", "sch"},
		{"abcd", "abcd"}, {"a b"}, {"a", "b c"}, {"a b c"}, {" a"}, {"a "},
		manyLetters(impl.MaxLetters + 1), append(slices.Clone(full), "a"), append(slices.Clone(full), full[0]), append(slices.Clone(full), ""),
		append(slices.Clone(full[:impl.MaxLetters-1]), full[0]), slices.Repeat([]string{"a"}, impl.MaxLetters),
		slices.Repeat([]string{"a"}, 5000), textsOver("abcdefghijklmnopq", 3)[1:],
	}
	for _, s := range []string{
		"", " ", "A", "Sh", "sH", "scH", "a1", "0", "a-", "-", ",", "a\n", "\n", "\t", "\x00", "a\x00", "`", "{", "é", "ß", "а", "\xff", "a\xff", "ab\x80",
		"abcd", "aaaa", "schw", wordOf("a", impl.MaxWord), wordOf("a", impl.MaxWord+1), wordOf("z", 5000),
	} {
		lists = append(lists, []string{s}, []string{s, "b"}, []string{"b", s}, []string{"b", s, "c"})
	}
	return lists
}

func startOf(letters []string) string {
	return fmt.Sprintf("%d letters %.60q", len(letters), letters[:min(len(letters), 5)])
}

// alphabetsOver returns alphabets of some letters, each one also backwards.
func alphabetsOver(letters ...string) [][]string { return choicesOf(letters...)[2:] }

// spelled tries all letters at each place and takes the longest one that fits.
func spelled(letters []string, word string) ([]int64, bool) {
	var list []int64
	for word != "" {
		best := -1
		for i, letter := range letters {
			if strings.HasPrefix(word, letter) && (best < 0 || len(letter) > len(letters[best])) {
				best = i
			}
		}
		if best < 0 {
			return nil, false
		}
		list = append(list, int64(best))
		word = strings.TrimPrefix(word, letters[best])
	}
	return list, true
}

// listsMaking returns all lists of indices whose letters make a text.
func listsMaking(letters []string, text string) [][]int64 {
	if text == "" {
		return [][]int64{nil}
	}
	var lists [][]int64
	for i, letter := range letters {
		if rest, ok := strings.CutPrefix(text, letter); ok {
			for _, list := range listsMaking(letters, rest) {
				lists = append(lists, append([]int64{int64(i)}, list...))
			}
		}
	}
	return lists
}

func TestLettersLimit(t *testing.T) {
	if impl.MaxLetters != 40 {
		t.Errorf("MaxLetters = %d", impl.MaxLetters)
	}
}

func TestIsAlphabet(t *testing.T) {
	for _, letters := range someAlphabets() {
		if !impl.IsAlphabet(letters) {
			t.Errorf("%q is an alphabet", letters)
		}
	}
	for _, letters := range notAlphabets() {
		if impl.IsAlphabet(letters) {
			t.Errorf("%s: this is no alphabet", startOf(letters))
		}
	}
	for c := range 256 {
		character := string([]byte{byte(c)})
		want := 'a' <= c && c <= 'z'
		for _, letter := range []string{character, character + "a", "a" + character, character + "ab", "a" + character + "b", "ab" + character} {
			if got := impl.IsAlphabet([]string{letter}); got != want {
				t.Errorf("IsAlphabet of the one letter %q is %v", letter, got)
			}
		}
	}
}

// Promise 5: the letters of a spelling make the word.
func TestLettersOfSpellingMakeTheWord(t *testing.T) {
	alphabets := append(alphabetsOver("b", "ab", "a", "bab", "ba", "aab", "aa", "bbb"), someAlphabets()...)
	words := append(textsOver("ab", 5)[1:], "ash", "schach", "abc", "ababc", wordOf("a", impl.MaxWord), wordOf("z", impl.MaxWord))
	written := 0
	for _, letters := range alphabets {
		for _, word := range words {
			spelling, code := impl.SpellWord(letters, word)
			want, ok := spelled(letters, word)
			if can, two := impl.CanWrite(letters, word); two != impl.ErrNone || can != ok {
				t.Fatalf("CanWrite(%q, %q) = %v, %d", letters, word, can, two)
			}
			if !ok {
				if code != impl.ErrNotFound || len(spelling) != 0 {
					t.Fatalf("SpellWord(%q, %q) = %v, %d", letters, word, spelling, code)
				}
				continue
			}
			written++
			text, two := impl.JoinLetters(letters, spelling)
			if code != impl.ErrNone || two != impl.ErrNone || text != word || !slices.Equal(spelling, want) {
				t.Fatalf("with %q the word %q is spelled %v, want %v, which makes %q, codes %d and %d", letters, word, spelling, want, text, code, two)
			}
			if own, three := impl.IsSpelling(letters, spelling); !own || three != impl.ErrNone {
				t.Fatalf("IsSpelling(%q, %v) = %v, %d", letters, spelling, own, three)
			}
		}
	}
	if written == 0 || written == len(alphabets)*len(words) {
		t.Errorf("%d words can be written, which compares too little", written)
	}
}

func TestSpellWord(t *testing.T) {
	shAlphabet := []string{"a", "s", "h", "sh"}
	full := manyLetters(impl.MaxLetters)
	cases := []struct {
		letters []string
		word    string
		want    []int64
	}{
		{shAlphabet, "ash", []int64{0, 3}}, {shAlphabet, "has", []int64{2, 0, 1}}, {shAlphabet, "shsh", []int64{3, 3}}, {shAlphabet, "ssh", []int64{1, 3}},
		{shAlphabet, "ask", nil}, {shAlphabet, "kas", nil}, {shAlphabet, "shk", nil}, {shAlphabet, "k", nil},
		{[]string{"a"}, "a", []int64{0}}, {[]string{"a"}, wordOf("a", impl.MaxWord), make([]int64, impl.MaxWord)}, {[]string{"a"}, "b", nil},
		{[]string{"ab"}, "abab", []int64{0, 0}}, {[]string{"ab"}, "a", nil}, {[]string{"ab"}, "aba", nil},
		{[]string{"abc"}, "abc", []int64{0}}, {[]string{"abc"}, "ab", nil}, {[]string{"abc"}, "a", nil}, {[]string{"abc"}, "abca", nil},
		{[]string{"c", "h", "sch", "s", "ch", "a"}, "schach", []int64{2, 5, 4}},
		{[]string{"ch", "s", "sch"}, "schsch", []int64{2, 2}},
		// The longest letters lead to no end, although shorter ones would.
		{[]string{"a", "ab", "bc"}, "abc", nil}, {[]string{"aa", "aaa"}, "aaaa", nil}, {[]string{"a", "abc", "b", "cd"}, "abcd", nil},
		{[]string{"aa", "aaa"}, "aaaaa", []int64{1, 0}}, {[]string{"aa", "aaa"}, wordOf("a", impl.MaxWord), nil},
		{[]string{"aa", "aaa"}, wordOf("a", impl.MaxWord-1), []int64{1, 1, 1, 1, 1}},
		{full, full[0] + full[impl.MaxLetters-1], []int64{0, impl.MaxLetters - 1}},
	}
	for _, c := range cases {
		code, can := int64(impl.ErrNone), true
		if c.want == nil {
			code, can = impl.ErrNotFound, false
		}
		if got, one := impl.SpellWord(c.letters, c.word); one != code || !slices.Equal(got, c.want) {
			t.Errorf("SpellWord(%q, %q) = %v, %d, want %v", c.letters, c.word, got, one, c.want)
		}
		if got, two := impl.CanWrite(c.letters, c.word); two != impl.ErrNone || got != can {
			t.Errorf("CanWrite(%q, %q) = %v, %d", c.letters, c.word, got, two)
		}
	}
}

// No alphabet and no word are told before a word that cannot be written.
func TestSpellingRefuses(t *testing.T) {
	type call struct {
		letters []string
		word    string
	}
	var calls []call
	for _, letters := range notAlphabets() {
		calls = append(calls, call{letters, "a"}, call{letters, "b"}, call{letters, "xyz"}, call{letters, ""}, call{letters, "A"})
	}
	for _, s := range append(notWords(), "aa aa", "a a") {
		calls = append(calls, call{[]string{"a"}, s}, call{[]string{"x", "xy"}, s}, call{manyLetters(impl.MaxLetters), s})
	}
	for _, c := range calls {
		name := fmt.Sprintf("with %s the text %.40q", startOf(c.letters), c.word)
		if got, code := impl.SpellWord(c.letters, c.word); code != impl.ErrInvalid || len(got) != 0 {
			t.Errorf("%s: SpellWord = %v, %d", name, got, code)
		}
		if got, code := impl.CanWrite(c.letters, c.word); code != impl.ErrInvalid || got {
			t.Errorf("%s: CanWrite = %v, %d", name, got, code)
		}
		if got, code := impl.CountSpellings(c.letters, c.word); code != impl.ErrInvalid || got != 0 {
			t.Errorf("%s: CountSpellings = %d, %d", name, got, code)
		}
	}
}

func TestJoinLetters(t *testing.T) {
	full := manyLetters(impl.MaxLetters)
	cases := []struct {
		letters  []string
		spelling []int64
		want     string
	}{
		{[]string{"a", "s", "h", "sh"}, []int64{0, 3}, "ash"}, {[]string{"a", "s", "h", "sh"}, []int64{0, 1, 2}, "ash"},
		{[]string{"a"}, nil, ""}, {full, []int64{}, ""}, {[]string{"a"}, []int64{0}, "a"},
		{full, []int64{impl.MaxLetters - 1, 0}, full[impl.MaxLetters-1] + full[0]},
		{[]string{"a"}, repeated(0, impl.MaxWord-1), wordOf("a", impl.MaxWord-1)}, {[]string{"a"}, repeated(0, impl.MaxWord), wordOf("a", impl.MaxWord)},
		// The text of as many letters as allowed may be no word.
		{[]string{"a", "bc"}, append(repeated(0, impl.MaxWord-1), 1), wordOf("a", impl.MaxWord-1) + "bc"},
		{[]string{"abc"}, repeated(0, impl.MaxWord), strings.Repeat("abc", impl.MaxWord)},
	}
	for _, c := range cases {
		if got, code := impl.JoinLetters(c.letters, c.spelling); code != impl.ErrNone || got != c.want {
			t.Errorf("JoinLetters(%q, %v) = %q, %d, want %q", c.letters, c.spelling, got, code, c.want)
		}
	}
}

func TestIsSpelling(t *testing.T) {
	cases := []struct {
		letters  []string
		spelling []int64
		want     bool
	}{
		{[]string{"a", "s", "h", "sh"}, []int64{0, 3}, true}, {[]string{"a", "s", "h", "sh"}, []int64{0, 1, 2}, false},
		{[]string{"a", "s", "h", "sh"}, []int64{1, 2}, false}, {[]string{"a", "s", "h", "sh"}, []int64{2, 1}, true},
		{[]string{"a", "ab", "bc"}, []int64{0, 2}, false}, {[]string{"a", "ab", "bc"}, []int64{1}, true}, {[]string{"a", "ab", "bc"}, []int64{2, 0}, true},
		{[]string{"aaa", "aa", "a"}, []int64{0, 2}, true}, {[]string{"aaa", "aa", "a"}, []int64{2, 0}, false}, {[]string{"aaa", "aa", "a"}, []int64{1, 1}, false},
		// No index makes no word, and neither do letters that are too many characters together.
		{[]string{"a"}, nil, false}, {[]string{"a"}, []int64{}, false},
		{[]string{"a"}, repeated(0, impl.MaxWord), true}, {[]string{"ab"}, repeated(0, impl.MaxWord/2), true}, {[]string{"ab"}, repeated(0, impl.MaxWord/2+1), false},
		{[]string{"abc"}, repeated(0, 5), true}, {[]string{"abc"}, repeated(0, 6), false}, {[]string{"abc"}, repeated(0, impl.MaxWord), false},
		{[]string{"b", "ac"}, append(repeated(0, impl.MaxWord-2), 1), true}, {[]string{"b", "ac"}, append(repeated(0, impl.MaxWord-1), 1), false},
	}
	for _, c := range cases {
		if got, code := impl.IsSpelling(c.letters, c.spelling); code != impl.ErrNone || got != c.want {
			t.Errorf("IsSpelling(%q, %v) = %v, %d", c.letters, c.spelling, got, code)
		}
	}
}

// Of all lists of indices that make a word exactly the one with which it is spelled is a spelling.
func TestSpellingsOfAWord(t *testing.T) {
	for _, letters := range alphabetsOver("a", "b", "ab", "ba", "aa", "aab", "bab") {
		for _, word := range textsOver("ab", 5)[1:] {
			lists := listsMaking(letters, word)
			if count, code := impl.CountSpellings(letters, word); code != impl.ErrNone || count != int64(len(lists)) {
				t.Fatalf("CountSpellings(%q, %q) = %d, %d, want %d", letters, word, count, code, len(lists))
			}
			own, _ := spelled(letters, word)
			for _, list := range lists {
				if text, code := impl.JoinLetters(letters, list); code != impl.ErrNone || text != word {
					t.Fatalf("JoinLetters(%q, %v) = %q, %d", letters, list, text, code)
				}
				if got, code := impl.IsSpelling(letters, list); code != impl.ErrNone || got != slices.Equal(list, own) {
					t.Fatalf("IsSpelling(%q, %v) = %v, %d", letters, list, got, code)
				}
			}
		}
	}
}

func TestCountSpellings(t *testing.T) {
	cases := []struct {
		letters []string
		word    string
		want    int64
	}{
		{[]string{"a", "s", "h", "sh"}, "ash", 2}, {[]string{"a", "s", "h", "sh"}, "ask", 0}, {[]string{"a", "s", "h", "sh"}, "has", 1},
		{[]string{"a", "s", "h", "sh"}, "shsh", 4}, {[]string{"a"}, "a", 1}, {[]string{"a"}, "b", 0}, {[]string{"a"}, "ab", 0}, {[]string{"a"}, "ba", 0},
		// One spelling that is not found from the longest letters on.
		{[]string{"a", "ab", "bc"}, "abc", 1}, {[]string{"aa", "aaa"}, "aaaa", 1},
		{[]string{"aa", "aaa"}, "aaaaa", 2}, {[]string{"a"}, wordOf("a", impl.MaxWord), 1},
		{[]string{"aa", "a"}, wordOf("a", impl.MaxWord), 1597}, {[]string{"aa", "aaa"}, wordOf("a", impl.MaxWord), 37},
		{[]string{"a", "aa", "aaa"}, wordOf("a", impl.MaxWord), 10609}, {[]string{"a", "aa", "aaa"}, wordOf("a", impl.MaxWord-1) + "b", 0},
		{[]string{"a", "aa", "aaa"}, "b" + wordOf("a", impl.MaxWord-1), 0},
	}
	for _, c := range cases {
		if got, code := impl.CountSpellings(c.letters, c.word); code != impl.ErrNone || got != c.want {
			t.Errorf("CountSpellings(%q, %q) = %d, %d, want %d", c.letters, c.word, got, code, c.want)
		}
	}
}

// No alphabet is told before an index without a letter.
func TestIndicesAreRefused(t *testing.T) {
	type call struct {
		letters  []string
		spelling []int64
		code     int64
	}
	full := manyLetters(impl.MaxLetters)
	calls := []call{
		{[]string{"a"}, []int64{1}, impl.ErrRange}, {[]string{"a"}, []int64{-1}, impl.ErrRange}, {[]string{"a", "b"}, []int64{0, 1, 2}, impl.ErrRange},
		{[]string{"a", "b"}, []int64{0, -1, 1}, impl.ErrRange}, {[]string{"a"}, []int64{math.MinInt64}, impl.ErrRange}, {[]string{"a"}, []int64{math.MaxInt64}, impl.ErrRange},
		{[]string{"a"}, []int64{1 << 32}, impl.ErrRange}, {[]string{"a"}, []int64{-1 << 32}, impl.ErrRange}, {full, []int64{impl.MaxLetters}, impl.ErrRange},
		{full, []int64{impl.MaxLetters - 1, impl.MaxLetters}, impl.ErrRange}, {[]string{"a"}, append(repeated(0, impl.MaxWord-1), 1), impl.ErrRange},
		{[]string{"abc"}, append(repeated(0, impl.MaxWord-1), -1), impl.ErrRange},
		{[]string{"a"}, repeated(0, impl.MaxWord+1), impl.ErrRange}, {[]string{"a"}, repeated(0, 5000), impl.ErrRange}, {[]string{"a"}, repeated(-1, 5000), impl.ErrRange},
		{[]string{"abc"}, repeated(0, impl.MaxWord+1), impl.ErrRange}, {full, repeated(impl.MaxLetters, impl.MaxWord+1), impl.ErrRange},
	}
	for _, letters := range notAlphabets() {
		for _, spelling := range [][]int64{nil, {0}, {-1}, {0, 5000}, {math.MaxInt64}, repeated(0, impl.MaxWord), repeated(0, impl.MaxWord+1), repeated(-1, impl.MaxWord+1)} {
			calls = append(calls, call{letters, spelling, impl.ErrInvalid})
		}
	}
	for _, c := range calls {
		name := fmt.Sprintf("%s and %d indices %v", startOf(c.letters), len(c.spelling), c.spelling[:min(len(c.spelling), 3)])
		if got, code := impl.JoinLetters(c.letters, c.spelling); code != c.code || got != "" {
			t.Errorf("JoinLetters of %s = %q, %d, want %d", name, got, code, c.code)
		}
		if got, code := impl.IsSpelling(c.letters, c.spelling); code != c.code || got {
			t.Errorf("IsSpelling of %s = %v, %d, want %d", name, got, code, c.code)
		}
	}
}

// Promise 1, for alphabets: an alphabet is recovered from its text.
func TestAlphabetsAreRecovered(t *testing.T) {
	for _, letters := range append(someAlphabets(), alphabetsOver("a", "b", "ab", "ba", "aab", "sch")...) {
		text, code := impl.AlphabetText(letters)
		if want := strings.Join(letters, " "); code != impl.ErrNone || text != want {
			t.Errorf("AlphabetText(%q) = %q, %d, want %q", letters, text, code, want)
		}
		if back, code := impl.ReadAlphabet(text); code != impl.ErrNone || !slices.Equal(back, letters) {
			t.Errorf("ReadAlphabet(%q) = %q, %d, want %q", text, back, code, letters)
		}
	}
	for _, letters := range notAlphabets() {
		if text, code := impl.AlphabetText(letters); code != impl.ErrInvalid || text != "" {
			t.Errorf("AlphabetText of %s = %.40q, %d", startOf(letters), text, code)
		}
	}
}

// alphabetForm is what a text of letters looks like; that they differ is for the tests to see.
var alphabetForm = regexp.MustCompile(`\A[a-z]{1,3}( [a-z]{1,3}){0,39}\z`)

func TestOnlyAlphabetTextsAreRead(t *testing.T) {
	for _, text := range append(textsOver("ab ", 8), textsOver("aA1- \n", 5)...) {
		parts := strings.Split(text, " ")
		unique := slices.Compact(slices.Sorted(slices.Values(parts)))
		want, wanted := parts, int64(impl.ErrNone)
		if !alphabetForm.MatchString(text) || len(unique) < len(parts) {
			want, wanted = nil, impl.ErrSyntax
		}
		got, code := impl.ReadAlphabet(text)
		if code != wanted || !slices.Equal(got, want) {
			t.Fatalf("ReadAlphabet(%q) = %q, %d, want %q, %d", text, got, code, want, wanted)
		}
	}
}

func TestReadAlphabetRefuses(t *testing.T) {
	full := strings.Join(manyLetters(impl.MaxLetters), " ")
	texts := []string{
		"", " ", "  ", "a  b", "a   b", " a", "a ", " a b", "a b ", "a b  ", "  a b", "a\tb", "a\nb", "a b\n", "\na b", "a,b", "a, b", "a\u00a0b",
		"a a", "a b a", "sh a sh", "abcd", "a abcd", "abcd a", "a B", "A b", "a 1", "a -", "-", "a b\x00", "\xff", "a \xff", "a é", "é",
		full + " ", " " + full, full + " a", full + " zz", full + " " + full, strings.Join(manyLetters(impl.MaxLetters+1), " "),
		phraseOf("a", 5000), strings.Repeat(" ", impl.MaxLetters), strings.Repeat(" ", 5000), strings.Repeat("a", 5000),
	}
	for _, text := range texts {
		if got, code := impl.ReadAlphabet(text); code != impl.ErrSyntax || got != nil {
			t.Errorf("ReadAlphabet(%.40q) = %.40q, %d", text, got, code)
		}
	}
}

func TestLettersKeepArguments(t *testing.T) {
	letters, memory := withSpare([]string{"a", "s", "h", "sh"}, "spare")
	spelling, numbers := withSpare([]int64{0, 3}, 9)
	impl.IsAlphabet(letters)
	impl.SpellWord(letters, "ash")
	impl.CanWrite(letters, "ash")
	impl.JoinLetters(letters, spelling)
	impl.IsSpelling(letters, spelling)
	impl.CountSpellings(letters, "ash")
	impl.AlphabetText(letters)
	if !slices.Equal(memory, []string{"a", "s", "h", "sh", "spare", "spare"}) || !slices.Equal(numbers, []int64{0, 3, 9, 9}) {
		t.Errorf("arguments were changed: %q, %v", memory, numbers)
	}
}

func TestLettersResultsAreNew(t *testing.T) {
	one, _ := impl.SpellWord([]string{"a", "s", "h", "sh"}, "ash")
	one[0] = 7
	if two, _ := impl.SpellWord([]string{"a", "s", "h", "sh"}, "ash"); !slices.Equal(two, []int64{0, 3}) {
		t.Errorf("SpellWord = %v after a result was changed", two)
	}
	first, _ := impl.ReadAlphabet("a s h sh")
	first[0] = "z"
	if second, _ := impl.ReadAlphabet("a s h sh"); !slices.Equal(second, []string{"a", "s", "h", "sh"}) {
		t.Errorf("ReadAlphabet = %q after a result was changed", second)
	}
}

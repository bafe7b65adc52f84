package tests

import (
	"fmt"
	"math"
	"slices"
	"strings"
	"testing"

	"loop.example/g01030/impl"
)

// notWords are texts that break the description of a word, each in one way.
func notWords() []string {
	return []string{
		"", " ", "A", "Ash", "asH", "a1", "0", "a-b", "a_b", "old ash", " ash", "ash ", "ash\n", "ash\t", "a\x00",
		"`", "{", "a`", "a{", "é", "aé", "ß", "а", "\xff", "a\xff", wordOf("a", impl.MaxWord+1), wordOf("z", 5000),
	}
}

// notPhrases are texts that break the description of a phrase, each in one way.
func notPhrases() []string {
	return []string{
		"", " ", "  ", " ash", "ash ", "old  ash", " old ash", "old ash ", "old\tash", "old\nash", "old\u00a0ash", "Old ash",
		"old Ash", "old,ash", "old ash1", wordOf("a", impl.MaxWord+1), "old " + wordOf("a", impl.MaxWord+1),
		wordOf("a", impl.MaxWord+1) + " old", phraseOf("a", impl.MaxPhrase+1), phraseOf("a", impl.MaxPhrase) + " ",
		phraseOf("a", 5000), strings.Repeat(" ", 5000), "old \xff", "old é",
	}
}

func someWords() []string {
	words := textsOver("ab", 4)[1:]
	return append(words, "z", "ash", "ashby", "ashton", "kitten", "sitting", "abcdefghijklmnop", "ponmlkjihgfedcba",
		wordOf("a", impl.MaxWord), wordOf("b", impl.MaxWord), wordOf("z", impl.MaxWord-1), "abababababababab", "babababababababa")
}

func somePhrases() [][]string {
	return [][]string{
		{"a"}, {"z"}, {"ash"}, {"old", "ash"}, {"ash", "ash"}, {"the", "old", "river", "ford"}, {wordOf("q", impl.MaxWord)},
		slices.Repeat([]string{"a"}, impl.MaxPhrase-1), slices.Repeat([]string{"a"}, impl.MaxPhrase),
		slices.Repeat([]string{wordOf("z", impl.MaxWord)}, impl.MaxPhrase),
	}
}

func TestErrorCodes(t *testing.T) {
	codes := []int64{impl.ErrNone, impl.ErrInvalid, impl.ErrRange, impl.ErrLimit, impl.ErrNotFound, impl.ErrState, impl.ErrSyntax}
	if !slices.Equal(codes, []int64{0, 1, 2, 3, 4, 5, 6}) {
		t.Errorf("the error codes are %v", codes)
	}
	if impl.MaxValue != 1000000000000 || impl.MaxWord != 16 || impl.MaxPhrase != 8 {
		t.Error("the limits of chapter 1 differ from the document")
	}
}

func TestIsWord(t *testing.T) {
	for _, s := range someWords() {
		if !impl.IsWord(s) {
			t.Errorf("%q is a word", s)
		}
	}
	for _, s := range notWords() {
		if impl.IsWord(s) {
			t.Errorf("%q is no word", s)
		}
	}
	for c := range 256 {
		if got, want := impl.IsWord(string([]byte{byte(c)})), 'a' <= c && c <= 'z'; got != want {
			t.Errorf("IsWord of the byte %d is %v", c, got)
		}
	}
}

func TestIsPhrase(t *testing.T) {
	for _, words := range somePhrases() {
		if s := strings.Join(words, " "); !impl.IsPhrase(s) {
			t.Errorf("%q is a phrase", s)
		}
	}
	for _, s := range notPhrases() {
		if impl.IsPhrase(s) {
			t.Errorf("%q is no phrase", s)
		}
	}
}

// Promise 2: phrases are recovered from their words.
func TestPhrasesAreRecovered(t *testing.T) {
	for _, words := range somePhrases() {
		s, code := impl.JoinPhrase(words)
		wantCode(t, "JoinPhrase", code, impl.ErrNone)
		if s != strings.Join(words, " ") {
			t.Errorf("JoinPhrase(%q) = %q", words, s)
		}
		back, code := impl.WordsOf(s)
		wantCode(t, "WordsOf", code, impl.ErrNone)
		if !slices.Equal(back, words) {
			t.Errorf("WordsOf(%q) = %q, want %q", s, back, words)
		}
	}
	// All short texts: those that are phrases are recovered, and all others are refused.
	for _, s := range textsOver("ab ", 6) {
		words, code := impl.WordsOf(s)
		if !impl.IsPhrase(s) {
			if code != impl.ErrInvalid || len(words) != 0 {
				t.Errorf("WordsOf(%q) = %q, %d", s, words, code)
			}
			continue
		}
		back, two := impl.JoinPhrase(words)
		if code != impl.ErrNone || two != impl.ErrNone || back != s || len(words) != strings.Count(s, " ")+1 {
			t.Errorf("%q comes back as %q from %q, codes %d and %d", s, back, words, code, two)
		}
	}
}

func TestWordsOfRefuses(t *testing.T) {
	for _, s := range notPhrases() {
		words, code := impl.WordsOf(s)
		if code != impl.ErrInvalid || len(words) != 0 {
			t.Errorf("WordsOf(%q) = %q, %d", s, words, code)
		}
	}
}

func TestJoinPhraseRefuses(t *testing.T) {
	lists := [][]string{nil, {}, {"", ""}, {"old ash"}, {"old ash", "ford"}, {"old ", "ash"}, {"old", " ash"},
		slices.Repeat([]string{"a"}, impl.MaxPhrase+1), slices.Repeat([]string{"a"}, 5000)}
	for _, s := range notWords() {
		lists = append(lists, []string{s}, []string{"old", s}, []string{s, "ash"}, []string{"old", s, "ash"})
	}
	for _, list := range lists {
		s, code := impl.JoinPhrase(list)
		if code != impl.ErrInvalid || s != "" {
			t.Errorf("JoinPhrase(%q) = %q, %d", list, s, code)
		}
	}
}

func TestCommonStart(t *testing.T) {
	cases := [][3]string{
		{"ashby", "ashton", "ash"}, {"ash", "ash", "ash"}, {"ash", "ashby", "ash"}, {"ashby", "ash", "ash"}, {"ash", "oak", ""},
		{"a", "a", "a"}, {"a", "b", ""}, {"bash", "cash", ""}, {"abc", "axc", "a"},
		{wordOf("a", impl.MaxWord), wordOf("a", impl.MaxWord), wordOf("a", impl.MaxWord)},
		{wordOf("a", impl.MaxWord), wordOf("a", impl.MaxWord-1) + "b", wordOf("a", impl.MaxWord-1)},
	}
	for _, c := range cases {
		s, code := impl.CommonStart(c[0], c[1])
		if code != impl.ErrNone || s != c[2] {
			t.Errorf("CommonStart(%q, %q) = %q, %d, want %q", c[0], c[1], s, code, c[2])
		}
	}
	for _, s := range notWords() {
		for _, pair := range [][2]string{{s, "ash"}, {"ash", s}, {s, s}} {
			if start, code := impl.CommonStart(pair[0], pair[1]); code != impl.ErrInvalid || start != "" {
				t.Errorf("CommonStart(%q, %q) = %q, %d", pair[0], pair[1], start, code)
			}
		}
	}
}

// Promise 3: the distance of words is symmetric.
func TestDistanceIsSymmetric(t *testing.T) {
	words := someWords()
	for _, a := range words {
		for _, b := range words {
			there, code := impl.EditDistance(a, b)
			back, two := impl.EditDistance(b, a)
			if code != impl.ErrNone || two != impl.ErrNone || there != back {
				t.Errorf("EditDistance of %q and %q is %d there and %d back, codes %d and %d", a, b, there, back, code, two)
			}
			if (there == 0) != (a == b) {
				t.Errorf("EditDistance(%q, %q) = %d", a, b, there)
			}
		}
	}
}

func TestEditDistance(t *testing.T) {
	cases := []struct {
		a, b string
		want int64
	}{
		{"kitten", "sitting", 3}, {"ash", "ash", 0}, {"a", "b", 1}, {"a", "ab", 1}, {"ab", "b", 1}, {"ab", "ba", 2},
		{"flaw", "lawn", 2}, {"saturday", "sunday", 3}, {"intention", "execution", 5}, {"a", wordOf("a", impl.MaxWord), impl.MaxWord - 1},
		{"b", wordOf("a", impl.MaxWord), impl.MaxWord}, {wordOf("a", impl.MaxWord), wordOf("b", impl.MaxWord), impl.MaxWord},
		{wordOf("a", impl.MaxWord), wordOf("a", impl.MaxWord), 0}, {"abababababababab", "babababababababa", 2},
		{"abcdefghijklmnop", "bcdefghijklmnopa", 2},
	}
	for _, c := range cases {
		got, code := impl.EditDistance(c.a, c.b)
		if code != impl.ErrNone || got != c.want {
			t.Errorf("EditDistance(%q, %q) = %d, %d, want %d", c.a, c.b, got, code, c.want)
		}
	}
	for _, s := range notWords() {
		for _, pair := range [][2]string{{s, "ash"}, {"ash", s}, {s, s}} {
			if n, code := impl.EditDistance(pair[0], pair[1]); code != impl.ErrInvalid || n != 0 {
				t.Errorf("EditDistance(%q, %q) = %d, %d", pair[0], pair[1], n, code)
			}
		}
	}
}

// stepsFrom counts the steps from a text to all texts over a and b of at most longest letters, one step after the other.
func stepsFrom(start string, longest int) map[string]int64 {
	steps := map[string]int64{start: 0}
	for queue := []string{start}; len(queue) > 0; queue = queue[1:] {
		s := queue[0]
		var next []string
		for i := range len(s) + 1 {
			next = append(next, s[:i]+"a"+s[i:], s[:i]+"b"+s[i:])
			if i < len(s) {
				next = append(next, s[:i]+s[i+1:], s[:i]+"a"+s[i+1:], s[:i]+"b"+s[i+1:])
			}
		}
		for _, n := range next {
			if _, known := steps[n]; !known && len(n) <= longest {
				steps[n] = steps[s] + 1
				queue = append(queue, n)
			}
		}
	}
	return steps
}

func TestEditDistanceCountsSteps(t *testing.T) {
	words := textsOver("ab", 5)[1:]
	for _, a := range words {
		steps := stepsFrom(a, 6)
		for _, b := range words {
			if got, _ := impl.EditDistance(a, b); got != steps[b] {
				t.Errorf("EditDistance(%q, %q) = %d, want %d", a, b, got, steps[b])
			}
		}
	}
}

// remnants are all texts that remain of a text when letters are left out.
func remnants(s string) map[string]bool {
	all := map[string]bool{}
	for kept := range 1 << len(s) {
		var rest []byte
		for i := range len(s) {
			if kept>>i&1 == 1 {
				rest = append(rest, s[i])
			}
		}
		all[string(rest)] = true
	}
	return all
}

func TestLettersInCommon(t *testing.T) {
	words := textsOver("abc", 4)[1:]
	for _, a := range words {
		ofA := remnants(a)
		for _, b := range words {
			want := 0
			for s := range remnants(b) {
				if ofA[s] {
					want = max(want, len(s))
				}
			}
			got, code := impl.LettersInCommon(a, b)
			if code != impl.ErrNone || got != int64(want) {
				t.Errorf("LettersInCommon(%q, %q) = %d, %d, want %d", a, b, got, code, want)
			}
		}
	}
	cases := []struct {
		a, b string
		want int64
	}{
		{"abcde", "ace", 3}, {"ace", "abcde", 3}, {"abc", "xyz", 0}, {"kitten", "sitting", 4}, {"a", "a", 1},
		{wordOf("a", impl.MaxWord), wordOf("a", impl.MaxWord), impl.MaxWord}, {wordOf("a", impl.MaxWord), wordOf("b", impl.MaxWord), 0},
		{"abcdefghijklmnop", "ponmlkjihgfedcba", 1}, {"abababababababab", "babababababababa", impl.MaxWord - 1},
	}
	for _, c := range cases {
		got, code := impl.LettersInCommon(c.a, c.b)
		if code != impl.ErrNone || got != c.want {
			t.Errorf("LettersInCommon(%q, %q) = %d, %d, want %d", c.a, c.b, got, code, c.want)
		}
	}
	for _, s := range notWords() {
		for _, pair := range [][2]string{{s, "ash"}, {"ash", s}, {s, s}} {
			if n, code := impl.LettersInCommon(pair[0], pair[1]); code != impl.ErrInvalid || n != 0 {
				t.Errorf("LettersInCommon(%q, %q) = %d, %d", pair[0], pair[1], n, code)
			}
		}
	}
}

func TestReplaceWord(t *testing.T) {
	long := wordOf("z", impl.MaxWord)
	cases := []struct {
		s, old, word, want string
		code               int64
	}{
		{"old ash", "old", "new", "new ash", impl.ErrNone},
		{"old ash", "ash", "oak", "old oak", impl.ErrNone},
		{"ash", "ash", "oak", "oak", impl.ErrNone},
		{"ash old ash", "ash", "oak", "oak old oak", impl.ErrNone},
		{"ash ash", "ash", "ash", "ash ash", impl.ErrNone},
		{"ash ashby", "ash", "oak", "oak ashby", impl.ErrNone},
		{"a b", "a", "b", "b b", impl.ErrNone},
		{phraseOf("a", impl.MaxPhrase), "a", long, phraseOf(long, impl.MaxPhrase), impl.ErrNone},
		{phraseOf(long, impl.MaxPhrase), long, "a", phraseOf("a", impl.MaxPhrase), impl.ErrNone},
		{"old ash", "oak", "elm", "", impl.ErrNotFound},
		{"ashby", "ash", "oak", "", impl.ErrNotFound},
		{"bash", "ash", "oak", "", impl.ErrNotFound},
		{"old ash", "old ash", "oak", "", impl.ErrInvalid},
		{"old ash", "old", "new oak", "", impl.ErrInvalid},
		{"old  ash", "oak", "elm", "", impl.ErrInvalid},
	}
	for _, c := range cases {
		got, code := impl.ReplaceWord(c.s, c.old, c.word)
		if code != c.code || got != c.want {
			t.Errorf("ReplaceWord(%q, %q, %q) = %q, %d", c.s, c.old, c.word, got, code)
		}
	}
	// A text that is not as described is told before a word that is not found.
	var calls [][3]string
	for _, s := range notPhrases() {
		calls = append(calls, [3]string{s, "ash", "oak"}, [3]string{s, "elm", "oak"})
	}
	for _, s := range notWords() {
		calls = append(calls, [3]string{"old ash", s, "oak"}, [3]string{"old ash", "ash", s}, [3]string{"old ash", "elm", s})
	}
	for _, c := range calls {
		if got, code := impl.ReplaceWord(c[0], c[1], c[2]); code != impl.ErrInvalid || got != "" {
			t.Errorf("ReplaceWord(%q, %q, %q) = %q, %d", c[0], c[1], c[2], got, code)
		}
	}
}

func listTexts() map[string][]int64 {
	least, greatest := int64(-impl.MaxValue), int64(impl.MaxValue)
	return map[string][]int64{
		"-": nil, "0": {0}, "1": {1}, "-1": {-1}, "1,-2": {1, -2}, "0,0,0": {0, 0, 0}, "10,100,-1000": {10, 100, -1000},
		"1000000000000":                                          {greatest},
		"-1000000000000":                                         {least},
		"-1000000000000,1000000000000":                           {least, greatest},
		"999999999999,-999999999999":                             {greatest - 1, least + 1},
		"7" + strings.Repeat(",7", 58):                           repeated(7, 59),
		"7" + strings.Repeat(",7", 59):                           repeated(7, 60),
		"-1000000000000" + strings.Repeat(",-1000000000000", 59): repeated(least, 60),
	}
}

// Promise 1, for lists: a list is recovered from its text.
func TestListsAreRecovered(t *testing.T) {
	for text, list := range listTexts() {
		s, code := impl.ListText(list)
		if code != impl.ErrNone || s != text {
			t.Errorf("ListText(%v) = %q, %d, want %q", list, s, code, text)
		}
		back, code := impl.ReadList(text)
		if code != impl.ErrNone || !slices.Equal(back, list) {
			t.Errorf("ReadList(%q) = %v, %d, want %v", text, back, code, list)
		}
	}
	if s, code := impl.ListText([]int64{}); s != "-" || code != impl.ErrNone {
		t.Errorf("ListText of the empty list = %q, %d", s, code)
	}
}

// Each text is the text of at most one list, so whatever is read has to be written as it was.
func TestOnlyListTextsAreRead(t *testing.T) {
	for _, text := range textsOver("-,01+ ", 5) {
		list, code := impl.ReadList(text)
		switch s, two := impl.ListText(list); {
		case code == impl.ErrNone && (s != text || two != impl.ErrNone):
			t.Errorf("ReadList(%q) = %v, which is written %q, %d", text, list, s, two)
		case code != impl.ErrNone && (code != impl.ErrSyntax || list != nil):
			t.Errorf("ReadList(%q) = %v, %d", text, list, code)
		}
	}
	for n := int64(-120); n <= 120; n++ {
		text := fmt.Sprintf("%d,%d", n, n*n)
		if list, code := impl.ReadList(text); code != impl.ErrNone || !slices.Equal(list, []int64{n, n * n}) {
			t.Errorf("ReadList(%q) = %v, %d", text, list, code)
		}
	}
}

func TestReadListRefuses(t *testing.T) {
	texts := []string{
		"", " ", ",", "--", "-,", ",-", "-,-", "1,", ",1", "1,,2", "1, 2", " 1", "1 ", "1\n", "\n", "+1", "-0", "00", "01", "-01",
		"1,-0", "1,01", "1;2", "1.0", "1e3", "0x1", "1_000", "a", "1,a", "1,-", "-,1", "١", "1,\xff",
		"1000000000001", "-1000000000001", "1,1000000000001", "9223372036854775807", "-9223372036854775808", "9223372036854775808",
		"18446744073709551617", strings.Repeat("9", 5000), "7" + strings.Repeat(",7", 60), "7" + strings.Repeat(",7", 5000),
		"7" + strings.Repeat(",7", 59) + ",", strings.Repeat(",", 60), strings.Repeat("-", 60),
	}
	for _, text := range texts {
		if list, code := impl.ReadList(text); code != impl.ErrSyntax || list != nil {
			t.Errorf("ReadList(%q) = %v, %d", text, list, code)
		}
	}
}

func TestListTextRefuses(t *testing.T) {
	over := int64(impl.MaxValue + 1)
	cases := []struct {
		list []int64
		code int64
	}{
		{[]int64{over}, impl.ErrRange}, {[]int64{-over}, impl.ErrRange}, {[]int64{0, over}, impl.ErrRange},
		{[]int64{math.MinInt64}, impl.ErrRange}, {[]int64{math.MaxInt64}, impl.ErrRange},
		{repeated(0, 61), impl.ErrLimit}, {repeated(impl.MaxValue, 5000), impl.ErrLimit},
		// The range is checked over the whole list before its length is.
		{repeated(over, 61), impl.ErrRange}, {append(repeated(0, 60), -over), impl.ErrRange}, {append(repeated(0, 5000), over), impl.ErrRange},
	}
	for _, c := range cases {
		if s, code := impl.ListText(c.list); code != c.code || s != "" {
			t.Errorf("ListText of %d numbers from %d = %q, %d, want %d", len(c.list), c.list[0], s, code, c.code)
		}
	}
}

func TestWordsKeepsArguments(t *testing.T) {
	words, memory := withSpare([]string{"old", "ash"}, "spare")
	impl.JoinPhrase(words)
	if !slices.Equal(memory, []string{"old", "ash", "spare", "spare"}) {
		t.Errorf("JoinPhrase changed its argument: %q", memory)
	}
	list, numbers := withSpare([]int64{3, 1, 2}, 9)
	impl.ListText(list)
	if !slices.Equal(numbers, []int64{3, 1, 2, 9, 9}) {
		t.Errorf("ListText changed its argument: %v", numbers)
	}
}

func TestWordsResultsAreNew(t *testing.T) {
	one, _ := impl.WordsOf("old ash")
	one[0] = "new"
	if two, _ := impl.WordsOf("old ash"); !slices.Equal(two, []string{"old", "ash"}) {
		t.Errorf("WordsOf(%q) = %q after a result was changed", "old ash", two)
	}
	first, _ := impl.ReadList("1,-2")
	first[0] = 7
	if second, _ := impl.ReadList("1,-2"); !slices.Equal(second, []int64{1, -2}) {
		t.Errorf("ReadList(%q) = %v after a result was changed", "1,-2", second)
	}
}

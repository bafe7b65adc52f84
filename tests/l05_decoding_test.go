package tests

import (
	"math"
	"runtime"
	"slices"
	"strings"
	"testing"
	"time"

	"loop.example/g01030/impl"
)

// tableWith returns rules with some Romans and different signs: the index alone, or the index and lastSign.
func tableWith(romans ...string) []impl.Rule {
	table := make([]impl.Rule, len(romans))
	for i, roman := range romans {
		table[i] = rule(roman, []int64{int64(i) % lastSign, lastSign}[:1+i/int(lastSign)]...)
	}
	return table
}

// overlappingTables has rules whose Romans begin, end and contain each other, one of them empty and two the same.
func overlappingTables() [][]impl.Rule {
	return choicesOf(rule("a", 0), rule("", 1), rule("ab", 0, 1), rule("b", 1, 0), rule("ba", 0, 0), rule("a", 1, 1), rule("bab", 0, 0, 1))
}

// delayedTables has rules of which many choices are unambiguous, though some only the end of a text tells apart.
func delayedTables() [][]impl.Rule {
	return choicesOf(rule("a", 0), rule("ab", 1), rule("bb", 0, 1), rule("ba", 1, 0), rule("bbb", 0, 0), rule("aab", 1, 1), rule("abab", 0, 1, 0))
}

// parsingsOf returns all parsings of a text, in lexicographic order.
func parsingsOf(table []impl.Rule, text string) [][]int64 {
	if text == "" {
		return [][]int64{nil}
	}
	var all [][]int64
	for i, r := range table {
		if rest, ok := strings.CutPrefix(text, r.Roman); ok && r.Roman != "" {
			for _, parsing := range parsingsOf(table, rest) {
				all = append(all, append([]int64{int64(i)}, parsing...))
			}
		}
	}
	return all
}

func hasEmptyRoman(table []impl.Rule) bool {
	return slices.ContainsFunc(table, func(r impl.Rule) bool { return r.Roman == "" })
}

// hasTwoParsings counts from the beginning of a text on; no Roman is empty.
func hasTwoParsings(table []impl.Rule, text string) bool {
	counts := make([]int, len(text)+1)
	counts[0] = 1
	for end := range counts {
		for _, r := range table {
			if length := len(r.Roman); length <= end && text[end-length:end] == r.Roman {
				counts[end] += counts[end-length]
			}
		}
	}
	return counts[len(text)] > 1
}

// firstAmbiguous returns the first of some texts that has two parsings, or an empty one.
func firstAmbiguous(table []impl.Rule, texts []string) string {
	for _, text := range texts {
		if hasTwoParsings(table, text) {
			return text
		}
	}
	return ""
}

// subsetsOf returns all choices of 1 to most texts.
func subsetsOf(texts []string, most int) [][]string {
	var all [][]string
	for i, text := range texts {
		all = append(all, []string{text})
		if most > 1 {
			for _, others := range subsetsOf(texts[i+1:], most-1) {
				all = append(all, append([]string{text}, others...))
			}
		}
	}
	return all
}

// linkedPairs returns Romans with two parsings of the text of some pairs, at least 3 of them: one begins with the first pair and the other one with two pairs, and so on. No shorter text has two.
func linkedPairs(pairs int) ([]string, string) {
	text := "abcdefghijklmnopqrstuvwxyzbadcfehgjilknmporqtsvuxwzy"[:2*pairs]
	romans := []string{text[:2]}
	for start := 0; start+4 <= len(text); start += 2 {
		romans = append(romans, text[start:start+4])
	}
	return append(romans, text[len(text)-2:]), text
}

// notRomanTexts have other characters than a to z, or too many.
func notRomanTexts() []string {
	texts := []string{
		" ", "A", "aB", "a b", " a", "a ", "0", "a1", "-", "a-b", "=", "\n", "a\n", "\x00", "a\x00", "`", "{", "é", "ß", "а", "\xff", "a\xff",
		wordOf("a", impl.MaxRoman+1), wordOf("z", impl.MaxRoman+1), wordOf("a", impl.MaxRoman-1) + "A", "A" + wordOf("a", impl.MaxRoman-1), wordOf("a", 5000), wordOf(" ", 5000),
	}
	for c := range 256 {
		if c < 'a' || c > 'z' {
			texts = append(texts, string([]byte{byte(c)}), string([]byte{'a', byte(c)}), string([]byte{byte(c), 'b'}))
		}
	}
	return texts
}

// notParsings have an index without a rule, or too many indices, for a table of some rules.
func notParsings(rules int64) [][]int64 {
	lists := [][]int64{repeated(0, impl.MaxRoman+1), repeated(0, 5000), repeated(rules, impl.MaxRoman+1)}
	for _, index := range []int64{rules, rules + 1, -1, -2, impl.MaxRules, math.MinInt64, math.MaxInt64, 1 << 32, -1 << 32} {
		lists = append(lists, []int64{index}, []int64{index, 0}, []int64{0, index}, append(repeated(0, impl.MaxRoman-1), index))
	}
	return lists
}

func TestDecodingLimit(t *testing.T) {
	if impl.MaxRoman != 48 {
		t.Errorf("MaxRoman = %d", impl.MaxRoman)
	}
}

func TestParsingsOfAllTexts(t *testing.T) {
	found := [3]int{}
	texts := textsOver("ab", 6)
	for _, table := range append(overlappingTables(), delayedTables()...) {
		for _, text := range texts {
			all := parsingsOf(table, text)
			found[min(len(all), 2)]++
			if got, code := impl.CountParsings(table, text); code != impl.ErrNone || got != int64(len(all)) {
				t.Fatalf("CountParsings(%v, %q) = %d, %d, want %d", table, text, got, code, len(all))
			}
			want, wanted := []int64(nil), int64(impl.ErrNotFound)
			if len(all) > 0 {
				want, wanted = all[0], impl.ErrNone
			}
			if got, code := impl.FirstParsing(table, text); code != wanted || !slices.Equal(got, want) {
				t.Fatalf("FirstParsing(%v, %q) = %v, %d, want %v, %d", table, text, got, code, want, wanted)
			}
		}
	}
	if slices.Contains(found[:], 0) {
		t.Errorf("%v texts have no parsing, one and more, which compares too little", found)
	}
}

func TestCountParsings(t *testing.T) {
	same := func(times int, others ...string) []impl.Rule {
		return tableWith(append(slices.Repeat([]string{"a"}, times), others...)...)
	}
	// Between the first and the last character, ab is made in ten ways, and ba goes across.
	crossed := append(slices.Repeat([]string{"ab"}, 10), "c", "d", "ca", "ba", "bd")
	million := int64(1000000)
	cases := []struct {
		table []impl.Rule
		text  string
		want  int64
		code  int64
	}{
		{nil, "", 1, impl.ErrNone}, {[]impl.Rule{}, "", 1, impl.ErrNone}, {tableWith("a", "b"), "", 1, impl.ErrNone}, {tableWith("", ""), "", 1, impl.ErrNone}, {same(30), "", 1, impl.ErrNone},
		{nil, "a", 0, impl.ErrNone}, {nil, wordOf("z", impl.MaxRoman), 0, impl.ErrNone}, {tableWith(""), "a", 0, impl.ErrNone}, {tableWith("a"), "b", 0, impl.ErrNone}, {tableWith("ab"), "a", 0, impl.ErrNone},
		{tableWith("a", "ab", "b"), "ab", 2, impl.ErrNone}, {tableWith("a", "", "b", ""), "ab", 1, impl.ErrNone}, {tableWith("z"), wordOf("z", impl.MaxRoman), 1, impl.ErrNone},
		{tableWith("abcd"), strings.Repeat("abcd", impl.MaxRoman/4), 1, impl.ErrNone}, {tableWith("abcd"), strings.Repeat("abcd", impl.MaxRoman/4)[1:], 0, impl.ErrNone},
		{tableWith("a", "aa"), wordOf("a", 10), 89, impl.ErrNone}, {tableWith("a", "aa"), wordOf("a", impl.MaxRoman), 7778742049, impl.ErrNone},
		// Up to MaxValue, and more than that.
		{same(10), wordOf("a", 11), million * million / 10, impl.ErrNone}, {same(10), wordOf("a", 12), impl.MaxValue, impl.ErrNone}, {same(10), wordOf("a", 13), 0, impl.ErrLimit},
		{tableWith(crossed[:12]...), "c" + strings.Repeat("ab", 12) + "d", impl.MaxValue, impl.ErrNone}, {tableWith(crossed...), "c" + strings.Repeat("ab", 12) + "d", 0, impl.ErrLimit},
		{tableWith("a", "aa", "aaa"), wordOf("a", impl.MaxRoman), 3122171529233, impl.ErrLimit}, {tableWith("a", "aa", "aaa"), wordOf("a", 46), 922906855808, impl.ErrNone},
		// So many that int64 does not hold them, or wraps around to 0.
		{same(30), wordOf("a", impl.MaxRoman), 0, impl.ErrLimit}, {same(16), wordOf("a", 16), 0, impl.ErrLimit}, {same(16), wordOf("a", 15), 0, impl.ErrLimit}, {same(2), wordOf("a", impl.MaxRoman), 0, impl.ErrLimit},
		{same(8), wordOf("a", 21), 0, impl.ErrLimit}, {same(30, ""), wordOf("a", impl.MaxRoman), 0, impl.ErrInvalid},
		// Parts have more, but the whole text has fewer parsings.
		{same(29), wordOf("a", impl.MaxRoman-1) + "b", 0, impl.ErrNone}, {same(29), "b" + wordOf("a", impl.MaxRoman-1), 0, impl.ErrNone},
		{same(28, "b", "ba"), "c" + wordOf("a", 20) + "b" + wordOf("a", 20), 0, impl.ErrNone}, {same(10, "b"), "b" + wordOf("a", 12) + "b", impl.MaxValue, impl.ErrNone},
	}
	for _, c := range cases {
		want := c.want
		if c.code != impl.ErrNone {
			want = 0
		}
		if got, code := impl.CountParsings(c.table, c.text); code != c.code || got != want {
			t.Errorf("CountParsings with %s of %q = %d, %d, want %d, %d", briefly(c.table), c.text, got, code, want, c.code)
		}
	}
}

func TestFirstParsing(t *testing.T) {
	cases := []struct {
		table []impl.Rule
		text  string
		want  []int64
		code  int64
	}{
		{nil, "", nil, impl.ErrNone}, {[]impl.Rule{}, "", nil, impl.ErrNone}, {tableWith("a"), "", nil, impl.ErrNone}, {tableWith("", "a"), "", nil, impl.ErrNone}, {nil, "a", nil, impl.ErrNotFound},
		{tableWith(""), "a", nil, impl.ErrNotFound}, {tableWith("a", "ab"), "b", nil, impl.ErrNotFound}, {tableWith("ab"), "aba", nil, impl.ErrNotFound}, {tableWith("a"), wordOf("a", 47) + "b", nil, impl.ErrNotFound},
		{tableWith("a", "ab", "b"), "ab", []int64{0, 2}, impl.ErrNone}, {tableWith("ab", "a", "b"), "ab", []int64{0}, impl.ErrNone}, {tableWith("b", "a", "ab"), "ab", []int64{1, 0}, impl.ErrNone},
		// The least index at a place may lead nowhere.
		{tableWith("a", "ab"), "ab", []int64{1}, impl.ErrNone}, {tableWith("a", "aab", "ab"), "aab", []int64{0, 2}, impl.ErrNone}, {tableWith("a", "ab", "bc", "c"), "abc", []int64{0, 2}, impl.ErrNone},
		{tableWith("", "a", "", "b"), "ab", []int64{1, 3}, impl.ErrNone}, {tableWith("a", "a", "a"), "aa", []int64{0, 0}, impl.ErrNone}, {tableWith("aa", "a"), "aaa", []int64{0, 1}, impl.ErrNone},
		{tableWith("a"), wordOf("a", impl.MaxRoman), repeated(0, impl.MaxRoman), impl.ErrNone}, {tableWith("aaaa", "a"), wordOf("a", impl.MaxRoman), repeated(0, impl.MaxRoman/4), impl.ErrNone},
		// So many beginnings of parsings that they cannot be tried one by one.
		{tableWith("a", "aa", "aaa", "aaaa"), wordOf("a", impl.MaxRoman-1) + "b", nil, impl.ErrNotFound}, {tableWith(slices.Repeat([]string{"a"}, impl.MaxRules)...), wordOf("a", impl.MaxRoman-1) + "b", nil, impl.ErrNotFound},
		{tableWith(slices.Repeat([]string{"a"}, impl.MaxRules)...), wordOf("a", impl.MaxRoman), repeated(0, impl.MaxRoman), impl.ErrNone},
		{tableWith("a", "aa", "aaa", "b"), wordOf("a", impl.MaxRoman-1) + "b", append(repeated(0, impl.MaxRoman-1), 3), impl.ErrNone},
	}
	for _, c := range cases {
		if got, code := impl.FirstParsing(c.table, c.text); code != c.code || !slices.Equal(got, c.want) {
			t.Errorf("FirstParsing with %s of %q = %v, %d, want %v, %d", briefly(c.table), c.text, got, code, c.want, c.code)
		}
	}
}

func TestParsingRefuses(t *testing.T) {
	refused := func(table []impl.Rule, text string) {
		if got, code := impl.CountParsings(table, text); code != impl.ErrInvalid || got != 0 {
			t.Errorf("CountParsings with %s of %.60q = %d, %d", briefly(table), text, got, code)
		}
		if got, code := impl.FirstParsing(table, text); code != impl.ErrInvalid || len(got) != 0 {
			t.Errorf("FirstParsing with %s of %.60q = %v, %d", briefly(table), text, got, code)
		}
		if got, code := impl.DecodeText(table, text); code != impl.ErrInvalid || len(got) != 0 {
			t.Errorf("DecodeText with %s of %.60q = %v, %d", briefly(table), text, got, code)
		}
	}
	for _, table := range notTables() {
		for _, text := range []string{"", "a", "q", "A", wordOf("a", impl.MaxRoman+1)} {
			refused(table, text)
		}
	}
	// Such a text is told before a table that is ambiguous, and before no parsing or too many of them.
	for _, text := range notRomanTexts() {
		for _, table := range [][]impl.Rule{nil, tableWith("a"), tableWith("a", "b"), tableWith("a", "a"), tableWith(""), tableWith(slices.Repeat([]string{"a"}, impl.MaxRules)...)} {
			refused(table, text)
		}
	}
}

// The Romans have at most 3 characters, so each of the at most 6 rests of 1 or 2 characters makes an ambiguous text that is the shortest one longer by no more than its length: none is longer than 11.
func TestAmbiguousTextIsTheFirst(t *testing.T) {
	texts := textsOver("ab", 11)[1:]
	romans := texts[:14]
	ambiguous, longest, subsets := 0, 0, subsetsOf(romans, 4)
	for _, roman := range romans {
		subsets = append(subsets, []string{roman, roman}, []string{"ab", roman, "ba", roman})
	}
	for _, subset := range subsets {
		table := tableWith(subset...)
		want := firstAmbiguous(table, texts)
		code := int64(impl.ErrNotFound)
		if want != "" {
			ambiguous++
			code = impl.ErrNone
		}
		longest = max(longest, len(want))
		back := slices.Clone(table)
		slices.Reverse(back)
		for _, table := range [][]impl.Rule{table, back} {
			if got, one := impl.AmbiguousText(table); one != code || got != want {
				t.Fatalf("AmbiguousText(%v) = %q, %d, want %q, %d", table, got, one, want, code)
			}
			if got, two := impl.IsUnambiguous(table); two != impl.ErrNone || got != (want == "") {
				t.Fatalf("IsUnambiguous(%v) = %v, %d, but %q", table, got, two, want)
			}
		}
	}
	if ambiguous == 0 || ambiguous == len(subsets) || longest < 7 {
		t.Errorf("%d texts of %d, the longest one of %d characters, compare too little", ambiguous, len(subsets), longest)
	}
}

func TestAmbiguousText(t *testing.T) {
	cases := []struct {
		want   string
		romans []string
	}{
		// A table without rules, with one rule, and with Romans that do not begin each other.
		{"", nil}, {"", []string{}}, {"", []string{"a"}}, {"", []string{"aaaa"}}, {"", []string{"a", "b", "c"}}, {"", []string{"abcd", "abce", "b", "ac"}}, {"", strings.Split("abcdefghijklmnopqrstuvwxyz", "")},
		// Only what follows tells the parsings apart.
		{"", []string{"a", "ab", "bb"}}, {"", []string{"a", "ab", "abb"}}, {"", []string{"ab", "abba", "bbab"}}, {"", []string{"a", "abc", "bcbc"}}, {"", []string{"abab"}},
		{"ab", []string{"a", "ab", "b"}}, {"a", []string{"a", "a"}}, {"abcd", []string{"abcd", "x", "abcd"}}, {"aa", []string{"a", "aa"}}, {"abab", []string{"ab", "abab"}}, {"aba", []string{"ab", "a", "ba"}},
		{"aaaaa", []string{"aa", "aaa"}}, {"abaab", []string{"ab", "aba", "aab"}}, {"aaaaaaa", []string{"aaa", "aaaa"}},
		// The shortest one, also if another one comes first in the alphabet; the first one of the shortest ones, also if it is found later.
		{"zz", []string{"aa", "aaa", "z", "zz"}}, {"z", []string{"a", "aa", "z", "z"}}, {"b", []string{"d", "d", "c", "c", "b", "b", "aa", "aa"}}, {"ad", []string{"b", "bc", "c", "a", "ad", "d"}},
		{"abc", []string{"zb", "zbc", "c", "ab", "abc"}}, {"abx", []string{"ba", "bax", "ab", "abx", "x"}}, {"zb", []string{"z", "zb", "b", "ac", "acb", "ad", "adb"}},
		{"aqqx", []string{"b", "bqq", "a", "aqq", "qqx", "x"}}, {"aqrx", []string{"cqr", "c", "aqr", "a", "qrx", "x"}}, {"xyzxyz", []string{"xyz", "xyzx", "yz"}}, {"xyzx", []string{"xyz", "xyzx", "x"}},
	}
	for _, c := range cases {
		table := tableWith(c.romans...)
		code := int64(impl.ErrNone)
		if c.want == "" {
			code = impl.ErrNotFound
		} else if !hasTwoParsings(table, c.want) {
			t.Fatalf("%q has not two parsings with %q", c.want, c.romans)
		}
		if got, one := impl.AmbiguousText(table); one != code || got != c.want {
			t.Errorf("AmbiguousText of %q = %q, %d, want %q, %d", c.romans, got, one, c.want, code)
		}
		if got, two := impl.IsUnambiguous(table); two != impl.ErrNone || got != (c.want == "") {
			t.Errorf("IsUnambiguous of %q = %v, %d", c.romans, got, two)
		}
	}
}

// No limit of the document is one of the length of such a text.
func TestAmbiguousTextMayBeLong(t *testing.T) {
	for pairs := 3; pairs <= 26; pairs++ {
		romans, text := linkedPairs(pairs)
		if got, code := impl.AmbiguousText(tableWith(romans...)); code != impl.ErrNone || got != text {
			t.Errorf("AmbiguousText of %q = %q, %d, want %q", romans, got, code, text)
		}
		if len(text) <= impl.MaxRoman {
			if got, code := impl.CountParsings(tableWith(romans...), text); code != impl.ErrNone || got != 2 {
				t.Errorf("CountParsings with %q of %q = %d, %d", romans, text, got, code)
			}
		}
		for left := range romans[1:] {
			others := slices.Concat(romans[:left], romans[left+1:])
			if got, code := impl.IsUnambiguous(tableWith(others...)); code != impl.ErrNone || !got {
				t.Errorf("IsUnambiguous of %q = %v, %d", others, got, code)
			}
		}
	}
}

func TestEmptyRomansAreAmbiguous(t *testing.T) {
	for _, table := range [][]impl.Rule{tableWith(""), tableWith("", ""), tableWith("a", ""), tableWith("", "a", "a"), tableWith("a", "a", ""), append(manyRules(impl.MaxRules-1), rule("", lastSign))} {
		if got, code := impl.IsUnambiguous(table); code != impl.ErrNone || got {
			t.Errorf("IsUnambiguous of %s = %v, %d", briefly(table), got, code)
		}
		if got, code := impl.AmbiguousText(table); code != impl.ErrState || got != "" {
			t.Errorf("AmbiguousText of %s = %q, %d", briefly(table), got, code)
		}
		if got, code := impl.DecodeText(table, "a"); code != impl.ErrState || len(got) != 0 {
			t.Errorf("DecodeText with %s = %v, %d", briefly(table), got, code)
		}
	}
}

// What is no table is told before an empty Roman.
func TestAmbiguityRefuses(t *testing.T) {
	for _, table := range append(notTables(), []impl.Rule{rule("", 0), rule("a", 0)}, []impl.Rule{rule("", 1), rule("a", -1)}, append(manyRules(impl.MaxRules), rule("", 7))) {
		if got, code := impl.IsUnambiguous(table); code != impl.ErrInvalid || got {
			t.Errorf("IsUnambiguous of %s = %v, %d", briefly(table), got, code)
		}
		if got, code := impl.AmbiguousText(table); code != impl.ErrInvalid || got != "" {
			t.Errorf("AmbiguousText of %s = %q, %d", briefly(table), got, code)
		}
	}
}

func TestStableParsings(t *testing.T) {
	stable, not := 0, 0
	for _, table := range append(overlappingTables(), delayedTables()...) {
		lists := [][]int64{nil}
		if len(table) > 0 {
			lists = append(lists, inputsOver(int64(len(table)), 3)...)
			lists = append(lists, repeated(0, impl.MaxInput), repeated(0, impl.MaxInput+1), repeated(int64(len(table)-1), impl.MaxInput/2))
		}
		for _, list := range lists {
			signs, _ := made(table, list)
			if got, code := impl.SignsOfParsing(table, list); code != impl.ErrNone || !slices.Equal(got, signs) {
				t.Fatalf("SignsOfParsing(%v, %v) = %v, %d, want %v", table, list, got, code, signs)
			}
			own, _ := used(table, signs)
			skips := slices.ContainsFunc(list, func(index int64) bool { return table[index].Roman == "" })
			want := len(list) > 0 && !skips && len(signs) <= impl.MaxInput && slices.Equal(own, list)
			if want {
				stable++
			} else {
				not++
			}
			if got, code := impl.IsStable(table, list); code != impl.ErrNone || got != want {
				t.Fatalf("IsStable(%v, %v) = %v, %d, want %v", table, list, got, code, want)
			}
		}
	}
	if stable == 0 || not == 0 {
		t.Errorf("%d stable lists and %d others compare too little", stable, not)
	}
}

func TestSignsOfParsing(t *testing.T) {
	full := manyRules(impl.MaxRules)
	cases := []struct {
		table   []impl.Rule
		parsing []int64
		want    []int64
		stable  bool
	}{
		{nil, nil, nil, false}, {[]impl.Rule{}, []int64{}, nil, false}, {tableWith("a"), nil, nil, false}, {tableWith("a"), []int64{}, nil, false}, {tableWith(""), nil, nil, false},
		{tableWith("a"), []int64{0}, []int64{0}, true}, {tableWith("a", "ab", "b"), []int64{1, 0}, []int64{1, 0}, true}, {tableWith("", "a"), []int64{1, 1}, []int64{1, 1}, true},
		// An empty Roman is never in a parsing, but its signs are told.
		{tableWith("", "a"), []int64{0}, []int64{0}, false}, {tableWith("", "a"), []int64{1, 0}, []int64{1, 0}, false}, {tableWith("", "a"), []int64{0, 1}, []int64{0, 1}, false},
		// Other rules are used to romanise the signs.
		{[]impl.Rule{rule("a", 0), rule("b", 1), rule("x", 0, 1)}, []int64{0, 1}, []int64{0, 1}, false}, {[]impl.Rule{rule("a", 0), rule("b", 1), rule("x", 0, 1)}, []int64{2}, []int64{0, 1}, true},
		{[]impl.Rule{rule("a", 0), rule("b", 1), rule("x", 0, 1)}, []int64{1, 0, 2}, []int64{1, 0, 0, 1}, true}, {[]impl.Rule{rule("a", 0), rule("a", 0, 0)}, []int64{0, 1}, []int64{0, 0, 0}, false},
		{[]impl.Rule{rule("a", 0), rule("a", 0, 0)}, []int64{1, 0}, []int64{0, 0, 0}, true}, {[]impl.Rule{rule("a", 0), rule("ab", 0, 1), rule("b", 1, 2)}, []int64{0, 2}, []int64{0, 1, 2}, false},
		// Up to MaxInput signs, up to MaxRoman indices, and the last rule.
		{tableWith("a"), repeated(0, impl.MaxInput), repeated(0, impl.MaxInput), true}, {tableWith("a"), repeated(0, impl.MaxInput+1), repeated(0, impl.MaxInput+1), false},
		{tableWith("a"), repeated(0, impl.MaxRoman), repeated(0, impl.MaxRoman), false}, {[]impl.Rule{rule("abcd", 5, 5, 5)}, repeated(0, 4), repeated(5, impl.MaxInput), true},
		{[]impl.Rule{rule("abcd", 5, 5, 5)}, repeated(0, impl.MaxRoman), repeated(5, 3*impl.MaxRoman), false}, {[]impl.Rule{rule("a", 5, 5)}, repeated(0, 7), repeated(5, 14), false},
		{full, []int64{impl.MaxRules - 1, 0}, []int64{9, 0, 0, lastSign}, true}, {tableWith("a", "abcd"), repeated(1, impl.MaxInput), repeated(1, impl.MaxInput), true},
	}
	for _, c := range cases {
		if got, code := impl.SignsOfParsing(c.table, c.parsing); code != impl.ErrNone || !slices.Equal(got, c.want) {
			t.Errorf("SignsOfParsing with %s of %v = %v, %d, want %v", briefly(c.table), c.parsing, got, code, c.want)
		}
		if got, code := impl.IsStable(c.table, c.parsing); code != impl.ErrNone || got != c.stable {
			t.Errorf("IsStable with %s of %v = %v, %d, want %v", briefly(c.table), c.parsing, got, code, c.stable)
		}
	}
}

// No table is told before an index without a rule.
func TestSignsOfParsingRefuses(t *testing.T) {
	refused := func(table []impl.Rule, parsing []int64, want int64) {
		if got, code := impl.SignsOfParsing(table, parsing); code != want || len(got) != 0 {
			t.Errorf("SignsOfParsing with %s of %d indices %.40v = %v, %d, want %d", briefly(table), len(parsing), parsing[:min(len(parsing), 4)], got, code, want)
		}
		if got, code := impl.IsStable(table, parsing); code != want || got {
			t.Errorf("IsStable with %s of %d indices %.40v = %v, %d, want %d", briefly(table), len(parsing), parsing[:min(len(parsing), 4)], got, code, want)
		}
	}
	for _, table := range notTables() {
		for _, parsing := range [][]int64{nil, {0}, {0, 0}, {-1}, {int64(len(table))}, repeated(0, impl.MaxRoman+1)} {
			refused(table, parsing, impl.ErrInvalid)
		}
	}
	for _, table := range [][]impl.Rule{nil, tableWith("a"), tableWith("", "a"), tableWith("a", "a", "b"), manyRules(impl.MaxRules)} {
		for _, parsing := range notParsings(int64(len(table))) {
			refused(table, parsing, impl.ErrRange)
		}
	}
	refused(nil, []int64{0}, impl.ErrRange)
}

func TestDecodingOfAllTexts(t *testing.T) {
	found := map[int64]int{}
	texts := textsOver("ab", 6)
	for _, table := range append(overlappingTables(), delayedTables()...) {
		isUnambiguous := !hasEmptyRoman(table) && firstAmbiguous(table, textsOver("ab", 9)) == ""
		if got, code := impl.IsUnambiguous(table); code != impl.ErrNone || got != isUnambiguous {
			t.Fatalf("IsUnambiguous(%v) = %v, %d", table, got, code)
		}
		for _, text := range texts {
			var want []int64
			wanted := int64(impl.ErrState)
			if isUnambiguous {
				wanted = impl.ErrNotFound
				for _, parsing := range parsingsOf(table, text) {
					signs, _ := made(table, parsing)
					if own, _ := used(table, signs); len(parsing) > 0 && slices.Equal(own, parsing) && len(signs) <= impl.MaxInput {
						want, wanted = signs, impl.ErrNone
					}
				}
			}
			found[wanted]++
			if got, code := impl.DecodeText(table, text); code != wanted || !slices.Equal(got, want) {
				t.Fatalf("DecodeText(%v, %q) = %v, %d, want %v, %d", table, text, got, code, want, wanted)
			}
		}
	}
	if len(found) != 3 {
		t.Errorf("the codes %v compare too little", found)
	}
}

func TestDecodeText(t *testing.T) {
	longer := []impl.Rule{rule("a", 0), rule("b", 1), rule("x", 0, 1)}
	cases := []struct {
		table []impl.Rule
		text  string
		want  []int64
		code  int64
	}{
		{tableWith("a", "ab"), "aab", []int64{0, 1}, impl.ErrNone}, {tableWith("a", "ab"), "a", []int64{0}, impl.ErrNone}, {longer, "x", []int64{0, 1}, impl.ErrNone}, {longer, "bax", []int64{1, 0, 0, 1}, impl.ErrNone},
		{tableWith("a", "ab", "bb"), "a" + wordOf("b", 21), append([]int64{1}, repeated(2, 10)...), impl.ErrNone}, {tableWith("a", "ab", "bb"), "a" + wordOf("b", 22), append([]int64{0}, repeated(2, 11)...), impl.ErrNone},
		{tableWith("abcd"), strings.Repeat("abcd", impl.MaxInput), repeated(0, impl.MaxInput), impl.ErrNone}, {tableWith("a"), wordOf("a", impl.MaxInput), repeated(0, impl.MaxInput), impl.ErrNone},
		{[]impl.Rule{rule("abcd", 7, 7, 7)}, strings.Repeat("abcd", 4), repeated(7, impl.MaxInput), impl.ErrNone}, {manyRules(impl.MaxRules - 1)[:1], "ayz", []int64{0, 0, lastSign}, impl.ErrNone},
		// The empty text has a parsing, but none that is stable.
		{nil, "", nil, impl.ErrNotFound}, {tableWith("a"), "", nil, impl.ErrNotFound}, {tableWith("a", "ab"), "", nil, impl.ErrNotFound}, {tableWith("a", "a"), "", nil, impl.ErrState}, {tableWith(""), "", nil, impl.ErrState},
		// No parsing.
		{nil, "a", nil, impl.ErrNotFound}, {tableWith("a"), "b", nil, impl.ErrNotFound}, {tableWith("a", "ab"), "ba", nil, impl.ErrNotFound}, {tableWith("a", "ab"), "abb", nil, impl.ErrNotFound},
		{tableWith("abcd"), strings.Repeat("abcd", impl.MaxInput)[1:], nil, impl.ErrNotFound}, {tableWith("a"), wordOf("b", impl.MaxRoman), nil, impl.ErrNotFound},
		// A parsing that is not stable: other rules are used, or there are too many signs.
		{longer, "ab", nil, impl.ErrNotFound}, {longer, "xab", nil, impl.ErrNotFound}, {[]impl.Rule{rule("a", 0), rule("b", 1, 2), rule("x", 0, 1)}, "ab", nil, impl.ErrNotFound},
		{tableWith("a"), wordOf("a", impl.MaxInput+1), nil, impl.ErrNotFound}, {tableWith("a"), wordOf("a", impl.MaxRoman), nil, impl.ErrNotFound}, {[]impl.Rule{rule("abcd", 7, 7, 7)}, strings.Repeat("abcd", 5), nil, impl.ErrNotFound},
		// An ambiguous table is told before no parsing, and also for texts with one.
		{tableWith("a", "ab", "b"), "a", nil, impl.ErrState}, {tableWith("a", "ab", "b"), "ab", nil, impl.ErrState}, {tableWith("a", "ab", "b"), "c", nil, impl.ErrState}, {tableWith("c", "c", "a"), "a", nil, impl.ErrState},
		{tableWith("", "a"), "a", nil, impl.ErrState}, {tableWith("", "a"), "b", nil, impl.ErrState}, {tableWith("a", "a"), wordOf("a", impl.MaxRoman), nil, impl.ErrState},
	}
	for _, c := range cases {
		if got, code := impl.DecodeText(c.table, c.text); code != c.code || !slices.Equal(got, c.want) {
			t.Errorf("DecodeText with %s of %q = %v, %d, want %v, %d", briefly(c.table), c.text, got, code, c.want, c.code)
		}
	}
}

// Promise 7: with an unambiguous table every romanised list of signs is recovered. As chapter 5 adds, a text tells otherwise why it need not be.
func TestRomanisedSignsAreRecovered(t *testing.T) {
	inputs := append(inputsOver(2, 6), inputsOver(3, 3)...)
	inputs = append(inputs, repeated(0, impl.MaxInput), repeated(1, impl.MaxInput), repeated(lastSign, 2), []int64{0, 1, 0, 1, 1, 0, 0, 1, 0, 1, 1, 0})
	recovered, refused := 0, 0
	for _, table := range slices.Concat(delayedTables(), tablesOfTwoSigns(), someTables()) {
		isUnambiguous, code := impl.IsUnambiguous(table)
		wantCode(t, "IsUnambiguous", code, impl.ErrNone)
		if text, code := impl.AmbiguousText(table); code == impl.ErrNone && !hasTwoParsings(table, text) || (code == impl.ErrNotFound) != isUnambiguous || (code == impl.ErrState) != hasEmptyRoman(table) {
			t.Fatalf("%v is unambiguous: %v, but %q, code %d", table, isUnambiguous, text, code)
		}
		for _, signs := range inputs {
			roman, code := impl.Romanise(table, signs)
			if code == impl.ErrNone && !isUnambiguous {
				code = impl.ErrState
			}
			got, one := impl.IsRecovered(table, signs)
			if one != code || got != (code == impl.ErrNone) {
				t.Fatalf("IsRecovered(%v, %v) = %v, %d, want the code %d", table, signs, got, one, code)
			}
			if code != impl.ErrNone {
				refused++
				continue
			}
			recovered++
			if back, two := impl.DecodeText(table, roman); two != impl.ErrNone || !slices.Equal(back, signs) {
				t.Fatalf("with %v the signs %v are %q, which is decoded to %v, code %d", table, signs, roman, back, two)
			}
			if number, three := impl.CountParsings(table, roman); three != impl.ErrNone || number != 1 {
				t.Fatalf("with %v the romanisation %q has %d parsings, code %d", table, roman, number, three)
			}
		}
	}
	if recovered == 0 || refused == 0 {
		t.Errorf("%d lists are recovered and %d are not, which compares too little", recovered, refused)
	}
}

func TestIsRecovered(t *testing.T) {
	longer := []impl.Rule{rule("a", 0), rule("b", 1), rule("x", 0, 1)}
	ambiguous, empty := tableWith("a", "ab", "b"), tableWith("", "a")
	romans, _ := linkedPairs(26)
	cases := []struct {
		table []impl.Rule
		signs []int64
		code  int64
	}{
		{longer, []int64{0}, impl.ErrNone}, {longer, []int64{0, 1}, impl.ErrNone}, {longer, []int64{1, 0, 0, 1, 1}, impl.ErrNone}, {longer, repeated(0, impl.MaxInput), impl.ErrNone},
		{tableWith("abcd"), repeated(0, impl.MaxInput), impl.ErrNone}, {[]impl.Rule{rule("abcd", 3, 3, 3)}, repeated(3, impl.MaxInput), impl.ErrNone}, {tableWith("a", "ab", "bb"), []int64{0, 2, 2, 1, 2}, impl.ErrNone},
		{tableWith(romans[:len(romans)-1]...), []int64{0, 2, 4, 6}, impl.ErrNone}, {tableWith(romans...), []int64{0, 2, 4, 6}, impl.ErrState},
		{ambiguous, []int64{0}, impl.ErrState}, {ambiguous, []int64{1}, impl.ErrState}, {ambiguous, []int64{0, 2}, impl.ErrState}, {empty, []int64{1}, impl.ErrState}, {empty, []int64{0}, impl.ErrState},
		{tableWith(""), repeated(0, impl.MaxInput), impl.ErrState}, {tableWith("a", "a"), []int64{1}, impl.ErrState},
		// No romanisation is told before an ambiguous table.
		{nil, []int64{0}, impl.ErrNotFound}, {longer, []int64{2}, impl.ErrNotFound}, {ambiguous, []int64{3}, impl.ErrNotFound}, {ambiguous, []int64{0, 3}, impl.ErrNotFound}, {empty, []int64{1, 2}, impl.ErrNotFound},
		{[]impl.Rule{rule("a", 0, 1), rule("a", 1, 0)}, []int64{0}, impl.ErrNotFound},
	}
	for _, c := range cases {
		if got, code := impl.IsRecovered(c.table, c.signs); code != c.code || got != (c.code == impl.ErrNone) {
			t.Errorf("IsRecovered with %s of %v = %v, %d, want the code %d", briefly(c.table), c.signs, got, code, c.code)
		}
	}
	for _, table := range notTables() {
		for _, signs := range [][]int64{{0}, {lastSign}, nil, {-1}} {
			if got, code := impl.IsRecovered(table, signs); code != impl.ErrInvalid || got {
				t.Errorf("IsRecovered with %s of %v = %v, %d", briefly(table), signs, got, code)
			}
		}
	}
	for _, signs := range notInputs() {
		for _, table := range [][]impl.Rule{nil, longer, ambiguous, empty} {
			if got, code := impl.IsRecovered(table, signs); code != impl.ErrInvalid || got {
				t.Errorf("IsRecovered with %s of %d signs %v = %v, %d", briefly(table), len(signs), signs[:min(len(signs), 4)], got, code)
			}
		}
	}
}

func TestDecodingKeepsArguments(t *testing.T) {
	for _, further := range []impl.Rule{rule("bb", 2, 3), rule("b", 2, 3), rule("", 2, 3)} {
		first, memoryOfSigns := withSpare([]int64{0}, 9)
		table, memory := withSpare([]impl.Rule{rule("ab", 1), rule("a", first...), further}, rule("spare", 5))
		parsing, memoryOfParsing := withSpare([]int64{1, 0, 2}, 9)
		signs, memoryOfInput := withSpare([]int64{0, 1, 2, 3}, 9)
		before := copyOf(memory)
		lists := [][]int64{memoryOfSigns, memoryOfParsing, memoryOfInput}
		numbers := [][]int64{slices.Clone(memoryOfSigns), slices.Clone(memoryOfParsing), slices.Clone(memoryOfInput)}
		impl.CountParsings(table, "aabbb")
		impl.FirstParsing(table, "aabbb")
		impl.IsUnambiguous(table)
		impl.AmbiguousText(table)
		impl.SignsOfParsing(table, parsing)
		impl.IsStable(table, parsing)
		impl.DecodeText(table, "aabbb")
		impl.IsRecovered(table, signs)
		if !sameTable(memory, before) || !slices.EqualFunc(lists, numbers, slices.Equal) {
			t.Errorf("arguments were changed: %v, %v", memory, lists)
		}
	}
}

func TestDecodingResultsAreNew(t *testing.T) {
	table := []impl.Rule{rule("a", 0), rule("ab", 1, 2, 3)}
	parsing := []int64{1}
	results := []func() []int64{
		func() []int64 { list, _ := impl.FirstParsing(table, "aab"); return list },
		func() []int64 { list, _ := impl.SignsOfParsing(table, parsing); return list },
		func() []int64 { list, _ := impl.DecodeText(table, "ab"); return list },
	}
	for i, result := range results {
		first := result()
		want := slices.Clone(first)
		first[0] = 7
		_ = append(first, 8)
		if second := result(); !slices.Equal(second, want) || !slices.Equal(table[1].Signs, []int64{1, 2, 3}) || parsing[0] != 1 {
			t.Errorf("result %d is %v after it was changed, want %v; %v, %v", i, second, want, table, parsing)
		}
	}
}

// A goroutine may still be ending when its channel is closed, so it gets some time for that.
func TestDecodingLeavesNoGoroutines(t *testing.T) {
	before := runtime.NumGoroutine()
	romans, _ := linkedPairs(26)
	for range 20 {
		for _, table := range [][]impl.Rule{nil, tableWith("a", "ab", "b"), tableWith("a", "ab", "bb"), tableWith(romans...), tableWith(slices.Repeat([]string{"a"}, impl.MaxRules)...)} {
			impl.AmbiguousText(table)
			impl.DecodeText(table, "ab")
		}
	}
	for range 200 {
		if runtime.NumGoroutine() <= before {
			return
		}
		time.Sleep(10 * time.Millisecond)
	}
	t.Errorf("%d goroutines, %d before", runtime.NumGoroutine(), before)
}

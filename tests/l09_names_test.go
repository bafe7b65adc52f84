package tests

import (
	"fmt"
	"math"
	"regexp"
	"slices"
	"strconv"
	"strings"
	"testing"

	"loop.example/g01030/impl"
)

func named(text, language string, status, from, to int64) impl.Name {
	return impl.Name{Text: text, Language: language, Status: status, Years: span(from, to)}
}

// someNames returns names with all numbers of letters and words, all statuses, and years at their limits.
func someNames() []impl.Name {
	all := []impl.Name{
		named("old ash", "en", impl.StatusOfficial, 1200, 1400), named("esche", "de", impl.StatusVariant, 1300, 1350), named("fraxinus", "lat", impl.StatusHistoric, -50, 476),
		named("a", "aa", 0, 0, 0), named("z", "zz", 0, -1, 0), named("z", "zzz", 1, -1, -1), named("a", "aaa", 2, 0, 1), named("en", "en", 2, firstYear, lastYear), named("de", "eng", 0, firstYear, firstYear), named("a b", "az", 1, lastYear, lastYear),
	}
	for _, words := range somePhrases() {
		all = append(all, named(strings.Join(words, " "), "en", 0, 1, 2))
	}
	for _, s := range validSpans() {
		all = append(all, named("ash", "eng", 1, s.From, s.To))
	}
	return all
}

func notLanguages() []string {
	return []string{
		"", "e", "engl", "engli", wordOf("e", impl.MaxWord), wordOf("e", 5000), "En", "eN", "EN", "ENG", "enG", "e1", "11", "e-", "e n", " e", "e ", "en ", " en", "  ", "e\x00", "e\n", "en\n", "e/", "e.", "`a", "a`", "{z", "z{", "é", "eé", "\xff\xff", "e\xff", "ab\xff",
	}
}

// statusesOut returns numbers that are no Status, some of which would be one in fewer bits.
func statusesOut() []int64 {
	return []int64{-1, 3, -2, 4, 9, 256, 257, 1 << 32, 1<<32 + 1, math.MinInt64, math.MaxInt64}
}

func yearsOut() []int64 {
	return []int64{firstYear - 1, lastYear + 1, firstYear - 2, lastYear + 2, math.MinInt64, math.MaxInt64, 1 << 32}
}

// notNames returns names that break the description of a name, each in one way, for each Status.
func notNames() []impl.Name {
	all := []impl.Name{{}}
	for status := range int64(3) {
		for _, s := range notPhrases() {
			all = append(all, named(s, "en", status, 1200, 1400))
		}
		for _, s := range notLanguages() {
			all = append(all, named("ash", s, status, 1200, 1400))
		}
		for _, s := range notSpans() {
			all = append(all, named("ash", "en", status, s.From, s.To))
		}
	}
	for _, status := range statusesOut() {
		all = append(all, named("ash", "en", status, 1200, 1400))
	}
	return all
}

// manyNames returns official names with one language of ten years each from the year 0 on, which touch.
func manyNames(number int) []impl.Name {
	all := make([]impl.Name, number)
	for i := range all {
		from := 10 * int64(i)
		all[i] = named(wordOf("a", i+1), "en", impl.StatusOfficial, from, from+9)
	}
	return all
}

func someNameLists() [][]impl.Name {
	variant := named("ash", "en", impl.StatusVariant, 0, 500)
	all := [][]impl.Name{
		nil, {}, manyNames(impl.MaxNames - 1), manyNames(impl.MaxNames), slices.Repeat([]impl.Name{variant}, impl.MaxNames), append(manyNames(impl.MaxNames-1), variant),
		// Equal names that are not official.
		{variant, variant}, {named("ash", "en", impl.StatusHistoric, 0, 500), named("ash", "en", impl.StatusHistoric, 0, 500)},
		// Official names that touch, in both orders, and those with different languages.
		{named("ash", "en", 0, 0, 9), named("elm", "en", 0, 10, 19)}, {named("elm", "en", 0, 10, 19), named("ash", "en", 0, 0, 9)}, {named("ash", "en", 0, 0, 9), named("ash", "en", 0, 10, 19)}, {named("ash", "en", 0, firstYear, 0), named("elm", "en", 0, 1, lastYear)},
		{named("ash", "en", 0, 0, 9), named("ash", "de", 0, 0, 9)}, {named("ash", "en", 0, 0, 9), named("ash", "eng", 0, 0, 9)}, {named("ash", "de", 0, 0, 9), named("ash", "en", 0, 3, 12), named("ash", "fr", 0, 9, 9)},
		// An official name and others whose years meet.
		{named("ash", "en", 0, 0, 9), named("ash", "en", 1, 0, 9)}, {named("ash", "en", 2, 0, 9), named("ash", "en", 0, 0, 9)}, {named("ash", "en", 1, 0, 9), named("ash", "en", 2, 9, 9)},
	}
	for _, n := range someNames() {
		all = append(all, []impl.Name{n})
	}
	return all
}

func notNameLists() [][]impl.Name {
	full := manyNames(impl.MaxNames)
	variant := named("ash", "en", impl.StatusVariant, 0, 500)
	all := [][]impl.Name{
		manyNames(impl.MaxNames + 1), manyNames(15), slices.Repeat([]impl.Name{variant}, impl.MaxNames+1), slices.Repeat([]impl.Name{variant}, 5000), append(slices.Clone(full), variant),
		// Official names with one language that meet in one year alone, in more of them, and in all of them.
		{named("ash", "en", 0, 0, 9), named("elm", "en", 0, 9, 19)}, {named("elm", "en", 0, 9, 19), named("ash", "en", 0, 0, 9)}, {named("ash", "en", 0, 0, 9), named("elm", "en", 0, 5, 6)}, {named("ash", "en", 0, 5, 6), named("elm", "en", 0, 0, 9)}, {named("ash", "en", 0, 0, 9), named("ash", "en", 0, 0, 9)},
		{named("ash", "en", 0, firstYear, lastYear), named("elm", "en", 0, lastYear, lastYear)}, {named("ash", "eng", 0, firstYear, firstYear), named("elm", "eng", 0, firstYear, 0)}, {named("ash", "en", 0, 0, 9), named("oak", "de", 0, 0, 9), named("elm", "en", 0, 9, 9)}, {named("oak", "en", 1, 0, 9), named("ash", "en", 0, 0, 9), named("elm", "en", 0, 0, 0)},
		append(slices.Clone(full[:impl.MaxNames-1]), full[0]), append([]impl.Name{full[impl.MaxNames-1]}, full[1:]...), append(slices.Clone(full[:impl.MaxNames-1]), named("ash", "en", 0, 109, 109)),
	}
	for _, n := range notNames() {
		all = append(all, []impl.Name{n}, []impl.Name{n, variant}, []impl.Name{variant, n}, append(slices.Clone(full[:impl.MaxNames-1]), n))
	}
	return all
}

// listsOfNames returns all lists of at most three names in the years 1 to 3 with two languages and two statuses, also those that are no names.
func listsOfNames() [][]impl.Name {
	all := [][]impl.Name{nil}
	for first, texts := 0, []string{"a", "b", "c"}; len(texts) > 0; texts = texts[1:] {
		end := len(all)
		for _, list := range all[first:end] {
			for from := int64(1); from <= 3; from++ {
				for to := from; to <= 3; to++ {
					for _, language := range []string{"en", "de"} {
						for _, status := range []int64{impl.StatusOfficial, impl.StatusHistoric} {
							all = append(all, append(slices.Clone(list), named(texts[0], language, status, from, to)))
						}
					}
				}
			}
		}
		first = end
	}
	return all
}

func usedBy(list []impl.Name, year int64) []int64 {
	var all []int64
	for i, n := range list {
		if tableOf([]impl.Span{n.Years}).has(year) {
			all = append(all, int64(i))
		}
	}
	return all
}

// officialBy returns all official names with a language that are used in a year.
func officialBy(list []impl.Name, language string, year int64) []int64 {
	return slices.DeleteFunc(usedBy(list, year), func(i int64) bool {
		return list[i].Status != impl.StatusOfficial || list[i].Language != language
	})
}

func bestBy(list []impl.Name, languages []string, year int64) (int64, bool) {
	for _, language := range languages {
		for status := range int64(3) {
			for _, i := range usedBy(list, year) {
				if list[i].Language == language && list[i].Status == status {
					return i, true
				}
			}
		}
	}
	return 0, false
}

// renamedBy returns the names in which one of them ends before a year in which it is used.
func renamedBy(list []impl.Name, place, year int64, text string) []impl.Name {
	var all []impl.Name
	for i, n := range list {
		if int64(i) == place {
			n.Years.To = year - 1
		}
		if n.Years.From <= n.Years.To {
			all = append(all, n)
		}
	}
	old := list[place]
	return append(all, named(text, old.Language, impl.StatusOfficial, year, old.Years.To))
}

// toldIn returns what names tell of a year, whatever their order is.
func toldIn(list []impl.Name, year int64) []string {
	var all []string
	for _, i := range usedBy(list, year) {
		n := list[i]
		all = append(all, fmt.Sprint(n.Text, "/", n.Language, "/", n.Status))
	}
	slices.Sort(all)
	return all
}

// fewNames names a list by its length and its first names.
func fewNames(list []impl.Name) string {
	return fmt.Sprintf("%d names %.120s", len(list), fmt.Sprint(list[:min(len(list), 3)]))
}

func TestNamesLimits(t *testing.T) {
	if impl.MaxNames != 12 || impl.StatusOfficial != 0 || impl.StatusVariant != 1 || impl.StatusHistoric != 2 {
		t.Errorf("MaxNames = %d, the statuses are %d, %d and %d", impl.MaxNames, impl.StatusOfficial, impl.StatusVariant, impl.StatusHistoric)
	}
}

func TestIsName(t *testing.T) {
	for _, n := range someNames() {
		if !impl.IsName(n) {
			t.Errorf("IsName(%v) = false", n)
		}
	}
	for _, n := range notNames() {
		if impl.IsName(n) {
			t.Errorf("IsName(%.120s) = true", fmt.Sprint(n))
		}
	}
	for letters := range 8 {
		for status := int64(-3); status <= 6; status++ {
			n := named("ash", wordOf("x", letters), status, 0, 1)
			if got, want := impl.IsName(n), (letters == 2 || letters == 3) && status >= 0 && status <= 2; got != want {
				t.Errorf("IsName(%v) = %v", n, got)
			}
		}
	}
	for c := range 256 {
		s, want := string([]byte{byte(c)}), 'a' <= c && c <= 'z'
		for _, language := range []string{s + "n", "e" + s, s + "ng", "e" + s + "g", "en" + s} {
			if got := impl.IsName(named("ash", language, 0, 0, 1)); got != want {
				t.Errorf("IsName with the language %q = %v", language, got)
			}
		}
	}
}

func TestAreNames(t *testing.T) {
	for _, list := range someNameLists() {
		if !impl.AreNames(list) {
			t.Errorf("AreNames of %s = false", fewNames(list))
		}
	}
	for _, list := range notNameLists() {
		if impl.AreNames(list) {
			t.Errorf("AreNames of %s = true", fewNames(list))
		}
	}
}

// Promise 11: in a year there is at most one official name with a language, and lists without such a year are names.
func TestOneNameIsOfficial(t *testing.T) {
	for _, list := range listsOfNames() {
		want := true
		for year := int64(0); year <= 4; year++ {
			for _, language := range []string{"en", "de"} {
				want = want && len(officialBy(list, language, year)) <= 1
			}
		}
		if got := impl.AreNames(list); got != want {
			t.Fatalf("AreNames(%v) = %v", list, got)
		}
	}
}

func TestUsedIn(t *testing.T) {
	list := []impl.Name{named("ash", "en", 0, 1200, 1400), named("elm", "de", 1, 1300, 1350), named("oak", "de", 2, 1400, 1500), named("elm", "de", 1, 1300, 1350), named("yew", "fr", 0, 1600, 1600)}
	cases := []struct {
		year int64
		want []int64
	}{
		{1199, nil}, {1200, []int64{0}}, {1299, []int64{0}}, {1300, []int64{0, 1, 3}}, {1350, []int64{0, 1, 3}}, {1351, []int64{0}}, {1400, []int64{0, 2}}, {1401, []int64{2}}, {1500, []int64{2}}, {1501, nil},
		{1599, nil}, {1600, []int64{4}}, {1601, nil}, {0, nil}, {-1300, nil}, {firstYear, nil}, {lastYear, nil},
	}
	for _, c := range cases {
		if got, code := impl.UsedIn(list, c.year); code != impl.ErrNone || !slices.Equal(got, c.want) {
			t.Errorf("UsedIn(%v, %d) = %v, %d, want %v", list, c.year, got, code, c.want)
		}
	}
	for _, list := range someNameLists() {
		for _, year := range []int64{firstYear, firstYear + 1, -1, 0, 1, 2, 9, 10, 59, 60, 119, 120, 500, 501, 1300, 2999, lastYear} {
			if got, code := impl.UsedIn(list, year); code != impl.ErrNone || !slices.Equal(got, usedBy(list, year)) {
				t.Errorf("UsedIn of %s in %d = %v, %d, want %v", fewNames(list), year, got, code, usedBy(list, year))
			}
		}
	}
}

func TestOfficialIn(t *testing.T) {
	list := []impl.Name{named("ash", "en", 1, 1200, 1600), named("elm", "en", 0, 1300, 1350), named("oak", "de", 0, 1340, 1360), named("yew", "en", 0, 1351, 1400), named("fir", "deu", 0, 1300, 1400), named("box", "fr", 2, 1300, 1400), named("bay", "en", 0, firstYear, firstYear), named("hop", "en", 0, lastYear, lastYear)}
	cases := []struct {
		language string
		year     int64
		want     int64
	}{
		{"en", 1300, 1}, {"en", 1340, 1}, {"en", 1350, 1}, {"en", 1351, 3}, {"en", 1400, 3}, {"de", 1340, 2}, {"de", 1360, 2}, {"deu", 1300, 4}, {"deu", 1350, 4}, {"en", firstYear, 6}, {"en", lastYear, 7},
		{"en", 1299, -1}, {"en", 1401, -1}, {"en", 1250, -1}, {"en", firstYear + 1, -1}, {"en", lastYear - 1, -1}, {"de", 1339, -1}, {"de", 1361, -1}, {"fr", 1350, -1}, {"xx", 1350, -1}, {"eng", 1350, -1}, {"fr", firstYear, -1}, {"fr", lastYear, -1},
	}
	for _, c := range cases {
		got, code := impl.OfficialIn(list, c.language, c.year)
		if c.want < 0 && (code != impl.ErrNotFound || got != 0) || c.want >= 0 && (code != impl.ErrNone || got != c.want) {
			t.Errorf("OfficialIn(%q, %d) = %d, %d, want %d", c.language, c.year, got, code, c.want)
		}
	}
	for _, empty := range [][]impl.Name{nil, {}} {
		if got, code := impl.OfficialIn(empty, "en", 1300); code != impl.ErrNotFound || got != 0 {
			t.Errorf("OfficialIn of no names = %d, %d", got, code)
		}
	}
	for i, n := range manyNames(impl.MaxNames) {
		for _, year := range []int64{n.Years.From, n.Years.To} {
			if got, code := impl.OfficialIn(manyNames(impl.MaxNames), "en", year); code != impl.ErrNone || got != int64(i) {
				t.Errorf("OfficialIn of %d names in %d = %d, %d, want %d", impl.MaxNames, year, got, code, i)
			}
		}
	}
}

func TestBestIn(t *testing.T) {
	list := []impl.Name{named("ash", "en", 2, 1200, 1600), named("elm", "en", 1, 1300, 1500), named("oak", "en", 1, 1300, 1500), named("yew", "en", 0, 1400, 1450), named("fir", "de", 2, 1300, 1700), named("fir", "de", 2, 1300, 1700), named("box", "fr", 0, 1400, 1400)}
	cases := []struct {
		languages []string
		year      int64
		want      int64
	}{
		// The least Status, and the first one of several, equal ones too.
		{[]string{"en"}, 1200, 0}, {[]string{"en"}, 1299, 0}, {[]string{"en"}, 1300, 1}, {[]string{"en"}, 1399, 1}, {[]string{"en"}, 1400, 3}, {[]string{"en"}, 1450, 3}, {[]string{"en"}, 1451, 1}, {[]string{"en"}, 1501, 0}, {[]string{"de"}, 1300, 4}, {[]string{"de"}, 1700, 4},
		// The first language for which there is a name in this year counts more than the Status.
		{[]string{"de", "en"}, 1400, 4}, {[]string{"en", "de"}, 1400, 3}, {[]string{"de", "en"}, 1250, 0}, {[]string{"en", "de"}, 1650, 4}, {[]string{"fr", "de", "en"}, 1400, 6}, {[]string{"fr", "de", "en"}, 1401, 4}, {[]string{"fr", "de", "en"}, 1299, 0}, {[]string{"xx", "eng", "fr"}, 1400, 6},
		// A language twice.
		{[]string{"de", "en", "de"}, 1400, 4}, {[]string{"de", "de", "en"}, 1250, 0}, {[]string{"fr", "fr"}, 1400, 6}, {slices.Repeat([]string{"xx", "fr"}, 500), 1400, 6},
		// No name with a language, and no language.
		{nil, 1400, -1}, {[]string{}, 1400, -1}, {[]string{"xx"}, 1400, -1}, {[]string{"fr"}, 1399, -1}, {[]string{"fr"}, 1401, -1}, {[]string{"fr", "fr"}, 1300, -1}, {[]string{"en", "de", "fr"}, 1199, -1}, {[]string{"en", "de", "fr"}, 1701, -1}, {[]string{"en", "de"}, firstYear, -1}, {[]string{"en", "de"}, lastYear, -1},
	}
	for _, c := range cases {
		got, code := impl.BestIn(list, c.languages, c.year)
		if c.want < 0 && (code != impl.ErrNotFound || got != 0) || c.want >= 0 && (code != impl.ErrNone || got != c.want) {
			t.Errorf("BestIn(%.60q, %d) = %d, %d, want %d", c.languages, c.year, got, code, c.want)
		}
	}
	if got, code := impl.BestIn(nil, []string{"en"}, 1400); code != impl.ErrNotFound || got != 0 {
		t.Errorf("BestIn of no names = %d, %d", got, code)
	}
}

// In all short lists, each question about a year is answered as by looking at the names one by one.
func TestNamesOfYears(t *testing.T) {
	choices := [][]string{nil, {"en"}, {"de", "en"}, {"en", "de"}, {"fr", "de"}}
	for _, list := range listsOfNames() {
		if !impl.AreNames(list) {
			continue
		}
		for year := int64(0); year <= 4; year++ {
			if got, code := impl.UsedIn(list, year); code != impl.ErrNone || !slices.Equal(got, usedBy(list, year)) {
				t.Fatalf("UsedIn(%v, %d) = %v, %d", list, year, got, code)
			}
			for _, language := range []string{"en", "de", "fr"} {
				got, code := impl.OfficialIn(list, language, year)
				if want := officialBy(list, language, year); len(want) > 0 && (code != impl.ErrNone || got != want[0]) || len(want) == 0 && (code != impl.ErrNotFound || got != 0) {
					t.Fatalf("OfficialIn(%v, %q, %d) = %d, %d, want %v", list, language, year, got, code, want)
				}
			}
			for _, languages := range choices {
				got, code := impl.BestIn(list, languages, year)
				if want, found := bestBy(list, languages, year); got != want || found != (code == impl.ErrNone) || found == (code == impl.ErrNotFound) {
					t.Fatalf("BestIn(%v, %q, %d) = %d, %d, want %d, %v", list, languages, year, got, code, want, found)
				}
			}
		}
	}
}

func TestRenameIn(t *testing.T) {
	list := []impl.Name{named("ash", "en", 0, 1200, 1400), named("elm", "en", 1, 1100, 1500), named("oak", "en", 0, 1401, 1401), named("yew", "de", 0, 1200, 1400), named("fir", "fr", 0, firstYear, lastYear)}
	cases := []struct {
		language string
		year     int64
		text     string
		want     []impl.Name
	}{
		// In between, in the last year, and in the first one, in which the name is left out.
		{"en", 1300, "new ash", []impl.Name{named("ash", "en", 0, 1200, 1299), list[1], list[2], list[3], list[4], named("new ash", "en", 0, 1300, 1400)}},
		{"en", 1201, "new", []impl.Name{named("ash", "en", 0, 1200, 1200), list[1], list[2], list[3], list[4], named("new", "en", 0, 1201, 1400)}},
		{"en", 1400, "new", []impl.Name{named("ash", "en", 0, 1200, 1399), list[1], list[2], list[3], list[4], named("new", "en", 0, 1400, 1400)}},
		{"en", 1200, "new", []impl.Name{list[1], list[2], list[3], list[4], named("new", "en", 0, 1200, 1400)}},
		// A name of one year alone, which is its first and its last one.
		{"en", 1401, "new", []impl.Name{list[0], list[1], list[3], list[4], named("new", "en", 0, 1401, 1401)}},
		{"de", 1300, "new", []impl.Name{list[0], list[1], list[2], named("yew", "de", 0, 1200, 1299), list[4], named("new", "de", 0, 1300, 1400)}},
		// The first and the last year of all, and the year 0.
		{"fr", firstYear, "new", []impl.Name{list[0], list[1], list[2], list[3], named("new", "fr", 0, firstYear, lastYear)}},
		{"fr", lastYear, "new", []impl.Name{list[0], list[1], list[2], list[3], named("fir", "fr", 0, firstYear, lastYear-1), named("new", "fr", 0, lastYear, lastYear)}},
		{"fr", 0, "new", []impl.Name{list[0], list[1], list[2], list[3], named("fir", "fr", 0, firstYear, -1), named("new", "fr", 0, 0, lastYear)}},
		// The text may be the one that the name has, or that of another name.
		{"en", 1300, "ash", []impl.Name{named("ash", "en", 0, 1200, 1299), list[1], list[2], list[3], list[4], named("ash", "en", 0, 1300, 1400)}},
		{"en", 1200, "ash", []impl.Name{list[1], list[2], list[3], list[4], named("ash", "en", 0, 1200, 1400)}},
		{"de", 1400, "oak", []impl.Name{list[0], list[1], list[2], named("yew", "de", 0, 1200, 1399), list[4], named("oak", "de", 0, 1400, 1400)}},
		{"en", 1401, phraseOf(wordOf("z", impl.MaxWord), impl.MaxPhrase), []impl.Name{list[0], list[1], list[3], list[4], named(phraseOf(wordOf("z", impl.MaxWord), impl.MaxPhrase), "en", 0, 1401, 1401)}},
	}
	for _, c := range cases {
		if got, code := impl.RenameIn(list, c.language, c.year, c.text); code != impl.ErrNone || !slices.Equal(got, c.want) {
			t.Errorf("RenameIn(%q, %d, %q) = %v, %d, want %v", c.language, c.year, c.text, got, code, c.want)
		}
	}
	for _, language := range []string{"en", "de", "xx", "eng", "fra"} {
		for _, year := range []int64{1199, 1402, 1150, 1500, firstYear, lastYear} {
			refusedRename(t, list, language, year, "new", impl.ErrNotFound)
		}
	}
	refusedRename(t, nil, "en", 1300, "new", impl.ErrNotFound)
	refusedRename(t, []impl.Name{}, "en", 1300, "new", impl.ErrNotFound)
}

// With MaxNames names there is place for a further one only if a name is left out.
func TestRenameInManyNames(t *testing.T) {
	for number := impl.MaxNames - 1; number <= impl.MaxNames; number++ {
		list := manyNames(number)
		for i, n := range list {
			for year := n.Years.From; year <= n.Years.To; year++ {
				if number == impl.MaxNames && year > n.Years.From {
					refusedRename(t, list, "en", year, "new", impl.ErrLimit)
					continue
				}
				got, code := impl.RenameIn(list, "en", year, "new")
				if want := renamedBy(list, int64(i), year, "new"); code != impl.ErrNone || !slices.Equal(got, want) || !impl.AreNames(got) {
					t.Errorf("RenameIn of %d names in %d = %v, %d", number, year, got, code)
				}
			}
		}
		refusedRename(t, list, "en", -1, "new", impl.ErrNotFound)
		refusedRename(t, list, "en", 10*int64(number), "new", impl.ErrNotFound)
		refusedRename(t, list, "de", 5, "new", impl.ErrNotFound)
	}
}

// Chapter 9 guarantees that renaming changes no year before; after the last year of the name, and for other names, nothing changes either.
func TestRenamingChangesNoYearBefore(t *testing.T) {
	for _, list := range listsOfNames() {
		if !impl.AreNames(list) {
			continue
		}
		for year := int64(0); year <= 4; year++ {
			for _, language := range []string{"en", "de"} {
				places := officialBy(list, language, year)
				if len(places) == 0 {
					refusedRename(t, list, language, year, "new", impl.ErrNotFound)
					continue
				}
				got, code := impl.RenameIn(list, language, year, "new")
				if code != impl.ErrNone || !impl.AreNames(got) || !slices.Equal(got, renamedBy(list, places[0], year, "new")) {
					t.Fatalf("RenameIn(%v, %q, %d) = %v, %d", list, language, year, got, code)
				}
				checkRenaming(t, list, got, places[0], year)
			}
		}
	}
}

func checkRenaming(t *testing.T, list, renamed []impl.Name, place, from int64) {
	t.Helper()
	changed := slices.Clone(list)
	changed[place].Text = "new"
	for year := int64(0); year <= 4; year++ {
		want := toldIn(list, year)
		if year >= from {
			want = toldIn(changed, year)
		}
		if got := toldIn(renamed, year); !slices.Equal(got, want) {
			t.Fatalf("%v, renamed in %d to %v, tells %q of %d, want %q", list, from, renamed, got, year, want)
		}
	}
}

func TestLanguagesOf(t *testing.T) {
	cases := []struct {
		list []impl.Name
		want []string
	}{
		{nil, nil}, {[]impl.Name{}, nil}, {[]impl.Name{named("ash", "en", 1, 0, 9)}, []string{"en"}}, {[]impl.Name{named("ash", "en", 2, 0, 9), named("elm", "de", 0, 0, 9)}, []string{"de", "en"}}, {[]impl.Name{named("ash", "de", 0, 0, 9), named("elm", "en", 0, 0, 9)}, []string{"de", "en"}},
		{[]impl.Name{named("ash", "en", 0, 0, 9), named("elm", "de", 1, 5, 9), named("oak", "en", 0, 10, 19), named("oak", "en", 1, 10, 19), named("elm", "de", 1, 5, 9)}, []string{"de", "en"}},
		{[]impl.Name{named("ash", "eng", 0, 0, 9), named("elm", "en", 0, 0, 9), named("oak", "fr", 0, 0, 9), named("yew", "enf", 0, 0, 9), named("yew", "aaa", 0, 0, 9)}, []string{"aaa", "en", "enf", "eng", "fr"}},
		{manyNames(impl.MaxNames), []string{"en"}},
	}
	for _, c := range cases {
		if got, code := impl.LanguagesOf(c.list); code != impl.ErrNone || !slices.Equal(got, c.want) {
			t.Errorf("LanguagesOf of %s = %q, %d, want %q", fewNames(c.list), got, code, c.want)
		}
	}
	var full []impl.Name
	var want []string
	for i := range impl.MaxNames {
		language := wordOf(string(rune('z'-i)), 2)
		full = append(full, named("ash", language, 0, 0, 9))
		want = append([]string{language}, want...)
	}
	if got, code := impl.LanguagesOf(full); code != impl.ErrNone || !slices.Equal(got, want) {
		t.Errorf("LanguagesOf of %d languages = %q, %d, want %q", len(full), got, code, want)
	}
}

func TestOfficialYears(t *testing.T) {
	list := []impl.Name{named("ash", "en", 0, 1300, 1400), named("elm", "en", 0, 1200, 1299), named("oak", "en", 1, 1000, 2000), named("yew", "en", 0, 1402, 1402), named("fir", "de", 0, 1401, 1401), named("box", "en", 2, 1401, 1401), named("bay", "fr", 0, firstYear, 0), named("hop", "fr", 0, 1, lastYear), named("hop", "it", 1, 1, 2)}
	cases := map[string][]impl.Span{
		"en": {span(1200, 1400), span(1402, 1402)}, "de": {span(1401, 1401)}, "fr": {span(firstYear, lastYear)}, "it": nil, "xx": nil, "eng": nil, "deu": nil,
	}
	for language, want := range cases {
		got, code := impl.OfficialYears(list, language)
		wantSpans(t, "OfficialYears "+language, got, code, want)
	}
	got, code := impl.OfficialYears(nil, "en")
	wantSpans(t, "OfficialYears of no names", got, code, nil)
	got, code = impl.OfficialYears(manyNames(impl.MaxNames), "en")
	wantSpans(t, "OfficialYears of names that touch", got, code, []impl.Span{span(0, 119)})
	// As many spans as a set of years may have, from names in their order and backwards.
	spans := everyOther(firstYear, impl.MaxSpans)
	var apart []impl.Name
	for _, s := range spans {
		apart = append(apart, named("ash", "en", 0, s.From, s.To))
	}
	for range 2 {
		got, code = impl.OfficialYears(apart, "en")
		wantSpans(t, "OfficialYears of names apart", got, code, spans)
		slices.Reverse(apart)
	}
}

func TestOfficialYearsAreAll(t *testing.T) {
	for _, list := range listsOfNames() {
		if !impl.AreNames(list) {
			continue
		}
		got, code := impl.OfficialYears(list, "en")
		if code != impl.ErrNone || !impl.AreYears(got) {
			t.Fatalf("OfficialYears(%v) = %v, %d", list, got, code)
		}
		for year := int64(0); year <= 4; year++ {
			if has, _ := impl.HasYear(got, year); has != (len(officialBy(list, "en", year)) > 0) {
				t.Fatalf("OfficialYears(%v) = %v", list, got)
			}
		}
	}
}

func TestNameText(t *testing.T) {
	cases := map[string]impl.Name{
		"old ash/en/0/1200..1400": named("old ash", "en", 0, 1200, 1400), "esche/de/1/1300..1350": named("esche", "de", 1, 1300, 1350), "fraxinus/lat/2/-50..476": named("fraxinus", "lat", 2, -50, 476),
		"a/zz/0/0..0": named("a", "zz", 0, 0, 0), "en/eng/2/-3000..3000": named("en", "eng", 2, firstYear, lastYear), "a b c d e f g h/en/1/-1..-1": named("a b c d e f g h", "en", 1, -1, -1),
	}
	for want, n := range cases {
		if got, code := impl.NameText(n); code != impl.ErrNone || got != want {
			t.Errorf("NameText(%v) = %q, %d, want %q", n, got, code, want)
		}
		if got, code := impl.ReadName(want); code != impl.ErrNone || got != n {
			t.Errorf("ReadName(%q) = %v, %d, want %v", want, got, code, n)
		}
	}
	for _, n := range notNames() {
		if got, code := impl.NameText(n); code != impl.ErrInvalid || got != "" {
			t.Errorf("NameText(%.120s) = %q, %d", fmt.Sprint(n), got, code)
		}
	}
}

// Promise 1: names are recovered from their texts.
func TestNamesAreRecovered(t *testing.T) {
	texts := map[string]impl.Name{}
	for _, n := range someNames() {
		s, code := impl.NameText(n)
		wantCode(t, "NameText", code, impl.ErrNone)
		if other, twice := texts[s]; twice && other != n {
			t.Errorf("%v and %v have the text %q", other, n, s)
		}
		texts[s] = n
		if got, code := impl.ReadName(s); code != impl.ErrNone || got != n {
			t.Errorf("ReadName(%q) = %v, %d, want %v", s, got, code, n)
		}
	}
}

func TestReadNameRefuses(t *testing.T) {
	texts := []string{
		"", "/", "//", "///", "////", "ash", "ash/en/0", "ash/en/1200..1400", "en/0/1200..1400", "ash/0/1200..1400", "ash/en/0/1200..1400/", "/ash/en/0/1200..1400", "ash//en/0/1200..1400", "ash/en//0/1200..1400", "ash/en/0//1200..1400", "ash/en/0/1200/..1400", "old/ash/en/0/1200..1400", "ash/en/0/1200..1400/0",
		"/en/0/1200..1400", "ash//0/1200..1400", "ash/en//1200..1400", "ash/en/0/", "ash/en/0/..", "ash/en/0/1200..", "ash/en/0/..1400", "ash/en/0/1200", "ash/en/0/1200.1400", "ash/en/0/1200...1400", "ash/en/0/1200..1300..1400", "ash/en/0/1200-1400", "ash/en/0/1200,1400",
		"ash/en/00/1200..1400", "ash/en/01/1200..1400", "ash/en/+1/1200..1400", "ash/en/-0/1200..1400", "ash/en/-1/1200..1400", "ash/en/3/1200..1400", "ash/en/10/1200..1400", "ash/en/256/1200..1400", "ash/en/4294967296/1200..1400", "ash/en/18446744073709551616/1200..1400", "ash/en/x/1200..1400", "ash/en/0x0/1200..1400", "ash/en/0.0/1200..1400", "ash/en/0 /1200..1400", "ash/en/ 0/1200..1400", "ash/en/official/1200..1400",
		"ash/en/0/01200..1400", "ash/en/0/1200..01400", "ash/en/0/00..1400", "ash/en/0/-0..1400", "ash/en/0/+1..1400", "ash/en/0/-3001..1400", "ash/en/0/1200..3001", "ash/en/0/1400..1200", "ash/en/0/x..1400", "ash/en/0/1200..x", "ash/en/0/ 1200..1400", "ash/en/0/1200..1400 ", "ash/en/0/1200..1400\n", "ash/en/0/1_200..1400",
		" ash/en/0/1200..1400", "ash /en/0/1200..1400", "ash/ en/0/1200..1400", "ash/en /0/1200..1400", "ash en 0 1200..1400", "ash\\en\\0\\1200..1400", "-", ".", "1200..1400", strings.Repeat("/", 5000), strings.Repeat("ash/en/0/1200..1400", 500), "ash/en/0/1200..1400\x00",
	}
	for _, s := range notPhrases() {
		texts = append(texts, s+"/en/0/1200..1400")
	}
	for _, s := range notLanguages() {
		texts = append(texts, "ash/"+s+"/0/1200..1400")
	}
	for _, s := range notSpans() {
		texts = append(texts, fmt.Sprintf("ash/en/0/%d..%d", s.From, s.To))
	}
	for _, status := range statusesOut() {
		texts = append(texts, fmt.Sprintf("ash/en/%d/1200..1400", status))
	}
	for _, s := range texts {
		if got, code := impl.ReadName(s); code != impl.ErrSyntax || got != (impl.Name{}) {
			t.Errorf("ReadName(%.80q) = %v, %d", s, got, code)
		}
	}
}

var nameShape = regexp.MustCompile(`\A([a-z]{1,16}(?: [a-z]{1,16}){0,7})/([a-z]{2,3})/([012])/(0|-?[1-9][0-9]{0,5})\.\.(0|-?[1-9][0-9]{0,5})\z`)

// nameIn reads the text of a name by its shape.
func nameIn(s string) (impl.Name, bool) {
	parts := nameShape.FindStringSubmatch(s)
	if parts == nil {
		return impl.Name{}, false
	}
	var numbers [3]int64
	for i, part := range parts[3:] {
		numbers[i], _ = strconv.ParseInt(part, 10, 64)
	}
	n := named(parts[1], parts[2], numbers[0], numbers[1], numbers[2])
	return n, firstYear <= n.Years.From && n.Years.From <= n.Years.To && n.Years.To <= lastYear
}

// editsOf returns all texts that differ from s by one character left out, replaced or put in.
func editsOf(s string, characters string) []string {
	var all []string
	for i := range len(s) + 1 {
		for _, c := range characters {
			all = append(all, s[:i]+string(c)+s[i:])
			if i < len(s) {
				all = append(all, s[:i]+string(c)+s[i+1:])
			}
		}
		if i < len(s) {
			all = append(all, s[:i]+s[i+1:])
		}
	}
	return all
}

// Texts that differ a little from that of a name are read if they have the shape of one, and are then the text of what is read.
func TestReadNameReadsTextsAlone(t *testing.T) {
	texts := []string{"old ash/en/0/1200..1400", "a/de/1/-10..0", "a/eng/2/0..0", "ash/en/2/-3000..3000", wordOf("z", impl.MaxWord) + "/en/0/9..10", phraseOf("a", impl.MaxPhrase) + "/enz/0/-2..-1"}
	for _, text := range texts {
		for _, s := range append(editsOf(text, "/ .-+0123az\x00\n"), text) {
			want, isText := nameIn(s)
			got, code := impl.ReadName(s)
			if !isText {
				if code != impl.ErrSyntax || got != (impl.Name{}) {
					t.Errorf("ReadName(%q) = %v, %d", s, got, code)
				}
				continue
			}
			back, two := impl.NameText(got)
			if code != impl.ErrNone || two != impl.ErrNone || got != want || back != s {
				t.Errorf("ReadName(%q) = %v, %d, and back %q, %d", s, got, code, back, two)
			}
		}
	}
}

func refusedRename(t *testing.T, list []impl.Name, language string, year int64, text string, code int64) {
	t.Helper()
	if got, one := impl.RenameIn(list, language, year, text); one != code || len(got) != 0 {
		t.Errorf("RenameIn of %s with %.30q in %d to %.30q = %v, %d, want %d", fewNames(list), language, year, text, got, one, code)
	}
}

func refusedUse(t *testing.T, list []impl.Name, year, code int64) {
	t.Helper()
	if got, one := impl.UsedIn(list, year); one != code || len(got) != 0 {
		t.Errorf("UsedIn of %s in %d = %v, %d, want %d", fewNames(list), year, got, one, code)
	}
}

func refusedOfficial(t *testing.T, list []impl.Name, language string, year, code int64) {
	t.Helper()
	if got, one := impl.OfficialIn(list, language, year); one != code || got != 0 {
		t.Errorf("OfficialIn of %s with %.30q in %d = %d, %d, want %d", fewNames(list), language, year, got, one, code)
	}
}

func refusedBest(t *testing.T, list []impl.Name, languages []string, year, code int64) {
	t.Helper()
	if got, one := impl.BestIn(list, languages, year); one != code || got != 0 {
		t.Errorf("BestIn of %s with %.60q in %d = %d, %d, want %d", fewNames(list), languages, year, got, one, code)
	}
}

func refusedOfficialYears(t *testing.T, list []impl.Name, language string) {
	t.Helper()
	if got, code := impl.OfficialYears(list, language); code != impl.ErrInvalid || len(got) != 0 {
		t.Errorf("OfficialYears of %s with %.30q = %v, %d", fewNames(list), language, got, code)
	}
}

// Lists that are no names are told before years out of range and names that are missing or too many.
func TestNamesRefuseLists(t *testing.T) {
	for _, list := range notNameLists() {
		for _, year := range append(yearsOut(), 0, 5, 1300, lastYear) {
			refusedUse(t, list, year, impl.ErrInvalid)
			for _, language := range []string{"en", "xx", "", "e", "EN"} {
				refusedOfficial(t, list, language, year, impl.ErrInvalid)
				refusedBest(t, list, []string{language}, year, impl.ErrInvalid)
				refusedRename(t, list, language, year, "new", impl.ErrInvalid)
				refusedRename(t, list, language, year, "", impl.ErrInvalid)
			}
			refusedBest(t, list, nil, year, impl.ErrInvalid)
		}
		refusedOfficialYears(t, list, "en")
		refusedOfficialYears(t, list, "xx")
		refusedOfficialYears(t, list, "")
		if got, code := impl.LanguagesOf(list); code != impl.ErrInvalid || len(got) != 0 {
			t.Errorf("LanguagesOf of %s = %q, %d", fewNames(list), got, code)
		}
	}
}

// Languages and phrases that are none are told before years out of range, and those before names that are missing.
func TestNamesRefuseLanguagesAndYears(t *testing.T) {
	for _, list := range [][]impl.Name{nil, {named("ash", "en", 0, firstYear, lastYear)}, manyNames(impl.MaxNames)} {
		for _, year := range append(yearsOut(), firstYear, 0, 5, lastYear) {
			for _, s := range notLanguages() {
				refusedOfficial(t, list, s, year, impl.ErrInvalid)
				refusedRename(t, list, s, year, "new", impl.ErrInvalid)
				refusedRename(t, list, s, year, "", impl.ErrInvalid)
				for _, languages := range [][]string{{s}, {"en", s}, {s, "en"}, {"xx", s, "en"}, {"en", "en", s}} {
					refusedBest(t, list, languages, year, impl.ErrInvalid)
				}
				refusedOfficialYears(t, list, s)
			}
			for _, s := range notPhrases() {
				refusedRename(t, list, "en", year, s, impl.ErrInvalid)
				refusedRename(t, list, "xx", year, s, impl.ErrInvalid)
			}
		}
		for _, year := range yearsOut() {
			refusedUse(t, list, year, impl.ErrRange)
			for _, language := range []string{"en", "xx"} {
				refusedOfficial(t, list, language, year, impl.ErrRange)
				refusedBest(t, list, []string{language}, year, impl.ErrRange)
				refusedRename(t, list, language, year, "new", impl.ErrRange)
			}
			refusedBest(t, list, nil, year, impl.ErrRange)
		}
	}
}

func TestNamesKeepArguments(t *testing.T) {
	first, spare := []impl.Name{named("ash", "en", 0, 1200, 1400), named("elm", "de", 0, 1300, 1400), named("oak", "de", 0, 1200, 1299), named("yew", "en", 1, 1200, 1400)}, named("spare", "xx", 0, 0, 0)
	list, memory := withSpare(first, spare)
	languages, memoryOfLanguages := withSpare([]string{"fr", "de", "en"}, "spare")
	impl.AreNames(list)
	impl.UsedIn(list, 1300)
	impl.OfficialIn(list, "de", 1300)
	impl.BestIn(list, languages, 1300)
	impl.LanguagesOf(list)
	impl.OfficialYears(list, "de")
	for _, year := range []int64{1200, 1299, 1300, 1301, 1400} {
		impl.RenameIn(list, "en", year, "new")
		impl.RenameIn(list, "de", year, "new")
	}
	if !slices.Equal(memory, append(first, spare, spare)) {
		t.Errorf("the names were changed: %v", memory)
	}
	if !slices.Equal(memoryOfLanguages, []string{"fr", "de", "en", "spare", "spare"}) {
		t.Errorf("the languages were changed: %q", memoryOfLanguages)
	}
}

func TestNamesResultsAreNew(t *testing.T) {
	list := []impl.Name{named("ash", "en", 0, 1200, 1400), named("elm", "de", 0, 1300, 1400)}
	used, _ := impl.UsedIn(list, 1300)
	languages, _ := impl.LanguagesOf(list)
	years, _ := impl.OfficialYears(list, "de")
	renamed, _ := impl.RenameIn(list, "en", 1200, "new")
	further, _ := impl.RenameIn(list, "en", 1300, "new")
	used[0], languages[0], years[0] = 7, "changed", span(0, 0)
	for i := range renamed {
		renamed[i].Text = "changed"
	}
	for i := range further {
		further[i].Text = "changed"
	}
	if !slices.Equal(list, []impl.Name{named("ash", "en", 0, 1200, 1400), named("elm", "de", 0, 1300, 1400)}) {
		t.Errorf("the names are %v after results were changed", list)
	}
	if again, _ := impl.UsedIn(list, 1300); !slices.Equal(again, []int64{0, 1}) {
		t.Errorf("UsedIn = %v after a result was changed", again)
	}
	if again, _ := impl.LanguagesOf(list); !slices.Equal(again, []string{"de", "en"}) {
		t.Errorf("LanguagesOf = %q after a result was changed", again)
	}
	if again, _ := impl.OfficialYears(list, "de"); !slices.Equal(again, []impl.Span{span(1300, 1400)}) {
		t.Errorf("OfficialYears = %v after a result was changed", again)
	}
}

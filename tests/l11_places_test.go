package tests

import (
	"cmp"
	"fmt"
	"slices"
	"testing"

	"loop.example/g01030/impl"
)

func placed(code string, class, from, to int64, names ...impl.Name) impl.Place {
	return impl.Place{Code: code, Class: class, Years: span(from, to), Names: names}
}

func samePlace(a, b impl.Place) bool {
	return a.Code == b.Code && a.Class == b.Class && a.Years == b.Years && slices.Equal(a.Names, b.Names)
}

func sameRegister(a, b []impl.Place) bool { return slices.EqualFunc(a, b, samePlace) }

// copyOfPlaces returns places that share no memory with those of a list.
func copyOfPlaces(list []impl.Place) []impl.Place {
	var all []impl.Place
	for _, p := range list {
		all = append(all, placed(p.Code, p.Class, p.Years.From, p.Years.To, slices.Clone(p.Names)...))
	}
	return all
}

// fewPlaces names a list by its length and its first places.
func fewPlaces(list []impl.Place) string {
	return fmt.Sprintf("%d places %.160s", len(list), fmt.Sprint(list[:min(len(list), 3)]))
}

// somePlaces returns places with all kinds of codes, names and years, and classes at their limits.
func somePlaces() []impl.Place {
	all := []impl.Place{
		placed("ash", 3, 1000, 2000), placed("ash", 0, 1000, 2000, named("ashby", "en", 0, 1000, 2000)), placed("ash", impl.MaxClasses-1, 1000, 2000, named("ashby", "en", 0, 1001, 1999)),
		placed("a", 1, firstYear, lastYear, named("a", "en", 0, firstYear, firstYear), named("a", "en", 1, lastYear, lastYear)), placed("z", 2, firstYear, firstYear, named("z", "zz", 2, firstYear, firstYear)), placed("zz", 2, lastYear, lastYear, named("z", "zz", 2, lastYear, lastYear)),
		placed("elm", 5, 7, 7, named("elm", "en", 0, 7, 7), named("elm", "en", 1, 7, 7), named("elm", "de", 0, 7, 7)), placed("elm", 5, -7, -5, named("elm", "en", 0, -7, -7), named("oak", "en", 0, -6, -5)),
		{Code: "ash", Years: span(0, 0), Names: []impl.Name{}},
	}
	for class := range int64(impl.MaxClasses) {
		all = append(all, placed("ash", class, 0, 1))
	}
	for _, s := range someWords() {
		all = append(all, placed(s, 0, 0, 1))
	}
	for _, s := range validSpans() {
		all = append(all, placed("ash", 0, s.From, s.To, named("ash", "en", 0, s.From, s.To)))
	}
	for _, list := range someNameLists() {
		all = append(all, placed("ash", 0, firstYear, lastYear, list...))
	}
	return all
}

// notPlaces returns places that break the description of a place, each in one way.
func notPlaces() []impl.Place {
	all := []impl.Place{
		{}, {Code: "ash", Years: span(0, -1)}, placed("ash", -1, 0, 1), placed("ash", impl.MaxClasses, 0, 1), placed("", 0, 0, 1),
		// Years of a name that begin a year before the place, end a year after it, or both, and those that do not meet it.
		placed("ash", 0, 1000, 2000, named("ash", "en", 0, 999, 2000)), placed("ash", 0, 1000, 2000, named("ash", "en", 0, 1000, 2001)), placed("ash", 0, 1000, 2000, named("ash", "en", 0, 999, 2001)), placed("ash", 0, 1000, 2000, named("ash", "en", 1, 999, 1000)), placed("ash", 0, 1000, 2000, named("ash", "en", 2, 2000, 2001)),
		placed("ash", 0, 1000, 2000, named("ash", "en", 0, 999, 999)), placed("ash", 0, 1000, 2000, named("ash", "en", 0, 2001, 2001)), placed("ash", 0, 1000, 2000, named("ash", "en", 0, firstYear, lastYear)), placed("ash", 0, 7, 7, named("ash", "en", 0, 6, 7)), placed("ash", 0, 7, 7, named("ash", "en", 0, 7, 8)),
		placed("ash", 0, firstYear+1, lastYear, named("ash", "en", 0, firstYear, lastYear)), placed("ash", 0, firstYear, lastYear-1, named("ash", "en", 0, firstYear, lastYear)),
		// Only one of several names lies not within the years.
		placed("ash", 0, 1000, 2000, named("ash", "en", 0, 1000, 2000), named("ash", "de", 0, 999, 2000)), placed("ash", 0, 1000, 2000, named("ash", "en", 0, 1000, 2001), named("ash", "de", 0, 1000, 2000)), placed("ash", 0, 0, 118, manyNames(impl.MaxNames)...), placed("ash", 0, 1, 119, manyNames(impl.MaxNames)...),
	}
	for _, class := range append(classesOut(chainOf(impl.MaxClasses)), -2, 21) {
		all = append(all, placed("ash", class, 0, 1))
	}
	for _, s := range notWords() {
		all = append(all, placed(s, 0, 0, 1))
	}
	for _, s := range notSpans() {
		all = append(all, placed("ash", 0, s.From, s.To), placed("ash", 0, s.From, s.To, named("ash", "en", 0, s.From, s.To)), placed("ash", 0, s.From, s.To, named("ash", "en", 0, 0, 1)))
	}
	for _, list := range notNameLists() {
		all = append(all, placed("ash", 0, firstYear, lastYear, list...))
	}
	return all
}

// manyPlaces returns places b, d, f and so on with two names each, of which one is that of all places.
func manyPlaces(number int) []impl.Place {
	all := make([]impl.Place, number)
	for i := range all {
		code, from := string(rune('b'+2*i)), 10*int64(i)
		all[i] = placed(code, int64(i), from, 500, named(code, "en", 0, from, from+9), named("all", "de", 1, from, 500))
	}
	return all
}

// smallRegister returns three places, of which the first two share years and texts, and the last one is later.
func smallRegister() []impl.Place {
	return []impl.Place{
		placed("ash", 3, 1000, 1500, named("ashby", "en", 0, 1000, 1299), named("newton", "en", 0, 1300, 1500), named("newton", "de", 1, 1200, 1400)),
		placed("elm", 1, 1200, 1200, named("newton", "en", 0, 1200, 1200), named("elmau", "de", 2, 1200, 1200)),
		placed("oak", 5, 1501, lastYear, named("ashby", "en", 0, 1501, 1600), named("newton", "en", 2, 1601, 1700), named("oak hill", "fr", 0, lastYear, lastYear)),
	}
}

func someRegisters() [][]impl.Place {
	all := [][]impl.Place{
		nil, {}, smallRegister(), manyPlaces(impl.MaxPlaces - 1), manyPlaces(impl.MaxPlaces), {placed("a", 0, 0, 1), placed("aa", 0, 0, 1), placed("ab", 0, 0, 1), placed("b", 0, 0, 1)},
		// Equal places but for their codes.
		{placed("ash", 0, 0, 1, named("a", "en", 0, 0, 1)), placed("elm", 0, 0, 1, named("a", "en", 0, 0, 1))},
	}
	for _, p := range somePlaces() {
		all = append(all, []impl.Place{p})
	}
	return all
}

func notRegisters() [][]impl.Place {
	full := manyPlaces(impl.MaxPlaces)
	swapped := manyPlaces(impl.MaxPlaces)
	swapped[8], swapped[9] = swapped[9], swapped[8]
	all := [][]impl.Place{
		manyPlaces(impl.MaxPlaces + 1), slices.Repeat(full, 500), swapped, append(manyPlaces(impl.MaxPlaces-1), full[0]), append(full[:1:1], full[:9]...),
		// Two places with one code, equal or not, side by side or not.
		{placed("ash", 0, 0, 1), placed("ash", 0, 0, 1)}, {placed("ash", 0, 0, 1), placed("ash", 1, 5, 9)}, {placed("ash", 0, 0, 1), placed("elm", 0, 0, 1), placed("elm", 0, 7, 8)}, {placed("ash", 0, 0, 1), placed("elm", 0, 0, 1), placed("ash", 0, 0, 1)},
		// Places in the wrong order.
		{placed("elm", 0, 0, 1), placed("ash", 0, 0, 1)}, {placed("aa", 0, 0, 1), placed("a", 0, 0, 1)}, {placed("b", 0, 0, 1), placed("aa", 0, 0, 1)}, {placed("ash", 0, 0, 1), placed("oak", 0, 0, 1), placed("elm", 0, 0, 1)}, {placed("elm", 0, 0, 1), placed("ash", 0, 0, 1), placed("oak", 0, 0, 1)},
	}
	for _, p := range notPlaces() {
		all = append(all, []impl.Place{p}, []impl.Place{placed("aaa", 0, 0, 1), p}, []impl.Place{p, placed("zzz", 0, 0, 1)}, []impl.Place{placed("aaa", 0, 0, 1), p, placed("zzz", 0, 0, 1)})
	}
	return all
}

// placesOver returns all places with at most some names with two texts in the years 1 to 3.
func placesOver(code string, most int) []impl.Place {
	var all []impl.Place
	for from := int64(1); from <= 3; from++ {
		for to := from; to <= 3; to++ {
			lists := [][]impl.Name{nil}
			for first := 0; len(lists[first]) < most; first++ {
				for _, text := range []string{"a", "b"} {
					for begin := from; begin <= to; begin++ {
						for end := begin; end <= to; end++ {
							lists = append(lists, append(slices.Clone(lists[first]), named(text, "e"+text, impl.StatusVariant, begin, end)))
						}
					}
				}
			}
			for _, list := range lists {
				all = append(all, placed(code, from+to, from, to, list...))
			}
		}
	}
	return all
}

// registersOver returns all registers of at most two small places, of which the second one has at most one name.
func registersOver() [][]impl.Place {
	all := [][]impl.Place{nil}
	for _, p := range placesOver("ash", 2) {
		all = append(all, []impl.Place{p})
		for _, other := range placesOver("elm", 1) {
			all = append(all, []impl.Place{p, other})
		}
	}
	return all
}

func existsBy(p impl.Place, year int64) bool { return p.Years.From <= year && year <= p.Years.To }

func codesBy(list []impl.Place, isMeant func(p impl.Place) bool) []string {
	var all []string
	for _, p := range list {
		if isMeant(p) {
			all = append(all, p.Code)
		}
	}
	return all
}

// placesBy returns for each text the codes of the places with a name with this text in a year, each once.
func placesBy(list []impl.Place, year int64) map[string][]string {
	all := map[string][]string{}
	for _, p := range list {
		for _, i := range usedBy(p.Names, year) {
			if text := p.Names[i].Text; !slices.Contains(all[text], p.Code) {
				all[text] = append(all[text], p.Code)
			}
		}
	}
	return all
}

func homonymsBy(list []impl.Place, year int64) []string {
	var all []string
	for text, codes := range placesBy(list, year) {
		if len(codes) > 1 {
			all = append(all, text)
		}
	}
	slices.Sort(all)
	return all
}

func nameBy(p impl.Place, languages []string, year int64) string {
	if best, isNamed := bestBy(p.Names, languages, year); isNamed {
		return p.Names[best].Text
	}
	return p.Code
}

// endedBy returns the places of which one ends before a year at the latest.
func endedBy(list []impl.Place, place int, year int64) []impl.Place {
	all := copyOfPlaces(list)
	p := &all[place]
	p.Years.To = min(p.Years.To, year-1)
	p.Names = slices.DeleteFunc(p.Names, func(n impl.Name) bool { return n.Years.From >= year })
	for i := range p.Names {
		p.Names[i].Years.To = min(p.Names[i].Years.To, year-1)
	}
	return all
}

func TestPlacesLimit(t *testing.T) {
	if impl.MaxPlaces != 10 {
		t.Errorf("MaxPlaces = %d", impl.MaxPlaces)
	}
}

func TestIsPlace(t *testing.T) {
	for _, p := range somePlaces() {
		if !impl.IsPlace(p) {
			t.Errorf("IsPlace(%.160s) = false", fmt.Sprint(p))
		}
	}
	for _, p := range notPlaces() {
		if impl.IsPlace(p) {
			t.Errorf("IsPlace(%.160s) = true", fmt.Sprint(p))
		}
	}
	// The names of a place lie within its years, whatever these are.
	for _, years := range validSpans() {
		for _, named := range []impl.Span{span(firstYear, firstYear), span(-1, 1), span(0, 0), span(1, 2), span(1000, lastYear-1), span(lastYear, lastYear)} {
			p := impl.Place{Code: "ash", Years: years, Names: []impl.Name{{Text: "ash", Language: "en", Years: named}}}
			if got, want := impl.IsPlace(p), years.From <= named.From && named.To <= years.To; got != want {
				t.Errorf("IsPlace(%v) = %v", p, got)
			}
		}
	}
}

func TestIsRegister(t *testing.T) {
	for _, list := range someRegisters() {
		if !impl.IsRegister(list) {
			t.Errorf("IsRegister of %s = false", fewPlaces(list))
		}
	}
	for _, list := range notRegisters() {
		if impl.IsRegister(list) {
			t.Errorf("IsRegister of %s = true", fewPlaces(list))
		}
	}
	codes := []string{"a", "aa", "ab", "b", "ba"}
	for _, first := range codes {
		for _, second := range codes {
			for _, third := range codes {
				list := []impl.Place{placed(first, 0, 0, 1), placed(second, 0, 0, 1), placed(third, 0, 0, 1)}
				if got, want := impl.IsRegister(list), first < second && second < third; got != want {
					t.Errorf("IsRegister with %q, %q and %q = %v", first, second, third, got)
				}
			}
		}
	}
}

func TestFindPlace(t *testing.T) {
	list := smallRegister()
	cases := map[string]int64{"ash": 0, "elm": 1, "oak": 2, "a": -1, "as": -1, "ashb": -1, "asi": -1, "elk": -1, "elma": -1, "oaj": -1, "oaks": -1, "zzz": -1, "ashby": -1, "newton": -1, wordOf("z", impl.MaxWord): -1}
	for code, want := range cases {
		got, failure := impl.FindPlace(list, code)
		if want < 0 && (failure != impl.ErrNotFound || got != 0) || want >= 0 && (failure != impl.ErrNone || got != want) {
			t.Errorf("FindPlace(%q) = %d, %d, want %d", code, got, failure, want)
		}
	}
	for number := range impl.MaxPlaces + 1 {
		many := manyPlaces(number)
		for letter := 'a'; letter <= 'z'; letter++ {
			got, failure := impl.FindPlace(many, string(letter))
			want := slices.IndexFunc(many, func(p impl.Place) bool { return p.Code == string(letter) })
			if want < 0 && (failure != impl.ErrNotFound || got != 0) || want >= 0 && (failure != impl.ErrNone || got != int64(want)) {
				t.Errorf("FindPlace of %d places, %q = %d, %d, want %d", number, letter, got, failure, want)
			}
		}
	}
}

func TestPlacesIn(t *testing.T) {
	cases := []struct {
		year int64
		want []string
	}{
		{firstYear, nil}, {999, nil}, {1000, []string{"ash"}}, {1001, []string{"ash"}}, {1199, []string{"ash"}}, {1200, []string{"ash", "elm"}}, {1201, []string{"ash"}}, {1499, []string{"ash"}}, {1500, []string{"ash"}}, {1501, []string{"oak"}}, {2000, []string{"oak"}}, {lastYear, []string{"oak"}},
	}
	for _, c := range cases {
		if got, failure := impl.PlacesIn(smallRegister(), c.year); failure != impl.ErrNone || !slices.Equal(got, c.want) {
			t.Errorf("PlacesIn(%d) = %q, %d, want %q", c.year, got, failure, c.want)
		}
	}
	for _, list := range someRegisters() {
		for _, year := range []int64{firstYear, firstYear + 1, -6, -1, 0, 1, 2, 7, 90, 500, 501, lastYear - 1, lastYear} {
			want := codesBy(list, func(p impl.Place) bool { return existsBy(p, year) })
			if got, failure := impl.PlacesIn(list, year); failure != impl.ErrNone || !slices.Equal(got, want) {
				t.Errorf("PlacesIn of %s in %d = %q, %d, want %q", fewPlaces(list), year, got, failure, want)
			}
		}
	}
}

func TestPlacesNamed(t *testing.T) {
	list := smallRegister()
	cases := []struct {
		text string
		year int64
		want []string
	}{
		{"ashby", 999, nil}, {"ashby", 1000, []string{"ash"}}, {"ashby", 1299, []string{"ash"}}, {"ashby", 1300, nil}, {"ashby", 1500, nil}, {"ashby", 1501, []string{"oak"}}, {"ashby", 1600, []string{"oak"}}, {"ashby", 1601, nil},
		{"newton", 1199, nil}, {"newton", 1200, []string{"ash", "elm"}}, {"newton", 1201, []string{"ash"}}, {"newton", 1400, []string{"ash"}}, {"newton", 1401, []string{"ash"}}, {"newton", 1500, []string{"ash"}}, {"newton", 1501, nil}, {"newton", 1601, []string{"oak"}}, {"newton", 1701, nil},
		{"elmau", 1200, []string{"elm"}}, {"elmau", 1201, nil}, {"oak hill", lastYear, []string{"oak"}}, {"oak hill", lastYear - 1, nil}, {"oak hill", firstYear, nil},
		// Codes and parts of a text are no names.
		{"ash", 1200, nil}, {"oak", lastYear, nil}, {"hill", lastYear, nil}, {"new", 1200, nil}, {"newton a", 1200, nil},
	}
	for _, c := range cases {
		if got, failure := impl.PlacesNamed(list, c.text, c.year); failure != impl.ErrNone || !slices.Equal(got, c.want) {
			t.Errorf("PlacesNamed(%q, %d) = %q, %d, want %q", c.text, c.year, got, failure, c.want)
		}
	}
	full := manyPlaces(impl.MaxPlaces)
	if got, failure := impl.PlacesNamed(full, "all", 90); failure != impl.ErrNone || len(got) != impl.MaxPlaces || !slices.IsSorted(got) {
		t.Errorf("PlacesNamed of %d places = %q, %d", len(full), got, failure)
	}
	if got, failure := impl.PlacesNamed(nil, "all", 90); failure != impl.ErrNone || len(got) != 0 {
		t.Errorf("PlacesNamed of no place = %q, %d", got, failure)
	}
}

// The classes of smallRegister are 3, 1 and 5.
func TestPlacesOfKind(t *testing.T) {
	cases := []struct {
		tree        []int64
		class, year int64
		want        []string
	}{
		{smallTree(), 0, 1200, []string{"ash", "elm"}}, {smallTree(), 1, 1200, []string{"ash", "elm"}}, {smallTree(), 3, 1200, []string{"ash"}}, {smallTree(), 2, 1200, nil}, {smallTree(), 4, 1200, nil}, {smallTree(), 6, 1200, nil},
		{smallTree(), 1, 1199, []string{"ash"}}, {smallTree(), 1, 1201, []string{"ash"}}, {smallTree(), 0, 999, nil}, {smallTree(), 0, 1000, []string{"ash"}}, {smallTree(), 3, 1500, []string{"ash"}}, {smallTree(), 3, 1501, nil}, {smallTree(), 2, 1501, []string{"oak"}}, {smallTree(), 5, 1501, []string{"oak"}}, {smallTree(), 0, lastYear, []string{"oak"}}, {smallTree(), 0, firstYear, nil},
		// Classes that are none of the tree.
		{[]int64{-1}, 0, 1200, nil}, {[]int64{-1, 0}, 0, 1200, []string{"elm"}}, {[]int64{-1, 0}, 1, 1200, []string{"elm"}}, {[]int64{-1, 0, 0}, 2, 1200, nil}, {[]int64{-1, 0, 0, 0}, 0, 1200, []string{"ash", "elm"}}, {[]int64{-1, 0, 0, 0}, 1, 1200, []string{"elm"}}, {[]int64{-1, 0, 0, 0, 0}, 0, 1501, nil}, {[]int64{-1, 0, 0, 0, 0, 4}, 4, 1501, []string{"oak"}},
		{chainOf(impl.MaxClasses), 1, 1200, []string{"ash", "elm"}}, {chainOf(impl.MaxClasses), 2, 1200, []string{"ash"}}, {chainOf(impl.MaxClasses), impl.MaxClasses - 1, 1200, nil}, {starOf(impl.MaxClasses), 1, 1200, []string{"elm"}},
	}
	for _, c := range cases {
		if got, failure := impl.PlacesOfKind(smallRegister(), c.tree, c.class, c.year); failure != impl.ErrNone || !slices.Equal(got, c.want) {
			t.Errorf("PlacesOfKind(%v, %d, %d) = %q, %d, want %q", c.tree, c.class, c.year, got, failure, c.want)
		}
	}
	list := manyPlaces(impl.MaxPlaces)
	for _, tree := range someTrees() {
		is := kindTable(tree)
		for class := range int64(len(tree)) {
			for _, year := range []int64{0, 45, 90} {
				want := codesBy(list, func(p impl.Place) bool { return existsBy(p, year) && p.Class < int64(len(tree)) && is[p.Class][class] })
				if got, failure := impl.PlacesOfKind(list, tree, class, year); failure != impl.ErrNone || !slices.Equal(got, want) {
					t.Fatalf("PlacesOfKind(%v, %d, %d) = %q, %d, want %q", tree, class, year, got, failure, want)
				}
			}
		}
	}
}

func TestHomonymsIn(t *testing.T) {
	// Two names of one place with one text, a text that two places use in no common year, and texts that two or three places use.
	list := []impl.Place{
		placed("ash", 0, 1000, 1500, named("alm", "en", 0, 1000, 1500), named("yew", "en", 1, 1000, 1300), named("alm", "de", 1, 1000, 1500), named("new ash", "en", 2, 1200, 1400), named("alm", "de", 1, 1000, 1500), named("new", "en", 2, 1200, 1400)),
		placed("elm", 0, 1000, 2000, named("yew", "en", 0, 1301, 2000), named("new ash", "fr", 0, 1400, 1400), named("fir", "en", 1, 1400, 1450), named("fir", "de", 0, 1400, 1450), named("new", "fr", 1, 1300, 1400)),
		placed("oak", 0, 1000, 2000, named("fir", "en", 0, 1450, 1460), named("new", "en", 1, 1350, 1600), named("yew", "en", 1, 1600, 2000), named("yewa", "en", 1, 1600, 2000)),
	}
	cases := []struct {
		year int64
		want []string
	}{
		{firstYear, nil}, {999, nil}, {1000, nil}, {1299, nil}, {1300, []string{"new"}}, {1301, []string{"new"}}, {1350, []string{"new"}}, {1399, []string{"new"}}, {1400, []string{"new", "new ash"}}, {1401, nil}, {1449, nil}, {1450, []string{"fir"}}, {1451, nil}, {1500, nil}, {1599, nil}, {1600, []string{"yew"}}, {2000, []string{"yew"}}, {2001, nil}, {lastYear, nil},
	}
	for _, c := range cases {
		if got, failure := impl.HomonymsIn(list, c.year); failure != impl.ErrNone || !slices.Equal(got, c.want) {
			t.Errorf("HomonymsIn(%d) = %q, %d, want %q", c.year, got, failure, c.want)
		}
	}
	for year, want := range map[int64][]string{0: nil, 9: nil, 10: {"all"}, 500: {"all"}, 501: nil} {
		if got, failure := impl.HomonymsIn(manyPlaces(impl.MaxPlaces), year); failure != impl.ErrNone || !slices.Equal(got, want) {
			t.Errorf("HomonymsIn of %d places in %d = %q, %d, want %q", impl.MaxPlaces, year, got, failure, want)
		}
	}
	// Texts that are in alphabetical order neither for the places nor by their status.
	first := placed("ash", 0, 0, 9, named("c", "en", 0, 0, 9), named("a b", "en", 1, 0, 9), named("b", "en", 2, 0, 9), named("ab", "en", 1, 0, 9))
	second := placed("elm", 0, 0, 9, named("b", "en", 0, 0, 9), named("c", "en", 1, 0, 9), named("ab", "en", 1, 0, 9), named("a b", "en", 1, 0, 9), named("c", "en", 2, 0, 9))
	if got, failure := impl.HomonymsIn([]impl.Place{first, second}, 5); failure != impl.ErrNone || !slices.Equal(got, []string{"a b", "ab", "b", "c"}) {
		t.Errorf("HomonymsIn = %q, %d", got, failure)
	}
}

func TestNameOf(t *testing.T) {
	list := []impl.Place{
		placed("ash", 0, 1000, 1500, named("ashby", "en", 1, 1000, 1299), named("newton", "en", 0, 1200, 1250), named("esche", "de", 2, 1100, 1200), named("escha", "de", 2, 1100, 1200)),
		placed("elm", 0, 1000, 1500), placed("oak", 0, firstYear, lastYear, named("oakham", "en", 0, firstYear, firstYear), named("oakley", "en", 0, lastYear, lastYear)),
	}
	cases := []struct {
		code      string
		languages []string
		year      int64
		want      string
	}{
		{"ash", []string{"en"}, 1000, "ashby"}, {"ash", []string{"en"}, 1199, "ashby"}, {"ash", []string{"en"}, 1200, "newton"}, {"ash", []string{"en"}, 1250, "newton"}, {"ash", []string{"en"}, 1251, "ashby"}, {"ash", []string{"en"}, 1299, "ashby"},
		{"ash", []string{"de", "en"}, 1200, "esche"}, {"ash", []string{"de", "en"}, 1201, "newton"}, {"ash", []string{"en", "de"}, 1100, "ashby"}, {"ash", []string{"fr", "de"}, 1100, "esche"}, {"ash", []string{"fr", "fr", "en", "fr"}, 1100, "ashby"},
		{"oak", []string{"en"}, firstYear, "oakham"}, {"oak", []string{"en"}, lastYear, "oakley"}, {"oak", slices.Repeat([]string{"xx", "en"}, 500), lastYear, "oakley"},
		// Languages of which none has a name in this year, no languages, no names, and years without the place.
		{"ash", []string{"en"}, 1300, "ash"}, {"ash", []string{"de"}, 1099, "ash"}, {"ash", []string{"de"}, 1201, "ash"}, {"ash", []string{"fr", "eng"}, 1200, "ash"}, {"ash", nil, 1200, "ash"}, {"ash", []string{}, 1200, "ash"}, {"elm", []string{"en", "de"}, 1200, "elm"}, {"elm", nil, 1200, "elm"},
		{"ash", []string{"en"}, 999, "ash"}, {"ash", []string{"en"}, 1501, "ash"}, {"elm", []string{"en"}, firstYear, "elm"}, {"oak", []string{"en"}, firstYear + 1, "oak"}, {"oak", []string{"en"}, 0, "oak"},
	}
	for _, c := range cases {
		if got, failure := impl.NameOf(list, c.code, c.languages, c.year); failure != impl.ErrNone || got != c.want {
			t.Errorf("NameOf(%q, %.60q, %d) = %q, %d, want %q", c.code, c.languages, c.year, got, failure, c.want)
		}
	}
}

// In all small registers, each question about a year is answered as by looking at the places and names one by one.
func TestPlacesOfYears(t *testing.T) {
	for _, list := range registersOver() {
		for year := int64(0); year <= 4; year++ {
			want := codesBy(list, func(p impl.Place) bool { return existsBy(p, year) })
			if got, failure := impl.PlacesIn(list, year); failure != impl.ErrNone || !slices.Equal(got, want) {
				t.Fatalf("PlacesIn(%v, %d) = %q, %d, want %q", list, year, got, failure, want)
			}
			for _, text := range []string{"a", "b", "c"} {
				if got, failure := impl.PlacesNamed(list, text, year); failure != impl.ErrNone || !slices.Equal(got, placesBy(list, year)[text]) {
					t.Fatalf("PlacesNamed(%v, %q, %d) = %q, %d", list, text, year, got, failure)
				}
			}
			if got, failure := impl.HomonymsIn(list, year); failure != impl.ErrNone || !slices.Equal(got, homonymsBy(list, year)) {
				t.Fatalf("HomonymsIn(%v, %d) = %q, %d, want %q", list, year, got, failure, homonymsBy(list, year))
			}
			for _, p := range list {
				for _, languages := range [][]string{nil, {"eb"}, {"ea", "eb"}} {
					if got, failure := impl.NameOf(list, p.Code, languages, year); failure != impl.ErrNone || got != nameBy(p, languages, year) {
						t.Fatalf("NameOf(%v, %q, %q, %d) = %q, %d", list, p.Code, languages, year, got, failure)
					}
				}
			}
		}
	}
}

func TestAddPlace(t *testing.T) {
	list := smallRegister()
	for i, code := range []string{"as", "ashb", "fir", "yew", "a", "z", "ell", "elma", "oaka"} {
		p := placed(code, int64(i), 0, 9, named("newton", "en", 0, 0, 9))
		want := append(smallRegister(), p)
		slices.SortFunc(want, func(a, b impl.Place) int { return cmp.Compare(a.Code, b.Code) })
		if got, failure := impl.AddPlace(list, p); failure != impl.ErrNone || !sameRegister(got, want) {
			t.Errorf("AddPlace(%v) = %v, %d, want %v", p, got, failure, want)
		}
	}
	for _, empty := range [][]impl.Place{nil, {}} {
		for _, p := range somePlaces() {
			if got, failure := impl.AddPlace(empty, p); failure != impl.ErrNone || !sameRegister(got, []impl.Place{p}) {
				t.Errorf("AddPlace to no place, %v = %v, %d", p, got, failure)
			}
		}
	}
	// A code that is there, of the same place and of another one.
	for _, p := range list {
		for _, other := range []impl.Place{p, placed(p.Code, 7, 1, 2), placed(p.Code, 0, firstYear, lastYear, named("new", "en", 0, 5, 6))} {
			if got, failure := impl.AddPlace(list, other); failure != impl.ErrState || len(got) != 0 {
				t.Errorf("AddPlace(%v) = %v, %d", other, got, failure)
			}
		}
	}
}

// With MaxPlaces places there is no place for a further one, wherever it would be.
func TestAddPlaceToManyPlaces(t *testing.T) {
	for number := range impl.MaxPlaces + 1 {
		list := manyPlaces(number)
		for letter := 'a'; letter <= 'z'; letter++ {
			p := placed(string(letter), 0, 0, 9, named("all", "en", 0, 0, 9))
			_, missing := impl.FindPlace(list, p.Code)
			got, failure := impl.AddPlace(list, p)
			if number == impl.MaxPlaces || missing == impl.ErrNone {
				if failure != impl.ErrState || len(got) != 0 {
					t.Errorf("AddPlace to %d places, %q = %v, %d", number, letter, got, failure)
				}
				continue
			}
			want := append(manyPlaces(number), p)
			slices.SortFunc(want, func(a, b impl.Place) int { return cmp.Compare(a.Code, b.Code) })
			if failure != impl.ErrNone || !sameRegister(got, want) || !impl.IsRegister(got) {
				t.Errorf("AddPlace to %d places, %q = %v, %d, want %v", number, letter, got, failure, want)
			}
		}
	}
}

func TestEndPlace(t *testing.T) {
	list := smallRegister()
	ash, elm, oak := list[0], list[1], list[2]
	cases := []struct {
		code string
		year int64
		want []impl.Place
	}{
		// The year after the first one, in which a name of one year alone is left.
		{"ash", 1001, []impl.Place{placed("ash", 3, 1000, 1000, named("ashby", "en", 0, 1000, 1000)), elm, oak}}, {"ash", 1002, []impl.Place{placed("ash", 3, 1000, 1001, named("ashby", "en", 0, 1000, 1001)), elm, oak}},
		// A name that would begin later is left out, and one that begins in the year before is not.
		{"ash", 1200, []impl.Place{placed("ash", 3, 1000, 1199, named("ashby", "en", 0, 1000, 1199)), elm, oak}}, {"ash", 1201, []impl.Place{placed("ash", 3, 1000, 1200, named("ashby", "en", 0, 1000, 1200), named("newton", "de", 1, 1200, 1200)), elm, oak}},
		{"ash", 1300, []impl.Place{placed("ash", 3, 1000, 1299, ash.Names[0], named("newton", "de", 1, 1200, 1299)), elm, oak}}, {"ash", 1301, []impl.Place{placed("ash", 3, 1000, 1300, ash.Names[0], named("newton", "en", 0, 1300, 1300), named("newton", "de", 1, 1200, 1300)), elm, oak}},
		// The last year, the year after it, which changes nothing, and two years behind.
		{"ash", 1500, []impl.Place{placed("ash", 3, 1000, 1499, ash.Names[0], named("newton", "en", 0, 1300, 1499), ash.Names[2]), elm, oak}}, {"ash", 1501, list}, {"ash", 1502, nil}, {"ash", 1503, nil}, {"ash", lastYear, nil},
		// The first year, and years before.
		{"ash", 1000, nil}, {"ash", 999, nil}, {"ash", 0, nil}, {"ash", firstYear, nil}, {"ash", firstYear + 1, nil},
		// A place of one year alone.
		{"elm", 1200, nil}, {"elm", 1201, list}, {"elm", 1202, nil},
		// A place whose last year is the last one of all.
		{"oak", 1501, nil}, {"oak", 1502, []impl.Place{ash, elm, placed("oak", 5, 1501, 1501, named("ashby", "en", 0, 1501, 1501))}}, {"oak", lastYear, []impl.Place{ash, elm, placed("oak", 5, 1501, lastYear-1, oak.Names[:2]...)}},
	}
	for _, c := range cases {
		want := int64(impl.ErrNone)
		if c.want == nil {
			want = impl.ErrState
		}
		if got, failure := impl.EndPlace(list, c.code, c.year); failure != want || !sameRegister(got, c.want) {
			t.Errorf("EndPlace(%q, %d) = %v, %d, want %v, %d", c.code, c.year, got, failure, c.want, want)
		}
	}
	whole := []impl.Place{placed("ash", 0, firstYear, lastYear, named("ash", "en", 0, firstYear, lastYear))}
	for year, want := range map[int64]int64{firstYear + 1: impl.ErrNone, 0: impl.ErrNone, lastYear: impl.ErrNone, firstYear: impl.ErrState} {
		got, failure := impl.EndPlace(whole, "ash", year)
		if failure != want || want == impl.ErrNone && !sameRegister(got, endedBy(whole, 0, year)) || want != impl.ErrNone && len(got) != 0 {
			t.Errorf("EndPlace(%v, %d) = %v, %d", whole, year, got, failure)
		}
	}
}

// Promise 13: a place that is added is found.
func TestAddedPlacesAreFound(t *testing.T) {
	for _, list := range [][]impl.Place{nil, smallRegister(), manyPlaces(impl.MaxPlaces - 1)} {
		for _, p := range somePlaces() {
			got, failure := impl.AddPlace(list, p)
			if slices.ContainsFunc(list, func(other impl.Place) bool { return other.Code == p.Code }) {
				wantCode(t, "AddPlace of a code that is there", failure, impl.ErrState)
				continue
			}
			place, missing := impl.FindPlace(got, p.Code)
			if failure != impl.ErrNone || missing != impl.ErrNone || !impl.IsRegister(got) || len(got) != len(list)+1 || !samePlace(got[place], p) {
				t.Fatalf("%v, added to %s, is found at %d, %d of %v, %d", p, fewPlaces(list), place, missing, got, failure)
			}
			if !sameRegister(slices.Delete(got, int(place), int(place)+1), list) {
				t.Fatalf("AddPlace changed another place of %s", fewPlaces(list))
			}
		}
	}
}

// Promise 13: a place that has ended does not exist any more, and nothing is changed before or of another place.
func TestEndedPlacesDoNotExist(t *testing.T) {
	for _, list := range registersOver() {
		for i, p := range list {
			for year := int64(0); year <= 5; year++ {
				got, failure := impl.EndPlace(list, p.Code, year)
				if !existsBy(p, year-1) {
					if failure != impl.ErrState || len(got) != 0 {
						t.Fatalf("EndPlace(%v, %q, %d) = %v, %d", list, p.Code, year, got, failure)
					}
					continue
				}
				if failure != impl.ErrNone || !impl.IsRegister(got) || !sameRegister(got, endedBy(list, i, year)) {
					t.Fatalf("EndPlace(%v, %q, %d) = %v, %d", list, p.Code, year, got, failure)
				}
				checkEnding(t, list, got, i, year)
			}
		}
	}
}

// checkEnding wants that a place ends before a year, and that before this year and of other places each year is as it was.
func checkEnding(t *testing.T, list, ended []impl.Place, place int, from int64) {
	t.Helper()
	for year := int64(0); year <= 4; year++ {
		isLeft := func(p impl.Place) bool { return p.Code != list[place].Code || year < from }
		want := codesBy(list, func(p impl.Place) bool { return existsBy(p, year) && isLeft(p) })
		if got, failure := impl.PlacesIn(ended, year); failure != impl.ErrNone || !slices.Equal(got, want) {
			t.Fatalf("%v, ended in %d to %v, has %q in %d, want %q", list, from, ended, got, year, want)
		}
		for i, p := range list {
			var told []string
			if isLeft(p) {
				told = toldIn(p.Names, year)
			}
			if got := toldIn(ended[i].Names, year); !slices.Equal(got, told) {
				t.Fatalf("%v, ended in %d to %v, tells %q of %q in %d, want %q", list, from, ended, got, p.Code, year, told)
			}
		}
	}
}

// refusedYears wants a code from each function of a year without a code.
func refusedYears(t *testing.T, list []impl.Place, year, want int64) {
	t.Helper()
	name := fmt.Sprintf("of %s in %d", fewPlaces(list), year)
	if got, failure := impl.PlacesIn(list, year); failure != want || len(got) != 0 {
		t.Errorf("PlacesIn %s = %q, %d, want %d", name, got, failure, want)
	}
	if got, failure := impl.HomonymsIn(list, year); failure != want || len(got) != 0 {
		t.Errorf("HomonymsIn %s = %q, %d, want %d", name, got, failure, want)
	}
}

func refusedText(t *testing.T, list []impl.Place, text string, year, want int64) {
	t.Helper()
	if got, failure := impl.PlacesNamed(list, text, year); failure != want || len(got) != 0 {
		t.Errorf("PlacesNamed of %s with %.30q in %d = %q, %d, want %d", fewPlaces(list), text, year, got, failure, want)
	}
}

func refusedKind(t *testing.T, list []impl.Place, tree []int64, class, year, want int64) {
	t.Helper()
	if got, failure := impl.PlacesOfKind(list, tree, class, year); failure != want || len(got) != 0 {
		t.Errorf("PlacesOfKind of %s with %d numbers, %d in %d = %q, %d, want %d", fewPlaces(list), len(tree), class, year, got, failure, want)
	}
}

// refusedCode wants a code from each function of a year and the code of a place.
func refusedCode(t *testing.T, list []impl.Place, code string, year, want int64) {
	t.Helper()
	if got, failure := impl.EndPlace(list, code, year); failure != want || len(got) != 0 {
		t.Errorf("EndPlace of %s, %.30q in %d = %v, %d, want %d", fewPlaces(list), code, year, got, failure, want)
	}
	refusedNameOf(t, list, code, []string{"de", "en"}, year, want)
	refusedNameOf(t, list, code, nil, year, want)
}

func refusedNameOf(t *testing.T, list []impl.Place, code string, languages []string, year, want int64) {
	t.Helper()
	if got, failure := impl.NameOf(list, code, languages, year); failure != want || got != "" {
		t.Errorf("NameOf of %s, %.30q with %.60q in %d = %q, %d, want %d", fewPlaces(list), code, languages, year, got, failure, want)
	}
}

func refusedFind(t *testing.T, list []impl.Place, code string, want int64) {
	t.Helper()
	if got, failure := impl.FindPlace(list, code); failure != want || got != 0 {
		t.Errorf("FindPlace of %s, %.30q = %d, %d, want %d", fewPlaces(list), code, got, failure, want)
	}
}

func refusedAdd(t *testing.T, list []impl.Place, p impl.Place, want int64) {
	t.Helper()
	if got, failure := impl.AddPlace(list, p); failure != want || len(got) != 0 {
		t.Errorf("AddPlace to %s, %.160s = %v, %d, want %d", fewPlaces(list), fmt.Sprint(p), got, failure, want)
	}
}

// Lists that are no registers are told before years out of range, places that are missing and results that cannot be.
func TestPlacesRefuseLists(t *testing.T) {
	for _, list := range notRegisters() {
		for _, code := range []string{"aaa", "ash", "missing", "", "No"} {
			refusedFind(t, list, code, impl.ErrInvalid)
			refusedAdd(t, list, placed(code, 0, 0, 1), impl.ErrInvalid)
			for _, year := range []int64{firstYear - 1, firstYear, 1, 1201, lastYear + 1} {
				refusedCode(t, list, code, year, impl.ErrInvalid)
				refusedNameOf(t, list, code, []string{"e"}, year, impl.ErrInvalid)
			}
		}
		for _, year := range append(yearsOut(), firstYear, 0, 1, lastYear) {
			refusedYears(t, list, year, impl.ErrInvalid)
			refusedText(t, list, "ash", year, impl.ErrInvalid)
			refusedText(t, list, "", year, impl.ErrInvalid)
			for _, class := range []int64{-1, 0, impl.MaxClasses} {
				refusedKind(t, list, smallTree(), class, year, impl.ErrInvalid)
				refusedKind(t, list, nil, class, year, impl.ErrInvalid)
			}
		}
	}
}

// Codes, texts, languages, trees and places that are none are told before years and classes out of range, and those before places that are missing.
func TestPlacesRefuseOthers(t *testing.T) {
	for _, list := range [][]impl.Place{nil, smallRegister(), manyPlaces(impl.MaxPlaces)} {
		for _, p := range notPlaces() {
			refusedAdd(t, list, p, impl.ErrInvalid)
		}
		for _, s := range notWords() {
			refusedFind(t, list, s, impl.ErrInvalid)
		}
		for _, year := range append(yearsOut(), firstYear, 5, 1200, lastYear) {
			for _, s := range notWords() {
				refusedCode(t, list, s, year, impl.ErrInvalid)
			}
			for _, s := range notPhrases() {
				refusedText(t, list, s, year, impl.ErrInvalid)
			}
			for _, code := range []string{"ash", "missing"} {
				for _, s := range notLanguages() {
					for _, languages := range [][]string{{s}, {"en", s}, {s, "en"}, {"en", "xx", s}} {
						refusedNameOf(t, list, code, languages, year, impl.ErrInvalid)
					}
				}
			}
			for _, tree := range notClassTrees() {
				refusedKind(t, list, tree, 0, year, impl.ErrInvalid)
				refusedKind(t, list, tree, int64(len(tree)), year, impl.ErrInvalid)
			}
		}
	}
}

// Years and classes out of range are told before places that are missing and endings that cannot be.
func TestPlacesRefuseYears(t *testing.T) {
	for _, list := range [][]impl.Place{nil, smallRegister(), manyPlaces(impl.MaxPlaces), {placed("ash", 0, firstYear, lastYear, named("ash", "en", 0, firstYear, lastYear))}} {
		for _, year := range yearsOut() {
			refusedYears(t, list, year, impl.ErrRange)
			for _, code := range []string{"ash", "b", "missing"} {
				refusedCode(t, list, code, year, impl.ErrRange)
			}
			refusedText(t, list, "newton", year, impl.ErrRange)
			refusedText(t, list, "missing", year, impl.ErrRange)
			for _, class := range append(classesOut(smallTree()), 0, 6) {
				refusedKind(t, list, smallTree(), class, year, impl.ErrRange)
			}
		}
		for _, year := range []int64{firstYear, 0, 1200, lastYear} {
			for _, tree := range [][]int64{{-1}, smallTree(), chainOf(impl.MaxClasses)} {
				for _, class := range classesOut(tree) {
					refusedKind(t, list, tree, class, year, impl.ErrRange)
				}
			}
			refusedCode(t, list, "missing", year, impl.ErrNotFound)
			refusedCode(t, list, "asha", year, impl.ErrNotFound)
		}
		refusedFind(t, list, "missing", impl.ErrNotFound)
	}
}

// FirstYear and LastYear are years about which each function can be asked.
func TestPlacesAcceptYears(t *testing.T) {
	for _, list := range someRegisters() {
		for _, year := range []int64{firstYear, lastYear} {
			_, one := impl.PlacesIn(list, year)
			_, two := impl.PlacesNamed(list, "ash", year)
			_, three := impl.PlacesOfKind(list, smallTree(), 6, year)
			_, four := impl.HomonymsIn(list, year)
			if !slices.Equal([]int64{one, two, three, four}, repeated(impl.ErrNone, 4)) {
				t.Fatalf("codes for %s in %d: %d, %d, %d, %d", fewPlaces(list), year, one, two, three, four)
			}
		}
	}
}

// spareRegister returns smallRegister with spare capacity behind each of its lists, and all that was put there.
func spareRegister() ([]impl.Place, func() bool) {
	spareName := named("spare", "xx", 0, 0, 0)
	places := smallRegister()
	var behind [][]impl.Name
	for i := range places {
		list, memory := withSpare(places[i].Names, spareName)
		places[i].Names = list
		behind = append(behind, memory)
	}
	list, memory := withSpare(places, placed("spare", 0, 0, 0))
	isKept := func() bool {
		for i, p := range smallRegister() {
			if !slices.Equal(behind[i], append(p.Names, spareName, spareName)) {
				return false
			}
		}
		return sameRegister(memory, append(smallRegister(), placed("spare", 0, 0, 0), placed("spare", 0, 0, 0)))
	}
	return list, isKept
}

func TestPlacesKeepArguments(t *testing.T) {
	list, isKept := spareRegister()
	languages, memoryOfLanguages := withSpare([]string{"fr", "de", "en"}, "spare")
	tree, memoryOfTree := withSpare(smallTree(), 77)
	further, memoryOfNames := withSpare([]impl.Name{named("fir", "en", 0, 0, 9)}, named("spare", "xx", 0, 0, 0))
	impl.IsRegister(list)
	for _, code := range []string{"a", "elk", "zzz", "ash"} {
		impl.FindPlace(list, code)
		impl.IsPlace(placed(code, 0, 0, 9, further...))
		impl.AddPlace(list, placed(code, 0, 0, 9, further...))
	}
	for _, year := range []int64{1001, 1200, 1201, 1301, 1500, 1501, 1502, 1602, lastYear} {
		impl.PlacesIn(list, year)
		impl.PlacesNamed(list, "newton", year)
		impl.PlacesOfKind(list, tree, 1, year)
		impl.HomonymsIn(list, year)
		for _, code := range []string{"ash", "elm", "oak"} {
			impl.EndPlace(list, code, year)
			impl.NameOf(list, code, languages, year)
		}
	}
	if !isKept() {
		t.Errorf("the register was changed: %v", list)
	}
	if !slices.Equal(memoryOfLanguages, []string{"fr", "de", "en", "spare", "spare"}) || !slices.Equal(memoryOfTree, append(smallTree(), 77, 77)) || !slices.Equal(memoryOfNames, []impl.Name{named("fir", "en", 0, 0, 9), named("spare", "xx", 0, 0, 0), named("spare", "xx", 0, 0, 0)}) {
		t.Errorf("arguments were changed: %q, %v, %v", memoryOfLanguages, memoryOfTree, memoryOfNames)
	}
}

func TestPlacesResultsAreNew(t *testing.T) {
	list, isKept := spareRegister()
	further := []impl.Name{named("fir", "en", 0, 0, 9)}
	texts := func() [][]string {
		in, _ := impl.PlacesIn(list, 1200)
		called, _ := impl.PlacesNamed(list, "newton", 1200)
		kinds, _ := impl.PlacesOfKind(list, smallTree(), 1, 1200)
		homonyms, _ := impl.HomonymsIn(list, 1200)
		return [][]string{in, called, kinds, homonyms}
	}
	registers := func() [][]impl.Place {
		added, _ := impl.AddPlace(list, placed("fir", 0, 0, 9, further...))
		ended, _ := impl.EndPlace(list, "ash", 1301)
		same, _ := impl.EndPlace(list, "ash", 1501)
		return [][]impl.Place{added, ended, same}
	}
	before, places := texts(), registers()
	for _, found := range texts() {
		if len(found) == 0 {
			t.Fatalf("a result is empty: %q", before)
		}
		for i := range found {
			found[i] = "changed"
		}
	}
	for _, register := range registers() {
		if len(register) == 0 {
			t.Fatalf("a result is empty: %v", places)
		}
		for i := range register {
			names := register[i].Names[:cap(register[i].Names)]
			for j := range names {
				names[j] = named("changed", "xx", 0, 0, 0)
			}
		}
		register = register[:cap(register)]
		for i := range register {
			register[i] = placed("changed", 0, 0, 0)
		}
	}
	if !isKept() || !slices.Equal(further, []impl.Name{named("fir", "en", 0, 0, 9)}) {
		t.Errorf("arguments are %v and %v after results were changed", list, further)
	}
	if after := texts(); !slices.EqualFunc(before, after, slices.Equal[[]string]) {
		t.Errorf("the texts are %q after others were changed, and were %q", after, before)
	}
	if after := registers(); !slices.EqualFunc(places, after, sameRegister) {
		t.Errorf("the registers are %v after others were changed, and were %v", after, places)
	}
}

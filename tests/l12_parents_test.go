package tests

import (
	"fmt"
	"slices"
	"testing"

	"loop.example/g01030/impl"
)

func linked(child, parent string, from, to int64) impl.Link {
	return impl.Link{Child: child, Parent: parent, Years: span(from, to)}
}

// fewLinks names a list by its length and its first links.
func fewLinks(list []impl.Link) string {
	return fmt.Sprintf("%d links %.160s", len(list), fmt.Sprint(list[:min(len(list), 5)]))
}

func letterOf(number int) string { return string(rune('a' + number)) }

// chainOfLinks returns links of a to b, b to c and so on, each of which begins ten years after the one before.
func chainOfLinks(number int) []impl.Link {
	all := make([]impl.Link, number)
	for i := range all {
		all[i] = linked(letterOf(i), letterOf(i+1), 10*int64(i), 500)
	}
	return all
}

// starOfLinks returns links of several places to a, the last place in the alphabet first.
func starOfLinks(number int) []impl.Link {
	all := make([]impl.Link, number)
	for i := range all {
		all[i] = linked(letterOf(number-i), "a", 0, 500)
	}
	return all
}

// linksOver returns one link for each of some spans.
func linksOver(child, parent string, spans []impl.Span) []impl.Link {
	var all []impl.Link
	for _, s := range spans {
		all = append(all, linked(child, parent, s.From, s.To))
	}
	return all
}

// smallLinks returns links in which ash changes its parent, brig is a parent before it has one, and oak is without a parent for some years.
func smallLinks() []impl.Link {
	return []impl.Link{
		linked("elm", "brig", 1000, 1100), linked("ash", "brig", 1000, 1099), linked("dale", "cork", 1050, 1060), linked("brig", "cork", 1050, 1200), linked("ash", "cork", 1100, 1150),
		linked("oak", "fir", firstYear, 1055), linked("oak", "fir", 1061, lastYear),
	}
}

func someLinks() [][]impl.Link {
	all := [][]impl.Link{
		nil, {}, smallLinks(), chainOfLinks(impl.MaxLinks - 1), chainOfLinks(impl.MaxLinks), starOfLinks(impl.MaxLinks), linksOver("ash", "elm", everyOther(0, impl.MaxLinks)), linksOver("ash", "elm", everyOther(lastYear-2*(impl.MaxLinks-1), impl.MaxLinks)),
		// Two links of one place that only touch, in both orders, with one parent and with two.
		{linked("ash", "elm", 0, 5), linked("ash", "elm", 6, 9)}, {linked("ash", "elm", 6, 9), linked("ash", "oak", 0, 5)}, {linked("ash", "elm", firstYear, -1), linked("ash", "oak", 0, 0), linked("ash", "elm", 1, lastYear)},
		// Circles of links that have no year in common.
		{linked("ash", "elm", 0, 5), linked("elm", "ash", 6, 9)}, {linked("elm", "ash", 6, 9), linked("ash", "elm", 0, 5)}, {linked("ash", "elm", 0, 5), linked("elm", "oak", 5, 9), linked("oak", "ash", 6, 9)}, {linked("ash", "elm", 0, 4), linked("oak", "ash", 0, 9), linked("elm", "oak", 5, 9)},
		{linked("ash", "elm", firstYear, firstYear), linked("elm", "ash", firstYear+1, lastYear)}, append(chainOfLinks(impl.MaxLinks-1), linked("t", "a", 0, 179)), append(chainOfLinks(impl.MaxLinks-1), linked("t", "a", 501, lastYear)),
		// Two places with one parent, and one place with two parents above one another.
		{linked("ash", "elm", 0, 9), linked("oak", "elm", 0, 9), linked("elm", "fir", 0, 9)}, {linked("ash", "elm", 0, 4), linked("ash", "oak", 5, 9), linked("elm", "oak", 0, 9)},
	}
	for _, s := range validSpans() {
		all = append(all, []impl.Link{linked("ash", "elm", s.From, s.To)})
	}
	for _, s := range someWords() {
		all = append(all, []impl.Link{linked(s, "other", 0, 1), linked("another", s, 0, 1)})
	}
	return all
}

// notLink returns links that break the description of a link, each in one way.
func notLink() []impl.Link {
	all := []impl.Link{{}, linked("ash", "ash", 0, 1), linked("a", "a", firstYear, lastYear), linked("", "", 0, 1), {Child: "ash", Parent: "elm", Years: span(0, -1)}}
	for _, s := range someWords() {
		all = append(all, linked(s, s, 0, 1))
	}
	for _, s := range notWords() {
		all = append(all, linked(s, "elm", 0, 1), linked("ash", s, 0, 1), linked(s, s, 0, 1))
	}
	for _, s := range notSpans() {
		all = append(all, linked("ash", "elm", s.From, s.To))
	}
	return all
}

// circleOf returns links of some places that make a circle in some years.
func circleOf(from, to int64, places ...string) []impl.Link {
	var all []impl.Link
	for i, place := range places {
		all = append(all, linked(place, places[(i+1)%len(places)], from, to))
	}
	return all
}

func notLinks() [][]impl.Link {
	all := [][]impl.Link{
		chainOfLinks(impl.MaxLinks + 1), starOfLinks(impl.MaxLinks + 1), linksOver("ash", "elm", everyOther(0, impl.MaxLinks+1)), slices.Repeat(chainOfLinks(impl.MaxLinks), 500), slices.Repeat([]impl.Link{linked("ash", "ash", 0, 1)}, 5000),
		// One place with two links that have a year in common, and two equal links.
		{linked("ash", "elm", 0, 5), linked("ash", "oak", 5, 9)}, {linked("ash", "elm", 5, 9), linked("ash", "oak", 0, 5)}, {linked("ash", "elm", 0, 9), linked("ash", "oak", 4, 5)}, {linked("ash", "elm", 4, 5), linked("ash", "oak", 0, 9)}, {linked("ash", "elm", firstYear, 0), linked("ash", "oak", 0, lastYear)},
		{linked("ash", "elm", 0, 5), linked("ash", "elm", 0, 5)}, {linked("ash", "elm", 0, 5), linked("ash", "elm", 5, 6)}, {linked("ash", "elm", firstYear, firstYear), linked("ash", "elm", firstYear, firstYear)}, {linked("ash", "elm", lastYear, lastYear), linked("ash", "oak", lastYear, lastYear)}, append(chainOfLinks(impl.MaxLinks-1), linked("a", "z", 500, 600)), append(starOfLinks(impl.MaxLinks-1), starOfLinks(1)...),
		// Circles of two, three and all links, in all years and in one alone.
		circleOf(0, 9, "ash", "elm"), circleOf(0, 9, "ash", "elm", "oak"), circleOf(firstYear, lastYear, "elm", "oak", "ash"), circleOf(firstYear, firstYear, "ash", "elm"), circleOf(lastYear, lastYear, "ash", "elm", "oak"), circleOf(0, 9, "d", "a", "c", "b", "e"), append(chainOfLinks(impl.MaxLinks-1), linked("t", "a", 0, lastYear)), append(chainOfLinks(impl.MaxLinks-1), linked("t", "a", 180, 180)), append(chainOfLinks(impl.MaxLinks-1), linked("t", "a", 500, 501)),
		{linked("ash", "elm", 0, 5), linked("elm", "ash", 5, 9)}, {linked("elm", "ash", 5, 9), linked("ash", "elm", 0, 5)}, {linked("ash", "elm", 0, 5), linked("elm", "oak", 5, 9), linked("oak", "ash", 0, 9)}, {linked("oak", "ash", 4, 9), linked("elm", "oak", 0, 9), linked("ash", "elm", 0, 4)}, {linked("ash", "elm", 0, 9), linked("elm", "ash", 3, 3)}, {linked("ash", "elm", 3, 3), linked("elm", "ash", 0, 9)},
		// A circle that is only a part of the links, below another place, above one or apart from it.
		append(circleOf(0, 9, "elm", "oak"), linked("ash", "elm", 0, 9)), append([]impl.Link{linked("ash", "elm", 0, 9)}, circleOf(0, 9, "elm", "oak")...), append([]impl.Link{linked("ash", "elm", 0, 9)}, circleOf(0, 9, "fir", "oak", "yew")...), append(circleOf(0, 9, "fir", "oak", "yew"), linked("ash", "elm", 20, 29)),
	}
	for _, l := range notLink() {
		all = append(all, []impl.Link{l}, []impl.Link{linked("fir", "yew", 0, 1), l}, []impl.Link{l, linked("fir", "yew", 0, 1)}, append(starOfLinks(impl.MaxLinks-1), l))
	}
	return all
}

// linkChoices returns all links between different places of some in the years 1 to last.
func linkChoices(last int64, places ...string) []impl.Link {
	var all []impl.Link
	for _, child := range places {
		for _, parent := range places {
			for from := int64(1); from <= last && child != parent; from++ {
				for to := from; to <= last; to++ {
					all = append(all, linked(child, parent, from, to))
				}
			}
		}
	}
	return all
}

// listsOfLinks returns all lists of at most some links out of those that can be chosen.
func listsOfLinks(choices []impl.Link, most int) [][]impl.Link {
	all := [][]impl.Link{nil}
	for first := 0; len(all[first]) < most; first++ {
		for _, l := range choices {
			all = append(all, append(slices.Clone(all[first]), l))
		}
	}
	return all
}

// parentsBy returns for each place all parents that it has in a year.
func parentsBy(list []impl.Link, year int64) map[string][]string {
	all := map[string][]string{}
	for _, l := range list {
		if l.Years.From <= year && year <= l.Years.To {
			all[l.Child] = append(all[l.Child], l.Parent)
		}
	}
	return all
}

// areLinksBy looks at each of the years 0 to last for a place with two parents or within itself; each link has to be as described and of these years.
func areLinksBy(list []impl.Link, last int64) bool {
	for year := int64(0); year <= last; year++ {
		parents := parentsBy(list, year)
		for child := range parents {
			place := child
			for range list {
				if len(parents[place]) > 1 {
					return false
				}
				if len(parents[place]) == 1 {
					place = parents[place][0]
				}
				if place == child && len(parents[place]) > 0 {
					return false
				}
			}
		}
	}
	return len(list) <= impl.MaxLinks
}

func wayBy(list []impl.Link, code string, year int64) []string {
	way, parents := []string{code}, parentsBy(list, year)
	for len(parents[way[len(way)-1]]) > 0 {
		way = append(way, parents[way[len(way)-1]][0])
	}
	return way
}

// placesBelow returns the places that have a parent in a year and are meant, in alphabetical order.
func placesBelow(list []impl.Link, year int64, isMeant func(way []string) bool) []string {
	var all []string
	for child := range parentsBy(list, year) {
		if isMeant(wayBy(list, child, year)) {
			all = append(all, child)
		}
	}
	slices.Sort(all)
	return all
}

func rootsBy(list []impl.Link, year int64) []string {
	roots := map[string]bool{}
	for child := range parentsBy(list, year) {
		way := wayBy(list, child, year)
		roots[way[len(way)-1]] = true
	}
	var all []string
	for place := range roots {
		all = append(all, place)
	}
	slices.Sort(all)
	return all
}

// meetingBy returns the first of the places above one that is above another one, or nothing.
func meetingBy(list []impl.Link, a, b string, year int64) string {
	above := wayBy(list, b, year)
	for _, place := range wayBy(list, a, year) {
		if slices.Contains(above, place) {
			return place
		}
	}
	return ""
}

// insideBy returns the spans of the years 0 to last in which a place lies in another one.
func insideBy(list []impl.Link, a, b string, last int64) []impl.Span {
	var all []impl.Span
	for year := int64(0); year <= last; year++ {
		if !slices.Contains(wayBy(list, a, year), b) {
			continue
		}
		if number := len(all); number > 0 && all[number-1].To == year-1 {
			all[number-1].To = year
		} else {
			all = append(all, span(year, year))
		}
	}
	return all
}

// endedLinksBy returns the links of which those of a place end before a year.
func endedLinksBy(list []impl.Link, code string, year int64) []impl.Link {
	var all []impl.Link
	for _, l := range list {
		switch {
		case l.Child != code && l.Parent != code || l.Years.To < year:
			all = append(all, l)
		case l.Years.From < year:
			all = append(all, linked(l.Child, l.Parent, l.Years.From, year-1))
		}
	}
	return all
}

// forestOf returns links of three to six places in the years 0 to 40, as many as fit of those that a seed makes.
func forestOf(seed uint32) []impl.Link {
	places := 3 + seed%4
	next := func(end uint32) int {
		seed = seed*1103515245 + 12345
		return int((seed >> 16) % end)
	}
	var all []impl.Link
	for range 60 {
		child, parent, from, length := next(places), next(places), int64(next(36)), int64(next(5))
		further := append(slices.Clone(all), linked(letterOf(child), letterOf(parent), from, from+length))
		if child != parent && areLinksBy(further, 40) {
			all = further
		}
	}
	return all
}

func TestLinksLimit(t *testing.T) {
	if impl.MaxLinks != 20 {
		t.Errorf("MaxLinks = %d", impl.MaxLinks)
	}
}

func TestAreLinks(t *testing.T) {
	for _, list := range someLinks() {
		if !impl.AreLinks(list) {
			t.Errorf("AreLinks of %s = false", fewLinks(list))
		}
	}
	for _, list := range notLinks() {
		if impl.AreLinks(list) {
			t.Errorf("AreLinks of %s = true", fewLinks(list))
		}
	}
}

// In no list of few links one fits that does not by looking at each year, over three places and years, and over four places in one year.
func TestAreLinksOfFewPlaces(t *testing.T) {
	lists := append(listsOfLinks(linkChoices(3, "ash", "elm", "oak"), 3), listsOfLinks(linkChoices(1, "ash", "elm", "fir", "oak"), 4)...)
	for _, list := range lists {
		if got, want := impl.AreLinks(list), areLinksBy(list, 4); got != want {
			t.Fatalf("AreLinks(%v) = %v", list, got)
		}
	}
}

// A circle of any number of links is one whatever their order is, and is none without one of them or with one in another year.
func TestAreLinksOfCircles(t *testing.T) {
	for number := 2; number <= impl.MaxLinks; number++ {
		var places []string
		for i := range number {
			places = append(places, letterOf(i*7%number)+letterOf(i))
		}
		list := circleOf(7, 8, places...)
		for i := range number {
			turned := slices.Concat(list[i:], list[:i])
			backwards := slices.Clone(turned)
			slices.Reverse(backwards)
			if impl.AreLinks(turned) || impl.AreLinks(backwards) || !impl.AreLinks(turned[1:]) || !impl.AreLinks(backwards[1:]) {
				t.Errorf("AreLinks of a circle of %d links, turned to the link %d, is wrong", number, i)
			}
			for _, years := range []impl.Span{span(6, 6), span(9, 9), span(0, 6), span(9, lastYear)} {
				other := slices.Clone(list)
				other[i].Years = years
				if !impl.AreLinks(other) {
					t.Errorf("AreLinks(%v) = false", other)
				}
			}
			for _, years := range []impl.Span{span(7, 7), span(8, 8), span(0, 7), span(8, lastYear), span(firstYear, lastYear)} {
				other := slices.Clone(list)
				other[i].Years = years
				if impl.AreLinks(other) {
					t.Errorf("AreLinks(%v) = true", other)
				}
			}
		}
	}
}

func TestParentIn(t *testing.T) {
	cases := []struct {
		code string
		year int64
		want string
	}{
		{"ash", firstYear, ""}, {"ash", 999, ""}, {"ash", 1000, "brig"}, {"ash", 1001, "brig"}, {"ash", 1099, "brig"}, {"ash", 1100, "cork"}, {"ash", 1150, "cork"}, {"ash", 1151, ""}, {"ash", lastYear, ""},
		{"elm", 1100, "brig"}, {"elm", 1101, ""}, {"brig", 1049, ""}, {"brig", 1050, "cork"}, {"brig", 1200, "cork"}, {"brig", 1201, ""}, {"dale", 1049, ""}, {"dale", 1050, "cork"}, {"dale", 1060, "cork"}, {"dale", 1061, ""},
		{"oak", firstYear, "fir"}, {"oak", 1055, "fir"}, {"oak", 1056, ""}, {"oak", 1060, ""}, {"oak", 1061, "fir"}, {"oak", lastYear, "fir"},
		// Places that are only a Parent, and codes that no link has.
		{"cork", 1060, ""}, {"fir", 0, ""}, {"missing", 1060, ""}, {"as", 1060, ""}, {"asha", 1060, ""}, {wordOf("z", impl.MaxWord), 1060, ""},
	}
	for _, c := range cases {
		want := int64(impl.ErrNone)
		if c.want == "" {
			want = impl.ErrNotFound
		}
		if got, failure := impl.ParentIn(smallLinks(), c.code, c.year); failure != want || got != c.want {
			t.Errorf("ParentIn(%q, %d) = %q, %d, want %q", c.code, c.year, got, failure, c.want)
		}
	}
	if got, failure := impl.ParentIn(nil, "ash", 0); failure != impl.ErrNotFound || got != "" {
		t.Errorf("ParentIn of no link = %q, %d", got, failure)
	}
}

func TestWayUp(t *testing.T) {
	cases := []struct {
		code string
		year int64
		want []string
	}{
		{"ash", 999, []string{"ash"}}, {"ash", 1000, []string{"ash", "brig"}}, {"ash", 1049, []string{"ash", "brig"}}, {"ash", 1050, []string{"ash", "brig", "cork"}}, {"ash", 1099, []string{"ash", "brig", "cork"}}, {"ash", 1100, []string{"ash", "cork"}}, {"ash", 1150, []string{"ash", "cork"}}, {"ash", 1151, []string{"ash"}},
		{"elm", 1100, []string{"elm", "brig", "cork"}}, {"elm", 1101, []string{"elm"}}, {"brig", 1200, []string{"brig", "cork"}}, {"brig", 1201, []string{"brig"}}, {"oak", firstYear, []string{"oak", "fir"}}, {"oak", 1058, []string{"oak"}}, {"oak", lastYear, []string{"oak", "fir"}},
		{"cork", 1060, []string{"cork"}}, {"fir", 1061, []string{"fir"}}, {"missing", 1060, []string{"missing"}}, {"as", 1060, []string{"as"}},
	}
	for _, c := range cases {
		if got, failure := impl.WayUp(smallLinks(), c.code, c.year); failure != impl.ErrNone || !slices.Equal(got, c.want) {
			t.Errorf("WayUp(%q, %d) = %q, %d, want %q", c.code, c.year, got, failure, c.want)
		}
	}
	if got, failure := impl.WayUp(nil, "ash", 0); failure != impl.ErrNone || !slices.Equal(got, []string{"ash"}) {
		t.Errorf("WayUp of no link = %q, %d", got, failure)
	}
}

// The way up from a is as long as there are links of the year, whatever their order is.
func TestWayUpOfChain(t *testing.T) {
	for number := range impl.MaxLinks + 1 {
		list := chainOfLinks(number)
		for range 2 {
			slices.Reverse(list)
			for year := int64(-10); year <= 510; year += 5 {
				want := []string{"a"}
				for i := 0; i < number && 10*int64(i) <= year && year <= 500; i++ {
					want = append(want, letterOf(i+1))
				}
				if got, failure := impl.WayUp(list, "a", year); failure != impl.ErrNone || !slices.Equal(got, want) {
					t.Errorf("WayUp of %d links in %d = %q, %d, want %q", number, year, got, failure, want)
				}
			}
		}
	}
}

func TestChildrenIn(t *testing.T) {
	cases := []struct {
		code string
		year int64
		want []string
	}{
		{"brig", 999, nil}, {"brig", 1000, []string{"ash", "elm"}}, {"brig", 1060, []string{"ash", "elm"}}, {"brig", 1099, []string{"ash", "elm"}}, {"brig", 1100, []string{"elm"}}, {"brig", 1101, nil},
		{"cork", 1049, nil}, {"cork", 1050, []string{"brig", "dale"}}, {"cork", 1060, []string{"brig", "dale"}}, {"cork", 1061, []string{"brig"}}, {"cork", 1100, []string{"ash", "brig"}}, {"cork", 1151, []string{"brig"}}, {"cork", 1201, nil},
		{"fir", firstYear, []string{"oak"}}, {"fir", 1056, nil}, {"fir", lastYear, []string{"oak"}}, {"ash", 1060, nil}, {"missing", 1060, nil}, {"bri", 1060, nil},
	}
	for _, c := range cases {
		if got, failure := impl.ChildrenIn(smallLinks(), c.code, c.year); failure != impl.ErrNone || !slices.Equal(got, c.want) {
			t.Errorf("ChildrenIn(%q, %d) = %q, %d, want %q", c.code, c.year, got, failure, c.want)
		}
	}
	for number := range impl.MaxLinks + 1 {
		var want []string
		for i := range number {
			want = append(want, letterOf(i+1))
		}
		if got, failure := impl.ChildrenIn(starOfLinks(number), "a", 500); failure != impl.ErrNone || !slices.Equal(got, want) {
			t.Errorf("ChildrenIn of %d links = %q, %d, want %q", number, got, failure, want)
		}
	}
}

func TestInsideIn(t *testing.T) {
	cases := []struct {
		code string
		year int64
		want []string
	}{
		{"cork", 1049, nil}, {"cork", 1050, []string{"ash", "brig", "dale", "elm"}}, {"cork", 1060, []string{"ash", "brig", "dale", "elm"}}, {"cork", 1061, []string{"ash", "brig", "elm"}}, {"cork", 1100, []string{"ash", "brig", "elm"}}, {"cork", 1101, []string{"ash", "brig"}}, {"cork", 1151, []string{"brig"}}, {"cork", 1201, nil},
		{"brig", 999, nil}, {"brig", 1000, []string{"ash", "elm"}}, {"brig", 1060, []string{"ash", "elm"}}, {"brig", 1100, []string{"elm"}}, {"brig", 1101, nil}, {"fir", firstYear, []string{"oak"}}, {"fir", 1060, nil}, {"fir", lastYear, []string{"oak"}}, {"ash", 1060, nil}, {"missing", 1060, nil},
	}
	for _, c := range cases {
		if got, failure := impl.InsideIn(smallLinks(), c.code, c.year); failure != impl.ErrNone || !slices.Equal(got, c.want) {
			t.Errorf("InsideIn(%q, %d) = %q, %d, want %q", c.code, c.year, got, failure, c.want)
		}
	}
	list := chainOfLinks(impl.MaxLinks)
	for number := range impl.MaxLinks + 1 {
		var want []string
		for i := range number {
			want = append(want, letterOf(i))
		}
		if got, failure := impl.InsideIn(list, letterOf(number), 300); failure != impl.ErrNone || !slices.Equal(got, want) {
			t.Errorf("InsideIn of %q = %q, %d, want %q", letterOf(number), got, failure, want)
		}
	}
}

func TestMeetingIn(t *testing.T) {
	cases := []struct {
		a, b string
		year int64
		want string
	}{
		// Above both, in one of them, and nowhere.
		{"ash", "elm", 1000, "brig"}, {"ash", "elm", 1060, "brig"}, {"elm", "ash", 1060, "brig"}, {"ash", "elm", 1100, "cork"}, {"elm", "ash", 1100, "cork"}, {"ash", "elm", 1101, ""}, {"ash", "elm", 999, ""}, {"ash", "dale", 1060, "cork"}, {"dale", "elm", 1050, "cork"}, {"ash", "dale", 1049, ""}, {"ash", "dale", 1061, ""},
		{"ash", "brig", 1060, "brig"}, {"brig", "ash", 1060, "brig"}, {"ash", "cork", 1060, "cork"}, {"cork", "ash", 1150, "cork"}, {"cork", "ash", 1151, ""}, {"brig", "ash", 1100, "cork"}, {"oak", "fir", firstYear, "fir"}, {"fir", "oak", lastYear, "fir"}, {"fir", "oak", 1056, ""}, {"ash", "oak", 1055, ""}, {"cork", "fir", 1060, ""}, {"ash", "missing", 1060, ""}, {"missing", "ash", 1060, ""}, {"missing", "gone", 1060, ""},
		// A place meets itself, even if no link has it.
		{"ash", "ash", 1060, "ash"}, {"ash", "ash", 0, "ash"}, {"cork", "cork", 1060, "cork"}, {"missing", "missing", 1060, "missing"}, {"fir", "fir", firstYear, "fir"},
	}
	for _, c := range cases {
		want := int64(impl.ErrNone)
		if c.want == "" {
			want = impl.ErrNotFound
		}
		if got, failure := impl.MeetingIn(smallLinks(), c.a, c.b, c.year); failure != want || got != c.want {
			t.Errorf("MeetingIn(%q, %q, %d) = %q, %d, want %q", c.a, c.b, c.year, got, failure, c.want)
		}
	}
	if got, failure := impl.MeetingIn(nil, "ash", "ash", lastYear); failure != impl.ErrNone || got != "ash" {
		t.Errorf("MeetingIn of no link = %q, %d", got, failure)
	}
}

func TestYearsInside(t *testing.T) {
	cases := map[[2]string][]impl.Span{
		// Years that go over from one link to the next one, and years that are apart.
		{"ash", "cork"}: {span(1050, 1150)}, {"ash", "brig"}: {span(1000, 1099)}, {"elm", "brig"}: {span(1000, 1100)}, {"elm", "cork"}: {span(1050, 1100)}, {"dale", "cork"}: {span(1050, 1060)}, {"brig", "cork"}: {span(1050, 1200)}, {"oak", "fir"}: {span(firstYear, 1055), span(1061, lastYear)},
		{"cork", "ash"}: nil, {"brig", "ash"}: nil, {"ash", "elm"}: nil, {"ash", "dale"}: nil, {"fir", "oak"}: nil, {"ash", "oak"}: nil, {"ash", "missing"}: nil, {"missing", "ash"}: nil, {"missing", "gone"}: nil,
	}
	for places, want := range cases {
		got, failure := impl.YearsInside(smallLinks(), places[0], places[1])
		wantSpans(t, fmt.Sprintf("YearsInside%q", places), got, failure, want)
		got, failure = impl.YearsInside(nil, places[0], places[1])
		wantSpans(t, fmt.Sprintf("YearsInside%q of no link", places), got, failure, nil)
	}
	for _, s := range validSpans() {
		got, failure := impl.YearsInside([]impl.Link{linked("ash", "elm", s.From, s.To)}, "ash", "elm")
		wantSpans(t, fmt.Sprintf("YearsInside of %v", s), got, failure, []impl.Span{s})
	}
	var touching []impl.Span
	for year := int64(0); year < 2*impl.MaxLinks; year += 2 {
		touching = append(touching, span(year, year+1))
	}
	got, failure := impl.YearsInside(linksOver("ash", "elm", touching), "ash", "elm")
	wantSpans(t, "YearsInside of links that touch", got, failure, []impl.Span{span(0, 2*impl.MaxLinks-1)})
	slices.Reverse(touching)
	got, failure = impl.YearsInside(linksOver("ash", "elm", touching), "ash", "elm")
	wantSpans(t, "YearsInside of links that touch, the last one first", got, failure, []impl.Span{span(0, 2*impl.MaxLinks-1)})
}

// As many spans as MaxSpans are a set, over one link or several, and one more are none.
func TestYearsInsideOfManySpans(t *testing.T) {
	for number := range impl.MaxLinks + 1 {
		for _, from := range []int64{firstYear, 0, lastYear - 2*impl.MaxLinks + 2} {
			spans := everyOther(from, number)
			list := linksOver("ash", "elm", spans)
			want := int64(impl.ErrNone)
			if number > impl.MaxSpans {
				spans, want = nil, impl.ErrLimit
			}
			if got, failure := impl.YearsInside(list, "ash", "elm"); failure != want || !slices.Equal(got, spans) {
				t.Errorf("YearsInside of %d links = %v, %d", number, got, failure)
			}
			got, failure := impl.YearsInside(list, "elm", "ash")
			wantSpans(t, "YearsInside of links the other way", got, failure, nil)
		}
	}
	for number := 1; number < impl.MaxLinks; number++ {
		spans := everyOther(0, number)
		list := append(linksOver("elm", "oak", spans), linked("ash", "elm", 0, lastYear))
		want := int64(impl.ErrNone)
		if number > impl.MaxSpans {
			spans, want = nil, impl.ErrLimit
		}
		if got, failure := impl.YearsInside(list, "ash", "oak"); failure != want || !slices.Equal(got, spans) {
			t.Errorf("YearsInside over two links, one of %d spans = %v, %d", number, got, failure)
		}
		got, failure := impl.YearsInside(list, "ash", "elm")
		wantSpans(t, "YearsInside of a link beside many", got, failure, []impl.Span{span(0, lastYear)})
	}
}

func TestRootsIn(t *testing.T) {
	cases := map[int64][]string{
		firstYear: {"fir"}, 999: {"fir"}, 1000: {"brig", "fir"}, 1049: {"brig", "fir"}, 1050: {"cork", "fir"}, 1055: {"cork", "fir"}, 1056: {"cork"}, 1060: {"cork"}, 1061: {"cork", "fir"}, 1101: {"cork", "fir"}, 1200: {"cork", "fir"}, 1201: {"fir"}, lastYear: {"fir"},
	}
	for year, want := range cases {
		if got, failure := impl.RootsIn(smallLinks(), year); failure != impl.ErrNone || !slices.Equal(got, want) {
			t.Errorf("RootsIn(%d) = %q, %d, want %q", year, got, failure, want)
		}
	}
	for year, want := range map[int64][]string{-1: nil, 0: {"a"}, 500: {"a"}, 501: nil} {
		if got, failure := impl.RootsIn(starOfLinks(impl.MaxLinks), year); failure != impl.ErrNone || !slices.Equal(got, want) {
			t.Errorf("RootsIn of a star in %d = %q, %d, want %q", year, got, failure, want)
		}
	}
	// Roots that are told in another order than that of the alphabet, each more than once.
	list := []impl.Link{linked("e", "z", 0, 9), linked("a", "y", 0, 9), linked("d", "z", 0, 9), linked("c", "x", 0, 9), linked("b", "y", 0, 9), linked("x", "w", 5, 5)}
	for year, want := range map[int64][]string{4: {"x", "y", "z"}, 5: {"w", "y", "z"}, 6: {"x", "y", "z"}} {
		if got, failure := impl.RootsIn(list, year); failure != impl.ErrNone || !slices.Equal(got, want) {
			t.Errorf("RootsIn(%v, %d) = %q, %d, want %q", list, year, got, failure, want)
		}
	}
	if got, failure := impl.RootsIn(nil, 0); failure != impl.ErrNone || len(got) != 0 {
		t.Errorf("RootsIn of no link = %q, %d", got, failure)
	}
}

// checkYear wants that each question about a year is answered as by looking at the links of the year.
func checkYear(t *testing.T, list []impl.Link, year int64, places []string) {
	t.Helper()
	if got, failure := impl.RootsIn(list, year); failure != impl.ErrNone || !slices.Equal(got, rootsBy(list, year)) {
		t.Fatalf("RootsIn(%v, %d) = %q, %d, want %q", list, year, got, failure, rootsBy(list, year))
	}
	for _, a := range places {
		way := wayBy(list, a, year)
		if got, failure := impl.WayUp(list, a, year); failure != impl.ErrNone || !slices.Equal(got, way) {
			t.Fatalf("WayUp(%v, %q, %d) = %q, %d, want %q", list, a, year, got, failure, way)
		}
		if got, failure := impl.ParentIn(list, a, year); len(way) == 1 && (failure != impl.ErrNotFound || got != "") || len(way) > 1 && (failure != impl.ErrNone || got != way[1]) {
			t.Fatalf("ParentIn(%v, %q, %d) = %q, %d, want %q", list, a, year, got, failure, way)
		}
		children := placesBelow(list, year, func(way []string) bool { return way[1] == a })
		if got, failure := impl.ChildrenIn(list, a, year); failure != impl.ErrNone || !slices.Equal(got, children) {
			t.Fatalf("ChildrenIn(%v, %q, %d) = %q, %d, want %q", list, a, year, got, failure, children)
		}
		inside := placesBelow(list, year, func(way []string) bool { return slices.Contains(way[1:], a) })
		if got, failure := impl.InsideIn(list, a, year); failure != impl.ErrNone || !slices.Equal(got, inside) {
			t.Fatalf("InsideIn(%v, %q, %d) = %q, %d, want %q", list, a, year, got, failure, inside)
		}
		for _, b := range places {
			want := meetingBy(list, a, b, year)
			if got, failure := impl.MeetingIn(list, a, b, year); got != want || want == "" && failure != impl.ErrNotFound || want != "" && failure != impl.ErrNone {
				t.Fatalf("MeetingIn(%v, %q, %q, %d) = %q, %d, want %q", list, a, b, year, got, failure, want)
			}
		}
	}
}

// checkInside wants the years inside of a list that has only links of the years 0 to last.
func checkInside(t *testing.T, list []impl.Link, last int64, places []string) {
	t.Helper()
	for _, a := range places {
		for _, b := range places {
			got, failure := impl.YearsInside(list, a, b)
			want := insideBy(list, a, b, last)
			code := int64(impl.ErrNone)
			switch {
			case a == b:
				want, code = nil, impl.ErrState
			case len(want) > impl.MaxSpans:
				want, code = nil, impl.ErrLimit
			}
			if failure != code || !slices.Equal(got, want) {
				t.Fatalf("YearsInside(%v, %q, %q) = %v, %d, want %v, %d", list, a, b, got, failure, want, code)
			}
		}
	}
}

// In all links of few places, each question is answered as by looking at the links of each year, and the years inside are those whose way up has the place.
func TestLinksOfYears(t *testing.T) {
	places := []string{"ash", "elm", "fir", "oak"}
	lists := append(listsOfLinks(linkChoices(2, "ash", "elm", "oak"), 3), listsOfLinks(linkChoices(3, "ash", "elm", "oak"), 2)...)
	lists = append(lists, listsOfLinks(linkChoices(1, places...), 3)...)
	for _, list := range lists {
		if !areLinksBy(list, 4) {
			continue
		}
		for year := int64(0); year <= 4; year++ {
			checkYear(t, list, year, places)
		}
		checkInside(t, list, 4, places)
	}
}

// The same for lists of many links.
func TestManyLinksOfYears(t *testing.T) {
	places := []string{"a", "b", "c", "d", "e", "f", "g"}
	for seed := range uint32(40) {
		list := forestOf(seed)
		if !impl.AreLinks(list) {
			t.Fatalf("AreLinks(%v) = false", list)
		}
		for year := int64(0); year <= 41; year++ {
			checkYear(t, list, year, places)
		}
		checkInside(t, list, 41, places)
	}
}

func TestAddLink(t *testing.T) {
	list := smallLinks()
	cases := []struct {
		l    impl.Link
		want int64
	}{
		{linked("yew", "ash", 0, 1), impl.ErrNone}, {linked("yew", "box", firstYear, lastYear), impl.ErrNone}, {linked("a", "oak", firstYear, lastYear), impl.ErrNone}, {linked("cork", "fir", firstYear, lastYear), impl.ErrNone}, {linked("fir", "ash", firstYear, lastYear), impl.ErrNone},
		// A second parent in a first year, a last one or all years, and one beside these years.
		{linked("ash", "fir", 0, 999), impl.ErrNone}, {linked("ash", "fir", 0, 1000), impl.ErrState}, {linked("ash", "fir", 1150, 1160), impl.ErrState}, {linked("ash", "fir", 1151, 1160), impl.ErrNone}, {linked("ash", "fir", firstYear, lastYear), impl.ErrState}, {linked("ash", "fir", 1070, 1080), impl.ErrState}, {linked("oak", "ash", 1056, 1060), impl.ErrNone}, {linked("oak", "ash", 1055, 1060), impl.ErrState}, {linked("oak", "ash", 1056, 1061), impl.ErrState},
		{list[0], impl.ErrState}, {linked("elm", "brig", 1101, 1200), impl.ErrNone},
		// A circle of two, three and more links, and one that would only be one in another year.
		{linked("fir", "oak", 1055, 1056), impl.ErrState}, {linked("fir", "oak", 1056, 1060), impl.ErrNone}, {linked("fir", "oak", 1060, 1061), impl.ErrState}, {linked("brig", "ash", 1000, 1049), impl.ErrState}, {linked("brig", "elm", 1049, 1049), impl.ErrState}, {linked("brig", "elm", 0, 999), impl.ErrNone}, {linked("brig", "elm", 999, 1000), impl.ErrState}, {linked("brig", "ash", 1201, lastYear), impl.ErrNone},
		{linked("cork", "ash", 1060, 1060), impl.ErrState}, {linked("cork", "ash", 1100, 1100), impl.ErrState}, {linked("cork", "ash", 1150, 1151), impl.ErrState}, {linked("cork", "ash", 1151, lastYear), impl.ErrNone}, {linked("cork", "ash", firstYear, 1049), impl.ErrNone}, {linked("cork", "ash", firstYear, 1050), impl.ErrState}, {linked("cork", "elm", 1101, lastYear), impl.ErrNone}, {linked("cork", "elm", 1100, lastYear), impl.ErrState}, {linked("cork", "dale", 1061, 1070), impl.ErrNone},
	}
	for _, c := range cases {
		var want []impl.Link
		if c.want == impl.ErrNone {
			want = append(smallLinks(), c.l)
		}
		if got, failure := impl.AddLink(list, c.l); failure != c.want || !slices.Equal(got, want) {
			t.Errorf("AddLink(%v) = %v, %d, want %d", c.l, got, failure, c.want)
		}
	}
}

// A list of MaxLinks links takes no other one, even if it would not meet any of them.
func TestAddLinkToManyLinks(t *testing.T) {
	for number := range impl.MaxLinks + 1 {
		for _, list := range [][]impl.Link{chainOfLinks(number), starOfLinks(number), linksOver("ash", "elm", everyOther(0, number))} {
			for _, l := range []impl.Link{linked("y", "z", 0, 1), linked("y", "z", firstYear, lastYear), linked("ash", "elm", lastYear, lastYear)} {
				got, failure := impl.AddLink(list, l)
				if number == impl.MaxLinks && (failure != impl.ErrState || len(got) != 0) || number < impl.MaxLinks && (failure != impl.ErrNone || !slices.Equal(got, append(slices.Clone(list), l))) {
					t.Errorf("AddLink to %d links, %v = %v, %d", number, l, got, failure)
				}
			}
		}
	}
	for number := 1; number < impl.MaxLinks; number++ {
		circle := linked(letterOf(number), "a", 0, 500)
		if got, failure := impl.AddLink(chainOfLinks(number), circle); failure != impl.ErrState || len(got) != 0 {
			t.Errorf("AddLink to %d links, %v = %v, %d", number, circle, got, failure)
		}
		circle.Years.To = 10*int64(number-1) - 1
		if got, failure := impl.AddLink(chainOfLinks(number), circle); number > 1 && (failure != impl.ErrNone || len(got) != number+1) {
			t.Errorf("AddLink to %d links, %v = %v, %d", number, circle, got, failure)
		}
	}
}

// A further link is taken exactly if the result is links.
func TestAddLinkToFewLinks(t *testing.T) {
	choices := linkChoices(3, "ash", "elm", "oak")
	for _, list := range listsOfLinks(choices, 2) {
		for _, l := range choices {
			var want []impl.Link
			code := int64(impl.ErrState)
			switch {
			case !areLinksBy(list, 4):
				code = impl.ErrInvalid
			case areLinksBy(append(slices.Clone(list), l), 4):
				want, code = append(slices.Clone(list), l), impl.ErrNone
			}
			if got, failure := impl.AddLink(list, l); failure != code || !slices.Equal(got, want) {
				t.Fatalf("AddLink(%v, %v) = %v, %d, want %v, %d", list, l, got, failure, want, code)
			}
		}
	}
}

func TestEndLinks(t *testing.T) {
	list := smallLinks()
	elm, ash, dale, brig, later, oak, oakLater := list[0], list[1], list[2], list[3], list[4], list[5], list[6]
	cases := []struct {
		code string
		year int64
		want []impl.Link
	}{
		// A place that is only a Child: before all its links, in the first year of one, in the year after it, in the last one and behind.
		{"ash", firstYear, []impl.Link{elm, dale, brig, oak, oakLater}}, {"ash", 999, []impl.Link{elm, dale, brig, oak, oakLater}}, {"ash", 1000, []impl.Link{elm, dale, brig, oak, oakLater}}, {"ash", 1001, []impl.Link{elm, linked("ash", "brig", 1000, 1000), dale, brig, oak, oakLater}},
		{"ash", 1099, []impl.Link{elm, linked("ash", "brig", 1000, 1098), dale, brig, oak, oakLater}}, {"ash", 1100, []impl.Link{elm, ash, dale, brig, oak, oakLater}}, {"ash", 1101, []impl.Link{elm, ash, dale, brig, linked("ash", "cork", 1100, 1100), oak, oakLater}}, {"ash", 1150, []impl.Link{elm, ash, dale, brig, linked("ash", "cork", 1100, 1149), oak, oakLater}}, {"ash", 1151, list}, {"ash", 1152, list}, {"ash", lastYear, list},
		// A place that is only a Parent, and one that is both.
		{"cork", 1000, []impl.Link{elm, ash, oak, oakLater}}, {"cork", 1060, []impl.Link{elm, ash, linked("dale", "cork", 1050, 1059), linked("brig", "cork", 1050, 1059), oak, oakLater}}, {"cork", 1061, []impl.Link{elm, ash, dale, linked("brig", "cork", 1050, 1060), oak, oakLater}}, {"cork", 1200, []impl.Link{elm, ash, dale, linked("brig", "cork", 1050, 1199), later, oak, oakLater}}, {"cork", 1201, list},
		{"brig", 1000, []impl.Link{dale, later, oak, oakLater}}, {"brig", 1050, []impl.Link{linked("elm", "brig", 1000, 1049), linked("ash", "brig", 1000, 1049), dale, later, oak, oakLater}}, {"brig", 1100, []impl.Link{linked("elm", "brig", 1000, 1099), ash, dale, linked("brig", "cork", 1050, 1099), later, oak, oakLater}}, {"brig", 1201, list},
		// Years at the ends of all years, and a place that is neither.
		{"oak", firstYear, list[:5]}, {"oak", firstYear + 1, append(slices.Clone(list[:5]), linked("oak", "fir", firstYear, firstYear))}, {"fir", firstYear, list[:5]}, {"fir", 1056, list[:6]}, {"fir", 1061, list[:6]}, {"fir", lastYear, append(slices.Clone(list[:6]), linked("oak", "fir", 1061, lastYear-1))}, {"missing", firstYear, list}, {"missing", 1060, list}, {"missing", lastYear, list}, {"as", 1060, list}, {"asha", 1060, list},
	}
	for _, c := range cases {
		if got, failure := impl.EndLinks(list, c.code, c.year); failure != impl.ErrNone || !slices.Equal(got, c.want) {
			t.Errorf("EndLinks(%q, %d) = %v, %d, want %v", c.code, c.year, got, failure, c.want)
		}
	}
	if got, failure := impl.EndLinks(starOfLinks(impl.MaxLinks), "a", 0); failure != impl.ErrNone || len(got) != 0 {
		t.Errorf("EndLinks of a star = %v, %d", got, failure)
	}
	if got, failure := impl.EndLinks(nil, "a", 0); failure != impl.ErrNone || len(got) != 0 {
		t.Errorf("EndLinks of no link = %v, %d", got, failure)
	}
}

// What is left by an ending are links, without the place from the year on and unchanged before it.
func TestEndLinksOfYears(t *testing.T) {
	for _, list := range append(listsOfLinks(linkChoices(3, "ash", "elm", "oak"), 2), listsOfLinks(linkChoices(2, "ash", "elm", "oak"), 3)...) {
		if !areLinksBy(list, 4) {
			continue
		}
		for _, code := range []string{"ash", "elm", "fir"} {
			for from := int64(0); from <= 4; from++ {
				got, failure := impl.EndLinks(list, code, from)
				if failure != impl.ErrNone || !impl.AreLinks(got) || !slices.Equal(got, endedLinksBy(list, code, from)) {
					t.Fatalf("EndLinks(%v, %q, %d) = %v, %d", list, code, from, got, failure)
				}
				checkEndedLinks(t, list, got, code, from)
			}
		}
	}
}

func checkEndedLinks(t *testing.T, list, ended []impl.Link, code string, from int64) {
	t.Helper()
	for year := int64(0); year <= 4; year++ {
		for _, child := range []string{"ash", "elm", "fir", "oak"} {
			parent, failure := impl.ParentIn(list, child, year)
			if year >= from && (child == code || parent == code) {
				parent, failure = "", impl.ErrNotFound
			}
			if got, missing := impl.ParentIn(ended, child, year); got != parent || missing != failure {
				t.Fatalf("%v, of which %q ended in %d, has the parent %q of %q in %d, %d, want %q", list, code, from, got, child, year, missing, parent)
			}
		}
	}
}

// Promise 14: in no year a place lies in itself, neither over what is given nor over what is added or ended.
func TestNoPlaceLiesInItself(t *testing.T) {
	lists := slices.Concat(someLinks(), notLinks(), listsOfLinks(linkChoices(2, "ash", "elm", "oak"), 2), listsOfLinks(linkChoices(1, "ash", "elm", "fir", "oak"), 4))
	for _, list := range lists {
		if !impl.AreLinks(list) {
			continue
		}
		checkNotInItself(t, list)
		if len(list) == 0 {
			continue
		}
		first, last := list[0], list[len(list)-1]
		if added, failure := impl.AddLink(list, linked(last.Parent, first.Child, last.Years.From, last.Years.To)); failure == impl.ErrNone {
			checkNotInItself(t, added)
		}
		ended, failure := impl.EndLinks(list, first.Child, min(first.Years.From+1, lastYear))
		wantCode(t, "EndLinks", failure, impl.ErrNone)
		checkNotInItself(t, ended)
	}
}

// isInItself follows the parents of a year as given, and not further than there are links.
func isInItself(list []impl.Link, code string, year int64) bool {
	parents, place := parentsBy(list, year), code
	for range list {
		if len(parents[place]) == 0 {
			return false
		}
		if place = parents[place][0]; place == code {
			return true
		}
	}
	return false
}

func checkNotInItself(t *testing.T, list []impl.Link) {
	t.Helper()
	for _, l := range list {
		for _, year := range []int64{l.Years.From, l.Years.To, 1, 300} {
			if isInItself(list, l.Child, year) {
				t.Fatalf("%q lies in itself in %d by %s", l.Child, year, fewLinks(list))
			}
			way, failure := impl.WayUp(list, l.Child, year)
			inside, missing := impl.InsideIn(list, l.Child, year)
			if failure != impl.ErrNone || missing != impl.ErrNone || slices.Contains(way[1:], l.Child) || slices.Contains(inside, l.Child) {
				t.Fatalf("%q lies in itself in %d by %s: %q, %d and %q, %d", l.Child, year, fewLinks(list), way, failure, inside, missing)
			}
			roots, failure := impl.RootsIn(list, year)
			if last := way[len(way)-1]; failure != impl.ErrNone || len(way) > 1 && !slices.Contains(roots, last) {
				t.Fatalf("the way up %q in %d by %s ends in no root %q, %d", way, year, fewLinks(list), roots, failure)
			}
		}
	}
}

// The years inside are those whose way up has the place, at the ends of all links and of all years too.
func TestYearsInsideFitWays(t *testing.T) {
	for _, list := range someLinks() {
		years := []int64{firstYear, firstYear + 1, -1, 0, lastYear - 1, lastYear}
		for _, l := range list {
			years = append(years, max(firstYear, l.Years.From-1), l.Years.From, l.Years.To, min(lastYear, l.Years.To+1))
		}
		for i, l := range list {
			parent := list[len(list)-1-i].Parent
			inside, failure := impl.YearsInside(list, l.Child, parent)
			if failure == impl.ErrState && l.Child == parent || failure == impl.ErrLimit && len(list) > impl.MaxSpans {
				continue
			}
			wantCode(t, "YearsInside of "+fewLinks(list), failure, impl.ErrNone)
			for _, year := range years {
				way, _ := impl.WayUp(list, l.Child, year)
				if got, _ := impl.HasYear(inside, year); got != slices.Contains(way, parent) {
					t.Fatalf("%q in %q in %d by %s: %v, but the way up is %q", l.Child, parent, year, fewLinks(list), got, way)
				}
			}
		}
	}
}

// refusedInLinks wants a code from each function of a year and one code of a place.
func refusedInLinks(t *testing.T, list []impl.Link, code string, year, want int64) {
	t.Helper()
	name := fmt.Sprintf("of %s, %.30q in %d", fewLinks(list), code, year)
	if got, failure := impl.ParentIn(list, code, year); failure != want || got != "" {
		t.Errorf("ParentIn %s = %q, %d, want %d", name, got, failure, want)
	}
	if got, failure := impl.WayUp(list, code, year); failure != want || len(got) != 0 {
		t.Errorf("WayUp %s = %q, %d, want %d", name, got, failure, want)
	}
	if got, failure := impl.ChildrenIn(list, code, year); failure != want || len(got) != 0 {
		t.Errorf("ChildrenIn %s = %q, %d, want %d", name, got, failure, want)
	}
	if got, failure := impl.InsideIn(list, code, year); failure != want || len(got) != 0 {
		t.Errorf("InsideIn %s = %q, %d, want %d", name, got, failure, want)
	}
	if got, failure := impl.EndLinks(list, code, year); failure != want || len(got) != 0 {
		t.Errorf("EndLinks %s = %v, %d, want %d", name, got, failure, want)
	}
}

func refusedMeeting(t *testing.T, list []impl.Link, a, b string, year, want int64) {
	t.Helper()
	if got, failure := impl.MeetingIn(list, a, b, year); failure != want || got != "" {
		t.Errorf("MeetingIn of %s, %.30q and %.30q in %d = %q, %d, want %d", fewLinks(list), a, b, year, got, failure, want)
	}
}

func refusedRoots(t *testing.T, list []impl.Link, year, want int64) {
	t.Helper()
	if got, failure := impl.RootsIn(list, year); failure != want || len(got) != 0 {
		t.Errorf("RootsIn of %s in %d = %q, %d, want %d", fewLinks(list), year, got, failure, want)
	}
}

func refusedInside(t *testing.T, list []impl.Link, a, b string, want int64) {
	t.Helper()
	if got, failure := impl.YearsInside(list, a, b); failure != want || len(got) != 0 {
		t.Errorf("YearsInside of %s, %.30q and %.30q = %v, %d, want %d", fewLinks(list), a, b, got, failure, want)
	}
}

func refusedLink(t *testing.T, list []impl.Link, l impl.Link, want int64) {
	t.Helper()
	if got, failure := impl.AddLink(list, l); failure != want || len(got) != 0 {
		t.Errorf("AddLink to %s, %.160s = %v, %d, want %d", fewLinks(list), fmt.Sprint(l), got, failure, want)
	}
}

// Lists that are no links are told before years out of range, places that are equal or missing, and results that cannot be.
func TestLinksRefuseLists(t *testing.T) {
	for _, list := range notLinks() {
		for _, code := range []string{"ash", "missing", "", "No"} {
			for _, year := range []int64{firstYear - 1, firstYear, 1, 300, lastYear, lastYear + 1} {
				refusedInLinks(t, list, code, year, impl.ErrInvalid)
				refusedMeeting(t, list, code, "elm", year, impl.ErrInvalid)
				refusedMeeting(t, list, "missing", code, year, impl.ErrInvalid)
			}
			refusedInside(t, list, code, "ash", impl.ErrInvalid)
			refusedInside(t, list, "elm", code, impl.ErrInvalid)
			refusedLink(t, list, linked(code, "yew", lastYear, lastYear), impl.ErrInvalid)
		}
		for _, year := range append(yearsOut(), firstYear, 0, 1, lastYear) {
			refusedRoots(t, list, year, impl.ErrInvalid)
		}
	}
}

// Codes and links that are none are told before years out of range, places that are equal or missing, and lists that are full.
func TestLinksRefuseOthers(t *testing.T) {
	for _, list := range [][]impl.Link{nil, smallLinks(), chainOfLinks(impl.MaxLinks), linksOver("ash", "elm", everyOther(0, impl.MaxLinks))} {
		for _, l := range notLink() {
			refusedLink(t, list, l, impl.ErrInvalid)
		}
		for _, s := range notWords() {
			for _, year := range append(yearsOut(), firstYear, 5, 1060, lastYear) {
				refusedInLinks(t, list, s, year, impl.ErrInvalid)
				refusedMeeting(t, list, s, "ash", year, impl.ErrInvalid)
				refusedMeeting(t, list, "ash", s, year, impl.ErrInvalid)
				refusedMeeting(t, list, s, s, year, impl.ErrInvalid)
			}
			refusedInside(t, list, s, "elm", impl.ErrInvalid)
			refusedInside(t, list, "ash", s, impl.ErrInvalid)
			refusedInside(t, list, s, s, impl.ErrInvalid)
		}
	}
}

// Years out of range are told before places that are missing; places inside themselves are refused whether a link has them or not.
func TestLinksRefuseYears(t *testing.T) {
	for _, list := range [][]impl.Link{nil, smallLinks(), chainOfLinks(impl.MaxLinks), linksOver("ash", "elm", everyOther(0, impl.MaxLinks)), {linked("ash", "elm", firstYear, lastYear)}} {
		for _, year := range yearsOut() {
			refusedRoots(t, list, year, impl.ErrRange)
			for _, code := range []string{"ash", "elm", "a", "missing"} {
				refusedInLinks(t, list, code, year, impl.ErrRange)
				refusedMeeting(t, list, code, "missing", year, impl.ErrRange)
				refusedMeeting(t, list, "ash", code, year, impl.ErrRange)
			}
		}
		for _, code := range []string{"ash", "elm", "a", "missing"} {
			refusedInside(t, list, code, code, impl.ErrState)
		}
		for _, year := range []int64{firstYear, 0, 1060, lastYear} {
			refusedMeeting(t, list, "ash", "missing", year, impl.ErrNotFound)
			refusedMeeting(t, list, "missing", "elm", year, impl.ErrNotFound)
		}
	}
}

// FirstYear and LastYear are years about which each function can be asked.
func TestLinksAcceptYears(t *testing.T) {
	for _, list := range someLinks() {
		for _, year := range []int64{firstYear, lastYear} {
			_, one := impl.WayUp(list, "ash", year)
			_, two := impl.ChildrenIn(list, "ash", year)
			_, three := impl.InsideIn(list, "ash", year)
			_, four := impl.MeetingIn(list, "ash", "ash", year)
			_, five := impl.EndLinks(list, "ash", year)
			_, six := impl.RootsIn(list, year)
			if !slices.Equal([]int64{one, two, three, four, five, six}, repeated(impl.ErrNone, 6)) {
				t.Fatalf("codes for %s in %d: %d, %d, %d, %d, %d, %d", fewLinks(list), year, one, two, three, four, five, six)
			}
		}
	}
}

func TestLinksKeepArguments(t *testing.T) {
	spare := linked("spare", "other", 7, 7)
	list, memory := withSpare(smallLinks(), spare)
	impl.AreLinks(list)
	for _, year := range []int64{firstYear, 1000, 1060, 1100, lastYear} {
		for _, code := range []string{"ash", "brig", "cork", "oak", "missing"} {
			impl.ParentIn(list, code, year)
			impl.WayUp(list, code, year)
			impl.ChildrenIn(list, code, year)
			impl.InsideIn(list, code, year)
			impl.MeetingIn(list, code, "elm", year)
			impl.YearsInside(list, code, "cork")
			impl.AddLink(list, linked("yew", code, 0, year))
			impl.AddLink(list, linked("yew", code, year, year))
			impl.EndLinks(list, code, year)
		}
		impl.RootsIn(list, year)
	}
	if !slices.Equal(memory, append(smallLinks(), spare, spare)) {
		t.Errorf("the links were changed: %v", memory)
	}
}

func TestLinksResultsAreNew(t *testing.T) {
	spare := linked("spare", "other", 7, 7)
	list, memory := withSpare(smallLinks(), spare)
	texts := func() [][]string {
		way, _ := impl.WayUp(list, "ash", 1060)
		children, _ := impl.ChildrenIn(list, "brig", 1060)
		inside, _ := impl.InsideIn(list, "cork", 1060)
		roots, _ := impl.RootsIn(list, 1055)
		return [][]string{way, children, inside, roots}
	}
	years := func() []impl.Span {
		inside, _ := impl.YearsInside(list, "oak", "fir")
		return inside
	}
	links := func() [][]impl.Link {
		added, _ := impl.AddLink(list, linked("yew", "ash", 0, 9))
		ended, _ := impl.EndLinks(list, "ash", 1060)
		same, _ := impl.EndLinks(list, "missing", 1060)
		return [][]impl.Link{added, ended, same}
	}
	texts1, years1, links1 := texts(), years(), links()
	for _, found := range texts() {
		for i := range found[:cap(found)] {
			found[:cap(found)][i] = "changed"
		}
	}
	for _, found := range [][]impl.Span{years()} {
		for i := range found[:cap(found)] {
			found[:cap(found)][i] = span(7, 7)
		}
	}
	for _, found := range links() {
		for i := range found[:cap(found)] {
			found[:cap(found)][i] = linked("changed", "changed", 7, 7)
		}
	}
	if !slices.Equal(memory, append(smallLinks(), spare, spare)) {
		t.Errorf("the links are %v after results were changed", memory)
	}
	texts2, years2, links2 := texts(), years(), links()
	if !slices.EqualFunc(texts1, texts2, slices.Equal[[]string]) || !slices.Equal(years1, years2) || !slices.EqualFunc(links1, links2, slices.Equal[[]impl.Link]) {
		t.Errorf("results are %q, %v and %v after others were changed", texts2, years2, links2)
	}
	if slices.ContainsFunc(texts1, func(found []string) bool { return len(found) == 0 }) || len(years1) != 2 {
		t.Errorf("a result is empty: %q, %v", texts1, years1)
	}
}

package tests

import (
	"fmt"
	"math"
	"regexp"
	"slices"
	"strconv"
	"strings"
	"testing"

	"loop.example/g01030/impl"
)

const firstYear, lastYear = int64(impl.FirstYear), int64(impl.LastYear)

func span(from, to int64) impl.Span { return impl.Span{From: from, To: to} }

// validSpans holds the limits of the years and the years beside them, and spans that meet, touch, or do neither.
func validSpans() []impl.Span {
	years := []int64{firstYear, firstYear + 1, firstYear + 2, -5, -1, 0, 1, 2, 3, 999, 1000, lastYear - 2, lastYear - 1, lastYear}
	var spans []impl.Span
	for i, from := range years {
		for _, to := range years[i:] {
			spans = append(spans, span(from, to))
		}
	}
	return spans
}

// notSpans break the description of a valid span.
func notSpans() []impl.Span {
	return []impl.Span{
		span(firstYear-1, firstYear-1), span(firstYear-1, firstYear), span(firstYear-1, 0), span(firstYear-1, lastYear), span(firstYear-1, lastYear+1), span(firstYear, lastYear+1),
		span(0, lastYear+1), span(lastYear, lastYear+1), span(lastYear+1, lastYear+1), span(1, 0), span(0, -1), span(lastYear, firstYear), span(lastYear, lastYear-1),
		span(firstYear, firstYear-1), span(lastYear+1, firstYear-1), span(math.MinInt64, math.MaxInt64), span(math.MinInt64, math.MinInt64),
		span(math.MaxInt64, math.MaxInt64), span(math.MaxInt64, math.MinInt64), span(0, math.MaxInt64), span(math.MinInt64, 0),
		span(math.MaxInt64, 0), span(0, math.MinInt64),
	}
}

// everyOther returns a number of spans of one year each, with one year between two of them.
func everyOther(from int64, number int) []impl.Span {
	list := make([]impl.Span, number)
	for i := range list {
		year := from + 2*int64(i)
		list[i] = span(year, year)
	}
	return list
}

func someYears() [][]impl.Span {
	sets := [][]impl.Span{
		nil, {}, {span(firstYear, lastYear)}, {span(firstYear, firstYear), span(lastYear, lastYear)}, {span(firstYear, 0), span(2, lastYear)}, {span(0, 0), span(2, 2)},
		{span(firstYear, lastYear-2), span(lastYear, lastYear)}, {span(firstYear, firstYear), span(firstYear+2, lastYear)}, {span(1000, 1010), span(1012, 1020), span(1500, 1600)},
		everyOther(0, impl.MaxSpans-1), everyOther(0, impl.MaxSpans), everyOther(firstYear, impl.MaxSpans),
		everyOther(lastYear-2*(impl.MaxSpans-1), impl.MaxSpans),
	}
	for _, s := range validSpans() {
		sets = append(sets, []impl.Span{s})
	}
	return sets
}

// notYears break the description of a set of years.
func notYears() [][]impl.Span {
	lists := [][]impl.Span{
		{span(1000, 1010), span(1011, 1020)}, {span(1000, 1010), span(1010, 1020)}, {span(1000, 1010), span(1005, 1020)},
		{span(1000, 1010), span(1002, 1004)}, {span(1000, 1010), span(1000, 1010)}, {span(1000, 1010), span(900, 910)},
		{span(1000, 1010), span(900, 999)}, {span(0, 0), span(1, 1)}, {span(2, 2), span(0, 0)}, {span(firstYear, 0), span(1, lastYear)},
		{span(0, 0), span(2, 2), span(3, 3)}, {span(0, 0), span(1, 1), span(3, 3)}, {span(0, 0), span(5, 5), span(2, 2)},
		{span(lastYear, lastYear), span(firstYear, firstYear)}, {span(0, math.MaxInt64), span(math.MinInt64, 0)},
		everyOther(0, impl.MaxSpans+1), everyOther(firstYear, 3001), slices.Repeat([]impl.Span{span(0, 0)}, 5000),
	}
	for _, s := range notSpans() {
		lists = append(lists, []impl.Span{s}, []impl.Span{span(-10, -10), s}, []impl.Span{s, span(10, 10)},
			append(everyOther(0, impl.MaxSpans-1), s), append(everyOther(0, impl.MaxSpans), s))
	}
	return lists
}

// yearTable tells of each year, from firstYear on, whether it is in a set.
type yearTable [lastYear - firstYear + 1]bool

func tableOf(list []impl.Span) *yearTable {
	var years yearTable
	for _, s := range list {
		for year := s.From; year <= s.To; year++ {
			years[year-firstYear] = true
		}
	}
	return &years
}

func (years *yearTable) has(year int64) bool {
	return firstYear <= year && year <= lastYear && years[year-firstYear]
}

func (years *yearTable) count() int64 {
	count := int64(0)
	for _, in := range years {
		if in {
			count++
		}
	}
	return count
}

// combined returns the longest spans that are possible of the years that a function chooses by two tables.
func combined(a, b *yearTable, choose func(inA, inB bool) bool) []impl.Span {
	var set []impl.Span
	open := false
	for i := range a {
		year := firstYear + int64(i)
		switch chosen := choose(a[i], b[i]); {
		case chosen && open:
			set[len(set)-1].To = year
		case chosen:
			set = append(set, span(year, year))
			open = true
		default:
			open = false
		}
	}
	return set
}

func inEither(inA, inB bool) bool { return inA || inB }

func inBoth(inA, inB bool) bool { return inA && inB }

func onlyInFirst(inA, inB bool) bool { return inA && !inB }

func wantSpans(t *testing.T, call string, got []impl.Span, code int64, want []impl.Span) {
	t.Helper()
	if code != impl.ErrNone || !slices.Equal(got, want) {
		t.Errorf("%s = %v, %d, want %v", call, got, code, want)
	}
}

// setsAround returns all sets of years that lie within a number of years from a year on; the bits of the index tell which are chosen.
func setsAround(from int64, number int) [][]impl.Span {
	sets := make([][]impl.Span, 1<<number)
	for chosen := range sets {
		for i := range number {
			year := from + int64(i)
			switch {
			case chosen>>i&1 == 0:
			case i > 0 && chosen>>(i-1)&1 == 1:
				sets[chosen][len(sets[chosen])-1].To = year
			default:
				sets[chosen] = append(sets[chosen], span(year, year))
			}
		}
	}
	return sets
}

const aroundYears = 6

var aroundStarts = []int64{firstYear, -3, lastYear - aroundYears + 1}

func TestSpanLimits(t *testing.T) {
	if impl.FirstYear != -3000 || impl.LastYear != 3000 || impl.MaxSpans != 12 {
		t.Error("the limits of chapter 2 differ from the document")
	}
}

func TestIsSpan(t *testing.T) {
	for _, s := range validSpans() {
		if !impl.IsSpan(s) {
			t.Errorf("%v is valid", s)
		}
	}
	for _, s := range notSpans() {
		if impl.IsSpan(s) {
			t.Errorf("%v is not valid", s)
		}
	}
}

func TestAreYears(t *testing.T) {
	for _, list := range someYears() {
		if !impl.AreYears(list) {
			t.Errorf("%v is a set of years", list)
		}
	}
	for _, list := range notYears() {
		if impl.AreYears(list) {
			t.Errorf("a list of %d spans that begins with %v is no set of years: %v", len(list), list[0], list[:min(len(list), 4)])
		}
	}
	// Two spans are a set only if at least one year lies between them.
	for _, a := range validSpans() {
		for _, b := range validSpans() {
			if got, want := impl.AreYears([]impl.Span{a, b}), b.From-a.To >= 2; got != want {
				t.Errorf("AreYears of %v and %v is %v", a, b, got)
			}
		}
	}
}

func TestSpansThatMeet(t *testing.T) {
	spans := validSpans()
	tables := make([]*yearTable, len(spans))
	for i, s := range spans {
		tables[i] = tableOf([]impl.Span{s})
	}
	for i, a := range spans {
		for j, b := range spans {
			want := combined(tables[i], tables[j], inBoth)
			meet, code := impl.DoMeet(a, b)
			if code != impl.ErrNone || meet != (len(want) == 1) {
				t.Errorf("DoMeet(%v, %v) = %v, %d", a, b, meet, code)
			}
			common, code := impl.MeetOf(a, b)
			switch {
			case len(want) == 0 && (code != impl.ErrNotFound || common != impl.Span{}):
				t.Errorf("MeetOf(%v, %v) = %v, %d for spans that do not meet", a, b, common, code)
			case len(want) == 1 && (code != impl.ErrNone || common != want[0]):
				t.Errorf("MeetOf(%v, %v) = %v, %d, want %v", a, b, common, code, want[0])
			}
		}
	}
}

func TestMeetOf(t *testing.T) {
	cases := []struct {
		a, b, want impl.Span
		code       int64
	}{
		{span(1000, 1100), span(1050, 1200), span(1050, 1100), impl.ErrNone},
		{span(1050, 1200), span(1000, 1100), span(1050, 1100), impl.ErrNone},
		{span(1000, 1100), span(1020, 1030), span(1020, 1030), impl.ErrNone},
		{span(1000, 1100), span(1000, 1100), span(1000, 1100), impl.ErrNone},
		{span(1000, 1100), span(1100, 1200), span(1100, 1100), impl.ErrNone},
		{span(1000, 1100), span(1101, 1200), span(0, 0), impl.ErrNotFound},
		{span(1000, 1100), span(1102, 1200), span(0, 0), impl.ErrNotFound},
		{span(1101, 1200), span(1000, 1100), span(0, 0), impl.ErrNotFound},
		{span(0, 0), span(0, 0), span(0, 0), impl.ErrNone},
		{span(firstYear, lastYear), span(lastYear, lastYear), span(lastYear, lastYear), impl.ErrNone},
		{span(firstYear, firstYear), span(firstYear, lastYear), span(firstYear, firstYear), impl.ErrNone},
		{span(firstYear, firstYear), span(lastYear, lastYear), span(0, 0), impl.ErrNotFound},
	}
	for _, c := range cases {
		got, code := impl.MeetOf(c.a, c.b)
		meet, two := impl.DoMeet(c.a, c.b)
		if got != c.want || code != c.code || meet != (c.code == impl.ErrNone) || two != impl.ErrNone {
			t.Errorf("%v and %v: MeetOf %v, %d, DoMeet %v, %d", c.a, c.b, got, code, meet, two)
		}
	}
}

// A span that is not valid is told before spans that do not meet.
func TestSpansThatAreNotValid(t *testing.T) {
	for _, s := range notSpans() {
		pairs := [][2]impl.Span{{s, s}}
		for _, valid := range []impl.Span{span(firstYear, lastYear), span(firstYear, firstYear), span(0, 0), span(lastYear, lastYear)} {
			pairs = append(pairs, [2]impl.Span{s, valid}, [2]impl.Span{valid, s})
		}
		for _, p := range pairs {
			if meet, code := impl.DoMeet(p[0], p[1]); meet || code != impl.ErrInvalid {
				t.Errorf("DoMeet(%v, %v) = %v, %d", p[0], p[1], meet, code)
			}
			if common, code := impl.MeetOf(p[0], p[1]); common != (impl.Span{}) || code != impl.ErrInvalid {
				t.Errorf("MeetOf(%v, %v) = %v, %d", p[0], p[1], common, code)
			}
		}
		if text, code := impl.SpanText(s); text != "" || code != impl.ErrInvalid {
			t.Errorf("SpanText(%v) = %q, %d", s, text, code)
		}
	}
}

// Promise 4: the years of a union are those of one or the other set.
func TestUnionHasTheYearsOfBoth(t *testing.T) {
	for _, start := range aroundStarts {
		sets := setsAround(start, aroundYears)
		for i, a := range sets {
			for j, b := range sets {
				union, code := impl.UnionOf(a, b)
				wantSpans(t, fmt.Sprintf("UnionOf(%v, %v)", a, b), union, code, sets[i|j])
				for year := start - 1; year <= start+aroundYears; year++ {
					inUnion, code := impl.HasYear(union, year)
					inA, two := impl.HasYear(a, year)
					inB, three := impl.HasYear(b, year)
					if code != impl.ErrNone || two != impl.ErrNone || three != impl.ErrNone || inUnion != (inA || inB) {
						t.Fatalf("the year %d is in the union %v of %v and %v: %v", year, union, a, b, inUnion)
					}
				}
			}
		}
	}
}

type setCall func(a []impl.Span, b []impl.Span) ([]impl.Span, int64)

// checkSets compares a function of two sets with a choice of years, also where the result would have too many spans.
func checkSets(t *testing.T, name string, call setCall, choose func(inA, inB bool) bool) {
	t.Helper()
	sets := someYears()
	tables := make([]*yearTable, len(sets))
	for i, set := range sets {
		tables[i] = tableOf(set)
	}
	tooMany := 0
	for i, a := range sets {
		for j, b := range sets {
			got, code := call(a, b)
			want := combined(tables[i], tables[j], choose)
			if len(want) > impl.MaxSpans {
				tooMany++
				if code != impl.ErrLimit || len(got) != 0 {
					t.Errorf("%s(%v, %v) = %v, %d", name, a, b, got, code)
				}
				continue
			}
			wantSpans(t, fmt.Sprintf("%s(%v, %v)", name, a, b), got, code, want)
			if !impl.AreYears(got) {
				t.Errorf("%s(%v, %v) = %v, which is no set of years", name, a, b, got)
			}
		}
	}
	if tooMany == 0 {
		t.Errorf("%s: no result would have too many spans", name)
	}
}

func TestSetsOfSomeYears(t *testing.T) {
	checkSets(t, "UnionOf", impl.UnionOf, inEither)
	checkSets(t, "WithoutYears", impl.WithoutYears, onlyInFirst)
}

func TestUnionOf(t *testing.T) {
	full := everyOther(0, impl.MaxSpans)
	cases := []struct{ a, b, want []impl.Span }{
		{nil, nil, nil}, {nil, full, full}, {full, []impl.Span{}, full}, {full, full, full},
		{[]impl.Span{span(1000, 1010)}, []impl.Span{span(1011, 1020)}, []impl.Span{span(1000, 1020)}},
		{[]impl.Span{span(1011, 1020)}, []impl.Span{span(1000, 1010)}, []impl.Span{span(1000, 1020)}},
		{[]impl.Span{span(1000, 1010)}, []impl.Span{span(1012, 1020)}, []impl.Span{span(1000, 1010), span(1012, 1020)}},
		{[]impl.Span{span(1012, 1020)}, []impl.Span{span(1000, 1010)}, []impl.Span{span(1000, 1010), span(1012, 1020)}},
		{[]impl.Span{span(1000, 1010)}, []impl.Span{span(1005, 1020)}, []impl.Span{span(1000, 1020)}},
		{[]impl.Span{span(1000, 1100)}, []impl.Span{span(1010, 1020), span(1030, 1040)}, []impl.Span{span(1000, 1100)}},
		{[]impl.Span{span(0, 2), span(6, 8)}, []impl.Span{span(3, 5)}, []impl.Span{span(0, 8)}},
		{[]impl.Span{span(firstYear, firstYear)}, []impl.Span{span(firstYear+1, lastYear)}, []impl.Span{span(firstYear, lastYear)}},
		// As many years as before in one span, where both sets have as many spans as a set may have.
		{full, everyOther(1, impl.MaxSpans), []impl.Span{span(0, 2*impl.MaxSpans-1)}},
		{everyOther(0, impl.MaxSpans-1), []impl.Span{span(2*impl.MaxSpans-2, 3000)}, append(everyOther(0, impl.MaxSpans-1), span(2*impl.MaxSpans-2, 3000))},
		{full, []impl.Span{span(1, 1)}, append([]impl.Span{span(0, 2)}, full[2:]...)},
		{full, []impl.Span{span(2*impl.MaxSpans-1, 100)}, append(everyOther(0, impl.MaxSpans-1), span(2*impl.MaxSpans-2, 100))},
	}
	for _, c := range cases {
		got, code := impl.UnionOf(c.a, c.b)
		wantSpans(t, fmt.Sprintf("UnionOf(%v, %v)", c.a, c.b), got, code, c.want)
	}
}

func TestWithoutYears(t *testing.T) {
	full := everyOther(0, impl.MaxSpans)
	cases := []struct{ a, b, want []impl.Span }{
		{nil, nil, nil}, {nil, full, nil}, {full, nil, full}, {full, full, nil}, {full, []impl.Span{span(firstYear, lastYear)}, nil},
		{full, everyOther(1, impl.MaxSpans), full},
		{[]impl.Span{span(1000, 1010)}, []impl.Span{span(1003, 1004)}, []impl.Span{span(1000, 1002), span(1005, 1010)}},
		{[]impl.Span{span(1000, 1010)}, []impl.Span{span(1000, 1004)}, []impl.Span{span(1005, 1010)}},
		{[]impl.Span{span(1000, 1010)}, []impl.Span{span(1004, 1010)}, []impl.Span{span(1000, 1003)}},
		{[]impl.Span{span(1000, 1010)}, []impl.Span{span(1011, 1020)}, []impl.Span{span(1000, 1010)}},
		{[]impl.Span{span(1000, 1010)}, []impl.Span{span(900, 999)}, []impl.Span{span(1000, 1010)}},
		{[]impl.Span{span(0, 10), span(20, 30)}, []impl.Span{span(5, 25)}, []impl.Span{span(0, 4), span(26, 30)}},
		{[]impl.Span{span(firstYear, lastYear)}, []impl.Span{span(firstYear, firstYear), span(lastYear, lastYear)}, []impl.Span{span(firstYear+1, lastYear-1)}},
		{[]impl.Span{span(firstYear, lastYear)}, []impl.Span{span(firstYear, lastYear)}, nil},
		{[]impl.Span{span(firstYear, lastYear)}, []impl.Span{span(firstYear+1, lastYear)}, []impl.Span{span(firstYear, firstYear)}},
		{[]impl.Span{span(firstYear, lastYear)}, []impl.Span{span(firstYear, lastYear-1)}, []impl.Span{span(lastYear, lastYear)}},
		// As many spans as a set may have: eleven holes, and twelve of which one is at an end.
		{[]impl.Span{span(-1, 21)}, everyOther(0, impl.MaxSpans-1), everyOther(-1, impl.MaxSpans)},
		{[]impl.Span{span(0, 23)}, full, everyOther(1, impl.MaxSpans)},
		{[]impl.Span{span(-1, 22)}, full, everyOther(-1, impl.MaxSpans)},
	}
	for _, c := range cases {
		got, code := impl.WithoutYears(c.a, c.b)
		wantSpans(t, fmt.Sprintf("WithoutYears(%v, %v)", c.a, c.b), got, code, c.want)
	}
	for _, start := range aroundStarts {
		sets := setsAround(start, aroundYears)
		for i, a := range sets {
			for j, b := range sets {
				got, code := impl.WithoutYears(a, b)
				wantSpans(t, fmt.Sprintf("WithoutYears(%v, %v)", a, b), got, code, sets[i&^j])
			}
		}
	}
}

func TestTooManySpans(t *testing.T) {
	full := everyOther(0, impl.MaxSpans)
	unions := [][2][]impl.Span{
		{full, {span(100, 100)}}, {{span(100, 100)}, full}, {full, {span(-2, -2)}}, {full, everyOther(100, impl.MaxSpans)},
		{full, {span(firstYear, firstYear)}}, {full, {span(lastYear, lastYear)}}, {everyOther(0, 7), everyOther(100, 6)},
		{full, {span(2*impl.MaxSpans, 100)}}, {everyOther(0, 6), everyOther(100, 7)},
	}
	for _, p := range unions {
		if got, code := impl.UnionOf(p[0], p[1]); code != impl.ErrLimit || len(got) != 0 {
			t.Errorf("UnionOf(%v, %v) = %v, %d", p[0], p[1], got, code)
		}
	}
	rests := [][2][]impl.Span{
		{{span(-1, 23)}, full}, {{span(firstYear, lastYear)}, full}, {{span(-100, 5), span(7, 100)}, full},
		{append(everyOther(0, impl.MaxSpans-1), span(100, 104)), {span(101, 101), span(103, 103)}},
	}
	for _, p := range rests {
		if got, code := impl.WithoutYears(p[0], p[1]); code != impl.ErrLimit || len(got) != 0 {
			t.Errorf("WithoutYears(%v, %v) = %v, %d", p[0], p[1], got, code)
		}
	}
}

// A list that is no set of years is told before a result with too many spans.
func TestListsThatAreNoYears(t *testing.T) {
	for _, list := range notYears() {
		short := list[:min(len(list), 4)]
		for _, set := range [][]impl.Span{nil, {span(firstYear, lastYear)}, {span(100, 200)}, everyOther(-1, impl.MaxSpans), everyOther(100, impl.MaxSpans), list} {
			for _, p := range [][2][]impl.Span{{list, set}, {set, list}} {
				if got, code := impl.UnionOf(p[0], p[1]); code != impl.ErrInvalid || len(got) != 0 {
					t.Errorf("UnionOf with %d spans %v = %v, %d", len(list), short, got, code)
				}
				if got, code := impl.WithoutYears(p[0], p[1]); code != impl.ErrInvalid || len(got) != 0 {
					t.Errorf("WithoutYears with %d spans %v = %v, %d", len(list), short, got, code)
				}
			}
		}
		for _, year := range []int64{0, 1000, 1005, firstYear, lastYear, lastYear + 1} {
			if has, code := impl.HasYear(list, year); has || code != impl.ErrInvalid {
				t.Errorf("HasYear of %d spans %v = %v, %d", len(list), short, has, code)
			}
		}
		if years, code := impl.CountYears(list); years != 0 || code != impl.ErrInvalid {
			t.Errorf("CountYears of %d spans %v = %d, %d", len(list), short, years, code)
		}
	}
}

func TestHasYearAndCountYears(t *testing.T) {
	for _, list := range someYears() {
		years := tableOf(list)
		if got, code := impl.CountYears(list); code != impl.ErrNone || got != years.count() {
			t.Errorf("CountYears(%v) = %d, %d, want %d", list, got, code, years.count())
		}
		for _, s := range append(list, span(firstYear, lastYear)) {
			for _, year := range []int64{s.From - 1, s.From, s.From + 1, s.To - 1, s.To, s.To + 1, 0} {
				if got, code := impl.HasYear(list, year); code != impl.ErrNone || got != years.has(year) {
					t.Errorf("HasYear(%v, %d) = %v, %d", list, year, got, code)
				}
			}
		}
		// A year that no span can have is in no set.
		for _, year := range []int64{firstYear - 1, lastYear + 1, math.MinInt64, math.MaxInt64} {
			if got, code := impl.HasYear(list, year); code != impl.ErrNone || got {
				t.Errorf("HasYear(%v, %d) = %v, %d", list, year, got, code)
			}
		}
	}
	if years, _ := impl.CountYears([]impl.Span{span(firstYear, lastYear)}); years != 6001 {
		t.Errorf("CountYears of all years = %d", years)
	}
}

// Promise 1, for spans: a span is recovered from its text.
func TestSpansAreRecovered(t *testing.T) {
	spans := append(validSpans(), span(-5, 7), span(-10, -9), span(1000, 1100))
	for year := firstYear; year <= lastYear; year++ {
		spans = append(spans, span(year, year), span(year, lastYear), span(firstYear, year))
	}
	for _, s := range spans {
		text, code := impl.SpanText(s)
		if want := strconv.FormatInt(s.From, 10) + ".." + strconv.FormatInt(s.To, 10); code != impl.ErrNone || text != want {
			t.Errorf("SpanText(%v) = %q, %d, want %q", s, text, code, want)
		}
		if back, code := impl.ReadSpan(text); code != impl.ErrNone || back != s {
			t.Errorf("ReadSpan(%q) = %v, %d, want %v", text, back, code, s)
		}
	}
}

// spanForm is what a text of two numbers with two dots between them looks like.
var spanForm = regexp.MustCompile(`\A(0|-?[1-9][0-9]{0,3})\.\.(0|-?[1-9][0-9]{0,3})\z`)

func TestOnlySpanTextsAreRead(t *testing.T) {
	texts := append(textsOver("-.013", 7), textsOver("-.1+ ", 6)...)
	for from := lastYear - 1; from <= lastYear+1; from++ {
		for to := lastYear - 1; to <= lastYear+1; to++ {
			texts = append(texts, fmt.Sprintf("%d..%d", from, to), fmt.Sprintf("%d..%d", -from, to), fmt.Sprintf("%d..%d", -from, -to))
		}
	}
	for _, text := range texts {
		want, wanted := impl.Span{}, int64(impl.ErrSyntax)
		if parts := spanForm.FindStringSubmatch(text); parts != nil {
			from, _ := strconv.ParseInt(parts[1], 10, 64)
			to, _ := strconv.ParseInt(parts[2], 10, 64)
			if firstYear <= from && from <= to && to <= lastYear {
				want, wanted = span(from, to), impl.ErrNone
			}
		}
		if got, code := impl.ReadSpan(text); got != want || code != wanted {
			t.Errorf("ReadSpan(%q) = %v, %d, want %v, %d", text, got, code, want, wanted)
		}
	}
}

func TestReadSpanRefuses(t *testing.T) {
	texts := []string{
		"", " ", "0", ".", "..", "...", "....", "0.", "0..", "..0", "0.0", "0...0", "0....0", "0..0..0", "0..0..", "..0..0", "0. .0", "0 ..0",
		"0.. 0", " 0..0", "0..0 ", "0..0\n", "\n0..0", "-0..0", "0..-0", "+1..2", "1..+2", "01..2", "1..02", "00..0", "0..00", "--1..0",
		"1-..2", "1..2-", "2..1", "0..-1", "-1..-2", "-3001..0", "-3001..-3001", "0..3001", "3001..3001", "-3001..3001", "3000..-3000",
		"-9223372036854775808..9223372036854775807", "0..9223372036854775808", "-9223372036854775809..0", "0..18446744073709551617",
		"18446744073709551616..1", "1_0..20", "0x1..0x2", "1e1..20", "a..b", "1..b", "a..2", "1,2", "1-2", "1…2", "١..٢", "0..0\x00", "\xff..0",
		"{0 0}", "0..\xff", strings.Repeat("9", 5000) + "..0", "0.." + strings.Repeat("9", 5000), "0.." + strings.Repeat("0", 5000),
		strings.Repeat(".", 5000), strings.Repeat("0..", 5000),
	}
	for _, text := range texts {
		if got, code := impl.ReadSpan(text); got != (impl.Span{}) || code != impl.ErrSyntax {
			t.Errorf("ReadSpan(%q) = %v, %d", text, got, code)
		}
	}
}

func TestSpansKeepArguments(t *testing.T) {
	spare := span(9, 9)
	a, memoryOfA := withSpare([]impl.Span{span(0, 2), span(10, 20), span(30, 40)}, spare)
	b, memoryOfB := withSpare([]impl.Span{span(1, 12), span(25, 29)}, spare)
	wantA, wantB := slices.Clone(memoryOfA), slices.Clone(memoryOfB)
	for _, p := range [][2][]impl.Span{{a, b}, {b, a}, {a, a}, {a, nil}, {nil, b}} {
		for _, call := range []setCall{impl.UnionOf, impl.WithoutYears} {
			result, code := call(p[0], p[1])
			wantCode(t, "UnionOf or WithoutYears", code, impl.ErrNone)
			// A result that shared memory with an argument would change it here.
			result = append(result, spare)
			for i := range result {
				result[i] = span(7, 7)
			}
		}
	}
	impl.AreYears(a)
	impl.HasYear(a, 15)
	impl.CountYears(a)
	if !slices.Equal(memoryOfA, wantA) || !slices.Equal(memoryOfB, wantB) {
		t.Errorf("arguments were changed: %v, %v", memoryOfA, memoryOfB)
	}
}

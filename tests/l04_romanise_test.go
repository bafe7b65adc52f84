package tests

import (
	"fmt"
	"math"
	"regexp"
	"slices"
	"strconv"
	"strings"
	"testing"

	"loop.example/g01030/impl"
)

const lastSign = int64(impl.MaxSigns - 1)

func rule(roman string, signs ...int64) impl.Rule { return impl.Rule{Signs: signs, Roman: roman} }

func sameRule(a, b impl.Rule) bool { return slices.Equal(a.Signs, b.Signs) && a.Roman == b.Roman }

func sameTable(a, b []impl.Rule) bool { return slices.EqualFunc(a, b, sameRule) }

func isZeroRule(r impl.Rule) bool { return len(r.Signs) == 0 && r.Roman == "" }

// copyOf returns a table that shares no memory with another one.
func copyOf(table []impl.Rule) []impl.Rule {
	var all []impl.Rule
	for _, r := range table {
		all = append(all, rule(r.Roman, slices.Clone(r.Signs)...))
	}
	return all
}

// someRules holds the limits of signs, of their number and of Roman.
func someRules() []impl.Rule {
	rules := []impl.Rule{
		rule("x", 0, 1), rule("sch", 3), rule("a", 10, 1), rule("a", 1, 10), rule("b", 0, 0), rule("b", 0, 0, 0), rule("zzzz", lastSign, lastSign, lastSign),
		rule("az", lastSign, 0, lastSign), rule("", 2, 1, 0), rule("abcd", 0, 10, lastSign),
	}
	for _, roman := range []string{"", "a", "z", "sh", "sch", "dzsh", wordOf("a", 4), wordOf("z", 4)} {
		for _, sign := range []int64{0, 1, 9, 10, lastSign - 1, lastSign} {
			rules = append(rules, rule(roman, sign), rule(roman, sign, 0), rule(roman, 0, sign, 1))
		}
	}
	return rules
}

// notRules break the description of a rule.
func notRules() []impl.Rule {
	rules := []impl.Rule{
		{}, rule("a"), rule("abcde"), {Signs: []int64{}, Roman: "a"}, rule("", 0, 1, 2, 3), rule("a", 0, 1, 2, 3), rule("a", repeated(0, 4)...), rule("a", repeated(1, 5000)...),
		rule("abcde", 0), rule("abcde", 0, 1, 2), rule(wordOf("a", 5), lastSign), rule(wordOf("z", impl.MaxWord), 0), rule(wordOf("a", 5000), 0), rule("abcde", 0, 1, 2, 3),
	}
	for _, sign := range []int64{impl.MaxSigns, impl.MaxSigns + 1, -1, -2, math.MinInt64, math.MaxInt64, 1 << 32, -1 << 32} {
		rules = append(rules, rule("a", sign), rule("", sign), rule("a", sign, 0), rule("a", 0, sign), rule("a", sign, 0, 1), rule("a", 0, sign, 1), rule("a", 0, 1, sign),
			rule("a", sign, sign, sign))
	}
	for _, roman := range []string{" ", "A", "aB", "a b", " a", "a ", "0", "a1", "-", "a-", "=", "a=", "+", "\n", "a\n", "\x00", "a\x00", "`", "{", "é", "ß", "а", "\xff", "a\xff", "\x80a"} {
		rules = append(rules, rule(roman, 0), rule(roman, 0, 1), rule(roman, 0, 1, lastSign))
	}
	return rules
}

// manyRules returns a number of rules of 3, 2 and 1 signs in turn, at most 60.
func manyRules(number int) []impl.Rule {
	table := make([]impl.Rule, number)
	for i := range table {
		sign := int64(i / 3)
		table[i] = rule(string(rune('a'+i/3))+"yz", []int64{sign, sign, lastSign}[:3-i%3]...)
	}
	return table
}

func someTables() [][]impl.Rule {
	tables := [][]impl.Rule{
		nil, {}, {rule("a", 0), rule("b", 1), rule("x", 0, 1)}, {rule("x", 0, 1), rule("b", 1), rule("a", 0)},
		// The same Roman more than once, the same signs in another order, and signs that begin other ones.
		{rule("a", 0), rule("a", 1), rule("a", 0, 1)}, {rule("", 0), rule("", 1)}, {rule("a", 0, 1), rule("a", 1, 0)}, {rule("a", 0, 1, 2), rule("b", 0, 2, 1), rule("c", 2, 1, 0)},
		{rule("a", 0), rule("b", 0, 0), rule("c", 0, 0, 0)}, {rule("c", 0, 0, 0), rule("b", 0, 0), rule("a", 0)}, {rule("a", 1, 11), rule("b", 11, 1)},
		{rule("a", 1, 2), rule("b", 12)}, manyRules(impl.MaxRules - 1), manyRules(impl.MaxRules),
	}
	for _, r := range someRules() {
		tables = append(tables, []impl.Rule{r})
	}
	return tables
}

// notTables break the description of a table.
func notTables() [][]impl.Rule {
	full := manyRules(impl.MaxRules)
	tables := [][]impl.Rule{
		{rule("a", 0), rule("a", 0)}, {rule("a", 0), rule("b", 0)}, {rule("a", 0), rule("", 0)}, {rule("a", 0), rule("b", 1), rule("c", 0)}, {rule("b", 1), rule("a", 0), rule("c", 0)},
		{rule("a", 0, 1), rule("b", 0, 1)}, {rule("a", 0, 1, 2), rule("b", 1), rule("a", 0, 1, 2)}, {rule("a", 0, 0), rule("b", 0), rule("c", 0, 0)},
		manyRules(impl.MaxRules + 1), append(copyOf(full), rule("a", lastSign)), append(copyOf(full), full[0]), append(copyOf(full[:impl.MaxRules-1]), full[0]),
		append(copyOf(full), rule("a")), slices.Repeat([]impl.Rule{rule("a", 0)}, impl.MaxRules), slices.Repeat([]impl.Rule{rule("a", 0)}, 5000),
	}
	for _, r := range notRules() {
		tables = append(tables, []impl.Rule{r}, []impl.Rule{r, rule("b", 1)}, []impl.Rule{rule("b", 1), r}, []impl.Rule{rule("b", 1), r, rule("c", 2)})
	}
	return tables
}

// notInputs are lists that are no words of another script.
func notInputs() [][]int64 {
	lists := [][]int64{nil, {}, repeated(0, impl.MaxInput+1), repeated(lastSign, impl.MaxInput+1), repeated(0, 5000), repeated(-1, 5000)}
	for _, sign := range []int64{impl.MaxSigns, impl.MaxSigns + 1, -1, math.MinInt64, math.MaxInt64, 1 << 32, -1 << 32} {
		lists = append(lists, []int64{sign}, []int64{sign, 0}, []int64{0, sign}, []int64{0, 1, sign}, append(repeated(0, impl.MaxInput-1), sign))
	}
	return lists
}

func briefly(table []impl.Rule) string {
	return fmt.Sprintf("%d rules %.80s", len(table), fmt.Sprintf("%.5v", table[:min(len(table), 4)]))
}

// inputsOver returns all lists of 1 to longest signs, each less than a number.
func inputsOver(signs int64, longest int) [][]int64 {
	all := [][]int64{nil}
	for first := 0; longest > 0; longest-- {
		end := len(all)
		for _, list := range all[first:end] {
			for sign := range signs {
				all = append(all, append(slices.Clone(list), sign))
			}
		}
		first = end
	}
	return all[1:]
}

// tablesOfTwoSigns has rules whose beginnings, ends and Romans overlap in many ways, some of them useless.
func tablesOfTwoSigns() [][]impl.Rule {
	return choicesOf(rule("a", 0), rule("", 1), rule("a", 0, 1), rule("x", 1, 0), rule("aa", 0, 0), rule("aa", 0, 0, 1), rule("", 1, 1, 1), rule("ax", 0, 1, 0))
}

// used tries all rules at each place and takes the one with the most signs.
func used(table []impl.Rule, signs []int64) ([]int64, bool) {
	var list []int64
	for len(signs) > 0 {
		best := -1
		for i, r := range table {
			begins := len(r.Signs) <= len(signs) && slices.Equal(r.Signs, signs[:len(r.Signs)])
			if begins && (best < 0 || len(r.Signs) > len(table[best].Signs)) {
				best = i
			}
		}
		if best < 0 {
			return nil, false
		}
		list = append(list, int64(best))
		signs = signs[len(table[best].Signs):]
	}
	return list, true
}

// made returns what the rules with some indices have: their signs and their Romans, one behind the other.
func made(table []impl.Rule, indices []int64) ([]int64, string) {
	var signs []int64
	roman := ""
	for _, index := range indices {
		signs = append(signs, table[index].Signs...)
		roman += table[index].Roman
	}
	return signs, roman
}

func TestRomaniseLimits(t *testing.T) {
	if impl.MaxRules != 30 || impl.MaxSigns != 20 || impl.MaxInput != 12 {
		t.Error("the limits of chapter 4 differ from the document")
	}
}

func TestIsRule(t *testing.T) {
	for _, r := range someRules() {
		if !impl.IsRule(r) {
			t.Errorf("%v is a rule", r)
		}
	}
	for _, r := range notRules() {
		if impl.IsRule(r) {
			t.Errorf("%.80v is no rule", r)
		}
	}
	for sign := int64(-300); sign <= 300; sign++ {
		want := 0 <= sign && sign <= lastSign
		for _, signs := range [][]int64{{sign}, {sign, 0}, {0, sign}, {sign, 0, 0}, {0, sign, 0}, {0, 0, sign}} {
			if got := impl.IsRule(rule("a", signs...)); got != want {
				t.Errorf("IsRule with the signs %v is %v", signs, got)
			}
		}
	}
	for c := range 256 {
		character := string([]byte{byte(c)})
		want := 'a' <= c && c <= 'z'
		for _, roman := range []string{character, character + "a", "a" + character, "ab" + character, character + "abc", "ab" + character + "c", "abc" + character} {
			if got := impl.IsRule(rule(roman, 0)); got != want {
				t.Errorf("IsRule with the Roman %q is %v", roman, got)
			}
		}
	}
}

func TestIsTable(t *testing.T) {
	for _, table := range append(someTables(), tablesOfTwoSigns()...) {
		if !impl.IsTable(table) {
			t.Errorf("%v is a table", table)
		}
	}
	for _, table := range notTables() {
		if impl.IsTable(table) {
			t.Errorf("%s: this is no table", briefly(table))
		}
	}
}

// Promise 6: the texts of the rules used make the romanisation. As chapter 4 adds, their signs make the word.
func TestRulesUsedMakeTheRomanisation(t *testing.T) {
	tables := append(tablesOfTwoSigns(), someTables()...)
	inputs := append(inputsOver(2, 6), inputsOver(3, 3)...)
	inputs = append(inputs, repeated(0, impl.MaxInput), repeated(1, impl.MaxInput), repeated(lastSign, impl.MaxInput), []int64{lastSign}, []int64{0, 0, lastSign, 1, 1, 2}, []int64{11, 1, 11, 12})
	romanised := 0
	for _, table := range tables {
		for _, signs := range inputs {
			indices, code := impl.RulesUsed(table, signs)
			roman, two := impl.Romanise(table, signs)
			want, ok := used(table, signs)
			if !ok {
				if code != impl.ErrNotFound || two != impl.ErrNotFound || len(indices) != 0 || roman != "" {
					t.Fatalf("with %v the signs %v have no romanisation, but %v and %q, codes %d and %d", table, signs, indices, roman, code, two)
				}
				continue
			}
			romanised++
			if code != impl.ErrNone || two != impl.ErrNone || !slices.Equal(indices, want) {
				t.Fatalf("RulesUsed(%v, %v) = %v, want %v, codes %d and %d", table, signs, indices, want, code, two)
			}
			if back, text := made(table, indices); text != roman || !slices.Equal(back, signs) {
				t.Fatalf("with %v the signs %v are romanised as %q, but the rules %v make %q of %v", table, signs, roman, indices, text, back)
			}
		}
	}
	if romanised == 0 || romanised == len(tables)*len(inputs) {
		t.Errorf("%d lists of signs can be romanised, which compares too little", romanised)
	}
}

func TestRomanise(t *testing.T) {
	table := []impl.Rule{rule("a", 0), rule("b", 1), rule("x", 0, 1)}
	full := manyRules(impl.MaxRules)
	cases := []struct {
		table []impl.Rule
		signs []int64
		want  string
		used  []int64
	}{
		{table, []int64{0, 1, 0}, "xa", []int64{2, 0}}, {table, []int64{0}, "a", []int64{0}}, {table, []int64{1, 0}, "ba", []int64{1, 0}},
		{table, []int64{0, 0, 1, 1}, "axb", []int64{0, 2, 1}}, {table, repeated(0, impl.MaxInput-1), "aaaaaaaaaaa", repeated(0, impl.MaxInput-1)},
		{table, repeated(0, impl.MaxInput), "aaaaaaaaaaaa", repeated(0, impl.MaxInput)},
		{[]impl.Rule{rule("abcd", 0)}, repeated(0, impl.MaxInput), strings.Repeat("abcd", impl.MaxInput), repeated(0, impl.MaxInput)},
		{[]impl.Rule{rule("x", 0, 1), rule("b", 1), rule("a", 0)}, []int64{0, 1, 0}, "xa", []int64{0, 2}},
		{[]impl.Rule{rule("a", 0), rule("b", 0, 0), rule("c", 0, 0, 0)}, repeated(0, 5), "cb", []int64{2, 1}},
		{[]impl.Rule{rule("c", 0, 0, 0), rule("b", 0, 0), rule("a", 0)}, repeated(0, 7), "cca", []int64{0, 0, 2}},
		// An empty romanisation is one.
		{[]impl.Rule{rule("", 0)}, []int64{0}, "", []int64{0}}, {[]impl.Rule{rule("", 0, 0)}, repeated(0, impl.MaxInput), "", repeated(0, impl.MaxInput/2)},
		{[]impl.Rule{rule("", 0), rule("a", 1)}, []int64{0, 1, 0}, "a", []int64{0, 1, 0}},
		// Signs of two digits are not signs of one digit.
		{[]impl.Rule{rule("a", 1, 1), rule("b", 11)}, []int64{11, 1, 1}, "ba", []int64{1, 0}}, {[]impl.Rule{rule("z", lastSign)}, []int64{lastSign}, "z", []int64{0}},
		{full, []int64{9, 9, lastSign, 9, 9, 9}, "jyzjyzjyz", []int64{27, 28, 29}}, {full, []int64{0, 0, 0, lastSign}, "", nil},
		// No rule fits.
		{nil, []int64{0}, "", nil}, {[]impl.Rule{}, repeated(0, impl.MaxInput), "", nil}, {table, []int64{2}, "", nil}, {table, []int64{0, 2}, "", nil}, {table, []int64{2, 0}, "", nil},
		{table, append(repeated(0, impl.MaxInput-1), lastSign), "", nil}, {[]impl.Rule{rule("x", 0, 1)}, []int64{0}, "", nil}, {[]impl.Rule{rule("x", 0, 1)}, []int64{0, 1, 0}, "", nil},
		{[]impl.Rule{rule("x", 0, 0)}, repeated(0, impl.MaxInput-1), "", nil}, {[]impl.Rule{rule("x", 0, 1, 2)}, []int64{0, 1}, "", nil}, {[]impl.Rule{rule("", 0)}, []int64{0, 1}, "", nil},
		// The longest rules lead to a place where no rule fits, although shorter ones would not.
		{[]impl.Rule{rule("a", 0), rule("x", 0, 1), rule("y", 1, 2)}, []int64{0, 1, 2}, "", nil}, {[]impl.Rule{rule("a", 0, 0), rule("b", 0, 0, 0)}, repeated(0, 4), "", nil},
		{[]impl.Rule{rule("a", 0), rule("x", 0, 1, 2), rule("b", 1), rule("y", 2, 3)}, []int64{0, 1, 2, 3}, "", nil},
		{[]impl.Rule{rule("a", 0, 0), rule("b", 0, 0, 0)}, repeated(0, 5), "ba", []int64{1, 0}},
	}
	for _, c := range cases {
		code := int64(impl.ErrNone)
		if c.used == nil {
			code = impl.ErrNotFound
		}
		if got, one := impl.Romanise(c.table, c.signs); one != code || got != c.want {
			t.Errorf("Romanise(%v, %v) = %q, %d, want %q, %d", c.table, c.signs, got, one, c.want, code)
		}
		if got, two := impl.RulesUsed(c.table, c.signs); two != code || !slices.Equal(got, c.used) {
			t.Errorf("RulesUsed(%v, %v) = %v, %d, want %v, %d", c.table, c.signs, got, two, c.used, code)
		}
	}
}

// No table and no signs are told before signs without a romanisation.
func TestRomanisingRefuses(t *testing.T) {
	type call struct {
		table []impl.Rule
		signs []int64
	}
	var calls []call
	for _, table := range notTables() {
		calls = append(calls, call{table, []int64{0}}, call{table, []int64{1, 1}}, call{table, []int64{lastSign}}, call{table, nil}, call{table, []int64{-1}}, call{table, repeated(0, impl.MaxInput+1)})
	}
	for _, signs := range notInputs() {
		for _, table := range [][]impl.Rule{nil, {rule("a", 0)}, {rule("b", 5)}, {rule("a", 0), rule("b", 1), rule("z", lastSign)}, {rule("", 0, 0, 0)}, manyRules(impl.MaxRules)} {
			calls = append(calls, call{table, signs})
		}
	}
	for _, c := range calls {
		name := fmt.Sprintf("with %s and %d signs %v", briefly(c.table), len(c.signs), c.signs[:min(len(c.signs), 4)])
		if got, code := impl.Romanise(c.table, c.signs); code != impl.ErrInvalid || got != "" {
			t.Errorf("%s: Romanise = %q, %d", name, got, code)
		}
		if got, code := impl.RulesUsed(c.table, c.signs); code != impl.ErrInvalid || len(got) != 0 {
			t.Errorf("%s: RulesUsed = %v, %d", name, got, code)
		}
	}
}

func TestSignsCovered(t *testing.T) {
	allSigns := []impl.Rule{}
	increasing := []int64{}
	for sign := range lastSign + 1 {
		allSigns = append(allSigns, rule("", lastSign-sign))
		increasing = append(increasing, sign)
	}
	cases := []struct {
		table []impl.Rule
		want  []int64
	}{
		{nil, nil}, {[]impl.Rule{}, nil}, {[]impl.Rule{rule("a", 0)}, []int64{0}}, {[]impl.Rule{rule("", lastSign)}, []int64{lastSign}},
		{[]impl.Rule{rule("x", 0, 1), rule("y", 2, 3, 4)}, nil}, {[]impl.Rule{rule("x", 0, 0)}, nil}, {[]impl.Rule{rule("x", 0, 0), rule("a", 0), rule("y", 0, 0, 0)}, []int64{0}},
		{[]impl.Rule{rule("b", 5), rule("x", 5, 3), rule("c", 3), rule("d", lastSign), rule("a", 0)}, []int64{0, 3, 5, lastSign}}, {allSigns, increasing},
		{manyRules(impl.MaxRules), []int64{0, 1, 2, 3, 4, 5, 6, 7, 8, 9}}, {manyRules(impl.MaxRules - 1), []int64{0, 1, 2, 3, 4, 5, 6, 7, 8}},
	}
	for _, c := range cases {
		if got, code := impl.SignsCovered(c.table); code != impl.ErrNone || !slices.Equal(got, c.want) {
			t.Errorf("SignsCovered(%v) = %v, %d, want %v", c.table, got, code, c.want)
		}
	}
	for _, table := range notTables() {
		if got, code := impl.SignsCovered(table); code != impl.ErrInvalid || len(got) != 0 {
			t.Errorf("SignsCovered of %s = %v, %d", briefly(table), got, code)
		}
	}
}

func TestCoveredSignsCanBeRomanised(t *testing.T) {
	for _, table := range tablesOfTwoSigns() {
		covered, code := impl.SignsCovered(table)
		wantCode(t, "SignsCovered", code, impl.ErrNone)
		for sign := range lastSign + 1 {
			own := slices.ContainsFunc(table, func(r impl.Rule) bool { return slices.Equal(r.Signs, []int64{sign}) })
			if slices.Contains(covered, sign) != own {
				t.Fatalf("SignsCovered(%v) = %v", table, covered)
			}
		}
		for _, signs := range inputsOver(2, 5) {
			foreign := slices.ContainsFunc(signs, func(sign int64) bool { return !slices.Contains(covered, sign) })
			if _, code := impl.Romanise(table, signs); !foreign && code != impl.ErrNone {
				t.Fatalf("with %v the covered signs %v are not romanised: %d", table, signs, code)
			}
		}
	}
}

func TestUselessRules(t *testing.T) {
	full := append(manyRules(impl.MaxRules-2), rule("zz", 18, 18), rule("z", 18))
	cases := []struct {
		table []impl.Rule
		want  []int64
	}{
		{nil, nil}, {[]impl.Rule{rule("a", 0), rule("b", 1), rule("x", 0, 1)}, nil}, {[]impl.Rule{rule("a", 0), rule("b", 1), rule("ab", 0, 1)}, []int64{2}},
		{[]impl.Rule{rule("ab", 0, 1), rule("b", 1), rule("a", 0)}, []int64{0}}, {[]impl.Rule{rule("a", 0), rule("b", 1), rule("ba", 0, 1), rule("ba", 1, 0)}, []int64{3}},
		// Without the rule only a part of its signs is romanised, or none.
		{[]impl.Rule{rule("a", 0), rule("a", 0, 1)}, nil}, {[]impl.Rule{rule("b", 1), rule("b", 0, 1)}, nil}, {[]impl.Rule{rule("ab", 0, 1)}, nil},
		// A rule with one sign is never useless, and no romanisation is not an empty one.
		{[]impl.Rule{rule("", 0)}, nil}, {[]impl.Rule{rule("a", 0), rule("a", 1)}, nil}, {[]impl.Rule{rule("", 0, 1)}, nil}, {[]impl.Rule{rule("", 0), rule("", 0, 1)}, nil},
		{[]impl.Rule{rule("", 0), rule("", 1), rule("", 0, 1)}, []int64{2}}, {[]impl.Rule{rule("", 0), rule("", 0, 0), rule("", 0, 0, 0)}, []int64{1, 2}},
		// The table without the rule still has the other useless ones, which are longer than their parts.
		{[]impl.Rule{rule("abc", 0, 1, 2), rule("ab", 0, 1), rule("a", 0), rule("b", 1), rule("c", 2)}, []int64{0, 1}},
		{[]impl.Rule{rule("abc", 0, 1, 2), rule("x", 0, 1), rule("a", 0), rule("b", 1), rule("c", 2)}, nil},
		{[]impl.Rule{rule("xc", 0, 1, 2), rule("x", 0, 1), rule("a", 0), rule("b", 1), rule("c", 2)}, []int64{0}},
		{[]impl.Rule{rule("xc", 0, 1, 2), rule("x", 0, 1), rule("c", 2)}, []int64{0}}, {[]impl.Rule{rule("ay", 0, 1, 2), rule("a", 0), rule("y", 1, 2)}, []int64{0}},
		// The longest of the other rules leads to a place where no rule fits.
		{[]impl.Rule{rule("ay", 0, 1, 2), rule("a", 0), rule("y", 1, 2), rule("x", 0, 1)}, nil},
		{full, []int64{impl.MaxRules - 2}},
	}
	for _, c := range cases {
		if got, code := impl.UselessRules(c.table); code != impl.ErrNone || !slices.Equal(got, c.want) {
			t.Errorf("UselessRules(%v) = %v, %d, want %v", c.table, got, code, c.want)
		}
	}
	for _, table := range notTables() {
		if got, code := impl.UselessRules(table); code != impl.ErrInvalid || len(got) != 0 {
			t.Errorf("UselessRules of %s = %v, %d", briefly(table), got, code)
		}
	}
}

func TestUselessRulesAreMadeByOthers(t *testing.T) {
	found := 0
	for _, table := range tablesOfTwoSigns() {
		var want []int64
		for i, r := range table {
			others := slices.Concat(table[:i], table[i+1:])
			indices, ok := used(others, r.Signs)
			if _, roman := made(others, indices); ok && len(r.Signs) > 1 && roman == r.Roman {
				want = append(want, int64(i))
			}
		}
		found += len(want)
		if got, code := impl.UselessRules(table); code != impl.ErrNone || !slices.Equal(got, want) {
			t.Fatalf("UselessRules(%v) = %v, %d, want %v", table, got, code, want)
		}
	}
	if found == 0 {
		t.Error("no table has useless rules, which compares too little")
	}
}

func TestAddRule(t *testing.T) {
	for _, table := range append(someTables(), choicesOf(someRules()[:6]...)...) {
		for _, r := range append(someRules(), rule("new", 0), rule("new", 17, 18), rule("new", 0, 0, lastSign)) {
			want, code := copyOf(table), int64(impl.ErrNone)
			same := slices.IndexFunc(table, func(other impl.Rule) bool { return slices.Equal(other.Signs, r.Signs) })
			switch {
			case same >= 0:
				want[same].Roman = r.Roman
			case len(table) < impl.MaxRules:
				want = append(want, r)
			default:
				want, code = nil, impl.ErrState
			}
			got, one := impl.AddRule(table, r)
			if one != code || !sameTable(got, want) {
				t.Fatalf("AddRule(%v, %v) = %v, %d, want %v, %d", table, r, got, one, want, code)
			}
			if code == impl.ErrNone && !impl.IsTable(got) {
				t.Fatalf("AddRule(%v, %v) = %v, which is no table", table, r, got)
			}
		}
	}
}

func TestAddRuleAtTheLimit(t *testing.T) {
	almost, full := manyRules(impl.MaxRules-1), manyRules(impl.MaxRules)
	if got, code := impl.AddRule(almost, full[impl.MaxRules-1]); code != impl.ErrNone || !sameTable(got, full) {
		t.Errorf("AddRule to %s = %s, %d", briefly(almost), briefly(got), code)
	}
	for _, r := range []impl.Rule{rule("a", lastSign), rule("", lastSign), rule("a", 0, 1), rule("a", 0, 0, 0)} {
		if got, code := impl.AddRule(full, r); code != impl.ErrState || len(got) != 0 {
			t.Errorf("AddRule of %v to a full table = %s, %d", r, briefly(got), code)
		}
	}
	for i, r := range full {
		want := copyOf(full)
		want[i].Roman = "new"
		if got, code := impl.AddRule(full, rule("new", r.Signs...)); code != impl.ErrNone || !sameTable(got, want) {
			t.Errorf("AddRule of the signs %v to a full table = %v, %d", r.Signs, got, code)
		}
	}
}

// No table and no rule are told before a table that is full.
func TestAddRuleRefuses(t *testing.T) {
	type call struct {
		table []impl.Rule
		r     impl.Rule
	}
	var calls []call
	for _, table := range notTables() {
		calls = append(calls, call{table, rule("a", 0)}, call{table, rule("a", 7, 8)}, call{table, impl.Rule{}}, call{table, rule("abcde", 0)})
	}
	for _, r := range notRules() {
		calls = append(calls, call{nil, r}, call{[]impl.Rule{rule("b", 1)}, r}, call{manyRules(impl.MaxRules), r})
	}
	for _, c := range calls {
		if got, code := impl.AddRule(c.table, c.r); code != impl.ErrInvalid || len(got) != 0 {
			t.Errorf("AddRule of %.80v to %s = %s, %d", c.r, briefly(c.table), briefly(got), code)
		}
	}
}

// Promise 1, for rules: a rule is recovered from its text.
func TestRulesAreRecovered(t *testing.T) {
	for _, r := range append(someRules(), manyRules(impl.MaxRules)...) {
		text, code := impl.RuleText(r)
		if want := strings.ReplaceAll(strings.Trim(fmt.Sprint(r.Signs), "[]"), " ", "+") + "=" + r.Roman; code != impl.ErrNone || text != want {
			t.Errorf("RuleText(%v) = %q, %d, want %q", r, text, code, want)
		}
		if back, code := impl.ReadRule(text); code != impl.ErrNone || !sameRule(back, r) {
			t.Errorf("ReadRule(%q) = %v, %d, want %v", text, back, code, r)
		}
	}
	for _, r := range notRules() {
		if text, code := impl.RuleText(r); code != impl.ErrInvalid || text != "" {
			t.Errorf("RuleText(%.80v) = %.40q, %d", r, text, code)
		}
	}
}

// ruleForm is what a text of a rule looks like, with a sign for each of the three parts.
var ruleForm = regexp.MustCompile(`\A(1?[0-9])(?:\+(1?[0-9]))?(?:\+(1?[0-9]))?=([a-z]{0,4})\z`)

// ruleIn returns the rule that a text has by its form.
func ruleIn(text string) (impl.Rule, bool) {
	parts := ruleForm.FindStringSubmatch(text)
	if parts == nil {
		return impl.Rule{}, false
	}
	r := impl.Rule{Roman: parts[4]}
	for _, part := range parts[1:4] {
		if sign, err := strconv.Atoi(part); err == nil {
			r.Signs = append(r.Signs, int64(sign))
		}
	}
	return r, true
}

func TestOnlyRuleTextsAreRead(t *testing.T) {
	texts := append(textsOver("01+=a", 7), textsOver("29+=zA- \n", 5)...)
	for number := range 120 {
		digits := strconv.Itoa(number)
		texts = append(texts, digits+"=a", "0"+digits+"=a", digits+"+0=a", "0+"+digits+"=a", "0+0"+digits+"=", "1+"+digits+"+2=abcd", "1+2+"+digits+"=", "-"+digits+"=a")
	}
	read := 0
	for _, text := range texts {
		want, ok := ruleIn(text)
		wanted := int64(impl.ErrSyntax)
		if ok {
			read++
			wanted = impl.ErrNone
		}
		if got, code := impl.ReadRule(text); code != wanted || !sameRule(got, want) {
			t.Fatalf("ReadRule(%q) = %v, %d, want %v, %d", text, got, code, want, wanted)
		}
	}
	if read == 0 || read == len(texts) {
		t.Errorf("%d texts are read, which compares too little", read)
	}
}

func TestReadRule(t *testing.T) {
	cases := []struct {
		text string
		want impl.Rule
	}{
		{"0+1=x", rule("x", 0, 1)}, {"0=", rule("", 0)}, {"19=", rule("", lastSign)}, {"0+0+0=", rule("", 0, 0, 0)}, {"19+19+19=zzzz", rule("zzzz", lastSign, lastSign, lastSign)},
		{"10+1=a", rule("a", 10, 1)}, {"3=sch", rule("sch", 3)}, {"2+10+0=abcd", rule("abcd", 2, 10, 0)},
	}
	for _, c := range cases {
		if got, code := impl.ReadRule(c.text); code != impl.ErrNone || !sameRule(got, c.want) {
			t.Errorf("ReadRule(%q) = %v, %d, want %v", c.text, got, code, c.want)
		}
	}
}

func TestReadRuleRefuses(t *testing.T) {
	texts := []string{
		"", "=", "=a", "a", "0", "0+1", "a=0", "x=x", "-", "+", "+=a", "0+=a", "+0=a", "0++1=a", "0+1+=a", "+0+1=a", "0+1+2+3=a", "0+1+2+=a", "0+1+2+3+4=a",
		// A sign that begins with 0, that has a sign in front, or that is none.
		"00=a", "01=a", "007=a", "0+01=a", "01+0=a", "0+1+02=a", "-0=a", "-1=a", "0+-1=a", "++1=a", "20=a", "0+20=a", "0+1+20=a", "99=a", "100=a", "9223372036854775807=a", "9223372036854775808=a",
		"-9223372036854775808=a", "18446744073709551616=a", "1e0=a", "0x1=a", "1_0=a", "1.0=a", "0b1=a", "٠=a", "１=a", "Inf=a", "nan=a",
		// No equals sign, two of them, or one in another place.
		"0a", "0+1x", "0 a", "0:a", "0==a", "0=a=", "0=a=b", "0==", "0=1=a", "=0=a", "0=+a", "0+=1=a", "0=1", "0=0+1", "0=a+b", "0,1=a", "0;1=a", "0 1=a", "0-1=a",
		// Blanks and other characters.
		" 0=a", "0 =a", "0= a", "0=a ", "0= ", "0 + 1=a", "0+ 1=a", "0 +1=a", "0=a b", "0=a\n", "\n0=a", "0\n=a", "\t0=a", "0=a\x00", "\x000=a", "0=A", "0=aB", "0=a1", "0=-", "0=é", "0=ß", "0=\xff",
		"\xff0=a", "0=abcde", "0+1+2=abcde", "0=" + wordOf("a", impl.MaxWord), "0=" + wordOf("a", 5000), strings.Repeat("0+", 5000) + "0=a", strings.Repeat("0", 5000) + "=a",
		strings.Repeat("=", 5000), strings.Repeat("+", 5000), "0" + strings.Repeat("=", 5000),
	}
	for _, text := range texts {
		if got, code := impl.ReadRule(text); code != impl.ErrSyntax || !isZeroRule(got) {
			t.Errorf("ReadRule(%.40q) = %.80v, %d", text, got, code)
		}
	}
}

func TestRomanisingKeepsArguments(t *testing.T) {
	var memories [][]int64
	part := func(signs ...int64) []int64 {
		list, memory := withSpare(signs, 9)
		memories = append(memories, memory)
		return list
	}
	rules := []impl.Rule{rule("b", part(1)...), rule("ab", part(0, 1)...), rule("a", part(0)...), rule("z", part(5, 5, 5)...)}
	signs, further, same := part(0, 1, 0), rule("n", part(7, 8)...), rule("n", part(0, 1)...)
	table, memory := withSpare(rules, rule("spare", part(3, 4)...))
	before, numbers := copyOf(memory), slices.Clone(memories)
	for i, list := range memories {
		numbers[i] = slices.Clone(list)
	}
	impl.IsTable(table)
	impl.Romanise(table, signs)
	impl.RulesUsed(table, signs)
	impl.SignsCovered(table)
	impl.UselessRules(table)
	impl.AddRule(table, further)
	impl.AddRule(table, same)
	for _, r := range append(slices.Clone(rules), further, same) {
		impl.IsRule(r)
		impl.RuleText(r)
	}
	if !sameTable(memory, before) || !slices.EqualFunc(memories, numbers, slices.Equal) {
		t.Errorf("arguments were changed: %v, %v", memory, memories)
	}
}

// The rules of a table may share their memory, but those of a result do not.
func TestAddedTablesAreNew(t *testing.T) {
	for _, further := range []impl.Rule{rule("n", 7), rule("n", 0, 1), rule("n", 2)} {
		signs := []int64{0, 1, 2}
		table := []impl.Rule{rule("x", signs[:2]...), rule("y", signs[1:]...), rule("z", signs...), rule("c", signs[2:]...), rule("", further.Signs[0], 9)}
		r := rule(further.Roman, slices.Clone(further.Signs)...)
		result, code := impl.AddRule(table, r)
		wantCode(t, "AddRule", code, impl.ErrNone)
		want := copyOf(result)
		for i := range result {
			for j := range result[i].Signs {
				result[i].Signs[j] += 100
				want[i].Signs[j] += 100
				if !sameTable(result, want) {
					t.Fatalf("rules of a result share memory: %v, want %v", result, want)
				}
			}
			result[i].Roman = "q"
			want[i].Roman = "q"
			_ = append(result[i].Signs, 77)
			if !sameTable(result, want) {
				t.Fatalf("rules of a result share spare memory: %v, want %v", result, want)
			}
		}
		if !slices.Equal(signs, []int64{0, 1, 2}) || table[0].Roman != "x" || !sameRule(r, further) {
			t.Errorf("a changed result changes the arguments: %v, %v, %v", signs, table, r)
		}
	}
}

func TestRomanisingResultsAreNew(t *testing.T) {
	table := []impl.Rule{rule("a", 0), rule("b", 1), rule("ab", 0, 1)}
	results := []func() []int64{
		func() []int64 { list, _ := impl.RulesUsed(table, []int64{0, 1, 0}); return list },
		func() []int64 { list, _ := impl.SignsCovered(table); return list },
		func() []int64 { list, _ := impl.UselessRules(table); return list },
		func() []int64 { r, _ := impl.ReadRule("0+1=x"); return r.Signs },
	}
	for i, result := range results {
		first := result()
		want := slices.Clone(first)
		first[0] = 7
		if second := result(); !slices.Equal(second, want) || table[0].Signs[0] != 0 {
			t.Errorf("result %d is %v after it was changed, want %v", i, second, want)
		}
	}
}

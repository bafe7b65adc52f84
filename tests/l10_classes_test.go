package tests

import (
	"fmt"
	"math"
	"slices"
	"testing"

	"loop.example/g01030/impl"
)

// treesOf returns all trees with a number of classes.
func treesOf(classes int) [][]int64 {
	all := [][]int64{{-1}}
	for class := 1; class < classes; class++ {
		var longer [][]int64
		for _, tree := range all {
			for parent := range int64(class) {
				longer = append(longer, append(slices.Clone(tree), parent))
			}
		}
		all = longer
	}
	return all
}

// chainOf returns the tree in which each class is the parent of the next one.
func chainOf(classes int) []int64 {
	var tree []int64
	for class := range int64(classes) {
		tree = append(tree, class-1)
	}
	return tree
}

// starOf returns the tree in which the first class is the parent of all others.
func starOf(classes int) []int64 {
	tree := repeated(0, classes)
	tree[0] = -1
	return tree
}

// halvesOf returns the tree in which each class is the parent of two others, as far as there are classes.
func halvesOf(classes int) []int64 {
	tree := []int64{-1}
	for class := 1; class < classes; class++ {
		tree = append(tree, int64(class-1)/2)
	}
	return tree
}

// mixedTree returns a tree whose classes have parents near and far, differently for each seed.
func mixedTree(classes int, seed uint32) []int64 {
	tree := []int64{-1}
	for class := 1; class < classes; class++ {
		seed = seed*1103515245 + 12345
		tree = append(tree, int64(seed>>16)%int64(class))
	}
	return tree
}

// countedDown returns the numbers from first down to 0.
func countedDown(first int64) []int64 {
	list := countedTo(first + 1)
	slices.Reverse(list)
	return list
}

// largeTrees returns trees with almost as many classes as there may be, and with just as many.
func largeTrees() [][]int64 {
	var all [][]int64
	for classes := impl.MaxClasses - 2; classes <= impl.MaxClasses; classes++ {
		all = append(all, chainOf(classes), starOf(classes), halvesOf(classes))
		for seed := range uint32(20) {
			all = append(all, mixedTree(classes, seed))
		}
	}
	return all
}

func someTrees() [][]int64 {
	all := largeTrees()
	for classes := 1; classes <= 6; classes++ {
		all = append(all, treesOf(classes)...)
	}
	return all
}

func notClassTrees() [][]int64 {
	all := [][]int64{
		nil, {}, chainOf(impl.MaxClasses + 1), starOf(impl.MaxClasses + 1), halvesOf(impl.MaxClasses + 1), chainOf(5000), starOf(256), starOf(257),
		// The first number is not -1.
		{0}, {1}, {-2}, {math.MaxInt64}, {math.MinInt64}, {math.MaxUint32}, {0, 0}, {1, 0}, {0, -1}, {0, 0, 0}, {-2, 0, 1},
		// A later one is -1.
		{-1, -1}, {-1, 0, -1}, {-1, -1, 0}, {-1, -1, -1}, {-1, 0, -1, 0},
		// A class is its own parent, or its parent comes later or is none.
		{-1, 1}, {-1, 0, 2}, {-1, 1, 0}, {-1, 2, 0}, {-1, 2, 1}, {-1, 0, 3, 0}, {-1, 0, 3, 2}, {-1, 2}, {-1, 0, 3}, {-1, 0, 1, 4},
		// Parents below -1, and ones that would be earlier classes in fewer bits.
		{-1, -2}, {-1, 0, -2}, {-1, -3, 0}, {-1, math.MinInt64}, {-1, math.MaxInt64}, {-1, 1 << 32}, {-1, -1 << 32}, {-1, 256}, {-1, 0, 1 << 32}, {-1, 0, 1<<32 + 1},
	}
	for _, first := range []int64{-2, 0, 1, impl.MaxClasses - 1} {
		for _, tree := range [][]int64{chainOf(impl.MaxClasses), starOf(impl.MaxClasses), halvesOf(5)} {
			tree[0] = first
			all = append(all, tree)
		}
	}
	for class := 1; class < impl.MaxClasses; class++ {
		for _, parent := range []int64{-2, -1, int64(class), int64(class) + 1, impl.MaxClasses} {
			for _, tree := range [][]int64{chainOf(impl.MaxClasses), starOf(impl.MaxClasses)} {
				tree[class] = parent
				all = append(all, tree)
			}
		}
	}
	return all
}

// classesOut returns numbers that are no index of a class of a tree, some of which would be one in fewer bits.
func classesOut(tree []int64) []int64 {
	classes := int64(len(tree))
	return []int64{-1, classes, -2, classes + 1, impl.MaxClasses, impl.MaxClasses + 1, -classes, 256, 1 << 32, 1<<32 + 1, -1 << 32, math.MinInt64, math.MaxInt64}
}

// kindTable tells for each class a and each class b whether a is a kind of b: of itself, of its parent, and of what follows from these.
func kindTable(tree []int64) [][]bool {
	is := make([][]bool, len(tree))
	for a := range tree {
		is[a] = make([]bool, len(tree))
		is[a][a] = true
		if a > 0 {
			is[a][tree[a]] = true
		}
	}
	for between := range tree {
		for a := range tree {
			for b := range tree {
				is[a][b] = is[a][b] || is[a][between] && is[between][b]
			}
		}
	}
	return is
}

// stepTable tells for each class a and each class b the least number of steps from a to b, in both directions.
func stepTable(tree []int64) [][]int64 {
	steps := make([][]int64, len(tree))
	for a := range tree {
		steps[a] = repeated(2*impl.MaxClasses, len(tree))
		steps[a][a] = 0
	}
	for class, parent := range tree[1:] {
		steps[class+1][parent], steps[parent][class+1] = 1, 1
	}
	for between := range tree {
		for a := range tree {
			for b := range tree {
				steps[a][b] = min(steps[a][b], steps[a][between]+steps[between][b])
			}
		}
	}
	return steps
}

// commonBy returns the classes of which both a and b are a kind and that are a kind of all others of this sort.
func commonBy(is [][]bool, a, b int64) []int64 {
	shared := slices.DeleteFunc(countedTo(int64(len(is))), func(c int64) bool { return !is[a][c] || !is[b][c] })
	return slices.DeleteFunc(slices.Clone(shared), func(c int64) bool {
		return slices.ContainsFunc(shared, func(other int64) bool { return !is[c][other] })
	})
}

// smallTree returns the tree with 1 and 2 below 0, 3 and 4 below 1, 5 below 2, and 6 below 3.
func smallTree() []int64 { return []int64{-1, 0, 0, 1, 1, 2, 3} }

func TestClassesLimit(t *testing.T) {
	if impl.MaxClasses != 20 {
		t.Errorf("MaxClasses = %d", impl.MaxClasses)
	}
}

func TestIsClassTree(t *testing.T) {
	for _, tree := range append(someTrees(), []int64{-1}, chainOf(impl.MaxClasses), starOf(impl.MaxClasses)) {
		if !impl.IsClassTree(tree) {
			t.Errorf("IsClassTree(%v) = false", tree)
		}
	}
	for _, tree := range notClassTrees() {
		if impl.IsClassTree(tree) {
			t.Errorf("IsClassTree of %d numbers %v = true", len(tree), tree[:min(len(tree), impl.MaxClasses+1)])
		}
	}
}

// Of all short lists those are trees that are built class by class.
func TestOnlyTreesAreTrees(t *testing.T) {
	for length := range 6 {
		trees := map[string]bool{}
		if length > 0 {
			for _, tree := range treesOf(length) {
				trees[fmt.Sprint(tree)] = true
			}
		}
		lists := [][]int64{{}}
		for range length {
			var longer [][]int64
			for _, list := range lists {
				for n := int64(-2); n <= 5; n++ {
					longer = append(longer, append(slices.Clone(list), n))
				}
			}
			lists = longer
		}
		for _, list := range lists {
			if got, want := impl.IsClassTree(list), trees[fmt.Sprint(list)]; got != want {
				t.Fatalf("IsClassTree(%v) = %v", list, got)
			}
		}
	}
}

func TestIsKindOf(t *testing.T) {
	cases := []struct {
		tree []int64
		a, b int64
		want bool
	}{
		{[]int64{-1}, 0, 0, true}, {smallTree(), 3, 3, true}, {smallTree(), 3, 1, true}, {smallTree(), 3, 0, true}, {smallTree(), 6, 1, true}, {smallTree(), 6, 0, true}, {smallTree(), 0, 0, true},
		{smallTree(), 1, 3, false}, {smallTree(), 0, 3, false}, {smallTree(), 0, 6, false}, {smallTree(), 3, 4, false}, {smallTree(), 3, 2, false}, {smallTree(), 6, 4, false}, {smallTree(), 5, 1, false}, {smallTree(), 2, 1, false}, {smallTree(), 1, 2, false},
		{chainOf(impl.MaxClasses), 19, 0, true}, {chainOf(impl.MaxClasses), 19, 19, true}, {chainOf(impl.MaxClasses), 19, 18, true}, {chainOf(impl.MaxClasses), 18, 19, false}, {chainOf(impl.MaxClasses), 0, 19, false},
		{starOf(impl.MaxClasses), 19, 0, true}, {starOf(impl.MaxClasses), 19, 18, false}, {starOf(impl.MaxClasses), 0, 19, false},
	}
	for _, c := range cases {
		if got, code := impl.IsKindOf(c.tree, c.a, c.b); code != impl.ErrNone || got != c.want {
			t.Errorf("IsKindOf(%v, %d, %d) = %v, %d, want %v", c.tree, c.a, c.b, got, code, c.want)
		}
	}
}

func TestKindsAndSubclasses(t *testing.T) {
	cases := []struct {
		tree              []int64
		a                 int64
		kinds, subclasses []int64
	}{
		{[]int64{-1}, 0, []int64{0}, []int64{0}}, {smallTree(), 0, []int64{0}, countedTo(7)}, {smallTree(), 1, []int64{1, 0}, []int64{1, 3, 4, 6}}, {smallTree(), 2, []int64{2, 0}, []int64{2, 5}}, {smallTree(), 3, []int64{3, 1, 0}, []int64{3, 6}}, {smallTree(), 4, []int64{4, 1, 0}, []int64{4}}, {smallTree(), 6, []int64{6, 3, 1, 0}, []int64{6}},
		// Children of a later class come before those of an earlier one.
		{[]int64{-1, 0, 0, 2, 1, 2}, 0, []int64{0}, countedTo(6)}, {[]int64{-1, 0, 0, 2, 1, 2}, 1, []int64{1, 0}, []int64{1, 4}}, {[]int64{-1, 0, 0, 2, 1, 2}, 2, []int64{2, 0}, []int64{2, 3, 5}}, {[]int64{-1, 0, 1, 1, 3, 2, 0}, 1, []int64{1, 0}, []int64{1, 2, 3, 4, 5}},
		{chainOf(impl.MaxClasses), 0, []int64{0}, countedTo(impl.MaxClasses)}, {chainOf(impl.MaxClasses), 17, countedDown(17), []int64{17, 18, 19}}, {chainOf(impl.MaxClasses), 19, countedDown(19), []int64{19}}, {starOf(impl.MaxClasses), 0, []int64{0}, countedTo(impl.MaxClasses)}, {starOf(impl.MaxClasses), 19, []int64{19, 0}, []int64{19}},
	}
	for _, c := range cases {
		if got, code := impl.KindsOf(c.tree, c.a); code != impl.ErrNone || !slices.Equal(got, c.kinds) {
			t.Errorf("KindsOf(%v, %d) = %v, %d, want %v", c.tree, c.a, got, code, c.kinds)
		}
		if got, code := impl.SubclassesOf(c.tree, c.a); code != impl.ErrNone || !slices.Equal(got, c.subclasses) {
			t.Errorf("SubclassesOf(%v, %d) = %v, %d, want %v", c.tree, c.a, got, code, c.subclasses)
		}
	}
}

// A class is a kind of those that KindsOf tells, and they have it among their subclasses.
func TestKindsOfAllClasses(t *testing.T) {
	for _, tree := range someTrees() {
		is, classes := kindTable(tree), countedTo(int64(len(tree)))
		for _, a := range classes {
			// Each parent is an earlier class, so the way up is decreasing.
			kinds := slices.DeleteFunc(countedDown(a), func(b int64) bool { return !is[a][b] })
			if got, code := impl.KindsOf(tree, a); code != impl.ErrNone || !slices.Equal(got, kinds) {
				t.Fatalf("KindsOf(%v, %d) = %v, %d, want %v", tree, a, got, code, kinds)
			}
			subclasses := slices.DeleteFunc(slices.Clone(classes), func(b int64) bool { return !is[b][a] })
			if got, code := impl.SubclassesOf(tree, a); code != impl.ErrNone || !slices.Equal(got, subclasses) {
				t.Fatalf("SubclassesOf(%v, %d) = %v, %d, want %v", tree, a, got, code, subclasses)
			}
			for _, b := range classes {
				if got, code := impl.IsKindOf(tree, a, b); code != impl.ErrNone || got != is[a][b] {
					t.Fatalf("IsKindOf(%v, %d, %d) = %v, %d", tree, a, b, got, code)
				}
			}
		}
	}
}

func TestCommonKindAndDistance(t *testing.T) {
	cases := []struct {
		tree           []int64
		a, b           int64
		common, number int64
	}{
		// The same class twice.
		{[]int64{-1}, 0, 0, 0, 0}, {smallTree(), 0, 0, 0, 0}, {smallTree(), 4, 4, 4, 0}, {smallTree(), 6, 6, 6, 0},
		// A class that is a kind of the other.
		{smallTree(), 6, 3, 3, 1}, {smallTree(), 6, 1, 1, 2}, {smallTree(), 6, 0, 0, 3}, {smallTree(), 5, 2, 2, 1}, {smallTree(), 5, 0, 0, 2}, {chainOf(impl.MaxClasses), 19, 0, 0, 19}, {chainOf(impl.MaxClasses), 19, 18, 18, 1}, {chainOf(impl.MaxClasses), 12, 5, 5, 7},
		// Two of which neither is a kind of the other.
		{smallTree(), 3, 4, 1, 2}, {smallTree(), 6, 4, 1, 3}, {smallTree(), 3, 2, 0, 3}, {smallTree(), 6, 5, 0, 5}, {smallTree(), 1, 2, 0, 2}, {starOf(impl.MaxClasses), 19, 18, 0, 2}, {starOf(impl.MaxClasses), 1, 19, 0, 2},
		// The greater class has the smaller parent.
		{[]int64{-1, 0, 1, 1, 3, 2, 0}, 5, 4, 1, 4}, {[]int64{-1, 0, 1, 1, 3, 2, 0}, 6, 5, 0, 4}, {[]int64{-1, 0, 1, 2, 1}, 4, 3, 1, 3},
	}
	for _, c := range cases {
		for range 2 {
			if got, code := impl.CommonKind(c.tree, c.a, c.b); code != impl.ErrNone || got != c.common {
				t.Errorf("CommonKind(%v, %d, %d) = %d, %d, want %d", c.tree, c.a, c.b, got, code, c.common)
			}
			if got, code := impl.DistanceOf(c.tree, c.a, c.b); code != impl.ErrNone || got != c.number {
				t.Errorf("DistanceOf(%v, %d, %d) = %d, %d, want %d", c.tree, c.a, c.b, got, code, c.number)
			}
			c.a, c.b = c.b, c.a
		}
	}
	// A chain whose two ends meet in the first class has the greatest distance.
	tree := []int64{-1, 0, 0}
	for class := int64(3); class < impl.MaxClasses; class++ {
		tree = append(tree, class-2)
	}
	if got, code := impl.DistanceOf(tree, 18, 19); code != impl.ErrNone || got != impl.MaxClasses-1 {
		t.Errorf("DistanceOf(%v, 18, 19) = %d, %d", tree, got, code)
	}
}

// Promise 12: the distance of classes is the sum of those from the common kind, which is the same in both orders.
func TestDistanceIsTheSum(t *testing.T) {
	for _, tree := range someTrees() {
		is, steps := kindTable(tree), stepTable(tree)
		for a := range int64(len(tree)) {
			for b := range int64(len(tree)) {
				common, code := impl.CommonKind(tree, a, b)
				if want := commonBy(is, a, b); code != impl.ErrNone || !slices.Equal([]int64{common}, want) {
					t.Fatalf("CommonKind(%v, %d, %d) = %d, %d, want %v", tree, a, b, common, code, want)
				}
				if back, code := impl.CommonKind(tree, b, a); code != impl.ErrNone || back != common {
					t.Fatalf("CommonKind(%v, %d, %d) = %d, but %d, %d in the other order", tree, a, b, common, back, code)
				}
				distance, code := impl.DistanceOf(tree, a, b)
				if code != impl.ErrNone || distance != steps[a][b] {
					t.Fatalf("DistanceOf(%v, %d, %d) = %d, %d, want %d", tree, a, b, distance, code, steps[a][b])
				}
				first, one := impl.DistanceOf(tree, common, a)
				second, two := impl.DistanceOf(tree, common, b)
				if one != impl.ErrNone || two != impl.ErrNone || first+second != distance {
					t.Fatalf("DistanceOf(%v, %d, %d) = %d, but %d and %d from %d", tree, a, b, distance, first, second, common)
				}
			}
		}
	}
}

func TestLeavesOf(t *testing.T) {
	cases := []struct{ tree, want []int64 }{
		{[]int64{-1}, []int64{0}}, {[]int64{-1, 0}, []int64{1}}, {[]int64{-1, 0, 0}, []int64{1, 2}}, {smallTree(), []int64{4, 5, 6}}, {[]int64{-1, 0, 1, 0, 3}, []int64{2, 4}}, {[]int64{-1, 0, 0, 2, 2}, []int64{1, 3, 4}},
		{chainOf(impl.MaxClasses), []int64{19}}, {starOf(impl.MaxClasses), countedTo(impl.MaxClasses)[1:]}, {halvesOf(impl.MaxClasses), countedTo(impl.MaxClasses)[10:]},
	}
	for _, c := range cases {
		if got, code := impl.LeavesOf(c.tree); code != impl.ErrNone || !slices.Equal(got, c.want) {
			t.Errorf("LeavesOf(%v) = %v, %d, want %v", c.tree, got, code, c.want)
		}
	}
	for _, tree := range someTrees() {
		// No other class is a kind of a leaf.
		is := kindTable(tree)
		want := slices.DeleteFunc(countedTo(int64(len(tree))), func(a int64) bool {
			return slices.ContainsFunc(countedTo(int64(len(tree))), func(b int64) bool { return b != a && is[b][a] })
		})
		if got, code := impl.LeavesOf(tree); code != impl.ErrNone || !slices.Equal(got, want) {
			t.Fatalf("LeavesOf(%v) = %v, %d, want %v", tree, got, code, want)
		}
	}
}

func TestAddClass(t *testing.T) {
	cases := []struct {
		tree   []int64
		parent int64
		want   []int64
	}{
		{[]int64{-1}, 0, []int64{-1, 0}}, {[]int64{-1, 0, 0}, 0, []int64{-1, 0, 0, 0}}, {[]int64{-1, 0, 0}, 1, []int64{-1, 0, 0, 1}}, {[]int64{-1, 0, 0}, 2, []int64{-1, 0, 0, 2}},
		// The parent is a leaf, and one that has children.
		{smallTree(), 4, []int64{-1, 0, 0, 1, 1, 2, 3, 4}}, {smallTree(), 6, []int64{-1, 0, 0, 1, 1, 2, 3, 6}}, {smallTree(), 1, []int64{-1, 0, 0, 1, 1, 2, 3, 1}},
		{chainOf(impl.MaxClasses - 1), impl.MaxClasses - 2, chainOf(impl.MaxClasses)}, {starOf(impl.MaxClasses - 1), 0, starOf(impl.MaxClasses)},
	}
	for _, c := range cases {
		if got, code := impl.AddClass(c.tree, c.parent); code != impl.ErrNone || !slices.Equal(got, c.want) {
			t.Errorf("AddClass(%v, %d) = %v, %d, want %v", c.tree, c.parent, got, code, c.want)
		}
	}
	for _, tree := range someTrees() {
		for parent := range int64(len(tree)) {
			got, code := impl.AddClass(tree, parent)
			if len(tree) == impl.MaxClasses {
				if code != impl.ErrLimit || len(got) != 0 {
					t.Fatalf("AddClass(%v, %d) = %v, %d", tree, parent, got, code)
				}
				continue
			}
			if code != impl.ErrNone || !slices.Equal(got, append(slices.Clone(tree), parent)) || !impl.IsClassTree(got) {
				t.Fatalf("AddClass(%v, %d) = %v, %d", tree, parent, got, code)
			}
		}
	}
}

func TestMoveClass(t *testing.T) {
	cases := []struct {
		tree      []int64
		a, parent int64
		want      []int64 // nil for ErrState
	}{
		{[]int64{-1, 0, 0, 1, 1}, 4, 2, []int64{-1, 0, 0, 1, 2}},
		// To the parent that it has, to a smaller class, to a greater one that comes before it, and to a leaf.
		{smallTree(), 4, 1, smallTree()}, {[]int64{-1, 0}, 1, 0, []int64{-1, 0}}, {smallTree(), 6, 1, []int64{-1, 0, 0, 1, 1, 2, 1}}, {smallTree(), 6, 0, []int64{-1, 0, 0, 1, 1, 2, 0}}, {smallTree(), 6, 5, []int64{-1, 0, 0, 1, 1, 2, 5}}, {smallTree(), 6, 4, []int64{-1, 0, 0, 1, 1, 2, 4}}, {smallTree(), 2, 1, []int64{-1, 0, 1, 1, 1, 2, 3}},
		// A class with children takes them along.
		{smallTree(), 3, 2, []int64{-1, 0, 0, 2, 1, 2, 3}}, {smallTree(), 3, 0, []int64{-1, 0, 0, 0, 1, 2, 3}},
		// To itself, to a greater class, and the first class to any.
		{smallTree(), 3, 3, nil}, {smallTree(), 6, 6, nil}, {smallTree(), 3, 4, nil}, {smallTree(), 3, 6, nil}, {smallTree(), 1, 2, nil}, {smallTree(), 5, 6, nil}, {smallTree(), 0, 0, nil}, {smallTree(), 0, 1, nil}, {smallTree(), 0, 6, nil}, {[]int64{-1}, 0, 0, nil}, {[]int64{-1, 0}, 0, 1, nil}, {[]int64{-1, 0}, 1, 1, nil},
	}
	for _, c := range cases {
		code := int64(impl.ErrNone)
		if c.want == nil {
			code = impl.ErrState
		}
		if got, one := impl.MoveClass(c.tree, c.a, c.parent); one != code || !slices.Equal(got, c.want) {
			t.Errorf("MoveClass(%v, %d, %d) = %v, %d, want %v, %d", c.tree, c.a, c.parent, got, one, c.want, code)
		}
	}
	for _, tree := range someTrees() {
		for a := range int64(len(tree)) {
			for parent := range int64(len(tree)) {
				got, code := impl.MoveClass(tree, a, parent)
				if a == 0 || parent >= a {
					if code != impl.ErrState || len(got) != 0 {
						t.Fatalf("MoveClass(%v, %d, %d) = %v, %d", tree, a, parent, got, code)
					}
					continue
				}
				want := slices.Concat(tree[:a], []int64{parent}, tree[a+1:])
				if code != impl.ErrNone || !slices.Equal(got, want) || !impl.IsClassTree(got) {
					t.Fatalf("MoveClass(%v, %d, %d) = %v, %d, want %v", tree, a, parent, got, code, want)
				}
			}
		}
	}
}

// refusedClass wants a code from each function of one class.
func refusedClass(t *testing.T, tree []int64, a, code int64) {
	t.Helper()
	name := fmt.Sprintf("of %d numbers %v and %d", len(tree), tree[:min(len(tree), impl.MaxClasses)], a)
	if got, one := impl.KindsOf(tree, a); one != code || len(got) != 0 {
		t.Errorf("KindsOf %s = %v, %d, want %d", name, got, one, code)
	}
	if got, one := impl.SubclassesOf(tree, a); one != code || len(got) != 0 {
		t.Errorf("SubclassesOf %s = %v, %d, want %d", name, got, one, code)
	}
	if got, one := impl.AddClass(tree, a); one != code || len(got) != 0 {
		t.Errorf("AddClass %s = %v, %d, want %d", name, got, one, code)
	}
}

// refusedClasses wants a code from each function of two classes.
func refusedClasses(t *testing.T, tree []int64, a, b, code int64) {
	t.Helper()
	name := fmt.Sprintf("of %d numbers %v, %d and %d", len(tree), tree[:min(len(tree), impl.MaxClasses)], a, b)
	if got, one := impl.IsKindOf(tree, a, b); one != code || got {
		t.Errorf("IsKindOf %s = %v, %d, want %d", name, got, one, code)
	}
	if got, one := impl.CommonKind(tree, a, b); one != code || got != 0 {
		t.Errorf("CommonKind %s = %d, %d, want %d", name, got, one, code)
	}
	if got, one := impl.DistanceOf(tree, a, b); one != code || got != 0 {
		t.Errorf("DistanceOf %s = %d, %d, want %d", name, got, one, code)
	}
	if got, one := impl.MoveClass(tree, a, b); one != code || len(got) != 0 {
		t.Errorf("MoveClass %s = %v, %d, want %d", name, got, one, code)
	}
}

// Lists that are no trees are told before classes that are none, a full tree and moves that cannot be.
func TestClassesRefuseLists(t *testing.T) {
	for _, tree := range notClassTrees() {
		if got, code := impl.LeavesOf(tree); code != impl.ErrInvalid || len(got) != 0 {
			t.Errorf("LeavesOf of %d numbers = %v, %d", len(tree), got, code)
		}
		for _, a := range append(classesOut(tree), 0, 1, 2, int64(len(tree))-1) {
			refusedClass(t, tree, a, impl.ErrInvalid)
			for _, b := range []int64{-1, 0, 1, a, a - 1, int64(len(tree)), math.MinInt64, math.MaxInt64} {
				refusedClasses(t, tree, a, b, impl.ErrInvalid)
			}
		}
	}
}

// Classes that are none are told before a full tree and moves that cannot be.
func TestClassesRefuseIndices(t *testing.T) {
	for _, tree := range [][]int64{{-1}, {-1, 0}, smallTree(), chainOf(impl.MaxClasses - 1), chainOf(impl.MaxClasses), starOf(impl.MaxClasses), halvesOf(impl.MaxClasses)} {
		for _, out := range classesOut(tree) {
			if out >= 0 && out < int64(len(tree)) {
				t.Fatalf("%d is a class of %v", out, tree)
			}
			refusedClass(t, tree, out, impl.ErrRange)
			for class := range int64(len(tree)) {
				refusedClasses(t, tree, out, class, impl.ErrRange)
				refusedClasses(t, tree, class, out, impl.ErrRange)
			}
			for _, other := range classesOut(tree) {
				refusedClasses(t, tree, out, other, impl.ErrRange)
			}
		}
	}
}

// The first and the last class are classes of each tree.
func TestFirstAndLastClass(t *testing.T) {
	for _, tree := range someTrees() {
		for _, a := range []int64{0, int64(len(tree)) - 1} {
			_, one := impl.KindsOf(tree, a)
			_, two := impl.SubclassesOf(tree, a)
			_, three := impl.IsKindOf(tree, a, 0)
			_, four := impl.CommonKind(tree, 0, a)
			_, five := impl.DistanceOf(tree, a, a)
			if !slices.Equal([]int64{one, two, three, four, five}, repeated(impl.ErrNone, 5)) {
				t.Fatalf("codes for %d of %v: %d, %d, %d, %d, %d", a, tree, one, two, three, four, five)
			}
		}
	}
}

func TestClassesKeepArguments(t *testing.T) {
	for _, first := range someTrees() {
		tree, memory := withSpare(first, 77)
		last := int64(len(tree)) - 1
		impl.IsClassTree(tree)
		impl.LeavesOf(tree)
		for a := range last + 1 {
			impl.KindsOf(tree, a)
			impl.SubclassesOf(tree, a)
			impl.AddClass(tree, a)
			for _, b := range []int64{0, a / 2, last} {
				impl.IsKindOf(tree, a, b)
				impl.CommonKind(tree, a, b)
				impl.DistanceOf(tree, a, b)
				impl.MoveClass(tree, a, b)
			}
		}
		if !slices.Equal(memory, append(slices.Clone(first), 77, 77)) {
			t.Fatalf("the tree %v was changed: %v", first, memory)
		}
	}
}

func TestClassesResultsAreNew(t *testing.T) {
	for _, first := range [][]int64{{-1, 0}, smallTree(), halvesOf(impl.MaxClasses - 1)} {
		tree, memory := withSpare(first, 77)
		last := int64(len(tree)) - 1
		results := func() [][]int64 {
			kinds, _ := impl.KindsOf(tree, last)
			subclasses, _ := impl.SubclassesOf(tree, 0)
			leaves, _ := impl.LeavesOf(tree)
			added, _ := impl.AddClass(tree, last)
			moved, _ := impl.MoveClass(tree, last, 0)
			same, _ := impl.MoveClass(tree, last, tree[last])
			return [][]int64{kinds, subclasses, leaves, added, moved, same}
		}
		before, changed := results(), results()
		for i, list := range changed {
			if len(list) == 0 {
				t.Fatalf("result %d for %v is empty", i, tree)
			}
			list = list[:cap(list)]
			for j := range list {
				list[j] = 88
			}
		}
		if !slices.Equal(memory, append(slices.Clone(first), 77, 77)) {
			t.Errorf("the tree %v is %v after results were changed", first, memory)
		}
		if after := results(); !slices.EqualFunc(before, after, slices.Equal[[]int64]) {
			t.Errorf("the results for %v are %v after others were changed, and were %v", tree, after, before)
		}
	}
}

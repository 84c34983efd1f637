package tests

import (
	"math"
	"slices"
	"strings"
	"testing"

	"loop.example/g00284/impl"
)

func rightSplits() []int {
	return []int{0, 1, 2}
}

// wrongSplits are none, though the lowest byte of some of them is one.
func wrongSplits() []int {
	return []int{-1, 3, -2, 4, 8, 9, 62, 63, 64, 255, 256, 256 + 1, -256 + 2, 1<<32 + 1, math.MaxInt, math.MinInt}
}

// borderIndexes are the least and the greatest one, and those on either side of each border between two shards.
func borderIndexes() []int {
	return []int{0, 1, 62, 63, 64, 65, 126, 127, 128, 129, 190, 191, 192, 193, 254, 255}
}

// shardByWords is told by the k highest bits of the index.
func shardByWords(name string, k int) int {
	if k < 0 || k > 2 {
		return 0
	}
	return placeByWords(indexByWords(name), k)
}

func shardLeavesByWords(list []impl.Leaf, k, shard int) []impl.Leaf {
	var part []impl.Leaf
	for _, l := range list {
		if shardByWords(l.Name, k) == shard {
			part = append(part, l)
		}
	}
	return part
}

func rootsOkByWords(roots []string, w int) bool {
	for _, root := range roots {
		if len(root) != w {
			return false
		}
	}
	return (len(roots) == 1 || len(roots) == 2 || len(roots) == 4) && w >= 1 && w <= 32
}

func combineByWords(roots []string, w int) (string, bool) {
	both := func(a, b string) string { return hashByWords(w, 3, a, b) }
	if !rootsOkByWords(roots, w) {
		return "", false
	}
	switch len(roots) {
	case 1:
		return roots[0], true
	case 2:
		return both(roots[0], roots[1]), true
	}
	return both(both(roots[0], roots[1]), both(roots[2], roots[3])), true
}

// combineSidesByWords has the sides of each place written out.
func combineSidesByWords(roots []string, shard, w int) ([]string, bool) {
	if !rootsOkByWords(roots, w) || shard < 0 || shard >= len(roots) {
		return nil, false
	}
	switch len(roots) {
	case 1:
		return nil, true
	case 2:
		return [][]string{{roots[1]}, {roots[0]}}[shard], true
	}
	left, right := hashByWords(w, 3, roots[0], roots[1]), hashByWords(w, 3, roots[2], roots[3])
	return [][]string{{roots[1], right}, {roots[0], right}, {roots[3], left}, {roots[2], left}}[shard], true
}

func allByWords(parts [][]impl.Leaf) ([]impl.Leaf, bool) {
	all := sortedByName(slices.Concat(parts...))
	if !leavesOkByWords(all) {
		return nil, false
	}
	return all, true
}

func combines(t *testing.T, what string, roots []string, w int) {
	t.Helper()
	want, right := combineByWords(roots, w)
	if got, ok := impl.CombineRoots(roots, w); got != want || ok != right {
		t.Errorf("CombineRoots of %s, %d of them, %d wide: %x, %v; want %x, %v", what, len(roots), w, got, ok, want, right)
	}
	for _, shard := range []int{-1, 0, 1, 2, 3, 4, 5, 8, 256, 1 << 32, math.MaxInt, math.MinInt} {
		want, right := combineSidesByWords(roots, shard, w)
		if got, ok := impl.CombineSides(roots, shard, w); !slices.Equal(got, want) || ok != right {
			t.Errorf("CombineSides of %s, %d of them, at %d, %d wide: %x, %v; want %x, %v", what, len(roots), shard, w, got, ok, want, right)
		}
	}
}

func joins(t *testing.T, what string, parts ...[]impl.Leaf) {
	t.Helper()
	got, ok := impl.AllLeaves(parts)
	want, right := allByWords(parts)
	sameLeaves(t, "AllLeaves of "+what, got, ok, want, right)
}

func joinsTo(t *testing.T, what string, want []impl.Leaf, parts ...[]impl.Leaf) {
	t.Helper()
	got, ok := impl.AllLeaves(parts)
	sameLeaves(t, "AllLeaves of "+what, got, ok, want, true)
}

func refusesAll(t *testing.T, what string, parts ...[]impl.Leaf) {
	t.Helper()
	if got, ok := impl.AllLeaves(parts); ok || len(got) > 0 {
		t.Errorf("AllLeaves of %s: %.200q, %v", what, got, ok)
	}
}

func shardParts(list []impl.Leaf, k int) [][]impl.Leaf {
	var parts [][]impl.Leaf
	for shard := range 1 << k {
		parts = append(parts, impl.ShardLeaves(list, k, shard))
	}
	return parts
}

func shardRoots(list []impl.Leaf, k, w int) []string {
	var roots []string
	for shard := range 1 << k {
		roots = append(roots, impl.ShardRoot(list, k, shard, w))
	}
	return roots
}

// leavesAt are right ones, one at each of these indexes.
func leavesAt(indexes ...int) []impl.Leaf {
	var list []impl.Leaf
	for _, index := range indexes {
		list = append(list, leafAt(index, "at"+impl.Decimal(index)))
	}
	return sortedByName(list)
}

// shardLists are right: with leaves at the borders, in one shard alone, and in all but one.
func shardLists() [][]impl.Leaf {
	lists := append(treeLists(), leavesAt(borderIndexes()...))
	ones := [][]int{{0, 20, 63}, {64, 90, 127}, {128, 150, 191}, {192, 200, 255}}
	for at := range ones {
		lists = append(lists, leavesAt(ones[at]...), leavesAt(slices.Concat(slices.Delete(slices.Clone(ones), at, at+1)...)...))
	}
	return lists
}

// inAnyOrder are all orders of these parts.
func inAnyOrder(parts [][]impl.Leaf) [][][]impl.Leaf {
	if len(parts) == 0 {
		return [][][]impl.Leaf{{}}
	}
	var orders [][][]impl.Leaf
	for at, part := range parts {
		for _, rest := range inAnyOrder(slices.Delete(slices.Clone(parts), at, at+1)) {
			orders = append(orders, append([][]impl.Leaf{part}, rest...))
		}
	}
	return orders
}

func TestShardConstants(t *testing.T) {
	if impl.MaxSplit != 2 {
		t.Errorf("MaxSplit is %d", impl.MaxSplit)
	}
}

func TestAllPartsTogetherAreTheList(t *testing.T) {
	for _, list := range shardLists() {
		for _, k := range rightSplits() {
			parts := shardParts(list, k)
			for _, order := range inAnyOrder(parts) {
				joinsTo(t, "all shards", list, order...)
			}
			for _, l := range list {
				for shard, part := range parts {
					if has := placeOfLeaf(part, l.Name) >= 0; has != (shard == impl.ShardOf(l.Name, k)) {
						t.Errorf("%q is of the shard %d of k %d; in the shard %d: %v", l.Name, impl.ShardOf(l.Name, k), k, shard, has)
					}
				}
			}
		}
	}
}

func TestRootsOfAllPartsTogetherAreTheRoot(t *testing.T) {
	for _, list := range shardLists() {
		for _, k := range rightSplits() {
			rootsComeTogether(t, list, k, 16)
		}
	}
	for w := 1; w <= 32; w++ {
		for _, k := range rightSplits() {
			rootsComeTogether(t, leavesFrom(24), k, w)
			rootsComeTogether(t, nil, k, w)
		}
	}
}

// rootsComeTogether wants a right list, k and width.
func rootsComeTogether(t *testing.T, list []impl.Leaf, k, w int) {
	t.Helper()
	root, roots := impl.RootOf(list, w), shardRoots(list, k, w)
	if got, ok := impl.CombineRoots(roots, w); got != root || !ok || len(got) != w {
		t.Errorf("CombineRoots of %d leaves, k %d, %d wide: %x, %v; want %x", len(list), k, w, got, ok, root)
	}
	for shard, own := range roots {
		sides, ok := impl.CombineSides(roots, shard, w)
		if !ok || len(sides) != k {
			t.Errorf("CombineSides of %d leaves, k %d, at %d: %x, %v", len(list), k, shard, sides, ok)
		}
		for _, low := range []int{0, 1<<(8-k) - 1} {
			isHash(t, "FoldUp of a shard's root", impl.FoldUp(own, shard<<(8-k)+low, k, sides, w), root)
		}
	}
}

// Of a leaf's proof the sides up to its shard, and those of the shard's root, are its sides up to the root.
func TestSidesOfAShardGoOnThoseInIt(t *testing.T) {
	for _, list := range shardLists() {
		for _, k := range rightSplits() {
			roots := shardRoots(list, k, 16)
			for _, index := range borderIndexes() {
				tops, _ := impl.CombineSides(roots, placeByWords(index, k), 16)
				low := impl.SidesOf(list, index, k, 16)
				isSides(t, "sides in a shard and beside it", append(low, tops...), impl.SidesOf(list, index, 0, 16))
			}
		}
	}
}

// What a shard alone knows is enough for its root: the leaves of others change nothing of it.
func TestShardRootIsOfItsLeavesAlone(t *testing.T) {
	for _, list := range shardLists() {
		for _, k := range rightSplits() {
			for shard, part := range shardParts(list, k) {
				isHash(t, "ShardRoot of a shard's leaves", impl.ShardRoot(part, k, shard, 16), impl.ShardRoot(list, k, shard, 16))
			}
		}
	}
}

func TestShardsThroughADrawnLife(t *testing.T) {
	state := uint64(12)
	list := []impl.Leaf{}
	for range 400 {
		name := "n" + impl.Decimal(10+drawn(&state, 30))
		if drawn(&state, 5) < 2 {
			list, _ = impl.LeafDrop(list, name)
		} else {
			list, _ = impl.LeafPut(list, name, "v"+impl.Decimal(drawn(&state, 3)))
		}
		k := drawn(&state, 3)
		joinsTo(t, "all shards in a drawn life", list, shardParts(list, k)...)
		rootsComeTogether(t, list, k, 16)
	}
}

func TestShardOfByWords(t *testing.T) {
	names := append(wrongLeafNames(), leafNames()...)
	for index := range 256 {
		names = append(names, namesOfIndex(index, 1)[0])
	}
	for _, name := range names {
		for _, k := range append(rightSplits(), wrongSplits()...) {
			if got, want := impl.ShardOf(name, k), shardByWords(name, k); got != want {
				t.Errorf("ShardOf %.20q, k %d: %d; want %d", name, k, got, want)
			}
		}
	}
}

func TestShardOfAtTheBorders(t *testing.T) {
	for _, c := range []struct{ index, one, two int }{
		{0, 0, 0}, {1, 0, 0}, {63, 0, 0}, {64, 0, 1}, {127, 0, 1}, {128, 1, 2}, {191, 1, 2}, {192, 1, 3}, {254, 1, 3}, {255, 1, 3},
	} {
		for _, name := range namesOfIndex(c.index, 3) {
			for k, want := range map[int]int{-1: 0, 0: 0, 1: c.one, 2: c.two, 3: 0} {
				if got := impl.ShardOf(name, k); got != want {
					t.Errorf("ShardOf %q, whose index is %d, k %d: %d; want %d", name, c.index, k, got, want)
				}
			}
		}
	}
}

// IndexOf is of any text, and so is ShardOf.
func TestShardOfNamesThatAreNotRight(t *testing.T) {
	for _, c := range []struct {
		name     string
		one, two int
	}{
		{"", 1, 3},       // e3..
		{"A", 0, 1},      // 55..
		{"hello!", 1, 3}, // ce..
		{" ", 0, 0},      // 36..
	} {
		if impl.NameOk(c.name) {
			t.Fatalf("%q is right", c.name)
		}
		for k, want := range map[int]int{-1: 0, 0: 0, 1: c.one, 2: c.two, 3: 0} {
			if got := impl.ShardOf(c.name, k); got != want {
				t.Errorf("ShardOf %q, k %d: %d; want %d", c.name, k, got, want)
			}
		}
	}
}

// manyShards are some that there are, and some that are not.
func manyShards() []int {
	return []int{-1, 0, 1, 2, 3, 4, 5, 7, 8, -2, 63, 64, 256, 1 << 32, math.MaxInt, math.MinInt}
}

func TestShardLeavesByWords(t *testing.T) {
	for _, list := range append(shardLists(), wrongLists()...) {
		for _, k := range append(rightSplits(), wrongSplits()...) {
			for _, shard := range manyShards() {
				got := impl.ShardLeaves(list, k, shard)
				sameLeaves(t, "ShardLeaves of k "+impl.Decimal(k)+", shard "+impl.Decimal(shard), got, true, shardLeavesByWords(list, k, shard), true)
			}
		}
	}
}

func TestShardLeavesOfNoneSomeAndAll(t *testing.T) {
	list := leavesAt(64, 100, 127)
	other := leavesAt(0, 64, 127, 128)
	for _, c := range []struct {
		list     []impl.Leaf
		k, shard int
		want     []impl.Leaf
	}{
		{list, 2, 0, nil}, {list, 2, 1, list}, {list, 2, 2, nil}, {list, 2, 3, nil},
		{list, 1, 0, list}, {list, 1, 1, nil}, {list, 0, 0, list},
		{other, 2, 0, leavesAt(0)}, {other, 2, 1, leavesAt(64, 127)}, {other, 2, 2, leavesAt(128)}, {other, 2, 3, nil},
		{other, 1, 0, leavesAt(0, 64, 127)}, {other, 1, 1, leavesAt(128)},
		{nil, 2, 0, nil}, {nil, 0, 0, nil}, {[]impl.Leaf{}, 1, 1, nil},
	} {
		sameLeaves(t, "ShardLeaves", impl.ShardLeaves(c.list, c.k, c.shard), true, c.want, true)
	}
}

func TestShardLeavesOfShardsThatAreNone(t *testing.T) {
	for _, list := range shardLists() {
		for _, k := range rightSplits() {
			for _, shard := range []int{-1, 1 << k, 1<<k + 1, 4, 8, 1 << 32, math.MaxInt, math.MinInt} {
				if got := impl.ShardLeaves(list, k, shard); len(got) > 0 {
					t.Errorf("ShardLeaves of k %d, shard %d: %q", k, shard, got)
				}
			}
		}
	}
}

// Of a k that is none ShardOf is 0 for every name, so all leaves are in the shard 0.
func TestShardLeavesOfWrongSplits(t *testing.T) {
	for _, list := range fewTreeLists() {
		for _, k := range wrongSplits() {
			sameLeaves(t, "ShardLeaves of a wrong k, shard 0", impl.ShardLeaves(list, k, 0), true, list, true)
			for _, shard := range []int{-1, 1, 2, 3, 4} {
				if got := impl.ShardLeaves(list, k, shard); len(got) > 0 {
					t.Errorf("ShardLeaves of k %d, shard %d: %q", k, shard, got)
				}
			}
		}
	}
}

// A list that is not right has shards, too: its order and alike names stay.
func TestShardLeavesOfListsThatAreNotRight(t *testing.T) {
	low, high := leafAt(63, "low"), leafAt(192, "high")
	other, wrong := impl.Leaf{Name: low.Name, Value: "other"}, impl.Leaf{Name: low.Name, Value: "a b"}
	list := []impl.Leaf{high, low, other, high, low, wrong, high, {Name: "", Value: ""}}
	sameLeaves(t, "the shard 0 of alike ones", impl.ShardLeaves(list, 2, 0), true, []impl.Leaf{low, other, low, wrong}, true)
	sameLeaves(t, "the shard 3 of alike ones", impl.ShardLeaves(list, 2, 3), true, []impl.Leaf{high, high, high, {}}, true)
	sameLeaves(t, "the shard 1 of alike ones", impl.ShardLeaves(list, 2, 1), true, nil, true)
	sameLeaves(t, "one shard of alike ones", impl.ShardLeaves(list, 0, 0), true, list, true)
	long := slices.Repeat(list, 50)
	sameLeaves(t, "the shard 0 of very many", impl.ShardLeaves(long, 1, 0), true, slices.Repeat([]impl.Leaf{low, other, low, wrong}, 50), true)
}

func TestShardRootByWords(t *testing.T) {
	for _, list := range shardLists() {
		rows := rowsByWords(list, 16)
		for _, k := range rightSplits() {
			for shard := range 1 << k {
				got := impl.ShardRoot(list, k, shard, 16)
				isHash(t, "ShardRoot", got, rows[k][shard])
				isHash(t, "ShardRoot", got, impl.NodeHash(list, k, shard, 16))
			}
		}
	}
	for w := 1; w <= 32; w++ {
		rows := rowsByWords(leavesFrom(24), w)
		for shard := range 4 {
			isHash(t, "ShardRoot", impl.ShardRoot(leavesFrom(24), 2, shard, w), rows[2][shard])
		}
	}
}

func TestShardRootAsKnown(t *testing.T) {
	list := leavesOf("ann", "k1", "bob", "k2")
	for k, roots := range map[int][]string{
		0: {"8a748b93"},
		1: {"c546f3b6", "87286d1a"},
		2: {"ac49b7d6", "1485fb46", "1f1cbd69", "ac49b7d6"},
	} {
		for shard, root := range roots {
			isHash(t, "ShardRoot", impl.ShardRoot(list, k, shard, 4), unhexed(t, root))
		}
	}
}

func TestShardRootWithoutLeaves(t *testing.T) {
	for _, k := range rightSplits() {
		for shard := range 1 << k {
			isHash(t, "ShardRoot of no leaves", impl.ShardRoot(nil, k, shard, 32), emptyByWords(k, 32))
			isHash(t, "ShardRoot of no leaves", impl.ShardRoot([]impl.Leaf{}, k, shard, 32), emptyByWords(k, 32))
		}
	}
	list := leavesAt(64, 100, 127)
	for _, shard := range []int{0, 2, 3} {
		isHash(t, "ShardRoot of a shard without leaves", impl.ShardRoot(list, 2, shard, 32), emptyByWords(2, 32))
	}
	isHash(t, "ShardRoot of a shard without leaves", impl.ShardRoot(list, 1, 1, 32), emptyByWords(1, 32))
}

func TestShardRootOfWhatIsNotRight(t *testing.T) {
	for _, list := range shardLists() {
		for _, k := range wrongSplits() {
			for _, shard := range []int{0, 1, 3} {
				isHash(t, "ShardRoot of a wrong k", impl.ShardRoot(list, k, shard, 16), "")
			}
		}
		for _, k := range rightSplits() {
			for _, shard := range []int{-1, 1 << k, 4, 8, 256, 1 << 32, math.MaxInt, math.MinInt} {
				isHash(t, "ShardRoot of a shard that is none", impl.ShardRoot(list, k, shard, 16), "")
			}
			for _, w := range wrongWidths() {
				isHash(t, "ShardRoot of a wrong width", impl.ShardRoot(list, k, 0, w), "")
			}
		}
	}
	for _, list := range wrongLists() {
		for _, k := range rightSplits() {
			for shard := range 1 << k {
				isHash(t, "ShardRoot of a wrong list", impl.ShardRoot(list, k, shard, 16), "")
			}
		}
	}
}

func TestShardRootAtTheLimits(t *testing.T) {
	list := leavesFrom(24)
	for k := -3; k <= 11; k++ {
		for w := -2; w <= 35; w++ {
			right := k >= 0 && k <= impl.MaxSplit && w >= 1 && w <= impl.DigestSize
			if got := impl.ShardRoot(list, k, 0, w); right != (len(got) == w && w > 0) || !right && got != "" {
				t.Errorf("ShardRoot of k %d, %d wide: %x", k, w, got)
			}
		}
	}
	isHash(t, "ShardRoot of 25 leaves", impl.ShardRoot(leavesFrom(25), 2, 0, 16), "")
}

func TestCombineByTheNumberOfRoots(t *testing.T) {
	for count := range 18 {
		for _, w := range append(rightWidths(), wrongWidths()...) {
			width := 16
			if w >= 1 && w <= 32 {
				width = w
			}
			roots := make([]string, count)
			for i := range roots {
				roots[i] = turning(300)[7*i : 7*i+width]
			}
			combines(t, "so many", roots, w)
			if _, ok := impl.CombineRoots(roots, width); ok != slices.Contains([]int{1, 2, 4}, count) {
				t.Errorf("CombineRoots of %d: %v", count, ok)
			}
		}
	}
	combines(t, "nil", nil, 16)
	combines(t, "very many", slices.Repeat([]string{"x"}, 256+4), 1)
}

func TestCombineOfOneRoot(t *testing.T) {
	for w := 1; w <= 32; w++ {
		root := turning(w)
		if got, ok := impl.CombineRoots([]string{root}, w); got != root || !ok {
			t.Errorf("CombineRoots of one, %d wide: %x, %v", w, got, ok)
		}
		if sides, ok := impl.CombineSides([]string{root}, 0, w); len(sides) > 0 || !ok {
			t.Errorf("CombineSides of one, %d wide: %x, %v", w, sides, ok)
		}
		for _, size := range []int{w - 1, w + 1, 0, 256 + w} {
			combines(t, "one of another width", []string{turning(size)}, w)
		}
	}
	for _, w := range wrongWidths() {
		for _, root := range []string{"", turning(1), turning(16), turning(32), turning(33), turning(34)} {
			combines(t, "one, and a wrong width", []string{root}, w)
			if got, ok := impl.CombineRoots([]string{root}, w); got != "" || ok {
				t.Errorf("CombineRoots of one of %d bytes, %d wide: %x, %v", len(root), w, got, ok)
			}
		}
	}
}

func TestCombineOfTwoAndFourAsTheDocumentSays(t *testing.T) {
	for w := 1; w <= 32; w++ {
		both := func(a, b string) string { return impl.TagHash(impl.TagNode, []string{a, b}, w) }
		r := sidesFrom(4, w)
		two, ok := impl.CombineRoots(r[:2], w)
		four, right := impl.CombineRoots(r, w)
		if two != both(r[0], r[1]) || four != both(both(r[0], r[1]), both(r[2], r[3])) || !ok || !right {
			t.Errorf("CombineRoots %d wide: %x, %v; %x, %v", w, two, ok, four, right)
		}
		combines(t, "two", r[:2], w)
		combines(t, "four", r, w)
	}
	alike := []string{"same", "same", "same", "same"}
	combines(t, "alike ones", alike[:2], 4)
	combines(t, "alike ones", alike, 4)
}

func TestCombineSidesOfEachPlace(t *testing.T) {
	a, b, c, d := "aaaa", "bbbb", "cccc", "dddd"
	left, right := impl.TagHash(impl.TagNode, []string{a, b}, 4), impl.TagHash(impl.TagNode, []string{c, d}, 4)
	for count, wants := range map[int][][]string{
		1: {nil},
		2: {{b}, {a}},
		4: {{b, right}, {a, right}, {d, left}, {c, left}},
	} {
		roots := []string{a, b, c, d}[:count]
		for shard, want := range wants {
			got, ok := impl.CombineSides(roots, shard, 4)
			isSides(t, "CombineSides", got, want)
			if !ok {
				t.Errorf("CombineSides of %d at %d is false", count, shard)
			}
		}
		for _, shard := range []int{-1, count, count + 1, -count, 1<<32 + 1, math.MaxInt, math.MinInt} {
			if got, ok := impl.CombineSides(roots, shard, 4); len(got) > 0 || ok {
				t.Errorf("CombineSides of %d at %d: %x, %v", count, shard, got, ok)
			}
		}
	}
}

func TestCombineAsKnown(t *testing.T) {
	list := leavesOf("ann", "k1", "bob", "k2")
	for _, k := range rightSplits() {
		got, ok := impl.CombineRoots(shardRoots(list, k, 4), 4)
		if isHash(t, "CombineRoots", got, unhexed(t, "8a748b93")); !ok {
			t.Errorf("CombineRoots of k %d is false", k)
		}
	}
	for name, want := range map[string]string{"ann": "ac49b7d687286d1a", "bob": "ac49b7d6c546f3b6", "joe": "ac49b7d687286d1a"} {
		sides, ok := impl.CombineSides(shardRoots(list, 2, 4), impl.ShardOf(name, 2), 4)
		if strings.Join(sides, "") != unhexed(t, want) || len(sides) != 2 || !ok {
			t.Errorf("CombineSides of %q: %x, %v", name, sides, ok)
		}
	}
}

func TestCombineOfARootOfAnotherWidth(t *testing.T) {
	for _, w := range rightWidths() {
		for _, count := range []int{1, 2, 4} {
			right := sidesFrom(count, w)
			for at := range count {
				for _, size := range []int{w - 1, w + 1, 0, 256 + w, 201} {
					roots := slices.Clone(right)
					roots[at] = turning(size)
					combines(t, "one of another width", roots, w)
					if got, ok := impl.CombineRoots(roots, w); got != "" || ok {
						t.Errorf("CombineRoots of %d, at %d one of %d bytes, %d wide: %x, %v", count, at, size, w, got, ok)
					}
				}
			}
			for _, other := range append(wrongWidths(), w-1, w+1) {
				combines(t, "another width", right, other)
			}
		}
	}
	// As wide together as they ought to be is not enough.
	combines(t, "one too short and one too long", []string{"abc", "abcde"}, 4)
	combines(t, "empty ones, no width", []string{"", "", "", ""}, 0)
	combines(t, "33 bytes each", slices.Repeat([]string{turning(33)}, 4), 33)
}

func TestAllLeavesOfNothing(t *testing.T) {
	joinsTo(t, "no part", nil)
	joinsTo(t, "an empty part", nil, nil)
	joinsTo(t, "empty parts", nil, nil, []impl.Leaf{}, nil, []impl.Leaf{})
	joinsTo(t, "very many empty parts", nil, make([][]impl.Leaf, 1000)...)
	if got, ok := impl.AllLeaves([][]impl.Leaf{}); len(got) > 0 || !ok {
		t.Errorf("AllLeaves of an empty list: %q, %v", got, ok)
	}
}

func TestAllLeavesOfOnePart(t *testing.T) {
	for _, list := range shardLists() {
		joinsTo(t, "one part", list, list)
		joinsTo(t, "one part and empty ones", list, nil, list, []impl.Leaf{})
		back := slices.Clone(list)
		slices.Reverse(back)
		joinsTo(t, "one part that is turned round", list, back)
	}
	for _, list := range wrongLists() {
		joins(t, "one part that is not right", list)
		joins(t, "one part that is not right, and empty ones", nil, list, nil)
	}
}

func TestAllLeavesInAnyOrder(t *testing.T) {
	list := leavesFrom(10)
	for _, cuts := range [][]int{{0, 0}, {0, 10}, {3, 7}, {5, 5}, {1, 9}, {10, 10}} {
		a, b, c := list[:cuts[0]], list[cuts[0]:cuts[1]], list[cuts[1]:]
		for _, order := range inAnyOrder([][]impl.Leaf{a, b, c}) {
			joinsTo(t, "three pieces", list, order...)
		}
	}
	var single [][]impl.Leaf
	for _, l := range edgeLeaves() {
		single = append(single, []impl.Leaf{l})
	}
	slices.Reverse(single)
	joinsTo(t, "parts of one leaf each", edgeLeaves(), single...)
}

// Parts need not be those of shards, nor be ascending by themselves.
func TestAllLeavesOfPartsThatDoNotAscend(t *testing.T) {
	want := leavesOf("a", "1", "b", "2", "c", "3", "d", "4")
	joinsTo(t, "parts that descend", want, leavesOf("d", "4", "b", "2"), leavesOf("c", "3", "a", "1"))
	joinsTo(t, "parts that go through each other", want, leavesOf("a", "1", "c", "3"), leavesOf("b", "2", "d", "4"))
	joinsTo(t, "parts of which one is within another", want, leavesOf("d", "4", "a", "1"), leavesOf("c", "3"), leavesOf("b", "2"))
	state := uint64(121)
	for range 300 {
		list := leavesFrom(drawn(&state, 25))
		parts := make([][]impl.Leaf, 1+drawn(&state, 6))
		for len(list) > 0 {
			at, to := drawn(&state, len(list)), drawn(&state, len(parts))
			parts[to] = append(parts[to], list[at])
			list = slices.Delete(list, at, at+1)
		}
		joins(t, "drawn parts", parts...)
		if _, ok := impl.AllLeaves(parts); !ok {
			t.Error("AllLeaves of drawn parts is false")
		}
	}
}

func TestAllLeavesOfANameTwice(t *testing.T) {
	list := leavesFrom(6)
	for at, l := range list {
		for _, again := range []impl.Leaf{l, {Name: l.Name, Value: "other"}} {
			refusesAll(t, "a name in two parts", list, []impl.Leaf{again})
			refusesAll(t, "a name in two parts", []impl.Leaf{again}, list)
			refusesAll(t, "a name in two parts far from each other", list[:at+1], nil, list[at+1:], []impl.Leaf{again})
			refusesAll(t, "a name twice in one part", append(slices.Clone(list), again))
			refusesAll(t, "a name twice in one part", nil, append([]impl.Leaf{again}, list...))
		}
	}
	refusesAll(t, "the same part twice", list, list)
	refusesAll(t, "the same part twice", list[:1], list[:1])
	for _, list := range shardLists() {
		for _, k := range rightSplits() {
			for shard, part := range shardParts(list, k) {
				if len(part) > 0 {
					refusesAll(t, "all shards, and one again", append(shardParts(list, k), part)...)
					refusesAll(t, "all shards, and a leaf again", append(shardParts(list, k), part[len(part)-1:])...)
				}
				if shard > 0 {
					joins(t, "some shards", shardParts(list, k)[:shard]...)
				}
			}
		}
	}
}

func TestAllLeavesAtTheLimit(t *testing.T) {
	for size := range 60 {
		list := leavesFrom(size)
		var single [][]impl.Leaf
		for _, l := range list {
			single = append(single, []impl.Leaf{l})
		}
		for _, parts := range [][][]impl.Leaf{{list}, {list[:size/2], list[size/2:]}, single} {
			joins(t, "so many leaves", parts...)
			if _, ok := impl.AllLeaves(parts); ok != (size <= impl.MaxLeaves) {
				t.Errorf("AllLeaves of %d leaves in %d parts: %v", size, len(parts), ok)
			}
		}
	}
	refusesAll(t, "24 leaves and one more", leavesFrom(24), leavesOf("z", "v"))
	refusesAll(t, "one and 24 leaves more", leavesOf("z", "v"), leavesFrom(24))
	joinsTo(t, "23 leaves and one more", append(leavesFrom(23), leavesOf("z", "v")...), leavesOf("z", "v"), leavesFrom(23))
}

// One long part that stands there very often would never fit into memory.
func TestAllLeavesOfOneLongPartVeryOften(t *testing.T) {
	long := make([]impl.Leaf, 1<<16)
	refusesAll(t, "a long part very often", slices.Repeat([][]impl.Leaf{long}, 1<<16)...)
	refusesAll(t, "a short part very often", slices.Repeat([][]impl.Leaf{leavesFrom(1)}, 1<<16)...)
}

func TestAllLeavesOfLeavesThatAreNotRight(t *testing.T) {
	for _, name := range wrongLeafNames() {
		for _, parts := range partsWith(impl.Leaf{Name: name, Value: "v"}) {
			refusesAll(t, "a wrong name", parts...)
		}
	}
	for _, value := range wrongLeafValues() {
		for _, name := range []string{".", "n10a", "z"} {
			for _, parts := range partsWith(impl.Leaf{Name: name, Value: value}) {
				refusesAll(t, "a wrong value", parts...)
			}
		}
	}
}

// partsWith have this leaf alone, first, in the middle, last, and in a part of its own.
func partsWith(leaf impl.Leaf) [][][]impl.Leaf {
	own, few, more := []impl.Leaf{leaf}, leavesFrom(4)[:2], leavesFrom(4)[2:]
	return [][][]impl.Leaf{{own}, {own, few, more}, {few, own, more}, {few, more, own}, {append(slices.Clone(few), leaf), more}, {few, append([]impl.Leaf{leaf}, more...)}}
}

func TestShardsAnswerNewMemory(t *testing.T) {
	list := ownLeaves()
	wrong := append(ownLeaves(), ownLeaves()...)
	was, wasWrong := slices.Clone(list), slices.Clone(wrong)
	given := textsOfLeaves(list, wrong)
	for _, from := range [][]impl.Leaf{list, wrong} {
		for _, k := range append(rightSplits(), -1, 3) {
			for shard := range 4 {
				part := impl.ShardLeaves(from, k, shard)
				noneShares(t, "ShardLeaves and its list", textsOfLeaves(part), given)
				clear(part[:cap(part)])
				clear(append(part, leavesFrom(9)...))
			}
		}
	}
	for _, parts := range [][][]impl.Leaf{{list}, {list[3:], list[:3]}, {list[:1], nil, list[1:]}} {
		all, _ := impl.AllLeaves(parts)
		sameLeaves(t, "AllLeaves", all, true, was, true)
		noneShares(t, "AllLeaves and its parts", textsOfLeaves(all), given)
		clear(all[:cap(all)])
	}
	if !slices.Equal(list, was) || !slices.Equal(wrong, wasWrong) {
		t.Error("an argument goes with what was made of it")
	}
}

func TestCombineAnswersNewMemory(t *testing.T) {
	for _, count := range []int{1, 2, 4} {
		var roots []string
		for _, root := range sidesFrom(count, 16) {
			roots = append(roots, strings.Clone(root))
		}
		was := slices.Clone(roots)
		top, _ := impl.CombineRoots(roots, 16)
		noneShares(t, "CombineRoots and its roots", []string{top}, roots)
		for shard := range count {
			sides, _ := impl.CombineSides(roots, shard, 16)
			noneShares(t, "CombineSides and its roots", sides, roots)
			clear(sides[:cap(sides)])
		}
		if !slices.Equal(roots, was) {
			t.Error("roots go with what was made of them")
		}
	}
	list := ownLeaves()
	for shard := range 4 {
		noneShares(t, "ShardRoot and its list", []string{impl.ShardRoot(list, 2, shard, 16)}, textsOfLeaves(list))
	}
}

// What is handed in may be pieces of longer lists, whose spare room is somebody else's.
func TestShardsWriteIntoNoSpareRoom(t *testing.T) {
	for _, room := range [][]impl.Leaf{leavesFrom(12), swapped(leavesFrom(12), 0, 1), leavesFrom(30)} {
		was := slices.Clone(room)
		back := slices.Clone(room)
		slices.Reverse(back)
		wasBack := slices.Clone(back)
		for size := range len(room) {
			for _, k := range append(rightSplits(), -1, 3) {
				for shard := range 4 {
					clear(append(impl.ShardLeaves(room[:size], k, shard), leavesFrom(3)...))
					impl.ShardRoot(room[:size], k, shard, 16)
				}
			}
			for _, parts := range [][][]impl.Leaf{{room[:size]}, {room[size/2 : size], room[:size/2]}, {back[:size]}, {back[:size/2], nil, back[size/2 : size]}} {
				wasParts := slices.Clone(parts)
				all, _ := impl.AllLeaves(parts[:len(parts)-1])
				clear(append(all, leavesFrom(3)...))
				all, _ = impl.AllLeaves(parts)
				clear(append(all, leavesFrom(3)...))
				if !slices.EqualFunc(parts, wasParts, slices.Equal) {
					t.Fatal("a list of parts was written into")
				}
			}
			if !slices.Equal(room, was) || !slices.Equal(back, wasBack) {
				t.Fatalf("with %d leaves handed in, they or the room behind them were written into", size)
			}
		}
	}
}

func TestCombineWritesIntoNoSpareRoom(t *testing.T) {
	room := sidesFrom(9, 16)
	was := slices.Clone(room)
	for count := range len(room) {
		impl.CombineRoots(room[:count], 16)
		for shard := -1; shard <= count; shard++ {
			sides, _ := impl.CombineSides(room[:count], shard, 16)
			clear(append(sides, "more", "of", "it"))
		}
		if !slices.Equal(room, was) {
			t.Fatalf("with %d roots handed in, they or the room behind them were written into", count)
		}
	}
}

// Every call answers from what it is given alone: again the same, and what was changed of an answer is not in the next one.
func TestShardsKeepNothing(t *testing.T) {
	list := leavesFrom(20)
	rows := rowsByWords(list, 16)
	for range 20 {
		parts := shardParts(list, 2)
		all, ok := impl.AllLeaves(parts)
		sameLeaves(t, "AllLeaves again", all, ok, list, true)
		roots := shardRoots(list, 2, 16)
		isSides(t, "ShardRoots again", roots, rows[2])
		combines(t, "roots again", roots, 16)
		for shard, part := range parts {
			sameLeaves(t, "ShardLeaves again", part, true, shardLeavesByWords(list, 2, shard), true)
			clear(part)
		}
		clear(all)
		clear(roots)
		refusesAll(t, "too many", leavesFrom(25))
		impl.CombineRoots(sidesFrom(3, 16), 16)
	}
}

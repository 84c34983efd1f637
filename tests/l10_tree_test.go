package tests

import (
	"crypto/sha256"
	"encoding/hex"
	"math"
	"slices"
	"strings"
	"testing"

	"loop.example/g00284/impl"
)

// hashByWords is a TagHash by the words of chapters 3 and 4.
func hashByWords(w int, kind int, parts ...string) string {
	tooLong := slices.ContainsFunc(parts, func(part string) bool { return len(part) > 200 })
	if tooLong || w < 1 || w > 32 {
		return ""
	}
	whole := sha256.Sum256([]byte(tagByWords(kind, parts)))
	return string(whole[:w])
}

func emptyByWords(level, w int) string {
	if level == 8 {
		return hashByWords(w, 1)
	}
	below := emptyByWords(level+1, w)
	return hashByWords(w, 3, below, below)
}

// bucketPartsByWords wants a right bucket with leaves.
func bucketPartsByWords(bucket []impl.Leaf) []string {
	var parts []string
	for _, l := range bucket {
		parts = append(parts, l.Name, l.Value)
	}
	return parts
}

func bucketTextByWords(bucket []impl.Leaf) string {
	if len(bucket) == 0 {
		return "\x01"
	}
	return tagByWords(2, bucketPartsByWords(bucket))
}

func bucketHashByWords(bucket []impl.Leaf, w int) string {
	if len(bucket) == 0 {
		return hashByWords(w, 1)
	}
	return hashByWords(w, 2, bucketPartsByWords(bucket)...)
}

// rowsByWords are the hashes of all places, level by level; nothing is left out where nothing is.
func rowsByWords(list []impl.Leaf, w int) [9][]string {
	var rows [9][]string
	for index := range 256 {
		rows[8] = append(rows[8], bucketHashByWords(bucketByWords(list, index), w))
	}
	for level := 7; level >= 0; level-- {
		for pair := range slices.Chunk(rows[level+1], 2) {
			rows[level] = append(rows[level], hashByWords(w, 3, pair[0], pair[1]))
		}
	}
	return rows
}

// placeByWords is told by so many highest bits of the index.
func placeByWords(index, level int) int {
	place := 0
	for at := range level {
		place = 2*place + bitByWords(index, at)
	}
	return place
}

func sidesByWords(rows [9][]string, index, level int) []string {
	var sides []string
	for at := 8; at > level; at-- {
		beside := placeByWords(index, at) + 1
		if bitByWords(index, at-1) == 1 {
			beside = placeByWords(index, at) - 1
		}
		sides = append(sides, rows[at][beside])
	}
	return sides
}

// foldByWords wants a level of the tree, and no more sides than it.
func foldByWords(hash string, index, level int, sides []string, w int) string {
	low := (index%256 + 256) % 256
	for i, side := range sides {
		if bitByWords(low, level-i-1) == 0 {
			hash = hashByWords(w, 3, hash, side)
		} else {
			hash = hashByWords(w, 3, side, hash)
		}
	}
	return hash
}

// leafAt is a right one with this index.
func leafAt(index int, value string) impl.Leaf {
	return impl.Leaf{Name: namesOfIndex(index, 1)[0], Value: value}
}

// besideLists have leaves at places that are neighbours somewhere, or as far from each other as can be.
func besideLists() [][]impl.Leaf {
	var lists [][]impl.Leaf
	for _, indexes := range [][]int{{0}, {255}, {0, 255}, {0, 1}, {254, 255}, {127, 128}, {100, 101}, {100, 102}, {100, 108}, {1, 3, 7, 15, 31, 63, 127, 255}, {0, 1, 2, 3, 4, 5, 6, 7}} {
		var list []impl.Leaf
		for _, index := range indexes {
			list = append(list, leafAt(index, "at"+impl.Decimal(index)))
		}
		lists = append(lists, sortedByName(list))
	}
	return lists
}

func treeLists() [][]impl.Leaf {
	return slices.Concat(rightLists(), crowdedLists(), besideLists())
}

// fewTreeLists are for tests that go through much else.
func fewTreeLists() [][]impl.Leaf {
	return slices.Concat([][]impl.Leaf{nil, leavesOf("ann", "k1"), leavesOf("ann", "k1", "bob", "k2"), leavesFrom(24), edgeLeaves()}, crowdedLists(), besideLists()[2:6])
}

func rightWidths() []int {
	return []int{1, 2, 16, 26, 27, 31, 32}
}

// wrongWidths are none, though the lowest byte of some of them is one.
func wrongWidths() []int {
	return []int{0, -1, 33, 34, -32, 64, 256 + 16, -256 + 16, 1<<32 + 16, math.MaxInt, math.MinInt}
}

func wrongLevels() []int {
	return []int{-1, 9, -2, 10, 63, 64, -8, 256, 256 + 3, -256 + 3, 1<<32 + 3, math.MaxInt, math.MinInt}
}

func isHash(t *testing.T, what string, got, want string) {
	t.Helper()
	if got != want {
		t.Errorf("%s: %x; want %x", what, got, want)
	}
}

func isSides(t *testing.T, what string, got, want []string) {
	t.Helper()
	if !slices.Equal(got, want) {
		t.Errorf("%s: %x; want %x", what, got, want)
	}
}

func unhexed(t *testing.T, figures string) string {
	t.Helper()
	b, err := hex.DecodeString(figures)
	if err != nil {
		t.Fatal(err)
	}
	return string(b)
}

func TestEmptyHashAsKnown(t *testing.T) {
	for level, want := range []string{
		"19299b77cf6088ffc408c844e708c49d2c88f1a13c47d1da1bc47e132e885ab6",
		"e9022c647606b73b426fa9a242eb7087f2e09cc8c6af3587c634317dc476d625",
		"828a0914bad934c76056dee7e4e9d4f2e0f10f19d3d9110f8e99ef5771d45be3",
		"0fb05d8208e860b0db10666ab467f8a4131e480d92a2db90c4e49150ef5bb9b4",
		"1e2c3c6d29ec6f8e4d037c96ac6b279fa799ef0cc386fd41db5b62391e2f5d4a",
		"910a00f7dec092d53f58d0d5928bf3ba9594fe272933ca8b3e250963497be1d3",
		"f9dc103f76d10956fadd00fe636eeb93f7ea4b6a949af330d2fe65630e94e1e9",
		"b5d56a043588a9b1c11b2fd1d854a201dccc9cd2983f1e3b0f892e2439bdc0aa",
		"4bf5122f344554c53bde2ebb8cd2b7e3d1600ad631c385a5d7cce23c7785459a",
	} {
		isHash(t, "EmptyHash at "+impl.Decimal(level), impl.EmptyHash(level, 32), unhexed(t, want))
	}
}

// A narrow hash is no cut of a wide one: it is made of narrow ones.
func TestEmptyHashOfEveryWidth(t *testing.T) {
	for w := 1; w <= 32; w++ {
		for level := range 9 {
			got := impl.EmptyHash(level, w)
			isHash(t, "EmptyHash at "+impl.Decimal(level), got, emptyByWords(level, w))
			if len(got) != w {
				t.Errorf("EmptyHash at %d is %d bytes wide; want %d", level, len(got), w)
			}
			if level < 8 {
				below := impl.EmptyHash(level+1, w)
				isHash(t, "EmptyHash by TagHash", got, impl.TagHash(impl.TagNode, []string{below, below}, w))
			}
		}
		isHash(t, "EmptyHash at Depth", impl.EmptyHash(impl.Depth, w), impl.TagHash(impl.TagEmpty, nil, w))
	}
}

func TestEmptyHashOfWhatIsNotRight(t *testing.T) {
	for _, w := range append(rightWidths(), wrongWidths()...) {
		for _, level := range wrongLevels() {
			isHash(t, "EmptyHash of a wrong level", impl.EmptyHash(level, w), "")
		}
	}
	for _, w := range wrongWidths() {
		for level := range 9 {
			isHash(t, "EmptyHash of a wrong width", impl.EmptyHash(level, w), "")
		}
	}
}

func TestBucketTextBytes(t *testing.T) {
	for _, c := range []struct {
		bucket []impl.Leaf
		want   string
	}{
		{nil, "\x01"},
		{[]impl.Leaf{}, "\x01"},
		{leavesOf("a", "!"), "\x02\x01a\x01!"},
		{leavesOf("ann", "k1"), "\x02\x03ann\x02k1"},
		{leavesOf("ann", "k1", "bob", "k2"), "\x02\x03ann\x02k1\x03bob\x02k2"},
		{leavesOf("abcdefghijkl", "ABCDEFGHIJKL"), "\x02\x0cabcdefghijkl\x0cABCDEFGHIJKL"},
	} {
		if got, ok := impl.BucketText(c.bucket); got != c.want || !ok {
			t.Errorf("BucketText of %q: %q, %v; want %q", c.bucket, got, ok, c.want)
		}
	}
}

// Whether leaves have one index is not asked: all that is wanted of a bucket is that it is LeavesOk.
func TestBucketsByWords(t *testing.T) {
	for _, bucket := range treeLists() {
		text, ok := impl.BucketText(bucket)
		if !ok || text != bucketTextByWords(bucket) {
			t.Errorf("BucketText of %d leaves: %.60q, %v", len(bucket), text, ok)
		}
		for w := 1; w <= 32; w++ {
			isHash(t, "BucketHash", impl.BucketHash(bucket, w), bucketHashByWords(bucket, w))
			isHash(t, "BucketHash of its text", impl.BucketHash(bucket, w), impl.CutDigest(text, w))
		}
	}
}

func TestBucketsAtTheLimit(t *testing.T) {
	for count := range 40 {
		bucket := leavesFrom(count)
		text, ok := impl.BucketText(bucket)
		hash := impl.BucketHash(bucket, 16)
		if right := count <= impl.MaxLeaves; ok != right || (text != "") != right || (hash != "") != right {
			t.Errorf("BucketText of %d leaves: %d bytes, %v; BucketHash %x", count, len(text), ok, hash)
		}
	}
}

func TestBucketsThatAreNotRight(t *testing.T) {
	for _, bucket := range wrongLists() {
		if got, ok := impl.BucketText(bucket); got != "" || ok {
			t.Errorf("BucketText of %.200q: %.60q, %v", bucket, got, ok)
		}
		for _, w := range append(rightWidths(), wrongWidths()...) {
			isHash(t, "BucketHash of a wrong bucket", impl.BucketHash(bucket, w), "")
		}
	}
}

func TestBucketHashOfNoneIsEmptyHashAtDepth(t *testing.T) {
	for _, bucket := range [][]impl.Leaf{nil, {}, impl.BucketOf(leavesFrom(24), -1)} {
		for w := 1; w <= 32; w++ {
			isHash(t, "BucketHash of none", impl.BucketHash(bucket, w), impl.EmptyHash(impl.Depth, w))
		}
	}
}

func TestBucketHashOfWrongWidths(t *testing.T) {
	for _, bucket := range treeLists() {
		for _, w := range wrongWidths() {
			isHash(t, "BucketHash of a wrong width", impl.BucketHash(bucket, w), "")
		}
	}
}

// Unlike buckets have unlike texts, so that one hash is of one bucket: also where names and values would make the same bytes.
func TestUnlikeBucketsHaveUnlikeTexts(t *testing.T) {
	buckets := append(treeLists()[1:], leavesOf("ab", "c"), leavesOf("a", "bc"), leavesOf("a", "b", "c", "d"), leavesOf("a", "bc", "d", "e"), leavesOf("a", "bcd"), leavesOf("abc", "d"), leavesOf("a", "d", "c", "b"), leavesOf("c", "d"), leavesOf("a", "b"))
	of := map[string][]impl.Leaf{}
	for _, bucket := range buckets {
		text, _ := impl.BucketText(bucket)
		if other, there := of[text]; there && !slices.Equal(other, bucket) {
			t.Errorf("%q and %q have one text", other, bucket)
		}
		of[text] = bucket
	}
}

func TestNodeHashOfEveryPlace(t *testing.T) {
	for _, list := range treeLists() {
		rows := rowsByWords(list, 16)
		for level, row := range rows {
			for place, want := range row {
				if got := impl.NodeHash(list, level, place, 16); got != want {
					t.Errorf("NodeHash of %d leaves at %d, %d: %x; want %x", len(list), level, place, got, want)
				}
			}
		}
	}
}

func TestNodeHashOfEveryWidth(t *testing.T) {
	list := leavesFrom(24)
	for w := 1; w <= 32; w++ {
		rows := rowsByWords(list, w)
		for level, row := range rows {
			for _, place := range []int{0, len(row) / 3, len(row) / 2, len(row) - 1} {
				got := impl.NodeHash(list, level, place, w)
				isHash(t, "NodeHash", got, row[place])
				if len(got) != w {
					t.Errorf("NodeHash is %d bytes wide; want %d", len(got), w)
				}
			}
		}
	}
}

// By the program's own layers below: the chapter's sentence, held against them word by word.
func TestNodeHashIsMadeOfBothBelow(t *testing.T) {
	for _, list := range fewTreeLists() {
		for place := range 256 {
			isHash(t, "NodeHash at Depth", impl.NodeHash(list, impl.Depth, place, 32), impl.BucketHash(impl.BucketOf(list, place), 32))
		}
		for level := range impl.Depth {
			for place := range 1 << level {
				both := []string{impl.NodeHash(list, level+1, 2*place, 32), impl.NodeHash(list, level+1, 2*place+1, 32)}
				isHash(t, "NodeHash above Depth", impl.NodeHash(list, level, place, 32), impl.TagHash(impl.TagNode, both, 32))
			}
		}
	}
}

func TestNodeHashWhereNothingIs(t *testing.T) {
	empties := 0
	for _, list := range fewTreeLists() {
		there := map[[2]int]int{}
		for _, l := range list {
			for level := range 9 {
				there[[2]int{level, placeByWords(impl.IndexOf(l.Name), level)}]++
			}
		}
		for level := range 9 {
			for place := range 1 << level {
				got, empty := impl.NodeHash(list, level, place, 32), impl.EmptyHash(level, 32)
				if nothing := there[[2]int{level, place}] == 0; nothing != (got == empty) {
					t.Errorf("NodeHash of %d leaves at %d, %d is %x, where nothing is: %v", len(list), level, place, got, nothing)
				} else if nothing {
					empties++
				}
			}
		}
	}
	if empties < 2000 {
		t.Errorf("only %d places have nothing", empties)
	}
}

func TestNodeHashOfNoLeafIsEmptyHash(t *testing.T) {
	for _, list := range [][]impl.Leaf{nil, {}} {
		for _, w := range rightWidths() {
			for level := range 9 {
				for place := range 1 << level {
					isHash(t, "NodeHash of no leaf", impl.NodeHash(list, level, place, w), impl.EmptyHash(level, w))
				}
			}
		}
	}
}

func TestNodeHashOfPlacesThatAreNone(t *testing.T) {
	for _, list := range fewTreeLists() {
		for level := range 9 {
			count := 1 << level
			isHash(t, "NodeHash of the last place", impl.NodeHash(list, level, count-1, 32), rowsByWords(list, 32)[level][count-1])
			for _, place := range []int{-1, -2, -count, count, count + 1, 2 * count, 256, 1 << 32, -(1 << 32), math.MaxInt, math.MinInt} {
				isHash(t, "NodeHash of no place", impl.NodeHash(list, level, place, 32), "")
			}
		}
	}
}

func TestNodeHashOfWhatIsNotRight(t *testing.T) {
	for _, list := range wrongLists() {
		for level := range 9 {
			for _, place := range []int{0, 1<<level - 1} {
				isHash(t, "NodeHash of a wrong list", impl.NodeHash(list, level, place, 16), "")
			}
		}
	}
	for _, list := range fewTreeLists() {
		for _, place := range []int{0, 1, -1, 255, 256} {
			for _, level := range wrongLevels() {
				isHash(t, "NodeHash of a wrong level", impl.NodeHash(list, level, place, 16), "")
			}
			for _, w := range wrongWidths() {
				for level := range 9 {
					isHash(t, "NodeHash of a wrong width", impl.NodeHash(list, level, place, w), "")
				}
			}
		}
	}
}

func TestRootOfAsKnown(t *testing.T) {
	both := leavesOf("ann", "k1", "bob", "k2")
	isHash(t, "RootOf no leaf", impl.RootOf(nil, 32), unhexed(t, "19299b77cf6088ffc408c844e708c49d2c88f1a13c47d1da1bc47e132e885ab6"))
	isHash(t, "RootOf one", impl.RootOf(both[:1], 32), unhexed(t, "5f567dfccc1f6fd573fd59a251316767ddb89052cd1242a886b5b99e41f2499f"))
	isHash(t, "RootOf two", impl.RootOf(both, 32), unhexed(t, "372d562a8cc193ebc064abf0be16f7da6b8210781a630908b17288297ee44a69"))
	isHash(t, "RootOf two, narrow", impl.RootOf(both, 16), unhexed(t, "f37a4d90969ab221166f928defe3df52"))
	isHash(t, "RootOf two, one byte wide", impl.RootOf(both, 1), "\x4b")
}

func TestRootOfByWords(t *testing.T) {
	for _, list := range treeLists() {
		for _, w := range rightWidths() {
			want := rowsByWords(list, w)[0][0]
			isHash(t, "RootOf", impl.RootOf(list, w), want)
			isHash(t, "NodeHash of level 0", impl.NodeHash(list, 0, 0, w), want)
		}
		for _, w := range wrongWidths() {
			isHash(t, "RootOf of a wrong width", impl.RootOf(list, w), "")
		}
	}
}

func TestRootOfWrongLists(t *testing.T) {
	for _, list := range wrongLists() {
		for _, w := range append(rightWidths(), wrongWidths()...) {
			isHash(t, "RootOf a wrong list", impl.RootOf(list, w), "")
		}
	}
}

func TestRootOfAtTheLimit(t *testing.T) {
	for count := range 40 {
		if got := impl.RootOf(leavesFrom(count), 32); (got != "") != (count <= impl.MaxLeaves) {
			t.Errorf("RootOf %d leaves is %x", count, got)
		}
	}
}

func TestSidesOfAsKnown(t *testing.T) {
	list := leavesOf("ann", "k1", "bob", "k2")
	var want []string
	for _, figures := range []string{"4bf5122f", "bf99da43", "9c8a9faa", "e933662d", "f99622be", "efd85b3f", "ac49b7d6", "c546f3b6"} {
		want = append(want, unhexed(t, figures))
	}
	for level := range 9 {
		isSides(t, "SidesOf bob", impl.SidesOf(list, 129, level, 4), want[:8-level])
	}
}

func TestSidesOfEveryIndex(t *testing.T) {
	for _, list := range fewTreeLists() {
		rows := rowsByWords(list, 16)
		for index := range 256 {
			for _, level := range []int{0, 1, 5, 8} {
				isSides(t, "SidesOf "+impl.Decimal(index), impl.SidesOf(list, index, level, 16), sidesByWords(rows, index, level))
			}
		}
	}
}

func TestSidesOfEveryLevel(t *testing.T) {
	for _, list := range treeLists() {
		rows := rowsByWords(list, 32)
		for _, index := range []int{0, 1, 77, 127, 128, 254, 255} {
			for level := range 9 {
				got := impl.SidesOf(list, index, level, 32)
				isSides(t, "SidesOf", got, sidesByWords(rows, index, level))
				if len(got) != 8-level {
					t.Errorf("SidesOf up to %d has %d", level, len(got))
				}
				for i, side := range got {
					beside := index>>i ^ 1
					isHash(t, "a side", side, impl.NodeHash(list, 8-i, beside, 32))
				}
			}
		}
	}
}

func TestSidesOfEveryWidth(t *testing.T) {
	list := leavesFrom(24)
	for w := 1; w <= 32; w++ {
		rows := rowsByWords(list, w)
		for _, index := range []int{0, 99, 255} {
			isSides(t, "SidesOf", impl.SidesOf(list, index, 0, w), sidesByWords(rows, index, 0))
		}
	}
}

func TestSidesOfNoLeafAreEmptyHashes(t *testing.T) {
	for index := range 256 {
		for level := range 9 {
			var want []string
			for at := 8; at > level; at-- {
				want = append(want, impl.EmptyHash(at, 32))
			}
			isSides(t, "SidesOf no leaf", impl.SidesOf(nil, index, level, 32), want)
		}
	}
}

func noSides(t *testing.T, what string, got []string) {
	t.Helper()
	if len(got) > 0 {
		t.Errorf("SidesOf %s: %x", what, got)
	}
}

func TestSidesOfWhatIsNotRight(t *testing.T) {
	for _, list := range wrongLists() {
		for level := range 9 {
			noSides(t, "a wrong list", impl.SidesOf(list, 0, level, 16))
			noSides(t, "a wrong list", impl.SidesOf(list, 255, level, 16))
		}
	}
	for _, list := range fewTreeLists() {
		for _, index := range []int{-1, 256, -2, 257, -256, 511, 65536, 1 << 32, 1<<32 + 77, math.MaxInt, math.MinInt} {
			for level := range 9 {
				noSides(t, "a wrong index", impl.SidesOf(list, index, level, 16))
			}
		}
		for _, index := range []int{0, 1, 77, 255} {
			for _, level := range wrongLevels() {
				noSides(t, "a wrong level", impl.SidesOf(list, index, level, 16))
			}
			for _, w := range wrongWidths() {
				noSides(t, "a wrong width", impl.SidesOf(list, index, 0, w))
				noSides(t, "a wrong width", impl.SidesOf(list, index, 5, w))
			}
		}
	}
}

// someSides are eight of unlike widths, of which some are no hash.
func someSides() []string {
	return []string{"", "a", turning(16), turning(32), "\x00", turning(127), turning(128), turning(200)}
}

func TestFoldUpWithNoSides(t *testing.T) {
	for _, hash := range append(someSides(), turning(201), turning(5000)) {
		for level := range 9 {
			for _, index := range []int{0, 1, 255, 256, -1, math.MaxInt, math.MinInt} {
				for _, w := range append(rightWidths(), wrongWidths()...) {
					isHash(t, "FoldUp with no sides", impl.FoldUp(hash, index, level, nil, w), hash)
					isHash(t, "FoldUp with no sides", impl.FoldUp(hash, index, level, []string{}, w), hash)
				}
			}
		}
	}
}

func TestFoldUpChoosesByTheBitAbove(t *testing.T) {
	for level := 1; level <= 8; level++ {
		bit := 1 << (8 - level)
		first, second := impl.TagHash(impl.TagNode, []string{"own", "side"}, 8), impl.TagHash(impl.TagNode, []string{"side", "own"}, 8)
		isHash(t, "FoldUp with all bits 0", impl.FoldUp("own", 0, level, []string{"side"}, 8), first)
		isHash(t, "FoldUp with all bits 1", impl.FoldUp("own", 255, level, []string{"side"}, 8), second)
		isHash(t, "FoldUp with this bit alone", impl.FoldUp("own", bit, level, []string{"side"}, 8), second)
		isHash(t, "FoldUp with all others", impl.FoldUp("own", 255-bit, level, []string{"side"}, 8), first)
	}
}

func TestFoldUpOfTwoSides(t *testing.T) {
	both := func(a, b string) string { return impl.TagHash(impl.TagNode, []string{a, b}, 32) }
	sides := []string{"low", "high"}
	isHash(t, "bits 0 and 0", impl.FoldUp("own", 0, 2, sides, 32), both(both("own", "low"), "high"))
	isHash(t, "bits 0 and 1", impl.FoldUp("own", 64, 2, sides, 32), both(both("low", "own"), "high"))
	isHash(t, "bits 1 and 0", impl.FoldUp("own", 128, 2, sides, 32), both("high", both("own", "low")))
	isHash(t, "bits 1 and 1", impl.FoldUp("own", 192, 2, sides, 32), both("high", both("low", "own")))
	isHash(t, "bits 0 and 1, at Depth", impl.FoldUp("own", 1, 8, sides, 32), both(both("low", "own"), "high"))
	isHash(t, "bits 1 and 0, at Depth", impl.FoldUp("own", 2, 8, sides, 32), both("high", both("own", "low")))
}

func TestFoldUpByWords(t *testing.T) {
	sides := someSides()
	for index := range 256 {
		for level := range 9 {
			for count := range level + 1 {
				want := foldByWords("own", index, level, sides[:count], 16)
				isHash(t, "FoldUp", impl.FoldUp("own", index, level, sides[:count], 16), want)
			}
		}
	}
	for _, w := range rightWidths() {
		for _, index := range []int{0, 90, 165, 255} {
			isHash(t, "FoldUp", impl.FoldUp("own", index, 8, sides, w), foldByWords("own", index, 8, sides, w))
		}
	}
}

func TestFoldUpWithMoreSidesThanTheLevel(t *testing.T) {
	sides := slices.Repeat([]string{turning(16)}, 20)
	for level := range 9 {
		for count := range len(sides) {
			want := ""
			if count <= level {
				want = foldByWords("own", 90, level, sides[:count], 16)
			}
			isHash(t, "FoldUp of so many sides", impl.FoldUp("own", 90, level, sides[:count], 16), want)
		}
	}
}

func TestFoldUpOfLevelsThatAreNone(t *testing.T) {
	for _, level := range wrongLevels() {
		for count := range 9 {
			for _, index := range []int{0, 255} {
				isHash(t, "FoldUp of a wrong level", impl.FoldUp("own", index, level, someSides()[:count], 16), "")
			}
		}
	}
}

// Only BitOf looks at the index, and it takes the eight lowest bits of any.
func TestFoldUpOfIndexesThatAreNone(t *testing.T) {
	for _, index := range []int{0, 1, 90, 128, 255} {
		want := foldByWords("own", index, 8, someSides(), 16)
		for _, more := range []int{256, -256, 65536, 1 << 32, -(1 << 32), math.MaxInt - 255, math.MinInt} {
			isHash(t, "FoldUp of a greater index", impl.FoldUp("own", index+more, 8, someSides(), 16), want)
		}
	}
	isHash(t, "FoldUp of -1", impl.FoldUp("own", -1, 8, someSides(), 16), foldByWords("own", 255, 8, someSides(), 16))
	isHash(t, "FoldUp of 256", impl.FoldUp("own", 256, 8, someSides(), 16), foldByWords("own", 0, 8, someSides(), 16))
}

// Of a width that is none there is no TagHash, so what comes out of any side is empty.
func TestFoldUpOfWrongWidths(t *testing.T) {
	for _, w := range wrongWidths() {
		for count := 1; count <= 8; count++ {
			isHash(t, "FoldUp of a wrong width", impl.FoldUp("own", 90, 8, someSides()[:count], w), "")
		}
	}
}

// A part that is longer than 200 has no TagHash, so what comes of it is empty; the sides behind it are folded with that.
func TestFoldUpOfSidesOfAnyWidth(t *testing.T) {
	for _, index := range []int{0, 255, 90} {
		for size := range 260 {
			side := turning(size)
			isHash(t, "FoldUp with a side of any width", impl.FoldUp("own", index, 8, []string{side}, 16), foldByWords("own", index, 8, []string{side}, 16))
			isHash(t, "FoldUp of a hash of any width", impl.FoldUp(side, index, 8, []string{"side"}, 16), foldByWords(side, index, 8, []string{"side"}, 16))
		}
		isHash(t, "FoldUp with a side of 201", impl.FoldUp("own", index, 8, []string{turning(201)}, 16), "")
		isHash(t, "FoldUp of a hash of 201", impl.FoldUp(turning(201), index, 8, []string{"side"}, 16), "")
	}
	isHash(t, "FoldUp behind a side of 201", impl.FoldUp("own", 0, 8, []string{turning(201), "side"}, 16), impl.TagHash(impl.TagNode, []string{"", "side"}, 16))
	isHash(t, "FoldUp behind a side of 201", impl.FoldUp("own", 255, 8, []string{"low", turning(201), "side"}, 16), impl.TagHash(impl.TagNode, []string{"side", ""}, 16))
}

// namesToFold are right: some of them are there, some are not, some are at a place where another is.
func namesToFold(list []impl.Leaf) []string {
	names := []string{"n", "z", "@", "nobody", "zzzzzzzzzzzz", "joe@x.org"}
	for _, index := range []int{0, 1, 76, 77, 127, 128, 254, 255} {
		names = append(names, namesOfIndex(index, 2)...)
	}
	for i, l := range list {
		names = append(names, l.Name)
		if i < 2 {
			names = append(names, namesOfIndex(impl.IndexOf(l.Name), 1)[0], namesOfIndex(impl.IndexOf(l.Name)^1, 1)[0])
		}
	}
	return names
}

// foldsUp wants of a name's bucket that it folds up to every node above it, and to the root.
func foldsUp(t *testing.T, list []impl.Leaf, name string, w int) {
	t.Helper()
	index := impl.IndexOf(name)
	hash := impl.BucketHash(impl.BucketOf(list, index), w)
	all := impl.SidesOf(list, index, 0, w)
	if got := impl.FoldUp(hash, index, impl.Depth, all, w); got != impl.RootOf(list, w) || len(got) != w || len(all) != impl.Depth {
		t.Errorf("%q of %d leaves folds up with %d sides to %x, not to the root", name, len(list), len(all), got)
	}
	for level := range 9 {
		sides := impl.SidesOf(list, index, level, w)
		if !slices.Equal(sides, all[:8-level]) {
			t.Errorf("SidesOf %q up to %d are no beginning of those up to 0", name, level)
		}
		got := impl.FoldUp(hash, index, impl.Depth, sides, w)
		if place := index >> (8 - level); got != impl.NodeHash(list, level, place, w) {
			t.Errorf("%q of %d leaves folds up to %x, not to the node at %d, %d", name, len(list), got, level, place)
		}
		if root := impl.FoldUp(got, index, level, all[8-level:], w); root != impl.RootOf(list, w) {
			t.Errorf("%q of %d leaves folds up from %d to %x, not to the root", name, len(list), level, root)
		}
	}
}

func TestAnyNamesHashFoldsUpToTheRoot(t *testing.T) {
	for _, list := range treeLists() {
		for _, name := range namesToFold(list) {
			foldsUp(t, list, name, 16)
		}
	}
	for _, w := range rightWidths() {
		for _, name := range namesToFold(leavesFrom(24)) {
			foldsUp(t, leavesFrom(24), name, w)
		}
	}
}

// Whatever is put in the place of a bucket, its hash folds up with the same sides to the root of the list with it.
func TestAnotherBucketFoldsUpToAnotherRoot(t *testing.T) {
	for _, list := range treeLists() {
		for _, name := range namesToFold(list) {
			index := impl.IndexOf(name)
			sides := impl.SidesOf(list, index, 0, 32)
			for _, next := range nextLists(list, name) {
				hash := impl.BucketHash(impl.BucketOf(next, index), 32)
				got := impl.FoldUp(hash, index, impl.Depth, sides, 32)
				isHash(t, "FoldUp with the same sides", got, impl.RootOf(next, 32))
				if got == impl.RootOf(list, 32) {
					t.Errorf("with %q changed the root is the same", name)
				}
			}
		}
	}
}

// nextLists are right: with another value of this name, with it, or without it, as it can be.
func nextLists(list []impl.Leaf, name string) [][]impl.Leaf {
	var lists [][]impl.Leaf
	if next, ok := impl.LeafPut(list, name, "other!"); ok {
		lists = append(lists, next)
	}
	if next, ok := impl.LeafDrop(list, name); ok {
		lists = append(lists, next)
	}
	return lists
}

// swappedValues is the list with the values of two leaves changed for each other.
func swappedValues(list []impl.Leaf, a, b int) []impl.Leaf {
	list = slices.Clone(list)
	list[a].Value, list[b].Value = list[b].Value, list[a].Value
	return list
}

// One hash is of all leaves: no two unlike lists have one root.
func TestUnlikeListsHaveUnlikeRoots(t *testing.T) {
	of := map[string][]impl.Leaf{}
	took := func(list []impl.Leaf) {
		t.Helper()
		root := impl.RootOf(list, 16)
		if other, there := of[root]; there && !slices.Equal(other, list) {
			t.Errorf("%.200q and %.200q have one root", other, list)
		}
		of[root] = list
	}
	for _, list := range treeLists() {
		took(list)
		for at, l := range list {
			took(slices.Delete(slices.Clone(list), at, at+1))
			took(changed(list, at, impl.Leaf{Name: l.Name, Value: "other!"}))
			if at > 0 {
				took(swappedValues(list, at-1, at))
			}
		}
		for _, name := range []string{"@@@", "n10a", "zzz"} {
			if more, ok := impl.LeafPut(list, name, "more"); ok {
				took(more)
			}
		}
	}
	if len(of) < 500 {
		t.Errorf("only %d lists were looked at", len(of))
	}
}

// In a drawn life the root goes with every put and drop, and comes back when the list does.
func TestRootsThroughADrawnLife(t *testing.T) {
	state := uint64(10)
	list := []impl.Leaf{}
	of := map[string]string{}
	for range 1500 {
		name := "n" + impl.Decimal(10+drawn(&state, 30))
		if drawn(&state, 5) < 2 {
			list, _ = impl.LeafDrop(list, name)
		} else {
			list, _ = impl.LeafPut(list, name, "v"+impl.Decimal(drawn(&state, 3)))
		}
		root := impl.RootOf(list, 16)
		if told, there := of[leavesTextByWords(list)]; there && told != root {
			t.Fatal("one list has two roots")
		}
		of[leavesTextByWords(list)] = root
		index := drawn(&state, 256)
		hash := impl.BucketHash(impl.BucketOf(list, index), 16)
		isHash(t, "FoldUp in a drawn life", impl.FoldUp(hash, index, 8, impl.SidesOf(list, index, 0, 16), 16), root)
		isHash(t, "RootOf in a drawn life", root, rowsByWords(list, 16)[0][0])
	}
}

func TestTreesAnswerNewMemory(t *testing.T) {
	list := ownLeaves()
	hash, side := strings.Clone(turning(16)), strings.Clone(turning(17))
	sides := []string{side, side}
	given := append(textsOfLeaves(list), hash, side)
	index := impl.IndexOf("n12")
	text, _ := impl.BucketText(list)
	answers := []string{text, impl.BucketHash(list, 16), impl.NodeHash(list, 8, index, 16), impl.RootOf(list, 16), impl.EmptyHash(3, 16)}
	for level := range 9 {
		answers = append(answers, impl.FoldUp(hash, 0, level, nil, 16))
		if level >= 2 {
			answers = append(answers, impl.FoldUp(hash, 0, level, sides, 16))
		}
	}
	answers = append(answers, impl.SidesOf(list, index, 0, 16)...)
	noneShares(t, "an answer and what was handed in", answers, given)
	if sides[0] != side || sides[1] != side || !slices.Equal(list, leavesFrom(6)) {
		t.Error("an argument was written into")
	}
}

// Lists that are handed in may be pieces of longer ones, whose spare room is somebody else's.
func TestTreesWriteIntoNoSpareRoom(t *testing.T) {
	for _, room := range [][]impl.Leaf{leavesFrom(12), swapped(leavesFrom(12), 0, 1), leavesFrom(30)} {
		was := slices.Clone(room)
		for size := range len(room) {
			list := room[:size]
			impl.BucketText(list)
			impl.BucketHash(list, 16)
			impl.NodeHash(list, 8, impl.IndexOf("n12"), 16)
			impl.RootOf(list, 16)
			for level := range 9 {
				sides := impl.SidesOf(list, impl.IndexOf("n12"), level, 16)
				clear(sides[:cap(sides)])
			}
			if !slices.Equal(room, was) {
				t.Fatalf("with %d leaves handed in, they or the room behind them were written into", size)
			}
		}
	}
	room := append(someSides(), "spare", "room")
	was := slices.Clone(room)
	for level := range 9 {
		for count := range len(room) + 1 {
			impl.FoldUp("own", 90, level, room[:count], 16)
		}
	}
	if !slices.Equal(room, was) {
		t.Error("sides that were handed in, or the room behind them, were written into")
	}
}

// Every call answers from what it is given alone: again the same, whatever was asked or changed between.
func TestTreesKeepNothing(t *testing.T) {
	list := leavesFrom(20)
	rows := rowsByWords(list, 16)
	index := impl.IndexOf("n12")
	for range 20 {
		isHash(t, "RootOf again", impl.RootOf(list, 16), rows[0][0])
		isHash(t, "EmptyHash again", impl.EmptyHash(2, 16), emptyByWords(2, 16))
		sides := impl.SidesOf(list, index, 0, 16)
		isSides(t, "SidesOf again", sides, sidesByWords(rows, index, 0))
		clear(sides)
		impl.RootOf(leavesFrom(25), 16)
		impl.RootOf(list, 32)
		impl.EmptyHash(2, 32)
	}
}

package tests

import (
	"crypto/sha256"
	"math"
	"slices"
	"strings"
	"testing"

	"loop.example/g00284/impl"
)

func indexByWords(name string) int {
	whole := sha256.Sum256([]byte(name))
	return int(whole[0])
}

// cutByWords wants a right width.
func cutByWords(text string, w int) string {
	whole := sha256.Sum256([]byte(text))
	return string(whole[:w])
}

func sidesOkByWords(sides []string, w int) bool {
	for _, side := range sides {
		if len(side) != w {
			return false
		}
	}
	return len(sides) <= 8 && w >= 1 && w <= 32
}

func proofOkByWords(name string, p impl.Proof, w int) bool {
	for _, l := range p.Bucket {
		if indexByWords(l.Name) != indexByWords(name) {
			return false
		}
	}
	return wordByWords(name, inNameByWords) && leavesOkByWords(p.Bucket) && sidesOkByWords(p.Sides, w)
}

func proofTextsByWords(name string, p impl.Proof, w int) []string {
	if !proofOkByWords(name, p, w) {
		return nil
	}
	texts := []string{bucketTextByWords(p.Bucket)}
	for i, side := range p.Sides {
		hash := cutByWords(texts[i], w)
		if bitByWords(indexByWords(name), 7-i) == 0 {
			texts = append(texts, tagByWords(3, []string{hash, side}))
		} else {
			texts = append(texts, tagByWords(3, []string{side, hash}))
		}
	}
	return texts
}

func proofHashByWords(name string, p impl.Proof, w int) string {
	texts := proofTextsByWords(name, p, w)
	if len(texts) == 0 {
		return ""
	}
	return cutByWords(texts[len(texts)-1], w)
}

// proofTextByWords is of any proof, right or not, so that wrong texts can be made by it.
func proofTextByWords(p impl.Proof) string {
	return leavesTextByWords(p.Bucket) + lengthByWords(len(p.Sides)) + strings.Join(p.Sides, "")
}

// readProofByWords tries every place behind which the leaves could be; a right number of sides has one byte.
func readProofByWords(text string, w int) (impl.Proof, bool) {
	for at := range len(text) {
		list, ok := readLeavesByWords(text[:at])
		count, rest := int(text[at]), text[at+1:]
		if !ok || at == 0 || count > 8 || w < 1 || w > 32 || len(rest) != count*w {
			continue
		}
		p := impl.Proof{Bucket: list}
		for i := range count {
			p.Sides = append(p.Sides, rest[i*w:(i+1)*w])
		}
		return p, true
	}
	return impl.Proof{}, false
}

type twoTexts struct {
	first, second string
	ok            bool
}

// list is empty when there are none.
func (two twoTexts) list() []string {
	if two == (twoTexts{}) {
		return nil
	}
	return []string{two.first, two.second}
}

func extractByWords(name string, p, q impl.Proof, w int) twoTexts {
	texts, others := proofTextsByWords(name, p, w), proofTextsByWords(name, q, w)
	at, other := placeOfLeaf(p.Bucket, name), placeOfLeaf(q.Bucket, name)
	same := at < 0 && other < 0 || at >= 0 && other >= 0 && p.Bucket[at].Value == q.Bucket[other].Value
	if len(texts) == 0 || len(others) == 0 || len(p.Sides) != len(q.Sides) || same || proofHashByWords(name, p, w) != proofHashByWords(name, q, w) {
		return twoTexts{}
	}
	for i := len(texts) - 1; i >= 0; i-- {
		if texts[i] != others[i] {
			return twoTexts{texts[i], others[i], true}
		}
	}
	return twoTexts{}
}

func sameProof(a, b impl.Proof) bool {
	return slices.Equal(a.Bucket, b.Bucket) && slices.Equal(a.Sides, b.Sides)
}

func proofCopy(p impl.Proof) impl.Proof {
	return impl.Proof{Bucket: slices.Clone(p.Bucket), Sides: slices.Clone(p.Sides)}
}

func proved(t *testing.T, list []impl.Leaf, name string, level, w int) impl.Proof {
	t.Helper()
	p, ok := impl.ProveLeaf(list, name, level, w)
	if !ok {
		t.Fatalf("ProveLeaf of %q up to %d, %d wide, is false", name, level, w)
	}
	return p
}

// sidesFrom are of this width, no two alike where there is room for that.
func sidesFrom(count, w int) []string {
	sides := make([]string, count)
	for i := range sides {
		sides[i] = turning(300)[20*i : 20*i+w]
	}
	return sides
}

// withSide is the proof with another side at a place.
func withSide(p impl.Proof, at int, side string) impl.Proof {
	p = proofCopy(p)
	p.Sides[at] = side
	return p
}

// proofNames are of indexes with bits of all kinds, with other names of the same indexes ahead of them and behind them.
func proofNames() []string {
	var names []string
	for _, index := range []int{0, 255, 90, 165, 1, 128} {
		names = append(names, namesOfIndex(index, 3)[1])
	}
	return append(names, "ann", "joe@x.org")
}

// bucketsFor are right ones of the name's index: without any leaf, with the name, without it but with others, with all of them, and full.
func bucketsFor(name string) [][]impl.Leaf {
	var others, full []impl.Leaf
	for i, other := range namesOfIndex(indexByWords(name), 26) {
		leaf := impl.Leaf{Name: other, Value: "of" + impl.Decimal(i)}
		if full = append(full, leaf); other != name && len(others) < 2 {
			others = append(others, leaf)
		}
	}
	own := leavesOf(name, "own")
	return [][]impl.Leaf{nil, {}, own, others, sortedByName(append(slices.Clone(others), own...)), full[:24]}
}

// proofsFor are right ones of the name, with every number of sides.
func proofsFor(name string, w int) []impl.Proof {
	var proofs []impl.Proof
	for _, bucket := range bucketsFor(name) {
		for count := range 9 {
			proofs = append(proofs, impl.Proof{Bucket: bucket, Sides: sidesFrom(count, w)})
		}
	}
	return proofs
}

func isOk(t *testing.T, what string, name string, p impl.Proof, w int, want bool) {
	t.Helper()
	if got := impl.ProofOk(name, p, w); got != want || proofOkByWords(name, p, w) != want {
		t.Errorf("ProofOk with %s, of %.20q, %d leaves, %d sides, %d wide: %v", what, name, len(p.Bucket), len(p.Sides), w, got)
	}
	if texts := impl.ProofTexts(name, p, w); !slices.Equal(texts, proofTextsByWords(name, p, w)) || len(texts) > 0 != want {
		t.Errorf("ProofTexts with %s, of %.20q: %x", what, name, texts)
	}
	isHash(t, "ProofHash with "+what, impl.ProofHash(name, p, w), proofHashByWords(name, p, w))
}

// saysWhatIs is the promise: of a right list, a right name and every one of these levels.
func saysWhatIs(t *testing.T, list []impl.Leaf, name string, w int, levels ...int) {
	t.Helper()
	index := indexByWords(name)
	value, there := impl.LeafGet(list, name)
	for _, level := range levels {
		p := proved(t, list, name, level, w)
		isOk(t, "ProveLeaf's", name, p, w, true)
		isHash(t, "ProofHash", impl.ProofHash(name, p, w), impl.NodeHash(list, level, placeByWords(index, level), w))
		if got, ok := impl.ProofSays(name, p); got != value || ok != there {
			t.Errorf("ProofSays of %q is %q, %v; the list has %q, %v", name, got, ok, value, there)
		}
		if level == 0 {
			isHash(t, "ProofHash up to 0", impl.ProofHash(name, p, w), impl.RootOf(list, w))
		}
	}
}

func TestAProofSaysWhatIs(t *testing.T) {
	for _, list := range treeLists() {
		for _, name := range namesToFold(list) {
			saysWhatIs(t, list, name, 16, 0, 5)
		}
	}
	for _, list := range fewTreeLists() {
		for _, name := range namesToFold(list)[:12] {
			saysWhatIs(t, list, name, 32, 0, 1, 2, 3, 4, 5, 6, 7, 8)
		}
	}
	for _, w := range rightWidths() {
		for _, name := range namesToFold(leavesFrom(24)) {
			saysWhatIs(t, leavesFrom(24), name, w, 0, 8)
		}
	}
}

func TestProveLeafByWords(t *testing.T) {
	for _, list := range fewTreeLists() {
		rows := rowsByWords(list, 16)
		for _, name := range namesToFold(list) {
			index := indexByWords(name)
			for _, level := range []int{0, 1, 4, 7, 8} {
				p := proved(t, list, name, level, 16)
				sameLeaves(t, "the Bucket of "+name, p.Bucket, true, bucketByWords(list, index), true)
				isSides(t, "the Sides of "+name, p.Sides, sidesByWords(rows, index, level))
				if len(p.Sides) != 8-level {
					t.Errorf("ProveLeaf up to %d has %d Sides", level, len(p.Sides))
				}
			}
		}
	}
}

func TestProveLeafAsKnown(t *testing.T) {
	list := leavesOf("ann", "k1", "bob", "k2")
	for _, c := range []struct {
		name   string
		bucket []impl.Leaf
		sides  string
	}{
		{"ann", leavesOf("ann", "k1"), "4bf5122fbf99da439c8a9faae933662df99622beefd85b3fac49b7d687286d1a"},
		{"bob", leavesOf("bob", "k2"), "4bf5122fbf99da439c8a9faae933662df99622beefd85b3fac49b7d6c546f3b6"},
		{"joe", nil, "4bf5122fbf99da439c8a9faae933662df99622be81f671bcac49b7d687286d1a"},
	} {
		p := proved(t, list, c.name, 0, 4)
		if !slices.Equal(p.Bucket, c.bucket) || strings.Join(p.Sides, "") != unhexed(t, c.sides) || len(p.Sides) != 8 {
			t.Errorf("ProveLeaf of %q: %q, %x", c.name, p.Bucket, p.Sides)
		}
		isHash(t, "ProofHash", impl.ProofHash(c.name, p, 4), unhexed(t, "8a748b93"))
	}
}

// Of one index the same bucket proves all names, also those that are not there.
func TestProveLeafOfOneIndex(t *testing.T) {
	names := namesOfIndex(77, 6)
	list := leavesOf(names[1], "v1", names[2], "v2", names[4], "v4")
	for i, name := range names {
		p := proved(t, list, name, 0, 16)
		sameLeaves(t, "the Bucket of one index", p.Bucket, true, list, true)
		want := []string{"", "v1", "v2", "", "v4", ""}[i]
		if got, ok := impl.ProofSays(name, p); got != want || ok != (want != "") {
			t.Errorf("ProofSays of the name at %d is %q, %v", i, got, ok)
		}
		isHash(t, "ProofHash of one index", impl.ProofHash(name, p, 16), impl.RootOf(list, 16))
	}
}

func refusesProve(t *testing.T, what string, list []impl.Leaf, name string, level, w int) {
	t.Helper()
	if p, ok := impl.ProveLeaf(list, name, level, w); ok || !sameProof(p, impl.Proof{}) {
		t.Errorf("ProveLeaf of %s, %.20q, up to %d, %d wide: %q, %x, %v", what, name, level, w, p.Bucket, p.Sides, ok)
	}
}

func TestProveLeafOfWhatIsNotRight(t *testing.T) {
	for _, list := range wrongLists() {
		refusesProve(t, "a wrong list", list, "n10", 0, 16)
		refusesProve(t, "a wrong list", list, "nobody", 8, 16)
	}
	for _, list := range fewTreeLists() {
		for _, name := range wrongLeafNames() {
			refusesProve(t, "a wrong name", list, name, 0, 16)
			refusesProve(t, "a wrong name", list, name, 8, 16)
		}
		for _, level := range wrongLevels() {
			refusesProve(t, "a wrong level", list, "n10", level, 16)
			refusesProve(t, "a wrong level", list, "nobody", level, 16)
		}
		for _, w := range wrongWidths() {
			refusesProve(t, "a wrong width", list, "n10", 0, w)
			refusesProve(t, "a wrong width", list, "nobody", 8, w)
		}
	}
}

func TestProveLeafAtTheLimits(t *testing.T) {
	list := leavesFrom(24)
	for level := -3; level <= 12; level++ {
		for w := -2; w <= 35; w++ {
			p, ok := impl.ProveLeaf(list, "n12", level, w)
			right := level >= 0 && level <= impl.Depth && w >= 1 && w <= impl.DigestSize
			if ok != right || right && (len(p.Sides) != 8-level || len(p.Bucket) == 0) || !right && !sameProof(p, impl.Proof{}) {
				t.Errorf("ProveLeaf up to %d, %d wide: %d Sides, %v", level, w, len(p.Sides), ok)
			}
		}
	}
	refusesProve(t, "25 leaves", leavesFrom(25), "n12", 0, 16)
}

func TestProofOkOfRightOnes(t *testing.T) {
	for _, name := range proofNames() {
		for _, w := range []int{1, 2, 16, 32} {
			for _, p := range proofsFor(name, w) {
				isOk(t, "all right", name, p, w, true)
			}
		}
	}
}

func TestProofOkByTheNumberOfSides(t *testing.T) {
	for _, name := range proofNames() {
		for _, bucket := range bucketsFor(name) {
			for count := range 14 {
				isOk(t, "so many sides", name, impl.Proof{Bucket: bucket, Sides: sidesFrom(count, 16)}, 16, count <= impl.Depth)
			}
		}
	}
	isOk(t, "very many sides", "ann", impl.Proof{Sides: slices.Repeat([]string{"x"}, 256+8)}, 1, false)
}

func TestProofOkByTheWidthOfSides(t *testing.T) {
	for _, w := range rightWidths() {
		for count := 1; count <= 8; count++ {
			p := impl.Proof{Bucket: leavesOf("ann", "k1"), Sides: sidesFrom(count, w)}
			isOk(t, "right sides", "ann", p, w, true)
			for at := range count {
				for _, size := range []int{w - 1, w + 1, 0, 256 + w, 201} {
					isOk(t, "a side of another width", "ann", withSide(p, at, turning(size)), w, false)
				}
			}
			for _, other := range append(wrongWidths(), w-1, w+1) {
				isOk(t, "another width", "ann", p, other, false)
			}
		}
	}
}

// Also where no side could have it, the width must be right.
func TestProofOkOfWidthsWithoutSides(t *testing.T) {
	for _, p := range []impl.Proof{{}, {Sides: []string{}}, {Bucket: leavesOf("ann", "k1")}} {
		for w := -40; w <= 70; w++ {
			isOk(t, "no sides", "ann", p, w, w >= 1 && w <= 32)
		}
		for _, w := range wrongWidths() {
			isOk(t, "no sides and a wrong width", "ann", p, w, false)
		}
	}
	isOk(t, "empty sides and no width", "ann", impl.Proof{Sides: []string{"", ""}}, 0, false)
}

func TestProofOkOfWrongBuckets(t *testing.T) {
	for _, list := range wrongLists() {
		for _, sides := range [][]string{nil, sidesFrom(8, 16)} {
			isOk(t, "a wrong bucket", "n10", impl.Proof{Bucket: list, Sides: sides}, 16, false)
		}
	}
	names := namesOfIndex(77, 26)
	full := make([]impl.Leaf, len(names))
	for i, name := range names {
		full[i] = impl.Leaf{Name: name, Value: "v"}
	}
	for count := range len(full) + 1 {
		isOk(t, "so many leaves", names[0], impl.Proof{Bucket: full[:count]}, 16, count <= impl.MaxLeaves)
	}
	for at := range 4 {
		p := impl.Proof{Bucket: full[:5]}
		p.Bucket = changed(p.Bucket, at, impl.Leaf{Name: names[at], Value: ""})
		isOk(t, "a leaf without a value", names[0], p, 16, false)
		isOk(t, "leaves that do not ascend", names[0], impl.Proof{Bucket: swapped(full[:5], at, at+1)}, 16, false)
		isOk(t, "alike names", names[0], impl.Proof{Bucket: changed(full[:5], at, full[at+1])}, 16, false)
	}
}

func TestProofOkOfLeavesOfAnotherIndex(t *testing.T) {
	for _, name := range proofNames() {
		bucket := bucketsFor(name)[5]
		for _, other := range []string{".", "x100000a", "x1000zz", "zz", "n10"} {
			mixed := sortedByName(append(slices.Clone(bucket[:5]), impl.Leaf{Name: other, Value: "v"}))
			if indexByWords(other) == indexByWords(name) || !impl.LeavesOk(mixed) {
				t.Fatalf("%q has the index of %q", other, name)
			}
			isOk(t, "a leaf of another index", name, impl.Proof{Bucket: mixed}, 16, false)
			isOk(t, "a leaf of another index", name, impl.Proof{Bucket: mixed, Sides: sidesFrom(8, 16)}, 16, false)
			isOk(t, "a leaf of another index alone", name, impl.Proof{Bucket: leavesOf(other, "v")}, 16, false)
			isOk(t, "the bucket of another name", other, impl.Proof{Bucket: bucket}, 16, false)
		}
	}
}

func TestProofOkOfWrongNames(t *testing.T) {
	for _, name := range wrongLeafNames() {
		isOk(t, "a wrong name", name, impl.Proof{}, 16, false)
		isOk(t, "a wrong name", name, impl.Proof{Sides: sidesFrom(8, 16)}, 16, false)
		right := leavesOf(namesOfIndex(indexByWords(name), 1)[0], "v")
		isOk(t, "a wrong name with right leaves of its index", name, impl.Proof{Bucket: right}, 16, false)
	}
}

func TestProofTextsAsKnown(t *testing.T) {
	list := leavesOf("ann", "k1", "bob", "k2")
	for _, c := range []struct {
		name  string
		texts []string
	}{
		{"ann", []string{"0203616e6e026b31", "03044bf5122f04a143295a", "0304362f252f04bf99da43", "0304129c8c15049c8a9faa", "0304e933662d04baf8a76e", "0304a05e1bc104f99622be", "030481f671bc04efd85b3f", "0304ac49b7d6041485fb46", "0304c546f3b60487286d1a"}},
		{"bob", []string{"0203626f62026b32", "03044bf5122f04624dfb57", "030464059ee904bf99da43", "0304c9f535e3049c8a9faa", "03040f06c4ce04e933662d", "030451cc879404f99622be", "030468d3faba04efd85b3f", "03041f1cbd6904ac49b7d6", "0304c546f3b60487286d1a"}},
		{"joe", []string{"01", "03044bf5122f044bf5122f", "0304bf99da4304bf99da43", "03049c8a9faa049c8a9faa", "0304e933662d04e933662d", "0304f99622be04f99622be", "030481f671bc04efd85b3f", "0304ac49b7d6041485fb46", "0304c546f3b60487286d1a"}},
	} {
		for level := range 9 {
			var want []string
			for _, figures := range c.texts[:9-level] {
				want = append(want, unhexed(t, figures))
			}
			isSides(t, "ProofTexts of "+c.name, impl.ProofTexts(c.name, proved(t, list, c.name, level, 4), 4), want)
		}
	}
}

// Each text is chapter 4's, of the hash of the one ahead and the side, in the order that the bit tells.
func TestProofTextsGoByTheBits(t *testing.T) {
	for _, name := range proofNames() {
		index := indexByWords(name)
		for _, p := range proofsFor(name, 32) {
			texts := impl.ProofTexts(name, p, 32)
			if len(texts) != 1+len(p.Sides) {
				t.Fatalf("%d ProofTexts of %d sides", len(texts), len(p.Sides))
			}
			first, _ := impl.BucketText(p.Bucket)
			isHash(t, "the first of ProofTexts", texts[0], first)
			for i, side := range p.Sides {
				both := []string{impl.CutDigest(texts[i], 32), side}
				if index>>i%2 == 1 {
					slices.Reverse(both)
				}
				want, _ := impl.TagText(impl.TagNode, both)
				isHash(t, "a text of ProofTexts", texts[i+1], want)
			}
		}
	}
}

func TestProofTextsOfAnEmptyBucket(t *testing.T) {
	for _, bucket := range [][]impl.Leaf{nil, {}} {
		isSides(t, "ProofTexts of nothing", impl.ProofTexts("ann", impl.Proof{Bucket: bucket}, 16), []string{"\x01"})
	}
	p := impl.Proof{Sides: []string{"\x05"}}
	isSides(t, "ProofTexts of no leaf, bit 0", impl.ProofTexts(namesOfIndex(254, 1)[0], p, 1), []string{"\x01", "\x03\x01\x4b\x01\x05"})
	isSides(t, "ProofTexts of no leaf, bit 1", impl.ProofTexts(namesOfIndex(1, 1)[0], p, 1), []string{"\x01", "\x03\x01\x05\x01\x4b"})
}

func TestProofHashIsFoldUpOfBucketHash(t *testing.T) {
	for _, name := range proofNames() {
		index := indexByWords(name)
		for _, w := range []int{1, 16, 32} {
			for _, p := range proofsFor(name, w) {
				got := impl.ProofHash(name, p, w)
				isHash(t, "ProofHash", got, impl.FoldUp(impl.BucketHash(p.Bucket, w), index, impl.Depth, p.Sides, w))
				isHash(t, "ProofHash by words", got, foldByWords(bucketHashByWords(p.Bucket, w), index, 8, p.Sides, w))
				if len(got) != w {
					t.Errorf("ProofHash is %d bytes wide; want %d", len(got), w)
				}
			}
		}
	}
}

// A proof that says otherwise has another hash, where hashes are wide; so does one with anything else changed.
func TestAnotherProofHasAnotherHash(t *testing.T) {
	for _, name := range proofNames() {
		for _, p := range proofsFor(name, 16) {
			hash := impl.ProofHash(name, p, 16)
			for _, next := range nextLists(p.Bucket, name) {
				if q := (impl.Proof{Bucket: next, Sides: p.Sides}); !slices.Equal(next, p.Bucket) && impl.ProofHash(name, q, 16) == hash {
					t.Errorf("with what it says of %q changed a proof has the same hash", name)
				}
			}
			for at, side := range p.Sides {
				if q := withSide(p, at, turned(side, at, 1)); impl.ProofHash(name, q, 16) == hash {
					t.Errorf("with side %d turned a proof has the same hash", at)
				}
			}
			if len(p.Sides) > 0 && impl.ProofHash(name, impl.Proof{Bucket: p.Bucket, Sides: p.Sides[1:]}, 16) == hash {
				t.Error("with a side less a proof has the same hash")
			}
		}
	}
}

func says(t *testing.T, bucket []impl.Leaf, name, want string, right bool) {
	t.Helper()
	for _, sides := range [][]string{nil, sidesFrom(8, 16), sidesFrom(10, 5)} {
		if got, ok := impl.ProofSays(name, impl.Proof{Bucket: bucket, Sides: sides}); got != want || ok != right {
			t.Errorf("ProofSays of %.20q: %.30q, %v; want %.30q, %v", name, got, ok, want, right)
		}
	}
}

func TestProofSays(t *testing.T) {
	bucket := leavesOf("ann", "k1", "bob", "k2", "joe", "k3")
	says(t, bucket, "ann", "k1", true)
	says(t, bucket, "bob", "k2", true)
	says(t, bucket, "joe", "k3", true)
	for _, name := range []string{"", "an", "anna", "Ann", "k1", "zoe", "bob\x00", turning(300)} {
		says(t, bucket, name, "", false)
		says(t, nil, name, "", false)
		says(t, []impl.Leaf{}, name, "", false)
	}
}

// The chapter wants no right proof of ProofSays: it is LeafGet of whatever the Bucket is.
func TestProofSaysOfWrongBuckets(t *testing.T) {
	says(t, leavesOf("b", "1", "a", "2", "a", "3"), "a", "2", true)
	says(t, leavesOf("", "empty", "A b", "a b"), "", "empty", true)
	says(t, leavesOf("", "empty", "A b", "a b"), "A b", "a b", true)
	says(t, leavesOf("a", ""), "a", "", true)
	says(t, leavesFrom(25), "n34", "v24", true)
	for _, list := range wrongLists() {
		for _, l := range list {
			value, ok := impl.LeafGet(list, l.Name)
			says(t, list, l.Name, value, ok)
		}
		says(t, list, "nobody", "", false)
	}
}

func TestProofTextBytes(t *testing.T) {
	for _, c := range []struct {
		p    impl.Proof
		w    int
		want string
	}{
		{impl.Proof{}, 1, "\x00\x00"},
		{impl.Proof{}, 32, "\x00\x00"},
		{impl.Proof{Sides: []string{"a"}}, 1, "\x00\x01a"},
		{impl.Proof{Sides: []string{"ab", "cd"}}, 2, "\x00\x02abcd"},
		{impl.Proof{Bucket: leavesOf("ann", "k1")}, 16, "\x01\x03ann\x02k1\x00"},
		{impl.Proof{Bucket: leavesOf("ann", "k1", "bob", "k2"), Sides: []string{"x", "\x00", "\xff"}}, 1, "\x02\x03ann\x02k1\x03bob\x02k2\x03x\x00\xff"},
		{impl.Proof{Sides: slices.Repeat([]string{"12"}, 8)}, 2, "\x00\x081212121212121212"},
	} {
		if got, ok := impl.ProofText(c.p, c.w); got != c.want || !ok {
			t.Errorf("ProofText of %d leaves and %d sides: %q, %v; want %q", len(c.p.Bucket), len(c.p.Sides), got, ok, c.want)
		}
	}
}

// writtenProofs need be of no one index: a text has no name to hold them against.
func writtenProofs(w int) []impl.Proof {
	proofs := proofsFor("ann", w)
	for _, list := range append(rightLists(), crowdedLists()...) {
		for _, count := range []int{0, 1, 8} {
			proofs = append(proofs, impl.Proof{Bucket: list, Sides: sidesFrom(count, w)})
		}
	}
	return proofs
}

func comesBackFromItsText(t *testing.T, p impl.Proof, w int) {
	t.Helper()
	text, ok := impl.ProofText(p, w)
	if !ok || text != proofTextByWords(p) {
		t.Fatalf("ProofText of %d leaves, %d sides, %d wide: %.60q, %v", len(p.Bucket), len(p.Sides), w, text, ok)
	}
	if got, ok := impl.ReadProof(text, w); !ok || !sameProof(got, p) {
		t.Errorf("ReadProof of %d leaves, %d sides, %d wide: %q, %x, %v", len(p.Bucket), len(p.Sides), w, got.Bucket, got.Sides, ok)
	}
}

func TestProofsComeBackFromTheirTexts(t *testing.T) {
	for w := 1; w <= 32; w++ {
		for _, p := range writtenProofs(w) {
			comesBackFromItsText(t, p, w)
		}
	}
	for _, list := range fewTreeLists() {
		for _, name := range namesToFold(list)[:8] {
			for _, level := range []int{0, 3, 8} {
				comesBackFromItsText(t, proved(t, list, name, level, 16), 16)
			}
		}
	}
}

func refusesText(t *testing.T, what string, p impl.Proof, w int) {
	t.Helper()
	if got, ok := impl.ProofText(p, w); ok || got != "" {
		t.Errorf("ProofText with %s, %d leaves, %d sides, %d wide: %.60q, %v", what, len(p.Bucket), len(p.Sides), w, got, ok)
	}
}

func TestProofTextOfWhatIsNotRight(t *testing.T) {
	for _, list := range wrongLists() {
		refusesText(t, "a wrong bucket", impl.Proof{Bucket: list}, 16)
		refusesText(t, "a wrong bucket", impl.Proof{Bucket: list, Sides: sidesFrom(8, 16)}, 16)
	}
	for _, w := range rightWidths() {
		for count := 9; count <= 14; count++ {
			refusesText(t, "too many sides", impl.Proof{Sides: sidesFrom(count, w)}, w)
		}
		for at := range 8 {
			p := impl.Proof{Bucket: leavesOf("ann", "k1"), Sides: sidesFrom(8, w)}
			for _, size := range []int{0, w - 1, w + 1, 256 + w} {
				refusesText(t, "a side of another width", withSide(p, at, turning(size)), w)
			}
		}
		refusesText(t, "a wider width", impl.Proof{Sides: sidesFrom(3, w)}, w+1)
		refusesText(t, "a narrower width", impl.Proof{Sides: sidesFrom(3, w)}, w-1)
	}
	for _, w := range wrongWidths() {
		refusesText(t, "a wrong width", impl.Proof{}, w)
		refusesText(t, "a wrong width", impl.Proof{Bucket: leavesOf("ann", "k1"), Sides: sidesFrom(8, 16)}, w)
	}
	refusesText(t, "empty sides and no width", impl.Proof{Sides: []string{"", ""}}, 0)
	refusesText(t, "sides of 33", impl.Proof{Sides: []string{turning(33)}}, 33)
}

func refusesProof(t *testing.T, what string, text string, w int) {
	t.Helper()
	if p, ok := impl.ReadProof(text, w); ok || !sameProof(p, impl.Proof{}) {
		t.Errorf("%s: ReadProof of %.60q, %d wide: %d leaves, %d sides, %v", what, text, w, len(p.Bucket), len(p.Sides), ok)
	}
}

func TestReadProofOfCutsAndMore(t *testing.T) {
	for _, w := range []int{1, 4, 32} {
		for _, p := range writtenProofs(w) {
			text := proofTextByWords(p)
			for at := range len(text) {
				refusesProof(t, "a text that is cut", text[:at], w)
			}
			for _, more := range []string{"\x00", "\x01", " ", "\xff", "\x00\x00", text, turning(300)} {
				refusesProof(t, "a text with bytes behind", text+more, w)
			}
		}
	}
	refusesProof(t, "nothing", "", 16)
	refusesProof(t, "leaves alone", "\x00", 16)
	refusesProof(t, "leaves alone", "\x01\x03ann\x02k1", 16)
}

func TestReadProofOfWrongNumbersOfSides(t *testing.T) {
	for _, w := range rightWidths() {
		for _, bucket := range [][]impl.Leaf{nil, leavesOf("ann", "k1")} {
			leaves := leavesTextByWords(bucket)
			for count := range 14 {
				body := strings.Join(sidesFrom(count, w), "")
				for _, told := range []int{0, 1, count - 1, count + 1, 7, 8, 9, 10, 127, 128, 256 + count, 20000, 1000000000, 1000000001} {
					if told >= 0 && told != count {
						refusesProof(t, "a wrong number of sides", leaves+lengthByWords(told)+body, w)
					}
				}
				if text := leaves + lengthByWords(count) + body; count > 8 {
					refusesProof(t, "too many sides", text, w)
				} else if _, ok := impl.ReadProof(text, w); !ok {
					t.Errorf("ReadProof of %d sides, %d wide, is false", count, w)
				}
			}
		}
	}
	refusesProof(t, "a number that never ends", "\x00"+strings.Repeat("\xff", 40), 1)
	refusesProof(t, "the greatest number", "\x00\x80\x94\xeb\xdc\x03", 1)
}

func TestReadProofOfLongerForms(t *testing.T) {
	for count := range 9 {
		body := strings.Join(sidesFrom(count, 2), "")
		low := string([]byte{byte(128 + count)})
		for _, number := range []string{low + "\x00", low + "\x80\x00", low + "\x80\x80\x80\x00", low, low + "\x80"} {
			refusesProof(t, "a longer form of a number", "\x00"+number+body, 2)
			refusesProof(t, "a longer form of a number", "\x01\x03ann\x02k1"+number+body, 2)
		}
	}
	for _, text := range []string{"\x80\x00\x00", "\x81\x00\x01a\x01!\x00", "\x01\x81\x00a\x01!\x00", "\x01\x01a\x81\x00!\x00"} {
		refusesProof(t, "a longer form in the leaves", text, 2)
	}
}

// A right text, but of leaves that are not: too many, not ascending, a wrong name, a wrong value.
func TestReadProofOfWrongLeaves(t *testing.T) {
	for _, list := range wrongLists() {
		for _, count := range []int{0, 1, 8} {
			refusesProof(t, "wrong leaves", proofTextByWords(impl.Proof{Bucket: list, Sides: sidesFrom(count, 16)}), 16)
		}
	}
}

func TestReadProofOfAnotherWidth(t *testing.T) {
	for w := 1; w <= 32; w++ {
		for _, count := range []int{0, 1, 2, 7, 8} {
			p := impl.Proof{Bucket: leavesOf("ann", "k1"), Sides: sidesFrom(count, w)}
			text := proofTextByWords(p)
			for other := -3; other <= 40; other++ {
				if right := other >= 1 && other <= 32; right && (other == w || count == 0) {
					if got, ok := impl.ReadProof(text, other); !ok || !sameProof(got, p) {
						t.Errorf("ReadProof of %d sides, %d wide: %v", count, other, ok)
					}
				} else {
					refusesProof(t, "another width", text, other)
				}
			}
			for _, other := range wrongWidths() {
				refusesProof(t, "a wrong width", text, other)
			}
		}
	}
	refusesProof(t, "no width, and sides that have none", "\x00\x02", 0)
	refusesProof(t, "a width of 33", "\x00\x01"+turning(33), 33)
}

func readsProofByWords(t *testing.T, text string, w int) {
	t.Helper()
	want, right := readProofByWords(text, w)
	got, ok := impl.ReadProof(text, w)
	if ok != right || !sameProof(got, want) {
		t.Errorf("ReadProof of %.60q, %d wide: %q, %x, %v; want %v", text, w, got.Bucket, got.Sides, ok, right)
	}
	if again, _ := impl.ProofText(got, w); ok && again != text {
		t.Errorf("ReadProof of %.60q is written as %.60q", text, again)
	}
}

func TestReadProofOfAllShortTexts(t *testing.T) {
	letters := "\x00\x01\x02\x80a!"
	texts := []string{""}
	for range 7 {
		var longer []string
		for _, text := range texts {
			readsProofByWords(t, text, 1)
			readsProofByWords(t, text, 2)
			for i := range len(letters) {
				longer = append(longer, text+letters[i:i+1])
			}
		}
		texts = longer
	}
}

func TestReadProofWithOneByteTurned(t *testing.T) {
	for _, p := range []impl.Proof{{}, {Sides: sidesFrom(8, 3)}, {Bucket: leavesOf("ann", "k1", "bob", "k2")}, {Bucket: leavesOf("ann", "k1", "bob", "k2"), Sides: sidesFrom(4, 3)}, {Bucket: leavesFrom(5), Sides: sidesFrom(8, 3)}} {
		text := proofTextByWords(p)
		for at := range len(text) {
			for by := 1; by < 256; by++ {
				readsProofByWords(t, turned(text, at, byte(by)), 3)
			}
		}
	}
}

func TestReadProofOfDrawnTexts(t *testing.T) {
	state := uint64(11)
	read := 0
	for range 40000 {
		text := make([]byte, drawn(&state, 16))
		for i := range text {
			text[i] = []byte{0, 1, 2, 3, 8, 9, 'a', 'b', '!', byte(drawn(&state, 256))}[drawn(&state, 10)]
		}
		w := 1 + drawn(&state, 3)
		readsProofByWords(t, string(text), w)
		if _, ok := impl.ReadProof(string(text), w); ok {
			read++
		}
	}
	if read < 50 {
		t.Errorf("only %d drawn texts were read", read)
	}
}

// extracts holds ExtractTwo against the words, both ways round, and answers where in ProofTexts its two were; below 0 when there are none.
func extracts(t *testing.T, name string, p, q impl.Proof, w int) int {
	t.Helper()
	want := extractByWords(name, p, q, w)
	var got, back twoTexts
	got.first, got.second, got.ok = impl.ExtractTwo(name, p, q, w)
	back.second, back.first, back.ok = impl.ExtractTwo(name, q, p, w)
	if got != want || back != want {
		t.Fatalf("ExtractTwo of %q, %d wide: %q and back %q; want %q", name, w, got.list(), back.list(), want.list())
	}
	if !got.ok {
		return -1
	}
	if got.first == got.second || impl.CutDigest(got.first, w) != impl.CutDigest(got.second, w) || len(impl.CutDigest(got.first, w)) != w {
		t.Fatalf("ExtractTwo of %q, %d wide: %x and %x are no two texts with one digest", name, w, got.first, got.second)
	}
	at := slices.Index(impl.ProofTexts(name, p, w), got.first)
	if at < 0 || impl.ProofTexts(name, q, w)[at] != got.second {
		t.Fatalf("ExtractTwo of %q, %d wide: its texts are not the proofs'", name, w)
	}
	return at
}

// manyProofs are right, of one name and with these sides; all say something else.
func manyProofs(name string, sides []string, count int) []impl.Proof {
	proofs := []impl.Proof{{Sides: sides}}
	for i := range count {
		proofs = append(proofs, impl.Proof{Bucket: leavesOf(name, "v"+impl.Decimal(i)), Sides: sides})
	}
	return proofs
}

// extractsAll takes every two of the proofs; where they have one hash and say otherwise there must be two texts. It answers how often these were at which place.
func extractsAll(t *testing.T, name string, proofs []impl.Proof, w int) map[int]int {
	t.Helper()
	places := map[int]int{}
	hashes := make([]string, len(proofs))
	for i, p := range proofs {
		hashes[i] = impl.ProofHash(name, p, w)
	}
	for i, p := range proofs {
		for k, q := range proofs[:i] {
			if hashes[i] != hashes[k] {
				continue
			}
			value, there := impl.ProofSays(name, p)
			other, also := impl.ProofSays(name, q)
			at := extracts(t, name, p, q, w)
			if otherwise := value != other || there != also; (at >= 0) != otherwise {
				t.Fatalf("two of %q with one hash, which say otherwise: %v, have their two texts at %d", name, otherwise, at)
			}
			places[at]++
		}
	}
	return places
}

// The other half of the promise: with one byte a hash many are alike, and whatever says otherwise with one hash gives two texts with one digest, wherever on the way up that is.
func TestTwoThatSayOtherwiseGiveTwoTexts(t *testing.T) {
	for _, name := range []string{"ann", namesOfIndex(0, 1)[0], namesOfIndex(255, 1)[0]} {
		places := extractsAll(t, name, manyProofs(name, sidesFrom(8, 1), 300), 1)
		for at := range 9 {
			if places[at] == 0 {
				t.Errorf("no two texts of %q were at %d", name, at)
			}
		}
	}
	if places := extractsAll(t, "ann", manyProofs("ann", sidesFrom(8, 2), 900), 2); len(places) == 0 {
		t.Error("no two texts were found with two bytes a hash")
	}
	for count := range 9 {
		if places := extractsAll(t, "ann", manyProofs("ann", sidesFrom(count, 1), 120), 1); len(places) == 0 {
			t.Errorf("no two texts were found with %d sides", count)
		}
	}
}

// Right lists make such proofs, too: of names that are there and names that are not, in whatever list.
func TestTwoListsThatSayOtherwiseGiveTwoTexts(t *testing.T) {
	state := uint64(1111)
	names := append(namesOfIndex(77, 3), "ann", "bob")
	for _, level := range []int{0, 2, 8} {
		proofs := map[string][]impl.Proof{}
		for range 150 {
			list := []impl.Leaf{}
			for _, name := range append([]string{"n10", "n11", "n12", "n13"}, names...) {
				if drawn(&state, 3) > 0 {
					list, _ = impl.LeafPut(list, name, "v"+impl.Decimal(drawn(&state, 9)))
				}
			}
			for _, name := range names {
				proofs[name] = append(proofs[name], proved(t, list, name, level, 1))
			}
		}
		for name, list := range proofs {
			places := extractsAll(t, name, list, 1)
			delete(places, -1)
			if level < 8 && len(places) == 0 {
				t.Errorf("no two texts of %q up to %d were found", name, level)
			}
		}
	}
}

// twoProofs are right, of one name, with so many sides each and one hash, but they say otherwise. Their sides need not be alike.
func twoProofs(t *testing.T, name string, count, other int) (impl.Proof, impl.Proof) {
	t.Helper()
	of := map[string]impl.Proof{}
	for _, p := range manyProofs(name, sidesFrom(count, 1), 400) {
		of[impl.ProofHash(name, p, 1)] = p
	}
	for i := range 400 {
		q := impl.Proof{Bucket: leavesOf(name, "w"+impl.Decimal(i)), Sides: sidesFrom(other, 1)}
		if p, there := of[impl.ProofHash(name, q, 1)]; there {
			return p, q
		}
	}
	t.Fatal("no two proofs were found")
	return impl.Proof{}, impl.Proof{}
}

func noTwo(t *testing.T, what string, name string, p, q impl.Proof, w int) {
	t.Helper()
	if at := extracts(t, name, p, q, w); at >= 0 {
		t.Errorf("ExtractTwo with %s has two texts at %d", what, at)
	}
}

func TestExtractTwoOfUnlikeSides(t *testing.T) {
	seen := 0
	for _, name := range proofNames() {
		p, q := twoProofs(t, name, 8, 8)
		for by := range 256 {
			for at := range 8 {
				other := withSide(q, at, string([]byte{byte(by)}))
				if impl.ProofHash(name, other, 1) == impl.ProofHash(name, p, 1) && extracts(t, name, p, other, 1) >= 0 {
					seen++
				}
			}
		}
	}
	if seen < 50 {
		t.Errorf("only %d were seen", seen)
	}
}

func TestExtractTwoOfAnotherNumberOfSides(t *testing.T) {
	for count := range 9 {
		for other := range 9 {
			p, q := twoProofs(t, "ann", count, other)
			if at := extracts(t, "ann", p, q, 1); (at >= 0) != (count == other) {
				t.Errorf("ExtractTwo of %d and %d sides has two texts at %d", count, other, at)
			}
		}
	}
}

func TestExtractTwoOfUnlikeHashes(t *testing.T) {
	seen := 0
	proofs := manyProofs("ann", sidesFrom(8, 1), 60)
	for _, p := range proofs {
		for _, q := range proofs {
			if impl.ProofHash("ann", p, 1) != impl.ProofHash("ann", q, 1) {
				noTwo(t, "unlike hashes", "ann", p, q, 1)
				seen++
			}
		}
	}
	if seen < 1000 {
		t.Errorf("only %d were seen", seen)
	}
	for _, w := range []int{16, 32} {
		wide := manyProofs("ann", sidesFrom(8, w), 2)
		noTwo(t, "unlike wide hashes", "ann", wide[0], wide[1], w)
		noTwo(t, "unlike wide hashes", "ann", wide[1], wide[2], w)
	}
}

// Two that say the same of the name give nothing, though they differ in what they say of others, or in their sides.
func TestExtractTwoOfWhatSaysTheSame(t *testing.T) {
	names := namesOfIndex(77, 3)
	seen := 0
	for _, p := range manyProofs(names[0], sidesFrom(8, 1), 300) {
		for _, q := range manyProofs(names[0], sidesFrom(8, 1), 3) {
			if impl.ProofHash(names[0], p, 1) != impl.ProofHash(names[0], q, 1) || slices.Equal(p.Bucket, q.Bucket) {
				continue
			}
			seen++
			if at := extracts(t, names[0], p, q, 1); at < 0 {
				t.Error("ExtractTwo of two that say otherwise has none")
			}
			noTwo(t, "another name of the index, which is in neither", names[1], p, q, 1)
		}
	}
	if seen == 0 {
		t.Error("none were seen")
	}
	for _, p := range proofsFor("ann", 1) {
		noTwo(t, "the same twice", "ann", p, proofCopy(p), 1)
		for at := range p.Sides {
			noTwo(t, "another side", "ann", p, withSide(p, at, "?"), 1)
		}
	}
}

// All that makes a proof wrong makes ExtractTwo false, also where all else would do.
func TestExtractTwoOfWhatIsNotRight(t *testing.T) {
	for _, count := range []int{0, 1, 8} {
		p, q := twoProofs(t, "ann", count, count)
		if extracts(t, "ann", p, q, 1) < 0 {
			t.Fatal("two proofs have no two texts")
		}
		for _, name := range append(wrongLeafNames(), "bob", "nobody") {
			noTwo(t, "a wrong or another name", name, p, q, 1)
		}
		for _, w := range wrongWidths() {
			noTwo(t, "a wrong width", "ann", p, q, w)
		}
		long := proofCopy(q)
		long.Sides = sidesFrom(9, 1)
		noTwo(t, "too many sides", "ann", p, long, 1)
		noTwo(t, "too many sides of both", "ann", impl.Proof{Bucket: p.Bucket, Sides: long.Sides}, long, 1)
		for at := range count {
			noTwo(t, "a side that is too long", "ann", p, withSide(q, at, "12"), 1)
			noTwo(t, "a side that is too short", "ann", p, withSide(q, at, ""), 1)
			noTwo(t, "a width that the sides have not", "ann", p, q, 2)
		}
		for _, bucket := range [][]impl.Leaf{leavesOf("ann", ""), leavesOf("ann", "a b"), leavesOf("ann", "x", "ann", "y"), leavesOf("ann", "x", "bob", "y"), leavesOf("bob", "y"), leavesOf("Ann", "x")} {
			noTwo(t, "a wrong bucket", "ann", p, impl.Proof{Bucket: bucket, Sides: q.Sides}, 1)
			noTwo(t, "two wrong buckets", "ann", impl.Proof{Bucket: bucket, Sides: p.Sides}, impl.Proof{Bucket: leavesOf("ann", ""), Sides: q.Sides}, 1)
		}
	}
	noTwo(t, "two proofs of nothing", "ann", impl.Proof{}, impl.Proof{}, 1)
	noTwo(t, "two proofs of nothing, no width", "ann", impl.Proof{}, impl.Proof{}, 0)
}

func TestProofsOfIntsAtTheirEnds(t *testing.T) {
	p := impl.Proof{Bucket: leavesOf("ann", "k1"), Sides: sidesFrom(8, 16)}
	text := proofTextByWords(p)
	for _, n := range []int{math.MaxInt, math.MinInt, 1 << 32, 1<<32 + 16, -16, 1<<62 + 16} {
		refusesProve(t, "such a width", p.Bucket, "ann", 0, n)
		refusesProve(t, "such a level", p.Bucket, "ann", n, 16)
		isOk(t, "such a width", "ann", p, n, false)
		refusesText(t, "such a width", p, n)
		refusesProof(t, "such a width", text, n)
		noTwo(t, "such a width", "ann", p, p, n)
	}
}

func textsOfProof(p impl.Proof) []string {
	return append(textsOfLeaves(p.Bucket), p.Sides...)
}

// ownProof has all its texts in memory of its own.
func ownProof(name string, count int) impl.Proof {
	p := impl.Proof{Bucket: []impl.Leaf{{Name: strings.Clone(name), Value: strings.Clone("value")}}}
	for _, side := range sidesFrom(count, 16) {
		p.Sides = append(p.Sides, strings.Clone(side))
	}
	return p
}

func TestProofsAnswerNewMemory(t *testing.T) {
	list := ownLeaves()
	for _, name := range []string{"n12", "nobody"} {
		for _, level := range []int{0, 4, 8} {
			p := proved(t, list, name, level, 16)
			noneShares(t, "a proof and its list", textsOfProof(p), append(textsOfLeaves(list), name))
			noneShares(t, "a proof's lists", textsOfLeaves(p.Bucket), p.Sides)
			clear(p.Bucket)
			clear(p.Sides)
		}
	}
	if !slices.Equal(list, leavesFrom(6)) {
		t.Error("a list goes with what was proven of it")
	}
	for _, count := range []int{0, 1, 8} {
		p, name := ownProof("ann", count), strings.Clone("ann")
		given := append(textsOfProof(p), name)
		text, _ := impl.ProofText(p, 16)
		value, _ := impl.ProofSays(name, p)
		answers := append(impl.ProofTexts(name, p, 16), impl.ProofHash(name, p, 16), text, value)
		noneShares(t, "an answer and what was handed in", answers, given)
		read, _ := impl.ReadProof(text, 16)
		noneShares(t, "what was read and its text", textsOfProof(read), append(given, text))
		noneShares(t, "the lists of what was read", textsOfLeaves(read.Bucket), read.Sides)
		if !sameProof(p, ownProof("ann", count)) || !sameProof(read, p) {
			t.Error("an argument was written into")
		}
	}
	p, q := twoProofs(t, "ann", 8, 8)
	first, second, _ := impl.ExtractTwo("ann", p, q, 1)
	noneShares(t, "two texts and their proofs", []string{first, second}, append(textsOfProof(p), textsOfProof(q)...))
	noneShares(t, "two texts", []string{first}, []string{second})
}

// What is handed in may be pieces of longer lists, whose spare room is somebody else's.
func TestProofsWriteIntoNoSpareRoom(t *testing.T) {
	names := namesOfIndex(77, 12)
	room := impl.Proof{Sides: sidesFrom(12, 1)}
	for _, name := range names {
		room.Bucket = append(room.Bucket, impl.Leaf{Name: name, Value: "v"})
	}
	was := proofCopy(room)
	for size := range len(room.Bucket) {
		for count := range len(room.Sides) {
			p := impl.Proof{Bucket: room.Bucket[:size], Sides: room.Sides[:count]}
			impl.ProofOk(names[0], p, 1)
			texts := impl.ProofTexts(names[0], p, 1)
			clear(texts[:cap(texts)])
			impl.ProofHash(names[0], p, 1)
			impl.ProofSays(names[0], p)
			impl.ProofText(p, 1)
			impl.ExtractTwo(names[0], p, impl.Proof{Sides: p.Sides}, 1)
			impl.ExtractTwo(names[0], impl.Proof{Sides: p.Sides}, p, 1)
			for _, level := range []int{0, 8} {
				made, _ := impl.ProveLeaf(p.Bucket, names[0], level, 16)
				clear(made.Bucket[:cap(made.Bucket)])
				clear(made.Sides[:cap(made.Sides)])
			}
		}
		if !sameProof(room, was) {
			t.Fatalf("with %d leaves handed in, lists or the room behind them were written into", size)
		}
	}
}

// Every call answers from what it is given alone: again the same, also behind a text that could not be read.
func TestProofsKeepNothing(t *testing.T) {
	list := leavesFrom(20)
	want := proofCopy(proved(t, list, "n12", 0, 16))
	text := proofTextByWords(want)
	for range 20 {
		p := proved(t, list, "n12", 0, 16)
		read, ok := impl.ReadProof(text, 16)
		if !sameProof(p, want) || !sameProof(read, want) || !ok {
			t.Fatal("an answer goes with what was done to one ahead")
		}
		refusesProof(t, "a cut text", text[:len(text)-1], 16)
		refusesProve(t, "too many leaves", leavesFrom(25), "n12", 0, 16)
		for _, answer := range []impl.Proof{p, read} {
			clear(answer.Bucket)
			clear(answer.Sides)
		}
	}
}

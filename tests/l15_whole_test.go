package tests

import (
	"math"
	"slices"
	"strings"
	"sync"
	"testing"

	"loop.example/g00284/impl"
)

func houseSeed(house int) string {
	return "house" + impl.Decimal(house)
}

// housePools are those of all houses; nobody writes into them.
var housePools = sync.OnceValue(func() [][]string {
	var pools [][]string
	for house := range 3 {
		pools = append(pools, impl.PoolOf(houseSeed(house)))
	}
	return pools
})

func trustOf(k, need int) impl.Trust {
	t := impl.Trust{K: k, Need: need}
	for _, pool := range housePools() {
		t.Roots = append(t.Roots, impl.PoolRoot(pool))
	}
	return t
}

// otherHouses are those that may stamp what this one sealed.
func otherHouses(house int) []int {
	return slices.DeleteFunc(rightHouses(), func(other int) bool { return other == house })
}

// query is all that Verify is given.
type query struct {
	trust impl.Trust
	house int
	name  string
	epoch int
	whole impl.Whole
}

func wholeCopy(x impl.Whole) impl.Whole {
	y := impl.Whole{Proof: proofCopy(x.Proof), Tops: slices.Clone(x.Tops), Seal: impl.Seal{Head: x.Seal.Head, Sig: sigCopy(x.Seal.Sig)}}
	for _, s := range x.Stamps {
		y.Stamps = append(y.Stamps, impl.Stamp{By: s.By, Sig: sigCopy(s.Sig)})
	}
	return y
}

func sameStamp(a, b impl.Stamp) bool {
	return a.By == b.By && sameSig(a.Sig, b.Sig)
}

func sameWhole(a, b impl.Whole) bool {
	return sameProof(a.Proof, b.Proof) && slices.Equal(a.Tops, b.Tops) && sameSeal(a.Seal, b.Seal) && slices.EqualFunc(a.Stamps, b.Stamps, sameStamp)
}

func sameTrust(a, b impl.Trust) bool {
	return slices.Equal(a.Roots, b.Roots) && a.K == b.K && a.Need == b.Need
}

// changedBy is what comes of these changes, in order, and shares no list with q.
func (q query) changedBy(changes ...func(*query)) query {
	q.trust.Roots = slices.Clone(q.trust.Roots)
	q.whole = wholeCopy(q.whole)
	for _, change := range changes {
		change(&q)
	}
	return q
}

func sealOf(t *testing.T, house int, h impl.Head) impl.Seal {
	t.Helper()
	s, ok := impl.SealHead(houseSeed(house), housePools()[house], h)
	if !ok {
		t.Fatalf("SealHead of %v by the house %d is false", h, house)
	}
	return s
}

func stampOf(t *testing.T, by int, h impl.Head) impl.Stamp {
	t.Helper()
	s, ok := impl.StampHead(houseSeed(by), housePools()[by], h)
	if !ok {
		t.Fatalf("StampHead of %v by the house %d is false", h, by)
	}
	return impl.Stamp{By: by, Sig: s}
}

// signAnew seals another head, and has it stamped by those houses that stamped the one ahead.
func (q *query) signAnew(t *testing.T, h impl.Head) {
	t.Helper()
	q.whole.Seal = sealOf(t, h.House, h)
	for i, s := range q.whole.Stamps {
		if slices.Contains(rightHouses(), s.By) {
			q.whole.Stamps[i] = stampOf(t, s.By, h)
		}
	}
}

// queryOf puts a whole proof together of the list's parts, wants all of its stamps, and asks for just what it is of.
func queryOf(t *testing.T, list []impl.Leaf, name string, k, house, epoch int, by ...int) query {
	t.Helper()
	head, ok := impl.NextHead(chainFrom(house, epoch-1, 3), house, impl.RootOf(list, 16))
	if !ok {
		t.Fatalf("NextHead of the house %d, epoch %d, is false", house, epoch)
	}
	parts := shardParts(list, k)
	var roots []string
	for shard, part := range parts {
		roots = append(roots, impl.ShardRoot(part, k, shard, 16))
	}
	q := query{trust: trustOf(k, len(by)), house: house, name: name, epoch: epoch}
	shard := impl.ShardOf(name, k)
	q.whole.Proof = proved(t, parts[shard], name, k, 16)
	if q.whole.Tops, ok = impl.CombineSides(roots, shard, 16); !ok {
		t.Fatalf("CombineSides of the shard %d is false", shard)
	}
	q.whole.Seal = sealOf(t, house, head)
	for _, other := range by {
		q.whole.Stamps = append(q.whole.Stamps, stampOf(t, other, head))
	}
	return q
}

// aQuery has a bucket of two leaves, and one of each other thing at least that a whole proof with this k may have.
func aQuery(t *testing.T, k int) query {
	t.Helper()
	names := namesOfIndex(90, 2)
	list := append(leavesOf("ann", "k1", "bob", "k2"), leavesOf(names[0], "first", names[1], "second")...)
	return queryOf(t, sortedByName(list), names[1], k, 1, 3, 0, 2)
}

func trustOkByWords(t impl.Trust) bool {
	for _, root := range t.Roots {
		if len(root) != 16 {
			return false
		}
	}
	return len(t.Roots) >= 1 && len(t.Roots) <= 3 && t.K >= 0 && t.K <= 2 && t.Need >= 0 && t.Need <= 2
}

// sigOkByWords is of a Sig of any form.
func sigOkByWords(root, text string, s impl.Sig, at int) bool {
	for _, key := range textsOfSig(s) {
		if len(key) != 16 {
			return false
		}
	}
	if s.At != at || len(s.Open) != 8 || len(s.Shut) != 8 || len(s.Sides) != 4 {
		return false
	}
	return cutByWords(sigTextsByWords(text, s)[12], 16) == root
}

func sealOkByWords(root string, s impl.Seal) bool {
	return headOkByWords(s.Head) && sigOkByWords(root, headHashByWords(s.Head), s.Sig, sealPlace(s.Head))
}

func stampOkByWords(root string, h impl.Head, s impl.Sig) bool {
	return headOkByWords(h) && sigOkByWords(root, stampedByWords(h), s, stampPlace(h))
}

func formOkByWords(q query) bool {
	for i, s := range q.whole.Stamps {
		if i > 0 && s.By <= q.whole.Stamps[i-1].By {
			return false
		}
	}
	for _, top := range q.whole.Tops {
		if len(top) != 16 {
			return false
		}
	}
	return trustOkByWords(q.trust) && q.house >= 0 && q.house < len(q.trust.Roots) && proofOkByWords(q.name, q.whole.Proof, 16) && len(q.whole.Proof.Sides) == 8-q.trust.K && len(q.whole.Tops) == q.trust.K
}

func rightStampsByWords(q query) int {
	count := 0
	for by, root := range q.trust.Roots {
		for _, s := range q.whole.Stamps {
			if by != q.house && s.By == by && stampOkByWords(root, q.whole.Seal.Head, s.Sig) {
				count++
			}
		}
	}
	return count
}

// codesByWords are all that are so, or WholeForm alone.
func codesByWords(q query) []int {
	if !formOkByWords(q) {
		return []int{1}
	}
	var codes []int
	head := q.whole.Seal.Head
	if head.House != q.house || head.Epoch != q.epoch {
		codes = append(codes, 2)
	}
	if !sealOkByWords(q.trust.Roots[q.house], q.whole.Seal) {
		codes = append(codes, 3)
	}
	if foldByWords(proofHashByWords(q.name, q.whole.Proof, 16), indexByWords(q.name), q.trust.K, q.whole.Tops, 16) != head.Root {
		codes = append(codes, 4)
	}
	if rightStampsByWords(q) < q.trust.Need {
		codes = append(codes, 5)
	}
	return codes
}

// verifies holds Verify against the words, and answers its code.
func verifies(t *testing.T, what string, q query) int {
	t.Helper()
	value, there, code := impl.Verify(q.trust, q.house, q.name, q.epoch, q.whole)
	wantValue, wantThere, wantCode := "", false, 0
	if codes := codesByWords(q); len(codes) > 0 {
		wantCode = codes[0]
	} else if at := placeOfLeaf(q.whole.Proof.Bucket, q.name); at >= 0 {
		wantValue, wantThere = q.whole.Proof.Bucket[at].Value, true
	}
	if value != wantValue || there != wantThere || code != wantCode {
		t.Errorf("Verify of %s (k %d, house %d, epoch %d, name %.20q): %q, %v, %d; want %q, %v, %d", what, q.trust.K, q.house, q.epoch, q.name, value, there, code, wantValue, wantThere, wantCode)
	}
	return code
}

func hasCode(t *testing.T, what string, q query, want int) {
	t.Helper()
	if code := verifies(t, what, q); code != want {
		t.Errorf("Verify of %s (k %d, house %d, epoch %d): code %d; want %d", what, q.trust.K, q.house, q.epoch, code, want)
	}
}

// wholeTextByWords is of any whole proof, right or not, so that wrong texts can be made by it.
func wholeTextByWords(x impl.Whole) string {
	return textOfPieces(wholePieces(x))
}

func refusesWhole(t *testing.T, what string, text string) {
	t.Helper()
	if x, ok := impl.ReadWhole(text); ok || !sameWhole(x, impl.Whole{}) {
		t.Errorf("ReadWhole of %s (%d bytes, %.20x..): %v, %v", what, len(text), text, x, ok)
	}
}

func noWholeText(t *testing.T, what string, x impl.Whole) {
	t.Helper()
	if text, ok := impl.WholeText(x); ok || text != "" {
		t.Errorf("WholeText of %s: %x, %v", what, text, ok)
	}
}

func TestWholeConstants(t *testing.T) {
	if got := [5]int{impl.WholeForm, impl.WholeOther, impl.WholeSeal, impl.WholeRoot, impl.WholeStamps}; got != [5]int{1, 2, 3, 4, 5} {
		t.Errorf("the codes are %v", got)
	}
}

func isTrustOk(t *testing.T, what string, trust impl.Trust, want bool) {
	t.Helper()
	if ok := impl.TrustOk(trust); ok != want || trustOkByWords(trust) != want {
		t.Errorf("TrustOk of %s (%d Roots, K %d, Need %d): %v", what, len(trust.Roots), trust.K, trust.Need, ok)
	}
}

func TestTrustOkOfRoots(t *testing.T) {
	roots := []string{rootAt(0), rootAt(1), rootAt(2), rootAt(3), rootAt(4)}
	for count := range len(roots) + 1 {
		isTrustOk(t, "so many Roots", impl.Trust{Roots: roots[:count]}, count >= 1 && count <= impl.MaxHouses)
		for at := range count {
			for _, width := range wrongHashWidths() {
				other := slices.Clone(roots[:count])
				other[at] = turning(40)[:width]
				isTrustOk(t, "a Root of another width", impl.Trust{Roots: other}, false)
			}
		}
	}
	isTrustOk(t, "no Roots", impl.Trust{Roots: nil, K: 1, Need: 1}, false)
	isTrustOk(t, "nothing", impl.Trust{}, false)
	alike := impl.Trust{Roots: []string{strings.Repeat("\x00", 16), strings.Repeat("\x00", 16), strings.Repeat("\xff", 16)}}
	isTrustOk(t, "Roots of any bytes, two alike among them", alike, true)
}

func TestTrustOkOfKAndNeed(t *testing.T) {
	odd := []int{-2, -1, 0, 1, 2, 3, 4, 255, 256, 257, -255, 1<<32 + 1, math.MaxInt, math.MinInt}
	for count := 1; count <= impl.MaxHouses; count++ {
		for _, k := range odd {
			for _, need := range odd {
				trust := trustOf(k, need)
				trust.Roots = trust.Roots[:count]
				isTrustOk(t, "such numbers", trust, k >= 0 && k <= impl.MaxSplit && need >= 0 && need < impl.MaxHouses)
			}
		}
	}
}

// namesAlong are right: those at the ends of the list, some at places where another is, and some that nobody has.
func namesAlong(list []impl.Leaf) []string {
	names := []string{"nobody", "z", namesOfIndex(0, 1)[0], namesOfIndex(64, 1)[0], namesOfIndex(191, 1)[0], namesOfIndex(255, 1)[0]}
	for i, l := range list {
		if i == 0 || i == len(list)/2 || i == len(list)-1 {
			names = append(names, l.Name, namesOfIndex(impl.IndexOf(l.Name)^1, 1)[0])
			// The last of so many is not there even where the place is full.
			names = append(names, namesOfIndex(impl.IndexOf(l.Name), 25)[22:]...)
		}
	}
	return names
}

// P15: of every k, and every name, there or not, a whole proof says what the list says.
func TestWholeProofsSayWhatTheListSays(t *testing.T) {
	saidThere, saidNot := 0, 0
	for i, list := range append(fewTreeLists(), leavesAt(borderIndexes()...)) {
		for j, name := range namesAlong(list) {
			for _, k := range rightSplits() {
				house, epoch := (i+j+k)%3, (i+j)%4+1
				q := queryOf(t, list, name, k, house, epoch, otherHouses(house)...)
				hasCode(t, "a whole proof", q, 0)
				value, there, _ := impl.Verify(q.trust, house, name, epoch, q.whole)
				at := placeOfLeaf(list, name)
				if there != (at >= 0) || there && value != list[at].Value || !there && value != "" {
					t.Errorf("a whole proof of %q says %q, %v", name, value, there)
				}
				if there {
					saidThere++
				} else {
					saidNot++
				}
			}
		}
	}
	if saidThere < 50 || saidNot < 50 {
		t.Errorf("just %d names are there, and %d are not", saidThere, saidNot)
	}
}

// P15: with a head of another list, or of one with the name's leaf changed, nothing is said.
func TestWholeProofsOfAnotherListAreRefused(t *testing.T) {
	for _, list := range fewTreeLists() {
		for _, name := range namesAlong(list) {
			for _, next := range nextLists(list, name) {
				for _, k := range rightSplits() {
					q := queryOf(t, list, name, k, 2, 1, 0, 1)
					other := q.whole.Seal.Head
					other.Root = impl.RootOf(next, 16)
					hasCode(t, "a head of another list", q.changedBy(func(q *query) { q.signAnew(t, other) }), impl.WholeRoot)
				}
			}
		}
	}
}

// Every house seals, in every epoch, and whoever else there is stamps.
func TestWholeProofsOfEveryHouseAndEpoch(t *testing.T) {
	list := leavesFrom(24)
	for _, k := range rightSplits() {
		for _, house := range rightHouses() {
			for _, epoch := range rightEpochs() {
				for _, by := range [][]int{nil, otherHouses(house)[:1], otherHouses(house)[1:], otherHouses(house)} {
					q := queryOf(t, list, list[7].Name, k, house, epoch, by...)
					hasCode(t, "a whole proof", q, 0)
				}
			}
		}
	}
}

// turnsAreRefused wants of a text that it is not read, is refused, or says what q's says.
func turnsAreRefused(t *testing.T, q query, text string) {
	t.Helper()
	if !readsWholeByWords(t, text) {
		return
	}
	value, there, _ := impl.Verify(q.trust, q.house, q.name, q.epoch, q.whole)
	x, _ := impl.ReadWhole(text)
	for _, other := range []query{
		{q.trust, q.house, q.name, q.epoch, x},
		{q.trust, x.Seal.Head.House, q.name, x.Seal.Head.Epoch, x},
	} {
		if verifies(t, "a text with a byte turned", other) != 0 {
			continue
		}
		if otherValue, otherThere, _ := impl.Verify(other.trust, other.house, other.name, other.epoch, x); otherValue != value || otherThere != there {
			t.Errorf("with a byte turned %q stands for %q, %v", q.name, otherValue, otherThere)
		}
		if x.Seal.Head.Root != q.whole.Seal.Head.Root {
			t.Error("with another root it is taken")
		}
	}
}

// turnedNames are: alone at its place, one of two there, beside one, and where nothing is.
func turnedNames() ([]impl.Leaf, []string) {
	at := namesOfIndex(200, 3)
	list := sortedByName(append(leavesOf("ann", "k1", "joe@x.org", "k2"), leavesOf(at[0], "one", at[1], "two")...))
	return list, []string{"ann", at[1], at[2], "nobody"}
}

// P15: with anything turned it is refused, or says the same.
func TestWholeProofsWithAByteTurned(t *testing.T) {
	list, names := turnedNames()
	for _, k := range rightSplits() {
		for i, name := range names {
			q := queryOf(t, list, name, k, (i+k)%3, i+1, otherHouses((i+k)%3)...)
			text := wholeTextByWords(q.whole)
			for at := range len(text) {
				turnsAreRefused(t, q, turned(text, at, 1<<((at+i)%8)))
				turnsAreRefused(t, q, turned(text, at, 0xff))
			}
		}
	}
}

// P15: each bit of it, too; what hangs on stamps that nobody asks for says the same.
func TestWholeProofsWithABitTurned(t *testing.T) {
	list, names := turnedNames()
	q := queryOf(t, list, names[1], 1, 0, 2, 1)
	q.trust.Need = 0
	text := wholeTextByWords(q.whole)
	taken := 0
	for at := range len(text) {
		for bit := range 8 {
			other := turned(text, at, 1<<bit)
			turnsAreRefused(t, q, other)
			if x, ok := impl.ReadWhole(other); ok && verifies(t, "a bit turned", query{q.trust, q.house, q.name, q.epoch, x}) == 0 {
				taken++
			}
		}
	}
	// All but the stamp's By and At, which just some bytes can be, has 320 bytes.
	if taken < 320*8 {
		t.Errorf("with a bit of a stamp turned that nobody asks for just %d are taken", taken)
	}
}

// P15: everything of it that may be put otherwise, one by one, is.
func TestWholeProofsWithATextTurned(t *testing.T) {
	for _, k := range rightSplits() {
		q := aQuery(t, k)
		for _, list := range wholeLists(&q.whole) {
			for i := range *list {
				for at := range len((*list)[i]) {
					was := (*list)[i]
					(*list)[i] = turned(was, at, 1<<(at%8))
					if verifies(t, "a text turned", q) == 0 {
						t.Errorf("with a byte of one of the texts turned it is taken")
					}
					(*list)[i] = was
				}
			}
		}
		hasCode(t, "all turned back", q, 0)
	}
}

// wholeLists are all lists of texts, to be changed in place.
func wholeLists(x *impl.Whole) []*[]string {
	lists := append([]*[]string{&x.Proof.Sides, &x.Tops}, sigLists(&x.Seal.Sig)...)
	for i := range x.Stamps {
		lists = append(lists, sigLists(&x.Stamps[i].Sig)...)
	}
	return lists
}

// breaking is a change that makes one code be so.
type breaking struct {
	what   string
	change func(*query)
}

// formBreaks are of anything that the form has, for queries like aQuery of any k.
func formBreaks() []breaking {
	return slices.Concat(trustBreaks(), askBreaks(), proofBreaks(), topBreaks(), stampOrderBreaks())
}

func trustBreaks() []breaking {
	list := []breaking{
		{"no Roots", func(q *query) { q.trust.Roots = nil }},
		{"a Root too many", func(q *query) { q.trust.Roots = append(q.trust.Roots, rootAt(0)) }},
		{"no trust", func(q *query) { q.trust = impl.Trust{} }},
	}
	for at := range 3 {
		list = append(list,
			breaking{"a Root of a byte less", func(q *query) { q.trust.Roots[at] = q.trust.Roots[at][:15] }},
			breaking{"a Root of a byte more", func(q *query) { q.trust.Roots[at] += "\x00" }},
			breaking{"an empty Root", func(q *query) { q.trust.Roots[at] = "" }})
	}
	for _, n := range []int{-1, 3, 4, 256, 257, 258, math.MinInt, math.MaxInt} {
		list = append(list,
			breaking{"K that is none", func(q *query) { q.trust.K = n }},
			breaking{"Need that is none", func(q *query) { q.trust.Need = n }})
	}
	return list
}

func askBreaks() []breaking {
	list := []breaking{{"a house behind fewer Roots", func(q *query) { q.trust.Roots = q.trust.Roots[:1] }}}
	for _, house := range wrongHouses() {
		list = append(list, breaking{"a house that there is not", func(q *query) { q.house = house }})
	}
	for _, house := range []int{-1, 3} {
		list = append(list, breaking{"a house that there is not, with a head of it", func(q *query) { q.house, q.whole.Seal.House = house, house }})
	}
	for _, name := range append(wrongLeafNames(), "", "ANN", "ann ", turning(12)) {
		list = append(list, breaking{"a name that is not right", func(q *query) { q.name = name }})
		list = append(list, breaking{"a name that is not right, with no bucket", func(q *query) { q.name, q.whole.Proof.Bucket = name, nil }})
	}
	return append(list, breaking{"a name of another index", func(q *query) { q.name = namesOfIndex(91, 1)[0] }})
}

func proofBreaks() []breaking {
	list := []breaking{
		{"a side fewer", func(q *query) { q.whole.Proof.Sides = q.whole.Proof.Sides[:7-len(q.whole.Tops)] }},
		{"a side fewer at the beginning", func(q *query) { q.whole.Proof.Sides = q.whole.Proof.Sides[1:] }},
		{"a side more", func(q *query) { q.whole.Proof.Sides = append(q.whole.Proof.Sides, rootAt(0)) }},
		{"no sides", func(q *query) { q.whole.Proof.Sides = nil }},
		{"no whole proof", func(q *query) { q.whole = impl.Whole{} }},
		{"a bucket the other way round", func(q *query) { slices.Reverse(q.whole.Proof.Bucket) }},
		{"a leaf twice", func(q *query) {
			q.whole.Proof.Bucket = slices.Insert(q.whole.Proof.Bucket, 0, q.whole.Proof.Bucket[0])
		}},
		{"a leaf of another index", func(q *query) { q.whole.Proof.Bucket = leavesOf("ann", "k1") }},
		{"a leaf without a value", func(q *query) { q.whole.Proof.Bucket[0].Value = "" }},
		{"a value that is not right", func(q *query) { q.whole.Proof.Bucket[1].Value = "a b" }},
		{"a name in the bucket that is not right", func(q *query) { q.whole.Proof.Bucket[0].Name = "A" }},
		{"too many leaves", func(q *query) {
			q.whole.Proof.Bucket = nil
			for _, name := range namesOfIndex(90, 25) {
				q.whole.Proof.Bucket = append(q.whole.Proof.Bucket, impl.Leaf{Name: name, Value: "v"})
			}
		}},
	}
	for at := range 6 {
		for _, side := range []string{"", rootAt(0)[:15], rootAt(0) + "\x00", turning(32)} {
			list = append(list, breaking{"a side of another width", func(q *query) { q.whole.Proof.Sides[at] = side }})
		}
	}
	return list
}

func topBreaks() []breaking {
	list := []breaking{
		{"one of the Tops more", func(q *query) { q.whole.Tops = append(q.whole.Tops, rootAt(0)) }},
		{"an empty one of the Tops more", func(q *query) { q.whole.Tops = append(q.whole.Tops, "") }},
		{"one of the Tops fewer, or three", func(q *query) {
			if len(q.whole.Tops) == 0 {
				q.whole.Tops = []string{rootAt(0), rootAt(1), rootAt(2)}
			}
			q.whole.Tops = q.whole.Tops[1:]
		}},
		{"the last side as one of the Tops", func(q *query) {
			last := len(q.whole.Proof.Sides) - 1
			q.whole.Tops = slices.Insert(q.whole.Tops, 0, q.whole.Proof.Sides[last])
			q.whole.Proof.Sides = q.whole.Proof.Sides[:last]
		}},
		{"another K", func(q *query) { q.trust.K = (q.trust.K + 1) % 3 }},
		{"another K", func(q *query) { q.trust.K = (q.trust.K + 2) % 3 }},
	}
	for at := range 2 {
		for _, top := range []string{"", rootAt(0)[:15], rootAt(0) + "\x00", turning(32)} {
			list = append(list, breaking{"one of the Tops of another width", func(q *query) {
				// Without one at this place, there is one too many.
				if at >= len(q.whole.Tops) {
					q.whole.Tops = append(q.whole.Tops, "")
				}
				q.whole.Tops[min(at, len(q.whole.Tops)-1)] = top
			}})
		}
	}
	return list
}

func stampOrderBreaks() []breaking {
	var list []breaking
	for _, by := range [][]int{{0, 0}, {2, 0}, {0, 2, 2}, {0, 0, 2}, {0, 2, 1}, {2, 1, 0}, {-1, -1}, {0, -1}, {3, 3}, {-5, 0, 2, 9, 9}, {math.MaxInt, math.MinInt}, {5, 4}} {
		list = append(list, breaking{"Stamps that are not ascending", func(q *query) {
			q.whole.Stamps = nil
			for _, house := range by {
				q.whole.Stamps = append(q.whole.Stamps, impl.Stamp{By: house})
			}
		}})
	}
	return append(list,
		breaking{"Stamps the other way round", func(q *query) { slices.Reverse(q.whole.Stamps) }},
		breaking{"a stamp twice", func(q *query) { q.whole.Stamps = append(q.whole.Stamps, q.whole.Stamps[len(q.whole.Stamps)-1]) }},
		breaking{"the first stamp twice", func(q *query) { q.whole.Stamps = append(q.whole.Stamps[:1:1], q.whole.Stamps...) }})
}

func otherBreaks() []breaking {
	list := []breaking{
		{"another house", func(q *query) { q.house = (q.house + 1) % 3 }},
		{"another house", func(q *query) { q.house = (q.house + 2) % 3 }},
		{"a head of another house", func(q *query) { q.whole.Seal.House = (q.whole.Seal.House + 1) % 3 }},
		{"a head of another epoch", func(q *query) { q.whole.Seal.Epoch-- }},
		{"a head of a house that there is not", func(q *query) { q.whole.Seal.House = -1 }},
		{"a head of no epoch", func(q *query) { q.whole.Seal.Epoch = 0 }},
		{"no seal", func(q *query) { q.whole.Seal = impl.Seal{} }},
	}
	for _, epoch := range append(wrongEpochs(), 1, 2, 4, 256+3, 1<<32+3) {
		list = append(list, breaking{"another epoch", func(q *query) { q.epoch = epoch }})
	}
	return list
}

func sealBreaks(t *testing.T) []breaking {
	list := []breaking{
		{"another house's root", func(q *query) { q.trust.Roots[1] = q.trust.Roots[0] }},
		{"a root with a bit turned", func(q *query) { q.trust.Roots[1] = turned(q.trust.Roots[1], 15, 1) }},
		{"a seal without a Sig", func(q *query) { q.whole.Seal.Sig = impl.Sig{} }},
		{"a Sig with a bit turned", func(q *query) { q.whole.Seal.Sig.Open[0] = turned(q.whole.Seal.Sig.Open[0], 0, 128) }},
		{"a Sig at another place", func(q *query) { q.whole.Seal.Sig.At++ }},
		{"a Sig at no place", func(q *query) { q.whole.Seal.Sig.At = -1 }},
		{"a Sig of a key less", func(q *query) { q.whole.Seal.Sig.Shut = q.whole.Seal.Sig.Shut[:7] }},
		{"a seal by another house", func(q *query) { q.whole.Seal = sealOf(t, 2, q.whole.Seal.Head) }},
		{"a stamp as the seal", func(q *query) { q.whole.Seal.Sig = stampOf(t, 1, q.whole.Seal.Head).Sig }},
		{"a head without Prev", func(q *query) { q.whole.Seal.Prev = "" }},
		{"a head with Prev of a byte more", func(q *query) { q.whole.Seal.Prev += "\x00" }},
	}
	for _, epoch := range wrongEpochs() {
		list = append(list, breaking{"an epoch that there is not, asked for and told", func(q *query) { q.epoch, q.whole.Seal.Epoch = epoch, epoch }})
	}
	return append(list, breaking{"another epoch, asked for and told", func(q *query) { q.epoch, q.whole.Seal.Epoch = 2, 2 }})
}

func rootBreaks(t *testing.T) []breaking {
	list := []breaking{
		{"another value", func(q *query) { q.whole.Proof.Bucket[1].Value = "other" }},
		{"another value of another name", func(q *query) { q.whole.Proof.Bucket[0].Value = "other" }},
		{"no bucket", func(q *query) { q.whole.Proof.Bucket = nil }},
		{"a leaf less", func(q *query) { q.whole.Proof.Bucket = q.whole.Proof.Bucket[:1] }},
		{"a leaf more", func(q *query) {
			q.whole.Proof.Bucket = append(q.whole.Proof.Bucket, impl.Leaf{Name: namesOfIndex(90, 3)[2], Value: "third"})
		}},
		{"another leaf", func(q *query) {
			q.whole.Proof.Bucket = leavesOf(q.name, "second", namesOfIndex(90, 3)[2], "first")
		}},
		{"two sides swapped", func(q *query) {
			q.whole.Proof.Sides[0], q.whole.Proof.Sides[5] = q.whole.Proof.Sides[5], q.whole.Proof.Sides[0]
		}},
		{"a head with another root", func(q *query) {
			h := q.whole.Seal.Head
			h.Root = turned(h.Root, 15, 1)
			q.signAnew(t, h)
		}},
	}
	for at := range 8 {
		list = append(list, breaking{"a side or one of the Tops changed", func(q *query) {
			if low := len(q.whole.Proof.Sides); at < low {
				q.whole.Proof.Sides[at] = turned(q.whole.Proof.Sides[at], 2*at, 1)
			} else {
				q.whole.Tops[at-low] = turned(q.whole.Tops[at-low], 2*at, 1)
			}
		}})
	}
	return list
}

func stampBreaks(t *testing.T) []breaking {
	return []breaking{
		{"no stamps", func(q *query) { q.whole.Stamps = nil }},
		{"the first stamp alone", func(q *query) { q.whole.Stamps = q.whole.Stamps[:1] }},
		{"the last stamp alone", func(q *query) { q.whole.Stamps = q.whole.Stamps[1:] }},
		{"one by the own house", func(q *query) { q.whole.Stamps[0] = stampOf(t, 1, q.whole.Seal.Head) }},
		{"one by a house that there is not", func(q *query) { q.whole.Stamps[1].By = 3 }},
		{"one by a house below 0", func(q *query) { q.whole.Stamps[0].By = -1 }},
		{"another house's Sig", func(q *query) { q.whole.Stamps[0].Sig = q.whole.Stamps[1].Sig }},
		{"a stamp without a Sig", func(q *query) { q.whole.Stamps[1].Sig = impl.Sig{} }},
		{"a stamp with a bit turned", func(q *query) { q.whole.Stamps[1].Sig.Shut[7] = turned(q.whole.Stamps[1].Sig.Shut[7], 15, 1) }},
		{"a stamp of another epoch", func(q *query) { q.whole.Stamps[0] = stampOf(t, 0, chainFrom(1, 4, 0)[3]) }},
		{"a seal as a stamp", func(q *query) { q.whole.Stamps[0].Sig = sealOf(t, 0, q.whole.Seal.Head).Sig }},
		{"a root of another", func(q *query) { q.trust.Roots[2] = rootAt(0) }},
		{"fewer houses", func(q *query) { q.trust.Roots = q.trust.Roots[:2] }},
	}
}

// Each code by itself: nothing else is wrong, and the form that is not right hides what else there is.
func TestVerifyOfOneCode(t *testing.T) {
	for _, k := range rightSplits() {
		q := aQuery(t, k)
		hasCode(t, "what is right", q, 0)
		for i, breaks := range [][]breaking{formBreaks(), otherBreaks(), sealBreaks(t), rootBreaks(t), stampBreaks(t)} {
			for _, b := range breaks {
				hasCode(t, b.what, q.changedBy(b.change), i+1)
			}
		}
		for _, b := range append(rootBreaks(t), stampBreaks(t)...) {
			if codes := codesByWords(q.changedBy(b.change)); len(codes) != 1 {
				t.Errorf("with %s the codes %v are so", b.what, codes)
			}
		}
	}
}

// Where several are so, the first of them counts: whatever is wrong behind it.
func TestVerifyOfTheFirstCode(t *testing.T) {
	// These leave all others room to be wrong by themselves.
	later := []breaking{otherBreaks()[7], sealBreaks(t)[3], rootBreaks(t)[0], stampBreaks(t)[7]}
	for _, k := range rightSplits() {
		q := aQuery(t, k)
		for mask := range 16 {
			var changes []func(*query)
			first := 0
			for i := len(later) - 1; i >= 0; i-- {
				if mask>>i&1 == 1 {
					changes = append(changes, later[i].change)
					first = i + 2
				}
			}
			broken := q.changedBy(changes...)
			hasCode(t, "some that are so", broken, first)
			if len(codesByWords(broken)) != len(changes) {
				t.Errorf("the codes %v are so", codesByWords(broken))
			}
			for _, b := range formBreaks() {
				hasCode(t, b.what+", and more", broken.changedBy(b.change), impl.WholeForm)
			}
		}
	}
}

func TestVerifyOfTwoCodes(t *testing.T) {
	q := aQuery(t, 1)
	all := [][]breaking{otherBreaks(), sealBreaks(t), rootBreaks(t), stampBreaks(t)}
	for i := range all {
		for j := i + 1; j < len(all); j++ {
			for _, a := range all[i] {
				for _, b := range all[j] {
					// What is asked for as it is told is not another one any more, and a house may be gone with the fewer ones.
					if strings.HasSuffix(b.what, "asked for and told") || a.what == "another house" && b.what == "fewer houses" {
						continue
					}
					hasCode(t, a.what+", and "+b.what, q.changedBy(b.change, a.change), i+2)
				}
			}
		}
	}
}

// A head of no house and epoch has no place; whoever asks for it as it is gets no seal.
func TestVerifyOfHeadsThatAreNotRight(t *testing.T) {
	q := aQuery(t, 0)
	for _, h := range wrongHeads() {
		other := q.changedBy(func(q *query) { q.whole.Seal.Head, q.epoch = h, h.Epoch })
		if slices.Contains(rightHouses(), h.House) {
			other.house = h.House
			hasCode(t, "a head that is not right", other, impl.WholeSeal)
		} else {
			hasCode(t, "a head that is not right", other, impl.WholeOther)
		}
	}
}

// stampKind is what there is of a house among the stamps.
const (
	stampNone = iota
	stampRight
	stampWrong
	stampKinds
)

// wrongStamps are not StampOk of this head by the house's root, each for another reason.
func wrongStamps(t *testing.T, by int, h impl.Head) []impl.Stamp {
	t.Helper()
	right := stampOf(t, by, h)
	list := []impl.Stamp{
		{By: by},
		{By: by, Sig: stampOf(t, (by+1)%3, h).Sig},
		{By: by, Sig: sealOf(t, by, h).Sig},
	}
	for _, other := range aHeadEach() {
		if other.House != h.House || other.Epoch != h.Epoch {
			list = append(list, stampOf(t, by, other))
		}
	}
	unlike := headOfBits(t, h, impl.SignBitsOf(stampedByWords(h))^1, stampedByWords)
	list = append(list, stampOf(t, by, unlike))
	for i, other := range append(shapedOtherwise(right.Sig), turnedOtherwise(right.Sig)...) {
		if i%11 == 0 {
			list = append(list, impl.Stamp{By: by, Sig: other})
		}
	}
	return list
}

// stampsOfKinds has a stamp for each house that is not stampNone; the wrong one is chosen by a number.
func stampsOfKinds(t *testing.T, kinds [3]int, wrong [3][]impl.Stamp, choose int, h impl.Head) []impl.Stamp {
	t.Helper()
	var list []impl.Stamp
	for by, kind := range kinds {
		switch kind {
		case stampRight:
			list = append(list, stampOf(t, by, h))
		case stampWrong:
			list = append(list, wrong[by][choose%len(wrong[by])])
		}
	}
	return list
}

// countOf is how many are right, by a house of so many that there are, and not by this one.
func countOf(kinds [3]int, houses, own int) int {
	count := 0
	for by, kind := range kinds {
		if kind == stampRight && by != own && by < houses {
			count++
		}
	}
	return count
}

// Stamps that are too few: just the right ones count, by houses that there are, but the own.
func TestVerifyOfStampsOfEveryKind(t *testing.T) {
	choose := 0
	seen := map[[2]int]int{}
	for house := range 3 {
		q := queryOf(t, leavesFrom(3), leavesFrom(3)[1].Name, house, house, 4-house)
		var wrong [3][]impl.Stamp
		for by := range wrong {
			wrong[by] = wrongStamps(t, by, q.whole.Seal.Head)
		}
		for n := range stampKinds * stampKinds * stampKinds {
			kinds := [3]int{n % 3, n / 3 % 3, n / 9}
			for houses := house + 1; houses <= 3; houses++ {
				for need := range 3 {
					choose++
					other := q.changedBy(func(q *query) {
						q.trust.Roots, q.trust.Need = q.trust.Roots[:houses], need
						q.whole.Stamps = stampsOfKinds(t, kinds, wrong, choose, q.whole.Seal.Head)
					})
					count, want := countOf(kinds, houses, house), 0
					if count < need {
						want = impl.WholeStamps
					}
					hasCode(t, "stamps of these kinds", other, want)
					seen[[2]int{count, need}]++
				}
			}
		}
	}
	for count := range 3 {
		for need := range 3 {
			if seen[[2]int{count, need}] == 0 {
				t.Errorf("%d right ones, where %d are wanted, never were", count, need)
			}
		}
	}
}

func TestVerifyOfStampsThatDontCount(t *testing.T) {
	q := queryOf(t, leavesFrom(3), "nobody", 2, 1, 2)
	h := q.whole.Seal.Head
	for _, need := range []int{0, 1, 2} {
		want := impl.WholeStamps
		if need <= 1 {
			want = 0
		}
		for by := range 3 {
			for _, wrong := range wrongStamps(t, by, h) {
				stamps := []impl.Stamp{stampOf(t, 0, h), stampOf(t, 1, h)}
				if by < 2 {
					stamps[by] = wrong
				} else {
					stamps = append(stamps, wrong)
				}
				code := want
				if by == 0 && need > 0 {
					code = impl.WholeStamps
				}
				hasCode(t, "a stamp that is not StampOk", q.changedBy(func(q *query) { q.trust.Need, q.whole.Stamps = need, stamps }), code)
			}
		}
	}
}

// Whose stamp it is tells By alone; where no house is, a stamp that is right by one that there is doesn't count.
func TestVerifyOfStampsByNobody(t *testing.T) {
	q := queryOf(t, leavesFrom(3), "nobody", 1, 1, 2)
	h := q.whole.Seal.Head
	sigs := []impl.Sig{stampOf(t, 0, h).Sig, stampOf(t, 1, h).Sig, stampOf(t, 2, h).Sig}
	for _, low := range []int{-1, -2, -255, -256, -3, math.MinInt} {
		for _, high := range []int{3, 4, 256, 257, 258, 1 << 32, math.MaxInt} {
			for _, sig := range sigs {
				nobody := q.changedBy(func(q *query) {
					q.whole.Stamps = []impl.Stamp{{By: low, Sig: sig}, {By: high, Sig: sig}}
					q.trust.Need = 1
				})
				hasCode(t, "stamps by nobody", nobody, impl.WholeStamps)
				nobody.trust.Need = 0
				hasCode(t, "stamps by nobody that nobody wants", nobody, 0)
				among := nobody.changedBy(func(q *query) {
					q.whole.Stamps = slices.Insert(q.whole.Stamps, 1, stampOf(t, 0, h), stampOf(t, 1, h), stampOf(t, 2, h))
					q.trust.Need = 2
				})
				hasCode(t, "stamps by nobody among right ones", among, 0)
			}
		}
	}
}

// Verify has no limit of how many there are.
func TestVerifyOfManyStamps(t *testing.T) {
	q := queryOf(t, leavesFrom(3), "nobody", 1, 1, 2, 0, 2)
	h := q.whole.Seal.Head
	var many []impl.Stamp
	for by := -300; by < 300; by++ {
		s := impl.Stamp{By: by, Sig: q.whole.Stamps[0].Sig}
		if by >= 0 && by < 3 {
			s = stampOf(t, by, h)
		}
		many = append(many, s)
	}
	hasCode(t, "many stamps", q.changedBy(func(q *query) { q.whole.Stamps = many }), 0)
	without := slices.Delete(slices.Clone(many), 302, 303)
	hasCode(t, "many stamps without one that is wanted", q.changedBy(func(q *query) { q.whole.Stamps = without }), impl.WholeStamps)
	alike := slices.Insert(slices.Clone(many), 0, many[0])
	hasCode(t, "many stamps, two alike", q.changedBy(func(q *query) { q.whole.Stamps = alike }), impl.WholeForm)
}

// A trust in fewer houses wants no more stamps than these can give, or nothing passes.
func TestVerifyOfFewHouses(t *testing.T) {
	for houses := 1; houses <= 3; houses++ {
		for house := range houses {
			for need := range 3 {
				q := queryOf(t, leavesFrom(2), "nobody", 0, house, 1, otherHouses(house)...)
				q.trust.Roots, q.trust.Need = q.trust.Roots[:houses], need
				want := 0
				if need > houses-1 {
					want = impl.WholeStamps
				}
				hasCode(t, "all stamps that there can be", q, want)
			}
		}
	}
}

// Whoever has two houses' roots alike is two houses: By tells which one.
func TestVerifyOfRootsThatAreAlike(t *testing.T) {
	q := queryOf(t, leavesFrom(2), "nobody", 0, 1, 1)
	h := q.whole.Seal.Head
	q.trust = impl.Trust{Roots: []string{q.trust.Roots[1], q.trust.Roots[1], q.trust.Roots[1]}, Need: 2}
	own := stampOf(t, 1, h).Sig
	q.whole.Stamps = []impl.Stamp{{By: 0, Sig: own}, {By: 2, Sig: own}}
	hasCode(t, "stamps by roots that are alike", q, 0)
	q.whole.Stamps = []impl.Stamp{{By: 0, Sig: own}, {By: 1, Sig: own}}
	hasCode(t, "a stamp by the own house, and a right one", q, impl.WholeStamps)
}

// An empty bucket fits every name of its index, and says of each that it is not there.
func TestVerifyOfOtherNamesOfTheIndex(t *testing.T) {
	for _, k := range rightSplits() {
		q := aQuery(t, k)
		for i, name := range namesOfIndex(90, 6) {
			q.name = name
			hasCode(t, "another name of the index", q, 0)
			value, there, _ := impl.Verify(q.trust, q.house, q.name, q.epoch, q.whole)
			if there != (i < 2) || value != []string{"first", "second", "", "", "", ""}[i] {
				t.Errorf("of %q is said %q, %v", name, value, there)
			}
		}
	}
}

// A proof up to the root and one up to a part's, with the Tops, have the same hashes; each fits its own K alone.
func TestVerifyOfSidesCutElsewhere(t *testing.T) {
	for _, k := range rightSplits() {
		q := aQuery(t, k)
		all := slices.Concat(q.whole.Proof.Sides, q.whole.Tops)
		for count := range 9 {
			for trusted := range 3 {
				cut := q.changedBy(func(q *query) {
					q.whole.Proof.Sides, q.whole.Tops, q.trust.K = slices.Clone(all[:count]), slices.Clone(all[count:]), trusted
				})
				want := impl.WholeForm
				if count == 8-trusted {
					want = 0
				}
				hasCode(t, "sides cut elsewhere", cut, want)
			}
		}
	}
}

// numberOrText is a piece of a text: a number as it is written there, or what stands between numbers.
type numberOrText struct {
	isNumber bool
	n        int
	text     string
}

func numberPiece(n int) numberOrText {
	return numberOrText{isNumber: true, n: n, text: lengthByWords(n)}
}

func textPiece(text string) numberOrText {
	return numberOrText{text: text}
}

func textOfPieces(pieces []numberOrText) string {
	var out strings.Builder
	for _, p := range pieces {
		out.WriteString(p.text)
	}
	return out.String()
}

func proofPieces(p impl.Proof) []numberOrText {
	pieces := []numberOrText{numberPiece(len(p.Bucket))}
	for _, l := range p.Bucket {
		pieces = append(pieces, numberPiece(len(l.Name)), textPiece(l.Name), numberPiece(len(l.Value)), textPiece(l.Value))
	}
	return append(pieces, numberPiece(len(p.Sides)), textPiece(strings.Join(p.Sides, "")))
}

func topPieces(tops []string) []numberOrText {
	return []numberOrText{numberPiece(len(tops)), textPiece(strings.Join(tops, ""))}
}

func sealPieces(s impl.Seal) []numberOrText {
	head := headTextByWords(s.Head)
	return []numberOrText{numberPiece(len(head)), textPiece(head), textPiece(sigTextOf(s.Sig))}
}

func stampPieces(list []impl.Stamp) []numberOrText {
	pieces := []numberOrText{numberPiece(len(list))}
	for _, s := range list {
		pieces = append(pieces, textPiece(string([]byte{byte(s.By)})+sigTextOf(s.Sig)))
	}
	return pieces
}

// behindLength has the length of these pieces ahead of them.
func behindLength(pieces []numberOrText) []numberOrText {
	return append([]numberOrText{numberPiece(len(textOfPieces(pieces)))}, pieces...)
}

func wholePieces(x impl.Whole) []numberOrText {
	return slices.Concat(behindLength(proofPieces(x.Proof)), topPieces(x.Tops), behindLength(sealPieces(x.Seal)), stampPieces(x.Stamps))
}

// wholeComesBack wants a whole proof to have the text that the words tell, and to be read from it as it is.
func wholeComesBack(t *testing.T, x impl.Whole) string {
	t.Helper()
	text, ok := impl.WholeText(x)
	if text != wholeTextByWords(x) || !ok {
		t.Fatalf("WholeText of %d leaves, %d sides, %d Tops, %d Stamps: %x, %v", len(x.Proof.Bucket), len(x.Proof.Sides), len(x.Tops), len(x.Stamps), text, ok)
	}
	if back, ok := impl.ReadWhole(text); !ok || !sameWhole(back, x) {
		t.Errorf("ReadWhole of the text of %d leaves, %d sides, %d Tops, %d Stamps: %v, %v", len(x.Proof.Bucket), len(x.Proof.Sides), len(x.Tops), len(x.Stamps), back, ok)
	}
	return text
}

// wholeTextByChapters puts the text together of the other chapters' texts.
func wholeTextByChapters(x impl.Whole) string {
	proof, _ := impl.ProofText(x.Proof, impl.HashWide)
	text, _ := impl.ShortText(proof)
	count, _ := impl.VarText(len(x.Tops))
	text += count + strings.Join(x.Tops, "")
	seal, _ := impl.SealText(x.Seal)
	short, _ := impl.ShortText(seal)
	count, _ = impl.VarText(len(x.Stamps))
	text += short + count
	for _, s := range x.Stamps {
		sig, _ := impl.SigText(s.Sig)
		text += string([]byte{byte(s.By)}) + sig
	}
	return text
}

func TestWholeProofsComeBackFromTheirTexts(t *testing.T) {
	for _, list := range fewTreeLists() {
		for i, name := range namesAlong(list) {
			for _, k := range rightSplits() {
				house := (i + k) % 3
				q := queryOf(t, list, name, k, house, i%4+1, otherHouses(house)[:i%3]...)
				text := wholeComesBack(t, q.whole)
				if text != wholeTextByChapters(q.whole) {
					t.Errorf("the text of a whole proof of %q is not the chapters'", name)
				}
				q.whole, _ = impl.ReadWhole(text)
				hasCode(t, "what was read", q, 0)
			}
		}
	}
}

// someStamps are of every number, in any order, two alike among them: only Verify wants them to ascend.
func someStamps(t *testing.T) [][]impl.Stamp {
	t.Helper()
	h := aHeadEach()[6]
	a, b, c := stampOf(t, 0, h), stampOf(t, 1, h), stampOf(t, 2, h)
	keys := slices.Repeat([]string{strings.Repeat("\xff", 16)}, 8)
	odd := impl.Stamp{By: 2, Sig: impl.Sig{At: 15, Open: keys, Shut: keys, Sides: keys[:4]}}
	return [][]impl.Stamp{nil, {}, {a}, {c}, {odd}, {a, c}, {b, a}, {b, b}, {a, b, c}, {c, b, a}, {a, a, odd}, {odd, odd, odd}}
}

// A text tells what is there, whether it is right by any trust or not.
func TestWholeTextsOfWhatIsNotRight(t *testing.T) {
	var seals []impl.Seal
	for i, h := range aHeadEach() {
		s := signByWords("one", impl.PoolOf("one"), i, "something else")
		seals = append(seals, impl.Seal{Head: h, Sig: s})
	}
	tops := [][]string{nil, {}, {rootAt(0)}, {rootAt(1), rootAt(1)}, {strings.Repeat("\x00", 16), strings.Repeat("\xff", 16)}}
	stamps := someStamps(t)
	n := 0
	for _, name := range proofNames() {
		for _, p := range proofsFor(name, 16) {
			n++
			wholeComesBack(t, impl.Whole{Proof: p, Tops: tops[n%len(tops)], Seal: seals[n%len(seals)], Stamps: stamps[n%len(stamps)]})
		}
	}
	for _, list := range rightLists() {
		for _, top := range tops {
			for _, stamp := range stamps {
				wholeComesBack(t, impl.Whole{Proof: impl.Proof{Bucket: list}, Tops: top, Seal: seals[3], Stamps: stamp})
			}
		}
	}
}

// The digests were reckoned apart from this program and its tests.
func TestWholeProofsThatAreKnown(t *testing.T) {
	list := leavesOf("ann", "k1", "bob", "k2", "joe@x.org", "k3")
	for i, root := range []string{"30c941ac65e429557cb4d4eb8f3e19c9", "58aaaa0fbbaa10109c51a680513547f2", "d62339bdb73c0d23d3821fea54705b9c"} {
		isHash(t, "the root of a house's pool", trustOf(0, 0).Roots[i], unhexed(t, root))
	}
	for _, c := range []struct {
		name   string
		head   impl.Head
		by     []int
		sizes  [3]int
		wanted [3]string
	}{
		{"ann", impl.Head{House: 0, Epoch: 1}, []int{1, 2}, [3]int{1127, 1126, 1126}, [3]string{"21e4456936a8f7f288b39018ae51788a33ec7a6ba8a3547dc625bd3c535a2063", "27b2a44e57e72b96f8b24339ef10c9720fa566ad51f3a4e247fe9a22c2df4e24", "d2c269b895b5d0978db22f45b157981a1658ca0b937445cccf8f7c554383dfdc"}},
		{"nobody", impl.Head{House: 1, Epoch: 2, Prev: "0123456789abcdef"}, []int{0, 2}, [3]int{1136, 1135, 1135}, [3]string{"c4de425af6584d9401249a604a493c7f9c02c0bf3913787ce05de4ec360fe8c3", "9255f5332abe20cc122471f7c07be2404d1033590ef49f888341198e46eb1e5a", "d72db2fc422b5072334471a86fa92ca6b5ac0cc7809379b445bd76701af651d1"}},
		{"joe@x.org", impl.Head{House: 2, Epoch: 4, Prev: "fedcba9876543210"}, nil, [3]int{505, 504, 504}, [3]string{"0d50e64fe4d19c0783b90e5395dd64a3b64c419dfc5818ac66f34a0f1dbe7b86", "d13fc5c185da8789fd46c64e5808e3436cafefa77ebb4f89d4c7f3f33613ffc7", "a174dcce086f5728e79e7fa9173062331ca53409d2314e486a1d8ef624fd84fe"}},
	} {
		for k := range 3 {
			q := queryOf(t, list, c.name, k, c.head.House, c.head.Epoch, c.by...)
			c.head.Root = q.whole.Seal.Root
			q.signAnew(t, c.head)
			hasCode(t, "a known one", q, 0)
			text, ok := impl.WholeText(q.whole)
			if len(text) != c.sizes[k] || hexDigest(text) != c.wanted[k] || !ok {
				t.Errorf("WholeText of %q, k %d: %d bytes, %s, %v", c.name, k, len(text), hexDigest(text), ok)
			}
		}
	}
}

func TestWholeTextOfLimits(t *testing.T) {
	x := aQuery(t, 2).whole
	for count := range 5 {
		y := wholeCopy(x)
		y.Tops = sidesFrom(count, 16)
		if count <= impl.MaxSplit {
			wholeComesBack(t, y)
		} else {
			noWholeText(t, "too many Tops", y)
		}
	}
	for count := range 6 {
		y := wholeCopy(x)
		y.Stamps = slices.Repeat(y.Stamps[:1], count)
		if count <= impl.MaxHouses {
			wholeComesBack(t, y)
		} else {
			noWholeText(t, "too many Stamps", y)
		}
	}
	for at := range x.Stamps {
		for by := range impl.MaxHouses {
			y := wholeCopy(x)
			y.Stamps[at].By = by
			wholeComesBack(t, y)
		}
		for _, by := range append(wrongHouses(), -1, impl.MaxHouses) {
			y := wholeCopy(x)
			y.Stamps[at].By = by
			noWholeText(t, "a stamp by nobody", y)
		}
	}
	for at := range x.Tops {
		for _, width := range wrongHashWidths() {
			y := wholeCopy(x)
			y.Tops[at] = turning(40)[:width]
			noWholeText(t, "one of the Tops of another width", y)
		}
	}
	noWholeText(t, "a lone one of the Tops that is empty", impl.Whole{Seal: x.Seal, Tops: []string{""}})
}

func TestWholeTextOfPartsWithoutText(t *testing.T) {
	x := aQuery(t, 2).whole
	wholeComesBack(t, impl.Whole{Seal: x.Seal})
	noWholeText(t, "nothing", impl.Whole{})
	noWholeText(t, "all but a seal", impl.Whole{Proof: x.Proof, Tops: x.Tops, Stamps: x.Stamps})
	for _, list := range wrongLists() {
		y := wholeCopy(x)
		y.Proof.Bucket = list
		noWholeText(t, "a bucket that is not right", y)
	}
	for count := range 12 {
		y := wholeCopy(x)
		y.Proof.Sides = sidesFrom(count, 16)
		if count <= impl.Depth {
			wholeComesBack(t, y)
		} else {
			noWholeText(t, "too many sides", y)
		}
	}
	for at := range x.Proof.Sides {
		for _, width := range wrongHashWidths() {
			y := wholeCopy(x)
			y.Proof.Sides[at] = turning(40)[:width]
			noWholeText(t, "a side of another width", y)
		}
	}
	for _, h := range wrongHeads() {
		noWholeText(t, "a head that is not right", impl.Whole{Proof: x.Proof, Seal: impl.Seal{Head: h, Sig: x.Seal.Sig}})
	}
	for _, sig := range shapedOtherwise(x.Seal.Sig) {
		y := wholeCopy(x)
		y.Seal.Sig = sig
		noWholeText(t, "a seal of another form", y)
	}
	for at := range x.Stamps {
		for _, sig := range shapedOtherwise(x.Stamps[at].Sig) {
			y := wholeCopy(x)
			y.Stamps[at].Sig = sig
			noWholeText(t, "a stamp of another form", y)
		}
		for _, place := range wrongPlaces() {
			y := wholeCopy(x)
			y.Stamps[at].Sig.At = place
			noWholeText(t, "a stamp at no place", y)
		}
	}
}

// writtenWholes are short and long ones, with and without each thing.
func writtenWholes(t *testing.T) []impl.Whole {
	t.Helper()
	list := []impl.Whole{{Seal: sealOf(t, 0, aHeadEach()[0])}, {Seal: sealOf(t, 0, aHeadEach()[3]), Tops: []string{rootAt(0)}}}
	for k := range 3 {
		list = append(list, aQuery(t, k).whole)
	}
	full := impl.Whole{Proof: impl.Proof{Bucket: edgeLeaves(), Sides: sidesFrom(8, 16)}, Tops: sidesFrom(2, 16), Seal: list[2].Seal, Stamps: someStamps(t)[8]}
	return append(list, full)
}

func TestReadWholeOfCutsAndMore(t *testing.T) {
	for _, x := range writtenWholes(t) {
		text := wholeComesBack(t, x)
		for size := range len(text) {
			refusesWhole(t, "the beginning of a text", text[:size])
			refusesWhole(t, "the end of a text", text[size+1:])
		}
		for b := range 256 {
			refusesWhole(t, "a byte more", text+string([]byte{byte(b)}))
		}
		for _, more := range []string{"\x00", "\x01", "\xff", turning(16), turning(322), text} {
			refusesWhole(t, "a text and more", text+more)
			refusesWhole(t, "more and a text", more+text)
		}
	}
	refusesWhole(t, "no text", "")
	for _, size := range []int{1, 2, 100, 1000, impl.MaxText, impl.MaxText + 1, 10 * impl.MaxText} {
		refusesWhole(t, "bytes that are no text of it", turning(size))
		refusesWhole(t, "bytes 0", strings.Repeat("\x00", size))
		refusesWhole(t, "bytes 255", strings.Repeat("\xff", size))
	}
}

// longerForms are of a number that is written as this.
func longerForms(written string) []string {
	last := len(written) - 1
	goes := written[:last] + string([]byte{written[last] + 128})
	return []string{goes + "\x00", goes + "\x80\x00", goes + "\x80\x80\x00", goes + "\x80\x80\x80\x00", goes + "\x80\x80\x80\x80\x00", goes}
}

// withPiece is the text with another piece at a place.
func withPiece(pieces []numberOrText, at int, text string) []numberOrText {
	other := slices.Clone(pieces)
	other[at].text = text
	return other
}

// otherNumbers are what a number could be written as, but as it is.
func otherNumbers(p numberOrText) []string {
	list := append(longerForms(p.text), lengthByWords(p.n+1), lengthByWords(p.n+2), lengthByWords(p.n+128), "\x80\x94\xeb\xdc\x03", "\x81\x94\xeb\xdc\x03", "")
	if p.n > 0 {
		list = append(list, lengthByWords(p.n-1), "\x00")
	}
	return list
}

func TestReadWholeOfOtherNumbers(t *testing.T) {
	for _, x := range writtenWholes(t) {
		pieces := wholePieces(x)
		for at, p := range pieces {
			if !p.isNumber {
				continue
			}
			for _, other := range otherNumbers(p) {
				text := textOfPieces(withPiece(pieces, at, other))
				refusesWhole(t, "another number, or another form of it", text)
				readsWholeByWords(t, text)
			}
		}
	}
}

// The lengths of proof and seal fit again here, and what stands within them does not.
func TestReadWholeOfOtherNumbersWithin(t *testing.T) {
	for _, x := range writtenWholes(t) {
		proof, seal := proofPieces(x.Proof), sealPieces(x.Seal)
		for at, p := range proof {
			if !p.isNumber {
				continue
			}
			for _, other := range otherNumbers(p) {
				within := behindLength(withPiece(proof, at, other))
				text := textOfPieces(slices.Concat(within, topPieces(x.Tops), behindLength(seal), stampPieces(x.Stamps)))
				refusesWhole(t, "another number in the proof", text)
			}
		}
		for _, other := range otherNumbers(seal[0]) {
			within := behindLength(withPiece(seal, 0, other))
			text := textOfPieces(slices.Concat(behindLength(proof), topPieces(x.Tops), within, stampPieces(x.Stamps)))
			refusesWhole(t, "another number in the seal", text)
		}
	}
}

// Each of these has all its lengths and numbers as they must be, and one thing beyond what WholeText writes.
func TestReadWholeOfWhatHasNoText(t *testing.T) {
	x := aQuery(t, 2).whole
	refuses := func(what string, change func(*impl.Whole)) {
		t.Helper()
		y := wholeCopy(x)
		change(&y)
		refusesWhole(t, what, wholeTextByWords(y))
	}
	for count := 3; count < 6; count++ {
		refuses("too many Tops", func(y *impl.Whole) { y.Tops = sidesFrom(count, 16) })
	}
	for count := 4; count < 7; count++ {
		refuses("too many Stamps", func(y *impl.Whole) { y.Stamps = slices.Repeat(y.Stamps[:1], count) })
	}
	for by := impl.MaxHouses; by < 256; by++ {
		refuses("a stamp by nobody", func(y *impl.Whole) { y.Stamps[by%2].By = by })
	}
	for at := impl.PoolSize; at < 256; at++ {
		refuses("a stamp at no place", func(y *impl.Whole) { y.Stamps[at%2].Sig.At = at })
		refuses("a seal at no place", func(y *impl.Whole) { y.Seal.Sig.At = at })
	}
	for _, list := range wrongLists() {
		refuses("a bucket that is not right", func(y *impl.Whole) { y.Proof.Bucket = list })
	}
	for count := 9; count < 12; count++ {
		refuses("too many sides", func(y *impl.Whole) { y.Proof.Sides = sidesFrom(count, 16) })
	}
	for _, h := range wrongHeads() {
		if _, right := readHeadByWords(headTextByWords(h)); !right {
			refuses("a head that is not right", func(y *impl.Whole) { y.Seal.Head = h })
		}
	}
	for _, width := range []int{0, 15, 17, 32} {
		refuses("one of the Tops of another width", func(y *impl.Whole) { y.Tops[1] = turning(40)[:width] })
		refuses("a side of another width", func(y *impl.Whole) { y.Proof.Sides[0] = turning(40)[:width] })
		refuses("a stamp's key of another width", func(y *impl.Whole) { y.Stamps[0].Sig.Open[3] = turning(40)[:width] })
		refuses("a seal's key of another width", func(y *impl.Whole) { y.Seal.Sig.Sides[3] = turning(40)[:width] })
	}
}

// What stands in a proof's or a seal's place is just one, with nothing behind it.
func TestReadWholeOfMoreWithin(t *testing.T) {
	x := aQuery(t, 1).whole
	proof, seal := textOfPieces(proofPieces(x.Proof)), textOfPieces(sealPieces(x.Seal))
	tops, stamps := textOfPieces(topPieces(x.Tops)), textOfPieces(stampPieces(x.Stamps))
	short := func(text string) string { return lengthByWords(len(text)) + text }
	if text := short(proof) + tops + short(seal) + stamps; !readsWholeByWords(t, text) || text != wholeTextByWords(x) {
		t.Fatal("what is put together is no text of it")
	}
	for _, more := range []string{"\x00", "\xff", turning(16)} {
		refusesWhole(t, "more in the proof", short(proof+more)+tops+short(seal)+stamps)
		refusesWhole(t, "more in the seal", short(proof)+tops+short(seal+more)+stamps)
		refusesWhole(t, "more behind the proof", short(proof)+more+tops+short(seal)+stamps)
		refusesWhole(t, "more behind the Tops", short(proof)+tops+more+short(seal)+stamps)
		refusesWhole(t, "more behind the seal", short(proof)+tops+short(seal)+more+stamps)
	}
	refusesWhole(t, "a proof of a byte less", short(proof[:len(proof)-1])+tops+short(seal)+stamps)
	refusesWhole(t, "a seal of a byte less", short(proof)+tops+short(seal[:len(seal)-1])+stamps)
	refusesWhole(t, "an empty proof", short("")+tops+short(seal)+stamps)
	refusesWhole(t, "an empty seal", short(proof)+tops+short("")+stamps)
	refusesWhole(t, "no Tops", short(proof)+short(seal)+stamps)
	refusesWhole(t, "no stamps", short(proof)+tops+short(seal))
	refusesWhole(t, "seal and proof swapped", short(seal)+tops+short(proof)+stamps)
	refusesWhole(t, "without lengths", proof+tops+seal+stamps)
	refusesWhole(t, "stamps ahead of the seal", short(proof)+tops+stamps+short(seal))
}

// cutShort takes a text off, behind its length of at most three bytes.
func cutShort(text string) (string, string, bool) {
	for size := 1; size <= 3 && size <= len(text); size++ {
		n := 0
		for i := size - 1; i >= 0; i-- {
			n = 128*n + int(text[i])%128
		}
		if rest := text[size:]; lengthByWords(n) == text[:size] && n <= len(rest) && n <= 20000 {
			return rest[:n], rest[n:], true
		}
	}
	return "", "", false
}

// cutCounted takes so many pieces of one size off, behind their number, which is one byte.
func cutCounted(text string, limit, size int) ([]string, string, bool) {
	if text == "" || int(text[0]) > limit || len(text) < 1+int(text[0])*size {
		return nil, "", false
	}
	count, rest := int(text[0]), text[1:]
	var list []string
	for i := range count {
		list = append(list, rest[i*size:(i+1)*size])
	}
	return list, rest[count*size:], true
}

func readStampByWords(text string) (impl.Stamp, bool) {
	s := impl.Stamp{By: int(text[0]), Sig: impl.Sig{At: int(text[1])}}
	for i := range 20 {
		key := text[2+16*i : 18+16*i]
		lists := sigLists(&s.Sig)
		list := lists[min(i/8, 2)]
		*list = append(*list, key)
	}
	return s, s.By < 3 && s.Sig.At < 16
}

func readWholeByWords(text string) (impl.Whole, bool) {
	var x impl.Whole
	proof, rest, ok := cutShort(text)
	if !ok {
		return x, false
	}
	if x.Proof, ok = readProofByWords(proof, 16); !ok {
		return x, false
	}
	if x.Tops, rest, ok = cutCounted(rest, 2, 16); !ok {
		return x, false
	}
	seal, rest, ok := cutShort(rest)
	if !ok {
		return x, false
	}
	if x.Seal, ok = readSealByWords(seal); !ok {
		return x, false
	}
	stamps, rest, ok := cutCounted(rest, 3, 322)
	for _, one := range stamps {
		s, right := readStampByWords(one)
		x.Stamps = append(x.Stamps, s)
		ok = ok && right
	}
	return x, ok && rest == ""
}

// readsWholeByWords is whether there is a whole proof, too: whatever bytes are taken are the WholeText of what is answered.
func readsWholeByWords(t *testing.T, text string) bool {
	t.Helper()
	want, right := readWholeByWords(text)
	if !right {
		refusesWhole(t, "what no whole proof has as its text", text)
		return false
	}
	x, ok := impl.ReadWhole(text)
	if !ok || !sameWhole(x, want) {
		t.Errorf("ReadWhole of %x: %v, %v", text, x, ok)
	}
	if back, ok := impl.WholeText(x); !ok || back != text {
		t.Errorf("WholeText of what ReadWhole took %x to be: %x, %v", text, back, ok)
	}
	return true
}

// turnsAt turns a place of a text by every so manyth byte.
func turnsAt(t *testing.T, text string, at, step int) {
	t.Helper()
	for by := 1; by < 256; by += step {
		readsWholeByWords(t, turned(text, at, byte(by)))
	}
}

// Numbers, and what stands first behind them (but in names and values), are turned to every byte, all else to a few.
func TestReadWholeWithAByteTurned(t *testing.T) {
	for _, x := range writtenWholes(t) {
		text, place := wholeTextByWords(x), 0
		for _, p := range wholePieces(x) {
			for at := range len(p.text) {
				if p.isNumber || at < 2 && len(p.text) > impl.MaxName {
					turnsAt(t, text, place+at, 1)
				} else {
					turnsAt(t, text, place+at, 101)
				}
			}
			place += len(p.text)
		}
	}
}

// drawnWhole is a text that was one of a whole proof, with some of it changed, cut out, doubled, or taken from another.
func drawnWhole(state *uint64, texts []string) string {
	text := texts[drawn(state, len(texts))]
	for range drawn(state, 4) {
		at := drawn(state, len(text)+1)
		end := min(len(text), at+drawn(state, 20))
		other := texts[drawn(state, len(texts))]
		switch drawn(state, 6) {
		case 0:
			text = text[:at] + text[end:]
		case 1:
			text = text[:end] + text[at:]
		case 2:
			text = text[:at] + other[min(at, len(other)):]
		case 3:
			text = text[:at] + string([]byte{byte(drawn(state, 256))}) + text[min(at+1, len(text)):]
		case 4:
			low := min(drawn(state, 20), len(text))
			text = text[:low] + string([]byte{byte(drawn(state, 20))}) + text[min(low+1, len(text)):]
		case 5:
			back := len(text) - min(322*drawn(state, 4), len(text))
			text = text[:back] + string([]byte{byte(drawn(state, 5))}) + text[min(back+1, len(text)):]
		}
	}
	return text
}

// Whatever bytes ReadWhole takes are the WholeText of what it answers.
func TestReadWholeOfDrawnTexts(t *testing.T) {
	var texts []string
	for _, x := range writtenWholes(t) {
		texts = append(texts, wholeTextByWords(x))
	}
	for _, stamps := range someStamps(t) {
		texts = append(texts, wholeTextByWords(impl.Whole{Seal: sealOf(t, 2, aHeadEach()[10]), Stamps: stamps}))
	}
	state := uint64(15)
	taken, refused := 0, 0
	for range 20000 {
		if readsWholeByWords(t, drawnWhole(&state, texts)) {
			taken++
		} else {
			refused++
		}
	}
	if taken < 1000 || refused < 1000 {
		t.Errorf("%d of the drawn texts are taken, %d refused", taken, refused)
	}
}

// ownWhole has all its texts in memory of its own, and shares no list.
func ownWhole(x impl.Whole) impl.Whole {
	x = wholeCopy(x)
	for i, l := range x.Proof.Bucket {
		x.Proof.Bucket[i] = impl.Leaf{Name: strings.Clone(l.Name), Value: strings.Clone(l.Value)}
	}
	x.Seal.Root, x.Seal.Prev = strings.Clone(x.Seal.Root), strings.Clone(x.Seal.Prev)
	for _, list := range wholeLists(&x) {
		for i, text := range *list {
			(*list)[i] = strings.Clone(text)
		}
	}
	return x
}

// textsOfWhole are list by list.
func textsOfWhole(x impl.Whole) [][]string {
	lists := [][]string{textsOfLeaves(x.Proof.Bucket), textsOfHeads(x.Seal.Head)}
	for _, list := range wholeLists(&x) {
		lists = append(lists, *list)
	}
	return lists
}

func TestWholeProofsAnswerNewMemory(t *testing.T) {
	for _, written := range writtenWholes(t) {
		x := ownWhole(written)
		text, _ := impl.WholeText(x)
		noneShares(t, "a text and its whole proof", []string{text}, slices.Concat(textsOfWhole(x)...))
		read, _ := impl.ReadWhole(text)
		noneShares(t, "what was read and its text", slices.Concat(textsOfWhole(read)...), []string{text})
		lists := textsOfWhole(read)
		for i := range lists {
			for j := range i {
				noneShares(t, "two lists of what was read", lists[i], lists[j])
			}
		}
		again, _ := impl.ReadWhole(text)
		ownRoom(t, &read)
		if !sameWhole(read, x) || !sameWhole(again, x) || !sameWhole(x, written) {
			t.Error("what was read goes with another")
		}
	}
	for _, k := range rightSplits() {
		q := aQuery(t, k)
		q.whole, q.name = ownWhole(q.whole), strings.Clone(q.name)
		value, _, _ := impl.Verify(q.trust, q.house, q.name, q.epoch, q.whole)
		noneShares(t, "what is said and the whole proof", []string{value}, append(slices.Concat(textsOfWhole(q.whole)...), q.name))
		if value != "second" {
			t.Errorf("it says %q", value)
		}
	}
}

// ownRoom writes into the spare room of every list, and wants all of them to stay as they are.
func ownRoom(t *testing.T, x *impl.Whole) {
	t.Helper()
	kept := wholeCopy(*x)
	for _, list := range wholeLists(x) {
		room := (*list)[:cap(*list)]
		for i := len(*list); i < len(room); i++ {
			room[i] = "spare"
		}
		_ = append(*list, "more")
	}
	_ = append(x.Proof.Bucket, impl.Leaf{Name: "more"})
	_ = append(x.Stamps, impl.Stamp{By: 77})
	if !sameWhole(*x, kept) {
		t.Error("two lists of a whole proof share their room")
	}
	for i, list := range wholeLists(x) {
		was := slices.Clone(*list)
		clear(*list)
		for j, other := range wholeLists(x) {
			if i != j && !slices.Equal(*other, *wholeLists(&kept)[j]) {
				t.Error("two lists of a whole proof share their places")
			}
		}
		copy(*list, was)
	}
}

// roomy has spare room behind each list, with something in it.
func roomy(q query) query {
	q = q.changedBy()
	for _, list := range append(wholeLists(&q.whole), &q.trust.Roots) {
		*list = append(*list, "spare", "room")
	}
	q.whole.Proof.Bucket = append(q.whole.Proof.Bucket, impl.Leaf{Name: "spare", Value: "room"})
	q.whole.Stamps = append(q.whole.Stamps, impl.Stamp{By: 77, Sig: impl.Sig{At: 7}})
	return q
}

// inRoom is what was there ahead of roomy, as pieces of its lists.
func inRoom(q query) query {
	q.whole.Stamps = slices.Clone(q.whole.Stamps)
	for _, list := range append(wholeLists(&q.whole), &q.trust.Roots) {
		*list = (*list)[:max(0, len(*list)-2)]
	}
	q.whole.Proof.Bucket = q.whole.Proof.Bucket[:len(q.whole.Proof.Bucket)-1]
	q.whole.Stamps = q.whole.Stamps[:len(q.whole.Stamps)-1]
	return q
}

// What is handed in may be pieces of longer lists, whose spare room is somebody else's.
func TestWholeProofsWriteIntoNoSpareRoom(t *testing.T) {
	for _, k := range rightSplits() {
		q := aQuery(t, k)
		breaks := append(slices.Concat(otherBreaks(), sealBreaks(t), rootBreaks(t), stampBreaks(t)), breaking{"nothing", func(*query) {}})
		for _, b := range breaks {
			room := roomy(q.changedBy(b.change))
			kept := room.changedBy()
			given := inRoom(room)
			verifies(t, "pieces of longer lists", given)
			impl.TrustOk(given.trust)
			impl.WholeText(given.whole)
			if !sameWhole(room.whole, kept.whole) || !sameTrust(room.trust, kept.trust) {
				t.Fatalf("with %s what was handed in, or the room behind it, was written into", b.what)
			}
		}
	}
	x := aQuery(t, 2).whole
	room := append(slices.Clone(x.Stamps), impl.Stamp{By: 1, Sig: x.Stamps[0].Sig}, impl.Stamp{By: 9})
	for size := range len(room) + 1 {
		x.Stamps = room[:size]
		impl.WholeText(x)
		impl.Verify(trustOf(2, 2), 1, "ann", 3, x)
	}
	if room[2].By != 1 || room[3].By != 9 || !sameStamp(room[0], aQuery(t, 2).whole.Stamps[0]) {
		t.Error("stamps, or the room behind them, were written into")
	}
}

// An empty list and none are the same.
func TestWholeProofsWithEmptyLists(t *testing.T) {
	q := queryOf(t, nil, "ann", 0, 0, 1)
	for _, bucket := range [][]impl.Leaf{nil, {}} {
		for _, tops := range [][]string{nil, {}} {
			for _, stamps := range [][]impl.Stamp{nil, {}} {
				q.whole.Proof.Bucket, q.whole.Tops, q.whole.Stamps = bucket, tops, stamps
				hasCode(t, "empty lists", q, 0)
				wholeComesBack(t, q.whole)
			}
		}
	}
}

// Every call answers from what it is given alone: again the same, whatever was refused between.
func TestWholeProofsKeepNothing(t *testing.T) {
	for range 3 {
		for _, k := range rightSplits() {
			q := aQuery(t, k)
			hasCode(t, "the same again", q, 0)
			text := wholeComesBack(t, q.whole)
			refusesWhole(t, "a torn text between", text[:len(text)-1])
			hasCode(t, "another epoch between", q.changedBy(otherBreaks()[7].change), impl.WholeOther)
			hasCode(t, "the same again", q, 0)
			wholeComesBack(t, q.whole)
		}
	}
}
